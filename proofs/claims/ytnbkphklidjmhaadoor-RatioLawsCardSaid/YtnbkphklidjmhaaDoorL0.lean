/- What the walks of RatioLaws have in common. -/
import Derived.Test.YtnbkphklidjmhaaDoorOth
import Derived.Test.YtnbkphklidjmhaaDoorMath4
import Derived.Deep.DeepCutAuto
namespace Go.Proofs.YtnbkphklidjmhaaDoor.Laws
open Go.Proofs.YtnbkphklidjmhaaDoor
open Go.RowKit

theorem cmp_sgn {n d m c : Int} (w : World) (hn : I64 n) (hd : I64 d) (hm : I64 m) (hc : I64 c) (v1 : vldB n d = true) (v2 : vldB m c = true) :
    Calls Tryd.prog 30 #[.agg #[.int .i64 n, .int .i64 d], .agg #[.int .i64 m, .int .i64 c]] w (Made (.tuple #[.int .i64 (sgn (n * c) (m * d)), .int .i64 0]) w) :=
  cmp_as w hn hd hm hc (by rw [v1, v2]; rfl) (by rw [v1, v2]; rfl)
theorem sgn_lt {x y : Int} : (decide (sgn x y < 0)) = decide (x < y) := by
  unfold sgn; split
  · rename_i h; simp [h]
  · split <;> simp <;> omega
theorem sgn_eq {x y : Int} : (sgn x y == 0) = decide (x = y) := by
  unfold sgn; split
  · rename_i h; simp; omega
  · split
    · simp; omega
    · simp; omega
/-- What Cmp says of two ratios, in three ways; equal ratios are the same. -/
theorem sgn_ways {n d m c : Int} (v1 : vldB n d = true) (v2 : vldB m c = true) :
    (decide (sgn (n * c) (m * d) < 0) = true ∧ (sgn (n * c) (m * d) == 0) = false ∧ ((n == m) = true → (d == c) = false)) ∨
    (decide (sgn (n * c) (m * d) < 0) = false ∧ (sgn (n * c) (m * d) == 0) = true ∧ (n == m) = true ∧ (d == c) = true) ∨
    (decide (sgn (n * c) (m * d) < 0) = false ∧ (sgn (n * c) (m * d) == 0) = false ∧ ((n == m) = true → (d == c) = false)) := by
  rw [sgn_lt, sgn_eq]
  by_cases h1 : n * c < m * d
  · left
    refine ⟨by simpa using h1, by simp; omega, fun h2 => ?_⟩
    rw [beq_eq_false_iff_ne]; intro h3
    rw [beq_iff_eq.1 h2, h3] at h1; omega
  · by_cases h2 : n * c = m * d
    · right; left
      obtain ⟨a, b⟩ := same_of v1 v2 h2
      exact ⟨by simp; omega, by simpa using h2, by simpa using a, by simpa using b⟩
    · right; right
      refine ⟨by simp; omega, by simpa using h2, fun h3 => ?_⟩
      rw [beq_eq_false_iff_ne]; intro h4
      apply h2; rw [beq_iff_eq.1 h3, h4]
/-- The sign of the difference is what Cmp says. -/
theorem sgn_diff {n d m c P Q E : Int} (v1 : vldB n d = true) (v2 : vldB m c = true) (i : Is (vldB n d && vldB m c) (n * c - m * d) (d * c) P Q E) (e : E = 0) :
    (decide (sgn (n * c) (m * d) < 0) = true → decide (P < 0) = true ∧ (P == 0) = false) ∧ ((sgn (n * c) (m * d) == 0) = true → decide (P < 0) = false ∧ (P == 0) = true) ∧
    (decide (sgn (n * c) (m * d) < 0) = false → (sgn (n * c) (m * d) == 0) = false → decide (P < 0) = false ∧ (P == 0) = false) := by
  subst e
  obtain ⟨s1, s2⟩ := sub_sign v1 v2 i
  rw [sgn_lt, sgn_eq]
  refine ⟨fun h => ?_, fun h => ?_, fun h h' => ?_⟩
  · have h := of_decide_eq_true h
    have := s1.2 h
    exact ⟨by simpa using this, by simp; omega⟩
  · have h := of_decide_eq_true h
    have := s2.2 h
    exact ⟨by simp; omega, by simpa using this⟩
  · have h := of_decide_eq_false h
    have h' := of_decide_eq_false h'
    exact ⟨by simp; rcases Int.lt_or_le P 0 with x | x; exact absurd (s1.1 x) h; exact x, by simp; intro x; exact h' (s2.1 x)⟩
/-- The text of x, and what Read returns of it. -/
theorem text_of {n d : Int} (w : World) (hF : Fit w) (hn : I64 n) (hd : I64 d) (v : vldB n d = true) : Calls Tryd.prog 34 #[.agg #[.int .i64 n, .int .i64 d]] w (Made (.tuple #[.string ⟨(txt n d).toArray⟩, .int .i64 0]) w) := by
  have h := text_any n d w hF hn hd
  rw [show okErr (vldB n d) = 0 by rw [v]; rfl] at h
  exact h
theorem read_of {n d : Int} (w : World) (hF : Fit w) (hn : I64 n) (hd : I64 d) (v : vldB n d = true) : Calls Tryd.prog 36 #[.string ⟨(txt n d).toArray⟩] w (Made (.tuple #[.agg #[.int .i64 n, .int .i64 d], .int .i64 0]) w) := by
  have h := read_any ⟨(txt n d).toArray⟩ w hF (by rw [sizeL]; have := txt_len n d hn hd; omega)
  obtain ⟨h1, h2, h3⟩ := text_read v
  rw [show (⟨(txt n d).toArray⟩ : ByteArray).data.toList = txt n d from by simp, h1, h2, h3] at h
  exact h
end Go.Proofs.YtnbkphklidjmhaaDoor.Laws
