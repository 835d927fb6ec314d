/- Plain mathematics of limits and ratios: a number meets a limit exactly if its negative does not meet the opposite; if x meets a and y meets b, x + y meets their sum. -/
import Derived.Test.YtbcafamgmdngpaaDoorLiMath2
import Derived.Test.YtbcafamgmdngpaaDoorLi2
import Derived.Test.YtbcafamgmdngpaaDoorRaMath2
namespace Go.Proofs.YtbcafamgmdngpaaDoor

theorem vld_negn {n d : Int} (v : vldB n d = true) : vldB (-n) d = true := by
  rw [← v]; unfold vldB; rw [Bool.eq_iff_iff]; simp; omega

/-- What meeting a limit other than none says, as an inequality. -/
theorem me_iff {n d l : Int} (v : vldB n d = true) (vl : lvB l = true) (nl : noB l = false) : meB n d l = true ↔ (l % 2 = 0 ∧ n < l / 2 * d) ∨ (¬ l % 2 = 0 ∧ n ≤ l / 2 * d) := by
  unfold meB mtB evB
  rw [v, vl, nl]
  by_cases e : l % 2 = 0 <;> simp [e]

theorem me_not {n d l : Int} (v : vldB n d = true) (vl : lvB l = true) (nl : noB l = false) : meB (-n) d (1 - l) = !meB n d l := by
  obtain ⟨v1, n1⟩ := nt_lv vl nl
  have h1 := me_iff v vl nl
  have h2 := me_iff (vld_negn v) v1 n1
  have key : (1 - l) / 2 = -(l / 2) := by omega
  rw [key, Int.neg_mul] at h2
  generalize l / 2 * d = k at h1 h2
  cases hm : meB n d l
  · rw [hm] at h1
    have : ¬ ((l % 2 = 0 ∧ n < k) ∨ (¬ l % 2 = 0 ∧ n ≤ k)) := fun h => by simpa using h1.2 h
    exact h2.2 (by omega)
  · have hp := h1.1 hm
    cases hq : meB (-n) d (1 - l)
    · rfl
    · have := h2.1 hq
      omega

/-- The sum of two fractions keeps to the sum of their bounds. -/
theorem sum_lt {n d m c P Q a b : Int} (hd : 1 ≤ d) (hc : 1 ≤ c) (hQ : 1 ≤ Q) (e : P * (d * c) = (n * c + m * d) * Q) (h1 : n ≤ a * d) (h2 : m ≤ b * c) :
    P ≤ (a + b) * Q ∧ (n < a * d ∨ m < b * c → P < (a + b) * Q) := by
  have k0 : 0 < d * c := Int.mul_pos (by omega) (by omega)
  have e2 : (a + b) * Q * (d * c) = (a * d * c + b * c * d) * Q := by grind
  have l1 : n * c ≤ a * d * c := Int.mul_le_mul_of_nonneg_right h1 (by omega)
  have l2 : m * d ≤ b * c * d := Int.mul_le_mul_of_nonneg_right h2 (by omega)
  constructor
  · have l3 : (n * c + m * d) * Q ≤ (a * d * c + b * c * d) * Q := Int.mul_le_mul_of_nonneg_right (by omega) (by omega)
    rw [← e, ← e2] at l3
    exact Int.le_of_mul_le_mul_right l3 k0
  · intro h
    have l3 : n * c + m * d < a * d * c + b * c * d := by
      rcases h with h | h
      · have : n * c < a * d * c := Int.mul_lt_mul_of_pos_right h (by omega)
        omega
      · have : m * d < b * c * d := Int.mul_lt_mul_of_pos_right h (by omega)
        omega
    have l4 : (n * c + m * d) * Q < (a * d * c + b * c * d) * Q := Int.mul_lt_mul_of_pos_right l3 (by omega)
    rw [← e, ← e2] at l4
    exact Int.lt_of_mul_lt_mul_right l4 (by omega)

theorem me_sum {n d m c a b : Int} (v1 : vldB n d = true) (v2 : vldB m c = true) (va : lvB a = true) (vb : lvB b = true) (h1 : meB n d a = true) (h2 : meB m c b = true)
    (g : mkErr (n * c + m * d) (d * c) = 0) (h : adE a b = 0) : meB (mkNum (n * c + m * d) (d * c)) (mkDen (n * c + m * d) (d * c)) (adL a b) = true ∧ meE (mkNum (n * c + m * d) (d * c)) (mkDen (n * c + m * d) (d * c)) (adL a b) = 0 := by
  obtain ⟨_, vS, eS⟩ := mk_ok g
  have vC := ad_lv va vb h
  refine ⟨?_, by simp [meE, vS, vC]⟩
  generalize mkNum (n * c + m * d) (d * c) = P at *
  generalize mkDen (n * c + m * d) (d * c) = Q at *
  obtain ⟨d1, _⟩ := vld_bd v1
  obtain ⟨c1, _⟩ := vld_bd v2
  obtain ⟨q1, _⟩ := vld_bd vS
  cases na : noB a
  · cases nb : noB b
    · obtain ⟨_, nC, dC, eC, _⟩ := ad_ok va vb na nb h
      rw [me_iff vS vC nC, dC]
      have p1 := (me_iff v1 va na).1 h1
      have p2 := (me_iff v2 vb nb).1 h2
      obtain ⟨s1, s2⟩ := sum_lt d1 c1 q1 eS (a := a / 2) (b := b / 2) (by omega) (by omega)
      have eC' : (adL a b % 2 = 0) ↔ (a % 2 = 0 ∨ b % 2 = 0) := by
        unfold evB at eC
        have := Bool.eq_iff_iff.1 eC
        simpa using this
      by_cases x : adL a b % 2 = 0
      · refine Or.inl ⟨x, s2 ?_⟩
        rcases eC'.1 x with y | y
        · left; omega
        · right; omega
      · exact Or.inr ⟨x, s1⟩
    · rw [(ad_none va vb (by simp [nb])).1]; simp [meB, mtB, vS, lv_noL, no_noL]
  · rw [(ad_none va vb (by simp [na])).1]; simp [meB, mtB, vS, lv_noL, no_noL]
end Go.Proofs.YtbcafamgmdngpaaDoor
