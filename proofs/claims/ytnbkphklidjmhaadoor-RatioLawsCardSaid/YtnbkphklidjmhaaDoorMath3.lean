/- Plain mathematics: the laws of sums and products of ratios, and the text of a ratio read back. -/
import Derived.Test.YtnbkphklidjmhaaDoorMath2
import Derived.Test.YtnbkphklidjmhaaDoorS4
namespace Go.Proofs.YtnbkphklidjmhaaDoor
open Go.RowKit

/-- What a call that makes a ratio returns: numerator, denominator, error. -/
def Is (v : Bool) (p q P Q E : Int) : Prop := opNum v p q = P ∧ opDen v p q = Q ∧ opErr v p q = E
theorem Is.any (v : Bool) (p q : Int) : ∃ P Q E, Is v p q P Q E := ⟨_, _, _, rfl, rfl, rfl⟩
theorem Is.bd {v : Bool} {p q P Q E : Int} (h : Is v p q P Q E) : I64 P ∧ I64 Q := by
  obtain ⟨rfl, rfl, _⟩ := h
  have h1 := mkNum_bd p q
  have h2 := mkDen_bd p q
  unfold opNum opDen I64
  cases v <;> simp <;> omega
theorem Is.ok {v : Bool} {p q P Q : Int} (h : Is v p q P Q 0) : v = true ∧ q ≠ 0 ∧ vldB P Q = true ∧ P * q = p * Q := by
  obtain ⟨rfl, rfl, h3⟩ := h
  unfold opErr at h3
  cases v
  · simp at h3
  · simp at h3
    obtain ⟨h1, h2, h4⟩ := mk_ok h3
    refine ⟨rfl, h1, ?_, ?_⟩
    · simpa [opNum, opDen] using h2
    · simpa [opNum, opDen] using h4
theorem Is.of {p q P Q : Int} (hv : vldB P Q = true) (hq : q ≠ 0) (e : P * q = p * Q) : Is true p q P Q 0 := by
  obtain ⟨h1, h2, h3⟩ := mk_is hv hq e
  exact ⟨by simp [opNum, h1], by simp [opDen, h2], by simp [opErr, h3]⟩
theorem Is.congr {v : Bool} {p q p' q' P Q E : Int} (h : Is v p q P Q E) (hq : q ≠ 0) (hq' : q' ≠ 0) (e : p * q' = p' * q) : Is v p' q' P Q E := by
  obtain ⟨h1, h2, h3⟩ := mk_congr hq hq' e
  obtain ⟨rfl, rfl, rfl⟩ := h
  unfold Is opNum opDen opErr
  rw [h1, h2, h3]; exact ⟨rfl, rfl, rfl⟩

theorem add_is {n d m c P Q E : Int} (w : World) (hn : I64 n) (hd : I64 d) (hm : I64 m) (hc : I64 c) (h : Is (vldB n d && vldB m c) (n * c + m * d) (d * c) P Q E) :
    Calls Tryd.prog 22 #[.agg #[.int .i64 n, .int .i64 d], .agg #[.int .i64 m, .int .i64 c]] w (Made (.tuple #[.agg #[.int .i64 P, .int .i64 Q], .int .i64 E]) w) := by
  obtain ⟨rfl, rfl, rfl⟩ := h; exact add_any n d m c w hn hd hm hc
theorem sub_is {n d m c P Q E : Int} (w : World) (hn : I64 n) (hd : I64 d) (hm : I64 m) (hc : I64 c) (h : Is (vldB n d && vldB m c) (n * c - m * d) (d * c) P Q E) :
    Calls Tryd.prog 24 #[.agg #[.int .i64 n, .int .i64 d], .agg #[.int .i64 m, .int .i64 c]] w (Made (.tuple #[.agg #[.int .i64 P, .int .i64 Q], .int .i64 E]) w) := by
  obtain ⟨rfl, rfl, rfl⟩ := h; exact sub_any n d m c w hn hd hm hc
theorem mul_is {n d m c P Q E : Int} (w : World) (hn : I64 n) (hd : I64 d) (hm : I64 m) (hc : I64 c) (h : Is (vldB n d && vldB m c) (n * m) (d * c) P Q E) :
    Calls Tryd.prog 26 #[.agg #[.int .i64 n, .int .i64 d], .agg #[.int .i64 m, .int .i64 c]] w (Made (.tuple #[.agg #[.int .i64 P, .int .i64 Q], .int .i64 E]) w) := by
  obtain ⟨rfl, rfl, rfl⟩ := h; exact mul_any n d m c w hn hd hm hc
theorem div_is {n d m c P Q E : Int} (w : World) (hn : I64 n) (hd : I64 d) (hm : I64 m) (hc : I64 c) (h : Is (vldB n d && vldB m c && !decide (m = 0)) (n * c) (d * m) P Q E) :
    Calls Tryd.prog 28 #[.agg #[.int .i64 n, .int .i64 d], .agg #[.int .i64 m, .int .i64 c]] w (Made (.tuple #[.agg #[.int .i64 P, .int .i64 Q], .int .i64 E]) w) := by
  obtain ⟨rfl, rfl, rfl⟩ := h; exact div_any n d m c w hn hd hm hc

theorem den_ne {n d m c : Int} (h1 : vldB n d = true) (h2 : vldB m c = true) : d * c ≠ 0 := by
  have := (vld_bd h1).1; have := (vld_bd h2).1
  intro e; rcases Int.mul_eq_zero.1 e with h | h <;> omega

theorem add_comm_is {n d m c P Q E : Int} (h : Is (vldB n d && vldB m c) (n * c + m * d) (d * c) P Q E) : Is (vldB m c && vldB n d) (m * d + n * c) (c * d) P Q E := by
  rw [Bool.and_comm, Int.add_comm, Int.mul_comm c d]; exact h
theorem mul_comm_is {n d m c P Q E : Int} (h : Is (vldB n d && vldB m c) (n * m) (d * c) P Q E) : Is (vldB m c && vldB n d) (m * n) (c * d) P Q E := by
  rw [Bool.and_comm, Int.mul_comm m n, Int.mul_comm c d]; exact h
theorem sub_back {n d m c P Q : Int} (h1 : vldB n d = true) (h2 : vldB m c = true) (h : Is (vldB n d && vldB m c) (n * c + m * d) (d * c) P Q 0) : Is (vldB P Q && vldB m c) (P * c - m * Q) (Q * c) n d 0 := by
  obtain ⟨_, hq, hv, e⟩ := h.ok
  rw [hv, h2]
  refine Is.of h1 (den_ne hv h2) ?_
  have : P * c * d = (n * c + m * d) * Q := by rw [← e]; ac_rfl
  grind
theorem div_back {n d m c P Q : Int} (h1 : vldB n d = true) (h2 : vldB m c = true) (h0 : m ≠ 0) (h : Is (vldB n d && vldB m c) (n * m) (d * c) P Q 0) : Is (vldB P Q && vldB m c && !decide (m = 0)) (P * c) (Q * m) n d 0 := by
  obtain ⟨_, hq, hv, e⟩ := h.ok
  rw [hv, h2, show decide (m = 0) = false by simpa using h0]
  have hQ := (vld_bd hv).1
  refine Is.of h1 (by intro x; rcases Int.mul_eq_zero.1 x with y | y <;> omega) ?_
  have : P * c * d = (n * m) * Q := by rw [← e]; ac_rfl
  grind
/-- Cmp agrees with the sign of the difference, and tells equal ratios. -/
theorem sub_sign {n d m c P Q : Int} (h1 : vldB n d = true) (h2 : vldB m c = true) (h : Is (vldB n d && vldB m c) (n * c - m * d) (d * c) P Q 0) : (P < 0 ↔ n * c < m * d) ∧ (P = 0 ↔ n * c = m * d) := by
  obtain ⟨_, hq, hv, e⟩ := h.ok
  have hQ := (vld_bd hv).1
  have hd := (vld_bd h1).1
  have hc := (vld_bd h2).1
  have hp : 0 < d * c := Int.mul_pos (by omega) (by omega)
  have k1 : P < 0 → n * c - m * d < 0 := neg_scale hp (by omega) e
  have k2 : n * c - m * d < 0 → P < 0 := neg_scale (by omega) hp e.symm
  refine ⟨⟨fun h => by have := k1 h; omega, fun h => k2 (by omega)⟩, ⟨fun h => ?_, fun h => ?_⟩⟩
  · rw [h, Int.zero_mul] at e
    rcases Int.mul_eq_zero.1 e.symm with y | y <;> omega
  · rw [show n * c - m * d = 0 by omega, Int.zero_mul] at e
    rcases Int.mul_eq_zero.1 e with y | y <;> omega
theorem same_of {n d m c : Int} (h1 : vldB n d = true) (h2 : vldB m c = true) (e : n * c = m * d) : n = m ∧ d = c := by
  have hd := (vld_bd h1).1
  obtain ⟨a1, a2, _⟩ := mk_self h1
  obtain ⟨b1, b2, _⟩ := mk_is h2 (a := n) (b := d) (by omega) e.symm
  exact ⟨by rw [← a1, b1], by rw [← a2, b2]⟩

theorem assoc_is {n d m c k l P Q P2 Q2 R S E : Int} (h1 : vldB n d = true) (h2 : vldB m c = true) (h3 : vldB k l = true)
    (a : Is (vldB n d && vldB m c) (n * c + m * d) (d * c) P Q 0) (b : Is (vldB m c && vldB k l) (m * l + k * c) (c * l) P2 Q2 0)
    (h : Is (vldB P Q && vldB k l) (P * l + k * Q) (Q * l) R S E) : Is (vldB n d && vldB P2 Q2) (n * Q2 + P2 * d) (d * Q2) R S E := by
  obtain ⟨_, _, hv, e⟩ := a.ok
  obtain ⟨_, _, hv2, e2⟩ := b.ok
  rw [hv, h3] at h
  rw [h1, hv2]
  refine h.congr (den_ne hv h3) (den_ne h1 hv2) ?_
  have hd := (vld_bd h1).1
  have hc := (vld_bd h2).1
  have hl := (vld_bd h3).1
  have x1 : P * c * d = (n * c + m * d) * Q := by rw [← e]; ac_rfl
  have x2 : P2 * c * l = (m * l + k * c) * Q2 := by rw [← e2]; ac_rfl
  have z : c * ((P * l + k * Q) * (d * Q2)) = c * ((n * Q2 + P2 * d) * (Q * l)) := by grind
  exact Int.eq_of_mul_eq_mul_left (by omega) z
theorem dist_is {n d m c k l P Q P5 Q5 P6 Q6 P7 Q7 : Int} (h1 : vldB n d = true) (h2 : vldB m c = true) (h3 : vldB k l = true)
    (b : Is (vldB m c && vldB k l) (m * l + k * c) (c * l) P Q 0) (h5 : Is (vldB n d && vldB P Q) (n * P) (d * Q) P5 Q5 0)
    (h6 : Is (vldB n d && vldB m c) (n * m) (d * c) P6 Q6 0) (h7 : Is (vldB n d && vldB k l) (n * k) (d * l) P7 Q7 0) :
    Is (vldB P6 Q6 && vldB P7 Q7) (P6 * Q7 + P7 * Q6) (Q6 * Q7) P5 Q5 0 := by
  obtain ⟨_, _, hv, e⟩ := b.ok
  obtain ⟨_, _, hv5, e5⟩ := h5.ok
  obtain ⟨_, _, hv6, e6⟩ := h6.ok
  obtain ⟨_, _, hv7, e7⟩ := h7.ok
  rw [hv6, hv7]
  refine Is.of hv5 (den_ne hv6 hv7) ?_
  have hd := (vld_bd h1).1
  have hc := (vld_bd h2).1
  have hl := (vld_bd h3).1
  have hQ := (vld_bd hv).1
  -- multiply by d, c, l and Q
  have x : (d * c * l * Q) * (P5 * (Q6 * Q7)) = (d * c * l * Q) * ((P6 * Q7 + P7 * Q6) * Q5) := by
    have y1 : (d * c * l * Q) * (P5 * (Q6 * Q7)) = (c * l) * (n * P * Q5) * (Q6 * Q7) := by rw [← e5]; ac_rfl
    have y2 : (c * l) * (n * P * Q5) * (Q6 * Q7) = n * ((m * l + k * c) * Q) * Q5 * (Q6 * Q7) := by rw [← e]; ac_rfl
    have y3 : (d * c * l * Q) * ((P6 * Q7 + P7 * Q6) * Q5) = (P6 * (d * c)) * l * Q * Q7 * Q5 + (P7 * (d * l)) * c * Q * Q6 * Q5 := by grind
    rw [y1, y2, y3, e6, e7]; grind
  have p0 : d * c * l * Q ≠ 0 := by
    have : 0 < d * c * l * Q := Int.mul_pos (Int.mul_pos (Int.mul_pos (by omega) (by omega)) (by omega)) (by omega)
    omega
  exact Int.eq_of_mul_eq_mul_left p0 x
end Go.Proofs.YtnbkphklidjmhaaDoor
