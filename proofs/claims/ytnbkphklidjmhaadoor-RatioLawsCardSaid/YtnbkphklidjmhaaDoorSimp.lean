/- Plain mathematics: the simplest number between two others, as the program finds it, lies between them and is the simplest. Nothing of the program is named here. -/
namespace Go.Proofs.YtnbkphklidjmhaaDoor

def smp : Nat → Int → Int → Int → Int → Int × Int
  | 0, _, _, _, _ => (0, 1)
  | k + 1, p, q, r, s =>
    if (p / q + 1) * s < r then (p / q + 1, 1)
    else ((p / q) * (smp k s (r - (p / q) * s) q (p - (p / q) * q)).1 + (smp k s (r - (p / q) * s) q (p - (p / q) * q)).2,
      (smp k s (r - (p / q) * s) q (p - (p / q) * q)).1)

/-- What the arguments of a call have in common: p / q is less than r / s (where s = 0 is no upper end). -/
structure Ends (p q r s : Int) : Prop where
  q1 : 1 ≤ q
  s0 : 0 ≤ s
  lt : p * s < r * q

theorem fl (p q : Int) (h : 1 ≤ q) : (p / q) * q ≤ p ∧ p < (p / q) * q + q := by
  have h1 := Int.emod_nonneg p (show q ≠ 0 by omega)
  have h2 := Int.emod_lt_of_pos p (show 0 < q by omega)
  have h3 := Int.mul_ediv_add_emod p q
  have h4 := Int.mul_comm q (p / q)
  omega

/-- If no integer lies between them, the arguments of the call of itself are ends again, and lesser. -/
theorem Ends.next {p q r s : Int} (h : Ends p q r s) (hn : ¬ (p / q + 1) * s < r) :
    1 ≤ s ∧ 1 ≤ r - (p / q) * s ∧ r - (p / q) * s ≤ s ∧ 0 ≤ p - (p / q) * q ∧ p - (p / q) * q < q ∧ Ends s (r - (p / q) * s) q (p - (p / q) * q) := by
  obtain ⟨q1, s0, lt⟩ := h
  obtain ⟨f1, f2⟩ := fl p q q1
  generalize p / q = low at *
  have hs : 1 ≤ s := by
    rcases Int.lt_or_le 0 s with h | h
    · omega
    · exfalso
      have : s = 0 := by omega
      subst this
      have h0 : 0 < r * q := by simpa using lt
      have h1 : r ≤ 0 := by simpa using hn
      have h2 : r * q ≤ 0 * q := Int.mul_le_mul_of_nonneg_right h1 (by omega)
      omega
  have key : s * (p - low * q) < q * (r - low * s) := by grind
  have hr : 1 ≤ r - low * s := by
    rcases Int.lt_or_le 0 (r - low * s) with h | h
    · omega
    · exfalso
      have h1 : q * (r - low * s) ≤ q * 0 := Int.mul_le_mul_of_nonneg_left h (by omega)
      have h2 : 0 ≤ s * (p - low * q) := Int.mul_nonneg (by omega) (by omega)
      omega
  refine ⟨hs, hr, ?_, by omega, by omega, hr, by omega, key⟩
  grind

/-- The result lies between the ends, and nothing between them is simpler. -/
def Best (p q r s x y : Int) : Prop :=
  1 ≤ y ∧ p * y < x * q ∧ x * s < r * y ∧ ∀ u v : Int, 1 ≤ v → p * v < u * q → u * s < r * v → y ≤ v ∧ (y = v → x ≤ u) ∧ (0 ≤ p → x ≤ u)

theorem smp_best (k : Nat) : ∀ p q r s : Int, Ends p q r s → q + s ≤ k → Best p q r s (smp k p q r s).1 (smp k p q r s).2 := by
  induction k with
  | zero => intro p q r s h hk; have := h.q1; have := h.s0; omega
  | succ k ih =>
    intro p q r s h hk
    unfold smp
    by_cases hn : (p / q + 1) * s < r
    · rw [if_pos hn]
      obtain ⟨f1, f2⟩ := fl p q h.q1
      have q1 := h.q1
      generalize p / q = low at *
      refine ⟨by simp, by simp; grind, by simpa using hn, ?_⟩
      intro u v hv h1 h2
      have h3 : low * v < u := by
        rcases Int.lt_or_le (low * v) u with h | h
        · exact h
        · exfalso
          have a1 : u * q ≤ (low * v) * q := Int.mul_le_mul_of_nonneg_right h (by omega)
          have a2 : (low * q) * v ≤ p * v := Int.mul_le_mul_of_nonneg_right f1 (by omega)
          grind
      refine ⟨hv, ?_, ?_⟩
      · intro e
        have e : v = 1 := by simpa using e.symm
        subst e; simp at h3 ⊢; omega
      · intro hp
        have h0 : 0 ≤ low := by
          rcases Int.lt_or_le low 0 with h | h
          · exfalso
            have : low * q ≤ (-1) * q := Int.mul_le_mul_of_nonneg_right (by omega) (by omega)
            omega
          · exact h
        have : low * 1 ≤ low * v := Int.mul_le_mul_of_nonneg_left hv h0
        simp; omega
    · rw [if_neg hn]
      obtain ⟨s1, r1, r2, g0, g1, hE⟩ := h.next hn
      have q1 := h.q1
      have lt := h.lt
      obtain ⟨f1, f2⟩ := fl p q h.q1
      have IH := ih s (r - (p / q) * s) q (p - (p / q) * q) hE (by omega)
      generalize hden : (smp k s (r - (p / q) * s) q (p - (p / q) * q)).1 = den at *
      generalize hnum : (smp k s (r - (p / q) * s) q (p - (p / q) * q)).2 = num at *
      clear hden hnum ih
      generalize p / q = low at *
      obtain ⟨n1, b1, b2, mn⟩ := IH
      have d1 : 1 ≤ den := by
        rcases Int.lt_or_le 0 den with h | h
        · omega
        · exfalso
          have a1 : den * (r - low * s) ≤ 0 * (r - low * s) := Int.mul_le_mul_of_nonneg_right h (by omega)
          have a2 : 0 ≤ s * num := Int.mul_nonneg (by omega) (by omega)
          omega
      refine ⟨d1, ?_, ?_, ?_⟩
      · show p * den < (low * den + num) * q
        grind
      · show (low * den + num) * s < r * den
        grind
      · intro u v hv h1 h2
        show den ≤ v ∧ (den = v → low * den + num ≤ u) ∧ (0 ≤ p → low * den + num ≤ u)
        have ua : 1 ≤ u - low * v := by
          rcases Int.lt_or_le 0 (u - low * v) with h | h
          · omega
          · exfalso
            have a1 : (u - low * v) * q ≤ 0 * q := Int.mul_le_mul_of_nonneg_right h (by omega)
            have a2 : 0 ≤ v * (p - low * q) := Int.mul_nonneg (by omega) (by omega)
            grind
        obtain ⟨m1, m2, m3⟩ := mn v (u - low * v) ua (by grind) (by grind)
        have m4 := m3 (by omega)
        refine ⟨m4, ?_, ?_⟩
        · intro e; subst e; omega
        · intro hp
          have h0 : 0 ≤ low := by
            rcases Int.lt_or_le low 0 with h | h
            · exfalso
              have : low * q ≤ (-1) * q := Int.mul_le_mul_of_nonneg_right (by omega) (by omega)
              omega
            · exact h
          have : low * den ≤ low * v := Int.mul_le_mul_of_nonneg_left m4 h0
          omega

/-- The denominator is at most the sum of both. -/
theorem smp_den (k : Nat) (p q r s : Int) (h : Ends p q r s) (hk : q + s ≤ k) : 1 ≤ (smp k p q r s).2 ∧ (smp k p q r s).2 ≤ q + s := by
  obtain ⟨h1, _, _, h4⟩ := smp_best k p q r s h hk
  obtain ⟨q1, s0, lt⟩ := h
  exact ⟨h1, (h4 (p + r) (q + s) (by omega) (by grind) (by grind)).1⟩
end Go.Proofs.YtnbkphklidjmhaaDoor
