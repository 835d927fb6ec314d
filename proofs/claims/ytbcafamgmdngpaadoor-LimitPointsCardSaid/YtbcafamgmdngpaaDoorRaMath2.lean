/- Plain mathematics of ratios: what Make returns stands for the quotient. -/
import Derived.Test.YtbcafamgmdngpaaDoorRa1
namespace Go.Proofs.YtbcafamgmdngpaaDoor

theorem gcd_pos (a b : Int) (h : b ≠ 0) : 0 < Nat.gcd a.natAbs b.natAbs := Nat.gcd_pos_of_pos_right _ (by omega)

theorem top_mul (a b : Int) : top a b * Nat.gcd a.natAbs b.natAbs = a.natAbs := Nat.div_mul_cancel (Nat.gcd_dvd_left _ _)

theorem bot_mul (a b : Int) : bot a b * Nat.gcd a.natAbs b.natAbs = b.natAbs := Nat.div_mul_cancel (Nat.gcd_dvd_right _ _)

theorem tb_cop (a b : Int) (h : b ≠ 0) : Nat.gcd (top a b) (bot a b) = 1 := by
  unfold top bot
  exact Nat.Coprime.gcd_eq_one (Nat.coprime_div_gcd_div_gcd (gcd_pos a b h))

theorem bot_pos (a b : Int) (h : b ≠ 0) : 1 ≤ bot a b := by
  have h1 := bot_mul a b
  rcases Nat.eq_zero_or_pos (bot a b) with e | e
  · rw [e] at h1; omega
  · exact e

/-- Parts without a common divisor are those of the number. -/
theorem cop_unique {t u t' u' : Nat} (h : Nat.gcd t u = 1) (h' : Nat.gcd t' u' = 1) (e : t * u' = t' * u) : t = t' ∧ u = u' := by
  have d1 : t ∣ t' := Nat.Coprime.dvd_of_dvd_mul_right (show Nat.Coprime t u from h) (e ▸ Nat.dvd_mul_right t u')
  have d2 : t' ∣ t := Nat.Coprime.dvd_of_dvd_mul_right (show Nat.Coprime t' u' from h') (e ▸ Nat.dvd_mul_right t' u)
  have d3 : u ∣ u' := Nat.Coprime.dvd_of_dvd_mul_left (show Nat.Coprime u t from by rw [Nat.coprime_comm]; exact h) (e ▸ Nat.dvd_mul_left u t')
  have d4 : u' ∣ u := Nat.Coprime.dvd_of_dvd_mul_left (show Nat.Coprime u' t' from by rw [Nat.coprime_comm]; exact h') (e ▸ Nat.dvd_mul_left u' t)
  exact ⟨Nat.dvd_antisymm d1 d2, Nat.dvd_antisymm d3 d4⟩

theorem tb_congr {a b a' b' : Int} (hb : b ≠ 0) (hb' : b' ≠ 0) (e : a * b' = a' * b) : top a b = top a' b' ∧ bot a b = bot a' b' := by
  apply cop_unique (tb_cop a b hb) (tb_cop a' b' hb')
  have e1 : a.natAbs * b'.natAbs = a'.natAbs * b.natAbs := by rw [← Int.natAbs_mul, ← Int.natAbs_mul, e]
  have t1 := top_mul a b
  have t2 := bot_mul a b
  have t3 := top_mul a' b'
  have t4 := bot_mul a' b'
  have p := gcd_pos a b hb
  have p' := gcd_pos a' b' hb'
  have e2 : (Nat.gcd a.natAbs b.natAbs * Nat.gcd a'.natAbs b'.natAbs) * (top a b * bot a' b') = (Nat.gcd a.natAbs b.natAbs * Nat.gcd a'.natAbs b'.natAbs) * (top a' b' * bot a b) := by
    calc _ = top a b * Nat.gcd a.natAbs b.natAbs * (bot a' b' * Nat.gcd a'.natAbs b'.natAbs) := by ac_rfl
      _ = a.natAbs * b'.natAbs := by rw [t1, t4]
      _ = a'.natAbs * b.natAbs := e1
      _ = top a' b' * Nat.gcd a'.natAbs b'.natAbs * (bot a b * Nat.gcd a.natAbs b.natAbs) := by rw [t2, t3]
      _ = _ := by ac_rfl
  exact Nat.eq_of_mul_eq_mul_left (Nat.mul_pos p p') e2

theorem neg_iff {a b : Int} (ha : a ≠ 0) (hb : b ≠ 0) : (decide (a < 0) != decide (b < 0)) = decide (a * b < 0) := by
  rcases Int.lt_or_lt_of_ne ha with x | x <;> rcases Int.lt_or_lt_of_ne hb with y | y
  · have u : 0 < a * b := Int.mul_pos_of_neg_of_neg x y
    rw [Bool.eq_iff_iff]; simp; omega
  · have u : a * b < 0 := Int.mul_neg_of_neg_of_pos x y
    rw [Bool.eq_iff_iff]; simp; omega
  · have u : a * b < 0 := Int.mul_neg_of_pos_of_neg x y
    rw [Bool.eq_iff_iff]; simp; omega
  · have u : 0 < a * b := Int.mul_pos x y
    rw [Bool.eq_iff_iff]; simp; omega

theorem neg_scale {x y p q : Int} (hp : 0 < p) (hq : 0 < q) (e : x * p = y * q) (h : x < 0) : y < 0 := by
  have u : x * p < 0 := Int.mul_neg_of_neg_of_pos h hp
  rcases Int.lt_or_le y 0 with k | k
  · exact k
  · have : 0 ≤ y * q := Int.mul_nonneg k (by omega)
    omega

theorem sq_pos {b : Int} (hb : b ≠ 0) : 0 < b * b := by
  rcases Int.lt_or_lt_of_ne hb with x | x
  · exact Int.mul_pos_of_neg_of_neg x x
  · exact Int.mul_pos x x

theorem neg_congr {a b a' b' : Int} (hb : b ≠ 0) (hb' : b' ≠ 0) (e : a * b' = a' * b) (h0 : a ≠ 0) : (decide (a < 0) != decide (b < 0)) = (decide (a' < 0) != decide (b' < 0)) := by
  have h1 : a' ≠ 0 := by
    intro h
    rw [h, Int.zero_mul] at e
    rcases Int.mul_eq_zero.1 e with h | h
    · exact h0 h
    · exact hb' h
  rw [neg_iff h0 hb, neg_iff h1 hb']
  have k : (a * b) * (b' * b') = (a' * b') * (b * b) := by
    calc (a * b) * (b' * b') = (a * b') * (b * b') := by ac_rfl
      _ = (a' * b) * (b * b') := by rw [e]
      _ = _ := by ac_rfl
  rw [decide_eq_decide]
  exact ⟨neg_scale (sq_pos hb') (sq_pos hb) k, neg_scale (sq_pos hb) (sq_pos hb') k.symm⟩

/-- Equal numbers are made the same. -/
theorem mk_congr {a b a' b' : Int} (hb : b ≠ 0) (hb' : b' ≠ 0) (e : a * b' = a' * b) : mkNum a b = mkNum a' b' ∧ mkDen a b = mkDen a' b' ∧ mkErr a b = mkErr a' b' := by
  obtain ⟨e1, e2⟩ := tb_congr hb hb' e
  have ef : fits a b = fits a' b' := by unfold fits; rw [e1, e2]
  refine ⟨?_, ?_, ?_⟩
  · unfold mkNum
    rw [if_neg hb, if_neg hb', ef, e1]
    by_cases h0 : a = 0
    · have t0 : top a' b' = 0 := by rw [← e1, h0]; simp [top]
      rw [t0]; simp
    · rw [neg_congr hb hb' e h0]
  · unfold mkDen
    rw [if_neg hb, if_neg hb', ef, e2]
  · unfold mkErr
    rw [if_neg hb, if_neg hb', ef]

/-- A valid ratio is made of itself. -/
theorem mk_self {n d : Int} (h : vldB n d = true) : mkNum n d = n ∧ mkDen n d = d ∧ mkErr n d = 0 := by
  obtain ⟨h1, h2, h3, h4⟩ := vld_bd h
  have hg : Nat.gcd n.natAbs d.natAbs = 1 := by unfold vldB at h; simp at h; exact h.2.2.2.2
  have t1 : top n d = n.natAbs := by unfold top; rw [hg]; simp
  have t2 : bot n d = d.natAbs := by unfold bot; rw [hg]; simp
  have hf : fits n d = true := by unfold fits; rw [t1, t2]; simp; omega
  have hd : ¬ d = 0 := by omega
  refine ⟨?_, ?_, ?_⟩
  · unfold mkNum; rw [if_neg hd, hf, t1]
    have : decide (d < 0) = false := by simp; omega
    rw [this]
    by_cases hn : n < 0
    · simp [hn]; omega
    · simp [hn]; omega
  · unfold mkDen; rw [if_neg hd, hf, t2]; simp; omega
  · unfold mkErr; rw [if_neg hd, hf]; rfl

/-- The ratio of a number: what stands for it is what is made. -/
theorem mk_is {a b P Q : Int} (hv : vldB P Q = true) (hb : b ≠ 0) (e : P * b = a * Q) : mkNum a b = P ∧ mkDen a b = Q ∧ mkErr a b = 0 := by
  have hQ := (vld_bd hv).1
  obtain ⟨s1, s2, s3⟩ := mk_self hv
  obtain ⟨c1, c2, c3⟩ := mk_congr (a := a) (b := b) (a' := P) (b' := Q) hb (by omega) e.symm
  rw [s1] at c1; rw [s2] at c2; rw [s3] at c3
  exact ⟨c1, c2, c3⟩

/-- What is made without an error is a ratio that stands for the number. -/
theorem mk_ok {a b : Int} (h : mkErr a b = 0) : b ≠ 0 ∧ vldB (mkNum a b) (mkDen a b) = true ∧ mkNum a b * b = a * mkDen a b := by
  have hb : b ≠ 0 := by intro e; unfold mkErr at h; rw [if_pos e] at h; omega
  have hf : fits a b = true := by
    unfold mkErr at h; rw [if_neg hb] at h
    cases hc : fits a b
    · rw [hc] at h; simp at h
    · rfl
  have hn : mkNum a b = (if (decide (a < 0) != decide (b < 0)) then -(top a b : Int) else top a b) := by unfold mkNum; rw [if_neg hb, hf]; rfl
  have hd : mkDen a b = bot a b := by unfold mkDen; rw [if_neg hb, hf]; rfl
  have c := tb_cop a b hb
  have p := bot_pos a b hb
  have f2 : top a b ≤ 2147483647 ∧ bot a b ≤ 2147483647 := by unfold fits at hf; simpa using hf
  have ab : (mkNum a b).natAbs = top a b := by rw [hn]; split <;> simp
  refine ⟨hb, ?_, ?_⟩
  · unfold vldB
    rw [ab, hd]
    simp
    refine ⟨by omega, by omega, ?_, ?_, c⟩ <;> omega
  · have t := top_mul a b
    have u := bot_mul a b
    generalize hg : Nat.gcd a.natAbs b.natAbs = g at *
    have t' : ((top a b : Nat) : Int) * (g : Int) = (a.natAbs : Int) := by exact_mod_cast t
    have u' : ((bot a b : Nat) : Int) * (g : Int) = (b.natAbs : Int) := by exact_mod_cast u
    rw [hn, hd]
    generalize ((top a b : Nat) : Int) = T at *
    generalize ((bot a b : Nat) : Int) = U at *
    by_cases ha : a < 0 <;> by_cases hb2 : b < 0
    · have ea : a = -(T * g) := by omega
      have eb : b = -(U * g) := by omega
      simp only [ha, hb2, decide_true, bne_self_eq_false, Bool.false_eq_true, if_false]
      rw [eb, ea]; grind
    · have ea : a = -(T * g) := by omega
      have eb : b = U * g := by omega
      simp only [ha, hb2, decide_true, decide_false]
      simp
      rw [eb, ea]; grind
    · have ea : a = T * g := by omega
      have eb : b = -(U * g) := by omega
      simp only [ha, hb2, decide_true, decide_false]
      simp
      rw [eb, ea]; grind
    · have ea : a = T * g := by omega
      have eb : b = U * g := by omega
      simp only [ha, hb2, decide_false, bne_self_eq_false, Bool.false_eq_true, if_false]
      rw [eb, ea]; grind

theorem mk_zero {a b : Int} (hb : b ≠ 0) (h : mkErr a b ≠ 0) : mkNum a b = 0 ∧ mkDen a b = 0 ∧ mkErr a b = 7 := by
  unfold mkErr at h; rw [if_neg hb] at h
  have hf : fits a b = false := by
    cases hc : fits a b
    · rfl
    · rw [hc] at h; simp at h
  unfold mkNum mkDen mkErr
  rw [if_neg hb, if_neg hb, if_neg hb, hf]
  simp
end Go.Proofs.YtbcafamgmdngpaaDoor
