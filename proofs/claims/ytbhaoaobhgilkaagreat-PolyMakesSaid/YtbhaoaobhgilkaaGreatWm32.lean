/- Plain mathematics of ratios: what Make returns stands for the quotient.; Plain mathematics: points over one denominator, lines that they meet; what meets lines meets what is left of them. -/
import Derived.Test.YtbhaoaobhgilkaaGreatWm14
import Derived.Test.YtbhaoaobhgilkaaGreatWm31
import Derived.Test.YtbhaoaobhgilkaaGreatWm30

namespace Go.Proofs.YtbhaoaobhgilkaaGreat

theorem gcd_pos (a b : Int) (h : b ≠ 0) : 0 < Nat.gcd a.natAbs b.natAbs := Nat.gcd_pos_of_pos_right _ (by omega)

theorem top_mul (a b : Int) : top a b * Nat.gcd a.natAbs b.natAbs = a.natAbs := Nat.div_mul_cancel (Nat.gcd_dvd_left _ _)

theorem bot_mul (a b : Int) : bot a b * Nat.gcd a.natAbs b.natAbs = b.natAbs := Nat.div_mul_cancel (Nat.gcd_dvd_right _ _)

theorem tb_cop (a b : Int) (h : b ≠ 0) : Nat.gcd (top a b) (bot a b) = 1 := by
  unfold top bot
  exact Nat.Coprime.gcd_eq_one (Nat.coprime_div_gcd_div_gcd (gcd_pos a b h))

theorem bot_pos (a b : Int) (h : b ≠ 0) : 1 ≤ bot a b := by
  have h1 := bot_mul a b
  rcases Nat.eq_zero_or_pos (bot a b) with e | e
  · rw [e] at h1; omega
  · exact e

theorem cop_unique {t u t' u' : Nat} (h : Nat.gcd t u = 1) (h' : Nat.gcd t' u' = 1) (e : t * u' = t' * u) : t = t' ∧ u = u' := by
  have d1 : t ∣ t' := Nat.Coprime.dvd_of_dvd_mul_right (show Nat.Coprime t u from h) (e ▸ Nat.dvd_mul_right t u')
  have d2 : t' ∣ t := Nat.Coprime.dvd_of_dvd_mul_right (show Nat.Coprime t' u' from h') (e ▸ Nat.dvd_mul_right t' u)
  have d3 : u ∣ u' := Nat.Coprime.dvd_of_dvd_mul_left (show Nat.Coprime u t from by rw [Nat.coprime_comm]; exact h) (e ▸ Nat.dvd_mul_left u t')
  have d4 : u' ∣ u := Nat.Coprime.dvd_of_dvd_mul_left (show Nat.Coprime u' t' from by rw [Nat.coprime_comm]; exact h') (e ▸ Nat.dvd_mul_left u' t)
  exact ⟨Nat.dvd_antisymm d1 d2, Nat.dvd_antisymm d3 d4⟩

theorem tb_congr {a b a' b' : Int} (hb : b ≠ 0) (hb' : b' ≠ 0) (e : a * b' = a' * b) : top a b = top a' b' ∧ bot a b = bot a' b' := by
  apply cop_unique (tb_cop a b hb) (tb_cop a' b' hb')
  have e1 : a.natAbs * b'.natAbs = a'.natAbs * b.natAbs := by rw [← Int.natAbs_mul, ← Int.natAbs_mul, e]
  have t1 := top_mul a b
  have t2 := bot_mul a b
  have t3 := top_mul a' b'
  have t4 := bot_mul a' b'
  have p := gcd_pos a b hb
  have p' := gcd_pos a' b' hb'
  have e2 : (Nat.gcd a.natAbs b.natAbs * Nat.gcd a'.natAbs b'.natAbs) * (top a b * bot a' b') = (Nat.gcd a.natAbs b.natAbs * Nat.gcd a'.natAbs b'.natAbs) * (top a' b' * bot a b) := by
    calc _ = top a b * Nat.gcd a.natAbs b.natAbs * (bot a' b' * Nat.gcd a'.natAbs b'.natAbs) := by ac_rfl
      _ = a.natAbs * b'.natAbs := by rw [t1, t4]
      _ = a'.natAbs * b.natAbs := e1
      _ = top a' b' * Nat.gcd a'.natAbs b'.natAbs * (bot a b * Nat.gcd a.natAbs b.natAbs) := by rw [t2, t3]
      _ = _ := by ac_rfl
  exact Nat.eq_of_mul_eq_mul_left (Nat.mul_pos p p') e2

theorem neg_iff {a b : Int} (ha : a ≠ 0) (hb : b ≠ 0) : (decide (a < 0) != decide (b < 0)) = decide (a * b < 0) := by
  rcases Int.lt_or_lt_of_ne ha with x | x <;> rcases Int.lt_or_lt_of_ne hb with y | y
  · have u : 0 < a * b := Int.mul_pos_of_neg_of_neg x y
    rw [Bool.eq_iff_iff]; simp; omega
  · have u : a * b < 0 := Int.mul_neg_of_neg_of_pos x y
    rw [Bool.eq_iff_iff]; simp; omega
  · have u : a * b < 0 := Int.mul_neg_of_pos_of_neg x y
    rw [Bool.eq_iff_iff]; simp; omega
  · have u : 0 < a * b := Int.mul_pos x y
    rw [Bool.eq_iff_iff]; simp; omega

theorem neg_scale {x y p q : Int} (hp : 0 < p) (hq : 0 < q) (e : x * p = y * q) (h : x < 0) : y < 0 := by
  have u : x * p < 0 := Int.mul_neg_of_neg_of_pos h hp
  rcases Int.lt_or_le y 0 with k | k
  · exact k
  · have : 0 ≤ y * q := Int.mul_nonneg k (by omega)
    omega

theorem sq_pos {b : Int} (hb : b ≠ 0) : 0 < b * b := by
  rcases Int.lt_or_lt_of_ne hb with x | x
  · exact Int.mul_pos_of_neg_of_neg x x
  · exact Int.mul_pos x x

theorem neg_congr {a b a' b' : Int} (hb : b ≠ 0) (hb' : b' ≠ 0) (e : a * b' = a' * b) (h0 : a ≠ 0) : (decide (a < 0) != decide (b < 0)) = (decide (a' < 0) != decide (b' < 0)) := by
  have h1 : a' ≠ 0 := by
    intro h
    rw [h, Int.zero_mul] at e
    rcases Int.mul_eq_zero.1 e with h | h
    · exact h0 h
    · exact hb' h
  rw [neg_iff h0 hb, neg_iff h1 hb']
  have k : (a * b) * (b' * b') = (a' * b') * (b * b) := by
    calc (a * b) * (b' * b') = (a * b') * (b * b') := by ac_rfl
      _ = (a' * b) * (b * b') := by rw [e]
      _ = _ := by ac_rfl
  rw [decide_eq_decide]
  exact ⟨neg_scale (sq_pos hb') (sq_pos hb) k, neg_scale (sq_pos hb) (sq_pos hb') k.symm⟩

theorem mk_congr {a b a' b' : Int} (hb : b ≠ 0) (hb' : b' ≠ 0) (e : a * b' = a' * b) : mkNum a b = mkNum a' b' ∧ mkDen a b = mkDen a' b' ∧ mkErr a b = mkErr a' b' := by
  obtain ⟨e1, e2⟩ := tb_congr hb hb' e
  have ef : fits a b = fits a' b' := by unfold fits; rw [e1, e2]
  refine ⟨?_, ?_, ?_⟩
  · unfold mkNum
    rw [if_neg hb, if_neg hb', ef, e1]
    by_cases h0 : a = 0
    · have t0 : top a' b' = 0 := by rw [← e1, h0]; simp [top]
      rw [t0]; simp
    · rw [neg_congr hb hb' e h0]
  · unfold mkDen
    rw [if_neg hb, if_neg hb', ef, e2]
  · unfold mkErr
    rw [if_neg hb, if_neg hb', ef]

theorem mk_self {n d : Int} (h : vldB n d = true) : mkNum n d = n ∧ mkDen n d = d ∧ mkErr n d = 0 := by
  obtain ⟨h1, h2, h3, h4⟩ := vld_bd h
  have hg : Nat.gcd n.natAbs d.natAbs = 1 := by unfold vldB at h; simp at h; exact h.2.2.2.2
  have t1 : top n d = n.natAbs := by unfold top; rw [hg]; simp
  have t2 : bot n d = d.natAbs := by unfold bot; rw [hg]; simp
  have hf : fits n d = true := by unfold fits; rw [t1, t2]; simp; omega
  have hd : ¬ d = 0 := by omega
  refine ⟨?_, ?_, ?_⟩
  · unfold mkNum; rw [if_neg hd, hf, t1]
    have : decide (d < 0) = false := by simp; omega
    rw [this]
    by_cases hn : n < 0
    · simp [hn]; omega
    · simp [hn]; omega
  · unfold mkDen; rw [if_neg hd, hf, t2]; simp; omega
  · unfold mkErr; rw [if_neg hd, hf]; rfl

theorem mk_ok {a b : Int} (h : mkErr a b = 0) : b ≠ 0 ∧ vldB (mkNum a b) (mkDen a b) = true ∧ mkNum a b * b = a * mkDen a b := by
  have hb : b ≠ 0 := by intro e; unfold mkErr at h; rw [if_pos e] at h; omega
  have hf : fits a b = true := by
    unfold mkErr at h; rw [if_neg hb] at h
    cases hc : fits a b
    · rw [hc] at h; simp at h
    · rfl
  have hn : mkNum a b = (if (decide (a < 0) != decide (b < 0)) then -(top a b : Int) else top a b) := by unfold mkNum; rw [if_neg hb, hf]; rfl
  have hd : mkDen a b = bot a b := by unfold mkDen; rw [if_neg hb, hf]; rfl
  have c := tb_cop a b hb
  have p := bot_pos a b hb
  have f2 : top a b ≤ 2147483647 ∧ bot a b ≤ 2147483647 := by unfold fits at hf; simpa using hf
  have ab : (mkNum a b).natAbs = top a b := by rw [hn]; split <;> simp
  refine ⟨hb, ?_, ?_⟩
  · unfold vldB
    rw [ab, hd]
    simp
    refine ⟨by omega, by omega, ?_, ?_, c⟩ <;> omega
  · have t := top_mul a b
    have u := bot_mul a b
    generalize hg : Nat.gcd a.natAbs b.natAbs = g at *
    have t' : ((top a b : Nat) : Int) * (g : Int) = (a.natAbs : Int) := by exact_mod_cast t
    have u' : ((bot a b : Nat) : Int) * (g : Int) = (b.natAbs : Int) := by exact_mod_cast u
    rw [hn, hd]
    generalize ((top a b : Nat) : Int) = T at *
    generalize ((bot a b : Nat) : Int) = U at *
    by_cases ha : a < 0 <;> by_cases hb2 : b < 0
    · have ea : a = -(T * g) := by omega
      have eb : b = -(U * g) := by omega
      simp only [ha, hb2, decide_true, bne_self_eq_false, Bool.false_eq_true, if_false]
      rw [eb, ea]; grind
    · have ea : a = -(T * g) := by omega
      have eb : b = U * g := by omega
      simp only [ha, hb2, decide_true, decide_false]
      simp
      rw [eb, ea]; grind
    · have ea : a = T * g := by omega
      have eb : b = -(U * g) := by omega
      simp only [ha, hb2, decide_true, decide_false]
      simp
      rw [eb, ea]; grind
    · have ea : a = T * g := by omega
      have eb : b = U * g := by omega
      simp only [ha, hb2, decide_false, bne_self_eq_false, Bool.false_eq_true, if_false]
      rw [eb, ea]; grind

end Go.Proofs.YtbhaoaobhgilkaaGreat

namespace Go.Proofs.YtbhaoaobhgilkaaGreat
open Go.Sort

def dotN (a X : List Int) : Nat → Int
  | 0 => 0
  | t + 1 => dotN a X t + gA a t * gA X t

def sat (D : Int) (X : List Int) (x : Ln) : Prop := if x.s = true then dotN x.a X 6 < x.b * D else dotN x.a X 6 ≤ x.b * D

theorem gA_out {a : List Int} {t : Nat} (h : a.length ≤ t) : gA a t = 0 := by
  unfold gA; rw [List.getD_eq_getElem?_getD, List.getElem?_eq_none h]; rfl

theorem gA_scale (a : List Int) (k : Int) (t : Nat) : gA (a.map (· * k)) t = gA a t * k := by
  by_cases h : t < a.length
  · rw [gA_map _ h]
  · rw [gA_out (by simp; omega), gA_out (by omega)]; simp

theorem gA_add {a b : List Int} (hl : a.length = b.length) (t : Nat) : gA (List.zipWith (· + ·) a b) t = gA a t + gA b t := by
  by_cases h : t < a.length
  · rw [gA_zip h (by omega)]
  · rw [gA_out (by simp; omega), gA_out (by omega), gA_out (by omega)]; rfl

theorem dot_scale (a X : List Int) (k : Int) : ∀ t, dotN (a.map (· * k)) X t = dotN a X t * k
  | 0 => by simp [dotN]
  | t + 1 => by
    show dotN (a.map (· * k)) X t + gA (a.map (· * k)) t * gA X t = (dotN a X t + gA a t * gA X t) * k
    rw [dot_scale a X k t, gA_scale, Int.add_mul]
    congr 1
    rw [Int.mul_right_comm]

theorem dot_add {a b : List Int} (X : List Int) (hl : a.length = b.length) : ∀ t, dotN (List.zipWith (· + ·) a b) X t = dotN a X t + dotN b X t
  | 0 => by simp [dotN]
  | t + 1 => by
    show dotN (List.zipWith (· + ·) a b) X t + gA (List.zipWith (· + ·) a b) t * gA X t = (dotN a X t + gA a t * gA X t) + (dotN b X t + gA b t * gA X t)
    rw [dot_add X hl t, gA_add hl, Int.add_mul]
    omega

theorem dot_zero {a : List Int} (X : List Int) (h : ∀ j, gA a j = 0) : ∀ t, dotN a X t = 0
  | 0 => rfl
  | t + 1 => by
    show dotN a X t + gA a t * gA X t = 0
    rw [dot_zero X h t, h]; simp

theorem sat_times {D : Int} {X : List Int} {x : Ln} {k : Int} (hk : 0 < k) : sat D X (x.times k) ↔ sat D X x := by
  unfold sat Ln.times
  simp only
  rw [dot_scale, Int.mul_right_comm x.b k D]
  cases x.s
  · simp only [Bool.false_eq_true, if_false]
    exact ⟨fun h => Int.le_of_mul_le_mul_right h hk, fun h => Int.mul_le_mul_of_nonneg_right h (by omega)⟩
  · simp only [if_true]
    exact ⟨fun h => Int.lt_of_mul_lt_mul_right h (by omega), fun h => Int.mul_lt_mul_of_pos_right h hk⟩

theorem sat_plus {D : Int} {X : List Int} {x y : Ln} (hl : x.a.length = y.a.length) (hx : sat D X x) (hy : sat D X y) : sat D X (x.plus y) := by
  unfold sat Ln.plus at *
  simp only
  rw [dot_add X hl, Int.add_mul]
  cases hxs : x.s <;> cases hys : y.s <;> simp only [hxs, hys, Bool.false_eq_true, if_false, if_true, Bool.or_false, Bool.or_true, Bool.or_self] at * <;> omega

theorem gcdL_dvd : ∀ (a : List Int) (b : Int), gcdL b a ∣ b ∧ ∀ v ∈ a, gcdL b a ∣ v
  | [], b => ⟨Int.dvd_refl _, fun v hv => by simp at hv⟩
  | u :: r, b => by
    have h := gcdL_dvd r (Int.gcd b u : Int)
    show gcdL (Int.gcd b u : Int) r ∣ b ∧ ∀ v ∈ u :: r, gcdL (Int.gcd b u : Int) r ∣ v
    refine ⟨Int.dvd_trans h.1 (Int.gcd_dvd_left ..), fun v hv => ?_⟩
    rcases List.mem_cons.1 hv with rfl | q
    · exact Int.dvd_trans h.1 (Int.gcd_dvd_right ..)
    · exact h.2 v q

theorem low_len (x : Ln) : x.low.a.length = x.a.length := by unfold Ln.low; split <;> simp

theorem low_times {x : Ln} (h : x.a ≠ []) : ∃ k, 0 < k ∧ x = x.low.times k := by
  by_cases hd : x.dv = 0
  · refine ⟨1, by omega, ?_⟩
    unfold Ln.low
    rw [if_pos hd]
    unfold Ln.times
    simp
  · have hn : 0 ≤ x.dv := by
      unfold Ln.dv
      match x.a, h with
      | v :: r, _ => exact gcdL_nn (b := (Int.gcd x.b v : Int)) (by omega) r
    have hdv := gcdL_dvd x.a x.b
    refine ⟨x.dv, by omega, ?_⟩
    unfold Ln.low
    rw [if_neg hd]
    unfold Ln.times
    obtain ⟨a, b, s⟩ := x
    simp only [Ln.mk.injEq, and_true]
    constructor
    · rw [List.map_map]
      have : ∀ v ∈ a, ((· * (Ln.mk a b s).dv) ∘ (·.tdiv (Ln.mk a b s).dv)) v = v := fun v hv => Int.tdiv_mul_cancel (hdv.2 v hv)
      exact ((List.map_congr_left this).trans (List.map_id' a)).symm
    · exact (Int.tdiv_mul_cancel hdv.1).symm

theorem sat_low {D : Int} {X : List Int} {x : Ln} (h : x.a ≠ []) : sat D X x.low ↔ sat D X x := by
  obtain ⟨k, hk, e⟩ := low_times h
  have := sat_times (D := D) (X := X) (x := x.low) hk
  rw [← e] at this
  exact this.symm

theorem ne_nil {a : List Int} (h : a.length = 6) : a ≠ [] := by rintro rfl; simp at h

theorem gA_z6 (j : Nat) : gA z6 j = 0 := by
  by_cases h : j < 6
  · match j, h with
    | 0, _ => rfl
    | 1, _ => rfl
    | 2, _ => rfl
    | 3, _ => rfl
    | 4, _ => rfl
    | 5, _ => rfl
  · exact gA_out (by simp [z6]; omega)

theorem tidy_mem {D : Int} {X : List Int} (hD : 0 < D) {l : List Ln} (h6 : ∀ x ∈ l, x.a.length = 6) (hs : ∀ x ∈ l, sat D X x) : ∀ x ∈ tidyL l, ∃ y ∈ l, x = y.low := by
  intro x hx
  rw [tidyL_ins] at hx
  split at hx
  · rename_i hb
    exfalso
    unfold badB at hb
    obtain ⟨y, hy, h⟩ := List.any_eq_true.1 hb
    simp only [Bool.and_eq_true, decide_eq_true_eq] at h
    have hsat := (sat_low (ne_nil (h6 y hy))).2 (hs y hy)
    unfold sat at hsat
    rw [h.1, dot_zero X gA_z6] at hsat
    have hl := h.2
    unfold Ln.lim at hl
    cases hq : y.low.s
    · rw [hq] at hsat hl
      simp only [Bool.false_eq_true, if_false] at hsat hl
      have : y.low.b * D < 0 := Int.mul_neg_of_neg_of_pos (by omega) hD
      omega
    · rw [hq] at hsat hl
      simp only [if_true] at hsat hl
      have : y.low.b * D ≤ 0 := Int.mul_nonpos_of_nonpos_of_nonneg (by omega) (by omega)
      omega
  · have h2 := (((insL_ok (keepL l)).2 x).1 hx).1
    unfold keepL at h2
    obtain ⟨y, hy, rfl⟩ := List.mem_map.1 (List.mem_filter.1 h2).1
    exact ⟨y, hy, rfl⟩

theorem tidy_sat {D : Int} {X : List Int} (hD : 0 < D) {l : List Ln} (h6 : ∀ x ∈ l, x.a.length = 6) (hs : ∀ x ∈ l, sat D X x) : ∀ x ∈ tidyL l, sat D X x := fun x hx => by
  obtain ⟨y, hy, rfl⟩ := tidy_mem hD h6 hs x hx
  exact (sat_low (ne_nil (h6 y hy))).2 (hs y hy)

def ZrL (J : Nat → Prop) (l : List Ln) : Prop := ∀ x ∈ l, x.a.length = 6 ∧ ∀ j, J j → gA x.a j = 0

theorem low_zr {x : Ln} {j : Nat} (h : gA x.a j = 0) : gA x.low.a j = 0 := by
  unfold Ln.low
  split
  · exact h
  · show gA (x.a.map (·.tdiv x.dv)) j = 0
    by_cases q : j < x.a.length
    · rw [gA_map _ q, h]; simp
    · exact gA_out (by simp; omega)

theorem tidy_zr {J : Nat → Prop} {l : List Ln} (h : ZrL J l) : ZrL J (tidyL l) := by
  intro x hx
  rw [tidyL_ins] at hx
  split at hx
  · rw [List.mem_singleton] at hx
    subst hx
    exact ⟨rfl, fun j _ => gA_z6 j⟩
  · have h2 := (((insL_ok (keepL l)).2 x).1 hx).1
    unfold keepL at h2
    obtain ⟨y, hy, rfl⟩ := List.mem_map.1 (List.mem_filter.1 h2).1
    have := h y hy
    exact ⟨by rw [low_len]; exact this.1, fun j hj => low_zr (this.2 j hj)⟩

theorem comb_at {x y : Ln} (hx : x.a.length = 6) (hy : y.a.length = 6) (p q : Int) (j : Nat) : gA ((x.times p).plus (y.times q)).a j = gA x.a j * p + gA y.a j * q := by
  show gA (List.zipWith (· + ·) (x.a.map (· * p)) (y.a.map (· * q))) j = _
  rw [gA_add (by simp [hx, hy]), gA_scale, gA_scale]

theorem sum_zr {x y : Ln} {i : Nat} (hx : x.a.length = 6) (hy : y.a.length = 6) : (sumL x y i).a.length = 6 ∧ gA (sumL x y i).a i = 0 ∧ ∀ j, gA x.a j = 0 → gA y.a j = 0 → gA (sumL x y i).a j = 0 := by
  refine ⟨sumL_len hx hy, ?_, fun j h1 h2 => ?_⟩
  · unfold sumL
    refine low_zr ?_
    rw [comb_at hx hy]
    unfold sumG
    obtain ⟨u, hu⟩ := Int.gcd_dvd_left (gA x.a i) (gA y.a i)
    obtain ⟨v, hv⟩ := Int.gcd_dvd_right (gA x.a i) (gA y.a i)
    generalize gA x.a i = a at *
    generalize gA y.a i = b at *
    generalize (Int.gcd a b : Int) = g at *
    by_cases hg : g = 0
    · rw [hg] at hu hv ⊢
      simp at hu hv; rw [hu, hv]; simp
    · rw [show (-b).tdiv g = -v by rw [hv, Int.neg_mul_eq_mul_neg, Int.mul_tdiv_cancel_left _ hg], show a.tdiv g = u by rw [hu, Int.mul_tdiv_cancel_left _ hg], hu, hv]
      grind
  · unfold sumL
    refine low_zr ?_
    rw [comb_at hx hy, h1, h2]; simp

theorem leave_zr {J : Nat → Prop} {l : List Ln} (h : ZrL J l) (i : Nat) : ZrL (fun j => J j ∨ j = i) (leaveL l i) := by
  unfold leaveL
  refine tidy_zr fun x hx => ?_
  rcases List.mem_append.1 hx with q | q
  · obtain ⟨h1, h2⟩ := List.mem_filter.1 q
    have := h x h1
    refine ⟨this.1, fun j hj => ?_⟩
    rcases hj with hj | rfl
    · exact this.2 j hj
    · simpa using h2
  · unfold sums at q
    obtain ⟨p, hp, rfl⟩ := List.mem_map.1 q
    obtain ⟨p1, p2⟩ := mem_prs hp
    have a1 := h p.1 (List.mem_filter.1 p1).1
    have a2 := h p.2 (List.mem_filter.1 p2).1
    obtain ⟨s1, s2, s3⟩ := sum_zr (i := i) a1.1 a2.1
    refine ⟨s1, fun j hj => ?_⟩
    rcases hj with hj | rfl
    · exact s3 j (a1.2 j hj) (a2.2 j hj)
    · exact s2

theorem quo_pos {a g : Int} (hg : 0 < g) (hd : g ∣ a) (ha : 0 < a) : 0 < a.tdiv g := by
  obtain ⟨u, rfl⟩ := hd
  rw [Int.mul_tdiv_cancel_left _ (by omega)]
  rcases Int.lt_or_le 0 u with q | q
  · exact q
  · have := Int.mul_le_mul_of_nonneg_left q (show 0 ≤ g by omega)
    rw [Int.mul_zero] at this
    omega

theorem leave_sat {D : Int} {X : List Int} (hD : 0 < D) {l : List Ln} {i : Nat} (h6 : ∀ x ∈ l, x.a.length = 6) (hs : ∀ x ∈ l, sat D X x) : ∀ x ∈ leaveL l i, sat D X x := by
  unfold leaveL
  have key : ∀ x ∈ zrs l i ++ sums l i, x.a.length = 6 ∧ sat D X x := fun x hx => by
    rcases List.mem_append.1 hx with q | q
    · have := (List.mem_filter.1 q).1
      exact ⟨h6 x this, hs x this⟩
    · unfold sums at q
      obtain ⟨p, hp, rfl⟩ := List.mem_map.1 q
      obtain ⟨p1, p2⟩ := mem_prs hp
      obtain ⟨m1, u1⟩ := List.mem_filter.1 p1
      obtain ⟨m2, u2⟩ := List.mem_filter.1 p2
      simp only [decide_eq_true_eq] at u1 u2
      refine ⟨sumL_len (h6 _ m1) (h6 _ m2), ?_⟩
      unfold sumL
      have hl : ((p.1.times ((-(gA p.2.a i)).tdiv (sumG p.1 p.2 i))).plus (p.2.times ((gA p.1.a i).tdiv (sumG p.1 p.2 i)))).a.length = 6 := by simp [Ln.plus, Ln.times, h6 _ m1, h6 _ m2]
      rw [sat_low (ne_nil hl)]
      have hg : 0 < sumG p.1 p.2 i := by
        unfold sumG
        have := Int.gcd_pos_of_ne_zero_left (gA p.2.a i) (show gA p.1.a i ≠ 0 by omega)
        omega
      have d1 : sumG p.1 p.2 i ∣ gA p.1.a i := Int.gcd_dvd_left ..
      have d2 : sumG p.1 p.2 i ∣ -(gA p.2.a i) := Int.dvd_neg.2 (Int.gcd_dvd_right ..)
      exact sat_plus (by simp [Ln.times, h6 _ m1, h6 _ m2]) ((sat_times (quo_pos hg d2 (by omega))).2 (hs _ m1)) ((sat_times (quo_pos hg d1 u1)).2 (hs _ m2))
  exact tidy_sat hD (fun x hx => (key x hx).1) (fun x hx => (key x hx).2)

theorem sh_zr {l : List Ln} (h6 : ∀ x ∈ l, x.a.length = 6) (n : Nat) : ∀ k, k ≤ n → ZrL (fun j => n - k ≤ j ∧ j < n) (shL l n k)
  | 0, _ => by
    show ZrL _ (tidyL l)
    exact tidy_zr fun x hx => ⟨h6 x hx, fun j hj => by omega⟩
  | k + 1, hk => by
    show ZrL _ (leaveL (shL l n k) (n - 1 - k))
    intro x hx
    have := leave_zr (sh_zr h6 n k (by omega)) (n - 1 - k) x hx
    exact ⟨this.1, fun j hj => this.2 j (by omega)⟩

theorem sh_sat {D : Int} {X : List Int} (hD : 0 < D) {l : List Ln} (h6 : ∀ x ∈ l, x.a.length = 6) (hs : ∀ x ∈ l, sat D X x) (n : Nat) : ∀ k, k ≤ n → ∀ x ∈ shL l n k, sat D X x
  | 0, _ => tidy_sat hD h6 hs
  | k + 1, hk => leave_sat hD (fun x hx => (sh_zr h6 n k (by omega) x hx).1) (sh_sat hD h6 hs n k (by omega))
end Go.Proofs.YtbhaoaobhgilkaaGreat
