/- Plain mathematics: what the law of times asks of Up, Down and Stay.; Plain mathematics: what the law of times asks of a later point, and of Point.; later of the statements of layer 3: delays that are not asked. -/
import Derived.Test.YtbnebinpemejlaaHx2
import Derived.Test.YtbnebinpemejlaaHc8
import Derived.Test.YtbnebinpemejlaaHx3
import Derived.Test.YtbnebinpemejlaaHc6

namespace Go.Proofs.Ytbnebinpemejlaa

theorem chk_of {n : Nat} {m : List Int} (hn : n ≤ 10) (hl : m.length = (n + 1) * (n + 1)) (hv : rdL m = true) (dg : ∀ a, a ≤ n → Zo.At n m a a = 1) (row : ∀ a, a ≤ n → Zo.At n m 0 a ≤ 1)
    (tri : ∀ i j k, i ≤ n → j ≤ n → k ≤ n → Zo.At n m i j ≤ Zo.smW (Zo.At n m i k) (Zo.At n m k j)) : chkE n m = 0 := by
  have e := clo_fix hl (fun a ha => by rw [dg a ha]; omega) row tri
  exact (chk_iff hn hl hv).2 ⟨cloB_iff.2 fun i hi => by rw [e, dg i hi]; omega, e⟩

theorem chk_clo {n : Nat} {m : List Int} (h : chkE n m = 0) : Zo.clo n m = m ∧ cloE n m = 0 := by
  obtain ⟨hn, hl, hr⟩ := chk_len h
  obtain ⟨h1, h2⟩ := (chk_iff hn hl hr).1 h
  exact ⟨h2, cloE_zero.2 ⟨h1, by rw [h2]; exact hr⟩⟩

theorem inB_of {n : Nat} {l m : List Int} (hl : l.length = (n + 1) * (n + 1)) (h : Zo.Le n m l) : inB l m = true := by
  unfold inB
  rw [List.all_eq_true]
  intro k hk
  rw [List.mem_range, hl] at hk
  have e : Zo.ix n (k / (n + 1)) (k % (n + 1)) = k := by unfold Zo.ix; have := Nat.div_add_mod k (n + 1); rw [Nat.mul_comm] at this; exact this
  have a1 : k / (n + 1) ≤ n := by
    have : k / (n + 1) < n + 1 := Nat.div_lt_of_lt_mul hk
    omega
  have b1 : k % (n + 1) ≤ n := by have := Nat.mod_lt k (show 0 < n + 1 by omega); omega
  have := h _ _ a1 b1
  unfold Zo.At at this
  rw [e] at this
  simpa using this

section
variable {n : Nat} {l : List Int}

/-- Up. -/
theorem up_chk (hc : chkE n l = 0) : chkE n (upL n l) = 0 := by
  obtain ⟨hn, hl, hr⟩ := chk_len hc
  obtain ⟨dg, rw0⟩ := chk_diag hc
  have tr := chk_tri hc
  have top := (chk_top hc).2
  have lu : (upL n l).length = (n + 1) * (n + 1) := by rw [upL_len, hl]
  have hat := fun a b (ha : a ≤ n) (hb : b ≤ n) => upL_at hl ha hb
  refine chk_of hn lu (all_of_lv lu fun a b ha hb => ?_) (fun a ha => ?_) (fun a ha => ?_) (fun i j k hi hj hk => ?_)
  · rw [hat a b ha hb]
    split
    · decide
    · exact chk_lvs hc ha hb
  · rw [hat a a ha ha, if_neg (by omega)]; exact dg a ha
  · rw [hat 0 a (by omega) ha, if_neg (by omega)]; exact rw0 a ha
  · rw [hat i j hi hj, hat i k hi hk, hat k j hk hj]
    by_cases c1 : i ≠ 0 ∧ k = 0
    · rw [if_pos c1, no_smW]
      split
      · omega
      · exact top i j hi hj
    · rw [if_neg c1]
      by_cases c2 : k ≠ 0 ∧ j = 0
      · rw [if_pos c2, smW_no]
        split
        · omega
        · exact top i j hi hj
      · rw [if_neg c2]
        by_cases c3 : i ≠ 0 ∧ j = 0
        · exfalso; omega
        · rw [if_neg c3]; exact tr i j k hi hj hk

theorem up_math (hc : chkE n l = 0) : upE n l = 0 ∧ Zo.clo n (upL n l) = upL n l ∧ upE n (upL n l) = 0 ∧ Zo.clo n (upL n (upL n l)) = upL n l ∧ inR n n (upL n l) l = true := by
  obtain ⟨hn, hl, hr⟩ := chk_len hc
  have h1 := up_chk hc
  have h2 := up_chk h1
  obtain ⟨c1, e1⟩ := chk_clo h1
  obtain ⟨c2, e2⟩ := chk_clo h2
  have lu : (upL n l).length = (n + 1) * (n + 1) := by rw [upL_len, hl]
  have same : upL n (upL n l) = upL n l := by
    refine Zo.At_ext (by rw [upL_len, lu]) lu fun a b ha hb => ?_
    rw [upL_at lu ha hb, upL_at hl ha hb]
    split <;> rfl
  refine ⟨?_, c1, ?_, by rw [c2, same], ?_⟩
  · unfold upE; rw [if_pos hc, Int.toNat_natCast]; exact e1
  · unfold upE; rw [if_pos h1, Int.toNat_natCast]; exact e2
  · unfold inR twB
    rw [inB_of lu (fun a b ha hb => by
      rw [upL_at hl ha hb]
      split
      · exact (chk_top hc).2 a b ha hb
      · omega)]
    simp [h1, hc]

/-- Down. -/
theorem dn_over (hc : chkE n l = 0) : cloE n (dnL n l) = 0 ∧ Zo.Le n l (Zo.clo n (dnL n l)) ∧ (∀ a b, a ≤ n → b ≤ n → Zo.Wl (Zo.At n (dnL n l) a b)) := by
  obtain ⟨hn, hl, hr⟩ := chk_len hc
  obtain ⟨dg, rw0⟩ := chk_diag hc
  obtain ⟨D, hD⟩ := chk_cl hn hl hc
  have ld : (dnL n l).length = (n + 1) * (n + 1) := by rw [dnL_len, hl]
  have hat := fun a b (ha : a ≤ n) (hb : b ≤ n) => dnL_at hl ha hb
  have hw : ∀ a b, a ≤ n → b ≤ n → Zo.Wl (Zo.At n (dnL n l) a b) := fun a b ha hb => by
    rw [hat a b ha hb]
    split
    · unfold Zo.Wl; omega
    · exact wl_of hl hr a b ha hb
  have hle : ∀ a b, a ≤ n → b ≤ n → Zo.At n l a b ≤ Zo.At n (dnL n l) a b := fun a b ha hb => by
    rw [hat a b ha hb]
    split
    · rename_i c; rw [c.1]; exact rw0 b hb
    · omega
  obtain ⟨o1, o2⟩ := Zo.clo_over hn ld hw hD hle
  refine ⟨cloE_zero.2 ⟨cloB_iff.2 o1, all_of_lv (by rw [Zo.clo_length, ld]) fun a b ha hb => ?_⟩, o2, hw⟩
  have x := o2 a b ha hb
  have y := Zo.le_clo ld a b ha hb
  rw [hat a b ha hb] at y
  have lv := chk_lvs hc ha hb
  split at y
  · unfold lvB at lv ⊢; simp at lv ⊢; omega
  · rw [show Zo.At n (Zo.clo n (dnL n l)) a b = Zo.At n l a b by omega]; exact lv

theorem dn_chk (hc : chkE n l = 0) : chkE n (Zo.clo n (dnL n l)) = 0 := by
  obtain ⟨hn, hl, hr⟩ := chk_len hc
  obtain ⟨h1, _, h3⟩ := dn_over hc
  exact clo_chk hn (by rw [dnL_len, hl]) h3 h1

theorem dn_twice (hc : chkE n l = 0) : Zo.clo n (dnL n (Zo.clo n (dnL n l))) = Zo.clo n (dnL n l) := by
  obtain ⟨hn, hl, hr⟩ := chk_len hc
  obtain ⟨_, _, hw⟩ := dn_over hc
  have hv := dn_chk hc
  obtain ⟨_, lv, _⟩ := chk_len hv
  obtain ⟨_, le2, _⟩ := dn_over hv
  have hv2 := dn_chk hv
  have ld : (dnL n l).length = (n + 1) * (n + 1) := by rw [dnL_len, hl]
  have ld2 : (dnL n (Zo.clo n (dnL n l))).length = (n + 1) * (n + 1) := by rw [dnL_len, lv]
  obtain ⟨D, hD⟩ := chk_cl hn (by rw [Zo.clo_length, ld2]) hv2
  obtain ⟨_, o2⟩ := Zo.clo_over hn ld hw hD (fun a b ha hb => by
    refine Int.le_trans (Zo.le_clo ld2 a b ha hb) ?_
    have := Zo.le_clo ld a b ha hb
    rw [dnL_at lv ha hb, dnL_at hl ha hb]
    rw [dnL_at hl ha hb] at this
    split
    · omega
    · rename_i c; rw [if_neg c] at this; exact this)
  exact Zo.Le.anti (by rw [Zo.clo_length, ld2]) lv o2 le2

theorem dn_math (hc : chkE n l = 0) : dnE n l = 0 ∧ dnE n (Zo.clo n (dnL n l)) = 0 ∧ inR n n (Zo.clo n (dnL n l)) l = true := by
  have hv := dn_chk hc
  obtain ⟨_, lv, _⟩ := chk_len hv
  refine ⟨?_, ?_, ?_⟩
  · unfold dnE; rw [if_pos hc, Int.toNat_natCast]; exact (dn_over hc).1
  · unfold dnE; rw [if_pos hv, Int.toNat_natCast]; exact (dn_over hv).1
  · unfold inR twB
    rw [inB_of lv (dn_over hc).2.1]
    simp [hv, hc]
end

theorem vld_neg' {n d : Int} (v : vldB n d = true) : vldB (-n) d = true := by rw [← v]; unfold vldB; rw [Bool.eq_iff_iff]; simp; omega

theorem shE_four (n d c : Int) : shE n d c ≠ 4 := by
  unfold shE opErr mkErr
  split
  · split
    · omega
    · split <;> omega
  · omega

theorem wiE_four (n d u l : Int) : wiE n d u l ≠ 4 := by
  have h1 := shE_four n d (spC u)
  have h2 := shE_four n d (-spC l)
  have h3 : wuE n d u ≠ 4 := by unfold wuE; split <;> omega
  have h4 : wlE n d l ≠ 4 := by unfold wlE; split <;> omega
  unfold wiE
  split
  · exact h3
  · exact h4

theorem sy_four (n : Nat) (l : List Int) (ps : List Pq) (t : Nat) : (syR n l ps t).2 ≠ 4 := by
  induction t with
  | zero => show (0 : Int) ≠ 4; omega
  | succ t ih =>
    show (if (syR n l ps t).2 = 0 then _ else syR n l ps t).2 ≠ 4
    split
    · exact wiE_four _ _ _ _
    · exact ih

section
variable {n : Nat} {l : List Int} {ps : List Pq} {D : Int} {X : Nat → Int}

theorem st_inv (hr : rdE n l ps = 0) (ho : Ov D X ps) (e : (syR n l ps n).2 = 0) :
    ∃ L H, HiInv D (syR n l ps n).1 H n (fun t => -X (t + 1)) (fun t => Zo.At n l (t + 1) 0) ∧ LoInv D (syR n l ps n).1 L n (fun t => -X (t + 1)) (fun t => Zo.At n l 0 (t + 1)) := by
  obtain ⟨hc, hp, hv, _⟩ := rd_parts hr
  refine iv_inv ho.pos (T := n) (syR n l ps) (fun t => (-(gp ps t).1, (gp ps t).2)) _ _ _ rfl (fun t ht h => ?_) (fun t h => ?_) (fun t ht => ?_) (fun t ht => chk_lvs hc (by omega) (by omega)) (fun t ht => chk_lvs hc (by omega) (by omega)) n (Nat.le_refl _) e
  · show (if (syR n l ps t).2 = 0 then _ else syR n l ps t) = _
    rw [if_pos h]
  · show (if (syR n l ps t).2 = 0 then _ else syR n l ps t) = _
    rw [if_neg h]
  · have h1 := ho.val (t + 1) (by omega)
    have h2 := (clk_vld hv (i := t + 1) (by omega)).1
    have ec : clk ps (t + 1) = gp ps t := by unfold clk; rw [if_neg (by omega)]; simp
    rw [ec] at h1 h2
    refine ⟨vld_neg' h2, ?_⟩
    show -X (t + 1) * (gp ps t).2 = -(gp ps t).1 * D
    rw [Int.neg_mul, h1, Int.neg_mul]

theorem mt1_iff (hr : rdE n l ps = 0) (ho : Ov D X ps) : (mtR n 1 l ps).2 = 0 ∧ ((mtR n 1 l ps).1 = true ↔ ∀ i, 1 ≤ i → i ≤ n → ∀ j, 1 ≤ j → j ≤ n → Zo.mt D (X i - X j) (Zo.At n l i j)) := by
  obtain ⟨hc, hp, hv, hs⟩ := rd_parts hr
  have hA : mtA n 1 ps = true := mtA_iff.2 fun i _ hi j _ hj => hs i (by omega) j (by omega)
  have e : mtR n 1 l ps = (mtH n 1 l ps, 0) := by unfold mtR; rw [if_pos hA]
  rw [e]
  refine ⟨rfl, ?_⟩
  show mtH n 1 l ps = true ↔ _
  rw [mtH_iff]
  constructor
  · intro h i i1 hi j j1 hj
    exact (hs_mt hv ho (by omega) (by omega) (hs i hi j hj) (chk_lvs hc hi hj)).1 (h i i1 (by omega) j j1 (by omega))
  · intro h i i1 hi j j1 hj
    exact (hs_mt hv ho (by omega) (by omega) (hs i (by omega) j (by omega)) (chk_lvs hc (by omega) (by omega))).2 (h i i1 (by omega) j j1 (by omega))

/-- The point after a delay. -/
theorem stay_in (hc : chkE n l = 0) {Q : Nat → Int} {Y : Int} (h0 : Q 0 = 0) (hQ : ∀ i, 1 ≤ i → i ≤ n → Q i = X i + Y) :
    Zo.In n l D Q ↔ (∀ i, 1 ≤ i → i ≤ n → ∀ j, 1 ≤ j → j ≤ n → Zo.mt D (X i - X j) (Zo.At n l i j)) ∧ ∀ s, s < n → Zo.mt D (Y - -X (s + 1)) (Zo.At n l (s + 1) 0) ∧ Zo.mt D (-X (s + 1) - Y) (Zo.At n l 0 (s + 1)) := by
  constructor
  · intro h
    refine ⟨fun i i1 hi j j1 hj => ?_, fun s hs => ⟨?_, ?_⟩⟩
    · have := h i j hi hj
      rw [hQ i i1 hi, hQ j j1 hj, show X i + Y - (X j + Y) = X i - X j by omega] at this
      exact this
    · have := h (s + 1) 0 (by omega) (by omega)
      rw [hQ (s + 1) (by omega) (by omega), h0, show X (s + 1) + Y - 0 = Y - -X (s + 1) by omega] at this
      exact this
    · have := h 0 (s + 1) (by omega) (by omega)
      rw [hQ (s + 1) (by omega) (by omega), h0, show 0 - (X (s + 1) + Y) = -X (s + 1) - Y by omega] at this
      exact this
  · rintro ⟨h1, h2⟩ i j hi hj
    by_cases i0 : i = 0
    · by_cases j0 : j = 0
      · subst i0; subst j0; rw [Int.sub_self, (chk_diag hc).1 0 (by omega)]; exact Zo.mt_one.2 (Int.le_refl _)
      · subst i0
        have := (h2 (j - 1) (by omega)).2
        rw [show j - 1 + 1 = j by omega] at this
        rw [h0, hQ j (by omega) hj, show 0 - (X j + Y) = -X j - Y by omega]
        exact this
    · by_cases j0 : j = 0
      · subst j0
        have := (h2 (i - 1) (by omega)).1
        rw [show i - 1 + 1 = i by omega] at this
        rw [h0, hQ i (by omega) hi, show X i + Y - 0 = Y - -X i by omega]
        exact this
      · rw [hQ i (by omega) hi, hQ j (by omega) hj, show X i + Y - (X j + Y) = X i - X j by omega]
        exact h1 i (by omega) hi j (by omega) hj

theorem dn_in (hc : chkE n l = 0) (hp : Zo.Pt n D X 2147483647) : Zo.In n (Zo.clo n (dnL n l)) D X ↔ (∀ i, 1 ≤ i → i ≤ n → ∀ j, 1 ≤ j → j ≤ n → Zo.mt D (X i - X j) (Zo.At n l i j)) ∧ ∀ s, s < n → Zo.mt D (- -X (s + 1)) (Zo.At n l (s + 1) 0) := by
  obtain ⟨hn, hl, hr⟩ := chk_len hc
  have ld : (dnL n l).length = (n + 1) * (n + 1) := by rw [dnL_len, hl]
  rw [clo_in hp (by omega) (wl_top' ld (dn_over hc).2.2)]
  constructor
  · intro h
    refine ⟨fun i i1 hi j j1 hj => ?_, fun s hs => ?_⟩
    · have := h i j hi hj
      rw [dnL_at hl hi hj, if_neg (by omega)] at this
      exact this
    · have := h (s + 1) 0 (by omega) (by omega)
      rw [dnL_at hl (by omega) (by omega), if_neg (by omega), hp.zero, show X (s + 1) - 0 = - -X (s + 1) by omega] at this
      exact this
  · rintro ⟨h1, h2⟩ i j hi hj
    rw [dnL_at hl hi hj]
    by_cases i0 : i = 0
    · by_cases j0 : j = 0
      · rw [if_neg (by omega)]
        subst i0; subst j0; rw [Int.sub_self, (chk_diag hc).1 0 (by omega)]; exact Zo.mt_one.2 (Int.le_refl _)
      · rw [if_pos ⟨i0, j0⟩]
        subst i0
        rw [hp.zero]
        have := hp.low j hj
        exact Zo.mt_one.2 (by omega)
    · rw [if_neg (by omega)]
      by_cases j0 : j = 0
      · subst j0
        have := h2 (i - 1) (by omega)
        rw [show i - 1 + 1 = i by omega] at this
        rw [hp.zero, show X i - 0 = - -X i by omega]
        exact this
      · exact h1 i (by omega) hi j (by omega) hj
where wl_top' {n : Nat} {l : List Int} (hl : l.length = (n + 1) * (n + 1)) (h : ∀ a b, a ≤ n → b ≤ n → Zo.Wl (Zo.At n l a b)) : Zo.Top n l :=
  ⟨hl, fun i j hi hj => by have := h i j hi hj; unfold Zo.Wl at this; omega⟩

/-- From the differences and the upper bounds: there is a delay. -/
theorem st_full (hr : rdE n l ps = 0) {x : Dl} {L H : Int} (hD : 0 < D) (hi : HiInv D x H n (fun t => -X (t + 1)) (fun t => Zo.At n l (t + 1) 0)) (lo : LoInv D x L n (fun t => -X (t + 1)) (fun t => Zo.At n l 0 (t + 1)))
    (h1 : ∀ i, 1 ≤ i → i ≤ n → ∀ j, 1 ≤ j → j ≤ n → Zo.mt D (X i - X j) (Zo.At n l i j)) : Full x L H ↔ ∀ s, s < n → Zo.mt D (- -X (s + 1)) (Zo.At n l (s + 1) 0) := by
  obtain ⟨hc, _, _, _⟩ := rd_parts hr
  refine ⟨fun h => full_up hi lo h, fun h => full_of hi lo h fun s r hs hr' hu hw => ?_⟩
  have t := chk_tri hc (s + 1) (r + 1) 0 (by omega) (by omega) (by omega)
  have m := h1 (s + 1) (by omega) (by omega) (r + 1) (by omega) (by omega)
  have tp : Zo.smW (Zo.At n l (s + 1) 0) (Zo.At n l 0 (r + 1)) ≤ 1099511627776 := Zo.smW_top (Bq.of (vl_of_lv (chk_lvs hc (by omega) (by omega)))) (Bq.of (vl_of_lv (chk_lvs hc (by omega) (by omega))))
  have m2 := mt_split hu hw (chk_lvs hc (by omega) (by omega)) (chk_lvs hc (by omega) (by omega)) (Zo.mt_mono hD t tp m)
  show -X (r + 1) - -X (s + 1) < _ ∨ _
  rw [show -X (r + 1) - -X (s + 1) = X (s + 1) - X (r + 1) by omega]
  exact m2

/-- A point is in Down exactly if it has delays. -/
theorem stay_math (hr : rdE n l ps = 0) (hg : (stR n l ps).2 = 0 ∨ (stR n l ps).2 = 4) : rdE n (Zo.clo n (dnL n l)) ps = 0 ∧ hsR n (Zo.clo n (dnL n l)) ps = decide ((stR n l ps).2 = 0) := by
  obtain ⟨hc, hp, hv, _⟩ := rd_parts hr
  have hr2 : rdE n (Zo.clo n (dnL n l)) ps = 0 := by rw [rdE_other (dn_chk hc) hc]; exact hr
  refine ⟨hr2, ?_⟩
  have ho := ov_of hv
  generalize dnP ps = D at ho
  generalize (fun i => (clk ps i).1 * (D / (clk ps i).2)) = X at ho
  have hpt := ho.pt hp hv
  obtain ⟨m0, m1⟩ := mt1_iff hr ho
  have es : stR n l ps = syV n l ps := by unfold stR; rw [if_neg (by rw [hr]; decide), Int.toNat_natCast]
  rw [es] at hg ⊢
  unfold syV at hg ⊢
  rw [if_neg (by rw [m0]; decide)] at hg ⊢
  by_cases e : (syR n l ps n).2 = 0
  · rw [if_neg (by omega)] at hg ⊢
    obtain ⟨L, H, hi, lo⟩ := st_inv hr ho e
    have he := empty_sc ho.pos lo.1 (fun q => (hi.2 q).1)
    rw [Bool.eq_iff_iff, has_in hr2 ho, dn_in hc hpt]
    by_cases c : (mtR n 1 l ps).1 = true
    · have h1 := m1.1 c
      have hf := st_full hr ho.pos hi lo h1
      cases k : (syR n l ps n).1.empty
      · rw [if_neg (by simp [c])]
        simp only [decide_true, iff_true]
        exact ⟨h1, hf.1 (he.1 k)⟩
      · rw [if_pos (Or.inr rfl)]
        constructor
        · intro h
          have := he.2 (hf.2 h.2)
          rw [k] at this; cases this
        · intro h; simp at h
    · rw [if_pos (Or.inl (by simpa using c))]
      constructor
      · intro h; exact absurd (m1.2 h.1) c
      · intro h; simp at h
  · exfalso
    rw [if_pos e] at hg
    rcases hg with hg | hg
    · exact e hg
    · exact sy_four n l ps n hg
end
end Go.Proofs.Ytbnebinpemejlaa

namespace Go.Proofs.Ytbnebinpemejlaa

theorem Ov.scale {D : Int} {X : Nat → Int} {ps : List Pq} (h : Ov D X ps) {k : Int} (hk : 0 < k) : Ov (D * k) (fun i => X i * k) ps := by
  refine ⟨Int.mul_pos h.pos hk, fun i hi => ?_⟩
  show X i * k * (clk ps i).2 = (clk ps i).1 * (D * k)
  rw [Int.mul_right_comm, h.val i hi, Int.mul_assoc]

/-- The sum of a value and the delay. -/
def adP (p : Pq) (dn dd : Int) : Pq := (mkNum (p.1 * dd + dn * p.2) (p.2 * dd), mkDen (p.1 * dd + dn * p.2) (p.2 * dd))

def adEr (p : Pq) (dn dd : Int) : Int := mkErr (p.1 * dd + dn * p.2) (p.2 * dd)

/-- Where the delays of Stay are told: the point after a delay is in the zone exactly if the delay is one of them. -/
theorem later_ok {n : Nat} {l : List Int} {ps qs : List Pq} {dn dd : Int} (hr : rdE n l ps = 0) (hd : vldB dn dd = true) (h0 : 0 ≤ dn) (hq : qs.length = ps.length) (ha : ∀ k, k < ps.length → gp qs k = adP (gp ps k) dn dd ∧ adEr (gp ps k) dn dd = 0) (hrq : rdE n l qs = 0) (hg : (stR n l ps).2 = 0) :
    vldB (stR n l ps).1.ln (stR n l ps).1.ld = true ∧ ((stR n l ps).1.nh = false → vldB (stR n l ps).1.hn (stR n l ps).1.hd = true) ∧
    hsR n l qs = ((decide ((stR n l ps).1.ln * dd < dn * (stR n l ps).1.ld) || (decide ((stR n l ps).1.ln * dd = dn * (stR n l ps).1.ld) && !(stR n l ps).1.lo)) && ((stR n l ps).1.nh || (decide (dn * (stR n l ps).1.hd < (stR n l ps).1.hn * dd) || (decide (dn * (stR n l ps).1.hd = (stR n l ps).1.hn * dd) && !(stR n l ps).1.ho)))) := by
  obtain ⟨hc, hp, hv, _⟩ := rd_parts hr
  have pd := vld_pos hd
  have ho0 := ov_of hv
  generalize dnP ps = D at ho0
  generalize (fun i => (clk ps i).1 * (D / (clk ps i).2)) = X0 at ho0
  have hD := ho0.pos
  have ho := ho0.scale (show 0 < dd by omega)
  have hXv := ho0.val
  obtain ⟨m0, m1⟩ := mt1_iff hr ho
  have es : stR n l ps = syV n l ps := by unfold stR; rw [if_neg (by rw [hr]; decide), Int.toNat_natCast]
  rw [es] at hg ⊢
  unfold syV at hg ⊢
  rw [if_neg (by rw [m0]; decide)] at hg ⊢
  by_cases e : (syR n l ps n).2 = 0
  · rw [if_neg (by omega)] at hg ⊢
    by_cases c : (mtR n 1 l ps).1 = false ∨ (syR n l ps n).1.empty = true
    · rw [if_pos c] at hg; exact absurd hg (by decide)
    · rw [if_neg c]
      obtain ⟨L, H, hi, lo⟩ := st_inv hr ho e
      have h1 := m1.1 (by simpa using fun q => c (Or.inl q))
      refine ⟨lo.1.vld, fun q => (hi.2 q).1.vld, ?_⟩
      have hY : Sc (D * dd) dn dd (dn * D) := ⟨hd, by rw [Int.mul_assoc]⟩
      -- the later point, over the same denominator
      have hQ : Ov (D * dd) (fun i => if i = 0 then 0 else X0 i * dd + dn * D) qs := by
        refine ⟨ho.pos, fun i hi => ?_⟩
        show (if i = 0 then 0 else X0 i * dd + dn * D) * (clk qs i).2 = (clk qs i).1 * (D * dd)
        by_cases z : i = 0
        · subst z; simp [clk]
        · rw [if_neg z]
          have e1 := hXv i (by omega)
          have e2 : clk ps i = gp ps (i - 1) := by unfold clk; rw [if_neg z]
          have e3 : clk qs i = gp qs (i - 1) := by unfold clk; rw [if_neg z]
          obtain ⟨a1, a2⟩ := ha (i - 1) (by omega)
          have pv := vld_pos (clk_vld hv (i := i) (by omega)).1
          rw [e2] at e1 pv
          rw [e3, a1]
          unfold adEr at a2
          obtain ⟨_, _, a3⟩ := mk_ok a2
          unfold adP
          show (X0 i * dd + dn * D) * mkDen _ _ = mkNum _ _ * (D * dd)
          generalize mkDen ((gp ps (i - 1)).1 * dd + dn * (gp ps (i - 1)).2) ((gp ps (i - 1)).2 * dd) = qd at *
          generalize mkNum ((gp ps (i - 1)).1 * dd + dn * (gp ps (i - 1)).2) ((gp ps (i - 1)).2 * dd) = qn at *
          generalize (gp ps (i - 1)).1 = pn at *
          generalize (gp ps (i - 1)).2 = pdd at *
          -- times pdd
          refine Int.eq_of_mul_eq_mul_right (a := pdd) (by omega) ?_
          have k1 : (X0 i * dd + dn * D) * pdd = (pn * dd + dn * pdd) * D := by
            rw [Int.add_mul, Int.mul_right_comm (X0 i), e1, Int.add_mul]
            congr 1
            · rw [Int.mul_right_comm]
            · rw [Int.mul_right_comm]
          rw [Int.mul_right_comm, k1, Int.mul_right_comm, ← a3]
          rw [Int.mul_assoc qn, Int.mul_assoc qn]
          congr 1
          rw [Int.mul_comm pdd dd, Int.mul_right_comm, Int.mul_comm dd D]
      rw [Bool.eq_iff_iff, has_in hrq hQ]
      rw [stay_in (X := fun i => X0 i * dd) hc (Y := dn * D) (by simp) (fun i i1 _ => by show (if i = 0 then 0 else _) = _; rw [if_neg (by omega)])]
      have mem := iv_member (Y := dn * D) hi lo
      have y0 : 0 ≤ dn * D := Int.mul_nonneg h0 (by omega)
      have key : (∀ s, s < n → Zo.mt (D * dd) (dn * D - -(X0 (s + 1) * dd)) (Zo.At n l (s + 1) 0) ∧ Zo.mt (D * dd) (-(X0 (s + 1) * dd) - dn * D) (Zo.At n l 0 (s + 1))) ↔ InI (syR n l ps n).1 L H (dn * D) := by
        rw [mem]; exact ⟨fun h => ⟨y0, h⟩, fun h => h.2⟩
      obtain ⟨c1, c2⟩ := sc_cmp ho.pos lo.1 hY
      constructor
      · rintro ⟨_, h2⟩
        obtain ⟨p, q⟩ := key.1 h2
        rw [Bool.and_eq_true]
        refine ⟨?_, ?_⟩
        · simp only [Bool.or_eq_true, Bool.and_eq_true, decide_eq_true_eq, Bool.not_eq_true']
          rcases p with p | ⟨p, p2⟩
          · exact Or.inl (c1.2 p)
          · exact Or.inr ⟨c2.2 p, p2⟩
        · cases hnh : (syR n l ps n).1.nh
          · obtain ⟨d1, d2⟩ := sc_cmp ho.pos hY (hi.2 hnh).1
            simp only [Bool.false_or, Bool.or_eq_true, Bool.and_eq_true, decide_eq_true_eq, Bool.not_eq_true']
            rcases q with q | q | ⟨q, q2⟩
            · rw [hnh] at q; cases q
            · exact Or.inl (d1.2 q)
            · exact Or.inr ⟨d2.2 q, q2⟩
          · rfl
      · intro h
        rw [Bool.and_eq_true] at h
        refine ⟨h1, key.2 ⟨?_, ?_⟩⟩
        · have h := h.1
          simp only [Bool.or_eq_true, Bool.and_eq_true, decide_eq_true_eq, Bool.not_eq_true'] at h
          rcases h with h | ⟨h, h2⟩
          · exact Or.inl (c1.1 h)
          · exact Or.inr ⟨c2.1 h, h2⟩
        · have h := h.2
          cases hnh : (syR n l ps n).1.nh
          · right
            rw [hnh] at h
            obtain ⟨d1, d2⟩ := sc_cmp ho.pos hY (hi.2 hnh).1
            simp only [Bool.false_or, Bool.or_eq_true, Bool.and_eq_true, decide_eq_true_eq, Bool.not_eq_true'] at h
            rcases h with h | ⟨h, h2⟩
            · exact Or.inl (d1.1 h)
            · exact Or.inr ⟨d2.1 h, h2⟩
          · exact Or.inl rfl
  · rw [if_pos e] at hg; exact absurd hg e

/-- Where there are no delays, the point is not in the zone after one. -/
theorem later_no {n : Nat} {l : List Int} {ps qs : List Pq} {dn dd : Int} (hr : rdE n l ps = 0) (hd : vldB dn dd = true) (h0 : 0 ≤ dn) (hq : qs.length = ps.length) (ha : ∀ k, k < ps.length → gp qs k = adP (gp ps k) dn dd ∧ adEr (gp ps k) dn dd = 0) (hrq : rdE n l qs = 0) (hg : (stR n l ps).2 = 4) :
    hsR n l qs = false := by
  obtain ⟨hc, hp, hv, _⟩ := rd_parts hr
  have pd := vld_pos hd
  have ho0 := ov_of hv
  generalize dnP ps = D at ho0
  generalize (fun i => (clk ps i).1 * (D / (clk ps i).2)) = X0 at ho0
  have hD := ho0.pos
  have ho := ho0.scale (show 0 < dd by omega)
  have hXv := ho0.val
  obtain ⟨m0, m1⟩ := mt1_iff hr ho
  have es : stR n l ps = syV n l ps := by unfold stR; rw [if_neg (by rw [hr]; decide), Int.toNat_natCast]
  rw [es] at hg
  unfold syV at hg
  rw [if_neg (by rw [m0]; decide)] at hg
  by_cases e : (syR n l ps n).2 = 0
  · rw [if_neg (by omega)] at hg
    by_cases c : (mtR n 1 l ps).1 = false ∨ (syR n l ps n).1.empty = true
    · obtain ⟨L, H, hi, lo⟩ := st_inv hr ho e
      have he := empty_sc ho.pos lo.1 (fun q => (hi.2 q).1)
      have hQ : Ov (D * dd) (fun i => if i = 0 then 0 else X0 i * dd + dn * D) qs := by
        refine ⟨ho.pos, fun i hi => ?_⟩
        show (if i = 0 then 0 else X0 i * dd + dn * D) * (clk qs i).2 = (clk qs i).1 * (D * dd)
        by_cases z : i = 0
        · subst z; simp [clk]
        · rw [if_neg z]
          have e1 := hXv i (by omega)
          have e2 : clk ps i = gp ps (i - 1) := by unfold clk; rw [if_neg z]
          have e3 : clk qs i = gp qs (i - 1) := by unfold clk; rw [if_neg z]
          obtain ⟨a1, a2⟩ := ha (i - 1) (by omega)
          have pv := vld_pos (clk_vld hv (i := i) (by omega)).1
          rw [e2] at e1 pv
          rw [e3, a1]
          unfold adEr at a2
          obtain ⟨_, _, a3⟩ := mk_ok a2
          unfold adP
          show (X0 i * dd + dn * D) * mkDen _ _ = mkNum _ _ * (D * dd)
          generalize mkDen ((gp ps (i - 1)).1 * dd + dn * (gp ps (i - 1)).2) ((gp ps (i - 1)).2 * dd) = qd at *
          generalize mkNum ((gp ps (i - 1)).1 * dd + dn * (gp ps (i - 1)).2) ((gp ps (i - 1)).2 * dd) = qn at *
          generalize (gp ps (i - 1)).1 = pn at *
          generalize (gp ps (i - 1)).2 = pdd at *
          refine Int.eq_of_mul_eq_mul_right (a := pdd) (by omega) ?_
          have k1 : (X0 i * dd + dn * D) * pdd = (pn * dd + dn * pdd) * D := by
            rw [Int.add_mul, Int.mul_right_comm (X0 i), e1, Int.add_mul]
            congr 1
            · rw [Int.mul_right_comm]
            · rw [Int.mul_right_comm]
          rw [Int.mul_right_comm, k1, Int.mul_right_comm, ← a3]
          rw [Int.mul_assoc qn, Int.mul_assoc qn]
          congr 1
          rw [Int.mul_comm pdd dd, Int.mul_right_comm, Int.mul_comm dd D]
      cases k : hsR n l qs
      · rfl
      · exfalso
        have hin := (has_in hrq hQ).1 k
        rw [stay_in (X := fun i => X0 i * dd) hc (Y := dn * D) (by simp) (fun i i1 _ => by show (if i = 0 then 0 else _) = _; rw [if_neg (by omega)])] at hin
        have hII := (iv_member (Y := dn * D) hi lo).2 ⟨Int.mul_nonneg h0 (by omega), hin.2⟩
        have h1 := m1.2 hin.1
        have h2 := he.2 (in_full hII)
        rcases c with c | c
        · rw [h1] at c; cases c
        · rw [h2] at c; cases c
    · rw [if_neg c] at hg; exact absurd hg (by show ¬ (0 : Int) = 4; decide)
  · rw [if_pos e] at hg; exact absurd hg (sy_four n l ps n)

/-- Middle lies between. -/
theorem mid_between {n d m c : Int} (he : mdE n d m c = 0) (h : midB n d m c = true) : vldB (mdN n d m c) (mdD n d m c) = true ∧ n * mdD n d m c < mdN n d m c * d ∧ mdN n d m c * c < m * mdD n d m c := by
  unfold mdE opErr at he
  unfold mdN mdD opNum opDen
  rw [h] at he ⊢
  simp only [if_true] at he ⊢
  obtain ⟨hA, hK⟩ := mid_args h
  have hbest : Best n d m c (midX n d m c) (midY n d m c) := smp_best _ n d m c hA.ends hK
  obtain ⟨hb, hv, hq⟩ := mk_ok he
  have hd := hA.ends.q1
  generalize midX n d m c = X at *
  generalize midY n d m c = Y at *
  obtain ⟨y1, b1, b2, mn⟩ := id hbest
  obtain ⟨Q1, _, _, _⟩ := vld_bd hv
  generalize mkNum X Y = P at *
  generalize mkDen X Y = Q at *
  have hc := hA.ends.s0
  refine ⟨hv, ?_, ?_⟩
  · rcases Int.lt_or_le (n * Q) (P * d) with h | h
    · exact h
    · exfalso
      have k1 : (P * d) * Y ≤ (n * Q) * Y := Int.mul_le_mul_of_nonneg_right h (by omega)
      have k2 : (n * Y) * Q < (X * d) * Q := Int.mul_lt_mul_of_pos_right b1 (by omega)
      have k3 : P * d * Y = X * d * Q := by rw [show P * d * Y = d * (P * Y) by ac_rfl, hq]; ac_rfl
      have k4 : n * Q * Y = n * Y * Q := by ac_rfl
      omega
  · rcases Int.lt_or_le (P * c) (m * Q) with h | h
    · exact h
    · exfalso
      have k1 : (m * Q) * Y ≤ (P * c) * Y := Int.mul_le_mul_of_nonneg_right h (by omega)
      have k2 : (X * c) * Q < (m * Y) * Q := Int.mul_lt_mul_of_pos_right b2 (by omega)
      have k3 : P * c * Y = X * c * Q := by rw [show P * c * Y = c * (P * Y) by ac_rfl, hq]; ac_rfl
      have k4 : m * Q * Y = m * Y * Q := by ac_rfl
      omega

theorem mid_B {n d m c : Int} (he : mdE n d m c = 0) : midB n d m c = true := by
  unfold mdE opErr at he
  cases h : midB n d m c
  · rw [h] at he; simp at he
  · rfl

theorem sc_one {D n d N M : Int} (h : Sc D n d N) (k : Sc D n d M) : N = M := by
  have p := vld_pos h.vld
  have := h.val.trans k.val.symm
  exact Int.eq_of_mul_eq_mul_right (by omega) this

theorem sc_nonneg {D n d N : Int} (hD : 0 < D) (h : Sc D n d N) : 0 ≤ N ↔ 0 ≤ n := by
  have p := vld_pos h.vld
  have v := h.val
  constructor
  · intro g
    have : 0 * D ≤ n * D := by rw [← v, Int.zero_mul]; exact Int.mul_nonneg g (by omega)
    exact Int.le_of_mul_le_mul_right this hD
  · intro g
    have : 0 * d ≤ N * d := by rw [v, Int.zero_mul]; exact Int.mul_nonneg g (by omega)
    exact Int.le_of_mul_le_mul_right this (by omega)

/-- What choose takes of an interval that is not empty lies in it. -/
theorem ch_in {D : Int} {x : Dl} {L H : Int} (hD : 0 < D) (h1 : Sc D x.ln x.ld L) (h0 : 0 ≤ L) (h2 : x.nh = false → Sc D x.hn x.hd H) (hf : Full x L H) (he : chE x = 0) :
    vldC (chN x, chD x) = true ∧ ∀ Y, Sc D (chN x) (chD x) Y → InI x L H Y := by
  unfold chE at he
  unfold chN chD
  unfold Full at hf
  have hln := (sc_nonneg hD h1).1 h0
  cases hlo : x.lo
  · simp only [Bool.false_eq_true, if_false]
    refine ⟨by unfold vldC; simp [h1.vld, hln], fun Y hY => ?_⟩
    have e := sc_one h1 hY
    subst e
    refine ⟨Or.inr ⟨rfl, hlo⟩, ?_⟩
    rcases hf with hf | hf | ⟨a, _, b⟩
    · exact Or.inl hf
    · exact Or.inr (Or.inl hf)
    · exact Or.inr (Or.inr ⟨a, b⟩)
  · rw [hlo] at he
    simp only [if_true] at he ⊢
    cases hnh : x.nh
    · rw [hnh] at he
      simp only [Bool.false_eq_true, if_false] at he ⊢
      obtain ⟨v, b1, b2⟩ := mid_between he (mid_B he)
      have p := vld_pos h1.vld
      have q := vld_pos v
      have hn0 : 0 ≤ mdN x.ln x.ld x.hn x.hd := by
        have : 0 ≤ x.ln * mdD x.ln x.ld x.hn x.hd := Int.mul_nonneg hln (by omega)
        have : 0 * x.ld ≤ mdN x.ln x.ld x.hn x.hd * x.ld := by omega
        exact Int.le_of_mul_le_mul_right this (by omega)
      refine ⟨by unfold vldC; simp [v, hn0], fun Y hY => ?_⟩
      exact ⟨Or.inl ((sc_cmp hD h1 hY).1.1 b1), Or.inr (Or.inl ((sc_cmp hD hY (h2 hnh)).1.1 b2))⟩
    · rw [hnh] at he
      simp only [if_true] at he ⊢
      have hs := sh_sc h1 he
      rw [Int.one_mul] at hs
      refine ⟨by unfold vldC; simp [hs.vld, (sc_nonneg hD hs).1 (by omega)], fun Y hY => ?_⟩
      have e := sc_one hs hY
      exact ⟨Or.inl (by omega), Or.inl hnh⟩

/-- Values over one denominator. -/
def Rp (D : Int) (X : Nat → Int) (P : List Pq) : Prop := 0 < D ∧ ∀ i, i < P.length → Sc D (gp P i).1 (gp P i).2 (X i)

theorem rp_of {P : List Pq} (hv : ∀ i, i < P.length → vldC (gp P i) = true) : ∃ D X, Rp D X P := by
  have h := ov_of hv
  refine ⟨_, fun i => (clk P (i + 1)).1 * (dnP P / (clk P (i + 1)).2), h.pos, fun i hi => ⟨?_, ?_⟩⟩
  · have := hv i hi; unfold vldC at this; simp at this; exact this.1
  · have : (clk P (i + 1)).1 * (dnP P / (clk P (i + 1)).2) * (clk P (i + 1)).2 = (clk P (i + 1)).1 * dnP P := h.val (i + 1) (by omega)
    have e : clk P (i + 1) = gp P i := by unfold clk; rw [if_neg (by omega)]; simp
    show (clk P (i + 1)).1 * (dnP P / (clk P (i + 1)).2) * (gp P i).2 = (gp P i).1 * dnP P
    rw [e] at this ⊢
    exact this

theorem gp_app {P : List Pq} {q : Pq} {i : Nat} : (i < P.length → gp (P ++ [q]) i = gp P i) ∧ (i = P.length → gp (P ++ [q]) i = q) := by
  constructor
  · intro h; simp [gp, List.getElem?_append, h]
  · intro h; subst h; simp [gp]

/-- Point's values, one after the other. -/
theorem pt_math {n : Nat} {l : List Int} (hc : chkE n l = 0) : ∀ k, k ≤ n → (ptR n l k).2 = 0 → (ptR n l k).1.length = k + 1 ∧ gp (ptR n l k).1 0 = (0, 1) ∧ (∀ i, i < (ptR n l k).1.length → vldC (gp (ptR n l k).1 i) = true) ∧
    ∀ D X, Rp D X (ptR n l k).1 → ∀ i j, i ≤ k → j ≤ k → Zo.mt D (X i - X j) (Zo.At n l i j) := by
  intro k
  induction k with
  | zero =>
    intro _ _
    refine ⟨rfl, rfl, fun i hi => ?_, fun D X _ i j hi hj => ?_⟩
    · obtain rfl : i = 0 := by simp [ptR] at hi; omega
      show vldC (0, 1) = true
      decide
    · obtain rfl : i = 0 := by omega
      obtain rfl : j = 0 := by omega
      rw [Int.sub_self, (chk_diag hc).1 0 (by omega)]; exact Zo.mt_one.2 (Int.le_refl _)
  | succ k ih =>
    intro hk he
    have e0 : (ptR n l k).2 = 0 := by
      by_cases c : (ptR n l k).2 = 0
      · exact c
      · rw [pt_stay (t := k) (m := k + 1) (by omega) c] at he; exact absurd he c
    obtain ⟨i1, i2, i3, i4⟩ := ih (by omega) e0
    have hs := pt_succ e0
    generalize (ptR n l k).1 = P at *
    by_cases c1 : (cxR n l P (k + 1) (k + 1)).2 = 0
    · rw [if_pos c1] at hs
      by_cases c2 : chE (cxR n l P (k + 1) (k + 1)).1 = 0
      · rw [if_pos c2] at hs
        rw [hs]
        obtain ⟨dg, rw0⟩ := chk_diag hc
        -- what the walk over the bounds gives, over any denominator
        have core : ∀ D X, Rp D X P → ∃ L H, HiInv D (cxR n l P (k + 1) (k + 1)).1 H (k + 1) X (fun t => Zo.At n l (k + 1) t) ∧ LoInv D (cxR n l P (k + 1) (k + 1)).1 L (k + 1) X (fun t => Zo.At n l t (k + 1)) ∧ Full (cxR n l P (k + 1) (k + 1)).1 L H := by
          intro D X hR
          obtain ⟨L, H, hi, lo⟩ := iv_inv hR.1 (T := k + 1) (cxR n l P (k + 1)) (fun t => gp P t) (fun t => Zo.At n l (k + 1) t) (fun t => Zo.At n l t (k + 1)) X rfl
            (fun t _ h => by show (if (cxR n l P (k + 1) t).2 = 0 then _ else cxR n l P (k + 1) t) = _; rw [if_pos h])
            (fun t h => by show (if (cxR n l P (k + 1) t).2 = 0 then _ else cxR n l P (k + 1) t) = _; rw [if_neg h])
            (fun t ht => hR.2 t (by omega)) (fun t ht => chk_lvs hc (by omega) (by omega)) (fun t ht => chk_lvs hc (by omega) (by omega)) (k + 1) (Nat.le_refl _) c1
          refine ⟨L, H, hi, lo, ?_⟩
          have hp : ∀ s r, s < k + 1 → r < k + 1 → Zo.At n l (k + 1) s ≠ 1099511627776 → Zo.At n l r (k + 1) ≠ 1099511627776 → (X r - X s < (Zo.At n l (k + 1) s / 2 + Zo.At n l r (k + 1) / 2) * D ∨ (X r - X s = (Zo.At n l (k + 1) s / 2 + Zo.At n l r (k + 1) / 2) * D ∧ ¬ Zo.At n l (k + 1) s % 2 = 0 ∧ ¬ Zo.At n l r (k + 1) % 2 = 0)) := by
            intro s r hs' hr' hu hw
            have m := i4 D X hR r s (by omega) (by omega)
            have t := chk_tri hc r s (k + 1) (by omega) (by omega) hk
            have tp : Zo.smW (Zo.At n l r (k + 1)) (Zo.At n l (k + 1) s) ≤ 1099511627776 := Zo.smW_top (Bq.of (vl_of_lv (chk_lvs hc (by omega) (by omega)))) (Bq.of (vl_of_lv (chk_lvs hc (by omega) (by omega))))
            have m2 := mt_split hw hu (chk_lvs hc (by omega) (by omega)) (chk_lvs hc (by omega) (by omega)) (Zo.mt_mono hR.1 t tp m)
            rw [Int.add_comm (Zo.At n l (k + 1) s / 2)]
            rcases m2 with m2 | ⟨a, b, c⟩
            · exact Or.inl m2
            · exact Or.inr ⟨a, c, b⟩
          refine full_of hi lo (fun s hs' => ?_) (fun s r hs' hr' hu hw => hp s r hs' hr' hu hw)
          have x0 : X 0 = 0 := by
            have := (hR.2 0 (by omega)).val
            rw [i2] at this
            simpa using this
          show Zo.mt D (-X s) (Zo.At n l (k + 1) s)
          have w0 := rw0 (k + 1) hk
          by_cases hu : Zo.At n l (k + 1) s = 1099511627776
          · exact Or.inl hu
          · have := hp s 0 hs' (by omega) hu (by omega)
            rw [x0, Int.add_mul] at this
            have z : Zo.At n l 0 (k + 1) / 2 * D ≤ 0 * D := Int.mul_le_mul_of_nonneg_right (by omega) (by have := hR.1; omega)
            rw [Int.zero_mul] at z
            unfold Zo.mt
            by_cases ev : Zo.At n l (k + 1) s % 2 = 0
            · right; left; exact ⟨ev, by rcases this with g | ⟨g, g2, _⟩ <;> omega⟩
            · right; right; exact ⟨ev, by rcases this with g | ⟨g, _⟩ <;> omega⟩
        have hvn : vldC (chN (cxR n l P (k + 1) (k + 1)).1, chD (cxR n l P (k + 1) (k + 1)).1) = true := by
          obtain ⟨D, X, hR⟩ := rp_of i3
          obtain ⟨L, H, hi, lo, hf⟩ := core D X hR
          exact (ch_in hR.1 lo.1 lo.2.1 (fun q => (hi.2 q).1) hf c2).1
        refine ⟨by simp [i1], ?_, fun i hi => ?_, fun D X hR i j hi hj => ?_⟩
        · rw [gp_app.1 (by omega)]; exact i2
        · simp at hi
          by_cases c : i < P.length
          · rw [gp_app.1 c]; exact i3 i c
          · rw [gp_app.2 (by omega)]; exact hvn
        · have hR0 : Rp D X P := ⟨hR.1, fun i hi => by have := hR.2 i (by simp; omega); rwa [gp_app.1 hi] at this⟩
          have hY : Sc D (chN (cxR n l P (k + 1) (k + 1)).1) (chD (cxR n l P (k + 1) (k + 1)).1) (X (k + 1)) := by
            have := hR.2 (k + 1) (by simp; omega)
            rwa [gp_app.2 (by omega)] at this
          obtain ⟨L, H, hi', lo, hf⟩ := core D X hR0
          have hin := (ch_in hR.1 lo.1 lo.2.1 (fun q => (hi'.2 q).1) hf c2).2 _ hY
          have mem := (iv_member hi' lo).1 hin
          by_cases a : i = k + 1
          · by_cases b : j = k + 1
            · subst a; subst b; rw [Int.sub_self, dg _ hk]; exact Zo.mt_one.2 (Int.le_refl _)
            · subst a; exact (mem.2 j (by omega)).1
          · by_cases b : j = k + 1
            · subst b; exact (mem.2 i (by omega)).2
            · exact i4 D X hR0 i j (by omega) (by omega)
      · rw [if_neg c2] at hs; rw [hs] at he; exact absurd he c2
    · rw [if_neg c1] at hs; rw [hs] at he; exact absurd he c1

theorem rdE_two' {n : Nat} {l : List Int} {ps : List Pq} (h1 : chkE n l = 0) (h2 : ps.length = n) (h3 : ∀ k, k < ps.length → vldC (gp ps k) = true) : rdE n l ps = 0 ∨ rdE n l ps = 7 := by
  unfold rdE
  rw [if_pos ⟨h1, by omega, rd_of h3⟩]
  split
  · exact Or.inl rfl
  · exact Or.inr rfl

/-- Point is in the zone. -/
theorem point_math {n : Nat} {l : List Int} (hc : chkE n l = 0) (he : pnE n l = 0) : Fits (pnL n l) ∧ (rdE n l (pnL n l) = 0 ∨ rdE n l (pnL n l) = 7) ∧ (rdE n l (pnL n l) = 0 → hsR n l (pnL n l) = true) := by
  unfold pnE at he
  rw [if_pos hc, Int.toNat_natCast] at he
  obtain ⟨h1, h2, h3, h4⟩ := pt_math hc n (Nat.le_refl _) he
  have e : pnL n l = (ptR n l n).1.drop 1 := by unfold pnL; rw [if_pos hc, Int.toNat_natCast]
  rw [e]
  generalize (ptR n l n).1 = P at *
  cases P with
  | nil => simp at h1
  | cons p qs =>
    have hp : p = (0, 1) := h2
    subst hp
    show Fits qs ∧ _
    have lq : qs.length = n := by simpa using h1
    have hv : ∀ k, k < qs.length → vldC (gp qs k) = true := fun k hk => h3 (k + 1) (by simp; omega)
    have hF : Fits qs := fun k hk => by
      have := hv k hk
      unfold vldC at this
      simp at this
      have := vld_pos this.1
      exact ⟨by unfold I64; omega, by unfold I64; omega⟩
    refine ⟨hF, rdE_two' hc lq hv, fun hr => ?_⟩
    have ho := ov_of hv
    generalize dnP qs = D at ho
    generalize (fun i => (clk qs i).1 * (D / (clk qs i).2)) = X at ho
    refine (has_in hr ho).2 (fun i j hi hj => h4 D X ⟨ho.pos, fun i hi => ⟨?_, ?_⟩⟩ i j hi hj)
    · have := h3 i hi; unfold vldC at this; simp at this; exact this.1
    · rw [clk_gp]; exact ho.val i (by simp at hi; omega)
end Go.Proofs.Ytbnebinpemejlaa

namespace Go.Proofs.Ytbnebinpemejlaa
open Go.RowKit

theorem ownQ_arg {w : World} {B n : Nat} {v : Value} {qs : List Pq} (hn : n = qs.length) (h : w.ownsRow B 52 2 v n (qV qs)) : ∃ qo qc, v = .slice qo n qc ∧ Arg2 w qo qs ∧ (qo = none → qc = 0) := by
  subst hn
  have h' := h
  rcases h.2 with ⟨rfl, hn⟩ | ⟨g, cap, cur, rfl, _⟩
  · exact ⟨none, 0, by rw [hn], fun hne => absurd (List.eq_nil_of_length_eq_zero hn) hne, fun _ => rfl⟩
  · exact ⟨_, cap, rfl, fun _ => ⟨_, rfl, OwnQ.rd h'⟩, fun q => by cases q⟩

set_option maxRecDepth 100000 in
set_option maxHeartbeats 1000000 in
theorem later_bad (N : Int) (ao : Option Addr) (len cap : Nat) (ps : List Pq) (po : Option Addr) (pc : Nat) (dn dd : Int) (x : Dl) (g : Int) (w : World) (VD : Hid (∀ W, Calls Try.prog 107 #[.agg #[.int .i64 dn, .int .i64 dd]] W (Made (.bool false) W))) :
    Calls Try.prog 52 #[.agg #[.int .i64 N, .slice ao len cap], .slice po ps.length pc, .agg #[.int .i64 dn, .int .i64 dd], .agg #[.int .i64 x.ln, .int .i64 x.ld, .int .i64 x.hn, .int .i64 x.hd, .bool x.lo, .bool x.ho, .bool x.nh], .int .i64 g] w (Made (.bool true) w) := by
  obtain ⟨w0, hw0⟩ : ∃ w0, w0 = (((w.alloc (.cells #[.int .i64 N, .slice ao len cap] 25)).alloc (.cells #[.int .i64 dn, .int .i64 dd] 52)).alloc (.cells #[.int .i64 x.ln, .int .i64 x.ld, .int .i64 x.hn, .int .i64 x.hd, .bool x.lo, .bool x.ho, .bool x.nh] 64)) := ⟨_, rfl⟩
  have BZ := Lib.hid (show Bx w0 w.heap.size #[.int .i64 N, .slice ao len cap] by rw [hw0]; exact ((Bx.made _ _ _).kept (one_more _)).kept (one_more _))
  have BD := Lib.hid (show Bx w0 (w.heap.size + 1) #[.int .i64 dn, .int .i64 dd] by
    rw [hw0]
    have := (Bx.made (w.alloc (.cells #[.int .i64 N, .slice ao len cap] 25)) #[.int .i64 dn, .int .i64 dd] 52).kept (one_more (.cells #[.int .i64 x.ln, .int .i64 x.ld, .int .i64 x.hn, .int .i64 x.hd, .bool x.lo, .bool x.ho, .bool x.nh] 64))
    simpa using this)
  have BS := Lib.hid (show Bx w0 (w.heap.size + 2) #[.int .i64 x.ln, .int .i64 x.ld, .int .i64 x.hn, .int .i64 x.hd, .bool x.lo, .bool x.ho, .bool x.nh] by
    rw [hw0]
    have := Bx.made ((w.alloc (.cells #[.int .i64 N, .slice ao len cap] 25)).alloc (.cells #[.int .i64 dn, .int .i64 dd] 52)) #[.int .i64 x.ln, .int .i64 x.ld, .int .i64 x.hn, .int .i64 x.hd, .bool x.lo, .bool x.ho, .bool x.nh] 64
    simpa using this)
  have E0 := Lib.hid (show Below w.heap.size w w0 by rw [hw0]; exact past_three (Below.refl _ _))
  have KF := Lib.hid (show ∀ W, Below w0.heap.size w0 W → (W.cell? ⟨w.heap.size, 0, none⟩ = some (.int .i64 N) ∧ W.cell? ⟨w.heap.size, 1, none⟩ = some (.slice ao len cap) ∧ W.cell? ⟨w.heap.size + 1, 0, none⟩ = some (.int .i64 dn) ∧ W.cell? ⟨w.heap.size + 1, 1, none⟩ = some (.int .i64 dd) ∧ W.cell? ⟨w.heap.size + 2, 0, none⟩ = some (.int .i64 x.ln) ∧ W.cell? ⟨w.heap.size + 2, 1, none⟩ = some (.int .i64 x.ld) ∧ W.cell? ⟨w.heap.size + 2, 2, none⟩ = some (.int .i64 x.hn) ∧ W.cell? ⟨w.heap.size + 2, 3, none⟩ = some (.int .i64 x.hd) ∧ W.cell? ⟨w.heap.size + 2, 4, none⟩ = some (.bool x.lo) ∧ W.cell? ⟨w.heap.size + 2, 5, none⟩ = some (.bool x.ho) ∧ W.cell? ⟨w.heap.size + 2, 6, none⟩ = some (.bool x.nh)) from fun W h => ⟨(BZ.out.kept h).cell 0, (BZ.out.kept h).cell 1, (BD.out.kept h).cell 0, (BD.out.kept h).cell 1, (BS.out.kept h).cell 0, (BS.out.kept h).cell 1, (BS.out.kept h).cell 2, (BS.out.kept h).cell 3, (BS.out.kept h).cell 4, (BS.out.kept h).cell 5, (BS.out.kept h).cell 6⟩)
  clear BZ BD BS
  go_enter Try.func52, Try.ntmps52
  go_upto_region 1 with (fail)
  rw [← hw0]
  clear hw0
  obtain ⟨z0, z1, d0, d1, s0, s1, s2, s3, s4, s5, s6⟩ := KF.out _ (Below.refl _ _)
  go_wp2_with fail
  refine (VD.out _).mono ?_
  rintro e w1 ⟨rfl, hb⟩
  have B1 := Lib.hid hb
  clear hb z0 z1 d0 d1 s0 s1 s2 s3 s4 s5 s6
  obtain ⟨z0, z1, d0, d1, s0, s1, s2, s3, s4, s5, s6⟩ := KF.out _ (B1.out)
  go_wp2_with fail
  go_ret
  exact ⟨rfl, below_on E0.out B1.out⟩

set_option maxRecDepth 100000 in
set_option maxHeartbeats 1000000 in
theorem later_neg (N : Int) (ao : Option Addr) (len cap : Nat) (ps : List Pq) (po : Option Addr) (pc : Nat) (dn dd : Int) (x : Dl) (g : Int) (w : World) (h0 : dn < 0) (VD : Hid (∀ W, Calls Try.prog 107 #[.agg #[.int .i64 dn, .int .i64 dd]] W (Made (.bool true) W))) :
    Calls Try.prog 52 #[.agg #[.int .i64 N, .slice ao len cap], .slice po ps.length pc, .agg #[.int .i64 dn, .int .i64 dd], .agg #[.int .i64 x.ln, .int .i64 x.ld, .int .i64 x.hn, .int .i64 x.hd, .bool x.lo, .bool x.ho, .bool x.nh], .int .i64 g] w (Made (.bool true) w) := by
  have G0 : decide (dn < 0) = true := decide_eq_true h0
  clear h0
  obtain ⟨w0, hw0⟩ : ∃ w0, w0 = (((w.alloc (.cells #[.int .i64 N, .slice ao len cap] 25)).alloc (.cells #[.int .i64 dn, .int .i64 dd] 52)).alloc (.cells #[.int .i64 x.ln, .int .i64 x.ld, .int .i64 x.hn, .int .i64 x.hd, .bool x.lo, .bool x.ho, .bool x.nh] 64)) := ⟨_, rfl⟩
  have BZ := Lib.hid (show Bx w0 w.heap.size #[.int .i64 N, .slice ao len cap] by rw [hw0]; exact ((Bx.made _ _ _).kept (one_more _)).kept (one_more _))
  have BD := Lib.hid (show Bx w0 (w.heap.size + 1) #[.int .i64 dn, .int .i64 dd] by
    rw [hw0]
    have := (Bx.made (w.alloc (.cells #[.int .i64 N, .slice ao len cap] 25)) #[.int .i64 dn, .int .i64 dd] 52).kept (one_more (.cells #[.int .i64 x.ln, .int .i64 x.ld, .int .i64 x.hn, .int .i64 x.hd, .bool x.lo, .bool x.ho, .bool x.nh] 64))
    simpa using this)
  have BS := Lib.hid (show Bx w0 (w.heap.size + 2) #[.int .i64 x.ln, .int .i64 x.ld, .int .i64 x.hn, .int .i64 x.hd, .bool x.lo, .bool x.ho, .bool x.nh] by
    rw [hw0]
    have := Bx.made ((w.alloc (.cells #[.int .i64 N, .slice ao len cap] 25)).alloc (.cells #[.int .i64 dn, .int .i64 dd] 52)) #[.int .i64 x.ln, .int .i64 x.ld, .int .i64 x.hn, .int .i64 x.hd, .bool x.lo, .bool x.ho, .bool x.nh] 64
    simpa using this)
  have E0 := Lib.hid (show Below w.heap.size w w0 by rw [hw0]; exact past_three (Below.refl _ _))
  have KF := Lib.hid (show ∀ W, Below w0.heap.size w0 W → (W.cell? ⟨w.heap.size, 0, none⟩ = some (.int .i64 N) ∧ W.cell? ⟨w.heap.size, 1, none⟩ = some (.slice ao len cap) ∧ W.cell? ⟨w.heap.size + 1, 0, none⟩ = some (.int .i64 dn) ∧ W.cell? ⟨w.heap.size + 1, 1, none⟩ = some (.int .i64 dd) ∧ W.cell? ⟨w.heap.size + 2, 0, none⟩ = some (.int .i64 x.ln) ∧ W.cell? ⟨w.heap.size + 2, 1, none⟩ = some (.int .i64 x.ld) ∧ W.cell? ⟨w.heap.size + 2, 2, none⟩ = some (.int .i64 x.hn) ∧ W.cell? ⟨w.heap.size + 2, 3, none⟩ = some (.int .i64 x.hd) ∧ W.cell? ⟨w.heap.size + 2, 4, none⟩ = some (.bool x.lo) ∧ W.cell? ⟨w.heap.size + 2, 5, none⟩ = some (.bool x.ho) ∧ W.cell? ⟨w.heap.size + 2, 6, none⟩ = some (.bool x.nh)) from fun W h => ⟨(BZ.out.kept h).cell 0, (BZ.out.kept h).cell 1, (BD.out.kept h).cell 0, (BD.out.kept h).cell 1, (BS.out.kept h).cell 0, (BS.out.kept h).cell 1, (BS.out.kept h).cell 2, (BS.out.kept h).cell 3, (BS.out.kept h).cell 4, (BS.out.kept h).cell 5, (BS.out.kept h).cell 6⟩)
  clear BZ BD BS
  go_enter Try.func52, Try.ntmps52
  go_upto_region 1 with (fail)
  rw [← hw0]
  clear hw0
  obtain ⟨z0, z1, d0, d1, s0, s1, s2, s3, s4, s5, s6⟩ := KF.out _ (Below.refl _ _)
  go_wp2_with fail
  refine (VD.out _).mono ?_
  rintro e w1 ⟨rfl, hb⟩
  have B1 := Lib.hid hb
  clear hb z0 z1 d0 d1 s0 s1 s2 s3 s4 s5 s6
  obtain ⟨z0, z1, d0, d1, s0, s1, s2, s3, s4, s5, s6⟩ := KF.out _ (B1.out)
  go_wp2_with fail
  go_ret
  exact ⟨rfl, below_on E0.out B1.out⟩
end Go.Proofs.Ytbnebinpemejlaa
