/- Plain mathematics: which points are in what Reset, Free, Before and Meet make.; Plain mathematics: what the law of members asks of Reset, Free, Before and Meet.; moved of the statements of layer 3. -/
import Derived.Test.YtbnebinpemejlaaHm3
import Derived.Test.YtbnebinpemejlaaHc8
import Derived.Test.YtbnebinpemejlaaHm4
import Derived.Test.YtbnebinpemejlaaHm1
import Derived.Test.YtbnebinpemejlaaHc10

namespace Go.Proofs.Ytbnebinpemejlaa
open Zo (pl Bq)

/-- A point with another value of the clock i. -/
def upd (X : Nat → Int) (i : Nat) (y : Int) : Nat → Int := fun k => if k = i then y else X k

theorem upd_at (X : Nat → Int) (i : Nat) (y : Int) : upd X i y i = y := by unfold upd; rw [if_pos rfl]

theorem upd_ne (X : Nat → Int) {i k : Nat} (y : Int) (h : ¬ k = i) : upd X i y k = X k := by unfold upd; rw [if_neg h]

theorem gp_set {ps : List Pq} {i : Nat} (q : Pq) {k : Nat} (hi : i < ps.length) : gp (ps.set i q) k = if k = i then q else gp ps k := by
  unfold gp
  rw [List.getD_eq_getElem?_getD, List.getD_eq_getElem?_getD, List.getElem?_set]
  by_cases c : i = k
  · subst c
    simp [hi]
  · rw [if_neg c, if_neg (fun e => c e.symm)]

theorem clk_set {ps : List Pq} {i : Nat} (q : Pq) {k : Nat} (h1 : 1 ≤ i) (hi : i ≤ ps.length) : clk (ps.set (i - 1) q) k = if k = i then q else clk ps k := by
  unfold clk
  by_cases z : k = 0
  · subst z; rw [if_pos rfl, if_neg (by omega), if_pos rfl]
  · rw [if_neg z, if_neg z, gp_set q (by omega)]
    by_cases c : k = i
    · subst c; rw [if_pos rfl, if_pos rfl]
    · rw [if_neg (by omega), if_neg c]

theorem Ov.set {D : Int} {X : Nat → Int} {ps : List Pq} (h : Ov D X ps) {i : Nat} {c : Int} (h1 : 1 ≤ i) (hi : i ≤ ps.length) : Ov D (upd X i (c * D)) (ps.set (i - 1) (c, 1)) := by
  refine ⟨h.pos, fun k hk => ?_⟩
  rw [List.length_set] at hk
  rw [clk_set _ h1 hi]
  by_cases e : k = i
  · subst e; rw [upd_at, if_pos rfl]; simp
  · rw [upd_ne _ _ e, if_neg e]; exact h.val k hk

theorem mt_shift {D q x k : Int} (hx : Bq x) (h0 : -2097152 ≤ k) (h1 : k ≤ 2097152) : Zo.mt D q (pl x (2 * k)) → Zo.mt D (q - k * D) x := by
  unfold Zo.mt pl Bq at *
  intro h
  by_cases c : x = 1099511627776
  · exact Or.inl c
  · rw [if_neg c] at h
    have e : (x + 2 * k) / 2 * D = x / 2 * D + k * D := by rw [show (x + 2 * k) / 2 = x / 2 + k by omega, Int.add_mul]
    rcases h with h | ⟨p, g⟩ | ⟨p, g⟩
    · omega
    · right; left; exact ⟨by omega, by omega⟩
    · right; right; exact ⟨by omega, by omega⟩

section
variable {n i : Nat} {c : Int} {l : List Int}

theorem re_closed (hc : chkE n l = 0) (h1 : 1 ≤ i) (hi : i ≤ n) (h0 : 0 ≤ c) (h2 : c ≤ 1048576) : reE n i c l = 0 := by
  obtain ⟨hn, hl, hr⟩ := chk_len hc
  obtain ⟨fz, fe⟩ := fr_zone hn hl hc h1 hi
  have hk := frG_chk hn hl hc h1
  obtain ⟨D, hD⟩ := chk_cl hn hl hc
  have hok : ∀ t, t < (isC (i : Int) 0 c).length → okC n (gc (isC (i : Int) 0 c) t) = true := isC_ok (n := n) (i := i) (j := 0) (c := c) hi (by omega) h0 h2
  have vl := fun a b ha hb => vl_of hl hr a b ha hb
  have vb : ∀ a b, a ≤ n → b ≤ n → Bq (Zo.At n l a b) := fun a b ha hb => Bq.of (vl a b ha hb)
  unfold reE
  rw [if_pos fe]
  unfold reM
  rw [fz]
  unfold anG
  rw [if_pos hk, Int.toNat_natCast]
  unfold anE
  rw [if_pos (okC_all hok)]
  -- the matrix K, the constraints laid on it
  have lk : (mk n (frG n i l)).length = (n + 1) * (n + 1) := mk_len _ _
  have hwk := wl_of lk (chk_len hk).2.2
  have hwL := an_wl hok lk hwk
  have lL : (anL n (isC i 0 c) (mk n (frG n i l))).length = (n + 1) * (n + 1) := by rw [anL_len, lk]
  have hat : ∀ a b, a ≤ n → b ≤ n → Zo.At n (anL n (isC i 0 c) (mk n (frG n i l))) a b = if a = 0 ∧ b = i then imin (frG n i l 0 i) (-2 * c + 1) else if a = i ∧ b = 0 then imin (frG n i l i 0) (2 * c + 1) else frG n i l a b := by
    intro a b ha hb
    rw [isC_at lk h1 hi hb, mk_at _ (by omega) hi, mk_at _ hi (by omega), mk_at _ ha hb]
  obtain ⟨dg, rw0⟩ := chk_diag hc
  have hlow : ∀ a, a ≤ n → 1 ≤ Zo.At n l a 0 := fun a ha => hD.low ha
  generalize anL n (isC i 0 c) (mk n (frG n i l)) = L at *
  obtain ⟨D2, hG⟩ := Zo.bx_cl (i := i) (e := 2 * c) hD h1 (by omega) (by omega) (by omega)
  have gat : ∀ a b, a ≤ n → b ≤ n → Zo.At n (mk n (Zo.bxG n i (2 * c) l)) a b = Zo.bxG n i (2 * c) l a b := fun a b ha hb => mk_at _ ha hb
  have glt : ∀ a b, a ≤ n → b ≤ n → Zo.bxG n i (2 * c) l a b ≤ Zo.At n L a b := by
    intro a b ha hb
    rw [hat a b ha hb]
    unfold Zo.bxG
    have va := vb a 0 ha (by omega)
    have v0 := vb 0 b (by omega) hb
    have d0 := dg 0 (by omega)
    have r0 := rw0 b hb
    by_cases e1 : a = i
    · rw [if_pos e1]
      by_cases e2 : b = i
      · rw [if_pos e2, if_neg (by omega), if_neg (by omega), frG_ii e1 e2]; omega
      · rw [if_neg e2, if_neg (by omega)]
        by_cases e3 : b = 0
        · subst e3
          rw [if_pos ⟨e1, rfl⟩, frG_ib rfl (by omega), d0]
          unfold imin pl; omega
        · rw [if_neg (by omega), frG_ib e1 e2]
          unfold pl Bq at *
          split <;> omega
    · rw [if_neg e1]
      by_cases e2 : b = i
      · rw [if_pos e2]
        by_cases e3 : a = 0
        · subst e3
          rw [if_pos ⟨rfl, e2⟩, frG_ai (by omega) rfl, d0]
          unfold imin pl; omega
        · rw [if_neg (by omega), if_neg (by omega), frG_ai e1 e2]
          unfold pl Bq at *
          split <;> omega
      · rw [if_neg e2, if_neg (by omega), if_neg (by omega), frG_ab e1 e2]
        omega
  obtain ⟨o1, o2⟩ := Zo.clo_over hn lL hwL hG (fun a b ha hb => by rw [gat a b ha hb]; exact glt a b ha hb)
  have hcl := Zo.Cl.of hn lL hwL o1
  have ole := Zo.le_clo lL
  rw [cloE_zero]
  refine ⟨cloB_iff.2 o1, all_of_lv (by rw [Zo.clo_length, lL]) (fun a b ha hb => ?_)⟩
  -- each element is that of the closed matrix
  have g1 := o2 a b ha hb
  rw [gat a b ha hb] at g1
  have b1 := ole a b ha hb
  rw [hat a b ha hb] at b1
  have lva := chk_lvs hc ha (show 0 ≤ n by omega)
  have lvb := chk_lvs hc (show 0 ≤ n by omega) hb
  have lvab := chk_lvs hc ha hb
  have cl0 : Zo.At n (Zo.clo n L) i 0 = 2 * c + 1 := by
    have x := o2 i 0 hi (by omega)
    have y := ole i 0 hi (by omega)
    rw [gat i 0 hi (by omega)] at x
    rw [hat i 0 hi (by omega), if_neg (by omega), if_pos ⟨rfl, rfl⟩] at y
    unfold Zo.bxG at x
    rw [if_pos rfl, if_neg (by omega), dg 0 (by omega)] at x
    unfold imin at y
    unfold pl at x
    omega
  have c0l : Zo.At n (Zo.clo n L) 0 i = -2 * c + 1 := by
    have x := o2 0 i (by omega) hi
    have y := ole 0 i (by omega) hi
    rw [gat 0 i (by omega) hi] at x
    rw [hat 0 i (by omega) hi, if_pos ⟨rfl, rfl⟩] at y
    unfold Zo.bxG at x
    rw [if_neg (by omega), if_pos rfl, dg 0 (by omega)] at x
    unfold imin at y
    unfold pl at x
    omega
  by_cases e1 : a = i
  · by_cases e2 : b = i
    · have : Zo.At n (Zo.clo n L) a b = 1 := by rw [e1, e2]; exact hcl.one hi
      rw [this]; decide
    · have xb : Zo.At n (Zo.clo n L) 0 b ≤ Zo.At n l 0 b := by
        have y := ole 0 b (by omega) hb
        rw [hat 0 b (by omega) hb, if_neg (by omega), if_neg (by omega), frG_ab (by omega) e2] at y
        exact y
      have t := hcl.sums (i := i) (j := b) (k := 0) hi hb (by omega)
      have lim := hcl.lim (show 0 ≤ n by omega) hb
      have t2 := Int.le_trans t (smW_mono (hcl.lim hi (show 0 ≤ n by omega)) lim (hcl.lim hi (show 0 ≤ n by omega)) (vb 0 b (by omega) hb) (Int.le_refl _) xb)
      rw [cl0, Zo.smW_comm, smW_odd (vb 0 b (by omega) hb) (by omega) (by omega) (by omega)] at t2
      have g := g1
      unfold Zo.bxG at g
      rw [if_pos e1, if_neg e2] at g
      have : Zo.At n (Zo.clo n L) a b = pl (Zo.At n l 0 b) (2 * c) := by rw [e1] at g ⊢; omega
      rw [this]
      exact lv_high lvb (rw0 b hb) (by omega) (by omega)
  · by_cases e2 : b = i
    · have xa : Zo.At n (Zo.clo n L) a 0 ≤ Zo.At n l a 0 := by
        have y := ole a 0 ha (by omega)
        rw [hat a 0 ha (by omega), if_neg (by omega), if_neg (by omega), frG_ab e1 (by omega)] at y
        exact y
      have t := hcl.sums (i := a) (j := i) (k := 0) ha hi (by omega)
      have t2 := Int.le_trans t (smW_mono (hcl.lim ha (show 0 ≤ n by omega)) (hcl.lim (show 0 ≤ n by omega) hi) (vb a 0 ha (by omega)) (hcl.lim (show 0 ≤ n by omega) hi) xa (Int.le_refl _))
      rw [c0l, show -2 * c + 1 = -(2 * c) + 1 by omega, smW_odd (vb a 0 ha (by omega)) (by omega) (by omega) (by omega)] at t2
      have g := g1
      unfold Zo.bxG at g
      rw [if_neg e1, if_pos e2] at g
      have : Zo.At n (Zo.clo n L) a b = pl (Zo.At n l a 0) (-(2 * c)) := by rw [e2] at g ⊢; omega
      rw [this]
      exact lv_low lva (hlow a ha) (by omega) (by omega)
    · rw [if_neg (by omega), if_neg (by omega), frG_ab e1 e2] at b1
      unfold Zo.bxG at g1
      rw [if_neg e1, if_neg e2] at g1
      rw [show Zo.At n (Zo.clo n L) a b = Zo.At n l a b by omega]
      exact lvab

/-- Freeing a clock. -/
theorem fr_in {D : Int} {X : Nat → Int} (hl : l.length = (n + 1) * (n + 1)) (hi : i ≤ n) (h : ∀ a b, a ≤ n → b ≤ n → ¬ a = i → ¬ b = i → Zo.mt D (X a - X b) (Zo.At n l a b)) (hd : Zo.mt D 0 (Zo.At n l i i)) : Zo.In n (frL n i l) D X := by
  intro a b ha hb
  rw [frL_at hl hi ha hb]
  by_cases c : (a = i ∨ b = i) ∧ a ≠ b
  · rw [if_pos c]; exact Zo.mt_none _ _
  · rw [if_neg c]
    by_cases e : a = i
    · have : b = i := by omega
      subst e; subst this; rw [Int.sub_self]; exact hd
    · exact h a b ha hb e (by intro q; exact c ⟨Or.inr q, by omega⟩)

theorem fr_out {D : Int} {X : Nat → Int} (hl : l.length = (n + 1) * (n + 1)) (hi : i ≤ n) (h : Zo.In n (frL n i l) D X) : ∀ a b, a ≤ n → b ≤ n → ¬ a = i → ¬ b = i → Zo.mt D (X a - X b) (Zo.At n l a b) := by
  intro a b ha hb e1 e2
  have := h a b ha hb
  rw [frL_at hl hi ha hb, if_neg (by omega)] at this
  exact this

theorem frL_top (h : Zo.Top n l) (hi : i ≤ n) : Zo.Top n (frL n i l) := by
  refine ⟨by rw [frL_len]; exact h.1, fun a b ha hb => ?_⟩
  rw [frL_at h.1 hi ha hb]
  split
  · omega
  · exact h.2 a b ha hb

theorem mt_is {D X c : Int} : Zo.mt D (X - 0) (2 * c + 1) ↔ X ≤ c * D := by
  unfold Zo.mt
  rw [Int.sub_zero, show (2 * c + 1) / 2 = c by omega]
  have : (2 * c + 1) % 2 = 1 := by omega
  constructor
  · rintro (h | h | h) <;> omega
  · intro h; right; right; omega

theorem isC_in {D : Int} {X : Nat → Int} (ht : Zo.Top n l) (hD : 0 < D) (h0 : X 0 = 0) (hi : i ≤ n) (hx : X i = c * D) (hc0 : 0 ≤ c) (hc1 : c ≤ 1048576) : Zo.In n (anL n (isC i 0 c) l) D X ↔ Zo.In n l D X := by
  have hok : ∀ t, t < (isC (i : Int) 0 c).length → okC n (gc (isC (i : Int) 0 c) t) = true := isC_ok (n := n) (i := i) (j := 0) (c := c) hi (by omega) hc0 hc1
  rw [an_in hD ht hok]
  constructor
  · exact fun h => h.1
  · refine fun h => ⟨h, fun t ht => ?_⟩
    have : t = 0 ∨ t = 1 := by simp [isC] at ht; omega
    rcases this with rfl | rfl
    · have e1 : gc (isC (i : Int) 0 c) 0 = ((i : Int), 0, 2 * c + 1) := rfl
      rw [e1]
      show Zo.mt D (X ((i : Int)).toNat - X ((0 : Int)).toNat) (2 * c + 1)
      rw [Int.toNat_natCast, show ((0 : Int)).toNat = 0 from rfl, h0, mt_is]
      omega
    · have e1 : gc (isC (i : Int) 0 c) 1 = (0, (i : Int), -2 * c + 1) := rfl
      rw [e1]
      show Zo.mt D (X ((0 : Int)).toNat - X ((i : Int)).toNat) (-2 * c + 1)
      rw [Int.toNat_natCast, show ((0 : Int)).toNat = 0 from rfl, h0, show -2 * c + 1 = 2 * (-c) + 1 by omega, show (0 : Int) - X i = -X i - 0 by omega, mt_is, Int.neg_mul]
      omega
end
end Go.Proofs.Ytbnebinpemejlaa

namespace Go.Proofs.Ytbnebinpemejlaa
open Zo (pl Bq)

theorem cloE_three (n : Nat) (l : List Int) : cloE n l = 0 ∨ cloE n l = 4 ∨ cloE n l = 7 := by
  unfold cloE
  cases cloB n l
  · by_cases c : (Zo.clo n l).all lvB = true
    · left; simp [c]
    · right; right; simp [c]
  · right; left; rfl

theorem rdE_two {n : Nat} {l : List Int} {ps : List Pq} (h1 : chkE n l = 0) (h2 : ps.length = n) (h3 : ∀ k, k < ps.length → vldC (gp ps k) = true) : rdE n l ps = 0 ∨ rdE n l ps = 7 := by
  unfold rdE
  rw [if_pos ⟨h1, by omega, rd_of h3⟩]
  split
  · exact Or.inl rfl
  · exact Or.inr rfl

section
variable {n i : Nat} {c : Int} {l : List Int} {ps : List Pq}

theorem re_E (hc : chkE n l = 0) (h1 : 1 ≤ i) (hi : i ≤ n) (h0 : 0 ≤ c) (h2 : c ≤ 1048576) : chkE n (reM n i l) = 0 ∧ chkE n (reL n i c l) = 0 ∧ Zo.Top n (anL n (isC i 0 c) (reM n i l)) := by
  obtain ⟨hn, hl, hr⟩ := chk_len hc
  obtain ⟨fz, fe⟩ := fr_zone hn hl hc h1 hi
  have hm : chkE n (reM n i l) = 0 := by unfold reM; rw [fz]; exact frG_chk hn hl hc h1
  have e := re_closed hc h1 hi h0 h2
  unfold reE at e
  rw [if_pos fe] at e
  obtain ⟨hok, hE⟩ := anG_ok hm (by rw [e]; decide)
  obtain ⟨_, lm, rm⟩ := chk_len hm
  have hw := an_wl hok lm (wl_of lm rm)
  have lL : (anL n (isC i 0 c) (reM n i l)).length = (n + 1) * (n + 1) := by rw [anL_len, lm]
  exact ⟨hm, clo_chk hn lL hw (by rw [← hE]; exact e), wl_top lL hw⟩

theorem fr_E (hc : chkE n l = 0) (h1 : 1 ≤ i) (hi : i ≤ n) : chkE n (Zo.clo n (frL n i l)) = 0 ∧ cloE n (frL n i l) = 0 := by
  obtain ⟨hn, hl, hr⟩ := chk_len hc
  obtain ⟨fz, fe⟩ := fr_zone hn hl hc h1 hi
  exact ⟨by rw [fz]; exact frG_chk hn hl hc h1, fe⟩

theorem qs_ok (hv : ∀ k, k < ps.length → vldC (gp ps k) = true) (h1 : 1 ≤ i) (hi : i ≤ ps.length) (h0 : 0 ≤ c) (h2 : c ≤ 1000) : ∀ k, k < (ps.set (i - 1) (c, 1)).length → vldC (gp (ps.set (i - 1) (c, 1)) k) = true := by
  intro k hk
  rw [List.length_set] at hk
  rw [gp_set _ (by omega)]
  split
  · unfold vldC
    rw [vld_small (by omega) (by omega)]
    simp [h0]
  · exact hv k hk

/-- The point, and the one with the clock i at c, in Reset and Free. -/
theorem in_moved {D : Int} {X : Nat → Int} (hc : chkE n l = 0) (h1 : 1 ≤ i) (hi : i ≤ n) (h0 : 0 ≤ c) (h2 : c ≤ 1048576) {M : Int} (hp : Zo.Pt n D (upd X i (c * D)) M) (hM : M ≤ 4611686018427387) (h : Zo.In n l D X) :
    Zo.In n (reL n i c l) D (upd X i (c * D)) ∧ Zo.In n (Zo.clo n (frL n i l)) D (upd X i (c * D)) := by
  obtain ⟨hn, hl, hr⟩ := chk_len hc
  obtain ⟨k1, k2, k3⟩ := re_E hc h1 hi h0 h2
  have hf : Zo.In n (Zo.clo n (frL n i l)) D (upd X i (c * D)) := by
    refine (clo_in hp hM (frL_top (chk_top hc) hi)).2 (fr_in hl hi (fun a b ha hb e1 e2 => ?_) ?_)
    · rw [upd_ne _ _ e1, upd_ne _ _ e2]; exact h a b ha hb
    · rw [(chk_diag hc).1 i hi]; exact Zo.mt_one.2 (Int.le_refl _)
  refine ⟨?_, hf⟩
  unfold reL
  refine (clo_in hp hM k3).2 ((isC_in (chk_top k1) hp.pos hp.zero hi (upd_at _ _ _) h0 h2).2 ?_)
  exact hf

/-- Before. -/
theorem be_E (hc : chkE n l = 0) (h1 : 1 ≤ i) (hi : i ≤ n) (h0 : 0 ≤ c) (h2 : c ≤ 1048576) :
    beE n i c l = cloE n (anL n (isC i 0 c) l) ∧ Zo.Top n (anL n (isC i 0 c) l) ∧ (cloE n (anL n (isC i 0 c) l) = 0 → chkE n (beM n i c l) = 0 ∧ chkE n (beL n i c l) = 0) := by
  obtain ⟨hn, hl, hr⟩ := chk_len hc
  have hok : ∀ t, t < (isC (i : Int) 0 c).length → okC n (gc (isC (i : Int) 0 c) t) = true := isC_ok (n := n) (i := i) (j := 0) (c := c) hi (by omega) h0 h2
  have hw := an_wl hok hl (wl_of hl hr)
  have lL : (anL n (isC i 0 c) l).length = (n + 1) * (n + 1) := by rw [anL_len, hl]
  have ea : anE n (isC i 0 c) l = cloE n (anL n (isC i 0 c) l) := by unfold anE; rw [if_pos (okC_all hok)]
  have hb : cloE n (anL n (isC i 0 c) l) = 0 → chkE n (beM n i c l) = 0 := fun e => clo_chk hn lL hw e
  refine ⟨?_, wl_top lL hw, fun e => ⟨hb e, ?_⟩⟩
  · unfold beE
    rw [ea]
    by_cases e : cloE n (anL n (isC i 0 c) l) = 0
    · rw [if_pos e, e]
      unfold frE
      rw [if_pos ⟨hb e, by omega, by omega⟩]
      simp only [Int.toNat_natCast]
      exact (fr_E (hb e) h1 hi).2
    · rw [if_neg e]
  · exact (fr_E (hb e) h1 hi).1

theorem in_before {D : Int} {X : Nat → Int} (hc : chkE n l = 0) (h1 : 1 ≤ i) (hi : i ≤ n) (h0 : 0 ≤ c) (h2 : c ≤ 1048576) {M : Int} (hp : Zo.Pt n D (upd X i (c * D)) M) (hq : Zo.Pt n D X M) (hM : M ≤ 4611686018427387)
    (he : cloE n (anL n (isC i 0 c) l) = 0) : Zo.In n (beL n i c l) D X ↔ Zo.In n l D (upd X i (c * D)) := by
  obtain ⟨hn, hl, hr⟩ := chk_len hc
  obtain ⟨k1, k2, k3⟩ := be_E hc h1 hi h0 h2
  obtain ⟨cm, cb⟩ := k3 he
  obtain ⟨_, lm, rm⟩ := chk_len cm
  have ht := chk_top hc
  have vm := fun a b ha hb => Bq.of (vl_of lm rm a b ha hb)
  have vl := fun a b ha hb => Bq.of (vl_of hl hr a b ha hb)
  unfold beL
  rw [clo_in hq hM (frL_top (chk_top cm) hi)]
  have le : ∀ a b, a ≤ n → b ≤ n → Zo.At n (beM n i c l) a b ≤ Zo.At n (anL n (isC i 0 c) l) a b := Zo.le_clo k2.1
  have at' : ∀ a b, a ≤ n → b ≤ n → Zo.At n (anL n (isC i 0 c) l) a b = if a = 0 ∧ b = i then imin (Zo.At n l 0 i) (-2 * c + 1) else if a = i ∧ b = 0 then imin (Zo.At n l i 0) (2 * c + 1) else Zo.At n l a b := fun a b _ hb => isC_at hl h1 hi hb
  have leL : ∀ a b, a ≤ n → b ≤ n → Zo.At n (beM n i c l) a b ≤ Zo.At n l a b := by
    intro a b ha hb
    have x := le a b ha hb
    rw [at' a b ha hb] at x
    split at x
    · rename_i e; rw [e.1, e.2] at x ⊢; unfold imin at x; omega
    · split at x
      · rename_i e; rw [e.1, e.2] at x ⊢; unfold imin at x; omega
      · exact x
  have b1 : Zo.At n (beM n i c l) 0 i ≤ -2 * c + 1 := by
    have x := le 0 i (by omega) hi
    rw [at' 0 i (by omega) hi, if_pos ⟨rfl, rfl⟩] at x
    unfold imin at x; omega
  have b2 : Zo.At n (beM n i c l) i 0 ≤ 2 * c + 1 := by
    have x := le i 0 hi (by omega)
    rw [at' i 0 hi (by omega), if_neg (by omega), if_pos ⟨rfl, rfl⟩] at x
    unfold imin at x; omega
  have x0 : X 0 = 0 := hq.zero
  constructor
  · intro h
    have ho := fr_out lm hi h
    intro a b ha hb
    by_cases e1 : a = i
    · by_cases e2 : b = i
      · subst e1; subst e2
        rw [Int.sub_self, (chk_diag hc).1 _ hi]; exact Zo.mt_one.2 (Int.le_refl _)
      · subst e1
        rw [upd_at, upd_ne _ _ e2]
        have g := ho 0 b (by omega) hb (by omega) e2
        have t := chk_tri cm 0 b a (by omega) hb ha
        have t2 := Int.le_trans t (smW_mono (vm 0 a (by omega) ha) (vm a b ha hb) (by unfold Bq; omega : Bq (-2 * c + 1)) (vl a b ha hb) b1 (leL a b ha hb))
        rw [Zo.smW_comm, show -2 * c + 1 = 2 * (-c) + 1 by omega, smW_odd (vl a b ha hb) (by omega) (by omega) (by omega)] at t2
        have g2 := Zo.mt_mono hq.pos t2 (by have := vl a b ha hb; unfold Bq at this; unfold pl; split <;> omega) g
        have g3 := mt_shift (vl a b ha hb) (by omega) (by omega) g2
        rw [x0, Int.neg_mul] at g3
        rw [show c * D - X b = 0 - X b - -(c * D) by omega]
        exact g3
    · by_cases e2 : b = i
      · subst e2
        rw [upd_at, upd_ne _ _ e1]
        have g := ho a 0 ha (by omega) e1 (by omega)
        have t := chk_tri cm a 0 b ha (by omega) hb
        have t2 := Int.le_trans t (smW_mono (vm a b ha hb) (vm b 0 hb (by omega)) (vl a b ha hb) (by unfold Bq; omega : Bq (2 * c + 1)) (leL a b ha hb) b2)
        rw [smW_odd (vl a b ha hb) (by omega) (by omega) (by omega)] at t2
        have g2 := Zo.mt_mono hq.pos t2 (by have := vl a b ha hb; unfold Bq at this; unfold pl; split <;> omega) g
        have g3 := mt_shift (vl a b ha hb) (by omega) (by omega) g2
        rw [x0] at g3
        rw [show X a - c * D = X a - 0 - c * D by omega]
        exact g3
      · rw [upd_ne _ _ e1, upd_ne _ _ e2]
        exact Zo.mt_mono hq.pos (leL a b ha hb) (ht.2 a b ha hb) (ho a b ha hb e1 e2)
  · intro h
    have hz : upd X i (c * D) 0 = 0 := hp.zero
    have h2' := (clo_in hp hM k2).2 ((isC_in ht hp.pos hz hi (upd_at _ _ _) h0 h2).2 h)
    refine fr_in lm hi (fun a b ha hb e1 e2 => ?_) ?_
    · have := h2' a b ha hb
      rw [upd_ne _ _ e1, upd_ne _ _ e2] at this
      exact this
    · rw [(chk_diag cm).1 i hi]; exact Zo.mt_one.2 (Int.le_refl _)

/-- What 'moved' asks. -/
theorem moved_math (hr : rdE n l ps = 0) (h1 : 1 ≤ i) (hi : i ≤ n) (h0 : 0 ≤ c) (h2 : c ≤ 1000) :
    reG n l i c = 0 ∧ frE n l i = 0 ∧ (beG n l i c = 0 ∨ beG n l i c = 4 ∨ beG n l i c = 7) ∧
    (rdE n l (ps.set (i - 1) (c, 1)) = 0 ∨ rdE n l (ps.set (i - 1) (c, 1)) = 7) ∧ rdE n (reL n i c l) (ps.set (i - 1) (c, 1)) = rdE n l (ps.set (i - 1) (c, 1)) ∧ rdE n (Zo.clo n (frL n i l)) (ps.set (i - 1) (c, 1)) = rdE n l (ps.set (i - 1) (c, 1)) ∧
    (rdE n l (ps.set (i - 1) (c, 1)) = 0 → hsR n l ps = true → hsR n (reL n i c l) (ps.set (i - 1) (c, 1)) = true ∧ hsR n (Zo.clo n (frL n i l)) (ps.set (i - 1) (c, 1)) = true) ∧
    (beG n l i c = 0 → rdE n (beL n i c l) ps = 0 ∧ (rdE n l (ps.set (i - 1) (c, 1)) = 0 → hsR n (beL n i c l) ps = hsR n l (ps.set (i - 1) (c, 1)))) ∧
    (beG n l i c = 4 → rdE n l (ps.set (i - 1) (c, 1)) = 0 → hsR n l (ps.set (i - 1) (c, 1)) = false) := by
  obtain ⟨hc, hp, hv, hs⟩ := rd_parts hr
  have cn : cnB c = true := by unfold cnB; simp; omega
  have hq := qs_ok hv h1 (by omega) h0 h2
  have hql : (ps.set (i - 1) (c, 1)).length = n := by rw [List.length_set, hp]
  obtain ⟨r1, r2, r3⟩ := re_E hc h1 hi h0 (show c ≤ 1048576 by omega)
  obtain ⟨f1, f2⟩ := fr_E hc h1 hi
  obtain ⟨b1, b2, b3⟩ := be_E hc h1 hi h0 (show c ≤ 1048576 by omega)
  have eb : beG n l i c = cloE n (anL n (isC i 0 c) l) := by
    unfold beG
    rw [if_pos ⟨hc, by omega, by omega, cn⟩]
    simp only [Int.toNat_natCast]
    exact b1
  have ho := ov_of hv
  generalize dnP ps = D at ho
  generalize (fun i => (clk ps i).1 * (D / (clk ps i).2)) = X at ho
  have ho2 := ho.set (c := c) h1 (by omega)
  have hpt := ho.pt hp hv
  have hpt2 := ho2.pt hql hq
  refine ⟨?_, ?_, ?_, rdE_two hc hql hq, rdE_other r2 hc, rdE_other f1 hc, ?_, ?_, ?_⟩
  · unfold reG
    rw [if_pos ⟨hc, by omega, by omega, cn⟩]
    simp only [Int.toNat_natCast]
    exact re_closed hc h1 hi h0 (by omega)
  · unfold frE
    rw [if_pos ⟨hc, by omega, by omega⟩]
    simp only [Int.toNat_natCast]
    exact f2
  · rw [eb]; exact cloE_three _ _
  · intro e hin
    have h := (has_in hr ho).1 hin
    obtain ⟨x, y⟩ := in_moved hc h1 hi h0 (by omega) hpt2 (by omega) h
    exact ⟨(has_in (by rw [rdE_other r2 hc]; exact e) ho2).2 x, (has_in (by rw [rdE_other f1 hc]; exact e) ho2).2 y⟩
  · intro e
    rw [eb] at e
    have hb := (b3 e).2
    have hrb : rdE n (beL n i c l) ps = 0 := by rw [rdE_other hb hc]; exact hr
    refine ⟨hrb, fun e2 => ?_⟩
    rw [Bool.eq_iff_iff, has_in hrb ho, has_in e2 ho2]
    exact in_before hc h1 hi h0 (by omega) hpt2 hpt (by omega) e
  · intro e e2
    rw [eb] at e
    cases k : hsR n l (ps.set (i - 1) (c, 1))
    · rfl
    · have h := (has_in e2 ho2).1 k
      have h3 := (isC_in (chk_top hc) hpt2.pos hpt2.zero hi (upd_at _ _ _) h0 (by omega)).2 h
      exact absurd e (cloE_full (clo_full hpt2 (by omega) b2 h3))
end

theorem me_fold (l m : List Int) : ∀ s, s ≤ l.length → ((List.range s).foldl (meS m) l).length = l.length ∧ ∀ k, Zo.gt ((List.range s).foldl (meS m) l) k = if k < s then imin (Zo.gt l k) (Zo.gt m k) else Zo.gt l k := by
  intro s
  induction s with
  | zero => intro _; exact ⟨rfl, fun k => by simp⟩
  | succ s ih =>
    intro hs
    obtain ⟨h1, h2⟩ := ih (by omega)
    rw [Zo.fold_succ]
    generalize (List.range s).foldl (meS m) l = u at *
    refine ⟨by simp [meS, h1], fun k => ?_⟩
    unfold meS
    rw [Zo.gt_set _ (by omega)]
    by_cases c : k = s
    · subst c
      rw [if_pos rfl, if_pos (by omega), h2 k, if_neg (by omega)]
    · rw [if_neg c, h2 k]
      by_cases d : k < s
      · rw [if_pos d, if_pos (by omega)]
      · rw [if_neg d, if_neg (by omega)]

theorem meL_at {n : Nat} {l m : List Int} (hl : l.length = (n + 1) * (n + 1)) {a b : Nat} (ha : a ≤ n) (hb : b ≤ n) : Zo.At n (meL l m) a b = imin (Zo.At n l a b) (Zo.At n m a b) := by
  unfold meL Zo.At
  rw [(me_fold l m l.length (Nat.le_refl _)).2, if_pos (by rw [hl]; exact Zo.ix_lt ha hb)]

/-- What the law asks of Meet. -/
theorem meet_math {n : Nat} {l m : List Int} {ps : List Pq} (hr : rdE n l ps = 0) (hm : rdE n m ps = 0) :
    (zmE n n l m = 0 ∨ zmE n n l m = 4 ∨ zmE n n l m = 7) ∧ (zmE n n l m = 0 → rdE n (Zo.clo n (meL l m)) ps = 0 ∧ hsR n (Zo.clo n (meL l m)) ps = (hsR n l ps && hsR n m ps)) ∧ (zmE n n l m = 4 → (hsR n l ps && hsR n m ps) = false) := by
  obtain ⟨c1, hp, hv, _⟩ := rd_parts hr
  obtain ⟨c2, _, _, _⟩ := rd_parts hm
  obtain ⟨hn, hl, hrl⟩ := chk_len c1
  obtain ⟨_, lm, hrm⟩ := chk_len c2
  have e : zmE n n l m = cloE n (meL l m) := by
    unfold zmE
    rw [if_pos (by unfold twB; simp [c1, c2])]
    rw [Int.toNat_natCast]
  have lL : (meL l m).length = (n + 1) * (n + 1) := by rw [meL_len, hl]
  have hw : ∀ a b, a ≤ n → b ≤ n → Zo.Wl (Zo.At n (meL l m) a b) := by
    intro a b ha hb
    rw [meL_at hl ha hb]
    exact imin_wl (wl_of hl hrl a b ha hb) (wl_of lm hrm a b ha hb)
  have ht := wl_top lL hw
  have ho := ov_of hv
  generalize dnP ps = D at ho
  generalize (fun i => (clk ps i).1 * (D / (clk ps i).2)) = X at ho
  have hpt := ho.pt hp hv
  have key : (hsR n l ps && hsR n m ps) = true ↔ Zo.In n (meL l m) D X := by
    rw [Bool.and_eq_true, has_in hr ho, has_in hm ho]
    constructor
    · intro h a b ha hb
      rw [meL_at hl ha hb]
      exact Zo.mt_min (h.1 a b ha hb) (h.2 a b ha hb)
    · intro h
      refine ⟨fun a b ha hb => ?_, fun a b ha hb => ?_⟩
      · have := h a b ha hb
        rw [meL_at hl ha hb] at this
        exact Zo.mt_mono hpt.pos (by unfold imin; omega) ((chk_top c1).2 a b ha hb) this
      · have := h a b ha hb
        rw [meL_at hl ha hb] at this
        exact Zo.mt_mono hpt.pos (by unfold imin; omega) ((chk_top c2).2 a b ha hb) this
  refine ⟨by rw [e]; exact cloE_three _ _, fun e0 => ?_, fun e4 => ?_⟩
  · rw [e] at e0
    have hc := clo_chk hn lL hw e0
    have hr2 : rdE n (Zo.clo n (meL l m)) ps = 0 := by rw [rdE_other hc c1]; exact hr
    refine ⟨hr2, ?_⟩
    rw [Bool.eq_iff_iff, key, has_in hr2 ho]
    exact clo_in hpt (by omega) ht
  · cases k : (hsR n l ps && hsR n m ps)
    · rfl
    · rw [e] at e4
      exact absurd e4 (cloE_full (clo_full hpt (by omega) ht (key.1 k)))
end Go.Proofs.Ytbnebinpemejlaa

namespace Go.Proofs.Ytbnebinpemejlaa
open Go.RowKit

set_option maxRecDepth 100000 in
set_option maxHeartbeats 2000000 in
theorem moved_0_7 (n i : Nat) (l rL fL bL : List Int) (ao : Option Addr) (cap : Nat) (j c : Int) (dao : Option Addr) (dl dc : Nat) (po qo : Option Addr) (pl pc qc : Nat) (hs hq tq fq : Bool) (w : World)
    (RE : Hid (∀ W, Below w.heap.size w W → Calls Try.prog 30 #[.agg #[.int .i64 (n : Int), .slice ao l.length cap], .int .i64 (i : Int), .int .i64 c] W (ZV2 W n rL 0)))
    (FR : Hid (∀ W, Below w.heap.size w W → Calls Try.prog 32 #[.agg #[.int .i64 (n : Int), .slice ao l.length cap], .int .i64 (i : Int)] W (ZV2 W n fL 0)))
    (BE : Hid (∀ W, Below w.heap.size w W → Calls Try.prog 34 #[.agg #[.int .i64 (n : Int), .slice ao l.length cap], .int .i64 (i : Int), .int .i64 c] W (ZV2 W (zrN 0 n) (zrL 0 bL) 0)))
    (H1 : Hid (∀ W, Below w.heap.size w W → Calls Try.prog 46 #[.agg #[.int .i64 (n : Int), .slice ao l.length cap], .slice qo pl qc] W (Made (.tuple #[.bool hq, .int .i64 7]) W)))
    (H2 : Hid (∀ W a ca, Arg W a rL → Below w.heap.size w W → Calls Try.prog 46 #[.agg #[.int .i64 (n : Int), .slice a rL.length ca], .slice qo pl qc] W (Made (.tuple #[.bool tq, .int .i64 7]) W)))
    (H3 : Hid (∀ W a ca, Arg W a fL → Below w.heap.size w W → Calls Try.prog 46 #[.agg #[.int .i64 (n : Int), .slice a fL.length ca], .slice qo pl qc] W (Made (.tuple #[.bool fq, .int .i64 7]) W))) :
    Calls Try.prog 48 #[.agg #[.int .i64 (n : Int), .slice ao l.length cap, .int .i64 (i : Int), .int .i64 j, .int .i64 c, .slice dao dl dc], .slice po pl pc, .slice qo pl qc, .bool hs] w (Made (.bool true) w) := by
  have PF := Lib.hid (show ∀ W, Bx W w.heap.size #[.int .i64 (n : Int), .slice ao l.length cap, .int .i64 (i : Int), .int .i64 j, .int .i64 c, .slice dao dl dc] → (W.cell? ⟨w.heap.size, 0, none⟩ = some (.int .i64 (n : Int)) ∧ W.cell? ⟨w.heap.size, 1, none⟩ = some (.slice ao l.length cap) ∧ W.cell? ⟨w.heap.size, 2, none⟩ = some (.int .i64 (i : Int)) ∧ W.cell? ⟨w.heap.size, 3, none⟩ = some (.int .i64 j) ∧ W.cell? ⟨w.heap.size, 4, none⟩ = some (.int .i64 c) ∧ W.cell? ⟨w.heap.size, 5, none⟩ = some (.slice dao dl dc)) from fun W h => ⟨h.cell 0, h.cell 1, h.cell 2, h.cell 3, h.cell 4, h.cell 5⟩)
  simp only [zrN, zrL, if_true] at BE
  unfold ZV2 at RE FR BE
  obtain ⟨w0, hw0⟩ : ∃ w0, w0 = w.alloc (.cells #[.int .i64 (n : Int), .slice ao l.length cap, .int .i64 (i : Int), .int .i64 j, .int .i64 c, .slice dao dl dc] 37) := ⟨_, rfl⟩
  have PX := Lib.hid (show Bx w0 w.heap.size #[.int .i64 (n : Int), .slice ao l.length cap, .int .i64 (i : Int), .int .i64 j, .int .i64 c, .slice dao dl dc] by rw [hw0]; exact Bx.made _ _ _)
  have Q0 := Lib.hid (show Below w.heap.size w w0 by rw [hw0]; exact one_more _)
  go_enter Try.func48, Try.ntmps48
  go_upto_region 1 with (fail)
  rw [← hw0]
  clear hw0
  obtain ⟨p0, p1, p2, p3, p4, p5⟩ := PF.out _ PX.out
  go_wp2_with fail
  refine (RE.out _ Q0.out).mono ?_
  rintro e w1 ⟨ao1, ck1, rfl, hA, hm, _, hb⟩
  have L1 := Lib.hid hm
  obtain ⟨v1, hv⟩ : ∃ v1, v1 = w1.alloc (.cells #[.int .i64 (n : Int), .slice ao1 rL.length ck1] 25) := ⟨_, rfl⟩
  have X1 := Lib.hid (show Two v1 w1.heap.size (.int .i64 (n : Int)) (.slice ao1 rL.length ck1) by rw [hv]; exact Two.made _ _ _ _)
  have A1 := Lib.hid (show Arg v1 ao1 rL by rw [hv]; exact hA.on (one_more _))
  have B1 := Lib.hid (show Below w0.heap.size w0 v1 by rw [hv]; exact hb.alloc hb.size _)
  have Y1 := Lib.hid (show w0.heap.size ≤ w1.heap.size ∧ v1.heap.size = w1.heap.size + 1 by rw [hv]; exact ⟨hb.size, by simp⟩)
  clear hA hm hb
  go_upto_region 2 with (fail)
  rw [← hv]
  clear hv
  clear p0 p1 p2 p3 p4 p5
  have PX := Lib.hid (PX.out.kept B1.out)
  have Q0 := Lib.hid (below_on Q0.out B1.out)
  obtain ⟨p0, p1, p2, p3, p4, p5⟩ := PF.out _ PX.out
  go_wp2_with fail
  refine (FR.out _ Q0.out).mono ?_
  rintro e w2 ⟨ao2, ck2, rfl, hA, hm, _, hb⟩
  have L2 := Lib.hid hm
  obtain ⟨v2, hv⟩ : ∃ v2, v2 = w2.alloc (.cells #[.int .i64 (n : Int), .slice ao2 fL.length ck2] 25) := ⟨_, rfl⟩
  have X2 := Lib.hid (show Two v2 w2.heap.size (.int .i64 (n : Int)) (.slice ao2 fL.length ck2) by rw [hv]; exact Two.made _ _ _ _)
  have A2 := Lib.hid (show Arg v2 ao2 fL by rw [hv]; exact hA.on (one_more _))
  have B2 := Lib.hid (show Below v1.heap.size v1 v2 by rw [hv]; exact hb.alloc hb.size _)
  have Y2 := Lib.hid (show v1.heap.size ≤ w2.heap.size ∧ v2.heap.size = w2.heap.size + 1 by rw [hv]; exact ⟨hb.size, by simp⟩)
  clear hA hm hb
  go_upto_region 3 with (fail)
  rw [← hv]
  clear hv
  clear p0 p1 p2 p3 p4 p5
  have PX := Lib.hid (PX.out.kept B2.out)
  have Q0 := Lib.hid (below_on Q0.out B2.out)
  obtain ⟨p0, p1, p2, p3, p4, p5⟩ := PF.out _ PX.out
  go_wp2_with fail
  refine (BE.out _ Q0.out).mono ?_
  rintro e w3 ⟨ao3, ck3, rfl, hA, hm, _, hb⟩
  have L3 := Lib.hid hm
  obtain ⟨v3, hv⟩ : ∃ v3, v3 = w3.alloc (.cells #[.int .i64 (n : Int), .slice ao3 bL.length ck3] 25) := ⟨_, rfl⟩
  have X3 := Lib.hid (show Two v3 w3.heap.size (.int .i64 (n : Int)) (.slice ao3 bL.length ck3) by rw [hv]; exact Two.made _ _ _ _)
  have A3 := Lib.hid (show Arg v3 ao3 bL by rw [hv]; exact hA.on (one_more _))
  have B3 := Lib.hid (show Below v2.heap.size v2 v3 by rw [hv]; exact hb.alloc hb.size _)
  have Y3 := Lib.hid (show v2.heap.size ≤ w3.heap.size ∧ v3.heap.size = w3.heap.size + 1 by rw [hv]; exact ⟨hb.size, by simp⟩)
  clear hA hm hb
  go_upto_region 4 with (fail)
  rw [← hv]
  clear hv
  clear p0 p1 p2 p3 p4 p5
  have PX := Lib.hid (PX.out.kept B3.out)
  have Q0 := Lib.hid (below_on Q0.out B3.out)
  have X1 := Lib.hid (X1.out.kept (below_on B2.out B3.out))
  have A1 := Lib.hid (A1.out.on (below_on B2.out B3.out))
  have X2 := Lib.hid (X2.out.kept B3.out)
  have A2 := Lib.hid (A2.out.on B3.out)
  obtain ⟨p0, p1, p2, p3, p4, p5⟩ := PF.out _ PX.out
  go_wp2_with fail
  refine (H1.out _ Q0.out).mono ?_
  rintro e v4 ⟨rfl, hb⟩
  clear p0 p1 p2 p3 p4 p5
  have X1 := Lib.hid (X1.out.kept hb)
  have A1 := Lib.hid (A1.out.on hb)
  have X2 := Lib.hid (X2.out.kept hb)
  have A2 := Lib.hid (A2.out.on hb)
  have X3 := Lib.hid (X3.out.kept hb)
  have A3 := Lib.hid (A3.out.on hb)
  have Q0 := Lib.hid (below_on Q0.out hb)
  clear hb
  obtain ⟨b0, b1, _, _⟩ := X1.out.facts
  go_wp2_with fail
  refine (H2.out _ _ _ A1.out Q0.out).mono ?_
  rintro e v5 ⟨rfl, hb⟩
  clear b0 b1
  have X1 := Lib.hid (X1.out.kept hb)
  have A1 := Lib.hid (A1.out.on hb)
  have X2 := Lib.hid (X2.out.kept hb)
  have A2 := Lib.hid (A2.out.on hb)
  have X3 := Lib.hid (X3.out.kept hb)
  have A3 := Lib.hid (A3.out.on hb)
  have Q0 := Lib.hid (below_on Q0.out hb)
  clear hb
  obtain ⟨b0, b1, _, _⟩ := X2.out.facts
  go_wp2_with fail
  refine (H3.out _ _ _ A2.out Q0.out).mono ?_
  rintro e v6 ⟨rfl, hb⟩
  clear b0 b1
  have X1 := Lib.hid (X1.out.kept hb)
  have A1 := Lib.hid (A1.out.on hb)
  have X2 := Lib.hid (X2.out.kept hb)
  have A2 := Lib.hid (A2.out.on hb)
  have X3 := Lib.hid (X3.out.kept hb)
  have A3 := Lib.hid (A3.out.on hb)
  have Q0 := Lib.hid (below_on Q0.out hb)
  clear hb
  go_wp2_with fail
  go_ret
  exact ⟨rfl, Q0.out⟩

set_option maxRecDepth 100000 in
set_option maxHeartbeats 2000000 in
theorem moved_0_0t (n i : Nat) (l rL fL bL : List Int) (ao : Option Addr) (cap : Nat) (j c : Int) (dao : Option Addr) (dl dc : Nat) (po qo : Option Addr) (pl pc qc : Nat) (hq tq fq hb0 : Bool) (w : World)
    (RE : Hid (∀ W, Below w.heap.size w W → Calls Try.prog 30 #[.agg #[.int .i64 (n : Int), .slice ao l.length cap], .int .i64 (i : Int), .int .i64 c] W (ZV2 W n rL 0)))
    (FR : Hid (∀ W, Below w.heap.size w W → Calls Try.prog 32 #[.agg #[.int .i64 (n : Int), .slice ao l.length cap], .int .i64 (i : Int)] W (ZV2 W n fL 0)))
    (BE : Hid (∀ W, Below w.heap.size w W → Calls Try.prog 34 #[.agg #[.int .i64 (n : Int), .slice ao l.length cap], .int .i64 (i : Int), .int .i64 c] W (ZV2 W (zrN 0 n) (zrL 0 bL) 0)))
    (H1 : Hid (∀ W, Below w.heap.size w W → Calls Try.prog 46 #[.agg #[.int .i64 (n : Int), .slice ao l.length cap], .slice qo pl qc] W (Made (.tuple #[.bool hq, .int .i64 0]) W)))
    (H2 : Hid (∀ W a ca, Arg W a rL → Below w.heap.size w W → Calls Try.prog 46 #[.agg #[.int .i64 (n : Int), .slice a rL.length ca], .slice qo pl qc] W (Made (.tuple #[.bool tq, .int .i64 0]) W)))
    (H3 : Hid (∀ W a ca, Arg W a fL → Below w.heap.size w W → Calls Try.prog 46 #[.agg #[.int .i64 (n : Int), .slice a fL.length ca], .slice qo pl qc] W (Made (.tuple #[.bool fq, .int .i64 0]) W)))
    (H4 : Hid (∀ W a ca, Arg W a bL → Below w.heap.size w W → Calls Try.prog 46 #[.agg #[.int .i64 (n : Int), .slice a bL.length ca], .slice po pl pc] W (Made (.tuple #[.bool hb0, .int .i64 0]) W)))
    (hbq : hb0 = hq)
    (htq : tq = true) (hfq : fq = true) :
    Calls Try.prog 48 #[.agg #[.int .i64 (n : Int), .slice ao l.length cap, .int .i64 (i : Int), .int .i64 j, .int .i64 c, .slice dao dl dc], .slice po pl pc, .slice qo pl qc, .bool true] w (Made (.bool true) w) := by
  have PF := Lib.hid (show ∀ W, Bx W w.heap.size #[.int .i64 (n : Int), .slice ao l.length cap, .int .i64 (i : Int), .int .i64 j, .int .i64 c, .slice dao dl dc] → (W.cell? ⟨w.heap.size, 0, none⟩ = some (.int .i64 (n : Int)) ∧ W.cell? ⟨w.heap.size, 1, none⟩ = some (.slice ao l.length cap) ∧ W.cell? ⟨w.heap.size, 2, none⟩ = some (.int .i64 (i : Int)) ∧ W.cell? ⟨w.heap.size, 3, none⟩ = some (.int .i64 j) ∧ W.cell? ⟨w.heap.size, 4, none⟩ = some (.int .i64 c) ∧ W.cell? ⟨w.heap.size, 5, none⟩ = some (.slice dao dl dc)) from fun W h => ⟨h.cell 0, h.cell 1, h.cell 2, h.cell 3, h.cell 4, h.cell 5⟩)
  simp only [zrN, zrL, if_true] at BE
  unfold ZV2 at RE FR BE
  subst htq hfq
  have DEQ : (hb0 == hq) = true := by rw [hbq]; simp
  clear hbq
  obtain ⟨w0, hw0⟩ : ∃ w0, w0 = w.alloc (.cells #[.int .i64 (n : Int), .slice ao l.length cap, .int .i64 (i : Int), .int .i64 j, .int .i64 c, .slice dao dl dc] 37) := ⟨_, rfl⟩
  have PX := Lib.hid (show Bx w0 w.heap.size #[.int .i64 (n : Int), .slice ao l.length cap, .int .i64 (i : Int), .int .i64 j, .int .i64 c, .slice dao dl dc] by rw [hw0]; exact Bx.made _ _ _)
  have Q0 := Lib.hid (show Below w.heap.size w w0 by rw [hw0]; exact one_more _)
  go_enter Try.func48, Try.ntmps48
  go_upto_region 1 with (fail)
  rw [← hw0]
  clear hw0
  obtain ⟨p0, p1, p2, p3, p4, p5⟩ := PF.out _ PX.out
  go_wp2_with fail
  refine (RE.out _ Q0.out).mono ?_
  rintro e w1 ⟨ao1, ck1, rfl, hA, hm, _, hb⟩
  have L1 := Lib.hid hm
  obtain ⟨v1, hv⟩ : ∃ v1, v1 = w1.alloc (.cells #[.int .i64 (n : Int), .slice ao1 rL.length ck1] 25) := ⟨_, rfl⟩
  have X1 := Lib.hid (show Two v1 w1.heap.size (.int .i64 (n : Int)) (.slice ao1 rL.length ck1) by rw [hv]; exact Two.made _ _ _ _)
  have A1 := Lib.hid (show Arg v1 ao1 rL by rw [hv]; exact hA.on (one_more _))
  have B1 := Lib.hid (show Below w0.heap.size w0 v1 by rw [hv]; exact hb.alloc hb.size _)
  have Y1 := Lib.hid (show w0.heap.size ≤ w1.heap.size ∧ v1.heap.size = w1.heap.size + 1 by rw [hv]; exact ⟨hb.size, by simp⟩)
  clear hA hm hb
  go_upto_region 2 with (fail)
  rw [← hv]
  clear hv
  clear p0 p1 p2 p3 p4 p5
  have PX := Lib.hid (PX.out.kept B1.out)
  have Q0 := Lib.hid (below_on Q0.out B1.out)
  obtain ⟨p0, p1, p2, p3, p4, p5⟩ := PF.out _ PX.out
  go_wp2_with fail
  refine (FR.out _ Q0.out).mono ?_
  rintro e w2 ⟨ao2, ck2, rfl, hA, hm, _, hb⟩
  have L2 := Lib.hid hm
  obtain ⟨v2, hv⟩ : ∃ v2, v2 = w2.alloc (.cells #[.int .i64 (n : Int), .slice ao2 fL.length ck2] 25) := ⟨_, rfl⟩
  have X2 := Lib.hid (show Two v2 w2.heap.size (.int .i64 (n : Int)) (.slice ao2 fL.length ck2) by rw [hv]; exact Two.made _ _ _ _)
  have A2 := Lib.hid (show Arg v2 ao2 fL by rw [hv]; exact hA.on (one_more _))
  have B2 := Lib.hid (show Below v1.heap.size v1 v2 by rw [hv]; exact hb.alloc hb.size _)
  have Y2 := Lib.hid (show v1.heap.size ≤ w2.heap.size ∧ v2.heap.size = w2.heap.size + 1 by rw [hv]; exact ⟨hb.size, by simp⟩)
  clear hA hm hb
  go_upto_region 3 with (fail)
  rw [← hv]
  clear hv
  clear p0 p1 p2 p3 p4 p5
  have PX := Lib.hid (PX.out.kept B2.out)
  have Q0 := Lib.hid (below_on Q0.out B2.out)
  obtain ⟨p0, p1, p2, p3, p4, p5⟩ := PF.out _ PX.out
  go_wp2_with fail
  refine (BE.out _ Q0.out).mono ?_
  rintro e w3 ⟨ao3, ck3, rfl, hA, hm, _, hb⟩
  have L3 := Lib.hid hm
  obtain ⟨v3, hv⟩ : ∃ v3, v3 = w3.alloc (.cells #[.int .i64 (n : Int), .slice ao3 bL.length ck3] 25) := ⟨_, rfl⟩
  have X3 := Lib.hid (show Two v3 w3.heap.size (.int .i64 (n : Int)) (.slice ao3 bL.length ck3) by rw [hv]; exact Two.made _ _ _ _)
  have A3 := Lib.hid (show Arg v3 ao3 bL by rw [hv]; exact hA.on (one_more _))
  have B3 := Lib.hid (show Below v2.heap.size v2 v3 by rw [hv]; exact hb.alloc hb.size _)
  have Y3 := Lib.hid (show v2.heap.size ≤ w3.heap.size ∧ v3.heap.size = w3.heap.size + 1 by rw [hv]; exact ⟨hb.size, by simp⟩)
  clear hA hm hb
  go_upto_region 4 with (fail)
  rw [← hv]
  clear hv
  clear p0 p1 p2 p3 p4 p5
  have PX := Lib.hid (PX.out.kept B3.out)
  have Q0 := Lib.hid (below_on Q0.out B3.out)
  have X1 := Lib.hid (X1.out.kept (below_on B2.out B3.out))
  have A1 := Lib.hid (A1.out.on (below_on B2.out B3.out))
  have X2 := Lib.hid (X2.out.kept B3.out)
  have A2 := Lib.hid (A2.out.on B3.out)
  obtain ⟨p0, p1, p2, p3, p4, p5⟩ := PF.out _ PX.out
  go_wp2_with fail
  refine (H1.out _ Q0.out).mono ?_
  rintro e v4 ⟨rfl, hb⟩
  clear p0 p1 p2 p3 p4 p5
  have X1 := Lib.hid (X1.out.kept hb)
  have A1 := Lib.hid (A1.out.on hb)
  have X2 := Lib.hid (X2.out.kept hb)
  have A2 := Lib.hid (A2.out.on hb)
  have X3 := Lib.hid (X3.out.kept hb)
  have A3 := Lib.hid (A3.out.on hb)
  have Q0 := Lib.hid (below_on Q0.out hb)
  clear hb
  obtain ⟨b0, b1, _, _⟩ := X1.out.facts
  go_wp2_with fail
  refine (H2.out _ _ _ A1.out Q0.out).mono ?_
  rintro e v5 ⟨rfl, hb⟩
  clear b0 b1
  have X1 := Lib.hid (X1.out.kept hb)
  have A1 := Lib.hid (A1.out.on hb)
  have X2 := Lib.hid (X2.out.kept hb)
  have A2 := Lib.hid (A2.out.on hb)
  have X3 := Lib.hid (X3.out.kept hb)
  have A3 := Lib.hid (A3.out.on hb)
  have Q0 := Lib.hid (below_on Q0.out hb)
  clear hb
  obtain ⟨b0, b1, _, _⟩ := X2.out.facts
  go_wp2_with fail
  refine (H3.out _ _ _ A2.out Q0.out).mono ?_
  rintro e v6 ⟨rfl, hb⟩
  clear b0 b1
  have X1 := Lib.hid (X1.out.kept hb)
  have A1 := Lib.hid (A1.out.on hb)
  have X2 := Lib.hid (X2.out.kept hb)
  have A2 := Lib.hid (A2.out.on hb)
  have X3 := Lib.hid (X3.out.kept hb)
  have A3 := Lib.hid (A3.out.on hb)
  have Q0 := Lib.hid (below_on Q0.out hb)
  clear hb
  obtain ⟨b0, b1, _, _⟩ := X3.out.facts
  go_wp2_with fail
  refine (H4.out _ _ _ A3.out Q0.out).mono ?_
  rintro e v7 ⟨rfl, hb⟩
  clear b0 b1
  have X1 := Lib.hid (X1.out.kept hb)
  have A1 := Lib.hid (A1.out.on hb)
  have X2 := Lib.hid (X2.out.kept hb)
  have A2 := Lib.hid (A2.out.on hb)
  have X3 := Lib.hid (X3.out.kept hb)
  have A3 := Lib.hid (A3.out.on hb)
  have Q0 := Lib.hid (below_on Q0.out hb)
  clear hb
  go_wp2_with fail
  go_ret
  exact ⟨rfl, Q0.out⟩

set_option maxRecDepth 100000 in
set_option maxHeartbeats 2000000 in
theorem moved_0_0f (n i : Nat) (l rL fL bL : List Int) (ao : Option Addr) (cap : Nat) (j c : Int) (dao : Option Addr) (dl dc : Nat) (po qo : Option Addr) (pl pc qc : Nat) (hq tq fq hb0 : Bool) (w : World)
    (RE : Hid (∀ W, Below w.heap.size w W → Calls Try.prog 30 #[.agg #[.int .i64 (n : Int), .slice ao l.length cap], .int .i64 (i : Int), .int .i64 c] W (ZV2 W n rL 0)))
    (FR : Hid (∀ W, Below w.heap.size w W → Calls Try.prog 32 #[.agg #[.int .i64 (n : Int), .slice ao l.length cap], .int .i64 (i : Int)] W (ZV2 W n fL 0)))
    (BE : Hid (∀ W, Below w.heap.size w W → Calls Try.prog 34 #[.agg #[.int .i64 (n : Int), .slice ao l.length cap], .int .i64 (i : Int), .int .i64 c] W (ZV2 W (zrN 0 n) (zrL 0 bL) 0)))
    (H1 : Hid (∀ W, Below w.heap.size w W → Calls Try.prog 46 #[.agg #[.int .i64 (n : Int), .slice ao l.length cap], .slice qo pl qc] W (Made (.tuple #[.bool hq, .int .i64 0]) W)))
    (H2 : Hid (∀ W a ca, Arg W a rL → Below w.heap.size w W → Calls Try.prog 46 #[.agg #[.int .i64 (n : Int), .slice a rL.length ca], .slice qo pl qc] W (Made (.tuple #[.bool tq, .int .i64 0]) W)))
    (H3 : Hid (∀ W a ca, Arg W a fL → Below w.heap.size w W → Calls Try.prog 46 #[.agg #[.int .i64 (n : Int), .slice a fL.length ca], .slice qo pl qc] W (Made (.tuple #[.bool fq, .int .i64 0]) W)))
    (H4 : Hid (∀ W a ca, Arg W a bL → Below w.heap.size w W → Calls Try.prog 46 #[.agg #[.int .i64 (n : Int), .slice a bL.length ca], .slice po pl pc] W (Made (.tuple #[.bool hb0, .int .i64 0]) W)))
    (hbq : hb0 = hq) :
    Calls Try.prog 48 #[.agg #[.int .i64 (n : Int), .slice ao l.length cap, .int .i64 (i : Int), .int .i64 j, .int .i64 c, .slice dao dl dc], .slice po pl pc, .slice qo pl qc, .bool false] w (Made (.bool true) w) := by
  have PF := Lib.hid (show ∀ W, Bx W w.heap.size #[.int .i64 (n : Int), .slice ao l.length cap, .int .i64 (i : Int), .int .i64 j, .int .i64 c, .slice dao dl dc] → (W.cell? ⟨w.heap.size, 0, none⟩ = some (.int .i64 (n : Int)) ∧ W.cell? ⟨w.heap.size, 1, none⟩ = some (.slice ao l.length cap) ∧ W.cell? ⟨w.heap.size, 2, none⟩ = some (.int .i64 (i : Int)) ∧ W.cell? ⟨w.heap.size, 3, none⟩ = some (.int .i64 j) ∧ W.cell? ⟨w.heap.size, 4, none⟩ = some (.int .i64 c) ∧ W.cell? ⟨w.heap.size, 5, none⟩ = some (.slice dao dl dc)) from fun W h => ⟨h.cell 0, h.cell 1, h.cell 2, h.cell 3, h.cell 4, h.cell 5⟩)
  simp only [zrN, zrL, if_true] at BE
  unfold ZV2 at RE FR BE
  have DEQ : (hb0 == hq) = true := by rw [hbq]; simp
  clear hbq
  obtain ⟨w0, hw0⟩ : ∃ w0, w0 = w.alloc (.cells #[.int .i64 (n : Int), .slice ao l.length cap, .int .i64 (i : Int), .int .i64 j, .int .i64 c, .slice dao dl dc] 37) := ⟨_, rfl⟩
  have PX := Lib.hid (show Bx w0 w.heap.size #[.int .i64 (n : Int), .slice ao l.length cap, .int .i64 (i : Int), .int .i64 j, .int .i64 c, .slice dao dl dc] by rw [hw0]; exact Bx.made _ _ _)
  have Q0 := Lib.hid (show Below w.heap.size w w0 by rw [hw0]; exact one_more _)
  go_enter Try.func48, Try.ntmps48
  go_upto_region 1 with (fail)
  rw [← hw0]
  clear hw0
  obtain ⟨p0, p1, p2, p3, p4, p5⟩ := PF.out _ PX.out
  go_wp2_with fail
  refine (RE.out _ Q0.out).mono ?_
  rintro e w1 ⟨ao1, ck1, rfl, hA, hm, _, hb⟩
  have L1 := Lib.hid hm
  obtain ⟨v1, hv⟩ : ∃ v1, v1 = w1.alloc (.cells #[.int .i64 (n : Int), .slice ao1 rL.length ck1] 25) := ⟨_, rfl⟩
  have X1 := Lib.hid (show Two v1 w1.heap.size (.int .i64 (n : Int)) (.slice ao1 rL.length ck1) by rw [hv]; exact Two.made _ _ _ _)
  have A1 := Lib.hid (show Arg v1 ao1 rL by rw [hv]; exact hA.on (one_more _))
  have B1 := Lib.hid (show Below w0.heap.size w0 v1 by rw [hv]; exact hb.alloc hb.size _)
  have Y1 := Lib.hid (show w0.heap.size ≤ w1.heap.size ∧ v1.heap.size = w1.heap.size + 1 by rw [hv]; exact ⟨hb.size, by simp⟩)
  clear hA hm hb
  go_upto_region 2 with (fail)
  rw [← hv]
  clear hv
  clear p0 p1 p2 p3 p4 p5
  have PX := Lib.hid (PX.out.kept B1.out)
  have Q0 := Lib.hid (below_on Q0.out B1.out)
  obtain ⟨p0, p1, p2, p3, p4, p5⟩ := PF.out _ PX.out
  go_wp2_with fail
  refine (FR.out _ Q0.out).mono ?_
  rintro e w2 ⟨ao2, ck2, rfl, hA, hm, _, hb⟩
  have L2 := Lib.hid hm
  obtain ⟨v2, hv⟩ : ∃ v2, v2 = w2.alloc (.cells #[.int .i64 (n : Int), .slice ao2 fL.length ck2] 25) := ⟨_, rfl⟩
  have X2 := Lib.hid (show Two v2 w2.heap.size (.int .i64 (n : Int)) (.slice ao2 fL.length ck2) by rw [hv]; exact Two.made _ _ _ _)
  have A2 := Lib.hid (show Arg v2 ao2 fL by rw [hv]; exact hA.on (one_more _))
  have B2 := Lib.hid (show Below v1.heap.size v1 v2 by rw [hv]; exact hb.alloc hb.size _)
  have Y2 := Lib.hid (show v1.heap.size ≤ w2.heap.size ∧ v2.heap.size = w2.heap.size + 1 by rw [hv]; exact ⟨hb.size, by simp⟩)
  clear hA hm hb
  go_upto_region 3 with (fail)
  rw [← hv]
  clear hv
  clear p0 p1 p2 p3 p4 p5
  have PX := Lib.hid (PX.out.kept B2.out)
  have Q0 := Lib.hid (below_on Q0.out B2.out)
  obtain ⟨p0, p1, p2, p3, p4, p5⟩ := PF.out _ PX.out
  go_wp2_with fail
  refine (BE.out _ Q0.out).mono ?_
  rintro e w3 ⟨ao3, ck3, rfl, hA, hm, _, hb⟩
  have L3 := Lib.hid hm
  obtain ⟨v3, hv⟩ : ∃ v3, v3 = w3.alloc (.cells #[.int .i64 (n : Int), .slice ao3 bL.length ck3] 25) := ⟨_, rfl⟩
  have X3 := Lib.hid (show Two v3 w3.heap.size (.int .i64 (n : Int)) (.slice ao3 bL.length ck3) by rw [hv]; exact Two.made _ _ _ _)
  have A3 := Lib.hid (show Arg v3 ao3 bL by rw [hv]; exact hA.on (one_more _))
  have B3 := Lib.hid (show Below v2.heap.size v2 v3 by rw [hv]; exact hb.alloc hb.size _)
  have Y3 := Lib.hid (show v2.heap.size ≤ w3.heap.size ∧ v3.heap.size = w3.heap.size + 1 by rw [hv]; exact ⟨hb.size, by simp⟩)
  clear hA hm hb
  go_upto_region 4 with (fail)
  rw [← hv]
  clear hv
  clear p0 p1 p2 p3 p4 p5
  have PX := Lib.hid (PX.out.kept B3.out)
  have Q0 := Lib.hid (below_on Q0.out B3.out)
  have X1 := Lib.hid (X1.out.kept (below_on B2.out B3.out))
  have A1 := Lib.hid (A1.out.on (below_on B2.out B3.out))
  have X2 := Lib.hid (X2.out.kept B3.out)
  have A2 := Lib.hid (A2.out.on B3.out)
  obtain ⟨p0, p1, p2, p3, p4, p5⟩ := PF.out _ PX.out
  go_wp2_with fail
  refine (H1.out _ Q0.out).mono ?_
  rintro e v4 ⟨rfl, hb⟩
  clear p0 p1 p2 p3 p4 p5
  have X1 := Lib.hid (X1.out.kept hb)
  have A1 := Lib.hid (A1.out.on hb)
  have X2 := Lib.hid (X2.out.kept hb)
  have A2 := Lib.hid (A2.out.on hb)
  have X3 := Lib.hid (X3.out.kept hb)
  have A3 := Lib.hid (A3.out.on hb)
  have Q0 := Lib.hid (below_on Q0.out hb)
  clear hb
  obtain ⟨b0, b1, _, _⟩ := X1.out.facts
  go_wp2_with fail
  refine (H2.out _ _ _ A1.out Q0.out).mono ?_
  rintro e v5 ⟨rfl, hb⟩
  clear b0 b1
  have X1 := Lib.hid (X1.out.kept hb)
  have A1 := Lib.hid (A1.out.on hb)
  have X2 := Lib.hid (X2.out.kept hb)
  have A2 := Lib.hid (A2.out.on hb)
  have X3 := Lib.hid (X3.out.kept hb)
  have A3 := Lib.hid (A3.out.on hb)
  have Q0 := Lib.hid (below_on Q0.out hb)
  clear hb
  obtain ⟨b0, b1, _, _⟩ := X2.out.facts
  go_wp2_with fail
  refine (H3.out _ _ _ A2.out Q0.out).mono ?_
  rintro e v6 ⟨rfl, hb⟩
  clear b0 b1
  have X1 := Lib.hid (X1.out.kept hb)
  have A1 := Lib.hid (A1.out.on hb)
  have X2 := Lib.hid (X2.out.kept hb)
  have A2 := Lib.hid (A2.out.on hb)
  have X3 := Lib.hid (X3.out.kept hb)
  have A3 := Lib.hid (A3.out.on hb)
  have Q0 := Lib.hid (below_on Q0.out hb)
  clear hb
  obtain ⟨b0, b1, _, _⟩ := X3.out.facts
  go_wp2_with fail
  refine (H4.out _ _ _ A3.out Q0.out).mono ?_
  rintro e v7 ⟨rfl, hb⟩
  clear b0 b1
  have X1 := Lib.hid (X1.out.kept hb)
  have A1 := Lib.hid (A1.out.on hb)
  have X2 := Lib.hid (X2.out.kept hb)
  have A2 := Lib.hid (A2.out.on hb)
  have X3 := Lib.hid (X3.out.kept hb)
  have A3 := Lib.hid (A3.out.on hb)
  have Q0 := Lib.hid (below_on Q0.out hb)
  clear hb
  go_wp2_with fail
  go_ret
  exact ⟨rfl, Q0.out⟩

set_option maxRecDepth 100000 in
set_option maxHeartbeats 2000000 in
theorem moved_4_7 (n i : Nat) (l rL fL bL : List Int) (ao : Option Addr) (cap : Nat) (j c : Int) (dao : Option Addr) (dl dc : Nat) (po qo : Option Addr) (pl pc qc : Nat) (hs hq tq fq : Bool) (w : World)
    (RE : Hid (∀ W, Below w.heap.size w W → Calls Try.prog 30 #[.agg #[.int .i64 (n : Int), .slice ao l.length cap], .int .i64 (i : Int), .int .i64 c] W (ZV2 W n rL 0)))
    (FR : Hid (∀ W, Below w.heap.size w W → Calls Try.prog 32 #[.agg #[.int .i64 (n : Int), .slice ao l.length cap], .int .i64 (i : Int)] W (ZV2 W n fL 0)))
    (BE : Hid (∀ W, Below w.heap.size w W → Calls Try.prog 34 #[.agg #[.int .i64 (n : Int), .slice ao l.length cap], .int .i64 (i : Int), .int .i64 c] W (ZV2 W (zrN 4 n) (zrL 4 bL) 4)))
    (H1 : Hid (∀ W, Below w.heap.size w W → Calls Try.prog 46 #[.agg #[.int .i64 (n : Int), .slice ao l.length cap], .slice qo pl qc] W (Made (.tuple #[.bool hq, .int .i64 7]) W)))
    (H2 : Hid (∀ W a ca, Arg W a rL → Below w.heap.size w W → Calls Try.prog 46 #[.agg #[.int .i64 (n : Int), .slice a rL.length ca], .slice qo pl qc] W (Made (.tuple #[.bool tq, .int .i64 7]) W)))
    (H3 : Hid (∀ W a ca, Arg W a fL → Below w.heap.size w W → Calls Try.prog 46 #[.agg #[.int .i64 (n : Int), .slice a fL.length ca], .slice qo pl qc] W (Made (.tuple #[.bool fq, .int .i64 7]) W))) :
    Calls Try.prog 48 #[.agg #[.int .i64 (n : Int), .slice ao l.length cap, .int .i64 (i : Int), .int .i64 j, .int .i64 c, .slice dao dl dc], .slice po pl pc, .slice qo pl qc, .bool hs] w (Made (.bool true) w) := by
  have PF := Lib.hid (show ∀ W, Bx W w.heap.size #[.int .i64 (n : Int), .slice ao l.length cap, .int .i64 (i : Int), .int .i64 j, .int .i64 c, .slice dao dl dc] → (W.cell? ⟨w.heap.size, 0, none⟩ = some (.int .i64 (n : Int)) ∧ W.cell? ⟨w.heap.size, 1, none⟩ = some (.slice ao l.length cap) ∧ W.cell? ⟨w.heap.size, 2, none⟩ = some (.int .i64 (i : Int)) ∧ W.cell? ⟨w.heap.size, 3, none⟩ = some (.int .i64 j) ∧ W.cell? ⟨w.heap.size, 4, none⟩ = some (.int .i64 c) ∧ W.cell? ⟨w.heap.size, 5, none⟩ = some (.slice dao dl dc)) from fun W h => ⟨h.cell 0, h.cell 1, h.cell 2, h.cell 3, h.cell 4, h.cell 5⟩)
  have hz : ¬ ((4 : Int) = 0) := by decide
  simp only [zrN, zrL, if_neg hz] at BE
  clear hz
  unfold ZV2 at RE FR BE
  obtain ⟨w0, hw0⟩ : ∃ w0, w0 = w.alloc (.cells #[.int .i64 (n : Int), .slice ao l.length cap, .int .i64 (i : Int), .int .i64 j, .int .i64 c, .slice dao dl dc] 37) := ⟨_, rfl⟩
  have PX := Lib.hid (show Bx w0 w.heap.size #[.int .i64 (n : Int), .slice ao l.length cap, .int .i64 (i : Int), .int .i64 j, .int .i64 c, .slice dao dl dc] by rw [hw0]; exact Bx.made _ _ _)
  have Q0 := Lib.hid (show Below w.heap.size w w0 by rw [hw0]; exact one_more _)
  go_enter Try.func48, Try.ntmps48
  go_upto_region 1 with (fail)
  rw [← hw0]
  clear hw0
  obtain ⟨p0, p1, p2, p3, p4, p5⟩ := PF.out _ PX.out
  go_wp2_with fail
  refine (RE.out _ Q0.out).mono ?_
  rintro e w1 ⟨ao1, ck1, rfl, hA, hm, _, hb⟩
  have L1 := Lib.hid hm
  obtain ⟨v1, hv⟩ : ∃ v1, v1 = w1.alloc (.cells #[.int .i64 (n : Int), .slice ao1 rL.length ck1] 25) := ⟨_, rfl⟩
  have X1 := Lib.hid (show Two v1 w1.heap.size (.int .i64 (n : Int)) (.slice ao1 rL.length ck1) by rw [hv]; exact Two.made _ _ _ _)
  have A1 := Lib.hid (show Arg v1 ao1 rL by rw [hv]; exact hA.on (one_more _))
  have B1 := Lib.hid (show Below w0.heap.size w0 v1 by rw [hv]; exact hb.alloc hb.size _)
  have Y1 := Lib.hid (show w0.heap.size ≤ w1.heap.size ∧ v1.heap.size = w1.heap.size + 1 by rw [hv]; exact ⟨hb.size, by simp⟩)
  clear hA hm hb
  go_upto_region 2 with (fail)
  rw [← hv]
  clear hv
  clear p0 p1 p2 p3 p4 p5
  have PX := Lib.hid (PX.out.kept B1.out)
  have Q0 := Lib.hid (below_on Q0.out B1.out)
  obtain ⟨p0, p1, p2, p3, p4, p5⟩ := PF.out _ PX.out
  go_wp2_with fail
  refine (FR.out _ Q0.out).mono ?_
  rintro e w2 ⟨ao2, ck2, rfl, hA, hm, _, hb⟩
  have L2 := Lib.hid hm
  obtain ⟨v2, hv⟩ : ∃ v2, v2 = w2.alloc (.cells #[.int .i64 (n : Int), .slice ao2 fL.length ck2] 25) := ⟨_, rfl⟩
  have X2 := Lib.hid (show Two v2 w2.heap.size (.int .i64 (n : Int)) (.slice ao2 fL.length ck2) by rw [hv]; exact Two.made _ _ _ _)
  have A2 := Lib.hid (show Arg v2 ao2 fL by rw [hv]; exact hA.on (one_more _))
  have B2 := Lib.hid (show Below v1.heap.size v1 v2 by rw [hv]; exact hb.alloc hb.size _)
  have Y2 := Lib.hid (show v1.heap.size ≤ w2.heap.size ∧ v2.heap.size = w2.heap.size + 1 by rw [hv]; exact ⟨hb.size, by simp⟩)
  clear hA hm hb
  go_upto_region 3 with (fail)
  rw [← hv]
  clear hv
  clear p0 p1 p2 p3 p4 p5
  have PX := Lib.hid (PX.out.kept B2.out)
  have Q0 := Lib.hid (below_on Q0.out B2.out)
  obtain ⟨p0, p1, p2, p3, p4, p5⟩ := PF.out _ PX.out
  go_wp2_with fail
  refine (BE.out _ Q0.out).mono ?_
  rintro e w3 ⟨ao3, ck3, rfl, hA, hm, _, hb⟩
  obtain ⟨v3, hv⟩ : ∃ v3, v3 = w3.alloc (.cells #[.int .i64 0, .slice ao3 ([] : List Int).length ck3] 25) := ⟨_, rfl⟩
  have B3 := Lib.hid (show Below v2.heap.size v2 v3 by rw [hv]; exact hb.alloc hb.size _)
  clear hA hm hb
  go_upto_region 4 with (fail)
  try simp only [List.length_nil] at hv
  rw [← hv]
  clear hv
  clear p0 p1 p2 p3 p4 p5
  have PX := Lib.hid (PX.out.kept B3.out)
  have Q0 := Lib.hid (below_on Q0.out B3.out)
  have X1 := Lib.hid (X1.out.kept (below_on B2.out B3.out))
  have A1 := Lib.hid (A1.out.on (below_on B2.out B3.out))
  have X2 := Lib.hid (X2.out.kept B3.out)
  have A2 := Lib.hid (A2.out.on B3.out)
  obtain ⟨p0, p1, p2, p3, p4, p5⟩ := PF.out _ PX.out
  go_wp2_with fail
  refine (H1.out _ Q0.out).mono ?_
  rintro e v4 ⟨rfl, hb⟩
  clear p0 p1 p2 p3 p4 p5
  have X1 := Lib.hid (X1.out.kept hb)
  have A1 := Lib.hid (A1.out.on hb)
  have X2 := Lib.hid (X2.out.kept hb)
  have A2 := Lib.hid (A2.out.on hb)
  have Q0 := Lib.hid (below_on Q0.out hb)
  clear hb
  obtain ⟨b0, b1, _, _⟩ := X1.out.facts
  go_wp2_with fail
  refine (H2.out _ _ _ A1.out Q0.out).mono ?_
  rintro e v5 ⟨rfl, hb⟩
  clear b0 b1
  have X1 := Lib.hid (X1.out.kept hb)
  have A1 := Lib.hid (A1.out.on hb)
  have X2 := Lib.hid (X2.out.kept hb)
  have A2 := Lib.hid (A2.out.on hb)
  have Q0 := Lib.hid (below_on Q0.out hb)
  clear hb
  obtain ⟨b0, b1, _, _⟩ := X2.out.facts
  go_wp2_with fail
  refine (H3.out _ _ _ A2.out Q0.out).mono ?_
  rintro e v6 ⟨rfl, hb⟩
  clear b0 b1
  have X1 := Lib.hid (X1.out.kept hb)
  have A1 := Lib.hid (A1.out.on hb)
  have X2 := Lib.hid (X2.out.kept hb)
  have A2 := Lib.hid (A2.out.on hb)
  have Q0 := Lib.hid (below_on Q0.out hb)
  clear hb
  go_wp2_with fail
  go_ret
  exact ⟨rfl, Q0.out⟩

set_option maxRecDepth 100000 in
set_option maxHeartbeats 2000000 in
theorem moved_4_0t (n i : Nat) (l rL fL bL : List Int) (ao : Option Addr) (cap : Nat) (j c : Int) (dao : Option Addr) (dl dc : Nat) (po qo : Option Addr) (pl pc qc : Nat) (hq tq fq : Bool) (w : World)
    (RE : Hid (∀ W, Below w.heap.size w W → Calls Try.prog 30 #[.agg #[.int .i64 (n : Int), .slice ao l.length cap], .int .i64 (i : Int), .int .i64 c] W (ZV2 W n rL 0)))
    (FR : Hid (∀ W, Below w.heap.size w W → Calls Try.prog 32 #[.agg #[.int .i64 (n : Int), .slice ao l.length cap], .int .i64 (i : Int)] W (ZV2 W n fL 0)))
    (BE : Hid (∀ W, Below w.heap.size w W → Calls Try.prog 34 #[.agg #[.int .i64 (n : Int), .slice ao l.length cap], .int .i64 (i : Int), .int .i64 c] W (ZV2 W (zrN 4 n) (zrL 4 bL) 4)))
    (H1 : Hid (∀ W, Below w.heap.size w W → Calls Try.prog 46 #[.agg #[.int .i64 (n : Int), .slice ao l.length cap], .slice qo pl qc] W (Made (.tuple #[.bool hq, .int .i64 0]) W)))
    (H2 : Hid (∀ W a ca, Arg W a rL → Below w.heap.size w W → Calls Try.prog 46 #[.agg #[.int .i64 (n : Int), .slice a rL.length ca], .slice qo pl qc] W (Made (.tuple #[.bool tq, .int .i64 0]) W)))
    (H3 : Hid (∀ W a ca, Arg W a fL → Below w.heap.size w W → Calls Try.prog 46 #[.agg #[.int .i64 (n : Int), .slice a fL.length ca], .slice qo pl qc] W (Made (.tuple #[.bool fq, .int .i64 0]) W)))
    (hbq : hq = false)
    (htq : tq = true) (hfq : fq = true) :
    Calls Try.prog 48 #[.agg #[.int .i64 (n : Int), .slice ao l.length cap, .int .i64 (i : Int), .int .i64 j, .int .i64 c, .slice dao dl dc], .slice po pl pc, .slice qo pl qc, .bool true] w (Made (.bool true) w) := by
  have PF := Lib.hid (show ∀ W, Bx W w.heap.size #[.int .i64 (n : Int), .slice ao l.length cap, .int .i64 (i : Int), .int .i64 j, .int .i64 c, .slice dao dl dc] → (W.cell? ⟨w.heap.size, 0, none⟩ = some (.int .i64 (n : Int)) ∧ W.cell? ⟨w.heap.size, 1, none⟩ = some (.slice ao l.length cap) ∧ W.cell? ⟨w.heap.size, 2, none⟩ = some (.int .i64 (i : Int)) ∧ W.cell? ⟨w.heap.size, 3, none⟩ = some (.int .i64 j) ∧ W.cell? ⟨w.heap.size, 4, none⟩ = some (.int .i64 c) ∧ W.cell? ⟨w.heap.size, 5, none⟩ = some (.slice dao dl dc)) from fun W h => ⟨h.cell 0, h.cell 1, h.cell 2, h.cell 3, h.cell 4, h.cell 5⟩)
  have hz : ¬ ((4 : Int) = 0) := by decide
  simp only [zrN, zrL, if_neg hz] at BE
  clear hz
  unfold ZV2 at RE FR BE
  subst htq hfq
  subst hbq
  obtain ⟨w0, hw0⟩ : ∃ w0, w0 = w.alloc (.cells #[.int .i64 (n : Int), .slice ao l.length cap, .int .i64 (i : Int), .int .i64 j, .int .i64 c, .slice dao dl dc] 37) := ⟨_, rfl⟩
  have PX := Lib.hid (show Bx w0 w.heap.size #[.int .i64 (n : Int), .slice ao l.length cap, .int .i64 (i : Int), .int .i64 j, .int .i64 c, .slice dao dl dc] by rw [hw0]; exact Bx.made _ _ _)
  have Q0 := Lib.hid (show Below w.heap.size w w0 by rw [hw0]; exact one_more _)
  go_enter Try.func48, Try.ntmps48
  go_upto_region 1 with (fail)
  rw [← hw0]
  clear hw0
  obtain ⟨p0, p1, p2, p3, p4, p5⟩ := PF.out _ PX.out
  go_wp2_with fail
  refine (RE.out _ Q0.out).mono ?_
  rintro e w1 ⟨ao1, ck1, rfl, hA, hm, _, hb⟩
  have L1 := Lib.hid hm
  obtain ⟨v1, hv⟩ : ∃ v1, v1 = w1.alloc (.cells #[.int .i64 (n : Int), .slice ao1 rL.length ck1] 25) := ⟨_, rfl⟩
  have X1 := Lib.hid (show Two v1 w1.heap.size (.int .i64 (n : Int)) (.slice ao1 rL.length ck1) by rw [hv]; exact Two.made _ _ _ _)
  have A1 := Lib.hid (show Arg v1 ao1 rL by rw [hv]; exact hA.on (one_more _))
  have B1 := Lib.hid (show Below w0.heap.size w0 v1 by rw [hv]; exact hb.alloc hb.size _)
  have Y1 := Lib.hid (show w0.heap.size ≤ w1.heap.size ∧ v1.heap.size = w1.heap.size + 1 by rw [hv]; exact ⟨hb.size, by simp⟩)
  clear hA hm hb
  go_upto_region 2 with (fail)
  rw [← hv]
  clear hv
  clear p0 p1 p2 p3 p4 p5
  have PX := Lib.hid (PX.out.kept B1.out)
  have Q0 := Lib.hid (below_on Q0.out B1.out)
  obtain ⟨p0, p1, p2, p3, p4, p5⟩ := PF.out _ PX.out
  go_wp2_with fail
  refine (FR.out _ Q0.out).mono ?_
  rintro e w2 ⟨ao2, ck2, rfl, hA, hm, _, hb⟩
  have L2 := Lib.hid hm
  obtain ⟨v2, hv⟩ : ∃ v2, v2 = w2.alloc (.cells #[.int .i64 (n : Int), .slice ao2 fL.length ck2] 25) := ⟨_, rfl⟩
  have X2 := Lib.hid (show Two v2 w2.heap.size (.int .i64 (n : Int)) (.slice ao2 fL.length ck2) by rw [hv]; exact Two.made _ _ _ _)
  have A2 := Lib.hid (show Arg v2 ao2 fL by rw [hv]; exact hA.on (one_more _))
  have B2 := Lib.hid (show Below v1.heap.size v1 v2 by rw [hv]; exact hb.alloc hb.size _)
  have Y2 := Lib.hid (show v1.heap.size ≤ w2.heap.size ∧ v2.heap.size = w2.heap.size + 1 by rw [hv]; exact ⟨hb.size, by simp⟩)
  clear hA hm hb
  go_upto_region 3 with (fail)
  rw [← hv]
  clear hv
  clear p0 p1 p2 p3 p4 p5
  have PX := Lib.hid (PX.out.kept B2.out)
  have Q0 := Lib.hid (below_on Q0.out B2.out)
  obtain ⟨p0, p1, p2, p3, p4, p5⟩ := PF.out _ PX.out
  go_wp2_with fail
  refine (BE.out _ Q0.out).mono ?_
  rintro e w3 ⟨ao3, ck3, rfl, hA, hm, _, hb⟩
  obtain ⟨v3, hv⟩ : ∃ v3, v3 = w3.alloc (.cells #[.int .i64 0, .slice ao3 ([] : List Int).length ck3] 25) := ⟨_, rfl⟩
  have B3 := Lib.hid (show Below v2.heap.size v2 v3 by rw [hv]; exact hb.alloc hb.size _)
  clear hA hm hb
  go_upto_region 4 with (fail)
  try simp only [List.length_nil] at hv
  rw [← hv]
  clear hv
  clear p0 p1 p2 p3 p4 p5
  have PX := Lib.hid (PX.out.kept B3.out)
  have Q0 := Lib.hid (below_on Q0.out B3.out)
  have X1 := Lib.hid (X1.out.kept (below_on B2.out B3.out))
  have A1 := Lib.hid (A1.out.on (below_on B2.out B3.out))
  have X2 := Lib.hid (X2.out.kept B3.out)
  have A2 := Lib.hid (A2.out.on B3.out)
  obtain ⟨p0, p1, p2, p3, p4, p5⟩ := PF.out _ PX.out
  go_wp2_with fail
  refine (H1.out _ Q0.out).mono ?_
  rintro e v4 ⟨rfl, hb⟩
  clear p0 p1 p2 p3 p4 p5
  have X1 := Lib.hid (X1.out.kept hb)
  have A1 := Lib.hid (A1.out.on hb)
  have X2 := Lib.hid (X2.out.kept hb)
  have A2 := Lib.hid (A2.out.on hb)
  have Q0 := Lib.hid (below_on Q0.out hb)
  clear hb
  obtain ⟨b0, b1, _, _⟩ := X1.out.facts
  go_wp2_with fail
  refine (H2.out _ _ _ A1.out Q0.out).mono ?_
  rintro e v5 ⟨rfl, hb⟩
  clear b0 b1
  have X1 := Lib.hid (X1.out.kept hb)
  have A1 := Lib.hid (A1.out.on hb)
  have X2 := Lib.hid (X2.out.kept hb)
  have A2 := Lib.hid (A2.out.on hb)
  have Q0 := Lib.hid (below_on Q0.out hb)
  clear hb
  obtain ⟨b0, b1, _, _⟩ := X2.out.facts
  go_wp2_with fail
  refine (H3.out _ _ _ A2.out Q0.out).mono ?_
  rintro e v6 ⟨rfl, hb⟩
  clear b0 b1
  have X1 := Lib.hid (X1.out.kept hb)
  have A1 := Lib.hid (A1.out.on hb)
  have X2 := Lib.hid (X2.out.kept hb)
  have A2 := Lib.hid (A2.out.on hb)
  have Q0 := Lib.hid (below_on Q0.out hb)
  clear hb
  go_wp2_with fail
  go_ret
  exact ⟨rfl, Q0.out⟩

set_option maxRecDepth 100000 in
set_option maxHeartbeats 2000000 in
theorem moved_4_0f (n i : Nat) (l rL fL bL : List Int) (ao : Option Addr) (cap : Nat) (j c : Int) (dao : Option Addr) (dl dc : Nat) (po qo : Option Addr) (pl pc qc : Nat) (hq tq fq : Bool) (w : World)
    (RE : Hid (∀ W, Below w.heap.size w W → Calls Try.prog 30 #[.agg #[.int .i64 (n : Int), .slice ao l.length cap], .int .i64 (i : Int), .int .i64 c] W (ZV2 W n rL 0)))
    (FR : Hid (∀ W, Below w.heap.size w W → Calls Try.prog 32 #[.agg #[.int .i64 (n : Int), .slice ao l.length cap], .int .i64 (i : Int)] W (ZV2 W n fL 0)))
    (BE : Hid (∀ W, Below w.heap.size w W → Calls Try.prog 34 #[.agg #[.int .i64 (n : Int), .slice ao l.length cap], .int .i64 (i : Int), .int .i64 c] W (ZV2 W (zrN 4 n) (zrL 4 bL) 4)))
    (H1 : Hid (∀ W, Below w.heap.size w W → Calls Try.prog 46 #[.agg #[.int .i64 (n : Int), .slice ao l.length cap], .slice qo pl qc] W (Made (.tuple #[.bool hq, .int .i64 0]) W)))
    (H2 : Hid (∀ W a ca, Arg W a rL → Below w.heap.size w W → Calls Try.prog 46 #[.agg #[.int .i64 (n : Int), .slice a rL.length ca], .slice qo pl qc] W (Made (.tuple #[.bool tq, .int .i64 0]) W)))
    (H3 : Hid (∀ W a ca, Arg W a fL → Below w.heap.size w W → Calls Try.prog 46 #[.agg #[.int .i64 (n : Int), .slice a fL.length ca], .slice qo pl qc] W (Made (.tuple #[.bool fq, .int .i64 0]) W)))
    (hbq : hq = false) :
    Calls Try.prog 48 #[.agg #[.int .i64 (n : Int), .slice ao l.length cap, .int .i64 (i : Int), .int .i64 j, .int .i64 c, .slice dao dl dc], .slice po pl pc, .slice qo pl qc, .bool false] w (Made (.bool true) w) := by
  have PF := Lib.hid (show ∀ W, Bx W w.heap.size #[.int .i64 (n : Int), .slice ao l.length cap, .int .i64 (i : Int), .int .i64 j, .int .i64 c, .slice dao dl dc] → (W.cell? ⟨w.heap.size, 0, none⟩ = some (.int .i64 (n : Int)) ∧ W.cell? ⟨w.heap.size, 1, none⟩ = some (.slice ao l.length cap) ∧ W.cell? ⟨w.heap.size, 2, none⟩ = some (.int .i64 (i : Int)) ∧ W.cell? ⟨w.heap.size, 3, none⟩ = some (.int .i64 j) ∧ W.cell? ⟨w.heap.size, 4, none⟩ = some (.int .i64 c) ∧ W.cell? ⟨w.heap.size, 5, none⟩ = some (.slice dao dl dc)) from fun W h => ⟨h.cell 0, h.cell 1, h.cell 2, h.cell 3, h.cell 4, h.cell 5⟩)
  have hz : ¬ ((4 : Int) = 0) := by decide
  simp only [zrN, zrL, if_neg hz] at BE
  clear hz
  unfold ZV2 at RE FR BE
  subst hbq
  obtain ⟨w0, hw0⟩ : ∃ w0, w0 = w.alloc (.cells #[.int .i64 (n : Int), .slice ao l.length cap, .int .i64 (i : Int), .int .i64 j, .int .i64 c, .slice dao dl dc] 37) := ⟨_, rfl⟩
  have PX := Lib.hid (show Bx w0 w.heap.size #[.int .i64 (n : Int), .slice ao l.length cap, .int .i64 (i : Int), .int .i64 j, .int .i64 c, .slice dao dl dc] by rw [hw0]; exact Bx.made _ _ _)
  have Q0 := Lib.hid (show Below w.heap.size w w0 by rw [hw0]; exact one_more _)
  go_enter Try.func48, Try.ntmps48
  go_upto_region 1 with (fail)
  rw [← hw0]
  clear hw0
  obtain ⟨p0, p1, p2, p3, p4, p5⟩ := PF.out _ PX.out
  go_wp2_with fail
  refine (RE.out _ Q0.out).mono ?_
  rintro e w1 ⟨ao1, ck1, rfl, hA, hm, _, hb⟩
  have L1 := Lib.hid hm
  obtain ⟨v1, hv⟩ : ∃ v1, v1 = w1.alloc (.cells #[.int .i64 (n : Int), .slice ao1 rL.length ck1] 25) := ⟨_, rfl⟩
  have X1 := Lib.hid (show Two v1 w1.heap.size (.int .i64 (n : Int)) (.slice ao1 rL.length ck1) by rw [hv]; exact Two.made _ _ _ _)
  have A1 := Lib.hid (show Arg v1 ao1 rL by rw [hv]; exact hA.on (one_more _))
  have B1 := Lib.hid (show Below w0.heap.size w0 v1 by rw [hv]; exact hb.alloc hb.size _)
  have Y1 := Lib.hid (show w0.heap.size ≤ w1.heap.size ∧ v1.heap.size = w1.heap.size + 1 by rw [hv]; exact ⟨hb.size, by simp⟩)
  clear hA hm hb
  go_upto_region 2 with (fail)
  rw [← hv]
  clear hv
  clear p0 p1 p2 p3 p4 p5
  have PX := Lib.hid (PX.out.kept B1.out)
  have Q0 := Lib.hid (below_on Q0.out B1.out)
  obtain ⟨p0, p1, p2, p3, p4, p5⟩ := PF.out _ PX.out
  go_wp2_with fail
  refine (FR.out _ Q0.out).mono ?_
  rintro e w2 ⟨ao2, ck2, rfl, hA, hm, _, hb⟩
  have L2 := Lib.hid hm
  obtain ⟨v2, hv⟩ : ∃ v2, v2 = w2.alloc (.cells #[.int .i64 (n : Int), .slice ao2 fL.length ck2] 25) := ⟨_, rfl⟩
  have X2 := Lib.hid (show Two v2 w2.heap.size (.int .i64 (n : Int)) (.slice ao2 fL.length ck2) by rw [hv]; exact Two.made _ _ _ _)
  have A2 := Lib.hid (show Arg v2 ao2 fL by rw [hv]; exact hA.on (one_more _))
  have B2 := Lib.hid (show Below v1.heap.size v1 v2 by rw [hv]; exact hb.alloc hb.size _)
  have Y2 := Lib.hid (show v1.heap.size ≤ w2.heap.size ∧ v2.heap.size = w2.heap.size + 1 by rw [hv]; exact ⟨hb.size, by simp⟩)
  clear hA hm hb
  go_upto_region 3 with (fail)
  rw [← hv]
  clear hv
  clear p0 p1 p2 p3 p4 p5
  have PX := Lib.hid (PX.out.kept B2.out)
  have Q0 := Lib.hid (below_on Q0.out B2.out)
  obtain ⟨p0, p1, p2, p3, p4, p5⟩ := PF.out _ PX.out
  go_wp2_with fail
  refine (BE.out _ Q0.out).mono ?_
  rintro e w3 ⟨ao3, ck3, rfl, hA, hm, _, hb⟩
  obtain ⟨v3, hv⟩ : ∃ v3, v3 = w3.alloc (.cells #[.int .i64 0, .slice ao3 ([] : List Int).length ck3] 25) := ⟨_, rfl⟩
  have B3 := Lib.hid (show Below v2.heap.size v2 v3 by rw [hv]; exact hb.alloc hb.size _)
  clear hA hm hb
  go_upto_region 4 with (fail)
  try simp only [List.length_nil] at hv
  rw [← hv]
  clear hv
  clear p0 p1 p2 p3 p4 p5
  have PX := Lib.hid (PX.out.kept B3.out)
  have Q0 := Lib.hid (below_on Q0.out B3.out)
  have X1 := Lib.hid (X1.out.kept (below_on B2.out B3.out))
  have A1 := Lib.hid (A1.out.on (below_on B2.out B3.out))
  have X2 := Lib.hid (X2.out.kept B3.out)
  have A2 := Lib.hid (A2.out.on B3.out)
  obtain ⟨p0, p1, p2, p3, p4, p5⟩ := PF.out _ PX.out
  go_wp2_with fail
  refine (H1.out _ Q0.out).mono ?_
  rintro e v4 ⟨rfl, hb⟩
  clear p0 p1 p2 p3 p4 p5
  have X1 := Lib.hid (X1.out.kept hb)
  have A1 := Lib.hid (A1.out.on hb)
  have X2 := Lib.hid (X2.out.kept hb)
  have A2 := Lib.hid (A2.out.on hb)
  have Q0 := Lib.hid (below_on Q0.out hb)
  clear hb
  obtain ⟨b0, b1, _, _⟩ := X1.out.facts
  go_wp2_with fail
  refine (H2.out _ _ _ A1.out Q0.out).mono ?_
  rintro e v5 ⟨rfl, hb⟩
  clear b0 b1
  have X1 := Lib.hid (X1.out.kept hb)
  have A1 := Lib.hid (A1.out.on hb)
  have X2 := Lib.hid (X2.out.kept hb)
  have A2 := Lib.hid (A2.out.on hb)
  have Q0 := Lib.hid (below_on Q0.out hb)
  clear hb
  obtain ⟨b0, b1, _, _⟩ := X2.out.facts
  go_wp2_with fail
  refine (H3.out _ _ _ A2.out Q0.out).mono ?_
  rintro e v6 ⟨rfl, hb⟩
  clear b0 b1
  have X1 := Lib.hid (X1.out.kept hb)
  have A1 := Lib.hid (A1.out.on hb)
  have X2 := Lib.hid (X2.out.kept hb)
  have A2 := Lib.hid (A2.out.on hb)
  have Q0 := Lib.hid (below_on Q0.out hb)
  clear hb
  go_wp2_with fail
  go_ret
  exact ⟨rfl, Q0.out⟩

set_option maxRecDepth 100000 in
set_option maxHeartbeats 2000000 in
theorem moved_7_7 (n i : Nat) (l rL fL bL : List Int) (ao : Option Addr) (cap : Nat) (j c : Int) (dao : Option Addr) (dl dc : Nat) (po qo : Option Addr) (pl pc qc : Nat) (hs hq tq fq : Bool) (w : World)
    (RE : Hid (∀ W, Below w.heap.size w W → Calls Try.prog 30 #[.agg #[.int .i64 (n : Int), .slice ao l.length cap], .int .i64 (i : Int), .int .i64 c] W (ZV2 W n rL 0)))
    (FR : Hid (∀ W, Below w.heap.size w W → Calls Try.prog 32 #[.agg #[.int .i64 (n : Int), .slice ao l.length cap], .int .i64 (i : Int)] W (ZV2 W n fL 0)))
    (BE : Hid (∀ W, Below w.heap.size w W → Calls Try.prog 34 #[.agg #[.int .i64 (n : Int), .slice ao l.length cap], .int .i64 (i : Int), .int .i64 c] W (ZV2 W (zrN 7 n) (zrL 7 bL) 7)))
    (H1 : Hid (∀ W, Below w.heap.size w W → Calls Try.prog 46 #[.agg #[.int .i64 (n : Int), .slice ao l.length cap], .slice qo pl qc] W (Made (.tuple #[.bool hq, .int .i64 7]) W)))
    (H2 : Hid (∀ W a ca, Arg W a rL → Below w.heap.size w W → Calls Try.prog 46 #[.agg #[.int .i64 (n : Int), .slice a rL.length ca], .slice qo pl qc] W (Made (.tuple #[.bool tq, .int .i64 7]) W)))
    (H3 : Hid (∀ W a ca, Arg W a fL → Below w.heap.size w W → Calls Try.prog 46 #[.agg #[.int .i64 (n : Int), .slice a fL.length ca], .slice qo pl qc] W (Made (.tuple #[.bool fq, .int .i64 7]) W))) :
    Calls Try.prog 48 #[.agg #[.int .i64 (n : Int), .slice ao l.length cap, .int .i64 (i : Int), .int .i64 j, .int .i64 c, .slice dao dl dc], .slice po pl pc, .slice qo pl qc, .bool hs] w (Made (.bool true) w) := by
  have PF := Lib.hid (show ∀ W, Bx W w.heap.size #[.int .i64 (n : Int), .slice ao l.length cap, .int .i64 (i : Int), .int .i64 j, .int .i64 c, .slice dao dl dc] → (W.cell? ⟨w.heap.size, 0, none⟩ = some (.int .i64 (n : Int)) ∧ W.cell? ⟨w.heap.size, 1, none⟩ = some (.slice ao l.length cap) ∧ W.cell? ⟨w.heap.size, 2, none⟩ = some (.int .i64 (i : Int)) ∧ W.cell? ⟨w.heap.size, 3, none⟩ = some (.int .i64 j) ∧ W.cell? ⟨w.heap.size, 4, none⟩ = some (.int .i64 c) ∧ W.cell? ⟨w.heap.size, 5, none⟩ = some (.slice dao dl dc)) from fun W h => ⟨h.cell 0, h.cell 1, h.cell 2, h.cell 3, h.cell 4, h.cell 5⟩)
  have hz : ¬ ((7 : Int) = 0) := by decide
  simp only [zrN, zrL, if_neg hz] at BE
  clear hz
  unfold ZV2 at RE FR BE
  obtain ⟨w0, hw0⟩ : ∃ w0, w0 = w.alloc (.cells #[.int .i64 (n : Int), .slice ao l.length cap, .int .i64 (i : Int), .int .i64 j, .int .i64 c, .slice dao dl dc] 37) := ⟨_, rfl⟩
  have PX := Lib.hid (show Bx w0 w.heap.size #[.int .i64 (n : Int), .slice ao l.length cap, .int .i64 (i : Int), .int .i64 j, .int .i64 c, .slice dao dl dc] by rw [hw0]; exact Bx.made _ _ _)
  have Q0 := Lib.hid (show Below w.heap.size w w0 by rw [hw0]; exact one_more _)
  go_enter Try.func48, Try.ntmps48
  go_upto_region 1 with (fail)
  rw [← hw0]
  clear hw0
  obtain ⟨p0, p1, p2, p3, p4, p5⟩ := PF.out _ PX.out
  go_wp2_with fail
  refine (RE.out _ Q0.out).mono ?_
  rintro e w1 ⟨ao1, ck1, rfl, hA, hm, _, hb⟩
  have L1 := Lib.hid hm
  obtain ⟨v1, hv⟩ : ∃ v1, v1 = w1.alloc (.cells #[.int .i64 (n : Int), .slice ao1 rL.length ck1] 25) := ⟨_, rfl⟩
  have X1 := Lib.hid (show Two v1 w1.heap.size (.int .i64 (n : Int)) (.slice ao1 rL.length ck1) by rw [hv]; exact Two.made _ _ _ _)
  have A1 := Lib.hid (show Arg v1 ao1 rL by rw [hv]; exact hA.on (one_more _))
  have B1 := Lib.hid (show Below w0.heap.size w0 v1 by rw [hv]; exact hb.alloc hb.size _)
  have Y1 := Lib.hid (show w0.heap.size ≤ w1.heap.size ∧ v1.heap.size = w1.heap.size + 1 by rw [hv]; exact ⟨hb.size, by simp⟩)
  clear hA hm hb
  go_upto_region 2 with (fail)
  rw [← hv]
  clear hv
  clear p0 p1 p2 p3 p4 p5
  have PX := Lib.hid (PX.out.kept B1.out)
  have Q0 := Lib.hid (below_on Q0.out B1.out)
  obtain ⟨p0, p1, p2, p3, p4, p5⟩ := PF.out _ PX.out
  go_wp2_with fail
  refine (FR.out _ Q0.out).mono ?_
  rintro e w2 ⟨ao2, ck2, rfl, hA, hm, _, hb⟩
  have L2 := Lib.hid hm
  obtain ⟨v2, hv⟩ : ∃ v2, v2 = w2.alloc (.cells #[.int .i64 (n : Int), .slice ao2 fL.length ck2] 25) := ⟨_, rfl⟩
  have X2 := Lib.hid (show Two v2 w2.heap.size (.int .i64 (n : Int)) (.slice ao2 fL.length ck2) by rw [hv]; exact Two.made _ _ _ _)
  have A2 := Lib.hid (show Arg v2 ao2 fL by rw [hv]; exact hA.on (one_more _))
  have B2 := Lib.hid (show Below v1.heap.size v1 v2 by rw [hv]; exact hb.alloc hb.size _)
  have Y2 := Lib.hid (show v1.heap.size ≤ w2.heap.size ∧ v2.heap.size = w2.heap.size + 1 by rw [hv]; exact ⟨hb.size, by simp⟩)
  clear hA hm hb
  go_upto_region 3 with (fail)
  rw [← hv]
  clear hv
  clear p0 p1 p2 p3 p4 p5
  have PX := Lib.hid (PX.out.kept B2.out)
  have Q0 := Lib.hid (below_on Q0.out B2.out)
  obtain ⟨p0, p1, p2, p3, p4, p5⟩ := PF.out _ PX.out
  go_wp2_with fail
  refine (BE.out _ Q0.out).mono ?_
  rintro e w3 ⟨ao3, ck3, rfl, hA, hm, _, hb⟩
  obtain ⟨v3, hv⟩ : ∃ v3, v3 = w3.alloc (.cells #[.int .i64 0, .slice ao3 ([] : List Int).length ck3] 25) := ⟨_, rfl⟩
  have B3 := Lib.hid (show Below v2.heap.size v2 v3 by rw [hv]; exact hb.alloc hb.size _)
  clear hA hm hb
  go_upto_region 4 with (fail)
  try simp only [List.length_nil] at hv
  rw [← hv]
  clear hv
  clear p0 p1 p2 p3 p4 p5
  have PX := Lib.hid (PX.out.kept B3.out)
  have Q0 := Lib.hid (below_on Q0.out B3.out)
  have X1 := Lib.hid (X1.out.kept (below_on B2.out B3.out))
  have A1 := Lib.hid (A1.out.on (below_on B2.out B3.out))
  have X2 := Lib.hid (X2.out.kept B3.out)
  have A2 := Lib.hid (A2.out.on B3.out)
  obtain ⟨p0, p1, p2, p3, p4, p5⟩ := PF.out _ PX.out
  go_wp2_with fail
  refine (H1.out _ Q0.out).mono ?_
  rintro e v4 ⟨rfl, hb⟩
  clear p0 p1 p2 p3 p4 p5
  have X1 := Lib.hid (X1.out.kept hb)
  have A1 := Lib.hid (A1.out.on hb)
  have X2 := Lib.hid (X2.out.kept hb)
  have A2 := Lib.hid (A2.out.on hb)
  have Q0 := Lib.hid (below_on Q0.out hb)
  clear hb
  obtain ⟨b0, b1, _, _⟩ := X1.out.facts
  go_wp2_with fail
  refine (H2.out _ _ _ A1.out Q0.out).mono ?_
  rintro e v5 ⟨rfl, hb⟩
  clear b0 b1
  have X1 := Lib.hid (X1.out.kept hb)
  have A1 := Lib.hid (A1.out.on hb)
  have X2 := Lib.hid (X2.out.kept hb)
  have A2 := Lib.hid (A2.out.on hb)
  have Q0 := Lib.hid (below_on Q0.out hb)
  clear hb
  obtain ⟨b0, b1, _, _⟩ := X2.out.facts
  go_wp2_with fail
  refine (H3.out _ _ _ A2.out Q0.out).mono ?_
  rintro e v6 ⟨rfl, hb⟩
  clear b0 b1
  have X1 := Lib.hid (X1.out.kept hb)
  have A1 := Lib.hid (A1.out.on hb)
  have X2 := Lib.hid (X2.out.kept hb)
  have A2 := Lib.hid (A2.out.on hb)
  have Q0 := Lib.hid (below_on Q0.out hb)
  clear hb
  go_wp2_with fail
  go_ret
  exact ⟨rfl, Q0.out⟩

set_option maxRecDepth 100000 in
set_option maxHeartbeats 2000000 in
theorem moved_7_0t (n i : Nat) (l rL fL bL : List Int) (ao : Option Addr) (cap : Nat) (j c : Int) (dao : Option Addr) (dl dc : Nat) (po qo : Option Addr) (pl pc qc : Nat) (hq tq fq : Bool) (w : World)
    (RE : Hid (∀ W, Below w.heap.size w W → Calls Try.prog 30 #[.agg #[.int .i64 (n : Int), .slice ao l.length cap], .int .i64 (i : Int), .int .i64 c] W (ZV2 W n rL 0)))
    (FR : Hid (∀ W, Below w.heap.size w W → Calls Try.prog 32 #[.agg #[.int .i64 (n : Int), .slice ao l.length cap], .int .i64 (i : Int)] W (ZV2 W n fL 0)))
    (BE : Hid (∀ W, Below w.heap.size w W → Calls Try.prog 34 #[.agg #[.int .i64 (n : Int), .slice ao l.length cap], .int .i64 (i : Int), .int .i64 c] W (ZV2 W (zrN 7 n) (zrL 7 bL) 7)))
    (H1 : Hid (∀ W, Below w.heap.size w W → Calls Try.prog 46 #[.agg #[.int .i64 (n : Int), .slice ao l.length cap], .slice qo pl qc] W (Made (.tuple #[.bool hq, .int .i64 0]) W)))
    (H2 : Hid (∀ W a ca, Arg W a rL → Below w.heap.size w W → Calls Try.prog 46 #[.agg #[.int .i64 (n : Int), .slice a rL.length ca], .slice qo pl qc] W (Made (.tuple #[.bool tq, .int .i64 0]) W)))
    (H3 : Hid (∀ W a ca, Arg W a fL → Below w.heap.size w W → Calls Try.prog 46 #[.agg #[.int .i64 (n : Int), .slice a fL.length ca], .slice qo pl qc] W (Made (.tuple #[.bool fq, .int .i64 0]) W)))
    (htq : tq = true) (hfq : fq = true) :
    Calls Try.prog 48 #[.agg #[.int .i64 (n : Int), .slice ao l.length cap, .int .i64 (i : Int), .int .i64 j, .int .i64 c, .slice dao dl dc], .slice po pl pc, .slice qo pl qc, .bool true] w (Made (.bool true) w) := by
  have PF := Lib.hid (show ∀ W, Bx W w.heap.size #[.int .i64 (n : Int), .slice ao l.length cap, .int .i64 (i : Int), .int .i64 j, .int .i64 c, .slice dao dl dc] → (W.cell? ⟨w.heap.size, 0, none⟩ = some (.int .i64 (n : Int)) ∧ W.cell? ⟨w.heap.size, 1, none⟩ = some (.slice ao l.length cap) ∧ W.cell? ⟨w.heap.size, 2, none⟩ = some (.int .i64 (i : Int)) ∧ W.cell? ⟨w.heap.size, 3, none⟩ = some (.int .i64 j) ∧ W.cell? ⟨w.heap.size, 4, none⟩ = some (.int .i64 c) ∧ W.cell? ⟨w.heap.size, 5, none⟩ = some (.slice dao dl dc)) from fun W h => ⟨h.cell 0, h.cell 1, h.cell 2, h.cell 3, h.cell 4, h.cell 5⟩)
  have hz : ¬ ((7 : Int) = 0) := by decide
  simp only [zrN, zrL, if_neg hz] at BE
  clear hz
  unfold ZV2 at RE FR BE
  subst htq hfq
  obtain ⟨w0, hw0⟩ : ∃ w0, w0 = w.alloc (.cells #[.int .i64 (n : Int), .slice ao l.length cap, .int .i64 (i : Int), .int .i64 j, .int .i64 c, .slice dao dl dc] 37) := ⟨_, rfl⟩
  have PX := Lib.hid (show Bx w0 w.heap.size #[.int .i64 (n : Int), .slice ao l.length cap, .int .i64 (i : Int), .int .i64 j, .int .i64 c, .slice dao dl dc] by rw [hw0]; exact Bx.made _ _ _)
  have Q0 := Lib.hid (show Below w.heap.size w w0 by rw [hw0]; exact one_more _)
  go_enter Try.func48, Try.ntmps48
  go_upto_region 1 with (fail)
  rw [← hw0]
  clear hw0
  obtain ⟨p0, p1, p2, p3, p4, p5⟩ := PF.out _ PX.out
  go_wp2_with fail
  refine (RE.out _ Q0.out).mono ?_
  rintro e w1 ⟨ao1, ck1, rfl, hA, hm, _, hb⟩
  have L1 := Lib.hid hm
  obtain ⟨v1, hv⟩ : ∃ v1, v1 = w1.alloc (.cells #[.int .i64 (n : Int), .slice ao1 rL.length ck1] 25) := ⟨_, rfl⟩
  have X1 := Lib.hid (show Two v1 w1.heap.size (.int .i64 (n : Int)) (.slice ao1 rL.length ck1) by rw [hv]; exact Two.made _ _ _ _)
  have A1 := Lib.hid (show Arg v1 ao1 rL by rw [hv]; exact hA.on (one_more _))
  have B1 := Lib.hid (show Below w0.heap.size w0 v1 by rw [hv]; exact hb.alloc hb.size _)
  have Y1 := Lib.hid (show w0.heap.size ≤ w1.heap.size ∧ v1.heap.size = w1.heap.size + 1 by rw [hv]; exact ⟨hb.size, by simp⟩)
  clear hA hm hb
  go_upto_region 2 with (fail)
  rw [← hv]
  clear hv
  clear p0 p1 p2 p3 p4 p5
  have PX := Lib.hid (PX.out.kept B1.out)
  have Q0 := Lib.hid (below_on Q0.out B1.out)
  obtain ⟨p0, p1, p2, p3, p4, p5⟩ := PF.out _ PX.out
  go_wp2_with fail
  refine (FR.out _ Q0.out).mono ?_
  rintro e w2 ⟨ao2, ck2, rfl, hA, hm, _, hb⟩
  have L2 := Lib.hid hm
  obtain ⟨v2, hv⟩ : ∃ v2, v2 = w2.alloc (.cells #[.int .i64 (n : Int), .slice ao2 fL.length ck2] 25) := ⟨_, rfl⟩
  have X2 := Lib.hid (show Two v2 w2.heap.size (.int .i64 (n : Int)) (.slice ao2 fL.length ck2) by rw [hv]; exact Two.made _ _ _ _)
  have A2 := Lib.hid (show Arg v2 ao2 fL by rw [hv]; exact hA.on (one_more _))
  have B2 := Lib.hid (show Below v1.heap.size v1 v2 by rw [hv]; exact hb.alloc hb.size _)
  have Y2 := Lib.hid (show v1.heap.size ≤ w2.heap.size ∧ v2.heap.size = w2.heap.size + 1 by rw [hv]; exact ⟨hb.size, by simp⟩)
  clear hA hm hb
  go_upto_region 3 with (fail)
  rw [← hv]
  clear hv
  clear p0 p1 p2 p3 p4 p5
  have PX := Lib.hid (PX.out.kept B2.out)
  have Q0 := Lib.hid (below_on Q0.out B2.out)
  obtain ⟨p0, p1, p2, p3, p4, p5⟩ := PF.out _ PX.out
  go_wp2_with fail
  refine (BE.out _ Q0.out).mono ?_
  rintro e w3 ⟨ao3, ck3, rfl, hA, hm, _, hb⟩
  obtain ⟨v3, hv⟩ : ∃ v3, v3 = w3.alloc (.cells #[.int .i64 0, .slice ao3 ([] : List Int).length ck3] 25) := ⟨_, rfl⟩
  have B3 := Lib.hid (show Below v2.heap.size v2 v3 by rw [hv]; exact hb.alloc hb.size _)
  clear hA hm hb
  go_upto_region 4 with (fail)
  try simp only [List.length_nil] at hv
  rw [← hv]
  clear hv
  clear p0 p1 p2 p3 p4 p5
  have PX := Lib.hid (PX.out.kept B3.out)
  have Q0 := Lib.hid (below_on Q0.out B3.out)
  have X1 := Lib.hid (X1.out.kept (below_on B2.out B3.out))
  have A1 := Lib.hid (A1.out.on (below_on B2.out B3.out))
  have X2 := Lib.hid (X2.out.kept B3.out)
  have A2 := Lib.hid (A2.out.on B3.out)
  obtain ⟨p0, p1, p2, p3, p4, p5⟩ := PF.out _ PX.out
  go_wp2_with fail
  refine (H1.out _ Q0.out).mono ?_
  rintro e v4 ⟨rfl, hb⟩
  clear p0 p1 p2 p3 p4 p5
  have X1 := Lib.hid (X1.out.kept hb)
  have A1 := Lib.hid (A1.out.on hb)
  have X2 := Lib.hid (X2.out.kept hb)
  have A2 := Lib.hid (A2.out.on hb)
  have Q0 := Lib.hid (below_on Q0.out hb)
  clear hb
  obtain ⟨b0, b1, _, _⟩ := X1.out.facts
  go_wp2_with fail
  refine (H2.out _ _ _ A1.out Q0.out).mono ?_
  rintro e v5 ⟨rfl, hb⟩
  clear b0 b1
  have X1 := Lib.hid (X1.out.kept hb)
  have A1 := Lib.hid (A1.out.on hb)
  have X2 := Lib.hid (X2.out.kept hb)
  have A2 := Lib.hid (A2.out.on hb)
  have Q0 := Lib.hid (below_on Q0.out hb)
  clear hb
  obtain ⟨b0, b1, _, _⟩ := X2.out.facts
  go_wp2_with fail
  refine (H3.out _ _ _ A2.out Q0.out).mono ?_
  rintro e v6 ⟨rfl, hb⟩
  clear b0 b1
  have X1 := Lib.hid (X1.out.kept hb)
  have A1 := Lib.hid (A1.out.on hb)
  have X2 := Lib.hid (X2.out.kept hb)
  have A2 := Lib.hid (A2.out.on hb)
  have Q0 := Lib.hid (below_on Q0.out hb)
  clear hb
  go_wp2_with fail
  go_ret
  exact ⟨rfl, Q0.out⟩

set_option maxRecDepth 100000 in
set_option maxHeartbeats 2000000 in
theorem moved_7_0f (n i : Nat) (l rL fL bL : List Int) (ao : Option Addr) (cap : Nat) (j c : Int) (dao : Option Addr) (dl dc : Nat) (po qo : Option Addr) (pl pc qc : Nat) (hq tq fq : Bool) (w : World)
    (RE : Hid (∀ W, Below w.heap.size w W → Calls Try.prog 30 #[.agg #[.int .i64 (n : Int), .slice ao l.length cap], .int .i64 (i : Int), .int .i64 c] W (ZV2 W n rL 0)))
    (FR : Hid (∀ W, Below w.heap.size w W → Calls Try.prog 32 #[.agg #[.int .i64 (n : Int), .slice ao l.length cap], .int .i64 (i : Int)] W (ZV2 W n fL 0)))
    (BE : Hid (∀ W, Below w.heap.size w W → Calls Try.prog 34 #[.agg #[.int .i64 (n : Int), .slice ao l.length cap], .int .i64 (i : Int), .int .i64 c] W (ZV2 W (zrN 7 n) (zrL 7 bL) 7)))
    (H1 : Hid (∀ W, Below w.heap.size w W → Calls Try.prog 46 #[.agg #[.int .i64 (n : Int), .slice ao l.length cap], .slice qo pl qc] W (Made (.tuple #[.bool hq, .int .i64 0]) W)))
    (H2 : Hid (∀ W a ca, Arg W a rL → Below w.heap.size w W → Calls Try.prog 46 #[.agg #[.int .i64 (n : Int), .slice a rL.length ca], .slice qo pl qc] W (Made (.tuple #[.bool tq, .int .i64 0]) W)))
    (H3 : Hid (∀ W a ca, Arg W a fL → Below w.heap.size w W → Calls Try.prog 46 #[.agg #[.int .i64 (n : Int), .slice a fL.length ca], .slice qo pl qc] W (Made (.tuple #[.bool fq, .int .i64 0]) W))) :
    Calls Try.prog 48 #[.agg #[.int .i64 (n : Int), .slice ao l.length cap, .int .i64 (i : Int), .int .i64 j, .int .i64 c, .slice dao dl dc], .slice po pl pc, .slice qo pl qc, .bool false] w (Made (.bool true) w) := by
  have PF := Lib.hid (show ∀ W, Bx W w.heap.size #[.int .i64 (n : Int), .slice ao l.length cap, .int .i64 (i : Int), .int .i64 j, .int .i64 c, .slice dao dl dc] → (W.cell? ⟨w.heap.size, 0, none⟩ = some (.int .i64 (n : Int)) ∧ W.cell? ⟨w.heap.size, 1, none⟩ = some (.slice ao l.length cap) ∧ W.cell? ⟨w.heap.size, 2, none⟩ = some (.int .i64 (i : Int)) ∧ W.cell? ⟨w.heap.size, 3, none⟩ = some (.int .i64 j) ∧ W.cell? ⟨w.heap.size, 4, none⟩ = some (.int .i64 c) ∧ W.cell? ⟨w.heap.size, 5, none⟩ = some (.slice dao dl dc)) from fun W h => ⟨h.cell 0, h.cell 1, h.cell 2, h.cell 3, h.cell 4, h.cell 5⟩)
  have hz : ¬ ((7 : Int) = 0) := by decide
  simp only [zrN, zrL, if_neg hz] at BE
  clear hz
  unfold ZV2 at RE FR BE
  obtain ⟨w0, hw0⟩ : ∃ w0, w0 = w.alloc (.cells #[.int .i64 (n : Int), .slice ao l.length cap, .int .i64 (i : Int), .int .i64 j, .int .i64 c, .slice dao dl dc] 37) := ⟨_, rfl⟩
  have PX := Lib.hid (show Bx w0 w.heap.size #[.int .i64 (n : Int), .slice ao l.length cap, .int .i64 (i : Int), .int .i64 j, .int .i64 c, .slice dao dl dc] by rw [hw0]; exact Bx.made _ _ _)
  have Q0 := Lib.hid (show Below w.heap.size w w0 by rw [hw0]; exact one_more _)
  go_enter Try.func48, Try.ntmps48
  go_upto_region 1 with (fail)
  rw [← hw0]
  clear hw0
  obtain ⟨p0, p1, p2, p3, p4, p5⟩ := PF.out _ PX.out
  go_wp2_with fail
  refine (RE.out _ Q0.out).mono ?_
  rintro e w1 ⟨ao1, ck1, rfl, hA, hm, _, hb⟩
  have L1 := Lib.hid hm
  obtain ⟨v1, hv⟩ : ∃ v1, v1 = w1.alloc (.cells #[.int .i64 (n : Int), .slice ao1 rL.length ck1] 25) := ⟨_, rfl⟩
  have X1 := Lib.hid (show Two v1 w1.heap.size (.int .i64 (n : Int)) (.slice ao1 rL.length ck1) by rw [hv]; exact Two.made _ _ _ _)
  have A1 := Lib.hid (show Arg v1 ao1 rL by rw [hv]; exact hA.on (one_more _))
  have B1 := Lib.hid (show Below w0.heap.size w0 v1 by rw [hv]; exact hb.alloc hb.size _)
  have Y1 := Lib.hid (show w0.heap.size ≤ w1.heap.size ∧ v1.heap.size = w1.heap.size + 1 by rw [hv]; exact ⟨hb.size, by simp⟩)
  clear hA hm hb
  go_upto_region 2 with (fail)
  rw [← hv]
  clear hv
  clear p0 p1 p2 p3 p4 p5
  have PX := Lib.hid (PX.out.kept B1.out)
  have Q0 := Lib.hid (below_on Q0.out B1.out)
  obtain ⟨p0, p1, p2, p3, p4, p5⟩ := PF.out _ PX.out
  go_wp2_with fail
  refine (FR.out _ Q0.out).mono ?_
  rintro e w2 ⟨ao2, ck2, rfl, hA, hm, _, hb⟩
  have L2 := Lib.hid hm
  obtain ⟨v2, hv⟩ : ∃ v2, v2 = w2.alloc (.cells #[.int .i64 (n : Int), .slice ao2 fL.length ck2] 25) := ⟨_, rfl⟩
  have X2 := Lib.hid (show Two v2 w2.heap.size (.int .i64 (n : Int)) (.slice ao2 fL.length ck2) by rw [hv]; exact Two.made _ _ _ _)
  have A2 := Lib.hid (show Arg v2 ao2 fL by rw [hv]; exact hA.on (one_more _))
  have B2 := Lib.hid (show Below v1.heap.size v1 v2 by rw [hv]; exact hb.alloc hb.size _)
  have Y2 := Lib.hid (show v1.heap.size ≤ w2.heap.size ∧ v2.heap.size = w2.heap.size + 1 by rw [hv]; exact ⟨hb.size, by simp⟩)
  clear hA hm hb
  go_upto_region 3 with (fail)
  rw [← hv]
  clear hv
  clear p0 p1 p2 p3 p4 p5
  have PX := Lib.hid (PX.out.kept B2.out)
  have Q0 := Lib.hid (below_on Q0.out B2.out)
  obtain ⟨p0, p1, p2, p3, p4, p5⟩ := PF.out _ PX.out
  go_wp2_with fail
  refine (BE.out _ Q0.out).mono ?_
  rintro e w3 ⟨ao3, ck3, rfl, hA, hm, _, hb⟩
  obtain ⟨v3, hv⟩ : ∃ v3, v3 = w3.alloc (.cells #[.int .i64 0, .slice ao3 ([] : List Int).length ck3] 25) := ⟨_, rfl⟩
  have B3 := Lib.hid (show Below v2.heap.size v2 v3 by rw [hv]; exact hb.alloc hb.size _)
  clear hA hm hb
  go_upto_region 4 with (fail)
  try simp only [List.length_nil] at hv
  rw [← hv]
  clear hv
  clear p0 p1 p2 p3 p4 p5
  have PX := Lib.hid (PX.out.kept B3.out)
  have Q0 := Lib.hid (below_on Q0.out B3.out)
  have X1 := Lib.hid (X1.out.kept (below_on B2.out B3.out))
  have A1 := Lib.hid (A1.out.on (below_on B2.out B3.out))
  have X2 := Lib.hid (X2.out.kept B3.out)
  have A2 := Lib.hid (A2.out.on B3.out)
  obtain ⟨p0, p1, p2, p3, p4, p5⟩ := PF.out _ PX.out
  go_wp2_with fail
  refine (H1.out _ Q0.out).mono ?_
  rintro e v4 ⟨rfl, hb⟩
  clear p0 p1 p2 p3 p4 p5
  have X1 := Lib.hid (X1.out.kept hb)
  have A1 := Lib.hid (A1.out.on hb)
  have X2 := Lib.hid (X2.out.kept hb)
  have A2 := Lib.hid (A2.out.on hb)
  have Q0 := Lib.hid (below_on Q0.out hb)
  clear hb
  obtain ⟨b0, b1, _, _⟩ := X1.out.facts
  go_wp2_with fail
  refine (H2.out _ _ _ A1.out Q0.out).mono ?_
  rintro e v5 ⟨rfl, hb⟩
  clear b0 b1
  have X1 := Lib.hid (X1.out.kept hb)
  have A1 := Lib.hid (A1.out.on hb)
  have X2 := Lib.hid (X2.out.kept hb)
  have A2 := Lib.hid (A2.out.on hb)
  have Q0 := Lib.hid (below_on Q0.out hb)
  clear hb
  obtain ⟨b0, b1, _, _⟩ := X2.out.facts
  go_wp2_with fail
  refine (H3.out _ _ _ A2.out Q0.out).mono ?_
  rintro e v6 ⟨rfl, hb⟩
  clear b0 b1
  have X1 := Lib.hid (X1.out.kept hb)
  have A1 := Lib.hid (A1.out.on hb)
  have X2 := Lib.hid (X2.out.kept hb)
  have A2 := Lib.hid (A2.out.on hb)
  have Q0 := Lib.hid (below_on Q0.out hb)
  clear hb
  go_wp2_with fail
  go_ret
  exact ⟨rfl, Q0.out⟩
end Go.Proofs.Ytbnebinpemejlaa
