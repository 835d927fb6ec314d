/- A part. -/
import Derived.Test.YthjapmdfcbngmaaGreatWr43
import Derived.Test.YthjapmdfcbngmaaGreatWr39
import Derived.Test.YthjapmdfcbngmaaGreatWr42
import Derived.Test.YthjapmdfcbngmaaGreatWr46
namespace Go.Proofs.YthjapmdfcbngmaaGreat
theorem Ov.scale {D : Int} {X : Nat → Int} {ps : List Pq} (h : Ov D X ps) {k : Int} (hk : 0 < k) : Ov (D * k) (fun i => X i * k) ps := by
 refine ⟨Int.mul_pos h.pos hk, fun i hi => ?_⟩
 show X i * k * (clk ps i).2 = (clk ps i).1 * (D * k)
 rw [Int.mul_right_comm, h.val i hi, Int.mul_assoc]
open Go.RowKit
theorem mt_scale {D q l k : Int} (hk : 0 < k) : Zo.mt (D * k) (q * k) l ↔ Zo.mt D q l := by
 have e : l / 2 * (D * k) = l / 2 * D * k := (Int.mul_assoc ..).symm
 have a : q * k < l / 2 * D * k ↔ q < l / 2 * D := ⟨fun h => Int.lt_of_mul_lt_mul_right h (by omega), fun h => Int.mul_lt_mul_of_pos_right h hk⟩
 have b : q * k ≤ l / 2 * D * k ↔ q ≤ l / 2 * D := ⟨fun h => Int.le_of_mul_le_mul_right h hk, fun h => Int.mul_le_mul_of_nonneg_right h (by omega)⟩
 unfold Zo.mt
 rw [e, a, b]
theorem mt_le {D q r l : Int} (h : q ≤ r) (k : Zo.mt D r l) : Zo.mt D q l := by
 unfold Zo.mt at *
 generalize l / 2 * D = e at *
 omega
def dly (X : Nat → Int) (Y : Int) : Nat → Int := fun i => if i = 0 then 0 else X i + Y
theorem dly_zero (X : Nat → Int) (Y : Int) : dly X Y 0 = 0 := rfl
theorem dly_pos (X : Nat → Int) (Y : Int) {i : Nat} (h : 1 ≤ i) : dly X Y i = X i + Y := if_neg (by omega)
def DnC (n : Nat) (l : List Int) (D : Int) (X : Nat → Int) : Prop :=
 (∀ i, 1 ≤ i → i ≤ n → ∀ j, 1 ≤ j → j ≤ n → Zo.mt D (X i - X j) (Zo.At n l i j)) ∧ ∀ s, s < n → Zo.mt D (X (s + 1)) (Zo.At n l (s + 1) 0)
theorem dn_iff {n : Nat} {z : Zp} {D C : Int} {X : Nat → Int} (h : Ok1 (n : Int) z) (hp : Zo.Pt n D X C) (hC : C ≤ 4611686018427387) : InZ n D X (dnP z).1 ↔ DnC n z.2 D X := by
 obtain ⟨e, v⟩ := h.vzn
 have hc := v.hc
 rw [e]
 show Zo.In n (Zo.clo ((n : Int)).toNat (dnL ((n : Int)).toNat z.2)) D X ↔ _
 rw [Int.toNat_natCast, dn_in hc hp hC]
 unfold DnC
 simp only [Int.neg_neg]
theorem DnC.of_in {n : Nat} {l : List Int} {D : Int} {X : Nat → Int} (h0 : X 0 = 0) (h : Zo.In n l D X) : DnC n l D X :=
 ⟨fun i _ hi j _ hj => h i j hi hj, fun s hs => by have := h (s + 1) 0 (by omega) (by omega); rw [h0, Int.sub_zero] at this; exact this⟩
theorem DnC.back {n : Nat} {l : List Int} {D Y : Int} {X : Nat → Int} (hY : 0 ≤ Y) (h : DnC n l D (dly X Y)) : DnC n l D X := by
 refine ⟨fun i i1 hi j j1 hj => ?_, fun s hs => ?_⟩
 · have := h.1 i i1 hi j j1 hj
   rw [dly_pos X Y i1, dly_pos X Y j1, show X i + Y - (X j + Y) = X i - X j by omega] at this
   exact this
 · have := h.2 s hs
   rw [dly_pos X Y (by omega)] at this
   exact mt_le (by omega) this
theorem DnC.scale {n : Nat} {l : List Int} {D k : Int} {X : Nat → Int} (hk : 0 < k) : DnC n l (D * k) (fun i => X i * k) ↔ DnC n l D X := by
 unfold DnC
 have a : (∀ i, 1 ≤ i → i ≤ n → ∀ j, 1 ≤ j → j ≤ n → Zo.mt (D * k) (X i * k - X j * k) (Zo.At n l i j)) ↔ ∀ i, 1 ≤ i → i ≤ n → ∀ j, 1 ≤ j → j ≤ n → Zo.mt D (X i - X j) (Zo.At n l i j) := by
  refine forall_congr' fun i => forall_congr' fun _ => forall_congr' fun _ => forall_congr' fun j => forall_congr' fun _ => forall_congr' fun _ => ?_
  rw [← Int.sub_mul, mt_scale hk]
 have b : (∀ s, s < n → Zo.mt (D * k) (X (s + 1) * k) (Zo.At n l (s + 1) 0)) ↔ ∀ s, s < n → Zo.mt D (X (s + 1)) (Zo.At n l (s + 1) 0) := by
  refine forall_congr' fun s => forall_congr' fun _ => ?_
  rw [mt_scale hk]
 exact and_congr a b
theorem max_ex (f : Nat → Int) : ∀ n : Nat, ∃ Y : Int, 0 ≤ Y ∧ (∀ s, s < n → f s ≤ Y) ∧ (Y = 0 ∨ ∃ s, s < n ∧ Y = f s)
 | 0 => ⟨0, Int.le_refl _, fun s h => by omega, Or.inl rfl⟩
 | n + 1 => by
  obtain ⟨Y, h0, h1, h2⟩ := max_ex f n
  by_cases c : f n ≤ Y
  · refine ⟨Y, h0, fun s hs => ?_, h2.imp id fun ⟨s, a, b⟩ => ⟨s, by omega, b⟩⟩
    by_cases e : s = n
    · rw [e]; exact c
    · exact h1 s (by omega)
  · refine ⟨f n, by omega, fun s hs => ?_, Or.inr ⟨n, by omega, rfl⟩⟩
    by_cases e : s = n
    · rw [e]; exact Int.le_refl _
    · have := h1 s (by omega); omega
def loY (D x w : Int) : Int := if w = 1099511627776 then 0 else -(2 * x) - 2 * (w / 2 * D) + (if w % 2 = 0 then 1 else 0)
theorem two_mul {a D : Int} : a * (D * 2) = 2 * (a * D) := by rw [← Int.mul_assoc, Int.mul_comm]
theorem delay_ex {n : Nat} {l : List Int} {D : Int} {X : Nat → Int} (hc : chkE n l = 0) (hD : 0 < D) (hx : ∀ i, i ≤ n → 0 ≤ X i) (h : DnC n l D X) : ∃ Y, 0 ≤ Y ∧ Y ≤ 4294967296 * D ∧ Zo.In n l (D * 2) (dly (fun i => X i * 2) Y) := by
 obtain ⟨Y, y0, y1, y2⟩ := max_ex (fun s => loY D (X (s + 1)) (Zo.At n l 0 (s + 1))) n
 have hlv : ∀ a b, a ≤ n → b ≤ n → lvB (Zo.At n l a b) = true := fun a b ha hb => chk_lvs hc ha hb
 refine ⟨Y, y0, ?_, ?_⟩
 · rcases y2 with y2 | ⟨s, hs, y2⟩
   · omega
   · have v := vl_of_lv (hlv 0 (s + 1) (by omega) (by omega))
     have := hx (s + 1) (by omega)
     unfold loY at y2
     generalize Zo.At n l 0 (s + 1) = w at *
     generalize X (s + 1) = x at *
     unfold Zo.Vl at v
     split at y2
     · omega
     · have k : -(2147483647 : Int) * D - D ≤ w / 2 * D := by
        have : -2147483648 * D ≤ w / 2 * D := Int.mul_le_mul_of_nonneg_right (by omega) (by omega)
        omega
       have k2 : -1073741824 * D ≤ w / 2 * D := Int.mul_le_mul_of_nonneg_right (by omega) (by omega)
       generalize w / 2 * D = e at *
       split at y2 <;> omega
 · refine (stay_in (X := fun i => X i * 2) (Y := Y) hc (dly_zero _ _) (fun i i1 _ => dly_pos _ _ i1)).2 ⟨fun i i1 hi j j1 hj => ?_, fun s hs => ⟨?_, ?_⟩⟩
   · have := h.1 i i1 hi j j1 hj
     show Zo.mt (D * 2) (X i * 2 - X j * 2) _
     rw [← Int.sub_mul, mt_scale (by omega)]
     exact this
   · have up := h.2 s hs
     by_cases hu : Zo.At n l (s + 1) 0 = 1099511627776
     · exact Or.inl hu
     have zero : Zo.mt (D * 2) (X (s + 1) * 2) (Zo.At n l (s + 1) 0) := (mt_scale (by omega)).2 up
     rcases y2 with y2 | ⟨r, hr, y2⟩
     · rw [y2]; exact mt_le (by omega) zero
     · skip
       have m := h.1 (s + 1) (by omega) (by omega) (r + 1) (by omega) (by omega)
       have t := chk_tri hc (s + 1) (r + 1) 0 (by omega) (by omega) (by omega)
       have tp : Zo.smW (Zo.At n l (s + 1) 0) (Zo.At n l 0 (r + 1)) ≤ 1099511627776 := Zo.smW_top (Bq.of (vl_of_lv (hlv _ _ (by omega) (by omega)))) (Bq.of (vl_of_lv (hlv _ _ (by omega) (by omega))))
       have lu := hlv (s + 1) 0 (by omega) (by omega)
       have lw := hlv 0 (r + 1) (by omega) (by omega)
       have mm := Zo.mt_mono hD t tp m
       unfold loY at y2
       generalize Zo.At n l (s + 1) 0 = a at *
       generalize Zo.At n l 0 (r + 1) = b at *
       by_cases hw : b = 1099511627776
       · rw [if_pos hw] at y2
         rw [y2]; exact mt_le (by omega) zero
       · rw [if_neg hw] at y2
         have sp := mt_split hu hw lu lw mm
         rw [Int.add_mul] at sp
         show Zo.mt (D * 2) (Y - -(X (s + 1) * 2)) a
         unfold Zo.mt
         rw [two_mul]
         generalize a / 2 * D = A at *
         generalize b / 2 * D = B at *
         generalize X (s + 1) = x at *
         generalize X (r + 1) = y at *
         split at y2 <;> omega
   · have q := y1 s hs
     unfold loY at q
     show Zo.mt (D * 2) (-(X (s + 1) * 2) - Y) _
     unfold Zo.mt
     rw [two_mul]
     generalize Zo.At n l 0 (s + 1) = w at *
     generalize X (s + 1) = x at *
     by_cases hw : w = 1099511627776
     · exact Or.inl hw
     · rw [if_neg hw] at q
       generalize w / 2 * D = A at *
       split at q <;> omega
section
variable {n : Nat}
theorem any_dn {D C : Int} {X : Nat → Int} (hp : Zo.Pt n D X C) (hC : C ≤ 4611686018427387) {L : List Zp} (hL : Ck (n : Int) L) (q : (eaS dnP L).2 = 0) : AnyZ n D X (eaS dnP L).1 ↔ ∃ y ∈ L, DnC n y.2 D X :=
 flat_in (P := fun y => DnC n y.2 D X) (fun y hy hq => by
  unfold oneS at hq ⊢
  by_cases e : (dnP y).2 = 0
  · rw [if_pos e, any_one, dn_iff (hL y hy) hp hC]
  · rw [if_neg e] at hq
    exact absurd hq e) q
theorem flat_all {α : Type} {f : α → Sq} : ∀ {l : List α}, (flatS f l).2 = 0 → ∀ x ∈ l, (f x).2 = 0
 | [], _, x, h => by simp at h
 | y :: r, q, x, h => by
  obtain ⟨q1, q2⟩ := seqA_ok q
  rcases List.mem_cons.1 h with rfl | h
  · exact q1
  · exact flat_all q2 x h
theorem av_sem {g b : Zp} (hg : Ok1 (n : Int) g) (hd : Ok1 (n : Int) (dnP g).1) (hb : Ok1 (n : Int) b) (q : (avP g [(dnP g).1] b).2 = 0) : ∃ be, Ck (n : Int) be ∧
  (∀ D X, Zo.Pt n D X 1099511627776 → (AnyZ n D X be ↔ (InZ n D X g ∧ DnC n b.2 D X) ∧ ¬ InZ n D X b)) ∧
  ∀ D X, Zo.Pt n D X 1099511627776 → (AnyZ n D X (avP g [(dnP g).1] b).1 ↔ (DnC n g.2 D X ∧ ¬ DnC n b.2 D X) ∨ ∃ y ∈ be, DnC n y.2 D X) := by
 unfold avP at q ⊢
 obtain ⟨q1, q, e1⟩ := thE_two q
 rw [e1]
 have o1 : Ok1 (n : Int) (dnP b).1 := dnR_ok hb q1
 have E : (dnR b).1 = [(dnP b).1] := rfl
 rw [E] at q ⊢
 obtain ⟨q2, q, e2⟩ := thE_two q
 rw [e2]
 obtain ⟨q3, q, e3⟩ := thE_two q
 rw [e3]
 obtain ⟨q4, q, e4⟩ := thE_two q
 rw [e4]
 obtain ⟨q5, q, e5⟩ := thE_two q
 rw [e5]
 have m0 : (mtS [g] [(dnP b).1]).2 = 0 := (colE_zero q3).2
 have d0 : (eaS dnP (mnP (mtS [g] [(dnP b).1]).1 [b]).1).2 = 0 := (colE_zero q5).2
 have m1 := mtS_ok (Ck.one hg) (Ck.one o1)
 have m2 := mnP_ok (Ck.one hb) m1.2
 refine ⟨(mnP (mtS [g] [(dnP b).1]).1 [b]).1, m2.2, fun D X hp => ?_, fun D X hp => ?_⟩
 · rw [mnP_in hp m1.2 (Ck.one hb) q4, mtS_in hp (Ck.one hg) (Ck.one o1) m0, any_one, any_one, any_one, dn_iff hb hp (by omega)]
 · show AnyZ n D X ((mnP [(dnP g).1] [(dnP b).1]).1 ++ (eaS dnP (mnP (mtS [g] [(dnP b).1]).1 [b]).1).1) ↔ _
   rw [any_app, mnP_in hp (Ck.one hd) (Ck.one o1) q2, any_one, any_one, dn_iff hg hp (by omega), dn_iff hb hp (by omega), any_dn hp (by omega) m2.2 d0]
theorem re_sem {g : Zp} (hg : Ok1 (n : Int) g) (hd : Ok1 (n : Int) (dnP g).1) : ∀ {M l : List Zp}, Ck (n : Int) M → Ck (n : Int) l → (reS g [(dnP g).1] M l).2 = 0 → (∀ b ∈ M, (avP g [(dnP g).1] b).2 = 0) ∧
  ∀ D X, Zo.Pt n D X 1099511627776 → (AnyZ n D X (reS g [(dnP g).1] M l).1 ↔ AnyZ n D X l ∧ ∀ b ∈ M, AnyZ n D X (avP g [(dnP g).1] b).1)
 | [], l, _, _, _ => ⟨fun b h => by simp at h, fun D X _ => ⟨fun h => ⟨h, fun b q => by simp at q⟩, fun h => h.1⟩⟩
 | b :: r, l, hM, hl, q => by
  have hb := hM b (List.mem_cons_self ..)
  have hr : Ck (n : Int) r := fun y hy => hM y (List.mem_cons_of_mem _ hy)
  have e0 : reS g [(dnP g).1] (b :: r) l = thE (avP g [(dnP g).1] b) fun a => thE (coR (mtS l a)) fun m => reS g [(dnP g).1] r m := rfl
  rw [e0] at q ⊢
  obtain ⟨q1, q, e1⟩ := thE_two q
  rw [e1]
  obtain ⟨q2, q, e2⟩ := thE_two q
  rw [e2]
  have ka := ((av_ok hg hd hb).2 q1).1
  have m0 : (mtS l (avP g [(dnP g).1] b).1).2 = 0 := (colE_zero q2).2
  obtain ⟨i1, i2⟩ := re_sem hg hd (M := r) (l := (coR (mtS l (avP g [(dnP g).1] b).1)).1) hr (mtS_ok hl ka).2 q
  refine ⟨fun y hy => ?_, fun D X hp => ?_⟩
  · rcases List.mem_cons.1 hy with rfl | hy
    · exact q1
    · exact i1 y hy
  · rw [i2 D X hp]
    show AnyZ n D X (mtS l (avP g [(dnP g).1] b).1).1 ∧ _ ↔ _
    rw [mtS_in hp hl ka m0]
    constructor
    · rintro ⟨⟨a, c⟩, d⟩
      refine ⟨a, fun y hy => ?_⟩
      rcases List.mem_cons.1 hy with rfl | hy
      · exact c
      · exact d y hy
    · rintro ⟨a, d⟩
      exact ⟨⟨a, d b (List.mem_cons_self ..)⟩, fun y hy => d y (List.mem_cons_of_mem _ hy)⟩
theorem wi_sem {L M : List Zp} (hL : Ck (n : Int) L) (hM : Ck (n : Int) M) (q : (wiS L M).2 = 0) : (∀ g ∈ L, Ok1 (n : Int) (dnP g).1 ∧ ∀ b ∈ M, (avP g [(dnP g).1] b).2 = 0) ∧
  ∀ D X, Zo.Pt n D X 1099511627776 → (AnyZ n D X (wiS L M).1 ↔ ∃ g ∈ L, DnC n g.2 D X ∧ ∀ b ∈ M, AnyZ n D X (avP g [(dnP g).1] b).1) := by
 have one : ∀ g ∈ L, Ok1 (n : Int) (dnP g).1 ∧ (∀ b ∈ M, (avP g [(dnP g).1] b).2 = 0) ∧ ∀ D X, Zo.Pt n D X 1099511627776 → (AnyZ n D X (reP g M).1 ↔ DnC n g.2 D X ∧ ∀ b ∈ M, AnyZ n D X (avP g [(dnP g).1] b).1) := fun g hg => by
  have og := hL g hg
  have qg : (reP g M).2 = 0 := flat_all q g hg
  unfold reP at qg ⊢
  obtain ⟨q1, qg, e1⟩ := thE_two qg
  rw [e1]
  have od : Ok1 (n : Int) (dnP g).1 := dnR_ok og q1
  obtain ⟨i1, i2⟩ := re_sem og od (M := M) (l := (dnR g).1) hM (Ck.one od) qg
  refine ⟨od, i1, fun D X hp => ?_⟩
  have := i2 D X hp
  rw [show (dnR g).1 = [(dnP g).1] from rfl] at this ⊢
  rw [this, any_one, dn_iff og hp (by omega)]
 exact ⟨fun g hg => ⟨(one g hg).1, (one g hg).2.1⟩, fun D X hp => flat_in (P := fun g => DnC n g.2 D X ∧ ∀ b ∈ M, AnyZ n D X (avP g [(dnP g).1] b).1) (fun g hg _ => (one g hg).2.2 D X hp) q⟩
theorem pt_more {D C C' : Int} {X : Nat → Int} (h : Zo.Pt n D X C) (k : C ≤ C') : Zo.Pt n D X C' := ⟨h.pos, h.zero, h.low, fun i hi => by
 have := h.high i hi
 have := Int.mul_le_mul_of_nonneg_right k (show 0 ≤ D by have := h.pos; omega)
 omega⟩
theorem wi_not {D : Int} {X : Nat → Int} (hp : Zo.Pt n D X 2147483647) {L M : List Zp} (hL : Ck (n : Int) L) (hM : Ck (n : Int) M) (q : (wiS L M).2 = 0) (h : AnyZ n D X (wiS L M).1) : (∃ g ∈ L, DnC n g.2 D X) ∧ ¬ AnyZ n D X M := by
 have hw : Zo.Pt n D X 1099511627776 := pt_more hp (by omega)
 obtain ⟨s1, s2⟩ := wi_sem hL hM q
 obtain ⟨g, hg, dg, av⟩ := (s2 D X hw).1 h
 obtain ⟨od, qs⟩ := s1 g hg
 refine ⟨⟨g, hg, dg⟩, ?_⟩
 rintro ⟨b, hb, xb⟩
 have ob := hM b hb
 obtain ⟨be, kb, t1, t2⟩ := av_sem (hL g hg) od ob (qs b hb)
 have xb' : Zo.In n b.2 D X := xb
 have db := DnC.of_in hp.zero xb'
 rcases (t2 D X hw).1 (av b hb) with ⟨_, w⟩ | ⟨y, hy, dy⟩
 · exact w db
 · obtain ⟨_, vy⟩ := (kb y hy).vzn
   obtain ⟨_, vb⟩ := ob.vzn
   obtain ⟨Y, y0, y1, iy⟩ := delay_ex vy.hc hp.pos hp.low dy
   have pq : Zo.Pt n (D * 2) (dly (fun i => X i * 2) Y) 1099511627776 := by
    refine ⟨by have := hp.pos; omega, rfl, fun i hi => ?_, fun i hi => ?_⟩
    · by_cases e : i = 0
      · subst e; exact Int.le_refl _
      · rw [dly_pos _ _ (by omega)]
        have := hp.low i hi
        omega
    · have := hp.pos
      by_cases e : i = 0
      · subst e; rw [dly_zero]; omega
      · rw [dly_pos _ _ (by omega)]
        have := hp.high i hi
        omega
   obtain ⟨⟨_, d1⟩, nb⟩ := (t1 _ _ pq).1 ⟨y, hy, iy⟩
   apply nb
   refine (stay_in (X := fun i => X i * 2) (Y := Y) vb.hc (dly_zero _ _) (fun i i1 _ => dly_pos _ _ i1)).2 ⟨fun i i1 hi j j1 hj => ?_, fun s hs => ⟨?_, ?_⟩⟩
   · show Zo.mt (D * 2) (X i * 2 - X j * 2) _
     rw [← Int.sub_mul, mt_scale (by omega)]
     exact db.1 i i1 hi j j1 hj
   · have := d1.2 s hs
     rw [dly_pos _ _ (by omega)] at this
     show Zo.mt (D * 2) (Y - -(X (s + 1) * 2)) _
     rw [show Y - -(X (s + 1) * 2) = X (s + 1) * 2 + Y by omega]
     exact this
   · have := xb' 0 (s + 1) (by omega) (by omega)
     rw [hp.zero] at this
     have h2 : Zo.mt (D * 2) ((0 - X (s + 1)) * 2) (Zo.At n b.2 0 (s + 1)) := (mt_scale (by omega)).2 this
     show Zo.mt (D * 2) (-(X (s + 1) * 2) - Y) _
     exact mt_le (by omega) h2
theorem wi_yes {D Y : Int} {X : Nat → Int} (hp : Zo.Pt n D X 2147483647) (hq : Zo.Pt n D (dly X Y) 2147483647) (hY : 0 ≤ Y) {L M : List Zp} (hL : Ck (n : Int) L) (hM : Ck (n : Int) M) (q : (wiS L M).2 = 0) (hg : AnyZ n D (dly X Y) L)
  (safe : ∀ b ∈ M, ∀ k Z, 0 < k → 0 ≤ Z → Zo.In n b.2 (D * k) (dly (fun i => X i * k) Z) → Y * k < Z) : AnyZ n D X (wiS L M).1 := by
 have hw : Zo.Pt n D X 1099511627776 := pt_more hp (by omega)
 have hv : Zo.Pt n D (dly X Y) 1099511627776 := pt_more hq (by omega)
 obtain ⟨s1, s2⟩ := wi_sem hL hM q
 obtain ⟨g, hg, ig⟩ := hg
 have ig' : Zo.In n g.2 D (dly X Y) := ig
 have dg : DnC n g.2 D X := (DnC.of_in (dly_zero _ _) ig').back hY
 obtain ⟨od, qs⟩ := s1 g hg
 refine (s2 D X hw).2 ⟨g, hg, dg, fun b hb => ?_⟩
 have ob := hM b hb
 obtain ⟨_, vb⟩ := ob.vzn
 obtain ⟨be, kb, t1, t2⟩ := av_sem (hL g hg) od ob (qs b hb)
 refine (t2 D X hw).2 ?_
 by_cases db : DnC n b.2 D X
 · right
   obtain ⟨Z, z0, _, iz⟩ := delay_ex vb.hc hp.pos hp.low db
   have lt := safe b hb 2 Z (by omega) z0 iz
   have d1 : DnC n b.2 D (dly X Y) := by
    refine ⟨fun i i1 hi j j1 hj => ?_, fun s hs => ?_⟩
    · rw [dly_pos X Y i1, dly_pos X Y j1, show X i + Y - (X j + Y) = X i - X j by omega]
      exact db.1 i i1 hi j j1 hj
    · have u := (DnC.of_in (dly_zero _ _) iz).2 s hs
      rw [dly_pos _ _ (by omega)] at u
      rw [dly_pos X Y (by omega), ← mt_scale (k := 2) (by omega)]
      exact mt_le (by omega) u
   have nb : ¬ InZ n D (dly X Y) b := fun i => by
    have e : (fun i => X i * 1) = X := by funext i; omega
    have := safe b hb 1 Y (by omega) hY (by rw [e, Int.mul_one]; exact i)
    omega
   obtain ⟨y, hy, iy⟩ := (t1 D (dly X Y) hv).2 ⟨⟨ig, d1⟩, nb⟩
   exact ⟨y, hy, (DnC.of_in (dly_zero _ _) iy).back hY⟩
 · exact Or.inl ⟨dg, db⟩
def Unh (z : Zp) (ps : List Pq) (dn dd : Int) : Prop :=
 (stR z.1 z.2 ps).2 = 4 ∨ ((stR z.1 z.2 ps).2 = 0 ∧ (dn * (stR z.1 z.2 ps).1.ld < (stR z.1 z.2 ps).1.ln * dd ∨ (dn * (stR z.1 z.2 ps).1.ld = (stR z.1 z.2 ps).1.ln * dd ∧ (stR z.1 z.2 ps).1.lo = true)))
theorem safe_of {z : Zp} {ps : List Pq} {D dn dd : Int} {X : Nat → Int} (hz : Ok1 (n : Int) z) (hr : rdE n z.2 ps = 0) (ho : Ov D X ps) (hd : vldB dn dd = true) (hU : Unh z ps dn dd) : ∀ k Y, 0 < k → 0 ≤ Y → Zo.In n z.2 (D * dd * k) (dly (fun i => X i * dd * k) Y) → dn * D * k < Y := by
 intro k Y hk hY hi
 obtain ⟨ez, vz⟩ := hz.vzn
 have hc := vz.hc
 have pd := vld_pos hd
 obtain ⟨_, hpl, hv, _⟩ := rd_parts hr
 have hD := ho.pos
 have h1 : z.1 = (n : Int) := hz.2
 have he : (fun i => X i * dd * k) = fun i => X i * (dd * k) := by funext i; exact Int.mul_assoc ..
 have hDe : D * dd * k = D * (dd * k) := Int.mul_assoc ..
 have hdk : 0 < dd * k := Int.mul_pos (by omega) hk
 rw [he, hDe] at hi
 unfold Unh at hU
 rw [h1] at hU
 have dn1 := (DnC.of_in (dly_zero _ _) hi).back hY
 have dn0 : DnC n z.2 D X := (DnC.scale hdk).1 dn1
 rcases hU with u | ⟨u, lt⟩
 · exfalso
   obtain ⟨r2, b2⟩ := stay_math hr (Or.inr u)
   have hpt := ho.pt hpl hv
   have i2 := (dn_iff hz hpt (by omega)).2 dn0
   rw [ez] at i2
   have i3 : Zo.In n (Zo.clo ((n : Int)).toNat (dnL ((n : Int)).toNat z.2)) D X := i2
   rw [Int.toNat_natCast] at i3
   have := (has_in r2 ho).2 i3
   rw [b2, u] at this
   simp at this
 · have hos := ho.scale hdk
   obtain ⟨m0, m1⟩ := mt1_iff hr hos
   have es : stR n z.2 ps = syV n z.2 ps := by unfold stR; rw [if_neg (by rw [hr]; decide), Int.toNat_natCast]
   rw [es] at u lt
   unfold syV at u lt
   rw [if_neg (by rw [m0]; decide)] at u lt
   by_cases e : (syR n z.2 ps n).2 = 0
   · rw [if_neg (by omega)] at u lt
     by_cases c : (omR n 1 z.2 ps).1 = false ∨ (syR n z.2 ps n).1.empty = true
     · rw [if_pos c] at u; exact absurd u (by decide)
     · rw [if_neg c] at lt
       obtain ⟨Lo, H, ih, il⟩ := st_inv hr hos e
       have mem := (stay_in (X := fun i => X i * (dd * k)) (Y := Y) hc (dly_zero _ _) (fun i i1 _ => dly_pos _ _ i1)).1 hi
       have inI := ((iv_member ih il).2 ⟨hY, mem.2⟩).1
       have sc := il.1
       have v := vld_pos sc.vld
       have val := sc.val
       generalize (syR n z.2 ps n).1.ln = ln at *
       generalize (syR n z.2 ps n).1.ld = ld at *
       generalize (syR n z.2 ps n).1.lo = lo at *
       -- dn * D * k against Lo
       have pos : 0 < D * k := Int.mul_pos hD hk
       have key : dn * D * k * ld = dn * ld * (D * k) := by
        rw [Int.mul_assoc dn D k, Int.mul_right_comm]
       have key2 : Lo * ld = ln * dd * (D * k) := by
        rw [val, Int.mul_assoc ln dd, ← Int.mul_assoc D dd k, Int.mul_comm D dd, Int.mul_assoc dd D k]
       rcases lt with lt | ⟨eq, lo1⟩
       · have a : dn * D * k < Lo := by
          have := Int.mul_lt_mul_of_pos_right lt pos
          rw [← key, ← key2] at this
          exact Int.lt_of_mul_lt_mul_right this (by omega)
         omega
       · have a : dn * D * k = Lo := by
          have : dn * D * k * ld = Lo * ld := by rw [key, key2, eq]
          exact Int.eq_of_mul_eq_mul_right (by omega) this
         rcases inI with p | ⟨p, p2⟩
         · omega
         · rw [lo1] at p2; cases p2
   · rw [if_pos e] at u
     exact absurd u e
end
end Go.Proofs.YthjapmdfcbngmaaGreat
