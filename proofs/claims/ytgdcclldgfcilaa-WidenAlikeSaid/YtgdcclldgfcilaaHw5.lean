/- Layer 6: Bounds and Greatest of the project; Greatest of the reference.; What the rows of layers 3 and 4 have in common: arguments opened to what the walks ask; arguments that nothing has turned; the row's last step.; Arguments opened: a zone, constraints.; Contracts of Zero and All of layer 3's reference.; Contracts of same and lent of the statements of layer 3.; What the walks of the laws of layer 6 have in common.; Layer 6: part and shown.; append to a new list of no elements, whatever comes behind.; Lists of int64 of the call's own, which are written.; The contract of Copy of layer 3's reference; and of Reset of any zone.; Plain mathematics: constraints on what is closed; Reset and Copy in one closing.; Contracts of two, Includes, Meet and Hull of layer 3's reference. -/
import Derived.Test.YtgdcclldgfcilaaHw4
import Derived.ProofKit
import Derived.Lib.SmallJoins
import Derived.Deep.Slices
import Derived.Test.YtgdcclldgfcilaaHw3
import Derived.Test.YtgdcclldgfcilaaHw2
import Derived.Lib.AppendZeros
import Derived.Test.YtgdcclldgfcilaaHw1

namespace Go.Proofs.Ytgdcclldgfcilaa
open Go.RowKit

theorem gt_cons (q : Int) (l : List Int) (k : Nat) : Zo.gt (q :: l) k = if k = 0 then q else Zo.gt l (k - 1) := by
  cases k with
  | zero => simp [Zo.gt]
  | succ k => simp [Zo.gt]

theorem spC_of {x : Int} (hv : lvB x = true) (hn : x ≠ 1099511627776) : spC x = x / 2 ∧ spE x = 0 := by
  have : noB x = false := by unfold noB; simpa using hn
  simp [spC, spE, hv, this]

/-- In a canonical matrix an upper bound of a clock is not below 0. -/
theorem chk_low {n : Nat} {l : List Int} (h : chkE (n : Int) l = 0) {a : Nat} (ha : a ≤ n) (hv : lvB (Zo.At n l a 0) = true) (hw : lvB (Zo.At n l 0 a) = true) : 1 ≤ Zo.At n l a 0 := by
  have d := chk_diag h
  have t := chk_tri h a a 0 ha ha (Nat.zero_le n)
  rw [d.1 a ha] at t
  have r := d.2 a ha
  generalize Zo.At n l a 0 = p at *
  generalize Zo.At n l 0 a = q at *
  unfold lvB at hv hw
  simp only [decide_eq_true_eq] at hv hw
  unfold Zo.smW at t
  split at t
  · omega
  · rename_i hno
    have hw1 : Zo.w64 (p + q) = p + q := Zo.w64_in (by omega) (by omega)
    have hw2 : Zo.w64 (p + q - 1) = p + q - 1 := Zo.w64_in (by omega) (by omega)
    split at t
    · rw [hw1] at t; omega
    · rw [hw1, hw2] at t; omega

/-- The rules of the project make what the document says, in a canonical matrix. -/
theorem dc_wd {n : Nat} {l low high : List Int} (h : chkE (n : Int) l = 0) (hl : l.length = (n + 1) * (n + 1)) : Zo.elL n (dcF (0 :: low) (0 :: high)) l = wdM n low high l := by
  refine Zo.elL_congr hl fun a b ha hb hne => ?_
  have hv := (chk_64 h).2
  have lv := lv_of_all hl hv a b ha hb
  have d := chk_diag h
  have c0 : a = 0 → Zo.At n l a b ≤ 1 := fun e => by rw [e]; exact d.2 b hb
  have c1 : b = 0 → 1 ≤ Zo.At n l a b := fun e => by rw [e]; exact chk_low h ha (lv_of_all hl hv a 0 ha (Nat.zero_le n)) (lv_of_all hl hv 0 a (Nat.zero_le n) ha)
  generalize Zo.At n l a b = x at *
  unfold dcF wdF dcV wdn
  by_cases hx : x = 1099511627776
  · subst hx
    rw [if_pos (by simp), if_pos (by decide)]
  · obtain ⟨e1, e2⟩ := spC_of lv hx
    rw [e1, e2, gt_cons, gt_cons]
    simp only [Bool.or_eq_true, decide_eq_true_eq]
    generalize Zo.gt low (a - 1) = y at *
    generalize Zo.gt high (b - 1) = z at *
    by_cases ha0 : a = 0
    · have hb1 : ¬ b = 0 := by omega
      have := c0 ha0
      simp only [ha0, hb1, if_true, if_false]
      repeat' split
      all_goals omega
    · by_cases hb0 : b = 0
      · have := c1 hb0
        simp only [ha0, hb0, if_true, if_false]
        repeat' split
        all_goals omega
      · simp only [ha0, hb0, if_false]
        repeat' split
        all_goals omega

set_option maxRecDepth 100000 in
set_option maxHeartbeats 2000000 in
theorem wbounds_bad (N : Int) (l : List Int) (ao : Option Addr) (cap : Nat) (low high : List Int) (lo ho : Option Addr) (lc hc : Nat) (w : World) (hA : Arg w ao l) (hL : Arg w lo low) (hH : Arg w ho high) (l1 : low.length ≤ 9223372036854775807) (l2 : high.length ≤ 9223372036854775807)
    (hbad : (decide (chkE N l = 0) && ksB N low && ksB N high) = false) :
    Calls Try.prog 12 #[.agg #[.int .i64 N, .slice ao l.length cap], .slice lo low.length lc, .slice ho high.length hc] w (ZRes w 0 [] 2) := by
  have CK := Lib.hid (fun (W : World) (h : Below w.heap.size w W) => zcheck_gen N l ao cap W (hA.on h))
  have K1 := Lib.hid (fun (W : World) (h : Below w.heap.size w W) => areconst_any N l low ao lo cap lc W (hL.on h) l1)
  have K2 := Lib.hid (fun (W : World) (h : Below w.heap.size w W) => areconst_any N l high ao ho cap hc W (hH.on h) l2)
  generalize ksB N low = k1 at *
  generalize ksB N high = k2 at *
  generalize chkE N l = er at *
  generalize l.length = len at *
  generalize low.length = nl at *
  generalize high.length = nh at *
  obtain ⟨w0, hw0⟩ : ∃ w0, w0 = (w.alloc (.cells #[.int .i64 N, .slice ao len cap] 24)).alloc (.cells #[.int .i64 0, .slice none 0 0] 24) := ⟨_, rfl⟩
  have bx : Two w0 w.heap.size (.int .i64 N) (.slice ao len cap) := by rw [hw0]; exact (Two.made _ _ _ _).alloc _
  have rs : Two w0 (w.heap.size + 1) (.int .i64 0) (.slice none 0 0) := by
    rw [hw0]
    have := Two.made (w.alloc (.cells #[.int .i64 N, .slice ao len cap] 24)) (.int .i64 0) (.slice none 0 0) 24
    simpa using this
  have E0 := Lib.hid (show Below w.heap.size w w0 by rw [hw0]; exact past_two (Below.refl _ _))
  have HW0 := Lib.hid hw0
  clear hA hL hH hw0
  by_cases he : er = 0
  · have D : (er != 0) = false := by simpa using he
    subst he
    cases k1
    · go_enter Try.func12, Try.ntmps12
      go_wp2_with fail
      rw [← HW0.out]
      obtain ⟨b0, b1, b2, b3⟩ := bx.facts
      go_wp2_with fail
      refine (CK.out _ E0.out).mono ?_
      rintro e w1 ⟨rfl, hb1⟩
      have E1 := Lib.hid (below_on E0.out hb1)
      clear b0 b1 b2 b3
      replace bx := bx.kept hb1
      replace rs := rs.kept hb1
      clear hb1
      obtain ⟨b0, b1, b2, b3⟩ := bx.facts
      go_wp2_with fail
      refine (K1.out _ E1.out).mono ?_
      rintro e w2 ⟨rfl, hb1⟩
      have E2 := Lib.hid (below_on E1.out hb1)
      clear b0 b1 b2 b3
      replace bx := bx.kept hb1
      replace rs := rs.kept hb1
      clear hb1
      obtain ⟨b0, b1, b2, b3⟩ := bx.facts
      clear b0 b1 b2 b3
      obtain ⟨r0, r1, r2, r3⟩ := rs.facts
      go_wp2_with fail
      refine bodyPost_ret (v := .tuple #[.agg #[.int .i64 0, .slice none 0 0], .int .i64 2]) (by simp [results, Try.results12, go_sem, r0, r1]) rfl (zres_bad ?_)
      exact (E2.out.setCell (by show w.heap.size ≤ w.heap.size + 1; omega) _).setCell (by show w.heap.size ≤ w.heap.size + 1; omega) _
    · have hk2 : k2 = false := by simpa using hbad
      subst hk2
      go_enter Try.func12, Try.ntmps12
      go_wp2_with fail
      rw [← HW0.out]
      obtain ⟨b0, b1, b2, b3⟩ := bx.facts
      go_wp2_with fail
      refine (CK.out _ E0.out).mono ?_
      rintro e w1 ⟨rfl, hb1⟩
      have E1 := Lib.hid (below_on E0.out hb1)
      clear b0 b1 b2 b3
      replace bx := bx.kept hb1
      replace rs := rs.kept hb1
      clear hb1
      obtain ⟨b0, b1, b2, b3⟩ := bx.facts
      go_wp2_with fail
      refine (K1.out _ E1.out).mono ?_
      rintro e w2 ⟨rfl, hb1⟩
      have E2 := Lib.hid (below_on E1.out hb1)
      clear b0 b1 b2 b3
      replace bx := bx.kept hb1
      replace rs := rs.kept hb1
      clear hb1
      obtain ⟨b0, b1, b2, b3⟩ := bx.facts
      go_wp2_with fail
      refine (K2.out _ E2.out).mono ?_
      rintro e w3 ⟨rfl, hb1⟩
      have E3 := Lib.hid (below_on E2.out hb1)
      clear b0 b1 b2 b3
      replace bx := bx.kept hb1
      replace rs := rs.kept hb1
      clear hb1
      obtain ⟨b0, b1, b2, b3⟩ := bx.facts
      clear b0 b1 b2 b3
      obtain ⟨r0, r1, r2, r3⟩ := rs.facts
      go_wp2_with fail
      refine bodyPost_ret (v := .tuple #[.agg #[.int .i64 0, .slice none 0 0], .int .i64 2]) (by simp [results, Try.results12, go_sem, r0, r1]) rfl (zres_bad ?_)
      exact (E3.out.setCell (by show w.heap.size ≤ w.heap.size + 1; omega) _).setCell (by show w.heap.size ≤ w.heap.size + 1; omega) _
  · have D : (er != 0) = true := by simpa using he
    clear he hbad
    go_enter Try.func12, Try.ntmps12
    go_wp2_with fail
    rw [← HW0.out]
    obtain ⟨b0, b1, b2, b3⟩ := bx.facts
    go_wp2_with fail
    refine (CK.out _ E0.out).mono ?_
    rintro e w1 ⟨rfl, hb1⟩
    have E1 := Lib.hid (below_on E0.out hb1)
    clear b0 b1 b2 b3
    replace bx := bx.kept hb1
    replace rs := rs.kept hb1
    clear hb1
    obtain ⟨b0, b1, b2, b3⟩ := bx.facts
    clear b0 b1 b2 b3
    obtain ⟨r0, r1, r2, r3⟩ := rs.facts
    go_wp2_with fail
    refine bodyPost_ret (v := .tuple #[.agg #[.int .i64 0, .slice none 0 0], .int .i64 2]) (by simp [results, Try.results12, go_sem, r0, r1]) rfl (zres_bad ?_)
    exact (E1.out.setCell (by show w.heap.size ≤ w.heap.size + 1; omega) _).setCell (by show w.heap.size ≤ w.heap.size + 1; omega) _

set_option maxRecDepth 100000 in
set_option maxHeartbeats 8000000 in
theorem wbounds_ok (n : Nat) (l : List Int) (a : Addr) (cap : Nat) (low high : List Int) (lo ho : Option Addr) (lc hc : Nat) (w : World) (hn : n ≤ 10) (hl : l.length = (n + 1) * (n + 1)) (hv : A6 l) (hR : Rd w a l) (hL : Arg w lo low) (hH : Arg w ho high)
    (g1 : lo = none → low = [] ∧ lc = 0) (g2 : ho = none → high = [] ∧ hc = 0) (hck : chkE n l = 0) (hk1 : ksB n low = true) (hk2 : ksB n high = true) :
    Calls Try.prog 12 #[.agg #[.int .i64 n, .slice (some a) l.length cap], .slice lo low.length lc, .slice ho high.length hc] w (ZRes w n (Zo.clo n (wdM n low high l)) (closeE n (wdM n low high l))) := by
  have kn1 := ksB_kn hk1
  have kn2 := ksB_kn hk2
  have CK := Lib.hid (show ∀ (W : World), Below w.heap.size w W → Calls Try.prog 28 #[.agg #[.int .i64 n, .slice (some a) l.length cap]] W (Made (.int .i64 0) W) from fun W h => by have := zcheck_gen n l (some a) cap W (fun _ => ⟨a, rfl, hR.on h⟩); rwa [hck] at this)
  have K1 := Lib.hid (show ∀ (W : World), Below w.heap.size w W → Calls Try.prog 29 #[.agg #[.int .i64 n, .slice (some a) l.length cap], .slice lo low.length lc] W (Made (.bool true) W) from fun W h => by have := areconst_any n l low (some a) lo cap lc W (hL.on h) (by have := kn1.1; omega); rwa [hk1] at this)
  have K2 := Lib.hid (show ∀ (W : World), Below w.heap.size w W → Calls Try.prog 29 #[.agg #[.int .i64 n, .slice (some a) l.length cap], .slice ho high.length hc] W (Made (.bool true) W) from fun W h => by have := areconst_any n l high (some a) ho cap hc W (hH.on h) (by have := kn2.1; omega); rwa [hk2] at this)
  have A1 := Lib.hid (show ∀ W, Below w.heap.size w W → Calls Try.prog 33 #[.slice lo low.length lc] W (fun e w' => Below W.heap.size W w' ∧ ∃ g c, e = .returned (.slice (some ⟨g, 0, none⟩) (n + 1) c) ∧ W.heap.size ≤ g ∧ Rd w' ⟨g, 0, none⟩ (0 :: low)) from fun W h => by have := allof_any low lo lc W (hL.on h) g1 (by have := kn1.1; omega); rwa [show low.length + 1 = n + 1 by rw [kn1.1]] at this)
  have A2 := Lib.hid (show ∀ W, Below w.heap.size w W → Calls Try.prog 33 #[.slice ho high.length hc] W (fun e w' => Below W.heap.size W w' ∧ ∃ g c, e = .returned (.slice (some ⟨g, 0, none⟩) (n + 1) c) ∧ W.heap.size ≤ g ∧ Rd w' ⟨g, 0, none⟩ (0 :: high)) from fun W h => by have := allof_any high ho hc W (hH.on h) g2 (by have := kn2.1; omega); rwa [show high.length + 1 = n + 1 by rw [kn2.1]] at this)
  have CA := Lib.hid (fun (o p : Option Addr) (k m : Nat) (W : World) => cases_any o p (n + 1) (n + 1) k m W)
  have CH := Lib.hid (show ∀ (p q d1 d2 c1 c2 : Nat) (W : World), Below w.heap.size w W → W.cell? ⟨p, 0, none⟩ = some (.slice (some ⟨d1, 0, none⟩) (n + 1) c1) → W.cell? ⟨q, 0, none⟩ = some (.slice (some ⟨d2, 0, none⟩) (n + 1) c2) → Rd W ⟨d1, 0, none⟩ (0 :: low) → Rd W ⟨d2, 0, none⟩ (0 :: high) →
      Calls Try.prog 31 #[.agg #[.int .i64 n, .slice (some a) l.length cap], rulesV p q] W (fun e w' => ∃ g c, e = .returned (.slice (some ⟨g, 0, none⟩) l.length c) ∧ W.heap.size ≤ g ∧ Own w' g c (wdM n low high l) ∧ Below W.heap.size W w') from fun p q d1 d2 c1 c2 W h e1 e2 r1 r2 => by
    have z1 : (0 :: low).length = n + 1 := by simp [kn1.1]
    have z2 : (0 :: high).length = n + 1 := by simp [kn2.1]
    have := wchanged_any n l a cap p q (0 :: low) (0 :: high) ⟨d1, 0, none⟩ ⟨d2, 0, none⟩ c1 c2 W hn hl hv (hR.on h) (by rw [z1]; exact e1) (by rw [z2]; exact e2) z1 z2 r1 r2 (fun j hj => by
      rw [gt_cons]
      split
      · omega
      · exact kn2.2 _ (by omega))
    rwa [dc_wd hck hl] at this)
  have CC := Lib.hid (show ∀ (g c : Nat) (W : World), Own W g c (wdM n low high l) → Calls Try.prog 30 #[.int .i64 n, .slice (some ⟨g, 0, none⟩) l.length c] W (ZRes W n (Zo.clo n (wdM n low high l)) (closeE n (wdM n low high l))) from fun g c W h => by have := zclose_gen n (wdM n low high l) (some ⟨g, 0, none⟩) c W h.arg; simp only [wdM_len] at this; simpa using this)
  generalize wdM n low high l = M at *
  generalize 0 :: low = L1 at *
  generalize 0 :: high = L2 at *
  generalize l.length = len at *
  generalize low.length = nl at *
  generalize high.length = nh at *
  generalize Zo.clo n M = R at *
  generalize closeE (n : Int) M = er at *
  generalize hm : n + 1 = m at *
  unfold rulesV at CA CH
  clear hR hL hH hck hk1 hk2 kn1 kn2 hl hv g1 g2 hm
  obtain ⟨w0, hw0⟩ : ∃ w0, w0 = (w.alloc (.cells #[.int .i64 n, .slice (some a) len cap] 24)).alloc (.cells #[.int .i64 0, .slice none 0 0] 24) := ⟨_, rfl⟩
  have bx : Two w0 w.heap.size (.int .i64 n) (.slice (some a) len cap) := by rw [hw0]; exact (Two.made _ _ _ _).alloc _
  have rs : Two w0 (w.heap.size + 1) (.int .i64 0) (.slice none 0 0) := by
    rw [hw0]
    have := Two.made (w.alloc (.cells #[.int .i64 n, .slice (some a) len cap] 24)) (.int .i64 0) (.slice none 0 0) 24
    simpa using this
  have E0 := Lib.hid (show Below w.heap.size w w0 by rw [hw0]; exact past_two (Below.refl _ _))
  have z0 : w0.heap.size = w.heap.size + 2 := by rw [hw0]; simp
  go_enter Try.func12, Try.ntmps12
  go_wp2_with fail
  rw [← hw0]
  clear hw0
  obtain ⟨b0, b1, b2, b3⟩ := bx.facts
  go_wp2_with fail
  refine (CK.out _ E0.out).mono ?_
  rintro e w1 ⟨rfl, hb1⟩
  have E1 := Lib.hid (below_on E0.out hb1)
  clear b0 b1 b2 b3
  replace bx := bx.kept hb1
  replace rs := rs.kept hb1
  have z1 := hb1.size
  clear hb1 CK E0
  obtain ⟨b0, b1, b2, b3⟩ := bx.facts
  go_wp2_with fail
  refine (K1.out _ E1.out).mono ?_
  rintro e w2 ⟨rfl, hb1⟩
  have E2 := Lib.hid (below_on E1.out hb1)
  clear b0 b1 b2 b3
  replace bx := bx.kept hb1
  replace rs := rs.kept hb1
  have z2 := hb1.size
  clear hb1 K1 E1
  obtain ⟨b0, b1, b2, b3⟩ := bx.facts
  go_wp2_with fail
  refine (K2.out _ E2.out).mono ?_
  rintro e w3 ⟨rfl, hb1⟩
  have E3 := Lib.hid (below_on E2.out hb1)
  clear b0 b1 b2 b3
  replace bx := bx.kept hb1
  replace rs := rs.kept hb1
  have z3 := hb1.size
  clear hb1 K2 E2
  have KS := Lib.hid (show ∀ W, Below w3.heap.size w3 W → (W.cell? ⟨w.heap.size, 0, none⟩ = some (.int .i64 n) ∧ W.cell? ⟨w.heap.size, 1, none⟩ = some (.slice (some a) len cap)) from fun W h => ⟨(bx.kept h).facts.1, (bx.kept h).facts.2.1⟩)
  have KP := Lib.hid (show ∀ W u v, Below w3.heap.size w3 W → (((W.setCell ⟨w.heap.size + 1, 0, none⟩ u).setCell ⟨w.heap.size + 1, 1, none⟩ v).cell? ⟨w.heap.size, 0, none⟩ = some (.int .i64 n) ∧ ((W.setCell ⟨w.heap.size + 1, 0, none⟩ u).setCell ⟨w.heap.size + 1, 1, none⟩ v).cell? ⟨w.heap.size, 1, none⟩ = some (.slice (some a) len cap)) from fun W u v h => ⟨((bx.kept h).aside (by omega) u v).facts.1, ((bx.kept h).aside (by omega) u v).facts.2.1⟩)
  have s1 : Below w3.heap.size w3 w3.drew := (Below.refl _ _).drew
  by_cases he : er = 0
  · have CX := Lib.hid (show ∀ (g c : Nat) (W : World), Own W g c M → Calls Try.prog 30 #[.int .i64 n, .slice (some ⟨g, 0, none⟩) len c] W (fun e w' => ∃ g8 c8, e = .returned (.tuple #[.agg #[.int .i64 n, .slice (some ⟨g8, 0, none⟩) R.length c8], .int .i64 0]) ∧ W.heap.size ≤ g8 ∧ Own w' g8 c8 R ∧ Below W.heap.size W w') from fun g c W h => (CC.out g c W h).mono fun e w' hz => hz.ok he)
    have HEE := Lib.hid he
    clear he CC
    go_wp2_with fail
    go_region_held3 (fun W => W.cell? ⟨w.heap.size, 0, none⟩ = some (.int .i64 n) ∧ W.cell? ⟨w.heap.size, 1, none⟩ = some (.slice (some a) len cap)) (first | exact KS.out _ s1 | exact KS.out _ s2 | exact KS.out _ s3 | exact KS.out _ s4 | exact KS.out _ s5 | exact KS.out _ s6 | exact KP.out _ _ _ s6)
      (first | (go_at_call 33; refine (A1.out _ (below_on E3.out s1)).mono ?_; rintro e w4 ⟨hb4, d1, c1, rfl, hd1, hr1⟩; have s2 := below_on s1 hb4) | (go_at_call 33; refine (A2.out _ (below_on E3.out s2)).mono ?_; rintro e w5 ⟨hb5, d2, c2, rfl, hd2, hr2⟩; have s3 := below_on s2 hb5; have rr1 := hr1.on hb5) | (go_at_call 32; refine (CA.out _ _ _ _ _).mono ?_; rintro e w6 ⟨hb6, rfl, hc1, hc2⟩; have s4 := below_on s3 hb6) | (go_at_call 31; refine (CH.out _ _ d1 d2 c1 c2 _ (below_on E3.out s4) hc1 hc2 (rr1.on hb6) (hr2.on hb6)).mono ?_; rintro e w7 ⟨g, c, rfl, hg, hown, hb7⟩; have s5 := below_on s4 hb7) | (go_at_call 30; refine (CX.out g c _ hown).mono ?_; rintro e w8 ⟨g8, c8, rfl, hg8, ho8, hb8⟩; have s6 := below_on s5 hb8; obtain ⟨r0, r1, r2, r3⟩ := (rs.kept s6).facts))
    have E8 := Lib.hid (below_on E3.out s6)
    have hlt := rs.lt
    have zz := (below_on E3.out s5).size
    have z5 := s5.size
    have HO8 := Lib.hid ho8
    clear s1 s2 s3 s4 s5 s6 hb4 hb5 hb6 hb7 hb8 hr1 hr2 rr1 hown ho8 hc1 hc2
    go_wp2_with fail
    refine bodyPost_ret (v := .tuple #[.agg #[.int .i64 n, .slice (some ⟨g8, 0, none⟩) R.length c8], .int .i64 0]) (by simp [results, Try.results12, go_sem, r0, r1]) rfl ⟨(E8.out.setCell (by show w.heap.size ≤ w.heap.size + 1; omega) _).setCell (by show w.heap.size ≤ w.heap.size + 1; omega) _, Or.inl ⟨HEE.out, g8, c8, rfl, by omega, put_far HO8.out (by omega) _ _⟩⟩
  · have CX := Lib.hid (show ∀ (g c : Nat) (W : World), Own W g c M → Calls Try.prog 30 #[.int .i64 n, .slice (some ⟨g, 0, none⟩) len c] W (fun e w' => e = .returned (.tuple #[.agg #[.int .i64 0, .slice none 0 0], .int .i64 er]) ∧ Below W.heap.size W w') from fun g c W h => (CC.out g c W h).mono fun e w' hz => hz.no he)
    have HEE := Lib.hid he
    clear he CC
    go_wp2_with fail
    go_region_held3 (fun W => W.cell? ⟨w.heap.size, 0, none⟩ = some (.int .i64 n) ∧ W.cell? ⟨w.heap.size, 1, none⟩ = some (.slice (some a) len cap)) (first | exact KS.out _ s1 | exact KS.out _ s2 | exact KS.out _ s3 | exact KS.out _ s4 | exact KS.out _ s5 | exact KS.out _ s6 | exact KP.out _ _ _ s6)
      (first | (go_at_call 33; refine (A1.out _ (below_on E3.out s1)).mono ?_; rintro e w4 ⟨hb4, d1, c1, rfl, hd1, hr1⟩; have s2 := below_on s1 hb4) | (go_at_call 33; refine (A2.out _ (below_on E3.out s2)).mono ?_; rintro e w5 ⟨hb5, d2, c2, rfl, hd2, hr2⟩; have s3 := below_on s2 hb5; have rr1 := hr1.on hb5) | (go_at_call 32; refine (CA.out _ _ _ _ _).mono ?_; rintro e w6 ⟨hb6, rfl, hc1, hc2⟩; have s4 := below_on s3 hb6) | (go_at_call 31; refine (CH.out _ _ d1 d2 c1 c2 _ (below_on E3.out s4) hc1 hc2 (rr1.on hb6) (hr2.on hb6)).mono ?_; rintro e w7 ⟨g, c, rfl, hg, hown, hb7⟩; have s5 := below_on s4 hb7) | (go_at_call 30; refine (CX.out g c _ hown).mono ?_; rintro e w8 ⟨rfl, hb8⟩; have s6 := below_on s5 hb8; obtain ⟨r0, r1, r2, r3⟩ := (rs.kept s6).facts))
    have E8 := Lib.hid (below_on E3.out s6)
    clear s1 s2 s3 s4 s5 s6 hb4 hb5 hb6 hb7 hb8 hr1 hr2 rr1 hown hc1 hc2
    go_wp2_with fail
    refine bodyPost_ret (v := .tuple #[.agg #[.int .i64 0, .slice none 0 0], .int .i64 er]) (by simp [results, Try.results12, go_sem, r0, r1]) rfl ⟨(E8.out.setCell (by show w.heap.size ≤ w.heap.size + 1; omega) _).setCell (by show w.heap.size ≤ w.heap.size + 1; omega) _, Or.inr ⟨HEE.out, rfl⟩⟩

theorem wbounds_gen (N : Int) (l : List Int) (ao : Option Addr) (cap : Nat) (low high : List Int) (lo ho : Option Addr) (lc hc : Nat) (w : World) (hA : Arg w ao l) (hL : Arg w lo low) (hH : Arg w ho high) (g1 : lo = none → low = [] ∧ lc = 0) (g2 : ho = none → high = [] ∧ hc = 0) (l1 : low.length ≤ 9223372036854775807) (l2 : high.length ≤ 9223372036854775807) :
    Calls Try.prog 12 #[.agg #[.int .i64 N, .slice ao l.length cap], .slice lo low.length lc, .slice ho high.length hc] w (ZRes w N (Zo.clo N.toNat (wdM N.toNat low high l)) (wdE N low high l)) := by
  cases hb : (decide (chkE N l = 0) && ksB N low && ksB N high)
  · exact (wbounds_bad N l ao cap low high lo ho lc hc w hA hL hH l1 l2 hb).mono fun e w' h => h.bad (by unfold wdE; rw [hb]; rfl)
  · have hh := hb
    simp only [Bool.and_eq_true, decide_eq_true_eq] at hh
    obtain ⟨⟨h0, h1⟩, h2⟩ := hh
    rw [show wdE N low high l = closeE N (wdM N.toNat low high l) by unfold wdE; rw [if_pos hb]]
    obtain ⟨n, rfl, hn, hl, hne⟩ := chk_ok h0
    obtain ⟨a, rfl, hR⟩ := hA hne
    exact wbounds_ok n l a cap low high lo ho lc hc w hn hl (chk_a6 h0 hl) hR hL hH g1 g2 h0 h1 h2

set_option maxRecDepth 100000 in
set_option maxHeartbeats 1000000 in
theorem wgreatest_gen (N : Int) (l : List Int) (ao : Option Addr) (cap : Nat) (k : List Int) (ko : Option Addr) (kc : Nat) (w : World) (hA : Arg w ao l) (hK : Arg w ko k) (g1 : ko = none → k = [] ∧ kc = 0) (l1 : k.length ≤ 9223372036854775807) :
    Calls Try.prog 6 #[.agg #[.int .i64 N, .slice ao l.length cap], .slice ko k.length kc] w (ZRes w N (Zo.clo N.toNat (wdM N.toNat k k l)) (wdE N k k l)) := by
  have BO := Lib.hid (fun (W : World) (h : Below w.heap.size w W) => wbounds_gen N l ao cap k k ko ko kc kc W (hA.on h) (hK.on h) (hK.on h) g1 g1 l1 l1)
  generalize l.length = len at *
  generalize k.length = nk at *
  generalize Zo.clo N.toNat (wdM N.toNat k k l) = R at *
  generalize wdE N k k l = er at *
  obtain ⟨w0, hw0⟩ : ∃ w0, w0 = (w.alloc (.cells #[.int .i64 N, .slice ao len cap] 24)).alloc (.cells #[.int .i64 0, .slice none 0 0] 24) := ⟨_, rfl⟩
  have bx : Two w0 w.heap.size (.int .i64 N) (.slice ao len cap) := by rw [hw0]; exact (Two.made _ _ _ _).alloc _
  have rs : Two w0 (w.heap.size + 1) (.int .i64 0) (.slice none 0 0) := by
    rw [hw0]
    have := Two.made (w.alloc (.cells #[.int .i64 N, .slice ao len cap] 24)) (.int .i64 0) (.slice none 0 0) 24
    simpa using this
  have E0 := Lib.hid (show Below w.heap.size w w0 by rw [hw0]; exact past_two (Below.refl _ _))
  have z0 : w0.heap.size = w.heap.size + 2 := by rw [hw0]; simp
  clear hA hK
  go_enter Try.func6, Try.ntmps6
  go_wp2_with fail
  rw [← hw0]
  clear hw0
  obtain ⟨b0, b1, b2, b3⟩ := bx.facts
  go_wp2_with fail
  refine (BO.out _ E0.out).mono ?_
  intro e w6 hz6
  have hlt := rs.lt
  have rs6 := rs.kept hz6.1
  obtain ⟨r0, r1, r2, r3⟩ := rs6.facts
  clear b0 b1 b2 b3
  by_cases he : er = 0
  · obtain ⟨g6, c6, rfl, hg6, ho6, hb6⟩ := hz6.ok he
    have HEE := Lib.hid he
    have E6 := Lib.hid (below_on E0.out hb6)
    have HO6 := Lib.hid ho6
    clear hz6 he hb6 ho6
    go_wp2_with fail
    refine bodyPost_ret (v := .tuple #[.agg #[.int .i64 N, .slice (some ⟨g6, 0, none⟩) R.length c6], .int .i64 0]) (by simp [results, Try.results6, go_sem, r0, r1]) rfl ⟨(E6.out.setCell (by show w.heap.size ≤ w.heap.size + 1; omega) _).setCell (by show w.heap.size ≤ w.heap.size + 1; omega) _, Or.inl ⟨HEE.out, g6, c6, rfl, by omega, put_far HO6.out (by omega) _ _⟩⟩
  · obtain ⟨rfl, hb6⟩ := hz6.no he
    have E6 := Lib.hid (below_on E0.out hb6)
    have HEE := Lib.hid he
    clear hz6 he hb6
    go_wp2_with fail
    refine bodyPost_ret (v := .tuple #[.agg #[.int .i64 0, .slice none 0 0], .int .i64 er]) (by simp [results, Try.results6, go_sem, r0, r1]) rfl ⟨(E6.out.setCell (by show w.heap.size ≤ w.heap.size + 1; omega) _).setCell (by show w.heap.size ≤ w.heap.size + 1; omega) _, Or.inr ⟨HEE.out, rfl⟩⟩
end Go.Proofs.Ytgdcclldgfcilaa

namespace Go.Proofs.Ytgdcclldgfcilaa
open Go.ChangeShapes Go.WideShapes Go.ChangeAt Go.RowKit Go.Joins Go.Deep

theorem Try.own : ownKnob Try.prog.godebug = none := by kernel_rfl

theorem Try.laidOut : laidOutB Try.prog = true := by kernel_rfl

theorem trodAll_stays {H : Type} {enc : TypeId × Value → H} {W W' : World} {sp : Nat → Bool} : ∀ {ts : List TypeId} {vs : List Value} {ds : List (DataW H)} {ps : List MemPlace}, (∀ t ∈ ts, Try.prog.readableRec t = true ∧ t < Try.prog.types.size) →
    DataW.TrodAll enc Try.prog W 0 (fun _ => true) true ts vs ds ps → (∀ p ∈ ps, W.sameAt W' p) → (∀ p ∈ ps, sp p.block = true) → DataW.TrodAll enc Try.prog W' 0 sp true ts vs ds ps
  | [], [], [], _, _, h, _, _ => h
  | [], [], _ :: _, _, _, h, _, _ => h.elim
  | [], _ :: _, _, _, _, h, _, _ => h.elim
  | _ :: _, [], _, _, _, h, _, _ => h.elim
  | _ :: _, _ :: _, [], _, _, h, _, _ => h.elim
  | t :: ts, v :: vs, d :: ds, ps, ht, h, h1, h2 => by
    obtain ⟨p, q, ha, hb, rfl⟩ := h
    obtain ⟨r1, r2⟩ := ht t (List.mem_cons_self ..)
    exact ⟨p, q, WideElems.Trod_stays Try.laidOut r1 r2 ha (fun x hx => h1 x (List.mem_append_left _ hx)) (fun x hx => h2 x (List.mem_append_left _ hx)),
      trodAll_stays (fun t ht' => ht t (List.mem_cons_of_mem _ ht')) hb (fun x hx => h1 x (List.mem_append_right _ hx)) (fun x hx => h2 x (List.mem_append_right _ hx)), rfl⟩

set_option maxRecDepth 100000 in
/-- The last step of a law: it has returned true; its arguments read as they did, for the call has only made memory. -/
theorem post_law {H : Type} {enc : TypeId × Value → H} {f : Func} {s : ChangeSpec} {apart fresh handsOn again : Bool} {W W' : World} {args : Array Value} {ds gs : List (DataW H)} {before : List MemPlace}
    (hW : DataW.Whole enc Try.prog f.params.toList s.vars apart W args.toList ds gs before) (hv : s.vars = []) (hb : Below W.heap.size W W')
    (ht : ∀ t ∈ f.params.toList, Try.prog.readableRec t = true ∧ t < Try.prog.types.size)
    (hr : f.resultTypes.toList = [4]) (hs : f.resultTypes.size = 1) (hs1 : f.resultTypes[0]? = some 4)
    (hres : (s.fn H ds).results = [.lit (.bool true)]) (hargs : (s.fn H ds).args = ds) (hvars : (s.fn H ds).vars = []) :
    s.post enc Try.prog f apart fresh handsOn again W args (.bool true) W' := by
  have hlt : ∀ p ∈ before, p.block < W.heap.size := fun p hp => hW.lt p hp
  have hW0 := hW
  obtain ⟨p, q, hA, hV, rfl, hz, hn⟩ := hW
  rw [hv] at hV
  obtain ⟨rfl, rfl⟩ := trodVars_none hV
  simp only [List.append_nil] at hlt hz hn hW0
  have key : ∀ sp : Nat → Bool, (∀ x ∈ p, sp x.block = true) → DataW.TrodAll enc Try.prog W' 0 sp true f.params.toList args.toList ds p := fun sp hsp =>
    trodAll_stays ht hA (fun x hx => hb.same (hlt x hx)) hsp
  have res : ∀ (b : Nat) (sp : Nat → Bool) (hd : Bool), DataW.TrodAll enc Try.prog W' b sp hd f.resultTypes.toList ((Value.bool true).resultList f.resultTypes.size) [.lit (.bool true)] [] := fun b sp hd => by
    rw [hr, hs]
    exact trodAll_mk1 (shut_bool Try.underlying4 _)
  have none : ∀ sp : Nat → Bool, DataW.TrodVars enc Try.prog W' sp s.vars (s.fn H (ds ++ [])).vars [] := fun sp => by
    rw [hv, List.append_nil, hvars]; rfl
  have kA : ∀ sp : Nat → Bool, (∀ x ∈ p, sp x.block = true) → DataW.TrodAll enc Try.prog W' 0 sp true f.params.toList args.toList (s.fn H (ds ++ [])).args p := fun sp hsp => by
    rw [List.append_nil, hargs]; exact key sp hsp
  have kR : ∀ (b : Nat) (sp : Nat → Bool) (hd : Bool), DataW.TrodAll enc Try.prog W' b sp hd f.resultTypes.toList ((Value.bool true).resultList f.resultTypes.size) (s.fn H (ds ++ [])).results [] := fun b sp hd => by
    rw [List.append_nil, hres]; exact res b sp hd
  refine ⟨ds, [], p, [], p, [], by simpa using hW0, kR _ _ _, ?_, none _, ?_, fun _ => ?_⟩
  · exact kA _ (fun x hx => by simpa using hlt x hx)
  · exact World.keptBut_mono (fun x hx => ⟨hx, by simpa using hx⟩) (hb.frame (· ∈ p))
  · refine ⟨?_, _, _, ([] ++ p) ++ [], ⟨[] ++ p, [], trodAll_append (kA _ (fun _ _ => rfl)) (kR _ _ _), none _, rfl, ?_, ?_⟩, ?_⟩
    · intro j t r h1 h2
      rw [hs] at h2
      cases j with
      | zero =>
        rw [hs1] at h1
        simp [Value.resultList] at h2
        subst h2
        have e := Option.some.inj h1
        rw [← e]
        exact okWide_bool_mk Try.underlying4 _
      | succ j => rw [Array.getElem?_eq_none (by omega)] at h1; cases h1
    · intro b off hp
      have hin : MemPlace.cell b off ∈ p := by simpa using hp
      rw [hb.frozen (hlt _ hin)]
      exact hz b off hin
    · intro ha
      simpa using hn ha
    · intro x hx _
      simpa using hx
end Go.Proofs.Ytgdcclldgfcilaa

namespace Go.Proofs.Ytgdcclldgfcilaa
open Go.ChangeShapes Go.WideShapes Go.ChangeAt Go.RowKit Go.Joins Go.Deep

theorem Try.cells39 : Try.prog.cellsOf 39 = 1 := by kernel_rfl

theorem Try.cells22 : Try.prog.cellsOf 22 = 1 := by kernel_rfl

theorem Try.cells3 : Try.prog.cellsOf 3 = 1 := by kernel_rfl

theorem Try.cells24 : Try.prog.cellsOf 24 = 2 := by kernel_rfl

theorem Try.cells41 : Try.prog.cellsOf 41 = 3 := by kernel_rfl

theorem wf_i64 {n : Int} (h : (Lit.int .i64 n).wf = true) : I64 n := by
  simp [Lit.wf, IntKind.min, IntKind.max, IntKind.signed, IntKind.bits] at h
  exact ⟨by omega, by omega⟩

/-- A slice of limits. -/
theorem open_limits {H : Type} {enc : TypeId × Value → H} {W : World} {base fuel : Nat} {sp : Nat → Bool} {held : Bool} {c : Value} {y : DataW H × List MemPlace}
    (h : DataW.trod enc Try.prog W base sp held fuel 22 [c] = some y) : ∃ (ao : Option Addr) (l : List Int) (cap : Nat), c = .slice ao l.length cap ∧ Arg W ao l ∧ l.length ≤ maxLen := by
  rcases open_ints Try.underlying22 Try.underlying39 Try.cells39 h with ⟨e, _⟩ | ⟨a, len, cap, zs, e, _, hl, hm, hz, _, hc, _⟩
  · simp at e
    exact ⟨none, [], 0, by simpa using e, fun q => absurd rfl q, by simp⟩
  · simp at e
    have hlen : len ≤ zs.length := by rw [hz]; split <;> omega
    refine ⟨some a, zs.take len, cap, by rw [e]; simp [hlen], fun _ => ⟨a, rfl, fun j hj => ?_⟩, by simp; omega⟩
    simp at hj
    rw [hc j (by omega)]
    simp [Zo.gt, show j < len by omega]

set_option maxRecDepth 100000 in
/-- A zone by value. -/
theorem open_zone {H : Type} {enc : TypeId × Value → H} {W : World} {base : Nat} {sp : Nat → Bool} {held : Bool} {r : Reach} {b0 : Nat} {v : Value} {d : DataW H} {p : List MemPlace}
    (hv : Value.okWide Try.prog W r b0 24 v) (h : DataW.Trod enc Try.prog W base sp held 24 v d p) :
    ∃ (N : Int) (ao : Option Addr) (l : List Int) (cap : Nat), v = .agg #[.int .i64 N, .slice ao l.length cap] ∧ I64 N ∧ Arg W ao l ∧ l.length ≤ maxLen := by
  obtain ⟨v0, v1, y0, y1, n, rfl, _, _, h0, h1⟩ := open_agg2 Try.underlying24 (by kernel_rfl) Try.cells24 hv h
  obtain ⟨N, e0, _, w0⟩ := DataW.trod_int Try.underlying3 h0
  simp at e0
  obtain ⟨ao, l, cap, e1, hA, hl⟩ := open_limits h1
  exact ⟨N, ao, l, cap, by rw [e0, e1], wf_i64 w0, hA, hl⟩

set_option maxRecDepth 100000 in
/-- A struct of three integers. -/
theorem trod_con {H : Type} {enc : TypeId × Value → H} {W : World} {base fuel : Nat} {sp : Nat → Bool} {held : Bool} {cs : List Value} {y : DataW H × List MemPlace}
    (h : DataW.trod enc Try.prog W base sp held fuel 41 cs = some y) : ∃ i j x : Int, cs = [.int .i64 i, .int .i64 j, .int .i64 x] ∧ I64 i ∧ I64 j ∧ I64 x := by
  obtain ⟨xs, n, _, _, hl, hx, hf⟩ := DataW.trod_struct Try.underlying41 h
  rw [Try.cells41] at hl
  match cs, hl with
  | [a, b, c], _ =>
    have g0 := hf 0 _ rfl
    have g1 := hf 1 _ rfl
    have g2 := hf 2 _ rfl
    match xs, hx with
    | [y0, y1, y2], _ =>
      simp [Try.cells3, Try.cells39] at g0 g1 g2
      obtain ⟨i, e0, _, w0⟩ := DataW.trod_int Try.underlying3 g0
      obtain ⟨j, e1, _, w1⟩ := DataW.trod_int Try.underlying3 g1
      obtain ⟨x, e2, _, w2⟩ := DataW.trod_int Try.underlying39 g2
      simp at e0 e1 e2
      exact ⟨i, j, x, by rw [e0, e1, e2], wf_i64 w0, wf_i64 w1, wf_i64 w2⟩

theorem add_two (a : Addr) (k j : Nat) (hj : 0 < j) : (a.add k).add j = ⟨(a.add k).block, (a.add k).off + j, none⟩ := by
  generalize a.add k = b
  unfold Addr.add
  rw [if_neg (by omega)]

/-- A slice of constraints. -/
theorem open_cons {H : Type} {enc : TypeId × Value → H} {W : World} {base fuel : Nat} {sp : Nat → Bool} {held : Bool} {c : Value} {y : DataW H × List MemPlace}
    (h : DataW.trod enc Try.prog W base sp held fuel 34 [c] = some y) :
    ∃ (ao : Option Addr) (cs : List Con) (cap : Nat), c = .slice ao cs.length cap ∧ Arg3 W ao cs ∧ cs.length ≤ maxLen ∧ (∀ k, k < cs.length → (I64 (gc cs k).1 ∧ I64 (gc cs k).2.1 ∧ I64 (gc cs k).2.2)) ∧ (ao = none → cs = [] ∧ cap = 0) := by
  rcases open_slice Try.underlying34 h with ⟨e, _⟩ | ⟨a, len, cap, m, n, D, Pl, e, _, hl, hm, hmm, _, hi⟩
  · simp at e
    exact ⟨none, [], 0, by simpa using e, fun q => absurd rfl q, by simp, fun k hk => by simp at hk, fun _ => ⟨rfl, rfl⟩⟩
  · simp at e
    have hlen : len ≤ m := by rw [hmm]; split <;> omega
    have key : ∀ i, i < len → ∃ q : Con, (W.cell? (a.add (i * 3)) = some (.int .i64 q.1) ∧ W.cell? ⟨(a.add (i * 3)).block, (a.add (i * 3)).off + 1, none⟩ = some (.int .i64 q.2.1) ∧ W.cell? ⟨(a.add (i * 3)).block, (a.add (i * 3)).off + 2, none⟩ = some (.int .i64 q.2.2)) ∧ I64 q.1 ∧ I64 q.2.1 ∧ I64 q.2.2 := fun i hil => by
      obtain ⟨cs', hc, ht⟩ := hi i (by omega)
      rw [Try.cells41] at hc
      obtain ⟨x, y, z, rfl, w0, w1, w2⟩ := trod_con ht
      obtain ⟨_, hcl, hat⟩ := World.cells?_some hc
      have c0 := hat 0 (by simp)
      have c1 := hat 1 (by simp)
      have c2 := hat 2 (by simp)
      rw [add_two _ _ _ (by omega)] at c1 c2
      rw [show (a.add (i * 3)).add 0 = a.add (i * 3) by simp [Addr.add]] at c0
      exact ⟨(x, y, z), ⟨by simpa using c0, by simpa using c1, by simpa using c2⟩, w0, w1, w2⟩
    obtain ⟨F, hF⟩ : ∃ F : Nat → Con, ∀ i, i < len → (W.cell? (a.add (i * 3)) = some (.int .i64 (F i).1) ∧ W.cell? ⟨(a.add (i * 3)).block, (a.add (i * 3)).off + 1, none⟩ = some (.int .i64 (F i).2.1) ∧ W.cell? ⟨(a.add (i * 3)).block, (a.add (i * 3)).off + 2, none⟩ = some (.int .i64 (F i).2.2)) ∧ I64 (F i).1 ∧ I64 (F i).2.1 ∧ I64 (F i).2.2 := by
      refine ⟨fun i => if h : i < len then (key i h).choose else (0, 0, 0), fun i hil => ?_⟩
      simp only [dif_pos hil]
      exact (key i hil).choose_spec
    have hg : ∀ i, i < len → gc ((List.range len).map F) i = F i := fun i hil => by simp [gc, hil]
    refine ⟨some a, (List.range len).map F, cap, by rw [e]; simp, fun _ => ⟨a, rfl, fun j hj => ?_⟩, by simp; omega, fun k hk => ?_, fun q => by cases q⟩
    · simp at hj
      rw [hg j hj]
      exact (hF j hj).1
    · simp at hk
      rw [hg k hk]
      exact (hF k hk).2

set_option maxRecDepth 100000 in
/-- A slice of one cell, by value, and its reading. -/
theorem trod_slice1 {H : Type} {enc : TypeId × Value → H} {W : World} {base : Nat} {sp : Nat → Bool} {held : Bool} {r : Reach} {b0 : Nat} {t e : TypeId} {v : Value} {d : DataW H} {p : List MemPlace} (ht : Try.prog.underlying t = some (.slice e))
    (hv : Value.okWide Try.prog W r b0 t v) (h : DataW.Trod enc Try.prog W base sp held t v d p) : ∃ n, DataW.trod enc Try.prog W base sp held n t [v] = some (d, p) := by
  obtain ⟨n, hn⟩ := h
  obtain ⟨a, l, c, rfl⟩ := okWide_slice ht hv
  exact ⟨n, hn⟩

set_option maxRecDepth 100000 in
theorem open_cons_arg {H : Type} {enc : TypeId × Value → H} {W : World} {base : Nat} {sp : Nat → Bool} {held : Bool} {r : Reach} {b0 : Nat} {v : Value} {d : DataW H} {p : List MemPlace}
    (hv : Value.okWide Try.prog W r b0 34 v) (h : DataW.Trod enc Try.prog W base sp held 34 v d p) :
    ∃ (ao : Option Addr) (cs : List Con) (cap : Nat), v = .slice ao cs.length cap ∧ Arg3 W ao cs ∧ cs.length ≤ maxLen ∧ (∀ k, k < cs.length → (I64 (gc cs k).1 ∧ I64 (gc cs k).2.1 ∧ I64 (gc cs k).2.2)) ∧ (ao = none → cs = [] ∧ cap = 0) := by
  obtain ⟨n, hn⟩ := trod_slice1 Try.underlying34 hv h
  exact open_cons hn

/-- What a function that returns a zone leaves, in one form for both outcomes. -/
def zrN (er N : Int) : Int := if er = 0 then N else 0

def zrL (er : Int) (l : List Int) : List Int := if er = 0 then l else []

theorem ZRes.val {w : World} {N : Int} {l : List Int} {er : Int} {e : Ending} {w' : World} (h : ZRes w N l er e w') :
    ∃ ao cap, e = .returned (.tuple #[.agg #[.int .i64 (zrN er N), .slice ao (zrL er l).length cap], .int .i64 er]) ∧ Arg w' ao (zrL er l) ∧ (zrL er l).length ≤ maxLen ∧ Below w.heap.size w w' := by
  rcases h.2 with ⟨rfl, g, c, rfl, _, hO⟩ | ⟨h1, rfl⟩
  · refine ⟨some ⟨g, 0, none⟩, c, rfl, hO.arg, ?_, h.1⟩
    rcases hO.2 with ⟨q, _⟩ | ⟨g', cap, cur, _, _, _, h4, h5, _⟩
    · cases q
    · show l.length ≤ maxLen; omega
  · exact ⟨none, 0, by simp [zrN, zrL, h1], fun q => absurd (by simp [zrL, h1]) q, by simp [zrL, h1], h.1⟩

def ZVal (w : World) (M : Int) (m : List Int) (er : Int) (e : Ending) (w' : World) : Prop :=
  ∃ ao cap, e = .returned (.tuple #[.agg #[.int .i64 M, .slice ao m.length cap], .int .i64 er]) ∧ Arg w' ao m ∧ m.length ≤ maxLen ∧ Below w.heap.size w w'

theorem ZRes.zval {w : World} {N : Int} {l : List Int} {er : Int} {e : Ending} {w' : World} (h : ZRes w N l er e w') : ZVal w (zrN er N) (zrL er l) er e w' := h.val
end Go.Proofs.Ytgdcclldgfcilaa

namespace Go.Proofs.Ytgdcclldgfcilaa
open Go.RowKit

/-- 'make([]api.Limit, k)'. -/
theorem make_limits (w : World) (len : Nat) (hl : len ≤ 1000) (x : Int) (hx : x = len) : ∃ cur : Array Value, cur = (List.replicate len (Value.int .i64 0)).toArray ∧
    (Instr.makeSlice 22 (.int .i64 x) (.int .i64 x)).run Try.prog w = .ok (.slice (some ⟨w.heap.size, 0, none⟩) len len) (w.alloc (.cells cur 39)) := by
  subst hx
  obtain ⟨i0, hi, hz0, hz1, hz2⟩ := info_parts Try.info39
  have hr := run_make (P := Try.prog) w 22 39 i0 _ Try.underlying22 hi hz0 .i64 .i64 (len : Int) (len : Int) (by omega) (by omega) (by rw [hz2]; omega) (by omega)
  refine ⟨_, ?_, hr⟩
  rw [hz1]
  apply Array.toList_inj.1
  simp only [Int.toNat_natCast, Nat.mul_one]
  rw [show (Value.int IntKind.i64 0).cells = #[Value.int .i64 0] from rfl, toList_madeCells_one]

theorem own_new (w : World) (l : List Int) (hl : l.length ≤ 1000) : Own (w.alloc (.cells (l.map (Value.int .i64)).toArray 39)) w.heap.size l.length l := by
  have := World.ownsRow_lit (base := 0) (e := 39) (size := 1) w (l.map (Value.int .i64)).toArray l.length (Nat.zero_le _) (by unfold maxLen; omega) (by simp)
  simpa [Own] using this

def flE (N : Int) (v : Int) : Int := if dimB N then cloE N.toNat (List.replicate ((N.toNat + 1) * (N.toNat + 1)) v) else 2
end Go.Proofs.Ytgdcclldgfcilaa

namespace Go.Proofs.Ytgdcclldgfcilaa
open Go.RowKit

/-- 'append' within the capacity, as one step of a region that draws its order. -/
theorem step_append_fits {P : Program} {ops : Array Oper} {o : Oper} {a : Act} {w : World} {K : Act → World → Prop} {Q : Exit → Act → World → Prop} {E : Prop}
    (hg : o.guard = none) (s x : Operand) (t : TypeId) (hop : o.op = Op.call { callee := Callee.builtin Builtin.append, args := #[s, x], argTypes := #[t, t] })
    (e : TypeId) (i : TypeInfo) (size : Nat) (h1 : P.underlying t = some (.slice e)) (h2 : P.info? e = some i) (h4 : i.size = size)
    (base g n cap : Nat) (xs : List Value) (hown : w.ownsRow base e size (.slice (some ⟨g, 0, none⟩) n cap) n xs) (hs : a.eval s = .slice (some ⟨g, 0, none⟩) n cap)
    (ad : Addr) (m c : Nat) (news : List Value) (hx : a.eval x = .slice (some ad) m c) (hn : news.length = m * size) (hc : ∀ j u, news[j]? = some u → w.cell? (ad.add j) = some u) (h1c : ∀ u ∈ news, u.oneCell' = true)
    (hroom : n + m ≤ cap)
    (hK : ∀ w', w'.ownsRow base e size (.slice (some ⟨g, 0, none⟩) (n + m) cap) (n + m) (xs ++ news) → w.grownBy w' (some g) → K (a.put o.dst (.slice (some ⟨g, 0, none⟩) (n + m) cap)) w') :
    if Region.wanted o (yielded ops a.tmps) = true then Oper.wp P o a w K Q else E := by
  have hw : Region.wanted o (yielded ops a.tmps) = true := by simp [Region.wanted, hg]
  rw [if_pos hw]
  obtain ⟨w', hrun, r1, r2⟩ := run_append_fits (P := P) w base t o.type e i size h1 h2 h4 g n cap xs hown ad m c news hn hc h1c hroom
  unfold Oper.wp
  simp [execOp, hop, resolve, invoke, builtin, hs, hx, hrun, Result.andThen]
  exact hK w' r1 r2

/-- 'make([]api.Limit, 0, k)'. -/
theorem make_room (len : Nat) (hl : len ≤ 1000) (w : World) : (Instr.makeSlice 22 (.int .i64 0) (.int .i64 ((len : Int) + 1))).run Try.prog w = .ok (.slice (some ⟨w.heap.size, 0, none⟩) 0 (len + 1)) (w.alloc (.cells (madeCells #[Value.int .i64 0] (len + 1)) 39)) := by
  obtain ⟨i0, hi, hz0, hz1, hz2⟩ := info_parts Try.info39
  have hr := run_make (P := Try.prog) w 22 39 i0 _ Try.underlying22 hi hz0 .i64 .i64 0 ((len : Int) + 1) (by omega) (by omega) (by rw [hz2]; omega) (by omega)
  rw [hr, hz1]
  simp
  rfl

theorem two_boxes' (w : World) (u v x y : Value) (t : TypeId) : Two ((w.alloc (.cells #[u, v] t)).alloc (.cells #[x, y] t)) w.heap.size u v ∧ Two ((w.alloc (.cells #[u, v] t)).alloc (.cells #[x, y] t)) (w.heap.size + 1) x y := by
  refine ⟨(Two.made _ _ _ _).alloc _, ?_⟩
  have := Two.made (w.alloc (.cells #[u, v] t)) x y t
  simpa using this

theorem grown_in {X w w' : World} {g : Nat} (hb : Below X.heap.size X w) (hg : w.grownBy w' (some g)) (hle : X.heap.size ≤ g) : Below X.heap.size X w' := grown_over hb hg hle
end Go.Proofs.Ytgdcclldgfcilaa

namespace Go.Proofs.Ytgdcclldgfcilaa
open Go.ChangeShapes Go.WideShapes Go.ChangeAt Go.RowKit Go.Joins Go.Deep

theorem max_le' {n : Nat} (h : n ≤ maxLen) : n ≤ 9223372036854775807 := by unfold maxLen at h; omega

theorem arg_far' {w : World} {ao : Option Addr} {l : List Int} (h : Arg w ao l) {x : Nat} (hx : ∀ a, ao = some a → a.block ≠ x) (u v : Value) : Arg ((w.setCell ⟨x, 0, none⟩ u).setCell ⟨x, 1, none⟩ v) ao l := fun hl => by
  obtain ⟨a, e, hR⟩ := h hl
  refine ⟨a, e, fun j hj => ?_⟩
  have hb : (a.add j).block = a.block := by unfold Addr.add; split <;> rfl
  have hne := hx a e
  exact aside_two (hR j hj) (by rw [hb]; exact hne) u v

theorem far_below {w0 w : World} (h : Below w0.heap.size w0 w) {x : Nat} (hx : w0.heap.size ≤ x) (u v : Value) : Below w0.heap.size w0 ((w.setCell ⟨x, 0, none⟩ u).setCell ⟨x, 1, none⟩ v) := (h.setCell hx u).setCell hx v

/-- What a function that returns a zone leaves, in one form for both outcomes; the row is new. -/
def ZV2 (w : World) (M : Int) (m : List Int) (er : Int) (e : Ending) (w' : World) : Prop :=
  ∃ ao cap, e = .returned (.tuple #[.agg #[.int .i64 M, .slice ao m.length cap], .int .i64 er]) ∧ Arg w' ao m ∧ m.length ≤ maxLen ∧ (∀ b, ao = some b → w.heap.size ≤ b.block ∧ b.block < w'.heap.size) ∧ (ao = none → m = [] ∧ cap = 0) ∧ Below w.heap.size w w'

theorem ZRes.zv2 {w : World} {N : Int} {l : List Int} {er : Int} {e : Ending} {w' : World} (h : ZRes w N l er e w') : ZV2 w (zrN er N) (zrL er l) er e w' := by
  rcases h.2 with ⟨rfl, g, c, rfl, hg, hO⟩ | ⟨h1, rfl⟩
  · refine ⟨some ⟨g, 0, none⟩, c, rfl, hO.arg, ?_, fun b hb => by injection hb with hb; subst hb; exact ⟨hg, (World.ownsRow.lt hO g rfl).2⟩, fun q => (by cases q), h.1⟩
    rcases hO.2 with ⟨q, _⟩ | ⟨g', cap, cur, _, _, _, h4, h5, _⟩
    · cases q
    · show l.length ≤ maxLen; omega
  · exact ⟨none, 0, by simp [zrN, zrL, h1], fun q => absurd (by simp [zrL, h1]) q, by simp [zrL, h1], (fun b hb => by cases hb), (fun _ => ⟨by simp [zrL, h1], rfl⟩), h.1⟩

theorem same_refl (M : Int) (m : List Int) (ao bo : Option Addr) (ca cb : Nat) (w : World) (hA : Arg w ao m) (hB : Arg w bo m) (hm : m.length ≤ maxLen) :
    Calls Try.prog 13 #[.agg #[.int .i64 M, .slice ao m.length ca], .agg #[.int .i64 M, .slice bo m.length cb]] w (Made (.bool true) w) := by
  have := same_any M M m m ao bo ca cb w hA hB (max_le' hm)
  rwa [show smB M M m m = true by simp [smB]] at this

/-- A slice of limits; one that is nil. -/
theorem open_limits2 {H : Type} {enc : TypeId × Value → H} {W : World} {base fuel : Nat} {sp : Nat → Bool} {held : Bool} {c : Value} {y : DataW H × List MemPlace}
    (h : DataW.trod enc Try.prog W base sp held fuel 22 [c] = some y) : ∃ (ao : Option Addr) (l : List Int) (cap : Nat), c = .slice ao l.length cap ∧ Arg W ao l ∧ l.length ≤ maxLen ∧ (ao = none → l = [] ∧ cap = 0) := by
  rcases open_ints Try.underlying22 Try.underlying39 Try.cells39 h with ⟨e, _⟩ | ⟨a, len, cap, zs, e, _, hl, hm, hz, _, hc, _⟩
  · simp at e
    exact ⟨none, [], 0, by simpa using e, fun q => absurd rfl q, by simp, fun _ => ⟨rfl, rfl⟩⟩
  · simp at e
    have hlen : len ≤ zs.length := by rw [hz]; split <;> omega
    refine ⟨some a, zs.take len, cap, by rw [e]; simp [hlen], fun _ => ⟨a, rfl, fun j hj => ?_⟩, by simp; omega, fun q => by cases q⟩
    simp at hj
    rw [hc j (by omega)]
    simp [Zo.gt, show j < len by omega]

theorem Try.cells2 : Try.prog.cellsOf 2 = 1 := by kernel_rfl

/-- A slice of constants. -/
theorem open_consts2 {H : Type} {enc : TypeId × Value → H} {W : World} {base fuel : Nat} {sp : Nat → Bool} {held : Bool} {c : Value} {y : DataW H × List MemPlace}
    (h : DataW.trod enc Try.prog W base sp held fuel 25 [c] = some y) : ∃ (ao : Option Addr) (l : List Int) (cap : Nat), c = .slice ao l.length cap ∧ Arg W ao l ∧ l.length ≤ maxLen ∧ (ao = none → l = [] ∧ cap = 0) ∧ (∀ j, j < l.length → I64 (Zo.gt l j)) := by
  rcases open_ints Try.underlying25 Try.underlying2 Try.cells2 h with ⟨e, _⟩ | ⟨a, len, cap, zs, e, _, hl, hm, hz, _, hc, hw⟩
  · simp at e
    exact ⟨none, [], 0, by simpa using e, fun q => absurd rfl q, by simp, fun _ => ⟨rfl, rfl⟩, fun j hj => by simp at hj⟩
  · simp at e
    have hlen : len ≤ zs.length := by rw [hz]; split <;> omega
    refine ⟨some a, zs.take len, cap, by rw [e]; simp [hlen], fun _ => ⟨a, rfl, fun j hj => ?_⟩, by simp; omega, fun q => (by cases q), fun j hj => ?_⟩
    · simp at hj
      rw [hc j (by omega)]
      simp [Zo.gt, show j < len by omega]
    · simp at hj
      have : zs[j]'(by omega) ∈ zs := List.getElem_mem _
      have q := wf_i64 (hw _ this)
      simpa [Zo.gt, show j < len by omega, show j < zs.length by omega] using q

set_option maxRecDepth 100000 in
theorem open_consts_arg {H : Type} {enc : TypeId × Value → H} {W : World} {base : Nat} {sp : Nat → Bool} {held : Bool} {r : Reach} {b0 : Nat} {v : Value} {d : DataW H} {p : List MemPlace}
    (hv : Value.okWide Try.prog W r b0 25 v) (h : DataW.Trod enc Try.prog W base sp held 25 v d p) :
    ∃ (ao : Option Addr) (l : List Int) (cap : Nat), v = .slice ao l.length cap ∧ Arg W ao l ∧ l.length ≤ maxLen ∧ (ao = none → l = [] ∧ cap = 0) ∧ (∀ j, j < l.length → I64 (Zo.gt l j)) := by
  obtain ⟨n, hn⟩ := trod_slice1 Try.underlying25 hv h
  exact open_consts2 hn

set_option maxRecDepth 100000 in
/-- A zone by value; one without a row. -/
theorem open_zone2 {H : Type} {enc : TypeId × Value → H} {W : World} {base : Nat} {sp : Nat → Bool} {held : Bool} {r : Reach} {b0 : Nat} {v : Value} {d : DataW H} {p : List MemPlace}
    (hv : Value.okWide Try.prog W r b0 24 v) (h : DataW.Trod enc Try.prog W base sp held 24 v d p) :
    ∃ (N : Int) (ao : Option Addr) (l : List Int) (cap : Nat), v = .agg #[.int .i64 N, .slice ao l.length cap] ∧ I64 N ∧ Arg W ao l ∧ l.length ≤ maxLen ∧ (ao = none → l = [] ∧ cap = 0) := by
  obtain ⟨v0, v1, y0, y1, n, rfl, _, _, h0, h1⟩ := open_agg2 Try.underlying24 (by kernel_rfl) Try.cells24 hv h
  obtain ⟨N, e0, _, w0⟩ := DataW.trod_int Try.underlying3 h0
  simp at e0
  obtain ⟨ao, l, cap, e1, hA, hl, hn⟩ := open_limits2 h1
  exact ⟨N, ao, l, cap, by rw [e0, e1], wf_i64 w0, hA, hl, hn⟩

theorem rd_lit (w : World) (l : List Int) (t : TypeId) : Rd (w.alloc (.cells ⟨l.map (Value.int .i64)⟩ t)) ⟨w.heap.size, 0, none⟩ l := fun j hj => by
  rw [addr_add, cell_of_row _ _ _ _ _ _ (heap_alloc_last w _)]
  simp [Zo.gt, hj]

/-- beyond, of two lists. -/
def b2B (len j k : Nat) : Bool := decide (50 < j) || decide (50 < k) || decide (200 < len)

def b1B (len j : Nat) : Bool := decide (50 < j) || decide (200 < len)

set_option maxRecDepth 20000 in
set_option maxHeartbeats 1000000 in
theorem beyond2_any (N : Int) (mo ao bo : Option Addr) (len cap j k ca cb h : Nat) (w : World) (h0 : w.cell? ⟨h, 0, none⟩ = some (.slice ao j ca)) (h1 : w.cell? ⟨h, 1, none⟩ = some (.slice bo k cb)) :
    Calls Try.prog 4 #[.agg #[.int .i64 N, .slice mo len cap], .slice (some ⟨h, 0, none⟩) 2 2] w (Made (.bool (b2B len j k)) w) := by
  obtain ⟨w0, hw0⟩ : ∃ w0, w0 = w.alloc (.cells #[.int .i64 N, .slice mo len cap] 24) := ⟨_, rfl⟩
  have bx : Two w0 w.heap.size (.int .i64 N) (.slice mo len cap) := by rw [hw0]; exact Two.made _ _ _ _
  have E0 := Lib.hid (show Below w.heap.size w w0 by rw [hw0]; exact one_more _)
  have c0 := kept E0.out h0
  have c1 := kept E0.out h1
  have HR := Lib.hid (show b2B len j k = (decide ((50 : Int) < (j : Int)) || decide ((50 : Int) < (k : Int)) || decide ((200 : Int) < (len : Int))) by unfold b2B; rw [Bool.eq_iff_iff]; simp; omega)
  obtain ⟨b0, b1, b2, b3⟩ := bx.facts
  generalize b2B len j k = R at *
  clear bx h0 h1
  go_enter Try.func4, Try.ntmps4
  go_wp2_with fail
  rw [← hw0]
  clear hw0
  go_wp2_with fail
  go_loopw [5] (fun s wr => ∃ t : Nat, t ≤ 2 ∧ s = .int .i64 t ∧ Hid ((1 ≤ t → decide ((50 : Int) < (j : Int)) = false) ∧ (2 ≤ t → decide ((50 : Int) < (k : Int)) = false)) ∧ wr = w0) (fun s _ => 2 - (intOf s).toNat)
  case atStart => exact ⟨0, by omega, rfl, Lib.hid ⟨fun h => by omega, fun h => by omega⟩, rfl⟩
  case round =>
    obtain ⟨t, ht, rfl, HK, hw⟩ := hrel
    rw [hw]
    clear hw
    have htt : t = 0 ∨ t = 1 ∨ t = 2 := by omega
    clear ht
    rcases htt with rfl | rfl | rfl
    · cases hj : decide ((50 : Int) < (j : Int))
      · have HJ := Lib.hid hj
        go_wp2_with fail
        go_roundw
        case rel => exact ⟨1, by omega, by go_num, Lib.hid ⟨fun _ => by first | exact HJ.out | trivial, fun h => by omega⟩, trivial⟩
        case measure => simp [intOf]
      · have HJ := Lib.hid hj
        go_wp2_with fail
        go_ret
        exact ⟨ret_bool (by rw [HR.out, HJ.out]; simp), E0.out⟩
    · cases hj : decide ((50 : Int) < (k : Int))
      · have HJ := Lib.hid hj
        go_wp2_with fail
        go_roundw
        case rel => exact ⟨2, by omega, by go_num, Lib.hid ⟨fun _ => HK.out.1 (by omega), fun _ => by first | exact HJ.out | trivial⟩, trivial⟩
        case measure => simp [intOf]
      · have HJ := Lib.hid hj
        go_wp2_with fail
        go_ret
        exact ⟨ret_bool (by rw [HR.out, HJ.out]; simp), E0.out⟩
    · have HJ := Lib.hid (show R = decide ((200 : Int) < (len : Int)) by rw [HR.out, HK.out.1 (by omega), HK.out.2 (by omega)]; simp)
      go_wp2_with fail
      go_ret
      exact ⟨ret_bool HJ.out.symm, E0.out⟩
end Go.Proofs.Ytgdcclldgfcilaa

namespace Go.Proofs.Ytgdcclldgfcilaa
open Go.RowKit

theorem part_math1 : Zo.clo 1 [1, -5, 11, 1] = [1, -5, 11, 1] ∧ closeE 1 [1, -5, 11, 1] = 0 := by decide +kernel

set_option maxRecDepth 100000 in
set_option maxHeartbeats 1000000 in
theorem part_1 (w : World) : Calls Try.prog 11 #[.int .i64 3, .int .i64 5, .bool false] w
    (fun e w' => ∃ g c, e = .returned (.agg #[.int .i64 1, .slice (some ⟨g, 0, none⟩) 4 c]) ∧ w.heap.size ≤ g ∧ Own w' g c [1, -5, 11, 1] ∧ Below w.heap.size w w') := by
  have CL := Lib.hid (show ∀ W a, Rd W a [1, -5, 11, 1] → Calls Try.prog 27 #[.int .i64 1, .slice (some a) 4 4] W (ZRes W 1 [1, -5, 11, 1] 0) from fun W a h => by
    have := close_gen 1 [1, -5, 11, 1] (some a) 4 W (fun _ => ⟨a, rfl, h⟩)
    rw [show Zo.clo (1 : Int).toNat [1, -5, 11, 1] = [1, -5, 11, 1] from part_math1.1, part_math1.2] at this
    exact this)
  obtain ⟨w0, hw0⟩ : ∃ w0, w0 = (w.alloc (.cells #[.int .i64 0, .slice none 0 0] 24)).alloc (.cells #[.int .i64 1, .int .i64 (-5), .int .i64 11, .int .i64 1] 39) := ⟨_, rfl⟩
  have LR := Lib.hid (show Rd w0 ⟨w.heap.size + 1, 0, none⟩ [1, -5, 11, 1] by rw [hw0]; have := rd_lit (w.alloc (.cells #[.int .i64 0, .slice none 0 0] 24)) [1, -5, 11, 1] 39; simpa using this)
  have RS := Lib.hid (show Two w0 w.heap.size (.int .i64 0) (.slice none 0 0) by rw [hw0]; exact (Two.made _ _ _ _).alloc _)
  have E0 := Lib.hid (show Below w.heap.size w w0 by rw [hw0]; exact past_two (Below.refl _ _))
  have z0 : w0.heap.size = w.heap.size + 2 := by rw [hw0]; simp
  have HW0 := Lib.hid hw0
  clear hw0
  go_enter Try.func11, Try.ntmps11
  go_wp2_with fail
  rw [← HW0.out]
  refine (CL.out _ _ LR.out).mono ?_
  intro e w1 hz
  obtain ⟨g, c, rfl, hg, hO, hb⟩ := hz.ok rfl
  simp only [show [1, -5, 11, 1].length = 4 from rfl]
  obtain ⟨v1, hv⟩ : ∃ v1, v1 = w1.alloc (.cells #[.int .i64 1, .slice (some ⟨g, 0, none⟩) 4 c] 24) := ⟨_, rfl⟩
  have X1 := Lib.hid (show Two v1 w1.heap.size (.int .i64 1) (.slice (some ⟨g, 0, none⟩) 4 c) by rw [hv]; exact Two.made _ _ _ _)
  have A1 := Lib.hid (show Own v1 g c [1, -5, 11, 1] by rw [hv]; exact hO.alloc _)
  have B1 := Lib.hid (show Below w0.heap.size w0 v1 by rw [hv]; exact hb.alloc hb.size _)
  clear hO hb hz
  go_upto_region 7 with (fail)
  rw [← hv]
  clear hv
  obtain ⟨b0, b1, b2, b3⟩ := X1.out.facts
  obtain ⟨r0, r1, r2, r3⟩ := (RS.out.kept B1.out).facts
  go_wp2_with fail
  refine bodyPost_ret (v := .agg #[.int .i64 1, .slice (some ⟨g, 0, none⟩) 4 c]) (by simp [results, Try.results11, go_sem, r0, r1]) rfl ⟨g, c, rfl, by omega, put_far A1.out (by omega) _ _, ?_⟩
  exact ((below_on E0.out B1.out).setCell (by show w.heap.size ≤ w.heap.size; omega) _).setCell (by show w.heap.size ≤ w.heap.size; omega) _

theorem part_math2 : Zo.clo 1 [1, -5, 1099511627776, 1] = [1, -5, 1099511627776, 1] ∧ closeE 1 [1, -5, 1099511627776, 1] = 0 := by decide +kernel

set_option maxRecDepth 100000 in
set_option maxHeartbeats 1000000 in
theorem part_2 (w : World) : Calls Try.prog 11 #[.int .i64 3, .int .i64 (-1), .bool false] w
    (fun e w' => ∃ g c, e = .returned (.agg #[.int .i64 1, .slice (some ⟨g, 0, none⟩) 4 c]) ∧ w.heap.size ≤ g ∧ Own w' g c [1, -5, 1099511627776, 1] ∧ Below w.heap.size w w') := by
  have CL := Lib.hid (show ∀ W a, Rd W a [1, -5, 1099511627776, 1] → Calls Try.prog 27 #[.int .i64 1, .slice (some a) 4 4] W (ZRes W 1 [1, -5, 1099511627776, 1] 0) from fun W a h => by
    have := close_gen 1 [1, -5, 1099511627776, 1] (some a) 4 W (fun _ => ⟨a, rfl, h⟩)
    rw [show Zo.clo (1 : Int).toNat [1, -5, 1099511627776, 1] = [1, -5, 1099511627776, 1] from part_math2.1, part_math2.2] at this
    exact this)
  obtain ⟨w0, hw0⟩ : ∃ w0, w0 = (w.alloc (.cells #[.int .i64 0, .slice none 0 0] 24)).alloc (.cells #[.int .i64 1, .int .i64 (-5), .int .i64 1099511627776, .int .i64 1] 39) := ⟨_, rfl⟩
  have LR := Lib.hid (show Rd w0 ⟨w.heap.size + 1, 0, none⟩ [1, -5, 1099511627776, 1] by rw [hw0]; have := rd_lit (w.alloc (.cells #[.int .i64 0, .slice none 0 0] 24)) [1, -5, 1099511627776, 1] 39; simpa using this)
  have RS := Lib.hid (show Two w0 w.heap.size (.int .i64 0) (.slice none 0 0) by rw [hw0]; exact (Two.made _ _ _ _).alloc _)
  have E0 := Lib.hid (show Below w.heap.size w w0 by rw [hw0]; exact past_two (Below.refl _ _))
  have z0 : w0.heap.size = w.heap.size + 2 := by rw [hw0]; simp
  have HW0 := Lib.hid hw0
  clear hw0
  go_enter Try.func11, Try.ntmps11
  go_wp2_with fail
  rw [← HW0.out]
  refine (CL.out _ _ LR.out).mono ?_
  intro e w1 hz
  obtain ⟨g, c, rfl, hg, hO, hb⟩ := hz.ok rfl
  simp only [show [1, -5, 1099511627776, 1].length = 4 from rfl]
  obtain ⟨v1, hv⟩ : ∃ v1, v1 = w1.alloc (.cells #[.int .i64 1, .slice (some ⟨g, 0, none⟩) 4 c] 24) := ⟨_, rfl⟩
  have X1 := Lib.hid (show Two v1 w1.heap.size (.int .i64 1) (.slice (some ⟨g, 0, none⟩) 4 c) by rw [hv]; exact Two.made _ _ _ _)
  have A1 := Lib.hid (show Own v1 g c [1, -5, 1099511627776, 1] by rw [hv]; exact hO.alloc _)
  have B1 := Lib.hid (show Below w0.heap.size w0 v1 by rw [hv]; exact hb.alloc hb.size _)
  clear hO hb hz
  go_upto_region 7 with (fail)
  rw [← hv]
  clear hv
  obtain ⟨b0, b1, b2, b3⟩ := X1.out.facts
  obtain ⟨r0, r1, r2, r3⟩ := (RS.out.kept B1.out).facts
  go_wp2_with fail
  refine bodyPost_ret (v := .agg #[.int .i64 1, .slice (some ⟨g, 0, none⟩) 4 c]) (by simp [results, Try.results11, go_sem, r0, r1]) rfl ⟨g, c, rfl, by omega, put_far A1.out (by omega) _ _, ?_⟩
  exact ((below_on E0.out B1.out).setCell (by show w.heap.size ≤ w.heap.size; omega) _).setCell (by show w.heap.size ≤ w.heap.size; omega) _

theorem part_math3 : Zo.clo 1 [1, -4, 1099511627776, 1] = [1, -4, 1099511627776, 1] ∧ closeE 1 [1, -4, 1099511627776, 1] = 0 := by decide +kernel

set_option maxRecDepth 100000 in
set_option maxHeartbeats 1000000 in
theorem part_3 (w : World) : Calls Try.prog 11 #[.int .i64 2, .int .i64 (-1), .bool true] w
    (fun e w' => ∃ g c, e = .returned (.agg #[.int .i64 1, .slice (some ⟨g, 0, none⟩) 4 c]) ∧ w.heap.size ≤ g ∧ Own w' g c [1, -4, 1099511627776, 1] ∧ Below w.heap.size w w') := by
  have CL := Lib.hid (show ∀ W a, Rd W a [1, -4, 1099511627776, 1] → Calls Try.prog 27 #[.int .i64 1, .slice (some a) 4 4] W (ZRes W 1 [1, -4, 1099511627776, 1] 0) from fun W a h => by
    have := close_gen 1 [1, -4, 1099511627776, 1] (some a) 4 W (fun _ => ⟨a, rfl, h⟩)
    rw [show Zo.clo (1 : Int).toNat [1, -4, 1099511627776, 1] = [1, -4, 1099511627776, 1] from part_math3.1, part_math3.2] at this
    exact this)
  obtain ⟨w0, hw0⟩ : ∃ w0, w0 = (w.alloc (.cells #[.int .i64 0, .slice none 0 0] 24)).alloc (.cells #[.int .i64 1, .int .i64 (-4), .int .i64 1099511627776, .int .i64 1] 39) := ⟨_, rfl⟩
  have LR := Lib.hid (show Rd w0 ⟨w.heap.size + 1, 0, none⟩ [1, -4, 1099511627776, 1] by rw [hw0]; have := rd_lit (w.alloc (.cells #[.int .i64 0, .slice none 0 0] 24)) [1, -4, 1099511627776, 1] 39; simpa using this)
  have RS := Lib.hid (show Two w0 w.heap.size (.int .i64 0) (.slice none 0 0) by rw [hw0]; exact (Two.made _ _ _ _).alloc _)
  have E0 := Lib.hid (show Below w.heap.size w w0 by rw [hw0]; exact past_two (Below.refl _ _))
  have z0 : w0.heap.size = w.heap.size + 2 := by rw [hw0]; simp
  have HW0 := Lib.hid hw0
  clear hw0
  go_enter Try.func11, Try.ntmps11
  go_wp2_with fail
  rw [← HW0.out]
  refine (CL.out _ _ LR.out).mono ?_
  intro e w1 hz
  obtain ⟨g, c, rfl, hg, hO, hb⟩ := hz.ok rfl
  simp only [show [1, -4, 1099511627776, 1].length = 4 from rfl]
  obtain ⟨v1, hv⟩ : ∃ v1, v1 = w1.alloc (.cells #[.int .i64 1, .slice (some ⟨g, 0, none⟩) 4 c] 24) := ⟨_, rfl⟩
  have X1 := Lib.hid (show Two v1 w1.heap.size (.int .i64 1) (.slice (some ⟨g, 0, none⟩) 4 c) by rw [hv]; exact Two.made _ _ _ _)
  have A1 := Lib.hid (show Own v1 g c [1, -4, 1099511627776, 1] by rw [hv]; exact hO.alloc _)
  have B1 := Lib.hid (show Below w0.heap.size w0 v1 by rw [hv]; exact hb.alloc hb.size _)
  clear hO hb hz
  go_upto_region 7 with (fail)
  rw [← hv]
  clear hv
  obtain ⟨b0, b1, b2, b3⟩ := X1.out.facts
  obtain ⟨r0, r1, r2, r3⟩ := (RS.out.kept B1.out).facts
  go_wp2_with fail
  refine bodyPost_ret (v := .agg #[.int .i64 1, .slice (some ⟨g, 0, none⟩) 4 c]) (by simp [results, Try.results11, go_sem, r0, r1]) rfl ⟨g, c, rfl, by omega, put_far A1.out (by omega) _ _, ?_⟩
  exact ((below_on E0.out B1.out).setCell (by show w.heap.size ≤ w.heap.size; omega) _).setCell (by show w.heap.size ≤ w.heap.size; omega) _

theorem part_math4 : Zo.clo 1 [1, -4, 11, 1] = [1, -4, 11, 1] ∧ closeE 1 [1, -4, 11, 1] = 0 := by decide +kernel

set_option maxRecDepth 100000 in
set_option maxHeartbeats 1000000 in
theorem part_4 (w : World) : Calls Try.prog 11 #[.int .i64 2, .int .i64 5, .bool true] w
    (fun e w' => ∃ g c, e = .returned (.agg #[.int .i64 1, .slice (some ⟨g, 0, none⟩) 4 c]) ∧ w.heap.size ≤ g ∧ Own w' g c [1, -4, 11, 1] ∧ Below w.heap.size w w') := by
  have CL := Lib.hid (show ∀ W a, Rd W a [1, -4, 11, 1] → Calls Try.prog 27 #[.int .i64 1, .slice (some a) 4 4] W (ZRes W 1 [1, -4, 11, 1] 0) from fun W a h => by
    have := close_gen 1 [1, -4, 11, 1] (some a) 4 W (fun _ => ⟨a, rfl, h⟩)
    rw [show Zo.clo (1 : Int).toNat [1, -4, 11, 1] = [1, -4, 11, 1] from part_math4.1, part_math4.2] at this
    exact this)
  obtain ⟨w0, hw0⟩ : ∃ w0, w0 = (w.alloc (.cells #[.int .i64 0, .slice none 0 0] 24)).alloc (.cells #[.int .i64 1, .int .i64 (-4), .int .i64 11, .int .i64 1] 39) := ⟨_, rfl⟩
  have LR := Lib.hid (show Rd w0 ⟨w.heap.size + 1, 0, none⟩ [1, -4, 11, 1] by rw [hw0]; have := rd_lit (w.alloc (.cells #[.int .i64 0, .slice none 0 0] 24)) [1, -4, 11, 1] 39; simpa using this)
  have RS := Lib.hid (show Two w0 w.heap.size (.int .i64 0) (.slice none 0 0) by rw [hw0]; exact (Two.made _ _ _ _).alloc _)
  have E0 := Lib.hid (show Below w.heap.size w w0 by rw [hw0]; exact past_two (Below.refl _ _))
  have z0 : w0.heap.size = w.heap.size + 2 := by rw [hw0]; simp
  have HW0 := Lib.hid hw0
  clear hw0
  go_enter Try.func11, Try.ntmps11
  go_wp2_with fail
  rw [← HW0.out]
  refine (CL.out _ _ LR.out).mono ?_
  intro e w1 hz
  obtain ⟨g, c, rfl, hg, hO, hb⟩ := hz.ok rfl
  simp only [show [1, -4, 11, 1].length = 4 from rfl]
  obtain ⟨v1, hv⟩ : ∃ v1, v1 = w1.alloc (.cells #[.int .i64 1, .slice (some ⟨g, 0, none⟩) 4 c] 24) := ⟨_, rfl⟩
  have X1 := Lib.hid (show Two v1 w1.heap.size (.int .i64 1) (.slice (some ⟨g, 0, none⟩) 4 c) by rw [hv]; exact Two.made _ _ _ _)
  have A1 := Lib.hid (show Own v1 g c [1, -4, 11, 1] by rw [hv]; exact hO.alloc _)
  have B1 := Lib.hid (show Below w0.heap.size w0 v1 by rw [hv]; exact hb.alloc hb.size _)
  clear hO hb hz
  go_upto_region 7 with (fail)
  rw [← hv]
  clear hv
  obtain ⟨b0, b1, b2, b3⟩ := X1.out.facts
  obtain ⟨r0, r1, r2, r3⟩ := (RS.out.kept B1.out).facts
  go_wp2_with fail
  refine bodyPost_ret (v := .agg #[.int .i64 1, .slice (some ⟨g, 0, none⟩) 4 c]) (by simp [results, Try.results11, go_sem, r0, r1]) rfl ⟨g, c, rfl, by omega, put_far A1.out (by omega) _ _, ?_⟩
  exact ((below_on E0.out B1.out).setCell (by show w.heap.size ≤ w.heap.size; omega) _).setCell (by show w.heap.size ≤ w.heap.size; omega) _

theorem shown_math : (Zo.clo 1 (wdM 1 [4] [4] [1, -5, 11, 1]) = [1, -5, 1099511627776, 1] ∧ wdE 1 [4] [4] [1, -5, 11, 1] = 0) ∧ (Zo.clo 1 (wdM 1 [2] [2] [1, -5, 11, 1]) = [1, -4, 1099511627776, 1] ∧ wdE 1 [2] [2] [1, -5, 11, 1] = 0) ∧ (Zo.clo 1 (wdM 1 [9] [2] [1, -5, 11, 1]) = [1, -4, 11, 1] ∧ wdE 1 [9] [2] [1, -5, 11, 1] = 0) ∧ wdE 1 [] [] [1, -5, 11, 1] = 2 := by decide +kernel

set_option maxRecDepth 100000 in
set_option maxHeartbeats 8000000 in
theorem shown6_any (w : World) : Calls Try.prog 5 #[] w (Made (.bool true) w) := by
  have P1 := Lib.hid (fun W => part_1 W)
  have P2 := Lib.hid (fun W => part_2 W)
  have P3 := Lib.hid (fun W => part_3 W)
  have P4 := Lib.hid (fun W => part_4 W)
  have G4 := Lib.hid (show ∀ W ao c a, Arg W ao [1, -5, 11, 1] → Rd W a [4] → Calls Try.prog 6 #[.agg #[.int .i64 1, .slice ao 4 c], .slice (some a) 1 1] W (ZRes W 1 [1, -5, 1099511627776, 1] 0) from fun W ao c a hA hR => by
    have := wgreatest_gen 1 [1, -5, 11, 1] ao c [4] (some a) 1 W hA (fun _ => ⟨a, rfl, hR⟩) (fun q => by cases q) (by simp)
    rw [show Zo.clo (1 : Int).toNat (wdM (1 : Int).toNat [4] [4] [1, -5, 11, 1]) = [1, -5, 1099511627776, 1] from shown_math.1.1, shown_math.1.2] at this
    exact this)
  have G2 := Lib.hid (show ∀ W ao c a, Arg W ao [1, -5, 11, 1] → Rd W a [2] → Calls Try.prog 6 #[.agg #[.int .i64 1, .slice ao 4 c], .slice (some a) 1 1] W (ZRes W 1 [1, -4, 1099511627776, 1] 0) from fun W ao c a hA hR => by
    have := wgreatest_gen 1 [1, -5, 11, 1] ao c [2] (some a) 1 W hA (fun _ => ⟨a, rfl, hR⟩) (fun q => by cases q) (by simp)
    rw [show Zo.clo (1 : Int).toNat (wdM (1 : Int).toNat [2] [2] [1, -5, 11, 1]) = [1, -4, 1099511627776, 1] from shown_math.2.1.1, shown_math.2.1.2] at this
    exact this)
  have BO := Lib.hid (show ∀ W ao c a b, Arg W ao [1, -5, 11, 1] → Rd W a [9] → Rd W b [2] → Calls Try.prog 12 #[.agg #[.int .i64 1, .slice ao 4 c], .slice (some a) 1 1, .slice (some b) 1 1] W (ZRes W 1 [1, -4, 11, 1] 0) from fun W ao c a b hA hR hQ => by
    have := wbounds_gen 1 [1, -5, 11, 1] ao c [9] [2] (some a) (some b) 1 1 W hA (fun _ => ⟨a, rfl, hR⟩) (fun _ => ⟨b, rfl, hQ⟩) (fun q => by cases q) (fun q => by cases q) (by simp) (by simp)
    rw [show Zo.clo (1 : Int).toNat (wdM (1 : Int).toNat [9] [2] [1, -5, 11, 1]) = [1, -4, 11, 1] from shown_math.2.2.1.1, shown_math.2.2.1.2] at this
    exact this)
  have GN := Lib.hid (show ∀ W ao c, Arg W ao [1, -5, 11, 1] → Calls Try.prog 6 #[.agg #[.int .i64 1, .slice ao 4 c], .slice none 0 0] W (fun e w' => e = .returned (.tuple #[.agg #[.int .i64 0, .slice none 0 0], .int .i64 2]) ∧ Below W.heap.size W w') from fun W ao c hA => by
    have := wgreatest_gen 1 [1, -5, 11, 1] ao c [] none 0 W hA (fun q => absurd rfl q) (fun _ => ⟨rfl, rfl⟩) (by simp)
    rw [shown_math.2.2.2] at this
    exact this.mono fun e w' h => h.no (by decide))
  have S1 := Lib.hid (show ∀ W ao ca bo cb, Arg W ao [1, -5, 1099511627776, 1] → Arg W bo [1, -5, 1099511627776, 1] → Calls Try.prog 13 #[.agg #[.int .i64 1, .slice ao 4 ca], .agg #[.int .i64 1, .slice bo 4 cb]] W (Made (.bool true) W) from fun W ao ca bo cb hA hB => by
    have := same_any 1 1 [1, -5, 1099511627776, 1] [1, -5, 1099511627776, 1] ao bo ca cb W hA hB (by decide)
    rw [show smB 1 1 [1, -5, 1099511627776, 1] [1, -5, 1099511627776, 1] = true by decide] at this
    exact this)
  have S2 := Lib.hid (show ∀ W ao ca bo cb, Arg W ao [1, -4, 1099511627776, 1] → Arg W bo [1, -4, 1099511627776, 1] → Calls Try.prog 13 #[.agg #[.int .i64 1, .slice ao 4 ca], .agg #[.int .i64 1, .slice bo 4 cb]] W (Made (.bool true) W) from fun W ao ca bo cb hA hB => by
    have := same_any 1 1 [1, -4, 1099511627776, 1] [1, -4, 1099511627776, 1] ao bo ca cb W hA hB (by decide)
    rw [show smB 1 1 [1, -4, 1099511627776, 1] [1, -4, 1099511627776, 1] = true by decide] at this
    exact this)
  have S3 := Lib.hid (show ∀ W ao ca bo cb, Arg W ao [1, -4, 11, 1] → Arg W bo [1, -4, 11, 1] → Calls Try.prog 13 #[.agg #[.int .i64 1, .slice ao 4 ca], .agg #[.int .i64 1, .slice bo 4 cb]] W (Made (.bool true) W) from fun W ao ca bo cb hA hB => by
    have := same_any 1 1 [1, -4, 11, 1] [1, -4, 11, 1] ao bo ca cb W hA hB (by decide)
    rw [show smB 1 1 [1, -4, 11, 1] [1, -4, 11, 1] = true by decide] at this
    exact this)
  have L4 := Lib.hid (show ∀ w, Rd (w.alloc (.cells #[.int .i64 4] 2)) ⟨w.heap.size, 0, none⟩ [4] from fun w => rd_lit w [4] _)
  have L2 := Lib.hid (show ∀ w, Rd (w.alloc (.cells #[.int .i64 2] 2)) ⟨w.heap.size, 0, none⟩ [2] from fun w => rd_lit w [2] _)
  have L9 := Lib.hid (show ∀ w, Rd (w.alloc (.cells #[.int .i64 9] 2)) ⟨w.heap.size, 0, none⟩ [9] from fun w => rd_lit w [9] _)
  have BB := Lib.hid (show ∀ w, Rd ((w.alloc (.cells #[.int .i64 9] 2)).alloc (.cells #[.int .i64 2] 2)) ⟨w.heap.size, 0, none⟩ [9] ∧ Rd ((w.alloc (.cells #[.int .i64 9] 2)).alloc (.cells #[.int .i64 2] 2)) ⟨w.heap.size + 1, 0, none⟩ [2] ∧ Below w.heap.size w ((w.alloc (.cells #[.int .i64 9] 2)).alloc (.cells #[.int .i64 2] 2)) from fun w => ⟨(rd_lit w [9] _).on (one_more _), by have := rd_lit (w.alloc (.cells #[.int .i64 9] 2)) [2] 2; simpa using this, past_two (Below.refl _ _)⟩)
  go_enter Try.func5, Try.ntmps5
  go_wp2_with fail
  refine (P1.out _).mono ?_
  rintro e w1 ⟨g1, c1, rfl, _, hO, hb⟩
  obtain ⟨v1, hv⟩ : ∃ v1, v1 = w1.alloc (.cells #[.int .i64 1, .slice (some ⟨g1, 0, none⟩) 4 c1] 24) := ⟨_, rfl⟩
  have X1 := Lib.hid (show Two v1 w1.heap.size (.int .i64 1) (.slice (some ⟨g1, 0, none⟩) 4 c1) by rw [hv]; exact Two.made _ _ _ _)
  have A1 := Lib.hid (show Own v1 g1 c1 [1, -5, 11, 1] by rw [hv]; exact hO.alloc _)
  have B1 := Lib.hid (show Below w.heap.size w v1 by rw [hv]; exact hb.alloc hb.size _)
  clear hO hb
  go_upto_region 2 with (fail)
  rw [← hv]
  clear hv
  obtain ⟨b0, b1, b2, b3⟩ := X1.out.facts
  have E1 := Lib.hid (one_more (w1 := v1) (.cells #[.int .i64 4] 2))
  go_wp2_with fail
  refine (G4.out _ _ _ _ (own_below A1.out E1.out).arg (L4.out _)).mono ?_
  intro e w2 hz
  obtain ⟨g2, c2, rfl, _, hO, hb⟩ := hz.ok rfl
  simp only [show [1, -5, 1099511627776, 1].length = 4 from rfl]
  replace hb := below_on E1.out hb
  clear hz E1 b0 b1 b2 b3
  obtain ⟨v2, hv⟩ : ∃ v2, v2 = w2.alloc (.cells #[.int .i64 1, .slice (some ⟨g2, 0, none⟩) 4 c2] 24) := ⟨_, rfl⟩
  have X2 := Lib.hid (show Two v2 w2.heap.size (.int .i64 1) (.slice (some ⟨g2, 0, none⟩) 4 c2) by rw [hv]; exact Two.made _ _ _ _)
  have A2 := Lib.hid (show Own v2 g2 c2 [1, -5, 1099511627776, 1] by rw [hv]; exact hO.alloc _)
  have B2 := Lib.hid (show Below v1.heap.size v1 v2 by rw [hv]; exact hb.alloc hb.size _)
  clear hO hb
  go_upto_region 3 with (fail)
  rw [← hv]
  clear hv
  have X1 := Lib.hid (X1.out.kept B2.out)
  have A1 := Lib.hid (own_below A1.out B2.out)
  obtain ⟨b0, b1, b2, b3⟩ := X1.out.facts
  have E1 := Lib.hid (one_more (w1 := v2) (.cells #[.int .i64 2] 2))
  go_wp2_with fail
  refine (G2.out _ _ _ _ (own_below A1.out E1.out).arg (L2.out _)).mono ?_
  intro e w3 hz
  obtain ⟨g3, c3, rfl, _, hO, hb⟩ := hz.ok rfl
  simp only [show [1, -4, 1099511627776, 1].length = 4 from rfl]
  replace hb := below_on E1.out hb
  clear hz E1 b0 b1 b2 b3
  obtain ⟨v3, hv⟩ : ∃ v3, v3 = w3.alloc (.cells #[.int .i64 1, .slice (some ⟨g3, 0, none⟩) 4 c3] 24) := ⟨_, rfl⟩
  have X3 := Lib.hid (show Two v3 w3.heap.size (.int .i64 1) (.slice (some ⟨g3, 0, none⟩) 4 c3) by rw [hv]; exact Two.made _ _ _ _)
  have A3 := Lib.hid (show Own v3 g3 c3 [1, -4, 1099511627776, 1] by rw [hv]; exact hO.alloc _)
  have B3 := Lib.hid (show Below v2.heap.size v2 v3 by rw [hv]; exact hb.alloc hb.size _)
  clear hO hb
  go_upto_region 4 with (fail)
  rw [← hv]
  clear hv
  have X1 := Lib.hid (X1.out.kept B3.out)
  have A1 := Lib.hid (own_below A1.out B3.out)
  have X2 := Lib.hid (X2.out.kept B3.out)
  have A2 := Lib.hid (own_below A2.out B3.out)
  obtain ⟨b0, b1, b2, b3⟩ := X1.out.facts
  have bb := BB.out v3
  have EB := Lib.hid bb.2.2
  have R9 := Lib.hid bb.1
  have R2 := Lib.hid bb.2.1
  clear bb
  go_wp2_with fail
  refine (BO.out _ _ _ _ _ (own_below A1.out EB.out).arg R9.out R2.out).mono ?_
  intro e w4 hz
  obtain ⟨g4, c4, rfl, _, hO, hb⟩ := hz.ok rfl
  simp only [show [1, -4, 11, 1].length = 4 from rfl]
  replace hb := below_on EB.out hb
  clear hz EB R9 R2 b0 b1 b2 b3
  obtain ⟨v4, hv⟩ : ∃ v4, v4 = w4.alloc (.cells #[.int .i64 1, .slice (some ⟨g4, 0, none⟩) 4 c4] 24) := ⟨_, rfl⟩
  have X4 := Lib.hid (show Two v4 w4.heap.size (.int .i64 1) (.slice (some ⟨g4, 0, none⟩) 4 c4) by rw [hv]; exact Two.made _ _ _ _)
  have A4 := Lib.hid (show Own v4 g4 c4 [1, -4, 11, 1] by rw [hv]; exact hO.alloc _)
  have B4 := Lib.hid (show Below v3.heap.size v3 v4 by rw [hv]; exact hb.alloc hb.size _)
  clear hO hb
  go_upto_region 5 with (fail)
  rw [← hv]
  clear hv
  have X1 := Lib.hid (X1.out.kept B4.out)
  have A1 := Lib.hid (own_below A1.out B4.out)
  have X2 := Lib.hid (X2.out.kept B4.out)
  have A2 := Lib.hid (own_below A2.out B4.out)
  have X3 := Lib.hid (X3.out.kept B4.out)
  have A3 := Lib.hid (own_below A3.out B4.out)
  obtain ⟨b0, b1, b2, b3⟩ := X1.out.facts
  go_wp2_with fail
  refine (GN.out _ _ _ A1.out.arg).mono ?_
  rintro e w5 ⟨rfl, hb⟩
  clear b0 b1 b2 b3 X1 A1
  obtain ⟨v5, hv⟩ : ∃ v5, v5 = w5.alloc (.cells #[.int .i64 0, .slice none 0 0] 24) := ⟨_, rfl⟩
  have B5 := Lib.hid (show Below v4.heap.size v4 v5 by rw [hv]; exact hb.alloc hb.size _)
  clear hb
  go_upto_region 6 with (fail)
  rw [← hv]
  clear hv
  have X2 := Lib.hid (X2.out.kept B5.out)
  have A2 := Lib.hid (own_below A2.out B5.out)
  have X3 := Lib.hid (X3.out.kept B5.out)
  have A3 := Lib.hid (own_below A3.out B5.out)
  have X4 := Lib.hid (X4.out.kept B5.out)
  have A4 := Lib.hid (own_below A4.out B5.out)
  have Q5 := Lib.hid (below_on (below_on (below_on (below_on B1.out B2.out) B3.out) B4.out) B5.out)
  have KS := Lib.hid (show ∀ W, Below v5.heap.size v5 W → (W.cell? ⟨w2.heap.size, 0, none⟩ = some (.int .i64 1) ∧ W.cell? ⟨w2.heap.size, 1, none⟩ = some (.slice (some ⟨g2, 0, none⟩) 4 c2) ∧ W.cell? ⟨w3.heap.size, 0, none⟩ = some (.int .i64 1) ∧ W.cell? ⟨w3.heap.size, 1, none⟩ = some (.slice (some ⟨g3, 0, none⟩) 4 c3) ∧ W.cell? ⟨w4.heap.size, 0, none⟩ = some (.int .i64 1) ∧ W.cell? ⟨w4.heap.size, 1, none⟩ = some (.slice (some ⟨g4, 0, none⟩) 4 c4)) from fun W h => ⟨(X2.out.kept h).facts.1, (X2.out.kept h).facts.2.1, (X3.out.kept h).facts.1, (X3.out.kept h).facts.2.1, (X4.out.kept h).facts.1, (X4.out.kept h).facts.2.1⟩)
  obtain ⟨wc, hwc⟩ : ∃ wc, wc = v5.drew := ⟨_, rfl⟩
  have Bc := Lib.hid (show Below v5.heap.size v5 wc by rw [hwc]; exact (Below.refl _ _).drew)
  refine wp_region_held_drew (S := (fun W => (W.cell? ⟨w2.heap.size, 0, none⟩ = some (.int .i64 1) ∧ W.cell? ⟨w2.heap.size, 1, none⟩ = some (.slice (some ⟨g2, 0, none⟩) 4 c2) ∧ W.cell? ⟨w3.heap.size, 0, none⟩ = some (.int .i64 1) ∧ W.cell? ⟨w3.heap.size, 1, none⟩ = some (.slice (some ⟨g3, 0, none⟩) 4 c3) ∧ W.cell? ⟨w4.heap.size, 0, none⟩ = some (.int .i64 1) ∧ W.cell? ⟨w4.heap.size, 1, none⟩ = some (.slice (some ⟨g4, 0, none⟩) 4 c4)))) (by kernel_rfl) (by rw [← hwc]; exact KS.out _ Bc.out) (fun h0 => ?_)
  rw [← hwc] at h0 ⊢
  clear hwc
  refine wpAnyH_take (i := 0) (v := ?v1) rfl (by kernel_rfl) (by kernel_rfl) (by kernel_rfl) (fun _ _ _ h => h) (Or.inl ⟨by rfl, ?hy1⟩) h0 ?rest1
  case hy1 => (intro w' hS; (try dsimp only at hS); go_simp; try (with_reducible rfl))
  simp only [Act.put, List.getElem_toArray, List.getElem_cons_zero, List.setIfInBounds_toArray, List.set_cons_zero, List.set_cons_succ]
  refine wpAnyH_take (i := 1) (v := ?v2) rfl (by kernel_rfl) (by kernel_rfl) (by kernel_rfl) (fun _ _ _ h => h) (Or.inl ⟨by rfl, ?hy2⟩) h0 ?rest2
  case hy2 => (intro w' hS; (try dsimp only at hS); go_simp; try (with_reducible rfl))
  simp only [Act.put, List.getElem_toArray, List.getElem_cons_zero, List.getElem_cons_succ, List.setIfInBounds_toArray, List.set_cons_zero, List.set_cons_succ]
  refine wpAnyH_take (i := 2) (v := ?v3) rfl (by kernel_rfl) (by kernel_rfl) (by kernel_rfl) (fun _ _ _ h => h) (Or.inl ⟨by rfl, ?hy3⟩) h0 ?rest3
  case hy3 => (intro w' hS; (try dsimp only at hS); go_simp; try (with_reducible rfl))
  simp only [Act.put, List.getElem_toArray, List.getElem_cons_zero, List.getElem_cons_succ, List.setIfInBounds_toArray, List.set_cons_zero, List.set_cons_succ]
  refine wpAnyH_take (i := 3) (v := ?v4) rfl (by kernel_rfl) (by kernel_rfl) (by kernel_rfl) (fun _ _ _ h => h) (Or.inl ⟨by rfl, ?hy4⟩) h0 ?rest4
  case hy4 => (intro w' hS; (try dsimp only at hS); go_simp; try (with_reducible rfl))
  simp only [Act.put, List.getElem_toArray, List.getElem_cons_zero, List.getElem_cons_succ, List.setIfInBounds_toArray, List.set_cons_zero, List.set_cons_succ]
  refine wpAnyH_take (i := 4) (v := ?v5) rfl (by kernel_rfl) (by kernel_rfl) (by kernel_rfl) (fun _ _ _ h => h) (Or.inl ⟨by rfl, ?hy5⟩) h0 ?rest5
  case hy5 => (intro w' hS; (try dsimp only at hS); go_simp; try (with_reducible rfl))
  simp only [Act.put, List.getElem_toArray, List.getElem_cons_zero, List.getElem_cons_succ, List.setIfInBounds_toArray, List.set_cons_zero, List.set_cons_succ]
  refine wpAnyH_take (i := 5) (v := ?v6) rfl (by kernel_rfl) (by kernel_rfl) (by kernel_rfl) (fun _ _ _ h => h) (Or.inl ⟨by rfl, ?hy6⟩) h0 ?rest6
  case hy6 => (intro w' hS; (try dsimp only at hS); go_simp; try (with_reducible rfl))
  simp only [Act.put, List.getElem_toArray, List.getElem_cons_zero, List.getElem_cons_succ, List.setIfInBounds_toArray, List.set_cons_zero, List.set_cons_succ]
  refine wpAnyH_take (i := 6) (v := ?v7) rfl (by kernel_rfl) (by kernel_rfl) (by kernel_rfl) (fun _ _ _ h => h) (Or.inl ⟨by rfl, ?hy7⟩) h0 ?rest7
  case hy7 => (intro w' hS; (try dsimp only at hS); go_simp; try (with_reducible rfl))
  simp only [Act.put, List.getElem_toArray, List.getElem_cons_zero, List.getElem_cons_succ, List.setIfInBounds_toArray, List.set_cons_zero, List.set_cons_succ]
  refine wpAnyH_take (i := 7) (v := ?v8) rfl (by kernel_rfl) (by kernel_rfl) (by kernel_rfl) (fun _ _ _ h => h) (Or.inl ⟨by rfl, ?hy8⟩) h0 ?rest8
  case hy8 => (intro w' hS; (try dsimp only at hS); go_simp; try (with_reducible rfl))
  simp only [Act.put, List.getElem_toArray, List.getElem_cons_zero, List.getElem_cons_succ, List.setIfInBounds_toArray, List.set_cons_zero, List.set_cons_succ]
  refine wpAnyH_take (i := 8) (v := ?v9) rfl (by kernel_rfl) (by kernel_rfl) (by kernel_rfl) (fun _ _ _ h => h) (Or.inl ⟨by rfl, ?hy9⟩) h0 ?rest9
  case hy9 => (intro w' hS; (try dsimp only at hS); go_simp; try (with_reducible rfl))
  simp only [Act.put, List.getElem_toArray, List.getElem_cons_zero, List.getElem_cons_succ, List.setIfInBounds_toArray, List.set_cons_zero, List.set_cons_succ]
  refine wpAnyH_take (i := 9) (v := ?v10) rfl (by kernel_rfl) (by kernel_rfl) (by kernel_rfl) (fun _ _ _ h => h) (Or.inl ⟨by rfl, ?hy10⟩) h0 ?rest10
  case hy10 => (intro w' hS; (try dsimp only at hS); go_simp; try (with_reducible rfl))
  simp only [Act.put, List.getElem_toArray, List.getElem_cons_zero, List.getElem_cons_succ, List.setIfInBounds_toArray, List.set_cons_zero, List.set_cons_succ]
  refine wpAnyH_take (i := 10) (v := ?v11) rfl (by kernel_rfl) (by kernel_rfl) (by kernel_rfl) (fun _ _ _ h => h) (Or.inl ⟨by rfl, ?hy11⟩) h0 ?rest11
  case hy11 => (intro w' hS; (try dsimp only at hS); go_simp; try (with_reducible rfl))
  simp only [Act.put, List.getElem_toArray, List.getElem_cons_zero, List.getElem_cons_succ, List.setIfInBounds_toArray, List.set_cons_zero, List.set_cons_succ]
  refine wpAnyH_take (i := 11) (v := ?v12) rfl (by kernel_rfl) (by kernel_rfl) (by kernel_rfl) (fun _ _ _ h => h) (Or.inl ⟨by rfl, ?hy12⟩) h0 ?rest12
  case hy12 => (intro w' hS; (try dsimp only at hS); go_simp; try (with_reducible rfl))
  simp only [Act.put, List.getElem_toArray, List.getElem_cons_zero, List.getElem_cons_succ, List.setIfInBounds_toArray, List.set_cons_zero, List.set_cons_succ]
  refine wpAnyH_take (i := 12) (v := ?v13) rfl (by kernel_rfl) (by kernel_rfl) (by kernel_rfl) (fun _ _ _ h => h) (Or.inl ⟨by rfl, ?hy13⟩) h0 ?rest13
  case hy13 => (intro w' hS; (try dsimp only at hS); go_simp; try (with_reducible rfl))
  simp only [Act.put, List.getElem_toArray, List.getElem_cons_zero, List.getElem_cons_succ, List.setIfInBounds_toArray, List.set_cons_zero, List.set_cons_succ]
  refine wpAnyH_take (i := 13) (v := ?v14) rfl (by kernel_rfl) (by kernel_rfl) (by kernel_rfl) (fun _ _ _ h => h) (Or.inl ⟨by rfl, ?hy14⟩) h0 ?rest14
  case hy14 => (intro w' hS; (try dsimp only at hS); go_simp; try (with_reducible rfl))
  simp only [Act.put, List.getElem_toArray, List.getElem_cons_zero, List.getElem_cons_succ, List.setIfInBounds_toArray, List.set_cons_zero, List.set_cons_succ]
  refine wpAnyH_take (i := 14) (v := ?v15) rfl (by kernel_rfl) (by kernel_rfl) (by kernel_rfl) (fun _ _ _ h => h) (Or.inl ⟨by rfl, ?hy15⟩) h0 ?rest15
  case hy15 => (intro w' hS; (try dsimp only at hS); go_simp; try (with_reducible rfl))
  simp only [Act.put, List.getElem_toArray, List.getElem_cons_zero, List.getElem_cons_succ, List.setIfInBounds_toArray, List.set_cons_zero, List.set_cons_succ]
  refine wpAnyH_take (i := 15) (v := ?v16) rfl (by kernel_rfl) (by kernel_rfl) (by kernel_rfl) (fun _ _ _ h => h) (Or.inl ⟨by rfl, ?hy16⟩) h0 ?rest16
  case hy16 => (intro w' hS; (try dsimp only at hS); go_simp; try (with_reducible rfl))
  simp only [Act.put, List.getElem_toArray, List.getElem_cons_zero, List.getElem_cons_succ, List.setIfInBounds_toArray, List.set_cons_zero, List.set_cons_succ]
  refine wpAnyH_ready (rs := [16]) (by kernel_rfl) (by simp) (AllReadyH.cons rfl (fun K hK => ?_) AllReadyH.nil)
  rw [if_pos (by rfl)]
  go_simp
  refine (P2.out _).mono ?_
  rintro e wn ⟨gn, cn, rfl, _, hO, hb⟩
  have AN := Lib.hid hO
  clear hO
  have Bc := Lib.hid (below_on Bc.out hb)
  clear hb
  go_simp
  refine hK.out _ _ (KS.out _ Bc.out) (fun h0_1 => ?_)
  clear hK K h0
  refine wpAnyH_ready (rs := [17]) (by kernel_rfl) (by simp) (AllReadyH.cons rfl (fun K hK => ?_) AllReadyH.nil)
  rw [if_pos (by rfl)]
  go_simp
  refine (S1.out _ _ _ _ _ (own_below A2.out Bc.out).arg AN.out.arg).mono ?_
  rintro e wn ⟨rfl, hb⟩
  clear AN
  have Bc := Lib.hid (below_on Bc.out hb)
  clear hb
  go_simp
  refine hK.out _ _ (KS.out _ Bc.out) (fun h0_2 => ?_)
  clear hK K h0_1
  refine wpAnyH_take (i := 18) (v := ?v17) rfl (by kernel_rfl) (by kernel_rfl) (by kernel_rfl) (fun _ _ _ h => h) (Or.inl ⟨by rfl, ?hy17⟩) h0_2 ?rest17
  case hy17 => (intro w' hS; (try dsimp only at hS); go_simp; try (with_reducible rfl))
  simp only [Act.put, List.getElem_toArray, List.getElem_cons_zero, List.getElem_cons_succ, List.setIfInBounds_toArray, List.set_cons_zero, List.set_cons_succ]
  refine wpAnyH_take (i := 19) (v := ?v18) rfl (by kernel_rfl) (by kernel_rfl) (by kernel_rfl) (fun _ _ _ h => h) (Or.inl ⟨by rfl, ?hy18⟩) h0_2 ?rest18
  case hy18 => (intro w' hS; (try dsimp only at hS); go_simp; try (with_reducible rfl))
  simp only [Act.put, List.getElem_toArray, List.getElem_cons_zero, List.getElem_cons_succ, List.setIfInBounds_toArray, List.set_cons_zero, List.set_cons_succ]
  refine wpAnyH_take (i := 20) (v := ?v19) rfl (by kernel_rfl) (by kernel_rfl) (by kernel_rfl) (fun _ _ _ h => h) (Or.inl ⟨by rfl, ?hy19⟩) h0_2 ?rest19
  case hy19 => (intro w' hS; (try dsimp only at hS); go_simp; try (with_reducible rfl))
  simp only [Act.put, List.getElem_toArray, List.getElem_cons_zero, List.getElem_cons_succ, List.setIfInBounds_toArray, List.set_cons_zero, List.set_cons_succ]
  refine wpAnyH_ready (rs := [21]) (by kernel_rfl) (by simp) (AllReadyH.cons rfl (fun K hK => ?_) AllReadyH.nil)
  rw [if_pos (by rfl)]
  go_simp
  refine (P3.out _).mono ?_
  rintro e wn ⟨gn, cn, rfl, _, hO, hb⟩
  have AN := Lib.hid hO
  clear hO
  have Bc := Lib.hid (below_on Bc.out hb)
  clear hb
  go_simp
  refine hK.out _ _ (KS.out _ Bc.out) (fun h0_3 => ?_)
  clear hK K h0_2
  refine wpAnyH_ready (rs := [22]) (by kernel_rfl) (by simp) (AllReadyH.cons rfl (fun K hK => ?_) AllReadyH.nil)
  rw [if_pos (by rfl)]
  go_simp
  refine (S2.out _ _ _ _ _ (own_below A3.out Bc.out).arg AN.out.arg).mono ?_
  rintro e wn ⟨rfl, hb⟩
  clear AN
  have Bc := Lib.hid (below_on Bc.out hb)
  clear hb
  go_simp
  refine hK.out _ _ (KS.out _ Bc.out) (fun h0_4 => ?_)
  clear hK K h0_3
  refine wpAnyH_take (i := 23) (v := ?v20) rfl (by kernel_rfl) (by kernel_rfl) (by kernel_rfl) (fun _ _ _ h => h) (Or.inl ⟨by rfl, ?hy20⟩) h0_4 ?rest20
  case hy20 => (intro w' hS; (try dsimp only at hS); go_simp; try (with_reducible rfl))
  simp only [Act.put, List.getElem_toArray, List.getElem_cons_zero, List.getElem_cons_succ, List.setIfInBounds_toArray, List.set_cons_zero, List.set_cons_succ]
  refine wpAnyH_take (i := 24) (v := ?v21) rfl (by kernel_rfl) (by kernel_rfl) (by kernel_rfl) (fun _ _ _ h => h) (Or.inl ⟨by rfl, ?hy21⟩) h0_4 ?rest21
  case hy21 => (intro w' hS; (try dsimp only at hS); go_simp; try (with_reducible rfl))
  simp only [Act.put, List.getElem_toArray, List.getElem_cons_zero, List.getElem_cons_succ, List.setIfInBounds_toArray, List.set_cons_zero, List.set_cons_succ]
  refine wpAnyH_take (i := 25) (v := ?v22) rfl (by kernel_rfl) (by kernel_rfl) (by kernel_rfl) (fun _ _ _ h => h) (Or.inl ⟨by rfl, ?hy22⟩) h0_4 ?rest22
  case hy22 => (intro w' hS; (try dsimp only at hS); go_simp; try (with_reducible rfl))
  simp only [Act.put, List.getElem_toArray, List.getElem_cons_zero, List.getElem_cons_succ, List.setIfInBounds_toArray, List.set_cons_zero, List.set_cons_succ]
  refine wpAnyH_ready (rs := [26]) (by kernel_rfl) (by simp) (AllReadyH.cons rfl (fun K hK => ?_) AllReadyH.nil)
  rw [if_pos (by rfl)]
  go_simp
  refine (P4.out _).mono ?_
  rintro e wn ⟨gn, cn, rfl, _, hO, hb⟩
  have AN := Lib.hid hO
  clear hO
  have Bc := Lib.hid (below_on Bc.out hb)
  clear hb
  go_simp
  refine hK.out _ _ (KS.out _ Bc.out) (fun h0_5 => ?_)
  clear hK K h0_4
  refine wpAnyH_ready (rs := [27]) (by kernel_rfl) (by simp) (AllReadyH.cons rfl (fun K hK => ?_) AllReadyH.nil)
  rw [if_pos (by rfl)]
  go_simp
  refine (S3.out _ _ _ _ _ (own_below A4.out Bc.out).arg AN.out.arg).mono ?_
  rintro e wn ⟨rfl, hb⟩
  clear AN
  have Bc := Lib.hid (below_on Bc.out hb)
  clear hb
  go_simp
  refine hK.out _ _ (KS.out _ Bc.out) (fun h0_6 => ?_)
  clear hK K h0_5
  refine wpAnyH_take (i := 28) (v := ?v23) rfl (by kernel_rfl) (by kernel_rfl) (by kernel_rfl) (fun _ _ _ h => h) (Or.inl ⟨by rfl, ?hy23⟩) h0_6 ?rest23
  case hy23 => (intro w' hS; (try dsimp only at hS); go_simp; try (with_reducible rfl))
  simp only [Act.put, List.getElem_toArray, List.getElem_cons_zero, List.getElem_cons_succ, List.setIfInBounds_toArray, List.set_cons_zero, List.set_cons_succ]
  refine wpAnyH_take (i := 29) (v := ?v24) rfl (by kernel_rfl) (by kernel_rfl) (by kernel_rfl) (fun _ _ _ h => h) (Or.inl ⟨by rfl, ?hy24⟩) h0_6 ?rest24
  case hy24 => (intro w' hS; (try dsimp only at hS); go_simp; try (with_reducible rfl))
  simp only [Act.put, List.getElem_toArray, List.getElem_cons_zero, List.getElem_cons_succ, List.setIfInBounds_toArray]
  try simp only [List.set_cons_succ]
  try simp only [List.set_cons_zero]
  refine wpAnyH_done (by kernel_rfl) ?_ _
  go_wp2_with fail
  go_ret
  exact ⟨rfl, below_on Q5.out Bc.out⟩
end Go.Proofs.Ytgdcclldgfcilaa

namespace Go.Proofs.Ytgdcclldgfcilaa
open Go.RowKit

/-- A list that came in: one that is nil has no elements. -/
def Src (w : World) (ao : Option Addr) (l : List Int) (cap : Nat) : Prop := Arg w ao l ∧ (ao = none → l = [] ∧ cap = 0)

theorem Src.on {w w' : World} {ao : Option Addr} {l : List Int} {cap : Nat} (h : Src w ao l cap) (hb : Below w.heap.size w w') : Src w' ao l cap := ⟨h.1.on hb, h.2⟩

theorem run_app {t ty e : TypeId} {i0 : TypeInfo} (h1 : Try.prog.underlying t = some (.slice e)) (h2 : Try.prog.info? e = some i0) (h3 : i0.zero = some (.int .i64 0)) (h4 : i0.size = 1) (h5 : i0.bytes = 8)
    {w : World} {b B : Nat} (hown : w.ownsRow B e 1 (.slice (some ⟨b, 0, none⟩) 0 0) 0 []) {ao : Option Addr} {l : List Int} {cap : Nat} (hS : Src w ao l cap) (hl : l.length ≤ 1000) :
    ∃ ao' c' w', (Builtin.append_ #[t, t] ty #[.slice (some ⟨b, 0, none⟩) 0 0, .slice ao l.length cap]).run Try.prog w = .ok (.slice ao' l.length c') w' ∧ Src w' ao' l c' ∧ (∀ d, ao' = some d → (d.block = b ∨ w.heap.size ≤ d.block) ∧ d.block < w'.heap.size) ∧ w.grownBy w' (some b) := by
  have hb := (World.ownsRow.lt hown b rfl).2
  have kOf : ∀ {w' : World} {g c : Nat}, w'.ownsRow 0 e 1 (.slice (some ⟨g, 0, none⟩) l.length c) l.length (l.map (Value.int .i64)) → Src w' (some ⟨g, 0, none⟩) l c := fun {_ _ _} r1 =>
    ⟨fun _ => ⟨_, rfl, fun j hj => by
      have := World.ownsRow.cellAt r1 j (by simpa using hj)
      rw [addr_add, this]; simp [Zo.gt, hj]⟩, fun q => by cases q⟩
  cases ao with
  | none =>
    obtain ⟨rfl, rfl⟩ := hS.2 rfl
    refine ⟨some ⟨b, 0, none⟩, 0, w, run_append_owned_none w B t ty e i0 1 h1 h2 _ _ _ hown, ⟨fun q => absurd rfl q, fun q => by cases q⟩, fun d hd => ?_, World.grownBy.refl _ _⟩
    injection hd with hd
    rw [← hd]
    exact ⟨Or.inl rfl, hb⟩
  | some a =>
    by_cases c : l = []
    · subst c
      obtain ⟨w', hrun, r1, r2⟩ := run_append_fits (P := Try.prog) w B t ty e i0 1 h1 h2 h4 b 0 0 [] hown a 0 cap [] rfl (by intro j u q; simp at q) (by simp) (by omega)
      refine ⟨some ⟨b, 0, none⟩, 0, w', hrun, ⟨fun q => absurd rfl q, fun q => by cases q⟩, fun d hd => ?_, r2⟩
      injection hd with hd
      rw [← hd]
      exact ⟨Or.inl rfl, Nat.lt_of_lt_of_le hb r2.size⟩
    · have hr : ∀ j u, (l.map (Value.int .i64))[j]? = some u → w.cell? (a.add j) = some u := by
        obtain ⟨a', e', h⟩ := hS.1 c
        injection e' with e'
        subst e'
        exact h.map
      have hp : 0 < l.length := List.length_pos_iff.2 c
      obtain ⟨v', w', hrun, r1, r2⟩ := run_append_arg_grows (P := Try.prog) w t ty e i0 (.int .i64 0) 1 8 h1 h2 h3 h4 h5 rfl (by decide) ⟨b, 0, none⟩ 0 0 [] rfl (by intro j u q; simp at q) a l.length cap (l.map (Value.int .i64)) (by simp) hr (by omega) (by unfold maxLen; omega) (by omega)
      rw [show ([] : List Value) ++ l.map (Value.int .i64) = l.map (Value.int .i64) from rfl, Nat.zero_add] at r1
      obtain ⟨g, c', rfl⟩ := Joins.ownsRow_form r1 hp
      have hlt := World.ownsRow.lt r1 g rfl
      refine ⟨some ⟨g, 0, none⟩, c', w', hrun, kOf ?_, fun d hd => ?_, ⟨r2.os, r2.tape, r2.output, r2.size, fun k hk _ => r2.block k hk (by simp)⟩⟩
      · exact World.ownsRow.mono r1 (Nat.zero_le _)
      · injection hd with hd
        rw [← hd]
        exact ⟨Or.inr hlt.1, hlt.2⟩

/-- A new list of no elements at block b. -/
def Emp (w : World) (B : Nat) (e : TypeId) (b : Nat) : Prop := w.ownsRow B e 1 (.slice (some ⟨b, 0, none⟩) 0 0) 0 []

theorem Emp.made (w : World) (B : Nat) (e : TypeId) (hB : B ≤ w.heap.size) : Emp (w.alloc (.cells #[] e)) B e w.heap.size := World.ownsRow_made w #[] 0 hB (Nat.zero_le _) (by simp)

theorem Emp.on {w w' : World} {B b : Nat} {e : TypeId} (h : Emp w B e b) (hb : Below w.heap.size w w') : Emp w' B e b := World.ownsRow.kept h (grown_of_below (r := none) hb) (Or.inr (by simp [Value.ownBlock]))

theorem Emp.grown {w w' : World} {B b g : Nat} {e : TypeId} (h : Emp w B e b) (hg : w.grownBy w' (some g)) (hne : b ≠ g) : Emp w' B e b := World.ownsRow.kept h hg (Or.inr (by simpa [Value.ownBlock] using hne))

theorem Src.grown {w w' : World} {ao : Option Addr} {l : List Int} {cap g : Nat} (h : Src w ao l cap) (hg : w.grownBy w' (some g)) (hne : ∀ d, ao = some d → d.block ≠ g) : Src w' ao l cap := ⟨fun hl => by
  obtain ⟨a, e, hr⟩ := h.1 hl
  exact ⟨a, e, hr.grown hg (fun _ => hne a e)⟩, h.2⟩

theorem Src.aside {w : World} {ao : Option Addr} {l : List Int} {cap x : Nat} (h : Src w ao l cap) (hne : ∀ d, ao = some d → d.block ≠ x) (u v : Value) : Src ((w.setCell ⟨x, 0, none⟩ u).setCell ⟨x, 1, none⟩ v) ao l cap := ⟨arg_far' h.1 hne u v, h.2⟩

theorem below_app {w0 w w' : World} {b : Nat} (h : Below w0.heap.size w0 w) (hg : w.grownBy w' (some b)) (hb : w0.heap.size ≤ b) : Below w0.heap.size w0 w' := grown_over h hg hb
end Go.Proofs.Ytgdcclldgfcilaa

namespace Go.Proofs.Ytgdcclldgfcilaa
open Go.RowKit

def OwnJ (w : World) (g cap : Nat) (l : List Int) : Prop := w.ownsRow 0 2 1 (.slice (some ⟨g, 0, none⟩) l.length cap) l.length (l.map (Value.int .i64))

theorem OwnJ.rd {w : World} {g cap : Nat} {l : List Int} (h : OwnJ w g cap l) : Rd w ⟨g, 0, none⟩ l := by
  intro j hj
  have := World.ownsRow.cellAt h j (by simpa using hj)
  rw [addr_add, this]; simp [Zo.gt, hj]

theorem OwnJ.lt {w : World} {g cap : Nat} {l : List Int} (h : OwnJ w g cap l) : g < w.heap.size := (World.ownsRow.lt h g rfl).2

theorem OwnJ.arg {w : World} {g c : Nat} {l : List Int} (h : OwnJ w g c l) : Arg w (some ⟨g, 0, none⟩) l := fun _ => ⟨_, rfl, h.rd⟩

theorem OwnJ.on {w w' : World} {g cap : Nat} {l : List Int} (h : OwnJ w g cap l) (hb : Below w.heap.size w w') : OwnJ w' g cap l := World.ownsRow.kept h (grown_of_below (r := none) hb) (Or.inr (by simp [Value.ownBlock]))

theorem OwnJ.grown {w w' : World} {g b cap : Nat} {l : List Int} (h : OwnJ w g cap l) (hg : w.grownBy w' (some b)) (hne : g ≠ b) : OwnJ w' g cap l := World.ownsRow.kept h hg (Or.inr (by simpa [Value.ownBlock] using hne))

theorem OwnJ.get {w : World} {g c : Nat} {l : List Int} (h : OwnJ w g c l) {k : Nat} (hk : k < l.length) : w.cell? ⟨g, k, none⟩ = some (.int .i64 (Zo.gt l k)) ∧ w.frozen? ⟨g, k, none⟩ = false := by
  refine ⟨?_, World.ownsRow.frozenAt h k⟩
  have := h.rd k hk
  rwa [addr_add] at this

theorem OwnJ.put {w : World} {g cap : Nat} {l : List Int} (h : OwnJ w g cap l) (j : Nat) (x : Int) : OwnJ (w.setCell ⟨g, j, none⟩ (.int .i64 x)) g cap (l.set j x) ∧ w.grownBy (w.setCell ⟨g, j, none⟩ (.int .i64 x)) (some g) := by
  obtain ⟨h1, h2⟩ := World.ownsRow.stored h j (.int .i64 x)
  refine ⟨?_, h2⟩
  unfold OwnJ
  rw [List.length_set, List.map_set]
  exact h1

theorem run_own {w : World} {t : TypeId} {i0 : TypeInfo} (h1 : Try.prog.underlying t = some (.slice 2)) (h2 : Try.prog.info? 2 = some i0) (h3 : i0.zero = some (.int .i64 0)) (h4 : i0.size = 1) (h5 : i0.bytes = 8)
    {ao : Option Addr} {l : List Int} {cap : Nat} (hS : Src w ao l cap) (hl : l.length ≤ 1000) :
    ∃ g c w', (Builtin.append_ #[t, t] t #[.slice (some ⟨w.heap.size, 0, none⟩) 0 0, .slice ao l.length cap]).run Try.prog (w.alloc (.cells #[] 2)) = .ok (.slice (some ⟨g, 0, none⟩) l.length c) w' ∧ OwnJ w' g c l ∧ w.heap.size ≤ g ∧ Below w.heap.size w w' := by
  have hown := Emp.made w w.heap.size 2 (Nat.le_refl _)
  have hB : w.heap.size ≤ (w.alloc (.cells #[] 2)).heap.size := by simp
  have hb1 := one_more (w1 := w) (.cells #[] 2)
  have hS1 := hS.on hb1
  have low : ∀ {w' : World} {r : Option Nat} (_ : (w.alloc (.cells #[] 2)).grownBy w' r) (_ : r = none ∨ r = some w.heap.size), Below w.heap.size w w' := fun {w' r} hg hr => by
    refine hb1.trans ⟨hg.os, hg.tape, hg.output, hg.size, fun k hk => hg.block k (by simp; omega) ?_⟩
    rcases hr with rfl | rfl
    · simp
    · simp; omega
  cases ao with
  | none =>
    obtain ⟨rfl, rfl⟩ := hS.2 rfl
    exact ⟨w.heap.size, 0, _, run_append_owned_none _ w.heap.size t t _ i0 1 h1 h2 _ _ _ hown, World.ownsRow.mono hown (Nat.zero_le _), Nat.le_refl _, hb1⟩
  | some a =>
    by_cases c : l = []
    · subst c
      obtain ⟨w', hrun, r1, r2⟩ := run_append_fits (P := Try.prog) _ w.heap.size t t _ i0 1 h1 h2 h4 w.heap.size 0 0 [] hown a 0 cap [] rfl (by intro j u q; simp at q) (by simp) (by omega)
      exact ⟨w.heap.size, 0, w', hrun, World.ownsRow.mono r1 (Nat.zero_le _), Nat.le_refl _, low r2 (Or.inr rfl)⟩
    · have hr : ∀ j u, (l.map (Value.int .i64))[j]? = some u → (w.alloc (.cells #[] 2)).cell? (a.add j) = some u := by
        obtain ⟨a', e', h⟩ := hS1.1 c
        injection e' with e'
        subst e'
        exact h.map
      have hp : 0 < l.length := List.length_pos_iff.2 c
      obtain ⟨v', w', hrun, r1, r2⟩ := run_append_arg_grows (P := Try.prog) _ t t _ i0 (.int .i64 0) 1 8 h1 h2 h3 h4 h5 rfl (by decide) ⟨w.heap.size, 0, none⟩ 0 0 [] rfl (by intro j u q; simp at q) a l.length cap (l.map (Value.int .i64)) (by simp) hr (by omega) (by unfold maxLen; omega) (by omega)
      rw [show ([] : List Value) ++ l.map (Value.int .i64) = l.map (Value.int .i64) from rfl, Nat.zero_add] at r1
      obtain ⟨g, c', rfl⟩ := Joins.ownsRow_form r1 hp
      have hlt := World.ownsRow.lt r1 g rfl
      exact ⟨g, c', w', hrun, World.ownsRow.mono r1 (Nat.zero_le _), by have := hlt.1; simp at this; omega, low r2 (Or.inl rfl)⟩

def imax (x y : Int) : Int := max x y

theorem run_imax (x y : Int) (ts : Array TypeId) (t : TypeId) (W : World) : (Builtin.max_ ts t #[.int .i64 x, .int .i64 y]).run Try.prog W = .ok (.int .i64 (imax x y)) W := by
  rw [run_max_int2]; unfold imax
  congr 2
  split
  · rw [Int.max_eq_right (by omega)]
  · rw [Int.max_eq_left (by omega)]
end Go.Proofs.Ytgdcclldgfcilaa

namespace Go.Proofs.Ytgdcclldgfcilaa
open Go.RowKit

def reG (N : Int) (l : List Int) (i c : Int) : Int := if chkE N l = 0 ∧ 1 ≤ i ∧ i ≤ N ∧ cnB c = true then reE N.toNat i.toNat c l else 2

def cyL (n i j : Nat) (l : List Int) : List Int := Zo.clo n (anL n (isC i j 0) (reM n i l))

def cyE (n i j : Nat) (l : List Int) : Int := if cloE n (frL n i l) = 0 then anG n (isC i j 0) (reM n i l) else cloE n (frL n i l)

def cyM (n i j : Nat) (l : List Int) : List Int := if i = j then l else cyL n i j l

def cyG (N : Int) (l : List Int) (i j : Int) : Int := if chkE N l = 0 ∧ 1 ≤ i ∧ i ≤ N ∧ 0 ≤ j ∧ j ≤ N then (if i = j then 0 else cyE N.toNat i.toNat j.toNat l) else 2
end Go.Proofs.Ytgdcclldgfcilaa

namespace Go.Proofs.Ytgdcclldgfcilaa
open Go.RowKit

theorem okC_parts {n : Nat} {c : Con} (h : okC n c = true) : c.1.toNat ≤ n ∧ c.2.1.toNat ≤ n ∧ Zo.Vl c.2.2 := by
  unfold okC at h
  simp only [Bool.and_eq_true, decide_eq_true_eq] at h
  exact ⟨by omega, by omega, vl_of_lv h.2⟩

theorem anS_len (n : Nat) (cs : List Con) (x : List Int) (t : Nat) : (anS n cs x t).length = x.length := by simp [anS]

theorem anS_at {n : Nat} {cs : List Con} {x : List Int} {t : Nat} (hx : x.length = (n + 1) * (n + 1)) (h : okC n (gc cs t) = true) {a b : Nat} (hb : b ≤ n) :
    Zo.At n (anS n cs x t) a b = if a = (gc cs t).1.toNat ∧ b = (gc cs t).2.1.toNat then imin (Zo.At n x (gc cs t).1.toNat (gc cs t).2.1.toNat) (gc cs t).2.2 else Zo.At n x a b := by
  obtain ⟨p1, p2, _⟩ := okC_parts h
  unfold anS
  rw [Zo.At_set hx p1 p2 _ hb]

theorem an_len (n : Nat) (cs : List Con) (u : List Int) (s : Nat) : ((List.range s).foldl (anS n cs) u).length = u.length := fold_len (anS_len n cs) u s

theorem an_le {n : Nat} {cs : List Con} (hok : ∀ t, t < cs.length → okC n (gc cs t) = true) {u : List Int} (hu : u.length = (n + 1) * (n + 1)) : ∀ s, s ≤ cs.length → Zo.Le n ((List.range s).foldl (anS n cs) u) u := by
  intro s
  induction s with
  | zero => intro _ a b _ _; exact Int.le_refl _
  | succ s ih =>
    intro hs a b ha hb
    obtain ⟨p1, p2, _⟩ := okC_parts (hok s (by omega))
    rw [Zo.fold_succ]
    exact Int.le_trans (Zo.set_le (by rw [an_len, hu]) p1 p2 _ hb) (ih (by omega) a b ha hb)

theorem an_at {n : Nat} {cs : List Con} (hok : ∀ t, t < cs.length → okC n (gc cs t) = true) {u : List Int} (hu : u.length = (n + 1) * (n + 1)) : ∀ s, s ≤ cs.length → ∀ t, t < s → Zo.At n ((List.range s).foldl (anS n cs) u) (gc cs t).1.toNat (gc cs t).2.1.toNat ≤ (gc cs t).2.2 := by
  intro s
  induction s with
  | zero => intro _ t ht; omega
  | succ s ih =>
    intro hs t ht
    obtain ⟨p1, p2, _⟩ := okC_parts (hok s (by omega))
    obtain ⟨q1, q2, _⟩ := okC_parts (hok t (by omega))
    rw [Zo.fold_succ]
    by_cases e : t = s
    · subst e
      rw [anS_at (by rw [an_len, hu]) (hok t (by omega)) p2, if_pos ⟨rfl, rfl⟩]
      unfold imin; omega
    · exact Int.le_trans (Zo.set_le (by rw [an_len, hu]) p1 p2 _ q2) (ih (by omega) t (by omega))

theorem an_T {n : Nat} {cs : List Con} (hok : ∀ t, t < cs.length → okC n (gc cs t) = true) {u v c : List Int} (hu : u.length = (n + 1) * (n + 1)) (hv : v.length = (n + 1) * (n + 1)) (h1 : Zo.Le n c u) (h2 : Zo.Le n c (anL n cs v)) : Zo.Le n c (anL n cs u) := by
  have hL : ∀ t, t < cs.length → Zo.At n c (gc cs t).1.toNat (gc cs t).2.1.toNat ≤ (gc cs t).2.2 := fun t ht => by
    obtain ⟨q1, q2, _⟩ := okC_parts (hok t ht)
    exact Int.le_trans (h2 _ _ q1 q2) (an_at hok hv cs.length (Nat.le_refl _) t ht)
  have : ∀ s, s ≤ cs.length → Zo.Le n c ((List.range s).foldl (anS n cs) u) := by
    intro s
    induction s with
    | zero => intro _; exact h1
    | succ s ih =>
      intro hs a b ha hb
      obtain ⟨p1, p2, _⟩ := okC_parts (hok s (by omega))
      rw [Zo.fold_succ]
      rw [anS_at (by rw [an_len, hu]) (hok s (by omega)) hb]
      split
      · rename_i e
        have g1 := ih (by omega) a b ha hb
        have g2 := hL s (by omega)
        rw [← e.1, ← e.2] at g2 ⊢
        unfold imin
        omega
      · exact ih (by omega) a b ha hb
  exact this cs.length (Nat.le_refl _)

theorem an_wl {n : Nat} {cs : List Con} (hok : ∀ t, t < cs.length → okC n (gc cs t) = true) {u : List Int} (hu : u.length = (n + 1) * (n + 1)) (h : ∀ a b, a ≤ n → b ≤ n → Zo.Wl (Zo.At n u a b)) : ∀ a b, a ≤ n → b ≤ n → Zo.Wl (Zo.At n (anL n cs u) a b) := by
  have : ∀ s, s ≤ cs.length → ∀ a b, a ≤ n → b ≤ n → Zo.Wl (Zo.At n ((List.range s).foldl (anS n cs) u) a b) := by
    intro s
    induction s with
    | zero => intro _; exact h
    | succ s ih =>
      intro hs a b ha hb
      obtain ⟨p1, p2, p3⟩ := okC_parts (hok s (by omega))
      rw [Zo.fold_succ]
      rw [anS_at (by rw [an_len, hu]) (hok s (by omega)) hb]
      split
      · have := ih (by omega) _ _ p1 p2
        unfold imin
        unfold Zo.Vl at p3
        unfold Zo.Wl at *
        omega
      · exact ih (by omega) a b ha hb
  exact this cs.length (Nat.le_refl _)

/-- Closed, constrained and closed again. -/
theorem an_twice {n : Nat} {cs : List Con} {x : List Int} (hn : n ≤ 10) (hok : ∀ t, t < cs.length → okC n (gc cs t) = true) (hx : x.length = (n + 1) * (n + 1)) (hv : ∀ a b, a ≤ n → b ≤ n → Zo.Wl (Zo.At n x a b)) (hz : cloE n x = 0) :
    cloE n (anL n cs (Zo.clo n x)) = cloE n (anL n cs x) ∧ (cloE n (anL n cs x) = 0 → Zo.clo n (anL n cs (Zo.clo n x)) = Zo.clo n (anL n cs x)) := by
  obtain ⟨_, hr⟩ := cloE_zero.1 hz
  have lx : (Zo.clo n x).length = (n + 1) * (n + 1) := by rw [Zo.clo_length, hx]
  obtain ⟨t1, t2⟩ := Zo.clo_twice (T := anL n cs) hn hx hv (fun u => anL_len n cs u) (fun u hu => an_le hok hu cs.length (Nat.le_refl _)) (fun u v c hu hv => an_T hok hu hv) (an_wl hok hx hv) (an_wl hok lx (wl_of lx hr))
  rw [← cloB_iff, ← cloB_iff] at t1
  rw [← cloB_iff] at t2
  constructor
  · cases hb : cloB n (anL n cs x)
    · have e := t2 hb
      unfold cloE
      rw [hb, t1.1 hb, e]
    · have hb2 : cloB n (anL n cs (Zo.clo n x)) = true := by
        cases h : cloB n (anL n cs (Zo.clo n x))
        · rw [t1.2 h] at hb; cases hb
        · rfl
      unfold cloE
      rw [hb, hb2]; rfl
  · intro h
    exact (t2 (cloE_zero.1 h).1).symm

theorem isC_ok {n i j : Nat} {c : Int} (hi : i ≤ n) (hj : j ≤ n) (h0 : 0 ≤ c) (h1 : c ≤ 1048576) : ∀ t, t < (isC i j c).length → okC n (gc (isC i j c) t) = true := by
  intro t ht
  have : t = 0 ∨ t = 1 := by simp [isC] at ht; omega
  rcases this with rfl | rfl
  · simp [gc, isC, okC, lvB]; omega
  · simp [gc, isC, okC, lvB]; omega

theorem okC_all {n : Nat} {cs : List Con} (h : ∀ t, t < cs.length → okC n (gc cs t) = true) : cs.all (okC n) = true := by
  rw [List.all_eq_true]
  intro x hx
  obtain ⟨k, hk, rfl⟩ := List.getElem_of_mem hx
  have := h k hk
  simpa [gc, hk] using this

/-- Free and then constraints, in one closing. -/
theorem free_and {n i : Nat} {cs : List Con} {l : List Int} (hn : n ≤ 10) (hl : l.length = (n + 1) * (n + 1)) (hc : chkE n l = 0) (h1 : 1 ≤ i) (hi : i ≤ n) (hok : ∀ t, t < cs.length → okC n (gc cs t) = true) :
    (if cloE n (frL n i l) = 0 then anG n cs (reM n i l) else cloE n (frL n i l)) = cloE n (anL n cs (rlL n i l)) ∧
      (cloE n (anL n cs (rlL n i l)) = 0 → Zo.clo n (anL n cs (reM n i l)) = Zo.clo n (anL n cs (rlL n i l))) := by
  obtain ⟨e, hz⟩ := fr_zone hn hl hc h1 hi
  have lf : (frL n i l).length = (n + 1) * (n + 1) := by rw [frL_len, hl]
  have lr : (rlL n i l).length = (n + 1) * (n + 1) := by rw [rlL_len, hl]
  have vl := vl_of hl (chk_64 hc).2
  have rv : ∀ a b, a ≤ n → b ≤ n → Zo.Wl (Zo.At n (rlL n i l) a b) := by
    intro a b ha hb
    rw [rlL_at hl hi ha hb]
    split
    · exact Or.inl rfl
    · exact (vl a b ha hb).wl
  have hp := fr_pre hl hi hc
  have hz2 : cloE n (rlL n i l) = 0 := by rw [cloE_pre hp]; exact hz
  have hre : reM n i l = Zo.clo n (rlL n i l) := by unfold reM; rw [Zo.clo_pre hp]
  have hck : chkE n (reM n i l) = 0 := by rw [hre]; exact clo_chk hn lr rv hz2
  obtain ⟨t1, t2⟩ := an_twice hn hok lr rv hz2
  rw [if_pos hz]
  constructor
  · unfold anG anE
    rw [if_pos hck]
    simp only [Int.toNat_natCast]
    rw [okC_all hok, if_pos rfl, hre, t1]
  · intro h
    rw [hre]; exact t2 h
end Go.Proofs.Ytgdcclldgfcilaa

namespace Go.Proofs.Ytgdcclldgfcilaa
open Go.RowKit

def twB (N M : Int) (l m : List Int) : Bool := decide (chkE N l = 0) && decide (chkE M m = 0) && decide (N = M)

/-- Two boxed zones. -/
theorem two_boxes (w : World) (u v x y : Value) (t : TypeId) : Two ((w.alloc (.cells #[u, v] t)).alloc (.cells #[x, y] t)) w.heap.size u v ∧ Two ((w.alloc (.cells #[u, v] t)).alloc (.cells #[x, y] t)) (w.heap.size + 1) x y := by
  refine ⟨(Two.made _ _ _ _).alloc _, ?_⟩
  have := Two.made (w.alloc (.cells #[u, v] t)) x y t
  simpa using this

theorem tw_no {N M : Int} {l m : List Int} (h : twB N M l m = false) : ¬ (chkE N l = 0 ∧ chkE M m = 0 ∧ N = M) := by
  rintro ⟨a, b, c⟩
  subst c
  simp [twB, a, b] at h

theorem tw_yes {N M : Int} {l m : List Int} (h : twB N M l m = true) : chkE N l = 0 ∧ chkE M m = 0 ∧ N = M := by
  unfold twB at h; simp at h; exact ⟨h.1.1, h.1.2, h.2⟩

def inB (l m : List Int) : Bool := (List.range l.length).all fun k => decide (Zo.gt m k ≤ Zo.gt l k)

def inR (N M : Int) (l m : List Int) : Bool := twB N M l m && inB l m

def inE (N M : Int) (l m : List Int) : Int := if twB N M l m then 0 else 2
end Go.Proofs.Ytgdcclldgfcilaa
