/- A part. -/
import Derived.Test.YthjapmdfcbngmaaGreatWr11
import Derived.Test.YthjapmdfcbngmaaGreatWr9
import Derived.Test.YthjapmdfcbngmaaGreatWr19
import Derived.Test.YthjapmdfcbngmaaGreatWr20
namespace Go.Proofs.YthjapmdfcbngmaaGreat
set_option maxHeartbeats 2000000
open Go.RowKit
def chC (x : Dl) (b : Bool) : Array Value := #[.int .i64 x.ln, .int .i64 x.ld, .int .i64 x.hn, .int .i64 x.hd, .bool x.lo, .bool x.ho, .bool x.nh, .bool b]
theorem Bx.put {w : World} {b : Nat} {A : Array Value} (h : Bx w b A) (k : Nat) (v : Value) : Bx (w.setCell ⟨b, k, none⟩ v) b (A.setIfInBounds k v) := by
 obtain ⟨t, h⟩ := h
 refine ⟨t, ?_⟩
 rw [heap_setCell_same w b _ _ _ _ h]
theorem Bx.free {w : World} {b : Nat} {A : Array Value} (h : Bx w b A) (k : Nat) : w.frozen? ⟨b, k, none⟩ = false := by
 obtain ⟨t, h⟩ := h
 exact frozen_of_row w b k _ _ h
def ChR (w : World) (b : Nat) (A : Array Value) (e : Ending) (w' : World) : Prop := e = .returned (.tuple #[]) ∧ w.grownBy w' (some b) ∧ Bx w' b A
def cmK (n d m c : Int) : Int := if vldB n d && vldB m c then sgn (n * c) (m * d) else 0
def moL (x : Dl) (n d : Int) (o : Bool) : Dl := if x.nh || decide (cmK n d x.hn x.hd < 0) then { x with hn := n, hd := d, ho := o, nh := false } else if cmK n d x.hn x.hd = 0 then { x with ho := x.ho || o } else x
def leL (x : Dl) (n d : Int) (o : Bool) : Dl := if 0 < cmK n d x.ln x.ld then { x with ln := n, ld := d, lo := o } else if cmK n d x.ln x.ld = 0 then { x with lo := x.lo || o } else x
theorem grown_of {w w' : World} {c : Nat} (hb : Below w.heap.size w w') : w.grownBy w' (some c) := ⟨hb.os, hb.tape, hb.output, hb.size, fun k hk _ => hb.block k hk⟩
set_option maxRecDepth 100000 in
theorem most_any (x : Dl) (n d : Int) (o bd : Bool) (c : Nat) (w : World) (hn : I64 n) (hd : I64 d) (hx : x.Ok) (hc : Bx w c (chC x bd)) :
  Calls Tryz.prog 151 #[.pointer (some ⟨c, 0, none⟩), .agg #[.int .i64 n, .int .i64 d], .bool o] w (ChR w c (chC (moL x n d o) bd)) := by
 have CM := Lib.hid (fun W => refCmp_any n d x.hn x.hd W hn hd hx.2.2.1 hx.2.2.2)
 obtain ⟨w0, hw0⟩ : ∃ w0, w0 = w.alloc (.cells #[.int .i64 n, .int .i64 d] 45) := ⟨_, rfl⟩
 have PB := Lib.hid (show Pair w0 w.heap.size n d by rw [hw0]; exact Pair.made _ _ _ _)
 have BC := Lib.hid (show Bx w0 c (chC x bd) by rw [hw0]; exact hc.kept (one_more _))
 have B0 := Lib.hid (show Below w.heap.size w w0 by rw [hw0]; exact one_more _)
 have HLT := hc.lt
 obtain ⟨k, hk⟩ : ∃ k, k = cmK n d x.hn x.hd := ⟨_, rfl⟩
 have HK := Lib.hid hk
 obtain ⟨er, her⟩ : ∃ er : Int, er = (if (vldB n d && vldB x.hn x.hd) then 0 else 2) := ⟨_, rfl⟩
 have CM2 := Lib.hid (show ∀ W, Calls Tryz.prog 78 #[.agg #[.int .i64 n, .int .i64 d], .agg #[.int .i64 x.hn, .int .i64 x.hd]] W (Made (.tuple #[.int .i64 k, .int .i64 er]) W) from fun W => by rw [hk, her]; exact CM.out W)
 clear CM hk her hc
 go_enter Tryz.func151, Tryz.ntmps151
 go_upto_region 1 with (fail)
 rw [← hw0]
 clear hw0
 have KS := Lib.hid (show ∀ W, Below w0.heap.size w0 W → (W.cell? ⟨w.heap.size, 0, none⟩ = some (.int .i64 n) ∧ W.cell? ⟨w.heap.size, 1, none⟩ = some (.int .i64 d) ∧ W.cell? ⟨c, 2, none⟩ = some (.int .i64 x.hn) ∧ W.cell? ⟨c, 3, none⟩ = some (.int .i64 x.hd)) from fun W h => ⟨((PB.out.kept h).facts).1, ((PB.out.kept h).facts).2.1, (BC.out.kept h).cell 2, (BC.out.kept h).cell 3⟩)
 obtain ⟨wc, hwc⟩ : ∃ wc, wc = w0.drew := ⟨_, rfl⟩
 have Bc := Lib.hid (show Below w0.heap.size w0 wc by rw [hwc]; exact (Below.refl _ _).drew)
 refine wp_region_held_drew (S := (fun W => (W.cell? ⟨w.heap.size, 0, none⟩ = some (.int .i64 n) ∧ W.cell? ⟨w.heap.size, 1, none⟩ = some (.int .i64 d) ∧ W.cell? ⟨c, 2, none⟩ = some (.int .i64 x.hn) ∧ W.cell? ⟨c, 3, none⟩ = some (.int .i64 x.hd)))) (by kernel_rfl) (by rw [← hwc]; exact KS.out _ Bc.out) (fun h0 => ?_)
 rw [← hwc] at h0 ⊢
 clear hwc
 refine tkI (i := 0) rfl h0 ?_
 simp only [Act.put, sA, sB, sD, sE, sF]
 refine tkI (i := 1) rfl h0 ?_
 simp only [Act.put, sZ]
 refine tkI (i := 2) rfl h0 ?_
 simp only [Act.put, sZ]
 refine tkI (i := 3) rfl h0 ?_
 simp only [Act.put, sZ]
 refine tkI (i := 4) rfl h0 ?_
 simp only [Act.put, sZ]
 refine tkI (i := 5) rfl h0 ?_
 simp only [Act.put, sZ]
 refine wpAnyH_ready (rs := [6]) (by kernel_rfl) (by simp) (AllReadyH.cons rfl (fun K hK => ?_) AllReadyH.nil)
 rw [if_pos (by rfl)]
 go_simp
 refine (CM2.out _).mono ?_
 rintro e wc ⟨rfl, hb⟩
 have Bc := Lib.hid (below_on Bc.out hb)
 clear hb
 go_simp
 refine hK.out _ _ (KS.out _ Bc.out) (fun h0_1 => ?_)
 clear hK K h0
 refine tkI (i := 7) rfl h0_1 ?_
 simp only [Act.put, sZ]
 refine tkI (i := 8) rfl h0_1 ?_
 simp only [Act.put, sZ]
 refine tkI (i := 9) rfl h0_1 ?_
 simp only [Act.put, sZ]
 refine tkI (i := 10) rfl h0_1 ?_
 simp only [Act.put, sZ]
 refine tkI (i := 11) rfl h0_1 ?_
 simp only [Act.put, sA, sB, sC, sD]
 refine wpAnyH_done (by kernel_rfl) ?_ _
 clear KS CM2
 have PW := Lib.hid (PB.out.kept Bc.out)
 have BW := Lib.hid (BC.out.kept Bc.out)
 have Q0 := Lib.hid (below_on B0.out Bc.out)
 obtain ⟨p0, p1, _, _⟩ := PW.out.facts
 have c0 := BW.out.cell 0
 have z0 := BW.out.free 0
 have c1 := BW.out.cell 1
 have z1 := BW.out.free 1
 have c2 := BW.out.cell 2
 have z2 := BW.out.free 2
 have c3 := BW.out.cell 3
 have z3 := BW.out.free 3
 have c4 := BW.out.cell 4
 have z4 := BW.out.free 4
 have c5 := BW.out.cell 5
 have z5 := BW.out.free 5
 have c6 := BW.out.cell 6
 have z6 := BW.out.free 6
 have c7 := BW.out.cell 7
 have z7 := BW.out.free 7
 simp [chC] at c0 c1 c2 c3 c4 c5 c6 c7
 cases hnh : x.nh
 · rw [hnh] at c6
   by_cases h1 : k < 0
   · have K1 : decide (k < 0) = true := decide_eq_true h1
     have HRE := Lib.hid (show moL x n d o = { x with hn := n, hd := d, ho := o, nh := false } from by unfold moL; rw [← HK.out, hnh, K1]; rfl)
     have HBX := Lib.hid (show Bx _ c (chC (moL x n d o) bd) from by rw [HRE.out]; exact ((((BW.out.put 2 (.int .i64 n)).put 3 (.int .i64 d)).put 5 (.bool o)).put 6 (.bool false)))
     have HGR := Lib.hid (grown_trans (grown_trans (grown_trans (grown_trans (grown_of (c := c) Q0.out) (grown_put wc c 2 (.int .i64 n))) (grown_put (wc.setCell ⟨c, 2, none⟩ (.int .i64 n)) c 3 (.int .i64 d))) (grown_put ((wc.setCell ⟨c, 2, none⟩ (.int .i64 n)).setCell ⟨c, 3, none⟩ (.int .i64 d)) c 5 (.bool o))) (grown_put (((wc.setCell ⟨c, 2, none⟩ (.int .i64 n)).setCell ⟨c, 3, none⟩ (.int .i64 d)).setCell ⟨c, 5, none⟩ (.bool o)) c 6 (.bool false)))
     go_wp2_with fail
     go_end0
     exact ⟨rfl, HGR.out, HBX.out⟩
   · have K1 : decide (k < 0) = false := decide_eq_false h1
     by_cases h2 : k = 0
     · have K2 : (k == 0) = true := by simp [h2]
       cases hho : x.ho
       · rw [hho] at c5
         have HRE := Lib.hid (show moL x n d o = { x with ho := x.ho || o } from by unfold moL; rw [← HK.out, hnh, K1, if_neg (by decide), if_pos h2])
         have HBX := Lib.hid (show Bx _ c (chC (moL x n d o) bd) from by rw [HRE.out, hho]; exact (BW.out.put 5 (.bool o)))
         have HGR := Lib.hid (grown_trans (grown_of (c := c) Q0.out) (grown_put wc c 5 (.bool o)))
         go_wp2_with fail
         go_end0
         exact ⟨rfl, HGR.out, HBX.out⟩
       · rw [hho] at c5
         have HRE := Lib.hid (show moL x n d o = { x with ho := x.ho || o } from by unfold moL; rw [← HK.out, hnh, K1, if_neg (by decide), if_pos h2])
         have HBX := Lib.hid (show Bx _ c (chC (moL x n d o) bd) from by rw [HRE.out, hho]; exact (BW.out.put 5 (.bool true)))
         have HGR := Lib.hid (grown_trans (grown_of (c := c) Q0.out) (grown_put wc c 5 (.bool true)))
         go_wp2_with fail
         go_end0
         exact ⟨rfl, HGR.out, HBX.out⟩
     · have K2 : (k == 0) = false := by simp [h2]
       have HRE := Lib.hid (show moL x n d o = x from by unfold moL; rw [← HK.out, hnh, K1, if_neg (by decide), if_neg h2])
       have HBX := Lib.hid (show Bx _ c (chC (moL x n d o) bd) from by rw [HRE.out]; exact BW.out)
       have HGR := Lib.hid (grown_of (c := c) Q0.out)
       go_wp2_with fail
       go_end0
       exact ⟨rfl, HGR.out, HBX.out⟩
 · rw [hnh] at c6
   have HRE := Lib.hid (show moL x n d o = { x with hn := n, hd := d, ho := o, nh := false } from by unfold moL; rw [hnh]; rfl)
   have HBX := Lib.hid (show Bx _ c (chC (moL x n d o) bd) from by rw [HRE.out]; exact ((((BW.out.put 2 (.int .i64 n)).put 3 (.int .i64 d)).put 5 (.bool o)).put 6 (.bool false)))
   have HGR := Lib.hid (grown_trans (grown_trans (grown_trans (grown_trans (grown_of (c := c) Q0.out) (grown_put wc c 2 (.int .i64 n))) (grown_put (wc.setCell ⟨c, 2, none⟩ (.int .i64 n)) c 3 (.int .i64 d))) (grown_put ((wc.setCell ⟨c, 2, none⟩ (.int .i64 n)).setCell ⟨c, 3, none⟩ (.int .i64 d)) c 5 (.bool o))) (grown_put (((wc.setCell ⟨c, 2, none⟩ (.int .i64 n)).setCell ⟨c, 3, none⟩ (.int .i64 d)).setCell ⟨c, 5, none⟩ (.bool o)) c 6 (.bool false)))
   go_wp2_with fail
   go_end0
   exact ⟨rfl, HGR.out, HBX.out⟩
set_option maxRecDepth 100000 in
theorem least_any (x : Dl) (n d : Int) (o bd : Bool) (c : Nat) (w : World) (hn : I64 n) (hd : I64 d) (hx : x.Ok) (hc : Bx w c (chC x bd)) :
  Calls Tryz.prog 152 #[.pointer (some ⟨c, 0, none⟩), .agg #[.int .i64 n, .int .i64 d], .bool o] w (ChR w c (chC (leL x n d o) bd)) := by
 have CM := Lib.hid (fun W => refCmp_any n d x.ln x.ld W hn hd hx.1 hx.2.1)
 obtain ⟨w0, hw0⟩ : ∃ w0, w0 = w.alloc (.cells #[.int .i64 n, .int .i64 d] 45) := ⟨_, rfl⟩
 have PB := Lib.hid (show Pair w0 w.heap.size n d by rw [hw0]; exact Pair.made _ _ _ _)
 have BC := Lib.hid (show Bx w0 c (chC x bd) by rw [hw0]; exact hc.kept (one_more _))
 have B0 := Lib.hid (show Below w.heap.size w w0 by rw [hw0]; exact one_more _)
 have HLT := hc.lt
 obtain ⟨k, hk⟩ : ∃ k, k = cmK n d x.ln x.ld := ⟨_, rfl⟩
 have HK := Lib.hid hk
 obtain ⟨er, her⟩ : ∃ er : Int, er = (if (vldB n d && vldB x.ln x.ld) then 0 else 2) := ⟨_, rfl⟩
 have CM2 := Lib.hid (show ∀ W, Calls Tryz.prog 78 #[.agg #[.int .i64 n, .int .i64 d], .agg #[.int .i64 x.ln, .int .i64 x.ld]] W (Made (.tuple #[.int .i64 k, .int .i64 er]) W) from fun W => by rw [hk, her]; exact CM.out W)
 clear CM hk her hc
 go_enter Tryz.func152, Tryz.ntmps152
 go_upto_region 1 with (fail)
 rw [← hw0]
 clear hw0
 have KS := Lib.hid (show ∀ W, Below w0.heap.size w0 W → (W.cell? ⟨w.heap.size, 0, none⟩ = some (.int .i64 n) ∧ W.cell? ⟨w.heap.size, 1, none⟩ = some (.int .i64 d) ∧ W.cell? ⟨c, 0, none⟩ = some (.int .i64 x.ln) ∧ W.cell? ⟨c, 1, none⟩ = some (.int .i64 x.ld)) from fun W h => ⟨((PB.out.kept h).facts).1, ((PB.out.kept h).facts).2.1, (BC.out.kept h).cell 0, (BC.out.kept h).cell 1⟩)
 obtain ⟨wc, hwc⟩ : ∃ wc, wc = w0.drew := ⟨_, rfl⟩
 have Bc := Lib.hid (show Below w0.heap.size w0 wc by rw [hwc]; exact (Below.refl _ _).drew)
 refine wp_region_held_drew (S := (fun W => (W.cell? ⟨w.heap.size, 0, none⟩ = some (.int .i64 n) ∧ W.cell? ⟨w.heap.size, 1, none⟩ = some (.int .i64 d) ∧ W.cell? ⟨c, 0, none⟩ = some (.int .i64 x.ln) ∧ W.cell? ⟨c, 1, none⟩ = some (.int .i64 x.ld)))) (by kernel_rfl) (by rw [← hwc]; exact KS.out _ Bc.out) (fun h0 => ?_)
 rw [← hwc] at h0 ⊢
 clear hwc
 refine tkI (i := 0) rfl h0 ?_
 simp only [Act.put, sA, sB, sD, sE, sF]
 refine tkI (i := 1) rfl h0 ?_
 simp only [Act.put, sZ]
 refine tkI (i := 2) rfl h0 ?_
 simp only [Act.put, sZ]
 refine tkI (i := 3) rfl h0 ?_
 simp only [Act.put, sZ]
 refine tkI (i := 4) rfl h0 ?_
 simp only [Act.put, sZ]
 refine tkI (i := 5) rfl h0 ?_
 simp only [Act.put, sZ]
 refine wpAnyH_ready (rs := [6]) (by kernel_rfl) (by simp) (AllReadyH.cons rfl (fun K hK => ?_) AllReadyH.nil)
 rw [if_pos (by rfl)]
 go_simp
 refine (CM2.out _).mono ?_
 rintro e wc ⟨rfl, hb⟩
 have Bc := Lib.hid (below_on Bc.out hb)
 clear hb
 go_simp
 refine hK.out _ _ (KS.out _ Bc.out) (fun h0_1 => ?_)
 clear hK K h0
 refine tkI (i := 7) rfl h0_1 ?_
 simp only [Act.put, sZ]
 refine tkI (i := 8) rfl h0_1 ?_
 simp only [Act.put, sZ]
 refine tkI (i := 9) rfl h0_1 ?_
 simp only [Act.put, sZ]
 refine tkI (i := 10) rfl h0_1 ?_
 simp only [Act.put, sZ]
 refine tkI (i := 11) rfl h0_1 ?_
 simp only [Act.put, sA, sB, sC, sD]
 refine wpAnyH_done (by kernel_rfl) ?_ _
 clear KS CM2
 have PW := Lib.hid (PB.out.kept Bc.out)
 have BW := Lib.hid (BC.out.kept Bc.out)
 have Q0 := Lib.hid (below_on B0.out Bc.out)
 obtain ⟨p0, p1, _, _⟩ := PW.out.facts
 have c0 := BW.out.cell 0
 have z0 := BW.out.free 0
 have c1 := BW.out.cell 1
 have z1 := BW.out.free 1
 have c2 := BW.out.cell 2
 have z2 := BW.out.free 2
 have c3 := BW.out.cell 3
 have z3 := BW.out.free 3
 have c4 := BW.out.cell 4
 have z4 := BW.out.free 4
 have c5 := BW.out.cell 5
 have z5 := BW.out.free 5
 have c6 := BW.out.cell 6
 have z6 := BW.out.free 6
 have c7 := BW.out.cell 7
 have z7 := BW.out.free 7
 simp [chC] at c0 c1 c2 c3 c4 c5 c6 c7
 by_cases h1 : 0 < k
 · have K1 : decide (0 < k) = true := decide_eq_true h1
   have HRE := Lib.hid (show leL x n d o = { x with ln := n, ld := d, lo := o } from by unfold leL; rw [← HK.out, if_pos h1])
   have HBX := Lib.hid (show Bx _ c (chC (leL x n d o) bd) from by rw [HRE.out]; exact (((BW.out.put 0 (.int .i64 n)).put 1 (.int .i64 d)).put 4 (.bool o)))
   have HGR := Lib.hid (grown_trans (grown_trans (grown_trans (grown_of (c := c) Q0.out) (grown_put wc c 0 (.int .i64 n))) (grown_put (wc.setCell ⟨c, 0, none⟩ (.int .i64 n)) c 1 (.int .i64 d))) (grown_put ((wc.setCell ⟨c, 0, none⟩ (.int .i64 n)).setCell ⟨c, 1, none⟩ (.int .i64 d)) c 4 (.bool o)))
   go_wp2_with fail
   go_end0
   exact ⟨rfl, HGR.out, HBX.out⟩
 · have K1 : decide (0 < k) = false := decide_eq_false h1
   by_cases h2 : k = 0
   · have K2 : (k == 0) = true := by simp [h2]
     cases hlo : x.lo
     · rw [hlo] at c4
       have HRE := Lib.hid (show leL x n d o = { x with lo := x.lo || o } from by unfold leL; rw [← HK.out, if_neg h1, if_pos h2])
       have HBX := Lib.hid (show Bx _ c (chC (leL x n d o) bd) from by rw [HRE.out, hlo]; exact (BW.out.put 4 (.bool o)))
       have HGR := Lib.hid (grown_trans (grown_of (c := c) Q0.out) (grown_put wc c 4 (.bool o)))
       go_wp2_with fail
       go_end0
       exact ⟨rfl, HGR.out, HBX.out⟩
     · rw [hlo] at c4
       have HRE := Lib.hid (show leL x n d o = { x with lo := x.lo || o } from by unfold leL; rw [← HK.out, if_neg h1, if_pos h2])
       have HBX := Lib.hid (show Bx _ c (chC (leL x n d o) bd) from by rw [HRE.out, hlo]; exact (BW.out.put 4 (.bool true)))
       have HGR := Lib.hid (grown_trans (grown_of (c := c) Q0.out) (grown_put wc c 4 (.bool true)))
       go_wp2_with fail
       go_end0
       exact ⟨rfl, HGR.out, HBX.out⟩
   · have K2 : (k == 0) = false := by simp [h2]
     have HRE := Lib.hid (show leL x n d o = x from by unfold leL; rw [← HK.out, if_neg h1, if_neg h2])
     have HBX := Lib.hid (show Bx _ c (chC (leL x n d o) bd) from by rw [HRE.out]; exact BW.out)
     have HGR := Lib.hid (grown_of (c := c) Q0.out)
     go_wp2_with fail
     go_end0
     exact ⟨rfl, HGR.out, HBX.out⟩
def bwX (x : Dl) (n d u : Int) : Dl := if spE u = 0 then (if shE n d (spC u) = 0 then moL x (shN n d (spC u)) (shD n d (spC u)) (spS u) else x) else x
def bwB (b : Bool) (n d u : Int) : Bool := if spE u = 0 then (if shE n d (spC u) = 0 then b else true) else b
def abX (x : Dl) (n d u : Int) : Dl := if spE u = 0 then (if shE n d (-spC u) = 0 then leL x (shN n d (-spC u)) (shD n d (-spC u)) (spS u) else x) else x
def abB (b : Bool) (n d u : Int) : Bool := if spE u = 0 then (if shE n d (-spC u) = 0 then b else true) else b
theorem vld_one {c : Int} (h1 : -1073741824 ≤ c) (h2 : c ≤ 1073741824) : vldB c 1 = true := (mk_one (c := c) (by omega) (by omega)).2.2
theorem ChR.over {w w1 w' : World} {c : Nat} {A : Array Value} {e : Ending} (hb : Below w.heap.size w w1) (h : ChR w1 c A e w') : ChR w c A e w' := ⟨h.1, grown_trans (grown_of hb) h.2.1, h.2.2⟩
set_option maxRecDepth 100000 in
theorem below_any (x : Dl) (n d u : Int) (bd : Bool) (c : Nat) (w : World) (hn : I64 n) (hd : I64 d) (hu : I64 u) (hx : x.Ok) (hc : Bx w c (chC x bd)) :
  Calls Tryz.prog 124 #[.pointer (some ⟨c, 0, none⟩), .agg #[.int .i64 n, .int .i64 d], .int .i64 u] w (ChR w c (chC (bwX x n d u) (bwB bd n d u))) := by
 have SP := Lib.hid (fun W => refLimSplit_any u W hu)
 have bu := spC_bd u
 have AD := Lib.hid (show ∀ W, Calls Tryz.prog 80 #[.agg #[.int .i64 n, .int .i64 d], .agg #[.int .i64 (spC u), .int .i64 1]] W (Made (.tuple #[.agg #[.int .i64 (shN n d (spC u)), .int .i64 (shD n d (spC u))], .int .i64 (shE n d (spC u))]) W) from fun W => by
  have := refAdd_any n d (spC u) 1 W hn hd (by unfold I64; omega) (by unfold I64; omega)
  rw [vld_one bu.1 bu.2, Bool.and_true] at this
  unfold shN shD shE
  skip
  exact this)
 have MO := Lib.hid (fun W hb => most_any x (shN n d (spC u)) (shD n d (spC u)) (spS u) bd c W (opNum_64 _ _ _) (opDen_64 _ _ _) hx hb)
 have HX := Lib.hid (show bwX x n d u = if spE u = 0 then (if shE n d (spC u) = 0 then moL x (shN n d (spC u)) (shD n d (spC u)) (spS u) else x) else x from rfl)
 have HBB := Lib.hid (show bwB bd n d u = if spE u = 0 then (if shE n d (spC u) = 0 then bd else true) else bd from rfl)
 generalize moL x (shN n d (spC u)) (shD n d (spC u)) (spS u) = y at *
 generalize shN n d (spC u) = sn at *
 generalize shD n d (spC u) = sd at *
 generalize shE n d (spC u) = se at *
 generalize spC u = uc at *
 generalize spS u = us at *
 generalize spE u = ue at *
 generalize bwX x n d u = rx at *
 generalize bwB bd n d u = rb at *
 obtain ⟨w0, hw0⟩ : ∃ w0, w0 = w.alloc (.cells #[.int .i64 n, .int .i64 d] 45) := ⟨_, rfl⟩
 have PB := Lib.hid (show Pair w0 w.heap.size n d by rw [hw0]; exact Pair.made _ _ _ _)
 have BC := Lib.hid (show Bx w0 c (chC x bd) by rw [hw0]; exact hc.kept (one_more _))
 have B0 := Lib.hid (show Below w.heap.size w w0 by rw [hw0]; exact one_more _)
 clear hc bu hn hd hu
 by_cases h1 : ue = 0
 · have U1 : (ue == 0) = true := by simp [h1]
   have U2 : (ue != 0) = false := by simp [h1]
   by_cases h2 : se = 0
   · have S1 : (se == 0) = true := by simp [h2]
     have S2 : (se != 0) = false := by simp [h2]
     have HR := Lib.hid (show rx = y ∧ rb = bd by rw [HX.out, HBB.out, if_pos h1, if_pos h2, if_pos h1, if_pos h2]; exact ⟨rfl, rfl⟩)
     clear h1 h2
     go_enter Tryz.func124, Tryz.ntmps124
     go_upto_region 1 with (fail)
     rw [← hw0]
     clear hw0
     go_wp2_with fail
     refine (SP.out _).mono ?_
     rintro e w' ⟨rfl, hw'⟩
     rw [hw']; clear hw' w'
     obtain ⟨p0, p1, _, _⟩ := PB.out.facts
     go_wp2_with fail
     refine (AD.out _).mono ?_
     rintro e w2 ⟨rfl, hb⟩
     obtain ⟨w3, hw3⟩ : ∃ w3, w3 = w2.alloc (.cells #[.int .i64 sn, .int .i64 sd] 45) := ⟨_, rfl⟩
     have PS := Lib.hid (show Pair w3 w2.heap.size sn sd by rw [hw3]; exact Pair.made _ _ _ _)
     have B3 := Lib.hid (show Below w0.heap.size w0 w3 by rw [hw3]; exact hb.alloc hb.size _)
     clear hb p0 p1
     go_upto_region 4 with (fail)
     rw [← hw3]
     clear hw3
     obtain ⟨p0, p1, _, _⟩ := PS.out.facts
     go_wp2_with fail
     refine (MO.out _ (BC.out.kept B3.out)).mono ?_
     rintro e w4 hr
     have hr2 := ChR.over (below_on B0.out B3.out) hr
     obtain ⟨rfl, hg, hbx⟩ := hr2
     have HG := Lib.hid hg
     have HBX := Lib.hid hbx
     clear hr hg hbx p0 p1
     go_wp2_with fail
     go_end0
     exact ⟨rfl, HG.out, by rw [HR.out.1, HR.out.2]; exact HBX.out⟩
   · have S1 : (se == 0) = false := by simp [h2]
     have S2 : (se != 0) = true := by simp [h2]
     have HR := Lib.hid (show rx = x ∧ rb = true by rw [HX.out, HBB.out, if_pos h1, if_neg h2, if_pos h1, if_neg h2]; exact ⟨rfl, rfl⟩)
     clear h1 h2
     go_enter Tryz.func124, Tryz.ntmps124
     go_upto_region 1 with (fail)
     rw [← hw0]
     clear hw0
     go_wp2_with fail
     refine (SP.out _).mono ?_
     rintro e w' ⟨rfl, hw'⟩
     rw [hw']; clear hw' w'
     obtain ⟨p0, p1, _, _⟩ := PB.out.facts
     go_wp2_with fail
     refine (AD.out _).mono ?_
     rintro e w2 ⟨rfl, hb⟩
     obtain ⟨w3, hw3⟩ : ∃ w3, w3 = w2.alloc (.cells #[.int .i64 sn, .int .i64 sd] 45) := ⟨_, rfl⟩
     have B3 := Lib.hid (show Below w0.heap.size w0 w3 by rw [hw3]; exact hb.alloc hb.size _)
     clear hb p0 p1
     go_upto_region 4 with (fail)
     rw [← hw3]
     clear hw3
     have BW := Lib.hid (BC.out.kept B3.out)
     have c7 := BW.out.cell 7
     have z7 := BW.out.free 7
     simp [chC] at c7
     have HP := Lib.hid (BW.out.put 7 (.bool true))
     have HGR := Lib.hid (grown_trans (grown_of (c := c) (below_on B0.out B3.out)) (grown_put w3 c 7 (.bool true)))
     go_wp2_with fail
     go_end0
     exact ⟨rfl, HGR.out, by rw [HR.out.1, HR.out.2]; exact HP.out⟩
 · have U1 : (ue == 0) = false := by simp [h1]
   have U2 : (ue != 0) = true := by simp [h1]
   have HR := Lib.hid (show rx = x ∧ rb = bd by rw [HX.out, HBB.out, if_neg h1, if_neg h1]; exact ⟨rfl, rfl⟩)
   clear h1
   go_enter Tryz.func124, Tryz.ntmps124
   go_upto_region 1 with (fail)
   rw [← hw0]
   clear hw0
   go_wp2_with fail
   refine (SP.out _).mono ?_
   rintro e w' ⟨rfl, hw'⟩
   rw [hw']; clear hw' w'
   go_wp2_with fail
   go_end0
   exact ⟨rfl, grown_of B0.out, by rw [HR.out.1, HR.out.2]; exact BC.out⟩
set_option maxRecDepth 100000 in
theorem above_any (x : Dl) (n d u : Int) (bd : Bool) (c : Nat) (w : World) (hn : I64 n) (hd : I64 d) (hu : I64 u) (hx : x.Ok) (hc : Bx w c (chC x bd)) :
  Calls Tryz.prog 125 #[.pointer (some ⟨c, 0, none⟩), .agg #[.int .i64 n, .int .i64 d], .int .i64 u] w (ChR w c (chC (abX x n d u) (abB bd n d u))) := by
 have SP := Lib.hid (fun W => refLimSplit_any u W hu)
 have bu := spC_bd u
 have AD := Lib.hid (show ∀ W, Calls Tryz.prog 119 #[.agg #[.int .i64 n, .int .i64 d], .agg #[.int .i64 (spC u), .int .i64 1]] W (Made (.tuple #[.agg #[.int .i64 (shN n d (-spC u)), .int .i64 (shD n d (-spC u))], .int .i64 (shE n d (-spC u))]) W) from fun W => by
  have := refSub_any n d (spC u) 1 W hn hd (by unfold I64; omega) (by unfold I64; omega)
  rw [vld_one bu.1 bu.2, Bool.and_true] at this
  unfold shN shD shE
  rw [show n * 1 + -spC u * d = n * 1 - spC u * d by rw [Int.neg_mul]; omega]
  exact this)
 have MO := Lib.hid (fun W hb => least_any x (shN n d (-spC u)) (shD n d (-spC u)) (spS u) bd c W (opNum_64 _ _ _) (opDen_64 _ _ _) hx hb)
 have HX := Lib.hid (show abX x n d u = if spE u = 0 then (if shE n d (-spC u) = 0 then leL x (shN n d (-spC u)) (shD n d (-spC u)) (spS u) else x) else x from rfl)
 have HBB := Lib.hid (show abB bd n d u = if spE u = 0 then (if shE n d (-spC u) = 0 then bd else true) else bd from rfl)
 generalize leL x (shN n d (-spC u)) (shD n d (-spC u)) (spS u) = y at *
 generalize shN n d (-spC u) = sn at *
 generalize shD n d (-spC u) = sd at *
 generalize shE n d (-spC u) = se at *
 generalize spC u = uc at *
 generalize spS u = us at *
 generalize spE u = ue at *
 generalize abX x n d u = rx at *
 generalize abB bd n d u = rb at *
 obtain ⟨w0, hw0⟩ : ∃ w0, w0 = w.alloc (.cells #[.int .i64 n, .int .i64 d] 45) := ⟨_, rfl⟩
 have PB := Lib.hid (show Pair w0 w.heap.size n d by rw [hw0]; exact Pair.made _ _ _ _)
 have BC := Lib.hid (show Bx w0 c (chC x bd) by rw [hw0]; exact hc.kept (one_more _))
 have B0 := Lib.hid (show Below w.heap.size w w0 by rw [hw0]; exact one_more _)
 clear hc bu hn hd hu
 by_cases h1 : ue = 0
 · have U1 : (ue == 0) = true := by simp [h1]
   have U2 : (ue != 0) = false := by simp [h1]
   by_cases h2 : se = 0
   · have S1 : (se == 0) = true := by simp [h2]
     have S2 : (se != 0) = false := by simp [h2]
     have HR := Lib.hid (show rx = y ∧ rb = bd by rw [HX.out, HBB.out, if_pos h1, if_pos h2, if_pos h1, if_pos h2]; exact ⟨rfl, rfl⟩)
     clear h1 h2
     go_enter Tryz.func125, Tryz.ntmps125
     go_upto_region 1 with (fail)
     rw [← hw0]
     clear hw0
     go_wp2_with fail
     refine (SP.out _).mono ?_
     rintro e w' ⟨rfl, hw'⟩
     rw [hw']; clear hw' w'
     obtain ⟨p0, p1, _, _⟩ := PB.out.facts
     go_wp2_with fail
     refine (AD.out _).mono ?_
     rintro e w2 ⟨rfl, hb⟩
     obtain ⟨w3, hw3⟩ : ∃ w3, w3 = w2.alloc (.cells #[.int .i64 sn, .int .i64 sd] 45) := ⟨_, rfl⟩
     have PS := Lib.hid (show Pair w3 w2.heap.size sn sd by rw [hw3]; exact Pair.made _ _ _ _)
     have B3 := Lib.hid (show Below w0.heap.size w0 w3 by rw [hw3]; exact hb.alloc hb.size _)
     clear hb p0 p1
     go_upto_region 4 with (fail)
     rw [← hw3]
     clear hw3
     obtain ⟨p0, p1, _, _⟩ := PS.out.facts
     go_wp2_with fail
     refine (MO.out _ (BC.out.kept B3.out)).mono ?_
     rintro e w4 hr
     have hr2 := ChR.over (below_on B0.out B3.out) hr
     obtain ⟨rfl, hg, hbx⟩ := hr2
     have HG := Lib.hid hg
     have HBX := Lib.hid hbx
     clear hr hg hbx p0 p1
     go_wp2_with fail
     go_end0
     exact ⟨rfl, HG.out, by rw [HR.out.1, HR.out.2]; exact HBX.out⟩
   · have S1 : (se == 0) = false := by simp [h2]
     have S2 : (se != 0) = true := by simp [h2]
     have HR := Lib.hid (show rx = x ∧ rb = true by rw [HX.out, HBB.out, if_pos h1, if_neg h2, if_pos h1, if_neg h2]; exact ⟨rfl, rfl⟩)
     clear h1 h2
     go_enter Tryz.func125, Tryz.ntmps125
     go_upto_region 1 with (fail)
     rw [← hw0]
     clear hw0
     go_wp2_with fail
     refine (SP.out _).mono ?_
     rintro e w' ⟨rfl, hw'⟩
     rw [hw']; clear hw' w'
     obtain ⟨p0, p1, _, _⟩ := PB.out.facts
     go_wp2_with fail
     refine (AD.out _).mono ?_
     rintro e w2 ⟨rfl, hb⟩
     obtain ⟨w3, hw3⟩ : ∃ w3, w3 = w2.alloc (.cells #[.int .i64 sn, .int .i64 sd] 45) := ⟨_, rfl⟩
     have B3 := Lib.hid (show Below w0.heap.size w0 w3 by rw [hw3]; exact hb.alloc hb.size _)
     clear hb p0 p1
     go_upto_region 4 with (fail)
     rw [← hw3]
     clear hw3
     have BW := Lib.hid (BC.out.kept B3.out)
     have c7 := BW.out.cell 7
     have z7 := BW.out.free 7
     simp [chC] at c7
     have HP := Lib.hid (BW.out.put 7 (.bool true))
     have HGR := Lib.hid (grown_trans (grown_of (c := c) (below_on B0.out B3.out)) (grown_put w3 c 7 (.bool true)))
     go_wp2_with fail
     go_end0
     exact ⟨rfl, HGR.out, by rw [HR.out.1, HR.out.2]; exact HP.out⟩
 · have U1 : (ue == 0) = false := by simp [h1]
   have U2 : (ue != 0) = true := by simp [h1]
   have HR := Lib.hid (show rx = x ∧ rb = bd by rw [HX.out, HBB.out, if_neg h1, if_neg h1]; exact ⟨rfl, rfl⟩)
   clear h1
   go_enter Tryz.func125, Tryz.ntmps125
   go_upto_region 1 with (fail)
   rw [← hw0]
   clear hw0
   go_wp2_with fail
   refine (SP.out _).mono ?_
   rintro e w' ⟨rfl, hw'⟩
   rw [hw']; clear hw' w'
   go_wp2_with fail
   go_end0
   exact ⟨rfl, grown_of B0.out, by rw [HR.out.1, HR.out.2]; exact BC.out⟩
theorem start_any (w : World) : Calls Tryz.prog 122 #[] w (fun e w' => ∃ c, e = .returned (.pointer (some ⟨c, 0, none⟩)) ∧ w.heap.size ≤ c ∧ Bx w' c (chC Dl.one false) ∧ Below w.heap.size w w') := by
 go_enter Tryz.func122, Tryz.ntmps122
 go_wp2_with fail
 go_ret
 exact ⟨_, rfl, Nat.le_refl _, Bx.made _ _ _, one_more _⟩
def tdB (x : Dl) : Bool := !x.nh && (decide (0 < cmK x.ln x.ld x.hn x.hd) || (decide (cmK x.ln x.ld x.hn x.hd = 0) && (x.lo || x.ho)))
def tdX (x : Dl) : Dl := if tdB x then Dl.zero else x
def tdE (x : Dl) : Int := if tdB x then 4 else 0
set_option maxRecDepth 100000 in
theorem rtold_any (x : Dl) (bd : Bool) (c : Nat) (w : World) (hx : x.Ok) (hc : Bx w c (chC x bd)) :
  Calls Tryz.prog 126 #[.pointer (some ⟨c, 0, none⟩)] w (Made (.tuple #[.agg (tdX x).cs, .int .i64 (tdE x)]) w) := by
 obtain ⟨k, hk⟩ : ∃ k, k = cmK x.ln x.ld x.hn x.hd := ⟨_, rfl⟩
 obtain ⟨er, her⟩ : ∃ er : Int, er = (if (vldB x.ln x.ld && vldB x.hn x.hd) then 0 else 2) := ⟨_, rfl⟩
 have CM := Lib.hid (show ∀ W, Calls Tryz.prog 78 #[.agg #[.int .i64 x.ln, .int .i64 x.ld], .agg #[.int .i64 x.hn, .int .i64 x.hd]] W (Made (.tuple #[.int .i64 k, .int .i64 er]) W) from fun W => by
  rw [hk, her]; exact refCmp_any x.ln x.ld x.hn x.hd W hx.1 hx.2.1 hx.2.2.1 hx.2.2.2)
 obtain ⟨tb, htb⟩ : ∃ tb, tb = tdB x := ⟨_, rfl⟩
 have HTB := Lib.hid (show tb = (!x.nh && (decide (0 < k) || (decide (k = 0) && (x.lo || x.ho)))) by rw [htb, hk]; rfl)
 have HTX := Lib.hid (show tdX x = (if tb then Dl.zero else x) ∧ tdE x = (if tb then 4 else 0) by unfold tdX tdE; rw [htb]; exact ⟨rfl, rfl⟩)
 obtain ⟨w0, hw0⟩ : ∃ w0, w0 = w.alloc (.cells Dl.zero.cs 86) := ⟨_, rfl⟩
 have RB := Lib.hid (show Dbx w0 w.heap.size Dl.zero by rw [hw0]; exact Drow.made _ _)
 have BC := Lib.hid (show Bx w0 c (chC x bd) by rw [hw0]; exact hc.kept (one_more _))
 have B0 := Lib.hid (show Below w.heap.size w w0 by rw [hw0]; exact one_more _)
 clear hk her htb hc
 go_enter Tryz.func126, Tryz.ntmps126
 go_upto_region 1 with (fail)
 change Code.wp _ _ _ _ (w.alloc (.cells Dl.zero.cs 86)) at *
 rw [← hw0]
 clear hw0
 have KS := Lib.hid (show ∀ W, Below w0.heap.size w0 W → (W.cell? ⟨c, 0, none⟩ = some (.int .i64 x.ln) ∧ W.cell? ⟨c, 1, none⟩ = some (.int .i64 x.ld) ∧ W.cell? ⟨c, 2, none⟩ = some (.int .i64 x.hn) ∧ W.cell? ⟨c, 3, none⟩ = some (.int .i64 x.hd)) from fun W h => ⟨(BC.out.kept h).cell 0, (BC.out.kept h).cell 1, (BC.out.kept h).cell 2, (BC.out.kept h).cell 3⟩)
 obtain ⟨wc, hwc⟩ : ∃ wc, wc = w0.drew := ⟨_, rfl⟩
 have Bc := Lib.hid (show Below w0.heap.size w0 wc by rw [hwc]; exact (Below.refl _ _).drew)
 refine wp_region_held_drew (S := (fun W => (W.cell? ⟨c, 0, none⟩ = some (.int .i64 x.ln) ∧ W.cell? ⟨c, 1, none⟩ = some (.int .i64 x.ld) ∧ W.cell? ⟨c, 2, none⟩ = some (.int .i64 x.hn) ∧ W.cell? ⟨c, 3, none⟩ = some (.int .i64 x.hd)))) (by kernel_rfl) (by rw [← hwc]; exact KS.out _ Bc.out) (fun h0 => ?_)
 rw [← hwc] at h0 ⊢
 clear hwc
 refine tkI (i := 0) rfl h0 ?_
 simp only [Act.put, sA, sB, sD, sE, sF]
 refine tkI (i := 1) rfl h0 ?_
 simp only [Act.put, sZ]
 refine tkI (i := 2) rfl h0 ?_
 simp only [Act.put, sZ]
 refine tkI (i := 3) rfl h0 ?_
 simp only [Act.put, sZ]
 refine tkI (i := 4) rfl h0 ?_
 simp only [Act.put, sZ]
 refine tkI (i := 5) rfl h0 ?_
 simp only [Act.put, sZ]
 refine tkI (i := 6) rfl h0 ?_
 simp only [Act.put, sZ]
 refine tkI (i := 7) rfl h0 ?_
 simp only [Act.put, sZ]
 refine tkI (i := 8) rfl h0 ?_
 simp only [Act.put, sZ]
 refine tkI (i := 9) rfl h0 ?_
 simp only [Act.put, sZ]
 refine wpAnyH_ready (rs := [10]) (by kernel_rfl) (by simp) (AllReadyH.cons rfl (fun K hK => ?_) AllReadyH.nil)
 rw [if_pos (by rfl)]
 go_simp
 refine (CM.out _).mono ?_
 rintro e wc ⟨rfl, hb⟩
 have Bc := Lib.hid (below_on Bc.out hb)
 clear hb
 go_simp
 refine hK.out _ _ (KS.out _ Bc.out) (fun h0_1 => ?_)
 clear hK K h0
 refine tkI (i := 11) rfl h0_1 ?_
 simp only [Act.put, sZ]
 refine tkI (i := 12) rfl h0_1 ?_
 simp only [Act.put, sZ]
 refine tkI (i := 13) rfl h0_1 ?_
 simp only [Act.put, sZ]
 refine tkI (i := 14) rfl h0_1 ?_
 simp only [Act.put, sZ]
 refine tkI (i := 15) rfl h0_1 ?_
 simp only [Act.put, sA, sB, sC, sD]
 try simp only [sF]
 try simp only [sE]
 refine wpAnyH_done (by kernel_rfl) ?_ _
 clear KS CM
 have BW := Lib.hid (BC.out.kept Bc.out)
 have RW := Lib.hid (RB.out.kept Bc.out)
 have Q0 := Lib.hid (below_on B0.out Bc.out)
 have c0 := BW.out.cell 0
 have c1 := BW.out.cell 1
 have c2 := BW.out.cell 2
 have c3 := BW.out.cell 3
 have c4 := BW.out.cell 4
 have c5 := BW.out.cell 5
 have c6 := BW.out.cell 6
 simp [chC] at c0 c1 c2 c3 c4 c5 c6
 go_upto_region 2 with (fail)
 generalize wc = w5 at *
 go_cut [47] (fun s wx => s = .bool tb ∧ wx = w5)
 case first =>
  cases hnh : x.nh
  · rw [hnh] at c6
    by_cases h1 : 0 < k
    · have K1 : decide (0 < k) = true := decide_eq_true h1
      clear h1
      have HR := Lib.hid (show tb = true by rw [HTB.out, hnh, K1]; rfl)
      go_wp2_with fail
      go_meet
      case rel => exact ⟨by rw [HR.out], rfl⟩
    · have K1 : decide (0 < k) = false := decide_eq_false h1
      clear h1
      by_cases h2 : k = 0
      · have K2 : (k == 0) = true := by simp [h2]
        have K3 : decide (k = 0) = true := decide_eq_true h2
        clear h2
        cases hlo : x.lo
        · rw [hlo] at c4
          cases hho : x.ho
          · rw [hho] at c5
            have HR := Lib.hid (show tb = false by rw [HTB.out, hnh, K1, K3, hlo, hho]; rfl)
            go_wp2_with fail
            go_meet
            case rel => exact ⟨by rw [HR.out], rfl⟩
          · rw [hho] at c5
            have HR := Lib.hid (show tb = true by rw [HTB.out, hnh, K1, K3, hlo, hho]; rfl)
            go_wp2_with fail
            go_meet
            case rel => exact ⟨by rw [HR.out], rfl⟩
        · rw [hlo] at c4
          have HR := Lib.hid (show tb = true by rw [HTB.out, hnh, K1, K3, hlo]; rfl)
          go_wp2_with fail
          go_meet
          case rel => exact ⟨by rw [HR.out], rfl⟩
      · have K2 : (k == 0) = false := by simp [h2]
        have K3 : decide (k = 0) = false := decide_eq_false h2
        clear h2
        have HR := Lib.hid (show tb = false by rw [HTB.out, hnh, K1, K3]; rfl)
        go_wp2_with fail
        go_meet
        case rel => exact ⟨by rw [HR.out], rfl⟩
  · rw [hnh] at c6
    have HR := Lib.hid (show tb = false by rw [HTB.out, hnh]; rfl)
    go_wp2_with fail
    go_meet
    case rel => exact ⟨by rw [HR.out], rfl⟩
 case rest =>
 obtain ⟨rfl, rfl⟩ := hcut
 generalize wc = w5 at *
 obtain ⟨r0, r1, r2, r3, r4, r5, r6⟩ := RW.out.facts
 obtain ⟨z0, z1, z2, z3, z4, z5, z6⟩ := RW.out.frees
 cases tb
 · go_wp2_with fail
   refine bodyPost_ret (v := .tuple #[.agg x.cs, .int .i64 0]) (by simp [results, Tryz.results126, go_sem, Dl.cs, r0, r1, r2, r3, r4, r5, r6]) rfl ⟨by rw [HTX.out.1, HTX.out.2]; rfl, ?_⟩
   exact below_seven Q0.out (Nat.le_refl _) _ _ _ _ _ _ _
 · go_wp2_with fail
   refine bodyPost_ret (v := .tuple #[.agg Dl.zero.cs, .int .i64 4]) (by simp [results, Tryz.results126, go_sem, Dl.cs, Dl.zero, r0, r1, r2, r3, r4, r5, r6]) rfl ⟨by rw [HTX.out.1, HTX.out.2]; rfl, ?_⟩
   exact below_seven Q0.out (Nat.le_refl _) _ _ _ _ _ _ _
end Go.Proofs.YthjapmdfcbngmaaGreat
