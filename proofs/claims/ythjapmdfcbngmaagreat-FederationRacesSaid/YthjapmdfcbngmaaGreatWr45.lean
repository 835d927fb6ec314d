/- A part. -/
import Derived.Test.YthjapmdfcbngmaaGreatWr11
import Derived.Test.YthjapmdfcbngmaaGreatWr44
import Derived.Test.YthjapmdfcbngmaaGreatWr41
namespace Go.Proofs.YthjapmdfcbngmaaGreat
set_option maxHeartbeats 4000000
open Go.RowKit
def ryX (n : Nat) (l : List Int) (ps : List Pq) : Nat → Dl × Bool
 | 0 => (Dl.one, false)
 | t + 1 => (abX (bwX (ryX n l ps t).1 (-(gp ps t).1) (gp ps t).2 (Zo.At n l (t + 1) 0)) (-(gp ps t).1) (gp ps t).2 (Zo.At n l 0 (t + 1)), abB (bwB (ryX n l ps t).2 (-(gp ps t).1) (gp ps t).2 (Zo.At n l (t + 1) 0)) (-(gp ps t).1) (gp ps t).2 (Zo.At n l 0 (t + 1)))
def rsV (n : Nat) (l : List Int) (ps : List Pq) : Dl × Int := if (ryX n l ps n).2 then (Dl.zero, 7) else if mtH n 1 l ps then (tdX (ryX n l ps n).1, tdE (ryX n l ps n).1) else (Dl.zero, 4)
def rsR (N : Int) (l : List Int) (ps : List Pq) : Dl × Int := if rdE N l ps = 0 then rsV N.toNat l ps else (Dl.zero, rdE N l ps)
theorem moL_ok {x : Dl} (h : x.Ok) {n d : Int} (hn : I64 n) (hd : I64 d) (o : Bool) : (moL x n d o).Ok := by
 obtain ⟨h1, h2, h3, h4⟩ := h
 unfold moL
 split
 · exact ⟨h1, h2, hn, hd⟩
 · split
   · exact ⟨h1, h2, h3, h4⟩
   · exact ⟨h1, h2, h3, h4⟩
theorem leL_ok {x : Dl} (h : x.Ok) {n d : Int} (hn : I64 n) (hd : I64 d) (o : Bool) : (leL x n d o).Ok := by
 obtain ⟨h1, h2, h3, h4⟩ := h
 unfold leL
 split
 · exact ⟨hn, hd, h3, h4⟩
 · split
   · exact ⟨h1, h2, h3, h4⟩
   · exact ⟨h1, h2, h3, h4⟩
theorem bwX_ok {x : Dl} (h : x.Ok) (n d u : Int) : (bwX x n d u).Ok := by
 unfold bwX
 split
 · split
   · exact moL_ok h (opNum_64 _ _ _) (opDen_64 _ _ _) _
   · exact h
 · exact h
theorem abX_ok {x : Dl} (h : x.Ok) (n d u : Int) : (abX x n d u).Ok := by
 unfold abX
 split
 · split
   · exact leL_ok h (opNum_64 _ _ _) (opDen_64 _ _ _) _
   · exact h
 · exact h
theorem one_ok : Dl.one.Ok := ⟨by unfold Dl.one I64; simp, by unfold Dl.one I64; simp, by unfold Dl.one I64; simp, by unfold Dl.one I64; simp⟩
theorem ry_ok (n : Nat) (l : List Int) (ps : List Pq) (t : Nat) : (ryX n l ps t).1.Ok := by
 induction t with
 | zero => exact one_ok
 | succ t ih => exact abX_ok (bwX_ok ih _ _ _) _ _ _
set_option maxRecDepth 100000 in
theorem rstay_bad (N : Int) (l : List Int) (ao : Option Addr) (cap : Nat) (ps : List Pq) (po : Option Addr) (pc : Nat) (w : World) (hA : Arg w ao l) (hP : Arg2 w po ps) (hI : Fits ps) (hr : rdE N l ps ≠ 0) :
  Calls Tryz.prog 77 #[.agg #[.int .i64 N, .slice ao l.length cap], .slice po ps.length pc] w (Made (.tuple #[.agg Dl.zero.cs, .int .i64 (rdE N l ps)]) w) := by
 have RD := Lib.hid fun W (h : Below w.heap.size w W) => ready_gen N l ao cap ps po pc W (hA.on h) (hP.on h) hI
 have E1 : (rdE N l ps == 0) = false := by simp [hr]
 have E2 : (rdE N l ps != 0) = true := by simp [hr]
 clear hA hP hI hr
 generalize l.length = len at *
 generalize ps.length = plen at *
 generalize rdE N l ps = er at *
 obtain ⟨w0, hw0⟩ : ∃ w0, w0 = ((w.alloc (.cells #[.int .i64 N, .slice ao len cap] 36)).alloc (.cells #[.int .i64 0, .int .i64 0, .int .i64 0, .int .i64 0, .bool false, .bool false, .bool false] 86)) := ⟨_, rfl⟩
 have PZ := Lib.hid (show Two w0 w.heap.size (.int .i64 N) (.slice ao len cap) by rw [hw0]; exact (Two.made _ _ _ _).alloc _)
 have RB := Lib.hid (show Dbx w0 (w.heap.size + 1) Dl.zero by
  rw [hw0]
  have := Drow.made (w.alloc (.cells #[.int .i64 N, .slice ao len cap] 36)) Dl.zero.cs
  simpa [Dbx, Dl.cs, Dl.zero] using this)
 have B0 := Lib.hid (show Below w.heap.size w w0 by rw [hw0]; exact past_two (Below.refl _ _))
 go_enter Tryz.func77, Tryz.ntmps77
 go_upto_region 1 with (fail)
 rw [← hw0]
 clear hw0
 obtain ⟨z0, z1, _, _⟩ := PZ.out.facts
 go_wp2_with fail
 refine (RD.out _ B0.out).mono ?_
 rintro e w1 ⟨rfl, hb⟩
 have RW := Lib.hid (RB.out.kept hb)
 have Q0 := Lib.hid (below_on B0.out hb)
 clear hb z0 z1
 obtain ⟨r0, r1, r2, r3, r4, r5, r6⟩ := RW.out.facts
 obtain ⟨y0, y1, y2, y3, y4, y5, y6⟩ := RW.out.frees
 go_wp2_with fail
 refine bodyPost_ret (v := .tuple #[.agg Dl.zero.cs, .int .i64 er]) (by simp [results, Tryz.results77, go_sem, Dl.cs, Dl.zero, r0, r1, r2, r3, r4, r5, r6]) rfl ⟨rfl, ?_⟩
 exact below_seven Q0.out (by omega) _ _ _ _ _ _ _
theorem Drow_grown {w w' : World} {b g : Nat} {x : Dl} (h : Dbx w b x) (hg : w.grownBy w' (some g)) (hne : b ≠ g) : Dbx w' b x := Dbx.grown h hg hne
set_option maxRecDepth 100000 in
theorem rstay_any (n : Nat) (l : List Int) (a : Addr) (cap : Nat) (ps : List Pq) (po : Option Addr) (pc : Nat) (w : World) (hn : n ≤ 10) (hl : l.length = (n + 1) * (n + 1)) (hR : Rd w a l) (hP : Arg2 w po ps) (hI : Fits ps) (hr : rdE n l ps = 0) :
  Calls Tryz.prog 77 #[.agg #[.int .i64 n, .slice (some a) l.length cap], .slice po ps.length pc] w (Made (.tuple #[.agg (rsV n l ps).1.cs, .int .i64 (rsV n l ps).2]) w) := by
 obtain ⟨hc, hp, hv, hR0⟩ := rd_ok hr
 replace hp : ps.length = n := by omega
 have hL : ∀ i j, i ≤ n → j ≤ n → I64 (Zo.At n l i j) := fun i j hi hj => chk_i64 hc hi hj
 obtain ⟨len, hlen⟩ : ∃ len, len = l.length := ⟨_, rfl⟩
 obtain ⟨w0, hw0⟩ : ∃ w0, w0 = ((w.alloc (.cells #[.int .i64 n, .slice (some a) len cap] 36)).alloc (.cells #[.int .i64 0, .int .i64 0, .int .i64 0, .int .i64 0, .bool false, .bool false, .bool false] 86)) := ⟨_, rfl⟩
 have PZ := Lib.hid (show Two w0 w.heap.size (.int .i64 n) (.slice (some a) len cap) by rw [hw0]; exact (Two.made _ _ _ _).alloc _)
 have RB := Lib.hid (show Dbx w0 (w.heap.size + 1) Dl.zero by
  rw [hw0]
  have := Drow.made (w.alloc (.cells #[.int .i64 n, .slice (some a) len cap] 36)) Dl.zero.cs
  simpa [Dbx, Dl.cs, Dl.zero] using this)
 have B0 := Lib.hid (show Below w.heap.size w w0 by rw [hw0]; exact past_two (Below.refl _ _))
 have Z0 := Lib.hid (show w0.heap.size = w.heap.size + 2 by rw [hw0]; simp)
 have RD : Hid (∀ W, Below w.heap.size w W → Calls Tryz.prog 118 #[.agg #[.int .i64 n, .slice (some a) len cap], .slice po n pc] W (Made (.int .i64 0) W)) := Lib.hid fun W h => by have := ready_gen n l (some a) cap ps po pc W (fun _ => ⟨a, rfl, hR.on h⟩) (hP.on h) hI; rw [hr, hp, ← hlen] at this; exact this
 have CL : Hid (∀ (i : Nat) (W : World), i ≤ n → Below w.heap.size w W → Calls Tryz.prog 120 #[.slice po n pc, .int .i64 i] W (Made (.agg #[.int .i64 (clk ps i).1, .int .i64 (clk ps i).2]) W)) := Lib.hid fun i W hi h => by have := clock_any ps po pc i W (hP.on h) (by omega) (by omega); rwa [hp] at this
 have AT : Hid (∀ (i j : Nat) (W : World), i ≤ n → j ≤ n → Below w.heap.size w W → Calls Tryz.prog 85 #[.agg #[.int .i64 n, .slice (some a) len cap], .int .i64 i, .int .i64 j] W (Made (.int .i64 (Zo.At n l i j)) W)) := Lib.hid fun i j W hi hj h => by have := at_any n i j l a cap W hn hi hj hl (hR.on h); rwa [← hlen] at this
 have SB := Lib.hid fun (i j : Nat) (W : World) (hi : i ≤ n) (hj : j ≤ n) => by have := sub_clk (ps := ps) W hv (i := i) (j := j) (by rw [hp]; exact hi) (by rw [hp]; exact hj); rw [rdR_at hR0 (i := i) (j := j) (by simp; omega) (by simp; omega)] at this; exact this
 have MT := Lib.hid fun (i j : Nat) (W : World) (hi : i ≤ n) (hj : j ≤ n) => refLimMeets_any (sbN ps i j) (sbD ps i j) (Zo.At n l i j) W (by have := mkNum_bd ((clk ps i).1 * (clk ps j).2 - (clk ps j).1 * (clk ps i).2) ((clk ps i).2 * (clk ps j).2); unfold sbN I64; omega) (by have := mkDen_bd ((clk ps i).1 * (clk ps j).2 - (clk ps j).1 * (clk ps i).2) ((clk ps i).2 * (clk ps j).2); unfold sbD I64; omega) (hL i j hi hj)
 have NG : Hid (∀ t W, t < n → Calls Tryz.prog 123 #[.agg #[.int .i64 (clk ps (t + 1)).1, .int .i64 (clk ps (t + 1)).2]] W (Made (.tuple #[.agg #[.int .i64 (-(gp ps t).1), .int .i64 (gp ps t).2], .int .i64 0]) W)) := Lib.hid fun t W ht => by
  have e : clk ps (t + 1) = gp ps t := by unfold clk; rw [if_neg (by omega)]; simp
  have v := hv t (by omega)
  unfold vldC at v
  simp at v
  have i := hI t (by omega)
  have := refNeg_any (gp ps t).1 (gp ps t).2 W i.1 i.2
  rw [v.1] at this
  rw [e]
  simpa using this
 have BWc := Lib.hid (fun (t : Nat) (ht : t < n) (x : Dl) (bd : Bool) (c : Nat) (W : World) (hx : x.Ok) (hc : Bx W c (chC x bd)) => by
  have v := hv t (by omega)
  unfold vldC at v
  simp at v
  have p := vld_bd v.1
  exact below_any x (-(gp ps t).1) (gp ps t).2 (Zo.At n l (t + 1) 0) bd c W (by unfold I64; omega) (by unfold I64; omega) (hL _ _ (by omega) (by omega)) hx hc)
 have ABc := Lib.hid (fun (t : Nat) (ht : t < n) (x : Dl) (bd : Bool) (c : Nat) (W : World) (hx : x.Ok) (hc : Bx W c (chC x bd)) => by
  have v := hv t (by omega)
  unfold vldC at v
  simp at v
  have p := vld_bd v.1
  exact above_any x (-(gp ps t).1) (gp ps t).2 (Zo.At n l 0 (t + 1)) bd c W (by unfold I64; omega) (by unfold I64; omega) (hL _ _ (by omega) (by omega)) hx hc)
 have HOK := Lib.hid (ry_ok n l ps)
 have HSU := Lib.hid (show ∀ t, ryX n l ps (t + 1) = (abX (bwX (ryX n l ps t).1 (-(gp ps t).1) (gp ps t).2 (Zo.At n l (t + 1) 0)) (-(gp ps t).1) (gp ps t).2 (Zo.At n l 0 (t + 1)), abB (bwB (ryX n l ps t).2 (-(gp ps t).1) (gp ps t).2 (Zo.At n l (t + 1) 0)) (-(gp ps t).1) (gp ps t).2 (Zo.At n l 0 (t + 1))) from fun t => rfl)
 have HRS := Lib.hid (show rsV n l ps = if (ryX n l ps n).2 then (Dl.zero, 7) else if mtH n 1 l ps then (tdX (ryX n l ps n).1, tdE (ryX n l ps n).1) else (Dl.zero, 4) from rfl)
 have HZ0 := Lib.hid (show ryX n l ps 0 = (Dl.one, false) from rfl)
 rw [hp, ← hlen]
 generalize rsV n l ps = rr at *
 clear hR hc hp hP hI hl hlen hv hR0 hr hL
 go_enter Tryz.func77, Tryz.ntmps77
 go_upto_region 1 with (fail)
 rw [← hw0]
 clear hw0
 obtain ⟨z0, z1, _, _⟩ := PZ.out.facts
 go_wp2_with fail
 refine (RD.out _ B0.out).mono ?_
 rintro e w1 ⟨rfl, hb1⟩
 have PZ := Lib.hid (PZ.out.kept hb1)
 have RB := Lib.hid (RB.out.kept hb1)
 have B1 := Lib.hid (below_on B0.out hb1)
 have Z1 := Lib.hid (show w.heap.size + 2 ≤ w1.heap.size by have := hb1.size; have := Z0.out; omega)
 clear hb1 z0 z1 RD
 go_wp2_with fail
 refine (start_any _).mono ?_
 rintro e w2 ⟨c, rfl, hcge, hCX, hb2⟩
 have CX := Lib.hid hCX
 have PZ := Lib.hid (PZ.out.kept hb2)
 have RB := Lib.hid (RB.out.kept hb2)
 have B2 := Lib.hid (below_on B1.out hb2)
 have HC := Lib.hid (show w.heap.size + 2 ≤ c by have := Z1.out; omega)
 clear hb2 hCX hcge
 go_wp2_with fail
 go_loopw [8] (fun s wr => ∃ t : Nat, t ≤ n ∧ s = .int .i64 ((t : Int) + 1) ∧ Hid (w2.grownBy wr (some c) ∧ Bx wr c (chC (ryX n l ps t).1 (ryX n l ps t).2))) (fun s _ => n + 1 - (intOf s).toNat)
 case atStart => exact ⟨0, by omega, rfl, Lib.hid ⟨World.grownBy.refl _ _, by rw [HZ0.out]; exact CX.out⟩⟩
 case round =>
  obtain ⟨t, ht, rfl, HX⟩ := hrel
  have hcc := HC.out
  have PW := Lib.hid (PZ.out.grown HX.out.1 (by omega))
  have QW := Lib.hid (grown_over B2.out HX.out.1 (by omega))
  obtain ⟨z0, z1, _, _⟩ := PW.out.facts
  by_cases htn : t < n
  case pos =>
   have TB : decide ((t : Int) + 1 ≤ (n : Int)) = true := by simp; omega
   have tb : (t : Int) < 10 := by omega
   have t0 : 0 ≤ (t : Int) + 1 := by omega
   have CLT := Lib.hid (show ∀ W, Below w.heap.size w W → Calls Tryz.prog 120 #[.slice po n pc, .int .i64 ((t : Int) + 1)] W (Made (.agg #[.int .i64 (clk ps (t + 1)).1, .int .i64 (clk ps (t + 1)).2]) W) from fun W h => CL.out (t + 1) W (by omega) h)
   have NGT := Lib.hid (fun W => NG.out t W htn)
   have AT1 := Lib.hid (show ∀ W, Below w.heap.size w W → Calls Tryz.prog 85 #[.agg #[.int .i64 n, .slice (some a) len cap], .int .i64 ((t : Int) + 1), .int .i64 0] W (Made (.int .i64 (Zo.At n l (t + 1) 0)) W) from fun W h => AT.out (t + 1) 0 W (by omega) (by omega) h)
   have AT2 := Lib.hid (show ∀ W, Below w.heap.size w W → Calls Tryz.prog 85 #[.agg #[.int .i64 n, .slice (some a) len cap], .int .i64 0, .int .i64 ((t : Int) + 1)] W (Made (.int .i64 (Zo.At n l 0 (t + 1))) W) from fun W h => AT.out 0 (t + 1) W (by omega) (by omega) h)
   have BWT := Lib.hid (fun W h => BWc.out t htn (ryX n l ps t).1 (ryX n l ps t).2 c W (HOK.out t) h)
   have ABT := Lib.hid (fun W h => ABc.out t htn (bwX (ryX n l ps t).1 (-(gp ps t).1) (gp ps t).2 (Zo.At n l (t + 1) 0)) (bwB (ryX n l ps t).2 (-(gp ps t).1) (gp ps t).2 (Zo.At n l (t + 1) 0)) c W (bwX_ok (HOK.out t) _ _ _) h)
   have HST := Lib.hid (HSU.out t)
   have CX := Lib.hid HX.out.2
   generalize clk ps (t + 1) = ck at *
   obtain ⟨cn, cd⟩ := ck
   generalize -(gp ps t).1 = an at *
   generalize (gp ps t).2 = ad at *
   obtain ⟨ry1, hry1⟩ : ∃ y, y = ryX n l ps (t + 1) := ⟨_, rfl⟩
   rw [← hry1] at HST
   have HRY := Lib.hid hry1
   clear hry1
   generalize ryX n l ps t = ry0 at *
   generalize Zo.At n l (t + 1) 0 = u1 at *
   generalize Zo.At n l 0 (t + 1) = u2 at *
   go_wp2_with fail
   refine (CLT.out _ QW.out).mono ?_
   rintro e w3 ⟨rfl, hb⟩
   have CX := Lib.hid (CX.out.kept hb)
   have PW := Lib.hid (PW.out.kept hb)
   have G3 := Lib.hid (grown_trans HX.out.1 (grown_of hb))
   have CX3 := CX
   clear hb z0 z1
   go_wp2_with fail
   refine (NGT.out _).mono ?_
   rintro e w5 ⟨rfl, hb⟩
   obtain ⟨w6, hw6⟩ : ∃ w6, w6 = w5.alloc (.cells #[.int .i64 an, .int .i64 ad] 45) := ⟨_, rfl⟩
   have PA := Lib.hid (show Pair w6 w5.heap.size an ad by rw [hw6]; exact Pair.made _ _ _ _)
   have hb6 : Below w3.heap.size w3 w6 := by rw [hw6]; exact hb.alloc hb.size _
   have CX := Lib.hid (CX.out.kept hb6)
   have PW := Lib.hid (PW.out.kept hb6)
   have G6 := Lib.hid (grown_trans G3.out (grown_of hb6))
   have Q6 := Lib.hid (grown_over B2.out G6.out (by omega))
   have HNE := Lib.hid (show w5.heap.size ≠ c by have := CX3.out.lt; have := hb.size; omega)
   clear hb hb6 G3 CLT NGT
   go_upto_region 9 with (fail)
   rw [← hw6]
   clear hw6
   have KS := Lib.hid (show ∀ W, w6.grownBy W (some c) → ((W.cell? ⟨w5.heap.size, 0, none⟩ = some (.int .i64 an) ∧ W.cell? ⟨w5.heap.size, 1, none⟩ = some (.int .i64 ad)) ∧ (W.cell? ⟨w.heap.size, 0, none⟩ = some (.int .i64 n) ∧ W.cell? ⟨w.heap.size, 1, none⟩ = some (.slice (some a) len cap))) from fun W h => by
    have p := (PA.out.grown h HNE.out).facts
    have q := (PW.out.grown h (by omega)).facts
    exact ⟨⟨p.1, p.2.1⟩, q.1, q.2.1⟩)
   obtain ⟨wc, hwc⟩ : ∃ wc, wc = w6.drew := ⟨_, rfl⟩
   have Gc := Lib.hid (show w6.grownBy wc (some c) by rw [hwc]; exact grown_of (Below.refl _ _).drew)
   have CX := Lib.hid (show Bx wc c (chC ry0.1 ry0.2) by rw [hwc]; exact CX.out.kept (Below.refl _ _).drew)
   refine wp_region_held_drew (S := (fun W => ((W.cell? ⟨w5.heap.size, 0, none⟩ = some (.int .i64 an) ∧ W.cell? ⟨w5.heap.size, 1, none⟩ = some (.int .i64 ad)) ∧ (W.cell? ⟨w.heap.size, 0, none⟩ = some (.int .i64 n) ∧ W.cell? ⟨w.heap.size, 1, none⟩ = some (.slice (some a) len cap))))) (by kernel_rfl) (by rw [← hwc]; exact KS.out _ Gc.out) (fun h0 => ?_)
   rw [← hwc] at h0 ⊢
   clear hwc
   refine tkI (i := 0) rfl h0 ?_
   simp only [Act.put, sA, sB, sD, sE, sF]
   refine tkI (i := 1) rfl h0 ?_
   simp only [Act.put, sZ]
   refine tkI (i := 2) rfl h0 ?_
   simp only [Act.put, sZ]
   refine tkI (i := 3) rfl h0 ?_
   simp only [Act.put, sZ]
   refine wpAnyH_ready (rs := [4]) (by kernel_rfl) (by simp) (AllReadyH.cons rfl (fun K hK => ?_) AllReadyH.nil)
   rw [if_pos (by rfl)]
   go_simp
   refine (AT1.out _ (grown_over Q6.out Gc.out (by omega))).mono ?_
   rintro e wc ⟨rfl, hb⟩
   have Gc := Lib.hid (grown_trans Gc.out (grown_of (c := c) hb))
   have CX := Lib.hid (CX.out.kept hb)
   clear hb
   go_simp
   refine hK.out _ _ (KS.out _ Gc.out) (fun h0_1 => ?_)
   clear hK K h0
   refine wpAnyH_ready (rs := [5]) (by kernel_rfl) (by simp) (AllReadyH.cons rfl (fun K hK => ?_) AllReadyH.nil)
   rw [if_pos (by rfl)]
   go_simp
   refine (BWT.out _ CX.out).mono ?_
   rintro e wc ⟨rfl, hg, hx⟩
   have Gc := Lib.hid (grown_trans Gc.out hg)
   have CX := Lib.hid hx
   clear hg hx
   go_simp
   refine hK.out _ _ (KS.out _ Gc.out) (fun h0_2 => ?_)
   clear hK K h0_1
   try simp only [sF]
   try simp only [sE]
   refine wpAnyH_done (by kernel_rfl) ?_ _
   go_upto_region 10 with (fail)
   generalize wc = w7 at *
   obtain ⟨wc, hwc⟩ : ∃ wc, wc = w7.drew := ⟨_, rfl⟩
   have CX := Lib.hid (show Bx wc c _ by rw [hwc]; exact CX.out.kept (Below.refl _ _).drew)
   have Gc := Lib.hid (show w6.grownBy wc (some c) by rw [hwc]; exact grown_trans Gc.out (grown_of (Below.refl _ _).drew))
   refine wp_region_held_drew (S := (fun W => ((W.cell? ⟨w5.heap.size, 0, none⟩ = some (.int .i64 an) ∧ W.cell? ⟨w5.heap.size, 1, none⟩ = some (.int .i64 ad)) ∧ (W.cell? ⟨w.heap.size, 0, none⟩ = some (.int .i64 n) ∧ W.cell? ⟨w.heap.size, 1, none⟩ = some (.slice (some a) len cap))))) (by kernel_rfl) (by rw [← hwc]; exact KS.out _ Gc.out) (fun h0 => ?_)
   rw [← hwc] at h0 ⊢
   clear hwc
   refine tkI (i := 0) rfl h0 ?_
   simp only [Act.put, sA, sB, sD, sE, sF]
   refine tkI (i := 1) rfl h0 ?_
   simp only [Act.put, sZ]
   refine tkI (i := 2) rfl h0 ?_
   simp only [Act.put, sZ]
   refine tkI (i := 3) rfl h0 ?_
   simp only [Act.put, sZ]
   refine wpAnyH_ready (rs := [4]) (by kernel_rfl) (by simp) (AllReadyH.cons rfl (fun K hK => ?_) AllReadyH.nil)
   rw [if_pos (by rfl)]
   go_simp
   refine (AT2.out _ (grown_over Q6.out Gc.out (by omega))).mono ?_
   rintro e wc ⟨rfl, hb⟩
   have Gc := Lib.hid (grown_trans Gc.out (grown_of (c := c) hb))
   have CX := Lib.hid (CX.out.kept hb)
   clear hb
   go_simp
   refine hK.out _ _ (KS.out _ Gc.out) (fun h0_1 => ?_)
   clear hK K h0
   refine wpAnyH_ready (rs := [5]) (by kernel_rfl) (by simp) (AllReadyH.cons rfl (fun K hK => ?_) AllReadyH.nil)
   rw [if_pos (by rfl)]
   go_simp
   refine (ABT.out _ CX.out).mono ?_
   rintro e wc ⟨rfl, hg, hx⟩
   have Gc := Lib.hid (grown_trans Gc.out hg)
   have CX := Lib.hid hx
   clear hg hx
   go_simp
   refine hK.out _ _ (KS.out _ Gc.out) (fun h0_2 => ?_)
   clear hK K h0_1
   try simp only [sF]
   try simp only [sE]
   refine wpAnyH_done (by kernel_rfl) ?_ _
   have HN := Lib.hid (show w2.grownBy wc (some c) ∧ Bx wc c (chC ry1.1 ry1.2) from ⟨grown_trans G6.out Gc.out, by rw [HST.out]; exact CX.out⟩)
   go_wp2_with fail
   go_roundw
   case rel => exact ⟨t + 1, by omega, by go_num, by rw [← HRY.out]; exact HN⟩
   case measure => simp [intOf]; omega
  case neg =>
   obtain rfl : t = n := by omega
   have TB : decide ((t : Int) + 1 ≤ (t : Int)) = false := by simp; omega
   have CX := Lib.hid HX.out.2
   have RW := Lib.hid (Drow_grown RB.out HX.out.1 (by omega))
   have HOKt := Lib.hid (HOK.out t)
   have TD := Lib.hid (fun W bd h => rtold_any (ryX t l ps t).1 bd c W (HOK.out t) h)
   generalize ryX t l ps t = ry at *
   obtain ⟨x, bd⟩ := ry
   obtain ⟨y, hy⟩ : ∃ y, y = tdX x := ⟨_, rfl⟩
   obtain ⟨ye, hye⟩ : ∃ y, y = tdE x := ⟨_, rfl⟩
   have TD2 := Lib.hid (show ∀ W, Bx W c (chC x bd) → Calls Tryz.prog 126 #[.pointer (some ⟨c, 0, none⟩)] W (Made (.tuple #[.agg #[.int .i64 y.ln, .int .i64 y.ld, .int .i64 y.hn, .int .i64 y.hd, .bool y.lo, .bool y.ho, .bool y.nh], .int .i64 ye]) W) from fun W h => by
    rw [hye, hy]; exact TD.out W bd h)
   have HRS2 := Lib.hid (show rr = if bd then (Dl.zero, 7) else if mtH t 1 l ps then (y, ye) else (Dl.zero, 4) by rw [HRS.out, hy, hye])
   clear hy hye TD HRS HSU HZ0 BWc ABc NG HOK HOKt
   have c7 := CX.out.cell 7
   simp [chC] at c7
   cases bd
   case true =>
    have HR := Lib.hid (show rr = (Dl.zero, 7) by rw [HRS2.out]; rfl)
    obtain ⟨r0, r1, r2, r3, r4, r5, r6⟩ := RW.out.facts
    obtain ⟨y0, y1, y2, y3, y4, y5, y6⟩ := RW.out.frees
    go_wp2_with fail
    refine bodyPost_ret (v := .tuple #[.agg Dl.zero.cs, .int .i64 7]) (by simp [results, Tryz.results77, go_sem, Dl.cs, Dl.zero, r0, r1, r2, r3, r4, r5, r6]) rfl ⟨by rw [HR.out], ?_⟩
    exact below_seven QW.out (by omega) _ _ _ _ _ _ _
   case false =>
    have HRS3 := Lib.hid (show rr = if mtH t 1 l ps then (y, ye) else (Dl.zero, 4) by rw [HRS2.out]; rfl)
    clear HRS2 HX
    go_wp2_with fail
    clear z0 z1 c7
    obtain ⟨w1', hw1'⟩ : ∃ w1', w1' = wr := ⟨_, rfl⟩
    rw [← hw1'] at PW RW CX QW ⊢
    clear hw1'
    go_loopw [11] (fun s wx => ∃ u : Nat, u ≤ t ∧ s = .int .i64 ((u : Int) + 1) ∧ Hid (∀ i, 1 ≤ i → i < u + 1 → ∀ j, 1 ≤ j → j < t + 1 → hsM t l ps i j = true) ∧ Hid (Below w1'.heap.size w1' wx)) (fun s _ => t + 1 - (intOf s).toNat)
    case atStart => exact ⟨0, by omega, rfl, Lib.hid (fun k hk hk2 => by omega), Lib.hid (Below.refl _ _)⟩
    case round =>
     obtain ⟨i, hi, rfl, HS, HB⟩ := hrel
     obtain ⟨b0, b1, _, _⟩ := (PW.out.kept HB.out).facts
     by_cases hin : i < t
     · have TI : decide ((i : Int) + 1 ≤ (t : Int)) = true := by simp; omega
       have ti : (i : Int) < 10 := by omega
       have ti0 : 0 ≤ (i : Int) + 1 := by omega
       go_wp2_with fail
       clear b0 b1
       go_loopw [12] (fun s wx => ∃ u : Nat, u ≤ t ∧ s = .int .i64 ((u : Int) + 1) ∧ Hid (∀ j, 1 ≤ j → j < u + 1 → hsM t l ps (i + 1) j = true) ∧ Hid (Below w1'.heap.size w1' wx)) (fun s _ => t + 1 - (intOf s).toNat)
       case atStart => exact ⟨0, by omega, rfl, Lib.hid (fun k hk hk2 => by omega), HB⟩
       case round =>
        obtain ⟨j, hj, rfl, HJ, HBj⟩ := hrel
        obtain ⟨b0, b1, _, _⟩ := (PW.out.kept HBj.out).facts
        by_cases hjn : j < t
        · have TJ : decide ((j : Int) + 1 ≤ (t : Int)) = true := by simp; omega
          have tj : (j : Int) < 10 := by omega
          have tj0 : 0 ≤ (j : Int) + 1 := by omega
          have CI := Lib.hid (show ∀ W, Below w.heap.size w W → Calls Tryz.prog 120 #[.slice po t pc, .int .i64 ((i : Int) + 1)] W (Made (.agg #[.int .i64 (clk ps (i + 1)).1, .int .i64 (clk ps (i + 1)).2]) W) from fun W h => CL.out (i + 1) W (by omega) h)
          have CJ := Lib.hid (show ∀ W, Below w.heap.size w W → Calls Tryz.prog 120 #[.slice po t pc, .int .i64 ((j : Int) + 1)] W (Made (.agg #[.int .i64 (clk ps (j + 1)).1, .int .i64 (clk ps (j + 1)).2]) W) from fun W h => CL.out (j + 1) W (by omega) h)
          have mt := fun W => MT.out (i + 1) (j + 1) W (by omega) (by omega)
          have sb := fun W => SB.out (i + 1) (j + 1) W (by omega) (by omega)
          have AT2 := Lib.hid (show ∀ W, Below w.heap.size w W → Calls Tryz.prog 85 #[.agg #[.int .i64 t, .slice (some a) len cap], .int .i64 ((i : Int) + 1), .int .i64 ((j : Int) + 1)] W (Made (.int .i64 (Zo.At t l (i + 1) (j + 1))) W) from fun W h => AT.out (i + 1) (j + 1) W (by omega) (by omega) h)
          have hM : hsM t l ps (i + 1) (j + 1) = meB (sbN ps (i + 1) (j + 1)) (sbD ps (i + 1) (j + 1)) (Zo.At t l (i + 1) (j + 1)) := rfl
          generalize meB (sbN ps (i + 1) (j + 1)) (sbD ps (i + 1) (j + 1)) (Zo.At t l (i + 1) (j + 1)) = mb at mt hM
          generalize meE (sbN ps (i + 1) (j + 1)) (sbD ps (i + 1) (j + 1)) (Zo.At t l (i + 1) (j + 1)) = me at mt
          generalize sbN ps (i + 1) (j + 1) = sn at *
          generalize sbD ps (i + 1) (j + 1) = sd at *
          generalize Zo.At t l (i + 1) (j + 1) = lv at *
          generalize clk ps (i + 1) = ci at *
          generalize clk ps (j + 1) = cj at *
          obtain ⟨cin, cid⟩ := ci
          obtain ⟨cjn, cjd⟩ := cj
          have MT2 := Lib.hid mt
          have SB2 := Lib.hid sb
          have HM := Lib.hid hM
          clear mt sb hM
          go_wp2_with fail
          refine (CI.out _ (below_on QW.out HBj.out)).mono ?_
          rintro e w3 ⟨rfl, hb3⟩
          have q3 := below_on HBj.out hb3
          clear hb3 b0 b1
          go_wp2_with fail
          refine (CJ.out _ (below_on QW.out q3)).mono ?_
          rintro e w4 ⟨rfl, hb4⟩
          have q4 := below_on q3 hb4
          clear hb4 q3
          go_wp2_with fail
          refine (SB2.out _).mono ?_
          rintro e w5 ⟨rfl, hb5⟩
          have q5 := below_on q4 hb5
          clear hb5 q4
          obtain ⟨w6, hw6⟩ : ∃ w6, w6 = w5.alloc (.cells #[.int .i64 sn, .int .i64 sd] 45) := ⟨_, rfl⟩
          have pD : Pair w6 w5.heap.size sn sd := by rw [hw6]; exact Pair.made _ _ _ _
          have q6 : Below w1'.heap.size w1' w6 := by rw [hw6]; exact q5.alloc q5.size _
          have bx6 := PW.out.kept q6
          have KS := Lib.hid (show ∀ W : World, Below w6.heap.size w6 W → (W.cell? ⟨w5.heap.size, 0, none⟩ = some (.int .i64 sn) ∧ W.cell? ⟨w5.heap.size, 1, none⟩ = some (.int .i64 sd)) ∧ (W.cell? ⟨w.heap.size, 0, none⟩ = some (.int .i64 t) ∧ W.cell? ⟨w.heap.size, 1, none⟩ = some (.slice (some a) len cap)) from
           fun W h => ⟨⟨(pD.kept h).facts.1, (pD.kept h).facts.2.1⟩, (bx6.kept h).facts.1, (bx6.kept h).facts.2.1⟩)
          have Q6 := Lib.hid q6
          clear q5 q6 pD bx6
          go_upto_region 20 with (fail)
          rw [← hw6]
          clear hw6
          have s1 : Below w6.heap.size w6 w6.drew := (Below.refl _ _).drew
          go_region_held3 (fun w' => (w'.cell? ⟨w5.heap.size, 0, none⟩ = some (.int .i64 sn) ∧ w'.cell? ⟨w5.heap.size, 1, none⟩ = some (.int .i64 sd)) ∧ (w'.cell? ⟨w.heap.size, 0, none⟩ = some (.int .i64 t) ∧ w'.cell? ⟨w.heap.size, 1, none⟩ = some (.slice (some a) len cap))) (first | exact KS.out _ s1 | exact KS.out _ s7 | exact KS.out _ s8)
           (first | (go_at_call 85; refine (AT2.out _ (below_on QW.out (below_on Q6.out s1))).mono ?_; rintro e w7 ⟨rfl, hb7⟩; have s7 := below_on s1 hb7) | (go_at_call 121; refine (MT2.out _).mono ?_; rintro e w8 ⟨rfl, hb8⟩; have s8 := below_on s7 hb8))
          have Q8 := Lib.hid (below_on Q6.out s8)
          clear s1 s7 s8 hb7 hb8
          cases mb
          · have HR := Lib.hid (show rr = (Dl.zero, 4) by
             rw [HRS3.out, if_neg]
             intro q
             have := mtH_iff.1 q (i + 1) (by omega) (by omega) (j + 1) (by omega) (by omega)
             rw [HM.out] at this; cases this)
            have RX := RW.out.kept Q8.out
            obtain ⟨r0, r1, r2, r3, r4, r5, r6⟩ := RX.facts
            obtain ⟨y0, y1, y2, y3, y4, y5, y6⟩ := RX.frees
            go_wp2_with fail
            refine bodyPost_ret (v := .tuple #[.agg Dl.zero.cs, .int .i64 4]) (by simp [results, Tryz.results77, go_sem, Dl.cs, Dl.zero, r0, r1, r2, r3, r4, r5, r6]) rfl ⟨by rw [HR.out], ?_⟩
            exact below_seven (below_on QW.out Q8.out) (by omega) _ _ _ _ _ _ _
          · go_wp2_with fail
            go_roundw
            case rel =>
             refine ⟨j + 1, by omega, by go_num, Lib.hid (fun k hk hk2 => ?_), Q8⟩
             by_cases e : k = j + 1
             · rw [e]; exact HM.out
             · exact HJ.out k hk (by omega)
            case measure => simp [intOf]; omega
        · obtain rfl : j = t := by omega
          have TJ : decide ((j : Int) + 1 ≤ (j : Int)) = false := by simp; omega
          have HS3 := Lib.hid (show ∀ x, 1 ≤ x → x < i + 1 + 1 → ∀ k, 1 ≤ k → k < j + 1 → hsM j l ps x k = true from fun x hx1 hx y hy1 hy => by
           by_cases e : x = i + 1
           · rw [e]; exact HJ.out y hy1 hy
           · exact HS.out x hx1 (by omega) y hy1 hy)
          go_wp2_with fail
          go_roundw
          case rel => exact ⟨i + 1, by omega, by go_num, HS3, HBj⟩
          case measure => simp [intOf]; omega
     · have HE := Lib.hid (show rr = (y, ye) by
        rw [HRS3.out, if_pos]
        exact mtH_iff.2 (fun u hu hu2 v hv hv2 => HS.out u hu (by omega) v hv hv2))
       have TI : decide ((i : Int) + 1 ≤ (t : Int)) = false := by simp; omega
       go_wp2_with fail
       refine (TD2.out _ (CX.out.kept HB.out)).mono ?_
       rintro e w9 ⟨rfl, hb9⟩
       have RX := RW.out.kept (below_on HB.out hb9)
       have Q9 := Lib.hid (below_on QW.out (below_on HB.out hb9))
       clear hb9
       obtain ⟨r0, r1, r2, r3, r4, r5, r6⟩ := RX.facts
       obtain ⟨y0, y1, y2, y3, y4, y5, y6⟩ := RX.frees
       go_wp2_with fail
       refine bodyPost_ret (v := .tuple #[.agg y.cs, .int .i64 ye]) (by simp [results, Tryz.results77, go_sem, Dl.cs, Dl.zero, r0, r1, r2, r3, r4, r5, r6]) rfl ⟨by rw [HE.out], ?_⟩
       exact below_seven Q9.out (by omega) _ _ _ _ _ _ _
end Go.Proofs.YthjapmdfcbngmaaGreat
