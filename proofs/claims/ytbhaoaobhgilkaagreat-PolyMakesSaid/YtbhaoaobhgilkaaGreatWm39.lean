/- The contract of bounds of layer 7's reference. -/
import Derived.Test.YtbhaoaobhgilkaaGreatWm3
import Derived.Test.YtbhaoaobhgilkaaGreatWm38
import Derived.Test.YtbhaoaobhgilkaaGreatWm24

namespace Go.Proofs.YtbhaoaobhgilkaaGreat
open Go.RowKit Go.Sort Go.Shelf

section
variable (x y : Pq) (w : World) (hx : I2 x) (hy : I2 y)
include hx hy

theorem rsubP_any : Calls Tryz.prog 110 #[.agg #[.int .i64 x.1, .int .i64 x.2], .agg #[.int .i64 y.1, .int .i64 y.2]] w (Made (.tuple #[.agg #[.int .i64 (sbR x y).1, .int .i64 (sbR x y).2], .int .i64 (sbE x y)]) w) := refSub_any _ _ _ _ w hx.1 hx.2 hy.1 hy.2

theorem rdivP_any : Calls Tryz.prog 111 #[.agg #[.int .i64 x.1, .int .i64 x.2], .agg #[.int .i64 y.1, .int .i64 y.2]] w (Made (.tuple #[.agg #[.int .i64 (dvR x y).1, .int .i64 (dvR x y).2], .int .i64 (dvE x y)]) w) := refDiv_any _ _ _ _ w hx.1 hx.2 hy.1 hy.2

end

def RowC (w : World) (q : Nat) (cs : List Value) : Prop := w.heap[q]? = some (.cells ⟨cs⟩ 98 (0, 0))

theorem RowC.lt {w : World} {q : Nat} {cs : List Value} (h : RowC w q cs) : q < w.heap.size := by
  by_cases e : q < w.heap.size
  · exact e
  · unfold RowC at h; rw [Array.getElem?_eq_none (by omega)] at h; cases h

theorem RowC.cell {w : World} {q : Nat} {cs : List Value} (h : RowC w q cs) (j : Nat) : w.cell? ⟨q, j, none⟩ = cs[j]? := by rw [cell_of_row w q j _ _ _ h]; simp

theorem RowC.free {w : World} {q : Nat} {cs : List Value} (h : RowC w q cs) (j : Nat) : w.frozen? ⟨q, j, none⟩ = false := frozen_of_row w q j _ _ h

theorem RowC.put {w : World} {q : Nat} {cs : List Value} (h : RowC w q cs) (j : Nat) (v : Value) : RowC (w.setCell ⟨q, j, none⟩ v) q (cs.set j v) := by
  unfold RowC
  rw [heap_setCell_same w q _ _ _ _ h]
  simp

theorem RowC.kept {w w' : World} {q : Nat} {cs : List Value} (h : RowC w q cs) (hb : Below w.heap.size w w') : RowC w' q cs := (hb.block q h.lt).trans h

theorem RowC.made (w : World) (cs : List Value) : RowC (w.alloc (.cells ⟨cs⟩ 98)) w.heap.size cs := heap_alloc_last w _

def EsC (lo up : En) : List Value := [.int .i64 lo.v.1, .int .i64 lo.v.2, .int .i64 up.v.1, .int .i64 up.v.2, .bool lo.ex, .bool up.ex, .bool lo.op, .bool up.op]

theorem gb_put {q : Nat} {A B : World} (h : GB q A B) (j : Nat) (v : Value) : GB q A (B.setCell ⟨q, j, none⟩ v) :=
  ⟨h.os, h.tape, h.output, Nat.le_trans h.size (by simp), fun k hk hn => (heap_setCell_other B ⟨q, j, none⟩ k v (fun e => hn (by rw [e]))).trans (h.block k hk hn)⟩

def rbL (c : En) (f : Pq) (s : Bool) : En := if !c.ex || decide (0 < cmR f c.v) then ⟨f, true, s⟩ else if cmR f c.v = 0 then ⟨c.v, c.ex, c.op || s⟩ else c

def rbH (c : En) (f : Pq) (s : Bool) : En := if !c.ex || decide (cmR f c.v < 0) then ⟨f, true, s⟩ else if cmR f c.v = 0 then ⟨c.v, c.ex, c.op || s⟩ else c

def rbS (x : Ln) (i : Nat) (P : List Pq) (e : En × En) : En × En := if 0 < gA x.a i then (e.1, rbH e.2 (fdV x i P) x.s) else (rbL e.1 (fdV x i P) x.s, e.2)

def BdR (er : Int) (cs : List Value) (q : Nat) (w : World) (e : Ending) (w' : World) : Prop := (er = 0 ∧ e = .returned (.int .i64 0) ∧ RowC w' q cs ∧ GB q w w') ∨ (er ≠ 0 ∧ e = .returned (.int .i64 er) ∧ Below w.heap.size w w')

set_option maxRecDepth 100000 in
set_option maxHeartbeats 8000000 in
theorem rbounds_any (y : AV) (P : List Pq) (lo up : En) (q : Nat) (po : Option Addr) (pc : Nat) (w : World) (hE : RowC w q (EsC lo up)) (hl : P.length < y.a.length) (hl2 : y.a.length ≤ 1000) (hR : Rd1 w y.q y.a) (hS : Rd2 w po P) (hI : ∀ v ∈ y.a, I64 v) (hb : I64 y.b) (hP : ∀ t, t < P.length → I2 (gp P t)) (hlo : I2 lo.v) (hup : I2 up.v) :
    Calls Tryz.prog 74 #[.pointer (some ⟨q, 0, none⟩), .agg y.cs, .slice po P.length pc] w (BdR (fdE (lnV y) P.length P) (EsC (rbS (lnV y) P.length P (lo, up)).1 (rbS (lnV y) P.length P (lo, up)).2) q w) := by
  obtain ⟨w0, hw0⟩ : ∃ w0, w0 = w.alloc (.cells y.cs 25) := ⟨_, rfl⟩
  have E0 := Lib.hid (show Below w.heap.size w w0 by rw [hw0]; exact one_more _)
  have K0 := Lib.hid (show BkV w0 w.heap.size y by rw [hw0]; exact BkV.made w y)
  have QL := Lib.hid hE.lt
  have ER := Lib.hid (hE.kept E0.out)
  have TO := Lib.hid (fun W (h : Below w0.heap.size w0 W) => rtotal_any y P po pc W (by omega) hl2 ((hR.on E0.out).on h) ((hS.on E0.out).on h) hI hP)
  have RN := Lib.hid (hR.on E0.out)
  obtain ⟨i, hi⟩ : ∃ i, i = P.length := ⟨_, rfl⟩
  obtain ⟨u, hu⟩ : ∃ u, u = gA y.a i := ⟨_, rfl⟩
  have il : i < y.a.length := by omega
  obtain ⟨pa, epa, ca⟩ := RN.out i il
  rw [← hu] at ca
  have CA := Lib.hid ca
  obtain ⟨at1, ha1⟩ : ∃ a, a = atN y.a P i := ⟨_, rfl⟩
  have A64 := Lib.hid (show I2 at1.1 by rw [ha1]; exact atN_64 _ _ _)
  have TR := Lib.hid (show at1.2 = 0 → totR y.a P i = at1.1 from fun h => by unfold totR; rw [← ha1, if_pos h])
  have HB := Lib.hid (wh_64 hb)
  have HU := Lib.hid (show I2 (u, 1) from wh_64 (by rw [hu]; exact hI _ (gA_mem il)))
  obtain ⟨ee, hee⟩ : ∃ ee, ee = fdE (lnV y) i P := ⟨_, rfl⟩
  obtain ⟨f, hf⟩ : ∃ f, f = fdV (lnV y) i P := ⟨_, rfl⟩
  have FE1 := Lib.hid (show at1.2 ≠ 0 → ee = at1.2 from fun h => by rw [hee]; unfold fdE lnV; simp only; rw [← hi, ← ha1, if_pos h])
  have FE2 := Lib.hid (show at1.2 = 0 → sbE (y.b, 1) at1.1 ≠ 0 → ee = sbE (y.b, 1) at1.1 from fun h k => by rw [hee]; unfold fdE lnV; simp only; rw [← hi, ← ha1, if_neg (fun q => q h), if_pos k])
  have FE3 := Lib.hid (show at1.2 = 0 → sbE (y.b, 1) at1.1 = 0 → ee = dvE (sbR (y.b, 1) at1.1) (u, 1) from fun h k => by rw [hee]; unfold fdE lnV; simp only; rw [← hi, ← ha1, if_neg (fun q => q h), if_neg (fun q => q k), hu])
  have FV := Lib.hid (show f = dvR (sbR (y.b, 1) at1.1) (u, 1) by rw [hf]; unfold fdV lnV; simp only; rw [← hi, ← ha1, hu])
  have F64 := Lib.hid (show I2 f by rw [hf]; exact fdV_64 _ _ _)
  have RS1 := Lib.hid (show 0 < u → rbS (lnV y) i P (lo, up) = (lo, rbH up f y.s) from fun h => by unfold rbS; rw [if_pos (by show 0 < gA y.a i; rw [← hu]; exact h), ← hf]; rfl)
  have RS2 := Lib.hid (show ¬ 0 < u → rbS (lnV y) i P (lo, up) = (rbL lo f y.s, up) from fun h => by unfold rbS; rw [if_neg (by show ¬ 0 < gA y.a i; rw [← hu]; exact h), ← hf]; rfl)
  rw [← hi] at TO ⊢
  rw [← hee]
  have yl : (i : Int) < (y.a.length : Int) := by omega
  have YL := Lib.hid yl
  obtain ⟨yn, hyn⟩ : ∃ yn, yn = y.a.length := ⟨_, rfl⟩
  have KC := Lib.hid (show ∀ W, Below w0.heap.size w0 W → W.cell? ⟨w.heap.size, 0, none⟩ = some (.slice (some pa) yn y.c) ∧ W.cell? ⟨w.heap.size, 1, none⟩ = some (.int .i64 y.b) ∧ W.cell? ⟨w.heap.size, 2, none⟩ = some (.bool y.s) ∧ W.cell? (pa.add i) = some (.int .i64 u) from fun W h => by
    obtain ⟨k0, k1, k2⟩ := (K0.out.kept h).facts
    exact ⟨by rw [k0, ← epa, hyn], k1, k2, kept h CA.out⟩)
  have SU := Lib.hid (fun W => rsubP_any (y.b, 1) at1.1 W HB.out A64.out)
  have DV := Lib.hid (fun W => rdivP_any (sbR (y.b, 1) at1.1) (u, 1) W (sbR_64 _ _) HU.out)
  have CH := Lib.hid (fun W => rcmpP_any f up.v W F64.out hup)
  have CL := Lib.hid (fun W => rcmpP_any f lo.v W F64.out hlo)
  rw [← ha1] at TO
  rw [← FV.out] at DV
  obtain ⟨sb, hsb⟩ : ∃ sb, sb = sbR (y.b, 1) at1.1 := ⟨_, rfl⟩
  obtain ⟨sbe, hsbe⟩ : ∃ sbe, sbe = sbE (y.b, 1) at1.1 := ⟨_, rfl⟩
  obtain ⟨dve, hdve⟩ : ∃ dve, dve = dvE (sbR (y.b, 1) at1.1) (u, 1) := ⟨_, rfl⟩
  rw [← hsb, ← hsbe] at SU
  rw [← hdve, ← hsb] at DV
  rw [← hsbe] at FE2 FE3
  rw [← hdve] at FE3
  obtain ⟨tr, htr⟩ : ∃ tr, tr = totR y.a P i := ⟨_, rfl⟩
  rw [← htr] at TO TR
  obtain ⟨ate, hate⟩ : ∃ ate, ate = at1.2 := ⟨_, rfl⟩
  obtain ⟨atv, hatv⟩ : ∃ atv, atv = at1.1 := ⟨_, rfl⟩
  rw [← hate] at TO FE1 FE2 FE3
  rw [← hate, ← hatv] at TR
  rw [← hatv] at SU
  have YC := Lib.hid hyn
  rw [← hyn] at YL yl
  clear hR hS hE hl hl2 hI hb hP hlo hup hi hu ha1 il epa ca hee hf hyn hsb hsbe hdve htr hate hatv RN HB A64 FV
  obtain ⟨yb, hyb⟩ : ∃ b, b = y.b := ⟨_, rfl⟩
  obtain ⟨ys, hys⟩ : ∃ s, s = y.s := ⟨_, rfl⟩
  rw [← hyb, ← hys] at KC
  rw [← hyb] at SU
  rw [← hys] at RS1 RS2
  clear hyb hys
  go_enter Tryz.func74, Tryz.ntmps74
  go_upto_region 1 with (fail)
  rw [← hw0]
  clear hw0
  go_wp2_with (refine wpl_loadV rfl _ rfl _ rfl y K0.out.avAt ?_)
  refine (TO.out w0 (Below.refl _ _)).mono ?_
  rintro e w1 ⟨rfl, hb⟩
  have B1 := Lib.hid hb
  obtain ⟨w2, hw2⟩ : ∃ w2, w2 = w1.alloc (.cells #[.int .i64 tr.1, .int .i64 tr.2] 50) := ⟨_, rfl⟩
  obtain ⟨b7, hb7⟩ : ∃ b7, b7 = w1.heap.size := ⟨_, rfl⟩
  have P2 := Lib.hid (show Pair w2 b7 tr.1 tr.2 by rw [hw2, hb7]; exact Pair.made _ _ _ _)
  have B2 := Lib.hid (show Below w0.heap.size w0 w2 by rw [hw2]; exact B1.out.alloc B1.out.size _)
  have Z7 := Lib.hid (show w0.heap.size ≤ b7 by rw [hb7]; exact B1.out.size)
  clear hb TO
  go_upto_region 2 with (fail)
  rw [← hw2, ← hb7]
  clear hw2 hb7
  by_cases a0 : ate = 0
  case neg =>
    have a1 : (ate != 0) = true := by simpa using a0
    have RX := Lib.hid (show ee = ate from FE1.out a0)
    have NE := Lib.hid a0
    clear a0
    go_wp2_with fail
    go_ret
    exact Or.inr ⟨by rw [RX.out]; exact NE.out, by rw [RX.out]; rfl, below_on E0.out B2.out⟩
  have a1 : (ate != 0) = false := by simpa using a0
  have T1 := Lib.hid (TR.out a0)
  have FE2 := Lib.hid (FE2.out a0)
  have FE3 := Lib.hid (FE3.out a0)
  rw [T1.out] at P2 ⊢
  clear TR FE1 a0 T1
  obtain ⟨k0, k1, k2, k3⟩ := KC.out w2 B2.out
  obtain ⟨f0, f1, _, _⟩ := P2.out.facts
  go_upto_region 4 with (fail)
  go_wp2_with fail
  refine (SU.out w2).mono ?_
  rintro e w3 ⟨rfl, hb⟩
  have B3 := Lib.hid (below_on B2.out hb)
  have P3 := Lib.hid (P2.out.kept hb)
  clear hb SU k0 k1 k2 k3 f0 f1
  obtain ⟨f0, f1, f2, f3⟩ := P3.out.facts
  obtain ⟨w4, hw4⟩ : ∃ w4, w4 = (w3.setCell ⟨b7, 0, none⟩ (.int .i64 sb.1)).setCell ⟨b7, 1, none⟩ (.int .i64 sb.2) := ⟨_, rfl⟩
  have P4 := Lib.hid (show Pair w4 b7 sb.1 sb.2 by rw [hw4]; exact P3.out.put _ _)
  have B4 := Lib.hid (show Below w0.heap.size w0 w4 by rw [hw4]; exact below_put B3.out Z7.out _ _)
  go_upto_region 5 with (fail)
  rw [← hw4]
  clear hw4 f0 f1 f2 f3
  by_cases a0 : sbe = 0
  case neg =>
    have a2 : (sbe != 0) = true := by simpa using a0
    have RX := Lib.hid (show ee = sbe from FE2.out a0)
    have NE := Lib.hid a0
    clear a0
    go_wp2_with fail
    go_ret
    exact Or.inr ⟨by rw [RX.out]; exact NE.out, by rw [RX.out]; rfl, below_on E0.out B4.out⟩
  have a2 : (sbe != 0) = false := by simpa using a0
  have FE3 := Lib.hid (FE3.out a0)
  clear FE2 a0
  go_upto_region 7 with (fail)
  go_cut [8] (fun s wx => s = .int .i64 dve ∧ Hid (Pair wx b7 f.1 f.2) ∧ Hid (Below w0.heap.size w0 wx))
  case first =>
    obtain ⟨wc, hwc⟩ : ∃ wc, wc = w4.drew := ⟨_, rfl⟩
    have Bc := Lib.hid (show Below w0.heap.size w0 wc by rw [hwc]; exact B4.out.drew)
    have P5 := Lib.hid (show Pair wc b7 sb.1 sb.2 by rw [hwc]; exact P4.out.kept (Below.refl _ _).drew)
    refine wp_region_held_drew (S := (fun W => (W.cell? ⟨w.heap.size, 0, none⟩ = some (.slice (some pa) yn y.c) ∧ W.cell? (pa.add i) = some (.int .i64 u)))) (by kernel_rfl) (by rw [← hwc]; exact ⟨(KC.out _ Bc.out).1, (KC.out _ Bc.out).2.2.2⟩) (fun h0 => ?_)
    rw [← hwc] at h0 ⊢
    clear hwc
    refine tkH (i := 1) (v := ?v1) rfl (Or.inl ⟨by rfl, ?hy1⟩) h0 ?rest1
    case hy1 => (intro w' hS; (try dsimp only at hS); go_simp; try (with_reducible rfl))
    simp only [Act.put, sZ]
    refine tkH (i := 2) (v := ?v2) rfl (Or.inl ⟨by rfl, ?hy2⟩) h0 ?rest2
    case hy2 => (intro w' hS; (try dsimp only at hS); go_simp; try (with_reducible rfl))
    simp only [Act.put, sZ]
    refine tkH (i := 3) (v := ?v3) rfl (Or.inl ⟨by rfl, ?hy3⟩) h0 ?rest3
    case hy3 => (intro w' hS; (try dsimp only at hS); go_simp; try (with_reducible rfl))
    simp only [Act.put, sZ]
    refine tkH (i := 4) (v := ?v4) rfl (Or.inl ⟨by rfl, ?hy4⟩) h0 ?rest4
    case hy4 => (intro w' hS; (try dsimp only at hS); go_simp; try (with_reducible rfl))
    simp only [Act.put, sZ]
    refine tkH (i := 5) (v := ?v5) rfl (Or.inl ⟨by rfl, ?hy5⟩) h0 ?rest5
    case hy5 => (intro w' hS; (try dsimp only at hS); go_simp; try (with_reducible rfl))
    simp only [Act.put, sZ]
    refine tkH (i := 6) (v := ?v6) rfl (Or.inl ⟨by rfl, ?hy6⟩) h0 ?rest6
    case hy6 => (intro w' hS; (try dsimp only at hS); go_simp; try (with_reducible rfl))
    simp only [Act.put, sZ]
    refine tkH (i := 7) (v := ?v7) rfl (Or.inl ⟨by rfl, ?hy7⟩) h0 ?rest7
    case hy7 => (intro w' hS; (try dsimp only at hS); go_simp; try (with_reducible rfl))
    simp only [Act.put, sZ]
    refine wpAnyH_ready (rs := [0]) (by kernel_rfl) (by simp) (AllReadyH.cons rfl (fun K hK => ?_) AllReadyH.nil)
    rw [if_pos (by rfl)]
    refine wp_loadQ _ rfl _ rfl sb P5.out.qAt ?_
    try simp only [Act.put, sA, sB, sD, sE, sF]
    refine hK.out _ _ (⟨(KC.out _ Bc.out).1, (KC.out _ Bc.out).2.2.2⟩) (fun h0_1 => ?_)
    clear hK K h0
    refine wpAnyH_ready (rs := [8]) (by kernel_rfl) (by simp) (AllReadyH.cons rfl (fun K hK => ?_) AllReadyH.nil)
    rw [if_pos (by rfl)]
    go_simp
    refine (DV.out wc).mono ?_
    rintro e wc ⟨rfl, hb⟩
    have P5 := Lib.hid (P5.out.kept hb)
    have Bc := Lib.hid (below_on Bc.out hb)
    clear hb
    go_simp
    refine hK.out _ _ (⟨(KC.out _ Bc.out).1, (KC.out _ Bc.out).2.2.2⟩) (fun h0_2 => ?_)
    clear hK K h0_1
    refine tkH (i := 9) (v := ?v8) rfl (Or.inl ⟨by rfl, ?hy8⟩) h0_2 ?rest8
    case hy8 => (intro w' hS; (try dsimp only at hS); go_simp; try (with_reducible rfl))
    simp only [Act.put, sZ]
    refine tkH (i := 10) (v := ?v9) rfl (Or.inl ⟨by rfl, ?hy9⟩) h0_2 ?rest9
    case hy9 => (intro w' hS; (try dsimp only at hS); go_simp; try (with_reducible rfl))
    simp only [Act.put, sZ]
    refine tkH (i := 11) (v := ?v10) rfl (Or.inl ⟨by rfl, ?hy10⟩) h0_2 ?rest10
    case hy10 => (intro w' hS; (try dsimp only at hS); go_simp; try (with_reducible rfl))
    simp only [Act.put, sZ]
    refine wpAnyH_ready (rs := [12]) (by kernel_rfl) (by simp) (AllReadyH.cons rfl (fun K hK => ?_) AllReadyH.nil)
    rw [if_pos (by rfl)]
    go_simp
    obtain ⟨f0, f1, f2, f3⟩ := P5.out.facts
    have P6 := Lib.hid (P5.out.put f.1 f.2)
    have B6 := Lib.hid (below_put Bc.out Z7.out (.int .i64 f.1) (.int .i64 f.2))
    go_simp
    refine hK.out _ _ (⟨(KC.out _ B6.out).1, (KC.out _ B6.out).2.2.2⟩) (fun h0_3 => ?_)
    clear hK K h0_2
    clear f0 f1 f2 f3
    refine tkH (i := 13) (v := ?v11) rfl (Or.inl ⟨by rfl, ?hy11⟩) h0_3 ?rest11
    case hy11 => (intro w' hS; (try dsimp only at hS); go_simp; try (with_reducible rfl))
    simp only [Act.put, sA, sB, sC, sD]
    try simp only [sF]
    try simp only [sE]
    refine wpAnyH_done (by kernel_rfl) ?_ _
    go_wp2_with fail
    go_meet
    case rel => exact ⟨rfl, P6, B6⟩
  case rest =>
  obtain ⟨rfl, P6, B6⟩ := hcut
  generalize wc = w5 at *
  clear P2 P3 P4 B1 B2 B3 B4 DV
  by_cases a0 : dve = 0
  case neg =>
    have a3 : (dve != 0) = true := by simpa using a0
    have RX := Lib.hid (show ee = dve from FE3.out)
    have NE := Lib.hid a0
    clear a0
    go_wp2_with fail
    go_ret
    exact Or.inr ⟨by rw [RX.out]; exact NE.out, by rw [RX.out]; rfl, below_on E0.out B6.out⟩
  have a3 : (dve != 0) = false := by simpa using a0
  have EZ := Lib.hid (show ee = 0 from FE3.out.trans a0)
  clear a0 FE3
  obtain ⟨k0, k1, k2, k3⟩ := KC.out w5 B6.out
  have LX : (i : Int) < (yn : Int) := YL.out
  by_cases hu : 0 < u
  · have HX := Lib.hid (RS1.out (by omega))
    have E6 := Lib.hid (ER.out.kept B6.out)
    have CR := Lib.hid (show ∀ W, Below w5.heap.size w5 W → W.cell? ⟨q, 2, none⟩ = some (.int .i64 up.v.1) ∧ W.cell? ⟨q, 3, none⟩ = some (.int .i64 up.v.2) ∧ W.cell? ⟨b7, 0, none⟩ = some (.int .i64 f.1) ∧ W.cell? ⟨b7, 1, none⟩ = some (.int .i64 f.2) from fun W h => ⟨kept h (E6.out.cell 2), kept h (E6.out.cell 3), kept h P6.out.facts.1, kept h P6.out.facts.2.1⟩)
    go_upto_region 11 with (fail)
    clear k0 k1 k2 k3
    go_cut [9, 10] (fun s1 s2 wx => s1 = .int .i64 (cmR f up.v) ∧ s2 = .int .i64 (cmE f up.v) ∧ Hid (Below w5.heap.size w5 wx))
    case first =>
      obtain ⟨wc, hwc⟩ : ∃ wc, wc = w5.drew := ⟨_, rfl⟩
      have Bc := Lib.hid (show Below w5.heap.size w5 wc by rw [hwc]; exact (Below.refl _ _).drew)
      refine wp_region_held_drew (S := (fun W => (W.cell? ⟨q, 2, none⟩ = some (.int .i64 up.v.1) ∧ W.cell? ⟨q, 3, none⟩ = some (.int .i64 up.v.2) ∧ W.cell? ⟨b7, 0, none⟩ = some (.int .i64 f.1) ∧ W.cell? ⟨b7, 1, none⟩ = some (.int .i64 f.2)))) (by kernel_rfl) (by rw [← hwc]; exact CR.out _ Bc.out) (fun h0 => ?_)
      rw [← hwc] at h0 ⊢
      clear hwc
      refine tkH (i := 0) (v := ?v12) rfl (Or.inl ⟨by rfl, ?hy12⟩) h0 ?rest12
      case hy12 => (intro w' hS; (try dsimp only at hS); go_simp; try (with_reducible rfl))
      simp only [Act.put, sA, sB, sD, sE, sF]
      refine tkH (i := 1) (v := ?v13) rfl (Or.inl ⟨by rfl, ?hy13⟩) h0 ?rest13
      case hy13 => (intro w' hS; (try dsimp only at hS); go_simp; try (with_reducible rfl))
      simp only [Act.put, sZ]
      refine tkH (i := 2) (v := ?v14) rfl (Or.inl ⟨by rfl, ?hy14⟩) h0 ?rest14
      case hy14 => (intro w' hS; (try dsimp only at hS); go_simp; try (with_reducible rfl))
      simp only [Act.put, sZ]
      refine tkH (i := 3) (v := ?v15) rfl (Or.inl ⟨by rfl, ?hy15⟩) h0 ?rest15
      case hy15 => (intro w' hS; (try dsimp only at hS); go_simp; try (with_reducible rfl))
      simp only [Act.put, sZ]
      refine tkH (i := 4) (v := ?v16) rfl (Or.inl ⟨by rfl, ?hy16⟩) h0 ?rest16
      case hy16 => (intro w' hS; (try dsimp only at hS); go_simp; try (with_reducible rfl))
      simp only [Act.put, sZ]
      refine wpAnyH_ready (rs := [5]) (by kernel_rfl) (by simp) (AllReadyH.cons rfl (fun K hK => ?_) AllReadyH.nil)
      rw [if_pos (by rfl)]
      go_simp
      refine (CH.out wc).mono ?_
      rintro e wc ⟨rfl, hb⟩
      have Bc := Lib.hid (below_on Bc.out hb)
      clear hb
      go_simp
      refine hK.out _ _ (CR.out _ Bc.out) (fun h0_1 => ?_)
      clear hK K h0
      refine tkH (i := 6) (v := ?v17) rfl (Or.inl ⟨by rfl, ?hy17⟩) h0_1 ?rest17
      case hy17 => (intro w' hS; (try dsimp only at hS); go_simp; try (with_reducible rfl))
      simp only [Act.put, sZ]
      refine tkH (i := 7) (v := ?v18) rfl (Or.inl ⟨by rfl, ?hy18⟩) h0_1 ?rest18
      case hy18 => (intro w' hS; (try dsimp only at hS); go_simp; try (with_reducible rfl))
      simp only [Act.put, sZ]
      refine tkH (i := 8) (v := ?v19) rfl (Or.inl ⟨by rfl, ?hy19⟩) h0_1 ?rest19
      case hy19 => (intro w' hS; (try dsimp only at hS); go_simp; try (with_reducible rfl))
      simp only [Act.put, sZ]
      refine tkH (i := 9) (v := ?v20) rfl (Or.inl ⟨by rfl, ?hy20⟩) h0_1 ?rest20
      case hy20 => (intro w' hS; (try dsimp only at hS); go_simp; try (with_reducible rfl))
      simp only [Act.put, sZ]
      refine tkH (i := 10) (v := ?v21) rfl (Or.inl ⟨by rfl, ?hy21⟩) h0_1 ?rest21
      case hy21 => (intro w' hS; (try dsimp only at hS); go_simp; try (with_reducible rfl))
      simp only [Act.put, sA, sB, sC, sD]
      try simp only [sF]
      try simp only [sE]
      refine wpAnyH_done (by kernel_rfl) ?_ _
      go_wp2_with fail
      go_meet
      case rel => exact ⟨rfl, rfl, Bc⟩
    case rest =>
    obtain ⟨rfl, rfl, BX⟩ := hcut
    generalize wc = w6 at *
    have E7 := Lib.hid (E6.out.kept BX.out)
    have P7 := Lib.hid (P6.out.kept BX.out)
    have B7 := Lib.hid (below_on B6.out BX.out)
    have G7 := Lib.hid (show GB q w w6 from GB.below (below_on E0.out B7.out))
    obtain ⟨k0, k1, k2, k3⟩ := KC.out w6 B7.out
    have e4 : w6.cell? ⟨q, 5, none⟩ = some (.bool up.ex) := E7.out.cell 5
    have e6 : w6.cell? ⟨q, 7, none⟩ = some (.bool up.op) := E7.out.cell 7
    have NQ := Lib.hid (show b7 ≠ q ∧ w.heap.size ≠ q from ⟨by have := QL.out; have := Z7.out; have := E0.out.size; omega, by have := QL.out; omega⟩)
    clear CR E6 BX CH CL P6
    obtain ⟨ke, hke⟩ : ∃ ke, ke = cmE f up.v := ⟨_, rfl⟩
    obtain ⟨k, hk⟩ : ∃ k, k = cmR f up.v := ⟨_, rfl⟩
    have RB := Lib.hid (show rbH up f ys = (if !up.ex || decide (k < 0) then ⟨f, true, ys⟩ else if k = 0 then ⟨up.v, up.ex, up.op || ys⟩ else up) by rw [hk]; rfl)
    rw [← hke, ← hk]
    clear hke hk
    obtain ⟨cx, hcx⟩ : ∃ cx, cx = up.ex := ⟨_, rfl⟩
    obtain ⟨cp, hcp⟩ : ∃ cp, cp = up.op := ⟨_, rfl⟩
    rw [← hcx] at e4 RB
    rw [← hcp] at e6 RB
    have CX := Lib.hid hcx
    have CP := Lib.hid hcp
    clear hcx hcp
    cases cx
    · have NV := Lib.hid (show rbH up f ys = ⟨f, true, ys⟩ by rw [RB.out]; simp)
      clear RB CX CP
      go_upto_region 13 with (fail)
      clear k0 k1 k2 k3 e4 e6
      have KS := Lib.hid (show ∀ W, GB q w6 W → W.cell? ⟨b7, 0, none⟩ = some (.int .i64 f.1) ∧ W.cell? ⟨b7, 1, none⟩ = some (.int .i64 f.2) ∧ W.cell? ⟨w.heap.size, 2, none⟩ = some (.bool ys) from fun W h => ⟨h.cell NQ.out.1 P7.out.facts.1, h.cell NQ.out.1 P7.out.facts.2.1, h.cell NQ.out.2 (KC.out w6 B7.out).2.2.1⟩)
      obtain ⟨wc, hwc⟩ : ∃ wc, wc = w6.drew := ⟨_, rfl⟩
      have Bc := Lib.hid (show GB q w6 wc by rw [hwc]; exact (GB.refl q _).drew)
      have E8 := Lib.hid (show RowC wc q (EsC lo up) by rw [hwc]; exact E7.out)
      refine wp_region_held_drew (S := (fun W => (W.cell? ⟨b7, 0, none⟩ = some (.int .i64 f.1) ∧ W.cell? ⟨b7, 1, none⟩ = some (.int .i64 f.2) ∧ W.cell? ⟨w.heap.size, 2, none⟩ = some (.bool ys)))) (by kernel_rfl) (by rw [← hwc]; exact KS.out _ Bc.out) (fun h0 => ?_)
      rw [← hwc] at h0 ⊢
      clear hwc
      refine tkH (i := 0) (v := ?v22) rfl (Or.inl ⟨by rfl, ?hy22⟩) h0 ?rest22
      case hy22 => (intro w' hS; (try dsimp only at hS); go_simp; try (with_reducible rfl))
      simp only [Act.put, sA, sB, sD, sE, sF]
      refine tkH (i := 1) (v := ?v23) rfl (Or.inl ⟨by rfl, ?hy23⟩) h0 ?rest23
      case hy23 => (intro w' hS; (try dsimp only at hS); go_simp; try (with_reducible rfl))
      simp only [Act.put, sZ]
      refine tkH (i := 2) (v := ?v24) rfl (Or.inl ⟨by rfl, ?hy24⟩) h0 ?rest24
      case hy24 => (intro w' hS; (try dsimp only at hS); go_simp; try (with_reducible rfl))
      simp only [Act.put, sZ]
      refine tkH (i := 3) (v := ?v25) rfl (Or.inl ⟨by rfl, ?hy25⟩) h0 ?rest25
      case hy25 => (intro w' hS; (try dsimp only at hS); go_simp; try (with_reducible rfl))
      simp only [Act.put, sZ]
      refine tkH (i := 4) (v := ?v26) rfl (Or.inl ⟨by rfl, ?hy26⟩) h0 ?rest26
      case hy26 => (intro w' hS; (try dsimp only at hS); go_simp; try (with_reducible rfl))
      simp only [Act.put, sZ]
      refine tkH (i := 5) (v := ?v27) rfl (Or.inl ⟨by rfl, ?hy27⟩) h0 ?rest27
      case hy27 => (intro w' hS; (try dsimp only at hS); go_simp; try (with_reducible rfl))
      simp only [Act.put, sZ]
      refine tkH (i := 6) (v := ?v28) rfl (Or.inl ⟨by rfl, ?hy28⟩) h0 ?rest28
      case hy28 => (intro w' hS; (try dsimp only at hS); go_simp; try (with_reducible rfl))
      simp only [Act.put, sZ]
      refine tkH (i := 7) (v := ?v29) rfl (Or.inl ⟨by rfl, ?hy29⟩) h0 ?rest29
      case hy29 => (intro w' hS; (try dsimp only at hS); go_simp; try (with_reducible rfl))
      simp only [Act.put, sZ]
      refine wpAnyH_ready (rs := [8]) (by kernel_rfl) (by simp) (AllReadyH.cons rfl (fun K hK => ?_) AllReadyH.nil)
      rw [if_pos (by rfl)]
      go_simp
      have c2 : wc.cell? ⟨q, 2, none⟩ = some (.int .i64 up.v.1) := E8.out.cell 2
      have z2 := E8.out.free 2
      have c3 : wc.cell? ⟨q, 3, none⟩ = some (.int .i64 up.v.2) := E8.out.cell 3
      have z3 := E8.out.free 3
      have GX := Lib.hid (gb_put (gb_put Bc.out 2 (.int .i64 f.1)) 3 (.int .i64 f.2))
      have R1 := Lib.hid ((E8.out.put 2 (.int .i64 f.1)).put 3 (.int .i64 f.2))
      go_simp
      refine hK.out _ _ (KS.out _ GX.out) (fun h0_1 => ?_)
      clear hK K h0
      clear c2 z2 c3 z3
      generalize ((wc.setCell ⟨q, 2, none⟩ (.int .i64 f.1)).setCell ⟨q, 3, none⟩ (.int .i64 f.2)) = wc at *
      clear Bc
      have Bc := GX
      clear GX
      refine tkH (i := 9) (v := ?v30) rfl (Or.inl ⟨by rfl, ?hy30⟩) h0_1 ?rest30
      case hy30 => (intro w' hS; (try dsimp only at hS); go_simp; try (with_reducible rfl))
      simp only [Act.put, sZ]
      refine tkH (i := 10) (v := ?v31) rfl (Or.inl ⟨by rfl, ?hy31⟩) h0_1 ?rest31
      case hy31 => (intro w' hS; (try dsimp only at hS); go_simp; try (with_reducible rfl))
      simp only [Act.put, sZ]
      refine wpAnyH_ready (rs := [11]) (by kernel_rfl) (by simp) (AllReadyH.cons rfl (fun K hK => ?_) AllReadyH.nil)
      rw [if_pos (by rfl)]
      go_simp
      have c5 : wc.cell? ⟨q, 5, none⟩ = some (.bool up.ex) := R1.out.cell 5
      have z5 := R1.out.free 5
      have GX := Lib.hid (gb_put Bc.out 5 (.bool true))
      have R2 := Lib.hid (R1.out.put 5 (.bool true))
      go_simp
      refine hK.out _ _ (KS.out _ GX.out) (fun h0_2 => ?_)
      clear hK K h0_1
      clear c5 z5
      generalize (wc.setCell ⟨q, 5, none⟩ (.bool true)) = wc at *
      clear Bc
      have Bc := GX
      clear GX
      refine tkH (i := 12) (v := ?v32) rfl (Or.inl ⟨by rfl, ?hy32⟩) h0_2 ?rest32
      case hy32 => (intro w' hS; (try dsimp only at hS); go_simp; try (with_reducible rfl))
      simp only [Act.put, sZ]
      refine tkH (i := 13) (v := ?v33) rfl (Or.inl ⟨by rfl, ?hy33⟩) h0_2 ?rest33
      case hy33 => (intro w' hS; (try dsimp only at hS); go_simp; try (with_reducible rfl))
      simp only [Act.put, sZ]
      refine wpAnyH_ready (rs := [14]) (by kernel_rfl) (by simp) (AllReadyH.cons rfl (fun K hK => ?_) AllReadyH.nil)
      rw [if_pos (by rfl)]
      go_simp
      have c7 : wc.cell? ⟨q, 7, none⟩ = some (.bool up.op) := R2.out.cell 7
      have z7 := R2.out.free 7
      have GX := Lib.hid (gb_put Bc.out 7 (.bool ys))
      have R3 := Lib.hid (R2.out.put 7 (.bool ys))
      go_simp
      refine hK.out _ _ (KS.out _ GX.out) (fun h0_3 => ?_)
      clear hK K h0_2
      clear c7 z7
      generalize (wc.setCell ⟨q, 7, none⟩ (.bool ys)) = wc at *
      clear Bc
      have Bc := GX
      clear GX
      try simp only [sF]
      try simp only [sE]
      refine wpAnyH_done (by kernel_rfl) ?_ _
      go_wp2_with fail
      go_ret
      refine Or.inl ⟨EZ.out, rfl, ?_, G7.out.trans Bc.out⟩
      rw [HX.out]
      show RowC wc q (EsC lo (rbH up f ys))
      rw [NV.out]
      exact R3.out
    · by_cases h1 : k < 0
      · have NV := Lib.hid (show rbH up f ys = ⟨f, true, ys⟩ by rw [RB.out]; simp [h1])
        clear RB CX CP
        go_upto_region 13 with (fail)
        clear k0 k1 k2 k3 e4 e6
        have KS := Lib.hid (show ∀ W, GB q w6 W → W.cell? ⟨b7, 0, none⟩ = some (.int .i64 f.1) ∧ W.cell? ⟨b7, 1, none⟩ = some (.int .i64 f.2) ∧ W.cell? ⟨w.heap.size, 2, none⟩ = some (.bool ys) from fun W h => ⟨h.cell NQ.out.1 P7.out.facts.1, h.cell NQ.out.1 P7.out.facts.2.1, h.cell NQ.out.2 (KC.out w6 B7.out).2.2.1⟩)
        obtain ⟨wc, hwc⟩ : ∃ wc, wc = w6.drew := ⟨_, rfl⟩
        have Bc := Lib.hid (show GB q w6 wc by rw [hwc]; exact (GB.refl q _).drew)
        have E8 := Lib.hid (show RowC wc q (EsC lo up) by rw [hwc]; exact E7.out)
        refine wp_region_held_drew (S := (fun W => (W.cell? ⟨b7, 0, none⟩ = some (.int .i64 f.1) ∧ W.cell? ⟨b7, 1, none⟩ = some (.int .i64 f.2) ∧ W.cell? ⟨w.heap.size, 2, none⟩ = some (.bool ys)))) (by kernel_rfl) (by rw [← hwc]; exact KS.out _ Bc.out) (fun h0 => ?_)
        rw [← hwc] at h0 ⊢
        clear hwc
        refine tkH (i := 0) (v := ?v34) rfl (Or.inl ⟨by rfl, ?hy34⟩) h0 ?rest34
        case hy34 => (intro w' hS; (try dsimp only at hS); go_simp; try (with_reducible rfl))
        simp only [Act.put, sA, sB, sD, sE, sF]
        refine tkH (i := 1) (v := ?v35) rfl (Or.inl ⟨by rfl, ?hy35⟩) h0 ?rest35
        case hy35 => (intro w' hS; (try dsimp only at hS); go_simp; try (with_reducible rfl))
        simp only [Act.put, sZ]
        refine tkH (i := 2) (v := ?v36) rfl (Or.inl ⟨by rfl, ?hy36⟩) h0 ?rest36
        case hy36 => (intro w' hS; (try dsimp only at hS); go_simp; try (with_reducible rfl))
        simp only [Act.put, sZ]
        refine tkH (i := 3) (v := ?v37) rfl (Or.inl ⟨by rfl, ?hy37⟩) h0 ?rest37
        case hy37 => (intro w' hS; (try dsimp only at hS); go_simp; try (with_reducible rfl))
        simp only [Act.put, sZ]
        refine tkH (i := 4) (v := ?v38) rfl (Or.inl ⟨by rfl, ?hy38⟩) h0 ?rest38
        case hy38 => (intro w' hS; (try dsimp only at hS); go_simp; try (with_reducible rfl))
        simp only [Act.put, sZ]
        refine tkH (i := 5) (v := ?v39) rfl (Or.inl ⟨by rfl, ?hy39⟩) h0 ?rest39
        case hy39 => (intro w' hS; (try dsimp only at hS); go_simp; try (with_reducible rfl))
        simp only [Act.put, sZ]
        refine tkH (i := 6) (v := ?v40) rfl (Or.inl ⟨by rfl, ?hy40⟩) h0 ?rest40
        case hy40 => (intro w' hS; (try dsimp only at hS); go_simp; try (with_reducible rfl))
        simp only [Act.put, sZ]
        refine tkH (i := 7) (v := ?v41) rfl (Or.inl ⟨by rfl, ?hy41⟩) h0 ?rest41
        case hy41 => (intro w' hS; (try dsimp only at hS); go_simp; try (with_reducible rfl))
        simp only [Act.put, sZ]
        refine wpAnyH_ready (rs := [8]) (by kernel_rfl) (by simp) (AllReadyH.cons rfl (fun K hK => ?_) AllReadyH.nil)
        rw [if_pos (by rfl)]
        go_simp
        have c2 : wc.cell? ⟨q, 2, none⟩ = some (.int .i64 up.v.1) := E8.out.cell 2
        have z2 := E8.out.free 2
        have c3 : wc.cell? ⟨q, 3, none⟩ = some (.int .i64 up.v.2) := E8.out.cell 3
        have z3 := E8.out.free 3
        have GX := Lib.hid (gb_put (gb_put Bc.out 2 (.int .i64 f.1)) 3 (.int .i64 f.2))
        have R1 := Lib.hid ((E8.out.put 2 (.int .i64 f.1)).put 3 (.int .i64 f.2))
        go_simp
        refine hK.out _ _ (KS.out _ GX.out) (fun h0_1 => ?_)
        clear hK K h0
        clear c2 z2 c3 z3
        generalize ((wc.setCell ⟨q, 2, none⟩ (.int .i64 f.1)).setCell ⟨q, 3, none⟩ (.int .i64 f.2)) = wc at *
        clear Bc
        have Bc := GX
        clear GX
        refine tkH (i := 9) (v := ?v42) rfl (Or.inl ⟨by rfl, ?hy42⟩) h0_1 ?rest42
        case hy42 => (intro w' hS; (try dsimp only at hS); go_simp; try (with_reducible rfl))
        simp only [Act.put, sZ]
        refine tkH (i := 10) (v := ?v43) rfl (Or.inl ⟨by rfl, ?hy43⟩) h0_1 ?rest43
        case hy43 => (intro w' hS; (try dsimp only at hS); go_simp; try (with_reducible rfl))
        simp only [Act.put, sZ]
        refine wpAnyH_ready (rs := [11]) (by kernel_rfl) (by simp) (AllReadyH.cons rfl (fun K hK => ?_) AllReadyH.nil)
        rw [if_pos (by rfl)]
        go_simp
        have c5 : wc.cell? ⟨q, 5, none⟩ = some (.bool up.ex) := R1.out.cell 5
        have z5 := R1.out.free 5
        have GX := Lib.hid (gb_put Bc.out 5 (.bool true))
        have R2 := Lib.hid (R1.out.put 5 (.bool true))
        go_simp
        refine hK.out _ _ (KS.out _ GX.out) (fun h0_2 => ?_)
        clear hK K h0_1
        clear c5 z5
        generalize (wc.setCell ⟨q, 5, none⟩ (.bool true)) = wc at *
        clear Bc
        have Bc := GX
        clear GX
        refine tkH (i := 12) (v := ?v44) rfl (Or.inl ⟨by rfl, ?hy44⟩) h0_2 ?rest44
        case hy44 => (intro w' hS; (try dsimp only at hS); go_simp; try (with_reducible rfl))
        simp only [Act.put, sZ]
        refine tkH (i := 13) (v := ?v45) rfl (Or.inl ⟨by rfl, ?hy45⟩) h0_2 ?rest45
        case hy45 => (intro w' hS; (try dsimp only at hS); go_simp; try (with_reducible rfl))
        simp only [Act.put, sZ]
        refine wpAnyH_ready (rs := [14]) (by kernel_rfl) (by simp) (AllReadyH.cons rfl (fun K hK => ?_) AllReadyH.nil)
        rw [if_pos (by rfl)]
        go_simp
        have c7 : wc.cell? ⟨q, 7, none⟩ = some (.bool up.op) := R2.out.cell 7
        have z7 := R2.out.free 7
        have GX := Lib.hid (gb_put Bc.out 7 (.bool ys))
        have R3 := Lib.hid (R2.out.put 7 (.bool ys))
        go_simp
        refine hK.out _ _ (KS.out _ GX.out) (fun h0_3 => ?_)
        clear hK K h0_2
        clear c7 z7
        generalize (wc.setCell ⟨q, 7, none⟩ (.bool ys)) = wc at *
        clear Bc
        have Bc := GX
        clear GX
        try simp only [sF]
        try simp only [sE]
        refine wpAnyH_done (by kernel_rfl) ?_ _
        go_wp2_with fail
        go_ret
        refine Or.inl ⟨EZ.out, rfl, ?_, G7.out.trans Bc.out⟩
        rw [HX.out]
        show RowC wc q (EsC lo (rbH up f ys))
        rw [NV.out]
        exact R3.out
      · by_cases h2 : k = 0
        · have h3 : (k == 0) = true := by simpa using h2
          cases cp
          · have NV := Lib.hid (show rbH up f ys = ⟨up.v, true, ys⟩ by rw [RB.out]; simp [h2])
            have c7 : w6.cell? ⟨q, 7, none⟩ = some (.bool up.op) := E7.out.cell 7
            have z7 := E7.out.free 7
            have R1 := Lib.hid (E7.out.put 7 (.bool ys))
            have G1 := Lib.hid (gb_put G7.out 7 (.bool ys))
            rw [← CP.out] at c7
            clear RB CP h2
            go_wp2_with fail
            go_ret
            refine Or.inl ⟨EZ.out, rfl, ?_, G1.out⟩
            rw [HX.out]
            show RowC _ q (EsC lo (rbH up f ys))
            rw [NV.out]
            have e := R1.out
            unfold EsC at e ⊢
            rw [← CX.out] at e
            exact e
          · have NV := Lib.hid (show rbH up f ys = ⟨up.v, true, true⟩ by rw [RB.out]; simp [h2])
            have c7 : w6.cell? ⟨q, 7, none⟩ = some (.bool up.op) := E7.out.cell 7
            have z7 := E7.out.free 7
            have R1 := Lib.hid (E7.out.put 7 (.bool true))
            have G1 := Lib.hid (gb_put G7.out 7 (.bool true))
            rw [← CP.out] at c7
            clear RB CP h2
            go_wp2_with fail
            go_ret
            refine Or.inl ⟨EZ.out, rfl, ?_, G1.out⟩
            rw [HX.out]
            show RowC _ q (EsC lo (rbH up f ys))
            rw [NV.out]
            have e := R1.out
            unfold EsC at e ⊢
            rw [← CX.out] at e
            exact e
        · have h3 : (k == 0) = false := by simpa using h2
          have NV := Lib.hid (show rbH up f ys = up by rw [RB.out]; simp [h1, h2])
          clear RB CX CP h2
          go_wp2_with fail
          go_ret
          refine Or.inl ⟨EZ.out, rfl, ?_, G7.out⟩
          rw [HX.out]
          show RowC w6 q (EsC lo (rbH up f ys))
          rw [NV.out]
          exact E7.out
  · have HX := Lib.hid (RS2.out (by omega))
    have E6 := Lib.hid (ER.out.kept B6.out)
    have CR := Lib.hid (show ∀ W, Below w5.heap.size w5 W → W.cell? ⟨q, 0, none⟩ = some (.int .i64 lo.v.1) ∧ W.cell? ⟨q, 1, none⟩ = some (.int .i64 lo.v.2) ∧ W.cell? ⟨b7, 0, none⟩ = some (.int .i64 f.1) ∧ W.cell? ⟨b7, 1, none⟩ = some (.int .i64 f.2) from fun W h => ⟨kept h (E6.out.cell 0), kept h (E6.out.cell 1), kept h P6.out.facts.1, kept h P6.out.facts.2.1⟩)
    go_upto_region 17 with (fail)
    clear k0 k1 k2 k3
    go_cut [11, 12] (fun s1 s2 wx => s1 = .int .i64 (cmR f lo.v) ∧ s2 = .int .i64 (cmE f lo.v) ∧ Hid (Below w5.heap.size w5 wx))
    case first =>
      obtain ⟨wc, hwc⟩ : ∃ wc, wc = w5.drew := ⟨_, rfl⟩
      have Bc := Lib.hid (show Below w5.heap.size w5 wc by rw [hwc]; exact (Below.refl _ _).drew)
      refine wp_region_held_drew (S := (fun W => (W.cell? ⟨q, 0, none⟩ = some (.int .i64 lo.v.1) ∧ W.cell? ⟨q, 1, none⟩ = some (.int .i64 lo.v.2) ∧ W.cell? ⟨b7, 0, none⟩ = some (.int .i64 f.1) ∧ W.cell? ⟨b7, 1, none⟩ = some (.int .i64 f.2)))) (by kernel_rfl) (by rw [← hwc]; exact CR.out _ Bc.out) (fun h0 => ?_)
      rw [← hwc] at h0 ⊢
      clear hwc
      refine tkH (i := 0) (v := ?v46) rfl (Or.inl ⟨by rfl, ?hy46⟩) h0 ?rest46
      case hy46 => (intro w' hS; (try dsimp only at hS); go_simp; try (with_reducible rfl))
      simp only [Act.put, sA, sB, sD, sE, sF]
      refine tkH (i := 1) (v := ?v47) rfl (Or.inl ⟨by rfl, ?hy47⟩) h0 ?rest47
      case hy47 => (intro w' hS; (try dsimp only at hS); go_simp; try (with_reducible rfl))
      simp only [Act.put, sZ]
      refine tkH (i := 2) (v := ?v48) rfl (Or.inl ⟨by rfl, ?hy48⟩) h0 ?rest48
      case hy48 => (intro w' hS; (try dsimp only at hS); go_simp; try (with_reducible rfl))
      simp only [Act.put, sZ]
      refine tkH (i := 3) (v := ?v49) rfl (Or.inl ⟨by rfl, ?hy49⟩) h0 ?rest49
      case hy49 => (intro w' hS; (try dsimp only at hS); go_simp; try (with_reducible rfl))
      simp only [Act.put, sZ]
      refine tkH (i := 4) (v := ?v50) rfl (Or.inl ⟨by rfl, ?hy50⟩) h0 ?rest50
      case hy50 => (intro w' hS; (try dsimp only at hS); go_simp; try (with_reducible rfl))
      simp only [Act.put, sZ]
      refine wpAnyH_ready (rs := [5]) (by kernel_rfl) (by simp) (AllReadyH.cons rfl (fun K hK => ?_) AllReadyH.nil)
      rw [if_pos (by rfl)]
      go_simp
      refine (CL.out wc).mono ?_
      rintro e wc ⟨rfl, hb⟩
      have Bc := Lib.hid (below_on Bc.out hb)
      clear hb
      go_simp
      refine hK.out _ _ (CR.out _ Bc.out) (fun h0_1 => ?_)
      clear hK K h0
      refine tkH (i := 6) (v := ?v51) rfl (Or.inl ⟨by rfl, ?hy51⟩) h0_1 ?rest51
      case hy51 => (intro w' hS; (try dsimp only at hS); go_simp; try (with_reducible rfl))
      simp only [Act.put, sZ]
      refine tkH (i := 7) (v := ?v52) rfl (Or.inl ⟨by rfl, ?hy52⟩) h0_1 ?rest52
      case hy52 => (intro w' hS; (try dsimp only at hS); go_simp; try (with_reducible rfl))
      simp only [Act.put, sZ]
      refine tkH (i := 8) (v := ?v53) rfl (Or.inl ⟨by rfl, ?hy53⟩) h0_1 ?rest53
      case hy53 => (intro w' hS; (try dsimp only at hS); go_simp; try (with_reducible rfl))
      simp only [Act.put, sZ]
      refine tkH (i := 9) (v := ?v54) rfl (Or.inl ⟨by rfl, ?hy54⟩) h0_1 ?rest54
      case hy54 => (intro w' hS; (try dsimp only at hS); go_simp; try (with_reducible rfl))
      simp only [Act.put, sZ]
      refine tkH (i := 10) (v := ?v55) rfl (Or.inl ⟨by rfl, ?hy55⟩) h0_1 ?rest55
      case hy55 => (intro w' hS; (try dsimp only at hS); go_simp; try (with_reducible rfl))
      simp only [Act.put, sA, sB, sC, sD]
      try simp only [sF]
      try simp only [sE]
      refine wpAnyH_done (by kernel_rfl) ?_ _
      go_wp2_with fail
      go_meet
      case rel => exact ⟨rfl, rfl, Bc⟩
    case rest =>
    obtain ⟨rfl, rfl, BX⟩ := hcut
    generalize wc = w6 at *
    have E7 := Lib.hid (E6.out.kept BX.out)
    have P7 := Lib.hid (P6.out.kept BX.out)
    have B7 := Lib.hid (below_on B6.out BX.out)
    have G7 := Lib.hid (show GB q w w6 from GB.below (below_on E0.out B7.out))
    obtain ⟨k0, k1, k2, k3⟩ := KC.out w6 B7.out
    have e4 : w6.cell? ⟨q, 4, none⟩ = some (.bool lo.ex) := E7.out.cell 4
    have e6 : w6.cell? ⟨q, 6, none⟩ = some (.bool lo.op) := E7.out.cell 6
    have NQ := Lib.hid (show b7 ≠ q ∧ w.heap.size ≠ q from ⟨by have := QL.out; have := Z7.out; have := E0.out.size; omega, by have := QL.out; omega⟩)
    clear CR E6 BX CH CL P6
    obtain ⟨ke, hke⟩ : ∃ ke, ke = cmE f lo.v := ⟨_, rfl⟩
    obtain ⟨k, hk⟩ : ∃ k, k = cmR f lo.v := ⟨_, rfl⟩
    have RB := Lib.hid (show rbL lo f ys = (if !lo.ex || decide (0 < k) then ⟨f, true, ys⟩ else if k = 0 then ⟨lo.v, lo.ex, lo.op || ys⟩ else lo) by rw [hk]; rfl)
    rw [← hke, ← hk]
    clear hke hk
    obtain ⟨cx, hcx⟩ : ∃ cx, cx = lo.ex := ⟨_, rfl⟩
    obtain ⟨cp, hcp⟩ : ∃ cp, cp = lo.op := ⟨_, rfl⟩
    rw [← hcx] at e4 RB
    rw [← hcp] at e6 RB
    have CX := Lib.hid hcx
    have CP := Lib.hid hcp
    clear hcx hcp
    cases cx
    · have NV := Lib.hid (show rbL lo f ys = ⟨f, true, ys⟩ by rw [RB.out]; simp)
      clear RB CX CP
      go_upto_region 19 with (fail)
      clear k0 k1 k2 k3 e4 e6
      have KS := Lib.hid (show ∀ W, GB q w6 W → W.cell? ⟨b7, 0, none⟩ = some (.int .i64 f.1) ∧ W.cell? ⟨b7, 1, none⟩ = some (.int .i64 f.2) ∧ W.cell? ⟨w.heap.size, 2, none⟩ = some (.bool ys) from fun W h => ⟨h.cell NQ.out.1 P7.out.facts.1, h.cell NQ.out.1 P7.out.facts.2.1, h.cell NQ.out.2 (KC.out w6 B7.out).2.2.1⟩)
      obtain ⟨wc, hwc⟩ : ∃ wc, wc = w6.drew := ⟨_, rfl⟩
      have Bc := Lib.hid (show GB q w6 wc by rw [hwc]; exact (GB.refl q _).drew)
      have E8 := Lib.hid (show RowC wc q (EsC lo up) by rw [hwc]; exact E7.out)
      refine wp_region_held_drew (S := (fun W => (W.cell? ⟨b7, 0, none⟩ = some (.int .i64 f.1) ∧ W.cell? ⟨b7, 1, none⟩ = some (.int .i64 f.2) ∧ W.cell? ⟨w.heap.size, 2, none⟩ = some (.bool ys)))) (by kernel_rfl) (by rw [← hwc]; exact KS.out _ Bc.out) (fun h0 => ?_)
      rw [← hwc] at h0 ⊢
      clear hwc
      refine tkH (i := 0) (v := ?v56) rfl (Or.inl ⟨by rfl, ?hy56⟩) h0 ?rest56
      case hy56 => (intro w' hS; (try dsimp only at hS); go_simp; try (with_reducible rfl))
      simp only [Act.put, sA, sB, sD, sE, sF]
      refine tkH (i := 1) (v := ?v57) rfl (Or.inl ⟨by rfl, ?hy57⟩) h0 ?rest57
      case hy57 => (intro w' hS; (try dsimp only at hS); go_simp; try (with_reducible rfl))
      simp only [Act.put, sZ]
      refine tkH (i := 2) (v := ?v58) rfl (Or.inl ⟨by rfl, ?hy58⟩) h0 ?rest58
      case hy58 => (intro w' hS; (try dsimp only at hS); go_simp; try (with_reducible rfl))
      simp only [Act.put, sZ]
      refine tkH (i := 3) (v := ?v59) rfl (Or.inl ⟨by rfl, ?hy59⟩) h0 ?rest59
      case hy59 => (intro w' hS; (try dsimp only at hS); go_simp; try (with_reducible rfl))
      simp only [Act.put, sZ]
      refine tkH (i := 4) (v := ?v60) rfl (Or.inl ⟨by rfl, ?hy60⟩) h0 ?rest60
      case hy60 => (intro w' hS; (try dsimp only at hS); go_simp; try (with_reducible rfl))
      simp only [Act.put, sZ]
      refine tkH (i := 5) (v := ?v61) rfl (Or.inl ⟨by rfl, ?hy61⟩) h0 ?rest61
      case hy61 => (intro w' hS; (try dsimp only at hS); go_simp; try (with_reducible rfl))
      simp only [Act.put, sZ]
      refine tkH (i := 6) (v := ?v62) rfl (Or.inl ⟨by rfl, ?hy62⟩) h0 ?rest62
      case hy62 => (intro w' hS; (try dsimp only at hS); go_simp; try (with_reducible rfl))
      simp only [Act.put, sZ]
      refine tkH (i := 7) (v := ?v63) rfl (Or.inl ⟨by rfl, ?hy63⟩) h0 ?rest63
      case hy63 => (intro w' hS; (try dsimp only at hS); go_simp; try (with_reducible rfl))
      simp only [Act.put, sZ]
      refine wpAnyH_ready (rs := [8]) (by kernel_rfl) (by simp) (AllReadyH.cons rfl (fun K hK => ?_) AllReadyH.nil)
      rw [if_pos (by rfl)]
      go_simp
      have c0 : wc.cell? ⟨q, 0, none⟩ = some (.int .i64 lo.v.1) := E8.out.cell 0
      have z0 := E8.out.free 0
      have c1 : wc.cell? ⟨q, 1, none⟩ = some (.int .i64 lo.v.2) := E8.out.cell 1
      have z1 := E8.out.free 1
      have GX := Lib.hid (gb_put (gb_put Bc.out 0 (.int .i64 f.1)) 1 (.int .i64 f.2))
      have R1 := Lib.hid ((E8.out.put 0 (.int .i64 f.1)).put 1 (.int .i64 f.2))
      go_simp
      refine hK.out _ _ (KS.out _ GX.out) (fun h0_1 => ?_)
      clear hK K h0
      clear c0 z0 c1 z1
      generalize ((wc.setCell ⟨q, 0, none⟩ (.int .i64 f.1)).setCell ⟨q, 1, none⟩ (.int .i64 f.2)) = wc at *
      clear Bc
      have Bc := GX
      clear GX
      refine tkH (i := 9) (v := ?v64) rfl (Or.inl ⟨by rfl, ?hy64⟩) h0_1 ?rest64
      case hy64 => (intro w' hS; (try dsimp only at hS); go_simp; try (with_reducible rfl))
      simp only [Act.put, sZ]
      refine tkH (i := 10) (v := ?v65) rfl (Or.inl ⟨by rfl, ?hy65⟩) h0_1 ?rest65
      case hy65 => (intro w' hS; (try dsimp only at hS); go_simp; try (with_reducible rfl))
      simp only [Act.put, sZ]
      refine wpAnyH_ready (rs := [11]) (by kernel_rfl) (by simp) (AllReadyH.cons rfl (fun K hK => ?_) AllReadyH.nil)
      rw [if_pos (by rfl)]
      go_simp
      have c4 : wc.cell? ⟨q, 4, none⟩ = some (.bool lo.ex) := R1.out.cell 4
      have z4 := R1.out.free 4
      have GX := Lib.hid (gb_put Bc.out 4 (.bool true))
      have R2 := Lib.hid (R1.out.put 4 (.bool true))
      go_simp
      refine hK.out _ _ (KS.out _ GX.out) (fun h0_2 => ?_)
      clear hK K h0_1
      clear c4 z4
      generalize (wc.setCell ⟨q, 4, none⟩ (.bool true)) = wc at *
      clear Bc
      have Bc := GX
      clear GX
      refine tkH (i := 12) (v := ?v66) rfl (Or.inl ⟨by rfl, ?hy66⟩) h0_2 ?rest66
      case hy66 => (intro w' hS; (try dsimp only at hS); go_simp; try (with_reducible rfl))
      simp only [Act.put, sZ]
      refine tkH (i := 13) (v := ?v67) rfl (Or.inl ⟨by rfl, ?hy67⟩) h0_2 ?rest67
      case hy67 => (intro w' hS; (try dsimp only at hS); go_simp; try (with_reducible rfl))
      simp only [Act.put, sZ]
      refine wpAnyH_ready (rs := [14]) (by kernel_rfl) (by simp) (AllReadyH.cons rfl (fun K hK => ?_) AllReadyH.nil)
      rw [if_pos (by rfl)]
      go_simp
      have c6 : wc.cell? ⟨q, 6, none⟩ = some (.bool lo.op) := R2.out.cell 6
      have z6 := R2.out.free 6
      have GX := Lib.hid (gb_put Bc.out 6 (.bool ys))
      have R3 := Lib.hid (R2.out.put 6 (.bool ys))
      go_simp
      refine hK.out _ _ (KS.out _ GX.out) (fun h0_3 => ?_)
      clear hK K h0_2
      clear c6 z6
      generalize (wc.setCell ⟨q, 6, none⟩ (.bool ys)) = wc at *
      clear Bc
      have Bc := GX
      clear GX
      try simp only [sF]
      try simp only [sE]
      refine wpAnyH_done (by kernel_rfl) ?_ _
      go_wp2_with fail
      go_ret
      refine Or.inl ⟨EZ.out, rfl, ?_, G7.out.trans Bc.out⟩
      rw [HX.out]
      show RowC wc q (EsC (rbL lo f ys) up)
      rw [NV.out]
      exact R3.out
    · by_cases h1 : 0 < k
      · have NV := Lib.hid (show rbL lo f ys = ⟨f, true, ys⟩ by rw [RB.out]; simp [h1])
        clear RB CX CP
        go_upto_region 19 with (fail)
        clear k0 k1 k2 k3 e4 e6
        have KS := Lib.hid (show ∀ W, GB q w6 W → W.cell? ⟨b7, 0, none⟩ = some (.int .i64 f.1) ∧ W.cell? ⟨b7, 1, none⟩ = some (.int .i64 f.2) ∧ W.cell? ⟨w.heap.size, 2, none⟩ = some (.bool ys) from fun W h => ⟨h.cell NQ.out.1 P7.out.facts.1, h.cell NQ.out.1 P7.out.facts.2.1, h.cell NQ.out.2 (KC.out w6 B7.out).2.2.1⟩)
        obtain ⟨wc, hwc⟩ : ∃ wc, wc = w6.drew := ⟨_, rfl⟩
        have Bc := Lib.hid (show GB q w6 wc by rw [hwc]; exact (GB.refl q _).drew)
        have E8 := Lib.hid (show RowC wc q (EsC lo up) by rw [hwc]; exact E7.out)
        refine wp_region_held_drew (S := (fun W => (W.cell? ⟨b7, 0, none⟩ = some (.int .i64 f.1) ∧ W.cell? ⟨b7, 1, none⟩ = some (.int .i64 f.2) ∧ W.cell? ⟨w.heap.size, 2, none⟩ = some (.bool ys)))) (by kernel_rfl) (by rw [← hwc]; exact KS.out _ Bc.out) (fun h0 => ?_)
        rw [← hwc] at h0 ⊢
        clear hwc
        refine tkH (i := 0) (v := ?v68) rfl (Or.inl ⟨by rfl, ?hy68⟩) h0 ?rest68
        case hy68 => (intro w' hS; (try dsimp only at hS); go_simp; try (with_reducible rfl))
        simp only [Act.put, sA, sB, sD, sE, sF]
        refine tkH (i := 1) (v := ?v69) rfl (Or.inl ⟨by rfl, ?hy69⟩) h0 ?rest69
        case hy69 => (intro w' hS; (try dsimp only at hS); go_simp; try (with_reducible rfl))
        simp only [Act.put, sZ]
        refine tkH (i := 2) (v := ?v70) rfl (Or.inl ⟨by rfl, ?hy70⟩) h0 ?rest70
        case hy70 => (intro w' hS; (try dsimp only at hS); go_simp; try (with_reducible rfl))
        simp only [Act.put, sZ]
        refine tkH (i := 3) (v := ?v71) rfl (Or.inl ⟨by rfl, ?hy71⟩) h0 ?rest71
        case hy71 => (intro w' hS; (try dsimp only at hS); go_simp; try (with_reducible rfl))
        simp only [Act.put, sZ]
        refine tkH (i := 4) (v := ?v72) rfl (Or.inl ⟨by rfl, ?hy72⟩) h0 ?rest72
        case hy72 => (intro w' hS; (try dsimp only at hS); go_simp; try (with_reducible rfl))
        simp only [Act.put, sZ]
        refine tkH (i := 5) (v := ?v73) rfl (Or.inl ⟨by rfl, ?hy73⟩) h0 ?rest73
        case hy73 => (intro w' hS; (try dsimp only at hS); go_simp; try (with_reducible rfl))
        simp only [Act.put, sZ]
        refine tkH (i := 6) (v := ?v74) rfl (Or.inl ⟨by rfl, ?hy74⟩) h0 ?rest74
        case hy74 => (intro w' hS; (try dsimp only at hS); go_simp; try (with_reducible rfl))
        simp only [Act.put, sZ]
        refine tkH (i := 7) (v := ?v75) rfl (Or.inl ⟨by rfl, ?hy75⟩) h0 ?rest75
        case hy75 => (intro w' hS; (try dsimp only at hS); go_simp; try (with_reducible rfl))
        simp only [Act.put, sZ]
        refine wpAnyH_ready (rs := [8]) (by kernel_rfl) (by simp) (AllReadyH.cons rfl (fun K hK => ?_) AllReadyH.nil)
        rw [if_pos (by rfl)]
        go_simp
        have c0 : wc.cell? ⟨q, 0, none⟩ = some (.int .i64 lo.v.1) := E8.out.cell 0
        have z0 := E8.out.free 0
        have c1 : wc.cell? ⟨q, 1, none⟩ = some (.int .i64 lo.v.2) := E8.out.cell 1
        have z1 := E8.out.free 1
        have GX := Lib.hid (gb_put (gb_put Bc.out 0 (.int .i64 f.1)) 1 (.int .i64 f.2))
        have R1 := Lib.hid ((E8.out.put 0 (.int .i64 f.1)).put 1 (.int .i64 f.2))
        go_simp
        refine hK.out _ _ (KS.out _ GX.out) (fun h0_1 => ?_)
        clear hK K h0
        clear c0 z0 c1 z1
        generalize ((wc.setCell ⟨q, 0, none⟩ (.int .i64 f.1)).setCell ⟨q, 1, none⟩ (.int .i64 f.2)) = wc at *
        clear Bc
        have Bc := GX
        clear GX
        refine tkH (i := 9) (v := ?v76) rfl (Or.inl ⟨by rfl, ?hy76⟩) h0_1 ?rest76
        case hy76 => (intro w' hS; (try dsimp only at hS); go_simp; try (with_reducible rfl))
        simp only [Act.put, sZ]
        refine tkH (i := 10) (v := ?v77) rfl (Or.inl ⟨by rfl, ?hy77⟩) h0_1 ?rest77
        case hy77 => (intro w' hS; (try dsimp only at hS); go_simp; try (with_reducible rfl))
        simp only [Act.put, sZ]
        refine wpAnyH_ready (rs := [11]) (by kernel_rfl) (by simp) (AllReadyH.cons rfl (fun K hK => ?_) AllReadyH.nil)
        rw [if_pos (by rfl)]
        go_simp
        have c4 : wc.cell? ⟨q, 4, none⟩ = some (.bool lo.ex) := R1.out.cell 4
        have z4 := R1.out.free 4
        have GX := Lib.hid (gb_put Bc.out 4 (.bool true))
        have R2 := Lib.hid (R1.out.put 4 (.bool true))
        go_simp
        refine hK.out _ _ (KS.out _ GX.out) (fun h0_2 => ?_)
        clear hK K h0_1
        clear c4 z4
        generalize (wc.setCell ⟨q, 4, none⟩ (.bool true)) = wc at *
        clear Bc
        have Bc := GX
        clear GX
        refine tkH (i := 12) (v := ?v78) rfl (Or.inl ⟨by rfl, ?hy78⟩) h0_2 ?rest78
        case hy78 => (intro w' hS; (try dsimp only at hS); go_simp; try (with_reducible rfl))
        simp only [Act.put, sZ]
        refine tkH (i := 13) (v := ?v79) rfl (Or.inl ⟨by rfl, ?hy79⟩) h0_2 ?rest79
        case hy79 => (intro w' hS; (try dsimp only at hS); go_simp; try (with_reducible rfl))
        simp only [Act.put, sZ]
        refine wpAnyH_ready (rs := [14]) (by kernel_rfl) (by simp) (AllReadyH.cons rfl (fun K hK => ?_) AllReadyH.nil)
        rw [if_pos (by rfl)]
        go_simp
        have c6 : wc.cell? ⟨q, 6, none⟩ = some (.bool lo.op) := R2.out.cell 6
        have z6 := R2.out.free 6
        have GX := Lib.hid (gb_put Bc.out 6 (.bool ys))
        have R3 := Lib.hid (R2.out.put 6 (.bool ys))
        go_simp
        refine hK.out _ _ (KS.out _ GX.out) (fun h0_3 => ?_)
        clear hK K h0_2
        clear c6 z6
        generalize (wc.setCell ⟨q, 6, none⟩ (.bool ys)) = wc at *
        clear Bc
        have Bc := GX
        clear GX
        try simp only [sF]
        try simp only [sE]
        refine wpAnyH_done (by kernel_rfl) ?_ _
        go_wp2_with fail
        go_ret
        refine Or.inl ⟨EZ.out, rfl, ?_, G7.out.trans Bc.out⟩
        rw [HX.out]
        show RowC wc q (EsC (rbL lo f ys) up)
        rw [NV.out]
        exact R3.out
      · by_cases h2 : k = 0
        · have h3 : (k == 0) = true := by simpa using h2
          cases cp
          · have NV := Lib.hid (show rbL lo f ys = ⟨lo.v, true, ys⟩ by rw [RB.out]; simp [h2])
            have c7 : w6.cell? ⟨q, 6, none⟩ = some (.bool lo.op) := E7.out.cell 6
            have z7 := E7.out.free 6
            have R1 := Lib.hid (E7.out.put 6 (.bool ys))
            have G1 := Lib.hid (gb_put G7.out 6 (.bool ys))
            rw [← CP.out] at c7
            clear RB CP h2
            go_wp2_with fail
            go_ret
            refine Or.inl ⟨EZ.out, rfl, ?_, G1.out⟩
            rw [HX.out]
            show RowC _ q (EsC (rbL lo f ys) up)
            rw [NV.out]
            have e := R1.out
            unfold EsC at e ⊢
            rw [← CX.out] at e
            exact e
          · have NV := Lib.hid (show rbL lo f ys = ⟨lo.v, true, true⟩ by rw [RB.out]; simp [h2])
            have c7 : w6.cell? ⟨q, 6, none⟩ = some (.bool lo.op) := E7.out.cell 6
            have z7 := E7.out.free 6
            have R1 := Lib.hid (E7.out.put 6 (.bool true))
            have G1 := Lib.hid (gb_put G7.out 6 (.bool true))
            rw [← CP.out] at c7
            clear RB CP h2
            go_wp2_with fail
            go_ret
            refine Or.inl ⟨EZ.out, rfl, ?_, G1.out⟩
            rw [HX.out]
            show RowC _ q (EsC (rbL lo f ys) up)
            rw [NV.out]
            have e := R1.out
            unfold EsC at e ⊢
            rw [← CX.out] at e
            exact e
        · have h3 : (k == 0) = false := by simpa using h2
          have NV := Lib.hid (show rbL lo f ys = lo by rw [RB.out]; simp [h1, h2])
          clear RB CX CP h2
          go_wp2_with fail
          go_ret
          refine Or.inl ⟨EZ.out, rfl, ?_, G7.out⟩
          rw [HX.out]
          show RowC w6 q (EsC (rbL lo f ys) up)
          rw [NV.out]
          exact E7.out
end Go.Proofs.YtbhaoaobhgilkaaGreat
