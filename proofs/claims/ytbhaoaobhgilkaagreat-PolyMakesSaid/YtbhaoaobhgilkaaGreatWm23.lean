/- The contract of package poly's between. -/
import Derived.Test.YtbhaoaobhgilkaaGreatWm3
import Derived.Test.YtbhaoaobhgilkaaGreatWm22

namespace Go.Proofs.YtbhaoaobhgilkaaGreat
open Go.RowKit Go.Sort Go.Shelf

def btV (lo up : En) : Pq := if lo.ex && !lo.op then lo.v else if lo.ex && up.ex then mdR lo.v up.v else if lo.ex then adR lo.v (1, 1) else if up.ex && !up.op then up.v else if up.ex then sbR up.v (1, 1) else (0, 1)

def btE (lo up : En) : Int := if lo.ex && !lo.op then 0 else if lo.ex && up.ex then mdE lo.v up.v else if lo.ex then adE lo.v (1, 1) else if up.ex && !up.op then 0 else if up.ex then sbE up.v (1, 1) else 0

theorem one_64 : I2 (1, 1) := by unfold I2 I64; simp

set_option maxRecDepth 100000 in
set_option maxHeartbeats 4000000 in
theorem bt1 (lv uv : Pq) (uex uop : Bool) (w : World) (_hl : I2 lv) (_hu : I2 uv) :
    Calls Tryz.prog 105 #[.agg (En.mk lv true false).cs, .agg (En.mk uv uex uop).cs] w (QRes w (btV ⟨lv, true, false⟩ ⟨uv, uex, uop⟩) (btE ⟨lv, true, false⟩ ⟨uv, uex, uop⟩)) := by
  obtain ⟨w0, hw0⟩ : ∃ w0, w0 = ((w.alloc (.cells (En.mk lv true false).cs 105)).alloc (.cells (En.mk uv uex uop).cs 105)).alloc (.cells #[.int .i64 0, .int .i64 0] 50) := ⟨_, rfl⟩
  have X0 := Lib.hid (show EnB w0 w.heap.size (En.mk lv true false) by rw [hw0]; exact ((EnB.made w _).kept (one_more _)).kept (one_more _))
  have X1 := Lib.hid (show EnB w0 (w.heap.size + 1) (En.mk uv uex uop) by rw [hw0]; have := (EnB.made (w.alloc (.cells (En.mk lv true false).cs 105)) (En.mk uv uex uop)).kept (one_more (.cells #[.int .i64 0, .int .i64 0] 50)); simpa using this)
  have P0 := Lib.hid (show Pair w0 (w.heap.size + 2) 0 0 by rw [hw0]; have := Pair.made ((w.alloc (.cells (En.mk lv true false).cs 105)).alloc (.cells (En.mk uv uex uop).cs 105)) 0 0 50; simpa using this)
  have E0 := Lib.hid (show Below w.heap.size w w0 by rw [hw0]; exact past_three (Below.refl _ _))
  obtain ⟨a0, a1, a2, a3⟩ := X0.out.facts
  obtain ⟨b0, b1, b2, b3⟩ := X1.out.facts
  obtain ⟨f0, f1, f2, f3⟩ := P0.out.facts
  have HV := Lib.hid (show btV (En.mk lv true false) (En.mk uv uex uop) = lv ∧ btE (En.mk lv true false) (En.mk uv uex uop) = 0 by simp [btV, btE])
  generalize btV (En.mk lv true false) (En.mk uv uex uop) = V at *
  generalize btE (En.mk lv true false) (En.mk uv uex uop) = ER at *
  go_enter Tryz.func105, Tryz.ntmps105
  go_upto_region 1 with (fail)
  rw [← hw0]
  clear hw0
  go_wp2_with fail
  refine bodyPost_ret (v := .agg #[.int .i64 lv.1, .int .i64 lv.2]) (by simp [results, Tryz.results105, go_sem, f0, f1]) rfl ⟨below_put E0.out (by omega) _ _, Or.inl ⟨HV.out.2, by rw [HV.out.1]⟩⟩

set_option maxRecDepth 100000 in
set_option maxHeartbeats 4000000 in
theorem bt4 (lv uv : Pq) (lop : Bool) (w : World) (_hl : I2 lv) (_hu : I2 uv) :
    Calls Tryz.prog 105 #[.agg (En.mk lv false lop).cs, .agg (En.mk uv true false).cs] w (QRes w (btV ⟨lv, false, lop⟩ ⟨uv, true, false⟩) (btE ⟨lv, false, lop⟩ ⟨uv, true, false⟩)) := by
  obtain ⟨w0, hw0⟩ : ∃ w0, w0 = ((w.alloc (.cells (En.mk lv false lop).cs 105)).alloc (.cells (En.mk uv true false).cs 105)).alloc (.cells #[.int .i64 0, .int .i64 0] 50) := ⟨_, rfl⟩
  have X0 := Lib.hid (show EnB w0 w.heap.size (En.mk lv false lop) by rw [hw0]; exact ((EnB.made w _).kept (one_more _)).kept (one_more _))
  have X1 := Lib.hid (show EnB w0 (w.heap.size + 1) (En.mk uv true false) by rw [hw0]; have := (EnB.made (w.alloc (.cells (En.mk lv false lop).cs 105)) (En.mk uv true false)).kept (one_more (.cells #[.int .i64 0, .int .i64 0] 50)); simpa using this)
  have P0 := Lib.hid (show Pair w0 (w.heap.size + 2) 0 0 by rw [hw0]; have := Pair.made ((w.alloc (.cells (En.mk lv false lop).cs 105)).alloc (.cells (En.mk uv true false).cs 105)) 0 0 50; simpa using this)
  have E0 := Lib.hid (show Below w.heap.size w w0 by rw [hw0]; exact past_three (Below.refl _ _))
  obtain ⟨a0, a1, a2, a3⟩ := X0.out.facts
  obtain ⟨b0, b1, b2, b3⟩ := X1.out.facts
  obtain ⟨f0, f1, f2, f3⟩ := P0.out.facts
  have HV := Lib.hid (show btV (En.mk lv false lop) (En.mk uv true false) = uv ∧ btE (En.mk lv false lop) (En.mk uv true false) = 0 by simp [btV, btE])
  generalize btV (En.mk lv false lop) (En.mk uv true false) = V at *
  generalize btE (En.mk lv false lop) (En.mk uv true false) = ER at *
  go_enter Tryz.func105, Tryz.ntmps105
  go_upto_region 1 with (fail)
  rw [← hw0]
  clear hw0
  go_wp2_with fail
  refine bodyPost_ret (v := .agg #[.int .i64 uv.1, .int .i64 uv.2]) (by simp [results, Tryz.results105, go_sem, f0, f1]) rfl ⟨below_put E0.out (by omega) _ _, Or.inl ⟨HV.out.2, by rw [HV.out.1]⟩⟩

set_option maxRecDepth 100000 in
set_option maxHeartbeats 4000000 in
theorem bt2 (lv uv : Pq) (uop : Bool) (w : World) (hl : I2 lv) (hu : I2 uv) :
    Calls Tryz.prog 105 #[.agg (En.mk lv true true).cs, .agg (En.mk uv true uop).cs] w (QRes w (btV ⟨lv, true, true⟩ ⟨uv, true, uop⟩) (btE ⟨lv, true, true⟩ ⟨uv, true, uop⟩)) := by
  obtain ⟨w0, hw0⟩ : ∃ w0, w0 = ((w.alloc (.cells (En.mk lv true true).cs 105)).alloc (.cells (En.mk uv true uop).cs 105)).alloc (.cells #[.int .i64 0, .int .i64 0] 50) := ⟨_, rfl⟩
  have X0 := Lib.hid (show EnB w0 w.heap.size (En.mk lv true true) by rw [hw0]; exact ((EnB.made w _).kept (one_more _)).kept (one_more _))
  have X1 := Lib.hid (show EnB w0 (w.heap.size + 1) (En.mk uv true uop) by rw [hw0]; have := (EnB.made (w.alloc (.cells (En.mk lv true true).cs 105)) (En.mk uv true uop)).kept (one_more (.cells #[.int .i64 0, .int .i64 0] 50)); simpa using this)
  have P0 := Lib.hid (show Pair w0 (w.heap.size + 2) 0 0 by rw [hw0]; have := Pair.made ((w.alloc (.cells (En.mk lv true true).cs 105)).alloc (.cells (En.mk uv true uop).cs 105)) 0 0 50; simpa using this)
  have E0 := Lib.hid (show Below w.heap.size w w0 by rw [hw0]; exact past_three (Below.refl _ _))
  obtain ⟨a0, a1, a2, a3⟩ := X0.out.facts
  obtain ⟨b0, b1, b2, b3⟩ := X1.out.facts
  obtain ⟨f0, f1, f2, f3⟩ := P0.out.facts
  obtain ⟨V, hV⟩ : ∃ V, V = mdR lv uv := ⟨_, rfl⟩
  obtain ⟨ER, hE⟩ : ∃ ER, ER = mdE lv uv := ⟨_, rfl⟩
  have HV := Lib.hid (show btV (En.mk lv true true) (En.mk uv true uop) = V ∧ btE (En.mk lv true true) (En.mk uv true uop) = ER by rw [hV, hE]; simp [btV, btE])
  have CO := Lib.hid (fun W => midP_any lv uv W hl hu)
  rw [← hV, ← hE] at CO
  generalize btV (En.mk lv true true) (En.mk uv true uop) = VV at *
  generalize btE (En.mk lv true true) (En.mk uv true uop) = EE at *
  clear hV hE
  go_enter Tryz.func105, Tryz.ntmps105
  go_upto_region 1 with (fail)
  rw [← hw0]
  clear hw0
  go_wp2_with fail
  refine (CO.out w0).mono ?_
  rintro e w1 ⟨rfl, hb⟩
  have P1 := Lib.hid (P0.out.kept hb)
  have B1 := Lib.hid (below_on E0.out hb)
  clear hb a0 a1 a2 a3 b0 b1 b2 b3 f0 f1 f2 f3
  go_wp2_with fail
  refine (mustR_any V ER w1).mono ?_
  rintro e w2 ⟨hb, (⟨he, rfl⟩ | ⟨he, rfl⟩)⟩
  · have P2 := Lib.hid (P1.out.kept hb)
    have B2 := Lib.hid (below_on B1.out hb)
    have HE := Lib.hid he
    obtain ⟨f0, f1, f2, f3⟩ := P2.out.facts
    clear hb he
    go_wp2_with fail
    refine bodyPost_ret (v := .agg #[.int .i64 V.1, .int .i64 V.2]) (by simp [results, Tryz.results105, go_sem, f0, f1]) rfl ⟨below_put B2.out (by omega) _ _, Or.inl ⟨by rw [HV.out.2]; exact HE.out, by rw [HV.out.1]⟩⟩
  · have B2 := Lib.hid (below_on B1.out hb)
    have HE := Lib.hid he
    clear hb he
    go_wp2_with fail
    exact And.intro rfl ⟨B2.out, Or.inr ⟨by rw [HV.out.2]; exact HE.out, by rw [HV.out.2]⟩⟩

set_option maxRecDepth 100000 in
set_option maxHeartbeats 4000000 in
theorem bt3 (lv uv : Pq) (uop : Bool) (w : World) (hl : I2 lv) (_hu : I2 uv) :
    Calls Tryz.prog 105 #[.agg (En.mk lv true true).cs, .agg (En.mk uv false uop).cs] w (QRes w (btV ⟨lv, true, true⟩ ⟨uv, false, uop⟩) (btE ⟨lv, true, true⟩ ⟨uv, false, uop⟩)) := by
  obtain ⟨w0, hw0⟩ : ∃ w0, w0 = ((w.alloc (.cells (En.mk lv true true).cs 105)).alloc (.cells (En.mk uv false uop).cs 105)).alloc (.cells #[.int .i64 0, .int .i64 0] 50) := ⟨_, rfl⟩
  have X0 := Lib.hid (show EnB w0 w.heap.size (En.mk lv true true) by rw [hw0]; exact ((EnB.made w _).kept (one_more _)).kept (one_more _))
  have X1 := Lib.hid (show EnB w0 (w.heap.size + 1) (En.mk uv false uop) by rw [hw0]; have := (EnB.made (w.alloc (.cells (En.mk lv true true).cs 105)) (En.mk uv false uop)).kept (one_more (.cells #[.int .i64 0, .int .i64 0] 50)); simpa using this)
  have P0 := Lib.hid (show Pair w0 (w.heap.size + 2) 0 0 by rw [hw0]; have := Pair.made ((w.alloc (.cells (En.mk lv true true).cs 105)).alloc (.cells (En.mk uv false uop).cs 105)) 0 0 50; simpa using this)
  have E0 := Lib.hid (show Below w.heap.size w w0 by rw [hw0]; exact past_three (Below.refl _ _))
  obtain ⟨a0, a1, a2, a3⟩ := X0.out.facts
  obtain ⟨b0, b1, b2, b3⟩ := X1.out.facts
  obtain ⟨f0, f1, f2, f3⟩ := P0.out.facts
  obtain ⟨V, hV⟩ : ∃ V, V = adR lv (1, 1) := ⟨_, rfl⟩
  obtain ⟨ER, hE⟩ : ∃ ER, ER = adE lv (1, 1) := ⟨_, rfl⟩
  have HV := Lib.hid (show btV (En.mk lv true true) (En.mk uv false uop) = V ∧ btE (En.mk lv true true) (En.mk uv false uop) = ER by rw [hV, hE]; simp [btV, btE])
  have CO := Lib.hid (fun W => addP_any lv (1, 1) W hl one_64)
  rw [← hV, ← hE] at CO
  generalize btV (En.mk lv true true) (En.mk uv false uop) = VV at *
  generalize btE (En.mk lv true true) (En.mk uv false uop) = EE at *
  clear hV hE
  go_enter Tryz.func105, Tryz.ntmps105
  go_upto_region 1 with (fail)
  rw [← hw0]
  clear hw0
  go_upto_region 6 with (fail)
  clear a0 a1 a2 a3 b0 b1 b2 b3 f0 f1 f2 f3
  have KS := Lib.hid (show ∀ W, Below w0.heap.size w0 W → (W.cell? ⟨w.heap.size, 0, none⟩ = some (.int .i64 lv.1) ∧ W.cell? ⟨w.heap.size, 1, none⟩ = some (.int .i64 lv.2)) from fun W h => ⟨(X0.out.kept h).facts.1, (X0.out.kept h).facts.2.1⟩)
  obtain ⟨wc, hwc⟩ : ∃ wc, wc = w0.drew := ⟨_, rfl⟩
  have Bc := Lib.hid (show Below w0.heap.size w0 wc by rw [hwc]; exact (Below.refl _ _).drew)
  refine wp_region_held_drew (S := (fun W => (W.cell? ⟨w.heap.size, 0, none⟩ = some (.int .i64 lv.1) ∧ W.cell? ⟨w.heap.size, 1, none⟩ = some (.int .i64 lv.2)))) (by kernel_rfl) (by rw [← hwc]; exact KS.out _ Bc.out) (fun h0 => ?_)
  rw [← hwc] at h0 ⊢
  clear hwc
  refine tkH (i := 0) (v := ?v1) rfl (Or.inl ⟨by rfl, ?hy1⟩) h0 ?rest1
  case hy1 => (intro w' hS; (try dsimp only at hS); go_simp; try (with_reducible rfl))
  simp only [Act.put, sA, sB, sD, sE, sF]
  refine tkH (i := 1) (v := ?v2) rfl (Or.inl ⟨by rfl, ?hy2⟩) h0 ?rest2
  case hy2 => (intro w' hS; (try dsimp only at hS); go_simp; try (with_reducible rfl))
  simp only [Act.put, sZ]
  refine wpAnyH_ready (rs := [2]) (by kernel_rfl) (by simp) (AllReadyH.cons rfl (fun K hK => ?_) AllReadyH.nil)
  rw [if_pos (by rfl)]
  go_simp
  refine (whole_any 1 wc).mono ?_
  rintro e wc ⟨rfl, hb⟩
  have Bc := Lib.hid (below_on Bc.out hb)
  clear hb
  go_simp
  refine hK.out _ _ (KS.out _ Bc.out) (fun h0_1 => ?_)
  clear hK K h0
  refine wpAnyH_ready (rs := [3]) (by kernel_rfl) (by simp) (AllReadyH.cons rfl (fun K hK => ?_) AllReadyH.nil)
  rw [if_pos (by rfl)]
  go_simp
  refine (CO.out wc).mono ?_
  rintro e wc ⟨rfl, hb⟩
  have Bc := Lib.hid (below_on Bc.out hb)
  clear hb
  go_simp
  refine hK.out _ _ (KS.out _ Bc.out) (fun h0_2 => ?_)
  clear hK K h0_1
  refine tkH (i := 4) (v := ?v3) rfl (Or.inl ⟨by rfl, ?hy3⟩) h0_2 ?rest3
  case hy3 => (intro w' hS; (try dsimp only at hS); go_simp; try (with_reducible rfl))
  simp only [Act.put, sZ]
  refine tkH (i := 5) (v := ?v4) rfl (Or.inl ⟨by rfl, ?hy4⟩) h0_2 ?rest4
  case hy4 => (intro w' hS; (try dsimp only at hS); go_simp; try (with_reducible rfl))
  simp only [Act.put, sZ]
  refine wpAnyH_ready (rs := [6]) (by kernel_rfl) (by simp) (AllReadyH.cons rfl (fun K hK => ?_) AllReadyH.nil)
  rw [if_pos (by rfl)]
  go_simp
  refine (mustR_any V ER wc).mono ?_
  rintro e wc ⟨hb, (⟨he, rfl⟩ | ⟨he, rfl⟩)⟩
  rotate_left
  · exact And.intro rfl ⟨below_on E0.out (below_on Bc.out hb), Or.inr ⟨by rw [HV.out.2]; exact he, by rw [HV.out.2]⟩⟩
  have Bc := Lib.hid (below_on Bc.out hb)
  have M := Lib.hid he
  clear hb he
  go_simp
  refine hK.out _ _ (KS.out _ Bc.out) (fun h0_3 => ?_)
  clear hK K h0_2
  refine wpAnyH_ready (rs := [7]) (by kernel_rfl) (by simp) (AllReadyH.cons rfl (fun K hK => ?_) AllReadyH.nil)
  rw [if_pos (by rfl)]
  go_simp
  have PP := Lib.hid (P0.out.kept Bc.out)
  obtain ⟨f0, f1, f2, f3⟩ := PP.out.facts
  go_simp
  refine hK.out _ _ (⟨((X0.out.kept Bc.out).aside (by omega) _).aside (by omega) _ |>.facts.1, ((X0.out.kept Bc.out).aside (by omega) _).aside (by omega) _ |>.facts.2.1⟩) (fun h0_4 => ?_)
  clear hK K h0_3
  try simp only [sF]
  try simp only [sE]
  refine wpAnyH_done (by kernel_rfl) ?_ _
  have PE := PP.out.put V.1 V.2
  have BE := below_put (below_on E0.out Bc.out) (b := w.heap.size + 2) (by omega) (.int .i64 V.1) (.int .i64 V.2)
  clear f0 f1 f2 f3
  obtain ⟨f0, f1, f2, f3⟩ := PE.facts
  obtain ⟨we, hwe⟩ : ∃ we, we = (wc.setCell ⟨w.heap.size + 2, 0, none⟩ (.int .i64 V.1)).setCell ⟨w.heap.size + 2, 1, none⟩ (.int .i64 V.2) := ⟨_, rfl⟩
  rw [← hwe] at BE f0 f1 f2 f3 ⊢
  have BX := Lib.hid BE
  clear hwe PE BE
  go_wp2_with fail
  refine bodyPost_ret (v := .agg #[.int .i64 V.1, .int .i64 V.2]) (by simp [results, Tryz.results105, go_sem, f0, f1]) rfl ⟨BX.out, Or.inl ⟨by rw [HV.out.2]; exact M.out, by rw [HV.out.1]⟩⟩

set_option maxRecDepth 100000 in
set_option maxHeartbeats 4000000 in
theorem bt5 (lv uv : Pq) (lop : Bool) (w : World) (_hl : I2 lv) (hu : I2 uv) :
    Calls Tryz.prog 105 #[.agg (En.mk lv false lop).cs, .agg (En.mk uv true true).cs] w (QRes w (btV ⟨lv, false, lop⟩ ⟨uv, true, true⟩) (btE ⟨lv, false, lop⟩ ⟨uv, true, true⟩)) := by
  obtain ⟨w0, hw0⟩ : ∃ w0, w0 = ((w.alloc (.cells (En.mk lv false lop).cs 105)).alloc (.cells (En.mk uv true true).cs 105)).alloc (.cells #[.int .i64 0, .int .i64 0] 50) := ⟨_, rfl⟩
  have X0 := Lib.hid (show EnB w0 w.heap.size (En.mk lv false lop) by rw [hw0]; exact ((EnB.made w _).kept (one_more _)).kept (one_more _))
  have X1 := Lib.hid (show EnB w0 (w.heap.size + 1) (En.mk uv true true) by rw [hw0]; have := (EnB.made (w.alloc (.cells (En.mk lv false lop).cs 105)) (En.mk uv true true)).kept (one_more (.cells #[.int .i64 0, .int .i64 0] 50)); simpa using this)
  have P0 := Lib.hid (show Pair w0 (w.heap.size + 2) 0 0 by rw [hw0]; have := Pair.made ((w.alloc (.cells (En.mk lv false lop).cs 105)).alloc (.cells (En.mk uv true true).cs 105)) 0 0 50; simpa using this)
  have E0 := Lib.hid (show Below w.heap.size w w0 by rw [hw0]; exact past_three (Below.refl _ _))
  obtain ⟨a0, a1, a2, a3⟩ := X0.out.facts
  obtain ⟨b0, b1, b2, b3⟩ := X1.out.facts
  obtain ⟨f0, f1, f2, f3⟩ := P0.out.facts
  obtain ⟨V, hV⟩ : ∃ V, V = sbR uv (1, 1) := ⟨_, rfl⟩
  obtain ⟨ER, hE⟩ : ∃ ER, ER = sbE uv (1, 1) := ⟨_, rfl⟩
  have HV := Lib.hid (show btV (En.mk lv false lop) (En.mk uv true true) = V ∧ btE (En.mk lv false lop) (En.mk uv true true) = ER by rw [hV, hE]; simp [btV, btE])
  have CO := Lib.hid (fun W => subP_any uv (1, 1) W hu one_64)
  rw [← hV, ← hE] at CO
  generalize btV (En.mk lv false lop) (En.mk uv true true) = VV at *
  generalize btE (En.mk lv false lop) (En.mk uv true true) = EE at *
  clear hV hE
  go_enter Tryz.func105, Tryz.ntmps105
  go_upto_region 1 with (fail)
  rw [← hw0]
  clear hw0
  go_upto_region 10 with (fail)
  clear a0 a1 a2 a3 b0 b1 b2 b3 f0 f1 f2 f3
  have KS := Lib.hid (show ∀ W, Below w0.heap.size w0 W → (W.cell? ⟨w.heap.size + 1, 0, none⟩ = some (.int .i64 uv.1) ∧ W.cell? ⟨w.heap.size + 1, 1, none⟩ = some (.int .i64 uv.2)) from fun W h => ⟨(X1.out.kept h).facts.1, (X1.out.kept h).facts.2.1⟩)
  obtain ⟨wc, hwc⟩ : ∃ wc, wc = w0.drew := ⟨_, rfl⟩
  have Bc := Lib.hid (show Below w0.heap.size w0 wc by rw [hwc]; exact (Below.refl _ _).drew)
  refine wp_region_held_drew (S := (fun W => (W.cell? ⟨w.heap.size + 1, 0, none⟩ = some (.int .i64 uv.1) ∧ W.cell? ⟨w.heap.size + 1, 1, none⟩ = some (.int .i64 uv.2)))) (by kernel_rfl) (by rw [← hwc]; exact KS.out _ Bc.out) (fun h0 => ?_)
  rw [← hwc] at h0 ⊢
  clear hwc
  refine tkH (i := 0) (v := ?v5) rfl (Or.inl ⟨by rfl, ?hy5⟩) h0 ?rest5
  case hy5 => (intro w' hS; (try dsimp only at hS); go_simp; try (with_reducible rfl))
  simp only [Act.put, sA, sB, sD, sE, sF]
  refine tkH (i := 1) (v := ?v6) rfl (Or.inl ⟨by rfl, ?hy6⟩) h0 ?rest6
  case hy6 => (intro w' hS; (try dsimp only at hS); go_simp; try (with_reducible rfl))
  simp only [Act.put, sZ]
  refine wpAnyH_ready (rs := [2]) (by kernel_rfl) (by simp) (AllReadyH.cons rfl (fun K hK => ?_) AllReadyH.nil)
  rw [if_pos (by rfl)]
  go_simp
  refine (whole_any 1 wc).mono ?_
  rintro e wc ⟨rfl, hb⟩
  have Bc := Lib.hid (below_on Bc.out hb)
  clear hb
  go_simp
  refine hK.out _ _ (KS.out _ Bc.out) (fun h0_1 => ?_)
  clear hK K h0
  refine wpAnyH_ready (rs := [3]) (by kernel_rfl) (by simp) (AllReadyH.cons rfl (fun K hK => ?_) AllReadyH.nil)
  rw [if_pos (by rfl)]
  go_simp
  refine (CO.out wc).mono ?_
  rintro e wc ⟨rfl, hb⟩
  have Bc := Lib.hid (below_on Bc.out hb)
  clear hb
  go_simp
  refine hK.out _ _ (KS.out _ Bc.out) (fun h0_2 => ?_)
  clear hK K h0_1
  refine tkH (i := 4) (v := ?v7) rfl (Or.inl ⟨by rfl, ?hy7⟩) h0_2 ?rest7
  case hy7 => (intro w' hS; (try dsimp only at hS); go_simp; try (with_reducible rfl))
  simp only [Act.put, sZ]
  refine tkH (i := 5) (v := ?v8) rfl (Or.inl ⟨by rfl, ?hy8⟩) h0_2 ?rest8
  case hy8 => (intro w' hS; (try dsimp only at hS); go_simp; try (with_reducible rfl))
  simp only [Act.put, sZ]
  refine wpAnyH_ready (rs := [6]) (by kernel_rfl) (by simp) (AllReadyH.cons rfl (fun K hK => ?_) AllReadyH.nil)
  rw [if_pos (by rfl)]
  go_simp
  refine (mustR_any V ER wc).mono ?_
  rintro e wc ⟨hb, (⟨he, rfl⟩ | ⟨he, rfl⟩)⟩
  rotate_left
  · exact And.intro rfl ⟨below_on E0.out (below_on Bc.out hb), Or.inr ⟨by rw [HV.out.2]; exact he, by rw [HV.out.2]⟩⟩
  have Bc := Lib.hid (below_on Bc.out hb)
  have M := Lib.hid he
  clear hb he
  go_simp
  refine hK.out _ _ (KS.out _ Bc.out) (fun h0_3 => ?_)
  clear hK K h0_2
  refine wpAnyH_ready (rs := [7]) (by kernel_rfl) (by simp) (AllReadyH.cons rfl (fun K hK => ?_) AllReadyH.nil)
  rw [if_pos (by rfl)]
  go_simp
  have PP := Lib.hid (P0.out.kept Bc.out)
  obtain ⟨f0, f1, f2, f3⟩ := PP.out.facts
  go_simp
  refine hK.out _ _ (⟨((X1.out.kept Bc.out).aside (by omega) _).aside (by omega) _ |>.facts.1, ((X1.out.kept Bc.out).aside (by omega) _).aside (by omega) _ |>.facts.2.1⟩) (fun h0_4 => ?_)
  clear hK K h0_3
  try simp only [sF]
  try simp only [sE]
  refine wpAnyH_done (by kernel_rfl) ?_ _
  have PE := PP.out.put V.1 V.2
  have BE := below_put (below_on E0.out Bc.out) (b := w.heap.size + 2) (by omega) (.int .i64 V.1) (.int .i64 V.2)
  clear f0 f1 f2 f3
  obtain ⟨f0, f1, f2, f3⟩ := PE.facts
  obtain ⟨we, hwe⟩ : ∃ we, we = (wc.setCell ⟨w.heap.size + 2, 0, none⟩ (.int .i64 V.1)).setCell ⟨w.heap.size + 2, 1, none⟩ (.int .i64 V.2) := ⟨_, rfl⟩
  rw [← hwe] at BE f0 f1 f2 f3 ⊢
  have BX := Lib.hid BE
  clear hwe PE BE
  go_wp2_with fail
  refine bodyPost_ret (v := .agg #[.int .i64 V.1, .int .i64 V.2]) (by simp [results, Tryz.results105, go_sem, f0, f1]) rfl ⟨BX.out, Or.inl ⟨by rw [HV.out.2]; exact M.out, by rw [HV.out.1]⟩⟩

set_option maxRecDepth 100000 in
set_option maxHeartbeats 4000000 in
theorem bt6 (lv uv : Pq) (lop uop : Bool) (w : World) (_hl : I2 lv) (_hu : I2 uv) :
    Calls Tryz.prog 105 #[.agg (En.mk lv false lop).cs, .agg (En.mk uv false uop).cs] w (QRes w (btV ⟨lv, false, lop⟩ ⟨uv, false, uop⟩) (btE ⟨lv, false, lop⟩ ⟨uv, false, uop⟩)) := by
  obtain ⟨w0, hw0⟩ : ∃ w0, w0 = ((w.alloc (.cells (En.mk lv false lop).cs 105)).alloc (.cells (En.mk uv false uop).cs 105)).alloc (.cells #[.int .i64 0, .int .i64 0] 50) := ⟨_, rfl⟩
  have X0 := Lib.hid (show EnB w0 w.heap.size (En.mk lv false lop) by rw [hw0]; exact ((EnB.made w _).kept (one_more _)).kept (one_more _))
  have X1 := Lib.hid (show EnB w0 (w.heap.size + 1) (En.mk uv false uop) by rw [hw0]; have := (EnB.made (w.alloc (.cells (En.mk lv false lop).cs 105)) (En.mk uv false uop)).kept (one_more (.cells #[.int .i64 0, .int .i64 0] 50)); simpa using this)
  have P0 := Lib.hid (show Pair w0 (w.heap.size + 2) 0 0 by rw [hw0]; have := Pair.made ((w.alloc (.cells (En.mk lv false lop).cs 105)).alloc (.cells (En.mk uv false uop).cs 105)) 0 0 50; simpa using this)
  have E0 := Lib.hid (show Below w.heap.size w w0 by rw [hw0]; exact past_three (Below.refl _ _))
  obtain ⟨a0, a1, a2, a3⟩ := X0.out.facts
  obtain ⟨b0, b1, b2, b3⟩ := X1.out.facts
  obtain ⟨f0, f1, f2, f3⟩ := P0.out.facts
  have HV := Lib.hid (show btV (En.mk lv false lop) (En.mk uv false uop) = (0, 1) ∧ btE (En.mk lv false lop) (En.mk uv false uop) = 0 by simp [btV, btE])
  generalize btV (En.mk lv false lop) (En.mk uv false uop) = V at *
  generalize btE (En.mk lv false lop) (En.mk uv false uop) = ER at *
  go_enter Tryz.func105, Tryz.ntmps105
  go_upto_region 1 with (fail)
  rw [← hw0]
  clear hw0
  go_wp2_with fail
  refine (whole_any 0 w0).mono ?_
  rintro e w1 ⟨rfl, hb⟩
  have P1 := Lib.hid (P0.out.kept hb)
  have B1 := Lib.hid (below_on E0.out hb)
  clear hb a0 a1 a2 a3 b0 b1 b2 b3 f0 f1 f2 f3
  obtain ⟨f0, f1, f2, f3⟩ := P1.out.facts
  go_wp2_with fail
  refine bodyPost_ret (v := .agg #[.int .i64 0, .int .i64 1]) (by simp [results, Tryz.results105, go_sem, f0, f1]) rfl ⟨below_put B1.out (by omega) _ _, Or.inl ⟨HV.out.2, by rw [HV.out.1]⟩⟩

theorem between_any (lo up : En) (w : World) (hl : I2 lo.v) (hu : I2 up.v) : Calls Tryz.prog 105 #[.agg lo.cs, .agg up.cs] w (QRes w (btV lo up) (btE lo up)) := by
  obtain ⟨lv, lex, lop⟩ := lo
  obtain ⟨uv, uex, uop⟩ := up
  cases lex
  · cases uex
    · exact bt6 lv uv lop uop w hl hu
    · cases uop
      · exact bt4 lv uv lop w hl hu
      · exact bt5 lv uv lop w hl hu
  · cases lop
    · exact bt1 lv uv uex uop w hl hu
    · cases uex
      · exact bt3 lv uv uop w hl hu
      · exact bt2 lv uv uop w hl hu
end Go.Proofs.YtbhaoaobhgilkaaGreat
