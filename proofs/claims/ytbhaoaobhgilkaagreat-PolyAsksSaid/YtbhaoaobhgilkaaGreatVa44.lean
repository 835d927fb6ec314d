/- The contract of chosen of layer 7's reference.; Plain mathematics: the reference's Point makes what the project's makes; its errors. -/
import Derived.Test.YtbhaoaobhgilkaaGreatVa3
import Derived.Test.YtbhaoaobhgilkaaGreatVa41
import Derived.Test.YtbhaoaobhgilkaaGreatVa21
import Derived.Test.YtbhaoaobhgilkaaGreatVa40
import Derived.Test.YtbhaoaobhgilkaaGreatVa43

namespace Go.Proofs.YtbhaoaobhgilkaaGreat
open Go.RowKit Go.Sort Go.Shelf

set_option maxRecDepth 100000 in
set_option maxHeartbeats 4000000 in
theorem ch1 (lv uv : Pq) (uex uop : Bool) (q : Nat) (w : World) (hE : RowC w q (EsC ⟨lv, true, false⟩ ⟨uv, uex, uop⟩)) (_hl : I2 lv) (_hu : I2 uv) :
    Calls Tryz.prog 75 #[.pointer (some ⟨q, 0, none⟩)] w (Made (.tuple #[.agg #[.int .i64 (btV ⟨lv, true, false⟩ ⟨uv, uex, uop⟩).1, .int .i64 (btV ⟨lv, true, false⟩ ⟨uv, uex, uop⟩).2], .int .i64 (btE ⟨lv, true, false⟩ ⟨uv, uex, uop⟩)]) w) := by
  obtain ⟨w0, hw0⟩ : ∃ w0, w0 = w.alloc (.cells #[.int .i64 0, .int .i64 0] 50) := ⟨_, rfl⟩
  have P0 := Lib.hid (show Pair w0 w.heap.size 0 0 by rw [hw0]; exact Pair.made _ _ _ _)
  have E0 := Lib.hid (show Below w.heap.size w w0 by rw [hw0]; exact one_more _)
  have ER := Lib.hid (hE.kept E0.out)
  have HV := Lib.hid (show btV ⟨lv, true, false⟩ ⟨uv, uex, uop⟩ = lv ∧ btE ⟨lv, true, false⟩ ⟨uv, uex, uop⟩ = 0 by simp [btV, btE])
  rw [HV.out.1, HV.out.2]
  clear HV
  have CF := Lib.hid (show ∀ W, Below w0.heap.size w0 W → W.cell? ⟨q, 0, none⟩ = some (.int .i64 lv.1) ∧ W.cell? ⟨q, 1, none⟩ = some (.int .i64 lv.2) ∧ W.cell? ⟨q, 2, none⟩ = some (.int .i64 uv.1) ∧ W.cell? ⟨q, 3, none⟩ = some (.int .i64 uv.2) from fun W h => ⟨kept h (ER.out.cell 0), kept h (ER.out.cell 1), kept h (ER.out.cell 2), kept h (ER.out.cell 3)⟩)
  have c4 : w0.cell? ⟨q, 4, none⟩ = some (.bool true) := ER.out.cell 4
  have c5 : w0.cell? ⟨q, 5, none⟩ = some (.bool uex) := ER.out.cell 5
  have c6 : w0.cell? ⟨q, 6, none⟩ = some (.bool false) := ER.out.cell 6
  have c7 : w0.cell? ⟨q, 7, none⟩ = some (.bool uop) := ER.out.cell 7
  obtain ⟨c0, c1, c2, c3⟩ := CF.out w0 (Below.refl _ _)
  obtain ⟨f0, f1, f2, f3⟩ := P0.out.facts
  clear hE
  go_enter Tryz.func75, Tryz.ntmps75
  go_upto_region 1 with (fail)
  rw [← hw0]
  clear hw0
  go_wp2_with fail
  refine bodyPost_ret (v := .tuple #[.agg #[.int .i64 lv.1, .int .i64 lv.2], .int .i64 0]) (by simp [results, Tryz.results75, go_sem, f0, f1]) rfl ⟨rfl, below_put E0.out (Nat.le_refl _) _ _⟩

set_option maxRecDepth 100000 in
set_option maxHeartbeats 4000000 in
theorem ch2 (lv uv : Pq) (uop : Bool) (q : Nat) (w : World) (hE : RowC w q (EsC ⟨lv, true, true⟩ ⟨uv, true, uop⟩)) (_hl : I2 lv) (_hu : I2 uv) :
    Calls Tryz.prog 75 #[.pointer (some ⟨q, 0, none⟩)] w (Made (.tuple #[.agg #[.int .i64 (btV ⟨lv, true, true⟩ ⟨uv, true, uop⟩).1, .int .i64 (btV ⟨lv, true, true⟩ ⟨uv, true, uop⟩).2], .int .i64 (btE ⟨lv, true, true⟩ ⟨uv, true, uop⟩)]) w) := by
  obtain ⟨w0, hw0⟩ : ∃ w0, w0 = w.alloc (.cells #[.int .i64 0, .int .i64 0] 50) := ⟨_, rfl⟩
  have P0 := Lib.hid (show Pair w0 w.heap.size 0 0 by rw [hw0]; exact Pair.made _ _ _ _)
  have E0 := Lib.hid (show Below w.heap.size w w0 by rw [hw0]; exact one_more _)
  have ER := Lib.hid (hE.kept E0.out)
  have W0 := Lib.hid (show w.cell? ⟨q, 0, none⟩ = some (.int .i64 lv.1) ∧ w.cell? ⟨q, 1, none⟩ = some (.int .i64 lv.2) ∧ w.cell? ⟨q, 2, none⟩ = some (.int .i64 uv.1) ∧ w.cell? ⟨q, 3, none⟩ = some (.int .i64 uv.2) from ⟨hE.cell 0, hE.cell 1, hE.cell 2, hE.cell 3⟩)
  obtain ⟨V, hV⟩ : ∃ V, V = mdR lv uv := ⟨_, rfl⟩
  obtain ⟨EE, hEE⟩ : ∃ EE, EE = mdE lv uv := ⟨_, rfl⟩
  have HV := Lib.hid (show btV ⟨lv, true, true⟩ ⟨uv, true, uop⟩ = V ∧ btE ⟨lv, true, true⟩ ⟨uv, true, uop⟩ = EE by rw [hV, hEE]; simp [btV, btE])
  have CO := Lib.hid (fun W => rmidP_any lv uv W _hl _hu)
  rw [← hV, ← hEE] at CO
  rw [HV.out.1, HV.out.2]
  clear hV hEE HV
  have CF := Lib.hid (show ∀ W, Below w0.heap.size w0 W → W.cell? ⟨q, 0, none⟩ = some (.int .i64 lv.1) ∧ W.cell? ⟨q, 1, none⟩ = some (.int .i64 lv.2) ∧ W.cell? ⟨q, 2, none⟩ = some (.int .i64 uv.1) ∧ W.cell? ⟨q, 3, none⟩ = some (.int .i64 uv.2) from fun W h => ⟨kept h (ER.out.cell 0), kept h (ER.out.cell 1), kept h (ER.out.cell 2), kept h (ER.out.cell 3)⟩)
  have c4 : w0.cell? ⟨q, 4, none⟩ = some (.bool true) := ER.out.cell 4
  have c5 : w0.cell? ⟨q, 5, none⟩ = some (.bool true) := ER.out.cell 5
  have c6 : w0.cell? ⟨q, 6, none⟩ = some (.bool true) := ER.out.cell 6
  have c7 : w0.cell? ⟨q, 7, none⟩ = some (.bool uop) := ER.out.cell 7
  obtain ⟨c0, c1, c2, c3⟩ := CF.out w0 (Below.refl _ _)
  obtain ⟨f0, f1, f2, f3⟩ := P0.out.facts
  clear hE
  go_enter Tryz.func75, Tryz.ntmps75
  go_upto_region 1 with (fail)
  rw [← hw0]
  clear hw0
  go_upto_region 4 with (fail)
  clear c0 c1 c2 c3 c4 c5 c6 c7 f0 f1 f2 f3
  obtain ⟨wc, hwc⟩ : ∃ wc, wc = w0.drew := ⟨_, rfl⟩
  have Bc := Lib.hid (show Below w0.heap.size w0 wc by rw [hwc]; exact (Below.refl _ _).drew)
  refine wp_region_held_drew (S := (fun W => (W.cell? ⟨q, 0, none⟩ = some (.int .i64 lv.1) ∧ W.cell? ⟨q, 1, none⟩ = some (.int .i64 lv.2) ∧ W.cell? ⟨q, 2, none⟩ = some (.int .i64 uv.1) ∧ W.cell? ⟨q, 3, none⟩ = some (.int .i64 uv.2)))) (by kernel_rfl) (by rw [← hwc]; exact CF.out _ Bc.out) (fun h0 => ?_)
  rw [← hwc] at h0 ⊢
  clear hwc
  refine tkH (i := 0) (v := ?v1) rfl (Or.inl ⟨by rfl, ?hy1⟩) h0 ?rest1
  case hy1 => (intro w' hS; (try dsimp only at hS); go_simp; try (with_reducible rfl))
  simp only [Act.put, sA, sB, sD, sE, sF]
  refine tkH (i := 1) (v := ?v2) rfl (Or.inl ⟨by rfl, ?hy2⟩) h0 ?rest2
  case hy2 => (intro w' hS; (try dsimp only at hS); go_simp; try (with_reducible rfl))
  simp only [Act.put, sA, sB, sC, sD, sE, sF]
  refine tkH (i := 2) (v := ?v3) rfl (Or.inl ⟨by rfl, ?hy3⟩) h0 ?rest3
  case hy3 => (intro w' hS; (try dsimp only at hS); go_simp; try (with_reducible rfl))
  simp only [Act.put, sA, sB, sC, sD, sE, sF]
  refine tkH (i := 3) (v := ?v4) rfl (Or.inl ⟨by rfl, ?hy4⟩) h0 ?rest4
  case hy4 => (intro w' hS; (try dsimp only at hS); go_simp; try (with_reducible rfl))
  simp only [Act.put, sA, sB, sC, sD, sE, sF]
  refine tkH (i := 4) (v := ?v5) rfl (Or.inl ⟨by rfl, ?hy5⟩) h0 ?rest5
  case hy5 => (intro w' hS; (try dsimp only at hS); go_simp; try (with_reducible rfl))
  simp only [Act.put, sA, sB, sC, sD, sE, sF]
  refine tkH (i := 5) (v := ?v6) rfl (Or.inl ⟨by rfl, ?hy6⟩) h0 ?rest6
  case hy6 => (intro w' hS; (try dsimp only at hS); go_simp; try (with_reducible rfl))
  simp only [Act.put, sA, sB, sC, sD, sE, sF]
  refine tkH (i := 6) (v := ?v7) rfl (Or.inl ⟨by rfl, ?hy7⟩) h0 ?rest7
  case hy7 => (intro w' hS; (try dsimp only at hS); go_simp; try (with_reducible rfl))
  simp only [Act.put, sA, sB, sC, sD, sE, sF]
  refine tkH (i := 7) (v := ?v8) rfl (Or.inl ⟨by rfl, ?hy8⟩) h0 ?rest8
  case hy8 => (intro w' hS; (try dsimp only at hS); go_simp; try (with_reducible rfl))
  simp only [Act.put, sA, sB, sC, sD, sE, sF]
  refine wpAnyH_ready (rs := [8]) (by kernel_rfl) (by simp) (AllReadyH.cons rfl (fun K hK => ?_) AllReadyH.nil)
  rw [if_pos (by rfl)]
  go_simp
  refine (CO.out wc).mono ?_
  rintro e wc ⟨rfl, hb⟩
  have Bc := Lib.hid (below_on Bc.out hb)
  clear hb
  go_simp
  refine hK.out _ _ (CF.out _ Bc.out) (fun h0_1 => ?_)
  clear hK K h0
  refine tkH (i := 9) (v := ?v9) rfl (Or.inl ⟨by rfl, ?hy9⟩) h0_1 ?rest9
  case hy9 => (intro w' hS; (try dsimp only at hS); go_simp; try (with_reducible rfl))
  simp only [Act.put, sA, sB, sC, sD, sE, sF]
  refine tkH (i := 10) (v := ?v10) rfl (Or.inl ⟨by rfl, ?hy10⟩) h0_1 ?rest10
  case hy10 => (intro w' hS; (try dsimp only at hS); go_simp; try (with_reducible rfl))
  simp only [Act.put, sA, sB, sC, sD, sE, sF]
  refine wpAnyH_ready (rs := [11]) (by kernel_rfl) (by simp) (AllReadyH.cons rfl (fun K hK => ?_) AllReadyH.nil)
  rw [if_pos (by rfl)]
  go_simp
  have PX := Lib.hid (P0.out.kept Bc.out)
  obtain ⟨f0, f1, f2, f3⟩ := PX.out.facts
  have BB := Lib.hid (below_put (below_on E0.out Bc.out) (Nat.le_refl _) (.int .i64 V.1) (.int .i64 V.2))
  have PY := Lib.hid (PX.out.put V.1 V.2)
  go_simp
  refine hK.out _ _ (⟨kept BB.out W0.out.1, kept BB.out W0.out.2.1, kept BB.out W0.out.2.2.1, kept BB.out W0.out.2.2.2⟩) (fun h0_2 => ?_)
  clear hK K h0_1
  clear f0 f1 f2 f3
  obtain ⟨f0, f1, _, _⟩ := PY.out.facts
  refine tkH (i := 12) (v := ?v11) rfl (Or.inl ⟨by rfl, ?hy11⟩) h0_2 ?rest11
  case hy11 => (intro w' hS; (try dsimp only at hS); go_simp; try (with_reducible rfl))
  simp only [Act.put, sA, sB, sC, sD]
  try simp only [sF]
  try simp only [sE]
  refine wpAnyH_done (by kernel_rfl) ?_ _
  go_wp2_with fail
  refine bodyPost_ret (v := .tuple #[.agg #[.int .i64 V.1, .int .i64 V.2], .int .i64 EE]) (by simp [results, Tryz.results75, go_sem, f0, f1]) rfl ⟨rfl, BB.out⟩

set_option maxRecDepth 100000 in
set_option maxHeartbeats 4000000 in
theorem ch3 (lv uv : Pq) (uop : Bool) (q : Nat) (w : World) (hE : RowC w q (EsC ⟨lv, true, true⟩ ⟨uv, false, uop⟩)) (_hl : I2 lv) (_hu : I2 uv) :
    Calls Tryz.prog 75 #[.pointer (some ⟨q, 0, none⟩)] w (Made (.tuple #[.agg #[.int .i64 (btV ⟨lv, true, true⟩ ⟨uv, false, uop⟩).1, .int .i64 (btV ⟨lv, true, true⟩ ⟨uv, false, uop⟩).2], .int .i64 (btE ⟨lv, true, true⟩ ⟨uv, false, uop⟩)]) w) := by
  obtain ⟨w0, hw0⟩ : ∃ w0, w0 = w.alloc (.cells #[.int .i64 0, .int .i64 0] 50) := ⟨_, rfl⟩
  have P0 := Lib.hid (show Pair w0 w.heap.size 0 0 by rw [hw0]; exact Pair.made _ _ _ _)
  have E0 := Lib.hid (show Below w.heap.size w w0 by rw [hw0]; exact one_more _)
  have ER := Lib.hid (hE.kept E0.out)
  obtain ⟨V, hV⟩ : ∃ V, V = adR lv (1, 1) := ⟨_, rfl⟩
  obtain ⟨EE, hEE⟩ : ∃ EE, EE = adE lv (1, 1) := ⟨_, rfl⟩
  have HV := Lib.hid (show btV ⟨lv, true, true⟩ ⟨uv, false, uop⟩ = V ∧ btE ⟨lv, true, true⟩ ⟨uv, false, uop⟩ = EE by rw [hV, hEE]; simp [btV, btE])
  have CO := Lib.hid (fun W => raddP_any lv (1, 1) W _hl one_64)
  rw [← hV, ← hEE] at CO
  rw [HV.out.1, HV.out.2]
  clear hV hEE HV
  have CF := Lib.hid (show ∀ W, Below w0.heap.size w0 W → W.cell? ⟨q, 0, none⟩ = some (.int .i64 lv.1) ∧ W.cell? ⟨q, 1, none⟩ = some (.int .i64 lv.2) ∧ W.cell? ⟨q, 2, none⟩ = some (.int .i64 uv.1) ∧ W.cell? ⟨q, 3, none⟩ = some (.int .i64 uv.2) from fun W h => ⟨kept h (ER.out.cell 0), kept h (ER.out.cell 1), kept h (ER.out.cell 2), kept h (ER.out.cell 3)⟩)
  have c4 : w0.cell? ⟨q, 4, none⟩ = some (.bool true) := ER.out.cell 4
  have c5 : w0.cell? ⟨q, 5, none⟩ = some (.bool false) := ER.out.cell 5
  have c6 : w0.cell? ⟨q, 6, none⟩ = some (.bool true) := ER.out.cell 6
  have c7 : w0.cell? ⟨q, 7, none⟩ = some (.bool uop) := ER.out.cell 7
  obtain ⟨c0, c1, c2, c3⟩ := CF.out w0 (Below.refl _ _)
  obtain ⟨f0, f1, f2, f3⟩ := P0.out.facts
  clear hE
  go_enter Tryz.func75, Tryz.ntmps75
  go_upto_region 1 with (fail)
  rw [← hw0]
  clear hw0
  go_wp2_with fail
  refine (CO.out w0).mono ?_
  rintro e w1 ⟨rfl, hb⟩
  have P1 := Lib.hid (P0.out.kept hb)
  have B1 := Lib.hid (below_on E0.out hb)
  clear hb c0 c1 c2 c3 c4 c5 c6 c7 f0 f1 f2 f3
  obtain ⟨f0, f1, f2, f3⟩ := P1.out.facts
  go_wp2_with fail
  refine bodyPost_ret (v := .tuple #[.agg #[.int .i64 V.1, .int .i64 V.2], .int .i64 EE]) (by simp [results, Tryz.results75, go_sem, f0, f1]) rfl ⟨rfl, below_put B1.out (Nat.le_refl _) _ _⟩

set_option maxRecDepth 100000 in
set_option maxHeartbeats 4000000 in
theorem ch5 (lv uv : Pq) (lop : Bool) (q : Nat) (w : World) (hE : RowC w q (EsC ⟨lv, false, lop⟩ ⟨uv, true, true⟩)) (_hl : I2 lv) (_hu : I2 uv) :
    Calls Tryz.prog 75 #[.pointer (some ⟨q, 0, none⟩)] w (Made (.tuple #[.agg #[.int .i64 (btV ⟨lv, false, lop⟩ ⟨uv, true, true⟩).1, .int .i64 (btV ⟨lv, false, lop⟩ ⟨uv, true, true⟩).2], .int .i64 (btE ⟨lv, false, lop⟩ ⟨uv, true, true⟩)]) w) := by
  obtain ⟨w0, hw0⟩ : ∃ w0, w0 = w.alloc (.cells #[.int .i64 0, .int .i64 0] 50) := ⟨_, rfl⟩
  have P0 := Lib.hid (show Pair w0 w.heap.size 0 0 by rw [hw0]; exact Pair.made _ _ _ _)
  have E0 := Lib.hid (show Below w.heap.size w w0 by rw [hw0]; exact one_more _)
  have ER := Lib.hid (hE.kept E0.out)
  obtain ⟨V, hV⟩ : ∃ V, V = sbR uv (1, 1) := ⟨_, rfl⟩
  obtain ⟨EE, hEE⟩ : ∃ EE, EE = sbE uv (1, 1) := ⟨_, rfl⟩
  have HV := Lib.hid (show btV ⟨lv, false, lop⟩ ⟨uv, true, true⟩ = V ∧ btE ⟨lv, false, lop⟩ ⟨uv, true, true⟩ = EE by rw [hV, hEE]; simp [btV, btE])
  have CO := Lib.hid (fun W => rsubP_any uv (1, 1) W _hu one_64)
  rw [← hV, ← hEE] at CO
  rw [HV.out.1, HV.out.2]
  clear hV hEE HV
  have CF := Lib.hid (show ∀ W, Below w0.heap.size w0 W → W.cell? ⟨q, 0, none⟩ = some (.int .i64 lv.1) ∧ W.cell? ⟨q, 1, none⟩ = some (.int .i64 lv.2) ∧ W.cell? ⟨q, 2, none⟩ = some (.int .i64 uv.1) ∧ W.cell? ⟨q, 3, none⟩ = some (.int .i64 uv.2) from fun W h => ⟨kept h (ER.out.cell 0), kept h (ER.out.cell 1), kept h (ER.out.cell 2), kept h (ER.out.cell 3)⟩)
  have c4 : w0.cell? ⟨q, 4, none⟩ = some (.bool false) := ER.out.cell 4
  have c5 : w0.cell? ⟨q, 5, none⟩ = some (.bool true) := ER.out.cell 5
  have c6 : w0.cell? ⟨q, 6, none⟩ = some (.bool lop) := ER.out.cell 6
  have c7 : w0.cell? ⟨q, 7, none⟩ = some (.bool true) := ER.out.cell 7
  obtain ⟨c0, c1, c2, c3⟩ := CF.out w0 (Below.refl _ _)
  obtain ⟨f0, f1, f2, f3⟩ := P0.out.facts
  clear hE
  go_enter Tryz.func75, Tryz.ntmps75
  go_upto_region 1 with (fail)
  rw [← hw0]
  clear hw0
  go_wp2_with fail
  refine (CO.out w0).mono ?_
  rintro e w1 ⟨rfl, hb⟩
  have P1 := Lib.hid (P0.out.kept hb)
  have B1 := Lib.hid (below_on E0.out hb)
  clear hb c0 c1 c2 c3 c4 c5 c6 c7 f0 f1 f2 f3
  obtain ⟨f0, f1, f2, f3⟩ := P1.out.facts
  go_wp2_with fail
  refine bodyPost_ret (v := .tuple #[.agg #[.int .i64 V.1, .int .i64 V.2], .int .i64 EE]) (by simp [results, Tryz.results75, go_sem, f0, f1]) rfl ⟨rfl, below_put B1.out (Nat.le_refl _) _ _⟩

set_option maxRecDepth 100000 in
set_option maxHeartbeats 4000000 in
theorem ch4 (lv uv : Pq) (lop : Bool) (q : Nat) (w : World) (hE : RowC w q (EsC ⟨lv, false, lop⟩ ⟨uv, true, false⟩)) (_hl : I2 lv) (_hu : I2 uv) :
    Calls Tryz.prog 75 #[.pointer (some ⟨q, 0, none⟩)] w (Made (.tuple #[.agg #[.int .i64 (btV ⟨lv, false, lop⟩ ⟨uv, true, false⟩).1, .int .i64 (btV ⟨lv, false, lop⟩ ⟨uv, true, false⟩).2], .int .i64 (btE ⟨lv, false, lop⟩ ⟨uv, true, false⟩)]) w) := by
  obtain ⟨w0, hw0⟩ : ∃ w0, w0 = w.alloc (.cells #[.int .i64 0, .int .i64 0] 50) := ⟨_, rfl⟩
  have P0 := Lib.hid (show Pair w0 w.heap.size 0 0 by rw [hw0]; exact Pair.made _ _ _ _)
  have E0 := Lib.hid (show Below w.heap.size w w0 by rw [hw0]; exact one_more _)
  have ER := Lib.hid (hE.kept E0.out)
  have HV := Lib.hid (show btV ⟨lv, false, lop⟩ ⟨uv, true, false⟩ = uv ∧ btE ⟨lv, false, lop⟩ ⟨uv, true, false⟩ = 0 by simp [btV, btE])
  rw [HV.out.1, HV.out.2]
  clear HV
  have CF := Lib.hid (show ∀ W, Below w0.heap.size w0 W → W.cell? ⟨q, 0, none⟩ = some (.int .i64 lv.1) ∧ W.cell? ⟨q, 1, none⟩ = some (.int .i64 lv.2) ∧ W.cell? ⟨q, 2, none⟩ = some (.int .i64 uv.1) ∧ W.cell? ⟨q, 3, none⟩ = some (.int .i64 uv.2) from fun W h => ⟨kept h (ER.out.cell 0), kept h (ER.out.cell 1), kept h (ER.out.cell 2), kept h (ER.out.cell 3)⟩)
  have c4 : w0.cell? ⟨q, 4, none⟩ = some (.bool false) := ER.out.cell 4
  have c5 : w0.cell? ⟨q, 5, none⟩ = some (.bool true) := ER.out.cell 5
  have c6 : w0.cell? ⟨q, 6, none⟩ = some (.bool lop) := ER.out.cell 6
  have c7 : w0.cell? ⟨q, 7, none⟩ = some (.bool false) := ER.out.cell 7
  obtain ⟨c0, c1, c2, c3⟩ := CF.out w0 (Below.refl _ _)
  obtain ⟨f0, f1, f2, f3⟩ := P0.out.facts
  clear hE
  go_enter Tryz.func75, Tryz.ntmps75
  go_upto_region 1 with (fail)
  rw [← hw0]
  clear hw0
  go_wp2_with fail
  refine bodyPost_ret (v := .tuple #[.agg #[.int .i64 uv.1, .int .i64 uv.2], .int .i64 0]) (by simp [results, Tryz.results75, go_sem, f0, f1]) rfl ⟨rfl, below_put E0.out (Nat.le_refl _) _ _⟩

set_option maxRecDepth 100000 in
set_option maxHeartbeats 4000000 in
theorem ch6 (lv uv : Pq) (lop uop : Bool) (q : Nat) (w : World) (hE : RowC w q (EsC ⟨lv, false, lop⟩ ⟨uv, false, uop⟩)) (_hl : I2 lv) (_hu : I2 uv) :
    Calls Tryz.prog 75 #[.pointer (some ⟨q, 0, none⟩)] w (Made (.tuple #[.agg #[.int .i64 (btV ⟨lv, false, lop⟩ ⟨uv, false, uop⟩).1, .int .i64 (btV ⟨lv, false, lop⟩ ⟨uv, false, uop⟩).2], .int .i64 (btE ⟨lv, false, lop⟩ ⟨uv, false, uop⟩)]) w) := by
  obtain ⟨w0, hw0⟩ : ∃ w0, w0 = w.alloc (.cells #[.int .i64 0, .int .i64 0] 50) := ⟨_, rfl⟩
  have P0 := Lib.hid (show Pair w0 w.heap.size 0 0 by rw [hw0]; exact Pair.made _ _ _ _)
  have E0 := Lib.hid (show Below w.heap.size w w0 by rw [hw0]; exact one_more _)
  have ER := Lib.hid (hE.kept E0.out)
  have HV := Lib.hid (show btV ⟨lv, false, lop⟩ ⟨uv, false, uop⟩ = (0, 1) ∧ btE ⟨lv, false, lop⟩ ⟨uv, false, uop⟩ = 0 by simp [btV, btE])
  rw [HV.out.1, HV.out.2]
  clear HV
  have CF := Lib.hid (show ∀ W, Below w0.heap.size w0 W → W.cell? ⟨q, 0, none⟩ = some (.int .i64 lv.1) ∧ W.cell? ⟨q, 1, none⟩ = some (.int .i64 lv.2) ∧ W.cell? ⟨q, 2, none⟩ = some (.int .i64 uv.1) ∧ W.cell? ⟨q, 3, none⟩ = some (.int .i64 uv.2) from fun W h => ⟨kept h (ER.out.cell 0), kept h (ER.out.cell 1), kept h (ER.out.cell 2), kept h (ER.out.cell 3)⟩)
  have c4 : w0.cell? ⟨q, 4, none⟩ = some (.bool false) := ER.out.cell 4
  have c5 : w0.cell? ⟨q, 5, none⟩ = some (.bool false) := ER.out.cell 5
  have c6 : w0.cell? ⟨q, 6, none⟩ = some (.bool lop) := ER.out.cell 6
  have c7 : w0.cell? ⟨q, 7, none⟩ = some (.bool uop) := ER.out.cell 7
  obtain ⟨c0, c1, c2, c3⟩ := CF.out w0 (Below.refl _ _)
  obtain ⟨f0, f1, f2, f3⟩ := P0.out.facts
  clear hE
  go_enter Tryz.func75, Tryz.ntmps75
  go_upto_region 1 with (fail)
  rw [← hw0]
  clear hw0
  go_wp2_with fail
  refine bodyPost_ret (v := .tuple #[.agg #[.int .i64 0, .int .i64 1], .int .i64 0]) (by simp [results, Tryz.results75, go_sem, f0, f1]) rfl ⟨rfl, below_put E0.out (Nat.le_refl _) _ _⟩

theorem rchosen_any (lo up : En) (q : Nat) (w : World) (hE : RowC w q (EsC lo up)) (hl : I2 lo.v) (hu : I2 up.v) : Calls Tryz.prog 75 #[.pointer (some ⟨q, 0, none⟩)] w (Made (.tuple #[.agg #[.int .i64 (btV lo up).1, .int .i64 (btV lo up).2], .int .i64 (btE lo up)]) w) := by
  obtain ⟨lv, lex, lop⟩ := lo
  obtain ⟨uv, uex, uop⟩ := up
  cases lex
  · cases uex
    · exact ch6 lv uv lop uop q w hE hl hu
    · cases uop
      · exact ch4 lv uv lop q w hE hl hu
      · exact ch5 lv uv lop q w hE hl hu
  · cases lop
    · exact ch1 lv uv uex uop q w hE hl hu
    · cases uex
      · exact ch3 lv uv uop q w hE hl hu
      · exact ch2 lv uv uop q w hE hl hu
end Go.Proofs.YtbhaoaobhgilkaaGreat

namespace Go.Proofs.YtbhaoaobhgilkaaGreat
open Go.Sort

theorem vR_eq {a b : Pq} (ha : vR a = true) (hb : vR b = true) (h : a.1 * b.2 = b.1 * a.2) : a = b := by
  have pa := vR_pos ha
  have pb := vR_pos hb
  obtain ⟨h1, h2, _⟩ := mk_self (n := a.1) (d := a.2) ha
  obtain ⟨k1, k2, _⟩ := mk_self (n := b.1) (d := b.2) hb
  obtain ⟨c1, c2, _⟩ := mk_congr (a := a.1) (b := a.2) (a' := b.1) (b' := b.2) (by omega) (by omega) h
  exact Prod.ext (by rw [← h1, c1, k1]) (by rw [← h2, c2, k2])

theorem cm_eq {a b : Pq} (ha : vR a = true) (hb : vR b = true) (h : cmR a b = 0) : a = b := by
  rcases cm_cases ha hb with q | q | q
  · omega
  · exact vR_eq ha hb q.2
  · omega

theorem cmE_ok {a b : Pq} (ha : vR a = true) (hb : vR b = true) : cmE a b = 0 := by
  unfold vR at ha hb
  unfold cmE
  rw [ha, hb]; rfl

/-- What bounds makes of an end is what the closure makes of it. -/
theorem rbL_cl {c : En} {x : Ln} {i : Nat} {P : List Pq} (hc : c.ex = true → vR c.v = true) (hf : vR (fdV x i P) = true) : rbL c (fdV x i P) x.s = clR 1 c x i P := by
  unfold rbL clR
  rw [Int.one_mul]
  cases he : c.ex
  · simp
  · simp only [Bool.not_true, Bool.false_or, if_true]
    by_cases h1 : 0 < cmR (fdV x i P) c.v
    · rw [if_pos (decide_eq_true h1), if_pos (Or.inl h1)]
    · rw [decide_eq_false h1, if_neg (by decide)]
      by_cases h2 : cmR (fdV x i P) c.v = 0
      · rw [if_pos h2]
        have e := cm_eq hf (hc he) h2
        cases hs : x.s
        · rw [if_neg (by rintro (q | ⟨_, q⟩) <;> first | exact h1 q | cases q), Bool.or_false]
          rcases c with ⟨v, ex, op⟩
          simp only at he ⊢
          rw [he]
        · rw [if_pos (Or.inr ⟨h2, rfl⟩), Bool.or_true, e]
      · rw [if_neg h2, if_neg (by rintro (q | ⟨q, _⟩) <;> first | exact h1 q | exact h2 q)]

theorem rbH_cl {c : En} {x : Ln} {i : Nat} {P : List Pq} (hc : c.ex = true → vR c.v = true) (hf : vR (fdV x i P) = true) : rbH c (fdV x i P) x.s = clR (-1) c x i P := by
  unfold rbH clR
  have e1 : (-1 : Int) * cmR (fdV x i P) c.v = -cmR (fdV x i P) c.v := by omega
  rw [e1]
  cases he : c.ex
  · simp
  · simp only [Bool.not_true, Bool.false_or, if_true]
    by_cases h1 : cmR (fdV x i P) c.v < 0
    · rw [if_pos (decide_eq_true h1), if_pos (Or.inl (by omega))]
    · rw [decide_eq_false h1, if_neg (by decide)]
      by_cases h2 : cmR (fdV x i P) c.v = 0
      · rw [if_pos h2]
        have e := cm_eq hf (hc he) h2
        cases hs : x.s
        · rw [if_neg (by rintro (q | ⟨_, q⟩) <;> first | omega | cases q), Bool.or_false]
          rcases c with ⟨v, ex, op⟩
          simp only at he ⊢
          rw [he]
        · rw [if_pos (Or.inr ⟨by omega, rfl⟩), Bool.or_true, e]
      · rw [if_neg h2, if_neg (by rintro (q | ⟨q, _⟩) <;> omega)]

/-- One line more: the reference's step is the project's. -/
theorem enN_step {l : List Ln} {i : Nat} {P : List Pq} {t : Nat} {x : Ln} (hv : ∀ x ∈ l, fdE x i P = 0 → vR (fdV x i P) = true) (ht : t < l.length) (hx : l.getD t ln0 = x) (h : (enN l i P t).2 = 0) (hg : gA x.a i ≠ 0) :
    (fdE x i P = 0 → enN l i P (t + 1) = (rbS x i P (enN l i P t).1, 0)) ∧ (fdE x i P ≠ 0 → (enN l i P (t + 1)).2 = fdE x i P) := by
  have ok := en_ok hv t (Nat.le_of_lt ht) h
  have hm : x ∈ l := by
    rw [← hx, List.getD_eq_getElem?_getD, List.getElem?_eq_getElem ht]
    exact List.getElem_mem ht
  rcases Int.lt_trichotomy (gA x.a i) 0 with q | q | q
  · rw [enN_low h hx q]
    refine ⟨fun hf => ?_, fun hf => ?_⟩
    · have v := hv x hm hf
      unfold rbS
      rw [if_neg (by omega), rbL_cl ok.lv v]
      have : clE (enN l i P t).1.1 x i P = 0 := by
        unfold clE
        rw [if_neg (fun k => k hf)]
        split
        · rename_i he; exact cmE_ok v (ok.lv he)
        · rfl
      rw [this]
    · show clE (enN l i P t).1.1 x i P = _
      unfold clE; rw [if_pos hf]
  · exact absurd q hg
  · rw [enN_high h hx q]
    refine ⟨fun hf => ?_, fun hf => ?_⟩
    · have v := hv x hm hf
      unfold rbS
      rw [if_pos q, rbH_cl ok.uv v]
      have : clE (enN l i P t).1.2 x i P = 0 := by
        unfold clE
        rw [if_neg (fun k => k hf)]
        split
        · rename_i he; exact cmE_ok v (ok.uv he)
        · rfl
      rw [this]
    · show clE (enN l i P t).1.2 x i P = _
      unfold clE; rw [if_pos hf]

/-- The errors of ratios that are valid. -/
def E7 (e : Int) : Prop := e = 0 ∨ e = 7

theorem op_7 {v : Bool} {p q : Int} (hv : v = true) (hq : q ≠ 0) : E7 (opErr v p q) := by
  unfold E7 opErr
  rw [if_pos hv]
  unfold mkErr
  rw [if_neg hq]
  split
  · exact Or.inl rfl
  · exact Or.inr rfl

theorem vld_one {k : Int} (h : -2147483647 ≤ k ∧ k ≤ 2147483647) : vR (k, 1) = true := by
  unfold vR vldB
  simp
  omega

theorem at_7 {a : List Int} {P : List Pq} : ∀ t, (∀ j, j < t → vR (gp P j) = true ∧ -2147483647 ≤ gA a j ∧ gA a j ≤ 2147483647) → E7 (atN a P t).2 ∧ ((atN a P t).2 = 0 → vR (atN a P t).1 = true)
  | 0, _ => ⟨Or.inl rfl, fun _ => (by decide : vR (0, 1) = true)⟩
  | t + 1, h => by
    obtain ⟨i1, i2⟩ := at_7 (a := a) (P := P) t (fun j hj => h j (by omega))
    by_cases h0 : (atN a P t).2 = 0
    · obtain ⟨v, b⟩ := h t (by omega)
      have v1 := i2 h0
      have va := vld_one b
      have pm := vR_pos v
      by_cases hm : muE (gA a t, 1) (gp P t) = 0
      · rw [atN_add h0 hm]
        have vm : vR (muR (gA a t, 1) (gp P t)) = true := (op_ok hm).2.2.1
        have p1 := vR_pos v1
        have p2 := vR_pos vm
        refine ⟨op_7 (by unfold vR at v1 vm; rw [v1, vm]; rfl) (Int.mul_ne_zero (by omega) (by omega)), fun h => (op_ok h).2.2.1⟩
      · have e := atN_mul h0 hm
        rw [e]
        refine ⟨op_7 (by unfold vR at va v; rw [va, v]; rfl) (Int.mul_ne_zero (show (1 : Int) ≠ 0 by decide) (by omega)), fun q => absurd q hm⟩
    · have e := atN_stop h0 1
      rw [e]
      exact ⟨i1, i2⟩

theorem fd_7 {x : Ln} {i : Nat} {P : List Pq} (hr : Rg 2147483647 x) (hn : P.length ≤ 6) (hi : i < 6) (hg : gA x.a i ≠ 0) (hv : ∀ j, j < P.length → vR (gp P j) = true) : E7 (fdE x i P) := by
  have ha : ∀ j, j < 6 → -2147483647 ≤ gA x.a j ∧ gA x.a j ≤ 2147483647 := fun j hj => by have := hr.at (t := j) hj; omega
  obtain ⟨e1, e2⟩ := at_7 (a := x.a) (P := P) P.length (fun j hj => ⟨hv j hj, ha j (by omega)⟩)
  unfold fdE
  by_cases h0 : (atN x.a P P.length).2 = 0
  · rw [if_neg (fun k => k h0)]
    have v1 := e2 h0
    have vb := vld_one (k := x.b) hr.b
    have p1 := vR_pos v1
    by_cases h1 : sbE (x.b, 1) (atN x.a P P.length).1 = 0
    · rw [if_neg (fun k => k h1)]
      have vs : vR (sbR (x.b, 1) (atN x.a P P.length).1) = true := (op_ok h1).2.2.1
      have p2 := vR_pos vs
      have vg := vld_one (ha i hi)
      refine op_7 ?_ (Int.mul_ne_zero (by omega) hg)
      unfold vR at vs vg
      rw [vs, vg]
      simp [hg]
    · rw [if_pos h1]
      exact op_7 (by unfold vR at vb v1; rw [vb, v1]; rfl) (Int.mul_ne_zero (show (1 : Int) ≠ 0 by decide) (by omega))
  · rw [if_pos h0]; exact e1

theorem en_7 {l : List Ln} {i : Nat} {P : List Pq} (hg : ∀ x ∈ l, Rg 2147483647 x) (hn : P.length ≤ 6) (hi : i < 6) (hp : ∀ j, j < P.length → vR (gp P j) = true) (hv : ∀ x ∈ l, fdE x i P = 0 → vR (fdV x i P) = true) : ∀ t, t ≤ l.length → E7 (enN l i P t).2
  | 0, _ => Or.inl rfl
  | t + 1, ht => by
    have ih := en_7 hg hn hi hp hv t (by omega)
    by_cases h : (enN l i P t).2 = 0
    · obtain ⟨x, hx⟩ : ∃ x, l.getD t ln0 = x := ⟨_, rfl⟩
      have hm : x ∈ l := by
        rw [← hx, List.getD_eq_getElem?_getD, List.getElem?_eq_getElem (by omega)]
        exact List.getElem_mem (by omega)
      by_cases q : gA x.a i = 0
      · rw [enN_none h hx q]; exact ih
      · obtain ⟨s1, s2⟩ := enN_step hv (by omega) hx h q
        by_cases f : fdE x i P = 0
        · rw [s1 f]; exact Or.inl rfl
        · rw [s2 f]; exact fd_7 (hg x hm) hn hi q hp
    · have e := enN_stop h 1
      rw [e]; exact ih

theorem bt_7 {lo up : En} (hl : lo.ex = true → vR lo.v = true) (hu : up.ex = true → vR up.v = true) (hlu : lo.ex = true → up.ex = true → Over up.v lo.v (up.op || lo.op)) : E7 (btE lo up) := by
  unfold btE
  by_cases a1 : (lo.ex && !lo.op) = true
  · rw [if_pos a1]; exact Or.inl rfl
  · rw [if_neg a1]
    by_cases a2 : (lo.ex && up.ex) = true
    · rw [if_pos a2]
      simp only [Bool.and_eq_true] at a2
      have v1 := hl a2.1
      have v2 := hu a2.2
      have hop : lo.op = true := by
        cases q : lo.op
        · rw [a2.1, q] at a1; simp at a1
        · rfl
      have ho := (hlu a2.1 a2.2).2 (by rw [hop]; simp)
      have hm : midB lo.v.1 lo.v.2 up.v.1 up.v.2 = true := by
        unfold midB
        unfold vR at v1 v2
        rw [v1, v2]
        simp
        exact ho
      have sp : E7 (opErr (midB lo.v.1 lo.v.2 up.v.1 up.v.2) (midX lo.v.1 lo.v.2 up.v.1 up.v.2) (midY lo.v.1 lo.v.2 up.v.1 up.v.2)) := by
        by_cases q : midY lo.v.1 lo.v.2 up.v.1 up.v.2 = 0
        · exfalso
          have q1 := vR_pos (hl a2.1)
          have q2 := vR_pos (hu a2.2)
          have := smp_den (lo.v.2 + up.v.2).toNat lo.v.1 lo.v.2 up.v.1 up.v.2 ⟨by omega, by omega, ho⟩ (by omega)
          unfold midY at q
          omega
        · exact op_7 hm q
      exact sp
    · rw [if_neg a2]
      by_cases a3 : lo.ex = true
      · rw [if_pos a3]
        have v1 := hl a3
        have p1 := vR_pos v1
        exact op_7 (by unfold vR at v1; rw [v1]; decide) (Int.mul_ne_zero (by omega) (by decide))
      · rw [if_neg a3]
        by_cases a4 : (up.ex && !up.op) = true
        · rw [if_pos a4]; exact Or.inl rfl
        · rw [if_neg a4]
          by_cases a5 : up.ex = true
          · rw [if_pos a5]
            have v1 := hu a5
            have p1 := vR_pos v1
            exact op_7 (by unfold vR at v1; rw [v1]; decide) (Int.mul_ne_zero (by omega) (by decide))
          · rw [if_neg a5]; exact Or.inl rfl

/-- Where some number will do, the ends are in order. -/
theorem step_over {l : List Ln} {t : Nat} {P : List Pq} {D : Int} {X : List Int} (hD : 0 < D) (hXl : X.length = 6) (ht : t < 6) (hP : P.length = t) (hz : ∀ j, t ≤ j → gA X j = 0) (hv : ∀ j, j < t → Val (gp P j) (gA X j) D) (h6 : ∀ x ∈ l, x.a.length = 6) (hs : ∀ x ∈ leaveL l t, sat D X x)
    (he : (enN l t P l.length).2 = 0) :
    EnOk l t P l.length (enN l t P l.length).1.1 (enN l t P l.length).1.2 ∧ ((enN l t P l.length).1.1.ex = true → (enN l t P l.length).1.2.ex = true → Over (enN l t P l.length).1.2.v (enN l t P l.length).1.1.v ((enN l t P l.length).1.2.op || (enN l t P l.length).1.1.op)) := by
  have hXt := hz t (Nat.le_refl t)
  have hdot : ∀ a : List Int, dotN a X P.length = dotN a X 6 := fun a => by
    rw [hP, show 6 = t + (6 - t) by omega, dot_moreX hz]
  have hfd : ∀ x ∈ l, fdE x t P = 0 → vR (fdV x t P) = true ∧ (fdV x t P).1 * (gA x.a t * D) = (x.b * D - dotN x.a X 6) * (fdV x t P).2 := fun x _ h => by
    have := fd_valP hD (fun j hj => hv j (by omega)) h
    rwa [hdot] at this
  have ok := en_ok (fun x hx h => (hfd x hx h).1) l.length (Nat.le_refl _) he
  generalize (enN l t P l.length).1.1 = lo at *
  generalize (enN l t P l.length).1.2 = up at *
  have htake : l.take l.length = l := List.take_length
  -- some number will do
  obtain ⟨Q, v, hQ, hall⟩ := leave_back hD h6 (by omega) hXt ht hs
  have hDQ := Int.mul_pos hD hQ
  have hall2 : ∀ x ∈ l, (if x.s = true then dotN x.a X 6 * (D * Q) + gA x.a t * (v * D) < x.b * (D * (D * Q)) else dotN x.a X 6 * (D * Q) + gA x.a t * (v * D) ≤ x.b * (D * (D * Q))) := fun x hx => by
    have h := hall x hx
    unfold sat at h
    rw [dot_put (by omega) ht hXt] at h
    have e1 : dotN x.a X 6 * (D * Q) + gA x.a t * (v * D) = (dotN x.a X 6 * Q + gA x.a t * v) * D := by grind
    have e2 : x.b * (D * (D * Q)) = x.b * (D * Q) * D := by grind
    rw [e1, e2]
    cases hq : x.s
    · rw [hq] at h
      simp only [Bool.false_eq_true, if_false] at h ⊢
      exact Int.mul_le_mul_of_nonneg_right h (Int.le_of_lt hD)
    · rw [hq] at h
      simp only [if_true] at h ⊢
      exact Int.mul_lt_mul_of_pos_right h hD
  have olo : lo.ex = true → Over (v, D * Q) lo.v lo.op := fun h => by
    obtain ⟨x, m1, m2, m3, m4⟩ := ok.lm h
    obtain ⟨f1, f2⟩ := hfd x m1 m3
    have := (sat_lo hD f1 f2 m2).1 (hall2 x m1)
    rw [m4]; exact this
  have oup : up.ex = true → Over up.v (v, D * Q) up.op := fun h => by
    obtain ⟨x, m1, m2, m3, m4⟩ := ok.um h
    obtain ⟨f1, f2⟩ := hfd x m1 m3
    have := (sat_up hD f1 f2 m2).1 (hall2 x m1)
    rw [m4]; exact this
  exact ⟨ok, fun h1 h2 => over_trans (vR_pos (ok.lv h1)) (show 1 ≤ ((v, D * Q) : Pq).2 by show 1 ≤ D * Q; omega) (vR_pos (ok.uv h2)) (oup h2) (olo h1)⟩

/-- What is known of the coordinate t, those before it chosen. -/
theorem pt_known {l : List Ln} {n : Nat} (hn : n ≤ 5) (hl : ZrL (fun j => n ≤ j) l) (hg : ∀ x ∈ l, Rg 2147483647 x) (hlen : l.length ≤ 2000) (hs0 : shE l n n = 0) (hem : empB l n = false) {t : Nat} (ht : t < n) (h : (ptN l n t).2 = 0) :
    (∀ j, j < t → vR (gp (ptN l n t).1 j) = true) ∧ (ptN l n t).1.length = t ∧
    (∀ x ∈ shL l n (n - (t + 1)), fdE x t (ptN l n t).1 = 0 → vR (fdV x t (ptN l n t).1) = true) ∧
    E7 (enN (shL l n (n - (t + 1))) t (ptN l n t).1 (shL l n (n - (t + 1))).length).2 ∧
    ((enN (shL l n (n - (t + 1))) t (ptN l n t).1 (shL l n (n - (t + 1))).length).2 = 0 → E7 (btE (enN (shL l n (n - (t + 1))) t (ptN l n t).1 (shL l n (n - (t + 1))).length).1.1 (enN (shL l n (n - (t + 1))) t (ptN l n t).1 (shL l n (n - (t + 1))).length).1.2)) := by
  obtain ⟨D, X, hD, hXl, hz, hlen2, hv, hs⟩ := pt_sat hn hl hem t (by omega) h
  have h6 : ∀ x ∈ shL l n (n - (t + 1)), x.a.length = 6 := fun x hx => (sh_far hl (n - (t + 1)) x hx).1
  have sE : shE l n (n - (t + 1)) = 0 := by
    by_cases q : shE l n (n - (t + 1)) = 0
    · exact q
    · have := shE_stop q (t + 1)
      rw [show n - (t + 1) + (t + 1) = n by omega] at this
      rw [this] at hs0; exact absurd hs0 q
  have sg := (shL_ok hlen hg (n - (t + 1)) sE).2
  have hsh : shL l n (n - t) = leaveL (shL l n (n - (t + 1))) t := by
    rw [show n - t = (n - (t + 1)) + 1 by omega]
    show leaveL (shL l n (n - (t + 1))) (n - 1 - (n - (t + 1))) = _
    rw [show n - 1 - (n - (t + 1)) = t by omega]
  rw [hsh] at hs
  generalize (ptN l n t).1 = P at *
  generalize shL l n (n - (t + 1)) = s at *
  have hf : ∀ x ∈ s, fdE x t P = 0 → vR (fdV x t P) = true := fun x _ h => (fd_valP hD (fun j hj => hv j (by omega)) h).1
  have hp : ∀ j, j < P.length → vR (gp P j) = true := fun j hj => (hv j (by omega)).1
  refine ⟨fun j hj => (hv j hj).1, hlen2, hf, en_7 sg (by omega) (by omega) hp hf _ (Nat.le_refl _), fun he => ?_⟩
  obtain ⟨ok, ov⟩ := step_over hD hXl (by omega) hlen2 hz hv h6 hs he
  exact bt_7 ok.lv ok.uv ov

/-- A line of the first coordinates says of the last of them what the line says. -/
theorem atN_tk {a b : List Int} {P : List Pq} : ∀ t, (∀ j, j < t → gA a j = gA b j) → atN a P t = atN b P t
  | 0, _ => rfl
  | t + 1, h => by
    have ih := atN_tk (P := P) t (fun j hj => h j (by omega))
    show (if (atN a P t).2 ≠ 0 then atN a P t else if muE (gA a t, 1) (gp P t) ≠ 0 then ((0, 0), muE (gA a t, 1) (gp P t)) else (adR (atN a P t).1 (muR (gA a t, 1) (gp P t)), adE (atN a P t).1 (muR (gA a t, 1) (gp P t)))) = _
    rw [ih, h t (by omega)]
    rfl

theorem fd_tk {x : Ln} {i : Nat} {P : List Pq} (hP : P.length = i) : fdE (tk (i + 1) x) i P = fdE x i P ∧ fdV (tk (i + 1) x) i P = fdV x i P ∧ gA (tk (i + 1) x).a i = gA x.a i := by
  have g : ∀ j, j < i + 1 → gA (tk (i + 1) x).a j = gA x.a j := fun j hj => gA_tk hj x
  have e := atN_tk (P := P) P.length (fun j hj => g j (by omega))
  unfold fdE fdV
  rw [e, g i (by omega)]
  exact ⟨rfl, rfl, rfl⟩

theorem rbS_tk {x : Ln} {i : Nat} {P : List Pq} (hP : P.length = i) (e : En × En) : rbS (tk (i + 1) x) i P e = rbS x i P e := by
  obtain ⟨_, h2, h3⟩ := fd_tk (x := x) hP
  unfold rbS
  rw [h2, h3]
  rfl
end Go.Proofs.YtbhaoaobhgilkaaGreat
