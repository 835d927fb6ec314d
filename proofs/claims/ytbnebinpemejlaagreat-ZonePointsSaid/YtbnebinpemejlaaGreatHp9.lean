/- The contract of the examples of layer 3.; Contracts of same and lent of the statements of layer 3.; lent of the statements of layer 3, of nil.; lent of the statements of layer 3, of whatever list that has a block, and of nil.; The contract of kept of the statements of layer 3.; What the rows of layers 3 and 4 have in common: arguments opened to what the walks ask; arguments that nothing has turned; the row's last step.; Arguments opened: a zone, constraints.; What the walks of the laws of layer 3 have in common.; Blocks that stores elsewhere leave as they are.; Arguments opened: a Case, a point.; ZonePoints, for whatever arguments. -/
import Derived.Test.YtbnebinpemejlaaGreatHp8
import Derived.Test.YtbnebinpemejlaaGreatHp7
import Derived.Test.YtbnebinpemejlaaGreatHp5
import Derived.ProofKit
import Derived.Lib.SmallJoins
import Derived.Deep.Slices
import Derived.Test.YtbnebinpemejlaaGreatHp2
import Derived.Test.YtbnebinpemejlaaGreatHp3

namespace Go.Proofs.YtbnebinpemejlaaGreat
open Go.RowKit

theorem rd3_one' (w : World) (i j x : Int) (t : TypeId) : Rd3 (w.alloc (.cells #[.int .i64 i, .int .i64 j, .int .i64 x] t)) ⟨w.heap.size, 0, none⟩ [(i, j, x)] := by
  intro k hk
  obtain rfl : k = 0 := by simp at hk; omega
  rw [addr_add]
  refine ⟨?_, ?_, ?_⟩ <;> (simp only [gc]; go_simp)

theorem rd_lit (w : World) (l : List Int) (t : TypeId) : Rd (w.alloc (.cells ⟨l.map (Value.int .i64)⟩ t)) ⟨w.heap.size, 0, none⟩ l := fun j hj => by
  rw [addr_add, cell_of_row _ _ _ _ _ _ (heap_alloc_last w _)]
  simp [Zo.gt, hj]

theorem rd2_two (w : World) (a b c d : Int) (t : TypeId) : Rd2 (w.alloc (.cells #[.int .i64 a, .int .i64 b, .int .i64 c, .int .i64 d] t)) ⟨w.heap.size, 0, none⟩ [(a, b), (c, d)] := by
  intro k hk
  rw [addr_add]
  match k, hk with
  | 0, _ => refine ⟨?_, ?_⟩ <;> (simp only [gp]; go_simp)
  | 1, _ => refine ⟨?_, ?_⟩ <;> (simp only [gp]; go_simp)

def y2D : Dl := ⟨5, 2, 9, 2, false, false, false⟩

theorem y2D_ok : y2D.Ok := ⟨by unfold y2D I64; simp, by unfold y2D I64; simp, by unfold y2D I64; simp, by unfold y2D I64; simp⟩

theorem y2_delays : stR 1 [1, -5, 11, 1] [(1, 2)] = (y2D, 0) := by
  have h : (stR 1 [1, -5, 11, 1] [(1, 2)]).1.eqB y2D = true ∧ (stR 1 [1, -5, 11, 1] [(1, 2)]).2 = 0 := by decide +kernel
  exact Prod.ext (Dl.eqB_iff.1 h.1) h.2

set_option maxRecDepth 100000 in
set_option maxHeartbeats 4000000 in
theorem shown3_any (w : World) : Calls Tryz.prog 4 #[] w (Made (.bool true) w) := by
  have CZ := Lib.hid (show ∀ W, Calls Tryz.prog 14 #[.int .i64 2] W (ZRes W 2 y2L 0) from fun W => by
    have := zzero_gen 2 W
    rw [show Zo.clo (2 : Int).toNat (List.replicate (((2 : Int).toNat + 1) * ((2 : Int).toNat + 1)) 1) = y2L from y2_zero.1, show flE 2 1 = 0 from y2_zero.2] at this
    exact this)
  have CU := Lib.hid (show ∀ W ao c, Arg W ao y2L → Calls Tryz.prog 15 #[.agg #[.int .i64 2, .slice ao 9 c]] W (ZRes W 2 y2U 0) from fun W ao c hA => by
    have := zup_gen 2 y2L ao c W hA
    rw [show Zo.clo (2 : Int).toNat (upL (2 : Int).toNat y2L) = y2U from y2_up.1, show upE 2 y2L = 0 from y2_up.2] at this
    exact this)
  have CA := Lib.hid (show ∀ W ao c d dc, Arg W ao y2U → Rd3 W d [(0, 1, -3)] → Calls Tryz.prog 16 #[.agg #[.int .i64 2, .slice ao 9 c], .slice (some d) 1 dc] W (ZRes W 2 y2A 0) from fun W ao c d dc hA hD => by
    have := zan_gen 2 y2U ao c [(0, 1, -3)] (some d) dc W hA (fun _ => ⟨_, rfl, hD⟩) (by simp)
    rw [show Zo.clo (2 : Int).toNat (anL (2 : Int).toNat [(0, 1, -3)] y2U) = y2A from y2_and.1, show anG 2 [(0, 1, -3)] y2U = 0 from y2_and.2] at this
    exact this)
  have CR := Lib.hid (show ∀ W ao c, Arg W ao y2A → Calls Tryz.prog 17 #[.agg #[.int .i64 2, .slice ao 9 c], .int .i64 2, .int .i64 0] W (ZRes W 2 y2R 0) from fun W ao c hA => by
    have := zre_gen 2 y2A ao c 2 0 W hA
    rw [show reL (2 : Int).toNat (2 : Int).toNat 0 y2A = y2R from y2_reset.1, show reG 2 y2A 2 0 = 0 from y2_reset.2] at this
    exact this)
  have CP := Lib.hid (show ∀ W ao c, Arg W ao y2R → Calls Tryz.prog 10 #[.agg #[.int .i64 2, .slice ao 9 c]] W (QRes W [(2, 1), (0, 1)] 0) from fun W ao c hA => by
    have := zpoint_gen 2 y2R ao c W hA
    rw [y2_point.1, y2_point.2] at this
    exact this)
  have CN := Lib.hid (show ∀ W ao c d dc, Arg W ao y2A → Rd3 W d [(2, 0, 4)] → Calls Tryz.prog 16 #[.agg #[.int .i64 2, .slice ao 9 c], .slice (some d) 1 dc] W (fun e w' => e = .returned (.tuple #[.agg #[.int .i64 0, .slice none 0 0], .int .i64 4]) ∧ Below W.heap.size W w') from fun W ao c d dc hA hD => by
    have := zan_gen 2 y2A ao c [(2, 0, 4)] (some d) dc W hA (fun _ => ⟨_, rfl, hD⟩) (by simp)
    rw [show anG 2 [(2, 0, 4)] y2A = 4 from y2_none] at this
    exact this.mono fun e w' h => h.no (by decide))
  have CS := Lib.hid (show ∀ W ao c d dc, Arg W ao [1, -5, 11, 1] → Rd2 W d [(1, 2)] → Calls Tryz.prog 8 #[.agg #[.int .i64 1, .slice ao 4 c], .slice (some d) 1 dc] W (Made (.tuple #[.agg #[.int .i64 5, .int .i64 2, .int .i64 9, .int .i64 2, .bool false, .bool false, .bool false], .int .i64 0]) W) from fun W ao c d dc hA hD => by
    have := zstay_gen 1 [1, -5, 11, 1] ao c [(1, 2)] (some d) dc W hA (fun _ => ⟨_, rfl, hD⟩) (fun k hk => by obtain rfl : k = 0 := (by simpa using hk); exact ⟨by unfold I64 gp; simp, by unfold I64 gp; simp⟩) (fun q => by cases q)
    rw [y2_delays] at this
    exact this)
  have CL4 := Lib.hid (show ∀ W a, Rd W a [1, -5, 11, 1] → Calls Tryz.prog 18 #[.slice (some a) 4 4] W (fun e w' => Below W.heap.size W w' ∧ ∃ ao c, e = .returned (.slice ao 4 c) ∧ Arg w' ao [1, -5, 11, 1]) from fun W a h => limits_any [1, -5, 11, 1] a 4 W h (by simp))
  have CL9A := Lib.hid (show ∀ W a, Rd W a y2A → Calls Tryz.prog 18 #[.slice (some a) 9 9] W (fun e w' => Below W.heap.size W w' ∧ ∃ ao c, e = .returned (.slice ao 9 c) ∧ Arg w' ao y2A) from fun W a h => limits_any y2A a 9 W h (by decide))
  have CL9R := Lib.hid (show ∀ W a, Rd W a y2R → Calls Tryz.prog 18 #[.slice (some a) 9 9] W (fun e w' => Below W.heap.size W w' ∧ ∃ ao c, e = .returned (.slice ao 9 c) ∧ Arg w' ao y2R) from fun W a h => limits_any y2R a 9 W h (by decide))
  have CQA := Lib.hid (show ∀ W ao ca bo cb, Arg W ao y2A → Arg W bo y2A → Calls Tryz.prog 19 #[.agg #[.int .i64 2, .slice ao 9 ca], .agg #[.int .i64 2, .slice bo 9 cb]] W (Made (.bool true) W) from fun W ao ca bo cb hA hB => by
    have := zsame_any 2 2 y2A y2A ao bo ca cb W hA hB (by decide)
    rw [show smB 2 2 y2A y2A = true by decide] at this
    exact this)
  have CQR := Lib.hid (show ∀ W ao ca bo cb, Arg W ao y2R → Arg W bo y2R → Calls Tryz.prog 19 #[.agg #[.int .i64 2, .slice ao 9 ca], .agg #[.int .i64 2, .slice bo 9 cb]] W (Made (.bool true) W) from fun W ao ca bo cb hA hB => by
    have := zsame_any 2 2 y2R y2R ao bo ca cb W hA hB (by decide)
    rw [show smB 2 2 y2R y2R = true by decide] at this
    exact this)
  have CSR := Lib.hid (show ∀ W ao ca b cb, Arg2 W ao [(2, 1), (0, 1)] → Rd2 W b [(2, 1), (0, 1)] → Calls Tryz.prog 12 #[.slice ao 2 ca, .slice (some b) 2 cb] W (Made (.bool true) W) from fun W ao ca b cb hA hB => by
    have := srat_any [(2, 1), (0, 1)] [(2, 1), (0, 1)] ao (some b) ca cb W hA (fun _ => ⟨_, rfl, hB⟩) (by simp)
    rw [decide_eq_true rfl] at this
    exact this)
  have LA := Lib.hid (show ∀ w, Rd (w.alloc (.cells #[.int .i64 1, .int .i64 (-3), .int .i64 (-3), .int .i64 1099511627776, .int .i64 1, .int .i64 1, .int .i64 1099511627776, .int .i64 1, .int .i64 1] 2)) ⟨w.heap.size, 0, none⟩ y2A from fun w => rd_lit w y2A _)
  have LR := Lib.hid (show ∀ w, Rd (w.alloc (.cells #[.int .i64 1, .int .i64 (-3), .int .i64 1, .int .i64 1099511627776, .int .i64 1, .int .i64 1099511627776, .int .i64 1, .int .i64 (-3), .int .i64 1] 2)) ⟨w.heap.size, 0, none⟩ y2R from fun w => rd_lit w y2R _)
  have LS := Lib.hid (show ∀ w, Rd (w.alloc (.cells #[.int .i64 1, .int .i64 (-5), .int .i64 11, .int .i64 1] 2)) ⟨w.heap.size, 0, none⟩ [1, -5, 11, 1] from fun w => rd_lit w [1, -5, 11, 1] _)
  have eL := Lib.hid (show y2L.length = 9 from rfl)
  go_enter Tryz.func4, Tryz.ntmps4
  go_wp2_with fail
  refine (CZ.out _).mono ?_
  intro e w1 hz
  obtain ⟨g1, c1, rfl, _, hO, hb⟩ := hz.ok rfl
  change Own w1 g1 c1 y2L at hO
  simp only [show y2L.length = 9 from rfl]
  obtain ⟨v1, hv⟩ : ∃ v1, v1 = w1.alloc (.cells #[.int .i64 2, .slice (some ⟨g1, 0, none⟩) 9 c1] 24) := ⟨_, rfl⟩
  have X1 := Lib.hid (show Two v1 w1.heap.size (.int .i64 2) (.slice (some ⟨g1, 0, none⟩) 9 c1) by rw [hv]; exact Two.made _ _ _ _)
  have A1 := Lib.hid (show Own v1 g1 c1 y2L by rw [hv]; exact hO.alloc _)
  have B1 := Lib.hid (show Below w.heap.size w v1 by rw [hv]; exact hb.alloc hb.size _)
  clear hO hb hz
  go_upto_region 2 with (fail)
  rw [← hv]
  clear hv
  obtain ⟨b0, b1, b2, b3⟩ := X1.out.facts
  go_wp2_with fail
  refine (CU.out _ _ _ A1.out.arg).mono ?_
  intro e w2 hz
  obtain ⟨g2, c2, rfl, _, hO, hb⟩ := hz.ok rfl
  change Own w2 g2 c2 y2U at hO
  simp only [show y2U.length = 9 from rfl]
  obtain ⟨v2, hv⟩ : ∃ v2, v2 = w2.alloc (.cells #[.int .i64 2, .slice (some ⟨g2, 0, none⟩) 9 c2] 24) := ⟨_, rfl⟩
  have X2 := Lib.hid (show Two v2 w2.heap.size (.int .i64 2) (.slice (some ⟨g2, 0, none⟩) 9 c2) by rw [hv]; exact Two.made _ _ _ _)
  have A2 := Lib.hid (show Own v2 g2 c2 y2U by rw [hv]; exact hO.alloc _)
  have B2 := Lib.hid (show Below v1.heap.size v1 v2 by rw [hv]; exact hb.alloc hb.size _)
  clear hO hb hz
  go_upto_region 3 with (fail)
  rw [← hv]
  clear hv
  clear b0 b1 b2 b3
  obtain ⟨b0, b1, b2, b3⟩ := X2.out.facts
  have R3 := Lib.hid (rd3_one' v2 0 1 (-3) 48)
  have E3 := Lib.hid (one_more (w1 := v2) (.cells #[.int .i64 0, .int .i64 1, .int .i64 (-3)] 48))
  go_wp2_with fail
  refine (CA.out _ _ _ _ _ (own_below A2.out E3.out).arg R3.out).mono ?_
  intro e w4 hz
  obtain ⟨g4, c4, rfl, _, hO, hb⟩ := hz.ok rfl
  change Own w4 g4 c4 y2A at hO
  simp only [show y2A.length = 9 from rfl]
  obtain ⟨v4, hv⟩ : ∃ v4, v4 = w4.alloc (.cells #[.int .i64 2, .slice (some ⟨g4, 0, none⟩) 9 c4] 24) := ⟨_, rfl⟩
  have X4 := Lib.hid (show Two v4 w4.heap.size (.int .i64 2) (.slice (some ⟨g4, 0, none⟩) 9 c4) by rw [hv]; exact Two.made _ _ _ _)
  have A4 := Lib.hid (show Own v4 g4 c4 y2A by rw [hv]; exact hO.alloc _)
  have B4 := Lib.hid (show Below (v2.alloc (.cells #[.int .i64 0, .int .i64 1, .int .i64 (-3)] 48)).heap.size (v2.alloc (.cells #[.int .i64 0, .int .i64 1, .int .i64 (-3)] 48)) v4 by rw [hv]; exact hb.alloc hb.size _)
  clear hO hb hz
  go_upto_region 4 with (fail)
  rw [← hv]
  clear hv
  clear b0 b1 b2 b3
  obtain ⟨b0, b1, b2, b3⟩ := X4.out.facts
  go_wp2_with fail
  refine (CR.out _ _ _ A4.out.arg).mono ?_
  intro e w5 hz
  obtain ⟨g5, c5, rfl, _, hO, hb⟩ := hz.ok rfl
  change Own w5 g5 c5 y2R at hO
  simp only [show y2R.length = 9 from rfl]
  obtain ⟨v5, hv⟩ : ∃ v5, v5 = w5.alloc (.cells #[.int .i64 2, .slice (some ⟨g5, 0, none⟩) 9 c5] 24) := ⟨_, rfl⟩
  have X5 := Lib.hid (show Two v5 w5.heap.size (.int .i64 2) (.slice (some ⟨g5, 0, none⟩) 9 c5) by rw [hv]; exact Two.made _ _ _ _)
  have A5 := Lib.hid (show Own v5 g5 c5 y2R by rw [hv]; exact hO.alloc _)
  have B5 := Lib.hid (show Below v4.heap.size v4 v5 by rw [hv]; exact hb.alloc hb.size _)
  clear hO hb hz
  go_upto_region 5 with (fail)
  rw [← hv]
  clear hv
  clear b0 b1 b2 b3
  obtain ⟨b0, b1, b2, b3⟩ := X5.out.facts
  go_wp2_with fail
  refine (CP.out _ _ _ A5.out.arg).mono ?_
  rintro e w6 ⟨hb6, hE⟩
  obtain ⟨_, po, pc, rfl, hP6⟩ := hE.resolve_right (fun q => absurd rfl q.1)
  simp only [show [((2 : Int), (1 : Int)), (0, 1)].length = 2 from rfl]
  have P6 := Lib.hid hP6
  have B6 := Lib.hid hb6
  clear hP6 hb6 b0 b1 b2 b3
  obtain ⟨b0, b1, b2, b3⟩ := (X4.out.kept (below_on B5.out B6.out)).facts
  have R7 := Lib.hid (rd3_one' w6 2 0 4 48)
  have E7 := Lib.hid (one_more (w1 := w6) (.cells #[.int .i64 2, .int .i64 0, .int .i64 4] 48))
  have A47 := Lib.hid (own_below A4.out (below_on (below_on B5.out B6.out) E7.out))
  go_wp2_with fail
  refine (CN.out _ _ _ _ _ A47.out.arg R7.out).mono ?_
  rintro e w8 ⟨rfl, hb8⟩
  obtain ⟨v8, hv⟩ : ∃ v8, v8 = w8.alloc (.cells #[.int .i64 0, .slice none 0 0] 24) := ⟨_, rfl⟩
  have B8 := Lib.hid (show Below w6.heap.size w6 v8 by rw [hv]; exact (below_on E7.out hb8).alloc (below_on E7.out hb8).size _)
  clear hb8 b0 b1 b2 b3
  go_upto_region 7 with (fail)
  rw [← hv]
  clear hv
  have R9 := Lib.hid (LS.out v8)
  have E9 := Lib.hid (one_more (w1 := v8) (.cells #[.int .i64 1, .int .i64 (-5), .int .i64 11, .int .i64 1] 2))
  go_wp2_with fail
  refine (CL4.out _ _ R9.out).mono ?_
  rintro e w10 ⟨hb10, lo, lc, rfl, hL10⟩
  have B10 := Lib.hid (below_on E9.out hb10)
  have A10 := Lib.hid (hL10.on (one_more (.cells #[.int .i64 1, .int .i64 2] 32)))
  have R11 := Lib.hid (rd2_one (Pair.made w10 1 2 32))
  have E11 := Lib.hid (one_more (w1 := w10) (.cells #[.int .i64 1, .int .i64 2] 32))
  clear hb10 hL10
  go_wp2_with fail
  refine (CS.out _ _ _ _ _ A10.out R11.out).mono ?_
  rintro e w12 ⟨rfl, hb12⟩
  have B12 := Lib.hid (show Below v8.heap.size v8 w12 from below_on (below_on B10.out E11.out) hb12)
  clear hb12
  obtain ⟨v12, hv⟩ : ∃ v12, v12 = w12.alloc (.cells #[.int .i64 5, .int .i64 2, .int .i64 9, .int .i64 2, .bool false, .bool false, .bool false] 34) := ⟨_, rfl⟩
  have D12 := Lib.hid (show Dbx v12 w12.heap.size y2D by rw [hv]; exact Drow.made _ _)
  have Q8 := Lib.hid (show Below v8.heap.size v8 v12 by rw [hv]; exact B12.out.alloc B12.out.size _)
  have Q6 := Lib.hid (show Below w6.heap.size w6 v12 from below_on B8.out Q8.out)
  have Q5 := Lib.hid (show Below v5.heap.size v5 v12 from below_on B6.out Q6.out)
  have Q4 := Lib.hid (show Below v4.heap.size v4 v12 from below_on B5.out Q5.out)
  have Q0 := Lib.hid (show Below w.heap.size w v12 from below_on (below_on (below_on (below_on B1.out B2.out) E3.out) B4.out) Q4.out)
  go_upto_region 8 with (fail)
  rw [← hv]
  clear hv
  go_upto_region 10 with (fail)
  have KS := Lib.hid (show ∀ W, Below v12.heap.size v12 W → ((W.cell? ⟨w4.heap.size, 0, none⟩ = some (.int .i64 2) ∧ W.cell? ⟨w4.heap.size, 1, none⟩ = some (.slice (some ⟨g4, 0, none⟩) 9 c4)) ∧ (W.cell? ⟨w5.heap.size, 0, none⟩ = some (.int .i64 2) ∧ W.cell? ⟨w5.heap.size, 1, none⟩ = some (.slice (some ⟨g5, 0, none⟩) 9 c5)) ∧
      (W.cell? ⟨w12.heap.size, 0, none⟩ = some (.int .i64 5) ∧ W.cell? ⟨w12.heap.size, 1, none⟩ = some (.int .i64 2) ∧ W.cell? ⟨w12.heap.size, 2, none⟩ = some (.int .i64 9) ∧ W.cell? ⟨w12.heap.size, 3, none⟩ = some (.int .i64 2) ∧ W.cell? ⟨w12.heap.size, 4, none⟩ = some (.bool false) ∧ W.cell? ⟨w12.heap.size, 5, none⟩ = some (.bool false) ∧ W.cell? ⟨w12.heap.size, 6, none⟩ = some (.bool false))) from fun W h => by
    have x4 := (X4.out.kept (below_on Q4.out h)).facts
    have x5 := (X5.out.kept (below_on Q5.out h)).facts
    exact ⟨⟨x4.1, x4.2.1⟩, ⟨x5.1, x5.2.1⟩, (D12.out.kept h).facts⟩)
  obtain ⟨wc, hwc⟩ : ∃ wc, wc = v12.drew := ⟨_, rfl⟩
  have Bc := Lib.hid (show Below v12.heap.size v12 wc by rw [hwc]; exact (Below.refl _ _).drew)
  refine wp_region_held_drew (S := (fun W => ((W.cell? ⟨w4.heap.size, 0, none⟩ = some (.int .i64 2) ∧ W.cell? ⟨w4.heap.size, 1, none⟩ = some (.slice (some ⟨g4, 0, none⟩) 9 c4)) ∧ (W.cell? ⟨w5.heap.size, 0, none⟩ = some (.int .i64 2) ∧ W.cell? ⟨w5.heap.size, 1, none⟩ = some (.slice (some ⟨g5, 0, none⟩) 9 c5)) ∧ (W.cell? ⟨w12.heap.size, 0, none⟩ = some (.int .i64 5) ∧ W.cell? ⟨w12.heap.size, 1, none⟩ = some (.int .i64 2) ∧ W.cell? ⟨w12.heap.size, 2, none⟩ = some (.int .i64 9) ∧ W.cell? ⟨w12.heap.size, 3, none⟩ = some (.int .i64 2) ∧ W.cell? ⟨w12.heap.size, 4, none⟩ = some (.bool false) ∧ W.cell? ⟨w12.heap.size, 5, none⟩ = some (.bool false) ∧ W.cell? ⟨w12.heap.size, 6, none⟩ = some (.bool false))))) (by kernel_rfl) (by rw [← hwc]; exact KS.out _ Bc.out) (fun h0 => ?_)
  rw [← hwc] at h0 ⊢
  clear hwc
  refine wpAnyH_take (i := 0) (v := ?v1) rfl (by kernel_rfl) (by kernel_rfl) (by kernel_rfl) (fun _ _ _ h => h) (Or.inl ⟨by rfl, ?hy1⟩) h0 ?rest1
  case hy1 => (intro w' hS; (try dsimp only at hS); go_simp; try (with_reducible rfl))
  simp only [Act.put, List.getElem_toArray, List.getElem_cons_zero, List.setIfInBounds_toArray, List.set_cons_zero, List.set_cons_succ]
  refine wpAnyH_ready (rs := [1]) (by kernel_rfl) (by simp) (AllReadyH.cons rfl (fun K hK => ?_) AllReadyH.nil)
  rw [if_pos (by rfl)]
  go_simp
  obtain ⟨x1, hx⟩ : ∃ x1, x1 = wc.alloc (.cells #[.int .i64 1, .int .i64 (-3), .int .i64 (-3), .int .i64 1099511627776, .int .i64 1, .int .i64 1, .int .i64 1099511627776, .int .i64 1, .int .i64 1] 2) := ⟨_, rfl⟩
  rw [← hx]
  have F1 := Lib.hid (show Rd x1 ⟨wc.heap.size, 0, none⟩ y2A by rw [hx]; exact LA.out wc)
  have H1 := Lib.hid (show Below wc.heap.size wc x1 by rw [hx]; exact one_more _)
  have Bc := Lib.hid (below_on Bc.out H1.out)
  clear hx
  go_simp
  refine hK.out _ _ (KS.out _ Bc.out) (fun h0_1 => ?_)
  clear hK K h0
  refine wpAnyH_ready (rs := [2]) (by kernel_rfl) (by simp) (AllReadyH.cons rfl (fun K hK => ?_) AllReadyH.nil)
  rw [if_pos (by rfl)]
  go_simp
  refine (CL9A.out _ _ F1.out).mono ?_
  rintro e x2 ⟨hb, l2, d2, rfl, hL⟩
  have F2 := Lib.hid hL
  have Bc := Lib.hid (below_on Bc.out hb)
  clear hL hb
  go_simp
  refine hK.out _ _ (KS.out _ Bc.out) (fun h0_2 => ?_)
  clear hK K h0_1
  refine wpAnyH_take (i := 3) (v := ?v2) rfl (by kernel_rfl) (by kernel_rfl) (by kernel_rfl) (fun _ _ _ h => h) (Or.inl ⟨by rfl, ?hy2⟩) h0_2 ?rest2
  case hy2 => (intro w' hS; (try dsimp only at hS); go_simp; try (with_reducible rfl))
  simp only [Act.put, List.getElem_toArray, List.getElem_cons_zero, List.getElem_cons_succ, List.setIfInBounds_toArray, List.set_cons_zero, List.set_cons_succ]
  refine wpAnyH_ready (rs := [4]) (by kernel_rfl) (by simp) (AllReadyH.cons rfl (fun K hK => ?_) AllReadyH.nil)
  rw [if_pos (by rfl)]
  go_simp
  refine (CQA.out _ _ _ _ _ (own_below A4.out (below_on Q4.out Bc.out)).arg F2.out).mono ?_
  rintro e wc ⟨rfl, hb⟩
  have Bc := Lib.hid (below_on Bc.out hb)
  clear hb
  go_simp
  refine hK.out _ _ (KS.out _ Bc.out) (fun h0_3 => ?_)
  clear hK K h0_2
  refine wpAnyH_take (i := 5) (v := ?v3) rfl (by kernel_rfl) (by kernel_rfl) (by kernel_rfl) (fun _ _ _ h => h) (Or.inl ⟨by rfl, ?hy3⟩) h0_3 ?rest3
  case hy3 => (intro w' hS; (try dsimp only at hS); go_simp; try (with_reducible rfl))
  simp only [Act.put, List.getElem_toArray, List.getElem_cons_zero, List.getElem_cons_succ, List.setIfInBounds_toArray, List.set_cons_zero, List.set_cons_succ]
  refine wpAnyH_take (i := 6) (v := ?v4) rfl (by kernel_rfl) (by kernel_rfl) (by kernel_rfl) (fun _ _ _ h => h) (Or.inl ⟨by rfl, ?hy4⟩) h0_3 ?rest4
  case hy4 => (intro w' hS; (try dsimp only at hS); go_simp; try (with_reducible rfl))
  simp only [Act.put, List.getElem_toArray, List.getElem_cons_zero, List.getElem_cons_succ, List.setIfInBounds_toArray, List.set_cons_zero, List.set_cons_succ]
  refine wpAnyH_ready (rs := [7]) (by kernel_rfl) (by simp) (AllReadyH.cons rfl (fun K hK => ?_) AllReadyH.nil)
  rw [if_pos (by rfl)]
  go_simp
  obtain ⟨x3, hx⟩ : ∃ x3, x3 = wc.alloc (.cells #[.int .i64 1, .int .i64 (-3), .int .i64 1, .int .i64 1099511627776, .int .i64 1, .int .i64 1099511627776, .int .i64 1, .int .i64 (-3), .int .i64 1] 2) := ⟨_, rfl⟩
  rw [← hx]
  have F3 := Lib.hid (show Rd x3 ⟨wc.heap.size, 0, none⟩ y2R by rw [hx]; exact LR.out wc)
  have H3 := Lib.hid (show Below wc.heap.size wc x3 by rw [hx]; exact one_more _)
  have Bc := Lib.hid (below_on Bc.out H3.out)
  clear hx
  go_simp
  refine hK.out _ _ (KS.out _ Bc.out) (fun h0_4 => ?_)
  clear hK K h0_3
  refine wpAnyH_ready (rs := [8]) (by kernel_rfl) (by simp) (AllReadyH.cons rfl (fun K hK => ?_) AllReadyH.nil)
  rw [if_pos (by rfl)]
  go_simp
  refine (CL9R.out _ _ F3.out).mono ?_
  rintro e x4 ⟨hb, l4, d4, rfl, hL⟩
  have F4 := Lib.hid hL
  have Bc := Lib.hid (below_on Bc.out hb)
  clear hL hb
  go_simp
  refine hK.out _ _ (KS.out _ Bc.out) (fun h0_5 => ?_)
  clear hK K h0_4
  refine wpAnyH_take (i := 9) (v := ?v5) rfl (by kernel_rfl) (by kernel_rfl) (by kernel_rfl) (fun _ _ _ h => h) (Or.inl ⟨by rfl, ?hy5⟩) h0_5 ?rest5
  case hy5 => (intro w' hS; (try dsimp only at hS); go_simp; try (with_reducible rfl))
  simp only [Act.put, List.getElem_toArray, List.getElem_cons_zero, List.getElem_cons_succ, List.setIfInBounds_toArray, List.set_cons_zero, List.set_cons_succ]
  refine wpAnyH_ready (rs := [10]) (by kernel_rfl) (by simp) (AllReadyH.cons rfl (fun K hK => ?_) AllReadyH.nil)
  rw [if_pos (by rfl)]
  go_simp
  refine (CQR.out _ _ _ _ _ (own_below A5.out (below_on Q5.out Bc.out)).arg F4.out).mono ?_
  rintro e wc ⟨rfl, hb⟩
  have Bc := Lib.hid (below_on Bc.out hb)
  clear hb
  go_simp
  refine hK.out _ _ (KS.out _ Bc.out) (fun h0_6 => ?_)
  clear hK K h0_5
  refine wpAnyH_take (i := 11) (v := ?v6) rfl (by kernel_rfl) (by kernel_rfl) (by kernel_rfl) (fun _ _ _ h => h) (Or.inl ⟨by rfl, ?hy6⟩) h0_6 ?rest6
  case hy6 => (intro w' hS; (try dsimp only at hS); go_simp; try (with_reducible rfl))
  simp only [Act.put, List.getElem_toArray, List.getElem_cons_zero, List.getElem_cons_succ, List.setIfInBounds_toArray, List.set_cons_zero, List.set_cons_succ]
  refine wpAnyH_take (i := 12) (v := ?v7) rfl (by kernel_rfl) (by kernel_rfl) (by kernel_rfl) (fun _ _ _ h => h) (Or.inl ⟨by rfl, ?hy7⟩) h0_6 ?rest7
  case hy7 => (intro w' hS; (try dsimp only at hS); go_simp; try (with_reducible rfl))
  simp only [Act.put, List.getElem_toArray, List.getElem_cons_zero, List.getElem_cons_succ, List.setIfInBounds_toArray, List.set_cons_zero, List.set_cons_succ]
  refine wpAnyH_take (i := 13) (v := ?v8) rfl (by kernel_rfl) (by kernel_rfl) (by kernel_rfl) (fun _ _ _ h => h) (Or.inl ⟨by rfl, ?hy8⟩) h0_6 ?rest8
  case hy8 => (intro w' hS; (try dsimp only at hS); go_simp; try (with_reducible rfl))
  simp only [Act.put, List.getElem_toArray, List.getElem_cons_zero, List.getElem_cons_succ, List.setIfInBounds_toArray, List.set_cons_zero, List.set_cons_succ]
  refine wpAnyH_take (i := 14) (v := ?v9) rfl (by kernel_rfl) (by kernel_rfl) (by kernel_rfl) (fun _ _ _ h => h) (Or.inl ⟨by rfl, ?hy9⟩) h0_6 ?rest9
  case hy9 => (intro w' hS; (try dsimp only at hS); go_simp; try (with_reducible rfl))
  simp only [Act.put, List.getElem_toArray, List.getElem_cons_zero, List.getElem_cons_succ, List.setIfInBounds_toArray, List.set_cons_zero, List.set_cons_succ]
  refine wpAnyH_take (i := 15) (v := ?v10) rfl (by kernel_rfl) (by kernel_rfl) (by kernel_rfl) (fun _ _ _ h => h) (Or.inl ⟨by rfl, ?hy10⟩) h0_6 ?rest10
  case hy10 => (intro w' hS; (try dsimp only at hS); go_simp; try (with_reducible rfl))
  simp only [Act.put, List.getElem_toArray, List.getElem_cons_zero, List.getElem_cons_succ, List.setIfInBounds_toArray, List.set_cons_zero, List.set_cons_succ]
  refine wpAnyH_ready (rs := [16]) (by kernel_rfl) (by simp) (AllReadyH.cons rfl (fun K hK => ?_) AllReadyH.nil)
  rw [if_pos (by rfl)]
  go_simp
  obtain ⟨x5, hx⟩ : ∃ x5, x5 = wc.alloc (.cells #[.int .i64 2, .int .i64 1, .int .i64 0, .int .i64 1] 32) := ⟨_, rfl⟩
  rw [← hx]
  have F5 := Lib.hid (show Rd2 x5 ⟨wc.heap.size, 0, none⟩ [(2, 1), (0, 1)] by rw [hx]; exact rd2_two wc 2 1 0 1 _)
  have H5 := Lib.hid (show Below wc.heap.size wc x5 by rw [hx]; exact one_more _)
  have Bc := Lib.hid (below_on Bc.out H5.out)
  clear hx
  go_simp
  refine hK.out _ _ (KS.out _ Bc.out) (fun h0_7 => ?_)
  clear hK K h0_6
  refine wpAnyH_ready (rs := [17]) (by kernel_rfl) (by simp) (AllReadyH.cons rfl (fun K hK => ?_) AllReadyH.nil)
  rw [if_pos (by rfl)]
  go_simp
  refine (CSR.out _ _ _ _ _ (P6.out.on (below_on Q6.out Bc.out)) F5.out).mono ?_
  rintro e wc ⟨rfl, hb⟩
  have Bc := Lib.hid (below_on Bc.out hb)
  clear hb
  go_simp
  refine hK.out _ _ (KS.out _ Bc.out) (fun h0_8 => ?_)
  clear hK K h0_7
  refine wpAnyH_take (i := 18) (v := ?v11) rfl (by kernel_rfl) (by kernel_rfl) (by kernel_rfl) (fun _ _ _ h => h) (Or.inl ⟨by rfl, ?hy11⟩) h0_8 ?rest11
  case hy11 => (intro w' hS; (try dsimp only at hS); go_simp; try (with_reducible rfl))
  simp only [Act.put, List.getElem_toArray, List.getElem_cons_zero, List.getElem_cons_succ, List.setIfInBounds_toArray, List.set_cons_zero, List.set_cons_succ]
  refine wpAnyH_take (i := 19) (v := ?v12) rfl (by kernel_rfl) (by kernel_rfl) (by kernel_rfl) (fun _ _ _ h => h) (Or.inl ⟨by rfl, ?hy12⟩) h0_8 ?rest12
  case hy12 => (intro w' hS; (try dsimp only at hS); go_simp; try (with_reducible rfl))
  simp only [Act.put, List.getElem_toArray, List.getElem_cons_zero, List.getElem_cons_succ, List.setIfInBounds_toArray, List.set_cons_zero, List.set_cons_succ]
  refine wpAnyH_take (i := 20) (v := ?v13) rfl (by kernel_rfl) (by kernel_rfl) (by kernel_rfl) (fun _ _ _ h => h) (Or.inl ⟨by rfl, ?hy13⟩) h0_8 ?rest13
  case hy13 => (intro w' hS; (try dsimp only at hS); go_simp; try (with_reducible rfl))
  simp only [Act.put, List.getElem_toArray, List.getElem_cons_zero, List.getElem_cons_succ, List.setIfInBounds_toArray, List.set_cons_zero, List.set_cons_succ]
  refine wpAnyH_take (i := 21) (v := ?v14) rfl (by kernel_rfl) (by kernel_rfl) (by kernel_rfl) (fun _ _ _ h => h) (Or.inl ⟨by rfl, ?hy14⟩) h0_8 ?rest14
  case hy14 => (intro w' hS; (try dsimp only at hS); go_simp; try (with_reducible rfl))
  simp only [Act.put, List.getElem_toArray, List.getElem_cons_zero, List.getElem_cons_succ, List.setIfInBounds_toArray, List.set_cons_zero, List.set_cons_succ]
  refine wpAnyH_take (i := 22) (v := ?v15) rfl (by kernel_rfl) (by kernel_rfl) (by kernel_rfl) (fun _ _ _ h => h) (Or.inl ⟨by rfl, ?hy15⟩) h0_8 ?rest15
  case hy15 => (intro w' hS; (try dsimp only at hS); go_simp; try (with_reducible rfl))
  simp only [Act.put, List.getElem_toArray, List.getElem_cons_zero, List.getElem_cons_succ, List.setIfInBounds_toArray, List.set_cons_zero, List.set_cons_succ]
  refine wpAnyH_take (i := 23) (v := ?v16) rfl (by kernel_rfl) (by kernel_rfl) (by kernel_rfl) (fun _ _ _ h => h) (Or.inl ⟨by rfl, ?hy16⟩) h0_8 ?rest16
  case hy16 => (intro w' hS; (try dsimp only at hS); go_simp; try (with_reducible rfl))
  simp only [Act.put, List.getElem_toArray, List.getElem_cons_zero, List.getElem_cons_succ, List.setIfInBounds_toArray, List.set_cons_zero, List.set_cons_succ]
  refine wpAnyH_take (i := 24) (v := (.bool (Dl.eqB y2D y2D))) rfl (by kernel_rfl) (by kernel_rfl) (by kernel_rfl) (fun _ _ _ h => h) (Or.inl ⟨by rfl, fun w' hS => yld_dl _ _ _ rfl y2D y2D rfl rfl y2D_ok y2D_ok⟩) h0_8 ?_
  simp only [Act.put, List.getElem_toArray, List.getElem_cons_zero, List.getElem_cons_succ, List.setIfInBounds_toArray, List.set_cons_zero, List.set_cons_succ]
  refine wpAnyH_take (i := 25) (v := ?v18) rfl (by kernel_rfl) (by kernel_rfl) (by kernel_rfl) (fun _ _ _ h => h) (Or.inl ⟨by rfl, ?hy18⟩) h0_8 ?rest18
  case hy18 => (intro w' hS; (try dsimp only at hS); go_simp; try (with_reducible rfl))
  simp only [Act.put, List.getElem_toArray, List.getElem_cons_zero, List.getElem_cons_succ, List.setIfInBounds_toArray, List.set_cons_zero, List.set_cons_succ]
  refine wpAnyH_take (i := 26) (v := ?v19) rfl (by kernel_rfl) (by kernel_rfl) (by kernel_rfl) (fun _ _ _ h => h) (Or.inl ⟨by rfl, ?hy19⟩) h0_8 ?rest19
  case hy19 => (intro w' hS; (try dsimp only at hS); go_simp; try (with_reducible rfl))
  simp only [Act.put, List.getElem_toArray, List.getElem_cons_zero, List.getElem_cons_succ, List.setIfInBounds_toArray, List.set_cons_zero]
  refine wpAnyH_done (by kernel_rfl) ?_ _
  rw [show Dl.eqB y2D y2D = true from Dl.eqB_iff.2 rfl]
  go_wp2_with fail
  go_ret
  exact ⟨rfl, below_on Q0.out Bc.out⟩
end Go.Proofs.YtbnebinpemejlaaGreat

namespace Go.Proofs.YtbnebinpemejlaaGreat
open Go.RowKit

/-- 'append' within the capacity, as one step of a region that draws its order. -/
theorem step_append_fits {P : Program} {ops : Array Oper} {o : Oper} {a : Act} {w : World} {K : Act → World → Prop} {Q : Exit → Act → World → Prop} {E : Prop}
    (hg : o.guard = none) (s x : Operand) (t : TypeId) (hop : o.op = Op.call { callee := Callee.builtin Builtin.append, args := #[s, x], argTypes := #[t, t] })
    (e : TypeId) (i : TypeInfo) (size : Nat) (h1 : P.underlying t = some (.slice e)) (h2 : P.info? e = some i) (h4 : i.size = size)
    (base g n cap : Nat) (xs : List Value) (hown : w.ownsRow base e size (.slice (some ⟨g, 0, none⟩) n cap) n xs) (hs : a.eval s = .slice (some ⟨g, 0, none⟩) n cap)
    (ad : Addr) (m c : Nat) (news : List Value) (hx : a.eval x = .slice (some ad) m c) (hn : news.length = m * size) (hc : ∀ j u, news[j]? = some u → w.cell? (ad.add j) = some u) (h1c : ∀ u ∈ news, u.oneCell' = true)
    (hroom : n + m ≤ cap)
    (hK : ∀ w', w'.ownsRow base e size (.slice (some ⟨g, 0, none⟩) (n + m) cap) (n + m) (xs ++ news) → w.grownBy w' (some g) → K (a.put o.dst (.slice (some ⟨g, 0, none⟩) (n + m) cap)) w') :
    if Region.wanted o (yielded ops a.tmps) = true then Oper.wp P o a w K Q else E := by
  have hw : Region.wanted o (yielded ops a.tmps) = true := by simp [Region.wanted, hg]
  rw [if_pos hw]
  obtain ⟨w', hrun, r1, r2⟩ := run_append_fits (P := P) w base t o.type e i size h1 h2 h4 g n cap xs hown ad m c news hn hc h1c hroom
  unfold Oper.wp
  simp [execOp, hop, resolve, invoke, builtin, hs, hx, hrun, Result.andThen]
  exact hK w' r1 r2

/-- 'make([]api.Limit, 0, k)'. -/
theorem make_room (len : Nat) (hl : len ≤ 1000) (w : World) : (Instr.makeSlice 22 (.int .i64 0) (.int .i64 ((len : Int) + 1))).run Tryz.prog w = .ok (.slice (some ⟨w.heap.size, 0, none⟩) 0 (len + 1)) (w.alloc (.cells (madeCells #[Value.int .i64 0] (len + 1)) 46)) := by
  obtain ⟨i0, hi, hz0, hz1, hz2⟩ := info_parts Tryz.info46
  have hr := run_make (P := Tryz.prog) w 22 46 i0 _ Tryz.underlying22 hi hz0 .i64 .i64 0 ((len : Int) + 1) (by omega) (by omega) (by rw [hz2]; omega) (by omega)
  rw [hr, hz1]
  simp
  rfl

theorem two_boxes' (w : World) (u v x y : Value) (t : TypeId) : Two ((w.alloc (.cells #[u, v] t)).alloc (.cells #[x, y] t)) w.heap.size u v ∧ Two ((w.alloc (.cells #[u, v] t)).alloc (.cells #[x, y] t)) (w.heap.size + 1) x y := by
  refine ⟨(Two.made _ _ _ _).alloc _, ?_⟩
  have := Two.made (w.alloc (.cells #[u, v] t)) x y t
  simpa using this

theorem grown_in {X w w' : World} {g : Nat} (hb : Below X.heap.size X w) (hg : w.grownBy w' (some g)) (hle : X.heap.size ≤ g) : Below X.heap.size X w' := grown_over hb hg hle

set_option maxRecDepth 20000 in
set_option maxHeartbeats 1600000 in
theorem lent_some (N : Int) (l : List Int) (a : Addr) (cap : Nat) (w : World) (h0 : 0 < l.length) (h1 : l.length ≤ 200) (hR : Rd w a l) :
    Calls Tryz.prog 5 #[.agg #[.int .i64 N, .slice (some a) l.length cap]] w
      (fun e w' => ∃ g, e = .returned (.agg #[.int .i64 N, .slice (some ⟨g, 0, none⟩) l.length (l.length + 1)]) ∧ w.heap.size ≤ g ∧ Own w' g (l.length + 1) (l ++ [77]) ∧ Below w.heap.size w w') := by
  obtain ⟨len, hlen⟩ : ∃ len, len = l.length := ⟨_, rfl⟩
  obtain ⟨xs, hxs⟩ : ∃ xs, xs = l.map (Value.int .i64) := ⟨_, rfl⟩
  obtain ⟨i0, hi, hz0, hz1, hz2⟩ := info_parts Tryz.info46
  obtain ⟨w0, hw0⟩ : ∃ w0, w0 = (w.alloc (.cells #[.int .i64 N, .slice (some a) len cap] 24)).alloc (.cells #[.int .i64 0, .slice none 0 0] 24) := ⟨_, rfl⟩
  obtain ⟨bx, rs⟩ := two_boxes' w (.int .i64 N) (.slice (some a) len cap) (.int .i64 0) (.slice none 0 0) 24
  rw [← hw0] at bx rs
  have z0 : w0.heap.size = w.heap.size + 2 := by rw [hw0]; simp
  have e0 : Below w.heap.size w w0 := by rw [hw0]; exact past_two (Below.refl _ _)
  have hmk := make_room len (by omega)
  obtain ⟨cur, hcur⟩ : ∃ cur, cur = madeCells #[Value.int .i64 0] (len + 1) := ⟨_, rfl⟩
  rw [← hcur] at hmk
  have B1 := Lib.hid (show Below w0.heap.size w0 w0.drew from (Below.refl _ _).drew)
  have B2 := Lib.hid (show Below w0.heap.size w0 (w0.drew.alloc (.cells cur 46)) from ((Below.refl _ _).drew).alloc (Nat.le_refl _) _)
  have OW := Lib.hid (show (w0.drew.alloc (.cells cur 46)).ownsRow 0 46 1 (.slice (some ⟨w.heap.size + 2, 0, none⟩) 0 (len + 1)) 0 [] by
    have := World.ownsRow_made (base := 0) (e := 46) (size := 1) w0.drew cur (len + 1) (Nat.zero_le _) (by unfold maxLen; omega) (by rw [hcur]; simp [madeCells])
    rw [show w0.drew.heap.size = w.heap.size + 2 from z0] at this
    exact this)
  have RN := Lib.hid (show ∀ w' : World, Below w0.heap.size w0 w' → ∀ j u, xs[j]? = some u → w'.cell? (a.add j) = some u from fun w' h => by rw [hxs]; exact ((hR.on e0).on h).map)
  have KS := Lib.hid (show ∀ w' : World, Below w0.heap.size w0 w' → w'.cell? ⟨w.heap.size, 0, none⟩ = some (.int .i64 N) ∧ w'.cell? ⟨w.heap.size, 1, none⟩ = some (.slice (some a) len cap) from fun w' h => ⟨(bx.kept h).facts.1, (bx.kept h).facts.2.1⟩)
  have l1 : xs.length = len * 1 := by rw [hxs, hlen]; simp
  have HO1 := Lib.hid (show ∀ u ∈ xs, u.oneCell' = true by rw [hxs]; simp [Value.oneCell'])
  have l3 : len ≤ 200 := by omega
  have wl := wrap_in ((len : Int) + 1) (by omega) (by omega)
  have k1 : (0 : Int) ≤ (len : Int) := by omega
  have k2 : (len : Int) ≤ ((len + 1 : Nat) : Int) := by omega
  have k3 : (len : Int) ≤ (len : Int) + 1 := by omega
  have HX := Lib.hid hxs
  have HL := Lib.hid hlen
  have E0 := Lib.hid e0
  have HW0 := Lib.hid hw0
  rw [← hlen]
  clear hR hlen hxs h0 h1 e0 hw0 hcur
  go_enter Tryz.func5, Tryz.ntmps5
  go_wp2_with fail
  rw [← HW0.out]
  go_region_held3 (fun w' => w'.cell? ⟨w.heap.size, 0, none⟩ = some (.int .i64 N) ∧ w'.cell? ⟨w.heap.size, 1, none⟩ = some (.slice (some a) len cap)) (first | exact KS.out _ B1.out | exact KS.out _ B2.out | exact KS.out _ B5)
    (first | (refine step_append_fits rfl (.tmp 8) (.tmp 10) 22 rfl 46 i0 1 Tryz.underlying22 hi hz1 0 (w.heap.size + 2) 0 (len + 1) [] OW.out (by simp [Act.eval]) a len cap xs (by simp [Act.eval]) l1 (RN.out _ B2.out) HO1.out (by omega) ?_; intro w5 hown hgrow; have B5 : Below w0.heap.size w0 w5 := grown_in B2.out hgrow (by omega)))
  have O5 := Lib.hid (show w5.ownsRow 0 46 1 (.slice (some ⟨w.heap.size + 2, 0, none⟩) len (len + 1)) len xs by simpa using hown)
  have Q5 := Lib.hid B5
  have z5 := B5.size
  clear hown hgrow B5 hmk
  obtain ⟨b0, b1⟩ := KS.out _ Q5.out
  go_wp2_with fail
  have C1 := Lib.hid (show Below w0.heap.size w0 w5.drew from Q5.out.drew)
  have C2 := Lib.hid (show Below w0.heap.size w0 (w5.drew.alloc (.cells #[.int .i64 77] 46)) from Q5.out.drew.alloc Q5.out.size _)
  have O6 := Lib.hid (show (w5.drew.alloc (.cells #[.int .i64 77] 46)).ownsRow 0 46 1 (.slice (some ⟨w.heap.size + 2, 0, none⟩) len (len + 1)) len xs from (World.ownsRow.kept O5.out (row := none) (w' := w5.drew) ⟨rfl, rfl, rfl, Nat.le_refl _, fun _ _ _ => rfl⟩ (Or.inr (by simp [Value.ownBlock]))).alloc _)
  have N6 := Lib.hid (show ∀ j u, [Value.int .i64 77][j]? = some u → (w5.drew.alloc (.cells #[.int .i64 77] 46)).cell? ((⟨w5.heap.size, 0, none⟩ : Addr).add j) = some u from fun j u hj => by
    have : j = 0 := by
      rcases j with _ | j
      · rfl
      · simp at hj
    subst this
    simp at hj
    rw [← hj, addr_add]
    exact cell_one_new w5.drew _ 46 0 _ rfl)
  have KT := Lib.hid (show ∀ (W : World) (u v : Value), Below w0.heap.size w0 W → ((W.setCell ⟨w.heap.size + 1, 0, none⟩ u).setCell ⟨w.heap.size + 1, 1, none⟩ v).cell? ⟨w.heap.size, 0, none⟩ = some (.int .i64 N) ∧ ((W.setCell ⟨w.heap.size + 1, 0, none⟩ u).setCell ⟨w.heap.size + 1, 1, none⟩ v).cell? ⟨w.heap.size, 1, none⟩ = some (.slice (some a) len cap) from fun W u v h => by have t := (bx.kept h).aside (show w.heap.size + 1 ≠ w.heap.size by omega) u v; exact ⟨t.facts.1, t.facts.2.1⟩)
  go_region_held3 (fun w' => w'.cell? ⟨w.heap.size, 0, none⟩ = some (.int .i64 N) ∧ w'.cell? ⟨w.heap.size, 1, none⟩ = some (.slice (some a) len cap)) (first | exact KS.out _ C1.out | exact KS.out _ C2.out | exact KS.out _ C7 | exact KT.out _ _ _ C7)
    (first | (refine step_append_fits rfl (.tmp 14) (.tmp 15) 22 rfl 46 i0 1 Tryz.underlying22 hi hz1 0 (w.heap.size + 2) len (len + 1) xs O6.out (by simp [Act.eval]) ⟨w5.heap.size, 0, none⟩ 1 1 [.int .i64 77] (by simp [Act.eval]) rfl N6.out (by simp [Value.oneCell']) (by omega) ?_; intro w7 hown7 hgrow7; have C7 : Below w0.heap.size w0 w7 := grown_in C2.out hgrow7 (by omega); obtain ⟨q0, q1, q2, q3⟩ := (rs.kept C7).facts))
  have O7 := Lib.hid (show Own w7 (w.heap.size + 2) (len + 1) (l ++ [77]) by
    have h : w7.ownsRow 0 46 1 (.slice (some ⟨w.heap.size + 2, 0, none⟩) (len + 1) (len + 1)) (len + 1) ((l ++ [77]).map (Value.int .i64)) := by
      rw [List.map_append, ← HX.out]; exact hown7
    exact (own_of h rfl (by simp [HL.out])).1)
  have E7 := Lib.hid (below_on E0.out C7)
  go_wp2_with fail
  refine bodyPost_ret (v := .agg #[.int .i64 N, .slice (some ⟨w.heap.size + 2, 0, none⟩) len (len + 1)]) (by simp [results, Tryz.results5, go_sem, q0, q1]) rfl ⟨w.heap.size + 2, rfl, by omega, put_far O7.out (by omega) _ _, ?_⟩
  exact (E7.out.setCell (by show w.heap.size ≤ w.heap.size + 1; omega) _).setCell (by show w.heap.size ≤ w.heap.size + 1; omega) _
end Go.Proofs.YtbnebinpemejlaaGreat

namespace Go.Proofs.YtbnebinpemejlaaGreat
open Go.RowKit

/-- 'append' of nothing that is nil, as one step of a region that draws its order. -/
theorem step_append_no {P : Program} {ops : Array Oper} {o : Oper} {a : Act} {w : World} {K : Act → World → Prop} {Q : Exit → Act → World → Prop} {E : Prop}
    (hg : o.guard = none) (s x : Operand) (t : TypeId) (hop : o.op = Op.call { callee := Callee.builtin Builtin.append, args := #[s, x], argTypes := #[t, t] })
    (e : TypeId) (i : TypeInfo) (size : Nat) (h1 : P.underlying t = some (.slice e)) (h2 : P.info? e = some i)
    (base n : Nat) (v : Value) (xs : List Value) (hown : w.ownsRow base e size v n xs) (hs : a.eval s = v) (hx : a.eval x = .slice none 0 0)
    (hK : K (a.put o.dst v) w) :
    if Region.wanted o (yielded ops a.tmps) = true then Oper.wp P o a w K Q else E := by
  have hw : Region.wanted o (yielded ops a.tmps) = true := by simp [Region.wanted, hg]
  rw [if_pos hw]
  have hrun := run_append_owned_none (P := P) (w := w) base t o.type e i size h1 h2 v n xs hown
  unfold Oper.wp
  simp [execOp, hop, resolve, invoke, builtin, hs, hx, hrun, Result.andThen]
  exact hK

set_option maxRecDepth 20000 in
set_option maxHeartbeats 1600000 in
theorem lent_nil (N : Int) (w : World) :
    Calls Tryz.prog 5 #[.agg #[.int .i64 N, .slice none 0 0]] w
      (fun e w' => ∃ g, e = .returned (.agg #[.int .i64 N, .slice (some ⟨g, 0, none⟩) 0 1]) ∧ w.heap.size ≤ g ∧ Own w' g 1 [77] ∧ Below w.heap.size w w') := by
  obtain ⟨i0, hi, hz0, hz1, hz2⟩ := info_parts Tryz.info46
  obtain ⟨w0, hw0⟩ : ∃ w0, w0 = (w.alloc (.cells #[.int .i64 N, .slice none 0 0] 24)).alloc (.cells #[.int .i64 0, .slice none 0 0] 24) := ⟨_, rfl⟩
  obtain ⟨bx, rs⟩ := two_boxes' w (.int .i64 N) (.slice none 0 0) (.int .i64 0) (.slice none 0 0) 24
  rw [← hw0] at bx rs
  have z0 : w0.heap.size = w.heap.size + 2 := by rw [hw0]; simp
  have e0 : Below w.heap.size w w0 := by rw [hw0]; exact past_two (Below.refl _ _)
  have hmk : ∀ w : World, (Instr.makeSlice 22 (.int .i64 0) (.int .i64 1)).run Tryz.prog w = .ok (.slice (some ⟨w.heap.size, 0, none⟩) 0 1) (w.alloc (.cells (madeCells #[Value.int .i64 0] 1) 46)) := fun w => make_room 0 (by omega) w
  obtain ⟨cur, hcur⟩ : ∃ cur, cur = madeCells #[Value.int .i64 0] 1 := ⟨_, rfl⟩
  rw [← hcur] at hmk
  have B1 := Lib.hid (show Below w0.heap.size w0 w0.drew from (Below.refl _ _).drew)
  have B2 := Lib.hid (show Below w0.heap.size w0 (w0.drew.alloc (.cells cur 46)) from ((Below.refl _ _).drew).alloc (Nat.le_refl _) _)
  have OW := Lib.hid (show (w0.drew.alloc (.cells cur 46)).ownsRow 0 46 1 (.slice (some ⟨w.heap.size + 2, 0, none⟩) 0 1) 0 [] by
    have := World.ownsRow_made (base := 0) (e := 46) (size := 1) w0.drew cur 1 (Nat.zero_le _) (by unfold maxLen; omega) (by rw [hcur]; simp [madeCells])
    rw [show w0.drew.heap.size = w.heap.size + 2 from z0] at this
    exact this)
  have KS := Lib.hid (show ∀ w' : World, Below w0.heap.size w0 w' → w'.cell? ⟨w.heap.size, 0, none⟩ = some (.int .i64 N) ∧ w'.cell? ⟨w.heap.size, 1, none⟩ = some (.slice none 0 0) from fun w' h => ⟨(bx.kept h).facts.1, (bx.kept h).facts.2.1⟩)
  have wl := wrap_in 1 (by omega) (by omega)
  have E0 := Lib.hid e0
  have HW0 := Lib.hid hw0
  clear e0 hw0 hcur
  go_enter Tryz.func5, Tryz.ntmps5
  go_wp2_with fail
  rw [← HW0.out]
  go_region_held3 (fun w' => w'.cell? ⟨w.heap.size, 0, none⟩ = some (.int .i64 N) ∧ w'.cell? ⟨w.heap.size, 1, none⟩ = some (.slice none 0 0)) (first | exact KS.out _ B1.out | exact KS.out _ B2.out)
    (first | (refine step_append_no rfl (.tmp 8) (.tmp 10) 22 rfl 46 i0 1 Tryz.underlying22 hi 0 0 (.slice (some ⟨w.heap.size + 2, 0, none⟩) 0 1) [] OW.out (by simp [Act.eval]) (by simp [Act.eval]) ?_))
  obtain ⟨w5, hw5⟩ : ∃ w5, w5 = (w0.alloc (.cells cur 46)).drew := ⟨_, rfl⟩
  have hw6 : w5 = w0.drew.alloc (.cells cur 46) := hw5
  rw [← hw6] at B2 OW
  clear hw6
  have O5 := OW
  have Q5 := B2
  have z5 := B2.out.size
  clear hmk
  obtain ⟨b0, b1⟩ := KS.out _ Q5.out
  go_upto_region 2 with (fail)
  rw [← hw5]
  clear hw5
  have C1 := Lib.hid (show Below w0.heap.size w0 w5.drew from Q5.out.drew)
  have C2 := Lib.hid (show Below w0.heap.size w0 (w5.drew.alloc (.cells #[.int .i64 77] 46)) from Q5.out.drew.alloc Q5.out.size _)
  have O6 := Lib.hid (show (w5.drew.alloc (.cells #[.int .i64 77] 46)).ownsRow 0 46 1 (.slice (some ⟨w.heap.size + 2, 0, none⟩) 0 1) 0 [] from (World.ownsRow.kept O5.out (row := none) (w' := w5.drew) ⟨rfl, rfl, rfl, Nat.le_refl _, fun _ _ _ => rfl⟩ (Or.inr (by simp [Value.ownBlock]))).alloc _)
  have N6 := Lib.hid (show ∀ j u, [Value.int .i64 77][j]? = some u → (w5.drew.alloc (.cells #[.int .i64 77] 46)).cell? ((⟨w5.heap.size, 0, none⟩ : Addr).add j) = some u from fun j u hj => by
    have : j = 0 := by
      rcases j with _ | j
      · rfl
      · simp at hj
    subst this
    simp at hj
    rw [← hj, addr_add]
    exact cell_one_new w5.drew _ 46 0 _ rfl)
  have KT := Lib.hid (show ∀ (W : World) (u v : Value), Below w0.heap.size w0 W → ((W.setCell ⟨w.heap.size + 1, 0, none⟩ u).setCell ⟨w.heap.size + 1, 1, none⟩ v).cell? ⟨w.heap.size, 0, none⟩ = some (.int .i64 N) ∧ ((W.setCell ⟨w.heap.size + 1, 0, none⟩ u).setCell ⟨w.heap.size + 1, 1, none⟩ v).cell? ⟨w.heap.size, 1, none⟩ = some (.slice none 0 0) from fun W u v h => by have t := (bx.kept h).aside (show w.heap.size + 1 ≠ w.heap.size by omega) u v; exact ⟨t.facts.1, t.facts.2.1⟩)
  go_region_held3 (fun w' => w'.cell? ⟨w.heap.size, 0, none⟩ = some (.int .i64 N) ∧ w'.cell? ⟨w.heap.size, 1, none⟩ = some (.slice none 0 0)) (first | exact KS.out _ C1.out | exact KS.out _ C2.out | exact KS.out _ C7 | exact KT.out _ _ _ C7)
    (first | (refine step_append_fits rfl (.tmp 14) (.tmp 15) 22 rfl 46 i0 1 Tryz.underlying22 hi hz1 0 (w.heap.size + 2) 0 1 [] O6.out (by simp [Act.eval]) ⟨w5.heap.size, 0, none⟩ 1 1 [.int .i64 77] (by simp [Act.eval]) rfl N6.out (by simp [Value.oneCell']) (by omega) ?_; intro w7 hown7 hgrow7; have C7 : Below w0.heap.size w0 w7 := grown_in C2.out hgrow7 (by omega); obtain ⟨q0, q1, q2, q3⟩ := (rs.kept C7).facts))
  have O7 := Lib.hid (show Own w7 (w.heap.size + 2) 1 [77] by
    have h : w7.ownsRow 0 46 1 (.slice (some ⟨w.heap.size + 2, 0, none⟩) 1 1) 1 ([77].map (Value.int .i64)) := hown7
    exact (own_of h rfl (by simp)).1)
  have E7 := Lib.hid (below_on E0.out C7)
  go_wp2_with fail
  refine bodyPost_ret (v := .agg #[.int .i64 N, .slice (some ⟨w.heap.size + 2, 0, none⟩) 0 1]) (by simp [results, Tryz.results5, go_sem, q0, q1]) rfl ⟨w.heap.size + 2, rfl, by omega, put_far O7.out (by omega) _ _, ?_⟩
  exact (E7.out.setCell (by show w.heap.size ≤ w.heap.size + 1; omega) _).setCell (by show w.heap.size ≤ w.heap.size + 1; omega) _
end Go.Proofs.YtbnebinpemejlaaGreat

namespace Go.Proofs.YtbnebinpemejlaaGreat
open Go.RowKit

set_option maxRecDepth 20000 in
set_option maxHeartbeats 1600000 in
theorem lent_all (N : Int) (l : List Int) (a : Addr) (cap : Nat) (w : World) (h1 : l.length ≤ 200) (hR : Rd w a l) :
    Calls Tryz.prog 5 #[.agg #[.int .i64 N, .slice (some a) l.length cap]] w
      (fun e w' => ∃ g, e = .returned (.agg #[.int .i64 N, .slice (some ⟨g, 0, none⟩) l.length (l.length + 1)]) ∧ w.heap.size ≤ g ∧ Own w' g (l.length + 1) (l ++ [77]) ∧ Below w.heap.size w w') := by
  obtain ⟨len, hlen⟩ : ∃ len, len = l.length := ⟨_, rfl⟩
  obtain ⟨xs, hxs⟩ : ∃ xs, xs = l.map (Value.int .i64) := ⟨_, rfl⟩
  obtain ⟨i0, hi, hz0, hz1, hz2⟩ := info_parts Tryz.info46
  obtain ⟨w0, hw0⟩ : ∃ w0, w0 = (w.alloc (.cells #[.int .i64 N, .slice (some a) len cap] 24)).alloc (.cells #[.int .i64 0, .slice none 0 0] 24) := ⟨_, rfl⟩
  obtain ⟨bx, rs⟩ := two_boxes' w (.int .i64 N) (.slice (some a) len cap) (.int .i64 0) (.slice none 0 0) 24
  rw [← hw0] at bx rs
  have z0 : w0.heap.size = w.heap.size + 2 := by rw [hw0]; simp
  have e0 : Below w.heap.size w w0 := by rw [hw0]; exact past_two (Below.refl _ _)
  have hmk := make_room len (by omega)
  obtain ⟨cur, hcur⟩ : ∃ cur, cur = madeCells #[Value.int .i64 0] (len + 1) := ⟨_, rfl⟩
  rw [← hcur] at hmk
  have B1 := Lib.hid (show Below w0.heap.size w0 w0.drew from (Below.refl _ _).drew)
  have B2 := Lib.hid (show Below w0.heap.size w0 (w0.drew.alloc (.cells cur 46)) from ((Below.refl _ _).drew).alloc (Nat.le_refl _) _)
  have OW := Lib.hid (show (w0.drew.alloc (.cells cur 46)).ownsRow 0 46 1 (.slice (some ⟨w.heap.size + 2, 0, none⟩) 0 (len + 1)) 0 [] by
    have := World.ownsRow_made (base := 0) (e := 46) (size := 1) w0.drew cur (len + 1) (Nat.zero_le _) (by unfold maxLen; omega) (by rw [hcur]; simp [madeCells])
    rw [show w0.drew.heap.size = w.heap.size + 2 from z0] at this
    exact this)
  have RN := Lib.hid (show ∀ w' : World, Below w0.heap.size w0 w' → ∀ j u, xs[j]? = some u → w'.cell? (a.add j) = some u from fun w' h => by rw [hxs]; exact ((hR.on e0).on h).map)
  have KS := Lib.hid (show ∀ w' : World, Below w0.heap.size w0 w' → w'.cell? ⟨w.heap.size, 0, none⟩ = some (.int .i64 N) ∧ w'.cell? ⟨w.heap.size, 1, none⟩ = some (.slice (some a) len cap) from fun w' h => ⟨(bx.kept h).facts.1, (bx.kept h).facts.2.1⟩)
  have l1 : xs.length = len * 1 := by rw [hxs, hlen]; simp
  have HO1 := Lib.hid (show ∀ u ∈ xs, u.oneCell' = true by rw [hxs]; simp [Value.oneCell'])
  have l3 : len ≤ 200 := by omega
  have wl := wrap_in ((len : Int) + 1) (by omega) (by omega)
  have k1 : (0 : Int) ≤ (len : Int) := by omega
  have k2 : (len : Int) ≤ ((len + 1 : Nat) : Int) := by omega
  have k3 : (len : Int) ≤ (len : Int) + 1 := by omega
  have HX := Lib.hid hxs
  have HL := Lib.hid hlen
  have E0 := Lib.hid e0
  have HW0 := Lib.hid hw0
  rw [← hlen]
  clear hR hlen hxs h1 e0 hw0 hcur
  go_enter Tryz.func5, Tryz.ntmps5
  go_wp2_with fail
  rw [← HW0.out]
  go_region_held3 (fun w' => w'.cell? ⟨w.heap.size, 0, none⟩ = some (.int .i64 N) ∧ w'.cell? ⟨w.heap.size, 1, none⟩ = some (.slice (some a) len cap)) (first | exact KS.out _ B1.out | exact KS.out _ B2.out | exact KS.out _ B5)
    (first | (refine step_append_fits rfl (.tmp 8) (.tmp 10) 22 rfl 46 i0 1 Tryz.underlying22 hi hz1 0 (w.heap.size + 2) 0 (len + 1) [] OW.out (by simp [Act.eval]) a len cap xs (by simp [Act.eval]) l1 (RN.out _ B2.out) HO1.out (by omega) ?_; intro w5 hown hgrow; have B5 : Below w0.heap.size w0 w5 := grown_in B2.out hgrow (by omega)))
  have O5 := Lib.hid (show w5.ownsRow 0 46 1 (.slice (some ⟨w.heap.size + 2, 0, none⟩) len (len + 1)) len xs by simpa using hown)
  have Q5 := Lib.hid B5
  have z5 := B5.size
  clear hown hgrow B5 hmk
  obtain ⟨b0, b1⟩ := KS.out _ Q5.out
  go_wp2_with fail
  have C1 := Lib.hid (show Below w0.heap.size w0 w5.drew from Q5.out.drew)
  have C2 := Lib.hid (show Below w0.heap.size w0 (w5.drew.alloc (.cells #[.int .i64 77] 46)) from Q5.out.drew.alloc Q5.out.size _)
  have O6 := Lib.hid (show (w5.drew.alloc (.cells #[.int .i64 77] 46)).ownsRow 0 46 1 (.slice (some ⟨w.heap.size + 2, 0, none⟩) len (len + 1)) len xs from (World.ownsRow.kept O5.out (row := none) (w' := w5.drew) ⟨rfl, rfl, rfl, Nat.le_refl _, fun _ _ _ => rfl⟩ (Or.inr (by simp [Value.ownBlock]))).alloc _)
  have N6 := Lib.hid (show ∀ j u, [Value.int .i64 77][j]? = some u → (w5.drew.alloc (.cells #[.int .i64 77] 46)).cell? ((⟨w5.heap.size, 0, none⟩ : Addr).add j) = some u from fun j u hj => by
    have : j = 0 := by
      rcases j with _ | j
      · rfl
      · simp at hj
    subst this
    simp at hj
    rw [← hj, addr_add]
    exact cell_one_new w5.drew _ 46 0 _ rfl)
  have KT := Lib.hid (show ∀ (W : World) (u v : Value), Below w0.heap.size w0 W → ((W.setCell ⟨w.heap.size + 1, 0, none⟩ u).setCell ⟨w.heap.size + 1, 1, none⟩ v).cell? ⟨w.heap.size, 0, none⟩ = some (.int .i64 N) ∧ ((W.setCell ⟨w.heap.size + 1, 0, none⟩ u).setCell ⟨w.heap.size + 1, 1, none⟩ v).cell? ⟨w.heap.size, 1, none⟩ = some (.slice (some a) len cap) from fun W u v h => by have t := (bx.kept h).aside (show w.heap.size + 1 ≠ w.heap.size by omega) u v; exact ⟨t.facts.1, t.facts.2.1⟩)
  go_region_held3 (fun w' => w'.cell? ⟨w.heap.size, 0, none⟩ = some (.int .i64 N) ∧ w'.cell? ⟨w.heap.size, 1, none⟩ = some (.slice (some a) len cap)) (first | exact KS.out _ C1.out | exact KS.out _ C2.out | exact KS.out _ C7 | exact KT.out _ _ _ C7)
    (first | (refine step_append_fits rfl (.tmp 14) (.tmp 15) 22 rfl 46 i0 1 Tryz.underlying22 hi hz1 0 (w.heap.size + 2) len (len + 1) xs O6.out (by simp [Act.eval]) ⟨w5.heap.size, 0, none⟩ 1 1 [.int .i64 77] (by simp [Act.eval]) rfl N6.out (by simp [Value.oneCell']) (by omega) ?_; intro w7 hown7 hgrow7; have C7 : Below w0.heap.size w0 w7 := grown_in C2.out hgrow7 (by omega); obtain ⟨q0, q1, q2, q3⟩ := (rs.kept C7).facts))
  have O7 := Lib.hid (show Own w7 (w.heap.size + 2) (len + 1) (l ++ [77]) by
    have h : w7.ownsRow 0 46 1 (.slice (some ⟨w.heap.size + 2, 0, none⟩) (len + 1) (len + 1)) (len + 1) ((l ++ [77]).map (Value.int .i64)) := by
      rw [List.map_append, ← HX.out]; exact hown7
    exact (own_of h rfl (by simp [HL.out])).1)
  have E7 := Lib.hid (below_on E0.out C7)
  go_wp2_with fail
  refine bodyPost_ret (v := .agg #[.int .i64 N, .slice (some ⟨w.heap.size + 2, 0, none⟩) len (len + 1)]) (by simp [results, Tryz.results5, go_sem, q0, q1]) rfl ⟨w.heap.size + 2, rfl, by omega, put_far O7.out (by omega) _ _, ?_⟩
  exact (E7.out.setCell (by show w.heap.size ≤ w.heap.size + 1; omega) _).setCell (by show w.heap.size ≤ w.heap.size + 1; omega) _
end Go.Proofs.YtbnebinpemejlaaGreat

namespace Go.Proofs.YtbnebinpemejlaaGreat
open Go.RowKit

theorem own_front {w : World} {g c : Nat} {l : List Int} {x : Int} (h : Own w g c (l ++ [x])) : Rd w ⟨g, 0, none⟩ l ∧ w.cell? ⟨g, l.length, none⟩ = some (.int .i64 x) := by
  refine ⟨fun j hj => ?_, ?_⟩
  · have := h.rd j (by simp; omega)
    rw [this]
    simp [Zo.gt, hj, List.getElem?_append_left hj]
  · have := h.rd l.length (by simp)
    rw [addr_add] at this
    simpa [Zo.gt] using this

set_option maxHeartbeats 1600000 in
theorem kept_yes (N M : Int) (l m : List Int) (g : Nat) (bo : Option Addr) (cb : Nat) (w : World) (hO : Own w g (l.length + 1) (l ++ [77])) (hB : Arg w bo m) (ll : l.length ≤ 200) (hs : smB N M l m = true) :
    Calls Tryz.prog 13 #[.agg #[.int .i64 N, .slice (some ⟨g, 0, none⟩) l.length (l.length + 1)], .agg #[.int .i64 M, .slice bo m.length cb]] w (Made (.bool true) w) := by
  obtain ⟨hR, h77⟩ := own_front hO
  have SM := Lib.hid fun W (h : Below w.heap.size w W) => same_any N M l m (some ⟨g, 0, none⟩) bo (l.length + 1) cb W (fun _ => ⟨_, rfl, hR.on h⟩) (hB.on h) (by omega)
  have hsm : smB N M l m = true → m.length = l.length := by
    intro h; unfold smB at h; simp at h; rw [h.2]
  obtain ⟨len, hlen⟩ : ∃ len, len = l.length := ⟨_, rfl⟩
  obtain ⟨mlen, hmlen⟩ : ∃ mlen, mlen = m.length := ⟨_, rfl⟩
  rw [← hlen] at SM h77 ll hsm
  rw [← hmlen] at SM hsm
  rw [← hlen, ← hmlen]
  generalize smB N M l m = sb at *
  obtain ⟨w0, hw0⟩ : ∃ w0, w0 = (w.alloc (.cells #[.int .i64 N, .slice (some ⟨g, 0, none⟩) len (len + 1)] 24)).alloc (.cells #[.int .i64 M, .slice bo mlen cb] 24) := ⟨_, rfl⟩
  obtain ⟨bx, by'⟩ := two_boxes' w (.int .i64 N) (.slice (some ⟨g, 0, none⟩) len (len + 1)) (.int .i64 M) (.slice bo mlen cb) 24
  rw [← hw0] at bx by'
  have e0 : Below w.heap.size w w0 := by rw [hw0]; exact past_two (Below.refl _ _)
  have E0 := Lib.hid e0
  have HW0 := Lib.hid hw0
  have KS := Lib.hid (show ∀ W : World, Below w0.heap.size w0 W → (W.cell? ⟨w.heap.size, 0, none⟩ = some (.int .i64 N) ∧ W.cell? ⟨w.heap.size, 1, none⟩ = some (.slice (some ⟨g, 0, none⟩) len (len + 1))) ∧ (W.cell? ⟨w.heap.size + 1, 0, none⟩ = some (.int .i64 M) ∧ W.cell? ⟨w.heap.size + 1, 1, none⟩ = some (.slice bo mlen cb)) ∧ W.cell? ⟨g, len, none⟩ = some (.int .i64 77) from
    fun W h => ⟨⟨(bx.kept h).facts.1, (bx.kept h).facts.2.1⟩, ⟨(by'.kept h).facts.1, (by'.kept h).facts.2.1⟩, kept h (kept e0 h77)⟩)
  have B1 := Lib.hid (show Below w0.heap.size w0 w0.drew from (Below.refl _ _).drew)
  clear hO hB hR h77 hlen hmlen hw0 e0
  subst hs
  have hme : mlen = len := hsm rfl
  clear hsm
  subst hme
  have wl := wrap_in ((mlen : Int) + 1) (by omega) (by omega)
  have k1 : (0 : Int) ≤ (mlen : Int) := by omega
  have k2 : (mlen : Int) + 1 ≤ ((mlen + 1 : Nat) : Int) := by omega
  have k3 : (mlen : Int) < (mlen : Int) + 1 := by omega
  have k4 : (0 : Int) ≤ (mlen : Int) + 1 := by omega
  go_enter Tryz.func13, Tryz.ntmps13
  go_wp2_with fail
  rw [← HW0.out]
  go_region_held3 (fun w' => (w'.cell? ⟨w.heap.size, 0, none⟩ = some (.int .i64 N) ∧ w'.cell? ⟨w.heap.size, 1, none⟩ = some (.slice (some ⟨g, 0, none⟩) mlen (mlen + 1))) ∧ (w'.cell? ⟨w.heap.size + 1, 0, none⟩ = some (.int .i64 M) ∧ w'.cell? ⟨w.heap.size + 1, 1, none⟩ = some (.slice bo mlen cb)) ∧ w'.cell? ⟨g, mlen, none⟩ = some (.int .i64 77)) (first | exact KS.out _ B1.out | exact KS.out _ s2)
    (first | (go_at_call 44; refine (SM.out _ (below_on E0.out B1.out)).mono ?_; rintro e w2 ⟨rfl, hb⟩; have s2 := below_on B1.out hb))
  go_wp2_with fail
  go_ret
  exact ⟨rfl, below_on E0.out s2⟩
end Go.Proofs.YtbnebinpemejlaaGreat

namespace Go.Proofs.YtbnebinpemejlaaGreat
open Go.ChangeShapes Go.WideShapes Go.ChangeAt Go.RowKit Go.Joins Go.Deep

theorem Tryz.own : ownKnob Tryz.prog.godebug = none := by kernel_rfl

theorem Tryz.laidOut : laidOutB Tryz.prog = true := by kernel_rfl

theorem trodAll_stays {H : Type} {enc : TypeId × Value → H} {W W' : World} {sp : Nat → Bool} : ∀ {ts : List TypeId} {vs : List Value} {ds : List (DataW H)} {ps : List MemPlace}, (∀ t ∈ ts, Tryz.prog.readableRec t = true ∧ t < Tryz.prog.types.size) →
    DataW.TrodAll enc Tryz.prog W 0 (fun _ => true) true ts vs ds ps → (∀ p ∈ ps, W.sameAt W' p) → (∀ p ∈ ps, sp p.block = true) → DataW.TrodAll enc Tryz.prog W' 0 sp true ts vs ds ps
  | [], [], [], _, _, h, _, _ => h
  | [], [], _ :: _, _, _, h, _, _ => h.elim
  | [], _ :: _, _, _, _, h, _, _ => h.elim
  | _ :: _, [], _, _, _, h, _, _ => h.elim
  | _ :: _, _ :: _, [], _, _, h, _, _ => h.elim
  | t :: ts, v :: vs, d :: ds, ps, ht, h, h1, h2 => by
    obtain ⟨p, q, ha, hb, rfl⟩ := h
    obtain ⟨r1, r2⟩ := ht t (List.mem_cons_self ..)
    exact ⟨p, q, WideElems.Trod_stays Tryz.laidOut r1 r2 ha (fun x hx => h1 x (List.mem_append_left _ hx)) (fun x hx => h2 x (List.mem_append_left _ hx)),
      trodAll_stays (fun t ht' => ht t (List.mem_cons_of_mem _ ht')) hb (fun x hx => h1 x (List.mem_append_right _ hx)) (fun x hx => h2 x (List.mem_append_right _ hx)), rfl⟩

set_option maxRecDepth 100000 in
/-- The last step of a law: it has returned true; its arguments read as they did, for the call has only made memory. -/
theorem post_law {H : Type} {enc : TypeId × Value → H} {f : Func} {s : ChangeSpec} {apart fresh handsOn again : Bool} {W W' : World} {args : Array Value} {ds gs : List (DataW H)} {before : List MemPlace}
    (hW : DataW.Whole enc Tryz.prog f.params.toList s.vars apart W args.toList ds gs before) (hv : s.vars = []) (hb : Below W.heap.size W W')
    (ht : ∀ t ∈ f.params.toList, Tryz.prog.readableRec t = true ∧ t < Tryz.prog.types.size)
    (hr : f.resultTypes.toList = [4]) (hs : f.resultTypes.size = 1) (hs1 : f.resultTypes[0]? = some 4)
    (hres : (s.fn H ds).results = [.lit (.bool true)]) (hargs : (s.fn H ds).args = ds) (hvars : (s.fn H ds).vars = []) :
    s.post enc Tryz.prog f apart fresh handsOn again W args (.bool true) W' := by
  have hlt : ∀ p ∈ before, p.block < W.heap.size := fun p hp => hW.lt p hp
  have hW0 := hW
  obtain ⟨p, q, hA, hV, rfl, hz, hn⟩ := hW
  rw [hv] at hV
  obtain ⟨rfl, rfl⟩ := trodVars_none hV
  simp only [List.append_nil] at hlt hz hn hW0
  have key : ∀ sp : Nat → Bool, (∀ x ∈ p, sp x.block = true) → DataW.TrodAll enc Tryz.prog W' 0 sp true f.params.toList args.toList ds p := fun sp hsp =>
    trodAll_stays ht hA (fun x hx => hb.same (hlt x hx)) hsp
  have res : ∀ (b : Nat) (sp : Nat → Bool) (hd : Bool), DataW.TrodAll enc Tryz.prog W' b sp hd f.resultTypes.toList ((Value.bool true).resultList f.resultTypes.size) [.lit (.bool true)] [] := fun b sp hd => by
    rw [hr, hs]
    exact trodAll_mk1 (shut_bool Tryz.underlying4 _)
  have none : ∀ sp : Nat → Bool, DataW.TrodVars enc Tryz.prog W' sp s.vars (s.fn H (ds ++ [])).vars [] := fun sp => by
    rw [hv, List.append_nil, hvars]; rfl
  have kA : ∀ sp : Nat → Bool, (∀ x ∈ p, sp x.block = true) → DataW.TrodAll enc Tryz.prog W' 0 sp true f.params.toList args.toList (s.fn H (ds ++ [])).args p := fun sp hsp => by
    rw [List.append_nil, hargs]; exact key sp hsp
  have kR : ∀ (b : Nat) (sp : Nat → Bool) (hd : Bool), DataW.TrodAll enc Tryz.prog W' b sp hd f.resultTypes.toList ((Value.bool true).resultList f.resultTypes.size) (s.fn H (ds ++ [])).results [] := fun b sp hd => by
    rw [List.append_nil, hres]; exact res b sp hd
  refine ⟨ds, [], p, [], p, [], by simpa using hW0, kR _ _ _, ?_, none _, ?_, fun _ => ?_⟩
  · exact kA _ (fun x hx => by simpa using hlt x hx)
  · exact World.keptBut_mono (fun x hx => ⟨hx, by simpa using hx⟩) (hb.frame (· ∈ p))
  · refine ⟨?_, _, _, ([] ++ p) ++ [], ⟨[] ++ p, [], trodAll_append (kA _ (fun _ _ => rfl)) (kR _ _ _), none _, rfl, ?_, ?_⟩, ?_⟩
    · intro j t r h1 h2
      rw [hs] at h2
      cases j with
      | zero =>
        rw [hs1] at h1
        simp [Value.resultList] at h2
        subst h2
        have e := Option.some.inj h1
        rw [← e]
        exact okWide_bool_mk Tryz.underlying4 _
      | succ j => rw [Array.getElem?_eq_none (by omega)] at h1; cases h1
    · intro b off hp
      have hin : MemPlace.cell b off ∈ p := by simpa using hp
      rw [hb.frozen (hlt _ hin)]
      exact hz b off hin
    · intro ha
      simpa using hn ha
    · intro x hx _
      simpa using hx
end Go.Proofs.YtbnebinpemejlaaGreat

namespace Go.Proofs.YtbnebinpemejlaaGreat
open Go.ChangeShapes Go.WideShapes Go.ChangeAt Go.RowKit Go.Joins Go.Deep

theorem Tryz.cells46 : Tryz.prog.cellsOf 46 = 1 := by kernel_rfl

theorem Tryz.cells22 : Tryz.prog.cellsOf 22 = 1 := by kernel_rfl

theorem Tryz.cells3 : Tryz.prog.cellsOf 3 = 1 := by kernel_rfl

theorem Tryz.cells24 : Tryz.prog.cellsOf 24 = 2 := by kernel_rfl

theorem Tryz.cells48 : Tryz.prog.cellsOf 48 = 3 := by kernel_rfl

theorem wf_i64 {n : Int} (h : (Lit.int .i64 n).wf = true) : I64 n := by
  simp [Lit.wf, IntKind.min, IntKind.max, IntKind.signed, IntKind.bits] at h
  exact ⟨by omega, by omega⟩

/-- A slice of limits. -/
theorem open_limits {H : Type} {enc : TypeId × Value → H} {W : World} {base fuel : Nat} {sp : Nat → Bool} {held : Bool} {c : Value} {y : DataW H × List MemPlace}
    (h : DataW.trod enc Tryz.prog W base sp held fuel 22 [c] = some y) : ∃ (ao : Option Addr) (l : List Int) (cap : Nat), c = .slice ao l.length cap ∧ Arg W ao l ∧ l.length ≤ maxLen := by
  rcases open_ints Tryz.underlying22 Tryz.underlying46 Tryz.cells46 h with ⟨e, _⟩ | ⟨a, len, cap, zs, e, _, hl, hm, hz, _, hc, _⟩
  · simp at e
    exact ⟨none, [], 0, by simpa using e, fun q => absurd rfl q, by simp⟩
  · simp at e
    have hlen : len ≤ zs.length := by rw [hz]; split <;> omega
    refine ⟨some a, zs.take len, cap, by rw [e]; simp [hlen], fun _ => ⟨a, rfl, fun j hj => ?_⟩, by simp; omega⟩
    simp at hj
    rw [hc j (by omega)]
    simp [Zo.gt, show j < len by omega]

set_option maxRecDepth 100000 in
/-- A zone by value. -/
theorem open_zone {H : Type} {enc : TypeId × Value → H} {W : World} {base : Nat} {sp : Nat → Bool} {held : Bool} {r : Reach} {b0 : Nat} {v : Value} {d : DataW H} {p : List MemPlace}
    (hv : Value.okWide Tryz.prog W r b0 24 v) (h : DataW.Trod enc Tryz.prog W base sp held 24 v d p) :
    ∃ (N : Int) (ao : Option Addr) (l : List Int) (cap : Nat), v = .agg #[.int .i64 N, .slice ao l.length cap] ∧ I64 N ∧ Arg W ao l ∧ l.length ≤ maxLen := by
  obtain ⟨v0, v1, y0, y1, n, rfl, _, _, h0, h1⟩ := open_agg2 Tryz.underlying24 (by kernel_rfl) Tryz.cells24 hv h
  obtain ⟨N, e0, _, w0⟩ := DataW.trod_int Tryz.underlying3 h0
  simp at e0
  obtain ⟨ao, l, cap, e1, hA, hl⟩ := open_limits h1
  exact ⟨N, ao, l, cap, by rw [e0, e1], wf_i64 w0, hA, hl⟩

set_option maxRecDepth 100000 in
/-- A struct of three integers. -/
theorem trod_con {H : Type} {enc : TypeId × Value → H} {W : World} {base fuel : Nat} {sp : Nat → Bool} {held : Bool} {cs : List Value} {y : DataW H × List MemPlace}
    (h : DataW.trod enc Tryz.prog W base sp held fuel 48 cs = some y) : ∃ i j x : Int, cs = [.int .i64 i, .int .i64 j, .int .i64 x] ∧ I64 i ∧ I64 j ∧ I64 x := by
  obtain ⟨xs, n, _, _, hl, hx, hf⟩ := DataW.trod_struct Tryz.underlying48 h
  rw [Tryz.cells48] at hl
  match cs, hl with
  | [a, b, c], _ =>
    have g0 := hf 0 _ rfl
    have g1 := hf 1 _ rfl
    have g2 := hf 2 _ rfl
    match xs, hx with
    | [y0, y1, y2], _ =>
      simp [Tryz.cells3, Tryz.cells46] at g0 g1 g2
      obtain ⟨i, e0, _, w0⟩ := DataW.trod_int Tryz.underlying3 g0
      obtain ⟨j, e1, _, w1⟩ := DataW.trod_int Tryz.underlying3 g1
      obtain ⟨x, e2, _, w2⟩ := DataW.trod_int Tryz.underlying46 g2
      simp at e0 e1 e2
      exact ⟨i, j, x, by rw [e0, e1, e2], wf_i64 w0, wf_i64 w1, wf_i64 w2⟩

theorem add_two (a : Addr) (k j : Nat) (hj : 0 < j) : (a.add k).add j = ⟨(a.add k).block, (a.add k).off + j, none⟩ := by
  generalize a.add k = b
  unfold Addr.add
  rw [if_neg (by omega)]

/-- A slice of constraints. -/
theorem open_cons {H : Type} {enc : TypeId × Value → H} {W : World} {base fuel : Nat} {sp : Nat → Bool} {held : Bool} {c : Value} {y : DataW H × List MemPlace}
    (h : DataW.trod enc Tryz.prog W base sp held fuel 49 [c] = some y) :
    ∃ (ao : Option Addr) (cs : List Con) (cap : Nat), c = .slice ao cs.length cap ∧ Arg3 W ao cs ∧ cs.length ≤ maxLen ∧ (∀ k, k < cs.length → (I64 (gc cs k).1 ∧ I64 (gc cs k).2.1 ∧ I64 (gc cs k).2.2)) ∧ (ao = none → cs = [] ∧ cap = 0) := by
  rcases open_slice Tryz.underlying49 h with ⟨e, _⟩ | ⟨a, len, cap, m, n, D, Pl, e, _, hl, hm, hmm, _, hi⟩
  · simp at e
    exact ⟨none, [], 0, by simpa using e, fun q => absurd rfl q, by simp, fun k hk => by simp at hk, fun _ => ⟨rfl, rfl⟩⟩
  · simp at e
    have hlen : len ≤ m := by rw [hmm]; split <;> omega
    have key : ∀ i, i < len → ∃ q : Con, (W.cell? (a.add (i * 3)) = some (.int .i64 q.1) ∧ W.cell? ⟨(a.add (i * 3)).block, (a.add (i * 3)).off + 1, none⟩ = some (.int .i64 q.2.1) ∧ W.cell? ⟨(a.add (i * 3)).block, (a.add (i * 3)).off + 2, none⟩ = some (.int .i64 q.2.2)) ∧ I64 q.1 ∧ I64 q.2.1 ∧ I64 q.2.2 := fun i hil => by
      obtain ⟨cs', hc, ht⟩ := hi i (by omega)
      rw [Tryz.cells48] at hc
      obtain ⟨x, y, z, rfl, w0, w1, w2⟩ := trod_con ht
      obtain ⟨_, hcl, hat⟩ := World.cells?_some hc
      have c0 := hat 0 (by simp)
      have c1 := hat 1 (by simp)
      have c2 := hat 2 (by simp)
      rw [add_two _ _ _ (by omega)] at c1 c2
      rw [show (a.add (i * 3)).add 0 = a.add (i * 3) by simp [Addr.add]] at c0
      exact ⟨(x, y, z), ⟨by simpa using c0, by simpa using c1, by simpa using c2⟩, w0, w1, w2⟩
    obtain ⟨F, hF⟩ : ∃ F : Nat → Con, ∀ i, i < len → (W.cell? (a.add (i * 3)) = some (.int .i64 (F i).1) ∧ W.cell? ⟨(a.add (i * 3)).block, (a.add (i * 3)).off + 1, none⟩ = some (.int .i64 (F i).2.1) ∧ W.cell? ⟨(a.add (i * 3)).block, (a.add (i * 3)).off + 2, none⟩ = some (.int .i64 (F i).2.2)) ∧ I64 (F i).1 ∧ I64 (F i).2.1 ∧ I64 (F i).2.2 := by
      refine ⟨fun i => if h : i < len then (key i h).choose else (0, 0, 0), fun i hil => ?_⟩
      simp only [dif_pos hil]
      exact (key i hil).choose_spec
    have hg : ∀ i, i < len → gc ((List.range len).map F) i = F i := fun i hil => by simp [gc, hil]
    refine ⟨some a, (List.range len).map F, cap, by rw [e]; simp, fun _ => ⟨a, rfl, fun j hj => ?_⟩, by simp; omega, fun k hk => ?_, fun q => by cases q⟩
    · simp at hj
      rw [hg j hj]
      exact (hF j hj).1
    · simp at hk
      rw [hg k hk]
      exact (hF k hk).2

set_option maxRecDepth 100000 in
/-- A slice of one cell, by value, and its reading. -/
theorem trod_slice1 {H : Type} {enc : TypeId × Value → H} {W : World} {base : Nat} {sp : Nat → Bool} {held : Bool} {r : Reach} {b0 : Nat} {t e : TypeId} {v : Value} {d : DataW H} {p : List MemPlace} (ht : Tryz.prog.underlying t = some (.slice e))
    (hv : Value.okWide Tryz.prog W r b0 t v) (h : DataW.Trod enc Tryz.prog W base sp held t v d p) : ∃ n, DataW.trod enc Tryz.prog W base sp held n t [v] = some (d, p) := by
  obtain ⟨n, hn⟩ := h
  obtain ⟨a, l, c, rfl⟩ := okWide_slice ht hv
  exact ⟨n, hn⟩

set_option maxRecDepth 100000 in
theorem open_cons_arg {H : Type} {enc : TypeId × Value → H} {W : World} {base : Nat} {sp : Nat → Bool} {held : Bool} {r : Reach} {b0 : Nat} {v : Value} {d : DataW H} {p : List MemPlace}
    (hv : Value.okWide Tryz.prog W r b0 49 v) (h : DataW.Trod enc Tryz.prog W base sp held 49 v d p) :
    ∃ (ao : Option Addr) (cs : List Con) (cap : Nat), v = .slice ao cs.length cap ∧ Arg3 W ao cs ∧ cs.length ≤ maxLen ∧ (∀ k, k < cs.length → (I64 (gc cs k).1 ∧ I64 (gc cs k).2.1 ∧ I64 (gc cs k).2.2)) ∧ (ao = none → cs = [] ∧ cap = 0) := by
  obtain ⟨n, hn⟩ := trod_slice1 Tryz.underlying49 hv h
  exact open_cons hn

/-- What a function that returns a zone leaves, in one form for both outcomes. -/
def zrN (er N : Int) : Int := if er = 0 then N else 0

def zrL (er : Int) (l : List Int) : List Int := if er = 0 then l else []

theorem ZRes.val {w : World} {N : Int} {l : List Int} {er : Int} {e : Ending} {w' : World} (h : ZRes w N l er e w') :
    ∃ ao cap, e = .returned (.tuple #[.agg #[.int .i64 (zrN er N), .slice ao (zrL er l).length cap], .int .i64 er]) ∧ Arg w' ao (zrL er l) ∧ (zrL er l).length ≤ maxLen ∧ Below w.heap.size w w' := by
  rcases h.2 with ⟨rfl, g, c, rfl, _, hO⟩ | ⟨h1, rfl⟩
  · refine ⟨some ⟨g, 0, none⟩, c, rfl, hO.arg, ?_, h.1⟩
    rcases hO.2 with ⟨q, _⟩ | ⟨g', cap, cur, _, _, _, h4, h5, _⟩
    · cases q
    · show l.length ≤ maxLen; omega
  · exact ⟨none, 0, by simp [zrN, zrL, h1], fun q => absurd (by simp [zrL, h1]) q, by simp [zrL, h1], h.1⟩

def ZVal (w : World) (M : Int) (m : List Int) (er : Int) (e : Ending) (w' : World) : Prop :=
  ∃ ao cap, e = .returned (.tuple #[.agg #[.int .i64 M, .slice ao m.length cap], .int .i64 er]) ∧ Arg w' ao m ∧ m.length ≤ maxLen ∧ Below w.heap.size w w'

theorem ZRes.zval {w : World} {N : Int} {l : List Int} {er : Int} {e : Ending} {w' : World} (h : ZRes w N l er e w') : ZVal w (zrN er N) (zrL er l) er e w' := h.val
end Go.Proofs.YtbnebinpemejlaaGreat

namespace Go.Proofs.YtbnebinpemejlaaGreat
open Go.ChangeShapes Go.WideShapes Go.ChangeAt Go.RowKit Go.Joins Go.Deep

theorem max_le' {n : Nat} (h : n ≤ maxLen) : n ≤ 9223372036854775807 := by unfold maxLen at h; omega

theorem arg_far' {w : World} {ao : Option Addr} {l : List Int} (h : Arg w ao l) {x : Nat} (hx : ∀ a, ao = some a → a.block ≠ x) (u v : Value) : Arg ((w.setCell ⟨x, 0, none⟩ u).setCell ⟨x, 1, none⟩ v) ao l := fun hl => by
  obtain ⟨a, e, hR⟩ := h hl
  refine ⟨a, e, fun j hj => ?_⟩
  have hb : (a.add j).block = a.block := by unfold Addr.add; split <;> rfl
  have hne := hx a e
  exact aside_two (hR j hj) (by rw [hb]; exact hne) u v

theorem far_below {w0 w : World} (h : Below w0.heap.size w0 w) {x : Nat} (hx : w0.heap.size ≤ x) (u v : Value) : Below w0.heap.size w0 ((w.setCell ⟨x, 0, none⟩ u).setCell ⟨x, 1, none⟩ v) := (h.setCell hx u).setCell hx v

/-- What a function that returns a zone leaves, in one form for both outcomes; the row is new. -/
def ZV2 (w : World) (M : Int) (m : List Int) (er : Int) (e : Ending) (w' : World) : Prop :=
  ∃ ao cap, e = .returned (.tuple #[.agg #[.int .i64 M, .slice ao m.length cap], .int .i64 er]) ∧ Arg w' ao m ∧ m.length ≤ maxLen ∧ (∀ b, ao = some b → w.heap.size ≤ b.block ∧ b.block < w'.heap.size) ∧ Below w.heap.size w w'

theorem ZRes.zv2 {w : World} {N : Int} {l : List Int} {er : Int} {e : Ending} {w' : World} (h : ZRes w N l er e w') : ZV2 w (zrN er N) (zrL er l) er e w' := by
  rcases h.2 with ⟨rfl, g, c, rfl, hg, hO⟩ | ⟨h1, rfl⟩
  · refine ⟨some ⟨g, 0, none⟩, c, rfl, hO.arg, ?_, fun b hb => by injection hb with hb; subst hb; exact ⟨hg, (World.ownsRow.lt hO g rfl).2⟩, h.1⟩
    rcases hO.2 with ⟨q, _⟩ | ⟨g', cap, cur, _, _, _, h4, h5, _⟩
    · cases q
    · show l.length ≤ maxLen; omega
  · exact ⟨none, 0, by simp [zrN, zrL, h1], fun q => absurd (by simp [zrL, h1]) q, by simp [zrL, h1], (fun b hb => by cases hb), h.1⟩

theorem lent_gen (N : Int) (l : List Int) (ao : Option Addr) (cap : Nat) (w : World) (h1 : l.length ≤ 200) (hA : Arg w ao l) (hn : ao = none → l = [] ∧ cap = 0) :
    Calls Tryz.prog 5 #[.agg #[.int .i64 N, .slice ao l.length cap]] w
      (fun e w' => ∃ g, e = .returned (.agg #[.int .i64 N, .slice (some ⟨g, 0, none⟩) l.length (l.length + 1)]) ∧ w.heap.size ≤ g ∧ Own w' g (l.length + 1) (l ++ [77]) ∧ Below w.heap.size w w') := by
  cases ao with
  | none =>
    obtain ⟨rfl, rfl⟩ := hn rfl
    exact lent_nil N w
  | some a =>
    refine lent_all N l a cap w h1 ?_
    by_cases c : l = []
    · subst c; intro j hj; simp at hj
    · obtain ⟨b, e, h⟩ := hA c
      injection e with e; subst e; exact h

theorem own_front' {w : World} {g c : Nat} {l : List Int} {x : Int} (h : Own w g c (l ++ [x])) : Arg w (some ⟨g, 0, none⟩) l := fun _ => ⟨_, rfl, (own_front h).1⟩

/-- A slice of limits; one that is nil. -/
theorem open_limits2 {H : Type} {enc : TypeId × Value → H} {W : World} {base fuel : Nat} {sp : Nat → Bool} {held : Bool} {c : Value} {y : DataW H × List MemPlace}
    (h : DataW.trod enc Tryz.prog W base sp held fuel 22 [c] = some y) : ∃ (ao : Option Addr) (l : List Int) (cap : Nat), c = .slice ao l.length cap ∧ Arg W ao l ∧ l.length ≤ maxLen ∧ (ao = none → l = [] ∧ cap = 0) := by
  rcases open_ints Tryz.underlying22 Tryz.underlying46 Tryz.cells46 h with ⟨e, _⟩ | ⟨a, len, cap, zs, e, _, hl, hm, hz, _, hc, _⟩
  · simp at e
    exact ⟨none, [], 0, by simpa using e, fun q => absurd rfl q, by simp, fun _ => ⟨rfl, rfl⟩⟩
  · simp at e
    have hlen : len ≤ zs.length := by rw [hz]; split <;> omega
    refine ⟨some a, zs.take len, cap, by rw [e]; simp [hlen], fun _ => ⟨a, rfl, fun j hj => ?_⟩, by simp; omega, fun q => by cases q⟩
    simp at hj
    rw [hc j (by omega)]
    simp [Zo.gt, show j < len by omega]

set_option maxRecDepth 100000 in
theorem open_limits_arg {H : Type} {enc : TypeId × Value → H} {W : World} {base : Nat} {sp : Nat → Bool} {held : Bool} {r : Reach} {b0 : Nat} {v : Value} {d : DataW H} {p : List MemPlace}
    (hv : Value.okWide Tryz.prog W r b0 22 v) (h : DataW.Trod enc Tryz.prog W base sp held 22 v d p) :
    ∃ (ao : Option Addr) (l : List Int) (cap : Nat), v = .slice ao l.length cap ∧ Arg W ao l ∧ l.length ≤ maxLen ∧ (ao = none → l = [] ∧ cap = 0) := by
  obtain ⟨n, hn⟩ := trod_slice1 Tryz.underlying22 hv h
  exact open_limits2 hn

set_option maxRecDepth 100000 in
/-- A zone by value; one without a row. -/
theorem open_zone2 {H : Type} {enc : TypeId × Value → H} {W : World} {base : Nat} {sp : Nat → Bool} {held : Bool} {r : Reach} {b0 : Nat} {v : Value} {d : DataW H} {p : List MemPlace}
    (hv : Value.okWide Tryz.prog W r b0 24 v) (h : DataW.Trod enc Tryz.prog W base sp held 24 v d p) :
    ∃ (N : Int) (ao : Option Addr) (l : List Int) (cap : Nat), v = .agg #[.int .i64 N, .slice ao l.length cap] ∧ I64 N ∧ Arg W ao l ∧ l.length ≤ maxLen ∧ (ao = none → l = [] ∧ cap = 0) := by
  obtain ⟨v0, v1, y0, y1, n, rfl, _, _, h0, h1⟩ := open_agg2 Tryz.underlying24 (by kernel_rfl) Tryz.cells24 hv h
  obtain ⟨N, e0, _, w0⟩ := DataW.trod_int Tryz.underlying3 h0
  simp at e0
  obtain ⟨ao, l, cap, e1, hA, hl, hn⟩ := open_limits2 h1
  exact ⟨N, ao, l, cap, by rw [e0, e1], wf_i64 w0, hA, hl, hn⟩
end Go.Proofs.YtbnebinpemejlaaGreat

namespace Go.Proofs.YtbnebinpemejlaaGreat
open Go.RowKit

theorem own_aside {w : World} {g c b : Nat} {l : List Int} (h : Own w g c l) (hne : b ≠ g) (u v : Value) : Own ((w.setCell ⟨b, 0, none⟩ u).setCell ⟨b, 1, none⟩ v) g c l := put_far h hne u v

theorem arg_grown {w w' : World} {ao : Option Addr} {l : List Int} {g : Nat} (h : Arg w ao l) (hg : w.grownBy w' (some g)) (hne : ∀ a, ao = some a → a.block ≠ g) : Arg w' ao l := fun hl => by
  obtain ⟨a, e, hR⟩ := h hl
  refine ⟨a, e, fun j hj => ?_⟩
  have hb : (a.add j).block = a.block := by unfold Addr.add; split <;> rfl
  exact hg.cell (hR j hj) (by rw [hb]; simpa using hne a e)
end Go.Proofs.YtbnebinpemejlaaGreat

namespace Go.Proofs.YtbnebinpemejlaaGreat
open Go.ChangeShapes Go.WideShapes Go.ChangeAt Go.RowKit Go.Joins Go.Deep

theorem Tryz.cells2 : Tryz.prog.cellsOf 2 = 1 := by kernel_rfl

theorem Tryz.cells49 : Tryz.prog.cellsOf 49 = 1 := by kernel_rfl

theorem Tryz.cells32 : Tryz.prog.cellsOf 32 = 2 := by kernel_rfl

set_option maxRecDepth 100000 in
/-- A zone's two cells. -/
theorem trod_zone {H : Type} {enc : TypeId × Value → H} {W : World} {base fuel : Nat} {sp : Nat → Bool} {held : Bool} {c0 c1 : Value} {y : DataW H × List MemPlace}
    (h : DataW.trod enc Tryz.prog W base sp held fuel 24 [c0, c1] = some y) :
    ∃ (N : Int) (ao : Option Addr) (l : List Int) (cap : Nat), c0 = .int .i64 N ∧ c1 = .slice ao l.length cap ∧ I64 N ∧ Arg W ao l ∧ l.length ≤ maxLen ∧ (ao = none → l = [] ∧ cap = 0) := by
  obtain ⟨xs, n, _, _, hl, hx, hf⟩ := DataW.trod_struct Tryz.underlying24 h
  have g0 := hf 0 _ rfl
  have g1 := hf 1 _ rfl
  match xs, hx with
  | [y0, y1], _ =>
    simp [Tryz.cells3, Tryz.cells22] at g0 g1
    obtain ⟨N, e0, _, w0⟩ := DataW.trod_int Tryz.underlying3 g0
    simp at e0
    obtain ⟨ao, l, cap, e1, hA, hl2, hn⟩ := open_limits2 g1
    exact ⟨N, ao, l, cap, e0, e1, wf_i64 w0, hA, hl2, hn⟩

set_option maxRecDepth 100000 in
/-- A struct of two integers. -/
theorem trod_rat {H : Type} {enc : TypeId × Value → H} {W : World} {base fuel : Nat} {sp : Nat → Bool} {held : Bool} {cs : List Value} {y : DataW H × List MemPlace}
    (h : DataW.trod enc Tryz.prog W base sp held fuel 32 cs = some y) : ∃ i j : Int, cs = [.int .i64 i, .int .i64 j] ∧ I64 i ∧ I64 j := by
  obtain ⟨xs, n, _, _, hl, hx, hf⟩ := DataW.trod_struct Tryz.underlying32 h
  rw [Tryz.cells32] at hl
  match cs, hl with
  | [a, b], _ =>
    have g0 := hf 0 _ rfl
    have g1 := hf 1 _ rfl
    match xs, hx with
    | [y0, y1], _ =>
      simp [Tryz.cells2] at g0 g1
      obtain ⟨i, e0, _, w0⟩ := DataW.trod_int Tryz.underlying2 g0
      obtain ⟨j, e1, _, w1⟩ := DataW.trod_int Tryz.underlying2 g1
      simp at e0 e1
      exact ⟨i, j, by rw [e0, e1], wf_i64 w0, wf_i64 w1⟩

/-- A slice of ratios. -/
theorem open_rats {H : Type} {enc : TypeId × Value → H} {W : World} {base fuel : Nat} {sp : Nat → Bool} {held : Bool} {c : Value} {y : DataW H × List MemPlace}
    (h : DataW.trod enc Tryz.prog W base sp held fuel 25 [c] = some y) :
    ∃ (ao : Option Addr) (ps : List Pq) (cap : Nat), c = .slice ao ps.length cap ∧ Arg2 W ao ps ∧ ps.length ≤ maxLen ∧ Fits ps ∧ (ao = none → ps = [] ∧ cap = 0) := by
  rcases open_slice Tryz.underlying25 h with ⟨e, _⟩ | ⟨a, len, cap, m, n, D, Pl, e, _, hl, hm, hmm, _, hi⟩
  · simp at e
    exact ⟨none, [], 0, by simpa using e, fun q => absurd rfl q, by simp, fun k hk => by simp at hk, fun _ => ⟨rfl, rfl⟩⟩
  · simp at e
    have hlen : len ≤ m := by rw [hmm]; split <;> omega
    have key : ∀ i, i < len → ∃ q : Pq, (W.cell? (a.add (i * 2)) = some (.int .i64 q.1) ∧ W.cell? ⟨(a.add (i * 2)).block, (a.add (i * 2)).off + 1, none⟩ = some (.int .i64 q.2)) ∧ I64 q.1 ∧ I64 q.2 := fun i hil => by
      obtain ⟨cs', hc, ht⟩ := hi i (by omega)
      rw [Tryz.cells32] at hc
      obtain ⟨x, y, rfl, w0, w1⟩ := trod_rat ht
      obtain ⟨_, hcl, hat⟩ := World.cells?_some hc
      have c0 := hat 0 (by simp)
      have c1 := hat 1 (by simp)
      rw [add_two _ _ _ (by omega)] at c1
      rw [show (a.add (i * 2)).add 0 = a.add (i * 2) by simp [Addr.add]] at c0
      exact ⟨(x, y), ⟨by simpa using c0, by simpa using c1⟩, w0, w1⟩
    obtain ⟨F, hF⟩ : ∃ F : Nat → Pq, ∀ i, i < len → (W.cell? (a.add (i * 2)) = some (.int .i64 (F i).1) ∧ W.cell? ⟨(a.add (i * 2)).block, (a.add (i * 2)).off + 1, none⟩ = some (.int .i64 (F i).2)) ∧ I64 (F i).1 ∧ I64 (F i).2 := by
      refine ⟨fun i => if h : i < len then (key i h).choose else (0, 0), fun i hil => ?_⟩
      simp only [dif_pos hil]
      exact (key i hil).choose_spec
    have hg : ∀ i, i < len → gp ((List.range len).map F) i = F i := fun i hil => by simp [gp, hil]
    refine ⟨some a, (List.range len).map F, cap, by rw [e]; simp, fun _ => ⟨a, rfl, fun j hj => ?_⟩, by simp; omega, fun k hk => ?_, fun q => by cases q⟩
    · simp at hj
      rw [hg j hj]
      exact (hF j hj).1
    · simp at hk
      rw [hg k hk]
      exact (hF k hk).2

set_option maxRecDepth 100000 in
theorem open_rats_arg {H : Type} {enc : TypeId × Value → H} {W : World} {base : Nat} {sp : Nat → Bool} {held : Bool} {r : Reach} {b0 : Nat} {v : Value} {d : DataW H} {p : List MemPlace}
    (hv : Value.okWide Tryz.prog W r b0 25 v) (h : DataW.Trod enc Tryz.prog W base sp held 25 v d p) :
    ∃ (ao : Option Addr) (ps : List Pq) (cap : Nat), v = .slice ao ps.length cap ∧ Arg2 W ao ps ∧ ps.length ≤ maxLen ∧ Fits ps ∧ (ao = none → ps = [] ∧ cap = 0) := by
  obtain ⟨n, hn⟩ := trod_slice1 Tryz.underlying25 hv h
  exact open_rats hn
end Go.Proofs.YtbnebinpemejlaaGreat

namespace Go.Proofs.YtbnebinpemejlaaGreat
open Go.RowKit

theorem QRes.one {w : World} {qs : List Pq} {er : Int} {e : Ending} {w' : World} (h : QRes w qs er e w') : ∃ ao cap, e = .returned (.tuple #[.slice ao (if er = 0 then qs else []).length cap, .int .i64 er]) ∧ Arg2 w' ao (if er = 0 then qs else []) ∧ Below w.heap.size w w' := by
  obtain ⟨hb, h | h⟩ := h
  · obtain ⟨rfl, a, c, rfl, hA⟩ := h
    exact ⟨a, c, rfl, hA, hb⟩
  · obtain ⟨hn, rfl⟩ := h
    exact ⟨none, 0, by rw [if_neg hn]; rfl, by rw [if_neg hn]; exact fun q => absurd rfl q, hb⟩

theorem pn_len (N : Int) (l : List Int) : (if pnE N l = 0 then pnL N l else []).length ≤ 1000 := by
  split
  · rename_i h
    unfold pnE at h
    unfold pnL
    by_cases hc : chkE N l = 0
    · rw [if_pos hc] at h ⊢
      obtain ⟨n, rfl, hn, _⟩ := chk_ok hc
      rw [Int.toNat_natCast] at h ⊢
      have := (pt_fits (n := n) (l := l) n).2 h
      rw [List.length_drop, this]
      omega
    · rw [if_neg hc]; simp
  · simp

theorem zero_ok' : Dl.zero.Ok := ⟨by unfold Dl.zero I64; simp, by unfold Dl.zero I64; simp, by unfold Dl.zero I64; simp, by unfold Dl.zero I64; simp⟩

theorem st_ok (N : Int) (l : List Int) (ps : List Pq) : (stR N l ps).1.Ok := by
  unfold stR
  split
  · exact zero_ok'
  · unfold syV
    split
    · exact zero_ok'
    · split
      · exact zero_ok'
      · split
        · exact zero_ok'
        · exact sy_ok _ _ _ _

theorem yld_dls {o : Oper} {a : Act} {w : World} (p q : Operand) (t : TypeId) (ho : o.op = .binOp .eql 34 p q t) (x : Dl) (hx : a.eval p = .agg x.cs) (hy : a.eval q = .agg x.cs) (kx : x.Ok) :
    (execOp a.eval o).run Tryz.prog w = .ok (.value (.bool true)) w := by
  rw [yld_dl p q t ho x x hx hy kx kx, Dl.eqB_iff.2 rfl]

set_option maxRecDepth 100000 in
set_option maxHeartbeats 1000000 in
theorem points_long1 (N : Int) (ao : Option Addr) (len cap : Nat) (po : Option Addr) (pl pc : Nat) (w : World) (h : 200 < len) :
    Calls Tryz.prog 3 #[.agg #[.int .i64 N, .slice ao len cap], .slice po pl pc] w (Made (.bool true) w) := by
  have SH := Lib.hid (fun W => shown3_any W)
  have Q0 := Lib.hid (show Below w.heap.size w (w.alloc (.cells #[.int .i64 N, .slice ao len cap] 24)) from one_more _)
  have D0 : decide ((200 : Int) < (len : Int)) = true := by simp; omega
  go_enter Tryz.func3, Tryz.ntmps3
  go_wp2_with fail
  refine (SH.out _).mono ?_
  rintro e w99 ⟨rfl, hb⟩
  have Q0 := Lib.hid (below_on Q0.out hb)
  clear hb
  go_wp2_with fail
  go_ret
  exact ⟨rfl, Q0.out⟩

set_option maxRecDepth 100000 in
set_option maxHeartbeats 1000000 in
theorem points_long2 (N : Int) (ao : Option Addr) (len cap : Nat) (po : Option Addr) (pl pc : Nat) (w : World) (h0 : ¬ 200 < len) (h : 50 < pl) :
    Calls Tryz.prog 3 #[.agg #[.int .i64 N, .slice ao len cap], .slice po pl pc] w (Made (.bool true) w) := by
  have SH := Lib.hid (fun W => shown3_any W)
  have Q0 := Lib.hid (show Below w.heap.size w (w.alloc (.cells #[.int .i64 N, .slice ao len cap] 24)) from one_more _)
  have D0 : decide ((200 : Int) < (len : Int)) = false := by simp; omega
  have D1 : decide ((50 : Int) < (pl : Int)) = true := by simp; omega
  go_enter Tryz.func3, Tryz.ntmps3
  go_wp2_with fail
  refine (SH.out _).mono ?_
  rintro e w99 ⟨rfl, hb⟩
  have Q0 := Lib.hid (below_on Q0.out hb)
  clear hb
  go_wp2_with fail
  go_ret
  exact ⟨rfl, Q0.out⟩

set_option maxRecDepth 100000 in
set_option maxHeartbeats 4000000 in
theorem points_walk (N : Int) (l : List Int) (len : Nat) (ao : Option Addr) (cap : Nat) (po : Option Addr) (pl pc : Nat) (w : World) (g0 : ¬ 200 < len) (g1 : ¬ 50 < pl) (x : Dl) (hx : x.Ok) (hb' : Bool) (he ge pe : Int) (Q : List Pq)
    (LX : Hid (∀ W, Below w.heap.size w W → Calls Tryz.prog 5 #[.agg #[.int .i64 N, .slice ao len cap]] W (fun e w' => ∃ g, e = .returned (.agg #[.int .i64 N, .slice (some ⟨g, 0, none⟩) len (len + 1)]) ∧ W.heap.size ≤ g ∧ Own w' g (len + 1) (l ++ [77]) ∧ Below W.heap.size W w')))
    (HZ : Hid (∀ W g, Own W g (len + 1) (l ++ [77]) → Below w.heap.size w W → Calls Tryz.prog 6 #[.agg #[.int .i64 N, .slice (some ⟨g, 0, none⟩) len (len + 1)], .slice po pl pc] W (Made (.tuple #[.bool hb', .int .i64 he]) W)))
    (HR : Hid (∀ W, Below w.heap.size w W → Calls Tryz.prog 7 #[.agg #[.int .i64 N, .slice ao len cap], .slice po pl pc] W (Made (.tuple #[.bool hb', .int .i64 he]) W)))
    (SZ : Hid (∀ W g, Own W g (len + 1) (l ++ [77]) → Below w.heap.size w W → Calls Tryz.prog 8 #[.agg #[.int .i64 N, .slice (some ⟨g, 0, none⟩) len (len + 1)], .slice po pl pc] W (Made (.tuple #[.agg #[.int .i64 x.ln, .int .i64 x.ld, .int .i64 x.hn, .int .i64 x.hd, .bool x.lo, .bool x.ho, .bool x.nh], .int .i64 ge]) W)))
    (SR : Hid (∀ W, Below w.heap.size w W → Calls Tryz.prog 9 #[.agg #[.int .i64 N, .slice ao len cap], .slice po pl pc] W (Made (.tuple #[.agg #[.int .i64 x.ln, .int .i64 x.ld, .int .i64 x.hn, .int .i64 x.hd, .bool x.lo, .bool x.ho, .bool x.nh], .int .i64 ge]) W)))
    (PZ : Hid (∀ W g, Own W g (len + 1) (l ++ [77]) → Below w.heap.size w W → Calls Tryz.prog 10 #[.agg #[.int .i64 N, .slice (some ⟨g, 0, none⟩) len (len + 1)]] W (fun e w' => ∃ qo qc, e = .returned (.tuple #[.slice qo Q.length qc, .int .i64 pe]) ∧ Arg2 w' qo Q ∧ Below W.heap.size W w')))
    (PR : Hid (∀ W, Below w.heap.size w W → Calls Tryz.prog 11 #[.agg #[.int .i64 N, .slice ao len cap]] W (fun e w' => ∃ qo qc, e = .returned (.tuple #[.slice qo Q.length qc, .int .i64 pe]) ∧ Arg2 w' qo Q ∧ Below W.heap.size W w')))
    (SQ : Hid (∀ W a b c d, Arg2 W a Q → Arg2 W b Q → Calls Tryz.prog 12 #[.slice a Q.length c, .slice b Q.length d] W (Made (.bool true) W)))
    (KP : Hid (∀ W g, Own W g (len + 1) (l ++ [77]) → Below w.heap.size w W → Calls Tryz.prog 13 #[.agg #[.int .i64 N, .slice (some ⟨g, 0, none⟩) len (len + 1)], .agg #[.int .i64 N, .slice ao len cap]] W (Made (.bool true) W))) :
    Calls Tryz.prog 3 #[.agg #[.int .i64 N, .slice ao len cap], .slice po pl pc] w (Made (.bool true) w) := by
  have SH := Lib.hid (fun W => shown3_any W)
  have KX := Lib.hid hx
  have D0 : decide ((200 : Int) < (len : Int)) = false := by simp; omega
  have D1 : decide ((50 : Int) < (pl : Int)) = false := by simp; omega
  clear g0 g1 hx
  obtain ⟨w0, hw0⟩ : ∃ w0, w0 = w.alloc (.cells #[.int .i64 N, .slice ao len cap] 24) := ⟨_, rfl⟩
  have PX := Lib.hid (show Two w0 w.heap.size (.int .i64 N) (.slice ao len cap) by rw [hw0]; exact Two.made _ _ _ _)
  have Q0 := Lib.hid (show Below w.heap.size w w0 by rw [hw0]; exact one_more _)
  go_enter Tryz.func3, Tryz.ntmps3
  go_upto_region 1 with (fail)
  rw [← hw0]
  clear hw0
  obtain ⟨z0, z1, _, _⟩ := PX.out.facts
  go_wp2_with fail
  refine (LX.out _ Q0.out).mono ?_
  rintro e w1 ⟨g, rfl, hg, hO, hb⟩
  obtain ⟨v1, hv⟩ : ∃ v1, v1 = w1.alloc (.cells #[.int .i64 N, .slice (some ⟨g, 0, none⟩) len (len + 1)] 24) := ⟨_, rfl⟩
  have X1 := Lib.hid (show Two v1 w1.heap.size (.int .i64 N) (.slice (some ⟨g, 0, none⟩) len (len + 1)) by rw [hv]; exact Two.made _ _ _ _)
  have O1 := Lib.hid (show Own v1 g (len + 1) (l ++ [77]) by rw [hv]; exact hO.alloc _)
  have B1 := Lib.hid (show Below w0.heap.size w0 v1 by rw [hv]; exact hb.alloc hb.size _)
  clear hO hb hg
  go_upto_region 4 with (fail)
  rw [← hv]
  clear hv
  clear z0 z1
  have PX := Lib.hid (PX.out.kept B1.out)
  have Q0 := Lib.hid (below_on Q0.out B1.out)
  obtain ⟨y0, y1, _, _⟩ := X1.out.facts
  go_wp2_with fail
  refine (HZ.out _ _ O1.out Q0.out).mono ?_
  rintro e w2 ⟨rfl, hb⟩
  clear y0 y1
  have PX := Lib.hid (PX.out.kept hb)
  have X1 := Lib.hid (X1.out.kept hb)
  have O1 := Lib.hid (own_below O1.out hb)
  have Q0 := Lib.hid (below_on Q0.out hb)
  clear hb
  obtain ⟨z0, z1, _, _⟩ := PX.out.facts
  go_wp2_with fail
  refine (HR.out _ Q0.out).mono ?_
  rintro e w3 ⟨rfl, hb⟩
  clear z0 z1
  have PX := Lib.hid (PX.out.kept hb)
  have X1 := Lib.hid (X1.out.kept hb)
  have O1 := Lib.hid (own_below O1.out hb)
  have Q0 := Lib.hid (below_on Q0.out hb)
  clear hb
  obtain ⟨y0, y1, _, _⟩ := X1.out.facts
  go_wp2_with fail
  refine (SZ.out _ _ O1.out Q0.out).mono ?_
  rintro e w4 ⟨rfl, hb⟩
  obtain ⟨v4, hv⟩ : ∃ v, v = w4.alloc (.cells #[.int .i64 x.ln, .int .i64 x.ld, .int .i64 x.hn, .int .i64 x.hd, .bool x.lo, .bool x.ho, .bool x.nh] 34) := ⟨_, rfl⟩
  have D4b := Lib.hid (show Dbx v4 w4.heap.size x by rw [hv]; exact Drow.made _ _)
  have B4 := Lib.hid (show Below _ _ v4 by rw [hv]; exact hb.alloc hb.size _)
  clear hb
  go_upto_region 7 with (fail)
  rw [← hv]
  clear hv
  clear y0 y1
  have PX := Lib.hid (PX.out.kept B4.out)
  have X1 := Lib.hid (X1.out.kept B4.out)
  have O1 := Lib.hid (own_below O1.out B4.out)
  have Q0 := Lib.hid (below_on Q0.out B4.out)
  obtain ⟨z0, z1, _, _⟩ := PX.out.facts
  go_wp2_with fail
  refine (SR.out _ Q0.out).mono ?_
  rintro e w5 ⟨rfl, hb⟩
  obtain ⟨v5, hv⟩ : ∃ v, v = w5.alloc (.cells #[.int .i64 x.ln, .int .i64 x.ld, .int .i64 x.hn, .int .i64 x.hd, .bool x.lo, .bool x.ho, .bool x.nh] 34) := ⟨_, rfl⟩
  have D5b := Lib.hid (show Dbx v5 w5.heap.size x by rw [hv]; exact Drow.made _ _)
  have B5 := Lib.hid (show Below _ _ v5 by rw [hv]; exact hb.alloc hb.size _)
  clear hb
  go_upto_region 8 with (fail)
  rw [← hv]
  clear hv
  clear z0 z1
  have PX := Lib.hid (PX.out.kept B5.out)
  have X1 := Lib.hid (X1.out.kept B5.out)
  have O1 := Lib.hid (own_below O1.out B5.out)
  have Q0 := Lib.hid (below_on Q0.out B5.out)
  have D4b := Lib.hid (D4b.out.kept B5.out)
  obtain ⟨y0, y1, _, _⟩ := X1.out.facts
  go_wp2_with fail
  refine (PZ.out _ _ O1.out Q0.out).mono ?_
  rintro e w6 ⟨qo, qc, rfl, hA, hb⟩
  have A6 := Lib.hid hA
  clear y0 y1
  have PX := Lib.hid (PX.out.kept hb)
  have X1 := Lib.hid (X1.out.kept hb)
  have O1 := Lib.hid (own_below O1.out hb)
  have Q0 := Lib.hid (below_on Q0.out hb)
  have D4b := Lib.hid (D4b.out.kept hb)
  have D5b := Lib.hid (D5b.out.kept hb)
  clear hA hb
  obtain ⟨z0, z1, _, _⟩ := PX.out.facts
  go_wp2_with fail
  refine (PR.out _ Q0.out).mono ?_
  rintro e w7 ⟨ro, rc, rfl, hA, hb⟩
  have A7 := Lib.hid hA
  clear z0 z1
  have PX := Lib.hid (PX.out.kept hb)
  have X1 := Lib.hid (X1.out.kept hb)
  have O1 := Lib.hid (own_below O1.out hb)
  have Q0 := Lib.hid (below_on Q0.out hb)
  have D4b := Lib.hid (D4b.out.kept hb)
  have D5b := Lib.hid (D5b.out.kept hb)
  have A6 := Lib.hid (A6.out.on hb)
  clear hA hb LX HZ HR SZ SR PZ PR B1 B4 B5
  go_upto_region 10 with (fail)
  obtain ⟨q0, q1, q2, q3, q4, q5, q6⟩ := D4b.out.facts
  obtain ⟨r0, r1, r2, r3, r4, r5, r6⟩ := D5b.out.facts
  go_wp2_with fail
  refine (SQ.out _ _ _ _ _ A6.out A7.out).mono ?_
  rintro e w8 ⟨rfl, hb⟩
  clear q0 q1 q2 q3 q4 q5 q6 r0 r1 r2 r3 r4 r5 r6
  have PX := Lib.hid (PX.out.kept hb)
  have X1 := Lib.hid (X1.out.kept hb)
  have O1 := Lib.hid (own_below O1.out hb)
  have Q0 := Lib.hid (below_on Q0.out hb)
  clear hb
  obtain ⟨z0, z1, _, _⟩ := PX.out.facts
  obtain ⟨y0, y1, _, _⟩ := X1.out.facts
  go_wp2_with fail
  refine (KP.out _ _ O1.out Q0.out).mono ?_
  rintro e w9 ⟨rfl, hb⟩
  clear z0 z1
  clear y0 y1
  have Q0 := Lib.hid (below_on Q0.out hb)
  clear hb
  go_wp2_with fail
  refine (SH.out _).mono ?_
  rintro e w99 ⟨rfl, hb⟩
  have Q0 := Lib.hid (below_on Q0.out hb)
  clear hb
  go_wp2_with fail
  go_ret
  exact ⟨rfl, Q0.out⟩

theorem points_any (N : Int) (l : List Int) (ao : Option Addr) (cap : Nat) (ps : List Pq) (po : Option Addr) (pc : Nat) (w : World) (hA : Arg w ao l) (hn : ao = none → l = [] ∧ cap = 0) (hP : Arg2 w po ps) (hI : Fits ps) (hm : po = none → ps = [] ∧ pc = 0) :
    Calls Tryz.prog 3 #[.agg #[.int .i64 N, .slice ao l.length cap], .slice po ps.length pc] w (Made (.bool true) w) := by
  by_cases h0 : 200 < l.length
  · exact points_long1 N ao l.length cap po ps.length pc w h0
  by_cases h1 : 50 < ps.length
  · exact points_long2 N ao l.length cap po ps.length pc w h0 h1
  have hp := fun e => (hm e).2
  exact points_walk N l l.length ao cap po ps.length pc w h0 h1 (stR N l ps).1 (st_ok N l ps) (hsR N l ps) (rdE N l ps) (stR N l ps).2 (pnE N l) (if pnE N l = 0 then pnL N l else [])
    (Lib.hid fun W h => lent_gen N l ao cap W (by omega) (hA.on h) hn)
    (Lib.hid fun W g hO h => zhas_gen N l (some ⟨g, 0, none⟩) (l.length + 1) ps po pc W (own_front' hO) (hP.on h) hI hp)
    (Lib.hid fun W h => has_gen N l ao cap ps po pc W (hA.on h) (hP.on h) hI)
    (Lib.hid fun W g hO h => zstay_gen N l (some ⟨g, 0, none⟩) (l.length + 1) ps po pc W (own_front' hO) (hP.on h) hI hp)
    (Lib.hid fun W h => rstay_gen N l ao cap ps po pc W (hA.on h) (hP.on h) hI)
    (Lib.hid fun W g hO h => (zpoint_gen N l (some ⟨g, 0, none⟩) (l.length + 1) W (own_front' hO)).mono fun e w' h => h.one)
    (Lib.hid fun W h => (rpoint_same N l ao cap W (hA.on h)).mono fun e w' h => h.one)
    (Lib.hid fun W a b c d hA hB => by have := srat_any _ _ a b c d W hA hB (pn_len N l); rwa [decide_eq_true rfl] at this)
    (Lib.hid fun W g hO h => kept_yes N N l l g ao cap W hO (hA.on h) (by omega) (by simp [smB]))
end Go.Proofs.YtbnebinpemejlaaGreat
