/- ZoneAnds: the arguments that are too long, and those of which nothing is asked. -/
import Derived.Test.YtbnebinpemejlaaHm1
import Derived.Test.YtbnebinpemejlaaHc7
import Derived.Test.YtbnebinpemejlaaHc10
import Derived.Test.YtbnebinpemejlaaHm3

namespace Go.Proofs.Ytbnebinpemejlaa
open Go.RowKit

set_option maxRecDepth 100000 in
set_option maxHeartbeats 1000000 in
theorem ands_long1 (N : Int) (ao : Option Addr) (len cap : Nat) (i j c : Int) (dao : Option Addr) (dl dc : Nat) (po : Option Addr) (pl pc : Nat) (w : World) (h : 200 < len) :
    Calls Try.prog 7 #[.agg #[.int .i64 N, .slice ao len cap, .int .i64 i, .int .i64 j, .int .i64 c, .slice dao dl dc], .slice po pl pc] w (Made (.bool true) w) := by
  have SH := Lib.hid (fun W => shown3_any W)
  have Q0 := Lib.hid (one_more (w1 := w) (.cells #[.int .i64 N, .slice ao len cap, .int .i64 i, .int .i64 j, .int .i64 c, .slice dao dl dc] 37))
  have D0 : decide ((200 : Int) < (len : Int)) = true := by simp; omega
  go_enter Try.func7, Try.ntmps7
  go_wp2_with fail
  refine (SH.out _).mono ?_
  rintro e w8 ⟨rfl, hb8⟩
  have B8 := Lib.hid (below_on Q0.out hb8)
  clear hb8
  go_wp2_with fail
  go_ret
  exact ⟨rfl, B8.out⟩

set_option maxRecDepth 100000 in
set_option maxHeartbeats 1000000 in
theorem ands_long2 (N : Int) (ao : Option Addr) (len cap : Nat) (i j c : Int) (dao : Option Addr) (dl dc : Nat) (po : Option Addr) (pl pc : Nat) (w : World) (h0 : ¬ 200 < len) (h : 100 < dl) :
    Calls Try.prog 7 #[.agg #[.int .i64 N, .slice ao len cap, .int .i64 i, .int .i64 j, .int .i64 c, .slice dao dl dc], .slice po pl pc] w (Made (.bool true) w) := by
  have SH := Lib.hid (fun W => shown3_any W)
  have Q0 := Lib.hid (one_more (w1 := w) (.cells #[.int .i64 N, .slice ao len cap, .int .i64 i, .int .i64 j, .int .i64 c, .slice dao dl dc] 37))
  have D0 : decide ((200 : Int) < (len : Int)) = false := by simp; omega
  have D1 : decide ((100 : Int) < (dl : Int)) = true := by simp; omega
  go_enter Try.func7, Try.ntmps7
  go_wp2_with fail
  refine (SH.out _).mono ?_
  rintro e w8 ⟨rfl, hb8⟩
  have B8 := Lib.hid (below_on Q0.out hb8)
  clear hb8
  go_wp2_with fail
  go_ret
  exact ⟨rfl, B8.out⟩

set_option maxRecDepth 100000 in
set_option maxHeartbeats 1000000 in
theorem ands_long3 (N : Int) (ao : Option Addr) (len cap : Nat) (i j c : Int) (dao : Option Addr) (dl dc : Nat) (po : Option Addr) (pl pc : Nat) (w : World) (h0 : ¬ 200 < len) (h1 : ¬ 100 < dl) (h : 50 < pl) :
    Calls Try.prog 7 #[.agg #[.int .i64 N, .slice ao len cap, .int .i64 i, .int .i64 j, .int .i64 c, .slice dao dl dc], .slice po pl pc] w (Made (.bool true) w) := by
  have SH := Lib.hid (fun W => shown3_any W)
  have Q0 := Lib.hid (one_more (w1 := w) (.cells #[.int .i64 N, .slice ao len cap, .int .i64 i, .int .i64 j, .int .i64 c, .slice dao dl dc] 37))
  have D0 : decide ((200 : Int) < (len : Int)) = false := by simp; omega
  have D1 : decide ((100 : Int) < (dl : Int)) = false := by simp; omega
  have D2 : decide ((50 : Int) < (pl : Int)) = true := by simp; omega
  go_enter Try.func7, Try.ntmps7
  go_wp2_with fail
  refine (SH.out _).mono ?_
  rintro e w8 ⟨rfl, hb8⟩
  have B8 := Lib.hid (below_on Q0.out hb8)
  clear hb8
  go_wp2_with fail
  go_ret
  exact ⟨rfl, B8.out⟩

set_option maxRecDepth 100000 in
set_option maxHeartbeats 2000000 in
theorem ands_skip1 (N : Int) (l : List Int) (ao : Option Addr) (cap : Nat) (i j c : Int) (cs : List Con) (dao : Option Addr) (dc : Nat) (ps : List Pq) (po : Option Addr) (pc : Nat) (w : World) (hA : Arg w ao l) (h1 : l.length ≤ 200) (hD : Arg3 w dao cs) (h2 : cs.length ≤ 100) (hP : Arg2 w po ps) (hI : Fits ps) (hN : po = none → pc = 0) (h3 : ps.length ≤ 50) (h0 : anG N cs l ≠ 0) (h4 : anG N cs l ≠ 4) :
    Calls Try.prog 7 #[.agg #[.int .i64 N, .slice ao l.length cap, .int .i64 i, .int .i64 j, .int .i64 c, .slice dao cs.length dc], .slice po ps.length pc] w (Made (.bool true) w) := by
  have SH := Lib.hid (fun W => shown3_any W)
  have AZ := Lib.hid (fun W (hb : Below w.heap.size w W) => (zan_gen N l ao cap cs dao dc W (hA.on hb) (hD.on hb) (by omega)).mono fun e w' h => h.zv2)
  have HZ := Lib.hid (fun W (hb : Below w.heap.size w W) => zhas_gen N l ao cap ps po pc W (hA.on hb) (hP.on hb) hI hN)
  have PF := Lib.hid (show ∀ W, Bx W w.heap.size #[.int .i64 N, .slice ao l.length cap, .int .i64 i, .int .i64 j, .int .i64 c, .slice dao cs.length dc] → (W.cell? ⟨w.heap.size, 0, none⟩ = some (.int .i64 N) ∧ W.cell? ⟨w.heap.size, 1, none⟩ = some (.slice ao l.length cap) ∧ W.cell? ⟨w.heap.size, 2, none⟩ = some (.int .i64 i) ∧ W.cell? ⟨w.heap.size, 3, none⟩ = some (.int .i64 j) ∧ W.cell? ⟨w.heap.size, 4, none⟩ = some (.int .i64 c) ∧ W.cell? ⟨w.heap.size, 5, none⟩ = some (.slice dao cs.length dc)) from fun W h => ⟨h.cell 0, h.cell 1, h.cell 2, h.cell 3, h.cell 4, h.cell 5⟩)
  have D0 : decide ((200 : Int) < (l.length : Int)) = false := by simp; omega
  have D1 : decide ((100 : Int) < (cs.length : Int)) = false := by simp; omega
  have D2 : decide ((50 : Int) < (ps.length : Int)) = false := by simp; omega
  generalize zrN (anG N cs l) N = M1 at *
  generalize zrL (anG N cs l) (Zo.clo N.toNat (anL N.toNat cs l)) = m1 at *
  generalize hsR N l ps = hs at *
  unfold ZV2 at AZ
  generalize anG N cs l = er at *
  generalize rdE N l ps = fe at *
  have F0 : (er == 0) = false := by simp; omega
  have F4 : (er == 4) = false := by simp; omega
  clear hA hN hD h1 h2 h3 hP hI
  obtain ⟨w0, hw0⟩ : ∃ w0, w0 = w.alloc (.cells #[.int .i64 N, .slice ao l.length cap, .int .i64 i, .int .i64 j, .int .i64 c, .slice dao cs.length dc] 37) := ⟨_, rfl⟩
  have PX := Lib.hid (show Bx w0 w.heap.size #[.int .i64 N, .slice ao l.length cap, .int .i64 i, .int .i64 j, .int .i64 c, .slice dao cs.length dc] by rw [hw0]; exact Bx.made _ _ _)
  have Q0 := Lib.hid (show Below w.heap.size w w0 by rw [hw0]; exact one_more _)
  have Z0 := Lib.hid (show w0.heap.size = w.heap.size + 1 by rw [hw0]; simp)
  go_enter Try.func7, Try.ntmps7
  go_upto_region 1 with (fail)
  rw [← hw0]
  clear hw0
  obtain ⟨p0, p1, p2, p3, p4, p5⟩ := PF.out _ PX.out
  go_wp2_with fail
  refine (AZ.out _ Q0.out).mono ?_
  rintro e w1 ⟨ao1, ck1, rfl, hA, hm, _, hb⟩
  have L1 := Lib.hid hm
  obtain ⟨v1, hv⟩ : ∃ v1, v1 = w1.alloc (.cells #[.int .i64 M1, .slice ao1 m1.length ck1] 25) := ⟨_, rfl⟩
  have X1 := Lib.hid (show Two v1 w1.heap.size (.int .i64 M1) (.slice ao1 m1.length ck1) by rw [hv]; exact Two.made _ _ _ _)
  have A1 := Lib.hid (show Arg v1 ao1 m1 by rw [hv]; exact hA.on (one_more _))
  have B1 := Lib.hid (show Below w0.heap.size w0 v1 by rw [hv]; exact hb.alloc hb.size _)
  have Y1 := Lib.hid (show w0.heap.size ≤ w1.heap.size ∧ v1.heap.size = w1.heap.size + 1 by rw [hv]; exact ⟨hb.size, by simp⟩)
  clear hA hm hb
  go_upto_region 4 with (fail)
  rw [← hv]
  clear hv
  clear p0 p1 p2 p3 p4 p5
  have PX := Lib.hid (PX.out.kept B1.out)
  have Q0 := Lib.hid (below_on Q0.out B1.out)
  obtain ⟨p0, p1, p2, p3, p4, p5⟩ := PF.out _ PX.out
  go_wp2_with fail
  refine (HZ.out _ Q0.out).mono ?_
  rintro e v2 ⟨rfl, hb⟩
  have PX := Lib.hid (PX.out.kept hb)
  have X1 := Lib.hid (X1.out.kept hb)
  have A1 := Lib.hid (A1.out.on hb)
  have Q0 := Lib.hid (below_on Q0.out hb)
  clear hb p0 p1 p2 p3 p4 p5 HZ AZ B1
  obtain ⟨p0, p1, p2, p3, p4, p5⟩ := PF.out _ PX.out
  go_wp2_with fail
  refine (SH.out _).mono ?_
  rintro e w99 ⟨rfl, hb⟩
  have Q0 := Lib.hid (below_on Q0.out hb)
  clear hb
  go_wp2_with fail
  go_ret
  exact ⟨rfl, Q0.out⟩

set_option maxRecDepth 100000 in
set_option maxHeartbeats 2000000 in
theorem ands_skip2 (N : Int) (l : List Int) (ao : Option Addr) (cap : Nat) (i j c : Int) (cs : List Con) (dao : Option Addr) (dc : Nat) (ps : List Pq) (po : Option Addr) (pc : Nat) (w : World) (hA : Arg w ao l) (h1 : l.length ≤ 200) (hD : Arg3 w dao cs) (h2 : cs.length ≤ 100) (hP : Arg2 w po ps) (hI : Fits ps) (hN : po = none → pc = 0) (h3 : ps.length ≤ 50) (h0 : anG N cs l = 0) (hf : rdE N l ps ≠ 0) :
    Calls Try.prog 7 #[.agg #[.int .i64 N, .slice ao l.length cap, .int .i64 i, .int .i64 j, .int .i64 c, .slice dao cs.length dc], .slice po ps.length pc] w (Made (.bool true) w) := by
  have SH := Lib.hid (fun W => shown3_any W)
  have AZ := Lib.hid (fun W (hb : Below w.heap.size w W) => (zan_gen N l ao cap cs dao dc W (hA.on hb) (hD.on hb) (by omega)).mono fun e w' h => h.zv2)
  have HZ := Lib.hid (fun W (hb : Below w.heap.size w W) => zhas_gen N l ao cap ps po pc W (hA.on hb) (hP.on hb) hI hN)
  have PF := Lib.hid (show ∀ W, Bx W w.heap.size #[.int .i64 N, .slice ao l.length cap, .int .i64 i, .int .i64 j, .int .i64 c, .slice dao cs.length dc] → (W.cell? ⟨w.heap.size, 0, none⟩ = some (.int .i64 N) ∧ W.cell? ⟨w.heap.size, 1, none⟩ = some (.slice ao l.length cap) ∧ W.cell? ⟨w.heap.size, 2, none⟩ = some (.int .i64 i) ∧ W.cell? ⟨w.heap.size, 3, none⟩ = some (.int .i64 j) ∧ W.cell? ⟨w.heap.size, 4, none⟩ = some (.int .i64 c) ∧ W.cell? ⟨w.heap.size, 5, none⟩ = some (.slice dao cs.length dc)) from fun W h => ⟨h.cell 0, h.cell 1, h.cell 2, h.cell 3, h.cell 4, h.cell 5⟩)
  have D0 : decide ((200 : Int) < (l.length : Int)) = false := by simp; omega
  have D1 : decide ((100 : Int) < (cs.length : Int)) = false := by simp; omega
  have D2 : decide ((50 : Int) < (ps.length : Int)) = false := by simp; omega
  generalize zrN (anG N cs l) N = M1 at *
  generalize zrL (anG N cs l) (Zo.clo N.toNat (anL N.toNat cs l)) = m1 at *
  generalize hsR N l ps = hs at *
  unfold ZV2 at AZ
  rw [h0] at AZ
  generalize rdE N l ps = fe at *
  have F2 : (fe == 0) = false := by simp; omega
  clear hA hN hD h1 h2 h3 hP hI
  obtain ⟨w0, hw0⟩ : ∃ w0, w0 = w.alloc (.cells #[.int .i64 N, .slice ao l.length cap, .int .i64 i, .int .i64 j, .int .i64 c, .slice dao cs.length dc] 37) := ⟨_, rfl⟩
  have PX := Lib.hid (show Bx w0 w.heap.size #[.int .i64 N, .slice ao l.length cap, .int .i64 i, .int .i64 j, .int .i64 c, .slice dao cs.length dc] by rw [hw0]; exact Bx.made _ _ _)
  have Q0 := Lib.hid (show Below w.heap.size w w0 by rw [hw0]; exact one_more _)
  have Z0 := Lib.hid (show w0.heap.size = w.heap.size + 1 by rw [hw0]; simp)
  go_enter Try.func7, Try.ntmps7
  go_upto_region 1 with (fail)
  rw [← hw0]
  clear hw0
  obtain ⟨p0, p1, p2, p3, p4, p5⟩ := PF.out _ PX.out
  go_wp2_with fail
  refine (AZ.out _ Q0.out).mono ?_
  rintro e w1 ⟨ao1, ck1, rfl, hA, hm, _, hb⟩
  have L1 := Lib.hid hm
  obtain ⟨v1, hv⟩ : ∃ v1, v1 = w1.alloc (.cells #[.int .i64 M1, .slice ao1 m1.length ck1] 25) := ⟨_, rfl⟩
  have X1 := Lib.hid (show Two v1 w1.heap.size (.int .i64 M1) (.slice ao1 m1.length ck1) by rw [hv]; exact Two.made _ _ _ _)
  have A1 := Lib.hid (show Arg v1 ao1 m1 by rw [hv]; exact hA.on (one_more _))
  have B1 := Lib.hid (show Below w0.heap.size w0 v1 by rw [hv]; exact hb.alloc hb.size _)
  have Y1 := Lib.hid (show w0.heap.size ≤ w1.heap.size ∧ v1.heap.size = w1.heap.size + 1 by rw [hv]; exact ⟨hb.size, by simp⟩)
  clear hA hm hb
  go_upto_region 4 with (fail)
  rw [← hv]
  clear hv
  clear p0 p1 p2 p3 p4 p5
  have PX := Lib.hid (PX.out.kept B1.out)
  have Q0 := Lib.hid (below_on Q0.out B1.out)
  obtain ⟨p0, p1, p2, p3, p4, p5⟩ := PF.out _ PX.out
  go_wp2_with fail
  refine (HZ.out _ Q0.out).mono ?_
  rintro e v2 ⟨rfl, hb⟩
  have PX := Lib.hid (PX.out.kept hb)
  have X1 := Lib.hid (X1.out.kept hb)
  have A1 := Lib.hid (A1.out.on hb)
  have Q0 := Lib.hid (below_on Q0.out hb)
  clear hb p0 p1 p2 p3 p4 p5 HZ AZ B1
  obtain ⟨p0, p1, p2, p3, p4, p5⟩ := PF.out _ PX.out
  go_wp2_with fail
  refine (SH.out _).mono ?_
  rintro e w99 ⟨rfl, hb⟩
  have Q0 := Lib.hid (below_on Q0.out hb)
  clear hb
  go_wp2_with fail
  go_ret
  exact ⟨rfl, Q0.out⟩

set_option maxRecDepth 100000 in
set_option maxHeartbeats 2000000 in
theorem ands_skip3 (N : Int) (l : List Int) (ao : Option Addr) (cap : Nat) (i j c : Int) (cs : List Con) (dao : Option Addr) (dc : Nat) (ps : List Pq) (po : Option Addr) (pc : Nat) (w : World) (hA : Arg w ao l) (h1 : l.length ≤ 200) (hD : Arg3 w dao cs) (h2 : cs.length ≤ 100) (hP : Arg2 w po ps) (hI : Fits ps) (hN : po = none → pc = 0) (h3 : ps.length ≤ 50) (h0 : anG N cs l = 4) (hf : rdE N l ps ≠ 0) :
    Calls Try.prog 7 #[.agg #[.int .i64 N, .slice ao l.length cap, .int .i64 i, .int .i64 j, .int .i64 c, .slice dao cs.length dc], .slice po ps.length pc] w (Made (.bool true) w) := by
  have SH := Lib.hid (fun W => shown3_any W)
  have AZ := Lib.hid (fun W (hb : Below w.heap.size w W) => (zan_gen N l ao cap cs dao dc W (hA.on hb) (hD.on hb) (by omega)).mono fun e w' h => h.zv2)
  have HZ := Lib.hid (fun W (hb : Below w.heap.size w W) => zhas_gen N l ao cap ps po pc W (hA.on hb) (hP.on hb) hI hN)
  have PF := Lib.hid (show ∀ W, Bx W w.heap.size #[.int .i64 N, .slice ao l.length cap, .int .i64 i, .int .i64 j, .int .i64 c, .slice dao cs.length dc] → (W.cell? ⟨w.heap.size, 0, none⟩ = some (.int .i64 N) ∧ W.cell? ⟨w.heap.size, 1, none⟩ = some (.slice ao l.length cap) ∧ W.cell? ⟨w.heap.size, 2, none⟩ = some (.int .i64 i) ∧ W.cell? ⟨w.heap.size, 3, none⟩ = some (.int .i64 j) ∧ W.cell? ⟨w.heap.size, 4, none⟩ = some (.int .i64 c) ∧ W.cell? ⟨w.heap.size, 5, none⟩ = some (.slice dao cs.length dc)) from fun W h => ⟨h.cell 0, h.cell 1, h.cell 2, h.cell 3, h.cell 4, h.cell 5⟩)
  have D0 : decide ((200 : Int) < (l.length : Int)) = false := by simp; omega
  have D1 : decide ((100 : Int) < (cs.length : Int)) = false := by simp; omega
  have D2 : decide ((50 : Int) < (ps.length : Int)) = false := by simp; omega
  generalize zrN (anG N cs l) N = M1 at *
  generalize zrL (anG N cs l) (Zo.clo N.toNat (anL N.toNat cs l)) = m1 at *
  generalize hsR N l ps = hs at *
  unfold ZV2 at AZ
  rw [h0] at AZ
  generalize rdE N l ps = fe at *
  have F2 : (fe == 0) = false := by simp; omega
  clear hA hN hD h1 h2 h3 hP hI
  obtain ⟨w0, hw0⟩ : ∃ w0, w0 = w.alloc (.cells #[.int .i64 N, .slice ao l.length cap, .int .i64 i, .int .i64 j, .int .i64 c, .slice dao cs.length dc] 37) := ⟨_, rfl⟩
  have PX := Lib.hid (show Bx w0 w.heap.size #[.int .i64 N, .slice ao l.length cap, .int .i64 i, .int .i64 j, .int .i64 c, .slice dao cs.length dc] by rw [hw0]; exact Bx.made _ _ _)
  have Q0 := Lib.hid (show Below w.heap.size w w0 by rw [hw0]; exact one_more _)
  have Z0 := Lib.hid (show w0.heap.size = w.heap.size + 1 by rw [hw0]; simp)
  go_enter Try.func7, Try.ntmps7
  go_upto_region 1 with (fail)
  rw [← hw0]
  clear hw0
  obtain ⟨p0, p1, p2, p3, p4, p5⟩ := PF.out _ PX.out
  go_wp2_with fail
  refine (AZ.out _ Q0.out).mono ?_
  rintro e w1 ⟨ao1, ck1, rfl, hA, hm, _, hb⟩
  have L1 := Lib.hid hm
  obtain ⟨v1, hv⟩ : ∃ v1, v1 = w1.alloc (.cells #[.int .i64 M1, .slice ao1 m1.length ck1] 25) := ⟨_, rfl⟩
  have X1 := Lib.hid (show Two v1 w1.heap.size (.int .i64 M1) (.slice ao1 m1.length ck1) by rw [hv]; exact Two.made _ _ _ _)
  have A1 := Lib.hid (show Arg v1 ao1 m1 by rw [hv]; exact hA.on (one_more _))
  have B1 := Lib.hid (show Below w0.heap.size w0 v1 by rw [hv]; exact hb.alloc hb.size _)
  have Y1 := Lib.hid (show w0.heap.size ≤ w1.heap.size ∧ v1.heap.size = w1.heap.size + 1 by rw [hv]; exact ⟨hb.size, by simp⟩)
  clear hA hm hb
  go_upto_region 4 with (fail)
  rw [← hv]
  clear hv
  clear p0 p1 p2 p3 p4 p5
  have PX := Lib.hid (PX.out.kept B1.out)
  have Q0 := Lib.hid (below_on Q0.out B1.out)
  obtain ⟨p0, p1, p2, p3, p4, p5⟩ := PF.out _ PX.out
  go_wp2_with fail
  refine (HZ.out _ Q0.out).mono ?_
  rintro e v2 ⟨rfl, hb⟩
  have PX := Lib.hid (PX.out.kept hb)
  have X1 := Lib.hid (X1.out.kept hb)
  have A1 := Lib.hid (A1.out.on hb)
  have Q0 := Lib.hid (below_on Q0.out hb)
  clear hb p0 p1 p2 p3 p4 p5 HZ AZ B1
  obtain ⟨p0, p1, p2, p3, p4, p5⟩ := PF.out _ PX.out
  go_wp2_with fail
  refine (SH.out _).mono ?_
  rintro e w99 ⟨rfl, hb⟩
  have Q0 := Lib.hid (below_on Q0.out hb)
  clear hb
  go_wp2_with fail
  go_ret
  exact ⟨rfl, Q0.out⟩
end Go.Proofs.Ytbnebinpemejlaa
