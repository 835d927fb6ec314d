/- ZoneMembers: the walks.; ZoneMembers: the walks.; ZoneMembers: the walks.; Contracts of layer 3's Copy.; The change of layer 3's Before.; Plain mathematics: what Before makes. -/
import Derived.Test.YtbnebinpemejlaaHm1
import Derived.Test.YtbnebinpemejlaaHc8

namespace Go.Proofs.Ytbnebinpemejlaa
open Go.RowKit

set_option maxRecDepth 100000 in
set_option maxHeartbeats 1000000 in
theorem members_long1 (N M : Int) (ao bo : Option Addr) (len cap mlen cb : Nat) (i j c : Int) (dao : Option Addr) (dl dc : Nat) (po : Option Addr) (pl pc : Nat) (w : World)  (h0 : 200 < len) :
    Calls Try.prog 6 #[.agg #[.int .i64 N, .slice ao len cap, .int .i64 i, .int .i64 j, .int .i64 c, .slice dao dl dc], .agg #[.int .i64 M, .slice bo mlen cb], .slice po pl pc] w (Made (.bool true) w) := by
  have SH := Lib.hid (fun W => shown3_any W)
  have Q0 := Lib.hid (show Below w.heap.size w ((w.alloc (.cells #[.int .i64 N, .slice ao len cap, .int .i64 i, .int .i64 j, .int .i64 c, .slice dao dl dc] 37)).alloc (.cells #[.int .i64 M, .slice bo mlen cb] 25)) from past_two (Below.refl _ _))
  have D0 : decide ((200 : Int) < (len : Int)) = true := by simp; omega
  go_enter Try.func6, Try.ntmps6
  go_wp2_with fail
  refine (SH.out _).mono ?_
  rintro e w99 ⟨rfl, hb⟩
  have Q0 := Lib.hid (below_on Q0.out hb)
  clear hb
  go_wp2_with fail
  go_ret
  exact ⟨rfl, Q0.out⟩

set_option maxRecDepth 100000 in
set_option maxHeartbeats 1000000 in
theorem members_long2 (N M : Int) (ao bo : Option Addr) (len cap mlen cb : Nat) (i j c : Int) (dao : Option Addr) (dl dc : Nat) (po : Option Addr) (pl pc : Nat) (w : World) (h0 : ¬ 200 < len) (h1 : 200 < mlen) :
    Calls Try.prog 6 #[.agg #[.int .i64 N, .slice ao len cap, .int .i64 i, .int .i64 j, .int .i64 c, .slice dao dl dc], .agg #[.int .i64 M, .slice bo mlen cb], .slice po pl pc] w (Made (.bool true) w) := by
  have SH := Lib.hid (fun W => shown3_any W)
  have Q0 := Lib.hid (show Below w.heap.size w ((w.alloc (.cells #[.int .i64 N, .slice ao len cap, .int .i64 i, .int .i64 j, .int .i64 c, .slice dao dl dc] 37)).alloc (.cells #[.int .i64 M, .slice bo mlen cb] 25)) from past_two (Below.refl _ _))
  have D0 : decide ((200 : Int) < (len : Int)) = false := by simp; omega
  have D1 : decide ((200 : Int) < (mlen : Int)) = true := by simp; omega
  go_enter Try.func6, Try.ntmps6
  go_wp2_with fail
  refine (SH.out _).mono ?_
  rintro e w99 ⟨rfl, hb⟩
  have Q0 := Lib.hid (below_on Q0.out hb)
  clear hb
  go_wp2_with fail
  go_ret
  exact ⟨rfl, Q0.out⟩

set_option maxRecDepth 100000 in
set_option maxHeartbeats 1000000 in
theorem members_long3 (N M : Int) (ao bo : Option Addr) (len cap mlen cb : Nat) (i j c : Int) (dao : Option Addr) (dl dc : Nat) (po : Option Addr) (pl pc : Nat) (w : World) (h0 : ¬ 200 < len) (h1 : ¬ 200 < mlen) (h2 : 100 < dl) :
    Calls Try.prog 6 #[.agg #[.int .i64 N, .slice ao len cap, .int .i64 i, .int .i64 j, .int .i64 c, .slice dao dl dc], .agg #[.int .i64 M, .slice bo mlen cb], .slice po pl pc] w (Made (.bool true) w) := by
  have SH := Lib.hid (fun W => shown3_any W)
  have Q0 := Lib.hid (show Below w.heap.size w ((w.alloc (.cells #[.int .i64 N, .slice ao len cap, .int .i64 i, .int .i64 j, .int .i64 c, .slice dao dl dc] 37)).alloc (.cells #[.int .i64 M, .slice bo mlen cb] 25)) from past_two (Below.refl _ _))
  have D0 : decide ((200 : Int) < (len : Int)) = false := by simp; omega
  have D1 : decide ((200 : Int) < (mlen : Int)) = false := by simp; omega
  have D2 : decide ((100 : Int) < (dl : Int)) = true := by simp; omega
  go_enter Try.func6, Try.ntmps6
  go_wp2_with fail
  refine (SH.out _).mono ?_
  rintro e w99 ⟨rfl, hb⟩
  have Q0 := Lib.hid (below_on Q0.out hb)
  clear hb
  go_wp2_with fail
  go_ret
  exact ⟨rfl, Q0.out⟩

set_option maxRecDepth 100000 in
set_option maxHeartbeats 1000000 in
theorem members_long4 (N M : Int) (ao bo : Option Addr) (len cap mlen cb : Nat) (i j c : Int) (dao : Option Addr) (dl dc : Nat) (po : Option Addr) (pl pc : Nat) (w : World) (h0 : ¬ 200 < len) (h1 : ¬ 200 < mlen) (h2 : ¬ 100 < dl) (h3 : 50 < pl) :
    Calls Try.prog 6 #[.agg #[.int .i64 N, .slice ao len cap, .int .i64 i, .int .i64 j, .int .i64 c, .slice dao dl dc], .agg #[.int .i64 M, .slice bo mlen cb], .slice po pl pc] w (Made (.bool true) w) := by
  have SH := Lib.hid (fun W => shown3_any W)
  have Q0 := Lib.hid (show Below w.heap.size w ((w.alloc (.cells #[.int .i64 N, .slice ao len cap, .int .i64 i, .int .i64 j, .int .i64 c, .slice dao dl dc] 37)).alloc (.cells #[.int .i64 M, .slice bo mlen cb] 25)) from past_two (Below.refl _ _))
  have D0 : decide ((200 : Int) < (len : Int)) = false := by simp; omega
  have D1 : decide ((200 : Int) < (mlen : Int)) = false := by simp; omega
  have D2 : decide ((100 : Int) < (dl : Int)) = false := by simp; omega
  have D3 : decide ((50 : Int) < (pl : Int)) = true := by simp; omega
  go_enter Try.func6, Try.ntmps6
  go_wp2_with fail
  refine (SH.out _).mono ?_
  rintro e w99 ⟨rfl, hb⟩
  have Q0 := Lib.hid (below_on Q0.out hb)
  clear hb
  go_wp2_with fail
  go_ret
  exact ⟨rfl, Q0.out⟩

set_option maxRecDepth 100000 in
set_option maxHeartbeats 2000000 in
theorem members_bad (fe : Int) (hfe : fe ≠ 0) (N M : Int) (ao bo : Option Addr) (len cap mlen cb : Nat) (i j c : Int) (dao : Option Addr) (dl dc : Nat) (po : Option Addr) (pl pc : Nat) (w : World) (h0 : ¬ 200 < len) (h1 : ¬ 200 < mlen) (h2 : ¬ 100 < dl) (h3 : ¬ 50 < pl) (HZ : Hid (∀ W, Below w.heap.size w W → Calls Try.prog 46 #[.agg #[.int .i64 N, .slice ao len cap], .slice po pl pc] W (Made (.tuple #[.bool false, .int .i64 fe]) W))) :
    Calls Try.prog 6 #[.agg #[.int .i64 N, .slice ao len cap, .int .i64 i, .int .i64 j, .int .i64 c, .slice dao dl dc], .agg #[.int .i64 M, .slice bo mlen cb], .slice po pl pc] w (Made (.bool true) w) := by
  have F2 : (fe == 0) = false := by simp; omega
  have F3 : (fe != 0) = true := by simp; omega
  have SH := Lib.hid (fun W => shown3_any W)
  have D0 : decide ((200 : Int) < (len : Int)) = false := by simp; omega
  have D1 : decide ((200 : Int) < (mlen : Int)) = false := by simp; omega
  have D2 : decide ((100 : Int) < (dl : Int)) = false := by simp; omega
  have D3 : decide ((50 : Int) < (pl : Int)) = false := by simp; omega
  clear h0 h1 h2 h3
  have PF := Lib.hid (show ∀ W, Bx W w.heap.size #[.int .i64 N, .slice ao len cap, .int .i64 i, .int .i64 j, .int .i64 c, .slice dao dl dc] → (W.cell? ⟨w.heap.size, 0, none⟩ = some (.int .i64 N) ∧ W.cell? ⟨w.heap.size, 1, none⟩ = some (.slice ao len cap) ∧ W.cell? ⟨w.heap.size, 2, none⟩ = some (.int .i64 i) ∧ W.cell? ⟨w.heap.size, 3, none⟩ = some (.int .i64 j) ∧ W.cell? ⟨w.heap.size, 4, none⟩ = some (.int .i64 c) ∧ W.cell? ⟨w.heap.size, 5, none⟩ = some (.slice dao dl dc)) from fun W h => ⟨h.cell 0, h.cell 1, h.cell 2, h.cell 3, h.cell 4, h.cell 5⟩)
  obtain ⟨w0, hw0⟩ : ∃ w0, w0 = ((w.alloc (.cells #[.int .i64 N, .slice ao len cap, .int .i64 i, .int .i64 j, .int .i64 c, .slice dao dl dc] 37)).alloc (.cells #[.int .i64 M, .slice bo mlen cb] 25)) := ⟨_, rfl⟩
  have PX := Lib.hid (show Bx w0 w.heap.size #[.int .i64 N, .slice ao len cap, .int .i64 i, .int .i64 j, .int .i64 c, .slice dao dl dc] by rw [hw0]; exact (Bx.made _ _ _).kept (one_more _))
  have PY := Lib.hid (show Two w0 (w.heap.size + 1) (.int .i64 M) (.slice bo mlen cb) by
    rw [hw0]
    have := Two.made (w.alloc (.cells #[.int .i64 N, .slice ao len cap, .int .i64 i, .int .i64 j, .int .i64 c, .slice dao dl dc] 37)) (.int .i64 M) (.slice bo mlen cb) 25
    simpa using this)
  have Q0 := Lib.hid (show Below w.heap.size w w0 by rw [hw0]; exact past_two (Below.refl _ _))
  go_enter Try.func6, Try.ntmps6
  go_upto_region 1 with (fail)
  rw [← hw0]
  clear hw0
  obtain ⟨p0, p1, p2, p3, p4, p5⟩ := PF.out _ PX.out
  obtain ⟨q0, q1, _, _⟩ := PY.out.facts
  go_wp2_with fail
  refine (HZ.out _ Q0.out).mono ?_
  rintro e v1 ⟨rfl, hb⟩
  clear p0 p1 p2 p3 p4 p5 q0 q1
  have PX := Lib.hid (PX.out.kept hb)
  have PY := Lib.hid (PY.out.kept hb)
  have Q0 := Lib.hid (below_on Q0.out hb)
  clear hb
  obtain ⟨p0, p1, p2, p3, p4, p5⟩ := PF.out _ PX.out
  go_wp2_with fail
  refine (SH.out _).mono ?_
  rintro e w99 ⟨rfl, hb⟩
  have Q0 := Lib.hid (below_on Q0.out hb)
  clear hb
  go_wp2_with fail
  go_ret
  exact ⟨rfl, Q0.out⟩

set_option maxRecDepth 100000 in
set_option maxHeartbeats 2000000 in
theorem members_Y (N M : Int) (ao bo : Option Addr) (len cap mlen cb : Nat) (i j c : Int) (dao : Option Addr) (dl dc : Nat) (po : Option Addr) (pl pc : Nat) (w : World) (h0 : ¬ 200 < len) (h1 : ¬ 200 < mlen) (h2 : ¬ 100 < dl) (h3 : ¬ 50 < pl) (pq : (pl : Int) = N) (gs : Bool) (HG : Hid (gs = (decide (1 ≤ i) && decide (i ≤ (pl : Int)) && decide (0 ≤ c) && decide (c ≤ 1000)))) (qs : List Pq) (mL : List Int) (hs : Bool) (me : Int) (ye : Int) (hye : ye ≠ 0) (hy : Bool) (HZ : Hid (∀ W, Below w.heap.size w W → Calls Try.prog 46 #[.agg #[.int .i64 N, .slice ao len cap], .slice po pl pc] W (Made (.tuple #[.bool hs, .int .i64 0]) W)))
    (SE : Hid (gs = true → ∀ W, Below w.heap.size w W → Calls Try.prog 47 #[.slice po pl pc, .int .i64 i, .agg #[.int .i64 c, .int .i64 1]] W (fun e w' => ∃ qo qc, e = .returned (.slice qo pl qc) ∧ Arg2 w' qo qs ∧ Below W.heap.size W w')))
    (MV : Hid (gs = true → ∀ W qo qc, Arg2 W qo qs → Below w.heap.size w W → Calls Try.prog 48 #[.agg #[.int .i64 N, .slice ao len cap, .int .i64 i, .int .i64 j, .int .i64 c, .slice dao dl dc], .slice po pl pc, .slice qo pl qc, .bool hs] W (Made (.bool true) W)))
    (ME : Hid (∀ W, Below w.heap.size w W → Calls Try.prog 42 #[.agg #[.int .i64 N, .slice ao len cap], .agg #[.int .i64 M, .slice bo mlen cb]] W (ZV2 W (zrN me N) (zrL me mL) me)))
    (HY : Hid (∀ W, Below w.heap.size w W → Calls Try.prog 46 #[.agg #[.int .i64 M, .slice bo mlen cb], .slice po pl pc] W (Made (.tuple #[.bool hy, .int .i64 ye]) W)))
     :
    Calls Try.prog 6 #[.agg #[.int .i64 N, .slice ao len cap, .int .i64 i, .int .i64 j, .int .i64 c, .slice dao dl dc], .agg #[.int .i64 M, .slice bo mlen cb], .slice po pl pc] w (Made (.bool true) w) := by
  have F2 : (ye == 0) = false := by simp; omega
  clear hye
  have DN : ((pl : Int) == N) = true := by simp; omega
  clear pq
  generalize zrN me N = M1 at *
  generalize zrL me mL = m1 at *
  unfold ZV2 at ME
  have SH := Lib.hid (fun W => shown3_any W)
  have D0 : decide ((200 : Int) < (len : Int)) = false := by simp; omega
  have D1 : decide ((200 : Int) < (mlen : Int)) = false := by simp; omega
  have D2 : decide ((100 : Int) < (dl : Int)) = false := by simp; omega
  have D3 : decide ((50 : Int) < (pl : Int)) = false := by simp; omega
  clear h0 h1 h2 h3
  have PF := Lib.hid (show ∀ W, Bx W w.heap.size #[.int .i64 N, .slice ao len cap, .int .i64 i, .int .i64 j, .int .i64 c, .slice dao dl dc] → (W.cell? ⟨w.heap.size, 0, none⟩ = some (.int .i64 N) ∧ W.cell? ⟨w.heap.size, 1, none⟩ = some (.slice ao len cap) ∧ W.cell? ⟨w.heap.size, 2, none⟩ = some (.int .i64 i) ∧ W.cell? ⟨w.heap.size, 3, none⟩ = some (.int .i64 j) ∧ W.cell? ⟨w.heap.size, 4, none⟩ = some (.int .i64 c) ∧ W.cell? ⟨w.heap.size, 5, none⟩ = some (.slice dao dl dc)) from fun W h => ⟨h.cell 0, h.cell 1, h.cell 2, h.cell 3, h.cell 4, h.cell 5⟩)
  obtain ⟨w0, hw0⟩ : ∃ w0, w0 = ((w.alloc (.cells #[.int .i64 N, .slice ao len cap, .int .i64 i, .int .i64 j, .int .i64 c, .slice dao dl dc] 37)).alloc (.cells #[.int .i64 M, .slice bo mlen cb] 25)) := ⟨_, rfl⟩
  have PX := Lib.hid (show Bx w0 w.heap.size #[.int .i64 N, .slice ao len cap, .int .i64 i, .int .i64 j, .int .i64 c, .slice dao dl dc] by rw [hw0]; exact (Bx.made _ _ _).kept (one_more _))
  have PY := Lib.hid (show Two w0 (w.heap.size + 1) (.int .i64 M) (.slice bo mlen cb) by
    rw [hw0]
    have := Two.made (w.alloc (.cells #[.int .i64 N, .slice ao len cap, .int .i64 i, .int .i64 j, .int .i64 c, .slice dao dl dc] 37)) (.int .i64 M) (.slice bo mlen cb) 25
    simpa using this)
  have Q0 := Lib.hid (show Below w.heap.size w w0 by rw [hw0]; exact past_two (Below.refl _ _))
  go_enter Try.func6, Try.ntmps6
  go_upto_region 1 with (fail)
  rw [← hw0]
  clear hw0
  obtain ⟨p0, p1, p2, p3, p4, p5⟩ := PF.out _ PX.out
  obtain ⟨q0, q1, _, _⟩ := PY.out.facts
  go_wp2_with fail
  refine (HZ.out _ Q0.out).mono ?_
  rintro e v1 ⟨rfl, hb⟩
  clear p0 p1 p2 p3 p4 p5 q0 q1
  have PX := Lib.hid (PX.out.kept hb)
  have PY := Lib.hid (PY.out.kept hb)
  have Q0 := Lib.hid (below_on Q0.out hb)
  clear hb
  obtain ⟨p0, p1, p2, p3, p4, p5⟩ := PF.out _ PX.out
  go_upto_region 6 with (fail)
  go_cut [83] (fun s wx => s = .bool gs ∧ wx = v1)
  case first =>
    by_cases g1 : 1 ≤ i
    · have G1 : decide ((1 : Int) ≤ i) = true := decide_eq_true g1
      by_cases g2 : i ≤ (pl : Int)
      · have G2 : decide (i ≤ (pl : Int)) = true := decide_eq_true g2
        by_cases g3 : 0 ≤ c
        · have G3 : decide ((0 : Int) ≤ c) = true := decide_eq_true g3
          by_cases g4 : c ≤ 1000
          · have G4 : decide (c ≤ 1000) = true := decide_eq_true g4
            have HB := Lib.hid (show gs = true by rw [HG.out, G1, G2, G3, G4]; rfl)
            clear g1 g2 g3 g4
            go_wp2_with fail
            go_meet
            case rel => exact ⟨by rw [HB.out], rfl⟩
          · have G4 : decide (c ≤ 1000) = false := decide_eq_false g4
            have HB := Lib.hid (show gs = false by rw [HG.out, G1, G2, G3, G4]; rfl)
            clear g1 g2 g3 g4
            go_wp2_with fail
            go_meet
            case rel => exact ⟨by rw [HB.out], rfl⟩
        · have G3 : decide ((0 : Int) ≤ c) = false := decide_eq_false g3
          have HB := Lib.hid (show gs = false by rw [HG.out, G1, G2, G3]; rfl)
          clear g1 g2 g3
          go_wp2_with fail
          go_meet
          case rel => exact ⟨by rw [HB.out], rfl⟩
      · have G2 : decide (i ≤ (pl : Int)) = false := decide_eq_false g2
        have HB := Lib.hid (show gs = false by rw [HG.out, G1, G2]; rfl)
        clear g1 g2
        go_wp2_with fail
        go_meet
        case rel => exact ⟨by rw [HB.out], rfl⟩
    · have G1 : decide ((1 : Int) ≤ i) = false := decide_eq_false g1
      have HB := Lib.hid (show gs = false by rw [HG.out, G1]; rfl)
      clear g1
      go_wp2_with fail
      go_meet
      case rel => exact ⟨by rw [HB.out], rfl⟩
  case rest =>
  obtain ⟨rfl, rfl⟩ := hcut
  clear HG p0 p1 p2 p3 p4 p5
  generalize wc = v1 at *
  go_upto_if 83 with (fail)
  go_cut [9] (fun _ wx => Hid (Bx wx w.heap.size #[.int .i64 N, .slice ao len cap, .int .i64 i, .int .i64 j, .int .i64 c, .slice dao dl dc] ∧ Two wx (w.heap.size + 1) (.int .i64 M) (.slice bo mlen cb) ∧ Below w.heap.size w wx))
  case first =>
    cases gs
    · go_wp2_with fail
      go_meet
      case rel => exact Lib.hid ⟨PX.out, PY.out, Q0.out⟩
    · obtain ⟨p0, p1, p2, p3, p4, p5⟩ := PF.out _ PX.out
      go_wp2_with fail
      refine (SE.out (by trivial) _ Q0.out).mono ?_
      rintro e v2 ⟨qo, qc, rfl, hQ, hb⟩
      have HQ := Lib.hid hQ
      have PX := Lib.hid (PX.out.kept hb)
      have PY := Lib.hid (PY.out.kept hb)
      have Q0 := Lib.hid (below_on Q0.out hb)
      clear hb hQ p0 p1 p2 p3 p4 p5
      obtain ⟨p0, p1, p2, p3, p4, p5⟩ := PF.out _ PX.out
      go_wp2_with fail
      refine (MV.out (by trivial) _ _ _ HQ.out Q0.out).mono ?_
      rintro e v3 ⟨rfl, hb⟩
      have PX := Lib.hid (PX.out.kept hb)
      have PY := Lib.hid (PY.out.kept hb)
      have Q0 := Lib.hid (below_on Q0.out hb)
      clear hb p0 p1 p2 p3 p4 p5
      go_wp2_with fail
      go_meet
      case rel => exact Lib.hid ⟨PX.out, PY.out, Q0.out⟩
  case rest =>
  have PX := Lib.hid hcut.out.1
  have PY := Lib.hid hcut.out.2.1
  have Q0 := Lib.hid hcut.out.2.2
  clear hcut SE MV
  generalize wc = v4 at *
  obtain ⟨p0, p1, p2, p3, p4, p5⟩ := PF.out _ PX.out
  obtain ⟨q0, q1, _, _⟩ := PY.out.facts
  go_wp2_with fail
  refine (ME.out _ Q0.out).mono ?_
  rintro e w5 ⟨ao5, ck5, rfl, hA, hm, _, hb⟩
  have L5 := Lib.hid hm
  obtain ⟨v5, hv⟩ : ∃ v5, v5 = w5.alloc (.cells #[.int .i64 M1, .slice ao5 m1.length ck5] 25) := ⟨_, rfl⟩
  have X5 := Lib.hid (show Two v5 w5.heap.size (.int .i64 M1) (.slice ao5 m1.length ck5) by rw [hv]; exact Two.made _ _ _ _)
  have A5 := Lib.hid (show Arg v5 ao5 m1 by rw [hv]; exact hA.on (one_more _))
  have B5 := Lib.hid (show Below v4.heap.size v4 v5 by rw [hv]; exact hb.alloc hb.size _)
  have Y5 := Lib.hid (show v4.heap.size ≤ w5.heap.size ∧ v5.heap.size = w5.heap.size + 1 by rw [hv]; exact ⟨hb.size, by simp⟩)
  clear hA hm hb
  go_upto_region 11 with (fail)
  rw [← hv]
  clear hv
  clear p0 p1 p2 p3 p4 p5 q0 q1
  have PY := Lib.hid (PY.out.kept B5.out)
  have Q0 := Lib.hid (below_on Q0.out B5.out)
  obtain ⟨q0, q1, _, _⟩ := PY.out.facts
  go_wp2_with fail
  refine (HY.out _ Q0.out).mono ?_
  rintro e v6 ⟨rfl, hb⟩
  have Q0 := Lib.hid (below_on Q0.out hb)
  clear hb q0 q1
  go_wp2_with fail
  refine (SH.out _).mono ?_
  rintro e w99 ⟨rfl, hb⟩
  have Q0 := Lib.hid (below_on Q0.out hb)
  clear hb
  go_wp2_with fail
  go_ret
  exact ⟨rfl, Q0.out⟩
end Go.Proofs.Ytbnebinpemejlaa

namespace Go.Proofs.Ytbnebinpemejlaa
open Go.RowKit

set_option maxRecDepth 100000 in
set_option maxHeartbeats 2000000 in
theorem members_0t (N M : Int) (ao bo : Option Addr) (len cap mlen cb : Nat) (i j c : Int) (dao : Option Addr) (dl dc : Nat) (po : Option Addr) (pl pc : Nat) (w : World) (h0 : ¬ 200 < len) (h1 : ¬ 200 < mlen) (h2 : ¬ 100 < dl) (h3 : ¬ 50 < pl) (pq : (pl : Int) = N) (gs : Bool) (HG : Hid (gs = (decide (1 ≤ i) && decide (i ≤ (pl : Int)) && decide (0 ≤ c) && decide (c ≤ 1000)))) (qs : List Pq) (mL : List Int) (hy : Bool) (HZ : Hid (∀ W, Below w.heap.size w W → Calls Try.prog 46 #[.agg #[.int .i64 N, .slice ao len cap], .slice po pl pc] W (Made (.tuple #[.bool true, .int .i64 0]) W)))
    (SE : Hid (gs = true → ∀ W, Below w.heap.size w W → Calls Try.prog 47 #[.slice po pl pc, .int .i64 i, .agg #[.int .i64 c, .int .i64 1]] W (fun e w' => ∃ qo qc, e = .returned (.slice qo pl qc) ∧ Arg2 w' qo qs ∧ Below W.heap.size W w')))
    (MV : Hid (gs = true → ∀ W qo qc, Arg2 W qo qs → Below w.heap.size w W → Calls Try.prog 48 #[.agg #[.int .i64 N, .slice ao len cap, .int .i64 i, .int .i64 j, .int .i64 c, .slice dao dl dc], .slice po pl pc, .slice qo pl qc, .bool true] W (Made (.bool true) W)))
    (ME : Hid (∀ W, Below w.heap.size w W → Calls Try.prog 42 #[.agg #[.int .i64 N, .slice ao len cap], .agg #[.int .i64 M, .slice bo mlen cb]] W (ZV2 W (zrN 0 N) (zrL 0 mL) 0)))
    (HY : Hid (∀ W, Below w.heap.size w W → Calls Try.prog 46 #[.agg #[.int .i64 M, .slice bo mlen cb], .slice po pl pc] W (Made (.tuple #[.bool hy, .int .i64 0]) W)))
    (hz : Bool) (HM : Hid (∀ W a ca, Arg W a mL → Below w.heap.size w W → Calls Try.prog 46 #[.agg #[.int .i64 N, .slice a mL.length ca], .slice po pl pc] W (Made (.tuple #[.bool hz, .int .i64 0]) W))) (hzz : hz = (true && hy)) :
    Calls Try.prog 6 #[.agg #[.int .i64 N, .slice ao len cap, .int .i64 i, .int .i64 j, .int .i64 c, .slice dao dl dc], .agg #[.int .i64 M, .slice bo mlen cb], .slice po pl pc] w (Made (.bool true) w) := by
  have DN : ((pl : Int) == N) = true := by simp; omega
  clear pq
  simp only [zrN, zrL, if_true] at ME
  unfold ZV2 at ME
  have DEQ : (hz == hy) = true := by rw [hzz]; simp
  clear hzz
  have SH := Lib.hid (fun W => shown3_any W)
  have D0 : decide ((200 : Int) < (len : Int)) = false := by simp; omega
  have D1 : decide ((200 : Int) < (mlen : Int)) = false := by simp; omega
  have D2 : decide ((100 : Int) < (dl : Int)) = false := by simp; omega
  have D3 : decide ((50 : Int) < (pl : Int)) = false := by simp; omega
  clear h0 h1 h2 h3
  have PF := Lib.hid (show ∀ W, Bx W w.heap.size #[.int .i64 N, .slice ao len cap, .int .i64 i, .int .i64 j, .int .i64 c, .slice dao dl dc] → (W.cell? ⟨w.heap.size, 0, none⟩ = some (.int .i64 N) ∧ W.cell? ⟨w.heap.size, 1, none⟩ = some (.slice ao len cap) ∧ W.cell? ⟨w.heap.size, 2, none⟩ = some (.int .i64 i) ∧ W.cell? ⟨w.heap.size, 3, none⟩ = some (.int .i64 j) ∧ W.cell? ⟨w.heap.size, 4, none⟩ = some (.int .i64 c) ∧ W.cell? ⟨w.heap.size, 5, none⟩ = some (.slice dao dl dc)) from fun W h => ⟨h.cell 0, h.cell 1, h.cell 2, h.cell 3, h.cell 4, h.cell 5⟩)
  obtain ⟨w0, hw0⟩ : ∃ w0, w0 = ((w.alloc (.cells #[.int .i64 N, .slice ao len cap, .int .i64 i, .int .i64 j, .int .i64 c, .slice dao dl dc] 37)).alloc (.cells #[.int .i64 M, .slice bo mlen cb] 25)) := ⟨_, rfl⟩
  have PX := Lib.hid (show Bx w0 w.heap.size #[.int .i64 N, .slice ao len cap, .int .i64 i, .int .i64 j, .int .i64 c, .slice dao dl dc] by rw [hw0]; exact (Bx.made _ _ _).kept (one_more _))
  have PY := Lib.hid (show Two w0 (w.heap.size + 1) (.int .i64 M) (.slice bo mlen cb) by
    rw [hw0]
    have := Two.made (w.alloc (.cells #[.int .i64 N, .slice ao len cap, .int .i64 i, .int .i64 j, .int .i64 c, .slice dao dl dc] 37)) (.int .i64 M) (.slice bo mlen cb) 25
    simpa using this)
  have Q0 := Lib.hid (show Below w.heap.size w w0 by rw [hw0]; exact past_two (Below.refl _ _))
  go_enter Try.func6, Try.ntmps6
  go_upto_region 1 with (fail)
  rw [← hw0]
  clear hw0
  obtain ⟨p0, p1, p2, p3, p4, p5⟩ := PF.out _ PX.out
  obtain ⟨q0, q1, _, _⟩ := PY.out.facts
  go_wp2_with fail
  refine (HZ.out _ Q0.out).mono ?_
  rintro e v1 ⟨rfl, hb⟩
  clear p0 p1 p2 p3 p4 p5 q0 q1
  have PX := Lib.hid (PX.out.kept hb)
  have PY := Lib.hid (PY.out.kept hb)
  have Q0 := Lib.hid (below_on Q0.out hb)
  clear hb
  obtain ⟨p0, p1, p2, p3, p4, p5⟩ := PF.out _ PX.out
  go_upto_region 6 with (fail)
  go_cut [83] (fun s wx => s = .bool gs ∧ wx = v1)
  case first =>
    by_cases g1 : 1 ≤ i
    · have G1 : decide ((1 : Int) ≤ i) = true := decide_eq_true g1
      by_cases g2 : i ≤ (pl : Int)
      · have G2 : decide (i ≤ (pl : Int)) = true := decide_eq_true g2
        by_cases g3 : 0 ≤ c
        · have G3 : decide ((0 : Int) ≤ c) = true := decide_eq_true g3
          by_cases g4 : c ≤ 1000
          · have G4 : decide (c ≤ 1000) = true := decide_eq_true g4
            have HB := Lib.hid (show gs = true by rw [HG.out, G1, G2, G3, G4]; rfl)
            clear g1 g2 g3 g4
            go_wp2_with fail
            go_meet
            case rel => exact ⟨by rw [HB.out], rfl⟩
          · have G4 : decide (c ≤ 1000) = false := decide_eq_false g4
            have HB := Lib.hid (show gs = false by rw [HG.out, G1, G2, G3, G4]; rfl)
            clear g1 g2 g3 g4
            go_wp2_with fail
            go_meet
            case rel => exact ⟨by rw [HB.out], rfl⟩
        · have G3 : decide ((0 : Int) ≤ c) = false := decide_eq_false g3
          have HB := Lib.hid (show gs = false by rw [HG.out, G1, G2, G3]; rfl)
          clear g1 g2 g3
          go_wp2_with fail
          go_meet
          case rel => exact ⟨by rw [HB.out], rfl⟩
      · have G2 : decide (i ≤ (pl : Int)) = false := decide_eq_false g2
        have HB := Lib.hid (show gs = false by rw [HG.out, G1, G2]; rfl)
        clear g1 g2
        go_wp2_with fail
        go_meet
        case rel => exact ⟨by rw [HB.out], rfl⟩
    · have G1 : decide ((1 : Int) ≤ i) = false := decide_eq_false g1
      have HB := Lib.hid (show gs = false by rw [HG.out, G1]; rfl)
      clear g1
      go_wp2_with fail
      go_meet
      case rel => exact ⟨by rw [HB.out], rfl⟩
  case rest =>
  obtain ⟨rfl, rfl⟩ := hcut
  clear HG p0 p1 p2 p3 p4 p5
  generalize wc = v1 at *
  go_upto_if 83 with (fail)
  go_cut [9] (fun _ wx => Hid (Bx wx w.heap.size #[.int .i64 N, .slice ao len cap, .int .i64 i, .int .i64 j, .int .i64 c, .slice dao dl dc] ∧ Two wx (w.heap.size + 1) (.int .i64 M) (.slice bo mlen cb) ∧ Below w.heap.size w wx))
  case first =>
    cases gs
    · go_wp2_with fail
      go_meet
      case rel => exact Lib.hid ⟨PX.out, PY.out, Q0.out⟩
    · obtain ⟨p0, p1, p2, p3, p4, p5⟩ := PF.out _ PX.out
      go_wp2_with fail
      refine (SE.out (by trivial) _ Q0.out).mono ?_
      rintro e v2 ⟨qo, qc, rfl, hQ, hb⟩
      have HQ := Lib.hid hQ
      have PX := Lib.hid (PX.out.kept hb)
      have PY := Lib.hid (PY.out.kept hb)
      have Q0 := Lib.hid (below_on Q0.out hb)
      clear hb hQ p0 p1 p2 p3 p4 p5
      obtain ⟨p0, p1, p2, p3, p4, p5⟩ := PF.out _ PX.out
      go_wp2_with fail
      refine (MV.out (by trivial) _ _ _ HQ.out Q0.out).mono ?_
      rintro e v3 ⟨rfl, hb⟩
      have PX := Lib.hid (PX.out.kept hb)
      have PY := Lib.hid (PY.out.kept hb)
      have Q0 := Lib.hid (below_on Q0.out hb)
      clear hb p0 p1 p2 p3 p4 p5
      go_wp2_with fail
      go_meet
      case rel => exact Lib.hid ⟨PX.out, PY.out, Q0.out⟩
  case rest =>
  have PX := Lib.hid hcut.out.1
  have PY := Lib.hid hcut.out.2.1
  have Q0 := Lib.hid hcut.out.2.2
  clear hcut SE MV
  generalize wc = v4 at *
  obtain ⟨p0, p1, p2, p3, p4, p5⟩ := PF.out _ PX.out
  obtain ⟨q0, q1, _, _⟩ := PY.out.facts
  go_wp2_with fail
  refine (ME.out _ Q0.out).mono ?_
  rintro e w5 ⟨ao5, ck5, rfl, hA, hm, _, hb⟩
  have L5 := Lib.hid hm
  obtain ⟨v5, hv⟩ : ∃ v5, v5 = w5.alloc (.cells #[.int .i64 N, .slice ao5 mL.length ck5] 25) := ⟨_, rfl⟩
  have X5 := Lib.hid (show Two v5 w5.heap.size (.int .i64 N) (.slice ao5 mL.length ck5) by rw [hv]; exact Two.made _ _ _ _)
  have A5 := Lib.hid (show Arg v5 ao5 mL by rw [hv]; exact hA.on (one_more _))
  have B5 := Lib.hid (show Below v4.heap.size v4 v5 by rw [hv]; exact hb.alloc hb.size _)
  have Y5 := Lib.hid (show v4.heap.size ≤ w5.heap.size ∧ v5.heap.size = w5.heap.size + 1 by rw [hv]; exact ⟨hb.size, by simp⟩)
  clear hA hm hb
  go_upto_region 11 with (fail)
  rw [← hv]
  clear hv
  clear p0 p1 p2 p3 p4 p5 q0 q1
  have PY := Lib.hid (PY.out.kept B5.out)
  have Q0 := Lib.hid (below_on Q0.out B5.out)
  obtain ⟨q0, q1, _, _⟩ := PY.out.facts
  go_wp2_with fail
  refine (HY.out _ Q0.out).mono ?_
  rintro e v6 ⟨rfl, hb⟩
  have Q0 := Lib.hid (below_on Q0.out hb)
  have X5 := Lib.hid (X5.out.kept hb)
  have A5 := Lib.hid (A5.out.on hb)
  clear hb q0 q1
  obtain ⟨b0, b1, _, _⟩ := X5.out.facts
  go_wp2_with fail
  refine (HM.out _ _ _ A5.out Q0.out).mono ?_
  rintro e v7 ⟨rfl, hb⟩
  have Q0 := Lib.hid (below_on Q0.out hb)
  clear hb b0 b1
  go_wp2_with fail
  refine (SH.out _).mono ?_
  rintro e w99 ⟨rfl, hb⟩
  have Q0 := Lib.hid (below_on Q0.out hb)
  clear hb
  go_wp2_with fail
  go_ret
  exact ⟨rfl, Q0.out⟩

set_option maxRecDepth 100000 in
set_option maxHeartbeats 2000000 in
theorem members_0f (N M : Int) (ao bo : Option Addr) (len cap mlen cb : Nat) (i j c : Int) (dao : Option Addr) (dl dc : Nat) (po : Option Addr) (pl pc : Nat) (w : World) (h0 : ¬ 200 < len) (h1 : ¬ 200 < mlen) (h2 : ¬ 100 < dl) (h3 : ¬ 50 < pl) (pq : (pl : Int) = N) (gs : Bool) (HG : Hid (gs = (decide (1 ≤ i) && decide (i ≤ (pl : Int)) && decide (0 ≤ c) && decide (c ≤ 1000)))) (qs : List Pq) (mL : List Int) (hy : Bool) (HZ : Hid (∀ W, Below w.heap.size w W → Calls Try.prog 46 #[.agg #[.int .i64 N, .slice ao len cap], .slice po pl pc] W (Made (.tuple #[.bool false, .int .i64 0]) W)))
    (SE : Hid (gs = true → ∀ W, Below w.heap.size w W → Calls Try.prog 47 #[.slice po pl pc, .int .i64 i, .agg #[.int .i64 c, .int .i64 1]] W (fun e w' => ∃ qo qc, e = .returned (.slice qo pl qc) ∧ Arg2 w' qo qs ∧ Below W.heap.size W w')))
    (MV : Hid (gs = true → ∀ W qo qc, Arg2 W qo qs → Below w.heap.size w W → Calls Try.prog 48 #[.agg #[.int .i64 N, .slice ao len cap, .int .i64 i, .int .i64 j, .int .i64 c, .slice dao dl dc], .slice po pl pc, .slice qo pl qc, .bool false] W (Made (.bool true) W)))
    (ME : Hid (∀ W, Below w.heap.size w W → Calls Try.prog 42 #[.agg #[.int .i64 N, .slice ao len cap], .agg #[.int .i64 M, .slice bo mlen cb]] W (ZV2 W (zrN 0 N) (zrL 0 mL) 0)))
    (HY : Hid (∀ W, Below w.heap.size w W → Calls Try.prog 46 #[.agg #[.int .i64 M, .slice bo mlen cb], .slice po pl pc] W (Made (.tuple #[.bool hy, .int .i64 0]) W)))
    (hz : Bool) (HM : Hid (∀ W a ca, Arg W a mL → Below w.heap.size w W → Calls Try.prog 46 #[.agg #[.int .i64 N, .slice a mL.length ca], .slice po pl pc] W (Made (.tuple #[.bool hz, .int .i64 0]) W))) (hzz : hz = (false && hy)) :
    Calls Try.prog 6 #[.agg #[.int .i64 N, .slice ao len cap, .int .i64 i, .int .i64 j, .int .i64 c, .slice dao dl dc], .agg #[.int .i64 M, .slice bo mlen cb], .slice po pl pc] w (Made (.bool true) w) := by
  have DN : ((pl : Int) == N) = true := by simp; omega
  clear pq
  simp only [zrN, zrL, if_true] at ME
  unfold ZV2 at ME
  have DEQ : (hz == false) = true := by rw [hzz]; simp
  clear hzz
  have SH := Lib.hid (fun W => shown3_any W)
  have D0 : decide ((200 : Int) < (len : Int)) = false := by simp; omega
  have D1 : decide ((200 : Int) < (mlen : Int)) = false := by simp; omega
  have D2 : decide ((100 : Int) < (dl : Int)) = false := by simp; omega
  have D3 : decide ((50 : Int) < (pl : Int)) = false := by simp; omega
  clear h0 h1 h2 h3
  have PF := Lib.hid (show ∀ W, Bx W w.heap.size #[.int .i64 N, .slice ao len cap, .int .i64 i, .int .i64 j, .int .i64 c, .slice dao dl dc] → (W.cell? ⟨w.heap.size, 0, none⟩ = some (.int .i64 N) ∧ W.cell? ⟨w.heap.size, 1, none⟩ = some (.slice ao len cap) ∧ W.cell? ⟨w.heap.size, 2, none⟩ = some (.int .i64 i) ∧ W.cell? ⟨w.heap.size, 3, none⟩ = some (.int .i64 j) ∧ W.cell? ⟨w.heap.size, 4, none⟩ = some (.int .i64 c) ∧ W.cell? ⟨w.heap.size, 5, none⟩ = some (.slice dao dl dc)) from fun W h => ⟨h.cell 0, h.cell 1, h.cell 2, h.cell 3, h.cell 4, h.cell 5⟩)
  obtain ⟨w0, hw0⟩ : ∃ w0, w0 = ((w.alloc (.cells #[.int .i64 N, .slice ao len cap, .int .i64 i, .int .i64 j, .int .i64 c, .slice dao dl dc] 37)).alloc (.cells #[.int .i64 M, .slice bo mlen cb] 25)) := ⟨_, rfl⟩
  have PX := Lib.hid (show Bx w0 w.heap.size #[.int .i64 N, .slice ao len cap, .int .i64 i, .int .i64 j, .int .i64 c, .slice dao dl dc] by rw [hw0]; exact (Bx.made _ _ _).kept (one_more _))
  have PY := Lib.hid (show Two w0 (w.heap.size + 1) (.int .i64 M) (.slice bo mlen cb) by
    rw [hw0]
    have := Two.made (w.alloc (.cells #[.int .i64 N, .slice ao len cap, .int .i64 i, .int .i64 j, .int .i64 c, .slice dao dl dc] 37)) (.int .i64 M) (.slice bo mlen cb) 25
    simpa using this)
  have Q0 := Lib.hid (show Below w.heap.size w w0 by rw [hw0]; exact past_two (Below.refl _ _))
  go_enter Try.func6, Try.ntmps6
  go_upto_region 1 with (fail)
  rw [← hw0]
  clear hw0
  obtain ⟨p0, p1, p2, p3, p4, p5⟩ := PF.out _ PX.out
  obtain ⟨q0, q1, _, _⟩ := PY.out.facts
  go_wp2_with fail
  refine (HZ.out _ Q0.out).mono ?_
  rintro e v1 ⟨rfl, hb⟩
  clear p0 p1 p2 p3 p4 p5 q0 q1
  have PX := Lib.hid (PX.out.kept hb)
  have PY := Lib.hid (PY.out.kept hb)
  have Q0 := Lib.hid (below_on Q0.out hb)
  clear hb
  obtain ⟨p0, p1, p2, p3, p4, p5⟩ := PF.out _ PX.out
  go_upto_region 6 with (fail)
  go_cut [83] (fun s wx => s = .bool gs ∧ wx = v1)
  case first =>
    by_cases g1 : 1 ≤ i
    · have G1 : decide ((1 : Int) ≤ i) = true := decide_eq_true g1
      by_cases g2 : i ≤ (pl : Int)
      · have G2 : decide (i ≤ (pl : Int)) = true := decide_eq_true g2
        by_cases g3 : 0 ≤ c
        · have G3 : decide ((0 : Int) ≤ c) = true := decide_eq_true g3
          by_cases g4 : c ≤ 1000
          · have G4 : decide (c ≤ 1000) = true := decide_eq_true g4
            have HB := Lib.hid (show gs = true by rw [HG.out, G1, G2, G3, G4]; rfl)
            clear g1 g2 g3 g4
            go_wp2_with fail
            go_meet
            case rel => exact ⟨by rw [HB.out], rfl⟩
          · have G4 : decide (c ≤ 1000) = false := decide_eq_false g4
            have HB := Lib.hid (show gs = false by rw [HG.out, G1, G2, G3, G4]; rfl)
            clear g1 g2 g3 g4
            go_wp2_with fail
            go_meet
            case rel => exact ⟨by rw [HB.out], rfl⟩
        · have G3 : decide ((0 : Int) ≤ c) = false := decide_eq_false g3
          have HB := Lib.hid (show gs = false by rw [HG.out, G1, G2, G3]; rfl)
          clear g1 g2 g3
          go_wp2_with fail
          go_meet
          case rel => exact ⟨by rw [HB.out], rfl⟩
      · have G2 : decide (i ≤ (pl : Int)) = false := decide_eq_false g2
        have HB := Lib.hid (show gs = false by rw [HG.out, G1, G2]; rfl)
        clear g1 g2
        go_wp2_with fail
        go_meet
        case rel => exact ⟨by rw [HB.out], rfl⟩
    · have G1 : decide ((1 : Int) ≤ i) = false := decide_eq_false g1
      have HB := Lib.hid (show gs = false by rw [HG.out, G1]; rfl)
      clear g1
      go_wp2_with fail
      go_meet
      case rel => exact ⟨by rw [HB.out], rfl⟩
  case rest =>
  obtain ⟨rfl, rfl⟩ := hcut
  clear HG p0 p1 p2 p3 p4 p5
  generalize wc = v1 at *
  go_upto_if 83 with (fail)
  go_cut [9] (fun _ wx => Hid (Bx wx w.heap.size #[.int .i64 N, .slice ao len cap, .int .i64 i, .int .i64 j, .int .i64 c, .slice dao dl dc] ∧ Two wx (w.heap.size + 1) (.int .i64 M) (.slice bo mlen cb) ∧ Below w.heap.size w wx))
  case first =>
    cases gs
    · go_wp2_with fail
      go_meet
      case rel => exact Lib.hid ⟨PX.out, PY.out, Q0.out⟩
    · obtain ⟨p0, p1, p2, p3, p4, p5⟩ := PF.out _ PX.out
      go_wp2_with fail
      refine (SE.out (by trivial) _ Q0.out).mono ?_
      rintro e v2 ⟨qo, qc, rfl, hQ, hb⟩
      have HQ := Lib.hid hQ
      have PX := Lib.hid (PX.out.kept hb)
      have PY := Lib.hid (PY.out.kept hb)
      have Q0 := Lib.hid (below_on Q0.out hb)
      clear hb hQ p0 p1 p2 p3 p4 p5
      obtain ⟨p0, p1, p2, p3, p4, p5⟩ := PF.out _ PX.out
      go_wp2_with fail
      refine (MV.out (by trivial) _ _ _ HQ.out Q0.out).mono ?_
      rintro e v3 ⟨rfl, hb⟩
      have PX := Lib.hid (PX.out.kept hb)
      have PY := Lib.hid (PY.out.kept hb)
      have Q0 := Lib.hid (below_on Q0.out hb)
      clear hb p0 p1 p2 p3 p4 p5
      go_wp2_with fail
      go_meet
      case rel => exact Lib.hid ⟨PX.out, PY.out, Q0.out⟩
  case rest =>
  have PX := Lib.hid hcut.out.1
  have PY := Lib.hid hcut.out.2.1
  have Q0 := Lib.hid hcut.out.2.2
  clear hcut SE MV
  generalize wc = v4 at *
  obtain ⟨p0, p1, p2, p3, p4, p5⟩ := PF.out _ PX.out
  obtain ⟨q0, q1, _, _⟩ := PY.out.facts
  go_wp2_with fail
  refine (ME.out _ Q0.out).mono ?_
  rintro e w5 ⟨ao5, ck5, rfl, hA, hm, _, hb⟩
  have L5 := Lib.hid hm
  obtain ⟨v5, hv⟩ : ∃ v5, v5 = w5.alloc (.cells #[.int .i64 N, .slice ao5 mL.length ck5] 25) := ⟨_, rfl⟩
  have X5 := Lib.hid (show Two v5 w5.heap.size (.int .i64 N) (.slice ao5 mL.length ck5) by rw [hv]; exact Two.made _ _ _ _)
  have A5 := Lib.hid (show Arg v5 ao5 mL by rw [hv]; exact hA.on (one_more _))
  have B5 := Lib.hid (show Below v4.heap.size v4 v5 by rw [hv]; exact hb.alloc hb.size _)
  have Y5 := Lib.hid (show v4.heap.size ≤ w5.heap.size ∧ v5.heap.size = w5.heap.size + 1 by rw [hv]; exact ⟨hb.size, by simp⟩)
  clear hA hm hb
  go_upto_region 11 with (fail)
  rw [← hv]
  clear hv
  clear p0 p1 p2 p3 p4 p5 q0 q1
  have PY := Lib.hid (PY.out.kept B5.out)
  have Q0 := Lib.hid (below_on Q0.out B5.out)
  obtain ⟨q0, q1, _, _⟩ := PY.out.facts
  go_wp2_with fail
  refine (HY.out _ Q0.out).mono ?_
  rintro e v6 ⟨rfl, hb⟩
  have Q0 := Lib.hid (below_on Q0.out hb)
  have X5 := Lib.hid (X5.out.kept hb)
  have A5 := Lib.hid (A5.out.on hb)
  clear hb q0 q1
  obtain ⟨b0, b1, _, _⟩ := X5.out.facts
  go_wp2_with fail
  refine (HM.out _ _ _ A5.out Q0.out).mono ?_
  rintro e v7 ⟨rfl, hb⟩
  have Q0 := Lib.hid (below_on Q0.out hb)
  clear hb b0 b1
  go_wp2_with fail
  refine (SH.out _).mono ?_
  rintro e w99 ⟨rfl, hb⟩
  have Q0 := Lib.hid (below_on Q0.out hb)
  clear hb
  go_wp2_with fail
  go_ret
  exact ⟨rfl, Q0.out⟩
end Go.Proofs.Ytbnebinpemejlaa

namespace Go.Proofs.Ytbnebinpemejlaa
open Go.RowKit

set_option maxRecDepth 100000 in
set_option maxHeartbeats 2000000 in
theorem members_4t (N M : Int) (ao bo : Option Addr) (len cap mlen cb : Nat) (i j c : Int) (dao : Option Addr) (dl dc : Nat) (po : Option Addr) (pl pc : Nat) (w : World) (h0 : ¬ 200 < len) (h1 : ¬ 200 < mlen) (h2 : ¬ 100 < dl) (h3 : ¬ 50 < pl) (pq : (pl : Int) = N) (gs : Bool) (HG : Hid (gs = (decide (1 ≤ i) && decide (i ≤ (pl : Int)) && decide (0 ≤ c) && decide (c ≤ 1000)))) (qs : List Pq) (mL : List Int) (hy : Bool) (HZ : Hid (∀ W, Below w.heap.size w W → Calls Try.prog 46 #[.agg #[.int .i64 N, .slice ao len cap], .slice po pl pc] W (Made (.tuple #[.bool true, .int .i64 0]) W)))
    (SE : Hid (gs = true → ∀ W, Below w.heap.size w W → Calls Try.prog 47 #[.slice po pl pc, .int .i64 i, .agg #[.int .i64 c, .int .i64 1]] W (fun e w' => ∃ qo qc, e = .returned (.slice qo pl qc) ∧ Arg2 w' qo qs ∧ Below W.heap.size W w')))
    (MV : Hid (gs = true → ∀ W qo qc, Arg2 W qo qs → Below w.heap.size w W → Calls Try.prog 48 #[.agg #[.int .i64 N, .slice ao len cap, .int .i64 i, .int .i64 j, .int .i64 c, .slice dao dl dc], .slice po pl pc, .slice qo pl qc, .bool true] W (Made (.bool true) W)))
    (ME : Hid (∀ W, Below w.heap.size w W → Calls Try.prog 42 #[.agg #[.int .i64 N, .slice ao len cap], .agg #[.int .i64 M, .slice bo mlen cb]] W (ZV2 W (zrN 4 N) (zrL 4 mL) 4)))
    (HY : Hid (∀ W, Below w.heap.size w W → Calls Try.prog 46 #[.agg #[.int .i64 M, .slice bo mlen cb], .slice po pl pc] W (Made (.tuple #[.bool hy, .int .i64 0]) W)))
    (hzz : (true && hy) = false) :
    Calls Try.prog 6 #[.agg #[.int .i64 N, .slice ao len cap, .int .i64 i, .int .i64 j, .int .i64 c, .slice dao dl dc], .agg #[.int .i64 M, .slice bo mlen cb], .slice po pl pc] w (Made (.bool true) w) := by
  have DN : ((pl : Int) == N) = true := by simp; omega
  clear pq
  have hzn : ¬ ((4 : Int) = 0) := by decide
  simp only [zrN, zrL, if_neg hzn] at ME
  clear hzn
  unfold ZV2 at ME
  have DEQ : (false == hy) = true := by simp at hzz; rw [hzz]; rfl
  clear hzz
  have SH := Lib.hid (fun W => shown3_any W)
  have D0 : decide ((200 : Int) < (len : Int)) = false := by simp; omega
  have D1 : decide ((200 : Int) < (mlen : Int)) = false := by simp; omega
  have D2 : decide ((100 : Int) < (dl : Int)) = false := by simp; omega
  have D3 : decide ((50 : Int) < (pl : Int)) = false := by simp; omega
  clear h0 h1 h2 h3
  have PF := Lib.hid (show ∀ W, Bx W w.heap.size #[.int .i64 N, .slice ao len cap, .int .i64 i, .int .i64 j, .int .i64 c, .slice dao dl dc] → (W.cell? ⟨w.heap.size, 0, none⟩ = some (.int .i64 N) ∧ W.cell? ⟨w.heap.size, 1, none⟩ = some (.slice ao len cap) ∧ W.cell? ⟨w.heap.size, 2, none⟩ = some (.int .i64 i) ∧ W.cell? ⟨w.heap.size, 3, none⟩ = some (.int .i64 j) ∧ W.cell? ⟨w.heap.size, 4, none⟩ = some (.int .i64 c) ∧ W.cell? ⟨w.heap.size, 5, none⟩ = some (.slice dao dl dc)) from fun W h => ⟨h.cell 0, h.cell 1, h.cell 2, h.cell 3, h.cell 4, h.cell 5⟩)
  obtain ⟨w0, hw0⟩ : ∃ w0, w0 = ((w.alloc (.cells #[.int .i64 N, .slice ao len cap, .int .i64 i, .int .i64 j, .int .i64 c, .slice dao dl dc] 37)).alloc (.cells #[.int .i64 M, .slice bo mlen cb] 25)) := ⟨_, rfl⟩
  have PX := Lib.hid (show Bx w0 w.heap.size #[.int .i64 N, .slice ao len cap, .int .i64 i, .int .i64 j, .int .i64 c, .slice dao dl dc] by rw [hw0]; exact (Bx.made _ _ _).kept (one_more _))
  have PY := Lib.hid (show Two w0 (w.heap.size + 1) (.int .i64 M) (.slice bo mlen cb) by
    rw [hw0]
    have := Two.made (w.alloc (.cells #[.int .i64 N, .slice ao len cap, .int .i64 i, .int .i64 j, .int .i64 c, .slice dao dl dc] 37)) (.int .i64 M) (.slice bo mlen cb) 25
    simpa using this)
  have Q0 := Lib.hid (show Below w.heap.size w w0 by rw [hw0]; exact past_two (Below.refl _ _))
  go_enter Try.func6, Try.ntmps6
  go_upto_region 1 with (fail)
  rw [← hw0]
  clear hw0
  obtain ⟨p0, p1, p2, p3, p4, p5⟩ := PF.out _ PX.out
  obtain ⟨q0, q1, _, _⟩ := PY.out.facts
  go_wp2_with fail
  refine (HZ.out _ Q0.out).mono ?_
  rintro e v1 ⟨rfl, hb⟩
  clear p0 p1 p2 p3 p4 p5 q0 q1
  have PX := Lib.hid (PX.out.kept hb)
  have PY := Lib.hid (PY.out.kept hb)
  have Q0 := Lib.hid (below_on Q0.out hb)
  clear hb
  obtain ⟨p0, p1, p2, p3, p4, p5⟩ := PF.out _ PX.out
  go_upto_region 6 with (fail)
  go_cut [83] (fun s wx => s = .bool gs ∧ wx = v1)
  case first =>
    by_cases g1 : 1 ≤ i
    · have G1 : decide ((1 : Int) ≤ i) = true := decide_eq_true g1
      by_cases g2 : i ≤ (pl : Int)
      · have G2 : decide (i ≤ (pl : Int)) = true := decide_eq_true g2
        by_cases g3 : 0 ≤ c
        · have G3 : decide ((0 : Int) ≤ c) = true := decide_eq_true g3
          by_cases g4 : c ≤ 1000
          · have G4 : decide (c ≤ 1000) = true := decide_eq_true g4
            have HB := Lib.hid (show gs = true by rw [HG.out, G1, G2, G3, G4]; rfl)
            clear g1 g2 g3 g4
            go_wp2_with fail
            go_meet
            case rel => exact ⟨by rw [HB.out], rfl⟩
          · have G4 : decide (c ≤ 1000) = false := decide_eq_false g4
            have HB := Lib.hid (show gs = false by rw [HG.out, G1, G2, G3, G4]; rfl)
            clear g1 g2 g3 g4
            go_wp2_with fail
            go_meet
            case rel => exact ⟨by rw [HB.out], rfl⟩
        · have G3 : decide ((0 : Int) ≤ c) = false := decide_eq_false g3
          have HB := Lib.hid (show gs = false by rw [HG.out, G1, G2, G3]; rfl)
          clear g1 g2 g3
          go_wp2_with fail
          go_meet
          case rel => exact ⟨by rw [HB.out], rfl⟩
      · have G2 : decide (i ≤ (pl : Int)) = false := decide_eq_false g2
        have HB := Lib.hid (show gs = false by rw [HG.out, G1, G2]; rfl)
        clear g1 g2
        go_wp2_with fail
        go_meet
        case rel => exact ⟨by rw [HB.out], rfl⟩
    · have G1 : decide ((1 : Int) ≤ i) = false := decide_eq_false g1
      have HB := Lib.hid (show gs = false by rw [HG.out, G1]; rfl)
      clear g1
      go_wp2_with fail
      go_meet
      case rel => exact ⟨by rw [HB.out], rfl⟩
  case rest =>
  obtain ⟨rfl, rfl⟩ := hcut
  clear HG p0 p1 p2 p3 p4 p5
  generalize wc = v1 at *
  go_upto_if 83 with (fail)
  go_cut [9] (fun _ wx => Hid (Bx wx w.heap.size #[.int .i64 N, .slice ao len cap, .int .i64 i, .int .i64 j, .int .i64 c, .slice dao dl dc] ∧ Two wx (w.heap.size + 1) (.int .i64 M) (.slice bo mlen cb) ∧ Below w.heap.size w wx))
  case first =>
    cases gs
    · go_wp2_with fail
      go_meet
      case rel => exact Lib.hid ⟨PX.out, PY.out, Q0.out⟩
    · obtain ⟨p0, p1, p2, p3, p4, p5⟩ := PF.out _ PX.out
      go_wp2_with fail
      refine (SE.out (by trivial) _ Q0.out).mono ?_
      rintro e v2 ⟨qo, qc, rfl, hQ, hb⟩
      have HQ := Lib.hid hQ
      have PX := Lib.hid (PX.out.kept hb)
      have PY := Lib.hid (PY.out.kept hb)
      have Q0 := Lib.hid (below_on Q0.out hb)
      clear hb hQ p0 p1 p2 p3 p4 p5
      obtain ⟨p0, p1, p2, p3, p4, p5⟩ := PF.out _ PX.out
      go_wp2_with fail
      refine (MV.out (by trivial) _ _ _ HQ.out Q0.out).mono ?_
      rintro e v3 ⟨rfl, hb⟩
      have PX := Lib.hid (PX.out.kept hb)
      have PY := Lib.hid (PY.out.kept hb)
      have Q0 := Lib.hid (below_on Q0.out hb)
      clear hb p0 p1 p2 p3 p4 p5
      go_wp2_with fail
      go_meet
      case rel => exact Lib.hid ⟨PX.out, PY.out, Q0.out⟩
  case rest =>
  have PX := Lib.hid hcut.out.1
  have PY := Lib.hid hcut.out.2.1
  have Q0 := Lib.hid hcut.out.2.2
  clear hcut SE MV
  generalize wc = v4 at *
  obtain ⟨p0, p1, p2, p3, p4, p5⟩ := PF.out _ PX.out
  obtain ⟨q0, q1, _, _⟩ := PY.out.facts
  go_wp2_with fail
  refine (ME.out _ Q0.out).mono ?_
  rintro e w5 ⟨ao5, ck5, rfl, hA, hm, _, hb⟩
  obtain ⟨v5, hv⟩ : ∃ v5, v5 = w5.alloc (.cells #[.int .i64 0, .slice ao5 ([] : List Int).length ck5] 25) := ⟨_, rfl⟩
  have B5 := Lib.hid (show Below v4.heap.size v4 v5 by rw [hv]; exact hb.alloc hb.size _)
  clear hA hm hb
  go_upto_region 11 with (fail)
  try simp only [List.length_nil] at hv
  rw [← hv]
  clear hv
  clear p0 p1 p2 p3 p4 p5 q0 q1
  have PY := Lib.hid (PY.out.kept B5.out)
  have Q0 := Lib.hid (below_on Q0.out B5.out)
  obtain ⟨q0, q1, _, _⟩ := PY.out.facts
  go_wp2_with fail
  refine (HY.out _ Q0.out).mono ?_
  rintro e v6 ⟨rfl, hb⟩
  have Q0 := Lib.hid (below_on Q0.out hb)
  clear hb q0 q1
  go_wp2_with fail
  refine (SH.out _).mono ?_
  rintro e w99 ⟨rfl, hb⟩
  have Q0 := Lib.hid (below_on Q0.out hb)
  clear hb
  go_wp2_with fail
  go_ret
  exact ⟨rfl, Q0.out⟩

set_option maxRecDepth 100000 in
set_option maxHeartbeats 2000000 in
theorem members_4f (N M : Int) (ao bo : Option Addr) (len cap mlen cb : Nat) (i j c : Int) (dao : Option Addr) (dl dc : Nat) (po : Option Addr) (pl pc : Nat) (w : World) (h0 : ¬ 200 < len) (h1 : ¬ 200 < mlen) (h2 : ¬ 100 < dl) (h3 : ¬ 50 < pl) (pq : (pl : Int) = N) (gs : Bool) (HG : Hid (gs = (decide (1 ≤ i) && decide (i ≤ (pl : Int)) && decide (0 ≤ c) && decide (c ≤ 1000)))) (qs : List Pq) (mL : List Int) (hy : Bool) (HZ : Hid (∀ W, Below w.heap.size w W → Calls Try.prog 46 #[.agg #[.int .i64 N, .slice ao len cap], .slice po pl pc] W (Made (.tuple #[.bool false, .int .i64 0]) W)))
    (SE : Hid (gs = true → ∀ W, Below w.heap.size w W → Calls Try.prog 47 #[.slice po pl pc, .int .i64 i, .agg #[.int .i64 c, .int .i64 1]] W (fun e w' => ∃ qo qc, e = .returned (.slice qo pl qc) ∧ Arg2 w' qo qs ∧ Below W.heap.size W w')))
    (MV : Hid (gs = true → ∀ W qo qc, Arg2 W qo qs → Below w.heap.size w W → Calls Try.prog 48 #[.agg #[.int .i64 N, .slice ao len cap, .int .i64 i, .int .i64 j, .int .i64 c, .slice dao dl dc], .slice po pl pc, .slice qo pl qc, .bool false] W (Made (.bool true) W)))
    (ME : Hid (∀ W, Below w.heap.size w W → Calls Try.prog 42 #[.agg #[.int .i64 N, .slice ao len cap], .agg #[.int .i64 M, .slice bo mlen cb]] W (ZV2 W (zrN 4 N) (zrL 4 mL) 4)))
    (HY : Hid (∀ W, Below w.heap.size w W → Calls Try.prog 46 #[.agg #[.int .i64 M, .slice bo mlen cb], .slice po pl pc] W (Made (.tuple #[.bool hy, .int .i64 0]) W)))
    (_ : (false && hy) = false) :
    Calls Try.prog 6 #[.agg #[.int .i64 N, .slice ao len cap, .int .i64 i, .int .i64 j, .int .i64 c, .slice dao dl dc], .agg #[.int .i64 M, .slice bo mlen cb], .slice po pl pc] w (Made (.bool true) w) := by
  have DN : ((pl : Int) == N) = true := by simp; omega
  clear pq
  have hzn : ¬ ((4 : Int) = 0) := by decide
  simp only [zrN, zrL, if_neg hzn] at ME
  clear hzn
  unfold ZV2 at ME
  have SH := Lib.hid (fun W => shown3_any W)
  have D0 : decide ((200 : Int) < (len : Int)) = false := by simp; omega
  have D1 : decide ((200 : Int) < (mlen : Int)) = false := by simp; omega
  have D2 : decide ((100 : Int) < (dl : Int)) = false := by simp; omega
  have D3 : decide ((50 : Int) < (pl : Int)) = false := by simp; omega
  clear h0 h1 h2 h3
  have PF := Lib.hid (show ∀ W, Bx W w.heap.size #[.int .i64 N, .slice ao len cap, .int .i64 i, .int .i64 j, .int .i64 c, .slice dao dl dc] → (W.cell? ⟨w.heap.size, 0, none⟩ = some (.int .i64 N) ∧ W.cell? ⟨w.heap.size, 1, none⟩ = some (.slice ao len cap) ∧ W.cell? ⟨w.heap.size, 2, none⟩ = some (.int .i64 i) ∧ W.cell? ⟨w.heap.size, 3, none⟩ = some (.int .i64 j) ∧ W.cell? ⟨w.heap.size, 4, none⟩ = some (.int .i64 c) ∧ W.cell? ⟨w.heap.size, 5, none⟩ = some (.slice dao dl dc)) from fun W h => ⟨h.cell 0, h.cell 1, h.cell 2, h.cell 3, h.cell 4, h.cell 5⟩)
  obtain ⟨w0, hw0⟩ : ∃ w0, w0 = ((w.alloc (.cells #[.int .i64 N, .slice ao len cap, .int .i64 i, .int .i64 j, .int .i64 c, .slice dao dl dc] 37)).alloc (.cells #[.int .i64 M, .slice bo mlen cb] 25)) := ⟨_, rfl⟩
  have PX := Lib.hid (show Bx w0 w.heap.size #[.int .i64 N, .slice ao len cap, .int .i64 i, .int .i64 j, .int .i64 c, .slice dao dl dc] by rw [hw0]; exact (Bx.made _ _ _).kept (one_more _))
  have PY := Lib.hid (show Two w0 (w.heap.size + 1) (.int .i64 M) (.slice bo mlen cb) by
    rw [hw0]
    have := Two.made (w.alloc (.cells #[.int .i64 N, .slice ao len cap, .int .i64 i, .int .i64 j, .int .i64 c, .slice dao dl dc] 37)) (.int .i64 M) (.slice bo mlen cb) 25
    simpa using this)
  have Q0 := Lib.hid (show Below w.heap.size w w0 by rw [hw0]; exact past_two (Below.refl _ _))
  go_enter Try.func6, Try.ntmps6
  go_upto_region 1 with (fail)
  rw [← hw0]
  clear hw0
  obtain ⟨p0, p1, p2, p3, p4, p5⟩ := PF.out _ PX.out
  obtain ⟨q0, q1, _, _⟩ := PY.out.facts
  go_wp2_with fail
  refine (HZ.out _ Q0.out).mono ?_
  rintro e v1 ⟨rfl, hb⟩
  clear p0 p1 p2 p3 p4 p5 q0 q1
  have PX := Lib.hid (PX.out.kept hb)
  have PY := Lib.hid (PY.out.kept hb)
  have Q0 := Lib.hid (below_on Q0.out hb)
  clear hb
  obtain ⟨p0, p1, p2, p3, p4, p5⟩ := PF.out _ PX.out
  go_upto_region 6 with (fail)
  go_cut [83] (fun s wx => s = .bool gs ∧ wx = v1)
  case first =>
    by_cases g1 : 1 ≤ i
    · have G1 : decide ((1 : Int) ≤ i) = true := decide_eq_true g1
      by_cases g2 : i ≤ (pl : Int)
      · have G2 : decide (i ≤ (pl : Int)) = true := decide_eq_true g2
        by_cases g3 : 0 ≤ c
        · have G3 : decide ((0 : Int) ≤ c) = true := decide_eq_true g3
          by_cases g4 : c ≤ 1000
          · have G4 : decide (c ≤ 1000) = true := decide_eq_true g4
            have HB := Lib.hid (show gs = true by rw [HG.out, G1, G2, G3, G4]; rfl)
            clear g1 g2 g3 g4
            go_wp2_with fail
            go_meet
            case rel => exact ⟨by rw [HB.out], rfl⟩
          · have G4 : decide (c ≤ 1000) = false := decide_eq_false g4
            have HB := Lib.hid (show gs = false by rw [HG.out, G1, G2, G3, G4]; rfl)
            clear g1 g2 g3 g4
            go_wp2_with fail
            go_meet
            case rel => exact ⟨by rw [HB.out], rfl⟩
        · have G3 : decide ((0 : Int) ≤ c) = false := decide_eq_false g3
          have HB := Lib.hid (show gs = false by rw [HG.out, G1, G2, G3]; rfl)
          clear g1 g2 g3
          go_wp2_with fail
          go_meet
          case rel => exact ⟨by rw [HB.out], rfl⟩
      · have G2 : decide (i ≤ (pl : Int)) = false := decide_eq_false g2
        have HB := Lib.hid (show gs = false by rw [HG.out, G1, G2]; rfl)
        clear g1 g2
        go_wp2_with fail
        go_meet
        case rel => exact ⟨by rw [HB.out], rfl⟩
    · have G1 : decide ((1 : Int) ≤ i) = false := decide_eq_false g1
      have HB := Lib.hid (show gs = false by rw [HG.out, G1]; rfl)
      clear g1
      go_wp2_with fail
      go_meet
      case rel => exact ⟨by rw [HB.out], rfl⟩
  case rest =>
  obtain ⟨rfl, rfl⟩ := hcut
  clear HG p0 p1 p2 p3 p4 p5
  generalize wc = v1 at *
  go_upto_if 83 with (fail)
  go_cut [9] (fun _ wx => Hid (Bx wx w.heap.size #[.int .i64 N, .slice ao len cap, .int .i64 i, .int .i64 j, .int .i64 c, .slice dao dl dc] ∧ Two wx (w.heap.size + 1) (.int .i64 M) (.slice bo mlen cb) ∧ Below w.heap.size w wx))
  case first =>
    cases gs
    · go_wp2_with fail
      go_meet
      case rel => exact Lib.hid ⟨PX.out, PY.out, Q0.out⟩
    · obtain ⟨p0, p1, p2, p3, p4, p5⟩ := PF.out _ PX.out
      go_wp2_with fail
      refine (SE.out (by trivial) _ Q0.out).mono ?_
      rintro e v2 ⟨qo, qc, rfl, hQ, hb⟩
      have HQ := Lib.hid hQ
      have PX := Lib.hid (PX.out.kept hb)
      have PY := Lib.hid (PY.out.kept hb)
      have Q0 := Lib.hid (below_on Q0.out hb)
      clear hb hQ p0 p1 p2 p3 p4 p5
      obtain ⟨p0, p1, p2, p3, p4, p5⟩ := PF.out _ PX.out
      go_wp2_with fail
      refine (MV.out (by trivial) _ _ _ HQ.out Q0.out).mono ?_
      rintro e v3 ⟨rfl, hb⟩
      have PX := Lib.hid (PX.out.kept hb)
      have PY := Lib.hid (PY.out.kept hb)
      have Q0 := Lib.hid (below_on Q0.out hb)
      clear hb p0 p1 p2 p3 p4 p5
      go_wp2_with fail
      go_meet
      case rel => exact Lib.hid ⟨PX.out, PY.out, Q0.out⟩
  case rest =>
  have PX := Lib.hid hcut.out.1
  have PY := Lib.hid hcut.out.2.1
  have Q0 := Lib.hid hcut.out.2.2
  clear hcut SE MV
  generalize wc = v4 at *
  obtain ⟨p0, p1, p2, p3, p4, p5⟩ := PF.out _ PX.out
  obtain ⟨q0, q1, _, _⟩ := PY.out.facts
  go_wp2_with fail
  refine (ME.out _ Q0.out).mono ?_
  rintro e w5 ⟨ao5, ck5, rfl, hA, hm, _, hb⟩
  obtain ⟨v5, hv⟩ : ∃ v5, v5 = w5.alloc (.cells #[.int .i64 0, .slice ao5 ([] : List Int).length ck5] 25) := ⟨_, rfl⟩
  have B5 := Lib.hid (show Below v4.heap.size v4 v5 by rw [hv]; exact hb.alloc hb.size _)
  clear hA hm hb
  go_upto_region 11 with (fail)
  try simp only [List.length_nil] at hv
  rw [← hv]
  clear hv
  clear p0 p1 p2 p3 p4 p5 q0 q1
  have PY := Lib.hid (PY.out.kept B5.out)
  have Q0 := Lib.hid (below_on Q0.out B5.out)
  obtain ⟨q0, q1, _, _⟩ := PY.out.facts
  go_wp2_with fail
  refine (HY.out _ Q0.out).mono ?_
  rintro e v6 ⟨rfl, hb⟩
  have Q0 := Lib.hid (below_on Q0.out hb)
  clear hb q0 q1
  go_wp2_with fail
  refine (SH.out _).mono ?_
  rintro e w99 ⟨rfl, hb⟩
  have Q0 := Lib.hid (below_on Q0.out hb)
  clear hb
  go_wp2_with fail
  go_ret
  exact ⟨rfl, Q0.out⟩

set_option maxRecDepth 100000 in
set_option maxHeartbeats 2000000 in
theorem members_7 (N M : Int) (ao bo : Option Addr) (len cap mlen cb : Nat) (i j c : Int) (dao : Option Addr) (dl dc : Nat) (po : Option Addr) (pl pc : Nat) (w : World) (h0 : ¬ 200 < len) (h1 : ¬ 200 < mlen) (h2 : ¬ 100 < dl) (h3 : ¬ 50 < pl) (pq : (pl : Int) = N) (gs : Bool) (HG : Hid (gs = (decide (1 ≤ i) && decide (i ≤ (pl : Int)) && decide (0 ≤ c) && decide (c ≤ 1000)))) (qs : List Pq) (mL : List Int) (hs : Bool) (hy : Bool) (HZ : Hid (∀ W, Below w.heap.size w W → Calls Try.prog 46 #[.agg #[.int .i64 N, .slice ao len cap], .slice po pl pc] W (Made (.tuple #[.bool hs, .int .i64 0]) W)))
    (SE : Hid (gs = true → ∀ W, Below w.heap.size w W → Calls Try.prog 47 #[.slice po pl pc, .int .i64 i, .agg #[.int .i64 c, .int .i64 1]] W (fun e w' => ∃ qo qc, e = .returned (.slice qo pl qc) ∧ Arg2 w' qo qs ∧ Below W.heap.size W w')))
    (MV : Hid (gs = true → ∀ W qo qc, Arg2 W qo qs → Below w.heap.size w W → Calls Try.prog 48 #[.agg #[.int .i64 N, .slice ao len cap, .int .i64 i, .int .i64 j, .int .i64 c, .slice dao dl dc], .slice po pl pc, .slice qo pl qc, .bool hs] W (Made (.bool true) W)))
    (ME : Hid (∀ W, Below w.heap.size w W → Calls Try.prog 42 #[.agg #[.int .i64 N, .slice ao len cap], .agg #[.int .i64 M, .slice bo mlen cb]] W (ZV2 W (zrN 7 N) (zrL 7 mL) 7)))
    (HY : Hid (∀ W, Below w.heap.size w W → Calls Try.prog 46 #[.agg #[.int .i64 M, .slice bo mlen cb], .slice po pl pc] W (Made (.tuple #[.bool hy, .int .i64 0]) W)))
     :
    Calls Try.prog 6 #[.agg #[.int .i64 N, .slice ao len cap, .int .i64 i, .int .i64 j, .int .i64 c, .slice dao dl dc], .agg #[.int .i64 M, .slice bo mlen cb], .slice po pl pc] w (Made (.bool true) w) := by
  have DN : ((pl : Int) == N) = true := by simp; omega
  clear pq
  have hzn : ¬ ((7 : Int) = 0) := by decide
  simp only [zrN, zrL, if_neg hzn] at ME
  clear hzn
  unfold ZV2 at ME
  have SH := Lib.hid (fun W => shown3_any W)
  have D0 : decide ((200 : Int) < (len : Int)) = false := by simp; omega
  have D1 : decide ((200 : Int) < (mlen : Int)) = false := by simp; omega
  have D2 : decide ((100 : Int) < (dl : Int)) = false := by simp; omega
  have D3 : decide ((50 : Int) < (pl : Int)) = false := by simp; omega
  clear h0 h1 h2 h3
  have PF := Lib.hid (show ∀ W, Bx W w.heap.size #[.int .i64 N, .slice ao len cap, .int .i64 i, .int .i64 j, .int .i64 c, .slice dao dl dc] → (W.cell? ⟨w.heap.size, 0, none⟩ = some (.int .i64 N) ∧ W.cell? ⟨w.heap.size, 1, none⟩ = some (.slice ao len cap) ∧ W.cell? ⟨w.heap.size, 2, none⟩ = some (.int .i64 i) ∧ W.cell? ⟨w.heap.size, 3, none⟩ = some (.int .i64 j) ∧ W.cell? ⟨w.heap.size, 4, none⟩ = some (.int .i64 c) ∧ W.cell? ⟨w.heap.size, 5, none⟩ = some (.slice dao dl dc)) from fun W h => ⟨h.cell 0, h.cell 1, h.cell 2, h.cell 3, h.cell 4, h.cell 5⟩)
  obtain ⟨w0, hw0⟩ : ∃ w0, w0 = ((w.alloc (.cells #[.int .i64 N, .slice ao len cap, .int .i64 i, .int .i64 j, .int .i64 c, .slice dao dl dc] 37)).alloc (.cells #[.int .i64 M, .slice bo mlen cb] 25)) := ⟨_, rfl⟩
  have PX := Lib.hid (show Bx w0 w.heap.size #[.int .i64 N, .slice ao len cap, .int .i64 i, .int .i64 j, .int .i64 c, .slice dao dl dc] by rw [hw0]; exact (Bx.made _ _ _).kept (one_more _))
  have PY := Lib.hid (show Two w0 (w.heap.size + 1) (.int .i64 M) (.slice bo mlen cb) by
    rw [hw0]
    have := Two.made (w.alloc (.cells #[.int .i64 N, .slice ao len cap, .int .i64 i, .int .i64 j, .int .i64 c, .slice dao dl dc] 37)) (.int .i64 M) (.slice bo mlen cb) 25
    simpa using this)
  have Q0 := Lib.hid (show Below w.heap.size w w0 by rw [hw0]; exact past_two (Below.refl _ _))
  go_enter Try.func6, Try.ntmps6
  go_upto_region 1 with (fail)
  rw [← hw0]
  clear hw0
  obtain ⟨p0, p1, p2, p3, p4, p5⟩ := PF.out _ PX.out
  obtain ⟨q0, q1, _, _⟩ := PY.out.facts
  go_wp2_with fail
  refine (HZ.out _ Q0.out).mono ?_
  rintro e v1 ⟨rfl, hb⟩
  clear p0 p1 p2 p3 p4 p5 q0 q1
  have PX := Lib.hid (PX.out.kept hb)
  have PY := Lib.hid (PY.out.kept hb)
  have Q0 := Lib.hid (below_on Q0.out hb)
  clear hb
  obtain ⟨p0, p1, p2, p3, p4, p5⟩ := PF.out _ PX.out
  go_upto_region 6 with (fail)
  go_cut [83] (fun s wx => s = .bool gs ∧ wx = v1)
  case first =>
    by_cases g1 : 1 ≤ i
    · have G1 : decide ((1 : Int) ≤ i) = true := decide_eq_true g1
      by_cases g2 : i ≤ (pl : Int)
      · have G2 : decide (i ≤ (pl : Int)) = true := decide_eq_true g2
        by_cases g3 : 0 ≤ c
        · have G3 : decide ((0 : Int) ≤ c) = true := decide_eq_true g3
          by_cases g4 : c ≤ 1000
          · have G4 : decide (c ≤ 1000) = true := decide_eq_true g4
            have HB := Lib.hid (show gs = true by rw [HG.out, G1, G2, G3, G4]; rfl)
            clear g1 g2 g3 g4
            go_wp2_with fail
            go_meet
            case rel => exact ⟨by rw [HB.out], rfl⟩
          · have G4 : decide (c ≤ 1000) = false := decide_eq_false g4
            have HB := Lib.hid (show gs = false by rw [HG.out, G1, G2, G3, G4]; rfl)
            clear g1 g2 g3 g4
            go_wp2_with fail
            go_meet
            case rel => exact ⟨by rw [HB.out], rfl⟩
        · have G3 : decide ((0 : Int) ≤ c) = false := decide_eq_false g3
          have HB := Lib.hid (show gs = false by rw [HG.out, G1, G2, G3]; rfl)
          clear g1 g2 g3
          go_wp2_with fail
          go_meet
          case rel => exact ⟨by rw [HB.out], rfl⟩
      · have G2 : decide (i ≤ (pl : Int)) = false := decide_eq_false g2
        have HB := Lib.hid (show gs = false by rw [HG.out, G1, G2]; rfl)
        clear g1 g2
        go_wp2_with fail
        go_meet
        case rel => exact ⟨by rw [HB.out], rfl⟩
    · have G1 : decide ((1 : Int) ≤ i) = false := decide_eq_false g1
      have HB := Lib.hid (show gs = false by rw [HG.out, G1]; rfl)
      clear g1
      go_wp2_with fail
      go_meet
      case rel => exact ⟨by rw [HB.out], rfl⟩
  case rest =>
  obtain ⟨rfl, rfl⟩ := hcut
  clear HG p0 p1 p2 p3 p4 p5
  generalize wc = v1 at *
  go_upto_if 83 with (fail)
  go_cut [9] (fun _ wx => Hid (Bx wx w.heap.size #[.int .i64 N, .slice ao len cap, .int .i64 i, .int .i64 j, .int .i64 c, .slice dao dl dc] ∧ Two wx (w.heap.size + 1) (.int .i64 M) (.slice bo mlen cb) ∧ Below w.heap.size w wx))
  case first =>
    cases gs
    · go_wp2_with fail
      go_meet
      case rel => exact Lib.hid ⟨PX.out, PY.out, Q0.out⟩
    · obtain ⟨p0, p1, p2, p3, p4, p5⟩ := PF.out _ PX.out
      go_wp2_with fail
      refine (SE.out (by trivial) _ Q0.out).mono ?_
      rintro e v2 ⟨qo, qc, rfl, hQ, hb⟩
      have HQ := Lib.hid hQ
      have PX := Lib.hid (PX.out.kept hb)
      have PY := Lib.hid (PY.out.kept hb)
      have Q0 := Lib.hid (below_on Q0.out hb)
      clear hb hQ p0 p1 p2 p3 p4 p5
      obtain ⟨p0, p1, p2, p3, p4, p5⟩ := PF.out _ PX.out
      go_wp2_with fail
      refine (MV.out (by trivial) _ _ _ HQ.out Q0.out).mono ?_
      rintro e v3 ⟨rfl, hb⟩
      have PX := Lib.hid (PX.out.kept hb)
      have PY := Lib.hid (PY.out.kept hb)
      have Q0 := Lib.hid (below_on Q0.out hb)
      clear hb p0 p1 p2 p3 p4 p5
      go_wp2_with fail
      go_meet
      case rel => exact Lib.hid ⟨PX.out, PY.out, Q0.out⟩
  case rest =>
  have PX := Lib.hid hcut.out.1
  have PY := Lib.hid hcut.out.2.1
  have Q0 := Lib.hid hcut.out.2.2
  clear hcut SE MV
  generalize wc = v4 at *
  obtain ⟨p0, p1, p2, p3, p4, p5⟩ := PF.out _ PX.out
  obtain ⟨q0, q1, _, _⟩ := PY.out.facts
  go_wp2_with fail
  refine (ME.out _ Q0.out).mono ?_
  rintro e w5 ⟨ao5, ck5, rfl, hA, hm, _, hb⟩
  obtain ⟨v5, hv⟩ : ∃ v5, v5 = w5.alloc (.cells #[.int .i64 0, .slice ao5 ([] : List Int).length ck5] 25) := ⟨_, rfl⟩
  have B5 := Lib.hid (show Below v4.heap.size v4 v5 by rw [hv]; exact hb.alloc hb.size _)
  clear hA hm hb
  go_upto_region 11 with (fail)
  try simp only [List.length_nil] at hv
  rw [← hv]
  clear hv
  clear p0 p1 p2 p3 p4 p5 q0 q1
  have PY := Lib.hid (PY.out.kept B5.out)
  have Q0 := Lib.hid (below_on Q0.out B5.out)
  obtain ⟨q0, q1, _, _⟩ := PY.out.facts
  go_wp2_with fail
  refine (HY.out _ Q0.out).mono ?_
  rintro e v6 ⟨rfl, hb⟩
  have Q0 := Lib.hid (below_on Q0.out hb)
  clear hb q0 q1
  go_wp2_with fail
  refine (SH.out _).mono ?_
  rintro e w99 ⟨rfl, hb⟩
  have Q0 := Lib.hid (below_on Q0.out hb)
  clear hb
  go_wp2_with fail
  go_ret
  exact ⟨rfl, Q0.out⟩
end Go.Proofs.Ytbnebinpemejlaa

namespace Go.Proofs.Ytbnebinpemejlaa
open Go.RowKit

set_option maxRecDepth 100000 in
set_option maxHeartbeats 4000000 in
theorem zcy_gen (N : Int) (l : List Int) (ao : Option Addr) (cap : Nat) (i j : Int) (w : World) (hA : Arg w ao l) :
    Calls Try.prog 36 #[.agg #[.int .i64 N, .slice ao l.length cap], .int .i64 i, .int .i64 j] w (ZRes w N (cyM N.toNat i.toNat j.toNat l) (cyG N l i j)) := by
  have CH := Lib.hid (show ∀ W p q al, Below w.heap.size w W → W.cell? p = some (.int .i64 i) → W.cell? q = some (.int .i64 j) → al = (ckB N i 1 && ckB N j 0) → _ from fun W p q al h hp hq hal => ch_cy N l ao cap i j p q W (hA.on h) hp hq al hal)
  have CK := Lib.hid (fun W => isClock_any N i 1 (.slice ao l.length cap) W)
  have CKK := Lib.hid (show ∀ W (x f : Int) (b : Bool), (x = i ∧ f = 1 ∧ b = ckB N i 1) ∨ (x = j ∧ f = 0 ∧ b = ckB N j 0) → Calls Try.prog 74 #[.agg #[.int .i64 N, .slice ao l.length cap], .int .i64 x, .int .i64 f] W (Made (.bool b) W) from fun W x f b h => by
    rcases h with ⟨rfl, rfl, rfl⟩ | ⟨rfl, rfl, rfl⟩ <;> exact isClock_any N _ _ _ W)
  generalize cyM N.toNat i.toNat j.toNat l = r at *
  generalize cyG N l i j = er at *
  generalize ckB N i 1 = k1 at *
  generalize ckB N j 0 = k2 at *
  generalize l.length = len at *
  obtain ⟨w0, hw0⟩ : ∃ w0, w0 = (((w.alloc (.cells #[.int .i64 N, .slice ao len cap] 25)).alloc (.cells #[.int .i64 i] 3)).alloc (.cells #[.int .i64 j] 3)).alloc (.cells #[.int .i64 0, .slice none 0 0] 25) := ⟨_, rfl⟩
  have b0 : w0.cell? ⟨w.heap.size, 0, none⟩ = some (.int .i64 N) := by rw [hw0]; go_simp
  have b1 : w0.cell? ⟨w.heap.size, 1, none⟩ = some (.slice ao len cap) := by rw [hw0]; go_simp
  have b2 : w0.cell? ⟨w.heap.size + 1, 0, none⟩ = some (.int .i64 i) := by rw [hw0]; go_simp
  have b3 : w0.cell? ⟨w.heap.size + 1 + 1, 0, none⟩ = some (.int .i64 j) := by rw [hw0]; go_simp
  have rs : Two w0 (w.heap.size + 1 + 1 + 1) (.int .i64 0) (.slice none 0 0) := by
    rw [hw0]
    have := Two.made (((w.alloc (.cells #[.int .i64 N, .slice ao len cap] 25)).alloc (.cells #[.int .i64 i] 3)).alloc (.cells #[.int .i64 j] 3)) (.int .i64 0) (.slice none 0 0) 25
    simpa using this
  have z0 : w0.heap.size = w.heap.size + 4 := by rw [hw0]; simp
  have E0 := Lib.hid (show Below w.heap.size w w0 by rw [hw0]; exact (past_three (Below.refl _ _)).alloc (by simp; omega) _)
  have KS := Lib.hid (show ∀ w' : World, Below w0.heap.size w0 w' → w'.cell? ⟨w.heap.size, 0, none⟩ = some (.int .i64 N) ∧ w'.cell? ⟨w.heap.size, 1, none⟩ = some (.slice ao len cap) ∧ w'.cell? ⟨w.heap.size + 1, 0, none⟩ = some (.int .i64 i) ∧ w'.cell? ⟨w.heap.size + 1 + 1, 0, none⟩ = some (.int .i64 j) from fun w' h => ⟨kept h b0, kept h b1, kept h b2, kept h b3⟩)
  have KP := Lib.hid (show ∀ (w' : World) (u v : Value), Below w0.heap.size w0 w' → (((w'.setCell ⟨w.heap.size + 1 + 1 + 1, 0, none⟩ u).setCell ⟨w.heap.size + 1 + 1 + 1, 1, none⟩ v).cell? ⟨w.heap.size, 0, none⟩ = some (.int .i64 N) ∧ ((w'.setCell ⟨w.heap.size + 1 + 1 + 1, 0, none⟩ u).setCell ⟨w.heap.size + 1 + 1 + 1, 1, none⟩ v).cell? ⟨w.heap.size, 1, none⟩ = some (.slice ao len cap) ∧ ((w'.setCell ⟨w.heap.size + 1 + 1 + 1, 0, none⟩ u).setCell ⟨w.heap.size + 1 + 1 + 1, 1, none⟩ v).cell? ⟨w.heap.size + 1, 0, none⟩ = some (.int .i64 i) ∧ ((w'.setCell ⟨w.heap.size + 1 + 1 + 1, 0, none⟩ u).setCell ⟨w.heap.size + 1 + 1 + 1, 1, none⟩ v).cell? ⟨w.heap.size + 1 + 1, 0, none⟩ = some (.int .i64 j)) from
    fun w' u v h => ⟨aside_two (kept h b0) (by show w.heap.size ≠ _; omega) u v, aside_two (kept h b1) (by show w.heap.size ≠ _; omega) u v, aside_two (kept h b2) (by show w.heap.size + 1 ≠ _; omega) u v, aside_two (kept h b3) (by show w.heap.size + 1 + 1 ≠ _; omega) u v⟩)
  have HRS := Lib.hid rs
  have BD := Lib.hid (show Below w0.heap.size w0 w0.drew from (Below.refl _ _).drew)
  clear hA b0 b1 b2 b3 rs
  cases k1
  · have HAL := Lib.hid (show false = (false && k2) from rfl)
    go_enter Try.func36, Try.ntmps36
    go_wp2_with fail
    rw [← hw0]
    clear hw0
    refine wp_region_held_drew (S := (fun w' => w'.cell? ⟨w.heap.size, 0, none⟩ = some (.int .i64 N) ∧ w'.cell? ⟨w.heap.size, 1, none⟩ = some (.slice ao len cap) ∧ w'.cell? ⟨w.heap.size + 1, 0, none⟩ = some (.int .i64 i) ∧ w'.cell? ⟨w.heap.size + 1 + 1, 0, none⟩ = some (.int .i64 j))) (by kernel_rfl) (KS.out _ BD.out) (fun h0 => ?_)
    refine wpAnyH_take (i := 0) (v := .agg #[.int .i64 N, .slice ao len cap]) rfl (by kernel_rfl) (by kernel_rfl) (by kernel_rfl) (fun _ _ _ h => h) (Or.inl ⟨by rfl, fun w' hS => by (obtain ⟨c0, c1, c2, c3⟩ := hS; go_simp)⟩) h0 ?_
    simp only [Act.put, List.getElem_toArray, List.getElem_cons_zero, List.setIfInBounds_toArray, List.set_cons_zero, List.set_cons_succ]
    refine wpAnyH_take (i := 1) (v := .agg #[.int .i64 N, .slice ao len cap]) rfl (by kernel_rfl) (by kernel_rfl) (by kernel_rfl) (fun _ _ _ h => h) (Or.inl ⟨by rfl, fun w' hS => by (obtain ⟨c0, c1, c2, c3⟩ := hS; go_simp)⟩) h0 ?_
    simp only [Act.put, List.getElem_toArray, List.getElem_cons_zero, List.getElem_cons_succ, List.setIfInBounds_toArray, List.set_cons_zero, List.set_cons_succ]
    refine wpAnyH_take (i := 2) (v := .int .i64 i) rfl (by kernel_rfl) (by kernel_rfl) (by kernel_rfl) (fun _ _ _ h => h) (Or.inl ⟨by rfl, fun w' hS => by (obtain ⟨c0, c1, c2, c3⟩ := hS; go_simp)⟩) h0 ?_
    simp only [Act.put, List.getElem_toArray, List.getElem_cons_zero, List.getElem_cons_succ, List.setIfInBounds_toArray, List.set_cons_zero, List.set_cons_succ]
    refine wpAnyH_take (i := 9) (v := .func (.func 92) #[] #[.pointer (some ⟨w.heap.size + 1, 0, none⟩), .pointer (some ⟨w.heap.size + 1 + 1, 0, none⟩)]) rfl (by kernel_rfl) (by kernel_rfl) (by kernel_rfl) (fun _ _ _ h => h) (Or.inl ⟨by rfl, fun w' hS => by go_simp⟩) h0 ?_
    simp only [Act.put, List.getElem_toArray, List.getElem_cons_zero, List.getElem_cons_succ, List.setIfInBounds_toArray, List.set_cons_zero, List.set_cons_succ]
    refine wpAnyH_ready (rs := [3]) (by kernel_rfl) (by simp) (AllReadyH.cons rfl (fun K hK => ?_) AllReadyH.nil)
    rw [if_pos (by rfl)]
    go_simp
    refine (CK.out _).mono ?_
    rintro e wa ⟨rfl, hba⟩
    have hb1 := below_on BD.out hba
    go_simp
    refine hK.out _ _ (KS.out _ hb1) (fun h1 => ?_)
    clear hK K h0
    refine wpAnyH_take (i := 4) (v := .bool false) rfl (by kernel_rfl) (by kernel_rfl) (by kernel_rfl) (fun _ _ _ h => h) (Or.inl ⟨by rfl, fun w' hS => by go_simp⟩) h1 ?_
    simp only [Act.put, List.getElem_toArray, List.getElem_cons_zero, List.getElem_cons_succ, List.setIfInBounds_toArray, List.set_cons_zero, List.set_cons_succ]
    refine wpAnyH_take (i := 5) (v := undef) rfl (by kernel_rfl) (by kernel_rfl) (by kernel_rfl) (fun _ _ _ h => h) (Or.inr ⟨by rfl, rfl⟩) h1 ?_
    simp only [Act.put, List.getElem_toArray, List.getElem_cons_zero, List.getElem_cons_succ, List.setIfInBounds_toArray, List.set_cons_zero, List.set_cons_succ]
    refine wpAnyH_take (i := 6) (v := undef) rfl (by kernel_rfl) (by kernel_rfl) (by kernel_rfl) (fun _ _ _ h => h) (Or.inr ⟨by rfl, rfl⟩) h1 ?_
    simp only [Act.put, List.getElem_toArray, List.getElem_cons_zero, List.getElem_cons_succ, List.setIfInBounds_toArray, List.set_cons_zero, List.set_cons_succ]
    refine wpAnyH_take (i := 7) (v := undef) rfl (by kernel_rfl) (by kernel_rfl) (by kernel_rfl) (fun _ _ _ h => h) (Or.inr ⟨by rfl, rfl⟩) h1 ?_
    simp only [Act.put, List.getElem_toArray, List.getElem_cons_zero, List.getElem_cons_succ, List.setIfInBounds_toArray, List.set_cons_zero, List.set_cons_succ]
    refine wpAnyH_take (i := 8) (v := .bool false) rfl (by kernel_rfl) (by kernel_rfl) (by kernel_rfl) (fun _ _ _ h => h) (Or.inl ⟨by rfl, fun w' hS => by go_simp⟩) h1 ?_
    simp only [Act.put, List.getElem_toArray, List.getElem_cons_zero, List.getElem_cons_succ, List.setIfInBounds_toArray, List.set_cons_zero, List.set_cons_succ]
    refine wpAnyH_ready (rs := [10]) (by kernel_rfl) (by simp) (AllReadyH.cons rfl (fun K hK => ?_) AllReadyH.nil)
    rw [if_pos (by rfl)]
    go_simp
    refine (CH.out _ _ _ _ (below_on E0.out hb1) (KS.out _ hb1).2.2.1 (KS.out _ hb1).2.2.2 HAL.out).mono ?_
    intro e wb hz
    obtain ⟨hb4, hres⟩ := hz
    have hb2 := below_on hb1 hb4
    obtain ⟨q0, q1, q2, q3⟩ := (HRS.out.kept hb2).facts
    rcases hres with ⟨he, g, cc, rfl, hg, hO⟩ | ⟨he, rfl⟩
    · subst he
      go_simp
      refine hK.out _ _ (KS.out _ hb2) (fun h2 => ?_)
      clear hK K
      refine wpAnyH_take (i := 11) (v := .agg #[.int .i64 N, .slice (some ⟨g, 0, none⟩) r.length cc]) rfl (by kernel_rfl) (by kernel_rfl) (by kernel_rfl) (fun _ _ _ h => h) (Or.inl ⟨by rfl, fun w' hS => by go_simp⟩) h2 ?_
      simp only [Act.put, List.getElem_toArray, List.getElem_cons_zero, List.getElem_cons_succ, List.setIfInBounds_toArray, List.set_cons_zero, List.set_cons_succ]
      refine wpAnyH_take (i := 12) (v := .int .i64 0) rfl (by kernel_rfl) (by kernel_rfl) (by kernel_rfl) (fun _ _ _ h => h) (Or.inl ⟨by rfl, fun w' hS => by go_simp⟩) h2 ?_
      simp only [Act.put, List.getElem_toArray, List.getElem_cons_zero, List.getElem_cons_succ, List.setIfInBounds_toArray, List.set_cons_zero, List.set_cons_succ]
      refine wpAnyH_ready (rs := [13]) (by kernel_rfl) (by simp) (AllReadyH.cons rfl (fun K hK => ?_) AllReadyH.nil)
      rw [if_pos (by rfl)]
      go_simp
      refine hK.out _ _ (KP.out _ _ _ hb2) (fun h3 => ?_)
      clear hK K
      refine wpAnyH_take (i := 14) (v := .int .i64 0) rfl (by kernel_rfl) (by kernel_rfl) (by kernel_rfl) (fun _ _ _ h => h) (Or.inl ⟨by rfl, fun w' hS => by go_simp⟩) h3 ?_
      simp only [Act.put, List.getElem_toArray, List.getElem_cons_zero, List.getElem_cons_succ, List.setIfInBounds_toArray, List.set_cons_zero, List.set_cons_succ]
      refine wpAnyH_done (by kernel_rfl) ?_ _
      go_wp2_with fail
      refine bodyPost_ret (v := .tuple #[.agg #[.int .i64 N, .slice (some ⟨g, 0, none⟩) r.length cc], .int .i64 0]) (by simp [results, Try.results36, go_sem, q0, q1]) rfl (zres_over E0.out hb2 hO (Nat.le_trans hb1.size hg) (by omega) (by omega) _ _)
    · go_simp
      refine hK.out _ _ (KS.out _ hb2) (fun h2 => ?_)
      clear hK K
      refine wpAnyH_take (i := 11) (v := .agg #[.int .i64 0, .slice none 0 0]) rfl (by kernel_rfl) (by kernel_rfl) (by kernel_rfl) (fun _ _ _ h => h) (Or.inl ⟨by rfl, fun w' hS => by go_simp⟩) h2 ?_
      simp only [Act.put, List.getElem_toArray, List.getElem_cons_zero, List.getElem_cons_succ, List.setIfInBounds_toArray, List.set_cons_zero, List.set_cons_succ]
      refine wpAnyH_take (i := 12) (v := .int .i64 er) rfl (by kernel_rfl) (by kernel_rfl) (by kernel_rfl) (fun _ _ _ h => h) (Or.inl ⟨by rfl, fun w' hS => by go_simp⟩) h2 ?_
      simp only [Act.put, List.getElem_toArray, List.getElem_cons_zero, List.getElem_cons_succ, List.setIfInBounds_toArray, List.set_cons_zero, List.set_cons_succ]
      refine wpAnyH_ready (rs := [13]) (by kernel_rfl) (by simp) (AllReadyH.cons rfl (fun K hK => ?_) AllReadyH.nil)
      rw [if_pos (by rfl)]
      go_simp
      refine hK.out _ _ (KP.out _ _ _ hb2) (fun h3 => ?_)
      clear hK K
      refine wpAnyH_take (i := 14) (v := .int .i64 er) rfl (by kernel_rfl) (by kernel_rfl) (by kernel_rfl) (fun _ _ _ h => h) (Or.inl ⟨by rfl, fun w' hS => by go_simp⟩) h3 ?_
      simp only [Act.put, List.getElem_toArray, List.getElem_cons_zero, List.getElem_cons_succ, List.setIfInBounds_toArray, List.set_cons_zero, List.set_cons_succ]
      refine wpAnyH_done (by kernel_rfl) ?_ _
      go_wp2_with fail
      refine bodyPost_ret (v := .tuple #[.agg #[.int .i64 0, .slice none 0 0], .int .i64 er]) (by simp [results, Try.results36, go_sem, q0, q1]) rfl (zres_over0 E0.out hb2 he (by omega) _ _)
  · have HAL := Lib.hid (show k2 = (true && k2) from rfl)
    go_enter Try.func36, Try.ntmps36
    go_wp2_with fail
    rw [← hw0]
    clear hw0
    by_cases he : er = 0
    · subst he
      go_region_held3 (fun w' => w'.cell? ⟨w.heap.size, 0, none⟩ = some (.int .i64 N) ∧ w'.cell? ⟨w.heap.size, 1, none⟩ = some (.slice ao len cap) ∧ w'.cell? ⟨w.heap.size + 1, 0, none⟩ = some (.int .i64 i) ∧ w'.cell? ⟨w.heap.size + 1 + 1, 0, none⟩ = some (.int .i64 j)) (first | exact KS.out _ BD.out | exact KS.out _ (by assumption) | exact KP.out _ _ _ (by assumption))
        (first | (go_at_call 74; refine (CKK.out _ _ _ _ (by first | exact Or.inl ⟨rfl, rfl, rfl⟩ | exact Or.inr ⟨rfl, rfl, rfl⟩)).mono ?_; rintro e wa ⟨rfl, hba⟩; have hb1 := below_on (by first | exact hb1 | exact BD.out) hba) | (go_at_call 76; refine (CH.out _ _ _ _ (below_on E0.out hb1) (KS.out _ hb1).2.2.1 (KS.out _ hb1).2.2.2 HAL.out).mono ?_; intro e wb hz; obtain ⟨g, cc, rfl, hg, hO⟩ := hz.ok rfl; have hb2 := below_on hb1 hz.1; obtain ⟨q0, q1, q2, q3⟩ := (HRS.out.kept hb2).facts))
      all_goals
        go_wp2_with fail
        refine bodyPost_ret (v := .tuple #[.agg #[.int .i64 N, .slice (some ⟨g, 0, none⟩) r.length cc], .int .i64 0]) (by simp [results, Try.results36, go_sem, q0, q1]) rfl (zres_over E0.out hb2 hO.1 (Nat.le_trans hb1.size hg) (by omega) (by omega) _ _)
    · go_region_held3 (fun w' => w'.cell? ⟨w.heap.size, 0, none⟩ = some (.int .i64 N) ∧ w'.cell? ⟨w.heap.size, 1, none⟩ = some (.slice ao len cap) ∧ w'.cell? ⟨w.heap.size + 1, 0, none⟩ = some (.int .i64 i) ∧ w'.cell? ⟨w.heap.size + 1 + 1, 0, none⟩ = some (.int .i64 j)) (first | exact KS.out _ BD.out | exact KS.out _ (by assumption) | exact KP.out _ _ _ (by assumption))
        (first | (go_at_call 74; refine (CKK.out _ _ _ _ (by first | exact Or.inl ⟨rfl, rfl, rfl⟩ | exact Or.inr ⟨rfl, rfl, rfl⟩)).mono ?_; rintro e wa ⟨rfl, hba⟩; have hb1 := below_on (by first | exact hb1 | exact BD.out) hba) | (go_at_call 76; refine (CH.out _ _ _ _ (below_on E0.out hb1) (KS.out _ hb1).2.2.1 (KS.out _ hb1).2.2.2 HAL.out).mono ?_; intro e wb hz; obtain ⟨rfl, hzb⟩ := hz.no he; have hb2 := below_on hb1 hzb; obtain ⟨q0, q1, q2, q3⟩ := (HRS.out.kept hb2).facts))
      all_goals
        go_wp2_with fail
        refine bodyPost_ret (v := .tuple #[.agg #[.int .i64 0, .slice none 0 0], .int .i64 er]) (by simp [results, Try.results36, go_sem, q0, q1]) rfl (zres_over0 E0.out hb2 he (by omega) _ _)
end Go.Proofs.Ytbnebinpemejlaa

namespace Go.Proofs.Ytbnebinpemejlaa
open Go.RowKit

/-- Before: what the round j does. u, d: the limits of the constant. -/
def bfS (n i : Nat) (u d : Int) (x : List Int) (j : Nat) : List Int :=
  let y := x.set (Zo.ix n j 0) (imin (Zo.At n x j 0) (Zo.smW (Zo.At n x j i) u))
  y.set (Zo.ix n 0 j) (imin (Zo.At n y 0 j) (Zo.smW (Zo.At n y i j) d))

def bfL (n i : Nat) (c : Int) (l : List Int) : List Int := (List.range (n + 1)).foldl (bfS n i (2 * c + 1) (-2 * c + 1)) l

theorem bfS_len (n i : Nat) (u d : Int) (x : List Int) (t : Nat) : (bfS n i u d x t).length = x.length := by simp [bfS]

theorem bfL_len (n i : Nat) (c : Int) (l : List Int) : (bfL n i c l).length = l.length := fold_len (bfS_len n i _ _) l _

set_option maxRecDepth 100000 in
set_option maxHeartbeats 4000000 in
theorem be1_any (b n i : Nat) (c : Int) (p q : Addr) (l : List Int) (w0 w : World) (hn : n ≤ 10) (hi : i ≤ n) (h0 : 0 ≤ c) (h1 : c ≤ 1048576) (h : Mx w b n l) (hp : w0.cell? p = some (.int .i64 c)) (hq : w0.cell? q = some (.int .i64 i)) (hb : Below w0.heap.size w0 w) (hle : w0.heap.size ≤ b) :
    Calls Try.prog 90 #[.pointer (some ⟨b, 0, none⟩), .pointer (some p), .pointer (some q)] w (Chg w b n (rlL n i (bfL n i c l))) := by
  have KQ := Lib.hid (show ∀ x w', MSt w b n x w' → w'.cell? q = some (.int .i64 i) from fun x w' hx => hx.old hb hle hq)
  have RE := Lib.hid (fun (x : List Int) (w' : World) (h : Mx w' b n x) => release_any b n i x w' hn hi h)
  have EQ := Lib.hid (fun W => equals_any h0 h1 W)
  have TT := Lib.hid (fun (x : List Int) (i j : Nat) (v : Int) (hi : i ≤ n) (hj : j ≤ n) (w' : World) (h : MSt w b n x w') => tighten_st (i := i) (j := j) v hn hi hj h)
  have c1 : w.cell? p = some (.int .i64 c) := kept hb hp
  have c2 : w.cell? q = some (.int .i64 i) := kept hb hq
  have HM := Lib.hid (show MSt w b n l w from ⟨h, World.grownBy.refl _ _⟩)
  have TR := Lib.hid (fun (x : List Int) (i : Nat) (hi : i ≤ n) (w' : World) (h : MSt w b n x w') => row_any b n i w' hn hi h.1.dim)
  have HL := Lib.hid h.2
  have c0 := h.dim
  clear h hp hq hb hle
  go_enter Try.func90, Try.ntmps90
  go_wp2_with fail
  refine (EQ.out _).mono ?_
  rintro e w1 ⟨rfl, hw⟩
  rw [hw]; clear hw w1
  go_wp2_with fail
  clear c0 c1 c2
  go_loopw [17] (fun s wr => ∃ (t : Nat) (x : List Int), t ≤ n + 1 ∧ s = .int .i64 t ∧ Hid (x.length = (n + 1) * (n + 1) ∧ x = (List.range t).foldl (bfS n i (2 * c + 1) (-2 * c + 1)) l ∧ MSt w b n x wr)) (fun s _ => n + 1 - (intOf s).toNat)
  case atStart => exact ⟨0, l, by omega, rfl, Lib.hid ⟨HL.out, rfl, HM.out⟩⟩
  case round =>
    obtain ⟨t, x, ht, rfl, HX⟩ := hrel
    by_cases htn : t ≤ n
    · have tti := Zo.ix_lt htn hi
      have tit := Zo.ix_lt hi htn
      have HXL := Lib.hid HX.out.1
      have d0 := KQ.out _ _ HX.out.2.2
      have d1 : wr.cell? ⟨b, 1 + t * (n + 1) + i, none⟩ = some (.int .i64 (Zo.At n x t i)) := by
        rw [Nat.add_assoc]; exact HX.out.2.2.1.at (by rw [HX.out.1]; exact tti)
      have HD := Lib.hid HX.out.2.2.drew
      have PR := TR.out _ t htn _ HD.out
      have PS := zsum_any (Zo.At n x t i) (2 * c + 1) wr.drew
      go_wp2_with fail
      go_still_tail 10, (by kernel_rfl)
      still_call PR
      repeat still_step
      refine wpStill_step (fun K hK => ?_)
      go_simp
      rw [if_pos (show (i : Int) < (n : Int) + 1 by omega)]
      refine ⟨rfl, hK _ ?_⟩
      clear hK K
      repeat still_step
      still_call PS
      repeat still_step
      refine wpStill_nil ?_
      clear d0 d1 PR PS
      change wpList _ _ _ _ _ (World.drew _)
      go_wp2_with fail
      refine (TT.out _ t 0 _ htn (by omega) _ HD.out).mono ?_
      rintro e w1 ⟨rfl, hm⟩
      obtain ⟨y, hy⟩ : ∃ y, y = x.set (Zo.ix n t 0) (imin (Zo.At n x t 0) (Zo.smW (Zo.At n x t i) (2 * c + 1))) := ⟨_, rfl⟩
      rw [← hy] at hm
      have HY := Lib.hid hy
      have HYL := Lib.hid (show y.length = (n + 1) * (n + 1) by rw [hy, List.length_set]; exact HXL.out)
      have HM1 := Lib.hid hm
      have d0 := KQ.out _ _ hm
      have d1 : w1.cell? ⟨b, 1 + i * (n + 1) + t, none⟩ = some (.int .i64 (Zo.At n y i t)) := by
        rw [Nat.add_assoc]; exact hm.1.at (by rw [HYL.out]; exact tit)
      clear hm hy HD tit tti
      go_wp2_with fail
      refine (TR.out _ i hi _ HM1.out).mono ?_
      rintro e w2 ⟨rfl, hw⟩
      rw [hw]; clear hw w2
      go_wp2_with fail
      refine (zsum_any _ _ _).mono ?_
      rintro e w2 ⟨rfl, hw⟩
      rw [hw]; clear hw w2
      go_wp2_with fail
      refine (TT.out _ 0 t _ (by omega) htn _ HM1.out).mono ?_
      rintro e w2 ⟨rfl, hm⟩
      have HM2 := Lib.hid (show MSt w b n (bfS n i (2 * c + 1) (-2 * c + 1) x t) w2 by
        unfold bfS; rw [← HY.out]; exact hm)
      clear hm d0 d1
      go_wp2_with fail
      go_roundw
      case rel => exact ⟨t + 1, _, by omega, by go_num, Lib.hid ⟨by rw [bfS_len]; exact HX.out.1, by rw [Zo.fold_succ, ← HX.out.2.1], HM2.out⟩⟩
      case measure => simp [intOf]; omega
    · have HE := Lib.hid (show x = bfL n i c l by rw [HX.out.2.1, show t = n + 1 by omega]; rfl)
      have d0 := KQ.out _ _ HX.out.2.2
      go_wp2_with fail
      refine (RE.out x _ HX.out.2.2.1).mono ?_
      rintro e w1 ⟨rfl, hm⟩
      have HM3 := Lib.hid (show MSt w b n (rlL n i (bfL n i c l)) w1 from ⟨by rw [← HE.out]; exact hm.1, grown_trans HX.out.2.2.2 hm.2⟩)
      clear hm d0
      go_wp2_with fail
      go_end0
      exact ⟨rfl, HM3.out⟩
end Go.Proofs.Ytbnebinpemejlaa

namespace Go.Proofs.Ytbnebinpemejlaa.Zo

theorem smW_big {a b : Int} (ha : a = 1099511627776 ∨ (-1125899906842624 ≤ a ∧ a ≤ 274877906944)) (hb : b = 1099511627776 ∨ (-1125899906842624 ≤ b ∧ b ≤ 274877906944)) :
    smW a b = if a = 1099511627776 ∨ b = 1099511627776 then 1099511627776 else ps a b := by
  unfold smW
  by_cases c : a = 1099511627776 ∨ b = 1099511627776
  · rw [if_pos c, if_pos c]
  · rw [if_neg c, if_neg c]
    unfold ps w64
    split <;> omega

/-- Closed, from the elements. -/
theorem Cl.at {n : Nat} {c : List Int} (hl : c.length = (n + 1) * (n + 1)) (hb : ∀ a b, a ≤ n → b ≤ n → At n c a b = 1099511627776 ∨ (-1125899906842624 ≤ At n c a b ∧ At n c a b ≤ 274877906944))
    (hd : ∀ a, a ≤ n → At n c a a = 1) (hr : ∀ a, a ≤ n → At n c 0 a ≤ 1) (ht : ∀ i j k, i ≤ n → j ≤ n → k ≤ n → At n c i j ≤ smW (At n c i k) (At n c k j)) :
    Cl n c (fun a b => if a ≤ n ∧ b ≤ n then Zo.dec (At n c a b) else none) := by
  refine ⟨⟨hl, fun a b ha hb => ?_⟩, ?_, ?_, ?_, hr⟩
  · show _ = enc (if _ then _ else _)
    rw [if_pos ⟨ha, hb⟩, enc_dec]
  · intro v hv i j
    by_cases h : i ≤ n ∧ j ≤ n
    · have t := ht i j v h.1 h.2 (by omega)
      have b1 := hb i v h.1 (by omega)
      have b2 := hb v j (by omega) h.2
      rw [smW_big b1 b2] at t
      simp only [if_pos h, if_pos (show i ≤ n ∧ v ≤ n by omega), if_pos (show v ≤ n ∧ j ≤ n by omega)]
      unfold Zo.dec
      by_cases c1 : At n c i v = 1099511627776
      · rw [if_pos c1]; exact le_none _
      by_cases c2 : At n c v j = 1099511627776
      · rw [if_pos c2]
        rw [show add (if At n c i v = 1099511627776 then none else some (At n c i v)) none = none by split <;> rfl]
        exact le_none _
      rw [if_neg c1, if_neg c2]
      rw [if_neg (by omega)] at t
      have : ps (At n c i v) (At n c v j) < 1099511627776 := by unfold ps; split <;> omega
      rw [if_neg (by omega)]
      exact t
    · have : add (if i ≤ n ∧ v ≤ n then Zo.dec (At n c i v) else none) (if v ≤ n ∧ j ≤ n then Zo.dec (At n c v j) else none) = none := by
        by_cases hc : i ≤ n
        · rw [show (if v ≤ n ∧ j ≤ n then Zo.dec (At n c v j) else none) = none by rw [if_neg (by omega)]]
          generalize (if i ≤ n ∧ v ≤ n then Zo.dec (At n c i v) else none) = x
          cases x <;> rfl
        · rw [if_neg (by omega)]; rfl
      simp only [this]
      exact le_none _
  · intro i j x h
    simp only at h
    split at h
    · rename_i c
      have := hb i j c.1 c.2
      unfold Zo.dec at h
      split at h
      · simp at h
      · simp at h; omega
    · simp at h
  · intro k hk
    simp only [if_pos (show k ≤ n ∧ k ≤ n by omega), hd k hk]
    rfl

theorem Cl.lim {n : Nat} {c : List Int} {D : Nat → Nat → Lm} (h : Cl n c D) {a b : Nat} (ha : a ≤ n) (hb : b ≤ n) : At n c a b = 1099511627776 ∨ (-1125899906842624 ≤ At n c a b ∧ At n c a b ≤ 274877906944) := by
  rw [h.rep.2 a b ha hb]
  cases e : D a b with
  | none => exact Or.inl rfl
  | some x => exact Or.inr (h.bd a b x e)

theorem Cl.sums {n : Nat} {c : List Int} {D : Nat → Nat → Lm} (h : Cl n c D) {i j k : Nat} (hi : i ≤ n) (hj : j ≤ n) (hk : k ≤ n) : At n c i j ≤ smW (At n c i k) (At n c k j) := by
  have t := h.tri k (by omega) i j
  have b1 := h.lim hi hk
  have b2 := h.lim hk hj
  have b3 := h.lim hi hj
  rw [smW_big b1 b2]
  rw [h.dec hi hj, h.dec hi hk, h.dec hk hj] at t
  unfold Zo.dec at t
  by_cases c1 : At n c i k = 1099511627776
  · rw [if_pos (Or.inl c1)]; omega
  by_cases c2 : At n c k j = 1099511627776
  · rw [if_pos (Or.inr c2)]; omega
  rw [if_neg (by omega)]
  rw [if_neg c1, if_neg c2] at t
  by_cases c3 : At n c i j = 1099511627776
  · rw [if_pos c3] at t; exact t.elim
  · rw [if_neg c3] at t; exact t

/-- An even number is added. -/
def pl (x k : Int) : Int := if x = 1099511627776 then 1099511627776 else x + k

def Bq (x : Int) : Prop := x = 1099511627776 ∨ (-1125899906842624 ≤ x ∧ x ≤ 274877906944)

theorem pl_swap {p q e : Int} (hp : Bq p) (hq : Bq q) (hp1 : 1 ≤ p) (hq1 : q ≤ 1) (h0 : 0 ≤ e) (h1 : e ≤ 2097152) (he : e % 2 = 0) : smW (pl p (-e)) (pl q e) = smW p q := by
  unfold Bq at hp hq
  unfold pl
  by_cases c1 : p = 1099511627776
  · subst c1; rw [if_pos rfl]; unfold smW; rw [if_pos (Or.inl rfl), if_pos (Or.inl rfl)]
  by_cases c2 : q = 1099511627776
  · omega
  rw [if_neg c1, if_neg c2, smW_big (by omega) (by omega), smW_big (by omega) (by omega), if_neg (by omega), if_neg (by omega)]
  unfold ps
  split <;> split <;> omega

theorem pl_r {p q k : Int} (hp : Bq p) (hq : Bq q) (hk : Bq (pl q k)) (h0 : -2097152 ≤ k) (h1 : k ≤ 2097152) (he : k % 2 = 0) : smW p (pl q k) = pl (smW p q) k := by
  rw [smW_big hp hk, smW_big hp hq]
  unfold Bq at hp hq
  unfold pl
  by_cases c1 : p = 1099511627776
  · rw [if_pos (Or.inl c1), if_pos (Or.inl c1), if_pos rfl]
  by_cases c2 : q = 1099511627776
  · rw [if_pos c2, if_pos (Or.inr rfl), if_pos (Or.inr c2), if_pos rfl]
  have := hk
  unfold Bq pl at this
  rw [if_neg c2] at this
  rw [if_neg c2, if_neg (by omega), if_neg (show ¬ (p = 1099511627776 ∨ q = 1099511627776) by omega)]
  unfold ps
  split <;> split <;> split <;> omega

theorem smW_comm (a b : Int) : smW a b = smW b a := by
  unfold smW
  rw [Int.add_comm b a]
  by_cases c1 : a = 1099511627776 ∨ b = 1099511627776
  · rw [if_pos c1, if_pos c1.symm]
  · rw [if_neg c1, if_neg (show ¬ (b = 1099511627776 ∨ a = 1099511627776) from fun h => c1 h.symm)]
    by_cases c2 : a % 2 = 0 ∧ b % 2 = 0
    · rw [if_pos c2, if_pos c2.symm]
    · rw [if_neg c2, if_neg (show ¬ (b % 2 = 0 ∧ a % 2 = 0) from fun h => c2 h.symm)]

theorem pl_l {p q k : Int} (hp : Bq p) (hq : Bq q) (hk : Bq (pl p k)) (h0 : -2097152 ≤ k) (h1 : k ≤ 2097152) (he : k % 2 = 0) : smW (pl p k) q = pl (smW p q) k := by
  rw [smW_comm, pl_r hq hp hk h0 h1 he, smW_comm]

theorem pl_mono {x y k : Int} (hx : Bq x) (h : x ≤ y) (hy : y ≤ 1099511627776) (h0 : -2097152 ≤ k) (h1 : k ≤ 2097152) : pl x k ≤ pl y k := by
  unfold Bq at hx
  unfold pl
  split <;> split <;> omega

theorem smW_top {p q : Int} (hp : Bq p) (hq : Bq q) : smW p q ≤ 1099511627776 := by
  rw [smW_big hp hq]
  unfold Bq at hp hq
  unfold ps
  split
  · omega
  · split <;> omega

/-- A closed matrix k of the other clocks, with the clock i at a constant (e: twice it). -/
def bxG (n i : Nat) (e : Int) (k : List Int) (a b : Nat) : Int := if a = i then (if b = i then 1 else pl (At n k 0 b) e) else if b = i then pl (At n k a 0) (-e) else At n k a b

theorem Cl.low {n : Nat} {k : List Int} {D : Nat → Nat → Lm} (h : Cl n k D) {a : Nat} (ha : a ≤ n) : 1 ≤ At n k a 0 := by
  have t := h.sums (show 0 ≤ n by omega) (show 0 ≤ n by omega) ha
  rw [h.one (by omega), smW_big (h.lim (by omega) ha) (h.lim ha (by omega))] at t
  have := h.row a ha
  by_cases c : At n k a 0 = 1099511627776
  · omega
  · rw [if_neg (by omega)] at t
    unfold ps at t
    split at t <;> omega

theorem bx_cl {n i : Nat} {e : Int} {k : List Int} {D : Nat → Nat → Lm} (h : Cl n k D) (h1 : 1 ≤ i) (h0 : 0 ≤ e) (h2 : e ≤ 2097152) (he : e % 2 = 0) : ∃ D, Cl n (mk n (bxG n i e k)) D := by
  have bl : ∀ a, a ≤ n → Bq (pl (At n k a 0) (-e)) := fun a ha => by
    have := h.lim ha (show 0 ≤ n by omega)
    have := h.low ha
    unfold Bq pl; split <;> omega
  have br : ∀ b, b ≤ n → Bq (pl (At n k 0 b) e) := fun b hb => by
    have := h.lim (show 0 ≤ n by omega) hb
    have := h.row b hb
    unfold Bq pl; split <;> omega
  have lm : ∀ a b, a ≤ n → b ≤ n → Bq (At n k a b) := fun a b ha hb => h.lim ha hb
  have b1 : Bq 1 := Or.inr (by omega)
  have ea : ∀ x y, x = i → y = i → bxG n i e k x y = 1 := fun x y hx hy => by unfold bxG; rw [if_pos hx, if_pos hy]
  have eb : ∀ x y, x = i → y ≠ i → bxG n i e k x y = pl (At n k 0 y) e := fun x y hx hy => by unfold bxG; rw [if_pos hx, if_neg hy]
  have ec : ∀ x y, x ≠ i → y = i → bxG n i e k x y = pl (At n k x 0) (-e) := fun x y hx hy => by unfold bxG; rw [if_neg hx, if_pos hy]
  have ed : ∀ x y, x ≠ i → y ≠ i → bxG n i e k x y = At n k x y := fun x y hx hy => by unfold bxG; rw [if_neg hx, if_neg hy]
  have one : ∀ x, Bq x → smW x 1 = x := fun x hx => smW_one (by unfold Bq at hx; omega) (by unfold Bq at hx; omega)
  refine ⟨_, Cl.at (mk_len _ _) (fun a b ha hb => ?_) (fun a ha => ?_) (fun a ha => ?_) (fun a b v ha hb hv => ?_)⟩
  · rw [mk_at _ ha hb]
    by_cases ca : a = i <;> by_cases cb : b = i
    · rw [ea _ _ ca cb]; exact b1
    · rw [eb _ _ ca cb]; exact br b hb
    · rw [ec _ _ ca cb]; exact bl a ha
    · rw [ed _ _ ca cb]; exact lm a b ha hb
  · rw [mk_at _ ha ha]
    by_cases ca : a = i
    · exact ea _ _ ca ca
    · rw [ed _ _ ca ca]; exact h.one ha
  · rw [mk_at _ (by omega) ha]
    by_cases ca : a = i
    · rw [ec _ _ (by omega) ca, h.one (by omega)]
      unfold pl; rw [if_neg (by omega)]; omega
    · rw [ed _ _ (by omega) ca]; exact h.row a ha
  · rw [mk_at _ ha hb, mk_at _ ha hv, mk_at _ hv hb]
    by_cases ca : a = i <;> by_cases cb : b = i <;> by_cases cv : v = i
    · rw [ea _ _ ca cb, ea _ _ ca cv, ea _ _ cv cb, one 1 b1]; omega
    · rw [ea _ _ ca cb, eb _ _ ca cv, ec _ _ cv cb, smW_comm, pl_swap (lm _ _ hv (by omega)) (lm _ _ (by omega) hv) (h.low hv) (h.row v hv) h0 h2 he, smW_comm]
      have := h.sums (show 0 ≤ n by omega) (show 0 ≤ n by omega) hv
      rwa [h.one (by omega)] at this
    · rw [eb _ _ ca cb, ea _ _ ca cv, eb _ _ cv cb, smW_comm, one _ (br b hb)]; omega
    · rw [eb _ _ ca cb, eb _ _ ca cv, ed _ _ cv cb, pl_l (lm _ _ (by omega) hv) (lm _ _ hv hb) (br v hv) (by omega) h2 he]
      exact pl_mono (lm _ _ (by omega) hb) (h.sums (by omega) hb hv) (smW_top (lm _ _ (by omega) hv) (lm _ _ hv hb)) (by omega) h2
    · rw [ec _ _ ca cb, ec _ _ ca cv, ea _ _ cv cb, one _ (bl a ha)]; omega
    · rw [ec _ _ ca cb, ed _ _ ca cv, ec _ _ cv cb, pl_r (lm _ _ ha hv) (lm _ _ hv (by omega)) (bl v hv) (by omega) (by omega) (by omega)]
      exact pl_mono (lm _ _ ha (by omega)) (h.sums ha (by omega) hv) (smW_top (lm _ _ ha hv) (lm _ _ hv (by omega))) (by omega) (by omega)
    · rw [ed _ _ ca cb, ec _ _ ca cv, eb _ _ cv cb, pl_swap (lm _ _ ha (by omega)) (lm _ _ (by omega) hb) (h.low ha) (h.row b hb) h0 h2 he]
      exact h.sums ha hb (by omega)
    · rw [ed _ _ ca cb, ed _ _ ca cv, ed _ _ cv cb]
      exact h.sums ha hb hv
end Go.Proofs.Ytbnebinpemejlaa.Zo
