/- ZoneTimes: the walks.; ZoneTimes: the walks.; ZoneTimes: the walks. -/
import Derived.Test.YtbnebinpemejlaaHx6
import Derived.Test.YtbnebinpemejlaaHx7
import Derived.Test.YtbnebinpemejlaaHx2

namespace Go.Proofs.Ytbnebinpemejlaa
open Go.RowKit

set_option maxRecDepth 100000 in
set_option maxHeartbeats 1000000 in
theorem times_long1 (N : Int) (ao : Option Addr) (len cap : Nat) (po : Option Addr) (pl pc : Nat) (dn dd : Int) (w : World) (h : 200 < len) :
    Calls Try.prog 8 #[.agg #[.int .i64 N, .slice ao len cap], .slice po pl pc, .agg #[.int .i64 dn, .int .i64 dd]] w (Made (.bool true) w) := by
  have SH := Lib.hid (fun W => shown3_any W)
  have Q0 := Lib.hid (show Below w.heap.size w ((w.alloc (.cells #[.int .i64 N, .slice ao len cap] 25)).alloc (.cells #[.int .i64 dn, .int .i64 dd] 52)) from past_two (Below.refl _ _))
  have D0 : decide ((200 : Int) < (len : Int)) = true := by simp; omega
  go_enter Try.func8, Try.ntmps8
  go_wp2_with fail
  refine (SH.out _).mono ?_
  rintro e w99 ⟨rfl, hb⟩
  have Q0 := Lib.hid (below_on Q0.out hb)
  clear hb
  go_wp2_with fail
  go_ret
  exact ⟨rfl, Q0.out⟩

set_option maxRecDepth 100000 in
set_option maxHeartbeats 1000000 in
theorem times_long2 (N : Int) (ao : Option Addr) (len cap : Nat) (po : Option Addr) (pl pc : Nat) (dn dd : Int) (w : World) (h0 : ¬ 200 < len) (h : 50 < pl) :
    Calls Try.prog 8 #[.agg #[.int .i64 N, .slice ao len cap], .slice po pl pc, .agg #[.int .i64 dn, .int .i64 dd]] w (Made (.bool true) w) := by
  have SH := Lib.hid (fun W => shown3_any W)
  have Q0 := Lib.hid (show Below w.heap.size w ((w.alloc (.cells #[.int .i64 N, .slice ao len cap] 25)).alloc (.cells #[.int .i64 dn, .int .i64 dd] 52)) from past_two (Below.refl _ _))
  have D0 : decide ((200 : Int) < (len : Int)) = false := by simp; omega
  have D1 : decide ((50 : Int) < (pl : Int)) = true := by simp; omega
  go_enter Try.func8, Try.ntmps8
  go_wp2_with fail
  refine (SH.out _).mono ?_
  rintro e w99 ⟨rfl, hb⟩
  have Q0 := Lib.hid (below_on Q0.out hb)
  clear hb
  go_wp2_with fail
  go_ret
  exact ⟨rfl, Q0.out⟩

set_option maxRecDepth 100000 in
set_option maxHeartbeats 2000000 in
theorem times_bad (N : Int) (ao : Option Addr) (len cap : Nat) (po : Option Addr) (pl pc : Nat) (dn dd : Int) (w : World) (g0 : ¬ 200 < len) (g1 : ¬ 50 < pl)
    (UP : Hid (∀ W, Below w.heap.size w W → Calls Try.prog 26 #[.agg #[.int .i64 N, .slice ao len cap]] W (fun e w' => e = .returned (.tuple #[.agg #[.int .i64 0, .slice none 0 0], .int .i64 2]) ∧ Below W.heap.size W w')))
    (DN : Hid (∀ W, Below w.heap.size w W → Calls Try.prog 28 #[.agg #[.int .i64 N, .slice ao len cap]] W (fun e w' => e = .returned (.tuple #[.agg #[.int .i64 0, .slice none 0 0], .int .i64 2]) ∧ Below W.heap.size W w')))
    (CK : Hid (∀ W, Below w.heap.size w W → Calls Try.prog 17 #[.agg #[.int .i64 N, .slice ao len cap]] W (Made (.int .i64 2) W))) :
    Calls Try.prog 8 #[.agg #[.int .i64 N, .slice ao len cap], .slice po pl pc, .agg #[.int .i64 dn, .int .i64 dd]] w (Made (.bool true) w) := by
  have SH := Lib.hid (fun W => shown3_any W)
  have D0 : decide ((200 : Int) < (len : Int)) = false := by simp; omega
  have D1 : decide ((50 : Int) < (pl : Int)) = false := by simp; omega
  clear g0 g1
  obtain ⟨w0, hw0⟩ : ∃ w0, w0 = ((w.alloc (.cells #[.int .i64 N, .slice ao len cap] 25)).alloc (.cells #[.int .i64 dn, .int .i64 dd] 52)) := ⟨_, rfl⟩
  have PZ := Lib.hid (show Two w0 w.heap.size (.int .i64 N) (.slice ao len cap) by rw [hw0]; exact (Two.made _ _ _ _).alloc _)
  have PD := Lib.hid (show Pair w0 (w.heap.size + 1) dn dd by
    rw [hw0]
    have := Pair.made (w.alloc (.cells #[.int .i64 N, .slice ao len cap] 25)) dn dd 52
    simpa using this)
  have Q0 := Lib.hid (show Below w.heap.size w w0 by rw [hw0]; exact past_two (Below.refl _ _))
  go_enter Try.func8, Try.ntmps8
  go_upto_region 1 with (fail)
  rw [← hw0]
  clear hw0
  obtain ⟨z0, z1, _, _⟩ := PZ.out.facts
  go_wp2_with fail
  refine (UP.out _ Q0.out).mono ?_
  rintro e w1 ⟨rfl, hb⟩
  obtain ⟨v1, hv⟩ : ∃ v, v = w1.alloc (.cells #[.int .i64 0, .slice none 0 0] 25) := ⟨_, rfl⟩
  have B1 := Lib.hid (show Below w0.heap.size w0 v1 by rw [hv]; exact hb.alloc hb.size _)
  clear hb
  go_upto_region 4 with (fail)
  rw [← hv]
  clear hv
  clear z0 z1
  have PZ := Lib.hid (PZ.out.kept B1.out)
  have Q0 := Lib.hid (below_on Q0.out B1.out)
  obtain ⟨z0, z1, _, _⟩ := PZ.out.facts
  go_wp2_with fail
  refine (DN.out _ Q0.out).mono ?_
  rintro e w2 ⟨rfl, hb⟩
  obtain ⟨v2, hv⟩ : ∃ v, v = w2.alloc (.cells #[.int .i64 0, .slice none 0 0] 25) := ⟨_, rfl⟩
  have B2 := Lib.hid (show Below v1.heap.size v1 v2 by rw [hv]; exact hb.alloc hb.size _)
  clear hb
  go_upto_region 5 with (fail)
  rw [← hv]
  clear hv
  clear z0 z1
  have PZ := Lib.hid (PZ.out.kept B2.out)
  have Q0 := Lib.hid (below_on Q0.out B2.out)
  obtain ⟨z0, z1, _, _⟩ := PZ.out.facts
  go_wp2_with fail
  refine (CK.out _ Q0.out).mono ?_
  rintro e w3 ⟨rfl, hb⟩
  clear z0 z1
  have Q0 := Lib.hid (below_on Q0.out hb)
  clear hb
  go_wp2_with fail
  refine (SH.out _).mono ?_
  rintro e w99 ⟨rfl, hb⟩
  have Q0 := Lib.hid (below_on Q0.out hb)
  clear hb
  go_wp2_with fail
  go_ret
  exact ⟨rfl, Q0.out⟩
end Go.Proofs.Ytbnebinpemejlaa

namespace Go.Proofs.Ytbnebinpemejlaa
open Go.RowKit

set_option maxRecDepth 100000 in
set_option maxHeartbeats 4000000 in
theorem times_he (N : Int) (ao : Option Addr) (len cap : Nat) (po : Option Addr) (pl pc : Nat) (dn dd : Int) (w : World) (g0 : ¬ 200 < len) (g1 : ¬ 50 < pl) (uL vL : List Int) (qs : List Pq) (pe hr : Int) (hq : Bool) (x : Dl) (ge he : Int) (hp : Bool) (hne : he ≠ 0) 
    (UP : Hid (∀ W, Below w.heap.size w W → Calls Try.prog 26 #[.agg #[.int .i64 N, .slice ao len cap]] W (ZV2 W N uL 0)))
    (DN : Hid (∀ W, Below w.heap.size w W → Calls Try.prog 28 #[.agg #[.int .i64 N, .slice ao len cap]] W (ZV2 W N vL 0)))
    (UP2 : Hid (∀ W a c, Arg W a uL → Calls Try.prog 26 #[.agg #[.int .i64 N, .slice a uL.length c]] W (ZV2 W N uL 0)))
    (DN2 : Hid (∀ W a c, Arg W a vL → Calls Try.prog 28 #[.agg #[.int .i64 N, .slice a vL.length c]] W (ZV2 W N vL 0)))
    (IU : Hid (∀ W a c, Arg W a uL → Below w.heap.size w W → Calls Try.prog 38 #[.agg #[.int .i64 N, .slice a uL.length c], .agg #[.int .i64 N, .slice ao len cap]] W (Made (.tuple #[.bool true, .int .i64 0]) W)))
    (IV : Hid (∀ W a c, Arg W a vL → Below w.heap.size w W → Calls Try.prog 38 #[.agg #[.int .i64 N, .slice a vL.length c], .agg #[.int .i64 N, .slice ao len cap]] W (Made (.tuple #[.bool true, .int .i64 0]) W)))
    (SU : Hid (∀ W a c b d, Arg W a uL → Arg W b uL → Calls Try.prog 40 #[.agg #[.int .i64 N, .slice a uL.length c], .agg #[.int .i64 N, .slice b uL.length d]] W (Made (.bool true) W)))
    (SV : Hid (∀ W a c b d, Arg W a vL → Arg W b vL → Calls Try.prog 40 #[.agg #[.int .i64 N, .slice a vL.length c], .agg #[.int .i64 N, .slice b vL.length d]] W (Made (.bool true) W)))
    (PT : Hid (∀ W, Below w.heap.size w W → Calls Try.prog 50 #[.agg #[.int .i64 N, .slice ao len cap]] W (QRes2 W qs pe)))
    (HP : Hid (∀ W a c, Arg2 W (some a) qs → Below w.heap.size w W → pe = 0 → Calls Try.prog 46 #[.agg #[.int .i64 N, .slice ao len cap], .slice (some a) qs.length c] W (Made (.tuple #[.bool hq, .int .i64 hr]) W)))
    (HH : Hid (pe = 0 → (hr = 7 ∨ (hr = 0 ∧ hq = true))))
    (SY : Hid (∀ W, Below w.heap.size w W → Calls Try.prog 51 #[.agg #[.int .i64 N, .slice ao len cap], .slice po pl pc] W (Made (.tuple #[.agg #[.int .i64 x.ln, .int .i64 x.ld, .int .i64 x.hn, .int .i64 x.hd, .bool x.lo, .bool x.ho, .bool x.nh], .int .i64 ge]) W)))
    (HV : Hid (∀ W a c, Arg W a vL → Below w.heap.size w W → Calls Try.prog 46 #[.agg #[.int .i64 N, .slice a vL.length c], .slice po pl pc] W (Made (.tuple #[.bool hp, .int .i64 he]) W))) :
    Calls Try.prog 8 #[.agg #[.int .i64 N, .slice ao len cap], .slice po pl pc, .agg #[.int .i64 dn, .int .i64 dd]] w (Made (.bool true) w) := by
  have SH := Lib.hid (fun W => shown3_any W)
  have HE1 : (he == 0) = false := by simp [hne]
  have HE2 : (he != 0) = true := by simp [hne]
  clear hne
  unfold ZV2 at UP DN UP2 DN2
  have D0 : decide ((200 : Int) < (len : Int)) = false := by simp; omega
  have D1 : decide ((50 : Int) < (pl : Int)) = false := by simp; omega
  clear g0 g1
  obtain ⟨w0, hw0⟩ : ∃ w0, w0 = ((w.alloc (.cells #[.int .i64 N, .slice ao len cap] 25)).alloc (.cells #[.int .i64 dn, .int .i64 dd] 52)) := ⟨_, rfl⟩
  have PZ := Lib.hid (show Two w0 w.heap.size (.int .i64 N) (.slice ao len cap) by rw [hw0]; exact (Two.made _ _ _ _).alloc _)
  have PD := Lib.hid (show Pair w0 (w.heap.size + 1) dn dd by
    rw [hw0]
    have := Pair.made (w.alloc (.cells #[.int .i64 N, .slice ao len cap] 25)) dn dd 52
    simpa using this)
  have Q0 := Lib.hid (show Below w.heap.size w w0 by rw [hw0]; exact past_two (Below.refl _ _))
  go_enter Try.func8, Try.ntmps8
  go_upto_region 1 with (fail)
  rw [← hw0]
  clear hw0
  obtain ⟨z0, z1, _, _⟩ := PZ.out.facts
  go_wp2_with fail
  refine (UP.out _ Q0.out).mono ?_
  rintro e w1 ⟨ao1, ck1, rfl, hA, hm, _, hb⟩
  have L1 := Lib.hid hm
  obtain ⟨v1, hv⟩ : ∃ v1, v1 = w1.alloc (.cells #[.int .i64 N, .slice ao1 uL.length ck1] 25) := ⟨_, rfl⟩
  have X1 := Lib.hid (show Two v1 w1.heap.size (.int .i64 N) (.slice ao1 uL.length ck1) by rw [hv]; exact Two.made _ _ _ _)
  have A1 := Lib.hid (show Arg v1 ao1 uL by rw [hv]; exact hA.on (one_more _))
  have B1 := Lib.hid (show Below w0.heap.size w0 v1 by rw [hv]; exact hb.alloc hb.size _)
  have Y1 := Lib.hid (show w0.heap.size ≤ w1.heap.size ∧ v1.heap.size = w1.heap.size + 1 by rw [hv]; exact ⟨hb.size, by simp⟩)
  clear hA hm hb
  go_upto_region 4 with (fail)
  rw [← hv]
  clear hv
  clear z0 z1
  have PZ := Lib.hid (PZ.out.kept B1.out)
  have PD := Lib.hid (PD.out.kept B1.out)
  have Q0 := Lib.hid (below_on Q0.out B1.out)
  obtain ⟨z0, z1, _, _⟩ := PZ.out.facts
  go_wp2_with fail
  refine (DN.out _ Q0.out).mono ?_
  rintro e w2 ⟨ao2, ck2, rfl, hA, hm, _, hb⟩
  have L2 := Lib.hid hm
  obtain ⟨v2, hv⟩ : ∃ v2, v2 = w2.alloc (.cells #[.int .i64 N, .slice ao2 vL.length ck2] 25) := ⟨_, rfl⟩
  have X2 := Lib.hid (show Two v2 w2.heap.size (.int .i64 N) (.slice ao2 vL.length ck2) by rw [hv]; exact Two.made _ _ _ _)
  have A2 := Lib.hid (show Arg v2 ao2 vL by rw [hv]; exact hA.on (one_more _))
  have B2 := Lib.hid (show Below v1.heap.size v1 v2 by rw [hv]; exact hb.alloc hb.size _)
  have Y2 := Lib.hid (show v1.heap.size ≤ w2.heap.size ∧ v2.heap.size = w2.heap.size + 1 by rw [hv]; exact ⟨hb.size, by simp⟩)
  clear hA hm hb
  go_upto_region 5 with (fail)
  rw [← hv]
  clear hv
  clear z0 z1
  have PZ := Lib.hid (PZ.out.kept B2.out)
  have PD := Lib.hid (PD.out.kept B2.out)
  have Q0 := Lib.hid (below_on Q0.out B2.out)
  have X1 := Lib.hid (X1.out.kept B2.out)
  have A1 := Lib.hid (A1.out.on B2.out)
  obtain ⟨u0, u1, _, _⟩ := X1.out.facts
  go_wp2_with fail
  refine (UP2.out _ _ _ A1.out).mono ?_
  rintro e w3 ⟨ao3, ck3, rfl, hA, hm, _, hb⟩
  have L3 := Lib.hid hm
  obtain ⟨v3, hv⟩ : ∃ v3, v3 = w3.alloc (.cells #[.int .i64 N, .slice ao3 uL.length ck3] 25) := ⟨_, rfl⟩
  have X3 := Lib.hid (show Two v3 w3.heap.size (.int .i64 N) (.slice ao3 uL.length ck3) by rw [hv]; exact Two.made _ _ _ _)
  have A3 := Lib.hid (show Arg v3 ao3 uL by rw [hv]; exact hA.on (one_more _))
  have B3 := Lib.hid (show Below v2.heap.size v2 v3 by rw [hv]; exact hb.alloc hb.size _)
  have Y3 := Lib.hid (show v2.heap.size ≤ w3.heap.size ∧ v3.heap.size = w3.heap.size + 1 by rw [hv]; exact ⟨hb.size, by simp⟩)
  clear hA hm hb
  go_upto_region 8 with (fail)
  rw [← hv]
  clear hv
  clear u0 u1
  have PZ := Lib.hid (PZ.out.kept B3.out)
  have PD := Lib.hid (PD.out.kept B3.out)
  have Q0 := Lib.hid (below_on Q0.out B3.out)
  have X1 := Lib.hid (X1.out.kept B3.out)
  have A1 := Lib.hid (A1.out.on B3.out)
  have X2 := Lib.hid (X2.out.kept B3.out)
  have A2 := Lib.hid (A2.out.on B3.out)
  obtain ⟨u0, u1, _, _⟩ := X2.out.facts
  go_wp2_with fail
  refine (DN2.out _ _ _ A2.out).mono ?_
  rintro e w4 ⟨ao4, ck4, rfl, hA, hm, _, hb⟩
  have L4 := Lib.hid hm
  obtain ⟨v4, hv⟩ : ∃ v4, v4 = w4.alloc (.cells #[.int .i64 N, .slice ao4 vL.length ck4] 25) := ⟨_, rfl⟩
  have X4 := Lib.hid (show Two v4 w4.heap.size (.int .i64 N) (.slice ao4 vL.length ck4) by rw [hv]; exact Two.made _ _ _ _)
  have A4 := Lib.hid (show Arg v4 ao4 vL by rw [hv]; exact hA.on (one_more _))
  have B4 := Lib.hid (show Below v3.heap.size v3 v4 by rw [hv]; exact hb.alloc hb.size _)
  have Y4 := Lib.hid (show v3.heap.size ≤ w4.heap.size ∧ v4.heap.size = w4.heap.size + 1 by rw [hv]; exact ⟨hb.size, by simp⟩)
  clear hA hm hb
  go_upto_region 9 with (fail)
  rw [← hv]
  clear hv
  clear u0 u1
  have PZ := Lib.hid (PZ.out.kept B4.out)
  have PD := Lib.hid (PD.out.kept B4.out)
  have Q0 := Lib.hid (below_on Q0.out B4.out)
  have X1 := Lib.hid (X1.out.kept B4.out)
  have A1 := Lib.hid (A1.out.on B4.out)
  have X2 := Lib.hid (X2.out.kept B4.out)
  have A2 := Lib.hid (A2.out.on B4.out)
  have X3 := Lib.hid (X3.out.kept B4.out)
  have A3 := Lib.hid (A3.out.on B4.out)
  obtain ⟨z0, z1, _, _⟩ := PZ.out.facts
  obtain ⟨u0, u1, _, _⟩ := X1.out.facts
  go_wp2_with fail
  refine (IU.out _ _ _ A1.out Q0.out).mono ?_
  rintro e v5 ⟨rfl, hb⟩
  clear z0 z1
  clear u0 u1
  have PZ := Lib.hid (PZ.out.kept hb)
  have PD := Lib.hid (PD.out.kept hb)
  have Q0 := Lib.hid (below_on Q0.out hb)
  have X1 := Lib.hid (X1.out.kept hb)
  have A1 := Lib.hid (A1.out.on hb)
  have X2 := Lib.hid (X2.out.kept hb)
  have A2 := Lib.hid (A2.out.on hb)
  have X3 := Lib.hid (X3.out.kept hb)
  have A3 := Lib.hid (A3.out.on hb)
  have X4 := Lib.hid (X4.out.kept hb)
  have A4 := Lib.hid (A4.out.on hb)
  clear hb
  obtain ⟨z0, z1, _, _⟩ := PZ.out.facts
  obtain ⟨u0, u1, _, _⟩ := X2.out.facts
  go_wp2_with fail
  refine (IV.out _ _ _ A2.out Q0.out).mono ?_
  rintro e v6 ⟨rfl, hb⟩
  clear z0 z1
  clear u0 u1
  have PZ := Lib.hid (PZ.out.kept hb)
  have PD := Lib.hid (PD.out.kept hb)
  have Q0 := Lib.hid (below_on Q0.out hb)
  have X1 := Lib.hid (X1.out.kept hb)
  have A1 := Lib.hid (A1.out.on hb)
  have X2 := Lib.hid (X2.out.kept hb)
  have A2 := Lib.hid (A2.out.on hb)
  have X3 := Lib.hid (X3.out.kept hb)
  have A3 := Lib.hid (A3.out.on hb)
  have X4 := Lib.hid (X4.out.kept hb)
  have A4 := Lib.hid (A4.out.on hb)
  clear hb
  obtain ⟨u0, u1, _, _⟩ := X1.out.facts
  obtain ⟨y0, y1, _, _⟩ := X3.out.facts
  go_wp2_with fail
  refine (SU.out _ _ _ _ _ A1.out A3.out).mono ?_
  rintro e v7 ⟨rfl, hb⟩
  clear u0 u1 y0 y1
  have PZ := Lib.hid (PZ.out.kept hb)
  have PD := Lib.hid (PD.out.kept hb)
  have Q0 := Lib.hid (below_on Q0.out hb)
  have X1 := Lib.hid (X1.out.kept hb)
  have A1 := Lib.hid (A1.out.on hb)
  have X2 := Lib.hid (X2.out.kept hb)
  have A2 := Lib.hid (A2.out.on hb)
  have X3 := Lib.hid (X3.out.kept hb)
  have A3 := Lib.hid (A3.out.on hb)
  have X4 := Lib.hid (X4.out.kept hb)
  have A4 := Lib.hid (A4.out.on hb)
  clear hb
  obtain ⟨u0, u1, _, _⟩ := X2.out.facts
  obtain ⟨y0, y1, _, _⟩ := X4.out.facts
  go_wp2_with fail
  refine (SV.out _ _ _ _ _ A2.out A4.out).mono ?_
  rintro e v8 ⟨rfl, hb⟩
  clear u0 u1 y0 y1
  have PZ := Lib.hid (PZ.out.kept hb)
  have PD := Lib.hid (PD.out.kept hb)
  have Q0 := Lib.hid (below_on Q0.out hb)
  have X2 := Lib.hid (X2.out.kept hb)
  have A2 := Lib.hid (A2.out.on hb)
  clear hb X1 A1 X3 A3 X4 A4 UP DN UP2 DN2 IU IV SU SV B1 B2 B3 B4 L1 L2 L3 L4 Y1 Y2 Y3 Y4
  obtain ⟨z0, z1, _, _⟩ := PZ.out.facts
  go_wp2_with fail
  refine (PT.out _ Q0.out).mono ?_
  rintro e v9 ⟨hb, hE⟩
  clear z0 z1
  have PZ := Lib.hid (PZ.out.kept hb)
  have PD := Lib.hid (PD.out.kept hb)
  have Q0 := Lib.hid (below_on Q0.out hb)
  have X2 := Lib.hid (X2.out.kept hb)
  have A2 := Lib.hid (A2.out.on hb)
  clear hb
  obtain ⟨ql, hql⟩ : ∃ ql : Nat, ql = (if pe = 0 then qs.length else 0) := ⟨_, rfl⟩
  obtain ⟨qo, qc, he9, hA9⟩ : ∃ (qo : Option Addr) (qc : Nat), e = .returned (.tuple #[.slice qo ql qc, .int .i64 pe]) ∧ (pe = 0 → ∃ a, qo = some a ∧ ql = qs.length ∧ Arg2 v9 (some a) qs) := by
    rcases hE with ⟨h1, a, c, h2, h3⟩ | ⟨h1, h2⟩
    · exact ⟨some a, c, by rw [hql, if_pos h1, h1]; exact h2, fun _ => ⟨a, rfl, by rw [hql, if_pos h1], h3⟩⟩
    · exact ⟨none, 0, by rw [hql, if_neg h1]; exact h2, fun q => absurd q h1⟩
  subst he9
  have HA9 := Lib.hid hA9
  clear hE hA9 hql PT
  obtain ⟨gp0, hgp⟩ : ∃ b, (pe == 0) = b := ⟨_, rfl⟩
  go_upto_if 124 with (fail)
  go_cut [20, 21] (fun _ _ wx => Hid (Below v9.heap.size v9 wx))
  case first =>
    cases gp0
    · go_wp2_with fail
      go_meet
      case rel => exact Lib.hid (Below.refl _ _)
    · have hpe : pe = 0 := by simpa using hgp
      obtain ⟨a, ha1, ha2, ha3⟩ := HA9.out hpe
      subst ha1
      subst ha2
      have HA := Lib.hid ha3
      have HP2 := Lib.hid (fun W a c h k => HP.out W a c h k hpe)
      have HH2 := HH.out hpe
      clear ha3 hpe HA9 HP HH
      obtain ⟨z0, z1, _, _⟩ := PZ.out.facts
      rcases HH2 with hh | ⟨hh, hh2⟩
      · subst hh
        go_wp2_with fail
        refine (HP2.out _ _ _ HA.out Q0.out).mono ?_
        rintro e v10 ⟨rfl, hb⟩
        have H10 := Lib.hid hb
        clear hb z0 z1
        go_wp2_with fail
        go_meet
        case rel => exact H10
      · subst hh
        subst hh2
        go_wp2_with fail
        refine (HP2.out _ _ _ HA.out Q0.out).mono ?_
        rintro e v10 ⟨rfl, hb⟩
        have H10 := Lib.hid hb
        clear hb z0 z1
        go_wp2_with fail
        go_meet
        case rel => exact H10
  case rest =>
  have HC := hcut
  clear hcut HA9 HP HH hgp
  have PZ := Lib.hid (PZ.out.kept HC.out)
  have PD := Lib.hid (PD.out.kept HC.out)
  have Q0 := Lib.hid (below_on Q0.out HC.out)
  have X2 := Lib.hid (X2.out.kept HC.out)
  have A2 := Lib.hid (A2.out.on HC.out)
  clear HC
  generalize wc = v11 at *
  obtain ⟨z0, z1, _, _⟩ := PZ.out.facts
  go_wp2_with fail
  refine (SY.out _ Q0.out).mono ?_
  rintro e w12 ⟨rfl, hb⟩
  clear z0 z1
  obtain ⟨v12, hv⟩ : ∃ v, v = w12.alloc (.cells #[.int .i64 x.ln, .int .i64 x.ld, .int .i64 x.hn, .int .i64 x.hd, .bool x.lo, .bool x.ho, .bool x.nh] 64) := ⟨_, rfl⟩
  have BX := Lib.hid (show Bx v12 w12.heap.size #[.int .i64 x.ln, .int .i64 x.ld, .int .i64 x.hn, .int .i64 x.hd, .bool x.lo, .bool x.ho, .bool x.nh] by rw [hv]; exact Bx.made _ _ _)
  have B12 := Lib.hid (show Below v11.heap.size v11 v12 by rw [hv]; exact hb.alloc hb.size _)
  clear hb
  go_upto_region 19 with (fail)
  rw [← hv]
  clear hv
  have PZ := Lib.hid (PZ.out.kept B12.out)
  have PD := Lib.hid (PD.out.kept B12.out)
  have Q0 := Lib.hid (below_on Q0.out B12.out)
  have X2 := Lib.hid (X2.out.kept B12.out)
  have A2 := Lib.hid (A2.out.on B12.out)
  obtain ⟨u0, u1, _, _⟩ := X2.out.facts
  go_wp2_with fail
  refine (HV.out _ _ _ A2.out Q0.out).mono ?_
  rintro e v13 ⟨rfl, hb⟩
  clear u0 u1
  have PZ := Lib.hid (PZ.out.kept hb)
  have PD := Lib.hid (PD.out.kept hb)
  have Q0 := Lib.hid (below_on Q0.out hb)
  have BX := Lib.hid (BX.out.kept hb)
  clear hb HV SY X2 A2
  go_wp2_with fail
  refine (SH.out _).mono ?_
  rintro e w99 ⟨rfl, hb⟩
  have Q0 := Lib.hid (below_on Q0.out hb)
  clear hb
  go_wp2_with fail
  go_ret
  exact ⟨rfl, Q0.out⟩

set_option maxRecDepth 100000 in
set_option maxHeartbeats 4000000 in
theorem times_ge (N : Int) (ao : Option Addr) (len cap : Nat) (po : Option Addr) (pl pc : Nat) (dn dd : Int) (w : World) (g0 : ¬ 200 < len) (g1 : ¬ 50 < pl) (uL vL : List Int) (qs : List Pq) (pe hr : Int) (hq : Bool) (x : Dl) (ge : Int) (hp : Bool) (hg0 : ge ≠ 0) (hg4 : ge ≠ 4) 
    (UP : Hid (∀ W, Below w.heap.size w W → Calls Try.prog 26 #[.agg #[.int .i64 N, .slice ao len cap]] W (ZV2 W N uL 0)))
    (DN : Hid (∀ W, Below w.heap.size w W → Calls Try.prog 28 #[.agg #[.int .i64 N, .slice ao len cap]] W (ZV2 W N vL 0)))
    (UP2 : Hid (∀ W a c, Arg W a uL → Calls Try.prog 26 #[.agg #[.int .i64 N, .slice a uL.length c]] W (ZV2 W N uL 0)))
    (DN2 : Hid (∀ W a c, Arg W a vL → Calls Try.prog 28 #[.agg #[.int .i64 N, .slice a vL.length c]] W (ZV2 W N vL 0)))
    (IU : Hid (∀ W a c, Arg W a uL → Below w.heap.size w W → Calls Try.prog 38 #[.agg #[.int .i64 N, .slice a uL.length c], .agg #[.int .i64 N, .slice ao len cap]] W (Made (.tuple #[.bool true, .int .i64 0]) W)))
    (IV : Hid (∀ W a c, Arg W a vL → Below w.heap.size w W → Calls Try.prog 38 #[.agg #[.int .i64 N, .slice a vL.length c], .agg #[.int .i64 N, .slice ao len cap]] W (Made (.tuple #[.bool true, .int .i64 0]) W)))
    (SU : Hid (∀ W a c b d, Arg W a uL → Arg W b uL → Calls Try.prog 40 #[.agg #[.int .i64 N, .slice a uL.length c], .agg #[.int .i64 N, .slice b uL.length d]] W (Made (.bool true) W)))
    (SV : Hid (∀ W a c b d, Arg W a vL → Arg W b vL → Calls Try.prog 40 #[.agg #[.int .i64 N, .slice a vL.length c], .agg #[.int .i64 N, .slice b vL.length d]] W (Made (.bool true) W)))
    (PT : Hid (∀ W, Below w.heap.size w W → Calls Try.prog 50 #[.agg #[.int .i64 N, .slice ao len cap]] W (QRes2 W qs pe)))
    (HP : Hid (∀ W a c, Arg2 W (some a) qs → Below w.heap.size w W → pe = 0 → Calls Try.prog 46 #[.agg #[.int .i64 N, .slice ao len cap], .slice (some a) qs.length c] W (Made (.tuple #[.bool hq, .int .i64 hr]) W)))
    (HH : Hid (pe = 0 → (hr = 7 ∨ (hr = 0 ∧ hq = true))))
    (SY : Hid (∀ W, Below w.heap.size w W → Calls Try.prog 51 #[.agg #[.int .i64 N, .slice ao len cap], .slice po pl pc] W (Made (.tuple #[.agg #[.int .i64 x.ln, .int .i64 x.ld, .int .i64 x.hn, .int .i64 x.hd, .bool x.lo, .bool x.ho, .bool x.nh], .int .i64 ge]) W)))
    (HV : Hid (∀ W a c, Arg W a vL → Below w.heap.size w W → Calls Try.prog 46 #[.agg #[.int .i64 N, .slice a vL.length c], .slice po pl pc] W (Made (.tuple #[.bool hp, .int .i64 0]) W))) :
    Calls Try.prog 8 #[.agg #[.int .i64 N, .slice ao len cap], .slice po pl pc, .agg #[.int .i64 dn, .int .i64 dd]] w (Made (.bool true) w) := by
  have SH := Lib.hid (fun W => shown3_any W)
  have GE1 : (ge == 0) = false := by simp [hg0]
  have GE2 : (ge != 0) = true := by simp [hg0]
  have GE3 : (ge == 4) = false := by simp [hg4]
  have GE4 : (ge != 4) = true := by simp [hg4]
  clear hg0 hg4
  unfold ZV2 at UP DN UP2 DN2
  have D0 : decide ((200 : Int) < (len : Int)) = false := by simp; omega
  have D1 : decide ((50 : Int) < (pl : Int)) = false := by simp; omega
  clear g0 g1
  obtain ⟨w0, hw0⟩ : ∃ w0, w0 = ((w.alloc (.cells #[.int .i64 N, .slice ao len cap] 25)).alloc (.cells #[.int .i64 dn, .int .i64 dd] 52)) := ⟨_, rfl⟩
  have PZ := Lib.hid (show Two w0 w.heap.size (.int .i64 N) (.slice ao len cap) by rw [hw0]; exact (Two.made _ _ _ _).alloc _)
  have PD := Lib.hid (show Pair w0 (w.heap.size + 1) dn dd by
    rw [hw0]
    have := Pair.made (w.alloc (.cells #[.int .i64 N, .slice ao len cap] 25)) dn dd 52
    simpa using this)
  have Q0 := Lib.hid (show Below w.heap.size w w0 by rw [hw0]; exact past_two (Below.refl _ _))
  go_enter Try.func8, Try.ntmps8
  go_upto_region 1 with (fail)
  rw [← hw0]
  clear hw0
  obtain ⟨z0, z1, _, _⟩ := PZ.out.facts
  go_wp2_with fail
  refine (UP.out _ Q0.out).mono ?_
  rintro e w1 ⟨ao1, ck1, rfl, hA, hm, _, hb⟩
  have L1 := Lib.hid hm
  obtain ⟨v1, hv⟩ : ∃ v1, v1 = w1.alloc (.cells #[.int .i64 N, .slice ao1 uL.length ck1] 25) := ⟨_, rfl⟩
  have X1 := Lib.hid (show Two v1 w1.heap.size (.int .i64 N) (.slice ao1 uL.length ck1) by rw [hv]; exact Two.made _ _ _ _)
  have A1 := Lib.hid (show Arg v1 ao1 uL by rw [hv]; exact hA.on (one_more _))
  have B1 := Lib.hid (show Below w0.heap.size w0 v1 by rw [hv]; exact hb.alloc hb.size _)
  have Y1 := Lib.hid (show w0.heap.size ≤ w1.heap.size ∧ v1.heap.size = w1.heap.size + 1 by rw [hv]; exact ⟨hb.size, by simp⟩)
  clear hA hm hb
  go_upto_region 4 with (fail)
  rw [← hv]
  clear hv
  clear z0 z1
  have PZ := Lib.hid (PZ.out.kept B1.out)
  have PD := Lib.hid (PD.out.kept B1.out)
  have Q0 := Lib.hid (below_on Q0.out B1.out)
  obtain ⟨z0, z1, _, _⟩ := PZ.out.facts
  go_wp2_with fail
  refine (DN.out _ Q0.out).mono ?_
  rintro e w2 ⟨ao2, ck2, rfl, hA, hm, _, hb⟩
  have L2 := Lib.hid hm
  obtain ⟨v2, hv⟩ : ∃ v2, v2 = w2.alloc (.cells #[.int .i64 N, .slice ao2 vL.length ck2] 25) := ⟨_, rfl⟩
  have X2 := Lib.hid (show Two v2 w2.heap.size (.int .i64 N) (.slice ao2 vL.length ck2) by rw [hv]; exact Two.made _ _ _ _)
  have A2 := Lib.hid (show Arg v2 ao2 vL by rw [hv]; exact hA.on (one_more _))
  have B2 := Lib.hid (show Below v1.heap.size v1 v2 by rw [hv]; exact hb.alloc hb.size _)
  have Y2 := Lib.hid (show v1.heap.size ≤ w2.heap.size ∧ v2.heap.size = w2.heap.size + 1 by rw [hv]; exact ⟨hb.size, by simp⟩)
  clear hA hm hb
  go_upto_region 5 with (fail)
  rw [← hv]
  clear hv
  clear z0 z1
  have PZ := Lib.hid (PZ.out.kept B2.out)
  have PD := Lib.hid (PD.out.kept B2.out)
  have Q0 := Lib.hid (below_on Q0.out B2.out)
  have X1 := Lib.hid (X1.out.kept B2.out)
  have A1 := Lib.hid (A1.out.on B2.out)
  obtain ⟨u0, u1, _, _⟩ := X1.out.facts
  go_wp2_with fail
  refine (UP2.out _ _ _ A1.out).mono ?_
  rintro e w3 ⟨ao3, ck3, rfl, hA, hm, _, hb⟩
  have L3 := Lib.hid hm
  obtain ⟨v3, hv⟩ : ∃ v3, v3 = w3.alloc (.cells #[.int .i64 N, .slice ao3 uL.length ck3] 25) := ⟨_, rfl⟩
  have X3 := Lib.hid (show Two v3 w3.heap.size (.int .i64 N) (.slice ao3 uL.length ck3) by rw [hv]; exact Two.made _ _ _ _)
  have A3 := Lib.hid (show Arg v3 ao3 uL by rw [hv]; exact hA.on (one_more _))
  have B3 := Lib.hid (show Below v2.heap.size v2 v3 by rw [hv]; exact hb.alloc hb.size _)
  have Y3 := Lib.hid (show v2.heap.size ≤ w3.heap.size ∧ v3.heap.size = w3.heap.size + 1 by rw [hv]; exact ⟨hb.size, by simp⟩)
  clear hA hm hb
  go_upto_region 8 with (fail)
  rw [← hv]
  clear hv
  clear u0 u1
  have PZ := Lib.hid (PZ.out.kept B3.out)
  have PD := Lib.hid (PD.out.kept B3.out)
  have Q0 := Lib.hid (below_on Q0.out B3.out)
  have X1 := Lib.hid (X1.out.kept B3.out)
  have A1 := Lib.hid (A1.out.on B3.out)
  have X2 := Lib.hid (X2.out.kept B3.out)
  have A2 := Lib.hid (A2.out.on B3.out)
  obtain ⟨u0, u1, _, _⟩ := X2.out.facts
  go_wp2_with fail
  refine (DN2.out _ _ _ A2.out).mono ?_
  rintro e w4 ⟨ao4, ck4, rfl, hA, hm, _, hb⟩
  have L4 := Lib.hid hm
  obtain ⟨v4, hv⟩ : ∃ v4, v4 = w4.alloc (.cells #[.int .i64 N, .slice ao4 vL.length ck4] 25) := ⟨_, rfl⟩
  have X4 := Lib.hid (show Two v4 w4.heap.size (.int .i64 N) (.slice ao4 vL.length ck4) by rw [hv]; exact Two.made _ _ _ _)
  have A4 := Lib.hid (show Arg v4 ao4 vL by rw [hv]; exact hA.on (one_more _))
  have B4 := Lib.hid (show Below v3.heap.size v3 v4 by rw [hv]; exact hb.alloc hb.size _)
  have Y4 := Lib.hid (show v3.heap.size ≤ w4.heap.size ∧ v4.heap.size = w4.heap.size + 1 by rw [hv]; exact ⟨hb.size, by simp⟩)
  clear hA hm hb
  go_upto_region 9 with (fail)
  rw [← hv]
  clear hv
  clear u0 u1
  have PZ := Lib.hid (PZ.out.kept B4.out)
  have PD := Lib.hid (PD.out.kept B4.out)
  have Q0 := Lib.hid (below_on Q0.out B4.out)
  have X1 := Lib.hid (X1.out.kept B4.out)
  have A1 := Lib.hid (A1.out.on B4.out)
  have X2 := Lib.hid (X2.out.kept B4.out)
  have A2 := Lib.hid (A2.out.on B4.out)
  have X3 := Lib.hid (X3.out.kept B4.out)
  have A3 := Lib.hid (A3.out.on B4.out)
  obtain ⟨z0, z1, _, _⟩ := PZ.out.facts
  obtain ⟨u0, u1, _, _⟩ := X1.out.facts
  go_wp2_with fail
  refine (IU.out _ _ _ A1.out Q0.out).mono ?_
  rintro e v5 ⟨rfl, hb⟩
  clear z0 z1
  clear u0 u1
  have PZ := Lib.hid (PZ.out.kept hb)
  have PD := Lib.hid (PD.out.kept hb)
  have Q0 := Lib.hid (below_on Q0.out hb)
  have X1 := Lib.hid (X1.out.kept hb)
  have A1 := Lib.hid (A1.out.on hb)
  have X2 := Lib.hid (X2.out.kept hb)
  have A2 := Lib.hid (A2.out.on hb)
  have X3 := Lib.hid (X3.out.kept hb)
  have A3 := Lib.hid (A3.out.on hb)
  have X4 := Lib.hid (X4.out.kept hb)
  have A4 := Lib.hid (A4.out.on hb)
  clear hb
  obtain ⟨z0, z1, _, _⟩ := PZ.out.facts
  obtain ⟨u0, u1, _, _⟩ := X2.out.facts
  go_wp2_with fail
  refine (IV.out _ _ _ A2.out Q0.out).mono ?_
  rintro e v6 ⟨rfl, hb⟩
  clear z0 z1
  clear u0 u1
  have PZ := Lib.hid (PZ.out.kept hb)
  have PD := Lib.hid (PD.out.kept hb)
  have Q0 := Lib.hid (below_on Q0.out hb)
  have X1 := Lib.hid (X1.out.kept hb)
  have A1 := Lib.hid (A1.out.on hb)
  have X2 := Lib.hid (X2.out.kept hb)
  have A2 := Lib.hid (A2.out.on hb)
  have X3 := Lib.hid (X3.out.kept hb)
  have A3 := Lib.hid (A3.out.on hb)
  have X4 := Lib.hid (X4.out.kept hb)
  have A4 := Lib.hid (A4.out.on hb)
  clear hb
  obtain ⟨u0, u1, _, _⟩ := X1.out.facts
  obtain ⟨y0, y1, _, _⟩ := X3.out.facts
  go_wp2_with fail
  refine (SU.out _ _ _ _ _ A1.out A3.out).mono ?_
  rintro e v7 ⟨rfl, hb⟩
  clear u0 u1 y0 y1
  have PZ := Lib.hid (PZ.out.kept hb)
  have PD := Lib.hid (PD.out.kept hb)
  have Q0 := Lib.hid (below_on Q0.out hb)
  have X1 := Lib.hid (X1.out.kept hb)
  have A1 := Lib.hid (A1.out.on hb)
  have X2 := Lib.hid (X2.out.kept hb)
  have A2 := Lib.hid (A2.out.on hb)
  have X3 := Lib.hid (X3.out.kept hb)
  have A3 := Lib.hid (A3.out.on hb)
  have X4 := Lib.hid (X4.out.kept hb)
  have A4 := Lib.hid (A4.out.on hb)
  clear hb
  obtain ⟨u0, u1, _, _⟩ := X2.out.facts
  obtain ⟨y0, y1, _, _⟩ := X4.out.facts
  go_wp2_with fail
  refine (SV.out _ _ _ _ _ A2.out A4.out).mono ?_
  rintro e v8 ⟨rfl, hb⟩
  clear u0 u1 y0 y1
  have PZ := Lib.hid (PZ.out.kept hb)
  have PD := Lib.hid (PD.out.kept hb)
  have Q0 := Lib.hid (below_on Q0.out hb)
  have X2 := Lib.hid (X2.out.kept hb)
  have A2 := Lib.hid (A2.out.on hb)
  clear hb X1 A1 X3 A3 X4 A4 UP DN UP2 DN2 IU IV SU SV B1 B2 B3 B4 L1 L2 L3 L4 Y1 Y2 Y3 Y4
  obtain ⟨z0, z1, _, _⟩ := PZ.out.facts
  go_wp2_with fail
  refine (PT.out _ Q0.out).mono ?_
  rintro e v9 ⟨hb, hE⟩
  clear z0 z1
  have PZ := Lib.hid (PZ.out.kept hb)
  have PD := Lib.hid (PD.out.kept hb)
  have Q0 := Lib.hid (below_on Q0.out hb)
  have X2 := Lib.hid (X2.out.kept hb)
  have A2 := Lib.hid (A2.out.on hb)
  clear hb
  obtain ⟨ql, hql⟩ : ∃ ql : Nat, ql = (if pe = 0 then qs.length else 0) := ⟨_, rfl⟩
  obtain ⟨qo, qc, he9, hA9⟩ : ∃ (qo : Option Addr) (qc : Nat), e = .returned (.tuple #[.slice qo ql qc, .int .i64 pe]) ∧ (pe = 0 → ∃ a, qo = some a ∧ ql = qs.length ∧ Arg2 v9 (some a) qs) := by
    rcases hE with ⟨h1, a, c, h2, h3⟩ | ⟨h1, h2⟩
    · exact ⟨some a, c, by rw [hql, if_pos h1, h1]; exact h2, fun _ => ⟨a, rfl, by rw [hql, if_pos h1], h3⟩⟩
    · exact ⟨none, 0, by rw [hql, if_neg h1]; exact h2, fun q => absurd q h1⟩
  subst he9
  have HA9 := Lib.hid hA9
  clear hE hA9 hql PT
  obtain ⟨gp0, hgp⟩ : ∃ b, (pe == 0) = b := ⟨_, rfl⟩
  go_upto_if 124 with (fail)
  go_cut [20, 21] (fun _ _ wx => Hid (Below v9.heap.size v9 wx))
  case first =>
    cases gp0
    · go_wp2_with fail
      go_meet
      case rel => exact Lib.hid (Below.refl _ _)
    · have hpe : pe = 0 := by simpa using hgp
      obtain ⟨a, ha1, ha2, ha3⟩ := HA9.out hpe
      subst ha1
      subst ha2
      have HA := Lib.hid ha3
      have HP2 := Lib.hid (fun W a c h k => HP.out W a c h k hpe)
      have HH2 := HH.out hpe
      clear ha3 hpe HA9 HP HH
      obtain ⟨z0, z1, _, _⟩ := PZ.out.facts
      rcases HH2 with hh | ⟨hh, hh2⟩
      · subst hh
        go_wp2_with fail
        refine (HP2.out _ _ _ HA.out Q0.out).mono ?_
        rintro e v10 ⟨rfl, hb⟩
        have H10 := Lib.hid hb
        clear hb z0 z1
        go_wp2_with fail
        go_meet
        case rel => exact H10
      · subst hh
        subst hh2
        go_wp2_with fail
        refine (HP2.out _ _ _ HA.out Q0.out).mono ?_
        rintro e v10 ⟨rfl, hb⟩
        have H10 := Lib.hid hb
        clear hb z0 z1
        go_wp2_with fail
        go_meet
        case rel => exact H10
  case rest =>
  have HC := hcut
  clear hcut HA9 HP HH hgp
  have PZ := Lib.hid (PZ.out.kept HC.out)
  have PD := Lib.hid (PD.out.kept HC.out)
  have Q0 := Lib.hid (below_on Q0.out HC.out)
  have X2 := Lib.hid (X2.out.kept HC.out)
  have A2 := Lib.hid (A2.out.on HC.out)
  clear HC
  generalize wc = v11 at *
  obtain ⟨z0, z1, _, _⟩ := PZ.out.facts
  go_wp2_with fail
  refine (SY.out _ Q0.out).mono ?_
  rintro e w12 ⟨rfl, hb⟩
  clear z0 z1
  obtain ⟨v12, hv⟩ : ∃ v, v = w12.alloc (.cells #[.int .i64 x.ln, .int .i64 x.ld, .int .i64 x.hn, .int .i64 x.hd, .bool x.lo, .bool x.ho, .bool x.nh] 64) := ⟨_, rfl⟩
  have BX := Lib.hid (show Bx v12 w12.heap.size #[.int .i64 x.ln, .int .i64 x.ld, .int .i64 x.hn, .int .i64 x.hd, .bool x.lo, .bool x.ho, .bool x.nh] by rw [hv]; exact Bx.made _ _ _)
  have B12 := Lib.hid (show Below v11.heap.size v11 v12 by rw [hv]; exact hb.alloc hb.size _)
  clear hb
  go_upto_region 19 with (fail)
  rw [← hv]
  clear hv
  have PZ := Lib.hid (PZ.out.kept B12.out)
  have PD := Lib.hid (PD.out.kept B12.out)
  have Q0 := Lib.hid (below_on Q0.out B12.out)
  have X2 := Lib.hid (X2.out.kept B12.out)
  have A2 := Lib.hid (A2.out.on B12.out)
  obtain ⟨u0, u1, _, _⟩ := X2.out.facts
  go_wp2_with fail
  refine (HV.out _ _ _ A2.out Q0.out).mono ?_
  rintro e v13 ⟨rfl, hb⟩
  clear u0 u1
  have PZ := Lib.hid (PZ.out.kept hb)
  have PD := Lib.hid (PD.out.kept hb)
  have Q0 := Lib.hid (below_on Q0.out hb)
  have BX := Lib.hid (BX.out.kept hb)
  clear hb HV SY X2 A2
  go_wp2_with fail
  refine (SH.out _).mono ?_
  rintro e w99 ⟨rfl, hb⟩
  have Q0 := Lib.hid (below_on Q0.out hb)
  clear hb
  go_wp2_with fail
  go_ret
  exact ⟨rfl, Q0.out⟩
end Go.Proofs.Ytbnebinpemejlaa

namespace Go.Proofs.Ytbnebinpemejlaa
open Go.RowKit

set_option maxRecDepth 100000 in
set_option maxHeartbeats 4000000 in
theorem times_0 (N : Int) (ao : Option Addr) (len cap : Nat) (po : Option Addr) (pl pc : Nat) (dn dd : Int) (w : World) (g0 : ¬ 200 < len) (g1 : ¬ 50 < pl) (uL vL : List Int) (qs : List Pq) (pe hr : Int) (hq : Bool) (x : Dl) 
    (UP : Hid (∀ W, Below w.heap.size w W → Calls Try.prog 26 #[.agg #[.int .i64 N, .slice ao len cap]] W (ZV2 W N uL 0)))
    (DN : Hid (∀ W, Below w.heap.size w W → Calls Try.prog 28 #[.agg #[.int .i64 N, .slice ao len cap]] W (ZV2 W N vL 0)))
    (UP2 : Hid (∀ W a c, Arg W a uL → Calls Try.prog 26 #[.agg #[.int .i64 N, .slice a uL.length c]] W (ZV2 W N uL 0)))
    (DN2 : Hid (∀ W a c, Arg W a vL → Calls Try.prog 28 #[.agg #[.int .i64 N, .slice a vL.length c]] W (ZV2 W N vL 0)))
    (IU : Hid (∀ W a c, Arg W a uL → Below w.heap.size w W → Calls Try.prog 38 #[.agg #[.int .i64 N, .slice a uL.length c], .agg #[.int .i64 N, .slice ao len cap]] W (Made (.tuple #[.bool true, .int .i64 0]) W)))
    (IV : Hid (∀ W a c, Arg W a vL → Below w.heap.size w W → Calls Try.prog 38 #[.agg #[.int .i64 N, .slice a vL.length c], .agg #[.int .i64 N, .slice ao len cap]] W (Made (.tuple #[.bool true, .int .i64 0]) W)))
    (SU : Hid (∀ W a c b d, Arg W a uL → Arg W b uL → Calls Try.prog 40 #[.agg #[.int .i64 N, .slice a uL.length c], .agg #[.int .i64 N, .slice b uL.length d]] W (Made (.bool true) W)))
    (SV : Hid (∀ W a c b d, Arg W a vL → Arg W b vL → Calls Try.prog 40 #[.agg #[.int .i64 N, .slice a vL.length c], .agg #[.int .i64 N, .slice b vL.length d]] W (Made (.bool true) W)))
    (PT : Hid (∀ W, Below w.heap.size w W → Calls Try.prog 50 #[.agg #[.int .i64 N, .slice ao len cap]] W (QRes2 W qs pe)))
    (HP : Hid (∀ W a c, Arg2 W (some a) qs → Below w.heap.size w W → pe = 0 → Calls Try.prog 46 #[.agg #[.int .i64 N, .slice ao len cap], .slice (some a) qs.length c] W (Made (.tuple #[.bool hq, .int .i64 hr]) W)))
    (HH : Hid (pe = 0 → (hr = 7 ∨ (hr = 0 ∧ hq = true))))
    (SY : Hid (∀ W, Below w.heap.size w W → Calls Try.prog 51 #[.agg #[.int .i64 N, .slice ao len cap], .slice po pl pc] W (Made (.tuple #[.agg #[.int .i64 x.ln, .int .i64 x.ld, .int .i64 x.hn, .int .i64 x.hd, .bool x.lo, .bool x.ho, .bool x.nh], .int .i64 0]) W)))
    (HV : Hid (∀ W a c, Arg W a vL → Below w.heap.size w W → Calls Try.prog 46 #[.agg #[.int .i64 N, .slice a vL.length c], .slice po pl pc] W (Made (.tuple #[.bool true, .int .i64 0]) W)))
    (LT : Hid (∀ W, Below w.heap.size w W → Calls Try.prog 52 #[.agg #[.int .i64 N, .slice ao len cap], .slice po pl pc, .agg #[.int .i64 dn, .int .i64 dd], .agg #[.int .i64 x.ln, .int .i64 x.ld, .int .i64 x.hn, .int .i64 x.hd, .bool x.lo, .bool x.ho, .bool x.nh], .int .i64 0] W (Made (.bool true) W))) :
    Calls Try.prog 8 #[.agg #[.int .i64 N, .slice ao len cap], .slice po pl pc, .agg #[.int .i64 dn, .int .i64 dd]] w (Made (.bool true) w) := by
  have SH := Lib.hid (fun W => shown3_any W)
  unfold ZV2 at UP DN UP2 DN2
  have D0 : decide ((200 : Int) < (len : Int)) = false := by simp; omega
  have D1 : decide ((50 : Int) < (pl : Int)) = false := by simp; omega
  clear g0 g1
  obtain ⟨w0, hw0⟩ : ∃ w0, w0 = ((w.alloc (.cells #[.int .i64 N, .slice ao len cap] 25)).alloc (.cells #[.int .i64 dn, .int .i64 dd] 52)) := ⟨_, rfl⟩
  have PZ := Lib.hid (show Two w0 w.heap.size (.int .i64 N) (.slice ao len cap) by rw [hw0]; exact (Two.made _ _ _ _).alloc _)
  have PD := Lib.hid (show Pair w0 (w.heap.size + 1) dn dd by
    rw [hw0]
    have := Pair.made (w.alloc (.cells #[.int .i64 N, .slice ao len cap] 25)) dn dd 52
    simpa using this)
  have Q0 := Lib.hid (show Below w.heap.size w w0 by rw [hw0]; exact past_two (Below.refl _ _))
  go_enter Try.func8, Try.ntmps8
  go_upto_region 1 with (fail)
  rw [← hw0]
  clear hw0
  obtain ⟨z0, z1, _, _⟩ := PZ.out.facts
  go_wp2_with fail
  refine (UP.out _ Q0.out).mono ?_
  rintro e w1 ⟨ao1, ck1, rfl, hA, hm, _, hb⟩
  have L1 := Lib.hid hm
  obtain ⟨v1, hv⟩ : ∃ v1, v1 = w1.alloc (.cells #[.int .i64 N, .slice ao1 uL.length ck1] 25) := ⟨_, rfl⟩
  have X1 := Lib.hid (show Two v1 w1.heap.size (.int .i64 N) (.slice ao1 uL.length ck1) by rw [hv]; exact Two.made _ _ _ _)
  have A1 := Lib.hid (show Arg v1 ao1 uL by rw [hv]; exact hA.on (one_more _))
  have B1 := Lib.hid (show Below w0.heap.size w0 v1 by rw [hv]; exact hb.alloc hb.size _)
  have Y1 := Lib.hid (show w0.heap.size ≤ w1.heap.size ∧ v1.heap.size = w1.heap.size + 1 by rw [hv]; exact ⟨hb.size, by simp⟩)
  clear hA hm hb
  go_upto_region 4 with (fail)
  rw [← hv]
  clear hv
  clear z0 z1
  have PZ := Lib.hid (PZ.out.kept B1.out)
  have PD := Lib.hid (PD.out.kept B1.out)
  have Q0 := Lib.hid (below_on Q0.out B1.out)
  obtain ⟨z0, z1, _, _⟩ := PZ.out.facts
  go_wp2_with fail
  refine (DN.out _ Q0.out).mono ?_
  rintro e w2 ⟨ao2, ck2, rfl, hA, hm, _, hb⟩
  have L2 := Lib.hid hm
  obtain ⟨v2, hv⟩ : ∃ v2, v2 = w2.alloc (.cells #[.int .i64 N, .slice ao2 vL.length ck2] 25) := ⟨_, rfl⟩
  have X2 := Lib.hid (show Two v2 w2.heap.size (.int .i64 N) (.slice ao2 vL.length ck2) by rw [hv]; exact Two.made _ _ _ _)
  have A2 := Lib.hid (show Arg v2 ao2 vL by rw [hv]; exact hA.on (one_more _))
  have B2 := Lib.hid (show Below v1.heap.size v1 v2 by rw [hv]; exact hb.alloc hb.size _)
  have Y2 := Lib.hid (show v1.heap.size ≤ w2.heap.size ∧ v2.heap.size = w2.heap.size + 1 by rw [hv]; exact ⟨hb.size, by simp⟩)
  clear hA hm hb
  go_upto_region 5 with (fail)
  rw [← hv]
  clear hv
  clear z0 z1
  have PZ := Lib.hid (PZ.out.kept B2.out)
  have PD := Lib.hid (PD.out.kept B2.out)
  have Q0 := Lib.hid (below_on Q0.out B2.out)
  have X1 := Lib.hid (X1.out.kept B2.out)
  have A1 := Lib.hid (A1.out.on B2.out)
  obtain ⟨u0, u1, _, _⟩ := X1.out.facts
  go_wp2_with fail
  refine (UP2.out _ _ _ A1.out).mono ?_
  rintro e w3 ⟨ao3, ck3, rfl, hA, hm, _, hb⟩
  have L3 := Lib.hid hm
  obtain ⟨v3, hv⟩ : ∃ v3, v3 = w3.alloc (.cells #[.int .i64 N, .slice ao3 uL.length ck3] 25) := ⟨_, rfl⟩
  have X3 := Lib.hid (show Two v3 w3.heap.size (.int .i64 N) (.slice ao3 uL.length ck3) by rw [hv]; exact Two.made _ _ _ _)
  have A3 := Lib.hid (show Arg v3 ao3 uL by rw [hv]; exact hA.on (one_more _))
  have B3 := Lib.hid (show Below v2.heap.size v2 v3 by rw [hv]; exact hb.alloc hb.size _)
  have Y3 := Lib.hid (show v2.heap.size ≤ w3.heap.size ∧ v3.heap.size = w3.heap.size + 1 by rw [hv]; exact ⟨hb.size, by simp⟩)
  clear hA hm hb
  go_upto_region 8 with (fail)
  rw [← hv]
  clear hv
  clear u0 u1
  have PZ := Lib.hid (PZ.out.kept B3.out)
  have PD := Lib.hid (PD.out.kept B3.out)
  have Q0 := Lib.hid (below_on Q0.out B3.out)
  have X1 := Lib.hid (X1.out.kept B3.out)
  have A1 := Lib.hid (A1.out.on B3.out)
  have X2 := Lib.hid (X2.out.kept B3.out)
  have A2 := Lib.hid (A2.out.on B3.out)
  obtain ⟨u0, u1, _, _⟩ := X2.out.facts
  go_wp2_with fail
  refine (DN2.out _ _ _ A2.out).mono ?_
  rintro e w4 ⟨ao4, ck4, rfl, hA, hm, _, hb⟩
  have L4 := Lib.hid hm
  obtain ⟨v4, hv⟩ : ∃ v4, v4 = w4.alloc (.cells #[.int .i64 N, .slice ao4 vL.length ck4] 25) := ⟨_, rfl⟩
  have X4 := Lib.hid (show Two v4 w4.heap.size (.int .i64 N) (.slice ao4 vL.length ck4) by rw [hv]; exact Two.made _ _ _ _)
  have A4 := Lib.hid (show Arg v4 ao4 vL by rw [hv]; exact hA.on (one_more _))
  have B4 := Lib.hid (show Below v3.heap.size v3 v4 by rw [hv]; exact hb.alloc hb.size _)
  have Y4 := Lib.hid (show v3.heap.size ≤ w4.heap.size ∧ v4.heap.size = w4.heap.size + 1 by rw [hv]; exact ⟨hb.size, by simp⟩)
  clear hA hm hb
  go_upto_region 9 with (fail)
  rw [← hv]
  clear hv
  clear u0 u1
  have PZ := Lib.hid (PZ.out.kept B4.out)
  have PD := Lib.hid (PD.out.kept B4.out)
  have Q0 := Lib.hid (below_on Q0.out B4.out)
  have X1 := Lib.hid (X1.out.kept B4.out)
  have A1 := Lib.hid (A1.out.on B4.out)
  have X2 := Lib.hid (X2.out.kept B4.out)
  have A2 := Lib.hid (A2.out.on B4.out)
  have X3 := Lib.hid (X3.out.kept B4.out)
  have A3 := Lib.hid (A3.out.on B4.out)
  obtain ⟨z0, z1, _, _⟩ := PZ.out.facts
  obtain ⟨u0, u1, _, _⟩ := X1.out.facts
  go_wp2_with fail
  refine (IU.out _ _ _ A1.out Q0.out).mono ?_
  rintro e v5 ⟨rfl, hb⟩
  clear z0 z1
  clear u0 u1
  have PZ := Lib.hid (PZ.out.kept hb)
  have PD := Lib.hid (PD.out.kept hb)
  have Q0 := Lib.hid (below_on Q0.out hb)
  have X1 := Lib.hid (X1.out.kept hb)
  have A1 := Lib.hid (A1.out.on hb)
  have X2 := Lib.hid (X2.out.kept hb)
  have A2 := Lib.hid (A2.out.on hb)
  have X3 := Lib.hid (X3.out.kept hb)
  have A3 := Lib.hid (A3.out.on hb)
  have X4 := Lib.hid (X4.out.kept hb)
  have A4 := Lib.hid (A4.out.on hb)
  clear hb
  obtain ⟨z0, z1, _, _⟩ := PZ.out.facts
  obtain ⟨u0, u1, _, _⟩ := X2.out.facts
  go_wp2_with fail
  refine (IV.out _ _ _ A2.out Q0.out).mono ?_
  rintro e v6 ⟨rfl, hb⟩
  clear z0 z1
  clear u0 u1
  have PZ := Lib.hid (PZ.out.kept hb)
  have PD := Lib.hid (PD.out.kept hb)
  have Q0 := Lib.hid (below_on Q0.out hb)
  have X1 := Lib.hid (X1.out.kept hb)
  have A1 := Lib.hid (A1.out.on hb)
  have X2 := Lib.hid (X2.out.kept hb)
  have A2 := Lib.hid (A2.out.on hb)
  have X3 := Lib.hid (X3.out.kept hb)
  have A3 := Lib.hid (A3.out.on hb)
  have X4 := Lib.hid (X4.out.kept hb)
  have A4 := Lib.hid (A4.out.on hb)
  clear hb
  obtain ⟨u0, u1, _, _⟩ := X1.out.facts
  obtain ⟨y0, y1, _, _⟩ := X3.out.facts
  go_wp2_with fail
  refine (SU.out _ _ _ _ _ A1.out A3.out).mono ?_
  rintro e v7 ⟨rfl, hb⟩
  clear u0 u1 y0 y1
  have PZ := Lib.hid (PZ.out.kept hb)
  have PD := Lib.hid (PD.out.kept hb)
  have Q0 := Lib.hid (below_on Q0.out hb)
  have X1 := Lib.hid (X1.out.kept hb)
  have A1 := Lib.hid (A1.out.on hb)
  have X2 := Lib.hid (X2.out.kept hb)
  have A2 := Lib.hid (A2.out.on hb)
  have X3 := Lib.hid (X3.out.kept hb)
  have A3 := Lib.hid (A3.out.on hb)
  have X4 := Lib.hid (X4.out.kept hb)
  have A4 := Lib.hid (A4.out.on hb)
  clear hb
  obtain ⟨u0, u1, _, _⟩ := X2.out.facts
  obtain ⟨y0, y1, _, _⟩ := X4.out.facts
  go_wp2_with fail
  refine (SV.out _ _ _ _ _ A2.out A4.out).mono ?_
  rintro e v8 ⟨rfl, hb⟩
  clear u0 u1 y0 y1
  have PZ := Lib.hid (PZ.out.kept hb)
  have PD := Lib.hid (PD.out.kept hb)
  have Q0 := Lib.hid (below_on Q0.out hb)
  have X2 := Lib.hid (X2.out.kept hb)
  have A2 := Lib.hid (A2.out.on hb)
  clear hb X1 A1 X3 A3 X4 A4 UP DN UP2 DN2 IU IV SU SV B1 B2 B3 B4 L1 L2 L3 L4 Y1 Y2 Y3 Y4
  obtain ⟨z0, z1, _, _⟩ := PZ.out.facts
  go_wp2_with fail
  refine (PT.out _ Q0.out).mono ?_
  rintro e v9 ⟨hb, hE⟩
  clear z0 z1
  have PZ := Lib.hid (PZ.out.kept hb)
  have PD := Lib.hid (PD.out.kept hb)
  have Q0 := Lib.hid (below_on Q0.out hb)
  have X2 := Lib.hid (X2.out.kept hb)
  have A2 := Lib.hid (A2.out.on hb)
  clear hb
  obtain ⟨ql, hql⟩ : ∃ ql : Nat, ql = (if pe = 0 then qs.length else 0) := ⟨_, rfl⟩
  obtain ⟨qo, qc, he9, hA9⟩ : ∃ (qo : Option Addr) (qc : Nat), e = .returned (.tuple #[.slice qo ql qc, .int .i64 pe]) ∧ (pe = 0 → ∃ a, qo = some a ∧ ql = qs.length ∧ Arg2 v9 (some a) qs) := by
    rcases hE with ⟨h1, a, c, h2, h3⟩ | ⟨h1, h2⟩
    · exact ⟨some a, c, by rw [hql, if_pos h1, h1]; exact h2, fun _ => ⟨a, rfl, by rw [hql, if_pos h1], h3⟩⟩
    · exact ⟨none, 0, by rw [hql, if_neg h1]; exact h2, fun q => absurd q h1⟩
  subst he9
  have HA9 := Lib.hid hA9
  clear hE hA9 hql PT
  obtain ⟨gp0, hgp⟩ : ∃ b, (pe == 0) = b := ⟨_, rfl⟩
  go_upto_if 124 with (fail)
  go_cut [20, 21] (fun _ _ wx => Hid (Below v9.heap.size v9 wx))
  case first =>
    cases gp0
    · go_wp2_with fail
      go_meet
      case rel => exact Lib.hid (Below.refl _ _)
    · have hpe : pe = 0 := by simpa using hgp
      obtain ⟨a, ha1, ha2, ha3⟩ := HA9.out hpe
      subst ha1
      subst ha2
      have HA := Lib.hid ha3
      have HP2 := Lib.hid (fun W a c h k => HP.out W a c h k hpe)
      have HH2 := HH.out hpe
      clear ha3 hpe HA9 HP HH
      obtain ⟨z0, z1, _, _⟩ := PZ.out.facts
      rcases HH2 with hh | ⟨hh, hh2⟩
      · subst hh
        go_wp2_with fail
        refine (HP2.out _ _ _ HA.out Q0.out).mono ?_
        rintro e v10 ⟨rfl, hb⟩
        have H10 := Lib.hid hb
        clear hb z0 z1
        go_wp2_with fail
        go_meet
        case rel => exact H10
      · subst hh
        subst hh2
        go_wp2_with fail
        refine (HP2.out _ _ _ HA.out Q0.out).mono ?_
        rintro e v10 ⟨rfl, hb⟩
        have H10 := Lib.hid hb
        clear hb z0 z1
        go_wp2_with fail
        go_meet
        case rel => exact H10
  case rest =>
  have HC := hcut
  clear hcut HA9 HP HH hgp
  have PZ := Lib.hid (PZ.out.kept HC.out)
  have PD := Lib.hid (PD.out.kept HC.out)
  have Q0 := Lib.hid (below_on Q0.out HC.out)
  have X2 := Lib.hid (X2.out.kept HC.out)
  have A2 := Lib.hid (A2.out.on HC.out)
  clear HC
  generalize wc = v11 at *
  obtain ⟨z0, z1, _, _⟩ := PZ.out.facts
  go_wp2_with fail
  refine (SY.out _ Q0.out).mono ?_
  rintro e w12 ⟨rfl, hb⟩
  clear z0 z1
  obtain ⟨v12, hv⟩ : ∃ v, v = w12.alloc (.cells #[.int .i64 x.ln, .int .i64 x.ld, .int .i64 x.hn, .int .i64 x.hd, .bool x.lo, .bool x.ho, .bool x.nh] 64) := ⟨_, rfl⟩
  have BX := Lib.hid (show Bx v12 w12.heap.size #[.int .i64 x.ln, .int .i64 x.ld, .int .i64 x.hn, .int .i64 x.hd, .bool x.lo, .bool x.ho, .bool x.nh] by rw [hv]; exact Bx.made _ _ _)
  have B12 := Lib.hid (show Below v11.heap.size v11 v12 by rw [hv]; exact hb.alloc hb.size _)
  clear hb
  go_upto_region 19 with (fail)
  rw [← hv]
  clear hv
  have PZ := Lib.hid (PZ.out.kept B12.out)
  have PD := Lib.hid (PD.out.kept B12.out)
  have Q0 := Lib.hid (below_on Q0.out B12.out)
  have X2 := Lib.hid (X2.out.kept B12.out)
  have A2 := Lib.hid (A2.out.on B12.out)
  obtain ⟨u0, u1, _, _⟩ := X2.out.facts
  go_wp2_with fail
  refine (HV.out _ _ _ A2.out Q0.out).mono ?_
  rintro e v13 ⟨rfl, hb⟩
  clear u0 u1
  have PZ := Lib.hid (PZ.out.kept hb)
  have PD := Lib.hid (PD.out.kept hb)
  have Q0 := Lib.hid (below_on Q0.out hb)
  have BX := Lib.hid (BX.out.kept hb)
  clear hb HV SY X2 A2
  obtain ⟨z0, z1, _, _⟩ := PZ.out.facts
  obtain ⟨d0, d1, _, _⟩ := PD.out.facts
  have s0 := BX.out.cell 0
  have s1 := BX.out.cell 1
  have s2 := BX.out.cell 2
  have s3 := BX.out.cell 3
  have s4 := BX.out.cell 4
  have s5 := BX.out.cell 5
  have s6 := BX.out.cell 6
  simp at s0 s1 s2 s3 s4 s5 s6
  go_wp2_with fail
  refine (LT.out _ Q0.out).mono ?_
  rintro e v14 ⟨rfl, hb⟩
  clear z0 z1 d0 d1 s0 s1 s2 s3 s4 s5 s6
  have Q0 := Lib.hid (below_on Q0.out hb)
  clear hb
  go_wp2_with fail
  refine (SH.out _).mono ?_
  rintro e w99 ⟨rfl, hb⟩
  have Q0 := Lib.hid (below_on Q0.out hb)
  clear hb
  go_wp2_with fail
  go_ret
  exact ⟨rfl, Q0.out⟩
end Go.Proofs.Ytbnebinpemejlaa
