/- ZoneTimes: the walks.; ZoneTimes, for whatever arguments. -/
import Derived.Test.YtbnebinpemejlaaHx8

namespace Go.Proofs.Ytbnebinpemejlaa
open Go.RowKit

set_option maxRecDepth 100000 in
set_option maxHeartbeats 4000000 in
theorem times_4 (N : Int) (ao : Option Addr) (len cap : Nat) (po : Option Addr) (pl pc : Nat) (dn dd : Int) (w : World) (g0 : ¬ 200 < len) (g1 : ¬ 50 < pl) (uL vL : List Int) (qs : List Pq) (pe hr : Int) (hq : Bool) (x : Dl) 
    (UP : Hid (∀ W, Below w.heap.size w W → Calls Try.prog 26 #[.agg #[.int .i64 N, .slice ao len cap]] W (ZV2 W N uL 0)))
    (DN : Hid (∀ W, Below w.heap.size w W → Calls Try.prog 28 #[.agg #[.int .i64 N, .slice ao len cap]] W (ZV2 W N vL 0)))
    (UP2 : Hid (∀ W a c, Arg W a uL → Calls Try.prog 26 #[.agg #[.int .i64 N, .slice a uL.length c]] W (ZV2 W N uL 0)))
    (DN2 : Hid (∀ W a c, Arg W a vL → Calls Try.prog 28 #[.agg #[.int .i64 N, .slice a vL.length c]] W (ZV2 W N vL 0)))
    (IU : Hid (∀ W a c, Arg W a uL → Below w.heap.size w W → Calls Try.prog 38 #[.agg #[.int .i64 N, .slice a uL.length c], .agg #[.int .i64 N, .slice ao len cap]] W (Made (.tuple #[.bool true, .int .i64 0]) W)))
    (IV : Hid (∀ W a c, Arg W a vL → Below w.heap.size w W → Calls Try.prog 38 #[.agg #[.int .i64 N, .slice a vL.length c], .agg #[.int .i64 N, .slice ao len cap]] W (Made (.tuple #[.bool true, .int .i64 0]) W)))
    (SU : Hid (∀ W a c b d, Arg W a uL → Arg W b uL → Calls Try.prog 40 #[.agg #[.int .i64 N, .slice a uL.length c], .agg #[.int .i64 N, .slice b uL.length d]] W (Made (.bool true) W)))
    (SV : Hid (∀ W a c b d, Arg W a vL → Arg W b vL → Calls Try.prog 40 #[.agg #[.int .i64 N, .slice a vL.length c], .agg #[.int .i64 N, .slice b vL.length d]] W (Made (.bool true) W)))
    (PT : Hid (∀ W, Below w.heap.size w W → Calls Try.prog 50 #[.agg #[.int .i64 N, .slice ao len cap]] W (QRes2 W qs pe)))
    (HP : Hid (∀ W a c, Arg2 W (some a) qs → Below w.heap.size w W → pe = 0 → Calls Try.prog 46 #[.agg #[.int .i64 N, .slice ao len cap], .slice (some a) qs.length c] W (Made (.tuple #[.bool hq, .int .i64 hr]) W)))
    (HH : Hid (pe = 0 → (hr = 7 ∨ (hr = 0 ∧ hq = true))))
    (SY : Hid (∀ W, Below w.heap.size w W → Calls Try.prog 51 #[.agg #[.int .i64 N, .slice ao len cap], .slice po pl pc] W (Made (.tuple #[.agg #[.int .i64 x.ln, .int .i64 x.ld, .int .i64 x.hn, .int .i64 x.hd, .bool x.lo, .bool x.ho, .bool x.nh], .int .i64 4]) W)))
    (HV : Hid (∀ W a c, Arg W a vL → Below w.heap.size w W → Calls Try.prog 46 #[.agg #[.int .i64 N, .slice a vL.length c], .slice po pl pc] W (Made (.tuple #[.bool false, .int .i64 0]) W)))
    (LT : Hid (∀ W, Below w.heap.size w W → Calls Try.prog 52 #[.agg #[.int .i64 N, .slice ao len cap], .slice po pl pc, .agg #[.int .i64 dn, .int .i64 dd], .agg #[.int .i64 x.ln, .int .i64 x.ld, .int .i64 x.hn, .int .i64 x.hd, .bool x.lo, .bool x.ho, .bool x.nh], .int .i64 4] W (Made (.bool true) W))) :
    Calls Try.prog 8 #[.agg #[.int .i64 N, .slice ao len cap], .slice po pl pc, .agg #[.int .i64 dn, .int .i64 dd]] w (Made (.bool true) w) := by
  have SH := Lib.hid (fun W => shown3_any W)
  unfold ZV2 at UP DN UP2 DN2
  have D0 : decide ((200 : Int) < (len : Int)) = false := by simp; omega
  have D1 : decide ((50 : Int) < (pl : Int)) = false := by simp; omega
  clear g0 g1
  obtain ⟨w0, hw0⟩ : ∃ w0, w0 = ((w.alloc (.cells #[.int .i64 N, .slice ao len cap] 25)).alloc (.cells #[.int .i64 dn, .int .i64 dd] 52)) := ⟨_, rfl⟩
  have PZ := Lib.hid (show Two w0 w.heap.size (.int .i64 N) (.slice ao len cap) by rw [hw0]; exact (Two.made _ _ _ _).alloc _)
  have PD := Lib.hid (show Pair w0 (w.heap.size + 1) dn dd by
    rw [hw0]
    have := Pair.made (w.alloc (.cells #[.int .i64 N, .slice ao len cap] 25)) dn dd 52
    simpa using this)
  have Q0 := Lib.hid (show Below w.heap.size w w0 by rw [hw0]; exact past_two (Below.refl _ _))
  go_enter Try.func8, Try.ntmps8
  go_upto_region 1 with (fail)
  rw [← hw0]
  clear hw0
  obtain ⟨z0, z1, _, _⟩ := PZ.out.facts
  go_wp2_with fail
  refine (UP.out _ Q0.out).mono ?_
  rintro e w1 ⟨ao1, ck1, rfl, hA, hm, _, hb⟩
  have L1 := Lib.hid hm
  obtain ⟨v1, hv⟩ : ∃ v1, v1 = w1.alloc (.cells #[.int .i64 N, .slice ao1 uL.length ck1] 25) := ⟨_, rfl⟩
  have X1 := Lib.hid (show Two v1 w1.heap.size (.int .i64 N) (.slice ao1 uL.length ck1) by rw [hv]; exact Two.made _ _ _ _)
  have A1 := Lib.hid (show Arg v1 ao1 uL by rw [hv]; exact hA.on (one_more _))
  have B1 := Lib.hid (show Below w0.heap.size w0 v1 by rw [hv]; exact hb.alloc hb.size _)
  have Y1 := Lib.hid (show w0.heap.size ≤ w1.heap.size ∧ v1.heap.size = w1.heap.size + 1 by rw [hv]; exact ⟨hb.size, by simp⟩)
  clear hA hm hb
  go_upto_region 4 with (fail)
  rw [← hv]
  clear hv
  clear z0 z1
  have PZ := Lib.hid (PZ.out.kept B1.out)
  have PD := Lib.hid (PD.out.kept B1.out)
  have Q0 := Lib.hid (below_on Q0.out B1.out)
  obtain ⟨z0, z1, _, _⟩ := PZ.out.facts
  go_wp2_with fail
  refine (DN.out _ Q0.out).mono ?_
  rintro e w2 ⟨ao2, ck2, rfl, hA, hm, _, hb⟩
  have L2 := Lib.hid hm
  obtain ⟨v2, hv⟩ : ∃ v2, v2 = w2.alloc (.cells #[.int .i64 N, .slice ao2 vL.length ck2] 25) := ⟨_, rfl⟩
  have X2 := Lib.hid (show Two v2 w2.heap.size (.int .i64 N) (.slice ao2 vL.length ck2) by rw [hv]; exact Two.made _ _ _ _)
  have A2 := Lib.hid (show Arg v2 ao2 vL by rw [hv]; exact hA.on (one_more _))
  have B2 := Lib.hid (show Below v1.heap.size v1 v2 by rw [hv]; exact hb.alloc hb.size _)
  have Y2 := Lib.hid (show v1.heap.size ≤ w2.heap.size ∧ v2.heap.size = w2.heap.size + 1 by rw [hv]; exact ⟨hb.size, by simp⟩)
  clear hA hm hb
  go_upto_region 5 with (fail)
  rw [← hv]
  clear hv
  clear z0 z1
  have PZ := Lib.hid (PZ.out.kept B2.out)
  have PD := Lib.hid (PD.out.kept B2.out)
  have Q0 := Lib.hid (below_on Q0.out B2.out)
  have X1 := Lib.hid (X1.out.kept B2.out)
  have A1 := Lib.hid (A1.out.on B2.out)
  obtain ⟨u0, u1, _, _⟩ := X1.out.facts
  go_wp2_with fail
  refine (UP2.out _ _ _ A1.out).mono ?_
  rintro e w3 ⟨ao3, ck3, rfl, hA, hm, _, hb⟩
  have L3 := Lib.hid hm
  obtain ⟨v3, hv⟩ : ∃ v3, v3 = w3.alloc (.cells #[.int .i64 N, .slice ao3 uL.length ck3] 25) := ⟨_, rfl⟩
  have X3 := Lib.hid (show Two v3 w3.heap.size (.int .i64 N) (.slice ao3 uL.length ck3) by rw [hv]; exact Two.made _ _ _ _)
  have A3 := Lib.hid (show Arg v3 ao3 uL by rw [hv]; exact hA.on (one_more _))
  have B3 := Lib.hid (show Below v2.heap.size v2 v3 by rw [hv]; exact hb.alloc hb.size _)
  have Y3 := Lib.hid (show v2.heap.size ≤ w3.heap.size ∧ v3.heap.size = w3.heap.size + 1 by rw [hv]; exact ⟨hb.size, by simp⟩)
  clear hA hm hb
  go_upto_region 8 with (fail)
  rw [← hv]
  clear hv
  clear u0 u1
  have PZ := Lib.hid (PZ.out.kept B3.out)
  have PD := Lib.hid (PD.out.kept B3.out)
  have Q0 := Lib.hid (below_on Q0.out B3.out)
  have X1 := Lib.hid (X1.out.kept B3.out)
  have A1 := Lib.hid (A1.out.on B3.out)
  have X2 := Lib.hid (X2.out.kept B3.out)
  have A2 := Lib.hid (A2.out.on B3.out)
  obtain ⟨u0, u1, _, _⟩ := X2.out.facts
  go_wp2_with fail
  refine (DN2.out _ _ _ A2.out).mono ?_
  rintro e w4 ⟨ao4, ck4, rfl, hA, hm, _, hb⟩
  have L4 := Lib.hid hm
  obtain ⟨v4, hv⟩ : ∃ v4, v4 = w4.alloc (.cells #[.int .i64 N, .slice ao4 vL.length ck4] 25) := ⟨_, rfl⟩
  have X4 := Lib.hid (show Two v4 w4.heap.size (.int .i64 N) (.slice ao4 vL.length ck4) by rw [hv]; exact Two.made _ _ _ _)
  have A4 := Lib.hid (show Arg v4 ao4 vL by rw [hv]; exact hA.on (one_more _))
  have B4 := Lib.hid (show Below v3.heap.size v3 v4 by rw [hv]; exact hb.alloc hb.size _)
  have Y4 := Lib.hid (show v3.heap.size ≤ w4.heap.size ∧ v4.heap.size = w4.heap.size + 1 by rw [hv]; exact ⟨hb.size, by simp⟩)
  clear hA hm hb
  go_upto_region 9 with (fail)
  rw [← hv]
  clear hv
  clear u0 u1
  have PZ := Lib.hid (PZ.out.kept B4.out)
  have PD := Lib.hid (PD.out.kept B4.out)
  have Q0 := Lib.hid (below_on Q0.out B4.out)
  have X1 := Lib.hid (X1.out.kept B4.out)
  have A1 := Lib.hid (A1.out.on B4.out)
  have X2 := Lib.hid (X2.out.kept B4.out)
  have A2 := Lib.hid (A2.out.on B4.out)
  have X3 := Lib.hid (X3.out.kept B4.out)
  have A3 := Lib.hid (A3.out.on B4.out)
  obtain ⟨z0, z1, _, _⟩ := PZ.out.facts
  obtain ⟨u0, u1, _, _⟩ := X1.out.facts
  go_wp2_with fail
  refine (IU.out _ _ _ A1.out Q0.out).mono ?_
  rintro e v5 ⟨rfl, hb⟩
  clear z0 z1
  clear u0 u1
  have PZ := Lib.hid (PZ.out.kept hb)
  have PD := Lib.hid (PD.out.kept hb)
  have Q0 := Lib.hid (below_on Q0.out hb)
  have X1 := Lib.hid (X1.out.kept hb)
  have A1 := Lib.hid (A1.out.on hb)
  have X2 := Lib.hid (X2.out.kept hb)
  have A2 := Lib.hid (A2.out.on hb)
  have X3 := Lib.hid (X3.out.kept hb)
  have A3 := Lib.hid (A3.out.on hb)
  have X4 := Lib.hid (X4.out.kept hb)
  have A4 := Lib.hid (A4.out.on hb)
  clear hb
  obtain ⟨z0, z1, _, _⟩ := PZ.out.facts
  obtain ⟨u0, u1, _, _⟩ := X2.out.facts
  go_wp2_with fail
  refine (IV.out _ _ _ A2.out Q0.out).mono ?_
  rintro e v6 ⟨rfl, hb⟩
  clear z0 z1
  clear u0 u1
  have PZ := Lib.hid (PZ.out.kept hb)
  have PD := Lib.hid (PD.out.kept hb)
  have Q0 := Lib.hid (below_on Q0.out hb)
  have X1 := Lib.hid (X1.out.kept hb)
  have A1 := Lib.hid (A1.out.on hb)
  have X2 := Lib.hid (X2.out.kept hb)
  have A2 := Lib.hid (A2.out.on hb)
  have X3 := Lib.hid (X3.out.kept hb)
  have A3 := Lib.hid (A3.out.on hb)
  have X4 := Lib.hid (X4.out.kept hb)
  have A4 := Lib.hid (A4.out.on hb)
  clear hb
  obtain ⟨u0, u1, _, _⟩ := X1.out.facts
  obtain ⟨y0, y1, _, _⟩ := X3.out.facts
  go_wp2_with fail
  refine (SU.out _ _ _ _ _ A1.out A3.out).mono ?_
  rintro e v7 ⟨rfl, hb⟩
  clear u0 u1 y0 y1
  have PZ := Lib.hid (PZ.out.kept hb)
  have PD := Lib.hid (PD.out.kept hb)
  have Q0 := Lib.hid (below_on Q0.out hb)
  have X1 := Lib.hid (X1.out.kept hb)
  have A1 := Lib.hid (A1.out.on hb)
  have X2 := Lib.hid (X2.out.kept hb)
  have A2 := Lib.hid (A2.out.on hb)
  have X3 := Lib.hid (X3.out.kept hb)
  have A3 := Lib.hid (A3.out.on hb)
  have X4 := Lib.hid (X4.out.kept hb)
  have A4 := Lib.hid (A4.out.on hb)
  clear hb
  obtain ⟨u0, u1, _, _⟩ := X2.out.facts
  obtain ⟨y0, y1, _, _⟩ := X4.out.facts
  go_wp2_with fail
  refine (SV.out _ _ _ _ _ A2.out A4.out).mono ?_
  rintro e v8 ⟨rfl, hb⟩
  clear u0 u1 y0 y1
  have PZ := Lib.hid (PZ.out.kept hb)
  have PD := Lib.hid (PD.out.kept hb)
  have Q0 := Lib.hid (below_on Q0.out hb)
  have X2 := Lib.hid (X2.out.kept hb)
  have A2 := Lib.hid (A2.out.on hb)
  clear hb X1 A1 X3 A3 X4 A4 UP DN UP2 DN2 IU IV SU SV B1 B2 B3 B4 L1 L2 L3 L4 Y1 Y2 Y3 Y4
  obtain ⟨z0, z1, _, _⟩ := PZ.out.facts
  go_wp2_with fail
  refine (PT.out _ Q0.out).mono ?_
  rintro e v9 ⟨hb, hE⟩
  clear z0 z1
  have PZ := Lib.hid (PZ.out.kept hb)
  have PD := Lib.hid (PD.out.kept hb)
  have Q0 := Lib.hid (below_on Q0.out hb)
  have X2 := Lib.hid (X2.out.kept hb)
  have A2 := Lib.hid (A2.out.on hb)
  clear hb
  obtain ⟨ql, hql⟩ : ∃ ql : Nat, ql = (if pe = 0 then qs.length else 0) := ⟨_, rfl⟩
  obtain ⟨qo, qc, he9, hA9⟩ : ∃ (qo : Option Addr) (qc : Nat), e = .returned (.tuple #[.slice qo ql qc, .int .i64 pe]) ∧ (pe = 0 → ∃ a, qo = some a ∧ ql = qs.length ∧ Arg2 v9 (some a) qs) := by
    rcases hE with ⟨h1, a, c, h2, h3⟩ | ⟨h1, h2⟩
    · exact ⟨some a, c, by rw [hql, if_pos h1, h1]; exact h2, fun _ => ⟨a, rfl, by rw [hql, if_pos h1], h3⟩⟩
    · exact ⟨none, 0, by rw [hql, if_neg h1]; exact h2, fun q => absurd q h1⟩
  subst he9
  have HA9 := Lib.hid hA9
  clear hE hA9 hql PT
  obtain ⟨gp0, hgp⟩ : ∃ b, (pe == 0) = b := ⟨_, rfl⟩
  go_upto_if 124 with (fail)
  go_cut [20, 21] (fun _ _ wx => Hid (Below v9.heap.size v9 wx))
  case first =>
    cases gp0
    · go_wp2_with fail
      go_meet
      case rel => exact Lib.hid (Below.refl _ _)
    · have hpe : pe = 0 := by simpa using hgp
      obtain ⟨a, ha1, ha2, ha3⟩ := HA9.out hpe
      subst ha1
      subst ha2
      have HA := Lib.hid ha3
      have HP2 := Lib.hid (fun W a c h k => HP.out W a c h k hpe)
      have HH2 := HH.out hpe
      clear ha3 hpe HA9 HP HH
      obtain ⟨z0, z1, _, _⟩ := PZ.out.facts
      rcases HH2 with hh | ⟨hh, hh2⟩
      · subst hh
        go_wp2_with fail
        refine (HP2.out _ _ _ HA.out Q0.out).mono ?_
        rintro e v10 ⟨rfl, hb⟩
        have H10 := Lib.hid hb
        clear hb z0 z1
        go_wp2_with fail
        go_meet
        case rel => exact H10
      · subst hh
        subst hh2
        go_wp2_with fail
        refine (HP2.out _ _ _ HA.out Q0.out).mono ?_
        rintro e v10 ⟨rfl, hb⟩
        have H10 := Lib.hid hb
        clear hb z0 z1
        go_wp2_with fail
        go_meet
        case rel => exact H10
  case rest =>
  have HC := hcut
  clear hcut HA9 HP HH hgp
  have PZ := Lib.hid (PZ.out.kept HC.out)
  have PD := Lib.hid (PD.out.kept HC.out)
  have Q0 := Lib.hid (below_on Q0.out HC.out)
  have X2 := Lib.hid (X2.out.kept HC.out)
  have A2 := Lib.hid (A2.out.on HC.out)
  clear HC
  generalize wc = v11 at *
  obtain ⟨z0, z1, _, _⟩ := PZ.out.facts
  go_wp2_with fail
  refine (SY.out _ Q0.out).mono ?_
  rintro e w12 ⟨rfl, hb⟩
  clear z0 z1
  obtain ⟨v12, hv⟩ : ∃ v, v = w12.alloc (.cells #[.int .i64 x.ln, .int .i64 x.ld, .int .i64 x.hn, .int .i64 x.hd, .bool x.lo, .bool x.ho, .bool x.nh] 64) := ⟨_, rfl⟩
  have BX := Lib.hid (show Bx v12 w12.heap.size #[.int .i64 x.ln, .int .i64 x.ld, .int .i64 x.hn, .int .i64 x.hd, .bool x.lo, .bool x.ho, .bool x.nh] by rw [hv]; exact Bx.made _ _ _)
  have B12 := Lib.hid (show Below v11.heap.size v11 v12 by rw [hv]; exact hb.alloc hb.size _)
  clear hb
  go_upto_region 19 with (fail)
  rw [← hv]
  clear hv
  have PZ := Lib.hid (PZ.out.kept B12.out)
  have PD := Lib.hid (PD.out.kept B12.out)
  have Q0 := Lib.hid (below_on Q0.out B12.out)
  have X2 := Lib.hid (X2.out.kept B12.out)
  have A2 := Lib.hid (A2.out.on B12.out)
  obtain ⟨u0, u1, _, _⟩ := X2.out.facts
  go_wp2_with fail
  refine (HV.out _ _ _ A2.out Q0.out).mono ?_
  rintro e v13 ⟨rfl, hb⟩
  clear u0 u1
  have PZ := Lib.hid (PZ.out.kept hb)
  have PD := Lib.hid (PD.out.kept hb)
  have Q0 := Lib.hid (below_on Q0.out hb)
  have BX := Lib.hid (BX.out.kept hb)
  clear hb HV SY X2 A2
  obtain ⟨z0, z1, _, _⟩ := PZ.out.facts
  obtain ⟨d0, d1, _, _⟩ := PD.out.facts
  have s0 := BX.out.cell 0
  have s1 := BX.out.cell 1
  have s2 := BX.out.cell 2
  have s3 := BX.out.cell 3
  have s4 := BX.out.cell 4
  have s5 := BX.out.cell 5
  have s6 := BX.out.cell 6
  simp at s0 s1 s2 s3 s4 s5 s6
  go_wp2_with fail
  refine (LT.out _ Q0.out).mono ?_
  rintro e v14 ⟨rfl, hb⟩
  clear z0 z1 d0 d1 s0 s1 s2 s3 s4 s5 s6
  have Q0 := Lib.hid (below_on Q0.out hb)
  clear hb
  go_wp2_with fail
  refine (SH.out _).mono ?_
  rintro e w99 ⟨rfl, hb⟩
  have Q0 := Lib.hid (below_on Q0.out hb)
  clear hb
  go_wp2_with fail
  go_ret
  exact ⟨rfl, Q0.out⟩
end Go.Proofs.Ytbnebinpemejlaa

namespace Go.Proofs.Ytbnebinpemejlaa
open Go.RowKit

theorem rd2_is {w : World} {a : Addr} {cs : List Pq} (h : Arg2 w (some a) cs) : Rd2 w a cs := by
  by_cases he : cs = []
  · subst he; intro j hj; simp at hj
  · obtain ⟨b, h1, h2⟩ := h he
    obtain rfl := Option.some.inj h1
    exact h2

theorem gp_map {ps : List Pq} {f : Pq → Pq} {k : Nat} (hk : k < ps.length) : gp (ps.map f) k = f (gp ps k) := by simp [gp, hk]

theorem adP_fits (p : Pq) (dn dd : Int) : I64 (adP p dn dd).1 ∧ I64 (adP p dn dd).2 := by
  have h1 := mkNum_bd (p.1 * dd + dn * p.2) (p.2 * dd)
  have h2 := mkDen_bd (p.1 * dd + dn * p.2) (p.2 * dd)
  unfold adP I64
  exact ⟨⟨by omega, by omega⟩, ⟨by omega, by omega⟩⟩

theorem adP_vld {p : Pq} {dn dd : Int} (hp : vldC p = true) (hd : vldB dn dd = true) (h0 : 0 ≤ dn) (e : adEr p dn dd = 0) : vldC (adP p dn dd) = true := by
  unfold adEr at e
  obtain ⟨_, v, val⟩ := mk_ok e
  unfold vldC at hp
  simp at hp
  have p1 := vld_pos hp.1
  have p2 := vld_pos hd
  have p3 := vld_pos v
  have ha : 0 ≤ p.1 * dd + dn * p.2 := by
    have := Int.mul_nonneg hp.2 (show 0 ≤ dd by omega)
    have := Int.mul_nonneg h0 (show 0 ≤ p.2 by omega)
    omega
  have hb : 0 < p.2 * dd := Int.mul_pos (by omega) (by omega)
  have hn : 0 ≤ mkNum (p.1 * dd + dn * p.2) (p.2 * dd) := by
    have : 0 * (p.2 * dd) ≤ mkNum (p.1 * dd + dn * p.2) (p.2 * dd) * (p.2 * dd) := by
      rw [val, Int.zero_mul]; exact Int.mul_nonneg ha (by omega)
    exact Int.le_of_mul_le_mul_right this hb
  unfold adP vldC
  simp [v, hn]

theorem sgn_lt {x y : Int} : decide (sgn x y < 0) = decide (x < y) ∧ decide (sgn x y = 0) = decide (x = y) := by
  rcases sgn_three x y with ⟨h, g⟩ | ⟨h, g⟩ | ⟨h, g⟩
  · rw [h]; exact ⟨by simp [g], by simp; omega⟩
  · rw [h]; exact ⟨by simp; omega, by simp [g]⟩
  · rw [h]; exact ⟨by simp; omega, by simp; omega⟩

set_option maxRecDepth 100000 in
theorem later_all (n : Nat) (l : List Int) (ao : Option Addr) (cap : Nat) (ps : List Pq) (po : Option Addr) (pc : Nat) (dn dd : Int) (w : World) (hA : Arg w ao l) (hP : Arg2 w po ps) (hI : Fits ps) (hm : po = none → ps = [] ∧ pc = 0) (hl : ps.length ≤ 50) (hdn : I64 dn) (hdd : I64 dd)
    (hr : rdE n l ps = 0) (hg : (stR n l ps).2 = 0 ∨ (stR n l ps).2 = 4) :
    Calls Try.prog 52 #[.agg #[.int .i64 (n : Int), .slice ao l.length cap], .slice po ps.length pc, .agg #[.int .i64 dn, .int .i64 dd], .agg #[.int .i64 (stR n l ps).1.ln, .int .i64 (stR n l ps).1.ld, .int .i64 (stR n l ps).1.hn, .int .i64 (stR n l ps).1.hd, .bool (stR n l ps).1.lo, .bool (stR n l ps).1.ho, .bool (stR n l ps).1.nh], .int .i64 (stR n l ps).2] w (Made (.bool true) w) := by
  obtain ⟨hc, hp, hv, _⟩ := rd_parts hr
  cases hvd : vldB dn dd
  · exact later_bad n ao l.length cap ps po pc dn dd _ _ w (Lib.hid fun W => refValid_as W hdn hdd hvd)
  have VD := Lib.hid (fun W => refValid_as W hdn hdd hvd)
  by_cases h0' : dn < 0
  · exact later_neg n ao l.length cap ps po pc dn dd _ _ w h0' VD
  have h0 : 0 ≤ dn := by omega
  clear h0'
  obtain ⟨qs, hqs⟩ : ∃ qs, qs = ps.map (fun p => adP p dn dd) := ⟨_, rfl⟩
  have hql : qs.length = ps.length := by rw [hqs]; simp
  have hgq : ∀ k, k < ps.length → gp qs k = adP (gp ps k) dn dd := fun k hk => by rw [hqs]; exact gp_map hk
  have hqf : Fits qs := fun k hk => by rw [hgq k (by omega)]; exact adP_fits _ _ _
  have HQ := (show ∀ W qo qc, Arg2 W qo qs → (qo = none → qc = 0) → Below w.heap.size w W → Calls Try.prog 46 #[.agg #[.int .i64 (n : Int), .slice ao l.length cap], .slice qo ps.length qc] W (Made (.tuple #[.bool (hsR n l qs), .int .i64 (rdE n l qs)]) W) from fun W qo qc h1 h2 hb => by
    have := zhas_gen n l ao cap qs qo qc W (hA.on hb) h1 hqf h2
    rwa [hql] at this)
  have AD := Lib.hid (show ∀ W k, k < ps.length → Calls Try.prog 99 #[.agg #[.int .i64 (gp ps k).1, .int .i64 (gp ps k).2], .agg #[.int .i64 dn, .int .i64 dd]] W (Made (.tuple #[.agg #[.int .i64 (gp qs k).1, .int .i64 (gp qs k).2], .int .i64 ((fun k => adEr (gp ps k) dn dd) k)]) W) from fun W k hk => by
    have v := hv k hk
    unfold vldC at v
    simp at v
    have := refAdd_any (gp ps k).1 (gp ps k).2 dn dd W (hI k hk).1 (hI k hk).2 hdn hdd
    rw [v.1, hvd] at this
    rw [hgq k hk]
    exact this)
  by_cases hae' : ∃ k, k < ps.length ∧ (fun k => adEr (gp ps k) dn dd) k ≠ 0
  · cases po with
    | none =>
      have e := (hm rfl).1
      obtain ⟨k, hk, _⟩ := hae'
      rw [e] at hk; simp at hk
    | some pb => exact later_early n ao l.length cap ps pb pc dn dd _ _ qs w hl h0 VD (rd2_is hP) _ hql AD hae'
  have hae : ∀ k, k < ps.length → (fun k => adEr (gp ps k) dn dd) k = 0 := fun k hk => Decidable.not_not.1 fun q => hae' ⟨k, hk, q⟩
  clear hae'
  have hqv : ∀ k, k < qs.length → vldC (gp qs k) = true := fun k hk => by
    rw [hgq k (by omega)]
    exact adP_vld (hv k (by omega)) hvd h0 (hae k (by omega))
  have ha : ∀ k, k < ps.length → gp qs k = adP (gp ps k) dn dd ∧ adEr (gp ps k) dn dd = 0 := fun k hk => ⟨hgq k hk, hae k hk⟩
  rcases rdE_two' hc (show qs.length = n by omega) hqv with hrq | hrq <;> rw [hrq] at HQ
  · rcases hg with hg | hg
    · obtain ⟨v1, v2, hin⟩ := later_ok hr hvd h0 hql ha hrq hg
      rw [hg]
      generalize (stR n l ps).1 = x at *
      have b1 := vld_pos v1
      have C1 := Lib.hid (show ∀ W, Calls Try.prog 108 #[.agg #[.int .i64 x.ln, .int .i64 x.ld], .agg #[.int .i64 dn, .int .i64 dd]] W (Made (.tuple #[.int .i64 (sgn (x.ln * dd) (dn * x.ld)), .int .i64 0]) W) from fun W => by
        have := refCmp_any x.ln x.ld dn dd W (by unfold I64; omega) (by unfold I64; omega) hdn hdd
        rw [v1, hvd] at this
        exact this)
      have C2 := Lib.hid (show x.nh = false → ∀ W, Calls Try.prog 108 #[.agg #[.int .i64 dn, .int .i64 dd], .agg #[.int .i64 x.hn, .int .i64 x.hd]] W (Made (.tuple #[.int .i64 (sgn (dn * x.hd) (x.hn * dd)), .int .i64 0]) W) from fun q W => by
        have b2 := vld_pos (v2 q)
        have := refCmp_any dn dd x.hn x.hd W hdn hdd (by unfold I64; omega) (by unfold I64; omega)
        rw [v2 q, hvd] at this
        exact this)
      rw [← (sgn_lt (x := x.ln * dd) (y := dn * x.ld)).1, ← (sgn_lt (x := x.ln * dd) (y := dn * x.ld)).2, ← (sgn_lt (x := dn * x.hd) (y := x.hn * dd)).1, ← (sgn_lt (x := dn * x.hd) (y := x.hn * dd)).2] at hin
      cases po with
      | none => exact later_in n ao l.length cap ps pc dn dd x qs _ w hl h0 VD (hm rfl).1 (by rw [hqs, (hm rfl).1]; rfl) (Lib.hid HQ) _ _ C1 C2 hin
      | some pb => exact later_is n ao l.length cap ps pb pc dn dd x qs _ w hl h0 VD (rd2_is hP) _ hql AD hae (Lib.hid HQ) _ _ C1 C2 hin
    · have hin := later_no hr hvd h0 hql ha hrq hg
      cases po with
      | none => exact later_nn n ao l.length cap ps pc dn dd _ _ qs _ w hl h0 VD (hm rfl).1 (by rw [hqs, (hm rfl).1]; rfl) (Lib.hid HQ) (by rw [hg]; decide) hin
      | some pb => exact later_ns n ao l.length cap ps pb pc dn dd _ _ qs _ w hl h0 VD (rd2_is hP) _ hql AD hae (Lib.hid HQ) (by rw [hg]; decide) hin
  · cases po with
    | none => exact later_7n n ao l.length cap ps pc dn dd _ _ qs _ w hl h0 VD (hm rfl).1 (by rw [hqs, (hm rfl).1]; rfl) (Lib.hid HQ)
    | some pb => exact later_7s n ao l.length cap ps pb pc dn dd _ _ qs _ w hl h0 VD (rd2_is hP) _ hql AD hae (Lib.hid HQ)

theorem zv2_zero {w : World} {N : Int} {m : List Int} {e : Ending} {w' : World} (h : ZRes w N m 0 e w') : ZV2 w N m 0 e w' := by simpa [zrN, zrL] using h.zv2

set_option maxRecDepth 100000 in
theorem times_any (N : Int) (l : List Int) (ao : Option Addr) (cap : Nat) (ps : List Pq) (po : Option Addr) (pc : Nat) (dn dd : Int) (w : World) (hA : Arg w ao l) (hP : Arg2 w po ps) (hI : Fits ps) (hm : po = none → ps = [] ∧ pc = 0) (hdn : I64 dn) (hdd : I64 dd) :
    Calls Try.prog 8 #[.agg #[.int .i64 N, .slice ao l.length cap], .slice po ps.length pc, .agg #[.int .i64 dn, .int .i64 dd]] w (Made (.bool true) w) := by
  have hN : po = none → pc = 0 := fun e => (hm e).2
  by_cases g0 : 200 < l.length
  · exact times_long1 N ao l.length cap po ps.length pc dn dd w g0
  by_cases g1 : 50 < ps.length
  · exact times_long2 N ao l.length cap po ps.length pc dn dd w g0 g1
  by_cases hc' : chkE N l ≠ 0
  · have hc2 : chkE N l = 2 := by unfold chkE at hc' ⊢; split <;> simp_all
    have UP := Lib.hid (show ∀ W, Below w.heap.size w W → Calls Try.prog 26 #[.agg #[.int .i64 N, .slice ao l.length cap]] W (fun e w' => e = .returned (.tuple #[.agg #[.int .i64 0, .slice none 0 0], .int .i64 2]) ∧ Below W.heap.size W w') from fun W hb => by
      have := zup_gen N l ao cap W (hA.on hb)
      rw [show upE N l = 2 by unfold upE; rw [if_neg hc']] at this
      exact this.mono fun e w' h => h.no (by decide))
    have DN := Lib.hid (show ∀ W, Below w.heap.size w W → Calls Try.prog 28 #[.agg #[.int .i64 N, .slice ao l.length cap]] W (fun e w' => e = .returned (.tuple #[.agg #[.int .i64 0, .slice none 0 0], .int .i64 2]) ∧ Below W.heap.size W w') from fun W hb => by
      have := zdn_gen N l ao cap W (hA.on hb)
      rw [show dnE N l = 2 by unfold dnE; rw [if_neg hc']] at this
      exact this.mono fun e w' h => h.no (by decide))
    have CK := Lib.hid (show ∀ W, Below w.heap.size w W → Calls Try.prog 17 #[.agg #[.int .i64 N, .slice ao l.length cap]] W (Made (.int .i64 2) W) from fun W hb => by
      have := zcheck_gen N l ao cap W (hA.on hb)
      rwa [hc2] at this)
    exact times_bad N ao l.length cap po ps.length pc dn dd w g0 g1 UP DN CK
  have hc : chkE N l = 0 := Decidable.not_not.1 hc'
  clear hc'
  obtain ⟨n, rfl, hn, hl, hne⟩ := chk_ok hc
  obtain ⟨a, rfl, hR⟩ := hA hne
  obtain ⟨u1, u2, u3, u4, u5⟩ := up_math hc
  obtain ⟨d1, d2, d3⟩ := dn_math hc
  have d4 := dn_twice hc
  have hv := dn_chk hc
  have hu := up_chk hc
  have UP := Lib.hid (show ∀ W, Below w.heap.size w W → Calls Try.prog 26 #[.agg #[.int .i64 (n : Int), .slice (some a) l.length cap]] W (ZV2 W n (upL n l) 0) from fun W hb => by
    have := zup_gen n l (some a) cap W (hA.on hb)
    rw [Int.toNat_natCast, u1, u2] at this
    exact this.mono fun e w' h => zv2_zero h)
  have DN := Lib.hid (show ∀ W, Below w.heap.size w W → Calls Try.prog 28 #[.agg #[.int .i64 (n : Int), .slice (some a) l.length cap]] W (ZV2 W n (Zo.clo n (dnL n l)) 0) from fun W hb => by
    have := zdn_gen n l (some a) cap W (hA.on hb)
    rw [Int.toNat_natCast, d1] at this
    exact this.mono fun e w' h => zv2_zero h)
  have UP2 := Lib.hid (show ∀ W b c, Arg W b (upL n l) → Calls Try.prog 26 #[.agg #[.int .i64 (n : Int), .slice b (upL n l).length c]] W (ZV2 W n (upL n l) 0) from fun W b c h => by
    have := zup_gen n (upL n l) b c W h
    rw [Int.toNat_natCast, u3, u4] at this
    exact this.mono fun e w' h => zv2_zero h)
  have DN2 := Lib.hid (show ∀ W b c, Arg W b (Zo.clo n (dnL n l)) → Calls Try.prog 28 #[.agg #[.int .i64 (n : Int), .slice b (Zo.clo n (dnL n l)).length c]] W (ZV2 W n (Zo.clo n (dnL n l)) 0) from fun W b c h => by
    have := zdn_gen n (Zo.clo n (dnL n l)) b c W h
    rw [Int.toNat_natCast, d2, d4] at this
    exact this.mono fun e w' h => zv2_zero h)
  have IU := Lib.hid (show ∀ W b c, Arg W b (upL n l) → Below w.heap.size w W → Calls Try.prog 38 #[.agg #[.int .i64 (n : Int), .slice b (upL n l).length c], .agg #[.int .i64 (n : Int), .slice (some a) l.length cap]] W (Made (.tuple #[.bool true, .int .i64 0]) W) from fun W b c h hb => by
    have := zinc_gen n n (upL n l) l b (some a) c cap W h (hA.on hb)
    rwa [u5, show inE n n (upL n l) l = 0 by unfold inE twB; simp [hu, hc]] at this)
  have IV := Lib.hid (show ∀ W b c, Arg W b (Zo.clo n (dnL n l)) → Below w.heap.size w W → Calls Try.prog 38 #[.agg #[.int .i64 (n : Int), .slice b (Zo.clo n (dnL n l)).length c], .agg #[.int .i64 (n : Int), .slice (some a) l.length cap]] W (Made (.tuple #[.bool true, .int .i64 0]) W) from fun W b c h hb => by
    have := zinc_gen n n (Zo.clo n (dnL n l)) l b (some a) c cap W h (hA.on hb)
    rwa [d3, show inE n n (Zo.clo n (dnL n l)) l = 0 by unfold inE twB; simp [hv, hc]] at this)
  have small : ∀ m : List Int, chkE n m = 0 → m.length ≤ 9223372036854775807 := fun m h => by
    obtain ⟨_, e, _⟩ := chk_len h
    rw [e]
    have := dsq_le hn
    omega
  have SU := Lib.hid (show ∀ W b c b' d, Arg W b (upL n l) → Arg W b' (upL n l) → Calls Try.prog 40 #[.agg #[.int .i64 (n : Int), .slice b (upL n l).length c], .agg #[.int .i64 (n : Int), .slice b' (upL n l).length d]] W (Made (.bool true) W) from fun W b c b' d h k => by
    have := zsame_any n n (upL n l) (upL n l) b b' c d W h k (small _ hu)
    rwa [show smB n n (upL n l) (upL n l) = true by simp [smB]] at this)
  have SV := Lib.hid (show ∀ W b c b' d, Arg W b (Zo.clo n (dnL n l)) → Arg W b' (Zo.clo n (dnL n l)) → Calls Try.prog 40 #[.agg #[.int .i64 (n : Int), .slice b (Zo.clo n (dnL n l)).length c], .agg #[.int .i64 (n : Int), .slice b' (Zo.clo n (dnL n l)).length d]] W (Made (.bool true) W) from fun W b c b' d h k => by
    have := zsame_any n n (Zo.clo n (dnL n l)) (Zo.clo n (dnL n l)) b b' c d W h k (small _ hv)
    rwa [show smB n n (Zo.clo n (dnL n l)) (Zo.clo n (dnL n l)) = true by simp [smB]] at this)
  have epE : pnE n l = (ptR n l n).2 := by unfold pnE; rw [if_pos hc, Int.toNat_natCast]
  have epL : pnL n l = (ptR n l n).1.drop 1 := by unfold pnL; rw [if_pos hc, Int.toNat_natCast]
  have PT := Lib.hid (show ∀ W, Below w.heap.size w W → Calls Try.prog 50 #[.agg #[.int .i64 (n : Int), .slice (some a) l.length cap]] W (QRes2 W (pnL n l) (pnE n l)) from fun W hb => by
    rw [epE, epL]
    exact point_ok2 n l a cap W hn hl hc (hR.on hb))
  have HP := Lib.hid (show ∀ W b c, Arg2 W (some b) (pnL n l) → Below w.heap.size w W → pnE n l = 0 → Calls Try.prog 46 #[.agg #[.int .i64 (n : Int), .slice (some a) l.length cap], .slice (some b) (pnL n l).length c] W (Made (.tuple #[.bool (hsR n l (pnL n l)), .int .i64 (rdE n l (pnL n l))]) W) from fun W b c h hb e =>
    zhas_gen n l (some a) cap (pnL n l) (some b) c W (hA.on hb) h (point_math hc e).1 (fun q => by cases q))
  have HH := Lib.hid (show pnE n l = 0 → (rdE n l (pnL n l) = 7 ∨ (rdE n l (pnL n l) = 0 ∧ hsR n l (pnL n l) = true)) from fun e => by
    obtain ⟨_, h2, h3⟩ := point_math hc e
    rcases h2 with h2 | h2
    · exact Or.inr ⟨h2, h3 h2⟩
    · exact Or.inl h2)
  have SY := (show ∀ W, Below w.heap.size w W → Calls Try.prog 51 #[.agg #[.int .i64 (n : Int), .slice (some a) l.length cap], .slice po ps.length pc] W (Made (.tuple #[.agg #[.int .i64 (stR n l ps).1.ln, .int .i64 (stR n l ps).1.ld, .int .i64 (stR n l ps).1.hn, .int .i64 (stR n l ps).1.hd, .bool (stR n l ps).1.lo, .bool (stR n l ps).1.ho, .bool (stR n l ps).1.nh], .int .i64 (stR n l ps).2]) W) from fun W hb =>
    zstay_gen n l (some a) cap ps po pc W (hA.on hb) (hP.on hb) hI hN)
  have HV := (show ∀ W b c, Arg W b (Zo.clo n (dnL n l)) → Below w.heap.size w W → Calls Try.prog 46 #[.agg #[.int .i64 (n : Int), .slice b (Zo.clo n (dnL n l)).length c], .slice po ps.length pc] W (Made (.tuple #[.bool (hsR n (Zo.clo n (dnL n l)) ps), .int .i64 (rdE n (Zo.clo n (dnL n l)) ps)]) W) from fun W b c h hb =>
    zhas_gen n (Zo.clo n (dnL n l)) b c ps po pc W h (hP.on hb) hI hN)
  by_cases he' : rdE n (Zo.clo n (dnL n l)) ps ≠ 0
  · exact times_he n (some a) l.length cap po ps.length pc dn dd w g0 g1 _ _ _ _ _ _ (stR n l ps).1 _ _ _ he' UP DN UP2 DN2 IU IV SU SV PT HP HH (Lib.hid SY) (Lib.hid HV)
  have he : rdE n (Zo.clo n (dnL n l)) ps = 0 := Decidable.not_not.1 he'
  clear he'
  have hr : rdE n l ps = 0 := by rw [← rdE_other hv hc]; exact he
  rw [he] at HV
  by_cases hg0 : (stR n l ps).2 = 0
  · have hs := (stay_math hr (Or.inl hg0)).2
    rw [hg0] at hs
    rw [show decide ((0 : Int) = 0) = true from rfl] at hs
    rw [hs] at HV
    have LT := Lib.hid (fun W hb => later_all n l (some a) cap ps po pc dn dd W (hA.on hb) (hP.on hb) hI hm (by omega) hdn hdd hr (Or.inl hg0) : ∀ W, Below w.heap.size w W → _)
    rw [hg0] at SY LT
    exact times_0 n (some a) l.length cap po ps.length pc dn dd w g0 g1 _ _ _ _ _ _ (stR n l ps).1 UP DN UP2 DN2 IU IV SU SV PT HP HH (Lib.hid SY) (Lib.hid HV) LT
  by_cases hg4 : (stR n l ps).2 = 4
  · have hs := (stay_math hr (Or.inr hg4)).2
    rw [hg4] at hs
    rw [show decide ((4 : Int) = 0) = false from rfl] at hs
    rw [hs] at HV
    have LT := Lib.hid (fun W hb => later_all n l (some a) cap ps po pc dn dd W (hA.on hb) (hP.on hb) hI hm (by omega) hdn hdd hr (Or.inr hg4) : ∀ W, Below w.heap.size w W → _)
    rw [hg4] at SY LT
    exact times_4 n (some a) l.length cap po ps.length pc dn dd w g0 g1 _ _ _ _ _ _ (stR n l ps).1 UP DN UP2 DN2 IU IV SU SV PT HP HH (Lib.hid SY) (Lib.hid HV) LT
  exact times_ge n (some a) l.length cap po ps.length pc dn dd w g0 g1 _ _ _ _ _ _ (stR n l ps).1 _ _ hg0 hg4 UP DN UP2 DN2 IU IV SU SV PT HP HH (Lib.hid SY) (Lib.hid HV)
end Go.Proofs.Ytbnebinpemejlaa
