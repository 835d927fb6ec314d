/- ZoneAnds, where something is asked.; ZoneAnds, where something is asked.; ZoneAnds, for whatever arguments. -/
import Derived.Test.YtbnebinpemejlaaHa2
import Derived.Test.YtbnebinpemejlaaHa3
import Derived.Test.YtbnebinpemejlaaHa4
import Derived.Test.YtbnebinpemejlaaHa5

namespace Go.Proofs.Ytbnebinpemejlaa
open Go.RowKit

set_option maxRecDepth 100000 in
set_option maxHeartbeats 4000000 in
theorem ands_n0 (N : Int) (l : List Int) (ao : Option Addr) (cap : Nat) (i j c : Int) (cs : List Con) (dc : Nat) (ps : List Pq) (po : Option Addr) (pc : Nat) (w : World) (hA : Arg w ao l) (h1 : l.length ≤ 200) (hD : Arg3 w none cs) (h2 : cs.length ≤ 100) (hP : Arg2 w po ps) (hI : Fits ps) (hN : po = none → pc = 0) (h3 : ps.length ≤ 50) (hcs : cs = []) (hr : rdE N l ps = 0) (h0 : anG N cs l = 0)
    (M0 : Hid (anG N cs l = 0 → rdE N (Zo.clo N.toNat (anL N.toNat cs l)) ps = 0 ∧ hsR N (Zo.clo N.toNat (anL N.toNat cs l)) ps = (hsR N l ps && anB ps cs cs.length))) (M4 : Hid (anG N cs l = 4 → (hsR N l ps && anB ps cs cs.length) = false))
    (HQ : Hid ((ps.length : Int) = N ∧ (∀ k, k < ps.length → vldC (gp ps k) = true) ∧ ∀ i, i ≤ ps.length → ∀ j, j ≤ ps.length → sbE ps i j = 0)) (_ : Hid (∀ t, t < cs.length → okC ps.length (gc cs t) = true)) :
    Calls Try.prog 7 #[.agg #[.int .i64 N, .slice ao l.length cap, .int .i64 i, .int .i64 j, .int .i64 c, .slice none cs.length dc], .slice po ps.length pc] w (Made (.bool true) w) := by
  have SH := Lib.hid (fun W => shown3_any W)
  have AZ := Lib.hid (fun W (hb : Below w.heap.size w W) => (zan_gen N l ao cap cs none dc W (hA.on hb) (hD.on hb) (by omega)).mono fun e w' h => h.zv2)
  have HZ := Lib.hid (fun W (hb : Below w.heap.size w W) => zhas_gen N l ao cap ps po pc W (hA.on hb) (hP.on hb) hI hN)
  have HM := Lib.hid (show ∀ W a ca', Arg W a (zrL (anG N cs l) (Zo.clo N.toNat (anL N.toNat cs l))) → Below w.heap.size w W → anG N cs l = 0 → Calls Try.prog 46 #[.agg #[.int .i64 (zrN (anG N cs l) N), .slice a (zrL (anG N cs l) (Zo.clo N.toNat (anL N.toNat cs l))).length ca'], .slice po ps.length pc] W (Made (.tuple #[.bool (hsR N l ps && anB ps cs cs.length), .int .i64 0]) W) from fun W a ca' h hb e0 => by
    have := zhas_gen (zrN (anG N cs l) N) (zrL (anG N cs l) (Zo.clo N.toNat (anL N.toNat cs l))) a ca' ps po pc W h (hP.on hb) hI hN
    rw [e0] at this ⊢
    simp only [zrN, zrL, if_true] at this ⊢
    rw [(M0.out e0).1, (M0.out e0).2] at this
    exact this)
  have PF := Lib.hid (show ∀ W, Bx W w.heap.size #[.int .i64 N, .slice ao l.length cap, .int .i64 i, .int .i64 j, .int .i64 c, .slice none cs.length dc] → (W.cell? ⟨w.heap.size, 0, none⟩ = some (.int .i64 N) ∧ W.cell? ⟨w.heap.size, 1, none⟩ = some (.slice ao l.length cap) ∧ W.cell? ⟨w.heap.size, 2, none⟩ = some (.int .i64 i) ∧ W.cell? ⟨w.heap.size, 3, none⟩ = some (.int .i64 j) ∧ W.cell? ⟨w.heap.size, 4, none⟩ = some (.int .i64 c) ∧ W.cell? ⟨w.heap.size, 5, none⟩ = some (.slice none cs.length dc)) from fun W h => ⟨h.cell 0, h.cell 1, h.cell 2, h.cell 3, h.cell 4, h.cell 5⟩)
  have D0 : decide ((200 : Int) < (l.length : Int)) = false := by simp; omega
  have D1 : decide ((100 : Int) < (cs.length : Int)) = false := by simp; omega
  have D2 : decide ((50 : Int) < (ps.length : Int)) = false := by simp; omega
  generalize zrN (anG N cs l) N = M1 at *
  generalize zrL (anG N cs l) (Zo.clo N.toNat (anL N.toNat cs l)) = m1 at *
  generalize hsR N l ps = hs at *
  unfold ZV2 at AZ
  have HT := Lib.hid (show anG N cs l = 4 → (hs && anB ps cs cs.length) = false from M4.out)
  rw [hr] at HZ
  have DN : ((ps.length : Int) == N) = true := by have := HQ.out.1; simp; omega
  have DN2 : ((ps.length : Int) != N) = false := by have := HQ.out.1; simp; omega
  have LB := Lib.hid (show ∀ t, t ≤ cs.length → anB ps cs t = false → anB ps cs cs.length = false from fun t ht h => anB_less ht h)
  generalize htot : (hs && anB ps cs cs.length) = tot at *
  have HTOT := Lib.hid htot
  clear htot
  rw [h0] at AZ HM HT
  have HNIL := Lib.hid hcs
  clear hcs
  have SB := Lib.hid (show ∀ W a b, a ≤ ps.length → b ≤ ps.length → Calls Try.prog 49 #[.agg #[.int .i64 (clk ps a).1, .int .i64 (clk ps a).2], .agg #[.int .i64 (clk ps b).1, .int .i64 (clk ps b).2]] W (Made (.tuple #[.agg #[.int .i64 (sbN ps a b), .int .i64 (sbD ps a b)], .int .i64 0]) W) from fun W a b ha hb => by
    have := sub_clk W HQ.out.2.1 ha hb
    rwa [HQ.out.2.2 a (by omega) b (by omega)] at this)
  have HL2 := Lib.hid h2
  have HL3 := Lib.hid h3
  clear hA hN hD h1 h2 h3 hP hI
  obtain ⟨w0, hw0⟩ : ∃ w0, w0 = w.alloc (.cells #[.int .i64 N, .slice ao l.length cap, .int .i64 i, .int .i64 j, .int .i64 c, .slice none cs.length dc] 37) := ⟨_, rfl⟩
  have PX := Lib.hid (show Bx w0 w.heap.size #[.int .i64 N, .slice ao l.length cap, .int .i64 i, .int .i64 j, .int .i64 c, .slice none cs.length dc] by rw [hw0]; exact Bx.made _ _ _)
  have Q0 := Lib.hid (show Below w.heap.size w w0 by rw [hw0]; exact one_more _)
  have Z0 := Lib.hid (show w0.heap.size = w.heap.size + 1 by rw [hw0]; simp)
  go_enter Try.func7, Try.ntmps7
  go_upto_region 1 with (fail)
  rw [← hw0]
  clear hw0
  obtain ⟨p0, p1, p2, p3, p4, p5⟩ := PF.out _ PX.out
  go_wp2_with fail
  refine (AZ.out _ Q0.out).mono ?_
  rintro e w1 ⟨ao1, ck1, rfl, hA, hm, _, hb⟩
  have L1 := Lib.hid hm
  obtain ⟨v1, hv⟩ : ∃ v1, v1 = w1.alloc (.cells #[.int .i64 M1, .slice ao1 m1.length ck1] 25) := ⟨_, rfl⟩
  have X1 := Lib.hid (show Two v1 w1.heap.size (.int .i64 M1) (.slice ao1 m1.length ck1) by rw [hv]; exact Two.made _ _ _ _)
  have A1 := Lib.hid (show Arg v1 ao1 m1 by rw [hv]; exact hA.on (one_more _))
  have B1 := Lib.hid (show Below w0.heap.size w0 v1 by rw [hv]; exact hb.alloc hb.size _)
  have Y1 := Lib.hid (show w0.heap.size ≤ w1.heap.size ∧ v1.heap.size = w1.heap.size + 1 by rw [hv]; exact ⟨hb.size, by simp⟩)
  clear hA hm hb
  go_upto_region 4 with (fail)
  rw [← hv]
  clear hv
  clear p0 p1 p2 p3 p4 p5
  have PX := Lib.hid (PX.out.kept B1.out)
  have Q0 := Lib.hid (below_on Q0.out B1.out)
  obtain ⟨p0, p1, p2, p3, p4, p5⟩ := PF.out _ PX.out
  go_wp2_with fail
  refine (HZ.out _ Q0.out).mono ?_
  rintro e v2 ⟨rfl, hb⟩
  have PX := Lib.hid (PX.out.kept hb)
  have X1 := Lib.hid (X1.out.kept hb)
  have A1 := Lib.hid (A1.out.on hb)
  have Q0 := Lib.hid (below_on Q0.out hb)
  clear hb p0 p1 p2 p3 p4 p5 HZ AZ B1
  obtain ⟨p0, p1, p2, p3, p4, p5⟩ := PF.out _ PX.out
  clear M0 M4
  go_wp2_with fail
  clear p0 p1 p2 p3 p4 p5
  go_loopw [7, 9] (fun s7 s9 wr => ∃ (t : Nat) (ib : Bool), t ≤ cs.length ∧ s7 = .bool ib ∧ s9 = .int .i64 (t : Int) ∧ Hid (AnS hs ps cs t ib) ∧ Hid (Below v2.heap.size v2 wr)) (fun _ s9 _ => cs.length - (intOf s9).toNat)
  case atStart => exact ⟨0, hs, by omega, rfl, rfl, Lib.hid (show hs = (hs && anB ps cs 0) by simp [anB]), Lib.hid (Below.refl _ _)⟩
  case round =>
    obtain ⟨t, ib, ht, rfl, rfl, HIB, HB⟩ := hrel
    obtain ⟨p0, p1, p2, p3, p4, p5⟩ := PF.out _ (PX.out.kept HB.out)
    obtain ⟨q0, q1, q2, q3⟩ := (X1.out.kept HB.out).facts
    by_cases htn : t < cs.length
    · have TB : decide ((t : Int) < (cs.length : Int)) = true := by simp; omega
      cases ib
      · have TE : tot = false := by
          rw [← HTOT.out]
          have h : false = (hs && anB ps cs t) := HIB.out
          cases hs
          · rfl
          · rw [LB.out t ht (by simpa using h.symm)]; rfl
        have DEQ : (tot == false) = true := by rw [TE]; rfl
        go_wp2_with fail
        refine (HM.out _ _ _ (A1.out.on HB.out) (below_on Q0.out HB.out) (by trivial)).mono ?_
        rintro e w7 ⟨rfl, hb⟩
        have B7 := Lib.hid (below_on (below_on Q0.out HB.out) hb)
        clear hb q0 q1 q2 q3
        go_wp2_with fail
        refine (SH.out _).mono ?_
        rintro e w8 ⟨rfl, hb⟩
        have B8 := Lib.hid (below_on B7.out hb)
        clear hb
        go_wp2_with fail
        go_ret
        exact ⟨rfl, B8.out⟩
      · exact absurd htn (by rw [HNIL.out]; simp)
    · have TB : decide ((t : Int) < (cs.length : Int)) = false := by simp; omega
      have TE : tot = ib := by
        have h : ib = (hs && anB ps cs t) := HIB.out
        rw [← HTOT.out, h, show t = cs.length by omega]
      have DEQ : (tot == ib) = true := by rw [TE]; simp
      go_wp2_with fail
      refine (HM.out _ _ _ (A1.out.on HB.out) (below_on Q0.out HB.out) (by trivial)).mono ?_
      rintro e w7 ⟨rfl, hb⟩
      have B7 := Lib.hid (below_on (below_on Q0.out HB.out) hb)
      clear hb q0 q1 q2 q3
      go_wp2_with fail
      refine (SH.out _).mono ?_
      rintro e w8 ⟨rfl, hb⟩
      have B8 := Lib.hid (below_on B7.out hb)
      clear hb
      go_wp2_with fail
      go_ret
      exact ⟨rfl, B8.out⟩
end Go.Proofs.Ytbnebinpemejlaa

namespace Go.Proofs.Ytbnebinpemejlaa
open Go.RowKit

set_option maxRecDepth 100000 in
set_option maxHeartbeats 4000000 in
theorem ands_n4 (N : Int) (l : List Int) (ao : Option Addr) (cap : Nat) (i j c : Int) (cs : List Con) (dc : Nat) (ps : List Pq) (po : Option Addr) (pc : Nat) (w : World) (hA : Arg w ao l) (h1 : l.length ≤ 200) (hD : Arg3 w none cs) (h2 : cs.length ≤ 100) (hP : Arg2 w po ps) (hI : Fits ps) (hN : po = none → pc = 0) (h3 : ps.length ≤ 50) (hcs : cs = []) (hr : rdE N l ps = 0) (h0 : anG N cs l = 4)
    (M0 : Hid (anG N cs l = 0 → rdE N (Zo.clo N.toNat (anL N.toNat cs l)) ps = 0 ∧ hsR N (Zo.clo N.toNat (anL N.toNat cs l)) ps = (hsR N l ps && anB ps cs cs.length))) (M4 : Hid (anG N cs l = 4 → (hsR N l ps && anB ps cs cs.length) = false))
    (HQ : Hid ((ps.length : Int) = N ∧ (∀ k, k < ps.length → vldC (gp ps k) = true) ∧ ∀ i, i ≤ ps.length → ∀ j, j ≤ ps.length → sbE ps i j = 0)) (_ : Hid (∀ t, t < cs.length → okC ps.length (gc cs t) = true)) :
    Calls Try.prog 7 #[.agg #[.int .i64 N, .slice ao l.length cap, .int .i64 i, .int .i64 j, .int .i64 c, .slice none cs.length dc], .slice po ps.length pc] w (Made (.bool true) w) := by
  have SH := Lib.hid (fun W => shown3_any W)
  have AZ := Lib.hid (fun W (hb : Below w.heap.size w W) => (zan_gen N l ao cap cs none dc W (hA.on hb) (hD.on hb) (by omega)).mono fun e w' h => h.zv2)
  have HZ := Lib.hid (fun W (hb : Below w.heap.size w W) => zhas_gen N l ao cap ps po pc W (hA.on hb) (hP.on hb) hI hN)
  have HM := Lib.hid (show ∀ W a ca', Arg W a (zrL (anG N cs l) (Zo.clo N.toNat (anL N.toNat cs l))) → Below w.heap.size w W → anG N cs l = 0 → Calls Try.prog 46 #[.agg #[.int .i64 (zrN (anG N cs l) N), .slice a (zrL (anG N cs l) (Zo.clo N.toNat (anL N.toNat cs l))).length ca'], .slice po ps.length pc] W (Made (.tuple #[.bool (hsR N l ps && anB ps cs cs.length), .int .i64 0]) W) from fun W a ca' h hb e0 => by
    have := zhas_gen (zrN (anG N cs l) N) (zrL (anG N cs l) (Zo.clo N.toNat (anL N.toNat cs l))) a ca' ps po pc W h (hP.on hb) hI hN
    rw [e0] at this ⊢
    simp only [zrN, zrL, if_true] at this ⊢
    rw [(M0.out e0).1, (M0.out e0).2] at this
    exact this)
  have PF := Lib.hid (show ∀ W, Bx W w.heap.size #[.int .i64 N, .slice ao l.length cap, .int .i64 i, .int .i64 j, .int .i64 c, .slice none cs.length dc] → (W.cell? ⟨w.heap.size, 0, none⟩ = some (.int .i64 N) ∧ W.cell? ⟨w.heap.size, 1, none⟩ = some (.slice ao l.length cap) ∧ W.cell? ⟨w.heap.size, 2, none⟩ = some (.int .i64 i) ∧ W.cell? ⟨w.heap.size, 3, none⟩ = some (.int .i64 j) ∧ W.cell? ⟨w.heap.size, 4, none⟩ = some (.int .i64 c) ∧ W.cell? ⟨w.heap.size, 5, none⟩ = some (.slice none cs.length dc)) from fun W h => ⟨h.cell 0, h.cell 1, h.cell 2, h.cell 3, h.cell 4, h.cell 5⟩)
  have D0 : decide ((200 : Int) < (l.length : Int)) = false := by simp; omega
  have D1 : decide ((100 : Int) < (cs.length : Int)) = false := by simp; omega
  have D2 : decide ((50 : Int) < (ps.length : Int)) = false := by simp; omega
  generalize zrN (anG N cs l) N = M1 at *
  generalize zrL (anG N cs l) (Zo.clo N.toNat (anL N.toNat cs l)) = m1 at *
  generalize hsR N l ps = hs at *
  unfold ZV2 at AZ
  have HT := Lib.hid (show anG N cs l = 4 → (hs && anB ps cs cs.length) = false from M4.out)
  rw [hr] at HZ
  have DN : ((ps.length : Int) == N) = true := by have := HQ.out.1; simp; omega
  have DN2 : ((ps.length : Int) != N) = false := by have := HQ.out.1; simp; omega
  have LB := Lib.hid (show ∀ t, t ≤ cs.length → anB ps cs t = false → anB ps cs cs.length = false from fun t ht h => anB_less ht h)
  generalize htot : (hs && anB ps cs cs.length) = tot at *
  have HTOT := Lib.hid htot
  clear htot
  rw [h0] at AZ HM HT
  have HNIL := Lib.hid hcs
  clear hcs
  have SB := Lib.hid (show ∀ W a b, a ≤ ps.length → b ≤ ps.length → Calls Try.prog 49 #[.agg #[.int .i64 (clk ps a).1, .int .i64 (clk ps a).2], .agg #[.int .i64 (clk ps b).1, .int .i64 (clk ps b).2]] W (Made (.tuple #[.agg #[.int .i64 (sbN ps a b), .int .i64 (sbD ps a b)], .int .i64 0]) W) from fun W a b ha hb => by
    have := sub_clk W HQ.out.2.1 ha hb
    rwa [HQ.out.2.2 a (by omega) b (by omega)] at this)
  have HL2 := Lib.hid h2
  have HL3 := Lib.hid h3
  clear hA hN hD h1 h2 h3 hP hI
  obtain ⟨w0, hw0⟩ : ∃ w0, w0 = w.alloc (.cells #[.int .i64 N, .slice ao l.length cap, .int .i64 i, .int .i64 j, .int .i64 c, .slice none cs.length dc] 37) := ⟨_, rfl⟩
  have PX := Lib.hid (show Bx w0 w.heap.size #[.int .i64 N, .slice ao l.length cap, .int .i64 i, .int .i64 j, .int .i64 c, .slice none cs.length dc] by rw [hw0]; exact Bx.made _ _ _)
  have Q0 := Lib.hid (show Below w.heap.size w w0 by rw [hw0]; exact one_more _)
  have Z0 := Lib.hid (show w0.heap.size = w.heap.size + 1 by rw [hw0]; simp)
  go_enter Try.func7, Try.ntmps7
  go_upto_region 1 with (fail)
  rw [← hw0]
  clear hw0
  obtain ⟨p0, p1, p2, p3, p4, p5⟩ := PF.out _ PX.out
  go_wp2_with fail
  refine (AZ.out _ Q0.out).mono ?_
  rintro e w1 ⟨ao1, ck1, rfl, hA, hm, _, hb⟩
  have L1 := Lib.hid hm
  obtain ⟨v1, hv⟩ : ∃ v1, v1 = w1.alloc (.cells #[.int .i64 M1, .slice ao1 m1.length ck1] 25) := ⟨_, rfl⟩
  have X1 := Lib.hid (show Two v1 w1.heap.size (.int .i64 M1) (.slice ao1 m1.length ck1) by rw [hv]; exact Two.made _ _ _ _)
  have A1 := Lib.hid (show Arg v1 ao1 m1 by rw [hv]; exact hA.on (one_more _))
  have B1 := Lib.hid (show Below w0.heap.size w0 v1 by rw [hv]; exact hb.alloc hb.size _)
  have Y1 := Lib.hid (show w0.heap.size ≤ w1.heap.size ∧ v1.heap.size = w1.heap.size + 1 by rw [hv]; exact ⟨hb.size, by simp⟩)
  clear hA hm hb
  go_upto_region 4 with (fail)
  rw [← hv]
  clear hv
  clear p0 p1 p2 p3 p4 p5
  have PX := Lib.hid (PX.out.kept B1.out)
  have Q0 := Lib.hid (below_on Q0.out B1.out)
  obtain ⟨p0, p1, p2, p3, p4, p5⟩ := PF.out _ PX.out
  go_wp2_with fail
  refine (HZ.out _ Q0.out).mono ?_
  rintro e v2 ⟨rfl, hb⟩
  have PX := Lib.hid (PX.out.kept hb)
  have X1 := Lib.hid (X1.out.kept hb)
  have A1 := Lib.hid (A1.out.on hb)
  have Q0 := Lib.hid (below_on Q0.out hb)
  clear hb p0 p1 p2 p3 p4 p5 HZ AZ B1
  obtain ⟨p0, p1, p2, p3, p4, p5⟩ := PF.out _ PX.out
  clear M0 M4
  go_wp2_with fail
  clear p0 p1 p2 p3 p4 p5
  go_loopw [7, 9] (fun s7 s9 wr => ∃ (t : Nat) (ib : Bool), t ≤ cs.length ∧ s7 = .bool ib ∧ s9 = .int .i64 (t : Int) ∧ Hid (AnS hs ps cs t ib) ∧ Hid (Below v2.heap.size v2 wr)) (fun _ s9 _ => cs.length - (intOf s9).toNat)
  case atStart => exact ⟨0, hs, by omega, rfl, rfl, Lib.hid (show hs = (hs && anB ps cs 0) by simp [anB]), Lib.hid (Below.refl _ _)⟩
  case round =>
    obtain ⟨t, ib, ht, rfl, rfl, HIB, HB⟩ := hrel
    obtain ⟨p0, p1, p2, p3, p4, p5⟩ := PF.out _ (PX.out.kept HB.out)
    obtain ⟨q0, q1, q2, q3⟩ := (X1.out.kept HB.out).facts
    by_cases htn : t < cs.length
    · have TB : decide ((t : Int) < (cs.length : Int)) = true := by simp; omega
      cases ib
      · have TE : tot = false := by
          rw [← HTOT.out]
          have h : false = (hs && anB ps cs t) := HIB.out
          cases hs
          · rfl
          · rw [LB.out t ht (by simpa using h.symm)]; rfl
        have DEQ : (false == false) = true := rfl
        have B7 := Lib.hid (below_on Q0.out HB.out)
        go_wp2_with fail
        refine (SH.out _).mono ?_
        rintro e w8 ⟨rfl, hb⟩
        have B8 := Lib.hid (below_on B7.out hb)
        clear hb
        go_wp2_with fail
        go_ret
        exact ⟨rfl, B8.out⟩
      · exact absurd htn (by rw [HNIL.out]; simp)
    · have TB : decide ((t : Int) < (cs.length : Int)) = false := by simp; omega
      have TE : tot = ib := by
        have h : ib = (hs && anB ps cs t) := HIB.out
        rw [← HTOT.out, h, show t = cs.length by omega]
      have DEQ : (false == ib) = true := by rw [← TE, HT.out (by trivial)]; rfl
      have B7 := Lib.hid (below_on Q0.out HB.out)
      go_wp2_with fail
      refine (SH.out _).mono ?_
      rintro e w8 ⟨rfl, hb⟩
      have B8 := Lib.hid (below_on B7.out hb)
      clear hb
      go_wp2_with fail
      go_ret
      exact ⟨rfl, B8.out⟩
end Go.Proofs.Ytbnebinpemejlaa

namespace Go.Proofs.Ytbnebinpemejlaa
open Go.RowKit

set_option maxRecDepth 100000 in
theorem ands_any (N : Int) (l : List Int) (ao : Option Addr) (cap : Nat) (i j c : Int) (cs : List Con) (dao : Option Addr) (dc : Nat) (ps : List Pq) (po : Option Addr) (pc : Nat) (w : World)
    (hA : Arg w ao l) (hD : Arg3 w dao cs) (hdn : dao = none → cs = [] ∧ dc = 0) (hP : Arg2 w po ps) (hI : Fits ps) (hm : po = none → ps = [] ∧ pc = 0) :
    Calls Try.prog 7 #[.agg #[.int .i64 N, .slice ao l.length cap, .int .i64 i, .int .i64 j, .int .i64 c, .slice dao cs.length dc], .slice po ps.length pc] w (Made (.bool true) w) := by
  have hN : po = none → pc = 0 := fun e => (hm e).2
  by_cases g0 : 200 < l.length
  · exact ands_long1 N ao l.length cap i j c dao cs.length dc po ps.length pc w g0
  by_cases g1 : 100 < cs.length
  · exact ands_long2 N ao l.length cap i j c dao cs.length dc po ps.length pc w g0 g1
  by_cases g2 : 50 < ps.length
  · exact ands_long3 N ao l.length cap i j c dao cs.length dc po ps.length pc w g0 g1 g2
  have h1 : l.length ≤ 200 := by omega
  have h2 : cs.length ≤ 100 := by omega
  have h3 : ps.length ≤ 50 := by omega
  by_cases hr : rdE N l ps = 0
  · obtain ⟨n, rfl, _, _, _⟩ := chk_ok (rd_ok hr).1
    obtain ⟨hc, hp, hv, hs⟩ := rd_parts hr
    subst hp
    have HQ := Lib.hid (show (ps.length : Int) = ((ps.length : Nat) : Int) ∧ (∀ k, k < ps.length → vldC (gp ps k) = true) ∧ ∀ i, i ≤ ps.length → ∀ j, j ≤ ps.length → sbE ps i j = 0 from ⟨rfl, hv, hs⟩)
    by_cases he : anG ps.length cs l = 0 ∨ anG ps.length cs l = 4
    · obtain ⟨hok, m0, m4⟩ := ands_math hr he
      have M0 := Lib.hid m0
      have M4 := Lib.hid m4
      have HO := Lib.hid hok
      cases dao with
      | none =>
        obtain ⟨rfl, rfl⟩ := hdn rfl
        rcases he with h0 | h0
        · exact ands_n0 ps.length l ao cap i j c [] 0 ps po pc w hA h1 hD h2 hP hI hN h3 rfl hr h0 M0 M4 HQ HO
        · exact ands_n4 ps.length l ao cap i j c [] 0 ps po pc w hA h1 hD h2 hP hI hN h3 rfl hr h0 M0 M4 HQ HO
      | some da =>
        cases po with
        | none =>
          have hE := (hm rfl).1
          rcases he with h0 | h0
          · exact ands_sn0 ps.length l ao cap i j c cs da dc ps pc w hA h1 hD h2 hP hI hN h3 hr h0 M0 M4 HQ HO hE
          · exact ands_sn4 ps.length l ao cap i j c cs da dc ps pc w hA h1 hD h2 hP hI hN h3 hr h0 M0 M4 HQ HO hE
        | some pa =>
          rcases he with h0 | h0
          · exact ands_ss0 ps.length l ao cap i j c cs da dc ps pa pc w hA h1 hD h2 hP hI hN h3 hr h0 M0 M4 HQ HO
          · exact ands_ss4 ps.length l ao cap i j c cs da dc ps pa pc w hA h1 hD h2 hP hI hN h3 hr h0 M0 M4 HQ HO
    · exact ands_skip1 ps.length l ao cap i j c cs dao dc ps po pc w hA h1 hD h2 hP hI hN h3 (fun q => he (Or.inl q)) (fun q => he (Or.inr q))
  · by_cases h0 : anG N cs l = 0
    · exact ands_skip2 N l ao cap i j c cs dao dc ps po pc w hA h1 hD h2 hP hI hN h3 h0 hr
    · by_cases h4 : anG N cs l = 4
      · exact ands_skip3 N l ao cap i j c cs dao dc ps po pc w hA h1 hD h2 hP hI hN h3 h4 hr
      · exact ands_skip1 N l ao cap i j c cs dao dc ps po pc w hA h1 hD h2 hP hI hN h3 h0 h4
end Go.Proofs.Ytbnebinpemejlaa
