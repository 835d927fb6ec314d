/- ZoneAnds, where something is asked. -/
import Derived.Test.YtbnebinpemejlaaHa2

namespace Go.Proofs.Ytbnebinpemejlaa
open Go.RowKit

set_option maxRecDepth 100000 in
set_option maxHeartbeats 4000000 in
theorem ands_ss4 (N : Int) (l : List Int) (ao : Option Addr) (cap : Nat) (i j c : Int) (cs : List Con) (da : Addr) (dc : Nat) (ps : List Pq) (pa : Addr) (pc : Nat) (w : World) (hA : Arg w ao l) (h1 : l.length ≤ 200) (hD : Arg3 w (some da) cs) (h2 : cs.length ≤ 100) (hP : Arg2 w (some pa) ps) (hI : Fits ps) (hN : (some pa) = none → pc = 0) (h3 : ps.length ≤ 50) (hr : rdE N l ps = 0) (h0 : anG N cs l = 4)
    (M0 : Hid (anG N cs l = 0 → rdE N (Zo.clo N.toNat (anL N.toNat cs l)) ps = 0 ∧ hsR N (Zo.clo N.toNat (anL N.toNat cs l)) ps = (hsR N l ps && anB ps cs cs.length))) (M4 : Hid (anG N cs l = 4 → (hsR N l ps && anB ps cs cs.length) = false))
    (HQ : Hid ((ps.length : Int) = N ∧ (∀ k, k < ps.length → vldC (gp ps k) = true) ∧ ∀ i, i ≤ ps.length → ∀ j, j ≤ ps.length → sbE ps i j = 0)) (HO : Hid (∀ t, t < cs.length → okC ps.length (gc cs t) = true)) :
    Calls Try.prog 7 #[.agg #[.int .i64 N, .slice ao l.length cap, .int .i64 i, .int .i64 j, .int .i64 c, .slice (some da) cs.length dc], .slice (some pa) ps.length pc] w (Made (.bool true) w) := by
  have SH := Lib.hid (fun W => shown3_any W)
  have AZ := Lib.hid (fun W (hb : Below w.heap.size w W) => (zan_gen N l ao cap cs (some da) dc W (hA.on hb) (hD.on hb) (by omega)).mono fun e w' h => h.zv2)
  have HZ := Lib.hid (fun W (hb : Below w.heap.size w W) => zhas_gen N l ao cap ps (some pa) pc W (hA.on hb) (hP.on hb) hI hN)
  have HM := Lib.hid (show ∀ W a ca', Arg W a (zrL (anG N cs l) (Zo.clo N.toNat (anL N.toNat cs l))) → Below w.heap.size w W → anG N cs l = 0 → Calls Try.prog 46 #[.agg #[.int .i64 (zrN (anG N cs l) N), .slice a (zrL (anG N cs l) (Zo.clo N.toNat (anL N.toNat cs l))).length ca'], .slice (some pa) ps.length pc] W (Made (.tuple #[.bool (hsR N l ps && anB ps cs cs.length), .int .i64 0]) W) from fun W a ca' h hb e0 => by
    have := zhas_gen (zrN (anG N cs l) N) (zrL (anG N cs l) (Zo.clo N.toNat (anL N.toNat cs l))) a ca' ps (some pa) pc W h (hP.on hb) hI hN
    rw [e0] at this ⊢
    simp only [zrN, zrL, if_true] at this ⊢
    rw [(M0.out e0).1, (M0.out e0).2] at this
    exact this)
  have PF := Lib.hid (show ∀ W, Bx W w.heap.size #[.int .i64 N, .slice ao l.length cap, .int .i64 i, .int .i64 j, .int .i64 c, .slice (some da) cs.length dc] → (W.cell? ⟨w.heap.size, 0, none⟩ = some (.int .i64 N) ∧ W.cell? ⟨w.heap.size, 1, none⟩ = some (.slice ao l.length cap) ∧ W.cell? ⟨w.heap.size, 2, none⟩ = some (.int .i64 i) ∧ W.cell? ⟨w.heap.size, 3, none⟩ = some (.int .i64 j) ∧ W.cell? ⟨w.heap.size, 4, none⟩ = some (.int .i64 c) ∧ W.cell? ⟨w.heap.size, 5, none⟩ = some (.slice (some da) cs.length dc)) from fun W h => ⟨h.cell 0, h.cell 1, h.cell 2, h.cell 3, h.cell 4, h.cell 5⟩)
  have D0 : decide ((200 : Int) < (l.length : Int)) = false := by simp; omega
  have D1 : decide ((100 : Int) < (cs.length : Int)) = false := by simp; omega
  have D2 : decide ((50 : Int) < (ps.length : Int)) = false := by simp; omega
  generalize zrN (anG N cs l) N = M1 at *
  generalize zrL (anG N cs l) (Zo.clo N.toNat (anL N.toNat cs l)) = m1 at *
  generalize hsR N l ps = hs at *
  unfold ZV2 at AZ
  have HT := Lib.hid (show anG N cs l = 4 → (hs && anB ps cs cs.length) = false from M4.out)
  rw [hr] at HZ
  have DN : ((ps.length : Int) == N) = true := by have := HQ.out.1; simp; omega
  have DN2 : ((ps.length : Int) != N) = false := by have := HQ.out.1; simp; omega
  have LB := Lib.hid (show ∀ t, t ≤ cs.length → anB ps cs t = false → anB ps cs cs.length = false from fun t ht h => anB_less ht h)
  generalize htot : (hs && anB ps cs cs.length) = tot at *
  have HTOT := Lib.hid htot
  clear htot
  rw [h0] at AZ HM HT
  have RD := Lib.hid (show ∀ W, Below w.heap.size w W → Rd3 W da cs from fun W h => (rd3_of hD).on h)
  have RP := Lib.hid (show ∀ W, Below w.heap.size w W → Rd2 W pa ps from fun W h => (rd2_of hP).on h)
  have SB := Lib.hid (show ∀ W a b, a ≤ ps.length → b ≤ ps.length → Calls Try.prog 49 #[.agg #[.int .i64 (clk ps a).1, .int .i64 (clk ps a).2], .agg #[.int .i64 (clk ps b).1, .int .i64 (clk ps b).2]] W (Made (.tuple #[.agg #[.int .i64 (sbN ps a b), .int .i64 (sbD ps a b)], .int .i64 0]) W) from fun W a b ha hb => by
    have := sub_clk W HQ.out.2.1 ha hb
    rwa [HQ.out.2.2 a (by omega) b (by omega)] at this)
  have HL2 := Lib.hid h2
  have HL3 := Lib.hid h3
  clear hA hN hD h1 h2 h3 hP hI
  obtain ⟨w0, hw0⟩ : ∃ w0, w0 = w.alloc (.cells #[.int .i64 N, .slice ao l.length cap, .int .i64 i, .int .i64 j, .int .i64 c, .slice (some da) cs.length dc] 37) := ⟨_, rfl⟩
  have PX := Lib.hid (show Bx w0 w.heap.size #[.int .i64 N, .slice ao l.length cap, .int .i64 i, .int .i64 j, .int .i64 c, .slice (some da) cs.length dc] by rw [hw0]; exact Bx.made _ _ _)
  have Q0 := Lib.hid (show Below w.heap.size w w0 by rw [hw0]; exact one_more _)
  have Z0 := Lib.hid (show w0.heap.size = w.heap.size + 1 by rw [hw0]; simp)
  go_enter Try.func7, Try.ntmps7
  go_upto_region 1 with (fail)
  rw [← hw0]
  clear hw0
  obtain ⟨p0, p1, p2, p3, p4, p5⟩ := PF.out _ PX.out
  go_wp2_with fail
  refine (AZ.out _ Q0.out).mono ?_
  rintro e w1 ⟨ao1, ck1, rfl, hA, hm, _, hb⟩
  have L1 := Lib.hid hm
  obtain ⟨v1, hv⟩ : ∃ v1, v1 = w1.alloc (.cells #[.int .i64 M1, .slice ao1 m1.length ck1] 25) := ⟨_, rfl⟩
  have X1 := Lib.hid (show Two v1 w1.heap.size (.int .i64 M1) (.slice ao1 m1.length ck1) by rw [hv]; exact Two.made _ _ _ _)
  have A1 := Lib.hid (show Arg v1 ao1 m1 by rw [hv]; exact hA.on (one_more _))
  have B1 := Lib.hid (show Below w0.heap.size w0 v1 by rw [hv]; exact hb.alloc hb.size _)
  have Y1 := Lib.hid (show w0.heap.size ≤ w1.heap.size ∧ v1.heap.size = w1.heap.size + 1 by rw [hv]; exact ⟨hb.size, by simp⟩)
  clear hA hm hb
  go_upto_region 4 with (fail)
  rw [← hv]
  clear hv
  clear p0 p1 p2 p3 p4 p5
  have PX := Lib.hid (PX.out.kept B1.out)
  have Q0 := Lib.hid (below_on Q0.out B1.out)
  obtain ⟨p0, p1, p2, p3, p4, p5⟩ := PF.out _ PX.out
  go_wp2_with fail
  refine (HZ.out _ Q0.out).mono ?_
  rintro e v2 ⟨rfl, hb⟩
  have PX := Lib.hid (PX.out.kept hb)
  have X1 := Lib.hid (X1.out.kept hb)
  have A1 := Lib.hid (A1.out.on hb)
  have Q0 := Lib.hid (below_on Q0.out hb)
  clear hb p0 p1 p2 p3 p4 p5 HZ AZ B1
  obtain ⟨p0, p1, p2, p3, p4, p5⟩ := PF.out _ PX.out
  clear M0 M4
  go_wp2_with fail
  clear p0 p1 p2 p3 p4 p5
  go_loopw [7, 9] (fun s7 s9 wr => ∃ (t : Nat) (ib : Bool), t ≤ cs.length ∧ s7 = .bool ib ∧ s9 = .int .i64 (t : Int) ∧ Hid (AnS hs ps cs t ib) ∧ Hid (Below v2.heap.size v2 wr)) (fun _ s9 _ => cs.length - (intOf s9).toNat)
  case atStart => exact ⟨0, hs, by omega, rfl, rfl, Lib.hid (show hs = (hs && anB ps cs 0) by simp [anB]), Lib.hid (Below.refl _ _)⟩
  case round =>
    obtain ⟨t, ib, ht, rfl, rfl, HIB, HB⟩ := hrel
    obtain ⟨p0, p1, p2, p3, p4, p5⟩ := PF.out _ (PX.out.kept HB.out)
    obtain ⟨q0, q1, q2, q3⟩ := (X1.out.kept HB.out).facts
    by_cases htn : t < cs.length
    · have TB : decide ((t : Int) < (cs.length : Int)) = true := by simp; omega
      cases ib
      · have TE : tot = false := by
          rw [← HTOT.out]
          have h : false = (hs && anB ps cs t) := HIB.out
          cases hs
          · rfl
          · rw [LB.out t ht (by simpa using h.symm)]; rfl
        have DEQ : (false == false) = true := rfl
        have B7 := Lib.hid (below_on Q0.out HB.out)
        go_wp2_with fail
        refine (SH.out _).mono ?_
        rintro e w8 ⟨rfl, hb⟩
        have B8 := Lib.hid (below_on B7.out hb)
        clear hb
        go_wp2_with fail
        go_ret
        exact ⟨rfl, B8.out⟩
      · have HANB := Lib.hid (show hs = true ∧ anB ps cs t = true by have h : true = (hs && anB ps cs t) := HIB.out; have h := h.symm; rw [Bool.and_eq_true] at h; exact h)
        have HOK := HO.out t htn
        obtain ⟨ci, hci⟩ : ∃ ci : Nat, (gc cs t).1 = (ci : Int) := ⟨(gc cs t).1.toNat, by unfold okC at HOK; simp at HOK; omega⟩
        obtain ⟨cj, hcj⟩ : ∃ cj : Nat, (gc cs t).2.1 = (cj : Int) := ⟨(gc cs t).2.1.toNat, by unfold okC at HOK; simp at HOK; omega⟩
        obtain ⟨x, hx⟩ : ∃ x, (gc cs t).2.2 = x := ⟨_, rfl⟩
        have hcin : ci ≤ ps.length := by unfold okC at HOK; simp at HOK; omega
        have hcjn : cj ≤ ps.length := by unfold okC at HOK; simp at HOK; omega
        have HLV := Lib.hid (show lvB x = true by rw [← hx]; unfold okC at HOK; rw [Bool.and_eq_true] at HOK; exact HOK.2)
        have HAM := Lib.hid (show anM ps (gc cs t) = meB (sbN ps ci cj) (sbD ps ci cj) x by unfold anM; rw [hci, hcj, hx]; simp)
        have RDT := Lib.hid (show ∀ W, Below w.heap.size w W → W.cell? (da.add (t * 3)) = some (.int .i64 (ci : Int)) ∧ W.cell? ⟨(da.add (t * 3)).block, (da.add (t * 3)).off + 1, none⟩ = some (.int .i64 (cj : Int)) ∧ W.cell? ⟨(da.add (t * 3)).block, (da.add (t * 3)).off + 2, none⟩ = some (.int .i64 x) from fun W h => by
          have := RD.out W h t htn
          rw [hci, hcj, hx] at this
          exact this)
        clear hci hcj hx HOK p0 p1 p2 p3 p4 q0 q1 q2 q3
        have tb : (t : Int) < 100 := by have := HL2.out; omega
        have G1 : decide ((ci : Int) < 0) = false := by simp
        have G2 : decide ((ps.length : Int) < (ci : Int)) = false := by simp; omega
        have G3 : decide ((cj : Int) < 0) = false := by simp
        have G4 : decide ((ps.length : Int) < (cj : Int)) = false := by simp; omega
        obtain ⟨w1, hw1⟩ : ∃ w1, w1 = (wr.alloc (.cells #[.int .i64 0, .int .i64 1] 52)).alloc (.cells #[.int .i64 0, .int .i64 1] 52) := ⟨_, rfl⟩
        have PA := Lib.hid (show Pair w1 wr.heap.size 0 1 by rw [hw1]; exact (Pair.made _ _ _ _).alloc _)
        have PB := Lib.hid (show Pair w1 (wr.heap.size + 1) 0 1 by
          rw [hw1]
          have := Pair.made (wr.alloc (.cells #[.int .i64 0, .int .i64 1] 52)) 0 1 52
          simpa using this)
        have H1 := Lib.hid (show Below wr.heap.size wr w1 by rw [hw1]; exact past_two (Below.refl _ _))
        go_upto_region 11 with (fail)
        rw [← hw1]
        clear hw1 p5
        have HW1 := Lib.hid (below_on Q0.out (below_on HB.out H1.out))
        obtain ⟨p0, p1, p2, p3, p4, p5⟩ := PF.out _ (PX.out.kept (below_on HB.out H1.out))
        obtain ⟨d0, d1, d2⟩ := RDT.out _ HW1.out
        obtain ⟨gz, hgz⟩ : ∃ gz, decide ((0 : Int) < (ci : Int)) = gz := ⟨_, rfl⟩
        have hgz' : decide (0 < ci) = gz := by rw [← hgz]; rw [Bool.eq_iff_iff]; simp
        go_upto_if 124 with (fail)
        go_cut [] (fun wx => Hid (Pair wx wr.heap.size (clk ps ci).1 (clk ps ci).2 ∧ Pair wx (wr.heap.size + 1) 0 1 ∧ Below wr.heap.size wr wx))
        case first =>
          cases gz
          · have hz : ci = 0 := by simp at hgz; omega
            clear hgz hgz'
            have HCZ := Lib.hid (show clk ps ci = (0, 1) by unfold clk; rw [if_pos hz])
            go_wp2_with fail
            go_meet
            case rel => exact Lib.hid ⟨by rw [HCZ.out]; exact PA.out, PB.out, H1.out⟩
          · have hz : ¬ ci = 0 := by simp at hgz; omega
            clear hgz hgz'
            have HCZ := Lib.hid (show clk ps ci = gp ps (ci - 1) by unfold clk; rw [if_neg hz])
            obtain ⟨k, rfl⟩ : ∃ k, ci = k + 1 := ⟨ci - 1, by omega⟩
            rw [show k + 1 - 1 = k by omega] at HCZ
            obtain ⟨g0, g1⟩ := RP.out _ HW1.out k (by omega)
            have kl : (k : Int) < (ps.length : Int) := by omega
            have kb : (k : Int) < 50 := by have := HL3.out; omega
            obtain ⟨f0, f1, f2, f3⟩ := PA.out.facts
            have PQ := Lib.hid (PA.out.put (gp ps k).1 (gp ps k).2)
            have HP := Lib.hid (PB.out.aside (b' := wr.heap.size) (by omega) (.int .i64 (gp ps k).1) (.int .i64 (gp ps k).2))
            have HH := Lib.hid (far_below H1.out (x := wr.heap.size) (by omega) (.int .i64 (gp ps k).1) (.int .i64 (gp ps k).2))
            go_wp2_with fail
            go_meet
            case rel => exact Lib.hid ⟨by rw [HCZ.out]; exact PQ.out, HP.out, HH.out⟩
        case rest =>
        have HC := hcut
        clear hcut d0 d1 d2 p0 p1 p2 p3 p4 p5 hgz hgz'
        have PA := Lib.hid HC.out.1
        have PB := Lib.hid HC.out.2.1
        have H2 := Lib.hid HC.out.2.2
        clear HC
        generalize wc = w2 at *
        have HW2 := Lib.hid (below_on Q0.out (below_on HB.out H2.out))
        obtain ⟨p0, p1, p2, p3, p4, p5⟩ := PF.out _ (PX.out.kept (below_on HB.out H2.out))
        obtain ⟨d0, d1, d2⟩ := RDT.out _ HW2.out
        obtain ⟨gz, hgz⟩ : ∃ gz, decide ((0 : Int) < (cj : Int)) = gz := ⟨_, rfl⟩
        have hgz' : decide (0 < cj) = gz := by rw [← hgz]; rw [Bool.eq_iff_iff]; simp
        go_upto_if 141 with (fail)
        go_cut [] (fun wx => Hid (Pair wx wr.heap.size (clk ps ci).1 (clk ps ci).2 ∧ Pair wx (wr.heap.size + 1) (clk ps cj).1 (clk ps cj).2 ∧ Below wr.heap.size wr wx))
        case first =>
          cases gz
          · have hz : cj = 0 := by simp at hgz; omega
            clear hgz hgz'
            have HCZ := Lib.hid (show clk ps cj = (0, 1) by unfold clk; rw [if_pos hz])
            go_wp2_with fail
            go_meet
            case rel => exact Lib.hid ⟨PA.out, by rw [HCZ.out]; exact PB.out, H2.out⟩
          · have hz : ¬ cj = 0 := by simp at hgz; omega
            clear hgz hgz'
            have HCZ := Lib.hid (show clk ps cj = gp ps (cj - 1) by unfold clk; rw [if_neg hz])
            obtain ⟨k, rfl⟩ : ∃ k, cj = k + 1 := ⟨cj - 1, by omega⟩
            rw [show k + 1 - 1 = k by omega] at HCZ
            obtain ⟨g0, g1⟩ := RP.out _ HW2.out k (by omega)
            have kl : (k : Int) < (ps.length : Int) := by omega
            have kb : (k : Int) < 50 := by have := HL3.out; omega
            obtain ⟨f0, f1, f2, f3⟩ := PB.out.facts
            have PQ := Lib.hid (PB.out.put (gp ps k).1 (gp ps k).2)
            have HP := Lib.hid (PA.out.aside (b' := (wr.heap.size + 1)) (by omega) (.int .i64 (gp ps k).1) (.int .i64 (gp ps k).2))
            have HH := Lib.hid (far_below H2.out (x := (wr.heap.size + 1)) (by omega) (.int .i64 (gp ps k).1) (.int .i64 (gp ps k).2))
            go_wp2_with fail
            go_meet
            case rel => exact Lib.hid ⟨HP.out, by rw [HCZ.out]; exact PQ.out, HH.out⟩
        case rest =>
        have HC := hcut
        clear hcut d0 d1 d2 p0 p1 p2 p3 p4 p5 hgz hgz'
        have PA := Lib.hid HC.out.1
        have PB := Lib.hid HC.out.2.1
        have H3 := Lib.hid HC.out.2.2
        clear HC
        generalize wc = w3 at *
        have HW3 := Lib.hid (below_on Q0.out (below_on HB.out H3.out))
        obtain ⟨f0, f1, _, _⟩ := PA.out.facts
        obtain ⟨g0, g1, _, _⟩ := PB.out.facts
        go_wp2_with fail
        refine (SB.out _ ci cj hcin hcjn).mono ?_
        rintro e w4 ⟨rfl, hb⟩
        have HAM := HAM
        have SV := Lib.hid (show sbE ps ci cj = 0 from HQ.out.2.2 ci hcin cj hcjn)
        have VB := Lib.hid (show vldB (sbN ps ci cj) (sbD ps ci cj) = true from (mk_ok SV.out).2.1)
        generalize sbN ps ci cj = sn at *
        generalize sbD ps ci cj = sd at *
        obtain ⟨w5, hw5⟩ : ∃ w5, w5 = w4.alloc (.cells #[.int .i64 sn, .int .i64 sd] 52) := ⟨_, rfl⟩
        have PC := Lib.hid (show Pair w5 w4.heap.size sn sd by rw [hw5]; exact Pair.made _ _ _ _)
        have H5 := Lib.hid (show Below wr.heap.size wr w5 by rw [hw5]; exact (below_on H3.out hb).alloc (below_on H3.out hb).size _)
        clear f0 f1 g0 g1 hb PA PB HW3 H1
        go_upto_region 18 with (fail)
        rw [← hw5]
        clear hw5
        have HW5 := Lib.hid (below_on Q0.out (below_on HB.out H5.out))
        obtain ⟨p0, p1, p2, p3, p4, p5⟩ := PF.out _ (PX.out.kept (below_on HB.out H5.out))
        obtain ⟨d0, d1, d2⟩ := RDT.out _ HW5.out
        go_upto_region 20 with (fail)
        go_region
        have W5 := Lib.hid (show Below w5.heap.size w5 w5.drew from (Below.refl _ _).drew)
        have PC := Lib.hid (PC.out.kept W5.out)
        have HW6 := Lib.hid (below_on HW5.out W5.out)
        have HBR := Lib.hid (below_on HB.out (below_on H5.out W5.out))
        have PXD := Lib.hid (PX.out.kept (below_on HB.out (below_on H5.out W5.out)))
        generalize w5.drew = w6 at *
        clear p0 p1 p2 p3 p4 p5 d0 d1 d2
        obtain ⟨p0, p1, p2, p3, p4, p5⟩ := PF.out _ PXD.out
        obtain ⟨d0, d1, d2⟩ := RDT.out _ HW6.out
        obtain ⟨f0, f1, _, _⟩ := PC.out.facts
        have EV : (bits .and .i64 x 1 == 0) = evB x := and1_ev x
        obtain ⟨v1, v2', v3, v4⟩ := vld_bd VB.out
        have HBD := Lib.hid (show x = 1099511627776 ∨ (-2147483648 ≤ x ∧ x ≤ 2147483649) by have := HLV.out; unfold lvB at this; simpa using this)
        have HME := Lib.hid (show meB sn sd x = (noB x || (if evB x then decide (sn < x / 2 * sd) else decide (sn ≤ x / 2 * sd))) by unfold meB mtB; rw [VB.out, HLV.out]; simp)
        have HNEXT := Lib.hid (show (hs && anB ps cs (t + 1)) = meB sn sd x by rw [anB_succ, HANB.out.1, HANB.out.2, HAM.out]; rfl)
        by_cases hno : x = 1099511627776
        · have X0 : (x == 1099511627776) = true := by simp [hno]
          have HR : Hid (AnS hs ps cs (t + 1) true) := Lib.hid (show true = (hs && anB ps cs (t + 1)) by rw [HNEXT.out, HME.out]; simp [noB, hno])
          clear hno
          go_wp2_with fail
          go_roundw
          case rel => exact ⟨t + 1, true, by omega, rfl, by go_num, HR, HBR⟩
          case measure => simp [intOf]; omega
        · have X0 : (x == 1099511627776) = false := by simp [hno]
          have HNO := Lib.hid (show noB x = false by simp [noB, hno])
          obtain ⟨pr, hpr⟩ : ∃ pr, pr = x / 2 * sd := ⟨_, rfl⟩
          have hpb : -4611686018427387904 ≤ pr ∧ pr ≤ 4611686018427387904 := by
            rw [hpr]
            have := HBD.out
            have hq : -2147483647 ≤ x / 2 ∧ x / 2 ≤ 2147483647 := by omega
            have := mul_bd hq.1 hq.2 (by omega) v2'
            omega
          have WR : wrap64 (x / 2 * sd) = pr := by rw [← hpr]; unfold wrap64; omega
          rw [← hpr] at HME
          have WR2 : x / 2 * sd = pr := hpr.symm
          clear hpr hno
          cases hev : evB x
          · rw [hev] at EV HME
            have HR := Lib.hid (show (decide (sn < pr) || decide (sn = pr)) = (hs && anB ps cs (t + 1)) by
              rw [HNEXT.out, HME.out, HNO.out]
              rw [Bool.eq_iff_iff]
              simp
              omega)
            by_cases hl : sn < pr
            · have L1 : decide (sn < pr) = true := by simp [hl]
              rw [L1] at HR
              go_wp2_with fail
              go_roundw
              case rel => exact ⟨t + 1, true, by omega, rfl, by go_num, Lib.hid (show true = (hs && anB ps cs (t + 1)) by rw [← HR.out]; rfl), HBR⟩
              case measure => simp [intOf]; omega
            · have L1 : decide (sn < pr) = false := by simp [hl]
              rw [L1] at HR
              have L2 : (sn == pr) = decide (sn = pr) := by rw [Bool.eq_iff_iff]; simp
              go_wp2_with fail
              go_roundw
              case rel => exact ⟨t + 1, decide (sn = pr), by omega, (by first | rfl | rw [L2]), by go_num, Lib.hid (show decide (sn = pr) = (hs && anB ps cs (t + 1)) by rw [← HR.out]; rfl), HBR⟩
              case measure => simp [intOf]; omega
          · rw [hev] at EV HME
            have HR := Lib.hid (show decide (sn < pr) = (hs && anB ps cs (t + 1)) by rw [HNEXT.out, HME.out, HNO.out]; rfl)
            by_cases hl : sn < pr
            · have L1 : decide (sn < pr) = true := by simp [hl]
              rw [L1] at HR
              go_wp2_with fail
              go_roundw
              case rel => exact ⟨t + 1, true, by omega, rfl, by go_num, HR, HBR⟩
              case measure => simp [intOf]; omega
            · have L1 : decide (sn < pr) = false := by simp [hl]
              rw [L1] at HR
              go_wp2_with fail
              go_roundw
              case rel => exact ⟨t + 1, false, by omega, rfl, by go_num, HR, HBR⟩
              case measure => simp [intOf]; omega
    · have TB : decide ((t : Int) < (cs.length : Int)) = false := by simp; omega
      have TE : tot = ib := by
        have h : ib = (hs && anB ps cs t) := HIB.out
        rw [← HTOT.out, h, show t = cs.length by omega]
      have DEQ : (false == ib) = true := by rw [← TE, HT.out (by trivial)]; rfl
      have B7 := Lib.hid (below_on Q0.out HB.out)
      go_wp2_with fail
      refine (SH.out _).mono ?_
      rintro e w8 ⟨rfl, hb⟩
      have B8 := Lib.hid (below_on B7.out hb)
      clear hb
      go_wp2_with fail
      go_ret
      exact ⟨rfl, B8.out⟩
end Go.Proofs.Ytbnebinpemejlaa
