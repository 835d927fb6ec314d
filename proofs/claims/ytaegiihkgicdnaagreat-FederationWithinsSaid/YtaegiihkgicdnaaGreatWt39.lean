/- A part. -/
import Derived.Test.YtaegiihkgicdnaaGreatWt38

namespace Go.Proofs.YtaegiihkgicdnaaGreat
open Go.RowKit

set_option maxRecDepth 100000 in
set_option maxHeartbeats 16000000 in
theorem before_any (g : ZV) (M : List ZV) (ho : Option Addr) (hc : Nat) (w : World) (hg : ZAt 0 w g) (hM : RdZ 0 w ho M) (hm : M.length ≤ 2001) (hcap : M.length ≤ hc) :
    Calls Tryz.prog 69 #[g.val, .slice ho M.length hc] w (RfNew (befR g.p (M.map ZV.p)) w) := by
  obtain ⟨T, hT⟩ : ∃ T, T = befR g.p (M.map ZV.p) := ⟨_, rfl⟩
  have TT := Lib.hid (show thE (uaR dnP [g.p]) (fun d => befL g.p d (M.map ZV.p) d) = T from hT.symm)
  rw [← hT]
  obtain ⟨m, hm2⟩ : ∃ m, m = M.length := ⟨_, rfl⟩
  have HM := Lib.hid hm2
  have HCP := Lib.hid hcap
  have mle : m ≤ 2001 := by omega
  have mcap : m ≤ hc := by omega
  rw [← hm2]
  unfold ZV.val
  obtain ⟨gl, hgl⟩ : ∃ gl, gl = g.l.length := ⟨_, rfl⟩
  rw [← hgl]
  have HGL := Lib.hid hgl
  have OG := Lib.hid (show ∀ W, ZAt 0 W g → RdZ 0 (W.alloc (.cells #[.int .i64 g.N, .slice g.a gl g.c] 36)) (some ⟨W.heap.size, 0, none⟩) [g] from fun W h => by rw [hgl]; exact (show OwnZ W.heap.size 0 _ (.slice (some ⟨W.heap.size, 0, none⟩) [g].length 1) [g] from one_lit g W h).rd.1)
  obtain ⟨w1, hw1⟩ : ∃ w1, w1 = w.alloc (.cells #[.int .i64 g.N, .slice g.a gl g.c] 36) := ⟨_, rfl⟩
  obtain ⟨q2, hq2⟩ : ∃ q2, q2 = w.heap.size := ⟨_, rfl⟩
  have BB := Lib.hid (show Below w.heap.size w w1 by rw [hw1]; exact one_more _)
  have GB := Lib.hid (show Bx2 w1 q2 (.int .i64 g.N) (.slice g.a gl g.c) 36 by rw [hw1, hq2]; exact Bx2.made w _ _ _)
  have GZ := Lib.hid (hg.on BB.out)
  have RM := Lib.hid (hM.on BB.out)
  clear hg hM hm hcap hT hm2 hgl
  go_enter Tryz.func69, Tryz.ntmps69
  go_upto_region 1 with (fail)
  rw [← hw1, ← hq2]
  clear hw1 hq2
  obtain ⟨x0, x1, _, _⟩ := GB.out.facts
  have CD := Lib.hid (show Calls Tryz.prog 26 #[.slice (some ⟨w1.heap.size, 0, none⟩) 1 1] (w1.alloc (.cells #[.int .i64 g.N, .slice g.a gl g.c] 36)) (RfNew (uaR dnP [g.p]) (w1.alloc (.cells #[.int .i64 g.N, .slice g.a gl g.c] 36))) from rdown_any [g] _ 1 _ (OG.out w1 GZ.out) (by simp))
  go_wp2_with fail
  refine (CD.out).mono ?_
  rintro e w0 ⟨hb0, a0, c0, X0, rfl, ox, hxp, hxl⟩
  have hb := below_on (one_more (.cells #[.int .i64 g.N, .slice g.a gl g.c] 36)) hb0
  have O0 := Lib.hid (ox.low (R' := w.heap.size) (B' := w.heap.size) (by have := BB.out.size; simp; omega) (by have := BB.out.size; simp; omega))
  have GZ := Lib.hid (GZ.out.on hb)
  have RM := Lib.hid (RM.out.on hb)
  have GB := Lib.hid (GB.out.kept hb)
  have BB := Lib.hid (below_on BB.out hb)
  have P0 := Lib.hid hxp
  have LE0 := Lib.hid hxl
  obtain ⟨n0, hn⟩ : ∃ n, n = X0.length := ⟨_, rfl⟩
  have HN0 := Lib.hid hn
  rw [← hn]
  obtain ⟨e0, he⟩ : ∃ e, e = (uaR dnP [g.p]).2 := ⟨_, rfl⟩
  have HE0 := Lib.hid he
  rw [← he]
  clear hb0 hb ox hxp hxl hn he
  by_cases h0 : e0 = 0
  · have h0b : (e0 != 0) = false := by simp [h0]
    have Z0 := Lib.hid (show (uaR dnP [g.p]).2 = 0 from HE0.out.symm.trans h0)
    have Q0 := Lib.hid (show X0.map ZV.p = (uaR dnP [g.p]).1 by rw [P0.out, if_pos Z0.out])
    have tt := TT.out
    rw [thE_ok (r := uaR dnP [g.p]) Z0.out, ← Q0.out] at tt
    have TT := Lib.hid tt
    clear h0 tt
    clear x0 x1 CD
    go_wp2_with fail
    go_loopw [8, 9] (fun l i wr => ∃ (t : Nat) (ao : Option Addr) (cap k : Nat), l = .slice ao k cap ∧ i = .int .i64 t ∧ t ≤ m ∧ k ≤ 2001 ∧ Hid (∃ L0 : List ZV, k = L0.length ∧ OwnZ w.heap.size w.heap.size wr (.slice ao L0.length cap) L0 ∧ Below w.heap.size w wr ∧ Below w0.heap.size w0 wr ∧ befL g.p (X0.map ZV.p) ((M.map ZV.p).drop t) (L0.map ZV.p) = T)) (fun _ i _ => m - (intOf i).toNat)
    case atStart => exact ⟨0, a0, c0, n0, rfl, rfl, by omega, by have := LE0.out; have := HN0.out; omega, Lib.hid ⟨X0, HN0.out, O0.out, BB.out, Below.refl _ _, TT.out⟩⟩
    case round =>
      generalize wr = wo at *
      obtain ⟨t, ao, cap, k, rfl, rfl, ht, kle, HI⟩ := hrel
      obtain ⟨L0, hk, ol, bo, bz, tq⟩ := HI.out
      have HK := Lib.hid hk
      have OL := Lib.hid ol
      have BB := Lib.hid bo
      have O0 := Lib.hid (O0.out.on bz)
      have GZ := Lib.hid (GZ.out.on bz)
      have RM := Lib.hid (RM.out.on bz)
      have GB := Lib.hid (GB.out.kept bz)
      have TQ := Lib.hid tq
      clear hk ol bo tq HI TT
      have BZ := Lib.hid bz
      clear bz
      by_cases htm : t < m
      · obtain ⟨z, hz⟩ : ∃ z, z = M[t]'(by have := HM.out; omega) := ⟨_, rfl⟩
        have HMT := Lib.hid (show t < (M.map ZV.p).length by have := HM.out; simpa using (show t < M.length by omega))
        have ZP := Lib.hid (show (M.map ZV.p)[t]'HMT.out = z.p by rw [hz]; simp)
        have TT := Lib.hid (show thE (befT g.p (X0.map ZV.p) z.p (L0.map ZV.p)) (befL g.p (X0.map ZV.p) ((M.map ZV.p).drop (t + 1))) = T by have h := TQ.out; rw [List.drop_eq_getElem_cons HMT.out, ZP.out] at h; exact h)
        obtain ⟨b, eb, _⟩ := RM.out.hd t (by have := HM.out; omega)
        subst eb
        have RZ := Lib.hid (show RdZ 0 wo (some (b.add (t * 2))) [z] by rw [hz]; exact RM.out.piece (by have := HM.out; omega))
        clear hz
        have S1 := fun W => run_cut_oneZ W b m hc t htm mcap
        have S2 := fun W => run_cut_oneZA W b m hc t htm mcap
        have HWR : IntKind.i64.wrap ((t : Int) + 1) = (t : Int) + 1 := wrap_in _ (by omega) (by omega)
        have C1 := Lib.hid (show Calls Tryz.prog 26 #[.slice (some (b.add (t * 2))) 1 (hc - t)] wo (RfNew (uaR dnP [z.p]) wo) from rdown_any [z] _ _ wo RZ.out (by simp))
        unfold befT at TT
        have OLo := Lib.hid OL.out
        have BO := Lib.hid (Below.refl wo.heap.size wo)
        go_wp2_with fail
        refine (C1.out).mono ?_
        rintro e w1 ⟨hb0, a1, c1, X1, rfl, ox, hxp, hxl⟩
        have hb := hb0
        have BO := Lib.hid (below_on BO.out hb)
        have O1 := Lib.hid (ox.low (R' := w.heap.size) (B' := 0) (by have := BB.out.size; omega) (Nat.zero_le _))
        have GZ := Lib.hid (GZ.out.on hb)
        have RM := Lib.hid (RM.out.on hb)
        have RZ := Lib.hid (RZ.out.on hb)
        have O0 := Lib.hid (O0.out.on hb)
        have OL := Lib.hid (OL.out.on hb)
        have GB := Lib.hid (GB.out.kept hb)
        have BB := Lib.hid (below_on BB.out hb)
        have P1 := Lib.hid hxp
        have LE1 := Lib.hid hxl
        obtain ⟨n1, hn⟩ : ∃ n, n = X1.length := ⟨_, rfl⟩
        have HN1 := Lib.hid hn
        rw [← hn]
        obtain ⟨e1, he⟩ : ∃ e, e = (uaR dnP [z.p]).2 := ⟨_, rfl⟩
        have HE1 := Lib.hid he
        rw [← he]
        clear hb0 hb ox hxp hxl hn he
        by_cases h0 : e1 = 0
        · have h0b : (e1 != 0) = false := by simp [h0]
          have Z1 := Lib.hid (show (uaR dnP [z.p]).2 = 0 from HE1.out.symm.trans h0)
          have Q1 := Lib.hid (show X1.map ZV.p = (uaR dnP [z.p]).1 by rw [P1.out, if_pos Z1.out])
          have tt := TT.out
          rw [thE_ok (r := uaR dnP [z.p]) Z1.out, ← Q1.out] at tt
          have TT := Lib.hid tt
          clear h0 tt
          clear S1 S2
          have C2 := Lib.hid (show Calls Tryz.prog 20 #[.slice a0 n0 c0, .slice a1 n1 c1] w1 (RfRes (minR (X0.map ZV.p) (X1.map ZV.p)) w1) from by rw [HN0.out, HN1.out]; exact rminus_any X0 X1 a0 a1 c0 c1 w1 (O0.out.rd.1.low (Nat.zero_le _)) O1.out.rd.1 (by have := LE0.out; omega) (by have := LE1.out; omega) O0.out.rd.2)
          go_wp2_with fail
          have WO := Lib.hid (show wo.heap.size ≤ w1.heap.size from BO.out.size)
          refine (C2.out).mono ?_
          rintro e w2 ⟨hb0, a2, c2, X2, rfl, ox, hxp, hxl⟩
          have hb := hb0
          have FO := Lib.hid (fun j e => (ox.lt j e).1)
          have BO := Lib.hid (below_on BO.out hb)
          have O2 := Lib.hid (ox.low (R' := w.heap.size) (B' := 0) (by have := BB.out.size; omega) (Nat.zero_le _))
          have GZ := Lib.hid (GZ.out.on hb)
          have RM := Lib.hid (RM.out.on hb)
          have RZ := Lib.hid (RZ.out.on hb)
          have O0 := Lib.hid (O0.out.on hb)
          have OL := Lib.hid (OL.out.on hb)
          have O1 := Lib.hid (O1.out.on hb)
          have GB := Lib.hid (GB.out.kept hb)
          have BB := Lib.hid (below_on BB.out hb)
          have P2 := Lib.hid hxp
          have LE2 := Lib.hid hxl
          obtain ⟨n2, hn⟩ : ∃ n, n = X2.length := ⟨_, rfl⟩
          have HN2 := Lib.hid hn
          rw [← hn]
          obtain ⟨e2, he⟩ : ∃ e, e = (minR (X0.map ZV.p) (X1.map ZV.p)).2 := ⟨_, rfl⟩
          have HE2 := Lib.hid he
          rw [← he]
          clear hb0 hb ox hxp hxl hn he
          by_cases h0 : e2 = 0
          · have h0b : (e2 != 0) = false := by simp [h0]
            have Z2 := Lib.hid (show (minR (X0.map ZV.p) (X1.map ZV.p)).2 = 0 from HE2.out.symm.trans h0)
            have Q2 := Lib.hid (show X2.map ZV.p = (minR (X0.map ZV.p) (X1.map ZV.p)).1 by rw [P2.out, if_pos Z2.out])
            have tt := TT.out
            rw [thE_ok (r := minR (X0.map ZV.p) (X1.map ZV.p)) Z2.out, ← Q2.out] at tt
            have TT := Lib.hid tt
            clear h0 tt
            have WB := Lib.hid (show ∀ j, (Value.slice a2 X2.length c2).ownBlock = some j → j < w2.heap.size from fun j e => (O2.out.lt j e).2)
            obtain ⟨x0, x1, _, _⟩ := GB.out.facts
            have C3 := Lib.hid (show Calls Tryz.prog 14 #[.slice (some ⟨w2.heap.size, 0, none⟩) 1 1, .slice a1 n1 c1] (w2.alloc (.cells #[.int .i64 g.N, .slice g.a gl g.c] 36)) (RfNew (meeR [g.p] (X1.map ZV.p)) (w2.alloc (.cells #[.int .i64 g.N, .slice g.a gl g.c] 36))) from by rw [HN1.out]; exact rmeet_any [g] X1 _ a1 1 c1 _ (OG.out w2 GZ.out) (O1.out.rd.1.on (one_more _)) (by simp) (by have := LE1.out; omega))
            go_wp2_with fail
            refine (C3.out).mono ?_
            rintro e w3 ⟨hb0, a3, c3, X3, rfl, ox, hxp, hxl⟩
            have hb := below_on (one_more (.cells #[.int .i64 g.N, .slice g.a gl g.c] 36)) hb0
            have BO := Lib.hid (below_on BO.out hb)
            have O3 := Lib.hid (ox.low (R' := w.heap.size) (B' := 0) (by have := BB.out.size; simp; omega) (Nat.zero_le _))
            have GZ := Lib.hid (GZ.out.on hb)
            have RM := Lib.hid (RM.out.on hb)
            have RZ := Lib.hid (RZ.out.on hb)
            have O0 := Lib.hid (O0.out.on hb)
            have OL := Lib.hid (OL.out.on hb)
            have O1 := Lib.hid (O1.out.on hb)
            have O2 := Lib.hid (O2.out.on hb)
            have GB := Lib.hid (GB.out.kept hb)
            have BB := Lib.hid (below_on BB.out hb)
            have P3 := Lib.hid hxp
            have LE3 := Lib.hid hxl
            obtain ⟨n3, hn⟩ : ∃ n, n = X3.length := ⟨_, rfl⟩
            have HN3 := Lib.hid hn
            rw [← hn]
            obtain ⟨e3, he⟩ : ∃ e, e = (meeR [g.p] (X1.map ZV.p)).2 := ⟨_, rfl⟩
            have HE3 := Lib.hid he
            rw [← he]
            clear hb0 hb ox hxp hxl hn he
            by_cases h0 : e3 = 0
            · have h0b : (e3 != 0) = false := by simp [h0]
              have Z3 := Lib.hid (show (meeR [g.p] (X1.map ZV.p)).2 = 0 from HE3.out.symm.trans h0)
              have Q3 := Lib.hid (show X3.map ZV.p = (meeR [g.p] (X1.map ZV.p)).1 by rw [P3.out, if_pos Z3.out])
              have tt := TT.out
              rw [thE_ok (r := meeR [g.p] (X1.map ZV.p)) Z3.out, ← Q3.out] at tt
              have TT := Lib.hid tt
              clear h0 tt
              clear x0 x1
              have C4 := Lib.hid (show Calls Tryz.prog 20 #[.slice a3 n3 c3, .slice (some (b.add (t * 2))) 1 (hc - t)] w3 (RfRes (minR (X3.map ZV.p) [z.p]) w3) from by rw [HN3.out]; exact rminus_any X3 [z] a3 _ c3 _ w3 O3.out.rd.1 RZ.out (by have := LE3.out; omega) (by simp) O3.out.rd.2)
              go_wp2_with fail
              refine (C4.out).mono ?_
              rintro e w4 ⟨hb0, a4, c4, X4, rfl, ox, hxp, hxl⟩
              have hb := hb0
              have BO := Lib.hid (below_on BO.out hb)
              have O4 := Lib.hid (ox.low (R' := w.heap.size) (B' := 0) (by have := BB.out.size; omega) (Nat.zero_le _))
              have GZ := Lib.hid (GZ.out.on hb)
              have RM := Lib.hid (RM.out.on hb)
              have RZ := Lib.hid (RZ.out.on hb)
              have O0 := Lib.hid (O0.out.on hb)
              have OL := Lib.hid (OL.out.on hb)
              have O1 := Lib.hid (O1.out.on hb)
              have O2 := Lib.hid (O2.out.on hb)
              have GB := Lib.hid (GB.out.kept hb)
              have BB := Lib.hid (below_on BB.out hb)
              have P4 := Lib.hid hxp
              have LE4 := Lib.hid hxl
              obtain ⟨n4, hn⟩ : ∃ n, n = X4.length := ⟨_, rfl⟩
              have HN4 := Lib.hid hn
              rw [← hn]
              obtain ⟨e4, he⟩ : ∃ e, e = (minR (X3.map ZV.p) [z.p]).2 := ⟨_, rfl⟩
              have HE4 := Lib.hid he
              rw [← he]
              clear hb0 hb ox hxp hxl hn he
              by_cases h0 : e4 = 0
              · have h0b : (e4 != 0) = false := by simp [h0]
                have Z4 := Lib.hid (show (minR (X3.map ZV.p) [z.p]).2 = 0 from HE4.out.symm.trans h0)
                have Q4 := Lib.hid (show X4.map ZV.p = (minR (X3.map ZV.p) [z.p]).1 by rw [P4.out, if_pos Z4.out])
                have tt := TT.out
                rw [thE_ok (r := minR (X3.map ZV.p) [z.p]) Z4.out, ← Q4.out] at tt
                have TT := Lib.hid tt
                clear h0 tt
                have C5 := Lib.hid (show Calls Tryz.prog 26 #[.slice a4 n4 c4] w4 (RfNew (uaR dnP (X4.map ZV.p)) w4) from by rw [HN4.out]; exact rdown_any X4 a4 c4 w4 O4.out.rd.1 (by have := LE4.out; omega))
                have W4 := Lib.hid (O2.out.lt)
                go_wp2_with fail
                refine (C5.out).mono ?_
                rintro e w5 ⟨hb0, a5, c5, X5, rfl, ox, hxp, hxl⟩
                have hb := hb0
                have FR := Lib.hid (fun y hy p e => ((ox.el y hy).2 p e).1)
                have BO := Lib.hid (below_on BO.out hb)
                have O5 := Lib.hid (ox.low (R' := w.heap.size) (B' := 0) (by have := BB.out.size; omega) (Nat.zero_le _))
                have GZ := Lib.hid (GZ.out.on hb)
                have RM := Lib.hid (RM.out.on hb)
                have RZ := Lib.hid (RZ.out.on hb)
                have O0 := Lib.hid (O0.out.on hb)
                have OL := Lib.hid (OL.out.on hb)
                have O1 := Lib.hid (O1.out.on hb)
                have O2 := Lib.hid (O2.out.on hb)
                have GB := Lib.hid (GB.out.kept hb)
                have BB := Lib.hid (below_on BB.out hb)
                have P5 := Lib.hid hxp
                have LE5 := Lib.hid hxl
                obtain ⟨n5, hn⟩ : ∃ n, n = X5.length := ⟨_, rfl⟩
                have HN5 := Lib.hid hn
                rw [← hn]
                obtain ⟨e5, he⟩ : ∃ e, e = (uaR dnP (X4.map ZV.p)).2 := ⟨_, rfl⟩
                have HE5 := Lib.hid he
                rw [← he]
                clear hb0 hb ox hxp hxl hn he
                by_cases h0 : e5 = 0
                · have h0b : (e5 != 0) = false := by simp [h0]
                  have Z5 := Lib.hid (show (uaR dnP (X4.map ZV.p)).2 = 0 from HE5.out.symm.trans h0)
                  have Q5 := Lib.hid (show X5.map ZV.p = (uaR dnP (X4.map ZV.p)).1 by rw [P5.out, if_pos Z5.out])
                  have tt := TT.out
                  rw [thE_ok (r := uaR dnP (X4.map ZV.p)) Z5.out, ← Q5.out] at tt
                  have TT := Lib.hid tt
                  clear h0 tt
                  obtain ⟨v', w6, hr, ov, hgr⟩ := appendLZ_run O2.out O5.out.rd.1 O5.out.rd.2 (fun y hy p e r => by have h1 := FR.out y hy p e; have h2 := (W4.out _ r).2; omega) (by have := LE2.out; have := LE5.out; omega) BB.out.size 22
                  rw [← HN2.out, ← HN5.out] at hr
                  have HRUN := Lib.hid hr
                  have BB := Lib.hid (Below.grown BB.out hgr BB.out.size (fun j e => (O2.out.lt j e).1))
                  have BO := Lib.hid (Below.grown BO.out hgr BO.out.size (fun j e => Nat.le_trans WO.out (FO.out j e)))
                  have BZ6 := Lib.hid (below_on BZ.out BO.out)
                  obtain ⟨a7, c7, ev⟩ := ov.form
                  subst ev
                  obtain ⟨n7, hn7⟩ : ∃ n, n = (X2 ++ X5).length := ⟨_, rfl⟩
                  have C6 := Lib.hid (show Calls Tryz.prog 14 #[.slice ao k cap, .slice a7 n7 c7] w6 (RfNew (meeR (L0.map ZV.p) ((X2 ++ X5).map ZV.p)) w6) from by rw [HK.out, hn7]; exact rmeet_any L0 (X2 ++ X5) ao a7 cap c7 w6 ((OLo.out.on BO.out).rd.1.low (Nat.zero_le _)) ov.rd.1 (by have := HK.out; omega) (by have := LE2.out; have := LE5.out; simp; omega))
                  have tt := TT.out
                  rw [← List.map_append] at tt
                  have TT := Lib.hid tt
                  rw [← hn7] at HRUN
                  clear hr hgr ov hn7 tt
                  go_wp2_with (at_builtin; (refine Lib.wpList_append_run _ rfl _ _ _ _ rfl _ _ rfl rfl _ _ HRUN.out ?_))
                  go_wp2_with fail
                  refine (C6.out).mono ?_
                  rintro e w6 ⟨hb0, a6, c6, X6, rfl, ox, hxp, hxl⟩
                  have hb := hb0
                  have BZ6 := Lib.hid (below_on BZ6.out hb)
                  have O6 := Lib.hid (ox.low (R' := w.heap.size) (B' := w.heap.size) (by have := BB.out.size; omega) (by have := BB.out.size; omega))
                  have BB := Lib.hid (below_on BB.out hb)
                  have P6 := Lib.hid hxp
                  have LE6 := Lib.hid hxl
                  obtain ⟨n6, hn⟩ : ∃ n, n = X6.length := ⟨_, rfl⟩
                  have HN6 := Lib.hid hn
                  rw [← hn]
                  obtain ⟨e6, he⟩ : ∃ e, e = (meeR (L0.map ZV.p) ((X2 ++ X5).map ZV.p)).2 := ⟨_, rfl⟩
                  have HE6 := Lib.hid he
                  rw [← he]
                  clear hb0 hb ox hxp hxl hn he
                  by_cases h0 : e6 = 0
                  · have h0b : (e6 != 0) = false := by simp [h0]
                    have Z6 := Lib.hid (show (meeR (L0.map ZV.p) ((X2 ++ X5).map ZV.p)).2 = 0 from HE6.out.symm.trans h0)
                    have Q6 := Lib.hid (show X6.map ZV.p = (meeR (L0.map ZV.p) ((X2 ++ X5).map ZV.p)).1 by rw [P6.out, if_pos Z6.out])
                    have tt := TT.out
                    rw [thE_ok (r := meeR (L0.map ZV.p) ((X2 ++ X5).map ZV.p)) Z6.out, ← Q6.out] at tt
                    have TT := Lib.hid tt
                    clear h0 tt
                    go_wp2_with fail
                    go_roundw
                    case rel => exact ⟨t + 1, a6, c6, n6, rfl, by go_num, by omega, by have := LE6.out; have := HN6.out; omega, Lib.hid ⟨X6, HN6.out, O6.out, BB.out, BZ6.out, TT.out⟩⟩
                    case measure => simp [intOf]; omega
                  · have h0b : (e6 != 0) = true := by simpa using h0
                    have tt := TT.out
                    have hne : (meeR (L0.map ZV.p) ((X2 ++ X5).map ZV.p)).2 ≠ 0 := fun q => h0 (HE6.out.trans q)
                    rw [thE_no (r := meeR (L0.map ZV.p) ((X2 ++ X5).map ZV.p)) hne, ← HE6.out] at tt
                    have FE := Lib.hid (show RfNew T w (.returned (.tuple #[.slice none 0 0, .int .i64 e6])) w6 from ⟨BB.out, none, 0, [], by rw [← tt]; rfl, OwnZ.nil _ _ _, by rw [← tt]; simp [h0], by simp⟩)
                    clear h0 tt hne
                    go_wp2_with fail
                    go_ret2
                    exact FE.out
                · have h0b : (e5 != 0) = true := by simpa using h0
                  have tt := TT.out
                  have hne : (uaR dnP (X4.map ZV.p)).2 ≠ 0 := fun q => h0 (HE5.out.trans q)
                  rw [thE_no (r := uaR dnP (X4.map ZV.p)) hne, thE_no (r := ([], (uaR dnP (X4.map ZV.p)).2)) hne, ← HE5.out] at tt
                  have FE := Lib.hid (show RfNew T w (.returned (.tuple #[.slice none 0 0, .int .i64 e5])) w5 from ⟨BB.out, none, 0, [], by rw [← tt]; rfl, OwnZ.nil _ _ _, by rw [← tt]; simp [h0], by simp⟩)
                  clear h0 tt hne
                  go_wp2_with fail
                  go_ret2
                  exact FE.out
              · have h0b : (e4 != 0) = true := by simpa using h0
                have tt := TT.out
                have hne : (minR (X3.map ZV.p) [z.p]).2 ≠ 0 := fun q => h0 (HE4.out.trans q)
                rw [thE_no (r := minR (X3.map ZV.p) [z.p]) hne, thE_no (r := ([], (minR (X3.map ZV.p) [z.p]).2)) hne, ← HE4.out] at tt
                have FE := Lib.hid (show RfNew T w (.returned (.tuple #[.slice none 0 0, .int .i64 e4])) w4 from ⟨BB.out, none, 0, [], by rw [← tt]; rfl, OwnZ.nil _ _ _, by rw [← tt]; simp [h0], by simp⟩)
                clear h0 tt hne
                go_wp2_with fail
                go_ret2
                exact FE.out
            · have h0b : (e3 != 0) = true := by simpa using h0
              have tt := TT.out
              have hne : (meeR [g.p] (X1.map ZV.p)).2 ≠ 0 := fun q => h0 (HE3.out.trans q)
              rw [thE_no (r := meeR [g.p] (X1.map ZV.p)) hne, thE_no (r := ([], (meeR [g.p] (X1.map ZV.p)).2)) hne, ← HE3.out] at tt
              have FE := Lib.hid (show RfNew T w (.returned (.tuple #[.slice none 0 0, .int .i64 e3])) w3 from ⟨BB.out, none, 0, [], by rw [← tt]; rfl, OwnZ.nil _ _ _, by rw [← tt]; simp [h0], by simp⟩)
              clear h0 tt hne
              go_wp2_with fail
              go_ret2
              exact FE.out
          · have h0b : (e2 != 0) = true := by simpa using h0
            have tt := TT.out
            have hne : (minR (X0.map ZV.p) (X1.map ZV.p)).2 ≠ 0 := fun q => h0 (HE2.out.trans q)
            rw [thE_no (r := minR (X0.map ZV.p) (X1.map ZV.p)) hne, thE_no (r := ([], (minR (X0.map ZV.p) (X1.map ZV.p)).2)) hne, ← HE2.out] at tt
            have FE := Lib.hid (show RfNew T w (.returned (.tuple #[.slice none 0 0, .int .i64 e2])) w2 from ⟨BB.out, none, 0, [], by rw [← tt]; rfl, OwnZ.nil _ _ _, by rw [← tt]; simp [h0], by simp⟩)
            clear h0 tt hne
            go_wp2_with fail
            go_ret2
            exact FE.out
        · have h0b : (e1 != 0) = true := by simpa using h0
          have tt := TT.out
          have hne : (uaR dnP [z.p]).2 ≠ 0 := fun q => h0 (HE1.out.trans q)
          rw [thE_no (r := uaR dnP [z.p]) hne, thE_no (r := ([], (uaR dnP [z.p]).2)) hne, ← HE1.out] at tt
          have FE := Lib.hid (show RfNew T w (.returned (.tuple #[.slice none 0 0, .int .i64 e1])) w1 from ⟨BB.out, none, 0, [], by rw [← tt]; rfl, OwnZ.nil _ _ _, by rw [← tt]; simp [h0], by simp⟩)
          clear h0 tt hne
          go_wp2_with fail
          go_ret2
          exact FE.out
      · have e : (M.map ZV.p).drop t = [] := List.drop_eq_nil_of_le (by have := HM.out; simp; omega)
        have tq := TQ.out
        rw [e] at tq
        have tq2 : (L0.map ZV.p, (0 : Int)) = T := tq
        have FE := Lib.hid (show RfNew T w (.returned (.tuple #[.slice ao k cap, .int .i64 0])) wo from ⟨BB.out, ao, cap, L0, by rw [← tq2, HK.out], OL.out, by rw [← tq2]; simp, by have := HK.out; omega⟩)
        clear e tq tq2
        go_wp2_with fail
        go_ret2
        exact FE.out
  · have h0b : (e0 != 0) = true := by simpa using h0
    have tt := TT.out
    have hne : (uaR dnP [g.p]).2 ≠ 0 := fun q => h0 (HE0.out.trans q)
    rw [thE_no (r := uaR dnP [g.p]) hne, ← HE0.out] at tt
    have FE := Lib.hid (show RfNew T w (.returned (.tuple #[.slice none 0 0, .int .i64 e0])) w0 from ⟨BB.out, none, 0, [], by rw [← tt]; rfl, OwnZ.nil _ _ _, by rw [← tt]; simp [h0], by simp⟩)
    clear h0 tt hne
    go_wp2_with fail
    go_ret2
    exact FE.out
end Go.Proofs.YtaegiihkgicdnaaGreat
