/- FederationSets: the walk. -/
import Derived.Test.YtaegiihkgicdnaaGreatWs47

namespace Go.Proofs.YtaegiihkgicdnaaGreat
open Go.RowKit

set_option maxRecDepth 100000 in
set_option maxHeartbeats 32000000 in
theorem sets_any (L M : List ZV) (go ho : Option Addr) (gc hc : Nat) (w : World) (hL : RdW w go L) (hM : RdW w ho M) (hgo : go = none → gc = 0) (hho : ho = none → hc = 0)
    (hbl : L.length ≤ 9223372036854775807 ∧ ∀ z ∈ L, z.l.length ≤ 9223372036854775807) (hbm : M.length ≤ 9223372036854775807 ∧ ∀ z ∈ M, z.l.length ≤ 9223372036854775807) (hzl : ∀ z ∈ L, z.a = none → z.c = 0) (hzm : ∀ z ∈ M, z.a = none → z.c = 0) :
    Calls Tryz.prog 3 #[.slice go L.length gc, .slice ho M.length hc] w (Made (.bool true) w) := by
  obtain ⟨n, hn⟩ : ∃ n, n = L.length := ⟨_, rfl⟩
  obtain ⟨m, hm⟩ : ∃ m, m = M.length := ⟨_, rfl⟩
  have HN := Lib.hid hn
  have HMM := Lib.hid hm
  have RL := Lib.hid hL
  have RM := Lib.hid hM
  have GO := Lib.hid hgo
  have HO := Lib.hid hho
  have ZL := Lib.hid hzl
  have ZM := Lib.hid hzm
  have SH := Lib.hid (fun W => shown_any W)
  obtain ⟨w1, hw1⟩ : ∃ w1, w1 = w.alloc (.cells #[.slice go n gc, .slice ho m hc] 22) := ⟨_, rfl⟩
  have BE := Lib.hid (show Calls Tryz.prog 8 #[.int .i64 4, .slice (some ⟨w.heap.size, 0, none⟩) 2 2] w1 (BeRes [L, M] w1) from by
    rw [hw1, hn, hm]
    exact beyondW_any 4 [L, M] (some ⟨w.heap.size, 0, none⟩) 2 _ (two_w hL hM hgo hho) (by simp) (fun X hX => by
      simp at hX
      rcases hX with rfl | rfl
      · exact ⟨hbl.1, hbl.2⟩
      · exact ⟨hbm.1, hbm.2⟩))
  have B1 := Lib.hid (show Below w.heap.size w w1 by rw [hw1]; exact one_more _)
  rw [← hn, ← hm]
  clear hL hM hgo hho hbl hbm hzl hzm hn hm
  go_enter Tryz.func3, Tryz.ntmps3
  go_wp2_with fail
  rw [← hw1]
  clear hw1
  refine BE.out.mono ?_
  rintro e w2 ⟨hb, bb, rfl, hfine⟩
  have BW := Lib.hid (below_on B1.out hb)
  have FI := Lib.hid hfine
  clear hb hfine BE B1
  cases bb with
  | true =>
    go_wp2_with fail
    refine (SH.out _).mono ?_
    rintro e w3 ⟨rfl, hb⟩
    have B3 := Lib.hid (below_on BW.out hb)
    clear hb
    go_wp2_with fail
    go_ret
    exact ⟨rfl, B3.out⟩
  | false =>
    have FL := Lib.hid (FI.out rfl L (by simp))
    have FM := Lib.hid (FI.out rfl M (by simp))
    have nle : n ≤ 3000 := by have := FL.out.1; have := HN.out; omega
    have mle : m ≤ 3000 := by have := FM.out.1; have := HMM.out; omega
    clear FI
    have LE1 := Lib.hid (show ∀ W, Below w.heap.size w W → Calls Tryz.prog 10 #[.slice go n gc] W (fun e w' => Below W.heap.size W w' ∧ ∃ ao cap Z, e = .returned (.slice ao Z.length cap) ∧ OwnZ W.heap.size W.heap.size w' (.slice ao Z.length cap) Z ∧ Z.map ZV.p = L.map ZV.p ∧ ∀ z ∈ Z, OwL W.heap.size w' z) from fun W h => by
      rw [HN.out]
      exact lentW_any L go gc W (RL.out.on h) (by have := HN.out; omega) (fun z hz => ⟨by have := FL.out.2 z hz; omega, ZL.out z hz⟩))
    have LE2 := Lib.hid (show ∀ W, Below w.heap.size w W → Calls Tryz.prog 10 #[.slice ho m hc] W (fun e w' => Below W.heap.size W w' ∧ ∃ ao cap Z, e = .returned (.slice ao Z.length cap) ∧ OwnZ W.heap.size W.heap.size w' (.slice ao Z.length cap) Z ∧ Z.map ZV.p = M.map ZV.p ∧ ∀ z ∈ Z, OwL W.heap.size w' z) from fun W h => by
      rw [HMM.out]
      exact lentW_any M ho hc W (RM.out.on h) (by have := HMM.out; omega) (fun z hz => ⟨by have := FM.out.2 z hz; omega, ZM.out z hz⟩))
    go_wp2_with fail
    refine (LE1.out _ BW.out).mono ?_
    rintro e w3 ⟨hb, uo, uc, U, rfl, ou, up, ul⟩
    have WS := Lib.hid BW.out.size
    have OU := Lib.hid (ou.low BW.out.size BW.out.size)
    have UP := Lib.hid up
    have UW := Lib.hid (show ∀ z ∈ U, WrL w3 z from fun z hz => (ul z hz).wr)
    have UN := Lib.hid (show U.length = n by have e := congrArg List.length up; simp at e; have := HN.out; omega)
    have BW := Lib.hid (below_on BW.out hb)
    obtain ⟨un, hun⟩ : ∃ un, un = U.length := ⟨_, rfl⟩
    have HUN := Lib.hid hun
    have unle : un ≤ 3000 := by have := UN.out; omega
    rw [← hun]
    clear hb ou up ul hun LE1
    go_wp2_with fail
    refine (LE2.out _ BW.out).mono ?_
    rintro e w4 ⟨hb, vo, vc, V, rfl, ov, vp, vl⟩
    have OU := Lib.hid (OU.out.on hb)
    have UW := Lib.hid (show ∀ z ∈ U, WrL w4 z from fun z hz => (UW.out z hz).on hb)
    have OV := Lib.hid (ov.low BW.out.size BW.out.size)
    have VP := Lib.hid vp
    have VN := Lib.hid (show V.length = m by have e := congrArg List.length vp; simp at e; have := HMM.out; omega)
    have BW := Lib.hid (below_on BW.out hb)
    obtain ⟨vn, hvn⟩ : ∃ vn, vn = V.length := ⟨_, rfl⟩
    have HVN := Lib.hid hvn
    have vnle : vn ≤ 3000 := by have := VN.out; omega
    rw [← hvn]
    clear hb ov vp vl hvn LE2
    have RU := Lib.hid (show RdZ 0 w4 uo U from OU.out.rd.1.low (Nat.zero_le _))
    have RV := Lib.hid (show RdZ 0 w4 vo V from OV.out.rd.1.low (Nat.zero_le _))
    have CU := Lib.hid OU.out.rd.2
    have CV := Lib.hid OV.out.rd.2
    have UB := Lib.hid (show ∀ z ∈ U, ∀ p, z.a = some p → w.heap.size ≤ p.block ∧ p.block < w4.heap.size from fun z hz p e => (OU.out.el z hz).2 p e)
    have LU := Lib.hid (show Lb 200 (U.map ZV.p) by rw [UP.out]; exact FL.out.lb)
    have CK1 := Lib.hid (show ∀ W, Below w4.heap.size w4 W → Calls Tryz.prog 11 #[.slice uo un uc] W (Made (.int .i64 (rchk (L.map ZV.p))) W) from fun W h => by
      have := fcheck1_any U uo uc W (RU.out.on h) CU.out (by have := HUN.out; omega)
      rw [UP.out, chkG_one, ← HUN.out] at this; exact this)
    have CK2 := Lib.hid (show ∀ W, Below w.heap.size w W → Calls Tryz.prog 12 #[.slice go n gc] W (Made (.int .i64 (rchk (L.map ZV.p))) W) from fun W h => by rw [HN.out]; exact rcheckW_any L go gc W (RL.out.on h) (by have := HN.out; omega))
    have ME1 := Lib.hid (show ∀ W, Below w4.heap.size w4 W → Calls Tryz.prog 13 #[.slice uo un uc, .slice vo vn vc] W (RsL (meeR (L.map ZV.p) (M.map ZV.p)) W) from fun W h => by
      have := fmeet_out U V uo vo uc vc W (RU.out.on h) (RV.out.on h) CU.out CV.out (by have := HUN.out; omega) (by have := HVN.out; omega)
      rw [UP.out, VP.out, ← HUN.out, ← HVN.out] at this; exact this.mono fun _ _ k => k.rs)
    have ME2 := Lib.hid (show ∀ W, Below w.heap.size w W → Calls Tryz.prog 14 #[.slice go n gc, .slice ho m hc] W (RsL (meeR (L.map ZV.p) (M.map ZV.p)) W) from fun W h => by rw [HN.out, HMM.out]; exact rmeetW_any L M go ho gc hc W (RL.out.on h) (RM.out.on h) (by have := HN.out; omega) (by have := HMM.out; omega))
    have IN1 := Lib.hid (show ∀ W, Below w4.heap.size w4 W → Calls Tryz.prog 16 #[.slice uo un uc, .slice vo vn vc] W (fun e w' => Below W.heap.size W w' ∧ e = .returned (.tuple #[.bool (incR (L.map ZV.p) (M.map ZV.p)), .int .i64 (incE (L.map ZV.p) (M.map ZV.p))])) from fun W h => by
      have := fincludes_out U V uo vo uc vc W (RU.out.on h) (RV.out.on h) CU.out CV.out (by have := HUN.out; omega) (by have := HVN.out; omega)
      rw [UP.out, VP.out, ← HUN.out, ← HVN.out] at this; exact this)
    have IN2 := Lib.hid (show ∀ W, Below w.heap.size w W → Calls Tryz.prog 17 #[.slice go n gc, .slice ho m hc] W (fun e w' => Below W.heap.size W w' ∧ e = .returned (.tuple #[.bool (incR (L.map ZV.p) (M.map ZV.p)), .int .i64 (incE (L.map ZV.p) (M.map ZV.p))])) from fun W h => by rw [HN.out, HMM.out]; exact rincludesW_any L M go ho gc hc W (RL.out.on h) (RM.out.on h) (by have := HN.out; omega) (by have := HMM.out; omega) HO.out)
    have MN1 := Lib.hid (show ∀ W, Below w4.heap.size w4 W → Calls Tryz.prog 18 #[.slice uo un uc, .slice vo vn vc] W (FLRes (minR (L.map ZV.p) (M.map ZV.p)) W) from fun W h => by
      have := fminus_out U V uo vo uc vc W (RU.out.on h) (RV.out.on h) CU.out CV.out (by have := HUN.out; omega) (by have := HVN.out; omega)
      rw [UP.out, VP.out, ← HUN.out, ← HVN.out] at this; exact this)
    have MN2 := Lib.hid (show ∀ W, Below w.heap.size w W → Calls Tryz.prog 20 #[.slice go n gc, .slice ho m hc] W (RsL (minR (L.map ZV.p) (M.map ZV.p)) W) from fun W h => by rw [HN.out, HMM.out]; exact rminusW_any L M go ho gc hc W (RL.out.on h) (RM.out.on h) (by have := HN.out; omega) (by have := HMM.out; omega) GO.out)
    have SA1 := Lib.hid (show ∀ W, Below w.heap.size w W → RdW W uo U → Calls Tryz.prog 19 #[.slice uo un uc, .slice go n gc] W (Made (.bool true) W) from fun W h k => by
      rw [HN.out, HUN.out]
      exact rsameLW_any U L uo go uc gc W k (RL.out.on h) (by have := HUN.out; omega) UP.out (fun z hz => by have := LU.out z.p (List.mem_map.2 ⟨z, hz, rfl⟩); have e : z.l.length ≤ 200 := this; omega))
    have SA2 := Lib.hid (show ∀ W, Below w.heap.size w W → RdW W vo V → Calls Tryz.prog 19 #[.slice vo vn vc, .slice ho m hc] W (Made (.bool true) W) from fun W h k => by
      rw [HMM.out, HVN.out]
      exact rsameLW_any V M vo ho vc hc W k (RM.out.on h) (by have := HVN.out; omega) VP.out (fun z hz => by have := FM.out.lb z.p (by rw [← VP.out]; exact List.mem_map.2 ⟨z, hz, rfl⟩); have e : z.l.length ≤ 200 := this; omega))
    have LS := Lib.hid (show ∀ (r : List Zp × Int) W (X Y : List ZV) xo xc yo yc, Lb 200 r.1 → RdZ 0 W xo X → RdZ 0 W yo Y → X.length ≤ 1000000 → X.map ZV.p = (if r.2 = 0 then r.1 else []) → Y.map ZV.p = (if r.2 = 0 then r.1 else []) → Calls Tryz.prog 15 #[.slice xo X.length xc, .slice yo Y.length yc, .int .i64 r.2, .int .i64 r.2] W (Made (.bool true) W) from fun r W X Y xo xc yo yc hb h1 h2 h3 h4 h5 => lsameR_any X Y xo yo xc yc r.2 W h1 h2 h3 (h4.trans h5.symm) (res_lb hb h4 (by omega)))
    have LM := Lib.hid (show Lb 200 (meeR (L.map ZV.p) (M.map ZV.p)).1 from mtS_lb FL.out.lb)
    have LN := Lib.hid (show Lb 200 (minR (L.map ZV.p) (M.map ZV.p)).1 from mnP_lb FL.out.lb)
    have B4 := Lib.hid (Below.refl w4.heap.size w4)
    have SV := Lib.hid (show ∀ W, Below w4.heap.size w4 W → RdW W vo V from fun W h => (OV.out.rd.1.on h).weak)
    clear RU RV OV
    go_wp2_with fail
    refine (CK1.out _ B4.out).mono ?_
    rintro e w5 ⟨rfl, hb⟩
    have B4 := Lib.hid (below_on B4.out hb)
    clear hb CK1
    obtain ⟨ck, hck⟩ : ∃ ck, ck = rchk (L.map ZV.p) := ⟨_, rfl⟩
    rw [← hck] at CK2 ⊢
    clear hck
    go_wp2_with fail
    refine (CK2.out _ (below_on BW.out B4.out)).mono ?_
    rintro e w6 ⟨rfl, hb⟩
    have B4 := Lib.hid (below_on B4.out hb)
    have q1 := bne_refl ck
    clear hb CK2
    go_wp2_with fail
    refine (ME1.out _ B4.out).mono ?_
    rintro e w7 ⟨hb, xo, xc, X, rfl, rx, xp, xl⟩
    have RX := Lib.hid rx
    have XP := Lib.hid xp
    have XL := Lib.hid xl
    have B4 := Lib.hid (below_on B4.out hb)
    have LS1 := Lib.hid (LS.out (meeR (L.map ZV.p) (M.map ZV.p)))
    obtain ⟨me, hme⟩ : ∃ me, me = (meeR (L.map ZV.p) (M.map ZV.p)).2 := ⟨_, rfl⟩
    rw [← hme]
    obtain ⟨xn, hxn⟩ : ∃ xn, xn = X.length := ⟨_, rfl⟩
    rw [← hxn]
    have HME := Lib.hid hme
    have HXN := Lib.hid hxn
    clear hb rx xp xl ME1 hme hxn
    go_wp2_with fail
    refine (ME2.out _ (below_on BW.out B4.out)).mono ?_
    rintro e w8 ⟨hb, yo, yc, Y, rfl, ry, yp, yl⟩
    have SM := Lib.hid (LS1.out w8 X Y xo xc yo yc LM.out (RX.out.on hb) ry XL.out XP.out yp)
    have B4 := Lib.hid (below_on B4.out hb)
    rw [← HME.out, ← HXN.out] at SM
    rw [← HME.out]
    clear hb ry yp yl ME2 HME HXN RX XP XL LS1
    generalize Y.length = yn at *
    go_wp2_with fail
    refine SM.out.mono ?_
    rintro e w9 ⟨rfl, hb⟩
    have B4 := Lib.hid (below_on B4.out hb)
    clear hb SM q1
    go_wp2_with fail
    refine (IN1.out _ B4.out).mono ?_
    rintro e w10 ⟨hb, rfl⟩
    have B4 := Lib.hid (below_on B4.out hb)
    obtain ⟨ie, hie⟩ : ∃ ie, ie = incE (L.map ZV.p) (M.map ZV.p) := ⟨_, rfl⟩
    obtain ⟨ib, hib⟩ : ∃ ib, ib = incR (L.map ZV.p) (M.map ZV.p) := ⟨_, rfl⟩
    rw [← hie, ← hib] at IN2 ⊢
    clear hb IN1 hie hib
    go_wp2_with fail
    refine (IN2.out _ (below_on BW.out B4.out)).mono ?_
    rintro e w11 ⟨hb, rfl⟩
    have B4 := Lib.hid (below_on B4.out hb)
    have q1 := bne_refl ie
    have q2 := bne_reflB ib
    clear hb IN2
    go_wp2_with fail
    refine (MN1.out _ B4.out).mono ?_
    rintro e w12 ⟨hb, xo, xc, X, rfl, rx, xp, xl, xh⟩
    have W11 := Lib.hid (show w4.heap.size ≤ w11.heap.size from B4.out.size)
    have RX := Lib.hid rx
    have XP := Lib.hid xp
    have XL := Lib.hid xl
    have XH := Lib.hid xh
    have B4 := Lib.hid (below_on B4.out hb)
    have LS1 := Lib.hid (LS.out (minR (L.map ZV.p) (M.map ZV.p)))
    obtain ⟨me, hme⟩ : ∃ me, me = (minR (L.map ZV.p) (M.map ZV.p)).2 := ⟨_, rfl⟩
    rw [← hme]
    obtain ⟨xn, hxn⟩ : ∃ xn, xn = X.length := ⟨_, rfl⟩
    rw [← hxn]
    have HME := Lib.hid hme
    have HXN := Lib.hid hxn
    clear hb rx xp xl xh MN1 q1 q2 hme hxn
    go_wp2_with fail
    refine (SA1.out _ (below_on BW.out B4.out) (OU.out.rd.1.on B4.out).weak).mono ?_
    rintro e w13 ⟨rfl, hb⟩
    have RX := Lib.hid (RX.out.on hb)
    have B4 := Lib.hid (below_on B4.out hb)
    clear hb SA1
    go_wp2_with fail
    refine (SA2.out _ (below_on BW.out B4.out) (SV.out _ B4.out)).mono ?_
    rintro e w14 ⟨rfl, hb⟩
    have RX := Lib.hid (RX.out.on hb)
    have B4 := Lib.hid (below_on B4.out hb)
    clear hb SA2
    have OU := Lib.hid (OU.out.on B4.out)
    have UW := Lib.hid (show ∀ z ∈ U, WrL w14 z from fun z hz => (UW.out z hz).on B4.out)
    have BW := Lib.hid (below_on BW.out B4.out)
    go_wp2_with fail
    obtain ⟨S, hS⟩ : ∃ S : Nat → Prop, S = fun k => ∀ z ∈ U, ∀ p, z.a = some p → p.block ≠ k := ⟨_, rfl⟩
    have HS := Lib.hid hS
    clear hS
    go_loopw [13] (fun s wr => ∃ i : Nat, s = .int .i64 i ∧ i ≤ un ∧ Hid (Below w.heap.size w wr) ∧ Hid (Kept S w14 wr) ∧ Hid (∀ z ∈ U, WrL wr z)) (fun s _ => un - (intOf s).toNat)
    case atStart => exact ⟨0, rfl, by omega, BW, Lib.hid (Kept.refl _ _), UW⟩
    case round =>
      generalize wr = wo at *
      obtain ⟨i, rfl, hi, BB, KS, WW⟩ := hrel
      by_cases hiu : i < un
      · obtain ⟨z, hz⟩ : ∃ z, z = U[i]'(by have := HUN.out; omega) := ⟨_, rfl⟩
        have ZM := Lib.hid (show z ∈ U by rw [hz]; exact List.getElem_mem _)
        obtain ⟨a, ea, h0, h1⟩ := OU.out.rd.1.hd i (by have := HUN.out; omega)
        rw [← hz] at h0 h1
        have SA := Lib.hid (show S a.block by
          rw [HS.out]
          intro y hy p e q
          have := OU.out.far y hy p e
          rw [ea] at this
          exact this (by show some a.block = _; rw [q]))
        obtain ⟨zl, hzl⟩ : ∃ zl, zl = z.l.length := ⟨_, rfl⟩
        have HZL := Lib.hid hzl
        rw [← hzl] at h1
        have G1 := Lib.hid h1
        have zle : zl ≤ 200 := by rw [hzl]; exact LU.out z.p (List.mem_map.2 ⟨z, ZM.out, rfl⟩)
        clear hz h0 h1 hzl
        subst ea
        go_wp2_with fail
        go_loopw [14] (fun s wr => ∃ k : Nat, s = .int .i64 k ∧ k ≤ zl ∧ Hid (Below w.heap.size w wr) ∧ Hid (Kept S w14 wr) ∧ Hid (∀ z ∈ U, WrL wr z)) (fun s _ => zl - (intOf s).toNat)
        case atStart => exact ⟨0, rfl, by omega, BB, KS, WW⟩
        case round =>
          generalize wr = wv at *
          obtain ⟨k, rfl, hk, BB2, KS2, WW2⟩ := hrel
          have c1 := cell_keptK KS2.out G1.out (by show S (a.add (i * 2)).block; rw [add_block]; exact SA.out)
          by_cases hkz : k < zl
          · obtain ⟨g, cur, ga, gb, gc2⟩ : ∃ g cur, z.a = some ⟨g, 0, none⟩ ∧ wv.heap[g]? = some (.cells cur 37 (0, 0)) ∧ z.l.length ≤ cur.size := by
              rcases WW2.out z ZM.out with h | h
              · have := HZL.out; rw [h] at this; simp at this; omega
              · exact h
            have hkc : k < cur.size := by have := HZL.out; omega
            have d1 : wv.cell? ⟨g, k, none⟩ = some cur[k] := by rw [cell_of_row wv g k _ _ _ gb, Array.getElem?_eq_getElem hkc]
            have d2 : wv.frozen? ⟨g, k, none⟩ = false := frozen_of_row wv g k _ _ gb
            have NS : ¬ S g := by rw [HS.out]; exact fun h => h z ZM.out _ ga rfl
            have BB3 := Lib.hid (BB2.out.setCell (p := ⟨g, k, none⟩) (UB.out z ZM.out _ ga).1 (.int .i64 99))
            have KS3 := Lib.hid (KS2.out.trans (kept_put wv g k (.int .i64 99) NS))
            have WW3 := Lib.hid (show ∀ z ∈ U, WrL (wv.setCell ⟨g, k, none⟩ (.int .i64 99)) z from fun z hz => (WW2.out z hz).put g k _)
            rw [ga] at c1
            clear gb gc2 NS
            go_wp2_with fail
            go_roundw
            case rel => exact ⟨k + 1, by go_num, by omega, BB3, KS3, WW3⟩
            case measure => simp [intOf]; omega
          · go_wp2_with fail
            go_roundw
            case rel => exact ⟨i + 1, by go_num, by omega, BB2, KS2, WW2⟩
            case measure => simp [intOf]; omega
      · have RX := Lib.hid (show RdZ 0 wo xo X from by
          by_cases hx : 0 < X.length
          · refine (RX.out.keptK KS.out (fun p e => ?_) (fun z hz p e => ?_)).low (Nat.zero_le _)
            · rw [HS.out]
              intro y hy q f
              have k1 := (UB.out y hy q f).2
              have k2 := XH.out p e hx
              have k3 := W11.out
              omega
            · rw [HS.out]
              intro y hy q f
              have k1 := (UB.out y hy q f).2
              have k2 := ((RX.out.el z hz).2 p e).1
              have k3 := W11.out
              omega
          · exact ⟨fun t ht => by omega, fun z hz => by have := List.length_pos_of_mem hz; omega⟩)
        clear UW OU HS UB KS WW
        go_wp2_with fail
        refine (MN2.out _ BB.out).mono ?_
        rintro e w15 ⟨hb, yo, yc, Y, rfl, ry, yp, yl⟩
        have SM := Lib.hid (LS1.out w15 X Y xo xc yo yc LN.out (RX.out.on hb) ry XL.out XP.out yp)
        have BB := Lib.hid (below_on BB.out hb)
        rw [← HME.out, ← HXN.out] at SM
        rw [← HME.out]
        clear hb ry yp yl MN2 HME HXN RX XP XL LS1
        generalize Y.length = yn at *
        go_wp2_with fail
        refine SM.out.mono ?_
        rintro e w16 ⟨rfl, hb⟩
        have BB := Lib.hid (below_on BB.out hb)
        clear hb SM
        go_wp2_with fail
        refine (SH.out _).mono ?_
        rintro e w17 ⟨rfl, hb⟩
        have BB := Lib.hid (below_on BB.out hb)
        clear hb
        go_wp2_with fail
        go_ret
        exact ⟨rfl, BB.out⟩
end Go.Proofs.YtaegiihkgicdnaaGreat
