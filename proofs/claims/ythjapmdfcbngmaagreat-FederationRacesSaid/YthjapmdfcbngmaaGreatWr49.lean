/- A part. -/
import Derived.Test.YthjapmdfcbngmaaGreatWr11
import Derived.Test.YthjapmdfcbngmaaGreatWr40
import Derived.Test.YthjapmdfcbngmaaGreatWr48
import Derived.Test.YthjapmdfcbngmaaGreatWr42
import Derived.Test.YthjapmdfcbngmaaGreatWr37
namespace Go.Proofs.YthjapmdfcbngmaaGreat
set_option maxHeartbeats 64000000
open Go.RowKit
theorem dn_list {L : List Zp} (h : (peR dnP L).2 = 0) : (peR dnP L).1 = (eaS dnP L).1 ∧ (eaS dnP L).2 = 0 :=
 ⟨rfl, (colE_zero (ansE_zero h).2).2⟩
set_option maxRecDepth 100000 in
theorem races_any (L M : List ZV) (go ho : Option Addr) (gc hc : Nat) (ps : List Pq) (po : Option Addr) (pc : Nat) (dn dd : Int) (w : World) (hL : RdW w go L) (hM : RdW w ho M) (hgo : go = none → gc = 0) (hho : ho = none → hc = 0)
  (hbl : L.length ≤ 9223372036854775807 ∧ ∀ z ∈ L, z.l.length ≤ 9223372036854775807) (hbm : M.length ≤ 9223372036854775807 ∧ ∀ z ∈ M, z.l.length ≤ 9223372036854775807) (hP : Arg2 w po ps) (hI : Fits ps) (hN : po = none → pc = 0) (hpl : ps.length ≤ 9223372036854775807) (hdn : I64 dn) (hdd : I64 dd) :
  Calls Tryz.prog 7 #[.slice go L.length gc, .slice ho M.length hc, .agg #[.slice po ps.length pc, .int .i64 dn, .int .i64 dd]] w (Made (.bool true) w) := by
 obtain ⟨n, hn⟩ : ∃ n, n = L.length := ⟨_, rfl⟩
 obtain ⟨m, hm⟩ : ∃ m, m = M.length := ⟨_, rfl⟩
 obtain ⟨pn, hpn⟩ : ∃ pn, pn = ps.length := ⟨_, rfl⟩
 have HN := Lib.hid hn
 have HMM := Lib.hid hm
 have HPN := Lib.hid hpn
 have RL := Lib.hid hL
 have RM := Lib.hid hM
 have GO := Lib.hid hgo
 have HO := Lib.hid hho
 have PP := Lib.hid hP
 have PI := Lib.hid hI
 have PN := Lib.hid hN
 have DN := Lib.hid hdn
 have DD := Lib.hid hdd
 have SH := Lib.hid (fun W => shown_any W)
 obtain ⟨w0, hw0⟩ : ∃ w0, w0 = w.alloc (.cells #[.slice po pn pc, .int .i64 dn, .int .i64 dd] 47) := ⟨_, rfl⟩
 have B0 := Lib.hid (show Below w.heap.size w w0 by rw [hw0]; exact one_more _)
 have X5 := Lib.hid (show Bx w0 w.heap.size #[.slice po pn pc, .int .i64 dn, .int .i64 dd] by rw [hw0]; exact Bx.made w _ _)
 obtain ⟨q5, hq5⟩ : ∃ q5, q5 = w.heap.size := ⟨_, rfl⟩
 obtain ⟨w1, hw1⟩ : ∃ w1, w1 = w0.alloc (.cells #[.slice go n gc, .slice ho m hc] 22) := ⟨_, rfl⟩
 have BE := Lib.hid (show Calls Tryz.prog 8 #[.int .i64 3, .slice (some ⟨w0.heap.size, 0, none⟩) 2 2] w1 (BeRes [L, M] w1) from by
  rw [hw1, hn, hm]
  exact beyondW_any 3 [L, M] (some ⟨w0.heap.size, 0, none⟩) 2 _ (two_w (hL.on B0.out) (hM.on B0.out) hgo hho) (by simp) (fun X hX => by
   simp at hX
   rcases hX with rfl | rfl
   · exact ⟨hbl.1, hbl.2⟩
   · exact ⟨hbm.1, hbm.2⟩))
 have B1 := Lib.hid (show Below w0.heap.size w0 w1 by rw [hw1]; exact one_more _)
 have pnl : pn ≤ 9223372036854775807 := by omega
 rw [← hn, ← hm, ← hpn]
 clear hL hM hgo hho hbl hbm hn hm hP hI hN hpl hpn hdn hdd
 go_enter Tryz.func7, Tryz.ntmps7
 go_upto_region 1 with (fail)
 rw [← hw0]
 rw [← hq5] at X5 ⊢
 clear hw0 hq5
 go_wp2_with fail
 rw [← hw1]
 clear hw1
 refine BE.out.mono ?_
 rintro e w2 ⟨hb, bb, rfl, hfine⟩
 have C0 := Lib.hid (below_on B1.out hb)
 have BW := Lib.hid (below_on B0.out C0.out)
 have FI := Lib.hid hfine
 clear hb hfine BE B1
 cases bb with
 | true =>
  go_wp2_with fail
  refine (SH.out _).mono ?_
  rintro e9 w9 ⟨rfl, hb⟩
  have B9 := Lib.hid (below_on BW.out hb)
  clear hb
  go_wp2_with fail
  go_ret
  exact ⟨rfl, B9.out⟩
 | false =>
 have FL := Lib.hid (FI.out rfl L (by simp))
 have FM := Lib.hid (FI.out rfl M (by simp))
 have nle : n ≤ 3000 := by have := FL.out.1; have := HN.out; omega
 have mle : m ≤ 3000 := by have := FM.out.1; have := HMM.out; omega
 have x0 := (X5.out.kept C0.out).cell 0
 simp only [List.getElem?_toArray, List.getElem?_cons_zero] at x0
 clear FI
 by_cases h50 : 50 < pn
 · have q50 : (50 : Int) < pn := by omega
   clear h50
   go_wp2_with fail
   refine (SH.out _).mono ?_
   rintro e9 w9 ⟨rfl, hb⟩
   have B9 := Lib.hid (below_on BW.out hb)
   clear hb
   go_wp2_with fail
   go_ret
   exact ⟨rfl, B9.out⟩
 have q50 : ¬ (50 : Int) < pn := by omega
 have ple : pn ≤ 50 := by omega
 clear h50
 obtain ⟨er, her⟩ : ∃ er, er = (wtR (L.map ZV.p) (M.map ZV.p)).2 := ⟨_, rfl⟩
 have HER := Lib.hid her
 clear her
 have FW := Lib.hid (show ∀ W, Below w.heap.size w W → Calls Tryz.prog 27 #[.slice go n gc, .slice ho m hc] W (FLRes (wtR (L.map ZV.p) (M.map ZV.p)) W) from fun W h => by
  rw [HN.out, HMM.out]
  exact fwithinW_out L M go ho gc hc W (RL.out.on h) (RM.out.on h) GO.out HO.out (by have := HN.out; omega) (by have := HMM.out; omega))
 obtain ⟨de, hde⟩ : ∃ de, de = (peR dnP (L.map ZV.p)).2 := ⟨_, rfl⟩
 have HDE := Lib.hid hde
 clear hde
 have FD := Lib.hid (show ∀ W, Below w.heap.size w W → Calls Tryz.prog 26 #[.slice go n gc] W (RsL (peR dnP (L.map ZV.p)) W) from fun W h => by
  rw [HN.out]
  exact rdownW_any L go gc W (RL.out.on h) (by have := HN.out; omega) GO.out)
 go_wp2_with fail
 clear x0
 refine (FW.out _ BW.out).mono ?_
 rintro e3 w3 ⟨hb, ao, cap, Z, rfl, hR, hp, hZl, -, hNc⟩
 rw [← HER.out] at hp ⊢
 have ZR := Lib.hid hR
 have ZP := Lib.hid hp
 have ZN := Lib.hid hNc
 obtain ⟨zn, hzn⟩ : ∃ zn, zn = Z.length := ⟨_, rfl⟩
 have HZN := Lib.hid hzn
 have C1 := Lib.hid (below_on C0.out hb)
 have D1 := Lib.hid (Below.refl w3.heap.size w3)
 have BW := Lib.hid (below_on BW.out hb)
 rw [← hzn]
 clear hb hR hp hNc hzn FW
 go_wp2_with fail
 refine (FD.out _ BW.out).mono ?_
 rintro e3 w4 ⟨hb, ao2, cap2, Z2, rfl, hR, hp, hZl2⟩
 rw [← HDE.out] at hp ⊢
 have YR := Lib.hid hR
 have YP := Lib.hid hp
 obtain ⟨yn, hyn⟩ : ∃ yn, yn = Z2.length := ⟨_, rfl⟩
 have HYN := Lib.hid hyn
 have C1 := Lib.hid (below_on C1.out hb)
 have D1 := Lib.hid (below_on D1.out hb)
 have D2 := Lib.hid (Below.refl w4.heap.size w4)
 have BW := Lib.hid (below_on BW.out hb)
 have X5 := Lib.hid (X5.out.kept C1.out)
 rw [← hyn]
 clear hb hR hp hyn FD
 go_upto_region 5 with (fail)
 by_cases he : er = 0
 rotate_left
 · have q1 : (er != 0) = true := by simpa using he
   clear he
   have KS := Lib.hid (show ∀ W, Below w4.heap.size w4 W → (W.cell? ⟨q5, 0, none⟩ = some (.slice po pn pc) ∧ True) from fun W h => ⟨(X5.out.kept h).cell 0, trivial⟩)
   obtain ⟨wc, hwc⟩ : ∃ wc, wc = w4.drew := ⟨_, rfl⟩
   have Bc := Lib.hid (show Below w4.heap.size w4 wc by rw [hwc]; exact (Below.refl _ _).drew)
   refine wp_region_held_drew (S := (fun W => (W.cell? ⟨q5, 0, none⟩ = some (.slice po pn pc) ∧ True))) (by kernel_rfl) (by rw [← hwc]; exact KS.out _ Bc.out) (fun h0 => ?_)
   rw [← hwc] at h0 ⊢
   clear hwc
   refine tkI (i := 0) rfl h0 ?_
   simp only [Act.put, sA, sB, sD, sE, sF]
   refine tkH (i := 1) (v := .bool true) rfl (Or.inl ⟨by rfl, (by intro w' hS; (try dsimp only at hS); go_simp; (try simp only [q1]); (try with_reducible rfl))⟩) h0 ?_
   simp only [Act.put, sZ]
   refine tkI (i := 2) rfl h0 ?_
   simp only [Act.put, sZ]
   refine tkU (i := 3) rfl h0 ?_
   simp only [Act.put, sZ]
   refine tkU (i := 4) rfl h0 ?_
   simp only [Act.put, sZ]
   refine tkI (i := 5) rfl h0 ?_
   simp only [Act.put, sZ]
   refine tkI (i := 6) rfl h0 ?_
   simp only [Act.put, sZ]
   refine tkU (i := 7) rfl h0 ?_
   simp only [Act.put, sZ]
   refine tkU (i := 8) rfl h0 ?_
   simp only [Act.put, sZ]
   refine tkU (i := 9) rfl h0 ?_
   simp only [Act.put, sZ]
   refine tkI (i := 10) rfl h0 ?_
   simp only [Act.put, sZ]
   refine tkI (i := 11) rfl h0 ?_
   simp only [Act.put, sZ]
   refine tkU (i := 12) rfl h0 ?_
   simp only [Act.put, sZ]
   refine tkU (i := 13) rfl h0 ?_
   simp only [Act.put, sZ]
   refine tkU (i := 14) rfl h0 ?_
   simp only [Act.put, sZ]
   refine tkU (i := 15) rfl h0 ?_
   simp only [Act.put, sZ]
   refine tkU (i := 16) rfl h0 ?_
   simp only [Act.put, sZ]
   refine tkU (i := 17) rfl h0 ?_
   simp only [Act.put, sZ]
   refine tkU (i := 18) rfl h0 ?_
   simp only [Act.put, sZ]
   refine tkU (i := 19) rfl h0 ?_
   simp only [Act.put, sZ]
   refine tkI (i := 20) rfl h0 ?_
   simp only [Act.put, sA, sB, sC, sD]
   try simp only [sF]
   try simp only [sE]
   refine wpAnyH_done (by kernel_rfl) ?_ _
   try simp only [Exit.then]
   have BW := Lib.hid (below_on BW.out Bc.out)
   have C2 := Lib.hid (below_on D2.out Bc.out)
   go_wp2_with fail
   refine (SH.out _).mono ?_
   rintro e9 w9 ⟨rfl, hb⟩
   have B9 := Lib.hid (below_on BW.out hb)
   clear hb
   go_wp2_with fail
   go_ret
   exact ⟨rfl, B9.out⟩
 have q1 : (er != 0) = false := by simpa using he
 by_cases hd : de = 0
 rotate_left
 · have q2 : (de != 0) = true := by simpa using hd
   clear hd
   have KS := Lib.hid (show ∀ W, Below w4.heap.size w4 W → (W.cell? ⟨q5, 0, none⟩ = some (.slice po pn pc) ∧ True) from fun W h => ⟨(X5.out.kept h).cell 0, trivial⟩)
   obtain ⟨wc, hwc⟩ : ∃ wc, wc = w4.drew := ⟨_, rfl⟩
   have Bc := Lib.hid (show Below w4.heap.size w4 wc by rw [hwc]; exact (Below.refl _ _).drew)
   refine wp_region_held_drew (S := (fun W => (W.cell? ⟨q5, 0, none⟩ = some (.slice po pn pc) ∧ True))) (by kernel_rfl) (by rw [← hwc]; exact KS.out _ Bc.out) (fun h0 => ?_)
   rw [← hwc] at h0 ⊢
   clear hwc
   refine tkI (i := 0) rfl h0 ?_
   simp only [Act.put, sA, sB, sD, sE, sF]
   refine tkH (i := 1) (v := .bool false) rfl (Or.inl ⟨by rfl, (by intro w' hS; (try dsimp only at hS); go_simp; (try simp only [q1]); (try with_reducible rfl))⟩) h0 ?_
   simp only [Act.put, sZ]
   refine tkI (i := 2) rfl h0 ?_
   simp only [Act.put, sZ]
   refine tkI (i := 3) rfl h0 ?_
   simp only [Act.put, sZ]
   refine tkH (i := 4) (v := .bool true) rfl (Or.inl ⟨by rfl, (by intro w' hS; (try dsimp only at hS); go_simp; (try simp only [q2]); (try with_reducible rfl))⟩) h0 ?_
   simp only [Act.put, sZ]
   refine tkI (i := 5) rfl h0 ?_
   simp only [Act.put, sZ]
   refine tkI (i := 6) rfl h0 ?_
   simp only [Act.put, sZ]
   refine tkU (i := 7) rfl h0 ?_
   simp only [Act.put, sZ]
   refine tkU (i := 8) rfl h0 ?_
   simp only [Act.put, sZ]
   refine tkU (i := 9) rfl h0 ?_
   simp only [Act.put, sZ]
   refine tkI (i := 10) rfl h0 ?_
   simp only [Act.put, sZ]
   refine tkI (i := 11) rfl h0 ?_
   simp only [Act.put, sZ]
   refine tkU (i := 12) rfl h0 ?_
   simp only [Act.put, sZ]
   refine tkU (i := 13) rfl h0 ?_
   simp only [Act.put, sZ]
   refine tkU (i := 14) rfl h0 ?_
   simp only [Act.put, sZ]
   refine tkU (i := 15) rfl h0 ?_
   simp only [Act.put, sZ]
   refine tkU (i := 16) rfl h0 ?_
   simp only [Act.put, sZ]
   refine tkU (i := 17) rfl h0 ?_
   simp only [Act.put, sZ]
   refine tkU (i := 18) rfl h0 ?_
   simp only [Act.put, sZ]
   refine tkU (i := 19) rfl h0 ?_
   simp only [Act.put, sZ]
   refine tkI (i := 20) rfl h0 ?_
   simp only [Act.put, sA, sB, sC, sD]
   try simp only [sF]
   try simp only [sE]
   refine wpAnyH_done (by kernel_rfl) ?_ _
   try simp only [Exit.then]
   have BW := Lib.hid (below_on BW.out Bc.out)
   have C2 := Lib.hid (below_on D2.out Bc.out)
   go_wp2_with fail
   refine (SH.out _).mono ?_
   rintro e9 w9 ⟨rfl, hb⟩
   have B9 := Lib.hid (below_on BW.out hb)
   clear hb
   go_wp2_with fail
   go_ret
   exact ⟨rfl, B9.out⟩
 have q2 : (de != 0) = false := by simpa using hd
 by_cases h0 : n = 0
 · have q3 : ((n : Int) == 0) = true := by simp [h0]
   clear h0
   have KS := Lib.hid (show ∀ W, Below w4.heap.size w4 W → (W.cell? ⟨q5, 0, none⟩ = some (.slice po pn pc) ∧ True) from fun W h => ⟨(X5.out.kept h).cell 0, trivial⟩)
   obtain ⟨wc, hwc⟩ : ∃ wc, wc = w4.drew := ⟨_, rfl⟩
   have Bc := Lib.hid (show Below w4.heap.size w4 wc by rw [hwc]; exact (Below.refl _ _).drew)
   refine wp_region_held_drew (S := (fun W => (W.cell? ⟨q5, 0, none⟩ = some (.slice po pn pc) ∧ True))) (by kernel_rfl) (by rw [← hwc]; exact KS.out _ Bc.out) (fun h0 => ?_)
   rw [← hwc] at h0 ⊢
   clear hwc
   refine tkI (i := 0) rfl h0 ?_
   simp only [Act.put, sA, sB, sD, sE, sF]
   refine tkH (i := 1) (v := .bool false) rfl (Or.inl ⟨by rfl, (by intro w' hS; (try dsimp only at hS); go_simp; (try simp only [q1]); (try with_reducible rfl))⟩) h0 ?_
   simp only [Act.put, sZ]
   refine tkI (i := 2) rfl h0 ?_
   simp only [Act.put, sZ]
   refine tkI (i := 3) rfl h0 ?_
   simp only [Act.put, sZ]
   refine tkH (i := 4) (v := .bool false) rfl (Or.inl ⟨by rfl, (by intro w' hS; (try dsimp only at hS); go_simp; (try simp only [q2]); (try with_reducible rfl))⟩) h0 ?_
   simp only [Act.put, sZ]
   refine tkI (i := 5) rfl h0 ?_
   simp only [Act.put, sZ]
   refine tkI (i := 6) rfl h0 ?_
   simp only [Act.put, sZ]
   refine tkI (i := 7) rfl h0 ?_
   simp only [Act.put, sZ]
   refine tkI (i := 8) rfl h0 ?_
   simp only [Act.put, sZ]
   refine tkH (i := 9) (v := .bool true) rfl (Or.inl ⟨by rfl, (by intro w' hS; (try dsimp only at hS); go_simp; (try simp only [q3]); (try with_reducible rfl))⟩) h0 ?_
   simp only [Act.put, sZ]
   refine tkI (i := 10) rfl h0 ?_
   simp only [Act.put, sZ]
   refine tkI (i := 11) rfl h0 ?_
   simp only [Act.put, sZ]
   refine tkU (i := 12) rfl h0 ?_
   simp only [Act.put, sZ]
   refine tkU (i := 13) rfl h0 ?_
   simp only [Act.put, sZ]
   refine tkU (i := 14) rfl h0 ?_
   simp only [Act.put, sZ]
   refine tkU (i := 15) rfl h0 ?_
   simp only [Act.put, sZ]
   refine tkU (i := 16) rfl h0 ?_
   simp only [Act.put, sZ]
   refine tkU (i := 17) rfl h0 ?_
   simp only [Act.put, sZ]
   refine tkU (i := 18) rfl h0 ?_
   simp only [Act.put, sZ]
   refine tkU (i := 19) rfl h0 ?_
   simp only [Act.put, sZ]
   refine tkI (i := 20) rfl h0 ?_
   simp only [Act.put, sA, sB, sC, sD]
   try simp only [sF]
   try simp only [sE]
   refine wpAnyH_done (by kernel_rfl) ?_ _
   try simp only [Exit.then]
   have BW := Lib.hid (below_on BW.out Bc.out)
   have C2 := Lib.hid (below_on D2.out Bc.out)
   go_wp2_with fail
   refine (SH.out _).mono ?_
   rintro e9 w9 ⟨rfl, hb⟩
   have B9 := Lib.hid (below_on BW.out hb)
   clear hb
   go_wp2_with fail
   go_ret
   exact ⟨rfl, B9.out⟩
 have q3 : ((n : Int) == 0) = false := by simp; omega
 have n0 : 0 < n := by omega
 have WQ := Lib.hid (show (wtR (L.map ZV.p) (M.map ZV.p)).2 = 0 from HER.out.symm.trans he)
 have DQ := Lib.hid (show (peR dnP (L.map ZV.p)).2 = 0 from HDE.out.symm.trans hd)
 have ZP1 := Lib.hid (show Z.map ZV.p = (wiS (L.map ZV.p) (M.map ZV.p)).1 from by have := ZP.out; rw [if_pos he] at this; exact this)
 have YP1 := Lib.hid (show Z2.map ZV.p = (peR dnP (L.map ZV.p)).1 from by have := YP.out; rw [if_pos hd] at this; exact this)
 obtain ⟨WG, W0⟩ := ansE_zero WQ.out
 obtain ⟨Wlen, W0⟩ := colE_zero W0
 have WG := Lib.hid (show chkG [L.map ZV.p, M.map ZV.p] = 0 from WG)
 have W0 := Lib.hid W0
 have LNE := Lib.hid (show L.map ZV.p ≠ [] from fun e => by
  have h : (L.map ZV.p).length = 0 := by rw [e]; rfl
  rw [List.length_map] at h
  have := HN.out
  omega)
 have DF := Lib.hid (dn_list DQ.out)
 have YP2 := Lib.hid (show Z2.map ZV.p = (eaS dnP (L.map ZV.p)).1 from YP1.out.trans DF.out.1)
 have D0 := Lib.hid DF.out.2
 have SM := Lib.hid (show RdZ 0 w ho M from (RL.out.both RM.out WG.out).2)
 have zle : zn ≤ 3000 := by have := HZN.out; have h : (Z.map ZV.p).length = Z.length := by simp
                            rw [ZP1.out] at h; omega
 have yle : yn ≤ 1000000 := by have := HYN.out; omega
 obtain ⟨a, ea, hd0, hd1⟩ := (RL.out.on BW.out).hd 0 (by have := HN.out; omega)
 rw [add_nil2] at hd0
 obtain ⟨N0, hN0⟩ : ∃ N0, N0 = (L[0]'(by have := HN.out; omega)).N := ⟨_, rfl⟩
 rw [← hN0] at hd0
 have HD0 := Lib.hid hd0
 clear hd1
 clear hN0 h0 hd0 WQ DQ DF Wlen
 subst he
 subst hd
 subst ea
 have KS := Lib.hid (show ∀ W, Below w4.heap.size w4 W → (W.cell? ⟨q5, 0, none⟩ = some (.slice po pn pc) ∧ W.cell? a = some (.int .i64 N0)) from fun W h => ⟨(X5.out.kept h).cell 0, kept h HD0.out⟩)
 obtain ⟨wc, hwc⟩ : ∃ wc, wc = w4.drew := ⟨_, rfl⟩
 have Bc := Lib.hid (show Below w4.heap.size w4 wc by rw [hwc]; exact (Below.refl _ _).drew)
 refine wp_region_held_drew (S := (fun W => (W.cell? ⟨q5, 0, none⟩ = some (.slice po pn pc) ∧ W.cell? a = some (.int .i64 N0)))) (by kernel_rfl) (by rw [← hwc]; exact KS.out _ Bc.out) (fun h0 => ?_)
 rw [← hwc] at h0 ⊢
 clear hwc
 refine tkI (i := 0) rfl h0 ?_
 simp only [Act.put, sA, sB, sD, sE, sF]
 refine tkI (i := 1) rfl h0 ?_
 simp only [Act.put, sZ]
 refine tkI (i := 2) rfl h0 ?_
 simp only [Act.put, sZ]
 refine tkI (i := 3) rfl h0 ?_
 simp only [Act.put, sZ]
 refine tkI (i := 4) rfl h0 ?_
 simp only [Act.put, sZ]
 refine tkI (i := 5) rfl h0 ?_
 simp only [Act.put, sZ]
 refine tkI (i := 6) rfl h0 ?_
 simp only [Act.put, sZ]
 refine tkI (i := 7) rfl h0 ?_
 simp only [Act.put, sZ]
 refine tkI (i := 8) rfl h0 ?_
 simp only [Act.put, sZ]
 refine tkH (i := 9) (v := .bool false) rfl (Or.inl ⟨by rfl, (by intro w' hS; (try dsimp only at hS); go_simp; (try simp only [q3]); (try with_reducible rfl))⟩) h0 ?_
 simp only [Act.put, sZ]
 refine tkI (i := 10) rfl h0 ?_
 simp only [Act.put, sZ]
 refine tkI (i := 11) rfl h0 ?_
 simp only [Act.put, sZ]
 refine tkI (i := 12) rfl h0 ?_
 simp only [Act.put, sZ]
 refine tkI (i := 13) rfl h0 ?_
 simp only [Act.put, sZ]
 refine tkI (i := 14) rfl h0 ?_
 simp only [Act.put, sZ]
 refine tkI (i := 15) rfl h0 ?_
 simp only [Act.put, sZ]
 refine tkH (i := 16) (v := .pointer (some a)) rfl (Or.inl ⟨by rfl, (by intro w' hS; (try dsimp only at hS); go_simp; (try rw [if_pos n0]); (try with_reducible rfl))⟩) h0 ?_
 simp only [Act.put, sZ]
 refine tkI (i := 17) rfl h0 ?_
 simp only [Act.put, sZ]
 refine tkI (i := 18) rfl h0 ?_
 simp only [Act.put, sZ]
 refine tkI (i := 19) rfl h0 ?_
 simp only [Act.put, sZ]
 refine tkI (i := 20) rfl h0 ?_
 simp only [Act.put, sA, sB, sC, sD]
 try simp only [sF]
 try simp only [sE]
 refine wpAnyH_done (by kernel_rfl) ?_ _
 try simp only [Exit.then]
 have BW := Lib.hid (below_on BW.out Bc.out)
 have C2 := Lib.hid (below_on D2.out Bc.out)
 by_cases hl : (pn : Int) = N0
 rotate_left
 · have q4 : ((pn : Int) != N0) = true := by simpa using hl
   clear hl
   go_wp2_with fail
   refine (SH.out _).mono ?_
   rintro e9 w9 ⟨rfl, hb⟩
   have B9 := Lib.hid (below_on BW.out hb)
   clear hb
   go_wp2_with fail
   go_ret
   exact ⟨rfl, B9.out⟩
 have q4 : ((pn : Int) != N0) = false := by simpa using hl
 clear hl
 generalize wc = w5 at *
 have X5 := Lib.hid (X5.out.kept C2.out)
 have D1 := Lib.hid (below_on D1.out C2.out)
 have ZR := Lib.hid (ZR.out.on D1.out)
 have YR := Lib.hid (YR.out.on C2.out)
 obtain ⟨ri, hri⟩ : ∃ ri, ri = hsF ps (wiS (L.map ZV.p) (M.map ZV.p)).1 := ⟨_, rfl⟩
 obtain ⟨ru, hru⟩ : ∃ ru, ru = hsF ps (eaS dnP (L.map ZV.p)).1 := ⟨_, rfl⟩
 obtain ⟨rw', hrw⟩ : ∃ rw', rw' = hsF ps (M.map ZV.p) := ⟨_, rfl⟩
 have FH := Lib.hid (show ∀ W, Below w5.heap.size w5 W → Below w.heap.size w W → Calls Tryz.prog 29 #[.slice ao zn cap, .slice po pn pc] W (Made (.tuple #[.bool ri.1, .int .i64 ri.2]) W) from fun W h k => by
  have := fhasW_out Z ao cap ps po pc W (ZR.out.weak.on h) ZN.out (by have := HZN.out; omega) (PP.out.on k) PI.out PN.out
  rw [haR_eq, ZP1.out, ← hri, ← HZN.out, ← HPN.out] at this; exact this)
 have RH := Lib.hid (show ∀ W, Below w5.heap.size w5 W → Below w.heap.size w W → Calls Tryz.prog 30 #[.slice ao2 yn cap2, .slice po pn pc] W (Made (.tuple #[.bool ru.1, .int .i64 ru.2]) W) from fun W h k => by
  have := rhasW_any Z2 ao2 cap2 ps po pc W (YR.out.weak.on h) (by have := HYN.out; omega) (PP.out.on k) PI.out
  rw [YP2.out, ← hru, ← HYN.out, ← HPN.out] at this; exact this)
 have GH := Lib.hid (show ∀ W, Below w.heap.size w W → Calls Tryz.prog 30 #[.slice ho m hc, .slice po pn pc] W (Made (.tuple #[.bool rw'.1, .int .i64 rw'.2]) W) from fun W k => by
  have := rhasW_any M ho hc ps po pc W (RM.out.on k) (by have := HMM.out; omega) (PP.out.on k) PI.out
  rw [← hrw, ← HMM.out, ← HPN.out] at this; exact this)
 obtain ⟨i, g⟩ := ri
 obtain ⟨u, h⟩ := ru
 obtain ⟨wr, k⟩ := rw'
 have IE := Lib.hid hri
 have UE := Lib.hid hru
 have ME := Lib.hid hrw
 clear hri hru hrw
 have E5 := Lib.hid (Below.refl w5.heap.size w5)
 have x0 := X5.out.cell 0
 simp only [List.getElem?_toArray, List.getElem?_cons_zero] at x0
 go_wp2_with fail
 refine (FH.out _ E5.out BW.out).mono ?_
 rintro e3 w6 ⟨rfl, hb⟩
 have BW := Lib.hid (below_on BW.out hb)
 have E5 := Lib.hid (below_on E5.out hb)
 clear hb FH x0
 have x0 := (X5.out.kept E5.out).cell 0
 simp only [List.getElem?_toArray, List.getElem?_cons_zero] at x0
 go_wp2_with fail
 refine (RH.out _ E5.out BW.out).mono ?_
 rintro e3 w7 ⟨rfl, hb⟩
 have BW := Lib.hid (below_on BW.out hb)
 have E5 := Lib.hid (below_on E5.out hb)
 clear hb RH x0
 have x0 := (X5.out.kept E5.out).cell 0
 simp only [List.getElem?_toArray, List.getElem?_cons_zero] at x0
 go_wp2_with fail
 refine (GH.out _ BW.out).mono ?_
 rintro e3 w8 ⟨rfl, hb⟩
 have BW := Lib.hid (below_on BW.out hb)
 have E5 := Lib.hid (below_on E5.out hb)
 clear hb GH x0
 by_cases hg : g = 0
 rotate_left
 · have q5 : (g != 0) = true := by simpa using hg
   clear hg
   go_wp2_with fail
   refine (SH.out _).mono ?_
   rintro e9 w9 ⟨rfl, hb⟩
   have B9 := Lib.hid (below_on BW.out hb)
   clear hb
   go_wp2_with fail
   go_ret
   exact ⟨rfl, B9.out⟩
 subst hg
 by_cases hh : h = 0
 rotate_left
 · have q5 : (h != 0) = true := by simpa using hh
   clear hh
   go_wp2_with fail
   refine (SH.out _).mono ?_
   rintro e9 w9 ⟨rfl, hb⟩
   have B9 := Lib.hid (below_on BW.out hb)
   clear hb
   go_wp2_with fail
   go_ret
   exact ⟨rfl, B9.out⟩
 subst hh
 by_cases hk : k = 0
 rotate_left
 · have q5 : (k != 0) = true := by simpa using hk
   clear hk
   go_wp2_with fail
   refine (SH.out _).mono ?_
   rintro e9 w9 ⟨rfl, hb⟩
   have B9 := Lib.hid (below_on BW.out hb)
   clear hb
   go_wp2_with fail
   go_ret
   exact ⟨rfl, B9.out⟩
 subst hk
 have RC := Lib.hid (rc_of (ps := ps) WG.out LNE.out D0.out (by rw [← UE.out]))
 have NOT := Lib.hid (show i = true → wr = false ∧ u = true from fun e => by
  obtain ⟨nn, D, X, r⟩ := RC.out
  have := rc_not r W0.out D0.out (by rw [← IE.out]) (by rw [← UE.out]) (by rw [← ME.out]) (by rw [← IE.out]; exact e)
  rw [← ME.out, ← UE.out] at this
  exact this)
 have NON := Lib.hid (show m = 0 → i = u from fun e => by
  have hm : M.map ZV.p = [] := by
   have : M = [] := List.length_eq_zero_iff.1 (HMM.out.symm.trans e)
   rw [this]; rfl
  obtain ⟨nn, D, X, r⟩ := RC.out
  have W1 := W0.out
  have I1 := IE.out
  rw [hm] at r W1 I1
  have := rc_none r W1 D0.out (by rw [← I1]) (by rw [← UE.out])
  rw [← I1, ← UE.out] at this
  exact this)
 go_upto_region 12 with (fail)
 go_cut [114] (fun s wx => s = .bool false ∧ wx = w8)
 case first =>
  cases i with
  | true =>
   obtain ⟨h1, h2⟩ := NOT.out rfl
   by_cases hm : m = 0
   · have fm : ((m : Int) == 0) = true := by simp [hm]
     clear NOT NON hm
     subst h1
     subst h2
     go_wp2_with fail
     go_meet
     case rel => exact ⟨rfl, rfl⟩
   · have fm : ((m : Int) == 0) = false := by simp; omega
     clear NOT NON hm
     subst h1
     subst h2
     go_wp2_with fail
     go_meet
     case rel => exact ⟨rfl, rfl⟩
  | false =>
   by_cases hm : m = 0
   · have fm : ((m : Int) == 0) = true := by simp [hm]
     have h1 := (NON.out hm).symm
     clear NOT NON hm
     subst h1
     go_wp2_with fail
     go_meet
     case rel => exact ⟨rfl, rfl⟩
   · have fm : ((m : Int) == 0) = false := by simp; omega
     clear NOT NON hm
     go_wp2_with fail
     go_meet
     case rel => exact ⟨rfl, rfl⟩
 case rest =>
 obtain ⟨rfl, rfl⟩ := hcut
 generalize wc = w8 at *
 clear NOT NON
 obtain ⟨ur, hur⟩ : ∃ ur, ur = unR ps dn dd (M.map ZV.p) := ⟨_, rfl⟩
 have UN := Lib.hid (show ∀ W, Below w.heap.size w W → Calls Tryz.prog 34 #[.slice ho m hc, .agg #[.slice po pn pc, .int .i64 dn, .int .i64 dd]] W (Made (.tuple #[.bool ur.1, .bool ur.2]) W) from fun W k => by
  rw [hur, HMM.out, HPN.out]
  exact luh_any M ho hc ps po pc dn dd W (SM.out.on k) (by have := HMM.out; omega) (PP.out.on k) PI.out DN.out DD.out)
 have AR := Lib.hid (show ∀ W, Below w.heap.size w W → Calls Tryz.prog 35 #[.slice (some a) n gc, .agg #[.slice po pn pc, .int .i64 dn, .int .i64 dd]] W (ArRes (ArOk ps dn dd (L.map ZV.p)) W) from fun W k => by
  rw [HN.out, HPN.out]
  exact larr_any L (some a) gc ps po pc dn dd W (RL.out.on k) (by have := HN.out; omega) (PP.out.on k) PI.out (by have := HPN.out; omega) DN.out DD.out)
 have FIN := Lib.hid (show ur = (true, true) → ArOk ps dn dd (L.map ZV.p) → i = true from fun e1 e2 => by
  obtain ⟨nn, D, X, r⟩ := RC.out
  have := rc_yes r LNE.out W0.out (by rw [← IE.out]) (hur ▸ e1) e2
  rw [← IE.out] at this
  exact this)
 obtain ⟨s, k⟩ := ur
 clear hur
 have x0 := (X5.out.kept E5.out).cell 0
 have x1 := (X5.out.kept E5.out).cell 1
 have x2 := (X5.out.kept E5.out).cell 2
 simp only [List.getElem?_toArray, List.getElem?_cons_succ, List.getElem?_cons_zero] at x0 x1 x2
 go_wp2_with fail
 refine (UN.out _ BW.out).mono ?_
 rintro e3 w10 ⟨rfl, hb⟩
 have BW := Lib.hid (below_on BW.out hb)
 have E5 := Lib.hid (below_on E5.out hb)
 clear hb UN x0 x1 x2
 have x0 := (X5.out.kept E5.out).cell 0
 have x1 := (X5.out.kept E5.out).cell 1
 have x2 := (X5.out.kept E5.out).cell 2
 simp only [List.getElem?_toArray, List.getElem?_cons_succ, List.getElem?_cons_zero] at x0 x1 x2
 go_wp2_with fail
 refine (AR.out _ BW.out).mono ?_
 rintro e3 w11 ⟨hb, b, mm, rfl, hbm⟩
 have BW := Lib.hid (below_on BW.out hb)
 have FN := Lib.hid (show s = true → k = true → b = true → mm = true → i = true from fun h1 h2 h3 h4 => FIN.out (by rw [h1, h2]) (hbm h3 h4))
 clear hb AR x0 x1 x2 hbm FIN
 cases k with
 | false =>
  go_wp2_with fail
  refine (SH.out _).mono ?_
  rintro e9 w9 ⟨rfl, hb⟩
  have B9 := Lib.hid (below_on BW.out hb)
  clear hb
  go_wp2_with fail
  go_ret
  exact ⟨rfl, B9.out⟩
 | true =>
 cases mm with
 | false =>
  go_wp2_with fail
  refine (SH.out _).mono ?_
  rintro e9 w9 ⟨rfl, hb⟩
  have B9 := Lib.hid (below_on BW.out hb)
  clear hb
  go_wp2_with fail
  go_ret
  exact ⟨rfl, B9.out⟩
 | true =>
 cases s with
 | false =>
  go_wp2_with fail
  refine (SH.out _).mono ?_
  rintro e9 w9 ⟨rfl, hb⟩
  have B9 := Lib.hid (below_on BW.out hb)
  clear hb
  go_wp2_with fail
  go_ret
  exact ⟨rfl, B9.out⟩
 | true =>
 cases b with
 | false =>
  go_wp2_with fail
  refine (SH.out _).mono ?_
  rintro e9 w9 ⟨rfl, hb⟩
  have B9 := Lib.hid (below_on BW.out hb)
  clear hb
  go_wp2_with fail
  go_ret
  exact ⟨rfl, B9.out⟩
 | true =>
 have hi := FN.out rfl rfl rfl rfl
 clear FN
 subst hi
 go_wp2_with fail
 refine (SH.out _).mono ?_
 rintro e9 w9 ⟨rfl, hb⟩
 have B9 := Lib.hid (below_on BW.out hb)
 clear hb
 go_wp2_with fail
 go_ret
 exact ⟨rfl, B9.out⟩
end Go.Proofs.YthjapmdfcbngmaaGreat
