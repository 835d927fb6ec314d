/- A part. -/
import Derived.Test.YtaegiihkgicdnaaGreatWt10
import Derived.Test.YtaegiihkgicdnaaGreatWt36
import Derived.Test.YtaegiihkgicdnaaGreatWt35

namespace Go.Proofs.YtaegiihkgicdnaaGreat
open Go.RowKit

theorem OwnZ.read2 {R B : Nat} {A : World} {v : Value} {L : List ZV} (h : OwnZ R B A v L) : ∃ ao cap, v = .slice ao L.length cap ∧ RdZ B A ao L ∧ (ao = none → cap = 0) := by
  obtain ⟨ao, cap, e, h1, _⟩ := h.read
  refine ⟨ao, cap, e, h1, fun q => ?_⟩
  subst q
  rcases h.row.2 with ⟨e2, _⟩ | ⟨g, c2, cur, e2, _⟩
  · rw [e] at e2; injection e2
  · rw [e] at e2; injection e2 with e3; cases e3

theorem chk_short {a b : List Zp} (h : chkG [a, b] = 0) : a.length ≤ 2000 ∧ ∀ z ∈ b, rdcE z.1 z.2 = 0 := by
  by_cases q : 2000 < a.length ∨ 2000 < b.length
  · rw [chkG_long q] at h; cases h
  · rw [chkG_short q, ckL_iff] at h
    refine ⟨by omega, fun z hz => ?_⟩
    unfold rdcE
    rw [if_pos (h z (List.mem_append.2 (Or.inr hz))).1]

theorem woC_step {s T : Sq} {z : Zp} {cs : List Con} {L : List Zp} {u : Nat} (hu : u < L.length) (h : EqS (addQ s (woC z cs (L.drop u))) T) : EqS (addQ (addQ s (cutS L[u] z cs)) (woC z cs (L.drop (u + 1)))) T := by
  rw [woC_cons hu] at h
  exact (addQ_seq s _ _).trans h

theorem minus_go {s : Sq} {L M : List Zp} {t : Nat} {T : List Zp × Int} (ht : t < M.length) (hr : rdcE M[t].1 M[t].2 = 0) (h : mnP L (M.drop t) = T) (he : EqS s (woC M[t] (rdcL M[t].1 M[t].2) L)) :
    (colE s.1 s.2 = 0 → mnP s.1 (M.drop (t + 1)) = T) ∧ (colE s.1 s.2 ≠ 0 → T.2 = colE s.1 s.2) := by
  have e : woS M[t] L = woC M[t] (rdcL M[t].1 M[t].2) L := by unfold woS; rw [if_pos hr]
  rw [mnP_cons ht, e, ← he.1] at h
  refine ⟨fun q => ?_, fun q => ?_⟩
  · rw [if_pos q, ← he.2 q] at h; exact h
  · rw [if_neg q] at h; rw [← h]

set_option maxRecDepth 100000 in
set_option maxHeartbeats 16000000 in
theorem rminus_any (L M : List ZV) (go ho : Option Addr) (gc hc : Nat) (w : World) (hL : RdZ 0 w go L) (hM : RdZ 0 w ho M) (hl : L.length ≤ 1000000) (hm : M.length ≤ 1000000) (hgo : go = none → gc = 0) :
    Calls Tryz.prog 20 #[.slice go L.length gc, .slice ho M.length hc] w (RfRes (minR (L.map ZV.p) (M.map ZV.p)) w) := by
  obtain ⟨i0, hi, hz0, hz1, hz2⟩ := info_parts zone_info
  have RL := Lib.hid hL
  have RM := Lib.hid hM
  obtain ⟨n, hn⟩ : ∃ n, n = L.length := ⟨_, rfl⟩
  obtain ⟨m, hm2⟩ : ∃ m, m = M.length := ⟨_, rfl⟩
  have HN := Lib.hid hn
  have HM := Lib.hid hm2
  have HGO := Lib.hid hgo
  have BO := Lib.hid (show ∀ W, Below w.heap.size w W → Calls Tryz.prog 43 #[.slice go n gc, .slice ho m hc] W (Made (.int .i64 (chkG [L.map ZV.p, M.map ZV.p])) W) from fun W h => by rw [hn, hm2]; exact both_any L M go ho gc hc W (hL.on h) (hM.on h) hl hm)
  have nle : n ≤ 1000000 := by omega
  have mle : m ≤ 1000000 := by omega
  rw [← hn, ← hm2]
  clear hL hM hl hm hn hm2 hgo
  obtain ⟨c, hc0⟩ : ∃ c, c = chkG [L.map ZV.p, M.map ZV.p] := ⟨_, rfl⟩
  have HC := Lib.hid hc0
  rw [← hc0] at BO
  clear hc0
  go_enter Tryz.func20, Tryz.ntmps20
  go_wp2_with fail
  refine (BO.out _ (Below.refl _ _)).mono ?_
  rintro e w1 ⟨rfl, hb⟩
  have B1 := Lib.hid hb
  clear hb
  by_cases h0 : c = 0
  · have h0b : (c != 0) = false := by simp [h0]
    have EV := Lib.hid (show (minR (L.map ZV.p) (M.map ZV.p)).2 = (mnP (L.map ZV.p) (M.map ZV.p)).2 from by unfold minR ansE; rw [← HC.out, if_pos h0])
    have CK := Lib.hid (chk_short (HC.out.symm.trans h0))
    clear h0
    go_wp2_with fail
    go_loopw [7, 8] (fun l i wr => ∃ (t : Nat) (ao : Option Addr) (cap k : Nat), l = .slice ao k cap ∧ i = .int .i64 t ∧ t ≤ m ∧ k ≤ 2001 ∧ Hid (∃ L0 : List ZV, k = L0.length ∧ (ao = none → cap = 0) ∧ RdZ 0 wr ao L0 ∧ Below w.heap.size w wr ∧ mnP (L0.map ZV.p) ((M.map ZV.p).drop t) = mnP (L.map ZV.p) (M.map ZV.p))) (fun _ i _ => m - (intOf i).toNat)
    case atStart => exact ⟨0, go, gc, n, rfl, rfl, by omega, by have h := CK.out.1; rw [List.length_map, ← HN.out] at h; omega, Lib.hid ⟨L, HN.out, HGO.out, RL.out.on B1.out, B1.out, rfl⟩⟩
    case round =>
      generalize wr = wo at *
      obtain ⟨t, ao, cap, k, rfl, rfl, ht, kle, HI⟩ := hrel
      obtain ⟨L0, hk, hao, r0, bo, mn⟩ := HI.out
      have HK := Lib.hid hk
      have HAO := Lib.hid hao
      have R0 := Lib.hid r0
      have B0 := Lib.hid bo
      have MN := Lib.hid mn
      clear hk hao r0 bo mn HI
      by_cases htm : t < m
      · obtain ⟨z, hz⟩ : ∃ z, z = M[t]'(by have := HM.out; omega) := ⟨_, rfl⟩
        have HMT := Lib.hid (show t < (M.map ZV.p).length by have := HM.out; simpa using (show t < M.length by omega))
        have ZP := Lib.hid (show (M.map ZV.p)[t]'HMT.out = z.p by rw [hz]; simp)
        have HZ := Lib.hid (show ZAt 0 wo z from (RM.out.el z (by rw [hz]; exact List.getElem_mem _)).on B0.out)
        obtain ⟨b, eb, h0, h1⟩ := (RM.out.on B0.out).hd t (by have := HM.out; omega)
        rw [← hz] at h0 h1
        obtain ⟨zl, hzl⟩ : ∃ zl, zl = z.l.length := ⟨_, rfl⟩
        rw [← hzl] at h1
        have HZL := Lib.hid hzl
        have GZ := Lib.hid (And.intro h0 h1)
        obtain ⟨cs, hcs⟩ : ∃ cs, cs = rdcL z.N z.l := ⟨_, rfl⟩
        have HCS := Lib.hid hcs
        have RZ := Lib.hid (show rdcE (M.map ZV.p)[t].1 (M.map ZV.p)[t].2 = 0 from CK.out.2 _ (List.getElem_mem _))
        have MG := Lib.hid (show ∀ s : Sq, EqS s (woC z.p cs (L0.map ZV.p)) → (colE s.1 s.2 = 0 → mnP s.1 ((M.map ZV.p).drop (t + 1)) = mnP (L.map ZV.p) (M.map ZV.p)) ∧ (colE s.1 s.2 ≠ 0 → (mnP (L.map ZV.p) (M.map ZV.p)).2 = colE s.1 s.2) from fun s h => minus_go HMT.out RZ.out MN.out (by rw [ZP.out]; rw [hcs] at h; exact h))
        clear hz h0 h1 hzl hcs
        obtain ⟨q, hq⟩ : ∃ q, q = wo.heap.size := ⟨_, rfl⟩
        obtain ⟨w2, hw2⟩ : ∃ w2, w2 = wo.alloc (.cells #[.slice none 0 0, .int .i64 0] 62) := ⟨_, rfl⟩
        have M0 := Lib.hid (show Mk q q (fun k => k < q) (fun _ => False) w2 ([], 0) by rw [hw2, hq]; exact Mk.made wo)
        have B2 := Lib.hid (show Below wo.heap.size wo w2 by rw [hw2]; exact one_more _)
        have HQ := Lib.hid hq
        subst eb
        go_upto_region 9 with (fail)
        rw [← hw2, ← hq]
        clear hw2 hq
        go_wp2_with fail
        go_loopw [10] (fun i wr => ∃ u : Nat, i = .int .i64 u ∧ u ≤ k ∧ Hid (∃ s, Mk q q (fun k => k < q) (fun _ => False) wr s ∧ Below wo.heap.size wo wr ∧ EqS (addQ s (woC z.p cs ((L0.map ZV.p).drop u))) (woC z.p cs (L0.map ZV.p)))) (fun i _ => k - (intOf i).toNat)
        case atStart => exact ⟨0, rfl, by omega, Lib.hid ⟨([], 0), M0.out, B2.out, by rw [addQ_ok rfl, nil_seqA]; exact EqS.refl _⟩⟩
        case round =>
          generalize wr = wi at *
          obtain ⟨u, rfl, hu, HJ⟩ := hrel
          obtain ⟨s, mm, be, eq⟩ := HJ.out
          have MM := Lib.hid mm
          have BE := Lib.hid be
          have EQ := Lib.hid eq
          obtain ⟨bad, hbad⟩ : ∃ bad, bad = colE s.1 s.2 := ⟨_, rfl⟩
          have HBD := Lib.hid hbad
          obtain ⟨mv, mL, m1, m2, m3, m4, _⟩ := mm
          rw [← hbad] at m1
          obtain ⟨vo, vc, ev, vr, vn⟩ := m2.read2
          obtain ⟨vl, hvl⟩ : ∃ vl, vl = mL.length := ⟨_, rfl⟩
          rw [← hvl] at ev
          have HVL := Lib.hid hvl
          have VL := Lib.hid (show vl ≤ 2001 by omega)
          have M3 := Lib.hid m3
          have VR := Lib.hid vr
          have VN := Lib.hid vn
          subst ev
          obtain ⟨f0, f1, f2, f3⟩ := m1.facts
          clear be eq hbad m1 m2 m3 m4 vr vn hvl f2 f3 HJ
          by_cases huk : u < k
          · by_cases hb0 : bad = 0
            · have hb1 : (bad == 0) = true := by simp [hb0]
              obtain ⟨x, hx⟩ : ∃ x, x = L0[u]'(by have := HK.out; omega) := ⟨_, rfl⟩
              have HUT := Lib.hid (show u < (L0.map ZV.p).length by have := HK.out; simpa using (show u < L0.length by omega))
              have XP := Lib.hid (show (L0.map ZV.p)[u]'HUT.out = x.p by rw [hx]; simp)
              have HX := Lib.hid (show ZAt 0 wo x from R0.out.el x (by rw [hx]; exact List.getElem_mem _))
              obtain ⟨a, ea, h0, h1⟩ := R0.out.hd u (by have := HK.out; omega)
              rw [← hx] at h0 h1
              obtain ⟨xl, hxl⟩ : ∃ xl, xl = x.l.length := ⟨_, rfl⟩
              rw [← hxl] at h1
              have GX := Lib.hid (And.intro h0 h1)
              have CU := Lib.hid (show ∀ W, Below wi.heap.size wi W → Calls Tryz.prog 52 #[.pointer (some ⟨q, 0, none⟩), .agg #[.int .i64 x.N, .slice x.a xl x.c], .agg #[.int .i64 z.N, .slice z.a zl z.c]] W (AddRes q q (fun k => k < q) (fun _ => False) W (addQ s (cutS x.p z.p cs))) from fun W h => by
                rw [hxl, HZL.out, HCS.out]
                exact rcut_any q q _ _ s x z W (MM.out.on h) (Nat.le_refl _) (fun _ r => r.elim) (HX.out.on (below_on BE.out h)) (fun p e => ⟨by rw [HQ.out]; exact (HX.out.2 p e).2, fun r => r⟩) (HZ.out.on (below_on BE.out h)))
              clear hx h0 h1 hxl
              subst ea
              go_upto_region 12 with (fail)
              clear f0
              have KS := Lib.hid (show ∀ W, Below wi.heap.size wi W → (W.cell? (a.add (u * 2)) = some (.int .i64 x.N) ∧ W.cell? ⟨(a.add (u * 2)).block, (a.add (u * 2)).off + 1, none⟩ = some (.slice x.a xl x.c) ∧ W.cell? (b.add (t * 2)) = some (.int .i64 z.N) ∧ W.cell? ⟨(b.add (t * 2)).block, (b.add (t * 2)).off + 1, none⟩ = some (.slice z.a zl z.c)) from fun W h => ⟨kept (below_on BE.out h) GX.out.1, kept (below_on BE.out h) GX.out.2, kept (below_on BE.out h) GZ.out.1, kept (below_on BE.out h) GZ.out.2⟩)
              obtain ⟨wc, hwc⟩ : ∃ wc, wc = wi.drew := ⟨_, rfl⟩
              have Bc := Lib.hid (show Below wi.heap.size wi wc by rw [hwc]; exact (Below.refl _ _).drew)
              refine wp_region_held_drew (S := (fun W => (W.cell? (a.add (u * 2)) = some (.int .i64 x.N) ∧ W.cell? ⟨(a.add (u * 2)).block, (a.add (u * 2)).off + 1, none⟩ = some (.slice x.a xl x.c) ∧ W.cell? (b.add (t * 2)) = some (.int .i64 z.N) ∧ W.cell? ⟨(b.add (t * 2)).block, (b.add (t * 2)).off + 1, none⟩ = some (.slice z.a zl z.c)))) (by kernel_rfl) (by rw [← hwc]; exact KS.out _ Bc.out) (fun h0 => ?_)
              rw [← hwc] at h0 ⊢
              clear hwc
              refine tkH (i := 0) (v := ?v1) rfl (Or.inl ⟨by rfl, ?hy1⟩) h0 ?rest1
              case hy1 => (intro w' hS; (try dsimp only at hS); go_simp; try (with_reducible rfl))
              simp only [Act.put, sA, sB, sD, sE, sF]
              refine tkH (i := 1) (v := ?v2) rfl (Or.inl ⟨by rfl, ?hy2⟩) h0 ?rest2
              case hy2 => (intro w' hS; (try dsimp only at hS); go_simp; try (with_reducible rfl))
              simp only [Act.put, sZ]
              refine tkH (i := 2) (v := ?v3) rfl (Or.inl ⟨by rfl, ?hy3⟩) h0 ?rest3
              case hy3 => (intro w' hS; (try dsimp only at hS); go_simp; try (with_reducible rfl))
              simp only [Act.put, sZ]
              refine tkH (i := 3) (v := ?v4) rfl (Or.inl ⟨by rfl, ?hy4⟩) h0 ?rest4
              case hy4 => (intro w' hS; (try dsimp only at hS); go_simp; try (with_reducible rfl))
              simp only [Act.put, sZ]
              refine tkH (i := 4) (v := ?v5) rfl (Or.inl ⟨by rfl, ?hy5⟩) h0 ?rest5
              case hy5 => (intro w' hS; (try dsimp only at hS); go_simp; try (with_reducible rfl))
              simp only [Act.put, sZ]
              refine tkH (i := 5) (v := ?v6) rfl (Or.inl ⟨by rfl, ?hy6⟩) h0 ?rest6
              case hy6 => (intro w' hS; (try dsimp only at hS); go_simp; try (with_reducible rfl))
              simp only [Act.put, sZ]
              refine tkH (i := 6) (v := ?v7) rfl (Or.inl ⟨by rfl, ?hy7⟩) h0 ?rest7
              case hy7 => (intro w' hS; (try dsimp only at hS); go_simp; try (with_reducible rfl))
              simp only [Act.put, sZ]
              refine tkH (i := 7) (v := ?v8) rfl (Or.inl ⟨by rfl, ?hy8⟩) h0 ?rest8
              case hy8 => (intro w' hS; (try dsimp only at hS); go_simp; try (with_reducible rfl))
              simp only [Act.put, sZ]
              refine tkH (i := 8) (v := ?v9) rfl (Or.inl ⟨by rfl, ?hy9⟩) h0 ?rest9
              case hy9 => (intro w' hS; (try dsimp only at hS); go_simp; try (with_reducible rfl))
              simp only [Act.put, sZ]
              refine wpAnyH_ready (rs := [9]) (by kernel_rfl) (by simp) (AllReadyH.cons rfl (fun K hK => ?_) AllReadyH.nil)
              rw [if_pos (by rfl)]
              go_simp
              refine (CU.out wc Bc.out).mono ?_
              rintro e wx ⟨rfl, hmk, _, hbx⟩
              have MX := Lib.hid hmk
              have BX := Lib.hid (show Below wo.heap.size wo wx from BE.out.trans ((Bc.out.mono BE.out.size).trans (hbx.mono (Nat.le_of_eq HQ.out.symm))))
              clear hmk hbx
              go_simp
              refine hK.out _ _ ⟨kept BX.out GX.out.1, kept BX.out GX.out.2, kept BX.out GZ.out.1, kept BX.out GZ.out.2⟩ (fun h0_1 => ?_)
              clear hK K h0
              try simp only [sF]
              try simp only [sE]
              refine wpAnyH_done (by kernel_rfl) ?_ _
              try simp only [Exit.then]
              have ES := Lib.hid (woC_step HUT.out EQ.out)
              rw [XP.out] at ES
              clear Bc KS f1
              go_wp2_with fail
              go_roundw
              case rel => exact ⟨u + 1, by go_num, by omega, Lib.hid ⟨_, MX.out, BX.out, ES.out⟩⟩
              case measure => simp [intOf]; omega
            · have hb1 : (bad == 0) = false := by simpa using hb0
              have FIN := Lib.hid (show EqS s (woC z.p cs (L0.map ZV.p)) by have := EQ.out; rw [addQ_bad (by rw [← HBD.out]; exact hb0)] at this; exact this)
              have hb2 : (bad != 0) = true := by simpa using hb0
              have HB0 := Lib.hid hb0
              clear hb0
              go_wp2_with fail
              have FE := Lib.hid (show RfRes (minR (L.map ZV.p) (M.map ZV.p)) w (.returned (.tuple #[.slice none 0 0, .int .i64 bad])) wi.drew from by
                have e : (minR (L.map ZV.p) (M.map ZV.p)).2 = bad := by rw [EV.out, (MG.out s FIN.out).2 (by rw [← HBD.out]; exact HB0.out), HBD.out]
                exact ⟨(below_on B0.out BE.out).drew, none, 0, [], by rw [e]; rfl, OwnZ.nil _ _ _, by rw [e, if_neg HB0.out]; rfl, by simp⟩)
              go_region
              all_goals (
                go_wp2_with fail
                go_ret2
                exact FE.out)
          · have e : (L0.map ZV.p).drop u = [] := List.drop_eq_nil_of_le (by have := HK.out; simp; omega)
            have FIN := Lib.hid (show EqS s (woC z.p cs (L0.map ZV.p)) by have := EQ.out; rw [e, show woC z.p cs [] = ([], 0) from rfl, addQ_nil] at this; exact this)
            clear e
            by_cases hb0 : bad = 0
            · have hb2 : (bad != 0) = false := by simp [hb0]
              have HB0 := Lib.hid (HBD.out.symm.trans hb0)
              clear hb0
              go_wp2_with fail
              repeat (first | (refine ⟨fun f h => (by cases h), ?_⟩; try go_wp2_with fail))
              go_roundw
              case rel => exact ⟨t + 1, vo, vc, vl, rfl, by go_num, by omega, by have := VL.out; omega, Lib.hid ⟨mL, HVL.out, VN.out, VR.out, below_on B0.out BE.out, by rw [M3.out HB0.out]; exact (MG.out s FIN.out).1 HB0.out⟩⟩
              case measure => simp [intOf]; omega
            · have hb2 : (bad != 0) = true := by simpa using hb0
              have HB0 := Lib.hid hb0
              clear hb0
              go_wp2_with fail
              repeat (first | (refine ⟨fun f h => (by cases h), ?_⟩; try go_wp2_with fail))
              have FE := Lib.hid (show RfRes (minR (L.map ZV.p) (M.map ZV.p)) w (.returned (.tuple #[.slice none 0 0, .int .i64 bad])) wi.drew from by
                have e : (minR (L.map ZV.p) (M.map ZV.p)).2 = bad := by rw [EV.out, (MG.out s FIN.out).2 (by rw [← HBD.out]; exact HB0.out), HBD.out]
                exact ⟨(below_on B0.out BE.out).drew, none, 0, [], by rw [e]; rfl, OwnZ.nil _ _ _, by rw [e, if_neg HB0.out]; rfl, by simp⟩)
              go_region
              all_goals (
                go_wp2_with fail
                go_ret2
                exact FE.out)
      · have e : (M.map ZV.p).drop t = [] := List.drop_eq_nil_of_le (by have := HM.out; simp; omega)
        have mn := MN.out
        rw [e] at mn
        have E1 := Lib.hid (show minR (L.map ZV.p) (M.map ZV.p) = (L0.map ZV.p, 0) by
          have h2 := EV.out
          rw [← mn] at h2
          have h1 : (minR (L.map ZV.p) (M.map ZV.p)).1 = L0.map ZV.p := by unfold minR; rw [← mn]; rfl
          exact Prod.ext h1 h2)
        clear e mn
        have FIN := Lib.hid (show ∀ (v' : Value) (w9 : World), Below wo.heap.size wo w9 → w9.ownsRow wo.heap.size 36 2 v' L0.length (zV L0) → RfRes (minR (L.map ZV.p) (M.map ZV.p)) w (.returned (.tuple #[v', .int .i64 0])) w9 from fun v' w9 h1 h2 => by
          have o : OwnZ wo.heap.size 0 w9 v' L0 := ⟨h2, fun y hy => (R0.out.el y hy).on h1, fun y hy p e r => by
            have := (World.ownsRow.lt h2 _ r).1
            have := ((R0.out.el y hy).2 p e).2
            omega⟩
          obtain ⟨ao, cap, e⟩ := o.form
          subst e
          exact ⟨below_on B0.out h1, ao, cap, L0, by rw [E1.out], o.low B0.out.size (Nat.le_refl _), by rw [E1.out]; simp, by have := HK.out; omega⟩)
        cases ao with
        | none =>
          have c0 : cap = 0 := HAO.out rfl
          have k0 : k = 0 := by
            by_cases e : k = 0
            · exact e
            · obtain ⟨p, e2, _⟩ := R0.out.hd 0 (by have := HK.out; omega)
              cases e2
          subst c0 k0
          have OM := World.ownsRow_made (base := wo.heap.size) (e := 36) (size := 2) wo #[] 0 (Nat.le_refl _) (Nat.zero_le _) (by simp)
          have L00 : L0 = [] := List.eq_nil_of_length_eq_zero HK.out.symm
          have FE := Lib.hid (FIN.out (.slice (some ⟨wo.heap.size, 0, none⟩) 0 0) (wo.alloc (.cells #[] 36)) (one_more _) (by rw [L00]; exact OM))
          have HRUN := Lib.hid (run_append_owned_none (P := Tryz.prog) _ wo.heap.size 22 22 36 i0 2 Tryz.underlying22 hi _ _ _ OM)
          clear OM L00
          go_wp2_with (at_builtin; (refine Lib.wpList_append_run _ rfl _ _ _ _ rfl _ _ rfl rfl _ _ HRUN.out ?_))
          go_wp2_with fail
          go_ret2
          exact FE.out
        | some a =>
          have RC := Lib.hid (R0.out.on (one_more (.cells #[] 36)))
          have LC := Lib.hid (show (zV L0).length = k * 2 by rw [zV_len, HK.out])
          go_wp2_with (at_builtin; refine wpList_append_own _ rfl _ _ 22 rfl wo.heap.size 36 i0 (.agg #[.int .i64 0, .slice none 0 0]) 2 32 Tryz.underlying22 hi hz0 hz1 hz2 rfl (by decide) _ _ _ rfl (World.ownsRow_made wo #[] 0 (Nat.le_refl _) (Nat.zero_le _) (by simp)) a k cap (zV L0) rfl ?qc1 ?qc2 ?qc3 ?qc4 ?qc5 ?qc6 ?_)
          case qc1 => exact LC.out
          case qc2 => exact RdZ.cells RC.out
          case qc3 => exact zV_one _
          case qc4 => unfold maxLen; omega
          case qc5 => omega
          case qc6 => simp
          intro v' w9 hown9 hgrow _
          have B9 := Lib.hid (show Below wo.heap.size wo w9 from ((Below.refl _ wo).alloc (Nat.le_refl _) _).grown hgrow (by simp) (by intro k hk; simp [Value.ownBlock] at hk; omega))
          have FE := Lib.hid (FIN.out v' w9 B9.out (by have := hown9; rw [HK.out] at this; simpa using this))
          clear hown9 hgrow
          go_wp2_with fail
          go_ret2
          exact FE.out
  · have h0b : (c != 0) = true := by simpa using h0
    have FIN := Lib.hid (show RfRes (minR (L.map ZV.p) (M.map ZV.p)) w (.returned (.tuple #[.slice none 0 0, .int .i64 c])) w1 from by
      have e : (minR (L.map ZV.p) (M.map ZV.p)).2 = c := by unfold minR ansE; rw [← HC.out, if_neg h0]
      exact ⟨B1.out, none, 0, [], by rw [e]; rfl, OwnZ.nil _ _ _, by rw [e, if_neg h0]; rfl, by simp⟩)
    clear h0
    go_wp2_with fail
    go_ret2
    exact FIN.out
end Go.Proofs.YtaegiihkgicdnaaGreat
