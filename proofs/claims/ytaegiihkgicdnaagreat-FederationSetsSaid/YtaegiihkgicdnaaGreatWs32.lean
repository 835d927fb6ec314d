/- told, Check and both of layer 5's reference.; cut of layer 5's reference: the mathematics, and what its walk stands on. -/
import Derived.Test.YtaegiihkgicdnaaGreatWs9
import Derived.Test.YtaegiihkgicdnaaGreatWs31
import Derived.Test.YtaegiihkgicdnaaGreatWs24

namespace Go.Proofs.YtaegiihkgicdnaaGreat
open Go.RowKit

def TdRes (R : Nat) (N : Nat → Prop) (w : World) (s : Sq) (e : Ending) (w' : World) : Prop :=
  Below w.heap.size w w' ∧ ∃ ao cap L, e = .returned (.tuple #[.slice ao L.length cap, .int .i64 (colE s.1 s.2)]) ∧ OwnZ R 0 w' (.slice ao L.length cap) L ∧ L.map ZV.p = (if colE s.1 s.2 = 0 then s.1 else []) ∧ L.length ≤ 2001 ∧ ∀ z ∈ L, ∀ p, z.a = some p → ¬ N p.block

set_option maxRecDepth 20000 in
theorem told_any (R q : Nat) (P N : Nat → Prop) (s : Sq) (w : World) (h : Mk R q P N w s) : Calls Tryz.prog 46 #[.pointer (some ⟨q, 0, none⟩)] w (TdRes R N w s) := by
  obtain ⟨v, L, h1, h2, h3, h4, h5, h6, h7, h8⟩ := h
  obtain ⟨ao, cap, ev⟩ := h2.form
  subst ev
  have rz := h2
  obtain ⟨q0, q1, _, _⟩ := h1.facts
  obtain ⟨c, hc⟩ : ∃ c, c = colE s.1 s.2 := ⟨_, rfl⟩
  have HC := Lib.hid hc
  rw [← hc] at q1 h3
  have RZ := Lib.hid rz
  have H3 := Lib.hid h3
  have H4 := Lib.hid h4
  have H8 := Lib.hid h8
  have KD := Lib.hid (show Below w.heap.size w w.drew from (Below.refl _ _).drew)
  clear h1 h2 h3 h5 h6 h7 h8 rz hc
  by_cases h0 : c = 0
  · have hb : (c != 0) = false := by simp [h0]
    have CZ := Lib.hid h0
    clear h0
    obtain ⟨n, hn⟩ : ∃ n, n = L.length := ⟨_, rfl⟩
    have HN := Lib.hid hn
    rw [← hn] at q0
    clear hn h4
    go_enter Tryz.func46, Tryz.ntmps46
    go_wp2_with fail
    go_ret2
    refine ⟨Below.refl _ _, ao, cap, L, by rw [← HC.out, CZ.out, HN.out]; rfl, RZ.out, by rw [← HC.out, if_pos CZ.out]; exact H3.out CZ.out, H4.out, H8.out⟩
  · have hb : (c != 0) = true := by simpa using h0
    have CZ := Lib.hid h0
    clear h0 h4
    go_enter Tryz.func46, Tryz.ntmps46
    go_wp2_with fail
    go_region
    all_goals (
      go_wp2_with fail
      go_ret2
      exact ⟨KD.out, none, 0, [], by rw [← HC.out]; rfl, OwnZ.nil _ _ _, by rw [← HC.out, if_neg CZ.out]; rfl, by simp, by simp⟩)

def rchk (L : List Zp) : Int := if 2000 < L.length then 3 else ckL L

set_option maxRecDepth 100000 in
set_option maxHeartbeats 8000000 in
theorem rcheck_any (L : List ZV) (go : Option Addr) (gc : Nat) (w : World) (hL : RdZ 0 w go L) (hl : L.length ≤ 1000000) :
    Calls Tryz.prog 12 #[.slice go L.length gc] w (Made (.int .i64 (rchk (L.map ZV.p))) w) := by
  have RR := Lib.hid hL
  obtain ⟨n, hn⟩ : ∃ n, n = L.length := ⟨_, rfl⟩
  have HN := Lib.hid hn
  have hle : n ≤ 1000000 := by omega
  rw [← hn]
  clear hL hl hn
  by_cases h2 : 2000 < n
  · have h2b : (2000 : Int) < n := by omega
    have EV := Lib.hid (show rchk (L.map ZV.p) = 3 by unfold rchk; rw [if_pos (by rw [List.length_map, ← HN.out]; exact h2)])
    go_enter Tryz.func12, Tryz.ntmps12
    go_wp2_with fail
    go_ret
    refine ⟨?_, Below.refl _ _⟩
    rw [EV.out]; rfl
  · have h2b : ¬ (2000 : Int) < n := by omega
    have EV := Lib.hid (show rchk (L.map ZV.p) = ckL (L.map ZV.p) by unfold rchk; rw [if_neg (by rw [List.length_map, ← HN.out]; exact h2)])
    clear h2
    go_enter Tryz.func12, Tryz.ntmps12
    go_wp2_with fail
    go_loopw [3] (fun s wr => ∃ t : Nat, t ≤ n ∧ s = .int .i64 t ∧ Hid (Below w.heap.size w wr ∧ RdZ 0 wr go L) ∧ Hid (∀ i, ∀ h : i < (L.map ZV.p).length, i < t → ckZ ((L.map ZV.p).headD (0, [])) (L.map ZV.p)[i] = true)) (fun s _ => n - (intOf s).toNat)
    case atStart => exact ⟨0, by omega, rfl, Lib.hid ⟨Below.refl _ _, RR.out⟩, Lib.hid (fun i h q => by omega)⟩
    case round =>
      generalize wr = wo at *
      obtain ⟨t, ht, rfl, HB, HF⟩ := hrel
      by_cases htn : t < n
      · have hlt : t < L.length := by have := HN.out; omega
        have HLT := Lib.hid (show t < (L.map ZV.p).length by simpa using hlt)
        obtain ⟨a, ea, h0, h1⟩ := HB.out.2.hd t hlt
        obtain ⟨a', ea', g0, g1⟩ := HB.out.2.hd 0 (by omega)
        have eaa : a' = a := by rw [ea] at ea'; injection ea' with e; exact e.symm
        subst eaa
        rw [add_nil2] at g0
        obtain ⟨z, hz⟩ : ∃ z, z = L[t] := ⟨_, rfl⟩
        obtain ⟨y, hy⟩ : ∃ y, y = L[0]'(by omega) := ⟨_, rfl⟩
        have HM1 := Lib.hid (HB.out.2.el z (by rw [hz]; exact List.getElem_mem _))
        have ZP := Lib.hid (show (L.map ZV.p)[t]'HLT.out = z.p by rw [hz]; simp)
        have YP := Lib.hid (show (L.map ZV.p).headD (0, []) = y.p by rw [hy]; exact head_p L _)
        rw [← hz] at h0 h1
        rw [← hy] at g0
        obtain ⟨zl, hzl⟩ : ∃ zl, zl = z.l.length := ⟨_, rfl⟩
        rw [← hzl] at h1
        have CZ := Lib.hid (show ∀ W, ZAt 0 W z → Calls Tryz.prog 39 #[.agg #[.int .i64 z.N, .slice z.a zl z.c]] W (Made (.int .i64 (chkE z.N z.l)) W) from fun W h => by rw [hzl]; exact check_gen z.N z.l z.a z.c W h.1)
        have n0 : 0 < n := by omega
        obtain ⟨ce, hce⟩ : ∃ ce, ce = chkE z.N z.l := ⟨_, rfl⟩
        have CE := Lib.hid hce
        rw [← hce] at CZ
        have X2 := Lib.hid (show wo.cell? (a'.add (t * 2)) = some (.int .i64 z.N) ∧ wo.cell? ⟨(a'.add (t * 2)).block, (a'.add (t * 2)).off + 1, none⟩ = some (.slice z.a zl z.c) ∧ wo.cell? a' = some (.int .i64 y.N) from ⟨h0, h1, g0⟩)
        clear hz hy g1 hlt hzl ea' hce h0 h1 g0
        subst ea
        go_upto_region 6 with (fail)
        by_cases hc : ce = 0
        · have hc2 : (ce != 0) = false := by simp [hc]
          have KS := Lib.hid (show ∀ W, Below wo.heap.size wo W → (W.cell? (a'.add (t * 2)) = some (.int .i64 z.N) ∧ W.cell? ⟨(a'.add (t * 2)).block, (a'.add (t * 2)).off + 1, none⟩ = some (.slice z.a zl z.c) ∧ W.cell? a' = some (.int .i64 y.N)) from fun W h => ⟨kept h X2.out.1, kept h X2.out.2.1, kept h X2.out.2.2⟩)
          obtain ⟨wc, hwc⟩ : ∃ wc, wc = wo.drew := ⟨_, rfl⟩
          have Bc := Lib.hid (show Below wo.heap.size wo wc by rw [hwc]; exact (Below.refl _ _).drew)
          refine wp_region_held_drew (S := (fun W => (W.cell? (a'.add (t * 2)) = some (.int .i64 z.N) ∧ W.cell? ⟨(a'.add (t * 2)).block, (a'.add (t * 2)).off + 1, none⟩ = some (.slice z.a zl z.c) ∧ W.cell? a' = some (.int .i64 y.N)))) (by kernel_rfl) (by rw [← hwc]; exact KS.out _ Bc.out) (fun h0 => ?_)
          rw [← hwc] at h0 ⊢
          clear hwc
          refine tkH (i := 0) (v := ?v1) rfl (Or.inl ⟨by rfl, ?hy1⟩) h0 ?rest1
          case hy1 => (intro w' hS; (try dsimp only at hS); go_simp; try (with_reducible rfl))
          simp only [Act.put, sA, sB, sD, sE, sF]
          refine tkH (i := 1) (v := ?v2) rfl (Or.inl ⟨by rfl, ?hy2⟩) h0 ?rest2
          case hy2 => (intro w' hS; (try dsimp only at hS); go_simp; try (with_reducible rfl))
          simp only [Act.put, sZ]
          refine tkH (i := 2) (v := ?v3) rfl (Or.inl ⟨by rfl, ?hy3⟩) h0 ?rest3
          case hy3 => (intro w' hS; (try dsimp only at hS); go_simp; try (with_reducible rfl))
          simp only [Act.put, sZ]
          refine tkH (i := 3) (v := ?v4) rfl (Or.inl ⟨by rfl, ?hy4⟩) h0 ?rest4
          case hy4 => (intro w' hS; (try dsimp only at hS); go_simp; try (with_reducible rfl))
          simp only [Act.put, sZ]
          refine wpAnyH_ready (rs := [4]) (by kernel_rfl) (by simp) (AllReadyH.cons rfl (fun K hK => ?_) AllReadyH.nil)
          rw [if_pos (by rfl)]
          go_simp
          refine (CZ.out wc (HM1.out.on Bc.out)).mono ?_
          rintro e wd ⟨rfl, hb⟩
          have Bc := Lib.hid (below_on Bc.out hb)
          clear hb
          obtain ⟨wc, hwc⟩ : ∃ wc, wc = wd := ⟨_, rfl⟩
          rw [← hwc] at Bc ⊢
          clear hwc
          go_simp
          refine hK.out _ _ (KS.out _ Bc.out) (fun h0_1 => ?_)
          clear hK K h0
          refine tkH (i := 5) (v := ?v5) rfl (Or.inl ⟨by rfl, ?hy5⟩) h0_1 ?rest5
          case hy5 => (intro w' hS; (try dsimp only at hS); go_simp; try (with_reducible rfl))
          simp only [Act.put, sZ]
          refine tkH (i := 6) (v := ?v6) rfl (Or.inl ⟨by rfl, ?hy6⟩) h0_1 ?rest6
          case hy6 => (intro w' hS; (try dsimp only at hS); go_simp; try (with_reducible rfl))
          simp only [Act.put, sZ]
          refine tkH (i := 7) (v := ?v7) rfl (Or.inl ⟨by rfl, ?hy7⟩) h0_1 ?rest7
          case hy7 => (intro w' hS; (try dsimp only at hS); go_simp; try (with_reducible rfl))
          simp only [Act.put, sZ]
          refine tkH (i := 8) (v := ?v8) rfl (Or.inl ⟨by rfl, ?hy8⟩) h0_1 ?rest8
          case hy8 => (intro w' hS; (try dsimp only at hS); go_simp; try (with_reducible rfl))
          simp only [Act.put, sZ]
          refine tkH (i := 9) (v := ?v9) rfl (Or.inl ⟨by rfl, ?hy9⟩) h0_1 ?rest9
          case hy9 => (intro w' hS; (try dsimp only at hS); go_simp; try (with_reducible rfl))
          simp only [Act.put, sZ]
          refine tkH (i := 10) (v := ?v10) rfl (Or.inl ⟨by rfl, ?hy10⟩) h0_1 ?rest10
          case hy10 => (intro w' hS; (try dsimp only at hS); go_simp; try (with_reducible rfl))
          simp only [Act.put, sZ]
          refine tkH (i := 11) (v := ?v11) rfl (Or.inl ⟨by rfl, ?hy11⟩) h0_1 ?rest11
          case hy11 => (intro w' hS; (try dsimp only at hS); go_simp; try (with_reducible rfl))
          simp only [Act.put, sZ]
          refine tkH (i := 12) (v := ?v12) rfl (Or.inl ⟨by rfl, ?hy12⟩) h0_1 ?rest12
          case hy12 => (intro w' hS; (try dsimp only at hS); go_simp; try (with_reducible rfl))
          simp only [Act.put, sZ]
          refine tkH (i := 13) (v := ?v13) rfl (Or.inl ⟨by rfl, ?hy13⟩) h0_1 ?rest13
          case hy13 => (intro w' hS; (try dsimp only at hS); go_simp; try (with_reducible rfl))
          simp only [Act.put, sZ]
          refine tkH (i := 14) (v := ?v14) rfl (Or.inl ⟨by rfl, ?hy14⟩) h0_1 ?rest14
          case hy14 => (intro w' hS; (try dsimp only at hS); go_simp; try (with_reducible rfl))
          simp only [Act.put, sZ]
          refine tkH (i := 15) (v := ?v15) rfl (Or.inl ⟨by rfl, ?hy15⟩) h0_1 ?rest15
          case hy15 => (intro w' hS; (try dsimp only at hS); go_simp; try (with_reducible rfl))
          simp only [Act.put, sZ]
          refine tkH (i := 16) (v := ?v16) rfl (Or.inl ⟨by rfl, ?hy16⟩) h0_1 ?rest16
          case hy16 => (intro w' hS; (try dsimp only at hS); go_simp; try (with_reducible rfl))
          simp only [Act.put, sZ]
          refine tkH (i := 17) (v := ?v17) rfl (Or.inl ⟨by rfl, ?hy17⟩) h0_1 ?rest17
          case hy17 => (intro w' hS; (try dsimp only at hS); go_simp; try (with_reducible rfl))
          simp only [Act.put, sA, sB, sC, sD]
          try simp only [sF]
          try simp only [sE]
          refine wpAnyH_done (by kernel_rfl) ?_ _
          simp only [Exit.then]
          have BB := Lib.hid Bc.out
          have HC := Lib.hid hc
          by_cases hN : z.N = y.N
          · have hN2 : (z.N != y.N) = false := by simp [hN]
            have HNN := Lib.hid hN
            clear hN hc
            go_wp2_with fail
            go_roundw
            case rel => exact ⟨t + 1, by omega, by go_num, Lib.hid ⟨below_on HB.out.1 BB.out, HB.out.2.on BB.out⟩, Lib.hid fun i h q => by
              by_cases e : i = t
              · subst e
                rw [ZP.out, YP.out]
                exact ckZ_yes (by rw [← CE.out]; exact HC.out) HNN.out
              · exact HF.out i h (by omega)⟩
            case measure => simp [intOf]; omega
          · have hN2 : (z.N != y.N) = true := by simpa using hN
            have HNN := Lib.hid hN
            clear hN hc
            go_wp2_with fail
            go_ret
            refine ⟨?_, below_on HB.out.1 BB.out⟩
            have : ckL (L.map ZV.p) = 2 := ckL_bad HLT.out (by rw [ZP.out, YP.out]; first | exact ckZ_no2 HNN.out | exact ckZ_no1 (by rw [← CE.out]; exact HC.out))
            rw [EV.out, this]
            rfl
        · have hc2 : (ce != 0) = true := by simpa using hc
          have KS := Lib.hid (show ∀ W, Below wo.heap.size wo W → (W.cell? (a'.add (t * 2)) = some (.int .i64 z.N) ∧ W.cell? ⟨(a'.add (t * 2)).block, (a'.add (t * 2)).off + 1, none⟩ = some (.slice z.a zl z.c) ∧ W.cell? a' = some (.int .i64 y.N)) from fun W h => ⟨kept h X2.out.1, kept h X2.out.2.1, kept h X2.out.2.2⟩)
          obtain ⟨wc, hwc⟩ : ∃ wc, wc = wo.drew := ⟨_, rfl⟩
          have Bc := Lib.hid (show Below wo.heap.size wo wc by rw [hwc]; exact (Below.refl _ _).drew)
          refine wp_region_held_drew (S := (fun W => (W.cell? (a'.add (t * 2)) = some (.int .i64 z.N) ∧ W.cell? ⟨(a'.add (t * 2)).block, (a'.add (t * 2)).off + 1, none⟩ = some (.slice z.a zl z.c) ∧ W.cell? a' = some (.int .i64 y.N)))) (by kernel_rfl) (by rw [← hwc]; exact KS.out _ Bc.out) (fun h0 => ?_)
          rw [← hwc] at h0 ⊢
          clear hwc
          refine tkH (i := 0) (v := ?v18) rfl (Or.inl ⟨by rfl, ?hy18⟩) h0 ?rest18
          case hy18 => (intro w' hS; (try dsimp only at hS); go_simp; try (with_reducible rfl))
          simp only [Act.put, sA, sB, sD, sE, sF]
          refine tkH (i := 1) (v := ?v19) rfl (Or.inl ⟨by rfl, ?hy19⟩) h0 ?rest19
          case hy19 => (intro w' hS; (try dsimp only at hS); go_simp; try (with_reducible rfl))
          simp only [Act.put, sZ]
          refine tkH (i := 2) (v := ?v20) rfl (Or.inl ⟨by rfl, ?hy20⟩) h0 ?rest20
          case hy20 => (intro w' hS; (try dsimp only at hS); go_simp; try (with_reducible rfl))
          simp only [Act.put, sZ]
          refine tkH (i := 3) (v := ?v21) rfl (Or.inl ⟨by rfl, ?hy21⟩) h0 ?rest21
          case hy21 => (intro w' hS; (try dsimp only at hS); go_simp; try (with_reducible rfl))
          simp only [Act.put, sZ]
          refine wpAnyH_ready (rs := [4]) (by kernel_rfl) (by simp) (AllReadyH.cons rfl (fun K hK => ?_) AllReadyH.nil)
          rw [if_pos (by rfl)]
          go_simp
          refine (CZ.out wc (HM1.out.on Bc.out)).mono ?_
          rintro e wd ⟨rfl, hb⟩
          have Bc := Lib.hid (below_on Bc.out hb)
          clear hb
          obtain ⟨wc, hwc⟩ : ∃ wc, wc = wd := ⟨_, rfl⟩
          rw [← hwc] at Bc ⊢
          clear hwc
          go_simp
          refine hK.out _ _ (KS.out _ Bc.out) (fun h0_1 => ?_)
          clear hK K h0
          refine tkH (i := 5) (v := ?v22) rfl (Or.inl ⟨by rfl, ?hy22⟩) h0_1 ?rest22
          case hy22 => (intro w' hS; (try dsimp only at hS); go_simp; try (with_reducible rfl))
          simp only [Act.put, sZ]
          refine tkH (i := 6) (v := ?v23) rfl (Or.inl ⟨by rfl, ?hy23⟩) h0_1 ?rest23
          case hy23 => (intro w' hS; (try dsimp only at hS); go_simp; try (with_reducible rfl))
          simp only [Act.put, sZ]
          refine tkH (i := 7) (v := undef) rfl (Or.inr ⟨by rfl, rfl⟩) h0_1 ?_
          simp only [Act.put, sZ]
          refine tkH (i := 8) (v := undef) rfl (Or.inr ⟨by rfl, rfl⟩) h0_1 ?_
          simp only [Act.put, sZ]
          refine tkH (i := 9) (v := undef) rfl (Or.inr ⟨by rfl, rfl⟩) h0_1 ?_
          simp only [Act.put, sZ]
          refine tkH (i := 10) (v := undef) rfl (Or.inr ⟨by rfl, rfl⟩) h0_1 ?_
          simp only [Act.put, sZ]
          refine tkH (i := 11) (v := undef) rfl (Or.inr ⟨by rfl, rfl⟩) h0_1 ?_
          simp only [Act.put, sZ]
          refine tkH (i := 12) (v := undef) rfl (Or.inr ⟨by rfl, rfl⟩) h0_1 ?_
          simp only [Act.put, sZ]
          refine tkH (i := 13) (v := undef) rfl (Or.inr ⟨by rfl, rfl⟩) h0_1 ?_
          simp only [Act.put, sZ]
          refine tkH (i := 14) (v := undef) rfl (Or.inr ⟨by rfl, rfl⟩) h0_1 ?_
          simp only [Act.put, sZ]
          refine tkH (i := 15) (v := undef) rfl (Or.inr ⟨by rfl, rfl⟩) h0_1 ?_
          simp only [Act.put, sZ]
          refine tkH (i := 16) (v := undef) rfl (Or.inr ⟨by rfl, rfl⟩) h0_1 ?_
          simp only [Act.put, sZ]
          refine tkH (i := 17) (v := ?v34) rfl (Or.inl ⟨by rfl, ?hy34⟩) h0_1 ?rest34
          case hy34 => (intro w' hS; (try dsimp only at hS); go_simp; try (with_reducible rfl))
          simp only [Act.put, sA, sB, sC, sD]
          try simp only [sF]
          try simp only [sE]
          refine wpAnyH_done (by kernel_rfl) ?_ _
          simp only [Exit.then]
          have BB := Lib.hid Bc.out
          have HC := Lib.hid hc
          have HNN := Lib.hid hc
          clear hc
          go_wp2_with fail
          go_ret
          refine ⟨?_, below_on HB.out.1 BB.out⟩
          have : ckL (L.map ZV.p) = 2 := ckL_bad HLT.out (by rw [ZP.out, YP.out]; first | exact ckZ_no2 HNN.out | exact ckZ_no1 (by rw [← CE.out]; exact HC.out))
          rw [EV.out, this]
          rfl
      · have L0 := Lib.hid (show rchk (L.map ZV.p) = 0 by
          rw [EV.out]
          exact ckL_good fun i h => HF.out i h (by have := HN.out; simp at h; omega))
        clear HF
        go_wp2_with fail
        go_ret
        refine ⟨?_, HB.out.1⟩
        rw [L0.out]; rfl
end Go.Proofs.YtaegiihkgicdnaaGreat

namespace Go.Proofs.YtaegiihkgicdnaaGreat
open Go.RowKit

def EqS (s t : Sq) : Prop := colE s.1 s.2 = colE t.1 t.2 ∧ (colE s.1 s.2 = 0 → s.1 = t.1)

theorem EqS.refl (s : Sq) : EqS s s := ⟨rfl, fun _ => rfl⟩

theorem EqS.symm {s t : Sq} (h : EqS s t) : EqS t s := ⟨h.1.symm, fun e => (h.2 (h.1.trans e)).symm⟩

theorem EqS.trans {s t u : Sq} (h : EqS s t) (k : EqS t u) : EqS s u := ⟨h.1.trans k.1, fun e => (h.2 e).trans (k.2 (h.1.symm.trans e))⟩

theorem Mk.eqv {R q : Nat} {P N : Nat → Prop} {A : World} {s t : Sq} (h : Mk R q P N A s) (he : EqS s t) : Mk R q P N A t := by
  obtain ⟨v, L, h1, h2, h3, h4⟩ := h
  exact ⟨v, L, by rw [← he.1]; exact h1, h2, fun e => (h3 (he.1.trans e)).trans (he.2 (he.1.trans e)), h4⟩

def addQ (s t : Sq) : Sq := if colE s.1 s.2 = 0 then seqA s t else s

theorem addQ_bad {s t : Sq} (h : colE s.1 s.2 ≠ 0) : addQ s t = s := if_neg h

theorem addQ_ok {s t : Sq} (h : colE s.1 s.2 = 0) : addQ s t = seqA s t := if_pos h

theorem addS_eq (s : Sq) (r : Zp × Int) : addS s r = addQ s (emS r) := rfl

theorem addQ_nil (s : Sq) : addQ s ([], 0) = s := by unfold addQ; rw [seqA_nil]; split <;> rfl

theorem colE_seqA {s t : Sq} (h : colE s.1 s.2 ≠ 0) : EqS (seqA s t) s := by
  by_cases e : s.2 = 0
  · have hl : 2000 < s.1.length := by
      unfold colE at h
      by_cases q : 2000 < s.1.length
      · exact q
      · rw [if_neg q] at h; exact absurd e h
    have e1 : colE s.1 s.2 = 3 := by unfold colE; rw [if_pos hl]
    have e2 : colE (seqA s t).1 (seqA s t).2 = 3 := by
      rw [seqA_of e]
      unfold colE
      rw [if_pos (by simp; omega)]
    exact ⟨e2.trans e1.symm, fun q => by rw [e2] at q; cases q⟩
  · have : seqA s t = s := by unfold seqA; rw [if_neg e]
    rw [this]
    exact EqS.refl s

theorem addQ_seq (s t u : Sq) : EqS (addQ (addQ s t) u) (addQ s (seqA t u)) := by
  by_cases h : colE s.1 s.2 = 0
  · rw [addQ_ok h, addQ_ok h, ← seqA_assoc]
    by_cases k : colE (seqA s t).1 (seqA s t).2 = 0
    · rw [addQ_ok k]; exact EqS.refl _
    · rw [addQ_bad k]; exact (colE_seqA k).symm
  · rw [addQ_bad h, addQ_bad h, addQ_bad h]; exact EqS.refl _

theorem addQ_err {s : Sq} {e : Int} (h : colE s.1 s.2 = 0) (_he : e ≠ 0) : addQ s ([], e) = (s.1, e) ∧ colE s.1 e = e := by
  have h0 := colE_zero h
  rw [addQ_ok h, seqA_of h0.2, List.append_nil]
  exact ⟨rfl, by unfold colE; rw [if_neg (by omega)]⟩

theorem cut_step (s : Sq) (r : Zp) (c : Con) (cs : List Con) :
    EqS (addQ s (cutR r (c :: cs))) (addQ (addS s (anP r [opC c])) (if (anP r [c]).2 = 0 then cutR (anP r [c]).1 cs else ([], (anP r [c]).2))) := by
  rw [addS_eq]
  exact (addQ_seq s (emS (anP r [opC c])) _).symm

theorem con_cells (w : World) : (sizeOf 110).run Tryz.prog w = .ok 3 w := by
  obtain ⟨i0, hi, hz0, hz1, hz2⟩ := info_parts con_info
  simp [sizeOf, typeInfo, hi, hz1]

theorem run_cut_one (w : World) (a : Addr) (n c t : Nat) (ht : t < n) (hn : n ≤ c) : (Instr.slice 104 (.slice (some a) n c) (some (.int .i64 t)) (some (.int .i64 ((t : Int) + 1))) none).run Tryz.prog w = .ok (.slice (some (a.add (t * 3))) 1 (c - t)) w := by
  have he : Tryz.prog.elem 104 = 110 := by simp [Program.elem]
  rw [run_slice_lh w _ _ _ _ (by rw [he]; exact Tryz.underlying104) .i64 .i64 (t : Int) ((t : Int) + 1) (by omega) (by omega) (by omega), he, con_cells]
  simp only [Result.andThen_ok, sliced, Int.toNat_natCast]
  rw [if_neg (by omega), show ((t : Int) + 1).toNat = t + 1 by omega, show t + 1 - t = 1 by omega]
  rfl

theorem cutR_nil (r : Zp) : cutR r [] = ([], 0) := rfl

theorem yld_one {o : Oper} {ac : Act} {w : World} (s k j : Operand) (ho : o.op = .slice 104 s (some k) (some j) none) (a : Addr) (n c t : Nat) (hs : ac.eval s = .slice (some a) n c) (hk : ac.eval k = .int .i64 t) (hj : ac.eval j = .int .i64 ((t : Int) + 1)) (ht : t < n) (hn : n ≤ c) :
    (execOp ac.eval o).run Tryz.prog w = .ok (.value (.slice (some (a.add (t * 3))) 1 (c - t))) w := by
  have h := run_cut_one w a n c t ht hn
  have he : Tryz.prog.elem 104 = 110 := by simp [Program.elem]
  have h2 : (Instr.sliceAt 104 (.slice (some a) n c) (some (.int .i64 t)) (some (.int .i64 ((t : Int) + 1))) none).run Tryz.prog w = .ok (.slice (some (a.add (t * 3))) 1 (c - t)) w := by
    rw [run_sliceAt_slice w _ _ _ _ _ (by rw [he]; exact Tryz.underlying104)]; exact h
  unfold execOp
  simp only [ho, hs, hk, hj, Option.map_none, Option.map_some, Sem.run_bind, h2, Result.andThen_ok, Sem.run_pure]

theorem rlimNot_ok (x : Int) (W : World) (hx : I64 x) (he : spE x = 0) : Calls Tryz.prog 100 #[.int .i64 x] W (Still (.tuple #[.int .i64 (ntL x), .int .i64 0]) W) := by
  have := refLimNot_any x W hx; rw [he] at this; exact this

theorem Mk.lt' {R q : Nat} {P N : Nat → Prop} {A : World} {s : Sq} (h : Mk R q P N A s) {k : Nat} (p : P k) : k < A.heap.size := by
  obtain ⟨v, L, _, _, _, _, _, _, h7, _⟩ := h
  exact (h7 k p).2.2

def RcP (P : Nat → Prop) (q10 : Nat) (dao : Option Addr) (r : ZV) (k : Nat) : Prop := P k ∨ k = q10 ∨ (∃ p, dao = some p ∧ p.block = k) ∨ ∃ p, r.a = some p ∧ p.block = k

structure RcI (R q : Nat) (P N : Nat → Prop) (w : World) (q10 : Nat) (cs : List Con) (dao : Option Addr) (s : Sq) (r : ZV) (A : World) : Prop where
  mm : Mk R q (RcP P q10 dao r) (fun j => N j ∨ j = q10) A s
  bx : Bx2 A q10 (.int .i64 r.N) (.slice r.a r.l.length r.c) 36
  za : ZAt 0 A r
  ar : Arg3 A dao cs
  kp : Kept P w A
  be : Below R w A

structure RcF (R q : Nat) (P N : Nat → Prop) (q10 : Nat) (dao : Option Addr) : Prop where
  rq : R ≤ q
  r10 : R ≤ q10
  pq : ¬ P q10
  nq : ∀ j, N j → j < q10
  dq : ∀ p, dao = some p → p.block ≠ q10
section
variable {R q : Nat} {P N : Nat → Prop} {w : World} {q10 : Nat} {cs : List Con} {dao : Option Addr} {s : Sq} {r : ZV} {A B : World}

theorem RcI.on (h : RcI R q P N w q10 cs dao s r A) (f : RcF R q P N q10 dao) (hb : Below A.heap.size A B) : RcI R q P N w q10 cs dao s r B :=
  ⟨h.mm.on hb, h.bx.kept hb, h.za.on hb, h.ar.on hb, h.kp.trans (Kept.of_below hb P), h.be.trans (hb.mono (Nat.le_of_lt (Nat.lt_of_le_of_lt f.rq h.mm.lt)))⟩

theorem RcI.add (h : RcI R q P N w q10 cs dao s r A) (f : RcF R q P N q10 dao) (hb : Below A.heap.size A B) (z8 : ZV) (er : Int) (hz : ZAt A.heap.size B z8) :
    Calls Tryz.prog 44 #[.pointer (some ⟨q, 0, none⟩), z8.val, .int .i64 er] B (fun e C => e = .returned (.tuple #[]) ∧ RcI R q P N w q10 cs dao (addS s (z8.p, er)) r C) := by
  have hq := h.bx.lt
  have hR := h.mm.lt
  refine (radd_any R q (fun j => RcP P q10 dao r j ∨ ∃ p, z8.a = some p ∧ p.block = j) (fun j => N j ∨ j = q10) s z8 er B (h.mm.more hb ?_ fun j r => Or.inl r) f.rq ?_).mono ?_
  · rintro j (r | ⟨p, e, rfl⟩)
    · exact Or.inl r
    · exact Or.inr (hz.2 p e)
  · intro _
    refine ⟨hz.low (Nat.zero_le _), fun p e => ⟨Or.inr ⟨p, e, rfl⟩, ?_⟩⟩
    have := (hz.2 p e).1
    rintro (r | r)
    · have := f.nq _ r; omega
    · omega
  · rintro e C ⟨rfl, hm, hk, hB⟩
    exact ⟨rfl, hm.more (Below.refl _ _) (fun j r => Or.inl (Or.inl r)) (fun j r => Or.inl r),
      (h.bx.kept hb).keptK hk (Or.inl (Or.inr (Or.inl rfl))),
      (h.za.on hb).keptK hk (fun p e => Or.inl (Or.inr (Or.inr (Or.inr ⟨p, e, rfl⟩)))),
      (h.ar.on hb).keptK hk (fun p e => Or.inl (Or.inr (Or.inr (Or.inl ⟨p, e, rfl⟩)))),
      h.kp.trans ((Kept.of_below hb P).trans (hk.mono fun k _ r => Or.inl (Or.inl r))),
      h.be.trans ((hb.mono (Nat.le_of_lt (Nat.lt_of_le_of_lt f.rq hR))).trans hB)⟩

structure RcJ (R q : Nat) (P N : Nat → Prop) (w : World) (q10 : Nat) (cs : List Con) (dao : Option Addr) (s : Sq) (r z : ZV) (A : World) : Prop where
  ri : RcI R q P N w q10 cs dao s r A
  mm : Mk R q (fun j => RcP P q10 dao r j ∨ ∃ p, z.a = some p ∧ p.block = j) (fun j => N j ∨ j = q10) A s
  zz : ZAt 0 A z
  zq : ∀ p, z.a = some p → p.block ≠ q10

theorem RcI.next (h : RcI R q P N w q10 cs dao s r A) (f : RcF R q P N q10 dao) (hb : Below A.heap.size A B) (z : ZV) (hz : ZAt A.heap.size B z) : RcJ R q P N w q10 cs dao s r z B := by
  refine ⟨h.on f hb, h.mm.more hb ?_ fun j r => Or.inl r, hz.low (Nat.zero_le _), fun p e => ?_⟩
  · rintro j (r | ⟨p, e, rfl⟩)
    · exact Or.inl r
    · exact Or.inr (hz.2 p e)
  · have := (hz.2 p e).1
    have := h.bx.lt
    omega
variable {z : ZV}

theorem RcJ.fail {t : Sq} {er : Int} (h : RcJ R q P N w q10 cs dao s r z A) (f : RcF R q P N q10 dao) (ht : colE t.1 t.2 = er) (h0 : er ≠ 0) : RcJ R q P N w q10 cs dao t r z (A.setCell ⟨q, 1, none⟩ (.int .i64 er)) := by
  obtain ⟨m, k⟩ := h.mm.fail ht h0
  refine ⟨⟨m.more (Below.refl _ _) (fun j r => Or.inl (Or.inl r)) (fun j r => Or.inl r),
      h.ri.bx.keptK k (Or.inl (Or.inr (Or.inl rfl))),
      h.ri.za.keptK k (fun p e => Or.inl (Or.inr (Or.inr (Or.inr ⟨p, e, rfl⟩)))),
      h.ri.ar.keptK k (fun p e => Or.inl (Or.inr (Or.inr (Or.inl ⟨p, e, rfl⟩)))),
      h.ri.kp.trans (k.mono fun k _ r => Or.inl (Or.inl r)),
      h.ri.be.setCell (p := ⟨q, 1, none⟩) f.rq _⟩, m, h.zz.keptK k (fun p e => Or.inr ⟨p, e, rfl⟩), h.zq⟩

theorem RcJ.put (h : RcJ R q P N w q10 cs dao s r z A) (f : RcF R q P N q10 dao) : RcI R q P N w q10 cs dao s z ((A.setCell ⟨q10, 0, none⟩ (.int .i64 z.N)).setCell ⟨q10, 1, none⟩ (.slice z.a z.l.length z.c)) := by
  have k : Kept (fun j => j ≠ q10) A ((A.setCell ⟨q10, 0, none⟩ (.int .i64 z.N)).setCell ⟨q10, 1, none⟩ (.slice z.a z.l.length z.c)) :=
    (kept_at (S := fun j => j ≠ q10) A ⟨q10, 0, none⟩ _ (fun r => r rfl)).trans (kept_at _ ⟨q10, 1, none⟩ _ (fun r => r rfl))
  have m := h.mm.keptK k (fun j r => by
    have e : j = q10 := Classical.byContradiction r
    rw [e]
    exact ⟨Or.inl (Or.inr (Or.inl rfl)), Or.inr rfl⟩)
  refine ⟨m.more (Below.refl _ _) (fun j r => Or.inl ?_) (fun j r => Or.inl r), h.ri.bx.put _ _, h.zz.keptK k (fun p e => h.zq p e), h.ri.ar.keptK k (fun p e => f.dq p e),
    h.ri.kp.trans (k.mono fun j _ r e => f.pq (e ▸ r)), (h.ri.be.setCell (p := ⟨q10, 0, none⟩) f.r10 _).setCell (p := ⟨q10, 1, none⟩) f.r10 _⟩
  rcases r with r | r | r | r
  · exact Or.inl (Or.inl r)
  · exact Or.inl (Or.inr (Or.inl r))
  · exact Or.inl (Or.inr (Or.inr (Or.inl r)))
  · exact Or.inr r
end

theorem addS_same {s : Sq} {r : Zp × Int} {z : Zp} {e : Int} (he : e = r.2) (hz : e = 0 → z = r.1) : addS s (z, e) = addS s r := by
  obtain ⟨r1, r2⟩ := r
  simp only at he hz
  subst he
  by_cases h : e = 0
  · rw [hz h]
  · rw [addS_eq, addS_eq]
    congr 1
    unfold emS oneS
    simp [h]

theorem cut_go {s1 t : Sq} {g : Zp × Int} {z : Zp} {e : Int} {cs : List Con} (he : e = g.2) (hz : e = 0 → z = g.1) (h : EqS (addQ s1 (if g.2 = 0 then cutR g.1 cs else ([], g.2))) t) :
    (e = 0 → EqS (addQ s1 (cutR z cs)) t) ∧ (e ≠ 0 → colE s1.1 s1.2 = 0 → EqS (addQ (s1.1, e) (cutR z cs)) t ∧ colE s1.1 e = e) ∧ (e ≠ 0 → colE s1.1 s1.2 ≠ 0 → EqS (addQ s1 (cutR z cs)) t) := by
  rw [← he] at h
  refine ⟨fun q => ?_, fun q k => ?_, fun q k => ?_⟩
  · rw [if_pos q, ← hz q] at h; exact h
  · rw [if_neg q] at h
    obtain ⟨a1, a2⟩ := addQ_err k q
    rw [a1] at h
    refine ⟨?_, a2⟩
    rw [addQ_bad (s := (s1.1, e)) (by show colE s1.1 e ≠ 0; rw [a2]; exact q)]
    exact h
  · rw [addQ_bad k] at h ⊢
    exact h

theorem spot_add (d : Addr) (n : Nat) (h : d.spot = none) : (d.add n).spot = none := by obtain ⟨b, o, s⟩ := d; simp at h; subst h; simp [Addr.add]; split <;> rfl
end Go.Proofs.YtaegiihkgicdnaaGreat
