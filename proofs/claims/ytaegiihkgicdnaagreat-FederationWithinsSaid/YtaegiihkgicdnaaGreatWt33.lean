/- A part. -/
import Derived.Test.YtaegiihkgicdnaaGreatWt10
import Derived.Test.YtaegiihkgicdnaaGreatWt32

namespace Go.Proofs.YtaegiihkgicdnaaGreat
open Go.RowKit

def TdRes (R : Nat) (N : Nat → Prop) (w : World) (s : Sq) (e : Ending) (w' : World) : Prop :=
  Below w.heap.size w w' ∧ ∃ ao cap L, e = .returned (.tuple #[.slice ao L.length cap, .int .i64 (colE s.1 s.2)]) ∧ OwnZ R 0 w' (.slice ao L.length cap) L ∧ L.map ZV.p = (if colE s.1 s.2 = 0 then s.1 else []) ∧ L.length ≤ 2001 ∧ ∀ z ∈ L, ∀ p, z.a = some p → ¬ N p.block

set_option maxRecDepth 20000 in
theorem told_any (R q : Nat) (P N : Nat → Prop) (s : Sq) (w : World) (h : Mk R q P N w s) : Calls Tryz.prog 46 #[.pointer (some ⟨q, 0, none⟩)] w (TdRes R N w s) := by
  obtain ⟨v, L, h1, h2, h3, h4, h5, h6, h7, h8⟩ := h
  obtain ⟨ao, cap, ev⟩ := h2.form
  subst ev
  have rz := h2
  obtain ⟨q0, q1, _, _⟩ := h1.facts
  obtain ⟨c, hc⟩ : ∃ c, c = colE s.1 s.2 := ⟨_, rfl⟩
  have HC := Lib.hid hc
  rw [← hc] at q1 h3
  have RZ := Lib.hid rz
  have H3 := Lib.hid h3
  have H4 := Lib.hid h4
  have H8 := Lib.hid h8
  have KD := Lib.hid (show Below w.heap.size w w.drew from (Below.refl _ _).drew)
  clear h1 h2 h3 h5 h6 h7 h8 rz hc
  by_cases h0 : c = 0
  · have hb : (c != 0) = false := by simp [h0]
    have CZ := Lib.hid h0
    clear h0
    obtain ⟨n, hn⟩ : ∃ n, n = L.length := ⟨_, rfl⟩
    have HN := Lib.hid hn
    rw [← hn] at q0
    clear hn h4
    go_enter Tryz.func46, Tryz.ntmps46
    go_wp2_with fail
    go_ret2
    refine ⟨Below.refl _ _, ao, cap, L, by rw [← HC.out, CZ.out, HN.out]; rfl, RZ.out, by rw [← HC.out, if_pos CZ.out]; exact H3.out CZ.out, H4.out, H8.out⟩
  · have hb : (c != 0) = true := by simpa using h0
    have CZ := Lib.hid h0
    clear h0 h4
    go_enter Tryz.func46, Tryz.ntmps46
    go_wp2_with fail
    go_region
    all_goals (
      go_wp2_with fail
      go_ret2
      exact ⟨KD.out, none, 0, [], by rw [← HC.out]; rfl, OwnZ.nil _ _ _, by rw [← HC.out, if_neg CZ.out]; rfl, by simp, by simp⟩)

def rchk (L : List Zp) : Int := if 2000 < L.length then 3 else ckL L

def ZW (w : World) (z : ZV) : Prop := Arg w z.a z.l ∧ True

theorem ZW.on {w w' : World} {z : ZV} (h : ZW w z) (hb : Below w.heap.size w w') : ZW w' z := ⟨h.1.on hb, trivial⟩

structure RdW (A : World) (go : Option Addr) (L : List ZV) : Prop where
  hd : ∀ t, ∀ h : t < L.length, ∃ p, go = some p ∧ HdAt A p t L[t]
  el : ∀ z ∈ L, ZW A z

theorem RdW.on {A A' : World} {go : Option Addr} {L : List ZV} (h : RdW A go L) (hb : Below A.heap.size A A') : RdW A' go L :=
  ⟨fun t ht => by obtain ⟨p, e, c, d⟩ := h.hd t ht; exact ⟨p, e, kept hb c, kept hb d⟩, fun z hz => (h.el z hz).on hb⟩

theorem RdZ.weak {B : Nat} {A : World} {go : Option Addr} {L : List ZV} (h : RdZ B A go L) : RdW A go L := ⟨h.hd, fun z hz => ⟨(h.el z hz).1, trivial⟩⟩

set_option maxRecDepth 100000 in
set_option maxHeartbeats 8000000 in
theorem rcheckW_any (L : List ZV) (go : Option Addr) (gc : Nat) (w : World) (hL : RdW w go L) (hl : L.length ≤ 1000000) :
    Calls Tryz.prog 12 #[.slice go L.length gc] w (Made (.int .i64 (rchk (L.map ZV.p))) w) := by
  have RR := Lib.hid hL
  obtain ⟨n, hn⟩ : ∃ n, n = L.length := ⟨_, rfl⟩
  have HN := Lib.hid hn
  have hle : n ≤ 1000000 := by omega
  rw [← hn]
  clear hL hl hn
  by_cases h2 : 2000 < n
  · have h2b : (2000 : Int) < n := by omega
    have EV := Lib.hid (show rchk (L.map ZV.p) = 3 by unfold rchk; rw [if_pos (by rw [List.length_map, ← HN.out]; exact h2)])
    go_enter Tryz.func12, Tryz.ntmps12
    go_wp2_with fail
    go_ret
    refine ⟨?_, Below.refl _ _⟩
    rw [EV.out]; rfl
  · have h2b : ¬ (2000 : Int) < n := by omega
    have EV := Lib.hid (show rchk (L.map ZV.p) = ckL (L.map ZV.p) by unfold rchk; rw [if_neg (by rw [List.length_map, ← HN.out]; exact h2)])
    clear h2
    go_enter Tryz.func12, Tryz.ntmps12
    go_wp2_with fail
    go_loopw [3] (fun s wr => ∃ t : Nat, t ≤ n ∧ s = .int .i64 t ∧ Hid (Below w.heap.size w wr ∧ RdW wr go L) ∧ Hid (∀ i, ∀ h : i < (L.map ZV.p).length, i < t → ckZ ((L.map ZV.p).headD (0, [])) (L.map ZV.p)[i] = true)) (fun s _ => n - (intOf s).toNat)
    case atStart => exact ⟨0, by omega, rfl, Lib.hid ⟨Below.refl _ _, RR.out⟩, Lib.hid (fun i h q => by omega)⟩
    case round =>
      generalize wr = wo at *
      obtain ⟨t, ht, rfl, HB, HF⟩ := hrel
      by_cases htn : t < n
      · have hlt : t < L.length := by have := HN.out; omega
        have HLT := Lib.hid (show t < (L.map ZV.p).length by simpa using hlt)
        obtain ⟨a, ea, h0, h1⟩ := HB.out.2.hd t hlt
        obtain ⟨a', ea', g0, g1⟩ := HB.out.2.hd 0 (by omega)
        have eaa : a' = a := by rw [ea] at ea'; injection ea' with e; exact e.symm
        subst eaa
        rw [add_nil2] at g0
        obtain ⟨z, hz⟩ : ∃ z, z = L[t] := ⟨_, rfl⟩
        obtain ⟨y, hy⟩ : ∃ y, y = L[0]'(by omega) := ⟨_, rfl⟩
        have HM1 := Lib.hid (HB.out.2.el z (by rw [hz]; exact List.getElem_mem _))
        have ZP := Lib.hid (show (L.map ZV.p)[t]'HLT.out = z.p by rw [hz]; simp)
        have YP := Lib.hid (show (L.map ZV.p).headD (0, []) = y.p by rw [hy]; exact head_p L _)
        rw [← hz] at h0 h1
        rw [← hy] at g0
        obtain ⟨zl, hzl⟩ : ∃ zl, zl = z.l.length := ⟨_, rfl⟩
        rw [← hzl] at h1
        have CZ := Lib.hid (show ∀ W, ZW W z → Calls Tryz.prog 39 #[.agg #[.int .i64 z.N, .slice z.a zl z.c]] W (Made (.int .i64 (chkE z.N z.l)) W) from fun W h => by rw [hzl]; exact check_gen z.N z.l z.a z.c W h.1)
        have n0 : 0 < n := by omega
        obtain ⟨ce, hce⟩ : ∃ ce, ce = chkE z.N z.l := ⟨_, rfl⟩
        have CE := Lib.hid hce
        rw [← hce] at CZ
        have X2 := Lib.hid (show wo.cell? (a'.add (t * 2)) = some (.int .i64 z.N) ∧ wo.cell? ⟨(a'.add (t * 2)).block, (a'.add (t * 2)).off + 1, none⟩ = some (.slice z.a zl z.c) ∧ wo.cell? a' = some (.int .i64 y.N) from ⟨h0, h1, g0⟩)
        clear hz hy g1 hlt hzl ea' hce h0 h1 g0
        subst ea
        go_upto_region 6 with (fail)
        by_cases hc : ce = 0
        · have hc2 : (ce != 0) = false := by simp [hc]
          have KS := Lib.hid (show ∀ W, Below wo.heap.size wo W → (W.cell? (a'.add (t * 2)) = some (.int .i64 z.N) ∧ W.cell? ⟨(a'.add (t * 2)).block, (a'.add (t * 2)).off + 1, none⟩ = some (.slice z.a zl z.c) ∧ W.cell? a' = some (.int .i64 y.N)) from fun W h => ⟨kept h X2.out.1, kept h X2.out.2.1, kept h X2.out.2.2⟩)
          obtain ⟨wc, hwc⟩ : ∃ wc, wc = wo.drew := ⟨_, rfl⟩
          have Bc := Lib.hid (show Below wo.heap.size wo wc by rw [hwc]; exact (Below.refl _ _).drew)
          refine wp_region_held_drew (S := (fun W => (W.cell? (a'.add (t * 2)) = some (.int .i64 z.N) ∧ W.cell? ⟨(a'.add (t * 2)).block, (a'.add (t * 2)).off + 1, none⟩ = some (.slice z.a zl z.c) ∧ W.cell? a' = some (.int .i64 y.N)))) (by kernel_rfl) (by rw [← hwc]; exact KS.out _ Bc.out) (fun h0 => ?_)
          rw [← hwc] at h0 ⊢
          clear hwc
          refine tkH (i := 0) (v := ?v1) rfl (Or.inl ⟨by rfl, ?hy1⟩) h0 ?rest1
          case hy1 => (intro w' hS; (try dsimp only at hS); go_simp; try (with_reducible rfl))
          simp only [Act.put, sA, sB, sD, sE, sF]
          refine tkH (i := 1) (v := ?v2) rfl (Or.inl ⟨by rfl, ?hy2⟩) h0 ?rest2
          case hy2 => (intro w' hS; (try dsimp only at hS); go_simp; try (with_reducible rfl))
          simp only [Act.put, sZ]
          refine tkH (i := 2) (v := ?v3) rfl (Or.inl ⟨by rfl, ?hy3⟩) h0 ?rest3
          case hy3 => (intro w' hS; (try dsimp only at hS); go_simp; try (with_reducible rfl))
          simp only [Act.put, sZ]
          refine tkH (i := 3) (v := ?v4) rfl (Or.inl ⟨by rfl, ?hy4⟩) h0 ?rest4
          case hy4 => (intro w' hS; (try dsimp only at hS); go_simp; try (with_reducible rfl))
          simp only [Act.put, sZ]
          refine wpAnyH_ready (rs := [4]) (by kernel_rfl) (by simp) (AllReadyH.cons rfl (fun K hK => ?_) AllReadyH.nil)
          rw [if_pos (by rfl)]
          go_simp
          refine (CZ.out wc (HM1.out.on Bc.out)).mono ?_
          rintro e wd ⟨rfl, hb⟩
          have Bc := Lib.hid (below_on Bc.out hb)
          clear hb
          obtain ⟨wc, hwc⟩ : ∃ wc, wc = wd := ⟨_, rfl⟩
          rw [← hwc] at Bc ⊢
          clear hwc
          go_simp
          refine hK.out _ _ (KS.out _ Bc.out) (fun h0_1 => ?_)
          clear hK K h0
          refine tkH (i := 5) (v := ?v5) rfl (Or.inl ⟨by rfl, ?hy5⟩) h0_1 ?rest5
          case hy5 => (intro w' hS; (try dsimp only at hS); go_simp; try (with_reducible rfl))
          simp only [Act.put, sZ]
          refine tkH (i := 6) (v := ?v6) rfl (Or.inl ⟨by rfl, ?hy6⟩) h0_1 ?rest6
          case hy6 => (intro w' hS; (try dsimp only at hS); go_simp; try (with_reducible rfl))
          simp only [Act.put, sZ]
          refine tkH (i := 7) (v := ?v7) rfl (Or.inl ⟨by rfl, ?hy7⟩) h0_1 ?rest7
          case hy7 => (intro w' hS; (try dsimp only at hS); go_simp; try (with_reducible rfl))
          simp only [Act.put, sZ]
          refine tkH (i := 8) (v := ?v8) rfl (Or.inl ⟨by rfl, ?hy8⟩) h0_1 ?rest8
          case hy8 => (intro w' hS; (try dsimp only at hS); go_simp; try (with_reducible rfl))
          simp only [Act.put, sZ]
          refine tkH (i := 9) (v := ?v9) rfl (Or.inl ⟨by rfl, ?hy9⟩) h0_1 ?rest9
          case hy9 => (intro w' hS; (try dsimp only at hS); go_simp; try (with_reducible rfl))
          simp only [Act.put, sZ]
          refine tkH (i := 10) (v := ?v10) rfl (Or.inl ⟨by rfl, ?hy10⟩) h0_1 ?rest10
          case hy10 => (intro w' hS; (try dsimp only at hS); go_simp; try (with_reducible rfl))
          simp only [Act.put, sZ]
          refine tkH (i := 11) (v := ?v11) rfl (Or.inl ⟨by rfl, ?hy11⟩) h0_1 ?rest11
          case hy11 => (intro w' hS; (try dsimp only at hS); go_simp; try (with_reducible rfl))
          simp only [Act.put, sZ]
          refine tkH (i := 12) (v := ?v12) rfl (Or.inl ⟨by rfl, ?hy12⟩) h0_1 ?rest12
          case hy12 => (intro w' hS; (try dsimp only at hS); go_simp; try (with_reducible rfl))
          simp only [Act.put, sZ]
          refine tkH (i := 13) (v := ?v13) rfl (Or.inl ⟨by rfl, ?hy13⟩) h0_1 ?rest13
          case hy13 => (intro w' hS; (try dsimp only at hS); go_simp; try (with_reducible rfl))
          simp only [Act.put, sZ]
          refine tkH (i := 14) (v := ?v14) rfl (Or.inl ⟨by rfl, ?hy14⟩) h0_1 ?rest14
          case hy14 => (intro w' hS; (try dsimp only at hS); go_simp; try (with_reducible rfl))
          simp only [Act.put, sZ]
          refine tkH (i := 15) (v := ?v15) rfl (Or.inl ⟨by rfl, ?hy15⟩) h0_1 ?rest15
          case hy15 => (intro w' hS; (try dsimp only at hS); go_simp; try (with_reducible rfl))
          simp only [Act.put, sZ]
          refine tkH (i := 16) (v := ?v16) rfl (Or.inl ⟨by rfl, ?hy16⟩) h0_1 ?rest16
          case hy16 => (intro w' hS; (try dsimp only at hS); go_simp; try (with_reducible rfl))
          simp only [Act.put, sZ]
          refine tkH (i := 17) (v := ?v17) rfl (Or.inl ⟨by rfl, ?hy17⟩) h0_1 ?rest17
          case hy17 => (intro w' hS; (try dsimp only at hS); go_simp; try (with_reducible rfl))
          simp only [Act.put, sA, sB, sC, sD]
          try simp only [sF]
          try simp only [sE]
          refine wpAnyH_done (by kernel_rfl) ?_ _
          simp only [Exit.then]
          have BB := Lib.hid Bc.out
          have HC := Lib.hid hc
          by_cases hN : z.N = y.N
          · have hN2 : (z.N != y.N) = false := by simp [hN]
            have HNN := Lib.hid hN
            clear hN hc
            go_wp2_with fail
            go_roundw
            case rel => exact ⟨t + 1, by omega, by go_num, Lib.hid ⟨below_on HB.out.1 BB.out, HB.out.2.on BB.out⟩, Lib.hid fun i h q => by
              by_cases e : i = t
              · subst e
                rw [ZP.out, YP.out]
                exact ckZ_yes (by rw [← CE.out]; exact HC.out) HNN.out
              · exact HF.out i h (by omega)⟩
            case measure => simp [intOf]; omega
          · have hN2 : (z.N != y.N) = true := by simpa using hN
            have HNN := Lib.hid hN
            clear hN hc
            go_wp2_with fail
            go_ret
            refine ⟨?_, below_on HB.out.1 BB.out⟩
            have : ckL (L.map ZV.p) = 2 := ckL_bad HLT.out (by rw [ZP.out, YP.out]; first | exact ckZ_no2 HNN.out | exact ckZ_no1 (by rw [← CE.out]; exact HC.out))
            rw [EV.out, this]
            rfl
        · have hc2 : (ce != 0) = true := by simpa using hc
          have KS := Lib.hid (show ∀ W, Below wo.heap.size wo W → (W.cell? (a'.add (t * 2)) = some (.int .i64 z.N) ∧ W.cell? ⟨(a'.add (t * 2)).block, (a'.add (t * 2)).off + 1, none⟩ = some (.slice z.a zl z.c) ∧ W.cell? a' = some (.int .i64 y.N)) from fun W h => ⟨kept h X2.out.1, kept h X2.out.2.1, kept h X2.out.2.2⟩)
          obtain ⟨wc, hwc⟩ : ∃ wc, wc = wo.drew := ⟨_, rfl⟩
          have Bc := Lib.hid (show Below wo.heap.size wo wc by rw [hwc]; exact (Below.refl _ _).drew)
          refine wp_region_held_drew (S := (fun W => (W.cell? (a'.add (t * 2)) = some (.int .i64 z.N) ∧ W.cell? ⟨(a'.add (t * 2)).block, (a'.add (t * 2)).off + 1, none⟩ = some (.slice z.a zl z.c) ∧ W.cell? a' = some (.int .i64 y.N)))) (by kernel_rfl) (by rw [← hwc]; exact KS.out _ Bc.out) (fun h0 => ?_)
          rw [← hwc] at h0 ⊢
          clear hwc
          refine tkH (i := 0) (v := ?v18) rfl (Or.inl ⟨by rfl, ?hy18⟩) h0 ?rest18
          case hy18 => (intro w' hS; (try dsimp only at hS); go_simp; try (with_reducible rfl))
          simp only [Act.put, sA, sB, sD, sE, sF]
          refine tkH (i := 1) (v := ?v19) rfl (Or.inl ⟨by rfl, ?hy19⟩) h0 ?rest19
          case hy19 => (intro w' hS; (try dsimp only at hS); go_simp; try (with_reducible rfl))
          simp only [Act.put, sZ]
          refine tkH (i := 2) (v := ?v20) rfl (Or.inl ⟨by rfl, ?hy20⟩) h0 ?rest20
          case hy20 => (intro w' hS; (try dsimp only at hS); go_simp; try (with_reducible rfl))
          simp only [Act.put, sZ]
          refine tkH (i := 3) (v := ?v21) rfl (Or.inl ⟨by rfl, ?hy21⟩) h0 ?rest21
          case hy21 => (intro w' hS; (try dsimp only at hS); go_simp; try (with_reducible rfl))
          simp only [Act.put, sZ]
          refine wpAnyH_ready (rs := [4]) (by kernel_rfl) (by simp) (AllReadyH.cons rfl (fun K hK => ?_) AllReadyH.nil)
          rw [if_pos (by rfl)]
          go_simp
          refine (CZ.out wc (HM1.out.on Bc.out)).mono ?_
          rintro e wd ⟨rfl, hb⟩
          have Bc := Lib.hid (below_on Bc.out hb)
          clear hb
          obtain ⟨wc, hwc⟩ : ∃ wc, wc = wd := ⟨_, rfl⟩
          rw [← hwc] at Bc ⊢
          clear hwc
          go_simp
          refine hK.out _ _ (KS.out _ Bc.out) (fun h0_1 => ?_)
          clear hK K h0
          refine tkH (i := 5) (v := ?v22) rfl (Or.inl ⟨by rfl, ?hy22⟩) h0_1 ?rest22
          case hy22 => (intro w' hS; (try dsimp only at hS); go_simp; try (with_reducible rfl))
          simp only [Act.put, sZ]
          refine tkH (i := 6) (v := ?v23) rfl (Or.inl ⟨by rfl, ?hy23⟩) h0_1 ?rest23
          case hy23 => (intro w' hS; (try dsimp only at hS); go_simp; try (with_reducible rfl))
          simp only [Act.put, sZ]
          refine tkH (i := 7) (v := undef) rfl (Or.inr ⟨by rfl, rfl⟩) h0_1 ?_
          simp only [Act.put, sZ]
          refine tkH (i := 8) (v := undef) rfl (Or.inr ⟨by rfl, rfl⟩) h0_1 ?_
          simp only [Act.put, sZ]
          refine tkH (i := 9) (v := undef) rfl (Or.inr ⟨by rfl, rfl⟩) h0_1 ?_
          simp only [Act.put, sZ]
          refine tkH (i := 10) (v := undef) rfl (Or.inr ⟨by rfl, rfl⟩) h0_1 ?_
          simp only [Act.put, sZ]
          refine tkH (i := 11) (v := undef) rfl (Or.inr ⟨by rfl, rfl⟩) h0_1 ?_
          simp only [Act.put, sZ]
          refine tkH (i := 12) (v := undef) rfl (Or.inr ⟨by rfl, rfl⟩) h0_1 ?_
          simp only [Act.put, sZ]
          refine tkH (i := 13) (v := undef) rfl (Or.inr ⟨by rfl, rfl⟩) h0_1 ?_
          simp only [Act.put, sZ]
          refine tkH (i := 14) (v := undef) rfl (Or.inr ⟨by rfl, rfl⟩) h0_1 ?_
          simp only [Act.put, sZ]
          refine tkH (i := 15) (v := undef) rfl (Or.inr ⟨by rfl, rfl⟩) h0_1 ?_
          simp only [Act.put, sZ]
          refine tkH (i := 16) (v := undef) rfl (Or.inr ⟨by rfl, rfl⟩) h0_1 ?_
          simp only [Act.put, sZ]
          refine tkH (i := 17) (v := ?v34) rfl (Or.inl ⟨by rfl, ?hy34⟩) h0_1 ?rest34
          case hy34 => (intro w' hS; (try dsimp only at hS); go_simp; try (with_reducible rfl))
          simp only [Act.put, sA, sB, sC, sD]
          try simp only [sF]
          try simp only [sE]
          refine wpAnyH_done (by kernel_rfl) ?_ _
          simp only [Exit.then]
          have BB := Lib.hid Bc.out
          have HC := Lib.hid hc
          have HNN := Lib.hid hc
          clear hc
          go_wp2_with fail
          go_ret
          refine ⟨?_, below_on HB.out.1 BB.out⟩
          have : ckL (L.map ZV.p) = 2 := ckL_bad HLT.out (by rw [ZP.out, YP.out]; first | exact ckZ_no2 HNN.out | exact ckZ_no1 (by rw [← CE.out]; exact HC.out))
          rw [EV.out, this]
          rfl
      · have L0 := Lib.hid (show rchk (L.map ZV.p) = 0 by
          rw [EV.out]
          exact ckL_good fun i h => HF.out i h (by have := HN.out; simp at h; omega))
        clear HF
        go_wp2_with fail
        go_ret
        refine ⟨?_, HB.out.1⟩
        rw [L0.out]; rfl

theorem rcheck_any (L : List ZV) (go : Option Addr) (gc : Nat) (w : World) (hL : RdZ 0 w go L) (hl : L.length ≤ 1000000) :
    Calls Tryz.prog 12 #[.slice go L.length gc] w (Made (.int .i64 (rchk (L.map ZV.p))) w) := rcheckW_any L go gc w hL.weak hl
end Go.Proofs.YtaegiihkgicdnaaGreat
