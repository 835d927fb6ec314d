/- Lists that came in as arguments: of an empty row nothing is known. Check, both, Same of the reference for such lists; what fails. -/
import Derived.Test.YtaegiihkgicdnaaGreatWs9
import Derived.Test.YtaegiihkgicdnaaGreatWs45

namespace Go.Proofs.YtaegiihkgicdnaaGreat
open Go.RowKit

def ZW (w : World) (z : ZV) : Prop := Arg w z.a z.l ∧ True

theorem ZW.on {w w' : World} {z : ZV} (h : ZW w z) (hb : Below w.heap.size w w') : ZW w' z := ⟨h.1.on hb, trivial⟩

structure RdW (A : World) (go : Option Addr) (L : List ZV) : Prop where
  hd : ∀ t, ∀ h : t < L.length, ∃ p, go = some p ∧ HdAt A p t L[t]
  el : ∀ z ∈ L, ZW A z

theorem RdW.on {A A' : World} {go : Option Addr} {L : List ZV} (h : RdW A go L) (hb : Below A.heap.size A A') : RdW A' go L :=
  ⟨fun t ht => by obtain ⟨p, e, c, d⟩ := h.hd t ht; exact ⟨p, e, kept hb c, kept hb d⟩, fun z hz => (h.el z hz).on hb⟩

theorem RdZ.weak {B : Nat} {A : World} {go : Option Addr} {L : List ZV} (h : RdZ B A go L) : RdW A go L := ⟨h.hd, fun z hz => ⟨(h.el z hz).1, trivial⟩⟩

theorem RdW.strong {A : World} {go : Option Addr} {L : List ZV} (h : RdW A go L) (hz : ∀ z ∈ L, z.l ≠ []) : RdZ 0 A go L :=
  ⟨h.hd, fun z hm => ⟨(h.el z hm).1, fun p e => by
    obtain ⟨a, ea, hR⟩ := (h.el z hm).1 (hz z hm)
    rw [e] at ea; cases ea
    have := hR 0 (List.length_pos_iff.2 (hz z hm))
    have lt := World.block_lt_of_cell? A _ this
    rw [add_block] at lt
    exact ⟨Nat.zero_le _, lt⟩⟩⟩

theorem chk_ne {L : List ZV} (h : ∀ z ∈ L, chkE z.N z.l = 0) : ∀ z ∈ L, z.l ≠ [] := fun z hz => by
  obtain ⟨n, _, _, _, hne⟩ := chk_ok (h z hz)
  exact hne

theorem RdW.both {w : World} {L M : List ZV} {go ho : Option Addr} (hL : RdW w go L) (hM : RdW w ho M) (h : chkG [L.map ZV.p, M.map ZV.p] = 0) : RdZ 0 w go L ∧ RdZ 0 w ho M := by
  have k := chk_each (G := [L, M]) (by simpa using h)
  exact ⟨hL.strong (chk_ne (k L (by simp))), hM.strong (chk_ne (k M (by simp)))⟩

set_option maxRecDepth 100000 in
set_option maxHeartbeats 8000000 in
theorem rcheckW_any (L : List ZV) (go : Option Addr) (gc : Nat) (w : World) (hL : RdW w go L) (hl : L.length ≤ 1000000) :
    Calls Tryz.prog 12 #[.slice go L.length gc] w (Made (.int .i64 (rchk (L.map ZV.p))) w) := by
  have RR := Lib.hid hL
  obtain ⟨n, hn⟩ : ∃ n, n = L.length := ⟨_, rfl⟩
  have HN := Lib.hid hn
  have hle : n ≤ 1000000 := by omega
  rw [← hn]
  clear hL hl hn
  by_cases h2 : 2000 < n
  · have h2b : (2000 : Int) < n := by omega
    have EV := Lib.hid (show rchk (L.map ZV.p) = 3 by unfold rchk; rw [if_pos (by rw [List.length_map, ← HN.out]; exact h2)])
    go_enter Tryz.func12, Tryz.ntmps12
    go_wp2_with fail
    go_ret
    refine ⟨?_, Below.refl _ _⟩
    rw [EV.out]; rfl
  · have h2b : ¬ (2000 : Int) < n := by omega
    have EV := Lib.hid (show rchk (L.map ZV.p) = ckL (L.map ZV.p) by unfold rchk; rw [if_neg (by rw [List.length_map, ← HN.out]; exact h2)])
    clear h2
    go_enter Tryz.func12, Tryz.ntmps12
    go_wp2_with fail
    go_loopw [3] (fun s wr => ∃ t : Nat, t ≤ n ∧ s = .int .i64 t ∧ Hid (Below w.heap.size w wr ∧ RdW wr go L) ∧ Hid (∀ i, ∀ h : i < (L.map ZV.p).length, i < t → ckZ ((L.map ZV.p).headD (0, [])) (L.map ZV.p)[i] = true)) (fun s _ => n - (intOf s).toNat)
    case atStart => exact ⟨0, by omega, rfl, Lib.hid ⟨Below.refl _ _, RR.out⟩, Lib.hid (fun i h q => by omega)⟩
    case round =>
      generalize wr = wo at *
      obtain ⟨t, ht, rfl, HB, HF⟩ := hrel
      by_cases htn : t < n
      · have hlt : t < L.length := by have := HN.out; omega
        have HLT := Lib.hid (show t < (L.map ZV.p).length by simpa using hlt)
        obtain ⟨a, ea, h0, h1⟩ := HB.out.2.hd t hlt
        obtain ⟨a', ea', g0, g1⟩ := HB.out.2.hd 0 (by omega)
        have eaa : a' = a := by rw [ea] at ea'; injection ea' with e; exact e.symm
        subst eaa
        rw [add_nil2] at g0
        obtain ⟨z, hz⟩ : ∃ z, z = L[t] := ⟨_, rfl⟩
        obtain ⟨y, hy⟩ : ∃ y, y = L[0]'(by omega) := ⟨_, rfl⟩
        have HM1 := Lib.hid (HB.out.2.el z (by rw [hz]; exact List.getElem_mem _))
        have ZP := Lib.hid (show (L.map ZV.p)[t]'HLT.out = z.p by rw [hz]; simp)
        have YP := Lib.hid (show (L.map ZV.p).headD (0, []) = y.p by rw [hy]; exact head_p L _)
        rw [← hz] at h0 h1
        rw [← hy] at g0
        obtain ⟨zl, hzl⟩ : ∃ zl, zl = z.l.length := ⟨_, rfl⟩
        rw [← hzl] at h1
        have CZ := Lib.hid (show ∀ W, ZW W z → Calls Tryz.prog 39 #[.agg #[.int .i64 z.N, .slice z.a zl z.c]] W (Made (.int .i64 (chkE z.N z.l)) W) from fun W h => by rw [hzl]; exact check_gen z.N z.l z.a z.c W h.1)
        have n0 : 0 < n := by omega
        obtain ⟨ce, hce⟩ : ∃ ce, ce = chkE z.N z.l := ⟨_, rfl⟩
        have CE := Lib.hid hce
        rw [← hce] at CZ
        have X2 := Lib.hid (show wo.cell? (a'.add (t * 2)) = some (.int .i64 z.N) ∧ wo.cell? ⟨(a'.add (t * 2)).block, (a'.add (t * 2)).off + 1, none⟩ = some (.slice z.a zl z.c) ∧ wo.cell? a' = some (.int .i64 y.N) from ⟨h0, h1, g0⟩)
        clear hz hy g1 hlt hzl ea' hce h0 h1 g0
        subst ea
        go_upto_region 6 with (fail)
        by_cases hc : ce = 0
        · have hc2 : (ce != 0) = false := by simp [hc]
          have KS := Lib.hid (show ∀ W, Below wo.heap.size wo W → (W.cell? (a'.add (t * 2)) = some (.int .i64 z.N) ∧ W.cell? ⟨(a'.add (t * 2)).block, (a'.add (t * 2)).off + 1, none⟩ = some (.slice z.a zl z.c) ∧ W.cell? a' = some (.int .i64 y.N)) from fun W h => ⟨kept h X2.out.1, kept h X2.out.2.1, kept h X2.out.2.2⟩)
          obtain ⟨wc, hwc⟩ : ∃ wc, wc = wo.drew := ⟨_, rfl⟩
          have Bc := Lib.hid (show Below wo.heap.size wo wc by rw [hwc]; exact (Below.refl _ _).drew)
          refine wp_region_held_drew (S := (fun W => (W.cell? (a'.add (t * 2)) = some (.int .i64 z.N) ∧ W.cell? ⟨(a'.add (t * 2)).block, (a'.add (t * 2)).off + 1, none⟩ = some (.slice z.a zl z.c) ∧ W.cell? a' = some (.int .i64 y.N)))) (by kernel_rfl) (by rw [← hwc]; exact KS.out _ Bc.out) (fun h0 => ?_)
          rw [← hwc] at h0 ⊢
          clear hwc
          refine tkH (i := 0) (v := ?v1) rfl (Or.inl ⟨by rfl, ?hy1⟩) h0 ?rest1
          case hy1 => (intro w' hS; (try dsimp only at hS); go_simp; try (with_reducible rfl))
          simp only [Act.put, sA, sB, sD, sE, sF]
          refine tkH (i := 1) (v := ?v2) rfl (Or.inl ⟨by rfl, ?hy2⟩) h0 ?rest2
          case hy2 => (intro w' hS; (try dsimp only at hS); go_simp; try (with_reducible rfl))
          simp only [Act.put, sZ]
          refine tkH (i := 2) (v := ?v3) rfl (Or.inl ⟨by rfl, ?hy3⟩) h0 ?rest3
          case hy3 => (intro w' hS; (try dsimp only at hS); go_simp; try (with_reducible rfl))
          simp only [Act.put, sZ]
          refine tkH (i := 3) (v := ?v4) rfl (Or.inl ⟨by rfl, ?hy4⟩) h0 ?rest4
          case hy4 => (intro w' hS; (try dsimp only at hS); go_simp; try (with_reducible rfl))
          simp only [Act.put, sZ]
          refine wpAnyH_ready (rs := [4]) (by kernel_rfl) (by simp) (AllReadyH.cons rfl (fun K hK => ?_) AllReadyH.nil)
          rw [if_pos (by rfl)]
          go_simp
          refine (CZ.out wc (HM1.out.on Bc.out)).mono ?_
          rintro e wd ⟨rfl, hb⟩
          have Bc := Lib.hid (below_on Bc.out hb)
          clear hb
          obtain ⟨wc, hwc⟩ : ∃ wc, wc = wd := ⟨_, rfl⟩
          rw [← hwc] at Bc ⊢
          clear hwc
          go_simp
          refine hK.out _ _ (KS.out _ Bc.out) (fun h0_1 => ?_)
          clear hK K h0
          refine tkH (i := 5) (v := ?v5) rfl (Or.inl ⟨by rfl, ?hy5⟩) h0_1 ?rest5
          case hy5 => (intro w' hS; (try dsimp only at hS); go_simp; try (with_reducible rfl))
          simp only [Act.put, sZ]
          refine tkH (i := 6) (v := ?v6) rfl (Or.inl ⟨by rfl, ?hy6⟩) h0_1 ?rest6
          case hy6 => (intro w' hS; (try dsimp only at hS); go_simp; try (with_reducible rfl))
          simp only [Act.put, sZ]
          refine tkH (i := 7) (v := ?v7) rfl (Or.inl ⟨by rfl, ?hy7⟩) h0_1 ?rest7
          case hy7 => (intro w' hS; (try dsimp only at hS); go_simp; try (with_reducible rfl))
          simp only [Act.put, sZ]
          refine tkH (i := 8) (v := ?v8) rfl (Or.inl ⟨by rfl, ?hy8⟩) h0_1 ?rest8
          case hy8 => (intro w' hS; (try dsimp only at hS); go_simp; try (with_reducible rfl))
          simp only [Act.put, sZ]
          refine tkH (i := 9) (v := ?v9) rfl (Or.inl ⟨by rfl, ?hy9⟩) h0_1 ?rest9
          case hy9 => (intro w' hS; (try dsimp only at hS); go_simp; try (with_reducible rfl))
          simp only [Act.put, sZ]
          refine tkH (i := 10) (v := ?v10) rfl (Or.inl ⟨by rfl, ?hy10⟩) h0_1 ?rest10
          case hy10 => (intro w' hS; (try dsimp only at hS); go_simp; try (with_reducible rfl))
          simp only [Act.put, sZ]
          refine tkH (i := 11) (v := ?v11) rfl (Or.inl ⟨by rfl, ?hy11⟩) h0_1 ?rest11
          case hy11 => (intro w' hS; (try dsimp only at hS); go_simp; try (with_reducible rfl))
          simp only [Act.put, sZ]
          refine tkH (i := 12) (v := ?v12) rfl (Or.inl ⟨by rfl, ?hy12⟩) h0_1 ?rest12
          case hy12 => (intro w' hS; (try dsimp only at hS); go_simp; try (with_reducible rfl))
          simp only [Act.put, sZ]
          refine tkH (i := 13) (v := ?v13) rfl (Or.inl ⟨by rfl, ?hy13⟩) h0_1 ?rest13
          case hy13 => (intro w' hS; (try dsimp only at hS); go_simp; try (with_reducible rfl))
          simp only [Act.put, sZ]
          refine tkH (i := 14) (v := ?v14) rfl (Or.inl ⟨by rfl, ?hy14⟩) h0_1 ?rest14
          case hy14 => (intro w' hS; (try dsimp only at hS); go_simp; try (with_reducible rfl))
          simp only [Act.put, sZ]
          refine tkH (i := 15) (v := ?v15) rfl (Or.inl ⟨by rfl, ?hy15⟩) h0_1 ?rest15
          case hy15 => (intro w' hS; (try dsimp only at hS); go_simp; try (with_reducible rfl))
          simp only [Act.put, sZ]
          refine tkH (i := 16) (v := ?v16) rfl (Or.inl ⟨by rfl, ?hy16⟩) h0_1 ?rest16
          case hy16 => (intro w' hS; (try dsimp only at hS); go_simp; try (with_reducible rfl))
          simp only [Act.put, sZ]
          refine tkH (i := 17) (v := ?v17) rfl (Or.inl ⟨by rfl, ?hy17⟩) h0_1 ?rest17
          case hy17 => (intro w' hS; (try dsimp only at hS); go_simp; try (with_reducible rfl))
          simp only [Act.put, sA, sB, sC, sD]
          try simp only [sF]
          try simp only [sE]
          refine wpAnyH_done (by kernel_rfl) ?_ _
          simp only [Exit.then]
          have BB := Lib.hid Bc.out
          have HC := Lib.hid hc
          by_cases hN : z.N = y.N
          · have hN2 : (z.N != y.N) = false := by simp [hN]
            have HNN := Lib.hid hN
            clear hN hc
            go_wp2_with fail
            go_roundw
            case rel => exact ⟨t + 1, by omega, by go_num, Lib.hid ⟨below_on HB.out.1 BB.out, HB.out.2.on BB.out⟩, Lib.hid fun i h q => by
              by_cases e : i = t
              · subst e
                rw [ZP.out, YP.out]
                exact ckZ_yes (by rw [← CE.out]; exact HC.out) HNN.out
              · exact HF.out i h (by omega)⟩
            case measure => simp [intOf]; omega
          · have hN2 : (z.N != y.N) = true := by simpa using hN
            have HNN := Lib.hid hN
            clear hN hc
            go_wp2_with fail
            go_ret
            refine ⟨?_, below_on HB.out.1 BB.out⟩
            have : ckL (L.map ZV.p) = 2 := ckL_bad HLT.out (by rw [ZP.out, YP.out]; first | exact ckZ_no2 HNN.out | exact ckZ_no1 (by rw [← CE.out]; exact HC.out))
            rw [EV.out, this]
            rfl
        · have hc2 : (ce != 0) = true := by simpa using hc
          have KS := Lib.hid (show ∀ W, Below wo.heap.size wo W → (W.cell? (a'.add (t * 2)) = some (.int .i64 z.N) ∧ W.cell? ⟨(a'.add (t * 2)).block, (a'.add (t * 2)).off + 1, none⟩ = some (.slice z.a zl z.c) ∧ W.cell? a' = some (.int .i64 y.N)) from fun W h => ⟨kept h X2.out.1, kept h X2.out.2.1, kept h X2.out.2.2⟩)
          obtain ⟨wc, hwc⟩ : ∃ wc, wc = wo.drew := ⟨_, rfl⟩
          have Bc := Lib.hid (show Below wo.heap.size wo wc by rw [hwc]; exact (Below.refl _ _).drew)
          refine wp_region_held_drew (S := (fun W => (W.cell? (a'.add (t * 2)) = some (.int .i64 z.N) ∧ W.cell? ⟨(a'.add (t * 2)).block, (a'.add (t * 2)).off + 1, none⟩ = some (.slice z.a zl z.c) ∧ W.cell? a' = some (.int .i64 y.N)))) (by kernel_rfl) (by rw [← hwc]; exact KS.out _ Bc.out) (fun h0 => ?_)
          rw [← hwc] at h0 ⊢
          clear hwc
          refine tkH (i := 0) (v := ?v18) rfl (Or.inl ⟨by rfl, ?hy18⟩) h0 ?rest18
          case hy18 => (intro w' hS; (try dsimp only at hS); go_simp; try (with_reducible rfl))
          simp only [Act.put, sA, sB, sD, sE, sF]
          refine tkH (i := 1) (v := ?v19) rfl (Or.inl ⟨by rfl, ?hy19⟩) h0 ?rest19
          case hy19 => (intro w' hS; (try dsimp only at hS); go_simp; try (with_reducible rfl))
          simp only [Act.put, sZ]
          refine tkH (i := 2) (v := ?v20) rfl (Or.inl ⟨by rfl, ?hy20⟩) h0 ?rest20
          case hy20 => (intro w' hS; (try dsimp only at hS); go_simp; try (with_reducible rfl))
          simp only [Act.put, sZ]
          refine tkH (i := 3) (v := ?v21) rfl (Or.inl ⟨by rfl, ?hy21⟩) h0 ?rest21
          case hy21 => (intro w' hS; (try dsimp only at hS); go_simp; try (with_reducible rfl))
          simp only [Act.put, sZ]
          refine wpAnyH_ready (rs := [4]) (by kernel_rfl) (by simp) (AllReadyH.cons rfl (fun K hK => ?_) AllReadyH.nil)
          rw [if_pos (by rfl)]
          go_simp
          refine (CZ.out wc (HM1.out.on Bc.out)).mono ?_
          rintro e wd ⟨rfl, hb⟩
          have Bc := Lib.hid (below_on Bc.out hb)
          clear hb
          obtain ⟨wc, hwc⟩ : ∃ wc, wc = wd := ⟨_, rfl⟩
          rw [← hwc] at Bc ⊢
          clear hwc
          go_simp
          refine hK.out _ _ (KS.out _ Bc.out) (fun h0_1 => ?_)
          clear hK K h0
          refine tkH (i := 5) (v := ?v22) rfl (Or.inl ⟨by rfl, ?hy22⟩) h0_1 ?rest22
          case hy22 => (intro w' hS; (try dsimp only at hS); go_simp; try (with_reducible rfl))
          simp only [Act.put, sZ]
          refine tkH (i := 6) (v := ?v23) rfl (Or.inl ⟨by rfl, ?hy23⟩) h0_1 ?rest23
          case hy23 => (intro w' hS; (try dsimp only at hS); go_simp; try (with_reducible rfl))
          simp only [Act.put, sZ]
          refine tkH (i := 7) (v := undef) rfl (Or.inr ⟨by rfl, rfl⟩) h0_1 ?_
          simp only [Act.put, sZ]
          refine tkH (i := 8) (v := undef) rfl (Or.inr ⟨by rfl, rfl⟩) h0_1 ?_
          simp only [Act.put, sZ]
          refine tkH (i := 9) (v := undef) rfl (Or.inr ⟨by rfl, rfl⟩) h0_1 ?_
          simp only [Act.put, sZ]
          refine tkH (i := 10) (v := undef) rfl (Or.inr ⟨by rfl, rfl⟩) h0_1 ?_
          simp only [Act.put, sZ]
          refine tkH (i := 11) (v := undef) rfl (Or.inr ⟨by rfl, rfl⟩) h0_1 ?_
          simp only [Act.put, sZ]
          refine tkH (i := 12) (v := undef) rfl (Or.inr ⟨by rfl, rfl⟩) h0_1 ?_
          simp only [Act.put, sZ]
          refine tkH (i := 13) (v := undef) rfl (Or.inr ⟨by rfl, rfl⟩) h0_1 ?_
          simp only [Act.put, sZ]
          refine tkH (i := 14) (v := undef) rfl (Or.inr ⟨by rfl, rfl⟩) h0_1 ?_
          simp only [Act.put, sZ]
          refine tkH (i := 15) (v := undef) rfl (Or.inr ⟨by rfl, rfl⟩) h0_1 ?_
          simp only [Act.put, sZ]
          refine tkH (i := 16) (v := undef) rfl (Or.inr ⟨by rfl, rfl⟩) h0_1 ?_
          simp only [Act.put, sZ]
          refine tkH (i := 17) (v := ?v34) rfl (Or.inl ⟨by rfl, ?hy34⟩) h0_1 ?rest34
          case hy34 => (intro w' hS; (try dsimp only at hS); go_simp; try (with_reducible rfl))
          simp only [Act.put, sA, sB, sC, sD]
          try simp only [sF]
          try simp only [sE]
          refine wpAnyH_done (by kernel_rfl) ?_ _
          simp only [Exit.then]
          have BB := Lib.hid Bc.out
          have HC := Lib.hid hc
          have HNN := Lib.hid hc
          clear hc
          go_wp2_with fail
          go_ret
          refine ⟨?_, below_on HB.out.1 BB.out⟩
          have : ckL (L.map ZV.p) = 2 := ckL_bad HLT.out (by rw [ZP.out, YP.out]; first | exact ckZ_no2 HNN.out | exact ckZ_no1 (by rw [← CE.out]; exact HC.out))
          rw [EV.out, this]
          rfl
      · have L0 := Lib.hid (show rchk (L.map ZV.p) = 0 by
          rw [EV.out]
          exact ckL_good fun i h => HF.out i h (by have := HN.out; simp at h; omega))
        clear HF
        go_wp2_with fail
        go_ret
        refine ⟨?_, HB.out.1⟩
        rw [L0.out]; rfl

set_option maxRecDepth 100000 in
set_option maxHeartbeats 8000000 in
theorem bothW_any (L M : List ZV) (go ho : Option Addr) (gc hc : Nat) (w : World) (hL : RdW w go L) (hM : RdW w ho M) (hl : L.length ≤ 1000000) (hm : M.length ≤ 1000000) :
    Calls Tryz.prog 43 #[.slice go L.length gc, .slice ho M.length hc] w (Made (.int .i64 (chkG [L.map ZV.p, M.map ZV.p])) w) := by
  have RL := Lib.hid hL
  have RM := Lib.hid hM
  have CL := Lib.hid (show ∀ W, Below w.heap.size w W → Calls Tryz.prog 12 #[.slice go L.length gc] W (Made (.int .i64 (rchk (L.map ZV.p))) W) from fun W h => rcheckW_any L go gc W (hL.on h) hl)
  have CM := Lib.hid (show ∀ W, Below w.heap.size w W → Calls Tryz.prog 12 #[.slice ho M.length hc] W (Made (.int .i64 (rchk (M.map ZV.p))) W) from fun W h => rcheckW_any M ho hc W (hM.on h) hm)
  obtain ⟨n, hn⟩ : ∃ n, n = L.length := ⟨_, rfl⟩
  obtain ⟨k, hk⟩ : ∃ k, k = M.length := ⟨_, rfl⟩
  have HN := Lib.hid hn
  have HK := Lib.hid hk
  rw [← hn] at CL ⊢
  rw [← hk] at CM ⊢
  have hle : n ≤ 1000000 := by omega
  have hke : k ≤ 1000000 := by omega
  clear hL hM hl hm hn hk
  by_cases h1 : 2000 < n
  · have h1b : (2000 : Int) < n := by omega
    have EV := Lib.hid (show chkG [L.map ZV.p, M.map ZV.p] = 3 from chkG_long (Or.inl (by rw [List.length_map, ← HN.out]; exact h1)))
    go_enter Tryz.func43, Tryz.ntmps43
    go_wp2_with fail
    go_ret
    refine ⟨?_, Below.refl _ _⟩
    rw [EV.out]; rfl
  · have h1b : ¬ (2000 : Int) < n := by omega
    by_cases h2 : 2000 < k
    · have h2b : (2000 : Int) < k := by omega
      have EV := Lib.hid (show chkG [L.map ZV.p, M.map ZV.p] = 3 from chkG_long (Or.inr (by rw [List.length_map, ← HK.out]; exact h2)))
      go_enter Tryz.func43, Tryz.ntmps43
      go_wp2_with fail
      go_ret
      refine ⟨?_, Below.refl _ _⟩
      rw [EV.out]; rfl
    · have h2b : ¬ (2000 : Int) < k := by omega
      have EV := Lib.hid (show chkG [L.map ZV.p, M.map ZV.p] = ckL (L.map ZV.p ++ M.map ZV.p) from chkG_short (by rw [List.length_map, List.length_map, ← HN.out, ← HK.out]; omega))
      have EL := Lib.hid (show rchk (L.map ZV.p) = ckL (L.map ZV.p) by unfold rchk; rw [if_neg (by rw [List.length_map, ← HN.out]; exact h1)])
      have EM := Lib.hid (show rchk (M.map ZV.p) = ckL (M.map ZV.p) by unfold rchk; rw [if_neg (by rw [List.length_map, ← HK.out]; exact h2)])
      rw [EL.out] at CL
      rw [EM.out] at CM
      clear h1 h2 EL EM
      obtain ⟨ca, hca⟩ : ∃ ca, ca = ckL (L.map ZV.p) := ⟨_, rfl⟩
      obtain ⟨cb, hcb⟩ : ∃ cb, cb = ckL (M.map ZV.p) := ⟨_, rfl⟩
      rw [← hca] at CL
      rw [← hcb] at CM
      have HCA := Lib.hid hca
      have HCB := Lib.hid hcb
      clear hca hcb
      by_cases ha0 : ca = 0
      · have ha1 : (ca != 0) = false := by simp [ha0]
        have HA0 := Lib.hid (show ckL (L.map ZV.p) = 0 by rw [← HCA.out]; exact ha0)
        by_cases hb0 : cb = 0
        · have hb1 : (cb != 0) = false := by simp [hb0]
          have HB0 := Lib.hid (show ckL (M.map ZV.p) = 0 by rw [← HCB.out]; exact hb0)
          clear ha0 hb0
          by_cases hn0 : n = 0
          · have L0 := Lib.hid (show L = [] from List.eq_nil_of_length_eq_zero (HN.out.symm.trans hn0))
            have hn1 : decide ((0 : Int) < n) = false := by simp [hn0]
            have hn2 : ¬ (0 : Int) < n := by omega
            have hn3 : decide (0 < n) = false := by simp [hn0]
            clear hn0
            have KV := Lib.hid (show ckL (L.map ZV.p ++ M.map ZV.p) = 0 from by rw [L0.out]; exact ck_nil HB0.out)
            go_enter Tryz.func43, Tryz.ntmps43
            go_upto_region 3 with (fail)
            have KS := Lib.hid (show ∀ W, Below w.heap.size w W → (Below w.heap.size w W ∧ True) from fun W h => ⟨h, trivial⟩)
            obtain ⟨wc, hwc⟩ : ∃ wc, wc = w.drew := ⟨_, rfl⟩
            have Bc := Lib.hid (show Below w.heap.size w wc by rw [hwc]; exact (Below.refl _ _).drew)
            refine wp_region_held_drew (S := (fun W => (Below w.heap.size w W ∧ True))) (by kernel_rfl) (by rw [← hwc]; exact KS.out _ Bc.out) (fun h0 => ?_)
            rw [← hwc] at h0 ⊢
            clear hwc
            refine tkH (i := 0) (v := ?v1) rfl (Or.inl ⟨by rfl, ?hy1⟩) h0 ?rest1
            case hy1 => (intro w' hS; (try dsimp only at hS); go_simp; try (with_reducible rfl))
            simp only [Act.put, sA, sB, sD, sE, sF]
            refine wpAnyH_ready (rs := [1]) (by kernel_rfl) (by simp) (AllReadyH.cons rfl (fun K hK => ?_) AllReadyH.nil)
            rw [if_pos (by rfl)]
            go_simp
            refine (CL.out wc Bc.out).mono ?_
            rintro e wd ⟨rfl, hb⟩
            have Bc := Lib.hid (below_on Bc.out hb)
            clear hb
            obtain ⟨wc, hwc⟩ : ∃ wc, wc = wd := ⟨_, rfl⟩
            rw [← hwc] at Bc ⊢
            clear hwc
            go_simp
            refine hK.out _ _ (KS.out _ Bc.out) (fun h0_1 => ?_)
            clear hK K h0
            refine tkH (i := 2) (v := ?v2) rfl (Or.inl ⟨by rfl, ?hy2⟩) h0_1 ?rest2
            case hy2 => (intro w' hS; (try dsimp only at hS); go_simp; try (with_reducible rfl))
            simp only [Act.put, sZ]
            refine tkH (i := 3) (v := ?v3) rfl (Or.inl ⟨by rfl, ?hy3⟩) h0_1 ?rest3
            case hy3 => (intro w' hS; (try dsimp only at hS); go_simp; try (with_reducible rfl))
            simp only [Act.put, sZ]
            refine tkH (i := 4) (v := ?v4) rfl (Or.inl ⟨by rfl, ?hy4⟩) h0_1 ?rest4
            case hy4 => (intro w' hS; (try dsimp only at hS); go_simp; try (with_reducible rfl))
            simp only [Act.put, sZ]
            refine wpAnyH_ready (rs := [5]) (by kernel_rfl) (by simp) (AllReadyH.cons rfl (fun K hK => ?_) AllReadyH.nil)
            rw [if_pos (by rfl)]
            go_simp
            refine (CM.out wc Bc.out).mono ?_
            rintro e wd ⟨rfl, hb⟩
            have Bc := Lib.hid (below_on Bc.out hb)
            clear hb
            obtain ⟨wc, hwc⟩ : ∃ wc, wc = wd := ⟨_, rfl⟩
            rw [← hwc] at Bc ⊢
            clear hwc
            go_simp
            refine hK.out _ _ (KS.out _ Bc.out) (fun h0_2 => ?_)
            clear hK K h0_1
            refine tkH (i := 6) (v := ?v5) rfl (Or.inl ⟨by rfl, ?hy5⟩) h0_2 ?rest5
            case hy5 => (intro w' hS; (try dsimp only at hS); go_simp; try (with_reducible rfl))
            simp only [Act.put, sZ]
            refine tkH (i := 7) (v := ?v6) rfl (Or.inl ⟨by rfl, ?hy6⟩) h0_2 ?rest6
            case hy6 => (intro w' hS; (try dsimp only at hS); go_simp; try (with_reducible rfl))
            simp only [Act.put, sZ]
            refine tkH (i := 8) (v := ?v7) rfl (Or.inl ⟨by rfl, ?hy7⟩) h0_2 ?rest7
            case hy7 => (intro w' hS; (try dsimp only at hS); go_simp; try (with_reducible rfl))
            simp only [Act.put, sZ]
            refine tkH (i := 9) (v := ?v8) rfl (Or.inl ⟨by rfl, ?hy8⟩) h0_2 ?rest8
            case hy8 => (intro w' hS; (try dsimp only at hS); go_simp; try (with_reducible rfl))
            simp only [Act.put, sZ]
            refine tkH (i := 10) (v := ?v9) rfl (Or.inl ⟨by rfl, ?hy9⟩) h0_2 ?rest9
            case hy9 => (intro w' hS; (try dsimp only at hS); go_simp; try (with_reducible rfl))
            simp only [Act.put, sZ]
            refine tkH (i := 11) (v := ?v10) rfl (Or.inl ⟨by rfl, ?hy10⟩) h0_2 ?rest10
            case hy10 => (intro w' hS; (try dsimp only at hS); go_simp; try (with_reducible rfl))
            simp only [Act.put, sZ]
            refine tkH (i := 12) (v := ?v11) rfl (Or.inl ⟨by rfl, ?hy11⟩) h0_2 ?rest11
            case hy11 => (intro w' hS; (try dsimp only at hS); go_simp; try (with_reducible rfl))
            simp only [Act.put, sZ]
            refine tkH (i := 13) (v := undef) rfl (Or.inr ⟨by rfl, rfl⟩) h0_2 ?_
            simp only [Act.put, sZ]
            refine tkH (i := 14) (v := undef) rfl (Or.inr ⟨by rfl, rfl⟩) h0_2 ?_
            simp only [Act.put, sZ]
            refine tkH (i := 15) (v := undef) rfl (Or.inr ⟨by rfl, rfl⟩) h0_2 ?_
            simp only [Act.put, sZ]
            refine tkH (i := 16) (v := ?v15) rfl (Or.inl ⟨by rfl, ?hy15⟩) h0_2 ?rest15
            case hy15 => (intro w' hS; (try dsimp only at hS); go_simp; try (with_reducible rfl))
            simp only [Act.put, sZ]
            refine tkH (i := 17) (v := ?v16) rfl (Or.inl ⟨by rfl, ?hy16⟩) h0_2 ?rest16
            case hy16 => (intro w' hS; (try dsimp only at hS); go_simp; try (with_reducible rfl))
            simp only [Act.put, sZ]
            refine tkH (i := 18) (v := undef) rfl (Or.inr ⟨by rfl, rfl⟩) h0_2 ?_
            simp only [Act.put, sZ]
            refine tkH (i := 19) (v := undef) rfl (Or.inr ⟨by rfl, rfl⟩) h0_2 ?_
            simp only [Act.put, sZ]
            refine tkH (i := 20) (v := undef) rfl (Or.inr ⟨by rfl, rfl⟩) h0_2 ?_
            simp only [Act.put, sZ]
            refine tkH (i := 21) (v := undef) rfl (Or.inr ⟨by rfl, rfl⟩) h0_2 ?_
            simp only [Act.put, sZ]
            refine tkH (i := 22) (v := undef) rfl (Or.inr ⟨by rfl, rfl⟩) h0_2 ?_
            simp only [Act.put, sZ]
            refine tkH (i := 23) (v := undef) rfl (Or.inr ⟨by rfl, rfl⟩) h0_2 ?_
            simp only [Act.put, sZ]
            refine tkH (i := 24) (v := undef) rfl (Or.inr ⟨by rfl, rfl⟩) h0_2 ?_
            simp only [Act.put, sZ]
            refine tkH (i := 25) (v := undef) rfl (Or.inr ⟨by rfl, rfl⟩) h0_2 ?_
            simp only [Act.put, sZ]
            refine tkH (i := 26) (v := undef) rfl (Or.inr ⟨by rfl, rfl⟩) h0_2 ?_
            simp only [Act.put, sZ]
            refine tkH (i := 27) (v := ?v26) rfl (Or.inl ⟨by rfl, ?hy26⟩) h0_2 ?rest26
            case hy26 => (intro w' hS; (try dsimp only at hS); go_simp; try (with_reducible rfl))
            simp only [Act.put, sZ]
            refine tkH (i := 28) (v := ?v27) rfl (Or.inl ⟨by rfl, ?hy27⟩) h0_2 ?rest27
            case hy27 => (intro w' hS; (try dsimp only at hS); go_simp; try (with_reducible rfl))
            simp only [Act.put, sA, sB, sC, sD]
            try simp only [sF]
            try simp only [sE]
            refine wpAnyH_done (by kernel_rfl) ?_ _
            simp only [Exit.then]
            have BB := Lib.hid Bc.out
            skip
            go_wp2_with fail
            go_ret
            refine ⟨?_, BB.out⟩
            rw [EV.out, KV.out]
            rfl
          · have hn1 : decide ((0 : Int) < n) = true := by simp; omega
            have hn2 : (0 : Int) < n := by omega
            have hn3 : decide (0 < n) = true := by simp; omega
            by_cases hk0 : k = 0
            · have M0 := Lib.hid (show M = [] from List.eq_nil_of_length_eq_zero (HK.out.symm.trans hk0))
              have hk1 : decide ((0 : Int) < k) = false := by simp [hk0]
              have hk2 : ¬ (0 : Int) < k := by omega
              have hk3 : decide (0 < k) = false := by simp [hk0]
              clear hk0 hn0
              have KV := Lib.hid (show ckL (L.map ZV.p ++ M.map ZV.p) = 0 from by rw [M0.out]; exact ck_nil2 HA0.out)
              go_enter Tryz.func43, Tryz.ntmps43
              go_upto_region 3 with (fail)
              have KS := Lib.hid (show ∀ W, Below w.heap.size w W → (Below w.heap.size w W ∧ True) from fun W h => ⟨h, trivial⟩)
              obtain ⟨wc, hwc⟩ : ∃ wc, wc = w.drew := ⟨_, rfl⟩
              have Bc := Lib.hid (show Below w.heap.size w wc by rw [hwc]; exact (Below.refl _ _).drew)
              refine wp_region_held_drew (S := (fun W => (Below w.heap.size w W ∧ True))) (by kernel_rfl) (by rw [← hwc]; exact KS.out _ Bc.out) (fun h0 => ?_)
              rw [← hwc] at h0 ⊢
              clear hwc
              refine tkH (i := 0) (v := ?v28) rfl (Or.inl ⟨by rfl, ?hy28⟩) h0 ?rest28
              case hy28 => (intro w' hS; (try dsimp only at hS); go_simp; try (with_reducible rfl))
              simp only [Act.put, sA, sB, sD, sE, sF]
              refine wpAnyH_ready (rs := [1]) (by kernel_rfl) (by simp) (AllReadyH.cons rfl (fun K hK => ?_) AllReadyH.nil)
              rw [if_pos (by rfl)]
              go_simp
              refine (CL.out wc Bc.out).mono ?_
              rintro e wd ⟨rfl, hb⟩
              have Bc := Lib.hid (below_on Bc.out hb)
              clear hb
              obtain ⟨wc, hwc⟩ : ∃ wc, wc = wd := ⟨_, rfl⟩
              rw [← hwc] at Bc ⊢
              clear hwc
              go_simp
              refine hK.out _ _ (KS.out _ Bc.out) (fun h0_1 => ?_)
              clear hK K h0
              refine tkH (i := 2) (v := ?v29) rfl (Or.inl ⟨by rfl, ?hy29⟩) h0_1 ?rest29
              case hy29 => (intro w' hS; (try dsimp only at hS); go_simp; try (with_reducible rfl))
              simp only [Act.put, sZ]
              refine tkH (i := 3) (v := ?v30) rfl (Or.inl ⟨by rfl, ?hy30⟩) h0_1 ?rest30
              case hy30 => (intro w' hS; (try dsimp only at hS); go_simp; try (with_reducible rfl))
              simp only [Act.put, sZ]
              refine tkH (i := 4) (v := ?v31) rfl (Or.inl ⟨by rfl, ?hy31⟩) h0_1 ?rest31
              case hy31 => (intro w' hS; (try dsimp only at hS); go_simp; try (with_reducible rfl))
              simp only [Act.put, sZ]
              refine wpAnyH_ready (rs := [5]) (by kernel_rfl) (by simp) (AllReadyH.cons rfl (fun K hK => ?_) AllReadyH.nil)
              rw [if_pos (by rfl)]
              go_simp
              refine (CM.out wc Bc.out).mono ?_
              rintro e wd ⟨rfl, hb⟩
              have Bc := Lib.hid (below_on Bc.out hb)
              clear hb
              obtain ⟨wc, hwc⟩ : ∃ wc, wc = wd := ⟨_, rfl⟩
              rw [← hwc] at Bc ⊢
              clear hwc
              go_simp
              refine hK.out _ _ (KS.out _ Bc.out) (fun h0_2 => ?_)
              clear hK K h0_1
              refine tkH (i := 6) (v := ?v32) rfl (Or.inl ⟨by rfl, ?hy32⟩) h0_2 ?rest32
              case hy32 => (intro w' hS; (try dsimp only at hS); go_simp; try (with_reducible rfl))
              simp only [Act.put, sZ]
              refine tkH (i := 7) (v := ?v33) rfl (Or.inl ⟨by rfl, ?hy33⟩) h0_2 ?rest33
              case hy33 => (intro w' hS; (try dsimp only at hS); go_simp; try (with_reducible rfl))
              simp only [Act.put, sZ]
              refine tkH (i := 8) (v := ?v34) rfl (Or.inl ⟨by rfl, ?hy34⟩) h0_2 ?rest34
              case hy34 => (intro w' hS; (try dsimp only at hS); go_simp; try (with_reducible rfl))
              simp only [Act.put, sZ]
              refine tkH (i := 9) (v := ?v35) rfl (Or.inl ⟨by rfl, ?hy35⟩) h0_2 ?rest35
              case hy35 => (intro w' hS; (try dsimp only at hS); go_simp; try (with_reducible rfl))
              simp only [Act.put, sZ]
              refine tkH (i := 10) (v := ?v36) rfl (Or.inl ⟨by rfl, ?hy36⟩) h0_2 ?rest36
              case hy36 => (intro w' hS; (try dsimp only at hS); go_simp; try (with_reducible rfl))
              simp only [Act.put, sZ]
              refine tkH (i := 11) (v := ?v37) rfl (Or.inl ⟨by rfl, ?hy37⟩) h0_2 ?rest37
              case hy37 => (intro w' hS; (try dsimp only at hS); go_simp; try (with_reducible rfl))
              simp only [Act.put, sZ]
              refine tkH (i := 12) (v := ?v38) rfl (Or.inl ⟨by rfl, ?hy38⟩) h0_2 ?rest38
              case hy38 => (intro w' hS; (try dsimp only at hS); go_simp; try (with_reducible rfl))
              simp only [Act.put, sZ]
              refine tkH (i := 13) (v := ?v39) rfl (Or.inl ⟨by rfl, ?hy39⟩) h0_2 ?rest39
              case hy39 => (intro w' hS; (try dsimp only at hS); go_simp; try (with_reducible rfl))
              simp only [Act.put, sZ]
              refine tkH (i := 14) (v := ?v40) rfl (Or.inl ⟨by rfl, ?hy40⟩) h0_2 ?rest40
              case hy40 => (intro w' hS; (try dsimp only at hS); go_simp; try (with_reducible rfl))
              simp only [Act.put, sZ]
              refine tkH (i := 15) (v := ?v41) rfl (Or.inl ⟨by rfl, ?hy41⟩) h0_2 ?rest41
              case hy41 => (intro w' hS; (try dsimp only at hS); go_simp; try (with_reducible rfl))
              simp only [Act.put, sZ]
              refine tkH (i := 16) (v := ?v42) rfl (Or.inl ⟨by rfl, ?hy42⟩) h0_2 ?rest42
              case hy42 => (intro w' hS; (try dsimp only at hS); go_simp; try (with_reducible rfl))
              simp only [Act.put, sZ]
              refine tkH (i := 17) (v := ?v43) rfl (Or.inl ⟨by rfl, ?hy43⟩) h0_2 ?rest43
              case hy43 => (intro w' hS; (try dsimp only at hS); go_simp; try (with_reducible rfl))
              simp only [Act.put, sZ]
              refine tkH (i := 18) (v := undef) rfl (Or.inr ⟨by rfl, rfl⟩) h0_2 ?_
              simp only [Act.put, sZ]
              refine tkH (i := 19) (v := undef) rfl (Or.inr ⟨by rfl, rfl⟩) h0_2 ?_
              simp only [Act.put, sZ]
              refine tkH (i := 20) (v := undef) rfl (Or.inr ⟨by rfl, rfl⟩) h0_2 ?_
              simp only [Act.put, sZ]
              refine tkH (i := 21) (v := undef) rfl (Or.inr ⟨by rfl, rfl⟩) h0_2 ?_
              simp only [Act.put, sZ]
              refine tkH (i := 22) (v := undef) rfl (Or.inr ⟨by rfl, rfl⟩) h0_2 ?_
              simp only [Act.put, sZ]
              refine tkH (i := 23) (v := undef) rfl (Or.inr ⟨by rfl, rfl⟩) h0_2 ?_
              simp only [Act.put, sZ]
              refine tkH (i := 24) (v := undef) rfl (Or.inr ⟨by rfl, rfl⟩) h0_2 ?_
              simp only [Act.put, sZ]
              refine tkH (i := 25) (v := undef) rfl (Or.inr ⟨by rfl, rfl⟩) h0_2 ?_
              simp only [Act.put, sZ]
              refine tkH (i := 26) (v := undef) rfl (Or.inr ⟨by rfl, rfl⟩) h0_2 ?_
              simp only [Act.put, sZ]
              refine tkH (i := 27) (v := ?v53) rfl (Or.inl ⟨by rfl, ?hy53⟩) h0_2 ?rest53
              case hy53 => (intro w' hS; (try dsimp only at hS); go_simp; try (with_reducible rfl))
              simp only [Act.put, sZ]
              refine tkH (i := 28) (v := ?v54) rfl (Or.inl ⟨by rfl, ?hy54⟩) h0_2 ?rest54
              case hy54 => (intro w' hS; (try dsimp only at hS); go_simp; try (with_reducible rfl))
              simp only [Act.put, sA, sB, sC, sD]
              try simp only [sF]
              try simp only [sE]
              refine wpAnyH_done (by kernel_rfl) ?_ _
              simp only [Exit.then]
              have BB := Lib.hid Bc.out
              skip
              go_wp2_with fail
              go_ret
              refine ⟨?_, BB.out⟩
              rw [EV.out, KV.out]
              rfl
            · have hk1 : decide ((0 : Int) < k) = true := by simp; omega
              have hk2 : (0 : Int) < k := by omega
              have hk3 : decide (0 < k) = true := by simp; omega
              obtain ⟨x, X, hX⟩ : ∃ x X, L = x :: X := by
                cases hL : L with
                | nil => exact absurd (by rw [HN.out, hL]; rfl) hn0
                | cons x X => exact ⟨x, X, rfl⟩
              obtain ⟨y, Y, hY⟩ : ∃ y Y, M = y :: Y := by
                cases hM : M with
                | nil => exact absurd (by rw [HK.out, hM]; rfl) hk0
                | cons y Y => exact ⟨y, Y, rfl⟩
              obtain ⟨a, ea, g0, _⟩ := RL.out.hd 0 (by rw [← HN.out]; omega)
              obtain ⟨b, eb, g1, _⟩ := RM.out.hd 0 (by rw [← HK.out]; omega)
              rw [add_nil2] at g0 g1
              have G0 := Lib.hid (show w.cell? a = some (.int .i64 x.N) by simp only [hX, List.getElem_cons_zero] at g0; exact g0)
              have G1 := Lib.hid (show w.cell? b = some (.int .i64 y.N) by simp only [hY, List.getElem_cons_zero] at g1; exact g1)
              have HX := Lib.hid hX
              have HY := Lib.hid hY
              have A0 := Lib.hid (show ckL (x.p :: X.map ZV.p) = 0 by have := HA0.out; rw [hX] at this; exact this)
              have B0 := Lib.hid (show ckL (y.p :: Y.map ZV.p) = 0 by have := HB0.out; rw [hY] at this; exact this)
              clear g0 g1 hX hY hn0 hk0
              subst ea eb
              have n0 : 0 < n := by omega
              have k0 : 0 < k := by omega
              by_cases hN : x.N = y.N
              · have hN2 : (x.N != y.N) = false := by simp [hN]
                have KN := Lib.hid hN
                clear hN
                have KV := Lib.hid (show ckL (L.map ZV.p ++ M.map ZV.p) = 0 from by rw [HX.out, HY.out]; exact ck_same A0.out B0.out KN.out)
                go_enter Tryz.func43, Tryz.ntmps43
                go_upto_region 3 with (fail)
                have KS := Lib.hid (show ∀ W, Below w.heap.size w W → (W.cell? a = some (.int .i64 x.N) ∧ W.cell? b = some (.int .i64 y.N)) from fun W h => ⟨kept h G0.out, kept h G1.out⟩)
                obtain ⟨wc, hwc⟩ : ∃ wc, wc = w.drew := ⟨_, rfl⟩
                have Bc := Lib.hid (show Below w.heap.size w wc by rw [hwc]; exact (Below.refl _ _).drew)
                refine wp_region_held_drew (S := (fun W => (W.cell? a = some (.int .i64 x.N) ∧ W.cell? b = some (.int .i64 y.N)))) (by kernel_rfl) (by rw [← hwc]; exact KS.out _ Bc.out) (fun h0 => ?_)
                rw [← hwc] at h0 ⊢
                clear hwc
                refine tkH (i := 0) (v := ?v55) rfl (Or.inl ⟨by rfl, ?hy55⟩) h0 ?rest55
                case hy55 => (intro w' hS; (try dsimp only at hS); go_simp; try (with_reducible rfl))
                simp only [Act.put, sA, sB, sD, sE, sF]
                refine wpAnyH_ready (rs := [1]) (by kernel_rfl) (by simp) (AllReadyH.cons rfl (fun K hK => ?_) AllReadyH.nil)
                rw [if_pos (by rfl)]
                go_simp
                refine (CL.out wc Bc.out).mono ?_
                rintro e wd ⟨rfl, hb⟩
                have Bc := Lib.hid (below_on Bc.out hb)
                clear hb
                obtain ⟨wc, hwc⟩ : ∃ wc, wc = wd := ⟨_, rfl⟩
                rw [← hwc] at Bc ⊢
                clear hwc
                go_simp
                refine hK.out _ _ (KS.out _ Bc.out) (fun h0_1 => ?_)
                clear hK K h0
                refine tkH (i := 2) (v := ?v56) rfl (Or.inl ⟨by rfl, ?hy56⟩) h0_1 ?rest56
                case hy56 => (intro w' hS; (try dsimp only at hS); go_simp; try (with_reducible rfl))
                simp only [Act.put, sZ]
                refine tkH (i := 3) (v := ?v57) rfl (Or.inl ⟨by rfl, ?hy57⟩) h0_1 ?rest57
                case hy57 => (intro w' hS; (try dsimp only at hS); go_simp; try (with_reducible rfl))
                simp only [Act.put, sZ]
                refine tkH (i := 4) (v := ?v58) rfl (Or.inl ⟨by rfl, ?hy58⟩) h0_1 ?rest58
                case hy58 => (intro w' hS; (try dsimp only at hS); go_simp; try (with_reducible rfl))
                simp only [Act.put, sZ]
                refine wpAnyH_ready (rs := [5]) (by kernel_rfl) (by simp) (AllReadyH.cons rfl (fun K hK => ?_) AllReadyH.nil)
                rw [if_pos (by rfl)]
                go_simp
                refine (CM.out wc Bc.out).mono ?_
                rintro e wd ⟨rfl, hb⟩
                have Bc := Lib.hid (below_on Bc.out hb)
                clear hb
                obtain ⟨wc, hwc⟩ : ∃ wc, wc = wd := ⟨_, rfl⟩
                rw [← hwc] at Bc ⊢
                clear hwc
                go_simp
                refine hK.out _ _ (KS.out _ Bc.out) (fun h0_2 => ?_)
                clear hK K h0_1
                refine tkH (i := 6) (v := ?v59) rfl (Or.inl ⟨by rfl, ?hy59⟩) h0_2 ?rest59
                case hy59 => (intro w' hS; (try dsimp only at hS); go_simp; try (with_reducible rfl))
                simp only [Act.put, sZ]
                refine tkH (i := 7) (v := ?v60) rfl (Or.inl ⟨by rfl, ?hy60⟩) h0_2 ?rest60
                case hy60 => (intro w' hS; (try dsimp only at hS); go_simp; try (with_reducible rfl))
                simp only [Act.put, sZ]
                refine tkH (i := 8) (v := ?v61) rfl (Or.inl ⟨by rfl, ?hy61⟩) h0_2 ?rest61
                case hy61 => (intro w' hS; (try dsimp only at hS); go_simp; try (with_reducible rfl))
                simp only [Act.put, sZ]
                refine tkH (i := 9) (v := ?v62) rfl (Or.inl ⟨by rfl, ?hy62⟩) h0_2 ?rest62
                case hy62 => (intro w' hS; (try dsimp only at hS); go_simp; try (with_reducible rfl))
                simp only [Act.put, sZ]
                refine tkH (i := 10) (v := ?v63) rfl (Or.inl ⟨by rfl, ?hy63⟩) h0_2 ?rest63
                case hy63 => (intro w' hS; (try dsimp only at hS); go_simp; try (with_reducible rfl))
                simp only [Act.put, sZ]
                refine tkH (i := 11) (v := ?v64) rfl (Or.inl ⟨by rfl, ?hy64⟩) h0_2 ?rest64
                case hy64 => (intro w' hS; (try dsimp only at hS); go_simp; try (with_reducible rfl))
                simp only [Act.put, sZ]
                refine tkH (i := 12) (v := ?v65) rfl (Or.inl ⟨by rfl, ?hy65⟩) h0_2 ?rest65
                case hy65 => (intro w' hS; (try dsimp only at hS); go_simp; try (with_reducible rfl))
                simp only [Act.put, sZ]
                refine tkH (i := 13) (v := ?v66) rfl (Or.inl ⟨by rfl, ?hy66⟩) h0_2 ?rest66
                case hy66 => (intro w' hS; (try dsimp only at hS); go_simp; try (with_reducible rfl))
                simp only [Act.put, sZ]
                refine tkH (i := 14) (v := ?v67) rfl (Or.inl ⟨by rfl, ?hy67⟩) h0_2 ?rest67
                case hy67 => (intro w' hS; (try dsimp only at hS); go_simp; try (with_reducible rfl))
                simp only [Act.put, sZ]
                refine tkH (i := 15) (v := ?v68) rfl (Or.inl ⟨by rfl, ?hy68⟩) h0_2 ?rest68
                case hy68 => (intro w' hS; (try dsimp only at hS); go_simp; try (with_reducible rfl))
                simp only [Act.put, sZ]
                refine tkH (i := 16) (v := ?v69) rfl (Or.inl ⟨by rfl, ?hy69⟩) h0_2 ?rest69
                case hy69 => (intro w' hS; (try dsimp only at hS); go_simp; try (with_reducible rfl))
                simp only [Act.put, sZ]
                refine tkH (i := 17) (v := ?v70) rfl (Or.inl ⟨by rfl, ?hy70⟩) h0_2 ?rest70
                case hy70 => (intro w' hS; (try dsimp only at hS); go_simp; try (with_reducible rfl))
                simp only [Act.put, sZ]
                refine tkH (i := 18) (v := ?v71) rfl (Or.inl ⟨by rfl, ?hy71⟩) h0_2 ?rest71
                case hy71 => (intro w' hS; (try dsimp only at hS); go_simp; try (with_reducible rfl))
                simp only [Act.put, sZ]
                refine tkH (i := 19) (v := ?v72) rfl (Or.inl ⟨by rfl, ?hy72⟩) h0_2 ?rest72
                case hy72 => (intro w' hS; (try dsimp only at hS); go_simp; try (with_reducible rfl))
                simp only [Act.put, sZ]
                refine tkH (i := 20) (v := ?v73) rfl (Or.inl ⟨by rfl, ?hy73⟩) h0_2 ?rest73
                case hy73 => (intro w' hS; (try dsimp only at hS); go_simp; try (with_reducible rfl))
                simp only [Act.put, sZ]
                refine tkH (i := 21) (v := ?v74) rfl (Or.inl ⟨by rfl, ?hy74⟩) h0_2 ?rest74
                case hy74 => (intro w' hS; (try dsimp only at hS); go_simp; try (with_reducible rfl))
                simp only [Act.put, sZ]
                refine tkH (i := 22) (v := ?v75) rfl (Or.inl ⟨by rfl, ?hy75⟩) h0_2 ?rest75
                case hy75 => (intro w' hS; (try dsimp only at hS); go_simp; try (with_reducible rfl))
                simp only [Act.put, sZ]
                refine tkH (i := 23) (v := ?v76) rfl (Or.inl ⟨by rfl, ?hy76⟩) h0_2 ?rest76
                case hy76 => (intro w' hS; (try dsimp only at hS); go_simp; try (with_reducible rfl))
                simp only [Act.put, sZ]
                refine tkH (i := 24) (v := ?v77) rfl (Or.inl ⟨by rfl, ?hy77⟩) h0_2 ?rest77
                case hy77 => (intro w' hS; (try dsimp only at hS); go_simp; try (with_reducible rfl))
                simp only [Act.put, sZ]
                refine tkH (i := 25) (v := ?v78) rfl (Or.inl ⟨by rfl, ?hy78⟩) h0_2 ?rest78
                case hy78 => (intro w' hS; (try dsimp only at hS); go_simp; try (with_reducible rfl))
                simp only [Act.put, sZ]
                refine tkH (i := 26) (v := ?v79) rfl (Or.inl ⟨by rfl, ?hy79⟩) h0_2 ?rest79
                case hy79 => (intro w' hS; (try dsimp only at hS); go_simp; try (with_reducible rfl))
                simp only [Act.put, sZ]
                refine tkH (i := 27) (v := ?v80) rfl (Or.inl ⟨by rfl, ?hy80⟩) h0_2 ?rest80
                case hy80 => (intro w' hS; (try dsimp only at hS); go_simp; try (with_reducible rfl))
                simp only [Act.put, sZ]
                refine tkH (i := 28) (v := ?v81) rfl (Or.inl ⟨by rfl, ?hy81⟩) h0_2 ?rest81
                case hy81 => (intro w' hS; (try dsimp only at hS); go_simp; try (with_reducible rfl))
                simp only [Act.put, sA, sB, sC, sD]
                try simp only [sF]
                try simp only [sE]
                refine wpAnyH_done (by kernel_rfl) ?_ _
                simp only [Exit.then]
                have BB := Lib.hid Bc.out
                skip
                go_wp2_with fail
                go_ret
                refine ⟨?_, BB.out⟩
                rw [EV.out, KV.out]
                rfl
              · have hN2 : (x.N != y.N) = true := by simpa using hN
                have KN := Lib.hid hN
                clear hN
                have KV := Lib.hid (show ckL (L.map ZV.p ++ M.map ZV.p) = 2 from by rw [HX.out, HY.out]; exact ck_diff KN.out)
                go_enter Tryz.func43, Tryz.ntmps43
                go_upto_region 3 with (fail)
                have KS := Lib.hid (show ∀ W, Below w.heap.size w W → (W.cell? a = some (.int .i64 x.N) ∧ W.cell? b = some (.int .i64 y.N)) from fun W h => ⟨kept h G0.out, kept h G1.out⟩)
                obtain ⟨wc, hwc⟩ : ∃ wc, wc = w.drew := ⟨_, rfl⟩
                have Bc := Lib.hid (show Below w.heap.size w wc by rw [hwc]; exact (Below.refl _ _).drew)
                refine wp_region_held_drew (S := (fun W => (W.cell? a = some (.int .i64 x.N) ∧ W.cell? b = some (.int .i64 y.N)))) (by kernel_rfl) (by rw [← hwc]; exact KS.out _ Bc.out) (fun h0 => ?_)
                rw [← hwc] at h0 ⊢
                clear hwc
                refine tkH (i := 0) (v := ?v82) rfl (Or.inl ⟨by rfl, ?hy82⟩) h0 ?rest82
                case hy82 => (intro w' hS; (try dsimp only at hS); go_simp; try (with_reducible rfl))
                simp only [Act.put, sA, sB, sD, sE, sF]
                refine wpAnyH_ready (rs := [1]) (by kernel_rfl) (by simp) (AllReadyH.cons rfl (fun K hK => ?_) AllReadyH.nil)
                rw [if_pos (by rfl)]
                go_simp
                refine (CL.out wc Bc.out).mono ?_
                rintro e wd ⟨rfl, hb⟩
                have Bc := Lib.hid (below_on Bc.out hb)
                clear hb
                obtain ⟨wc, hwc⟩ : ∃ wc, wc = wd := ⟨_, rfl⟩
                rw [← hwc] at Bc ⊢
                clear hwc
                go_simp
                refine hK.out _ _ (KS.out _ Bc.out) (fun h0_1 => ?_)
                clear hK K h0
                refine tkH (i := 2) (v := ?v83) rfl (Or.inl ⟨by rfl, ?hy83⟩) h0_1 ?rest83
                case hy83 => (intro w' hS; (try dsimp only at hS); go_simp; try (with_reducible rfl))
                simp only [Act.put, sZ]
                refine tkH (i := 3) (v := ?v84) rfl (Or.inl ⟨by rfl, ?hy84⟩) h0_1 ?rest84
                case hy84 => (intro w' hS; (try dsimp only at hS); go_simp; try (with_reducible rfl))
                simp only [Act.put, sZ]
                refine tkH (i := 4) (v := ?v85) rfl (Or.inl ⟨by rfl, ?hy85⟩) h0_1 ?rest85
                case hy85 => (intro w' hS; (try dsimp only at hS); go_simp; try (with_reducible rfl))
                simp only [Act.put, sZ]
                refine wpAnyH_ready (rs := [5]) (by kernel_rfl) (by simp) (AllReadyH.cons rfl (fun K hK => ?_) AllReadyH.nil)
                rw [if_pos (by rfl)]
                go_simp
                refine (CM.out wc Bc.out).mono ?_
                rintro e wd ⟨rfl, hb⟩
                have Bc := Lib.hid (below_on Bc.out hb)
                clear hb
                obtain ⟨wc, hwc⟩ : ∃ wc, wc = wd := ⟨_, rfl⟩
                rw [← hwc] at Bc ⊢
                clear hwc
                go_simp
                refine hK.out _ _ (KS.out _ Bc.out) (fun h0_2 => ?_)
                clear hK K h0_1
                refine tkH (i := 6) (v := ?v86) rfl (Or.inl ⟨by rfl, ?hy86⟩) h0_2 ?rest86
                case hy86 => (intro w' hS; (try dsimp only at hS); go_simp; try (with_reducible rfl))
                simp only [Act.put, sZ]
                refine tkH (i := 7) (v := ?v87) rfl (Or.inl ⟨by rfl, ?hy87⟩) h0_2 ?rest87
                case hy87 => (intro w' hS; (try dsimp only at hS); go_simp; try (with_reducible rfl))
                simp only [Act.put, sZ]
                refine tkH (i := 8) (v := ?v88) rfl (Or.inl ⟨by rfl, ?hy88⟩) h0_2 ?rest88
                case hy88 => (intro w' hS; (try dsimp only at hS); go_simp; try (with_reducible rfl))
                simp only [Act.put, sZ]
                refine tkH (i := 9) (v := ?v89) rfl (Or.inl ⟨by rfl, ?hy89⟩) h0_2 ?rest89
                case hy89 => (intro w' hS; (try dsimp only at hS); go_simp; try (with_reducible rfl))
                simp only [Act.put, sZ]
                refine tkH (i := 10) (v := ?v90) rfl (Or.inl ⟨by rfl, ?hy90⟩) h0_2 ?rest90
                case hy90 => (intro w' hS; (try dsimp only at hS); go_simp; try (with_reducible rfl))
                simp only [Act.put, sZ]
                refine tkH (i := 11) (v := ?v91) rfl (Or.inl ⟨by rfl, ?hy91⟩) h0_2 ?rest91
                case hy91 => (intro w' hS; (try dsimp only at hS); go_simp; try (with_reducible rfl))
                simp only [Act.put, sZ]
                refine tkH (i := 12) (v := ?v92) rfl (Or.inl ⟨by rfl, ?hy92⟩) h0_2 ?rest92
                case hy92 => (intro w' hS; (try dsimp only at hS); go_simp; try (with_reducible rfl))
                simp only [Act.put, sZ]
                refine tkH (i := 13) (v := ?v93) rfl (Or.inl ⟨by rfl, ?hy93⟩) h0_2 ?rest93
                case hy93 => (intro w' hS; (try dsimp only at hS); go_simp; try (with_reducible rfl))
                simp only [Act.put, sZ]
                refine tkH (i := 14) (v := ?v94) rfl (Or.inl ⟨by rfl, ?hy94⟩) h0_2 ?rest94
                case hy94 => (intro w' hS; (try dsimp only at hS); go_simp; try (with_reducible rfl))
                simp only [Act.put, sZ]
                refine tkH (i := 15) (v := ?v95) rfl (Or.inl ⟨by rfl, ?hy95⟩) h0_2 ?rest95
                case hy95 => (intro w' hS; (try dsimp only at hS); go_simp; try (with_reducible rfl))
                simp only [Act.put, sZ]
                refine tkH (i := 16) (v := ?v96) rfl (Or.inl ⟨by rfl, ?hy96⟩) h0_2 ?rest96
                case hy96 => (intro w' hS; (try dsimp only at hS); go_simp; try (with_reducible rfl))
                simp only [Act.put, sZ]
                refine tkH (i := 17) (v := ?v97) rfl (Or.inl ⟨by rfl, ?hy97⟩) h0_2 ?rest97
                case hy97 => (intro w' hS; (try dsimp only at hS); go_simp; try (with_reducible rfl))
                simp only [Act.put, sZ]
                refine tkH (i := 18) (v := ?v98) rfl (Or.inl ⟨by rfl, ?hy98⟩) h0_2 ?rest98
                case hy98 => (intro w' hS; (try dsimp only at hS); go_simp; try (with_reducible rfl))
                simp only [Act.put, sZ]
                refine tkH (i := 19) (v := ?v99) rfl (Or.inl ⟨by rfl, ?hy99⟩) h0_2 ?rest99
                case hy99 => (intro w' hS; (try dsimp only at hS); go_simp; try (with_reducible rfl))
                simp only [Act.put, sZ]
                refine tkH (i := 20) (v := ?v100) rfl (Or.inl ⟨by rfl, ?hy100⟩) h0_2 ?rest100
                case hy100 => (intro w' hS; (try dsimp only at hS); go_simp; try (with_reducible rfl))
                simp only [Act.put, sZ]
                refine tkH (i := 21) (v := ?v101) rfl (Or.inl ⟨by rfl, ?hy101⟩) h0_2 ?rest101
                case hy101 => (intro w' hS; (try dsimp only at hS); go_simp; try (with_reducible rfl))
                simp only [Act.put, sZ]
                refine tkH (i := 22) (v := ?v102) rfl (Or.inl ⟨by rfl, ?hy102⟩) h0_2 ?rest102
                case hy102 => (intro w' hS; (try dsimp only at hS); go_simp; try (with_reducible rfl))
                simp only [Act.put, sZ]
                refine tkH (i := 23) (v := ?v103) rfl (Or.inl ⟨by rfl, ?hy103⟩) h0_2 ?rest103
                case hy103 => (intro w' hS; (try dsimp only at hS); go_simp; try (with_reducible rfl))
                simp only [Act.put, sZ]
                refine tkH (i := 24) (v := ?v104) rfl (Or.inl ⟨by rfl, ?hy104⟩) h0_2 ?rest104
                case hy104 => (intro w' hS; (try dsimp only at hS); go_simp; try (with_reducible rfl))
                simp only [Act.put, sZ]
                refine tkH (i := 25) (v := ?v105) rfl (Or.inl ⟨by rfl, ?hy105⟩) h0_2 ?rest105
                case hy105 => (intro w' hS; (try dsimp only at hS); go_simp; try (with_reducible rfl))
                simp only [Act.put, sZ]
                refine tkH (i := 26) (v := ?v106) rfl (Or.inl ⟨by rfl, ?hy106⟩) h0_2 ?rest106
                case hy106 => (intro w' hS; (try dsimp only at hS); go_simp; try (with_reducible rfl))
                simp only [Act.put, sZ]
                refine tkH (i := 27) (v := ?v107) rfl (Or.inl ⟨by rfl, ?hy107⟩) h0_2 ?rest107
                case hy107 => (intro w' hS; (try dsimp only at hS); go_simp; try (with_reducible rfl))
                simp only [Act.put, sZ]
                refine tkH (i := 28) (v := ?v108) rfl (Or.inl ⟨by rfl, ?hy108⟩) h0_2 ?rest108
                case hy108 => (intro w' hS; (try dsimp only at hS); go_simp; try (with_reducible rfl))
                simp only [Act.put, sA, sB, sC, sD]
                try simp only [sF]
                try simp only [sE]
                refine wpAnyH_done (by kernel_rfl) ?_ _
                simp only [Exit.then]
                have BB := Lib.hid Bc.out
                skip
                go_wp2_with fail
                go_ret
                refine ⟨?_, BB.out⟩
                rw [EV.out, KV.out]
                rfl
        · have hb1 : (cb != 0) = true := by simpa using hb0
          have HB0 := Lib.hid (show ckL (M.map ZV.p) ≠ 0 by rw [← HCB.out]; exact hb0)
          clear ha0 hb0
          have KV := Lib.hid (show ckL (L.map ZV.p ++ M.map ZV.p) = 2 from ck_right HB0.out)
          go_enter Tryz.func43, Tryz.ntmps43
          go_upto_region 3 with (fail)
          have KS := Lib.hid (show ∀ W, Below w.heap.size w W → (Below w.heap.size w W ∧ True) from fun W h => ⟨h, trivial⟩)
          obtain ⟨wc, hwc⟩ : ∃ wc, wc = w.drew := ⟨_, rfl⟩
          have Bc := Lib.hid (show Below w.heap.size w wc by rw [hwc]; exact (Below.refl _ _).drew)
          refine wp_region_held_drew (S := (fun W => (Below w.heap.size w W ∧ True))) (by kernel_rfl) (by rw [← hwc]; exact KS.out _ Bc.out) (fun h0 => ?_)
          rw [← hwc] at h0 ⊢
          clear hwc
          refine tkH (i := 0) (v := ?v109) rfl (Or.inl ⟨by rfl, ?hy109⟩) h0 ?rest109
          case hy109 => (intro w' hS; (try dsimp only at hS); go_simp; try (with_reducible rfl))
          simp only [Act.put, sA, sB, sD, sE, sF]
          refine wpAnyH_ready (rs := [1]) (by kernel_rfl) (by simp) (AllReadyH.cons rfl (fun K hK => ?_) AllReadyH.nil)
          rw [if_pos (by rfl)]
          go_simp
          refine (CL.out wc Bc.out).mono ?_
          rintro e wd ⟨rfl, hb⟩
          have Bc := Lib.hid (below_on Bc.out hb)
          clear hb
          obtain ⟨wc, hwc⟩ : ∃ wc, wc = wd := ⟨_, rfl⟩
          rw [← hwc] at Bc ⊢
          clear hwc
          go_simp
          refine hK.out _ _ (KS.out _ Bc.out) (fun h0_1 => ?_)
          clear hK K h0
          refine tkH (i := 2) (v := ?v110) rfl (Or.inl ⟨by rfl, ?hy110⟩) h0_1 ?rest110
          case hy110 => (intro w' hS; (try dsimp only at hS); go_simp; try (with_reducible rfl))
          simp only [Act.put, sZ]
          refine tkH (i := 3) (v := ?v111) rfl (Or.inl ⟨by rfl, ?hy111⟩) h0_1 ?rest111
          case hy111 => (intro w' hS; (try dsimp only at hS); go_simp; try (with_reducible rfl))
          simp only [Act.put, sZ]
          refine tkH (i := 4) (v := ?v112) rfl (Or.inl ⟨by rfl, ?hy112⟩) h0_1 ?rest112
          case hy112 => (intro w' hS; (try dsimp only at hS); go_simp; try (with_reducible rfl))
          simp only [Act.put, sZ]
          refine wpAnyH_ready (rs := [5]) (by kernel_rfl) (by simp) (AllReadyH.cons rfl (fun K hK => ?_) AllReadyH.nil)
          rw [if_pos (by rfl)]
          go_simp
          refine (CM.out wc Bc.out).mono ?_
          rintro e wd ⟨rfl, hb⟩
          have Bc := Lib.hid (below_on Bc.out hb)
          clear hb
          obtain ⟨wc, hwc⟩ : ∃ wc, wc = wd := ⟨_, rfl⟩
          rw [← hwc] at Bc ⊢
          clear hwc
          go_simp
          refine hK.out _ _ (KS.out _ Bc.out) (fun h0_2 => ?_)
          clear hK K h0_1
          refine tkH (i := 6) (v := ?v113) rfl (Or.inl ⟨by rfl, ?hy113⟩) h0_2 ?rest113
          case hy113 => (intro w' hS; (try dsimp only at hS); go_simp; try (with_reducible rfl))
          simp only [Act.put, sZ]
          refine tkH (i := 7) (v := ?v114) rfl (Or.inl ⟨by rfl, ?hy114⟩) h0_2 ?rest114
          case hy114 => (intro w' hS; (try dsimp only at hS); go_simp; try (with_reducible rfl))
          simp only [Act.put, sZ]
          refine tkH (i := 8) (v := ?v115) rfl (Or.inl ⟨by rfl, ?hy115⟩) h0_2 ?rest115
          case hy115 => (intro w' hS; (try dsimp only at hS); go_simp; try (with_reducible rfl))
          simp only [Act.put, sZ]
          refine tkH (i := 9) (v := undef) rfl (Or.inr ⟨by rfl, rfl⟩) h0_2 ?_
          simp only [Act.put, sZ]
          refine tkH (i := 10) (v := undef) rfl (Or.inr ⟨by rfl, rfl⟩) h0_2 ?_
          simp only [Act.put, sZ]
          refine tkH (i := 11) (v := undef) rfl (Or.inr ⟨by rfl, rfl⟩) h0_2 ?_
          simp only [Act.put, sZ]
          refine tkH (i := 12) (v := undef) rfl (Or.inr ⟨by rfl, rfl⟩) h0_2 ?_
          simp only [Act.put, sZ]
          refine tkH (i := 13) (v := undef) rfl (Or.inr ⟨by rfl, rfl⟩) h0_2 ?_
          simp only [Act.put, sZ]
          refine tkH (i := 14) (v := undef) rfl (Or.inr ⟨by rfl, rfl⟩) h0_2 ?_
          simp only [Act.put, sZ]
          refine tkH (i := 15) (v := undef) rfl (Or.inr ⟨by rfl, rfl⟩) h0_2 ?_
          simp only [Act.put, sZ]
          refine tkH (i := 16) (v := undef) rfl (Or.inr ⟨by rfl, rfl⟩) h0_2 ?_
          simp only [Act.put, sZ]
          refine tkH (i := 17) (v := undef) rfl (Or.inr ⟨by rfl, rfl⟩) h0_2 ?_
          simp only [Act.put, sZ]
          refine tkH (i := 18) (v := undef) rfl (Or.inr ⟨by rfl, rfl⟩) h0_2 ?_
          simp only [Act.put, sZ]
          refine tkH (i := 19) (v := undef) rfl (Or.inr ⟨by rfl, rfl⟩) h0_2 ?_
          simp only [Act.put, sZ]
          refine tkH (i := 20) (v := undef) rfl (Or.inr ⟨by rfl, rfl⟩) h0_2 ?_
          simp only [Act.put, sZ]
          refine tkH (i := 21) (v := undef) rfl (Or.inr ⟨by rfl, rfl⟩) h0_2 ?_
          simp only [Act.put, sZ]
          refine tkH (i := 22) (v := undef) rfl (Or.inr ⟨by rfl, rfl⟩) h0_2 ?_
          simp only [Act.put, sZ]
          refine tkH (i := 23) (v := undef) rfl (Or.inr ⟨by rfl, rfl⟩) h0_2 ?_
          simp only [Act.put, sZ]
          refine tkH (i := 24) (v := undef) rfl (Or.inr ⟨by rfl, rfl⟩) h0_2 ?_
          simp only [Act.put, sZ]
          refine tkH (i := 25) (v := undef) rfl (Or.inr ⟨by rfl, rfl⟩) h0_2 ?_
          simp only [Act.put, sZ]
          refine tkH (i := 26) (v := undef) rfl (Or.inr ⟨by rfl, rfl⟩) h0_2 ?_
          simp only [Act.put, sZ]
          refine tkH (i := 27) (v := undef) rfl (Or.inr ⟨by rfl, rfl⟩) h0_2 ?_
          simp only [Act.put, sZ]
          refine tkH (i := 28) (v := ?v135) rfl (Or.inl ⟨by rfl, ?hy135⟩) h0_2 ?rest135
          case hy135 => (intro w' hS; (try dsimp only at hS); go_simp; try (with_reducible rfl))
          simp only [Act.put, sA, sB, sC, sD]
          try simp only [sF]
          try simp only [sE]
          refine wpAnyH_done (by kernel_rfl) ?_ _
          simp only [Exit.then]
          have BB := Lib.hid Bc.out
          skip
          go_wp2_with fail
          go_ret
          refine ⟨?_, BB.out⟩
          rw [EV.out, KV.out]
          rfl
      · have ha1 : (ca != 0) = true := by simpa using ha0
        have HA0 := Lib.hid (show ckL (L.map ZV.p) ≠ 0 by rw [← HCA.out]; exact ha0)
        clear ha0
        have KV := Lib.hid (show ckL (L.map ZV.p ++ M.map ZV.p) = 2 from ck_left HA0.out)
        go_enter Tryz.func43, Tryz.ntmps43
        go_upto_region 3 with (fail)
        have KS := Lib.hid (show ∀ W, Below w.heap.size w W → (Below w.heap.size w W ∧ True) from fun W h => ⟨h, trivial⟩)
        obtain ⟨wc, hwc⟩ : ∃ wc, wc = w.drew := ⟨_, rfl⟩
        have Bc := Lib.hid (show Below w.heap.size w wc by rw [hwc]; exact (Below.refl _ _).drew)
        refine wp_region_held_drew (S := (fun W => (Below w.heap.size w W ∧ True))) (by kernel_rfl) (by rw [← hwc]; exact KS.out _ Bc.out) (fun h0 => ?_)
        rw [← hwc] at h0 ⊢
        clear hwc
        refine tkH (i := 0) (v := ?v136) rfl (Or.inl ⟨by rfl, ?hy136⟩) h0 ?rest136
        case hy136 => (intro w' hS; (try dsimp only at hS); go_simp; try (with_reducible rfl))
        simp only [Act.put, sA, sB, sD, sE, sF]
        refine wpAnyH_ready (rs := [1]) (by kernel_rfl) (by simp) (AllReadyH.cons rfl (fun K hK => ?_) AllReadyH.nil)
        rw [if_pos (by rfl)]
        go_simp
        refine (CL.out wc Bc.out).mono ?_
        rintro e wd ⟨rfl, hb⟩
        have Bc := Lib.hid (below_on Bc.out hb)
        clear hb
        obtain ⟨wc, hwc⟩ : ∃ wc, wc = wd := ⟨_, rfl⟩
        rw [← hwc] at Bc ⊢
        clear hwc
        go_simp
        refine hK.out _ _ (KS.out _ Bc.out) (fun h0_1 => ?_)
        clear hK K h0
        refine tkH (i := 2) (v := ?v137) rfl (Or.inl ⟨by rfl, ?hy137⟩) h0_1 ?rest137
        case hy137 => (intro w' hS; (try dsimp only at hS); go_simp; try (with_reducible rfl))
        simp only [Act.put, sZ]
        refine tkH (i := 3) (v := ?v138) rfl (Or.inl ⟨by rfl, ?hy138⟩) h0_1 ?rest138
        case hy138 => (intro w' hS; (try dsimp only at hS); go_simp; try (with_reducible rfl))
        simp only [Act.put, sZ]
        refine tkH (i := 4) (v := undef) rfl (Or.inr ⟨by rfl, rfl⟩) h0_1 ?_
        simp only [Act.put, sZ]
        refine tkH (i := 5) (v := undef) rfl (Or.inr ⟨by rfl, rfl⟩) h0_1 ?_
        simp only [Act.put, sZ]
        refine tkH (i := 6) (v := undef) rfl (Or.inr ⟨by rfl, rfl⟩) h0_1 ?_
        simp only [Act.put, sZ]
        refine tkH (i := 7) (v := ?v142) rfl (Or.inl ⟨by rfl, ?hy142⟩) h0_1 ?rest142
        case hy142 => (intro w' hS; (try dsimp only at hS); go_simp; try (with_reducible rfl))
        simp only [Act.put, sZ]
        refine tkH (i := 8) (v := ?v143) rfl (Or.inl ⟨by rfl, ?hy143⟩) h0_1 ?rest143
        case hy143 => (intro w' hS; (try dsimp only at hS); go_simp; try (with_reducible rfl))
        simp only [Act.put, sZ]
        refine tkH (i := 9) (v := undef) rfl (Or.inr ⟨by rfl, rfl⟩) h0_1 ?_
        simp only [Act.put, sZ]
        refine tkH (i := 10) (v := undef) rfl (Or.inr ⟨by rfl, rfl⟩) h0_1 ?_
        simp only [Act.put, sZ]
        refine tkH (i := 11) (v := undef) rfl (Or.inr ⟨by rfl, rfl⟩) h0_1 ?_
        simp only [Act.put, sZ]
        refine tkH (i := 12) (v := undef) rfl (Or.inr ⟨by rfl, rfl⟩) h0_1 ?_
        simp only [Act.put, sZ]
        refine tkH (i := 13) (v := undef) rfl (Or.inr ⟨by rfl, rfl⟩) h0_1 ?_
        simp only [Act.put, sZ]
        refine tkH (i := 14) (v := undef) rfl (Or.inr ⟨by rfl, rfl⟩) h0_1 ?_
        simp only [Act.put, sZ]
        refine tkH (i := 15) (v := undef) rfl (Or.inr ⟨by rfl, rfl⟩) h0_1 ?_
        simp only [Act.put, sZ]
        refine tkH (i := 16) (v := undef) rfl (Or.inr ⟨by rfl, rfl⟩) h0_1 ?_
        simp only [Act.put, sZ]
        refine tkH (i := 17) (v := undef) rfl (Or.inr ⟨by rfl, rfl⟩) h0_1 ?_
        simp only [Act.put, sZ]
        refine tkH (i := 18) (v := undef) rfl (Or.inr ⟨by rfl, rfl⟩) h0_1 ?_
        simp only [Act.put, sZ]
        refine tkH (i := 19) (v := undef) rfl (Or.inr ⟨by rfl, rfl⟩) h0_1 ?_
        simp only [Act.put, sZ]
        refine tkH (i := 20) (v := undef) rfl (Or.inr ⟨by rfl, rfl⟩) h0_1 ?_
        simp only [Act.put, sZ]
        refine tkH (i := 21) (v := undef) rfl (Or.inr ⟨by rfl, rfl⟩) h0_1 ?_
        simp only [Act.put, sZ]
        refine tkH (i := 22) (v := undef) rfl (Or.inr ⟨by rfl, rfl⟩) h0_1 ?_
        simp only [Act.put, sZ]
        refine tkH (i := 23) (v := undef) rfl (Or.inr ⟨by rfl, rfl⟩) h0_1 ?_
        simp only [Act.put, sZ]
        refine tkH (i := 24) (v := undef) rfl (Or.inr ⟨by rfl, rfl⟩) h0_1 ?_
        simp only [Act.put, sZ]
        refine tkH (i := 25) (v := undef) rfl (Or.inr ⟨by rfl, rfl⟩) h0_1 ?_
        simp only [Act.put, sZ]
        refine tkH (i := 26) (v := undef) rfl (Or.inr ⟨by rfl, rfl⟩) h0_1 ?_
        simp only [Act.put, sZ]
        refine tkH (i := 27) (v := undef) rfl (Or.inr ⟨by rfl, rfl⟩) h0_1 ?_
        simp only [Act.put, sZ]
        refine tkH (i := 28) (v := ?v163) rfl (Or.inl ⟨by rfl, ?hy163⟩) h0_1 ?rest163
        case hy163 => (intro w' hS; (try dsimp only at hS); go_simp; try (with_reducible rfl))
        simp only [Act.put, sA, sB, sC, sD]
        try simp only [sF]
        try simp only [sE]
        refine wpAnyH_done (by kernel_rfl) ?_ _
        simp only [Exit.then]
        have BB := Lib.hid Bc.out
        skip
        go_wp2_with fail
        go_ret
        refine ⟨?_, BB.out⟩
        rw [EV.out, KV.out]
        rfl

set_option maxRecDepth 100000 in
set_option maxHeartbeats 16000000 in
theorem rsameLW_any (L M : List ZV) (go ho : Option Addr) (gc hc : Nat) (w : World) (hL : RdW w go L) (hM : RdW w ho M) (hl : L.length ≤ 1000000) (he : L.map ZV.p = M.map ZV.p) (hz : ∀ z ∈ L, z.l.length ≤ 9223372036854775807) :
    Calls Tryz.prog 19 #[.slice go L.length gc, .slice ho M.length hc] w (Made (.bool true) w) := by
  have RL := Lib.hid hL
  have RM := Lib.hid hM
  have HE := Lib.hid he
  have HZ := Lib.hid hz
  have hlm : M.length = L.length := by have := congrArg List.length he; simpa using this.symm
  obtain ⟨n, hn⟩ : ∃ n, n = L.length := ⟨_, rfl⟩
  have HN := Lib.hid hn
  have HM := Lib.hid (show n = M.length by omega)
  have nle : n ≤ 1000000 := by omega
  rw [hlm, ← hn]
  clear hL hM hl hn he hz hlm
  go_enter Tryz.func19, Tryz.ntmps19
  go_wp2_with fail
  go_loopw [5] (fun i wr => ∃ t : Nat, i = .int .i64 t ∧ t ≤ n ∧ Hid (Below w.heap.size w wr)) (fun i _ => n - (intOf i).toNat)
  case atStart => exact ⟨0, rfl, by omega, Lib.hid (Below.refl _ _)⟩
  case round =>
    generalize wr = wo at *
    obtain ⟨t, rfl, ht, BE⟩ := hrel
    by_cases htn : t < n
    · obtain ⟨x, hx⟩ : ∃ x, x = L[t]'(by have := HN.out; omega) := ⟨_, rfl⟩
      obtain ⟨y, hy⟩ : ∃ y, y = M[t]'(by have := HM.out; omega) := ⟨_, rfl⟩
      have XY : x.p = y.p := by
        have h1 : (L.map ZV.p)[t]? = some x.p := by rw [List.getElem?_map, List.getElem?_eq_getElem (by have := HN.out; omega), hx]; rfl
        have h2 : (M.map ZV.p)[t]? = some y.p := by rw [List.getElem?_map, List.getElem?_eq_getElem (by have := HM.out; omega), hy]; rfl
        rw [HE.out, h2] at h1
        injection h1 with h1
        exact h1.symm
      have hxm : x ∈ L := by rw [hx]; exact List.getElem_mem _
      have HX := Lib.hid (show ZW wo x from (RL.out.el x hxm).on BE.out)
      have HY := Lib.hid (show ZW wo y from (RM.out.el y (by rw [hy]; exact List.getElem_mem _)).on BE.out)
      obtain ⟨a, ea, h0, h1⟩ := (RL.out.on BE.out).hd t (by have := HN.out; omega)
      obtain ⟨b, eb, h2, h3⟩ := (RM.out.on BE.out).hd t (by have := HM.out; omega)
      rw [← hx] at h0 h1
      rw [← hy] at h2 h3
      obtain ⟨xl, hxl⟩ : ∃ xl, xl = x.l.length := ⟨_, rfl⟩
      obtain ⟨yl, hyl⟩ : ∃ yl, yl = y.l.length := ⟨_, rfl⟩
      rw [← hxl] at h1
      rw [← hyl] at h3
      have SM := Lib.hid (show ∀ W, Below wo.heap.size wo W → Calls Tryz.prog 37 #[.agg #[.int .i64 x.N, .slice x.a xl x.c], .agg #[.int .i64 y.N, .slice y.a yl y.c]] W (Made (.bool true) W) from fun W h => by
        have := same_any x.N y.N x.l y.l x.a y.a x.c y.c W (HX.out.on h).1 (HY.out.on h).1 (HZ.out x hxm)
        have e1 : x.N = y.N := congrArg Prod.fst XY
        have e2 : x.l = y.l := congrArg Prod.snd XY
        rw [show smB x.N y.N x.l y.l = true by rw [e1, e2]; exact smB_refl _ _] at this
        rw [hxl, hyl]; exact this)
      have G := Lib.hid (And.intro h0 (And.intro h1 (And.intro h2 h3)))
      clear hx hy hxl hyl h0 h1 h2 h3 XY hxm
      subst ea
      subst eb
      go_upto_region 6 with (fail)
      have KS := Lib.hid (show ∀ W, Below wo.heap.size wo W → (W.cell? (a.add (t * 2)) = some (.int .i64 x.N) ∧ W.cell? ⟨(a.add (t * 2)).block, (a.add (t * 2)).off + 1, none⟩ = some (.slice x.a xl x.c) ∧ W.cell? (b.add (t * 2)) = some (.int .i64 y.N) ∧ W.cell? ⟨(b.add (t * 2)).block, (b.add (t * 2)).off + 1, none⟩ = some (.slice y.a yl y.c)) from fun W h => ⟨kept h G.out.1, kept h G.out.2.1, kept h G.out.2.2.1, kept h G.out.2.2.2⟩)
      obtain ⟨wc, hwc⟩ : ∃ wc, wc = wo.drew := ⟨_, rfl⟩
      have Bc := Lib.hid (show Below wo.heap.size wo wc by rw [hwc]; exact (Below.refl _ _).drew)
      refine wp_region_held_drew (S := (fun W => (W.cell? (a.add (t * 2)) = some (.int .i64 x.N) ∧ W.cell? ⟨(a.add (t * 2)).block, (a.add (t * 2)).off + 1, none⟩ = some (.slice x.a xl x.c) ∧ W.cell? (b.add (t * 2)) = some (.int .i64 y.N) ∧ W.cell? ⟨(b.add (t * 2)).block, (b.add (t * 2)).off + 1, none⟩ = some (.slice y.a yl y.c)))) (by kernel_rfl) (by rw [← hwc]; exact KS.out _ Bc.out) (fun h0 => ?_)
      rw [← hwc] at h0 ⊢
      clear hwc
      refine tkH (i := 0) (v := ?v1) rfl (Or.inl ⟨by rfl, ?hy1⟩) h0 ?rest1
      case hy1 => (intro w' hS; (try dsimp only at hS); go_simp; try (with_reducible rfl))
      simp only [Act.put, sA, sB, sD, sE, sF]
      refine tkH (i := 1) (v := ?v2) rfl (Or.inl ⟨by rfl, ?hy2⟩) h0 ?rest2
      case hy2 => (intro w' hS; (try dsimp only at hS); go_simp; try (with_reducible rfl))
      simp only [Act.put, sZ]
      refine tkH (i := 2) (v := ?v3) rfl (Or.inl ⟨by rfl, ?hy3⟩) h0 ?rest3
      case hy3 => (intro w' hS; (try dsimp only at hS); go_simp; try (with_reducible rfl))
      simp only [Act.put, sZ]
      refine tkH (i := 3) (v := ?v4) rfl (Or.inl ⟨by rfl, ?hy4⟩) h0 ?rest4
      case hy4 => (intro w' hS; (try dsimp only at hS); go_simp; try (with_reducible rfl))
      simp only [Act.put, sZ]
      refine tkH (i := 4) (v := ?v5) rfl (Or.inl ⟨by rfl, ?hy5⟩) h0 ?rest5
      case hy5 => (intro w' hS; (try dsimp only at hS); go_simp; try (with_reducible rfl))
      simp only [Act.put, sZ]
      refine tkH (i := 5) (v := ?v6) rfl (Or.inl ⟨by rfl, ?hy6⟩) h0 ?rest6
      case hy6 => (intro w' hS; (try dsimp only at hS); go_simp; try (with_reducible rfl))
      simp only [Act.put, sZ]
      refine tkH (i := 6) (v := ?v7) rfl (Or.inl ⟨by rfl, ?hy7⟩) h0 ?rest7
      case hy7 => (intro w' hS; (try dsimp only at hS); go_simp; try (with_reducible rfl))
      simp only [Act.put, sZ]
      refine tkH (i := 7) (v := ?v8) rfl (Or.inl ⟨by rfl, ?hy8⟩) h0 ?rest8
      case hy8 => (intro w' hS; (try dsimp only at hS); go_simp; try (with_reducible rfl))
      simp only [Act.put, sZ]
      refine wpAnyH_ready (rs := [8]) (by kernel_rfl) (by simp) (AllReadyH.cons rfl (fun K hK => ?_) AllReadyH.nil)
      rw [if_pos (by rfl)]
      go_simp
      refine (SM.out wc Bc.out).mono ?_
      rintro e wd ⟨rfl, hb⟩
      have Bc := Lib.hid (below_on Bc.out hb)
      clear hb
      obtain ⟨wc, hwc⟩ : ∃ wc, wc = wd := ⟨_, rfl⟩
      rw [← hwc] at Bc ⊢
      clear hwc
      go_simp
      refine hK.out _ _ (KS.out _ Bc.out) (fun h0_1 => ?_)
      clear hK K h0
      refine tkH (i := 9) (v := ?v9) rfl (Or.inl ⟨by rfl, ?hy9⟩) h0_1 ?rest9
      case hy9 => (intro w' hS; (try dsimp only at hS); go_simp; try (with_reducible rfl))
      simp only [Act.put, sA, sB, sC, sD]
      try simp only [sF]
      try simp only [sE]
      refine wpAnyH_done (by kernel_rfl) ?_ _
      try simp only [Exit.then]
      have BB := Lib.hid (below_on BE.out Bc.out)
      clear Bc KS
      go_wp2_with fail
      go_roundw
      case rel => exact ⟨t + 1, by go_num, by omega, BB⟩
      case measure => simp [intOf]; omega
    · go_wp2_with fail
      go_ret
      exact ⟨rfl, BE.out⟩

set_option maxRecDepth 100000 in
set_option maxHeartbeats 4000000 in
theorem rmeet_bad (L M : List ZV) (go ho : Option Addr) (gc hc : Nat) (w : World) (hL : RdW w go L) (hM : RdW w ho M) (hl : L.length ≤ 1000000) (hm : M.length ≤ 1000000) (hbad : chkG [L.map ZV.p, M.map ZV.p] ≠ 0) :
    Calls Tryz.prog 14 #[.slice go L.length gc, .slice ho M.length hc] w (fun e w' => Below w.heap.size w w' ∧ e = .returned (.tuple #[.slice none 0 0, .int .i64 (chkG [L.map ZV.p, M.map ZV.p])])) := by
  have BO := Lib.hid (bothW_any L M go ho gc hc w hL hM hl hm)
  generalize L.length = n at *
  generalize M.length = m at *
  clear hL hM hl hm
  obtain ⟨c, hc0⟩ : ∃ c, c = chkG [L.map ZV.p, M.map ZV.p] := ⟨_, rfl⟩
  rw [← hc0] at BO hbad ⊢
  have h0b : (c != 0) = true := by simpa using hbad
  clear hc0
  go_enter Tryz.func14, Tryz.ntmps14
  go_wp2_with fail
  refine BO.out.mono ?_
  rintro e w1 ⟨rfl, hb⟩
  have B1 := Lib.hid hb
  clear hb BO
  go_wp2_with fail
  go_ret2
  exact ⟨B1.out, rfl⟩

set_option maxRecDepth 100000 in
set_option maxHeartbeats 4000000 in
theorem rminus_bad (L M : List ZV) (go ho : Option Addr) (gc hc : Nat) (w : World) (hL : RdW w go L) (hM : RdW w ho M) (hl : L.length ≤ 1000000) (hm : M.length ≤ 1000000) (hbad : chkG [L.map ZV.p, M.map ZV.p] ≠ 0) :
    Calls Tryz.prog 20 #[.slice go L.length gc, .slice ho M.length hc] w (fun e w' => Below w.heap.size w w' ∧ e = .returned (.tuple #[.slice none 0 0, .int .i64 (chkG [L.map ZV.p, M.map ZV.p])])) := by
  have BO := Lib.hid (bothW_any L M go ho gc hc w hL hM hl hm)
  generalize L.length = n at *
  generalize M.length = m at *
  clear hL hM hl hm
  obtain ⟨c, hc0⟩ : ∃ c, c = chkG [L.map ZV.p, M.map ZV.p] := ⟨_, rfl⟩
  rw [← hc0] at BO hbad ⊢
  have h0b : (c != 0) = true := by simpa using hbad
  clear hc0
  go_enter Tryz.func20, Tryz.ntmps20
  go_wp2_with fail
  refine BO.out.mono ?_
  rintro e w1 ⟨rfl, hb⟩
  have B1 := Lib.hid hb
  clear hb BO
  go_wp2_with fail
  go_ret2
  exact ⟨B1.out, rfl⟩

def RsL (r : List Zp × Int) (w : World) (e : Ending) (w' : World) : Prop :=
  Below w.heap.size w w' ∧ ∃ ao cap L, e = .returned (.tuple #[.slice ao L.length cap, .int .i64 r.2]) ∧ RdZ 0 w' ao L ∧ L.map ZV.p = (if r.2 = 0 then r.1 else []) ∧ L.length ≤ 1000000

theorem rs_nil {w w' : World} {r : List Zp × Int} (hb : Below w.heap.size w w') (h : r.2 ≠ 0) : RsL r w (.returned (.tuple #[.slice none 0 0, .int .i64 r.2])) w' :=
  ⟨hb, none, 0, [], rfl, ⟨fun t ht => by simp at ht, fun z hz => by simp at hz⟩, by rw [if_neg h]; rfl, by simp⟩

theorem FLRes.rs {r : List Zp × Int} {w : World} {e : Ending} {w' : World} (h : FLRes r w e w') : RsL r w e w' := by
  obtain ⟨h1, ao, cap, L, rfl, h2, h3, h4, _⟩ := h
  exact ⟨h1, ao, cap, L, rfl, h2.low (Nat.zero_le _), h3, h4⟩

theorem RfRes.rs {r : List Zp × Int} {w : World} {e : Ending} {w' : World} (h : RfRes r w e w') : RsL r w e w' := by
  obtain ⟨h1, ao, cap, L, rfl, h2, h3, h4⟩ := h
  exact ⟨h1, ao, cap, L, rfl, h2.rd.1, h3, by omega⟩

theorem RfNew.rs {r : List Zp × Int} {w : World} {e : Ending} {w' : World} (h : RfNew r w e w') : RsL r w e w' := by
  obtain ⟨h1, ao, cap, L, rfl, h2, h3, h4⟩ := h
  exact ⟨h1, ao, cap, L, rfl, h2.rd.1.low (Nat.zero_le _), h3, by omega⟩

theorem ansE_bad {G : List (List Zp)} {e : Int} (h : chkG G ≠ 0) : ansE G e = chkG G := if_neg h

theorem rmeetW_any (L M : List ZV) (go ho : Option Addr) (gc hc : Nat) (w : World) (hL : RdW w go L) (hM : RdW w ho M) (hl : L.length ≤ 1000000) (hm : M.length ≤ 1000000) :
    Calls Tryz.prog 14 #[.slice go L.length gc, .slice ho M.length hc] w (RsL (meeR (L.map ZV.p) (M.map ZV.p)) w) := by
  by_cases h : chkG [L.map ZV.p, M.map ZV.p] = 0
  · obtain ⟨k1, k2⟩ := hL.both hM h
    exact (rmeet_any L M go ho gc hc w k1 k2 hl hm).mono fun _ _ h => h.rs
  · refine (rmeet_bad L M go ho gc hc w hL hM hl hm h).mono ?_
    rintro e w' ⟨hb, rfl⟩
    have e1 : (meeR (L.map ZV.p) (M.map ZV.p)).2 = chkG [L.map ZV.p, M.map ZV.p] := ansE_bad h
    rw [← e1]
    exact rs_nil hb (by rw [e1]; exact h)

theorem rminusW_any (L M : List ZV) (go ho : Option Addr) (gc hc : Nat) (w : World) (hL : RdW w go L) (hM : RdW w ho M) (hl : L.length ≤ 1000000) (hm : M.length ≤ 1000000) (hgo : go = none → gc = 0) :
    Calls Tryz.prog 20 #[.slice go L.length gc, .slice ho M.length hc] w (RsL (minR (L.map ZV.p) (M.map ZV.p)) w) := by
  by_cases h : chkG [L.map ZV.p, M.map ZV.p] = 0
  · obtain ⟨k1, k2⟩ := hL.both hM h
    exact (rminus_any L M go ho gc hc w k1 k2 hl hm hgo).mono fun _ _ h => h.rs
  · refine (rminus_bad L M go ho gc hc w hL hM hl hm h).mono ?_
    rintro e w' ⟨hb, rfl⟩
    have e1 : (minR (L.map ZV.p) (M.map ZV.p)).2 = chkG [L.map ZV.p, M.map ZV.p] := ansE_bad h
    rw [← e1]
    exact rs_nil hb (by rw [e1]; exact h)

set_option maxRecDepth 20000 in
theorem rincludesW_any (L M : List ZV) (go ho : Option Addr) (gc hc : Nat) (w : World) (hL : RdW w go L) (hM : RdW w ho M) (hl : L.length ≤ 1000000) (hm : M.length ≤ 1000000) (hho : ho = none → hc = 0) :
    Calls Tryz.prog 17 #[.slice go L.length gc, .slice ho M.length hc] w (fun e w' => Below w.heap.size w w' ∧ e = .returned (.tuple #[.bool (incR (L.map ZV.p) (M.map ZV.p)), .int .i64 (incE (L.map ZV.p) (M.map ZV.p))])) := by
  have MI := Lib.hid (rminusW_any M L ho go hc gc w hM hL hm hl hho)
  have IE := Lib.hid (show (minR (M.map ZV.p) (L.map ZV.p)).2 = incE (L.map ZV.p) (M.map ZV.p) from by unfold minR incE; exact ansE_comm _ _ _)
  generalize L.length = n at *
  generalize M.length = m at *
  clear hL hM hl hm hho
  go_enter Tryz.func17, Tryz.ntmps17
  go_wp2_with fail
  refine MI.out.mono ?_
  rintro e w1 ⟨hb, ao, cap, X, rfl, hx, hxp, hxl⟩
  rw [IE.out] at hxp ⊢
  have B1 := Lib.hid hb
  have XP := Lib.hid hxp
  obtain ⟨xn, hxn⟩ : ∃ xn, xn = X.length := ⟨_, rfl⟩
  have HXN := Lib.hid hxn
  obtain ⟨c, hc0⟩ : ∃ c, c = incE (L.map ZV.p) (M.map ZV.p) := ⟨_, rfl⟩
  have HC := Lib.hid hc0
  rw [← hxn, ← hc0]
  rw [← hc0] at XP
  clear hb hx hxp hxl hxn hc0 MI
  by_cases h0 : c = 0
  · have h0b : (c == 0) = true := by simp [h0]
    have IR := Lib.hid (show incR (L.map ZV.p) (M.map ZV.p) = decide (xn = 0) from by
      unfold incR
      rw [← HC.out, decide_eq_true h0, Bool.true_and]
      have := XP.out
      rw [if_pos h0] at this
      rw [HXN.out, show (mnP (M.map ZV.p) (L.map ZV.p)).1 = X.map ZV.p from this.symm, List.length_map])
    clear h0
    by_cases hx0 : xn = 0
    · have FE := Lib.hid (show incR (L.map ZV.p) (M.map ZV.p) = true by rw [IR.out]; simp [hx0])
      have q1 : ((xn : Int) == 0) = true := by simp [hx0]
      go_wp2_with fail
      go_ret2
      rw [FE.out, ← HC.out]
      exact ⟨B1.out, rfl⟩
    · have FE := Lib.hid (show incR (L.map ZV.p) (M.map ZV.p) = false by rw [IR.out]; simp [hx0])
      have q1 : ((xn : Int) == 0) = false := by simp [hx0]
      go_wp2_with fail
      go_ret2
      rw [FE.out, ← HC.out]
      exact ⟨B1.out, rfl⟩
  · have h0b : (c == 0) = false := by simpa using h0
    have FE := Lib.hid (show incR (L.map ZV.p) (M.map ZV.p) = false from by unfold incR; rw [← HC.out, decide_eq_false h0, Bool.false_and])
    clear h0
    go_wp2_with fail
    go_ret2
    rw [FE.out, ← HC.out]
    exact ⟨B1.out, rfl⟩
end Go.Proofs.YtaegiihkgicdnaaGreat
