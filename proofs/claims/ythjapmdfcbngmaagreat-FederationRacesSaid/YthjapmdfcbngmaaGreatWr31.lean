/- A part. -/
import Derived.Test.YthjapmdfcbngmaaGreatWr11
import Derived.Test.YthjapmdfcbngmaaGreatWr30
import Derived.Test.YthjapmdfcbngmaaGreatWr23
import Derived.Test.YthjapmdfcbngmaaGreatWr29
namespace Go.Proofs.YthjapmdfcbngmaaGreat
set_option maxHeartbeats 16000000
open Go.RowKit
def TdRes (R : Nat) (N : Nat → Prop) (w : World) (s : Sq) (e : Ending) (w' : World) : Prop :=
 Below w.heap.size w w' ∧ ∃ ao cap L, e = .returned (.tuple #[.slice ao L.length cap, .int .i64 (colE s.1 s.2)]) ∧ OwnZ R 0 w' (.slice ao L.length cap) L ∧ L.map ZV.p = (if colE s.1 s.2 = 0 then s.1 else []) ∧ L.length ≤ 2001 ∧ ∀ z ∈ L, ∀ p, z.a = some p → ¬ N p.block
set_option maxRecDepth 20000 in
theorem told_any (R q : Nat) (P N : Nat → Prop) (s : Sq) (w : World) (h : Mk R q P N w s) : Calls Tryz.prog 46 #[.pointer (some ⟨q, 0, none⟩)] w (TdRes R N w s) := by
 obtain ⟨v, L, h1, h2, h3, h4, h5, h6, h7, h8⟩ := h
 obtain ⟨ao, cap, ev⟩ := h2.form
 subst ev
 have rz := h2
 obtain ⟨q0, q1, _, _⟩ := h1.facts
 obtain ⟨c, hc⟩ : ∃ c, c = colE s.1 s.2 := ⟨_, rfl⟩
 have HC := Lib.hid hc
 rw [← hc] at q1 h3
 have RZ := Lib.hid rz
 have H3 := Lib.hid h3
 have H4 := Lib.hid h4
 have H8 := Lib.hid h8
 have KD := Lib.hid (show Below w.heap.size w w.drew from (Below.refl _ _).drew)
 clear h1 h2 h3 h5 h6 h7 h8 rz hc
 by_cases h0 : c = 0
 · have hb : (c != 0) = false := by simp [h0]
   have CZ := Lib.hid h0
   clear h0
   obtain ⟨n, hn⟩ : ∃ n, n = L.length := ⟨_, rfl⟩
   have HN := Lib.hid hn
   rw [← hn] at q0
   clear hn h4
   go_enter Tryz.func46, Tryz.ntmps46
   go_wp2_with fail
   go_ret2
   refine ⟨Below.refl _ _, ao, cap, L, by rw [← HC.out, CZ.out, HN.out]; rfl, RZ.out, by rw [← HC.out, if_pos CZ.out]; exact H3.out CZ.out, H4.out, H8.out⟩
 · have hb : (c != 0) = true := by simpa using h0
   have CZ := Lib.hid h0
   clear h0 h4
   go_enter Tryz.func46, Tryz.ntmps46
   go_wp2_with fail
   go_region
   all_goals (
    go_wp2_with fail
    go_ret2
    exact ⟨KD.out, none, 0, [], by rw [← HC.out]; rfl, OwnZ.nil _ _ _, by rw [← HC.out, if_neg CZ.out]; rfl, by simp, by simp⟩)
def rchk (L : List Zp) : Int := if 2000 < L.length then 3 else ckL L
set_option maxRecDepth 100000 in
theorem rcheckW_any (L : List ZV) (go : Option Addr) (gc : Nat) (w : World) (hL : RdW w go L) (hl : L.length ≤ 1000000) :
  Calls Tryz.prog 12 #[.slice go L.length gc] w (Made (.int .i64 (rchk (L.map ZV.p))) w) := by
 have RR := Lib.hid hL
 obtain ⟨n, hn⟩ : ∃ n, n = L.length := ⟨_, rfl⟩
 have HN := Lib.hid hn
 have hle : n ≤ 1000000 := by omega
 rw [← hn]
 clear hL hl hn
 by_cases h2 : 2000 < n
 · have h2b : (2000 : Int) < n := by omega
   have EV := Lib.hid (show rchk (L.map ZV.p) = 3 by unfold rchk; rw [if_pos (by rw [List.length_map, ← HN.out]; exact h2)])
   go_enter Tryz.func12, Tryz.ntmps12
   go_wp2_with fail
   go_ret
   refine ⟨?_, Below.refl _ _⟩
   rw [EV.out]; rfl
 · have h2b : ¬ (2000 : Int) < n := by omega
   have EV := Lib.hid (show rchk (L.map ZV.p) = ckL (L.map ZV.p) by unfold rchk; rw [if_neg (by rw [List.length_map, ← HN.out]; exact h2)])
   clear h2
   go_enter Tryz.func12, Tryz.ntmps12
   go_wp2_with fail
   go_loopw [3] (fun s wr => ∃ t : Nat, t ≤ n ∧ s = .int .i64 t ∧ Hid (Below w.heap.size w wr ∧ RdW wr go L) ∧ Hid (∀ i, ∀ h : i < (L.map ZV.p).length, i < t → ckZ ((L.map ZV.p).headD (0, [])) (L.map ZV.p)[i] = true)) (fun s _ => n - (intOf s).toNat)
   case atStart => exact ⟨0, by omega, rfl, Lib.hid ⟨Below.refl _ _, RR.out⟩, Lib.hid (fun i h q => by omega)⟩
   case round =>
    generalize wr = wo at *
    obtain ⟨t, ht, rfl, HB, HF⟩ := hrel
    by_cases htn : t < n
    · have hlt : t < L.length := by have := HN.out; omega
      have HLT := Lib.hid (show t < (L.map ZV.p).length by simpa using hlt)
      obtain ⟨a, ea, h0, h1⟩ := HB.out.2.hd t hlt
      obtain ⟨a', ea', g0, g1⟩ := HB.out.2.hd 0 (by omega)
      have eaa : a' = a := by rw [ea] at ea'; injection ea' with e; exact e.symm
      subst eaa
      rw [add_nil2] at g0
      obtain ⟨z, hz⟩ : ∃ z, z = L[t] := ⟨_, rfl⟩
      obtain ⟨y, hy⟩ : ∃ y, y = L[0]'(by omega) := ⟨_, rfl⟩
      have HM1 := Lib.hid (HB.out.2.el z (by rw [hz]; exact List.getElem_mem _))
      have ZP := Lib.hid (show (L.map ZV.p)[t]'HLT.out = z.p by rw [hz]; simp)
      have YP := Lib.hid (show (L.map ZV.p).headD (0, []) = y.p by rw [hy]; exact head_p L _)
      rw [← hz] at h0 h1
      rw [← hy] at g0
      obtain ⟨zl, hzl⟩ : ∃ zl, zl = z.l.length := ⟨_, rfl⟩
      rw [← hzl] at h1
      have CZ := Lib.hid (show ∀ W, ZW W z → Calls Tryz.prog 39 #[.agg #[.int .i64 z.N, .slice z.a zl z.c]] W (Made (.int .i64 (chkE z.N z.l)) W) from fun W h => by rw [hzl]; exact check_gen z.N z.l z.a z.c W h.1)
      have n0 : 0 < n := by omega
      obtain ⟨ce, hce⟩ : ∃ ce, ce = chkE z.N z.l := ⟨_, rfl⟩
      have CE := Lib.hid hce
      rw [← hce] at CZ
      have X2 := Lib.hid (show wo.cell? (a'.add (t * 2)) = some (.int .i64 z.N) ∧ wo.cell? ⟨(a'.add (t * 2)).block, (a'.add (t * 2)).off + 1, none⟩ = some (.slice z.a zl z.c) ∧ wo.cell? a' = some (.int .i64 y.N) from ⟨h0, h1, g0⟩)
      clear hz hy g1 hlt hzl ea' hce h0 h1 g0
      subst ea
      go_upto_region 6 with (fail)
      by_cases hc : ce = 0
      · have hc2 : (ce != 0) = false := by simp [hc]
        have KS := Lib.hid (show ∀ W, Below wo.heap.size wo W → (W.cell? (a'.add (t * 2)) = some (.int .i64 z.N) ∧ W.cell? ⟨(a'.add (t * 2)).block, (a'.add (t * 2)).off + 1, none⟩ = some (.slice z.a zl z.c) ∧ W.cell? a' = some (.int .i64 y.N)) from fun W h => ⟨kept h X2.out.1, kept h X2.out.2.1, kept h X2.out.2.2⟩)
        obtain ⟨wc, hwc⟩ : ∃ wc, wc = wo.drew := ⟨_, rfl⟩
        have Bc := Lib.hid (show Below wo.heap.size wo wc by rw [hwc]; exact (Below.refl _ _).drew)
        refine wp_region_held_drew (S := (fun W => (W.cell? (a'.add (t * 2)) = some (.int .i64 z.N) ∧ W.cell? ⟨(a'.add (t * 2)).block, (a'.add (t * 2)).off + 1, none⟩ = some (.slice z.a zl z.c) ∧ W.cell? a' = some (.int .i64 y.N)))) (by kernel_rfl) (by rw [← hwc]; exact KS.out _ Bc.out) (fun h0 => ?_)
        rw [← hwc] at h0 ⊢
        clear hwc
        refine tkI (i := 0) rfl h0 ?_
        simp only [Act.put, sA, sB, sD, sE, sF]
        refine tkI (i := 1) rfl h0 ?_
        simp only [Act.put, sZ]
        refine tkI (i := 2) rfl h0 ?_
        simp only [Act.put, sZ]
        refine tkI (i := 3) rfl h0 ?_
        simp only [Act.put, sZ]
        refine wpAnyH_ready (rs := [4]) (by kernel_rfl) (by simp) (AllReadyH.cons rfl (fun K hK => ?_) AllReadyH.nil)
        rw [if_pos (by rfl)]
        go_simp
        refine (CZ.out wc (HM1.out.on Bc.out)).mono ?_
        rintro e wd ⟨rfl, hb⟩
        have Bc := Lib.hid (below_on Bc.out hb)
        clear hb
        obtain ⟨wc, hwc⟩ : ∃ wc, wc = wd := ⟨_, rfl⟩
        rw [← hwc] at Bc ⊢
        clear hwc
        go_simp
        refine hK.out _ _ (KS.out _ Bc.out) (fun h0_1 => ?_)
        clear hK K h0
        refine tkI (i := 5) rfl h0_1 ?_
        simp only [Act.put, sZ]
        refine tkI (i := 6) rfl h0_1 ?_
        simp only [Act.put, sZ]
        refine tkI (i := 7) rfl h0_1 ?_
        simp only [Act.put, sZ]
        refine tkI (i := 8) rfl h0_1 ?_
        simp only [Act.put, sZ]
        refine tkI (i := 9) rfl h0_1 ?_
        simp only [Act.put, sZ]
        refine tkI (i := 10) rfl h0_1 ?_
        simp only [Act.put, sZ]
        refine tkI (i := 11) rfl h0_1 ?_
        simp only [Act.put, sZ]
        refine tkI (i := 12) rfl h0_1 ?_
        simp only [Act.put, sZ]
        refine tkI (i := 13) rfl h0_1 ?_
        simp only [Act.put, sZ]
        refine tkI (i := 14) rfl h0_1 ?_
        simp only [Act.put, sZ]
        refine tkI (i := 15) rfl h0_1 ?_
        simp only [Act.put, sZ]
        refine tkI (i := 16) rfl h0_1 ?_
        simp only [Act.put, sZ]
        refine tkI (i := 17) rfl h0_1 ?_
        simp only [Act.put, sA, sB, sC, sD]
        try simp only [sF]
        try simp only [sE]
        refine wpAnyH_done (by kernel_rfl) ?_ _
        simp only [Exit.then]
        have BB := Lib.hid Bc.out
        have HC := Lib.hid hc
        by_cases hN : z.N = y.N
        · have hN2 : (z.N != y.N) = false := by simp [hN]
          have HNN := Lib.hid hN
          clear hN hc
          go_wp2_with fail
          go_roundw
          case rel => exact ⟨t + 1, by omega, by go_num, Lib.hid ⟨below_on HB.out.1 BB.out, HB.out.2.on BB.out⟩, Lib.hid fun i h q => by
           by_cases e : i = t
           · subst e
             rw [ZP.out, YP.out]
             exact ckZ_yes (by rw [← CE.out]; exact HC.out) HNN.out
           · exact HF.out i h (by omega)⟩
          case measure => simp [intOf]; omega
        · have hN2 : (z.N != y.N) = true := by simpa using hN
          have HNN := Lib.hid hN
          clear hN hc
          go_wp2_with fail
          go_ret
          refine ⟨?_, below_on HB.out.1 BB.out⟩
          have : ckL (L.map ZV.p) = 2 := ckL_bad HLT.out (by rw [ZP.out, YP.out]; first | exact ckZ_no2 HNN.out | exact ckZ_no1 (by rw [← CE.out]; exact HC.out))
          rw [EV.out, this]
          rfl
      · have hc2 : (ce != 0) = true := by simpa using hc
        have KS := Lib.hid (show ∀ W, Below wo.heap.size wo W → (W.cell? (a'.add (t * 2)) = some (.int .i64 z.N) ∧ W.cell? ⟨(a'.add (t * 2)).block, (a'.add (t * 2)).off + 1, none⟩ = some (.slice z.a zl z.c) ∧ W.cell? a' = some (.int .i64 y.N)) from fun W h => ⟨kept h X2.out.1, kept h X2.out.2.1, kept h X2.out.2.2⟩)
        obtain ⟨wc, hwc⟩ : ∃ wc, wc = wo.drew := ⟨_, rfl⟩
        have Bc := Lib.hid (show Below wo.heap.size wo wc by rw [hwc]; exact (Below.refl _ _).drew)
        refine wp_region_held_drew (S := (fun W => (W.cell? (a'.add (t * 2)) = some (.int .i64 z.N) ∧ W.cell? ⟨(a'.add (t * 2)).block, (a'.add (t * 2)).off + 1, none⟩ = some (.slice z.a zl z.c) ∧ W.cell? a' = some (.int .i64 y.N)))) (by kernel_rfl) (by rw [← hwc]; exact KS.out _ Bc.out) (fun h0 => ?_)
        rw [← hwc] at h0 ⊢
        clear hwc
        refine tkI (i := 0) rfl h0 ?_
        simp only [Act.put, sA, sB, sD, sE, sF]
        refine tkI (i := 1) rfl h0 ?_
        simp only [Act.put, sZ]
        refine tkI (i := 2) rfl h0 ?_
        simp only [Act.put, sZ]
        refine tkI (i := 3) rfl h0 ?_
        simp only [Act.put, sZ]
        refine wpAnyH_ready (rs := [4]) (by kernel_rfl) (by simp) (AllReadyH.cons rfl (fun K hK => ?_) AllReadyH.nil)
        rw [if_pos (by rfl)]
        go_simp
        refine (CZ.out wc (HM1.out.on Bc.out)).mono ?_
        rintro e wd ⟨rfl, hb⟩
        have Bc := Lib.hid (below_on Bc.out hb)
        clear hb
        obtain ⟨wc, hwc⟩ : ∃ wc, wc = wd := ⟨_, rfl⟩
        rw [← hwc] at Bc ⊢
        clear hwc
        go_simp
        refine hK.out _ _ (KS.out _ Bc.out) (fun h0_1 => ?_)
        clear hK K h0
        refine tkI (i := 5) rfl h0_1 ?_
        simp only [Act.put, sZ]
        refine tkI (i := 6) rfl h0_1 ?_
        simp only [Act.put, sZ]
        refine tkU (i := 7) rfl h0_1 ?_
        simp only [Act.put, sZ]
        refine tkU (i := 8) rfl h0_1 ?_
        simp only [Act.put, sZ]
        refine tkU (i := 9) rfl h0_1 ?_
        simp only [Act.put, sZ]
        refine tkU (i := 10) rfl h0_1 ?_
        simp only [Act.put, sZ]
        refine tkU (i := 11) rfl h0_1 ?_
        simp only [Act.put, sZ]
        refine tkU (i := 12) rfl h0_1 ?_
        simp only [Act.put, sZ]
        refine tkU (i := 13) rfl h0_1 ?_
        simp only [Act.put, sZ]
        refine tkU (i := 14) rfl h0_1 ?_
        simp only [Act.put, sZ]
        refine tkU (i := 15) rfl h0_1 ?_
        simp only [Act.put, sZ]
        refine tkU (i := 16) rfl h0_1 ?_
        simp only [Act.put, sZ]
        refine tkI (i := 17) rfl h0_1 ?_
        simp only [Act.put, sA, sB, sC, sD]
        try simp only [sF]
        try simp only [sE]
        refine wpAnyH_done (by kernel_rfl) ?_ _
        simp only [Exit.then]
        have BB := Lib.hid Bc.out
        have HC := Lib.hid hc
        have HNN := Lib.hid hc
        clear hc
        go_wp2_with fail
        go_ret
        refine ⟨?_, below_on HB.out.1 BB.out⟩
        have : ckL (L.map ZV.p) = 2 := ckL_bad HLT.out (by rw [ZP.out, YP.out]; first | exact ckZ_no2 HNN.out | exact ckZ_no1 (by rw [← CE.out]; exact HC.out))
        rw [EV.out, this]
        rfl
    · have L0 := Lib.hid (show rchk (L.map ZV.p) = 0 by
       rw [EV.out]
       exact ckL_good fun i h => HF.out i h (by have := HN.out; simp at h; omega))
      clear HF
      go_wp2_with fail
      go_ret
      refine ⟨?_, HB.out.1⟩
      rw [L0.out]; rfl
theorem rcheck_any (L : List ZV) (go : Option Addr) (gc : Nat) (w : World) (hL : RdZ 0 w go L) (hl : L.length ≤ 1000000) :
  Calls Tryz.prog 12 #[.slice go L.length gc] w (Made (.int .i64 (rchk (L.map ZV.p))) w) := rcheckW_any L go gc w hL.weak hl
def EqS (s t : Sq) : Prop := colE s.1 s.2 = colE t.1 t.2 ∧ (colE s.1 s.2 = 0 → s.1 = t.1)
theorem EqS.refl (s : Sq) : EqS s s := ⟨rfl, fun _ => rfl⟩
theorem EqS.symm {s t : Sq} (h : EqS s t) : EqS t s := ⟨h.1.symm, fun e => (h.2 (h.1.trans e)).symm⟩
theorem EqS.trans {s t u : Sq} (h : EqS s t) (k : EqS t u) : EqS s u := ⟨h.1.trans k.1, fun e => (h.2 e).trans (k.2 (h.1.symm.trans e))⟩
def addQ (s t : Sq) : Sq := if colE s.1 s.2 = 0 then seqA s t else s
theorem addQ_bad {s t : Sq} (h : colE s.1 s.2 ≠ 0) : addQ s t = s := if_neg h
theorem addQ_ok {s t : Sq} (h : colE s.1 s.2 = 0) : addQ s t = seqA s t := if_pos h
theorem addS_eq (s : Sq) (r : Zp × Int) : addS s r = addQ s (emS r) := rfl
theorem addQ_nil (s : Sq) : addQ s ([], 0) = s := by unfold addQ; rw [seqA_nil]; split <;> rfl
theorem colE_seqA {s t : Sq} (h : colE s.1 s.2 ≠ 0) : EqS (seqA s t) s := by
 by_cases e : s.2 = 0
 · have hl : 2000 < s.1.length := by
    unfold colE at h
    by_cases q : 2000 < s.1.length
    · exact q
    · rw [if_neg q] at h; exact absurd e h
   have e1 : colE s.1 s.2 = 3 := by unfold colE; rw [if_pos hl]
   have e2 : colE (seqA s t).1 (seqA s t).2 = 3 := by
    rw [seqA_of e]
    unfold colE
    rw [if_pos (by simp; omega)]
   exact ⟨e2.trans e1.symm, fun q => by rw [e2] at q; cases q⟩
 · have : seqA s t = s := by unfold seqA; rw [if_neg e]
   rw [this]
   exact EqS.refl s
theorem addQ_seq (s t u : Sq) : EqS (addQ (addQ s t) u) (addQ s (seqA t u)) := by
 by_cases h : colE s.1 s.2 = 0
 · rw [addQ_ok h, addQ_ok h, ← seqA_assoc]
   by_cases k : colE (seqA s t).1 (seqA s t).2 = 0
   · rw [addQ_ok k]; exact EqS.refl _
   · rw [addQ_bad k]; exact (colE_seqA k).symm
 · rw [addQ_bad h, addQ_bad h, addQ_bad h]; exact EqS.refl _
section
variable {R q : Nat} {P N : Nat → Prop} {w : World} {q10 : Nat} {cs : List Con} {dao : Option Addr} {s : Sq} {r : ZV} {A B : World}
variable {z : ZV}
end
theorem addS_same {s : Sq} {r : Zp × Int} {z : Zp} {e : Int} (he : e = r.2) (hz : e = 0 → z = r.1) : addS s (z, e) = addS s r := by
 obtain ⟨r1, r2⟩ := r
 simp only at he hz
 subst he
 by_cases h : e = 0
 · rw [hz h]
 · rw [addS_eq, addS_eq]
   congr 1
   unfold emS oneS
   simp [h]
theorem ckL_iff {all : List Zp} : ckL all = 0 ↔ ∀ z ∈ all, chkE z.1 z.2 = 0 ∧ z.1 = (all.headD (0, [])).1 := by
 unfold ckL
 constructor
 · intro h
   split at h
   · rename_i q
     rw [List.all_eq_true] at q
     intro z hz
     have := q z hz
     unfold ckZ at this
     simpa using this
   · cases h
 · intro h
   rw [if_pos]
   rw [List.all_eq_true]
   intro z hz
   unfold ckZ
   simpa using h z hz
theorem chkG_long {a b : List Zp} (h : 2000 < a.length ∨ 2000 < b.length) : chkG [a, b] = 3 := by
 unfold chkG; rw [if_pos]; simpa using h
theorem chkG_short {a b : List Zp} (h : ¬ (2000 < a.length ∨ 2000 < b.length)) : chkG [a, b] = ckL (a ++ b) := by
 unfold chkG; rw [if_neg]
 · simp
 · simpa using h
def RfRes (r : List Zp × Int) (w : World) (e : Ending) (w' : World) : Prop :=
 Below w.heap.size w w' ∧ ∃ ao cap L, e = .returned (.tuple #[.slice ao L.length cap, .int .i64 r.2]) ∧ OwnZ w.heap.size 0 w' (.slice ao L.length cap) L ∧ L.map ZV.p = (if r.2 = 0 then r.1 else []) ∧ L.length ≤ 2001
def RfNew (r : List Zp × Int) (w : World) (e : Ending) (w' : World) : Prop :=
 Below w.heap.size w w' ∧ ∃ ao cap L, e = .returned (.tuple #[.slice ao L.length cap, .int .i64 r.2]) ∧ OwnZ w.heap.size w.heap.size w' (.slice ao L.length cap) L ∧ L.map ZV.p = (if r.2 = 0 then r.1 else []) ∧ L.length ≤ 2001
theorem Mk.made (w : World) {N : Nat → Prop} : Mk w.heap.size w.heap.size (fun k => k < w.heap.size) N (w.alloc (.cells #[.slice none 0 0, .int .i64 0] 62)) ([], 0) :=
 ⟨.slice none 0 0, [], Bx2.made w _ _ _, OwnZ.nil _ _ _, fun _ => rfl, by simp, by simp [Value.ownBlock], by simp, fun k h => ⟨by omega, by simp [Value.ownBlock], by simp; omega⟩, by simp⟩
theorem Mk.add {R q : Nat} {P N : Nat → Prop} {A B : World} {s : Sq} (h : Mk R q P N A s) (hR : R ≤ q) (hN : ∀ j, N j → j < A.heap.size) (hb : Below A.heap.size A B) (z8 : ZV) (er : Int) (hz : ZAt A.heap.size B z8) :
  Calls Tryz.prog 44 #[.pointer (some ⟨q, 0, none⟩), z8.val, .int .i64 er] B (fun e C => e = .returned (.tuple #[]) ∧ Mk R q P N C (addS s (z8.p, er)) ∧ Kept P A C ∧ Below R A C) := by
 have hq := h.lt
 refine (radd_any R q (fun j => P j ∨ ∃ p, z8.a = some p ∧ p.block = j) N s z8 er B (h.more hb ?_ fun j r => Or.inl r) hR ?_).mono ?_
 · rintro j (r | ⟨p, e, rfl⟩)
   · exact Or.inl r
   · exact Or.inr (hz.2 p e)
 · intro _
   refine ⟨hz.low (Nat.zero_le _), fun p e => ⟨Or.inr ⟨p, e, rfl⟩, fun r => ?_⟩⟩
   have := (hz.2 p e).1
   have := hN _ r
   omega
 · rintro e C ⟨rfl, hm, hk, hB⟩
   exact ⟨rfl, hm.more (Below.refl _ _) (fun j r => Or.inl (Or.inl r)) (fun j r => Or.inl r), (Kept.of_below hb P).trans (hk.mono fun k _ r => Or.inl r), (hb.mono (by omega)).trans hB⟩
theorem RdZ.cells {B : Nat} {w : World} {a : Addr} {L : List ZV} (h : RdZ B w (some a) L) : ∀ j u, (zV L)[j]? = some u → w.cell? (a.add j) = some u := h.weak.cells
theorem OwnZ.read2 {R B : Nat} {A : World} {v : Value} {L : List ZV} (h : OwnZ R B A v L) : ∃ ao cap, v = .slice ao L.length cap ∧ RdZ B A ao L ∧ (ao = none → cap = 0) := by
 obtain ⟨ao, cap, e, h1, _⟩ := h.read
 refine ⟨ao, cap, e, h1, fun q => ?_⟩
 subst q
 rcases h.row.2 with ⟨e2, _⟩ | ⟨g, c2, cur, e2, _⟩
 · rw [e] at e2; injection e2
 · rw [e] at e2; injection e2 with e3; cases e3
def uaS (f : Zp → Zp × Int) (L : List Zp) : Sq := flatS (fun x => emS (f x)) L
def uaR (f : Zp → Zp × Int) (L : List Zp) : List Zp × Int := ((uaS f L).1, if rchk L = 0 then colE (uaS f L).1 (uaS f L).2 else rchk L)
theorem ua_step {f : Zp → Zp × Int} {s T : Sq} {L : List Zp} {t : Nat} (ht : t < L.length) {z : Zp} {e : Int} (h : EqS (addQ s (uaS f (L.drop t))) T) (he : e = (f L[t]).2) (hz : e = 0 → z = (f L[t]).1) : EqS (addQ (addS s (z, e)) (uaS f (L.drop (t + 1)))) T := by
 rw [addS_same he hz, addS_eq]
 refine (addQ_seq s _ _).trans ?_
 rw [List.drop_eq_getElem_cons ht] at h
 exact h
set_option maxRecDepth 100000 in
theorem rup_any (L : List ZV) (go : Option Addr) (gc : Nat) (w : World) (hL : RdZ 0 w go L) (hl : L.length ≤ 1000000) :
  Calls Tryz.prog 24 #[.slice go L.length gc] w (RfNew (uaR upP (L.map ZV.p)) w) := by
 have RL := Lib.hid hL
 obtain ⟨n, hn⟩ : ∃ n, n = L.length := ⟨_, rfl⟩
 have HN := Lib.hid hn
 have BO := Lib.hid (show ∀ W, Below w.heap.size w W → Calls Tryz.prog 12 #[.slice go n gc] W (Made (.int .i64 (rchk (L.map ZV.p))) W) from fun W h => by rw [hn]; exact rcheck_any L go gc W (hL.on h) hl)
 have nle : n ≤ 1000000 := by omega
 rw [← hn]
 clear hL hl hn
 obtain ⟨c, hc0⟩ : ∃ c, c = rchk (L.map ZV.p) := ⟨_, rfl⟩
 have HC := Lib.hid hc0
 rw [← hc0] at BO
 clear hc0
 go_enter Tryz.func24, Tryz.ntmps24
 go_wp2_with fail
 refine (BO.out _ (Below.refl _ _)).mono ?_
 rintro e w1 ⟨rfl, hb⟩
 have B1 := Lib.hid hb
 clear hb
 by_cases h0 : c = 0
 · have h0b : (c != 0) = false := by simp [h0]
   have EV := Lib.hid (show (uaR upP (L.map ZV.p)).2 = colE (uaS upP (L.map ZV.p)).1 (uaS upP (L.map ZV.p)).2 from by unfold uaR; rw [← HC.out, if_pos h0])
   clear h0
   obtain ⟨q, hq⟩ : ∃ q, q = w1.heap.size := ⟨_, rfl⟩
   obtain ⟨w2, hw2⟩ : ∃ w2, w2 = w1.alloc (.cells #[.slice none 0 0, .int .i64 0] 62) := ⟨_, rfl⟩
   have M0 := Lib.hid (show Mk q q (fun k => k < q) (fun j => j < w.heap.size) w2 ([], 0) by rw [hw2, hq]; exact Mk.made w1)
   have B2 := Lib.hid (show Below w.heap.size w w2 by rw [hw2]; exact below_on B1.out (one_more _))
   have WQ := Lib.hid (show w.heap.size ≤ q by rw [hq]; exact B1.out.size)
   go_upto_region 5 with (fail)
   rw [← hw2, ← hq]
   clear hw2 hq
   go_wp2_with fail
   go_loopw [6] (fun i wr => ∃ t : Nat, i = .int .i64 t ∧ t ≤ n ∧ Hid (∃ s, Mk q q (fun k => k < q) (fun j => j < w.heap.size) wr s ∧ Below w.heap.size w wr ∧ EqS (addQ s (uaS upP ((L.map ZV.p).drop t))) (uaS upP (L.map ZV.p)))) (fun i _ => n - (intOf i).toNat)
   case atStart => exact ⟨0, rfl, by omega, Lib.hid ⟨([], 0), M0.out, B2.out, by rw [addQ_ok rfl, nil_seqA]; exact EqS.refl _⟩⟩
   case round =>
    generalize wr = wo at *
    obtain ⟨t, rfl, ht, HI⟩ := hrel
    obtain ⟨s, mm, be, eq⟩ := HI.out
    have MM := Lib.hid mm
    have BE := Lib.hid be
    have EQ := Lib.hid eq
    clear mm be eq HI
    by_cases htn : t < n
    · obtain ⟨x, hx⟩ : ∃ x, x = L[t]'(by have := HN.out; omega) := ⟨_, rfl⟩
      have HLT := Lib.hid (show t < (L.map ZV.p).length by have := HN.out; simpa using (show t < L.length by omega))
      have XP := Lib.hid (show (L.map ZV.p)[t]'HLT.out = x.p by rw [hx]; simp)
      have HX := Lib.hid (show ZAt 0 wo x from (RL.out.el x (by rw [hx]; exact List.getElem_mem _)).on BE.out)
      obtain ⟨a, ea, h0, h1⟩ := (RL.out.on BE.out).hd t (by have := HN.out; omega)
      rw [← hx] at h0 h1
      have UP := rup_out x wo HX.out
      unfold ZV.val at UP
      obtain ⟨xl, hxl⟩ : ∃ xl, xl = x.l.length := ⟨_, rfl⟩
      rw [← hxl] at h1 UP
      have UP := Lib.hid UP
      clear hx hxl
      subst ea
      go_wp2_with fail
      refine UP.out.mono ?_
      rintro e wd ⟨hb, z8, rfl, hz8, hp8⟩
      have AD := MM.out.add (Nat.le_refl _) (fun _ r => Nat.lt_of_lt_of_le r BE.out.size) hb z8 (upP x.p).2 hz8
      unfold ZV.val at AD ⊢
      obtain ⟨zl, hzl⟩ : ∃ zl, zl = z8.l.length := ⟨_, rfl⟩
      rw [← hzl] at AD ⊢
      have ES := Lib.hid (ua_step (e := (upP x.p).2) (z := z8.p) HLT.out EQ.out (by rw [XP.out]) (by rw [XP.out]; exact hp8))
      obtain ⟨e8, he8⟩ : ∃ e8, e8 = (upP x.p).2 := ⟨_, rfl⟩
      rw [← he8] at AD ES ⊢
      have AD := Lib.hid AD
      clear he8 hzl hp8 hz8 hb h0 h1 UP
      go_wp2_with fail
      refine AD.out.mono ?_
      rintro e wx ⟨rfl, hmk, _, hbx⟩
      have MX := Lib.hid hmk
      have BX := Lib.hid (BE.out.trans (hbx.mono WQ.out))
      clear hmk hbx AD
      go_wp2_with fail
      go_roundw
      case rel => exact ⟨t + 1, by go_num, by omega, Lib.hid ⟨_, MX.out, BX.out, ES.out⟩⟩
      case measure => simp [intOf]; omega
    · have e : (L.map ZV.p).drop t = [] := List.drop_eq_nil_of_le (by have := HN.out; simp; omega)
      have eq := EQ.out
      rw [e, show uaS upP [] = ([], 0) from rfl, addQ_nil] at eq
      have TD := Lib.hid (told_any q q _ _ s wo MM.out)
      have EQ := Lib.hid eq
      clear e eq
      go_wp2_with fail
      refine TD.out.mono ?_
      rintro e w9 ⟨hb, ao, cap, X, rfl, hx, hxp, hxl, hxn8⟩
      obtain ⟨xn, hxn⟩ : ∃ xn, xn = X.length := ⟨_, rfl⟩
      have FIN := Lib.hid (show RfNew (uaR upP (L.map ZV.p)) w (.returned (.tuple #[.slice ao X.length cap, .int .i64 (colE s.1 s.2)])) w9 from by
       refine ⟨below_on BE.out hb, ao, cap, X, by rw [EV.out, EQ.out.1], ⟨(hx.low WQ.out (Nat.le_refl 0)).row, fun y hy => ⟨(hx.el y hy).1, fun p e => ⟨Nat.le_of_not_lt (hxn8 y hy p e), ((hx.el y hy).2 p e).2⟩⟩, hx.far⟩, ?_, by omega⟩
       rw [EV.out, hxp, ← EQ.out.1]
       by_cases h : colE s.1 s.2 = 0
       · rw [if_pos h, if_pos h]; exact EQ.out.2 h
       · rw [if_neg h, if_neg h])
      rw [← hxn] at FIN ⊢
      clear hb hx hxp hxl hxn hxn8
      go_wp2_with fail
      go_ret2
      exact FIN.out
 · have h0b : (c != 0) = true := by simpa using h0
   have FIN := Lib.hid (show RfNew (uaR upP (L.map ZV.p)) w (.returned (.tuple #[.slice none 0 0, .int .i64 c])) w1 from by
    have e : (uaR upP (L.map ZV.p)).2 = c := by unfold uaR; rw [← HC.out, if_neg h0]
    exact ⟨B1.out, none, 0, [], by rw [e]; rfl, OwnZ.nil _ _ _, by rw [e, if_neg h0]; rfl, by simp⟩)
   clear h0
   go_wp2_with fail
   go_ret2
   exact FIN.out
set_option maxRecDepth 100000 in
theorem rdown_any (L : List ZV) (go : Option Addr) (gc : Nat) (w : World) (hL : RdZ 0 w go L) (hl : L.length ≤ 1000000) :
  Calls Tryz.prog 26 #[.slice go L.length gc] w (RfNew (uaR dnP (L.map ZV.p)) w) := by
 have RL := Lib.hid hL
 obtain ⟨n, hn⟩ : ∃ n, n = L.length := ⟨_, rfl⟩
 have HN := Lib.hid hn
 have BO := Lib.hid (show ∀ W, Below w.heap.size w W → Calls Tryz.prog 12 #[.slice go n gc] W (Made (.int .i64 (rchk (L.map ZV.p))) W) from fun W h => by rw [hn]; exact rcheck_any L go gc W (hL.on h) hl)
 have nle : n ≤ 1000000 := by omega
 rw [← hn]
 clear hL hl hn
 obtain ⟨c, hc0⟩ : ∃ c, c = rchk (L.map ZV.p) := ⟨_, rfl⟩
 have HC := Lib.hid hc0
 rw [← hc0] at BO
 clear hc0
 go_enter Tryz.func26, Tryz.ntmps26
 go_wp2_with fail
 refine (BO.out _ (Below.refl _ _)).mono ?_
 rintro e w1 ⟨rfl, hb⟩
 have B1 := Lib.hid hb
 clear hb
 by_cases h0 : c = 0
 · have h0b : (c != 0) = false := by simp [h0]
   have EV := Lib.hid (show (uaR dnP (L.map ZV.p)).2 = colE (uaS dnP (L.map ZV.p)).1 (uaS dnP (L.map ZV.p)).2 from by unfold uaR; rw [← HC.out, if_pos h0])
   clear h0
   obtain ⟨q, hq⟩ : ∃ q, q = w1.heap.size := ⟨_, rfl⟩
   obtain ⟨w2, hw2⟩ : ∃ w2, w2 = w1.alloc (.cells #[.slice none 0 0, .int .i64 0] 62) := ⟨_, rfl⟩
   have M0 := Lib.hid (show Mk q q (fun k => k < q) (fun j => j < w.heap.size) w2 ([], 0) by rw [hw2, hq]; exact Mk.made w1)
   have B2 := Lib.hid (show Below w.heap.size w w2 by rw [hw2]; exact below_on B1.out (one_more _))
   have WQ := Lib.hid (show w.heap.size ≤ q by rw [hq]; exact B1.out.size)
   go_upto_region 5 with (fail)
   rw [← hw2, ← hq]
   clear hw2 hq
   go_wp2_with fail
   go_loopw [6] (fun i wr => ∃ t : Nat, i = .int .i64 t ∧ t ≤ n ∧ Hid (∃ s, Mk q q (fun k => k < q) (fun j => j < w.heap.size) wr s ∧ Below w.heap.size w wr ∧ EqS (addQ s (uaS dnP ((L.map ZV.p).drop t))) (uaS dnP (L.map ZV.p)))) (fun i _ => n - (intOf i).toNat)
   case atStart => exact ⟨0, rfl, by omega, Lib.hid ⟨([], 0), M0.out, B2.out, by rw [addQ_ok rfl, nil_seqA]; exact EqS.refl _⟩⟩
   case round =>
    generalize wr = wo at *
    obtain ⟨t, rfl, ht, HI⟩ := hrel
    obtain ⟨s, mm, be, eq⟩ := HI.out
    have MM := Lib.hid mm
    have BE := Lib.hid be
    have EQ := Lib.hid eq
    clear mm be eq HI
    by_cases htn : t < n
    · obtain ⟨x, hx⟩ : ∃ x, x = L[t]'(by have := HN.out; omega) := ⟨_, rfl⟩
      have HLT := Lib.hid (show t < (L.map ZV.p).length by have := HN.out; simpa using (show t < L.length by omega))
      have XP := Lib.hid (show (L.map ZV.p)[t]'HLT.out = x.p by rw [hx]; simp)
      have HX := Lib.hid (show ZAt 0 wo x from (RL.out.el x (by rw [hx]; exact List.getElem_mem _)).on BE.out)
      obtain ⟨a, ea, h0, h1⟩ := (RL.out.on BE.out).hd t (by have := HN.out; omega)
      rw [← hx] at h0 h1
      have UP := rdn_out x wo HX.out
      unfold ZV.val at UP
      obtain ⟨xl, hxl⟩ : ∃ xl, xl = x.l.length := ⟨_, rfl⟩
      rw [← hxl] at h1 UP
      have UP := Lib.hid UP
      clear hx hxl
      subst ea
      go_wp2_with fail
      refine UP.out.mono ?_
      rintro e wd ⟨hb, z8, rfl, hz8, hp8⟩
      have AD := MM.out.add (Nat.le_refl _) (fun _ r => Nat.lt_of_lt_of_le r BE.out.size) hb z8 (dnP x.p).2 hz8
      unfold ZV.val at AD ⊢
      obtain ⟨zl, hzl⟩ : ∃ zl, zl = z8.l.length := ⟨_, rfl⟩
      rw [← hzl] at AD ⊢
      have ES := Lib.hid (ua_step (e := (dnP x.p).2) (z := z8.p) HLT.out EQ.out (by rw [XP.out]) (by rw [XP.out]; exact hp8))
      obtain ⟨e8, he8⟩ : ∃ e8, e8 = (dnP x.p).2 := ⟨_, rfl⟩
      rw [← he8] at AD ES ⊢
      have AD := Lib.hid AD
      clear he8 hzl hp8 hz8 hb h0 h1 UP
      go_wp2_with fail
      refine AD.out.mono ?_
      rintro e wx ⟨rfl, hmk, _, hbx⟩
      have MX := Lib.hid hmk
      have BX := Lib.hid (BE.out.trans (hbx.mono WQ.out))
      clear hmk hbx AD
      go_wp2_with fail
      go_roundw
      case rel => exact ⟨t + 1, by go_num, by omega, Lib.hid ⟨_, MX.out, BX.out, ES.out⟩⟩
      case measure => simp [intOf]; omega
    · have e : (L.map ZV.p).drop t = [] := List.drop_eq_nil_of_le (by have := HN.out; simp; omega)
      have eq := EQ.out
      rw [e, show uaS dnP [] = ([], 0) from rfl, addQ_nil] at eq
      have TD := Lib.hid (told_any q q _ _ s wo MM.out)
      have EQ := Lib.hid eq
      clear e eq
      go_wp2_with fail
      refine TD.out.mono ?_
      rintro e w9 ⟨hb, ao, cap, X, rfl, hx, hxp, hxl, hxn8⟩
      obtain ⟨xn, hxn⟩ : ∃ xn, xn = X.length := ⟨_, rfl⟩
      have FIN := Lib.hid (show RfNew (uaR dnP (L.map ZV.p)) w (.returned (.tuple #[.slice ao X.length cap, .int .i64 (colE s.1 s.2)])) w9 from by
       refine ⟨below_on BE.out hb, ao, cap, X, by rw [EV.out, EQ.out.1], ⟨(hx.low WQ.out (Nat.le_refl 0)).row, fun y hy => ⟨(hx.el y hy).1, fun p e => ⟨Nat.le_of_not_lt (hxn8 y hy p e), ((hx.el y hy).2 p e).2⟩⟩, hx.far⟩, ?_, by omega⟩
       rw [EV.out, hxp, ← EQ.out.1]
       by_cases h : colE s.1 s.2 = 0
       · rw [if_pos h, if_pos h]; exact EQ.out.2 h
       · rw [if_neg h, if_neg h])
      rw [← hxn] at FIN ⊢
      clear hb hx hxp hxl hxn hxn8
      go_wp2_with fail
      go_ret2
      exact FIN.out
 · have h0b : (c != 0) = true := by simpa using h0
   have FIN := Lib.hid (show RfNew (uaR dnP (L.map ZV.p)) w (.returned (.tuple #[.slice none 0 0, .int .i64 c])) w1 from by
    have e : (uaR dnP (L.map ZV.p)).2 = c := by unfold uaR; rw [← HC.out, if_neg h0]
    exact ⟨B1.out, none, 0, [], by rw [e]; rfl, OwnZ.nil _ _ _, by rw [e, if_neg h0]; rfl, by simp⟩)
   clear h0
   go_wp2_with fail
   go_ret2
   exact FIN.out
end Go.Proofs.YthjapmdfcbngmaaGreat
