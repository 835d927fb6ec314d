/- Contracts of package poly: Empty.; Contracts of layer 7's reference: Valid, Check. -/
import Derived.Test.YtbhaoaobhgilkaaGreatVi24
import Derived.Deep.RegionHeld3
import Derived.Test.YtbhaoaobhgilkaaGreatVi22

namespace Go.Proofs.YtbhaoaobhgilkaaGreat
open Go.RowKit Go.Sort Go.Shelf

theorem ofV_rg {n : Int} {y : AV} (hn : n ≤ 6) (h : validB n y = true) : Rg 2147483647 (ofV y) := by
  unfold validB at h
  simp only [Bool.and_eq_true, List.all_eq_true, decide_eq_true_eq] at h
  obtain ⟨⟨h1, h2⟩, h3⟩ := h
  refine ⟨by simp [ofV]; omega, fun v hv => ?_, ?_⟩
  · rcases List.mem_append.1 hv with q | q
    · have := h2 v q; unfold fitB at this; simpa using this
    · have := List.eq_of_mem_replicate q; omega
  · unfold fitB at h3; simpa [ofV] using h3

theorem chk_valid {n : Int} {L : List AV} (h : chkP n L = 0) : (0 ≤ n ∧ n ≤ 5) ∧ L.length ≤ 1000 ∧ ∀ y ∈ L, validB n y = true := by
  unfold chkP at h
  split at h
  · cases h
  · rename_i h1
    split at h
    · cases h
    · rename_i h2
      split at h
      · cases h
      · rename_i h3
        refine ⟨by omega, by omega, fun y hy => ?_⟩
        have : ¬ (!validB n y) = true := fun q => h3 (List.any_eq_true.2 ⟨y, hy, q⟩)
        simpa using this

theorem valid_len {n : Int} {y : AV} (h : validB n y = true) : (y.a.length : Int) = n := by
  unfold validB at h
  simp only [Bool.and_eq_true, decide_eq_true_eq] at h
  exact h.1.1

/-- Does a line stay when all coordinates are left out? -/
def empB (l : List Ln) (n : Nat) : Bool := decide (0 < (shL l n n).length)

set_option maxRecDepth 100000 in
set_option maxHeartbeats 4000000 in
theorem empty1_any (n : Nat) (L : List AV) (ao : Option Addr) (cap pn pl : Nat) (w : World) (hc : chkP n L = 0) (hR : RdV w ao L) (c0 : w.cell? ⟨pn, 0, none⟩ = some (.int .i64 n)) (c1 : w.cell? ⟨pl, 0, none⟩ = some (.slice ao L.length cap)) :
    Calls Tryz.prog 52 #[.pointer (some ⟨pn, 0, none⟩), .pointer (some ⟨pl, 0, none⟩)] w fun e W' =>
      (shE (L.map ofV) n n = 0 ∧ ∃ v, e = .returned v ∧ v = .bool (empB (L.map ofV) n) ∧ Below w.heap.size w W') ∨ (shE (L.map ofV) n n ≠ 0 ∧ e = .panicked (pan (shE (L.map ofV) n n)) ∧ Below w.heap.size w W') := by
  obtain ⟨⟨_, hn⟩, hl, hv⟩ := chk_valid hc
  have hn6 : n ≤ 6 := by omega
  obtain ⟨k, hk⟩ : ∃ k, k = (L.map ofV).length := ⟨_, rfl⟩
  have hk2 : k = L.length := by rw [hk]; simp
  have LI := Lib.hid (fun W (h : Below w.heap.size w W) => lines_any L ao cap W (by omega) (hR.on h) (fun y hy => by have := valid_len (hv y hy); omega))
  have SH := Lib.hid (fun W a c (h : RdL W a (L.map ofV)) => shadows_any (L.map ofV) a c n W (by simp; omega) hn6 h (fun x hx => by
    obtain ⟨y, hy, rfl⟩ := List.mem_map.1 hx
    exact ofV_rg (by omega) (hv y hy)))
  rw [← hk] at SH
  rw [← hk2] at LI c1
  have KL := Lib.hid hk
  have C0 := Lib.hid c0
  have C1 := Lib.hid c1
  generalize L.map ofV = l at *
  clear hc hR c0 c1 hl hv hk hk2 hn
  go_enter Tryz.func52, Tryz.ntmps52
  go_upto_region 1 with (fail)
  have KS := Lib.hid (show ∀ W, Below w.heap.size w W → (W.cell? ⟨pn, 0, none⟩ = some (.int .i64 n) ∧ W.cell? ⟨pl, 0, none⟩ = some (.slice ao k cap)) from fun W h => ⟨kept h C0.out, kept h C1.out⟩)
  obtain ⟨wc, hwc⟩ : ∃ wc, wc = w.drew := ⟨_, rfl⟩
  have Bc := Lib.hid (show Below w.heap.size w wc by rw [hwc]; exact (Below.refl _ _).drew)
  refine wp_region_held_drew (S := (fun W => (W.cell? ⟨pn, 0, none⟩ = some (.int .i64 n) ∧ W.cell? ⟨pl, 0, none⟩ = some (.slice ao k cap)))) (by kernel_rfl) (by rw [← hwc]; exact KS.out _ Bc.out) (fun h0 => ?_)
  rw [← hwc] at h0 ⊢
  clear hwc
  refine wpAnyH_take (i := 0) (v := ?v1) rfl (by kernel_rfl) (by kernel_rfl) (by kernel_rfl) (fun _ _ _ h => h) (Or.inl ⟨by rfl, ?hy1⟩) h0 ?rest1
  case hy1 => (intro w' hS; (try dsimp only at hS); go_simp; try (with_reducible rfl))
  simp only [Act.put, List.getElem_toArray, List.getElem_cons_zero, List.setIfInBounds_toArray, List.set_cons_zero, List.set_cons_succ]
  refine wpAnyH_take (i := 1) (v := ?v2) rfl (by kernel_rfl) (by kernel_rfl) (by kernel_rfl) (fun _ _ _ h => h) (Or.inl ⟨by rfl, ?hy2⟩) h0 ?rest2
  case hy2 => (intro w' hS; (try dsimp only at hS); go_simp; try (with_reducible rfl))
  simp only [Act.put, List.getElem_toArray, List.getElem_cons_zero, List.getElem_cons_succ, List.setIfInBounds_toArray, List.set_cons_zero, List.set_cons_succ]
  refine wpAnyH_ready (rs := [2]) (by kernel_rfl) (by simp) (AllReadyH.cons rfl (fun K hK => ?_) AllReadyH.nil)
  rw [if_pos (by rfl)]
  go_simp
  refine (LI.out wc Bc.out).mono ?_
  rintro e wc ⟨a1, d1, rfl, hr, hb⟩
  have R1 := Lib.hid hr
  clear hr
  rw [← KL.out]
  have Bc := Lib.hid (below_on Bc.out hb)
  clear hb
  go_simp
  refine hK.out _ _ (KS.out _ Bc.out) (fun h0_1 => ?_)
  clear hK K h0
  refine wpAnyH_ready (rs := [3]) (by kernel_rfl) (by simp) (AllReadyH.cons rfl (fun K hK => ?_) AllReadyH.nil)
  rw [if_pos (by rfl)]
  go_simp
  refine (SH.out wc a1 d1 R1.out).mono ?_
  rintro e wc (⟨he, b2, cs2, rfl, hs⟩ | ⟨he, rfl, hb⟩)
  rotate_left
  · exact And.intro rfl (Or.inr ⟨he, rfl, below_on Bc.out hb⟩)
  have HE := Lib.hid he
  have hb := hs.be
  obtain ⟨a3, d3, e3, r3⟩ := hs.hi 0 (by omega) (by omega)
  have g3 := Lib.hid ((hs.cell 0).trans e3)
  clear hs e3 r3 he
  have Bc := Lib.hid (below_on Bc.out hb)
  clear hb
  go_simp
  refine hK.out _ _ (KS.out _ Bc.out) (fun h0_2 => ?_)
  clear hK K h0_1
  refine wpAnyH_ready (rs := [4]) (by kernel_rfl) (by simp) (AllReadyH.cons rfl (fun K hK => ?_) AllReadyH.nil)
  rw [if_pos (by rfl)]
  go_simp
  refine (isEmpty_any b2 (n + 1) (n + 1) (shL l n (n - 0)).length d3 a3 wc (by omega) g3.out).mono ?_
  rintro e wc ⟨rfl, hb⟩
  have Bc := Lib.hid (below_on Bc.out hb)
  clear hb
  go_simp
  refine hK.out _ _ (KS.out _ Bc.out) (fun h0_3 => ?_)
  clear hK K h0_2
  refine wpAnyH_take (i := 5) (v := ?v3) rfl (by kernel_rfl) (by kernel_rfl) (by kernel_rfl) (fun _ _ _ h => h) (Or.inl ⟨by rfl, ?hy3⟩) h0_3 ?rest3
  case hy3 => (intro w' hS; (try dsimp only at hS); go_simp; try (with_reducible rfl))
  simp only [Act.put, List.getElem_toArray, List.getElem_cons_zero, List.getElem_cons_succ, List.setIfInBounds_toArray]
  try simp only [List.set_cons_succ]
  try simp only [List.set_cons_zero]
  refine wpAnyH_done (by kernel_rfl) ?_ _
  go_wp2_with fail
  go_ret
  exact Or.inl ⟨HE.out, _, rfl, rfl, Bc.out⟩
end Go.Proofs.YtbhaoaobhgilkaaGreat

namespace Go.Proofs.YtbhaoaobhgilkaaGreat
open Go.RowKit Go.Sort

set_option maxRecDepth 20000 in
set_option maxHeartbeats 2000000 in
theorem rvalid_any (n : Int) (y : AV) (w : World) (hl : y.a.length ≤ 1000000) (hR : Rd1 w y.q y.a) : Calls Tryz.prog 50 #[.int .i64 n, .agg y.cs] w (Made (.bool (validB n y)) w) := by
  obtain ⟨q, c, a, b, s⟩ := y
  simp only [AV.cs, AV.cells] at *
  obtain ⟨w0, hw0⟩ : ∃ w0, w0 = w.alloc (.cells #[.slice q a.length c, .int .i64 b, .bool s] 25) := ⟨_, rfl⟩
  have E0 := Lib.hid (show Below w.heap.size w w0 by rw [hw0]; exact one_more _)
  have hq := heap_alloc_last w (.cells #[.slice q a.length c, .int .i64 b, .bool s] 25)
  rw [← hw0] at hq
  have d0 : w0.cell? ⟨w.heap.size, 0, none⟩ = some (.slice q a.length c) := by rw [cell_of_row w0 _ 0 _ _ _ hq]; rfl
  have d1 : w0.cell? ⟨w.heap.size, 1, none⟩ = some (.int .i64 b) := by rw [cell_of_row w0 _ 1 _ _ _ hq]; rfl
  have R0 := Lib.hid (hR.on E0.out)
  obtain ⟨m, hm⟩ : ∃ m, m = a.length := ⟨_, rfl⟩
  have HM := Lib.hid hm
  have hle : m ≤ 1000000 := by omega
  obtain ⟨r, hr⟩ : ∃ r, r = validB n ⟨q, c, a, b, s⟩ := ⟨_, rfl⟩
  have VB := Lib.hid (show r = (decide ((a.length : Int) = n) && a.all fitB && fitB b) by rw [hr]; rfl)
  rw [← hr]
  rw [← hm] at d0 hw0 ⊢
  clear hl hR hq hm hr
  go_enter Tryz.func50, Tryz.ntmps50
  go_upto_region 1 with (fail)
  rw [← hw0]
  clear hw0
  go_wp2_with fail
  go_loopw [5] (fun u wr => ∃ t : Nat, u = .int .i64 t ∧ t ≤ m ∧ Hid (∀ i, i < t → fitB (gA a i) = true) ∧ wr = w0) (fun u _ => m - (intOf u).toNat)
  case atStart => exact ⟨0, rfl, by omega, Lib.hid (fun i h => by omega), rfl⟩
  case round =>
    obtain ⟨t, rfl, ht, HF, rfl⟩ := hrel
    by_cases htn : t < m
    · obtain ⟨p, hp, c0⟩ := R0.out t (by have := HM.out; omega)
      obtain ⟨u, hu⟩ : ∃ u, u = gA a t := ⟨_, rfl⟩
      have HU := Lib.hid hu
      rw [← hu] at c0
      clear hu
      subst hp
      have bad : ¬ (-2147483647 ≤ u ∧ u ≤ 2147483647) → r = false := fun h => by
        rw [VB.out]
        have : a.all fitB = false := by
          rw [List.all_eq_false]
          refine ⟨gA a t, gA_mem (by have := HM.out; omega), ?_⟩
          rw [← HU.out]; unfold fitB; simpa using h
        rw [this]; simp
      by_cases h1 : u < -2147483647
      · have HE := Lib.hid (bad (by omega))
        clear bad
        go_wp2_with fail
        go_ret
        exact ⟨ret_bool HE.out.symm, E0.out⟩
      · by_cases h2 : 2147483647 < u
        · have HE := Lib.hid (bad (by omega))
          clear bad
          go_wp2_with fail
          go_ret
          exact ⟨ret_bool HE.out.symm, E0.out⟩
        · have HF' := Lib.hid (show ∀ i, i < t + 1 → fitB (gA a i) = true from fun i hi => by
            by_cases e : i = t
            · subst e; rw [← HU.out]; unfold fitB; simp; omega
            · exact HF.out i (by omega))
          clear bad
          go_wp2_with fail
          go_roundw
          case rel => exact ⟨t + 1, by go_num, by omega, HF', trivial⟩
          case measure => simp [intOf]; omega
    · have FA := Lib.hid (show a.all fitB = true from by
        rw [List.all_eq_true]
        intro v hv
        obtain ⟨i, hi, rfl⟩ := List.getElem_of_mem hv
        have := HF.out i (by have := HM.out; omega)
        simpa [gA, hi] using this)
      by_cases h0 : (m : Int) = n
      · have e0 : ((m : Int) == n) = true := beq_iff_eq.2 h0
        have VC := Lib.hid (show r = fitB b by rw [VB.out, FA.out, ← HM.out]; simp [h0])
        clear h0
        by_cases h1 : -2147483647 ≤ b
        · by_cases h2 : b ≤ 2147483647
          · have HE := Lib.hid (show r = true by rw [VC.out]; unfold fitB; simp; omega)
            go_wp2_with fail
            go_ret
            exact ⟨ret_bool HE.out.symm, E0.out⟩
          · have HE := Lib.hid (show r = false by rw [VC.out]; unfold fitB; simp; omega)
            go_wp2_with fail
            go_ret
            exact ⟨ret_bool HE.out.symm, E0.out⟩
        · have HE := Lib.hid (show r = false by rw [VC.out]; unfold fitB; simp; omega)
          go_wp2_with fail
          go_ret
          exact ⟨ret_bool HE.out.symm, E0.out⟩
      · have e0 : ((m : Int) == n) = false := by rw [beq_eq_false_iff_ne]; exact h0
        have HE := Lib.hid (show r = false by rw [VB.out, ← HM.out]; simp [h0])
        clear h0
        go_wp2_with fail
        go_ret
        exact ⟨ret_bool HE.out.symm, E0.out⟩

set_option maxRecDepth 20000 in
set_option maxHeartbeats 2000000 in
theorem rcheck_any (n : Int) (L : List AV) (ao : Option Addr) (cap : Nat) (w : World) (hR : RdV w ao L) (hL : ∀ y ∈ L, y.a.length ≤ 1000000) :
    Calls Tryz.prog 16 #[.int .i64 n, .slice ao L.length cap] w (Made (.int .i64 (chkP n L)) w) := by
  obtain ⟨m, hm⟩ : ∃ m, m = L.length := ⟨_, rfl⟩
  have HM := Lib.hid hm
  have HR := Lib.hid hR
  have HL := Lib.hid hL
  obtain ⟨r, hr⟩ : ∃ r, r = chkP n L := ⟨_, rfl⟩
  have RB := Lib.hid (show r = if n < 0 ∨ 5 < n then 2 else if 1000 < m then 3 else if L.any (fun y => !validB n y) then 2 else 0 by rw [hr, hm]; rfl)
  rw [← hr, ← hm]
  clear hR hL hm hr
  by_cases h1 : n < 0
  · have HE := Lib.hid (show r = 2 by rw [RB.out, if_pos (Or.inl h1)])
    go_enter Tryz.func16, Tryz.ntmps16
    go_wp2_with fail
    go_ret
    exact ⟨ret_int HE.out.symm, Below.refl _ _⟩
  by_cases h2 : 5 < n
  · have HE := Lib.hid (show r = 2 by rw [RB.out, if_pos (Or.inr h2)])
    go_enter Tryz.func16, Tryz.ntmps16
    go_wp2_with fail
    go_ret
    exact ⟨ret_int HE.out.symm, Below.refl _ _⟩
  have RB := Lib.hid (show r = if 1000 < m then 3 else if L.any (fun y => !validB n y) then 2 else 0 by rw [RB.out, if_neg (by omega)])
  by_cases h3 : 1000 < m
  · have HE := Lib.hid (show r = 3 by rw [RB.out, if_pos h3])
    go_enter Tryz.func16, Tryz.ntmps16
    go_wp2_with fail
    go_ret
    exact ⟨ret_int HE.out.symm, Below.refl _ _⟩
  have RB := Lib.hid (show r = if L.any (fun y => !validB n y) then 2 else 0 by rw [RB.out, if_neg h3])
  go_enter Tryz.func16, Tryz.ntmps16
  go_wp2_with fail
  go_loopw [5] (fun u wr => ∃ t : Nat, u = .int .i64 t ∧ t ≤ m ∧ Hid (∀ i, ∀ h : i < L.length, i < t → validB n L[i] = true) ∧ Hid (Below w.heap.size w wr)) (fun u _ => m - (intOf u).toNat)
  case atStart => exact ⟨0, rfl, by omega, Lib.hid (fun i h h' => by omega), Lib.hid (Below.refl _ _)⟩
  case round =>
    obtain ⟨t, rfl, ht, HF, HB⟩ := hrel
    by_cases htn : t < m
    · have hlt : t < L.length := by have := HM.out; omega
      obtain ⟨p, hp, c0⟩ := (HR.out.on HB.out).at_ t hlt
      obtain ⟨y, hy⟩ : ∃ y, y = L[t] := ⟨_, rfl⟩
      have hmem := List.getElem_mem hlt
      rw [← hy] at c0 hmem
      have C0 := Lib.hid c0
      have YL := Lib.hid (HL.out y hmem)
      have YN := Lib.hid ((HR.out.on HB.out).nums y hmem)
      have HY := Lib.hid (show ∀ h : t < L.length, y = L[t] from fun _ => hy)
      have LT := Lib.hid hlt
      subst hp
      clear c0 hmem hy hlt
      go_wp2_with (refine wpl_loadV rfl _ rfl _ rfl y C0.out ?_)
      refine (rvalid_any n y wr YL.out YN.out).mono ?_
      rintro e w1 ⟨rfl, hb⟩
      have HB1 := Lib.hid (below_on HB.out hb)
      clear hb
      cases hv : validB n y
      · have HE := Lib.hid (show r = 2 by
          rw [RB.out, if_pos]
          rw [List.any_eq_true]
          exact ⟨y, by rw [HY.out LT.out]; exact List.getElem_mem LT.out, by rw [hv]; rfl⟩)
        go_wp2_with fail
        go_ret
        exact ⟨ret_int HE.out.symm, HB1.out⟩
      · have HF' := Lib.hid (show ∀ i, ∀ h : i < L.length, i < t + 1 → validB n L[i] = true from fun i h hi => by
          by_cases e : i = t
          · subst e; rw [← HY.out h]; exact hv
          · exact HF.out i h (by omega))
        go_wp2_with fail
        go_roundw
        case rel => exact ⟨t + 1, by go_num, by omega, HF', HB1⟩
        case measure => simp [intOf]; omega
    · have HE := Lib.hid (show r = 0 by
        rw [RB.out, if_neg]
        rw [List.any_eq_true]
        rintro ⟨y, hy, hv⟩
        obtain ⟨i, hi, rfl⟩ := List.getElem_of_mem hy
        rw [HF.out i hi (by have := HM.out; omega)] at hv
        simp at hv)
      go_wp2_with fail
      go_ret
      exact ⟨ret_int HE.out.symm, HB.out⟩
end Go.Proofs.YtbhaoaobhgilkaaGreat
