/- Contracts of layer 7's reference: size, divisor, order, zero.; Contracts of layer 7's reference: Valid, Check. -/
import Derived.Test.YtbhaoaobhgilkaaGreatVa16
import Derived.Test.YtbhaoaobhgilkaaGreatVa25
import Derived.BigQuiet
import Derived.Deep.QuietTactic
import Derived.Test.YtbhaoaobhgilkaaGreatVa18

namespace Go.Proofs.YtbhaoaobhgilkaaGreat
open Go.RowKit Go.Sort

theorem drewN_3 (w : World) (a b c : Nat) : ((w.drewN a).drewN b).drewN c = w.drewN (a + b + c) := by rw [World.drewN_drewN, World.drewN_drewN, Nat.add_assoc]

theorem rsize_any (n : Int) (w : World) (h : A63 n) : Calls Tryz.prog 145 #[.int .i64 n] w (fun e w' => e = .returned (.int .i64 (n.natAbs : Int)) ∧ w' = w) := by
  by_cases h0 : n < 0
  · have e : wrap64 (-n) = (n.natAbs : Int) := by unfold A63 at h; unfold wrap64; omega
    have E := Lib.hid e
    clear h e
    go_enter Tryz.func145, Tryz.ntmps145
    go_wp2_with fail
    go_ret
    exact ⟨ret_int E.out, rfl⟩
  · have E := Lib.hid (show n = (n.natAbs : Int) by omega)
    clear h
    go_enter Tryz.func145, Tryz.ntmps145
    go_wp2_with fail
    go_ret
    exact ⟨ret_int E.out, rfl⟩

set_option maxRecDepth 20000 in
set_option maxHeartbeats 1000000 in
theorem rdiv_any (a b : Int) (w : World) (ha : 0 ≤ a ∧ a ≤ 9223372036854775807) (hb : 0 ≤ b ∧ b ≤ 9223372036854775807) :
    Calls Tryz.prog 92 #[.int .i64 a, .int .i64 b] w (Drawn (.int .i64 (Int.gcd a b)) w) := by
  obtain ⟨G, hG⟩ : ∃ G, G = Int.gcd a b := ⟨_, rfl⟩
  rw [← hG]
  go_enter Tryz.func92, Tryz.ntmps92
  go_wp2_with fail
  go_loopw [0, 1] (fun p q wr => ∃ x y : Int, p = .int .i64 x ∧ q = .int .i64 y ∧ Hid (A63 x ∧ A63 y ∧ 0 ≤ x ∧ 0 ≤ y) ∧ Hid (Int.gcd x y = G) ∧ ∃ n, wr = w.drewN n) (fun _ q _ => (intOf q).natAbs)
  case atStart => exact ⟨a, b, rfl, rfl, Lib.hid ⟨by unfold A63; omega, by unfold A63; omega, ha.1, hb.1⟩, Lib.hid hG.symm, 0, rfl⟩
  case round =>
    obtain ⟨x, y, rfl, rfl, HA, HG, n, rfl⟩ := hrel
    by_cases hy : y = 0
    · subst hy
      have HX := Lib.hid (show x = (G : Int) by have := HG.out; have := HA.out.2.2.1; rw [Int.gcd_zero_right] at *; omega)
      clear HA HG
      go_wp2_with fail
      go_ret
      exact ⟨ret_int HX.out, n, rfl⟩
    · have h0 : (y != 0) = true := by simpa using hy
      have hz : (y == 0) = false := by simpa using hy
      have HR := Lib.hid (show A63 (x.tmod y) ∧ (x.tmod y).natAbs < y.natAbs ∧ Int.gcd y (x.tmod y) = G ∧ 0 ≤ x.tmod y from by
        have := tmod_a63 (a := x) HA.out.2.1 hy
        exact ⟨this.1, this.2, (gcd_step x y).trans HG.out, Int.tmod_nonneg y HA.out.2.2.1⟩)
      have HX := Lib.hid HA.out
      clear HA HG
      go_wp2_with fail
      go_quiet (fail)
      go_wp2_with fail
      go_roundw
      case rel => exact ⟨y, x.tmod y, rfl, rfl, Lib.hid ⟨HX.out.2.1, HR.out.1, HX.out.2.2.2, HR.out.2.2.2⟩, Lib.hid HR.out.2.2.1, _, World.drewN_drewN _ _ _⟩
      case measure => exact HR.out.2.1

set_option maxRecDepth 20000 in
set_option maxHeartbeats 1000000 in
theorem rzero_any (l : List Int) (ao : Option Addr) (c : Nat) (w : World) (hl : l.length ≤ 1000000) (hR : Rd1 w ao l) :
    Calls Tryz.prog 108 #[.slice ao l.length c] w (fun e w' => e = .returned (.bool (l.all (· == 0))) ∧ w' = w) := by
  have HR := Lib.hid hR
  obtain ⟨n, hn⟩ : ∃ n, n = l.length := ⟨_, rfl⟩
  have HL := Lib.hid hn
  rw [← hn]
  have hle : n ≤ 1000000 := by omega
  obtain ⟨r, hr⟩ : ∃ r, r = l.all (· == 0) := ⟨_, rfl⟩
  have HB := Lib.hid hr
  rw [← hr]
  clear hl hR hn hr
  go_enter Tryz.func108, Tryz.ntmps108
  go_wp2_with fail
  go_loopw [3] (fun s wr => ∃ t : Nat, s = .int .i64 t ∧ t ≤ n ∧ Hid (∀ i, i < t → gA l i = 0) ∧ wr = w) (fun s _ => n - (intOf s).toNat)
  case atStart => exact ⟨0, rfl, by omega, Lib.hid (fun i h => by omega), rfl⟩
  case round =>
    obtain ⟨t, rfl, ht, HF, rfl⟩ := hrel
    by_cases htn : t < n
    · obtain ⟨a, ha, c0⟩ := HR.out t (by have := HL.out; omega)
      obtain ⟨u, hu⟩ : ∃ u, u = gA l t := ⟨_, rfl⟩
      have HU := Lib.hid hu
      rw [← hu] at c0
      clear hu
      subst ha
      by_cases hc : u = 0
      · have HF' := Lib.hid (show ∀ i, i < t + 1 → gA l i = 0 from fun i hi => by
          by_cases e : i = t
          · subst e; rw [← HU.out]; exact hc
          · exact HF.out i (by omega))
        subst hc
        go_wp2_with fail
        go_roundw
        case rel => exact ⟨t + 1, by go_num, by omega, HF', trivial⟩
        case measure => simp [intOf]; omega
      · have D : (u != 0) = true := by simpa using hc
        have HE := Lib.hid (show r = false from by
          rw [HB.out, List.all_eq_false]
          refine ⟨gA l t, gA_mem (by have := HL.out; omega), ?_⟩
          rw [← HU.out]; simpa using hc)
        clear hc
        go_wp2_with fail
        go_ret
        exact ⟨ret_bool HE.out.symm, rfl⟩
    · have HE := Lib.hid (show r = true from by
        rw [HB.out, List.all_eq_true]
        intro v hv
        obtain ⟨i, hi, rfl⟩ := List.getElem_of_mem hv
        have := HF.out i (by have := HL.out; omega)
        simp [gA, hi] at this
        simpa using this)
      go_wp2_with fail
      go_ret
      exact ⟨ret_bool HE.out.symm, rfl⟩

set_option maxRecDepth 20000 in
set_option maxHeartbeats 1000000 in
theorem rorder_any (l m : List Int) (ao bo : Option Addr) (ca cb : Nat) (w : World) (hl : l.length ≤ 1000000) (hm : m.length = l.length) (hR : Rd1 w ao l) (hS : Rd1 w bo m) :
    Calls Tryz.prog 109 #[.slice ao l.length ca, .slice bo m.length cb] w (fun e w' => e = .returned (.int .i64 (cmpL l m)) ∧ ∃ k, w' = w.drewN k) := by
  have HR := Lib.hid hR
  have HS := Lib.hid hS
  obtain ⟨n, hn⟩ : ∃ n, n = l.length := ⟨_, rfl⟩
  have HL := Lib.hid hn
  have HM := Lib.hid (show n = m.length by omega)
  rw [hm, ← hn]
  have hle : n ≤ 1000000 := by omega
  clear hl hm hR hS hn
  go_enter Tryz.func109, Tryz.ntmps109
  go_wp2_with fail
  go_loopw [5] (fun s wr => ∃ t : Nat, s = .int .i64 t ∧ t ≤ n ∧ Hid (∀ i, i < t → gA l i = gA m i) ∧ ∃ k, wr = w.drewN k) (fun s _ => n - (intOf s).toNat)
  case atStart => exact ⟨0, rfl, by omega, Lib.hid (fun i h => by omega), 0, rfl⟩
  case round =>
    obtain ⟨t, rfl, ht, HF, k, rfl⟩ := hrel
    by_cases htn : t < n
    · obtain ⟨a, ha, c0⟩ := HR.out t (by have := HL.out; omega)
      obtain ⟨b, hb, c1⟩ := HS.out t (by have := HM.out; omega)
      obtain ⟨u, hu⟩ : ∃ u, u = gA l t := ⟨_, rfl⟩
      obtain ⟨v, hv⟩ : ∃ v, v = gA m t := ⟨_, rfl⟩
      have HU := Lib.hid hu
      have HV := Lib.hid hv
      rw [← hu] at c0
      rw [← hv] at c1
      clear hu hv
      subst ha
      subst hb
      by_cases h1 : u < v
      · have HE := Lib.hid (show cmpL l m = -1 from by
          have e : cmpI (gA l t) (gA m t) = -1 := by rw [← HU.out, ← HV.out]; unfold cmpI; rw [if_pos h1]
          rw [cmpL_at (by have := HL.out; omega) (by have := HM.out; omega) HF.out (by rw [e]; decide), e])
        go_wp2_with fail
        go_quiet (fail)
        go_wp2_with fail
        go_ret
        exact ⟨ret_int HE.out.symm, _, World.drewN_drewN _ _ _⟩
      · by_cases h2 : v < u
        · have HE := Lib.hid (show cmpL l m = 1 from by
            have e : cmpI (gA l t) (gA m t) = 1 := by rw [← HU.out, ← HV.out]; unfold cmpI; rw [if_neg h1, if_pos h2]
            rw [cmpL_at (by have := HL.out; omega) (by have := HM.out; omega) HF.out (by rw [e]; decide), e])
          go_wp2_with fail
          go_quiet (fail)
          go_wp2_with fail
          go_quiet (fail)
          go_wp2_with fail
          go_ret
          exact ⟨ret_int HE.out.symm, _, drewN_3 _ _ _ _⟩
        · have HF' := Lib.hid (show ∀ i, i < t + 1 → gA l i = gA m i from fun i hi => by
            by_cases e : i = t
            · subst e; rw [← HU.out, ← HV.out]; omega
            · exact HF.out i (by omega))
          go_wp2_with fail
          go_quiet (fail)
          go_wp2_with fail
          go_quiet (fail)
          go_wp2_with fail
          go_roundw
          case rel => exact ⟨t + 1, by go_num, by omega, HF', _, rfl⟩
          case measure => simp [intOf]; omega
    · have HE := Lib.hid (show cmpL l m = 0 from cmpL_zero.2 (gA_ext (by have := HL.out; have := HM.out; omega) fun i hi => HF.out i (by have := HL.out; omega)))
      go_wp2_with fail
      go_ret
      exact ⟨ret_int HE.out.symm, k, rfl⟩
end Go.Proofs.YtbhaoaobhgilkaaGreat

namespace Go.Proofs.YtbhaoaobhgilkaaGreat
open Go.RowKit Go.Sort

set_option maxRecDepth 20000 in
set_option maxHeartbeats 2000000 in
theorem rvalid_any (n : Int) (y : AV) (w : World) (hl : y.a.length ≤ 1000000) (hR : Rd1 w y.q y.a) : Calls Tryz.prog 50 #[.int .i64 n, .agg y.cs] w (Made (.bool (validB n y)) w) := by
  obtain ⟨q, c, a, b, s⟩ := y
  simp only [AV.cs, AV.cells] at *
  obtain ⟨w0, hw0⟩ : ∃ w0, w0 = w.alloc (.cells #[.slice q a.length c, .int .i64 b, .bool s] 25) := ⟨_, rfl⟩
  have E0 := Lib.hid (show Below w.heap.size w w0 by rw [hw0]; exact one_more _)
  have hq := heap_alloc_last w (.cells #[.slice q a.length c, .int .i64 b, .bool s] 25)
  rw [← hw0] at hq
  have d0 : w0.cell? ⟨w.heap.size, 0, none⟩ = some (.slice q a.length c) := by rw [cell_of_row w0 _ 0 _ _ _ hq]; rfl
  have d1 : w0.cell? ⟨w.heap.size, 1, none⟩ = some (.int .i64 b) := by rw [cell_of_row w0 _ 1 _ _ _ hq]; rfl
  have R0 := Lib.hid (hR.on E0.out)
  obtain ⟨m, hm⟩ : ∃ m, m = a.length := ⟨_, rfl⟩
  have HM := Lib.hid hm
  have hle : m ≤ 1000000 := by omega
  obtain ⟨r, hr⟩ : ∃ r, r = validB n ⟨q, c, a, b, s⟩ := ⟨_, rfl⟩
  have VB := Lib.hid (show r = (decide ((a.length : Int) = n) && a.all fitB && fitB b) by rw [hr]; rfl)
  rw [← hr]
  rw [← hm] at d0 hw0 ⊢
  clear hl hR hq hm hr
  go_enter Tryz.func50, Tryz.ntmps50
  go_upto_region 1 with (fail)
  rw [← hw0]
  clear hw0
  go_wp2_with fail
  go_loopw [5] (fun u wr => ∃ t : Nat, u = .int .i64 t ∧ t ≤ m ∧ Hid (∀ i, i < t → fitB (gA a i) = true) ∧ wr = w0) (fun u _ => m - (intOf u).toNat)
  case atStart => exact ⟨0, rfl, by omega, Lib.hid (fun i h => by omega), rfl⟩
  case round =>
    obtain ⟨t, rfl, ht, HF, rfl⟩ := hrel
    by_cases htn : t < m
    · obtain ⟨p, hp, c0⟩ := R0.out t (by have := HM.out; omega)
      obtain ⟨u, hu⟩ : ∃ u, u = gA a t := ⟨_, rfl⟩
      have HU := Lib.hid hu
      rw [← hu] at c0
      clear hu
      subst hp
      have bad : ¬ (-2147483647 ≤ u ∧ u ≤ 2147483647) → r = false := fun h => by
        rw [VB.out]
        have : a.all fitB = false := by
          rw [List.all_eq_false]
          refine ⟨gA a t, gA_mem (by have := HM.out; omega), ?_⟩
          rw [← HU.out]; unfold fitB; simpa using h
        rw [this]; simp
      by_cases h1 : u < -2147483647
      · have HE := Lib.hid (bad (by omega))
        clear bad
        go_wp2_with fail
        go_ret
        exact ⟨ret_bool HE.out.symm, E0.out⟩
      · by_cases h2 : 2147483647 < u
        · have HE := Lib.hid (bad (by omega))
          clear bad
          go_wp2_with fail
          go_ret
          exact ⟨ret_bool HE.out.symm, E0.out⟩
        · have HF' := Lib.hid (show ∀ i, i < t + 1 → fitB (gA a i) = true from fun i hi => by
            by_cases e : i = t
            · subst e; rw [← HU.out]; unfold fitB; simp; omega
            · exact HF.out i (by omega))
          clear bad
          go_wp2_with fail
          go_roundw
          case rel => exact ⟨t + 1, by go_num, by omega, HF', trivial⟩
          case measure => simp [intOf]; omega
    · have FA := Lib.hid (show a.all fitB = true from by
        rw [List.all_eq_true]
        intro v hv
        obtain ⟨i, hi, rfl⟩ := List.getElem_of_mem hv
        have := HF.out i (by have := HM.out; omega)
        simpa [gA, hi] using this)
      by_cases h0 : (m : Int) = n
      · have e0 : ((m : Int) == n) = true := beq_iff_eq.2 h0
        have VC := Lib.hid (show r = fitB b by rw [VB.out, FA.out, ← HM.out]; simp [h0])
        clear h0
        by_cases h1 : -2147483647 ≤ b
        · by_cases h2 : b ≤ 2147483647
          · have HE := Lib.hid (show r = true by rw [VC.out]; unfold fitB; simp; omega)
            go_wp2_with fail
            go_ret
            exact ⟨ret_bool HE.out.symm, E0.out⟩
          · have HE := Lib.hid (show r = false by rw [VC.out]; unfold fitB; simp; omega)
            go_wp2_with fail
            go_ret
            exact ⟨ret_bool HE.out.symm, E0.out⟩
        · have HE := Lib.hid (show r = false by rw [VC.out]; unfold fitB; simp; omega)
          go_wp2_with fail
          go_ret
          exact ⟨ret_bool HE.out.symm, E0.out⟩
      · have e0 : ((m : Int) == n) = false := by rw [beq_eq_false_iff_ne]; exact h0
        have HE := Lib.hid (show r = false by rw [VB.out, ← HM.out]; simp [h0])
        clear h0
        go_wp2_with fail
        go_ret
        exact ⟨ret_bool HE.out.symm, E0.out⟩

set_option maxRecDepth 20000 in
set_option maxHeartbeats 2000000 in
theorem rcheck_any (n : Int) (L : List AV) (ao : Option Addr) (cap : Nat) (w : World) (hR : RdV w ao L) (hL : ∀ y ∈ L, y.a.length ≤ 1000000) :
    Calls Tryz.prog 16 #[.int .i64 n, .slice ao L.length cap] w (Made (.int .i64 (chkP n L)) w) := by
  obtain ⟨m, hm⟩ : ∃ m, m = L.length := ⟨_, rfl⟩
  have HM := Lib.hid hm
  have HR := Lib.hid hR
  have HL := Lib.hid hL
  obtain ⟨r, hr⟩ : ∃ r, r = chkP n L := ⟨_, rfl⟩
  have RB := Lib.hid (show r = if n < 0 ∨ 5 < n then 2 else if 1000 < m then 3 else if L.any (fun y => !validB n y) then 2 else 0 by rw [hr, hm]; rfl)
  rw [← hr, ← hm]
  clear hR hL hm hr
  by_cases h1 : n < 0
  · have HE := Lib.hid (show r = 2 by rw [RB.out, if_pos (Or.inl h1)])
    go_enter Tryz.func16, Tryz.ntmps16
    go_wp2_with fail
    go_ret
    exact ⟨ret_int HE.out.symm, Below.refl _ _⟩
  by_cases h2 : 5 < n
  · have HE := Lib.hid (show r = 2 by rw [RB.out, if_pos (Or.inr h2)])
    go_enter Tryz.func16, Tryz.ntmps16
    go_wp2_with fail
    go_ret
    exact ⟨ret_int HE.out.symm, Below.refl _ _⟩
  have RB := Lib.hid (show r = if 1000 < m then 3 else if L.any (fun y => !validB n y) then 2 else 0 by rw [RB.out, if_neg (by omega)])
  by_cases h3 : 1000 < m
  · have HE := Lib.hid (show r = 3 by rw [RB.out, if_pos h3])
    go_enter Tryz.func16, Tryz.ntmps16
    go_wp2_with fail
    go_ret
    exact ⟨ret_int HE.out.symm, Below.refl _ _⟩
  have RB := Lib.hid (show r = if L.any (fun y => !validB n y) then 2 else 0 by rw [RB.out, if_neg h3])
  go_enter Tryz.func16, Tryz.ntmps16
  go_wp2_with fail
  go_loopw [5] (fun u wr => ∃ t : Nat, u = .int .i64 t ∧ t ≤ m ∧ Hid (∀ i, ∀ h : i < L.length, i < t → validB n L[i] = true) ∧ Hid (Below w.heap.size w wr)) (fun u _ => m - (intOf u).toNat)
  case atStart => exact ⟨0, rfl, by omega, Lib.hid (fun i h h' => by omega), Lib.hid (Below.refl _ _)⟩
  case round =>
    obtain ⟨t, rfl, ht, HF, HB⟩ := hrel
    by_cases htn : t < m
    · have hlt : t < L.length := by have := HM.out; omega
      obtain ⟨p, hp, c0⟩ := (HR.out.on HB.out).at_ t hlt
      obtain ⟨y, hy⟩ : ∃ y, y = L[t] := ⟨_, rfl⟩
      have hmem := List.getElem_mem hlt
      rw [← hy] at c0 hmem
      have C0 := Lib.hid c0
      have YL := Lib.hid (HL.out y hmem)
      have YN := Lib.hid ((HR.out.on HB.out).nums y hmem)
      have HY := Lib.hid (show ∀ h : t < L.length, y = L[t] from fun _ => hy)
      have LT := Lib.hid hlt
      subst hp
      clear c0 hmem hy hlt
      go_wp2_with (refine wpl_loadV rfl _ rfl _ rfl y C0.out ?_)
      refine (rvalid_any n y wr YL.out YN.out).mono ?_
      rintro e w1 ⟨rfl, hb⟩
      have HB1 := Lib.hid (below_on HB.out hb)
      clear hb
      cases hv : validB n y
      · have HE := Lib.hid (show r = 2 by
          rw [RB.out, if_pos]
          rw [List.any_eq_true]
          exact ⟨y, by rw [HY.out LT.out]; exact List.getElem_mem LT.out, by rw [hv]; rfl⟩)
        go_wp2_with fail
        go_ret
        exact ⟨ret_int HE.out.symm, HB1.out⟩
      · have HF' := Lib.hid (show ∀ i, ∀ h : i < L.length, i < t + 1 → validB n L[i] = true from fun i h hi => by
          by_cases e : i = t
          · subst e; rw [← HY.out h]; exact hv
          · exact HF.out i h (by omega))
        go_wp2_with fail
        go_roundw
        case rel => exact ⟨t + 1, by go_num, by omega, HF', HB1⟩
        case measure => simp [intOf]; omega
    · have HE := Lib.hid (show r = 0 by
        rw [RB.out, if_neg]
        rw [List.any_eq_true]
        rintro ⟨y, hy, hv⟩
        obtain ⟨i, hi, rfl⟩ := List.getElem_of_mem hy
        rw [HF.out i hi (by have := HM.out; omega)] at hv
        simp at hv)
      go_wp2_with fail
      go_ret
      exact ⟨ret_int HE.out.symm, HB.out⟩
end Go.Proofs.YtbhaoaobhgilkaaGreat
