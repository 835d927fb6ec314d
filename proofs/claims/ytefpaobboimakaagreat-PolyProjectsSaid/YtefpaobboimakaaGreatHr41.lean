/- Contracts of what the statements compare with: SameLongs, SameRatios.; The contract of the statements' same. -/
import Derived.Test.YtefpaobboimakaaGreatHr21
import Derived.Test.YtefpaobboimakaaGreatHr16
import Derived.Test.YtefpaobboimakaaGreatHr33

namespace Go.Proofs.YtefpaobboimakaaGreat
open Go.RowKit Go.Sort

set_option maxRecDepth 20000 in
set_option maxHeartbeats 1000000 in
theorem sameI_any (l m : List Int) (ao bo : Option Addr) (ca cb : Nat) (w : World) (hl : l.length ≤ 1000000) (hR : Rd1 w ao l) (hS : Rd1 w bo m) :
    Calls Tryz.prog 48 #[.slice ao l.length ca, .slice bo m.length cb] w (fun e w' => e = .returned (.bool (decide (l = m))) ∧ ∃ k, w' = w.drewN k) := by
  by_cases hm : l.length = m.length
  case neg =>
    have HF := Lib.hid (show decide (l = m) = false from decide_eq_false (fun e => hm (by rw [e])))
    have D : ((l.length : Int) != (m.length : Int)) = true := by simp; omega
    clear hR hS
    generalize l.length = c at *
    generalize m.length = d at *
    go_enter Tryz.func48, Tryz.ntmps48
    go_wp2_with fail
    go_ret
    exact ⟨ret_bool HF.out.symm, 0, rfl⟩
  have HR := Lib.hid hR
  have HS := Lib.hid hS
  obtain ⟨n, hn⟩ : ∃ n, n = l.length := ⟨_, rfl⟩
  have HL := Lib.hid hn
  have HM := Lib.hid (show n = m.length by omega)
  rw [← hm, ← hn]
  have hle : n ≤ 1000000 := by omega
  clear hl hm hR hS hn
  go_enter Tryz.func48, Tryz.ntmps48
  go_wp2_with fail
  go_loopw [5] (fun s wr => ∃ t : Nat, s = .int .i64 t ∧ t ≤ n ∧ Hid (∀ i, i < t → gA l i = gA m i) ∧ ∃ k, wr = w.drewN k) (fun s _ => n - (intOf s).toNat)
  case atStart => exact ⟨0, rfl, by omega, Lib.hid (fun i h => by omega), 0, rfl⟩
  case round =>
    obtain ⟨t, rfl, ht, HF, k, rfl⟩ := hrel
    by_cases htn : t < n
    · obtain ⟨a, ha, c0⟩ := HR.out t (by have := HL.out; omega)
      obtain ⟨b, hb, c1⟩ := HS.out t (by have := HM.out; omega)
      obtain ⟨u, hu⟩ : ∃ u, u = gA l t := ⟨_, rfl⟩
      obtain ⟨v, hv⟩ : ∃ v, v = gA m t := ⟨_, rfl⟩
      have HU := Lib.hid hu
      have HV := Lib.hid hv
      rw [← hu] at c0
      rw [← hv] at c1
      clear hu hv
      subst ha
      subst hb
      by_cases h1 : u = v
      · have HF' := Lib.hid (show ∀ i, i < t + 1 → gA l i = gA m i from fun i hi => by
          by_cases e : i = t
          · subst e; rw [← HU.out, ← HV.out]; omega
          · exact HF.out i (by omega))
        have D : (u != v) = false := by simpa using h1
        clear h1
        go_wp2_with fail
        go_quiet (fail)
        go_wp2_with fail
        go_roundw
        case rel => exact ⟨t + 1, by go_num, by omega, HF', _, rfl⟩
        case measure => simp [intOf]; omega
      · have HE := Lib.hid (show decide (l = m) = false from decide_eq_false (fun e => h1 (by rw [HU.out, HV.out, e])))
        have D : (u != v) = true := by simpa using h1
        clear h1
        go_wp2_with fail
        go_quiet (fail)
        go_wp2_with fail
        go_ret
        exact ⟨ret_bool HE.out.symm, _, World.drewN_drewN _ _ _⟩
    · have HE := Lib.hid (show decide (l = m) = true from decide_eq_true (gA_ext (by have := HL.out; have := HM.out; omega) fun i hi => HF.out i (by have := HL.out; omega)))
      go_wp2_with fail
      go_ret
      exact ⟨ret_bool HE.out.symm, k, rfl⟩

theorem rat_ext {cs ds : List Pq} (hl : cs.length = ds.length) (h : ∀ k, k < cs.length → gp cs k = gp ds k) : cs = ds := by
  apply List.ext_getElem hl
  intro i h1 h2
  have := h i h1
  simpa [gp, h1, h2] using this

theorem QAt.two {w : World} {a : Addr} {t : Nat} {x : Pq} (h : QAt w (a.add (t * 2)) x) : w.cell? (a.add (t * 2)) = some (.int .i64 x.1) ∧ w.cell? ⟨(a.add (t * 2)).block, (a.add (t * 2)).off + 1, none⟩ = some (.int .i64 x.2) := by
  refine ⟨by have := h.1; rwa [show (a.add (t * 2)).add 0 = a.add (t * 2) by simp [Addr.add]] at this, ?_⟩
  have := h.2
  generalize a.add (t * 2) = b at *
  unfold Addr.add at this
  rwa [if_neg (by omega)] at this

set_option maxRecDepth 100000 in
set_option maxHeartbeats 1600000 in
theorem srat_any (cs ds : List Pq) (ao bo : Option Addr) (ca cb : Nat) (w : World) (hA : Rd2 w ao cs) (hB : Rd2 w bo ds) (hl : cs.length ≤ 1000) :
    Calls Tryz.prog 27 #[.slice ao cs.length ca, .slice bo ds.length cb] w (Made (.bool (decide (cs = ds))) w) := by
  by_cases hlen : cs.length = ds.length
  case neg =>
    have HF := Lib.hid (show decide (cs = ds) = false from decide_eq_false (fun e => hlen (by rw [e])))
    have D : ((cs.length : Int) != (ds.length : Int)) = true := by simp; omega
    clear hA hB
    generalize cs.length = c at *
    generalize ds.length = d at *
    go_enter Tryz.func27, Tryz.ntmps27
    go_wp2_with fail
    go_ret
    exact ⟨ret_bool HF.out.symm, Below.refl _ _⟩
  case pos =>
    have D : ((cs.length : Int) != (ds.length : Int)) = false := by simp; omega
    obtain ⟨len, hc⟩ : ∃ len, len = cs.length := ⟨_, rfl⟩
    have hd : ds.length = len := by omega
    have HC := Lib.hid hc
    have HDD := Lib.hid hd
    have HA := Lib.hid hA
    have HB := Lib.hid hB
    rw [hd, ← hc] at D
    rw [hd, ← hc]
    have hl2 : len ≤ 1000 := by omega
    clear hlen hc hd hA hB hl
    go_enter Tryz.func27, Tryz.ntmps27
    go_wp2_with fail
    go_loopw [5] (fun s wr => ∃ t : Nat, t ≤ len ∧ s = .int .i64 t ∧ Hid (∀ k, k < t → gp cs k = gp ds k) ∧ Hid (Below w.heap.size w wr)) (fun s _ => len - (intOf s).toNat)
    case atStart => exact ⟨0, by omega, rfl, Lib.hid (fun k hk => by omega), Lib.hid (Below.refl _ _)⟩
    case round =>
      obtain ⟨t, ht, rfl, HT, HW⟩ := hrel
      by_cases htn : t < len
      case pos =>
        obtain ⟨a, rfl, hR⟩ := (HA.out.on HW.out) t (by rw [← HC.out]; exact htn)
        obtain ⟨b, rfl, hS⟩ := (HB.out.on HW.out) t (by rw [HDD.out]; exact htn)
        obtain ⟨a0, a1⟩ := hR.two
        obtain ⟨b0, b1⟩ := hS.two
        clear hR hS
        obtain ⟨p, hp⟩ : ∃ p, p = gp cs t := ⟨_, rfl⟩
        obtain ⟨q, hq⟩ : ∃ q, q = gp ds t := ⟨_, rfl⟩
        rw [← hp] at a0 a1
        rw [← hq] at b0 b1
        have HP := Lib.hid hp
        have HQ := Lib.hid hq
        clear hp hq
        obtain ⟨i, j⟩ := p
        obtain ⟨i', j'⟩ := q
        simp only at a0 a1 b0 b1
        by_cases he : ((i, j) : Pq) = (i', j')
        case pos =>
          have HT2 := Lib.hid (show ∀ k, k < t + 1 → gp cs k = gp ds k from fun k hk => by
            by_cases e : k = t
            · rw [e, ← HP.out, ← HQ.out]; exact he
            · exact HT.out k (by omega))
          simp only [Prod.mk.injEq] at he
          obtain ⟨rfl, rfl⟩ := he
          go_wp2_with fail
          go_quiet (fail)
          go_wp2_with fail
          go_roundw
          case rel => exact ⟨t + 1, by omega, by go_num, HT2, Lib.hid (below_drewN HW.out _)⟩
          case measure => simp [intOf]; omega
        case neg =>
          have HF := Lib.hid (show decide (cs = ds) = false from decide_eq_false (fun e => he (by rw [HP.out, HQ.out, e])))
          by_cases c1 : i = i'
          case neg =>
            have D1 : (i == i') = false := by simpa using c1
            clear he c1
            go_wp2_with fail
            go_quiet (fail)
            go_wp2_with fail
            go_ret
            exact ⟨ret_bool HF.out.symm, below_drewN HW.out _⟩
          case pos =>
            have c2 : j ≠ j' := fun e => he (by rw [c1, e])
            have D1 : (j == j') = false := by simpa using c2
            subst c1
            clear he c2
            go_wp2_with fail
            go_quiet (fail)
            go_wp2_with fail
            go_ret
            exact ⟨ret_bool HF.out.symm, below_drewN HW.out _⟩
      case neg =>
        have HF := Lib.hid (show decide (cs = ds) = true from decide_eq_true (rat_ext (by rw [← HC.out, HDD.out]) (fun k hk => HT.out k (by rw [← HC.out] at hk; omega))))
        go_wp2_with fail
        go_ret
        exact ⟨ret_bool HF.out.symm, HW.out⟩
end Go.Proofs.YtefpaobboimakaaGreat

namespace Go.Proofs.YtefpaobboimakaaGreat
open Go.RowKit Go.Sort

theorem AvAt.three {w : World} {p : Addr} {t : Nat} {y : AV} (h : AvAt w (p.add (t * 3)) y) : w.cell? (p.add (t * 3)) = some (.slice y.q y.a.length y.c) ∧ w.cell? ⟨(p.add (t * 3)).block, (p.add (t * 3)).off + 1, none⟩ = some (.int .i64 y.b) ∧ w.cell? ⟨(p.add (t * 3)).block, (p.add (t * 3)).off + 2, none⟩ = some (.bool y.s) := by
  have h0 := h 0 _ rfl
  have h1 := h 1 _ rfl
  have h2 := h 2 _ rfl
  rw [show (p.add (t * 3)).add 0 = p.add (t * 3) by simp [Addr.add]] at h0
  generalize p.add (t * 3) = b at *
  unfold Addr.add at h1 h2
  rw [if_neg (by omega)] at h1 h2
  exact ⟨h0, h1, h2⟩

theorem lnV_eq {y z : AV} : lnV y = lnV z ↔ y.a = z.a ∧ y.b = z.b ∧ y.s = z.s := by
  unfold lnV; rw [Ln.mk.injEq]

theorem map_ne {A B : List AV} {t : Nat} (h1 : t < A.length) (h2 : t < B.length) (h : lnV A[t] ≠ lnV B[t]) : A.map lnV ≠ B.map lnV := fun e => h (by
  have h3 := congrArg (fun l => l[t]?) e
  simpa [h1, h2] using h3)

set_option maxRecDepth 100000 in
set_option maxHeartbeats 4000000 in
theorem same_any (A B : List AV) (ao bo : Option Addr) (ca cb : Nat) (w : World) (hA : RdV w ao A) (hB : RdV w bo B) (hl : A.length ≤ 100000) (ha : ∀ y ∈ A, y.a.length ≤ 1000000) :
    Calls Tryz.prog 14 #[.slice ao A.length ca, .slice bo B.length cb] w (Made (.bool (decide (A.map lnV = B.map lnV))) w) := by
  by_cases hlen : A.length = B.length
  case neg =>
    have HF := Lib.hid (show decide (A.map lnV = B.map lnV) = false from decide_eq_false (fun e => hlen (by have := congrArg List.length e; simpa using this)))
    have D : ((A.length : Int) != (B.length : Int)) = true := by simp; omega
    clear hA hB ha
    generalize A.length = c at *
    generalize B.length = d at *
    go_enter Tryz.func14, Tryz.ntmps14
    go_wp2_with fail
    go_ret
    exact ⟨ret_bool HF.out.symm, Below.refl _ _⟩
  have D : ((A.length : Int) != (B.length : Int)) = false := by simp; omega
  obtain ⟨len, hc⟩ : ∃ len, len = A.length := ⟨_, rfl⟩
  have hd : B.length = len := by omega
  have HC := Lib.hid hc
  have HDD := Lib.hid hd
  have HA := Lib.hid hA
  have HB := Lib.hid hB
  have HL := Lib.hid ha
  obtain ⟨R, hR⟩ : ∃ R, R = decide (A.map lnV = B.map lnV) := ⟨_, rfl⟩
  have HR := Lib.hid hR
  rw [hd, ← hc] at D
  rw [hd, ← hc, ← hR]
  have hl2 : len ≤ 100000 := by omega
  clear hlen hc hd hA hB hl ha hR
  go_enter Tryz.func14, Tryz.ntmps14
  go_wp2_with fail
  go_loopw [5] (fun s wr => ∃ t : Nat, t ≤ len ∧ s = .int .i64 t ∧ Hid (∀ k, ∀ h1 : k < A.length, ∀ h2 : k < B.length, k < t → lnV A[k] = lnV B[k]) ∧ Hid (Below w.heap.size w wr)) (fun s _ => len - (intOf s).toNat)
  case atStart => exact ⟨0, by omega, rfl, Lib.hid (fun k _ _ hk => by omega), Lib.hid (Below.refl _ _)⟩
  case round =>
    obtain ⟨t, ht, rfl, HT, HW⟩ := hrel
    by_cases htn : t < len
    case pos =>
      have h1 : t < A.length := by have := HC.out; omega
      have h2 : t < B.length := by have := HDD.out; omega
      obtain ⟨a, ea, hR⟩ := (HA.out.on HW.out).at_ t h1
      obtain ⟨b, eb, hS⟩ := (HB.out.on HW.out).at_ t h2
      have YN := Lib.hid ((HA.out.on HW.out).nums _ (List.getElem_mem h1))
      have ZN := Lib.hid ((HB.out.on HW.out).nums _ (List.getElem_mem h2))
      have YL := Lib.hid (HL.out _ (List.getElem_mem h1))
      have NE := Lib.hid (show lnV A[t] ≠ lnV B[t] → R = false from fun h => by rw [HR.out]; exact decide_eq_false (map_ne h1 h2 h))
      have EQ := Lib.hid (show lnV A[t] = lnV B[t] → ∀ k, ∀ h1 : k < A.length, ∀ h2 : k < B.length, k < t + 1 → lnV A[k] = lnV B[k] from fun h k g1 g2 hk => by
        by_cases e : k = t
        · subst e; exact h
        · exact HT.out k g1 g2 (by omega))
      generalize A[t] = y at *
      generalize B[t] = z at *
      obtain ⟨a0, a1, a2⟩ := hR.three
      obtain ⟨b0, b1, b2⟩ := hS.three
      subst ea eb
      clear hR hS h1 h2
      obtain ⟨yq, yc, ya, yb, ys⟩ := y
      obtain ⟨zq, zc, za, zb, zs⟩ := z
      simp only at a0 a1 a2 b0 b1 b2
      by_cases c1 : yb = zb
      · subst c1
        by_cases c2 : ys = zs
        · subst c2
          obtain ⟨q, hq⟩ : ∃ q, q = decide (ya = za) := ⟨_, rfl⟩
          have SL := Lib.hid (fun k => sameI_any ya za yq zq yc zc (wr.drewN k) YL.out (YN.out.on (below_drewN (Below.refl _ _) k)) (ZN.out.on (below_drewN (Below.refl _ _) k)))
          rw [← hq] at SL
          have HQ := Lib.hid hq
          obtain ⟨m1, hm1⟩ : ∃ m1, m1 = ya.length := ⟨_, rfl⟩
          obtain ⟨m2, hm2⟩ : ∃ m2, m2 = za.length := ⟨_, rfl⟩
          rw [← hm1, ← hm2] at SL
          rw [← hm1] at a0
          rw [← hm2] at b0
          clear hq hm1 hm2
          cases q
          · have HE := Lib.hid (NE.out (fun e => by have := (lnV_eq.1 e).1; simp only at this; have h := HQ.out; rw [decide_eq_true this] at h; cases h))
            go_wp2_with fail
            go_quiet ((go_at_call 48; exact Calls.quiet_of (SL.out _)))
            go_wp2_with fail
            go_ret
            exact ⟨ret_bool HE.out.symm, below_drewN HW.out _⟩
          · have HT2 := Lib.hid (EQ.out (lnV_eq.2 ⟨of_decide_eq_true HQ.out.symm, rfl, rfl⟩))
            go_wp2_with fail
            go_quiet ((go_at_call 48; exact Calls.quiet_of (SL.out _)))
            go_wp2_with fail
            go_roundw
            case rel => exact ⟨t + 1, by omega, by go_num, HT2, Lib.hid (below_drewN HW.out _)⟩
            case measure => simp [intOf]; omega
        · have D2 : (ys != zs) = true := by simpa using c2
          have HE := Lib.hid (NE.out (fun e => c2 (lnV_eq.1 e).2.2))
          clear D2
          cases ys <;> cases zs <;> first | exact absurd rfl c2 | skip
          all_goals
            clear c2
            go_wp2_with fail
            go_quiet (fail)
            go_wp2_with fail
            go_ret
            exact ⟨ret_bool HE.out.symm, below_drewN HW.out _⟩
      · have D1 : (yb != zb) = true := by simpa using c1
        have HE := Lib.hid (NE.out (fun e => c1 (lnV_eq.1 e).2.1))
        clear c1
        go_wp2_with fail
        go_quiet (fail)
        go_wp2_with fail
        go_ret
        exact ⟨ret_bool HE.out.symm, below_drewN HW.out _⟩
    case neg =>
      have HE := Lib.hid (show R = true by
        rw [HR.out]
        refine decide_eq_true (List.ext_getElem (by simp; have := HC.out; have := HDD.out; omega) fun k g1 g2 => ?_)
        simp only [List.length_map] at g1 g2
        simp only [List.getElem_map]
        exact HT.out k g1 g2 (by have := HC.out; omega))
      go_wp2_with fail
      go_ret
      exact ⟨ret_bool HE.out.symm, HW.out⟩
end Go.Proofs.YtefpaobboimakaaGreat
