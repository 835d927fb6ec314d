/- Contracts of what the statements compare with: SameLongs, SameRatios.; The contract of the statements' same.; The examples of the statements: shown returns true.; The contract of Without of layer 7's reference, and that it is what the project's Without is told to return.; Contracts of the statements' far, beyond, lent.; What the law PolyLeaves holds on to while it writes into its own copy.; The law PolyLeaves returns true.; What the rows of layer 7 have in common: arguments that nothing has turned; the row's last step; the argument opened. -/
import Derived.Test.YtefpaobboimakaaGreatHp2
import Derived.Test.YtefpaobboimakaaGreatHp4
import Derived.Test.YtefpaobboimakaaGreatHp3
import Derived.Test.YtefpaobboimakaaGreatHp5
import Derived.ProofKit
import Derived.Lib.SmallJoins
import Derived.Deep.Slices

namespace Go.Proofs.YtefpaobboimakaaGreat
open Go.RowKit Go.Sort

set_option maxRecDepth 20000 in
set_option maxHeartbeats 1000000 in
theorem sameI_any (l m : List Int) (ao bo : Option Addr) (ca cb : Nat) (w : World) (hl : l.length ≤ 1000000) (hR : Rd1 w ao l) (hS : Rd1 w bo m) :
    Calls Tryz.prog 48 #[.slice ao l.length ca, .slice bo m.length cb] w (fun e w' => e = .returned (.bool (decide (l = m))) ∧ ∃ k, w' = w.drewN k) := by
  by_cases hm : l.length = m.length
  case neg =>
    have HF := Lib.hid (show decide (l = m) = false from decide_eq_false (fun e => hm (by rw [e])))
    have D : ((l.length : Int) != (m.length : Int)) = true := by simp; omega
    clear hR hS
    generalize l.length = c at *
    generalize m.length = d at *
    go_enter Tryz.func48, Tryz.ntmps48
    go_wp2_with fail
    go_ret
    exact ⟨ret_bool HF.out.symm, 0, rfl⟩
  have HR := Lib.hid hR
  have HS := Lib.hid hS
  obtain ⟨n, hn⟩ : ∃ n, n = l.length := ⟨_, rfl⟩
  have HL := Lib.hid hn
  have HM := Lib.hid (show n = m.length by omega)
  rw [← hm, ← hn]
  have hle : n ≤ 1000000 := by omega
  clear hl hm hR hS hn
  go_enter Tryz.func48, Tryz.ntmps48
  go_wp2_with fail
  go_loopw [5] (fun s wr => ∃ t : Nat, s = .int .i64 t ∧ t ≤ n ∧ Hid (∀ i, i < t → gA l i = gA m i) ∧ ∃ k, wr = w.drewN k) (fun s _ => n - (intOf s).toNat)
  case atStart => exact ⟨0, rfl, by omega, Lib.hid (fun i h => by omega), 0, rfl⟩
  case round =>
    obtain ⟨t, rfl, ht, HF, k, rfl⟩ := hrel
    by_cases htn : t < n
    · obtain ⟨a, ha, c0⟩ := HR.out t (by have := HL.out; omega)
      obtain ⟨b, hb, c1⟩ := HS.out t (by have := HM.out; omega)
      obtain ⟨u, hu⟩ : ∃ u, u = gA l t := ⟨_, rfl⟩
      obtain ⟨v, hv⟩ : ∃ v, v = gA m t := ⟨_, rfl⟩
      have HU := Lib.hid hu
      have HV := Lib.hid hv
      rw [← hu] at c0
      rw [← hv] at c1
      clear hu hv
      subst ha
      subst hb
      by_cases h1 : u = v
      · have HF' := Lib.hid (show ∀ i, i < t + 1 → gA l i = gA m i from fun i hi => by
          by_cases e : i = t
          · subst e; rw [← HU.out, ← HV.out]; omega
          · exact HF.out i (by omega))
        have D : (u != v) = false := by simpa using h1
        clear h1
        go_wp2_with fail
        go_quiet (fail)
        go_wp2_with fail
        go_roundw
        case rel => exact ⟨t + 1, by go_num, by omega, HF', _, rfl⟩
        case measure => simp [intOf]; omega
      · have HE := Lib.hid (show decide (l = m) = false from decide_eq_false (fun e => h1 (by rw [HU.out, HV.out, e])))
        have D : (u != v) = true := by simpa using h1
        clear h1
        go_wp2_with fail
        go_quiet (fail)
        go_wp2_with fail
        go_ret
        exact ⟨ret_bool HE.out.symm, _, World.drewN_drewN _ _ _⟩
    · have HE := Lib.hid (show decide (l = m) = true from decide_eq_true (gA_ext (by have := HL.out; have := HM.out; omega) fun i hi => HF.out i (by have := HL.out; omega)))
      go_wp2_with fail
      go_ret
      exact ⟨ret_bool HE.out.symm, k, rfl⟩

theorem rat_ext {cs ds : List Pq} (hl : cs.length = ds.length) (h : ∀ k, k < cs.length → gp cs k = gp ds k) : cs = ds := by
  apply List.ext_getElem hl
  intro i h1 h2
  have := h i h1
  simpa [gp, h1, h2] using this

theorem QAt.two {w : World} {a : Addr} {t : Nat} {x : Pq} (h : QAt w (a.add (t * 2)) x) : w.cell? (a.add (t * 2)) = some (.int .i64 x.1) ∧ w.cell? ⟨(a.add (t * 2)).block, (a.add (t * 2)).off + 1, none⟩ = some (.int .i64 x.2) := by
  refine ⟨by have := h.1; rwa [show (a.add (t * 2)).add 0 = a.add (t * 2) by simp [Addr.add]] at this, ?_⟩
  have := h.2
  generalize a.add (t * 2) = b at *
  unfold Addr.add at this
  rwa [if_neg (by omega)] at this

set_option maxRecDepth 100000 in
set_option maxHeartbeats 1600000 in
theorem srat_any (cs ds : List Pq) (ao bo : Option Addr) (ca cb : Nat) (w : World) (hA : Rd2 w ao cs) (hB : Rd2 w bo ds) (hl : cs.length ≤ 1000) :
    Calls Tryz.prog 27 #[.slice ao cs.length ca, .slice bo ds.length cb] w (Made (.bool (decide (cs = ds))) w) := by
  by_cases hlen : cs.length = ds.length
  case neg =>
    have HF := Lib.hid (show decide (cs = ds) = false from decide_eq_false (fun e => hlen (by rw [e])))
    have D : ((cs.length : Int) != (ds.length : Int)) = true := by simp; omega
    clear hA hB
    generalize cs.length = c at *
    generalize ds.length = d at *
    go_enter Tryz.func27, Tryz.ntmps27
    go_wp2_with fail
    go_ret
    exact ⟨ret_bool HF.out.symm, Below.refl _ _⟩
  case pos =>
    have D : ((cs.length : Int) != (ds.length : Int)) = false := by simp; omega
    obtain ⟨len, hc⟩ : ∃ len, len = cs.length := ⟨_, rfl⟩
    have hd : ds.length = len := by omega
    have HC := Lib.hid hc
    have HDD := Lib.hid hd
    have HA := Lib.hid hA
    have HB := Lib.hid hB
    rw [hd, ← hc] at D
    rw [hd, ← hc]
    have hl2 : len ≤ 1000 := by omega
    clear hlen hc hd hA hB hl
    go_enter Tryz.func27, Tryz.ntmps27
    go_wp2_with fail
    go_loopw [5] (fun s wr => ∃ t : Nat, t ≤ len ∧ s = .int .i64 t ∧ Hid (∀ k, k < t → gp cs k = gp ds k) ∧ Hid (Below w.heap.size w wr)) (fun s _ => len - (intOf s).toNat)
    case atStart => exact ⟨0, by omega, rfl, Lib.hid (fun k hk => by omega), Lib.hid (Below.refl _ _)⟩
    case round =>
      obtain ⟨t, ht, rfl, HT, HW⟩ := hrel
      by_cases htn : t < len
      case pos =>
        obtain ⟨a, rfl, hR⟩ := (HA.out.on HW.out) t (by rw [← HC.out]; exact htn)
        obtain ⟨b, rfl, hS⟩ := (HB.out.on HW.out) t (by rw [HDD.out]; exact htn)
        obtain ⟨a0, a1⟩ := hR.two
        obtain ⟨b0, b1⟩ := hS.two
        clear hR hS
        obtain ⟨p, hp⟩ : ∃ p, p = gp cs t := ⟨_, rfl⟩
        obtain ⟨q, hq⟩ : ∃ q, q = gp ds t := ⟨_, rfl⟩
        rw [← hp] at a0 a1
        rw [← hq] at b0 b1
        have HP := Lib.hid hp
        have HQ := Lib.hid hq
        clear hp hq
        obtain ⟨i, j⟩ := p
        obtain ⟨i', j'⟩ := q
        simp only at a0 a1 b0 b1
        by_cases he : ((i, j) : Pq) = (i', j')
        case pos =>
          have HT2 := Lib.hid (show ∀ k, k < t + 1 → gp cs k = gp ds k from fun k hk => by
            by_cases e : k = t
            · rw [e, ← HP.out, ← HQ.out]; exact he
            · exact HT.out k (by omega))
          simp only [Prod.mk.injEq] at he
          obtain ⟨rfl, rfl⟩ := he
          go_wp2_with fail
          go_quiet (fail)
          go_wp2_with fail
          go_roundw
          case rel => exact ⟨t + 1, by omega, by go_num, HT2, Lib.hid (below_drewN HW.out _)⟩
          case measure => simp [intOf]; omega
        case neg =>
          have HF := Lib.hid (show decide (cs = ds) = false from decide_eq_false (fun e => he (by rw [HP.out, HQ.out, e])))
          by_cases c1 : i = i'
          case neg =>
            have D1 : (i == i') = false := by simpa using c1
            clear he c1
            go_wp2_with fail
            go_quiet (fail)
            go_wp2_with fail
            go_ret
            exact ⟨ret_bool HF.out.symm, below_drewN HW.out _⟩
          case pos =>
            have c2 : j ≠ j' := fun e => he (by rw [c1, e])
            have D1 : (j == j') = false := by simpa using c2
            subst c1
            clear he c2
            go_wp2_with fail
            go_quiet (fail)
            go_wp2_with fail
            go_ret
            exact ⟨ret_bool HF.out.symm, below_drewN HW.out _⟩
      case neg =>
        have HF := Lib.hid (show decide (cs = ds) = true from decide_eq_true (rat_ext (by rw [← HC.out, HDD.out]) (fun k hk => HT.out k (by rw [← HC.out] at hk; omega))))
        go_wp2_with fail
        go_ret
        exact ⟨ret_bool HF.out.symm, HW.out⟩
end Go.Proofs.YtefpaobboimakaaGreat

namespace Go.Proofs.YtefpaobboimakaaGreat
open Go.RowKit Go.Sort

theorem AvAt.three {w : World} {p : Addr} {t : Nat} {y : AV} (h : AvAt w (p.add (t * 3)) y) : w.cell? (p.add (t * 3)) = some (.slice y.q y.a.length y.c) ∧ w.cell? ⟨(p.add (t * 3)).block, (p.add (t * 3)).off + 1, none⟩ = some (.int .i64 y.b) ∧ w.cell? ⟨(p.add (t * 3)).block, (p.add (t * 3)).off + 2, none⟩ = some (.bool y.s) := by
  have h0 := h 0 _ rfl
  have h1 := h 1 _ rfl
  have h2 := h 2 _ rfl
  rw [show (p.add (t * 3)).add 0 = p.add (t * 3) by simp [Addr.add]] at h0
  generalize p.add (t * 3) = b at *
  unfold Addr.add at h1 h2
  rw [if_neg (by omega)] at h1 h2
  exact ⟨h0, h1, h2⟩

theorem lnV_eq {y z : AV} : lnV y = lnV z ↔ y.a = z.a ∧ y.b = z.b ∧ y.s = z.s := by
  unfold lnV; rw [Ln.mk.injEq]

theorem map_ne {A B : List AV} {t : Nat} (h1 : t < A.length) (h2 : t < B.length) (h : lnV A[t] ≠ lnV B[t]) : A.map lnV ≠ B.map lnV := fun e => h (by
  have h3 := congrArg (fun l => l[t]?) e
  simpa [h1, h2] using h3)

set_option maxRecDepth 100000 in
set_option maxHeartbeats 4000000 in
theorem same_any (A B : List AV) (ao bo : Option Addr) (ca cb : Nat) (w : World) (hA : RdV w ao A) (hB : RdV w bo B) (hl : A.length ≤ 100000) (ha : ∀ y ∈ A, y.a.length ≤ 1000000) :
    Calls Tryz.prog 14 #[.slice ao A.length ca, .slice bo B.length cb] w (Made (.bool (decide (A.map lnV = B.map lnV))) w) := by
  by_cases hlen : A.length = B.length
  case neg =>
    have HF := Lib.hid (show decide (A.map lnV = B.map lnV) = false from decide_eq_false (fun e => hlen (by have := congrArg List.length e; simpa using this)))
    have D : ((A.length : Int) != (B.length : Int)) = true := by simp; omega
    clear hA hB ha
    generalize A.length = c at *
    generalize B.length = d at *
    go_enter Tryz.func14, Tryz.ntmps14
    go_wp2_with fail
    go_ret
    exact ⟨ret_bool HF.out.symm, Below.refl _ _⟩
  have D : ((A.length : Int) != (B.length : Int)) = false := by simp; omega
  obtain ⟨len, hc⟩ : ∃ len, len = A.length := ⟨_, rfl⟩
  have hd : B.length = len := by omega
  have HC := Lib.hid hc
  have HDD := Lib.hid hd
  have HA := Lib.hid hA
  have HB := Lib.hid hB
  have HL := Lib.hid ha
  obtain ⟨R, hR⟩ : ∃ R, R = decide (A.map lnV = B.map lnV) := ⟨_, rfl⟩
  have HR := Lib.hid hR
  rw [hd, ← hc] at D
  rw [hd, ← hc, ← hR]
  have hl2 : len ≤ 100000 := by omega
  clear hlen hc hd hA hB hl ha hR
  go_enter Tryz.func14, Tryz.ntmps14
  go_wp2_with fail
  go_loopw [5] (fun s wr => ∃ t : Nat, t ≤ len ∧ s = .int .i64 t ∧ Hid (∀ k, ∀ h1 : k < A.length, ∀ h2 : k < B.length, k < t → lnV A[k] = lnV B[k]) ∧ Hid (Below w.heap.size w wr)) (fun s _ => len - (intOf s).toNat)
  case atStart => exact ⟨0, by omega, rfl, Lib.hid (fun k _ _ hk => by omega), Lib.hid (Below.refl _ _)⟩
  case round =>
    obtain ⟨t, ht, rfl, HT, HW⟩ := hrel
    by_cases htn : t < len
    case pos =>
      have h1 : t < A.length := by have := HC.out; omega
      have h2 : t < B.length := by have := HDD.out; omega
      obtain ⟨a, ea, hR⟩ := (HA.out.on HW.out).at_ t h1
      obtain ⟨b, eb, hS⟩ := (HB.out.on HW.out).at_ t h2
      have YN := Lib.hid ((HA.out.on HW.out).nums _ (List.getElem_mem h1))
      have ZN := Lib.hid ((HB.out.on HW.out).nums _ (List.getElem_mem h2))
      have YL := Lib.hid (HL.out _ (List.getElem_mem h1))
      have NE := Lib.hid (show lnV A[t] ≠ lnV B[t] → R = false from fun h => by rw [HR.out]; exact decide_eq_false (map_ne h1 h2 h))
      have EQ := Lib.hid (show lnV A[t] = lnV B[t] → ∀ k, ∀ h1 : k < A.length, ∀ h2 : k < B.length, k < t + 1 → lnV A[k] = lnV B[k] from fun h k g1 g2 hk => by
        by_cases e : k = t
        · subst e; exact h
        · exact HT.out k g1 g2 (by omega))
      generalize A[t] = y at *
      generalize B[t] = z at *
      obtain ⟨a0, a1, a2⟩ := hR.three
      obtain ⟨b0, b1, b2⟩ := hS.three
      subst ea eb
      clear hR hS h1 h2
      obtain ⟨yq, yc, ya, yb, ys⟩ := y
      obtain ⟨zq, zc, za, zb, zs⟩ := z
      simp only at a0 a1 a2 b0 b1 b2
      by_cases c1 : yb = zb
      · subst c1
        by_cases c2 : ys = zs
        · subst c2
          obtain ⟨q, hq⟩ : ∃ q, q = decide (ya = za) := ⟨_, rfl⟩
          have SL := Lib.hid (fun k => sameI_any ya za yq zq yc zc (wr.drewN k) YL.out (YN.out.on (below_drewN (Below.refl _ _) k)) (ZN.out.on (below_drewN (Below.refl _ _) k)))
          rw [← hq] at SL
          have HQ := Lib.hid hq
          obtain ⟨m1, hm1⟩ : ∃ m1, m1 = ya.length := ⟨_, rfl⟩
          obtain ⟨m2, hm2⟩ : ∃ m2, m2 = za.length := ⟨_, rfl⟩
          rw [← hm1, ← hm2] at SL
          rw [← hm1] at a0
          rw [← hm2] at b0
          clear hq hm1 hm2
          cases q
          · have HE := Lib.hid (NE.out (fun e => by have := (lnV_eq.1 e).1; simp only at this; have h := HQ.out; rw [decide_eq_true this] at h; cases h))
            go_wp2_with fail
            go_quiet ((go_at_call 48; exact Calls.quiet_of (SL.out _)))
            go_wp2_with fail
            go_ret
            exact ⟨ret_bool HE.out.symm, below_drewN HW.out _⟩
          · have HT2 := Lib.hid (EQ.out (lnV_eq.2 ⟨of_decide_eq_true HQ.out.symm, rfl, rfl⟩))
            go_wp2_with fail
            go_quiet ((go_at_call 48; exact Calls.quiet_of (SL.out _)))
            go_wp2_with fail
            go_roundw
            case rel => exact ⟨t + 1, by omega, by go_num, HT2, Lib.hid (below_drewN HW.out _)⟩
            case measure => simp [intOf]; omega
        · have D2 : (ys != zs) = true := by simpa using c2
          have HE := Lib.hid (NE.out (fun e => c2 (lnV_eq.1 e).2.2))
          clear D2
          cases ys <;> cases zs <;> first | exact absurd rfl c2 | skip
          all_goals
            clear c2
            go_wp2_with fail
            go_quiet (fail)
            go_wp2_with fail
            go_ret
            exact ⟨ret_bool HE.out.symm, below_drewN HW.out _⟩
      · have D1 : (yb != zb) = true := by simpa using c1
        have HE := Lib.hid (NE.out (fun e => c1 (lnV_eq.1 e).2.1))
        clear c1
        go_wp2_with fail
        go_quiet (fail)
        go_wp2_with fail
        go_ret
        exact ⟨ret_bool HE.out.symm, below_drewN HW.out _⟩
    case neg =>
      have HE := Lib.hid (show R = true by
        rw [HR.out]
        refine decide_eq_true (List.ext_getElem (by simp; have := HC.out; have := HDD.out; omega) fun k g1 g2 => ?_)
        simp only [List.length_map] at g1 g2
        simp only [List.getElem_map]
        exact HT.out k g1 g2 (by have := HC.out; omega))
      go_wp2_with fail
      go_ret
      exact ⟨ret_bool HE.out.symm, HW.out⟩
end Go.Proofs.YtefpaobboimakaaGreat

namespace Go.Proofs.YtefpaobboimakaaGreat
open Go.RowKit Go.Sort Go.Shelf

theorem Rd1.made (w : World) (l : List Int) : Rd1 (w.alloc (.cells (l.map (Value.int .i64)).toArray 2)) (some ⟨w.heap.size, 0, none⟩) l := fun t ht => by
  refine ⟨_, rfl, ?_⟩
  rw [addr_add, Nat.zero_add, cell_of_row _ _ t _ _ _ (heap_alloc_last w _)]
  simp [gA, ht]

theorem vcell {L : List AV} {t j : Nat} (ht : t < L.length) (hj : j < 3) : (L.flatMap AV.cells)[t * 3 + j]? = (L[t]).cells[j]? := by
  induction L generalizing t with
  | nil => simp at ht
  | cons y L ih =>
    rw [List.flatMap_cons]
    cases t with
    | zero => rw [List.getElem?_append_left (by show 0 * 3 + j < 3; omega)]; simp
    | succ t =>
      rw [List.getElem?_append_right (by show 3 ≤ (t + 1) * 3 + j; omega), show (t + 1) * 3 + j - y.cells.length = t * 3 + j by show (t + 1) * 3 + j - 3 = _; omega]
      simpa using ih (t := t) (by simpa using ht)

theorem RdV.made (w : World) (L : List AV) (h : ∀ y ∈ L, Rd1 w y.q y.a) : RdV (w.alloc (.cells (L.flatMap AV.cells).toArray 25)) (some ⟨w.heap.size, 0, none⟩) L :=
  ⟨fun t ht => ⟨_, rfl, fun j v hv => by
    have hj : j < 3 := (List.getElem?_eq_some_iff.1 hv).1
    rw [addr_add, addr_add, Nat.zero_add, cell_of_row _ _ (t * 3 + j) _ _ _ (heap_alloc_last w _)]
    rw [List.getElem?_toArray, vcell ht hj]; exact hv⟩, fun y hy => (h y hy).on (one_more _)⟩

theorem Rd2.made (w : World) (ps : List Pq) : Rd2 (w.alloc (.cells (qV ps).toArray 50)) (some ⟨w.heap.size, 0, none⟩) ps := fun t ht => by
  refine ⟨_, rfl, ?_⟩
  have key : (qV ps)[t * 2]? = some (.int .i64 (gp ps t).1) ∧ (qV ps)[t * 2 + 1]? = some (.int .i64 (gp ps t).2) := by
    clear w
    induction ps generalizing t with
    | nil => simp at ht
    | cons q ps ih =>
      cases t with
      | zero => simp [qV, gp]
      | succ t =>
        have := ih t (by simpa using ht)
        have e : qV (q :: ps) = [.int .i64 q.1, .int .i64 q.2] ++ qV ps := rfl
        rw [e, List.getElem?_append_right (by simp; omega), List.getElem?_append_right (by simp; omega)]
        simpa [show (t + 1) * 2 - 2 = t * 2 by omega, show (t + 1) * 2 + 1 - 2 = t * 2 + 1 by omega, gp] using this
  constructor
  · rw [addr_add, addr_add, Nat.zero_add, cell_of_row _ _ _ _ _ _ (heap_alloc_last w _), List.getElem?_toArray]; exact key.1
  · rw [addr_add, addr_add, Nat.zero_add, cell_of_row _ _ _ _ _ _ (heap_alloc_last w _), List.getElem?_toArray]; exact key.2

theorem isCh_map {n i : Nat} {l : List Ln} {L : List AV} (h : IsCh (chW n i) l L) : L.map lnV = l.map (erL n i) := by
  have h2 := congrArg (List.map fun q : List Int × Int × Bool => (⟨q.1, q.2.1, q.2.2⟩ : Ln)) h
  rw [List.map_map, List.map_map] at h2
  exact h2

/-- Two lines that a call has laid. -/
def two (w : World) (a b : List Int) (p q : Int) (s t : Bool) : List AV := [⟨some ⟨w.heap.size, 0, none⟩, a.length, a, p, s⟩, ⟨some ⟨w.heap.size + 1, 0, none⟩, b.length, b, q, t⟩]

def twoW (w : World) (a b : List Int) (p q : Int) (s t : Bool) : World := ((w.alloc (.cells (a.map (Value.int .i64)).toArray 2)).alloc (.cells (b.map (Value.int .i64)).toArray 2)).alloc (.cells ((two w a b p q s t).flatMap AV.cells).toArray 25)

theorem two_rd (w : World) (a b : List Int) (p q : Int) (s t : Bool) : RdV (twoW w a b p q s t) (some ⟨w.heap.size + 1 + 1, 0, none⟩) (two w a b p q s t) ∧ Below w.heap.size w (twoW w a b p q s t) := by
  constructor
  · have h := RdV.made ((w.alloc (.cells (a.map (Value.int .i64)).toArray 2)).alloc (.cells (b.map (Value.int .i64)).toArray 2)) (two w a b p q s t) (fun y hy => by
      unfold two at hy
      simp only [List.mem_cons, List.not_mem_nil, or_false] at hy
      rcases hy with rfl | rfl
      · exact (Rd1.made w a).on (one_more _)
      · have := Rd1.made (w.alloc (.cells (a.map (Value.int .i64)).toArray 2)) b
        rw [World.size_alloc] at this
        exact this)
    rw [World.size_alloc, World.size_alloc] at h
    exact h
  · exact ((one_more _).trans ((one_more _).mono (by simp))).trans ((one_more _).mono (by simp; omega))

def three (w : World) : List AV := [⟨some ⟨w.heap.size, 0, none⟩, 2, [1, 1], 4, false⟩, ⟨some ⟨w.heap.size + 1, 0, none⟩, 2, [-1, 0], 0, true⟩, ⟨some ⟨w.heap.size + 1 + 1, 0, none⟩, 2, [0, -1], -1, true⟩]

def threeW (w : World) : World := (((w.alloc (.cells (([1, 1] : List Int).map (Value.int .i64)).toArray 2)).alloc (.cells (([-1, 0] : List Int).map (Value.int .i64)).toArray 2)).alloc (.cells (([0, -1] : List Int).map (Value.int .i64)).toArray 2)).alloc (.cells ((three w).flatMap AV.cells).toArray 25)

theorem three_rd (w : World) : RdV (threeW w) (some ⟨w.heap.size + 1 + 1 + 1, 0, none⟩) (three w) ∧ Below w.heap.size w (threeW w) := by
  constructor
  · have h := RdV.made (((w.alloc (.cells (([1, 1] : List Int).map (Value.int .i64)).toArray 2)).alloc (.cells (([-1, 0] : List Int).map (Value.int .i64)).toArray 2)).alloc (.cells (([0, -1] : List Int).map (Value.int .i64)).toArray 2)) (three w) (fun y hy => by
      unfold three at hy
      simp only [List.mem_cons, List.not_mem_nil, or_false] at hy
      rcases hy with rfl | rfl | rfl
      · exact ((Rd1.made w [1, 1]).on (one_more _)).on (one_more _)
      · have := (Rd1.made (w.alloc (.cells (([1, 1] : List Int).map (Value.int .i64)).toArray 2)) [-1, 0]).on (one_more (.cells (([0, -1] : List Int).map (Value.int .i64)).toArray 2))
        rw [World.size_alloc] at this
        exact this
      · have := Rd1.made ((w.alloc (.cells (([1, 1] : List Int).map (Value.int .i64)).toArray 2)).alloc (.cells (([-1, 0] : List Int).map (Value.int .i64)).toArray 2)) [0, -1]
        rw [World.size_alloc, World.size_alloc] at this
        exact this)
    rw [World.size_alloc, World.size_alloc, World.size_alloc] at h
    exact h
  · exact (((one_more _).trans ((one_more _).mono (by simp))).trans ((one_more _).mono (by simp; omega))).trans ((one_more _).mono (by simp; omega))

theorem ex_without (w W : World) (ao : Option Addr) (hR : RdV W ao (three w)) :
    Calls Tryz.prog 13 #[.int .i64 2, .slice ao 3 3, .int .i64 1] W (fun e w' => ∃ aa Lr c, e = .returned (.tuple #[.slice aa Lr.length c, .int .i64 0]) ∧ RdV w' aa Lr ∧ Lr.map lnV = [⟨[-1], 0, true⟩, ⟨[1], 3, true⟩] ∧ Below W.heap.size W w') := by
  refine (without_any 2 1 (three w) ao 3 W hR).mono ?_
  have hz : witE 2 (three w) 1 = 0 := by
    unfold witE
    rw [if_pos (by rfl)]
    unfold woE
    rw [if_pos (by decide)]
    exact sh1_wo
  rintro e w' ⟨hb, (⟨_, W', v, _, rfl, hv⟩ | ⟨he, _⟩)⟩
  · obtain ⟨b, Lr, rfl, h1, h2, h3⟩ := hv
    have hm := isCh_map h1
    have hl : Lr.length = (leaveL ((three w).map ofV) (1 : Int).toNat).length := by have := congrArg List.length h1; simpa using this
    refine ⟨_, Lr, _, by rw [← hl], h2.rd, ?_, hb⟩
    rw [hm]
    exact sh1_left
  · exact absurd hz he

theorem ex_point (w W : World) (ao : Option Addr) (hR : RdV W ao (three w)) :
    Calls Tryz.prog 25 #[.int .i64 2, .slice ao 3 3] W (fun e w' => ∃ aa c, e = .returned (.tuple #[.slice aa 2 c, .int .i64 0]) ∧ Rd2 w' aa [(1, 1), (2, 1)] ∧ Below W.heap.size W w') := by
  refine (pointP_any 2 (three w) ao 3 W hR).mono ?_
  have hz : ponE 2 (three w) = 0 := by
    unfold ponE
    rw [if_pos (by rfl)]
    exact sh1_po
  have hp : (ptN ((three w).map ofV) (2 : Int).toNat (2 : Int).toNat).1 = [(1, 1), (2, 1)] := by
    have := sh1_p2
    exact congrArg Prod.fst this
  rintro e w' ⟨hb, (⟨_, v, rfl, hv⟩ | ⟨he, _⟩)⟩
  · rw [hp] at hv
    obtain ⟨aa, c, rfl, h2, _⟩ := hv
    exact ⟨aa, c, rfl, h2, hb⟩
  · exact absurd hz he

theorem ex_least (w W : World) (ao qo : Option Addr) (hR : RdV W ao (two w [-1, 0] [0, -1] (-1) (-2) false true)) (hA : Rd1 W qo [2, 3]) :
    Calls Tryz.prog 30 #[.int .i64 2, .slice ao 2 2, .slice qo 2 2] W (fun e w' => e = .returned (.tuple #[.agg #[.int .i64 8, .int .i64 1], .bool false, .int .i64 0]) ∧ Below W.heap.size W w') := by
  refine (least_any 2 (two w [-1, 0] [0, -1] (-1) (-2) false true) [2, 3] ao qo 2 2 W hR hA (by simp)).mono ?_
  have hz : leaE 2 (two w [-1, 0] [0, -1] (-1) (-2) false true) [2, 3] = 0 := by
    unfold leaE
    rw [if_pos (by rfl)]
    unfold lsE
    rw [if_pos (by decide)]
    exact in2_i
  have hx : leaX 2 (two w [-1, 0] [0, -1] (-1) (-2) false true) [2, 3] = ⟨(8, 1), true, true⟩ := by
    unfold leaX
    rw [if_pos hz]
    exact congrArg (fun q => q.1.1) in2_n
  rintro e w' ⟨hb, rfl⟩
  rw [hx, hz]
  exact ⟨rfl, hb⟩

theorem ex_empty (w W : World) (ao : Option Addr) (hR : RdV W ao (two w [1] [-1] 2 (-2) false true)) :
    Calls Tryz.prog 17 #[.int .i64 1, .slice ao 2 2] W (fun e w' => e = .returned (.tuple #[.bool true, .int .i64 0]) ∧ Below W.heap.size W w') := by
  refine (empty_any 1 (two w [1] [-1] 2 (-2) false true) ao 2 W hR).mono ?_
  have hz : empE 1 (two w [1] [-1] 2 (-2) false true) = 0 := by
    unfold empE
    rw [if_pos (by rfl)]
    exact sh3_e
  have hx : empB ((two w [1] [-1] 2 (-2) false true).map ofV) (1 : Int).toNat = true := sh3_b
  rintro e w' ⟨hb, rfl⟩
  rw [hz, if_pos rfl, hx]
  exact ⟨rfl, hb⟩

set_option maxRecDepth 100000 in
set_option maxHeartbeats 4000000 in
theorem shown_any (w : World) : Calls Tryz.prog 10 #[] w (Made (.bool true) w) := by
  obtain ⟨w1, hw1⟩ : ∃ w1, w1 = threeW w := ⟨_, rfl⟩
  obtain ⟨h1, hb1⟩ := three_rd w
  rw [← hw1] at h1 hb1
  have R1 := Lib.hid h1
  have B1 := Lib.hid hb1
  clear h1 hb1
  go_enter Tryz.func10, Tryz.ntmps10
  go_wp2_with fail
  rw [show ((((w.alloc (.cells #[.int .i64 1, .int .i64 1] 2)).alloc (.cells #[.int .i64 (-1), .int .i64 0] 2)).alloc (.cells #[.int .i64 0, .int .i64 (-1)] 2)).alloc (.cells #[.slice (some ⟨w.heap.size, 0, none⟩) 2 2, .int .i64 4, .bool false, .slice (some ⟨w.heap.size + 1, 0, none⟩) 2 2, .int .i64 0, .bool true, .slice (some ⟨w.heap.size + 1 + 1, 0, none⟩) 2 2, .int .i64 (-1), .bool true] 25)) = w1 from hw1.symm]
  clear hw1
  refine (ex_without w w1 _ R1.out).mono ?_
  rintro e w2 ⟨aa, La, ca, rfl, ra, ea, hb⟩
  have RA := Lib.hid ra
  have EA := Lib.hid ea
  have B2 := Lib.hid hb
  obtain ⟨na, hna⟩ : ∃ na, na = La.length := ⟨_, rfl⟩
  have NA := Lib.hid hna
  rw [← hna]
  clear ra ea hb hna
  go_wp2_with fail
  refine (ex_point w w2 _ (R1.out.on B2.out)).mono ?_
  rintro e w3 ⟨ap, cp, rfl, rp, hb⟩
  have RP := Lib.hid rp
  have B3 := Lib.hid hb
  clear rp hb
  obtain ⟨w4, hw4⟩ : ∃ w4, w4 = (twoW w3 [-1, 0] [0, -1] (-1) (-2) false true).alloc (.cells (([2, 3] : List Int).map (Value.int .i64)).toArray 2) := ⟨_, rfl⟩
  have R4 := Lib.hid (show RdV w4 (some ⟨w3.heap.size + 1 + 1, 0, none⟩) (two w3 [-1, 0] [0, -1] (-1) (-2) false true) by rw [hw4]; exact (two_rd w3 _ _ _ _ _ _).1.on (one_more _))
  have B4 := Lib.hid (show Below w3.heap.size w3 w4 by rw [hw4]; exact (two_rd w3 [-1, 0] [0, -1] (-1) (-2) false true).2.trans ((one_more _).mono (two_rd w3 [-1, 0] [0, -1] (-1) (-2) false true).2.size))
  have Q4 := Lib.hid (show Rd1 w4 (some ⟨w3.heap.size + 1 + 1 + 1, 0, none⟩) [2, 3] by
    rw [hw4]
    have := Rd1.made (twoW w3 [-1, 0] [0, -1] (-1) (-2) false true) [2, 3]
    rw [show (twoW w3 [-1, 0] [0, -1] (-1) (-2) false true).heap.size = w3.heap.size + 1 + 1 + 1 by unfold twoW; rw [World.size_alloc, World.size_alloc, World.size_alloc]] at this
    exact this)
  go_wp2_with fail
  rw [show ((((w3.alloc (.cells #[.int .i64 (-1), .int .i64 0] 2)).alloc (.cells #[.int .i64 0, .int .i64 (-1)] 2)).alloc (.cells #[.slice (some ⟨w3.heap.size, 0, none⟩) 2 2, .int .i64 (-1), .bool false, .slice (some ⟨w3.heap.size + 1, 0, none⟩) 2 2, .int .i64 (-2), .bool true] 25)).alloc (.cells #[.int .i64 2, .int .i64 3] 2)) = w4 from hw4.symm]
  clear hw4
  refine (ex_least w3 w4 _ _ R4.out Q4.out).mono ?_
  rintro e w5 ⟨rfl, hb⟩
  have B5 := Lib.hid hb
  clear hb R4 Q4
  obtain ⟨w6, hw6⟩ : ∃ w6, w6 = w5.alloc (.cells #[.int .i64 8, .int .i64 1] 50) := ⟨_, rfl⟩
  have P6 := Lib.hid (show Pair w6 w5.heap.size 8 1 by rw [hw6]; exact Pair.made w5 8 1 50)
  have B6 := Lib.hid (show Below w5.heap.size w5 w6 by rw [hw6]; exact one_more _)
  go_upto_region 5 with (fail)
  rw [← hw6]
  clear hw6
  obtain ⟨w7, hw7⟩ : ∃ w7, w7 = twoW w6 [1] [-1] 2 (-2) false true := ⟨_, rfl⟩
  have R7 := Lib.hid (show RdV w7 (some ⟨w6.heap.size + 1 + 1, 0, none⟩) (two w6 [1] [-1] 2 (-2) false true) by rw [hw7]; exact (two_rd w6 _ _ _ _ _ _).1)
  have B7 := Lib.hid (show Below w6.heap.size w6 w7 by rw [hw7]; exact (two_rd w6 _ _ _ _ _ _).2)
  go_wp2_with fail
  rw [show (((w6.alloc (.cells #[.int .i64 1] 2)).alloc (.cells #[.int .i64 (-1)] 2)).alloc (.cells #[.slice (some ⟨w6.heap.size, 0, none⟩) 1 1, .int .i64 2, .bool false, .slice (some ⟨w6.heap.size + 1, 0, none⟩) 1 1, .int .i64 (-2), .bool true] 25)) = w7 from hw7.symm]
  clear hw7
  refine (ex_empty w6 w7 _ R7.out).mono ?_
  rintro e w8 ⟨rfl, hb⟩
  have B8 := Lib.hid (below_on B7.out hb)
  have P8 := Lib.hid (P6.out.kept B8.out)
  clear hb R7 B7
  obtain ⟨f0, f1, _, _⟩ := P8.out.facts
  obtain ⟨w9, hw9⟩ : ∃ w9, w9 = w8.alloc (.cells #[.int .i64 1, .int .i64 1, .int .i64 2, .int .i64 1] 50) := ⟨_, rfl⟩
  have B9 := Lib.hid (show Below w8.heap.size w8 w9 by rw [hw9]; exact one_more _)
  have Q9 := Lib.hid (show Rd2 w9 (some ⟨w8.heap.size, 0, none⟩) [(1, 1), (2, 1)] by rw [hw9]; exact Rd2.made w8 [(1, 1), (2, 1)])
  have B39 := Lib.hid (show Below w3.heap.size w3 w9 from below_on B4.out (below_on B5.out (below_on B6.out (below_on B8.out B9.out))))
  have S9 := Lib.hid (srat_any [(1, 1), (2, 1)] [(1, 1), (2, 1)] ap (some ⟨w8.heap.size, 0, none⟩) cp 2 w9 (RP.out.on B39.out) Q9.out (by simp))
  rw [decide_eq_true rfl] at S9
  go_wp2_with fail
  rw [← hw9]
  clear hw9
  refine S9.out.mono ?_
  rintro e w10 ⟨rfl, hb⟩
  have B10 := Lib.hid hb
  obtain ⟨w11, hw11⟩ : ∃ w11, w11 = twoW w10 [-1] [1] 0 3 true true := ⟨_, rfl⟩
  have R11 := Lib.hid (show RdV w11 (some ⟨w10.heap.size + 1 + 1, 0, none⟩) (two w10 [-1] [1] 0 3 true true) by rw [hw11]; exact (two_rd w10 _ _ _ _ _ _).1)
  have B11 := Lib.hid (show Below w10.heap.size w10 w11 by rw [hw11]; exact (two_rd w10 _ _ _ _ _ _).2)
  have B211 := Lib.hid (show Below w2.heap.size w2 w11 from below_on B3.out (below_on B39.out (below_on B10.out B11.out)))
  have SA := Lib.hid (same_any La (two w10 [-1] [1] 0 3 true true) aa (some ⟨w10.heap.size + 1 + 1, 0, none⟩) ca 2 w11 (RA.out.on B211.out) R11.out (by have := congrArg List.length EA.out; simp at this; omega) (fun y hy => by
    have : lnV y ∈ [(⟨[-1], 0, true⟩ : Ln), ⟨[1], 3, true⟩] := by rw [← EA.out]; exact List.mem_map.2 ⟨y, hy, rfl⟩
    simp only [List.mem_cons, List.not_mem_nil, or_false] at this
    have h : y.a = (lnV y).a := rfl
    rw [h]
    rcases this with e | e <;> rw [e] <;> simp))
  rw [show (decide (La.map lnV = (two w10 [-1] [1] 0 3 true true).map lnV)) = true from decide_eq_true EA.out, ← NA.out] at SA
  have BZ := Lib.hid (show Below w.heap.size w w11 from below_on B1.out (below_on B2.out B211.out))
  clear hb f0 f1 S9
  go_wp2_with fail
  rw [show (((w10.alloc (.cells #[.int .i64 (-1)] 2)).alloc (.cells #[.int .i64 1] 2)).alloc (.cells #[.slice (some ⟨w10.heap.size, 0, none⟩) 1 1, .int .i64 0, .bool true, .slice (some ⟨w10.heap.size + 1, 0, none⟩) 1 1, .int .i64 3, .bool true] 25)) = w11 from hw11.symm]
  clear hw11
  refine SA.out.mono ?_
  rintro e w12 ⟨rfl, hb⟩
  have B12 := Lib.hid (below_on BZ.out hb)
  clear hb
  go_wp2_with fail
  go_ret
  exact ⟨rfl, B12.out⟩
end Go.Proofs.YtefpaobboimakaaGreat

namespace Go.Proofs.YtefpaobboimakaaGreat
open Go.RowKit Go.Sort Go.Shelf

def rwE (n : Int) (L : List AV) (I : Int) : Int := if chkP n L = 0 then (if 0 ≤ I ∧ I < n then leaveEr n.toNat (L.map lnV) I.toNat else 2) else chkP n L

theorem valid_fitV {n : Int} {y : AV} (h : validB n y = true) : FitV n.toNat y := by
  unfold validB at h
  simp only [Bool.and_eq_true, decide_eq_true_eq, List.all_eq_true] at h
  obtain ⟨⟨h1, h2⟩, h3⟩ := h
  refine ⟨by omega, fun v hv => ?_, ?_⟩
  · have := h2 v hv; unfold fitB at this; simpa using this
  · unfold fitB at h3; simpa using h3

set_option maxRecDepth 100000 in
set_option maxHeartbeats 4000000 in
theorem rwithout_any (n I : Int) (L : List AV) (ao : Option Addr) (cap : Nat) (w : World) (hR : RdV w ao L) (hY : ∀ y ∈ L, y.a.length ≤ 1000000 ∧ NilOk y) :
    Calls Tryz.prog 15 #[.int .i64 n, .slice ao L.length cap, .int .i64 I] w (LrRes w (rwE n L I) (leaveLr n.toNat (L.map lnV) I.toNat)) := by
  obtain ⟨m, hm⟩ : ∃ m, m = L.length := ⟨_, rfl⟩
  have HM := Lib.hid hm
  have CK := Lib.hid (rcheck_any n L ao cap w hR (fun y hy => (hY y hy).1))
  have HR := Lib.hid hR
  have HY := Lib.hid hY
  rw [← hm] at CK ⊢
  obtain ⟨c, hc⟩ : ∃ c, c = chkP n L := ⟨_, rfl⟩
  have HC := Lib.hid hc
  rw [← hc] at CK
  by_cases h0 : c = 0
  case neg =>
    have HE := Lib.hid (show rwE n L I = c by unfold rwE; rw [← HC.out, if_neg h0])
    have h0' : (c != 0) = true := by simpa using h0
    have HN := Lib.hid h0
    clear hR hY hm hc h0
    go_enter Tryz.func15, Tryz.ntmps15
    go_wp2_with fail
    refine CK.out.mono ?_
    rintro e w1 ⟨rfl, hb⟩
    have B1 := Lib.hid hb
    clear hb
    go_wp2_with fail
    refine bodyPost_ret (v := .tuple #[.slice none 0 0, .int .i64 c]) (by simp [results, Tryz.results15, go_sem]) rfl ?_
    exact Or.inr ⟨by rw [HE.out]; exact HN.out, by rw [HE.out], B1.out⟩
  subst h0
  by_cases h1 : 0 ≤ I ∧ I < n
  case neg =>
    have HE := Lib.hid (show rwE n L I = 2 by unfold rwE; rw [if_pos HC.out.symm, if_neg h1])
    clear hR hY hm hc
    by_cases h2 : I < 0
    · go_enter Tryz.func15, Tryz.ntmps15
      go_wp2_with fail
      refine CK.out.mono ?_
      rintro e w1 ⟨rfl, hb⟩
      have B1 := Lib.hid hb
      clear hb
      go_wp2_with fail
      refine bodyPost_ret (v := .tuple #[.slice none 0 0, .int .i64 2]) (by simp [results, Tryz.results15, go_sem]) rfl ?_
      exact Or.inr ⟨by rw [HE.out]; decide, by rw [HE.out], B1.out⟩
    · have h3 : n ≤ I := by omega
      go_enter Tryz.func15, Tryz.ntmps15
      go_wp2_with fail
      refine CK.out.mono ?_
      rintro e w1 ⟨rfl, hb⟩
      have B1 := Lib.hid hb
      clear hb
      go_wp2_with fail
      refine bodyPost_ret (v := .tuple #[.slice none 0 0, .int .i64 2]) (by simp [results, Tryz.results15, go_sem]) rfl ?_
      exact Or.inr ⟨by rw [HE.out]; decide, by rw [HE.out], B1.out⟩
  obtain ⟨⟨g1, g2⟩, g3, g4⟩ := chk_valid hc.symm
  obtain ⟨n', rfl⟩ : ∃ n' : Nat, n = n' := ⟨n.toNat, by omega⟩
  obtain ⟨i, rfl⟩ : ∃ i : Nat, I = i := ⟨I.toNat, by omega⟩
  have HE := Lib.hid (show rwE n' L i = leaveEr n' (L.map lnV) i by unfold rwE; rw [if_pos HC.out.symm, if_pos h1]; rfl)
  have LV := Lib.hid (fun W (h : Below w.heap.size w W) => rleave_any n' i L ao cap W (by omega) (by omega) (by omega) (hR.on h) (fun y hy => ⟨by have := valid_fitV (g4 y hy); simpa using this, (hY y hy).2⟩))
  rw [← hm] at LV
  obtain ⟨E, hE⟩ : ∃ E, E = leaveEr n' (L.map lnV) i := ⟨_, rfl⟩
  obtain ⟨T, hT⟩ : ∃ T, T = leaveLr n' (L.map lnV) i := ⟨_, rfl⟩
  rw [← hE, ← hT] at LV
  rw [← hE] at HE
  rw [HE.out]
  simp only [Int.toNat_natCast]
  rw [← hT]
  have i0 : ¬ (i : Int) < 0 := by omega
  have i1 : ¬ (n' : Int) ≤ i := by omega
  clear hR hY hm hc g1 g2 g3 g4 h1 hE hT HC
  go_enter Tryz.func15, Tryz.ntmps15
  go_wp2_with fail
  refine CK.out.mono ?_
  rintro e w1 ⟨rfl, hb⟩
  have B1 := Lib.hid hb
  clear hb
  go_wp2_with fail
  refine (LV.out _ B1.out).mono ?_
  rintro e w2 (⟨he, v, R, rfl, hO, hm, hb⟩ | ⟨he, rfl, hb⟩)
  · have X1 := Lib.hid (And.intro he (And.intro (hO.base B1.out.size) (And.intro hm (below_on B1.out hb))))
    clear he hO hm hb
    go_wp2_with fail
    refine bodyPost_ret (v := .tuple #[v, .int .i64 0]) (by simp [results, Tryz.results15, go_sem]) rfl ?_
    exact Or.inl ⟨X1.out.1, v, R, rfl, X1.out.2.1, X1.out.2.2.1, X1.out.2.2.2⟩
  · have X1 := Lib.hid (And.intro he (below_on B1.out hb))
    clear he hb
    go_wp2_with fail
    refine bodyPost_ret (v := .tuple #[.slice none 0 0, .int .i64 E]) (by simp [results, Tryz.results15, go_sem]) rfl ?_
    exact Or.inr ⟨X1.out.1, rfl, X1.out.2⟩

/-- What came in, as the project has it, and as the reference has it. -/
theorem tk_ofV {n : Nat} {y : AV} (h : FitV n y) (hn : n ≤ 6) : tk n (ofV y) = lnV y ∧ DomN n (ofV y) := by
  obtain ⟨h1, _, _⟩ := h
  refine ⟨?_, ?_, fun j hj => ?_⟩
  · unfold tk ofV lnV
    simp only [Ln.mk.injEq, and_true]
    rw [← h1, List.take_left']
    rfl
  · unfold ofV; simp; omega
  · unfold ofV gA
    rw [List.getD_eq_getElem?_getD, List.getElem?_append_right (by omega)]
    rw [List.getElem?_replicate]
    split <;> rfl

theorem ofV_map {L : List AV} {R : List AV} (h : R.map lnV = L.map lnV) : R.map ofV = L.map ofV := by
  have e : ∀ y : AV, ofV y = (fun x : Ln => (⟨x.a ++ List.replicate (6 - x.a.length) 0, x.b, x.s⟩ : Ln)) (lnV y) := fun _ => rfl
  have key : ∀ K : List AV, K.map ofV = (K.map lnV).map (fun x : Ln => (⟨x.a ++ List.replicate (6 - x.a.length) 0, x.b, x.s⟩ : Ln)) := fun K => by
    rw [List.map_map]; rfl
  rw [key, key, h]

theorem chkP_map {n : Int} {L R : List AV} (h : R.map lnV = L.map lnV) : chkP n R = chkP n L := by
  have hl : R.length = L.length := by have := congrArg List.length h; simpa using this
  have key : ∀ K : List AV, K.any (fun y => !validB n y) = (K.map lnV).any (fun x => !(decide ((x.a.length : Int) = n) && x.a.all fitB && fitB x.b)) := fun K => by
    rw [List.any_map]; rfl
  unfold chkP
  rw [hl, key, key, h]

theorem woE_rwE {n I : Int} {L R : List AV} (h : R.map lnV = L.map lnV) : witE n R I = rwE n L I := by
  unfold witE rwE
  rw [chkP_map h]
  by_cases hc : chkP n L = 0
  · rw [if_pos hc, if_pos hc]
    unfold woE
    by_cases h1 : 0 ≤ I ∧ I < n
    · rw [if_pos h1, if_pos h1, ofV_map h]
      obtain ⟨⟨g1, g2⟩, g3, g4⟩ := chk_valid hc
      have key : (L.map ofV).map (tk n.toNat) = L.map lnV := by
        rw [List.map_map]
        exact List.map_congr_left fun y hy => (tk_ofV (valid_fitV (g4 y hy)) (by omega)).1
      rw [← key, leaveE_tk (by omega) (by omega)]
      intro x hx
      obtain ⟨y, hy, rfl⟩ := List.mem_map.1 hx
      exact (tk_ofV (valid_fitV (g4 y hy)) (by omega)).2
    · rw [if_neg h1, if_neg h1]
  · rw [if_neg hc, if_neg hc]

theorem woL_rwL {n I : Int} {L R : List AV} (h : R.map lnV = L.map lnV) (hc : chkP n L = 0) (h1 : 0 ≤ I ∧ I < n) : (leaveL (R.map ofV) I.toNat).map (erL n.toNat I.toNat) = leaveLr n.toNat (L.map lnV) I.toNat := by
  rw [ofV_map h]
  obtain ⟨⟨g1, g2⟩, g3, g4⟩ := chk_valid hc
  have key : (L.map ofV).map (tk n.toNat) = L.map lnV := by
    rw [List.map_map]
    exact List.map_congr_left fun y hy => (tk_ofV (valid_fitV (g4 y hy)) (by omega)).1
  rw [← key, leaveL_tk (by omega) (by omega)]
  intro x hx
  obtain ⟨y, hy, rfl⟩ := List.mem_map.1 hx
  exact (tk_ofV (valid_fitV (g4 y hy)) (by omega)).2
end Go.Proofs.YtefpaobboimakaaGreat

namespace Go.Proofs.YtefpaobboimakaaGreat
open Go.RowKit Go.Sort Go.Shelf

def FarOk (L : List AV) (most : Int) : Prop := L.length ≤ 2000 ∧ (∀ y ∈ L, y.a.length ≤ 20) ∧ ((L.length : Int) ≤ most ∨ 1000 < L.length)

/-- What far and beyond leave. -/
def FarRes (L : List AV) (most : Int) (w : World) (e : Ending) (w' : World) : Prop := ∃ b, e = .returned (.bool b) ∧ w' = w ∧ (b = false → FarOk L most)

def ByRes (L M : List AV) (most : Int) (xa : List Int) (P : List Pq) (aa : List Int) (w : World) (e : Ending) (w' : World) : Prop := ∃ b, e = .returned (.bool b) ∧ Below w.heap.size w w' ∧ (b = false → FarOk L most ∧ FarOk M most ∧ xa.length ≤ 20 ∧ P.length ≤ 20 ∧ aa.length ≤ 20)

theorem AvAt.first {w : World} {p : Addr} {t : Nat} {y : AV} (h : AvAt w (p.add (t * 3)) y) : w.cell? (p.add (t * 3)) = some (.slice y.q y.a.length y.c) := h.three.1

set_option maxRecDepth 100000 in
set_option maxHeartbeats 4000000 in
theorem far_any (L : List AV) (most : Int) (ao : Option Addr) (cap : Nat) (w : World) (hR : RdV w ao L) :
    Calls Tryz.prog 36 #[.slice ao L.length cap, .int .i64 most] w (FarRes L most w) := by
  obtain ⟨m, hm⟩ : ∃ m, m = L.length := ⟨_, rfl⟩
  have HM := Lib.hid hm
  have HR := Lib.hid hR
  rw [← hm]
  clear hm hR
  go_enter Tryz.func36, Tryz.ntmps36
  go_wp2_with fail
  go_loopw [5] (fun s wr => ∃ t : Nat, t ≤ m ∧ t ≤ 2000 ∧ s = .int .i64 t ∧ Hid (∀ k, ∀ h : k < L.length, k < t → L[k].a.length ≤ 20) ∧ wr = w) (fun s _ => m - (intOf s).toNat)
  case atStart => exact ⟨0, by omega, by omega, rfl, Lib.hid (fun k _ hk => by omega), rfl⟩
  case round =>
    obtain ⟨t, ht, ht2, rfl, HT, rfl⟩ := hrel
    by_cases htn : t < m
    · by_cases ht3 : t < 2000
      · have h1 : t < L.length := by have := HM.out; omega
        obtain ⟨a, ea, hA⟩ := HR.out.at_ t h1
        have NX := Lib.hid (show L[t].a.length ≤ 20 → ∀ k, ∀ h : k < L.length, k < t + 1 → L[k].a.length ≤ 20 from fun h k g hk => by
          by_cases e : k = t
          · subst e; exact h
          · exact HT.out k g (by omega))
        have a0 := hA.first
        generalize L[t] = y at *
        obtain ⟨n, hn⟩ : ∃ n, n = y.a.length := ⟨_, rfl⟩
        rw [← hn] at a0 NX
        subst ea
        clear hA h1 hn
        by_cases h20 : 20 < n
        · have h20' : (20 : Int) < n := by omega
          go_wp2_with fail
          go_ret
          exact ⟨_, rfl, rfl, fun h => by cases h⟩
        · have h20' : ¬ (20 : Int) < n := by omega
          have HT2 := Lib.hid (NX.out (by omega))
          go_wp2_with fail
          go_roundw
          case rel => exact ⟨t + 1, by omega, by omega, by go_num, HT2, trivial⟩
          case measure => simp [intOf]; omega
      · have h2 : 2000 < m := by omega
        have h2' : (2000 : Int) < m := by omega
        go_wp2_with fail
        go_ret
        exact ⟨_, rfl, rfl, fun h => by first | (simp at h; done) | (simp at h; omega)⟩
    · have FK := Lib.hid (show (m : Int) ≤ most ∨ 1000 < m → m ≤ 2000 → FarOk L most from fun h h' => by
        refine ⟨by have := HM.out; omega, fun y hy => ?_, by rw [← HM.out]; exact h⟩
        obtain ⟨k, hk, rfl⟩ := List.getElem_of_mem hy
        exact HT.out k hk (by have := HM.out; omega))
      by_cases h5 : 2000 < m
      · exact absurd h5 (by omega)
      by_cases h3 : most < m
      · go_wp2_with fail
        go_ret
        exact ⟨_, rfl, rfl, fun h => FK.out (Or.inr (by first | (simp at h; done) | (simp at h; omega))) (by omega)⟩
      · go_wp2_with fail
        go_ret
        exact ⟨_, rfl, rfl, fun h => FK.out (Or.inl (by omega)) (by omega)⟩

set_option maxRecDepth 100000 in
set_option maxHeartbeats 4000000 in
theorem beyond_any (N I most xb : Int) (xs : Bool) (L M : List AV) (xa aa : List Int) (P : List Pq) (la ma xq pa aq : Option Addr) (lc mc xc pc ac : Nat) (w : World) (hR : RdV w la L) (hS : RdV w ma M) :
    Calls Tryz.prog 9 #[.agg #[.int .i64 N, .slice la L.length lc, .slice ma M.length mc, .slice xq xa.length xc, .int .i64 xb, .bool xs, .int .i64 I, .slice pa P.length pc, .slice aq aa.length ac], .int .i64 most] w
      (ByRes L M most xa P aa w) := by
  obtain ⟨l1, e1⟩ : ∃ n, n = L.length := ⟨_, rfl⟩
  obtain ⟨l2, e2⟩ : ∃ n, n = M.length := ⟨_, rfl⟩
  obtain ⟨l3, e3⟩ : ∃ n, n = xa.length := ⟨_, rfl⟩
  obtain ⟨l4, e4⟩ : ∃ n, n = P.length := ⟨_, rfl⟩
  obtain ⟨l5, e5⟩ : ∃ n, n = aa.length := ⟨_, rfl⟩
  obtain ⟨w0, hw0⟩ : ∃ w0, w0 = w.alloc (.cells #[.int .i64 N, .slice la l1 lc, .slice ma l2 mc, .slice xq l3 xc, .int .i64 xb, .bool xs, .int .i64 I, .slice pa l4 pc, .slice aq l5 ac] 28) := ⟨_, rfl⟩
  have E0 := Lib.hid (show Below w.heap.size w w0 by rw [hw0]; exact one_more _)
  have hq := heap_alloc_last w (.cells #[.int .i64 N, .slice la l1 lc, .slice ma l2 mc, .slice xq l3 xc, .int .i64 xb, .bool xs, .int .i64 I, .slice pa l4 pc, .slice aq l5 ac] 28)
  rw [← hw0] at hq
  have d1 : w0.cell? ⟨w.heap.size, 1, none⟩ = some (.slice la l1 lc) := by rw [cell_of_row w0 _ 1 _ _ _ hq]; rfl
  have d2 : w0.cell? ⟨w.heap.size, 2, none⟩ = some (.slice ma l2 mc) := by rw [cell_of_row w0 _ 2 _ _ _ hq]; rfl
  have d3 : w0.cell? ⟨w.heap.size, 3, none⟩ = some (.slice xq l3 xc) := by rw [cell_of_row w0 _ 3 _ _ _ hq]; rfl
  have d7 : w0.cell? ⟨w.heap.size, 7, none⟩ = some (.slice pa l4 pc) := by rw [cell_of_row w0 _ 7 _ _ _ hq]; rfl
  have d8 : w0.cell? ⟨w.heap.size, 8, none⟩ = some (.slice aq l5 ac) := by rw [cell_of_row w0 _ 8 _ _ _ hq]; rfl
  have F1 := Lib.hid (far_any L most la lc w0 (hR.on E0.out))
  have F2 := Lib.hid (far_any M most ma mc w0 (hS.on E0.out))
  rw [← e1] at F1
  rw [← e2] at F2
  have fin := Lib.hid (show FarOk L most → FarOk M most → l3 ≤ 20 → l4 ≤ 20 → l5 ≤ 20 → FarOk L most ∧ FarOk M most ∧ xa.length ≤ 20 ∧ P.length ≤ 20 ∧ aa.length ≤ 20 from fun a b c d e => ⟨a, b, by omega, by omega, by omega⟩)
  rw [← e1, ← e2, ← e3, ← e4, ← e5]
  clear hR hS hq e1 e2 e3 e4 e5
  go_enter Tryz.func9, Tryz.ntmps9
  go_upto_region 1 with (fail)
  rw [← hw0]
  clear hw0
  go_wp2_with fail
  refine F1.out.mono ?_
  rintro e w1 ⟨b, rfl, hw, h1⟩
  rw [hw]
  clear hw F1
  have H1 := Lib.hid h1
  clear h1
  cases b
  case true =>
    go_wp2_with fail
    go_ret
    exact ⟨_, rfl, E0.out, fun h => by first | (simp at h; done) | (simp at h; omega)⟩
  go_wp2_with fail
  refine F2.out.mono ?_
  rintro e w1 ⟨b, rfl, hw, h1⟩
  rw [hw]
  clear hw F2
  have H2 := Lib.hid h1
  clear h1
  cases b
  case true =>
    go_wp2_with fail
    go_ret
    exact ⟨_, rfl, E0.out, fun h => by first | (simp at h; done) | (simp at h; omega)⟩
  by_cases g3 : 20 < l3
  · go_wp2_with fail
    go_ret
    exact ⟨_, rfl, E0.out, fun h => by first | (simp at h; done) | (simp at h; omega)⟩
  by_cases g4 : 20 < l4
  · go_wp2_with fail
    go_ret
    exact ⟨_, rfl, E0.out, fun h => by first | (simp at h; done) | (simp at h; omega)⟩
  by_cases g5 : 20 < l5
  · go_wp2_with fail
    go_ret
    exact ⟨_, rfl, E0.out, fun h => by first | (simp at h; done) | (simp at h; omega)⟩
  have F9 := Lib.hid (fin.out (H1.out (by first | rfl | trivial)) (H2.out (by first | rfl | trivial)) (by omega) (by omega) (by omega))
  go_wp2_with fail
  go_ret
  exact ⟨_, rfl, E0.out, fun _ => F9.out⟩

theorem OwnI.grownO {w w' : World} {B g cap : Nat} {r : Option Nat} {a : List Int} (h : OwnI w B g cap a) (hg : w.grownBy w' r) (hne : r ≠ some g) : OwnI w' B g cap a :=
  World.ownsRow.kept h hg (Or.inr (fun e => hne e.symm))

/-- The numbers of each line in a row of the call's own. -/
def OwnN (w : World) (B : Nat) (R : List AV) : Prop := ∀ y ∈ R, ∃ g, y.q = some ⟨g, 0, none⟩ ∧ OwnI w B g y.c y.a

theorem OwnN.on {w w' : World} {B : Nat} {R : List AV} (h : OwnN w B R) (hb : Below w.heap.size w w') : OwnN w' B R := fun y hy => by
  obtain ⟨g, e, o⟩ := h y hy
  exact ⟨g, e, o.on hb⟩

set_option maxRecDepth 100000 in
set_option maxHeartbeats 4000000 in
theorem lent_any (L : List AV) (ao : Option Addr) (cap : Nat) (w : World) (hR : RdV w ao L) (hl : L.length ≤ 100000) (hY : ∀ y ∈ L, y.a.length ≤ 1000 ∧ NilOk y) :
    Calls Tryz.prog 11 #[.slice ao L.length cap] w (fun e w' => ∃ v R, e = .returned v ∧ OwnV w' w.heap.size v R ∧ R.map lnV = L.map lnV ∧ OwnN w' w.heap.size R ∧ Below w.heap.size w w') := by
  obtain ⟨m, hm⟩ : ∃ m, m = L.length := ⟨_, rfl⟩
  have HM := Lib.hid hm
  have HR := Lib.hid hR
  have HY := Lib.hid hY
  have hle : m ≤ 100000 := by omega
  rw [← hm]
  clear hm hR hl hY
  go_enter Tryz.func11, Tryz.ntmps11
  go_wp2_with fail
  go_loopw [3, 4] (fun v s wr => ∃ t : Nat, t ≤ m ∧ s = .int .i64 t ∧ Hid (∃ R, OwnV wr w.heap.size v R ∧ R.map lnV = (L.take t).map lnV ∧ OwnN wr w.heap.size R ∧ Below w.heap.size w wr)) (fun _ s _ => m - (intOf s).toNat)
  case atStart => exact ⟨0, by omega, rfl, Lib.hid ⟨[], OwnV.empty _ _, rfl, fun y h => by simp at h, Below.refl _ _⟩⟩
  case round =>
    obtain ⟨t, ht, rfl, HT⟩ := hrel
    by_cases htn : t < m
    · have h1 : t < L.length := by have := HM.out; omega
      obtain ⟨R, hO, hE, hN, hB⟩ := HT.out
      have HO := Lib.hid hO
      have HN := Lib.hid hN
      have HB := Lib.hid hB
      obtain ⟨a0, ea, hA⟩ := HR.out.at_ t h1
      have YY := Lib.hid (HY.out _ (List.getElem_mem h1))
      have YN := Lib.hid (HR.out.nums _ (List.getElem_mem h1))
      have RL := Lib.hid (show R.length = t by have := congrArg List.length hE; simpa [Nat.min_eq_left (Nat.le_of_lt h1)] using this)
      have HX := Lib.hid (show (L.take (t + 1)).map lnV = R.map lnV ++ [lnV L[t]] by rw [List.take_succ_eq_append_getElem h1, List.map_append, hE]; rfl)
      generalize L[t] = y at *
      obtain ⟨c0, c1, c2⟩ := hA.three
      obtain ⟨q, c, a, b, s⟩ := y
      simp only at c0 c1 c2 YY YN
      obtain ⟨n, hn⟩ : ∃ n, n = a.length := ⟨_, rfl⟩
      rw [← hn] at c0
      have NA := Lib.hid hn
      have C0 := Lib.hid c0
      have C1 := Lib.hid c1
      have C2 := Lib.hid c2
      subst ea
      clear hA h1 hn c0 c1 c2 hO hE hN hB HT
      go_upto_region 5 with (fail)
      have KS := Lib.hid (show ∀ W, Below w.heap.size w W → (W.cell? (a0.add (t * 3)) = some (.slice q n c) ∧ W.cell? ⟨(a0.add (t * 3)).block, (a0.add (t * 3)).off + 1, none⟩ = some (.int .i64 b) ∧ W.cell? ⟨(a0.add (t * 3)).block, (a0.add (t * 3)).off + 2, none⟩ = some (.bool s)) from fun W h => ⟨kept h C0.out, kept h C1.out, kept h C2.out⟩)
      obtain ⟨wc, hwc⟩ : ∃ wc, wc = wr.drew := ⟨_, rfl⟩
      have Bc := Lib.hid (show Below wr.heap.size wr wc by rw [hwc]; exact (Below.refl _ _).drew)
      refine wp_region_held_drew (S := (fun W => (W.cell? (a0.add (t * 3)) = some (.slice q n c) ∧ W.cell? ⟨(a0.add (t * 3)).block, (a0.add (t * 3)).off + 1, none⟩ = some (.int .i64 b) ∧ W.cell? ⟨(a0.add (t * 3)).block, (a0.add (t * 3)).off + 2, none⟩ = some (.bool s)))) (by kernel_rfl) (by rw [← hwc]; exact KS.out _ (below_on HB.out Bc.out)) (fun h0 => ?_)
      rw [← hwc] at h0 ⊢
      clear hwc
      refine wpAnyH_take (i := 0) (v := ?v1) rfl (by kernel_rfl) (by kernel_rfl) (by kernel_rfl) (fun _ _ _ h => h) (Or.inl ⟨by rfl, ?hy1⟩) h0 ?rest1
      case hy1 => (intro w' hS; (try dsimp only at hS); go_simp; try (with_reducible rfl))
      simp only [Act.put, List.getElem_toArray, List.getElem_cons_zero, List.setIfInBounds_toArray, List.set_cons_zero, List.set_cons_succ]
      refine wpAnyH_take (i := 2) (v := ?v2) rfl (by kernel_rfl) (by kernel_rfl) (by kernel_rfl) (fun _ _ _ h => h) (Or.inl ⟨by rfl, ?hy2⟩) h0 ?rest2
      case hy2 => (intro w' hS; (try dsimp only at hS); go_simp; try (with_reducible rfl))
      simp only [Act.put, List.getElem_toArray, List.getElem_cons_zero, List.getElem_cons_succ, List.setIfInBounds_toArray, List.set_cons_zero, List.set_cons_succ]
      refine wpAnyH_take (i := 3) (v := ?v3) rfl (by kernel_rfl) (by kernel_rfl) (by kernel_rfl) (fun _ _ _ h => h) (Or.inl ⟨by rfl, ?hy3⟩) h0 ?rest3
      case hy3 => (intro w' hS; (try dsimp only at hS); go_simp; try (with_reducible rfl))
      simp only [Act.put, List.getElem_toArray, List.getElem_cons_zero, List.getElem_cons_succ, List.setIfInBounds_toArray, List.set_cons_zero, List.set_cons_succ]
      refine wpAnyH_take (i := 4) (v := ?v4) rfl (by kernel_rfl) (by kernel_rfl) (by kernel_rfl) (fun _ _ _ h => h) (Or.inl ⟨by rfl, ?hy4⟩) h0 ?rest4
      case hy4 => (intro w' hS; (try dsimp only at hS); go_simp; try (with_reducible rfl))
      simp only [Act.put, List.getElem_toArray, List.getElem_cons_zero, List.getElem_cons_succ, List.setIfInBounds_toArray, List.set_cons_zero, List.set_cons_succ]
      refine wpAnyH_take (i := 5) (v := ?v5) rfl (by kernel_rfl) (by kernel_rfl) (by kernel_rfl) (fun _ _ _ h => h) (Or.inl ⟨by rfl, ?hy5⟩) h0 ?rest5
      case hy5 => (intro w' hS; (try dsimp only at hS); go_simp; try (with_reducible rfl))
      simp only [Act.put, List.getElem_toArray, List.getElem_cons_zero, List.getElem_cons_succ, List.setIfInBounds_toArray, List.set_cons_zero, List.set_cons_succ]
      refine wpAnyH_take (i := 6) (v := ?v6) rfl (by kernel_rfl) (by kernel_rfl) (by kernel_rfl) (fun _ _ _ h => h) (Or.inl ⟨by rfl, ?hy6⟩) h0 ?rest6
      case hy6 => (intro w' hS; (try dsimp only at hS); go_simp; try (with_reducible rfl))
      simp only [Act.put, List.getElem_toArray, List.getElem_cons_zero, List.getElem_cons_succ, List.setIfInBounds_toArray, List.set_cons_zero, List.set_cons_succ]
      refine wpAnyH_take (i := 8) (v := ?v7) rfl (by kernel_rfl) (by kernel_rfl) (by kernel_rfl) (fun _ _ _ h => h) (Or.inl ⟨by rfl, ?hy7⟩) h0 ?rest7
      case hy7 => (intro w' hS; (try dsimp only at hS); go_simp; try (with_reducible rfl))
      simp only [Act.put, List.getElem_toArray, List.getElem_cons_zero, List.getElem_cons_succ, List.setIfInBounds_toArray, List.set_cons_zero, List.set_cons_succ]
      refine wpAnyH_take (i := 9) (v := ?v8) rfl (by kernel_rfl) (by kernel_rfl) (by kernel_rfl) (fun _ _ _ h => h) (Or.inl ⟨by rfl, ?hy8⟩) h0 ?rest8
      case hy8 => (intro w' hS; (try dsimp only at hS); go_simp; try (with_reducible rfl))
      simp only [Act.put, List.getElem_toArray, List.getElem_cons_zero, List.getElem_cons_succ, List.setIfInBounds_toArray, List.set_cons_zero, List.set_cons_succ]
      refine wpAnyH_take (i := 10) (v := ?v9) rfl (by kernel_rfl) (by kernel_rfl) (by kernel_rfl) (fun _ _ _ h => h) (Or.inl ⟨by rfl, ?hy9⟩) h0 ?rest9
      case hy9 => (intro w' hS; (try dsimp only at hS); go_simp; try (with_reducible rfl))
      simp only [Act.put, List.getElem_toArray, List.getElem_cons_zero, List.getElem_cons_succ, List.setIfInBounds_toArray, List.set_cons_zero, List.set_cons_succ]
      refine wpAnyH_take (i := 11) (v := ?v10) rfl (by kernel_rfl) (by kernel_rfl) (by kernel_rfl) (fun _ _ _ h => h) (Or.inl ⟨by rfl, ?hy10⟩) h0 ?rest10
      case hy10 => (intro w' hS; (try dsimp only at hS); go_simp; try (with_reducible rfl))
      simp only [Act.put, List.getElem_toArray, List.getElem_cons_zero, List.getElem_cons_succ, List.setIfInBounds_toArray, List.set_cons_zero, List.set_cons_succ]
      refine wpAnyH_take (i := 12) (v := ?v11) rfl (by kernel_rfl) (by kernel_rfl) (by kernel_rfl) (fun _ _ _ h => h) (Or.inl ⟨by rfl, ?hy11⟩) h0 ?rest11
      case hy11 => (intro w' hS; (try dsimp only at hS); go_simp; try (with_reducible rfl))
      simp only [Act.put, List.getElem_toArray, List.getElem_cons_zero, List.getElem_cons_succ, List.setIfInBounds_toArray, List.set_cons_zero, List.set_cons_succ]
      refine wpAnyH_take (i := 13) (v := ?v12) rfl (by kernel_rfl) (by kernel_rfl) (by kernel_rfl) (fun _ _ _ h => h) (Or.inl ⟨by rfl, ?hy12⟩) h0 ?rest12
      case hy12 => (intro w' hS; (try dsimp only at hS); go_simp; try (with_reducible rfl))
      simp only [Act.put, List.getElem_toArray, List.getElem_cons_zero, List.getElem_cons_succ, List.setIfInBounds_toArray, List.set_cons_zero, List.set_cons_succ]
      refine wpAnyH_take (i := 14) (v := ?v13) rfl (by kernel_rfl) (by kernel_rfl) (by kernel_rfl) (fun _ _ _ h => h) (Or.inl ⟨by rfl, ?hy13⟩) h0 ?rest13
      case hy13 => (intro w' hS; (try dsimp only at hS); go_simp; try (with_reducible rfl))
      simp only [Act.put, List.getElem_toArray, List.getElem_cons_zero, List.getElem_cons_succ, List.setIfInBounds_toArray, List.set_cons_zero, List.set_cons_succ]
      refine wpAnyH_take (i := 15) (v := ?v14) rfl (by kernel_rfl) (by kernel_rfl) (by kernel_rfl) (fun _ _ _ h => h) (Or.inl ⟨by rfl, ?hy14⟩) h0 ?rest14
      case hy14 => (intro w' hS; (try dsimp only at hS); go_simp; try (with_reducible rfl))
      simp only [Act.put, List.getElem_toArray, List.getElem_cons_zero, List.getElem_cons_succ, List.setIfInBounds_toArray, List.set_cons_zero, List.set_cons_succ]
      refine wpAnyH_take (i := 16) (v := ?v15) rfl (by kernel_rfl) (by kernel_rfl) (by kernel_rfl) (fun _ _ _ h => h) (Or.inl ⟨by rfl, ?hy15⟩) h0 ?rest15
      case hy15 => (intro w' hS; (try dsimp only at hS); go_simp; try (with_reducible rfl))
      simp only [Act.put, List.getElem_toArray, List.getElem_cons_zero, List.getElem_cons_succ, List.setIfInBounds_toArray, List.set_cons_zero, List.set_cons_succ]
      refine wpAnyH_take (i := 17) (v := ?v16) rfl (by kernel_rfl) (by kernel_rfl) (by kernel_rfl) (fun _ _ _ h => h) (Or.inl ⟨by rfl, ?hy16⟩) h0 ?rest16
      case hy16 => (intro w' hS; (try dsimp only at hS); go_simp; try (with_reducible rfl))
      simp only [Act.put, List.getElem_toArray, List.getElem_cons_zero, List.getElem_cons_succ, List.setIfInBounds_toArray, List.set_cons_zero, List.set_cons_succ]
      refine wpAnyH_ready (rs := [1]) (by kernel_rfl) (by simp) (AllReadyH.cons rfl (fun K hK => ?_) AllReadyH.nil)
      rw [if_pos (by rfl)]
      go_simp
      have hb := one_more (w1 := wc) (.cells #[] 2)
      have hP := OwnI.empty wc w.heap.size (below_on HB.out Bc.out).size
      have hz := Bc.out.size
      obtain ⟨b0, hbb⟩ : ∃ b0, b0 = wc.heap.size := ⟨_, rfl⟩
      rw [← hbb] at hP hz
      obtain ⟨wn, hwn⟩ : ∃ wn, wn = wc.alloc (.cells #[] 2) := ⟨_, rfl⟩
      rw [← hwn] at hb hP ⊢
      try rw [← hbb]
      have Bc := Lib.hid (below_on Bc.out hb)
      have P0 := Lib.hid hP
      have Z0 := Lib.hid hz
      clear hb hP hz hbb hwn
      obtain ⟨wc, hwc⟩ : ∃ wc, wc = wn := ⟨_, rfl⟩
      rw [← hwc] at Bc P0 ⊢
      clear hwc
      go_simp
      refine hK.out _ _ (KS.out _ (below_on HB.out Bc.out)) (fun h0_1 => ?_)
      clear hK K h0
      refine wpAnyH_ready (rs := [7]) (by kernel_rfl) (by simp) (AllReadyH.cons rfl (fun K hK => ?_) AllReadyH.nil)
      rw [if_pos (by rfl)]
      obtain ⟨g, c9, we, hrun, ho, hg, hgb, _⟩ := appI_run P0.out (YN.out.on (below_on HB.out Bc.out)) YY.out.2.1 (by have := YY.out.1; omega) (below_on HB.out Bc.out).size 23 (c := c)
      rw [← NA.out] at hrun
      refine Lib.wp_append_run _ _ _ 23 23 rfl (.slice (some ⟨b0, 0, none⟩) 0 0) (.slice q n c) rfl rfl _ _ hrun ?_
      have hz2 := Bc.out.size
      have ZG := Lib.hid (show wr.heap.size ≤ g by have := Z0.out; omega)
      have Bc := Lib.hid (Below.grown Bc.out hg Bc.out.size (fun k hk => by have := Z0.out; injection hk with hk; omega))
      have G5 := Lib.hid ho
      clear hrun ho hg hgb hz2
      obtain ⟨wc, hwc⟩ : ∃ wc, wc = we := ⟨_, rfl⟩
      rw [← hwc] at Bc G5 ⊢
      clear hwc
      try simp only [Act.put, List.getElem_toArray, List.getElem_cons_zero, List.getElem_cons_succ, List.setIfInBounds_toArray, List.set_cons_zero, List.set_cons_succ]
      refine hK.out _ _ (KS.out _ (below_on HB.out Bc.out)) (fun h0_2 => ?_)
      clear hK K h0_1
      refine wpAnyH_take (i := 18) (v := ?v17) rfl (by kernel_rfl) (by kernel_rfl) (by kernel_rfl) (fun _ _ _ h => h) (Or.inl ⟨by rfl, ?hy17⟩) h0_2 ?rest17
      case hy17 => (intro w' hS; (try dsimp only at hS); go_simp; try (with_reducible rfl))
      simp only [Act.put, List.getElem_toArray, List.getElem_cons_zero, List.getElem_cons_succ, List.setIfInBounds_toArray, List.set_cons_zero, List.set_cons_succ]
      refine wpAnyH_ready (rs := [19]) (by kernel_rfl) (by simp) (AllReadyH.cons rfl (fun K hK => ?_) AllReadyH.nil)
      rw [if_pos (by rfl)]
      refine wp_bv1 _ rfl (AV.mk (some ⟨g, 0, none⟩) c9 a b s) (by rw [NA.out]; rfl) ?_
      have hb := one_more (w1 := wc) (.cells (AV.mk (some ⟨g, 0, none⟩) c9 a b s).cs 25)
      have hP := BkV.made wc (AV.mk (some ⟨g, 0, none⟩) c9 a b s)
      obtain ⟨b5, hbb⟩ : ∃ b5, b5 = wc.heap.size := ⟨_, rfl⟩
      rw [← hbb] at hP
      obtain ⟨wn, hwn⟩ : ∃ wn, wn = wc.alloc (.cells (AV.mk (some ⟨g, 0, none⟩) c9 a b s).cs 25) := ⟨_, rfl⟩
      rw [← hwn] at hb hP ⊢
      try rw [← hbb]
      have Bc := Lib.hid (below_on Bc.out hb)
      have P5 := Lib.hid hP
      have G5 := Lib.hid (G5.out.on hb)
      clear hb hP hbb hwn
      obtain ⟨wc, hwc⟩ : ∃ wc, wc = wn := ⟨_, rfl⟩
      rw [← hwc] at Bc P5 G5 ⊢
      clear hwc
      try simp only [Act.put, List.getElem_toArray, List.getElem_cons_zero, List.getElem_cons_succ, List.setIfInBounds_toArray, List.set_cons_zero, List.set_cons_succ]
      refine hK.out _ _ (KS.out _ (below_on HB.out Bc.out)) (fun h0_3 => ?_)
      clear hK K h0_2
      refine wpAnyH_ready (rs := [20]) (by kernel_rfl) (by simp) (AllReadyH.cons rfl (fun K hK => ?_) AllReadyH.nil)
      rw [if_pos (by rfl)]
      obtain ⟨v9, we, hrun, ho, hg, hf⟩ := appendV_run (HO.out.on Bc.out) (c := 1) P5.out.avAt (show GoodV wc (Value.ownBlock _) (AV.mk (some ⟨g, 0, none⟩) c9 a b s) from ⟨G5.out.rd, fun p e => by (cases e; exact ⟨fun k => (by have q : g < wr.heap.size := (HO.out.lt _ k).2; have := ZG.out; omega), G5.out.lt.2⟩), fun e => by (cases e), G5.out.capOk⟩) (by have := RL.out; omega) (below_on HB.out Bc.out).size 22
      refine Lib.wp_append_run _ _ _ 22 22 rfl _ (.slice (some ⟨b5, 0, none⟩) 1 1) rfl rfl _ _ hrun ?_
      have BW := Lib.hid (Below.grown (below_on HB.out Bc.out) hg (below_on HB.out Bc.out).size (fun k hk => (HO.out.lt k hk).1))
      have O9 := Lib.hid ho
      have N9 := Lib.hid (show OwnN we w.heap.size (R ++ [(AV.mk (some ⟨g, 0, none⟩) c9 a b s)]) from fun z hz => by
        rcases List.mem_append.1 hz with h | h
        · obtain ⟨g', e, o⟩ := (HN.out.on Bc.out) z h
          exact ⟨g', e, o.grownO hg ((HO.out.far z h _ e).1)⟩
        · rw [List.mem_singleton] at h; subst h
          exact ⟨g, rfl, G5.out.grownO hg (fun k => (by have q : g < wr.heap.size := (HO.out.lt _ k).2; have := ZG.out; omega))⟩)
      clear hrun ho hg hf
      try simp only [Act.put, List.getElem_toArray, List.getElem_cons_zero, List.getElem_cons_succ, List.setIfInBounds_toArray, List.set_cons_zero, List.set_cons_succ]
      refine hK.out _ _ (KS.out _ BW.out) (fun h0_4 => ?_)
      clear hK K h0_3
      refine wpAnyH_take (i := 21) (v := ?v18) rfl (by kernel_rfl) (by kernel_rfl) (by kernel_rfl) (fun _ _ _ h => h) (Or.inl ⟨by rfl, ?hy18⟩) h0_4 ?rest18
      case hy18 => (intro w' hS; (try dsimp only at hS); go_simp; try (with_reducible rfl))
      simp only [Act.put, List.getElem_toArray, List.getElem_cons_zero, List.getElem_cons_succ, List.setIfInBounds_toArray]
      try simp only [List.set_cons_succ]
      try simp only [List.set_cons_zero]
      refine wpAnyH_done (by kernel_rfl) ?_ _
      go_wp2_with fail
      go_roundw
      case rel => exact ⟨t + 1, by omega, by go_num, Lib.hid ⟨_, O9.out, by rw [HX.out, List.map_append]; rfl, N9.out, BW.out⟩⟩
      case measure => simp [intOf]; omega
    · have e : L.take t = L := List.take_of_length_le (by have := HM.out; omega)
      rw [e] at HT
      have HT2 := Lib.hid HT.out
      clear e HT
      go_wp2_with fail
      go_ret
      obtain ⟨R, h1, h2, h3, h4⟩ := HT2.out
      exact ⟨_, R, rfl, h1, h2, h3, h4⟩
end Go.Proofs.YtefpaobboimakaaGreat

namespace Go.Proofs.YtefpaobboimakaaGreat
open Go.RowKit Go.Sort Go.Shelf

/-- A list of lines that came back, in memory from W on. -/
def ResA (W A : World) (v : Value) (l : List Ln) : Prop := (v = .slice none 0 0 ∧ l = []) ∨ ∃ b n c Lr, v = .slice (some ⟨b, 0, none⟩) Lr.length c ∧ RowV A b n Lr ∧ Lr.map lnV = l ∧ W.heap.size ≤ b

theorem ResA.rd {W A : World} {v : Value} {l : List Ln} (h : ResA W A v l) : ∃ ao R c, v = .slice ao R.length c ∧ RdV A ao R ∧ R.map lnV = l := by
  rcases h with ⟨rfl, rfl⟩ | ⟨b, n, c, Lr, rfl, h, e, _⟩
  · exact ⟨none, [], 0, rfl, ⟨fun t ht => by simp at ht, fun y hy => by simp at hy⟩, rfl⟩
  · exact ⟨_, Lr, c, rfl, h.rd, e⟩

theorem ResA.on {W A B : World} {v : Value} {l : List Ln} (h : ResA W A v l) (hb : Below A.heap.size A B) : ResA W B v l := by
  rcases h with h | ⟨b, n, c, Lr, e, h, h2, h3⟩
  · exact Or.inl h
  · exact Or.inr ⟨b, n, c, Lr, e, h.on hb, h2, h3⟩

theorem RowV.asideJ {w : World} {b n : Nat} {L : List AV} (h : RowV w b n L) {k : Nat} (hk : k < b) (j : Nat) (v : Value) : RowV (w.setCell ⟨k, j, none⟩ v) b n L := by
  have far : ∀ p : Addr, p.block ≠ k → (w.setCell ⟨k, j, none⟩ v).cell? p = w.cell? p := fun p hp => World.cell?_setCell_other w ⟨k, j, none⟩ p v (fun e => hp (by rw [← e]))
  refine ⟨fun t ht j u hu => ?_, fun j hj => ?_, fun y hy => ?_, ?_⟩
  · have := h.at_ t ht j u hu
    rw [far _ (by rw [addr_add]; show b ≠ k; omega)]; exact this
  · rw [World.frozen?_setCell, far _ (by show b ≠ k; omega)]; exact h.there j hj
  · obtain ⟨g, e, hg, r⟩ := h.nums y hy
    refine ⟨g, e, hg, fun t ht => ?_⟩
    obtain ⟨p, e2, c⟩ := r t ht
    refine ⟨p, e2, ?_⟩
    have e3 : p = ⟨g, 0, none⟩ := by rw [e] at e2; injection e2 with e2; exact e2.symm
    rw [far _ (by rw [e3, addr_add]; show g ≠ k; omega)]; exact c
  · have := h.lt; simpa using this

theorem ResA.aside {W A : World} {v : Value} {l : List Ln} (h : ResA W A v l) {k : Nat} (hk : k < W.heap.size) (j : Nat) (y : Value) : ResA W (A.setCell ⟨k, j, none⟩ y) v l := by
  rcases h with h | ⟨b, n, c, Lr, e, h, h2, h3⟩
  · exact Or.inl h
  · exact Or.inr ⟨b, n, c, Lr, e, h.asideJ (by omega) j y, h2, h3⟩

def leftL (n I : Int) (L : List AV) : List Ln := if rwE n L I = 0 then leaveLr n.toNat (L.map lnV) I.toNat else []

theorem without_res {n I : Int} {L R : List AV} (ro : Option Addr) (rc : Nat) (w : World) (hR : RdV w ro R) (h : R.map lnV = L.map lnV) :
    Calls Tryz.prog 13 #[.int .i64 n, .slice ro R.length rc, .int .i64 I] w (fun e w' => ∃ v, e = .returned (.tuple #[v, .int .i64 (rwE n L I)]) ∧ ResA w w' v (leftL n I L) ∧ Below w.heap.size w w') := by
  refine (without_any n I R ro rc w hR).mono ?_
  rintro e w' ⟨hb, (⟨he, W, v, hW, rfl, hv⟩ | ⟨he, rfl⟩)⟩
  · rw [woE_rwE h] at he
    refine ⟨v, by rw [he], ?_, hb⟩
    obtain ⟨b, Lr, rfl, h1, h2, h3⟩ := hv
    have hc : chkP n L = 0 := by
      unfold rwE at he
      by_cases q : chkP n L = 0
      · exact q
      · rw [if_neg q] at he; exact absurd he q
    have hi : 0 ≤ I ∧ I < n := by
      unfold rwE at he
      rw [if_pos hc] at he
      by_cases q : 0 ≤ I ∧ I < n
      · exact q
      · rw [if_neg q] at he; cases he
    have hm := isCh_map h1
    rw [woL_rwL h hc hi] at hm
    have hl : Lr.length = (leaveL (R.map ofV) I.toNat).length := by have := congrArg List.length h1; simpa using this
    refine Or.inr ⟨b, _, _, Lr, by rw [hl], h2, ?_, ?_⟩
    · rw [hm]; unfold leftL; rw [if_pos he]
    · exact Nat.le_trans hW.size h3
  · rw [woE_rwE h] at he ⊢
    exact ⟨_, rfl, Or.inl ⟨rfl, by unfold leftL; rw [if_neg he]⟩, hb⟩

theorem rwithout_res (n I : Int) (L : List AV) (ao : Option Addr) (cap : Nat) (w : World) (hR : RdV w ao L) (hY : ∀ y ∈ L, y.a.length ≤ 1000000 ∧ NilOk y) :
    Calls Tryz.prog 15 #[.int .i64 n, .slice ao L.length cap, .int .i64 I] w (fun e w' => ∃ bo Lb cb, e = .returned (.tuple #[.slice bo Lb.length cb, .int .i64 (rwE n L I)]) ∧ RdV w' bo Lb ∧ Lb.map lnV = leftL n I L ∧ Below w.heap.size w w') := by
  refine (rwithout_any n I L ao cap w hR hY).mono ?_
  rintro e w' (⟨he, v, R, rfl, hO, hm, hb⟩ | ⟨he, rfl, hb⟩)
  · obtain ⟨bo, cb, rfl, h1, _⟩ := hO.read
    exact ⟨bo, R, cb, by rw [he], h1, by rw [hm]; unfold leftL; rw [if_pos he], hb⟩
  · exact ⟨none, [], 0, rfl, ⟨fun t ht => by simp at ht, fun y hy => by simp at hy⟩, by unfold leftL; rw [if_neg he]; rfl, hb⟩

/-- While the law writes into its own copy R (at ro): what lay in memory at first; the headers; the numbers that are written; what came back. -/
structure LoopI (w W wr : World) (ro : Option Addr) (R : List AV) (v : Value) (l : List Ln) : Prop where
  be : Below w.heap.size w wr
  hd : ∀ t, ∀ h : t < R.length, ∃ p, ro = some p ∧ AvAt wr (p.add (t * 3)) R[t]
  wt : ∀ y ∈ R, ∃ g, y.q = some ⟨g, 0, none⟩ ∧ w.heap.size ≤ g ∧ g < W.heap.size ∧ (∀ p, ro = some p → p.block ≠ g) ∧ ∀ j, j < y.a.length → (wr.cell? ⟨g, j, none⟩).isSome = true ∧ wr.frozen? ⟨g, j, none⟩ = false
  res : ResA W wr v l

theorem AvAt.aside {w : World} {p : Addr} {y : AV} (h : AvAt w p y) {g j : Nat} (hne : p.block ≠ g) (v : Value) : AvAt (w.setCell ⟨g, j, none⟩ v) p y := fun i u hu => by
  have := h i u hu
  rw [World.cell?_setCell_other w ⟨g, j, none⟩ _ v (fun e => hne (by have := congrArg Addr.block e; rw [add_block] at this; exact this.symm))]
  exact this

theorem LoopI.put {w W wr : World} {ro : Option Addr} {R : List AV} {v : Value} {l : List Ln} (h : LoopI w W wr ro R v l) {y : AV} (hy : y ∈ R) {g : Nat} (hg : y.q = some ⟨g, 0, none⟩) (j : Nat) (x : Value) : LoopI w W (wr.setCell ⟨g, j, none⟩ x) ro R v l := by
  obtain ⟨g', e, h1, h2, h3, _⟩ := h.wt y hy
  rw [hg] at e
  cases e
  refine ⟨h.be.setCell (p := ⟨g, j, none⟩) h1 _, fun t ht => ?_, fun z hz => ?_, h.res.aside h2 j x⟩
  · obtain ⟨p, e, c⟩ := h.hd t ht
    exact ⟨p, e, c.aside (by rw [add_block]; exact h3 p e) x⟩
  · obtain ⟨g', e, k1, k2, k3, k4⟩ := h.wt z hz
    refine ⟨g', e, k1, k2, k3, fun i hi => ?_⟩
    rw [World.frozen?_setCell]
    exact ⟨World.isSome_setCells g [x] j wr _ (k4 i hi).1, (k4 i hi).2⟩

theorem LoopI.start {w W W' : World} {B : Nat} {ro : Option Addr} {rc : Nat} {R : List AV} {v : Value} {l : List Ln} (hO : OwnV W B (.slice ro R.length rc) R) (hN : OwnN W B R) (hB : w.heap.size ≤ B) (hb : Below w.heap.size w W) (hW : Below W.heap.size W W') (hr : ResA W W' v l) : LoopI w W W' ro R v l := by
  refine ⟨below_on hb hW, fun t ht => ?_, fun y hy => ?_, hr⟩
  · obtain ⟨ao, cap, e, rd, _⟩ := hO.read
    cases e
    obtain ⟨p, e, c⟩ := rd.at_ t ht
    exact ⟨p, e, c.on hW⟩
  · obtain ⟨g, e, o⟩ := hN y hy
    have := o.lt
    refine ⟨g, e, by omega, this.2, fun p ep q => ?_, fun j hj => ?_⟩
    · have hf := (hO.far y hy _ e).1
      subst ep
      exact hf (by simpa [Value.ownBlock] using q)
    · have o2 := o.on hW
      exact ⟨by rw [o2.at hj]; rfl, o2.free j⟩
end Go.Proofs.YtefpaobboimakaaGreat

namespace Go.Proofs.YtefpaobboimakaaGreat
open Go.RowKit Go.Sort Go.Shelf

theorem case_agg (w : World) : (isAgg 28).run Tryz.prog w = .ok true w := by
  unfold isAgg; rw [Sem.run_bind, run_underlying Tryz.underlying28 w]; simp

theorem case_size : (Tryz.prog.info? 28).map (·.size) = some 9 := by kernel_rfl

theorem wpl_loadC {t : TypeId} {cs : List Value} (ha : ∀ w, (isAgg t).run Tryz.prog w = .ok true w) (hz : (Tryz.prog.info? t).map (·.size) = some cs.length) {w : World} {ops : Array Oper} {rest : List Oper} {o : Oper} {a : Act} {Q : Exit → Act → World → Prop} (hgd : o.guard = none) (s : Operand) (ho : o.op = .load t s) (p : Addr) (hs : a.eval s = .pointer (some p)) (hx : CsAt w p cs)
    (h : wpList Tryz.prog ops Q rest (a.put o.dst (.agg ⟨cs⟩)) w) : wpList Tryz.prog ops Q (o :: rest) a w :=
  wpList_plain hgd fun K hK => by
    have hv := cs_loadP (cs := cs) ha hz hx
    unfold Oper.wp execOp
    simp only [ho, hs, Instr.loadAt, Instr.sureAddr, Sem.run_bind, Sem.run_pure, Result.andThen_ok, hv]
    exact hK _ _ h

theorem rwE_zero {n I : Int} {L : List AV} (h : rwE n L I = 0) : chkP n L = 0 ∧ (0 ≤ I ∧ I < n) ∧ leaveEr n.toNat (L.map lnV) I.toNat = 0 := by
  unfold rwE at h
  by_cases q : chkP n L = 0
  · rw [if_pos q] at h
    by_cases q2 : 0 ≤ I ∧ I < n
    · rw [if_pos q2] at h; exact ⟨q, q2, h⟩
    · rw [if_neg q2] at h; cases h
  · rw [if_neg q] at h; exact absurd h q

theorem leftL_ok {n I : Int} {L : List AV} (hL : ∀ y ∈ L, y.a.length ≤ 20) : (leftL n I L).length ≤ 100000 ∧ ∀ x ∈ leftL n I L, x.a.length ≤ 1000000 := by
  unfold leftL
  by_cases h : rwE n L I = 0
  · rw [if_pos h]
    obtain ⟨hc, hi, he⟩ := rwE_zero h
    obtain ⟨⟨_, n5⟩, _, _⟩ := chk_valid hc
    have hk : ∀ x ∈ L.map lnV, x.a.length ≤ 20 := fun x hx => by
      obtain ⟨y, hy, rfl⟩ := List.mem_map.1 hx
      exact hL y hy
    have h1 : (zrs (L.map lnV) I.toNat).length + (ups (L.map lnV) I.toNat).length * (dns (L.map lnV) I.toNat).length ≤ 1000 := by
      unfold leaveEr at he
      by_cases q : 1000 < (zrs (L.map lnV) I.toNat).length + (ups (L.map lnV) I.toNat).length * (dns (L.map lnV) I.toNat).length
      · rw [if_pos q] at he; cases he
      · omega
    unfold leaveLr
    have hall : ∀ x ∈ (zrs (L.map lnV) I.toNat).map (shR I.toNat) ++ sumsR (L.map lnV) I.toNat, x.a.length ≤ 20 := fun x hx => by
      rcases List.mem_append.1 hx with q | q
      · obtain ⟨z, hz, rfl⟩ := List.mem_map.1 q
        have := hk z (List.mem_filter.1 hz).1
        exact Nat.le_trans (List.length_eraseIdx_le _ _) this
      · unfold sumsR at q
        obtain ⟨pr, hp, rfl⟩ := List.mem_map.1 q
        obtain ⟨p1, p2⟩ := mem_prs hp
        have := hk pr.1 (List.mem_filter.1 p1).1
        unfold sumRf
        rw [lowR_len]
        refine Nat.le_trans (List.length_eraseIdx_le _ _) ?_
        unfold combR
        simp; omega
    have hlen : ((zrs (L.map lnV) I.toNat).map (shR I.toNat) ++ sumsR (L.map lnV) I.toNat).length ≤ 1000 := by
      rw [List.length_append, List.length_map]
      unfold sumsR
      rw [List.length_map, prs_len]; exact h1
    generalize (zrs (L.map lnV) I.toNat).map (shR I.toNat) ++ sumsR (L.map lnV) I.toNat = K at *
    unfold tidR
    split
    · refine ⟨by simp, fun x hx => ?_⟩
      rw [List.mem_singleton] at hx
      subst hx
      simp; omega
    · refine ⟨?_, fun x hx => ?_⟩
      · refine Nat.le_trans (insL_len _) ?_
        unfold keepR
        refine Nat.le_trans (List.length_filter_le _ _) ?_
        simp; omega
      · have hx2 := (((insL_ok (keepR K)).2 x).1 hx).1
        unfold keepR at hx2
        obtain ⟨z, hz, rfl⟩ := List.mem_map.1 (List.mem_filter.1 hx2).1
        rw [lowR_len]
        have := hall z hz
        omega
  · rw [if_neg h]
    exact ⟨by simp, fun x hx => by simp at hx⟩

set_option maxRecDepth 100000 in
set_option maxHeartbeats 8000000 in
theorem leaves_any (N I xb : Int) (xs : Bool) (L M : List AV) (xa aa : List Int) (P : List Pq) (la ma xq pa aq : Option Addr) (lc mc xc pc ac : Nat) (w : World) (hR : RdV w la L) (hS : RdV w ma M) (hL : ∀ y ∈ L, NilOk y) :
    Calls Tryz.prog 3 #[.agg #[.int .i64 N, .slice la L.length lc, .slice ma M.length mc, .slice xq xa.length xc, .int .i64 xb, .bool xs, .int .i64 I, .slice pa P.length pc, .slice aq aa.length ac]] w (Made (.bool true) w) := by
  obtain ⟨l1, e1⟩ : ∃ n, n = L.length := ⟨_, rfl⟩
  obtain ⟨l2, e2⟩ : ∃ n, n = M.length := ⟨_, rfl⟩
  obtain ⟨l3, e3⟩ : ∃ n, n = xa.length := ⟨_, rfl⟩
  obtain ⟨l4, e4⟩ : ∃ n, n = P.length := ⟨_, rfl⟩
  obtain ⟨l5, e5⟩ : ∃ n, n = aa.length := ⟨_, rfl⟩
  obtain ⟨w0, hw0⟩ : ∃ w0, w0 = w.alloc (.cells #[.int .i64 N, .slice la l1 lc, .slice ma l2 mc, .slice xq l3 xc, .int .i64 xb, .bool xs, .int .i64 I, .slice pa l4 pc, .slice aq l5 ac] 28) := ⟨_, rfl⟩
  have E0 := Lib.hid (show Below w.heap.size w w0 by rw [hw0]; exact one_more _)
  have hq := heap_alloc_last w (.cells #[.int .i64 N, .slice la l1 lc, .slice ma l2 mc, .slice xq l3 xc, .int .i64 xb, .bool xs, .int .i64 I, .slice pa l4 pc, .slice aq l5 ac] 28)
  rw [← hw0] at hq
  have D0 := Lib.hid (show w0.cell? ⟨w.heap.size, 0, none⟩ = some (.int .i64 N) by rw [cell_of_row w0 _ 0 _ _ _ hq]; rfl)
  have D1 := Lib.hid (show w0.cell? ⟨w.heap.size, 1, none⟩ = some (.slice la l1 lc) by rw [cell_of_row w0 _ 1 _ _ _ hq]; rfl)
  have D6 := Lib.hid (show w0.cell? ⟨w.heap.size, 6, none⟩ = some (.int .i64 I) by rw [cell_of_row w0 _ 6 _ _ _ hq]; rfl)
  have C0 := Lib.hid (show CsAt w0 ⟨w.heap.size, 0, none⟩ [.int .i64 N, .slice la l1 lc, .slice ma l2 mc, .slice xq l3 xc, .int .i64 xb, .bool xs, .int .i64 I, .slice pa l4 pc, .slice aq l5 ac] from fun j v hv => by
    rw [addr_add, Nat.zero_add, cell_of_row w0 _ j _ _ _ hq]; simpa using hv)
  have BY := Lib.hid (beyond_any N I 60 xb xs L M xa aa P la ma xq pa aq lc mc xc pc ac w0 (hR.on E0.out) (hS.on E0.out))
  rw [← e1, ← e2, ← e3, ← e4, ← e5] at BY
  rw [← e1, ← e2, ← e3, ← e4, ← e5]
  have L1 := Lib.hid e1
  have HR := Lib.hid (hR.on E0.out)
  have HL := Lib.hid hL
  have LL := Lib.hid (show w.heap.size < w0.heap.size by rw [hw0]; simp)
  clear hR hS hL hq e1 e2 e3 e4 e5
  go_enter Tryz.func3, Tryz.ntmps3
  go_upto_region 1 with (fail)
  rw [← hw0]
  clear hw0
  go_wp2_with (refine wpl_loadC case_agg (by exact case_size) rfl _ rfl _ rfl C0.out ?_)
  refine BY.out.mono ?_
  rintro e w1 ⟨b, rfl, hb, hF⟩
  have B1 := Lib.hid hb
  have FK := Lib.hid hF
  clear hb hF BY C0
  cases b
  case true =>
    go_wp2_with fail
    refine (shown_any w1).mono ?_
    rintro e w2 ⟨rfl, hb⟩
    have B2 := Lib.hid (below_on E0.out (below_on B1.out hb))
    clear hb
    go_wp2_with fail
    go_ret
    exact ⟨rfl, B2.out⟩
  obtain ⟨⟨q1, q2, _⟩, _⟩ := FK.out (by first | rfl | trivial)
  have YL := Lib.hid q2
  have l2000 : l1 ≤ 2000 := by rw [L1.out]; exact q1
  have LT := Lib.hid (lent_any L la lc w1 (HR.out.on B1.out) (by omega) (fun y hy => ⟨by have := q2 y hy; omega, HL.out y hy⟩))
  rw [← L1.out] at LT
  have c1 := kept B1.out D1.out
  clear FK q1 q2
  go_wp2_with fail
  refine LT.out.mono ?_
  rintro e w2 ⟨v, R, rfl, hO, hm, hN, hb⟩
  obtain ⟨ro, rc, rfl, hr, _⟩ := hO.read
  obtain ⟨nr, hnr⟩ : ∃ nr, nr = R.length := ⟨_, rfl⟩
  have NR := Lib.hid hnr
  have NL := Lib.hid (show R.length = L.length by have := congrArg List.length hm; simpa using this)
  have HM := Lib.hid hm
  have HO := Lib.hid hO
  have HN := Lib.hid hN
  have RR := Lib.hid hr
  have B2 := Lib.hid (below_on B1.out hb)
  have ZB := Lib.hid B1.out.size
  have RY := Lib.hid (show ∀ y ∈ R, y.a.length ≤ 20 from fun y hy => by
    have h1 : lnV y ∈ L.map lnV := by rw [← hm]; exact List.mem_map.2 ⟨y, hy, rfl⟩
    obtain ⟨z, hz, e⟩ := List.mem_map.1 h1
    have h2 := (lnV_eq.1 e).1
    rw [← h2]; exact YL.out z hz)
  obtain ⟨kk, hkk⟩ : ∃ kk, kk = chkP N L := ⟨_, rfl⟩
  have CK := Lib.hid (check_any N R ro rc w2 hr)
  rw [chkP_map hm, ← hkk, ← hnr] at CK
  obtain ⟨er, her⟩ : ∃ er, er = rwE N L I := ⟨_, rfl⟩
  obtain ⟨lf, hlf⟩ : ∃ lf, lf = leftL N I L := ⟨_, rfl⟩
  have WO := Lib.hid (fun W (h : Below w2.heap.size w2 W) => without_res (n := N) (I := I) ro rc W (hr.on h) hm)
  rw [← her, ← hlf, ← hnr] at WO
  have RW := Lib.hid (fun W (h : Below w0.heap.size w0 W) => rwithout_res N I L la lc W (HR.out.on h) (fun y hy => ⟨by have := YL.out y hy; omega, HL.out y hy⟩))
  rw [← her, ← hlf, ← L1.out] at RW
  have LO := Lib.hid (show lf.length ≤ 100000 ∧ ∀ x ∈ lf, x.a.length ≤ 1000000 by rw [hlf]; exact leftL_ok YL.out)
  have RC := Lib.hid (fun W (h : Below w0.heap.size w0 W) => rcheck_any N L la lc W (HR.out.on h) (fun y hy => by have := YL.out y hy; omega))
  rw [← hkk, ← L1.out] at RC
  rw [← hnr]
  have c0 := kept B2.out D0.out
  clear hm hO hN hr hb hkk her hlf hnr c1
  go_wp2_with fail
  refine CK.out.mono ?_
  rintro e w3 ⟨rfl, hb⟩
  have B23 := Lib.hid hb
  have B3 := Lib.hid (below_on B2.out hb)
  have c0 := kept B3.out D0.out
  have c6 := kept B3.out D6.out
  clear hb CK
  go_wp2_with fail
  refine (WO.out w3 B23.out).mono ?_
  rintro e w4 ⟨v5, rfl, hA, hb⟩
  have HA := Lib.hid hA
  have B34 := Lib.hid hb
  have B4 := Lib.hid (below_on B3.out hb)
  have SA := Lib.hid (same_any R L ro la rc lc w4 ((RR.out.on B23.out).on hb) (HR.out.on B4.out) (by have := NL.out; have := L1.out; omega) (fun y hy => by have := RY.out y hy; omega))
  rw [decide_eq_true HM.out, ← NR.out, ← L1.out] at SA
  have c1 := kept B4.out D1.out
  clear hA hb WO c0 c6
  go_wp2_with fail
  refine SA.out.mono ?_
  rintro e w5 ⟨rfl, hb⟩
  have hO3 := HO.out.on B23.out
  have hN3 := HN.out.on B23.out
  have LI := Lib.hid (LoopI.start (w := w0) hO3 hN3 ZB.out B3.out (below_on B34.out hb) (HA.out.on hb))
  have nr2 : nr ≤ 2000 := by rw [NR.out, NL.out, ← L1.out]; exact l2000
  clear hb SA hO3 hN3 HO HN HA c1
  go_wp2_with fail
  go_loopw [7] (fun s wr => ∃ t : Nat, s = .int .i64 t ∧ t ≤ nr ∧ Hid (LoopI w0 w3 wr ro R v5 lf)) (fun s _ => nr - (intOf s).toNat)
  case atStart => exact ⟨0, rfl, by omega, LI⟩
  case round =>
    clear LI
    obtain ⟨t, rfl, ht, HI⟩ := hrel
    generalize wr = wo at *
    by_cases htn : t < nr
    · have hlt : t < R.length := by have := NR.out; omega
      obtain ⟨p, hp, zz1⟩ := HI.out.hd t hlt
      obtain ⟨g, yq, zz2⟩ := HI.out.wt _ (List.getElem_mem hlt)
      clear zz1 zz2
      have YQ := Lib.hid yq
      obtain ⟨m9, hm9⟩ : ∃ m9, m9 = R[t].a.length := ⟨_, rfl⟩
      have M9 := Lib.hid hm9
      have m20 : m9 ≤ 20 := by rw [hm9]; exact RY.out _ (List.getElem_mem hlt)
      obtain ⟨yc, hyc⟩ : ∃ yc, yc = R[t].c := ⟨_, rfl⟩
      have HDR := Lib.hid (show ∀ W, LoopI w0 w3 W (some p) R v5 lf → W.cell? (p.add (t * 3)) = some (.slice (some ⟨g, 0, none⟩) m9 yc) from fun W h => by
        obtain ⟨p', e, c⟩ := h.hd t hlt
        cases e
        rw [c.first, YQ.out, ← hm9, ← hyc])
      have WRT := Lib.hid (show ∀ W j, LoopI w0 w3 W (some p) R v5 lf → j < m9 → (∃ v, W.cell? ⟨g, j, none⟩ = some v) ∧ W.frozen? ⟨g, j, none⟩ = false from fun W j h hj => by
        obtain ⟨g', e, _, _, _, h5⟩ := h.wt _ (List.getElem_mem hlt)
        rw [YQ.out] at e
        cases e
        have := h5 j (by rw [← hm9]; exact hj)
        exact ⟨Option.isSome_iff_exists.1 this.1, this.2⟩)
      have PUT := Lib.hid (show ∀ W j x, LoopI w0 w3 W (some p) R v5 lf → LoopI w0 w3 (W.setCell ⟨g, j, none⟩ x) (some p) R v5 lf from fun W j x h => h.put (List.getElem_mem hlt) YQ.out j x)
      subst hp
      clear YQ M9 hm9 hyc yq hlt
      go_wp2_with fail
      go_loopw [8] (fun s wi => ∃ j : Nat, s = .int .i64 j ∧ j ≤ m9 ∧ Hid (LoopI w0 w3 wi (some p) R v5 lf)) (fun s _ => m9 - (intOf s).toNat)
      case atStart => exact ⟨0, rfl, by omega, HI⟩
      case round =>
        clear HI
        obtain ⟨j, rfl, hj, HJ⟩ := hrel
        have h0 := HDR.out _ HJ.out
        by_cases hjm : j < m9
        · obtain ⟨⟨x, s1⟩, s2⟩ := WRT.out _ j HJ.out hjm
          have H2 := Lib.hid (PUT.out _ j (.int .i64 99) HJ.out)
          go_wp2_with fail
          go_roundw
          case rel => exact ⟨j + 1, by go_num, by omega, H2⟩
          case measure => simp [intOf]; omega
        · go_wp2_with fail
          go_roundw
          case rel => exact ⟨t + 1, by go_num, by omega, HJ⟩
          case measure => simp [intOf]; omega
    · have B6 := Lib.hid HI.out.be
      obtain ⟨av, Lr, ca, e5, ra, em⟩ := HI.out.res.rd
      have c0 := kept B6.out D0.out
      have c1 := kept B6.out D1.out
      have c6 := kept B6.out D6.out
      have RA := Lib.hid ra
      have EM := Lib.hid em
      obtain ⟨n6, hn6⟩ : ∃ n6, n6 = Lr.length := ⟨_, rfl⟩
      have N6 := Lib.hid hn6
      rw [← hn6] at e5
      subst e5
      clear ra em hn6
      go_wp2_with fail
      refine (RW.out wo B6.out).mono ?_
      rintro e w7 ⟨bo, Lb, cb, rfl, rb, eb, hb⟩
      have RB := Lib.hid rb
      have EB := Lib.hid eb
      have B67 := Lib.hid hb
      have B7 := Lib.hid (below_on B6.out hb)
      have c0 := kept B7.out D0.out
      have c1 := kept B7.out D1.out
      obtain ⟨n7, hn7⟩ : ∃ n7, n7 = Lb.length := ⟨_, rfl⟩
      have N7 := Lib.hid hn7
      rw [← hn7]
      clear rb eb hb hn7 RW c6
      go_wp2_with fail
      refine (RC.out w7 B7.out).mono ?_
      rintro e w8 ⟨rfl, hb⟩
      have B8 := Lib.hid (below_on B7.out hb)
      have LB := Lib.hid (show Lr.map lnV = Lb.map lnV by rw [EM.out, EB.out])
      have SB := Lib.hid (same_any Lr Lb av bo ca cb w8 (RA.out.on (below_on B67.out hb)) (RB.out.on hb) (by have := congrArg List.length EM.out; rw [List.length_map] at this; rw [this]; exact LO.out.1) (fun y hy => LO.out.2 (lnV y) (by rw [← EM.out]; exact List.mem_map.2 ⟨y, hy, rfl⟩)))
      rw [decide_eq_true LB.out, ← N6.out, ← N7.out] at SB
      clear hb c0 c1 RC
      go_wp2_with fail
      refine SB.out.mono ?_
      rintro e w9 ⟨rfl, hb⟩
      have B9 := Lib.hid (below_on B8.out hb)
      clear hb SB
      go_wp2_with fail
      refine (shown_any w9).mono ?_
      rintro e w10 ⟨rfl, hb⟩
      have B10 := Lib.hid (below_on E0.out (below_on B9.out hb))
      clear hb
      go_wp2_with fail
      go_ret
      exact ⟨rfl, B10.out⟩
end Go.Proofs.YtefpaobboimakaaGreat

namespace Go.Proofs.YtefpaobboimakaaGreat
open Go.ChangeShapes Go.WideShapes Go.ChangeAt Go.RowKit Go.Joins Go.Deep

theorem Tryz.own : ownKnob Tryz.prog.godebug = none := by kernel_rfl

theorem Tryz.laidOut : laidOutB Tryz.prog = true := by kernel_rfl

theorem trodAll_stays {H : Type} {enc : TypeId × Value → H} {W W' : World} {sp : Nat → Bool} : ∀ {ts : List TypeId} {vs : List Value} {ds : List (DataW H)} {ps : List MemPlace}, (∀ t ∈ ts, Tryz.prog.readableRec t = true ∧ t < Tryz.prog.types.size) →
    DataW.TrodAll enc Tryz.prog W 0 (fun _ => true) true ts vs ds ps → (∀ p ∈ ps, W.sameAt W' p) → (∀ p ∈ ps, sp p.block = true) → DataW.TrodAll enc Tryz.prog W' 0 sp true ts vs ds ps
  | [], [], [], _, _, h, _, _ => h
  | [], [], _ :: _, _, _, h, _, _ => h.elim
  | [], _ :: _, _, _, _, h, _, _ => h.elim
  | _ :: _, [], _, _, _, h, _, _ => h.elim
  | _ :: _, _ :: _, [], _, _, h, _, _ => h.elim
  | t :: ts, v :: vs, d :: ds, ps, ht, h, h1, h2 => by
    obtain ⟨p, q, ha, hb, rfl⟩ := h
    obtain ⟨r1, r2⟩ := ht t (List.mem_cons_self ..)
    exact ⟨p, q, WideElems.Trod_stays Tryz.laidOut r1 r2 ha (fun x hx => h1 x (List.mem_append_left _ hx)) (fun x hx => h2 x (List.mem_append_left _ hx)),
      trodAll_stays (fun t ht' => ht t (List.mem_cons_of_mem _ ht')) hb (fun x hx => h1 x (List.mem_append_right _ hx)) (fun x hx => h2 x (List.mem_append_right _ hx)), rfl⟩

set_option maxRecDepth 100000 in
/-- The last step of a law: it has returned true; its arguments read as they did, for the call has only made memory. -/
theorem post_law {H : Type} {enc : TypeId × Value → H} {f : Func} {s : ChangeSpec} {apart fresh handsOn again : Bool} {W W' : World} {args : Array Value} {ds gs : List (DataW H)} {before : List MemPlace}
    (hW : DataW.Whole enc Tryz.prog f.params.toList s.vars apart W args.toList ds gs before) (hv : s.vars = []) (hb : Below W.heap.size W W')
    (ht : ∀ t ∈ f.params.toList, Tryz.prog.readableRec t = true ∧ t < Tryz.prog.types.size)
    (hr : f.resultTypes.toList = [4]) (hs : f.resultTypes.size = 1) (hs1 : f.resultTypes[0]? = some 4)
    (hres : (s.fn H ds).results = [.lit (.bool true)]) (hargs : (s.fn H ds).args = ds) (hvars : (s.fn H ds).vars = []) :
    s.post enc Tryz.prog f apart fresh handsOn again W args (.bool true) W' := by
  have hlt : ∀ p ∈ before, p.block < W.heap.size := fun p hp => hW.lt p hp
  have hW0 := hW
  obtain ⟨p, q, hA, hV, rfl, hz, hn⟩ := hW
  rw [hv] at hV
  obtain ⟨rfl, rfl⟩ := trodVars_none hV
  simp only [List.append_nil] at hlt hz hn hW0
  have key : ∀ sp : Nat → Bool, (∀ x ∈ p, sp x.block = true) → DataW.TrodAll enc Tryz.prog W' 0 sp true f.params.toList args.toList ds p := fun sp hsp =>
    trodAll_stays ht hA (fun x hx => hb.same (hlt x hx)) hsp
  have res : ∀ (b : Nat) (sp : Nat → Bool) (hd : Bool), DataW.TrodAll enc Tryz.prog W' b sp hd f.resultTypes.toList ((Value.bool true).resultList f.resultTypes.size) [.lit (.bool true)] [] := fun b sp hd => by
    rw [hr, hs]
    exact trodAll_mk1 (shut_bool Tryz.underlying4 _)
  have none : ∀ sp : Nat → Bool, DataW.TrodVars enc Tryz.prog W' sp s.vars (s.fn H (ds ++ [])).vars [] := fun sp => by
    rw [hv, List.append_nil, hvars]; rfl
  have kA : ∀ sp : Nat → Bool, (∀ x ∈ p, sp x.block = true) → DataW.TrodAll enc Tryz.prog W' 0 sp true f.params.toList args.toList (s.fn H (ds ++ [])).args p := fun sp hsp => by
    rw [List.append_nil, hargs]; exact key sp hsp
  have kR : ∀ (b : Nat) (sp : Nat → Bool) (hd : Bool), DataW.TrodAll enc Tryz.prog W' b sp hd f.resultTypes.toList ((Value.bool true).resultList f.resultTypes.size) (s.fn H (ds ++ [])).results [] := fun b sp hd => by
    rw [List.append_nil, hres]; exact res b sp hd
  refine ⟨ds, [], p, [], p, [], by simpa using hW0, kR _ _ _, ?_, none _, ?_, fun _ => ?_⟩
  · exact kA _ (fun x hx => by simpa using hlt x hx)
  · exact World.keptBut_mono (fun x hx => ⟨hx, by simpa using hx⟩) (hb.frame (· ∈ p))
  · refine ⟨?_, _, _, ([] ++ p) ++ [], ⟨[] ++ p, [], trodAll_append (kA _ (fun _ _ => rfl)) (kR _ _ _), none _, rfl, ?_, ?_⟩, ?_⟩
    · intro j t r h1 h2
      rw [hs] at h2
      cases j with
      | zero =>
        rw [hs1] at h1
        simp [Value.resultList] at h2
        subst h2
        have e := Option.some.inj h1
        rw [← e]
        exact okWide_bool_mk Tryz.underlying4 _
      | succ j => rw [Array.getElem?_eq_none (by omega)] at h1; cases h1
    · intro b off hp
      have hin : MemPlace.cell b off ∈ p := by simpa using hp
      rw [hb.frozen (hlt _ hin)]
      exact hz b off hin
    · intro ha
      simpa using hn ha
    · intro x hx _
      simpa using hx

theorem Tryz.cells3 : Tryz.prog.cellsOf 3 = 1 := by kernel_rfl

theorem Tryz.cells2 : Tryz.prog.cellsOf 2 = 1 := by kernel_rfl

theorem Tryz.cells4 : Tryz.prog.cellsOf 4 = 1 := by kernel_rfl

theorem Tryz.cells23 : Tryz.prog.cellsOf 23 = 1 := by kernel_rfl

theorem Tryz.cells25 : Tryz.prog.cellsOf 25 = 3 := by kernel_rfl

theorem Tryz.cells22 : Tryz.prog.cellsOf 22 = 1 := by kernel_rfl

theorem Tryz.cells26 : Tryz.prog.cellsOf 26 = 1 := by kernel_rfl

theorem Tryz.cells50 : Tryz.prog.cellsOf 50 = 2 := by kernel_rfl

theorem Tryz.cells28 : Tryz.prog.cellsOf 28 = 9 := by kernel_rfl

theorem wf_i64 {n : Int} (h : (Lit.int .i64 n).wf = true) : I64 n := by
  simp [Lit.wf, IntKind.min, IntKind.max, IntKind.signed, IntKind.bits] at h
  exact ⟨by omega, by omega⟩

/-- A slice of integers. -/
theorem open_longs {H : Type} {enc : TypeId × Value → H} {W : World} {base fuel : Nat} {sp : Nat → Bool} {held : Bool} {c : Value} {y : DataW H × List MemPlace}
    (h : DataW.trod enc Tryz.prog W base sp held fuel 23 [c] = some y) : ∃ (q : Option Addr) (l : List Int) (cap : Nat), c = .slice q l.length cap ∧ Rd1 W q l ∧ (q = none → l = [] ∧ cap = 0) ∧ l.length ≤ cap ∧ cap ≤ maxLen ∧ ∀ v ∈ l, I64 v := by
  rcases open_ints Tryz.underlying23 Tryz.underlying2 Tryz.cells2 h with ⟨e, _⟩ | ⟨a, len, cap, zs, e, _, hl, hm, hz, _, hc, hwf⟩
  · simp at e
    exact ⟨none, [], 0, by simpa using e, fun t ht => by simp at ht, fun _ => ⟨rfl, rfl⟩, by simp, by simp, by simp⟩
  · simp at e
    have hlen : len ≤ zs.length := by rw [hz]; split <;> omega
    refine ⟨some a, zs.take len, cap, by rw [e]; simp [hlen], fun t ht => ⟨a, rfl, ?_⟩, fun q => by (cases q), by simp; omega, hm, fun v hv => wf_i64 (hwf v (List.mem_of_mem_take hv))⟩
    simp at ht
    rw [hc t (by omega)]
    simp [gA, show t < len by omega]

/-- What is asked of a line that came in. -/
def LineIn (W : World) (y : AV) : Prop := Rd1 W y.q y.a ∧ NilOk y ∧ (∀ v ∈ y.a, I64 v) ∧ I64 y.b

set_option maxRecDepth 100000 in
/-- A line's three cells. -/
theorem trod_line {H : Type} {enc : TypeId × Value → H} {W : World} {base fuel : Nat} {sp : Nat → Bool} {held : Bool} {cs : List Value} {y : DataW H × List MemPlace}
    (h : DataW.trod enc Tryz.prog W base sp held fuel 25 cs = some y) : ∃ x : AV, cs = x.cells ∧ LineIn W x := by
  obtain ⟨xs, n, _, _, hl, hx, hf⟩ := DataW.trod_struct Tryz.underlying25 h
  rw [Tryz.cells25] at hl
  match cs, hl with
  | [a, b, c], _ =>
    have g0 := hf 0 _ rfl
    have g1 := hf 1 _ rfl
    have g2 := hf 2 _ rfl
    match xs, hx with
    | [y0, y1, y2], _ =>
      simp [Tryz.cells23, Tryz.cells2, Tryz.cells4] at g0 g1 g2
      obtain ⟨q, l, cap, e0, hR, hN, hl1, hl2, hv⟩ := open_longs g0
      obtain ⟨j, e1, _, w1⟩ := DataW.trod_int Tryz.underlying2 g1
      obtain ⟨s, e2, _⟩ := DataW.trod_bool Tryz.underlying4 g2
      simp at e1 e2
      exact ⟨⟨q, cap, l, j, s⟩, by rw [e0, e1, e2]; rfl, hR, ⟨hN, hl1, hl2⟩, hv, wf_i64 w1⟩

/-- A slice of lines. -/
theorem open_lines {H : Type} {enc : TypeId × Value → H} {W : World} {base fuel : Nat} {sp : Nat → Bool} {held : Bool} {c : Value} {y : DataW H × List MemPlace}
    (h : DataW.trod enc Tryz.prog W base sp held fuel 22 [c] = some y) :
    ∃ (ao : Option Addr) (L : List AV) (cap : Nat), c = .slice ao L.length cap ∧ RdV W ao L ∧ L.length ≤ maxLen ∧ (∀ y ∈ L, LineIn W y) ∧ (ao = none → L = [] ∧ cap = 0) := by
  rcases open_slice Tryz.underlying22 h with ⟨e, _⟩ | ⟨a, len, cap, m, n, D, Pl, e, _, hl, hm, hmm, _, hi⟩
  · simp at e
    exact ⟨none, [], 0, by simpa using e, ⟨fun t ht => by simp at ht, fun y hy => by simp at hy⟩, by simp, fun y hy => by simp at hy, fun _ => ⟨rfl, rfl⟩⟩
  · simp at e
    have hlen : len ≤ m := by rw [hmm]; split <;> omega
    have key : ∀ i, i < len → ∃ q : AV, AvAt W (a.add (i * 3)) q ∧ LineIn W q := fun i hil => by
      obtain ⟨cs', hc, ht⟩ := hi i (by omega)
      rw [Tryz.cells25] at hc
      obtain ⟨x, rfl, hx⟩ := trod_line ht
      obtain ⟨_, hcl, hat⟩ := World.cells?_some hc
      refine ⟨x, fun j v hv => ?_, hx⟩
      have hj : j < 3 := (List.getElem?_eq_some_iff.1 hv).1
      rw [hat j hj]; exact hv
    obtain ⟨F, hF⟩ : ∃ F : Nat → AV, ∀ i, i < len → AvAt W (a.add (i * 3)) (F i) ∧ LineIn W (F i) := by
      refine ⟨fun i => if h : i < len then (key i h).choose else av0, fun i hil => ?_⟩
      simp only [dif_pos hil]
      exact (key i hil).choose_spec
    have all : ∀ y ∈ (List.range len).map F, LineIn W y := fun y hy => by
      obtain ⟨i, hi, rfl⟩ := List.mem_map.1 hy
      exact (hF i (by simpa using hi)).2
    refine ⟨some a, (List.range len).map F, cap, by rw [e]; simp, ⟨fun t ht => ⟨a, rfl, ?_⟩, fun y hy => (all y hy).1⟩, by simp; omega, all, fun q => by (cases q)⟩
    simp at ht
    simp only [List.getElem_map, List.getElem_range]
    exact (hF t ht).1

set_option maxRecDepth 100000 in
/-- A struct of two integers. -/
theorem trod_rat {H : Type} {enc : TypeId × Value → H} {W : World} {base fuel : Nat} {sp : Nat → Bool} {held : Bool} {cs : List Value} {y : DataW H × List MemPlace}
    (h : DataW.trod enc Tryz.prog W base sp held fuel 50 cs = some y) : ∃ i j : Int, cs = [.int .i64 i, .int .i64 j] ∧ I64 i ∧ I64 j := by
  obtain ⟨xs, n, _, _, hl, hx, hf⟩ := DataW.trod_struct Tryz.underlying50 h
  rw [Tryz.cells50] at hl
  match cs, hl with
  | [a, b], _ =>
    have g0 := hf 0 _ rfl
    have g1 := hf 1 _ rfl
    match xs, hx with
    | [y0, y1], _ =>
      simp [Tryz.cells2] at g0 g1
      obtain ⟨i, e0, _, w0⟩ := DataW.trod_int Tryz.underlying2 g0
      obtain ⟨j, e1, _, w1⟩ := DataW.trod_int Tryz.underlying2 g1
      simp at e0 e1
      exact ⟨i, j, by rw [e0, e1], wf_i64 w0, wf_i64 w1⟩

/-- A slice of ratios. -/
theorem open_rats {H : Type} {enc : TypeId × Value → H} {W : World} {base fuel : Nat} {sp : Nat → Bool} {held : Bool} {c : Value} {y : DataW H × List MemPlace}
    (h : DataW.trod enc Tryz.prog W base sp held fuel 26 [c] = some y) :
    ∃ (ao : Option Addr) (ps : List Pq) (cap : Nat), c = .slice ao ps.length cap ∧ Rd2 W ao ps ∧ ps.length ≤ maxLen ∧ (∀ q ∈ ps, I64 q.1 ∧ I64 q.2) ∧ (ao = none → ps = [] ∧ cap = 0) := by
  rcases open_slice Tryz.underlying26 h with ⟨e, _⟩ | ⟨a, len, cap, m, n, D, Pl, e, _, hl, hm, hmm, _, hi⟩
  · simp at e
    exact ⟨none, [], 0, by simpa using e, fun t ht => by simp at ht, by simp, fun q hq => by simp at hq, fun _ => ⟨rfl, rfl⟩⟩
  · simp at e
    have hlen : len ≤ m := by rw [hmm]; split <;> omega
    have key : ∀ i, i < len → ∃ q : Pq, QAt W (a.add (i * 2)) q ∧ I64 q.1 ∧ I64 q.2 := fun i hil => by
      obtain ⟨cs', hc, ht⟩ := hi i (by omega)
      rw [Tryz.cells50] at hc
      obtain ⟨x, y, rfl, w0, w1⟩ := trod_rat ht
      obtain ⟨_, hcl, hat⟩ := World.cells?_some hc
      have c0 := hat 0 (by simp)
      have c1 := hat 1 (by simp)
      exact ⟨(x, y), ⟨by simpa using c0, by simpa using c1⟩, w0, w1⟩
    obtain ⟨F, hF⟩ : ∃ F : Nat → Pq, ∀ i, i < len → QAt W (a.add (i * 2)) (F i) ∧ I64 (F i).1 ∧ I64 (F i).2 := by
      refine ⟨fun i => if h : i < len then (key i h).choose else (0, 0), fun i hil => ?_⟩
      simp only [dif_pos hil]
      exact (key i hil).choose_spec
    have hg : ∀ i, i < len → gp ((List.range len).map F) i = F i := fun i hil => by simp [gp, hil]
    refine ⟨some a, (List.range len).map F, cap, by rw [e]; simp, fun t ht => ⟨a, rfl, ?_⟩, by simp; omega, fun q hq => ?_, fun q => by (cases q)⟩
    · simp at ht
      rw [hg t ht]
      exact (hF t ht).1
    · obtain ⟨i, hi, rfl⟩ := List.mem_map.1 hq
      exact (hF i (by simpa using hi)).2

set_option maxRecDepth 100000 in
/-- A Case by value. -/
theorem open_case {H : Type} {enc : TypeId × Value → H} {W : World} {base : Nat} {sp : Nat → Bool} {held : Bool} {r : Reach} {b0 : Nat} {v : Value} {d : DataW H} {p : List MemPlace}
    (hv : Value.okWide Tryz.prog W r b0 28 v) (h : DataW.Trod enc Tryz.prog W base sp held 28 v d p) :
    ∃ (N I : Int) (L M : List AV) (X : AV) (P : List Pq) (A : List Int) (la ma pa aq : Option Addr) (lc mc pc ac : Nat),
      v = .agg #[.int .i64 N, .slice la L.length lc, .slice ma M.length mc, .slice X.q X.a.length X.c, .int .i64 X.b, .bool X.s, .int .i64 I, .slice pa P.length pc, .slice aq A.length ac] ∧ I64 N ∧ I64 I ∧
      (RdV W la L ∧ L.length ≤ maxLen ∧ (∀ y ∈ L, LineIn W y) ∧ (la = none → L = [] ∧ lc = 0)) ∧ (RdV W ma M ∧ M.length ≤ maxLen ∧ (∀ y ∈ M, LineIn W y) ∧ (ma = none → M = [] ∧ mc = 0)) ∧ LineIn W X ∧
      (Rd2 W pa P ∧ P.length ≤ maxLen ∧ (∀ q ∈ P, I64 q.1 ∧ I64 q.2) ∧ (pa = none → P = [] ∧ pc = 0)) ∧ (Rd1 W aq A ∧ (aq = none → A = [] ∧ ac = 0) ∧ A.length ≤ ac ∧ ac ≤ maxLen ∧ ∀ v ∈ A, I64 v) := by
  obtain ⟨xs0, rfl, hsz⟩ := okWide_struct Tryz.underlying28 hv
  obtain ⟨fuel, hf0⟩ := h
  obtain ⟨xs, n, _, _, hl, hx, hf⟩ := DataW.trod_struct Tryz.underlying28 hf0
  rw [Tryz.cells28] at hsz
  match xs0, hsz with
  | ⟨[c0, c1, c2, c3, c4, c5, c6, c7, c8]⟩, _ =>
    have g0 := hf 0 _ rfl
    have g1 := hf 1 _ rfl
    have g2 := hf 2 _ rfl
    have g3 := hf 3 _ rfl
    have g4 := hf 4 _ rfl
    have g5 := hf 5 _ rfl
    have g6 := hf 6 _ rfl
    match xs, hx with
    | [y0, y1, y2, y3, y4, y5, y6], _ =>
      simp [Value.cells, Tryz.cells3, Tryz.cells22, Tryz.cells25, Tryz.cells26, Tryz.cells23] at g0 g1 g2 g3 g4 g5 g6
      obtain ⟨N, e0, _, w0⟩ := DataW.trod_int Tryz.underlying3 g0
      obtain ⟨la, L, lc, e1, hL⟩ := open_lines g1
      obtain ⟨ma, M, mc, e2, hM⟩ := open_lines g2
      obtain ⟨X, e3, hX⟩ := trod_line g3
      obtain ⟨I, e4, _, w4⟩ := DataW.trod_int Tryz.underlying3 g4
      obtain ⟨pa, P, pc, e5, hP⟩ := open_rats g5
      obtain ⟨aq, A, ac, e6, hA⟩ := open_longs g6
      simp [AV.cells] at e0 e3 e4
      obtain ⟨e31, e32, e33⟩ := e3
      exact ⟨N, I, L, M, X, P, A, la, ma, pa, aq, lc, mc, pc, ac, by rw [e0, e1, e2, e31, e32, e33, e4, e5, e6], wf_i64 w0, wf_i64 w4, hL, hM, hX, hP, hA⟩
end Go.Proofs.YtefpaobboimakaaGreat
