/- Contracts of what the statements compare with: SameLongs, SameRatios.; The contract of the statements' same.; The contract of Has of layer 7's reference, and of the statements' meets. -/
import Derived.Test.YtbhaoaobhgilkaaGreatVa27
import Derived.Test.YtbhaoaobhgilkaaGreatVa13
import Derived.Test.YtbhaoaobhgilkaaGreatVa28
import Derived.Test.YtbhaoaobhgilkaaGreatVa3
import Derived.Test.YtbhaoaobhgilkaaGreatVa34

namespace Go.Proofs.YtbhaoaobhgilkaaGreat
open Go.RowKit Go.Sort

set_option maxRecDepth 20000 in
set_option maxHeartbeats 1000000 in
theorem sameI_any (l m : List Int) (ao bo : Option Addr) (ca cb : Nat) (w : World) (hl : l.length ≤ 1000000) (hR : Rd1 w ao l) (hS : Rd1 w bo m) :
    Calls Tryz.prog 48 #[.slice ao l.length ca, .slice bo m.length cb] w (fun e w' => e = .returned (.bool (decide (l = m))) ∧ ∃ k, w' = w.drewN k) := by
  by_cases hm : l.length = m.length
  case neg =>
    have HF := Lib.hid (show decide (l = m) = false from decide_eq_false (fun e => hm (by rw [e])))
    have D : ((l.length : Int) != (m.length : Int)) = true := by simp; omega
    clear hR hS
    generalize l.length = c at *
    generalize m.length = d at *
    go_enter Tryz.func48, Tryz.ntmps48
    go_wp2_with fail
    go_ret
    exact ⟨ret_bool HF.out.symm, 0, rfl⟩
  have HR := Lib.hid hR
  have HS := Lib.hid hS
  obtain ⟨n, hn⟩ : ∃ n, n = l.length := ⟨_, rfl⟩
  have HL := Lib.hid hn
  have HM := Lib.hid (show n = m.length by omega)
  rw [← hm, ← hn]
  have hle : n ≤ 1000000 := by omega
  clear hl hm hR hS hn
  go_enter Tryz.func48, Tryz.ntmps48
  go_wp2_with fail
  go_loopw [5] (fun s wr => ∃ t : Nat, s = .int .i64 t ∧ t ≤ n ∧ Hid (∀ i, i < t → gA l i = gA m i) ∧ ∃ k, wr = w.drewN k) (fun s _ => n - (intOf s).toNat)
  case atStart => exact ⟨0, rfl, by omega, Lib.hid (fun i h => by omega), 0, rfl⟩
  case round =>
    obtain ⟨t, rfl, ht, HF, k, rfl⟩ := hrel
    by_cases htn : t < n
    · obtain ⟨a, ha, c0⟩ := HR.out t (by have := HL.out; omega)
      obtain ⟨b, hb, c1⟩ := HS.out t (by have := HM.out; omega)
      obtain ⟨u, hu⟩ : ∃ u, u = gA l t := ⟨_, rfl⟩
      obtain ⟨v, hv⟩ : ∃ v, v = gA m t := ⟨_, rfl⟩
      have HU := Lib.hid hu
      have HV := Lib.hid hv
      rw [← hu] at c0
      rw [← hv] at c1
      clear hu hv
      subst ha
      subst hb
      by_cases h1 : u = v
      · have HF' := Lib.hid (show ∀ i, i < t + 1 → gA l i = gA m i from fun i hi => by
          by_cases e : i = t
          · subst e; rw [← HU.out, ← HV.out]; omega
          · exact HF.out i (by omega))
        have D : (u != v) = false := by simpa using h1
        clear h1
        go_wp2_with fail
        go_quiet (fail)
        go_wp2_with fail
        go_roundw
        case rel => exact ⟨t + 1, by go_num, by omega, HF', _, rfl⟩
        case measure => simp [intOf]; omega
      · have HE := Lib.hid (show decide (l = m) = false from decide_eq_false (fun e => h1 (by rw [HU.out, HV.out, e])))
        have D : (u != v) = true := by simpa using h1
        clear h1
        go_wp2_with fail
        go_quiet (fail)
        go_wp2_with fail
        go_ret
        exact ⟨ret_bool HE.out.symm, _, World.drewN_drewN _ _ _⟩
    · have HE := Lib.hid (show decide (l = m) = true from decide_eq_true (gA_ext (by have := HL.out; have := HM.out; omega) fun i hi => HF.out i (by have := HL.out; omega)))
      go_wp2_with fail
      go_ret
      exact ⟨ret_bool HE.out.symm, k, rfl⟩

theorem rat_ext {cs ds : List Pq} (hl : cs.length = ds.length) (h : ∀ k, k < cs.length → gp cs k = gp ds k) : cs = ds := by
  apply List.ext_getElem hl
  intro i h1 h2
  have := h i h1
  simpa [gp, h1, h2] using this

theorem QAt.two {w : World} {a : Addr} {t : Nat} {x : Pq} (h : QAt w (a.add (t * 2)) x) : w.cell? (a.add (t * 2)) = some (.int .i64 x.1) ∧ w.cell? ⟨(a.add (t * 2)).block, (a.add (t * 2)).off + 1, none⟩ = some (.int .i64 x.2) := by
  refine ⟨by have := h.1; rwa [show (a.add (t * 2)).add 0 = a.add (t * 2) by simp [Addr.add]] at this, ?_⟩
  have := h.2
  generalize a.add (t * 2) = b at *
  unfold Addr.add at this
  rwa [if_neg (by omega)] at this

set_option maxRecDepth 100000 in
set_option maxHeartbeats 1600000 in
theorem srat_any (cs ds : List Pq) (ao bo : Option Addr) (ca cb : Nat) (w : World) (hA : Rd2 w ao cs) (hB : Rd2 w bo ds) (hl : cs.length ≤ 1000) :
    Calls Tryz.prog 27 #[.slice ao cs.length ca, .slice bo ds.length cb] w (Made (.bool (decide (cs = ds))) w) := by
  by_cases hlen : cs.length = ds.length
  case neg =>
    have HF := Lib.hid (show decide (cs = ds) = false from decide_eq_false (fun e => hlen (by rw [e])))
    have D : ((cs.length : Int) != (ds.length : Int)) = true := by simp; omega
    clear hA hB
    generalize cs.length = c at *
    generalize ds.length = d at *
    go_enter Tryz.func27, Tryz.ntmps27
    go_wp2_with fail
    go_ret
    exact ⟨ret_bool HF.out.symm, Below.refl _ _⟩
  case pos =>
    have D : ((cs.length : Int) != (ds.length : Int)) = false := by simp; omega
    obtain ⟨len, hc⟩ : ∃ len, len = cs.length := ⟨_, rfl⟩
    have hd : ds.length = len := by omega
    have HC := Lib.hid hc
    have HDD := Lib.hid hd
    have HA := Lib.hid hA
    have HB := Lib.hid hB
    rw [hd, ← hc] at D
    rw [hd, ← hc]
    have hl2 : len ≤ 1000 := by omega
    clear hlen hc hd hA hB hl
    go_enter Tryz.func27, Tryz.ntmps27
    go_wp2_with fail
    go_loopw [5] (fun s wr => ∃ t : Nat, t ≤ len ∧ s = .int .i64 t ∧ Hid (∀ k, k < t → gp cs k = gp ds k) ∧ Hid (Below w.heap.size w wr)) (fun s _ => len - (intOf s).toNat)
    case atStart => exact ⟨0, by omega, rfl, Lib.hid (fun k hk => by omega), Lib.hid (Below.refl _ _)⟩
    case round =>
      obtain ⟨t, ht, rfl, HT, HW⟩ := hrel
      by_cases htn : t < len
      case pos =>
        obtain ⟨a, rfl, hR⟩ := (HA.out.on HW.out) t (by rw [← HC.out]; exact htn)
        obtain ⟨b, rfl, hS⟩ := (HB.out.on HW.out) t (by rw [HDD.out]; exact htn)
        obtain ⟨a0, a1⟩ := hR.two
        obtain ⟨b0, b1⟩ := hS.two
        clear hR hS
        obtain ⟨p, hp⟩ : ∃ p, p = gp cs t := ⟨_, rfl⟩
        obtain ⟨q, hq⟩ : ∃ q, q = gp ds t := ⟨_, rfl⟩
        rw [← hp] at a0 a1
        rw [← hq] at b0 b1
        have HP := Lib.hid hp
        have HQ := Lib.hid hq
        clear hp hq
        obtain ⟨i, j⟩ := p
        obtain ⟨i', j'⟩ := q
        simp only at a0 a1 b0 b1
        by_cases he : ((i, j) : Pq) = (i', j')
        case pos =>
          have HT2 := Lib.hid (show ∀ k, k < t + 1 → gp cs k = gp ds k from fun k hk => by
            by_cases e : k = t
            · rw [e, ← HP.out, ← HQ.out]; exact he
            · exact HT.out k (by omega))
          simp only [Prod.mk.injEq] at he
          obtain ⟨rfl, rfl⟩ := he
          go_wp2_with fail
          go_quiet (fail)
          go_wp2_with fail
          go_roundw
          case rel => exact ⟨t + 1, by omega, by go_num, HT2, Lib.hid (below_drewN HW.out _)⟩
          case measure => simp [intOf]; omega
        case neg =>
          have HF := Lib.hid (show decide (cs = ds) = false from decide_eq_false (fun e => he (by rw [HP.out, HQ.out, e])))
          by_cases c1 : i = i'
          case neg =>
            have D1 : (i == i') = false := by simpa using c1
            clear he c1
            go_wp2_with fail
            go_quiet (fail)
            go_wp2_with fail
            go_ret
            exact ⟨ret_bool HF.out.symm, below_drewN HW.out _⟩
          case pos =>
            have c2 : j ≠ j' := fun e => he (by rw [c1, e])
            have D1 : (j == j') = false := by simpa using c2
            subst c1
            clear he c2
            go_wp2_with fail
            go_quiet (fail)
            go_wp2_with fail
            go_ret
            exact ⟨ret_bool HF.out.symm, below_drewN HW.out _⟩
      case neg =>
        have HF := Lib.hid (show decide (cs = ds) = true from decide_eq_true (rat_ext (by rw [← HC.out, HDD.out]) (fun k hk => HT.out k (by rw [← HC.out] at hk; omega))))
        go_wp2_with fail
        go_ret
        exact ⟨ret_bool HF.out.symm, HW.out⟩
end Go.Proofs.YtbhaoaobhgilkaaGreat

namespace Go.Proofs.YtbhaoaobhgilkaaGreat
open Go.RowKit Go.Sort

theorem AvAt.three {w : World} {p : Addr} {t : Nat} {y : AV} (h : AvAt w (p.add (t * 3)) y) : w.cell? (p.add (t * 3)) = some (.slice y.q y.a.length y.c) ∧ w.cell? ⟨(p.add (t * 3)).block, (p.add (t * 3)).off + 1, none⟩ = some (.int .i64 y.b) ∧ w.cell? ⟨(p.add (t * 3)).block, (p.add (t * 3)).off + 2, none⟩ = some (.bool y.s) := by
  have h0 := h 0 _ rfl
  have h1 := h 1 _ rfl
  have h2 := h 2 _ rfl
  rw [show (p.add (t * 3)).add 0 = p.add (t * 3) by simp [Addr.add]] at h0
  generalize p.add (t * 3) = b at *
  unfold Addr.add at h1 h2
  rw [if_neg (by omega)] at h1 h2
  exact ⟨h0, h1, h2⟩

theorem lnV_eq {y z : AV} : lnV y = lnV z ↔ y.a = z.a ∧ y.b = z.b ∧ y.s = z.s := by
  unfold lnV; rw [Ln.mk.injEq]

theorem map_ne {A B : List AV} {t : Nat} (h1 : t < A.length) (h2 : t < B.length) (h : lnV A[t] ≠ lnV B[t]) : A.map lnV ≠ B.map lnV := fun e => h (by
  have h3 := congrArg (fun l => l[t]?) e
  simpa [h1, h2] using h3)

set_option maxRecDepth 100000 in
set_option maxHeartbeats 4000000 in
theorem same_any (A B : List AV) (ao bo : Option Addr) (ca cb : Nat) (w : World) (hA : RdV w ao A) (hB : RdV w bo B) (hl : A.length ≤ 100000) (ha : ∀ y ∈ A, y.a.length ≤ 1000000) :
    Calls Tryz.prog 14 #[.slice ao A.length ca, .slice bo B.length cb] w (Made (.bool (decide (A.map lnV = B.map lnV))) w) := by
  by_cases hlen : A.length = B.length
  case neg =>
    have HF := Lib.hid (show decide (A.map lnV = B.map lnV) = false from decide_eq_false (fun e => hlen (by have := congrArg List.length e; simpa using this)))
    have D : ((A.length : Int) != (B.length : Int)) = true := by simp; omega
    clear hA hB ha
    generalize A.length = c at *
    generalize B.length = d at *
    go_enter Tryz.func14, Tryz.ntmps14
    go_wp2_with fail
    go_ret
    exact ⟨ret_bool HF.out.symm, Below.refl _ _⟩
  have D : ((A.length : Int) != (B.length : Int)) = false := by simp; omega
  obtain ⟨len, hc⟩ : ∃ len, len = A.length := ⟨_, rfl⟩
  have hd : B.length = len := by omega
  have HC := Lib.hid hc
  have HDD := Lib.hid hd
  have HA := Lib.hid hA
  have HB := Lib.hid hB
  have HL := Lib.hid ha
  obtain ⟨R, hR⟩ : ∃ R, R = decide (A.map lnV = B.map lnV) := ⟨_, rfl⟩
  have HR := Lib.hid hR
  rw [hd, ← hc] at D
  rw [hd, ← hc, ← hR]
  have hl2 : len ≤ 100000 := by omega
  clear hlen hc hd hA hB hl ha hR
  go_enter Tryz.func14, Tryz.ntmps14
  go_wp2_with fail
  go_loopw [5] (fun s wr => ∃ t : Nat, t ≤ len ∧ s = .int .i64 t ∧ Hid (∀ k, ∀ h1 : k < A.length, ∀ h2 : k < B.length, k < t → lnV A[k] = lnV B[k]) ∧ Hid (Below w.heap.size w wr)) (fun s _ => len - (intOf s).toNat)
  case atStart => exact ⟨0, by omega, rfl, Lib.hid (fun k _ _ hk => by omega), Lib.hid (Below.refl _ _)⟩
  case round =>
    obtain ⟨t, ht, rfl, HT, HW⟩ := hrel
    by_cases htn : t < len
    case pos =>
      have h1 : t < A.length := by have := HC.out; omega
      have h2 : t < B.length := by have := HDD.out; omega
      obtain ⟨a, ea, hR⟩ := (HA.out.on HW.out).at_ t h1
      obtain ⟨b, eb, hS⟩ := (HB.out.on HW.out).at_ t h2
      have YN := Lib.hid ((HA.out.on HW.out).nums _ (List.getElem_mem h1))
      have ZN := Lib.hid ((HB.out.on HW.out).nums _ (List.getElem_mem h2))
      have YL := Lib.hid (HL.out _ (List.getElem_mem h1))
      have NE := Lib.hid (show lnV A[t] ≠ lnV B[t] → R = false from fun h => by rw [HR.out]; exact decide_eq_false (map_ne h1 h2 h))
      have EQ := Lib.hid (show lnV A[t] = lnV B[t] → ∀ k, ∀ h1 : k < A.length, ∀ h2 : k < B.length, k < t + 1 → lnV A[k] = lnV B[k] from fun h k g1 g2 hk => by
        by_cases e : k = t
        · subst e; exact h
        · exact HT.out k g1 g2 (by omega))
      generalize A[t] = y at *
      generalize B[t] = z at *
      obtain ⟨a0, a1, a2⟩ := hR.three
      obtain ⟨b0, b1, b2⟩ := hS.three
      subst ea eb
      clear hR hS h1 h2
      obtain ⟨yq, yc, ya, yb, ys⟩ := y
      obtain ⟨zq, zc, za, zb, zs⟩ := z
      simp only at a0 a1 a2 b0 b1 b2
      by_cases c1 : yb = zb
      · subst c1
        by_cases c2 : ys = zs
        · subst c2
          obtain ⟨q, hq⟩ : ∃ q, q = decide (ya = za) := ⟨_, rfl⟩
          have SL := Lib.hid (fun k => sameI_any ya za yq zq yc zc (wr.drewN k) YL.out (YN.out.on (below_drewN (Below.refl _ _) k)) (ZN.out.on (below_drewN (Below.refl _ _) k)))
          rw [← hq] at SL
          have HQ := Lib.hid hq
          obtain ⟨m1, hm1⟩ : ∃ m1, m1 = ya.length := ⟨_, rfl⟩
          obtain ⟨m2, hm2⟩ : ∃ m2, m2 = za.length := ⟨_, rfl⟩
          rw [← hm1, ← hm2] at SL
          rw [← hm1] at a0
          rw [← hm2] at b0
          clear hq hm1 hm2
          cases q
          · have HE := Lib.hid (NE.out (fun e => by have := (lnV_eq.1 e).1; simp only at this; have h := HQ.out; rw [decide_eq_true this] at h; cases h))
            go_wp2_with fail
            go_quiet ((go_at_call 48; exact Calls.quiet_of (SL.out _)))
            go_wp2_with fail
            go_ret
            exact ⟨ret_bool HE.out.symm, below_drewN HW.out _⟩
          · have HT2 := Lib.hid (EQ.out (lnV_eq.2 ⟨of_decide_eq_true HQ.out.symm, rfl, rfl⟩))
            go_wp2_with fail
            go_quiet ((go_at_call 48; exact Calls.quiet_of (SL.out _)))
            go_wp2_with fail
            go_roundw
            case rel => exact ⟨t + 1, by omega, by go_num, HT2, Lib.hid (below_drewN HW.out _)⟩
            case measure => simp [intOf]; omega
        · have D2 : (ys != zs) = true := by simpa using c2
          have HE := Lib.hid (NE.out (fun e => c2 (lnV_eq.1 e).2.2))
          clear D2
          cases ys <;> cases zs <;> first | exact absurd rfl c2 | skip
          all_goals
            clear c2
            go_wp2_with fail
            go_quiet (fail)
            go_wp2_with fail
            go_ret
            exact ⟨ret_bool HE.out.symm, below_drewN HW.out _⟩
      · have D1 : (yb != zb) = true := by simpa using c1
        have HE := Lib.hid (NE.out (fun e => c1 (lnV_eq.1 e).2.1))
        clear c1
        go_wp2_with fail
        go_quiet (fail)
        go_wp2_with fail
        go_ret
        exact ⟨ret_bool HE.out.symm, below_drewN HW.out _⟩
    case neg =>
      have HE := Lib.hid (show R = true by
        rw [HR.out]
        refine decide_eq_true (List.ext_getElem (by simp; have := HC.out; have := HDD.out; omega) fun k g1 g2 => ?_)
        simp only [List.length_map] at g1 g2
        simp only [List.getElem_map]
        exact HT.out k g1 g2 (by have := HC.out; omega))
      go_wp2_with fail
      go_ret
      exact ⟨ret_bool HE.out.symm, HW.out⟩
end Go.Proofs.YtbhaoaobhgilkaaGreat

namespace Go.Proofs.YtbhaoaobhgilkaaGreat
open Go.RowKit Go.Sort Go.Shelf

/-- The first error of a sum. -/
def totE (P : List Pq) : List AV → Int
  | [] => 0
  | y :: r => if (atN y.a P P.length).2 ≠ 0 then (atN y.a P P.length).2 else totE P r

def lineB (P : List Pq) (y : AV) : Bool := decide (cmR (atN y.a P P.length).1 (y.b, 1) < 0) || (decide (cmR (atN y.a P P.length).1 (y.b, 1) = 0) && !y.s)

def hasE (n : Int) (L : List AV) (P : List Pq) : Int := if chkP n L ≠ 0 then chkP n L else if (P.length : Int) ≠ n then 2 else if P.all vR then totE P L else 2

def hasB (n : Int) (L : List AV) (P : List Pq) : Bool := decide (hasE n L P = 0) && L.all (lineB P)

theorem totE_at {P : List Pq} : ∀ {L : List AV} {t : Nat}, (ht : t < L.length) → (∀ k, ∀ h : k < L.length, k < t → (atN L[k].a P P.length).2 = 0) → (atN L[t].a P P.length).2 ≠ 0 → totE P L = (atN L[t].a P P.length).2
  | [], _, ht, _, _ => by simp at ht
  | y :: r, 0, _, _, h => by simp only [sB] at h; unfold totE; rw [if_pos h]; rfl
  | y :: r, t + 1, ht, hz, h => by
    have h0 := hz 0 (by simp) (by omega)
    simp only [sB] at h0
    unfold totE
    rw [if_neg (by simpa using h0)]
    exact totE_at (by simpa using ht) (fun k hk hkt => by have := hz (k + 1) (by simpa using hk) (by omega); simpa using this) (by simpa using h)

theorem totE_none {P : List Pq} : ∀ {L : List AV}, (∀ y ∈ L, (atN y.a P P.length).2 = 0) → totE P L = 0
  | [], _ => rfl
  | y :: r, h => by
    unfold totE
    rw [if_neg (by simpa using h y (by simp))]
    exact totE_none fun z hz => h z (by simp [hz])

theorem all_snoc {p : AV → Bool} {L : List AV} {t : Nat} (h : t < L.length) : (L.take (t + 1)).all p = ((L.take t).all p && p L[t]) := by
  rw [List.take_succ_eq_append_getElem h, List.all_append]; simp

set_option maxRecDepth 100000 in
set_option maxHeartbeats 4000000 in
theorem rhas_any (n : Int) (L : List AV) (P : List Pq) (la po : Option Addr) (lc pc : Nat) (w : World) (hR : RdV w la L) (hS : Rd2 w po P) (hL : ∀ y ∈ L, y.a.length ≤ 1000000 ∧ ∀ v ∈ y.a, I64 v) (hB : ∀ y ∈ L, I64 y.b) (hP : ∀ t, t < P.length → I2 (gp P t)) (hp : P.length ≤ 1000) :
    Calls Tryz.prog 24 #[.int .i64 n, .slice la L.length lc, .slice po P.length pc] w (Made (.tuple #[.bool (hasB n L P), .int .i64 (hasE n L P)]) w) := by
  obtain ⟨m, hm⟩ : ∃ m, m = L.length := ⟨_, rfl⟩
  obtain ⟨u, hu⟩ : ∃ u, u = P.length := ⟨_, rfl⟩
  have CK := Lib.hid (rcheck_any n L la lc w hR (fun y hy => (hL y hy).1))
  obtain ⟨E, hE⟩ : ∃ E, E = hasE n L P := ⟨_, rfl⟩
  obtain ⟨B, hBB⟩ : ∃ B, B = hasB n L P := ⟨_, rfl⟩
  have B0 := Lib.hid (show E ≠ 0 → B = false from fun h => by rw [hBB]; unfold hasB; rw [← hE, decide_eq_false h]; rfl)
  have B1 := Lib.hid (show E = 0 → B = L.all (lineB P) from fun h => by rw [hBB]; unfold hasB; rw [← hE, decide_eq_true h]; rfl)
  obtain ⟨c, hc⟩ : ∃ c, c = chkP n L := ⟨_, rfl⟩
  have EC := Lib.hid (show c ≠ 0 → E = c from fun h => by rw [hE]; unfold hasE; rw [← hc, if_pos h])
  have EN := Lib.hid (show c = 0 → (u : Int) ≠ n → E = 2 from fun h h2 => by rw [hE]; unfold hasE; rw [← hc, if_neg (fun q => q h), if_pos (by rw [← hu]; exact h2)])
  have EV := Lib.hid (show c = 0 → (u : Int) = n → E = if P.all vR then totE P L else 2 from fun h h2 => by rw [hE]; unfold hasE; rw [← hc, if_neg (fun q => q h), if_neg (by rw [← hu]; exact fun q => q h2)])
  have VL := Lib.hid (show c = 0 → ∀ y ∈ L, (y.a.length : Int) = n from fun h y hy => valid_len ((chk_valid (hc.symm.trans h)).2.2 y hy))
  have N5 := Lib.hid (show c = 0 → n ≤ 5 from fun h => (chk_valid (hc.symm.trans h)).1.2)
  have HM := Lib.hid hm
  have HU := Lib.hid hu
  have HR := Lib.hid hR
  have HS := Lib.hid hS
  have HL := Lib.hid hL
  have HB := Lib.hid hB
  have HP := Lib.hid hP
  rw [← hm, ← hc] at CK
  rw [← hm, ← hu, ← hE, ← hBB]
  have u1 : u ≤ 1000 := by omega
  have m1000 := Lib.hid (show c = 0 → m ≤ 1000 from fun h => by rw [hm]; exact (chk_valid (hc.symm.trans h)).2.1)
  clear hR hS hL hB hP hp hm hu hE hBB hc
  by_cases h0 : c = 0
  case neg =>
    have HE := Lib.hid (EC.out h0)
    have HF := Lib.hid (B0.out (by rw [HE.out]; exact h0))
    have h0' : (c != 0) = true := by simpa using h0
    clear h0
    go_enter Tryz.func24, Tryz.ntmps24
    go_wp2_with fail
    refine CK.out.mono ?_
    rintro e w1 ⟨rfl, hb⟩
    have B1 := Lib.hid hb
    clear hb
    go_wp2_with fail
    refine bodyPost_ret (v := .tuple #[.bool B, .int .i64 E]) (by rw [HE.out, HF.out]; simp [results, Tryz.results24, go_sem]) rfl ⟨rfl, B1.out⟩
  have VL2 := Lib.hid (VL.out h0)
  have M1 := Lib.hid (m1000.out h0)
  have N52 := Lib.hid (N5.out h0)
  clear VL N5 m1000
  by_cases h1 : (u : Int) = n
  case neg =>
    have HE := Lib.hid (EN.out h0 h1)
    have HF := Lib.hid (B0.out (by rw [HE.out]; decide))
    have h1' : ((u : Int) != n) = true := by simpa using h1
    subst h0
    clear h1
    go_enter Tryz.func24, Tryz.ntmps24
    go_wp2_with fail
    refine CK.out.mono ?_
    rintro e w1 ⟨rfl, hb⟩
    have B1 := Lib.hid hb
    clear hb
    go_wp2_with fail
    refine bodyPost_ret (v := .tuple #[.bool B, .int .i64 E]) (by rw [HE.out, HF.out]; simp [results, Tryz.results24, go_sem]) rfl ⟨rfl, B1.out⟩
  have EV2 := Lib.hid (EV.out h0 h1)
  clear EV
  have UN := Lib.hid h1
  have h1' : ((u : Int) != n) = false := by simpa using h1
  have m1 := M1.out
  subst h0
  clear EC EN h1 M1
  go_enter Tryz.func24, Tryz.ntmps24
  go_wp2_with fail
  refine CK.out.mono ?_
  rintro e w1 ⟨rfl, hb⟩
  have E1 := Lib.hid hb
  clear hb CK
  go_wp2_with fail
  go_loopw [9] (fun s wr => ∃ t : Nat, s = .int .i64 t ∧ t ≤ u ∧ Hid (∀ k, k < t → vR (gp P k) = true) ∧ Hid (Below w.heap.size w wr)) (fun s _ => u - (intOf s).toNat)
  case atStart => exact ⟨0, rfl, by omega, Lib.hid (fun k h => by omega), E1⟩
  case round =>
    clear E1
    obtain ⟨t, rfl, ht, HV, HW⟩ := hrel
    by_cases htu : t < u
    · obtain ⟨a, ha, c0⟩ := (HS.out.on HW.out) t (by have := HU.out; omega)
      have Z2 := Lib.hid (HP.out t (by have := HU.out; omega))
      have NX := Lib.hid (show vR (gp P t) = true → ∀ k, k < t + 1 → vR (gp P k) = true from fun h k hk => by
        by_cases e : k = t
        · subst e; exact h
        · exact HV.out k (by omega))
      have NO := Lib.hid (show vR (gp P t) = false → E = 2 from fun h => by
        rw [EV2.out, if_neg]
        intro q
        rw [List.all_eq_true] at q
        have hlt : t < P.length := by have := HU.out; omega
        have := q (gp P t) (by unfold gp; rw [List.getD_eq_getElem?_getD, List.getElem?_eq_getElem hlt]; exact List.getElem_mem _)
        rw [h] at this; cases this)
      generalize gp P t = z at *
      have C0 := Lib.hid c0
      have VA := Lib.hid (fun W => refValid_any z.1 z.2 W Z2.out.1.1 Z2.out.1.2 Z2.out.2.1 Z2.out.2.2)
      obtain ⟨b, hb⟩ : ∃ b, b = vR z := ⟨_, rfl⟩
      rw [show vldB z.1 z.2 = b from hb.symm] at VA
      rw [← hb] at NX NO
      subst ha
      clear c0 hb
      go_wp2_with (first | refine wpl_loadQ rfl _ rfl _ rfl z C0.out ?_)
      refine (VA.out wr).mono ?_
      rintro e w2 ⟨rfl, hb⟩
      have W2 := Lib.hid (below_on HW.out hb)
      clear hb VA
      cases b
      · have HE := Lib.hid (NO.out rfl)
        have HF := Lib.hid (B0.out (by rw [HE.out]; decide))
        go_wp2_with fail
        refine bodyPost_ret (v := .tuple #[.bool B, .int .i64 E]) (by rw [HE.out, HF.out]; simp [results, Tryz.results24, go_sem]) rfl ⟨rfl, W2.out⟩
      · have HV2 := Lib.hid (NX.out rfl)
        go_wp2_with fail
        go_roundw
        case rel => exact ⟨t + 1, by go_num, by omega, HV2, W2⟩
        case measure => simp [intOf]; omega
    · have ET := Lib.hid (show E = totE P L from by
        rw [EV2.out, if_pos]
        rw [List.all_eq_true]
        intro q hq
        obtain ⟨k, hk, rfl⟩ := List.getElem_of_mem hq
        have := HV.out k (by have := HU.out; omega)
        simpa [gp, hk] using this)
      clear HV EV2
      go_wp2_with fail
      go_loopw [10, 11] (fun a s wi => ∃ (t : Nat) (bb : Bool), a = .bool bb ∧ s = .int .i64 t ∧ t ≤ m ∧ Hid (bb = (L.take t).all (lineB P)) ∧ Hid (∀ k, ∀ h : k < L.length, k < t → (atN L[k].a P P.length).2 = 0) ∧ Hid (Below w.heap.size w wi)) (fun _ s _ => m - (intOf s).toNat)
      case atStart => exact ⟨0, true, rfl, rfl, by omega, Lib.hid (by simp), Lib.hid (fun k _ h => by omega), HW⟩
      case round =>
        clear HW
        obtain ⟨t, bb, rfl, rfl, ht, HA, HZ, HW⟩ := hrel
        by_cases htm : t < m
        · have hlt : t < L.length := by have := HM.out; omega
          obtain ⟨p, hp, cp⟩ := (HR.out.on HW.out).at_ t hlt
          have YN := Lib.hid ((HR.out.on HW.out).nums _ (List.getElem_mem hlt))
          have YL := Lib.hid (HL.out _ (List.getElem_mem hlt))
          have YB := Lib.hid (HB.out _ (List.getElem_mem hlt))
          have YV := Lib.hid (VL2.out _ (List.getElem_mem hlt))
          have AS := Lib.hid (show (L.take (t + 1)).all (lineB P) = (bb && lineB P L[t]) by rw [HA.out]; exact all_snoc hlt)
          have ZN := Lib.hid (show (atN L[t].a P P.length).2 = 0 → ∀ k, ∀ h : k < L.length, k < t + 1 → (atN L[k].a P P.length).2 = 0 from fun h k g hk => by
            by_cases e : k = t
            · subst e; exact h
            · exact HZ.out k g (by omega))
          have ZE := Lib.hid (show (atN L[t].a P P.length).2 ≠ 0 → E = (atN L[t].a P P.length).2 from fun h => by rw [ET.out]; exact totE_at hlt HZ.out h)
          generalize L[t] = y at *
          have CP := Lib.hid cp
          obtain ⟨_, c1, c2⟩ := cp.three
          have C1 := Lib.hid c1
          have C2 := Lib.hid c2
          obtain ⟨T, hT⟩ : ∃ T, T = (atN y.a P P.length).1 := ⟨_, rfl⟩
          have T2 := Lib.hid (show I2 T by rw [hT]; exact atN_64 _ _ _)
          have TO := Lib.hid (fun W (h : Below wr.heap.size wr W) => rtotal_any y P po pc W (by have := YV.out; have := HU.out; have := UN.out; omega) (by have := YV.out; have := N52.out; omega) (YN.out.on h) ((HS.out.on HW.out).on h) YL.out.2 HP.out)
          obtain ⟨er, her⟩ : ∃ er, er = (atN y.a P P.length).2 := ⟨_, rfl⟩
          obtain ⟨TT, hTT⟩ : ∃ TT, TT = totR y.a P P.length := ⟨_, rfl⟩
          have TE := Lib.hid (show er = 0 → TT = T from fun h => by rw [hTT]; unfold totR; rw [← her, if_pos h, hT])
          obtain ⟨k, hk⟩ : ∃ k, k = cmR T (y.b, 1) := ⟨_, rfl⟩
          have CM := Lib.hid (fun W => rcmpP_any T (y.b, 1) W T2.out (wh_64 YB.out))
          have LB := Lib.hid (show lineB P y = (decide (k < 0) || (decide (k = 0) && !y.s)) by unfold lineB; rw [← hT, ← hk])
          rw [← hk] at CM
          rw [← her] at ZN ZE
          rw [← hTT, ← her, ← HU.out] at TO
          rw [LB.out] at AS
          obtain ⟨yb, hyb⟩ : ∃ yb, yb = y.b := ⟨_, rfl⟩
          obtain ⟨ys, hys⟩ : ∃ ys, ys = y.s := ⟨_, rfl⟩
          rw [← hyb] at CM C1
          rw [← hys] at AS C2
          subst hp
          clear cp c1 c2 hT her hTT hk hyb hys LB hlt HZ HA
          go_wp2_with (first | refine wpl_loadV rfl _ rfl _ rfl y CP.out ?_)
          refine (TO.out wr (Below.refl _ _)).mono ?_
          rintro e w2 ⟨rfl, hb⟩
          have W2 := Lib.hid (show Below wr.heap.size wr w2 from hb)
          have F2 := Lib.hid (below_on HW.out hb)
          clear hb TO
          by_cases e0 : er = 0
          case neg =>
            have HE := Lib.hid (ZE.out e0)
            have HF := Lib.hid (B0.out (by rw [HE.out]; exact e0))
            have e0' : (er != 0) = true := by simpa using e0
            have BZ := Lib.hid (show Below w.heap.size w (w2.alloc (.cells #[.int .i64 TT.1, .int .i64 TT.2] 50)) from F2.out.alloc F2.out.size _)
            clear e0
            go_wp2_with fail
            refine bodyPost_ret (v := .tuple #[.bool B, .int .i64 E]) (by rw [HE.out, HF.out]; simp [results, Tryz.results24, go_sem]) rfl ⟨rfl, BZ.out⟩
          have TT2 := Lib.hid (TE.out e0)
          have ZN2 := Lib.hid (ZN.out e0)
          rw [TT2.out]
          obtain ⟨w3, hw3⟩ : ∃ w3, w3 = w2.alloc (.cells #[.int .i64 T.1, .int .i64 T.2] 50) := ⟨_, rfl⟩
          obtain ⟨q8, hq8⟩ : ∃ q8, q8 = w2.heap.size := ⟨_, rfl⟩
          have P8 := Lib.hid (show Pair w3 q8 T.1 T.2 by rw [hw3, hq8]; exact Pair.made _ _ _ _)
          have W3 := Lib.hid (show Below wr.heap.size wr w3 by rw [hw3]; exact W2.out.alloc W2.out.size _)
          have F3 := Lib.hid (below_on HW.out W3.out)
          subst e0
          clear ZE ZN TE F2 W2
          go_upto_region 18 with (fail)
          rw [← hw3, ← hq8]
          clear hw3 hq8 TT2
          have KS := Lib.hid (show ∀ W, Below w3.heap.size w3 W → (QAt W ⟨q8, 0, none⟩ T ∧ W.cell? ⟨(p.add (t * 3)).block, (p.add (t * 3)).off + 1, none⟩ = some (.int .i64 yb)) from fun W h => ⟨(P8.out.kept h).qAt, kept h (kept W3.out C1.out)⟩)
          obtain ⟨wc, hwc⟩ : ∃ wc, wc = w3.drew := ⟨_, rfl⟩
          have Bc := Lib.hid (show Below w3.heap.size w3 wc by rw [hwc]; exact (Below.refl _ _).drew)
          refine wp_region_held_drew (S := (fun W => (QAt W ⟨q8, 0, none⟩ T ∧ W.cell? ⟨(p.add (t * 3)).block, (p.add (t * 3)).off + 1, none⟩ = some (.int .i64 yb)))) (by kernel_rfl) (by rw [← hwc]; exact KS.out _ Bc.out) (fun h0 => ?_)
          rw [← hwc] at h0 ⊢
          clear hwc
          refine tkH (i := 0) (v := (.agg #[.int .i64 T.1, .int .i64 T.2])) rfl (Or.inl ⟨by rfl, fun w' hS => yld_loadQ _ rfl _ rfl hS.1⟩) h0 ?_
          simp only [Act.put, sA, sB, sD, sE, sF]
          refine tkH (i := 1) (v := ?v2) rfl (Or.inl ⟨by rfl, ?hy2⟩) h0 ?rest2
          case hy2 => (intro w' hS; (try dsimp only at hS); go_simp; try (with_reducible rfl))
          simp only [Act.put, sA, sB, sC, sD, sE, sF]
          refine tkH (i := 2) (v := ?v3) rfl (Or.inl ⟨by rfl, ?hy3⟩) h0 ?rest3
          case hy3 => (intro w' hS; (try dsimp only at hS); go_simp; try (with_reducible rfl))
          simp only [Act.put, sA, sB, sC, sD, sE, sF]
          refine tkH (i := 3) (v := ?v4) rfl (Or.inl ⟨by rfl, ?hy4⟩) h0 ?rest4
          case hy4 => (intro w' hS; (try dsimp only at hS); go_simp; try (with_reducible rfl))
          simp only [Act.put, sA, sB, sC, sD, sE, sF]
          refine tkH (i := 4) (v := ?v5) rfl (Or.inl ⟨by rfl, ?hy5⟩) h0 ?rest5
          case hy5 => (intro w' hS; (try dsimp only at hS); go_simp; try (with_reducible rfl))
          simp only [Act.put, sA, sB, sC, sD, sE, sF]
          refine tkH (i := 5) (v := ?v6) rfl (Or.inl ⟨by rfl, ?hy6⟩) h0 ?rest6
          case hy6 => (intro w' hS; (try dsimp only at hS); go_simp; try (with_reducible rfl))
          simp only [Act.put, sA, sB, sC, sD, sE, sF]
          refine tkH (i := 6) (v := ?v7) rfl (Or.inl ⟨by rfl, ?hy7⟩) h0 ?rest7
          case hy7 => (intro w' hS; (try dsimp only at hS); go_simp; try (with_reducible rfl))
          simp only [Act.put, sA, sB, sC, sD, sE, sF]
          refine wpAnyH_ready (rs := [7]) (by kernel_rfl) (by simp) (AllReadyH.cons rfl (fun K hK => ?_) AllReadyH.nil)
          rw [if_pos (by rfl)]
          go_simp
          refine (CM.out wc).mono ?_
          rintro e wc ⟨rfl, hb⟩
          have Bc := Lib.hid (below_on Bc.out hb)
          clear hb
          go_simp
          refine hK.out _ _ (KS.out _ Bc.out) (fun h0_1 => ?_)
          clear hK K h0
          refine tkH (i := 8) (v := ?v8) rfl (Or.inl ⟨by rfl, ?hy8⟩) h0_1 ?rest8
          case hy8 => (intro w' hS; (try dsimp only at hS); go_simp; try (with_reducible rfl))
          simp only [Act.put, sA, sB, sC, sD, sE, sF]
          refine tkH (i := 9) (v := ?v9) rfl (Or.inl ⟨by rfl, ?hy9⟩) h0_1 ?rest9
          case hy9 => (intro w' hS; (try dsimp only at hS); go_simp; try (with_reducible rfl))
          simp only [Act.put, sA, sB, sC, sD, sE, sF]
          refine tkH (i := 10) (v := ?v10) rfl (Or.inl ⟨by rfl, ?hy10⟩) h0_1 ?rest10
          case hy10 => (intro w' hS; (try dsimp only at hS); go_simp; try (with_reducible rfl))
          simp only [Act.put, sA, sB, sC, sD, sE, sF]
          refine tkH (i := 11) (v := ?v11) rfl (Or.inl ⟨by rfl, ?hy11⟩) h0_1 ?rest11
          case hy11 => (intro w' hS; (try dsimp only at hS); go_simp; try (with_reducible rfl))
          simp only [Act.put, sA, sB, sC, sD, sE, sF]
          refine tkH (i := 12) (v := ?v12) rfl (Or.inl ⟨by rfl, ?hy12⟩) h0_1 ?rest12
          case hy12 => (intro w' hS; (try dsimp only at hS); go_simp; try (with_reducible rfl))
          simp only [Act.put, sA, sB, sC, sD]
          try simp only [sF]
          try simp only [sE]
          refine wpAnyH_done (by kernel_rfl) ?_ _
          have BF := Lib.hid (below_on F3.out Bc.out)
          have WB := Lib.hid (below_on W3.out Bc.out)
          have d2 := kept WB.out C2.out
          clear h0_1 KS P8 CM
          cases bb
          · have HA2 := Lib.hid (show false = (L.take (t + 1)).all (lineB P) by rw [AS.out]; simp)
            go_wp2_with fail
            go_roundw
            case rel => exact ⟨t + 1, false, rfl, by go_num, by omega, HA2, ZN2, BF⟩
            case measure => simp [intOf]; omega
          · by_cases k1 : k < 0
            · have HA2 := Lib.hid (show true = (L.take (t + 1)).all (lineB P) by rw [AS.out]; simp [k1])
              go_wp2_with fail
              go_roundw
              case rel => exact ⟨t + 1, true, rfl, by go_num, by omega, HA2, ZN2, BF⟩
              case measure => simp [intOf]; omega
            · by_cases k2 : k = 0
              · have HA2 := Lib.hid (show (!ys) = (L.take (t + 1)).all (lineB P) by rw [AS.out]; simp [k2])
                have k2' : (k == 0) = true := by simpa using k2
                clear k2
                go_wp2_with fail
                go_roundw
                case rel => exact ⟨t + 1, !ys, rfl, by go_num, by omega, HA2, ZN2, BF⟩
                case measure => simp [intOf]; omega
              · have HA2 := Lib.hid (show false = (L.take (t + 1)).all (lineB P) by rw [AS.out]; simp [k1, k2])
                have k2' : (k == 0) = false := by simpa using k2
                clear k2
                go_wp2_with fail
                go_roundw
                case rel => exact ⟨t + 1, false, rfl, by go_num, by omega, HA2, ZN2, BF⟩
                case measure => simp [intOf]; omega
        · have e : L.take t = L := List.take_of_length_le (by have := HM.out; omega)
          rw [e] at HA
          have HE := Lib.hid (show E = 0 by
            rw [ET.out]
            refine totE_none fun y hy => ?_
            obtain ⟨k, hk, rfl⟩ := List.getElem_of_mem hy
            exact HZ.out k hk (by have := HM.out; omega))
          have HF := Lib.hid (show B = bb by rw [B1.out HE.out, HA.out])
          clear e
          go_wp2_with fail
          refine bodyPost_ret (v := .tuple #[.bool B, .int .i64 E]) (by rw [HE.out, HF.out]; simp [results, Tryz.results24, go_sem]) rfl ⟨rfl, HW.out⟩

end Go.Proofs.YtbhaoaobhgilkaaGreat
