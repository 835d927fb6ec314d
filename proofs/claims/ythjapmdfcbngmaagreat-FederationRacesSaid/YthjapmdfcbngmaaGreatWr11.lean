/- A part. -/
import Derived.Deep.RegionHeld3
import Derived.KernelRfl
import Derived.Test.YthjapmdfcbngmaaGreatWr4
import Derived.Test.YthjapmdfcbngmaaGreatWr10
import Derived.Deep.RegionHeld
namespace Go.Proofs.YthjapmdfcbngmaaGreat
set_option maxHeartbeats 4000000
theorem tkH {P : Program} {md : Region.Mode} {ops : Array Oper} {Q : Exit → Act → World → Prop} {S : World → Prop} {i : Nat} {oi : Oper} {v : Value} {fuel : Nat} {listed : Array Bool} {a : Act} {w : World} (hi : ops[i]? = some oi) (hy : YieldsIf P ops S oi v a) (hS : S w)
  (h : wpAnyH P md ops Q S fuel (listed.setIfInBounds i true) (a.put oi.dst v) w) (hs : Region.noSelect ops = true := by kernel_rfl) (hf : Region.free md ops listed i = true := by kernel_rfl) (hr : (Region.ready md ops listed).contains i = true := by kernel_rfl)
  (hQ : ∀ c a w, Q (.panic c) (a.put oi.dst v) w → Q (.panic c) a w := by exact fun _ _ _ h => h) : wpAnyH P md ops Q S (fuel + 1) listed a w := wpAnyH_take hi hs hf hr hQ hy hS h
theorem tkI {P : Program} {md : Region.Mode} {ops : Array Oper} {Q : Exit → Act → World → Prop} {S : World → Prop} {i : Nat} {oi : Oper} {v : Value} {fuel : Nat} {listed : Array Bool} {a : Act} {w : World} (hi : ops[i]? = some oi) (hS : S w)
  (h : wpAnyH P md ops Q S fuel (listed.setIfInBounds i true) (a.put oi.dst v) w) (hw : Region.wanted oi (yielded ops a.tmps) = true := by rfl)
  (hy : ∀ w, S w → (execOp a.eval oi).run P w = .ok (.value v) w := by (intro w' hS; (try dsimp only at hS); go_simp; try (with_reducible rfl)))
  (hs : Region.noSelect ops = true := by kernel_rfl) (hf : Region.free md ops listed i = true := by kernel_rfl) (hr : (Region.ready md ops listed).contains i = true := by kernel_rfl)
  (hQ : ∀ c a w, Q (.panic c) (a.put oi.dst v) w → Q (.panic c) a w := by exact fun _ _ _ h => h) : wpAnyH P md ops Q S (fuel + 1) listed a w := wpAnyH_take hi hs hf hr hQ (Or.inl ⟨hw, hy⟩) hS h
theorem tkU {P : Program} {md : Region.Mode} {ops : Array Oper} {Q : Exit → Act → World → Prop} {S : World → Prop} {i : Nat} {oi : Oper} {fuel : Nat} {listed : Array Bool} {a : Act} {w : World} (hi : ops[i]? = some oi) (hS : S w)
  (h : wpAnyH P md ops Q S fuel (listed.setIfInBounds i true) (a.put oi.dst undef) w) (hw : Region.wanted oi (yielded ops a.tmps) = false := by rfl)
  (hs : Region.noSelect ops = true := by kernel_rfl) (hf : Region.free md ops listed i = true := by kernel_rfl) (hr : (Region.ready md ops listed).contains i = true := by kernel_rfl)
  (hQ : ∀ c a w, Q (.panic c) (a.put oi.dst undef) w → Q (.panic c) a w := by exact fun _ _ _ h => h) : wpAnyH P md ops Q S (fuel + 1) listed a w := wpAnyH_take hi hs hf hr hQ (Or.inr ⟨hw, rfl⟩) hS h
theorem sA {α : Type _} {xs : List α} {i : Nat} (h : i < xs.toArray.size) : xs.toArray[i] = xs[i]'(by simpa using h) := List.getElem_toArray h
theorem sB {α : Type _} (a : α) (l : List α) (h : 0 < (a :: l).length) : (a :: l)[0] = a := List.getElem_cons_zero a l h
theorem sC {α : Type _} (a : α) (l : List α) (i : Nat) (h : i + 1 < (a :: l).length) : (a :: l)[i + 1] = l[i]'(by simpa using h) := List.getElem_cons_succ a l i h
theorem sD {α : Type _} (l : List α) (i : Nat) (a : α) : l.toArray.setIfInBounds i a = (l.set i a).toArray := List.setIfInBounds_toArray l i a
theorem sE {α : Type _} {x a : α} {xs : List α} : (x :: xs).set 0 a = a :: xs := List.set_cons_zero
theorem sF {α : Type _} {x a : α} {xs : List α} {i : Nat} : (x :: xs).set (i + 1) a = x :: xs.set i a := List.set_cons_succ
/-- All of them at once. -/
theorem sZ : (∀ (α : Type) (xs : List α) (i : Nat) (h : i < xs.toArray.size), xs.toArray[i] = xs[i]'(by simpa using h)) ∧ (∀ (α : Type) (a : α) (l : List α) (h : 0 < (a :: l).length), (a :: l)[0] = a) ∧
  (∀ (α : Type) (a : α) (l : List α) (i : Nat) (h : i + 1 < (a :: l).length), (a :: l)[i + 1] = l[i]'(by simpa using h)) ∧ (∀ (α : Type) (l : List α) (i : Nat) (a : α), l.toArray.setIfInBounds i a = (l.set i a).toArray) ∧
  (∀ (α : Type) (x a : α) (xs : List α), (x :: xs).set 0 a = a :: xs) ∧ (∀ (α : Type) (x a : α) (xs : List α) (i : Nat), (x :: xs).set (i + 1) a = x :: xs.set i a) :=
 ⟨fun _ _ _ h => sA h, fun _ a l h => sB a l h, fun _ a l i h => sC a l i h, fun _ l i a => sD l i a, fun _ _ _ _ => sE, fun _ _ _ _ _ => sF⟩
end Go.Proofs.YthjapmdfcbngmaaGreat
namespace Go.Proofs.YthjapmdfcbngmaaGreat.Zo
def Wl (x : Int) : Prop := x = 1099511627776 ∨ (-4294967296 ≤ x ∧ x ≤ 4294967297)
theorem Vl.wl {x : Int} (h : Vl x) : Wl x := by unfold Vl at h; unfold Wl; omega
theorem pre_wl {n : Nat} {l : List Int} (hl : l.length = (n + 1) * (n + 1)) (hv : ∀ a b, a ≤ n → b ≤ n → Wl (At n l a b)) : ∀ a b, a ≤ n → b ≤ n → Wl (At n (pre n l) a b) := by
 refine (pre_keeps (R := fun x : List Int => x.length = (n + 1) * (n + 1) ∧ ∀ a b, a ≤ n → b ≤ n → Wl (At n x a b)) (fun x i j _ hi hj hx => ⟨by simpa using hx.1, fun a b ha hb => ?_⟩) ⟨hl, hv⟩).2
 rw [At_set hx.1 hi hj _ hb]
 split
 · have := hx.2 i j hi hj
   unfold Wl at this ⊢
   omega
 · exact hx.2 a b ha hb
theorem clo_repW {n : Nat} {l : List Int} (hn : n ≤ 10) (hl : l.length = (n + 1) * (n + 1)) (hv : ∀ a b, a ≤ n → b ≤ n → Wl (At n l a b)) (hd : ∀ i, i ≤ n → 1 ≤ At n (clo n l) i i) :
  ∀ t, t ≤ n + 1 → Rep n (rnd n l t) (fw (mat n l) t) ∧ ∀ k, k < t → fw (mat n l) k k k = some 1 := by
 have pv := pre_wl hl hv
 have hm : ∀ i j x, mat n l i j = some x → x ≤ 4294967297 ∧ -4294967297 + 1 ≤ x := by
  intro i j x h
  unfold mat at h
  split at h
  · rename_i c
    have := pv i j c.1 c.2
    unfold dec at h
    unfold Wl at this
    split at h
    · simp at h
    · simp at h; omega
  · simp at h
 have dg : ∀ t, t ≤ n + 1 → ∀ i, i ≤ n → At n (rnd n l t) i i = 1 := by
  intro t ht i hi
  have h1 := rnd_le hl t (n + 1 - t) (by omega) i i hi hi
  rw [show t + (n + 1 - t) = n + 1 by omega] at h1
  have h2 := rnd_le hl 0 t (by omega) i i hi hi
  have h3 := (pre_low hl i hi).1
  have h4 := hd i hi
  have e : rnd n l (n + 1) = clo n l := rfl
  have e0 : rnd n l 0 = pre n l := rfl
  rw [e] at h1
  rw [e0, Nat.zero_add] at h2
  omega
 intro t
 induction t with
 | zero =>
  intro _
  refine ⟨⟨rnd_length hl 0 (by omega), fun a b ha hb => ?_⟩, fun k hk => by omega⟩
  show At n (pre n l) a b = enc (mat n l a b)
  unfold mat
  rw [if_pos ⟨ha, hb⟩, enc_dec]
 | succ t ih =>
  intro ht
  obtain ⟨hr, hdg⟩ := ih (by omega)
  have htt : fw (mat n l) t t t = some 1 := by
   have h1 := hr.2 t t (by omega) (by omega)
   rw [dg t (by omega) t (by omega)] at h1
   cases e : fw (mat n l) t t t with
   | none => rw [e] at h1; simp [enc] at h1
   | some x => rw [e] at h1; simp [enc] at h1; rw [h1]
  have all : ∀ k, k < t + 1 → fw (mat n l) k k k = some 1 := by
   intro k hk
   by_cases e : k = t
   · rw [e]; exact htt
   · exact hdg k (by omega)
  have hB : Bd (fw (mat n l) t) := by
   intro i j x h
   constructor
   · have := fw_low (c := 4294967297) (by omega) (fun i j x h => (hm i j x h).2) t i j x h
     have p : (2 : Int) ^ t ≤ 2 ^ 11 := by
      have : (2 : Nat) ^ t ≤ 2 ^ 11 := Nat.pow_le_pow_right (by omega) (by omega)
      exact_mod_cast this
     omega
   · obtain ⟨S, _, hx⟩ := fw_bound (U := 4294967297) (fun i j x h => (hm i j x h).1) t hdg i j x h
     have := cnt_le S t
     omega
  refine ⟨?_, all⟩
  rw [rnd_succ]
  exact round_rep hB htt (by omega) hr
theorem fw_bd {n : Nat} {l : List Int} (hn : n ≤ 10) (hl : l.length = (n + 1) * (n + 1)) (hv : ∀ a b, a ≤ n → b ≤ n → Wl (At n l a b)) (hd : ∀ i, i ≤ n → 1 ≤ At n (clo n l) i i) :
  Rep n (clo n l) (fw (mat n l) (n + 1)) ∧ Tri (n + 1) (fw (mat n l) (n + 1)) ∧ Bd (fw (mat n l) (n + 1)) ∧ ∀ k, k ≤ n → fw (mat n l) (n + 1) k k = some 1 := by
 obtain ⟨hr, hdg⟩ := clo_repW hn hl hv hd (n + 1) (Nat.le_refl _)
 have pv := pre_wl hl hv
 have hm : ∀ i j x, mat n l i j = some x → x ≤ 4294967297 ∧ -4294967297 + 1 ≤ x := by
  intro i j x h
  unfold mat at h
  split at h
  · rename_i c
    have := pv i j c.1 c.2
    unfold dec at h
    unfold Wl at this
    split at h
    · simp at h
    · simp at h; omega
  · simp at h
 refine ⟨hr, tri_fw (n + 1) hdg, ?_, ?_⟩
 · intro i j x h
   constructor
   · have := fw_low (c := 4294967297) (by omega) (fun i j x h => (hm i j x h).2) (n + 1) i j x h
     have p : (2 : Int) ^ (n + 1) ≤ 2 ^ 11 := by
      have : (2 : Nat) ^ (n + 1) ≤ 2 ^ 11 := Nat.pow_le_pow_right (by omega) (by omega)
      exact_mod_cast this
     omega
   · obtain ⟨S, _, hx⟩ := fw_bound (U := 4294967297) (fun i j x h => (hm i j x h).1) (n + 1) hdg i j x h
     have := cnt_le S (n + 1)
     omega
 · intro k hk
   have h1 := hr.2 k k hk hk
   have h2 := hd k hk
   have h3 := clo_below hl (k := 0) (i := 0) (by omega) (by omega) hk hk
   have h4 := (pre_low hl k hk).1
   have e : (List.range 0).foldl (rlxJ n 0) (rnd n l 0) = pre n l := rfl
   rw [e] at h3
   have e2 : At n (rnd n l (n + 1)) k k = 1 := by
    show At n (clo n l) k k = 1
    omega
   rw [e2] at h1
   cases e : fw (mat n l) (n + 1) k k with
   | none => rw [e] at h1; simp [enc] at h1
   | some x => rw [e] at h1; simp [enc] at h1; rw [h1]
theorem clo_sums {n : Nat} {l : List Int} (hn : n ≤ 10) (hl : l.length = (n + 1) * (n + 1)) (hv : ∀ a b, a ≤ n → b ≤ n → Wl (At n l a b)) (hd : ∀ i, i ≤ n → 1 ≤ At n (clo n l) i i) :
  ∀ i j k, i ≤ n → j ≤ n → k ≤ n → At n (clo n l) i j ≤ smW (At n (clo n l) i k) (At n (clo n l) k j) := by
 intro i j k hi hj hk
 obtain ⟨rep, tri, bd, _⟩ := fw_bd hn hl hv hd
 have t := tri k (by omega) i j
 rw [rep.2 i j hi hj, rep.2 i k hi hk, rep.2 k j hk hj]
 have st := enc_step (a := fw (mat n l) (n + 1) i j) (b := fw (mat n l) (n + 1) i k) (c := fw (mat n l) (n + 1) k j) (fun x h => (bd i j x h).2) (fun x h => bd i k x h) (fun x h => bd k j x h)
 rw [mn_eq_left t] at st
 rw [← st]
 exact Int.min_le_right _ _
end Go.Proofs.YthjapmdfcbngmaaGreat.Zo
namespace Go.Proofs.YthjapmdfcbngmaaGreat
open Go.RowKit
theorem vl_of_lv {x : Int} (h : lvB x = true) : Zo.Vl x := by
 unfold lvB at h; simp at h; exact h
theorem lv_of_all {n : Nat} {l : List Int} (hl : l.length = (n + 1) * (n + 1)) (hv : rdL l = true) : ∀ a b, a ≤ n → b ≤ n → lvB (Zo.At n l a b) = true := by
 intro a b ha hb
 have hi := Zo.ix_lt ha hb
 rw [← hl] at hi
 unfold rdL at hv
 rw [List.all_eq_true] at hv
 have := hv _ (List.getElem_mem hi)
 have e : l[Zo.ix n a b] = Zo.At n l a b := by simp [Zo.At, Zo.gt, hi]
 rwa [e] at this
theorem vl_of {n : Nat} {l : List Int} (hl : l.length = (n + 1) * (n + 1)) (hv : rdL l = true) : ∀ a b, a ≤ n → b ≤ n → Zo.Vl (Zo.At n l a b) :=
 fun a b ha hb => vl_of_lv (lv_of_all hl hv a b ha hb)
theorem all_of_lv {n : Nat} {l : List Int} (hl : l.length = (n + 1) * (n + 1)) (hv : ∀ a b, a ≤ n → b ≤ n → lvB (Zo.At n l a b) = true) : rdL l = true := by
 unfold rdL
 rw [List.all_eq_true]
 intro x hx
 obtain ⟨i, hi, rfl⟩ := List.getElem_of_mem hx
 have h1 : i / (n + 1) ≤ n := by
  have : i < (n + 1) * (n + 1) := by omega
  have := Nat.div_lt_of_lt_mul this
  omega
 have h2 : i % (n + 1) ≤ n := by have := Nat.mod_lt i (show 0 < n + 1 by omega); omega
 have := hv _ _ h1 h2
 rwa [show Zo.At n l (i / (n + 1)) (i % (n + 1)) = l[i] by
  unfold Zo.At Zo.ix Zo.gt
  rw [show i / (n + 1) * (n + 1) + i % (n + 1) = i by rw [Nat.mul_comm]; exact Nat.div_add_mod i (n + 1)]
  simp [hi]] at this
theorem a64_of {l : List Int} (hv : rdL l = true) : Zo.A64 l := by
 intro j
 by_cases hj : j < l.length
 · unfold rdL at hv
   rw [List.all_eq_true] at hv
   have := vl_of_lv (hv _ (List.getElem_mem hj))
   rw [show l[j] = Zo.gt l j by simp [Zo.gt, hj]] at this
   unfold Zo.Vl at this
   omega
 · have : Zo.gt l j = 0 := by unfold Zo.gt; rw [List.getD_eq_getElem?_getD, List.getElem?_eq_none (by omega)]; rfl
   omega
theorem clo_fix {n : Nat} {l : List Int} (hl : l.length = (n + 1) * (n + 1)) (h1 : ∀ a, a ≤ n → Zo.At n l a a ≤ 1) (h2 : ∀ a, a ≤ n → Zo.At n l 0 a ≤ 1)
  (h3 : ∀ i j k, i ≤ n → j ≤ n → k ≤ n → Zo.At n l i j ≤ Zo.smW (Zo.At n l i k) (Zo.At n l k j)) : Zo.clo n l = l := by
 have same : ∀ i j (y : Int), i ≤ n → j ≤ n → Zo.At n l i j ≤ y → l.set (Zo.ix n i j) (min (Zo.At n l i j) y) = l := by
  intro i j y hi hj hy
  have hlt := Zo.ix_lt hi hj
  rw [← hl] at hlt
  rw [Int.min_eq_left hy]
  have : Zo.At n l i j = l[Zo.ix n i j] := by simp [Zo.At, Zo.gt, hlt]
  rw [this, List.set_getElem_self]
 refine Zo.clo_keeps (R := fun x => x = l) (fun x i j hij hi hj hx => ?_) (fun x k i j hk hi hj hx => ?_) rfl
 · subst hx
   refine same i j 1 hi hj ?_
   rcases hij with rfl | rfl
   · exact h2 j hj
   · exact h1 i hi
 · subst hx
   exact same i j _ hi hj (h3 i j k hi hj hk)
theorem diag_of {n : Nat} {l : List Int} (h : cloB n l = false) : ∀ a, a ≤ n → 1 ≤ Zo.At n (Zo.clo n l) a a := by
 intro a ha
 unfold cloB at h
 rw [List.any_eq_false] at h
 have := h a (List.mem_range.2 (by omega))
 simp at this
 exact this
theorem clo_low {n : Nat} {l : List Int} (hl : l.length = (n + 1) * (n + 1)) : ∀ a, a ≤ n → Zo.At n (Zo.clo n l) a a ≤ 1 ∧ Zo.At n (Zo.clo n l) 0 a ≤ 1 := by
 intro a ha
 have h := Zo.pre_low hl a ha
 have b1 := Zo.clo_below hl (k := 0) (i := 0) (by omega) (by omega) ha ha
 have b2 := Zo.clo_below hl (k := 0) (i := 0) (by omega) (by omega) (show 0 ≤ n by omega) ha
 have e : (List.range 0).foldl (Zo.rlxJ n 0) (Zo.rnd n l 0) = Zo.pre n l := rfl
 rw [e] at b1 b2
 exact ⟨Int.le_trans b1 h.1, Int.le_trans b2 h.2⟩
theorem clo_tri_int {n : Nat} {l : List Int} (hn : n ≤ 10) (hl : l.length = (n + 1) * (n + 1)) (hv : rdL l = true) (hB : cloB n l = false) :
  ∀ i j k, i ≤ n → j ≤ n → k ≤ n → Zo.At n (Zo.clo n l) i j ≤ Zo.smW (Zo.At n (Zo.clo n l) i k) (Zo.At n (Zo.clo n l) k j) := by
 exact Zo.clo_sums hn hl (fun a b ha hb => (vl_of hl hv a b ha hb).wl) (diag_of hB)
theorem chk_iff {n : Nat} {l : List Int} (hn : n ≤ 10) (hl : l.length = (n + 1) * (n + 1)) (hv : rdL l = true) : chkE n l = 0 ↔ (cloB n l = false ∧ Zo.clo n l = l) := by
 have d : dimB (n : Int) = true := by unfold dimB; simp; omega
 constructor
 · intro h
   have hc : chkB n l = true := by
    unfold chkE at h
    cases e : chkB n l
    · rw [e] at h; simp at h
    · rfl
   unfold chkB at hc
   simp only [Bool.and_eq_true, Int.toNat_natCast] at hc
   have h1 := chk1_iff.1 hc.1.2
   have h2 := chk2_iff.1 hc.2
   have dg : ∀ a, a ≤ n → Zo.At n l a a = 1 := by
    intro a ha
    have := h1 a (by omega) a (by omega)
    unfold okI at this
    simp at this
    exact this.1.2
   have r0 : ∀ a, a ≤ n → Zo.At n l 0 a ≤ 1 := by
    intro a ha
    have := h1 0 (by omega) a (by omega)
    unfold okI at this
    simp at this
    exact this.2
   have tr : ∀ i j k, i ≤ n → j ≤ n → k ≤ n → Zo.At n l i j ≤ Zo.smW (Zo.At n l i k) (Zo.At n l k j) := by
    intro i j k hi hj hk
    have := h2 i (by omega) j (by omega) k (by omega)
    unfold okT at this
    simpa using this
   have e := clo_fix hl (fun a ha => by rw [dg a ha]; omega) r0 tr
   refine ⟨cloB_no fun i hi => ?_, e⟩
   rw [e, dg i (by omega)]
   omega
 · intro ⟨hB, e⟩
   have dg := diag_of hB
   have lo := clo_low hl
   have tr := clo_tri_int hn hl hv hB
   rw [e] at dg lo tr
   refine chkE_ok hn hl (fun i hi j hj => ?_) (fun i hi j hj k hk => ?_)
   · unfold okI
     rw [lv_of_all hl hv i j (by omega) (by omega)]
     simp only [Bool.true_and, Bool.and_eq_true, Bool.or_eq_true, decide_eq_true_eq]
     constructor
     · by_cases c : i = j
       · right
         subst c
         have := dg i (by omega)
         have := (lo i (by omega)).1
         omega
       · exact Or.inl c
     · by_cases c : i = 0
       · right
         subst c
         exact (lo j (by omega)).2
       · exact Or.inl c
   · unfold okT
     simpa using tr i j k (by omega) (by omega) (by omega)
theorem chk_read {N : Int} {l : List Int} (h : rdB N l = false) : chkE N l = 2 := by
 unfold rdB at h
 cases hd : dimB N
 · exact chkE_bad1 hd
 · by_cases hl : l.length = (N.toNat + 1) * (N.toNat + 1)
   · rw [hd] at h
     simp only [hl, decide_true, Bool.true_and] at h
     obtain ⟨n, rfl, hn⟩ := dim_nat hd
     simp only [Int.toNat_natCast] at hl
     by_cases hc : chkE n l = 0
     · have hc2 : chkB n l = true := by
        unfold chkE at hc
        cases e : chkB n l
        · rw [e] at hc; simp at hc
        · rfl
       unfold chkB at hc2
       simp only [Bool.and_eq_true, Int.toNat_natCast] at hc2
       have h1 := chk1_iff.1 hc2.1.2
       have : rdL l = true := all_of_lv hl fun a b ha hb => by
        have := h1 a (by omega) b (by omega)
        unfold okI at this
        simp at this
        exact this.1.1
       unfold rdL at this
       rw [this] at h; cases h
     · exact chk_two hc
   · exact chkE_bad2 hl
def rdW (N : Int) (l : List Int) : Array Value := if rdB N l then mcs N.toNat l else mcs 0 []
theorem read_gen (N : Int) (l : List Int) (ao : Option Addr) (cap : Nat) (w : World) (hA : Arg w ao l) :
  Calls Tryz.prog 153 #[.int .i64 N, .slice ao l.length cap] w (fun e w' => e = .returned (.tuple #[.agg (rdW N l), .bool (rdB N l)]) ∧ Below w.heap.size w w') := by
 cases hd : dimB N
 · refine (read_bad1 N l ao cap w hd).mono ?_
   rintro e w' ⟨rfl, hb⟩
   have : rdB N l = false := by unfold rdB; rw [hd]; rfl
   exact ⟨by unfold rdW; rw [this]; rfl, hb⟩
 · obtain ⟨n, rfl, hn⟩ := dim_nat hd
   by_cases hl : l.length = (n + 1) * (n + 1)
   · have hne : l ≠ [] := by
      intro e; subst e
      have := dsq_pos n
      simp at hl
     obtain ⟨a, rfl, hR⟩ := hA hne
     refine (read_loop n l a cap w hn hl hR).mono ?_
     rintro e w' ⟨rfl, hb⟩
     have : rdB n l = rdL l := by unfold rdB rdL; rw [hd]; simp [hl]
     exact ⟨by unfold rdW rdV; rw [this]; rfl, hb⟩
   · refine (read_bad2 n l ao cap w hn hl).mono ?_
     rintro e w' ⟨rfl, hb⟩
     have : rdB n l = false := by unfold rdB; simp [hl]
     exact ⟨by unfold rdW; rw [this]; rfl, hb⟩
theorem rdB_ok {N : Int} {l : List Int} (h : rdB N l = true) : ∃ n : Nat, N = n ∧ n ≤ 10 ∧ l.length = (n + 1) * (n + 1) ∧ rdL l = true := by
 unfold rdB at h
 simp only [Bool.and_eq_true, decide_eq_true_eq] at h
 obtain ⟨n, rfl, hn⟩ := dim_nat h.1.1
 exact ⟨n, rfl, hn, by simpa using h.1.2, h.2⟩
theorem Var.far {w : World} {b b' : Nat} {cs : Array Value} (h : Var w b cs) (hne : b' ≠ b) (cs' : Array Value) : Var (w.setRow b' cs') b cs := ⟨(setRow_other w b' b cs' (by omega)).trans h.1, h.2⟩
set_option maxRecDepth 100000 in
theorem open_bad (N : Int) (l : List Int) (ao : Option Addr) (cap : Nat) (w : World) (hA : Arg w ao l) (hr : rdB N l = false) :
  Calls Tryz.prog 131 #[.agg #[.int .i64 N, .slice ao l.length cap]] w (fun e w' => e = .returned (.tuple #[.agg (mcs 0 []), .bool false]) ∧ Below w.heap.size w w') := by
 have hz := mx_zero
 have h0 := mx_build0
 have CR := Lib.hid (show ∀ W, Below w.heap.size w W → Calls Tryz.prog 153 #[.int .i64 N, .slice ao l.length cap] W (fun e w' => e = .returned (.tuple #[.agg (mcs 0 []), .bool false]) ∧ Below W.heap.size W w') from fun W h => by
  have := read_gen N l ao cap W (hA.on h)
  rwa [hr, show rdW N l = mcs 0 [] by unfold rdW; rw [hr]; rfl] at this)
 generalize l.length = len at *
 obtain ⟨w0, hw0⟩ : ∃ w0, w0 = (w.alloc (.cells #[.int .i64 N, .slice ao len cap] 36)).alloc (.cells (mcs 0 []) 120) := ⟨_, rfl⟩
 have b0 : w0.cell? ⟨w.heap.size, 0, none⟩ = some (.int .i64 N) := by rw [hw0]; go_simp
 have b1 : w0.cell? ⟨w.heap.size, 1, none⟩ = some (.slice ao len cap) := by rw [hw0]; go_simp
 have V0 : Var w0 (w.heap.size + 1) (mcs 0 []) := by
  rw [hw0]
  have := Var.made (w.alloc (.cells #[.int .i64 N, .slice ao len cap] 36))
  simpa using this
 have E0 := Lib.hid (show Below w.heap.size w w0 by rw [hw0]; exact past_two (Below.refl _ _))
 have HV := Lib.hid V0
 clear V0 hA
 go_enter Tryz.func131, Tryz.ntmps131
 go_wp2_with fail
 rw [← hw0]
 clear hw0
 refine (CR.out _ E0.out).mono ?_
 rintro e w1 ⟨rfl, hb⟩
 have V1 := HV.out.kept hb
 have E1 := below_on E0.out hb
 have hle := E1.size
 have V2 := (V1.kept (one_more (.cells (mcs 0 []) 120)))
 have V3 := V2.far (b' := w1.heap.size) (by have := V1.lt; omega) (mcs 0 [])
 have HV3 := Lib.hid V3
 have HE := Lib.hid E1
 have sz := mcs_size (n := 0) (l := []) (by simp)
 clear V1 V2 V3 E1 hb b0 b1
 go_wp2_with (first | refine wpl_store rfl _ _ rfl _ _ rfl rfl _ (Var.made _) sz (mcs_one _ _) ?_ | refine wpl_store rfl _ _ rfl _ _ rfl rfl _ HV3.out sz (mcs_one _ _) ?_)
 refine bodyPost_ret (results_mx Tryz.results131 _ rfl rfl (HV3.out.put (mcs 0 []) sz)) rfl ⟨rfl, ?_⟩
 exact Below.setRow (Below.setRow (HE.out.alloc hle _) hle _) (by omega) _
theorem yld_load {o : Oper} {a : Act} {w : World} (x : Operand) (ho : o.op = .load 120 x) (b : Nat) (hx : a.eval x = .pointer (some ⟨b, 0, none⟩)) (cs : Array Value) (hv : Var w b cs) :
  (execOp a.eval o).run Tryz.prog w = .ok (.value (.agg cs)) w := by
 unfold execOp
 simp only [ho, hx, Sem.run_bind, mx_loadAt hv.1 hv.2, Result.andThen_ok, Sem.run_pure]
theorem mx_guard (x y : Operand) (xs ys : Array Value) (w : World) : (eqGuard .eql 120 x y (.agg xs) (.agg ys)).run Tryz.prog w = .ok () w := run_eqGuard_agg (P := Tryz.prog) w .eql _ x y xs ys (by kernel_rfl)
theorem yld_eql {o : Oper} {a : Act} {w : World} (x y : Operand) (t : TypeId) (ho : o.op = .binOp .eql 120 x y t) (n : Nat) (l m : List Int) (hl : l.length ≤ 121) (hm : m.length = l.length) (hx : a.eval x = .agg (mcs n l)) (hy : a.eval y = .agg (mcs n m)) :
  (execOp a.eval o).run Tryz.prog w = .ok (.value (.bool (decide (l = m)))) w := by
 unfold execOp
 simp only [ho, hx, hy, Sem.run_bind, mx_guard, run_mx_eq n l m hl hm, Result.andThen_ok, Sem.run_pure]
set_option maxRecDepth 100000 in
theorem open_ok (n : Nat) (l : List Int) (ao : Option Addr) (cap : Nat) (w : World) (hA : Arg w ao l) (hn : n ≤ 10) (hl : l.length = (n + 1) * (n + 1)) (hv : rdL l = true) :
  Calls Tryz.prog 131 #[.agg #[.int .i64 n, .slice ao l.length cap]] w (fun e w' => e = .returned (.tuple #[.agg (mcs n l), .bool (decide (chkE n l = 0))]) ∧ Below w.heap.size w w') := by
 have hz := mx_zero
 have hr : rdB n l = true := by unfold rdB; rw [show dimB (n : Int) = true by unfold dimB; simp; omega]; simp only [Int.toNat_natCast, hl, decide_true, Bool.true_and]; exact hv
 have CR := Lib.hid (show ∀ W, Below w.heap.size w W → Calls Tryz.prog 153 #[.int .i64 n, .slice ao l.length cap] W (fun e w' => e = .returned (.tuple #[.agg (mcs n l), .bool true]) ∧ Below W.heap.size W w') from fun W h => by
  have := read_gen n l ao cap W (hA.on h)
  rwa [hr, show rdW n l = mcs n l by unfold rdW; rw [hr]; rfl] at this)
 have sz : (mcs n l).size = 122 := mcs_size (by rw [hl]; exact dsq_le hn)
 have HC := Lib.hid (chk_iff hn hl hv)
 have HL := Lib.hid hl
 have H64 := Lib.hid (a64_of hv)
 clear hr hA hv
 generalize l.length = len at CR ⊢
 obtain ⟨w0, hw0⟩ : ∃ w0, w0 = (w.alloc (.cells #[.int .i64 n, .slice ao len cap] 36)).alloc (.cells (mcs 0 []) 120) := ⟨_, rfl⟩
 have b0 : w0.cell? ⟨w.heap.size, 0, none⟩ = some (.int .i64 n) := by rw [hw0]; go_simp
 have b1 : w0.cell? ⟨w.heap.size, 1, none⟩ = some (.slice ao len cap) := by rw [hw0]; go_simp
 have V0 : Var w0 (w.heap.size + 1) (mcs 0 []) := by
  rw [hw0]
  have := Var.made (w.alloc (.cells #[.int .i64 n, .slice ao len cap] 36))
  simpa using this
 have E0 := Lib.hid (show Below w.heap.size w w0 by rw [hw0]; exact past_two (Below.refl _ _))
 have HV := Lib.hid V0
 clear V0
 go_enter Tryz.func131, Tryz.ntmps131
 go_wp2_with fail
 rw [← hw0]
 clear hw0
 go_wp2_with fail
 refine (CR.out _ E0.out).mono ?_
 rintro e w1 ⟨rfl, hb⟩
 have V1 := HV.out.kept hb
 have E1 := below_on E0.out hb
 have hle := E1.size
 have V2 := (V1.kept (one_more (.cells (mcs 0 []) 120)))
 have V3 := V2.far (b' := w1.heap.size) (by have := V1.lt; omega) (mcs n l)
 have V4 := (Var.made w1).put (mcs n l) sz
 have HV3 := Lib.hid V3
 have HV4 := Lib.hid V4
 have HE := Lib.hid (show Below w.heap.size w ((w1.alloc (.cells (mcs 0 []) 120)).setRow w1.heap.size (mcs n l)) from Below.setRow (E1.alloc hle _) hle _)
 have hlt := V1.lt
 have V6 := Var.made ((w1.alloc (.cells (mcs 0 []) 120)).setRow w1.heap.size (mcs n l))
 rw [show ((w1.alloc (.cells (mcs 0 []) 120)).setRow w1.heap.size (mcs n l)).heap.size = w1.heap.size + 1 by simp] at V6
 have HV6 := Lib.hid V6
 clear V1 V2 V3 V4 V6 E1 hb b0 b1
 go_wp2_with (first | refine wpl_store rfl _ _ rfl _ _ rfl rfl _ (Var.made _) sz (mcs_one _ _) ?_ | refine wpl_load rfl _ rfl _ rfl _ HV4.out ?_ | refine wpl_store rfl _ _ rfl _ _ rfl rfl _ HV6.out sz (mcs_one _ _) ?_)
 obtain ⟨w6, hw6⟩ : ∃ w6, w6 = (((w1.alloc (.cells (mcs 0 []) 120)).setRow w1.heap.size (mcs n l)).alloc (.cells (mcs 0 []) 120)).setRow (w1.heap.size + 1) (mcs n l) := ⟨_, rfl⟩
 have R6 : Var w6 (w.heap.size + 1) (mcs 0 []) := by rw [hw6]; exact (HV3.out.kept (one_more _)).far (by omega) _
 have M6 : Var w6 w1.heap.size (mcs n l) := by rw [hw6]; exact (HV4.out.kept (one_more _)).far (by omega) _
 have C6 : Mx w6 (w1.heap.size + 1) n l := by rw [hw6]; exact ⟨(HV6.out.put (mcs n l) sz).1, HL.out⟩
 have E6 : Below w.heap.size w w6 := by rw [hw6]; exact Below.setRow (HE.out.alloc (by simp; omega) _) (by omega) _
 rw [← hw6]
 have HR6 := Lib.hid R6
 have HM6 := Lib.hid M6
 have HC6 := Lib.hid C6
 have HE6 := Lib.hid E6
 clear hw6 R6 M6 C6 E6 HV3 HV4 HV6 HE CR
 simp only [Act.put]
 refine wp_region_held_drew (S := fun w' => Var w' w1.heap.size (mcs n l)) (by kernel_rfl) HM6.out (fun h0 => ?_)
 refine tkH (i := 0) (v := .agg (mcs n l)) rfl (Or.inl ⟨by rfl, fun w' hS => yld_load _ rfl _ rfl _ hS⟩) h0 ?_
 simp only [Act.put, sA, sB, sD, sE, sF]
 refine wpAnyH_ready (rs := [1]) (by kernel_rfl) (by simp) (AllReadyH.cons rfl (fun K hK => ?_) AllReadyH.nil)
 rw [if_pos (by rfl)]
 go_simp
 refine (shorten_any (w1.heap.size + 1) n l w6.drew hn HC6.out.drew H64.out).mono ?_
 rintro e w7 ⟨rfl, l', hM, hc⟩
 go_simp
 have M7 : Var w7 w1.heap.size (mcs n l) := ⟨(hM.2.block _ HM6.out.lt (by simp)).trans HM6.out.1, HM6.out.2⟩
 have R7 := Lib.hid (show Var w7 (w.heap.size + 1) (mcs 0 []) from ⟨(hM.2.block _ HR6.out.lt (by simp; omega)).trans HR6.out.1, HR6.out.2⟩)
 have E7 := Lib.hid (grown_over HE6.out.drew hM.2 (by omega))
 have HM7 := Lib.hid hM.1
 have HC7 := Lib.hid hc
 clear hM hc hz HE6 HR6 HM6 HC6
 refine hK.out _ _ M7 (fun h1 => ?_)
 clear hK K h0 M7
 cases hB : cloB n l
 · simp only [Bool.not_false]
   have hcl := HC7.out hB
   subst hcl
   have HE := Lib.hid (show decide (chkE n l = 0) = decide (Zo.clo n l = l) by
    rw [decide_eq_decide, HC.out, hB]; simp)
   refine tkH (i := 2) (v := .bool true) rfl (Or.inl ⟨by rfl, fun w' hS => by go_simp⟩) h1 ?_
   simp only [Act.put, sZ]
   refine tkH (i := 4) (v := .agg (mcs n l)) rfl (Or.inl ⟨by rfl, fun w' hS => yld_load _ rfl _ rfl _ hS⟩) h1 ?_
   simp only [Act.put, sZ]
   have szc : (mcs n (Zo.clo n l)).size = 122 := mcs_size (by rw [Zo.clo_length, hl]; exact dsq_le hn)
   refine wpAnyH_ready (rs := [3, 7]) (by kernel_rfl) (by simp) (AllReadyH.cons rfl (fun K hK => ?_) (AllReadyH.cons rfl (fun K hK => ?_) AllReadyH.nil))
   · rw [if_pos (by rfl)]
     refine wp_load_row _ _ rfl (w1.heap.size + 1) rfl _ (mcs n (Zo.clo n l)) (0, 0) _ HM7.out.1 Tryz.underlying120 rfl (by rw [szc]; exact mx_size) ?_
     refine hK.out _ _ h1 (fun h2 => ?_)
     clear hK K
     simp only [Act.put, sZ]
     refine tkH (i := 5) (v := .bool (decide (Zo.clo n l = l))) rfl (Or.inl ⟨by rfl, fun w' _ => yld_eql _ _ _ rfl n (Zo.clo n l) l (by rw [Zo.clo_length, hl]; exact dsq_le hn) (by rw [Zo.clo_length]) rfl rfl⟩) h2 ?_
     simp only [Act.put, sZ]
     refine tkH (i := 6) (v := .bool (decide (Zo.clo n l = l))) rfl (Or.inl ⟨by rfl, fun w' hS => by go_simp⟩) h2 ?_
     simp only [Act.put, sZ]
     refine wpAnyH_ready (rs := [7]) (by kernel_rfl) (by simp) (AllReadyH.cons rfl (fun K hK => ?_) AllReadyH.nil)
     rw [if_pos (by rfl)]
     refine wp_store_row _ _ _ rfl (w.heap.size + 1) (mcs n l) rfl rfl _ _ R7.out.1 (by rw [sz]; exact mx_size) (by rw [R7.out.2, sz]) (mcs_one _ _) ?_
     refine hK.out _ _ (h2.far (by omega) _) (fun h3 => ?_)
     clear hK K
     simp only [Act.put, sA, sB, sC]
     refine tkH (i := 8) (v := .bool (decide (Zo.clo n l = l))) rfl (Or.inl ⟨by rfl, fun w' hS => by go_simp⟩) h3 ?_
     simp only [Act.put, sZ]
     refine wpAnyH_done (by kernel_rfl) ?_ _
     go_wp2_with fail
     refine bodyPost_ret (results_mx Tryz.results131 _ rfl rfl (R7.out.put (mcs n l) sz)) rfl ⟨by rw [HE.out]; rfl, ?_⟩
     exact Below.setRow E7.out (by omega) _
   · rw [if_pos (by rfl)]
     refine wp_store_row _ _ _ rfl (w.heap.size + 1) (mcs n l) rfl rfl _ _ R7.out.1 (by rw [sz]; exact mx_size) (by rw [R7.out.2, sz]) (mcs_one _ _) ?_
     refine hK.out _ _ (h1.far (by omega) _) (fun h2 => ?_)
     clear hK K
     simp only [Act.put, sA, sB, sC]
     refine wpAnyH_ready (rs := [3]) (by kernel_rfl) (by simp) (AllReadyH.cons rfl (fun K hK => ?_) AllReadyH.nil)
     rw [if_pos (by rfl)]
     refine wp_load_row _ _ rfl (w1.heap.size + 1) rfl _ (mcs n (Zo.clo n l)) (0, 0) _ ((setRow_other w7 _ _ _ (by omega)).trans HM7.out.1) Tryz.underlying120 rfl (by rw [szc]; exact mx_size) ?_
     refine hK.out _ _ h2 (fun h3 => ?_)
     clear hK K
     simp only [Act.put, sZ]
     refine tkH (i := 5) (v := .bool (decide (Zo.clo n l = l))) rfl (Or.inl ⟨by rfl, fun w' _ => yld_eql _ _ _ rfl n (Zo.clo n l) l (by rw [Zo.clo_length, hl]; exact dsq_le hn) (by rw [Zo.clo_length]) rfl rfl⟩) h3 ?_
     simp only [Act.put, sZ]
     refine tkH (i := 6) (v := .bool (decide (Zo.clo n l = l))) rfl (Or.inl ⟨by rfl, fun w' hS => by go_simp⟩) h3 ?_
     simp only [Act.put, sZ]
     refine tkH (i := 8) (v := .bool (decide (Zo.clo n l = l))) rfl (Or.inl ⟨by rfl, fun w' hS => by go_simp⟩) h3 ?_
     simp only [Act.put, sZ]
     refine wpAnyH_done (by kernel_rfl) ?_ _
     go_wp2_with fail
     refine bodyPost_ret (results_mx Tryz.results131 _ rfl rfl (R7.out.put (mcs n l) sz)) rfl ⟨by rw [HE.out]; rfl, ?_⟩
     exact Below.setRow E7.out (by omega) _
 · simp only [Bool.not_true]
   have HE := Lib.hid (show decide (chkE n l = 0) = false by
    rw [decide_eq_false_iff_not, HC.out, hB]; simp)
   clear hB HC7 HM7
   refine tkH (i := 2) (v := .bool false) rfl (Or.inl ⟨by rfl, fun w' hS => by go_simp⟩) h1 ?_
   simp only [Act.put, sZ]
   refine tkU (i := 3) rfl h1 ?_
   simp only [Act.put, sZ]
   refine tkU (i := 4) rfl h1 ?_
   simp only [Act.put, sZ]
   refine tkU (i := 5) rfl h1 ?_
   simp only [Act.put, sZ]
   refine tkH (i := 6) (v := .bool false) rfl (Or.inl ⟨by rfl, fun w' hS => by go_simp⟩) h1 ?_
   simp only [Act.put, sZ]
   refine wpAnyH_ready (rs := [7]) (by kernel_rfl) (by simp) (AllReadyH.cons rfl (fun K hK => ?_) AllReadyH.nil)
   rw [if_pos (by rfl)]
   refine wp_store_row _ _ _ rfl (w.heap.size + 1) (mcs n l) rfl rfl _ _ R7.out.1 (by rw [sz]; exact mx_size) (by rw [R7.out.2, sz]) (mcs_one _ _) ?_
   refine hK.out _ _ (h1.far (by omega) _) (fun h2 => ?_)
   clear hK K
   simp only [Act.put, sA, sB, sC]
   refine tkH (i := 8) (v := .bool false) rfl (Or.inl ⟨by rfl, fun w' hS => by go_simp⟩) h2 ?_
   simp only [Act.put, sZ]
   refine wpAnyH_done (by kernel_rfl) ?_ _
   go_wp2_with fail
   refine bodyPost_ret (results_mx Tryz.results131 _ rfl rfl (R7.out.put (mcs n l) sz)) rfl ⟨by rw [HE.out]; rfl, ?_⟩
   exact Below.setRow E7.out (by omega) _
end Go.Proofs.YthjapmdfcbngmaaGreat
namespace Go.Proofs.YthjapmdfcbngmaaGreat.Zo
theorem At_ext {n : Nat} {x y : List Int} (hx : x.length = (n + 1) * (n + 1)) (hy : y.length = (n + 1) * (n + 1)) (h : ∀ a b, a ≤ n → b ≤ n → At n x a b = At n y a b) : x = y := by
 refine List.ext_getElem (by omega) fun i h1 h2 => ?_
 have c1 : i / (n + 1) ≤ n := by
  have : i < (n + 1) * (n + 1) := by omega
  have := Nat.div_lt_of_lt_mul this
  omega
 have c2 : i % (n + 1) ≤ n := by have := Nat.mod_lt i (show 0 < n + 1 by omega); omega
 have := h _ _ c1 c2
 unfold At ix gt at this
 rw [show i / (n + 1) * (n + 1) + i % (n + 1) = i by rw [Nat.mul_comm]; exact Nat.div_add_mod i (n + 1)] at this
 simpa [h1, h2] using this
theorem pre_at {n : Nat} {l : List Int} (hl : l.length = (n + 1) * (n + 1)) {a b : Nat} (ha : a ≤ n) (hb : b ≤ n) : At n (pre n l) a b = if a = 0 ∨ a = b then min (At n l a b) 1 else At n l a b := by
 have h : ∀ t, t ≤ n + 1 → ((List.range t).foldl (st1 n) l).length = (n + 1) * (n + 1) ∧ At n ((List.range t).foldl (st1 n) l) a b = if (a = 0 ∨ a = b) ∧ b < t then min (At n l a b) 1 else At n l a b := by
  intro t
  induction t with
  | zero => intro _; exact ⟨hl, by simp⟩
  | succ t ih =>
   intro ht
   obtain ⟨h1, h2⟩ := ih (by omega)
   rw [fold_succ]
   generalize (List.range t).foldl (st1 n) l = Y at *
   refine ⟨by simpa [st1] using h1, ?_⟩
   have e : st1 n Y t = (Y.set (ix n 0 t) (min (At n Y 0 t) 1)).set (ix n t t) (min (At n (Y.set (ix n 0 t) (min (At n Y 0 t) 1)) t t) 1) := rfl
   have l1 : (Y.set (ix n 0 t) (min (At n Y 0 t) 1)).length = (n + 1) * (n + 1) := by simpa using h1
   rw [e, At_set l1 (by omega) (by omega) _ hb, At_set h1 (by omega) (by omega) _ hb, At_set h1 (by omega) (by omega) _ (by omega)]
   by_cases c : b = t
   · subst c
     by_cases ca : a = 0
     · subst ca
       have e1 : At n Y 0 b = At n l 0 b := by rw [h2, if_neg (by omega)]
       by_cases cb : b = 0
       · subst cb; simp [e1]
       · rw [if_neg (by omega), if_pos ⟨rfl, rfl⟩, if_pos ⟨Or.inl rfl, by omega⟩, e1]
     · by_cases cb : a = b
       · subst cb
         have e1 : At n Y a a = At n l a a := by rw [h2, if_neg (by omega)]
         rw [if_pos ⟨rfl, rfl⟩, if_neg (by omega), if_pos ⟨Or.inr rfl, by omega⟩, e1]
       · rw [if_neg (by omega), if_neg (by omega), if_neg (by omega), h2, if_neg (by omega)]
   · rw [if_neg (by omega), if_neg (by omega), h2]
     by_cases ca : (a = 0 ∨ a = b) ∧ b < t
     · rw [if_pos ca, if_pos ⟨ca.1, by omega⟩]
     · rw [if_neg ca, if_neg (by omega)]
 have := (h (n + 1) (Nat.le_refl _)).2
 rw [show (List.range (n + 1)).foldl (st1 n) l = pre n l from rfl] at this
 rw [this]
 by_cases c : a = 0 ∨ a = b
 · rw [if_pos ⟨c, by omega⟩, if_pos c]
 · rw [if_neg (by omega), if_neg c]
theorem pre_len {n : Nat} {l : List Int} (hl : l.length = (n + 1) * (n + 1)) : (pre n l).length = (n + 1) * (n + 1) := rnd_length hl 0 (by omega)
theorem pre_eq {n : Nat} {x y : List Int} (hx : x.length = (n + 1) * (n + 1)) (hy : y.length = (n + 1) * (n + 1))
  (h : ∀ a b, a ≤ n → b ≤ n → (a ≠ 0 ∧ a ≠ b → At n x a b = At n y a b) ∧ (a = 0 ∨ a = b → min (At n x a b) 1 = min (At n y a b) 1)) : pre n x = pre n y := by
 refine At_ext (pre_len hx) (pre_len hy) fun a b ha hb => ?_
 rw [pre_at hx ha hb, pre_at hy ha hb]
 by_cases c : a = 0 ∨ a = b
 · rw [if_pos c, if_pos c]; exact (h a b ha hb).2 c
 · rw [if_neg c, if_neg c]; exact (h a b ha hb).1 (by omega)
theorem clo_pre {n : Nat} {x y : List Int} (h : pre n x = pre n y) : clo n x = clo n y := by unfold clo; rw [h]
theorem fold_at {n : Nat} {N : Nat} {f : List Int → Nat → List Int} {p : Nat → Nat → Nat → Bool} {v : Int} (hf : ∀ (x : List Int) t, t < N → x.length = (n + 1) * (n + 1) → (f x t).length = (n + 1) * (n + 1) ∧ ∀ a b, a ≤ n → b ≤ n → At n (f x t) a b = if p t a b then v else At n x a b)
  {l : List Int} (hl : l.length = (n + 1) * (n + 1)) : ∀ t, t ≤ N → ((List.range t).foldl f l).length = (n + 1) * (n + 1) ∧ ∀ a b, a ≤ n → b ≤ n → At n ((List.range t).foldl f l) a b = if (List.range t).any (fun s => p s a b) then v else At n l a b := by
 intro t
 induction t with
 | zero => intro _; exact ⟨hl, fun a b _ _ => by simp⟩
 | succ t ih =>
  intro ht
  obtain ⟨h1, h2⟩ := ih (by omega)
  rw [fold_succ]
  obtain ⟨h3, h4⟩ := hf _ t (by omega) h1
  refine ⟨h3, fun a b ha hb => ?_⟩
  rw [h4 a b ha hb, h2 a b ha hb, List.range_succ, List.any_append]
  cases h5 : p t a b <;> cases h6 : (List.range t).any (fun s => p s a b) <;> simp [h5]
end Go.Proofs.YthjapmdfcbngmaaGreat.Zo
namespace Go.Proofs.YthjapmdfcbngmaaGreat.Zo
theorem le_dec {a b : Int} (ha : a ≤ 1099511627776) (hb : b ≤ 1099511627776) : le (dec a) (dec b) ↔ a ≤ b := by
 unfold dec
 by_cases h1 : a = 1099511627776
 · by_cases h2 : b = 1099511627776
   · simp [h1, h2, le]
   · rw [if_pos h1, if_neg h2]; simp [le]; omega
 · by_cases h2 : b = 1099511627776
   · rw [if_neg h1, if_pos h2]; simp [le]; omega
   · rw [if_neg h1, if_neg h2]; simp [le]
structure Cl (n : Nat) (c : List Int) (D : Nat → Nat → Lm) : Prop where
 rep : Rep n c D
 tri : Tri (n + 1) D
 bd : Bd D
 dg : ∀ k, k ≤ n → D k k = some 1
 row : ∀ a, a ≤ n → At n c 0 a ≤ 1
theorem Cl.top {n : Nat} {c : List Int} {D : Nat → Nat → Lm} (h : Cl n c D) {a b : Nat} (ha : a ≤ n) (hb : b ≤ n) : At n c a b ≤ 1099511627776 := by
 rw [h.rep.2 a b ha hb]
 cases e : D a b with
 | none => simp [enc]
 | some x => have := h.bd a b x e; simp [enc]; omega
theorem Cl.dec {n : Nat} {c : List Int} {D : Nat → Nat → Lm} (h : Cl n c D) {a b : Nat} (ha : a ≤ n) (hb : b ≤ n) : D a b = dec (At n c a b) := by
 rw [h.rep.2 a b ha hb]
 cases e : D a b with
 | none => simp [enc, Zo.dec]
 | some x =>
  have := h.bd a b x e
  show some x = Zo.dec x
  unfold Zo.dec
  rw [if_neg (by omega)]
theorem Cl.one {n : Nat} {c : List Int} {D : Nat → Nat → Lm} (h : Cl n c D) {a : Nat} (ha : a ≤ n) : At n c a a = 1 := by
 rw [h.rep.2 a a ha ha, h.dg a ha]; rfl
theorem clo_lows {n : Nat} {l : List Int} (hl : l.length = (n + 1) * (n + 1)) : ∀ a, a ≤ n → At n (clo n l) a a ≤ 1 ∧ At n (clo n l) 0 a ≤ 1 := by
 intro a ha
 have h := pre_low hl a ha
 have b1 := clo_below hl (k := 0) (i := 0) (by omega) (by omega) ha ha
 have b2 := clo_below hl (k := 0) (i := 0) (by omega) (by omega) (show 0 ≤ n by omega) ha
 have e : (List.range 0).foldl (rlxJ n 0) (rnd n l 0) = pre n l := rfl
 rw [e] at b1 b2
 exact ⟨Int.le_trans b1 h.1, Int.le_trans b2 h.2⟩
theorem Cl.of {n : Nat} {l : List Int} (hn : n ≤ 10) (hl : l.length = (n + 1) * (n + 1)) (hv : ∀ a b, a ≤ n → b ≤ n → Wl (At n l a b)) (hd : ∀ i, i ≤ n → 1 ≤ At n (clo n l) i i) : Cl n (clo n l) (fw (mat n l) (n + 1)) := by
 obtain ⟨h1, h2, h3, h4⟩ := fw_bd hn hl hv hd
 exact ⟨h1, h2, h3, h4, fun a ha => (clo_lows hl a ha).2⟩
theorem clo_over {n : Nat} {l c : List Int} {C : Nat → Nat → Lm} (hn : n ≤ 10) (hl : l.length = (n + 1) * (n + 1)) (hv : ∀ a b, a ≤ n → b ≤ n → Wl (At n l a b)) (hC : Cl n c C) (h : ∀ a b, a ≤ n → b ≤ n → At n c a b ≤ At n l a b) :
  (∀ i, i ≤ n → 1 ≤ At n (clo n l) i i) ∧ ∀ a b, a ≤ n → b ≤ n → At n c a b ≤ At n (clo n l) a b := by
 have pv := pre_wl hl hv
 have hp : ∀ a b, a ≤ n → b ≤ n → At n c a b ≤ At n (pre n l) a b := by
  intro a b ha hb
  rw [pre_at hl ha hb]
  have := h a b ha hb
  by_cases e : a = 0 ∨ a = b
  · rw [if_pos e]
    have h1 : At n c a b ≤ 1 := by
     rcases e with rfl | rfl
     · exact hC.row b hb
     · rw [hC.one ha]; omega
    omega
  · rw [if_neg e]; exact this
 have hle : ∀ a b, le (C a b) (mat n l a b) := by
  intro a b
  unfold mat
  by_cases e : a ≤ n ∧ b ≤ n
  · rw [if_pos e, hC.dec e.1 e.2, le_dec (hC.top e.1 e.2) (by have := pv a b e.1 e.2; unfold Wl at this; omega)]
    exact hp a b e.1 e.2
  · rw [if_neg e]; exact le_none _
 have below := below_fw hC.tri hle
 have hm : ∀ i j x, mat n l i j = some x → x ≤ 4294967297 ∧ -4294967297 + 1 ≤ x := by
  intro i j x h
  unfold mat at h
  split at h
  · rename_i c
    have := pv i j c.1 c.2
    unfold Zo.dec at h
    unfold Wl at this
    split at h
    · simp at h
    · simp at h; omega
  · simp at h
 have dg : ∀ t, t ≤ n + 1 → ∀ k, k ≤ n → fw (mat n l) t k k = some 1 := by
  intro t ht k hk
  have h1 := below t ht k k
  rw [hC.dg k hk] at h1
  have h2 := fw_le_m (mat n l) t k k
  have h3 : le (mat n l k k) (some 1) := by
   unfold mat
   rw [if_pos ⟨hk, hk⟩, show (some (1 : Int) : Lm) = Zo.dec 1 from rfl, le_dec (by have := pv k k hk hk; unfold Wl at this; omega) (by omega)]
   exact (pre_low hl k hk).1
  exact le_antisymm (le_trans h2 h3) h1
 have rep : ∀ t, t ≤ n + 1 → Rep n (rnd n l t) (fw (mat n l) t) := by
  intro t
  induction t with
  | zero =>
   intro _
   refine ⟨rnd_length hl 0 (by omega), fun a b ha hb => ?_⟩
   show At n (pre n l) a b = enc (mat n l a b)
   unfold mat
   rw [if_pos ⟨ha, hb⟩, enc_dec]
  | succ t ih =>
   intro ht
   have hr := ih (by omega)
   have hdg : ∀ k, k < t → fw (mat n l) k k k = some 1 := fun k hk => dg k (by omega) k (by omega)
   have hB : Bd (fw (mat n l) t) := by
    intro i j x h
    constructor
    · have := fw_low (c := 4294967297) (by omega) (fun i j x h => (hm i j x h).2) t i j x h
      have p : (2 : Int) ^ t ≤ 2 ^ 11 := by
       have : (2 : Nat) ^ t ≤ 2 ^ 11 := Nat.pow_le_pow_right (by omega) (by omega)
       exact_mod_cast this
      omega
    · obtain ⟨S, _, hx⟩ := fw_bound (U := 4294967297) (fun i j x h => (hm i j x h).1) t hdg i j x h
      have := cnt_le S t
      omega
   rw [rnd_succ]
   exact round_rep hB (dg t (by omega) t (by omega)) (by omega) hr
 have hr := rep (n + 1) (Nat.le_refl _)
 have hd : ∀ i, i ≤ n → 1 ≤ At n (clo n l) i i := by
  intro i hi
  rw [show clo n l = rnd n l (n + 1) from rfl, hr.2 i i hi hi, dg (n + 1) (Nat.le_refl _) i hi]
  simp [enc]
 refine ⟨hd, fun a b ha hb => ?_⟩
 have hc2 := Cl.of hn hl hv hd
 have h1 := below (n + 1) (Nat.le_refl _) a b
 rw [hC.dec ha hb, hc2.dec ha hb, le_dec (hC.top ha hb) (hc2.top ha hb)] at h1
 exact h1
def Le (n : Nat) (c l : List Int) : Prop := ∀ a b, a ≤ n → b ≤ n → At n c a b ≤ At n l a b
theorem le_clo {n : Nat} {l : List Int} (hl : l.length = (n + 1) * (n + 1)) : Le n (clo n l) l := by
 intro a b ha hb
 have b1 := clo_below hl (k := 0) (i := 0) (by omega) (by omega) ha hb
 have e : (List.range 0).foldl (rlxJ n 0) (rnd n l 0) = pre n l := rfl
 rw [e, pre_at hl ha hb] at b1
 split at b1 <;> omega
end Go.Proofs.YthjapmdfcbngmaaGreat.Zo
