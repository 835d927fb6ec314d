/- The contract of Has of layer 7's reference, and of the statements' meets.; The contract of Without of layer 7's reference, and that it is what the project's Without is told to return.; Plain mathematics: sums of ratios stand for sums over one denominator; Least is not above the sum at a point of the set.; Plain mathematics of Point: ends of a coordinate, the number between them.; What the law PolyLeaves holds on to while it writes into its own copy.; Plain mathematics of PolyProjects: a point and the point without a coordinate; lines that fix the others; lists that a point meets are not told to be empty.; Plain mathematics of Point: the ends of a coordinate are the greatest and the least, the number between them is between, the point meets the lines.; Plain mathematics of Minus: a point of the first list that is not one of the second lies in just one piece, and pieces have no other points.; What package poly's minus hands to lists; a row of lists of lines of the call's own. -/
import Derived.Test.YtbhaoaobhgilkaaGreatWm33
import Derived.Test.YtbhaoaobhgilkaaGreatWm20
import Derived.Test.YtbhaoaobhgilkaaGreatWm34
import Derived.Test.YtbhaoaobhgilkaaGreatWm35
import Derived.Test.YtbhaoaobhgilkaaGreatWm32
import Derived.Test.YtbhaoaobhgilkaaGreatWm36
import Derived.Test.YtbhaoaobhgilkaaGreatWm37
import Derived.Test.YtbhaoaobhgilkaaGreatWm24
import Derived.Test.YtbhaoaobhgilkaaGreatWm18
import Derived.Test.YtbhaoaobhgilkaaGreatWm27

namespace Go.Proofs.YtbhaoaobhgilkaaGreat
open Go.RowKit Go.Sort Go.Shelf

end Go.Proofs.YtbhaoaobhgilkaaGreat

namespace Go.Proofs.YtbhaoaobhgilkaaGreat
open Go.RowKit Go.Sort Go.Shelf

theorem valid_fitV {n : Int} {y : AV} (h : validB n y = true) : FitV n.toNat y := by
  unfold validB at h
  simp only [Bool.and_eq_true, decide_eq_true_eq, List.all_eq_true] at h
  obtain ⟨⟨h1, h2⟩, h3⟩ := h
  refine ⟨by omega, fun v hv => ?_, ?_⟩
  · have := h2 v hv; unfold fitB at this; simpa using this
  · unfold fitB at h3; simpa using h3

theorem tk_ofV {n : Nat} {y : AV} (h : FitV n y) (hn : n ≤ 6) : tk n (ofV y) = lnV y ∧ DomN n (ofV y) := by
  obtain ⟨h1, _, _⟩ := h
  refine ⟨?_, ?_, fun j hj => ?_⟩
  · unfold tk ofV lnV
    simp only [Ln.mk.injEq, and_true]
    rw [← h1, List.take_left']
    rfl
  · unfold ofV; simp; omega
  · unfold ofV gA
    rw [List.getD_eq_getElem?_getD, List.getElem?_append_right (by omega)]
    rw [List.getElem?_replicate]
    split <;> rfl

theorem ofV_map {L : List AV} {R : List AV} (h : R.map lnV = L.map lnV) : R.map ofV = L.map ofV := by
  have e : ∀ y : AV, ofV y = (fun x : Ln => (⟨x.a ++ List.replicate (6 - x.a.length) 0, x.b, x.s⟩ : Ln)) (lnV y) := fun _ => rfl
  have key : ∀ K : List AV, K.map ofV = (K.map lnV).map (fun x : Ln => (⟨x.a ++ List.replicate (6 - x.a.length) 0, x.b, x.s⟩ : Ln)) := fun K => by
    rw [List.map_map]; rfl
  rw [key, key, h]

theorem chkP_map {n : Int} {L R : List AV} (h : R.map lnV = L.map lnV) : chkP n R = chkP n L := by
  have hl : R.length = L.length := by have := congrArg List.length h; simpa using this
  have key : ∀ K : List AV, K.any (fun y => !validB n y) = (K.map lnV).any (fun x => !(decide ((x.a.length : Int) = n) && x.a.all fitB && fitB x.b)) := fun K => by
    rw [List.any_map]; rfl
  unfold chkP
  rw [hl, key, key, h]

end Go.Proofs.YtbhaoaobhgilkaaGreat

namespace Go.Proofs.YtbhaoaobhgilkaaGreat
open Go.Sort

theorem op_ok {v : Bool} {p q : Int} (h : opErr v p q = 0) : v = true ∧ q ≠ 0 ∧ vldB (opNum v p q) (opDen v p q) = true ∧ opNum v p q * q = p * opDen v p q := by
  unfold opErr at h
  cases v
  · simp at h
  · rw [if_pos rfl] at h
    obtain ⟨h1, h2, h3⟩ := mk_ok h
    exact ⟨rfl, h1, h2, h3⟩

theorem vR_pos {q : Pq} (h : vR q = true) : 1 ≤ q.2 := by
  unfold vR vldB at h
  simp at h
  exact h.1

theorem cancel {a b c : Int} (hc : c ≠ 0) (h : a * c = b * c) : a = b := Int.eq_of_mul_eq_mul_right hc h

theorem fd_val {x : Ln} {n : Nat} (h : fdE x n [] = 0) : vR (fdV x n []) = true ∧ (fdV x n []).1 * gA x.a n = x.b * (fdV x n []).2 := by
  unfold fdE at h
  rw [if_neg (by simp [atN])] at h
  by_cases h1 : sbE (x.b, 1) (atN x.a [] ([] : List Pq).length).1 = 0
  · rw [if_neg (fun q => q h1)] at h
    obtain ⟨_, _, d3, d4⟩ := op_ok h1
    obtain ⟨_, f2, f3, f4⟩ := op_ok h
    refine ⟨f3, ?_⟩
    change (sbR (x.b, 1) (0, 1)).1 * (1 * 1) = (x.b * 1 - 0 * 1) * (sbR (x.b, 1) (0, 1)).2 at d4
    change (fdV x n []).1 * ((sbR (x.b, 1) (0, 1)).2 * gA x.a n) = (sbR (x.b, 1) (0, 1)).1 * 1 * (fdV x n []).2 at f4
    have hd : 1 ≤ (sbR (x.b, 1) (0, 1)).2 := vR_pos (q := sbR (x.b, 1) (0, 1)) d3
    generalize (fdV x n []).1 = a1 at *
    generalize (fdV x n []).2 = a2 at *
    generalize (sbR (x.b, 1) (0, 1)).1 = e1 at *
    generalize (sbR (x.b, 1) (0, 1)).2 = e2 at *
    generalize gA x.a n = c at *
    refine cancel (c := e2) (by omega) ?_
    have : e1 = x.b * e2 := by simpa using d4
    subst this
    grind
  · rw [if_pos h1] at h; exact absurd h h1

theorem dot_only {n : Nat} {a X : List Int} {T : Int} (h0 : ∀ j, j < n → gA a j = 0) (hX : ∀ j, n < j → gA X j = 0) (hT : gA X n = T) : ∀ t, dotN a X t = if n < t then gA a n * T else 0
  | 0 => by simp [dotN]
  | t + 1 => by
    show dotN a X t + gA a t * gA X t = _
    rw [dot_only h0 hX hT t]
    rcases Nat.lt_trichotomy t n with h | h | h
    · rw [if_neg (by omega), if_neg (by omega), h0 t h]; simp
    · subst h; rw [if_neg (by omega), if_pos (by omega), hT]; simp
    · rw [if_pos h, if_pos (by omega), hX t h]; simp

theorem dot_congr {a b X Y : List Int} : ∀ t, (∀ j, j < t → gA a j = gA b j ∧ gA X j = gA Y j) → dotN a X t = dotN b Y t
  | 0, _ => rfl
  | t + 1, h => by
    show dotN a X t + gA a t * gA X t = dotN b Y t + gA b t * gA Y t
    rw [dot_congr t fun j hj => h j (by omega), (h t (by omega)).1, (h t (by omega)).2]

theorem gA_pad (a : List Int) (k j : Nat) : gA (a ++ List.replicate k 0) j = gA a j := by
  by_cases h : j < a.length
  · unfold gA; rw [List.getD_eq_getElem?_getD, List.getD_eq_getElem?_getD, List.getElem?_append_left h]
  · rw [gA_out (a := a) (by omega)]
    unfold gA
    rw [List.getD_eq_getElem?_getD, List.getElem?_append_right (by omega), List.getElem?_replicate]
    split <;> rfl

end Go.Proofs.YtbhaoaobhgilkaaGreat

namespace Go.Proofs.YtbhaoaobhgilkaaGreat
open Go.Sort

def Over (r c : Pq) (s : Bool) : Prop := c.1 * r.2 ≤ r.1 * c.2 ∧ (s = true → c.1 * r.2 < r.1 * c.2)

theorem side_core {S a b D f1 f2 r1 r2 : Int} (hD : 0 < D) (hf : 0 < f2) (e : f1 * (a * D) = (b * D - S) * f2) :
    (S * r2 + a * (r1 * D) ≤ b * (D * r2) ↔ a * (r1 * f2 - f1 * r2) ≤ 0) ∧ (S * r2 + a * (r1 * D) < b * (D * r2) ↔ a * (r1 * f2 - f1 * r2) < 0) := by
  have k : (b * (D * r2) - (S * r2 + a * (r1 * D))) * f2 = -(a * (r1 * f2 - f1 * r2)) * D := by grind
  obtain ⟨Z, hZ⟩ : ∃ Z, Z = b * (D * r2) - (S * r2 + a * (r1 * D)) := ⟨_, rfl⟩
  obtain ⟨W, hW⟩ : ∃ W, W = a * (r1 * f2 - f1 * r2) := ⟨_, rfl⟩
  rw [← hZ, ← hW] at k
  rw [← hW]
  have h1 : 0 ≤ Z ↔ W ≤ 0 := by
    constructor
    · intro h
      have h2 := Int.mul_nonneg h (Int.le_of_lt hf)
      rw [k] at h2
      rcases Int.lt_or_le 0 W with q | q
      · have := Int.mul_lt_mul_of_pos_right (show -W < 0 by omega) hD
        omega
      · exact q
    · intro h
      have h2 := Int.mul_nonneg (show 0 ≤ -W by omega) (Int.le_of_lt hD)
      rw [← k] at h2
      rcases Int.lt_or_le Z 0 with q | q
      · have := Int.mul_lt_mul_of_pos_right q hf
        omega
      · exact q
  have h2 : 0 < Z ↔ W < 0 := by
    constructor
    · intro h
      have h2 := Int.mul_pos h hf
      rw [k] at h2
      rcases Int.lt_or_le W 0 with q | q
      · exact q
      · have := Int.mul_le_mul_of_nonneg_right (show -W ≤ 0 by omega) (Int.le_of_lt hD)
        omega
    · intro h
      have h2 := Int.mul_pos (show 0 < -W by omega) hD
      rw [← k] at h2
      rcases Int.lt_or_le 0 Z with q | q
      · exact q
      · have := Int.mul_le_mul_of_nonneg_right q (Int.le_of_lt hf)
        omega
  omega

theorem neg_side {a u : Int} (ha : a < 0) : (a * u ≤ 0 ↔ 0 ≤ u) ∧ (a * u < 0 ↔ 0 < u) := by
  constructor
  · constructor
    · intro h
      rcases Int.lt_or_le u 0 with q | q
      · have := Int.mul_pos_of_neg_of_neg ha q; omega
      · exact q
    · intro h; exact Int.mul_nonpos_of_nonpos_of_nonneg (by omega) h
  · constructor
    · intro h
      rcases Int.lt_or_le 0 u with q | q
      · exact q
      · have := Int.mul_nonneg_of_nonpos_of_nonpos (Int.le_of_lt ha) q; omega
    · intro h; exact Int.mul_neg_of_neg_of_pos ha h

theorem pos_side {a u : Int} (ha : 0 < a) : (a * u ≤ 0 ↔ u ≤ 0) ∧ (a * u < 0 ↔ u < 0) := by
  have := neg_side (a := -a) (u := -u) (by omega)
  rw [Int.neg_mul_neg] at this
  constructor
  · rw [this.1]; omega
  · rw [this.2]; omega

theorem over_trans {a b c : Pq} {s t : Bool} (ha : 1 ≤ a.2) (hb : 1 ≤ b.2) (hc : 1 ≤ c.2) (h1 : Over c b s) (h2 : Over b a t) : Over c a (s || t) := by
  obtain ⟨p, q⟩ := le_trans3 (a := a.1) (b := a.2) (c := b.1) (d := b.2) (P := c.1) (Q := c.2) (by omega) (by omega) (by omega) h2.1 h1.1
  refine ⟨p, fun h => q ?_⟩
  cases s
  · cases t
    · cases h
    · exact Or.inl (h2.2 rfl)
  · exact Or.inr (h1.2 rfl)

theorem over_weak {r c : Pq} {s t : Bool} (h : Over r c s) (hs : t = true → s = true) : Over r c t := ⟨h.1, fun k => h.2 (hs k)⟩
end Go.Proofs.YtbhaoaobhgilkaaGreat

namespace Go.Proofs.YtbhaoaobhgilkaaGreat
open Go.RowKit Go.Sort Go.Shelf

end Go.Proofs.YtbhaoaobhgilkaaGreat

namespace Go.Proofs.YtbhaoaobhgilkaaGreat
open Go.Sort

theorem ofV_zr {n : Nat} {L : List AV} (hv : ∀ y ∈ L, validB n y = true) (hn : n ≤ 5) : ZrL (fun j => n ≤ j) (L.map ofV) := fun x hx => by
  obtain ⟨y, hy, rfl⟩ := List.mem_map.1 hx
  have hf := valid_fitV (hv y hy)
  have hl : y.a.length = n := by have := hf.1; simpa using this
  exact ⟨by unfold ofV; simp; omega, fun j hj => by unfold ofV; rw [gA_pad, gA_out (by omega)]⟩

end Go.Proofs.YtbhaoaobhgilkaaGreat

namespace Go.Proofs.YtbhaoaobhgilkaaGreat
open Go.Sort

theorem cm_cases {a b : Pq} (ha : vR a = true) (hb : vR b = true) : (cmR a b = -1 ∧ a.1 * b.2 < b.1 * a.2) ∨ (cmR a b = 0 ∧ a.1 * b.2 = b.1 * a.2) ∨ (cmR a b = 1 ∧ b.1 * a.2 < a.1 * b.2) := by
  unfold vR at ha hb
  unfold cmR
  rw [ha, hb]
  simp only [Bool.and_self, if_true]
  unfold sgn
  rcases Int.lt_trichotomy (a.1 * b.2) (b.1 * a.2) with h | h | h
  · left; rw [if_pos h]; exact ⟨rfl, h⟩
  · right; left; rw [if_neg (by omega), if_neg (by omega)]; exact ⟨rfl, h⟩
  · right; right; rw [if_neg (by omega), if_pos h]; exact ⟨rfl, h⟩

theorem over_or {r c : Pq} {s t : Bool} (h : Over r c (s || t)) (k : Bool) (hk : s = true ∨ t = true ∨ k = false) : Over r c k := over_weak h fun q => by
  rcases hk with e | e | e
  · simp [e]
  · simp [e]
  · rw [e] at q; cases q

theorem cl_lo {c : En} {x : Ln} {i : Nat} {P : List Pq} (hc : c.ex = true → vR c.v = true) (hf : vR (fdV x i P) = true) : (clR 1 c x i P).ex = true ∧ vR (clR 1 c x i P).v = true ∧ (∀ r : Pq, 1 ≤ r.2 → Over r (clR 1 c x i P).v (clR 1 c x i P).op → Over r (fdV x i P) x.s ∧ (c.ex = true → Over r c.v c.op)) ∧ (clR 1 c x i P = ⟨fdV x i P, true, x.s⟩ ∨ (c.ex = true ∧ clR 1 c x i P = c)) := by
  have f1 := vR_pos hf
  unfold clR
  by_cases he : c.ex = true
  · rw [if_pos he]
    have hv := hc he
    have c1 := vR_pos hv
    have hcm := cm_cases hf hv
    split
    · rename_i h
      refine ⟨rfl, hf, fun r hr ho => ⟨ho, fun _ => ?_⟩, Or.inl rfl⟩
      rcases hcm with ⟨e, k⟩ | ⟨e, k⟩ | ⟨e, k⟩
      · omega
      · have hs : x.s = true := by rcases h with h | h; · omega
                                   · exact h.2
        exact over_or (over_trans (s := x.s) (t := false) c1 f1 hr ho ⟨by omega, fun q => by cases q⟩) _ (Or.inl hs)
      · exact over_or (over_trans (s := x.s) (t := true) c1 f1 hr ho ⟨by omega, fun _ => k⟩) _ (Or.inr (Or.inl rfl))
    · rename_i h
      refine ⟨he, hv, fun r hr ho => ⟨?_, fun _ => ho⟩, Or.inr ⟨he, rfl⟩⟩
      rcases hcm with ⟨e, k⟩ | ⟨e, k⟩ | ⟨e, k⟩
      · exact over_or (over_trans (s := c.op) (t := true) f1 c1 hr ho ⟨by omega, fun _ => k⟩) _ (Or.inr (Or.inl rfl))
      · have hs : x.s = false := by
          cases hq : x.s
          · rfl
          · exact absurd (Or.inr ⟨by omega, hq⟩) h
        exact over_or (over_trans (s := c.op) (t := false) f1 c1 hr ho ⟨by omega, fun q => by cases q⟩) _ (Or.inr (Or.inr hs))
      · exact absurd (Or.inl (by omega)) h
  · rw [if_neg he]
    exact ⟨rfl, hf, fun r hr ho => ⟨ho, fun q => absurd q he⟩, Or.inl rfl⟩

theorem cl_up {c : En} {x : Ln} {i : Nat} {P : List Pq} (hc : c.ex = true → vR c.v = true) (hf : vR (fdV x i P) = true) : (clR (-1) c x i P).ex = true ∧ vR (clR (-1) c x i P).v = true ∧ (∀ r : Pq, 1 ≤ r.2 → Over (clR (-1) c x i P).v r (clR (-1) c x i P).op → Over (fdV x i P) r x.s ∧ (c.ex = true → Over c.v r c.op)) ∧ (clR (-1) c x i P = ⟨fdV x i P, true, x.s⟩ ∨ (c.ex = true ∧ clR (-1) c x i P = c)) := by
  have f1 := vR_pos hf
  unfold clR
  by_cases he : c.ex = true
  · rw [if_pos he]
    have hv := hc he
    have c1 := vR_pos hv
    have hcm := cm_cases hf hv
    split
    · rename_i h
      refine ⟨rfl, hf, fun r hr ho => ⟨ho, fun _ => ?_⟩, Or.inl rfl⟩
      rcases hcm with ⟨e, k⟩ | ⟨e, k⟩ | ⟨e, k⟩
      · exact over_or (over_trans (s := true) (t := x.s) hr f1 c1 ⟨by omega, fun _ => k⟩ ho) _ (Or.inl rfl)
      · have hs : x.s = true := by rcases h with h | h; · omega
                                   · exact h.2
        exact over_or (over_trans (s := false) (t := x.s) hr f1 c1 ⟨by omega, fun q => by cases q⟩ ho) _ (Or.inr (Or.inl hs))
      · omega
    · rename_i h
      refine ⟨he, hv, fun r hr ho => ⟨?_, fun _ => ho⟩, Or.inr ⟨he, rfl⟩⟩
      rcases hcm with ⟨e, k⟩ | ⟨e, k⟩ | ⟨e, k⟩
      · exact absurd (Or.inl (by omega)) h
      · have hs : x.s = false := by
          cases hq : x.s
          · rfl
          · exact absurd (Or.inr ⟨by omega, hq⟩) h
        exact over_or (over_trans (s := false) (t := c.op) hr c1 f1 ⟨by omega, fun q => by cases q⟩ ho) _ (Or.inr (Or.inr hs))
      · exact over_or (over_trans (s := true) (t := c.op) hr c1 f1 ⟨by omega, fun _ => k⟩ ho) _ (Or.inl rfl)
  · rw [if_neg he]
    exact ⟨rfl, hf, fun r hr ho => ⟨ho, fun q => absurd q he⟩, Or.inl rfl⟩

structure EnOk (l : List Ln) (i : Nat) (P : List Pq) (k : Nat) (lo up : En) : Prop where
  lv : lo.ex = true → vR lo.v = true
  uv : up.ex = true → vR up.v = true
  la : ∀ r : Pq, 1 ≤ r.2 → (lo.ex = true → Over r lo.v lo.op) → ∀ x ∈ l.take k, gA x.a i < 0 → Over r (fdV x i P) x.s
  ua : ∀ r : Pq, 1 ≤ r.2 → (up.ex = true → Over up.v r up.op) → ∀ x ∈ l.take k, 0 < gA x.a i → Over (fdV x i P) r x.s
  lm : lo.ex = true → ∃ x ∈ l, gA x.a i < 0 ∧ fdE x i P = 0 ∧ lo = ⟨fdV x i P, true, x.s⟩
  um : up.ex = true → ∃ x ∈ l, 0 < gA x.a i ∧ fdE x i P = 0 ∧ up = ⟨fdV x i P, true, x.s⟩
  fe : ∀ x ∈ l.take k, gA x.a i ≠ 0 → fdE x i P = 0

theorem clE_fd {c : En} {x : Ln} {i : Nat} {P : List Pq} (h : clE c x i P = 0) : fdE x i P = 0 := by
  unfold clE at h
  by_cases q : fdE x i P = 0
  · exact q
  · rw [if_pos q] at h; exact absurd h q

theorem en_ok {l : List Ln} {i : Nat} {P : List Pq} (hv : ∀ x ∈ l, fdE x i P = 0 → vR (fdV x i P) = true) : ∀ k, k ≤ l.length → (enN l i P k).2 = 0 → EnOk l i P k (enN l i P k).1.1 (enN l i P k).1.2
  | 0, _, _ => by
    refine ⟨fun h => ?_, fun h => ?_, fun r _ _ x hx => ?_, fun r _ _ x hx => ?_, fun h => ?_, fun h => ?_, fun x hx => ?_⟩
    all_goals first | (simp [enN, en0] at h; done) | (simp at hx; done)
  | k + 1, hk, h => by
    have hkl : k < l.length := hk
    have hg : l.getD k ln0 = l[k] := by rw [List.getD_eq_getElem?_getD, List.getElem?_eq_getElem hkl]; rfl
    have hm : l[k] ∈ l := List.getElem_mem hkl
    have ht : l.take (k + 1) = l.take k ++ [l[k]] := List.take_succ_eq_append_getElem hkl
    by_cases h0 : (enN l i P k).2 = 0
    · have ih := en_ok hv k (by omega) h0
      unfold enN at h ⊢
      rw [hg] at h ⊢
      rw [if_neg (fun q => q h0)] at h ⊢
      obtain ⟨lo, hlo⟩ : ∃ lo, lo = (enN l i P k).1.1 := ⟨_, rfl⟩
      obtain ⟨up, hup⟩ : ∃ up, up = (enN l i P k).1.2 := ⟨_, rfl⟩
      rw [← hlo, ← hup] at ih h ⊢
      have split : ∀ x, x ∈ l.take (k + 1) → x ∈ l.take k ∨ x = l[k] := fun x hx => by
        rw [ht] at hx
        rcases List.mem_append.1 hx with q | q
        · exact Or.inl q
        · exact Or.inr (List.mem_singleton.1 q)
      generalize l[k] = y at *
      by_cases h1 : gA y.a i < 0
      · rw [if_pos h1] at h ⊢
        have fd := clE_fd h
        obtain ⟨n1, n2, n3, n4⟩ := cl_lo ih.lv (hv y hm fd)
        refine ⟨fun _ => n2, ih.uv, fun r hr ho x hx ha => ?_, fun r hr ho x hx ha => ?_, fun _ => ?_, ih.um, fun x hx ha => ?_⟩
        · obtain ⟨o1, o2⟩ := n3 r hr (ho n1)
          rcases split x hx with q | rfl
          · exact ih.la r hr o2 x q ha
          · exact o1
        · rcases split x hx with q | rfl
          · exact ih.ua r hr ho x q ha
          · omega
        · rcases n4 with e | ⟨e1, e2⟩
          · exact ⟨y, hm, h1, fd, e⟩
          · obtain ⟨x, m1, m2, m3, m4⟩ := ih.lm e1
            exact ⟨x, m1, m2, m3, e2.trans m4⟩
        · rcases split x hx with q | rfl
          · exact ih.fe x q ha
          · exact fd
      · rw [if_neg h1] at h ⊢
        by_cases h2 : 0 < gA y.a i
        · rw [if_pos h2] at h ⊢
          have fd := clE_fd h
          obtain ⟨n1, n2, n3, n4⟩ := cl_up ih.uv (hv y hm fd)
          refine ⟨ih.lv, fun _ => n2, fun r hr ho x hx ha => ?_, fun r hr ho x hx ha => ?_, ih.lm, fun _ => ?_, fun x hx ha => ?_⟩
          · rcases split x hx with q | rfl
            · exact ih.la r hr ho x q ha
            · omega
          · obtain ⟨o1, o2⟩ := n3 r hr (ho n1)
            rcases split x hx with q | rfl
            · exact ih.ua r hr o2 x q ha
            · exact o1
          · rcases n4 with e | ⟨e1, e2⟩
            · exact ⟨y, hm, h2, fd, e⟩
            · obtain ⟨x, m1, m2, m3, m4⟩ := ih.um e1
              exact ⟨x, m1, m2, m3, e2.trans m4⟩
          · rcases split x hx with q | rfl
            · exact ih.fe x q ha
            · exact fd
        · rw [if_neg h2] at h ⊢
          rw [← hlo, ← hup]
          refine ⟨ih.lv, ih.uv, fun r hr ho x hx ha => ?_, fun r hr ho x hx ha => ?_, ih.lm, ih.um, fun x hx ha => ?_⟩
          · rcases split x hx with q | rfl
            · exact ih.la r hr ho x q ha
            · omega
          · rcases split x hx with q | rfl
            · exact ih.ua r hr ho x q ha
            · omega
          · rcases split x hx with q | rfl
            · exact ih.fe x q ha
            · omega
    · unfold enN at h
      rw [if_pos h0] at h; exact absurd h h0

end Go.Proofs.YtbhaoaobhgilkaaGreat

namespace Go.Proofs.YtbhaoaobhgilkaaGreat
open Go.Sort

def mnL (a b : List Ln) (t : Nat) : List Ln := a ++ b.take t ++ [(b.getD t ln0).opp]

def mnS (n : Nat) (a b : List Ln) : Nat → List (List Ln) × Int
  | 0 => ([], 0)
  | t + 1 => if (mnS n a b t).2 ≠ 0 then mnS n a b t else if a.length + t = 1000 then ([], 3) else if shE (mnL a b t) n n ≠ 0 then ([], shE (mnL a b t) n n) else
    if empB (mnL a b t) n then mnS n a b t else ((mnS n a b t).1 ++ [tidyL (mnL a b t)], 0)

end Go.Proofs.YtbhaoaobhgilkaaGreat

namespace Go.Proofs.YtbhaoaobhgilkaaGreat
open Go.RowKit Go.Sort Go.Shelf

set_option maxRecDepth 20000 in
set_option maxHeartbeats 1000000 in
theorem chM_any (n g cap pn : Nat) (a : List Int) (B : Nat) (w : World) (ha : a.length = 6) (hn : n ≤ 6) (ho : OwnI w B g cap a) (c0 : w.cell? ⟨pn, 0, none⟩ = some (.int .i64 n)) :
    Calls Tryz.prog 114 #[.slice (some ⟨g, 0, none⟩) 6 cap, .pointer (some ⟨pn, 0, none⟩)] w (fun e W' => ∃ m c', e = .returned (.slice (some ⟨g, 0, none⟩) m c') ∧ m = (a.take n).length ∧ (∀ j, j < (a.take n).length → W'.cell? ⟨g, j, none⟩ = some (.int .i64 (gA (a.take n) j))) ∧ GB g w W') := by
  have hcp := ho.capOk
  have hcc : n ≤ cap := by have := hcp.1; omega
  have hcc2 : (n : Int) ≤ cap := by omega
  have FA := Lib.hid (show ∀ j, j < (a.take n).length → w.cell? ⟨g, j, none⟩ = some (.int .i64 (gA (a.take n) j)) from fun j hj => by
    rw [List.length_take] at hj
    rw [ho.at (show j < a.length by omega), gA_take (by omega)])
  have LN := Lib.hid (show n = (a.take n).length by rw [List.length_take]; omega)
  clear hcp ho ha
  go_enter Tryz.func114, Tryz.ntmps114
  go_wp2_with fail
  go_ret
  exact ⟨n, cap, rfl, LN.out, FA.out, GB.refl _ _⟩

theorem chM_enters : ∀ args w, (callFunc 114 args).run Tryz.prog w = .ok (.enter 114 args) w := enters_of Tryz.func114 (by kernel_rfl) rfl

structure GrS (B : Nat) (w w' : World) (r s : Option Nat) : Prop where
  os : w'.os = w.os
  tape : w'.tape = w.tape
  output : w'.output = w.output
  size : w.heap.size ≤ w'.heap.size
  block : ∀ k, B ≤ k → k < w.heap.size → some k ≠ r → some k ≠ s → w'.heap[k]? = w.heap[k]?

theorem GrS.refl (B : Nat) (w : World) (r s : Option Nat) : GrS B w w r s := ⟨rfl, rfl, rfl, Nat.le_refl _, fun _ _ _ _ _ => rfl⟩

def Stays (B : Nat) (w : World) (r s : Option Nat) (F : World → Prop) : Prop := ∀ w', GrS B w w' r s → F w'

theorem Stays.swap {B : Nat} {w : World} {r s : Option Nat} {F : World → Prop} (h : Stays B w r s F) : Stays B w s r F := fun x hx => h x ⟨hx.os, hx.tape, hx.output, hx.size, fun k hB hk h1 h2 => hx.block k hB hk h2 h1⟩

theorem Stays.below {B : Nat} {w w' : World} {r s : Option Nat} {F : World → Prop} (h : Stays B w r s F) (hb : Below w.heap.size w w') : Stays B w' r s F := fun x hx =>
  h x ⟨hx.os.trans hb.os, hx.tape.trans hb.tape, hx.output.trans hb.output, Nat.le_trans hb.size hx.size, fun j hB hj h1 h2 => (hx.block j hB (Nat.lt_of_lt_of_le hj hb.size) h1 h2).trans (hb.block j hj)⟩

theorem Stays.moved {B : Nat} {w w' : World} {r r' s : Option Nat} {F : World → Prop} (h : Stays B w r s F) (hg : w.grownBy w' r) (hr : r' = r ∨ r' = some w.heap.size) : Stays B w' r' s F := fun x hx => by
  refine h x ⟨hx.os.trans hg.os, hx.tape.trans hg.tape, hx.output.trans hg.output, Nat.le_trans hg.size hx.size, fun j hB hj h1 h2 => (hx.block j hB (Nat.lt_of_lt_of_le hj hg.size) ?_ h2).trans (hg.block j hj h1)⟩
  rcases hr with e | e
  · rw [e]; exact h1
  · rw [e]; intro e; injection e with e; omega

structure LsV where
  q : Option Addr
  c : Nat
  l : List AV

def LsV.val (p : LsV) : Value := .slice p.q p.l.length p.c

structure OwnP (w : World) (B : Nat) (v : Value) (s : Option Nat) (L : List LsV) : Prop where
  row : w.ownsRow B 22 1 v L.length (L.map LsV.val)
  stay : ∀ p ∈ L, Stays B w v.ownBlock s fun x => RdV x p.q p.l

theorem OwnP.nil (w : World) (B : Nat) (s : Option Nat) : OwnP w B (.slice none 0 0) s [] := ⟨World.ownsRow_nil w B _ _, fun p h => by simp at h⟩

theorem OwnP.other {w w' : World} {B : Nat} {v : Value} {s s' : Option Nat} {L : List LsV} (h : OwnP w B v s L) (hg : w.grownBy w' s) (hne : ∀ k, v.ownBlock = some k → s ≠ some k) (hs : s' = s ∨ s' = some w.heap.size) : OwnP w' B v s' L :=
  ⟨World.ownsRow.kept h.row hg (by
    cases e : v.ownBlock with
    | none => exact Or.inl rfl
    | some k => exact Or.inr (fun q => hne k e q.symm)), fun p hp => ((h.stay p hp).swap.moved hg hs).swap⟩

theorem OwnP.on {w w' : World} {B : Nat} {v : Value} {s : Option Nat} {L : List LsV} (h : OwnP w B v s L) (hb : Below w.heap.size w w') : OwnP w' B v s L :=
  ⟨World.ownsRow.kept h.row (show w.grownBy w' none from ⟨hb.os, hb.tape, hb.output, hb.size, fun k hk _ => hb.block k hk⟩) (by cases v.ownBlock <;> simp), fun p hp => (h.stay p hp).below hb⟩

theorem OwnP.lt {w : World} {B : Nat} {v : Value} {s : Option Nat} {L : List LsV} (h : OwnP w B v s L) : ∀ k, v.ownBlock = some k → B ≤ k ∧ k < w.heap.size := fun k hk => World.ownsRow.lt h.row k hk

theorem rowV_stays {B : Nat} {w : World} {b n : Nat} {L : List AV} {r s : Option Nat} (h : RowV w b n L) (hr : ∀ k, r = some k → k < b) (hs : ∀ k, s = some k → k < b) (hB : B ≤ b) : Stays B w r s fun x => RdV x (some ⟨b, 0, none⟩) L := fun x hx => by
  have far : ∀ p : Addr, b ≤ p.block → ∀ u, w.cell? p = some u → x.cell? p = some u := fun p hp u hu => by
    rw [World.cell?_of_block (hx.block _ (Nat.le_trans hB hp) (World.block_lt_of_cell? w _ hu) (fun e => by have := hr _ e.symm; omega) (fun e => by have := hs _ e.symm; omega))]; exact hu
  refine ⟨fun t ht => ⟨_, rfl, fun j u hu => ?_⟩, fun y hy => ?_⟩
  · rw [addr_add, Nat.zero_add]
    exact far _ (by rw [addr_add]; exact Nat.le_refl b) u (h.at_ t ht j u hu)
  · obtain ⟨g, e, hg, rd⟩ := h.nums y hy
    intro t ht
    obtain ⟨p, e2, c⟩ := rd t ht
    have e3 : p = ⟨g, 0, none⟩ := by rw [e] at e2; injection e2 with e2; exact e2.symm
    exact ⟨p, e2, far _ (by rw [e3, addr_add]; show b ≤ g; omega) _ c⟩

theorem sl_info : (Tryz.prog.info? 22).map (fun i => (i.zero, i.size, i.bytes)) = some (some (.slice none 0 0), 1, 24) := by kernel_rfl

theorem appendP_run {w : World} {B : Nat} {v : Value} {s : Option Nat} {L : List LsV} (hown : OwnP w B v s L) {b c : Nat} {p : LsV} (hy : w.cell? ⟨b, 0, none⟩ = some p.val) (hG : Stays B w v.ownBlock s fun x => RdV x p.q p.l) (hle : L.length + 1 ≤ 1000000) (hB : B ≤ w.heap.size) (ty : TypeId) :
    ∃ v' w', (Builtin.append_ #[46, 46] ty #[v, .slice (some ⟨b, 0, none⟩) 1 c]).run Tryz.prog w = .ok v' w' ∧ OwnP w' B v' s (L ++ [p]) ∧ w.grownBy w' v.ownBlock ∧ (v'.ownBlock = v.ownBlock ∨ v'.ownBlock = some w.heap.size) := by
  obtain ⟨i0, hi, hz0, hz1, hz2⟩ := info_parts sl_info
  obtain ⟨v', w', hr, h2, h3, _, h5⟩ := run_append_own_at (P := Tryz.prog) w B 46 ty 22 i0 (.slice none 0 0) 1 24 Tryz.underlying46 hi hz0 hz1 hz2 (by rfl) (by decide) v L.length _ hown.row ⟨b, 0, none⟩ 1 c [p.val]
    (by simp) (fun j u hu => by
      cases j with
      | zero => simp at hu; rw [addr_add, ← hu]; exact hy
      | succ j => simp at hu) (by intro u hu; rw [List.mem_singleton] at hu; rw [hu]; rfl) (by unfold maxLen; omega) (by omega) hB
  refine ⟨v', w', hr, ⟨?_, fun z hz => ?_⟩, h3, h5⟩
  · rw [List.length_append, List.map_append]; simpa using h2
  · rcases List.mem_append.1 hz with q | q
    · exact (hown.stay z q).moved h3 h5
    · rw [List.mem_singleton] at q
      subst q
      exact hG.moved h3 h5

theorem OwnP.read {w : World} {B : Nat} {v : Value} {s : Option Nat} {L : List LsV} (h : OwnP w B v s L) : ∃ ao cap, v = .slice ao L.length cap ∧ (∀ t, ∀ ht : t < L.length, ∃ a, ao = some a ∧ w.cell? (a.add t) = some L[t].val) ∧ (∀ p ∈ L, RdV w p.q p.l) := by
  have hs : ∀ p ∈ L, RdV w p.q p.l := fun p hp => h.stay p hp w (GrS.refl _ _ _ _)
  rcases h.row.2 with ⟨rfl, hn⟩ | ⟨g, cap, cur, rfl, _⟩
  · exact ⟨none, 0, by rw [hn], fun t ht => by omega, hs⟩
  · refine ⟨_, cap, rfl, fun t ht => ⟨_, rfl, ?_⟩, hs⟩
    have hc := World.ownsRow.cellAt (g := g) (cap := cap) h.row
    rw [addr_add, Nat.zero_add]
    rw [hc t (by simpa using ht)]
    simp [ht]
end Go.Proofs.YtbhaoaobhgilkaaGreat
