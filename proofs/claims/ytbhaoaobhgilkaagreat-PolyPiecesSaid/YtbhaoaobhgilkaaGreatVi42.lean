/- The contract of Without of layer 7's reference, and that it is what the project's Without is told to return.; Plain mathematics: sums of ratios stand for sums over one denominator; Least is not above the sum at a point of the set.; Contracts of the statements' far, beyond, lent.; What the law PolyLeaves holds on to while it writes into its own copy.; Plain mathematics of Point: ends of a coordinate, the number between them.; The law PolyLeaves returns true. -/
import Derived.Test.YtbhaoaobhgilkaaGreatVi32
import Derived.Test.YtbhaoaobhgilkaaGreatVi40
import Derived.Test.YtbhaoaobhgilkaaGreatVi37
import Derived.Test.YtbhaoaobhgilkaaGreatVi39
import Derived.Test.YtbhaoaobhgilkaaGreatVi41

namespace Go.Proofs.YtbhaoaobhgilkaaGreat
open Go.RowKit Go.Sort Go.Shelf

theorem valid_fitV {n : Int} {y : AV} (h : validB n y = true) : FitV n.toNat y := by
  unfold validB at h
  simp only [Bool.and_eq_true, decide_eq_true_eq, List.all_eq_true] at h
  obtain ⟨⟨h1, h2⟩, h3⟩ := h
  refine ⟨by omega, fun v hv => ?_, ?_⟩
  · have := h2 v hv; unfold fitB at this; simpa using this
  · unfold fitB at h3; simpa using h3

end Go.Proofs.YtbhaoaobhgilkaaGreat

namespace Go.Proofs.YtbhaoaobhgilkaaGreat
open Go.Sort

theorem op_ok {v : Bool} {p q : Int} (h : opErr v p q = 0) : v = true ∧ q ≠ 0 ∧ vldB (opNum v p q) (opDen v p q) = true ∧ opNum v p q * q = p * opDen v p q := by
  unfold opErr at h
  cases v
  · simp at h
  · rw [if_pos rfl] at h
    obtain ⟨h1, h2, h3⟩ := mk_ok h
    exact ⟨rfl, h1, h2, h3⟩

theorem vR_pos {q : Pq} (h : vR q = true) : 1 ≤ q.2 := by
  unfold vR vldB at h
  simp at h
  exact h.1

/-- The ratio q is N / D. -/
def Val (q : Pq) (N D : Int) : Prop := vR q = true ∧ q.1 * D = N * q.2

theorem cancel {a b c : Int} (hc : c ≠ 0) (h : a * c = b * c) : a = b := Int.eq_of_mul_eq_mul_right hc h

theorem mul_val {k x D : Int} {z : Pq} (hz : Val z x D) (h : muE (k, 1) z = 0) : Val (muR (k, 1) z) (k * x) D := by
  obtain ⟨_, _, h3, h4⟩ := op_ok h
  refine ⟨h3, ?_⟩
  have hp := vR_pos hz.1
  have e := hz.2
  change (muR (k, 1) z).1 * (1 * z.2) = k * z.1 * (muR (k, 1) z).2 at h4
  generalize (muR (k, 1) z).1 = m1 at *
  generalize (muR (k, 1) z).2 = m2 at *
  generalize z.1 = z1 at *
  generalize z.2 = z2 at *
  refine cancel (c := z2) (by omega) ?_
  grind

theorem add_val {S M D : Int} {s m : Pq} (hs : Val s S D) (hm : Val m M D) (h : adE s m = 0) : Val (adR s m) (S + M) D := by
  obtain ⟨_, _, h3, h4⟩ := op_ok h
  refine ⟨h3, ?_⟩
  have p1 := vR_pos hs.1
  have p2 := vR_pos hm.1
  have e1 := hs.2
  have e2 := hm.2
  change (adR s m).1 * (s.2 * m.2) = (s.1 * m.2 + m.1 * s.2) * (adR s m).2 at h4
  generalize (adR s m).1 = a1 at *
  generalize (adR s m).2 = a2 at *
  generalize s.1 = s1 at *
  generalize s.2 = s2 at *
  generalize m.1 = m1 at *
  generalize m.2 = m2 at *
  refine cancel (c := s2 * m2) (Int.mul_ne_zero (by omega) (by omega)) ?_
  grind

theorem atN_val {D : Int} {X : List Int} {P : List Pq} (a : List Int) : ∀ t, (∀ j, j < t → Val (gp P j) (gA X j) D) → (atN a P t).2 = 0 → Val (atN a P t).1 (dotN a X t) D
  | 0, _, _ => ⟨(by decide : vR (0, 1) = true), by simp [atN, dotN]⟩
  | t + 1, hX, h => by
    have h0 : (atN a P t).2 = 0 := by
      by_cases q : (atN a P t).2 = 0
      · exact q
      · have := atN_stop q 1
        rw [this] at h; exact h
    by_cases hm : muE (gA a t, 1) (gp P t) = 0
    · have e := atN_add h0 hm
      rw [e] at h ⊢
      exact add_val (atN_val a t (fun j hj => hX j (by omega)) h0) (mul_val (hX t (by omega)) hm) h
    · have e := atN_mul h0 hm
      rw [e] at h; exact absurd h hm

/-- Every point is one over one denominator. -/
theorem pt_of : ∀ (P : List Pq), (∀ q ∈ P, vR q = true) → ∃ D X, 0 < D ∧ X.length = P.length ∧ ∀ j, j < P.length → Val (gp P j) (gA X j) D
  | [], _ => ⟨1, [], by omega, rfl, fun j h => by simp at h⟩
  | q :: r, h => by
    obtain ⟨D, X, hD, hl, hv⟩ := pt_of r fun z hz => h z (by simp [hz])
    have hq := h q (by simp)
    have hp := vR_pos hq
    refine ⟨D * q.2, (q.1 * D) :: X.map (· * q.2), Int.mul_pos hD (by omega), by simp [hl], fun j hj => ?_⟩
    cases j with
    | zero =>
      refine ⟨hq, ?_⟩
      show q.1 * (D * q.2) = q.1 * D * q.2
      rw [Int.mul_assoc]
    | succ j =>
      have hv := hv j (by simpa using hj)
      refine ⟨hv.1, ?_⟩
      show (gp r j).1 * (D * q.2) = gA (X.map (· * q.2)) j * (gp r j).2
      rw [gA_scale, ← Int.mul_assoc, hv.2, Int.mul_right_comm]

theorem vld_int {b : Int} (h : -2147483647 ≤ b ∧ b ≤ 2147483647) : vldB b 1 = true := by
  unfold vldB; simp; omega

theorem scale_lt {q1 q2 N D b : Int} (hq : 0 < q2) (hD : 0 < D) (e : q1 * D = N * q2) : (q1 < b * q2 ↔ N < b * D) ∧ (q1 = b * q2 ↔ N = b * D) := by
  have e2 : b * q2 * D = b * D * q2 := Int.mul_right_comm ..
  constructor
  · constructor
    · intro h
      have := Int.mul_lt_mul_of_pos_right h hD
      rw [e, e2] at this
      exact Int.lt_of_mul_lt_mul_right this (by omega)
    · intro h
      have := Int.mul_lt_mul_of_pos_right h hq
      rw [← e, ← e2] at this
      exact Int.lt_of_mul_lt_mul_right this (by omega)
  · constructor
    · intro h
      rw [h, e2] at e
      exact (cancel (by omega) e).symm
    · intro h
      rw [h, ← e2] at e
      exact cancel (by omega) e

/-- What Has says of a line is that the point meets it. -/
theorem line_val {D : Int} {X : List Int} {P : List Pq} {y : AV} (hD : 0 < D) (hv : Val (atN y.a P P.length).1 (dotN y.a X P.length) D) (hb : -2147483647 ≤ y.b ∧ y.b ≤ 2147483647) :
    lineB P y = true ↔ (if y.s = true then dotN y.a X P.length < y.b * D else dotN y.a X P.length ≤ y.b * D) := by
  have hq := vR_pos hv.1
  have hs := scale_lt (b := y.b) (show 0 < (atN y.a P P.length).1.2 by omega) hD hv.2
  have hvv := hv.1
  unfold lineB cmR
  unfold vR at hvv
  rw [hvv, vld_int hb]
  simp only [Bool.and_self, if_true, Int.mul_one]
  unfold sgn
  generalize (atN y.a P P.length).1.1 = q1 at *
  generalize (atN y.a P P.length).1.2 = q2 at *
  generalize dotN y.a X P.length = N at *
  generalize y.b * D = R at *
  generalize y.b * q2 = r at *
  obtain ⟨c1, c2⟩ := hs
  rcases Int.lt_trichotomy q1 r with h | h | h
  · have h' := c1.1 h
    rw [if_pos h]
    cases y.s <;> simp <;> omega
  · have h' := c2.1 h
    rw [if_neg (by omega), if_neg (by omega)]
    cases y.s <;> simp <;> omega
  · have h1 : ¬ N < R := fun k => by have := c1.2 k; omega
    have h2 : ¬ N = R := fun k => by have := c2.2 k; omega
    rw [if_neg (by omega), if_pos h]
    cases y.s <;> simp <;> omega

theorem dot_only {n : Nat} {a X : List Int} {T : Int} (h0 : ∀ j, j < n → gA a j = 0) (hX : ∀ j, n < j → gA X j = 0) (hT : gA X n = T) : ∀ t, dotN a X t = if n < t then gA a n * T else 0
  | 0 => by simp [dotN]
  | t + 1 => by
    show dotN a X t + gA a t * gA X t = _
    rw [dot_only h0 hX hT t]
    rcases Nat.lt_trichotomy t n with h | h | h
    · rw [if_neg (by omega), if_neg (by omega), h0 t h]; simp
    · subst h; rw [if_neg (by omega), if_pos (by omega), hT]; simp
    · rw [if_pos h, if_pos (by omega), hX t h]; simp

theorem dot_congr {a b X Y : List Int} : ∀ t, (∀ j, j < t → gA a j = gA b j ∧ gA X j = gA Y j) → dotN a X t = dotN b Y t
  | 0, _ => rfl
  | t + 1, h => by
    show dotN a X t + gA a t * gA X t = dotN b Y t + gA b t * gA Y t
    rw [dot_congr t fun j hj => h j (by omega), (h t (by omega)).1, (h t (by omega)).2]

theorem dot_more {a X : List Int} {n : Nat} (h : ∀ j, n ≤ j → gA a j = 0) : ∀ k, dotN a X (n + k) = dotN a X n
  | 0 => rfl
  | k + 1 => by
    show dotN a X (n + k) + gA a (n + k) * gA X (n + k) = _
    rw [dot_more h k, h _ (by omega)]; simp

theorem gA_pad (a : List Int) (k j : Nat) : gA (a ++ List.replicate k 0) j = gA a j := by
  by_cases h : j < a.length
  · unfold gA; rw [List.getD_eq_getElem?_getD, List.getD_eq_getElem?_getD, List.getElem?_append_left h]
  · rw [gA_out (a := a) (by omega)]
    unfold gA
    rw [List.getD_eq_getElem?_getD, List.getElem?_append_right (by omega), List.getElem?_replicate]
    split <;> rfl

theorem totE_zero {P : List Pq} : ∀ {L : List AV}, totE P L = 0 → ∀ y ∈ L, (atN y.a P P.length).2 = 0
  | [], _, y, hy => by simp at hy
  | z :: r, h, y, hy => by
    unfold totE at h
    by_cases q : (atN z.a P P.length).2 = 0
    · rw [if_neg (fun k => k q)] at h
      rcases List.mem_cons.1 hy with rfl | hy
      · exact q
      · exact totE_zero h y hy
    · rw [if_pos q] at h; exact absurd h q

theorem has_zero {n : Int} {L : List AV} {P : List Pq} (h : hasE n L P = 0) : chkP n L = 0 ∧ (P.length : Int) = n ∧ (∀ q ∈ P, vR q = true) ∧ ∀ y ∈ L, (atN y.a P P.length).2 = 0 := by
  unfold hasE at h
  by_cases h1 : chkP n L = 0
  · rw [if_neg (fun q => q h1)] at h
    by_cases h2 : (P.length : Int) = n
    · rw [if_neg (fun q => q h2)] at h
      by_cases h3 : P.all vR = true
      · rw [if_pos h3] at h
        exact ⟨h1, h2, List.all_eq_true.1 h3, totE_zero h⟩
      · rw [if_neg h3] at h; cases h
    · rw [if_pos h2] at h; cases h
  · rw [if_pos h1] at h; exact absurd h h1

/-- What Has says: the point, over one denominator, meets the lines. -/
theorem has_sat {n : Nat} {L : List AV} {P : List Pq} {D : Int} {X : List Int} (hE : hasE n L P = 0) (hD : 0 < D) (hX : ∀ j, j < P.length → Val (gp P j) (gA X j) D) (hn : n ≤ 5) :
    hasB n L P = true ↔ ∀ y ∈ L, sat D X (ofV y) := by
  obtain ⟨h1, h2, h3, h4⟩ := has_zero hE
  have hv := (chk_valid h1).2.2
  unfold hasB
  rw [decide_eq_true hE, Bool.true_and, List.all_eq_true]
  have key : ∀ y ∈ L, (lineB P y = true ↔ sat D X (ofV y)) := fun y hy => by
    have hf := valid_fitV (hv y hy)
    rw [line_val hD (atN_val y.a P.length hX (h4 y hy)) hf.2.2]
    have hl : y.a.length = n := by have := hf.1; simpa using this
    have e : dotN (ofV y).a X 6 = dotN y.a X P.length := by
      have hp : P.length = n := by omega
      rw [hp, show 6 = n + (6 - n) by omega, dot_more (fun j hj => by unfold ofV; rw [gA_pad, gA_out (by omega)])]
      exact dot_congr n fun j _ => ⟨by unfold ofV; rw [gA_pad], rfl⟩
    unfold sat
    rw [e]
    exact Iff.rfl
  exact ⟨fun h y hy => (key y hy).1 (h y hy), fun h y hy => (key y hy).2 (h y hy)⟩

end Go.Proofs.YtbhaoaobhgilkaaGreat

namespace Go.Proofs.YtbhaoaobhgilkaaGreat
open Go.RowKit Go.Sort Go.Shelf

def FarOk (L : List AV) (most : Int) : Prop := L.length ≤ 2000 ∧ (∀ y ∈ L, y.a.length ≤ 20) ∧ ((L.length : Int) ≤ most ∨ 1000 < L.length)

/-- What far and beyond leave. -/
def FarRes (L : List AV) (most : Int) (w : World) (e : Ending) (w' : World) : Prop := ∃ b, e = .returned (.bool b) ∧ w' = w ∧ (b = false → FarOk L most)

def ByRes (L M : List AV) (most : Int) (xa : List Int) (P : List Pq) (aa : List Int) (w : World) (e : Ending) (w' : World) : Prop := ∃ b, e = .returned (.bool b) ∧ Below w.heap.size w w' ∧ (b = false → FarOk L most ∧ FarOk M most ∧ xa.length ≤ 20 ∧ P.length ≤ 20 ∧ aa.length ≤ 20)

theorem AvAt.first {w : World} {p : Addr} {t : Nat} {y : AV} (h : AvAt w (p.add (t * 3)) y) : w.cell? (p.add (t * 3)) = some (.slice y.q y.a.length y.c) := h.three.1

set_option maxRecDepth 100000 in
set_option maxHeartbeats 4000000 in
theorem far_any (L : List AV) (most : Int) (ao : Option Addr) (cap : Nat) (w : World) (hR : RdV w ao L) :
    Calls Tryz.prog 36 #[.slice ao L.length cap, .int .i64 most] w (FarRes L most w) := by
  obtain ⟨m, hm⟩ : ∃ m, m = L.length := ⟨_, rfl⟩
  have HM := Lib.hid hm
  have HR := Lib.hid hR
  rw [← hm]
  clear hm hR
  go_enter Tryz.func36, Tryz.ntmps36
  go_wp2_with fail
  go_loopw [5] (fun s wr => ∃ t : Nat, t ≤ m ∧ t ≤ 2000 ∧ s = .int .i64 t ∧ Hid (∀ k, ∀ h : k < L.length, k < t → L[k].a.length ≤ 20) ∧ wr = w) (fun s _ => m - (intOf s).toNat)
  case atStart => exact ⟨0, by omega, by omega, rfl, Lib.hid (fun k _ hk => by omega), rfl⟩
  case round =>
    obtain ⟨t, ht, ht2, rfl, HT, rfl⟩ := hrel
    by_cases htn : t < m
    · by_cases ht3 : t < 2000
      · have h1 : t < L.length := by have := HM.out; omega
        obtain ⟨a, ea, hA⟩ := HR.out.at_ t h1
        have NX := Lib.hid (show L[t].a.length ≤ 20 → ∀ k, ∀ h : k < L.length, k < t + 1 → L[k].a.length ≤ 20 from fun h k g hk => by
          by_cases e : k = t
          · subst e; exact h
          · exact HT.out k g (by omega))
        have a0 := hA.first
        generalize L[t] = y at *
        obtain ⟨n, hn⟩ : ∃ n, n = y.a.length := ⟨_, rfl⟩
        rw [← hn] at a0 NX
        subst ea
        clear hA h1 hn
        by_cases h20 : 20 < n
        · have h20' : (20 : Int) < n := by omega
          go_wp2_with fail
          go_ret
          exact ⟨_, rfl, rfl, fun h => by cases h⟩
        · have h20' : ¬ (20 : Int) < n := by omega
          have HT2 := Lib.hid (NX.out (by omega))
          go_wp2_with fail
          go_roundw
          case rel => exact ⟨t + 1, by omega, by omega, by go_num, HT2, trivial⟩
          case measure => simp [intOf]; omega
      · have h2 : 2000 < m := by omega
        have h2' : (2000 : Int) < m := by omega
        go_wp2_with fail
        go_ret
        exact ⟨_, rfl, rfl, fun h => by first | (simp at h; done) | (simp at h; omega)⟩
    · have FK := Lib.hid (show (m : Int) ≤ most ∨ 1000 < m → m ≤ 2000 → FarOk L most from fun h h' => by
        refine ⟨by have := HM.out; omega, fun y hy => ?_, by rw [← HM.out]; exact h⟩
        obtain ⟨k, hk, rfl⟩ := List.getElem_of_mem hy
        exact HT.out k hk (by have := HM.out; omega))
      by_cases h5 : 2000 < m
      · exact absurd h5 (by omega)
      by_cases h3 : most < m
      · go_wp2_with fail
        go_ret
        exact ⟨_, rfl, rfl, fun h => FK.out (Or.inr (by first | (simp at h; done) | (simp at h; omega))) (by omega)⟩
      · go_wp2_with fail
        go_ret
        exact ⟨_, rfl, rfl, fun h => FK.out (Or.inl (by omega)) (by omega)⟩

set_option maxRecDepth 100000 in
set_option maxHeartbeats 4000000 in
theorem beyond_any (N I most xb : Int) (xs : Bool) (L M : List AV) (xa aa : List Int) (P : List Pq) (la ma xq pa aq : Option Addr) (lc mc xc pc ac : Nat) (w : World) (hR : RdV w la L) (hS : RdV w ma M) :
    Calls Tryz.prog 9 #[.agg #[.int .i64 N, .slice la L.length lc, .slice ma M.length mc, .slice xq xa.length xc, .int .i64 xb, .bool xs, .int .i64 I, .slice pa P.length pc, .slice aq aa.length ac], .int .i64 most] w
      (ByRes L M most xa P aa w) := by
  obtain ⟨l1, e1⟩ : ∃ n, n = L.length := ⟨_, rfl⟩
  obtain ⟨l2, e2⟩ : ∃ n, n = M.length := ⟨_, rfl⟩
  obtain ⟨l3, e3⟩ : ∃ n, n = xa.length := ⟨_, rfl⟩
  obtain ⟨l4, e4⟩ : ∃ n, n = P.length := ⟨_, rfl⟩
  obtain ⟨l5, e5⟩ : ∃ n, n = aa.length := ⟨_, rfl⟩
  obtain ⟨w0, hw0⟩ : ∃ w0, w0 = w.alloc (.cells #[.int .i64 N, .slice la l1 lc, .slice ma l2 mc, .slice xq l3 xc, .int .i64 xb, .bool xs, .int .i64 I, .slice pa l4 pc, .slice aq l5 ac] 28) := ⟨_, rfl⟩
  have E0 := Lib.hid (show Below w.heap.size w w0 by rw [hw0]; exact one_more _)
  have hq := heap_alloc_last w (.cells #[.int .i64 N, .slice la l1 lc, .slice ma l2 mc, .slice xq l3 xc, .int .i64 xb, .bool xs, .int .i64 I, .slice pa l4 pc, .slice aq l5 ac] 28)
  rw [← hw0] at hq
  have d1 : w0.cell? ⟨w.heap.size, 1, none⟩ = some (.slice la l1 lc) := by rw [cell_of_row w0 _ 1 _ _ _ hq]; rfl
  have d2 : w0.cell? ⟨w.heap.size, 2, none⟩ = some (.slice ma l2 mc) := by rw [cell_of_row w0 _ 2 _ _ _ hq]; rfl
  have d3 : w0.cell? ⟨w.heap.size, 3, none⟩ = some (.slice xq l3 xc) := by rw [cell_of_row w0 _ 3 _ _ _ hq]; rfl
  have d7 : w0.cell? ⟨w.heap.size, 7, none⟩ = some (.slice pa l4 pc) := by rw [cell_of_row w0 _ 7 _ _ _ hq]; rfl
  have d8 : w0.cell? ⟨w.heap.size, 8, none⟩ = some (.slice aq l5 ac) := by rw [cell_of_row w0 _ 8 _ _ _ hq]; rfl
  have F1 := Lib.hid (far_any L most la lc w0 (hR.on E0.out))
  have F2 := Lib.hid (far_any M most ma mc w0 (hS.on E0.out))
  rw [← e1] at F1
  rw [← e2] at F2
  have fin := Lib.hid (show FarOk L most → FarOk M most → l3 ≤ 20 → l4 ≤ 20 → l5 ≤ 20 → FarOk L most ∧ FarOk M most ∧ xa.length ≤ 20 ∧ P.length ≤ 20 ∧ aa.length ≤ 20 from fun a b c d e => ⟨a, b, by omega, by omega, by omega⟩)
  rw [← e1, ← e2, ← e3, ← e4, ← e5]
  clear hR hS hq e1 e2 e3 e4 e5
  go_enter Tryz.func9, Tryz.ntmps9
  go_upto_region 1 with (fail)
  rw [← hw0]
  clear hw0
  go_wp2_with fail
  refine F1.out.mono ?_
  rintro e w1 ⟨b, rfl, hw, h1⟩
  rw [hw]
  clear hw F1
  have H1 := Lib.hid h1
  clear h1
  cases b
  case true =>
    go_wp2_with fail
    go_ret
    exact ⟨_, rfl, E0.out, fun h => by first | (simp at h; done) | (simp at h; omega)⟩
  go_wp2_with fail
  refine F2.out.mono ?_
  rintro e w1 ⟨b, rfl, hw, h1⟩
  rw [hw]
  clear hw F2
  have H2 := Lib.hid h1
  clear h1
  cases b
  case true =>
    go_wp2_with fail
    go_ret
    exact ⟨_, rfl, E0.out, fun h => by first | (simp at h; done) | (simp at h; omega)⟩
  by_cases g3 : 20 < l3
  · go_wp2_with fail
    go_ret
    exact ⟨_, rfl, E0.out, fun h => by first | (simp at h; done) | (simp at h; omega)⟩
  by_cases g4 : 20 < l4
  · go_wp2_with fail
    go_ret
    exact ⟨_, rfl, E0.out, fun h => by first | (simp at h; done) | (simp at h; omega)⟩
  by_cases g5 : 20 < l5
  · go_wp2_with fail
    go_ret
    exact ⟨_, rfl, E0.out, fun h => by first | (simp at h; done) | (simp at h; omega)⟩
  have F9 := Lib.hid (fin.out (H1.out (by first | rfl | trivial)) (H2.out (by first | rfl | trivial)) (by omega) (by omega) (by omega))
  go_wp2_with fail
  go_ret
  exact ⟨_, rfl, E0.out, fun _ => F9.out⟩

end Go.Proofs.YtbhaoaobhgilkaaGreat

namespace Go.Proofs.YtbhaoaobhgilkaaGreat
open Go.RowKit Go.Sort Go.Shelf

end Go.Proofs.YtbhaoaobhgilkaaGreat

namespace Go.Proofs.YtbhaoaobhgilkaaGreat
open Go.Sort

/-- The ratio r is not below c (above it, if s). -/
def Over (r c : Pq) (s : Bool) : Prop := c.1 * r.2 ≤ r.1 * c.2 ∧ (s = true → c.1 * r.2 < r.1 * c.2)

theorem fd_valP {x : Ln} {i : Nat} {P : List Pq} {D : Int} {X : List Int} (_hD : 0 < D) (hX : ∀ j, j < P.length → Val (gp P j) (gA X j) D) (h : fdE x i P = 0) : vR (fdV x i P) = true ∧ (fdV x i P).1 * (gA x.a i * D) = (x.b * D - dotN x.a X P.length) * (fdV x i P).2 := by
  unfold fdE at h
  by_cases h0 : (atN x.a P P.length).2 = 0
  · rw [if_neg (fun q => q h0)] at h
    have hv := atN_val x.a P.length hX h0
    by_cases h1 : sbE (x.b, 1) (atN x.a P P.length).1 = 0
    · rw [if_neg (fun q => q h1)] at h
      obtain ⟨_, _, d3, d4⟩ := op_ok h1
      obtain ⟨_, _, f3, f4⟩ := op_ok h
      refine ⟨f3, ?_⟩
      change (sbR (x.b, 1) (atN x.a P P.length).1).1 * (1 * (atN x.a P P.length).1.2) = (x.b * (atN x.a P P.length).1.2 - (atN x.a P P.length).1.1 * 1) * (sbR (x.b, 1) (atN x.a P P.length).1).2 at d4
      change (fdV x i P).1 * ((sbR (x.b, 1) (atN x.a P P.length).1).2 * gA x.a i) = (sbR (x.b, 1) (atN x.a P P.length).1).1 * 1 * (fdV x i P).2 at f4
      have hd : 1 ≤ (sbR (x.b, 1) (atN x.a P P.length).1).2 := vR_pos (q := sbR (x.b, 1) (atN x.a P P.length).1) d3
      have hq := vR_pos hv.1
      have he := hv.2
      generalize dotN x.a X P.length = N at *
      generalize (fdV x i P).1 = f1 at *
      generalize (fdV x i P).2 = f2 at *
      generalize (sbR (x.b, 1) (atN x.a P P.length).1).1 = e1 at *
      generalize (sbR (x.b, 1) (atN x.a P P.length).1).2 = e2 at *
      generalize (atN x.a P P.length).1.1 = q1 at *
      generalize (atN x.a P P.length).1.2 = q2 at *
      generalize gA x.a i = a at *
      refine cancel (c := e2 * q2) (Int.mul_ne_zero (by omega) (by omega)) ?_
      have g1 : f1 * (a * D) * (e2 * q2) = e1 * q2 * (f2 * D) := by grind
      have g2 : e1 * q2 = (x.b * q2 - q1) * e2 := by grind
      rw [g1, g2]
      have g3 : (x.b * D - N) * f2 * (e2 * q2) = (x.b * q2 * D - N * q2) * (f2 * e2) := by grind
      rw [g3, ← he]
      grind
    · rw [if_pos h1] at h; exact absurd h h1
  · rw [if_pos h0] at h; exact absurd h h0

/-- A line, at a point extended by the ratio r1 / r2: on which side of the line's end r lies. -/
theorem side_core {S a b D f1 f2 r1 r2 : Int} (hD : 0 < D) (hf : 0 < f2) (e : f1 * (a * D) = (b * D - S) * f2) :
    (S * r2 + a * (r1 * D) ≤ b * (D * r2) ↔ a * (r1 * f2 - f1 * r2) ≤ 0) ∧ (S * r2 + a * (r1 * D) < b * (D * r2) ↔ a * (r1 * f2 - f1 * r2) < 0) := by
  have k : (b * (D * r2) - (S * r2 + a * (r1 * D))) * f2 = -(a * (r1 * f2 - f1 * r2)) * D := by grind
  obtain ⟨Z, hZ⟩ : ∃ Z, Z = b * (D * r2) - (S * r2 + a * (r1 * D)) := ⟨_, rfl⟩
  obtain ⟨W, hW⟩ : ∃ W, W = a * (r1 * f2 - f1 * r2) := ⟨_, rfl⟩
  rw [← hZ, ← hW] at k
  rw [← hW]
  have h1 : 0 ≤ Z ↔ W ≤ 0 := by
    constructor
    · intro h
      have h2 := Int.mul_nonneg h (Int.le_of_lt hf)
      rw [k] at h2
      rcases Int.lt_or_le 0 W with q | q
      · have := Int.mul_lt_mul_of_pos_right (show -W < 0 by omega) hD
        omega
      · exact q
    · intro h
      have h2 := Int.mul_nonneg (show 0 ≤ -W by omega) (Int.le_of_lt hD)
      rw [← k] at h2
      rcases Int.lt_or_le Z 0 with q | q
      · have := Int.mul_lt_mul_of_pos_right q hf
        omega
      · exact q
  have h2 : 0 < Z ↔ W < 0 := by
    constructor
    · intro h
      have h2 := Int.mul_pos h hf
      rw [k] at h2
      rcases Int.lt_or_le W 0 with q | q
      · exact q
      · have := Int.mul_le_mul_of_nonneg_right (show -W ≤ 0 by omega) (Int.le_of_lt hD)
        omega
    · intro h
      have h2 := Int.mul_pos (show 0 < -W by omega) hD
      rw [← k] at h2
      rcases Int.lt_or_le 0 Z with q | q
      · exact q
      · have := Int.mul_le_mul_of_nonneg_right q (Int.le_of_lt hf)
        omega
  omega

theorem neg_side {a u : Int} (ha : a < 0) : (a * u ≤ 0 ↔ 0 ≤ u) ∧ (a * u < 0 ↔ 0 < u) := by
  constructor
  · constructor
    · intro h
      rcases Int.lt_or_le u 0 with q | q
      · have := Int.mul_pos_of_neg_of_neg ha q; omega
      · exact q
    · intro h; exact Int.mul_nonpos_of_nonpos_of_nonneg (by omega) h
  · constructor
    · intro h
      rcases Int.lt_or_le 0 u with q | q
      · exact q
      · have := Int.mul_nonneg_of_nonpos_of_nonpos (Int.le_of_lt ha) q; omega
    · intro h; exact Int.mul_neg_of_neg_of_pos ha h

theorem pos_side {a u : Int} (ha : 0 < a) : (a * u ≤ 0 ↔ u ≤ 0) ∧ (a * u < 0 ↔ u < 0) := by
  have := neg_side (a := -a) (u := -u) (by omega)
  rw [Int.neg_mul_neg] at this
  constructor
  · rw [this.1]; omega
  · rw [this.2]; omega

theorem over_trans {a b c : Pq} {s t : Bool} (ha : 1 ≤ a.2) (hb : 1 ≤ b.2) (hc : 1 ≤ c.2) (h1 : Over c b s) (h2 : Over b a t) : Over c a (s || t) := by
  obtain ⟨p, q⟩ := le_trans3 (a := a.1) (b := a.2) (c := b.1) (d := b.2) (P := c.1) (Q := c.2) (by omega) (by omega) (by omega) h2.1 h1.1
  refine ⟨p, fun h => q ?_⟩
  cases s
  · cases t
    · cases h
    · exact Or.inl (h2.2 rfl)
  · exact Or.inr (h1.2 rfl)

theorem over_weak {r c : Pq} {s t : Bool} (h : Over r c s) (hs : t = true → s = true) : Over r c t := ⟨h.1, fun k => h.2 (hs k)⟩
end Go.Proofs.YtbhaoaobhgilkaaGreat

namespace Go.Proofs.YtbhaoaobhgilkaaGreat
open Go.RowKit Go.Sort Go.Shelf

theorem case_agg (w : World) : (isAgg 28).run Tryz.prog w = .ok true w := by
  unfold isAgg; rw [Sem.run_bind, run_underlying Tryz.underlying28 w]; simp

theorem case_size : (Tryz.prog.info? 28).map (·.size) = some 9 := by kernel_rfl

theorem wpl_loadC {t : TypeId} {cs : List Value} (ha : ∀ w, (isAgg t).run Tryz.prog w = .ok true w) (hz : (Tryz.prog.info? t).map (·.size) = some cs.length) {w : World} {ops : Array Oper} {rest : List Oper} {o : Oper} {a : Act} {Q : Exit → Act → World → Prop} (hgd : o.guard = none) (s : Operand) (ho : o.op = .load t s) (p : Addr) (hs : a.eval s = .pointer (some p)) (hx : CsAt w p cs)
    (h : wpList Tryz.prog ops Q rest (a.put o.dst (.agg ⟨cs⟩)) w) : wpList Tryz.prog ops Q (o :: rest) a w :=
  wpList_plain hgd fun K hK => by
    have hv := cs_loadP (cs := cs) ha hz hx
    unfold Oper.wp execOp
    simp only [ho, hs, Instr.loadAt, Instr.sureAddr, Sem.run_bind, Sem.run_pure, Result.andThen_ok, hv]
    exact hK _ _ h

end Go.Proofs.YtbhaoaobhgilkaaGreat
