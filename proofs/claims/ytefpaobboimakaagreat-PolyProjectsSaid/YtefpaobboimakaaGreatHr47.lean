/- Plain mathematics: sums of ratios stand for sums over one denominator; Least is not above the sum at a point of the set. -/
import Derived.Test.YtefpaobboimakaaGreatHr39
import Derived.Test.YtefpaobboimakaaGreatHr42
import Derived.Test.YtefpaobboimakaaGreatHr46

namespace Go.Proofs.YtefpaobboimakaaGreat
open Go.Sort

theorem op_ok {v : Bool} {p q : Int} (h : opErr v p q = 0) : v = true ∧ q ≠ 0 ∧ vldB (opNum v p q) (opDen v p q) = true ∧ opNum v p q * q = p * opDen v p q := by
  unfold opErr at h
  cases v
  · simp at h
  · rw [if_pos rfl] at h
    obtain ⟨h1, h2, h3⟩ := mk_ok h
    exact ⟨rfl, h1, h2, h3⟩

theorem vR_pos {q : Pq} (h : vR q = true) : 1 ≤ q.2 := by
  unfold vR vldB at h
  simp at h
  exact h.1

/-- The ratio q is N / D. -/
def Val (q : Pq) (N D : Int) : Prop := vR q = true ∧ q.1 * D = N * q.2

theorem cancel {a b c : Int} (hc : c ≠ 0) (h : a * c = b * c) : a = b := Int.eq_of_mul_eq_mul_right hc h

theorem mul_val {k x D : Int} {z : Pq} (hz : Val z x D) (h : muE (k, 1) z = 0) : Val (muR (k, 1) z) (k * x) D := by
  obtain ⟨_, _, h3, h4⟩ := op_ok h
  refine ⟨h3, ?_⟩
  have hp := vR_pos hz.1
  have e := hz.2
  change (muR (k, 1) z).1 * (1 * z.2) = k * z.1 * (muR (k, 1) z).2 at h4
  generalize (muR (k, 1) z).1 = m1 at *
  generalize (muR (k, 1) z).2 = m2 at *
  generalize z.1 = z1 at *
  generalize z.2 = z2 at *
  refine cancel (c := z2) (by omega) ?_
  grind

theorem add_val {S M D : Int} {s m : Pq} (hs : Val s S D) (hm : Val m M D) (h : adE s m = 0) : Val (adR s m) (S + M) D := by
  obtain ⟨_, _, h3, h4⟩ := op_ok h
  refine ⟨h3, ?_⟩
  have p1 := vR_pos hs.1
  have p2 := vR_pos hm.1
  have e1 := hs.2
  have e2 := hm.2
  change (adR s m).1 * (s.2 * m.2) = (s.1 * m.2 + m.1 * s.2) * (adR s m).2 at h4
  generalize (adR s m).1 = a1 at *
  generalize (adR s m).2 = a2 at *
  generalize s.1 = s1 at *
  generalize s.2 = s2 at *
  generalize m.1 = m1 at *
  generalize m.2 = m2 at *
  refine cancel (c := s2 * m2) (Int.mul_ne_zero (by omega) (by omega)) ?_
  grind

theorem atN_val {D : Int} {X : List Int} {P : List Pq} (a : List Int) : ∀ t, (∀ j, j < t → Val (gp P j) (gA X j) D) → (atN a P t).2 = 0 → Val (atN a P t).1 (dotN a X t) D
  | 0, _, _ => ⟨(by decide : vR (0, 1) = true), by simp [atN, dotN]⟩
  | t + 1, hX, h => by
    have h0 : (atN a P t).2 = 0 := by
      by_cases q : (atN a P t).2 = 0
      · exact q
      · have := atN_stop q 1
        rw [this] at h; exact h
    by_cases hm : muE (gA a t, 1) (gp P t) = 0
    · have e := atN_add h0 hm
      rw [e] at h ⊢
      exact add_val (atN_val a t (fun j hj => hX j (by omega)) h0) (mul_val (hX t (by omega)) hm) h
    · have e := atN_mul h0 hm
      rw [e] at h; exact absurd h hm

/-- Every point is one over one denominator. -/
theorem pt_of : ∀ (P : List Pq), (∀ q ∈ P, vR q = true) → ∃ D X, 0 < D ∧ X.length = P.length ∧ ∀ j, j < P.length → Val (gp P j) (gA X j) D
  | [], _ => ⟨1, [], by omega, rfl, fun j h => by simp at h⟩
  | q :: r, h => by
    obtain ⟨D, X, hD, hl, hv⟩ := pt_of r fun z hz => h z (by simp [hz])
    have hq := h q (by simp)
    have hp := vR_pos hq
    refine ⟨D * q.2, (q.1 * D) :: X.map (· * q.2), Int.mul_pos hD (by omega), by simp [hl], fun j hj => ?_⟩
    cases j with
    | zero =>
      refine ⟨hq, ?_⟩
      show q.1 * (D * q.2) = q.1 * D * q.2
      rw [Int.mul_assoc]
    | succ j =>
      have hv := hv j (by simpa using hj)
      refine ⟨hv.1, ?_⟩
      show (gp r j).1 * (D * q.2) = gA (X.map (· * q.2)) j * (gp r j).2
      rw [gA_scale, ← Int.mul_assoc, hv.2, Int.mul_right_comm]

theorem vld_int {b : Int} (h : -2147483647 ≤ b ∧ b ≤ 2147483647) : vldB b 1 = true := by
  unfold vldB; simp; omega

theorem scale_lt {q1 q2 N D b : Int} (hq : 0 < q2) (hD : 0 < D) (e : q1 * D = N * q2) : (q1 < b * q2 ↔ N < b * D) ∧ (q1 = b * q2 ↔ N = b * D) := by
  have e2 : b * q2 * D = b * D * q2 := Int.mul_right_comm ..
  constructor
  · constructor
    · intro h
      have := Int.mul_lt_mul_of_pos_right h hD
      rw [e, e2] at this
      exact Int.lt_of_mul_lt_mul_right this (by omega)
    · intro h
      have := Int.mul_lt_mul_of_pos_right h hq
      rw [← e, ← e2] at this
      exact Int.lt_of_mul_lt_mul_right this (by omega)
  · constructor
    · intro h
      rw [h, e2] at e
      exact (cancel (by omega) e).symm
    · intro h
      rw [h, ← e2] at e
      exact cancel (by omega) e

/-- What Has says of a line is that the point meets it. -/
theorem line_val {D : Int} {X : List Int} {P : List Pq} {y : AV} (hD : 0 < D) (hv : Val (atN y.a P P.length).1 (dotN y.a X P.length) D) (hb : -2147483647 ≤ y.b ∧ y.b ≤ 2147483647) :
    lineB P y = true ↔ (if y.s = true then dotN y.a X P.length < y.b * D else dotN y.a X P.length ≤ y.b * D) := by
  have hq := vR_pos hv.1
  have hs := scale_lt (b := y.b) (show 0 < (atN y.a P P.length).1.2 by omega) hD hv.2
  have hvv := hv.1
  unfold lineB cmR
  unfold vR at hvv
  rw [hvv, vld_int hb]
  simp only [Bool.and_self, if_true, Int.mul_one]
  unfold sgn
  generalize (atN y.a P P.length).1.1 = q1 at *
  generalize (atN y.a P P.length).1.2 = q2 at *
  generalize dotN y.a X P.length = N at *
  generalize y.b * D = R at *
  generalize y.b * q2 = r at *
  obtain ⟨c1, c2⟩ := hs
  rcases Int.lt_trichotomy q1 r with h | h | h
  · have h' := c1.1 h
    rw [if_pos h]
    cases y.s <;> simp <;> omega
  · have h' := c2.1 h
    rw [if_neg (by omega), if_neg (by omega)]
    cases y.s <;> simp <;> omega
  · have h1 : ¬ N < R := fun k => by have := c1.2 k; omega
    have h2 : ¬ N = R := fun k => by have := c2.2 k; omega
    rw [if_neg (by omega), if_pos h]
    cases y.s <;> simp <;> omega

/-- What is known of a lower end of t: t is not below. -/
def LowOk (D T : Int) (c : En) : Prop := c.ex = true → vR c.v = true ∧ c.v.1 * D ≤ T * c.v.2 ∧ (c.op = true → c.v.1 * D < T * c.v.2)

theorem fd_val {x : Ln} {n : Nat} (h : fdE x n [] = 0) : vR (fdV x n []) = true ∧ (fdV x n []).1 * gA x.a n = x.b * (fdV x n []).2 := by
  unfold fdE at h
  rw [if_neg (by simp [atN])] at h
  by_cases h1 : sbE (x.b, 1) (atN x.a [] ([] : List Pq).length).1 = 0
  · rw [if_neg (fun q => q h1)] at h
    obtain ⟨_, _, d3, d4⟩ := op_ok h1
    obtain ⟨_, f2, f3, f4⟩ := op_ok h
    refine ⟨f3, ?_⟩
    change (sbR (x.b, 1) (0, 1)).1 * (1 * 1) = (x.b * 1 - 0 * 1) * (sbR (x.b, 1) (0, 1)).2 at d4
    change (fdV x n []).1 * ((sbR (x.b, 1) (0, 1)).2 * gA x.a n) = (sbR (x.b, 1) (0, 1)).1 * 1 * (fdV x n []).2 at f4
    have hd : 1 ≤ (sbR (x.b, 1) (0, 1)).2 := vR_pos (q := sbR (x.b, 1) (0, 1)) d3
    generalize (fdV x n []).1 = a1 at *
    generalize (fdV x n []).2 = a2 at *
    generalize (sbR (x.b, 1) (0, 1)).1 = e1 at *
    generalize (sbR (x.b, 1) (0, 1)).2 = e2 at *
    generalize gA x.a n = c at *
    refine cancel (c := e2) (by omega) ?_
    have : e1 = x.b * e2 := by simpa using d4
    subst this
    grind
  · rw [if_pos h1] at h; exact absurd h h1

theorem low_line {D T c b f1 f2 : Int} {s : Bool} (hc : c < 0) (hf : 1 ≤ f2) (e : f1 * c = b * f2) (hs : if s = true then c * T < b * D else c * T ≤ b * D) : f1 * D ≤ T * f2 ∧ (s = true → f1 * D < T * f2) := by
  have e1 : f1 * D * c = b * D * f2 := by rw [Int.mul_right_comm, e]; grind
  have e2 : T * f2 * c = c * T * f2 := by grind
  have hle : c * T * f2 ≤ b * D * f2 := Int.mul_le_mul_of_nonneg_right (by cases s <;> simp at hs <;> omega) (by omega)
  have h1 : f1 * D ≤ T * f2 := by
    rcases Int.lt_or_le (T * f2) (f1 * D) with h | h
    · have := Int.mul_lt_mul_of_neg_right h hc
      omega
    · exact h
  refine ⟨h1, fun hq => ?_⟩
  rw [hq, if_pos rfl] at hs
  have hlt : c * T * f2 < b * D * f2 := Int.mul_lt_mul_of_pos_right hs (by omega)
  rcases Int.lt_or_le (f1 * D) (T * f2) with h | h
  · exact h
  · have h2 : f1 * D = T * f2 := by omega
    rw [h2, e2] at e1
    omega

theorem en_low {D T : Int} {X : List Int} {n : Nat} {l : List Ln} (hl : ∀ x ∈ l, sat D X x ∧ dotN x.a X 6 = gA x.a n * T) : ∀ t, (enN l n [] t).2 = 0 → LowOk D T (enN l n [] t).1.1
  | 0, _ => fun h => by simp [enN, en0] at h
  | t + 1, h => by
    have ih := en_low hl t
    unfold enN at h ⊢
    by_cases h0 : (enN l n [] t).2 = 0
    · rw [if_neg (fun q => q h0)] at h ⊢
      have ih := ih h0
      by_cases h1 : gA (l.getD t ln0).a n < 0
      · rw [if_pos h1] at h ⊢
        have hm : l.getD t ln0 ∈ l := by
          rw [List.getD_eq_getElem?_getD] at h1 ⊢
          by_cases q : t < l.length
          · rw [List.getElem?_eq_getElem q]; exact List.getElem_mem _
          · rw [List.getElem?_eq_none (by omega)] at h1
            exfalso
            have : gA ln0.a n = 0 := gA_z6 n
            simp only [Option.getD_none] at h1
            omega
        generalize l.getD t ln0 = x at *
        obtain ⟨s1, s2⟩ := hl x hm
        simp only at h
        have hfd : fdE x n [] = 0 := by
          unfold clE at h
          by_cases q : fdE x n [] = 0
          · exact q
          · rw [if_pos q] at h; exact absurd h q
        obtain ⟨f1, f2⟩ := fd_val hfd
        have hfp := vR_pos f1
        have key : (fdV x n []).1 * D ≤ T * (fdV x n []).2 ∧ (x.s = true → (fdV x n []).1 * D < T * (fdV x n []).2) := by
          refine low_line h1 hfp f2 ?_
          unfold sat at s1
          rw [s2] at s1
          exact s1
        show LowOk D T (clR 1 (enN l n [] t).1.1 x n [])
        have new : LowOk D T ⟨fdV x n [], true, x.s⟩ := fun _ => ⟨f1, key.1, key.2⟩
        unfold clR
        split
        · split
          · exact new
          · exact ih
        · exact new
      · rw [if_neg h1] at h ⊢
        by_cases h2 : 0 < gA (l.getD t ln0).a n
        · rw [if_pos h2]; exact ih
        · rw [if_neg h2]; exact ih
    · rw [if_pos h0] at h; exact absurd h h0

theorem dot_only {n : Nat} {a X : List Int} {T : Int} (h0 : ∀ j, j < n → gA a j = 0) (hX : ∀ j, n < j → gA X j = 0) (hT : gA X n = T) : ∀ t, dotN a X t = if n < t then gA a n * T else 0
  | 0 => by simp [dotN]
  | t + 1 => by
    show dotN a X t + gA a t * gA X t = _
    rw [dot_only h0 hX hT t]
    rcases Nat.lt_trichotomy t n with h | h | h
    · rw [if_neg (by omega), if_neg (by omega), h0 t h]; simp
    · subst h; rw [if_neg (by omega), if_pos (by omega), hT]; simp
    · rw [if_pos h, if_pos (by omega), hX t h]; simp

theorem dot_congr {a b X Y : List Int} : ∀ t, (∀ j, j < t → gA a j = gA b j ∧ gA X j = gA Y j) → dotN a X t = dotN b Y t
  | 0, _ => rfl
  | t + 1, h => by
    show dotN a X t + gA a t * gA X t = dotN b Y t + gA b t * gA Y t
    rw [dot_congr t fun j hj => h j (by omega), (h t (by omega)).1, (h t (by omega)).2]

theorem dot_more {a X : List Int} {n : Nat} (h : ∀ j, n ≤ j → gA a j = 0) : ∀ k, dotN a X (n + k) = dotN a X n
  | 0 => rfl
  | k + 1 => by
    show dotN a X (n + k) + gA a (n + k) * gA X (n + k) = _
    rw [dot_more h k, h _ (by omega)]; simp

theorem gA_pad (a : List Int) (k j : Nat) : gA (a ++ List.replicate k 0) j = gA a j := by
  by_cases h : j < a.length
  · unfold gA; rw [List.getD_eq_getElem?_getD, List.getD_eq_getElem?_getD, List.getElem?_append_left h]
  · rw [gA_out (a := a) (by omega)]
    unfold gA
    rw [List.getD_eq_getElem?_getD, List.getElem?_append_right (by omega), List.getElem?_replicate]
    split <;> rfl

theorem gA_snoc (X : List Int) (T : Int) (j : Nat) : gA (X ++ [T]) j = if j < X.length then gA X j else if j = X.length then T else 0 := by
  unfold gA
  rw [List.getD_eq_getElem?_getD]
  by_cases h : j < X.length
  · rw [if_pos h, List.getElem?_append_left h, List.getD_eq_getElem?_getD]
  · rw [if_neg h]
    by_cases h2 : j = X.length
    · subst h2; rw [if_pos rfl]; simp
    · rw [if_neg h2, List.getElem?_eq_none (by simp; omega)]; rfl

theorem totE_zero {P : List Pq} : ∀ {L : List AV}, totE P L = 0 → ∀ y ∈ L, (atN y.a P P.length).2 = 0
  | [], _, y, hy => by simp at hy
  | z :: r, h, y, hy => by
    unfold totE at h
    by_cases q : (atN z.a P P.length).2 = 0
    · rw [if_neg (fun k => k q)] at h
      rcases List.mem_cons.1 hy with rfl | hy
      · exact q
      · exact totE_zero h y hy
    · rw [if_pos q] at h; exact absurd h q

theorem has_zero {n : Int} {L : List AV} {P : List Pq} (h : hasE n L P = 0) : chkP n L = 0 ∧ (P.length : Int) = n ∧ (∀ q ∈ P, vR q = true) ∧ ∀ y ∈ L, (atN y.a P P.length).2 = 0 := by
  unfold hasE at h
  by_cases h1 : chkP n L = 0
  · rw [if_neg (fun q => q h1)] at h
    by_cases h2 : (P.length : Int) = n
    · rw [if_neg (fun q => q h2)] at h
      by_cases h3 : P.all vR = true
      · rw [if_pos h3] at h
        exact ⟨h1, h2, List.all_eq_true.1 h3, totE_zero h⟩
      · rw [if_neg h3] at h; cases h
    · rw [if_pos h2] at h; cases h
  · rw [if_pos h1] at h; exact absurd h h1

/-- What Has says: the point, over one denominator, meets the lines. -/
theorem has_sat {n : Nat} {L : List AV} {P : List Pq} {D : Int} {X : List Int} (hE : hasE n L P = 0) (hD : 0 < D) (hX : ∀ j, j < P.length → Val (gp P j) (gA X j) D) (hn : n ≤ 5) :
    hasB n L P = true ↔ ∀ y ∈ L, sat D X (ofV y) := by
  obtain ⟨h1, h2, h3, h4⟩ := has_zero hE
  have hv := (chk_valid h1).2.2
  unfold hasB
  rw [decide_eq_true hE, Bool.true_and, List.all_eq_true]
  have key : ∀ y ∈ L, (lineB P y = true ↔ sat D X (ofV y)) := fun y hy => by
    have hf := valid_fitV (hv y hy)
    rw [line_val hD (atN_val y.a P.length hX (h4 y hy)) hf.2.2]
    have hl : y.a.length = n := by have := hf.1; simpa using this
    have e : dotN (ofV y).a X 6 = dotN y.a X P.length := by
      have hp : P.length = n := by omega
      rw [hp, show 6 = n + (6 - n) by omega, dot_more (fun j hj => by unfold ofV; rw [gA_pad, gA_out (by omega)])]
      exact dot_congr n fun j _ => ⟨by unfold ofV; rw [gA_pad], rfl⟩
    unfold sat
    rw [e]
    exact Iff.rfl
  exact ⟨fun h y hy => (key y hy).1 (h y hy), fun h y hy => (key y hy).2 (h y hy)⟩

/-- Least is not above the sum at a point of the set. -/
theorem least_below {n : Nat} {L : List AV} {P : List Pq} {a : List Int} (hL : leaE n L a = 0) (hE : hasE n L P = 0) (hB : hasB n L P = true) (ha : a.length = n) (hS : (atN a P P.length).2 = 0) :
    cmE (atN a P P.length).1 (leaX n L a).v = 0 ∧ (0 < cmR (atN a P P.length).1 (leaX n L a).v ∨ (cmR (atN a P P.length).1 (leaX n L a).v = 0 ∧ ((leaX n L a).ex && !(leaX n L a).op) = true)) := by
  obtain ⟨h1, h2, h3, h4⟩ := has_zero hE
  obtain ⟨⟨_, n5⟩, _, hval⟩ := chk_valid h1
  have hn : n ≤ 5 := by omega
  have hp : P.length = n := by omega
  obtain ⟨D, X, hD, hXl, hX⟩ := pt_of P h3
  have hsat := (has_sat hE hD hX hn).1 hB
  have hsum := atN_val a P.length hX hS
  obtain ⟨T, hT⟩ : ∃ T, T = dotN a X P.length := ⟨_, rfl⟩
  rw [← hT] at hsum
  -- the point with its sum
  have Yj : ∀ j, gA (X ++ [T]) j = if j < n then gA X j else if j = n then T else 0 := fun j => by rw [gA_snoc, hXl, hp]
  have gl : ∀ j, gA (goalL n a).a j = if j < n then gA a j else if j = n then -1 else 0 := fun j => by
    unfold goalL
    simp only
    have hlen : (a ++ List.replicate (6 - a.length) 0).length = 6 := by simp; omega
    by_cases hj : j = n
    · subst hj
      unfold gA
      rw [List.getD_eq_getElem?_getD, List.getElem?_set_self (by rw [hlen]; omega)]
      simp
    · unfold gA
      rw [List.getD_eq_getElem?_getD, List.getElem?_set_ne (fun q => hj q.symm), ← List.getD_eq_getElem?_getD]
      have := gA_pad a (6 - a.length) j
      unfold gA at this
      rw [this]
      by_cases hlt : j < n
      · rw [if_pos hlt]
      · rw [if_neg hlt, if_neg hj]
        have := gA_out (a := a) (t := j) (by omega)
        unfold gA at this
        exact this
  have gdot : dotN (goalL n a).a (X ++ [T]) 6 = 0 := by
    rw [show 6 = (n + 1) + (5 - n) by omega, dot_more (fun j hj => by rw [gl, if_neg (by omega), if_neg (by omega)])]
    show dotN (goalL n a).a (X ++ [T]) n + gA (goalL n a).a n * gA (X ++ [T]) n = 0
    rw [gl n, if_neg (by omega), if_pos rfl, Yj n, if_neg (by omega), if_pos rfl]
    have : dotN (goalL n a).a (X ++ [T]) n = dotN a X n := dot_congr n fun j hj => ⟨by rw [gl, if_pos hj], by rw [Yj, if_pos hj]⟩
    rw [this, ← hp, ← hT]; omega
  have ydot : ∀ y ∈ L, dotN (ofV y).a (X ++ [T]) 6 = dotN (ofV y).a X 6 := fun y hy => by
    have hf := valid_fitV (hval y hy)
    have hl : y.a.length = n := by have := hf.1; simpa using this
    have hz : ∀ j, n ≤ j → gA (ofV y).a j = 0 := fun j hj => by unfold ofV; rw [gA_pad, gA_out (by omega)]
    rw [show 6 = n + (6 - n) by omega, dot_more hz, dot_more hz]
    exact dot_congr n fun j hj => ⟨rfl, by rw [Yj, if_pos hj]⟩
  have iall : ∀ x ∈ infL (L.map ofV) n a, x.a.length = 6 ∧ sat D (X ++ [T]) x := fun x hx => by
    unfold infL at hx
    rcases List.mem_append.1 hx with q | q
    · obtain ⟨y, hy, rfl⟩ := List.mem_map.1 q
      have hf := valid_fitV (hval y hy)
      have hl : y.a.length = n := by have := hf.1; simpa using this
      refine ⟨by unfold ofV; simp; omega, ?_⟩
      have := hsat y hy
      unfold sat at this ⊢
      rw [ydot y hy]; exact this
    · have g6 : (goalL n a).a.length = 6 := by unfold goalL; simp; omega
      simp only [List.mem_cons, List.not_mem_nil, or_false] at q
      rcases q with rfl | rfl
      · refine ⟨g6, ?_⟩
        unfold sat
        rw [gdot]
        simp [goalL]
      · refine ⟨by simp [Ln.times, g6], ?_⟩
        unfold sat Ln.times
        simp only
        rw [dot_scale, gdot]
        simp [goalL]
  have rsat := sh_sat hD (fun x hx => (iall x hx).1) (fun x hx => (iall x hx).2) n n (Nat.le_refl n)
  have rzr := sh_zr (fun x hx => (iall x hx).1) n n (Nat.le_refl n)
  have rall : ∀ x ∈ shL (infL (L.map ofV) n a) n n, sat D (X ++ [T]) x ∧ dotN x.a (X ++ [T]) 6 = gA x.a n * T := fun x hx => by
    refine ⟨rsat x hx, ?_⟩
    have := dot_only (n := n) (a := x.a) (X := X ++ [T]) (T := T) (fun j hj => (rzr x hx).2 j (by omega)) (fun j hj => by rw [Yj, if_neg (by omega), if_neg (by omega)]) (by rw [Yj, if_neg (by omega), if_pos rfl]) 6
    rw [this, if_pos (by omega)]
  -- what Least has found
  unfold leaE at hL
  rw [if_pos h1] at hL
  have hx : leaX n L a = (infN (L.map ofV) n a).1.1 := by
    unfold leaX leaE
    rw [if_pos h1]
    rw [if_pos hL]
    rfl
  unfold lsE at hL
  by_cases hq : a.length = (n : Int).toNat ∧ a.all fitB = true
  · rw [if_pos hq] at hL
    simp only [Int.toNat_natCast] at hL
    unfold infE at hL
    by_cases g1 : shE (infL (L.map ofV) n a) n n = 0
    · rw [if_neg (fun k => k g1)] at hL
      by_cases g2 : (infN (L.map ofV) n a).2 = 0
      · rw [if_neg (fun k => k g2)] at hL
        by_cases g3 : (infN (L.map ofV) n a).1.1.ex = true
        · have hlow := en_low rall _ g2 g3
          rw [hx]
          change vR (infN (L.map ofV) n a).1.1.v = true ∧ (infN (L.map ofV) n a).1.1.v.1 * D ≤ T * (infN (L.map ofV) n a).1.1.v.2 ∧ ((infN (L.map ofV) n a).1.1.op = true → (infN (L.map ofV) n a).1.1.v.1 * D < T * (infN (L.map ofV) n a).1.1.v.2) at hlow
          rw [g3]
          generalize (infN (L.map ofV) n a).1.1 = c at *
          obtain ⟨k1, k2, k3⟩ := hlow
          obtain ⟨s1, s2⟩ := hsum
          generalize (atN a P P.length).1 = q at *
          have c2 := vR_pos k1
          have q2 := vR_pos s1
          unfold vR at k1 s1
          unfold cmE cmR
          rw [k1, s1]
          simp only [Bool.and_self, if_true, true_and, Bool.true_and]
          unfold sgn
          have e1 : q.1 * c.v.2 * D = T * c.v.2 * q.2 := by rw [Int.mul_right_comm, s2]; grind
          have e2 : c.v.1 * q.2 * D = c.v.1 * D * q.2 := Int.mul_right_comm ..
          have hle : c.v.1 * q.2 ≤ q.1 * c.v.2 := by
            have := Int.mul_le_mul_of_nonneg_right k2 (show 0 ≤ q.2 by omega)
            rw [← e1, ← e2] at this
            exact Int.le_of_mul_le_mul_right this hD
          have hlt : c.op = true → c.v.1 * q.2 < q.1 * c.v.2 := fun h => by
            have := Int.mul_lt_mul_of_pos_right (k3 h) (show 0 < q.2 by omega)
            rw [← e1, ← e2] at this
            exact Int.lt_of_mul_lt_mul_right this (by omega)
          generalize c.v.1 * q.2 = u at *
          generalize q.1 * c.v.2 = v at *
          cases hop : c.op
          · (repeat' split) <;> simp <;> omega
          · have := hlt hop
            (repeat' split) <;> simp <;> omega
        · rw [if_neg g3] at hL; cases hL
      · rw [if_pos g2] at hL; exact absurd hL g2
    · rw [if_pos g1] at hL; exact absurd hL g1
  · rw [if_neg hq] at hL; cases hL
end Go.Proofs.YtefpaobboimakaaGreat
