/- Plain mathematics: where a point meets what is left, a value of the coordinate can be found. -/
import Derived.Test.YtbhaoaobhgilkaaGreatWm32

namespace Go.Proofs.YtbhaoaobhgilkaaGreat
open Go.Sort

structure Bd where
  p : Int
  q : Int
  s : Bool

def loOk (P Q : Int) (b : Bd) : Prop := b.p * Q ≤ P * b.q ∧ (b.s = true → b.p * Q < P * b.q)

theorem le_trans3 {a b c d P Q : Int} (hb : 0 < b) (hd : 0 < d) (hQ : 0 < Q) (h1 : a * d ≤ c * b) (h2 : c * Q ≤ P * d) : a * Q ≤ P * b ∧ ((a * d < c * b ∨ c * Q < P * d) → a * Q < P * b) := by
  have e1 : a * Q * d = a * d * Q := Int.mul_right_comm ..
  have e2 : P * b * d = P * d * b := Int.mul_right_comm ..
  have e3 : c * b * Q = c * Q * b := Int.mul_right_comm ..
  have g1 : a * d * Q ≤ c * b * Q := Int.mul_le_mul_of_nonneg_right h1 (by omega)
  have g2 : c * Q * b ≤ P * d * b := Int.mul_le_mul_of_nonneg_right h2 (by omega)
  refine ⟨Int.le_of_mul_le_mul_right (by rw [e1, e2]; omega) hd, fun h => Int.lt_of_mul_lt_mul_right (a := d) ?_ (by omega)⟩
  rw [e1, e2]
  rcases h with h | h
  · have := Int.mul_lt_mul_of_pos_right h hQ
    omega
  · have := Int.mul_lt_mul_of_pos_right h hb
    omega

theorem max_lo : ∀ (l : List Bd), l ≠ [] → (∀ b ∈ l, 0 < b.q) → ∃ m ∈ l, ∀ y ∈ l, ∀ P Q, 0 < Q → loOk P Q m → loOk P Q y
  | [], h, _ => absurd rfl h
  | [x], _, _ => ⟨x, by simp, fun y hy P Q _ h => by simp at hy; subst hy; exact h⟩
  | x :: z :: r, _, hq => by
    obtain ⟨m, hm, hall⟩ := max_lo (z :: r) (by simp) fun b hb => hq b (by simp at hb ⊢; right; exact hb)
    have qx := hq x (by simp)
    have qm := hq m (by simp at hm ⊢; right; exact hm)
    have step : ∀ u v : Bd, 0 < u.q → 0 < v.q → (v.p * u.q < u.p * v.q ∨ (v.p * u.q = u.p * v.q ∧ (v.s = true → u.s = true))) → ∀ P Q, 0 < Q → loOk P Q u → loOk P Q v := fun u v hu hv h P Q hQ hP => by
      have t := le_trans3 hv hu hQ (show v.p * u.q ≤ u.p * v.q by omega) hP.1
      refine ⟨t.1, fun hs => t.2 ?_⟩
      rcases h with h | ⟨_, h⟩
      · exact Or.inl h
      · exact Or.inr (hP.2 (h hs))
    by_cases c : m.p * x.q < x.p * m.q ∨ (m.p * x.q = x.p * m.q ∧ (m.s = true → x.s = true))
    · refine ⟨x, by simp, fun y hy P Q hQ hP => ?_⟩
      rcases List.mem_cons.1 hy with rfl | hy
      · exact hP
      · exact hall y hy P Q hQ (step x m qx qm c P Q hQ hP)
    · refine ⟨m, by simp at hm ⊢; right; exact hm, fun y hy P Q hQ hP => ?_⟩
      rcases List.mem_cons.1 hy with rfl | hy
      · refine step m y qm qx ?_ P Q hQ hP
        rcases Int.lt_trichotomy (m.p * y.q) (y.p * m.q) with h | h | h
        · exact absurd (Or.inl h) c
        · refine Or.inr ⟨h.symm, fun _ => ?_⟩
          cases hs : m.s
          · exact absurd (Or.inr ⟨h, fun k => by rw [hs] at k; cases k⟩) c
          · rfl
        · exact Or.inl h
      · exact hall y hy P Q hQ hP

def Bd.neg (b : Bd) : Bd := ⟨-b.p, b.q, b.s⟩

def upOk (P Q : Int) (b : Bd) : Prop := loOk (-P) Q b.neg

theorem between {Lo Up : List Bd} (hl : ∀ b ∈ Lo, 0 < b.q) (hu : ∀ b ∈ Up, 0 < b.q) (h : ∀ l ∈ Lo, ∀ u ∈ Up, l.p * u.q ≤ u.p * l.q ∧ ((l.s = true ∨ u.s = true) → l.p * u.q < u.p * l.q)) :
    ∃ P Q, 0 < Q ∧ (∀ l ∈ Lo, loOk P Q l) ∧ ∀ u ∈ Up, upOk P Q u := by
  have hneg : ∀ b ∈ Up.map Bd.neg, 0 < b.q := fun b hb => by
    obtain ⟨u, hu', rfl⟩ := List.mem_map.1 hb
    exact hu u hu'
  by_cases h1 : Lo = []
  · subst h1
    by_cases h2 : Up = []
    · subst h2
      exact ⟨0, 1, by omega, fun l hl => by simp at hl, fun u hu => by simp at hu⟩
    · obtain ⟨m, hm, hall⟩ := max_lo (Up.map Bd.neg) (by simpa using h2) hneg
      have hq := hneg m hm
      refine ⟨-(m.p + m.q), m.q, hq, fun l hl => by simp at hl, fun u hu' => hall u.neg (List.mem_map.2 ⟨u, hu', rfl⟩) _ _ hq ?_⟩
      have e : -(-(m.p + m.q)) * m.q = m.p * m.q + m.q * m.q := by rw [Int.neg_neg, Int.add_mul]
      have hp := Int.mul_pos hq hq
      unfold loOk
      rw [e]
      omega
  · obtain ⟨m, hm, hall⟩ := max_lo Lo h1 hl
    have hq := hl m hm
    by_cases h2 : Up = []
    · subst h2
      refine ⟨m.p + m.q, m.q, hq, fun l hl' => hall l hl' _ _ hq ?_, fun u hu => by simp at hu⟩
      have e : (m.p + m.q) * m.q = m.p * m.q + m.q * m.q := Int.add_mul ..
      have hp := Int.mul_pos hq hq
      unfold loOk
      rw [e]
      omega
    · obtain ⟨k, hk, hall2⟩ := max_lo (Up.map Bd.neg) (by simpa using h2) hneg
      have hq2 := hneg k hk
      obtain ⟨u0, hu0, rfl⟩ := List.mem_map.1 hk
      have hp := h m hm u0 hu0
      have q2 : 0 < u0.q := hq2
      refine ⟨m.p * u0.q + u0.p * m.q, 2 * (m.q * u0.q), by have := Int.mul_pos hq q2; omega, fun l hl' => hall l hl' _ _ (by have := Int.mul_pos hq q2; omega) ?_, fun u hu' => hall2 u.neg (List.mem_map.2 ⟨u, hu', rfl⟩) _ _ (by have := Int.mul_pos hq q2; omega) ?_⟩
      · have e1 : m.p * (2 * (m.q * u0.q)) = 2 * (m.p * u0.q * m.q) := by grind
        have e2 : (m.p * u0.q + u0.p * m.q) * m.q = m.p * u0.q * m.q + u0.p * m.q * m.q := Int.add_mul ..
        have g1 : m.p * u0.q * m.q ≤ u0.p * m.q * m.q := Int.mul_le_mul_of_nonneg_right hp.1 (by omega)
        unfold loOk
        rw [e1, e2]
        refine ⟨by omega, fun hs => ?_⟩
        have := Int.mul_lt_mul_of_pos_right (hp.2 (Or.inl hs)) hq
        omega
      · have e1 : u0.neg.p * (2 * (m.q * u0.q)) = -(2 * (u0.p * m.q * u0.q)) := by show -u0.p * _ = _; grind
        have e2 : -(m.p * u0.q + u0.p * m.q) * u0.neg.q = -(m.p * u0.q * u0.q + u0.p * m.q * u0.q) := by show -(m.p * u0.q + u0.p * m.q) * u0.q = _; grind
        have g1 : m.p * u0.q * u0.q ≤ u0.p * m.q * u0.q := Int.mul_le_mul_of_nonneg_right hp.1 (by omega)
        unfold loOk
        rw [e1, e2]
        refine ⟨by omega, fun hs => ?_⟩
        have := Int.mul_lt_mul_of_pos_right (hp.2 (Or.inr hs)) q2
        omega

theorem min_of {α : Type} (f : α → Int) : ∀ (l : List α), l ≠ [] → ∃ m ∈ l, ∀ y ∈ l, f m ≤ f y
  | [], h => absurd rfl h
  | [x], _ => ⟨x, by simp, fun y hy => by simp at hy; subst hy; omega⟩
  | x :: z :: r, _ => by
    obtain ⟨m, hm, hall⟩ := min_of f (z :: r) (by simp)
    by_cases c : f x ≤ f m
    · refine ⟨x, by simp, fun y hy => ?_⟩
      rcases List.mem_cons.1 hy with rfl | hy
      · omega
      · have := hall y hy; omega
    · refine ⟨m, by simp at hm ⊢; right; exact hm, fun y hy => ?_⟩
      rcases List.mem_cons.1 hy with rfl | hy
      · omega
      · exact hall y hy

theorem tidy_back {D : Int} {X : List Int} (hD : 0 < D) {l : List Ln} (h6 : ∀ x ∈ l, x.a.length = 6) (hs : ∀ x ∈ tidyL l, sat D X x) : ∀ x ∈ l, sat D X x := by
  rw [tidyL_ins] at hs
  by_cases hb : badB l = true
  · rw [if_pos hb] at hs
    have := hs bad0 (by simp)
    unfold sat bad0 at this
    simp only [if_true] at this
    rw [dot_zero X gA_z6] at this
    omega
  · rw [if_neg hb] at hs
    intro x hx
    rw [← sat_low (ne_nil (h6 x hx))]
    by_cases hz : x.low.a = z6
    · have hn : ¬ x.low.lim ≤ 0 := fun h => hb (by
        unfold badB
        rw [List.any_eq_true]
        exact ⟨x, hx, by simp [hz, h]⟩)
      unfold sat
      rw [hz, dot_zero X gA_z6]
      unfold Ln.lim at hn
      cases hq : x.low.s
      · rw [hq] at hn
        simp only [Bool.false_eq_true, if_false] at hn ⊢
        exact Int.mul_nonneg (by omega) (by omega)
      · rw [hq] at hn
        simp only [if_true] at hn ⊢
        exact Int.mul_pos (by omega) hD
    · have hk : x.low ∈ keepL l := by
        unfold keepL
        rw [List.mem_filter]
        exact ⟨List.mem_map.2 ⟨x, hx, rfl⟩, by simpa using hz⟩
      obtain ⟨m, hm, hmin⟩ := min_of (fun y : Ln => y.lim) ((keepL l).filter fun y => decide (y.a = x.low.a)) (fun e => by
        have : x.low ∈ (keepL l).filter fun y => decide (y.a = x.low.a) := List.mem_filter.2 ⟨hk, by simp⟩
        rw [e] at this; simp at this)
      obtain ⟨hm1, hm2⟩ := List.mem_filter.1 hm
      simp only [decide_eq_true_eq] at hm2
      have hbest : m ∈ insL (keepL l) := ((insL_ok (keepL l)).2 m).2 ⟨hm1, fun y hy e => hmin y (List.mem_filter.2 ⟨hy, by simp [e, hm2]⟩)⟩
      have hsm := hs m hbest
      have hlim := hmin x.low (List.mem_filter.2 ⟨hk, by simp⟩)
      unfold sat at hsm ⊢
      rw [hm2] at hsm
      unfold Ln.lim at hlim
      have hb : m.b ≤ x.low.b → m.b * D ≤ x.low.b * D := fun h => Int.mul_le_mul_of_nonneg_right h (by omega)
      have hb2 : m.b < x.low.b → m.b * D < x.low.b * D := fun h => Int.mul_lt_mul_of_pos_right h hD
      cases h1 : m.s <;> cases h2 : x.low.s <;> rw [h1] at hsm hlim <;> rw [h2] at hlim <;> simp only [Bool.false_eq_true, if_false, if_true] at hsm hlim ⊢
      · have := hb (by omega); omega
      · have := hb2 (by omega); omega
      · have := hb (by omega); omega
      · have := hb (by omega); omega

theorem dot_set {a X : List Int} {i : Nat} (hi : i < X.length) (v : Int) : ∀ t, dotN a (X.set i v) t = dotN a (X.set i 0) t + (if i < t then gA a i * v else 0)
  | 0 => by simp [dotN]
  | t + 1 => by
    show dotN a (X.set i v) t + gA a t * gA (X.set i v) t = dotN a (X.set i 0) t + gA a t * gA (X.set i 0) t + _
    rw [dot_set hi v t]
    have g : ∀ w, gA (X.set i w) t = if t = i then w else gA X t := fun w => by
      unfold gA
      rw [List.getD_eq_getElem?_getD]
      by_cases e : t = i
      · subst e; rw [List.getElem?_set_self hi]; simp
      · rw [List.getElem?_set_ne (fun q => e q.symm), if_neg e, ← List.getD_eq_getElem?_getD]
    rw [g, g]
    by_cases e : t = i
    · subst e; rw [if_pos rfl, if_pos rfl, if_neg (by omega), if_pos (by omega)]; omega
    · rw [if_neg e, if_neg e]
      by_cases q : i < t
      · rw [if_pos q, if_pos (by omega)]; omega
      · rw [if_neg q, if_neg (by omega)]; omega

theorem dot_scaleX (a X : List Int) (k : Int) : ∀ t, dotN a (X.map (· * k)) t = dotN a X t * k
  | 0 => by simp [dotN]
  | t + 1 => by
    show dotN a (X.map (· * k)) t + gA a t * gA (X.map (· * k)) t = (dotN a X t + gA a t * gA X t) * k
    rw [dot_scaleX a X k t, gA_scale, Int.add_mul, ← Int.mul_assoc]

theorem leave_back {D : Int} {X : List Int} (hD : 0 < D) {l : List Ln} {i : Nat} (h6 : ∀ x ∈ l, x.a.length = 6) (hi : i < X.length) (hX : gA X i = 0) (hi6 : i < 6) (hs : ∀ x ∈ leaveL l i, sat D X x) :
    ∃ Q v, 0 < Q ∧ ∀ x ∈ l, sat (D * Q) ((X.map (· * Q)).set i v) x := by
  have hX0 : X.set i 0 = X := by
    refine gA_ext (by simp) fun j hj => ?_
    unfold gA
    rw [List.getD_eq_getElem?_getD]
    by_cases e : j = i
    · subst e
      rw [List.getElem?_set_self hi]
      unfold gA at hX
      rw [hX]; rfl
    · rw [List.getElem?_set_ne (fun q => e q.symm), ← List.getD_eq_getElem?_getD]
  have hall : ∀ x ∈ zrs l i ++ sums l i, sat D X x := by
    unfold leaveL at hs
    refine tidy_back hD (fun x hx => ?_) hs
    rcases List.mem_append.1 hx with q | q
    · exact h6 x (List.mem_filter.1 q).1
    · unfold sums at q
      obtain ⟨p, hp, rfl⟩ := List.mem_map.1 q
      obtain ⟨p1, p2⟩ := mem_prs hp
      exact sumL_len (h6 _ (List.mem_filter.1 p1).1) (h6 _ (List.mem_filter.1 p2).1)
  let lo : Ln → Bd := fun y => ⟨-(y.b * D - dotN y.a X 6), -(gA y.a i) * D, y.s⟩
  let up : Ln → Bd := fun x => ⟨x.b * D - dotN x.a X 6, gA x.a i * D, x.s⟩
  have hlo : ∀ b ∈ (dns l i).map lo, 0 < b.q := fun b hb => by
    obtain ⟨y, hy, rfl⟩ := List.mem_map.1 hb
    have := (List.mem_filter.1 hy).2
    simp only [decide_eq_true_eq] at this
    exact Int.mul_pos (by omega) hD
  have hup : ∀ b ∈ (ups l i).map up, 0 < b.q := fun b hb => by
    obtain ⟨y, hy, rfl⟩ := List.mem_map.1 hb
    have := (List.mem_filter.1 hy).2
    simp only [decide_eq_true_eq] at this
    exact Int.mul_pos (by omega) hD
  obtain ⟨P, Q, hQ, hL, hU⟩ := between hlo hup (fun b hb c hc => by
    obtain ⟨y, hy, rfl⟩ := List.mem_map.1 hb
    obtain ⟨x, hx, rfl⟩ := List.mem_map.1 hc
    obtain ⟨my, ay⟩ := List.mem_filter.1 hy
    obtain ⟨mx, ax⟩ := List.mem_filter.1 hx
    simp only [decide_eq_true_eq] at ax ay
    have hsum : sat D X (sumL x y i) := hall _ (List.mem_append.2 (Or.inr (by
      unfold sums
      refine List.mem_map.2 ⟨(x, y), ?_, rfl⟩
      unfold prs
      rw [List.mem_flatMap]
      exact ⟨x, hx, List.mem_map.2 ⟨y, hy, rfl⟩⟩)))
    have hl : ((x.times ((-(gA y.a i)).tdiv (sumG x y i))).plus (y.times ((gA x.a i).tdiv (sumG x y i)))).a.length = 6 := by simp [Ln.plus, Ln.times, h6 _ mx, h6 _ my]
    unfold sumL at hsum
    rw [sat_low (ne_nil hl)] at hsum
    have hg : 0 < sumG x y i := by
      unfold sumG
      have := Int.gcd_pos_of_ne_zero_left (gA y.a i) (show gA x.a i ≠ 0 by omega)
      omega
    obtain ⟨q, hq⟩ : sumG x y i ∣ gA x.a i := Int.gcd_dvd_left ..
    obtain ⟨p, hp⟩ : sumG x y i ∣ -(gA y.a i) := Int.dvd_neg.2 (Int.gcd_dvd_right ..)
    rw [hq, hp, Int.mul_tdiv_cancel_left _ (by omega), Int.mul_tdiv_cancel_left _ (by omega)] at hsum
    unfold sat Ln.plus Ln.times at hsum
    simp only at hsum
    rw [dot_add X (by simp [h6 _ mx, h6 _ my]), dot_scale, dot_scale] at hsum
    show -(y.b * D - dotN y.a X 6) * (gA x.a i * D) ≤ (x.b * D - dotN x.a X 6) * (-(gA y.a i) * D) ∧ ((y.s = true ∨ x.s = true) → -(y.b * D - dotN y.a X 6) * (gA x.a i * D) < (x.b * D - dotN x.a X 6) * (-(gA y.a i) * D))
    rw [hp, hq]
    generalize dotN x.a X 6 = Rx at *
    generalize dotN y.a X 6 = Ry at *
    generalize sumG x y i = g at *
    have hgD : 0 < g * D := Int.mul_pos hg hD
    have e1 : -(y.b * D - Ry) * (g * q * D) = -((y.b * D - Ry) * q) * (g * D) := by grind
    have e2 : (x.b * D - Rx) * (g * p * D) = ((x.b * D - Rx) * p) * (g * D) := by grind
    have e3 : (x.b * p + y.b * q) * D = x.b * D * p + y.b * D * q := by grind
    have e4 : (y.b * D - Ry) * q = y.b * D * q - Ry * q := Int.sub_mul ..
    have e5 : (x.b * D - Rx) * p = x.b * D * p - Rx * p := Int.sub_mul ..
    rw [e3] at hsum
    rw [e1, e2, e4, e5]
    have hle : -(y.b * D * q - Ry * q) ≤ x.b * D * p - Rx * p := by
      cases hxs : x.s <;> cases hys : y.s <;> rw [hxs, hys] at hsum <;> simp at hsum <;> omega
    refine ⟨Int.mul_le_mul_of_nonneg_right hle (by omega), fun hst => Int.mul_lt_mul_of_pos_right ?_ hgD⟩
    have : (x.s || y.s) = true := by rcases hst with h | h <;> simp [h]
    rw [this, if_pos rfl] at hsum
    omega)
  refine ⟨Q, P * D, hQ, fun x hx => ?_⟩
  have hdot : dotN x.a ((X.map (· * Q)).set i (P * D)) 6 = dotN x.a X 6 * Q + gA x.a i * (P * D) := by
    rw [dot_set (by simpa using hi), if_pos hi6]
    congr 1
    have : (X.map (· * Q)).set i 0 = X.map (· * Q) := by
      have := congrArg (List.map (· * Q)) hX0
      rw [List.map_set] at this
      simpa using this
    rw [this, dot_scaleX]
  unfold sat
  rw [hdot]
  have eb : x.b * (D * Q) = x.b * D * Q := (Int.mul_assoc ..).symm
  rw [eb]
  rcases Int.lt_trichotomy (gA x.a i) 0 with h | h | h
  · have hm : lo x ∈ (dns l i).map lo := List.mem_map.2 ⟨x, List.mem_filter.2 ⟨hx, by simpa using h⟩, rfl⟩
    obtain ⟨k1, k2⟩ := hL _ hm
    change -(x.b * D - dotN x.a X 6) * Q ≤ P * (-(gA x.a i) * D) at k1
    change x.s = true → -(x.b * D - dotN x.a X 6) * Q < P * (-(gA x.a i) * D) at k2
    have e1 : -(x.b * D - dotN x.a X 6) * Q = dotN x.a X 6 * Q - x.b * D * Q := by grind
    have e2 : P * (-(gA x.a i) * D) = -(gA x.a i * (P * D)) := by grind
    rw [e1, e2] at k1 k2
    cases hq : x.s
    · simp only [Bool.false_eq_true, if_false]; omega
    · have := k2 hq
      simp only [if_true]; omega
  · have hz := hall x (List.mem_append.2 (Or.inl (List.mem_filter.2 ⟨hx, by simpa using h⟩)))
    unfold sat at hz
    rw [h]
    cases hq : x.s
    · rw [hq] at hz
      simp only [Bool.false_eq_true, if_false] at hz ⊢
      have := Int.mul_le_mul_of_nonneg_right hz (show 0 ≤ Q by omega)
      omega
    · rw [hq] at hz
      simp only [if_true] at hz ⊢
      have := Int.mul_lt_mul_of_pos_right hz hQ
      omega
  · have hm : up x ∈ (ups l i).map up := List.mem_map.2 ⟨x, List.mem_filter.2 ⟨hx, by simpa using h⟩, rfl⟩
    obtain ⟨k1, k2⟩ := hU _ hm
    change -(x.b * D - dotN x.a X 6) * Q ≤ -P * (gA x.a i * D) at k1
    change x.s = true → -(x.b * D - dotN x.a X 6) * Q < -P * (gA x.a i * D) at k2
    have e1 : -(x.b * D - dotN x.a X 6) * Q = dotN x.a X 6 * Q - x.b * D * Q := by grind
    have e2 : -P * (gA x.a i * D) = -(gA x.a i * (P * D)) := by grind
    rw [e1, e2] at k1 k2
    cases hq : x.s
    · simp only [Bool.false_eq_true, if_false]; omega
    · have := k2 hq
      simp only [if_true]; omega
end Go.Proofs.YtbhaoaobhgilkaaGreat
