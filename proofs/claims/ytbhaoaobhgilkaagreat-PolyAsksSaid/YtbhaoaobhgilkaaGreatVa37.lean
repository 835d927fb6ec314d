/- Plain mathematics: points over one denominator, lines that they meet; what meets lines meets what is left of them.; Plain mathematics: where a point meets what is left, a value of the coordinate can be found.; Plain mathematics: the first n coordinates alone; a tidy list is tidy; the lists that are left one after the other. -/
import Derived.Test.YtbhaoaobhgilkaaGreatVa4
import Derived.Test.YtbhaoaobhgilkaaGreatVa33
import Derived.Test.YtbhaoaobhgilkaaGreatVa32
import Derived.Test.YtbhaoaobhgilkaaGreatVa18

namespace Go.Proofs.YtbhaoaobhgilkaaGreat
open Go.Sort

/-- The sum of the first t coefficients times the coordinates. -/
def dotN (a X : List Int) : Nat → Int
  | 0 => 0
  | t + 1 => dotN a X t + gA a t * gA X t

/-- The point X over the denominator D meets the line. -/
def sat (D : Int) (X : List Int) (x : Ln) : Prop := if x.s = true then dotN x.a X 6 < x.b * D else dotN x.a X 6 ≤ x.b * D

theorem gA_out {a : List Int} {t : Nat} (h : a.length ≤ t) : gA a t = 0 := by
  unfold gA; rw [List.getD_eq_getElem?_getD, List.getElem?_eq_none h]; rfl

theorem gA_scale (a : List Int) (k : Int) (t : Nat) : gA (a.map (· * k)) t = gA a t * k := by
  by_cases h : t < a.length
  · rw [gA_map _ h]
  · rw [gA_out (by simp; omega), gA_out (by omega)]; simp

theorem gA_add {a b : List Int} (hl : a.length = b.length) (t : Nat) : gA (List.zipWith (· + ·) a b) t = gA a t + gA b t := by
  by_cases h : t < a.length
  · rw [gA_zip h (by omega)]
  · rw [gA_out (by simp; omega), gA_out (by omega), gA_out (by omega)]; rfl

theorem dot_scale (a X : List Int) (k : Int) : ∀ t, dotN (a.map (· * k)) X t = dotN a X t * k
  | 0 => by simp [dotN]
  | t + 1 => by
    show dotN (a.map (· * k)) X t + gA (a.map (· * k)) t * gA X t = (dotN a X t + gA a t * gA X t) * k
    rw [dot_scale a X k t, gA_scale, Int.add_mul]
    congr 1
    rw [Int.mul_right_comm]

theorem dot_add {a b : List Int} (X : List Int) (hl : a.length = b.length) : ∀ t, dotN (List.zipWith (· + ·) a b) X t = dotN a X t + dotN b X t
  | 0 => by simp [dotN]
  | t + 1 => by
    show dotN (List.zipWith (· + ·) a b) X t + gA (List.zipWith (· + ·) a b) t * gA X t = (dotN a X t + gA a t * gA X t) + (dotN b X t + gA b t * gA X t)
    rw [dot_add X hl t, gA_add hl, Int.add_mul]
    omega

theorem dot_zero {a : List Int} (X : List Int) (h : ∀ j, gA a j = 0) : ∀ t, dotN a X t = 0
  | 0 => rfl
  | t + 1 => by
    show dotN a X t + gA a t * gA X t = 0
    rw [dot_zero X h t, h]; simp

theorem sat_times {D : Int} {X : List Int} {x : Ln} {k : Int} (hk : 0 < k) : sat D X (x.times k) ↔ sat D X x := by
  unfold sat Ln.times
  simp only
  rw [dot_scale, Int.mul_right_comm x.b k D]
  cases x.s
  · simp only [Bool.false_eq_true, if_false]
    exact ⟨fun h => Int.le_of_mul_le_mul_right h hk, fun h => Int.mul_le_mul_of_nonneg_right h (by omega)⟩
  · simp only [if_true]
    exact ⟨fun h => Int.lt_of_mul_lt_mul_right h (by omega), fun h => Int.mul_lt_mul_of_pos_right h hk⟩

theorem gcdL_dvd : ∀ (a : List Int) (b : Int), gcdL b a ∣ b ∧ ∀ v ∈ a, gcdL b a ∣ v
  | [], b => ⟨Int.dvd_refl _, fun v hv => by simp at hv⟩
  | u :: r, b => by
    have h := gcdL_dvd r (Int.gcd b u : Int)
    show gcdL (Int.gcd b u : Int) r ∣ b ∧ ∀ v ∈ u :: r, gcdL (Int.gcd b u : Int) r ∣ v
    refine ⟨Int.dvd_trans h.1 (Int.gcd_dvd_left ..), fun v hv => ?_⟩
    rcases List.mem_cons.1 hv with rfl | q
    · exact Int.dvd_trans h.1 (Int.gcd_dvd_right ..)
    · exact h.2 v q

theorem low_len (x : Ln) : x.low.a.length = x.a.length := by unfold Ln.low; split <;> simp

theorem low_times {x : Ln} (h : x.a ≠ []) : ∃ k, 0 < k ∧ x = x.low.times k := by
  by_cases hd : x.dv = 0
  · refine ⟨1, by omega, ?_⟩
    unfold Ln.low
    rw [if_pos hd]
    unfold Ln.times
    simp
  · have hn : 0 ≤ x.dv := by
      unfold Ln.dv
      match x.a, h with
      | v :: r, _ => exact gcdL_nn (b := (Int.gcd x.b v : Int)) (by omega) r
    have hdv := gcdL_dvd x.a x.b
    refine ⟨x.dv, by omega, ?_⟩
    unfold Ln.low
    rw [if_neg hd]
    unfold Ln.times
    obtain ⟨a, b, s⟩ := x
    simp only [Ln.mk.injEq, and_true]
    constructor
    · rw [List.map_map]
      have : ∀ v ∈ a, ((· * (Ln.mk a b s).dv) ∘ (·.tdiv (Ln.mk a b s).dv)) v = v := fun v hv => Int.tdiv_mul_cancel (hdv.2 v hv)
      exact ((List.map_congr_left this).trans (List.map_id' a)).symm
    · exact (Int.tdiv_mul_cancel hdv.1).symm

theorem sat_low {D : Int} {X : List Int} {x : Ln} (h : x.a ≠ []) : sat D X x.low ↔ sat D X x := by
  obtain ⟨k, hk, e⟩ := low_times h
  have := sat_times (D := D) (X := X) (x := x.low) hk
  rw [← e] at this
  exact this.symm

theorem ne_nil {a : List Int} (h : a.length = 6) : a ≠ [] := by rintro rfl; simp at h

theorem gA_z6 (j : Nat) : gA z6 j = 0 := by
  by_cases h : j < 6
  · match j, h with
    | 0, _ => rfl
    | 1, _ => rfl
    | 2, _ => rfl
    | 3, _ => rfl
    | 4, _ => rfl
    | 5, _ => rfl
  · exact gA_out (by simp [z6]; omega)

/-- The lines of a list: six coefficients, and none at the coordinates of a set. -/
def ZrL (J : Nat → Prop) (l : List Ln) : Prop := ∀ x ∈ l, x.a.length = 6 ∧ ∀ j, J j → gA x.a j = 0

theorem low_zr {x : Ln} {j : Nat} (h : gA x.a j = 0) : gA x.low.a j = 0 := by
  unfold Ln.low
  split
  · exact h
  · show gA (x.a.map (·.tdiv x.dv)) j = 0
    by_cases q : j < x.a.length
    · rw [gA_map _ q, h]; simp
    · exact gA_out (by simp; omega)

theorem tidy_zr {J : Nat → Prop} {l : List Ln} (h : ZrL J l) : ZrL J (tidyL l) := by
  intro x hx
  rw [tidyL_ins] at hx
  split at hx
  · rw [List.mem_singleton] at hx
    subst hx
    exact ⟨rfl, fun j _ => gA_z6 j⟩
  · have h2 := (((insL_ok (keepL l)).2 x).1 hx).1
    unfold keepL at h2
    obtain ⟨y, hy, rfl⟩ := List.mem_map.1 (List.mem_filter.1 h2).1
    have := h y hy
    exact ⟨by rw [low_len]; exact this.1, fun j hj => low_zr (this.2 j hj)⟩

theorem comb_at {x y : Ln} (hx : x.a.length = 6) (hy : y.a.length = 6) (p q : Int) (j : Nat) : gA ((x.times p).plus (y.times q)).a j = gA x.a j * p + gA y.a j * q := by
  show gA (List.zipWith (· + ·) (x.a.map (· * p)) (y.a.map (· * q))) j = _
  rw [gA_add (by simp [hx, hy]), gA_scale, gA_scale]

theorem sum_zr {x y : Ln} {i : Nat} (hx : x.a.length = 6) (hy : y.a.length = 6) : (sumL x y i).a.length = 6 ∧ gA (sumL x y i).a i = 0 ∧ ∀ j, gA x.a j = 0 → gA y.a j = 0 → gA (sumL x y i).a j = 0 := by
  refine ⟨sumL_len hx hy, ?_, fun j h1 h2 => ?_⟩
  · unfold sumL
    refine low_zr ?_
    rw [comb_at hx hy]
    unfold sumG
    obtain ⟨u, hu⟩ := Int.gcd_dvd_left (gA x.a i) (gA y.a i)
    obtain ⟨v, hv⟩ := Int.gcd_dvd_right (gA x.a i) (gA y.a i)
    generalize gA x.a i = a at *
    generalize gA y.a i = b at *
    generalize (Int.gcd a b : Int) = g at *
    by_cases hg : g = 0
    · rw [hg] at hu hv ⊢
      simp at hu hv; rw [hu, hv]; simp
    · rw [show (-b).tdiv g = -v by rw [hv, Int.neg_mul_eq_mul_neg, Int.mul_tdiv_cancel_left _ hg], show a.tdiv g = u by rw [hu, Int.mul_tdiv_cancel_left _ hg], hu, hv]
      grind
  · unfold sumL
    refine low_zr ?_
    rw [comb_at hx hy, h1, h2]; simp

theorem leave_zr {J : Nat → Prop} {l : List Ln} (h : ZrL J l) (i : Nat) : ZrL (fun j => J j ∨ j = i) (leaveL l i) := by
  unfold leaveL
  refine tidy_zr fun x hx => ?_
  rcases List.mem_append.1 hx with q | q
  · obtain ⟨h1, h2⟩ := List.mem_filter.1 q
    have := h x h1
    refine ⟨this.1, fun j hj => ?_⟩
    rcases hj with hj | rfl
    · exact this.2 j hj
    · simpa using h2
  · unfold sums at q
    obtain ⟨p, hp, rfl⟩ := List.mem_map.1 q
    obtain ⟨p1, p2⟩ := mem_prs hp
    have a1 := h p.1 (List.mem_filter.1 p1).1
    have a2 := h p.2 (List.mem_filter.1 p2).1
    obtain ⟨s1, s2, s3⟩ := sum_zr (i := i) a1.1 a2.1
    refine ⟨s1, fun j hj => ?_⟩
    rcases hj with hj | rfl
    · exact s3 j (a1.2 j hj) (a2.2 j hj)
    · exact s2

end Go.Proofs.YtbhaoaobhgilkaaGreat

namespace Go.Proofs.YtbhaoaobhgilkaaGreat
open Go.Sort

/-- A bound p / q of a number, strict or not. -/
structure Bd where
  p : Int
  q : Int
  s : Bool

/-- The number P / Q is above the bound. -/
def loOk (P Q : Int) (b : Bd) : Prop := b.p * Q ≤ P * b.q ∧ (b.s = true → b.p * Q < P * b.q)

theorem le_trans3 {a b c d P Q : Int} (hb : 0 < b) (hd : 0 < d) (hQ : 0 < Q) (h1 : a * d ≤ c * b) (h2 : c * Q ≤ P * d) : a * Q ≤ P * b ∧ ((a * d < c * b ∨ c * Q < P * d) → a * Q < P * b) := by
  have e1 : a * Q * d = a * d * Q := Int.mul_right_comm ..
  have e2 : P * b * d = P * d * b := Int.mul_right_comm ..
  have e3 : c * b * Q = c * Q * b := Int.mul_right_comm ..
  have g1 : a * d * Q ≤ c * b * Q := Int.mul_le_mul_of_nonneg_right h1 (by omega)
  have g2 : c * Q * b ≤ P * d * b := Int.mul_le_mul_of_nonneg_right h2 (by omega)
  refine ⟨Int.le_of_mul_le_mul_right (by rw [e1, e2]; omega) hd, fun h => Int.lt_of_mul_lt_mul_right (a := d) ?_ (by omega)⟩
  rw [e1, e2]
  rcases h with h | h
  · have := Int.mul_lt_mul_of_pos_right h hQ
    omega
  · have := Int.mul_lt_mul_of_pos_right h hb
    omega

theorem max_lo : ∀ (l : List Bd), l ≠ [] → (∀ b ∈ l, 0 < b.q) → ∃ m ∈ l, ∀ y ∈ l, ∀ P Q, 0 < Q → loOk P Q m → loOk P Q y
  | [], h, _ => absurd rfl h
  | [x], _, _ => ⟨x, by simp, fun y hy P Q _ h => by simp at hy; subst hy; exact h⟩
  | x :: z :: r, _, hq => by
    obtain ⟨m, hm, hall⟩ := max_lo (z :: r) (by simp) fun b hb => hq b (by simp at hb ⊢; right; exact hb)
    have qx := hq x (by simp)
    have qm := hq m (by simp at hm ⊢; right; exact hm)
    have step : ∀ u v : Bd, 0 < u.q → 0 < v.q → (v.p * u.q < u.p * v.q ∨ (v.p * u.q = u.p * v.q ∧ (v.s = true → u.s = true))) → ∀ P Q, 0 < Q → loOk P Q u → loOk P Q v := fun u v hu hv h P Q hQ hP => by
      have t := le_trans3 hv hu hQ (show v.p * u.q ≤ u.p * v.q by omega) hP.1
      refine ⟨t.1, fun hs => t.2 ?_⟩
      rcases h with h | ⟨_, h⟩
      · exact Or.inl h
      · exact Or.inr (hP.2 (h hs))
    by_cases c : m.p * x.q < x.p * m.q ∨ (m.p * x.q = x.p * m.q ∧ (m.s = true → x.s = true))
    · refine ⟨x, by simp, fun y hy P Q hQ hP => ?_⟩
      rcases List.mem_cons.1 hy with rfl | hy
      · exact hP
      · exact hall y hy P Q hQ (step x m qx qm c P Q hQ hP)
    · refine ⟨m, by simp at hm ⊢; right; exact hm, fun y hy P Q hQ hP => ?_⟩
      rcases List.mem_cons.1 hy with rfl | hy
      · refine step m y qm qx ?_ P Q hQ hP
        rcases Int.lt_trichotomy (m.p * y.q) (y.p * m.q) with h | h | h
        · exact absurd (Or.inl h) c
        · refine Or.inr ⟨h.symm, fun _ => ?_⟩
          cases hs : m.s
          · exact absurd (Or.inr ⟨h, fun k => by rw [hs] at k; cases k⟩) c
          · rfl
        · exact Or.inl h
      · exact hall y hy P Q hQ hP

def Bd.neg (b : Bd) : Bd := ⟨-b.p, b.q, b.s⟩

/-- The number P / Q is below the bound. -/
def upOk (P Q : Int) (b : Bd) : Prop := loOk (-P) Q b.neg

/-- Between lower and upper bounds that agree pair by pair there is a number. -/
theorem between {Lo Up : List Bd} (hl : ∀ b ∈ Lo, 0 < b.q) (hu : ∀ b ∈ Up, 0 < b.q) (h : ∀ l ∈ Lo, ∀ u ∈ Up, l.p * u.q ≤ u.p * l.q ∧ ((l.s = true ∨ u.s = true) → l.p * u.q < u.p * l.q)) :
    ∃ P Q, 0 < Q ∧ (∀ l ∈ Lo, loOk P Q l) ∧ ∀ u ∈ Up, upOk P Q u := by
  have hneg : ∀ b ∈ Up.map Bd.neg, 0 < b.q := fun b hb => by
    obtain ⟨u, hu', rfl⟩ := List.mem_map.1 hb
    exact hu u hu'
  by_cases h1 : Lo = []
  · subst h1
    by_cases h2 : Up = []
    · subst h2
      exact ⟨0, 1, by omega, fun l hl => by simp at hl, fun u hu => by simp at hu⟩
    · obtain ⟨m, hm, hall⟩ := max_lo (Up.map Bd.neg) (by simpa using h2) hneg
      have hq := hneg m hm
      refine ⟨-(m.p + m.q), m.q, hq, fun l hl => by simp at hl, fun u hu' => hall u.neg (List.mem_map.2 ⟨u, hu', rfl⟩) _ _ hq ?_⟩
      have e : -(-(m.p + m.q)) * m.q = m.p * m.q + m.q * m.q := by rw [Int.neg_neg, Int.add_mul]
      have hp := Int.mul_pos hq hq
      unfold loOk
      rw [e]
      omega
  · obtain ⟨m, hm, hall⟩ := max_lo Lo h1 hl
    have hq := hl m hm
    by_cases h2 : Up = []
    · subst h2
      refine ⟨m.p + m.q, m.q, hq, fun l hl' => hall l hl' _ _ hq ?_, fun u hu => by simp at hu⟩
      have e : (m.p + m.q) * m.q = m.p * m.q + m.q * m.q := Int.add_mul ..
      have hp := Int.mul_pos hq hq
      unfold loOk
      rw [e]
      omega
    · obtain ⟨k, hk, hall2⟩ := max_lo (Up.map Bd.neg) (by simpa using h2) hneg
      have hq2 := hneg k hk
      obtain ⟨u0, hu0, rfl⟩ := List.mem_map.1 hk
      have hp := h m hm u0 hu0
      have q2 : 0 < u0.q := hq2
      refine ⟨m.p * u0.q + u0.p * m.q, 2 * (m.q * u0.q), by have := Int.mul_pos hq q2; omega, fun l hl' => hall l hl' _ _ (by have := Int.mul_pos hq q2; omega) ?_, fun u hu' => hall2 u.neg (List.mem_map.2 ⟨u, hu', rfl⟩) _ _ (by have := Int.mul_pos hq q2; omega) ?_⟩
      · have e1 : m.p * (2 * (m.q * u0.q)) = 2 * (m.p * u0.q * m.q) := by grind
        have e2 : (m.p * u0.q + u0.p * m.q) * m.q = m.p * u0.q * m.q + u0.p * m.q * m.q := Int.add_mul ..
        have g1 : m.p * u0.q * m.q ≤ u0.p * m.q * m.q := Int.mul_le_mul_of_nonneg_right hp.1 (by omega)
        unfold loOk
        rw [e1, e2]
        refine ⟨by omega, fun hs => ?_⟩
        have := Int.mul_lt_mul_of_pos_right (hp.2 (Or.inl hs)) hq
        omega
      · have e1 : u0.neg.p * (2 * (m.q * u0.q)) = -(2 * (u0.p * m.q * u0.q)) := by show -u0.p * _ = _; grind
        have e2 : -(m.p * u0.q + u0.p * m.q) * u0.neg.q = -(m.p * u0.q * u0.q + u0.p * m.q * u0.q) := by show -(m.p * u0.q + u0.p * m.q) * u0.q = _; grind
        have g1 : m.p * u0.q * u0.q ≤ u0.p * m.q * u0.q := Int.mul_le_mul_of_nonneg_right hp.1 (by omega)
        unfold loOk
        rw [e1, e2]
        refine ⟨by omega, fun hs => ?_⟩
        have := Int.mul_lt_mul_of_pos_right (hp.2 (Or.inr hs)) q2
        omega

theorem min_of {α : Type} (f : α → Int) : ∀ (l : List α), l ≠ [] → ∃ m ∈ l, ∀ y ∈ l, f m ≤ f y
  | [], h => absurd rfl h
  | [x], _ => ⟨x, by simp, fun y hy => by simp at hy; subst hy; omega⟩
  | x :: z :: r, _ => by
    obtain ⟨m, hm, hall⟩ := min_of f (z :: r) (by simp)
    by_cases c : f x ≤ f m
    · refine ⟨x, by simp, fun y hy => ?_⟩
      rcases List.mem_cons.1 hy with rfl | hy
      · omega
      · have := hall y hy; omega
    · refine ⟨m, by simp at hm ⊢; right; exact hm, fun y hy => ?_⟩
      rcases List.mem_cons.1 hy with rfl | hy
      · omega
      · exact hall y hy

/-- What meets the tidy list meets the list. -/
theorem tidy_back {D : Int} {X : List Int} (hD : 0 < D) {l : List Ln} (h6 : ∀ x ∈ l, x.a.length = 6) (hs : ∀ x ∈ tidyL l, sat D X x) : ∀ x ∈ l, sat D X x := by
  rw [tidyL_ins] at hs
  by_cases hb : badB l = true
  · rw [if_pos hb] at hs
    have := hs bad0 (by simp)
    unfold sat bad0 at this
    simp only [if_true] at this
    rw [dot_zero X gA_z6] at this
    omega
  · rw [if_neg hb] at hs
    intro x hx
    rw [← sat_low (ne_nil (h6 x hx))]
    by_cases hz : x.low.a = z6
    · have hn : ¬ x.low.lim ≤ 0 := fun h => hb (by
        unfold badB
        rw [List.any_eq_true]
        exact ⟨x, hx, by simp [hz, h]⟩)
      unfold sat
      rw [hz, dot_zero X gA_z6]
      unfold Ln.lim at hn
      cases hq : x.low.s
      · rw [hq] at hn
        simp only [Bool.false_eq_true, if_false] at hn ⊢
        exact Int.mul_nonneg (by omega) (by omega)
      · rw [hq] at hn
        simp only [if_true] at hn ⊢
        exact Int.mul_pos (by omega) hD
    · have hk : x.low ∈ keepL l := by
        unfold keepL
        rw [List.mem_filter]
        exact ⟨List.mem_map.2 ⟨x, hx, rfl⟩, by simpa using hz⟩
      obtain ⟨m, hm, hmin⟩ := min_of (fun y : Ln => y.lim) ((keepL l).filter fun y => decide (y.a = x.low.a)) (fun e => by
        have : x.low ∈ (keepL l).filter fun y => decide (y.a = x.low.a) := List.mem_filter.2 ⟨hk, by simp⟩
        rw [e] at this; simp at this)
      obtain ⟨hm1, hm2⟩ := List.mem_filter.1 hm
      simp only [decide_eq_true_eq] at hm2
      have hbest : m ∈ insL (keepL l) := ((insL_ok (keepL l)).2 m).2 ⟨hm1, fun y hy e => hmin y (List.mem_filter.2 ⟨hy, by simp [e, hm2]⟩)⟩
      have hsm := hs m hbest
      have hlim := hmin x.low (List.mem_filter.2 ⟨hk, by simp⟩)
      unfold sat at hsm ⊢
      rw [hm2] at hsm
      unfold Ln.lim at hlim
      have hb : m.b ≤ x.low.b → m.b * D ≤ x.low.b * D := fun h => Int.mul_le_mul_of_nonneg_right h (by omega)
      have hb2 : m.b < x.low.b → m.b * D < x.low.b * D := fun h => Int.mul_lt_mul_of_pos_right h hD
      cases h1 : m.s <;> cases h2 : x.low.s <;> rw [h1] at hsm hlim <;> rw [h2] at hlim <;> simp only [Bool.false_eq_true, if_false, if_true] at hsm hlim ⊢
      · have := hb (by omega); omega
      · have := hb2 (by omega); omega
      · have := hb (by omega); omega
      · have := hb (by omega); omega

/-- The sum without one coordinate. -/
theorem dot_set {a X : List Int} {i : Nat} (hi : i < X.length) (v : Int) : ∀ t, dotN a (X.set i v) t = dotN a (X.set i 0) t + (if i < t then gA a i * v else 0)
  | 0 => by simp [dotN]
  | t + 1 => by
    show dotN a (X.set i v) t + gA a t * gA (X.set i v) t = dotN a (X.set i 0) t + gA a t * gA (X.set i 0) t + _
    rw [dot_set hi v t]
    have g : ∀ w, gA (X.set i w) t = if t = i then w else gA X t := fun w => by
      unfold gA
      rw [List.getD_eq_getElem?_getD]
      by_cases e : t = i
      · subst e; rw [List.getElem?_set_self hi]; simp
      · rw [List.getElem?_set_ne (fun q => e q.symm), if_neg e, ← List.getD_eq_getElem?_getD]
    rw [g, g]
    by_cases e : t = i
    · subst e; rw [if_pos rfl, if_pos rfl, if_neg (by omega), if_pos (by omega)]; omega
    · rw [if_neg e, if_neg e]
      by_cases q : i < t
      · rw [if_pos q, if_pos (by omega)]; omega
      · rw [if_neg q, if_neg (by omega)]; omega

theorem dot_scaleX (a X : List Int) (k : Int) : ∀ t, dotN a (X.map (· * k)) t = dotN a X t * k
  | 0 => by simp [dotN]
  | t + 1 => by
    show dotN a (X.map (· * k)) t + gA a t * gA (X.map (· * k)) t = (dotN a X t + gA a t * gA X t) * k
    rw [dot_scaleX a X k t, gA_scale, Int.add_mul, ← Int.mul_assoc]

/-- Where a point meets what is left of lines, a value of the coordinate can be found with which it meets them. -/
theorem leave_back {D : Int} {X : List Int} (hD : 0 < D) {l : List Ln} {i : Nat} (h6 : ∀ x ∈ l, x.a.length = 6) (hi : i < X.length) (hX : gA X i = 0) (hi6 : i < 6) (hs : ∀ x ∈ leaveL l i, sat D X x) :
    ∃ Q v, 0 < Q ∧ ∀ x ∈ l, sat (D * Q) ((X.map (· * Q)).set i v) x := by
  have hX0 : X.set i 0 = X := by
    refine gA_ext (by simp) fun j hj => ?_
    unfold gA
    rw [List.getD_eq_getElem?_getD]
    by_cases e : j = i
    · subst e
      rw [List.getElem?_set_self hi]
      unfold gA at hX
      rw [hX]; rfl
    · rw [List.getElem?_set_ne (fun q => e q.symm), ← List.getD_eq_getElem?_getD]
  have hall : ∀ x ∈ zrs l i ++ sums l i, sat D X x := by
    unfold leaveL at hs
    refine tidy_back hD (fun x hx => ?_) hs
    rcases List.mem_append.1 hx with q | q
    · exact h6 x (List.mem_filter.1 q).1
    · unfold sums at q
      obtain ⟨p, hp, rfl⟩ := List.mem_map.1 q
      obtain ⟨p1, p2⟩ := mem_prs hp
      exact sumL_len (h6 _ (List.mem_filter.1 p1).1) (h6 _ (List.mem_filter.1 p2).1)
  let lo : Ln → Bd := fun y => ⟨-(y.b * D - dotN y.a X 6), -(gA y.a i) * D, y.s⟩
  let up : Ln → Bd := fun x => ⟨x.b * D - dotN x.a X 6, gA x.a i * D, x.s⟩
  have hlo : ∀ b ∈ (dns l i).map lo, 0 < b.q := fun b hb => by
    obtain ⟨y, hy, rfl⟩ := List.mem_map.1 hb
    have := (List.mem_filter.1 hy).2
    simp only [decide_eq_true_eq] at this
    exact Int.mul_pos (by omega) hD
  have hup : ∀ b ∈ (ups l i).map up, 0 < b.q := fun b hb => by
    obtain ⟨y, hy, rfl⟩ := List.mem_map.1 hb
    have := (List.mem_filter.1 hy).2
    simp only [decide_eq_true_eq] at this
    exact Int.mul_pos (by omega) hD
  obtain ⟨P, Q, hQ, hL, hU⟩ := between hlo hup (fun b hb c hc => by
    obtain ⟨y, hy, rfl⟩ := List.mem_map.1 hb
    obtain ⟨x, hx, rfl⟩ := List.mem_map.1 hc
    obtain ⟨my, ay⟩ := List.mem_filter.1 hy
    obtain ⟨mx, ax⟩ := List.mem_filter.1 hx
    simp only [decide_eq_true_eq] at ax ay
    have hsum : sat D X (sumL x y i) := hall _ (List.mem_append.2 (Or.inr (by
      unfold sums
      refine List.mem_map.2 ⟨(x, y), ?_, rfl⟩
      unfold prs
      rw [List.mem_flatMap]
      exact ⟨x, hx, List.mem_map.2 ⟨y, hy, rfl⟩⟩)))
    have hl : ((x.times ((-(gA y.a i)).tdiv (sumG x y i))).plus (y.times ((gA x.a i).tdiv (sumG x y i)))).a.length = 6 := by simp [Ln.plus, Ln.times, h6 _ mx, h6 _ my]
    unfold sumL at hsum
    rw [sat_low (ne_nil hl)] at hsum
    have hg : 0 < sumG x y i := by
      unfold sumG
      have := Int.gcd_pos_of_ne_zero_left (gA y.a i) (show gA x.a i ≠ 0 by omega)
      omega
    obtain ⟨q, hq⟩ : sumG x y i ∣ gA x.a i := Int.gcd_dvd_left ..
    obtain ⟨p, hp⟩ : sumG x y i ∣ -(gA y.a i) := Int.dvd_neg.2 (Int.gcd_dvd_right ..)
    rw [hq, hp, Int.mul_tdiv_cancel_left _ (by omega), Int.mul_tdiv_cancel_left _ (by omega)] at hsum
    unfold sat Ln.plus Ln.times at hsum
    simp only at hsum
    rw [dot_add X (by simp [h6 _ mx, h6 _ my]), dot_scale, dot_scale] at hsum
    show -(y.b * D - dotN y.a X 6) * (gA x.a i * D) ≤ (x.b * D - dotN x.a X 6) * (-(gA y.a i) * D) ∧ ((y.s = true ∨ x.s = true) → -(y.b * D - dotN y.a X 6) * (gA x.a i * D) < (x.b * D - dotN x.a X 6) * (-(gA y.a i) * D))
    rw [hp, hq]
    generalize dotN x.a X 6 = Rx at *
    generalize dotN y.a X 6 = Ry at *
    generalize sumG x y i = g at *
    have hgD : 0 < g * D := Int.mul_pos hg hD
    have e1 : -(y.b * D - Ry) * (g * q * D) = -((y.b * D - Ry) * q) * (g * D) := by grind
    have e2 : (x.b * D - Rx) * (g * p * D) = ((x.b * D - Rx) * p) * (g * D) := by grind
    have e3 : (x.b * p + y.b * q) * D = x.b * D * p + y.b * D * q := by grind
    have e4 : (y.b * D - Ry) * q = y.b * D * q - Ry * q := Int.sub_mul ..
    have e5 : (x.b * D - Rx) * p = x.b * D * p - Rx * p := Int.sub_mul ..
    rw [e3] at hsum
    rw [e1, e2, e4, e5]
    have hle : -(y.b * D * q - Ry * q) ≤ x.b * D * p - Rx * p := by
      cases hxs : x.s <;> cases hys : y.s <;> rw [hxs, hys] at hsum <;> simp at hsum <;> omega
    refine ⟨Int.mul_le_mul_of_nonneg_right hle (by omega), fun hst => Int.mul_lt_mul_of_pos_right ?_ hgD⟩
    have : (x.s || y.s) = true := by rcases hst with h | h <;> simp [h]
    rw [this, if_pos rfl] at hsum
    omega)
  refine ⟨Q, P * D, hQ, fun x hx => ?_⟩
  have hdot : dotN x.a ((X.map (· * Q)).set i (P * D)) 6 = dotN x.a X 6 * Q + gA x.a i * (P * D) := by
    rw [dot_set (by simpa using hi), if_pos hi6]
    congr 1
    have : (X.map (· * Q)).set i 0 = X.map (· * Q) := by
      have := congrArg (List.map (· * Q)) hX0
      rw [List.map_set] at this
      simpa using this
    rw [this, dot_scaleX]
  unfold sat
  rw [hdot]
  have eb : x.b * (D * Q) = x.b * D * Q := (Int.mul_assoc ..).symm
  rw [eb]
  rcases Int.lt_trichotomy (gA x.a i) 0 with h | h | h
  · have hm : lo x ∈ (dns l i).map lo := List.mem_map.2 ⟨x, List.mem_filter.2 ⟨hx, by simpa using h⟩, rfl⟩
    obtain ⟨k1, k2⟩ := hL _ hm
    change -(x.b * D - dotN x.a X 6) * Q ≤ P * (-(gA x.a i) * D) at k1
    change x.s = true → -(x.b * D - dotN x.a X 6) * Q < P * (-(gA x.a i) * D) at k2
    have e1 : -(x.b * D - dotN x.a X 6) * Q = dotN x.a X 6 * Q - x.b * D * Q := by grind
    have e2 : P * (-(gA x.a i) * D) = -(gA x.a i * (P * D)) := by grind
    rw [e1, e2] at k1 k2
    cases hq : x.s
    · simp only [Bool.false_eq_true, if_false]; omega
    · have := k2 hq
      simp only [if_true]; omega
  · have hz := hall x (List.mem_append.2 (Or.inl (List.mem_filter.2 ⟨hx, by simpa using h⟩)))
    unfold sat at hz
    rw [h]
    cases hq : x.s
    · rw [hq] at hz
      simp only [Bool.false_eq_true, if_false] at hz ⊢
      have := Int.mul_le_mul_of_nonneg_right hz (show 0 ≤ Q by omega)
      omega
    · rw [hq] at hz
      simp only [if_true] at hz ⊢
      have := Int.mul_lt_mul_of_pos_right hz hQ
      omega
  · have hm : up x ∈ (ups l i).map up := List.mem_map.2 ⟨x, List.mem_filter.2 ⟨hx, by simpa using h⟩, rfl⟩
    obtain ⟨k1, k2⟩ := hU _ hm
    change -(x.b * D - dotN x.a X 6) * Q ≤ -P * (gA x.a i * D) at k1
    change x.s = true → -(x.b * D - dotN x.a X 6) * Q < -P * (gA x.a i * D) at k2
    have e1 : -(x.b * D - dotN x.a X 6) * Q = dotN x.a X 6 * Q - x.b * D * Q := by grind
    have e2 : -P * (gA x.a i * D) = -(gA x.a i * (P * D)) := by grind
    rw [e1, e2] at k1 k2
    cases hq : x.s
    · simp only [Bool.false_eq_true, if_false]; omega
    · have := k2 hq
      simp only [if_true]; omega
end Go.Proofs.YtbhaoaobhgilkaaGreat

namespace Go.Proofs.YtbhaoaobhgilkaaGreat
open Go.Sort

theorem dv_tk {n : Nat} {x : Ln} (h : DomN n x) : (tk n x).dvR = x.dv := by
  obtain ⟨h1, h3⟩ := h
  show gcdL (x.b.natAbs : Int) (x.a.take n) = gcdL x.b x.a
  rw [gcdL_abs, gcdL_take _ _ _ h3]
  have : 0 ≤ gcdL x.b x.a := by
    match x.a, h1 with
    | v :: r, _ => exact gcdL_nn (b := (Int.gcd x.b v : Int)) (by omega) r
  omega

theorem low_tk {n : Nat} {x : Ln} (h : DomN n x) : (tk n x).lowR = tk n x.low := by
  unfold Ln.lowR Ln.low
  rw [dv_tk h]
  split
  · rfl
  · unfold tk
    simp only [Ln.mk.injEq, and_true]
    rw [← List.map_take]

theorem low_domN {n : Nat} {x : Ln} (h : DomN n x) : DomN n x.low := by
  unfold Ln.low
  split
  · exact h
  · obtain ⟨h1, h3⟩ := h
    have g : ∀ j, gA x.a j = 0 → gA (x.a.map (·.tdiv x.dv)) j = 0 := fun j hj => by
      by_cases q : j < x.a.length
      · rw [gA_map _ q, hj]; simp
      · unfold gA; rw [List.getD_eq_getElem?_getD, List.getElem?_eq_none (by simp; omega)]; rfl
    exact ⟨by simp [h1], fun j hj => g j (h3 j hj)⟩

theorem z6_iff {a : List Int} (h1 : a.length = 6) : a = z6 ↔ ∀ j, j < 6 → gA a j = 0 := by
  constructor
  · intro e j _
    rw [e]; exact gA_z6 j
  · intro e
    refine gA_ext (by rw [h1]; rfl) fun j hj => ?_
    rw [e j (by omega), gA_z6]

theorem zero_tk {n : Nat} {x : Ln} (h : DomN n x) : zeroA (tk n x) = decide (x.a = z6) := by
  obtain ⟨h1, h3⟩ := h
  rw [Bool.eq_iff_iff, decide_eq_true_eq, z6_iff h1]
  unfold zeroA
  rw [List.all_eq_true]
  constructor
  · intro h j hj
    by_cases hn : n ≤ j
    · exact h3 j hn
    · have key : gA x.a j ∈ x.a.take n := by
        rw [List.mem_take_iff_getElem]
        exact ⟨j, by omega, by simp [gA, show j < x.a.length by omega]⟩
      have := h _ key
      simpa using this
  · intro h v hv
    have hv2 : v ∈ x.a := List.mem_of_mem_take hv
    obtain ⟨j, hj, rfl⟩ := List.getElem_of_mem hv2
    have := h j (by omega)
    simp [gA, hj] at this
    simpa using this

theorem keep_tk {n : Nat} {l : List Ln} (h : ∀ x ∈ l, DomN n x) : keepR (l.map (tk n)) = (keepL l).map (tk n) := by
  unfold keepR keepL
  induction l with
  | nil => rfl
  | cons x r ih =>
    have hx := h x (by simp)
    have ih := ih (fun y hy => h y (by simp [hy]))
    simp only [List.map_cons, List.filter_cons, low_tk hx, zero_tk (low_domN hx)]
    by_cases c : x.low.a = z6
    · simp [c]; simpa using ih
    · simp [c]; simpa using ih

theorem bad_tk {n : Nat} {l : List Ln} (h : ∀ x ∈ l, DomN n x) : badR (l.map (tk n)) = badB l := by
  unfold badR badB
  induction l with
  | nil => rfl
  | cons x r ih =>
    have hx := h x (by simp)
    have ih := ih (fun y hy => h y (by simp [hy]))
    have hl : (tk n x.low).lim = x.low.lim := rfl
    simp only [List.map_cons, List.any_cons, low_tk hx, zero_tk (low_domN hx), hl, ih]

theorem tk_keeps (n : Nat) : Keeps (tk n) (DomN n) where
  ord x y hx hy := by
    show cmpL (x.a.take n) (y.a.take n) = cmpL x.a y.a
    rw [cmpL_take n (by rw [hx.1, hy.1]) (fun j hj => by rw [hx.2 j hj, hy.2 j hj])]
  num _ := rfl
  str _ := rfl

/-- The tidy list of the first n coordinates. -/
theorem tidy_tk {n : Nat} (hn : n ≤ 6) {l : List Ln} (h : ∀ x ∈ l, DomN n x) : tidR n (l.map (tk n)) = (tidyL l).map (tk n) := by
  unfold tidR tidyL
  rw [bad_tk h]
  split
  · simp only [List.map_cons, List.map_nil, List.cons.injEq, and_true]
    unfold tk bad0 z6
    simp only [Ln.mk.injEq, and_true]
    refine gA_ext (by simp; omega) fun j hj => ?_
    have hj : j < n := by simpa using hj
    have e1 : gA (List.replicate n (0 : Int)) j = 0 := by simp [gA, hj]
    rw [e1, gA_take hj]
    exact (gA_z6 j).symm
  · rw [keep_tk h, cpt_ins]
    refine insL_map (tk_keeps n) (fun x hx => ?_)
    obtain ⟨y, hy, rfl⟩ := keepL_mem hx
    exact low_domN (h y hy)

theorem tk_er (i : Nat) (x : Ln) : erL (i + 1) i x = tk i x := by
  unfold erL tk chW
  simp only [Ln.mk.injEq, and_true]
  refine gA_ext ?_ fun j hj => ?_
  · rw [List.length_take]
    by_cases h : i < x.a.length
    · rw [List.length_eraseIdx_of_lt (by simp; omega)]; simp; omega
    · rw [List.length_eraseIdx]; simp; split <;> omega
  · unfold gA
    rw [List.getD_eq_getElem?_getD, List.getD_eq_getElem?_getD, List.getElem?_eraseIdx]
    by_cases q : j < i
    · rw [if_pos q, List.getElem?_take_of_lt (by omega), List.getElem?_take_of_lt q]
    · rw [if_neg q, List.getElem?_eq_none (by simp; omega), List.getElem?_eq_none (by simp; omega)]

/-- What is left when the last k of n coordinates are left out, and the error. -/
def dnL (l : List Ln) (n : Nat) : Nat → List Ln
  | 0 => l
  | k + 1 => leaveL (dnL l n k) (n - 1 - k)

def dnE (l : List Ln) (n : Nat) : Nat → Int
  | 0 => 0
  | k + 1 => if dnE l n k = 0 then leaveE (dnL l n k) (n - 1 - k) else dnE l n k

theorem dnE_stop {l : List Ln} {n k : Nat} (h : dnE l n k ≠ 0) : ∀ j, dnE l n (k + j) = dnE l n k
  | 0 => rfl
  | j + 1 => by
    show (if dnE l n (k + j) = 0 then _ else dnE l n (k + j)) = _
    rw [dnE_stop h j, if_neg h]

theorem dn_sh (l : List Ln) (n : Nat) : ∀ k, dnL (tidyL l) n k = shL l n k ∧ dnE (tidyL l) n k = shE l n k
  | 0 => ⟨rfl, rfl⟩
  | k + 1 => by
    obtain ⟨h1, h2⟩ := dn_sh l n k
    refine ⟨?_, ?_⟩
    · show leaveL (dnL (tidyL l) n k) (n - 1 - k) = leaveL (shL l n k) (n - 1 - k)
      rw [h1]
    · show (if dnE (tidyL l) n k = 0 then leaveE (dnL (tidyL l) n k) (n - 1 - k) else dnE (tidyL l) n k) = (if shE l n k = 0 then leaveE (shL l n k) (n - 1 - k) else shE l n k)
      rw [h1, h2]

/-- The lines that are left have fewer coordinates. -/
theorem leave_domN {l : List Ln} {i : Nat} (h : ∀ x ∈ l, DomN (i + 1) x) : ∀ x ∈ leaveL l i, DomN i x := fun x hx => by
  have z := leave_zr (J := fun j => i + 1 ≤ j) (l := l) (fun y hy => ⟨(h y hy).1, fun j hj => (h y hy).2 j hj⟩) i x hx
  exact ⟨z.1, fun j hj => z.2 j (by omega)⟩

theorem dn_ok {l : List Ln} {n : Nat} (hl : l.length ≤ 2000) (hd : ∀ x ∈ l, DomN n x) (hg : ∀ x ∈ l, Rg 2147483647 x) : ∀ k, k ≤ n → dnE l n k = 0 → (dnL l n k).length ≤ 2000 ∧ (∀ x ∈ dnL l n k, DomN (n - k) x) ∧ ∀ x ∈ dnL l n k, Rg 2147483647 x
  | 0, _, _ => ⟨hl, hd, hg⟩
  | k + 1, hk, h => by
    have h' : (if dnE l n k = 0 then leaveE (dnL l n k) (n - 1 - k) else dnE l n k) = 0 := h
    split at h'
    · rename_i q
      obtain ⟨i1, i2, i3⟩ := dn_ok hl hd hg k (by omega) q
      refine ⟨?_, ?_, leaveL_rg i3 h'⟩
      · show (leaveL _ _).length ≤ 2000
        unfold leaveL
        exact tidyL_len (by have := leaveE_len h'; omega) (by omega)
      · have e : n - (k + 1) = n - 1 - k := by omega
        rw [e]
        refine leave_domN fun x hx => ?_
        have := i2 x hx
        rwa [show n - 1 - k + 1 = n - k by omega]
    · rename_i q; exact absurd h' q
end Go.Proofs.YtbhaoaobhgilkaaGreat
