/- Plain mathematics of Point: the ends of a coordinate are the greatest and the least, the number between them is between, the point meets the lines.; Plain mathematics of Point: the point that is chosen meets the lines.; Which errors Point may tell; where Point tells that there is none. -/
import Derived.Test.YtbhaoaobhgilkaaGreatVa39
import Derived.Test.YtbhaoaobhgilkaaGreatVa22
import Derived.Test.YtbhaoaobhgilkaaGreatVa33
import Derived.Test.YtbhaoaobhgilkaaGreatVa18

namespace Go.Proofs.YtbhaoaobhgilkaaGreat
open Go.Sort

theorem cm_cases {a b : Pq} (ha : vR a = true) (hb : vR b = true) : (cmR a b = -1 ∧ a.1 * b.2 < b.1 * a.2) ∨ (cmR a b = 0 ∧ a.1 * b.2 = b.1 * a.2) ∨ (cmR a b = 1 ∧ b.1 * a.2 < a.1 * b.2) := by
  unfold vR at ha hb
  unfold cmR
  rw [ha, hb]
  simp only [Bool.and_self, if_true]
  unfold sgn
  rcases Int.lt_trichotomy (a.1 * b.2) (b.1 * a.2) with h | h | h
  · left; rw [if_pos h]; exact ⟨rfl, h⟩
  · right; left; rw [if_neg (by omega), if_neg (by omega)]; exact ⟨rfl, h⟩
  · right; right; rw [if_neg (by omega), if_pos h]; exact ⟨rfl, h⟩

theorem over_or {r c : Pq} {s t : Bool} (h : Over r c (s || t)) (k : Bool) (hk : s = true ∨ t = true ∨ k = false) : Over r c k := over_weak h fun q => by
  rcases hk with e | e | e
  · simp [e]
  · simp [e]
  · rw [e] at q; cases q

theorem cl_lo {c : En} {x : Ln} {i : Nat} {P : List Pq} (hc : c.ex = true → vR c.v = true) (hf : vR (fdV x i P) = true) : (clR 1 c x i P).ex = true ∧ vR (clR 1 c x i P).v = true ∧ (∀ r : Pq, 1 ≤ r.2 → Over r (clR 1 c x i P).v (clR 1 c x i P).op → Over r (fdV x i P) x.s ∧ (c.ex = true → Over r c.v c.op)) ∧ (clR 1 c x i P = ⟨fdV x i P, true, x.s⟩ ∨ (c.ex = true ∧ clR 1 c x i P = c)) := by
  have f1 := vR_pos hf
  unfold clR
  by_cases he : c.ex = true
  · rw [if_pos he]
    have hv := hc he
    have c1 := vR_pos hv
    have hcm := cm_cases hf hv
    split
    · rename_i h
      refine ⟨rfl, hf, fun r hr ho => ⟨ho, fun _ => ?_⟩, Or.inl rfl⟩
      rcases hcm with ⟨e, k⟩ | ⟨e, k⟩ | ⟨e, k⟩
      · omega
      · have hs : x.s = true := by rcases h with h | h; · omega
                                   · exact h.2
        exact over_or (over_trans (s := x.s) (t := false) c1 f1 hr ho ⟨by omega, fun q => by cases q⟩) _ (Or.inl hs)
      · exact over_or (over_trans (s := x.s) (t := true) c1 f1 hr ho ⟨by omega, fun _ => k⟩) _ (Or.inr (Or.inl rfl))
    · rename_i h
      refine ⟨he, hv, fun r hr ho => ⟨?_, fun _ => ho⟩, Or.inr ⟨he, rfl⟩⟩
      rcases hcm with ⟨e, k⟩ | ⟨e, k⟩ | ⟨e, k⟩
      · exact over_or (over_trans (s := c.op) (t := true) f1 c1 hr ho ⟨by omega, fun _ => k⟩) _ (Or.inr (Or.inl rfl))
      · have hs : x.s = false := by
          cases hq : x.s
          · rfl
          · exact absurd (Or.inr ⟨by omega, hq⟩) h
        exact over_or (over_trans (s := c.op) (t := false) f1 c1 hr ho ⟨by omega, fun q => by cases q⟩) _ (Or.inr (Or.inr hs))
      · exact absurd (Or.inl (by omega)) h
  · rw [if_neg he]
    exact ⟨rfl, hf, fun r hr ho => ⟨ho, fun q => absurd q he⟩, Or.inl rfl⟩

theorem cl_up {c : En} {x : Ln} {i : Nat} {P : List Pq} (hc : c.ex = true → vR c.v = true) (hf : vR (fdV x i P) = true) : (clR (-1) c x i P).ex = true ∧ vR (clR (-1) c x i P).v = true ∧ (∀ r : Pq, 1 ≤ r.2 → Over (clR (-1) c x i P).v r (clR (-1) c x i P).op → Over (fdV x i P) r x.s ∧ (c.ex = true → Over c.v r c.op)) ∧ (clR (-1) c x i P = ⟨fdV x i P, true, x.s⟩ ∨ (c.ex = true ∧ clR (-1) c x i P = c)) := by
  have f1 := vR_pos hf
  unfold clR
  by_cases he : c.ex = true
  · rw [if_pos he]
    have hv := hc he
    have c1 := vR_pos hv
    have hcm := cm_cases hf hv
    split
    · rename_i h
      refine ⟨rfl, hf, fun r hr ho => ⟨ho, fun _ => ?_⟩, Or.inl rfl⟩
      rcases hcm with ⟨e, k⟩ | ⟨e, k⟩ | ⟨e, k⟩
      · exact over_or (over_trans (s := true) (t := x.s) hr f1 c1 ⟨by omega, fun _ => k⟩ ho) _ (Or.inl rfl)
      · have hs : x.s = true := by rcases h with h | h; · omega
                                   · exact h.2
        exact over_or (over_trans (s := false) (t := x.s) hr f1 c1 ⟨by omega, fun q => by cases q⟩ ho) _ (Or.inr (Or.inl hs))
      · omega
    · rename_i h
      refine ⟨he, hv, fun r hr ho => ⟨?_, fun _ => ho⟩, Or.inr ⟨he, rfl⟩⟩
      rcases hcm with ⟨e, k⟩ | ⟨e, k⟩ | ⟨e, k⟩
      · exact absurd (Or.inl (by omega)) h
      · have hs : x.s = false := by
          cases hq : x.s
          · rfl
          · exact absurd (Or.inr ⟨by omega, hq⟩) h
        exact over_or (over_trans (s := false) (t := c.op) hr c1 f1 ⟨by omega, fun q => by cases q⟩ ho) _ (Or.inr (Or.inr hs))
      · exact over_or (over_trans (s := true) (t := c.op) hr c1 f1 ⟨by omega, fun _ => k⟩ ho) _ (Or.inl rfl)
  · rw [if_neg he]
    exact ⟨rfl, hf, fun r hr ho => ⟨ho, fun q => absurd q he⟩, Or.inl rfl⟩

/-- What the ends say of the first k lines. -/
structure EnOk (l : List Ln) (i : Nat) (P : List Pq) (k : Nat) (lo up : En) : Prop where
  lv : lo.ex = true → vR lo.v = true
  uv : up.ex = true → vR up.v = true
  la : ∀ r : Pq, 1 ≤ r.2 → (lo.ex = true → Over r lo.v lo.op) → ∀ x ∈ l.take k, gA x.a i < 0 → Over r (fdV x i P) x.s
  ua : ∀ r : Pq, 1 ≤ r.2 → (up.ex = true → Over up.v r up.op) → ∀ x ∈ l.take k, 0 < gA x.a i → Over (fdV x i P) r x.s
  lm : lo.ex = true → ∃ x ∈ l, gA x.a i < 0 ∧ fdE x i P = 0 ∧ lo = ⟨fdV x i P, true, x.s⟩
  um : up.ex = true → ∃ x ∈ l, 0 < gA x.a i ∧ fdE x i P = 0 ∧ up = ⟨fdV x i P, true, x.s⟩
  fe : ∀ x ∈ l.take k, gA x.a i ≠ 0 → fdE x i P = 0

theorem clE_fd {c : En} {x : Ln} {i : Nat} {P : List Pq} (h : clE c x i P = 0) : fdE x i P = 0 := by
  unfold clE at h
  by_cases q : fdE x i P = 0
  · exact q
  · rw [if_pos q] at h; exact absurd h q

theorem en_ok {l : List Ln} {i : Nat} {P : List Pq} (hv : ∀ x ∈ l, fdE x i P = 0 → vR (fdV x i P) = true) : ∀ k, k ≤ l.length → (enN l i P k).2 = 0 → EnOk l i P k (enN l i P k).1.1 (enN l i P k).1.2
  | 0, _, _ => by
    refine ⟨fun h => ?_, fun h => ?_, fun r _ _ x hx => ?_, fun r _ _ x hx => ?_, fun h => ?_, fun h => ?_, fun x hx => ?_⟩
    all_goals first | (simp [enN, en0] at h; done) | (simp at hx; done)
  | k + 1, hk, h => by
    have hkl : k < l.length := hk
    have hg : l.getD k ln0 = l[k] := by rw [List.getD_eq_getElem?_getD, List.getElem?_eq_getElem hkl]; rfl
    have hm : l[k] ∈ l := List.getElem_mem hkl
    have ht : l.take (k + 1) = l.take k ++ [l[k]] := List.take_succ_eq_append_getElem hkl
    by_cases h0 : (enN l i P k).2 = 0
    · have ih := en_ok hv k (by omega) h0
      unfold enN at h ⊢
      rw [hg] at h ⊢
      rw [if_neg (fun q => q h0)] at h ⊢
      obtain ⟨lo, hlo⟩ : ∃ lo, lo = (enN l i P k).1.1 := ⟨_, rfl⟩
      obtain ⟨up, hup⟩ : ∃ up, up = (enN l i P k).1.2 := ⟨_, rfl⟩
      rw [← hlo, ← hup] at ih h ⊢
      have split : ∀ x, x ∈ l.take (k + 1) → x ∈ l.take k ∨ x = l[k] := fun x hx => by
        rw [ht] at hx
        rcases List.mem_append.1 hx with q | q
        · exact Or.inl q
        · exact Or.inr (List.mem_singleton.1 q)
      generalize l[k] = y at *
      by_cases h1 : gA y.a i < 0
      · rw [if_pos h1] at h ⊢
        have fd := clE_fd h
        obtain ⟨n1, n2, n3, n4⟩ := cl_lo ih.lv (hv y hm fd)
        refine ⟨fun _ => n2, ih.uv, fun r hr ho x hx ha => ?_, fun r hr ho x hx ha => ?_, fun _ => ?_, ih.um, fun x hx ha => ?_⟩
        · obtain ⟨o1, o2⟩ := n3 r hr (ho n1)
          rcases split x hx with q | rfl
          · exact ih.la r hr o2 x q ha
          · exact o1
        · rcases split x hx with q | rfl
          · exact ih.ua r hr ho x q ha
          · omega
        · rcases n4 with e | ⟨e1, e2⟩
          · exact ⟨y, hm, h1, fd, e⟩
          · obtain ⟨x, m1, m2, m3, m4⟩ := ih.lm e1
            exact ⟨x, m1, m2, m3, e2.trans m4⟩
        · rcases split x hx with q | rfl
          · exact ih.fe x q ha
          · exact fd
      · rw [if_neg h1] at h ⊢
        by_cases h2 : 0 < gA y.a i
        · rw [if_pos h2] at h ⊢
          have fd := clE_fd h
          obtain ⟨n1, n2, n3, n4⟩ := cl_up ih.uv (hv y hm fd)
          refine ⟨ih.lv, fun _ => n2, fun r hr ho x hx ha => ?_, fun r hr ho x hx ha => ?_, ih.lm, fun _ => ?_, fun x hx ha => ?_⟩
          · rcases split x hx with q | rfl
            · exact ih.la r hr ho x q ha
            · omega
          · obtain ⟨o1, o2⟩ := n3 r hr (ho n1)
            rcases split x hx with q | rfl
            · exact ih.ua r hr o2 x q ha
            · exact o1
          · rcases n4 with e | ⟨e1, e2⟩
            · exact ⟨y, hm, h2, fd, e⟩
            · obtain ⟨x, m1, m2, m3, m4⟩ := ih.um e1
              exact ⟨x, m1, m2, m3, e2.trans m4⟩
          · rcases split x hx with q | rfl
            · exact ih.fe x q ha
            · exact fd
        · rw [if_neg h2] at h ⊢
          rw [← hlo, ← hup]
          refine ⟨ih.lv, ih.uv, fun r hr ho x hx ha => ?_, fun r hr ho x hx ha => ?_, ih.lm, ih.um, fun x hx ha => ?_⟩
          · rcases split x hx with q | rfl
            · exact ih.la r hr ho x q ha
            · omega
          · rcases split x hx with q | rfl
            · exact ih.ua r hr ho x q ha
            · omega
          · rcases split x hx with q | rfl
            · exact ih.fe x q ha
            · omega
    · unfold enN at h
      rw [if_pos h0] at h; exact absurd h h0

/-- The number between the ends is between them. -/
theorem bt_ok {lo up : En} (hl : lo.ex = true → vR lo.v = true) (hu : up.ex = true → vR up.v = true) (hlu : lo.ex = true → up.ex = true → Over up.v lo.v (up.op || lo.op)) (h : btE lo up = 0) :
    vR (btV lo up) = true ∧ (lo.ex = true → Over (btV lo up) lo.v lo.op) ∧ (up.ex = true → Over up.v (btV lo up) up.op) := by
  unfold btE at h
  unfold btV
  by_cases a1 : (lo.ex && !lo.op) = true
  · rw [if_pos a1]
    have e1 : lo.ex = true := by cases hq : lo.ex <;> simp [hq] at a1 ⊢
    have e2 : lo.op = false := by cases hq : lo.op <;> simp [hq] at a1 ⊢
    refine ⟨hl e1, fun _ => ⟨Int.le_refl _, fun q => by rw [e2] at q; cases q⟩, fun e3 => over_or (hlu e1 e3) _ ?_⟩
    cases up.op <;> simp
  · rw [if_neg a1] at h ⊢
    by_cases a2 : (lo.ex && up.ex) = true
    · rw [if_pos a2] at h ⊢
      have e1 : lo.ex = true := by cases hq : lo.ex <;> simp [hq] at a2 ⊢
      have e3 : up.ex = true := by cases hq : up.ex <;> simp [hq] at a2 ⊢
      have vl := hl e1
      have vu := hu e3
      obtain ⟨m1, m2, m3, m4⟩ := op_ok h
      obtain ⟨ma, mk⟩ := mid_args m1
      have hb : Best lo.v.1 lo.v.2 up.v.1 up.v.2 (midX lo.v.1 lo.v.2 up.v.1 up.v.2) (midY lo.v.1 lo.v.2 up.v.1 up.v.2) := smp_best _ _ _ _ _ ma.ends mk
      obtain ⟨b1, b2, b3, _⟩ := hb
      have m3' : vR (mdR lo.v up.v) = true := m3
      have hp := vR_pos m3'
      have m4' : (mdR lo.v up.v).1 * midY lo.v.1 lo.v.2 up.v.1 up.v.2 = midX lo.v.1 lo.v.2 up.v.1 up.v.2 * (mdR lo.v up.v).2 := m4
      have l1 := vR_pos vl
      have u1 := vR_pos vu
      generalize midX lo.v.1 lo.v.2 up.v.1 up.v.2 = mx at *
      generalize midY lo.v.1 lo.v.2 up.v.1 up.v.2 = my at *
      have o1 : Over (mx, my) lo.v true := ⟨Int.le_of_lt b2, fun _ => b2⟩
      have o2 : Over up.v (mx, my) true := ⟨Int.le_of_lt b3, fun _ => b3⟩
      have o3 : Over (mdR lo.v up.v) (mx, my) false := ⟨by show mx * (mdR lo.v up.v).2 ≤ (mdR lo.v up.v).1 * my; omega, fun q => by cases q⟩
      have o4 : Over (mx, my) (mdR lo.v up.v) false := ⟨by show (mdR lo.v up.v).1 * my ≤ mx * (mdR lo.v up.v).2; omega, fun q => by cases q⟩
      exact ⟨m3', fun _ => over_or (over_trans l1 (show 1 ≤ ((mx, my) : Pq).2 from b1) hp o3 o1) _ (Or.inr (Or.inl rfl)), fun _ => over_or (over_trans hp (show 1 ≤ ((mx, my) : Pq).2 from b1) u1 o2 o4) _ (Or.inl rfl)⟩
    · rw [if_neg a2] at h ⊢
      by_cases a3 : lo.ex = true
      · rw [if_pos a3] at h ⊢
        have nu : ¬ up.ex = true := fun q => a2 (by rw [a3, q]; rfl)
        obtain ⟨_, _, m3, m4⟩ := op_ok h
        have m3' : vR (adR lo.v (1, 1)) = true := m3
        have hp := vR_pos m3'
        have l1 := vR_pos (hl a3)
        have m4' : (adR lo.v (1, 1)).1 * (lo.v.2 * 1) = (lo.v.1 * 1 + 1 * lo.v.2) * (adR lo.v (1, 1)).2 := m4
        have key : lo.v.1 * (adR lo.v (1, 1)).2 < (adR lo.v (1, 1)).1 * lo.v.2 := by
          have e : (adR lo.v (1, 1)).1 * lo.v.2 = lo.v.1 * (adR lo.v (1, 1)).2 + lo.v.2 * (adR lo.v (1, 1)).2 := by grind
          have := Int.mul_pos (show 0 < lo.v.2 by omega) (show 0 < (adR lo.v (1, 1)).2 by omega)
          omega
        exact ⟨m3', fun _ => ⟨Int.le_of_lt key, fun _ => key⟩, fun q => absurd q nu⟩
      · rw [if_neg a3] at h ⊢
        by_cases a4 : (up.ex && !up.op) = true
        · rw [if_pos a4]
          have e1 : up.ex = true := by cases hq : up.ex <;> simp [hq] at a4 ⊢
          have e2 : up.op = false := by cases hq : up.op <;> simp [hq] at a4 ⊢
          exact ⟨hu e1, fun q => absurd q a3, fun _ => ⟨Int.le_refl _, fun q => by rw [e2] at q; cases q⟩⟩
        · rw [if_neg a4] at h ⊢
          by_cases a5 : up.ex = true
          · rw [if_pos a5] at h ⊢
            obtain ⟨_, _, m3, m4⟩ := op_ok h
            have m3' : vR (sbR up.v (1, 1)) = true := m3
            have hp := vR_pos m3'
            have l1 := vR_pos (hu a5)
            have m4' : (sbR up.v (1, 1)).1 * (up.v.2 * 1) = (up.v.1 * 1 - 1 * up.v.2) * (sbR up.v (1, 1)).2 := m4
            have key : (sbR up.v (1, 1)).1 * up.v.2 < up.v.1 * (sbR up.v (1, 1)).2 := by
              have e : (sbR up.v (1, 1)).1 * up.v.2 = up.v.1 * (sbR up.v (1, 1)).2 - up.v.2 * (sbR up.v (1, 1)).2 := by grind
              have := Int.mul_pos (show 0 < up.v.2 by omega) (show 0 < (sbR up.v (1, 1)).2 by omega)
              omega
            exact ⟨m3', fun q => absurd q a3, fun _ => ⟨Int.le_of_lt key, fun _ => key⟩⟩
          · rw [if_neg a5]
            exact ⟨by decide, fun q => absurd q a3, fun q => absurd q a5⟩
end Go.Proofs.YtbhaoaobhgilkaaGreat

namespace Go.Proofs.YtbhaoaobhgilkaaGreat
open Go.Sort

theorem set_zero {X : List Int} {t : Nat} (h : gA X t = 0) : X.set t 0 = X := by
  refine gA_ext (by simp) fun j hj => ?_
  unfold gA
  rw [List.getD_eq_getElem?_getD]
  by_cases e : j = t
  · subst e
    rw [List.getElem?_set_self (by simpa using hj)]
    unfold gA at h
    rw [h]; rfl
  · rw [List.getElem?_set_ne (fun q => e q.symm), ← List.getD_eq_getElem?_getD]

theorem dot_put {a X : List Int} {t : Nat} (ht : t < X.length) (h6 : t < 6) (hX : gA X t = 0) (k w : Int) : dotN a ((X.map (· * k)).set t w) 6 = dotN a X 6 * k + gA a t * w := by
  rw [dot_set (by simpa using ht) w 6, if_pos h6, set_zero (by rw [gA_scale, hX, Int.zero_mul]), dot_scaleX]

theorem dot_moreX {a X : List Int} {n : Nat} (h : ∀ j, n ≤ j → gA X j = 0) : ∀ k, dotN a X (n + k) = dotN a X n
  | 0 => rfl
  | k + 1 => by
    show dotN a X (n + k) + gA a (n + k) * gA X (n + k) = _
    rw [dot_moreX h k, h _ (by omega)]; simp

theorem sat_put {x : Ln} {D : Int} {X : List Int} {t : Nat} (ht : t < X.length) (h6 : t < 6) (hX : gA X t = 0) (r1 r2 : Int) : sat (D * r2) ((X.map (· * r2)).set t (r1 * D)) x ↔ (if x.s = true then dotN x.a X 6 * r2 + gA x.a t * (r1 * D) < x.b * (D * r2) else dotN x.a X 6 * r2 + gA x.a t * (r1 * D) ≤ x.b * (D * r2)) := by
  unfold sat
  rw [dot_put ht h6 hX]

/-- On which side of its end a number must lie, that a line is met. -/
theorem sat_lo {x : Ln} {D S r1 r2 : Int} {f : Pq} {a : Int} (hD : 0 < D) (hf : vR f = true) (e : f.1 * (a * D) = (x.b * D - S) * f.2) (ha : a < 0) : (if x.s = true then S * r2 + a * (r1 * D) < x.b * (D * r2) else S * r2 + a * (r1 * D) ≤ x.b * (D * r2)) ↔ Over (r1, r2) f x.s := by
  have hp := vR_pos hf
  obtain ⟨c1, c2⟩ := side_core (r1 := r1) (r2 := r2) hD (show 0 < f.2 by omega) e
  obtain ⟨n1, n2⟩ := neg_side (u := r1 * f.2 - f.1 * r2) ha
  unfold Over
  cases x.s
  · simp only [Bool.false_eq_true, if_false, false_implies, and_true]
    rw [c1, n1]; show _ ↔ f.1 * r2 ≤ r1 * f.2; omega
  · simp only [if_true, true_implies]
    rw [c2, n2]; show _ ↔ f.1 * r2 ≤ r1 * f.2 ∧ f.1 * r2 < r1 * f.2; omega

theorem sat_up {x : Ln} {D S r1 r2 : Int} {f : Pq} {a : Int} (hD : 0 < D) (hf : vR f = true) (e : f.1 * (a * D) = (x.b * D - S) * f.2) (ha : 0 < a) : (if x.s = true then S * r2 + a * (r1 * D) < x.b * (D * r2) else S * r2 + a * (r1 * D) ≤ x.b * (D * r2)) ↔ Over f (r1, r2) x.s := by
  have hp := vR_pos hf
  obtain ⟨c1, c2⟩ := side_core (r1 := r1) (r2 := r2) hD (show 0 < f.2 by omega) e
  obtain ⟨n1, n2⟩ := pos_side (u := r1 * f.2 - f.1 * r2) ha
  unfold Over
  cases x.s
  · simp only [Bool.false_eq_true, if_false, false_implies, and_true]
    rw [c1, n1]; show _ ↔ r1 * f.2 ≤ f.1 * r2; omega
  · simp only [if_true, true_implies]
    rw [c2, n2]; show _ ↔ r1 * f.2 ≤ f.1 * r2 ∧ r1 * f.2 < f.1 * r2; omega

/-- One coordinate more. -/
theorem step_pt {l : List Ln} {t : Nat} {P : List Pq} {D : Int} {X : List Int} (hD : 0 < D) (hXl : X.length = 6) (ht : t < 6) (hP : P.length = t) (hz : ∀ j, t ≤ j → gA X j = 0) (hv : ∀ j, j < t → Val (gp P j) (gA X j) D) (h6 : ∀ x ∈ l, x.a.length = 6) (hs : ∀ x ∈ leaveL l t, sat D X x)
    (he : (enN l t P l.length).2 = 0) {r : Pq} (hr : r = btV (enN l t P l.length).1.1 (enN l t P l.length).1.2) (hb : btE (enN l t P l.length).1.1 (enN l t P l.length).1.2 = 0) :
    vR r = true ∧ ∀ x ∈ l, sat (D * r.2) ((X.map (· * r.2)).set t (r.1 * D)) x := by
  have hXt := hz t (Nat.le_refl t)
  have hdot : ∀ a : List Int, dotN a X P.length = dotN a X 6 := fun a => by
    rw [hP, show 6 = t + (6 - t) by omega, dot_moreX hz]
  have hfd : ∀ x ∈ l, fdE x t P = 0 → vR (fdV x t P) = true ∧ (fdV x t P).1 * (gA x.a t * D) = (x.b * D - dotN x.a X 6) * (fdV x t P).2 := fun x _ h => by
    have := fd_valP hD (fun j hj => hv j (by omega)) h
    rwa [hdot] at this
  have ok := en_ok (fun x hx h => (hfd x hx h).1) l.length (Nat.le_refl _) he
  generalize (enN l t P l.length).1.1 = lo at *
  generalize (enN l t P l.length).1.2 = up at *
  have htake : l.take l.length = l := List.take_length
  -- some number will do
  obtain ⟨Q, v, hQ, hall⟩ := leave_back hD h6 (by omega) hXt ht hs
  have hDQ := Int.mul_pos hD hQ
  have hall2 : ∀ x ∈ l, (if x.s = true then dotN x.a X 6 * (D * Q) + gA x.a t * (v * D) < x.b * (D * (D * Q)) else dotN x.a X 6 * (D * Q) + gA x.a t * (v * D) ≤ x.b * (D * (D * Q))) := fun x hx => by
    have h := hall x hx
    unfold sat at h
    rw [dot_put (by omega) ht hXt] at h
    have e1 : dotN x.a X 6 * (D * Q) + gA x.a t * (v * D) = (dotN x.a X 6 * Q + gA x.a t * v) * D := by grind
    have e2 : x.b * (D * (D * Q)) = x.b * (D * Q) * D := by grind
    rw [e1, e2]
    cases hq : x.s
    · rw [hq] at h
      simp only [Bool.false_eq_true, if_false] at h ⊢
      exact Int.mul_le_mul_of_nonneg_right h (Int.le_of_lt hD)
    · rw [hq] at h
      simp only [if_true] at h ⊢
      exact Int.mul_lt_mul_of_pos_right h hD
  have olo : lo.ex = true → Over (v, D * Q) lo.v lo.op := fun h => by
    obtain ⟨x, m1, m2, m3, m4⟩ := ok.lm h
    obtain ⟨f1, f2⟩ := hfd x m1 m3
    have := (sat_lo hD f1 f2 m2).1 (hall2 x m1)
    rw [m4]; exact this
  have oup : up.ex = true → Over up.v (v, D * Q) up.op := fun h => by
    obtain ⟨x, m1, m2, m3, m4⟩ := ok.um h
    obtain ⟨f1, f2⟩ := hfd x m1 m3
    have := (sat_up hD f1 f2 m2).1 (hall2 x m1)
    rw [m4]; exact this
  obtain ⟨b1, b2, b3⟩ := bt_ok ok.lv ok.uv (fun h1 h2 => over_trans (vR_pos (ok.lv h1)) (show 1 ≤ ((v, D * Q) : Pq).2 by show 1 ≤ D * Q; omega) (vR_pos (ok.uv h2)) (oup h2) (olo h1)) hb
  rw [← hr] at b1 b2 b3
  have r1 := vR_pos b1
  refine ⟨b1, fun x hx => ?_⟩
  rw [sat_put (by omega) ht hXt]
  rcases Int.lt_trichotomy (gA x.a t) 0 with h | h | h
  · obtain ⟨f1, f2⟩ := hfd x hx (ok.fe x (by rw [htake]; exact hx) (by omega))
    exact (sat_lo hD f1 f2 h).2 (ok.la r r1 b2 x (by rw [htake]; exact hx) h)
  · have g := hall x hx
    unfold sat at g
    rw [dot_put (by omega) ht hXt, h, Int.zero_mul, Int.add_zero] at g
    rw [h, Int.zero_mul, Int.add_zero]
    have e1 : x.b * (D * Q) = x.b * D * Q := by grind
    have e2 : x.b * (D * r.2) = x.b * D * r.2 := by grind
    rw [e1] at g
    rw [e2]
    cases hq : x.s
    · rw [hq] at g
      simp only [Bool.false_eq_true, if_false] at g ⊢
      exact Int.mul_le_mul_of_nonneg_right (Int.le_of_mul_le_mul_right g hQ) (by omega)
    · rw [hq] at g
      simp only [if_true] at g ⊢
      exact Int.mul_lt_mul_of_pos_right (Int.lt_of_mul_lt_mul_right g (Int.le_of_lt hQ)) (by omega)
  · obtain ⟨f1, f2⟩ := hfd x hx (ok.fe x (by rw [htake]; exact hx) (by omega))
    exact (sat_up hD f1 f2 h).2 (ok.ua r r1 b3 x (by rw [htake]; exact hx) h)

theorem gp_snoc (P : List Pq) (r : Pq) (j : Nat) (hj : j ≤ P.length) : gp (P ++ [r]) j = if j < P.length then gp P j else r := by
  unfold gp
  rw [List.getD_eq_getElem?_getD]
  by_cases h : j < P.length
  · rw [if_pos h, List.getElem?_append_left h, List.getD_eq_getElem?_getD]
  · rw [if_neg h, show j = P.length by omega]; simp

theorem pt_sat {l : List Ln} {n : Nat} (hn : n ≤ 5) (hl : ZrL (fun j => n ≤ j) l) (hem : empB l n = false) : ∀ t, t ≤ n → (ptN l n t).2 = 0 →
    ∃ D X, 0 < D ∧ X.length = 6 ∧ (∀ j, t ≤ j → gA X j = 0) ∧ (ptN l n t).1.length = t ∧ (∀ j, j < t → Val (gp (ptN l n t).1 j) (gA X j) D) ∧ ∀ x ∈ shL l n (n - t), sat D X x
  | 0, _, _ => by
    refine ⟨1, List.replicate 6 0, by omega, by simp, fun j _ => ?_, rfl, fun j hj => by omega, fun x hx => ?_⟩
    · exact gA_z6 j
    · exfalso
      unfold empB at hem
      have := of_decide_eq_false hem
      exact this (List.length_pos_of_mem hx)
  | t + 1, ht, h => by
    have h0 : (ptN l n t).2 = 0 := by
      by_cases q : (ptN l n t).2 = 0
      · exact q
      · have := ptN_stop (l := l) (n := n) q 1
        rw [this] at h; exact h
    obtain ⟨D, X, hD, hXl, hz, hlen, hv, hs⟩ := pt_sat hn hl hem t (by omega) h0
    have hstep := ptN_step h0 (s := shL l n (n - (t + 1))) rfl (p := (ptN l n t).1) rfl
    rw [hstep] at h ⊢
    have h6 : ∀ x ∈ shL l n (n - (t + 1)), x.a.length = 6 := fun x hx => (sh_far hl (n - (t + 1)) x hx).1
    have hsh : shL l n (n - t) = leaveL (shL l n (n - (t + 1))) t := by
      rw [show n - t = (n - (t + 1)) + 1 by omega]
      show leaveL (shL l n (n - (t + 1))) (n - 1 - (n - (t + 1))) = _
      rw [show n - 1 - (n - (t + 1)) = t by omega]
    rw [hsh] at hs
    generalize (ptN l n t).1 = P at *
    generalize shL l n (n - (t + 1)) = s at *
    by_cases q1 : (enN s t P s.length).2 = 0
    · rw [if_neg (fun k => k q1)] at h ⊢
      by_cases q2 : btE (enN s t P s.length).1.1 (enN s t P s.length).1.2 = 0
      · rw [if_neg (fun k => k q2)]
        obtain ⟨r, hr⟩ : ∃ r, r = btV (enN s t P s.length).1.1 (enN s t P s.length).1.2 := ⟨_, rfl⟩
        obtain ⟨v1, v2⟩ := step_pt hD hXl (by omega) hlen hz hv h6 hs q1 hr q2
        rw [← hr]
        have hp := vR_pos v1
        have gX : ∀ j, gA ((X.map (· * r.2)).set t (r.1 * D)) j = if j = t then r.1 * D else gA X j * r.2 := fun j => by
          by_cases e : j = t
          · subst e
            unfold gA
            rw [if_pos rfl, List.getD_eq_getElem?_getD, List.getElem?_set_self (by simp; omega)]; rfl
          · rw [if_neg e, ← gA_scale]
            unfold gA
            rw [List.getD_eq_getElem?_getD, List.getElem?_set_ne (fun k => e k.symm), ← List.getD_eq_getElem?_getD]
        refine ⟨D * r.2, (X.map (· * r.2)).set t (r.1 * D), Int.mul_pos hD (by omega), by simp [hXl], fun j hj => ?_, by simp [hlen], fun j hj => ?_, v2⟩
        · rw [gX, if_neg (by omega), hz j (by omega), Int.zero_mul]
        · rw [gX]
          show Val (gp (P ++ [r]) j) _ _
          rw [gp_snoc P r j (by omega), hlen]
          by_cases e : j = t
          · rw [if_neg (by omega), if_pos e]
            exact ⟨v1, by rw [Int.mul_assoc]⟩
          · rw [if_pos (by omega), if_neg e]
            obtain ⟨w1, w2⟩ := hv j (by omega)
            refine ⟨w1, ?_⟩
            rw [← Int.mul_assoc, w2, Int.mul_right_comm]
      · rw [if_pos q2] at h; exact absurd h q2
    · rw [if_pos q1] at h; exact absurd h q1

end Go.Proofs.YtbhaoaobhgilkaaGreat

namespace Go.Proofs.YtbhaoaobhgilkaaGreat
open Go.Sort

end Go.Proofs.YtbhaoaobhgilkaaGreat
