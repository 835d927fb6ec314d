/- Plain mathematics of Point: the point that is chosen meets the lines.; Which errors Point may tell; where Point tells that there is none.; Plain mathematics of PolyPieces: the pieces that Minus returns, as Has sees them. -/
import Derived.Test.YtbhaoaobhgilkaaGreatVi46
import Derived.Test.YtbhaoaobhgilkaaGreatVi36
import Derived.Test.YtbhaoaobhgilkaaGreatVi26
import Derived.Test.YtbhaoaobhgilkaaGreatVi45

namespace Go.Proofs.YtbhaoaobhgilkaaGreat
open Go.Sort

theorem set_zero {X : List Int} {t : Nat} (h : gA X t = 0) : X.set t 0 = X := by
  refine gA_ext (by simp) fun j hj => ?_
  unfold gA
  rw [List.getD_eq_getElem?_getD]
  by_cases e : j = t
  · subst e
    rw [List.getElem?_set_self (by simpa using hj)]
    unfold gA at h
    rw [h]; rfl
  · rw [List.getElem?_set_ne (fun q => e q.symm), ← List.getD_eq_getElem?_getD]

theorem dot_put {a X : List Int} {t : Nat} (ht : t < X.length) (h6 : t < 6) (hX : gA X t = 0) (k w : Int) : dotN a ((X.map (· * k)).set t w) 6 = dotN a X 6 * k + gA a t * w := by
  rw [dot_set (by simpa using ht) w 6, if_pos h6, set_zero (by rw [gA_scale, hX, Int.zero_mul]), dot_scaleX]

theorem dot_moreX {a X : List Int} {n : Nat} (h : ∀ j, n ≤ j → gA X j = 0) : ∀ k, dotN a X (n + k) = dotN a X n
  | 0 => rfl
  | k + 1 => by
    show dotN a X (n + k) + gA a (n + k) * gA X (n + k) = _
    rw [dot_moreX h k, h _ (by omega)]; simp

theorem sat_put {x : Ln} {D : Int} {X : List Int} {t : Nat} (ht : t < X.length) (h6 : t < 6) (hX : gA X t = 0) (r1 r2 : Int) : sat (D * r2) ((X.map (· * r2)).set t (r1 * D)) x ↔ (if x.s = true then dotN x.a X 6 * r2 + gA x.a t * (r1 * D) < x.b * (D * r2) else dotN x.a X 6 * r2 + gA x.a t * (r1 * D) ≤ x.b * (D * r2)) := by
  unfold sat
  rw [dot_put ht h6 hX]

/-- On which side of its end a number must lie, that a line is met. -/
theorem sat_lo {x : Ln} {D S r1 r2 : Int} {f : Pq} {a : Int} (hD : 0 < D) (hf : vR f = true) (e : f.1 * (a * D) = (x.b * D - S) * f.2) (ha : a < 0) : (if x.s = true then S * r2 + a * (r1 * D) < x.b * (D * r2) else S * r2 + a * (r1 * D) ≤ x.b * (D * r2)) ↔ Over (r1, r2) f x.s := by
  have hp := vR_pos hf
  obtain ⟨c1, c2⟩ := side_core (r1 := r1) (r2 := r2) hD (show 0 < f.2 by omega) e
  obtain ⟨n1, n2⟩ := neg_side (u := r1 * f.2 - f.1 * r2) ha
  unfold Over
  cases x.s
  · simp only [Bool.false_eq_true, if_false, false_implies, and_true]
    rw [c1, n1]; show _ ↔ f.1 * r2 ≤ r1 * f.2; omega
  · simp only [if_true, true_implies]
    rw [c2, n2]; show _ ↔ f.1 * r2 ≤ r1 * f.2 ∧ f.1 * r2 < r1 * f.2; omega

theorem sat_up {x : Ln} {D S r1 r2 : Int} {f : Pq} {a : Int} (hD : 0 < D) (hf : vR f = true) (e : f.1 * (a * D) = (x.b * D - S) * f.2) (ha : 0 < a) : (if x.s = true then S * r2 + a * (r1 * D) < x.b * (D * r2) else S * r2 + a * (r1 * D) ≤ x.b * (D * r2)) ↔ Over f (r1, r2) x.s := by
  have hp := vR_pos hf
  obtain ⟨c1, c2⟩ := side_core (r1 := r1) (r2 := r2) hD (show 0 < f.2 by omega) e
  obtain ⟨n1, n2⟩ := pos_side (u := r1 * f.2 - f.1 * r2) ha
  unfold Over
  cases x.s
  · simp only [Bool.false_eq_true, if_false, false_implies, and_true]
    rw [c1, n1]; show _ ↔ r1 * f.2 ≤ f.1 * r2; omega
  · simp only [if_true, true_implies]
    rw [c2, n2]; show _ ↔ r1 * f.2 ≤ f.1 * r2 ∧ r1 * f.2 < f.1 * r2; omega

/-- One coordinate more. -/
theorem step_pt {l : List Ln} {t : Nat} {P : List Pq} {D : Int} {X : List Int} (hD : 0 < D) (hXl : X.length = 6) (ht : t < 6) (hP : P.length = t) (hz : ∀ j, t ≤ j → gA X j = 0) (hv : ∀ j, j < t → Val (gp P j) (gA X j) D) (h6 : ∀ x ∈ l, x.a.length = 6) (hs : ∀ x ∈ leaveL l t, sat D X x)
    (he : (enN l t P l.length).2 = 0) {r : Pq} (hr : r = btV (enN l t P l.length).1.1 (enN l t P l.length).1.2) (hb : btE (enN l t P l.length).1.1 (enN l t P l.length).1.2 = 0) :
    vR r = true ∧ ∀ x ∈ l, sat (D * r.2) ((X.map (· * r.2)).set t (r.1 * D)) x := by
  have hXt := hz t (Nat.le_refl t)
  have hdot : ∀ a : List Int, dotN a X P.length = dotN a X 6 := fun a => by
    rw [hP, show 6 = t + (6 - t) by omega, dot_moreX hz]
  have hfd : ∀ x ∈ l, fdE x t P = 0 → vR (fdV x t P) = true ∧ (fdV x t P).1 * (gA x.a t * D) = (x.b * D - dotN x.a X 6) * (fdV x t P).2 := fun x _ h => by
    have := fd_valP hD (fun j hj => hv j (by omega)) h
    rwa [hdot] at this
  have ok := en_ok (fun x hx h => (hfd x hx h).1) l.length (Nat.le_refl _) he
  generalize (enN l t P l.length).1.1 = lo at *
  generalize (enN l t P l.length).1.2 = up at *
  have htake : l.take l.length = l := List.take_length
  -- some number will do
  obtain ⟨Q, v, hQ, hall⟩ := leave_back hD h6 (by omega) hXt ht hs
  have hDQ := Int.mul_pos hD hQ
  have hall2 : ∀ x ∈ l, (if x.s = true then dotN x.a X 6 * (D * Q) + gA x.a t * (v * D) < x.b * (D * (D * Q)) else dotN x.a X 6 * (D * Q) + gA x.a t * (v * D) ≤ x.b * (D * (D * Q))) := fun x hx => by
    have h := hall x hx
    unfold sat at h
    rw [dot_put (by omega) ht hXt] at h
    have e1 : dotN x.a X 6 * (D * Q) + gA x.a t * (v * D) = (dotN x.a X 6 * Q + gA x.a t * v) * D := by grind
    have e2 : x.b * (D * (D * Q)) = x.b * (D * Q) * D := by grind
    rw [e1, e2]
    cases hq : x.s
    · rw [hq] at h
      simp only [Bool.false_eq_true, if_false] at h ⊢
      exact Int.mul_le_mul_of_nonneg_right h (Int.le_of_lt hD)
    · rw [hq] at h
      simp only [if_true] at h ⊢
      exact Int.mul_lt_mul_of_pos_right h hD
  have olo : lo.ex = true → Over (v, D * Q) lo.v lo.op := fun h => by
    obtain ⟨x, m1, m2, m3, m4⟩ := ok.lm h
    obtain ⟨f1, f2⟩ := hfd x m1 m3
    have := (sat_lo hD f1 f2 m2).1 (hall2 x m1)
    rw [m4]; exact this
  have oup : up.ex = true → Over up.v (v, D * Q) up.op := fun h => by
    obtain ⟨x, m1, m2, m3, m4⟩ := ok.um h
    obtain ⟨f1, f2⟩ := hfd x m1 m3
    have := (sat_up hD f1 f2 m2).1 (hall2 x m1)
    rw [m4]; exact this
  obtain ⟨b1, b2, b3⟩ := bt_ok ok.lv ok.uv (fun h1 h2 => over_trans (vR_pos (ok.lv h1)) (show 1 ≤ ((v, D * Q) : Pq).2 by show 1 ≤ D * Q; omega) (vR_pos (ok.uv h2)) (oup h2) (olo h1)) hb
  rw [← hr] at b1 b2 b3
  have r1 := vR_pos b1
  refine ⟨b1, fun x hx => ?_⟩
  rw [sat_put (by omega) ht hXt]
  rcases Int.lt_trichotomy (gA x.a t) 0 with h | h | h
  · obtain ⟨f1, f2⟩ := hfd x hx (ok.fe x (by rw [htake]; exact hx) (by omega))
    exact (sat_lo hD f1 f2 h).2 (ok.la r r1 b2 x (by rw [htake]; exact hx) h)
  · have g := hall x hx
    unfold sat at g
    rw [dot_put (by omega) ht hXt, h, Int.zero_mul, Int.add_zero] at g
    rw [h, Int.zero_mul, Int.add_zero]
    have e1 : x.b * (D * Q) = x.b * D * Q := by grind
    have e2 : x.b * (D * r.2) = x.b * D * r.2 := by grind
    rw [e1] at g
    rw [e2]
    cases hq : x.s
    · rw [hq] at g
      simp only [Bool.false_eq_true, if_false] at g ⊢
      exact Int.mul_le_mul_of_nonneg_right (Int.le_of_mul_le_mul_right g hQ) (by omega)
    · rw [hq] at g
      simp only [if_true] at g ⊢
      exact Int.mul_lt_mul_of_pos_right (Int.lt_of_mul_lt_mul_right g (Int.le_of_lt hQ)) (by omega)
  · obtain ⟨f1, f2⟩ := hfd x hx (ok.fe x (by rw [htake]; exact hx) (by omega))
    exact (sat_up hD f1 f2 h).2 (ok.ua r r1 b3 x (by rw [htake]; exact hx) h)

theorem gp_snoc (P : List Pq) (r : Pq) (j : Nat) (hj : j ≤ P.length) : gp (P ++ [r]) j = if j < P.length then gp P j else r := by
  unfold gp
  rw [List.getD_eq_getElem?_getD]
  by_cases h : j < P.length
  · rw [if_pos h, List.getElem?_append_left h, List.getD_eq_getElem?_getD]
  · rw [if_neg h, show j = P.length by omega]; simp

theorem pt_sat {l : List Ln} {n : Nat} (hn : n ≤ 5) (hl : ZrL (fun j => n ≤ j) l) (hem : empB l n = false) : ∀ t, t ≤ n → (ptN l n t).2 = 0 →
    ∃ D X, 0 < D ∧ X.length = 6 ∧ (∀ j, t ≤ j → gA X j = 0) ∧ (ptN l n t).1.length = t ∧ (∀ j, j < t → Val (gp (ptN l n t).1 j) (gA X j) D) ∧ ∀ x ∈ shL l n (n - t), sat D X x
  | 0, _, _ => by
    refine ⟨1, List.replicate 6 0, by omega, by simp, fun j _ => ?_, rfl, fun j hj => by omega, fun x hx => ?_⟩
    · exact gA_z6 j
    · exfalso
      unfold empB at hem
      have := of_decide_eq_false hem
      exact this (List.length_pos_of_mem hx)
  | t + 1, ht, h => by
    have h0 : (ptN l n t).2 = 0 := by
      by_cases q : (ptN l n t).2 = 0
      · exact q
      · have := ptN_stop (l := l) (n := n) q 1
        rw [this] at h; exact h
    obtain ⟨D, X, hD, hXl, hz, hlen, hv, hs⟩ := pt_sat hn hl hem t (by omega) h0
    have hstep := ptN_step h0 (s := shL l n (n - (t + 1))) rfl (p := (ptN l n t).1) rfl
    rw [hstep] at h ⊢
    have h6 : ∀ x ∈ shL l n (n - (t + 1)), x.a.length = 6 := fun x hx => (sh_far hl (n - (t + 1)) x hx).1
    have hsh : shL l n (n - t) = leaveL (shL l n (n - (t + 1))) t := by
      rw [show n - t = (n - (t + 1)) + 1 by omega]
      show leaveL (shL l n (n - (t + 1))) (n - 1 - (n - (t + 1))) = _
      rw [show n - 1 - (n - (t + 1)) = t by omega]
    rw [hsh] at hs
    generalize (ptN l n t).1 = P at *
    generalize shL l n (n - (t + 1)) = s at *
    by_cases q1 : (enN s t P s.length).2 = 0
    · rw [if_neg (fun k => k q1)] at h ⊢
      by_cases q2 : btE (enN s t P s.length).1.1 (enN s t P s.length).1.2 = 0
      · rw [if_neg (fun k => k q2)]
        obtain ⟨r, hr⟩ : ∃ r, r = btV (enN s t P s.length).1.1 (enN s t P s.length).1.2 := ⟨_, rfl⟩
        obtain ⟨v1, v2⟩ := step_pt hD hXl (by omega) hlen hz hv h6 hs q1 hr q2
        rw [← hr]
        have hp := vR_pos v1
        have gX : ∀ j, gA ((X.map (· * r.2)).set t (r.1 * D)) j = if j = t then r.1 * D else gA X j * r.2 := fun j => by
          by_cases e : j = t
          · subst e
            unfold gA
            rw [if_pos rfl, List.getD_eq_getElem?_getD, List.getElem?_set_self (by simp; omega)]; rfl
          · rw [if_neg e, ← gA_scale]
            unfold gA
            rw [List.getD_eq_getElem?_getD, List.getElem?_set_ne (fun k => e k.symm), ← List.getD_eq_getElem?_getD]
        refine ⟨D * r.2, (X.map (· * r.2)).set t (r.1 * D), Int.mul_pos hD (by omega), by simp [hXl], fun j hj => ?_, by simp [hlen], fun j hj => ?_, v2⟩
        · rw [gX, if_neg (by omega), hz j (by omega), Int.zero_mul]
        · rw [gX]
          show Val (gp (P ++ [r]) j) _ _
          rw [gp_snoc P r j (by omega), hlen]
          by_cases e : j = t
          · rw [if_neg (by omega), if_pos e]
            exact ⟨v1, by rw [Int.mul_assoc]⟩
          · rw [if_pos (by omega), if_neg e]
            obtain ⟨w1, w2⟩ := hv j (by omega)
            refine ⟨w1, ?_⟩
            rw [← Int.mul_assoc, w2, Int.mul_right_comm]
      · rw [if_pos q2] at h; exact absurd h q2
    · rw [if_pos q1] at h; exact absurd h q1

/-- The point that Point chooses meets the lines. -/
theorem point_meets {n : Nat} {L : List AV} (hc : chkP n L = 0) (hem : empB (L.map ofV) n = false) (hp : (ptN (L.map ofV) n n).2 = 0) (hE : hasE n L (ptN (L.map ofV) n n).1 = 0) : hasB n L (ptN (L.map ofV) n n).1 = true := by
  obtain ⟨⟨_, n5⟩, _, hval⟩ := chk_valid hc
  have zr := ofV_zr hval (by omega)
  obtain ⟨D, X, hD, _, _, hlen, hv, hs⟩ := pt_sat (by omega) zr hem n (Nat.le_refl n) hp
  rw [Nat.sub_self] at hs
  refine (has_sat hE hD (fun j hj => hv j (by omega)) (by omega)).2 fun y hy => ?_
  exact tidy_back hD (fun x hx => (zr x hx).1) hs _ (List.mem_map.2 ⟨y, hy, rfl⟩)
end Go.Proofs.YtbhaoaobhgilkaaGreat

namespace Go.Proofs.YtbhaoaobhgilkaaGreat
open Go.Sort

/-- No error, an argument's, or a range's. -/
def E3 (e : Int) : Prop := e = 0 ∨ e = 2 ∨ e = 7

theorem op_3 (v : Bool) (p q : Int) : E3 (opErr v p q) := by
  unfold E3 opErr mkErr
  (repeat' split) <;> simp

theorem cm_3 (x y : Pq) : E3 (cmE x y) := by
  unfold E3 cmE
  split <;> simp

theorem at_3 (a : List Int) (ps : List Pq) : ∀ t, E3 (atN a ps t).2
  | 0 => Or.inl rfl
  | t + 1 => by
    have ih := at_3 a ps t
    by_cases h : (atN a ps t).2 = 0
    · by_cases hm : muE (gA a t, 1) (gp ps t) = 0
      · rw [atN_add h hm]; exact op_3 _ _ _
      · rw [atN_mul h hm]; exact op_3 _ _ _
    · have := atN_stop (a := a) (ps := ps) h 1
      rw [this]; exact ih

theorem fd_3 (x : Ln) (i : Nat) (ps : List Pq) : E3 (fdE x i ps) := by
  unfold fdE
  split
  · exact at_3 _ _ _
  · split
    · exact op_3 _ _ _
    · exact op_3 _ _ _

theorem cl_3 (c : En) (x : Ln) (i : Nat) (ps : List Pq) : E3 (clE c x i ps) := by
  unfold clE
  split
  · exact fd_3 _ _ _
  · split
    · exact cm_3 _ _
    · exact Or.inl rfl

theorem en_3 (l : List Ln) (i : Nat) (ps : List Pq) : ∀ t, E3 (enN l i ps t).2
  | 0 => Or.inl rfl
  | t + 1 => by
    unfold enN
    split
    · exact en_3 l i ps t
    · split
      · exact cl_3 _ _ _ _
      · split
        · exact cl_3 _ _ _ _
        · exact en_3 l i ps t

theorem bt_3 (lo up : En) : E3 (btE lo up) := by
  unfold btE
  (repeat' split) <;> first | exact op_3 _ _ _ | exact Or.inl rfl

theorem pt_3 (l : List Ln) (n : Nat) : ∀ t, E3 (ptN l n t).2
  | 0 => Or.inl rfl
  | t + 1 => by
    unfold ptN
    split
    · exact pt_3 l n t
    · split
      · exact en_3 _ _ _ _
      · split
        · exact bt_3 _ _
        · exact Or.inl rfl

/-- Where Empty tells, Point tells that there is none just there. -/
theorem pon_emp {n : Int} {L : List AV} (h : empE n L = 0) : decide (ponE n L = 4) = empB (L.map ofV) n.toNat := by
  unfold empE at h
  by_cases hc : chkP n L = 0
  · rw [if_pos hc] at h
    unfold ponE
    rw [if_pos hc]
    unfold poE
    rw [if_pos h]
    unfold ptE
    cases hb : empB (L.map ofV) n.toNat
    · simp only [Bool.false_eq_true, if_false]
      refine decide_eq_false fun q => ?_
      rcases pt_3 (L.map ofV) n.toNat n.toNat with e | e | e <;> omega
    · simp
  · rw [if_neg hc] at h; exact absurd h hc

/-- Where Point returns a point of which Has can tell, it meets the lines. -/
theorem pon_meets {n : Int} {L : List AV} (h : ponE n L = 0) (hE : hasE n L (ptN (L.map ofV) n.toNat n.toNat).1 = 0) : hasB n L (ptN (L.map ofV) n.toNat n.toNat).1 = true := by
  unfold ponE at h
  by_cases hc : chkP n L = 0
  · rw [if_pos hc] at h
    obtain ⟨⟨n0, n5⟩, _, _⟩ := chk_valid hc
    obtain ⟨k, rfl⟩ : ∃ k : Nat, n = (k : Int) := ⟨n.toNat, by omega⟩
    rw [Int.toNat_natCast] at h hE ⊢
    unfold poE at h
    split at h
    · unfold ptE at h
      cases hb : empB (L.map ofV) k
      · rw [hb] at h
        exact point_meets hc hb (by simpa using h) hE
      · rw [hb] at h; simp at h
    · rename_i q; exact absurd h q
  · rw [if_neg hc] at h; exact absurd h hc
end Go.Proofs.YtbhaoaobhgilkaaGreat

namespace Go.Proofs.YtbhaoaobhgilkaaGreat
open Go.Sort

theorem mn_ok {n : Nat} {a b : List Ln} (ha : ZrL (fun j => n ≤ j) a) (hb : ZrL (fun j => n ≤ j) b) (ga : ∀ x ∈ a, Rg 2147483647 x) (gb : ∀ x ∈ b, Rg 2147483647 x) : ∀ t, t ≤ b.length → ∀ l ∈ (mnS n a b t).1, ZrL (fun j => n ≤ j) l ∧ ∀ x ∈ l, Rg 2147483647 x
  | 0, _, l, hl => by simp [mnS] at hl
  | t + 1, ht, l, hl => by
    have ih := mn_ok ha hb ga gb t (by omega)
    have hlt : t < b.length := ht
    have hg : b.getD t ln0 = b[t] := by rw [List.getD_eq_getElem?_getD, List.getElem?_eq_getElem hlt]; rfl
    have hm : b[t] ∈ b := List.getElem_mem hlt
    have hz : ZrL (fun j => n ≤ j) (mnL a b t) := fun x hx => by
      unfold mnL at hx
      rcases List.mem_append.1 hx with q | q
      · rcases List.mem_append.1 q with q | q
        · exact ha x q
        · exact hb x (List.mem_of_mem_take q)
      · rw [List.mem_singleton] at q
        subst q
        rw [hg]
        have := hb _ hm
        exact ⟨by simp [Ln.opp, Ln.times, this.1], fun j hj => by
          show gA (b[t].times (-1)).a j = 0
          unfold Ln.times
          rw [gA_scale, this.2 j hj, Int.zero_mul]⟩
    have hr : ∀ x ∈ mnL a b t, Rg 2147483647 x := fun x hx => by
      unfold mnL at hx
      rcases List.mem_append.1 hx with q | q
      · rcases List.mem_append.1 q with q | q
        · exact ga x q
        · exact gb x (List.mem_of_mem_take q)
      · rw [List.mem_singleton] at q
        subst q
        rw [hg]
        exact (gb _ hm).opp (by omega)
    unfold mnS at hl
    split at hl
    · exact ih l hl
    · split at hl
      · simp at hl
      · split at hl
        · simp at hl
        · split at hl
          · exact ih l hl
          · rcases List.mem_append.1 hl with q | q
            · exact ih l q
            · rw [List.mem_singleton] at q
              subst q
              exact ⟨tidy_zr hz, tidyL_rg (by omega) hr⟩

theorem of_tk {n : Nat} {l : List Ln} {L : List AV} (hn : n ≤ 6) (h : L.map lnV = l.map (tk n)) (hz : ZrL (fun j => n ≤ j) l) : L.map ofV = l := by
  have e : L.map ofV = (L.map lnV).map fun z => ⟨z.a ++ List.replicate (6 - z.a.length) 0, z.b, z.s⟩ := by rw [List.map_map]; rfl
  rw [e, h, List.map_map]
  refine (List.map_congr_left fun x hx => ?_).trans (List.map_id l)
  obtain ⟨h6, h0⟩ := hz x hx
  show Ln.mk (x.a.take n ++ List.replicate (6 - (x.a.take n).length) 0) x.b x.s = x
  have : x.a.take n ++ List.replicate (6 - (x.a.take n).length) 0 = x.a := gA_ext (by simp; omega) fun j hj => by
    rw [gA_pad]
    by_cases q : j < n
    · exact gA_take q
    · rw [h0 j (by omega), gA_out (by simp; omega)]
  rw [this]

theorem pc_of {n : Nat} {Ls : List LsV} {ls : List (List Ln)} (hn : n ≤ 6) (h : PcOk n Ls ls) (hz : ∀ l ∈ ls, ZrL (fun j => n ≤ j) l) : Ls.map (fun p => p.l.map ofV) = ls := by
  unfold PcOk at h
  induction Ls generalizing ls with
  | nil => cases ls with
    | nil => rfl
    | cons l r => simp at h
  | cons p r ih => cases ls with
    | nil => simp at h
    | cons l r' =>
      simp only [List.map_cons, List.cons.injEq] at h ⊢
      exact ⟨of_tk hn h.1 (hz l (by simp)), ih h.2 fun l hl => hz l (by simp [hl])⟩

/-- What is known of the pieces that Minus has returned. -/
theorem pieces_of {n : Nat} {A B : List AV} {Ls : List LsV} (hA : chkP n A = 0) (hB : chkP n B = 0) (h : PcOk n Ls (mnS n (A.map ofV) (B.map ofV) B.length).1) (he : miE n A B = 0) :
    (∀ p ∈ Ls, ∀ y ∈ p.l, (y.a.length ≤ 1000000 ∧ ∀ v ∈ y.a, I64 v) ∧ I64 y.b) ∧
    ∀ P : List Pq, hasE n A P = 0 → hasE n B P = 0 → (∀ p ∈ Ls, hasE n p.l P = 0) → (Ls.countP fun p => hasB n p.l P) = if hasB n A P && !hasB n B P then 1 else 0 := by
  obtain ⟨⟨_, n5⟩, _, vA⟩ := chk_valid hA
  obtain ⟨_, _, vB⟩ := chk_valid hB
  have hn : n ≤ 5 := by omega
  have zA := ofV_zr vA hn
  have zB := ofV_zr vB hn
  have gr : ∀ {L : List AV}, (∀ y ∈ L, validB n y = true) → ∀ x ∈ L.map ofV, Rg 2147483647 x := fun hv x hx => by
    obtain ⟨y, hy, rfl⟩ := List.mem_map.1 hx
    exact ofV_rg (n := n) (by omega) (hv y hy)
  have ok := mn_ok zA zB (gr vA) (gr vB) B.length (by simp)
  have pc := pc_of (by omega) h (fun l hl => (ok l hl).1)
  have mem : ∀ p ∈ Ls, p.l.map ofV ∈ (mnS n (A.map ofV) (B.map ofV) B.length).1 := fun p hp => by rw [← pc]; exact List.mem_map.2 ⟨p, hp, rfl⟩
  refine ⟨fun p hp y hy => ?_, fun P e1 e2 e3 => ?_⟩
  · have r := (ok _ (mem p hp)).2 (ofV y) (List.mem_map.2 ⟨y, hy, rfl⟩)
    have h6 := r.len
    have hl : y.a.length ≤ 6 := by unfold ofV at h6; simp at h6; omega
    refine ⟨⟨by omega, fun v hv => ?_⟩, ?_⟩
    · have := r.a v (by unfold ofV; exact List.mem_append.2 (Or.inl hv))
      exact ⟨by omega, by omega⟩
    · have := r.b
      exact ⟨by show _ ≤ y.b; have : (ofV y).b = y.b := rfl; omega, by show y.b ≤ _; have : (ofV y).b = y.b := rfl; omega⟩
  · obtain ⟨_, h2, h3, _⟩ := has_zero e1
    obtain ⟨D, X, hD, _, hX⟩ := pt_of P h3
    have toS : ∀ {L : List AV}, hasE n L P = 0 → hasB n L P = allS D X (L.map ofV) := fun {L} hE => by
      have k : hasB n L P = true ↔ allS D X (L.map ofV) = true := by
        rw [has_sat hE hD hX hn, allS_iff]
        exact ⟨fun h x hx => by obtain ⟨y, hy, rfl⟩ := List.mem_map.1 hx; exact h y hy, fun h y hy => h _ (List.mem_map.2 ⟨y, hy, rfl⟩)⟩
      cases q1 : hasB n L P <;> cases q2 : allS D X (L.map ofV) <;> simp_all
    have c := mn_count (X := X) hD zA zB B.length (by simp) he
    rw [← pc, List.countP_map, List.take_of_length_le (by simp)] at c
    rw [toS e1, toS e2, ← c]
    refine List.countP_congr fun p hp => ?_
    show hasB n p.l P = true ↔ allS D X (p.l.map ofV) = true
    rw [toS (e3 p hp)]
end Go.Proofs.YtbhaoaobhgilkaaGreat
