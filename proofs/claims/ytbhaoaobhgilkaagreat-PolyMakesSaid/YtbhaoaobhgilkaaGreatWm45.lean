/- Plain mathematics of Least: what the reference compares at its end is never met.; The contracts of Empty and Implies of layer 7's reference, in the words of the project's.; The contract of Point of layer 7's reference, in the words of the project's.; Plain mathematics of the reference's Least: its lines have a coordinate more.; slices.IndexFunc and ContainsFunc at lines.; slices.IndexFunc and ContainsFunc at lines for a function that may panic; the contract of Includes of layer 7's reference.; The contract of package poly's Includes, for whatever arguments. -/
import Derived.Test.YtbhaoaobhgilkaaGreatWm42
import Derived.Test.YtbhaoaobhgilkaaGreatWm43
import Derived.Test.YtbhaoaobhgilkaaGreatWm40
import Derived.Test.YtbhaoaobhgilkaaGreatWm31
import Derived.Test.YtbhaoaobhgilkaaGreatWm44
import Derived.Test.YtbhaoaobhgilkaaGreatWm13
import Derived.Test.YtbhaoaobhgilkaaGreatWm10

namespace Go.Proofs.YtbhaoaobhgilkaaGreat
open Go.Sort

theorem tidy_one {D : Int} {X : List Int} (hD : 0 < D) {l : List Ln} (h6 : ∀ x ∈ l, x.a.length = 6) {x : Ln} (hx : x ∈ l) (hs : ∀ z ∈ tidyL l, (z = bad0 ∨ z.a = x.low.a) → sat D X z) : sat D X x := by
  rw [tidyL_ins] at hs
  by_cases hb : badB l = true
  · rw [if_pos hb] at hs
    have := hs bad0 (by simp) (Or.inl rfl)
    unfold sat bad0 at this
    simp only [if_true] at this
    rw [dot_zero X gA_z6] at this
    omega
  · rw [if_neg hb] at hs
    rw [← sat_low (ne_nil (h6 x hx))]
    by_cases hz : x.low.a = z6
    · have hn : ¬ x.low.lim ≤ 0 := fun h => hb (by
        unfold badB
        rw [List.any_eq_true]
        exact ⟨x, hx, by simp [hz, h]⟩)
      unfold sat
      rw [hz, dot_zero X gA_z6]
      unfold Ln.lim at hn
      cases hq : x.low.s
      · rw [hq] at hn
        simp only [Bool.false_eq_true, if_false] at hn ⊢
        exact Int.mul_nonneg (by omega) (by omega)
      · rw [hq] at hn
        simp only [if_true] at hn ⊢
        exact Int.mul_pos (by omega) hD
    · have hk : x.low ∈ keepL l := by
        unfold keepL
        rw [List.mem_filter]
        exact ⟨List.mem_map.2 ⟨x, hx, rfl⟩, by simpa using hz⟩
      obtain ⟨m, hm, hmin⟩ := min_of (fun y : Ln => y.lim) ((keepL l).filter fun y => decide (y.a = x.low.a)) (fun e => by
        have : x.low ∈ (keepL l).filter fun y => decide (y.a = x.low.a) := List.mem_filter.2 ⟨hk, by simp⟩
        rw [e] at this; simp at this)
      obtain ⟨hm1, hm2⟩ := List.mem_filter.1 hm
      simp only [decide_eq_true_eq] at hm2
      have hbest : m ∈ insL (keepL l) := ((insL_ok (keepL l)).2 m).2 ⟨hm1, fun y hy e => hmin y (List.mem_filter.2 ⟨hy, by simp [e, hm2]⟩)⟩
      have hsm := hs m hbest (Or.inr hm2)
      have hlim := hmin x.low (List.mem_filter.2 ⟨hk, by simp⟩)
      unfold sat at hsm ⊢
      rw [hm2] at hsm
      unfold Ln.lim at hlim
      have hb : m.b ≤ x.low.b → m.b * D ≤ x.low.b * D := fun h => Int.mul_le_mul_of_nonneg_right h (by omega)
      have hb2 : m.b < x.low.b → m.b * D < x.low.b * D := fun h => Int.mul_lt_mul_of_pos_right h hD
      cases h1 : m.s <;> cases h2 : x.low.s <;> rw [h1] at hsm hlim <;> rw [h2] at hlim <;> simp only [Bool.false_eq_true, if_false, if_true] at hsm hlim ⊢
      · have := hb (by omega); omega
      · have := hb2 (by omega); omega
      · have := hb (by omega); omega
      · have := hb (by omega); omega

theorem goal_at {n : Nat} {a : List Int} (ha : a.length = n) (hn : n ≤ 5) (j : Nat) : gA (goalL n a).a j = if j < n then gA a j else if j = n then -1 else 0 := by
  unfold goalL
  simp only
  have hlen : (a ++ List.replicate (6 - a.length) 0).length = 6 := by simp; omega
  by_cases hj : j = n
  · subst hj
    unfold gA
    rw [List.getD_eq_getElem?_getD, List.getElem?_set_self (by rw [hlen]; omega)]
    simp
  · unfold gA
    rw [List.getD_eq_getElem?_getD, List.getElem?_set_ne (fun q => hj q.symm), ← List.getD_eq_getElem?_getD]
    have := gA_pad a (6 - a.length) j
    unfold gA at this
    rw [this]
    by_cases hlt : j < n
    · rw [if_pos hlt]
    · rw [if_neg hlt, if_neg hj]
      have := gA_out (a := a) (t := j) (by omega)
      unfold gA at this
      exact this

theorem low_free {x : Ln} {n : Nat} (h : gA x.a n = 0) : gA x.low.a n = 0 := low_zr h

theorem free_back {l : List Ln} {n : Nat} (hn : n ≤ 5) (hl : ∀ x ∈ l, x.a.length = 6) : ∀ k, k ≤ n → ∀ (D : Int) (X : List Int), 0 < D → X.length = 6 → (∀ j, n - k ≤ j → gA X j = 0) → (∀ z ∈ shL l n k, gA z.a n = 0 → sat D X z) →
    ∃ D' Y, 0 < D' ∧ Y.length = 6 ∧ (∀ j, n ≤ j → gA Y j = 0) ∧ ∀ x ∈ l, gA x.a n = 0 → sat D' Y x
  | 0, _, D, X, hD, hX, hz, hs => ⟨D, X, hD, hX, fun j hj => hz j (by omega), fun x hx hf => tidy_one hD hl hx fun z hz' hc => hs z hz' (by
      rcases hc with rfl | e
      · exact gA_z6 n
      · rw [e]; exact low_free hf)⟩
  | k + 1, hk, D, X, hD, hX, hz, hs => by
    have h6 : ∀ x ∈ shL l n k, x.a.length = 6 := fun x hx => (sh_zr hl n k (by omega) x hx).1
    obtain ⟨i, hi⟩ : ∃ i, i = n - 1 - k := ⟨_, rfl⟩
    have hs' : ∀ z ∈ tidyL (zrs (shL l n k) i ++ sums (shL l n k) i), gA z.a n = 0 → sat D X z := by
      intro z hz'
      refine hs z ?_
      show z ∈ leaveL (shL l n k) (n - 1 - k)
      unfold leaveL
      rw [← hi]; exact hz'
    obtain ⟨S, hS⟩ : ∃ S, S = (shL l n k).filter fun x => decide (gA x.a n = 0) := ⟨_, rfl⟩
    have mS : ∀ x, x ∈ S ↔ x ∈ shL l n k ∧ gA x.a n = 0 := fun x => by rw [hS, List.mem_filter]; simp
    have h6S : ∀ x ∈ S, x.a.length = 6 := fun x hx => h6 x ((mS x).1 hx).1
    have hraw6 : ∀ x ∈ zrs (shL l n k) i ++ sums (shL l n k) i, x.a.length = 6 := fun x hx => by
      rcases List.mem_append.1 hx with q | q
      · exact h6 x (List.mem_filter.1 q).1
      · unfold sums at q
        obtain ⟨p, hp, rfl⟩ := List.mem_map.1 q
        obtain ⟨p1, p2⟩ := mem_prs hp
        exact (sum_zr (h6 _ (List.mem_filter.1 p1).1) (h6 _ (List.mem_filter.1 p2).1)).1
    have sub : ∀ x ∈ zrs S i ++ sums S i, x ∈ zrs (shL l n k) i ++ sums (shL l n k) i ∧ gA x.a n = 0 := fun x hx => by
      rcases List.mem_append.1 hx with q | q
      · obtain ⟨q1, q2⟩ := List.mem_filter.1 q
        obtain ⟨q3, q4⟩ := (mS x).1 q1
        exact ⟨List.mem_append.2 (Or.inl (List.mem_filter.2 ⟨q3, q2⟩)), q4⟩
      · unfold sums at q
        obtain ⟨p, hp, rfl⟩ := List.mem_map.1 q
        obtain ⟨p1, p2⟩ := mem_prs hp
        obtain ⟨a1, a2⟩ := List.mem_filter.1 p1
        obtain ⟨b1, b2⟩ := List.mem_filter.1 p2
        obtain ⟨a3, a4⟩ := (mS _).1 a1
        obtain ⟨b3, b4⟩ := (mS _).1 b1
        refine ⟨List.mem_append.2 (Or.inr ?_), (sum_zr (h6 _ a3) (h6 _ b3)).2.2 n a4 b4⟩
        unfold sums
        refine List.mem_map.2 ⟨p, ?_, rfl⟩
        unfold prs
        exact List.mem_flatMap.2 ⟨p.1, List.mem_filter.2 ⟨a3, a2⟩, List.mem_map.2 ⟨p.2, List.mem_filter.2 ⟨b3, b2⟩, rfl⟩⟩
    have hraw : ∀ x ∈ zrs S i ++ sums S i, sat D X x := fun x hx => by
      obtain ⟨q1, q2⟩ := sub x hx
      exact tidy_one hD hraw6 q1 fun z hz' hc => hs' z hz' (by
        rcases hc with rfl | e
        · exact gA_z6 n
        · rw [e]; exact low_free q2)
    have hleave : ∀ x ∈ leaveL S i, sat D X x := tidy_sat hD (fun x hx => hraw6 x (sub x hx).1) hraw
    obtain ⟨Q, v, hQ, hall⟩ := leave_back hD h6S (by omega) (hz i (by omega)) (by omega) hleave
    refine free_back hn hl k (by omega) (D * Q) ((X.map (· * Q)).set i v) (Int.mul_pos hD hQ) (by simp [hX]) (fun j hj => ?_) (fun z hz' hf => hall z ((mS z).2 ⟨hz', hf⟩))
    have hne : i ≠ j := by omega
    have hj0 := hz j (by omega)
    have e : gA (X.map (· * Q)) j = 0 := by rw [gA_scale, hj0, Int.zero_mul]
    have e2 : gA ((X.map (· * Q)).set i v) j = gA (X.map (· * Q)) j := by
      unfold gA
      rw [List.getD_eq_getElem?_getD, List.getElem?_set_ne hne, ← List.getD_eq_getElem?_getD]
    rw [e2, e]

theorem least_pt {l : List Ln} {n : Nat} {a : List Int} (hn : n ≤ 5) (hl : ZrL (fun j => n ≤ j) l) (ha : a.length = n) (hall : ∀ x ∈ shL (infL l n a) n n, gA x.a n ≠ 0) :
    ∃ D T : Int, 0 < D ∧ ∀ x ∈ shL (infL l n a) n n, (if x.s = true then gA x.a n * T < x.b * D else gA x.a n * T ≤ x.b * D) := by
  have g6 : (goalL n a).a.length = 6 := by unfold goalL; simp; omega
  have h6 : ∀ x ∈ infL l n a, x.a.length = 6 := fun x hx => by
    unfold infL at hx
    rcases List.mem_append.1 hx with q | q
    · exact (hl x q).1
    · simp only [List.mem_cons, List.not_mem_nil, or_false] at q
      rcases q with rfl | rfl
      · exact g6
      · unfold Ln.times; simp [g6]
  have hfar : ZrL (fun j => n + 1 ≤ j) (infL l n a) := fun x hx => by
    refine ⟨h6 x hx, fun j hj => ?_⟩
    unfold infL at hx
    rcases List.mem_append.1 hx with q | q
    · exact (hl x q).2 j (by omega)
    · simp only [List.mem_cons, List.not_mem_nil, or_false] at q
      rcases q with rfl | rfl
      · rw [goal_at ha hn, if_neg (by omega), if_neg (by omega)]
      · show gA ((goalL n a).a.map (· * (-1))) j = 0
        rw [gA_scale, goal_at ha hn, if_neg (by omega), if_neg (by omega), Int.zero_mul]
  obtain ⟨D, Y, hD, hY, hz, hs⟩ := free_back (l := infL l n a) hn h6 n (Nat.le_refl n) 1 (List.replicate 6 0) (by omega) (by simp) (fun j _ => gA_z6 j) (fun z hz' hf => absurd hf (hall z hz'))
  obtain ⟨T, hT⟩ : ∃ T, T = dotN a Y n := ⟨_, rfl⟩
  have hset : ∀ b : List Int, dotN b (Y.set n T) 6 = dotN b Y 6 + gA b n * T := fun b => by
    rw [dot_set (by omega) T 6, set_zero (hz n (Nat.le_refl n)), if_pos (by omega)]
  have hYn : ∀ j, gA (Y.set n T) j = if j = n then T else gA Y j := fun j => by
    unfold gA
    rw [List.getD_eq_getElem?_getD]
    by_cases e : j = n
    · subst e; rw [List.getElem?_set_self (by omega), if_pos rfl]; rfl
    · rw [List.getElem?_set_ne (fun q => e q.symm), if_neg e, ← List.getD_eq_getElem?_getD]
  have hg : dotN (goalL n a).a (Y.set n T) 6 = 0 := by
    rw [hset, goal_at ha hn n, if_neg (by omega), if_pos rfl]
    have e1 : dotN (goalL n a).a Y 6 = dotN (goalL n a).a Y n := by
      rw [show 6 = n + (6 - n) by omega, dot_moreX hz]
    have e2 : dotN (goalL n a).a Y n = T := by
      rw [hT]
      exact dot_congr n fun j hj => ⟨by rw [goal_at ha hn, if_pos hj], rfl⟩
    rw [e1, e2]; omega
  have hLL : ∀ x ∈ infL l n a, sat D (Y.set n T) x := fun x hx => by
    have hx0 := hx
    unfold infL at hx
    rcases List.mem_append.1 hx with q | q
    · have hf : gA x.a n = 0 := (hl x q).2 n (Nat.le_refl n)
      have := hs x hx0 hf
      unfold sat at this ⊢
      rw [hset, hf, Int.zero_mul, Int.add_zero]
      exact this
    · simp only [List.mem_cons, List.not_mem_nil, or_false] at q
      rcases q with rfl | rfl
      · unfold sat
        rw [hg]
        unfold goalL
        simp
      · unfold sat Ln.times
        simp only
        rw [dot_scale, hg]
        unfold goalL
        simp
  refine ⟨D, T, hD, fun x hx => ?_⟩
  have hsx := sh_sat hD h6 hLL n n (Nat.le_refl n) x hx
  have z1 := sh_zr h6 n n (Nat.le_refl n) x hx
  have e : dotN x.a (Y.set n T) 6 = gA x.a n * T := by
    rw [dot_only (n := n) (T := T) (fun j hj => z1.2 j ⟨by omega, hj⟩) (fun j hj => by rw [hYn, if_neg (by omega)]; exact hz j (by omega)) (by rw [hYn, if_pos rfl]) 6, if_pos (show n < 6 by omega)]
  unfold sat at hsx
  rw [e] at hsx
  exact hsx

theorem least_order {l : List Ln} {n : Nat} {a : List Int} (hn : n ≤ 5) (hl : ZrL (fun j => n ≤ j) l) (ha : a.length = n) (hall : ∀ x ∈ shL (infL l n a) n n, gA x.a n ≠ 0) (he : (infN l n a).2 = 0) :
    EnOk (shL (infL l n a) n n) n [] (shL (infL l n a) n n).length (infN l n a).1.1 (infN l n a).1.2 ∧ ((infN l n a).1.1.ex = true → (infN l n a).1.2.ex = true → Over (infN l n a).1.2.v (infN l n a).1.1.v ((infN l n a).1.2.op || (infN l n a).1.1.op)) := by
  obtain ⟨D, T, hD, hs⟩ := least_pt hn hl ha hall
  have ok := en_ok (l := shL (infL l n a) n n) (i := n) (P := []) (fun x _ h => (fd_val h).1) _ (Nat.le_refl _) he
  refine ⟨ok, fun h1 h2 => ?_⟩
  obtain ⟨x, m1, m2, m3, m4⟩ := ok.lm h1
  obtain ⟨y, k1, k2, k3, k4⟩ := ok.um h2
  obtain ⟨f1, f2⟩ := fd_val m3
  obtain ⟨g1, g2⟩ := fd_val k3
  have o1 : Over (T, D) (infN l n a).1.1.v (infN l n a).1.1.op := by
    have := (sat_lo (x := x) (D := 1) (S := 0) (r1 := T) (r2 := D) (by omega) f1 (by rw [Int.mul_one, Int.mul_one, Int.sub_zero]; exact f2) m2).1 (by
      have := hs x m1
      simp only [Int.zero_mul, Int.zero_add, Int.mul_one, Int.one_mul]
      exact this)
    show Over (T, D) (enN (shL (infL l n a) n n) n [] (shL (infL l n a) n n).length).1.1.v (enN (shL (infL l n a) n n) n [] (shL (infL l n a) n n).length).1.1.op
    rw [m4]; exact this
  have o2 : Over (infN l n a).1.2.v (T, D) (infN l n a).1.2.op := by
    have := (sat_up (x := y) (D := 1) (S := 0) (r1 := T) (r2 := D) (by omega) g1 (by rw [Int.mul_one, Int.mul_one, Int.sub_zero]; exact g2) k2).1 (by
      have := hs y k1
      simp only [Int.zero_mul, Int.zero_add, Int.mul_one, Int.one_mul]
      exact this)
    show Over (enN (shL (infL l n a) n n) n [] (shL (infL l n a) n n).length).1.2.v (T, D) (enN (shL (infL l n a) n n) n [] (shL (infL l n a) n n).length).1.2.op
    rw [k4]; exact this
  exact over_trans (vR_pos (ok.lv h1)) (show 1 ≤ ((T, D) : Pq).2 by show 1 ≤ D; omega) (vR_pos (ok.uv h2)) o2 o1

theorem bad_only {l : List Ln} {x : Ln} (hx : x ∈ tidyL l) (hz : x.a = z6) : tidyL l = [bad0] := by
  by_cases hb : badB l = true
  · unfold tidyL; rw [if_pos hb]
  · exfalso
    have e : tidyL l = insL (keepL l) := by unfold tidyL; rw [if_neg hb, cpt_ins]
    rw [e] at hx
    have := (((insL_ok (keepL l)).2 x).1 hx).1
    unfold keepL at this
    have := (List.mem_filter.1 this).2
    simp [hz] at this

theorem cm_over {a b : Pq} {s : Bool} (ha : vR a = true) (hb : vR b = true) (h : Over b a s) : ¬ 0 < cmR a b ∧ (cmR a b = 0 → s = false) := by
  obtain ⟨h1, h2⟩ := h
  rcases cm_cases ha hb with q | q | q
  · exact ⟨by omega, fun e => by omega⟩
  · refine ⟨by omega, fun _ => ?_⟩
    cases s
    · rfl
    · have := h2 rfl
      exfalso
      have := q.2
      omega
  · exfalso
    have := q.2
    omega
end Go.Proofs.YtbhaoaobhgilkaaGreat

namespace Go.Proofs.YtbhaoaobhgilkaaGreat
open Go.RowKit Go.Sort Go.Shelf

theorem ofV_dom {n : Nat} {L : List AV} (hn : n ≤ 6) (h : ∀ y ∈ L, FitV n y) : (∀ x ∈ L.map ofV, DomN n x) ∧ (∀ x ∈ L.map ofV, Rg 2147483647 x) ∧ L.map lnV = (L.map ofV).map (tk n) := by
  refine ⟨fun x hx => ?_, fun x hx => ?_, ?_⟩
  · obtain ⟨y, hy, rfl⟩ := List.mem_map.1 hx
    exact (tk_ofV (h y hy) hn).2
  · obtain ⟨y, hy, rfl⟩ := List.mem_map.1 hx
    obtain ⟨h1, h2, h3⟩ := h y hy
    refine ⟨by unfold ofV; simp; omega, fun v hv => ?_, h3⟩
    unfold ofV at hv
    rcases List.mem_append.1 hv with q | q
    · exact h2 v q
    · have := List.eq_of_mem_replicate q; omega
  · rw [List.map_map]
    exact (List.map_congr_left fun y hy => (tk_ofV (h y hy) hn).1).symm

theorem ofV_opp {y z : AV} (h : lnV z = (lnV y).opp) : ofV z = (ofV y).opp := by
  have ea : z.a = y.a.map (· * (-1)) := congrArg Ln.a h
  have eb : z.b = y.b * (-1) := congrArg Ln.b h
  have es : z.s = !y.s := congrArg Ln.s h
  unfold ofV Ln.opp Ln.times
  simp only [Ln.mk.injEq]
  refine ⟨?_, eb, es⟩
  rw [ea]; simp

end Go.Proofs.YtbhaoaobhgilkaaGreat

namespace Go.Proofs.YtbhaoaobhgilkaaGreat
open Go.RowKit Go.Sort Go.Shelf

theorem es_zero (w : World) : (zeroValue 98).run Tryz.prog w = .ok (.agg ⟨EsC en0 en0⟩) w := (zero_of_info (show (Tryz.prog.info? 98).map (fun i => (i.zero, i.size)) = some (some (.agg ⟨EsC en0 en0⟩), 8) by kernel_rfl)).1 w

theorem e7_of {e : Int} (h : E7 e) (hn : e ≠ 0) : e = 7 := by rcases h with q | q <;> first | exact absurd q hn | exact q

end Go.Proofs.YtbhaoaobhgilkaaGreat

namespace Go.Proofs.YtbhaoaobhgilkaaGreat
open Go.Sort

def wide (x : Ln) (t : Int) : Ln := ⟨x.a ++ [t], x.b, x.s⟩

theorem take_rep {a : List Int} {n : Nat} (h : a.length = n) (hn : n ≤ 5) : (a ++ List.replicate (6 - a.length) 0).take (n + 1) = a ++ [0] := by
  subst h
  rw [List.take_append, List.take_of_length_le (by omega), show a.length + 1 - a.length = 1 by omega, show 6 - a.length = (5 - a.length) + 1 by omega, List.replicate_succ]
  rfl

theorem tk_wide {n : Nat} (hn : n ≤ 5) {y : AV} (h : y.a.length = n) : tk (n + 1) (ofV y) = wide (lnV y) 0 := by
  unfold tk ofV wide lnV
  simp only [Ln.mk.injEq, and_true]
  exact take_rep h hn

theorem tk_goal {n : Nat} (hn : n ≤ 5) {a : List Int} (h : a.length = n) : tk (n + 1) (goalL n a) = ⟨a ++ [-1], 0, false⟩ := by
  unfold tk goalL
  simp only [Ln.mk.injEq, and_true]
  rw [List.take_set, take_rep h hn]
  subst h
  rw [List.set_append_right _ _ (Nat.le_refl _)]
  simp

theorem tk_back {n : Nat} (hn : n ≤ 5) {a : List Int} (h : a.length = n) : tk (n + 1) ((goalL n a).times (-1)) = ⟨(a ++ [-1]).map (· * (-1)), 0, false⟩ := by
  have e := congrArg Ln.a (tk_goal hn h)
  unfold tk at e
  simp only at e
  unfold tk Ln.times
  simp only [Ln.mk.injEq]
  refine ⟨?_, by unfold goalL; rfl, rfl⟩
  rw [← List.map_take, e]

theorem ls_rows {n : Nat} (hn : n ≤ 5) {L : List AV} {a : List Int} (hL : ∀ y ∈ L, y.a.length = n) (ha : a.length = n) : (infL (L.map ofV) n a).map (tk (n + 1)) = (L.map fun y => wide (lnV y) 0) ++ [⟨a ++ [-1], 0, false⟩, ⟨(a ++ [-1]).map (· * (-1)), 0, false⟩] := by
  unfold infL
  rw [List.map_append, List.map_map]
  congr 1
  · exact List.map_congr_left fun y hy => tk_wide hn (hL y hy)
  · rw [List.map_cons, List.map_cons, List.map_nil, tk_goal hn ha, tk_back hn ha]

theorem ls_dom {n : Nat} (hn : n ≤ 5) {l : List Ln} {a : List Int} (hl : ZrL (fun j => n ≤ j) l) (ha : a.length = n) : ∀ x ∈ infL l n a, DomN (n + 1) x := fun x hx => by
  unfold infL at hx
  have g6 : (goalL n a).a.length = 6 := by unfold goalL; simp; omega
  rcases List.mem_append.1 hx with q | q
  · exact ⟨(hl x q).1, fun j hj => (hl x q).2 j (by omega)⟩
  · simp only [List.mem_cons, List.not_mem_nil, or_false] at q
    rcases q with rfl | rfl
    · exact ⟨g6, fun j hj => by rw [goal_at ha hn, if_neg (by omega), if_neg (by omega)]⟩
    · refine ⟨by unfold Ln.times; simp [g6], fun j hj => ?_⟩
      show gA ((goalL n a).a.map (· * (-1))) j = 0
      rw [gA_scale, goal_at ha hn, if_neg (by omega), if_neg (by omega), Int.zero_mul]

def lsS (l : List Ln) (n k : Nat) : List Ln := (shL l n k).map (sel (pT (n - k) n))

theorem ls_first {n : Nat} (hn : n ≤ 5) {l : List Ln} (hl : ∀ x ∈ l, DomN (n + 1) x) : tidR (n + 1) (l.map (tk (n + 1))) = lsS l n 0 := by
  rw [List.map_congr_left fun x hx => tk_sel hn (hl x hx).1]
  refine (tidy_sel (m := n + 1) (pT_len (Nat.le_refl n) hn) fun x hx => ⟨(hl x hx).1, fun j hj => (hl x hx).2 j ?_⟩).trans rfl
  unfold pT at hj
  simp only [Bool.or_eq_false_iff, decide_eq_false_iff_not] at hj
  omega

theorem ls_step {n i : Nat} (hn : n ≤ 5) (hi : i < n) {l : List Ln} (hl : ∀ x ∈ l, DomN (n + 1) x) : leaveLr (i + 2) (lsS l n (n - 1 - i)) i = lsS l n (n - i) ∧ leaveEr (i + 2) (lsS l n (n - 1 - i)) i = leaveE (shL l n (n - 1 - i)) i := by
  have d := shT hn hl (n - 1 - i) (by omega)
  unfold lsS
  rw [show n - (n - 1 - i) = i + 1 by omega] at d ⊢
  obtain ⟨h1, h2, _⟩ := leave_sel (m := i + 2) (drop_pT hi hn) (by rw [pT_len (by omega) hn]; omega) d
  refine ⟨?_, h2⟩
  rw [h1, show n - (n - i) = i by omega]
  have e : shL l n (n - i) = leaveL (shL l n (n - 1 - i)) i := by
    rw [show n - i = (n - 1 - i) + 1 by omega]
    show leaveL (shL l n (n - 1 - i)) (n - 1 - (n - 1 - i)) = _
    rw [show n - 1 - (n - 1 - i) = i by omega]
  rw [e]

theorem ls_fit {m n : Nat} (hm : m ≤ n) (hn : n ≤ 5) {y : AV} {x : Ln} (h : lnV y = sel (pT m n) x) (hr : Rg 2147483647 x) : FitV (m + 1) y := by
  have ea : y.a = selA (pT m n) x.a := congrArg Ln.a h
  have eb : y.b = x.b := congrArg Ln.b h
  refine ⟨?_, fun v hv => ?_, ?_⟩
  · rw [ea]; unfold selA; rw [List.length_map, pT_len hm hn]
  · rw [ea] at hv
    unfold selA at hv
    obtain ⟨j, hj, rfl⟩ := List.mem_map.1 hv
    have hj6 := List.mem_range.1 (List.mem_filter.1 hj).1
    have := hr.at (t := j) hj6
    omega
  · rw [eb]; exact hr.b

theorem ls_fits {m n : Nat} (hm : m ≤ n) (hn : n ≤ 5) {R : List AV} {l : List Ln} (h : R.map lnV = l.map (sel (pT m n))) (hr : ∀ x ∈ l, Rg 2147483647 x) : ∀ y ∈ R, FitV (m + 1) y := fun y hy => by
  have : lnV y ∈ l.map (sel (pT m n)) := by rw [← h]; exact List.mem_map.2 ⟨y, hy, rfl⟩
  obtain ⟨x, hx, e⟩ := List.mem_map.1 this
  exact ls_fit hm hn e.symm (hr x hx)

theorem sel_end {n : Nat} (hn : n ≤ 5) {x : Ln} (h : x.a.length = 6) : gA (sel (pT 0 n) x).a 0 = gA x.a n := by
  obtain ⟨a, b, s⟩ := x
  obtain ⟨a0, a1, a2, a3, a4, a5, rfl⟩ := six h
  have h1 : n = 0 ∨ n = 1 ∨ n = 2 ∨ n = 3 ∨ n = 4 ∨ n = 5 := by omega
  rcases h1 with rfl | rfl | rfl | rfl | rfl | rfl <;> rfl

theorem end_same {x z : Ln} {n : Nat} (h : gA z.a 0 = gA x.a n) (hb : z.b = x.b) (hs : z.s = x.s) (e : En × En) : fdE z 0 [] = fdE x n [] ∧ rbS z 0 [] e = rbS x n [] e := by
  have f1 : fdE z 0 [] = fdE x n [] := by
    unfold fdE
    rw [h, hb]
    rfl
  have f2 : fdV z 0 [] = fdV x n [] := by
    unfold fdV
    rw [h, hb]
    rfl
  refine ⟨f1, ?_⟩
  unfold rbS
  rw [f2, h, hs]

theorem left_tidy (l : List Ln) (n : Nat) : ∀ k, ∃ l', shL l n k = tidyL l'
  | 0 => ⟨l, rfl⟩
  | k + 1 => ⟨zrs (shL l n k) (n - 1 - k) ++ sums (shL l n k) (n - 1 - k), rfl⟩

theorem ls_zero {n : Nat} (hn : n ≤ 5) {l : List Ln} {a : List Int} (hd : ∀ x ∈ infL l n a, DomN (n + 1) x) (hs : shE (infL l n a) n n = 0) {x : Ln} (hx : x ∈ shL (infL l n a) n n) (h0 : gA x.a n = 0) : infE l n a = 4 := by
  have d := shT hn hd n (Nat.le_refl n) x hx
  rw [Nat.sub_self] at d
  have z : x.a = z6 := (z6_iff d.1).2 fun j hj => by
    by_cases e : j = n
    · subst e; exact h0
    · exact d.2 j (by unfold pT; simp [e])
  obtain ⟨l', hl'⟩ := left_tidy (infL l n a) n n
  have e1 : shL (infL l n a) n n = [bad0] := by
    rw [hl'] at hx ⊢
    exact bad_only hx z
  have e2 : infN l n a = ((en0, en0), 0) := by
    unfold infN
    rw [e1]
    exact enN_none (l := [bad0]) (i := n) (ps := []) (t := 0) (x := bad0) rfl rfl (gA_z6 n)
  unfold infE
  rw [if_neg (fun k => k hs), e2]
  rfl

theorem ls_end7 {l : List Ln} {n : Nat} (hn : n ≤ 5) (hr : ∀ x ∈ l, Rg 2147483647 x) {x : Ln} (hx : x ∈ l) (h0 : gA x.a n ≠ 0) (hf : fdE x n [] ≠ 0) : fdE x n [] = 7 := e7_of (fd_7 (hr x hx) (by simp) (by omega) h0 (fun j hj => by simp at hj)) hf
end Go.Proofs.YtbhaoaobhgilkaaGreat

namespace Go.Proofs.YtbhaoaobhgilkaaGreat
open Go.RowKit Go.Sort Go.Shelf

end Go.Proofs.YtbhaoaobhgilkaaGreat

namespace Go.Proofs.YtbhaoaobhgilkaaGreat
open Go.RowKit Go.Sort Go.Shelf

theorem ansE_two (n : Int) (A B : List AV) (er : Int) : ansE n [A, B] er = if chkP n A = 0 then (if chkP n B = 0 then er else chkP n B) else chkP n A := by
  by_cases h1 : chkP n A = 0
  · rw [if_pos h1]
    by_cases h2 : chkP n B = 0
    · rw [if_pos h2]
      exact ansE_none (fun L hL => by
        simp only [List.mem_cons, List.not_mem_nil, or_false] at hL
        rcases hL with rfl | rfl <;> assumption)
    · rw [if_neg h2]
      exact ansE_at (t := 1) (G := [A, B]) (by simp) (fun i q h => by
        have : i = 0 := by omega
        subst this; exact h1) h2
  · rw [if_neg h1]
    exact ansE_at (t := 0) (G := [A, B]) (by simp) (fun i q h => by omega) h1

end Go.Proofs.YtbhaoaobhgilkaaGreat

namespace Go.Proofs.YtbhaoaobhgilkaaGreat
open Go.RowKit Go.Sort Go.Shelf

end Go.Proofs.YtbhaoaobhgilkaaGreat
