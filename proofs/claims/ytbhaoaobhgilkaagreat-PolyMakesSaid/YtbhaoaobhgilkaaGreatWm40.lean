/- Plain mathematics: the first n coordinates alone; a tidy list is tidy; the lists that are left one after the other.; Plain mathematics: some of the six coordinates alone; what the reference leaves of such lines. -/
import Derived.Test.YtbhaoaobhgilkaaGreatWm30
import Derived.Test.YtbhaoaobhgilkaaGreatWm32
import Derived.Test.YtbhaoaobhgilkaaGreatWm13

namespace Go.Proofs.YtbhaoaobhgilkaaGreat
open Go.Sort

theorem dv_tk {n : Nat} {x : Ln} (h : DomN n x) : (tk n x).dvR = x.dv := by
  obtain ⟨h1, h3⟩ := h
  show gcdL (x.b.natAbs : Int) (x.a.take n) = gcdL x.b x.a
  rw [gcdL_abs, gcdL_take _ _ _ h3]
  have : 0 ≤ gcdL x.b x.a := by
    match x.a, h1 with
    | v :: r, _ => exact gcdL_nn (b := (Int.gcd x.b v : Int)) (by omega) r
  omega

theorem low_tk {n : Nat} {x : Ln} (h : DomN n x) : (tk n x).lowR = tk n x.low := by
  unfold Ln.lowR Ln.low
  rw [dv_tk h]
  split
  · rfl
  · unfold tk
    simp only [Ln.mk.injEq, and_true]
    rw [← List.map_take]

theorem low_domN {n : Nat} {x : Ln} (h : DomN n x) : DomN n x.low := by
  unfold Ln.low
  split
  · exact h
  · obtain ⟨h1, h3⟩ := h
    have g : ∀ j, gA x.a j = 0 → gA (x.a.map (·.tdiv x.dv)) j = 0 := fun j hj => by
      by_cases q : j < x.a.length
      · rw [gA_map _ q, hj]; simp
      · unfold gA; rw [List.getD_eq_getElem?_getD, List.getElem?_eq_none (by simp; omega)]; rfl
    exact ⟨by simp [h1], fun j hj => g j (h3 j hj)⟩

theorem z6_iff {a : List Int} (h1 : a.length = 6) : a = z6 ↔ ∀ j, j < 6 → gA a j = 0 := by
  constructor
  · intro e j _
    rw [e]; exact gA_z6 j
  · intro e
    refine gA_ext (by rw [h1]; rfl) fun j hj => ?_
    rw [e j (by omega), gA_z6]

theorem zero_tk {n : Nat} {x : Ln} (h : DomN n x) : zeroA (tk n x) = decide (x.a = z6) := by
  obtain ⟨h1, h3⟩ := h
  rw [Bool.eq_iff_iff, decide_eq_true_eq, z6_iff h1]
  unfold zeroA
  rw [List.all_eq_true]
  constructor
  · intro h j hj
    by_cases hn : n ≤ j
    · exact h3 j hn
    · have key : gA x.a j ∈ x.a.take n := by
        rw [List.mem_take_iff_getElem]
        exact ⟨j, by omega, by simp [gA, show j < x.a.length by omega]⟩
      have := h _ key
      simpa using this
  · intro h v hv
    have hv2 : v ∈ x.a := List.mem_of_mem_take hv
    obtain ⟨j, hj, rfl⟩ := List.getElem_of_mem hv2
    have := h j (by omega)
    simp [gA, hj] at this
    simpa using this

theorem keep_tk {n : Nat} {l : List Ln} (h : ∀ x ∈ l, DomN n x) : keepR (l.map (tk n)) = (keepL l).map (tk n) := by
  unfold keepR keepL
  induction l with
  | nil => rfl
  | cons x r ih =>
    have hx := h x (by simp)
    have ih := ih (fun y hy => h y (by simp [hy]))
    simp only [List.map_cons, List.filter_cons, low_tk hx, zero_tk (low_domN hx)]
    by_cases c : x.low.a = z6
    · simp [c]; simpa using ih
    · simp [c]; simpa using ih

theorem bad_tk {n : Nat} {l : List Ln} (h : ∀ x ∈ l, DomN n x) : badR (l.map (tk n)) = badB l := by
  unfold badR badB
  induction l with
  | nil => rfl
  | cons x r ih =>
    have hx := h x (by simp)
    have ih := ih (fun y hy => h y (by simp [hy]))
    have hl : (tk n x.low).lim = x.low.lim := rfl
    simp only [List.map_cons, List.any_cons, low_tk hx, zero_tk (low_domN hx), hl, ih]

theorem tk_keeps (n : Nat) : Keeps (tk n) (DomN n) where
  ord x y hx hy := by
    show cmpL (x.a.take n) (y.a.take n) = cmpL x.a y.a
    rw [cmpL_take n (by rw [hx.1, hy.1]) (fun j hj => by rw [hx.2 j hj, hy.2 j hj])]
  num _ := rfl
  str _ := rfl

theorem tidy_tk {n : Nat} (hn : n ≤ 6) {l : List Ln} (h : ∀ x ∈ l, DomN n x) : tidR n (l.map (tk n)) = (tidyL l).map (tk n) := by
  unfold tidR tidyL
  rw [bad_tk h]
  split
  · simp only [List.map_cons, List.map_nil, List.cons.injEq, and_true]
    unfold tk bad0 z6
    simp only [Ln.mk.injEq, and_true]
    refine gA_ext (by simp; omega) fun j hj => ?_
    have hj : j < n := by simpa using hj
    have e1 : gA (List.replicate n (0 : Int)) j = 0 := by simp [gA, hj]
    rw [e1, gA_take hj]
    exact (gA_z6 j).symm
  · rw [keep_tk h, cpt_ins]
    refine insL_map (tk_keeps n) (fun x hx => ?_)
    obtain ⟨y, hy, rfl⟩ := keepL_mem hx
    exact low_domN (h y hy)

theorem tk_er (i : Nat) (x : Ln) : erL (i + 1) i x = tk i x := by
  unfold erL tk chW
  simp only [Ln.mk.injEq, and_true]
  refine gA_ext ?_ fun j hj => ?_
  · rw [List.length_take]
    by_cases h : i < x.a.length
    · rw [List.length_eraseIdx_of_lt (by simp; omega)]; simp; omega
    · rw [List.length_eraseIdx]; simp; split <;> omega
  · unfold gA
    rw [List.getD_eq_getElem?_getD, List.getD_eq_getElem?_getD, List.getElem?_eraseIdx]
    by_cases q : j < i
    · rw [if_pos q, List.getElem?_take_of_lt (by omega), List.getElem?_take_of_lt q]
    · rw [if_neg q, List.getElem?_eq_none (by simp; omega), List.getElem?_eq_none (by simp; omega)]

theorem gcdL_mul {k : Int} (hk : 0 < k) : ∀ (a : List Int) (b : Int), gcdL (b * k) (a.map (· * k)) = gcdL b a * k
  | [], b => rfl
  | v :: r, b => by
    show gcdL (Int.gcd (b * k) (v * k) : Int) (r.map (· * k)) = gcdL (Int.gcd b v : Int) r * k
    have e : (Int.gcd (b * k) (v * k) : Int) = (Int.gcd b v : Int) * k := by
      rw [Int.gcd_mul_right]
      have : ((k.natAbs : Nat) : Int) = k := by omega
      rw [Int.natCast_mul, this]
    rw [e, gcdL_mul hk r]

theorem low_dv {x : Ln} (h : x.a ≠ []) (hd : x.dv ≠ 0) : x.low.dv = 1 := by
  have hn : 0 ≤ x.dv := by
    unfold Ln.dv
    match q : x.a, h with
    | v :: r, _ => exact gcdL_nn (b := (Int.gcd x.b v : Int)) (by omega) r
  have hp : 0 < x.dv := by omega
  obtain ⟨d1, d2⟩ := gcdL_dvd x.a x.b
  have ea : (x.a.map (·.tdiv x.dv)).map (· * x.dv) = x.a := by
    rw [List.map_map]
    refine (List.map_congr_left fun v hv => ?_).trans (List.map_id x.a)
    exact Int.tdiv_mul_cancel (d2 v hv)
  have eb : x.b.tdiv x.dv * x.dv = x.b := Int.tdiv_mul_cancel d1
  have key := gcdL_mul hp (x.a.map (·.tdiv x.dv)) (x.b.tdiv x.dv)
  rw [ea, eb] at key
  have key : x.dv = x.low.dv * x.dv := by
    have e : x.low = ⟨x.a.map (·.tdiv x.dv), x.b.tdiv x.dv, x.s⟩ := by unfold Ln.low; rw [if_neg hd]
    rw [e]
    exact key
  have h1 : (x.low.dv - 1) * x.dv = 0 := by grind
  rcases Int.mul_eq_zero.1 h1 with q | q
  · omega
  · exact absurd q hd

theorem low_low {x : Ln} (h : x.a ≠ []) : x.low.low = x.low := by
  by_cases hd : x.dv = 0
  · have e : x.low = x := by unfold Ln.low; rw [if_pos hd]
    rw [e, e]
  · have h1 := low_dv h hd
    generalize x.low = y at *
    unfold Ln.low
    rw [h1, if_neg (by decide)]
    have : y.a.map (·.tdiv 1) = y.a := by
      refine (List.map_congr_left fun v _ => ?_).trans (List.map_id y.a)
      exact Int.tdiv_one v
    rw [this, Int.tdiv_one]

theorem srt_inj : ∀ {l : List Ln}, Srt l → ∀ {y z}, y ∈ l → z ∈ l → y.a = z.a → y = z
  | [], _, y, _, hy, _, _ => by simp at hy
  | x :: r, h, y, z, hy, hz, e => by
    obtain ⟨h1, h2⟩ := List.pairwise_cons.1 h
    rcases List.mem_cons.1 hy with rfl | hy'
    · rcases List.mem_cons.1 hz with rfl | hz'
      · rfl
      · exact absurd e (lt_ne (h1 z hz'))
    · rcases List.mem_cons.1 hz with rfl | hz'
      · exact absurd e.symm (lt_ne (h1 y hy'))
      · exact srt_inj (l := r) h2 hy' hz' e

theorem insL_srt {l : List Ln} (h : Srt l) : insL l = l := by
  refine srt_eq (insL_ok l).1 h fun z => ?_
  rw [(insL_ok l).2 z]
  exact ⟨fun q => q.1, fun q => ⟨q, fun y hy e => by rw [srt_inj h hy q e]; exact Int.le_refl _⟩⟩

theorem bad_self : tidyL [bad0] = [bad0] := by decide +kernel

theorem tidy_tidy {l : List Ln} (h6 : ∀ x ∈ l, x.a.length = 6) : tidyL (tidyL l) = tidyL l := by
  by_cases hb : badB l = true
  · have e : tidyL l = [bad0] := by unfold tidyL; rw [if_pos hb]
    rw [e]; exact bad_self
  · have e : tidyL l = insL (keepL l) := by unfold tidyL; rw [if_neg hb, cpt_ins]
    rw [e]
    have hk : ∀ z ∈ insL (keepL l), z.low = z ∧ z.a ≠ z6 := fun z hz => by
      have hz := (((insL_ok (keepL l)).2 z).1 hz).1
      unfold keepL at hz
      obtain ⟨q1, q2⟩ := List.mem_filter.1 hz
      obtain ⟨y, hy, rfl⟩ := List.mem_map.1 q1
      exact ⟨low_low (ne_nil (h6 y hy)), by simpa using q2⟩
    have b0 : badB (insL (keepL l)) = false := by
      unfold badB
      rw [List.any_eq_false]
      intro z hz
      obtain ⟨q1, q2⟩ := hk z hz
      rw [q1]; simp [q2]
    have k0 : keepL (insL (keepL l)) = insL (keepL l) := by
      unfold keepL
      have e1 : (insL (keepL l)).map Ln.low = insL (keepL l) := (List.map_congr_left fun z hz => (hk z hz).1).trans (List.map_id _)
      have e2 : ∀ L : List Ln, (∀ z ∈ L, z.a ≠ z6) → L.filter (fun x => decide (x.a ≠ z6)) = L := fun L hL => List.filter_eq_self.2 fun z hz => by simpa using hL z hz
      unfold keepL at e1 hk
      rw [e1]
      exact e2 _ fun z hz => (hk z hz).2
    unfold tidyL
    rw [b0, if_neg (by decide), k0, cpt_ins, insL_srt (insL_ok _).1]

def dnL (l : List Ln) (n : Nat) : Nat → List Ln
  | 0 => l
  | k + 1 => leaveL (dnL l n k) (n - 1 - k)

def dnE (l : List Ln) (n : Nat) : Nat → Int
  | 0 => 0
  | k + 1 => if dnE l n k = 0 then leaveE (dnL l n k) (n - 1 - k) else dnE l n k

theorem dnE_stop {l : List Ln} {n k : Nat} (h : dnE l n k ≠ 0) : ∀ j, dnE l n (k + j) = dnE l n k
  | 0 => rfl
  | j + 1 => by
    show (if dnE l n (k + j) = 0 then _ else dnE l n (k + j)) = _
    rw [dnE_stop h j, if_neg h]

theorem dn_sh (l : List Ln) (n : Nat) : ∀ k, dnL (tidyL l) n k = shL l n k ∧ dnE (tidyL l) n k = shE l n k
  | 0 => ⟨rfl, rfl⟩
  | k + 1 => by
    obtain ⟨h1, h2⟩ := dn_sh l n k
    refine ⟨?_, ?_⟩
    · show leaveL (dnL (tidyL l) n k) (n - 1 - k) = leaveL (shL l n k) (n - 1 - k)
      rw [h1]
    · show (if dnE (tidyL l) n k = 0 then leaveE (dnL (tidyL l) n k) (n - 1 - k) else dnE (tidyL l) n k) = (if shE l n k = 0 then leaveE (shL l n k) (n - 1 - k) else shE l n k)
      rw [h1, h2]

theorem sh_twice {l : List Ln} (h6 : ∀ x ∈ l, x.a.length = 6) (n : Nat) : ∀ k, shL (tidyL l) n k = shL l n k ∧ shE (tidyL l) n k = shE l n k
  | 0 => ⟨tidy_tidy h6, rfl⟩
  | k + 1 => by
    obtain ⟨h1, h2⟩ := sh_twice h6 n k
    refine ⟨?_, ?_⟩
    · show leaveL (shL (tidyL l) n k) (n - 1 - k) = leaveL (shL l n k) (n - 1 - k)
      rw [h1]
    · show (if shE (tidyL l) n k = 0 then leaveE (shL (tidyL l) n k) (n - 1 - k) else shE (tidyL l) n k) = (if shE l n k = 0 then leaveE (shL l n k) (n - 1 - k) else shE l n k)
      rw [h1, h2]

theorem leave_domN {l : List Ln} {i : Nat} (h : ∀ x ∈ l, DomN (i + 1) x) : ∀ x ∈ leaveL l i, DomN i x := fun x hx => by
  have z := leave_zr (J := fun j => i + 1 ≤ j) (l := l) (fun y hy => ⟨(h y hy).1, fun j hj => (h y hy).2 j hj⟩) i x hx
  exact ⟨z.1, fun j hj => z.2 j (by omega)⟩

theorem dn_ok {l : List Ln} {n : Nat} (hl : l.length ≤ 2000) (hd : ∀ x ∈ l, DomN n x) (hg : ∀ x ∈ l, Rg 2147483647 x) : ∀ k, k ≤ n → dnE l n k = 0 → (dnL l n k).length ≤ 2000 ∧ (∀ x ∈ dnL l n k, DomN (n - k) x) ∧ ∀ x ∈ dnL l n k, Rg 2147483647 x
  | 0, _, _ => ⟨hl, hd, hg⟩
  | k + 1, hk, h => by
    have h' : (if dnE l n k = 0 then leaveE (dnL l n k) (n - 1 - k) else dnE l n k) = 0 := h
    split at h'
    · rename_i q
      obtain ⟨i1, i2, i3⟩ := dn_ok hl hd hg k (by omega) q
      refine ⟨?_, ?_, leaveL_rg i3 h'⟩
      · show (leaveL _ _).length ≤ 2000
        unfold leaveL
        exact tidyL_len (by have := leaveE_len h'; omega) (by omega)
      · have e : n - (k + 1) = n - 1 - k := by omega
        rw [e]
        refine leave_domN fun x hx => ?_
        have := i2 x hx
        rwa [show n - 1 - k + 1 = n - k by omega]
    · rename_i q; exact absurd h' q
end Go.Proofs.YtbhaoaobhgilkaaGreat

namespace Go.Proofs.YtbhaoaobhgilkaaGreat
open Go.Sort

def selA (p : Nat → Bool) (a : List Int) : List Int := ((List.range 6).filter p).map (gA a)

def sel (p : Nat → Bool) (x : Ln) : Ln := ⟨selA p x.a, x.b, x.s⟩

def Dom (p : Nat → Bool) (x : Ln) : Prop := x.a.length = 6 ∧ ∀ j, p j = false → gA x.a j = 0

theorem gA_range {f : Nat → Int} {j : Nat} (h : j < 6) : gA ((List.range 6).map f) j = f j := by
  unfold gA
  rw [List.getD_eq_getElem?_getD, List.getElem?_map, List.getElem?_range h]
  rfl

theorem a_range {a : List Int} (h : a.length = 6) : (List.range 6).map (gA a) = a := gA_ext (by simp [h]) fun j hj => gA_range (by simpa using hj)

theorem gcd_sel (p : Nat → Bool) (f : Nat → Int) : ∀ (r : List Nat) (b : Int), (∀ j ∈ r, p j = false → f j = 0) → (gcdL b ((r.filter p).map f)).natAbs = (gcdL b (r.map f)).natAbs
  | [], b, _ => rfl
  | j :: r, b, h => by
    have ih := fun b => gcd_sel p f r b (fun k hk => h k (by simp [hk]))
    cases hp : p j
    · have h0 := h j (by simp) hp
      rw [List.filter_cons_of_neg (by simp [hp]), ih b]
      show _ = (gcdL (Int.gcd b (f j) : Int) (r.map f)).natAbs
      rw [h0]
      have e : (Int.gcd b 0 : Int) = (b.natAbs : Int) := by simp
      rw [e, gcdL_abs]
      simp
    · rw [List.filter_cons_of_pos hp]
      show (gcdL (Int.gcd b (f j) : Int) ((r.filter p).map f)).natAbs = (gcdL (Int.gcd b (f j) : Int) (r.map f)).natAbs
      exact ih _

theorem dv_sel {p : Nat → Bool} {x : Ln} (h : Dom p x) : (sel p x).dvR = x.dv := by
  obtain ⟨h1, h3⟩ := h
  have e := gcd_sel p (gA x.a) (List.range 6) x.b (fun j _ hj => h3 j hj)
  rw [a_range h1] at e
  show gcdL (x.b.natAbs : Int) (selA p x.a) = gcdL x.b x.a
  rw [gcdL_abs]
  unfold selA
  rw [e]
  have : 0 ≤ gcdL x.b x.a := by
    match x.a, h1 with
    | v :: r, _ => exact gcdL_nn (b := (Int.gcd x.b v : Int)) (by omega) r
  omega

theorem selA_map {p : Nat → Bool} {f : Int → Int} {a : List Int} (h : a.length = 6) : selA p (a.map f) = (selA p a).map f := by
  unfold selA
  rw [List.map_map]
  refine List.map_congr_left fun j hj => ?_
  have hj6 : j < 6 := List.mem_range.1 (List.mem_filter.1 hj).1
  exact gA_map f (by omega)

theorem low_sel {p : Nat → Bool} {x : Ln} (h : Dom p x) : (sel p x).lowR = sel p x.low := by
  unfold Ln.lowR Ln.low
  rw [dv_sel h]
  split
  · rfl
  · unfold sel
    simp only [Ln.mk.injEq, and_true]
    rw [selA_map h.1]

theorem low_domS {p : Nat → Bool} {x : Ln} (h : Dom p x) : Dom p x.low := by
  unfold Ln.low
  split
  · exact h
  · obtain ⟨h1, h3⟩ := h
    have g : ∀ j, gA x.a j = 0 → gA (x.a.map (·.tdiv x.dv)) j = 0 := fun j hj => by
      by_cases q : j < x.a.length
      · rw [gA_map _ q, hj]; simp
      · unfold gA; rw [List.getD_eq_getElem?_getD, List.getElem?_eq_none (by simp; omega)]; rfl
    exact ⟨by simp [h1], fun j hj => g j (h3 j hj)⟩

theorem zero_sel {p : Nat → Bool} {x : Ln} (h : Dom p x) : zeroA (sel p x) = decide (x.a = z6) := by
  obtain ⟨h1, h3⟩ := h
  rw [Bool.eq_iff_iff, decide_eq_true_eq, z6_iff h1]
  unfold zeroA sel selA
  simp only [List.all_eq_true, List.mem_map, List.mem_filter, List.mem_range, beq_iff_eq]
  constructor
  · intro h j hj
    cases hp : p j
    · exact h3 j hp
    · exact h _ ⟨j, ⟨hj, hp⟩, rfl⟩
  · rintro h v ⟨j, ⟨hj, _⟩, rfl⟩
    exact h j hj

theorem keep_sel {p : Nat → Bool} {l : List Ln} (h : ∀ x ∈ l, Dom p x) : keepR (l.map (sel p)) = (keepL l).map (sel p) := by
  unfold keepR keepL
  induction l with
  | nil => rfl
  | cons x r ih =>
    have hx := h x (by simp)
    have ih := ih (fun y hy => h y (by simp [hy]))
    simp only [List.map_cons, List.filter_cons, low_sel hx, zero_sel (low_domS hx)]
    by_cases c : x.low.a = z6
    · simp [c]; simpa using ih
    · simp [c]; simpa using ih

theorem bad_sel {p : Nat → Bool} {l : List Ln} (h : ∀ x ∈ l, Dom p x) : badR (l.map (sel p)) = badB l := by
  unfold badR badB
  induction l with
  | nil => rfl
  | cons x r ih =>
    have hx := h x (by simp)
    have ih := ih (fun y hy => h y (by simp [hy]))
    have hl : (sel p x.low).lim = x.low.lim := rfl
    simp only [List.map_cons, List.any_cons, low_sel hx, zero_sel (low_domS hx), hl, ih]

theorem cmp_sel (p : Nat → Bool) (f g : Nat → Int) : ∀ r : List Nat, (∀ j ∈ r, p j = false → f j = g j) → cmpL ((r.filter p).map f) ((r.filter p).map g) = cmpL (r.map f) (r.map g)
  | [], _ => rfl
  | j :: r, h => by
    have ih := cmp_sel p f g r (fun k hk => h k (by simp [hk]))
    cases hp : p j
    · rw [List.filter_cons_of_neg (by simp [hp]), ih]
      show _ = (if cmpI (f j) (g j) = 0 then cmpL (r.map f) (r.map g) else cmpI (f j) (g j))
      rw [h j (by simp) hp, if_pos (cmpI_zero.2 rfl)]
    · rw [List.filter_cons_of_pos hp]
      show (if cmpI (f j) (g j) = 0 then cmpL ((r.filter p).map f) ((r.filter p).map g) else cmpI (f j) (g j)) = (if cmpI (f j) (g j) = 0 then cmpL (r.map f) (r.map g) else cmpI (f j) (g j))
      rw [ih]

theorem sel_keeps (p : Nat → Bool) : Keeps (sel p) (Dom p) where
  ord x y hx hy := by
    show cmpL (selA p x.a) (selA p y.a) = cmpL x.a y.a
    unfold selA
    rw [cmp_sel p _ _ _ (fun j _ hj => by rw [hx.2 j hj, hy.2 j hj]), a_range hx.1, a_range hy.1]
  num _ := rfl
  str _ := rfl

theorem sel_bad {p : Nat → Bool} {m : Nat} (hm : ((List.range 6).filter p).length = m) : sel p bad0 = ⟨List.replicate m 0, 0, true⟩ := by
  unfold sel bad0
  simp only [Ln.mk.injEq, and_true]
  unfold selA
  rw [List.eq_replicate_iff]
  refine ⟨by simpa using hm, fun b hb => ?_⟩
  obtain ⟨j, _, rfl⟩ := List.mem_map.1 hb
  exact gA_z6 j

theorem tidy_sel {p : Nat → Bool} {m : Nat} (hm : ((List.range 6).filter p).length = m) {l : List Ln} (h : ∀ x ∈ l, Dom p x) : tidR m (l.map (sel p)) = (tidyL l).map (sel p) := by
  unfold tidR tidyL
  rw [bad_sel h]
  split
  · rw [List.map_cons, List.map_nil, sel_bad hm]
  · rw [keep_sel h, cpt_ins]
    refine insL_map (sel_keeps p) (fun x hx => ?_)
    obtain ⟨y, hy, rfl⟩ := keepL_mem hx
    exact low_domS (h y hy)

theorem tidy_domS {p : Nat → Bool} {l : List Ln} (h : ∀ x ∈ l, Dom p x) : ∀ x ∈ tidyL l, Dom p x := fun x hx => tidy_zr (J := fun j => p j = false) (l := l) (fun y hy => ⟨(h y hy).1, (h y hy).2⟩) x hx

theorem zip_same {α : Type _} (h : Int → Int → Int) (f g : α → Int) : ∀ r : List α, List.zipWith h (r.map f) (r.map g) = r.map fun j => h (f j) (g j)
  | [] => rfl
  | j :: r => by
    show h (f j) (g j) :: List.zipWith h (r.map f) (r.map g) = _
    rw [zip_same h f g r]
    rfl

theorem comb_sel {p : Nat → Bool} {x y : Ln} (hx : x.a.length = 6) (hy : y.a.length = 6) (c d : Int) : combR c (sel p x) d (sel p y) = sel p ((x.times c).plus (y.times d)) := by
  have e : selA p ((x.times c).plus (y.times d)).a = List.zipWith (fun u v => c * u + d * v) (selA p x.a) (selA p y.a) := by
    unfold selA
    rw [zip_same]
    refine List.map_congr_left fun j _ => ?_
    rw [comb_at hx hy, Int.mul_comm c, Int.mul_comm d]
  unfold combR sel
  rw [e]
  simp only [Ln.mk.injEq, true_and]
  unfold Ln.plus Ln.times
  exact ⟨by simp only; rw [Int.mul_comm c, Int.mul_comm d], rfl⟩

structure Drop (p p' : Nat → Bool) (k i : Nat) : Prop where
  at_ : ∀ a : List Int, a.length = 6 → gA (selA p a) k = gA a i
  er : ∀ a : List Int, a.length = 6 → (selA p a).eraseIdx k = selA p' a
  lt : i < 6
  sub : ∀ j, p' j = false → j = i ∨ p j = false

theorem comb_domS {p p' : Nat → Bool} {k i : Nat} (hd : Drop p p' k i) {x y : Ln} (hx : Dom p x) (hy : Dom p y) : Dom p' ((x.times ((-(gA y.a i)).tdiv (sumG x y i))).plus (y.times ((gA x.a i).tdiv (sumG x y i)))) := by
  have c6 := comb_dom (n := 6) hd.lt (x := x) (y := y) ⟨hx.1, fun j hj => gA_out (by have := hx.1; omega)⟩ ⟨hy.1, fun j hj => gA_out (by have := hy.1; omega)⟩
  refine ⟨c6.1, fun j hj => ?_⟩
  rcases hd.sub j hj with rfl | h
  · exact c6.2.1
  · rw [comb_at hx.1 hy.1, hx.2 j h, hy.2 j h]; simp

theorem sum_sel {p p' : Nat → Bool} {k i : Nat} (hd : Drop p p' k i) {x y : Ln} (hx : Dom p x) (hy : Dom p y) : sumRf (sel p x) (sel p y) k = sel p' (sumL x y i) ∧ Dom p' (sumL x y i) := by
  have dm := comb_domS hd hx hy
  refine ⟨?_, low_domS dm⟩
  unfold sumRf sumL
  have e1 : gA (sel p x).a k = gA x.a i := hd.at_ x.a hx.1
  have e2 : gA (sel p y).a k = gA y.a i := hd.at_ y.a hy.1
  have e3 : ∀ z : Ln, z.a.length = 6 → shR k (sel p z) = sel p' z := fun z hz => by
    unfold shR sel
    simp only [Ln.mk.injEq, and_true]
    exact hd.er z.a hz
  have hg : Int.gcd (-(gA y.a i)) (gA x.a i) = Int.gcd (gA x.a i) (gA y.a i) := by rw [Int.gcd_comm]; simp [Int.gcd]
  rw [e1, e2, comb_sel hx.1 hy.1, hg]
  exact (congrArg Ln.lowR (e3 _ dm.1)).trans (low_sel dm)

theorem part_sel {p p' : Nat → Bool} {k i : Nat} (hd : Drop p p' k i) {l : List Ln} (hl : ∀ x ∈ l, Dom p x) : ups (l.map (sel p)) k = (ups l i).map (sel p) ∧ dns (l.map (sel p)) k = (dns l i).map (sel p) ∧ zrs (l.map (sel p)) k = (zrs l i).map (sel p) := by
  have e : ∀ x ∈ l, gA (sel p x).a k = gA x.a i := fun x hx => hd.at_ x.a (hl x hx).1
  unfold ups dns zrs
  refine ⟨?_, ?_, ?_⟩ <;> (rw [List.filter_map]; congr 1; refine List.filter_congr fun x hx => ?_; simp only [Function.comp]; rw [e x hx])

theorem leave_sel {p p' : Nat → Bool} {k i m : Nat} (hd : Drop p p' k i) (hm : ((List.range 6).filter p').length = m - 1) {l : List Ln} (hl : ∀ x ∈ l, Dom p x) :
    leaveLr m (l.map (sel p)) k = (leaveL l i).map (sel p') ∧ leaveEr m (l.map (sel p)) k = leaveE l i ∧ ∀ x ∈ leaveL l i, Dom p' x := by
  obtain ⟨u1, u2, u3⟩ := part_sel hd hl
  have hpr : ∀ q ∈ prs (ups l i) (dns l i), Dom p q.1 ∧ Dom p q.2 := fun q h => by
    obtain ⟨h1, h2⟩ := mem_prs h
    exact ⟨hl _ (List.mem_filter.1 h1).1, hl _ (List.mem_filter.1 h2).1⟩
  have hs : sumsR (l.map (sel p)) k = (sums l i).map (sel p') := by
    unfold sumsR sums
    rw [u1, u2, prs_map, List.map_map, List.map_map]
    exact List.map_congr_left fun q h => (sum_sel hd (hpr q h).1 (hpr q h).2).1
  have hsd : ∀ x ∈ sums l i, Dom p' x := fun x hx => by
    unfold sums at hx
    obtain ⟨q, h, rfl⟩ := List.mem_map.1 hx
    exact (sum_sel hd (hpr q h).1 (hpr q h).2).2
  have hzd : ∀ x ∈ zrs l i, Dom p' x := fun x hx => by
    obtain ⟨h1, h2⟩ := List.mem_filter.1 hx
    have hx := hl x h1
    refine ⟨hx.1, fun j hj => ?_⟩
    rcases hd.sub j hj with rfl | h
    · simpa using h2
    · exact hx.2 j h
  have hz : (zrs (l.map (sel p)) k).map (shR k) = (zrs l i).map (sel p') := by
    rw [u3, List.map_map]
    refine List.map_congr_left fun x hx => ?_
    unfold shR sel
    simp only [Function.comp, Ln.mk.injEq, and_true]
    exact hd.er x.a (hl x (List.mem_filter.1 hx).1).1
  have hall : ∀ x ∈ zrs l i ++ sums l i, Dom p' x := fun x hx => by
    rcases List.mem_append.1 hx with h | h
    · exact hzd x h
    · exact hsd x h
  refine ⟨?_, ?_, fun x hx => tidy_domS hall x hx⟩
  · unfold leaveLr leaveL
    rw [hz, hs, ← List.map_append, tidy_sel hm hall]
  · unfold leaveEr leaveE
    rw [u1, u2, u3, List.length_map, List.length_map, List.length_map, hs, List.all_map]
    have : (sums l i).all (validL (m - 1) ∘ sel p') = (sums l i).all Ln.fits := by
      have key : ∀ x ∈ sums l i, validL (m - 1) (sel p' x) = x.fits := fun x hx => by
        obtain ⟨x1, x2⟩ := hsd x hx
        have hlen : (sel p' x).a.length = m - 1 := by
          show (((List.range 6).filter p').map (gA x.a)).length = m - 1
          rw [List.length_map]; exact hm
        unfold validL
        rw [hlen, decide_eq_true rfl, Bool.true_and]
        show ((selA p' x.a).all fitB && fitB x.b) = (x.a.all fitB && fitB x.b)
        congr 1
        rw [Bool.eq_iff_iff, List.all_eq_true, List.all_eq_true]
        constructor
        · intro h v hv
          obtain ⟨j, hj, rfl⟩ := List.getElem_of_mem hv
          have ev : gA x.a j = x.a[j] := by simp [gA, hj]
          rw [← ev]
          cases hp : p' j
          · rw [x2 j hp]; decide
          · exact h _ (List.mem_map.2 ⟨j, List.mem_filter.2 ⟨List.mem_range.2 (by omega), hp⟩, rfl⟩)
        · intro h v hv
          obtain ⟨j, hj, rfl⟩ := List.mem_map.1 hv
          have hj6 := List.mem_range.1 (List.mem_filter.1 hj).1
          exact h _ (gA_mem (by omega))
      rw [Bool.eq_iff_iff, List.all_eq_true, List.all_eq_true]
      constructor <;> intro h x hx
      · have := h x hx; rwa [Function.comp, key x hx] at this
      · rw [Function.comp, key x hx]; exact h x hx
    rw [this]

def pT (m n : Nat) : Nat → Bool := fun j => decide (j < m) || decide (j = n)

theorem pT_len {m n : Nat} (hm : m ≤ n) (hn : n ≤ 5) : ((List.range 6).filter (pT m n)).length = m + 1 := by
  have h1 : n = 0 ∨ n = 1 ∨ n = 2 ∨ n = 3 ∨ n = 4 ∨ n = 5 := by omega
  have h2 : m = 0 ∨ m = 1 ∨ m = 2 ∨ m = 3 ∨ m = 4 ∨ m = 5 := by omega
  rcases h1 with rfl | rfl | rfl | rfl | rfl | rfl <;> rcases h2 with rfl | rfl | rfl | rfl | rfl | rfl <;> first | rfl | (exfalso; omega)

theorem six {a : List Int} (h : a.length = 6) : ∃ a0 a1 a2 a3 a4 a5, a = [a0, a1, a2, a3, a4, a5] := by
  match a, h with
  | [a0, a1, a2, a3, a4, a5], _ => exact ⟨a0, a1, a2, a3, a4, a5, rfl⟩

theorem drop_pT {i n : Nat} (hi : i < n) (hn : n ≤ 5) : Drop (pT (i + 1) n) (pT i n) i i := by
  refine ⟨fun a ha => ?_, fun a ha => ?_, by omega, fun j hj => ?_⟩
  · obtain ⟨a0, a1, a2, a3, a4, a5, rfl⟩ := six ha
    have h1 : n = 0 ∨ n = 1 ∨ n = 2 ∨ n = 3 ∨ n = 4 ∨ n = 5 := by omega
    have h2 : i = 0 ∨ i = 1 ∨ i = 2 ∨ i = 3 ∨ i = 4 := by omega
    rcases h1 with rfl | rfl | rfl | rfl | rfl | rfl <;> rcases h2 with rfl | rfl | rfl | rfl | rfl <;> first | rfl | (exfalso; omega)
  · obtain ⟨a0, a1, a2, a3, a4, a5, rfl⟩ := six ha
    have h1 : n = 0 ∨ n = 1 ∨ n = 2 ∨ n = 3 ∨ n = 4 ∨ n = 5 := by omega
    have h2 : i = 0 ∨ i = 1 ∨ i = 2 ∨ i = 3 ∨ i = 4 := by omega
    rcases h1 with rfl | rfl | rfl | rfl | rfl | rfl <;> rcases h2 with rfl | rfl | rfl | rfl | rfl <;> first | rfl | (exfalso; omega)
  · unfold pT at hj ⊢
    simp only [Bool.or_eq_false_iff, decide_eq_false_iff_not] at hj ⊢
    omega

theorem tk_sel {n : Nat} (hn : n ≤ 5) {x : Ln} (h : x.a.length = 6) : tk (n + 1) x = sel (pT n n) x := by
  obtain ⟨a, b, s⟩ := x
  obtain ⟨a0, a1, a2, a3, a4, a5, rfl⟩ := six h
  have h1 : n = 0 ∨ n = 1 ∨ n = 2 ∨ n = 3 ∨ n = 4 ∨ n = 5 := by omega
  rcases h1 with rfl | rfl | rfl | rfl | rfl | rfl <;> rfl

theorem shT {l : List Ln} {n : Nat} (hn : n ≤ 5) (hl : ∀ x ∈ l, DomN (n + 1) x) : ∀ k, k ≤ n → ∀ x ∈ shL l n k, Dom (pT (n - k) n) x
  | 0, _ => tidy_domS fun x hx => ⟨(hl x hx).1, fun j hj => (hl x hx).2 j (by
      unfold pT at hj
      simp only [Bool.or_eq_false_iff, decide_eq_false_iff_not] at hj
      omega)⟩
  | k + 1, hk => by
    have ih := shT hn hl k (by omega)
    have e1 : n - k = (n - 1 - k) + 1 := by omega
    rw [e1] at ih
    have hd := drop_pT (i := n - 1 - k) (n := n) (by omega) hn
    have := (leave_sel (m := n - 1 - k + 2) hd (by rw [pT_len (by omega) hn]; omega) ih).2.2
    rw [show n - (k + 1) = n - 1 - k by omega]
    exact this
end Go.Proofs.YtbhaoaobhgilkaaGreat
