/- Plain mathematics: lists of lines of fewer coordinates are as tidy as those of six.; Plain mathematics: lowest terms and tidy lists of lines of fewer coordinates.; Plain mathematics: what the reference leaves of the shorter lines is what the project leaves of the long ones, shortened.; What the reference's leave has between two lines; plain mathematics of its lists. -/
import Derived.Test.YtbhaoaobhgilkaaGreatWm17
import Derived.Test.YtbhaoaobhgilkaaGreatWm13
import Derived.Test.YtbhaoaobhgilkaaGreatWm28
import Derived.Test.YtbhaoaobhgilkaaGreatWm29
import Derived.Test.YtbhaoaobhgilkaaGreatWm9

namespace Go.Proofs.YtbhaoaobhgilkaaGreat
open Go.Sort

structure Keeps (f : Ln → Ln) (D : Ln → Prop) : Prop where
  ord : ∀ x y, D x → D y → cmpL (f x).a (f y).a = cmpL x.a y.a
  num : ∀ x, (f x).b = x.b
  str : ∀ x, (f x).s = x.s

theorem Keeps.over {f : Ln → Ln} {D : Ln → Prop} (h : Keeps f D) (x y : Ln) : (f x).over (f y) = x.over y := by unfold Ln.over; rw [h.num, h.num, h.str]

theorem Keeps.eq {f : Ln → Ln} {D : Ln → Prop} (h : Keeps f D) {x y : Ln} (hx : D x) (hy : D y) : (f x).a = (f y).a ↔ x.a = y.a := by
  rw [← cmpL_zero, ← cmpL_zero, h.ord x y hx hy]

theorem ins_map {f : Ln → Ln} {D : Ln → Prop} (h : Keeps f D) {x : Ln} (hx : D x) : ∀ {l : List Ln}, (∀ y ∈ l, D y) → insN (f x) (l.map f) = (insN x l).map f
  | [], _ => rfl
  | y :: r, hl => by
    have hy := hl y (by simp)
    have ih := ins_map h hx (l := r) (fun z hz => hl z (by simp [hz]))
    simp only [List.map_cons, insN, h.ord y x hy hx, h.eq hy hx, h.over]
    split
    · rw [List.map_cons, ih]
    · split
      · split <;> rfl
      · rfl

theorem ins_D {D : Ln → Prop} {x : Ln} (hx : D x) : ∀ {l : List Ln}, (∀ y ∈ l, D y) → ∀ z ∈ insN x l, D z
  | [], _, z, hz => by simp [insN] at hz; rw [hz]; exact hx
  | y :: r, hl, z, hz => by
    unfold insN at hz
    split at hz
    · rcases List.mem_cons.1 hz with rfl | hz
      · exact hl _ (by simp)
      · exact ins_D hx (fun u hu => hl u (by simp [hu])) z hz
    · split at hz
      · split at hz
        · rcases List.mem_cons.1 hz with rfl | hz
          · exact hx
          · exact hl z (by simp [hz])
        · exact hl z hz
      · rcases List.mem_cons.1 hz with rfl | hz
        · exact hx
        · exact hl z hz

theorem insL_map {f : Ln → Ln} {D : Ln → Prop} (h : Keeps f D) {k : List Ln} (hk : ∀ x ∈ k, D x) : insL (k.map f) = (insL k).map f := by
  suffices g : ∀ n, n ≤ k.length → insL ((k.take n).map f) = (insL (k.take n)).map f ∧ ∀ z ∈ insL (k.take n), D z by
    have := (g k.length (Nat.le_refl _)).1
    rwa [List.take_length] at this
  intro n
  induction n with
  | zero => intro _; simp [insL]
  | succ n ih =>
    intro hn
    obtain ⟨i1, i2⟩ := ih (by omega)
    have hx := hk _ (List.getElem_mem (show n < k.length by omega))
    rw [List.take_succ_eq_append_getElem (show n < k.length by omega), List.map_append, List.map_cons, List.map_nil, insL_snoc, insL_snoc, i1]
    exact ⟨ins_map h hx i2, ins_D hx i2⟩

def erL (n i : Nat) (x : Ln) : Ln := ⟨chW n i x.a, x.b, x.s⟩

def DomL (n i : Nat) (x : Ln) : Prop := x.a.length = 6 ∧ gA x.a i = 0 ∧ ∀ j, n ≤ j → gA x.a j = 0

theorem cmpL_skip : ∀ {l m : List Int} {i : Nat}, l.length = m.length → gA l i = gA m i → cmpL (l.eraseIdx i) (m.eraseIdx i) = cmpL l m
  | [], [], _, _, _ => rfl
  | [], _ :: _, _, h, _ => by simp at h
  | _ :: _, [], _, h, _ => by simp at h
  | x :: xs, y :: ys, 0, _, e => by
    have e : x = y := by simpa [gA] using e
    subst e
    show cmpL xs ys = if cmpI x x = 0 then cmpL xs ys else cmpI x x
    rw [if_pos (cmpI_zero.2 rfl)]
  | x :: xs, y :: ys, i + 1, h, e => by
    have ih := cmpL_skip (l := xs) (m := ys) (i := i) (by simpa using h) (by simpa [gA] using e)
    show (if cmpI x y = 0 then cmpL (xs.eraseIdx i) (ys.eraseIdx i) else cmpI x y) = (if cmpI x y = 0 then cmpL xs ys else cmpI x y)
    rw [ih]

theorem cmpL_take : ∀ {l m : List Int} (n : Nat), l.length = m.length → (∀ j, n ≤ j → gA l j = gA m j) → cmpL (l.take n) (m.take n) = cmpL l m
  | [], [], _, _, _ => by simp
  | [], _ :: _, _, h, _ => by simp at h
  | _ :: _, [], _, h, _ => by simp at h
  | x :: xs, y :: ys, 0, h, e => by
    have : x :: xs = y :: ys := gA_ext h (fun j _ => e j (by omega))
    rw [this]; simp
    exact (cmpL_zero.2 rfl).symm
  | x :: xs, y :: ys, n + 1, h, e => by
    have ih := cmpL_take (l := xs) (m := ys) n (by simpa using h) (fun j hj => by have := e (j + 1) (by omega); simpa [gA] using this)
    show (if cmpI x y = 0 then cmpL (xs.take n) (ys.take n) else cmpI x y) = (if cmpI x y = 0 then cmpL xs ys else cmpI x y)
    rw [ih]

theorem erL_keeps (n i : Nat) (hi : i < n) : Keeps (erL n i) (DomL n i) where
  ord x y hx hy := by
    obtain ⟨x1, x2, x3⟩ := hx
    obtain ⟨y1, y2, y3⟩ := hy
    show cmpL ((x.a.take n).eraseIdx i) ((y.a.take n).eraseIdx i) = cmpL x.a y.a
    rw [cmpL_skip (by simp [x1, y1]) (by rw [gA_take hi, gA_take hi, x2, y2]), cmpL_take n (by rw [x1, y1]) (fun j hj => by rw [x3 j hj, y3 j hj])]
  num _ := rfl
  str _ := rfl
end Go.Proofs.YtbhaoaobhgilkaaGreat

namespace Go.Proofs.YtbhaoaobhgilkaaGreat
open Go.Sort

theorem gcdL_app (b : Int) (p q : List Int) : gcdL b (p ++ q) = gcdL (gcdL b p) q := by unfold gcdL; rw [List.foldl_append]

theorem gcdL_abs (b : Int) : ∀ (a : List Int), gcdL (b.natAbs : Int) a = ((gcdL b a).natAbs : Int)
  | [] => rfl
  | v :: r => by
    show gcdL (Int.gcd (b.natAbs : Int) v : Int) r = ((gcdL (Int.gcd b v : Int) r).natAbs : Int)
    rw [show Int.gcd (b.natAbs : Int) v = Int.gcd b v by simp [Int.gcd]]
    have := gcdL_nn (b := (Int.gcd b v : Int)) (by omega) r
    omega

theorem gcdL_zeros (b : Int) : ∀ (a : List Int), (∀ v ∈ a, v = 0) → (gcdL b a).natAbs = b.natAbs
  | [], _ => rfl
  | v :: r, h => by
    have hv := h v (by simp)
    subst hv
    show (gcdL (Int.gcd b 0 : Int) r).natAbs = b.natAbs
    rw [gcdL_zeros _ r (fun v hv => h v (by simp [hv])), Int.gcd_zero_right]
    simp

theorem gcdL_skip (b : Int) : ∀ (l : List Int) (i : Nat), gA l i = 0 → (gcdL b (l.eraseIdx i)).natAbs = (gcdL b l).natAbs
  | [], _, _ => by simp
  | v :: r, 0, h => by
    have hv : v = 0 := by simpa [gA] using h
    subst hv
    show (gcdL b r).natAbs = (gcdL (Int.gcd b 0 : Int) r).natAbs
    rw [Int.gcd_zero_right, gcdL_abs]
    simp
  | v :: r, i + 1, h => by
    show (gcdL (Int.gcd b v : Int) (r.eraseIdx i)).natAbs = (gcdL (Int.gcd b v : Int) r).natAbs
    exact gcdL_skip _ r i (by simpa [gA] using h)

theorem gcdL_take (b : Int) (l : List Int) (n : Nat) (h : ∀ j, n ≤ j → gA l j = 0) : (gcdL b (l.take n)).natAbs = (gcdL b l).natAbs := by
  have hz : ∀ v ∈ l.drop n, v = 0 := by
    intro v hv
    obtain ⟨i, hi, rfl⟩ := List.getElem_of_mem hv
    have := h (n + i) (by omega)
    simp at hi
    simpa [gA, List.getElem?_eq_getElem (show n + i < l.length by omega)] using this
  conv => rhs; rw [← List.take_append_drop n l, gcdL_app]
  exact (gcdL_zeros _ _ hz).symm

theorem dv_er {n i : Nat} {x : Ln} (h : DomL n i x) (hi : i < n) : (erL n i x).dvR = x.dv := by
  obtain ⟨h1, h2, h3⟩ := h
  have e : ((gcdL x.b ((x.a.take n).eraseIdx i)).natAbs : Int) = ((gcdL x.b x.a).natAbs : Int) := by
    rw [gcdL_skip _ _ _ (by rw [gA_take hi]; exact h2), gcdL_take _ _ _ h3]
  show gcdL (x.b.natAbs : Int) ((x.a.take n).eraseIdx i) = gcdL x.b x.a
  rw [gcdL_abs, e]
  have : 0 ≤ gcdL x.b x.a := by
    match x.a, h1 with
    | v :: r, _ => exact gcdL_nn (b := (Int.gcd x.b v : Int)) (by omega) r
  omega

theorem erase_map (f : Int → Int) : ∀ (l : List Int) (i : Nat), (l.map f).eraseIdx i = (l.eraseIdx i).map f
  | [], _ => rfl
  | _ :: _, 0 => rfl
  | v :: r, i + 1 => by simp [erase_map f r i]

theorem low_er {n i : Nat} {x : Ln} (h : DomL n i x) (hi : i < n) : (erL n i x).lowR = erL n i x.low := by
  unfold Ln.lowR Ln.low
  rw [dv_er h hi]
  split
  · rfl
  · unfold erL chW
    simp only [Ln.mk.injEq, and_true]
    rw [← List.map_take, erase_map]

theorem low_dom {n i : Nat} {x : Ln} (h : DomL n i x) : DomL n i x.low := by
  unfold Ln.low
  split
  · exact h
  · obtain ⟨h1, h2, h3⟩ := h
    have g : ∀ j, gA x.a j = 0 → gA (x.a.map (·.tdiv x.dv)) j = 0 := fun j hj => by
      by_cases q : j < x.a.length
      · rw [gA_map _ q, hj]; simp
      · unfold gA; rw [List.getD_eq_getElem?_getD, List.getElem?_eq_none (by simp; omega)]; rfl
    exact ⟨by simp [h1], g i h2, fun j hj => g j (h3 j hj)⟩

theorem zero_er {n i : Nat} {x : Ln} (h : DomL n i x) (_hi : i < n) : zeroA (erL n i x) = decide (x.a = z6) := by
  obtain ⟨h1, h2, h3⟩ := h
  have hz : x.a = z6 ↔ ∀ j, j < 6 → gA x.a j = 0 := by
    constructor
    · intro e j hj
      rw [e]
      match j, hj with
      | 0, _ => rfl
      | 1, _ => rfl
      | 2, _ => rfl
      | 3, _ => rfl
      | 4, _ => rfl
      | 5, _ => rfl
    · intro e
      refine gA_ext (by rw [h1]; rfl) fun j hj => ?_
      rw [e j (by omega)]
      match j, (show j < 6 by omega) with
      | 0, _ => rfl
      | 1, _ => rfl
      | 2, _ => rfl
      | 3, _ => rfl
      | 4, _ => rfl
      | 5, _ => rfl
  rw [Bool.eq_iff_iff, decide_eq_true_eq, hz]
  unfold zeroA
  rw [List.all_eq_true]
  constructor
  · intro h j hj
    by_cases hn : n ≤ j
    · exact h3 j hn
    · by_cases hji : j = i
      · rw [hji]; exact h2
      · have hlen : (x.a.take n).length = min n 6 := by simp [h1]
        have key : gA x.a j ∈ (x.a.take n).eraseIdx i := by
          rw [List.mem_eraseIdx_iff_getElem?]
          refine ⟨j, hji, ?_⟩
          rw [List.getElem?_take_of_lt (by omega), List.getElem?_eq_getElem (by omega)]
          simp [gA, show j < x.a.length by omega]
        have := h _ key
        simpa using this
  · intro h v hv
    have hv2 : v ∈ x.a := List.mem_of_mem_take (List.mem_of_mem_eraseIdx hv)
    obtain ⟨j, hj, rfl⟩ := List.getElem_of_mem hv2
    have := h j (by omega)
    simp [gA, hj] at this
    simpa using this

theorem lim_er (n i : Nat) (x : Ln) : (erL n i x).lim = x.lim := rfl

theorem keep_er {n i : Nat} (hi : i < n) {l : List Ln} (h : ∀ x ∈ l, DomL n i x) : keepR (l.map (erL n i)) = (keepL l).map (erL n i) := by
  unfold keepR keepL
  induction l with
  | nil => rfl
  | cons x r ih =>
    have hx := h x (by simp)
    have ih := ih (fun y hy => h y (by simp [hy]))
    simp only [List.map_cons, List.filter_cons, low_er hx hi, zero_er (low_dom hx) hi]
    by_cases c : x.low.a = z6
    · simp [c]; simpa using ih
    · simp [c]; simpa using ih

theorem bad_er {n i : Nat} (hi : i < n) {l : List Ln} (h : ∀ x ∈ l, DomL n i x) : badR (l.map (erL n i)) = badB l := by
  unfold badR badB
  induction l with
  | nil => rfl
  | cons x r ih =>
    have hx := h x (by simp)
    have ih := ih (fun y hy => h y (by simp [hy]))
    simp only [List.map_cons, List.any_cons, low_er hx hi, zero_er (low_dom hx) hi, lim_er, ih]

theorem tidy_er {n i : Nat} (hi : i < n) (hn : n ≤ 6) {l : List Ln} (h : ∀ x ∈ l, DomL n i x) : tidR (n - 1) (l.map (erL n i)) = (tidyL l).map (erL n i) := by
  unfold tidR tidyL
  rw [bad_er hi h]
  split
  · simp only [List.map_cons, List.map_nil, List.cons.injEq, and_true]
    unfold erL bad0 chW z6
    simp only [Ln.mk.injEq, and_true]
    match n, i, hi, hn with
    | n, i, hi, hn =>
      have hlen : ((([0, 0, 0, 0, 0, 0] : List Int).take n).eraseIdx i).length = n - 1 := by
        rw [List.length_eraseIdx_of_lt (by simp; omega)]; simp; omega
      refine gA_ext (by rw [hlen]; simp) fun j hj => ?_
      have hj : j < n - 1 := by simpa using hj
      have e1 : gA (List.replicate (n - 1) (0 : Int)) j = 0 := by simp [gA, hj]
      rw [e1]
      unfold gA
      rw [List.getD_eq_getElem?_getD, List.getElem?_eraseIdx]
      have hz : ∀ k : Nat, ((([0, 0, 0, 0, 0, 0] : List Int).take n)[k]?).getD 0 = 0 := fun k => by
        cases q : (([0, 0, 0, 0, 0, 0] : List Int).take n)[k]? with
        | none => rfl
        | some v =>
          have := List.mem_of_mem_take (List.mem_of_getElem? q)
          simp at this
          simp [this]
      split <;> exact (hz _).symm
  · rw [keep_er hi h, cpt_ins]
    refine insL_map (erL_keeps n i hi) (fun x hx => ?_)
    obtain ⟨y, hy, rfl⟩ := keepL_mem hx
    exact low_dom (h y hy)
end Go.Proofs.YtbhaoaobhgilkaaGreat

namespace Go.Proofs.YtbhaoaobhgilkaaGreat
open Go.Sort

def tk (n : Nat) (x : Ln) : Ln := ⟨x.a.take n, x.b, x.s⟩

def sumRf (x y : Ln) (i : Nat) : Ln := (shR i (combR ((-(gA y.a i)).tdiv (Int.gcd (-(gA y.a i)) (gA x.a i))) x ((gA x.a i).tdiv (Int.gcd (-(gA y.a i)) (gA x.a i))) y)).lowR

def DomN (n : Nat) (x : Ln) : Prop := x.a.length = 6 ∧ ∀ j, n ≤ j → gA x.a j = 0

theorem gA_tk {n i : Nat} (hi : i < n) (x : Ln) : gA (tk n x).a i = gA x.a i := gA_take hi

theorem sh_tk (n i : Nat) (x : Ln) : shR i (tk n x) = erL n i x := rfl

theorem comb_tk {n : Nat} {x y : Ln} (p q : Int) : combR p (tk n x) q (tk n y) = tk n ((x.times p).plus (y.times q)) := by
  unfold combR tk Ln.plus Ln.times
  simp only [Ln.mk.injEq]
  refine ⟨?_, by rw [Int.mul_comm p, Int.mul_comm q], trivial⟩
  rw [List.take_zipWith, ← List.map_take, ← List.map_take, List.zipWith_map]
  congr 1
  funext u v
  rw [Int.mul_comm p, Int.mul_comm q]

theorem comb_dom {n i : Nat} (hi : i < 6) {x y : Ln} (hx : DomN n x) (hy : DomN n y) : DomL n i ((x.times ((-(gA y.a i)).tdiv (sumG x y i))).plus (y.times ((gA x.a i).tdiv (sumG x y i)))) := by
  obtain ⟨x1, x2⟩ := hx
  obtain ⟨y1, y2⟩ := hy
  have at_ : ∀ p q : Int, ∀ j, j < 6 → gA ((x.times p).plus (y.times q)).a j = gA x.a j * p + gA y.a j * q := fun p q j hj => by
    show gA (List.zipWith (· + ·) (x.a.map (· * p)) (y.a.map (· * q))) j = _
    rw [gA_zip (by simp; omega) (by simp; omega), gA_map _ (by omega), gA_map _ (by omega)]
  refine ⟨by simp [Ln.plus, Ln.times, x1, y1], ?_, fun j hj => ?_⟩
  · rw [at_ _ _ i hi]
    unfold sumG
    obtain ⟨u, hu⟩ := Int.gcd_dvd_left (gA x.a i) (gA y.a i)
    obtain ⟨v, hv⟩ := Int.gcd_dvd_right (gA x.a i) (gA y.a i)
    generalize gA x.a i = a at *
    generalize gA y.a i = b at *
    generalize (Int.gcd a b : Int) = g at *
    by_cases hg : g = 0
    · rw [hg] at hu hv ⊢
      simp at hu hv; rw [hu, hv]; simp
    · rw [show (-b).tdiv g = -v by rw [hv, Int.neg_mul_eq_mul_neg, Int.mul_tdiv_cancel_left _ hg], show a.tdiv g = u by rw [hu, Int.mul_tdiv_cancel_left _ hg], hu, hv]
      grind
  · by_cases h6 : j < 6
    · rw [at_ _ _ j h6, x2 j hj, y2 j hj]; simp
    · unfold gA; rw [List.getD_eq_getElem?_getD, List.getElem?_eq_none (by simp [Ln.plus, Ln.times, x1, y1]; omega)]; rfl

theorem sum_tk {n i : Nat} (hi : i < n) (hn : n ≤ 6) {x y : Ln} (hx : DomN n x) (hy : DomN n y) : sumRf (tk n x) (tk n y) i = erL n i (sumL x y i) := by
  unfold sumRf sumL
  rw [gA_tk hi, gA_tk hi, comb_tk, sh_tk, ← low_er (comb_dom (by omega) hx hy) hi]
  have : Int.gcd (-(gA y.a i)) (gA x.a i) = Int.gcd (gA x.a i) (gA y.a i) := by rw [Int.gcd_comm]; simp [Int.gcd]
  rw [this]; rfl

theorem sum_dom {n i : Nat} (hi : i < n) (hn : n ≤ 6) {x y : Ln} (hx : DomN n x) (hy : DomN n y) : DomL n i (sumL x y i) := low_dom (comb_dom (by omega) hx hy)

def sumsR (l : List Ln) (i : Nat) : List Ln := (prs (ups l i) (dns l i)).map fun p => sumRf p.1 p.2 i

def validL (m : Nat) (x : Ln) : Bool := decide (x.a.length = m) && x.a.all fitB && fitB x.b

def leaveEr (n : Nat) (l : List Ln) (i : Nat) : Int := if 1000 < (zrs l i).length + (ups l i).length * (dns l i).length then 3 else if (sumsR l i).all (validL (n - 1)) then 0 else 7

def leaveLr (n : Nat) (l : List Ln) (i : Nat) : List Ln := tidR (n - 1) ((zrs l i).map (shR i) ++ sumsR l i)

theorem ups_tk {n i : Nat} (hi : i < n) (l : List Ln) : ups (l.map (tk n)) i = (ups l i).map (tk n) ∧ dns (l.map (tk n)) i = (dns l i).map (tk n) ∧ zrs (l.map (tk n)) i = (zrs l i).map (tk n) := by
  unfold ups dns zrs
  refine ⟨?_, ?_, ?_⟩ <;> (rw [List.filter_map]; congr 2; funext x; simp [Function.comp, gA_tk hi])

theorem prs_map (f : Ln → Ln) (xs ys : List Ln) : prs (xs.map f) (ys.map f) = (prs xs ys).map fun p => (f p.1, f p.2) := by
  unfold prs
  rw [List.map_flatMap, List.flatMap_map]
  congr 1
  funext x
  simp [List.map_map, Function.comp]

theorem mem_prs {xs ys : List Ln} {p : Ln × Ln} (h : p ∈ prs xs ys) : p.1 ∈ xs ∧ p.2 ∈ ys := by
  unfold prs at h
  obtain ⟨x, hx, h⟩ := List.mem_flatMap.1 h
  obtain ⟨y, hy, rfl⟩ := List.mem_map.1 h
  exact ⟨hx, hy⟩

theorem sums_tk {n i : Nat} (hi : i < n) (hn : n ≤ 6) {l : List Ln} (hl : ∀ x ∈ l, DomN n x) : sumsR (l.map (tk n)) i = (sums l i).map (erL n i) ∧ ∀ x ∈ sums l i, DomL n i x := by
  have hp : ∀ p ∈ prs (ups l i) (dns l i), DomN n p.1 ∧ DomN n p.2 := fun p h => by
    obtain ⟨h1, h2⟩ := mem_prs h
    exact ⟨hl _ (List.mem_filter.1 h1).1, hl _ (List.mem_filter.1 h2).1⟩
  unfold sumsR sums
  refine ⟨?_, fun x hx => ?_⟩
  · rw [(ups_tk hi l).1, (ups_tk hi l).2.1, prs_map, List.map_map, List.map_map]
    refine List.map_congr_left fun p h => ?_
    exact sum_tk hi hn (hp p h).1 (hp p h).2
  · obtain ⟨p, h, rfl⟩ := List.mem_map.1 hx
    exact sum_dom hi hn (hp p h).1 (hp p h).2

theorem zrs_dom {n i : Nat} {l : List Ln} (hl : ∀ x ∈ l, DomN n x) : ∀ x ∈ zrs l i, DomL n i x := fun x hx => by
  obtain ⟨h1, h2⟩ := List.mem_filter.1 hx
  have := hl x h1
  exact ⟨this.1, by simpa using h2, this.2⟩

theorem leaveL_tk {n i : Nat} (hi : i < n) (hn : n ≤ 6) {l : List Ln} (hl : ∀ x ∈ l, DomN n x) : leaveLr n (l.map (tk n)) i = (leaveL l i).map (erL n i) := by
  unfold leaveLr leaveL
  rw [(sums_tk hi hn hl).1, (ups_tk hi l).2.2, List.map_map, ← tidy_er hi hn (fun x hx => by
    rcases List.mem_append.1 hx with h | h
    · exact zrs_dom hl x h
    · exact (sums_tk hi hn hl).2 x h), List.map_append]
  rfl

theorem fits_er {n i : Nat} (hi : i < n) (hn : n ≤ 6) {x : Ln} (h : DomL n i x) : validL (n - 1) (erL n i x) = x.fits := by
  obtain ⟨h1, h2, h3⟩ := h
  have hl : ((x.a.take n).eraseIdx i).length = n - 1 := by rw [List.length_eraseIdx_of_lt (by simp; omega)]; simp; omega
  unfold validL erL chW Ln.fits
  simp only [hl, decide_true, Bool.true_and]
  congr 1
  rw [Bool.eq_iff_iff, List.all_eq_true, List.all_eq_true]
  constructor
  · intro h v hv
    obtain ⟨j, hj, rfl⟩ := List.getElem_of_mem hv
    by_cases hjn : n ≤ j
    · have := h3 j hjn; simp [gA, hj] at this; rw [this]; decide
    · by_cases hji : j = i
      · subst hji; simp [gA, hj] at h2; rw [h2]; decide
      · refine h _ ?_
        rw [List.mem_eraseIdx_iff_getElem?]
        exact ⟨j, hji, by rw [List.getElem?_take_of_lt (by omega), List.getElem?_eq_getElem hj]⟩
  · intro h v hv
    exact h v (List.mem_of_mem_take (List.mem_of_mem_eraseIdx hv))

theorem leaveE_tk {n i : Nat} (hi : i < n) (hn : n ≤ 6) {l : List Ln} (hl : ∀ x ∈ l, DomN n x) : leaveEr n (l.map (tk n)) i = leaveE l i := by
  unfold leaveEr leaveE
  rw [(ups_tk hi l).1, (ups_tk hi l).2.1, (ups_tk hi l).2.2, List.length_map, List.length_map, List.length_map, (sums_tk hi hn hl).1, List.all_map]
  have : (sums l i).all (validL (n - 1) ∘ erL n i) = (sums l i).all Ln.fits := by
    rw [Bool.eq_iff_iff, List.all_eq_true, List.all_eq_true]
    constructor <;> intro h x hx
    · have := h x hx; rwa [Function.comp, fits_er hi hn ((sums_tk hi hn hl).2 x hx)] at this
    · rw [Function.comp, fits_er hi hn ((sums_tk hi hn hl).2 x hx)]; exact h x hx
  rw [this]
end Go.Proofs.YtbhaoaobhgilkaaGreat

namespace Go.Proofs.YtbhaoaobhgilkaaGreat
open Go.RowKit Go.Sort Go.Shelf

theorem OwnV.other {w w' : World} {B : Nat} {v : Value} {L : List AV} {r : Option Nat} (h : OwnV w B v L) (hg : w.grownBy w' r) (hd : ∀ k, v.ownBlock = some k → r ≠ some k) (hn : ∀ y ∈ L, ∀ p, y.q = some p → r ≠ some p.block) : OwnV w' B v L :=
  ⟨World.ownsRow.kept h.row hg (by
    cases e : v.ownBlock with
    | none => exact Or.inl rfl
    | some k => exact Or.inr (fun q => hd k e q.symm)), fun y hy => (h.nums y hy).grown hg (hn y hy), fun y hy p e => ⟨(h.far y hy p e).1, Nat.lt_of_lt_of_le (h.far y hy p e).2 hg.size⟩, h.nil⟩

theorem OwnV.lt {w : World} {B : Nat} {v : Value} {L : List AV} (h : OwnV w B v L) : ∀ k, v.ownBlock = some k → B ≤ k ∧ k < w.heap.size := fun k hk => World.ownsRow.lt h.row k hk

structure LvR (w wr : World) (v1 v2 v3 : Value) (U D Z : List AV) : Prop where
  o1 : OwnV wr w.heap.size v1 U
  o2 : OwnV wr w.heap.size v2 D
  o3 : OwnV wr w.heap.size v3 Z
  be : Below w.heap.size w wr
  n12 : ∀ k, v1.ownBlock = some k → v2.ownBlock ≠ some k
  n13 : ∀ k, v1.ownBlock = some k → v3.ownBlock ≠ some k
  n23 : ∀ k, v2.ownBlock = some k → v3.ownBlock ≠ some k
  l1 : ∀ y ∈ U, ∀ p, y.q = some p → p.block < w.heap.size
  l2 : ∀ y ∈ D, ∀ p, y.q = some p → p.block < w.heap.size
  l3 : ∀ y ∈ Z, ∀ p, y.q = some p → v1.ownBlock ≠ some p.block ∧ v2.ownBlock ≠ some p.block ∧ w.heap.size ≤ p.block
section
variable {w wr w' : World} {v1 v2 v3 v' : Value} {U D Z : List AV} {y : AV}

theorem LvR.on (h : LvR w wr v1 v2 v3 U D Z) (hb : Below wr.heap.size wr w') : LvR w w' v1 v2 v3 U D Z :=
  ⟨h.o1.on hb, h.o2.on hb, h.o3.on hb, below_on h.be hb, h.n12, h.n13, h.n23, h.l1, h.l2, h.l3⟩

theorem LvR.grown_be (h : LvR w wr v1 v2 v3 U D Z) {v : Value} {l : List AV} (ho : OwnV wr w.heap.size v l) (hg : wr.grownBy w' v.ownBlock) : Below w.heap.size w w' :=
  Below.grown h.be hg h.be.size (fun k hk => (ho.lt k hk).1)

theorem LvR.app1 (h : LvR w wr v1 v2 v3 U D Z) (ho : OwnV w' w.heap.size v' (U ++ [y])) (hg : wr.grownBy w' v1.ownBlock) (hf : v'.ownBlock = v1.ownBlock ∨ v'.ownBlock = some wr.heap.size) (hy : ∀ p, y.q = some p → p.block < w.heap.size) : LvR w w' v' v2 v3 (U ++ [y]) D Z := by
  have a1 := h.o1.lt
  have a2 := h.o2.lt
  have a3 := h.o3.lt
  refine ⟨ho, h.o2.other hg (fun k e q => h.n12 k q e) (fun z hz p e q => by have := h.l2 z hz p e; have := a1 _ q; omega), h.o3.other hg (fun k e q => h.n13 k q e) (fun z hz p e => (h.l3 z hz p e).1), h.grown_be h.o1 hg, ?_, ?_, h.n23, ?_, h.l2, ?_⟩
  · intro k e q
    rcases hf with f | f
    · exact h.n12 k (f ▸ e) q
    · rw [f] at e; cases e; have := a2 _ q; omega
  · intro k e q
    rcases hf with f | f
    · exact h.n13 k (f ▸ e) q
    · rw [f] at e; cases e; have := a3 _ q; omega
  · intro z hz
    rcases List.mem_append.1 hz with q | q
    · exact h.l1 z q
    · rw [List.mem_singleton] at q; subst q; exact hy
  · intro z hz p e
    have := h.l3 z hz p e
    refine ⟨?_, this.2⟩
    rcases hf with f | f
    · rw [f]; exact this.1
    · rw [f]; intro q; injection q with q; have := (h.o3.far z hz p e).2; omega

theorem LvR.app2 (h : LvR w wr v1 v2 v3 U D Z) (ho : OwnV w' w.heap.size v' (D ++ [y])) (hg : wr.grownBy w' v2.ownBlock) (hf : v'.ownBlock = v2.ownBlock ∨ v'.ownBlock = some wr.heap.size) (hy : ∀ p, y.q = some p → p.block < w.heap.size) : LvR w w' v1 v' v3 U (D ++ [y]) Z := by
  have a1 := h.o1.lt
  have a2 := h.o2.lt
  have a3 := h.o3.lt
  refine ⟨h.o1.other hg (fun k e q => h.n12 k e q) (fun z hz p e q => by have := h.l1 z hz p e; have := a2 _ q; omega), ho, h.o3.other hg (fun k e q => h.n23 k q e) (fun z hz p e => (h.l3 z hz p e).2.1), h.grown_be h.o2 hg, ?_, h.n13, ?_, h.l1, ?_, ?_⟩
  · intro k e q
    rcases hf with f | f
    · exact h.n12 k e (f ▸ q)
    · rw [f] at q; cases q; have := a1 _ e; omega
  · intro k e q
    rcases hf with f | f
    · exact h.n23 k (f ▸ e) q
    · rw [f] at e; cases e; have := a3 _ q; omega
  · intro z hz
    rcases List.mem_append.1 hz with q | q
    · exact h.l2 z q
    · rw [List.mem_singleton] at q; subst q; exact hy
  · intro z hz p e
    have := h.l3 z hz p e
    refine ⟨this.1, ?_, this.2.2⟩
    rcases hf with f | f
    · rw [f]; exact this.2.1
    · rw [f]; intro q; injection q with q; have := (h.o3.far z hz p e).2; omega

theorem LvR.app3 (h : LvR w wr v1 v2 v3 U D Z) (ho : OwnV w' w.heap.size v' (Z ++ [y])) (hg : wr.grownBy w' v3.ownBlock) (hf : v'.ownBlock = v3.ownBlock ∨ v'.ownBlock = some wr.heap.size) (hy : ∀ p, y.q = some p → v1.ownBlock ≠ some p.block ∧ v2.ownBlock ≠ some p.block ∧ w.heap.size ≤ p.block) : LvR w w' v1 v2 v' U D (Z ++ [y]) := by
  have a1 := h.o1.lt
  have a2 := h.o2.lt
  have a3 := h.o3.lt
  refine ⟨h.o1.other hg (fun k e q => h.n13 k e q) (fun z hz p e q => by have := h.l1 z hz p e; have := a3 _ q; omega), h.o2.other hg (fun k e q => h.n23 k e q) (fun z hz p e q => by have := h.l2 z hz p e; have := a3 _ q; omega), ho, h.grown_be h.o3 hg, h.n12, ?_, ?_, h.l1, h.l2, ?_⟩
  · intro k e q
    rcases hf with f | f
    · exact h.n13 k e (f ▸ q)
    · rw [f] at q; cases q; have := a1 _ e; omega
  · intro k e q
    rcases hf with f | f
    · exact h.n23 k e (f ▸ q)
    · rw [f] at q; cases q; have := a2 _ e; omega
  · intro z hz
    rcases List.mem_append.1 hz with q | q
    · exact h.l3 z q
    · rw [List.mem_singleton] at q; subst q; exact hy

theorem LvR.start (w : World) : LvR w w (.slice none 0 0) (.slice none 0 0) (.slice none 0 0) [] [] [] :=
  ⟨OwnV.empty _ _, OwnV.empty _ _, OwnV.empty _ _, Below.refl _ _, fun k e => (by cases e), fun k e => (by cases e), fun k e => (by cases e), fun y h => (by simp at h), fun y h => (by simp at h), fun y h => (by simp at h)⟩
end

def upsV (L : List AV) (i : Nat) : List AV := L.filter fun y => decide (0 < gA y.a i)

def dnsV (L : List AV) (i : Nat) : List AV := L.filter fun y => decide (gA y.a i < 0)

def zrsV (L : List AV) (i : Nat) : List Ln := (zrs (L.map lnV) i).map (shR i)

theorem upsV_map (L : List AV) (i : Nat) : (upsV L i).map lnV = ups (L.map lnV) i := by
  unfold upsV ups; rw [List.filter_map]; rfl

theorem dnsV_map (L : List AV) (i : Nat) : (dnsV L i).map lnV = dns (L.map lnV) i := by
  unfold dnsV dns; rw [List.filter_map]; rfl

theorem filtV_snoc {p : AV → Bool} {l : List AV} {t : Nat} (h : t < l.length) : (l.take (t + 1)).filter p = (l.take t).filter p ++ (if p l[t] then [l[t]] else []) := by
  rw [List.take_succ_eq_append_getElem h, List.filter_append]
  congr 1
  cases e : p l[t] <;> simp [e]

theorem zrsV_snoc {l : List AV} {t i : Nat} (h : t < l.length) : zrsV (l.take (t + 1)) i = zrsV (l.take t) i ++ (if decide (gA l[t].a i = 0) then [shR i (lnV l[t])] else []) := by
  unfold zrsV
  rw [List.map_take, zrs, filt_snoc (by simpa using h), List.map_append, ← zrs, ← List.map_take]
  simp only [List.getElem_map]
  congr 1
  by_cases e : gA l[t].a i = 0
  · have h1 : decide (gA (lnV l[t]).a i = 0) = true := decide_eq_true e
    have h2 : decide (gA l[t].a i = 0) = true := decide_eq_true e
    rw [h1, h2]; rfl
  · have h1 : decide (gA (lnV l[t]).a i = 0) = false := decide_eq_false e
    have h2 : decide (gA l[t].a i = 0) = false := decide_eq_false e
    rw [h1, h2]; rfl

def someR (U D : List Ln) (i k m : Nat) : List Ln := (prs (U.take k) D).map (fun p => sumRf p.1 p.2 i) ++ (D.take m).map (fun y => sumRf (U.getD k ⟨[], 0, false⟩) y i)

theorem someR_zero (U D : List Ln) (i : Nat) : someR U D i 0 0 = [] := by simp [someR, prs]

theorem someR_step {U D : List Ln} {i k m : Nat} (hm : m < D.length) : someR U D i k (m + 1) = someR U D i k m ++ [sumRf (U.getD k ⟨[], 0, false⟩) D[m] i] := by
  unfold someR
  rw [List.take_succ_eq_append_getElem hm, List.map_append, List.append_assoc]; rfl

theorem someR_next {U D : List Ln} {i k : Nat} (hk : k < U.length) : someR U D i k D.length = someR U D i (k + 1) 0 := by
  unfold someR prs
  rw [List.take_succ_eq_append_getElem hk, List.flatMap_append, List.map_append]
  simp [List.map_map, Function.comp, hk]

theorem someR_all (U D : List Ln) (i : Nat) : someR U D i U.length 0 = (prs U D).map (fun p => sumRf p.1 p.2 i) := by
  unfold someR; simp

theorem someR_len (U D : List Ln) (i k m : Nat) (hk : k < U.length) : (someR U D i k m).length ≤ U.length * D.length := by
  unfold someR prs
  rw [List.length_append, List.length_map, List.length_flatMap, List.length_map, List.length_take]
  have h1 : ((U.take k).map (fun x => (D.map (fun y => (x, y))).length)).sum = k * D.length := by
    rw [show (U.take k).map (fun x => (D.map (fun y => (x, y))).length) = List.replicate k D.length by
      refine List.ext_getElem (by simp; omega) fun j _ _ => by simp]
    simp
  rw [h1]
  have h2 : (k + 1) * D.length ≤ U.length * D.length := Nat.mul_le_mul_right _ hk
  rw [Nat.add_mul] at h2
  omega

theorem sumRf_mem {U D : List Ln} {i k m : Nat} (hk : k < U.length) (hm : m < D.length) : sumRf (U.getD k ⟨[], 0, false⟩) D[m] i ∈ (prs U D).map (fun p => sumRf p.1 p.2 i) := by
  rw [List.mem_map]
  refine ⟨(U[k], D[m]), ?_, by simp [hk]⟩
  unfold prs
  rw [List.mem_flatMap]
  exact ⟨U[k], List.getElem_mem _, List.mem_map.2 ⟨D[m], List.getElem_mem _, rfl⟩⟩
end Go.Proofs.YtbhaoaobhgilkaaGreat
