/- Plain mathematics of PolyProjects: a point and the point without a coordinate; lines that fix the others; lists that a point meets are not told to be empty.; Rows of ratios: cut and joined; 'append' of two lines of package api; new rows of integers. -/
import Derived.Test.YtefpaobboimakaaGreatHr47
import Derived.Test.YtefpaobboimakaaGreatHr48
import Derived.Test.YtefpaobboimakaaGreatHr46
import Derived.Test.YtefpaobboimakaaGreatHr29

namespace Go.Proofs.YtefpaobboimakaaGreat
open Go.Sort

theorem gA_erase (a : List Int) (i j : Nat) : gA (a.eraseIdx i) j = if j < i then gA a j else gA a (j + 1) := by
  unfold gA
  rw [List.getD_eq_getElem?_getD, List.getElem?_eraseIdx]
  split <;> rw [← List.getD_eq_getElem?_getD]

theorem dot_erase (a X : List Int) (i : Nat) : ∀ t, dotN (a.eraseIdx i) (X.eraseIdx i) t = if t ≤ i then dotN a X t else dotN a X (t + 1) - gA a i * gA X i
  | 0 => by simp [dotN]
  | t + 1 => by
    show dotN (a.eraseIdx i) (X.eraseIdx i) t + gA (a.eraseIdx i) t * gA (X.eraseIdx i) t = _
    rw [dot_erase a X i t, gA_erase, gA_erase]
    have e2 : dotN a X (t + 1 + 1) = dotN a X (t + 1) + gA a (t + 1) * gA X (t + 1) := rfl
    have e1 : dotN a X (t + 1) = dotN a X t + gA a t * gA X t := rfl
    rcases Nat.lt_trichotomy t i with h | h | h
    · rw [if_pos (by omega), if_pos h, if_pos h, if_pos (by omega), e1]
    · subst h
      rw [if_pos (Nat.le_refl _), if_neg (by omega), if_neg (by omega), if_neg (by omega), e2, e1]; omega
    · rw [if_neg (by omega), if_neg (by omega), if_neg (by omega), if_neg (by omega), e2]; omega

/-- A line without the coordinate i, at a point without it. -/
theorem sat_erase {D : Int} {X : List Int} {n i : Nat} {x : Ln} {y : AV} (hi : i < n) (hn : n ≤ 5) (h6 : x.a.length = 6) (hz : gA x.a i = 0) (ho : ∀ j, n ≤ j → gA x.a j = 0) (he : lnV y = erL n i x) : sat D (X.eraseIdx i) (ofV y) ↔ sat D X x := by
  have ea : y.a = (x.a.take n).eraseIdx i := congrArg Ln.a he
  have eb : y.b = x.b := congrArg Ln.b he
  have es : y.s = x.s := congrArg Ln.s he
  have gt : ∀ j, gA (x.a.take n) j = gA x.a j := fun j => by
    by_cases h : j < n
    · exact gA_take h
    · rw [ho j (by omega), gA_out (by simp; omega)]
  have e : dotN (ofV y).a (X.eraseIdx i) 6 = dotN x.a X 6 := by
    have h1 : dotN (ofV y).a (X.eraseIdx i) 6 = dotN (x.a.eraseIdx i) (X.eraseIdx i) 6 := dot_congr 6 fun j _ => ⟨by unfold ofV; rw [gA_pad, ea, gA_erase, gA_erase, gt, gt], rfl⟩
    rw [h1, dot_erase, if_neg (by omega), hz]
    show dotN x.a X 6 + gA x.a 6 * gA X 6 - 0 * gA X i = _
    rw [gA_out (by omega)]; omega
  unfold sat
  rw [e]
  show (if y.s = true then _ < y.b * D else _ ≤ y.b * D) ↔ _
  rw [eb, es]

theorem gp_erase (P : List Pq) (i j : Nat) : gp (P.eraseIdx i) j = if j < i then gp P j else gp P (j + 1) := by
  unfold gp
  rw [List.getD_eq_getElem?_getD, List.getElem?_eraseIdx]
  split <;> rw [← List.getD_eq_getElem?_getD]

theorem ofV_zr {n : Nat} {L : List AV} (hv : ∀ y ∈ L, validB n y = true) (hn : n ≤ 5) : ZrL (fun j => n ≤ j) (L.map ofV) := fun x hx => by
  obtain ⟨y, hy, rfl⟩ := List.mem_map.1 hx
  have hf := valid_fitV (hv y hy)
  have hl : y.a.length = n := by have := hf.1; simpa using this
  exact ⟨by unfold ofV; simp; omega, fun j hj => by unfold ofV; rw [gA_pad, gA_out (by omega)]⟩

/-- What is known where Has has told of both, and Without of the lines. -/
structure Prj (n i : Nat) (L Lr : List AV) (P : List Pq) (D : Int) (X : List Int) : Prop where
  hi : i < n
  hn : n ≤ 5
  hD : 0 < D
  hl : X.length = n
  hv : ∀ j, j < n → Val (gp P j) (gA X j) D
  all : hasB n L P = true ↔ ∀ y ∈ L, sat D X (ofV y)
  rest : hasB ((n : Int) - 1) Lr (P.eraseIdx i) = true ↔ ∀ x ∈ leaveL (L.map ofV) i, sat D X x
  zr : ZrL (fun j => n ≤ j) (L.map ofV)

theorem prj_of {n i : Nat} {L Lr : List AV} {P : List Pq} (hi : i < n) (hc : rwE n L i = 0) (hm : Lr.map lnV = leftL n i L) (h1 : hasE n L P = 0) (h2 : hasE ((n : Int) - 1) Lr (P.eraseIdx i) = 0) : ∃ D X, Prj n i L Lr P D X := by
  obtain ⟨c1, c2, c3, c4⟩ := has_zero h1
  obtain ⟨⟨_, n5⟩, _, hval⟩ := chk_valid c1
  have hn : n ≤ 5 := by omega
  have hp : P.length = n := by omega
  obtain ⟨D, X, hD, hXl, hX⟩ := pt_of P c3
  have zr := ofV_zr hval hn
  have zr2 := leave_zr zr i
  have em : Lr.map lnV = (leaveL (L.map ofV) i).map (erL n i) := by
    rw [hm]
    unfold leftL
    rw [if_pos hc]
    have := woL_rwL (n := (n : Int)) (I := (i : Int)) (L := L) (R := L) rfl c1 ⟨by omega, by omega⟩
    simpa using this.symm
  have e1 : ((n : Int) - 1) = ((n - 1 : Nat) : Int) := by omega
  refine ⟨D, X, hi, hn, hD, by omega, fun j hj => hX j (by omega), has_sat h1 hD hX hn, ?_, zr⟩
  rw [e1] at h2 ⊢
  have hX' : ∀ j, j < (P.eraseIdx i).length → Val (gp (P.eraseIdx i) j) (gA (X.eraseIdx i) j) D := fun j hj => by
    rw [List.length_eraseIdx_of_lt (by omega)] at hj
    rw [gp_erase, gA_erase]
    split
    · exact hX j (by omega)
    · exact hX (j + 1) (by omega)
  rw [has_sat h2 hD hX' (by omega)]
  constructor
  · intro h x hx
    have hme : erL n i x ∈ Lr.map lnV := by rw [em]; exact List.mem_map.2 ⟨x, hx, rfl⟩
    obtain ⟨y, hy, e⟩ := List.mem_map.1 hme
    have z := zr2 x hx
    exact (sat_erase hi hn z.1 (z.2 i (Or.inr rfl)) (fun j hj => z.2 j (Or.inl hj)) e).1 (h y hy)
  · intro h y hy
    have hme : lnV y ∈ (leaveL (L.map ofV) i).map (erL n i) := by rw [← em]; exact List.mem_map.2 ⟨y, hy, rfl⟩
    obtain ⟨x, hx, e⟩ := List.mem_map.1 hme
    have z := zr2 x hx
    exact (sat_erase hi hn z.1 (z.2 i (Or.inr rfl)) (fun j hj => z.2 j (Or.inl hj)) e.symm).2 (h x hx)

theorem prj_down {n i : Nat} {L Lr : List AV} {P : List Pq} {D : Int} {X : List Int} (h : Prj n i L Lr P D X) (ha : hasB n L P = true) : hasB ((n : Int) - 1) Lr (P.eraseIdx i) = true :=
  h.rest.2 (leave_sat h.hD (fun x hx => (h.zr x hx).1) fun x hx => by
    obtain ⟨y, hy, rfl⟩ := List.mem_map.1 hx
    exact h.all.1 ha y hy)

/-- The lines that fix the other coordinates below t. -/
def addL (n i : Nat) (P : List Pq) : Nat → List Ln
  | 0 => []
  | t + 1 => addL n i P t ++ (if t = i then [] else [⟨(List.replicate n 0).set t 1, (gp P t).1, false⟩, ⟨(List.replicate n 0).set t (-1), -(gp P t).1, false⟩])

theorem mem_addL {n i : Nat} {P : List Pq} {x : Ln} : ∀ {t}, x ∈ addL n i P t → ∃ j, j < t ∧ j ≠ i ∧ (x = ⟨(List.replicate n 0).set j 1, (gp P j).1, false⟩ ∨ x = ⟨(List.replicate n 0).set j (-1), -(gp P j).1, false⟩)
  | 0, h => by simp [addL] at h
  | t + 1, h => by
    unfold addL at h
    rcases List.mem_append.1 h with h | h
    · obtain ⟨j, h1, h2, h3⟩ := mem_addL h
      exact ⟨j, by omega, h2, h3⟩
    · by_cases e : t = i
      · rw [if_pos e] at h; simp at h
      · rw [if_neg e] at h
        simp only [List.mem_cons, List.not_mem_nil, or_false] at h
        exact ⟨t, by omega, e, h⟩

theorem tidy_cases {l : List Ln} {x : Ln} (h : x ∈ tidyL l) : x = bad0 ∨ x.a ≠ z6 := by
  rw [tidyL_ins] at h
  split at h
  · rw [List.mem_singleton] at h; exact Or.inl h
  · have h2 := (((insL_ok (keepL l)).2 x).1 h).1
    unfold keepL at h2
    have := (List.mem_filter.1 h2).2
    exact Or.inr (by simpa using this)

theorem sh_tidy {l : List Ln} {n : Nat} : ∀ k, ∃ m, shL l n k = tidyL m
  | 0 => ⟨l, rfl⟩
  | _k + 1 => ⟨_, rfl⟩

theorem sh_far {l : List Ln} {n m : Nat} (h : ZrL (fun j => n ≤ j) l) : ∀ k, ZrL (fun j => n ≤ j) (shL l m k)
  | 0 => tidy_zr h
  | k + 1 => fun x hx => by
    have := leave_zr (sh_far h k) (m - 1 - k) x hx
    exact ⟨this.1, fun j hj => this.2 j (Or.inl hj)⟩

/-- A list that a point meets is not told to be empty. -/
theorem not_empty {D : Int} {X : List Int} {n : Nat} {l : List Ln} (hD : 0 < D) (hz : ZrL (fun j => n ≤ j) l) (hs : ∀ x ∈ l, sat D X x) : empB l n = false := by
  unfold empB
  refine decide_eq_false fun hpos => ?_
  obtain ⟨x, hx⟩ := List.exists_mem_of_length_pos hpos
  have h6 := fun x hx => (hz x hx).1
  have h1 := sh_zr h6 n n (Nat.le_refl _) x hx
  have h2 := sh_far hz n x hx
  have h3 := sh_sat hD h6 hs n n (Nat.le_refl _) x hx
  have ha : x.a = z6 := gA_ext (by rw [h1.1]; rfl) fun j hj => by
    rw [gA_z6]
    by_cases q : j < n
    · exact h1.2 j (by omega)
    · exact h2.2 j (by omega)
  obtain ⟨m, e⟩ := sh_tidy (l := l) (n := n) n
  rw [e] at hx
  rcases tidy_cases hx with rfl | h
  · unfold sat bad0 at h3
    simp only [if_true] at h3
    rw [dot_zero X gA_z6] at h3
    omega
  · exact absurd ha h

theorem gA_unit (n j : Nat) (v : Int) (hj : j < n) (k : Nat) : gA ((List.replicate n (0 : Int)).set j v) k = if k = j then v else 0 := by
  unfold gA
  rw [List.getD_eq_getElem?_getD]
  by_cases e : k = j
  · subst e; rw [List.getElem?_set_self (by simpa using hj), if_pos rfl]; rfl
  · rw [List.getElem?_set_ne (fun q => e q.symm), if_neg e, List.getElem?_replicate]
    split <;> rfl

theorem dot_unit {a X : List Int} {j : Nat} {v : Int} (h : ∀ k, gA a k = if k = j then v else 0) : ∀ t, dotN a X t = if j < t then v * gA X j else 0
  | 0 => by simp [dotN]
  | t + 1 => by
    show dotN a X t + gA a t * gA X t = _
    rw [dot_unit h t, h t]
    rcases Nat.lt_trichotomy t j with q | q | q
    · rw [if_neg (by omega), if_neg (by omega), if_neg (by omega)]; simp
    · subst q; rw [if_neg (by omega), if_pos rfl, if_pos (by omega)]; omega
    · rw [if_pos q, if_neg (by omega), if_pos (by omega)]; omega

/-- Where the point without the coordinate meets what Without returns, the lines with the values of the others are not empty. -/
theorem prj_back {n i : Nat} {L Lr K : List AV} {P : List Pq} {D : Int} {X : List Int} (h : Prj n i L Lr P D X) (hr : hasB ((n : Int) - 1) Lr (P.eraseIdx i) = true) (hd : ∀ j, j < n → j ≠ i → (gp P j).2 = 1) (hK : K.map lnV = L.map lnV ++ addL n i P n) : empB (K.map ofV) n = false := by
  have hs := h.rest.1 hr
  have zr2 := leave_zr h.zr i
  -- the coordinate itself does not count
  have hs0 : ∀ x ∈ leaveL (L.map ofV) i, sat D (X.set i 0) x := fun x hx => by
    have := hs x hx
    have z := (zr2 x hx).2 i (Or.inr rfl)
    have e : dotN x.a X 6 = dotN x.a (X.set i 0) 6 := by
      have hXi : X.set i (gA X i) = X := by
        refine gA_ext (by simp) fun j hj => ?_
        unfold gA
        rw [List.getD_eq_getElem?_getD]
        by_cases e : j = i
        · subst e; rw [List.getElem?_set_self (by rw [h.hl]; exact h.hi)]; rfl
        · rw [List.getElem?_set_ne (fun q => e q.symm), ← List.getD_eq_getElem?_getD]
      have := dot_set (a := x.a) (X := X) (i := i) (by rw [h.hl]; exact h.hi) (gA X i) 6
      rw [hXi, z] at this
      simpa using this
    unfold sat at this ⊢
    rw [← e]; exact this
  have hg0 : gA (X.set i 0) i = 0 := by
    unfold gA
    rw [List.getD_eq_getElem?_getD, List.getElem?_set_self (by rw [h.hl]; exact h.hi)]; rfl
  have hi := h.hi
  have hn := h.hn
  obtain ⟨Q, v, hQ, hall⟩ := leave_back h.hD (fun x hx => (h.zr x hx).1) (by simp; rw [h.hl]; exact hi) hg0 (by omega) hs0
  have hDQ := Int.mul_pos h.hD hQ
  have hX2 : ∀ j, j ≠ i → gA (((X.set i 0).map (· * Q)).set i v) j = gA X j * Q := fun j hj => by
    have e1 : gA (((X.set i 0).map (· * Q)).set i v) j = gA ((X.set i 0).map (· * Q)) j := by
      unfold gA
      rw [List.getD_eq_getElem?_getD, List.getElem?_set_ne (fun q => hj q.symm), ← List.getD_eq_getElem?_getD]
    have e2 : gA (X.set i 0) j = gA X j := by
      unfold gA
      rw [List.getD_eq_getElem?_getD, List.getElem?_set_ne (fun q => hj q.symm), ← List.getD_eq_getElem?_getD]
    rw [e1, gA_scale, e2]
  have hmem : ∀ x ∈ K.map ofV, (∃ y ∈ L, x = ofV y) ∨ ∃ z ∈ addL n i P n, x = ⟨z.a ++ List.replicate (6 - z.a.length) 0, z.b, z.s⟩ := fun x hx => by
    obtain ⟨k, hk, rfl⟩ := List.mem_map.1 hx
    have : lnV k ∈ L.map lnV ++ addL n i P n := by rw [← hK]; exact List.mem_map.2 ⟨k, hk, rfl⟩
    rcases List.mem_append.1 this with q | q
    · obtain ⟨y, hy, e⟩ := List.mem_map.1 q
      refine Or.inl ⟨y, hy, ?_⟩
      obtain ⟨a1, a2, a3⟩ := lnV_eq.1 e
      unfold ofV
      rw [a1, a2, a3]
    · exact Or.inr ⟨lnV k, q, rfl⟩
  refine not_empty (D := D * Q) (X := ((X.set i 0).map (· * Q)).set i v) hDQ (fun x hx => ?_) (fun x hx => ?_)
  · rcases hmem x hx with ⟨y, hy, rfl⟩ | ⟨z, hz, rfl⟩
    · exact h.zr _ (List.mem_map.2 ⟨y, hy, rfl⟩)
    · obtain ⟨j, h1, h2, h3⟩ := mem_addL hz
      have hl : z.a.length = n := by rcases h3 with rfl | rfl <;> simp
      exact ⟨by simp; omega, fun k hk => by show gA (z.a ++ _) k = 0; rw [gA_pad, gA_out (by omega)]⟩
  · rcases hmem x hx with ⟨y, hy, rfl⟩ | ⟨z, hz, rfl⟩
    · exact hall _ (List.mem_map.2 ⟨y, hy, rfl⟩)
    · obtain ⟨j, h1, h2, h3⟩ := mem_addL hz
      have hv := (h.hv j h1).2
      rw [hd j h1 h2] at hv
      have hXj : gA X j * Q = (gp P j).1 * (D * Q) := by
        rw [Int.mul_one] at hv
        rw [← Int.mul_assoc, hv]
      unfold sat
      rcases h3 with rfl | rfl
      · simp only [Bool.false_eq_true, if_false]
        rw [dot_unit (j := j) (v := 1) (fun k => by rw [gA_pad, gA_unit n j 1 h1]) 6, if_pos (by omega), hX2 j h2, hXj, Int.one_mul]; exact Int.le_refl _
      · simp only [Bool.false_eq_true, if_false]
        rw [dot_unit (j := j) (v := -1) (fun k => by rw [gA_pad, gA_unit n j (-1) h1]) 6, if_pos (by omega), hX2 j h2, hXj, Int.neg_mul, Int.neg_mul, Int.one_mul]; exact Int.le_refl _
end Go.Proofs.YtefpaobboimakaaGreat

namespace Go.Proofs.YtefpaobboimakaaGreat
open Go.RowKit Go.Sort Go.Shelf

/-- The numbers of a line fit. -/
def LineJ (y : AV) : Prop := (∀ v ∈ y.a, I64 v) ∧ I64 y.b

theorem cut_hiQ (w : World) (a : Addr) (m c k : Nat) (hk : k ≤ c) : (Instr.sliceAt 26 (.slice (some a) m c) none (some (.int .i64 k)) none).run Tryz.prog w = .ok (.slice (some a) k c) w := by
  have he : Tryz.prog.elem 26 = 50 := by simp [Program.elem]
  rw [run_sliceAt_slice w _ _ _ _ _ (by rw [he]; exact Tryz.underlying26), run_slice_h w _ _ _ _ (by rw [he]; exact Tryz.underlying26) .i64 k (by omega) (by omega), he, size_of rat_size]
  simp only [Result.andThen_ok, sliced, Int.toNat_natCast]
  by_cases h : c - 0 = 0
  · simp [h]; try omega
  · rw [if_neg (by omega)]
    simp [Addr.add]

theorem cut_loQ (w : World) (a : Addr) (m c k : Nat) (kI : Int) (hkI : kI = (k : Int)) (hk : k ≤ m) (_hm : m ≤ c) : (Instr.sliceAt 26 (.slice (some a) m c) (some (.int .i64 kI)) none none).run Tryz.prog w = .ok (.slice (some (if c = k then a else a.add (k * 2))) (m - k) (c - k)) w := by
  subst hkI
  have he : Tryz.prog.elem 26 = 50 := by simp [Program.elem]
  rw [run_sliceAt_slice w _ _ _ _ _ (by rw [he]; exact Tryz.underlying26), run_slice_l w _ _ _ _ (by rw [he]; exact Tryz.underlying26) .i64 k (by omega) (by omega), he, size_of rat_size]
  simp only [Result.andThen_ok, sliced, Int.toNat_natCast]
  by_cases h : c = k
  · rw [if_pos (by omega), if_pos h]
  · rw [if_neg (by omega), if_neg h]; simp

theorem wpl_hiQ {ops : Array Oper} {rest : List Oper} {o : Oper} {ac : Act} {w : World} {Q : Exit → Act → World → Prop} (hgd : o.guard = none) (s k : Operand) (ho : o.op = .slice 26 s none (some k) none) (a : Addr) (m c kk : Nat) (kI : Int) (hs : ac.eval s = .slice (some a) m c) (hk : ac.eval k = .int .i64 kI) (hkI : kI = (kk : Int)) (hle : kk ≤ c)
    (h : wpList Tryz.prog ops Q rest (ac.put o.dst (.slice (some a) kk c)) w) : wpList Tryz.prog ops Q (o :: rest) ac w := by
  subst hkI
  have hv := cut_hiQ w a m c kk hle
  refine wpList_plain hgd fun K hK => ?_
  unfold Oper.wp execOp
  simp only [ho, hs, hk, Option.map_none, Option.map_some, Sem.run_bind, hv, Result.andThen_ok, Sem.run_pure]
  exact hK _ _ h

theorem wpl_loQ {ops : Array Oper} {rest : List Oper} {o : Oper} {ac : Act} {w : World} {Q : Exit → Act → World → Prop} (hgd : o.guard = none) (s k : Operand) (ho : o.op = .slice 26 s (some k) none none) (a : Addr) (m c kk : Nat) (kI : Int) (hs : ac.eval s = .slice (some a) m c) (hk : ac.eval k = .int .i64 kI) (hkI : kI = (kk : Int)) (hle : kk ≤ m) (hm : m ≤ c)
    (PA : Addr) (hPA : (if c = kk then a else a.add (kk * 2)) = PA) (h : wpList Tryz.prog ops Q rest (ac.put o.dst (.slice (some PA) (m - kk) (c - kk))) w) : wpList Tryz.prog ops Q (o :: rest) ac w := by
  have hv := cut_loQ w a m c kk kI hkI hle hm
  rw [hPA] at hv
  refine wpList_plain hgd fun K hK => ?_
  unfold Oper.wp execOp
  simp only [ho, hs, hk, Option.map_none, Option.map_some, Sem.run_bind, hv, Result.andThen_ok, Sem.run_pure]
  exact hK _ _ h

theorem OwnQ.empty (w : World) (B : Nat) (hB : B ≤ w.heap.size) : OwnQ (w.alloc (.cells #[] 50)) B (.slice (some ⟨w.heap.size, 0, none⟩) 0 0) [] := World.ownsRow_made w #[] 0 hB (Nat.zero_le _) (by simp)

theorem run_bq0 (w : World) : (Instr.buildSlice 26 0 #[]).run Tryz.prog w = .ok (.slice (some ⟨w.heap.size, 0, none⟩) 0 0) (w.alloc (.cells #[] 50)) := by
  have hz : (zeroValue 50).run Tryz.prog w = .ok (.agg #[.int .i64 0, .int .i64 0]) w := (zero_of_info (show (Tryz.prog.info? 50).map (fun i => (i.zero, i.size)) = some (some (.agg #[.int .i64 0, .int .i64 0]), 2) by kernel_rfl)).1 w
  have hs := size_of rat_size w
  simp [go_sem, Instr.buildSlice, run_underlying Tryz.underlying26, hs, Instr.fill]

theorem wpl_bq0 {w : World} {ops : Array Oper} {rest : List Oper} {o : Oper} {a : Act} {Q : Exit → Act → World → Prop} (hgd : o.guard = none) (ho : o.op = .buildSlice 26 0 #[])
    (h : wpList Tryz.prog ops Q rest (a.put o.dst (.slice (some ⟨w.heap.size, 0, none⟩) 0 0)) (w.alloc (.cells #[] 50))) : wpList Tryz.prog ops Q (o :: rest) a w := by
  have hv := run_bq0 w
  refine wpList_plain hgd fun K hK => ?_
  unfold Oper.wp execOp
  simp only [ho]
  simp [hv, Result.andThen]
  exact hK _ _ h

theorem rd2_cells {w : World} {p : Addr} {m : List Pq} (h : Rd2 w (some p) m) : ∀ j u, (qV m)[j]? = some u → w.cell? (p.add j) = some u := fun j u hu => by
  have hj : j < m.length * 2 := by
    have := (List.getElem?_eq_some_iff.1 hu).1
    rwa [qV_len] at this
  obtain ⟨p', e, c0, c1⟩ := h (j / 2) (by omega)
  cases e
  obtain ⟨q0, q1⟩ := qV_at m (j / 2) (by omega)
  have ad : ∀ t : Nat, (p.add t).add 1 = p.add (t + 1) := fun t => by
    cases t with
    | zero => rfl
    | succ t => simp [Addr.add, Nat.add_assoc]
  rcases Nat.mod_two_eq_zero_or_one j with e | e
  · have ej : j / 2 * 2 = j := by omega
    rw [ej] at c0 q0
    rw [q0] at hu
    cases hu
    simpa [Addr.add] using c0
  · have ej : j / 2 * 2 + 1 = j := by omega
    rw [ad, ej] at c1
    rw [ej] at q1
    rw [q1] at hu
    cases hu
    exact c1

theorem appQm_run {w : World} {B : Nat} {v : Value} {l m : List Pq} (hown : OwnQ w B v l) {p : Addr} {c : Nat} (hR : Rd2 w (some p) m) (hle : l.length + m.length ≤ 2000000) (hB : B ≤ w.heap.size) (ty : TypeId) :
    ∃ v' w', (Builtin.append_ #[26, 26] ty #[v, .slice (some p) m.length c]).run Tryz.prog w = .ok v' w' ∧ OwnQ w' B v' (l ++ m) ∧ w.grownBy w' v.ownBlock := by
  obtain ⟨i0, hi, hz0, hz1, hz2⟩ := info_parts rat_info
  obtain ⟨v', w', hr, h2, h3, _, _⟩ := run_append_own_at (P := Tryz.prog) w B 26 ty 50 i0 (.agg #[.int .i64 0, .int .i64 0]) 2 16 Tryz.underlying26 hi hz0 hz1 hz2 (by rfl) (by decide) v l.length _ hown p m.length c (qV m)
    (qV_len m) (rd2_cells hR) (fun u hu => by
      unfold qV at hu
      obtain ⟨y, _, h⟩ := List.mem_flatMap.1 hu
      simp only [List.mem_cons, List.not_mem_nil, or_false] at h
      rcases h with rfl | rfl <;> rfl) (by unfold maxLen; omega) (by omega) hB
  refine ⟨v', w', hr, ?_, h3⟩
  unfold OwnQ
  rw [qV_app, List.length_append]; exact h2

theorem wpl_appQm {ops : Array Oper} {rest : List Oper} {o : Oper} {a : Act} {w : World} {Q : Exit → Act → World → Prop} (hgd : o.guard = none) (s x : Operand) (ho : o.op = .call { callee := .builtin .append, args := #[s, x], argTypes := #[26, 26] }) (B : Nat) (v : Value) (l m : List Pq) (n : Nat) (hn : n = m.length) (hs : a.eval s = v) (hown : OwnQ w B v l) (p : Addr) (c : Nat) (hx : a.eval x = .slice (some p) n c) (hR : Rd2 w (some p) m)
    (hle : l.length + m.length ≤ 2000000) (hB : B ≤ w.heap.size) (h : ∀ v' w', OwnQ w' B v' (l ++ m) → w.grownBy w' v.ownBlock → wpList Tryz.prog ops Q rest (a.put o.dst v') w') : wpList Tryz.prog ops Q (o :: rest) a w := by
  subst hn
  obtain ⟨v', w', hr, h1, h2⟩ := appQm_run hown hR hle hB (c := c) o.type
  have hk := h v' w' h1 h2
  refine wpList_plain hgd fun K hK => ?_
  unfold Oper.wp
  simp [execOp, ho, resolve, invoke, builtin, hs, hx, hr, Result.andThen]
  exact hK _ _ hk

theorem OwnQ.lt {w : World} {B : Nat} {v : Value} {l : List Pq} (h : OwnQ w B v l) : ∀ k, v.ownBlock = some k → B ≤ k := fun k hk => (World.ownsRow.lt h k hk).1

theorem Rd2.take {w : World} {q : Option Addr} {a : List Pq} (h : Rd2 w q a) (i : Nat) : Rd2 w q (a.take i) := fun t ht => by
  simp at ht
  obtain ⟨p, e, c⟩ := h t (by omega)
  refine ⟨p, e, ?_⟩
  have : gp (a.take i) t = gp a t := by
    unfold gp
    rw [List.getD_eq_getElem?_getD, List.getElem?_take, if_pos (by omega), ← List.getD_eq_getElem?_getD]
  rw [this]; exact c

theorem Rd2.drop {w : World} {p : Addr} {a : List Pq} (h : Rd2 w (some p) a) (k c : Nat) (hk : 0 < k) (hc : a.length ≤ c) : Rd2 w (some (if c = k then p else p.add (k * 2))) (a.drop k) := fun t ht => by
  simp at ht
  obtain ⟨p', e, q⟩ := h (k + t) (by omega)
  cases e
  rw [if_neg (by omega)]
  refine ⟨_, rfl, ?_⟩
  have e1 : (p.add (k * 2)).add (t * 2) = p.add ((k + t) * 2) := by
    have hk2 : k * 2 ≠ 0 := by omega
    by_cases ht0 : t = 0
    · subst ht0; simp [Addr.add]
    · simp [Addr.add, hk2, Nat.add_mul, Nat.add_assoc]
      try omega
  rw [e1]
  have : gp (a.drop k) t = gp a (k + t) := by
    unfold gp
    rw [List.getD_eq_getElem?_getD, List.getElem?_drop, ← List.getD_eq_getElem?_getD]
  rw [this]; exact q

/-- Two lines at a place. -/
theorem appendV2_run {w : World} {B : Nat} {v : Value} {L : List AV} (hown : OwnV w B v L) {b c : Nat} {x y : AV} (hc : ∀ j u, (x.cells ++ y.cells)[j]? = some u → w.cell? ⟨b, j, none⟩ = some u) (hX : GoodV w v.ownBlock x) (hY : GoodV w v.ownBlock y) (hle : L.length + 2 ≤ 1000000) (hB : B ≤ w.heap.size) (ty : TypeId) :
    ∃ v' w', (Builtin.append_ #[22, 22] ty #[v, .slice (some ⟨b, 0, none⟩) 2 c]).run Tryz.prog w = .ok v' w' ∧ OwnV w' B v' (L ++ [x, y]) ∧ w.grownBy w' v.ownBlock ∧ (v'.ownBlock = v.ownBlock ∨ v'.ownBlock = some w.heap.size) := by
  obtain ⟨i0, hi, hz0, hz1, hz2⟩ := info_parts av_info3
  obtain ⟨v', w', hr, h2, h3, _, h5⟩ := run_append_own_at (P := Tryz.prog) w B 22 ty 25 i0 (.agg av0.cs) 3 40 Tryz.underlying22 hi hz0 hz1 hz2 (by rfl) (by decide) v L.length _ hown.row ⟨b, 0, none⟩ 2 c (x.cells ++ y.cells)
    (by rw [List.length_append, av_len, av_len]) (fun j u hu => by rw [addr_add, Nat.zero_add]; exact hc j u hu) (by simp [AV.cells, Value.oneCell']) (by unfold maxLen; omega) (by omega) hB
  have hA : ∀ z, z ∈ L ++ [x, y] → Rd1 w z.q z.a ∧ (∀ p, z.q = some p → v.ownBlock ≠ some p.block ∧ p.block < w.heap.size) ∧ NilOk z := fun z hz => by
    rcases List.mem_append.1 hz with q | q
    · exact ⟨hown.nums z q, hown.far z q, hown.nil z q⟩
    · simp only [List.mem_cons, List.not_mem_nil, or_false] at q
      rcases q with rfl | rfl
      · exact ⟨hX.nums, hX.far, hX.nil⟩
      · exact ⟨hY.nums, hY.far, hY.nil⟩
  refine ⟨v', w', hr, ⟨?_, fun z hz => ?_, fun z hz p e => ?_, fun z hz => (hA z hz).2.2⟩, h3, h5⟩
  · rw [List.flatMap_append, List.length_append]; simpa using h2
  · exact (hA z hz).1.grown h3 (fun p e => ((hA z hz).2.1 p e).1)
  · have := (hA z hz).2.1 p e
    refine ⟨?_, Nat.lt_of_lt_of_le this.2 h3.size⟩
    rcases h5 with h5 | h5
    · rw [h5]; exact this.1
    · rw [h5]; intro e2; injection e2 with e2; omega

theorem run_bv2 (x y : AV) (w : World) : (Instr.buildSlice 22 2 #[(0, .agg x.cs), (1, .agg y.cs)]).run Tryz.prog w = .ok (.slice (some ⟨w.heap.size, 0, none⟩) 2 2) (w.alloc (.cells (x.cs ++ y.cs) 25)) := by
  have hz := av_zero w
  have hs := size_of av_size w
  simp [go_sem, Instr.buildSlice, run_underlying Tryz.underlying22, hs, AV.cs, AV.cells, Instr.fill]

theorem wp_bv2 {w : World} {o : Oper} {a : Act} {K : Act → World → Prop} {Q : Exit → Act → World → Prop} (s t : Operand) (ho : o.op = .buildSlice 22 2 #[(0, s), (1, t)]) (x y : AV) (hs : a.eval s = .agg x.cs) (ht : a.eval t = .agg y.cs)
    (h : K (a.put o.dst (.slice (some ⟨w.heap.size, 0, none⟩) 2 2)) (w.alloc (.cells (x.cs ++ y.cs) 25))) : o.wp Tryz.prog a w K Q := by
  have hv := run_bv2 x y w
  generalize x.cs = X at *
  generalize y.cs = Y at *
  unfold Oper.wp execOp
  simp only [ho]
  simp [hs, ht, hv, Result.andThen]
  exact h

theorem two_av (w : World) (x y : AV) : ∀ j u, (x.cells ++ y.cells)[j]? = some u → (w.alloc (.cells (x.cs ++ y.cs) 25)).cell? ⟨w.heap.size, j, none⟩ = some u := fun j u hu => by
  rw [cell_of_row _ _ j _ _ _ (heap_alloc_last w _)]
  simpa [AV.cs] using hu

theorem run_ms (w : World) (n : Nat) (hn : n ≤ 1000) : (Instr.makeSlice 23 (.int .i64 n) (.int .i64 n)).run Tryz.prog w = .ok (.slice (some ⟨w.heap.size, 0, none⟩) n n) (w.alloc (.cells (List.replicate n (Value.int .i64 0)).toArray 2)) := make_ints0 w n hn

theorem wp_ms {w : World} {o : Oper} {a : Act} {K : Act → World → Prop} {Q : Exit → Act → World → Prop} (s t : Operand) (ho : o.op = .makeSlice 23 s t) (n : Nat) (hn : n ≤ 1000) (hs : a.eval s = .int .i64 n) (ht : a.eval t = .int .i64 n)
    (h : K (a.put o.dst (.slice (some ⟨w.heap.size, 0, none⟩) n n)) (w.alloc (.cells (List.replicate n (Value.int .i64 0)).toArray 2))) : o.wp Tryz.prog a w K Q := by
  have hv := run_ms w n hn
  unfold Oper.wp execOp
  simp only [ho, hs, ht]
  have e : (List.replicate n (Value.int .i64 0)).toArray = Array.replicate n (Value.int .i64 0) := by simp
  rw [e] at h
  simp [hv, Result.andThen]
  exact h
end Go.Proofs.YtefpaobboimakaaGreat
