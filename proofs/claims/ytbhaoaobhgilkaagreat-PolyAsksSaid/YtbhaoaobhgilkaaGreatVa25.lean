/- Plain mathematics: the tidy list made by insertion is the one made by sorting. -/
import Derived.Test.YtbhaoaobhgilkaaGreatVa9

namespace Go.Proofs.YtbhaoaobhgilkaaGreat
open Go.Sort

/-- x takes the place of y. -/
def Ln.over (x y : Ln) : Bool := decide (x.b < y.b) || (decide (x.b = y.b) && x.s)

def insN (x : Ln) : List Ln → List Ln
  | [] => [x]
  | y :: r => if cmpL y.a x.a < 0 then y :: insN x r else if y.a = x.a then (if x.over y then x :: r else y :: r) else x :: y :: r

def Srt (l : List Ln) : Prop := l.Pairwise fun x y => x.a < y.a

theorem lim_inj {x y : Ln} (h : x.lim = y.lim) : x.b = y.b ∧ x.s = y.s := by
  unfold Ln.lim at h
  revert h
  cases x.s <;> cases y.s <;> simp <;> omega

theorem ln_ext {x y : Ln} (h : x.a = y.a) (k : x.lim = y.lim) : x = y := by
  obtain ⟨p, q⟩ := lim_inj k
  cases x; cases y; simp_all

theorem over_iff {x y : Ln} : x.over y = true ↔ x.lim < y.lim ∨ (x.lim = y.lim ∧ x.s = true) := by
  unfold Ln.over Ln.lim
  cases x.s <;> cases y.s <;> simp <;> omega

theorem lt_irr (l : List Int) : ¬ l < l := fun h => by have := cmpL_lt.2 h; rw [cmpL_zero.2 rfl] at this; omega

theorem lt_ne {l m : List Int} (h : l < m) : l ≠ m := fun e => lt_irr m (e ▸ h)

theorem lt_tr {l m k : List Int} (h : l < m) (h' : m < k) : l < k := List.lt_trans h h'

/-- Two lists in order that have the same elements are equal. -/
theorem srt_eq : ∀ {l m : List Ln}, Srt l → Srt m → (∀ z, z ∈ l ↔ z ∈ m) → l = m
  | [], [], _, _, _ => rfl
  | [], y :: r, _, _, h => absurd ((h y).2 (by simp)) (by simp)
  | x :: r, [], _, _, h => absurd ((h x).1 (by simp)) (by simp)
  | x :: r, y :: s, hl, hm, h => by
    obtain ⟨h1, h2⟩ := List.pairwise_cons.1 hl
    obtain ⟨k1, k2⟩ := List.pairwise_cons.1 hm
    have e : x = y := by
      rcases List.mem_cons.1 ((h x).1 (by simp)) with q | q
      · exact q
      · rcases List.mem_cons.1 ((h y).2 (by simp)) with p | p
        · exact p.symm
        · exact absurd (lt_tr (k1 x q) (h1 y p)) (lt_irr _)
    subst e
    rw [srt_eq h2 k2 fun z => ?_]
    constructor
    · intro q
      rcases List.mem_cons.1 ((h z).1 (by simp [q])) with p | p
      · subst p; exact absurd (h1 z q) (lt_irr _)
      · exact p
    · intro q
      rcases List.mem_cons.1 ((h z).2 (by simp [q])) with p | p
      · subst p; exact absurd (k1 z q) (lt_irr _)
      · exact p

/-- The elements behind an insertion. -/
theorem ins_mem {x : Ln} : ∀ {l : List Ln}, Srt l → ∀ z, z ∈ insN x l ↔ (z ∈ l ∧ (z.a = x.a → z.lim ≤ x.lim)) ∨ (z = x ∧ ∀ y ∈ l, y.a = x.a → x.lim ≤ y.lim)
  | [], _, z => by simp [insN]
  | y :: r, hl, z => by
    obtain ⟨h1, h2⟩ := List.pairwise_cons.1 hl
    have ih := ins_mem (x := x) h2 z
    unfold insN
    split
    · rename_i c
      have c := cmpL_lt.1 c
      rw [List.mem_cons, ih]
      constructor
      · rintro (rfl | (⟨p, q⟩ | ⟨p, q⟩))
        · exact Or.inl ⟨by simp, fun e => absurd e (lt_ne c)⟩
        · exact Or.inl ⟨by simp [p], q⟩
        · refine Or.inr ⟨p, fun u hu e => ?_⟩
          rcases List.mem_cons.1 hu with rfl | hu
          · exact absurd e (lt_ne c)
          · exact q u hu e
      · rintro (⟨p, q⟩ | ⟨p, q⟩)
        · rcases List.mem_cons.1 p with rfl | p
          · exact Or.inl rfl
          · exact Or.inr (Or.inl ⟨p, q⟩)
        · exact Or.inr (Or.inr ⟨p, fun u hu e => q u (by simp [hu]) e⟩)
    · rename_i c
      split
      · rename_i e
        have far : ∀ u ∈ r, u.a ≠ x.a := fun u hu e' => lt_ne (h1 u hu) (e.trans e'.symm)
        split
        · rename_i o
          have o := over_iff.1 o
          rw [List.mem_cons]
          constructor
          · rintro (rfl | p)
            · refine Or.inr ⟨rfl, fun u hu e' => ?_⟩
              rcases List.mem_cons.1 hu with rfl | hu
              · omega
              · exact absurd e' (far u hu)
            · exact Or.inl ⟨by simp [p], fun e' => absurd e' (far z p)⟩
          · rintro (⟨p, q⟩ | ⟨p, q⟩)
            · rcases List.mem_cons.1 p with rfl | p
              · have := q e
                exact Or.inl (ln_ext e (by omega))
              · exact Or.inr p
            · exact Or.inl p
        · rename_i o
          have o : y.lim ≤ x.lim := by
            rcases Int.lt_or_le x.lim y.lim with h | h
            · exact absurd (over_iff.2 (Or.inl h)) o
            · exact h
          rw [List.mem_cons]
          constructor
          · rintro (rfl | p)
            · exact Or.inl ⟨by simp, fun _ => o⟩
            · exact Or.inl ⟨by simp [p], fun e' => absurd e' (far z p)⟩
          · rintro (⟨p, q⟩ | ⟨p, q⟩)
            · first | exact List.mem_cons.1 p | exact p
            · subst p
              have := q y (by simp) e
              exact Or.inl (ln_ext e.symm (by omega))
      · rename_i e
        have c : x.a < y.a := by
          rcases list_tri x.a y.a with h | h | h
          · exact h
          · exact absurd h.symm e
          · exact absurd (cmpL_lt.2 h) c
        have far : ∀ u ∈ y :: r, u.a ≠ x.a := fun u hu e' => by
          rcases List.mem_cons.1 hu with rfl | hu
          · exact e e'
          · exact lt_ne (lt_tr c (h1 u hu)) e'.symm
        rw [List.mem_cons]
        constructor
        · rintro (rfl | p)
          · exact Or.inr ⟨rfl, fun u hu e' => absurd e' (far u hu)⟩
          · exact Or.inl ⟨p, fun e' => absurd e' (far z p)⟩
        · rintro (⟨p, _⟩ | ⟨p, _⟩)
          · exact Or.inr p
          · exact Or.inl p

theorem ins_srt {x : Ln} : ∀ {l : List Ln}, Srt l → Srt (insN x l)
  | [], _ => by simp [insN, Srt]
  | y :: r, hl => by
    obtain ⟨h1, h2⟩ := List.pairwise_cons.1 hl
    unfold insN
    split
    · rename_i c
      have c := cmpL_lt.1 c
      refine List.pairwise_cons.2 ⟨fun z hz => ?_, ins_srt h2⟩
      rcases (ins_mem h2 z).1 hz with ⟨p, _⟩ | ⟨p, _⟩
      · exact h1 z p
      · rw [p]; exact c
    · rename_i c
      split
      · rename_i e
        split
        · exact List.pairwise_cons.2 ⟨fun z hz => by rw [← e]; exact h1 z hz, h2⟩
        · exact hl
      · rename_i e
        have c : x.a < y.a := by
          rcases list_tri x.a y.a with h | h | h
          · exact h
          · exact absurd h.symm e
          · exact absurd (cmpL_lt.2 h) c
        refine List.pairwise_cons.2 ⟨fun z hz => ?_, hl⟩
        rcases List.mem_cons.1 hz with rfl | hz
        · exact c
        · exact lt_tr c (h1 z hz)

def insL (k : List Ln) : List Ln := k.foldl (fun o x => insN x o) []

def BestL (k : List Ln) (z : Ln) : Prop := z ∈ k ∧ ∀ y ∈ k, y.a = z.a → z.lim ≤ y.lim

theorem insL_snoc (k : List Ln) (x : Ln) : insL (k ++ [x]) = insN x (insL k) := by simp [insL, List.foldl_append]

theorem insL_ok (k : List Ln) : Srt (insL k) ∧ ∀ z, z ∈ insL k ↔ BestL k z := by
  suffices h : ∀ n, n ≤ k.length → Srt (insL (k.take n)) ∧ ∀ z, z ∈ insL (k.take n) ↔ BestL (k.take n) z by
    have := h k.length (Nat.le_refl _)
    rwa [List.take_length] at this
  intro n
  induction n with
  | zero => intro _; simp [insL, Srt, BestL]
  | succ n ih =>
    intro hn
    obtain ⟨h1, h2⟩ := ih (by omega)
    rw [List.take_succ_eq_append_getElem (show n < k.length by omega), insL_snoc]
    refine ⟨ins_srt h1, fun z => ?_⟩
    rw [ins_mem h1]
    generalize k[n] = x
    generalize hm : k.take n = m at *
    unfold BestL
    constructor
    · rintro (⟨p, q⟩ | ⟨p, q⟩)
      · obtain ⟨p1, p2⟩ := (h2 z).1 p
        refine ⟨by simp [p1], fun y hy e => ?_⟩
        rcases List.mem_append.1 hy with hy | hy
        · exact p2 y hy e
        · rw [List.mem_singleton] at hy; subst hy; exact q e.symm
      · subst p
        refine ⟨by simp, fun y hy e => ?_⟩
        rcases List.mem_append.1 hy with hy | hy
        · -- the best line with these coefficients stands in the list
          have hb : ∃ u ∈ insL m, u.a = z.a ∧ u.lim ≤ y.lim := by
            clear q hn
            have : ∀ (l : List Ln), (∀ y ∈ l, y ∈ m) → y ∈ l → ∃ u ∈ l, u.a = z.a ∧ u.lim ≤ y.lim ∧ ∀ v ∈ l, v.a = z.a → u.lim ≤ v.lim := by
              intro l
              induction l with
              | nil => intro _ h; simp at h
              | cons v r ihr =>
                intro hs hy
                by_cases hr : ∃ t ∈ r, t.a = z.a
                · obtain ⟨t, ht, et⟩ := hr
                  have best : ∃ u ∈ r, u.a = z.a ∧ ∀ v ∈ r, v.a = z.a → u.lim ≤ v.lim := by
                    clear ihr hs hy
                    induction r generalizing t with
                    | nil => simp at ht
                    | cons a r ihr2 =>
                      by_cases hr : ∃ t ∈ r, t.a = z.a
                      · obtain ⟨t', ht', et'⟩ := hr
                        obtain ⟨u, hu, eu, bu⟩ := ihr2 t' ht' et'
                        by_cases ea : a.a = z.a ∧ a.lim ≤ u.lim
                        · exact ⟨a, by simp, ea.1, fun v hv ev => by
                            rcases List.mem_cons.1 hv with rfl | hv
                            · omega
                            · have := bu v hv ev; omega⟩
                        · exact ⟨u, by simp [hu], eu, fun v hv ev => by
                            rcases List.mem_cons.1 hv with rfl | hv
                            · rcases Int.lt_or_le u.lim v.lim with h | h
                              · omega
                              · exact absurd ⟨ev, h⟩ ea
                            · exact bu v hv ev⟩
                      · have : t = a := by
                          rcases List.mem_cons.1 ht with h | h
                          · exact h
                          · exact absurd ⟨t, h, et⟩ hr
                        subst this
                        exact ⟨t, by simp, et, fun v hv ev => by
                          rcases List.mem_cons.1 hv with rfl | hv
                          · omega
                          · exact absurd ⟨v, hv, ev⟩ hr⟩
                  obtain ⟨u, hu, eu, bu⟩ := best
                  by_cases ev : v.a = z.a ∧ v.lim ≤ u.lim
                  · refine ⟨v, by simp, ev.1, ?_, fun t ht et => ?_⟩
                    · rcases List.mem_cons.1 hy with rfl | hy
                      · omega
                      · have := bu y hy e; omega
                    · rcases List.mem_cons.1 ht with rfl | ht
                      · omega
                      · have := bu t ht et; omega
                  · refine ⟨u, by simp [hu], eu, ?_, fun t ht et => ?_⟩
                    · rcases List.mem_cons.1 hy with rfl | hy
                      · rcases Int.lt_or_le u.lim y.lim with h | h
                        · omega
                        · exact absurd ⟨e, h⟩ ev
                      · exact bu y hy e
                    · rcases List.mem_cons.1 ht with rfl | ht
                      · rcases Int.lt_or_le u.lim t.lim with h | h
                        · omega
                        · exact absurd ⟨et, h⟩ ev
                      · exact bu t ht et
                · have : y = v := by
                    rcases List.mem_cons.1 hy with h | h
                    · exact h
                    · exact absurd ⟨y, h, e⟩ hr
                  subst this
                  exact ⟨y, by simp, e, by omega, fun t ht et => by
                    rcases List.mem_cons.1 ht with rfl | ht
                    · omega
                    · exact absurd ⟨t, ht, et⟩ hr⟩
            obtain ⟨u, hu, eu, bu, b2⟩ := this m (fun _ h => h) hy
            exact ⟨u, (h2 u).2 ⟨hu, fun v hv ev => b2 v hv (ev.trans eu)⟩, eu, bu⟩
          obtain ⟨u, hu, eu, bu⟩ := hb
          have := q u hu eu
          omega
        · rw [List.mem_singleton] at hy; subst hy; omega
    · rintro ⟨p, q⟩
      rcases List.mem_append.1 p with p | p
      · exact Or.inl ⟨(h2 z).2 ⟨p, fun y hy e => q y (by simp [hy]) e⟩, fun e => q x (by simp) e.symm⟩
      · rw [List.mem_singleton] at p
        exact Or.inr ⟨p, fun y hy e => by
          have := q y (by simp [((h2 y).1 hy).1]) (by rw [e, p])
          rw [← p]; exact this⟩

/-- The order by which lines are sorted. -/
def leN (x y : Ln) : Bool := !decide (cmpN y x < 0)

theorem leN_iff {x y : Ln} : leN x y = true ↔ x.a < y.a ∨ (x.a = y.a ∧ x.lim ≤ y.lim) := by
  unfold leN
  rw [Bool.not_eq_true', decide_eq_false_iff_not, cmpN_lt]
  constructor
  · intro h
    rcases list_tri x.a y.a with q | q | q
    · exact Or.inl q
    · right
      refine ⟨q, ?_⟩
      rcases Int.lt_or_le y.lim x.lim with p | p
      · exact absurd (Or.inr ⟨q.symm, p⟩) h
      · exact p
    · exact absurd (Or.inl q) h
  · rintro (h | ⟨h, k⟩) (q | ⟨q, p⟩)
    · exact lt_irr _ (lt_tr h q)
    · exact lt_ne h q.symm
    · exact lt_ne q h.symm
    · omega

theorem srtL_srt (k : List Ln) : (srtL k).Pairwise fun x y => leN x y = true := by
  refine List.pairwise_mergeSort (le := leN) ?_ ?_ k
  · intro a b c h h'
    rw [leN_iff] at h h' ⊢
    rcases h with h | ⟨h, p⟩ <;> rcases h' with h' | ⟨h', p'⟩
    · exact Or.inl (lt_tr h h')
    · exact Or.inl (h' ▸ h)
    · exact Or.inl (h ▸ h')
    · exact Or.inr ⟨h.trans h', by omega⟩
  · intro a b
    rw [Bool.or_eq_true, leN_iff, leN_iff]
    rcases list_tri a.a b.a with q | q | q
    · exact Or.inl (Or.inl q)
    · rcases Int.le_total a.lim b.lim with p | p
      · exact Or.inl (Or.inr ⟨q, p⟩)
      · exact Or.inr (Or.inr ⟨q.symm, p⟩)
    · exact Or.inr (Or.inl q)

theorem cpt_mem {l : List Ln} : ∀ {n : Nat}, n ≤ l.length → ∀ z, z ∈ cptN l n ↔ ∃ t, ∃ h : t < l.length, t < n ∧ z = l[t] ∧ ¬ (0 < t ∧ (l[t]).a = (l.getD (t - 1) ln0).a)
  | 0, _, z => by simp [cptN]
  | n + 1, hn, z => by
    have ih := cpt_mem (l := l) (n := n) (by omega) z
    by_cases c : 0 < n ∧ (l[n]).a = (l.getD (n - 1) ln0).a
    · rw [cptN_drop (by omega) c, ih]
      constructor
      · rintro ⟨t, h, p, q⟩; exact ⟨t, h, by omega, q⟩
      · rintro ⟨t, h, p, q, r⟩
        refine ⟨t, h, ?_, q, r⟩
        rcases Nat.lt_or_ge t n with k | k
        · exact k
        · obtain rfl : t = n := by omega
          exact absurd c r
    · rw [cptN_keep (by omega) c, List.mem_append, ih, List.mem_singleton]
      constructor
      · rintro (⟨t, h, p, q⟩ | p)
        · exact ⟨t, h, by omega, q⟩
        · exact ⟨n, by omega, by omega, p, c⟩
      · rintro ⟨t, h, p, q, r⟩
        rcases Nat.lt_or_ge t n with k | k
        · exact Or.inl ⟨t, h, k, q, r⟩
        · obtain rfl : t = n := by omega
          exact Or.inr q

theorem cpt_srt {l : List Ln} (hl : l.Pairwise fun x y => leN x y = true) : ∀ {n : Nat}, n ≤ l.length → Srt (cptN l n)
  | 0, _ => by simp [cptN, Srt]
  | n + 1, hn => by
    have ih := cpt_srt hl (n := n) (by omega)
    by_cases c : 0 < n ∧ (l[n]).a = (l.getD (n - 1) ln0).a
    · rw [cptN_drop (by omega) c]; exact ih
    · rw [cptN_keep (by omega) c]
      refine List.pairwise_append.2 ⟨ih, by simp, fun z hz y hy => ?_⟩
      rw [List.mem_singleton] at hy
      subst hy
      obtain ⟨t, h, p, rfl, _⟩ := (cpt_mem (by omega) z).1 hz
      have hp := List.pairwise_iff_getElem.1 hl
      have h1 := leN_iff.1 (hp (n - 1) n (by omega) (by omega) (by omega))
      have e1 : l.getD (n - 1) ln0 = l[n - 1] := getD_at (by omega)
      have h1 : l[n - 1].a < l[n].a := by
        rcases h1 with h1 | ⟨h1, _⟩
        · exact h1
        · exact absurd ⟨by omega, by rw [e1]; exact h1.symm⟩ c
      rcases Nat.lt_or_ge t (n - 1) with k | k
      · rcases leN_iff.1 (hp t (n - 1) (by omega) (by omega) k) with q | ⟨q, _⟩
        · exact lt_tr q h1
        · rw [q]; exact h1
      · obtain rfl : t = n - 1 := by omega
        exact h1

theorem cptL_best {k : List Ln} (z : Ln) : z ∈ cptL (srtL k) ↔ BestL k z := by
  have hs := srtL_srt k
  have hp := List.pairwise_iff_getElem.1 hs
  unfold cptL
  rw [cpt_mem (Nat.le_refl _)]
  unfold BestL
  constructor
  · rintro ⟨t, h, _, rfl, c⟩
    refine ⟨srtL_mem.1 (List.getElem_mem _), fun y hy e => ?_⟩
    obtain ⟨j, hj, rfl⟩ := List.getElem_of_mem (srtL_mem.2 hy)
    rcases Nat.lt_trichotomy t j with q | q | q
    · rcases leN_iff.1 (hp t j h hj q) with p | ⟨_, p⟩
      · exact absurd e.symm (lt_ne p)
      · exact p
    · subst q; omega
    · -- an element of the same coefficients ahead: so is the one just ahead
      refine absurd ⟨by omega, ?_⟩ c
      rw [getD_at (show t - 1 < _ by omega)]
      rcases leN_iff.1 (hp (t - 1) t (by omega) h (by omega)) with p | ⟨p, _⟩
      · rcases Nat.lt_or_ge j (t - 1) with r | r
        · rcases leN_iff.1 (hp j (t - 1) hj (by omega) r) with p' | ⟨p', _⟩
          · exact absurd e (lt_ne (lt_tr p' p))
          · rw [← p'] at p; exact absurd e (lt_ne p)
        · obtain rfl : j = t - 1 := by omega
          exact e.symm
      · exact p.symm
  · rintro ⟨p, q⟩
    have hz := srtL_mem.2 p
    have hex : ∃ t, ∃ h : t < (srtL k).length, (srtL k)[t].a = z.a ∧ ∀ j, ∀ hj : j < (srtL k).length, j < t → (srtL k)[j].a ≠ z.a := by
      obtain ⟨j, hj, e⟩ := List.getElem_of_mem hz
      have : ∀ n, ∀ hn : n < (srtL k).length, (srtL k)[n].a = z.a → ∃ t, ∃ h : t < (srtL k).length, (srtL k)[t].a = z.a ∧ ∀ j, ∀ hj : j < (srtL k).length, j < t → (srtL k)[j].a ≠ z.a := by
        intro n
        induction n using Nat.strongRecOn with
        | ind n ih =>
          intro hn en
          by_cases c : ∃ j, ∃ hj : j < (srtL k).length, j < n ∧ (srtL k)[j].a = z.a
          · obtain ⟨j, hj, c1, c2⟩ := c
            exact ih j c1 hj c2
          · exact ⟨n, hn, en, fun j hj hjn e => c ⟨j, hj, hjn, e⟩⟩
      exact this j hj (by rw [e])
    obtain ⟨t, h, e, first⟩ := hex
    refine ⟨t, h, h, ?_, ?_⟩
    · have h1 := q _ (srtL_mem.1 (List.getElem_mem h)) e
      refine ln_ext e.symm ?_
      have h2 : (srtL k)[t].lim ≤ z.lim := by
        obtain ⟨j, hj, ej⟩ := List.getElem_of_mem hz
        rcases Nat.lt_trichotomy t j with r | r | r
        · rcases leN_iff.1 (hp t j h hj r) with p' | ⟨_, p'⟩
          · rw [ej] at p'; exact absurd e (lt_ne p')
          · rw [ej] at p'; exact p'
        · subst r; rw [ej]; omega
        · exact absurd (by rw [ej]) (first j hj r)
      omega
    · rintro ⟨c1, c2⟩
      rw [getD_at (show t - 1 < _ by omega)] at c2
      exact first (t - 1) (by omega) (by omega) (c2.symm.trans e)

/-- By sorting or by insertion: the same list. -/
theorem cpt_ins (k : List Ln) : cptL (srtL k) = insL k :=
  srt_eq (cpt_srt (srtL_srt k) (Nat.le_refl _)) (insL_ok k).1 fun z => (cptL_best z).trans ((insL_ok k).2 z).symm
end Go.Proofs.YtbhaoaobhgilkaaGreat
