/- Plain mathematics: the tidy list made by insertion is the one made by sorting.; Contracts of layer 7's reference: size, divisor, order, zero.; Contracts of layer 7's reference: Valid, Check. -/
import Derived.Test.YtbhaoaobhgilkaaGreatWm6
import Derived.Test.YtbhaoaobhgilkaaGreatWm11
import Derived.BigQuiet
import Derived.Deep.QuietTactic
import Derived.Test.YtbhaoaobhgilkaaGreatWm13

namespace Go.Proofs.YtbhaoaobhgilkaaGreat
open Go.Sort

def Ln.over (x y : Ln) : Bool := decide (x.b < y.b) || (decide (x.b = y.b) && x.s)

def insN (x : Ln) : List Ln → List Ln
  | [] => [x]
  | y :: r => if cmpL y.a x.a < 0 then y :: insN x r else if y.a = x.a then (if x.over y then x :: r else y :: r) else x :: y :: r

def Srt (l : List Ln) : Prop := l.Pairwise fun x y => x.a < y.a

theorem lim_inj {x y : Ln} (h : x.lim = y.lim) : x.b = y.b ∧ x.s = y.s := by
  unfold Ln.lim at h
  revert h
  cases x.s <;> cases y.s <;> simp <;> omega

theorem ln_ext {x y : Ln} (h : x.a = y.a) (k : x.lim = y.lim) : x = y := by
  obtain ⟨p, q⟩ := lim_inj k
  cases x; cases y; simp_all

theorem over_iff {x y : Ln} : x.over y = true ↔ x.lim < y.lim ∨ (x.lim = y.lim ∧ x.s = true) := by
  unfold Ln.over Ln.lim
  cases x.s <;> cases y.s <;> simp <;> omega

theorem lt_irr (l : List Int) : ¬ l < l := fun h => by have := cmpL_lt.2 h; rw [cmpL_zero.2 rfl] at this; omega

theorem lt_ne {l m : List Int} (h : l < m) : l ≠ m := fun e => lt_irr m (e ▸ h)

theorem lt_tr {l m k : List Int} (h : l < m) (h' : m < k) : l < k := List.lt_trans h h'

theorem srt_eq : ∀ {l m : List Ln}, Srt l → Srt m → (∀ z, z ∈ l ↔ z ∈ m) → l = m
  | [], [], _, _, _ => rfl
  | [], y :: r, _, _, h => absurd ((h y).2 (by simp)) (by simp)
  | x :: r, [], _, _, h => absurd ((h x).1 (by simp)) (by simp)
  | x :: r, y :: s, hl, hm, h => by
    obtain ⟨h1, h2⟩ := List.pairwise_cons.1 hl
    obtain ⟨k1, k2⟩ := List.pairwise_cons.1 hm
    have e : x = y := by
      rcases List.mem_cons.1 ((h x).1 (by simp)) with q | q
      · exact q
      · rcases List.mem_cons.1 ((h y).2 (by simp)) with p | p
        · exact p.symm
        · exact absurd (lt_tr (k1 x q) (h1 y p)) (lt_irr _)
    subst e
    rw [srt_eq h2 k2 fun z => ?_]
    constructor
    · intro q
      rcases List.mem_cons.1 ((h z).1 (by simp [q])) with p | p
      · subst p; exact absurd (h1 z q) (lt_irr _)
      · exact p
    · intro q
      rcases List.mem_cons.1 ((h z).2 (by simp [q])) with p | p
      · subst p; exact absurd (k1 z q) (lt_irr _)
      · exact p

theorem ins_mem {x : Ln} : ∀ {l : List Ln}, Srt l → ∀ z, z ∈ insN x l ↔ (z ∈ l ∧ (z.a = x.a → z.lim ≤ x.lim)) ∨ (z = x ∧ ∀ y ∈ l, y.a = x.a → x.lim ≤ y.lim)
  | [], _, z => by simp [insN]
  | y :: r, hl, z => by
    obtain ⟨h1, h2⟩ := List.pairwise_cons.1 hl
    have ih := ins_mem (x := x) h2 z
    unfold insN
    split
    · rename_i c
      have c := cmpL_lt.1 c
      rw [List.mem_cons, ih]
      constructor
      · rintro (rfl | (⟨p, q⟩ | ⟨p, q⟩))
        · exact Or.inl ⟨by simp, fun e => absurd e (lt_ne c)⟩
        · exact Or.inl ⟨by simp [p], q⟩
        · refine Or.inr ⟨p, fun u hu e => ?_⟩
          rcases List.mem_cons.1 hu with rfl | hu
          · exact absurd e (lt_ne c)
          · exact q u hu e
      · rintro (⟨p, q⟩ | ⟨p, q⟩)
        · rcases List.mem_cons.1 p with rfl | p
          · exact Or.inl rfl
          · exact Or.inr (Or.inl ⟨p, q⟩)
        · exact Or.inr (Or.inr ⟨p, fun u hu e => q u (by simp [hu]) e⟩)
    · rename_i c
      split
      · rename_i e
        have far : ∀ u ∈ r, u.a ≠ x.a := fun u hu e' => lt_ne (h1 u hu) (e.trans e'.symm)
        split
        · rename_i o
          have o := over_iff.1 o
          rw [List.mem_cons]
          constructor
          · rintro (rfl | p)
            · refine Or.inr ⟨rfl, fun u hu e' => ?_⟩
              rcases List.mem_cons.1 hu with rfl | hu
              · omega
              · exact absurd e' (far u hu)
            · exact Or.inl ⟨by simp [p], fun e' => absurd e' (far z p)⟩
          · rintro (⟨p, q⟩ | ⟨p, q⟩)
            · rcases List.mem_cons.1 p with rfl | p
              · have := q e
                exact Or.inl (ln_ext e (by omega))
              · exact Or.inr p
            · exact Or.inl p
        · rename_i o
          have o : y.lim ≤ x.lim := by
            rcases Int.lt_or_le x.lim y.lim with h | h
            · exact absurd (over_iff.2 (Or.inl h)) o
            · exact h
          rw [List.mem_cons]
          constructor
          · rintro (rfl | p)
            · exact Or.inl ⟨by simp, fun _ => o⟩
            · exact Or.inl ⟨by simp [p], fun e' => absurd e' (far z p)⟩
          · rintro (⟨p, q⟩ | ⟨p, q⟩)
            · first | exact List.mem_cons.1 p | exact p
            · subst p
              have := q y (by simp) e
              exact Or.inl (ln_ext e.symm (by omega))
      · rename_i e
        have c : x.a < y.a := by
          rcases list_tri x.a y.a with h | h | h
          · exact h
          · exact absurd h.symm e
          · exact absurd (cmpL_lt.2 h) c
        have far : ∀ u ∈ y :: r, u.a ≠ x.a := fun u hu e' => by
          rcases List.mem_cons.1 hu with rfl | hu
          · exact e e'
          · exact lt_ne (lt_tr c (h1 u hu)) e'.symm
        rw [List.mem_cons]
        constructor
        · rintro (rfl | p)
          · exact Or.inr ⟨rfl, fun u hu e' => absurd e' (far u hu)⟩
          · exact Or.inl ⟨p, fun e' => absurd e' (far z p)⟩
        · rintro (⟨p, _⟩ | ⟨p, _⟩)
          · exact Or.inr p
          · exact Or.inl p

theorem ins_srt {x : Ln} : ∀ {l : List Ln}, Srt l → Srt (insN x l)
  | [], _ => by simp [insN, Srt]
  | y :: r, hl => by
    obtain ⟨h1, h2⟩ := List.pairwise_cons.1 hl
    unfold insN
    split
    · rename_i c
      have c := cmpL_lt.1 c
      refine List.pairwise_cons.2 ⟨fun z hz => ?_, ins_srt h2⟩
      rcases (ins_mem h2 z).1 hz with ⟨p, _⟩ | ⟨p, _⟩
      · exact h1 z p
      · rw [p]; exact c
    · rename_i c
      split
      · rename_i e
        split
        · exact List.pairwise_cons.2 ⟨fun z hz => by rw [← e]; exact h1 z hz, h2⟩
        · exact hl
      · rename_i e
        have c : x.a < y.a := by
          rcases list_tri x.a y.a with h | h | h
          · exact h
          · exact absurd h.symm e
          · exact absurd (cmpL_lt.2 h) c
        refine List.pairwise_cons.2 ⟨fun z hz => ?_, hl⟩
        rcases List.mem_cons.1 hz with rfl | hz
        · exact c
        · exact lt_tr c (h1 z hz)

def insL (k : List Ln) : List Ln := k.foldl (fun o x => insN x o) []

def BestL (k : List Ln) (z : Ln) : Prop := z ∈ k ∧ ∀ y ∈ k, y.a = z.a → z.lim ≤ y.lim

theorem insL_snoc (k : List Ln) (x : Ln) : insL (k ++ [x]) = insN x (insL k) := by simp [insL, List.foldl_append]

theorem insL_ok (k : List Ln) : Srt (insL k) ∧ ∀ z, z ∈ insL k ↔ BestL k z := by
  suffices h : ∀ n, n ≤ k.length → Srt (insL (k.take n)) ∧ ∀ z, z ∈ insL (k.take n) ↔ BestL (k.take n) z by
    have := h k.length (Nat.le_refl _)
    rwa [List.take_length] at this
  intro n
  induction n with
  | zero => intro _; simp [insL, Srt, BestL]
  | succ n ih =>
    intro hn
    obtain ⟨h1, h2⟩ := ih (by omega)
    rw [List.take_succ_eq_append_getElem (show n < k.length by omega), insL_snoc]
    refine ⟨ins_srt h1, fun z => ?_⟩
    rw [ins_mem h1]
    generalize k[n] = x
    generalize hm : k.take n = m at *
    unfold BestL
    constructor
    · rintro (⟨p, q⟩ | ⟨p, q⟩)
      · obtain ⟨p1, p2⟩ := (h2 z).1 p
        refine ⟨by simp [p1], fun y hy e => ?_⟩
        rcases List.mem_append.1 hy with hy | hy
        · exact p2 y hy e
        · rw [List.mem_singleton] at hy; subst hy; exact q e.symm
      · subst p
        refine ⟨by simp, fun y hy e => ?_⟩
        rcases List.mem_append.1 hy with hy | hy
        · -- the best line with these coefficients stands in the list
          have hb : ∃ u ∈ insL m, u.a = z.a ∧ u.lim ≤ y.lim := by
            clear q hn
            have : ∀ (l : List Ln), (∀ y ∈ l, y ∈ m) → y ∈ l → ∃ u ∈ l, u.a = z.a ∧ u.lim ≤ y.lim ∧ ∀ v ∈ l, v.a = z.a → u.lim ≤ v.lim := by
              intro l
              induction l with
              | nil => intro _ h; simp at h
              | cons v r ihr =>
                intro hs hy
                by_cases hr : ∃ t ∈ r, t.a = z.a
                · obtain ⟨t, ht, et⟩ := hr
                  have best : ∃ u ∈ r, u.a = z.a ∧ ∀ v ∈ r, v.a = z.a → u.lim ≤ v.lim := by
                    clear ihr hs hy
                    induction r generalizing t with
                    | nil => simp at ht
                    | cons a r ihr2 =>
                      by_cases hr : ∃ t ∈ r, t.a = z.a
                      · obtain ⟨t', ht', et'⟩ := hr
                        obtain ⟨u, hu, eu, bu⟩ := ihr2 t' ht' et'
                        by_cases ea : a.a = z.a ∧ a.lim ≤ u.lim
                        · exact ⟨a, by simp, ea.1, fun v hv ev => by
                            rcases List.mem_cons.1 hv with rfl | hv
                            · omega
                            · have := bu v hv ev; omega⟩
                        · exact ⟨u, by simp [hu], eu, fun v hv ev => by
                            rcases List.mem_cons.1 hv with rfl | hv
                            · rcases Int.lt_or_le u.lim v.lim with h | h
                              · omega
                              · exact absurd ⟨ev, h⟩ ea
                            · exact bu v hv ev⟩
                      · have : t = a := by
                          rcases List.mem_cons.1 ht with h | h
                          · exact h
                          · exact absurd ⟨t, h, et⟩ hr
                        subst this
                        exact ⟨t, by simp, et, fun v hv ev => by
                          rcases List.mem_cons.1 hv with rfl | hv
                          · omega
                          · exact absurd ⟨v, hv, ev⟩ hr⟩
                  obtain ⟨u, hu, eu, bu⟩ := best
                  by_cases ev : v.a = z.a ∧ v.lim ≤ u.lim
                  · refine ⟨v, by simp, ev.1, ?_, fun t ht et => ?_⟩
                    · rcases List.mem_cons.1 hy with rfl | hy
                      · omega
                      · have := bu y hy e; omega
                    · rcases List.mem_cons.1 ht with rfl | ht
                      · omega
                      · have := bu t ht et; omega
                  · refine ⟨u, by simp [hu], eu, ?_, fun t ht et => ?_⟩
                    · rcases List.mem_cons.1 hy with rfl | hy
                      · rcases Int.lt_or_le u.lim y.lim with h | h
                        · omega
                        · exact absurd ⟨e, h⟩ ev
                      · exact bu y hy e
                    · rcases List.mem_cons.1 ht with rfl | ht
                      · rcases Int.lt_or_le u.lim t.lim with h | h
                        · omega
                        · exact absurd ⟨et, h⟩ ev
                      · exact bu t ht et
                · have : y = v := by
                    rcases List.mem_cons.1 hy with h | h
                    · exact h
                    · exact absurd ⟨y, h, e⟩ hr
                  subst this
                  exact ⟨y, by simp, e, by omega, fun t ht et => by
                    rcases List.mem_cons.1 ht with rfl | ht
                    · omega
                    · exact absurd ⟨t, ht, et⟩ hr⟩
            obtain ⟨u, hu, eu, bu, b2⟩ := this m (fun _ h => h) hy
            exact ⟨u, (h2 u).2 ⟨hu, fun v hv ev => b2 v hv (ev.trans eu)⟩, eu, bu⟩
          obtain ⟨u, hu, eu, bu⟩ := hb
          have := q u hu eu
          omega
        · rw [List.mem_singleton] at hy; subst hy; omega
    · rintro ⟨p, q⟩
      rcases List.mem_append.1 p with p | p
      · exact Or.inl ⟨(h2 z).2 ⟨p, fun y hy e => q y (by simp [hy]) e⟩, fun e => q x (by simp) e.symm⟩
      · rw [List.mem_singleton] at p
        exact Or.inr ⟨p, fun y hy e => by
          have := q y (by simp [((h2 y).1 hy).1]) (by rw [e, p])
          rw [← p]; exact this⟩

def leN (x y : Ln) : Bool := !decide (cmpN y x < 0)

theorem leN_iff {x y : Ln} : leN x y = true ↔ x.a < y.a ∨ (x.a = y.a ∧ x.lim ≤ y.lim) := by
  unfold leN
  rw [Bool.not_eq_true', decide_eq_false_iff_not, cmpN_lt]
  constructor
  · intro h
    rcases list_tri x.a y.a with q | q | q
    · exact Or.inl q
    · right
      refine ⟨q, ?_⟩
      rcases Int.lt_or_le y.lim x.lim with p | p
      · exact absurd (Or.inr ⟨q.symm, p⟩) h
      · exact p
    · exact absurd (Or.inl q) h
  · rintro (h | ⟨h, k⟩) (q | ⟨q, p⟩)
    · exact lt_irr _ (lt_tr h q)
    · exact lt_ne h q.symm
    · exact lt_ne q h.symm
    · omega

theorem srtL_srt (k : List Ln) : (srtL k).Pairwise fun x y => leN x y = true := by
  refine List.pairwise_mergeSort (le := leN) ?_ ?_ k
  · intro a b c h h'
    rw [leN_iff] at h h' ⊢
    rcases h with h | ⟨h, p⟩ <;> rcases h' with h' | ⟨h', p'⟩
    · exact Or.inl (lt_tr h h')
    · exact Or.inl (h' ▸ h)
    · exact Or.inl (h ▸ h')
    · exact Or.inr ⟨h.trans h', by omega⟩
  · intro a b
    rw [Bool.or_eq_true, leN_iff, leN_iff]
    rcases list_tri a.a b.a with q | q | q
    · exact Or.inl (Or.inl q)
    · rcases Int.le_total a.lim b.lim with p | p
      · exact Or.inl (Or.inr ⟨q, p⟩)
      · exact Or.inr (Or.inr ⟨q.symm, p⟩)
    · exact Or.inr (Or.inl q)

theorem cpt_mem {l : List Ln} : ∀ {n : Nat}, n ≤ l.length → ∀ z, z ∈ cptN l n ↔ ∃ t, ∃ h : t < l.length, t < n ∧ z = l[t] ∧ ¬ (0 < t ∧ (l[t]).a = (l.getD (t - 1) ln0).a)
  | 0, _, z => by simp [cptN]
  | n + 1, hn, z => by
    have ih := cpt_mem (l := l) (n := n) (by omega) z
    by_cases c : 0 < n ∧ (l[n]).a = (l.getD (n - 1) ln0).a
    · rw [cptN_drop (by omega) c, ih]
      constructor
      · rintro ⟨t, h, p, q⟩; exact ⟨t, h, by omega, q⟩
      · rintro ⟨t, h, p, q, r⟩
        refine ⟨t, h, ?_, q, r⟩
        rcases Nat.lt_or_ge t n with k | k
        · exact k
        · obtain rfl : t = n := by omega
          exact absurd c r
    · rw [cptN_keep (by omega) c, List.mem_append, ih, List.mem_singleton]
      constructor
      · rintro (⟨t, h, p, q⟩ | p)
        · exact ⟨t, h, by omega, q⟩
        · exact ⟨n, by omega, by omega, p, c⟩
      · rintro ⟨t, h, p, q, r⟩
        rcases Nat.lt_or_ge t n with k | k
        · exact Or.inl ⟨t, h, k, q, r⟩
        · obtain rfl : t = n := by omega
          exact Or.inr q

theorem cpt_srt {l : List Ln} (hl : l.Pairwise fun x y => leN x y = true) : ∀ {n : Nat}, n ≤ l.length → Srt (cptN l n)
  | 0, _ => by simp [cptN, Srt]
  | n + 1, hn => by
    have ih := cpt_srt hl (n := n) (by omega)
    by_cases c : 0 < n ∧ (l[n]).a = (l.getD (n - 1) ln0).a
    · rw [cptN_drop (by omega) c]; exact ih
    · rw [cptN_keep (by omega) c]
      refine List.pairwise_append.2 ⟨ih, by simp, fun z hz y hy => ?_⟩
      rw [List.mem_singleton] at hy
      subst hy
      obtain ⟨t, h, p, rfl, _⟩ := (cpt_mem (by omega) z).1 hz
      have hp := List.pairwise_iff_getElem.1 hl
      have h1 := leN_iff.1 (hp (n - 1) n (by omega) (by omega) (by omega))
      have e1 : l.getD (n - 1) ln0 = l[n - 1] := getD_at (by omega)
      have h1 : l[n - 1].a < l[n].a := by
        rcases h1 with h1 | ⟨h1, _⟩
        · exact h1
        · exact absurd ⟨by omega, by rw [e1]; exact h1.symm⟩ c
      rcases Nat.lt_or_ge t (n - 1) with k | k
      · rcases leN_iff.1 (hp t (n - 1) (by omega) (by omega) k) with q | ⟨q, _⟩
        · exact lt_tr q h1
        · rw [q]; exact h1
      · obtain rfl : t = n - 1 := by omega
        exact h1

theorem cptL_best {k : List Ln} (z : Ln) : z ∈ cptL (srtL k) ↔ BestL k z := by
  have hs := srtL_srt k
  have hp := List.pairwise_iff_getElem.1 hs
  unfold cptL
  rw [cpt_mem (Nat.le_refl _)]
  unfold BestL
  constructor
  · rintro ⟨t, h, _, rfl, c⟩
    refine ⟨srtL_mem.1 (List.getElem_mem _), fun y hy e => ?_⟩
    obtain ⟨j, hj, rfl⟩ := List.getElem_of_mem (srtL_mem.2 hy)
    rcases Nat.lt_trichotomy t j with q | q | q
    · rcases leN_iff.1 (hp t j h hj q) with p | ⟨_, p⟩
      · exact absurd e.symm (lt_ne p)
      · exact p
    · subst q; omega
    · -- an element of the same coefficients ahead: so is the one just ahead
      refine absurd ⟨by omega, ?_⟩ c
      rw [getD_at (show t - 1 < _ by omega)]
      rcases leN_iff.1 (hp (t - 1) t (by omega) h (by omega)) with p | ⟨p, _⟩
      · rcases Nat.lt_or_ge j (t - 1) with r | r
        · rcases leN_iff.1 (hp j (t - 1) hj (by omega) r) with p' | ⟨p', _⟩
          · exact absurd e (lt_ne (lt_tr p' p))
          · rw [← p'] at p; exact absurd e (lt_ne p)
        · obtain rfl : j = t - 1 := by omega
          exact e.symm
      · exact p.symm
  · rintro ⟨p, q⟩
    have hz := srtL_mem.2 p
    have hex : ∃ t, ∃ h : t < (srtL k).length, (srtL k)[t].a = z.a ∧ ∀ j, ∀ hj : j < (srtL k).length, j < t → (srtL k)[j].a ≠ z.a := by
      obtain ⟨j, hj, e⟩ := List.getElem_of_mem hz
      have : ∀ n, ∀ hn : n < (srtL k).length, (srtL k)[n].a = z.a → ∃ t, ∃ h : t < (srtL k).length, (srtL k)[t].a = z.a ∧ ∀ j, ∀ hj : j < (srtL k).length, j < t → (srtL k)[j].a ≠ z.a := by
        intro n
        induction n using Nat.strongRecOn with
        | ind n ih =>
          intro hn en
          by_cases c : ∃ j, ∃ hj : j < (srtL k).length, j < n ∧ (srtL k)[j].a = z.a
          · obtain ⟨j, hj, c1, c2⟩ := c
            exact ih j c1 hj c2
          · exact ⟨n, hn, en, fun j hj hjn e => c ⟨j, hj, hjn, e⟩⟩
      exact this j hj (by rw [e])
    obtain ⟨t, h, e, first⟩ := hex
    refine ⟨t, h, h, ?_, ?_⟩
    · have h1 := q _ (srtL_mem.1 (List.getElem_mem h)) e
      refine ln_ext e.symm ?_
      have h2 : (srtL k)[t].lim ≤ z.lim := by
        obtain ⟨j, hj, ej⟩ := List.getElem_of_mem hz
        rcases Nat.lt_trichotomy t j with r | r | r
        · rcases leN_iff.1 (hp t j h hj r) with p' | ⟨_, p'⟩
          · rw [ej] at p'; exact absurd e (lt_ne p')
          · rw [ej] at p'; exact p'
        · subst r; rw [ej]; omega
        · exact absurd (by rw [ej]) (first j hj r)
      omega
    · rintro ⟨c1, c2⟩
      rw [getD_at (show t - 1 < _ by omega)] at c2
      exact first (t - 1) (by omega) (by omega) (c2.symm.trans e)

theorem cpt_ins (k : List Ln) : cptL (srtL k) = insL k :=
  srt_eq (cpt_srt (srtL_srt k) (Nat.le_refl _)) (insL_ok k).1 fun z => (cptL_best z).trans ((insL_ok k).2 z).symm
end Go.Proofs.YtbhaoaobhgilkaaGreat

namespace Go.Proofs.YtbhaoaobhgilkaaGreat
open Go.RowKit Go.Sort

theorem drewN_3 (w : World) (a b c : Nat) : ((w.drewN a).drewN b).drewN c = w.drewN (a + b + c) := by rw [World.drewN_drewN, World.drewN_drewN, Nat.add_assoc]

theorem rsize_any (n : Int) (w : World) (h : A63 n) : Calls Tryz.prog 145 #[.int .i64 n] w (fun e w' => e = .returned (.int .i64 (n.natAbs : Int)) ∧ w' = w) := by
  by_cases h0 : n < 0
  · have e : wrap64 (-n) = (n.natAbs : Int) := by unfold A63 at h; unfold wrap64; omega
    have E := Lib.hid e
    clear h e
    go_enter Tryz.func145, Tryz.ntmps145
    go_wp2_with fail
    go_ret
    exact ⟨ret_int E.out, rfl⟩
  · have E := Lib.hid (show n = (n.natAbs : Int) by omega)
    clear h
    go_enter Tryz.func145, Tryz.ntmps145
    go_wp2_with fail
    go_ret
    exact ⟨ret_int E.out, rfl⟩

set_option maxRecDepth 20000 in
set_option maxHeartbeats 1000000 in
theorem rdiv_any (a b : Int) (w : World) (ha : 0 ≤ a ∧ a ≤ 9223372036854775807) (hb : 0 ≤ b ∧ b ≤ 9223372036854775807) :
    Calls Tryz.prog 92 #[.int .i64 a, .int .i64 b] w (Drawn (.int .i64 (Int.gcd a b)) w) := by
  obtain ⟨G, hG⟩ : ∃ G, G = Int.gcd a b := ⟨_, rfl⟩
  rw [← hG]
  go_enter Tryz.func92, Tryz.ntmps92
  go_wp2_with fail
  go_loopw [0, 1] (fun p q wr => ∃ x y : Int, p = .int .i64 x ∧ q = .int .i64 y ∧ Hid (A63 x ∧ A63 y ∧ 0 ≤ x ∧ 0 ≤ y) ∧ Hid (Int.gcd x y = G) ∧ ∃ n, wr = w.drewN n) (fun _ q _ => (intOf q).natAbs)
  case atStart => exact ⟨a, b, rfl, rfl, Lib.hid ⟨by unfold A63; omega, by unfold A63; omega, ha.1, hb.1⟩, Lib.hid hG.symm, 0, rfl⟩
  case round =>
    obtain ⟨x, y, rfl, rfl, HA, HG, n, rfl⟩ := hrel
    by_cases hy : y = 0
    · subst hy
      have HX := Lib.hid (show x = (G : Int) by have := HG.out; have := HA.out.2.2.1; rw [Int.gcd_zero_right] at *; omega)
      clear HA HG
      go_wp2_with fail
      go_ret
      exact ⟨ret_int HX.out, n, rfl⟩
    · have h0 : (y != 0) = true := by simpa using hy
      have hz : (y == 0) = false := by simpa using hy
      have HR := Lib.hid (show A63 (x.tmod y) ∧ (x.tmod y).natAbs < y.natAbs ∧ Int.gcd y (x.tmod y) = G ∧ 0 ≤ x.tmod y from by
        have := tmod_a63 (a := x) HA.out.2.1 hy
        exact ⟨this.1, this.2, (gcd_step x y).trans HG.out, Int.tmod_nonneg y HA.out.2.2.1⟩)
      have HX := Lib.hid HA.out
      clear HA HG
      go_wp2_with fail
      go_quiet (fail)
      go_wp2_with fail
      go_roundw
      case rel => exact ⟨y, x.tmod y, rfl, rfl, Lib.hid ⟨HX.out.2.1, HR.out.1, HX.out.2.2.2, HR.out.2.2.2⟩, Lib.hid HR.out.2.2.1, _, World.drewN_drewN _ _ _⟩
      case measure => exact HR.out.2.1

set_option maxRecDepth 20000 in
set_option maxHeartbeats 1000000 in
theorem rzero_any (l : List Int) (ao : Option Addr) (c : Nat) (w : World) (hl : l.length ≤ 1000000) (hR : Rd1 w ao l) :
    Calls Tryz.prog 108 #[.slice ao l.length c] w (fun e w' => e = .returned (.bool (l.all (· == 0))) ∧ w' = w) := by
  have HR := Lib.hid hR
  obtain ⟨n, hn⟩ : ∃ n, n = l.length := ⟨_, rfl⟩
  have HL := Lib.hid hn
  rw [← hn]
  have hle : n ≤ 1000000 := by omega
  obtain ⟨r, hr⟩ : ∃ r, r = l.all (· == 0) := ⟨_, rfl⟩
  have HB := Lib.hid hr
  rw [← hr]
  clear hl hR hn hr
  go_enter Tryz.func108, Tryz.ntmps108
  go_wp2_with fail
  go_loopw [3] (fun s wr => ∃ t : Nat, s = .int .i64 t ∧ t ≤ n ∧ Hid (∀ i, i < t → gA l i = 0) ∧ wr = w) (fun s _ => n - (intOf s).toNat)
  case atStart => exact ⟨0, rfl, by omega, Lib.hid (fun i h => by omega), rfl⟩
  case round =>
    obtain ⟨t, rfl, ht, HF, rfl⟩ := hrel
    by_cases htn : t < n
    · obtain ⟨a, ha, c0⟩ := HR.out t (by have := HL.out; omega)
      obtain ⟨u, hu⟩ : ∃ u, u = gA l t := ⟨_, rfl⟩
      have HU := Lib.hid hu
      rw [← hu] at c0
      clear hu
      subst ha
      by_cases hc : u = 0
      · have HF' := Lib.hid (show ∀ i, i < t + 1 → gA l i = 0 from fun i hi => by
          by_cases e : i = t
          · subst e; rw [← HU.out]; exact hc
          · exact HF.out i (by omega))
        subst hc
        go_wp2_with fail
        go_roundw
        case rel => exact ⟨t + 1, by go_num, by omega, HF', trivial⟩
        case measure => simp [intOf]; omega
      · have D : (u != 0) = true := by simpa using hc
        have HE := Lib.hid (show r = false from by
          rw [HB.out, List.all_eq_false]
          refine ⟨gA l t, gA_mem (by have := HL.out; omega), ?_⟩
          rw [← HU.out]; simpa using hc)
        clear hc
        go_wp2_with fail
        go_ret
        exact ⟨ret_bool HE.out.symm, rfl⟩
    · have HE := Lib.hid (show r = true from by
        rw [HB.out, List.all_eq_true]
        intro v hv
        obtain ⟨i, hi, rfl⟩ := List.getElem_of_mem hv
        have := HF.out i (by have := HL.out; omega)
        simp [gA, hi] at this
        simpa using this)
      go_wp2_with fail
      go_ret
      exact ⟨ret_bool HE.out.symm, rfl⟩

set_option maxRecDepth 20000 in
set_option maxHeartbeats 1000000 in
theorem rorder_any (l m : List Int) (ao bo : Option Addr) (ca cb : Nat) (w : World) (hl : l.length ≤ 1000000) (hm : m.length = l.length) (hR : Rd1 w ao l) (hS : Rd1 w bo m) :
    Calls Tryz.prog 109 #[.slice ao l.length ca, .slice bo m.length cb] w (fun e w' => e = .returned (.int .i64 (cmpL l m)) ∧ ∃ k, w' = w.drewN k) := by
  have HR := Lib.hid hR
  have HS := Lib.hid hS
  obtain ⟨n, hn⟩ : ∃ n, n = l.length := ⟨_, rfl⟩
  have HL := Lib.hid hn
  have HM := Lib.hid (show n = m.length by omega)
  rw [hm, ← hn]
  have hle : n ≤ 1000000 := by omega
  clear hl hm hR hS hn
  go_enter Tryz.func109, Tryz.ntmps109
  go_wp2_with fail
  go_loopw [5] (fun s wr => ∃ t : Nat, s = .int .i64 t ∧ t ≤ n ∧ Hid (∀ i, i < t → gA l i = gA m i) ∧ ∃ k, wr = w.drewN k) (fun s _ => n - (intOf s).toNat)
  case atStart => exact ⟨0, rfl, by omega, Lib.hid (fun i h => by omega), 0, rfl⟩
  case round =>
    obtain ⟨t, rfl, ht, HF, k, rfl⟩ := hrel
    by_cases htn : t < n
    · obtain ⟨a, ha, c0⟩ := HR.out t (by have := HL.out; omega)
      obtain ⟨b, hb, c1⟩ := HS.out t (by have := HM.out; omega)
      obtain ⟨u, hu⟩ : ∃ u, u = gA l t := ⟨_, rfl⟩
      obtain ⟨v, hv⟩ : ∃ v, v = gA m t := ⟨_, rfl⟩
      have HU := Lib.hid hu
      have HV := Lib.hid hv
      rw [← hu] at c0
      rw [← hv] at c1
      clear hu hv
      subst ha
      subst hb
      by_cases h1 : u < v
      · have HE := Lib.hid (show cmpL l m = -1 from by
          have e : cmpI (gA l t) (gA m t) = -1 := by rw [← HU.out, ← HV.out]; unfold cmpI; rw [if_pos h1]
          rw [cmpL_at (by have := HL.out; omega) (by have := HM.out; omega) HF.out (by rw [e]; decide), e])
        go_wp2_with fail
        go_quiet (fail)
        go_wp2_with fail
        go_ret
        exact ⟨ret_int HE.out.symm, _, World.drewN_drewN _ _ _⟩
      · by_cases h2 : v < u
        · have HE := Lib.hid (show cmpL l m = 1 from by
            have e : cmpI (gA l t) (gA m t) = 1 := by rw [← HU.out, ← HV.out]; unfold cmpI; rw [if_neg h1, if_pos h2]
            rw [cmpL_at (by have := HL.out; omega) (by have := HM.out; omega) HF.out (by rw [e]; decide), e])
          go_wp2_with fail
          go_quiet (fail)
          go_wp2_with fail
          go_quiet (fail)
          go_wp2_with fail
          go_ret
          exact ⟨ret_int HE.out.symm, _, drewN_3 _ _ _ _⟩
        · have HF' := Lib.hid (show ∀ i, i < t + 1 → gA l i = gA m i from fun i hi => by
            by_cases e : i = t
            · subst e; rw [← HU.out, ← HV.out]; omega
            · exact HF.out i (by omega))
          go_wp2_with fail
          go_quiet (fail)
          go_wp2_with fail
          go_quiet (fail)
          go_wp2_with fail
          go_roundw
          case rel => exact ⟨t + 1, by go_num, by omega, HF', _, rfl⟩
          case measure => simp [intOf]; omega
    · have HE := Lib.hid (show cmpL l m = 0 from cmpL_zero.2 (gA_ext (by have := HL.out; have := HM.out; omega) fun i hi => HF.out i (by have := HL.out; omega)))
      go_wp2_with fail
      go_ret
      exact ⟨ret_int HE.out.symm, k, rfl⟩
end Go.Proofs.YtbhaoaobhgilkaaGreat

namespace Go.Proofs.YtbhaoaobhgilkaaGreat
open Go.RowKit Go.Sort

set_option maxRecDepth 20000 in
set_option maxHeartbeats 2000000 in
theorem rvalid_any (n : Int) (y : AV) (w : World) (hl : y.a.length ≤ 1000000) (hR : Rd1 w y.q y.a) : Calls Tryz.prog 50 #[.int .i64 n, .agg y.cs] w (Made (.bool (validB n y)) w) := by
  obtain ⟨q, c, a, b, s⟩ := y
  simp only [AV.cs, AV.cells] at *
  obtain ⟨w0, hw0⟩ : ∃ w0, w0 = w.alloc (.cells #[.slice q a.length c, .int .i64 b, .bool s] 25) := ⟨_, rfl⟩
  have E0 := Lib.hid (show Below w.heap.size w w0 by rw [hw0]; exact one_more _)
  have hq := heap_alloc_last w (.cells #[.slice q a.length c, .int .i64 b, .bool s] 25)
  rw [← hw0] at hq
  have d0 : w0.cell? ⟨w.heap.size, 0, none⟩ = some (.slice q a.length c) := by rw [cell_of_row w0 _ 0 _ _ _ hq]; rfl
  have d1 : w0.cell? ⟨w.heap.size, 1, none⟩ = some (.int .i64 b) := by rw [cell_of_row w0 _ 1 _ _ _ hq]; rfl
  have R0 := Lib.hid (hR.on E0.out)
  obtain ⟨m, hm⟩ : ∃ m, m = a.length := ⟨_, rfl⟩
  have HM := Lib.hid hm
  have hle : m ≤ 1000000 := by omega
  obtain ⟨r, hr⟩ : ∃ r, r = validB n ⟨q, c, a, b, s⟩ := ⟨_, rfl⟩
  have VB := Lib.hid (show r = (decide ((a.length : Int) = n) && a.all fitB && fitB b) by rw [hr]; rfl)
  rw [← hr]
  rw [← hm] at d0 hw0 ⊢
  clear hl hR hq hm hr
  go_enter Tryz.func50, Tryz.ntmps50
  go_upto_region 1 with (fail)
  rw [← hw0]
  clear hw0
  go_wp2_with fail
  go_loopw [5] (fun u wr => ∃ t : Nat, u = .int .i64 t ∧ t ≤ m ∧ Hid (∀ i, i < t → fitB (gA a i) = true) ∧ wr = w0) (fun u _ => m - (intOf u).toNat)
  case atStart => exact ⟨0, rfl, by omega, Lib.hid (fun i h => by omega), rfl⟩
  case round =>
    obtain ⟨t, rfl, ht, HF, rfl⟩ := hrel
    by_cases htn : t < m
    · obtain ⟨p, hp, c0⟩ := R0.out t (by have := HM.out; omega)
      obtain ⟨u, hu⟩ : ∃ u, u = gA a t := ⟨_, rfl⟩
      have HU := Lib.hid hu
      rw [← hu] at c0
      clear hu
      subst hp
      have bad : ¬ (-2147483647 ≤ u ∧ u ≤ 2147483647) → r = false := fun h => by
        rw [VB.out]
        have : a.all fitB = false := by
          rw [List.all_eq_false]
          refine ⟨gA a t, gA_mem (by have := HM.out; omega), ?_⟩
          rw [← HU.out]; unfold fitB; simpa using h
        rw [this]; simp
      by_cases h1 : u < -2147483647
      · have HE := Lib.hid (bad (by omega))
        clear bad
        go_wp2_with fail
        go_ret
        exact ⟨ret_bool HE.out.symm, E0.out⟩
      · by_cases h2 : 2147483647 < u
        · have HE := Lib.hid (bad (by omega))
          clear bad
          go_wp2_with fail
          go_ret
          exact ⟨ret_bool HE.out.symm, E0.out⟩
        · have HF' := Lib.hid (show ∀ i, i < t + 1 → fitB (gA a i) = true from fun i hi => by
            by_cases e : i = t
            · subst e; rw [← HU.out]; unfold fitB; simp; omega
            · exact HF.out i (by omega))
          clear bad
          go_wp2_with fail
          go_roundw
          case rel => exact ⟨t + 1, by go_num, by omega, HF', trivial⟩
          case measure => simp [intOf]; omega
    · have FA := Lib.hid (show a.all fitB = true from by
        rw [List.all_eq_true]
        intro v hv
        obtain ⟨i, hi, rfl⟩ := List.getElem_of_mem hv
        have := HF.out i (by have := HM.out; omega)
        simpa [gA, hi] using this)
      by_cases h0 : (m : Int) = n
      · have e0 : ((m : Int) == n) = true := beq_iff_eq.2 h0
        have VC := Lib.hid (show r = fitB b by rw [VB.out, FA.out, ← HM.out]; simp [h0])
        clear h0
        by_cases h1 : -2147483647 ≤ b
        · by_cases h2 : b ≤ 2147483647
          · have HE := Lib.hid (show r = true by rw [VC.out]; unfold fitB; simp; omega)
            go_wp2_with fail
            go_ret
            exact ⟨ret_bool HE.out.symm, E0.out⟩
          · have HE := Lib.hid (show r = false by rw [VC.out]; unfold fitB; simp; omega)
            go_wp2_with fail
            go_ret
            exact ⟨ret_bool HE.out.symm, E0.out⟩
        · have HE := Lib.hid (show r = false by rw [VC.out]; unfold fitB; simp; omega)
          go_wp2_with fail
          go_ret
          exact ⟨ret_bool HE.out.symm, E0.out⟩
      · have e0 : ((m : Int) == n) = false := by rw [beq_eq_false_iff_ne]; exact h0
        have HE := Lib.hid (show r = false by rw [VB.out, ← HM.out]; simp [h0])
        clear h0
        go_wp2_with fail
        go_ret
        exact ⟨ret_bool HE.out.symm, E0.out⟩

set_option maxRecDepth 20000 in
set_option maxHeartbeats 2000000 in
theorem rcheck_any (n : Int) (L : List AV) (ao : Option Addr) (cap : Nat) (w : World) (hR : RdV w ao L) (hL : ∀ y ∈ L, y.a.length ≤ 1000000) :
    Calls Tryz.prog 16 #[.int .i64 n, .slice ao L.length cap] w (Made (.int .i64 (chkP n L)) w) := by
  obtain ⟨m, hm⟩ : ∃ m, m = L.length := ⟨_, rfl⟩
  have HM := Lib.hid hm
  have HR := Lib.hid hR
  have HL := Lib.hid hL
  obtain ⟨r, hr⟩ : ∃ r, r = chkP n L := ⟨_, rfl⟩
  have RB := Lib.hid (show r = if n < 0 ∨ 5 < n then 2 else if 1000 < m then 3 else if L.any (fun y => !validB n y) then 2 else 0 by rw [hr, hm]; rfl)
  rw [← hr, ← hm]
  clear hR hL hm hr
  by_cases h1 : n < 0
  · have HE := Lib.hid (show r = 2 by rw [RB.out, if_pos (Or.inl h1)])
    go_enter Tryz.func16, Tryz.ntmps16
    go_wp2_with fail
    go_ret
    exact ⟨ret_int HE.out.symm, Below.refl _ _⟩
  by_cases h2 : 5 < n
  · have HE := Lib.hid (show r = 2 by rw [RB.out, if_pos (Or.inr h2)])
    go_enter Tryz.func16, Tryz.ntmps16
    go_wp2_with fail
    go_ret
    exact ⟨ret_int HE.out.symm, Below.refl _ _⟩
  have RB := Lib.hid (show r = if 1000 < m then 3 else if L.any (fun y => !validB n y) then 2 else 0 by rw [RB.out, if_neg (by omega)])
  by_cases h3 : 1000 < m
  · have HE := Lib.hid (show r = 3 by rw [RB.out, if_pos h3])
    go_enter Tryz.func16, Tryz.ntmps16
    go_wp2_with fail
    go_ret
    exact ⟨ret_int HE.out.symm, Below.refl _ _⟩
  have RB := Lib.hid (show r = if L.any (fun y => !validB n y) then 2 else 0 by rw [RB.out, if_neg h3])
  go_enter Tryz.func16, Tryz.ntmps16
  go_wp2_with fail
  go_loopw [5] (fun u wr => ∃ t : Nat, u = .int .i64 t ∧ t ≤ m ∧ Hid (∀ i, ∀ h : i < L.length, i < t → validB n L[i] = true) ∧ Hid (Below w.heap.size w wr)) (fun u _ => m - (intOf u).toNat)
  case atStart => exact ⟨0, rfl, by omega, Lib.hid (fun i h h' => by omega), Lib.hid (Below.refl _ _)⟩
  case round =>
    obtain ⟨t, rfl, ht, HF, HB⟩ := hrel
    by_cases htn : t < m
    · have hlt : t < L.length := by have := HM.out; omega
      obtain ⟨p, hp, c0⟩ := (HR.out.on HB.out).at_ t hlt
      obtain ⟨y, hy⟩ : ∃ y, y = L[t] := ⟨_, rfl⟩
      have hmem := List.getElem_mem hlt
      rw [← hy] at c0 hmem
      have C0 := Lib.hid c0
      have YL := Lib.hid (HL.out y hmem)
      have YN := Lib.hid ((HR.out.on HB.out).nums y hmem)
      have HY := Lib.hid (show ∀ h : t < L.length, y = L[t] from fun _ => hy)
      have LT := Lib.hid hlt
      subst hp
      clear c0 hmem hy hlt
      go_wp2_with (refine wpl_loadV rfl _ rfl _ rfl y C0.out ?_)
      refine (rvalid_any n y wr YL.out YN.out).mono ?_
      rintro e w1 ⟨rfl, hb⟩
      have HB1 := Lib.hid (below_on HB.out hb)
      clear hb
      cases hv : validB n y
      · have HE := Lib.hid (show r = 2 by
          rw [RB.out, if_pos]
          rw [List.any_eq_true]
          exact ⟨y, by rw [HY.out LT.out]; exact List.getElem_mem LT.out, by rw [hv]; rfl⟩)
        go_wp2_with fail
        go_ret
        exact ⟨ret_int HE.out.symm, HB1.out⟩
      · have HF' := Lib.hid (show ∀ i, ∀ h : i < L.length, i < t + 1 → validB n L[i] = true from fun i h hi => by
          by_cases e : i = t
          · subst e; rw [← HY.out h]; exact hv
          · exact HF.out i h (by omega))
        go_wp2_with fail
        go_roundw
        case rel => exact ⟨t + 1, by go_num, by omega, HF', HB1⟩
        case measure => simp [intOf]; omega
    · have HE := Lib.hid (show r = 0 by
        rw [RB.out, if_neg]
        rw [List.any_eq_true]
        rintro ⟨y, hy, hv⟩
        obtain ⟨i, hi, rfl⟩ := List.getElem_of_mem hy
        rw [HF.out i hi (by have := HM.out; omega)] at hv
        simp at hv)
      go_wp2_with fail
      go_ret
      exact ⟨ret_int HE.out.symm, HB.out⟩
end Go.Proofs.YtbhaoaobhgilkaaGreat
