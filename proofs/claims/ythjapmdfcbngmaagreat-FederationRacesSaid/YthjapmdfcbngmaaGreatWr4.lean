/- A part. -/
import Derived.Test.YthjapmdfcbngmaaGreatWr3
namespace Go.Proofs.YthjapmdfcbngmaaGreat.Zo
def enc : Lm → Int
 | none => 1099511627776
 | some x => x
def dec (x : Int) : Lm := if x = 1099511627776 then none else some x
theorem enc_dec (x : Int) : enc (dec x) = x := by unfold dec; split <;> simp_all [enc]
def Bd (D : Nat → Nat → Lm) : Prop := ∀ i j x, D i j = some x → -1125899906842624 ≤ x ∧ x ≤ 274877906944
theorem enc_step {a b c : Lm} (ha : ∀ x, a = some x → x ≤ 274877906944) (hb : ∀ x, b = some x → -1125899906842624 ≤ x ∧ x ≤ 274877906944) (hc : ∀ x, c = some x → -1125899906842624 ≤ x ∧ x ≤ 274877906944) :
  min (enc a) (smW (enc b) (enc c)) = enc (mn a (add b c)) := by
 cases b with
 | none =>
  cases a with
  | none => simp [enc, smW, mn, add]
  | some x => have := ha x rfl; simp [enc, smW, mn, add]; omega
 | some y =>
  have y1 := hb y rfl
  cases c with
  | none =>
   cases a with
   | none => simp [enc, smW, mn, add]
   | some x => have := ha x rfl; simp [enc, smW, mn, add]; omega
  | some z =>
   have z1 := hc z rfl
   have e : smW y z = ps y z := by
    unfold smW ps
    rw [if_neg (by omega)]
    split
    · exact w64_in (by omega) (by omega)
    · rw [w64_in (x := y + z) (by omega) (by omega)]; exact w64_in (by omega) (by omega)
   have p : ps y z ≤ 549755813888 := by unfold ps; split <;> omega
   cases a with
   | none => simp [enc, mn, add, e]; omega
   | some x => simp [enc, mn, add, e]
def Rep (n : Nat) (l : List Int) (D : Nat → Nat → Lm) : Prop := l.length = (n + 1) * (n + 1) ∧ ∀ a b, a ≤ n → b ≤ n → At n l a b = enc (D a b)
def Mix (n k : Nat) (D : Nat → Nat → Lm) (i j : Nat) (l : List Int) : Prop :=
 l.length = (n + 1) * (n + 1) ∧ ∀ a b, a ≤ n → b ≤ n → At n l a b = enc (if a < i ∨ (a = i ∧ b < j) then stp k D a b else D a b)
theorem mix_step {n k : Nat} {D : Nat → Nat → Lm} (hB : Bd D) (hk : D k k = some 1) (hkn : k ≤ n) {i j : Nat} (hi : i ≤ n) (hj : j ≤ n) {l : List Int} (h : Mix n k D i j l) : Mix n k D i (j + 1) (rlx n k i l j) := by
 refine ⟨by simpa [rlx] using h.1, fun a b ha hb => ?_⟩
 unfold rlx
 rw [At_set h.1 hi hj _ hb]
 by_cases e : a = i ∧ b = j
 · obtain ⟨rfl, rfl⟩ := e
   rw [if_pos ⟨rfl, rfl⟩, if_pos (Or.inr ⟨rfl, by omega⟩)]
   have e1 : At n l a b = enc (D a b) := by rw [h.2 a b ha hb, if_neg (by omega)]
   have e2 : At n l a k = enc (D a k) := by
    rw [h.2 a k ha hkn]; split
    · rw [stp_col hk]
    · rfl
   have e3 : At n l k b = enc (D k b) := by
    rw [h.2 k b hkn hb]; split
    · rw [stp_row hk]
    · rfl
   rw [e1, e2, e3]
   exact enc_step (fun x hx => (hB _ _ x hx).2) (fun x hx => hB _ _ x hx) (fun x hx => hB _ _ x hx)
 · rw [if_neg e, h.2 a b ha hb]
   by_cases c : a < i ∨ (a = i ∧ b < j)
   · rw [if_pos c, if_pos (by omega)]
   · rw [if_neg c, if_neg (by omega)]
theorem mix_row {n k : Nat} {D : Nat → Nat → Lm} {i : Nat} {l : List Int} (h : Mix n k D i (n + 1) l) : Mix n k D (i + 1) 0 l := by
 refine ⟨h.1, fun a b ha hb => ?_⟩
 rw [h.2 a b ha hb]
 by_cases c : a < i ∨ (a = i ∧ b < n + 1)
 · rw [if_pos c, if_pos (by omega)]
 · rw [if_neg c, if_neg (by omega)]
theorem fold_goes {α : Type} {f : α → Nat → α} {R : Nat → α → Prop} (N : Nat) (h : ∀ a t, t < N → R t a → R (t + 1) (f a t)) (a : α) (ha : R 0 a) : ∀ t, t ≤ N → R t ((List.range t).foldl f a) := by
 intro t
 induction t with
 | zero => intro _; exact ha
 | succ t ih => intro ht; rw [fold_succ]; exact h _ _ (by omega) (ih (by omega))
theorem round_rep {n k : Nat} {D : Nat → Nat → Lm} {l : List Int} (hB : Bd D) (hk : D k k = some 1) (hkn : k ≤ n) (h : Rep n l D) : Rep n (rlxI n l k) (stp k D) := by
 have h0 : Mix n k D 0 0 l := ⟨h.1, fun a b ha hb => by rw [if_neg (by omega)]; exact h.2 a b ha hb⟩
 have h1 : Mix n k D (n + 1) 0 (rlxI n l k) := by
  unfold rlxI
  refine fold_goes (R := fun t l => Mix n k D t 0 l) (n + 1) (fun a i hi ha => ?_) l h0 _ (Nat.le_refl _)
  refine mix_row ?_
  unfold rlxJ
  exact fold_goes (R := fun t l => Mix n k D i t l) (n + 1) (fun a j hj ha => mix_step hB hk hkn (by omega) (by omega) ha) a ha _ (Nat.le_refl _)
 refine ⟨h1.1, fun a b ha hb => ?_⟩
 rw [h1.2 a b ha hb, if_pos (by omega)]
def rnd (n : Nat) (l : List Int) (t : Nat) : List Int := (List.range t).foldl (rlxI n) (pre n l)
theorem rlxI_keeps {n k : Nat} {R : List Int → Prop} (h : ∀ l i j, i ≤ n → j ≤ n → R l → R (rlx n k i l j)) {l : List Int} (hl : R l) : R (rlxI n l k) := by
 unfold rlxI
 refine fold_keeps (n + 1) (fun a i hi ha => ?_) _ hl _ (Nat.le_refl _)
 exact fold_keeps (n + 1) (fun a j hj ha => h a i j (by omega) (by omega) ha) _ ha _ (Nat.le_refl _)
theorem pre_keeps {n : Nat} {R : List Int → Prop} (h1 : ∀ l i j, (i = 0 ∨ i = j) → i ≤ n → j ≤ n → R l → R (l.set (ix n i j) (min (At n l i j) 1))) {l : List Int} (h : R l) : R (pre n l) := by
 unfold pre
 refine fold_keeps (n + 1) (fun a j hj ha => ?_) l h _ (Nat.le_refl _)
 unfold st1
 exact h1 _ j j (Or.inr rfl) (by omega) (by omega) (h1 a 0 j (Or.inl rfl) (by omega) (by omega) ha)
theorem rnd_length {n : Nat} {l : List Int} (hl : l.length = (n + 1) * (n + 1)) : ∀ t, t ≤ n + 1 → (rnd n l t).length = (n + 1) * (n + 1) := by
 refine fun t ht => fold_keeps (R := fun x : List Int => x.length = (n + 1) * (n + 1)) (n + 1) (fun a k hk ha => ?_) _ ?_ t ht
 · exact rlxI_keeps (R := fun x : List Int => x.length = (n + 1) * (n + 1)) (fun l i j _ _ h => by simpa [rlx] using h) ha
 · exact pre_keeps (R := fun x : List Int => x.length = (n + 1) * (n + 1)) (fun l i j _ _ _ h => by simpa using h) hl
theorem rnd_succ (n : Nat) (l : List Int) (t : Nat) : rnd n l (t + 1) = rlxI n (rnd n l t) t := fold_succ _ _ _
theorem rnd_le {n : Nat} {l : List Int} (hl : l.length = (n + 1) * (n + 1)) (t : Nat) : ∀ s, t + s ≤ n + 1 → ∀ a b, a ≤ n → b ≤ n → At n (rnd n l (t + s)) a b ≤ At n (rnd n l t) a b := by
 intro s
 induction s with
 | zero => intro _ a b _ _; exact Int.le_refl _
 | succ s ih =>
  intro hs a b ha hb
  refine Int.le_trans ?_ (ih (by omega) a b ha hb)
  rw [show t + (s + 1) = (t + s) + 1 by omega, rnd_succ]
  have h0 := rnd_length hl (t + s) (by omega)
  generalize rnd n l (t + s) = x at h0 ⊢
  exact (rlxI_keeps (R := fun y : List Int => y.length = (n + 1) * (n + 1) ∧ At n y a b ≤ At n x a b)
   (fun y i j hi hj hy => ⟨by simpa [rlx] using hy.1, Int.le_trans (set_le hy.1 hi hj _ hb) hy.2⟩) ⟨h0, Int.le_refl _⟩).2
theorem pre_low {n : Nat} {l : List Int} (hl : l.length = (n + 1) * (n + 1)) : ∀ j, j ≤ n → At n (pre n l) j j ≤ 1 ∧ At n (pre n l) 0 j ≤ 1 := by
 have h : ∀ t, t ≤ n + 1 → ((List.range t).foldl (st1 n) l).length = (n + 1) * (n + 1) ∧ ∀ j, j < t → At n ((List.range t).foldl (st1 n) l) j j ≤ 1 ∧ At n ((List.range t).foldl (st1 n) l) 0 j ≤ 1 := by
  refine fold_goes (R := fun t (x : List Int) => x.length = (n + 1) * (n + 1) ∧ ∀ j, j < t → At n x j j ≤ 1 ∧ At n x 0 j ≤ 1) (n + 1) (fun x t ht hx => ?_) l ⟨hl, fun j hj => by omega⟩
  have l1 : (x.set (ix n 0 t) (min (At n x 0 t) 1)).length = (n + 1) * (n + 1) := by simpa using hx.1
  refine ⟨by simpa [st1] using hx.1, fun j hj => ?_⟩
  have s1 : ∀ a b, b ≤ n → At n (st1 n x t) a b ≤ At n (x.set (ix n 0 t) (min (At n x 0 t) 1)) a b := fun a b hb => set_le l1 (by omega) (by omega) 1 hb
  have s2 : ∀ a b, b ≤ n → At n (x.set (ix n 0 t) (min (At n x 0 t) 1)) a b ≤ At n x a b := fun a b hb => set_le hx.1 (by omega) (by omega) 1 hb
  by_cases e : j = t
  · subst e
    constructor
    · show At n (List.set _ (ix n j j) _) j j ≤ 1
      rw [At_set l1 (by omega) (by omega) _ (by omega), if_pos ⟨rfl, rfl⟩]
      exact Int.min_le_right _ _
    · refine Int.le_trans (s1 0 j (by omega)) ?_
      rw [At_set hx.1 (by omega) (by omega) _ (by omega), if_pos ⟨rfl, rfl⟩]
      exact Int.min_le_right _ _
  · obtain ⟨h1, h2⟩ := hx.2 j (by omega)
    exact ⟨Int.le_trans (s1 j j (by omega)) (Int.le_trans (s2 j j (by omega)) h1), Int.le_trans (s1 0 j (by omega)) (Int.le_trans (s2 0 j (by omega)) h2)⟩
 intro j hj
 exact (h (n + 1) (Nat.le_refl _)).2 j (by omega)
def Vl (x : Int) : Prop := x = 1099511627776 ∨ (-2147483648 ≤ x ∧ x ≤ 2147483649)
def mat (n : Nat) (l : List Int) : Nat → Nat → Lm := fun i j => if i ≤ n ∧ j ≤ n then dec (At n (pre n l) i j) else none
end Go.Proofs.YthjapmdfcbngmaaGreat.Zo
namespace Go.Proofs.YthjapmdfcbngmaaGreat.Zo
def prw (n k i : Nat) (c : Int) (l : List Int) (j : Nat) : List Int := l.set (ix n i j) (min (At n l i j) (smW c (At n l k j)))
def st1' (n : Nat) (l : List Int) (j : Nat) : List Int :=
 let l1 := l.set (ix n j j) (min (At n l j j) 1)
 l1.set (ix n 0 j) (min (At n l1 0 j) 1)
theorem st1_eq {n : Nat} {l : List Int} (hl : l.length = (n + 1) * (n + 1)) {j : Nat} (hj : j ≤ n) : st1' n l j = st1 n l j := by
 by_cases e : j = 0
 · subst e; rfl
 · have hne : ix n j j ≠ ix n 0 j := fun h => e (ix_inj hj hj h).1
   have a1 : At n (l.set (ix n j j) (min (At n l j j) 1)) 0 j = At n l 0 j := by
    rw [At_set hl hj hj _ hj, if_neg (fun h => e h.1.symm)]
   have a2 : At n (l.set (ix n 0 j) (min (At n l 0 j) 1)) j j = At n l j j := by
    rw [At_set hl (by omega) hj _ hj, if_neg (fun h => e h.1)]
   unfold st1' st1
   simp only [a1, a2]
   exact List.set_comm _ _ hne
def A64 (l : List Int) : Prop := ∀ j, -9223372036854775808 ≤ gt l j ∧ gt l j ≤ 9223372036854775807
theorem smW_one {c : Int} (h1 : -9223372036854775808 ≤ c) (h2 : c ≤ 9223372036854775807) : smW c 1 = c := by
 unfold smW
 by_cases e : c = 1099511627776
 · rw [if_pos (Or.inl e), e]
 · rw [if_neg (by omega), if_neg (by omega)]
   unfold w64; omega
theorem smW_in (a b : Int) : -9223372036854775808 ≤ smW a b ∧ smW a b ≤ 9223372036854775807 := by
 unfold smW w64
 split
 · omega
 · split <;> omega
theorem gt_range (l : List Int) (k : Nat) (x : Int) (h1 : A64 l) (hx : -9223372036854775808 ≤ x ∧ x ≤ 9223372036854775807) : A64 (l.set k x) := by
 intro j
 by_cases hk : k < l.length
 · rw [gt_set x hk]; split
   · exact hx
   · exact h1 j
 · rw [List.set_eq_of_length_le (by omega)]; exact h1 j
theorem A64.min_ {l : List Int} (h : A64 l) (n i j : Nat) (y : Int) (hy : -9223372036854775808 ≤ y ∧ y ≤ 9223372036854775807) (k : Nat) : A64 (l.set k (min (At n l i j) y)) := by
 refine gt_range _ _ _ h ?_
 have := h (ix n i j)
 unfold At
 omega
theorem prow_eq {n k i : Nat} {X : List Int} (hl : X.length = (n + 1) * (n + 1)) (hk : k ≤ n) (hi : i ≤ n) (h64 : A64 X) (hd : At n X k k = 1) :
  ∀ t, t ≤ n + 1 → (List.range t).foldl (prw n k i (At n X i k)) X = (List.range t).foldl (rlx n k i) X := by
 have c64 := h64 (ix n i k)
 have H : ∀ t, t ≤ n + 1 → ((List.range t).foldl (prw n k i (At n X i k)) X = (List.range t).foldl (rlx n k i) X) ∧ ((List.range t).foldl (rlx n k i) X).length = (n + 1) * (n + 1)
   ∧ At n ((List.range t).foldl (rlx n k i) X) i k = At n X i k ∧ At n ((List.range t).foldl (rlx n k i) X) k k = 1 := by
  intro t
  induction t with
  | zero => intro _; exact ⟨rfl, hl, rfl, hd⟩
  | succ t ih =>
   intro ht
   obtain ⟨e, l1, a1, a2⟩ := ih (by omega)
   rw [fold_succ, fold_succ, e]
   generalize (List.range t).foldl (rlx n k i) X = Y at *
   refine ⟨?_, by simpa [rlx] using l1, ?_, ?_⟩
   · unfold prw rlx; rw [a1]
   · unfold rlx
     rw [At_set l1 hi (by omega) _ hk]
     split
     · rename_i h
       rw [← h.2, a1, a2]
       have := smW_one c64.1 c64.2
       unfold At at *
       rw [this]; omega
     · exact a1
   · unfold rlx
     rw [At_set l1 hi (by omega) _ hk]
     split
     · rename_i h
       obtain ⟨h1, h2⟩ := h
       subst h1
       subst h2
       rw [a2]
       rfl
     · exact a2
 exact fun t ht => (H t ht).1
theorem prow_len {n k i : Nat} (c : Int) {X : List Int} (hl : X.length = (n + 1) * (n + 1)) : ∀ t, ((List.range t).foldl (prw n k i c) X).length = (n + 1) * (n + 1) := by
 intro t
 induction t with
 | zero => exact hl
 | succ t ih => rw [fold_succ]; simpa [prw] using ih
theorem prow_le {n k i : Nat} (c : Int) {X : List Int} (hl : X.length = (n + 1) * (n + 1)) (hi : i ≤ n) {a b : Nat} (hb : b ≤ n) : ∀ t, t ≤ n + 1 → At n ((List.range t).foldl (prw n k i c) X) a b ≤ At n X a b := by
 intro t
 induction t with
 | zero => intro _; exact Int.le_refl _
 | succ t ih =>
  intro ht
  rw [fold_succ]
  exact Int.le_trans (set_le (prow_len c hl t) hi (by omega) _ hb) (ih (by omega))
def Mid (n : Nat) (l : List Int) (k i : Nat) (X : List Int) : Prop :=
 X = (List.range i).foldl (rlxJ n k) (rnd n l k) ∧ X.length = (n + 1) * (n + 1) ∧ A64 X ∧ (∀ a, a ≤ n → At n X a a ≤ 1) ∧ (∀ a, a ≤ n → (a < i ∨ 0 < k) → 1 ≤ At n X a a)
theorem rlx_64 {l : List Int} (h : A64 l) (n k i j : Nat) : A64 (rlx n k i l j) := h.min_ _ _ _ _ (smW_in _ _) _
theorem Mid.start {n : Nat} {l : List Int} (hl : l.length = (n + 1) * (n + 1)) (h64 : A64 l) : Mid n l 0 0 (pre n l) := by
 refine ⟨rfl, rnd_length hl 0 (by omega), ?_, fun a ha => (pre_low hl a ha).1, fun a ha h => by omega⟩
 exact pre_keeps (R := A64) (fun x i j _ _ _ hx => hx.min_ n i j 1 (by omega) _) h64
theorem Mid.row {n : Nat} {l : List Int} {k i : Nat} {X Y : List Int} (hk : k ≤ n) (hi : i ≤ n) (h : Mid n l k i X) (hY : Y = (List.range (n + 1)).foldl (prw n k i (At n X i k)) X)
  (hd : 1 ≤ At n Y i i) : Mid n l k (i + 1) Y := by
 obtain ⟨e, h1, h2, h3, h4⟩ := h
 have hkk : At n X k k = 1 := by
  have hle := h3 k hk
  by_cases c : k < i ∨ 0 < k
  · have := h4 k hk c; omega
  · have : k = i := by omega
    subst this
    have := prow_le (n := n) (k := k) (i := k) (At n X k k) h1 hi (a := k) hi (n + 1) (Nat.le_refl _)
    rw [← hY] at this
    omega
 have e2 := prow_eq h1 hk hi h2 hkk (n + 1) (Nat.le_refl _)
 have hY2 : Y = rlxJ n k X i := by rw [hY, e2]; rfl
 refine ⟨by rw [fold_succ, ← e, hY2], by rw [hY]; exact prow_len _ h1 _, ?_, ?_, ?_⟩
 · rw [hY2]; exact fold_keeps (R := A64) (n + 1) (fun a t _ ha => rlx_64 ha n k i t) _ h2 _ (Nat.le_refl _)
 · intro a ha
   have := prow_le (n := n) (k := k) (i := i) (At n X i k) h1 hi (a := a) ha (n + 1) (Nat.le_refl _)
   rw [← hY] at this
   exact Int.le_trans this (h3 a ha)
 · intro a ha c
   by_cases ea : a = i
   · rw [ea]; exact hd
   · have hrow : ∀ t, t ≤ n + 1 → At n ((List.range t).foldl (prw n k i (At n X i k)) X) a a = At n X a a := by
      intro t
      induction t with
      | zero => intro _; rfl
      | succ t ih =>
       intro ht
       rw [fold_succ]
       rw [show ∀ Z : List Int, prw n k i (At n X i k) Z t = Z.set (ix n i t) (min (At n Z i t) (smW (At n X i k) (At n Z k t))) from fun _ => rfl, At_set (prow_len _ h1 t) hi (by omega) _ ha, if_neg (fun h => ea h.1)]
       exact ih (by omega)
     rw [hY, hrow (n + 1) (Nat.le_refl _)]
     exact h4 a ha (by omega)
theorem Mid.round {n : Nat} {l : List Int} {k : Nat} {X : List Int} (h : Mid n l k (n + 1) X) : Mid n l (k + 1) 0 X := by
 obtain ⟨e, h1, h2, h3, h4⟩ := h
 refine ⟨?_, h1, h2, h3, fun a ha _ => h4 a ha (by omega)⟩
 rw [e]; show _ = rnd n l (k + 1)
 rw [rnd_succ]; rfl
theorem Mid.done {n : Nat} {l : List Int} {X : List Int} (h : Mid n l (n + 1) 0 X) : X = clo n l ∧ ∀ a, a ≤ n → 1 ≤ At n (clo n l) a a := by
 obtain ⟨e, h1, h2, h3, h4⟩ := h
 have e2 : X = clo n l := e
 exact ⟨e2, fun a ha => by rw [← e2]; exact h4 a ha (by omega)⟩
theorem rlxJ_le {n k i : Nat} {X : List Int} (hl : X.length = (n + 1) * (n + 1)) (hi : i ≤ n) {a b : Nat} (hb : b ≤ n) : (rlxJ n k X i).length = (n + 1) * (n + 1) ∧ At n (rlxJ n k X i) a b ≤ At n X a b := by
 unfold rlxJ
 exact fold_keeps (R := fun x : List Int => x.length = (n + 1) * (n + 1) ∧ At n x a b ≤ At n X a b) (n + 1)
  (fun x t ht hx => ⟨by simpa [rlx] using hx.1, Int.le_trans (set_le hx.1 hi (by omega) _ hb) hx.2⟩) _ ⟨hl, Int.le_refl _⟩ _ (Nat.le_refl _)
theorem rows_le {n k : Nat} {Z : List Int} (hl : Z.length = (n + 1) * (n + 1)) (i : Nat) {a b : Nat} (hb : b ≤ n) : ∀ d, i + d ≤ n + 1 →
  ((List.range (i + d)).foldl (rlxJ n k) Z).length = (n + 1) * (n + 1) ∧ At n ((List.range (i + d)).foldl (rlxJ n k) Z) a b ≤ At n ((List.range i).foldl (rlxJ n k) Z) a b := by
 intro d
 induction d with
 | zero =>
  intro h
  refine ⟨?_, Int.le_refl _⟩
  exact fold_keeps (R := fun x : List Int => x.length = (n + 1) * (n + 1)) (n + 1) (fun x t ht hx => (rlxJ_le (a := 0) (b := 0) hx (by omega) (by omega)).1) _ hl _ h
 | succ d ih =>
  intro h
  obtain ⟨h1, h2⟩ := ih (by omega)
  rw [show i + (d + 1) = (i + d) + 1 by omega, fold_succ]
  have := rlxJ_le (n := n) (k := k) (i := i + d) h1 (by omega) (a := a) hb
  exact ⟨this.1, Int.le_trans this.2 h2⟩
theorem clo_below {n : Nat} {l : List Int} (hl : l.length = (n + 1) * (n + 1)) {k i : Nat} (hk : k ≤ n) (hi : i ≤ n + 1) {a b : Nat} (ha : a ≤ n) (hb : b ≤ n) : At n (clo n l) a b ≤ At n ((List.range i).foldl (rlxJ n k) (rnd n l k)) a b := by
 have h1 := rnd_le hl (k + 1) (n - k) (by omega) a b ha hb
 rw [show k + 1 + (n - k) = n + 1 by omega, rnd_succ n l k] at h1
 have h2 := (rows_le (n := n) (k := k) (rnd_length hl k (by omega)) i (a := a) hb (n + 1 - i) (by omega)).2
 rw [show i + (n + 1 - i) = n + 1 by omega] at h2
 exact Int.le_trans h1 h2
theorem Mid.bad {n : Nat} {l : List Int} (hl : l.length = (n + 1) * (n + 1)) {k i : Nat} {X Y : List Int} (hk : k ≤ n) (hi : i ≤ n) (h : Mid n l k i X) (hY : Y = (List.range (n + 1)).foldl (prw n k i (At n X i k)) X)
  (hd : At n Y i i < 1) : At n (clo n l) i i < 1 := by
 obtain ⟨e, h1, h2, h3, h4⟩ := h
 by_cases c : At n X k k = 1
 · have e2 := prow_eq h1 hk hi h2 c (n + 1) (Nat.le_refl _)
   have hY2 : Y = (List.range (i + 1)).foldl (rlxJ n k) (rnd n l k) := by rw [fold_succ, ← e, hY, e2]; rfl
   have := clo_below hl hk (i := i + 1) (by omega) hi hi
   rw [← hY2] at this
   omega
 · have hle := h3 k hk
   have : k = i := by
    by_cases c2 : k < i ∨ 0 < k
    · have := h4 k hk c2; omega
    · omega
   subst this
   have := clo_below hl hk (i := k) (by omega) hi hi
   rw [← e] at this
   omega
end Go.Proofs.YthjapmdfcbngmaaGreat.Zo
namespace Go.Proofs.YthjapmdfcbngmaaGreat.Zo
def mt (D q l : Int) : Prop := l = 1099511627776 ∨ (l % 2 = 0 ∧ q < l / 2 * D) ∨ (¬ l % 2 = 0 ∧ q ≤ l / 2 * D)
theorem mt_none (D q : Int) : mt D q 1099511627776 := Or.inl rfl
theorem mt_one {D q : Int} : mt D q 1 ↔ q ≤ 0 := by
 unfold mt
 have : (1 : Int) / 2 * D = 0 := by rw [show (1 : Int) / 2 = 0 by decide]; omega
 rw [this]; omega
theorem mt_mono {D q a b : Int} (hD : 0 < D) (hab : a ≤ b) (hb : b ≤ 1099511627776) (h : mt D q a) : mt D q b := by
 unfold mt at h ⊢
 by_cases e : b = 1099511627776
 · exact Or.inl e
 · right
   have hl : a / 2 * D ≤ b / 2 * D := Int.mul_le_mul_of_nonneg_right (by omega) (by omega)
   rcases h with h | ⟨h1, h2⟩ | ⟨h1, h2⟩
   · omega
   · by_cases p : b % 2 = 0
     · exact Or.inl ⟨p, by omega⟩
     · exact Or.inr ⟨p, by omega⟩
   · by_cases p : b % 2 = 0
     · have : (a / 2 + 1) * D ≤ b / 2 * D := Int.mul_le_mul_of_nonneg_right (by omega) (by omega)
       rw [Int.add_mul] at this
       exact Or.inl ⟨p, by omega⟩
     · exact Or.inr ⟨p, by omega⟩
theorem mt_min {D q a b : Int} (h : mt D q a) (k : mt D q b) : mt D q (min a b) := by
 rcases Int.le_total a b with c | c
 · rwa [Int.min_eq_left c]
 · rwa [Int.min_eq_right c]
theorem mt_low {D q a M : Int} (hD : 0 < D) (hq : -(M * D) ≤ q) (h : mt D q a) (hM : 0 ≤ M) : -(2 * M) ≤ a := by
 unfold mt at h
 by_cases e : a < -(2 * M)
 · exfalso
   have hl : (a / 2 + M) * D ≤ -1 * D := Int.mul_le_mul_of_nonneg_right (by omega) (by omega)
   rw [Int.add_mul] at hl
   omega
 · omega
theorem mt_sum {D p q a b : Int} (ha : -1152921504606846976 ≤ a) (ha' : a ≤ 1152921504606846976) (hb : -1152921504606846976 ≤ b) (hb' : b ≤ 1152921504606846976) (h : mt D p a) (k : mt D q b) : mt D (p + q) (smW a b) := by
 unfold smW
 by_cases na : a = 1099511627776
 · rw [if_pos (Or.inl na)]; exact mt_none _ _
 by_cases nb : b = 1099511627776
 · rw [if_pos (Or.inr nb)]; exact mt_none _ _
 rw [if_neg (by omega)]
 unfold mt at h k
 have s : ∀ c, c = a / 2 + b / 2 → c * D = a / 2 * D + b / 2 * D := by intro c hc; rw [hc, Int.add_mul]
 by_cases ea : a % 2 = 0
 · by_cases eb : b % 2 = 0
   · rw [if_pos ⟨ea, eb⟩, w64_in (by omega) (by omega)]
     have := s ((a + b) / 2) (by omega)
     unfold mt; omega
   · rw [if_neg (by omega), w64_in (x := a + b) (by omega) (by omega), w64_in (by omega) (by omega)]
     have := s ((a + b - 1) / 2) (by omega)
     unfold mt; omega
 · rw [if_neg (by omega), w64_in (x := a + b) (by omega) (by omega), w64_in (by omega) (by omega)]
   have := s ((a + b - 1) / 2) (by omega)
   unfold mt; omega
def In (n : Nat) (l : List Int) (D : Int) (X : Nat → Int) : Prop := ∀ i j, i ≤ n → j ≤ n → mt D (X i - X j) (At n l i j)
structure Pt (n : Nat) (D : Int) (X : Nat → Int) (M : Int) : Prop where
 pos : 0 < D
 zero : X 0 = 0
 low : ∀ i, i ≤ n → 0 ≤ X i
 high : ∀ i, i ≤ n → X i ≤ M * D
theorem Pt.diff {n : Nat} {D : Int} {X : Nat → Int} {M : Int} (h : Pt n D X M) {i j : Nat} (hi : i ≤ n) (hj : j ≤ n) : -(M * D) ≤ X i - X j := by
 have := h.low i hi
 have := h.high j hj
 omega
theorem Pt.le {n : Nat} {D : Int} {X : Nat → Int} {M : Int} (h : Pt n D X M) : 0 ≤ M := by
 have a := h.low 0 (by omega)
 have b := h.high 0 (by omega)
 rcases Int.lt_or_le M 0 with c | c
 · have : M * D < 0 * D := Int.mul_lt_mul_of_pos_right c h.pos
   omega
 · exact c
def Top (n : Nat) (l : List Int) : Prop := l.length = (n + 1) * (n + 1) ∧ ∀ i j, i ≤ n → j ≤ n → At n l i j ≤ 1099511627776
theorem Top.put {n : Nat} {l : List Int} (h : Top n l) {i j : Nat} (hi : i ≤ n) (hj : j ≤ n) (y : Int) : Top n (l.set (ix n i j) (min (At n l i j) y)) :=
 ⟨by simpa using h.1, fun _ _ ha hb => Int.le_trans (set_le h.1 hi hj y hb) (h.2 _ _ ha hb)⟩
theorem clo_sound {n : Nat} {l : List Int} {D M : Int} {X : Nat → Int} (hp : Pt n D X M) (hM : M ≤ 4611686018427387) (ht : Top n l) (h : In n l D X) : In n (clo n l) D X := by
 have r : Top n (clo n l) ∧ In n (clo n l) D X := by
  refine clo_keeps (R := fun l => Top n l ∧ In n l D X) (fun l i j hij hi hj hl => ⟨hl.1.put hi hj 1, fun a b ha hb => ?_⟩) (fun l k i j hk hi hj hl => ⟨hl.1.put hi hj _, fun a b ha hb => ?_⟩) ⟨ht, h⟩
  · rw [At_set hl.1.1 hi hj _ hb]
    split
    · rename_i e
      rw [e.1, e.2]
      refine mt_min (hl.2 i j hi hj) (mt_one.2 ?_)
      rcases hij with z | z
      · subst z; have := hp.low j hj; rw [hp.zero]; omega
      · subst z; omega
    · exact hl.2 a b ha hb
  · unfold rlx
    rw [At_set hl.1.1 hi hj _ hb]
    split
    · rename_i e
      rw [e.1, e.2]
      have h1 := hl.2 i k hi hk
      have h2 := hl.2 k j hk hj
      have l1 := mt_low hp.pos (hp.diff hi hk) h1 hp.le
      have l2 := mt_low hp.pos (hp.diff hk hj) h2 hp.le
      have u1 := hl.1.2 i k hi hk
      have u2 := hl.1.2 k j hk hj
      refine mt_min (hl.2 i j hi hj) ?_
      have := mt_sum (by omega) (by omega) (by omega) (by omega) h1 h2
      rwa [show X i - X k + (X k - X j) = X i - X j by omega] at this
    · exact hl.2 a b ha hb
 exact r.2
theorem clo_le {n : Nat} {l : List Int} (hl : l.length = (n + 1) * (n + 1)) : ∀ a b, a ≤ n → b ≤ n → At n (clo n l) a b ≤ At n l a b := by
 intro a b ha hb
 exact (clo_keeps (R := fun x : List Int => x.length = (n + 1) * (n + 1) ∧ At n x a b ≤ At n l a b)
  (fun x i j _ hi hj hx => ⟨by simpa using hx.1, Int.le_trans (set_le hx.1 hi hj _ hb) hx.2⟩)
  (fun x k i j _ hi hj hx => ⟨by simpa [rlx] using hx.1, Int.le_trans (set_le hx.1 hi hj _ hb) hx.2⟩) ⟨hl, Int.le_refl _⟩).2
theorem clo_complete {n : Nat} {l : List Int} {D : Int} {X : Nat → Int} (hD : 0 < D) (ht : Top n l) (h : In n (clo n l) D X) : In n l D X :=
 fun i j hi hj => mt_mono hD (clo_le ht.1 i j hi hj) (ht.2 i j hi hj) (h i j hi hj)
theorem In.diag {n : Nat} {l : List Int} {D : Int} {X : Nat → Int} (hD : 0 < D) (h : In n l D X) {i : Nat} (hi : i ≤ n) : 1 ≤ At n l i i := by
 have := h i i hi hi
 rw [Int.sub_self] at this
 unfold mt at this
 rcases this with e | ⟨e, g⟩ | ⟨e, g⟩
 · omega
 · by_cases c : At n l i i / 2 ≤ 0
   · have : At n l i i / 2 * D ≤ 0 * D := Int.mul_le_mul_of_nonneg_right c (by omega)
     omega
   · omega
 · by_cases c : At n l i i / 2 ≤ -1
   · have : At n l i i / 2 * D ≤ -1 * D := Int.mul_le_mul_of_nonneg_right c (by omega)
     omega
   · omega
end Go.Proofs.YthjapmdfcbngmaaGreat.Zo
