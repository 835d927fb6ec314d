/- Plain mathematics of bounds: where the diagonal stays, closing in place is the rule of Floyd and Warshall, and the result keeps to the inequality of triangles. Nothing of the program is named here.; The contract of closed of layer 3's reference.; Contracts of layer 3's matrices: a matrix in memory, row, tighten.; Contracts of layer 3's small functions: sum, isDimension, places.; Plain mathematics: the project's closing of a matrix, row by row, against the reference's. Nothing of the program is named here.; The contract of layer 3's closing of a matrix: shorten.; The contract of Check of layer 3's reference.; Contracts of copied of layer 3's reference, and of what is built on it.; The frame of the functions of layer 3's reference that copy a zone, set elements and close it.; Contracts of Check, Up, Down and Free of layer 3's reference, for any zone, valid or not.; Contracts of slices.Clone at limits, and of the method zone of layer 3's matrices.; Contracts of layer 3's within.; A block of cells that stores elsewhere leave as it is. -/
import Derived.Test.YtbnebinpemejlaaGreatHp1
import Derived.Deep.DeepCutAuto
import Derived.Deep.MidRow
import Derived.StillTailTactics
import Derived.Deep.RegionLawGrows
import Derived.Lib.SmallJoins
import Derived.Lib.SliceRun
import Derived.Deep.WholeRow

namespace Go.Proofs.YtbnebinpemejlaaGreat.Zo

def enc : Lm → Int
  | none => 1099511627776
  | some x => x

def dec (x : Int) : Lm := if x = 1099511627776 then none else some x

theorem enc_dec (x : Int) : enc (dec x) = x := by unfold dec; split <;> simp_all [enc]

def Bd (D : Nat → Nat → Lm) : Prop := ∀ i j x, D i j = some x → -1125899906842624 ≤ x ∧ x ≤ 274877906944

theorem enc_step {a b c : Lm} (ha : ∀ x, a = some x → x ≤ 274877906944) (hb : ∀ x, b = some x → -1125899906842624 ≤ x ∧ x ≤ 274877906944) (hc : ∀ x, c = some x → -1125899906842624 ≤ x ∧ x ≤ 274877906944) :
    min (enc a) (smW (enc b) (enc c)) = enc (mn a (add b c)) := by
  cases b with
  | none =>
    cases a with
    | none => simp [enc, smW, mn, add]
    | some x => have := ha x rfl; simp [enc, smW, mn, add]; omega
  | some y =>
    have y1 := hb y rfl
    cases c with
    | none =>
      cases a with
      | none => simp [enc, smW, mn, add]
      | some x => have := ha x rfl; simp [enc, smW, mn, add]; omega
    | some z =>
      have z1 := hc z rfl
      have e : smW y z = ps y z := by
        unfold smW ps
        rw [if_neg (by omega)]
        split
        · exact w64_in (by omega) (by omega)
        · rw [w64_in (x := y + z) (by omega) (by omega)]; exact w64_in (by omega) (by omega)
      have p : ps y z ≤ 549755813888 := by unfold ps; split <;> omega
      cases a with
      | none => simp [enc, mn, add, e]; omega
      | some x => simp [enc, mn, add, e]

/-- The list holds the matrix. -/
def Rep (n : Nat) (l : List Int) (D : Nat → Nat → Lm) : Prop := l.length = (n + 1) * (n + 1) ∧ ∀ a b, a ≤ n → b ≤ n → At n l a b = enc (D a b)

def Mix (n k : Nat) (D : Nat → Nat → Lm) (i j : Nat) (l : List Int) : Prop :=
  l.length = (n + 1) * (n + 1) ∧ ∀ a b, a ≤ n → b ≤ n → At n l a b = enc (if a < i ∨ (a = i ∧ b < j) then stp k D a b else D a b)

theorem mix_step {n k : Nat} {D : Nat → Nat → Lm} (hB : Bd D) (hk : D k k = some 1) (hkn : k ≤ n) {i j : Nat} (hi : i ≤ n) (hj : j ≤ n) {l : List Int} (h : Mix n k D i j l) : Mix n k D i (j + 1) (rlx n k i l j) := by
  refine ⟨by simpa [rlx] using h.1, fun a b ha hb => ?_⟩
  unfold rlx
  rw [At_set h.1 hi hj _ hb]
  by_cases e : a = i ∧ b = j
  · obtain ⟨rfl, rfl⟩ := e
    rw [if_pos ⟨rfl, rfl⟩, if_pos (Or.inr ⟨rfl, by omega⟩)]
    have e1 : At n l a b = enc (D a b) := by rw [h.2 a b ha hb, if_neg (by omega)]
    have e2 : At n l a k = enc (D a k) := by
      rw [h.2 a k ha hkn]; split
      · rw [stp_col hk]
      · rfl
    have e3 : At n l k b = enc (D k b) := by
      rw [h.2 k b hkn hb]; split
      · rw [stp_row hk]
      · rfl
    rw [e1, e2, e3]
    exact enc_step (fun x hx => (hB _ _ x hx).2) (fun x hx => hB _ _ x hx) (fun x hx => hB _ _ x hx)
  · rw [if_neg e, h.2 a b ha hb]
    by_cases c : a < i ∨ (a = i ∧ b < j)
    · rw [if_pos c, if_pos (by omega)]
    · rw [if_neg c, if_neg (by omega)]

theorem mix_row {n k : Nat} {D : Nat → Nat → Lm} {i : Nat} {l : List Int} (h : Mix n k D i (n + 1) l) : Mix n k D (i + 1) 0 l := by
  refine ⟨h.1, fun a b ha hb => ?_⟩
  rw [h.2 a b ha hb]
  by_cases c : a < i ∨ (a = i ∧ b < n + 1)
  · rw [if_pos c, if_pos (by omega)]
  · rw [if_neg c, if_neg (by omega)]

theorem fold_goes {α : Type} {f : α → Nat → α} {R : Nat → α → Prop} (N : Nat) (h : ∀ a t, t < N → R t a → R (t + 1) (f a t)) (a : α) (ha : R 0 a) : ∀ t, t ≤ N → R t ((List.range t).foldl f a) := by
  intro t
  induction t with
  | zero => intro _; exact ha
  | succ t ih => intro ht; rw [fold_succ]; exact h _ _ (by omega) (ih (by omega))

theorem round_rep {n k : Nat} {D : Nat → Nat → Lm} {l : List Int} (hB : Bd D) (hk : D k k = some 1) (hkn : k ≤ n) (h : Rep n l D) : Rep n (rlxI n l k) (stp k D) := by
  have h0 : Mix n k D 0 0 l := ⟨h.1, fun a b ha hb => by rw [if_neg (by omega)]; exact h.2 a b ha hb⟩
  have h1 : Mix n k D (n + 1) 0 (rlxI n l k) := by
    unfold rlxI
    refine fold_goes (R := fun t l => Mix n k D t 0 l) (n + 1) (fun a i hi ha => ?_) l h0 _ (Nat.le_refl _)
    refine mix_row ?_
    unfold rlxJ
    exact fold_goes (R := fun t l => Mix n k D i t l) (n + 1) (fun a j hj ha => mix_step hB hk hkn (by omega) (by omega) ha) a ha _ (Nat.le_refl _)
  refine ⟨h1.1, fun a b ha hb => ?_⟩
  rw [h1.2 a b ha hb, if_pos (by omega)]

/-- Rounds, one behind the other. -/
def rnd (n : Nat) (l : List Int) (t : Nat) : List Int := (List.range t).foldl (rlxI n) (pre n l)

theorem rlxI_keeps {n k : Nat} {R : List Int → Prop} (h : ∀ l i j, i ≤ n → j ≤ n → R l → R (rlx n k i l j)) {l : List Int} (hl : R l) : R (rlxI n l k) := by
  unfold rlxI
  refine fold_keeps (n + 1) (fun a i hi ha => ?_) _ hl _ (Nat.le_refl _)
  exact fold_keeps (n + 1) (fun a j hj ha => h a i j (by omega) (by omega) ha) _ ha _ (Nat.le_refl _)

theorem pre_keeps {n : Nat} {R : List Int → Prop} (h1 : ∀ l i j, (i = 0 ∨ i = j) → i ≤ n → j ≤ n → R l → R (l.set (ix n i j) (min (At n l i j) 1))) {l : List Int} (h : R l) : R (pre n l) := by
  unfold pre
  refine fold_keeps (n + 1) (fun a j hj ha => ?_) l h _ (Nat.le_refl _)
  unfold st1
  exact h1 _ j j (Or.inr rfl) (by omega) (by omega) (h1 a 0 j (Or.inl rfl) (by omega) (by omega) ha)

theorem rnd_length {n : Nat} {l : List Int} (hl : l.length = (n + 1) * (n + 1)) : ∀ t, t ≤ n + 1 → (rnd n l t).length = (n + 1) * (n + 1) := by
  refine fun t ht => fold_keeps (R := fun x : List Int => x.length = (n + 1) * (n + 1)) (n + 1) (fun a k hk ha => ?_) _ ?_ t ht
  · exact rlxI_keeps (R := fun x : List Int => x.length = (n + 1) * (n + 1)) (fun l i j _ _ h => by simpa [rlx] using h) ha
  · exact pre_keeps (R := fun x : List Int => x.length = (n + 1) * (n + 1)) (fun l i j _ _ _ h => by simpa using h) hl

theorem rnd_succ (n : Nat) (l : List Int) (t : Nat) : rnd n l (t + 1) = rlxI n (rnd n l t) t := fold_succ _ _ _

theorem rnd_le {n : Nat} {l : List Int} (hl : l.length = (n + 1) * (n + 1)) (t : Nat) : ∀ s, t + s ≤ n + 1 → ∀ a b, a ≤ n → b ≤ n → At n (rnd n l (t + s)) a b ≤ At n (rnd n l t) a b := by
  intro s
  induction s with
  | zero => intro _ a b _ _; exact Int.le_refl _
  | succ s ih =>
    intro hs a b ha hb
    refine Int.le_trans ?_ (ih (by omega) a b ha hb)
    rw [show t + (s + 1) = (t + s) + 1 by omega, rnd_succ]
    have h0 := rnd_length hl (t + s) (by omega)
    generalize rnd n l (t + s) = x at h0 ⊢
    exact (rlxI_keeps (R := fun y : List Int => y.length = (n + 1) * (n + 1) ∧ At n y a b ≤ At n x a b)
      (fun y i j hi hj hy => ⟨by simpa [rlx] using hy.1, Int.le_trans (set_le hy.1 hi hj _ hb) hy.2⟩) ⟨h0, Int.le_refl _⟩).2

/-- Behind the first step the diagonal and the first row are at most 'at most 0'. -/
theorem pre_low {n : Nat} {l : List Int} (hl : l.length = (n + 1) * (n + 1)) : ∀ j, j ≤ n → At n (pre n l) j j ≤ 1 ∧ At n (pre n l) 0 j ≤ 1 := by
  have h : ∀ t, t ≤ n + 1 → ((List.range t).foldl (st1 n) l).length = (n + 1) * (n + 1) ∧ ∀ j, j < t → At n ((List.range t).foldl (st1 n) l) j j ≤ 1 ∧ At n ((List.range t).foldl (st1 n) l) 0 j ≤ 1 := by
    refine fold_goes (R := fun t (x : List Int) => x.length = (n + 1) * (n + 1) ∧ ∀ j, j < t → At n x j j ≤ 1 ∧ At n x 0 j ≤ 1) (n + 1) (fun x t ht hx => ?_) l ⟨hl, fun j hj => by omega⟩
    have l1 : (x.set (ix n 0 t) (min (At n x 0 t) 1)).length = (n + 1) * (n + 1) := by simpa using hx.1
    refine ⟨by simpa [st1] using hx.1, fun j hj => ?_⟩
    have s1 : ∀ a b, b ≤ n → At n (st1 n x t) a b ≤ At n (x.set (ix n 0 t) (min (At n x 0 t) 1)) a b := fun a b hb => set_le l1 (by omega) (by omega) 1 hb
    have s2 : ∀ a b, b ≤ n → At n (x.set (ix n 0 t) (min (At n x 0 t) 1)) a b ≤ At n x a b := fun a b hb => set_le hx.1 (by omega) (by omega) 1 hb
    by_cases e : j = t
    · subst e
      constructor
      · show At n (List.set _ (ix n j j) _) j j ≤ 1
        rw [At_set l1 (by omega) (by omega) _ (by omega), if_pos ⟨rfl, rfl⟩]
        exact Int.min_le_right _ _
      · refine Int.le_trans (s1 0 j (by omega)) ?_
        rw [At_set hx.1 (by omega) (by omega) _ (by omega), if_pos ⟨rfl, rfl⟩]
        exact Int.min_le_right _ _
    · obtain ⟨h1, h2⟩ := hx.2 j (by omega)
      exact ⟨Int.le_trans (s1 j j (by omega)) (Int.le_trans (s2 j j (by omega)) h1), Int.le_trans (s1 0 j (by omega)) (Int.le_trans (s2 0 j (by omega)) h2)⟩
  intro j hj
  exact (h (n + 1) (Nat.le_refl _)).2 j (by omega)

/-- A valid limit. -/
def Vl (x : Int) : Prop := x = 1099511627776 ∨ (-2147483648 ≤ x ∧ x ≤ 2147483649)

theorem pre_valid {n : Nat} {l : List Int} (hl : l.length = (n + 1) * (n + 1)) (hv : ∀ a b, a ≤ n → b ≤ n → Vl (At n l a b)) : ∀ a b, a ≤ n → b ≤ n → Vl (At n (pre n l) a b) := by
  refine (pre_keeps (R := fun x : List Int => x.length = (n + 1) * (n + 1) ∧ ∀ a b, a ≤ n → b ≤ n → Vl (At n x a b)) (fun x i j _ hi hj hx => ⟨by simpa using hx.1, fun a b ha hb => ?_⟩) ⟨hl, hv⟩).2
  rw [At_set hx.1 hi hj _ hb]
  split
  · have := hx.2 i j hi hj
    unfold Vl at this ⊢
    omega
  · exact hx.2 a b ha hb

/-- The matrix of limits that the rounds begin with. -/
def mat (n : Nat) (l : List Int) : Nat → Nat → Lm := fun i j => if i ≤ n ∧ j ≤ n then dec (At n (pre n l) i j) else none

theorem clo_rep {n : Nat} {l : List Int} (hn : n ≤ 10) (hl : l.length = (n + 1) * (n + 1)) (hv : ∀ a b, a ≤ n → b ≤ n → Vl (At n l a b)) (hd : ∀ i, i ≤ n → 1 ≤ At n (clo n l) i i) :
    ∀ t, t ≤ n + 1 → Rep n (rnd n l t) (fw (mat n l) t) ∧ ∀ k, k < t → fw (mat n l) k k k = some 1 := by
  have pv := pre_valid hl hv
  have hm : ∀ i j x, mat n l i j = some x → x ≤ 2147483649 ∧ -2147483649 + 1 ≤ x := by
    intro i j x h
    unfold mat at h
    split at h
    · rename_i c
      have := pv i j c.1 c.2
      unfold dec at h
      unfold Vl at this
      split at h
      · simp at h
      · simp at h; omega
    · simp at h
  have dg : ∀ t, t ≤ n + 1 → ∀ i, i ≤ n → At n (rnd n l t) i i = 1 := by
    intro t ht i hi
    have h1 := rnd_le hl t (n + 1 - t) (by omega) i i hi hi
    rw [show t + (n + 1 - t) = n + 1 by omega] at h1
    have h2 := rnd_le hl 0 t (by omega) i i hi hi
    have h3 := (pre_low hl i hi).1
    have h4 := hd i hi
    have e : rnd n l (n + 1) = clo n l := rfl
    have e0 : rnd n l 0 = pre n l := rfl
    rw [e] at h1
    rw [e0, Nat.zero_add] at h2
    omega
  intro t
  induction t with
  | zero =>
    intro _
    refine ⟨⟨rnd_length hl 0 (by omega), fun a b ha hb => ?_⟩, fun k hk => by omega⟩
    show At n (pre n l) a b = enc (mat n l a b)
    unfold mat
    rw [if_pos ⟨ha, hb⟩, enc_dec]
  | succ t ih =>
    intro ht
    obtain ⟨hr, hdg⟩ := ih (by omega)
    have htt : fw (mat n l) t t t = some 1 := by
      have h1 := hr.2 t t (by omega) (by omega)
      rw [dg t (by omega) t (by omega)] at h1
      cases e : fw (mat n l) t t t with
      | none => rw [e] at h1; simp [enc] at h1
      | some x => rw [e] at h1; simp [enc] at h1; rw [h1]
    have all : ∀ k, k < t + 1 → fw (mat n l) k k k = some 1 := by
      intro k hk
      by_cases e : k = t
      · rw [e]; exact htt
      · exact hdg k (by omega)
    have hB : Bd (fw (mat n l) t) := by
      intro i j x h
      constructor
      · have := fw_low (c := 2147483649) (by omega) (fun i j x h => (hm i j x h).2) t i j x h
        have p : (2 : Int) ^ t ≤ 2 ^ 11 := by
          have : (2 : Nat) ^ t ≤ 2 ^ 11 := Nat.pow_le_pow_right (by omega) (by omega)
          exact_mod_cast this
        omega
      · obtain ⟨S, _, hx⟩ := fw_bound (U := 2147483649) (fun i j x h => (hm i j x h).1) t hdg i j x h
        have := cnt_le S t
        omega
    refine ⟨?_, all⟩
    rw [rnd_succ]
    exact round_rep hB htt (by omega) hr

/-- Where the diagonal stays, what is closed keeps to the inequality of triangles. -/
theorem clo_tri {n : Nat} {l : List Int} (hn : n ≤ 10) (hl : l.length = (n + 1) * (n + 1)) (hv : ∀ a b, a ≤ n → b ≤ n → Vl (At n l a b)) (hd : ∀ i, i ≤ n → 1 ≤ At n (clo n l) i i) :
    Rep n (clo n l) (fw (mat n l) (n + 1)) ∧ Tri (n + 1) (fw (mat n l) (n + 1)) := by
  obtain ⟨hr, hdg⟩ := clo_rep hn hl hv hd (n + 1) (Nat.le_refl _)
  exact ⟨hr, tri_fw (n + 1) hdg⟩
end Go.Proofs.YtbnebinpemejlaaGreat.Zo

namespace Go.Proofs.YtbnebinpemejlaaGreat
open Go.RowKit

/-- The row at g has become l; else nothing from before has turned. -/
def St (w0 : World) (g cap : Nat) (l : List Int) (w : World) : Prop := Own w g cap l ∧ w0.grownBy w (some g)

theorem St.drew {w0 w : World} {g cap : Nat} {l : List Int} (h : St w0 g cap l w) : St w0 g cap l w.drew :=
  ⟨h.1.kept (row := none) ⟨rfl, rfl, rfl, Nat.le_refl _, fun _ _ _ => rfl⟩ (by simp), grown_trans h.2 ⟨rfl, rfl, rfl, Nat.le_refl _, fun _ _ _ => rfl⟩⟩

theorem St.cell {w0 w : World} {g cap : Nat} {l : List Int} (h : St w0 g cap l w) {p : Addr} {v : Value} (hc : w0.cell? p = some v) (hne : p.block ≠ g) : w.cell? p = some v := h.2.cell hc (by simpa using hne)

theorem St.frozen {w0 w : World} {g cap : Nat} {l : List Int} (h : St w0 g cap l w) {p : Addr} (hl : p.block < w0.heap.size) (hne : p.block ≠ g) : w.frozen? p = w0.frozen? p := World.frozen?_of_block (h.2.block _ hl (by simpa using hne))

theorem St.alloc {w0 w : World} {g cap : Nat} {l : List Int} (h : St w0 g cap l w) (o : Obj) : St w0 g cap l (w.alloc o) := ⟨h.1.alloc o, grown_trans h.2 (World.grownBy_alloc w o _)⟩

theorem at_st {w0 : World} {g cap n i j : Nat} {l : List Int} {w : World} (hn : n ≤ 10) (hi : i ≤ n) (hj : j ≤ n) (hl : l.length = (n + 1) * (n + 1)) (h : St w0 g cap l w) :
    Calls Tryz.prog 26 #[.agg #[.int .i64 n, .slice (some ⟨g, 0, none⟩) l.length cap], .int .i64 i, .int .i64 j] w
      (fun e w' => e = .returned (.int .i64 (Zo.At n l i j)) ∧ St w0 g cap l w') := by
  refine (at_any n i j l ⟨g, 0, none⟩ cap w hn hi hj hl h.1.rd).mono ?_
  rintro e w' ⟨rfl, hb⟩
  have hg : w.grownBy w' none := ⟨hb.os, hb.tape, hb.output, hb.size, fun k hk _ => hb.block k hk⟩
  exact ⟨rfl, h.1.kept hg (by simp), grown_trans h.2 ⟨hg.os, hg.tape, hg.output, hg.size, fun k hk _ => hg.block k hk (by simp)⟩⟩

theorem sum_st {w0 : World} {g cap : Nat} {l : List Int} {w : World} (a b : Int) (h : St w0 g cap l w) :
    Calls Tryz.prog 76 #[.int .i64 a, .int .i64 b] w (fun e w' => e = .returned (.int .i64 (Zo.smW a b)) ∧ St w0 g cap l w') := by
  refine (sum2_any a b w).mono ?_
  rintro e w' ⟨rfl, rfl⟩
  exact ⟨rfl, h⟩

/-- 'min' of two limits, as a word that the walk doesn't part. -/
def imin (x y : Int) : Int := min x y

theorem run_imin (x y : Int) (ts : Array TypeId) (t : TypeId) (W : World) : (Builtin.min_ ts t #[.int .i64 x, .int .i64 y]).run Tryz.prog W = .ok (.int .i64 (imin x y)) W := by
  rw [run_min_int2]; unfold imin
  congr 2
  split
  · rw [Int.min_eq_right (by omega)]
  · rw [Int.min_eq_left (by omega)]

/-- What closed tells: an empty set, an element out of range, or neither. -/
def cloB (n : Nat) (l : List Int) : Bool := (List.range (n + 1)).any fun i => decide (Zo.At n (Zo.clo n l) i i < 1)

def cloE (n : Nat) (l : List Int) : Int := if cloB n l then 4 else if (Zo.clo n l).all lvB then 0 else 7

/-- A zone, or with an error the zero one. -/
def zres (e : Int) (n g len cap : Nat) : Value := if e = 0 then .agg #[.int .i64 n, .slice (some ⟨g, 0, none⟩) len cap] else .agg #[.int .i64 0, .slice none 0 0]

theorem cloE_four {n : Nat} {l : List Int} {i : Nat} (hi : i ≤ n) (h : Zo.At n (Zo.clo n l) i i < 1) (g len cap : Nat) : cloE n l = 4 ∧ zres (cloE n l) n g len cap = .agg #[.int .i64 0, .slice none 0 0] := by
  have : cloB n l = true := by unfold cloB; rw [List.any_eq_true]; exact ⟨i, by simp; omega, by simpa using h⟩
  have e : cloE n l = 4 := by unfold cloE; rw [this]; rfl
  exact ⟨e, by rw [e]; rfl⟩

theorem cloB_no {n : Nat} {l : List Int} (h : ∀ i, i < n + 1 → ¬ Zo.At n (Zo.clo n l) i i < 1) : cloB n l = false := by
  unfold cloB; rw [List.any_eq_false]; intro i hi; simp at hi; simpa using h i hi

theorem cloE_seven {n : Nat} {l : List Int} (h : cloB n l = false) {i : Nat} (hi : i < (Zo.clo n l).length) (hv : lvB (Zo.gt (Zo.clo n l) i) = false) (g len cap : Nat) : cloE n l = 7 ∧ zres (cloE n l) n g len cap = .agg #[.int .i64 0, .slice none 0 0] := by
  have : (Zo.clo n l).all lvB = false := by
    rw [List.all_eq_false]
    refine ⟨(Zo.clo n l)[i], List.getElem_mem hi, ?_⟩
    rw [show (Zo.clo n l)[i] = Zo.gt (Zo.clo n l) i by simp [Zo.gt, hi], hv]; simp
  have e : cloE n l = 7 := by unfold cloE; rw [h, this]; rfl
  exact ⟨e, by rw [e]; rfl⟩

theorem cloE_ok {n : Nat} {l : List Int} (h : cloB n l = false) (hv : ∀ i, i < (Zo.clo n l).length → lvB (Zo.gt (Zo.clo n l) i) = true) (g len cap : Nat) : cloE n l = 0 ∧ zres (cloE n l) n g len cap = .agg #[.int .i64 n, .slice (some ⟨g, 0, none⟩) len cap] := by
  have : (Zo.clo n l).all lvB = true := by
    rw [List.all_eq_true]
    intro x hx
    obtain ⟨i, hi, rfl⟩ := List.getElem_of_mem hx
    have := hv i hi
    simpa [Zo.gt, hi] using this
  have e : cloE n l = 0 := by unfold cloE; rw [h, this]; rfl
  exact ⟨e, by rw [e]; rfl⟩

theorem ret_z {a b : Value} {c d : Int} (h : a = b) (g : c = d) : Ending.returned (.tuple #[a, .int .i64 c]) = .returned (.tuple #[b, .int .i64 d]) := by rw [h, g]

theorem put_aside {w w0 w' : World} {g cap b : Nat} {l : List Int} {u v : Value} (hb : b ≠ g) (hgr : w.grownBy w0 (some g)) (hlt : w.heap.size ≤ b) (h : St w0 g cap l w') :
    Own ((w'.setCell ⟨b, 0, none⟩ u).setCell ⟨b, 1, none⟩ v) g cap l ∧ w.grownBy ((w'.setCell ⟨b, 0, none⟩ u).setCell ⟨b, 1, none⟩ v) (some g) := by
  have e1 : w'.grownBy (w'.setCell ⟨b, 0, none⟩ u) (some b) := ⟨rfl, rfl, rfl, by simp, fun k _ hk => heap_setCell_other w' ⟨b, 0, none⟩ k u (fun e => hk (by simp [e]))⟩
  have e2 : (w'.setCell ⟨b, 0, none⟩ u).grownBy ((w'.setCell ⟨b, 0, none⟩ u).setCell ⟨b, 1, none⟩ v) (some b) := ⟨rfl, rfl, rfl, by simp, fun k _ hk => heap_setCell_other _ ⟨b, 1, none⟩ k v (fun e => hk (by simp [e]))⟩
  have e3 := grown_trans e1 e2
  have e4 := grown_trans hgr h.2
  refine ⟨h.1.kept e3 (by simp; omega), e3.os.trans e4.os, e3.tape.trans e4.tape, e3.output.trans e4.output, Nat.le_trans e4.size e3.size, fun k hk hne => ?_⟩
  exact (e3.block k (Nat.lt_of_lt_of_le hk e4.size) (by simp; omega)).trans (e4.block k hk hne)
end Go.Proofs.YtbnebinpemejlaaGreat

namespace Go.Proofs.YtbnebinpemejlaaGreat
open Go.RowKit

/-- A matrix's limits as the array of 121 has them. -/
def pad (l : List Int) : List Int := l ++ List.replicate (121 - l.length) 0

/-- The cells of a matrix. -/
def mcs (n : Nat) (l : List Int) : Array Value := ⟨.int .i64 n :: (pad l).map (Value.int .i64)⟩

/-- Block b holds a matrix: its dimension and its limits. -/
def Mx (w : World) (b n : Nat) (l : List Int) : Prop := w.heap[b]? = some (.cells (mcs n l) 54 (0, 0)) ∧ l.length = (n + 1) * (n + 1)

theorem Mx.lt {w : World} {b n : Nat} {l : List Int} (h : Mx w b n l) : b < w.heap.size := by
  by_cases e : b < w.heap.size
  · exact e
  · have := h.1; rw [Array.getElem?_eq_none (by omega)] at this; cases this

theorem Mx.cell {w : World} {b n : Nat} {l : List Int} (h : Mx w b n l) (j : Nat) : w.cell? ⟨b, j, none⟩ = (mcs n l)[j]? := cell_of_row w b j _ _ _ h.1

theorem Mx.dim {w : World} {b n : Nat} {l : List Int} (h : Mx w b n l) : w.cell? ⟨b, 0, none⟩ = some (.int .i64 n) := by rw [h.cell]; rfl

theorem Mx.at {w : World} {b n : Nat} {l : List Int} (h : Mx w b n l) {j : Nat} (hj : j < l.length) : w.cell? ⟨b, 1 + j, none⟩ = some (.int .i64 (Zo.gt l j)) := by
  rw [h.cell, Nat.add_comm]
  simp [mcs, pad, Zo.gt, hj, List.getElem?_append]

theorem Mx.free {w : World} {b n : Nat} {l : List Int} (h : Mx w b n l) (j : Nat) : w.frozen? ⟨b, j, none⟩ = false := frozen_of_row w b j _ _ h.1

theorem pad_set (l : List Int) (j : Nat) (x : Int) (hj : j < l.length) : (pad l).set j x = pad (l.set j x) := by
  unfold pad; rw [List.set_append_left _ _ hj, List.length_set]

theorem Mx.put {w : World} {b n : Nat} {l : List Int} (h : Mx w b n l) (j : Nat) (x : Int) (hj : j < l.length) : Mx (w.setCell ⟨b, 1 + j, none⟩ (.int .i64 x)) b n (l.set j x) := by
  refine ⟨?_, by simpa using h.2⟩
  rw [heap_setCell_same w b _ _ _ _ h.1]
  congr 2
  rw [Nat.add_comm]
  simp [mcs, ← pad_set l j x hj, List.map_set]

theorem Mx.of_block {w w' : World} {b n : Nat} {l : List Int} (h : Mx w b n l) (e : w'.heap[b]? = w.heap[b]?) : Mx w' b n l := ⟨e.trans h.1, h.2⟩

theorem Mx.kept {w w' : World} {b n : Nat} {l : List Int} {r : Option Nat} (h : Mx w b n l) (hg : w.grownBy w' r) (hne : some b ≠ r) : Mx w' b n l := h.of_block (hg.block b h.lt hne)

theorem Mx.alloc {w : World} {b n : Nat} {l : List Int} (h : Mx w b n l) (o : Obj) : Mx (w.alloc o) b n l := h.of_block (heap_alloc_old w o h.lt)

theorem Mx.drew {w : World} {b n : Nat} {l : List Int} (h : Mx w b n l) : Mx w.drew b n l := h.of_block rfl

theorem grown_put (w : World) (b j : Nat) (v : Value) : w.grownBy (w.setCell ⟨b, j, none⟩ v) (some b) :=
  ⟨rfl, rfl, rfl, by simp, fun k _ hk => heap_setCell_other w ⟨b, j, none⟩ k v (fun e => hk (by simp [e]))⟩

theorem cells_ty : Tryz.prog.underlying 52 = some (.array 121 46) := by kernel_rfl

theorem limit_size (w : World) : (sizeOf 46).run Tryz.prog w = .ok 1 w := by
  have h : (Tryz.prog.info? 46).map (fun i => (i.zero, i.size)) = some (some (.int .i64 0), 1) := by kernel_rfl
  cases hq : Tryz.prog.info? 46 with
  | none => simp [hq] at h
  | some i => simp [hq] at h; simp [sizeOf, typeInfo, hq, h.2]

/-- A part of the cells of a matrix, as a slice. -/
theorem run_part (b : Nat) (x y : Int) (lo k : Nat) (hx : x = lo) (hy : y = ((lo + k : Nat) : Int)) (hk : 0 < k) (hm : lo + k ≤ 121) (w : World) :
    (Instr.sliceAt 52 (.pointer (some ⟨b, 1, none⟩)) (some (.int .i64 x)) (some (.int .i64 y)) (some (.int .i64 y))).run Tryz.prog w = .ok (.slice (some ⟨b, 1 + lo, none⟩) k k) w := by
  subst hx; subst hy
  have ha : Tryz.prog.arrayLen 52 = 121 := by simp [Program.arrayLen]
  have he : Tryz.prog.elem 52 = 46 := by simp [Program.elem]
  rw [run_sliceAt_array_lhm w 52 ⟨b, 1, none⟩ (by rw [ha, he]; exact cells_ty) .i64 .i64 .i64 lo (lo + k : Nat) (lo + k : Nat) (by omega) (by omega) (by omega) (by rw [ha]; omega)]
  rw [he, limit_size]
  simp only [Result.andThen_ok, slicedAt, Int.toNat_natCast]
  rw [if_neg (by omega), Addr.add_mid, Nat.mul_one, show lo + k - lo = k by omega]

set_option maxRecDepth 100000 in
set_option maxHeartbeats 400000 in
theorem row_any (b n i : Nat) (w : World) (hn : n ≤ 10) (hi : i ≤ n) (h : w.cell? ⟨b, 0, none⟩ = some (.int .i64 n)) :
    Calls Tryz.prog 30 #[.pointer (some ⟨b, 0, none⟩), .int .i64 i] w (Still (.slice (some ⟨b, 1 + i * (n + 1), none⟩) (n + 1) (n + 1)) w) := by
  have t1 : ((i : Int) + 1) * ((n : Int) + 1) = (i : Int) * ((n : Int) + 1) + ((n : Int) + 1) := by rw [Int.add_mul, Int.one_mul]
  have t0 : i * (n + 1) ≤ 10 * 11 := Nat.mul_le_mul (by omega) (by omega)
  have t3 : (i : Int) * ((n : Int) + 1) ≤ 110 ∧ 0 ≤ (i : Int) * ((n : Int) + 1) := by
    constructor
    · exact_mod_cast t0
    · exact_mod_cast Nat.zero_le _
  have hs := run_part b ((i : Int) * ((n : Int) + 1)) ((i : Int) * ((n : Int) + 1) + ((n : Int) + 1)) (i * (n + 1)) (n + 1) (by push_cast; rfl) (by push_cast; rfl) (by omega) (by omega)
  clear t0
  go_enter Tryz.func30, Tryz.ntmps30
  go_wp2_with fail
  go_ret
  exact ⟨rfl, rfl⟩

set_option maxRecDepth 100000 in
set_option maxHeartbeats 400000 in
/-- tighten: the element at a place becomes the lesser of itself and another limit. -/
theorem tighten_any (b n i j : Nat) (x : Int) (l : List Int) (w : World) (hn : n ≤ 10) (hi : i ≤ n) (hj : j ≤ n) (h : Mx w b n l) :
    Calls Tryz.prog 53 #[.pointer (some ⟨b, 0, none⟩), .int .i64 i, .int .i64 j, .int .i64 x] w
      (fun e w' => e = .returned (.tuple #[]) ∧ w.grownBy w' (some b) ∧ Mx w' b n (l.set (Zo.ix n i j) (imin (Zo.At n l i j) x))) := by
  have t1 := Zo.ix_lt hi hj
  have t0 : i * (n + 1) ≤ 10 * 11 := Nat.mul_le_mul (by omega) (by omega)
  have hl := h.2
  have t2 : Zo.ix n i j < l.length := by rw [hl]; exact t1
  have hc : w.cell? ⟨b, 1 + i * (n + 1) + j, none⟩ = some (.int .i64 (Zo.At n l i j)) := by rw [Nat.add_assoc]; exact h.at t2
  have hf := h.free (1 + i * (n + 1) + j)
  have PR := Lib.hid (row_any b n i w hn hi h.dim)
  have HM := Lib.hid (h.put (Zo.ix n i j) (imin (Zo.At n l i j) x) t2)
  have hm := run_imin (Zo.At n l i j) x
  clear t1 t0 h hl t2
  go_enter Tryz.func53, Tryz.ntmps53
  go_wp2_with fail
  refine PR.out.mono ?_
  rintro e w1 ⟨rfl, rfl⟩
  go_wp2_with fail
  go_end0
  refine ⟨rfl, ?_, ?_⟩
  · exact grown_put _ _ _ _
  · have := HM.out
    rwa [show 1 + Zo.ix n i j = 1 + i * (n + 1) + j by unfold Zo.ix; omega] at this
end Go.Proofs.YtbnebinpemejlaaGreat

namespace Go.Proofs.YtbnebinpemejlaaGreat
open Go.RowKit

theorem or1_i64 (a b : Int) : bits .and .i64 (bits .or .i64 a b) 1 = if a % 2 = 0 ∧ b % 2 = 0 then 0 else 1 := by
  rw [and1_i64]
  show (IntKind.i64.wrap (((BitVec.ofInt 64 a ||| BitVec.ofInt 64 b).toNat : Nat) : Int)) % 2 = _
  have hw : ∀ m : Nat, (IntKind.i64.wrap (m : Int)) % 2 = ((m % 2 : Nat) : Int) := by
    intro m; simp [IntKind.wrap, IntKind.bits, IntKind.signed]; omega
  rw [hw, BitVec.toNat_or]
  have ho : ∀ x y : Nat, (x ||| y) % 2 = if x % 2 = 0 ∧ y % 2 = 0 then 0 else 1 := by
    intro x y
    have := Nat.or_mod_two_pow (a := x) (b := y) (n := 1)
    simp only [Nat.pow_one] at this
    rw [this]
    rcases Nat.mod_two_eq_zero_or_one x with hx | hx <;> rcases Nat.mod_two_eq_zero_or_one y with hy | hy <;> rw [hx, hy] <;> rfl
  rw [ho]
  have e : ∀ x : Int, (BitVec.ofInt 64 x).toNat % 2 = 0 ↔ x % 2 = 0 := by
    intro x
    rw [BitVec.toNat_ofInt]
    have : ((2 ^ 64 : Nat) : Int) = 18446744073709551616 := by decide
    rw [this]; omega
  simp only [e]
  split <;> rfl

set_option maxHeartbeats 400000 in
theorem zsum_any (a b : Int) (w : World) : Calls Tryz.prog 96 #[.int .i64 a, .int .i64 b] w (Still (.int .i64 (Zo.smW a b)) w) := by
  by_cases na : a = 1099511627776
  · have A0 : (a == 1099511627776) = true := by simpa using na
    have H := Lib.hid (show Zo.smW a b = 1099511627776 by unfold Zo.smW; rw [if_pos (Or.inl na)])
    clear na
    go_enter Tryz.func96, Tryz.ntmps96
    go_wp2_with fail
    go_ret
    exact ⟨ret_int H.out.symm, rfl⟩
  have A0 : (a == 1099511627776) = false := by simpa using na
  by_cases nb : b = 1099511627776
  · have B0 : (b == 1099511627776) = true := by simpa using nb
    have H := Lib.hid (show Zo.smW a b = 1099511627776 by unfold Zo.smW; rw [if_pos (Or.inr nb)])
    clear na nb
    go_enter Tryz.func96, Tryz.ntmps96
    go_wp2_with fail
    go_ret
    exact ⟨ret_int H.out.symm, rfl⟩
  have B0 : (b == 1099511627776) = false := by simpa using nb
  have h0 : ¬ (a = 1099511627776 ∨ b = 1099511627776) := by omega
  go_enter Tryz.func96, Tryz.ntmps96
  go_wp2_with fail
  go_ret
  refine ⟨ret_int ?_, rfl⟩
  rw [or1_i64, w64_eq, w64_eq]
  unfold Zo.smW
  rw [if_neg h0]
  split
  · rw [Int.sub_zero]; unfold Zo.w64; omega
  · rfl

set_option maxHeartbeats 400000 in
theorem isDimension_any (n : Int) (w : World) : Calls Tryz.prog 79 #[.int .i64 n] w (Still (.bool (dimB n)) w) := by
  by_cases h : 0 ≤ n
  · by_cases g : n ≤ 10
    · have H := Lib.hid (show dimB n = true by unfold dimB; simp; omega)
      go_enter Tryz.func79, Tryz.ntmps79
      go_wp2_with fail
      go_ret
      exact ⟨ret_bool H.out.symm, rfl⟩
    · have H := Lib.hid (show dimB n = false by unfold dimB; simp; omega)
      have D : decide (n ≤ (10 : Int)) = false := by simp; omega
      go_enter Tryz.func79, Tryz.ntmps79
      go_wp2_with fail
      go_ret
      exact ⟨ret_bool H.out.symm, rfl⟩
  · have H := Lib.hid (show dimB n = false by unfold dimB; simp; omega)
    have D : decide ((0 : Int) ≤ n) = false := by simp; omega
    go_enter Tryz.func79, Tryz.ntmps79
    go_wp2_with fail
    go_ret
    exact ⟨ret_bool H.out.symm, rfl⟩

theorem places_any (n : Nat) (w : World) (hn : n ≤ 10) : Calls Tryz.prog 82 #[.int .i64 n] w (Still (.int .i64 ((n + 1) * (n + 1) : Nat)) w) := by
  have t3 : ((n : Int) + 1) * ((n : Int) + 1) ≤ 121 ∧ 0 ≤ ((n : Int) + 1) * ((n : Int) + 1) := by
    have : (n + 1) * (n + 1) ≤ 11 * 11 := Nat.mul_le_mul (by omega) (by omega)
    constructor
    · exact_mod_cast this
    · exact_mod_cast Nat.zero_le _
  have H := Lib.hid (show (((n + 1) * (n + 1) : Nat) : Int) = ((n : Int) + 1) * ((n : Int) + 1) by push_cast; rfl)
  go_enter Tryz.func82, Tryz.ntmps82
  go_wp2_with fail
  go_ret
  exact ⟨ret_int H.out.symm, rfl⟩
end Go.Proofs.YtbnebinpemejlaaGreat

namespace Go.Proofs.YtbnebinpemejlaaGreat.Zo

/-- One step of a row with the element (i, k) as it was ahead of the row. -/
def prw (n k i : Nat) (c : Int) (l : List Int) (j : Nat) : List Int := l.set (ix n i j) (min (At n l i j) (smW c (At n l k j)))

def st1' (n : Nat) (l : List Int) (j : Nat) : List Int :=
  let l1 := l.set (ix n j j) (min (At n l j j) 1)
  l1.set (ix n 0 j) (min (At n l1 0 j) 1)

theorem st1_eq {n : Nat} {l : List Int} (hl : l.length = (n + 1) * (n + 1)) {j : Nat} (hj : j ≤ n) : st1' n l j = st1 n l j := by
  by_cases e : j = 0
  · subst e; rfl
  · have hne : ix n j j ≠ ix n 0 j := fun h => e (ix_inj hj hj h).1
    have a1 : At n (l.set (ix n j j) (min (At n l j j) 1)) 0 j = At n l 0 j := by
      rw [At_set hl hj hj _ hj, if_neg (fun h => e h.1.symm)]
    have a2 : At n (l.set (ix n 0 j) (min (At n l 0 j) 1)) j j = At n l j j := by
      rw [At_set hl (by omega) hj _ hj, if_neg (fun h => e h.1)]
    unfold st1' st1
    simp only [a1, a2]
    exact List.set_comm _ _ hne

/-- All elements are integers of 64 bits. -/
def A64 (l : List Int) : Prop := ∀ j, -9223372036854775808 ≤ gt l j ∧ gt l j ≤ 9223372036854775807

theorem smW_one {c : Int} (h1 : -9223372036854775808 ≤ c) (h2 : c ≤ 9223372036854775807) : smW c 1 = c := by
  unfold smW
  by_cases e : c = 1099511627776
  · rw [if_pos (Or.inl e), e]
  · rw [if_neg (by omega), if_neg (by omega)]
    unfold w64; omega

theorem smW_in (a b : Int) : -9223372036854775808 ≤ smW a b ∧ smW a b ≤ 9223372036854775807 := by
  unfold smW w64
  split
  · omega
  · split <;> omega

theorem gt_range (l : List Int) (k : Nat) (x : Int) (h1 : A64 l) (hx : -9223372036854775808 ≤ x ∧ x ≤ 9223372036854775807) : A64 (l.set k x) := by
  intro j
  by_cases hk : k < l.length
  · rw [gt_set x hk]; split
    · exact hx
    · exact h1 j
  · rw [List.set_eq_of_length_le (by omega)]; exact h1 j

theorem A64.min_ {l : List Int} (h : A64 l) (n i j : Nat) (y : Int) (hy : -9223372036854775808 ≤ y ∧ y ≤ 9223372036854775807) (k : Nat) : A64 (l.set k (min (At n l i j) y)) := by
  refine gt_range _ _ _ h ?_
  have := h (ix n i j)
  unfold At
  omega

theorem A64.prw {l : List Int} (h : A64 l) (n k i : Nat) (c : Int) (j : Nat) : A64 (prw n k i c l j) := h.min_ _ _ _ _ (smW_in _ _) _

theorem A64.st1 {l : List Int} (h : A64 l) (n j : Nat) : A64 (st1 n l j) := (h.min_ n 0 j 1 (by omega) _).min_ n j j 1 (by omega) _

/-- Where the diagonal element is 'at most 0', the row's steps are the reference's. -/
theorem prow_eq {n k i : Nat} {X : List Int} (hl : X.length = (n + 1) * (n + 1)) (hk : k ≤ n) (hi : i ≤ n) (h64 : A64 X) (hd : At n X k k = 1) :
    ∀ t, t ≤ n + 1 → (List.range t).foldl (prw n k i (At n X i k)) X = (List.range t).foldl (rlx n k i) X := by
  have c64 := h64 (ix n i k)
  have H : ∀ t, t ≤ n + 1 → ((List.range t).foldl (prw n k i (At n X i k)) X = (List.range t).foldl (rlx n k i) X) ∧ ((List.range t).foldl (rlx n k i) X).length = (n + 1) * (n + 1)
      ∧ At n ((List.range t).foldl (rlx n k i) X) i k = At n X i k ∧ At n ((List.range t).foldl (rlx n k i) X) k k = 1 := by
    intro t
    induction t with
    | zero => intro _; exact ⟨rfl, hl, rfl, hd⟩
    | succ t ih =>
      intro ht
      obtain ⟨e, l1, a1, a2⟩ := ih (by omega)
      rw [fold_succ, fold_succ, e]
      generalize (List.range t).foldl (rlx n k i) X = Y at *
      refine ⟨?_, by simpa [rlx] using l1, ?_, ?_⟩
      · unfold prw rlx; rw [a1]
      · unfold rlx
        rw [At_set l1 hi (by omega) _ hk]
        split
        · rename_i h
          rw [← h.2, a1, a2]
          have := smW_one c64.1 c64.2
          unfold At at *
          rw [this]; omega
        · exact a1
      · unfold rlx
        rw [At_set l1 hi (by omega) _ hk]
        split
        · rename_i h
          obtain ⟨h1, h2⟩ := h
          subst h1
          subst h2
          rw [a2]
          rfl
        · exact a2
  exact fun t ht => (H t ht).1

theorem prow_len {n k i : Nat} (c : Int) {X : List Int} (hl : X.length = (n + 1) * (n + 1)) : ∀ t, ((List.range t).foldl (prw n k i c) X).length = (n + 1) * (n + 1) := by
  intro t
  induction t with
  | zero => exact hl
  | succ t ih => rw [fold_succ]; simpa [prw] using ih

theorem prow_le {n k i : Nat} (c : Int) {X : List Int} (hl : X.length = (n + 1) * (n + 1)) (hi : i ≤ n) {a b : Nat} (hb : b ≤ n) : ∀ t, t ≤ n + 1 → At n ((List.range t).foldl (prw n k i c) X) a b ≤ At n X a b := by
  intro t
  induction t with
  | zero => intro _; exact Int.le_refl _
  | succ t ih =>
    intro ht
    rw [fold_succ]
    exact Int.le_trans (set_le (prow_len c hl t) hi (by omega) _ hb) (ih (by omega))

/-- What the rounds before k and the rows before i have left; no row that is done has a diagonal element below 'at most 0'. -/
def Mid (n : Nat) (l : List Int) (k i : Nat) (X : List Int) : Prop :=
  X = (List.range i).foldl (rlxJ n k) (rnd n l k) ∧ X.length = (n + 1) * (n + 1) ∧ A64 X ∧ (∀ a, a ≤ n → At n X a a ≤ 1) ∧ (∀ a, a ≤ n → (a < i ∨ 0 < k) → 1 ≤ At n X a a)

theorem rlx_64 {l : List Int} (h : A64 l) (n k i j : Nat) : A64 (rlx n k i l j) := h.min_ _ _ _ _ (smW_in _ _) _

theorem Mid.start {n : Nat} {l : List Int} (hl : l.length = (n + 1) * (n + 1)) (h64 : A64 l) : Mid n l 0 0 (pre n l) := by
  refine ⟨rfl, rnd_length hl 0 (by omega), ?_, fun a ha => (pre_low hl a ha).1, fun a ha h => by omega⟩
  exact pre_keeps (R := A64) (fun x i j _ _ _ hx => hx.min_ n i j 1 (by omega) _) h64

/-- A row that ends with its diagonal element as it should be. -/
theorem Mid.row {n : Nat} {l : List Int} {k i : Nat} {X Y : List Int} (hk : k ≤ n) (hi : i ≤ n) (h : Mid n l k i X) (hY : Y = (List.range (n + 1)).foldl (prw n k i (At n X i k)) X)
    (hd : 1 ≤ At n Y i i) : Mid n l k (i + 1) Y := by
  obtain ⟨e, h1, h2, h3, h4⟩ := h
  have hkk : At n X k k = 1 := by
    have hle := h3 k hk
    by_cases c : k < i ∨ 0 < k
    · have := h4 k hk c; omega
    · have : k = i := by omega
      subst this
      have := prow_le (n := n) (k := k) (i := k) (At n X k k) h1 hi (a := k) hi (n + 1) (Nat.le_refl _)
      rw [← hY] at this
      omega
  have e2 := prow_eq h1 hk hi h2 hkk (n + 1) (Nat.le_refl _)
  have hY2 : Y = rlxJ n k X i := by rw [hY, e2]; rfl
  refine ⟨by rw [fold_succ, ← e, hY2], by rw [hY]; exact prow_len _ h1 _, ?_, ?_, ?_⟩
  · rw [hY2]; exact fold_keeps (R := A64) (n + 1) (fun a t _ ha => rlx_64 ha n k i t) _ h2 _ (Nat.le_refl _)
  · intro a ha
    have := prow_le (n := n) (k := k) (i := i) (At n X i k) h1 hi (a := a) ha (n + 1) (Nat.le_refl _)
    rw [← hY] at this
    exact Int.le_trans this (h3 a ha)
  · intro a ha c
    by_cases ea : a = i
    · rw [ea]; exact hd
    · have hrow : ∀ t, t ≤ n + 1 → At n ((List.range t).foldl (prw n k i (At n X i k)) X) a a = At n X a a := by
        intro t
        induction t with
        | zero => intro _; rfl
        | succ t ih =>
          intro ht
          rw [fold_succ]
          rw [show ∀ Z : List Int, prw n k i (At n X i k) Z t = Z.set (ix n i t) (min (At n Z i t) (smW (At n X i k) (At n Z k t))) from fun _ => rfl, At_set (prow_len _ h1 t) hi (by omega) _ ha, if_neg (fun h => ea h.1)]
          exact ih (by omega)
      rw [hY, hrow (n + 1) (Nat.le_refl _)]
      exact h4 a ha (by omega)

theorem Mid.round {n : Nat} {l : List Int} {k : Nat} {X : List Int} (h : Mid n l k (n + 1) X) : Mid n l (k + 1) 0 X := by
  obtain ⟨e, h1, h2, h3, h4⟩ := h
  refine ⟨?_, h1, h2, h3, fun a ha _ => h4 a ha (by omega)⟩
  rw [e]; show _ = rnd n l (k + 1)
  rw [rnd_succ]; rfl

theorem Mid.done {n : Nat} {l : List Int} {X : List Int} (h : Mid n l (n + 1) 0 X) : X = clo n l ∧ ∀ a, a ≤ n → 1 ≤ At n (clo n l) a a := by
  obtain ⟨e, h1, h2, h3, h4⟩ := h
  have e2 : X = clo n l := e
  exact ⟨e2, fun a ha => by rw [← e2]; exact h4 a ha (by omega)⟩

theorem rlxJ_le {n k i : Nat} {X : List Int} (hl : X.length = (n + 1) * (n + 1)) (hi : i ≤ n) {a b : Nat} (hb : b ≤ n) : (rlxJ n k X i).length = (n + 1) * (n + 1) ∧ At n (rlxJ n k X i) a b ≤ At n X a b := by
  unfold rlxJ
  exact fold_keeps (R := fun x : List Int => x.length = (n + 1) * (n + 1) ∧ At n x a b ≤ At n X a b) (n + 1)
    (fun x t ht hx => ⟨by simpa [rlx] using hx.1, Int.le_trans (set_le hx.1 hi (by omega) _ hb) hx.2⟩) _ ⟨hl, Int.le_refl _⟩ _ (Nat.le_refl _)

theorem rows_le {n k : Nat} {Z : List Int} (hl : Z.length = (n + 1) * (n + 1)) (i : Nat) {a b : Nat} (hb : b ≤ n) : ∀ d, i + d ≤ n + 1 →
    ((List.range (i + d)).foldl (rlxJ n k) Z).length = (n + 1) * (n + 1) ∧ At n ((List.range (i + d)).foldl (rlxJ n k) Z) a b ≤ At n ((List.range i).foldl (rlxJ n k) Z) a b := by
  intro d
  induction d with
  | zero =>
    intro h
    refine ⟨?_, Int.le_refl _⟩
    exact fold_keeps (R := fun x : List Int => x.length = (n + 1) * (n + 1)) (n + 1) (fun x t ht hx => (rlxJ_le (a := 0) (b := 0) hx (by omega) (by omega)).1) _ hl _ h
  | succ d ih =>
    intro h
    obtain ⟨h1, h2⟩ := ih (by omega)
    rw [show i + (d + 1) = (i + d) + 1 by omega, fold_succ]
    have := rlxJ_le (n := n) (k := k) (i := i + d) h1 (by omega) (a := a) hb
    exact ⟨this.1, Int.le_trans this.2 h2⟩

/-- The whole is below what any row has left. -/
theorem clo_below {n : Nat} {l : List Int} (hl : l.length = (n + 1) * (n + 1)) {k i : Nat} (hk : k ≤ n) (hi : i ≤ n + 1) {a b : Nat} (ha : a ≤ n) (hb : b ≤ n) : At n (clo n l) a b ≤ At n ((List.range i).foldl (rlxJ n k) (rnd n l k)) a b := by
  have h1 := rnd_le hl (k + 1) (n - k) (by omega) a b ha hb
  rw [show k + 1 + (n - k) = n + 1 by omega, rnd_succ n l k] at h1
  have h2 := (rows_le (n := n) (k := k) (rnd_length hl k (by omega)) i (a := a) hb (n + 1 - i) (by omega)).2
  rw [show i + (n + 1 - i) = n + 1 by omega] at h2
  exact Int.le_trans h1 h2

/-- A row that ends with its diagonal element below 'at most 0': so does the whole. -/
theorem Mid.bad {n : Nat} {l : List Int} (hl : l.length = (n + 1) * (n + 1)) {k i : Nat} {X Y : List Int} (hk : k ≤ n) (hi : i ≤ n) (h : Mid n l k i X) (hY : Y = (List.range (n + 1)).foldl (prw n k i (At n X i k)) X)
    (hd : At n Y i i < 1) : At n (clo n l) i i < 1 := by
  obtain ⟨e, h1, h2, h3, h4⟩ := h
  by_cases c : At n X k k = 1
  · have e2 := prow_eq h1 hk hi h2 c (n + 1) (Nat.le_refl _)
    have hY2 : Y = (List.range (i + 1)).foldl (rlxJ n k) (rnd n l k) := by rw [fold_succ, ← e, hY, e2]; rfl
    have := clo_below hl hk (i := i + 1) (by omega) hi hi
    rw [← hY2] at this
    omega
  · have hle := h3 k hk
    have : k = i := by
      by_cases c2 : k < i ∨ 0 < k
      · have := h4 k hk c2; omega
      · omega
    subst this
    have := clo_below hl hk (i := k) (by omega) hi hi
    rw [← e] at this
    omega
end Go.Proofs.YtbnebinpemejlaaGreat.Zo

namespace Go.Proofs.YtbnebinpemejlaaGreat
open Go.RowKit

/-- The matrix at b has become l; else nothing from before has turned. -/
def MSt (w0 : World) (b n : Nat) (l : List Int) (w : World) : Prop := Mx w b n l ∧ w0.grownBy w (some b)

theorem MSt.drew {w0 w : World} {b n : Nat} {l : List Int} (h : MSt w0 b n l w) : MSt w0 b n l w.drew :=
  ⟨h.1.drew, grown_trans h.2 ⟨rfl, rfl, rfl, Nat.le_refl _, fun _ _ _ => rfl⟩⟩

theorem MSt.put {w0 w : World} {b n : Nat} {l : List Int} (h : MSt w0 b n l w) (j : Nat) (x : Int) (hj : j < l.length) : MSt w0 b n (l.set j x) (w.setCell ⟨b, 1 + j, none⟩ (.int .i64 x)) :=
  ⟨h.1.put j x hj, grown_trans h.2 (grown_put _ _ _ _)⟩

theorem tighten_st {w0 : World} {b n i j : Nat} {l : List Int} {w : World} (x : Int) (hn : n ≤ 10) (hi : i ≤ n) (hj : j ≤ n) (h : MSt w0 b n l w) :
    Calls Tryz.prog 53 #[.pointer (some ⟨b, 0, none⟩), .int .i64 i, .int .i64 j, .int .i64 x] w
      (fun e w' => e = .returned (.tuple #[]) ∧ MSt w0 b n (l.set (Zo.ix n i j) (imin (Zo.At n l i j) x)) w') := by
  refine (tighten_any b n i j x l w hn hi hj h.1).mono ?_
  rintro e w' ⟨rfl, hg, hM⟩
  exact ⟨rfl, hM, grown_trans h.2 hg⟩

theorem st1_code {n : Nat} {l : List Int} (hl : l.length = (n + 1) * (n + 1)) {j : Nat} (hj : j ≤ n) :
    (l.set (Zo.ix n j j) (imin (Zo.At n l j j) 1)).set (Zo.ix n 0 j) (imin (Zo.At n (l.set (Zo.ix n j j) (imin (Zo.At n l j j) 1)) 0 j) 1) = Zo.st1 n l j := Zo.st1_eq hl hj

theorem st1_len {n : Nat} {l : List Int} (hl : l.length = (n + 1) * (n + 1)) (j : Nat) : (Zo.st1 n l j).length = (n + 1) * (n + 1) := by simpa [Zo.st1] using hl

set_option maxRecDepth 100000 in
set_option maxHeartbeats 4000000 in
theorem shorten_any (b n : Nat) (l : List Int) (w : World) (hn : n ≤ 10) (h : Mx w b n l) (h64 : Zo.A64 l) :
    Calls Tryz.prog 73 #[.pointer (some ⟨b, 0, none⟩)] w
      (fun e w' => e = .returned (.bool (!cloB n l)) ∧ ∃ l', MSt w b n l' w' ∧ (cloB n l = false → l' = Zo.clo n l)) := by
  have hl := h.2
  have HM := Lib.hid (show MSt w b n l w from ⟨h, World.grownBy.refl _ _⟩)
  have H64 := Lib.hid h64
  have hb := h.lt
  have KD := Lib.hid (show ∀ (x : List Int) (w' : World), MSt w b n x w' → w'.cell? ⟨b, 0, none⟩ = some (.int .i64 n) from fun x w' h => h.1.dim)
  have TT := Lib.hid (fun (x : List Int) (i j : Nat) (hi : i ≤ n) (hj : j ≤ n) (w' : World) (h : MSt w b n x w') => tighten_st (i := i) (j := j) 1 hn hi hj h)
  have TR := Lib.hid (fun (x : List Int) (i : Nat) (hi : i ≤ n) (w' : World) (h : MSt w b n x w') => row_any b n i w' hn hi h.1.dim)
  have c0 := h.dim
  clear h h64
  go_enter Tryz.func73, Tryz.ntmps73
  go_wp2_with fail
  clear c0
  go_loopw [15] (fun s wr => ∃ (t : Nat) (x : List Int), t ≤ n + 1 ∧ s = .int .i64 t ∧ Hid (x.length = (n + 1) * (n + 1) ∧ x = (List.range t).foldl (Zo.st1 n) l ∧ MSt w b n x wr)) (fun s _ => n + 1 - (intOf s).toNat)
  case atStart => exact ⟨0, l, by omega, rfl, Lib.hid ⟨hl, rfl, HM.out⟩⟩
  case round =>
    obtain ⟨t, x, ht, rfl, HX⟩ := hrel
    have c0 := KD.out _ _ HX.out.2.2
    by_cases htn : t ≤ n
    · go_wp2_with fail
      refine (TT.out _ _ _ htn htn _ HX.out.2.2).mono ?_
      rintro e w1 ⟨rfl, hm1⟩
      have H1 := Lib.hid hm1
      clear hm1 c0
      go_wp2_with fail
      refine (TT.out _ 0 t (by omega) htn _ H1.out).mono ?_
      rintro e w2 ⟨rfl, hm2⟩
      have H2 := Lib.hid hm2
      clear hm2
      go_wp2_with fail
      go_roundw
      case rel => exact ⟨t + 1, _, by omega, by go_num, Lib.hid ⟨st1_len HX.out.1 t, by rw [Zo.fold_succ, ← HX.out.2.1], by have := H2.out; rwa [st1_code HX.out.1 htn] at this⟩⟩
      case measure => simp [intOf]; omega
    · have HS := Lib.hid (show x.length = (n + 1) * (n + 1) ∧ Zo.Mid n l 0 0 x ∧ MSt w b n x _ from ⟨HX.out.1, by have := Zo.Mid.start hl H64.out; rwa [show Zo.pre n l = x by rw [HX.out.2.1, show t = n + 1 by omega]; rfl] at this, HX.out.2.2⟩)
      go_wp2_with fail
      clear c0
      go_loopw [31] (fun s wr => ∃ (t : Nat) (x : List Int), t ≤ n + 1 ∧ s = .int .i64 t ∧ Hid (x.length = (n + 1) * (n + 1) ∧ Zo.Mid n l t 0 x ∧ MSt w b n x wr)) (fun s _ => n + 1 - (intOf s).toNat)
      case atStart => exact ⟨0, x, by omega, rfl, HS⟩
      case round =>
        clear HS HX
        clear x
        obtain ⟨k, xk, hk, rfl, HK⟩ := hrel
        by_cases hkn : k ≤ n
        · go_wp2_with fail
          refine (TR.out _ _ hkn _ HK.out.2.2).mono ?_
          rintro e w1 ⟨rfl, rfl⟩
          have c0 := KD.out _ _ HK.out.2.2
          go_wp2_with fail
          clear c0
          go_loopw [42] (fun s wr => ∃ (t : Nat) (x : List Int), t ≤ n + 1 ∧ s = .int .i64 t ∧ Hid (x.length = (n + 1) * (n + 1) ∧ Zo.Mid n l k t x ∧ MSt w b n x wr)) (fun s _ => n + 1 - (intOf s).toNat)
          case atStart => exact ⟨0, xk, by omega, rfl, HK⟩
          case round =>
            obtain ⟨i, xi, hi, rfl, HI⟩ := hrel
            by_cases hin : i ≤ n
            · go_wp2_with fail
              refine (TR.out _ _ hin _ HI.out.2.2).mono ?_
              rintro e w1 ⟨rfl, rfl⟩
              have c0 := KD.out _ _ HI.out.2.2
              obtain ⟨c, hc⟩ : ∃ c, c = Zo.At n xi i k := ⟨_, rfl⟩
              have HC := Lib.hid hc
              have tik := Zo.ix_lt hin hkn
              have c1 : w1.cell? ⟨b, 1 + i * (n + 1) + k, none⟩ = some (.int .i64 c) := by
                rw [hc, Nat.add_assoc]; exact HI.out.2.2.1.at (by rw [HI.out.1]; exact tik)
              clear hc tik
              go_wp2_with fail
              clear c0 c1
              go_loopw [57] (fun s wr => ∃ (t : Nat) (x : List Int), t ≤ n + 1 ∧ s = .int .i64 t ∧ Hid (x.length = (n + 1) * (n + 1) ∧ x = (List.range t).foldl (Zo.prw n k i c) xi ∧ MSt w b n x wr)) (fun s _ => n + 1 - (intOf s).toNat)
              case atStart => exact ⟨0, xi, by omega, rfl, Lib.hid ⟨HI.out.1, rfl, HI.out.2.2⟩⟩
              case round =>
                obtain ⟨j, xj, hj, rfl, HJ⟩ := hrel
                by_cases hjn : j ≤ n
                · have tij := Zo.ix_lt hin hjn
                  have tkj := Zo.ix_lt hkn hjn
                  have c1 : ∀ w', MSt w b n xj w' → w'.cell? ⟨b, 1 + i * (n + 1) + j, none⟩ = some (.int .i64 (Zo.At n xj i j)) := fun w' h => by
                    rw [Nat.add_assoc]; exact h.1.at (by rw [HJ.out.1]; exact tij)
                  have c2 : ∀ w', MSt w b n xj w' → w'.cell? ⟨b, 1 + k * (n + 1) + j, none⟩ = some (.int .i64 (Zo.At n xj k j)) := fun w' h => by
                    rw [Nat.add_assoc]; exact h.1.at (by rw [HJ.out.1]; exact tkj)
                  have f1 : ∀ w', MSt w b n xj w' → w'.frozen? ⟨b, 1 + i * (n + 1) + j, none⟩ = false := fun w' h => h.1.free _
                  have ST := Lib.hid (show ∀ w' x, MSt w b n xj w' → MSt w b n (xj.set (Zo.ix n i j) x) (w'.setCell ⟨b, 1 + i * (n + 1) + j, none⟩ (.int .i64 x)) from fun w' x h => by
                    have := h.put (Zo.ix n i j) x (by rw [HJ.out.1]; exact tij)
                    rwa [show 1 + Zo.ix n i j = 1 + i * (n + 1) + j by unfold Zo.ix; omega] at this)
                  have hm := run_imin (Zo.At n xj i j) (Zo.smW c (Zo.At n xj k j))
                  have PS := zsum_any c (Zo.At n xj k j)
                  have d1 := c1 _ HJ.out.2.2
                  have d2 := c2 _ HJ.out.2.2
                  have d3 := f1 _ HJ.out.2.2
                  go_wp2_with fail
                  go_still_tail 14, (by kernel_rfl)
                  still_call (PS _)
                  repeat still_step
                  refine wpStill_nil ?_
                  clear d1 d2 d3
                  have HD := Lib.hid HJ.out.2.2.drew
                  have d1 := c1 _ HD.out
                  have d3 := f1 _ HD.out
                  change wpList _ _ _ _ _ (World.drew _)
                  go_wp2_with fail
                  have S4 := Lib.hid (ST.out _ (imin (Zo.At n xj i j) (Zo.smW c (Zo.At n xj k j))) HD.out)
                  clear hm PS c1 c2 f1 ST d1 d3 HD
                  go_roundw
                  case rel => exact ⟨j + 1, _, by omega, by go_num, Lib.hid ⟨by simpa using HJ.out.1, by rw [Zo.fold_succ, ← HJ.out.2.1]; rfl, S4.out⟩⟩
                  case measure => simp [intOf]; omega
                · have HR := Lib.hid (show xj = (List.range (n + 1)).foldl (Zo.prw n k i (Zo.At n xi i k)) xi by rw [← HC.out, show n + 1 = j by omega]; exact HJ.out.2.1)
                  have HL := Lib.hid HJ.out.1
                  have HW := Lib.hid HJ.out.2.2
                  have tii := Zo.ix_lt hin hin
                  obtain ⟨d, hd⟩ : ∃ d, d = Zo.At n xj i i := ⟨_, rfl⟩
                  have c1 : ∀ w', MSt w b n xj w' → w'.cell? ⟨b, 1 + i * (n + 1) + i, none⟩ = some (.int .i64 d) := fun w' h => by
                    rw [hd, Nat.add_assoc]; exact h.1.at (by rw [HL.out]; exact tii)
                  have d1 := c1 _ HW.out
                  have HDd := Lib.hid hd
                  clear hd tii
                  by_cases hneg : d < 1
                  · have HB := Lib.hid (show cloB n l = true by
                      unfold cloB; rw [List.any_eq_true]
                      refine ⟨i, by simp; omega, ?_⟩
                      simpa using Zo.Mid.bad hl hkn hin HI.out.2.1 HR.out (by rw [← HDd.out]; exact hneg))
                    have D : decide (d < 1) = true := by simpa using hneg
                    clear c1
                    go_wp2_with fail
                    go_ret
                    exact ⟨ret_bool (by rw [HB.out]; rfl), _, HW.out, fun h => by rw [HB.out] at h; cases h⟩
                  · have HN := Lib.hid (Zo.Mid.row hkn hin HI.out.2.1 HR.out (by rw [← HDd.out]; omega))
                    have D : decide (d < 1) = false := by simpa using hneg
                    clear c1
                    go_wp2_with fail
                    clear d1 D
                    go_roundw
                    case rel => exact ⟨i + 1, xj, by omega, by go_num, Lib.hid ⟨HL.out, HN.out, HW.out⟩⟩
                    case measure => simp [intOf]; omega
            · have HN := Lib.hid (show Zo.Mid n l (k + 1) 0 xi from Zo.Mid.round (by have := HI.out.2.1; rwa [show i = n + 1 by omega] at this))
              go_wp2_with fail
              go_roundw
              case rel => exact ⟨k + 1, xi, by omega, by go_num, Lib.hid ⟨HI.out.1, HN.out, HI.out.2.2⟩⟩
              case measure => simp [intOf]; omega
        · have HN := Lib.hid (show Zo.Mid n l (n + 1) 0 xk by have := HK.out.2.1; rwa [show k = n + 1 by omega] at this)
          have HB := Lib.hid (show cloB n l = false from cloB_no fun i hi => by have := HN.out.done.2 i (by omega); omega)
          go_wp2_with fail
          go_ret
          exact ⟨ret_bool (by rw [HB.out]; rfl), _, HK.out.2.2, fun _ => HN.out.done.1⟩
end Go.Proofs.YtbnebinpemejlaaGreat

namespace Go.Proofs.YtbnebinpemejlaaGreat
open Go.RowKit

theorem Rd.on {w w' : World} {a : Addr} {l : List Int} (h : Rd w a l) (hb : Below w.heap.size w w') : Rd w' a l := fun j hj => kept hb (h j hj)

/-- What Check asks of each element, and of each three. -/
def okI (n : Nat) (l : List Int) (i j : Nat) : Bool := lvB (Zo.At n l i j) && (decide (i ≠ j) || decide (Zo.At n l i j = 1)) && (decide (i ≠ 0) || decide (Zo.At n l i j ≤ 1))

def okT (n : Nat) (l : List Int) (i j k : Nat) : Bool := decide (Zo.At n l i j ≤ Zo.smW (Zo.At n l i k) (Zo.At n l k j))

def chk1 (n : Nat) (l : List Int) : Bool := (List.range (n + 1)).all fun i => (List.range (n + 1)).all fun j => okI n l i j

def chk2 (n : Nat) (l : List Int) : Bool := (List.range (n + 1)).all fun i => (List.range (n + 1)).all fun j => (List.range (n + 1)).all fun k => okT n l i j k

def chkB (N : Int) (l : List Int) : Bool := dimB N && decide (l.length = (N.toNat + 1) * (N.toNat + 1)) && chk1 N.toNat l && chk2 N.toNat l

def chkE (N : Int) (l : List Int) : Int := if chkB N l then 0 else 2

theorem chk1_iff {n : Nat} {l : List Int} : chk1 n l = true ↔ ∀ i, i < n + 1 → ∀ j, j < n + 1 → okI n l i j = true := by simp [chk1]

theorem chk2_iff {n : Nat} {l : List Int} : chk2 n l = true ↔ ∀ i, i < n + 1 → ∀ j, j < n + 1 → ∀ k, k < n + 1 → okT n l i j k = true := by simp [chk2]

theorem chkE_bad1 {N : Int} {l : List Int} (h : dimB N = false) : chkE N l = 2 := by simp [chkE, chkB, h]

theorem chkE_bad2 {N : Int} {l : List Int} (h : l.length ≠ (N.toNat + 1) * (N.toNat + 1)) : chkE N l = 2 := by simp [chkE, chkB, h]

theorem chkE_bad3 {n : Nat} {l : List Int} {i j : Nat} (hi : i < n + 1) (hj : j < n + 1) (h : okI n l i j = false) : chkE (n : Int) l = 2 := by
  have : chk1 n l = false := by
    cases e : chk1 n l
    · rfl
    · have := chk1_iff.1 e i hi j hj
      rw [h] at this; simp at this
  simp [chkE, chkB, this]

theorem chkE_bad4 {n : Nat} {l : List Int} {i j k : Nat} (hi : i < n + 1) (hj : j < n + 1) (hk : k < n + 1) (h : okT n l i j k = false) : chkE (n : Int) l = 2 := by
  have : chk2 n l = false := by
    cases e : chk2 n l
    · rfl
    · have := chk2_iff.1 e i hi j hj k hk
      rw [h] at this; simp at this
  simp [chkE, chkB, this]

theorem chkE_ok {n : Nat} {l : List Int} (hn : n ≤ 10) (hl : l.length = (n + 1) * (n + 1)) (h1 : ∀ i, i < n + 1 → ∀ j, j < n + 1 → okI n l i j = true) (h2 : ∀ i, i < n + 1 → ∀ j, j < n + 1 → ∀ k, k < n + 1 → okT n l i j k = true) : chkE (n : Int) l = 0 := by
  have d : dimB (n : Int) = true := by unfold dimB; simp; omega
  simp [chkE, chkB, d, hl, chk1_iff.2 h1, chk2_iff.2 h2]

/-- A call that reads: at, in a world behind w0. -/
theorem at_b {w0 : World} {a : Addr} {cap n i j : Nat} {l : List Int} {w : World} (hn : n ≤ 10) (hi : i ≤ n) (hj : j ≤ n) (hl : l.length = (n + 1) * (n + 1)) (hR : Rd w0 a l) (h : Below w0.heap.size w0 w) :
    Calls Tryz.prog 26 #[.agg #[.int .i64 n, .slice (some a) l.length cap], .int .i64 i, .int .i64 j] w
      (fun e w' => e = .returned (.int .i64 (Zo.At n l i j)) ∧ Below w0.heap.size w0 w') := by
  refine (at_any n i j l a cap w hn hi hj hl (hR.on h)).mono ?_
  rintro e w' ⟨rfl, hb⟩
  exact ⟨rfl, below_on h hb⟩

theorem sum_b {w0 w : World} (a b : Int) (h : Below w0.heap.size w0 w) :
    Calls Tryz.prog 76 #[.int .i64 a, .int .i64 b] w (fun e w' => e = .returned (.int .i64 (Zo.smW a b)) ∧ Below w0.heap.size w0 w') := by
  refine (sum2_any a b w).mono ?_
  rintro e w' ⟨rfl, rfl⟩
  exact ⟨rfl, h⟩

set_option maxHeartbeats 400000 in
theorem check_bad1 (N : Int) (l : List Int) (ao : Option Addr) (cap : Nat) (w : World) (h : dimB N = false) :
    Calls Tryz.prog 41 #[.agg #[.int .i64 N, .slice ao l.length cap]] w (Made (.int .i64 (chkE N l)) w) := by
  have H := Lib.hid (chkE_bad1 (l := l) h)
  have p := fun W => dimension_any N W
  rw [h] at p
  have PD := Lib.hid p
  clear p h
  go_enter Tryz.func41, Tryz.ntmps41
  go_wp2_with fail
  refine (PD.out _).mono ?_
  rintro e w1 ⟨rfl, rfl⟩
  go_wp2_with fail
  go_ret
  exact ⟨ret_int H.out.symm, one_more _⟩

set_option maxHeartbeats 400000 in
theorem check_bad2 (n : Nat) (l : List Int) (ao : Option Addr) (cap : Nat) (w : World) (hn : n ≤ 10) (h : l.length ≠ (n + 1) * (n + 1)) :
    Calls Tryz.prog 41 #[.agg #[.int .i64 n, .slice ao l.length cap]] w (Made (.int .i64 (chkE n l)) w) := by
  have H := Lib.hid (chkE_bad2 (N := n) (l := l) (by simpa using h))
  have p := fun W => dimension_any n W
  rw [show dimB n = true by unfold dimB; simp; omega] at p
  have PD := Lib.hid p
  have t3 : ((n : Int) + 1) * ((n : Int) + 1) ≤ 121 ∧ 0 ≤ ((n : Int) + 1) * ((n : Int) + 1) := by
    have : (n + 1) * (n + 1) ≤ 11 * 11 := Nat.mul_le_mul (by omega) (by omega)
    constructor
    · exact_mod_cast this
    · exact_mod_cast Nat.zero_le _
  have h2 : ((l.length : Int) != ((n : Int) + 1) * ((n : Int) + 1)) = true := by
    simp; intro e; apply h; exact_mod_cast e
  generalize l.length = len at *
  clear p h
  go_enter Tryz.func41, Tryz.ntmps41
  go_wp2_with fail
  refine (PD.out _).mono ?_
  rintro e w1 ⟨rfl, rfl⟩
  go_wp2_with fail
  go_ret
  exact ⟨ret_int H.out.symm, one_more _⟩

set_option maxHeartbeats 4000000 in
theorem check_any (n : Nat) (l : List Int) (a : Addr) (cap : Nat) (w : World) (hn : n ≤ 10) (hl : l.length = (n + 1) * (n + 1)) (hR : Rd w a l) :
    Calls Tryz.prog 41 #[.agg #[.int .i64 n, .slice (some a) l.length cap]] w (Made (.int .i64 (chkE n l)) w) := by
  obtain ⟨len, hlen⟩ : ∃ len, len = l.length := ⟨_, rfl⟩
  obtain ⟨w0, hw0⟩ : ∃ w0, w0 = w.alloc (.cells #[.int .i64 n, .slice (some a) len cap] 24) := ⟨_, rfl⟩
  have b0 : w0.cell? ⟨w.heap.size, 0, none⟩ = some (.int .i64 n) := by rw [hw0]; go_simp
  have b1 : w0.cell? ⟨w.heap.size, 1, none⟩ = some (.slice (some a) len cap) := by rw [hw0]; go_simp
  have R0 : Rd w0 a l := by rw [hw0]; exact hR.on (one_more _)
  have e0 : Below w.heap.size w w0 := by rw [hw0]; exact one_more _
  have KS := Lib.hid (show ∀ w' : World, Below w0.heap.size w0 w' → w'.cell? ⟨w.heap.size, 0, none⟩ = some (.int .i64 n) ∧ w'.cell? ⟨w.heap.size, 1, none⟩ = some (.slice (some a) len cap) from
    fun w' h => ⟨kept h b0, kept h b1⟩)
  have p := fun W => dimension_any n W
  rw [show dimB n = true by unfold dimB; simp; omega] at p
  have PD := Lib.hid p
  have t3 : ((n : Int) + 1) * ((n : Int) + 1) ≤ 121 ∧ 0 ≤ ((n : Int) + 1) * ((n : Int) + 1) := by
    have : (n + 1) * (n + 1) ≤ 11 * 11 := Nat.mul_le_mul (by omega) (by omega)
    constructor
    · exact_mod_cast this
    · exact_mod_cast Nat.zero_le _
  have h2 : ((len : Int) != ((n : Int) + 1) * ((n : Int) + 1)) = false := by
    rw [hlen, hl]; simp
  have A9 : Hid (∀ x y : Nat, x ≤ n → y ≤ n → ∀ w' : World, Below w0.heap.size w0 w' → Calls Tryz.prog 26 #[.agg #[.int .i64 n, .slice (some a) len cap], .int .i64 x, .int .i64 y] w' (fun e w' => e = .returned (.int .i64 (Zo.At n l x y)) ∧ Below w0.heap.size w0 w')) :=
    Lib.hid fun x y hx hy w' h => by have := at_b (cap := cap) (i := x) (j := y) hn hx hy hl R0 h; rw [← hlen] at this; exact this
  have M9 := Lib.hid fun (x y : Int) (w' : World) (h : Below w0.heap.size w0 w') => sum_b x y h
  have HL := Lib.hid hl
  have E0 := Lib.hid e0
  rw [← hlen]
  clear p hl hlen R0 hR b0 b1 e0
  go_enter Tryz.func41, Tryz.ntmps41
  go_wp2_with fail
  refine (PD.out _).mono ?_
  rintro e w1 ⟨rfl, rfl⟩
  go_wp2_with fail
  rw [← hw0]
  clear t3 h2
  go_loopw [3] (fun s wr => ∃ t : Nat, t ≤ n + 1 ∧ s = .int .i64 t ∧ Hid (∀ i, i < t → ∀ j, j < n + 1 → okI n l i j = true) ∧ Hid (Below w0.heap.size w0 wr)) (fun s _ => n + 1 - (intOf s).toNat)
  case atStart => exact ⟨0, by omega, rfl, Lib.hid (fun i hi => by omega), Lib.hid (Below.refl _ _)⟩
  case round =>
    obtain ⟨i, hi, rfl, HI, HB⟩ := hrel
    obtain ⟨c0, c1⟩ := KS.out _ HB.out
    by_cases hin : i ≤ n
    · go_wp2_with fail
      clear c0 c1
      go_loopw [4] (fun s wr => ∃ t : Nat, t ≤ n + 1 ∧ s = .int .i64 t ∧ Hid (∀ j, j < t → okI n l i j = true) ∧ Hid (Below w0.heap.size w0 wr)) (fun s _ => n + 1 - (intOf s).toNat)
      case atStart => exact ⟨0, by omega, rfl, Lib.hid (fun j hj => by omega), HB⟩
      case round =>
        obtain ⟨j, hj, rfl, HJ, HBj⟩ := hrel
        obtain ⟨c0, c1⟩ := KS.out _ HBj.out
        by_cases hjn : j ≤ n
        · obtain ⟨v, hv⟩ : ∃ v, v = Zo.At n l i j := ⟨_, rfl⟩
          have a9 := A9.out i j hin hjn
          rw [← hv] at a9
          have A8 := Lib.hid a9
          have v9 := fun W => refLimValid_free v W
          have hok : okI n l i j = (lvB v && (decide (i ≠ j) || decide (v = 1)) && (decide (i ≠ 0) || decide (v ≤ 1))) := by rw [hv]; rfl
          clear a9 hv
          cases lv : lvB v
          · rw [lv] at v9
            have V9 := Lib.hid v9
            have HE := Lib.hid (chkE_bad3 (l := l) (n := n) (i := i) (j := j) (by omega) (by omega) (by rw [hok, lv]; simp))
            clear hok v9 lv
            go_wp2_with fail
            refine (A8.out _ HBj.out).mono ?_
            rintro e w2 ⟨rfl, hb⟩
            obtain ⟨c0, c1⟩ := KS.out _ hb
            go_wp2_with fail
            refine (V9.out _).mono ?_
            rintro e w3 ⟨rfl, rfl⟩
            go_wp2_with fail
            go_ret
            exact ⟨ret_int HE.out.symm, below_on E0.out hb⟩
          · by_cases ij : i = j
            · by_cases v1 : v = 1
              · by_cases i0 : i = 0
                · have IJ : ((i : Int) == (j : Int)) = true := by simp; omega
                  have IZ : ((i : Int) == 0) = true := by simp; omega
                  have V1 : (v != 1) = false := by simp; omega
                  have V2 : decide ((1 : Int) < v) = false := by simp; omega
                  rw [lv] at v9
                  have V9 := Lib.hid v9
                  have HE := Lib.hid (show okI n l i j = true by rw [hok, lv]; simp; omega)
                  clear hok v9 lv ij v1 i0
                  go_wp2_with fail
                  refine (A8.out _ HBj.out).mono ?_
                  rintro e w2 ⟨rfl, hb⟩
                  obtain ⟨c0, c1⟩ := KS.out _ hb
                  go_wp2_with fail
                  refine (V9.out _).mono ?_
                  rintro e w3 ⟨rfl, rfl⟩
                  have HB2 := Lib.hid hb
                  clear hb
                  go_wp2_with fail
                  go_roundw
                  case rel =>
                    refine ⟨j + 1, by omega, by go_num, Lib.hid (fun x hx => ?_), HB2⟩
                    by_cases e : x = j
                    · rw [e]; exact HE.out
                    · exact HJ.out x (by omega)
                  case measure => simp [intOf]; omega
                · have IJ : ((i : Int) == (j : Int)) = true := by simp; omega
                  have IZ : ((i : Int) == 0) = false := by simp; omega
                  have V1 : (v != 1) = false := by simp; omega
                  rw [lv] at v9
                  have V9 := Lib.hid v9
                  have HE := Lib.hid (show okI n l i j = true by rw [hok, lv]; simp; omega)
                  clear hok v9 lv ij v1 i0
                  go_wp2_with fail
                  refine (A8.out _ HBj.out).mono ?_
                  rintro e w2 ⟨rfl, hb⟩
                  obtain ⟨c0, c1⟩ := KS.out _ hb
                  go_wp2_with fail
                  refine (V9.out _).mono ?_
                  rintro e w3 ⟨rfl, rfl⟩
                  have HB2 := Lib.hid hb
                  clear hb
                  go_wp2_with fail
                  go_roundw
                  case rel =>
                    refine ⟨j + 1, by omega, by go_num, Lib.hid (fun x hx => ?_), HB2⟩
                    by_cases e : x = j
                    · rw [e]; exact HE.out
                    · exact HJ.out x (by omega)
                  case measure => simp [intOf]; omega
              · have IJ : ((i : Int) == (j : Int)) = true := by simp; omega
                have V1 : (v != 1) = true := by simp; omega
                rw [lv] at v9
                have V9 := Lib.hid v9
                have HE := Lib.hid (chkE_bad3 (l := l) (n := n) (i := i) (j := j) (by omega) (by omega) (by rw [hok, lv]; simp; omega))
                clear hok v9 lv ij v1
                go_wp2_with fail
                refine (A8.out _ HBj.out).mono ?_
                rintro e w2 ⟨rfl, hb⟩
                obtain ⟨c0, c1⟩ := KS.out _ hb
                go_wp2_with fail
                refine (V9.out _).mono ?_
                rintro e w3 ⟨rfl, rfl⟩
                go_wp2_with fail
                go_ret
                exact ⟨ret_int HE.out.symm, below_on E0.out hb⟩
            · by_cases i0 : i = 0
              · by_cases v1 : v ≤ 1
                · have IJ : ((i : Int) == (j : Int)) = false := by simp; omega
                  have IZ : ((i : Int) == 0) = true := by simp; omega
                  have V2 : decide ((1 : Int) < v) = false := by simp; omega
                  rw [lv] at v9
                  have V9 := Lib.hid v9
                  have HE := Lib.hid (show okI n l i j = true by rw [hok, lv]; simp; omega)
                  clear hok v9 lv ij v1 i0
                  go_wp2_with fail
                  refine (A8.out _ HBj.out).mono ?_
                  rintro e w2 ⟨rfl, hb⟩
                  obtain ⟨c0, c1⟩ := KS.out _ hb
                  go_wp2_with fail
                  refine (V9.out _).mono ?_
                  rintro e w3 ⟨rfl, rfl⟩
                  have HB2 := Lib.hid hb
                  clear hb
                  go_wp2_with fail
                  go_roundw
                  case rel =>
                    refine ⟨j + 1, by omega, by go_num, Lib.hid (fun x hx => ?_), HB2⟩
                    by_cases e : x = j
                    · rw [e]; exact HE.out
                    · exact HJ.out x (by omega)
                  case measure => simp [intOf]; omega
                · have IJ : ((i : Int) == (j : Int)) = false := by simp; omega
                  have IZ : ((i : Int) == 0) = true := by simp; omega
                  have V2 : decide ((1 : Int) < v) = true := by simp; omega
                  rw [lv] at v9
                  have V9 := Lib.hid v9
                  have HE := Lib.hid (chkE_bad3 (l := l) (n := n) (i := i) (j := j) (by omega) (by omega) (by rw [hok, lv]; simp; omega))
                  clear hok v9 lv ij v1 i0
                  go_wp2_with fail
                  refine (A8.out _ HBj.out).mono ?_
                  rintro e w2 ⟨rfl, hb⟩
                  obtain ⟨c0, c1⟩ := KS.out _ hb
                  go_wp2_with fail
                  refine (V9.out _).mono ?_
                  rintro e w3 ⟨rfl, rfl⟩
                  go_wp2_with fail
                  go_ret
                  exact ⟨ret_int HE.out.symm, below_on E0.out hb⟩
              · have IJ : ((i : Int) == (j : Int)) = false := by simp; omega
                have IZ : ((i : Int) == 0) = false := by simp; omega
                rw [lv] at v9
                have V9 := Lib.hid v9
                have HE := Lib.hid (show okI n l i j = true by rw [hok, lv]; simp; omega)
                clear hok v9 lv ij i0
                go_wp2_with fail
                refine (A8.out _ HBj.out).mono ?_
                rintro e w2 ⟨rfl, hb⟩
                obtain ⟨c0, c1⟩ := KS.out _ hb
                go_wp2_with fail
                refine (V9.out _).mono ?_
                rintro e w3 ⟨rfl, rfl⟩
                have HB2 := Lib.hid hb
                clear hb
                go_wp2_with fail
                go_roundw
                case rel =>
                  refine ⟨j + 1, by omega, by go_num, Lib.hid (fun x hx => ?_), HB2⟩
                  by_cases e : x = j
                  · rw [e]; exact HE.out
                  · exact HJ.out x (by omega)
                case measure => simp [intOf]; omega
        · have HI2 := Lib.hid (show ∀ x, x < i + 1 → ∀ j, j < n + 1 → okI n l x j = true from fun x hx y hy => by
            by_cases e : x = i
            · rw [e]; exact HJ.out y (by omega)
            · exact HI.out x (by omega) y hy)
          go_wp2_with fail
          go_roundw
          case rel => exact ⟨i + 1, by omega, by go_num, HI2, HBj⟩
          case measure => simp [intOf]; omega
    · have HI2 := Lib.hid (show ∀ x, x < n + 1 → ∀ j, j < n + 1 → okI n l x j = true from fun x hx y hy => HI.out x (by omega) y hy)
      go_wp2_with fail
      clear c0 c1
      go_loopw [6] (fun s wr => ∃ t : Nat, t ≤ n + 1 ∧ s = .int .i64 t ∧ Hid (∀ i, i < t → ∀ j, j < n + 1 → ∀ k, k < n + 1 → okT n l i j k = true) ∧ Hid (Below w0.heap.size w0 wr)) (fun s _ => n + 1 - (intOf s).toNat)
      case atStart => exact ⟨0, by omega, rfl, Lib.hid (fun i hi => by omega), HB⟩
      case round =>
        obtain ⟨x, hx, rfl, HX, HBx⟩ := hrel
        obtain ⟨c0, c1⟩ := KS.out _ HBx.out
        by_cases hxn : x ≤ n
        · go_wp2_with fail
          clear c0 c1
          go_loopw [7] (fun s wr => ∃ t : Nat, t ≤ n + 1 ∧ s = .int .i64 t ∧ Hid (∀ j, j < t → ∀ k, k < n + 1 → okT n l x j k = true) ∧ Hid (Below w0.heap.size w0 wr)) (fun s _ => n + 1 - (intOf s).toNat)
          case atStart => exact ⟨0, by omega, rfl, Lib.hid (fun j hj => by omega), HBx⟩
          case round =>
            obtain ⟨y, hy, rfl, HY, HBy⟩ := hrel
            obtain ⟨c0, c1⟩ := KS.out _ HBy.out
            by_cases hyn : y ≤ n
            · go_wp2_with fail
              clear c0 c1
              go_loopw [8] (fun s wr => ∃ t : Nat, t ≤ n + 1 ∧ s = .int .i64 t ∧ Hid (∀ k, k < t → okT n l x y k = true) ∧ Hid (Below w0.heap.size w0 wr)) (fun s _ => n + 1 - (intOf s).toNat)
              case atStart => exact ⟨0, by omega, rfl, Lib.hid (fun k hk => by omega), HBy⟩
              case round =>
                obtain ⟨z, hz, rfl, HZ, HBz⟩ := hrel
                obtain ⟨c0, c1⟩ := KS.out _ HBz.out
                by_cases hzn : z ≤ n
                · have HT := Lib.hid (show okT n l x y z = decide (Zo.At n l x y ≤ Zo.smW (Zo.At n l x z) (Zo.At n l z y)) from rfl)
                  go_wp2_with fail
                  have s1 := HBz.out.drew
                  go_region_held3 (fun w' => w'.cell? ⟨w.heap.size, 0, none⟩ = some (.int .i64 n) ∧ w'.cell? ⟨w.heap.size, 1, none⟩ = some (.slice (some a) len cap)) (first | exact KS.out _ (by assumption))
                    (first | (go_at_call 26; refine (A9.out _ _ (by assumption) (by assumption) _ (by assumption)).mono ?_; rintro e w2 ⟨rfl, s2⟩) | (go_at_call 76; refine (M9.out _ _ _ (by assumption)).mono ?_; rintro e w3 ⟨rfl, s3⟩))
                  all_goals
                    have S3 := Lib.hid s3
                    clear s3
                    generalize Zo.At n l x y = p at *
                    generalize Zo.smW (Zo.At n l x z) (Zo.At n l z y) = q at *
                    by_cases hpq : p ≤ q
                    · have HT2 := Lib.hid (show okT n l x y z = true by rw [HT.out]; simpa using hpq)
                      have D : decide (q < p) = false := by simp; omega
                      go_wp2_with fail
                      go_roundw
                      case rel =>
                        refine ⟨z + 1, by omega, by go_num, Lib.hid (fun k hk => ?_), S3⟩
                        by_cases e : k = z
                        · rw [e]; exact HT2.out
                        · exact HZ.out k (by omega)
                      case measure => simp [intOf]; omega
                    · have HE := Lib.hid (chkE_bad4 (l := l) (n := n) (i := x) (j := y) (k := z) (by omega) (by omega) (by omega) (by rw [HT.out]; simpa using hpq))
                      have D : decide (q < p) = true := by simp; omega
                      go_wp2_with fail
                      go_ret
                      exact ⟨ret_int HE.out.symm, below_on E0.out S3.out⟩
                · have HY2 := Lib.hid (show ∀ j, j < y + 1 → ∀ k, k < n + 1 → okT n l x j k = true from fun j hj k hk => by
                    by_cases e : j = y
                    · rw [e]; exact HZ.out k (by omega)
                    · exact HY.out j (by omega) k hk)
                  go_wp2_with fail
                  go_roundw
                  case rel => exact ⟨y + 1, by omega, by go_num, HY2, HBz⟩
                  case measure => simp [intOf]; omega
            · have HX2 := Lib.hid (show ∀ i, i < x + 1 → ∀ j, j < n + 1 → ∀ k, k < n + 1 → okT n l i j k = true from fun i hi j hj k hk => by
                by_cases e : i = x
                · rw [e]; exact HY.out j (by omega) k hk
                · exact HX.out i (by omega) j hj k hk)
              go_wp2_with fail
              go_roundw
              case rel => exact ⟨x + 1, by omega, by go_num, HX2, HBy⟩
              case measure => simp [intOf]; omega
        · have HE := Lib.hid (chkE_ok hn HL.out HI2.out (fun i hi j hj k hk => HX.out i (by omega) j hj k hk))
          go_wp2_with fail
          go_ret
          exact ⟨ret_int HE.out.symm, below_on E0.out HBx.out⟩
end Go.Proofs.YtbnebinpemejlaaGreat

namespace Go.Proofs.YtbnebinpemejlaaGreat
open Go.RowKit

theorem Tryz.info46 : (Tryz.prog.info? 46).map (fun i => (i.zero, i.size, i.bytes)) = some (some (.int .i64 0), 1, 8) := by kernel_rfl

theorem Rd.map {w : World} {a : Addr} {l : List Int} (h : Rd w a l) : ∀ j u, (l.map (Value.int .i64))[j]? = some u → w.cell? (a.add j) = some u := by
  intro j u hj
  have hl : j < l.length := by
    rcases Nat.lt_or_ge j l.length with c | c
    · exact c
    · simp [c] at hj
  rw [h j hl]
  simp [hl] at hj
  rw [← hj]; simp [Zo.gt, hl]

theorem grown_below {X w w' : World} (hb : Below X.heap.size X w) (hg : w.grownBy w' none) : Below X.heap.size X w' :=
  hb.trans ⟨hg.os, hg.tape, hg.output, hg.size, fun k hk => hg.block k (Nat.lt_of_lt_of_le hk hb.size) (by simp)⟩

theorem own_of {w : World} {base g c len : Nat} {xs : List Value} {l : List Int} (h : w.ownsRow base 46 1 (.slice (some ⟨g, 0, none⟩) len c) len xs) (hx : xs = l.map (Value.int .i64)) (hl : len = l.length) : Own w g c l ∧ base ≤ g := by
  subst hl hx
  refine ⟨?_, (World.ownsRow.lt h g rfl).1⟩
  obtain ⟨h1, h2⟩ := h
  refine ⟨h1, ?_⟩
  rcases h2 with h2 | ⟨g', cap', cur, a1, _, a3⟩
  · exact Or.inl h2
  · exact Or.inr ⟨g', cap', cur, a1, Nat.zero_le _, a3⟩

theorem put_far {w : World} {g c b : Nat} {l : List Int} (h : Own w g c l) (hb : b ≠ g) (u v : Value) : Own ((w.setCell ⟨b, 0, none⟩ u).setCell ⟨b, 1, none⟩ v) g c l := by
  have e1 : w.grownBy (w.setCell ⟨b, 0, none⟩ u) (some b) := ⟨rfl, rfl, rfl, by simp, fun k _ hk => heap_setCell_other w ⟨b, 0, none⟩ k u (fun e => hk (by simp [e]))⟩
  have e2 : (w.setCell ⟨b, 0, none⟩ u).grownBy ((w.setCell ⟨b, 0, none⟩ u).setCell ⟨b, 1, none⟩ v) (some b) := ⟨rfl, rfl, rfl, by simp, fun k _ hk => heap_setCell_other _ ⟨b, 1, none⟩ k v (fun e => hk (by simp [e]))⟩
  exact h.kept (grown_trans e1 e2) (by simp; omega)
end Go.Proofs.YtbnebinpemejlaaGreat

namespace Go.Proofs.YtbnebinpemejlaaGreat
open Go.RowKit

/-- A block of two cells. -/
def Two (w : World) (b : Nat) (u v : Value) : Prop := Cell w ⟨b, 0, none⟩ u ∧ Cell w ⟨b, 1, none⟩ v

theorem Two.lt {w : World} {b : Nat} {u v : Value} (h : Two w b u v) : b < w.heap.size := h.1.lt

theorem Two.kept {w w' : World} {b : Nat} {u v : Value} (h : Two w b u v) (hb : Below w.heap.size w w') : Two w' b u v := ⟨h.1.kept hb, h.2.kept hb⟩

theorem Two.made (w : World) (u v : Value) (t : TypeId) : Two (w.alloc (.cells #[u, v] t)) w.heap.size u v := ⟨⟨by go_simp, by go_simp⟩, ⟨by go_simp, by go_simp⟩⟩

theorem Two.alloc {w : World} {b : Nat} {u v : Value} (h : Two w b u v) (o : Obj) : Two (w.alloc o) b u v := h.kept (one_more o)

theorem Two.put {w : World} {b : Nat} {u v : Value} (h : Two w b u v) (u' v' : Value) : Two ((w.setCell ⟨b, 0, none⟩ u').setCell ⟨b, 1, none⟩ v') b u' v' :=
  ⟨((h.1.same _).other (by simp) _), ((h.2.other (by simp) _).same _)⟩

theorem Two.aside {w : World} {b b' : Nat} {u v : Value} (h : Two w b u v) (hne : b' ≠ b) (u' v' : Value) : Two ((w.setCell ⟨b', 0, none⟩ u').setCell ⟨b', 1, none⟩ v') b u v :=
  ⟨((h.1.other (fun e => hne (congrArg Addr.block e)) _).other (fun e => hne (congrArg Addr.block e)) _), ((h.2.other (fun e => hne (congrArg Addr.block e)) _).other (fun e => hne (congrArg Addr.block e)) _)⟩

theorem Two.facts {w : World} {b : Nat} {u v : Value} (h : Two w b u v) : w.cell? ⟨b, 0, none⟩ = some u ∧ w.cell? ⟨b, 1, none⟩ = some v ∧ w.frozen? ⟨b, 0, none⟩ = false ∧ w.frozen? ⟨b, 1, none⟩ = false :=
  ⟨h.1.1, h.2.1, h.1.2, h.2.2⟩

theorem Two.grown {w w' : World} {b g : Nat} {u v : Value} (h : Two w b u v) (hg : w.grownBy w' (some g)) (hne : b ≠ g) : Two w' b u v :=
  ⟨⟨hg.cell h.1.1 (by simpa using hne), (World.frozen?_of_block (hg.block _ h.1.lt (by simpa using hne))).trans h.1.2⟩, ⟨hg.cell h.2.1 (by simpa using hne), (World.frozen?_of_block (hg.block _ h.2.lt (by simpa using hne))).trans h.2.2⟩⟩

/-- What a function that returns a zone leaves: with no error a new row, else the zero zone. -/
def ZRes (w : World) (N : Int) (l : List Int) (er : Int) (e : Ending) (w' : World) : Prop :=
  Below w.heap.size w w' ∧ ((er = 0 ∧ ∃ g c, e = .returned (.tuple #[.agg #[.int .i64 N, .slice (some ⟨g, 0, none⟩) l.length c], .int .i64 0]) ∧ w.heap.size ≤ g ∧ Own w' g c l) ∨
    (er ≠ 0 ∧ e = .returned (.tuple #[.agg #[.int .i64 0, .slice none 0 0], .int .i64 er])))

theorem dsq_pos (n : Nat) : 0 < (n + 1) * (n + 1) := Nat.mul_pos (by omega) (by omega)

theorem dsq_le {n : Nat} (hn : n ≤ 10) : (n + 1) * (n + 1) ≤ 121 := by
  have : (n + 1) * (n + 1) ≤ 11 * 11 := Nat.mul_le_mul (by omega) (by omega)
  omega

/-- From a row that the function itself has made to what it leaves. -/
theorem grown_over {w w1 w2 : World} {g : Nat} (hb : Below w.heap.size w w1) (hg : w1.grownBy w2 (some g)) (hle : w.heap.size ≤ g) : Below w.heap.size w w2 :=
  hb.trans ⟨hg.os, hg.tape, hg.output, hg.size, fun k hk => hg.block k (Nat.lt_of_lt_of_le hk hb.size) (by simp; omega)⟩

/-- Steps that each keep the length. -/
theorem fold_len {f : List Int → Nat → List Int} (hf : ∀ x t, (f x t).length = x.length) (l : List Int) (t : Nat) : ((List.range t).foldl f l).length = l.length := by
  induction t with
  | zero => rfl
  | succ t ih => rw [Zo.fold_succ, hf, ih]

/-- Up: the elements that are set. -/
def upS (n : Nat) (x : List Int) (t : Nat) : List Int := x.set (Zo.ix n (t + 1) 0) 1099511627776

def upL (n : Nat) (l : List Int) : List Int := (List.range n).foldl (upS n) l

theorem upL_len (n : Nat) (l : List Int) : (upL n l).length = l.length := fold_len (fun x t => by simp [upS]) l n

/-- Down: the elements that are set. -/
def dnS (n : Nat) (x : List Int) (t : Nat) : List Int := x.set (Zo.ix n 0 (t + 1)) 1

def dnL (n : Nat) (l : List Int) : List Int := (List.range n).foldl (dnS n) l

theorem dnL_len (n : Nat) (l : List Int) : (dnL n l).length = l.length := fold_len (fun x t => by simp [dnS]) l n
end Go.Proofs.YtbnebinpemejlaaGreat

namespace Go.Proofs.YtbnebinpemejlaaGreat
open Go.RowKit

/-- A slice that came in: what it holds can be read. -/
def Arg (w : World) (ao : Option Addr) (l : List Int) : Prop := l ≠ [] → ∃ a, ao = some a ∧ Rd w a l

theorem Arg.on {w w' : World} {ao : Option Addr} {l : List Int} (h : Arg w ao l) (hb : Below w.heap.size w w') : Arg w' ao l := fun hl => by
  obtain ⟨a, h1, h2⟩ := h hl
  exact ⟨a, h1, h2.on hb⟩

theorem dim_nat {N : Int} (h : dimB N = true) : ∃ n : Nat, N = n ∧ n ≤ 10 := by
  unfold dimB at h; simp at h
  exact ⟨N.toNat, by omega, by omega⟩

/-- What a zone is that passes Check. -/
theorem chk_ok {N : Int} {l : List Int} (h : chkE N l = 0) : ∃ n : Nat, N = n ∧ n ≤ 10 ∧ l.length = (n + 1) * (n + 1) ∧ l ≠ [] := by
  unfold chkE at h
  split at h
  · rename_i c
    unfold chkB at c
    simp only [Bool.and_eq_true, decide_eq_true_eq] at c
    obtain ⟨n, rfl, hn⟩ := dim_nat c.1.1.1
    have hl := c.1.1.2
    simp at hl
    refine ⟨n, rfl, hn, hl, fun e => ?_⟩
    have := dsq_pos n
    rw [e] at hl; simp at hl
  · omega

theorem chk_two {N : Int} {l : List Int} (h : chkE N l ≠ 0) : chkE N l = 2 := by
  unfold chkE at h ⊢; split <;> simp_all

theorem check_gen (N : Int) (l : List Int) (ao : Option Addr) (cap : Nat) (w : World) (hA : Arg w ao l) :
    Calls Tryz.prog 41 #[.agg #[.int .i64 N, .slice ao l.length cap]] w (Made (.int .i64 (chkE N l)) w) := by
  cases hd : dimB N
  · exact check_bad1 N l ao cap w hd
  · obtain ⟨n, rfl, hn⟩ := dim_nat hd
    by_cases hl : l.length = (n + 1) * (n + 1)
    · obtain ⟨a, rfl, hR⟩ := hA (fun e => by have := dsq_pos n; rw [e] at hl; simp at hl)
      exact check_any n l a cap w hn hl hR
    · exact check_bad2 n l ao cap w hn hl

theorem check_as {N : Int} {l : List Int} {ao : Option Addr} {cap : Nat} {e : Int} (w : World) (hA : Arg w ao l) (h : chkE N l = e) :
    Calls Tryz.prog 41 #[.agg #[.int .i64 N, .slice ao l.length cap]] w (Made (.int .i64 e) w) := by rw [← h]; exact check_gen N l ao cap w hA

theorem zres_bad {w w' : World} {N : Int} {l : List Int} (hb : Below w.heap.size w w') : ZRes w N l 2 (.returned (.tuple #[.agg #[.int .i64 0, .slice none 0 0], .int .i64 2])) w' := ⟨hb, Or.inr ⟨by decide, rfl⟩⟩

theorem ZRes.bad {w w' : World} {N : Int} {l l' : List Int} {er : Int} {N' : Int} {e : Ending} (h : ZRes w N l 2 e w') (he : er = 2) : ZRes w N' l' er e w' := by
  subst he
  refine ⟨h.1, ?_⟩
  rcases h.2 with ⟨c, _⟩ | c
  · omega
  · exact Or.inr c

def upE (N : Int) (l : List Int) : Int := if chkE N l = 0 then cloE N.toNat (upL N.toNat l) else 2

def dnE (N : Int) (l : List Int) : Int := if chkE N l = 0 then cloE N.toNat (dnL N.toNat l) else 2
end Go.Proofs.YtbnebinpemejlaaGreat

namespace Go.Proofs.YtbnebinpemejlaaGreat
open Go.RowKit

theorem run_nil_cmp (w : World) (a : Option Addr) (n c : Nat) : (binOp .eql 22 (.slice a n c) (.slice none 0 0)).run Tryz.prog w = .ok (.bool a.isNone) w := Lib.run_eql_slice_nil w _ _ a n c 0 0 Tryz.underlying22

set_option maxRecDepth 100000 in
set_option maxHeartbeats 2000000 in
theorem clone_any (l : List Int) (b off : Nat) (cap : Nat) (w : World) (h0 : 0 < l.length) (h1 : l.length ≤ 1000) (hR : Rd w ⟨b, off, none⟩ l) :
    Calls Tryz.prog 100 #[.slice (some ⟨b, off, none⟩) l.length cap] w
      (fun e w' => ∃ g c, e = .returned (.slice (some ⟨g, 0, none⟩) l.length c) ∧ w.heap.size ≤ g ∧ Own w' g c l ∧ Below w.heap.size w w') := by
  obtain ⟨i0, hi, hz0, hz1, hz2⟩ := info_parts Tryz.info46
  have q := run_nil_cmp
  have A := Lib.hid (show ∀ (w' : World), Below w.heap.size w w' → ∀ j u, (l.map (Value.int .i64))[j]? = some u → w'.cell? ((⟨b, off, none⟩ : Addr).add j) = some u from fun w' h => (hR.on h).map)
  have l1 : (l.map (Value.int .i64)).length = l.length * 1 := by simp
  have o1 : ∀ u ∈ l.map (Value.int .i64), u.oneCell' = true := by simp [Value.oneCell']
  generalize hxs : l.map (Value.int .i64) = xs at *
  have HXS := Lib.hid hxs
  clear hxs hR
  generalize hlen : l.length = len at *
  have HLEN := Lib.hid hlen
  clear hlen
  go_enter Tryz.func100, Tryz.ntmps100
  go_wp2_with (at_builtin; refine wpList_append_own _ rfl _ _ 22 rfl w.heap.size 46 i0 (.int .i64 0) 1 8 Tryz.underlying22 hi hz0 hz1 hz2 rfl (by decide) _ _ _ rfl (World.ownsRow_made w #[] 0 (Nat.le_refl _) (Nat.zero_le _) (by simp)) ⟨b, off, none⟩ len cap xs rfl ?qc1 ?qc2 ?qc3 ?qc4 ?qc5 ?qc6 ?_)
  case qc1 => exact l1
  case qc2 =>
    intro j u hj
    exact A.out _ (one_more (.cells #[] 46)) j u hj
  case qc3 => exact o1
  case qc4 => unfold maxLen; omega
  case qc5 => omega
  case qc6 => simp
  intro v' w1 hown hgrow hnil
  have hown' : w1.ownsRow w.heap.size 46 1 v' len xs := by simpa using hown
  obtain ⟨g, c, rfl⟩ := Joins.ownsRow_form hown' (by omega)
  go_wp2
  go_ret
  obtain ⟨ho, hg⟩ := own_of hown' HXS.out.symm HLEN.out.symm
  exact ⟨g, c, rfl, hg, ho, ((Below.refl _ w).alloc (Nat.le_refl _) _).grown hgrow (by simp) (by intro k hk; simp [Value.ownBlock] at hk; omega)⟩

/-- The first elements of a matrix, as a slice. -/
theorem run_head (b : Nat) (y : Int) (k : Nat) (hy : y = (k : Int)) (hm : k ≤ 121) (w : World) :
    (Instr.sliceAt 52 (.pointer (some ⟨b, 1, none⟩)) none (some (.int .i64 y)) none).run Tryz.prog w = .ok (.slice (some ⟨b, 1, none⟩) k 121) w := by
  subst hy
  have ha : Tryz.prog.arrayLen 52 = 121 := by simp [Program.arrayLen]
  have he : Tryz.prog.elem 52 = 46 := by simp [Program.elem]
  rw [run_sliceAt_array_h w 52 ⟨b, 1, none⟩ (by rw [ha, he]; exact cells_ty) .i64 k (by omega) (by rw [ha]; omega)]
  rw [he, limit_size]
  simp only [Result.andThen_ok, slicedAt, Int.toNat_natCast, ha]
  rw [if_neg (by omega), Addr.add_mid]
  rfl

/-- What the method zone leaves: with no error a new row, else the zero zone; of what was there only block b has turned. -/
def GRes (b : Nat) (w : World) (N : Int) (l : List Int) (er : Int) (e : Ending) (w' : World) : Prop :=
  w.grownBy w' (some b) ∧ ((er = 0 ∧ ∃ g c, e = .returned (.tuple #[.agg #[.int .i64 N, .slice (some ⟨g, 0, none⟩) l.length c], .int .i64 0]) ∧ w.heap.size ≤ g ∧ Own w' g c l) ∨
    (er ≠ 0 ∧ e = .returned (.tuple #[.agg #[.int .i64 0, .slice none 0 0], .int .i64 er])))

theorem GRes.below {b : Nat} {w0 w : World} {N : Int} {l : List Int} {er : Int} {e : Ending} {w' : World} (h : GRes b w N l er e w') (hb : Below w0.heap.size w0 w) (hle : w0.heap.size ≤ b) : ZRes w0 N l er e w' := by
  obtain ⟨hg, h⟩ := h
  refine ⟨grown_over hb hg hle, ?_⟩
  rcases h with ⟨h0, g, c, h1, h2, h3⟩ | h
  · exact Or.inl ⟨h0, g, c, h1, Nat.le_trans hb.size h2, h3⟩
  · exact Or.inr h

theorem grown_two {w w' : World} {b x : Nat} (h : w.grownBy w' (some b)) (hx : w.heap.size ≤ x) (u v : Value) : w.grownBy ((w'.setCell ⟨x, 0, none⟩ u).setCell ⟨x, 1, none⟩ v) (some b) := by
  have e1 : w'.grownBy (w'.setCell ⟨x, 0, none⟩ u) (some x) := grown_put _ _ _ _
  have e2 : (w'.setCell ⟨x, 0, none⟩ u).grownBy ((w'.setCell ⟨x, 0, none⟩ u).setCell ⟨x, 1, none⟩ v) (some x) := grown_put _ _ _ _
  have e3 := grown_trans e1 e2
  exact ⟨e3.os.trans h.os, e3.tape.trans h.tape, e3.output.trans h.output, Nat.le_trans h.size e3.size, fun k hk hne => (e3.block k (Nat.lt_of_lt_of_le hk h.size) (by simp; omega)).trans (h.block k hk hne)⟩

theorem Mx.rd {w : World} {b n : Nat} {l : List Int} (h : Mx w b n l) : Rd w ⟨b, 1, none⟩ l := fun j hj => by rw [Addr.add_mid]; exact h.at hj

theorem grown_of_below {w w' : World} {r : Option Nat} (h : Below w.heap.size w w') : w.grownBy w' r := ⟨h.os, h.tape, h.output, h.size, fun k hk _ => h.block k hk⟩

theorem aside_two {w : World} {p : Addr} {x : Value} (h : w.cell? p = some x) {y : Nat} (hne : p.block ≠ y) (u v : Value) : ((w.setCell ⟨y, 0, none⟩ u).setCell ⟨y, 1, none⟩ v).cell? p = some x := by
  rw [World.cell?_setCell_other _ _ _ _ (fun e => hne (congrArg Addr.block e).symm), World.cell?_setCell_other _ _ _ _ (fun e => hne (congrArg Addr.block e).symm)]
  exact h

set_option maxRecDepth 100000 in
set_option maxHeartbeats 4000000 in
theorem mzone_any (b n : Nat) (l : List Int) (w : World) (hn : n ≤ 10) (h : Mx w b n l) (h64 : Zo.A64 l) :
    Calls Tryz.prog 83 #[.pointer (some ⟨b, 0, none⟩)] w (GRes b w n (Zo.clo n l) (cloE n l)) := by
  have hl := h.2
  have hb := h.lt
  obtain ⟨w0, hw0⟩ : ∃ w0, w0 = w.alloc (.cells #[.int .i64 0, .slice none 0 0] 24) := ⟨_, rfl⟩
  have M0 : Mx w0 b n l := by rw [hw0]; exact h.alloc _
  have rs : Two w0 w.heap.size (.int .i64 0) (.slice none 0 0) := by rw [hw0]; exact Two.made _ _ _ _
  have g0 : w.grownBy w0 (some b) := by rw [hw0]; exact World.grownBy_alloc _ _ _
  have z0 : w0.heap.size = w.heap.size + 1 := by rw [hw0]; simp
  have SH := Lib.hid (shorten_any b n l w0 hn M0 h64)
  have GB := Lib.hid g0
  have RS := Lib.hid rs
  clear h h64 M0 g0 rs
  go_enter Tryz.func83, Tryz.ntmps83
  go_wp2_with fail
  rw [← hw0]
  clear hw0
  go_wp2_with fail
  cases hB : cloB n l
  · have S0 := SH.out
    rw [hB] at S0
    refine S0.mono ?_
    rintro e w1 ⟨rfl, l', hM, hc⟩
    obtain rfl := hc rfl
    have hcl : (Zo.clo n l).length = (n + 1) * (n + 1) := by rw [Zo.clo_length, hl]
    have HCE := Lib.hid (show cloE n l = if (Zo.clo n l).all lvB then 0 else 7 by unfold cloE; rw [hB]; rfl)
    have c0 := hM.1.dim
    have KD := Lib.hid (show ∀ (w' : World), MSt w0 b n (Zo.clo n l) w' → w'.cell? ⟨b, 0, none⟩ = some (.int .i64 n) from fun w' h => h.1.dim)
    generalize hcc : Zo.clo n l = c at *
    have HM := Lib.hid hM
    have HL := Lib.hid hcl
    have HB := Lib.hid hB
    have HC := Lib.hid hcc
    clear hM S0 hB hcc SH
    have d2 := dsq_le hn
    have d1 := dsq_pos n
    have hr := run_head b ((((n + 1) * (n + 1) : Nat)) : Int) ((n + 1) * (n + 1)) rfl (dsq_le hn)
    have HP := Lib.hid (fun W => places_any n W hn)
    generalize hsz : (n + 1) * (n + 1) = sz at *
    have HSZ := Lib.hid hsz
    clear hsz hcl hl
    go_wp2_with fail
    refine wp_region_still_lit (by kernel_rfl) (by kernel_rfl) ?_
    repeat still_step
    still_call (HP.out _)
    repeat still_step
    refine wpStill_nil ?_
    clear c0 hr
    have HD := Lib.hid HM.out.drew
    change Exit.then _ _ _ _ (World.drew _)
    generalize w1.drew = w2 at *
    clear HM
    go_wp2_with fail
    go_loopw [22] (fun s wr => ∃ t : Nat, t ≤ sz ∧ s = .int .i64 t ∧ Hid (∀ i, i < t → lvB (Zo.gt c i) = true) ∧ Hid (MSt w0 b n c wr)) (fun s _ => sz - (intOf s).toNat)
    case atStart => exact ⟨0, by omega, rfl, Lib.hid (fun i hi => by omega), HD⟩
    case round =>
      clear HD
      obtain ⟨t, ht, rfl, HV, HT⟩ := hrel
      by_cases htn : t < sz
      · obtain ⟨v, hv⟩ : ∃ v, v = Zo.gt c t := ⟨_, rfl⟩
        have c1 : wr.cell? ⟨b, 1 + t, none⟩ = some (.int .i64 v) := by rw [hv]; exact HT.out.1.at (by rw [HL.out]; exact htn)
        have HVV := Lib.hid hv
        clear hv
        have PV := fun W => limValid_free v W
        cases lv : lvB v
        · rw [lv] at PV
          have HE := Lib.hid (show cloE n l = 7 by
            rw [HCE.out, if_neg]
            rw [List.all_eq_true]
            intro hall
            have := hall (c[t]'(by rw [HL.out]; exact htn)) (List.getElem_mem _)
            rw [show c[t]'(by rw [HL.out]; exact htn) = v by rw [HVV.out]; simp [Zo.gt, show t < c.length by rw [HL.out]; exact htn], lv] at this
            cases this)
          have PW := Lib.hid PV
          have rs1 := RS.out.grown HT.out.2 (by omega)
          obtain ⟨q0, q1, q2, q3⟩ := rs1.facts
          have HG := Lib.hid (grown_trans GB.out HT.out.2)
          clear PV
          go_wp2_with fail
          refine (PW.out _).mono ?_
          rintro e w3 ⟨rfl, rfl⟩
          go_wp2_with fail
          refine bodyPost_ret (v := .tuple #[.agg #[.int .i64 0, .slice none 0 0], .int .i64 7]) (by simp [results, Tryz.results83, go_sem, q0, q1]) rfl ⟨grown_two HG.out (Nat.le_refl _) _ _, Or.inr ⟨by rw [HE.out]; decide, by rw [HE.out]⟩⟩
        · rw [lv] at PV
          have PW := Lib.hid PV
          have HLV := Lib.hid lv
          clear PV lv
          go_wp2_with fail
          refine (PW.out _).mono ?_
          rintro e w3 ⟨rfl, rfl⟩
          clear c1
          go_wp2_with fail
          go_roundw
          case rel =>
            refine ⟨t + 1, by omega, by go_num, Lib.hid (fun i hi => ?_), HT⟩
            by_cases e : i = t
            · rw [e, ← HVV.out]; exact HLV.out
            · exact HV.out i (by omega)
          case measure => simp [intOf]; omega
      · have HE := Lib.hid (show cloE n l = 0 by
          rw [HCE.out, if_pos]
          rw [List.all_eq_true]
          intro x hx
          obtain ⟨i, hi, rfl⟩ := List.getElem_of_mem hx
          have := HV.out i (by have := HL.out; omega)
          simpa [Zo.gt, hi] using this)
        have rs1 := RS.out.grown HT.out.2 (by omega)
        have CL := Lib.hid (show ∀ w', MSt w0 b n c w' → Calls Tryz.prog 100 #[.slice (some ⟨b, 1, none⟩) sz 121] w' (fun e w'' => ∃ g cc, e = .returned (.slice (some ⟨g, 0, none⟩) sz cc) ∧ w'.heap.size ≤ g ∧ Own w'' g cc c ∧ Below w'.heap.size w' w'') from fun w' h => by
          have := clone_any c b 1 121 w' (by rw [HL.out]; exact d1) (by rw [HL.out]; omega) h.1.rd
          rwa [HL.out] at this)
        go_wp2_with fail
        have HDR := Lib.hid HT.out.drew
        have RSD := Lib.hid (show Two wr.drew w.heap.size (.int .i64 0) (.slice none 0 0) from rs1)
        clear rs1
        have c1 := KD.out _ HDR.out
        go_region_held3 (fun w' => w'.cell? ⟨b, 0, none⟩ = some (.int .i64 n)) (first | exact c1 | exact KD.out _ (by assumption) | exact c3 | exact c4 _ _)
          (first | (go_at_call 100; refine (CL.out _ HDR.out).mono ?_; rintro e w5 ⟨g, cc, rfl, hg, ho, hbe⟩; have c3 : w5.cell? ⟨b, 0, none⟩ = some (.int .i64 n) := kept hbe c1; have c4 : ∀ u v, ((w5.setCell ⟨w.heap.size, 0, none⟩ u).setCell ⟨w.heap.size, 1, none⟩ v).cell? ⟨b, 0, none⟩ = some (.int .i64 n) := (fun u v => aside_two c3 (by show b ≠ w.heap.size; omega) u v); obtain ⟨q0, q1, q2, q3⟩ := (RSD.out.kept hbe).facts))
        go_wp2_with fail
        have HG : w.grownBy w5 (some b) := grown_trans GB.out (grown_trans HDR.out.2 (grown_of_below hbe))
        have hg2 : w0.heap.size ≤ g := Nat.le_trans HDR.out.2.size hg
        refine bodyPost_ret (v := .tuple #[.agg #[.int .i64 n, .slice (some ⟨g, 0, none⟩) sz cc], .int .i64 0]) (by simp [results, Tryz.results83, go_sem, q0, q1]) rfl ⟨grown_two HG (Nat.le_refl _) _ _, Or.inl ⟨HE.out, g, cc, by rw [← HL.out], by omega, put_far ho (by omega) _ _⟩⟩
  · have S0 := SH.out
    rw [hB] at S0
    refine S0.mono ?_
    rintro e w1 ⟨rfl, l', hM, -⟩
    have HE := Lib.hid (show cloE n l = 4 by unfold cloE; rw [hB]; rfl)
    have rs1 := RS.out.grown hM.2 (by omega)
    obtain ⟨q0, q1, q2, q3⟩ := rs1.facts
    have HG := Lib.hid (grown_trans GB.out hM.2)
    clear hM S0 hB SH
    go_wp2_with fail
    refine bodyPost_ret (v := .tuple #[.agg #[.int .i64 0, .slice none 0 0], .int .i64 4]) (by simp [results, Tryz.results83, go_sem, q0, q1]) rfl ⟨grown_two HG.out (Nat.le_refl _) _ _, Or.inr ⟨by rw [HE.out]; decide, by rw [HE.out]⟩⟩
end Go.Proofs.YtbnebinpemejlaaGreat

namespace Go.Proofs.YtbnebinpemejlaaGreat
open Go.RowKit

/-- An interval of delays. -/
structure Dl where
  ln : Int
  ld : Int
  hn : Int
  hd : Int
  lo : Bool
  ho : Bool
  nh : Bool

def Dl.cs (x : Dl) : Array Value := #[.int .i64 x.ln, .int .i64 x.ld, .int .i64 x.hn, .int .i64 x.hd, .bool x.lo, .bool x.ho, .bool x.nh]

def Dl.zero : Dl := ⟨0, 0, 0, 0, false, false, false⟩

/-- Block b holds these cells. -/
def Drow (w : World) (b : Nat) (A : Array Value) : Prop := w.heap[b]? = some (.cells A 34 (0, 0))

theorem Drow.lt {w : World} {b : Nat} {A : Array Value} (h : Drow w b A) : b < w.heap.size := by
  by_cases e : b < w.heap.size
  · exact e
  · have := h; unfold Drow at this; rw [Array.getElem?_eq_none (by omega)] at this; cases this

theorem Drow.kept {w w' : World} {b : Nat} {A : Array Value} (h : Drow w b A) (hb : Below w.heap.size w w') : Drow w' b A := (hb.block b h.lt).trans h

theorem Drow.made (w : World) (A : Array Value) : Drow (w.alloc (.cells A 34)) w.heap.size A := heap_alloc_last w _

theorem Drow.alloc {w : World} {b : Nat} {A : Array Value} (h : Drow w b A) (o : Obj) : Drow (w.alloc o) b A := h.kept (one_more o)

theorem Drow.cell {w : World} {b : Nat} {A : Array Value} (h : Drow w b A) (k : Nat) : w.cell? ⟨b, k, none⟩ = A[k]? := cell_of_row _ _ k A _ _ h

theorem Drow.free {w : World} {b : Nat} {A : Array Value} (h : Drow w b A) (k : Nat) : w.frozen? ⟨b, k, none⟩ = false := frozen_of_row w b k _ _ h

theorem Drow.put {w : World} {b : Nat} {A : Array Value} (h : Drow w b A) (k : Nat) (v : Value) : Drow (w.setCell ⟨b, k, none⟩ v) b (A.setIfInBounds k v) := by
  unfold Drow
  rw [heap_setCell_same w b _ _ _ _ h]

theorem Drow.far {w : World} {b : Nat} {A : Array Value} (h : Drow w b A) {p : Addr} (hp : b ≠ p.block) (v : Value) : Drow (w.setCell p v) b A := (heap_setCell_other w p b v hp).trans h

/-- Block b holds the interval x. -/
def Dbx (w : World) (b : Nat) (x : Dl) : Prop := Drow w b x.cs

theorem Dbx.facts {w : World} {b : Nat} {x : Dl} (h : Dbx w b x) : w.cell? ⟨b, 0, none⟩ = some (.int .i64 x.ln) ∧ w.cell? ⟨b, 1, none⟩ = some (.int .i64 x.ld) ∧ w.cell? ⟨b, 2, none⟩ = some (.int .i64 x.hn) ∧ w.cell? ⟨b, 3, none⟩ = some (.int .i64 x.hd) ∧
    w.cell? ⟨b, 4, none⟩ = some (.bool x.lo) ∧ w.cell? ⟨b, 5, none⟩ = some (.bool x.ho) ∧ w.cell? ⟨b, 6, none⟩ = some (.bool x.nh) :=
  ⟨h.cell 0, h.cell 1, h.cell 2, h.cell 3, h.cell 4, h.cell 5, h.cell 6⟩

theorem Dbx.frees {w : World} {b : Nat} {x : Dl} (h : Dbx w b x) : w.frozen? ⟨b, 0, none⟩ = false ∧ w.frozen? ⟨b, 1, none⟩ = false ∧ w.frozen? ⟨b, 2, none⟩ = false ∧ w.frozen? ⟨b, 3, none⟩ = false ∧
    w.frozen? ⟨b, 4, none⟩ = false ∧ w.frozen? ⟨b, 5, none⟩ = false ∧ w.frozen? ⟨b, 6, none⟩ = false :=
  ⟨h.free 0, h.free 1, h.free 2, h.free 3, h.free 4, h.free 5, h.free 6⟩

theorem Dbx.kept {w w' : World} {b : Nat} {x : Dl} (h : Dbx w b x) (hb : Below w.heap.size w w') : Dbx w' b x := Drow.kept h hb

theorem Dbx.all {w : World} {b : Nat} {x : Dl} (h : Dbx w b x) (y : Dl) : Dbx (((((((w.setCell ⟨b, 0, none⟩ (.int .i64 y.ln)).setCell ⟨b, 1, none⟩ (.int .i64 y.ld)).setCell ⟨b, 2, none⟩ (.int .i64 y.hn)).setCell ⟨b, 3, none⟩ (.int .i64 y.hd)).setCell ⟨b, 4, none⟩ (.bool y.lo)).setCell ⟨b, 5, none⟩ (.bool y.ho)).setCell ⟨b, 6, none⟩ (.bool y.nh)) b y := by
  have := ((((((Drow.put h 0 (.int .i64 y.ln)).put 1 (.int .i64 y.ld)).put 2 (.int .i64 y.hn)).put 3 (.int .i64 y.hd)).put 4 (.bool y.lo)).put 5 (.bool y.ho)).put 6 (.bool y.nh)
  simpa [Dbx, Dl.cs] using this

theorem Dbx.high {w : World} {b : Nat} {x : Dl} (h : Dbx w b x) (n d : Int) (o : Bool) : Dbx ((((w.setCell ⟨b, 2, none⟩ (.int .i64 n)).setCell ⟨b, 3, none⟩ (.int .i64 d)).setCell ⟨b, 5, none⟩ (.bool o)).setCell ⟨b, 6, none⟩ (.bool false)) b { x with hn := n, hd := d, ho := o, nh := false } := by
  have := (((Drow.put h 2 (.int .i64 n)).put 3 (.int .i64 d)).put 5 (.bool o)).put 6 (.bool false)
  simpa [Dbx, Dl.cs] using this

theorem Dbx.low {w : World} {b : Nat} {x : Dl} (h : Dbx w b x) (n d : Int) (o : Bool) : Dbx (((w.setCell ⟨b, 0, none⟩ (.int .i64 n)).setCell ⟨b, 1, none⟩ (.int .i64 d)).setCell ⟨b, 4, none⟩ (.bool o)) b { x with ln := n, ld := d, lo := o } := by
  have := ((Drow.put h 0 (.int .i64 n)).put 1 (.int .i64 d)).put 4 (.bool o)
  simpa [Dbx, Dl.cs] using this

theorem below_seven {B b : Nat} {w w2 : World} (h : Below B w w2) (hb : B ≤ b) (v0 v1 v2 v3 v4 v5 v6 : Value) : Below B w (((((((w2.setCell ⟨b, 0, none⟩ v0).setCell ⟨b, 1, none⟩ v1).setCell ⟨b, 2, none⟩ v2).setCell ⟨b, 3, none⟩ v3).setCell ⟨b, 4, none⟩ v4).setCell ⟨b, 5, none⟩ v5).setCell ⟨b, 6, none⟩ v6) :=
  ((((((h.setCell hb v0).setCell hb v1).setCell hb v2).setCell hb v3).setCell hb v4).setCell hb v5).setCell hb v6

/-- The interval at b has become x; else nothing from before has turned. -/
def WSt (w0 : World) (b : Nat) (x : Dl) (w : World) : Prop := Dbx w b x ∧ w0.grownBy w (some b)

theorem WSt.on {w0 w w' : World} {b : Nat} {x : Dl} (h : WSt w0 b x w) (hb : Below w.heap.size w w') : WSt w0 b x w' :=
  ⟨h.1.kept hb, grown_trans h.2 ⟨hb.os, hb.tape, hb.output, hb.size, fun k hk _ => hb.block k hk⟩⟩

theorem grown_put3 (w : World) (b i j k : Nat) (u v x : Value) : w.grownBy (((w.setCell ⟨b, i, none⟩ u).setCell ⟨b, j, none⟩ v).setCell ⟨b, k, none⟩ x) (some b) :=
  grown_trans (grown_trans (grown_put _ _ _ _) (grown_put _ _ _ _)) (grown_put _ _ _ _)

theorem WSt.high {w0 w : World} {b : Nat} {x : Dl} (h : WSt w0 b x w) (n d : Int) (o : Bool) : WSt w0 b { x with hn := n, hd := d, ho := o, nh := false } ((((w.setCell ⟨b, 2, none⟩ (.int .i64 n)).setCell ⟨b, 3, none⟩ (.int .i64 d)).setCell ⟨b, 5, none⟩ (.bool o)).setCell ⟨b, 6, none⟩ (.bool false)) :=
  ⟨h.1.high n d o, grown_trans h.2 (grown_trans (grown_put3 _ _ _ _ _ _ _ _) (grown_put _ _ _ _))⟩

theorem WSt.low {w0 w : World} {b : Nat} {x : Dl} (h : WSt w0 b x w) (n d : Int) (o : Bool) : WSt w0 b { x with ln := n, ld := d, lo := o } (((w.setCell ⟨b, 0, none⟩ (.int .i64 n)).setCell ⟨b, 1, none⟩ (.int .i64 d)).setCell ⟨b, 4, none⟩ (.bool o)) :=
  ⟨h.1.low n d o, grown_trans h.2 (grown_put3 _ _ _ _ _ _ _ _)⟩

theorem Pair.grown {w w' : World} {b g : Nat} {x y : Int} (h : Pair w b x y) (hg : w.grownBy w' (some g)) (hne : b ≠ g) : Pair w' b x y :=
  ⟨⟨hg.cell h.1.1 (by simpa using hne), (World.frozen?_of_block (hg.block _ h.1.lt (by simpa using hne))).trans h.1.2⟩, ⟨hg.cell h.2.1 (by simpa using hne), (World.frozen?_of_block (hg.block _ h.2.lt (by simpa using hne))).trans h.2.2⟩⟩

theorem Dbx.grown {w w' : World} {b g : Nat} {x : Dl} (h : Dbx w b x) (hg : w.grownBy w' (some g)) (hne : b ≠ g) : Dbx w' b x := (hg.block b (Drow.lt h) (by simpa using hne)).trans h

/-- What within makes of an interval by an upper bound, and by a lower one. -/
def wuL (x : Dl) (n d u : Int) : Dl := if spE u = 0 then (if x.nh || lsB (shN n d (spC u)) (shD n d (spC u)) x.hn x.hd (spS u) then { x with hn := shN n d (spC u), hd := shD n d (spC u), ho := spS u, nh := false } else x) else x

def wuE (n d u : Int) : Int := if spE u = 0 then shE n d (spC u) else 0

def wlL (x : Dl) (n d l : Int) : Dl := if spE l = 0 then (if lsB x.ln x.ld (shN n d (-spC l)) (shD n d (-spC l)) (spS l) then { x with ln := shN n d (-spC l), ld := shD n d (-spC l), lo := spS l } else x) else x

def wlE (n d l : Int) : Int := if spE l = 0 then shE n d (-spC l) else 0

def wiE (n d u l : Int) : Int := if wuE n d u ≠ 0 then wuE n d u else wlE n d l

def wiL (x : Dl) (n d u l : Int) : Dl := if wiE n d u l = 0 then wlL (wuL x n d u) n d l else Dl.zero

/-- The numbers fit. -/
def Dl.Ok (x : Dl) : Prop := I64 x.ln ∧ I64 x.ld ∧ I64 x.hn ∧ I64 x.hd

theorem opNum_64 (v : Bool) (p q : Int) : I64 (opNum v p q) := by
  unfold opNum I64
  cases v
  · simp
  · have := mkNum_bd p q
    simp only [if_true]; omega

theorem opDen_64 (v : Bool) (p q : Int) : I64 (opDen v p q) := by
  unfold opDen I64
  cases v
  · simp
  · have := mkDen_bd p q
    simp only [if_true]; omega

theorem wuL_ok {x : Dl} (h : x.Ok) (n d u : Int) : (wuL x n d u).Ok := by
  unfold wuL
  obtain ⟨h1, h2, h3, h4⟩ := h
  split
  · split
    · exact ⟨h1, h2, opNum_64 _ _ _, opDen_64 _ _ _⟩
    · exact ⟨h1, h2, h3, h4⟩
  · exact ⟨h1, h2, h3, h4⟩

theorem wlL_ok {x : Dl} (h : x.Ok) (n d l : Int) : (wlL x n d l).Ok := by
  unfold wlL
  obtain ⟨h1, h2, h3, h4⟩ := h
  split
  · split
    · exact ⟨opNum_64 _ _ _, opDen_64 _ _ _, h3, h4⟩
    · exact ⟨h1, h2, h3, h4⟩
  · exact ⟨h1, h2, h3, h4⟩

theorem lv_two' {a : Int} (h : lvB a = true) : a = 1099511627776 ∨ (-2147483648 ≤ a ∧ a ≤ 2147483649) := by unfold lvB at h; simpa using h

theorem spC_bd (l : Int) : -1073741824 ≤ spC l ∧ spC l ≤ 1073741824 := by
  unfold spC
  split
  · rename_i h
    simp only [Bool.and_eq_true, Bool.not_eq_true'] at h
    have := lv_two' h.1
    have h2 := h.2
    unfold noB at h2
    simp at h2
    omega
  · omega

set_option maxRecDepth 100000 in
set_option maxHeartbeats 4000000 in
theorem within_gen (x : Dl) (n d u l : Int) (w : World) (hx : x.Ok) (hn : I64 n) (hd : I64 d) (hu : I64 u) (hl : I64 l) :
    Calls Tryz.prog 29 #[.agg x.cs, .agg #[.int .i64 n, .int .i64 d], .int .i64 u, .int .i64 l] w (Made (.tuple #[.agg (wiL x n d u l).cs, .int .i64 (wiE n d u l)]) w) := by
  have SU := Lib.hid (fun W => limSplit_any u W hu)
  have SL := Lib.hid (fun W => limSplit_any l W hl)
  have bu := spC_bd u
  have bl := spC_bd l
  have SHU := Lib.hid (fun W => shift_any n d (spC u) W hn hd (by omega) (by omega))
  have SHL := Lib.hid (fun W => shift_any n d (-spC l) W hn hd (by omega) (by omega))
  have BU := Lib.hid (fun W => isbelow_any (shN n d (spC u)) (shD n d (spC u)) x.hn x.hd (spS u) W (opNum_64 _ _ _) (opDen_64 _ _ _) hx.2.2.1 hx.2.2.2)
  have hy := wuL_ok hx n d u
  have BL := Lib.hid (fun W => isbelow_any (wuL x n d u).ln (wuL x n d u).ld (shN n d (-spC l)) (shD n d (-spC l)) (spS l) W hy.1 hy.2.1 (opNum_64 _ _ _) (opDen_64 _ _ _))
  have HU := Lib.hid (show wuL x n d u = if spE u = 0 then (if x.nh || lsB (shN n d (spC u)) (shD n d (spC u)) x.hn x.hd (spS u) then { x with hn := shN n d (spC u), hd := shD n d (spC u), ho := spS u, nh := false } else x) else x from rfl)
  have HL := Lib.hid (show wlL (wuL x n d u) n d l = if spE l = 0 then (if lsB (wuL x n d u).ln (wuL x n d u).ld (shN n d (-spC l)) (shD n d (-spC l)) (spS l) then { wuL x n d u with ln := shN n d (-spC l), ld := shD n d (-spC l), lo := spS l } else wuL x n d u) else wuL x n d u from rfl)
  have HUE := Lib.hid (show wuE n d u = if spE u = 0 then shE n d (spC u) else 0 from rfl)
  have HLE := Lib.hid (show wlE n d l = if spE l = 0 then shE n d (-spC l) else 0 from rfl)
  have HIE := Lib.hid (show wiE n d u l = if wuE n d u ≠ 0 then wuE n d u else wlE n d l from rfl)
  have HIL := Lib.hid (show wiL x n d u l = if wiE n d u l = 0 then wlL (wuL x n d u) n d l else Dl.zero from rfl)
  generalize lsB (shN n d (spC u)) (shD n d (spC u)) x.hn x.hd (spS u) = su at *
  generalize lsB (wuL x n d u).ln (wuL x n d u).ld (shN n d (-spC l)) (shD n d (-spC l)) (spS l) = sl at *
  generalize wlL (wuL x n d u) n d l = z at *
  generalize wuL x n d u = y at *
  generalize wuE n d u = ue at *
  generalize wlE n d l = le at *
  generalize wiE n d u l = ie at *
  generalize wiL x n d u l = r at *
  generalize shN n d (spC u) = an at *
  generalize shD n d (spC u) = ad at *
  generalize shE n d (spC u) = ae at *
  generalize shN n d (-spC l) = bn at *
  generalize shD n d (-spC l) = bd at *
  generalize shE n d (-spC l) = be at *
  generalize spC u = uc at *
  generalize spC l = lc at *
  generalize spS u = us at *
  generalize spS l = ls at *
  generalize spE u = uq at *
  generalize spE l = lq at *
  obtain ⟨w0, hw0⟩ : ∃ w0, w0 = ((w.alloc (.cells x.cs 34)).alloc (.cells #[.int .i64 n, .int .i64 d] 32)).alloc (.cells Dl.zero.cs 34) := ⟨_, rfl⟩
  have dx : Dbx w0 w.heap.size x := by rw [hw0]; exact ((Drow.made _ _).alloc _).alloc _
  have ps : Pair w0 (w.heap.size + 1) n d := by
    rw [hw0]
    have := (Pair.made (w.alloc (.cells x.cs 34)) n d 32).alloc (.cells Dl.zero.cs 34)
    simpa using this
  have dr : Dbx w0 (w.heap.size + 1 + 1) Dl.zero := by
    rw [hw0]
    have := Drow.made ((w.alloc (.cells x.cs 34)).alloc (.cells #[.int .i64 n, .int .i64 d] 32)) Dl.zero.cs
    simpa [Dbx] using this
  have E0 := Lib.hid (show Below w.heap.size w w0 by rw [hw0]; exact past_three (Below.refl _ _))
  have z0 : w0.heap.size = w.heap.size + 3 := by rw [hw0]; simp
  have DX := Lib.hid dx
  have PS := Lib.hid ps
  have DR := Lib.hid dr
  simp only [Dl.cs, Dl.zero] at hw0
  have HW0 := Lib.hid hw0
  clear dx ps dr hw0 hn hd hu hl hx hy
  unfold Dl.cs
  go_enter Tryz.func29, Tryz.ntmps29
  go_upto_region 1 with (fail)
  rw [← HW0.out]
  go_upto_if 27 with (refine (SU.out _).mono ?_; rintro e w1 ⟨rfl, hw⟩; rw [hw]; clear hw w1)
  have HS0 := Lib.hid (show WSt w0 w.heap.size x w0 from ⟨DX.out, World.grownBy.refl _ _⟩)
  have KR := Lib.hid (show ∀ q W, WSt w0 w.heap.size q W → Dbx W (w.heap.size + 1 + 1) Dl.zero from fun q W h => DR.out.grown h.2 (by omega))
  have KP := Lib.hid (show ∀ q W, WSt w0 w.heap.size q W → Pair W (w.heap.size + 1) n d from fun q W h => PS.out.grown h.2 (by omega))
  have KE := Lib.hid (show ∀ q W, WSt w0 w.heap.size q W → Below w.heap.size w W from fun q W h => grown_over E0.out h.2 (Nat.le_refl _))
  go_cut [] (fun wx => Hid (ue = 0 ∧ WSt w0 w.heap.size y wx))
  case first =>
    by_cases hq : uq = 0
    case neg =>
      have D : (uq == 0) = false := by simpa using hq
      have HY := Lib.hid (show ue = 0 ∧ y = x by rw [HUE.out, HU.out, if_neg hq, if_neg hq]; exact ⟨rfl, rfl⟩)
      clear hq
      go_wp2_with fail
      go_meet
      case rel => exact Lib.hid ⟨HY.out.1, by rw [HY.out.2]; exact HS0.out⟩
    case pos =>
      have D : (uq == 0) = true := by simpa using hq
      have HY0 := Lib.hid (show ue = ae ∧ y = if x.nh || su then { x with hn := an, hd := ad, ho := us, nh := false } else x by rw [HUE.out, HU.out, if_pos hq, if_pos hq]; exact ⟨rfl, rfl⟩)
      clear hq
      obtain ⟨p0, p1, p2, p3⟩ := PS.out.facts
      go_wp2_with fail
      refine (SHU.out _).mono ?_
      rintro e w1 ⟨rfl, hb1⟩
      clear p0 p1 p2 p3
      obtain ⟨w2, hw2⟩ : ∃ w2, w2 = w1.alloc (.cells #[.int .i64 an, .int .i64 ad] 32) := ⟨_, rfl⟩
      have pc : Pair w2 w1.heap.size an ad := by rw [hw2]; exact Pair.made _ _ _ _
      have S2 := Lib.hid (show WSt w0 w.heap.size x w2 by rw [hw2]; exact HS0.out.on (hb1.alloc hb1.size _))
      have z1 := hb1.size
      have PC := Lib.hid pc
      have HW2 := Lib.hid hw2
      clear hb1 hw2 pc
      go_upto_region 4 with (fail)
      rw [← HW2.out]
      by_cases he : ae = 0
      case neg =>
        have DE : (ae != 0) = true := by simpa using he
        have HF := Lib.hid (show ie = ae ∧ r = Dl.zero by
          have h1 : ie = ae := by rw [HIE.out, HY0.out.1, if_pos he]
          exact ⟨h1, by rw [HIL.out, h1, if_neg he]⟩)
        clear he
        obtain ⟨r0, r1, r2, r3, r4, r5, r6⟩ := (KR.out _ _ S2.out).facts
        obtain ⟨f0, f1, f2, f3, f4, f5, f6⟩ := (KR.out _ _ S2.out).frees
        go_wp2_with fail
        rw [HF.out.1, HF.out.2]
        refine bodyPost_ret (v := .tuple #[.agg Dl.zero.cs, .int .i64 ae]) (by simp [results, Tryz.results29, go_sem, Dl.cs, Dl.zero, r0, r1, r2, r3, r4, r5, r6]) rfl ⟨rfl, ?_⟩
        exact below_seven (KE.out _ _ S2.out) (by omega) _ _ _ _ _ _ _
      case pos =>
        have HUE0 := Lib.hid (show ue = 0 by rw [HY0.out.1, he])
        have HYS := Lib.hid (show (x.nh || su) = true → y = { x with hn := an, hd := ad, ho := us, nh := false } from fun h => by rw [HY0.out.2, if_pos h])
        have HYK := Lib.hid (show (x.nh || su) = false → y = x from fun h => by rw [HY0.out.2, h]; rfl)
        subst he
        obtain ⟨q0, q1, q2, q3, q4, q5, q6⟩ := S2.out.1.facts
        obtain ⟨g0, g1, g2, g3, g4, g5, g6⟩ := S2.out.1.frees
        obtain ⟨c0, c1, c2, c3⟩ := PC.out.facts
        obtain ⟨xln, xld, xhn, xhd, xlo, xho, xnh⟩ := x
        simp only at q0 q1 q2 q3 q4 q5 q6 BU HYS HYK
        cases xnh
        case true =>
          have HZ := Lib.hid (HYS.out rfl)
          go_wp2_with fail
          go_meet
          case rel => exact Lib.hid ⟨HUE0.out, by rw [HZ.out]; exact S2.out.high an ad us⟩
        case false =>
          cases su
          case true =>
            have HZ := Lib.hid (HYS.out rfl)
            go_wp2_with fail
            refine (BU.out _).mono ?_
            rintro e w3 ⟨rfl, hb3⟩
            have S3 := Lib.hid (S2.out.on hb3)
            have PC3 := Lib.hid (PC.out.kept hb3)
            clear hb3 q0 q1 q2 q3 q4 q5 q6 g0 g1 g2 g3 g4 g5 g6 c0 c1 c2 c3
            obtain ⟨q0, q1, q2, q3, q4, q5, q6⟩ := S3.out.1.facts
            obtain ⟨g0, g1, g2, g3, g4, g5, g6⟩ := S3.out.1.frees
            obtain ⟨c0, c1, c2, c3⟩ := PC3.out.facts
            go_wp2_with fail
            go_meet
            case rel => exact Lib.hid ⟨HUE0.out, by rw [HZ.out]; exact S3.out.high an ad us⟩
          case false =>
            have HZ := Lib.hid (HYK.out rfl)
            go_wp2_with fail
            refine (BU.out _).mono ?_
            rintro e w3 ⟨rfl, hb3⟩
            have S3 := Lib.hid (S2.out.on hb3)
            clear hb3 q0 q1 q2 q3 q4 q5 q6 g0 g1 g2 g3 g4 g5 g6 c0 c1 c2 c3
            go_wp2_with fail
            go_meet
            case rel => exact Lib.hid ⟨HUE0.out, by rw [HZ.out]; exact S3.out⟩
  case rest =>
    have HU0 := Lib.hid hcut.out.1
    have S1 := Lib.hid hcut.out.2
    have HIE2 := Lib.hid (show ie = le by rw [HIE.out, HU0.out]; rfl)
    clear hcut BU
    by_cases hq : lq = 0
    case neg =>
      have D : (lq == 0) = false := by simpa using hq
      have HF := Lib.hid (show ie = 0 ∧ r = y by
        have h1 : ie = 0 := by rw [HIE2.out, HLE.out, if_neg hq]
        exact ⟨h1, by rw [HIL.out, h1, if_pos rfl, HL.out, if_neg hq]⟩)
      clear hq
      obtain ⟨q0, q1, q2, q3, q4, q5, q6⟩ := S1.out.1.facts
      obtain ⟨r0, r1, r2, r3, r4, r5, r6⟩ := (KR.out _ _ S1.out).facts
      obtain ⟨f0, f1, f2, f3, f4, f5, f6⟩ := (KR.out _ _ S1.out).frees
      go_wp2_with (refine (SL.out _).mono ?_; rintro e w1 ⟨rfl, hw⟩; rw [hw]; clear hw w1)
      rw [HF.out.1, HF.out.2]
      refine bodyPost_ret (v := .tuple #[.agg y.cs, .int .i64 0]) (by simp [results, Tryz.results29, go_sem, Dl.cs, r0, r1, r2, r3, r4, r5, r6]) rfl ⟨rfl, ?_⟩
      exact below_seven (KE.out _ _ S1.out) (by omega) _ _ _ _ _ _ _
    case pos =>
      have D : (lq == 0) = true := by simpa using hq
      have HF0 := Lib.hid (show ie = be by rw [HIE2.out, HLE.out, if_pos hq])
      have HF1 := Lib.hid (show be = 0 → r = if sl then { y with ln := bn, ld := bd, lo := ls } else y from fun h => by rw [HIL.out, HF0.out, h, if_pos rfl, HL.out, if_pos hq])
      clear hq
      obtain ⟨p0, p1, p2, p3⟩ := (KP.out _ _ S1.out).facts
      go_wp2_with (refine (SL.out _).mono ?_; rintro e w1 ⟨rfl, hw⟩; rw [hw]; clear hw w1)
      refine (SHL.out _).mono ?_
      rintro e w1 ⟨rfl, hb1⟩
      clear p0 p1 p2 p3
      obtain ⟨w2, hw2⟩ : ∃ w2, w2 = w1.alloc (.cells #[.int .i64 bn, .int .i64 bd] 32) := ⟨_, rfl⟩
      have pc : Pair w2 w1.heap.size bn bd := by rw [hw2]; exact Pair.made _ _ _ _
      have S2 := Lib.hid (show WSt w0 w.heap.size y w2 by rw [hw2]; exact S1.out.on (hb1.alloc hb1.size _))
      have PC := Lib.hid pc
      have HW2 := Lib.hid hw2
      clear hb1 hw2 pc
      go_upto_region 11 with (fail)
      rw [← HW2.out]
      by_cases he : be = 0
      case neg =>
        have DE : (be != 0) = true := by simpa using he
        have HF := Lib.hid (show r = Dl.zero by rw [HIL.out, HF0.out, if_neg he])
        clear he
        obtain ⟨r0, r1, r2, r3, r4, r5, r6⟩ := (KR.out _ _ S2.out).facts
        obtain ⟨f0, f1, f2, f3, f4, f5, f6⟩ := (KR.out _ _ S2.out).frees
        go_wp2_with fail
        rw [HF0.out, HF.out]
        refine bodyPost_ret (v := .tuple #[.agg Dl.zero.cs, .int .i64 be]) (by simp [results, Tryz.results29, go_sem, Dl.cs, Dl.zero, r0, r1, r2, r3, r4, r5, r6]) rfl ⟨rfl, ?_⟩
        exact below_seven (KE.out _ _ S2.out) (by omega) _ _ _ _ _ _ _
      case pos =>
        have HF := Lib.hid (HF1.out he)
        subst he
        obtain ⟨q0, q1, q2, q3, q4, q5, q6⟩ := S2.out.1.facts
        obtain ⟨c0, c1, c2, c3⟩ := PC.out.facts
        cases sl
        case true =>
          have HR := Lib.hid (show r = { y with ln := bn, ld := bd, lo := ls } from HF.out)
          go_wp2_with fail
          refine (BL.out _).mono ?_
          rintro e w3 ⟨rfl, hb3⟩
          have S3 := Lib.hid (S2.out.on hb3)
          have S4 := Lib.hid (S3.out.low bn bd ls)
          have PC3 := Lib.hid (PC.out.kept hb3)
          clear hb3 q0 q1 q2 q3 q4 q5 q6 c0 c1 c2 c3
          obtain ⟨g0, g1, g2, g3, g4, g5, g6⟩ := S3.out.1.frees
          obtain ⟨h0, h1, h2, h3, h4, h5, h6⟩ := S3.out.1.facts
          obtain ⟨c0, c1, c2, c3⟩ := PC3.out.facts
          go_upto_region 15 with (fail)
          obtain ⟨w4, hw4⟩ : ∃ w4, w4 = (((w3.setCell ⟨w.heap.size, 0, none⟩ (.int .i64 bn)).setCell ⟨w.heap.size, 1, none⟩ (.int .i64 bd)).setCell ⟨w.heap.size, 4, none⟩ (.bool ls)) := ⟨_, rfl⟩
          rw [← hw4] at S4
          rw [← hw4]
          clear hw4 g0 g1 g2 g3 g4 g5 g6 h0 h1 h2 h3 h4 h5 h6 c0 c1 c2 c3
          obtain ⟨q0, q1, q2, q3, q4, q5, q6⟩ := S4.out.1.facts
          obtain ⟨r0, r1, r2, r3, r4, r5, r6⟩ := (KR.out _ _ S4.out).facts
          obtain ⟨f0, f1, f2, f3, f4, f5, f6⟩ := (KR.out _ _ S4.out).frees
          go_wp2_with fail
          rw [HF0.out, HR.out]
          refine bodyPost_ret (v := .tuple #[.agg ({ y with ln := bn, ld := bd, lo := ls } : Dl).cs, .int .i64 0]) (by simp [results, Tryz.results29, go_sem, Dl.cs, r0, r1, r2, r3, r4, r5, r6]) rfl ⟨rfl, ?_⟩
          exact below_seven (KE.out _ _ S4.out) (by omega) _ _ _ _ _ _ _
        case false =>
          have HR := Lib.hid (show r = y from HF.out)
          go_wp2_with fail
          refine (BL.out _).mono ?_
          rintro e w3 ⟨rfl, hb3⟩
          have S3 := Lib.hid (S2.out.on hb3)
          clear hb3 q0 q1 q2 q3 q4 q5 q6 c0 c1 c2 c3
          obtain ⟨q0, q1, q2, q3, q4, q5, q6⟩ := S3.out.1.facts
          obtain ⟨r0, r1, r2, r3, r4, r5, r6⟩ := (KR.out _ _ S3.out).facts
          obtain ⟨f0, f1, f2, f3, f4, f5, f6⟩ := (KR.out _ _ S3.out).frees
          go_wp2_with fail
          rw [HF0.out, HR.out]
          refine bodyPost_ret (v := .tuple #[.agg y.cs, .int .i64 0]) (by simp [results, Tryz.results29, go_sem, Dl.cs, r0, r1, r2, r3, r4, r5, r6]) rfl ⟨rfl, ?_⟩
          exact below_seven (KE.out _ _ S3.out) (by omega) _ _ _ _ _ _ _
end Go.Proofs.YtbnebinpemejlaaGreat

namespace Go.Proofs.YtbnebinpemejlaaGreat
open Go.RowKit

/-- A block of cells. -/
def Bx (w : World) (b : Nat) (A : Array Value) : Prop := ∃ t, w.heap[b]? = some (.cells A t (0, 0))

theorem Bx.lt {w : World} {b : Nat} {A : Array Value} (h : Bx w b A) : b < w.heap.size := by
  obtain ⟨t, h⟩ := h
  by_cases c : b < w.heap.size
  · exact c
  · rw [Array.getElem?_eq_none (by omega)] at h; cases h

theorem Bx.kept {w w' : World} {b : Nat} {A : Array Value} (h : Bx w b A) (hb : Below w.heap.size w w') : Bx w' b A := by
  have hl := h.lt
  obtain ⟨t, h⟩ := h
  exact ⟨t, (hb.block b hl).trans h⟩

theorem Bx.made (w : World) (A : Array Value) (t : TypeId) : Bx (w.alloc (.cells A t)) w.heap.size A := ⟨t, heap_alloc_last w _⟩

theorem Bx.cell {w : World} {b : Nat} {A : Array Value} (h : Bx w b A) (k : Nat) : w.cell? ⟨b, k, none⟩ = A[k]? := by
  obtain ⟨t, h⟩ := h
  exact cell_of_row _ _ k A _ _ h

theorem Bx.aside {w : World} {b b' : Nat} {A : Array Value} (h : Bx w b A) (hne : b' ≠ b) (u v : Value) : Bx ((w.setCell ⟨b', 0, none⟩ u).setCell ⟨b', 1, none⟩ v) b A := by
  obtain ⟨t, h⟩ := h
  exact ⟨t, ((heap_setCell_other _ ⟨b', 1, none⟩ b v (fun e => hne e.symm)).trans (heap_setCell_other _ ⟨b', 0, none⟩ b u (fun e => hne e.symm))).trans h⟩

theorem Bx.grown {w w' : World} {b g : Nat} {A : Array Value} (h : Bx w b A) (hg : w.grownBy w' (some g)) (hne : b ≠ g) : Bx w' b A := by
  have hl := h.lt
  obtain ⟨t, h⟩ := h
  exact ⟨t, (hg.block b hl (by simpa using hne)).trans h⟩
end Go.Proofs.YtbnebinpemejlaaGreat
