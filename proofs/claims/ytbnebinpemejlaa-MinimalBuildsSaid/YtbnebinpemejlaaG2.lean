/- Contracts of the small functions of layer 3's reference: at, set, Dimension, and of layer 2's Sum.; Plain mathematics of bounds: where the diagonal stays, closing in place is the rule of Floyd and Warshall, and the result keeps to the inequality of triangles. Nothing of the program is named here.; The contract of closed of layer 3's reference. -/
import Derived.Test.YtbnebinpemejlaaG1
import Derived.Deep.DeepCutAuto

namespace Go.Proofs.Ytbnebinpemejlaa
open Go.RowKit

/-- A row of integers that can be read at a. -/
def Rd (w : World) (a : Addr) (l : List Int) : Prop := ∀ j, j < l.length → w.cell? (a.add j) = some (.int .i64 (Zo.gt l j))

set_option maxHeartbeats 400000 in
theorem at_any (n i j : Nat) (l : List Int) (a : Addr) (cap : Nat) (w : World) (hn : n ≤ 10) (hi : i ≤ n) (hj : j ≤ n) (hl : l.length = (n + 1) * (n + 1)) (h : Rd w a l) :
    Calls Try.prog 68 #[.agg #[.int .i64 n, .slice (some a) l.length cap], .int .i64 i, .int .i64 j] w (Made (.int .i64 (Zo.At n l i j)) w) := by
  have t1 := Zo.ix_lt hi hj
  have t2 : (i : Int) * ((n : Int) + 1) + (j : Int) < (l.length : Int) := by rw [hl]; exact_mod_cast t1
  have t3 : (i : Int) * ((n : Int) + 1) ≤ 110 ∧ 0 ≤ (i : Int) * ((n : Int) + 1) := by
    have : i * (n + 1) ≤ 10 * 11 := Nat.mul_le_mul (by omega) (by omega)
    constructor
    · exact_mod_cast this
    · exact_mod_cast Nat.zero_le _
  have hc : ∀ o : Obj, (w.alloc o).cell? (a.add (i * (n + 1) + j)) = some (.int .i64 (Zo.At n l i j)) := fun o => kept (one_more o) (h _ (by rw [hl]; exact t1))
  clear h t1 hl
  go_enter Try.func68, Try.ntmps68
  go_wp2_with fail
  go_ret
  exact ⟨rfl, one_more _⟩

/-- A row of limits of the call's own: it may be written. -/
def Own (w : World) (g cap : Nat) (l : List Int) : Prop := w.ownsRow 0 43 1 (.slice (some ⟨g, 0, none⟩) l.length cap) l.length (l.map (Value.int .i64))

theorem addr_add (g j : Nat) : (⟨g, 0, none⟩ : Addr).add j = ⟨g, j, none⟩ := by
  unfold Addr.add; split <;> simp_all

theorem Own.rd {w : World} {g cap : Nat} {l : List Int} (h : Own w g cap l) : Rd w ⟨g, 0, none⟩ l := by
  intro j hj
  have := World.ownsRow.cellAt h j (by simpa using hj)
  rw [addr_add, this]; simp [Zo.gt, hj]

theorem Own.lt {w : World} {g cap : Nat} {l : List Int} (h : Own w g cap l) : g < w.heap.size := (World.ownsRow.lt h g rfl).2

theorem Own.kept {w w' : World} {g cap : Nat} {l : List Int} {row : Option Nat} (h : Own w g cap l) (hg : w.grownBy w' row) (hne : some g ≠ row) : Own w' g cap l := World.ownsRow.kept h hg (Or.inr hne)

theorem Own.alloc {w : World} {g cap : Nat} {l : List Int} (h : Own w g cap l) (o : Obj) : Own (w.alloc o) g cap l := World.ownsRow.alloc h o

theorem Own.put {w : World} {g cap : Nat} {l : List Int} (h : Own w g cap l) (j : Nat) (x : Int) : Own (w.setCell ⟨g, j, none⟩ (.int .i64 x)) g cap (l.set j x) ∧ w.grownBy (w.setCell ⟨g, j, none⟩ (.int .i64 x)) (some g) := by
  obtain ⟨h1, h2⟩ := World.ownsRow.stored h j (.int .i64 x)
  refine ⟨?_, h2⟩
  unfold Own
  rw [List.length_set, List.map_set]
  exact h1

theorem grown_trans {w w1 w2 : World} {r : Option Nat} (h : w.grownBy w1 r) (k : w1.grownBy w2 r) : w.grownBy w2 r :=
  ⟨k.os.trans h.os, k.tape.trans h.tape, k.output.trans h.output, Nat.le_trans h.size k.size, fun b hb hne => (k.block b (Nat.lt_of_lt_of_le hb h.size) hne).trans (h.block b hb hne)⟩

set_option maxHeartbeats 400000 in
theorem set_any (n i j : Nat) (x : Int) (l : List Int) (g cap : Nat) (w : World) (hn : n ≤ 10) (hi : i ≤ n) (hj : j ≤ n) (hl : l.length = (n + 1) * (n + 1)) (h : Own w g cap l) :
    Calls Try.prog 79 #[.agg #[.int .i64 n, .slice (some ⟨g, 0, none⟩) l.length cap], .int .i64 i, .int .i64 j, .int .i64 x] w
      (fun e w' => e = .returned (.tuple #[]) ∧ w.grownBy w' (some g) ∧ Own w' g cap (l.set (Zo.ix n i j) x)) := by
  have t1 := Zo.ix_lt hi hj
  have t2 : (i : Int) * ((n : Int) + 1) + (j : Int) < (l.length : Int) := by rw [hl]; exact_mod_cast t1
  have t3 : (i : Int) * ((n : Int) + 1) ≤ 110 ∧ 0 ≤ (i : Int) * ((n : Int) + 1) := by
    have : i * (n + 1) ≤ 10 * 11 := Nat.mul_le_mul (by omega) (by omega)
    constructor
    · exact_mod_cast this
    · exact_mod_cast Nat.zero_le _
  have hc : ∀ o : Obj, (w.alloc o).cell? ⟨g, i * (n + 1) + j, none⟩ = some (.int .i64 (Zo.At n l i j)) := fun o => by
    have := kept (one_more o) (h.rd (Zo.ix n i j) (by rw [hl]; exact t1))
    rwa [addr_add] at this
  have hz : ∀ o : Obj, (w.alloc o).frozen? ⟨g, i * (n + 1) + j, none⟩ = false := fun o => World.ownsRow.frozenAt (h.alloc o) _
  have HO := Lib.hid h
  clear h t1 hl
  go_enter Try.func79, Try.ntmps79
  go_wp2_with fail
  go_end0
  exact ⟨rfl, grown_trans (World.grownBy_alloc w _ _) ((HO.out.alloc _).put _ _).2, ((HO.out.alloc _).put _ _).1⟩

theorem w64_eq (x : Int) : wrap64 x = Zo.w64 x := by unfold wrap64 Zo.w64; omega

set_option maxHeartbeats 400000 in
theorem sum2_any (a b : Int) (w : World) : Calls Try.prog 69 #[.int .i64 a, .int .i64 b] w (Still (.int .i64 (Zo.smW a b)) w) := by
  by_cases na : a = 1099511627776
  · have A0 : (a == 1099511627776) = true := by simpa using na
    have H := Lib.hid (show Zo.smW a b = 1099511627776 by unfold Zo.smW; rw [if_pos (Or.inl na)])
    clear na
    go_enter Try.func69, Try.ntmps69
    go_wp2_with fail
    go_ret
    exact ⟨ret_int H.out.symm, rfl⟩
  have A0 : (a == 1099511627776) = false := by simpa using na
  by_cases nb : b = 1099511627776
  · have B0 : (b == 1099511627776) = true := by simpa using nb
    have H := Lib.hid (show Zo.smW a b = 1099511627776 by unfold Zo.smW; rw [if_pos (Or.inr nb)])
    clear na nb
    go_enter Try.func69, Try.ntmps69
    go_wp2_with fail
    go_ret
    exact ⟨ret_int H.out.symm, rfl⟩
  have B0 : (b == 1099511627776) = false := by simpa using nb
  have h0 : ¬ (a = 1099511627776 ∨ b = 1099511627776) := by omega
  have odd : ∀ x : Int, ¬ x % 2 = 0 → (x.tmod 2 != 0) = true := by
    intro x hx
    have := Int.mul_tdiv_add_tmod x 2
    simp; omega
  have ev : ∀ x : Int, x % 2 = 0 → (x.tmod 2 != 0) = false := by
    intro x hx
    obtain ⟨k, rfl⟩ : ∃ k, x = 2 * k := ⟨x / 2, by omega⟩
    rw [Int.mul_tmod_right]; rfl
  by_cases ea : a % 2 = 0
  · have MA := ev a ea
    by_cases eb : b % 2 = 0
    · have MB := ev b eb
      have H := Lib.hid (show Zo.smW a b = Zo.w64 (a + b) by unfold Zo.smW; rw [if_neg h0, if_pos ⟨ea, eb⟩])
      clear na nb ea eb odd ev h0
      go_enter Try.func69, Try.ntmps69
      go_wp2_with fail
      go_ret
      exact ⟨ret_int (by rw [H.out, ← w64_eq]), rfl⟩
    · have MB := odd b eb
      have H := Lib.hid (show Zo.smW a b = Zo.w64 (Zo.w64 (a + b) - 1) by unfold Zo.smW; rw [if_neg h0, if_neg (by omega)])
      clear na nb ea eb odd ev h0
      go_enter Try.func69, Try.ntmps69
      go_wp2_with fail
      go_ret
      exact ⟨ret_int (by rw [H.out, ← w64_eq, ← w64_eq]), rfl⟩
  · have MA := odd a ea
    have H := Lib.hid (show Zo.smW a b = Zo.w64 (Zo.w64 (a + b) - 1) by unfold Zo.smW; rw [if_neg h0, if_neg (by omega)])
    clear na nb ea odd ev h0
    go_enter Try.func69, Try.ntmps69
    go_wp2_with fail
    go_ret
    exact ⟨ret_int (by rw [H.out, ← w64_eq, ← w64_eq]), rfl⟩

def dimB (n : Int) : Bool := decide (0 ≤ n ∧ n ≤ 10)

set_option maxHeartbeats 400000 in
theorem dimension_any (n : Int) (w : World) : Calls Try.prog 63 #[.int .i64 n] w (Still (.bool (dimB n)) w) := by
  by_cases h : 0 ≤ n
  · by_cases g : n ≤ 10
    · have H := Lib.hid (show dimB n = true by unfold dimB; simp; omega)
      go_enter Try.func63, Try.ntmps63
      go_wp2_with fail
      go_ret
      exact ⟨ret_bool H.out.symm, rfl⟩
    · have H := Lib.hid (show dimB n = false by unfold dimB; simp; omega)
      have D : decide (n ≤ (10 : Int)) = false := by simp; omega
      go_enter Try.func63, Try.ntmps63
      go_wp2_with fail
      go_ret
      exact ⟨ret_bool H.out.symm, rfl⟩
  · have H := Lib.hid (show dimB n = false by unfold dimB; simp; omega)
    have D : decide ((0 : Int) ≤ n) = false := by simp; omega
    go_enter Try.func63, Try.ntmps63
    go_wp2_with fail
    go_ret
    exact ⟨ret_bool H.out.symm, rfl⟩
end Go.Proofs.Ytbnebinpemejlaa

namespace Go.Proofs.Ytbnebinpemejlaa.Zo

def enc : Lm → Int
  | none => 1099511627776
  | some x => x

def dec (x : Int) : Lm := if x = 1099511627776 then none else some x

theorem enc_dec (x : Int) : enc (dec x) = x := by unfold dec; split <;> simp_all [enc]

def Bd (D : Nat → Nat → Lm) : Prop := ∀ i j x, D i j = some x → -1125899906842624 ≤ x ∧ x ≤ 274877906944

theorem enc_step {a b c : Lm} (ha : ∀ x, a = some x → x ≤ 274877906944) (hb : ∀ x, b = some x → -1125899906842624 ≤ x ∧ x ≤ 274877906944) (hc : ∀ x, c = some x → -1125899906842624 ≤ x ∧ x ≤ 274877906944) :
    min (enc a) (smW (enc b) (enc c)) = enc (mn a (add b c)) := by
  cases b with
  | none =>
    cases a with
    | none => simp [enc, smW, mn, add]
    | some x => have := ha x rfl; simp [enc, smW, mn, add]; omega
  | some y =>
    have y1 := hb y rfl
    cases c with
    | none =>
      cases a with
      | none => simp [enc, smW, mn, add]
      | some x => have := ha x rfl; simp [enc, smW, mn, add]; omega
    | some z =>
      have z1 := hc z rfl
      have e : smW y z = ps y z := by
        unfold smW ps
        rw [if_neg (by omega)]
        split
        · exact w64_in (by omega) (by omega)
        · rw [w64_in (x := y + z) (by omega) (by omega)]; exact w64_in (by omega) (by omega)
      have p : ps y z ≤ 549755813888 := by unfold ps; split <;> omega
      cases a with
      | none => simp [enc, mn, add, e]; omega
      | some x => simp [enc, mn, add, e]

/-- The list holds the matrix. -/
def Rep (n : Nat) (l : List Int) (D : Nat → Nat → Lm) : Prop := l.length = (n + 1) * (n + 1) ∧ ∀ a b, a ≤ n → b ≤ n → At n l a b = enc (D a b)

def Mix (n k : Nat) (D : Nat → Nat → Lm) (i j : Nat) (l : List Int) : Prop :=
  l.length = (n + 1) * (n + 1) ∧ ∀ a b, a ≤ n → b ≤ n → At n l a b = enc (if a < i ∨ (a = i ∧ b < j) then stp k D a b else D a b)

theorem mix_step {n k : Nat} {D : Nat → Nat → Lm} (hB : Bd D) (hk : D k k = some 1) (hkn : k ≤ n) {i j : Nat} (hi : i ≤ n) (hj : j ≤ n) {l : List Int} (h : Mix n k D i j l) : Mix n k D i (j + 1) (rlx n k i l j) := by
  refine ⟨by simpa [rlx] using h.1, fun a b ha hb => ?_⟩
  unfold rlx
  rw [At_set h.1 hi hj _ hb]
  by_cases e : a = i ∧ b = j
  · obtain ⟨rfl, rfl⟩ := e
    rw [if_pos ⟨rfl, rfl⟩, if_pos (Or.inr ⟨rfl, by omega⟩)]
    have e1 : At n l a b = enc (D a b) := by rw [h.2 a b ha hb, if_neg (by omega)]
    have e2 : At n l a k = enc (D a k) := by
      rw [h.2 a k ha hkn]; split
      · rw [stp_col hk]
      · rfl
    have e3 : At n l k b = enc (D k b) := by
      rw [h.2 k b hkn hb]; split
      · rw [stp_row hk]
      · rfl
    rw [e1, e2, e3]
    exact enc_step (fun x hx => (hB _ _ x hx).2) (fun x hx => hB _ _ x hx) (fun x hx => hB _ _ x hx)
  · rw [if_neg e, h.2 a b ha hb]
    by_cases c : a < i ∨ (a = i ∧ b < j)
    · rw [if_pos c, if_pos (by omega)]
    · rw [if_neg c, if_neg (by omega)]

theorem mix_row {n k : Nat} {D : Nat → Nat → Lm} {i : Nat} {l : List Int} (h : Mix n k D i (n + 1) l) : Mix n k D (i + 1) 0 l := by
  refine ⟨h.1, fun a b ha hb => ?_⟩
  rw [h.2 a b ha hb]
  by_cases c : a < i ∨ (a = i ∧ b < n + 1)
  · rw [if_pos c, if_pos (by omega)]
  · rw [if_neg c, if_neg (by omega)]

theorem fold_goes {α : Type} {f : α → Nat → α} {R : Nat → α → Prop} (N : Nat) (h : ∀ a t, t < N → R t a → R (t + 1) (f a t)) (a : α) (ha : R 0 a) : ∀ t, t ≤ N → R t ((List.range t).foldl f a) := by
  intro t
  induction t with
  | zero => intro _; exact ha
  | succ t ih => intro ht; rw [fold_succ]; exact h _ _ (by omega) (ih (by omega))

theorem round_rep {n k : Nat} {D : Nat → Nat → Lm} {l : List Int} (hB : Bd D) (hk : D k k = some 1) (hkn : k ≤ n) (h : Rep n l D) : Rep n (rlxI n l k) (stp k D) := by
  have h0 : Mix n k D 0 0 l := ⟨h.1, fun a b ha hb => by rw [if_neg (by omega)]; exact h.2 a b ha hb⟩
  have h1 : Mix n k D (n + 1) 0 (rlxI n l k) := by
    unfold rlxI
    refine fold_goes (R := fun t l => Mix n k D t 0 l) (n + 1) (fun a i hi ha => ?_) l h0 _ (Nat.le_refl _)
    refine mix_row ?_
    unfold rlxJ
    exact fold_goes (R := fun t l => Mix n k D i t l) (n + 1) (fun a j hj ha => mix_step hB hk hkn (by omega) (by omega) ha) a ha _ (Nat.le_refl _)
  refine ⟨h1.1, fun a b ha hb => ?_⟩
  rw [h1.2 a b ha hb, if_pos (by omega)]

/-- Rounds, one behind the other. -/
def rnd (n : Nat) (l : List Int) (t : Nat) : List Int := (List.range t).foldl (rlxI n) (pre n l)

theorem rlxI_keeps {n k : Nat} {R : List Int → Prop} (h : ∀ l i j, i ≤ n → j ≤ n → R l → R (rlx n k i l j)) {l : List Int} (hl : R l) : R (rlxI n l k) := by
  unfold rlxI
  refine fold_keeps (n + 1) (fun a i hi ha => ?_) _ hl _ (Nat.le_refl _)
  exact fold_keeps (n + 1) (fun a j hj ha => h a i j (by omega) (by omega) ha) _ ha _ (Nat.le_refl _)

theorem pre_keeps {n : Nat} {R : List Int → Prop} (h1 : ∀ l i j, (i = 0 ∨ i = j) → i ≤ n → j ≤ n → R l → R (l.set (ix n i j) (min (At n l i j) 1))) {l : List Int} (h : R l) : R (pre n l) := by
  unfold pre
  refine fold_keeps (n + 1) (fun a j hj ha => ?_) l h _ (Nat.le_refl _)
  unfold st1
  exact h1 _ j j (Or.inr rfl) (by omega) (by omega) (h1 a 0 j (Or.inl rfl) (by omega) (by omega) ha)

theorem rnd_length {n : Nat} {l : List Int} (hl : l.length = (n + 1) * (n + 1)) : ∀ t, t ≤ n + 1 → (rnd n l t).length = (n + 1) * (n + 1) := by
  refine fun t ht => fold_keeps (R := fun x : List Int => x.length = (n + 1) * (n + 1)) (n + 1) (fun a k hk ha => ?_) _ ?_ t ht
  · exact rlxI_keeps (R := fun x : List Int => x.length = (n + 1) * (n + 1)) (fun l i j _ _ h => by simpa [rlx] using h) ha
  · exact pre_keeps (R := fun x : List Int => x.length = (n + 1) * (n + 1)) (fun l i j _ _ _ h => by simpa using h) hl

theorem rnd_succ (n : Nat) (l : List Int) (t : Nat) : rnd n l (t + 1) = rlxI n (rnd n l t) t := fold_succ _ _ _

theorem rnd_le {n : Nat} {l : List Int} (hl : l.length = (n + 1) * (n + 1)) (t : Nat) : ∀ s, t + s ≤ n + 1 → ∀ a b, a ≤ n → b ≤ n → At n (rnd n l (t + s)) a b ≤ At n (rnd n l t) a b := by
  intro s
  induction s with
  | zero => intro _ a b _ _; exact Int.le_refl _
  | succ s ih =>
    intro hs a b ha hb
    refine Int.le_trans ?_ (ih (by omega) a b ha hb)
    rw [show t + (s + 1) = (t + s) + 1 by omega, rnd_succ]
    have h0 := rnd_length hl (t + s) (by omega)
    generalize rnd n l (t + s) = x at h0 ⊢
    exact (rlxI_keeps (R := fun y : List Int => y.length = (n + 1) * (n + 1) ∧ At n y a b ≤ At n x a b)
      (fun y i j hi hj hy => ⟨by simpa [rlx] using hy.1, Int.le_trans (set_le hy.1 hi hj _ hb) hy.2⟩) ⟨h0, Int.le_refl _⟩).2

/-- Behind the first step the diagonal and the first row are at most 'at most 0'. -/
theorem pre_low {n : Nat} {l : List Int} (hl : l.length = (n + 1) * (n + 1)) : ∀ j, j ≤ n → At n (pre n l) j j ≤ 1 ∧ At n (pre n l) 0 j ≤ 1 := by
  have h : ∀ t, t ≤ n + 1 → ((List.range t).foldl (st1 n) l).length = (n + 1) * (n + 1) ∧ ∀ j, j < t → At n ((List.range t).foldl (st1 n) l) j j ≤ 1 ∧ At n ((List.range t).foldl (st1 n) l) 0 j ≤ 1 := by
    refine fold_goes (R := fun t (x : List Int) => x.length = (n + 1) * (n + 1) ∧ ∀ j, j < t → At n x j j ≤ 1 ∧ At n x 0 j ≤ 1) (n + 1) (fun x t ht hx => ?_) l ⟨hl, fun j hj => by omega⟩
    have l1 : (x.set (ix n 0 t) (min (At n x 0 t) 1)).length = (n + 1) * (n + 1) := by simpa using hx.1
    refine ⟨by simpa [st1] using hx.1, fun j hj => ?_⟩
    have s1 : ∀ a b, b ≤ n → At n (st1 n x t) a b ≤ At n (x.set (ix n 0 t) (min (At n x 0 t) 1)) a b := fun a b hb => set_le l1 (by omega) (by omega) 1 hb
    have s2 : ∀ a b, b ≤ n → At n (x.set (ix n 0 t) (min (At n x 0 t) 1)) a b ≤ At n x a b := fun a b hb => set_le hx.1 (by omega) (by omega) 1 hb
    by_cases e : j = t
    · subst e
      constructor
      · show At n (List.set _ (ix n j j) _) j j ≤ 1
        rw [At_set l1 (by omega) (by omega) _ (by omega), if_pos ⟨rfl, rfl⟩]
        exact Int.min_le_right _ _
      · refine Int.le_trans (s1 0 j (by omega)) ?_
        rw [At_set hx.1 (by omega) (by omega) _ (by omega), if_pos ⟨rfl, rfl⟩]
        exact Int.min_le_right _ _
    · obtain ⟨h1, h2⟩ := hx.2 j (by omega)
      exact ⟨Int.le_trans (s1 j j (by omega)) (Int.le_trans (s2 j j (by omega)) h1), Int.le_trans (s1 0 j (by omega)) (Int.le_trans (s2 0 j (by omega)) h2)⟩
  intro j hj
  exact (h (n + 1) (Nat.le_refl _)).2 j (by omega)

/-- A valid limit. -/
def Vl (x : Int) : Prop := x = 1099511627776 ∨ (-2147483648 ≤ x ∧ x ≤ 2147483649)

theorem pre_valid {n : Nat} {l : List Int} (hl : l.length = (n + 1) * (n + 1)) (hv : ∀ a b, a ≤ n → b ≤ n → Vl (At n l a b)) : ∀ a b, a ≤ n → b ≤ n → Vl (At n (pre n l) a b) := by
  refine (pre_keeps (R := fun x : List Int => x.length = (n + 1) * (n + 1) ∧ ∀ a b, a ≤ n → b ≤ n → Vl (At n x a b)) (fun x i j _ hi hj hx => ⟨by simpa using hx.1, fun a b ha hb => ?_⟩) ⟨hl, hv⟩).2
  rw [At_set hx.1 hi hj _ hb]
  split
  · have := hx.2 i j hi hj
    unfold Vl at this ⊢
    omega
  · exact hx.2 a b ha hb

/-- The matrix of limits that the rounds begin with. -/
def mat (n : Nat) (l : List Int) : Nat → Nat → Lm := fun i j => if i ≤ n ∧ j ≤ n then dec (At n (pre n l) i j) else none

theorem clo_rep {n : Nat} {l : List Int} (hn : n ≤ 10) (hl : l.length = (n + 1) * (n + 1)) (hv : ∀ a b, a ≤ n → b ≤ n → Vl (At n l a b)) (hd : ∀ i, i ≤ n → 1 ≤ At n (clo n l) i i) :
    ∀ t, t ≤ n + 1 → Rep n (rnd n l t) (fw (mat n l) t) ∧ ∀ k, k < t → fw (mat n l) k k k = some 1 := by
  have pv := pre_valid hl hv
  have hm : ∀ i j x, mat n l i j = some x → x ≤ 2147483649 ∧ -2147483649 + 1 ≤ x := by
    intro i j x h
    unfold mat at h
    split at h
    · rename_i c
      have := pv i j c.1 c.2
      unfold dec at h
      unfold Vl at this
      split at h
      · simp at h
      · simp at h; omega
    · simp at h
  have dg : ∀ t, t ≤ n + 1 → ∀ i, i ≤ n → At n (rnd n l t) i i = 1 := by
    intro t ht i hi
    have h1 := rnd_le hl t (n + 1 - t) (by omega) i i hi hi
    rw [show t + (n + 1 - t) = n + 1 by omega] at h1
    have h2 := rnd_le hl 0 t (by omega) i i hi hi
    have h3 := (pre_low hl i hi).1
    have h4 := hd i hi
    have e : rnd n l (n + 1) = clo n l := rfl
    have e0 : rnd n l 0 = pre n l := rfl
    rw [e] at h1
    rw [e0, Nat.zero_add] at h2
    omega
  intro t
  induction t with
  | zero =>
    intro _
    refine ⟨⟨rnd_length hl 0 (by omega), fun a b ha hb => ?_⟩, fun k hk => by omega⟩
    show At n (pre n l) a b = enc (mat n l a b)
    unfold mat
    rw [if_pos ⟨ha, hb⟩, enc_dec]
  | succ t ih =>
    intro ht
    obtain ⟨hr, hdg⟩ := ih (by omega)
    have htt : fw (mat n l) t t t = some 1 := by
      have h1 := hr.2 t t (by omega) (by omega)
      rw [dg t (by omega) t (by omega)] at h1
      cases e : fw (mat n l) t t t with
      | none => rw [e] at h1; simp [enc] at h1
      | some x => rw [e] at h1; simp [enc] at h1; rw [h1]
    have all : ∀ k, k < t + 1 → fw (mat n l) k k k = some 1 := by
      intro k hk
      by_cases e : k = t
      · rw [e]; exact htt
      · exact hdg k (by omega)
    have hB : Bd (fw (mat n l) t) := by
      intro i j x h
      constructor
      · have := fw_low (c := 2147483649) (by omega) (fun i j x h => (hm i j x h).2) t i j x h
        have p : (2 : Int) ^ t ≤ 2 ^ 11 := by
          have : (2 : Nat) ^ t ≤ 2 ^ 11 := Nat.pow_le_pow_right (by omega) (by omega)
          exact_mod_cast this
        omega
      · obtain ⟨S, _, hx⟩ := fw_bound (U := 2147483649) (fun i j x h => (hm i j x h).1) t hdg i j x h
        have := cnt_le S t
        omega
    refine ⟨?_, all⟩
    rw [rnd_succ]
    exact round_rep hB htt (by omega) hr

/-- Where the diagonal stays, what is closed keeps to the inequality of triangles. -/
theorem clo_tri {n : Nat} {l : List Int} (hn : n ≤ 10) (hl : l.length = (n + 1) * (n + 1)) (hv : ∀ a b, a ≤ n → b ≤ n → Vl (At n l a b)) (hd : ∀ i, i ≤ n → 1 ≤ At n (clo n l) i i) :
    Rep n (clo n l) (fw (mat n l) (n + 1)) ∧ Tri (n + 1) (fw (mat n l) (n + 1)) := by
  obtain ⟨hr, hdg⟩ := clo_rep hn hl hv hd (n + 1) (Nat.le_refl _)
  exact ⟨hr, tri_fw (n + 1) hdg⟩
end Go.Proofs.Ytbnebinpemejlaa.Zo

namespace Go.Proofs.Ytbnebinpemejlaa
open Go.RowKit

/-- The row at g has become l; else nothing from before has turned. -/
def St (w0 : World) (g cap : Nat) (l : List Int) (w : World) : Prop := Own w g cap l ∧ w0.grownBy w (some g)

theorem St.drew {w0 w : World} {g cap : Nat} {l : List Int} (h : St w0 g cap l w) : St w0 g cap l w.drew :=
  ⟨h.1.kept (row := none) ⟨rfl, rfl, rfl, Nat.le_refl _, fun _ _ _ => rfl⟩ (by simp), grown_trans h.2 ⟨rfl, rfl, rfl, Nat.le_refl _, fun _ _ _ => rfl⟩⟩

theorem St.cell {w0 w : World} {g cap : Nat} {l : List Int} (h : St w0 g cap l w) {p : Addr} {v : Value} (hc : w0.cell? p = some v) (hne : p.block ≠ g) : w.cell? p = some v := h.2.cell hc (by simpa using hne)

theorem St.frozen {w0 w : World} {g cap : Nat} {l : List Int} (h : St w0 g cap l w) {p : Addr} (hl : p.block < w0.heap.size) (hne : p.block ≠ g) : w.frozen? p = w0.frozen? p := World.frozen?_of_block (h.2.block _ hl (by simpa using hne))

theorem St.alloc {w0 w : World} {g cap : Nat} {l : List Int} (h : St w0 g cap l w) (o : Obj) : St w0 g cap l (w.alloc o) := ⟨h.1.alloc o, grown_trans h.2 (World.grownBy_alloc w o _)⟩

theorem at_st {w0 : World} {g cap n i j : Nat} {l : List Int} {w : World} (hn : n ≤ 10) (hi : i ≤ n) (hj : j ≤ n) (hl : l.length = (n + 1) * (n + 1)) (h : St w0 g cap l w) :
    Calls Try.prog 68 #[.agg #[.int .i64 n, .slice (some ⟨g, 0, none⟩) l.length cap], .int .i64 i, .int .i64 j] w
      (fun e w' => e = .returned (.int .i64 (Zo.At n l i j)) ∧ St w0 g cap l w') := by
  refine (at_any n i j l ⟨g, 0, none⟩ cap w hn hi hj hl h.1.rd).mono ?_
  rintro e w' ⟨rfl, hb⟩
  have hg : w.grownBy w' none := ⟨hb.os, hb.tape, hb.output, hb.size, fun k hk _ => hb.block k hk⟩
  exact ⟨rfl, h.1.kept hg (by simp), grown_trans h.2 ⟨hg.os, hg.tape, hg.output, hg.size, fun k hk _ => hg.block k hk (by simp)⟩⟩

theorem set_st {w0 : World} {g cap n i j : Nat} {l : List Int} {w : World} (x : Int) (hn : n ≤ 10) (hi : i ≤ n) (hj : j ≤ n) (hl : l.length = (n + 1) * (n + 1)) (h : St w0 g cap l w) :
    Calls Try.prog 79 #[.agg #[.int .i64 n, .slice (some ⟨g, 0, none⟩) l.length cap], .int .i64 i, .int .i64 j, .int .i64 x] w
      (fun e w' => e = .returned (.tuple #[]) ∧ St w0 g cap (l.set (Zo.ix n i j) x) w') := by
  refine (set_any n i j x l g cap w hn hi hj hl h.1).mono ?_
  rintro e w' ⟨rfl, hg, hO⟩
  exact ⟨rfl, hO, grown_trans h.2 hg⟩

theorem sum_st {w0 : World} {g cap : Nat} {l : List Int} {w : World} (a b : Int) (h : St w0 g cap l w) :
    Calls Try.prog 69 #[.int .i64 a, .int .i64 b] w (fun e w' => e = .returned (.int .i64 (Zo.smW a b)) ∧ St w0 g cap l w') := by
  refine (sum2_any a b w).mono ?_
  rintro e w' ⟨rfl, rfl⟩
  exact ⟨rfl, h⟩

/-- 'min' of two limits, as a word that the walk doesn't part. -/
def imin (x y : Int) : Int := min x y

theorem run_imin (x y : Int) (ts : Array TypeId) (t : TypeId) (W : World) : (Builtin.min_ ts t #[.int .i64 x, .int .i64 y]).run Try.prog W = .ok (.int .i64 (imin x y)) W := by
  rw [run_min_int2]; unfold imin
  congr 2
  split
  · rw [Int.min_eq_right (by omega)]
  · rw [Int.min_eq_left (by omega)]

/-- What closed tells: an empty set, an element out of range, or neither. -/
def cloB (n : Nat) (l : List Int) : Bool := (List.range (n + 1)).any fun i => decide (Zo.At n (Zo.clo n l) i i < 1)

def cloE (n : Nat) (l : List Int) : Int := if cloB n l then 4 else if (Zo.clo n l).all lvB then 0 else 7

/-- A zone, or with an error the zero one. -/
def zres (e : Int) (n g len cap : Nat) : Value := if e = 0 then .agg #[.int .i64 n, .slice (some ⟨g, 0, none⟩) len cap] else .agg #[.int .i64 0, .slice none 0 0]

theorem cloE_four {n : Nat} {l : List Int} {i : Nat} (hi : i ≤ n) (h : Zo.At n (Zo.clo n l) i i < 1) (g len cap : Nat) : cloE n l = 4 ∧ zres (cloE n l) n g len cap = .agg #[.int .i64 0, .slice none 0 0] := by
  have : cloB n l = true := by unfold cloB; rw [List.any_eq_true]; exact ⟨i, by simp; omega, by simpa using h⟩
  have e : cloE n l = 4 := by unfold cloE; rw [this]; rfl
  exact ⟨e, by rw [e]; rfl⟩

theorem cloB_no {n : Nat} {l : List Int} (h : ∀ i, i < n + 1 → ¬ Zo.At n (Zo.clo n l) i i < 1) : cloB n l = false := by
  unfold cloB; rw [List.any_eq_false]; intro i hi; simp at hi; simpa using h i hi

theorem cloE_seven {n : Nat} {l : List Int} (h : cloB n l = false) {i : Nat} (hi : i < (Zo.clo n l).length) (hv : lvB (Zo.gt (Zo.clo n l) i) = false) (g len cap : Nat) : cloE n l = 7 ∧ zres (cloE n l) n g len cap = .agg #[.int .i64 0, .slice none 0 0] := by
  have : (Zo.clo n l).all lvB = false := by
    rw [List.all_eq_false]
    refine ⟨(Zo.clo n l)[i], List.getElem_mem hi, ?_⟩
    rw [show (Zo.clo n l)[i] = Zo.gt (Zo.clo n l) i by simp [Zo.gt, hi], hv]; simp
  have e : cloE n l = 7 := by unfold cloE; rw [h, this]; rfl
  exact ⟨e, by rw [e]; rfl⟩

theorem cloE_ok {n : Nat} {l : List Int} (h : cloB n l = false) (hv : ∀ i, i < (Zo.clo n l).length → lvB (Zo.gt (Zo.clo n l) i) = true) (g len cap : Nat) : cloE n l = 0 ∧ zres (cloE n l) n g len cap = .agg #[.int .i64 n, .slice (some ⟨g, 0, none⟩) len cap] := by
  have : (Zo.clo n l).all lvB = true := by
    rw [List.all_eq_true]
    intro x hx
    obtain ⟨i, hi, rfl⟩ := List.getElem_of_mem hx
    have := hv i hi
    simpa [Zo.gt, hi] using this
  have e : cloE n l = 0 := by unfold cloE; rw [h, this]; rfl
  exact ⟨e, by rw [e]; rfl⟩

theorem ret_z {a b : Value} {c d : Int} (h : a = b) (g : c = d) : Ending.returned (.tuple #[a, .int .i64 c]) = .returned (.tuple #[b, .int .i64 d]) := by rw [h, g]

theorem put_aside {w w0 w' : World} {g cap b : Nat} {l : List Int} {u v : Value} (hb : b ≠ g) (hgr : w.grownBy w0 (some g)) (hlt : w.heap.size ≤ b) (h : St w0 g cap l w') :
    Own ((w'.setCell ⟨b, 0, none⟩ u).setCell ⟨b, 1, none⟩ v) g cap l ∧ w.grownBy ((w'.setCell ⟨b, 0, none⟩ u).setCell ⟨b, 1, none⟩ v) (some g) := by
  have e1 : w'.grownBy (w'.setCell ⟨b, 0, none⟩ u) (some b) := ⟨rfl, rfl, rfl, by simp, fun k _ hk => heap_setCell_other w' ⟨b, 0, none⟩ k u (fun e => hk (by simp [e]))⟩
  have e2 : (w'.setCell ⟨b, 0, none⟩ u).grownBy ((w'.setCell ⟨b, 0, none⟩ u).setCell ⟨b, 1, none⟩ v) (some b) := ⟨rfl, rfl, rfl, by simp, fun k _ hk => heap_setCell_other _ ⟨b, 1, none⟩ k v (fun e => hk (by simp [e]))⟩
  have e3 := grown_trans e1 e2
  have e4 := grown_trans hgr h.2
  refine ⟨h.1.kept e3 (by simp; omega), e3.os.trans e4.os, e3.tape.trans e4.tape, e3.output.trans e4.output, Nat.le_trans e4.size e3.size, fun k hk hne => ?_⟩
  exact (e3.block k (Nat.lt_of_lt_of_le hk e4.size) (by simp; omega)).trans (e4.block k hk hne)

set_option maxHeartbeats 4000000 in
theorem closed_any (n : Nat) (l : List Int) (g cap : Nat) (w : World) (hn : n ≤ 10) (hl : l.length = (n + 1) * (n + 1)) (hO : Own w g cap l) :
    Calls Try.prog 65 #[.agg #[.int .i64 n, .slice (some ⟨g, 0, none⟩) l.length cap]] w (fun e w' => e = .returned (.tuple #[zres (cloE n l) n g l.length cap, .int .i64 (cloE n l)]) ∧ Own w' g cap (Zo.clo n l) ∧ w.grownBy w' (some g)) := by
  have hg := hO.lt
  obtain ⟨len, hlen⟩ : ∃ len, len = l.length := ⟨_, rfl⟩
  obtain ⟨w0, hw0⟩ : ∃ w0, w0 = (w.alloc (.cells #[.int .i64 n, .slice (some ⟨g, 0, none⟩) len cap] 25)).alloc (.cells #[.int .i64 0, .slice none 0 0] 25) := ⟨_, rfl⟩
  have b0 : w0.cell? ⟨w.heap.size, 0, none⟩ = some (.int .i64 n) := by rw [hw0]; go_simp
  have b1 : w0.cell? ⟨w.heap.size, 1, none⟩ = some (.slice (some ⟨g, 0, none⟩) len cap) := by rw [hw0]; go_simp
  have r0 : w0.cell? ⟨w.heap.size + 1, 0, none⟩ = some (.int .i64 0) := by rw [hw0]; go_simp
  have r1 : w0.cell? ⟨w.heap.size + 1, 1, none⟩ = some (.slice none 0 0) := by rw [hw0]; go_simp
  have f0 : w0.frozen? ⟨w.heap.size + 1, 0, none⟩ = false := by rw [hw0]; go_simp
  have f1 : w0.frozen? ⟨w.heap.size + 1, 1, none⟩ = false := by rw [hw0]; go_simp
  have z0 : w0.heap.size = w.heap.size + 2 := by rw [hw0]; simp
  have s0 : St w0 g cap l w0 := by rw [hw0]; exact ⟨(hO.alloc _).alloc _, World.grownBy.refl _ _⟩
  have hgr : w.grownBy w0 (some g) := by rw [hw0]; exact grown_trans (World.grownBy_alloc _ _ _) (World.grownBy_alloc _ _ _)
  have KS := Lib.hid (show ∀ (y : List Int) (w' : World), St w0 g cap y w' → w'.cell? ⟨w.heap.size, 0, none⟩ = some (.int .i64 n) ∧ w'.cell? ⟨w.heap.size, 1, none⟩ = some (.slice (some ⟨g, 0, none⟩) len cap) from
    fun y w' h => ⟨h.cell b0 (by simp; omega), h.cell b1 (by simp; omega)⟩)
  have KR := Lib.hid (show ∀ (y : List Int) (w' : World), St w0 g cap y w' → (w'.cell? ⟨w.heap.size + 1, 0, none⟩ = some (.int .i64 0) ∧ w'.cell? ⟨w.heap.size + 1, 1, none⟩ = some (.slice none 0 0)) ∧ (w'.frozen? ⟨w.heap.size + 1, 0, none⟩ = false ∧ w'.frozen? ⟨w.heap.size + 1, 1, none⟩ = false) from
    fun y w' h => ⟨⟨h.cell r0 (by simp; omega), h.cell r1 (by simp; omega)⟩, (h.frozen (by simp; omega) (by simp; omega)).trans f0, (h.frozen (by simp; omega) (by simp; omega)).trans f1⟩)
  have KE := Lib.hid (show ∀ (y : List Int) (w' : World) (u v : Value), St w0 g cap y w' → Own ((w'.setCell ⟨w.heap.size + 1, 0, none⟩ u).setCell ⟨w.heap.size + 1, 1, none⟩ v) g cap y ∧ w.grownBy ((w'.setCell ⟨w.heap.size + 1, 0, none⟩ u).setCell ⟨w.heap.size + 1, 1, none⟩ v) (some g) from
    fun y w' u v h => put_aside (by omega) hgr (by omega) h)
  have HO := Lib.hid hO
  have HS := Lib.hid s0
  have HL := Lib.hid hl
  have HLn := Lib.hid hlen
  rw [← hlen]
  clear hO s0 hl hlen b0 b1 r0 r1 f0 f1 hgr
  go_enter Try.func65, Try.ntmps65
  go_wp2_with fail
  rw [← hw0]
  go_loopw [4] (fun s wr => ∃ (t : Nat) (x : List Int), t ≤ n + 1 ∧ s = .int .i64 t ∧ x.length = len ∧ Hid (x = (List.range t).foldl (Zo.st1 n) l) ∧ Hid (St w0 g cap x wr)) (fun s _ => n + 1 - (intOf s).toNat)
  case atStart => exact ⟨0, l, by omega, rfl, HLn.out.symm, Lib.hid rfl, HS⟩
  case round =>
    obtain ⟨t, x, ht, rfl, hx_x, HX, HT⟩ := hrel
    obtain ⟨c0, c1⟩ := KS.out _ _ HT.out
    by_cases htn : t ≤ n
    · have l_x : x.length = (n + 1) * (n + 1) := by rw [hx_x, HLn.out, HL.out]
      have AT_x : Hid (∀ w' : World, St w0 g cap x w' → Calls Try.prog 68 #[.agg #[.int .i64 n, .slice (some ⟨g, 0, none⟩) len cap], .int .i64 0, .int .i64 t] w' (fun e w' => e = .returned (.int .i64 (Zo.At n x 0 t)) ∧ St w0 g cap x w')) :=
        Lib.hid fun w' h => by have := at_st (i := 0) (j := t) hn (by omega) htn l_x h; rw [hx_x] at this; exact this
      have SE_x : Hid (∀ (val : Int) (w' : World), St w0 g cap x w' → Calls Try.prog 79 #[.agg #[.int .i64 n, .slice (some ⟨g, 0, none⟩) len cap], .int .i64 0, .int .i64 t, .int .i64 val] w' (fun e w' => e = .returned (.tuple #[]) ∧ St w0 g cap (x.set (Zo.ix n 0 t) val) w')) :=
        Lib.hid fun val w' h => by have := set_st (i := 0) (j := t) val hn (by omega) htn l_x h; rw [hx_x] at this; exact this
      have hm := run_imin (Zo.At n x 0 t) 1
      go_wp2_with fail
      have s1 := HT.out.drew
      go_region_held3 (fun w' => w'.cell? ⟨w.heap.size, 0, none⟩ = some (.int .i64 n) ∧ w'.cell? ⟨w.heap.size, 1, none⟩ = some (.slice (some ⟨g, 0, none⟩) len cap)) (first | exact KS.out _ _ s1 | exact KS.out _ _ s2 | exact KS.out _ _ s3)
        (first | (go_at_call 68; refine (AT_x.out _ s1).mono ?_; rintro e w2 ⟨rfl, s2⟩) | (go_at_call 79; refine (SE_x.out _ _ s2).mono ?_; rintro e wa ⟨rfl, s3⟩))
      obtain ⟨wax, h_wax⟩ : ∃ q, q = x.set (Zo.ix n 0 t) (imin (Zo.At n x 0 t) 1) := ⟨_, rfl⟩
      have hx_wax : wax.length = len := by rw [h_wax]; simpa using hx_x
      rw [← h_wax] at s3
      have H_wax := Lib.hid h_wax
      have S_wax := Lib.hid s3
      clear h_wax hm AT_x SE_x s1 s2 s3 c0 c1
      obtain ⟨c0, c1⟩ := KS.out _ _ S_wax.out
      have l_wax : wax.length = (n + 1) * (n + 1) := by rw [hx_wax, HLn.out, HL.out]
      have AT_wax : Hid (∀ w' : World, St w0 g cap wax w' → Calls Try.prog 68 #[.agg #[.int .i64 n, .slice (some ⟨g, 0, none⟩) len cap], .int .i64 t, .int .i64 t] w' (fun e w' => e = .returned (.int .i64 (Zo.At n wax t t)) ∧ St w0 g cap wax w')) :=
        Lib.hid fun w' h => by have := at_st (i := t) (j := t) hn htn htn l_wax h; rw [hx_wax] at this; exact this
      have SE_wax : Hid (∀ (val : Int) (w' : World), St w0 g cap wax w' → Calls Try.prog 79 #[.agg #[.int .i64 n, .slice (some ⟨g, 0, none⟩) len cap], .int .i64 t, .int .i64 t, .int .i64 val] w' (fun e w' => e = .returned (.tuple #[]) ∧ St w0 g cap (wax.set (Zo.ix n t t) val) w')) :=
        Lib.hid fun val w' h => by have := set_st (i := t) (j := t) val hn htn htn l_wax h; rw [hx_wax] at this; exact this
      have hm := run_imin (Zo.At n wax t t) 1
      go_wp2_with fail
      have s1 := S_wax.out.drew
      go_region_held3 (fun w' => w'.cell? ⟨w.heap.size, 0, none⟩ = some (.int .i64 n) ∧ w'.cell? ⟨w.heap.size, 1, none⟩ = some (.slice (some ⟨g, 0, none⟩) len cap)) (first | exact KS.out _ _ s1 | exact KS.out _ _ s2 | exact KS.out _ _ s3)
        (first | (go_at_call 68; refine (AT_wax.out _ s1).mono ?_; rintro e w2 ⟨rfl, s2⟩) | (go_at_call 79; refine (SE_wax.out _ _ s2).mono ?_; rintro e wb ⟨rfl, s3⟩))
      obtain ⟨wbx, h_wbx⟩ : ∃ q, q = wax.set (Zo.ix n t t) (imin (Zo.At n wax t t) 1) := ⟨_, rfl⟩
      have hx_wbx : wbx.length = len := by rw [h_wbx]; simpa using hx_wax
      rw [← h_wbx] at s3
      have H_wbx := Lib.hid h_wbx
      have S_wbx := Lib.hid s3
      clear h_wbx hm AT_wax SE_wax s1 s2 s3 c0 c1
      obtain ⟨c0, c1⟩ := KS.out _ _ S_wbx.out
      go_wp2_with fail
      go_roundw
      case rel => exact ⟨t + 1, wbx, by omega, by go_num, hx_wbx, Lib.hid (by rw [Zo.fold_succ, ← HX.out, H_wbx.out, H_wax.out]; rfl), S_wbx⟩
      case measure => simp [intOf]; omega
    · have HX2 := Lib.hid (show x = Zo.pre n l by rw [HX.out, show t = n + 1 by omega]; rfl)
      go_wp2_with fail
      clear c0 c1
      go_loopw [5] (fun s wr => ∃ (t : Nat) (x : List Int), t ≤ n + 1 ∧ s = .int .i64 t ∧ x.length = len ∧ Hid (x = (List.range t).foldl (Zo.rlxI n) (Zo.pre n l)) ∧ Hid (St w0 g cap x wr)) (fun s _ => n + 1 - (intOf s).toNat)
      case atStart => exact ⟨0, x, by omega, rfl, hx_x, HX2, HT⟩
      case round =>
        clear HX HX2 HT hx_x
        clear x
        obtain ⟨k, xk, hk, rfl, hx_xk, HXk, HTk⟩ := hrel
        obtain ⟨c0, c1⟩ := KS.out _ _ HTk.out
        by_cases hkn : k ≤ n
        · go_wp2_with fail
          clear c0 c1
          go_loopw [6] (fun s wr => ∃ (t : Nat) (x : List Int), t ≤ n + 1 ∧ s = .int .i64 t ∧ x.length = len ∧ Hid (x = (List.range t).foldl (Zo.rlxJ n k) xk) ∧ Hid (St w0 g cap x wr)) (fun s _ => n + 1 - (intOf s).toNat)
          case atStart => exact ⟨0, xk, by omega, rfl, hx_xk, Lib.hid rfl, HTk⟩
          case round =>
            obtain ⟨i, xi, hi, rfl, hx_xi, HXi, HTi⟩ := hrel
            obtain ⟨c0, c1⟩ := KS.out _ _ HTi.out
            by_cases hin : i ≤ n
            · go_wp2_with fail
              clear c0 c1
              go_loopw [7] (fun s wr => ∃ (t : Nat) (x : List Int), t ≤ n + 1 ∧ s = .int .i64 t ∧ x.length = len ∧ Hid (x = (List.range t).foldl (Zo.rlx n k i) xi) ∧ Hid (St w0 g cap x wr)) (fun s _ => n + 1 - (intOf s).toNat)
              case atStart => exact ⟨0, xi, by omega, rfl, hx_xi, Lib.hid rfl, HTi⟩
              case round =>
                obtain ⟨j, xj, hj, rfl, hx_xj, HXj, HTj⟩ := hrel
                obtain ⟨c0, c1⟩ := KS.out _ _ HTj.out
                by_cases hjn : j ≤ n
                · have l_xj : xj.length = (n + 1) * (n + 1) := by rw [hx_xj, HLn.out, HL.out]
                  have A9 : Hid (∀ a b : Nat, a ≤ n → b ≤ n → ∀ w' : World, St w0 g cap xj w' → Calls Try.prog 68 #[.agg #[.int .i64 n, .slice (some ⟨g, 0, none⟩) len cap], .int .i64 a, .int .i64 b] w' (fun e w' => e = .returned (.int .i64 (Zo.At n xj a b)) ∧ St w0 g cap xj w')) :=
                    Lib.hid fun a b ha hb w' h => by have := at_st (i := a) (j := b) hn ha hb l_xj h; rw [hx_xj] at this; exact this
                  have E9 : Hid (∀ (val : Int) (w' : World), St w0 g cap xj w' → Calls Try.prog 79 #[.agg #[.int .i64 n, .slice (some ⟨g, 0, none⟩) len cap], .int .i64 i, .int .i64 j, .int .i64 val] w' (fun e w' => e = .returned (.tuple #[]) ∧ St w0 g cap (xj.set (Zo.ix n i j) val) w')) :=
                    Lib.hid fun val w' h => by have := set_st (i := i) (j := j) val hn hin hjn l_xj h; rw [hx_xj] at this; exact this
                  have M9 := Lib.hid fun (a b : Int) (w' : World) (h : St w0 g cap xj w') => sum_st a b h
                  have hm := run_imin (Zo.At n xj i j) (Zo.smW (Zo.At n xj i k) (Zo.At n xj k j))
                  go_wp2_with fail
                  have s1 := HTj.out.drew
                  go_region_held3 (fun w' => w'.cell? ⟨w.heap.size, 0, none⟩ = some (.int .i64 n) ∧ w'.cell? ⟨w.heap.size, 1, none⟩ = some (.slice (some ⟨g, 0, none⟩) len cap)) (first | exact KS.out _ _ (by assumption))
                    (first | (go_at_call 68; refine (A9.out _ _ (by assumption) (by assumption) _ (by assumption)).mono ?_; rintro e w2 ⟨rfl, s2⟩) | (go_at_call 69; refine (M9.out _ _ _ (by assumption)).mono ?_; rintro e w3 ⟨rfl, s3⟩) | (go_at_call 79; refine (E9.out _ _ (by assumption)).mono ?_; rintro e w4 ⟨rfl, s4⟩))
                  all_goals
                    have S4 := Lib.hid s4
                    clear s4
                    go_wp2_with fail
                    go_roundw
                    case rel => exact ⟨j + 1, _, by omega, by go_num, by simpa using hx_xj, Lib.hid (by rw [Zo.fold_succ, ← HXj.out]; rfl), S4⟩
                    case measure => simp [intOf]; omega
                · have HX3 := Lib.hid (show xj = Zo.rlxJ n k xi i by rw [HXj.out, show j = n + 1 by omega]; rfl)
                  go_wp2_with fail
                  go_roundw
                  case rel => exact ⟨i + 1, xj, by omega, by go_num, hx_xj, Lib.hid (by rw [Zo.fold_succ, ← HXi.out]; exact HX3.out), HTj⟩
                  case measure => simp [intOf]; omega
            · have HX3 := Lib.hid (show xi = Zo.rlxI n xk k by rw [HXi.out, show i = n + 1 by omega]; rfl)
              go_wp2_with fail
              go_roundw
              case rel => exact ⟨k + 1, xi, by omega, by go_num, hx_xi, Lib.hid (by rw [Zo.fold_succ, ← HXk.out]; exact HX3.out), HTi⟩
              case measure => simp [intOf]; omega
        · have HX3 := Lib.hid (show xk = Zo.clo n l by rw [HXk.out, show k = n + 1 by omega]; rfl)
          have l_xk : xk.length = (n + 1) * (n + 1) := by rw [hx_xk, HLn.out, HL.out]
          have A9 : Hid (∀ a : Nat, a ≤ n → ∀ w' : World, St w0 g cap xk w' → Calls Try.prog 68 #[.agg #[.int .i64 n, .slice (some ⟨g, 0, none⟩) len cap], .int .i64 a, .int .i64 a] w' (fun e w' => e = .returned (.int .i64 (Zo.At n xk a a)) ∧ St w0 g cap xk w')) :=
            Lib.hid fun a ha w' h => by have := at_st (i := a) (j := a) hn ha ha l_xk h; rw [hx_xk] at this; exact this
          have HC := Lib.hid (show ∀ (q : Nat) (w' : World), q < len → St w0 g cap xk w' → w'.cell? ⟨g, q, none⟩ = some (.int .i64 (Zo.gt xk q)) from fun q w' hq h => by
            have := h.1.rd q (by omega)
            rwa [addr_add] at this)
          go_wp2_with fail
          clear c0 c1 l_xk
          go_loopw [8] (fun s wr => ∃ t : Nat, t ≤ n + 1 ∧ s = .int .i64 t ∧ Hid (∀ i, i < t → 1 ≤ Zo.At n xk i i) ∧ Hid (St w0 g cap xk wr)) (fun s _ => n + 1 - (intOf s).toNat)
          case atStart => exact ⟨0, by omega, rfl, Lib.hid (fun i hi => by omega), HTk⟩
          case round =>
            obtain ⟨q, hq, rfl, HD, HTq⟩ := hrel
            obtain ⟨c0, c1⟩ := KS.out _ _ HTq.out
            by_cases hqn : q ≤ n
            · by_cases hlt : Zo.At n xk q q < 1
              · have HE := Lib.hid (cloE_four hqn (by rw [← HX3.out]; exact hlt) g len cap)
                go_wp2_with fail
                refine (A9.out _ hqn _ HTq.out).mono ?_
                rintro e w2 ⟨rfl, s2⟩
                obtain ⟨⟨r0, r1⟩, f0, f1⟩ := KR.out _ _ s2
                go_wp2_with fail
                refine bodyPost_ret (v := .tuple #[.agg #[.int .i64 0, .slice none 0 0], .int .i64 4]) (by simp [results, Try.results65, go_sem, r0, r1]) rfl ⟨ret_z HE.out.2.symm HE.out.1.symm, ?_⟩
                rw [← HX3.out]
                exact KE.out _ _ _ _ s2
              · go_wp2_with fail
                refine (A9.out _ hqn _ HTq.out).mono ?_
                rintro e w2 ⟨rfl, s2⟩
                have S2 := Lib.hid s2
                clear s2
                go_wp2_with fail
                go_roundw
                case rel =>
                  refine ⟨q + 1, by omega, by go_num, Lib.hid (fun i hi => ?_), S2⟩
                  by_cases e : i = q
                  · rw [e]; omega
                  · exact HD.out i (by omega)
                case measure => simp [intOf]; omega
            · have HB := Lib.hid (cloB_no (l := l) (n := n) (fun i hi => by rw [← HX3.out]; have := HD.out i (by omega); omega))
              go_wp2_with fail
              clear c0 c1
              go_loopw [9] (fun s wr => ∃ t : Nat, t ≤ len ∧ s = .int .i64 t ∧ Hid (∀ i, i < t → lvB (Zo.gt xk i) = true) ∧ Hid (St w0 g cap xk wr)) (fun s _ => len - (intOf s).toNat)
              case atStart => exact ⟨0, by omega, rfl, Lib.hid (fun i hi => by omega), HTq⟩
              case round =>
                obtain ⟨p, hp, rfl, HV, HTp⟩ := hrel
                obtain ⟨c0, c1⟩ := KS.out _ _ HTp.out
                have lb : (len : Int) ≤ 121 := by
                  rw [HLn.out, HL.out]
                  have : (n + 1) * (n + 1) ≤ 11 * 11 := Nat.mul_le_mul (by omega) (by omega)
                  exact_mod_cast this
                by_cases hpl : p < len
                · have cg := HC.out p _ hpl HTp.out
                  have pv := fun W => refLimValid_free (Zo.gt xk p) W
                  cases hv : lvB (Zo.gt xk p)
                  · rw [hv] at pv
                    have PV := Lib.hid pv
                    have HE := Lib.hid (cloE_seven HB.out (i := p) (by rw [← HX3.out]; omega) (by rw [← HX3.out]; exact hv) g len cap)
                    obtain ⟨⟨r0, r1⟩, f0, f1⟩ := KR.out _ _ HTp.out
                    clear pv hv
                    go_wp2_with fail
                    refine (PV.out _).mono ?_
                    rintro e w2 ⟨rfl, rfl⟩
                    go_wp2_with fail
                    refine bodyPost_ret (v := .tuple #[.agg #[.int .i64 0, .slice none 0 0], .int .i64 7]) (by simp [results, Try.results65, go_sem, r0, r1]) rfl ⟨ret_z HE.out.2.symm HE.out.1.symm, ?_⟩
                    rw [← HX3.out]
                    exact KE.out _ _ _ _ HTp.out
                  · rw [hv] at pv
                    have PV := Lib.hid pv
                    have HV2 := Lib.hid hv
                    clear pv hv
                    go_wp2_with fail
                    refine (PV.out _).mono ?_
                    rintro e w2 ⟨rfl, rfl⟩
                    go_wp2_with fail
                    go_roundw
                    case rel =>
                      refine ⟨p + 1, by omega, by go_num, Lib.hid (fun i hi => ?_), HTp⟩
                      by_cases e : i = p
                      · rw [e]; exact HV2.out
                      · exact HV.out i (by omega)
                    case measure => simp [intOf]; omega
                · have HE := Lib.hid (cloE_ok HB.out (fun i hi => by rw [← HX3.out] at hi ⊢; exact HV.out i (by omega)) g len cap)
                  obtain ⟨⟨r0, r1⟩, f0, f1⟩ := KR.out _ _ HTp.out
                  go_wp2_with fail
                  refine bodyPost_ret (v := .tuple #[.agg #[.int .i64 n, .slice (some ⟨g, 0, none⟩) len cap], .int .i64 0]) (by simp [results, Try.results65, go_sem, r0, r1]) rfl ⟨ret_z HE.out.2.symm HE.out.1.symm, ?_⟩
                  rw [← HX3.out]
                  exact KE.out _ _ _ _ HTp.out
end Go.Proofs.Ytbnebinpemejlaa
