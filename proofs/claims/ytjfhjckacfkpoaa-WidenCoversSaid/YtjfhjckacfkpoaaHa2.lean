/- Layer 6: widened of the reference: an element by the rules of the document.; Plain mathematics: the project's closing of a matrix, row by row, against the reference's. Nothing of the program is named here.; Plain mathematics: what is closed keeps to the inequality of triangles, also of limits somewhat out of range.; Plain mathematics: matrices whose closing begins alike.; Plain mathematics: a change of each element beside the diagonal, in place.; Layer 6: elements and rules of the project.; Layer 6: decide, which takes the first rule that applies.; Layer 6: cases: the rules.; Contracts of layer 3's matrices: a matrix in memory, row, tighten.; Contracts of layer 3's small functions: sum, isDimension, places.; The contract of layer 3's closing of a matrix: shorten.; Contracts of slices.Clone at limits, and of the method zone of layer 3's matrices.; Layer 6: changed: the matrix of a zone, with what its elements become.; Layer 6: changed: the matrix of a zone, with what its elements become.; Contracts of Close, Zero and All of layer 3's reference. -/
import Derived.Test.YtjfhjckacfkpoaaHa1
import Derived.Deep.RegionHeld3
import Derived.BigQuiet
import Derived.Deep.MidRow
import Derived.StillTailTactics
import Derived.Lib.SliceRun

namespace Go.Proofs.Ytjfhjckacfkpoaa
open Go.RowKit

def wdn (x : Int) (i j : Nat) (low high : List Int) : Int :=
  if spE x ≠ 0 then 1099511627776
  else if 1 ≤ i ∧ (Zo.gt low (i - 1) = -1 ∨ Zo.gt low (i - 1) < spC x) then 1099511627776
  else if 1 ≤ j ∧ Zo.gt high (j - 1) = -1 then (if i = 0 then 1 else 1099511627776)
  else if 1 ≤ j ∧ spC x < -Zo.gt high (j - 1) then -2 * Zo.gt high (j - 1)
  else x

/-- A list of constants whose elements 0 to n - 1 are in range. -/
def Kn (n : Nat) (k : List Int) : Prop := k.length = n ∧ ∀ j, j < n → -1 ≤ Zo.gt k j ∧ Zo.gt k j ≤ 1048576

theorem ksB_kn {n : Nat} {k : List Int} (h : ksB (n : Int) k = true) : Kn n k := ⟨by have := (ksB_ok h).2; omega, fun _ hj => ksB_at h hj⟩

theorem Arg.get {w : World} {ao : Option Addr} {l : List Int} (h : Arg w ao l) {j : Nat} (hj : j < l.length) : ∃ a, ao = some a ∧ w.cell? (a.add j) = some (.int .i64 (Zo.gt l j)) := by
  obtain ⟨a, e, hR⟩ := h (fun e => by rw [e] at hj; simp at hj)
  exact ⟨a, e, hR j hj⟩

set_option maxRecDepth 100000 in
set_option maxHeartbeats 4000000 in
theorem widened_any (n i j : Nat) (x : Int) (low high : List Int) (ao bo : Option Addr) (ca cb : Nat) (w : World) (hn : n ≤ 10) (hi : i ≤ n) (hj : j ≤ n) (hx : I64 x) (hl : Kn n low) (hh : Kn n high) (hA : Arg w ao low) (hB : Arg w bo high) :
    Calls Try.prog 31 #[.int .i64 x, .int .i64 i, .int .i64 j, .slice ao low.length ca, .slice bo high.length cb] w (Still (.int .i64 (wdn x i j low high)) w) := by
  have SP := Lib.hid (fun W => refLimSplit_any x W hx)
  have W0 := Lib.hid (show wdn x i j low high = if spE x ≠ 0 then 1099511627776
    else if 1 ≤ i ∧ (Zo.gt low (i - 1) = -1 ∨ Zo.gt low (i - 1) < spC x) then 1099511627776
    else if 1 ≤ j ∧ Zo.gt high (j - 1) = -1 then (if i = 0 then 1 else 1099511627776)
    else if 1 ≤ j ∧ spC x < -Zo.gt high (j - 1) then -2 * Zo.gt high (j - 1)
    else x from rfl)
  have AI := Lib.hid (show 1 ≤ i → ∃ a, ao = some a ∧ w.cell? (a.add (i - 1)) = some (.int .i64 (Zo.gt low (i - 1))) from fun h => hA.get (by rw [hl.1]; omega))
  have AJ := Lib.hid (show 1 ≤ j → ∃ a, bo = some a ∧ w.cell? (a.add (j - 1)) = some (.int .i64 (Zo.gt high (j - 1))) from fun h => hB.get (by rw [hh.1]; omega))
  have bJ := Lib.hid (show 1 ≤ j → -1 ≤ Zo.gt high (j - 1) ∧ Zo.gt high (j - 1) ≤ 1048576 from fun h => hh.2 _ (by omega))
  have LL := hl.1
  have LH := hh.1
  generalize low.length = nl at *
  generalize high.length = nh at *
  generalize Zo.gt low (i - 1) = yl at *
  generalize Zo.gt high (j - 1) = yh at *
  generalize spE x = se at *
  generalize spS x = ss at *
  generalize spC x = sc at *
  generalize wdn x i j low high = R at *
  clear hA hB hl hh
  by_cases he : se = 0
  · have D0 : (se != 0) = false := by simpa using he
    have HE := Lib.hid he
    clear he
    by_cases hi1 : 1 ≤ i
    · have I1 : decide ((1 : Int) ≤ (i : Int)) = true := by simp; omega
      obtain ⟨a, rfl, di⟩ := AI.out hi1
      have ci : ((i : Int) - 1).toNat = i - 1 := by omega
      have ci2 : ((i - 1 : Nat) : Int) = (i : Int) - 1 := by omega
      by_cases a1 : yl = -1
      · have A1 : (yl == -1) = true := by simpa using a1
        have HA := Lib.hid (And.intro hi1 a1)
        clear a1
        go_enter Try.func31, Try.ntmps31
        go_wp2_with fail
        refine (SP.out _).mono ?_
        rintro e w1 ⟨rfl, hw⟩
        rw [hw]
        clear hw w1
        go_wp2_with fail
        go_ret
        exact ⟨ret_int (by rw [W0.out]; rw [if_neg (by simp [HE.out]), if_pos ⟨HA.out.1, Or.inl HA.out.2⟩]), rfl⟩
      · have A1 : (yl == -1) = false := by simpa using a1
        by_cases a2 : yl < sc
        · have A2 : decide (yl < sc) = true := by simpa using a2
          have HA := Lib.hid (And.intro hi1 a2)
          clear a1 a2
          go_enter Try.func31, Try.ntmps31
          go_wp2_with fail
          refine (SP.out _).mono ?_
          rintro e w1 ⟨rfl, hw⟩
          rw [hw]
          clear hw w1
          go_wp2_with fail
          go_ret
          exact ⟨ret_int (by rw [W0.out]; rw [if_neg (by simp [HE.out]), if_pos ⟨HA.out.1, Or.inr HA.out.2⟩]), rfl⟩
        · have A2 : decide (yl < sc) = false := by simpa using a2
          have HA := Lib.hid (And.intro a1 a2)
          clear a1 a2
          by_cases hj1 : 1 ≤ j
          · have J0 : decide ((1 : Int) ≤ (j : Int)) = true := by simp; omega
            obtain ⟨b, rfl, dj⟩ := AJ.out hj1
            have bj := bJ.out hj1
            have cj : ((j : Int) - 1).toNat = j - 1 := by omega
            have cj2 : ((j - 1 : Nat) : Int) = (j : Int) - 1 := by omega
            by_cases h1 : yh = -1
            · have J1 : (yh == -1) = true := by simpa using h1
              by_cases hi0 : i = 0
              · have I0 : ((i : Int) == 0) = true := by simpa using hi0
                have HH := Lib.hid (And.intro hj1 (And.intro h1 hi0))
                clear h1 hi0
                go_enter Try.func31, Try.ntmps31
                go_wp2_with fail
                refine (SP.out _).mono ?_
                rintro e w1 ⟨rfl, hw⟩
                rw [hw]
                clear hw w1
                go_wp2_with fail
                go_ret
                exact ⟨ret_int (by rw [W0.out]; rw [if_neg (by simp [HE.out]), if_neg (fun h => h.2.elim HA.out.1 (fun q => by have := HA.out.2; omega)), if_pos ⟨HH.out.1, HH.out.2.1⟩, if_pos HH.out.2.2]), rfl⟩
              · have I0 : ((i : Int) == 0) = false := by simpa using hi0
                have HH := Lib.hid (And.intro hj1 (And.intro h1 hi0))
                clear h1 hi0
                go_enter Try.func31, Try.ntmps31
                go_wp2_with fail
                refine (SP.out _).mono ?_
                rintro e w1 ⟨rfl, hw⟩
                rw [hw]
                clear hw w1
                go_wp2_with fail
                go_ret
                exact ⟨ret_int (by rw [W0.out]; rw [if_neg (by simp [HE.out]), if_neg (fun h => h.2.elim HA.out.1 (fun q => by have := HA.out.2; omega)), if_pos ⟨HH.out.1, HH.out.2.1⟩, if_neg HH.out.2.2]), rfl⟩
            · have J1 : (yh == -1) = false := by simpa using h1
              have wn := wrap_in (-yh) (by omega) (by omega)
              have wm := wrap_in (-2 * yh) (by omega) (by omega)
              by_cases h2 : sc < -yh
              · have J2 : decide (sc < -yh) = true := by simpa using h2
                have HH := Lib.hid (And.intro hj1 (And.intro h1 h2))
                clear h1 h2
                go_enter Try.func31, Try.ntmps31
                go_wp2_with fail
                refine (SP.out _).mono ?_
                rintro e w1 ⟨rfl, hw⟩
                rw [hw]
                clear hw w1
                go_wp2_with fail
                go_ret
                exact ⟨ret_int (by rw [W0.out]; rw [if_neg (by simp [HE.out]), if_neg (fun h => h.2.elim HA.out.1 (fun q => by have := HA.out.2; omega)), if_neg (fun h => HH.out.2.1 h.2), if_pos ⟨HH.out.1, HH.out.2.2⟩]), rfl⟩
              · have J2 : decide (sc < -yh) = false := by simpa using h2
                have HH := Lib.hid (And.intro hj1 (And.intro h1 h2))
                clear h1 h2
                go_enter Try.func31, Try.ntmps31
                go_wp2_with fail
                refine (SP.out _).mono ?_
                rintro e w1 ⟨rfl, hw⟩
                rw [hw]
                clear hw w1
                go_wp2_with fail
                go_ret
                exact ⟨ret_int (by rw [W0.out]; rw [if_neg (by simp [HE.out]), if_neg (fun h => h.2.elim HA.out.1 (fun q => by have := HA.out.2; omega)), if_neg (fun h => HH.out.2.1 h.2), if_neg (fun h => by have := HH.out.2.2; have := h.2; omega)]), rfl⟩
          · have J0 : decide ((1 : Int) ≤ (j : Int)) = false := by simp; omega
            have HH := Lib.hid hj1
            clear hj1
            go_enter Try.func31, Try.ntmps31
            go_wp2_with fail
            refine (SP.out _).mono ?_
            rintro e w1 ⟨rfl, hw⟩
            rw [hw]
            clear hw w1
            go_wp2_with fail
            go_ret
            exact ⟨ret_int (by rw [W0.out]; rw [if_neg (by simp [HE.out]), if_neg (fun h => h.2.elim HA.out.1 (fun q => by have := HA.out.2; omega)), if_neg (fun h => HH.out h.1), if_neg (fun h => HH.out h.1)]), rfl⟩
    · have I1 : decide ((1 : Int) ≤ (i : Int)) = false := by simp; omega
      have HA := Lib.hid hi1
      clear hi1
      by_cases hj1 : 1 ≤ j
      · have J0 : decide ((1 : Int) ≤ (j : Int)) = true := by simp; omega
        obtain ⟨b, rfl, dj⟩ := AJ.out hj1
        have bj := bJ.out hj1
        have cj : ((j : Int) - 1).toNat = j - 1 := by omega
        have cj2 : ((j - 1 : Nat) : Int) = (j : Int) - 1 := by omega
        by_cases h1 : yh = -1
        · have J1 : (yh == -1) = true := by simpa using h1
          by_cases hi0 : i = 0
          · have I0 : ((i : Int) == 0) = true := by simpa using hi0
            have HH := Lib.hid (And.intro hj1 (And.intro h1 hi0))
            clear h1 hi0
            go_enter Try.func31, Try.ntmps31
            go_wp2_with fail
            refine (SP.out _).mono ?_
            rintro e w1 ⟨rfl, hw⟩
            rw [hw]
            clear hw w1
            go_wp2_with fail
            go_ret
            exact ⟨ret_int (by rw [W0.out]; rw [if_neg (by simp [HE.out]), if_neg (fun h => HA.out h.1), if_pos ⟨HH.out.1, HH.out.2.1⟩, if_pos HH.out.2.2]), rfl⟩
          · have I0 : ((i : Int) == 0) = false := by simpa using hi0
            have HH := Lib.hid (And.intro hj1 (And.intro h1 hi0))
            clear h1 hi0
            go_enter Try.func31, Try.ntmps31
            go_wp2_with fail
            refine (SP.out _).mono ?_
            rintro e w1 ⟨rfl, hw⟩
            rw [hw]
            clear hw w1
            go_wp2_with fail
            go_ret
            exact ⟨ret_int (by rw [W0.out]; rw [if_neg (by simp [HE.out]), if_neg (fun h => HA.out h.1), if_pos ⟨HH.out.1, HH.out.2.1⟩, if_neg HH.out.2.2]), rfl⟩
        · have J1 : (yh == -1) = false := by simpa using h1
          have wn := wrap_in (-yh) (by omega) (by omega)
          have wm := wrap_in (-2 * yh) (by omega) (by omega)
          by_cases h2 : sc < -yh
          · have J2 : decide (sc < -yh) = true := by simpa using h2
            have HH := Lib.hid (And.intro hj1 (And.intro h1 h2))
            clear h1 h2
            go_enter Try.func31, Try.ntmps31
            go_wp2_with fail
            refine (SP.out _).mono ?_
            rintro e w1 ⟨rfl, hw⟩
            rw [hw]
            clear hw w1
            go_wp2_with fail
            go_ret
            exact ⟨ret_int (by rw [W0.out]; rw [if_neg (by simp [HE.out]), if_neg (fun h => HA.out h.1), if_neg (fun h => HH.out.2.1 h.2), if_pos ⟨HH.out.1, HH.out.2.2⟩]), rfl⟩
          · have J2 : decide (sc < -yh) = false := by simpa using h2
            have HH := Lib.hid (And.intro hj1 (And.intro h1 h2))
            clear h1 h2
            go_enter Try.func31, Try.ntmps31
            go_wp2_with fail
            refine (SP.out _).mono ?_
            rintro e w1 ⟨rfl, hw⟩
            rw [hw]
            clear hw w1
            go_wp2_with fail
            go_ret
            exact ⟨ret_int (by rw [W0.out]; rw [if_neg (by simp [HE.out]), if_neg (fun h => HA.out h.1), if_neg (fun h => HH.out.2.1 h.2), if_neg (fun h => by have := HH.out.2.2; have := h.2; omega)]), rfl⟩
      · have J0 : decide ((1 : Int) ≤ (j : Int)) = false := by simp; omega
        have HH := Lib.hid hj1
        clear hj1
        go_enter Try.func31, Try.ntmps31
        go_wp2_with fail
        refine (SP.out _).mono ?_
        rintro e w1 ⟨rfl, hw⟩
        rw [hw]
        clear hw w1
        go_wp2_with fail
        go_ret
        exact ⟨ret_int (by rw [W0.out]; rw [if_neg (by simp [HE.out]), if_neg (fun h => HA.out h.1), if_neg (fun h => HH.out h.1), if_neg (fun h => HH.out h.1)]), rfl⟩
  · have D0 : (se != 0) = true := by simpa using he
    have HE := Lib.hid he
    clear he
    go_enter Try.func31, Try.ntmps31
    go_wp2_with fail
    refine (SP.out _).mono ?_
    rintro e w1 ⟨rfl, hw⟩
    rw [hw]
    clear hw w1
    go_wp2_with fail
    go_ret
    exact ⟨ret_int (by rw [W0.out]; rw [if_pos HE.out]), rfl⟩
end Go.Proofs.Ytjfhjckacfkpoaa

namespace Go.Proofs.Ytjfhjckacfkpoaa.Zo

/-- One step of a row with the element (i, k) as it was ahead of the row. -/
def prw (n k i : Nat) (c : Int) (l : List Int) (j : Nat) : List Int := l.set (ix n i j) (min (At n l i j) (smW c (At n l k j)))

def st1' (n : Nat) (l : List Int) (j : Nat) : List Int :=
  let l1 := l.set (ix n j j) (min (At n l j j) 1)
  l1.set (ix n 0 j) (min (At n l1 0 j) 1)

theorem st1_eq {n : Nat} {l : List Int} (hl : l.length = (n + 1) * (n + 1)) {j : Nat} (hj : j ≤ n) : st1' n l j = st1 n l j := by
  by_cases e : j = 0
  · subst e; rfl
  · have hne : ix n j j ≠ ix n 0 j := fun h => e (ix_inj hj hj h).1
    have a1 : At n (l.set (ix n j j) (min (At n l j j) 1)) 0 j = At n l 0 j := by
      rw [At_set hl hj hj _ hj, if_neg (fun h => e h.1.symm)]
    have a2 : At n (l.set (ix n 0 j) (min (At n l 0 j) 1)) j j = At n l j j := by
      rw [At_set hl (by omega) hj _ hj, if_neg (fun h => e h.1)]
    unfold st1' st1
    simp only [a1, a2]
    exact List.set_comm _ _ hne

/-- All elements are integers of 64 bits. -/
def A64 (l : List Int) : Prop := ∀ j, -9223372036854775808 ≤ gt l j ∧ gt l j ≤ 9223372036854775807

theorem smW_one {c : Int} (h1 : -9223372036854775808 ≤ c) (h2 : c ≤ 9223372036854775807) : smW c 1 = c := by
  unfold smW
  by_cases e : c = 1099511627776
  · rw [if_pos (Or.inl e), e]
  · rw [if_neg (by omega), if_neg (by omega)]
    unfold w64; omega

theorem smW_in (a b : Int) : -9223372036854775808 ≤ smW a b ∧ smW a b ≤ 9223372036854775807 := by
  unfold smW w64
  split
  · omega
  · split <;> omega

theorem gt_range (l : List Int) (k : Nat) (x : Int) (h1 : A64 l) (hx : -9223372036854775808 ≤ x ∧ x ≤ 9223372036854775807) : A64 (l.set k x) := by
  intro j
  by_cases hk : k < l.length
  · rw [gt_set x hk]; split
    · exact hx
    · exact h1 j
  · rw [List.set_eq_of_length_le (by omega)]; exact h1 j

theorem A64.min_ {l : List Int} (h : A64 l) (n i j : Nat) (y : Int) (hy : -9223372036854775808 ≤ y ∧ y ≤ 9223372036854775807) (k : Nat) : A64 (l.set k (min (At n l i j) y)) := by
  refine gt_range _ _ _ h ?_
  have := h (ix n i j)
  unfold At
  omega

theorem A64.prw {l : List Int} (h : A64 l) (n k i : Nat) (c : Int) (j : Nat) : A64 (prw n k i c l j) := h.min_ _ _ _ _ (smW_in _ _) _

theorem A64.st1 {l : List Int} (h : A64 l) (n j : Nat) : A64 (st1 n l j) := (h.min_ n 0 j 1 (by omega) _).min_ n j j 1 (by omega) _

/-- Where the diagonal element is 'at most 0', the row's steps are the reference's. -/
theorem prow_eq {n k i : Nat} {X : List Int} (hl : X.length = (n + 1) * (n + 1)) (hk : k ≤ n) (hi : i ≤ n) (h64 : A64 X) (hd : At n X k k = 1) :
    ∀ t, t ≤ n + 1 → (List.range t).foldl (prw n k i (At n X i k)) X = (List.range t).foldl (rlx n k i) X := by
  have c64 := h64 (ix n i k)
  have H : ∀ t, t ≤ n + 1 → ((List.range t).foldl (prw n k i (At n X i k)) X = (List.range t).foldl (rlx n k i) X) ∧ ((List.range t).foldl (rlx n k i) X).length = (n + 1) * (n + 1)
      ∧ At n ((List.range t).foldl (rlx n k i) X) i k = At n X i k ∧ At n ((List.range t).foldl (rlx n k i) X) k k = 1 := by
    intro t
    induction t with
    | zero => intro _; exact ⟨rfl, hl, rfl, hd⟩
    | succ t ih =>
      intro ht
      obtain ⟨e, l1, a1, a2⟩ := ih (by omega)
      rw [fold_succ, fold_succ, e]
      generalize (List.range t).foldl (rlx n k i) X = Y at *
      refine ⟨?_, by simpa [rlx] using l1, ?_, ?_⟩
      · unfold prw rlx; rw [a1]
      · unfold rlx
        rw [At_set l1 hi (by omega) _ hk]
        split
        · rename_i h
          rw [← h.2, a1, a2]
          have := smW_one c64.1 c64.2
          unfold At at *
          rw [this]; omega
        · exact a1
      · unfold rlx
        rw [At_set l1 hi (by omega) _ hk]
        split
        · rename_i h
          obtain ⟨h1, h2⟩ := h
          subst h1
          subst h2
          rw [a2]
          rfl
        · exact a2
  exact fun t ht => (H t ht).1

theorem prow_len {n k i : Nat} (c : Int) {X : List Int} (hl : X.length = (n + 1) * (n + 1)) : ∀ t, ((List.range t).foldl (prw n k i c) X).length = (n + 1) * (n + 1) := by
  intro t
  induction t with
  | zero => exact hl
  | succ t ih => rw [fold_succ]; simpa [prw] using ih

theorem prow_le {n k i : Nat} (c : Int) {X : List Int} (hl : X.length = (n + 1) * (n + 1)) (hi : i ≤ n) {a b : Nat} (hb : b ≤ n) : ∀ t, t ≤ n + 1 → At n ((List.range t).foldl (prw n k i c) X) a b ≤ At n X a b := by
  intro t
  induction t with
  | zero => intro _; exact Int.le_refl _
  | succ t ih =>
    intro ht
    rw [fold_succ]
    exact Int.le_trans (set_le (prow_len c hl t) hi (by omega) _ hb) (ih (by omega))

/-- What the rounds before k and the rows before i have left; no row that is done has a diagonal element below 'at most 0'. -/
def Mid (n : Nat) (l : List Int) (k i : Nat) (X : List Int) : Prop :=
  X = (List.range i).foldl (rlxJ n k) (rnd n l k) ∧ X.length = (n + 1) * (n + 1) ∧ A64 X ∧ (∀ a, a ≤ n → At n X a a ≤ 1) ∧ (∀ a, a ≤ n → (a < i ∨ 0 < k) → 1 ≤ At n X a a)

theorem rlx_64 {l : List Int} (h : A64 l) (n k i j : Nat) : A64 (rlx n k i l j) := h.min_ _ _ _ _ (smW_in _ _) _

theorem Mid.start {n : Nat} {l : List Int} (hl : l.length = (n + 1) * (n + 1)) (h64 : A64 l) : Mid n l 0 0 (pre n l) := by
  refine ⟨rfl, rnd_length hl 0 (by omega), ?_, fun a ha => (pre_low hl a ha).1, fun a ha h => by omega⟩
  exact pre_keeps (R := A64) (fun x i j _ _ _ hx => hx.min_ n i j 1 (by omega) _) h64

/-- A row that ends with its diagonal element as it should be. -/
theorem Mid.row {n : Nat} {l : List Int} {k i : Nat} {X Y : List Int} (hk : k ≤ n) (hi : i ≤ n) (h : Mid n l k i X) (hY : Y = (List.range (n + 1)).foldl (prw n k i (At n X i k)) X)
    (hd : 1 ≤ At n Y i i) : Mid n l k (i + 1) Y := by
  obtain ⟨e, h1, h2, h3, h4⟩ := h
  have hkk : At n X k k = 1 := by
    have hle := h3 k hk
    by_cases c : k < i ∨ 0 < k
    · have := h4 k hk c; omega
    · have : k = i := by omega
      subst this
      have := prow_le (n := n) (k := k) (i := k) (At n X k k) h1 hi (a := k) hi (n + 1) (Nat.le_refl _)
      rw [← hY] at this
      omega
  have e2 := prow_eq h1 hk hi h2 hkk (n + 1) (Nat.le_refl _)
  have hY2 : Y = rlxJ n k X i := by rw [hY, e2]; rfl
  refine ⟨by rw [fold_succ, ← e, hY2], by rw [hY]; exact prow_len _ h1 _, ?_, ?_, ?_⟩
  · rw [hY2]; exact fold_keeps (R := A64) (n + 1) (fun a t _ ha => rlx_64 ha n k i t) _ h2 _ (Nat.le_refl _)
  · intro a ha
    have := prow_le (n := n) (k := k) (i := i) (At n X i k) h1 hi (a := a) ha (n + 1) (Nat.le_refl _)
    rw [← hY] at this
    exact Int.le_trans this (h3 a ha)
  · intro a ha c
    by_cases ea : a = i
    · rw [ea]; exact hd
    · have hrow : ∀ t, t ≤ n + 1 → At n ((List.range t).foldl (prw n k i (At n X i k)) X) a a = At n X a a := by
        intro t
        induction t with
        | zero => intro _; rfl
        | succ t ih =>
          intro ht
          rw [fold_succ]
          rw [show ∀ Z : List Int, prw n k i (At n X i k) Z t = Z.set (ix n i t) (min (At n Z i t) (smW (At n X i k) (At n Z k t))) from fun _ => rfl, At_set (prow_len _ h1 t) hi (by omega) _ ha, if_neg (fun h => ea h.1)]
          exact ih (by omega)
      rw [hY, hrow (n + 1) (Nat.le_refl _)]
      exact h4 a ha (by omega)

theorem Mid.round {n : Nat} {l : List Int} {k : Nat} {X : List Int} (h : Mid n l k (n + 1) X) : Mid n l (k + 1) 0 X := by
  obtain ⟨e, h1, h2, h3, h4⟩ := h
  refine ⟨?_, h1, h2, h3, fun a ha _ => h4 a ha (by omega)⟩
  rw [e]; show _ = rnd n l (k + 1)
  rw [rnd_succ]; rfl

theorem Mid.done {n : Nat} {l : List Int} {X : List Int} (h : Mid n l (n + 1) 0 X) : X = clo n l ∧ ∀ a, a ≤ n → 1 ≤ At n (clo n l) a a := by
  obtain ⟨e, h1, h2, h3, h4⟩ := h
  have e2 : X = clo n l := e
  exact ⟨e2, fun a ha => by rw [← e2]; exact h4 a ha (by omega)⟩

theorem rlxJ_le {n k i : Nat} {X : List Int} (hl : X.length = (n + 1) * (n + 1)) (hi : i ≤ n) {a b : Nat} (hb : b ≤ n) : (rlxJ n k X i).length = (n + 1) * (n + 1) ∧ At n (rlxJ n k X i) a b ≤ At n X a b := by
  unfold rlxJ
  exact fold_keeps (R := fun x : List Int => x.length = (n + 1) * (n + 1) ∧ At n x a b ≤ At n X a b) (n + 1)
    (fun x t ht hx => ⟨by simpa [rlx] using hx.1, Int.le_trans (set_le hx.1 hi (by omega) _ hb) hx.2⟩) _ ⟨hl, Int.le_refl _⟩ _ (Nat.le_refl _)

theorem rows_le {n k : Nat} {Z : List Int} (hl : Z.length = (n + 1) * (n + 1)) (i : Nat) {a b : Nat} (hb : b ≤ n) : ∀ d, i + d ≤ n + 1 →
    ((List.range (i + d)).foldl (rlxJ n k) Z).length = (n + 1) * (n + 1) ∧ At n ((List.range (i + d)).foldl (rlxJ n k) Z) a b ≤ At n ((List.range i).foldl (rlxJ n k) Z) a b := by
  intro d
  induction d with
  | zero =>
    intro h
    refine ⟨?_, Int.le_refl _⟩
    exact fold_keeps (R := fun x : List Int => x.length = (n + 1) * (n + 1)) (n + 1) (fun x t ht hx => (rlxJ_le (a := 0) (b := 0) hx (by omega) (by omega)).1) _ hl _ h
  | succ d ih =>
    intro h
    obtain ⟨h1, h2⟩ := ih (by omega)
    rw [show i + (d + 1) = (i + d) + 1 by omega, fold_succ]
    have := rlxJ_le (n := n) (k := k) (i := i + d) h1 (by omega) (a := a) hb
    exact ⟨this.1, Int.le_trans this.2 h2⟩

/-- The whole is below what any row has left. -/
theorem clo_below {n : Nat} {l : List Int} (hl : l.length = (n + 1) * (n + 1)) {k i : Nat} (hk : k ≤ n) (hi : i ≤ n + 1) {a b : Nat} (ha : a ≤ n) (hb : b ≤ n) : At n (clo n l) a b ≤ At n ((List.range i).foldl (rlxJ n k) (rnd n l k)) a b := by
  have h1 := rnd_le hl (k + 1) (n - k) (by omega) a b ha hb
  rw [show k + 1 + (n - k) = n + 1 by omega, rnd_succ n l k] at h1
  have h2 := (rows_le (n := n) (k := k) (rnd_length hl k (by omega)) i (a := a) hb (n + 1 - i) (by omega)).2
  rw [show i + (n + 1 - i) = n + 1 by omega] at h2
  exact Int.le_trans h1 h2

/-- A row that ends with its diagonal element below 'at most 0': so does the whole. -/
theorem Mid.bad {n : Nat} {l : List Int} (hl : l.length = (n + 1) * (n + 1)) {k i : Nat} {X Y : List Int} (hk : k ≤ n) (hi : i ≤ n) (h : Mid n l k i X) (hY : Y = (List.range (n + 1)).foldl (prw n k i (At n X i k)) X)
    (hd : At n Y i i < 1) : At n (clo n l) i i < 1 := by
  obtain ⟨e, h1, h2, h3, h4⟩ := h
  by_cases c : At n X k k = 1
  · have e2 := prow_eq h1 hk hi h2 c (n + 1) (Nat.le_refl _)
    have hY2 : Y = (List.range (i + 1)).foldl (rlxJ n k) (rnd n l k) := by rw [fold_succ, ← e, hY, e2]; rfl
    have := clo_below hl hk (i := i + 1) (by omega) hi hi
    rw [← hY2] at this
    omega
  · have hle := h3 k hk
    have : k = i := by
      by_cases c2 : k < i ∨ 0 < k
      · have := h4 k hk c2; omega
      · omega
    subst this
    have := clo_below hl hk (i := k) (by omega) hi hi
    rw [← e] at this
    omega
end Go.Proofs.Ytjfhjckacfkpoaa.Zo

namespace Go.Proofs.Ytjfhjckacfkpoaa.Zo

/-- A limit, perhaps somewhat out of range. -/
def Wl (x : Int) : Prop := x = 1099511627776 ∨ (-4294967296 ≤ x ∧ x ≤ 4294967297)

theorem Vl.wl {x : Int} (h : Vl x) : Wl x := by unfold Vl at h; unfold Wl; omega

theorem pre_wl {n : Nat} {l : List Int} (hl : l.length = (n + 1) * (n + 1)) (hv : ∀ a b, a ≤ n → b ≤ n → Wl (At n l a b)) : ∀ a b, a ≤ n → b ≤ n → Wl (At n (pre n l) a b) := by
  refine (pre_keeps (R := fun x : List Int => x.length = (n + 1) * (n + 1) ∧ ∀ a b, a ≤ n → b ≤ n → Wl (At n x a b)) (fun x i j _ hi hj hx => ⟨by simpa using hx.1, fun a b ha hb => ?_⟩) ⟨hl, hv⟩).2
  rw [At_set hx.1 hi hj _ hb]
  split
  · have := hx.2 i j hi hj
    unfold Wl at this ⊢
    omega
  · exact hx.2 a b ha hb

theorem clo_repW {n : Nat} {l : List Int} (hn : n ≤ 10) (hl : l.length = (n + 1) * (n + 1)) (hv : ∀ a b, a ≤ n → b ≤ n → Wl (At n l a b)) (hd : ∀ i, i ≤ n → 1 ≤ At n (clo n l) i i) :
    ∀ t, t ≤ n + 1 → Rep n (rnd n l t) (fw (mat n l) t) ∧ ∀ k, k < t → fw (mat n l) k k k = some 1 := by
  have pv := pre_wl hl hv
  have hm : ∀ i j x, mat n l i j = some x → x ≤ 4294967297 ∧ -4294967297 + 1 ≤ x := by
    intro i j x h
    unfold mat at h
    split at h
    · rename_i c
      have := pv i j c.1 c.2
      unfold dec at h
      unfold Wl at this
      split at h
      · simp at h
      · simp at h; omega
    · simp at h
  have dg : ∀ t, t ≤ n + 1 → ∀ i, i ≤ n → At n (rnd n l t) i i = 1 := by
    intro t ht i hi
    have h1 := rnd_le hl t (n + 1 - t) (by omega) i i hi hi
    rw [show t + (n + 1 - t) = n + 1 by omega] at h1
    have h2 := rnd_le hl 0 t (by omega) i i hi hi
    have h3 := (pre_low hl i hi).1
    have h4 := hd i hi
    have e : rnd n l (n + 1) = clo n l := rfl
    have e0 : rnd n l 0 = pre n l := rfl
    rw [e] at h1
    rw [e0, Nat.zero_add] at h2
    omega
  intro t
  induction t with
  | zero =>
    intro _
    refine ⟨⟨rnd_length hl 0 (by omega), fun a b ha hb => ?_⟩, fun k hk => by omega⟩
    show At n (pre n l) a b = enc (mat n l a b)
    unfold mat
    rw [if_pos ⟨ha, hb⟩, enc_dec]
  | succ t ih =>
    intro ht
    obtain ⟨hr, hdg⟩ := ih (by omega)
    have htt : fw (mat n l) t t t = some 1 := by
      have h1 := hr.2 t t (by omega) (by omega)
      rw [dg t (by omega) t (by omega)] at h1
      cases e : fw (mat n l) t t t with
      | none => rw [e] at h1; simp [enc] at h1
      | some x => rw [e] at h1; simp [enc] at h1; rw [h1]
    have all : ∀ k, k < t + 1 → fw (mat n l) k k k = some 1 := by
      intro k hk
      by_cases e : k = t
      · rw [e]; exact htt
      · exact hdg k (by omega)
    have hB : Bd (fw (mat n l) t) := by
      intro i j x h
      constructor
      · have := fw_low (c := 4294967297) (by omega) (fun i j x h => (hm i j x h).2) t i j x h
        have p : (2 : Int) ^ t ≤ 2 ^ 11 := by
          have : (2 : Nat) ^ t ≤ 2 ^ 11 := Nat.pow_le_pow_right (by omega) (by omega)
          exact_mod_cast this
        omega
      · obtain ⟨S, _, hx⟩ := fw_bound (U := 4294967297) (fun i j x h => (hm i j x h).1) t hdg i j x h
        have := cnt_le S t
        omega
    refine ⟨?_, all⟩
    rw [rnd_succ]
    exact round_rep hB htt (by omega) hr

theorem fw_bd {n : Nat} {l : List Int} (hn : n ≤ 10) (hl : l.length = (n + 1) * (n + 1)) (hv : ∀ a b, a ≤ n → b ≤ n → Wl (At n l a b)) (hd : ∀ i, i ≤ n → 1 ≤ At n (clo n l) i i) :
    Rep n (clo n l) (fw (mat n l) (n + 1)) ∧ Tri (n + 1) (fw (mat n l) (n + 1)) ∧ Bd (fw (mat n l) (n + 1)) ∧ ∀ k, k ≤ n → fw (mat n l) (n + 1) k k = some 1 := by
  obtain ⟨hr, hdg⟩ := clo_repW hn hl hv hd (n + 1) (Nat.le_refl _)
  have pv := pre_wl hl hv
  have hm : ∀ i j x, mat n l i j = some x → x ≤ 4294967297 ∧ -4294967297 + 1 ≤ x := by
    intro i j x h
    unfold mat at h
    split at h
    · rename_i c
      have := pv i j c.1 c.2
      unfold dec at h
      unfold Wl at this
      split at h
      · simp at h
      · simp at h; omega
    · simp at h
  refine ⟨hr, tri_fw (n + 1) hdg, ?_, ?_⟩
  · intro i j x h
    constructor
    · have := fw_low (c := 4294967297) (by omega) (fun i j x h => (hm i j x h).2) (n + 1) i j x h
      have p : (2 : Int) ^ (n + 1) ≤ 2 ^ 11 := by
        have : (2 : Nat) ^ (n + 1) ≤ 2 ^ 11 := Nat.pow_le_pow_right (by omega) (by omega)
        exact_mod_cast this
      omega
    · obtain ⟨S, _, hx⟩ := fw_bound (U := 4294967297) (fun i j x h => (hm i j x h).1) (n + 1) hdg i j x h
      have := cnt_le S (n + 1)
      omega
  · intro k hk
    have h1 := hr.2 k k hk hk
    have h2 := hd k hk
    have h3 := clo_below hl (k := 0) (i := 0) (by omega) (by omega) hk hk
    have h4 := (pre_low hl k hk).1
    have e : (List.range 0).foldl (rlxJ n 0) (rnd n l 0) = pre n l := rfl
    rw [e] at h3
    have e2 : At n (rnd n l (n + 1)) k k = 1 := by
      show At n (clo n l) k k = 1
      omega
    rw [e2] at h1
    cases e : fw (mat n l) (n + 1) k k with
    | none => rw [e] at h1; simp [enc] at h1
    | some x => rw [e] at h1; simp [enc] at h1; rw [h1]

/-- .. in the code's own sums. -/
theorem clo_sums {n : Nat} {l : List Int} (hn : n ≤ 10) (hl : l.length = (n + 1) * (n + 1)) (hv : ∀ a b, a ≤ n → b ≤ n → Wl (At n l a b)) (hd : ∀ i, i ≤ n → 1 ≤ At n (clo n l) i i) :
    ∀ i j k, i ≤ n → j ≤ n → k ≤ n → At n (clo n l) i j ≤ smW (At n (clo n l) i k) (At n (clo n l) k j) := by
  intro i j k hi hj hk
  obtain ⟨rep, tri, bd, _⟩ := fw_bd hn hl hv hd
  have t := tri k (by omega) i j
  rw [rep.2 i j hi hj, rep.2 i k hi hk, rep.2 k j hk hj]
  have st := enc_step (a := fw (mat n l) (n + 1) i j) (b := fw (mat n l) (n + 1) i k) (c := fw (mat n l) (n + 1) k j) (fun x h => (bd i j x h).2) (fun x h => bd i k x h) (fun x h => bd k j x h)
  rw [mn_eq_left t] at st
  rw [← st]
  exact Int.min_le_right _ _
end Go.Proofs.Ytjfhjckacfkpoaa.Zo

namespace Go.Proofs.Ytjfhjckacfkpoaa.Zo

theorem At_ext {n : Nat} {x y : List Int} (hx : x.length = (n + 1) * (n + 1)) (hy : y.length = (n + 1) * (n + 1)) (h : ∀ a b, a ≤ n → b ≤ n → At n x a b = At n y a b) : x = y := by
  refine List.ext_getElem (by omega) fun i h1 h2 => ?_
  have c1 : i / (n + 1) ≤ n := by
    have : i < (n + 1) * (n + 1) := by omega
    have := Nat.div_lt_of_lt_mul this
    omega
  have c2 : i % (n + 1) ≤ n := by have := Nat.mod_lt i (show 0 < n + 1 by omega); omega
  have := h _ _ c1 c2
  unfold At ix gt at this
  rw [show i / (n + 1) * (n + 1) + i % (n + 1) = i by rw [Nat.mul_comm]; exact Nat.div_add_mod i (n + 1)] at this
  simpa [h1, h2] using this

theorem pre_at {n : Nat} {l : List Int} (hl : l.length = (n + 1) * (n + 1)) {a b : Nat} (ha : a ≤ n) (hb : b ≤ n) : At n (pre n l) a b = if a = 0 ∨ a = b then min (At n l a b) 1 else At n l a b := by
  have h : ∀ t, t ≤ n + 1 → ((List.range t).foldl (st1 n) l).length = (n + 1) * (n + 1) ∧ At n ((List.range t).foldl (st1 n) l) a b = if (a = 0 ∨ a = b) ∧ b < t then min (At n l a b) 1 else At n l a b := by
    intro t
    induction t with
    | zero => intro _; exact ⟨hl, by simp⟩
    | succ t ih =>
      intro ht
      obtain ⟨h1, h2⟩ := ih (by omega)
      rw [fold_succ]
      generalize (List.range t).foldl (st1 n) l = Y at *
      refine ⟨by simpa [st1] using h1, ?_⟩
      have e : st1 n Y t = (Y.set (ix n 0 t) (min (At n Y 0 t) 1)).set (ix n t t) (min (At n (Y.set (ix n 0 t) (min (At n Y 0 t) 1)) t t) 1) := rfl
      have l1 : (Y.set (ix n 0 t) (min (At n Y 0 t) 1)).length = (n + 1) * (n + 1) := by simpa using h1
      rw [e, At_set l1 (by omega) (by omega) _ hb, At_set h1 (by omega) (by omega) _ hb, At_set h1 (by omega) (by omega) _ (by omega)]
      by_cases c : b = t
      · subst c
        by_cases ca : a = 0
        · subst ca
          have e1 : At n Y 0 b = At n l 0 b := by rw [h2, if_neg (by omega)]
          by_cases cb : b = 0
          · subst cb; simp [e1]
          · rw [if_neg (by omega), if_pos ⟨rfl, rfl⟩, if_pos ⟨Or.inl rfl, by omega⟩, e1]
        · by_cases cb : a = b
          · subst cb
            have e1 : At n Y a a = At n l a a := by rw [h2, if_neg (by omega)]
            rw [if_pos ⟨rfl, rfl⟩, if_neg (by omega), if_pos ⟨Or.inr rfl, by omega⟩, e1]
          · rw [if_neg (by omega), if_neg (by omega), if_neg (by omega), h2, if_neg (by omega)]
      · rw [if_neg (by omega), if_neg (by omega), h2]
        by_cases ca : (a = 0 ∨ a = b) ∧ b < t
        · rw [if_pos ca, if_pos ⟨ca.1, by omega⟩]
        · rw [if_neg ca, if_neg (by omega)]
  have := (h (n + 1) (Nat.le_refl _)).2
  rw [show (List.range (n + 1)).foldl (st1 n) l = pre n l from rfl] at this
  rw [this]
  by_cases c : a = 0 ∨ a = b
  · rw [if_pos ⟨c, by omega⟩, if_pos c]
  · rw [if_neg (by omega), if_neg c]

theorem pre_len {n : Nat} {l : List Int} (hl : l.length = (n + 1) * (n + 1)) : (pre n l).length = (n + 1) * (n + 1) := rnd_length hl 0 (by omega)

theorem pre_eq {n : Nat} {x y : List Int} (hx : x.length = (n + 1) * (n + 1)) (hy : y.length = (n + 1) * (n + 1))
    (h : ∀ a b, a ≤ n → b ≤ n → (a ≠ 0 ∧ a ≠ b → At n x a b = At n y a b) ∧ (a = 0 ∨ a = b → min (At n x a b) 1 = min (At n y a b) 1)) : pre n x = pre n y := by
  refine At_ext (pre_len hx) (pre_len hy) fun a b ha hb => ?_
  rw [pre_at hx ha hb, pre_at hy ha hb]
  by_cases c : a = 0 ∨ a = b
  · rw [if_pos c, if_pos c]; exact (h a b ha hb).2 c
  · rw [if_neg c, if_neg c]; exact (h a b ha hb).1 (by omega)

theorem clo_pre {n : Nat} {x y : List Int} (h : pre n x = pre n y) : clo n x = clo n y := by unfold clo; rw [h]

/-- A fold of stores: each place gets its own value. -/
theorem fold_at {n : Nat} {N : Nat} {f : List Int → Nat → List Int} {p : Nat → Nat → Nat → Bool} {v : Int} (hf : ∀ (x : List Int) t, t < N → x.length = (n + 1) * (n + 1) → (f x t).length = (n + 1) * (n + 1) ∧ ∀ a b, a ≤ n → b ≤ n → At n (f x t) a b = if p t a b then v else At n x a b)
    {l : List Int} (hl : l.length = (n + 1) * (n + 1)) : ∀ t, t ≤ N → ((List.range t).foldl f l).length = (n + 1) * (n + 1) ∧ ∀ a b, a ≤ n → b ≤ n → At n ((List.range t).foldl f l) a b = if (List.range t).any (fun s => p s a b) then v else At n l a b := by
  intro t
  induction t with
  | zero => intro _; exact ⟨hl, fun a b _ _ => by simp⟩
  | succ t ih =>
    intro ht
    obtain ⟨h1, h2⟩ := ih (by omega)
    rw [fold_succ]
    obtain ⟨h3, h4⟩ := hf _ t (by omega) h1
    refine ⟨h3, fun a b ha hb => ?_⟩
    rw [h4 a b ha hb, h2 a b ha hb, List.range_succ, List.any_append]
    cases h5 : p t a b <;> cases h6 : (List.range t).any (fun s => p s a b) <;> simp [h5]
end Go.Proofs.Ytjfhjckacfkpoaa.Zo

namespace Go.Proofs.Ytjfhjckacfkpoaa.Zo

def elS (n : Nat) (f : Nat → Nat → Int → Int) (i : Nat) (x : List Int) (j : Nat) : List Int := if i = j then x else x.set (ix n i j) (f i j (At n x i j))

def elJ (n : Nat) (f : Nat → Nat → Int → Int) (x : List Int) (i : Nat) : List Int := (List.range (n + 1)).foldl (elS n f i) x

def elL (n : Nat) (f : Nat → Nat → Int → Int) (l : List Int) : List Int := (List.range (n + 1)).foldl (elJ n f) l

theorem elS_len (n : Nat) (f : Nat → Nat → Int → Int) (i : Nat) (x : List Int) (j : Nat) : (elS n f i x j).length = x.length := by unfold elS; split <;> simp

theorem elS_fold_len (n : Nat) (f : Nat → Nat → Int → Int) (i : Nat) (x : List Int) : ∀ t, ((List.range t).foldl (elS n f i) x).length = x.length := by
  intro t
  induction t with
  | zero => rfl
  | succ t ih => rw [fold_succ, elS_len, ih]

theorem elJ_len (n : Nat) (f : Nat → Nat → Int → Int) (x : List Int) (i : Nat) : (elJ n f x i).length = x.length := elS_fold_len n f i x _

theorem elL_fold_len (n : Nat) (f : Nat → Nat → Int → Int) (x : List Int) : ∀ t, ((List.range t).foldl (elJ n f) x).length = x.length := by
  intro t
  induction t with
  | zero => rfl
  | succ t ih => rw [fold_succ, elJ_len, ih]

theorem elL_len (n : Nat) (f : Nat → Nat → Int → Int) (l : List Int) : (elL n f l).length = l.length := elL_fold_len n f l _

theorem elS_at {n : Nat} (f : Nat → Nat → Int → Int) {i : Nat} (hi : i ≤ n) {x : List Int} (hx : x.length = (n + 1) * (n + 1)) {a b : Nat} (_ha : a ≤ n) (hb : b ≤ n) :
    ∀ t, t ≤ n + 1 → At n ((List.range t).foldl (elS n f i) x) a b = if a = i ∧ b < t ∧ a ≠ b then f a b (At n x a b) else At n x a b := by
  intro t
  induction t with
  | zero => intro _; simp
  | succ t ih =>
    intro ht
    have h := ih (by omega)
    rw [fold_succ]
    have hl := elS_fold_len n f i x t
    generalize (List.range t).foldl (elS n f i) x = Y at *
    unfold elS
    by_cases c : i = t
    · rw [if_pos c, h]
      by_cases d : a = i ∧ b < t ∧ a ≠ b
      · rw [if_pos d, if_pos ⟨d.1, by omega, d.2.2⟩]
      · rw [if_neg d, if_neg (fun q => d ⟨q.1, by omega, q.2.2⟩)]
    · rw [if_neg c, At_set (by rw [hl, hx]) hi (by omega) _ hb]
      by_cases d : a = i ∧ b = t
      · obtain ⟨rfl, rfl⟩ := d
        rw [if_pos ⟨rfl, rfl⟩, if_pos ⟨rfl, by omega, c⟩]
        rw [h, if_neg (by omega)]
      · rw [if_neg (by omega), h]
        by_cases e : a = i ∧ b < t ∧ a ≠ b
        · rw [if_pos e, if_pos ⟨e.1, by omega, e.2.2⟩]
        · rw [if_neg e, if_neg (fun q => e ⟨q.1, by omega, q.2.2⟩)]

theorem elL_at {n : Nat} (f : Nat → Nat → Int → Int) {l : List Int} (hl : l.length = (n + 1) * (n + 1)) {a b : Nat} (ha : a ≤ n) (hb : b ≤ n) :
    At n (elL n f l) a b = if a = b then At n l a b else f a b (At n l a b) := by
  have h : ∀ t, t ≤ n + 1 → At n ((List.range t).foldl (elJ n f) l) a b = if a < t ∧ a ≠ b then f a b (At n l a b) else At n l a b := by
    intro t
    induction t with
    | zero => intro _; simp
    | succ t ih =>
      intro ht
      have h := ih (by omega)
      rw [fold_succ]
      have hy := elL_fold_len n f l t
      generalize (List.range t).foldl (elJ n f) l = Y at *
      unfold elJ
      rw [elS_at f (by omega) (by rw [hy, hl]) ha hb (n + 1) (by omega), h]
      by_cases c : a = t
      · subst c
        by_cases d : a = b
        · rw [if_neg (by omega), if_neg (by omega), if_neg (by omega)]
        · rw [if_pos ⟨rfl, by omega, d⟩, if_neg (by omega), if_pos ⟨by omega, d⟩]
      · rw [if_neg (by omega)]
        by_cases d : a < t ∧ a ≠ b
        · rw [if_pos d, if_pos ⟨by omega, d.2⟩]
        · rw [if_neg d, if_neg (fun q => d ⟨by omega, q.2⟩)]
  have := h (n + 1) (Nat.le_refl _)
  rw [show (List.range (n + 1)).foldl (elJ n f) l = elL n f l from rfl] at this
  rw [this]
  by_cases c : a = b
  · rw [if_neg (by omega), if_pos c]
  · rw [if_pos ⟨by omega, c⟩, if_neg c]

theorem elL_congr {n : Nat} {f g : Nat → Nat → Int → Int} {l : List Int} (hl : l.length = (n + 1) * (n + 1)) (h : ∀ a b, a ≤ n → b ≤ n → a ≠ b → f a b (At n l a b) = g a b (At n l a b)) : elL n f l = elL n g l := by
  refine At_ext (by rw [elL_len, hl]) (by rw [elL_len, hl]) fun a b ha hb => ?_
  rw [elL_at f hl ha hb, elL_at g hl ha hb]
  by_cases c : a = b
  · rw [if_pos c, if_pos c]
  · rw [if_neg c, if_neg c]; exact h a b ha hb c
end Go.Proofs.Ytjfhjckacfkpoaa.Zo

namespace Go.Proofs.Ytjfhjckacfkpoaa
open Go.RowKit

/-- An element, as a value. -/
def elV (i j x c : Int) : Value := .agg #[.int .i64 i, .int .i64 j, .int .i64 x, .int .i64 c]

theorem four_made (w : World) (a b c d : Value) (t : TypeId) : (w.alloc (.cells #[a, b, c, d] t)).cell? ⟨w.heap.size, 0, none⟩ = some a ∧ (w.alloc (.cells #[a, b, c, d] t)).cell? ⟨w.heap.size, 1, none⟩ = some b ∧
    (w.alloc (.cells #[a, b, c, d] t)).cell? ⟨w.heap.size, 2, none⟩ = some c ∧ (w.alloc (.cells #[a, b, c, d] t)).cell? ⟨w.heap.size, 3, none⟩ = some d := by
  refine ⟨?_, ?_, ?_, ?_⟩ <;> go_simp

set_option maxHeartbeats 1000000 in
theorem element_any (i j x : Int) (w : World) (hx : I64 x) : Calls Try.prog 53 #[.int .i64 i, .int .i64 j, .int .i64 x] w (Made (elV i j x (spC x)) w) := by
  have SP := Lib.hid (fun W => limSplit_any x W hx)
  have E0 := Lib.hid (one_more (w1 := w) (.cells #[.int .i64 0, .int .i64 0, .int .i64 0, .int .i64 0] 95))
  go_enter Try.func53, Try.ntmps53
  go_wp2_with fail
  refine (SP.out _).mono ?_
  rintro e w1 ⟨rfl, hw⟩
  rw [hw]
  clear hw w1
  go_wp2_with fail
  refine bodyPost_ret (v := elV i j x (spC x)) (by simp [results, Try.results53, go_sem, elV]) rfl ⟨rfl, ?_⟩
  exact one_more _

def mdT (v : Int) (b : Bool) : Value := .tuple #[.int .i64 v, .bool b]

theorem ret_md {a b : Int} {c d : Bool} (h : a = b) (g : c = d) : Ending.returned (.tuple #[.int .i64 a, .bool c]) = .returned (mdT b d) := by rw [h, g]; rfl

set_option maxHeartbeats 1000000 in
theorem case1_any (i : Nat) (j x c : Int) (low : List Int) (p : Nat) (a : Addr) (cap : Nat) (w : World) (hi : i < low.length) (hp : w.cell? ⟨p, 0, none⟩ = some (.slice (some a) low.length cap)) (hR : Rd w a low) :
    Calls Try.prog 54 #[elV i j x c, .pointer (some ⟨p, 0, none⟩)] w (Made (mdT 1099511627776 (decide (x = 1099511627776) || (decide (Zo.gt low i = -1) || decide (Zo.gt low i < c)))) w) := by
  obtain ⟨w0, hw0⟩ : ∃ w0, w0 = w.alloc (.cells #[.int .i64 i, .int .i64 j, .int .i64 x, .int .i64 c] 95) := ⟨_, rfl⟩
  have e0 : Below w.heap.size w w0 := by rw [hw0]; exact one_more _
  obtain ⟨b0, b1, b2, b3⟩ := four_made w (.int .i64 i) (.int .i64 j) (.int .i64 x) (.int .i64 c) 95
  rw [← hw0] at b0 b1 b2 b3
  have p0 := kept e0 hp
  have d1 := kept e0 (hR i hi)
  have E0 := Lib.hid e0
  generalize Zo.gt low i = y at *
  generalize low.length = len at *
  clear hp hR e0
  unfold elV
  cases h1 : (x == 1099511627776)
  · have g1 : decide (x = 1099511627776) = false := by simpa using h1
    cases h2 : (y == -1)
    · have g2 : decide (y = -1) = false := by simpa using h2
      go_enter Try.func54, Try.ntmps54
      go_wp2_with fail
      rw [← hw0]
      clear hw0
      go_quiet (fail)
      go_wp2_with fail
      go_ret2
      exact ⟨ret_md rfl (by rw [g1, g2]; simp), below_drewN E0.out _⟩
    · have g2 : decide (y = -1) = true := by simpa using h2
      go_enter Try.func54, Try.ntmps54
      go_wp2_with fail
      rw [← hw0]
      clear hw0
      go_quiet (fail)
      go_wp2_with fail
      go_ret2
      exact ⟨ret_md rfl (by rw [g2]; simp), below_drewN E0.out _⟩
  · have g1 : decide (x = 1099511627776) = true := by simpa using h1
    go_enter Try.func54, Try.ntmps54
    go_wp2_with fail
    rw [← hw0]
    clear hw0
    go_quiet (fail)
    go_wp2_with fail
    go_ret2
    exact ⟨ret_md rfl (by rw [g1]; simp), below_drewN E0.out _⟩

set_option maxHeartbeats 1000000 in
theorem case2_any (i j : Nat) (x c : Int) (high : List Int) (p : Nat) (a : Addr) (cap : Nat) (w : World) (hj : j < high.length) (hp : w.cell? ⟨p, 0, none⟩ = some (.slice (some a) high.length cap)) (hR : Rd w a high) :
    Calls Try.prog 55 #[elV i j x c, .pointer (some ⟨p, 0, none⟩)] w (Made (mdT (if i = 0 then 1 else 1099511627776) (decide (Zo.gt high j = -1))) w) := by
  obtain ⟨w0, hw0⟩ : ∃ w0, w0 = w.alloc (.cells #[.int .i64 i, .int .i64 j, .int .i64 x, .int .i64 c] 95) := ⟨_, rfl⟩
  have e0 : Below w.heap.size w w0 := by rw [hw0]; exact one_more _
  obtain ⟨b0, b1, b2, b3⟩ := four_made w (.int .i64 i) (.int .i64 j) (.int .i64 x) (.int .i64 c) 95
  rw [← hw0] at b0 b1 b2 b3
  have p0 := kept e0 hp
  have d1 := kept e0 (hR j hj)
  have E0 := Lib.hid e0
  generalize Zo.gt high j = y at *
  generalize high.length = len at *
  clear hp hR e0
  unfold elV
  have g2 : decide (y = -1) = (y == -1) := by rw [Bool.eq_iff_iff]; simp
  by_cases h1 : i = 0
  · have h3 : ((i : Int) == 0) = true := by simpa using h1
    rw [if_pos h1]
    clear h1
    go_enter Try.func55, Try.ntmps55
    go_wp2_with fail
    rw [← hw0]
    clear hw0
    go_wp2_with fail
    go_quiet (fail)
    go_wp2_with fail
    go_ret2
    exact ⟨ret_md rfl g2.symm, below_drewN E0.out _⟩
  · have h3 : ((i : Int) == 0) = false := by simpa using h1
    rw [if_neg h1]
    clear h1
    go_enter Try.func55, Try.ntmps55
    go_wp2_with fail
    rw [← hw0]
    clear hw0
    go_wp2_with fail
    go_quiet (fail)
    go_wp2_with fail
    go_ret2
    exact ⟨ret_md rfl g2.symm, below_drewN E0.out _⟩

set_option maxHeartbeats 1000000 in
theorem case3_any (i : Int) (j : Nat) (x c : Int) (high : List Int) (p : Nat) (a : Addr) (cap : Nat) (w : World) (hj : j < high.length) (hp : w.cell? ⟨p, 0, none⟩ = some (.slice (some a) high.length cap)) (hR : Rd w a high)
    (hb : -1 ≤ Zo.gt high j ∧ Zo.gt high j ≤ 1048576) :
    Calls Try.prog 56 #[elV i j x c, .pointer (some ⟨p, 0, none⟩)] w (Made (mdT (-2 * Zo.gt high j) (decide (c < -Zo.gt high j))) w) := by
  have e0 : Below w.heap.size w (w.alloc (.cells #[.int .i64 i, .int .i64 j, .int .i64 x, .int .i64 c] 95)) := one_more _
  obtain ⟨b0, b1, b2, b3⟩ := four_made w (.int .i64 i) (.int .i64 j) (.int .i64 x) (.int .i64 c) 95
  have p0 := kept e0 hp
  have d1 := kept e0 (hR j hj)
  have E0 := Lib.hid e0
  generalize Zo.gt high j = y at *
  generalize high.length = len at *
  clear hp hR e0
  have SC := Lib.hid (show ∀ W, Calls Try.prog 57 #[.int .i64 (-y)] W (Still (.tuple #[.int .i64 (-2 * y), .int .i64 0]) W) from fun W => by
    have := strict_any (-y) W
    rw [show jnL (-y) true = -2 * y by unfold jnL; simp; omega, show jnE (-y) = 0 by unfold jnE; simp; omega] at this
    exact this)
  have w9 := wrap_in (-y) (by omega) (by omega)
  unfold elV
  go_enter Try.func56, Try.ntmps56
  go_wp2_with fail
  refine (SC.out _).mono ?_
  rintro e w1 ⟨rfl, hw⟩
  rw [hw]
  clear hw w1
  go_wp2_with fail
  go_quiet (fail)
  go_wp2_with fail
  go_ret2
  exact ⟨ret_md rfl rfl, below_drewN E0.out _⟩

set_option maxHeartbeats 1000000 in
theorem case4_any (i j x c : Int) (w : World) :
    Calls Try.prog 58 #[elV i j x c] w (Made (mdT x true) w) := by
  obtain ⟨w0, hw0⟩ : ∃ w0, w0 = w.alloc (.cells #[.int .i64 i, .int .i64 j, .int .i64 x, .int .i64 c] 95) := ⟨_, rfl⟩
  have e0 : Below w.heap.size w w0 := by rw [hw0]; exact one_more _
  obtain ⟨b0, b1, b2, b3⟩ := four_made w (.int .i64 i) (.int .i64 j) (.int .i64 x) (.int .i64 c) 95
  rw [← hw0] at b0 b1 b2 b3
  have E0 := Lib.hid e0
  clear e0
  unfold elV
  go_enter Try.func58, Try.ntmps58
  go_wp2_with fail
  rw [← hw0]
  clear hw0
  go_wp2_with fail
  go_ret2
  exact ⟨ret_md rfl rfl, E0.out⟩
end Go.Proofs.Ytjfhjckacfkpoaa

namespace Go.Proofs.Ytjfhjckacfkpoaa
open Go.RowKit

/-- What the project makes of an element; lists of constants from the clock 0 on. -/
def dcV (i j : Nat) (x c : Int) (low high : List Int) : Int :=
  if (decide (x = 1099511627776) || (decide (Zo.gt low i = -1) || decide (Zo.gt low i < c))) = true then 1099511627776
  else if decide (Zo.gt high j = -1) = true then (if i = 0 then 1 else 1099511627776)
  else if decide (c < -Zo.gt high j) = true then -2 * Zo.gt high j
  else x

def rulesV (p q : Nat) : Value := .agg #[.func (.func 54) #[] #[.pointer (some ⟨p, 0, none⟩)], .func (.func 55) #[] #[.pointer (some ⟨q, 0, none⟩)], .func (.func 56) #[] #[.pointer (some ⟨q, 0, none⟩)], .func (.func 58) #[] #[]]

theorem enter_case1 (args : Array Value) (W : World) : (callFunc 54 args).run Try.prog W = .ok (.enter 54 args) W := by go_simp

theorem enter_case2 (args : Array Value) (W : World) : (callFunc 55 args).run Try.prog W = .ok (.enter 55 args) W := by go_simp

theorem enter_case3 (args : Array Value) (W : World) : (callFunc 56 args).run Try.prog W = .ok (.enter 56 args) W := by go_simp

theorem enter_case4 (args : Array Value) (W : World) : (callFunc 58 args).run Try.prog W = .ok (.enter 58 args) W := by go_simp

set_option maxRecDepth 100000 in
set_option maxHeartbeats 4000000 in
theorem decide_any (i j : Nat) (x c : Int) (low high : List Int) (p q : Nat) (a b : Addr) (ca cb : Nat) (w : World) (hi : i < low.length) (hj : j < high.length)
    (hp : w.cell? ⟨p, 0, none⟩ = some (.slice (some a) low.length ca)) (hq : w.cell? ⟨q, 0, none⟩ = some (.slice (some b) high.length cb)) (hR : Rd w a low) (hQ : Rd w b high) (hb : -1 ≤ Zo.gt high j ∧ Zo.gt high j ≤ 1048576) :
    Calls Try.prog 52 #[rulesV p q, elV i j x c] w (Made (.int .i64 (dcV i j x c low high)) w) := by
  have HF1 := enter_case1
  have HF2 := enter_case2
  have HF3 := enter_case3
  have HF4 := enter_case4
  have C1 := Lib.hid (fun W (h : Below w.heap.size w W) => case1_any i j x c low p a ca W hi (kept h hp) (hR.on h))
  have C2 := Lib.hid (fun W (h : Below w.heap.size w W) => case2_any i j x c high q b cb W hj (kept h hq) (hQ.on h))
  have C3 := Lib.hid (fun W (h : Below w.heap.size w W) => case3_any i j x c high q b cb W hj (kept h hq) (hQ.on h) hb)
  have C4 := Lib.hid (fun W => case4_any i j x c W)
  have DC := Lib.hid (show dcV i j x c low high = if (decide (x = 1099511627776) || (decide (Zo.gt low i = -1) || decide (Zo.gt low i < c))) = true then 1099511627776
    else if decide (Zo.gt high j = -1) = true then (if i = 0 then 1 else 1099511627776)
    else if decide (c < -Zo.gt high j) = true then -2 * Zo.gt high j
    else x from rfl)
  generalize (decide (x = 1099511627776) || (decide (Zo.gt low i = -1) || decide (Zo.gt low i < c))) = r1 at *
  generalize decide (Zo.gt high j = -1) = r2 at *
  generalize decide (c < -Zo.gt high j) = r3 at *
  generalize (if i = 0 then (1 : Int) else 1099511627776) = v2 at *
  generalize -2 * Zo.gt high j = v3 at *
  generalize dcV i j x c low high = R at *
  unfold mdT at C1 C2 C3 C4
  clear hi hj hp hq hR hQ hb
  obtain ⟨w0, hw0⟩ : ∃ w0, w0 = (w.alloc (.cells #[.func (.func 54) #[] #[.pointer (some ⟨p, 0, none⟩)], .func (.func 55) #[] #[.pointer (some ⟨q, 0, none⟩)], .func (.func 56) #[] #[.pointer (some ⟨q, 0, none⟩)], .func (.func 58) #[] #[]] 64)).alloc (.cells #[.int .i64 i, .int .i64 j, .int .i64 x, .int .i64 c] 95) := ⟨_, rfl⟩
  have e0 : Below w.heap.size w w0 := by rw [hw0]; exact past_two (Below.refl _ _)
  have KS := Lib.hid (show ∀ W, Below w0.heap.size w0 W → (W.cell? ⟨w.heap.size + 1, 0, none⟩ = some (.int .i64 i) ∧ W.cell? ⟨w.heap.size + 1, 1, none⟩ = some (.int .i64 j) ∧ W.cell? ⟨w.heap.size + 1, 2, none⟩ = some (.int .i64 x) ∧ W.cell? ⟨w.heap.size + 1, 3, none⟩ = some (.int .i64 c)) from fun W h => by
    have := four_made (w.alloc (.cells #[.func (.func 54) #[] #[.pointer (some ⟨p, 0, none⟩)], .func (.func 55) #[] #[.pointer (some ⟨q, 0, none⟩)], .func (.func 56) #[] #[.pointer (some ⟨q, 0, none⟩)], .func (.func 58) #[] #[]] 64)) (.int .i64 i) (.int .i64 j) (.int .i64 x) (.int .i64 c) 95
    rw [← hw0] at this
    rw [show ∀ o, (w.alloc o).heap.size = w.heap.size + 1 from fun o => by simp] at this
    exact ⟨kept h this.1, kept h this.2.1, kept h this.2.2.1, kept h this.2.2.2⟩)
  have KR := Lib.hid (show ∀ W, Below w0.heap.size w0 W → (W.cell? ⟨w.heap.size, 0, none⟩ = some (.func (.func 54) #[] #[.pointer (some ⟨p, 0, none⟩)]) ∧ W.cell? ⟨w.heap.size, 1, none⟩ = some (.func (.func 55) #[] #[.pointer (some ⟨q, 0, none⟩)]) ∧ W.cell? ⟨w.heap.size, 2, none⟩ = some (.func (.func 56) #[] #[.pointer (some ⟨q, 0, none⟩)]) ∧ W.cell? ⟨w.heap.size, 3, none⟩ = some (.func (.func 58) #[] #[])) from fun W h => by
    have := four_made w (.func (.func 54) #[] #[.pointer (some ⟨p, 0, none⟩)]) (.func (.func 55) #[] #[.pointer (some ⟨q, 0, none⟩)]) (.func (.func 56) #[] #[.pointer (some ⟨q, 0, none⟩)]) (.func (.func 58) #[] #[]) 64
    have g : ∀ {k : Nat} {v : Value}, (w.alloc (.cells #[.func (.func 54) #[] #[.pointer (some ⟨p, 0, none⟩)], .func (.func 55) #[] #[.pointer (some ⟨q, 0, none⟩)], .func (.func 56) #[] #[.pointer (some ⟨q, 0, none⟩)], .func (.func 58) #[] #[]] 64)).cell? ⟨w.heap.size, k, none⟩ = some v → W.cell? ⟨w.heap.size, k, none⟩ = some v := fun q => kept h (by rw [hw0]; exact kept (one_more _) q)
    exact ⟨g this.1, g this.2.1, g this.2.2.1, g this.2.2.2⟩)
  have E0 := Lib.hid e0
  have HW0 := Lib.hid hw0
  clear e0 hw0
  unfold elV rulesV
  go_enter Try.func52, Try.ntmps52
  go_wp2_with fail
  rw [← HW0.out]
  clear HW0
  go_wp2_with fail
  go_loopw [7, 5, 6] (fun s t u wr => ∃ (k : Nat) (v : Int) (ap : Bool), s = .int .i64 k ∧ t = .int .i64 v ∧ u = .bool ap ∧ k ≤ 4 ∧ Hid (ap = true → v = R) ∧ Hid (ap = false → k ≤ 3 ∧ (1 ≤ k → r1 = false) ∧ (2 ≤ k → r2 = false) ∧ (3 ≤ k → r3 = false)) ∧ Hid (Below w0.heap.size w0 wr)) (fun s _ _ _ => 5 - (intOf s).toNat)
  case atStart => exact ⟨0, 1099511627776, false, rfl, rfl, rfl, by omega, Lib.hid (fun h => by cases h), Lib.hid (fun _ => ⟨by omega, fun h => by omega, fun h => by omega, fun h => by omega⟩), Lib.hid (Below.refl _ _)⟩
  case round =>
    obtain ⟨k, v, ap, rfl, rfl, rfl, hk, HV, HK, HB⟩ := hrel
    cases ap
    · obtain ⟨hk3, h1, h2, h3⟩ := HK.out rfl
      have s1 : Below w0.heap.size w0 wr.drew := HB.out.drew
      have hkk : k = 0 ∨ k = 1 ∨ k = 2 ∨ k = 3 := by omega
      rcases hkk with rfl | rfl | rfl | rfl
      · clear HK
        clear h1 h2 h3
        go_wp2_with fail
        go_region_held3 (fun W => (W.cell? ⟨w.heap.size + 1, 0, none⟩ = some (.int .i64 i) ∧ W.cell? ⟨w.heap.size + 1, 1, none⟩ = some (.int .i64 j) ∧ W.cell? ⟨w.heap.size + 1, 2, none⟩ = some (.int .i64 x) ∧ W.cell? ⟨w.heap.size + 1, 3, none⟩ = some (.int .i64 c)) ∧ (W.cell? ⟨w.heap.size, 0, none⟩ = some (.func (.func 54) #[] #[.pointer (some ⟨p, 0, none⟩)]))) (first | exact ⟨KS.out _ s1, (KR.out _ s1).1⟩ | exact ⟨KS.out _ s2, (KR.out _ s2).1⟩)
          (first | (go_at_call 54; refine (C1.out _ (below_on E0.out s1)).mono ?_; rintro e w2 ⟨rfl, hb2⟩; have s2 := below_on s1 hb2))
        have Q := Lib.hid s2
        clear s1 s2 hb2
        go_wp2_with fail
        go_roundw
        case rel =>
          refine ⟨1, 1099511627776, r1, by go_num, rfl, rfl, by omega, Lib.hid (fun h => ?_), Lib.hid (fun h => ?_), Q⟩
          · rw [DC.out, h]; simp
          · exact ⟨by omega, fun _ => h, fun h => by omega, fun h => by omega⟩
        case measure => simp [intOf]
      · clear HK
        have g1 := h1 (by omega)
        subst g1
        clear h1 h2 h3
        go_wp2_with fail
        go_region_held3 (fun W => (W.cell? ⟨w.heap.size + 1, 0, none⟩ = some (.int .i64 i) ∧ W.cell? ⟨w.heap.size + 1, 1, none⟩ = some (.int .i64 j) ∧ W.cell? ⟨w.heap.size + 1, 2, none⟩ = some (.int .i64 x) ∧ W.cell? ⟨w.heap.size + 1, 3, none⟩ = some (.int .i64 c)) ∧ (W.cell? ⟨w.heap.size, 1, none⟩ = some (.func (.func 55) #[] #[.pointer (some ⟨q, 0, none⟩)]))) (first | exact ⟨KS.out _ s1, (KR.out _ s1).2.1⟩ | exact ⟨KS.out _ s2, (KR.out _ s2).2.1⟩)
          (first | (go_at_call 55; refine (C2.out _ (below_on E0.out s1)).mono ?_; rintro e w2 ⟨rfl, hb2⟩; have s2 := below_on s1 hb2))
        have Q := Lib.hid s2
        clear s1 s2 hb2
        go_wp2_with fail
        go_roundw
        case rel =>
          refine ⟨2, v2, r2, by go_num, rfl, rfl, by omega, Lib.hid (fun h => ?_), Lib.hid (fun h => ?_), Q⟩
          · rw [DC.out, h]; simp
          · exact ⟨by omega, fun _ => by first | rfl | trivial, fun _ => h, fun h => by omega⟩
        case measure => simp [intOf]
      · clear HK
        have g1 := h1 (by omega)
        have g2 := h2 (by omega)
        subst g1 g2
        clear h1 h2 h3
        go_wp2_with fail
        go_region_held3 (fun W => (W.cell? ⟨w.heap.size + 1, 0, none⟩ = some (.int .i64 i) ∧ W.cell? ⟨w.heap.size + 1, 1, none⟩ = some (.int .i64 j) ∧ W.cell? ⟨w.heap.size + 1, 2, none⟩ = some (.int .i64 x) ∧ W.cell? ⟨w.heap.size + 1, 3, none⟩ = some (.int .i64 c)) ∧ (W.cell? ⟨w.heap.size, 2, none⟩ = some (.func (.func 56) #[] #[.pointer (some ⟨q, 0, none⟩)]))) (first | exact ⟨KS.out _ s1, (KR.out _ s1).2.2.1⟩ | exact ⟨KS.out _ s2, (KR.out _ s2).2.2.1⟩)
          (first | (go_at_call 56; refine (C3.out _ (below_on E0.out s1)).mono ?_; rintro e w2 ⟨rfl, hb2⟩; have s2 := below_on s1 hb2))
        have Q := Lib.hid s2
        clear s1 s2 hb2
        go_wp2_with fail
        go_roundw
        case rel =>
          refine ⟨3, v3, r3, by go_num, rfl, rfl, by omega, Lib.hid (fun h => ?_), Lib.hid (fun h => ?_), Q⟩
          · rw [DC.out, h]; simp
          · exact ⟨by omega, fun _ => by first | rfl | trivial, fun _ => by first | rfl | trivial, fun _ => h⟩
        case measure => simp [intOf]
      · clear HK
        have g1 := h1 (by omega)
        have g2 := h2 (by omega)
        have g3 := h3 (by omega)
        subst g1 g2 g3
        clear h1 h2 h3
        go_wp2_with fail
        go_region_held3 (fun W => (W.cell? ⟨w.heap.size + 1, 0, none⟩ = some (.int .i64 i) ∧ W.cell? ⟨w.heap.size + 1, 1, none⟩ = some (.int .i64 j) ∧ W.cell? ⟨w.heap.size + 1, 2, none⟩ = some (.int .i64 x) ∧ W.cell? ⟨w.heap.size + 1, 3, none⟩ = some (.int .i64 c)) ∧ (W.cell? ⟨w.heap.size, 3, none⟩ = some (.func (.func 58) #[] #[]))) (first | exact ⟨KS.out _ s1, (KR.out _ s1).2.2.2⟩ | exact ⟨KS.out _ s2, (KR.out _ s2).2.2.2⟩)
          (first | (go_at_call 58; refine (C4.out _).mono ?_; rintro e w2 ⟨rfl, hb2⟩; have s2 := below_on s1 hb2))
        have Q := Lib.hid s2
        clear s1 s2 hb2
        go_wp2_with fail
        go_roundw
        case rel =>
          refine ⟨4, x, true, by go_num, rfl, rfl, by omega, Lib.hid (fun h => ?_), Lib.hid (fun h => ?_), Q⟩
          · rw [DC.out]; simp
          · cases h
        case measure => simp [intOf]
    · go_wp2_with fail
      go_ret
      exact ⟨ret_int (by simpa using HV.out), below_on E0.out HB.out⟩
end Go.Proofs.Ytjfhjckacfkpoaa

namespace Go.Proofs.Ytjfhjckacfkpoaa
open Go.RowKit

theorem rules_size (w : World) (p q : Nat) : (w.alloc (.cells #[.func (.func 54) #[] #[.pointer (some ⟨p, 0, none⟩)], .func (.func 55) #[] #[.pointer (some ⟨q, 0, none⟩)], .func (.func 56) #[] #[.pointer (some ⟨q, 0, none⟩)], .func (.func 58) #[] #[]] 64)).heap.size = w.heap.size + 1 := by simp

set_option maxRecDepth 100000 in
set_option maxHeartbeats 1000000 in
theorem cases_any (lo ho : Option Addr) (ll hl lc hc : Nat) (w : World) :
    Calls Try.prog 27 #[.slice lo ll lc, .slice ho hl hc] w (fun e w' => Below w.heap.size w w' ∧ e = .returned (rulesV w.heap.size (w.heap.size + 1)) ∧ w'.cell? ⟨w.heap.size, 0, none⟩ = some (.slice lo ll lc) ∧ w'.cell? ⟨w.heap.size + 1, 0, none⟩ = some (.slice ho hl hc)) := by
  have hmf : ∀ (fn : Fn) (first cap : Array Value) (W : World), (Instr.makeFunc fn first cap).run Try.prog W = .ok (.func fn first cap) W := fun _ _ _ _ => rfl
  have B1 := Lib.hid (fun o : Obj => one_more (w1 := w) o)
  have B2 := Lib.hid (fun o p : Obj => show Below w.heap.size w ((w.alloc o).alloc p) from past_two (Below.refl _ _))
  have B3 := Lib.hid (fun o p q : Obj => show Below w.heap.size w (((w.alloc o).alloc p).alloc q) from past_three (Below.refl _ _))
  have c0 := Lib.hid (show ∀ o p : Obj, (((w.alloc (.cells #[.slice lo ll lc] 25)).alloc o).alloc p).cell? ⟨w.heap.size, 0, none⟩ = some (.slice lo ll lc) from fun o p => by
    have : (w.alloc (.cells #[.slice lo ll lc] 25)).cell? ⟨w.heap.size, 0, none⟩ = some (.slice lo ll lc) := by go_simp
    exact kept (past_two (Below.refl _ _)) this)
  have c1 := Lib.hid (show ∀ o p : Obj, (((w.alloc o).alloc (.cells #[.slice ho hl hc] 25)).alloc p).cell? ⟨w.heap.size + 1, 0, none⟩ = some (.slice ho hl hc) from fun o p => by
    have : ((w.alloc o).alloc (.cells #[.slice ho hl hc] 25)).cell? ⟨w.heap.size + 1, 0, none⟩ = some (.slice ho hl hc) := by go_simp
    exact kept (one_more _) this)
  go_enter Try.func27, Try.ntmps27
  go_wp2_with fail
  refine bodyPost_ret (v := rulesV w.heap.size (w.heap.size + 1)) (by simp [results, Try.results27, go_sem, rulesV]) rfl ⟨B3.out _ _ _, rfl, c0.out _ _, c1.out _ _⟩
end Go.Proofs.Ytjfhjckacfkpoaa

namespace Go.Proofs.Ytjfhjckacfkpoaa
open Go.RowKit

/-- A matrix's limits as the array of 121 has them. -/
def pad (l : List Int) : List Int := l ++ List.replicate (121 - l.length) 0

/-- The cells of a matrix. -/
def mcs (n : Nat) (l : List Int) : Array Value := ⟨.int .i64 n :: (pad l).map (Value.int .i64)⟩

/-- Block b holds a matrix: its dimension and its limits. -/
def Mx (w : World) (b n : Nat) (l : List Int) : Prop := w.heap[b]? = some (.cells (mcs n l) 85 (0, 0)) ∧ l.length = (n + 1) * (n + 1)

theorem Mx.lt {w : World} {b n : Nat} {l : List Int} (h : Mx w b n l) : b < w.heap.size := by
  by_cases e : b < w.heap.size
  · exact e
  · have := h.1; rw [Array.getElem?_eq_none (by omega)] at this; cases this

theorem Mx.cell {w : World} {b n : Nat} {l : List Int} (h : Mx w b n l) (j : Nat) : w.cell? ⟨b, j, none⟩ = (mcs n l)[j]? := cell_of_row w b j _ _ _ h.1

theorem Mx.dim {w : World} {b n : Nat} {l : List Int} (h : Mx w b n l) : w.cell? ⟨b, 0, none⟩ = some (.int .i64 n) := by rw [h.cell]; rfl

theorem Mx.at {w : World} {b n : Nat} {l : List Int} (h : Mx w b n l) {j : Nat} (hj : j < l.length) : w.cell? ⟨b, 1 + j, none⟩ = some (.int .i64 (Zo.gt l j)) := by
  rw [h.cell, Nat.add_comm]
  simp [mcs, pad, Zo.gt, hj, List.getElem?_append]

theorem Mx.free {w : World} {b n : Nat} {l : List Int} (h : Mx w b n l) (j : Nat) : w.frozen? ⟨b, j, none⟩ = false := frozen_of_row w b j _ _ h.1

theorem pad_set (l : List Int) (j : Nat) (x : Int) (hj : j < l.length) : (pad l).set j x = pad (l.set j x) := by
  unfold pad; rw [List.set_append_left _ _ hj, List.length_set]

theorem Mx.put {w : World} {b n : Nat} {l : List Int} (h : Mx w b n l) (j : Nat) (x : Int) (hj : j < l.length) : Mx (w.setCell ⟨b, 1 + j, none⟩ (.int .i64 x)) b n (l.set j x) := by
  refine ⟨?_, by simpa using h.2⟩
  rw [heap_setCell_same w b _ _ _ _ h.1]
  congr 2
  rw [Nat.add_comm]
  simp [mcs, ← pad_set l j x hj, List.map_set]

theorem Mx.of_block {w w' : World} {b n : Nat} {l : List Int} (h : Mx w b n l) (e : w'.heap[b]? = w.heap[b]?) : Mx w' b n l := ⟨e.trans h.1, h.2⟩

theorem Mx.kept {w w' : World} {b n : Nat} {l : List Int} {r : Option Nat} (h : Mx w b n l) (hg : w.grownBy w' r) (hne : some b ≠ r) : Mx w' b n l := h.of_block (hg.block b h.lt hne)

theorem Mx.alloc {w : World} {b n : Nat} {l : List Int} (h : Mx w b n l) (o : Obj) : Mx (w.alloc o) b n l := h.of_block (heap_alloc_old w o h.lt)

theorem Mx.drew {w : World} {b n : Nat} {l : List Int} (h : Mx w b n l) : Mx w.drew b n l := h.of_block rfl

theorem grown_put (w : World) (b j : Nat) (v : Value) : w.grownBy (w.setCell ⟨b, j, none⟩ v) (some b) :=
  ⟨rfl, rfl, rfl, by simp, fun k _ hk => heap_setCell_other w ⟨b, j, none⟩ k v (fun e => hk (by simp [e]))⟩

theorem cells_ty : Try.prog.underlying 83 = some (.array 121 49) := by kernel_rfl

theorem limit_size (w : World) : (sizeOf 49).run Try.prog w = .ok 1 w := by
  have h : (Try.prog.info? 49).map (fun i => (i.zero, i.size)) = some (some (.int .i64 0), 1) := by kernel_rfl
  cases hq : Try.prog.info? 49 with
  | none => simp [hq] at h
  | some i => simp [hq] at h; simp [sizeOf, typeInfo, hq, h.2]

/-- A part of the cells of a matrix, as a slice. -/
theorem run_part (b : Nat) (x y : Int) (lo k : Nat) (hx : x = lo) (hy : y = ((lo + k : Nat) : Int)) (hk : 0 < k) (hm : lo + k ≤ 121) (w : World) :
    (Instr.sliceAt 83 (.pointer (some ⟨b, 1, none⟩)) (some (.int .i64 x)) (some (.int .i64 y)) (some (.int .i64 y))).run Try.prog w = .ok (.slice (some ⟨b, 1 + lo, none⟩) k k) w := by
  subst hx; subst hy
  have ha : Try.prog.arrayLen 83 = 121 := by simp [Program.arrayLen]
  have he : Try.prog.elem 83 = 49 := by simp [Program.elem]
  rw [run_sliceAt_array_lhm w 83 ⟨b, 1, none⟩ (by rw [ha, he]; exact cells_ty) .i64 .i64 .i64 lo (lo + k : Nat) (lo + k : Nat) (by omega) (by omega) (by omega) (by rw [ha]; omega)]
  rw [he, limit_size]
  simp only [Result.andThen_ok, slicedAt, Int.toNat_natCast]
  rw [if_neg (by omega), Addr.add_mid, Nat.mul_one, show lo + k - lo = k by omega]

set_option maxRecDepth 100000 in
set_option maxHeartbeats 400000 in
theorem row_any (b n i : Nat) (w : World) (hn : n ≤ 10) (hi : i ≤ n) (h : w.cell? ⟨b, 0, none⟩ = some (.int .i64 n)) :
    Calls Try.prog 76 #[.pointer (some ⟨b, 0, none⟩), .int .i64 i] w (Still (.slice (some ⟨b, 1 + i * (n + 1), none⟩) (n + 1) (n + 1)) w) := by
  have t1 : ((i : Int) + 1) * ((n : Int) + 1) = (i : Int) * ((n : Int) + 1) + ((n : Int) + 1) := by rw [Int.add_mul, Int.one_mul]
  have t0 : i * (n + 1) ≤ 10 * 11 := Nat.mul_le_mul (by omega) (by omega)
  have t3 : (i : Int) * ((n : Int) + 1) ≤ 110 ∧ 0 ≤ (i : Int) * ((n : Int) + 1) := by
    constructor
    · exact_mod_cast t0
    · exact_mod_cast Nat.zero_le _
  have hs := run_part b ((i : Int) * ((n : Int) + 1)) ((i : Int) * ((n : Int) + 1) + ((n : Int) + 1)) (i * (n + 1)) (n + 1) (by push_cast; rfl) (by push_cast; rfl) (by omega) (by omega)
  clear t0
  go_enter Try.func76, Try.ntmps76
  go_wp2_with fail
  go_ret
  exact ⟨rfl, rfl⟩

set_option maxRecDepth 100000 in
set_option maxHeartbeats 400000 in
/-- tighten: the element at a place becomes the lesser of itself and another limit. -/
theorem tighten_any (b n i j : Nat) (x : Int) (l : List Int) (w : World) (hn : n ≤ 10) (hi : i ≤ n) (hj : j ≤ n) (h : Mx w b n l) :
    Calls Try.prog 75 #[.pointer (some ⟨b, 0, none⟩), .int .i64 i, .int .i64 j, .int .i64 x] w
      (fun e w' => e = .returned (.tuple #[]) ∧ w.grownBy w' (some b) ∧ Mx w' b n (l.set (Zo.ix n i j) (imin (Zo.At n l i j) x))) := by
  have t1 := Zo.ix_lt hi hj
  have t0 : i * (n + 1) ≤ 10 * 11 := Nat.mul_le_mul (by omega) (by omega)
  have hl := h.2
  have t2 : Zo.ix n i j < l.length := by rw [hl]; exact t1
  have hc : w.cell? ⟨b, 1 + i * (n + 1) + j, none⟩ = some (.int .i64 (Zo.At n l i j)) := by rw [Nat.add_assoc]; exact h.at t2
  have hf := h.free (1 + i * (n + 1) + j)
  have PR := Lib.hid (row_any b n i w hn hi h.dim)
  have HM := Lib.hid (h.put (Zo.ix n i j) (imin (Zo.At n l i j) x) t2)
  have hm := run_imin (Zo.At n l i j) x
  clear t1 t0 h hl t2
  go_enter Try.func75, Try.ntmps75
  go_wp2_with fail
  refine PR.out.mono ?_
  rintro e w1 ⟨rfl, rfl⟩
  go_wp2_with fail
  go_end0
  refine ⟨rfl, ?_, ?_⟩
  · exact grown_put _ _ _ _
  · have := HM.out
    rwa [show 1 + Zo.ix n i j = 1 + i * (n + 1) + j by unfold Zo.ix; omega] at this
end Go.Proofs.Ytjfhjckacfkpoaa

namespace Go.Proofs.Ytjfhjckacfkpoaa
open Go.RowKit

theorem or1_i64 (a b : Int) : bits .and .i64 (bits .or .i64 a b) 1 = if a % 2 = 0 ∧ b % 2 = 0 then 0 else 1 := by
  rw [and1_i64]
  show (IntKind.i64.wrap (((BitVec.ofInt 64 a ||| BitVec.ofInt 64 b).toNat : Nat) : Int)) % 2 = _
  have hw : ∀ m : Nat, (IntKind.i64.wrap (m : Int)) % 2 = ((m % 2 : Nat) : Int) := by
    intro m; simp [IntKind.wrap, IntKind.bits, IntKind.signed]; omega
  rw [hw, BitVec.toNat_or]
  have ho : ∀ x y : Nat, (x ||| y) % 2 = if x % 2 = 0 ∧ y % 2 = 0 then 0 else 1 := by
    intro x y
    have := Nat.or_mod_two_pow (a := x) (b := y) (n := 1)
    simp only [Nat.pow_one] at this
    rw [this]
    rcases Nat.mod_two_eq_zero_or_one x with hx | hx <;> rcases Nat.mod_two_eq_zero_or_one y with hy | hy <;> rw [hx, hy] <;> rfl
  rw [ho]
  have e : ∀ x : Int, (BitVec.ofInt 64 x).toNat % 2 = 0 ↔ x % 2 = 0 := by
    intro x
    rw [BitVec.toNat_ofInt]
    have : ((2 ^ 64 : Nat) : Int) = 18446744073709551616 := by decide
    rw [this]; omega
  simp only [e]
  split <;> rfl

set_option maxHeartbeats 400000 in
theorem zsum_any (a b : Int) (w : World) : Calls Try.prog 77 #[.int .i64 a, .int .i64 b] w (Still (.int .i64 (Zo.smW a b)) w) := by
  by_cases na : a = 1099511627776
  · have A0 : (a == 1099511627776) = true := by simpa using na
    have H := Lib.hid (show Zo.smW a b = 1099511627776 by unfold Zo.smW; rw [if_pos (Or.inl na)])
    clear na
    go_enter Try.func77, Try.ntmps77
    go_wp2_with fail
    go_ret
    exact ⟨ret_int H.out.symm, rfl⟩
  have A0 : (a == 1099511627776) = false := by simpa using na
  by_cases nb : b = 1099511627776
  · have B0 : (b == 1099511627776) = true := by simpa using nb
    have H := Lib.hid (show Zo.smW a b = 1099511627776 by unfold Zo.smW; rw [if_pos (Or.inr nb)])
    clear na nb
    go_enter Try.func77, Try.ntmps77
    go_wp2_with fail
    go_ret
    exact ⟨ret_int H.out.symm, rfl⟩
  have B0 : (b == 1099511627776) = false := by simpa using nb
  have h0 : ¬ (a = 1099511627776 ∨ b = 1099511627776) := by omega
  go_enter Try.func77, Try.ntmps77
  go_wp2_with fail
  go_ret
  refine ⟨ret_int ?_, rfl⟩
  rw [or1_i64, w64_eq, w64_eq]
  unfold Zo.smW
  rw [if_neg h0]
  split
  · rw [Int.sub_zero]; unfold Zo.w64; omega
  · rfl

set_option maxHeartbeats 400000 in
theorem isDimension_any (n : Int) (w : World) : Calls Try.prog 68 #[.int .i64 n] w (Still (.bool (dimB n)) w) := by
  by_cases h : 0 ≤ n
  · by_cases g : n ≤ 10
    · have H := Lib.hid (show dimB n = true by unfold dimB; simp; omega)
      go_enter Try.func68, Try.ntmps68
      go_wp2_with fail
      go_ret
      exact ⟨ret_bool H.out.symm, rfl⟩
    · have H := Lib.hid (show dimB n = false by unfold dimB; simp; omega)
      have D : decide (n ≤ (10 : Int)) = false := by simp; omega
      go_enter Try.func68, Try.ntmps68
      go_wp2_with fail
      go_ret
      exact ⟨ret_bool H.out.symm, rfl⟩
  · have H := Lib.hid (show dimB n = false by unfold dimB; simp; omega)
    have D : decide ((0 : Int) ≤ n) = false := by simp; omega
    go_enter Try.func68, Try.ntmps68
    go_wp2_with fail
    go_ret
    exact ⟨ret_bool H.out.symm, rfl⟩

theorem places_any (n : Nat) (w : World) (hn : n ≤ 10) : Calls Try.prog 69 #[.int .i64 n] w (Still (.int .i64 ((n + 1) * (n + 1) : Nat)) w) := by
  have t3 : ((n : Int) + 1) * ((n : Int) + 1) ≤ 121 ∧ 0 ≤ ((n : Int) + 1) * ((n : Int) + 1) := by
    have : (n + 1) * (n + 1) ≤ 11 * 11 := Nat.mul_le_mul (by omega) (by omega)
    constructor
    · exact_mod_cast this
    · exact_mod_cast Nat.zero_le _
  have H := Lib.hid (show (((n + 1) * (n + 1) : Nat) : Int) = ((n : Int) + 1) * ((n : Int) + 1) by push_cast; rfl)
  go_enter Try.func69, Try.ntmps69
  go_wp2_with fail
  go_ret
  exact ⟨ret_int H.out.symm, rfl⟩
end Go.Proofs.Ytjfhjckacfkpoaa

namespace Go.Proofs.Ytjfhjckacfkpoaa
open Go.RowKit

/-- The matrix at b has become l; else nothing from before has turned. -/
def MSt (w0 : World) (b n : Nat) (l : List Int) (w : World) : Prop := Mx w b n l ∧ w0.grownBy w (some b)

theorem MSt.drew {w0 w : World} {b n : Nat} {l : List Int} (h : MSt w0 b n l w) : MSt w0 b n l w.drew :=
  ⟨h.1.drew, grown_trans h.2 ⟨rfl, rfl, rfl, Nat.le_refl _, fun _ _ _ => rfl⟩⟩

theorem MSt.put {w0 w : World} {b n : Nat} {l : List Int} (h : MSt w0 b n l w) (j : Nat) (x : Int) (hj : j < l.length) : MSt w0 b n (l.set j x) (w.setCell ⟨b, 1 + j, none⟩ (.int .i64 x)) :=
  ⟨h.1.put j x hj, grown_trans h.2 (grown_put _ _ _ _)⟩

theorem tighten_st {w0 : World} {b n i j : Nat} {l : List Int} {w : World} (x : Int) (hn : n ≤ 10) (hi : i ≤ n) (hj : j ≤ n) (h : MSt w0 b n l w) :
    Calls Try.prog 75 #[.pointer (some ⟨b, 0, none⟩), .int .i64 i, .int .i64 j, .int .i64 x] w
      (fun e w' => e = .returned (.tuple #[]) ∧ MSt w0 b n (l.set (Zo.ix n i j) (imin (Zo.At n l i j) x)) w') := by
  refine (tighten_any b n i j x l w hn hi hj h.1).mono ?_
  rintro e w' ⟨rfl, hg, hM⟩
  exact ⟨rfl, hM, grown_trans h.2 hg⟩

theorem st1_code {n : Nat} {l : List Int} (hl : l.length = (n + 1) * (n + 1)) {j : Nat} (hj : j ≤ n) :
    (l.set (Zo.ix n j j) (imin (Zo.At n l j j) 1)).set (Zo.ix n 0 j) (imin (Zo.At n (l.set (Zo.ix n j j) (imin (Zo.At n l j j) 1)) 0 j) 1) = Zo.st1 n l j := Zo.st1_eq hl hj

theorem st1_len {n : Nat} {l : List Int} (hl : l.length = (n + 1) * (n + 1)) (j : Nat) : (Zo.st1 n l j).length = (n + 1) * (n + 1) := by simpa [Zo.st1] using hl

set_option maxRecDepth 100000 in
set_option maxHeartbeats 4000000 in
theorem shorten_any (b n : Nat) (l : List Int) (w : World) (hn : n ≤ 10) (h : Mx w b n l) (h64 : Zo.A64 l) :
    Calls Try.prog 66 #[.pointer (some ⟨b, 0, none⟩)] w
      (fun e w' => e = .returned (.bool (!cloB n l)) ∧ ∃ l', MSt w b n l' w' ∧ (cloB n l = false → l' = Zo.clo n l)) := by
  have hl := h.2
  have HM := Lib.hid (show MSt w b n l w from ⟨h, World.grownBy.refl _ _⟩)
  have H64 := Lib.hid h64
  have hb := h.lt
  have KD := Lib.hid (show ∀ (x : List Int) (w' : World), MSt w b n x w' → w'.cell? ⟨b, 0, none⟩ = some (.int .i64 n) from fun x w' h => h.1.dim)
  have TT := Lib.hid (fun (x : List Int) (i j : Nat) (hi : i ≤ n) (hj : j ≤ n) (w' : World) (h : MSt w b n x w') => tighten_st (i := i) (j := j) 1 hn hi hj h)
  have TR := Lib.hid (fun (x : List Int) (i : Nat) (hi : i ≤ n) (w' : World) (h : MSt w b n x w') => row_any b n i w' hn hi h.1.dim)
  have c0 := h.dim
  clear h h64
  go_enter Try.func66, Try.ntmps66
  go_wp2_with fail
  clear c0
  go_loopw [15] (fun s wr => ∃ (t : Nat) (x : List Int), t ≤ n + 1 ∧ s = .int .i64 t ∧ Hid (x.length = (n + 1) * (n + 1) ∧ x = (List.range t).foldl (Zo.st1 n) l ∧ MSt w b n x wr)) (fun s _ => n + 1 - (intOf s).toNat)
  case atStart => exact ⟨0, l, by omega, rfl, Lib.hid ⟨hl, rfl, HM.out⟩⟩
  case round =>
    obtain ⟨t, x, ht, rfl, HX⟩ := hrel
    have c0 := KD.out _ _ HX.out.2.2
    by_cases htn : t ≤ n
    · go_wp2_with fail
      refine (TT.out _ _ _ htn htn _ HX.out.2.2).mono ?_
      rintro e w1 ⟨rfl, hm1⟩
      have H1 := Lib.hid hm1
      clear hm1 c0
      go_wp2_with fail
      refine (TT.out _ 0 t (by omega) htn _ H1.out).mono ?_
      rintro e w2 ⟨rfl, hm2⟩
      have H2 := Lib.hid hm2
      clear hm2
      go_wp2_with fail
      go_roundw
      case rel => exact ⟨t + 1, _, by omega, by go_num, Lib.hid ⟨st1_len HX.out.1 t, by rw [Zo.fold_succ, ← HX.out.2.1], by have := H2.out; rwa [st1_code HX.out.1 htn] at this⟩⟩
      case measure => simp [intOf]; omega
    · have HS := Lib.hid (show x.length = (n + 1) * (n + 1) ∧ Zo.Mid n l 0 0 x ∧ MSt w b n x _ from ⟨HX.out.1, by have := Zo.Mid.start hl H64.out; rwa [show Zo.pre n l = x by rw [HX.out.2.1, show t = n + 1 by omega]; rfl] at this, HX.out.2.2⟩)
      go_wp2_with fail
      clear c0
      go_loopw [31] (fun s wr => ∃ (t : Nat) (x : List Int), t ≤ n + 1 ∧ s = .int .i64 t ∧ Hid (x.length = (n + 1) * (n + 1) ∧ Zo.Mid n l t 0 x ∧ MSt w b n x wr)) (fun s _ => n + 1 - (intOf s).toNat)
      case atStart => exact ⟨0, x, by omega, rfl, HS⟩
      case round =>
        clear HS HX
        clear x
        obtain ⟨k, xk, hk, rfl, HK⟩ := hrel
        by_cases hkn : k ≤ n
        · go_wp2_with fail
          refine (TR.out _ _ hkn _ HK.out.2.2).mono ?_
          rintro e w1 ⟨rfl, rfl⟩
          have c0 := KD.out _ _ HK.out.2.2
          go_wp2_with fail
          clear c0
          go_loopw [42] (fun s wr => ∃ (t : Nat) (x : List Int), t ≤ n + 1 ∧ s = .int .i64 t ∧ Hid (x.length = (n + 1) * (n + 1) ∧ Zo.Mid n l k t x ∧ MSt w b n x wr)) (fun s _ => n + 1 - (intOf s).toNat)
          case atStart => exact ⟨0, xk, by omega, rfl, HK⟩
          case round =>
            obtain ⟨i, xi, hi, rfl, HI⟩ := hrel
            by_cases hin : i ≤ n
            · go_wp2_with fail
              refine (TR.out _ _ hin _ HI.out.2.2).mono ?_
              rintro e w1 ⟨rfl, rfl⟩
              have c0 := KD.out _ _ HI.out.2.2
              obtain ⟨c, hc⟩ : ∃ c, c = Zo.At n xi i k := ⟨_, rfl⟩
              have HC := Lib.hid hc
              have tik := Zo.ix_lt hin hkn
              have c1 : w1.cell? ⟨b, 1 + i * (n + 1) + k, none⟩ = some (.int .i64 c) := by
                rw [hc, Nat.add_assoc]; exact HI.out.2.2.1.at (by rw [HI.out.1]; exact tik)
              clear hc tik
              go_wp2_with fail
              clear c0 c1
              go_loopw [57] (fun s wr => ∃ (t : Nat) (x : List Int), t ≤ n + 1 ∧ s = .int .i64 t ∧ Hid (x.length = (n + 1) * (n + 1) ∧ x = (List.range t).foldl (Zo.prw n k i c) xi ∧ MSt w b n x wr)) (fun s _ => n + 1 - (intOf s).toNat)
              case atStart => exact ⟨0, xi, by omega, rfl, Lib.hid ⟨HI.out.1, rfl, HI.out.2.2⟩⟩
              case round =>
                obtain ⟨j, xj, hj, rfl, HJ⟩ := hrel
                by_cases hjn : j ≤ n
                · have tij := Zo.ix_lt hin hjn
                  have tkj := Zo.ix_lt hkn hjn
                  have c1 : ∀ w', MSt w b n xj w' → w'.cell? ⟨b, 1 + i * (n + 1) + j, none⟩ = some (.int .i64 (Zo.At n xj i j)) := fun w' h => by
                    rw [Nat.add_assoc]; exact h.1.at (by rw [HJ.out.1]; exact tij)
                  have c2 : ∀ w', MSt w b n xj w' → w'.cell? ⟨b, 1 + k * (n + 1) + j, none⟩ = some (.int .i64 (Zo.At n xj k j)) := fun w' h => by
                    rw [Nat.add_assoc]; exact h.1.at (by rw [HJ.out.1]; exact tkj)
                  have f1 : ∀ w', MSt w b n xj w' → w'.frozen? ⟨b, 1 + i * (n + 1) + j, none⟩ = false := fun w' h => h.1.free _
                  have ST := Lib.hid (show ∀ w' x, MSt w b n xj w' → MSt w b n (xj.set (Zo.ix n i j) x) (w'.setCell ⟨b, 1 + i * (n + 1) + j, none⟩ (.int .i64 x)) from fun w' x h => by
                    have := h.put (Zo.ix n i j) x (by rw [HJ.out.1]; exact tij)
                    rwa [show 1 + Zo.ix n i j = 1 + i * (n + 1) + j by unfold Zo.ix; omega] at this)
                  have hm := run_imin (Zo.At n xj i j) (Zo.smW c (Zo.At n xj k j))
                  have PS := zsum_any c (Zo.At n xj k j)
                  have d1 := c1 _ HJ.out.2.2
                  have d2 := c2 _ HJ.out.2.2
                  have d3 := f1 _ HJ.out.2.2
                  go_wp2_with fail
                  go_still_tail 14, (by kernel_rfl)
                  still_call (PS _)
                  repeat still_step
                  refine wpStill_nil ?_
                  clear d1 d2 d3
                  have HD := Lib.hid HJ.out.2.2.drew
                  have d1 := c1 _ HD.out
                  have d3 := f1 _ HD.out
                  change wpList _ _ _ _ _ (World.drew _)
                  go_wp2_with fail
                  have S4 := Lib.hid (ST.out _ (imin (Zo.At n xj i j) (Zo.smW c (Zo.At n xj k j))) HD.out)
                  clear hm PS c1 c2 f1 ST d1 d3 HD
                  go_roundw
                  case rel => exact ⟨j + 1, _, by omega, by go_num, Lib.hid ⟨by simpa using HJ.out.1, by rw [Zo.fold_succ, ← HJ.out.2.1]; rfl, S4.out⟩⟩
                  case measure => simp [intOf]; omega
                · have HR := Lib.hid (show xj = (List.range (n + 1)).foldl (Zo.prw n k i (Zo.At n xi i k)) xi by rw [← HC.out, show n + 1 = j by omega]; exact HJ.out.2.1)
                  have HL := Lib.hid HJ.out.1
                  have HW := Lib.hid HJ.out.2.2
                  have tii := Zo.ix_lt hin hin
                  obtain ⟨d, hd⟩ : ∃ d, d = Zo.At n xj i i := ⟨_, rfl⟩
                  have c1 : ∀ w', MSt w b n xj w' → w'.cell? ⟨b, 1 + i * (n + 1) + i, none⟩ = some (.int .i64 d) := fun w' h => by
                    rw [hd, Nat.add_assoc]; exact h.1.at (by rw [HL.out]; exact tii)
                  have d1 := c1 _ HW.out
                  have HDd := Lib.hid hd
                  clear hd tii
                  by_cases hneg : d < 1
                  · have HB := Lib.hid (show cloB n l = true by
                      unfold cloB; rw [List.any_eq_true]
                      refine ⟨i, by simp; omega, ?_⟩
                      simpa using Zo.Mid.bad hl hkn hin HI.out.2.1 HR.out (by rw [← HDd.out]; exact hneg))
                    have D : decide (d < 1) = true := by simpa using hneg
                    clear c1
                    go_wp2_with fail
                    go_ret
                    exact ⟨ret_bool (by rw [HB.out]; rfl), _, HW.out, fun h => by rw [HB.out] at h; cases h⟩
                  · have HN := Lib.hid (Zo.Mid.row hkn hin HI.out.2.1 HR.out (by rw [← HDd.out]; omega))
                    have D : decide (d < 1) = false := by simpa using hneg
                    clear c1
                    go_wp2_with fail
                    clear d1 D
                    go_roundw
                    case rel => exact ⟨i + 1, xj, by omega, by go_num, Lib.hid ⟨HL.out, HN.out, HW.out⟩⟩
                    case measure => simp [intOf]; omega
            · have HN := Lib.hid (show Zo.Mid n l (k + 1) 0 xi from Zo.Mid.round (by have := HI.out.2.1; rwa [show i = n + 1 by omega] at this))
              go_wp2_with fail
              go_roundw
              case rel => exact ⟨k + 1, xi, by omega, by go_num, Lib.hid ⟨HI.out.1, HN.out, HI.out.2.2⟩⟩
              case measure => simp [intOf]; omega
        · have HN := Lib.hid (show Zo.Mid n l (n + 1) 0 xk by have := HK.out.2.1; rwa [show k = n + 1 by omega] at this)
          have HB := Lib.hid (show cloB n l = false from cloB_no fun i hi => by have := HN.out.done.2 i (by omega); omega)
          go_wp2_with fail
          go_ret
          exact ⟨ret_bool (by rw [HB.out]; rfl), _, HK.out.2.2, fun _ => HN.out.done.1⟩
end Go.Proofs.Ytjfhjckacfkpoaa

namespace Go.Proofs.Ytjfhjckacfkpoaa
open Go.RowKit

theorem run_nil_cmp (w : World) (a : Option Addr) (n c : Nat) : (binOp .eql 22 (.slice a n c) (.slice none 0 0)).run Try.prog w = .ok (.bool a.isNone) w := Lib.run_eql_slice_nil w _ _ a n c 0 0 Try.underlying22

set_option maxRecDepth 100000 in
set_option maxHeartbeats 2000000 in
theorem clone_any (l : List Int) (b off : Nat) (cap : Nat) (w : World) (h0 : 0 < l.length) (h1 : l.length ≤ 1000) (hR : Rd w ⟨b, off, none⟩ l) :
    Calls Try.prog 51 #[.slice (some ⟨b, off, none⟩) l.length cap] w
      (fun e w' => ∃ g c, e = .returned (.slice (some ⟨g, 0, none⟩) l.length c) ∧ w.heap.size ≤ g ∧ Own w' g c l ∧ Below w.heap.size w w') := by
  obtain ⟨i0, hi, hz0, hz1, hz2⟩ := info_parts Try.info49
  have q := run_nil_cmp
  have A := Lib.hid (show ∀ (w' : World), Below w.heap.size w w' → ∀ j u, (l.map (Value.int .i64))[j]? = some u → w'.cell? ((⟨b, off, none⟩ : Addr).add j) = some u from fun w' h => (hR.on h).map)
  have l1 : (l.map (Value.int .i64)).length = l.length * 1 := by simp
  have o1 : ∀ u ∈ l.map (Value.int .i64), u.oneCell' = true := by simp [Value.oneCell']
  generalize hxs : l.map (Value.int .i64) = xs at *
  have HXS := Lib.hid hxs
  clear hxs hR
  generalize hlen : l.length = len at *
  have HLEN := Lib.hid hlen
  clear hlen
  go_enter Try.func51, Try.ntmps51
  go_wp2_with (at_builtin; refine wpList_append_own _ rfl _ _ 22 rfl w.heap.size 49 i0 (.int .i64 0) 1 8 Try.underlying22 hi hz0 hz1 hz2 rfl (by decide) _ _ _ rfl (World.ownsRow_made w #[] 0 (Nat.le_refl _) (Nat.zero_le _) (by simp)) ⟨b, off, none⟩ len cap xs rfl ?qc1 ?qc2 ?qc3 ?qc4 ?qc5 ?qc6 ?_)
  case qc1 => exact l1
  case qc2 =>
    intro j u hj
    exact A.out _ (one_more (.cells #[] 49)) j u hj
  case qc3 => exact o1
  case qc4 => unfold maxLen; omega
  case qc5 => omega
  case qc6 => simp
  intro v' w1 hown hgrow hnil
  have hown' : w1.ownsRow w.heap.size 49 1 v' len xs := by simpa using hown
  obtain ⟨g, c, rfl⟩ := Joins.ownsRow_form hown' (by omega)
  go_wp2
  go_ret
  obtain ⟨ho, hg⟩ := own_of hown' HXS.out.symm HLEN.out.symm
  exact ⟨g, c, rfl, hg, ho, ((Below.refl _ w).alloc (Nat.le_refl _) _).grown hgrow (by simp) (by intro k hk; simp [Value.ownBlock] at hk; omega)⟩

/-- The first elements of a matrix, as a slice. -/
theorem run_head (b : Nat) (y : Int) (k : Nat) (hy : y = (k : Int)) (hm : k ≤ 121) (w : World) :
    (Instr.sliceAt 83 (.pointer (some ⟨b, 1, none⟩)) none (some (.int .i64 y)) none).run Try.prog w = .ok (.slice (some ⟨b, 1, none⟩) k 121) w := by
  subst hy
  have ha : Try.prog.arrayLen 83 = 121 := by simp [Program.arrayLen]
  have he : Try.prog.elem 83 = 49 := by simp [Program.elem]
  rw [run_sliceAt_array_h w 83 ⟨b, 1, none⟩ (by rw [ha, he]; exact cells_ty) .i64 k (by omega) (by rw [ha]; omega)]
  rw [he, limit_size]
  simp only [Result.andThen_ok, slicedAt, Int.toNat_natCast, ha]
  rw [if_neg (by omega), Addr.add_mid]
  rfl

/-- What the method zone leaves: with no error a new row, else the zero zone; of what was there only block b has turned. -/
def GRes (b : Nat) (w : World) (N : Int) (l : List Int) (er : Int) (e : Ending) (w' : World) : Prop :=
  w.grownBy w' (some b) ∧ ((er = 0 ∧ ∃ g c, e = .returned (.tuple #[.agg #[.int .i64 N, .slice (some ⟨g, 0, none⟩) l.length c], .int .i64 0]) ∧ w.heap.size ≤ g ∧ Own w' g c l) ∨
    (er ≠ 0 ∧ e = .returned (.tuple #[.agg #[.int .i64 0, .slice none 0 0], .int .i64 er])))

theorem GRes.below {b : Nat} {w0 w : World} {N : Int} {l : List Int} {er : Int} {e : Ending} {w' : World} (h : GRes b w N l er e w') (hb : Below w0.heap.size w0 w) (hle : w0.heap.size ≤ b) : ZRes w0 N l er e w' := by
  obtain ⟨hg, h⟩ := h
  refine ⟨grown_over hb hg hle, ?_⟩
  rcases h with ⟨h0, g, c, h1, h2, h3⟩ | h
  · exact Or.inl ⟨h0, g, c, h1, Nat.le_trans hb.size h2, h3⟩
  · exact Or.inr h

theorem grown_two {w w' : World} {b x : Nat} (h : w.grownBy w' (some b)) (hx : w.heap.size ≤ x) (u v : Value) : w.grownBy ((w'.setCell ⟨x, 0, none⟩ u).setCell ⟨x, 1, none⟩ v) (some b) := by
  have e1 : w'.grownBy (w'.setCell ⟨x, 0, none⟩ u) (some x) := grown_put _ _ _ _
  have e2 : (w'.setCell ⟨x, 0, none⟩ u).grownBy ((w'.setCell ⟨x, 0, none⟩ u).setCell ⟨x, 1, none⟩ v) (some x) := grown_put _ _ _ _
  have e3 := grown_trans e1 e2
  exact ⟨e3.os.trans h.os, e3.tape.trans h.tape, e3.output.trans h.output, Nat.le_trans h.size e3.size, fun k hk hne => (e3.block k (Nat.lt_of_lt_of_le hk h.size) (by simp; omega)).trans (h.block k hk hne)⟩

theorem Mx.rd {w : World} {b n : Nat} {l : List Int} (h : Mx w b n l) : Rd w ⟨b, 1, none⟩ l := fun j hj => by rw [Addr.add_mid]; exact h.at hj

theorem grown_of_below {w w' : World} {r : Option Nat} (h : Below w.heap.size w w') : w.grownBy w' r := ⟨h.os, h.tape, h.output, h.size, fun k hk _ => h.block k hk⟩

theorem aside_two {w : World} {p : Addr} {x : Value} (h : w.cell? p = some x) {y : Nat} (hne : p.block ≠ y) (u v : Value) : ((w.setCell ⟨y, 0, none⟩ u).setCell ⟨y, 1, none⟩ v).cell? p = some x := by
  rw [World.cell?_setCell_other _ _ _ _ (fun e => hne (congrArg Addr.block e).symm), World.cell?_setCell_other _ _ _ _ (fun e => hne (congrArg Addr.block e).symm)]
  exact h

set_option maxRecDepth 100000 in
set_option maxHeartbeats 4000000 in
theorem mzone_any (b n : Nat) (l : List Int) (w : World) (hn : n ≤ 10) (h : Mx w b n l) (h64 : Zo.A64 l) :
    Calls Try.prog 50 #[.pointer (some ⟨b, 0, none⟩)] w (GRes b w n (Zo.clo n l) (cloE n l)) := by
  have hl := h.2
  have hb := h.lt
  obtain ⟨w0, hw0⟩ : ∃ w0, w0 = w.alloc (.cells #[.int .i64 0, .slice none 0 0] 24) := ⟨_, rfl⟩
  have M0 : Mx w0 b n l := by rw [hw0]; exact h.alloc _
  have rs : Two w0 w.heap.size (.int .i64 0) (.slice none 0 0) := by rw [hw0]; exact Two.made _ _ _ _
  have g0 : w.grownBy w0 (some b) := by rw [hw0]; exact World.grownBy_alloc _ _ _
  have z0 : w0.heap.size = w.heap.size + 1 := by rw [hw0]; simp
  have SH := Lib.hid (shorten_any b n l w0 hn M0 h64)
  have GB := Lib.hid g0
  have RS := Lib.hid rs
  clear h h64 M0 g0 rs
  go_enter Try.func50, Try.ntmps50
  go_wp2_with fail
  rw [← hw0]
  clear hw0
  go_wp2_with fail
  cases hB : cloB n l
  · have S0 := SH.out
    rw [hB] at S0
    refine S0.mono ?_
    rintro e w1 ⟨rfl, l', hM, hc⟩
    obtain rfl := hc rfl
    have hcl : (Zo.clo n l).length = (n + 1) * (n + 1) := by rw [Zo.clo_length, hl]
    have HCE := Lib.hid (show cloE n l = if (Zo.clo n l).all lvB then 0 else 7 by unfold cloE; rw [hB]; rfl)
    have c0 := hM.1.dim
    have KD := Lib.hid (show ∀ (w' : World), MSt w0 b n (Zo.clo n l) w' → w'.cell? ⟨b, 0, none⟩ = some (.int .i64 n) from fun w' h => h.1.dim)
    generalize hcc : Zo.clo n l = c at *
    have HM := Lib.hid hM
    have HL := Lib.hid hcl
    have HB := Lib.hid hB
    have HC := Lib.hid hcc
    clear hM S0 hB hcc SH
    have d2 := dsq_le hn
    have d1 := dsq_pos n
    have hr := run_head b ((((n + 1) * (n + 1) : Nat)) : Int) ((n + 1) * (n + 1)) rfl (dsq_le hn)
    have HP := Lib.hid (fun W => places_any n W hn)
    generalize hsz : (n + 1) * (n + 1) = sz at *
    have HSZ := Lib.hid hsz
    clear hsz hcl hl
    go_wp2_with fail
    refine wp_region_still_lit (by kernel_rfl) (by kernel_rfl) ?_
    repeat still_step
    still_call (HP.out _)
    repeat still_step
    refine wpStill_nil ?_
    clear c0 hr
    have HD := Lib.hid HM.out.drew
    change Exit.then _ _ _ _ (World.drew _)
    generalize w1.drew = w2 at *
    clear HM
    go_wp2_with fail
    go_loopw [22] (fun s wr => ∃ t : Nat, t ≤ sz ∧ s = .int .i64 t ∧ Hid (∀ i, i < t → lvB (Zo.gt c i) = true) ∧ Hid (MSt w0 b n c wr)) (fun s _ => sz - (intOf s).toNat)
    case atStart => exact ⟨0, by omega, rfl, Lib.hid (fun i hi => by omega), HD⟩
    case round =>
      clear HD
      obtain ⟨t, ht, rfl, HV, HT⟩ := hrel
      by_cases htn : t < sz
      · obtain ⟨v, hv⟩ : ∃ v, v = Zo.gt c t := ⟨_, rfl⟩
        have c1 : wr.cell? ⟨b, 1 + t, none⟩ = some (.int .i64 v) := by rw [hv]; exact HT.out.1.at (by rw [HL.out]; exact htn)
        have HVV := Lib.hid hv
        clear hv
        have PV := fun W => limValid_free v W
        cases lv : lvB v
        · rw [lv] at PV
          have HE := Lib.hid (show cloE n l = 7 by
            rw [HCE.out, if_neg]
            rw [List.all_eq_true]
            intro hall
            have := hall (c[t]'(by rw [HL.out]; exact htn)) (List.getElem_mem _)
            rw [show c[t]'(by rw [HL.out]; exact htn) = v by rw [HVV.out]; simp [Zo.gt, show t < c.length by rw [HL.out]; exact htn], lv] at this
            cases this)
          have PW := Lib.hid PV
          have rs1 := RS.out.grown HT.out.2 (by omega)
          obtain ⟨q0, q1, q2, q3⟩ := rs1.facts
          have HG := Lib.hid (grown_trans GB.out HT.out.2)
          clear PV
          go_wp2_with fail
          refine (PW.out _).mono ?_
          rintro e w3 ⟨rfl, rfl⟩
          go_wp2_with fail
          refine bodyPost_ret (v := .tuple #[.agg #[.int .i64 0, .slice none 0 0], .int .i64 7]) (by simp [results, Try.results50, go_sem, q0, q1]) rfl ⟨grown_two HG.out (Nat.le_refl _) _ _, Or.inr ⟨by rw [HE.out]; decide, by rw [HE.out]⟩⟩
        · rw [lv] at PV
          have PW := Lib.hid PV
          have HLV := Lib.hid lv
          clear PV lv
          go_wp2_with fail
          refine (PW.out _).mono ?_
          rintro e w3 ⟨rfl, rfl⟩
          clear c1
          go_wp2_with fail
          go_roundw
          case rel =>
            refine ⟨t + 1, by omega, by go_num, Lib.hid (fun i hi => ?_), HT⟩
            by_cases e : i = t
            · rw [e, ← HVV.out]; exact HLV.out
            · exact HV.out i (by omega)
          case measure => simp [intOf]; omega
      · have HE := Lib.hid (show cloE n l = 0 by
          rw [HCE.out, if_pos]
          rw [List.all_eq_true]
          intro x hx
          obtain ⟨i, hi, rfl⟩ := List.getElem_of_mem hx
          have := HV.out i (by have := HL.out; omega)
          simpa [Zo.gt, hi] using this)
        have rs1 := RS.out.grown HT.out.2 (by omega)
        have CL := Lib.hid (show ∀ w', MSt w0 b n c w' → Calls Try.prog 51 #[.slice (some ⟨b, 1, none⟩) sz 121] w' (fun e w'' => ∃ g cc, e = .returned (.slice (some ⟨g, 0, none⟩) sz cc) ∧ w'.heap.size ≤ g ∧ Own w'' g cc c ∧ Below w'.heap.size w' w'') from fun w' h => by
          have := clone_any c b 1 121 w' (by rw [HL.out]; exact d1) (by rw [HL.out]; omega) h.1.rd
          rwa [HL.out] at this)
        go_wp2_with fail
        have HDR := Lib.hid HT.out.drew
        have RSD := Lib.hid (show Two wr.drew w.heap.size (.int .i64 0) (.slice none 0 0) from rs1)
        clear rs1
        have c1 := KD.out _ HDR.out
        go_region_held3 (fun w' => w'.cell? ⟨b, 0, none⟩ = some (.int .i64 n)) (first | exact c1 | exact KD.out _ (by assumption) | exact c3 | exact c4 _ _)
          (first | (go_at_call 51; refine (CL.out _ HDR.out).mono ?_; rintro e w5 ⟨g, cc, rfl, hg, ho, hbe⟩; have c3 : w5.cell? ⟨b, 0, none⟩ = some (.int .i64 n) := kept hbe c1; have c4 : ∀ u v, ((w5.setCell ⟨w.heap.size, 0, none⟩ u).setCell ⟨w.heap.size, 1, none⟩ v).cell? ⟨b, 0, none⟩ = some (.int .i64 n) := (fun u v => aside_two c3 (by show b ≠ w.heap.size; omega) u v); obtain ⟨q0, q1, q2, q3⟩ := (RSD.out.kept hbe).facts))
        go_wp2_with fail
        have HG : w.grownBy w5 (some b) := grown_trans GB.out (grown_trans HDR.out.2 (grown_of_below hbe))
        have hg2 : w0.heap.size ≤ g := Nat.le_trans HDR.out.2.size hg
        refine bodyPost_ret (v := .tuple #[.agg #[.int .i64 n, .slice (some ⟨g, 0, none⟩) sz cc], .int .i64 0]) (by simp [results, Try.results50, go_sem, q0, q1]) rfl ⟨grown_two HG (Nat.le_refl _) _ _, Or.inl ⟨HE.out, g, cc, by rw [← HL.out], by omega, put_far ho (by omega) _ _⟩⟩
  · have S0 := SH.out
    rw [hB] at S0
    refine S0.mono ?_
    rintro e w1 ⟨rfl, l', hM, -⟩
    have HE := Lib.hid (show cloE n l = 4 by unfold cloE; rw [hB]; rfl)
    have rs1 := RS.out.grown hM.2 (by omega)
    obtain ⟨q0, q1, q2, q3⟩ := rs1.facts
    have HG := Lib.hid (grown_trans GB.out hM.2)
    clear hM S0 hB SH
    go_wp2_with fail
    refine bodyPost_ret (v := .tuple #[.agg #[.int .i64 0, .slice none 0 0], .int .i64 4]) (by simp [results, Try.results50, go_sem, q0, q1]) rfl ⟨grown_two HG.out (Nat.le_refl _) _ _, Or.inr ⟨by rw [HE.out]; decide, by rw [HE.out]⟩⟩
end Go.Proofs.Ytjfhjckacfkpoaa

namespace Go.Proofs.Ytjfhjckacfkpoaa
open Go.RowKit

set_option maxRecDepth 100000 in
set_option maxHeartbeats 2000000 in
theorem clone_arg (l : List Int) (a : Addr) (cap : Nat) (w : World) (h0 : 0 < l.length) (h1 : l.length ≤ 1000) (hR : Rd w a l) :
    Calls Try.prog 51 #[.slice (some a) l.length cap] w
      (fun e w' => ∃ g c, e = .returned (.slice (some ⟨g, 0, none⟩) l.length c) ∧ w.heap.size ≤ g ∧ Own w' g c l ∧ Below w.heap.size w w') := by
  obtain ⟨i0, hi, hz0, hz1, hz2⟩ := info_parts Try.info49
  have q := run_nil_cmp
  have A := Lib.hid (show ∀ (w' : World), Below w.heap.size w w' → ∀ j u, (l.map (Value.int .i64))[j]? = some u → w'.cell? (a.add j) = some u from fun w' h => (hR.on h).map)
  have l1 : (l.map (Value.int .i64)).length = l.length * 1 := by simp
  have o1 : ∀ u ∈ l.map (Value.int .i64), u.oneCell' = true := by simp [Value.oneCell']
  generalize hxs : l.map (Value.int .i64) = xs at *
  have HXS := Lib.hid hxs
  clear hxs hR
  generalize hlen : l.length = len at *
  have HLEN := Lib.hid hlen
  clear hlen
  go_enter Try.func51, Try.ntmps51
  go_wp2_with (at_builtin; refine wpList_append_own _ rfl _ _ 22 rfl w.heap.size 49 i0 (.int .i64 0) 1 8 Try.underlying22 hi hz0 hz1 hz2 rfl (by decide) _ _ _ rfl (World.ownsRow_made w #[] 0 (Nat.le_refl _) (Nat.zero_le _) (by simp)) a len cap xs rfl ?qc1 ?qc2 ?qc3 ?qc4 ?qc5 ?qc6 ?_)
  case qc1 => exact l1
  case qc2 =>
    intro j u hj
    exact A.out _ (one_more (.cells #[] 49)) j u hj
  case qc3 => exact o1
  case qc4 => unfold maxLen; omega
  case qc5 => omega
  case qc6 => simp
  intro v' w1 hown hgrow hnil
  have hown' : w1.ownsRow w.heap.size 49 1 v' len xs := by simpa using hown
  obtain ⟨g, c, rfl⟩ := Joins.ownsRow_form hown' (by omega)
  go_wp2
  go_ret
  obtain ⟨ho, hg⟩ := own_of hown' HXS.out.symm HLEN.out.symm
  exact ⟨g, c, rfl, hg, ho, ((Below.refl _ w).alloc (Nat.le_refl _) _).grown hgrow (by simp) (by intro k hk; simp [Value.ownBlock] at hk; omega)⟩

/-- Four cells of a block. -/
def Four (w : World) (b : Nat) (u v x y : Value) : Prop := w.cell? ⟨b, 0, none⟩ = some u ∧ w.cell? ⟨b, 1, none⟩ = some v ∧ w.cell? ⟨b, 2, none⟩ = some x ∧ w.cell? ⟨b, 3, none⟩ = some y

theorem Four.kept {w w' : World} {b : Nat} {u v x y : Value} (h : Four w b u v x y) (hb : Below w.heap.size w w') : Four w' b u v x y :=
  ⟨Proofs.Ytjfhjckacfkpoaa.kept hb h.1, Proofs.Ytjfhjckacfkpoaa.kept hb h.2.1, Proofs.Ytjfhjckacfkpoaa.kept hb h.2.2.1, Proofs.Ytjfhjckacfkpoaa.kept hb h.2.2.2⟩

theorem Four.grown {w w' : World} {b g : Nat} {u v x y : Value} (h : Four w b u v x y) (hg : w.grownBy w' (some g)) (hne : b ≠ g) : Four w' b u v x y :=
  ⟨hg.cell h.1 (by simpa using hne), hg.cell h.2.1 (by simpa using hne), hg.cell h.2.2.1 (by simpa using hne), hg.cell h.2.2.2 (by simpa using hne)⟩

theorem grown_st {w w' : World} {b g : Nat} {k : Nat} {v : Value} (h : w.cell? ⟨b, k, none⟩ = some v) (hg : w.grownBy w' (some g)) (hne : b ≠ g) : w'.cell? ⟨b, k, none⟩ = some v := hg.cell h (by simpa using hne)

theorem Rd.grown {w w' : World} {a : Addr} {l : List Int} {g : Nat} (h : Rd w a l) (hg : w.grownBy w' (some g)) (hne : l ≠ [] → a.block ≠ g) : Rd w' a l := fun j hj => by
  refine hg.cell (h j hj) ?_
  have := hne (fun e => by rw [e] at hj; simp at hj)
  rw [show (a.add j).block = a.block by unfold Addr.add; split <;> rfl]
  simpa using this
end Go.Proofs.Ytjfhjckacfkpoaa

namespace Go.Proofs.Ytjfhjckacfkpoaa
open Go.RowKit

/-- What a rule makes of an element, lists of constants from the clock 0 on. -/
def dcF (lo hi : List Int) : Nat → Nat → Int → Int := fun i j x => dcV i j x (spC x) lo hi

def A6 (l : List Int) : Prop := ∀ k, k < l.length → I64 (Zo.gt l k)

theorem A6.put {l : List Int} (h : A6 l) (k : Nat) {x : Int} (hx : I64 x) : A6 (l.set k x) := fun j hj => by
  rw [List.length_set] at hj
  by_cases c : k < l.length
  · rw [Zo.gt_set _ c]
    by_cases d : j = k
    · rw [if_pos d]; exact hx
    · rw [if_neg d]; exact h j hj
  · rw [List.set_eq_of_length_le (by omega)]; exact h j hj

theorem dcV_i64 {i j : Nat} {x c : Int} {lo hi : List Int} (hx : I64 x) (hb : -1 ≤ Zo.gt hi j ∧ Zo.gt hi j ≤ 1048576) : I64 (dcV i j x c lo hi) := by
  unfold dcV
  have t1 : I64 1099511627776 := i64lit _ (by omega) (by omega)
  split
  · exact t1
  · split
    · split
      · exact i64lit _ (by omega) (by omega)
      · exact t1
    · split
      · exact i64lit _ (by omega) (by omega)
      · exact hx

theorem St.on {w0 w w' : World} {g c : Nat} {l : List Int} (h : St w0 g c l w) (hb : Below w.heap.size w w') : St w0 g c l w' :=
  ⟨h.1.kept (grown_of_below (r := none) hb) (by simp), grown_trans h.2 (grown_of_below hb)⟩

theorem St.put {w0 w : World} {g c : Nat} {l : List Int} (h : St w0 g c l w) (k : Nat) (x : Int) : St w0 g c (l.set k x) (w.setCell ⟨g, k, none⟩ (.int .i64 x)) :=
  ⟨(h.1.put k x).1, grown_trans h.2 (h.1.put k x).2⟩

theorem St.get {w0 w : World} {g c : Nat} {l : List Int} (h : St w0 g c l w) {k : Nat} (hk : k < l.length) : w.cell? ⟨g, k, none⟩ = some (.int .i64 (Zo.gt l k)) ∧ w.frozen? ⟨g, k, none⟩ = false := by
  refine ⟨?_, World.ownsRow.frozenAt h.1 k⟩
  have := h.1.rd k hk
  rwa [addr_add] at this

set_option maxRecDepth 100000 in
set_option maxHeartbeats 8000000 in
theorem wchanged_any (n : Nat) (l : List Int) (a : Addr) (cap p q : Nat) (lo hi : List Int) (a1 a2 : Addr) (c1 c2 : Nat) (w : World) (hn : n ≤ 10) (hl : l.length = (n + 1) * (n + 1)) (hv : A6 l) (hR : Rd w a l)
    (hp : w.cell? ⟨p, 0, none⟩ = some (.slice (some a1) lo.length c1)) (hq : w.cell? ⟨q, 0, none⟩ = some (.slice (some a2) hi.length c2)) (hlo : lo.length = n + 1) (hhi : hi.length = n + 1) (hR1 : Rd w a1 lo) (hR2 : Rd w a2 hi)
    (hb : ∀ j, j ≤ n → -1 ≤ Zo.gt hi j ∧ Zo.gt hi j ≤ 1048576) :
    Calls Try.prog 26 #[.agg #[.int .i64 n, .slice (some a) l.length cap], rulesV p q] w
      (fun e w' => ∃ g c, e = .returned (.slice (some ⟨g, 0, none⟩) l.length c) ∧ w.heap.size ≤ g ∧ Own w' g c (Zo.elL n (dcF lo hi) l) ∧ Below w.heap.size w w') := by
  have l0 : 0 < l.length := by rw [hl]; exact dsq_pos n
  have l1 : l.length ≤ 121 := by rw [hl]; exact dsq_le hn
  obtain ⟨len, hlen⟩ : ∃ len, len = l.length := ⟨_, rfl⟩
  have HLen := Lib.hid hlen
  have CL := Lib.hid (show ∀ W, Below w.heap.size w W → Calls Try.prog 51 #[.slice (some a) len cap] W (fun e w' => ∃ g c, e = .returned (.slice (some ⟨g, 0, none⟩) len c) ∧ W.heap.size ≤ g ∧ Own w' g c l ∧ Below W.heap.size W w') from fun W h => by rw [hlen]; exact clone_arg l a cap W l0 (by omega) (hR.on h))
  have bp : p < w.heap.size := World.block_lt_of_cell? w _ hp
  have bq : q < w.heap.size := World.block_lt_of_cell? w _ hq
  have DE := Lib.hid (show ∀ (i j : Nat) (x c : Int) (g cc : Nat) (y : List Int) (w1 W : World), i ≤ n → j ≤ n → Below w.heap.size w w1 → w.heap.size ≤ g → St w1 g cc y W → Calls Try.prog 52 #[rulesV p q, elV i j x c] W (Made (.int .i64 (dcV i j x c lo hi)) W) from fun i j x c g cc y w1 W h1 h2 hw1 hg hS =>
    decide_any i j x c lo hi p q a1 a2 c1 c2 W (by omega) (by omega) (grown_st (kept hw1 hp) hS.2 (by omega)) (grown_st (kept hw1 hq) hS.2 (by omega))
      ((hR1.on hw1).grown hS.2 (fun e => by have := World.block_lt_of_cell? w _ (hR1 0 (by omega)); rw [show (a1.add 0).block = a1.block by unfold Addr.add; split <;> rfl] at this; omega))
      ((hR2.on hw1).grown hS.2 (fun e => by have := World.block_lt_of_cell? w _ (hR2 0 (by omega)); rw [show (a2.add 0).block = a2.block by unfold Addr.add; split <;> rfl] at this; omega)) (hb j h2))
  have HB := Lib.hid hb
  have HL := Lib.hid hl
  have HV := Lib.hid hv
  rw [← hlen]
  have ln : len ≤ 121 := by omega
  have lp : 0 < len := by omega
  clear hR hp hq hlo hhi hR1 hR2 hb hl hlen l0 l1 bp bq hv
  unfold rulesV at DE ⊢
  generalize hf1 : Value.func (.func 54) #[] #[.pointer (some ⟨p, 0, none⟩)] = f1 at *
  generalize hf2 : Value.func (.func 55) #[] #[.pointer (some ⟨q, 0, none⟩)] = f2 at *
  generalize hf3 : Value.func (.func 56) #[] #[.pointer (some ⟨q, 0, none⟩)] = f3 at *
  generalize hf4 : Value.func (.func 58) #[] #[] = f4 at *
  obtain ⟨w0, hw0⟩ : ∃ w0, w0 = (w.alloc (.cells #[.int .i64 n, .slice (some a) len cap] 24)).alloc (.cells #[f1, f2, f3, f4] 64) := ⟨_, rfl⟩
  have bx : Two w0 w.heap.size (.int .i64 n) (.slice (some a) len cap) := by rw [hw0]; exact (Two.made _ _ _ _).alloc _
  have br : Four w0 (w.heap.size + 1) f1 f2 f3 f4 := by
    rw [hw0]
    have := four_made (w.alloc (.cells #[.int .i64 n, .slice (some a) len cap] 24)) f1 f2 f3 f4 64
    rw [show ∀ o, (w.alloc o).heap.size = w.heap.size + 1 from fun o => by simp] at this
    exact this
  have E0 := Lib.hid (show Below w.heap.size w w0 by rw [hw0]; exact past_two (Below.refl _ _))
  have z0 : w0.heap.size = w.heap.size + 2 := by rw [hw0]; simp
  subst hf1 hf2 hf3 hf4
  go_enter Try.func26, Try.ntmps26
  go_wp2_with fail
  rw [← hw0]
  clear hw0
  obtain ⟨b0, b1, b2, b3⟩ := bx.facts
  go_wp2_with fail
  refine (CL.out _ E0.out).mono ?_
  rintro e w1 ⟨g, c, rfl, hg, ho, hb1⟩
  clear b0 b1 b2 b3 CL
  replace bx := bx.kept hb1
  replace br := br.kept hb1
  have E1 := Lib.hid (below_on E0.out hb1)
  have S1 := Lib.hid (show St w1 g c l w1 from ⟨ho, World.grownBy.refl _ _⟩)
  clear hb1 E0 ho
  obtain ⟨b0, b1, b2, b3⟩ := bx.facts
  go_wp2_with fail
  clear b0 b1 b2 b3
  go_loopw [15] (fun s wr => ∃ (t : Nat) (x : List Int), t ≤ n + 1 ∧ s = .int .i64 t ∧ Hid (x.length = len ∧ A6 x) ∧ Hid (x = (List.range t).foldl (Zo.elJ n (dcF lo hi)) l) ∧ Hid (St w1 g c x wr)) (fun s _ => n + 1 - (intOf s).toNat)
  case atStart => exact ⟨0, l, by omega, rfl, Lib.hid ⟨HLen.out.symm, HV.out⟩, Lib.hid rfl, S1⟩
  case round =>
    obtain ⟨t, x, ht, rfl, HXL, HX, HT⟩ := hrel
    obtain ⟨b0, b1, b2, b3⟩ := (bx.grown HT.out.2 (by omega)).facts
    by_cases htn : t ≤ n
    · have D1 : decide ((t : Int) < (n : Int) + 1) = true := by simp; omega
      go_wp2_with fail
      clear b0 b1 b2 b3
      go_loopw [21] (fun s wr => ∃ (u : Nat) (y : List Int), u ≤ n + 1 ∧ s = .int .i64 u ∧ Hid (y.length = len ∧ A6 y) ∧ Hid (y = (List.range u).foldl (Zo.elS n (dcF lo hi) t) x) ∧ Hid (St w1 g c y wr)) (fun s _ => n + 1 - (intOf s).toNat)
      case atStart => exact ⟨0, x, by omega, rfl, HXL, Lib.hid rfl, HT⟩
      case round =>
        obtain ⟨u, y, hu, rfl, HYL, HY, HU⟩ := hrel
        obtain ⟨b0, b1, b2, b3⟩ := (bx.grown HU.out.2 (by omega)).facts
        by_cases hun : u ≤ n
        · have D2 : decide ((u : Int) < (n : Int) + 1) = true := by simp; omega
          have t1 := Zo.ix_lt htn hun
          have t2 : (t : Int) * ((n : Int) + 1) + (u : Int) < (len : Int) := by rw [HLen.out, HL.out]; exact_mod_cast t1
          have t3 : (t : Int) * ((n : Int) + 1) ≤ 110 ∧ 0 ≤ (t : Int) * ((n : Int) + 1) := by
            have : t * (n + 1) ≤ 10 * 11 := Nat.mul_le_mul (by omega) (by omega)
            constructor
            · exact_mod_cast this
            · exact_mod_cast Nat.zero_le _
          by_cases htu : t = u
          · have D3 : ((t : Int) != (u : Int)) = false := by simp; omega
            have HE := Lib.hid htu
            clear htu
            go_wp2_with fail
            go_roundw
            case rel => exact ⟨u + 1, y, by omega, by go_num, HYL, Lib.hid (by rw [Zo.fold_succ, ← HY.out]; unfold Zo.elS; rw [if_pos HE.out]), HU⟩
            case measure => simp [intOf]; omega
          · have D3 : ((t : Int) != (u : Int)) = true := by simp; omega
            have HE := Lib.hid htu
            clear htu
            obtain ⟨r0, r1, r2, r3⟩ := br.grown HU.out.2 (by omega)
            obtain ⟨z, hz⟩ : ∃ z, z = Zo.At n y t u := ⟨_, rfl⟩
            have iz : I64 z := by rw [hz]; exact HYL.out.2 _ (by rw [HYL.out.1, HLen.out, HL.out]; exact t1)
            have HZ := Lib.hid hz
            have CF := Lib.hid (show ∀ W, St w1 g c y W → W.cell? ⟨g, t * (n + 1) + u, none⟩ = some (.int .i64 z) ∧ W.frozen? ⟨g, t * (n + 1) + u, none⟩ = false from fun W h => by
              rw [hz]; exact h.get (k := Zo.ix n t u) (by rw [HYL.out.1, HLen.out, HL.out]; exact t1))
            have EL := Lib.hid (fun W => element_any t u z W iz)
            have DX := Lib.hid (show ∀ W, St w1 g c y W → _ from fun W h => DE.out t u z (spC z) g c y w1 W htn hun E1.out (by have := E1.out.size; omega) h)
            have s1 : St w1 g c y wr.drew := HU.out.drew
            obtain ⟨q0, q1⟩ := CF.out _ s1
            clear hz t1
            unfold elV at EL DX
            obtain ⟨zv, hzv⟩ : ∃ zv, zv = dcV t u z (spC z) lo hi := ⟨_, rfl⟩
            have HZV := Lib.hid hzv
            rw [← hzv] at DX
            have HIZ := Lib.hid (show I64 zv by rw [hzv]; exact dcV_i64 iz (HB.out u hun))
            clear hzv iz
            have KS := Lib.hid (show ∀ z W, St w1 g c z W → (W.cell? ⟨w.heap.size + 1, 0, none⟩ = some (.func (.func 54) #[] #[.pointer (some ⟨p, 0, none⟩)]) ∧ W.cell? ⟨w.heap.size + 1, 1, none⟩ = some (.func (.func 55) #[] #[.pointer (some ⟨q, 0, none⟩)]) ∧ W.cell? ⟨w.heap.size + 1, 2, none⟩ = some (.func (.func 56) #[] #[.pointer (some ⟨q, 0, none⟩)]) ∧ W.cell? ⟨w.heap.size + 1, 3, none⟩ = some (.func (.func 58) #[] #[])) from fun z W h => br.grown h.2 (by omega))
            clear r0 r1 r2 r3
            have t4 : 0 ≤ (t : Int) * ((n : Int) + 1) + (u : Int) := by omega
            have t5 : ((t : Int) * ((n : Int) + 1) + (u : Int)).toNat = t * (n + 1) + u := by
              rw [show (t : Int) * ((n : Int) + 1) + (u : Int) = ((t * (n + 1) + u : Nat) : Int) by push_cast; rfl]; exact Int.toNat_natCast _
            go_wp2_with fail
            refine wp_region_held_drew (S := (fun W => W.cell? ⟨w.heap.size + 1, 0, none⟩ = some (.func (.func 54) #[] #[.pointer (some ⟨p, 0, none⟩)]) ∧ W.cell? ⟨w.heap.size + 1, 1, none⟩ = some (.func (.func 55) #[] #[.pointer (some ⟨q, 0, none⟩)]) ∧ W.cell? ⟨w.heap.size + 1, 2, none⟩ = some (.func (.func 56) #[] #[.pointer (some ⟨q, 0, none⟩)]) ∧ W.cell? ⟨w.heap.size + 1, 3, none⟩ = some (.func (.func 58) #[] #[]))) (by kernel_rfl) (KS.out _ _ s1) (fun h0 => ?_)
            refine wpAnyH_take (i := 0) (v := ?v1) rfl (by kernel_rfl) (by kernel_rfl) (by kernel_rfl) (fun _ _ _ h => h) (Or.inl ⟨by rfl, ?hy1⟩) h0 ?rest1
            case hy1 => (intro w' hS; (try dsimp only at hS); go_simp; try (with_reducible rfl))
            simp only [Act.put, List.getElem_toArray, List.getElem_cons_zero, List.setIfInBounds_toArray, List.set_cons_zero, List.set_cons_succ]
            refine wpAnyH_take (i := 1) (v := ?v2) rfl (by kernel_rfl) (by kernel_rfl) (by kernel_rfl) (fun _ _ _ h => h) (Or.inl ⟨by rfl, ?hy2⟩) h0 ?rest2
            case hy2 => (intro w' hS; (try dsimp only at hS); go_simp; try (with_reducible rfl))
            simp only [Act.put, List.getElem_toArray, List.getElem_cons_zero, List.getElem_cons_succ, List.setIfInBounds_toArray, List.set_cons_zero, List.set_cons_succ]
            refine wpAnyH_take (i := 2) (v := ?v3) rfl (by kernel_rfl) (by kernel_rfl) (by kernel_rfl) (fun _ _ _ h => h) (Or.inl ⟨by rfl, ?hy3⟩) h0 ?rest3
            case hy3 => (intro w' hS; (try dsimp only at hS); go_simp; try (with_reducible rfl))
            simp only [Act.put, List.getElem_toArray, List.getElem_cons_zero, List.getElem_cons_succ, List.setIfInBounds_toArray, List.set_cons_zero, List.set_cons_succ]
            refine wpAnyH_take (i := 3) (v := ?v4) rfl (by kernel_rfl) (by kernel_rfl) (by kernel_rfl) (fun _ _ _ h => h) (Or.inl ⟨by rfl, ?hy4⟩) h0 ?rest4
            case hy4 => (intro w' hS; (try dsimp only at hS); go_simp; try (with_reducible rfl))
            simp only [Act.put, List.getElem_toArray, List.getElem_cons_zero, List.getElem_cons_succ, List.setIfInBounds_toArray, List.set_cons_zero, List.set_cons_succ]
            refine wpAnyH_take (i := 4) (v := ?v5) rfl (by kernel_rfl) (by kernel_rfl) (by kernel_rfl) (fun _ _ _ h => h) (Or.inl ⟨by rfl, ?hy5⟩) h0 ?rest5
            case hy5 => (intro w' hS; (try dsimp only at hS); go_simp; try (with_reducible rfl))
            simp only [Act.put, List.getElem_toArray, List.getElem_cons_zero, List.getElem_cons_succ, List.setIfInBounds_toArray, List.set_cons_zero, List.set_cons_succ]
            refine wpAnyH_take (i := 5) (v := ?v6) rfl (by kernel_rfl) (by kernel_rfl) (by kernel_rfl) (fun _ _ _ h => h) (Or.inl ⟨by rfl, ?hy6⟩) h0 ?rest6
            case hy6 => (intro w' hS; (try dsimp only at hS); go_simp; try (with_reducible rfl))
            simp only [Act.put, List.getElem_toArray, List.getElem_cons_zero, List.getElem_cons_succ, List.setIfInBounds_toArray, List.set_cons_zero, List.set_cons_succ]
            refine wpAnyH_take (i := 6) (v := ?v7) rfl (by kernel_rfl) (by kernel_rfl) (by kernel_rfl) (fun _ _ _ h => h) (Or.inl ⟨by rfl, ?hy7⟩) h0 ?rest7
            case hy7 => (intro w' hS; (try dsimp only at hS); go_simp; try (with_reducible rfl))
            simp only [Act.put, List.getElem_toArray, List.getElem_cons_zero, List.getElem_cons_succ, List.setIfInBounds_toArray, List.set_cons_zero, List.set_cons_succ]
            refine wpAnyH_take (i := 7) (v := ?v8) rfl (by kernel_rfl) (by kernel_rfl) (by kernel_rfl) (fun _ _ _ h => h) (Or.inl ⟨by rfl, ?hy8⟩) h0 ?rest8
            case hy8 => (intro w' hS; (try dsimp only at hS); go_simp; try (with_reducible rfl))
            simp only [Act.put, List.getElem_toArray, List.getElem_cons_zero, List.getElem_cons_succ, List.setIfInBounds_toArray, List.set_cons_zero, List.set_cons_succ]
            refine wpAnyH_ready (rs := [8]) (by kernel_rfl) (by simp) (AllReadyH.cons rfl (fun K hK => ?_) AllReadyH.nil)
            rw [if_pos (by rfl)]
            go_simp
            refine hK.out _ _ (KS.out _ _ s1) (fun h0_1 => ?_)
            clear hK K h0
            refine wpAnyH_ready (rs := [9]) (by kernel_rfl) (by simp) (AllReadyH.cons rfl (fun K hK => ?_) AllReadyH.nil)
            rw [if_pos (by rfl)]
            go_simp
            refine (EL.out _).mono ?_
            rintro e w2 ⟨rfl, hb2⟩
            have s2 := s1.on hb2
            clear hb2
            go_simp
            refine hK.out _ _ (KS.out _ _ s2) (fun h0_2 => ?_)
            clear hK K h0_1
            refine wpAnyH_ready (rs := [10]) (by kernel_rfl) (by simp) (AllReadyH.cons rfl (fun K hK => ?_) AllReadyH.nil)
            rw [if_pos (by rfl)]
            go_simp
            refine (DX.out _ s2).mono ?_
            rintro e w3 ⟨rfl, hb3⟩
            have s3 := s2.on hb3
            obtain ⟨p0, p1⟩ := CF.out _ s3
            clear hb3
            go_simp
            refine hK.out _ _ (KS.out _ _ s3) (fun h0_3 => ?_)
            clear hK K h0_2
            refine wpAnyH_ready (rs := [11]) (by kernel_rfl) (by simp) (AllReadyH.cons rfl (fun K hK => ?_) AllReadyH.nil)
            rw [if_pos (by rfl)]
            go_simp
            refine hK.out _ _ (KS.out _ _ s3) (fun h0_4 => ?_)
            clear hK K h0_3
            refine wpAnyH_ready (rs := [12]) (by kernel_rfl) (by simp) (AllReadyH.cons rfl (fun K hK => ?_) AllReadyH.nil)
            rw [if_pos (by rfl)]
            go_simp
            refine hK.out _ _ (KS.out _ _ (s3.put _ zv)) (fun h0_5 => ?_)
            clear hK K h0_4
            refine wpAnyH_done (by kernel_rfl) ?_ _
            have S4 := Lib.hid (s3.put (t * (n + 1) + u) zv)
            go_wp2_with fail
            go_roundw
            case rel => exact ⟨u + 1, y.set (t * (n + 1) + u) zv, by omega, by go_num, Lib.hid ⟨by rw [List.length_set]; exact HYL.out.1, HYL.out.2.put _ HIZ.out⟩, Lib.hid (by rw [Zo.fold_succ, ← HY.out]; unfold Zo.elS; rw [if_neg HE.out, ← HZ.out, HZV.out]; rfl), S4⟩
            case measure => simp [intOf]; omega
        · have D2 : decide ((u : Int) < (n : Int) + 1) = false := by simp; omega
          have HE := Lib.hid (show y = Zo.elJ n (dcF lo hi) x t by rw [HY.out, show u = n + 1 by omega]; rfl)
          go_wp2_with fail
          go_roundw
          case rel => exact ⟨t + 1, y, by omega, by go_num, HYL, Lib.hid (by rw [Zo.fold_succ, ← HX.out]; exact HE.out), HU⟩
          case measure => simp [intOf]; omega
    · have D1 : decide ((t : Int) < (n : Int) + 1) = false := by simp; omega
      have HE := Lib.hid (show x = Zo.elL n (dcF lo hi) l by rw [HX.out, show t = n + 1 by omega]; rfl)
      clear b0 b1 b2 b3
      go_wp2_with fail
      go_ret
      exact ⟨g, c, rfl, by have := E1.out.size; omega, by rw [← HE.out]; exact HT.out.1, grown_over E1.out HT.out.2 (by omega)⟩
end Go.Proofs.Ytjfhjckacfkpoaa

namespace Go.Proofs.Ytjfhjckacfkpoaa
open Go.RowKit

def closeB (N : Int) (l : List Int) : Bool := dimB N && decide (l.length = (N.toNat + 1) * (N.toNat + 1)) && l.all lvB

def closeE (N : Int) (l : List Int) : Int := if closeB N l then cloE N.toNat l else 2

theorem closeE_bad1 {N : Int} {l : List Int} (h : dimB N = false) : closeE N l = 2 := by simp [closeE, closeB, h]

theorem closeE_bad2 {N : Int} {l : List Int} (h : l.length ≠ (N.toNat + 1) * (N.toNat + 1)) : closeE N l = 2 := by simp [closeE, closeB, h]

theorem closeE_bad3 {N : Int} {l : List Int} {k : Nat} (hk : k < l.length) (h : lvB (Zo.gt l k) = false) : closeE N l = 2 := by
  have : l.all lvB = false := by
    rw [List.all_eq_false]
    exact ⟨l[k], List.getElem_mem hk, by rw [show l[k] = Zo.gt l k by simp [Zo.gt, hk], h]; simp⟩
  simp [closeE, closeB, this]

theorem closeE_ok {n : Nat} {l : List Int} (hn : n ≤ 10) (hl : l.length = (n + 1) * (n + 1)) (h : ∀ k, k < l.length → lvB (Zo.gt l k) = true) : closeE (n : Int) l = cloE n l := by
  have h1 : l.all lvB = true := by
    rw [List.all_eq_true]
    intro x hx
    obtain ⟨k, hk, rfl⟩ := List.getElem_of_mem hx
    have := h k hk
    simpa [Zo.gt, hk] using this
  have d : dimB (n : Int) = true := by unfold dimB; simp; omega
  simp [closeE, closeB, d, hl, h1]

theorem two_res (w : World) : Two (w.alloc (.cells #[.int .i64 0, .slice none 0 0] 24)) w.heap.size (.int .i64 0) (.slice none 0 0) := Two.made _ _ _ _

set_option maxHeartbeats 400000 in
theorem close_bad1 (N : Int) (l : List Int) (ao : Option Addr) (cap : Nat) (w : World) (h : dimB N = false) :
    Calls Try.prog 32 #[.int .i64 N, .slice ao l.length cap] w (ZRes w 0 [] 2) := by
  have p := fun W => dimension_any N W
  rw [h] at p
  have PD := Lib.hid p
  obtain ⟨b0, b1, b2, b3⟩ := (two_res w).facts
  clear p h
  go_enter Try.func32, Try.ntmps32
  go_wp2_with fail
  refine (PD.out _).mono ?_
  rintro e w1 ⟨rfl, rfl⟩
  go_wp2_with fail
  refine bodyPost_ret (v := .tuple #[.agg #[.int .i64 0, .slice none 0 0], .int .i64 2]) (by simp [results, Try.results32, go_sem]) rfl (zres_bad ?_)
  exact one_more _

set_option maxHeartbeats 400000 in
theorem close_bad2 (n : Nat) (l : List Int) (ao : Option Addr) (cap : Nat) (w : World) (hn : n ≤ 10) (h : l.length ≠ (n + 1) * (n + 1)) :
    Calls Try.prog 32 #[.int .i64 n, .slice ao l.length cap] w (ZRes w 0 [] 2) := by
  have p := fun W => dimension_any n W
  rw [show dimB n = true by unfold dimB; simp; omega] at p
  have PD := Lib.hid p
  have t3 : ((n : Int) + 1) * ((n : Int) + 1) ≤ 121 ∧ 0 ≤ ((n : Int) + 1) * ((n : Int) + 1) := by
    have : (n + 1) * (n + 1) ≤ 11 * 11 := Nat.mul_le_mul (by omega) (by omega)
    constructor
    · exact_mod_cast this
    · exact_mod_cast Nat.zero_le _
  have h2 : ((l.length : Int) != ((n : Int) + 1) * ((n : Int) + 1)) = true := by
    simp; intro e; apply h; exact_mod_cast e
  generalize l.length = len at *
  obtain ⟨b0, b1, b2, b3⟩ := (two_res w).facts
  clear p h
  go_enter Try.func32, Try.ntmps32
  go_wp2_with fail
  refine (PD.out _).mono ?_
  rintro e w1 ⟨rfl, rfl⟩
  go_wp2_with fail
  refine bodyPost_ret (v := .tuple #[.agg #[.int .i64 0, .slice none 0 0], .int .i64 2]) (by simp [results, Try.results32, go_sem]) rfl (zres_bad ?_)
  exact one_more _

set_option maxHeartbeats 1600000 in
theorem close_any (n : Nat) (l : List Int) (a : Addr) (cap : Nat) (w : World) (hn : n ≤ 10) (hl : l.length = (n + 1) * (n + 1)) (hR : Rd w a l) :
    Calls Try.prog 32 #[.int .i64 n, .slice (some a) l.length cap] w (ZRes w n (Zo.clo n l) (closeE n l)) := by
  obtain ⟨len, hlen⟩ : ∃ len, len = l.length := ⟨_, rfl⟩
  obtain ⟨w0, hw0⟩ : ∃ w0, w0 = w.alloc (.cells #[.int .i64 0, .slice none 0 0] 24) := ⟨_, rfl⟩
  have rs : Two w0 w.heap.size (.int .i64 0) (.slice none 0 0) := by rw [hw0]; exact two_res w
  have e0 : Below w.heap.size w w0 := by rw [hw0]; exact one_more _
  have z0 : w0.heap.size = w.heap.size + 1 := by rw [hw0]; simp
  have HR := Lib.hid (hR.on e0)
  have CP : Hid (∀ W, Rd W a l → Calls Try.prog 43 #[.agg #[.int .i64 n, .slice (some a) len cap]] W (fun e w' => ∃ g c, e = .returned (.agg #[.int .i64 n, .slice (some ⟨g, 0, none⟩) len c]) ∧ W.heap.size ≤ g ∧ Own w' g c l ∧ Below W.heap.size W w')) := Lib.hid fun W h => by have := copied_any n l a cap W (by rw [hl]; exact dsq_pos n) (by rw [hl]; have := dsq_le hn; omega) h; rw [← hlen] at this; exact this
  have p := fun W => dimension_any n W
  rw [show dimB n = true by unfold dimB; simp; omega] at p
  have PD := Lib.hid p
  have t3 : ((n : Int) + 1) * ((n : Int) + 1) ≤ 121 ∧ 0 ≤ ((n : Int) + 1) * ((n : Int) + 1) := by
    have : (n + 1) * (n + 1) ≤ 11 * 11 := Nat.mul_le_mul (by omega) (by omega)
    constructor
    · exact_mod_cast this
    · exact_mod_cast Nat.zero_le _
  have h2 : ((len : Int) != ((n : Int) + 1) * ((n : Int) + 1)) = false := by
    rw [hlen, hl]; simp
  have lb : len ≤ 121 := by rw [hlen, hl]; exact dsq_le hn
  have lx : l.length = (n + 1) * (n + 1) := hl
  have HL := Lib.hid hl
  have HLn := Lib.hid hlen
  have E0 := Lib.hid e0
  rw [← hlen]
  clear p hl hlen hR e0 lx
  go_enter Try.func32, Try.ntmps32
  go_wp2_with fail
  rw [← hw0]
  clear hw0
  refine (PD.out _).mono ?_
  rintro e w1 ⟨rfl, rfl⟩
  go_wp2_with fail
  clear t3 h2
  go_loopw [6] (fun s wr => ∃ t : Nat, t ≤ len ∧ s = .int .i64 t ∧ Hid (∀ k, k < t → lvB (Zo.gt l k) = true) ∧ Hid (wr = w1)) (fun s _ => len - (intOf s).toNat)
  case atStart => exact ⟨0, by omega, rfl, Lib.hid (fun k hk => by omega), Lib.hid rfl⟩
  case round =>
    obtain ⟨t, ht, rfl, HK, HW⟩ := hrel
    have hwr := HW.out
    subst hwr
    clear HW
    by_cases htn : t < len
    · have d1 := HR.out t (by rw [← HLn.out]; exact htn)
      obtain ⟨x, hx⟩ : ∃ x, x = Zo.gt l t := ⟨_, rfl⟩
      rw [← hx] at d1
      have HXE := Lib.hid hx
      have v9 := fun W => refLimValid_free x W
      clear hx
      cases lv : lvB x
      · have HE := Lib.hid (closeE_bad3 (N := n) (l := l) (k := t) (by rw [← HLn.out]; exact htn) (by rw [← HXE.out]; exact lv))
        rw [lv] at v9
        have V9 := Lib.hid v9
        clear v9 lv
        obtain ⟨b0, b1, b2, b3⟩ := rs.facts
        go_wp2_with fail
        refine (V9.out _).mono ?_
        rintro e w2 ⟨rfl, rfl⟩
        go_wp2_with fail
        refine bodyPost_ret (v := .tuple #[.agg #[.int .i64 0, .slice none 0 0], .int .i64 2]) (by simp [results, Try.results32, go_sem, b0, b1]) rfl (ZRes.bad (zres_bad (N := 0) (l := []) ?_) HE.out)
        exact (E0.out.setCell (by show w.heap.size ≤ w.heap.size; omega) _).setCell (by show w.heap.size ≤ w.heap.size; omega) _
      · have HK2 := Lib.hid (show lvB (Zo.gt l t) = true by rw [← HXE.out]; exact lv)
        rw [lv] at v9
        have V9 := Lib.hid v9
        clear v9 lv
        go_wp2_with fail
        refine (V9.out _).mono ?_
        rintro e w2 ⟨rfl, rfl⟩
        go_wp2_with fail
        go_roundw
        case rel =>
          refine ⟨t + 1, by omega, by go_num, Lib.hid (fun k hk => ?_), by first | exact Lib.hid rfl | exact Lib.hid trivial⟩
          by_cases e : k = t
          · rw [e]; exact HK2.out
          · exact HK.out k (by omega)
        case measure => simp [intOf]; omega
    · have HAE := Lib.hid (closeE_ok hn HL.out (fun k hk => HK.out k (by rw [← HLn.out] at hk; omega)))
      go_wp2_with fail
      refine (CP.out _ HR.out).mono ?_
      rintro e w2 ⟨g, c, rfl, hg, ho, hb2⟩
      have rs2 := rs.kept hb2
      have E2 := Lib.hid (below_on E0.out hb2)
      have HO := Lib.hid ho
      have z2 := hb2.size
      clear hb2 ho
      go_wp2_with fail
      by_cases hE : cloE n l = 0
      · have CL : Hid (∀ W, Own W g c l → Calls Try.prog 45 #[.agg #[.int .i64 n, .slice (some ⟨g, 0, none⟩) len c]] W (fun e w' => e = .returned (.tuple #[.agg #[.int .i64 n, .slice (some ⟨g, 0, none⟩) len c], .int .i64 0]) ∧ Own w' g c (Zo.clo n l) ∧ W.grownBy w' (some g))) := Lib.hid fun W h => by have := closed_ok W hn HL.out h hE; rw [← HLn.out] at this; exact this
        have HEE := Lib.hid hE
        clear hE
        refine (CL.out _ HO.out).mono ?_
        rintro e w5 ⟨rfl, ho5, hg5⟩
        have rs5 := rs2.grown hg5 (by omega)
        obtain ⟨q0, q1, q2, q3⟩ := rs5.facts
        have E5 := Lib.hid (grown_over E2.out hg5 (by omega))
        have HO5 := Lib.hid ho5
        clear ho5 hg5
        go_wp2_with fail
        refine bodyPost_ret (v := .tuple #[.agg #[.int .i64 n, .slice (some ⟨g, 0, none⟩) len c], .int .i64 0]) (by simp [results, Try.results32, go_sem, q0, q1]) rfl ⟨(E5.out.setCell (by show w.heap.size ≤ w.heap.size; omega) _).setCell (by show w.heap.size ≤ w.heap.size; omega) _, Or.inl ⟨by rw [HAE.out]; exact HEE.out, g, c, ?_, by omega, ?_⟩⟩
        · rw [Zo.clo_length, ← HLn.out]
        · exact put_far HO5.out (by omega) _ _
      · have CL : Hid (∀ W, Own W g c l → Calls Try.prog 45 #[.agg #[.int .i64 n, .slice (some ⟨g, 0, none⟩) len c]] W (fun e w' => e = .returned (.tuple #[.agg #[.int .i64 0, .slice none 0 0], .int .i64 (cloE n l)]) ∧ Own w' g c (Zo.clo n l) ∧ W.grownBy w' (some g))) := Lib.hid fun W h => by have := closed_no W hn HL.out h hE; rw [← HLn.out] at this; exact this
        have HEE := Lib.hid hE
        clear hE
        refine (CL.out _ HO.out).mono ?_
        rintro e w5 ⟨rfl, ho5, hg5⟩
        have rs5 := rs2.grown hg5 (by omega)
        obtain ⟨q0, q1, q2, q3⟩ := rs5.facts
        have E5 := Lib.hid (grown_over E2.out hg5 (by omega))
        have HO5 := Lib.hid ho5
        clear ho5 hg5
        go_wp2_with fail
        refine bodyPost_ret (v := .tuple #[.agg #[.int .i64 0, .slice none 0 0], .int .i64 (cloE n l)]) (by simp [results, Try.results32, go_sem, q0, q1]) rfl ⟨(E5.out.setCell (by show w.heap.size ≤ w.heap.size; omega) _).setCell (by show w.heap.size ≤ w.heap.size; omega) _, Or.inr ⟨by rw [HAE.out]; exact HEE.out, ?_⟩⟩
        rw [HAE.out]

theorem close_gen (N : Int) (l : List Int) (ao : Option Addr) (cap : Nat) (w : World) (hA : Arg w ao l) :
    Calls Try.prog 32 #[.int .i64 N, .slice ao l.length cap] w (ZRes w N (Zo.clo N.toNat l) (closeE N l)) := by
  cases hd : dimB N
  · exact (close_bad1 N l ao cap w hd).mono fun e w' h => h.bad (closeE_bad1 hd)
  · obtain ⟨n, rfl, hn⟩ := dim_nat hd
    by_cases hl : l.length = (n + 1) * (n + 1)
    · obtain ⟨a, rfl, hR⟩ := hA (fun e => by have := dsq_pos n; rw [e] at hl; simp at hl)
      exact close_any n l a cap w hn hl hR
    · exact (close_bad2 n l ao cap w hn hl).mono fun e w' h => h.bad (closeE_bad2 (by simpa using hl))
end Go.Proofs.Ytjfhjckacfkpoaa
