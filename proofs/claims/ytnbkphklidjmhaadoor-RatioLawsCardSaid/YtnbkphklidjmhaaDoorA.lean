/- Contracts of the small functions of package ratio: magnitude, the closure that finds a common divisor, commonDivisor. -/
import Derived.Test.YtnbkphklidjmhaaDoorRows
import Derived.WalkKit
import Derived.WalkSpells
import Derived.WalkLawsBesides
import Derived.Deep.QuietTactic
import Derived.BigQuiet
import Derived.Deep.RegionHeld3
import Derived.Lib.Hide
import Derived.Laws.EntriesVeiled
namespace Go.Proofs.YtnbkphklidjmhaaDoor
open Go.RowKit

theorem ret_int {k : IntKind} {a b : Int} (h : a = b) : Ending.returned (.int k a) = .returned (.int k b) := by rw [h]

theorem neg_mag (n : Int) (h1 : -9223372036854775808 ≤ n) (h2 : n < 0) : IntKind.u64.wrap (-IntKind.u64.wrap n) = (n.natAbs : Int) := by
  simp [IntKind.wrap, IntKind.bits, IntKind.signed]
  omega

set_option maxHeartbeats 400000 in
theorem magnitude_any (n : Int) (w : World) (h1 : -9223372036854775808 ≤ n) (h2 : n ≤ 9223372036854775807) :
    Calls Tryd.prog 39 #[.int .i64 n] w fun e w' => e = .returned (.int .u64 (n.natAbs : Int)) ∧ w = w' := by
  by_cases hn : n < 0
  · have H := Lib.hid (neg_mag n h1 hn)
    go_enter Tryd.func39, Tryd.ntmps39
    go_wp2
    go_ret
    exact ⟨ret_int H.out, rfl⟩
  · have H := Lib.hid (show (n : Int) = (n.natAbs : Int) by omega)
    go_enter Tryd.func39, Tryd.ntmps39
    go_wp2
    go_ret
    exact ⟨ret_int H.out, rfl⟩

def Drawn (v : Value) (w : World) (e : Ending) (w' : World) : Prop := e = .returned v ∧ ∃ n, w' = w.drewN n

set_option maxHeartbeats 400000 in
theorem divide_any (k : Nat) : ∀ (a b : Nat) (p : Addr) (w : World), b ≤ k → a < 18446744073709551616 → b < 18446744073709551616 →
    w.cell? p = some (.func (.func 56) #[] #[.pointer (some p)]) →
    Calls Tryd.prog 56 #[.int .u64 a, .int .u64 b, .pointer (some p)] w (Drawn (.int .u64 (Nat.gcd a b)) w) := by
  induction k with
  | zero =>
    intro a b p w hb ha hb2 hc
    obtain rfl : b = 0 := by omega
    go_enter Tryd.func56, Tryd.ntmps56
    go_wp2_with fail
    go_ret
    exact ⟨ret_int (by simp), 0, rfl⟩
  | succ k ih =>
    intro a b p w hb ha hb2 hc
    by_cases h0 : b = 0
    · subst h0
      go_enter Tryd.func56, Tryd.ntmps56
      go_wp2_with fail
      go_ret
      exact ⟨ret_int (by simp), 0, rfl⟩
    · have H0 : ((b : Int) == 0) = false := by simpa using h0
      have IH := Lib.hid ih
      clear ih
      have G := Lib.hid (Nat.gcd_rec b a)
      go_enter Tryd.func56, Tryd.ntmps56
      go_wp2_with fail
      go_quiet ((go_at_call 56; refine Calls.quiet_of (IH.out b (a % b) p _ (by have := Nat.mod_lt a (Nat.pos_of_ne_zero h0); omega) hb2 (by have := Nat.mod_lt a (Nat.pos_of_ne_zero h0); omega) ?_); simpa using hc))
      go_wp2_with fail
      go_ret
      exact ⟨ret_int (by rw [Nat.gcd_comm a b, Nat.gcd_rec b a, Nat.gcd_comm]), _, rfl⟩

/-- A call that returns v, and leaves all memory from before as it was. -/
def Made (v : Value) (w : World) (e : Ending) (w' : World) : Prop := e = .returned v ∧ Below w.heap.size w w'

set_option maxHeartbeats 400000 in
theorem commonDivisor_any (a b : Nat) (w : World) (ha : a < 18446744073709551616) (hb : b < 18446744073709551616) :
    Calls Tryd.prog 40 #[.int .u64 a, .int .u64 b] w (Made (.int .u64 (Nat.gcd a b)) w) := by
  go_enter Tryd.func40, Tryd.ntmps40
  go_wp2_with fail
  refine (divide_any b a b _ _ (Nat.le_refl _) ha hb ?_).mono ?_
  · go_simp
  rintro e w' ⟨rfl, n, rfl⟩
  go_wp2_with fail
  go_ret
  exact ⟨rfl, below_drewN ((Below.refl _ _).alloc (Nat.le_refl _) _) n⟩

def vldB (n d : Int) : Bool := decide (1 ≤ d ∧ d ≤ 2147483647 ∧ -2147483647 ≤ n ∧ n ≤ 2147483647 ∧ Nat.gcd n.natAbs d.natAbs = 1)

/-- What was there before a call that only makes memory is there behind it. -/
theorem bcell {B : Nat} {W w1 : World} (hb : Below B W w1) : (∀ b o, b < B → w1.cell? ⟨b, o, none⟩ = W.cell? ⟨b, o, none⟩) ∧ (∀ b o, b < B → w1.frozen? ⟨b, o, none⟩ = W.frozen? ⟨b, o, none⟩) :=
  ⟨fun b o h => hb.cell (p := ⟨b, o, none⟩) h, fun b o h => hb.frozen (p := ⟨b, o, none⟩) h⟩

theorem vld_no {n d : Int} (h : d < 1 ∨ 2147483647 < d ∨ n < -2147483647 ∨ 2147483647 < n) : vldB n d = false := by
  unfold vldB; simp; omega
theorem vld_yes {n d : Int} (h1 : 1 ≤ d) (h2 : d ≤ 2147483647) (h3 : -2147483647 ≤ n) (h4 : n ≤ 2147483647) : vldB n d = (((Nat.gcd n.natAbs d.natAbs : Nat) : Int) == 1) := by
  unfold vldB; rw [Bool.eq_iff_iff]; simp; omega
theorem ret_bool {a b : Bool} (h : a = b) : Ending.returned (.bool a) = .returned (.bool b) := by rw [h]

set_option maxHeartbeats 400000 in
theorem valid_any (n d : Int) (w : World) (n1 : -9223372036854775808 ≤ n) (n2 : n ≤ 9223372036854775807) (d1 : -9223372036854775808 ≤ d) (d2 : d ≤ 9223372036854775807) :
    Calls Tryd.prog 13 #[.agg #[.int .i64 n, .int .i64 d]] w (Made (.bool (vldB n d)) w) := by
  by_cases h1 : d < 1
  · have H := Lib.hid (vld_no (n := n) (Or.inl h1))
    go_enter Tryd.func13, Tryd.ntmps13
    go_wp2_with fail
    go_ret
    exact ⟨ret_bool (by rw [H.out]), (Below.refl _ _).alloc (Nat.le_refl _) _⟩
  by_cases h2 : 2147483647 < d
  · have H := Lib.hid (vld_no (n := n) (Or.inr (Or.inl h2)))
    go_enter Tryd.func13, Tryd.ntmps13
    go_wp2_with fail
    go_ret
    exact ⟨ret_bool (by rw [H.out]), (Below.refl _ _).alloc (Nat.le_refl _) _⟩
  by_cases h3 : n < -2147483647
  · have H := Lib.hid (vld_no (d := d) (Or.inr (Or.inr (Or.inl h3))))
    go_enter Tryd.func13, Tryd.ntmps13
    go_wp2_with fail
    go_ret
    exact ⟨ret_bool (by rw [H.out]), (Below.refl _ _).alloc (Nat.le_refl _) _⟩
  by_cases h4 : 2147483647 < n
  · have H := Lib.hid (vld_no (d := d) (Or.inr (Or.inr (Or.inr h4))))
    go_enter Tryd.func13, Tryd.ntmps13
    go_wp2_with fail
    go_ret
    exact ⟨ret_bool (by rw [H.out]), (Below.refl _ _).alloc (Nat.le_refl _) _⟩
  have H := Lib.hid (vld_yes (n := n) (d := d) (by omega) (by omega) (by omega) (by omega))
  have k1 : n.natAbs < 18446744073709551616 := by omega
  have k2 : d.natAbs < 18446744073709551616 := by omega
  go_enter Tryd.func13, Tryd.ntmps13
  go_wp2_with fail
  go_region_held3 (fun w' => w'.cell? ⟨w.heap.size, 0, none⟩ = some (.int .i64 n) ∧ w'.cell? ⟨w.heap.size, 1, none⟩ = some (.int .i64 d)) (first | go_keep)
    (first | (go_at_call 39; refine (magnitude_any _ _ (by omega) (by omega)).mono ?_; rintro e w' ⟨rfl, rfl⟩) | (go_at_call 40; refine (commonDivisor_any _ _ _ (by omega) (by omega)).mono ?_; rintro e w' ⟨rfl, hb⟩; obtain ⟨hc, hf⟩ := bcell hb))
  clear hc hf
  go_wp2_with fail
  go_ret
  exact ⟨ret_bool (by rw [H.out]), (((Below.refl _ _).alloc (Nat.le_refl _) _).drew).trans (hb.mono (by simp [go_sem]))⟩
end Go.Proofs.YtnbkphklidjmhaaDoor
