/- What all contracts have in common: calls that return a value and leave all memory from before as it was; cells and blocks of two integers behind such calls. Nothing of the program is named here.; Plain mathematics of ratios: what Make returns, as numbers. Nothing of the program is named here.; Contracts of magnitude, commonDivisor, Valid and Make of package ratio.; Contracts of size, divisor, Valid and Make of the reference.; Contracts of Add, Sub, Mul, Div of package ratio and of the reference.; Contracts of Of, Neg, Floor, Ceil, Cmp of package ratio and of the reference, and of the reference's Sub.; Plain mathematics of limits: what the functions of package limit return, as numbers. Nothing of the program is named here.; Contracts of package limit and of its reference, but for Meets and Text: they read nothing and make nothing.; Contracts of layer 3's zero, shift, isBelow.; Plain mathematics of bounds: sums of limits of any size, with 'none' above all; shortest paths by the rule of Floyd and Warshall. Nothing of the program is named here.; Plain mathematics of bounds: matrices as lists of integers, closed in place; what becomes of them where the diagonal stays. Nothing of the program is named here.; Contracts of the small functions of layer 3's reference: at, set, Dimension, and of layer 2's Sum. -/
import Derived.Test.YtbnebinpemejlaaGreatRows
import Derived.WalkKit
import Derived.WalkSpells
import Derived.WalkLawsBesides
import Derived.Deep.QuietTactic
import Derived.BigQuiet
import Derived.Deep.RegionHeld3
import Derived.Lib.Hide
import Derived.Laws.EntriesVeiled
import Derived.Deep.DeepCutAuto

namespace Go.Proofs.YtbnebinpemejlaaGreat
open Go.RowKit

/-- What fits an int64. -/
def I64 (x : Int) : Prop := -9223372036854775808 ≤ x ∧ x ≤ 9223372036854775807

theorem i64lit (x : Int) (h1 : -9223372036854775808 ≤ x) (h2 : x ≤ 9223372036854775807) : I64 x := ⟨h1, h2⟩

theorem ret_int {k : IntKind} {a b : Int} (h : a = b) : Ending.returned (.int k a) = .returned (.int k b) := by rw [h]

def Drawn (v : Value) (w : World) (e : Ending) (w' : World) : Prop := e = .returned v ∧ ∃ n, w' = w.drewN n

/-- A call that returns v, and leaves all memory from before as it was. -/
def Made (v : Value) (w : World) (e : Ending) (w' : World) : Prop := e = .returned v ∧ Below w.heap.size w w'

/-- What was there before a call that only makes memory is there behind it. -/
theorem bcell {B : Nat} {W w1 : World} (hb : Below B W w1) : (∀ b o, b < B → w1.cell? ⟨b, o, none⟩ = W.cell? ⟨b, o, none⟩) ∧ (∀ b o, b < B → w1.frozen? ⟨b, o, none⟩ = W.frozen? ⟨b, o, none⟩) :=
  ⟨fun b o h => hb.cell (p := ⟨b, o, none⟩) h, fun b o h => hb.frozen (p := ⟨b, o, none⟩) h⟩

theorem ret_bool {a b : Bool} (h : a = b) : Ending.returned (.bool a) = .returned (.bool b) := by rw [h]

theorem two_below {w w1 : World} (hb : Below w.heap.size w w1) (n : Nat) (x y : Value) : Below w.heap.size w (((w1.drewN n).setCell ⟨w.heap.size, 0, none⟩ x).setCell ⟨w.heap.size, 1, none⟩ y) :=
  ((below_drewN hb n).setCell (Nat.le_refl _) x).setCell (Nat.le_refl _) y

theorem past_one {w w1 : World} {o : Obj} (hb : Below (w.alloc o).heap.size (w.alloc o) w1) : Below w.heap.size w w1 :=
  ((Below.refl _ _).alloc (Nat.le_refl _) o).trans (hb.mono (by simp))

theorem past_two {w w1 : World} {o1 o2 : Obj} (hb : Below ((w.alloc o1).alloc o2).heap.size ((w.alloc o1).alloc o2) w1) : Below w.heap.size w w1 :=
  past_one (past_one hb)

theorem past_three {w w1 : World} {o1 o2 o3 : Obj} (hb : Below (((w.alloc o1).alloc o2).alloc o3).heap.size (((w.alloc o1).alloc o2).alloc o3) w1) : Below w.heap.size w w1 :=
  past_one ((past_one ((past_one hb))))

theorem below_on {X w1 w2 : World} (hb : Below X.heap.size X w1) (hb2 : Below w1.heap.size w1 w2) : Below X.heap.size X w2 := hb.trans (hb2.mono hb.size)

theorem ret_two {k1 k2 : IntKind} {a b c d : Int} (h : a = b) (g : c = d) : Ending.returned (.tuple #[.int k1 a, .int k2 c]) = .returned (.tuple #[.int k1 b, .int k2 d]) := by rw [h, g]

theorem wrap_in (x : Int) (h1 : -9223372036854775808 ≤ x) (h2 : x ≤ 9223372036854775807) : IntKind.i64.wrap x = x := by
  simp [IntKind.wrap, IntKind.bits, IntKind.signed]
  omega

theorem w64min : wrap64 9223372036854775808 = -9223372036854775808 := by unfold wrap64; omega

/-- What a world had it has behind a call that only makes memory; and so does a new block of two cells. -/
theorem kept {w1 w2 : World} (hb : Below w1.heap.size w1 w2) {p : Addr} {v : Value} (h : w1.cell? p = some v) : w2.cell? p = some v := by
  rw [hb.cell (World.block_lt_of_cell? w1 _ h)]; exact h

theorem one_more {w1 : World} (o : Obj) : Below w1.heap.size w1 (w1.alloc o) := (Below.refl _ _).alloc (Nat.le_refl _) o

theorem boxed {w1 w2 : World} {x y : Value} {t : TypeId} (hb : Below (w1.alloc (.cells #[x, y] t)).heap.size (w1.alloc (.cells #[x, y] t)) w2) :
    w2.cell? ⟨w1.heap.size, 0, none⟩ = some x ∧ w2.cell? ⟨w1.heap.size, 1, none⟩ = some y ∧ w1.heap.size + 1 ≤ w2.heap.size := by
  refine ⟨kept hb (by go_simp), kept hb (by go_simp), ?_⟩
  have := hb.size; simpa using this

theorem on_box {w w1 w2 : World} {o : Obj} (hB : Below w.heap.size w w1) (hb : Below (w1.alloc o).heap.size (w1.alloc o) w2) : Below w.heap.size w w2 :=
  below_on hB (past_one hb)

/-- A cell that holds v and may be written. -/
def Cell (w : World) (p : Addr) (v : Value) : Prop := w.cell? p = some v ∧ w.frozen? p = false

theorem Cell.lt {w : World} {p : Addr} {v : Value} (h : Cell w p v) : p.block < w.heap.size := World.block_lt_of_cell? w _ h.1

theorem Cell.kept {w w' : World} {p : Addr} {v : Value} (h : Cell w p v) (hb : Below w.heap.size w w') : Cell w' p v :=
  ⟨by rw [hb.cell h.lt]; exact h.1, by rw [hb.frozen h.lt]; exact h.2⟩

theorem Cell.same {w : World} {p : Addr} {v : Value} (h : Cell w p v) (x : Value) : Cell (w.setCell p x) p x :=
  ⟨World.cell?_setCell_same _ _ _ h.1, by rw [World.frozen?_setCell]; exact h.2⟩

theorem Cell.other {w : World} {p q : Addr} {v : Value} (h : Cell w q v) (hne : p ≠ q) (x : Value) : Cell (w.setCell p x) q v :=
  ⟨(World.cell?_setCell_other _ _ _ _ hne).trans h.1, by rw [World.frozen?_setCell]; exact h.2⟩

/-- Block b holds the two integers x and y. -/
def Pair (w : World) (b : Nat) (x y : Int) : Prop := Cell w ⟨b, 0, none⟩ (.int .i64 x) ∧ Cell w ⟨b, 1, none⟩ (.int .i64 y)

theorem Pair.lt {w : World} {b : Nat} {x y : Int} (h : Pair w b x y) : b < w.heap.size := h.1.lt

theorem Pair.kept {w w' : World} {b : Nat} {x y : Int} (h : Pair w b x y) (hb : Below w.heap.size w w') : Pair w' b x y := ⟨h.1.kept hb, h.2.kept hb⟩

theorem Pair.made (w : World) (x y : Int) (t : TypeId) : Pair (w.alloc (.cells #[.int .i64 x, .int .i64 y] t)) w.heap.size x y :=
  ⟨⟨by go_simp, by go_simp⟩, ⟨by go_simp, by go_simp⟩⟩

theorem Pair.alloc {w : World} {b : Nat} {x y : Int} (h : Pair w b x y) (o : Obj) : Pair (w.alloc o) b x y := h.kept (one_more o)

theorem Pair.drawn {w : World} {b : Nat} {x y : Int} (h : Pair w b x y) (n : Nat) : Pair (w.drewN n) b x y := h.kept (below_drewN (Below.refl _ _) n)

theorem Pair.put {w : World} {b : Nat} {x y : Int} (h : Pair w b x y) (x' y' : Int) : Pair ((w.setCell ⟨b, 0, none⟩ (.int .i64 x')).setCell ⟨b, 1, none⟩ (.int .i64 y')) b x' y' :=
  ⟨((h.1.same _).other (by simp) _), ((h.2.other (by simp) _).same _)⟩

theorem Pair.aside {w : World} {b b' : Nat} {x y : Int} (h : Pair w b x y) (hne : b' ≠ b) (x' y' : Value) : Pair ((w.setCell ⟨b', 0, none⟩ x').setCell ⟨b', 1, none⟩ y') b x y :=
  ⟨((h.1.other (fun e => hne (congrArg Addr.block e)) _).other (fun e => hne (congrArg Addr.block e)) _), ((h.2.other (fun e => hne (congrArg Addr.block e)) _).other (fun e => hne (congrArg Addr.block e)) _)⟩

/-- What the walk reads off. -/
theorem Pair.facts {w : World} {b : Nat} {x y : Int} (h : Pair w b x y) : w.cell? ⟨b, 0, none⟩ = some (.int .i64 x) ∧ w.cell? ⟨b, 1, none⟩ = some (.int .i64 y) ∧ w.frozen? ⟨b, 0, none⟩ = false ∧ w.frozen? ⟨b, 1, none⟩ = false :=
  ⟨h.1.1, h.2.1, h.1.2, h.2.2⟩

theorem below_put {w w1 : World} (hb : Below w.heap.size w w1) {b : Nat} (hB : w.heap.size ≤ b) (x y : Value) : Below w.heap.size w ((w1.setCell ⟨b, 0, none⟩ x).setCell ⟨b, 1, none⟩ y) :=
  (hb.setCell hB x).setCell hB y

/-- Behind the first call of a function with two such parameters. -/
theorem two_pairs {w w1 : World} {n d m c : Int} {t : TypeId} (hb : Below ((w.alloc (.cells #[.int .i64 n, .int .i64 d] t)).alloc (.cells #[.int .i64 m, .int .i64 c] t)).heap.size ((w.alloc (.cells #[.int .i64 n, .int .i64 d] t)).alloc (.cells #[.int .i64 m, .int .i64 c] t)) w1) :
    Pair w1 w.heap.size n d ∧ Pair w1 (w.heap.size + 1) m c ∧ w.heap.size + 2 ≤ w1.heap.size ∧ Below w.heap.size w w1 := by
  have hB := (Pair.made (w.alloc (.cells #[.int .i64 n, .int .i64 d] t)) m c t).kept hb
  refine ⟨((Pair.made w n d t).alloc _).kept hb, by simpa using hB, ?_, past_two hb⟩
  have := hb.size; simpa using this

theorem three_pairs {w w1 : World} {n d m c k l : Int} {t : TypeId} (hb : Below (((w.alloc (.cells #[.int .i64 n, .int .i64 d] t)).alloc (.cells #[.int .i64 m, .int .i64 c] t)).alloc (.cells #[.int .i64 k, .int .i64 l] t)).heap.size (((w.alloc (.cells #[.int .i64 n, .int .i64 d] t)).alloc (.cells #[.int .i64 m, .int .i64 c] t)).alloc (.cells #[.int .i64 k, .int .i64 l] t)) w1) :
    Pair w1 w.heap.size n d ∧ Pair w1 (w.heap.size + 1) m c ∧ Pair w1 (w.heap.size + 2) k l ∧ w.heap.size + 3 ≤ w1.heap.size ∧ Below w.heap.size w w1 := by
  have hB := ((Pair.made (w.alloc (.cells #[.int .i64 n, .int .i64 d] t)) m c t).alloc (.cells #[.int .i64 k, .int .i64 l] t)).kept hb
  have hC := (Pair.made ((w.alloc (.cells #[.int .i64 n, .int .i64 d] t)).alloc (.cells #[.int .i64 m, .int .i64 c] t)) k l t).kept hb
  refine ⟨(((Pair.made w n d t).alloc _).alloc _).kept hb, by simpa using hB, by simpa using hC, ?_, past_three hb⟩
  have := hb.size; simpa using this

theorem on_put {w w1 w2 : World} {b : Nat} {x y : Value} (hB : Below w.heap.size w w1) (hle : w.heap.size ≤ b) (hb : Below ((w1.setCell ⟨b, 0, none⟩ x).setCell ⟨b, 1, none⟩ y).heap.size ((w1.setCell ⟨b, 0, none⟩ x).setCell ⟨b, 1, none⟩ y) w2) : Below w.heap.size w w2 :=
  (below_put hB hle x y).trans (hb.mono (below_put hB hle x y).size)
end Go.Proofs.YtbnebinpemejlaaGreat

namespace Go.Proofs.YtbnebinpemejlaaGreat

def top (a b : Int) : Nat := a.natAbs / Nat.gcd a.natAbs b.natAbs

def bot (a b : Int) : Nat := b.natAbs / Nat.gcd a.natAbs b.natAbs

def fits (a b : Int) : Bool := decide (top a b ≤ 2147483647 ∧ bot a b ≤ 2147483647)

def mkErr (a b : Int) : Int := if b = 0 then 2 else if fits a b then 0 else 7

def mkNum (a b : Int) : Int := if b = 0 then 0 else if fits a b then (if (decide (a < 0) != decide (b < 0)) then -(top a b : Int) else top a b) else 0

def mkDen (a b : Int) : Int := if b = 0 then 0 else if fits a b then bot a b else 0

theorem mkNum_bd (a b : Int) : -2147483647 ≤ mkNum a b ∧ mkNum a b ≤ 2147483647 := by
  unfold mkNum fits
  split
  · omega
  split
  · rename_i h; simp at h; split <;> omega
  · omega

theorem mkDen_bd (a b : Int) : 0 ≤ mkDen a b ∧ mkDen a b ≤ 2147483647 := by
  unfold mkDen fits
  split
  · omega
  split
  · rename_i h; simp at h; omega
  · omega

theorem mkErr_bd (a b : Int) : 0 ≤ mkErr a b ∧ mkErr a b ≤ 7 := by
  unfold mkErr
  split
  · omega
  split <;> omega

theorem top_le (a b : Int) : top a b ≤ a.natAbs := Nat.div_le_self _ _

theorem bot_le (a b : Int) : bot a b ≤ b.natAbs := Nat.div_le_self _ _

def opNum (v : Bool) (p q : Int) : Int := if v then mkNum p q else 0

def opDen (v : Bool) (p q : Int) : Int := if v then mkDen p q else 0

def opErr (v : Bool) (p q : Int) : Int := if v then mkErr p q else 2

theorem mul_bd {x y : Int} (x1 : -2147483647 ≤ x) (x2 : x ≤ 2147483647) (y1 : -2147483647 ≤ y) (y2 : y ≤ 2147483647) :
    -4611686014132420609 ≤ x * y ∧ x * y ≤ 4611686014132420609 := by
  have h : (x * y).natAbs ≤ 2147483647 * 2147483647 := by
    rw [Int.natAbs_mul]; exact Nat.mul_le_mul (by omega) (by omega)
  omega
end Go.Proofs.YtbnebinpemejlaaGreat

namespace Go.Proofs.YtbnebinpemejlaaGreat
open Go.RowKit

theorem neg_mag (n : Int) (h1 : -9223372036854775808 ≤ n) (h2 : n < 0) : IntKind.u64.wrap (-IntKind.u64.wrap n) = (n.natAbs : Int) := by
  simp [IntKind.wrap, IntKind.bits, IntKind.signed]
  omega

set_option maxHeartbeats 400000 in
theorem magnitude_any (n : Int) (w : World) (h1 : -9223372036854775808 ≤ n) (h2 : n ≤ 9223372036854775807) :
    Calls Tryz.prog 87 #[.int .i64 n] w fun e w' => e = .returned (.int .u64 (n.natAbs : Int)) ∧ w = w' := by
  by_cases hn : n < 0
  · have H := Lib.hid (neg_mag n h1 hn)
    go_enter Tryz.func87, Tryz.ntmps87
    go_wp2
    go_ret
    exact ⟨ret_int H.out, rfl⟩
  · have H := Lib.hid (show (n : Int) = (n.natAbs : Int) by omega)
    go_enter Tryz.func87, Tryz.ntmps87
    go_wp2
    go_ret
    exact ⟨ret_int H.out, rfl⟩

set_option maxHeartbeats 400000 in
theorem divide_any (k : Nat) : ∀ (a b : Nat) (p : Addr) (w : World), b ≤ k → a < 18446744073709551616 → b < 18446744073709551616 →
    w.cell? p = some (.func (.func 102) #[] #[.pointer (some p)]) →
    Calls Tryz.prog 102 #[.int .u64 a, .int .u64 b, .pointer (some p)] w (Drawn (.int .u64 (Nat.gcd a b)) w) := by
  induction k with
  | zero =>
    intro a b p w hb ha hb2 hc
    obtain rfl : b = 0 := by omega
    go_enter Tryz.func102, Tryz.ntmps102
    go_wp2_with fail
    go_ret
    exact ⟨ret_int (by simp), 0, rfl⟩
  | succ k ih =>
    intro a b p w hb ha hb2 hc
    by_cases h0 : b = 0
    · subst h0
      go_enter Tryz.func102, Tryz.ntmps102
      go_wp2_with fail
      go_ret
      exact ⟨ret_int (by simp), 0, rfl⟩
    · have H0 : ((b : Int) == 0) = false := by simpa using h0
      have IH := Lib.hid ih
      clear ih
      have G := Lib.hid (Nat.gcd_rec b a)
      go_enter Tryz.func102, Tryz.ntmps102
      go_wp2_with fail
      go_quiet ((go_at_call 102; refine Calls.quiet_of (IH.out b (a % b) p _ (by have := Nat.mod_lt a (Nat.pos_of_ne_zero h0); omega) hb2 (by have := Nat.mod_lt a (Nat.pos_of_ne_zero h0); omega) ?_); simpa using hc))
      go_wp2_with fail
      go_ret
      exact ⟨ret_int (by rw [Nat.gcd_comm a b, Nat.gcd_rec b a, Nat.gcd_comm]), _, rfl⟩

set_option maxHeartbeats 400000 in
theorem commonDivisor_any (a b : Nat) (w : World) (ha : a < 18446744073709551616) (hb : b < 18446744073709551616) :
    Calls Tryz.prog 86 #[.int .u64 a, .int .u64 b] w (Made (.int .u64 (Nat.gcd a b)) w) := by
  go_enter Tryz.func86, Tryz.ntmps86
  go_wp2_with fail
  refine (divide_any b a b _ _ (Nat.le_refl _) ha hb ?_).mono ?_
  · go_simp
  rintro e w' ⟨rfl, n, rfl⟩
  go_wp2_with fail
  go_ret
  exact ⟨rfl, below_drewN ((Below.refl _ _).alloc (Nat.le_refl _) _) n⟩

def vldB (n d : Int) : Bool := decide (1 ≤ d ∧ d ≤ 2147483647 ∧ -2147483647 ≤ n ∧ n ≤ 2147483647 ∧ Nat.gcd n.natAbs d.natAbs = 1)

theorem vld_no {n d : Int} (h : d < 1 ∨ 2147483647 < d ∨ n < -2147483647 ∨ 2147483647 < n) : vldB n d = false := by
  unfold vldB; simp; omega

theorem vld_yes {n d : Int} (h1 : 1 ≤ d) (h2 : d ≤ 2147483647) (h3 : -2147483647 ≤ n) (h4 : n ≤ 2147483647) : vldB n d = (((Nat.gcd n.natAbs d.natAbs : Nat) : Int) == 1) := by
  unfold vldB; rw [Bool.eq_iff_iff]; simp; omega

set_option maxHeartbeats 400000 in
theorem valid_any (n d : Int) (w : World) (n1 : -9223372036854775808 ≤ n) (n2 : n ≤ 9223372036854775807) (d1 : -9223372036854775808 ≤ d) (d2 : d ≤ 9223372036854775807) :
    Calls Tryz.prog 59 #[.agg #[.int .i64 n, .int .i64 d]] w (Made (.bool (vldB n d)) w) := by
  by_cases h1 : d < 1
  · have H := Lib.hid (vld_no (n := n) (Or.inl h1))
    go_enter Tryz.func59, Tryz.ntmps59
    go_wp2_with fail
    go_ret
    exact ⟨ret_bool (by rw [H.out]), (Below.refl _ _).alloc (Nat.le_refl _) _⟩
  by_cases h2 : 2147483647 < d
  · have H := Lib.hid (vld_no (n := n) (Or.inr (Or.inl h2)))
    go_enter Tryz.func59, Tryz.ntmps59
    go_wp2_with fail
    go_ret
    exact ⟨ret_bool (by rw [H.out]), (Below.refl _ _).alloc (Nat.le_refl _) _⟩
  by_cases h3 : n < -2147483647
  · have H := Lib.hid (vld_no (d := d) (Or.inr (Or.inr (Or.inl h3))))
    go_enter Tryz.func59, Tryz.ntmps59
    go_wp2_with fail
    go_ret
    exact ⟨ret_bool (by rw [H.out]), (Below.refl _ _).alloc (Nat.le_refl _) _⟩
  by_cases h4 : 2147483647 < n
  · have H := Lib.hid (vld_no (d := d) (Or.inr (Or.inr (Or.inr h4))))
    go_enter Tryz.func59, Tryz.ntmps59
    go_wp2_with fail
    go_ret
    exact ⟨ret_bool (by rw [H.out]), (Below.refl _ _).alloc (Nat.le_refl _) _⟩
  have H := Lib.hid (vld_yes (n := n) (d := d) (by omega) (by omega) (by omega) (by omega))
  have k1 : n.natAbs < 18446744073709551616 := by omega
  have k2 : d.natAbs < 18446744073709551616 := by omega
  go_enter Tryz.func59, Tryz.ntmps59
  go_wp2_with fail
  go_region_held3 (fun w' => w'.cell? ⟨w.heap.size, 0, none⟩ = some (.int .i64 n) ∧ w'.cell? ⟨w.heap.size, 1, none⟩ = some (.int .i64 d)) (first | go_keep)
    (first | (go_at_call 87; refine (magnitude_any _ _ (by omega) (by omega)).mono ?_; rintro e w' ⟨rfl, rfl⟩) | (go_at_call 86; refine (commonDivisor_any _ _ _ (by omega) (by omega)).mono ?_; rintro e w' ⟨rfl, hb⟩; obtain ⟨hc, hf⟩ := bcell hb))
  clear hc hf
  go_wp2_with fail
  go_ret
  exact ⟨ret_bool (by rw [H.out]), (((Below.refl _ _).alloc (Nat.le_refl _) _).drew).trans (hb.mono (by simp [go_sem]))⟩

set_option maxHeartbeats 400000 in
theorem make_zero (a b : Int) (w : World) (hb : b = 0) :
    Calls Tryz.prog 89 #[.int .i64 a, .int .i64 b] w (Made (.tuple #[.agg #[.int .i64 (mkNum a b), .int .i64 (mkDen a b)], .int .i64 (mkErr a b)]) w) := by
  subst hb
  have H := Lib.hid (show mkNum a 0 = 0 ∧ mkDen a 0 = 0 ∧ mkErr a 0 = 2 by simp [mkNum, mkDen, mkErr])
  go_enter Tryz.func89, Tryz.ntmps89
  go_wp2_with fail
  refine bodyPost_ret (v := .tuple #[.agg #[.int .i64 0, .int .i64 0], .int .i64 2]) (by simp [results, Tryz.results89, go_sem]) rfl ⟨?_, ?_⟩
  · rw [H.out.1, H.out.2.1, H.out.2.2]
  · exact (((Below.refl _ _).alloc (Nat.le_refl _) _))

theorem wrap_top (a b : Int) (h : a.natAbs < 18446744073709551616) : IntKind.u64.wrap ((a.natAbs : Int) / ((Nat.gcd a.natAbs b.natAbs : Nat) : Int)) = ((top a b : Nat) : Int) := by
  have h1 := top_le a b
  have h2 : (a.natAbs : Int) / ((Nat.gcd a.natAbs b.natAbs : Nat) : Int) = ((top a b : Nat) : Int) := by unfold top; simp
  rw [h2]
  simp [IntKind.wrap, IntKind.bits, IntKind.signed]
  omega

theorem wrap_bot (a b : Int) (h : b.natAbs < 18446744073709551616) : IntKind.u64.wrap ((b.natAbs : Int) / ((Nat.gcd a.natAbs b.natAbs : Nat) : Int)) = ((bot a b : Nat) : Int) := by
  have h1 := bot_le a b
  have h2 : (b.natAbs : Int) / ((Nat.gcd a.natAbs b.natAbs : Nat) : Int) = ((bot a b : Nat) : Int) := by unfold bot; simp
  rw [h2]
  simp [IntKind.wrap, IntKind.bits, IntKind.signed]
  omega

theorem mk_no (a b : Int) (h0 : b ≠ 0) (h : 2147483647 < top a b ∨ 2147483647 < bot a b) : mkNum a b = 0 ∧ mkDen a b = 0 ∧ mkErr a b = 7 := by
  have hf : fits a b = false := by unfold fits; simp; omega
  simp [mkNum, mkDen, mkErr, h0, hf]

theorem mk_yes (a b : Int) (h0 : b ≠ 0) (h1 : ¬ 2147483647 < top a b) (h2 : ¬ 2147483647 < bot a b) : mkNum a b = (if (decide (a < 0) != decide (b < 0)) then -(top a b : Int) else top a b) ∧ mkDen a b = bot a b ∧ mkErr a b = 0 := by
  have hf : fits a b = true := by unfold fits; simp; omega
  simp [mkNum, mkDen, mkErr, h0, hf]

set_option maxHeartbeats 400000 in
theorem make_some (a b : Int) (w : World) (a1 : -9223372036854775808 ≤ a) (a2 : a ≤ 9223372036854775807) (b1 : -9223372036854775808 ≤ b) (b2 : b ≤ 9223372036854775807) (h0 : b ≠ 0) :
    Calls Tryz.prog 89 #[.int .i64 a, .int .i64 b] w (Made (.tuple #[.agg #[.int .i64 (mkNum a b), .int .i64 (mkDen a b)], .int .i64 (mkErr a b)]) w) := by
  have B0 : ((b : Int) == 0) = false := by simpa using h0
  have k1 : a.natAbs < 18446744073709551616 := by omega
  have k2 : b.natAbs < 18446744073709551616 := by omega
  have gp : 0 < Nat.gcd a.natAbs b.natAbs := Nat.gcd_pos_of_pos_right _ (by omega)
  have gB : (((Nat.gcd a.natAbs b.natAbs : Nat) : Int) == 0) = false := by simp; omega
  have gl : Nat.gcd a.natAbs b.natAbs ≤ b.natAbs := Nat.gcd_le_right _ (by omega)
  go_enter Tryz.func89, Tryz.ntmps89
  go_wp2_with fail
  refine (magnitude_any _ _ (by omega) (by omega)).mono ?_
  rintro e w' ⟨rfl, rfl⟩
  go_wp2_with fail
  refine (magnitude_any _ _ (by omega) (by omega)).mono ?_
  rintro e w' ⟨rfl, rfl⟩
  go_wp2_with fail
  refine (commonDivisor_any _ _ _ (by omega) (by omega)).mono ?_
  rintro e w1 ⟨rfl, hb⟩
  obtain ⟨hc, hf⟩ := bcell hb
  go_wp2_with fail
  go_quiet (fail)
  rw [wrap_top a b k1, wrap_bot a b k2]
  by_cases f1 : 2147483647 < top a b
  · have HV := Lib.hid (mk_no a b h0 (Or.inl f1))
    go_wp2_with fail
    refine bodyPost_ret (v := .tuple #[.agg #[.int .i64 0, .int .i64 0], .int .i64 7]) (by simp [results, Tryz.results89, go_sem, hc]) rfl ⟨?_, two_below (past_one hb) _ _ _⟩
    rw [HV.out.1, HV.out.2.1, HV.out.2.2]
  by_cases f2 : 2147483647 < bot a b
  · have HV := Lib.hid (mk_no a b h0 (Or.inr f2))
    go_wp2_with fail
    refine bodyPost_ret (v := .tuple #[.agg #[.int .i64 0, .int .i64 0], .int .i64 7]) (by simp [results, Tryz.results89, go_sem, hc]) rfl ⟨?_, two_below (past_one hb) _ _ _⟩
    rw [HV.out.1, HV.out.2.1, HV.out.2.2]
  have hv := mk_yes a b h0 f1 f2
  by_cases s1 : a < 0
  · by_cases s2 : b < 0
    · have HV := Lib.hid (show mkNum a b = top a b ∧ mkDen a b = bot a b ∧ mkErr a b = 0 by simpa [s1, s2] using hv)
      clear hv
      go_wp2_with fail
      refine bodyPost_ret (v := .tuple #[.agg #[.int .i64 (top a b), .int .i64 (bot a b)], .int .i64 0]) (by simp [results, Tryz.results89, go_sem, hc]) rfl ⟨?_, two_below (past_one hb) _ _ _⟩
      rw [HV.out.1, HV.out.2.1, HV.out.2.2]
    · have HV := Lib.hid (show mkNum a b = -(top a b : Int) ∧ mkDen a b = bot a b ∧ mkErr a b = 0 by simpa [s1, s2] using hv)
      clear hv
      go_wp2_with fail
      refine bodyPost_ret (v := .tuple #[.agg #[.int .i64 (-(top a b : Int)), .int .i64 (bot a b)], .int .i64 0]) (by simp [results, Tryz.results89, go_sem, hc]) rfl ⟨?_, two_below (past_one hb) _ _ _⟩
      rw [HV.out.1, HV.out.2.1, HV.out.2.2]
  · by_cases s2 : b < 0
    · have HV := Lib.hid (show mkNum a b = -(top a b : Int) ∧ mkDen a b = bot a b ∧ mkErr a b = 0 by simpa [s1, s2] using hv)
      clear hv
      go_wp2_with fail
      refine bodyPost_ret (v := .tuple #[.agg #[.int .i64 (-(top a b : Int)), .int .i64 (bot a b)], .int .i64 0]) (by simp [results, Tryz.results89, go_sem, hc]) rfl ⟨?_, two_below (past_one hb) _ _ _⟩
      rw [HV.out.1, HV.out.2.1, HV.out.2.2]
    · have HV := Lib.hid (show mkNum a b = top a b ∧ mkDen a b = bot a b ∧ mkErr a b = 0 by simpa [s1, s2] using hv)
      clear hv
      go_wp2_with fail
      refine bodyPost_ret (v := .tuple #[.agg #[.int .i64 (top a b), .int .i64 (bot a b)], .int .i64 0]) (by simp [results, Tryz.results89, go_sem, hc]) rfl ⟨?_, two_below (past_one hb) _ _ _⟩
      rw [HV.out.1, HV.out.2.1, HV.out.2.2]

theorem make_any (a b : Int) (w : World) (a1 : -9223372036854775808 ≤ a) (a2 : a ≤ 9223372036854775807) (b1 : -9223372036854775808 ≤ b) (b2 : b ≤ 9223372036854775807) :
    Calls Tryz.prog 89 #[.int .i64 a, .int .i64 b] w (Made (.tuple #[.agg #[.int .i64 (mkNum a b), .int .i64 (mkDen a b)], .int .i64 (mkErr a b)]) w) := by
  by_cases h : b = 0
  · exact make_zero a b w h
  · exact make_some a b w a1 a2 b1 b2 h

theorem valid_as {n d : Int} {b : Bool} (w : World) (hn : I64 n) (hd : I64 d) (h : vldB n d = b) : Calls Tryz.prog 59 #[.agg #[.int .i64 n, .int .i64 d]] w (Made (.bool b) w) := by
  rw [← h]; exact valid_any n d w hn.1 hn.2 hd.1 hd.2

theorem vld_bd {n d : Int} (h : vldB n d = true) : 1 ≤ d ∧ d ≤ 2147483647 ∧ -2147483647 ≤ n ∧ n ≤ 2147483647 := by
  unfold vldB at h; simp at h; omega
end Go.Proofs.YtbnebinpemejlaaGreat

namespace Go.Proofs.YtbnebinpemejlaaGreat
open Go.RowKit

theorem size_neg (n : Int) (h1 : -9223372036854775808 ≤ n) (h2 : n < 0) : IntKind.u64.wrap (IntKind.u64.wrap (-(n + 1)) + 1) = (n.natAbs : Int) := by
  simp [IntKind.wrap, IntKind.bits, IntKind.signed]
  omega

set_option maxHeartbeats 400000 in
theorem size_any (n : Int) (w : World) (h1 : -9223372036854775808 ≤ n) (h2 : n ≤ 9223372036854775807) :
    Calls Tryz.prog 93 #[.int .i64 n] w fun e w' => e = .returned (.int .u64 (n.natAbs : Int)) ∧ w' = w := by
  by_cases hn : n < 0
  · have H := Lib.hid (show -(n + 1) + 1 = (n.natAbs : Int) by omega)
    go_enter Tryz.func93, Tryz.ntmps93
    go_wp2
    go_ret
    exact ⟨ret_int H.out, rfl⟩
  · have H := Lib.hid (show (n : Int) = (n.natAbs : Int) by omega)
    go_enter Tryz.func93, Tryz.ntmps93
    go_wp2
    go_ret
    exact ⟨ret_int H.out, rfl⟩

set_option maxHeartbeats 400000 in
theorem divisor_any (a b : Nat) (w : World) (ha : a < 18446744073709551616) (hb : b < 18446744073709551616) :
    Calls Tryz.prog 92 #[.int .u64 a, .int .u64 b] w (Drawn (.int .u64 (Nat.gcd a b)) w) := by
  go_enter Tryz.func92, Tryz.ntmps92
  go_wp2
  go_loopw [0, 1] (fun x y wr => ∃ p q n : Nat, p < 18446744073709551616 ∧ q < 18446744073709551616 ∧ x = .int .u64 p ∧ y = .int .u64 q ∧ Hid (Nat.gcd p q = Nat.gcd a b) ∧ Hid (wr = w.drewN n)) (fun _ y _ => (intOf y).toNat)
  case atStart => exact ⟨a, b, 0, ha, hb, rfl, rfl, Lib.hid rfl, Lib.hid rfl⟩
  case round =>
    obtain ⟨p, q, n, hp, hq, rfl, rfl, hg, hw⟩ := hrel
    by_cases hz : q = 0
    · subst hz
      go_wp2
      go_ret
      exact ⟨ret_int (by have := hg.out; simp at this; simpa using congrArg (fun k : Nat => (k : Int)) this), n, hw.out⟩
    · have Hz : ((q : Int) == 0) = false := by simpa using hz
      have Hz2 : ((q : Int) != 0) = true := by simpa using hz
      go_wp2
      go_quiet (fail)
      go_wp2
      go_roundw
      case rel => exact ⟨q, p % q, n + nq, hq, Nat.lt_of_lt_of_le (Nat.mod_lt _ (Nat.pos_of_ne_zero hz)) (by omega), rfl, rfl, Lib.hid (by rw [← hg.out, Nat.gcd_comm p q, Nat.gcd_rec q p, Nat.gcd_comm]), Lib.hid (by rw [hw.out, World.drewN_drewN])⟩
      case measure => have := Nat.mod_lt p (Nat.pos_of_ne_zero hz); simp [intOf]; omega

set_option maxHeartbeats 400000 in
theorem refValid_any (n d : Int) (w : World) (n1 : -9223372036854775808 ≤ n) (n2 : n ≤ 9223372036854775807) (d1 : -9223372036854775808 ≤ d) (d2 : d ≤ 9223372036854775807) :
    Calls Tryz.prog 63 #[.agg #[.int .i64 n, .int .i64 d]] w (Made (.bool (vldB n d)) w) := by
  by_cases h1 : d < 1
  · have H := Lib.hid (vld_no (n := n) (d := d) (Or.inl h1))
    have D : decide ((1 : Int) ≤ d) = false := by simp; omega
    go_enter Tryz.func63, Tryz.ntmps63
    go_wp2_with fail
    go_quiet (fail)
    go_wp2_with fail
    go_ret
    exact ⟨ret_bool (by rw [H.out]), below_drewN ((Below.refl _ _).alloc (Nat.le_refl _) _) _⟩
  by_cases h2 : 2147483647 < d
  · have H := Lib.hid (vld_no (n := n) (d := d) (Or.inr (Or.inl h2)))
    have D : decide (d ≤ (2147483647 : Int)) = false := by simp; omega
    go_enter Tryz.func63, Tryz.ntmps63
    go_wp2_with fail
    go_quiet (fail)
    go_wp2_with fail
    go_ret
    exact ⟨ret_bool (by rw [H.out]), below_drewN ((Below.refl _ _).alloc (Nat.le_refl _) _) _⟩
  by_cases h3 : n < -2147483647
  · have H := Lib.hid (vld_no (n := n) (d := d) (Or.inr (Or.inr (Or.inl h3))))
    have D : decide ((-2147483647 : Int) ≤ n) = false := by simp; omega
    go_enter Tryz.func63, Tryz.ntmps63
    go_wp2_with fail
    go_quiet (fail)
    go_wp2_with fail
    go_ret
    exact ⟨ret_bool (by rw [H.out]), below_drewN ((Below.refl _ _).alloc (Nat.le_refl _) _) _⟩
  by_cases h4 : 2147483647 < n
  · have H := Lib.hid (vld_no (n := n) (d := d) (Or.inr (Or.inr (Or.inr h4))))
    have D : decide (n ≤ (2147483647 : Int)) = false := by simp; omega
    go_enter Tryz.func63, Tryz.ntmps63
    go_wp2_with fail
    go_quiet (fail)
    go_wp2_with fail
    go_ret
    exact ⟨ret_bool (by rw [H.out]), below_drewN ((Below.refl _ _).alloc (Nat.le_refl _) _) _⟩
  have H := Lib.hid (vld_yes (n := n) (d := d) (by omega) (by omega) (by omega) (by omega))
  have k1 : n.natAbs < 18446744073709551616 := by omega
  have k2 : d.natAbs < 18446744073709551616 := by omega
  go_enter Tryz.func63, Tryz.ntmps63
  go_wp2_with fail
  go_quiet (first | (go_at_call 93; exact Calls.quiet_of_same (size_any _ _ (by omega) (by omega))) | (go_at_call 92; exact Calls.quiet_of (divisor_any _ _ _ (by omega) (by omega))))
  go_wp2_with fail
  go_ret
  exact ⟨ret_bool (by rw [H.out]), below_drewN ((Below.refl _ _).alloc (Nat.le_refl _) _) _⟩

set_option maxHeartbeats 400000 in
theorem refMake_zero (a b : Int) (w : World) (hb : b = 0) :
    Calls Tryz.prog 77 #[.int .i64 a, .int .i64 b] w (Made (.tuple #[.agg #[.int .i64 (mkNum a b), .int .i64 (mkDen a b)], .int .i64 (mkErr a b)]) w) := by
  subst hb
  have H := Lib.hid (show mkNum a 0 = 0 ∧ mkDen a 0 = 0 ∧ mkErr a 0 = 2 by simp [mkNum, mkDen, mkErr])
  go_enter Tryz.func77, Tryz.ntmps77
  go_wp2_with fail
  refine bodyPost_ret (v := .tuple #[.agg #[.int .i64 0, .int .i64 0], .int .i64 2]) (by simp [results, Tryz.results77, go_sem]) rfl ⟨?_, ?_⟩
  · rw [H.out.1, H.out.2.1, H.out.2.2]
  · exact (((Below.refl _ _).alloc (Nat.le_refl _) _))

set_option maxHeartbeats 800000 in
theorem refMake_some (a b : Int) (w : World) (a1 : -9223372036854775808 ≤ a) (a2 : a ≤ 9223372036854775807) (b1 : -9223372036854775808 ≤ b) (b2 : b ≤ 9223372036854775807) (h0 : b ≠ 0) :
    Calls Tryz.prog 77 #[.int .i64 a, .int .i64 b] w (Made (.tuple #[.agg #[.int .i64 (mkNum a b), .int .i64 (mkDen a b)], .int .i64 (mkErr a b)]) w) := by
  have B0 : ((b : Int) == 0) = false := by simpa using h0
  have k1 : a.natAbs < 18446744073709551616 := by omega
  have k2 : b.natAbs < 18446744073709551616 := by omega
  have gp : 0 < Nat.gcd a.natAbs b.natAbs := Nat.gcd_pos_of_pos_right _ (by omega)
  have gB : (((Nat.gcd a.natAbs b.natAbs : Nat) : Int) == 0) = false := by simp; omega
  have gl : Nat.gcd a.natAbs b.natAbs ≤ b.natAbs := Nat.gcd_le_right _ (by omega)
  go_enter Tryz.func77, Tryz.ntmps77
  go_wp2_with fail
  refine (size_any _ _ (by omega) (by omega)).mono ?_
  rintro e w' ⟨rfl, rfl⟩
  go_wp2_with fail
  refine (size_any _ _ (by omega) (by omega)).mono ?_
  rintro e w' ⟨rfl, rfl⟩
  go_wp2_with fail
  refine (divisor_any _ _ _ (by omega) (by omega)).mono ?_
  rintro e w1 ⟨rfl, n1, rfl⟩
  go_wp2_with fail
  go_quiet ((go_at_call 93; exact (size_any _ _ (by omega) (by omega)).mono (fun e w' h => ⟨h.1, _, h.2⟩)))
  rw [wrap_top a b k1, wrap_bot a b k2]
  by_cases f1 : 2147483647 < top a b
  · have HV := Lib.hid (mk_no a b h0 (Or.inl f1))
    go_wp2_with fail
    refine bodyPost_ret (v := .tuple #[.agg #[.int .i64 0, .int .i64 0], .int .i64 7]) (by simp [results, Tryz.results77, go_sem]) rfl ⟨?_, ?_⟩
    · rw [HV.out.1, HV.out.2.1, HV.out.2.2]
    · repeat (first | exact Below.refl _ _ | refine Below.alloc ?_ (by simp) _ | refine Below.setCell ?_ (by simp) _ | refine below_drewN ?_ _)
  by_cases f2 : 2147483647 < bot a b
  · have HV := Lib.hid (mk_no a b h0 (Or.inr f2))
    go_wp2_with fail
    refine bodyPost_ret (v := .tuple #[.agg #[.int .i64 0, .int .i64 0], .int .i64 7]) (by simp [results, Tryz.results77, go_sem]) rfl ⟨?_, ?_⟩
    · rw [HV.out.1, HV.out.2.1, HV.out.2.2]
    · repeat (first | exact Below.refl _ _ | refine Below.alloc ?_ (by simp) _ | refine Below.setCell ?_ (by simp) _ | refine below_drewN ?_ _)
  have hv := mk_yes a b h0 f1 f2
  by_cases s1 : a < 0
  · by_cases s2 : b < 0
    · have HV := Lib.hid (show mkNum a b = top a b ∧ mkDen a b = bot a b ∧ mkErr a b = 0 by simpa [s1, s2] using hv)
      clear hv
      go_wp2_with fail
      refine bodyPost_ret (v := .tuple #[.agg #[.int .i64 (top a b), .int .i64 (bot a b)], .int .i64 0]) (by simp [results, Tryz.results77, go_sem]) rfl ⟨?_, ?_⟩
      · rw [HV.out.1, HV.out.2.1, HV.out.2.2]
      · repeat (first | exact Below.refl _ _ | refine Below.alloc ?_ (by simp) _ | refine Below.setCell ?_ (by simp) _ | refine below_drewN ?_ _)
    · have HV := Lib.hid (show mkNum a b = -(top a b : Int) ∧ mkDen a b = bot a b ∧ mkErr a b = 0 by simpa [s1, s2] using hv)
      clear hv
      go_wp2_with fail
      refine bodyPost_ret (v := .tuple #[.agg #[.int .i64 (-(top a b : Int)), .int .i64 (bot a b)], .int .i64 0]) (by simp [results, Tryz.results77, go_sem]) rfl ⟨?_, ?_⟩
      · rw [HV.out.1, HV.out.2.1, HV.out.2.2]
      · repeat (first | exact Below.refl _ _ | refine Below.alloc ?_ (by simp) _ | refine Below.setCell ?_ (by simp) _ | refine below_drewN ?_ _)
  · by_cases s2 : b < 0
    · have HV := Lib.hid (show mkNum a b = -(top a b : Int) ∧ mkDen a b = bot a b ∧ mkErr a b = 0 by simpa [s1, s2] using hv)
      clear hv
      go_wp2_with fail
      refine bodyPost_ret (v := .tuple #[.agg #[.int .i64 (-(top a b : Int)), .int .i64 (bot a b)], .int .i64 0]) (by simp [results, Tryz.results77, go_sem]) rfl ⟨?_, ?_⟩
      · rw [HV.out.1, HV.out.2.1, HV.out.2.2]
      · repeat (first | exact Below.refl _ _ | refine Below.alloc ?_ (by simp) _ | refine Below.setCell ?_ (by simp) _ | refine below_drewN ?_ _)
    · have HV := Lib.hid (show mkNum a b = top a b ∧ mkDen a b = bot a b ∧ mkErr a b = 0 by simpa [s1, s2] using hv)
      clear hv
      go_wp2_with fail
      refine bodyPost_ret (v := .tuple #[.agg #[.int .i64 (top a b), .int .i64 (bot a b)], .int .i64 0]) (by simp [results, Tryz.results77, go_sem]) rfl ⟨?_, ?_⟩
      · rw [HV.out.1, HV.out.2.1, HV.out.2.2]
      · repeat (first | exact Below.refl _ _ | refine Below.alloc ?_ (by simp) _ | refine Below.setCell ?_ (by simp) _ | refine below_drewN ?_ _)

theorem refMake_any (a b : Int) (w : World) (a1 : -9223372036854775808 ≤ a) (a2 : a ≤ 9223372036854775807) (b1 : -9223372036854775808 ≤ b) (b2 : b ≤ 9223372036854775807) :
    Calls Tryz.prog 77 #[.int .i64 a, .int .i64 b] w (Made (.tuple #[.agg #[.int .i64 (mkNum a b), .int .i64 (mkDen a b)], .int .i64 (mkErr a b)]) w) := by
  by_cases h : b = 0
  · exact refMake_zero a b w h
  · exact refMake_some a b w a1 a2 b1 b2 h

theorem refValid_as {n d : Int} {b : Bool} (w : World) (hn : I64 n) (hd : I64 d) (h : vldB n d = b) : Calls Tryz.prog 63 #[.agg #[.int .i64 n, .int .i64 d]] w (Made (.bool b) w) := by
  rw [← h]; exact refValid_any n d w hn.1 hn.2 hd.1 hd.2
end Go.Proofs.YtbnebinpemejlaaGreat

namespace Go.Proofs.YtbnebinpemejlaaGreat
open Go.RowKit

set_option maxHeartbeats 400000 in
theorem add_any (n d m c : Int) (w : World) (hn : I64 n) (hd : I64 d) (hm : I64 m) (hc : I64 c) :
    Calls Tryz.prog 95 #[.agg #[.int .i64 n, .int .i64 d], .agg #[.int .i64 m, .int .i64 c]] w
      (Made (.tuple #[.agg #[.int .i64 (opNum (vldB n d && vldB m c) (n * c + m * d) (d * c)), .int .i64 (opDen (vldB n d && vldB m c) (n * c + m * d) (d * c))], .int .i64 (opErr (vldB n d && vldB m c) (n * c + m * d) (d * c))]) w) := by
  by_cases v1 : vldB n d = true
  · by_cases v2 : vldB m c = true
    · have V1 := Lib.hid v1
      have V2 := Lib.hid v2
      obtain ⟨x1, x2, x3, x4⟩ := vld_bd v1
      obtain ⟨y1, y2, y3, y4⟩ := vld_bd v2
      have HV := Lib.hid (show opNum (vldB n d && vldB m c) (n * c + m * d) (d * c) = mkNum (n * c + m * d) (d * c) ∧ opDen (vldB n d && vldB m c) (n * c + m * d) (d * c) = mkDen (n * c + m * d) (d * c) ∧ opErr (vldB n d && vldB m c) (n * c + m * d) (d * c) = mkErr (n * c + m * d) (d * c) by simp [opNum, opDen, opErr, v1, v2])
      clear v1 v2
      obtain ⟨p1a, p1b⟩ := mul_bd x3 x4 (show -2147483647 ≤ c by omega) y2
      obtain ⟨p2a, p2b⟩ := mul_bd y3 y4 (show -2147483647 ≤ d by omega) x2
      obtain ⟨p3a, p3b⟩ := mul_bd (show -2147483647 ≤ d by omega) x2 (show -2147483647 ≤ c by omega) y2
      obtain ⟨p4a, p4b⟩ := mul_bd x3 x4 y3 y4
      obtain ⟨p5a, p5b⟩ := mul_bd (show -2147483647 ≤ d by omega) x2 y3 y4
      go_enter Tryz.func95, Tryz.ntmps95
      go_wp2_with fail
      refine (valid_as _ hn hd V1.out).mono ?_
      rintro e w1 ⟨rfl, hb⟩
      obtain ⟨hx, hf⟩ := bcell hb
      go_wp2_with fail
      refine (valid_as _ hm hc V2.out).mono ?_
      rintro e w2 ⟨rfl, hb2⟩
      replace hb2 := below_on hb hb2
      clear hb hx hf
      obtain ⟨hx, hf⟩ := bcell hb2
      go_wp2_with fail
      refine (make_any _ _ _ (by omega) (by omega) (by omega) (by omega)).mono ?_
      rintro e w3 ⟨rfl, hb3⟩
      replace hb3 := below_on hb2 hb3
      clear hb2 hx hf
      obtain ⟨hx, hf⟩ := bcell hb3
      go_wp2_with fail
      refine bodyPost_ret (v := .tuple #[.agg #[.int .i64 (mkNum (n * c + m * d) (d * c)), .int .i64 (mkDen (n * c + m * d) (d * c))], .int .i64 (mkErr (n * c + m * d) (d * c))]) (by simp [results, Tryz.results95, go_sem, hx]) rfl ⟨?_, ?_⟩
      · rw [HV.out.1, HV.out.2.1, HV.out.2.2]
      · exact ((past_three hb3).setCell (by simp; omega) _).setCell (by simp; omega) _
    · have V1 := Lib.hid v1
      have v2' : vldB m c = false := by simpa using v2
      have V2 := Lib.hid v2'
      have HV := Lib.hid (show opNum (vldB n d && vldB m c) (n * c + m * d) (d * c) = 0 ∧ opDen (vldB n d && vldB m c) (n * c + m * d) (d * c) = 0 ∧ opErr (vldB n d && vldB m c) (n * c + m * d) (d * c) = 2 by simp [opNum, opDen, opErr, v1, v2'])
      clear v1 v2 v2'
      go_enter Tryz.func95, Tryz.ntmps95
      go_wp2_with fail
      refine (valid_as _ hn hd V1.out).mono ?_
      rintro e w1 ⟨rfl, hb⟩
      obtain ⟨hx, hf⟩ := bcell hb
      go_wp2_with fail
      refine (valid_as _ hm hc V2.out).mono ?_
      rintro e w2 ⟨rfl, hb2⟩
      replace hb2 := below_on hb hb2
      clear hb hx hf
      obtain ⟨hx, hf⟩ := bcell hb2
      go_wp2_with fail
      refine bodyPost_ret (v := .tuple #[.agg #[.int .i64 0, .int .i64 0], .int .i64 2]) (by simp [results, Tryz.results95, go_sem, hx]) rfl ⟨?_, ?_⟩
      · rw [HV.out.1, HV.out.2.1, HV.out.2.2]
      · exact ((past_three hb2).setCell (by simp; omega) _).setCell (by simp; omega) _
  · have v1' : vldB n d = false := by simpa using v1
    have V1 := Lib.hid v1'
    have HV := Lib.hid (show opNum (vldB n d && vldB m c) (n * c + m * d) (d * c) = 0 ∧ opDen (vldB n d && vldB m c) (n * c + m * d) (d * c) = 0 ∧ opErr (vldB n d && vldB m c) (n * c + m * d) (d * c) = 2 by simp [opNum, opDen, opErr, v1'])
    clear v1 v1'
    go_enter Tryz.func95, Tryz.ntmps95
    go_wp2_with fail
    refine (valid_as _ hn hd V1.out).mono ?_
    rintro e w1 ⟨rfl, hb⟩
    obtain ⟨hx, hf⟩ := bcell hb
    go_wp2_with fail
    refine bodyPost_ret (v := .tuple #[.agg #[.int .i64 0, .int .i64 0], .int .i64 2]) (by simp [results, Tryz.results95, go_sem, hx]) rfl ⟨?_, ?_⟩
    · rw [HV.out.1, HV.out.2.1, HV.out.2.2]
    · exact ((past_three hb).setCell (by simp; omega) _).setCell (by simp; omega) _

set_option maxHeartbeats 400000 in
theorem sub_any (n d m c : Int) (w : World) (hn : I64 n) (hd : I64 d) (hm : I64 m) (hc : I64 c) :
    Calls Tryz.prog 61 #[.agg #[.int .i64 n, .int .i64 d], .agg #[.int .i64 m, .int .i64 c]] w
      (Made (.tuple #[.agg #[.int .i64 (opNum (vldB n d && vldB m c) (n * c - m * d) (d * c)), .int .i64 (opDen (vldB n d && vldB m c) (n * c - m * d) (d * c))], .int .i64 (opErr (vldB n d && vldB m c) (n * c - m * d) (d * c))]) w) := by
  by_cases v1 : vldB n d = true
  · by_cases v2 : vldB m c = true
    · have V1 := Lib.hid v1
      have V2 := Lib.hid v2
      obtain ⟨x1, x2, x3, x4⟩ := vld_bd v1
      obtain ⟨y1, y2, y3, y4⟩ := vld_bd v2
      have HV := Lib.hid (show opNum (vldB n d && vldB m c) (n * c - m * d) (d * c) = mkNum (n * c - m * d) (d * c) ∧ opDen (vldB n d && vldB m c) (n * c - m * d) (d * c) = mkDen (n * c - m * d) (d * c) ∧ opErr (vldB n d && vldB m c) (n * c - m * d) (d * c) = mkErr (n * c - m * d) (d * c) by simp [opNum, opDen, opErr, v1, v2])
      clear v1 v2
      obtain ⟨p1a, p1b⟩ := mul_bd x3 x4 (show -2147483647 ≤ c by omega) y2
      obtain ⟨p2a, p2b⟩ := mul_bd y3 y4 (show -2147483647 ≤ d by omega) x2
      obtain ⟨p3a, p3b⟩ := mul_bd (show -2147483647 ≤ d by omega) x2 (show -2147483647 ≤ c by omega) y2
      obtain ⟨p4a, p4b⟩ := mul_bd x3 x4 y3 y4
      obtain ⟨p5a, p5b⟩ := mul_bd (show -2147483647 ≤ d by omega) x2 y3 y4
      go_enter Tryz.func61, Tryz.ntmps61
      go_wp2_with fail
      refine (valid_as _ hn hd V1.out).mono ?_
      rintro e w1 ⟨rfl, hb⟩
      obtain ⟨hx, hf⟩ := bcell hb
      go_wp2_with fail
      refine (valid_as _ hm hc V2.out).mono ?_
      rintro e w2 ⟨rfl, hb2⟩
      replace hb2 := below_on hb hb2
      clear hb hx hf
      obtain ⟨hx, hf⟩ := bcell hb2
      go_wp2_with fail
      refine (make_any _ _ _ (by omega) (by omega) (by omega) (by omega)).mono ?_
      rintro e w3 ⟨rfl, hb3⟩
      replace hb3 := below_on hb2 hb3
      clear hb2 hx hf
      obtain ⟨hx, hf⟩ := bcell hb3
      go_wp2_with fail
      refine bodyPost_ret (v := .tuple #[.agg #[.int .i64 (mkNum (n * c - m * d) (d * c)), .int .i64 (mkDen (n * c - m * d) (d * c))], .int .i64 (mkErr (n * c - m * d) (d * c))]) (by simp [results, Tryz.results61, go_sem, hx]) rfl ⟨?_, ?_⟩
      · rw [HV.out.1, HV.out.2.1, HV.out.2.2]
      · exact ((past_three hb3).setCell (by simp; omega) _).setCell (by simp; omega) _
    · have V1 := Lib.hid v1
      have v2' : vldB m c = false := by simpa using v2
      have V2 := Lib.hid v2'
      have HV := Lib.hid (show opNum (vldB n d && vldB m c) (n * c - m * d) (d * c) = 0 ∧ opDen (vldB n d && vldB m c) (n * c - m * d) (d * c) = 0 ∧ opErr (vldB n d && vldB m c) (n * c - m * d) (d * c) = 2 by simp [opNum, opDen, opErr, v1, v2'])
      clear v1 v2 v2'
      go_enter Tryz.func61, Tryz.ntmps61
      go_wp2_with fail
      refine (valid_as _ hn hd V1.out).mono ?_
      rintro e w1 ⟨rfl, hb⟩
      obtain ⟨hx, hf⟩ := bcell hb
      go_wp2_with fail
      refine (valid_as _ hm hc V2.out).mono ?_
      rintro e w2 ⟨rfl, hb2⟩
      replace hb2 := below_on hb hb2
      clear hb hx hf
      obtain ⟨hx, hf⟩ := bcell hb2
      go_wp2_with fail
      refine bodyPost_ret (v := .tuple #[.agg #[.int .i64 0, .int .i64 0], .int .i64 2]) (by simp [results, Tryz.results61, go_sem, hx]) rfl ⟨?_, ?_⟩
      · rw [HV.out.1, HV.out.2.1, HV.out.2.2]
      · exact ((past_three hb2).setCell (by simp; omega) _).setCell (by simp; omega) _
  · have v1' : vldB n d = false := by simpa using v1
    have V1 := Lib.hid v1'
    have HV := Lib.hid (show opNum (vldB n d && vldB m c) (n * c - m * d) (d * c) = 0 ∧ opDen (vldB n d && vldB m c) (n * c - m * d) (d * c) = 0 ∧ opErr (vldB n d && vldB m c) (n * c - m * d) (d * c) = 2 by simp [opNum, opDen, opErr, v1'])
    clear v1 v1'
    go_enter Tryz.func61, Tryz.ntmps61
    go_wp2_with fail
    refine (valid_as _ hn hd V1.out).mono ?_
    rintro e w1 ⟨rfl, hb⟩
    obtain ⟨hx, hf⟩ := bcell hb
    go_wp2_with fail
    refine bodyPost_ret (v := .tuple #[.agg #[.int .i64 0, .int .i64 0], .int .i64 2]) (by simp [results, Tryz.results61, go_sem, hx]) rfl ⟨?_, ?_⟩
    · rw [HV.out.1, HV.out.2.1, HV.out.2.2]
    · exact ((past_three hb).setCell (by simp; omega) _).setCell (by simp; omega) _

set_option maxHeartbeats 400000 in
theorem refAdd_any (n d m c : Int) (w : World) (hn : I64 n) (hd : I64 d) (hm : I64 m) (hc : I64 c) :
    Calls Tryz.prog 42 #[.agg #[.int .i64 n, .int .i64 d], .agg #[.int .i64 m, .int .i64 c]] w
      (Made (.tuple #[.agg #[.int .i64 (opNum (vldB n d && vldB m c) (n * c + m * d) (d * c)), .int .i64 (opDen (vldB n d && vldB m c) (n * c + m * d) (d * c))], .int .i64 (opErr (vldB n d && vldB m c) (n * c + m * d) (d * c))]) w) := by
  by_cases v1 : vldB n d = true
  · by_cases v2 : vldB m c = true
    · have V1 := Lib.hid v1
      have V2 := Lib.hid v2
      obtain ⟨x1, x2, x3, x4⟩ := vld_bd v1
      obtain ⟨y1, y2, y3, y4⟩ := vld_bd v2
      have HV := Lib.hid (show opNum (vldB n d && vldB m c) (n * c + m * d) (d * c) = mkNum (n * c + m * d) (d * c) ∧ opDen (vldB n d && vldB m c) (n * c + m * d) (d * c) = mkDen (n * c + m * d) (d * c) ∧ opErr (vldB n d && vldB m c) (n * c + m * d) (d * c) = mkErr (n * c + m * d) (d * c) by simp [opNum, opDen, opErr, v1, v2])
      clear v1 v2
      obtain ⟨p1a, p1b⟩ := mul_bd x3 x4 (show -2147483647 ≤ c by omega) y2
      obtain ⟨p2a, p2b⟩ := mul_bd y3 y4 (show -2147483647 ≤ d by omega) x2
      obtain ⟨p3a, p3b⟩ := mul_bd (show -2147483647 ≤ d by omega) x2 (show -2147483647 ≤ c by omega) y2
      obtain ⟨p4a, p4b⟩ := mul_bd x3 x4 y3 y4
      obtain ⟨p5a, p5b⟩ := mul_bd (show -2147483647 ≤ d by omega) x2 y3 y4
      go_enter Tryz.func42, Tryz.ntmps42
      go_wp2_with fail
      refine (refValid_as _ hn hd V1.out).mono ?_
      rintro e w1 ⟨rfl, hb⟩
      obtain ⟨hx, hf⟩ := bcell hb
      go_wp2_with fail
      refine (refValid_as _ hm hc V2.out).mono ?_
      rintro e w2 ⟨rfl, hb2⟩
      replace hb2 := below_on hb hb2
      clear hb hx hf
      obtain ⟨hx, hf⟩ := bcell hb2
      go_wp2_with fail
      refine (refMake_any _ _ _ (by omega) (by omega) (by omega) (by omega)).mono ?_
      rintro e w3 ⟨rfl, hb3⟩
      replace hb3 := below_on hb2 hb3
      clear hb2 hx hf
      obtain ⟨hx, hf⟩ := bcell hb3
      go_wp2_with fail
      refine bodyPost_ret (v := .tuple #[.agg #[.int .i64 (mkNum (n * c + m * d) (d * c)), .int .i64 (mkDen (n * c + m * d) (d * c))], .int .i64 (mkErr (n * c + m * d) (d * c))]) (by simp [results, Tryz.results42, go_sem, hx]) rfl ⟨?_, ?_⟩
      · rw [HV.out.1, HV.out.2.1, HV.out.2.2]
      · exact ((past_three hb3).setCell (by simp; omega) _).setCell (by simp; omega) _
    · have V1 := Lib.hid v1
      have v2' : vldB m c = false := by simpa using v2
      have V2 := Lib.hid v2'
      have HV := Lib.hid (show opNum (vldB n d && vldB m c) (n * c + m * d) (d * c) = 0 ∧ opDen (vldB n d && vldB m c) (n * c + m * d) (d * c) = 0 ∧ opErr (vldB n d && vldB m c) (n * c + m * d) (d * c) = 2 by simp [opNum, opDen, opErr, v1, v2'])
      clear v1 v2 v2'
      go_enter Tryz.func42, Tryz.ntmps42
      go_wp2_with fail
      refine (refValid_as _ hn hd V1.out).mono ?_
      rintro e w1 ⟨rfl, hb⟩
      obtain ⟨hx, hf⟩ := bcell hb
      go_wp2_with fail
      refine (refValid_as _ hm hc V2.out).mono ?_
      rintro e w2 ⟨rfl, hb2⟩
      replace hb2 := below_on hb hb2
      clear hb hx hf
      obtain ⟨hx, hf⟩ := bcell hb2
      go_wp2_with fail
      refine bodyPost_ret (v := .tuple #[.agg #[.int .i64 0, .int .i64 0], .int .i64 2]) (by simp [results, Tryz.results42, go_sem, hx]) rfl ⟨?_, ?_⟩
      · rw [HV.out.1, HV.out.2.1, HV.out.2.2]
      · exact ((past_three hb2).setCell (by simp; omega) _).setCell (by simp; omega) _
  · have v1' : vldB n d = false := by simpa using v1
    have V1 := Lib.hid v1'
    have HV := Lib.hid (show opNum (vldB n d && vldB m c) (n * c + m * d) (d * c) = 0 ∧ opDen (vldB n d && vldB m c) (n * c + m * d) (d * c) = 0 ∧ opErr (vldB n d && vldB m c) (n * c + m * d) (d * c) = 2 by simp [opNum, opDen, opErr, v1'])
    clear v1 v1'
    go_enter Tryz.func42, Tryz.ntmps42
    go_wp2_with fail
    refine (refValid_as _ hn hd V1.out).mono ?_
    rintro e w1 ⟨rfl, hb⟩
    obtain ⟨hx, hf⟩ := bcell hb
    go_wp2_with fail
    refine bodyPost_ret (v := .tuple #[.agg #[.int .i64 0, .int .i64 0], .int .i64 2]) (by simp [results, Tryz.results42, go_sem, hx]) rfl ⟨?_, ?_⟩
    · rw [HV.out.1, HV.out.2.1, HV.out.2.2]
    · exact ((past_three hb).setCell (by simp; omega) _).setCell (by simp; omega) _
end Go.Proofs.YtbnebinpemejlaaGreat

namespace Go.Proofs.YtbnebinpemejlaaGreat
open Go.RowKit

set_option maxHeartbeats 400000 in
theorem of_any (n : Int) (w : World) (hn : I64 n) :
    Calls Tryz.prog 90 #[.int .i64 n] w (Made (.tuple #[.agg #[.int .i64 (mkNum n 1), .int .i64 (mkDen n 1)], .int .i64 (mkErr n 1)]) w) := by
  have a1 := hn.1
  have a2 := hn.2
  go_enter Tryz.func90, Tryz.ntmps90
  go_wp2_with fail
  refine (make_any _ _ _ (by omega) (by omega) (by omega) (by omega)).mono ?_
  rintro e w1 ⟨rfl, hb⟩
  obtain ⟨hx, hf⟩ := bcell hb
  go_wp2_with fail
  refine bodyPost_ret (v := .tuple #[.agg #[.int .i64 (mkNum n 1), .int .i64 (mkDen n 1)], .int .i64 (mkErr n 1)]) (by simp [results, Tryz.results90, go_sem, hx]) rfl ⟨rfl, ?_⟩
  exact ((past_one hb).setCell (by simp) _).setCell (by simp) _

set_option maxHeartbeats 400000 in
theorem neg_any (n d : Int) (w : World) (hn : I64 n) (hd : I64 d) :
    Calls Tryz.prog 28 #[.agg #[.int .i64 n, .int .i64 d]] w (Made (.tuple #[.agg #[.int .i64 (if vldB n d then -n else 0), .int .i64 (if vldB n d then d else 0)], .int .i64 (if vldB n d then 0 else 2)]) w) := by
  cases v1 : vldB n d
  · have V1 := Lib.hid v1
    clear v1
    go_enter Tryz.func28, Tryz.ntmps28
    go_wp2_with fail
    refine (valid_as _ hn hd V1.out).mono ?_
    rintro e w1 ⟨rfl, hb⟩
    obtain ⟨hx, hf⟩ := bcell hb
    go_wp2_with fail
    refine bodyPost_ret (v := .tuple #[.agg #[.int .i64 0, .int .i64 0], .int .i64 2]) (by simp [results, Tryz.results28, go_sem, hx]) rfl ⟨rfl, ?_⟩
    exact ((past_two hb).setCell (by simp) _).setCell (by simp) _
  · have V1 := Lib.hid v1
    obtain ⟨x1, x2, x3, x4⟩ := vld_bd v1
    clear v1
    go_enter Tryz.func28, Tryz.ntmps28
    go_wp2_with fail
    refine (valid_as _ hn hd V1.out).mono ?_
    rintro e w1 ⟨rfl, hb⟩
    obtain ⟨hx, hf⟩ := bcell hb
    go_wp2_with fail
    refine bodyPost_ret (v := .tuple #[.agg #[.int .i64 (-n), .int .i64 d], .int .i64 0]) (by simp [results, Tryz.results28, go_sem, hx]) rfl ⟨rfl, ?_⟩
    exact ((past_two hb).setCell (by simp) _).setCell (by simp) _

set_option maxHeartbeats 400000 in
theorem refNeg_any (n d : Int) (w : World) (hn : I64 n) (hd : I64 d) :
    Calls Tryz.prog 33 #[.agg #[.int .i64 n, .int .i64 d]] w (Made (.tuple #[.agg #[.int .i64 (if vldB n d then -n else 0), .int .i64 (if vldB n d then d else 0)], .int .i64 (if vldB n d then 0 else 2)]) w) := by
  cases v1 : vldB n d
  · have V1 := Lib.hid v1
    clear v1
    go_enter Tryz.func33, Tryz.ntmps33
    go_wp2_with fail
    refine (refValid_as _ hn hd V1.out).mono ?_
    rintro e w1 ⟨rfl, hb⟩
    obtain ⟨hx, hf⟩ := bcell hb
    go_wp2_with fail
    refine bodyPost_ret (v := .tuple #[.agg #[.int .i64 0, .int .i64 0], .int .i64 2]) (by simp [results, Tryz.results33, go_sem, hx]) rfl ⟨rfl, ?_⟩
    exact ((past_two hb).setCell (by simp) _).setCell (by simp) _
  · have V1 := Lib.hid v1
    obtain ⟨x1, x2, x3, x4⟩ := vld_bd v1
    clear v1
    go_enter Tryz.func33, Tryz.ntmps33
    go_wp2_with fail
    refine (refValid_as _ hn hd V1.out).mono ?_
    rintro e w1 ⟨rfl, hb⟩
    obtain ⟨hx, hf⟩ := bcell hb
    go_wp2_with fail
    refine bodyPost_ret (v := .tuple #[.agg #[.int .i64 (-n), .int .i64 d], .int .i64 0]) (by simp [results, Tryz.results33, go_sem, hx]) rfl ⟨rfl, ?_⟩
    exact ((past_two hb).setCell (by simp) _).setCell (by simp) _

/-- Go's quotient and rest, and the quotient rounded down. -/
theorem fdiv_of (n d : Int) (hd : 1 ≤ d) : n / d = if n.tmod d < 0 then n.tdiv d - 1 else n.tdiv d := by
  have hd0 : 0 < d := by omega
  by_cases h : 0 ≤ n
  · rw [Int.tmod_eq_emod_of_nonneg h, Int.tdiv_eq_ediv_of_nonneg h, if_neg (by have := Int.emod_nonneg n (show d ≠ 0 by omega); omega)]
  · have h1 := Int.tmod_add_tdiv_mul n d
    have h2 : -d < n.tmod d := by have := Int.lt_tmod_of_pos n hd0; omega
    have h3 : n.tmod d ≤ 0 := by
      have e : n.tmod d = -((-n).tmod d) := by rw [Int.neg_tmod]; omega
      rw [e, Int.tmod_eq_emod_of_nonneg (show 0 ≤ -n by omega)]
      have := Int.emod_nonneg (-n) (show d ≠ 0 by omega)
      omega
    generalize hr : n.tmod d = r at *
    generalize hq : n.tdiv d = q at *
    split
    · rename_i h4
      have e : n = (r + d) + (q - 1) * d := by rw [Int.sub_mul]; omega
      rw [e, Int.add_mul_ediv_right _ _ (by omega), Int.ediv_eq_zero_of_lt (by omega) (by omega)]; omega
    · have e : n = 0 + q * d := by omega
      rw [e, Int.add_mul_ediv_right _ _ (by omega)]; simp

theorem tdiv_bd (n d : Int) (h1 : -4611686018427387904 ≤ n) (h2 : n ≤ 4611686018427387904) : -4611686018427387904 ≤ n.tdiv d ∧ n.tdiv d ≤ 4611686018427387904 := by
  have := Int.natAbs_tdiv_le_natAbs n d
  omega

theorem fl_bd (n d : Int) (hd : 1 ≤ d) (h1 : -2147483648 ≤ n) (h2 : n ≤ 2147483648) : -2147483648 ≤ n / d ∧ n / d ≤ 2147483648 := by
  constructor
  · rw [Int.le_ediv_iff_mul_le (by omega)]
    have : (-2147483648 : Int) * d ≤ -2147483648 * 1 := by omega
    omega
  · apply Int.ediv_le_of_le_mul (by omega)
    have : (2147483648 : Int) * 1 ≤ 2147483648 * d := by omega
    omega

set_option maxHeartbeats 400000 in
theorem rounded_any (n d : Int) (w : World) (h1 : -4611686018427387904 ≤ n) (h2 : n ≤ 4611686018427387904) (hd : 1 ≤ d) (hd2 : d ≤ 9223372036854775807) :
    Calls Tryz.prog 104 #[.int .i64 n, .int .i64 d] w fun e w' => e = .returned (.int .i64 (n / d)) ∧ w = w' := by
  have hz : (d == 0) = false := by simp; omega
  by_cases hn : 0 ≤ n
  · have hm := Int.emod_nonneg n (show d ≠ 0 by omega)
    go_enter Tryz.func104, Tryz.ntmps104
    go_wp2
    go_ret
    exact ⟨rfl, rfl⟩
  · have tb := tdiv_bd n d h1 (by omega)
    by_cases hr : n.tmod d < 0
    · have H := Lib.hid (show n.tdiv d - 1 = n / d by rw [fdiv_of n d hd, if_pos hr])
      go_enter Tryz.func104, Tryz.ntmps104
      go_wp2
      go_ret
      exact ⟨ret_int H.out, rfl⟩
    · have H := Lib.hid (show n.tdiv d = n / d by rw [fdiv_of n d hd, if_neg hr])
      go_enter Tryz.func104, Tryz.ntmps104
      go_wp2
      go_ret
      exact ⟨ret_int H.out, rfl⟩

set_option maxHeartbeats 400000 in
theorem floor_any (n d : Int) (w : World) (h1 : -4611686018427387904 ≤ n) (h2 : n ≤ 4611686018427387904) (hd : 1 ≤ d) (hd2 : d ≤ 9223372036854775807) :
    Calls Tryz.prog 98 #[.int .i64 n, .int .i64 d] w fun e w' => e = .returned (.int .i64 (n / d)) ∧ w = w' := by
  have hz : (d == 0) = false := by simp; omega
  by_cases hn : 0 ≤ n
  · have hm := Int.emod_nonneg n (show d ≠ 0 by omega)
    go_enter Tryz.func98, Tryz.ntmps98
    go_wp2
    go_ret
    exact ⟨rfl, rfl⟩
  · have tb := tdiv_bd n d h1 (by omega)
    by_cases hr : n.tmod d < 0
    · have H := Lib.hid (show n.tdiv d - 1 = n / d by rw [fdiv_of n d hd, if_pos hr])
      go_enter Tryz.func98, Tryz.ntmps98
      go_wp2
      go_ret
      exact ⟨ret_int H.out, rfl⟩
    · have H := Lib.hid (show n.tdiv d = n / d by rw [fdiv_of n d hd, if_neg hr])
      go_enter Tryz.func98, Tryz.ntmps98
      go_wp2
      go_ret
      exact ⟨ret_int H.out, rfl⟩

def sgn (x y : Int) : Int := if x < y then -1 else if y < x then 1 else 0

set_option maxHeartbeats 400000 in
theorem compare_any (x y : Int) (w : World) (hx : I64 x) (hy : I64 y) :
    Calls Tryz.prog 103 #[.int .i64 x, .int .i64 y] w fun e w' => e = .returned (.int .i64 (sgn x y)) ∧ w = w' := by
  have a1 := hx.1
  have a2 := hx.2
  have b1 := hy.1
  have b2 := hy.2
  by_cases h1 : x < y
  · have H := Lib.hid (show sgn x y = -1 by unfold sgn; rw [if_pos h1])
    go_enter Tryz.func103, Tryz.ntmps103
    go_wp2
    go_ret
    exact ⟨ret_int H.out.symm, rfl⟩
  by_cases h2 : y < x
  · have H := Lib.hid (show sgn x y = 1 by unfold sgn; rw [if_neg h1, if_pos h2])
    go_enter Tryz.func103, Tryz.ntmps103
    go_wp2
    go_ret
    exact ⟨ret_int H.out.symm, rfl⟩
  have H := Lib.hid (show sgn x y = 0 by unfold sgn; rw [if_neg h1, if_neg h2])
  go_enter Tryz.func103, Tryz.ntmps103
  go_wp2
  go_ret
  exact ⟨ret_int H.out.symm, rfl⟩

set_option maxHeartbeats 400000 in
theorem cmp_any (n d m c : Int) (w : World) (hn : I64 n) (hd : I64 d) (hm : I64 m) (hc : I64 c) :
    Calls Tryz.prog 91 #[.agg #[.int .i64 n, .int .i64 d], .agg #[.int .i64 m, .int .i64 c]] w
      (Made (.tuple #[.int .i64 (if (vldB n d && vldB m c) then sgn (n * c) (m * d) else 0), .int .i64 (if (vldB n d && vldB m c) then 0 else 2)]) w) := by
  cases v1 : vldB n d
  · have V1 := Lib.hid v1
    clear v1
    go_enter Tryz.func91, Tryz.ntmps91
    go_wp2_with fail
    refine (valid_as _ hn hd V1.out).mono ?_
    rintro e w1 ⟨rfl, hb⟩
    obtain ⟨hx, hf⟩ := bcell hb
    go_wp2_with fail
    go_ret2
    exact ⟨rfl, past_two hb⟩
  · cases v2 : vldB m c
    · have V1 := Lib.hid v1
      have V2 := Lib.hid v2
      clear v1 v2
      go_enter Tryz.func91, Tryz.ntmps91
      go_wp2_with fail
      refine (valid_as _ hn hd V1.out).mono ?_
      rintro e w1 ⟨rfl, hb⟩
      obtain ⟨hx, hf⟩ := bcell hb
      go_wp2_with fail
      refine (valid_as _ hm hc V2.out).mono ?_
      rintro e w2 ⟨rfl, hb2⟩
      replace hb2 := below_on hb hb2
      clear hb hx hf
      obtain ⟨hx, hf⟩ := bcell hb2
      go_wp2_with fail
      go_ret2
      exact ⟨rfl, past_two hb2⟩
    · have V1 := Lib.hid v1
      have V2 := Lib.hid v2
      obtain ⟨x1, x2, x3, x4⟩ := vld_bd v1
      obtain ⟨y1, y2, y3, y4⟩ := vld_bd v2
      clear v1 v2
      obtain ⟨p1a, p1b⟩ := mul_bd x3 x4 (show -2147483647 ≤ c by omega) y2
      obtain ⟨p2a, p2b⟩ := mul_bd y3 y4 (show -2147483647 ≤ d by omega) x2
      go_enter Tryz.func91, Tryz.ntmps91
      go_wp2_with fail
      refine (valid_as _ hn hd V1.out).mono ?_
      rintro e w1 ⟨rfl, hb⟩
      obtain ⟨hx, hf⟩ := bcell hb
      go_wp2_with fail
      refine (valid_as _ hm hc V2.out).mono ?_
      rintro e w2 ⟨rfl, hb2⟩
      replace hb2 := below_on hb hb2
      clear hb hx hf
      obtain ⟨hx, hf⟩ := bcell hb2
      go_wp2_with fail
      refine (compare_any _ _ _ ⟨by omega, by omega⟩ ⟨by omega, by omega⟩).mono ?_
      rintro e w3 ⟨rfl, rfl⟩
      go_wp2_with fail
      go_ret2
      exact ⟨rfl, past_two hb2⟩

set_option maxHeartbeats 400000 in
theorem refCmp_any (n d m c : Int) (w : World) (hn : I64 n) (hd : I64 d) (hm : I64 m) (hc : I64 c) :
    Calls Tryz.prog 71 #[.agg #[.int .i64 n, .int .i64 d], .agg #[.int .i64 m, .int .i64 c]] w
      (Made (.tuple #[.int .i64 (if (vldB n d && vldB m c) then sgn (n * c) (m * d) else 0), .int .i64 (if (vldB n d && vldB m c) then 0 else 2)]) w) := by
  cases v1 : vldB n d
  · have V1 := Lib.hid v1
    clear v1
    go_enter Tryz.func71, Tryz.ntmps71
    go_wp2_with fail
    refine (refValid_as _ hn hd V1.out).mono ?_
    rintro e w1 ⟨rfl, hb⟩
    obtain ⟨hx, hf⟩ := bcell hb
    go_wp2_with fail
    go_ret2
    exact ⟨rfl, past_two hb⟩
  · cases v2 : vldB m c
    · have V1 := Lib.hid v1
      have V2 := Lib.hid v2
      clear v1 v2
      go_enter Tryz.func71, Tryz.ntmps71
      go_wp2_with fail
      refine (refValid_as _ hn hd V1.out).mono ?_
      rintro e w1 ⟨rfl, hb⟩
      obtain ⟨hx, hf⟩ := bcell hb
      go_wp2_with fail
      refine (refValid_as _ hm hc V2.out).mono ?_
      rintro e w2 ⟨rfl, hb2⟩
      replace hb2 := below_on hb hb2
      clear hb hx hf
      obtain ⟨hx, hf⟩ := bcell hb2
      go_wp2_with fail
      go_ret2
      exact ⟨rfl, past_two hb2⟩
    · have V1 := Lib.hid v1
      have V2 := Lib.hid v2
      obtain ⟨x1, x2, x3, x4⟩ := vld_bd v1
      obtain ⟨y1, y2, y3, y4⟩ := vld_bd v2
      clear v1 v2
      obtain ⟨p1a, p1b⟩ := mul_bd x3 x4 (show -2147483647 ≤ c by omega) y2
      obtain ⟨p2a, p2b⟩ := mul_bd y3 y4 (show -2147483647 ≤ d by omega) x2
      by_cases h1 : n * c < m * d
      · have H := Lib.hid (show sgn (n * c) (m * d) = -1 by unfold sgn; rw [if_pos h1])
        have e1 := wrap_in (n * c) (by omega) (by omega)
        have e2 := wrap_in (m * d) (by omega) (by omega)
        go_enter Tryz.func71, Tryz.ntmps71
        go_wp2_with fail
        refine (refValid_as _ hn hd V1.out).mono ?_
        rintro e w1 ⟨rfl, hb⟩
        obtain ⟨hx, hf⟩ := bcell hb
        go_wp2_with fail
        refine (refValid_as _ hm hc V2.out).mono ?_
        rintro e w2 ⟨rfl, hb2⟩
        replace hb2 := below_on hb hb2
        clear hb hx hf
        obtain ⟨hx, hf⟩ := bcell hb2
        go_wp2_with fail
        go_quiet (fail)
        go_wp2_with fail
        go_ret2
        exact ⟨ret_two H.out.symm rfl, below_drewN (past_two hb2) _⟩
      by_cases h2 : m * d < n * c
      · have H := Lib.hid (show sgn (n * c) (m * d) = 1 by unfold sgn; rw [if_neg h1, if_pos h2])
        have e1 := wrap_in (n * c) (by omega) (by omega)
        have e2 := wrap_in (m * d) (by omega) (by omega)
        go_enter Tryz.func71, Tryz.ntmps71
        go_wp2_with fail
        refine (refValid_as _ hn hd V1.out).mono ?_
        rintro e w1 ⟨rfl, hb⟩
        obtain ⟨hx, hf⟩ := bcell hb
        go_wp2_with fail
        refine (refValid_as _ hm hc V2.out).mono ?_
        rintro e w2 ⟨rfl, hb2⟩
        replace hb2 := below_on hb hb2
        clear hb hx hf
        obtain ⟨hx, hf⟩ := bcell hb2
        go_wp2_with fail
        go_quiet (fail)
        go_wp2_with fail
        go_ret2
        exact ⟨ret_two H.out.symm rfl, below_drewN (past_two hb2) _⟩
      have H := Lib.hid (show sgn (n * c) (m * d) = 0 by unfold sgn; rw [if_neg h1, if_neg h2])
      have e1 := wrap_in (n * c) (by omega) (by omega)
      have e2 := wrap_in (m * d) (by omega) (by omega)
      go_enter Tryz.func71, Tryz.ntmps71
      go_wp2_with fail
      refine (refValid_as _ hn hd V1.out).mono ?_
      rintro e w1 ⟨rfl, hb⟩
      obtain ⟨hx, hf⟩ := bcell hb
      go_wp2_with fail
      refine (refValid_as _ hm hc V2.out).mono ?_
      rintro e w2 ⟨rfl, hb2⟩
      replace hb2 := below_on hb hb2
      clear hb hx hf
      obtain ⟨hx, hf⟩ := bcell hb2
      go_wp2_with fail
      go_quiet (fail)
      go_wp2_with fail
      go_ret2
      exact ⟨ret_two H.out.symm rfl, below_drewN (past_two hb2) _⟩

theorem vld_neg (m c : Int) : vldB (-m) c = vldB m c := by
  unfold vldB; rw [Bool.eq_iff_iff]; simp; omega

set_option maxHeartbeats 400000 in
theorem refSub_any (n d m c : Int) (w : World) (hn : I64 n) (hd : I64 d) (hm : I64 m) (hc : I64 c) :
    Calls Tryz.prog 23 #[.agg #[.int .i64 n, .int .i64 d], .agg #[.int .i64 m, .int .i64 c]] w
      (Made (.tuple #[.agg #[.int .i64 (opNum (vldB n d && vldB m c) (n * c - m * d) (d * c)), .int .i64 (opDen (vldB n d && vldB m c) (n * c - m * d) (d * c))], .int .i64 (opErr (vldB n d && vldB m c) (n * c - m * d) (d * c))]) w) := by
  by_cases h0 : m = -9223372036854775808
  · have hv : vldB m c = false := vld_no (by omega)
    have HV := Lib.hid (show ∀ x y : Int, opNum (vldB n d && vldB m c) x y = 0 ∧ opDen (vldB n d && vldB m c) x y = 0 ∧ opErr (vldB n d && vldB m c) x y = 2 by simp [opNum, opDen, opErr, hv])
    clear hv
    subst h0
    go_enter Tryz.func23, Tryz.ntmps23
    go_wp2_with fail
    rw [w64min]
    refine (refAdd_any _ _ _ _ _ hn hd (by unfold I64; omega) hc).mono ?_
    rintro e w1 ⟨rfl, hb⟩
    obtain ⟨hx, hf⟩ := bcell hb
    rw [(HV.out _ _).1, (HV.out _ _).2.1, (HV.out _ _).2.2, (HV.out _ _).1, (HV.out _ _).2.1, (HV.out _ _).2.2]
    go_wp2_with fail
    refine bodyPost_ret (v := .tuple #[.agg #[.int .i64 0, .int .i64 0], .int .i64 2]) (by simp [results, Tryz.results23, go_sem, hx]) rfl ⟨by rw [(HV.out _ _).1, (HV.out _ _).2.1, (HV.out _ _).2.2], ?_⟩
    exact ((past_three hb).setCell (by simp; omega) _).setCell (by simp; omega) _
  · have he : n * c - m * d = n * c + (-m) * d := by rw [Int.neg_mul]; omega
    have b1 := hm.1
    have b2 := hm.2
    have b3 : -9223372036854775808 < m := by omega
    rw [he, ← vld_neg m c]
    clear he
    go_enter Tryz.func23, Tryz.ntmps23
    go_wp2_with fail
    refine (refAdd_any _ _ _ _ _ hn hd (by unfold I64; omega) hc).mono ?_
    rintro e w1 ⟨rfl, hb⟩
    obtain ⟨hx, hf⟩ := bcell hb
    go_wp2_with fail
    refine bodyPost_ret (v := .tuple #[.agg #[.int .i64 (opNum (vldB n d && vldB (-m) c) (n * c + (-m) * d) (d * c)), .int .i64 (opDen (vldB n d && vldB (-m) c) (n * c + (-m) * d) (d * c))], .int .i64 (opErr (vldB n d && vldB (-m) c) (n * c + (-m) * d) (d * c))]) (by simp [results, Tryz.results23, go_sem, hx]) rfl ⟨rfl, ?_⟩
    exact ((past_three hb).setCell (by simp; omega) _).setCell (by simp; omega) _
end Go.Proofs.YtbnebinpemejlaaGreat

namespace Go.Proofs.YtbnebinpemejlaaGreat

/-- A limit is 1099511627776 (none), or 2 c or 2 c + 1 for a constant c from -1073741824 to 1073741824. -/
def lvB (l : Int) : Bool := decide (l = 1099511627776 ∨ (-2147483648 ≤ l ∧ l ≤ 2147483649))

def noB (l : Int) : Bool := decide (l = 1099511627776)

def evB (l : Int) : Bool := decide (l % 2 = 0)

def jnL (c : Int) (s : Bool) : Int := if -1073741824 ≤ c ∧ c ≤ 1073741824 then (if s then 2 * c else 2 * c + 1) else 0

def jnE (c : Int) : Int := if -1073741824 ≤ c ∧ c ≤ 1073741824 then 0 else 7

def spC (l : Int) : Int := if lvB l && !noB l then l / 2 else 0

def spS (l : Int) : Bool := lvB l && !noB l && evB l

def spE (l : Int) : Int := if lvB l then (if noB l then 4 else 0) else 2

def adL (a b : Int) : Int := if lvB a && lvB b then (if noB a || noB b then 1099511627776 else jnL (a / 2 + b / 2) (evB a || evB b)) else 0

def adE (a b : Int) : Int := if lvB a && lvB b then (if noB a || noB b then 0 else jnE (a / 2 + b / 2)) else 2

def ntL (a : Int) : Int := if lvB a && !noB a then 1 - a else 0

theorem lvB_no {l : Int} (h : l ≠ 1099511627776) (g : l < -2147483648 ∨ 2147483649 < l) : lvB l = false := by unfold lvB; simp; omega

theorem lvB_yes {l : Int} (h : l = 1099511627776 ∨ (-2147483648 ≤ l ∧ l ≤ 2147483649)) : lvB l = true := by unfold lvB; simpa using h

theorem lvB_cases (l : Int) : (lvB l = false ∧ noB l = false ∧ l ≠ 1099511627776 ∧ (l < -2147483648 ∨ 2147483649 < l)) ∨ (l = 1099511627776 ∧ lvB l = true ∧ noB l = true) ∨ (lvB l = true ∧ noB l = false ∧ l ≠ 1099511627776 ∧ -2147483648 ≤ l ∧ l ≤ 2147483649) := by
  unfold lvB noB
  by_cases h : l = 1099511627776
  · simp [h]
  · simp [h]; omega

theorem ad_bad1 {a : Int} (b : Int) (h : lvB a = false) : adL a b = 0 ∧ adE a b = 2 := by simp [adL, adE, h]

theorem ad_bad2 (a : Int) {b : Int} (h : lvB b = false) : adL a b = 0 ∧ adE a b = 2 := by simp [adL, adE, h]

theorem ad_none {a b : Int} (h : lvB a = true) (g : lvB b = true) (k : (noB a || noB b) = true) : adL a b = 1099511627776 ∧ adE a b = 0 := by simp only [adL, adE, h, g, k]; simp

theorem ad_some {a b : Int} (h : lvB a = true) (g : lvB b = true) (k : noB a = false) (l : noB b = false) : adL a b = jnL (a / 2 + b / 2) (evB a || evB b) ∧ adE a b = jnE (a / 2 + b / 2) := by simp [adL, adE, h, g, k, l]

theorem nt_some {a : Int} (h : lvB a = true) (k : noB a = false) (a1 : -2147483648 ≤ a) (a2 : a ≤ 2147483649) : ntL a = jnL (-(a / 2)) (!evB a) ∧ spE a = jnE (-(a / 2)) := by
  rw [show ntL a = 1 - a by simp [ntL, h, k], show spE a = 0 by simp [spE, h, k]]
  unfold jnL jnE evB
  rw [if_pos (And.intro (by omega) (by omega)), if_pos (And.intro (by omega) (by omega))]
  by_cases e : a % 2 = 0
  · simp [e]; omega
  · simp [e]; omega
end Go.Proofs.YtbnebinpemejlaaGreat

namespace Go.Proofs.YtbnebinpemejlaaGreat
open Go.RowKit

/-- A call that returns v, and leaves the world as it was. -/
def Still (v : Value) (w : World) (e : Ending) (w' : World) : Prop := e = .returned v ∧ w' = w

theorem ret_li {a b c d : Int} (h : a = b) (g : c = d) : Ending.returned (.tuple #[.int .i64 a, .int .i64 c]) = .returned (.tuple #[.int .i64 b, .int .i64 d]) := by rw [h, g]

theorem ret_cs {a b : Int} {c d : Bool} (h : a = b) (g : c = d) : Ending.returned (.tuple #[.int .i64 a, .bool c]) = .returned (.tuple #[.int .i64 b, .bool d]) := by rw [h, g]

theorem ret_cse {a b x y : Int} {c d : Bool} (h : a = b) (g : c = d) (k : x = y) : Ending.returned (.tuple #[.int .i64 a, .bool c, .int .i64 x]) = .returned (.tuple #[.int .i64 b, .bool d, .int .i64 y]) := by rw [h, g, k]

set_option maxHeartbeats 400000 in
theorem limValid_any (l : Int) (w : World) (hl : I64 l) : Calls Tryz.prog 51 #[.int .i64 l] w (Still (.bool (lvB l)) w) := by
  by_cases h0 : l = 1099511627776
  · have H := Lib.hid (lvB_yes (Or.inl h0))
    subst h0
    go_enter Tryz.func51, Tryz.ntmps51
    go_wp2_with fail
    go_ret
    exact ⟨ret_bool (by rw [H.out]), rfl⟩
  have B0 : (l == 1099511627776) = false := by simpa using h0
  by_cases h1 : l < -2147483648
  · have H := Lib.hid (lvB_no h0 (Or.inl h1))
    have D : decide ((-2147483648 : Int) ≤ l) = false := by simp; omega
    go_enter Tryz.func51, Tryz.ntmps51
    go_wp2_with fail
    go_ret
    exact ⟨ret_bool (by rw [H.out]), rfl⟩
  by_cases h2 : 2147483649 < l
  · have H := Lib.hid (lvB_no h0 (Or.inr h2))
    have D : decide (l ≤ (2147483649 : Int)) = false := by simp; omega
    go_enter Tryz.func51, Tryz.ntmps51
    go_wp2_with fail
    go_ret
    exact ⟨ret_bool (by rw [H.out]), rfl⟩
  · have H := Lib.hid (lvB_yes (l := l) (Or.inr ⟨by omega, by omega⟩))
    go_enter Tryz.func51, Tryz.ntmps51
    go_wp2_with fail
    go_ret
    exact ⟨ret_bool (by rw [H.out]), rfl⟩

set_option maxHeartbeats 400000 in
theorem refLimValid_any (l : Int) (w : World) (hl : I64 l) : Calls Tryz.prog 64 #[.int .i64 l] w (Still (.bool (lvB l)) w) := by
  by_cases h0 : l = 1099511627776
  · have H := Lib.hid (lvB_yes (Or.inl h0))
    subst h0
    go_enter Tryz.func64, Tryz.ntmps64
    go_wp2_with fail
    go_ret
    exact ⟨ret_bool (by rw [H.out]), rfl⟩
  have B0 : (l == 1099511627776) = false := by simpa using h0
  by_cases h1 : l < -2147483648
  · have H := Lib.hid (lvB_no h0 (Or.inl h1))
    have D : decide ((-2147483648 : Int) ≤ l) = false := by simp; omega
    go_enter Tryz.func64, Tryz.ntmps64
    go_wp2_with fail
    go_ret
    exact ⟨ret_bool (by rw [H.out]), rfl⟩
  by_cases h2 : 2147483649 < l
  · have H := Lib.hid (lvB_no h0 (Or.inr h2))
    have D : decide (l ≤ (2147483649 : Int)) = false := by simp; omega
    go_enter Tryz.func64, Tryz.ntmps64
    go_wp2_with fail
    go_ret
    exact ⟨ret_bool (by rw [H.out]), rfl⟩
  · have H := Lib.hid (lvB_yes (l := l) (Or.inr ⟨by omega, by omega⟩))
    go_enter Tryz.func64, Tryz.ntmps64
    go_wp2_with fail
    go_ret
    exact ⟨ret_bool (by rw [H.out]), rfl⟩

set_option maxHeartbeats 400000 in
theorem limValid_free (l : Int) (w : World) : Calls Tryz.prog 51 #[.int .i64 l] w (Still (.bool (lvB l)) w) := by
  by_cases h0 : l = 1099511627776
  · have H := Lib.hid (lvB_yes (Or.inl h0))
    subst h0
    go_enter Tryz.func51, Tryz.ntmps51
    go_wp2_with fail
    go_ret
    exact ⟨ret_bool (by rw [H.out]), rfl⟩
  have B0 : (l == 1099511627776) = false := by simpa using h0
  by_cases h1 : l < -2147483648
  · have H := Lib.hid (lvB_no h0 (Or.inl h1))
    have D : decide ((-2147483648 : Int) ≤ l) = false := by simp; omega
    go_enter Tryz.func51, Tryz.ntmps51
    go_wp2_with fail
    go_ret
    exact ⟨ret_bool (by rw [H.out]), rfl⟩
  by_cases h2 : 2147483649 < l
  · have H := Lib.hid (lvB_no h0 (Or.inr h2))
    have D : decide (l ≤ (2147483649 : Int)) = false := by simp; omega
    go_enter Tryz.func51, Tryz.ntmps51
    go_wp2_with fail
    go_ret
    exact ⟨ret_bool (by rw [H.out]), rfl⟩
  · have H := Lib.hid (lvB_yes (l := l) (Or.inr ⟨by omega, by omega⟩))
    go_enter Tryz.func51, Tryz.ntmps51
    go_wp2_with fail
    go_ret
    exact ⟨ret_bool (by rw [H.out]), rfl⟩

set_option maxHeartbeats 400000 in
theorem refLimValid_free (l : Int) (w : World) : Calls Tryz.prog 64 #[.int .i64 l] w (Still (.bool (lvB l)) w) := by
  by_cases h0 : l = 1099511627776
  · have H := Lib.hid (lvB_yes (Or.inl h0))
    subst h0
    go_enter Tryz.func64, Tryz.ntmps64
    go_wp2_with fail
    go_ret
    exact ⟨ret_bool (by rw [H.out]), rfl⟩
  have B0 : (l == 1099511627776) = false := by simpa using h0
  by_cases h1 : l < -2147483648
  · have H := Lib.hid (lvB_no h0 (Or.inl h1))
    have D : decide ((-2147483648 : Int) ≤ l) = false := by simp; omega
    go_enter Tryz.func64, Tryz.ntmps64
    go_wp2_with fail
    go_ret
    exact ⟨ret_bool (by rw [H.out]), rfl⟩
  by_cases h2 : 2147483649 < l
  · have H := Lib.hid (lvB_no h0 (Or.inr h2))
    have D : decide (l ≤ (2147483649 : Int)) = false := by simp; omega
    go_enter Tryz.func64, Tryz.ntmps64
    go_wp2_with fail
    go_ret
    exact ⟨ret_bool (by rw [H.out]), rfl⟩
  · have H := Lib.hid (lvB_yes (l := l) (Or.inr ⟨by omega, by omega⟩))
    go_enter Tryz.func64, Tryz.ntmps64
    go_wp2_with fail
    go_ret
    exact ⟨ret_bool (by rw [H.out]), rfl⟩

theorem limValid_as {l : Int} {b : Bool} (w : World) (hl : I64 l) (h : lvB l = b) : Calls Tryz.prog 51 #[.int .i64 l] w (Still (.bool b) w) := by
  rw [← h]; exact limValid_any l w hl

theorem refLimValid_as {l : Int} {b : Bool} (w : World) (hl : I64 l) (h : lvB l = b) : Calls Tryz.prog 64 #[.int .i64 l] w (Still (.bool b) w) := by
  rw [← h]; exact refLimValid_any l w hl

set_option maxHeartbeats 400000 in
theorem join_any (c : Int) (s : Bool) (w : World) : Calls Tryz.prog 101 #[.int .i64 c, .bool s] w (Still (.tuple #[.int .i64 (jnL c s), .int .i64 (jnE c)]) w) := by
  by_cases h1 : c < -1073741824
  · have H := Lib.hid (show jnL c s = 0 ∧ jnE c = 7 by unfold jnL jnE; rw [if_neg (by omega), if_neg (by omega)]; simp)
    go_enter Tryz.func101, Tryz.ntmps101
    go_wp2_with fail
    go_ret2
    exact ⟨ret_li H.out.1.symm H.out.2.symm, rfl⟩
  by_cases h2 : 1073741824 < c
  · have H := Lib.hid (show jnL c s = 0 ∧ jnE c = 7 by unfold jnL jnE; rw [if_neg (by omega), if_neg (by omega)]; simp)
    go_enter Tryz.func101, Tryz.ntmps101
    go_wp2_with fail
    go_ret2
    exact ⟨ret_li H.out.1.symm H.out.2.symm, rfl⟩
  cases s
  · have H := Lib.hid (show jnL c false = 2 * c + 1 ∧ jnE c = 0 by unfold jnL jnE; rw [if_pos (And.intro (by omega) (by omega)), if_pos (And.intro (by omega) (by omega))]; simp)
    go_enter Tryz.func101, Tryz.ntmps101
    go_wp2_with fail
    go_ret2
    exact ⟨ret_li H.out.1.symm H.out.2.symm, rfl⟩
  · have H := Lib.hid (show jnL c true = 2 * c ∧ jnE c = 0 by unfold jnL jnE; rw [if_pos (And.intro (by omega) (by omega)), if_pos (And.intro (by omega) (by omega))]; simp)
    go_enter Tryz.func101, Tryz.ntmps101
    go_wp2_with fail
    go_ret2
    exact ⟨ret_li H.out.1.symm H.out.2.symm, rfl⟩

set_option maxHeartbeats 400000 in
theorem weak_any (c : Int) (w : World) : Calls Tryz.prog 85 #[.int .i64 c] w (Still (.tuple #[.int .i64 (jnL c false), .int .i64 (jnE c)]) w) := by
  go_enter Tryz.func85, Tryz.ntmps85
  go_wp2_with fail
  refine (join_any _ _ _).mono ?_
  rintro e w' ⟨rfl, rfl⟩
  go_wp2_with fail
  go_ret2
  exact ⟨rfl, rfl⟩

/-- 'b & 1' of an int64 is its rest modulo 2. -/
theorem and1_i64 (l : Int) : bits .and .i64 l 1 = l % 2 := by
  show IntKind.i64.wrap (((BitVec.ofInt 64 l &&& BitVec.ofInt 64 1).toNat : Nat) : Int) = _
  have h1 : (BitVec.ofInt 64 1).toNat = 1 := by decide
  rw [BitVec.toNat_and, h1, Nat.and_one_is_mod, BitVec.toNat_ofInt]
  have h2 : 0 ≤ l % 2 ∧ l % 2 < 2 := by omega
  have h3 : (((l % ((2 ^ 64 : Nat) : Int)).toNat % 2 : Nat) : Int) = l % 2 := by
    have : ((2 ^ 64 : Nat) : Int) = 18446744073709551616 := by decide
    rw [this]; omega
  rw [h3]
  simp [IntKind.wrap, IntKind.bits, IntKind.signed]
  omega

theorem and1_ev (l : Int) : (bits .and .i64 l 1 == 0) = evB l := by rw [and1_i64]; unfold evB; rw [Bool.eq_iff_iff]; simp

set_option maxHeartbeats 400000 in
theorem split_any (l : Int) (w : World) : Calls Tryz.prog 94 #[.int .i64 l] w (Still (.tuple #[.int .i64 (l / 2), .bool (evB l)]) w) := by
  go_enter Tryz.func94, Tryz.ntmps94
  go_wp2_with fail
  go_ret2
  exact ⟨ret_cs rfl (and1_ev l), rfl⟩

set_option maxHeartbeats 400000 in
theorem limSplit_any (l : Int) (w : World) (hl : I64 l) : Calls Tryz.prog 66 #[.int .i64 l] w (Still (.tuple #[.int .i64 (spC l), .bool (spS l), .int .i64 (spE l)]) w) := by
  rcases lvB_cases l with ⟨hv, hn, h0, hr⟩ | ⟨rfl, hv, hn⟩ | ⟨hv, hn, h0, h1, h2⟩
  · have H := Lib.hid (show spC l = 0 ∧ spS l = false ∧ spE l = 2 by simp [spC, spS, spE, hv])
    have V := Lib.hid hv
    clear hv hn
    go_enter Tryz.func66, Tryz.ntmps66
    go_wp2_with fail
    refine (limValid_as _ hl V.out).mono ?_
    rintro e w' ⟨rfl, rfl⟩
    go_wp2_with fail
    go_ret3
    exact ⟨ret_cse H.out.1.symm H.out.2.1.symm H.out.2.2.symm, rfl⟩
  · have H := Lib.hid (show spC 1099511627776 = 0 ∧ spS 1099511627776 = false ∧ spE 1099511627776 = 4 by decide)
    have V := Lib.hid hv
    clear hv hn
    go_enter Tryz.func66, Tryz.ntmps66
    go_wp2_with fail
    refine (limValid_as _ hl V.out).mono ?_
    rintro e w' ⟨rfl, rfl⟩
    go_wp2_with fail
    go_ret3
    exact ⟨ret_cse H.out.1.symm H.out.2.1.symm H.out.2.2.symm, rfl⟩
  · have H := Lib.hid (show spC l = l / 2 ∧ spS l = evB l ∧ spE l = 0 by simp [spC, spS, spE, hv, hn])
    have V := Lib.hid hv
    clear hv hn
    have B0 : (l == 1099511627776) = false := by simpa using h0
    go_enter Tryz.func66, Tryz.ntmps66
    go_wp2_with fail
    refine (limValid_as _ hl V.out).mono ?_
    rintro e w' ⟨rfl, rfl⟩
    go_wp2_with fail
    refine (split_any l _).mono ?_
    rintro e w' ⟨rfl, rfl⟩
    go_wp2_with fail
    go_ret3
    exact ⟨ret_cse H.out.1.symm H.out.2.1.symm H.out.2.2.symm, rfl⟩

theorem quo_ev (l : Int) (h : l % 2 = 0) : l.tdiv 2 = l / 2 ∧ l.tmod 2 = 0 := by
  obtain ⟨k, rfl⟩ : ∃ k, l = 2 * k := ⟨l / 2, by omega⟩
  rw [Int.mul_tdiv_cancel_left _ (by omega), Int.mul_tmod_right]; omega

theorem quo_odd (l : Int) (h : ¬ l % 2 = 0) : (l - 1).tdiv 2 = l / 2 ∧ l.tmod 2 ≠ 0 := by
  obtain ⟨k, rfl⟩ : ∃ k, l = 2 * k + 1 := ⟨l / 2, by omega⟩
  have e : 2 * k + 1 - 1 = 2 * k := by omega
  have d := Int.mul_tdiv_add_tmod (2 * k + 1) 2
  rw [e, Int.mul_tdiv_cancel_left _ (by omega)]
  omega

set_option maxHeartbeats 400000 in
theorem refLimSplit_any (l : Int) (w : World) (hl : I64 l) : Calls Tryz.prog 65 #[.int .i64 l] w (Still (.tuple #[.int .i64 (spC l), .bool (spS l), .int .i64 (spE l)]) w) := by
  rcases lvB_cases l with ⟨hv, hn, h0, hr⟩ | ⟨rfl, hv, hn⟩ | ⟨hv, hn, h0, h1, h2⟩
  · have H := Lib.hid (show spC l = 0 ∧ spS l = false ∧ spE l = 2 by simp [spC, spS, spE, hv])
    have V := Lib.hid hv
    clear hv hn
    go_enter Tryz.func65, Tryz.ntmps65
    go_wp2_with fail
    refine (refLimValid_as _ hl V.out).mono ?_
    rintro e w' ⟨rfl, rfl⟩
    go_wp2_with fail
    go_ret3
    exact ⟨ret_cse H.out.1.symm H.out.2.1.symm H.out.2.2.symm, rfl⟩
  · have H := Lib.hid (show spC 1099511627776 = 0 ∧ spS 1099511627776 = false ∧ spE 1099511627776 = 4 by decide)
    have V := Lib.hid hv
    clear hv hn
    go_enter Tryz.func65, Tryz.ntmps65
    go_wp2_with fail
    refine (refLimValid_as _ hl V.out).mono ?_
    rintro e w' ⟨rfl, rfl⟩
    go_wp2_with fail
    go_ret3
    exact ⟨ret_cse H.out.1.symm H.out.2.1.symm H.out.2.2.symm, rfl⟩
  · have B0 : (l == 1099511627776) = false := by simpa using h0
    by_cases he : l % 2 = 0
    · have H := Lib.hid (show spC l = l.tdiv 2 ∧ spS l = true ∧ spE l = 0 by simp [spC, spS, spE, evB, hv, hn, he, (quo_ev l he).1])
      have V := Lib.hid hv
      have M : (l.tmod 2 == 0) = true := by simpa using (quo_ev l he).2
      clear hv hn
      go_enter Tryz.func65, Tryz.ntmps65
      go_wp2_with fail
      refine (refLimValid_as _ hl V.out).mono ?_
      rintro e w' ⟨rfl, rfl⟩
      go_wp2_with fail
      go_ret3
      exact ⟨ret_cse H.out.1.symm H.out.2.1.symm H.out.2.2.symm, rfl⟩
    · have H := Lib.hid (show spC l = (l - 1).tdiv 2 ∧ spS l = false ∧ spE l = 0 by simp [spC, spS, spE, evB, hv, hn, he, (quo_odd l he).1])
      have V := Lib.hid hv
      have M : (l.tmod 2 == 0) = false := by simpa using (quo_odd l he).2
      clear hv hn
      go_enter Tryz.func65, Tryz.ntmps65
      go_wp2_with fail
      refine (refLimValid_as _ hl V.out).mono ?_
      rintro e w' ⟨rfl, rfl⟩
      go_wp2_with fail
      go_ret3
      exact ⟨ret_cse H.out.1.symm H.out.2.1.symm H.out.2.2.symm, rfl⟩

theorem refSplit_none {l : Int} (w : World) (hl : I64 l) (hv : lvB l = true) (hn : noB l = true) : Calls Tryz.prog 65 #[.int .i64 l] w (Still (.tuple #[.int .i64 0, .bool false, .int .i64 4]) w) := by
  have h := refLimSplit_any l w hl
  rwa [show spC l = 0 by simp [spC, hv, hn], show spS l = false by simp [spS, hv, hn], show spE l = 4 by simp [spE, hv, hn]] at h

theorem refSplit_some {l : Int} (w : World) (hl : I64 l) (hv : lvB l = true) (hn : noB l = false) : Calls Tryz.prog 65 #[.int .i64 l] w (Still (.tuple #[.int .i64 (l / 2), .bool (evB l), .int .i64 0]) w) := by
  have h := refLimSplit_any l w hl
  rwa [show spC l = l / 2 by simp [spC, hv, hn], show spS l = evB l by simp [spS, hv, hn], show spE l = 0 by simp [spE, hv, hn]] at h

theorem refSplit_bad {l : Int} (w : World) (hl : I64 l) (hv : lvB l = false) : Calls Tryz.prog 65 #[.int .i64 l] w (Still (.tuple #[.int .i64 0, .bool false, .int .i64 2]) w) := by
  have h := refLimSplit_any l w hl
  rwa [show spC l = 0 by simp [spC, hv], show spS l = false by simp [spS, hv], show spE l = 2 by simp [spE, hv]] at h

theorem limSplit_some {l : Int} (w : World) (hl : I64 l) (hv : lvB l = true) (hn : noB l = false) : Calls Tryz.prog 66 #[.int .i64 l] w (Still (.tuple #[.int .i64 (l / 2), .bool (evB l), .int .i64 0]) w) := by
  have h := limSplit_any l w hl
  rwa [show spC l = l / 2 by simp [spC, hv, hn], show spS l = evB l by simp [spS, hv, hn], show spE l = 0 by simp [spE, hv, hn]] at h

theorem limSplit_bad {l : Int} (w : World) (hl : I64 l) (hv : lvB l = false) : Calls Tryz.prog 66 #[.int .i64 l] w (Still (.tuple #[.int .i64 0, .bool false, .int .i64 2]) w) := by
  have h := limSplit_any l w hl
  rwa [show spC l = 0 by simp [spC, hv], show spS l = false by simp [spS, hv], show spE l = 2 by simp [spE, hv]] at h
end Go.Proofs.YtbnebinpemejlaaGreat

namespace Go.Proofs.YtbnebinpemejlaaGreat
open Go.RowKit

set_option maxHeartbeats 400000 in
theorem qzero_any (w : World) : Calls Tryz.prog 38 #[] w (Made (.agg #[.int .i64 0, .int .i64 1]) w) := by
  go_enter Tryz.func38, Tryz.ntmps38
  go_wp2_with fail
  refine bodyPost_ret (v := .agg #[.int .i64 0, .int .i64 1]) (by simp [results, Tryz.results38, go_sem]) rfl ⟨rfl, ?_⟩
  exact one_more _

/-- A ratio and a constant. -/
def shN (n d c : Int) : Int := opNum (vldB n d) (n * 1 + c * d) (d * 1)

def shD (n d c : Int) : Int := opDen (vldB n d) (n * 1 + c * d) (d * 1)

def shE (n d c : Int) : Int := opErr (vldB n d) (n * 1 + c * d) (d * 1)

theorem mk_one {c : Int} (h1 : -2147483647 ≤ c) (h2 : c ≤ 2147483647) : mkNum c 1 = c ∧ mkDen c 1 = 1 ∧ vldB c 1 = true := by
  have g : Nat.gcd c.natAbs 1 = 1 := Nat.gcd_one_right _
  have t : top c 1 = c.natAbs := by unfold top; simp
  have b : bot c 1 = 1 := by unfold bot; simp
  have f : fits c 1 = true := by unfold fits; rw [t, b]; simp; omega
  refine ⟨?_, ?_, ?_⟩
  · unfold mkNum; rw [if_neg (by omega), f, t]
    simp
    split <;> omega
  · unfold mkDen; rw [if_neg (by omega), f, b]; rfl
  · unfold vldB; simp [g]; omega

set_option maxHeartbeats 1600000 in
theorem shift_any (n d c : Int) (w : World) (hn : I64 n) (hd : I64 d) (h1 : -2147483647 ≤ c) (h2 : c ≤ 2147483647) :
    Calls Tryz.prog 67 #[.agg #[.int .i64 n, .int .i64 d], .int .i64 c] w (Made (.tuple #[.agg #[.int .i64 (shN n d c), .int .i64 (shD n d c)], .int .i64 (shE n d c)]) w) := by
  obtain ⟨m1, m2, m3⟩ := mk_one h1 h2
  have hc : I64 c := by unfold I64; omega
  have OF := Lib.hid (fun W => by have := of_any c W hc; rw [m1, m2] at this; exact this)
  have AD := Lib.hid (show ∀ W, Calls Tryz.prog 95 #[.agg #[.int .i64 n, .int .i64 d], .agg #[.int .i64 c, .int .i64 1]] W (Made (.tuple #[.agg #[.int .i64 (shN n d c), .int .i64 (shD n d c)], .int .i64 (shE n d c)]) W) from fun W => by
    have := add_any n d c 1 W hn hd hc (by unfold I64; omega)
    rw [m3, Bool.and_true] at this
    exact this)
  generalize shN n d c = sn at *
  generalize shD n d c = sd at *
  generalize shE n d c = se at *
  generalize mkErr c 1 = ce at *
  obtain ⟨w0, hw0⟩ : ∃ w0, w0 = (w.alloc (.cells #[.int .i64 n, .int .i64 d] 32)).alloc (.cells #[.int .i64 0, .int .i64 0] 32) := ⟨_, rfl⟩
  have pa : Pair w0 w.heap.size n d := by rw [hw0]; exact (Pair.made _ _ _ _).alloc _
  have pr : Pair w0 (w.heap.size + 1) 0 0 := by
    rw [hw0]
    have := Pair.made (w.alloc (.cells #[.int .i64 n, .int .i64 d] 32)) 0 0 32
    simpa using this
  have E0 := Lib.hid (show Below w.heap.size w w0 by rw [hw0]; exact past_two (Below.refl _ _))
  have z0 : w0.heap.size = w.heap.size + 2 := by rw [hw0]; simp
  have PA := Lib.hid pa
  have PR := Lib.hid pr
  have HW0 := Lib.hid hw0
  clear pa pr hw0 hn hd hc h1 h2 m1 m2 m3
  go_enter Tryz.func67, Tryz.ntmps67
  go_wp2_with fail
  rw [← HW0.out]
  refine (OF.out _).mono ?_
  rintro e w1 ⟨rfl, hb1⟩
  obtain ⟨w2, hw2⟩ : ∃ w2, w2 = w1.alloc (.cells #[.int .i64 c, .int .i64 1] 32) := ⟨_, rfl⟩
  have B2 := Lib.hid (show Below w0.heap.size w0 w2 by rw [hw2]; exact hb1.alloc hb1.size _)
  have PC := Lib.hid (show Pair w2 w1.heap.size c 1 by rw [hw2]; exact Pair.made _ _ _ _)
  obtain ⟨a0, a1, a2, a3⟩ := (PA.out.kept B2.out).facts
  obtain ⟨c0, c1, c2, c3⟩ := PC.out.facts
  have HW2 := Lib.hid hw2
  clear hb1 hw2
  go_upto_region 2 with (fail)
  rw [← HW2.out]
  go_wp2_with fail
  refine (AD.out _).mono ?_
  rintro e w3 ⟨rfl, hb3⟩
  have B3 := Lib.hid (below_on B2.out hb3)
  obtain ⟨r0, r1, r2, r3⟩ := (PR.out.kept B3.out).facts
  clear hb3 a0 a1 a2 a3 c0 c1 c2 c3
  go_wp2_with fail
  refine bodyPost_ret (v := .tuple #[.agg #[.int .i64 sn, .int .i64 sd], .int .i64 se]) (by simp [results, Tryz.results67, go_sem, r0, r1]) rfl ⟨rfl, ?_⟩
  exact (((below_on E0.out B3.out).setCell (by show w.heap.size ≤ w.heap.size + 1; omega) _).setCell (by show w.heap.size ≤ w.heap.size + 1; omega) _)

/-- Is a ratio below another one, or, if that is enough, equal to it? -/
def lsB (n d m c : Int) (e : Bool) : Bool := if vldB n d && vldB m c then decide (n * c < m * d) || (decide (n * c = m * d) && e) else e

set_option maxHeartbeats 1600000 in
theorem isbelow_any (n d m c : Int) (q : Bool) (w : World) (hn : I64 n) (hd : I64 d) (hm : I64 m) (hc : I64 c) :
    Calls Tryz.prog 68 #[.agg #[.int .i64 n, .int .i64 d], .agg #[.int .i64 m, .int .i64 c], .bool q] w (Made (.bool (lsB n d m c q)) w) := by
  have CM := Lib.hid (fun W => cmp_any n d m c W hn hd hm hc)
  obtain ⟨k, hk⟩ : ∃ k : Int, k = if (vldB n d && vldB m c) then sgn (n * c) (m * d) else 0 := ⟨_, rfl⟩
  have HL := Lib.hid (show lsB n d m c q = (decide (k < 0) || (decide (k = 0) && q)) by
    rw [hk]; unfold lsB
    cases vldB n d && vldB m c
    · simp
    · simp only [if_true]
      unfold sgn
      by_cases h1 : n * c < m * d
      · simp [h1]
      · by_cases h2 : m * d < n * c
        · rw [if_neg h1, if_pos h2]
          have : ¬ n * c = m * d := by omega
          simp [h1, this]
        · rw [if_neg h1, if_neg h2]
          have : n * c = m * d := by omega
          simp [this])
  rw [← hk] at CM
  generalize (if (vldB n d && vldB m c) = true then (0 : Int) else 2) = ce at *
  have HK := Lib.hid hk
  generalize lsB n d m c q = r at *
  obtain ⟨w0, hw0⟩ : ∃ w0, w0 = (w.alloc (.cells #[.int .i64 n, .int .i64 d] 32)).alloc (.cells #[.int .i64 m, .int .i64 c] 32) := ⟨_, rfl⟩
  have E0 := Lib.hid (show Below w.heap.size w w0 by rw [hw0]; exact past_two (Below.refl _ _))
  have HW0 := Lib.hid hw0
  clear hk hn hd hm hc hw0
  by_cases k1 : k < 0
  · have HF := Lib.hid (show r = true by rw [HL.out]; simp [k1])
    go_enter Tryz.func68, Tryz.ntmps68
    go_wp2_with fail
    rw [← HW0.out]
    refine (CM.out _).mono ?_
    rintro e w1 ⟨rfl, hb1⟩
    have B1 := Lib.hid (below_on E0.out hb1)
    clear hb1
    go_wp2_with fail
    go_ret
    exact ⟨ret_bool HF.out.symm, B1.out⟩
  · by_cases k2 : k = 0
    · have HF := Lib.hid (show r = q by rw [HL.out]; simp [k2])
      subst k2
      go_enter Tryz.func68, Tryz.ntmps68
      go_wp2_with fail
      rw [← HW0.out]
      refine (CM.out _).mono ?_
      rintro e w1 ⟨rfl, hb1⟩
      have B1 := Lib.hid (below_on E0.out hb1)
      clear hb1
      go_wp2_with fail
      go_ret
      exact ⟨ret_bool HF.out.symm, B1.out⟩
    · have HF := Lib.hid (show r = false by rw [HL.out]; simp [k1, k2])
      have D : (k == 0) = false := by simpa using k2
      have D1 : decide (k < 0) = false := by simpa using k1
      clear k2
      go_enter Tryz.func68, Tryz.ntmps68
      go_wp2_with fail
      rw [← HW0.out]
      refine (CM.out _).mono ?_
      rintro e w1 ⟨rfl, hb1⟩
      have B1 := Lib.hid (below_on E0.out hb1)
      clear hb1
      go_wp2_with fail
      go_ret
      exact ⟨ret_bool HF.out.symm, B1.out⟩
end Go.Proofs.YtbnebinpemejlaaGreat

namespace Go.Proofs.YtbnebinpemejlaaGreat.Zo

/-- A limit as a number: 2 c + 1 is weak, 2 c strict; none is no limit. -/
abbrev Lm := Option Int

def le : Lm → Lm → Prop
  | _, none => True
  | none, some _ => False
  | some a, some b => a ≤ b

/-- The sum of two limits. -/
def ps (a b : Int) : Int := if a % 2 = 0 ∧ b % 2 = 0 then a + b else a + b - 1

def add : Lm → Lm → Lm
  | some a, some b => some (ps a b)
  | _, _ => none

def mn : Lm → Lm → Lm
  | some a, some b => some (min a b)
  | some a, none => some a
  | none, b => b

theorem ps_comm (a b : Int) : ps a b = ps b a := by unfold ps; split <;> split <;> omega

theorem ps_assoc (a b c : Int) : ps (ps a b) c = ps a (ps b c) := by
  unfold ps
  by_cases ha : a % 2 = 0 <;> by_cases hb : b % 2 = 0 <;> by_cases hc : c % 2 = 0
  all_goals (repeat' split) <;> omega

theorem ps_mono {a a' b b' : Int} (h : a ≤ a') (k : b ≤ b') : ps a b ≤ ps a' b' := by
  unfold ps; split <;> split <;> omega

theorem ps_one (a : Int) : ps a 1 = a := by unfold ps; split <;> omega

theorem one_ps (a : Int) : ps 1 a = a := by rw [ps_comm]; exact ps_one a

theorem le_refl (a : Lm) : le a a := by cases a <;> simp [le]

theorem le_trans {a b c : Lm} (h : le a b) (k : le b c) : le a c := by
  cases a <;> cases b <;> cases c <;> simp_all [le]; omega

theorem le_antisymm {a b : Lm} (h : le a b) (k : le b a) : a = b := by
  cases a <;> cases b <;> simp_all [le]; omega

theorem le_none (a : Lm) : le a none := by cases a <;> simp [le]

theorem mn_left (a b : Lm) : le (mn a b) a := by cases a <;> cases b <;> simp [le, mn]; omega

theorem mn_right (a b : Lm) : le (mn a b) b := by cases a <;> cases b <;> simp [le, mn]; omega

theorem le_mn {a b c : Lm} (h : le a b) (k : le a c) : le a (mn b c) := by
  cases a <;> cases b <;> cases c <;> simp_all [le, mn]; omega

theorem mn_cases (a b : Lm) : mn a b = a ∨ mn a b = b := by
  cases a <;> cases b <;> simp [mn]; omega

theorem mn_eq_left {a b : Lm} (h : le a b) : mn a b = a := le_antisymm (mn_left a b) (le_mn (le_refl a) h)

theorem add_comm (a b : Lm) : add a b = add b a := by cases a <;> cases b <;> simp [add, ps_comm]

theorem add_assoc (a b c : Lm) : add (add a b) c = add a (add b c) := by cases a <;> cases b <;> cases c <;> simp [add, ps_assoc]

theorem add_mono {a a' b b' : Lm} (h : le a a') (k : le b b') : le (add a b) (add a' b') := by
  cases a <;> cases a' <;> cases b <;> cases b' <;> simp_all [le, add]
  exact ps_mono h k

theorem add_one (a : Lm) : add a (some 1) = a := by cases a <;> simp [add, ps_one]

theorem one_add (a : Lm) : add (some 1) a = a := by rw [add_comm]; exact add_one a

/-- One round of the rule: paths through k. -/
def stp (k : Nat) (d : Nat → Nat → Lm) : Nat → Nat → Lm := fun i j => mn (d i j) (add (d i k) (d k j))

def fw (m : Nat → Nat → Lm) : Nat → Nat → Nat → Lm
  | 0 => m
  | k + 1 => stp k (fw m k)

theorem fw_le (m : Nat → Nat → Lm) (k i j : Nat) : le (fw m (k + 1) i j) (fw m k i j) := mn_left _ _

theorem fw_le_m (m : Nat → Nat → Lm) (k i j : Nat) : le (fw m k i j) (m i j) := by
  induction k with
  | zero => exact le_refl _
  | succ k ih => exact le_trans (fw_le m k i j) ih

/-- Where the diagonal stays at 'at most 0', the row and the column of k don't turn in its round. -/
theorem stp_row {k : Nat} {d : Nat → Nat → Lm} (h : d k k = some 1) (j : Nat) : stp k d k j = d k j := by
  unfold stp; rw [h, one_add]; exact mn_eq_left (le_refl _)

theorem stp_col {k : Nat} {d : Nat → Nat → Lm} (h : d k k = some 1) (i : Nat) : stp k d i k = d i k := by
  unfold stp; rw [h, add_one]; exact mn_eq_left (le_refl _)

/-- The inequality of triangles, through the first k. -/
def Tri (k : Nat) (d : Nat → Nat → Lm) : Prop := ∀ v, v < k → ∀ i j, le (d i j) (add (d i v) (d v j))

theorem tri_step {k : Nat} {d : Nat → Nat → Lm} (h : Tri k d) (hk : d k k = some 1) : Tri (k + 1) (stp k d) := by
  intro v hv i j
  by_cases e : v = k
  · subst e
    rw [stp_col hk i, stp_row hk j]
    exact mn_right _ _
  · have hv' : v < k := by omega
    have one : le (stp k d i j) (add (d i k) (d k j)) := mn_right _ _
    have old : le (stp k d i j) (d i j) := mn_left _ _
    rcases mn_cases (d i v) (add (d i k) (d k v)) with e1 | e1 <;> rcases mn_cases (d v j) (add (d v k) (d k j)) with e2 | e2
    · show le _ (add (mn _ _) (mn _ _)); rw [e1, e2]; exact le_trans old (h v hv' i j)
    · show le _ (add (mn _ _) (mn _ _)); rw [e1, e2, ← add_assoc]
      exact le_trans one (add_mono (h v hv' i k) (le_refl _))
    · show le _ (add (mn _ _) (mn _ _)); rw [e1, e2, add_assoc]
      exact le_trans one (add_mono (le_refl _) (h v hv' k j))
    · show le _ (add (mn _ _) (mn _ _)); rw [e1, e2, add_assoc, ← add_assoc (d k v)]
      refine le_trans one (add_mono (le_refl _) ?_)
      have t := h v hv' k k
      rw [hk] at t
      have := add_mono t (le_refl (d k j))
      rwa [one_add] at this

theorem tri_fw {m : Nat → Nat → Lm} (K : Nat) (hd : ∀ k, k < K → fw m k k k = some 1) : Tri K (fw m K) := by
  induction K with
  | zero => intro v hv; omega
  | succ k ih => exact tri_step (ih fun j hj => hd j (by omega)) (hd k (by omega))

/-- What is below the matrix and keeps to the inequality is below each round. -/
theorem below_fw {m c : Nat → Nat → Lm} {K : Nat} (hc : Tri K c) (hm : ∀ i j, le (c i j) (m i j)) : ∀ k, k ≤ K → ∀ i j, le (c i j) (fw m k i j) := by
  intro k
  induction k with
  | zero => intro _ i j; exact hm i j
  | succ k ih =>
    intro hk i j
    exact le_mn (ih (by omega) i j) (le_trans (hc k (by omega) i j) (add_mono (ih (by omega) i k) (ih (by omega) k j)))

/-- A matrix that keeps to the inequality stays. -/
theorem fw_fix {m : Nat → Nat → Lm} {K : Nat} (h : Tri K m) : ∀ k, k ≤ K → fw m k = m := by
  intro k
  induction k with
  | zero => intro _; rfl
  | succ k ih =>
    intro hk
    show stp k (fw m k) = m
    rw [ih (by omega)]
    funext i j
    exact mn_eq_left (h k (by omega) i j)

/-- How many of the first k are in S. -/
def cnt (S : Nat → Bool) : Nat → Nat
  | 0 => 0
  | k + 1 => cnt S k + if S k then 1 else 0

theorem cnt_succ (S : Nat → Bool) (k : Nat) : cnt S (k + 1) = cnt S k + if S k then 1 else 0 := rfl

theorem cnt_le (S : Nat → Bool) (k : Nat) : cnt S k ≤ k := by
  induction k with
  | zero => simp [cnt]
  | succ k ih => unfold cnt; split <;> omega

theorem cnt_or {S T : Nat → Bool} (k : Nat) (h : ∀ v, v < k → ¬ (S v = true ∧ T v = true)) : cnt (fun v => S v || T v) k = cnt S k + cnt T k := by
  induction k with
  | zero => simp [cnt]
  | succ k ih =>
    unfold cnt
    rw [ih fun v hv => h v (by omega)]
    have := h k (by omega)
    cases hs : S k <;> cases ht : T k <;> simp_all <;> omega

theorem cnt_congr {S T : Nat → Bool} (k : Nat) (h : ∀ v, v < k → S v = T v) : cnt S k = cnt T k := by
  induction k with
  | zero => rfl
  | succ k ih => unfold cnt; rw [ih fun v hv => h v (by omega), h k (by omega)]

def fin (a : Lm) : Prop := ∃ x, a = some x

theorem fin_step {k : Nat} {d : Nat → Nat → Lm} {i j : Nat} (h : fin (d i j)) : fin (stp k d i j) := by
  obtain ⟨x, hx⟩ := h
  unfold stp; rw [hx]
  cases add (d i k) (d k j) <;> simp [mn, fin]

theorem fin_through {k : Nat} {d : Nat → Nat → Lm} {i j : Nat} (h : fin (d i k)) (g : fin (d k j)) : fin (stp k d i j) := by
  obtain ⟨x, hx⟩ := h
  obtain ⟨y, hy⟩ := g
  unfold stp; rw [hx, hy]
  cases d i j <;> simp [mn, add, fin]

/-- Behind k rounds the finite entries can be joined at each of the first k. -/
theorem fin_tri {m : Nat → Nat → Lm} (K : Nat) (hd : ∀ k, k < K → fw m k k k = some 1) : ∀ v, v < K → ∀ i j, fin (fw m K i v) → fin (fw m K v j) → fin (fw m K i j) := by
  intro v hv i j h g
  obtain ⟨x, hx⟩ := h
  obtain ⟨y, hy⟩ := g
  have t := tri_fw K hd v hv i j
  rw [hx, hy] at t
  cases e : fw m K i j
  · rw [e] at t; simp [le, add] at t
  · exact ⟨_, rfl⟩

/-- A finite entry is at most as many times U as a path without a repeated clock has edges. -/
theorem fw_bound {m : Nat → Nat → Lm} {U : Int} (hm : ∀ i j x, m i j = some x → x ≤ U) (K : Nat) (hd : ∀ k, k < K → fw m k k k = some 1) :
    ∀ i j x, fw m K i j = some x → ∃ S : Nat → Bool, (∀ v, S v = true → v < K ∧ fin (fw m K i v) ∧ fin (fw m K v j)) ∧ x ≤ U * (cnt S K + 1 : Int) := by
  induction K with
  | zero =>
    intro i j x h
    refine ⟨fun _ => false, by simp, ?_⟩
    have := hm i j x h
    simpa [cnt] using this
  | succ k ih =>
    have ih := ih fun j hj => hd j (by omega)
    have hk := hd k (by omega)
    intro i j x h
    cases ho : fw m k i j with
    | some y =>
      obtain ⟨S, hS, hx⟩ := ih i j y ho
      refine ⟨fun v => S v && decide (v < k), ?_, ?_⟩
      · intro v hv
        simp at hv
        obtain ⟨a, b, c⟩ := hS v hv.1
        exact ⟨by omega, fin_step b, fin_step c⟩
      · have hle : x ≤ y := by
          have := fw_le m k i j
          rw [h, ho] at this; exact this
        have e : cnt (fun v => S v && decide (v < k)) (k + 1) = cnt S k := by
          rw [cnt_succ, cnt_congr (T := S) k fun v hv => by simp [hv]]
          simp
        rw [e]; omega
    | none =>
      have h' : mn (fw m k i j) (add (fw m k i k) (fw m k k j)) = some x := h
      rw [ho] at h'
      cases h1 : fw m k i k with
      | none => rw [h1] at h'; simp [mn, add] at h'
      | some a =>
        cases h2 : fw m k k j with
        | none => rw [h1, h2] at h'; simp [mn, add] at h'
        | some b =>
          rw [h1, h2] at h'
          simp [mn, add] at h'
          obtain ⟨S, hS, hx⟩ := ih i k a h1
          obtain ⟨T, hT, hy⟩ := ih k j b h2
          have apart : ∀ v, v < k → ¬ (S v = true ∧ T v = true) := by
            intro v hv ⟨s, t⟩
            obtain ⟨_, f1, _⟩ := hS v s
            obtain ⟨_, _, f2⟩ := hT v t
            obtain ⟨z, hz⟩ := fin_tri k (fun j hj => hd j (by omega)) v hv i j f1 f2
            rw [ho] at hz; simp at hz
          refine ⟨fun v => if v < k then S v || T v else decide (v = k), ?_, ?_⟩
          · intro v hv
            by_cases hvk : v < k
            · simp [hvk] at hv
              refine ⟨by omega, ?_, ?_⟩
              · rcases hv with s | t
                · exact fin_step (hS v s).2.1
                · exact fin_through ⟨a, h1⟩ (hT v t).2.1
              · rcases hv with s | t
                · exact fin_through (hS v s).2.2 ⟨b, h2⟩
                · exact fin_step (hT v t).2.2
            · simp [hvk] at hv
              subst hv
              exact ⟨by omega, fin_step ⟨a, h1⟩, fin_step ⟨b, h2⟩⟩
          · have e : cnt (fun v => if v < k then S v || T v else decide (v = k)) (k + 1) = cnt S k + cnt T k + 1 := by
              rw [cnt_succ, cnt_congr (T := fun v => S v || T v) k fun v hv => by simp [hv], cnt_or k apart]
              simp
            have px : x ≤ a + b := by
              rw [← h']; unfold ps; split <;> omega
            rw [e]
            have e2 : U * ((cnt S k + cnt T k + 1 : Nat) + 1 : Int) = U * (cnt S k + 1 : Int) + U * (cnt T k + 1 : Int) := by
              rw [← Int.mul_add]; congr 1; omega
            rw [e2]; omega

theorem fw_low {m : Nat → Nat → Lm} {c : Int} (hc : 0 ≤ c) (hm : ∀ i j x, m i j = some x → -c + 1 ≤ x) (k : Nat) : ∀ i j x, fw m k i j = some x → -(c * 2 ^ k) + 1 ≤ x := by
  induction k with
  | zero => intro i j x h; have := hm i j x h; omega
  | succ k ih =>
    intro i j x h
    have e : c * (2 : Int) ^ (k + 1) = 2 * (c * 2 ^ k) := by rw [Int.pow_succ]; grind
    have h' : mn (fw m k i j) (add (fw m k i k) (fw m k k j)) = some x := h
    have c0 : -(c * (2 : Int) ^ k) + 1 ≤ x ∨ -(2 * (c * 2 ^ k)) + 1 ≤ x := by
      rcases mn_cases (fw m k i j) (add (fw m k i k) (fw m k k j)) with g | g
      · left; rw [g] at h'; exact ih i j x h'
      · right
        rw [g] at h'
        cases h1 : fw m k i k with
        | none => rw [h1] at h'; simp [add] at h'
        | some a =>
          cases h2 : fw m k k j with
          | none => rw [h1, h2] at h'; simp [add] at h'
          | some b =>
            rw [h1, h2] at h'
            simp [add] at h'
            have := ih i k a h1
            have := ih k j b h2
            rw [← h']; unfold ps; split <;> omega
    rw [e]
    have p : 0 ≤ c * (2 : Int) ^ k := Int.mul_nonneg hc (Int.le_of_lt (Int.pow_pos (by omega)))
    omega
end Go.Proofs.YtbnebinpemejlaaGreat.Zo

namespace Go.Proofs.YtbnebinpemejlaaGreat.Zo

def noL : Int := 1099511627776

/-- A sum of limits as the code computes it, in 64 bits. -/
def w64 (x : Int) : Int := (x + 9223372036854775808) % 18446744073709551616 - 9223372036854775808

theorem w64_in {x : Int} (h1 : -9223372036854775808 ≤ x) (h2 : x ≤ 9223372036854775807) : w64 x = x := by unfold w64; omega

def smW (a b : Int) : Int := if a = 1099511627776 ∨ b = 1099511627776 then 1099511627776 else if a % 2 = 0 ∧ b % 2 = 0 then w64 (a + b) else w64 (w64 (a + b) - 1)

def gt (l : List Int) (k : Nat) : Int := l.getD k 0

def ix (n i j : Nat) : Nat := i * (n + 1) + j

def At (n : Nat) (l : List Int) (i j : Nat) : Int := gt l (ix n i j)

theorem ix_lt {n i j : Nat} (hi : i ≤ n) (hj : j ≤ n) : ix n i j < (n + 1) * (n + 1) := by
  unfold ix
  have : i * (n + 1) ≤ n * (n + 1) := Nat.mul_le_mul_right _ hi
  have e : (n + 1) * (n + 1) = n * (n + 1) + (n + 1) := Nat.succ_mul _ _
  omega

theorem ix_inj {n i j a b : Nat} (hj : j ≤ n) (hb : b ≤ n) (h : ix n i j = ix n a b) : i = a ∧ j = b := by
  unfold ix at h
  have h1 : (i * (n + 1) + j) / (n + 1) = i := by
    rw [Nat.mul_comm, Nat.mul_add_div (by omega), Nat.div_eq_of_lt (by omega)]; rfl
  have h2 : (a * (n + 1) + b) / (n + 1) = a := by
    rw [Nat.mul_comm, Nat.mul_add_div (by omega), Nat.div_eq_of_lt (by omega)]; rfl
  have : i = a := by rw [← h1, ← h2, h]
  subst this
  exact ⟨rfl, by omega⟩

theorem gt_set {l : List Int} {k : Nat} (x : Int) (hk : k < l.length) (j : Nat) : gt (l.set k x) j = if j = k then x else gt l j := by
  unfold gt
  by_cases e : j = k
  · subst e; simp [hk]
  · simp [e, Ne.symm e]

theorem At_set {n : Nat} {l : List Int} (hl : l.length = (n + 1) * (n + 1)) {i j : Nat} (hi : i ≤ n) (hj : j ≤ n) (x : Int) {a b : Nat} (hb : b ≤ n) :
    At n (l.set (ix n i j) x) a b = if a = i ∧ b = j then x else At n l a b := by
  unfold At
  rw [gt_set x (by rw [hl]; exact ix_lt hi hj)]
  by_cases e : a = i ∧ b = j
  · rw [if_pos e, if_pos (by rw [e.1, e.2])]
  · rw [if_neg e, if_neg fun h => e (ix_inj hb hj h)]

/-- The code's steps: the first row and the diagonal are at most 'at most 0'; then a path through k. -/
def st1 (n : Nat) (l : List Int) (j : Nat) : List Int :=
  let l1 := l.set (ix n 0 j) (min (At n l 0 j) 1)
  l1.set (ix n j j) (min (At n l1 j j) 1)

def rlx (n k i : Nat) (l : List Int) (j : Nat) : List Int := l.set (ix n i j) (min (At n l i j) (smW (At n l i k) (At n l k j)))

def rlxJ (n k : Nat) (l : List Int) (i : Nat) : List Int := (List.range (n + 1)).foldl (rlx n k i) l

def rlxI (n : Nat) (l : List Int) (k : Nat) : List Int := (List.range (n + 1)).foldl (rlxJ n k) l

def pre (n : Nat) (l : List Int) : List Int := (List.range (n + 1)).foldl (st1 n) l

def clo (n : Nat) (l : List Int) : List Int := (List.range (n + 1)).foldl (rlxI n) (pre n l)

theorem fold_succ {α : Type} (f : α → Nat → α) (a : α) (t : Nat) : (List.range (t + 1)).foldl f a = f ((List.range t).foldl f a) t := by
  rw [List.range_succ, List.foldl_append]; rfl

/-- What each step keeps, a fold keeps. -/
theorem fold_keeps {α : Type} {f : α → Nat → α} {R : α → Prop} (N : Nat) (h : ∀ a t, t < N → R a → R (f a t)) (a : α) (ha : R a) : ∀ t, t ≤ N → R ((List.range t).foldl f a) := by
  intro t
  induction t with
  | zero => intro _; exact ha
  | succ t ih => intro ht; rw [fold_succ]; exact h _ _ (by omega) (ih (by omega))

/-- A property of matrices that a step at one place keeps is kept by the whole. -/
theorem clo_keeps {n : Nat} {R : List Int → Prop} (h1 : ∀ l i j, (i = 0 ∨ i = j) → i ≤ n → j ≤ n → R l → R (l.set (ix n i j) (min (At n l i j) 1)))
    (h2 : ∀ l k i j, k ≤ n → i ≤ n → j ≤ n → R l → R (rlx n k i l j)) {l : List Int} (h : R l) : R (clo n l) := by
  unfold clo pre
  refine fold_keeps (n + 1) (fun a k hk ha => ?_) _ (fold_keeps (n + 1) (fun a j hj ha => ?_) l h _ (Nat.le_refl _)) _ (Nat.le_refl _)
  · refine fold_keeps (n + 1) (fun a i hi ha => ?_) _ ha _ (Nat.le_refl _)
    exact fold_keeps (n + 1) (fun a j hj ha => h2 a k i j (by omega) (by omega) (by omega) ha) _ ha _ (Nat.le_refl _)
  · unfold st1
    exact h1 _ j j (Or.inr rfl) (by omega) (by omega) (h1 a 0 j (Or.inl rfl) (by omega) (by omega) ha)

theorem clo_length (n : Nat) (l : List Int) : (clo n l).length = l.length :=
  clo_keeps (R := fun x => x.length = l.length) (fun _ _ _ _ _ _ h => by simpa using h) (fun _ _ _ _ _ _ _ h => by simpa [rlx] using h) rfl

/-- Elements only become less. -/
theorem set_le {n : Nat} {l : List Int} (hl : l.length = (n + 1) * (n + 1)) {i j : Nat} (hi : i ≤ n) (hj : j ≤ n) (y : Int) {a b : Nat} (hb : b ≤ n) : At n (l.set (ix n i j) (min (At n l i j) y)) a b ≤ At n l a b := by
  rw [At_set hl hi hj _ hb]
  split
  · rename_i e; rw [e.1, e.2]; exact Int.min_le_left _ _
  · exact Int.le_refl _
end Go.Proofs.YtbnebinpemejlaaGreat.Zo

namespace Go.Proofs.YtbnebinpemejlaaGreat
open Go.RowKit

/-- A row of integers that can be read at a. -/
def Rd (w : World) (a : Addr) (l : List Int) : Prop := ∀ j, j < l.length → w.cell? (a.add j) = some (.int .i64 (Zo.gt l j))

set_option maxHeartbeats 400000 in
theorem at_any (n i j : Nat) (l : List Int) (a : Addr) (cap : Nat) (w : World) (hn : n ≤ 10) (hi : i ≤ n) (hj : j ≤ n) (hl : l.length = (n + 1) * (n + 1)) (h : Rd w a l) :
    Calls Tryz.prog 26 #[.agg #[.int .i64 n, .slice (some a) l.length cap], .int .i64 i, .int .i64 j] w (Made (.int .i64 (Zo.At n l i j)) w) := by
  have t1 := Zo.ix_lt hi hj
  have t2 : (i : Int) * ((n : Int) + 1) + (j : Int) < (l.length : Int) := by rw [hl]; exact_mod_cast t1
  have t3 : (i : Int) * ((n : Int) + 1) ≤ 110 ∧ 0 ≤ (i : Int) * ((n : Int) + 1) := by
    have : i * (n + 1) ≤ 10 * 11 := Nat.mul_le_mul (by omega) (by omega)
    constructor
    · exact_mod_cast this
    · exact_mod_cast Nat.zero_le _
  have hc : ∀ o : Obj, (w.alloc o).cell? (a.add (i * (n + 1) + j)) = some (.int .i64 (Zo.At n l i j)) := fun o => kept (one_more o) (h _ (by rw [hl]; exact t1))
  clear h t1 hl
  go_enter Tryz.func26, Tryz.ntmps26
  go_wp2_with fail
  go_ret
  exact ⟨rfl, one_more _⟩

/-- A row of limits of the call's own: it may be written. -/
def Own (w : World) (g cap : Nat) (l : List Int) : Prop := w.ownsRow 0 46 1 (.slice (some ⟨g, 0, none⟩) l.length cap) l.length (l.map (Value.int .i64))

theorem addr_add (g j : Nat) : (⟨g, 0, none⟩ : Addr).add j = ⟨g, j, none⟩ := by
  unfold Addr.add; split <;> simp_all

theorem Own.rd {w : World} {g cap : Nat} {l : List Int} (h : Own w g cap l) : Rd w ⟨g, 0, none⟩ l := by
  intro j hj
  have := World.ownsRow.cellAt h j (by simpa using hj)
  rw [addr_add, this]; simp [Zo.gt, hj]

theorem Own.lt {w : World} {g cap : Nat} {l : List Int} (h : Own w g cap l) : g < w.heap.size := (World.ownsRow.lt h g rfl).2

theorem Own.kept {w w' : World} {g cap : Nat} {l : List Int} {row : Option Nat} (h : Own w g cap l) (hg : w.grownBy w' row) (hne : some g ≠ row) : Own w' g cap l := World.ownsRow.kept h hg (Or.inr hne)

theorem Own.alloc {w : World} {g cap : Nat} {l : List Int} (h : Own w g cap l) (o : Obj) : Own (w.alloc o) g cap l := World.ownsRow.alloc h o

theorem Own.put {w : World} {g cap : Nat} {l : List Int} (h : Own w g cap l) (j : Nat) (x : Int) : Own (w.setCell ⟨g, j, none⟩ (.int .i64 x)) g cap (l.set j x) ∧ w.grownBy (w.setCell ⟨g, j, none⟩ (.int .i64 x)) (some g) := by
  obtain ⟨h1, h2⟩ := World.ownsRow.stored h j (.int .i64 x)
  refine ⟨?_, h2⟩
  unfold Own
  rw [List.length_set, List.map_set]
  exact h1

theorem grown_trans {w w1 w2 : World} {r : Option Nat} (h : w.grownBy w1 r) (k : w1.grownBy w2 r) : w.grownBy w2 r :=
  ⟨k.os.trans h.os, k.tape.trans h.tape, k.output.trans h.output, Nat.le_trans h.size k.size, fun b hb hne => (k.block b (Nat.lt_of_lt_of_le hb h.size) hne).trans (h.block b hb hne)⟩

theorem w64_eq (x : Int) : wrap64 x = Zo.w64 x := by unfold wrap64 Zo.w64; omega

set_option maxHeartbeats 400000 in
theorem sum2_any (a b : Int) (w : World) : Calls Tryz.prog 76 #[.int .i64 a, .int .i64 b] w (Still (.int .i64 (Zo.smW a b)) w) := by
  by_cases na : a = 1099511627776
  · have A0 : (a == 1099511627776) = true := by simpa using na
    have H := Lib.hid (show Zo.smW a b = 1099511627776 by unfold Zo.smW; rw [if_pos (Or.inl na)])
    clear na
    go_enter Tryz.func76, Tryz.ntmps76
    go_wp2_with fail
    go_ret
    exact ⟨ret_int H.out.symm, rfl⟩
  have A0 : (a == 1099511627776) = false := by simpa using na
  by_cases nb : b = 1099511627776
  · have B0 : (b == 1099511627776) = true := by simpa using nb
    have H := Lib.hid (show Zo.smW a b = 1099511627776 by unfold Zo.smW; rw [if_pos (Or.inr nb)])
    clear na nb
    go_enter Tryz.func76, Tryz.ntmps76
    go_wp2_with fail
    go_ret
    exact ⟨ret_int H.out.symm, rfl⟩
  have B0 : (b == 1099511627776) = false := by simpa using nb
  have h0 : ¬ (a = 1099511627776 ∨ b = 1099511627776) := by omega
  have odd : ∀ x : Int, ¬ x % 2 = 0 → (x.tmod 2 != 0) = true := by
    intro x hx
    have := Int.mul_tdiv_add_tmod x 2
    simp; omega
  have ev : ∀ x : Int, x % 2 = 0 → (x.tmod 2 != 0) = false := by
    intro x hx
    obtain ⟨k, rfl⟩ : ∃ k, x = 2 * k := ⟨x / 2, by omega⟩
    rw [Int.mul_tmod_right]; rfl
  by_cases ea : a % 2 = 0
  · have MA := ev a ea
    by_cases eb : b % 2 = 0
    · have MB := ev b eb
      have H := Lib.hid (show Zo.smW a b = Zo.w64 (a + b) by unfold Zo.smW; rw [if_neg h0, if_pos ⟨ea, eb⟩])
      clear na nb ea eb odd ev h0
      go_enter Tryz.func76, Tryz.ntmps76
      go_wp2_with fail
      go_ret
      exact ⟨ret_int (by rw [H.out, ← w64_eq]), rfl⟩
    · have MB := odd b eb
      have H := Lib.hid (show Zo.smW a b = Zo.w64 (Zo.w64 (a + b) - 1) by unfold Zo.smW; rw [if_neg h0, if_neg (by omega)])
      clear na nb ea eb odd ev h0
      go_enter Tryz.func76, Tryz.ntmps76
      go_wp2_with fail
      go_ret
      exact ⟨ret_int (by rw [H.out, ← w64_eq, ← w64_eq]), rfl⟩
  · have MA := odd a ea
    have H := Lib.hid (show Zo.smW a b = Zo.w64 (Zo.w64 (a + b) - 1) by unfold Zo.smW; rw [if_neg h0, if_neg (by omega)])
    clear na nb ea odd ev h0
    go_enter Tryz.func76, Tryz.ntmps76
    go_wp2_with fail
    go_ret
    exact ⟨ret_int (by rw [H.out, ← w64_eq, ← w64_eq]), rfl⟩

def dimB (n : Int) : Bool := decide (0 ≤ n ∧ n ≤ 10)

set_option maxHeartbeats 400000 in
theorem dimension_any (n : Int) (w : World) : Calls Tryz.prog 75 #[.int .i64 n] w (Still (.bool (dimB n)) w) := by
  by_cases h : 0 ≤ n
  · by_cases g : n ≤ 10
    · have H := Lib.hid (show dimB n = true by unfold dimB; simp; omega)
      go_enter Tryz.func75, Tryz.ntmps75
      go_wp2_with fail
      go_ret
      exact ⟨ret_bool H.out.symm, rfl⟩
    · have H := Lib.hid (show dimB n = false by unfold dimB; simp; omega)
      have D : decide (n ≤ (10 : Int)) = false := by simp; omega
      go_enter Tryz.func75, Tryz.ntmps75
      go_wp2_with fail
      go_ret
      exact ⟨ret_bool H.out.symm, rfl⟩
  · have H := Lib.hid (show dimB n = false by unfold dimB; simp; omega)
    have D : decide ((0 : Int) ≤ n) = false := by simp; omega
    go_enter Tryz.func75, Tryz.ntmps75
    go_wp2_with fail
    go_ret
    exact ⟨ret_bool H.out.symm, rfl⟩
end Go.Proofs.YtbnebinpemejlaaGreat
