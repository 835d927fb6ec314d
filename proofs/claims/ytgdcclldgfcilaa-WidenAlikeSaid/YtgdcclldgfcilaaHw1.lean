/- What all contracts have in common: calls that return a value and leave all memory from before as it was; cells and blocks of two integers behind such calls. Nothing of the program is named here.; Plain mathematics of limits: what the functions of package limit return, as numbers. Nothing of the program is named here.; Contracts of package limit and of its reference, but for Meets and Text: they read nothing and make nothing.; Plain mathematics of bounds: sums of limits of any size, with 'none' above all; shortest paths by the rule of Floyd and Warshall. Nothing of the program is named here.; Plain mathematics of bounds: matrices as lists of integers, closed in place; what becomes of them where the diagonal stays. Nothing of the program is named here.; Contracts of the small functions of layer 3's reference: at, set, Dimension, and of layer 2's Sum.; Plain mathematics of bounds: where the diagonal stays, closing in place is the rule of Floyd and Warshall, and the result keeps to the inequality of triangles. Nothing of the program is named here.; The contract of closed of layer 3's reference.; The contract of Check of layer 3's reference. -/
import Derived.Test.YtgdcclldgfcilaaRows
import Derived.WalkKit
import Derived.WalkSpells
import Derived.WalkLawsBesides
import Derived.Deep.QuietTactic
import Derived.BigQuiet
import Derived.Deep.RegionHeld3
import Derived.Lib.Hide
import Derived.Laws.EntriesVeiled
import Derived.Deep.DeepCutAuto

namespace Go.Proofs.Ytgdcclldgfcilaa
open Go.RowKit

/-- What fits an int64. -/
def I64 (x : Int) : Prop := -9223372036854775808 ≤ x ∧ x ≤ 9223372036854775807

theorem i64lit (x : Int) (h1 : -9223372036854775808 ≤ x) (h2 : x ≤ 9223372036854775807) : I64 x := ⟨h1, h2⟩

theorem ret_int {k : IntKind} {a b : Int} (h : a = b) : Ending.returned (.int k a) = .returned (.int k b) := by rw [h]

def Drawn (v : Value) (w : World) (e : Ending) (w' : World) : Prop := e = .returned v ∧ ∃ n, w' = w.drewN n

/-- A call that returns v, and leaves all memory from before as it was. -/
def Made (v : Value) (w : World) (e : Ending) (w' : World) : Prop := e = .returned v ∧ Below w.heap.size w w'

/-- What was there before a call that only makes memory is there behind it. -/
theorem bcell {B : Nat} {W w1 : World} (hb : Below B W w1) : (∀ b o, b < B → w1.cell? ⟨b, o, none⟩ = W.cell? ⟨b, o, none⟩) ∧ (∀ b o, b < B → w1.frozen? ⟨b, o, none⟩ = W.frozen? ⟨b, o, none⟩) :=
  ⟨fun b o h => hb.cell (p := ⟨b, o, none⟩) h, fun b o h => hb.frozen (p := ⟨b, o, none⟩) h⟩

theorem ret_bool {a b : Bool} (h : a = b) : Ending.returned (.bool a) = .returned (.bool b) := by rw [h]

theorem two_below {w w1 : World} (hb : Below w.heap.size w w1) (n : Nat) (x y : Value) : Below w.heap.size w (((w1.drewN n).setCell ⟨w.heap.size, 0, none⟩ x).setCell ⟨w.heap.size, 1, none⟩ y) :=
  ((below_drewN hb n).setCell (Nat.le_refl _) x).setCell (Nat.le_refl _) y

theorem past_one {w w1 : World} {o : Obj} (hb : Below (w.alloc o).heap.size (w.alloc o) w1) : Below w.heap.size w w1 :=
  ((Below.refl _ _).alloc (Nat.le_refl _) o).trans (hb.mono (by simp))

theorem past_two {w w1 : World} {o1 o2 : Obj} (hb : Below ((w.alloc o1).alloc o2).heap.size ((w.alloc o1).alloc o2) w1) : Below w.heap.size w w1 :=
  past_one (past_one hb)

theorem past_three {w w1 : World} {o1 o2 o3 : Obj} (hb : Below (((w.alloc o1).alloc o2).alloc o3).heap.size (((w.alloc o1).alloc o2).alloc o3) w1) : Below w.heap.size w w1 :=
  past_one ((past_one ((past_one hb))))

theorem below_on {X w1 w2 : World} (hb : Below X.heap.size X w1) (hb2 : Below w1.heap.size w1 w2) : Below X.heap.size X w2 := hb.trans (hb2.mono hb.size)

theorem ret_two {k1 k2 : IntKind} {a b c d : Int} (h : a = b) (g : c = d) : Ending.returned (.tuple #[.int k1 a, .int k2 c]) = .returned (.tuple #[.int k1 b, .int k2 d]) := by rw [h, g]

theorem wrap_in (x : Int) (h1 : -9223372036854775808 ≤ x) (h2 : x ≤ 9223372036854775807) : IntKind.i64.wrap x = x := by
  simp [IntKind.wrap, IntKind.bits, IntKind.signed]
  omega

theorem w64min : wrap64 9223372036854775808 = -9223372036854775808 := by unfold wrap64; omega

/-- What a world had it has behind a call that only makes memory; and so does a new block of two cells. -/
theorem kept {w1 w2 : World} (hb : Below w1.heap.size w1 w2) {p : Addr} {v : Value} (h : w1.cell? p = some v) : w2.cell? p = some v := by
  rw [hb.cell (World.block_lt_of_cell? w1 _ h)]; exact h

theorem one_more {w1 : World} (o : Obj) : Below w1.heap.size w1 (w1.alloc o) := (Below.refl _ _).alloc (Nat.le_refl _) o

theorem boxed {w1 w2 : World} {x y : Value} {t : TypeId} (hb : Below (w1.alloc (.cells #[x, y] t)).heap.size (w1.alloc (.cells #[x, y] t)) w2) :
    w2.cell? ⟨w1.heap.size, 0, none⟩ = some x ∧ w2.cell? ⟨w1.heap.size, 1, none⟩ = some y ∧ w1.heap.size + 1 ≤ w2.heap.size := by
  refine ⟨kept hb (by go_simp), kept hb (by go_simp), ?_⟩
  have := hb.size; simpa using this

theorem on_box {w w1 w2 : World} {o : Obj} (hB : Below w.heap.size w w1) (hb : Below (w1.alloc o).heap.size (w1.alloc o) w2) : Below w.heap.size w w2 :=
  below_on hB (past_one hb)

/-- A cell that holds v and may be written. -/
def Cell (w : World) (p : Addr) (v : Value) : Prop := w.cell? p = some v ∧ w.frozen? p = false

theorem Cell.lt {w : World} {p : Addr} {v : Value} (h : Cell w p v) : p.block < w.heap.size := World.block_lt_of_cell? w _ h.1

theorem Cell.kept {w w' : World} {p : Addr} {v : Value} (h : Cell w p v) (hb : Below w.heap.size w w') : Cell w' p v :=
  ⟨by rw [hb.cell h.lt]; exact h.1, by rw [hb.frozen h.lt]; exact h.2⟩

theorem Cell.same {w : World} {p : Addr} {v : Value} (h : Cell w p v) (x : Value) : Cell (w.setCell p x) p x :=
  ⟨World.cell?_setCell_same _ _ _ h.1, by rw [World.frozen?_setCell]; exact h.2⟩

theorem Cell.other {w : World} {p q : Addr} {v : Value} (h : Cell w q v) (hne : p ≠ q) (x : Value) : Cell (w.setCell p x) q v :=
  ⟨(World.cell?_setCell_other _ _ _ _ hne).trans h.1, by rw [World.frozen?_setCell]; exact h.2⟩

/-- Block b holds the two integers x and y. -/
def Pair (w : World) (b : Nat) (x y : Int) : Prop := Cell w ⟨b, 0, none⟩ (.int .i64 x) ∧ Cell w ⟨b, 1, none⟩ (.int .i64 y)

theorem Pair.lt {w : World} {b : Nat} {x y : Int} (h : Pair w b x y) : b < w.heap.size := h.1.lt

theorem Pair.kept {w w' : World} {b : Nat} {x y : Int} (h : Pair w b x y) (hb : Below w.heap.size w w') : Pair w' b x y := ⟨h.1.kept hb, h.2.kept hb⟩

theorem Pair.made (w : World) (x y : Int) (t : TypeId) : Pair (w.alloc (.cells #[.int .i64 x, .int .i64 y] t)) w.heap.size x y :=
  ⟨⟨by go_simp, by go_simp⟩, ⟨by go_simp, by go_simp⟩⟩

theorem Pair.alloc {w : World} {b : Nat} {x y : Int} (h : Pair w b x y) (o : Obj) : Pair (w.alloc o) b x y := h.kept (one_more o)

theorem Pair.drawn {w : World} {b : Nat} {x y : Int} (h : Pair w b x y) (n : Nat) : Pair (w.drewN n) b x y := h.kept (below_drewN (Below.refl _ _) n)

theorem Pair.put {w : World} {b : Nat} {x y : Int} (h : Pair w b x y) (x' y' : Int) : Pair ((w.setCell ⟨b, 0, none⟩ (.int .i64 x')).setCell ⟨b, 1, none⟩ (.int .i64 y')) b x' y' :=
  ⟨((h.1.same _).other (by simp) _), ((h.2.other (by simp) _).same _)⟩

theorem Pair.aside {w : World} {b b' : Nat} {x y : Int} (h : Pair w b x y) (hne : b' ≠ b) (x' y' : Value) : Pair ((w.setCell ⟨b', 0, none⟩ x').setCell ⟨b', 1, none⟩ y') b x y :=
  ⟨((h.1.other (fun e => hne (congrArg Addr.block e)) _).other (fun e => hne (congrArg Addr.block e)) _), ((h.2.other (fun e => hne (congrArg Addr.block e)) _).other (fun e => hne (congrArg Addr.block e)) _)⟩

/-- What the walk reads off. -/
theorem Pair.facts {w : World} {b : Nat} {x y : Int} (h : Pair w b x y) : w.cell? ⟨b, 0, none⟩ = some (.int .i64 x) ∧ w.cell? ⟨b, 1, none⟩ = some (.int .i64 y) ∧ w.frozen? ⟨b, 0, none⟩ = false ∧ w.frozen? ⟨b, 1, none⟩ = false :=
  ⟨h.1.1, h.2.1, h.1.2, h.2.2⟩

theorem below_put {w w1 : World} (hb : Below w.heap.size w w1) {b : Nat} (hB : w.heap.size ≤ b) (x y : Value) : Below w.heap.size w ((w1.setCell ⟨b, 0, none⟩ x).setCell ⟨b, 1, none⟩ y) :=
  (hb.setCell hB x).setCell hB y

/-- Behind the first call of a function with two such parameters. -/
theorem two_pairs {w w1 : World} {n d m c : Int} {t : TypeId} (hb : Below ((w.alloc (.cells #[.int .i64 n, .int .i64 d] t)).alloc (.cells #[.int .i64 m, .int .i64 c] t)).heap.size ((w.alloc (.cells #[.int .i64 n, .int .i64 d] t)).alloc (.cells #[.int .i64 m, .int .i64 c] t)) w1) :
    Pair w1 w.heap.size n d ∧ Pair w1 (w.heap.size + 1) m c ∧ w.heap.size + 2 ≤ w1.heap.size ∧ Below w.heap.size w w1 := by
  have hB := (Pair.made (w.alloc (.cells #[.int .i64 n, .int .i64 d] t)) m c t).kept hb
  refine ⟨((Pair.made w n d t).alloc _).kept hb, by simpa using hB, ?_, past_two hb⟩
  have := hb.size; simpa using this

theorem three_pairs {w w1 : World} {n d m c k l : Int} {t : TypeId} (hb : Below (((w.alloc (.cells #[.int .i64 n, .int .i64 d] t)).alloc (.cells #[.int .i64 m, .int .i64 c] t)).alloc (.cells #[.int .i64 k, .int .i64 l] t)).heap.size (((w.alloc (.cells #[.int .i64 n, .int .i64 d] t)).alloc (.cells #[.int .i64 m, .int .i64 c] t)).alloc (.cells #[.int .i64 k, .int .i64 l] t)) w1) :
    Pair w1 w.heap.size n d ∧ Pair w1 (w.heap.size + 1) m c ∧ Pair w1 (w.heap.size + 2) k l ∧ w.heap.size + 3 ≤ w1.heap.size ∧ Below w.heap.size w w1 := by
  have hB := ((Pair.made (w.alloc (.cells #[.int .i64 n, .int .i64 d] t)) m c t).alloc (.cells #[.int .i64 k, .int .i64 l] t)).kept hb
  have hC := (Pair.made ((w.alloc (.cells #[.int .i64 n, .int .i64 d] t)).alloc (.cells #[.int .i64 m, .int .i64 c] t)) k l t).kept hb
  refine ⟨(((Pair.made w n d t).alloc _).alloc _).kept hb, by simpa using hB, by simpa using hC, ?_, past_three hb⟩
  have := hb.size; simpa using this

theorem on_put {w w1 w2 : World} {b : Nat} {x y : Value} (hB : Below w.heap.size w w1) (hle : w.heap.size ≤ b) (hb : Below ((w1.setCell ⟨b, 0, none⟩ x).setCell ⟨b, 1, none⟩ y).heap.size ((w1.setCell ⟨b, 0, none⟩ x).setCell ⟨b, 1, none⟩ y) w2) : Below w.heap.size w w2 :=
  (below_put hB hle x y).trans (hb.mono (below_put hB hle x y).size)
end Go.Proofs.Ytgdcclldgfcilaa

namespace Go.Proofs.Ytgdcclldgfcilaa

/-- A limit is 1099511627776 (none), or 2 c or 2 c + 1 for a constant c from -1073741824 to 1073741824. -/
def lvB (l : Int) : Bool := decide (l = 1099511627776 ∨ (-2147483648 ≤ l ∧ l ≤ 2147483649))

def noB (l : Int) : Bool := decide (l = 1099511627776)

def evB (l : Int) : Bool := decide (l % 2 = 0)

def jnL (c : Int) (s : Bool) : Int := if -1073741824 ≤ c ∧ c ≤ 1073741824 then (if s then 2 * c else 2 * c + 1) else 0

def jnE (c : Int) : Int := if -1073741824 ≤ c ∧ c ≤ 1073741824 then 0 else 7

def spC (l : Int) : Int := if lvB l && !noB l then l / 2 else 0

def spS (l : Int) : Bool := lvB l && !noB l && evB l

def spE (l : Int) : Int := if lvB l then (if noB l then 4 else 0) else 2

def adL (a b : Int) : Int := if lvB a && lvB b then (if noB a || noB b then 1099511627776 else jnL (a / 2 + b / 2) (evB a || evB b)) else 0

def adE (a b : Int) : Int := if lvB a && lvB b then (if noB a || noB b then 0 else jnE (a / 2 + b / 2)) else 2

def ntL (a : Int) : Int := if lvB a && !noB a then 1 - a else 0

theorem lvB_no {l : Int} (h : l ≠ 1099511627776) (g : l < -2147483648 ∨ 2147483649 < l) : lvB l = false := by unfold lvB; simp; omega

theorem lvB_yes {l : Int} (h : l = 1099511627776 ∨ (-2147483648 ≤ l ∧ l ≤ 2147483649)) : lvB l = true := by unfold lvB; simpa using h

theorem lvB_cases (l : Int) : (lvB l = false ∧ noB l = false ∧ l ≠ 1099511627776 ∧ (l < -2147483648 ∨ 2147483649 < l)) ∨ (l = 1099511627776 ∧ lvB l = true ∧ noB l = true) ∨ (lvB l = true ∧ noB l = false ∧ l ≠ 1099511627776 ∧ -2147483648 ≤ l ∧ l ≤ 2147483649) := by
  unfold lvB noB
  by_cases h : l = 1099511627776
  · simp [h]
  · simp [h]; omega

theorem ad_bad1 {a : Int} (b : Int) (h : lvB a = false) : adL a b = 0 ∧ adE a b = 2 := by simp [adL, adE, h]

theorem ad_bad2 (a : Int) {b : Int} (h : lvB b = false) : adL a b = 0 ∧ adE a b = 2 := by simp [adL, adE, h]

theorem ad_none {a b : Int} (h : lvB a = true) (g : lvB b = true) (k : (noB a || noB b) = true) : adL a b = 1099511627776 ∧ adE a b = 0 := by simp only [adL, adE, h, g, k]; simp

theorem ad_some {a b : Int} (h : lvB a = true) (g : lvB b = true) (k : noB a = false) (l : noB b = false) : adL a b = jnL (a / 2 + b / 2) (evB a || evB b) ∧ adE a b = jnE (a / 2 + b / 2) := by simp [adL, adE, h, g, k, l]

theorem nt_some {a : Int} (h : lvB a = true) (k : noB a = false) (a1 : -2147483648 ≤ a) (a2 : a ≤ 2147483649) : ntL a = jnL (-(a / 2)) (!evB a) ∧ spE a = jnE (-(a / 2)) := by
  rw [show ntL a = 1 - a by simp [ntL, h, k], show spE a = 0 by simp [spE, h, k]]
  unfold jnL jnE evB
  rw [if_pos (And.intro (by omega) (by omega)), if_pos (And.intro (by omega) (by omega))]
  by_cases e : a % 2 = 0
  · simp [e]; omega
  · simp [e]; omega
end Go.Proofs.Ytgdcclldgfcilaa

namespace Go.Proofs.Ytgdcclldgfcilaa
open Go.RowKit

/-- A call that returns v, and leaves the world as it was. -/
def Still (v : Value) (w : World) (e : Ending) (w' : World) : Prop := e = .returned v ∧ w' = w

theorem ret_li {a b c d : Int} (h : a = b) (g : c = d) : Ending.returned (.tuple #[.int .i64 a, .int .i64 c]) = .returned (.tuple #[.int .i64 b, .int .i64 d]) := by rw [h, g]

theorem ret_cs {a b : Int} {c d : Bool} (h : a = b) (g : c = d) : Ending.returned (.tuple #[.int .i64 a, .bool c]) = .returned (.tuple #[.int .i64 b, .bool d]) := by rw [h, g]

theorem ret_cse {a b x y : Int} {c d : Bool} (h : a = b) (g : c = d) (k : x = y) : Ending.returned (.tuple #[.int .i64 a, .bool c, .int .i64 x]) = .returned (.tuple #[.int .i64 b, .bool d, .int .i64 y]) := by rw [h, g, k]

set_option maxHeartbeats 400000 in
theorem limValid_any (l : Int) (w : World) (hl : I64 l) : Calls Try.prog 59 #[.int .i64 l] w (Still (.bool (lvB l)) w) := by
  by_cases h0 : l = 1099511627776
  · have H := Lib.hid (lvB_yes (Or.inl h0))
    subst h0
    go_enter Try.func59, Try.ntmps59
    go_wp2_with fail
    go_ret
    exact ⟨ret_bool (by rw [H.out]), rfl⟩
  have B0 : (l == 1099511627776) = false := by simpa using h0
  by_cases h1 : l < -2147483648
  · have H := Lib.hid (lvB_no h0 (Or.inl h1))
    have D : decide ((-2147483648 : Int) ≤ l) = false := by simp; omega
    go_enter Try.func59, Try.ntmps59
    go_wp2_with fail
    go_ret
    exact ⟨ret_bool (by rw [H.out]), rfl⟩
  by_cases h2 : 2147483649 < l
  · have H := Lib.hid (lvB_no h0 (Or.inr h2))
    have D : decide (l ≤ (2147483649 : Int)) = false := by simp; omega
    go_enter Try.func59, Try.ntmps59
    go_wp2_with fail
    go_ret
    exact ⟨ret_bool (by rw [H.out]), rfl⟩
  · have H := Lib.hid (lvB_yes (l := l) (Or.inr ⟨by omega, by omega⟩))
    go_enter Try.func59, Try.ntmps59
    go_wp2_with fail
    go_ret
    exact ⟨ret_bool (by rw [H.out]), rfl⟩

set_option maxHeartbeats 400000 in
theorem refLimValid_any (l : Int) (w : World) (hl : I64 l) : Calls Try.prog 23 #[.int .i64 l] w (Still (.bool (lvB l)) w) := by
  by_cases h0 : l = 1099511627776
  · have H := Lib.hid (lvB_yes (Or.inl h0))
    subst h0
    go_enter Try.func23, Try.ntmps23
    go_wp2_with fail
    go_ret
    exact ⟨ret_bool (by rw [H.out]), rfl⟩
  have B0 : (l == 1099511627776) = false := by simpa using h0
  by_cases h1 : l < -2147483648
  · have H := Lib.hid (lvB_no h0 (Or.inl h1))
    have D : decide ((-2147483648 : Int) ≤ l) = false := by simp; omega
    go_enter Try.func23, Try.ntmps23
    go_wp2_with fail
    go_ret
    exact ⟨ret_bool (by rw [H.out]), rfl⟩
  by_cases h2 : 2147483649 < l
  · have H := Lib.hid (lvB_no h0 (Or.inr h2))
    have D : decide (l ≤ (2147483649 : Int)) = false := by simp; omega
    go_enter Try.func23, Try.ntmps23
    go_wp2_with fail
    go_ret
    exact ⟨ret_bool (by rw [H.out]), rfl⟩
  · have H := Lib.hid (lvB_yes (l := l) (Or.inr ⟨by omega, by omega⟩))
    go_enter Try.func23, Try.ntmps23
    go_wp2_with fail
    go_ret
    exact ⟨ret_bool (by rw [H.out]), rfl⟩

set_option maxHeartbeats 400000 in
theorem limValid_free (l : Int) (w : World) : Calls Try.prog 59 #[.int .i64 l] w (Still (.bool (lvB l)) w) := by
  by_cases h0 : l = 1099511627776
  · have H := Lib.hid (lvB_yes (Or.inl h0))
    subst h0
    go_enter Try.func59, Try.ntmps59
    go_wp2_with fail
    go_ret
    exact ⟨ret_bool (by rw [H.out]), rfl⟩
  have B0 : (l == 1099511627776) = false := by simpa using h0
  by_cases h1 : l < -2147483648
  · have H := Lib.hid (lvB_no h0 (Or.inl h1))
    have D : decide ((-2147483648 : Int) ≤ l) = false := by simp; omega
    go_enter Try.func59, Try.ntmps59
    go_wp2_with fail
    go_ret
    exact ⟨ret_bool (by rw [H.out]), rfl⟩
  by_cases h2 : 2147483649 < l
  · have H := Lib.hid (lvB_no h0 (Or.inr h2))
    have D : decide (l ≤ (2147483649 : Int)) = false := by simp; omega
    go_enter Try.func59, Try.ntmps59
    go_wp2_with fail
    go_ret
    exact ⟨ret_bool (by rw [H.out]), rfl⟩
  · have H := Lib.hid (lvB_yes (l := l) (Or.inr ⟨by omega, by omega⟩))
    go_enter Try.func59, Try.ntmps59
    go_wp2_with fail
    go_ret
    exact ⟨ret_bool (by rw [H.out]), rfl⟩

set_option maxHeartbeats 400000 in
theorem refLimValid_free (l : Int) (w : World) : Calls Try.prog 23 #[.int .i64 l] w (Still (.bool (lvB l)) w) := by
  by_cases h0 : l = 1099511627776
  · have H := Lib.hid (lvB_yes (Or.inl h0))
    subst h0
    go_enter Try.func23, Try.ntmps23
    go_wp2_with fail
    go_ret
    exact ⟨ret_bool (by rw [H.out]), rfl⟩
  have B0 : (l == 1099511627776) = false := by simpa using h0
  by_cases h1 : l < -2147483648
  · have H := Lib.hid (lvB_no h0 (Or.inl h1))
    have D : decide ((-2147483648 : Int) ≤ l) = false := by simp; omega
    go_enter Try.func23, Try.ntmps23
    go_wp2_with fail
    go_ret
    exact ⟨ret_bool (by rw [H.out]), rfl⟩
  by_cases h2 : 2147483649 < l
  · have H := Lib.hid (lvB_no h0 (Or.inr h2))
    have D : decide (l ≤ (2147483649 : Int)) = false := by simp; omega
    go_enter Try.func23, Try.ntmps23
    go_wp2_with fail
    go_ret
    exact ⟨ret_bool (by rw [H.out]), rfl⟩
  · have H := Lib.hid (lvB_yes (l := l) (Or.inr ⟨by omega, by omega⟩))
    go_enter Try.func23, Try.ntmps23
    go_wp2_with fail
    go_ret
    exact ⟨ret_bool (by rw [H.out]), rfl⟩

theorem limValid_as {l : Int} {b : Bool} (w : World) (hl : I64 l) (h : lvB l = b) : Calls Try.prog 59 #[.int .i64 l] w (Still (.bool b) w) := by
  rw [← h]; exact limValid_any l w hl

theorem refLimValid_as {l : Int} {b : Bool} (w : World) (hl : I64 l) (h : lvB l = b) : Calls Try.prog 23 #[.int .i64 l] w (Still (.bool b) w) := by
  rw [← h]; exact refLimValid_any l w hl

set_option maxHeartbeats 400000 in
theorem join_any (c : Int) (s : Bool) (w : World) : Calls Try.prog 61 #[.int .i64 c, .bool s] w (Still (.tuple #[.int .i64 (jnL c s), .int .i64 (jnE c)]) w) := by
  by_cases h1 : c < -1073741824
  · have H := Lib.hid (show jnL c s = 0 ∧ jnE c = 7 by unfold jnL jnE; rw [if_neg (by omega), if_neg (by omega)]; simp)
    go_enter Try.func61, Try.ntmps61
    go_wp2_with fail
    go_ret2
    exact ⟨ret_li H.out.1.symm H.out.2.symm, rfl⟩
  by_cases h2 : 1073741824 < c
  · have H := Lib.hid (show jnL c s = 0 ∧ jnE c = 7 by unfold jnL jnE; rw [if_neg (by omega), if_neg (by omega)]; simp)
    go_enter Try.func61, Try.ntmps61
    go_wp2_with fail
    go_ret2
    exact ⟨ret_li H.out.1.symm H.out.2.symm, rfl⟩
  cases s
  · have H := Lib.hid (show jnL c false = 2 * c + 1 ∧ jnE c = 0 by unfold jnL jnE; rw [if_pos (And.intro (by omega) (by omega)), if_pos (And.intro (by omega) (by omega))]; simp)
    go_enter Try.func61, Try.ntmps61
    go_wp2_with fail
    go_ret2
    exact ⟨ret_li H.out.1.symm H.out.2.symm, rfl⟩
  · have H := Lib.hid (show jnL c true = 2 * c ∧ jnE c = 0 by unfold jnL jnE; rw [if_pos (And.intro (by omega) (by omega)), if_pos (And.intro (by omega) (by omega))]; simp)
    go_enter Try.func61, Try.ntmps61
    go_wp2_with fail
    go_ret2
    exact ⟨ret_li H.out.1.symm H.out.2.symm, rfl⟩

set_option maxHeartbeats 400000 in
theorem strict_any (c : Int) (w : World) : Calls Try.prog 51 #[.int .i64 c] w (Still (.tuple #[.int .i64 (jnL c true), .int .i64 (jnE c)]) w) := by
  go_enter Try.func51, Try.ntmps51
  go_wp2_with fail
  refine (join_any _ _ _).mono ?_
  rintro e w' ⟨rfl, rfl⟩
  go_wp2_with fail
  go_ret2
  exact ⟨rfl, rfl⟩

/-- 'b & 1' of an int64 is its rest modulo 2. -/
theorem and1_i64 (l : Int) : bits .and .i64 l 1 = l % 2 := by
  show IntKind.i64.wrap (((BitVec.ofInt 64 l &&& BitVec.ofInt 64 1).toNat : Nat) : Int) = _
  have h1 : (BitVec.ofInt 64 1).toNat = 1 := by decide
  rw [BitVec.toNat_and, h1, Nat.and_one_is_mod, BitVec.toNat_ofInt]
  have h2 : 0 ≤ l % 2 ∧ l % 2 < 2 := by omega
  have h3 : (((l % ((2 ^ 64 : Nat) : Int)).toNat % 2 : Nat) : Int) = l % 2 := by
    have : ((2 ^ 64 : Nat) : Int) = 18446744073709551616 := by decide
    rw [this]; omega
  rw [h3]
  simp [IntKind.wrap, IntKind.bits, IntKind.signed]
  omega

theorem and1_ev (l : Int) : (bits .and .i64 l 1 == 0) = evB l := by rw [and1_i64]; unfold evB; rw [Bool.eq_iff_iff]; simp

set_option maxHeartbeats 400000 in
theorem split_any (l : Int) (w : World) : Calls Try.prog 66 #[.int .i64 l] w (Still (.tuple #[.int .i64 (l / 2), .bool (evB l)]) w) := by
  go_enter Try.func66, Try.ntmps66
  go_wp2_with fail
  go_ret2
  exact ⟨ret_cs rfl (and1_ev l), rfl⟩

set_option maxHeartbeats 400000 in
theorem limSplit_any (l : Int) (w : World) (hl : I64 l) : Calls Try.prog 60 #[.int .i64 l] w (Still (.tuple #[.int .i64 (spC l), .bool (spS l), .int .i64 (spE l)]) w) := by
  rcases lvB_cases l with ⟨hv, hn, h0, hr⟩ | ⟨rfl, hv, hn⟩ | ⟨hv, hn, h0, h1, h2⟩
  · have H := Lib.hid (show spC l = 0 ∧ spS l = false ∧ spE l = 2 by simp [spC, spS, spE, hv])
    have V := Lib.hid hv
    clear hv hn
    go_enter Try.func60, Try.ntmps60
    go_wp2_with fail
    refine (limValid_as _ hl V.out).mono ?_
    rintro e w' ⟨rfl, rfl⟩
    go_wp2_with fail
    go_ret3
    exact ⟨ret_cse H.out.1.symm H.out.2.1.symm H.out.2.2.symm, rfl⟩
  · have H := Lib.hid (show spC 1099511627776 = 0 ∧ spS 1099511627776 = false ∧ spE 1099511627776 = 4 by decide)
    have V := Lib.hid hv
    clear hv hn
    go_enter Try.func60, Try.ntmps60
    go_wp2_with fail
    refine (limValid_as _ hl V.out).mono ?_
    rintro e w' ⟨rfl, rfl⟩
    go_wp2_with fail
    go_ret3
    exact ⟨ret_cse H.out.1.symm H.out.2.1.symm H.out.2.2.symm, rfl⟩
  · have H := Lib.hid (show spC l = l / 2 ∧ spS l = evB l ∧ spE l = 0 by simp [spC, spS, spE, hv, hn])
    have V := Lib.hid hv
    clear hv hn
    have B0 : (l == 1099511627776) = false := by simpa using h0
    go_enter Try.func60, Try.ntmps60
    go_wp2_with fail
    refine (limValid_as _ hl V.out).mono ?_
    rintro e w' ⟨rfl, rfl⟩
    go_wp2_with fail
    refine (split_any l _).mono ?_
    rintro e w' ⟨rfl, rfl⟩
    go_wp2_with fail
    go_ret3
    exact ⟨ret_cse H.out.1.symm H.out.2.1.symm H.out.2.2.symm, rfl⟩

theorem quo_ev (l : Int) (h : l % 2 = 0) : l.tdiv 2 = l / 2 ∧ l.tmod 2 = 0 := by
  obtain ⟨k, rfl⟩ : ∃ k, l = 2 * k := ⟨l / 2, by omega⟩
  rw [Int.mul_tdiv_cancel_left _ (by omega), Int.mul_tmod_right]; omega

theorem quo_odd (l : Int) (h : ¬ l % 2 = 0) : (l - 1).tdiv 2 = l / 2 ∧ l.tmod 2 ≠ 0 := by
  obtain ⟨k, rfl⟩ : ∃ k, l = 2 * k + 1 := ⟨l / 2, by omega⟩
  have e : 2 * k + 1 - 1 = 2 * k := by omega
  have d := Int.mul_tdiv_add_tmod (2 * k + 1) 2
  rw [e, Int.mul_tdiv_cancel_left _ (by omega)]
  omega

set_option maxHeartbeats 400000 in
theorem refLimSplit_any (l : Int) (w : World) (hl : I64 l) : Calls Try.prog 35 #[.int .i64 l] w (Still (.tuple #[.int .i64 (spC l), .bool (spS l), .int .i64 (spE l)]) w) := by
  rcases lvB_cases l with ⟨hv, hn, h0, hr⟩ | ⟨rfl, hv, hn⟩ | ⟨hv, hn, h0, h1, h2⟩
  · have H := Lib.hid (show spC l = 0 ∧ spS l = false ∧ spE l = 2 by simp [spC, spS, spE, hv])
    have V := Lib.hid hv
    clear hv hn
    go_enter Try.func35, Try.ntmps35
    go_wp2_with fail
    refine (refLimValid_as _ hl V.out).mono ?_
    rintro e w' ⟨rfl, rfl⟩
    go_wp2_with fail
    go_ret3
    exact ⟨ret_cse H.out.1.symm H.out.2.1.symm H.out.2.2.symm, rfl⟩
  · have H := Lib.hid (show spC 1099511627776 = 0 ∧ spS 1099511627776 = false ∧ spE 1099511627776 = 4 by decide)
    have V := Lib.hid hv
    clear hv hn
    go_enter Try.func35, Try.ntmps35
    go_wp2_with fail
    refine (refLimValid_as _ hl V.out).mono ?_
    rintro e w' ⟨rfl, rfl⟩
    go_wp2_with fail
    go_ret3
    exact ⟨ret_cse H.out.1.symm H.out.2.1.symm H.out.2.2.symm, rfl⟩
  · have B0 : (l == 1099511627776) = false := by simpa using h0
    by_cases he : l % 2 = 0
    · have H := Lib.hid (show spC l = l.tdiv 2 ∧ spS l = true ∧ spE l = 0 by simp [spC, spS, spE, evB, hv, hn, he, (quo_ev l he).1])
      have V := Lib.hid hv
      have M : (l.tmod 2 == 0) = true := by simpa using (quo_ev l he).2
      clear hv hn
      go_enter Try.func35, Try.ntmps35
      go_wp2_with fail
      refine (refLimValid_as _ hl V.out).mono ?_
      rintro e w' ⟨rfl, rfl⟩
      go_wp2_with fail
      go_ret3
      exact ⟨ret_cse H.out.1.symm H.out.2.1.symm H.out.2.2.symm, rfl⟩
    · have H := Lib.hid (show spC l = (l - 1).tdiv 2 ∧ spS l = false ∧ spE l = 0 by simp [spC, spS, spE, evB, hv, hn, he, (quo_odd l he).1])
      have V := Lib.hid hv
      have M : (l.tmod 2 == 0) = false := by simpa using (quo_odd l he).2
      clear hv hn
      go_enter Try.func35, Try.ntmps35
      go_wp2_with fail
      refine (refLimValid_as _ hl V.out).mono ?_
      rintro e w' ⟨rfl, rfl⟩
      go_wp2_with fail
      go_ret3
      exact ⟨ret_cse H.out.1.symm H.out.2.1.symm H.out.2.2.symm, rfl⟩

theorem refSplit_none {l : Int} (w : World) (hl : I64 l) (hv : lvB l = true) (hn : noB l = true) : Calls Try.prog 35 #[.int .i64 l] w (Still (.tuple #[.int .i64 0, .bool false, .int .i64 4]) w) := by
  have h := refLimSplit_any l w hl
  rwa [show spC l = 0 by simp [spC, hv, hn], show spS l = false by simp [spS, hv, hn], show spE l = 4 by simp [spE, hv, hn]] at h

theorem refSplit_some {l : Int} (w : World) (hl : I64 l) (hv : lvB l = true) (hn : noB l = false) : Calls Try.prog 35 #[.int .i64 l] w (Still (.tuple #[.int .i64 (l / 2), .bool (evB l), .int .i64 0]) w) := by
  have h := refLimSplit_any l w hl
  rwa [show spC l = l / 2 by simp [spC, hv, hn], show spS l = evB l by simp [spS, hv, hn], show spE l = 0 by simp [spE, hv, hn]] at h

theorem refSplit_bad {l : Int} (w : World) (hl : I64 l) (hv : lvB l = false) : Calls Try.prog 35 #[.int .i64 l] w (Still (.tuple #[.int .i64 0, .bool false, .int .i64 2]) w) := by
  have h := refLimSplit_any l w hl
  rwa [show spC l = 0 by simp [spC, hv], show spS l = false by simp [spS, hv], show spE l = 2 by simp [spE, hv]] at h

theorem limSplit_some {l : Int} (w : World) (hl : I64 l) (hv : lvB l = true) (hn : noB l = false) : Calls Try.prog 60 #[.int .i64 l] w (Still (.tuple #[.int .i64 (l / 2), .bool (evB l), .int .i64 0]) w) := by
  have h := limSplit_any l w hl
  rwa [show spC l = l / 2 by simp [spC, hv, hn], show spS l = evB l by simp [spS, hv, hn], show spE l = 0 by simp [spE, hv, hn]] at h

theorem limSplit_bad {l : Int} (w : World) (hl : I64 l) (hv : lvB l = false) : Calls Try.prog 60 #[.int .i64 l] w (Still (.tuple #[.int .i64 0, .bool false, .int .i64 2]) w) := by
  have h := limSplit_any l w hl
  rwa [show spC l = 0 by simp [spC, hv], show spS l = false by simp [spS, hv], show spE l = 2 by simp [spE, hv]] at h
end Go.Proofs.Ytgdcclldgfcilaa

namespace Go.Proofs.Ytgdcclldgfcilaa.Zo

/-- A limit as a number: 2 c + 1 is weak, 2 c strict; none is no limit. -/
abbrev Lm := Option Int

def le : Lm → Lm → Prop
  | _, none => True
  | none, some _ => False
  | some a, some b => a ≤ b

/-- The sum of two limits. -/
def ps (a b : Int) : Int := if a % 2 = 0 ∧ b % 2 = 0 then a + b else a + b - 1

def add : Lm → Lm → Lm
  | some a, some b => some (ps a b)
  | _, _ => none

def mn : Lm → Lm → Lm
  | some a, some b => some (min a b)
  | some a, none => some a
  | none, b => b

theorem ps_comm (a b : Int) : ps a b = ps b a := by unfold ps; split <;> split <;> omega

theorem ps_assoc (a b c : Int) : ps (ps a b) c = ps a (ps b c) := by
  unfold ps
  by_cases ha : a % 2 = 0 <;> by_cases hb : b % 2 = 0 <;> by_cases hc : c % 2 = 0
  all_goals (repeat' split) <;> omega

theorem ps_mono {a a' b b' : Int} (h : a ≤ a') (k : b ≤ b') : ps a b ≤ ps a' b' := by
  unfold ps; split <;> split <;> omega

theorem ps_one (a : Int) : ps a 1 = a := by unfold ps; split <;> omega

theorem one_ps (a : Int) : ps 1 a = a := by rw [ps_comm]; exact ps_one a

theorem le_refl (a : Lm) : le a a := by cases a <;> simp [le]

theorem le_trans {a b c : Lm} (h : le a b) (k : le b c) : le a c := by
  cases a <;> cases b <;> cases c <;> simp_all [le]; omega

theorem le_antisymm {a b : Lm} (h : le a b) (k : le b a) : a = b := by
  cases a <;> cases b <;> simp_all [le]; omega

theorem le_none (a : Lm) : le a none := by cases a <;> simp [le]

theorem mn_left (a b : Lm) : le (mn a b) a := by cases a <;> cases b <;> simp [le, mn]; omega

theorem mn_right (a b : Lm) : le (mn a b) b := by cases a <;> cases b <;> simp [le, mn]; omega

theorem le_mn {a b c : Lm} (h : le a b) (k : le a c) : le a (mn b c) := by
  cases a <;> cases b <;> cases c <;> simp_all [le, mn]; omega

theorem mn_cases (a b : Lm) : mn a b = a ∨ mn a b = b := by
  cases a <;> cases b <;> simp [mn]; omega

theorem mn_eq_left {a b : Lm} (h : le a b) : mn a b = a := le_antisymm (mn_left a b) (le_mn (le_refl a) h)

theorem add_comm (a b : Lm) : add a b = add b a := by cases a <;> cases b <;> simp [add, ps_comm]

theorem add_assoc (a b c : Lm) : add (add a b) c = add a (add b c) := by cases a <;> cases b <;> cases c <;> simp [add, ps_assoc]

theorem add_mono {a a' b b' : Lm} (h : le a a') (k : le b b') : le (add a b) (add a' b') := by
  cases a <;> cases a' <;> cases b <;> cases b' <;> simp_all [le, add]
  exact ps_mono h k

theorem add_one (a : Lm) : add a (some 1) = a := by cases a <;> simp [add, ps_one]

theorem one_add (a : Lm) : add (some 1) a = a := by rw [add_comm]; exact add_one a

/-- One round of the rule: paths through k. -/
def stp (k : Nat) (d : Nat → Nat → Lm) : Nat → Nat → Lm := fun i j => mn (d i j) (add (d i k) (d k j))

def fw (m : Nat → Nat → Lm) : Nat → Nat → Nat → Lm
  | 0 => m
  | k + 1 => stp k (fw m k)

theorem fw_le (m : Nat → Nat → Lm) (k i j : Nat) : le (fw m (k + 1) i j) (fw m k i j) := mn_left _ _

theorem fw_le_m (m : Nat → Nat → Lm) (k i j : Nat) : le (fw m k i j) (m i j) := by
  induction k with
  | zero => exact le_refl _
  | succ k ih => exact le_trans (fw_le m k i j) ih

/-- Where the diagonal stays at 'at most 0', the row and the column of k don't turn in its round. -/
theorem stp_row {k : Nat} {d : Nat → Nat → Lm} (h : d k k = some 1) (j : Nat) : stp k d k j = d k j := by
  unfold stp; rw [h, one_add]; exact mn_eq_left (le_refl _)

theorem stp_col {k : Nat} {d : Nat → Nat → Lm} (h : d k k = some 1) (i : Nat) : stp k d i k = d i k := by
  unfold stp; rw [h, add_one]; exact mn_eq_left (le_refl _)

/-- The inequality of triangles, through the first k. -/
def Tri (k : Nat) (d : Nat → Nat → Lm) : Prop := ∀ v, v < k → ∀ i j, le (d i j) (add (d i v) (d v j))

theorem tri_step {k : Nat} {d : Nat → Nat → Lm} (h : Tri k d) (hk : d k k = some 1) : Tri (k + 1) (stp k d) := by
  intro v hv i j
  by_cases e : v = k
  · subst e
    rw [stp_col hk i, stp_row hk j]
    exact mn_right _ _
  · have hv' : v < k := by omega
    have one : le (stp k d i j) (add (d i k) (d k j)) := mn_right _ _
    have old : le (stp k d i j) (d i j) := mn_left _ _
    rcases mn_cases (d i v) (add (d i k) (d k v)) with e1 | e1 <;> rcases mn_cases (d v j) (add (d v k) (d k j)) with e2 | e2
    · show le _ (add (mn _ _) (mn _ _)); rw [e1, e2]; exact le_trans old (h v hv' i j)
    · show le _ (add (mn _ _) (mn _ _)); rw [e1, e2, ← add_assoc]
      exact le_trans one (add_mono (h v hv' i k) (le_refl _))
    · show le _ (add (mn _ _) (mn _ _)); rw [e1, e2, add_assoc]
      exact le_trans one (add_mono (le_refl _) (h v hv' k j))
    · show le _ (add (mn _ _) (mn _ _)); rw [e1, e2, add_assoc, ← add_assoc (d k v)]
      refine le_trans one (add_mono (le_refl _) ?_)
      have t := h v hv' k k
      rw [hk] at t
      have := add_mono t (le_refl (d k j))
      rwa [one_add] at this

theorem tri_fw {m : Nat → Nat → Lm} (K : Nat) (hd : ∀ k, k < K → fw m k k k = some 1) : Tri K (fw m K) := by
  induction K with
  | zero => intro v hv; omega
  | succ k ih => exact tri_step (ih fun j hj => hd j (by omega)) (hd k (by omega))

/-- What is below the matrix and keeps to the inequality is below each round. -/
theorem below_fw {m c : Nat → Nat → Lm} {K : Nat} (hc : Tri K c) (hm : ∀ i j, le (c i j) (m i j)) : ∀ k, k ≤ K → ∀ i j, le (c i j) (fw m k i j) := by
  intro k
  induction k with
  | zero => intro _ i j; exact hm i j
  | succ k ih =>
    intro hk i j
    exact le_mn (ih (by omega) i j) (le_trans (hc k (by omega) i j) (add_mono (ih (by omega) i k) (ih (by omega) k j)))

/-- A matrix that keeps to the inequality stays. -/
theorem fw_fix {m : Nat → Nat → Lm} {K : Nat} (h : Tri K m) : ∀ k, k ≤ K → fw m k = m := by
  intro k
  induction k with
  | zero => intro _; rfl
  | succ k ih =>
    intro hk
    show stp k (fw m k) = m
    rw [ih (by omega)]
    funext i j
    exact mn_eq_left (h k (by omega) i j)

/-- How many of the first k are in S. -/
def cnt (S : Nat → Bool) : Nat → Nat
  | 0 => 0
  | k + 1 => cnt S k + if S k then 1 else 0

theorem cnt_succ (S : Nat → Bool) (k : Nat) : cnt S (k + 1) = cnt S k + if S k then 1 else 0 := rfl

theorem cnt_le (S : Nat → Bool) (k : Nat) : cnt S k ≤ k := by
  induction k with
  | zero => simp [cnt]
  | succ k ih => unfold cnt; split <;> omega

theorem cnt_or {S T : Nat → Bool} (k : Nat) (h : ∀ v, v < k → ¬ (S v = true ∧ T v = true)) : cnt (fun v => S v || T v) k = cnt S k + cnt T k := by
  induction k with
  | zero => simp [cnt]
  | succ k ih =>
    unfold cnt
    rw [ih fun v hv => h v (by omega)]
    have := h k (by omega)
    cases hs : S k <;> cases ht : T k <;> simp_all <;> omega

theorem cnt_congr {S T : Nat → Bool} (k : Nat) (h : ∀ v, v < k → S v = T v) : cnt S k = cnt T k := by
  induction k with
  | zero => rfl
  | succ k ih => unfold cnt; rw [ih fun v hv => h v (by omega), h k (by omega)]

def fin (a : Lm) : Prop := ∃ x, a = some x

theorem fin_step {k : Nat} {d : Nat → Nat → Lm} {i j : Nat} (h : fin (d i j)) : fin (stp k d i j) := by
  obtain ⟨x, hx⟩ := h
  unfold stp; rw [hx]
  cases add (d i k) (d k j) <;> simp [mn, fin]

theorem fin_through {k : Nat} {d : Nat → Nat → Lm} {i j : Nat} (h : fin (d i k)) (g : fin (d k j)) : fin (stp k d i j) := by
  obtain ⟨x, hx⟩ := h
  obtain ⟨y, hy⟩ := g
  unfold stp; rw [hx, hy]
  cases d i j <;> simp [mn, add, fin]

/-- Behind k rounds the finite entries can be joined at each of the first k. -/
theorem fin_tri {m : Nat → Nat → Lm} (K : Nat) (hd : ∀ k, k < K → fw m k k k = some 1) : ∀ v, v < K → ∀ i j, fin (fw m K i v) → fin (fw m K v j) → fin (fw m K i j) := by
  intro v hv i j h g
  obtain ⟨x, hx⟩ := h
  obtain ⟨y, hy⟩ := g
  have t := tri_fw K hd v hv i j
  rw [hx, hy] at t
  cases e : fw m K i j
  · rw [e] at t; simp [le, add] at t
  · exact ⟨_, rfl⟩

/-- A finite entry is at most as many times U as a path without a repeated clock has edges. -/
theorem fw_bound {m : Nat → Nat → Lm} {U : Int} (hm : ∀ i j x, m i j = some x → x ≤ U) (K : Nat) (hd : ∀ k, k < K → fw m k k k = some 1) :
    ∀ i j x, fw m K i j = some x → ∃ S : Nat → Bool, (∀ v, S v = true → v < K ∧ fin (fw m K i v) ∧ fin (fw m K v j)) ∧ x ≤ U * (cnt S K + 1 : Int) := by
  induction K with
  | zero =>
    intro i j x h
    refine ⟨fun _ => false, by simp, ?_⟩
    have := hm i j x h
    simpa [cnt] using this
  | succ k ih =>
    have ih := ih fun j hj => hd j (by omega)
    have hk := hd k (by omega)
    intro i j x h
    cases ho : fw m k i j with
    | some y =>
      obtain ⟨S, hS, hx⟩ := ih i j y ho
      refine ⟨fun v => S v && decide (v < k), ?_, ?_⟩
      · intro v hv
        simp at hv
        obtain ⟨a, b, c⟩ := hS v hv.1
        exact ⟨by omega, fin_step b, fin_step c⟩
      · have hle : x ≤ y := by
          have := fw_le m k i j
          rw [h, ho] at this; exact this
        have e : cnt (fun v => S v && decide (v < k)) (k + 1) = cnt S k := by
          rw [cnt_succ, cnt_congr (T := S) k fun v hv => by simp [hv]]
          simp
        rw [e]; omega
    | none =>
      have h' : mn (fw m k i j) (add (fw m k i k) (fw m k k j)) = some x := h
      rw [ho] at h'
      cases h1 : fw m k i k with
      | none => rw [h1] at h'; simp [mn, add] at h'
      | some a =>
        cases h2 : fw m k k j with
        | none => rw [h1, h2] at h'; simp [mn, add] at h'
        | some b =>
          rw [h1, h2] at h'
          simp [mn, add] at h'
          obtain ⟨S, hS, hx⟩ := ih i k a h1
          obtain ⟨T, hT, hy⟩ := ih k j b h2
          have apart : ∀ v, v < k → ¬ (S v = true ∧ T v = true) := by
            intro v hv ⟨s, t⟩
            obtain ⟨_, f1, _⟩ := hS v s
            obtain ⟨_, _, f2⟩ := hT v t
            obtain ⟨z, hz⟩ := fin_tri k (fun j hj => hd j (by omega)) v hv i j f1 f2
            rw [ho] at hz; simp at hz
          refine ⟨fun v => if v < k then S v || T v else decide (v = k), ?_, ?_⟩
          · intro v hv
            by_cases hvk : v < k
            · simp [hvk] at hv
              refine ⟨by omega, ?_, ?_⟩
              · rcases hv with s | t
                · exact fin_step (hS v s).2.1
                · exact fin_through ⟨a, h1⟩ (hT v t).2.1
              · rcases hv with s | t
                · exact fin_through (hS v s).2.2 ⟨b, h2⟩
                · exact fin_step (hT v t).2.2
            · simp [hvk] at hv
              subst hv
              exact ⟨by omega, fin_step ⟨a, h1⟩, fin_step ⟨b, h2⟩⟩
          · have e : cnt (fun v => if v < k then S v || T v else decide (v = k)) (k + 1) = cnt S k + cnt T k + 1 := by
              rw [cnt_succ, cnt_congr (T := fun v => S v || T v) k fun v hv => by simp [hv], cnt_or k apart]
              simp
            have px : x ≤ a + b := by
              rw [← h']; unfold ps; split <;> omega
            rw [e]
            have e2 : U * ((cnt S k + cnt T k + 1 : Nat) + 1 : Int) = U * (cnt S k + 1 : Int) + U * (cnt T k + 1 : Int) := by
              rw [← Int.mul_add]; congr 1; omega
            rw [e2]; omega

theorem fw_low {m : Nat → Nat → Lm} {c : Int} (hc : 0 ≤ c) (hm : ∀ i j x, m i j = some x → -c + 1 ≤ x) (k : Nat) : ∀ i j x, fw m k i j = some x → -(c * 2 ^ k) + 1 ≤ x := by
  induction k with
  | zero => intro i j x h; have := hm i j x h; omega
  | succ k ih =>
    intro i j x h
    have e : c * (2 : Int) ^ (k + 1) = 2 * (c * 2 ^ k) := by rw [Int.pow_succ]; grind
    have h' : mn (fw m k i j) (add (fw m k i k) (fw m k k j)) = some x := h
    have c0 : -(c * (2 : Int) ^ k) + 1 ≤ x ∨ -(2 * (c * 2 ^ k)) + 1 ≤ x := by
      rcases mn_cases (fw m k i j) (add (fw m k i k) (fw m k k j)) with g | g
      · left; rw [g] at h'; exact ih i j x h'
      · right
        rw [g] at h'
        cases h1 : fw m k i k with
        | none => rw [h1] at h'; simp [add] at h'
        | some a =>
          cases h2 : fw m k k j with
          | none => rw [h1, h2] at h'; simp [add] at h'
          | some b =>
            rw [h1, h2] at h'
            simp [add] at h'
            have := ih i k a h1
            have := ih k j b h2
            rw [← h']; unfold ps; split <;> omega
    rw [e]
    have p : 0 ≤ c * (2 : Int) ^ k := Int.mul_nonneg hc (Int.le_of_lt (Int.pow_pos (by omega)))
    omega
end Go.Proofs.Ytgdcclldgfcilaa.Zo

namespace Go.Proofs.Ytgdcclldgfcilaa.Zo

def noL : Int := 1099511627776

/-- A sum of limits as the code computes it, in 64 bits. -/
def w64 (x : Int) : Int := (x + 9223372036854775808) % 18446744073709551616 - 9223372036854775808

theorem w64_in {x : Int} (h1 : -9223372036854775808 ≤ x) (h2 : x ≤ 9223372036854775807) : w64 x = x := by unfold w64; omega

def smW (a b : Int) : Int := if a = 1099511627776 ∨ b = 1099511627776 then 1099511627776 else if a % 2 = 0 ∧ b % 2 = 0 then w64 (a + b) else w64 (w64 (a + b) - 1)

def gt (l : List Int) (k : Nat) : Int := l.getD k 0

def ix (n i j : Nat) : Nat := i * (n + 1) + j

def At (n : Nat) (l : List Int) (i j : Nat) : Int := gt l (ix n i j)

theorem ix_lt {n i j : Nat} (hi : i ≤ n) (hj : j ≤ n) : ix n i j < (n + 1) * (n + 1) := by
  unfold ix
  have : i * (n + 1) ≤ n * (n + 1) := Nat.mul_le_mul_right _ hi
  have e : (n + 1) * (n + 1) = n * (n + 1) + (n + 1) := Nat.succ_mul _ _
  omega

theorem ix_inj {n i j a b : Nat} (hj : j ≤ n) (hb : b ≤ n) (h : ix n i j = ix n a b) : i = a ∧ j = b := by
  unfold ix at h
  have h1 : (i * (n + 1) + j) / (n + 1) = i := by
    rw [Nat.mul_comm, Nat.mul_add_div (by omega), Nat.div_eq_of_lt (by omega)]; rfl
  have h2 : (a * (n + 1) + b) / (n + 1) = a := by
    rw [Nat.mul_comm, Nat.mul_add_div (by omega), Nat.div_eq_of_lt (by omega)]; rfl
  have : i = a := by rw [← h1, ← h2, h]
  subst this
  exact ⟨rfl, by omega⟩

theorem gt_set {l : List Int} {k : Nat} (x : Int) (hk : k < l.length) (j : Nat) : gt (l.set k x) j = if j = k then x else gt l j := by
  unfold gt
  by_cases e : j = k
  · subst e; simp [hk]
  · simp [e, Ne.symm e]

theorem At_set {n : Nat} {l : List Int} (hl : l.length = (n + 1) * (n + 1)) {i j : Nat} (hi : i ≤ n) (hj : j ≤ n) (x : Int) {a b : Nat} (hb : b ≤ n) :
    At n (l.set (ix n i j) x) a b = if a = i ∧ b = j then x else At n l a b := by
  unfold At
  rw [gt_set x (by rw [hl]; exact ix_lt hi hj)]
  by_cases e : a = i ∧ b = j
  · rw [if_pos e, if_pos (by rw [e.1, e.2])]
  · rw [if_neg e, if_neg fun h => e (ix_inj hb hj h)]

/-- The code's steps: the first row and the diagonal are at most 'at most 0'; then a path through k. -/
def st1 (n : Nat) (l : List Int) (j : Nat) : List Int :=
  let l1 := l.set (ix n 0 j) (min (At n l 0 j) 1)
  l1.set (ix n j j) (min (At n l1 j j) 1)

def rlx (n k i : Nat) (l : List Int) (j : Nat) : List Int := l.set (ix n i j) (min (At n l i j) (smW (At n l i k) (At n l k j)))

def rlxJ (n k : Nat) (l : List Int) (i : Nat) : List Int := (List.range (n + 1)).foldl (rlx n k i) l

def rlxI (n : Nat) (l : List Int) (k : Nat) : List Int := (List.range (n + 1)).foldl (rlxJ n k) l

def pre (n : Nat) (l : List Int) : List Int := (List.range (n + 1)).foldl (st1 n) l

def clo (n : Nat) (l : List Int) : List Int := (List.range (n + 1)).foldl (rlxI n) (pre n l)

theorem fold_succ {α : Type} (f : α → Nat → α) (a : α) (t : Nat) : (List.range (t + 1)).foldl f a = f ((List.range t).foldl f a) t := by
  rw [List.range_succ, List.foldl_append]; rfl

/-- What each step keeps, a fold keeps. -/
theorem fold_keeps {α : Type} {f : α → Nat → α} {R : α → Prop} (N : Nat) (h : ∀ a t, t < N → R a → R (f a t)) (a : α) (ha : R a) : ∀ t, t ≤ N → R ((List.range t).foldl f a) := by
  intro t
  induction t with
  | zero => intro _; exact ha
  | succ t ih => intro ht; rw [fold_succ]; exact h _ _ (by omega) (ih (by omega))

/-- A property of matrices that a step at one place keeps is kept by the whole. -/
theorem clo_keeps {n : Nat} {R : List Int → Prop} (h1 : ∀ l i j, (i = 0 ∨ i = j) → i ≤ n → j ≤ n → R l → R (l.set (ix n i j) (min (At n l i j) 1)))
    (h2 : ∀ l k i j, k ≤ n → i ≤ n → j ≤ n → R l → R (rlx n k i l j)) {l : List Int} (h : R l) : R (clo n l) := by
  unfold clo pre
  refine fold_keeps (n + 1) (fun a k hk ha => ?_) _ (fold_keeps (n + 1) (fun a j hj ha => ?_) l h _ (Nat.le_refl _)) _ (Nat.le_refl _)
  · refine fold_keeps (n + 1) (fun a i hi ha => ?_) _ ha _ (Nat.le_refl _)
    exact fold_keeps (n + 1) (fun a j hj ha => h2 a k i j (by omega) (by omega) (by omega) ha) _ ha _ (Nat.le_refl _)
  · unfold st1
    exact h1 _ j j (Or.inr rfl) (by omega) (by omega) (h1 a 0 j (Or.inl rfl) (by omega) (by omega) ha)

theorem clo_length (n : Nat) (l : List Int) : (clo n l).length = l.length :=
  clo_keeps (R := fun x => x.length = l.length) (fun _ _ _ _ _ _ h => by simpa using h) (fun _ _ _ _ _ _ _ h => by simpa [rlx] using h) rfl

/-- Elements only become less. -/
theorem set_le {n : Nat} {l : List Int} (hl : l.length = (n + 1) * (n + 1)) {i j : Nat} (hi : i ≤ n) (hj : j ≤ n) (y : Int) {a b : Nat} (hb : b ≤ n) : At n (l.set (ix n i j) (min (At n l i j) y)) a b ≤ At n l a b := by
  rw [At_set hl hi hj _ hb]
  split
  · rename_i e; rw [e.1, e.2]; exact Int.min_le_left _ _
  · exact Int.le_refl _
end Go.Proofs.Ytgdcclldgfcilaa.Zo

namespace Go.Proofs.Ytgdcclldgfcilaa
open Go.RowKit

/-- A row of integers that can be read at a. -/
def Rd (w : World) (a : Addr) (l : List Int) : Prop := ∀ j, j < l.length → w.cell? (a.add j) = some (.int .i64 (Zo.gt l j))

set_option maxHeartbeats 400000 in
theorem at_any (n i j : Nat) (l : List Int) (a : Addr) (cap : Nat) (w : World) (hn : n ≤ 10) (hi : i ≤ n) (hj : j ≤ n) (hl : l.length = (n + 1) * (n + 1)) (h : Rd w a l) :
    Calls Try.prog 18 #[.agg #[.int .i64 n, .slice (some a) l.length cap], .int .i64 i, .int .i64 j] w (Made (.int .i64 (Zo.At n l i j)) w) := by
  have t1 := Zo.ix_lt hi hj
  have t2 : (i : Int) * ((n : Int) + 1) + (j : Int) < (l.length : Int) := by rw [hl]; exact_mod_cast t1
  have t3 : (i : Int) * ((n : Int) + 1) ≤ 110 ∧ 0 ≤ (i : Int) * ((n : Int) + 1) := by
    have : i * (n + 1) ≤ 10 * 11 := Nat.mul_le_mul (by omega) (by omega)
    constructor
    · exact_mod_cast this
    · exact_mod_cast Nat.zero_le _
  have hc : ∀ o : Obj, (w.alloc o).cell? (a.add (i * (n + 1) + j)) = some (.int .i64 (Zo.At n l i j)) := fun o => kept (one_more o) (h _ (by rw [hl]; exact t1))
  clear h t1 hl
  go_enter Try.func18, Try.ntmps18
  go_wp2_with fail
  go_ret
  exact ⟨rfl, one_more _⟩

/-- A row of limits of the call's own: it may be written. -/
def Own (w : World) (g cap : Nat) (l : List Int) : Prop := w.ownsRow 0 39 1 (.slice (some ⟨g, 0, none⟩) l.length cap) l.length (l.map (Value.int .i64))

theorem addr_add (g j : Nat) : (⟨g, 0, none⟩ : Addr).add j = ⟨g, j, none⟩ := by
  unfold Addr.add; split <;> simp_all

theorem Own.rd {w : World} {g cap : Nat} {l : List Int} (h : Own w g cap l) : Rd w ⟨g, 0, none⟩ l := by
  intro j hj
  have := World.ownsRow.cellAt h j (by simpa using hj)
  rw [addr_add, this]; simp [Zo.gt, hj]

theorem Own.lt {w : World} {g cap : Nat} {l : List Int} (h : Own w g cap l) : g < w.heap.size := (World.ownsRow.lt h g rfl).2

theorem Own.kept {w w' : World} {g cap : Nat} {l : List Int} {row : Option Nat} (h : Own w g cap l) (hg : w.grownBy w' row) (hne : some g ≠ row) : Own w' g cap l := World.ownsRow.kept h hg (Or.inr hne)

theorem Own.alloc {w : World} {g cap : Nat} {l : List Int} (h : Own w g cap l) (o : Obj) : Own (w.alloc o) g cap l := World.ownsRow.alloc h o

theorem Own.put {w : World} {g cap : Nat} {l : List Int} (h : Own w g cap l) (j : Nat) (x : Int) : Own (w.setCell ⟨g, j, none⟩ (.int .i64 x)) g cap (l.set j x) ∧ w.grownBy (w.setCell ⟨g, j, none⟩ (.int .i64 x)) (some g) := by
  obtain ⟨h1, h2⟩ := World.ownsRow.stored h j (.int .i64 x)
  refine ⟨?_, h2⟩
  unfold Own
  rw [List.length_set, List.map_set]
  exact h1

theorem grown_trans {w w1 w2 : World} {r : Option Nat} (h : w.grownBy w1 r) (k : w1.grownBy w2 r) : w.grownBy w2 r :=
  ⟨k.os.trans h.os, k.tape.trans h.tape, k.output.trans h.output, Nat.le_trans h.size k.size, fun b hb hne => (k.block b (Nat.lt_of_lt_of_le hb h.size) hne).trans (h.block b hb hne)⟩

set_option maxHeartbeats 400000 in
theorem set_any (n i j : Nat) (x : Int) (l : List Int) (g cap : Nat) (w : World) (hn : n ≤ 10) (hi : i ≤ n) (hj : j ≤ n) (hl : l.length = (n + 1) * (n + 1)) (h : Own w g cap l) :
    Calls Try.prog 25 #[.agg #[.int .i64 n, .slice (some ⟨g, 0, none⟩) l.length cap], .int .i64 i, .int .i64 j, .int .i64 x] w
      (fun e w' => e = .returned (.tuple #[]) ∧ w.grownBy w' (some g) ∧ Own w' g cap (l.set (Zo.ix n i j) x)) := by
  have t1 := Zo.ix_lt hi hj
  have t2 : (i : Int) * ((n : Int) + 1) + (j : Int) < (l.length : Int) := by rw [hl]; exact_mod_cast t1
  have t3 : (i : Int) * ((n : Int) + 1) ≤ 110 ∧ 0 ≤ (i : Int) * ((n : Int) + 1) := by
    have : i * (n + 1) ≤ 10 * 11 := Nat.mul_le_mul (by omega) (by omega)
    constructor
    · exact_mod_cast this
    · exact_mod_cast Nat.zero_le _
  have hc : ∀ o : Obj, (w.alloc o).cell? ⟨g, i * (n + 1) + j, none⟩ = some (.int .i64 (Zo.At n l i j)) := fun o => by
    have := kept (one_more o) (h.rd (Zo.ix n i j) (by rw [hl]; exact t1))
    rwa [addr_add] at this
  have hz : ∀ o : Obj, (w.alloc o).frozen? ⟨g, i * (n + 1) + j, none⟩ = false := fun o => World.ownsRow.frozenAt (h.alloc o) _
  have HO := Lib.hid h
  clear h t1 hl
  go_enter Try.func25, Try.ntmps25
  go_wp2_with fail
  go_end0
  exact ⟨rfl, grown_trans (World.grownBy_alloc w _ _) ((HO.out.alloc _).put _ _).2, ((HO.out.alloc _).put _ _).1⟩

theorem w64_eq (x : Int) : wrap64 x = Zo.w64 x := by unfold wrap64 Zo.w64; omega

set_option maxHeartbeats 400000 in
theorem sum2_any (a b : Int) (w : World) : Calls Try.prog 39 #[.int .i64 a, .int .i64 b] w (Still (.int .i64 (Zo.smW a b)) w) := by
  by_cases na : a = 1099511627776
  · have A0 : (a == 1099511627776) = true := by simpa using na
    have H := Lib.hid (show Zo.smW a b = 1099511627776 by unfold Zo.smW; rw [if_pos (Or.inl na)])
    clear na
    go_enter Try.func39, Try.ntmps39
    go_wp2_with fail
    go_ret
    exact ⟨ret_int H.out.symm, rfl⟩
  have A0 : (a == 1099511627776) = false := by simpa using na
  by_cases nb : b = 1099511627776
  · have B0 : (b == 1099511627776) = true := by simpa using nb
    have H := Lib.hid (show Zo.smW a b = 1099511627776 by unfold Zo.smW; rw [if_pos (Or.inr nb)])
    clear na nb
    go_enter Try.func39, Try.ntmps39
    go_wp2_with fail
    go_ret
    exact ⟨ret_int H.out.symm, rfl⟩
  have B0 : (b == 1099511627776) = false := by simpa using nb
  have h0 : ¬ (a = 1099511627776 ∨ b = 1099511627776) := by omega
  have odd : ∀ x : Int, ¬ x % 2 = 0 → (x.tmod 2 != 0) = true := by
    intro x hx
    have := Int.mul_tdiv_add_tmod x 2
    simp; omega
  have ev : ∀ x : Int, x % 2 = 0 → (x.tmod 2 != 0) = false := by
    intro x hx
    obtain ⟨k, rfl⟩ : ∃ k, x = 2 * k := ⟨x / 2, by omega⟩
    rw [Int.mul_tmod_right]; rfl
  by_cases ea : a % 2 = 0
  · have MA := ev a ea
    by_cases eb : b % 2 = 0
    · have MB := ev b eb
      have H := Lib.hid (show Zo.smW a b = Zo.w64 (a + b) by unfold Zo.smW; rw [if_neg h0, if_pos ⟨ea, eb⟩])
      clear na nb ea eb odd ev h0
      go_enter Try.func39, Try.ntmps39
      go_wp2_with fail
      go_ret
      exact ⟨ret_int (by rw [H.out, ← w64_eq]), rfl⟩
    · have MB := odd b eb
      have H := Lib.hid (show Zo.smW a b = Zo.w64 (Zo.w64 (a + b) - 1) by unfold Zo.smW; rw [if_neg h0, if_neg (by omega)])
      clear na nb ea eb odd ev h0
      go_enter Try.func39, Try.ntmps39
      go_wp2_with fail
      go_ret
      exact ⟨ret_int (by rw [H.out, ← w64_eq, ← w64_eq]), rfl⟩
  · have MA := odd a ea
    have H := Lib.hid (show Zo.smW a b = Zo.w64 (Zo.w64 (a + b) - 1) by unfold Zo.smW; rw [if_neg h0, if_neg (by omega)])
    clear na nb ea odd ev h0
    go_enter Try.func39, Try.ntmps39
    go_wp2_with fail
    go_ret
    exact ⟨ret_int (by rw [H.out, ← w64_eq, ← w64_eq]), rfl⟩

def dimB (n : Int) : Bool := decide (0 ≤ n ∧ n ≤ 10)

set_option maxHeartbeats 400000 in
theorem dimension_any (n : Int) (w : World) : Calls Try.prog 38 #[.int .i64 n] w (Still (.bool (dimB n)) w) := by
  by_cases h : 0 ≤ n
  · by_cases g : n ≤ 10
    · have H := Lib.hid (show dimB n = true by unfold dimB; simp; omega)
      go_enter Try.func38, Try.ntmps38
      go_wp2_with fail
      go_ret
      exact ⟨ret_bool H.out.symm, rfl⟩
    · have H := Lib.hid (show dimB n = false by unfold dimB; simp; omega)
      have D : decide (n ≤ (10 : Int)) = false := by simp; omega
      go_enter Try.func38, Try.ntmps38
      go_wp2_with fail
      go_ret
      exact ⟨ret_bool H.out.symm, rfl⟩
  · have H := Lib.hid (show dimB n = false by unfold dimB; simp; omega)
    have D : decide ((0 : Int) ≤ n) = false := by simp; omega
    go_enter Try.func38, Try.ntmps38
    go_wp2_with fail
    go_ret
    exact ⟨ret_bool H.out.symm, rfl⟩
end Go.Proofs.Ytgdcclldgfcilaa

namespace Go.Proofs.Ytgdcclldgfcilaa.Zo

def enc : Lm → Int
  | none => 1099511627776
  | some x => x

def dec (x : Int) : Lm := if x = 1099511627776 then none else some x

theorem enc_dec (x : Int) : enc (dec x) = x := by unfold dec; split <;> simp_all [enc]

def Bd (D : Nat → Nat → Lm) : Prop := ∀ i j x, D i j = some x → -1125899906842624 ≤ x ∧ x ≤ 274877906944

theorem enc_step {a b c : Lm} (ha : ∀ x, a = some x → x ≤ 274877906944) (hb : ∀ x, b = some x → -1125899906842624 ≤ x ∧ x ≤ 274877906944) (hc : ∀ x, c = some x → -1125899906842624 ≤ x ∧ x ≤ 274877906944) :
    min (enc a) (smW (enc b) (enc c)) = enc (mn a (add b c)) := by
  cases b with
  | none =>
    cases a with
    | none => simp [enc, smW, mn, add]
    | some x => have := ha x rfl; simp [enc, smW, mn, add]; omega
  | some y =>
    have y1 := hb y rfl
    cases c with
    | none =>
      cases a with
      | none => simp [enc, smW, mn, add]
      | some x => have := ha x rfl; simp [enc, smW, mn, add]; omega
    | some z =>
      have z1 := hc z rfl
      have e : smW y z = ps y z := by
        unfold smW ps
        rw [if_neg (by omega)]
        split
        · exact w64_in (by omega) (by omega)
        · rw [w64_in (x := y + z) (by omega) (by omega)]; exact w64_in (by omega) (by omega)
      have p : ps y z ≤ 549755813888 := by unfold ps; split <;> omega
      cases a with
      | none => simp [enc, mn, add, e]; omega
      | some x => simp [enc, mn, add, e]

/-- The list holds the matrix. -/
def Rep (n : Nat) (l : List Int) (D : Nat → Nat → Lm) : Prop := l.length = (n + 1) * (n + 1) ∧ ∀ a b, a ≤ n → b ≤ n → At n l a b = enc (D a b)

def Mix (n k : Nat) (D : Nat → Nat → Lm) (i j : Nat) (l : List Int) : Prop :=
  l.length = (n + 1) * (n + 1) ∧ ∀ a b, a ≤ n → b ≤ n → At n l a b = enc (if a < i ∨ (a = i ∧ b < j) then stp k D a b else D a b)

theorem mix_step {n k : Nat} {D : Nat → Nat → Lm} (hB : Bd D) (hk : D k k = some 1) (hkn : k ≤ n) {i j : Nat} (hi : i ≤ n) (hj : j ≤ n) {l : List Int} (h : Mix n k D i j l) : Mix n k D i (j + 1) (rlx n k i l j) := by
  refine ⟨by simpa [rlx] using h.1, fun a b ha hb => ?_⟩
  unfold rlx
  rw [At_set h.1 hi hj _ hb]
  by_cases e : a = i ∧ b = j
  · obtain ⟨rfl, rfl⟩ := e
    rw [if_pos ⟨rfl, rfl⟩, if_pos (Or.inr ⟨rfl, by omega⟩)]
    have e1 : At n l a b = enc (D a b) := by rw [h.2 a b ha hb, if_neg (by omega)]
    have e2 : At n l a k = enc (D a k) := by
      rw [h.2 a k ha hkn]; split
      · rw [stp_col hk]
      · rfl
    have e3 : At n l k b = enc (D k b) := by
      rw [h.2 k b hkn hb]; split
      · rw [stp_row hk]
      · rfl
    rw [e1, e2, e3]
    exact enc_step (fun x hx => (hB _ _ x hx).2) (fun x hx => hB _ _ x hx) (fun x hx => hB _ _ x hx)
  · rw [if_neg e, h.2 a b ha hb]
    by_cases c : a < i ∨ (a = i ∧ b < j)
    · rw [if_pos c, if_pos (by omega)]
    · rw [if_neg c, if_neg (by omega)]

theorem mix_row {n k : Nat} {D : Nat → Nat → Lm} {i : Nat} {l : List Int} (h : Mix n k D i (n + 1) l) : Mix n k D (i + 1) 0 l := by
  refine ⟨h.1, fun a b ha hb => ?_⟩
  rw [h.2 a b ha hb]
  by_cases c : a < i ∨ (a = i ∧ b < n + 1)
  · rw [if_pos c, if_pos (by omega)]
  · rw [if_neg c, if_neg (by omega)]

theorem fold_goes {α : Type} {f : α → Nat → α} {R : Nat → α → Prop} (N : Nat) (h : ∀ a t, t < N → R t a → R (t + 1) (f a t)) (a : α) (ha : R 0 a) : ∀ t, t ≤ N → R t ((List.range t).foldl f a) := by
  intro t
  induction t with
  | zero => intro _; exact ha
  | succ t ih => intro ht; rw [fold_succ]; exact h _ _ (by omega) (ih (by omega))

theorem round_rep {n k : Nat} {D : Nat → Nat → Lm} {l : List Int} (hB : Bd D) (hk : D k k = some 1) (hkn : k ≤ n) (h : Rep n l D) : Rep n (rlxI n l k) (stp k D) := by
  have h0 : Mix n k D 0 0 l := ⟨h.1, fun a b ha hb => by rw [if_neg (by omega)]; exact h.2 a b ha hb⟩
  have h1 : Mix n k D (n + 1) 0 (rlxI n l k) := by
    unfold rlxI
    refine fold_goes (R := fun t l => Mix n k D t 0 l) (n + 1) (fun a i hi ha => ?_) l h0 _ (Nat.le_refl _)
    refine mix_row ?_
    unfold rlxJ
    exact fold_goes (R := fun t l => Mix n k D i t l) (n + 1) (fun a j hj ha => mix_step hB hk hkn (by omega) (by omega) ha) a ha _ (Nat.le_refl _)
  refine ⟨h1.1, fun a b ha hb => ?_⟩
  rw [h1.2 a b ha hb, if_pos (by omega)]

/-- Rounds, one behind the other. -/
def rnd (n : Nat) (l : List Int) (t : Nat) : List Int := (List.range t).foldl (rlxI n) (pre n l)

theorem rlxI_keeps {n k : Nat} {R : List Int → Prop} (h : ∀ l i j, i ≤ n → j ≤ n → R l → R (rlx n k i l j)) {l : List Int} (hl : R l) : R (rlxI n l k) := by
  unfold rlxI
  refine fold_keeps (n + 1) (fun a i hi ha => ?_) _ hl _ (Nat.le_refl _)
  exact fold_keeps (n + 1) (fun a j hj ha => h a i j (by omega) (by omega) ha) _ ha _ (Nat.le_refl _)

theorem pre_keeps {n : Nat} {R : List Int → Prop} (h1 : ∀ l i j, (i = 0 ∨ i = j) → i ≤ n → j ≤ n → R l → R (l.set (ix n i j) (min (At n l i j) 1))) {l : List Int} (h : R l) : R (pre n l) := by
  unfold pre
  refine fold_keeps (n + 1) (fun a j hj ha => ?_) l h _ (Nat.le_refl _)
  unfold st1
  exact h1 _ j j (Or.inr rfl) (by omega) (by omega) (h1 a 0 j (Or.inl rfl) (by omega) (by omega) ha)

theorem rnd_length {n : Nat} {l : List Int} (hl : l.length = (n + 1) * (n + 1)) : ∀ t, t ≤ n + 1 → (rnd n l t).length = (n + 1) * (n + 1) := by
  refine fun t ht => fold_keeps (R := fun x : List Int => x.length = (n + 1) * (n + 1)) (n + 1) (fun a k hk ha => ?_) _ ?_ t ht
  · exact rlxI_keeps (R := fun x : List Int => x.length = (n + 1) * (n + 1)) (fun l i j _ _ h => by simpa [rlx] using h) ha
  · exact pre_keeps (R := fun x : List Int => x.length = (n + 1) * (n + 1)) (fun l i j _ _ _ h => by simpa using h) hl

theorem rnd_succ (n : Nat) (l : List Int) (t : Nat) : rnd n l (t + 1) = rlxI n (rnd n l t) t := fold_succ _ _ _

theorem rnd_le {n : Nat} {l : List Int} (hl : l.length = (n + 1) * (n + 1)) (t : Nat) : ∀ s, t + s ≤ n + 1 → ∀ a b, a ≤ n → b ≤ n → At n (rnd n l (t + s)) a b ≤ At n (rnd n l t) a b := by
  intro s
  induction s with
  | zero => intro _ a b _ _; exact Int.le_refl _
  | succ s ih =>
    intro hs a b ha hb
    refine Int.le_trans ?_ (ih (by omega) a b ha hb)
    rw [show t + (s + 1) = (t + s) + 1 by omega, rnd_succ]
    have h0 := rnd_length hl (t + s) (by omega)
    generalize rnd n l (t + s) = x at h0 ⊢
    exact (rlxI_keeps (R := fun y : List Int => y.length = (n + 1) * (n + 1) ∧ At n y a b ≤ At n x a b)
      (fun y i j hi hj hy => ⟨by simpa [rlx] using hy.1, Int.le_trans (set_le hy.1 hi hj _ hb) hy.2⟩) ⟨h0, Int.le_refl _⟩).2

/-- Behind the first step the diagonal and the first row are at most 'at most 0'. -/
theorem pre_low {n : Nat} {l : List Int} (hl : l.length = (n + 1) * (n + 1)) : ∀ j, j ≤ n → At n (pre n l) j j ≤ 1 ∧ At n (pre n l) 0 j ≤ 1 := by
  have h : ∀ t, t ≤ n + 1 → ((List.range t).foldl (st1 n) l).length = (n + 1) * (n + 1) ∧ ∀ j, j < t → At n ((List.range t).foldl (st1 n) l) j j ≤ 1 ∧ At n ((List.range t).foldl (st1 n) l) 0 j ≤ 1 := by
    refine fold_goes (R := fun t (x : List Int) => x.length = (n + 1) * (n + 1) ∧ ∀ j, j < t → At n x j j ≤ 1 ∧ At n x 0 j ≤ 1) (n + 1) (fun x t ht hx => ?_) l ⟨hl, fun j hj => by omega⟩
    have l1 : (x.set (ix n 0 t) (min (At n x 0 t) 1)).length = (n + 1) * (n + 1) := by simpa using hx.1
    refine ⟨by simpa [st1] using hx.1, fun j hj => ?_⟩
    have s1 : ∀ a b, b ≤ n → At n (st1 n x t) a b ≤ At n (x.set (ix n 0 t) (min (At n x 0 t) 1)) a b := fun a b hb => set_le l1 (by omega) (by omega) 1 hb
    have s2 : ∀ a b, b ≤ n → At n (x.set (ix n 0 t) (min (At n x 0 t) 1)) a b ≤ At n x a b := fun a b hb => set_le hx.1 (by omega) (by omega) 1 hb
    by_cases e : j = t
    · subst e
      constructor
      · show At n (List.set _ (ix n j j) _) j j ≤ 1
        rw [At_set l1 (by omega) (by omega) _ (by omega), if_pos ⟨rfl, rfl⟩]
        exact Int.min_le_right _ _
      · refine Int.le_trans (s1 0 j (by omega)) ?_
        rw [At_set hx.1 (by omega) (by omega) _ (by omega), if_pos ⟨rfl, rfl⟩]
        exact Int.min_le_right _ _
    · obtain ⟨h1, h2⟩ := hx.2 j (by omega)
      exact ⟨Int.le_trans (s1 j j (by omega)) (Int.le_trans (s2 j j (by omega)) h1), Int.le_trans (s1 0 j (by omega)) (Int.le_trans (s2 0 j (by omega)) h2)⟩
  intro j hj
  exact (h (n + 1) (Nat.le_refl _)).2 j (by omega)

/-- A valid limit. -/
def Vl (x : Int) : Prop := x = 1099511627776 ∨ (-2147483648 ≤ x ∧ x ≤ 2147483649)

theorem pre_valid {n : Nat} {l : List Int} (hl : l.length = (n + 1) * (n + 1)) (hv : ∀ a b, a ≤ n → b ≤ n → Vl (At n l a b)) : ∀ a b, a ≤ n → b ≤ n → Vl (At n (pre n l) a b) := by
  refine (pre_keeps (R := fun x : List Int => x.length = (n + 1) * (n + 1) ∧ ∀ a b, a ≤ n → b ≤ n → Vl (At n x a b)) (fun x i j _ hi hj hx => ⟨by simpa using hx.1, fun a b ha hb => ?_⟩) ⟨hl, hv⟩).2
  rw [At_set hx.1 hi hj _ hb]
  split
  · have := hx.2 i j hi hj
    unfold Vl at this ⊢
    omega
  · exact hx.2 a b ha hb

/-- The matrix of limits that the rounds begin with. -/
def mat (n : Nat) (l : List Int) : Nat → Nat → Lm := fun i j => if i ≤ n ∧ j ≤ n then dec (At n (pre n l) i j) else none

theorem clo_rep {n : Nat} {l : List Int} (hn : n ≤ 10) (hl : l.length = (n + 1) * (n + 1)) (hv : ∀ a b, a ≤ n → b ≤ n → Vl (At n l a b)) (hd : ∀ i, i ≤ n → 1 ≤ At n (clo n l) i i) :
    ∀ t, t ≤ n + 1 → Rep n (rnd n l t) (fw (mat n l) t) ∧ ∀ k, k < t → fw (mat n l) k k k = some 1 := by
  have pv := pre_valid hl hv
  have hm : ∀ i j x, mat n l i j = some x → x ≤ 2147483649 ∧ -2147483649 + 1 ≤ x := by
    intro i j x h
    unfold mat at h
    split at h
    · rename_i c
      have := pv i j c.1 c.2
      unfold dec at h
      unfold Vl at this
      split at h
      · simp at h
      · simp at h; omega
    · simp at h
  have dg : ∀ t, t ≤ n + 1 → ∀ i, i ≤ n → At n (rnd n l t) i i = 1 := by
    intro t ht i hi
    have h1 := rnd_le hl t (n + 1 - t) (by omega) i i hi hi
    rw [show t + (n + 1 - t) = n + 1 by omega] at h1
    have h2 := rnd_le hl 0 t (by omega) i i hi hi
    have h3 := (pre_low hl i hi).1
    have h4 := hd i hi
    have e : rnd n l (n + 1) = clo n l := rfl
    have e0 : rnd n l 0 = pre n l := rfl
    rw [e] at h1
    rw [e0, Nat.zero_add] at h2
    omega
  intro t
  induction t with
  | zero =>
    intro _
    refine ⟨⟨rnd_length hl 0 (by omega), fun a b ha hb => ?_⟩, fun k hk => by omega⟩
    show At n (pre n l) a b = enc (mat n l a b)
    unfold mat
    rw [if_pos ⟨ha, hb⟩, enc_dec]
  | succ t ih =>
    intro ht
    obtain ⟨hr, hdg⟩ := ih (by omega)
    have htt : fw (mat n l) t t t = some 1 := by
      have h1 := hr.2 t t (by omega) (by omega)
      rw [dg t (by omega) t (by omega)] at h1
      cases e : fw (mat n l) t t t with
      | none => rw [e] at h1; simp [enc] at h1
      | some x => rw [e] at h1; simp [enc] at h1; rw [h1]
    have all : ∀ k, k < t + 1 → fw (mat n l) k k k = some 1 := by
      intro k hk
      by_cases e : k = t
      · rw [e]; exact htt
      · exact hdg k (by omega)
    have hB : Bd (fw (mat n l) t) := by
      intro i j x h
      constructor
      · have := fw_low (c := 2147483649) (by omega) (fun i j x h => (hm i j x h).2) t i j x h
        have p : (2 : Int) ^ t ≤ 2 ^ 11 := by
          have : (2 : Nat) ^ t ≤ 2 ^ 11 := Nat.pow_le_pow_right (by omega) (by omega)
          exact_mod_cast this
        omega
      · obtain ⟨S, _, hx⟩ := fw_bound (U := 2147483649) (fun i j x h => (hm i j x h).1) t hdg i j x h
        have := cnt_le S t
        omega
    refine ⟨?_, all⟩
    rw [rnd_succ]
    exact round_rep hB htt (by omega) hr

/-- Where the diagonal stays, what is closed keeps to the inequality of triangles. -/
theorem clo_tri {n : Nat} {l : List Int} (hn : n ≤ 10) (hl : l.length = (n + 1) * (n + 1)) (hv : ∀ a b, a ≤ n → b ≤ n → Vl (At n l a b)) (hd : ∀ i, i ≤ n → 1 ≤ At n (clo n l) i i) :
    Rep n (clo n l) (fw (mat n l) (n + 1)) ∧ Tri (n + 1) (fw (mat n l) (n + 1)) := by
  obtain ⟨hr, hdg⟩ := clo_rep hn hl hv hd (n + 1) (Nat.le_refl _)
  exact ⟨hr, tri_fw (n + 1) hdg⟩
end Go.Proofs.Ytgdcclldgfcilaa.Zo

namespace Go.Proofs.Ytgdcclldgfcilaa
open Go.RowKit

/-- The row at g has become l; else nothing from before has turned. -/
def St (w0 : World) (g cap : Nat) (l : List Int) (w : World) : Prop := Own w g cap l ∧ w0.grownBy w (some g)

theorem St.drew {w0 w : World} {g cap : Nat} {l : List Int} (h : St w0 g cap l w) : St w0 g cap l w.drew :=
  ⟨h.1.kept (row := none) ⟨rfl, rfl, rfl, Nat.le_refl _, fun _ _ _ => rfl⟩ (by simp), grown_trans h.2 ⟨rfl, rfl, rfl, Nat.le_refl _, fun _ _ _ => rfl⟩⟩

theorem St.cell {w0 w : World} {g cap : Nat} {l : List Int} (h : St w0 g cap l w) {p : Addr} {v : Value} (hc : w0.cell? p = some v) (hne : p.block ≠ g) : w.cell? p = some v := h.2.cell hc (by simpa using hne)

theorem St.frozen {w0 w : World} {g cap : Nat} {l : List Int} (h : St w0 g cap l w) {p : Addr} (hl : p.block < w0.heap.size) (hne : p.block ≠ g) : w.frozen? p = w0.frozen? p := World.frozen?_of_block (h.2.block _ hl (by simpa using hne))

theorem St.alloc {w0 w : World} {g cap : Nat} {l : List Int} (h : St w0 g cap l w) (o : Obj) : St w0 g cap l (w.alloc o) := ⟨h.1.alloc o, grown_trans h.2 (World.grownBy_alloc w o _)⟩

theorem at_st {w0 : World} {g cap n i j : Nat} {l : List Int} {w : World} (hn : n ≤ 10) (hi : i ≤ n) (hj : j ≤ n) (hl : l.length = (n + 1) * (n + 1)) (h : St w0 g cap l w) :
    Calls Try.prog 18 #[.agg #[.int .i64 n, .slice (some ⟨g, 0, none⟩) l.length cap], .int .i64 i, .int .i64 j] w
      (fun e w' => e = .returned (.int .i64 (Zo.At n l i j)) ∧ St w0 g cap l w') := by
  refine (at_any n i j l ⟨g, 0, none⟩ cap w hn hi hj hl h.1.rd).mono ?_
  rintro e w' ⟨rfl, hb⟩
  have hg : w.grownBy w' none := ⟨hb.os, hb.tape, hb.output, hb.size, fun k hk _ => hb.block k hk⟩
  exact ⟨rfl, h.1.kept hg (by simp), grown_trans h.2 ⟨hg.os, hg.tape, hg.output, hg.size, fun k hk _ => hg.block k hk (by simp)⟩⟩

theorem set_st {w0 : World} {g cap n i j : Nat} {l : List Int} {w : World} (x : Int) (hn : n ≤ 10) (hi : i ≤ n) (hj : j ≤ n) (hl : l.length = (n + 1) * (n + 1)) (h : St w0 g cap l w) :
    Calls Try.prog 25 #[.agg #[.int .i64 n, .slice (some ⟨g, 0, none⟩) l.length cap], .int .i64 i, .int .i64 j, .int .i64 x] w
      (fun e w' => e = .returned (.tuple #[]) ∧ St w0 g cap (l.set (Zo.ix n i j) x) w') := by
  refine (set_any n i j x l g cap w hn hi hj hl h.1).mono ?_
  rintro e w' ⟨rfl, hg, hO⟩
  exact ⟨rfl, hO, grown_trans h.2 hg⟩

theorem sum_st {w0 : World} {g cap : Nat} {l : List Int} {w : World} (a b : Int) (h : St w0 g cap l w) :
    Calls Try.prog 39 #[.int .i64 a, .int .i64 b] w (fun e w' => e = .returned (.int .i64 (Zo.smW a b)) ∧ St w0 g cap l w') := by
  refine (sum2_any a b w).mono ?_
  rintro e w' ⟨rfl, rfl⟩
  exact ⟨rfl, h⟩

/-- 'min' of two limits, as a word that the walk doesn't part. -/
def imin (x y : Int) : Int := min x y

theorem run_imin (x y : Int) (ts : Array TypeId) (t : TypeId) (W : World) : (Builtin.min_ ts t #[.int .i64 x, .int .i64 y]).run Try.prog W = .ok (.int .i64 (imin x y)) W := by
  rw [run_min_int2]; unfold imin
  congr 2
  split
  · rw [Int.min_eq_right (by omega)]
  · rw [Int.min_eq_left (by omega)]

/-- What closed tells: an empty set, an element out of range, or neither. -/
def cloB (n : Nat) (l : List Int) : Bool := (List.range (n + 1)).any fun i => decide (Zo.At n (Zo.clo n l) i i < 1)

def cloE (n : Nat) (l : List Int) : Int := if cloB n l then 4 else if (Zo.clo n l).all lvB then 0 else 7

/-- A zone, or with an error the zero one. -/
def zres (e : Int) (n g len cap : Nat) : Value := if e = 0 then .agg #[.int .i64 n, .slice (some ⟨g, 0, none⟩) len cap] else .agg #[.int .i64 0, .slice none 0 0]

theorem cloE_four {n : Nat} {l : List Int} {i : Nat} (hi : i ≤ n) (h : Zo.At n (Zo.clo n l) i i < 1) (g len cap : Nat) : cloE n l = 4 ∧ zres (cloE n l) n g len cap = .agg #[.int .i64 0, .slice none 0 0] := by
  have : cloB n l = true := by unfold cloB; rw [List.any_eq_true]; exact ⟨i, by simp; omega, by simpa using h⟩
  have e : cloE n l = 4 := by unfold cloE; rw [this]; rfl
  exact ⟨e, by rw [e]; rfl⟩

theorem cloB_no {n : Nat} {l : List Int} (h : ∀ i, i < n + 1 → ¬ Zo.At n (Zo.clo n l) i i < 1) : cloB n l = false := by
  unfold cloB; rw [List.any_eq_false]; intro i hi; simp at hi; simpa using h i hi

theorem cloE_seven {n : Nat} {l : List Int} (h : cloB n l = false) {i : Nat} (hi : i < (Zo.clo n l).length) (hv : lvB (Zo.gt (Zo.clo n l) i) = false) (g len cap : Nat) : cloE n l = 7 ∧ zres (cloE n l) n g len cap = .agg #[.int .i64 0, .slice none 0 0] := by
  have : (Zo.clo n l).all lvB = false := by
    rw [List.all_eq_false]
    refine ⟨(Zo.clo n l)[i], List.getElem_mem hi, ?_⟩
    rw [show (Zo.clo n l)[i] = Zo.gt (Zo.clo n l) i by simp [Zo.gt, hi], hv]; simp
  have e : cloE n l = 7 := by unfold cloE; rw [h, this]; rfl
  exact ⟨e, by rw [e]; rfl⟩

theorem cloE_ok {n : Nat} {l : List Int} (h : cloB n l = false) (hv : ∀ i, i < (Zo.clo n l).length → lvB (Zo.gt (Zo.clo n l) i) = true) (g len cap : Nat) : cloE n l = 0 ∧ zres (cloE n l) n g len cap = .agg #[.int .i64 n, .slice (some ⟨g, 0, none⟩) len cap] := by
  have : (Zo.clo n l).all lvB = true := by
    rw [List.all_eq_true]
    intro x hx
    obtain ⟨i, hi, rfl⟩ := List.getElem_of_mem hx
    have := hv i hi
    simpa [Zo.gt, hi] using this
  have e : cloE n l = 0 := by unfold cloE; rw [h, this]; rfl
  exact ⟨e, by rw [e]; rfl⟩

theorem ret_z {a b : Value} {c d : Int} (h : a = b) (g : c = d) : Ending.returned (.tuple #[a, .int .i64 c]) = .returned (.tuple #[b, .int .i64 d]) := by rw [h, g]

theorem put_aside {w w0 w' : World} {g cap b : Nat} {l : List Int} {u v : Value} (hb : b ≠ g) (hgr : w.grownBy w0 (some g)) (hlt : w.heap.size ≤ b) (h : St w0 g cap l w') :
    Own ((w'.setCell ⟨b, 0, none⟩ u).setCell ⟨b, 1, none⟩ v) g cap l ∧ w.grownBy ((w'.setCell ⟨b, 0, none⟩ u).setCell ⟨b, 1, none⟩ v) (some g) := by
  have e1 : w'.grownBy (w'.setCell ⟨b, 0, none⟩ u) (some b) := ⟨rfl, rfl, rfl, by simp, fun k _ hk => heap_setCell_other w' ⟨b, 0, none⟩ k u (fun e => hk (by simp [e]))⟩
  have e2 : (w'.setCell ⟨b, 0, none⟩ u).grownBy ((w'.setCell ⟨b, 0, none⟩ u).setCell ⟨b, 1, none⟩ v) (some b) := ⟨rfl, rfl, rfl, by simp, fun k _ hk => heap_setCell_other _ ⟨b, 1, none⟩ k v (fun e => hk (by simp [e]))⟩
  have e3 := grown_trans e1 e2
  have e4 := grown_trans hgr h.2
  refine ⟨h.1.kept e3 (by simp; omega), e3.os.trans e4.os, e3.tape.trans e4.tape, e3.output.trans e4.output, Nat.le_trans e4.size e3.size, fun k hk hne => ?_⟩
  exact (e3.block k (Nat.lt_of_lt_of_le hk e4.size) (by simp; omega)).trans (e4.block k hk hne)

set_option maxHeartbeats 4000000 in
theorem closed_any (n : Nat) (l : List Int) (g cap : Nat) (w : World) (hn : n ≤ 10) (hl : l.length = (n + 1) * (n + 1)) (hO : Own w g cap l) :
    Calls Try.prog 26 #[.agg #[.int .i64 n, .slice (some ⟨g, 0, none⟩) l.length cap]] w (fun e w' => e = .returned (.tuple #[zres (cloE n l) n g l.length cap, .int .i64 (cloE n l)]) ∧ Own w' g cap (Zo.clo n l) ∧ w.grownBy w' (some g)) := by
  have hg := hO.lt
  obtain ⟨len, hlen⟩ : ∃ len, len = l.length := ⟨_, rfl⟩
  obtain ⟨w0, hw0⟩ : ∃ w0, w0 = (w.alloc (.cells #[.int .i64 n, .slice (some ⟨g, 0, none⟩) len cap] 24)).alloc (.cells #[.int .i64 0, .slice none 0 0] 24) := ⟨_, rfl⟩
  have b0 : w0.cell? ⟨w.heap.size, 0, none⟩ = some (.int .i64 n) := by rw [hw0]; go_simp
  have b1 : w0.cell? ⟨w.heap.size, 1, none⟩ = some (.slice (some ⟨g, 0, none⟩) len cap) := by rw [hw0]; go_simp
  have r0 : w0.cell? ⟨w.heap.size + 1, 0, none⟩ = some (.int .i64 0) := by rw [hw0]; go_simp
  have r1 : w0.cell? ⟨w.heap.size + 1, 1, none⟩ = some (.slice none 0 0) := by rw [hw0]; go_simp
  have f0 : w0.frozen? ⟨w.heap.size + 1, 0, none⟩ = false := by rw [hw0]; go_simp
  have f1 : w0.frozen? ⟨w.heap.size + 1, 1, none⟩ = false := by rw [hw0]; go_simp
  have z0 : w0.heap.size = w.heap.size + 2 := by rw [hw0]; simp
  have s0 : St w0 g cap l w0 := by rw [hw0]; exact ⟨(hO.alloc _).alloc _, World.grownBy.refl _ _⟩
  have hgr : w.grownBy w0 (some g) := by rw [hw0]; exact grown_trans (World.grownBy_alloc _ _ _) (World.grownBy_alloc _ _ _)
  have KS := Lib.hid (show ∀ (y : List Int) (w' : World), St w0 g cap y w' → w'.cell? ⟨w.heap.size, 0, none⟩ = some (.int .i64 n) ∧ w'.cell? ⟨w.heap.size, 1, none⟩ = some (.slice (some ⟨g, 0, none⟩) len cap) from
    fun y w' h => ⟨h.cell b0 (by simp; omega), h.cell b1 (by simp; omega)⟩)
  have KR := Lib.hid (show ∀ (y : List Int) (w' : World), St w0 g cap y w' → (w'.cell? ⟨w.heap.size + 1, 0, none⟩ = some (.int .i64 0) ∧ w'.cell? ⟨w.heap.size + 1, 1, none⟩ = some (.slice none 0 0)) ∧ (w'.frozen? ⟨w.heap.size + 1, 0, none⟩ = false ∧ w'.frozen? ⟨w.heap.size + 1, 1, none⟩ = false) from
    fun y w' h => ⟨⟨h.cell r0 (by simp; omega), h.cell r1 (by simp; omega)⟩, (h.frozen (by simp; omega) (by simp; omega)).trans f0, (h.frozen (by simp; omega) (by simp; omega)).trans f1⟩)
  have KE := Lib.hid (show ∀ (y : List Int) (w' : World) (u v : Value), St w0 g cap y w' → Own ((w'.setCell ⟨w.heap.size + 1, 0, none⟩ u).setCell ⟨w.heap.size + 1, 1, none⟩ v) g cap y ∧ w.grownBy ((w'.setCell ⟨w.heap.size + 1, 0, none⟩ u).setCell ⟨w.heap.size + 1, 1, none⟩ v) (some g) from
    fun y w' u v h => put_aside (by omega) hgr (by omega) h)
  have HO := Lib.hid hO
  have HS := Lib.hid s0
  have HL := Lib.hid hl
  have HLn := Lib.hid hlen
  rw [← hlen]
  clear hO s0 hl hlen b0 b1 r0 r1 f0 f1 hgr
  go_enter Try.func26, Try.ntmps26
  go_wp2_with fail
  rw [← hw0]
  go_loopw [4] (fun s wr => ∃ (t : Nat) (x : List Int), t ≤ n + 1 ∧ s = .int .i64 t ∧ x.length = len ∧ Hid (x = (List.range t).foldl (Zo.st1 n) l) ∧ Hid (St w0 g cap x wr)) (fun s _ => n + 1 - (intOf s).toNat)
  case atStart => exact ⟨0, l, by omega, rfl, HLn.out.symm, Lib.hid rfl, HS⟩
  case round =>
    obtain ⟨t, x, ht, rfl, hx_x, HX, HT⟩ := hrel
    obtain ⟨c0, c1⟩ := KS.out _ _ HT.out
    by_cases htn : t ≤ n
    · have l_x : x.length = (n + 1) * (n + 1) := by rw [hx_x, HLn.out, HL.out]
      have AT_x : Hid (∀ w' : World, St w0 g cap x w' → Calls Try.prog 18 #[.agg #[.int .i64 n, .slice (some ⟨g, 0, none⟩) len cap], .int .i64 0, .int .i64 t] w' (fun e w' => e = .returned (.int .i64 (Zo.At n x 0 t)) ∧ St w0 g cap x w')) :=
        Lib.hid fun w' h => by have := at_st (i := 0) (j := t) hn (by omega) htn l_x h; rw [hx_x] at this; exact this
      have SE_x : Hid (∀ (val : Int) (w' : World), St w0 g cap x w' → Calls Try.prog 25 #[.agg #[.int .i64 n, .slice (some ⟨g, 0, none⟩) len cap], .int .i64 0, .int .i64 t, .int .i64 val] w' (fun e w' => e = .returned (.tuple #[]) ∧ St w0 g cap (x.set (Zo.ix n 0 t) val) w')) :=
        Lib.hid fun val w' h => by have := set_st (i := 0) (j := t) val hn (by omega) htn l_x h; rw [hx_x] at this; exact this
      have hm := run_imin (Zo.At n x 0 t) 1
      go_wp2_with fail
      have s1 := HT.out.drew
      go_region_held3 (fun w' => w'.cell? ⟨w.heap.size, 0, none⟩ = some (.int .i64 n) ∧ w'.cell? ⟨w.heap.size, 1, none⟩ = some (.slice (some ⟨g, 0, none⟩) len cap)) (first | exact KS.out _ _ s1 | exact KS.out _ _ s2 | exact KS.out _ _ s3)
        (first | (go_at_call 18; refine (AT_x.out _ s1).mono ?_; rintro e w2 ⟨rfl, s2⟩) | (go_at_call 25; refine (SE_x.out _ _ s2).mono ?_; rintro e wa ⟨rfl, s3⟩))
      obtain ⟨wax, h_wax⟩ : ∃ q, q = x.set (Zo.ix n 0 t) (imin (Zo.At n x 0 t) 1) := ⟨_, rfl⟩
      have hx_wax : wax.length = len := by rw [h_wax]; simpa using hx_x
      rw [← h_wax] at s3
      have H_wax := Lib.hid h_wax
      have S_wax := Lib.hid s3
      clear h_wax hm AT_x SE_x s1 s2 s3 c0 c1
      obtain ⟨c0, c1⟩ := KS.out _ _ S_wax.out
      have l_wax : wax.length = (n + 1) * (n + 1) := by rw [hx_wax, HLn.out, HL.out]
      have AT_wax : Hid (∀ w' : World, St w0 g cap wax w' → Calls Try.prog 18 #[.agg #[.int .i64 n, .slice (some ⟨g, 0, none⟩) len cap], .int .i64 t, .int .i64 t] w' (fun e w' => e = .returned (.int .i64 (Zo.At n wax t t)) ∧ St w0 g cap wax w')) :=
        Lib.hid fun w' h => by have := at_st (i := t) (j := t) hn htn htn l_wax h; rw [hx_wax] at this; exact this
      have SE_wax : Hid (∀ (val : Int) (w' : World), St w0 g cap wax w' → Calls Try.prog 25 #[.agg #[.int .i64 n, .slice (some ⟨g, 0, none⟩) len cap], .int .i64 t, .int .i64 t, .int .i64 val] w' (fun e w' => e = .returned (.tuple #[]) ∧ St w0 g cap (wax.set (Zo.ix n t t) val) w')) :=
        Lib.hid fun val w' h => by have := set_st (i := t) (j := t) val hn htn htn l_wax h; rw [hx_wax] at this; exact this
      have hm := run_imin (Zo.At n wax t t) 1
      go_wp2_with fail
      have s1 := S_wax.out.drew
      go_region_held3 (fun w' => w'.cell? ⟨w.heap.size, 0, none⟩ = some (.int .i64 n) ∧ w'.cell? ⟨w.heap.size, 1, none⟩ = some (.slice (some ⟨g, 0, none⟩) len cap)) (first | exact KS.out _ _ s1 | exact KS.out _ _ s2 | exact KS.out _ _ s3)
        (first | (go_at_call 18; refine (AT_wax.out _ s1).mono ?_; rintro e w2 ⟨rfl, s2⟩) | (go_at_call 25; refine (SE_wax.out _ _ s2).mono ?_; rintro e wb ⟨rfl, s3⟩))
      obtain ⟨wbx, h_wbx⟩ : ∃ q, q = wax.set (Zo.ix n t t) (imin (Zo.At n wax t t) 1) := ⟨_, rfl⟩
      have hx_wbx : wbx.length = len := by rw [h_wbx]; simpa using hx_wax
      rw [← h_wbx] at s3
      have H_wbx := Lib.hid h_wbx
      have S_wbx := Lib.hid s3
      clear h_wbx hm AT_wax SE_wax s1 s2 s3 c0 c1
      obtain ⟨c0, c1⟩ := KS.out _ _ S_wbx.out
      go_wp2_with fail
      go_roundw
      case rel => exact ⟨t + 1, wbx, by omega, by go_num, hx_wbx, Lib.hid (by rw [Zo.fold_succ, ← HX.out, H_wbx.out, H_wax.out]; rfl), S_wbx⟩
      case measure => simp [intOf]; omega
    · have HX2 := Lib.hid (show x = Zo.pre n l by rw [HX.out, show t = n + 1 by omega]; rfl)
      go_wp2_with fail
      clear c0 c1
      go_loopw [5] (fun s wr => ∃ (t : Nat) (x : List Int), t ≤ n + 1 ∧ s = .int .i64 t ∧ x.length = len ∧ Hid (x = (List.range t).foldl (Zo.rlxI n) (Zo.pre n l)) ∧ Hid (St w0 g cap x wr)) (fun s _ => n + 1 - (intOf s).toNat)
      case atStart => exact ⟨0, x, by omega, rfl, hx_x, HX2, HT⟩
      case round =>
        clear HX HX2 HT hx_x
        clear x
        obtain ⟨k, xk, hk, rfl, hx_xk, HXk, HTk⟩ := hrel
        obtain ⟨c0, c1⟩ := KS.out _ _ HTk.out
        by_cases hkn : k ≤ n
        · go_wp2_with fail
          clear c0 c1
          go_loopw [6] (fun s wr => ∃ (t : Nat) (x : List Int), t ≤ n + 1 ∧ s = .int .i64 t ∧ x.length = len ∧ Hid (x = (List.range t).foldl (Zo.rlxJ n k) xk) ∧ Hid (St w0 g cap x wr)) (fun s _ => n + 1 - (intOf s).toNat)
          case atStart => exact ⟨0, xk, by omega, rfl, hx_xk, Lib.hid rfl, HTk⟩
          case round =>
            obtain ⟨i, xi, hi, rfl, hx_xi, HXi, HTi⟩ := hrel
            obtain ⟨c0, c1⟩ := KS.out _ _ HTi.out
            by_cases hin : i ≤ n
            · go_wp2_with fail
              clear c0 c1
              go_loopw [7] (fun s wr => ∃ (t : Nat) (x : List Int), t ≤ n + 1 ∧ s = .int .i64 t ∧ x.length = len ∧ Hid (x = (List.range t).foldl (Zo.rlx n k i) xi) ∧ Hid (St w0 g cap x wr)) (fun s _ => n + 1 - (intOf s).toNat)
              case atStart => exact ⟨0, xi, by omega, rfl, hx_xi, Lib.hid rfl, HTi⟩
              case round =>
                obtain ⟨j, xj, hj, rfl, hx_xj, HXj, HTj⟩ := hrel
                obtain ⟨c0, c1⟩ := KS.out _ _ HTj.out
                by_cases hjn : j ≤ n
                · have l_xj : xj.length = (n + 1) * (n + 1) := by rw [hx_xj, HLn.out, HL.out]
                  have A9 : Hid (∀ a b : Nat, a ≤ n → b ≤ n → ∀ w' : World, St w0 g cap xj w' → Calls Try.prog 18 #[.agg #[.int .i64 n, .slice (some ⟨g, 0, none⟩) len cap], .int .i64 a, .int .i64 b] w' (fun e w' => e = .returned (.int .i64 (Zo.At n xj a b)) ∧ St w0 g cap xj w')) :=
                    Lib.hid fun a b ha hb w' h => by have := at_st (i := a) (j := b) hn ha hb l_xj h; rw [hx_xj] at this; exact this
                  have E9 : Hid (∀ (val : Int) (w' : World), St w0 g cap xj w' → Calls Try.prog 25 #[.agg #[.int .i64 n, .slice (some ⟨g, 0, none⟩) len cap], .int .i64 i, .int .i64 j, .int .i64 val] w' (fun e w' => e = .returned (.tuple #[]) ∧ St w0 g cap (xj.set (Zo.ix n i j) val) w')) :=
                    Lib.hid fun val w' h => by have := set_st (i := i) (j := j) val hn hin hjn l_xj h; rw [hx_xj] at this; exact this
                  have M9 := Lib.hid fun (a b : Int) (w' : World) (h : St w0 g cap xj w') => sum_st a b h
                  have hm := run_imin (Zo.At n xj i j) (Zo.smW (Zo.At n xj i k) (Zo.At n xj k j))
                  go_wp2_with fail
                  have s1 := HTj.out.drew
                  go_region_held3 (fun w' => w'.cell? ⟨w.heap.size, 0, none⟩ = some (.int .i64 n) ∧ w'.cell? ⟨w.heap.size, 1, none⟩ = some (.slice (some ⟨g, 0, none⟩) len cap)) (first | exact KS.out _ _ (by assumption))
                    (first | (go_at_call 18; refine (A9.out _ _ (by assumption) (by assumption) _ (by assumption)).mono ?_; rintro e w2 ⟨rfl, s2⟩) | (go_at_call 39; refine (M9.out _ _ _ (by assumption)).mono ?_; rintro e w3 ⟨rfl, s3⟩) | (go_at_call 25; refine (E9.out _ _ (by assumption)).mono ?_; rintro e w4 ⟨rfl, s4⟩))
                  all_goals
                    have S4 := Lib.hid s4
                    clear s4
                    go_wp2_with fail
                    go_roundw
                    case rel => exact ⟨j + 1, _, by omega, by go_num, by simpa using hx_xj, Lib.hid (by rw [Zo.fold_succ, ← HXj.out]; rfl), S4⟩
                    case measure => simp [intOf]; omega
                · have HX3 := Lib.hid (show xj = Zo.rlxJ n k xi i by rw [HXj.out, show j = n + 1 by omega]; rfl)
                  go_wp2_with fail
                  go_roundw
                  case rel => exact ⟨i + 1, xj, by omega, by go_num, hx_xj, Lib.hid (by rw [Zo.fold_succ, ← HXi.out]; exact HX3.out), HTj⟩
                  case measure => simp [intOf]; omega
            · have HX3 := Lib.hid (show xi = Zo.rlxI n xk k by rw [HXi.out, show i = n + 1 by omega]; rfl)
              go_wp2_with fail
              go_roundw
              case rel => exact ⟨k + 1, xi, by omega, by go_num, hx_xi, Lib.hid (by rw [Zo.fold_succ, ← HXk.out]; exact HX3.out), HTi⟩
              case measure => simp [intOf]; omega
        · have HX3 := Lib.hid (show xk = Zo.clo n l by rw [HXk.out, show k = n + 1 by omega]; rfl)
          have l_xk : xk.length = (n + 1) * (n + 1) := by rw [hx_xk, HLn.out, HL.out]
          have A9 : Hid (∀ a : Nat, a ≤ n → ∀ w' : World, St w0 g cap xk w' → Calls Try.prog 18 #[.agg #[.int .i64 n, .slice (some ⟨g, 0, none⟩) len cap], .int .i64 a, .int .i64 a] w' (fun e w' => e = .returned (.int .i64 (Zo.At n xk a a)) ∧ St w0 g cap xk w')) :=
            Lib.hid fun a ha w' h => by have := at_st (i := a) (j := a) hn ha ha l_xk h; rw [hx_xk] at this; exact this
          have HC := Lib.hid (show ∀ (q : Nat) (w' : World), q < len → St w0 g cap xk w' → w'.cell? ⟨g, q, none⟩ = some (.int .i64 (Zo.gt xk q)) from fun q w' hq h => by
            have := h.1.rd q (by omega)
            rwa [addr_add] at this)
          go_wp2_with fail
          clear c0 c1 l_xk
          go_loopw [8] (fun s wr => ∃ t : Nat, t ≤ n + 1 ∧ s = .int .i64 t ∧ Hid (∀ i, i < t → 1 ≤ Zo.At n xk i i) ∧ Hid (St w0 g cap xk wr)) (fun s _ => n + 1 - (intOf s).toNat)
          case atStart => exact ⟨0, by omega, rfl, Lib.hid (fun i hi => by omega), HTk⟩
          case round =>
            obtain ⟨q, hq, rfl, HD, HTq⟩ := hrel
            obtain ⟨c0, c1⟩ := KS.out _ _ HTq.out
            by_cases hqn : q ≤ n
            · by_cases hlt : Zo.At n xk q q < 1
              · have HE := Lib.hid (cloE_four hqn (by rw [← HX3.out]; exact hlt) g len cap)
                go_wp2_with fail
                refine (A9.out _ hqn _ HTq.out).mono ?_
                rintro e w2 ⟨rfl, s2⟩
                obtain ⟨⟨r0, r1⟩, f0, f1⟩ := KR.out _ _ s2
                go_wp2_with fail
                refine bodyPost_ret (v := .tuple #[.agg #[.int .i64 0, .slice none 0 0], .int .i64 4]) (by simp [results, Try.results26, go_sem, r0, r1]) rfl ⟨ret_z HE.out.2.symm HE.out.1.symm, ?_⟩
                rw [← HX3.out]
                exact KE.out _ _ _ _ s2
              · go_wp2_with fail
                refine (A9.out _ hqn _ HTq.out).mono ?_
                rintro e w2 ⟨rfl, s2⟩
                have S2 := Lib.hid s2
                clear s2
                go_wp2_with fail
                go_roundw
                case rel =>
                  refine ⟨q + 1, by omega, by go_num, Lib.hid (fun i hi => ?_), S2⟩
                  by_cases e : i = q
                  · rw [e]; omega
                  · exact HD.out i (by omega)
                case measure => simp [intOf]; omega
            · have HB := Lib.hid (cloB_no (l := l) (n := n) (fun i hi => by rw [← HX3.out]; have := HD.out i (by omega); omega))
              go_wp2_with fail
              clear c0 c1
              go_loopw [9] (fun s wr => ∃ t : Nat, t ≤ len ∧ s = .int .i64 t ∧ Hid (∀ i, i < t → lvB (Zo.gt xk i) = true) ∧ Hid (St w0 g cap xk wr)) (fun s _ => len - (intOf s).toNat)
              case atStart => exact ⟨0, by omega, rfl, Lib.hid (fun i hi => by omega), HTq⟩
              case round =>
                obtain ⟨p, hp, rfl, HV, HTp⟩ := hrel
                obtain ⟨c0, c1⟩ := KS.out _ _ HTp.out
                have lb : (len : Int) ≤ 121 := by
                  rw [HLn.out, HL.out]
                  have : (n + 1) * (n + 1) ≤ 11 * 11 := Nat.mul_le_mul (by omega) (by omega)
                  exact_mod_cast this
                by_cases hpl : p < len
                · have cg := HC.out p _ hpl HTp.out
                  have pv := fun W => refLimValid_free (Zo.gt xk p) W
                  cases hv : lvB (Zo.gt xk p)
                  · rw [hv] at pv
                    have PV := Lib.hid pv
                    have HE := Lib.hid (cloE_seven HB.out (i := p) (by rw [← HX3.out]; omega) (by rw [← HX3.out]; exact hv) g len cap)
                    obtain ⟨⟨r0, r1⟩, f0, f1⟩ := KR.out _ _ HTp.out
                    clear pv hv
                    go_wp2_with fail
                    refine (PV.out _).mono ?_
                    rintro e w2 ⟨rfl, rfl⟩
                    go_wp2_with fail
                    refine bodyPost_ret (v := .tuple #[.agg #[.int .i64 0, .slice none 0 0], .int .i64 7]) (by simp [results, Try.results26, go_sem, r0, r1]) rfl ⟨ret_z HE.out.2.symm HE.out.1.symm, ?_⟩
                    rw [← HX3.out]
                    exact KE.out _ _ _ _ HTp.out
                  · rw [hv] at pv
                    have PV := Lib.hid pv
                    have HV2 := Lib.hid hv
                    clear pv hv
                    go_wp2_with fail
                    refine (PV.out _).mono ?_
                    rintro e w2 ⟨rfl, rfl⟩
                    go_wp2_with fail
                    go_roundw
                    case rel =>
                      refine ⟨p + 1, by omega, by go_num, Lib.hid (fun i hi => ?_), HTp⟩
                      by_cases e : i = p
                      · rw [e]; exact HV2.out
                      · exact HV.out i (by omega)
                    case measure => simp [intOf]; omega
                · have HE := Lib.hid (cloE_ok HB.out (fun i hi => by rw [← HX3.out] at hi ⊢; exact HV.out i (by omega)) g len cap)
                  obtain ⟨⟨r0, r1⟩, f0, f1⟩ := KR.out _ _ HTp.out
                  go_wp2_with fail
                  refine bodyPost_ret (v := .tuple #[.agg #[.int .i64 n, .slice (some ⟨g, 0, none⟩) len cap], .int .i64 0]) (by simp [results, Try.results26, go_sem, r0, r1]) rfl ⟨ret_z HE.out.2.symm HE.out.1.symm, ?_⟩
                  rw [← HX3.out]
                  exact KE.out _ _ _ _ HTp.out
end Go.Proofs.Ytgdcclldgfcilaa

namespace Go.Proofs.Ytgdcclldgfcilaa
open Go.RowKit

theorem Rd.on {w w' : World} {a : Addr} {l : List Int} (h : Rd w a l) (hb : Below w.heap.size w w') : Rd w' a l := fun j hj => kept hb (h j hj)

/-- What Check asks of each element, and of each three. -/
def okI (n : Nat) (l : List Int) (i j : Nat) : Bool := lvB (Zo.At n l i j) && (decide (i ≠ j) || decide (Zo.At n l i j = 1)) && (decide (i ≠ 0) || decide (Zo.At n l i j ≤ 1))

def okT (n : Nat) (l : List Int) (i j k : Nat) : Bool := decide (Zo.At n l i j ≤ Zo.smW (Zo.At n l i k) (Zo.At n l k j))

def chk1 (n : Nat) (l : List Int) : Bool := (List.range (n + 1)).all fun i => (List.range (n + 1)).all fun j => okI n l i j

def chk2 (n : Nat) (l : List Int) : Bool := (List.range (n + 1)).all fun i => (List.range (n + 1)).all fun j => (List.range (n + 1)).all fun k => okT n l i j k

def chkB (N : Int) (l : List Int) : Bool := dimB N && decide (l.length = (N.toNat + 1) * (N.toNat + 1)) && chk1 N.toNat l && chk2 N.toNat l

def chkE (N : Int) (l : List Int) : Int := if chkB N l then 0 else 2

theorem chk1_iff {n : Nat} {l : List Int} : chk1 n l = true ↔ ∀ i, i < n + 1 → ∀ j, j < n + 1 → okI n l i j = true := by simp [chk1]

theorem chk2_iff {n : Nat} {l : List Int} : chk2 n l = true ↔ ∀ i, i < n + 1 → ∀ j, j < n + 1 → ∀ k, k < n + 1 → okT n l i j k = true := by simp [chk2]

theorem chkE_bad1 {N : Int} {l : List Int} (h : dimB N = false) : chkE N l = 2 := by simp [chkE, chkB, h]

theorem chkE_bad2 {N : Int} {l : List Int} (h : l.length ≠ (N.toNat + 1) * (N.toNat + 1)) : chkE N l = 2 := by simp [chkE, chkB, h]

theorem chkE_bad3 {n : Nat} {l : List Int} {i j : Nat} (hi : i < n + 1) (hj : j < n + 1) (h : okI n l i j = false) : chkE (n : Int) l = 2 := by
  have : chk1 n l = false := by
    cases e : chk1 n l
    · rfl
    · have := chk1_iff.1 e i hi j hj
      rw [h] at this; simp at this
  simp [chkE, chkB, this]

theorem chkE_bad4 {n : Nat} {l : List Int} {i j k : Nat} (hi : i < n + 1) (hj : j < n + 1) (hk : k < n + 1) (h : okT n l i j k = false) : chkE (n : Int) l = 2 := by
  have : chk2 n l = false := by
    cases e : chk2 n l
    · rfl
    · have := chk2_iff.1 e i hi j hj k hk
      rw [h] at this; simp at this
  simp [chkE, chkB, this]

theorem chkE_ok {n : Nat} {l : List Int} (hn : n ≤ 10) (hl : l.length = (n + 1) * (n + 1)) (h1 : ∀ i, i < n + 1 → ∀ j, j < n + 1 → okI n l i j = true) (h2 : ∀ i, i < n + 1 → ∀ j, j < n + 1 → ∀ k, k < n + 1 → okT n l i j k = true) : chkE (n : Int) l = 0 := by
  have d : dimB (n : Int) = true := by unfold dimB; simp; omega
  simp [chkE, chkB, d, hl, chk1_iff.2 h1, chk2_iff.2 h2]

/-- A call that reads: at, in a world behind w0. -/
theorem at_b {w0 : World} {a : Addr} {cap n i j : Nat} {l : List Int} {w : World} (hn : n ≤ 10) (hi : i ≤ n) (hj : j ≤ n) (hl : l.length = (n + 1) * (n + 1)) (hR : Rd w0 a l) (h : Below w0.heap.size w0 w) :
    Calls Try.prog 18 #[.agg #[.int .i64 n, .slice (some a) l.length cap], .int .i64 i, .int .i64 j] w
      (fun e w' => e = .returned (.int .i64 (Zo.At n l i j)) ∧ Below w0.heap.size w0 w') := by
  refine (at_any n i j l a cap w hn hi hj hl (hR.on h)).mono ?_
  rintro e w' ⟨rfl, hb⟩
  exact ⟨rfl, below_on h hb⟩

theorem sum_b {w0 w : World} (a b : Int) (h : Below w0.heap.size w0 w) :
    Calls Try.prog 39 #[.int .i64 a, .int .i64 b] w (fun e w' => e = .returned (.int .i64 (Zo.smW a b)) ∧ Below w0.heap.size w0 w') := by
  refine (sum2_any a b w).mono ?_
  rintro e w' ⟨rfl, rfl⟩
  exact ⟨rfl, h⟩

set_option maxHeartbeats 400000 in
theorem check_bad1 (N : Int) (l : List Int) (ao : Option Addr) (cap : Nat) (w : World) (h : dimB N = false) :
    Calls Try.prog 22 #[.agg #[.int .i64 N, .slice ao l.length cap]] w (Made (.int .i64 (chkE N l)) w) := by
  have H := Lib.hid (chkE_bad1 (l := l) h)
  have p := fun W => dimension_any N W
  rw [h] at p
  have PD := Lib.hid p
  clear p h
  go_enter Try.func22, Try.ntmps22
  go_wp2_with fail
  refine (PD.out _).mono ?_
  rintro e w1 ⟨rfl, rfl⟩
  go_wp2_with fail
  go_ret
  exact ⟨ret_int H.out.symm, one_more _⟩

set_option maxHeartbeats 400000 in
theorem check_bad2 (n : Nat) (l : List Int) (ao : Option Addr) (cap : Nat) (w : World) (hn : n ≤ 10) (h : l.length ≠ (n + 1) * (n + 1)) :
    Calls Try.prog 22 #[.agg #[.int .i64 n, .slice ao l.length cap]] w (Made (.int .i64 (chkE n l)) w) := by
  have H := Lib.hid (chkE_bad2 (N := n) (l := l) (by simpa using h))
  have p := fun W => dimension_any n W
  rw [show dimB n = true by unfold dimB; simp; omega] at p
  have PD := Lib.hid p
  have t3 : ((n : Int) + 1) * ((n : Int) + 1) ≤ 121 ∧ 0 ≤ ((n : Int) + 1) * ((n : Int) + 1) := by
    have : (n + 1) * (n + 1) ≤ 11 * 11 := Nat.mul_le_mul (by omega) (by omega)
    constructor
    · exact_mod_cast this
    · exact_mod_cast Nat.zero_le _
  have h2 : ((l.length : Int) != ((n : Int) + 1) * ((n : Int) + 1)) = true := by
    simp; intro e; apply h; exact_mod_cast e
  generalize l.length = len at *
  clear p h
  go_enter Try.func22, Try.ntmps22
  go_wp2_with fail
  refine (PD.out _).mono ?_
  rintro e w1 ⟨rfl, rfl⟩
  go_wp2_with fail
  go_ret
  exact ⟨ret_int H.out.symm, one_more _⟩

set_option maxHeartbeats 4000000 in
theorem check_any (n : Nat) (l : List Int) (a : Addr) (cap : Nat) (w : World) (hn : n ≤ 10) (hl : l.length = (n + 1) * (n + 1)) (hR : Rd w a l) :
    Calls Try.prog 22 #[.agg #[.int .i64 n, .slice (some a) l.length cap]] w (Made (.int .i64 (chkE n l)) w) := by
  obtain ⟨len, hlen⟩ : ∃ len, len = l.length := ⟨_, rfl⟩
  obtain ⟨w0, hw0⟩ : ∃ w0, w0 = w.alloc (.cells #[.int .i64 n, .slice (some a) len cap] 24) := ⟨_, rfl⟩
  have b0 : w0.cell? ⟨w.heap.size, 0, none⟩ = some (.int .i64 n) := by rw [hw0]; go_simp
  have b1 : w0.cell? ⟨w.heap.size, 1, none⟩ = some (.slice (some a) len cap) := by rw [hw0]; go_simp
  have R0 : Rd w0 a l := by rw [hw0]; exact hR.on (one_more _)
  have e0 : Below w.heap.size w w0 := by rw [hw0]; exact one_more _
  have KS := Lib.hid (show ∀ w' : World, Below w0.heap.size w0 w' → w'.cell? ⟨w.heap.size, 0, none⟩ = some (.int .i64 n) ∧ w'.cell? ⟨w.heap.size, 1, none⟩ = some (.slice (some a) len cap) from
    fun w' h => ⟨kept h b0, kept h b1⟩)
  have p := fun W => dimension_any n W
  rw [show dimB n = true by unfold dimB; simp; omega] at p
  have PD := Lib.hid p
  have t3 : ((n : Int) + 1) * ((n : Int) + 1) ≤ 121 ∧ 0 ≤ ((n : Int) + 1) * ((n : Int) + 1) := by
    have : (n + 1) * (n + 1) ≤ 11 * 11 := Nat.mul_le_mul (by omega) (by omega)
    constructor
    · exact_mod_cast this
    · exact_mod_cast Nat.zero_le _
  have h2 : ((len : Int) != ((n : Int) + 1) * ((n : Int) + 1)) = false := by
    rw [hlen, hl]; simp
  have A9 : Hid (∀ x y : Nat, x ≤ n → y ≤ n → ∀ w' : World, Below w0.heap.size w0 w' → Calls Try.prog 18 #[.agg #[.int .i64 n, .slice (some a) len cap], .int .i64 x, .int .i64 y] w' (fun e w' => e = .returned (.int .i64 (Zo.At n l x y)) ∧ Below w0.heap.size w0 w')) :=
    Lib.hid fun x y hx hy w' h => by have := at_b (cap := cap) (i := x) (j := y) hn hx hy hl R0 h; rw [← hlen] at this; exact this
  have M9 := Lib.hid fun (x y : Int) (w' : World) (h : Below w0.heap.size w0 w') => sum_b x y h
  have HL := Lib.hid hl
  have E0 := Lib.hid e0
  rw [← hlen]
  clear p hl hlen R0 hR b0 b1 e0
  go_enter Try.func22, Try.ntmps22
  go_wp2_with fail
  refine (PD.out _).mono ?_
  rintro e w1 ⟨rfl, rfl⟩
  go_wp2_with fail
  rw [← hw0]
  clear t3 h2
  go_loopw [3] (fun s wr => ∃ t : Nat, t ≤ n + 1 ∧ s = .int .i64 t ∧ Hid (∀ i, i < t → ∀ j, j < n + 1 → okI n l i j = true) ∧ Hid (Below w0.heap.size w0 wr)) (fun s _ => n + 1 - (intOf s).toNat)
  case atStart => exact ⟨0, by omega, rfl, Lib.hid (fun i hi => by omega), Lib.hid (Below.refl _ _)⟩
  case round =>
    obtain ⟨i, hi, rfl, HI, HB⟩ := hrel
    obtain ⟨c0, c1⟩ := KS.out _ HB.out
    by_cases hin : i ≤ n
    · go_wp2_with fail
      clear c0 c1
      go_loopw [4] (fun s wr => ∃ t : Nat, t ≤ n + 1 ∧ s = .int .i64 t ∧ Hid (∀ j, j < t → okI n l i j = true) ∧ Hid (Below w0.heap.size w0 wr)) (fun s _ => n + 1 - (intOf s).toNat)
      case atStart => exact ⟨0, by omega, rfl, Lib.hid (fun j hj => by omega), HB⟩
      case round =>
        obtain ⟨j, hj, rfl, HJ, HBj⟩ := hrel
        obtain ⟨c0, c1⟩ := KS.out _ HBj.out
        by_cases hjn : j ≤ n
        · obtain ⟨v, hv⟩ : ∃ v, v = Zo.At n l i j := ⟨_, rfl⟩
          have a9 := A9.out i j hin hjn
          rw [← hv] at a9
          have A8 := Lib.hid a9
          have v9 := fun W => refLimValid_free v W
          have hok : okI n l i j = (lvB v && (decide (i ≠ j) || decide (v = 1)) && (decide (i ≠ 0) || decide (v ≤ 1))) := by rw [hv]; rfl
          clear a9 hv
          cases lv : lvB v
          · rw [lv] at v9
            have V9 := Lib.hid v9
            have HE := Lib.hid (chkE_bad3 (l := l) (n := n) (i := i) (j := j) (by omega) (by omega) (by rw [hok, lv]; simp))
            clear hok v9 lv
            go_wp2_with fail
            refine (A8.out _ HBj.out).mono ?_
            rintro e w2 ⟨rfl, hb⟩
            obtain ⟨c0, c1⟩ := KS.out _ hb
            go_wp2_with fail
            refine (V9.out _).mono ?_
            rintro e w3 ⟨rfl, rfl⟩
            go_wp2_with fail
            go_ret
            exact ⟨ret_int HE.out.symm, below_on E0.out hb⟩
          · by_cases ij : i = j
            · by_cases v1 : v = 1
              · by_cases i0 : i = 0
                · have IJ : ((i : Int) == (j : Int)) = true := by simp; omega
                  have IZ : ((i : Int) == 0) = true := by simp; omega
                  have V1 : (v != 1) = false := by simp; omega
                  have V2 : decide ((1 : Int) < v) = false := by simp; omega
                  rw [lv] at v9
                  have V9 := Lib.hid v9
                  have HE := Lib.hid (show okI n l i j = true by rw [hok, lv]; simp; omega)
                  clear hok v9 lv ij v1 i0
                  go_wp2_with fail
                  refine (A8.out _ HBj.out).mono ?_
                  rintro e w2 ⟨rfl, hb⟩
                  obtain ⟨c0, c1⟩ := KS.out _ hb
                  go_wp2_with fail
                  refine (V9.out _).mono ?_
                  rintro e w3 ⟨rfl, rfl⟩
                  have HB2 := Lib.hid hb
                  clear hb
                  go_wp2_with fail
                  go_roundw
                  case rel =>
                    refine ⟨j + 1, by omega, by go_num, Lib.hid (fun x hx => ?_), HB2⟩
                    by_cases e : x = j
                    · rw [e]; exact HE.out
                    · exact HJ.out x (by omega)
                  case measure => simp [intOf]; omega
                · have IJ : ((i : Int) == (j : Int)) = true := by simp; omega
                  have IZ : ((i : Int) == 0) = false := by simp; omega
                  have V1 : (v != 1) = false := by simp; omega
                  rw [lv] at v9
                  have V9 := Lib.hid v9
                  have HE := Lib.hid (show okI n l i j = true by rw [hok, lv]; simp; omega)
                  clear hok v9 lv ij v1 i0
                  go_wp2_with fail
                  refine (A8.out _ HBj.out).mono ?_
                  rintro e w2 ⟨rfl, hb⟩
                  obtain ⟨c0, c1⟩ := KS.out _ hb
                  go_wp2_with fail
                  refine (V9.out _).mono ?_
                  rintro e w3 ⟨rfl, rfl⟩
                  have HB2 := Lib.hid hb
                  clear hb
                  go_wp2_with fail
                  go_roundw
                  case rel =>
                    refine ⟨j + 1, by omega, by go_num, Lib.hid (fun x hx => ?_), HB2⟩
                    by_cases e : x = j
                    · rw [e]; exact HE.out
                    · exact HJ.out x (by omega)
                  case measure => simp [intOf]; omega
              · have IJ : ((i : Int) == (j : Int)) = true := by simp; omega
                have V1 : (v != 1) = true := by simp; omega
                rw [lv] at v9
                have V9 := Lib.hid v9
                have HE := Lib.hid (chkE_bad3 (l := l) (n := n) (i := i) (j := j) (by omega) (by omega) (by rw [hok, lv]; simp; omega))
                clear hok v9 lv ij v1
                go_wp2_with fail
                refine (A8.out _ HBj.out).mono ?_
                rintro e w2 ⟨rfl, hb⟩
                obtain ⟨c0, c1⟩ := KS.out _ hb
                go_wp2_with fail
                refine (V9.out _).mono ?_
                rintro e w3 ⟨rfl, rfl⟩
                go_wp2_with fail
                go_ret
                exact ⟨ret_int HE.out.symm, below_on E0.out hb⟩
            · by_cases i0 : i = 0
              · by_cases v1 : v ≤ 1
                · have IJ : ((i : Int) == (j : Int)) = false := by simp; omega
                  have IZ : ((i : Int) == 0) = true := by simp; omega
                  have V2 : decide ((1 : Int) < v) = false := by simp; omega
                  rw [lv] at v9
                  have V9 := Lib.hid v9
                  have HE := Lib.hid (show okI n l i j = true by rw [hok, lv]; simp; omega)
                  clear hok v9 lv ij v1 i0
                  go_wp2_with fail
                  refine (A8.out _ HBj.out).mono ?_
                  rintro e w2 ⟨rfl, hb⟩
                  obtain ⟨c0, c1⟩ := KS.out _ hb
                  go_wp2_with fail
                  refine (V9.out _).mono ?_
                  rintro e w3 ⟨rfl, rfl⟩
                  have HB2 := Lib.hid hb
                  clear hb
                  go_wp2_with fail
                  go_roundw
                  case rel =>
                    refine ⟨j + 1, by omega, by go_num, Lib.hid (fun x hx => ?_), HB2⟩
                    by_cases e : x = j
                    · rw [e]; exact HE.out
                    · exact HJ.out x (by omega)
                  case measure => simp [intOf]; omega
                · have IJ : ((i : Int) == (j : Int)) = false := by simp; omega
                  have IZ : ((i : Int) == 0) = true := by simp; omega
                  have V2 : decide ((1 : Int) < v) = true := by simp; omega
                  rw [lv] at v9
                  have V9 := Lib.hid v9
                  have HE := Lib.hid (chkE_bad3 (l := l) (n := n) (i := i) (j := j) (by omega) (by omega) (by rw [hok, lv]; simp; omega))
                  clear hok v9 lv ij v1 i0
                  go_wp2_with fail
                  refine (A8.out _ HBj.out).mono ?_
                  rintro e w2 ⟨rfl, hb⟩
                  obtain ⟨c0, c1⟩ := KS.out _ hb
                  go_wp2_with fail
                  refine (V9.out _).mono ?_
                  rintro e w3 ⟨rfl, rfl⟩
                  go_wp2_with fail
                  go_ret
                  exact ⟨ret_int HE.out.symm, below_on E0.out hb⟩
              · have IJ : ((i : Int) == (j : Int)) = false := by simp; omega
                have IZ : ((i : Int) == 0) = false := by simp; omega
                rw [lv] at v9
                have V9 := Lib.hid v9
                have HE := Lib.hid (show okI n l i j = true by rw [hok, lv]; simp; omega)
                clear hok v9 lv ij i0
                go_wp2_with fail
                refine (A8.out _ HBj.out).mono ?_
                rintro e w2 ⟨rfl, hb⟩
                obtain ⟨c0, c1⟩ := KS.out _ hb
                go_wp2_with fail
                refine (V9.out _).mono ?_
                rintro e w3 ⟨rfl, rfl⟩
                have HB2 := Lib.hid hb
                clear hb
                go_wp2_with fail
                go_roundw
                case rel =>
                  refine ⟨j + 1, by omega, by go_num, Lib.hid (fun x hx => ?_), HB2⟩
                  by_cases e : x = j
                  · rw [e]; exact HE.out
                  · exact HJ.out x (by omega)
                case measure => simp [intOf]; omega
        · have HI2 := Lib.hid (show ∀ x, x < i + 1 → ∀ j, j < n + 1 → okI n l x j = true from fun x hx y hy => by
            by_cases e : x = i
            · rw [e]; exact HJ.out y (by omega)
            · exact HI.out x (by omega) y hy)
          go_wp2_with fail
          go_roundw
          case rel => exact ⟨i + 1, by omega, by go_num, HI2, HBj⟩
          case measure => simp [intOf]; omega
    · have HI2 := Lib.hid (show ∀ x, x < n + 1 → ∀ j, j < n + 1 → okI n l x j = true from fun x hx y hy => HI.out x (by omega) y hy)
      go_wp2_with fail
      clear c0 c1
      go_loopw [6] (fun s wr => ∃ t : Nat, t ≤ n + 1 ∧ s = .int .i64 t ∧ Hid (∀ i, i < t → ∀ j, j < n + 1 → ∀ k, k < n + 1 → okT n l i j k = true) ∧ Hid (Below w0.heap.size w0 wr)) (fun s _ => n + 1 - (intOf s).toNat)
      case atStart => exact ⟨0, by omega, rfl, Lib.hid (fun i hi => by omega), HB⟩
      case round =>
        obtain ⟨x, hx, rfl, HX, HBx⟩ := hrel
        obtain ⟨c0, c1⟩ := KS.out _ HBx.out
        by_cases hxn : x ≤ n
        · go_wp2_with fail
          clear c0 c1
          go_loopw [7] (fun s wr => ∃ t : Nat, t ≤ n + 1 ∧ s = .int .i64 t ∧ Hid (∀ j, j < t → ∀ k, k < n + 1 → okT n l x j k = true) ∧ Hid (Below w0.heap.size w0 wr)) (fun s _ => n + 1 - (intOf s).toNat)
          case atStart => exact ⟨0, by omega, rfl, Lib.hid (fun j hj => by omega), HBx⟩
          case round =>
            obtain ⟨y, hy, rfl, HY, HBy⟩ := hrel
            obtain ⟨c0, c1⟩ := KS.out _ HBy.out
            by_cases hyn : y ≤ n
            · go_wp2_with fail
              clear c0 c1
              go_loopw [8] (fun s wr => ∃ t : Nat, t ≤ n + 1 ∧ s = .int .i64 t ∧ Hid (∀ k, k < t → okT n l x y k = true) ∧ Hid (Below w0.heap.size w0 wr)) (fun s _ => n + 1 - (intOf s).toNat)
              case atStart => exact ⟨0, by omega, rfl, Lib.hid (fun k hk => by omega), HBy⟩
              case round =>
                obtain ⟨z, hz, rfl, HZ, HBz⟩ := hrel
                obtain ⟨c0, c1⟩ := KS.out _ HBz.out
                by_cases hzn : z ≤ n
                · have HT := Lib.hid (show okT n l x y z = decide (Zo.At n l x y ≤ Zo.smW (Zo.At n l x z) (Zo.At n l z y)) from rfl)
                  go_wp2_with fail
                  have s1 := HBz.out.drew
                  go_region_held3 (fun w' => w'.cell? ⟨w.heap.size, 0, none⟩ = some (.int .i64 n) ∧ w'.cell? ⟨w.heap.size, 1, none⟩ = some (.slice (some a) len cap)) (first | exact KS.out _ (by assumption))
                    (first | (go_at_call 18; refine (A9.out _ _ (by assumption) (by assumption) _ (by assumption)).mono ?_; rintro e w2 ⟨rfl, s2⟩) | (go_at_call 39; refine (M9.out _ _ _ (by assumption)).mono ?_; rintro e w3 ⟨rfl, s3⟩))
                  all_goals
                    have S3 := Lib.hid s3
                    clear s3
                    generalize Zo.At n l x y = p at *
                    generalize Zo.smW (Zo.At n l x z) (Zo.At n l z y) = q at *
                    by_cases hpq : p ≤ q
                    · have HT2 := Lib.hid (show okT n l x y z = true by rw [HT.out]; simpa using hpq)
                      have D : decide (q < p) = false := by simp; omega
                      go_wp2_with fail
                      go_roundw
                      case rel =>
                        refine ⟨z + 1, by omega, by go_num, Lib.hid (fun k hk => ?_), S3⟩
                        by_cases e : k = z
                        · rw [e]; exact HT2.out
                        · exact HZ.out k (by omega)
                      case measure => simp [intOf]; omega
                    · have HE := Lib.hid (chkE_bad4 (l := l) (n := n) (i := x) (j := y) (k := z) (by omega) (by omega) (by omega) (by rw [HT.out]; simpa using hpq))
                      have D : decide (q < p) = true := by simp; omega
                      go_wp2_with fail
                      go_ret
                      exact ⟨ret_int HE.out.symm, below_on E0.out S3.out⟩
                · have HY2 := Lib.hid (show ∀ j, j < y + 1 → ∀ k, k < n + 1 → okT n l x j k = true from fun j hj k hk => by
                    by_cases e : j = y
                    · rw [e]; exact HZ.out k (by omega)
                    · exact HY.out j (by omega) k hk)
                  go_wp2_with fail
                  go_roundw
                  case rel => exact ⟨y + 1, by omega, by go_num, HY2, HBz⟩
                  case measure => simp [intOf]; omega
            · have HX2 := Lib.hid (show ∀ i, i < x + 1 → ∀ j, j < n + 1 → ∀ k, k < n + 1 → okT n l i j k = true from fun i hi j hj k hk => by
                by_cases e : i = x
                · rw [e]; exact HY.out j (by omega) k hk
                · exact HX.out i (by omega) j hj k hk)
              go_wp2_with fail
              go_roundw
              case rel => exact ⟨x + 1, by omega, by go_num, HX2, HBy⟩
              case measure => simp [intOf]; omega
        · have HE := Lib.hid (chkE_ok hn HL.out HI2.out (fun i hi j hj k hk => HX.out i (by omega) j hj k hk))
          go_wp2_with fail
          go_ret
          exact ⟨ret_int HE.out.symm, below_on E0.out HBx.out⟩
end Go.Proofs.Ytgdcclldgfcilaa
