/- What all contracts have in common: calls that return a value and leave all memory from before as it was; cells and blocks of two integers behind such calls. Nothing of the program is named here.; Plain mathematics of limits: what the functions of package limit return, as numbers. Nothing of the program is named here.; Contracts of package limit and of its reference, but for Meets and Text: they read nothing and make nothing.; Plain mathematics of bounds: sums of limits of any size, with 'none' above all; shortest paths by the rule of Floyd and Warshall. Nothing of the program is named here.; Plain mathematics of bounds: matrices as lists of integers, closed in place; what becomes of them where the diagonal stays. Nothing of the program is named here. -/
import Derived.Test.YtbnebinpemejlaaRows
import Derived.WalkKit
import Derived.WalkSpells
import Derived.WalkLawsBesides
import Derived.Deep.QuietTactic
import Derived.BigQuiet
import Derived.Deep.RegionHeld3
import Derived.Lib.Hide
import Derived.Laws.EntriesVeiled

namespace Go.Proofs.Ytbnebinpemejlaa
open Go.RowKit

/-- What fits an int64. -/
def I64 (x : Int) : Prop := -9223372036854775808 ≤ x ∧ x ≤ 9223372036854775807

theorem i64lit (x : Int) (h1 : -9223372036854775808 ≤ x) (h2 : x ≤ 9223372036854775807) : I64 x := ⟨h1, h2⟩

theorem ret_int {k : IntKind} {a b : Int} (h : a = b) : Ending.returned (.int k a) = .returned (.int k b) := by rw [h]

def Drawn (v : Value) (w : World) (e : Ending) (w' : World) : Prop := e = .returned v ∧ ∃ n, w' = w.drewN n

/-- A call that returns v, and leaves all memory from before as it was. -/
def Made (v : Value) (w : World) (e : Ending) (w' : World) : Prop := e = .returned v ∧ Below w.heap.size w w'

/-- What was there before a call that only makes memory is there behind it. -/
theorem bcell {B : Nat} {W w1 : World} (hb : Below B W w1) : (∀ b o, b < B → w1.cell? ⟨b, o, none⟩ = W.cell? ⟨b, o, none⟩) ∧ (∀ b o, b < B → w1.frozen? ⟨b, o, none⟩ = W.frozen? ⟨b, o, none⟩) :=
  ⟨fun b o h => hb.cell (p := ⟨b, o, none⟩) h, fun b o h => hb.frozen (p := ⟨b, o, none⟩) h⟩

theorem ret_bool {a b : Bool} (h : a = b) : Ending.returned (.bool a) = .returned (.bool b) := by rw [h]

theorem two_below {w w1 : World} (hb : Below w.heap.size w w1) (n : Nat) (x y : Value) : Below w.heap.size w (((w1.drewN n).setCell ⟨w.heap.size, 0, none⟩ x).setCell ⟨w.heap.size, 1, none⟩ y) :=
  ((below_drewN hb n).setCell (Nat.le_refl _) x).setCell (Nat.le_refl _) y

theorem past_one {w w1 : World} {o : Obj} (hb : Below (w.alloc o).heap.size (w.alloc o) w1) : Below w.heap.size w w1 :=
  ((Below.refl _ _).alloc (Nat.le_refl _) o).trans (hb.mono (by simp))

theorem past_two {w w1 : World} {o1 o2 : Obj} (hb : Below ((w.alloc o1).alloc o2).heap.size ((w.alloc o1).alloc o2) w1) : Below w.heap.size w w1 :=
  past_one (past_one hb)

theorem past_three {w w1 : World} {o1 o2 o3 : Obj} (hb : Below (((w.alloc o1).alloc o2).alloc o3).heap.size (((w.alloc o1).alloc o2).alloc o3) w1) : Below w.heap.size w w1 :=
  past_one ((past_one ((past_one hb))))

theorem below_on {X w1 w2 : World} (hb : Below X.heap.size X w1) (hb2 : Below w1.heap.size w1 w2) : Below X.heap.size X w2 := hb.trans (hb2.mono hb.size)

theorem ret_two {k1 k2 : IntKind} {a b c d : Int} (h : a = b) (g : c = d) : Ending.returned (.tuple #[.int k1 a, .int k2 c]) = .returned (.tuple #[.int k1 b, .int k2 d]) := by rw [h, g]

theorem wrap_in (x : Int) (h1 : -9223372036854775808 ≤ x) (h2 : x ≤ 9223372036854775807) : IntKind.i64.wrap x = x := by
  simp [IntKind.wrap, IntKind.bits, IntKind.signed]
  omega

theorem w64min : wrap64 9223372036854775808 = -9223372036854775808 := by unfold wrap64; omega

/-- What a world had it has behind a call that only makes memory; and so does a new block of two cells. -/
theorem kept {w1 w2 : World} (hb : Below w1.heap.size w1 w2) {p : Addr} {v : Value} (h : w1.cell? p = some v) : w2.cell? p = some v := by
  rw [hb.cell (World.block_lt_of_cell? w1 _ h)]; exact h

theorem one_more {w1 : World} (o : Obj) : Below w1.heap.size w1 (w1.alloc o) := (Below.refl _ _).alloc (Nat.le_refl _) o

theorem boxed {w1 w2 : World} {x y : Value} {t : TypeId} (hb : Below (w1.alloc (.cells #[x, y] t)).heap.size (w1.alloc (.cells #[x, y] t)) w2) :
    w2.cell? ⟨w1.heap.size, 0, none⟩ = some x ∧ w2.cell? ⟨w1.heap.size, 1, none⟩ = some y ∧ w1.heap.size + 1 ≤ w2.heap.size := by
  refine ⟨kept hb (by go_simp), kept hb (by go_simp), ?_⟩
  have := hb.size; simpa using this

theorem on_box {w w1 w2 : World} {o : Obj} (hB : Below w.heap.size w w1) (hb : Below (w1.alloc o).heap.size (w1.alloc o) w2) : Below w.heap.size w w2 :=
  below_on hB (past_one hb)

/-- A cell that holds v and may be written. -/
def Cell (w : World) (p : Addr) (v : Value) : Prop := w.cell? p = some v ∧ w.frozen? p = false

theorem Cell.lt {w : World} {p : Addr} {v : Value} (h : Cell w p v) : p.block < w.heap.size := World.block_lt_of_cell? w _ h.1

theorem Cell.kept {w w' : World} {p : Addr} {v : Value} (h : Cell w p v) (hb : Below w.heap.size w w') : Cell w' p v :=
  ⟨by rw [hb.cell h.lt]; exact h.1, by rw [hb.frozen h.lt]; exact h.2⟩

theorem Cell.same {w : World} {p : Addr} {v : Value} (h : Cell w p v) (x : Value) : Cell (w.setCell p x) p x :=
  ⟨World.cell?_setCell_same _ _ _ h.1, by rw [World.frozen?_setCell]; exact h.2⟩

theorem Cell.other {w : World} {p q : Addr} {v : Value} (h : Cell w q v) (hne : p ≠ q) (x : Value) : Cell (w.setCell p x) q v :=
  ⟨(World.cell?_setCell_other _ _ _ _ hne).trans h.1, by rw [World.frozen?_setCell]; exact h.2⟩

/-- Block b holds the two integers x and y. -/
def Pair (w : World) (b : Nat) (x y : Int) : Prop := Cell w ⟨b, 0, none⟩ (.int .i64 x) ∧ Cell w ⟨b, 1, none⟩ (.int .i64 y)

theorem Pair.lt {w : World} {b : Nat} {x y : Int} (h : Pair w b x y) : b < w.heap.size := h.1.lt

theorem Pair.kept {w w' : World} {b : Nat} {x y : Int} (h : Pair w b x y) (hb : Below w.heap.size w w') : Pair w' b x y := ⟨h.1.kept hb, h.2.kept hb⟩

theorem Pair.made (w : World) (x y : Int) (t : TypeId) : Pair (w.alloc (.cells #[.int .i64 x, .int .i64 y] t)) w.heap.size x y :=
  ⟨⟨by go_simp, by go_simp⟩, ⟨by go_simp, by go_simp⟩⟩

theorem Pair.alloc {w : World} {b : Nat} {x y : Int} (h : Pair w b x y) (o : Obj) : Pair (w.alloc o) b x y := h.kept (one_more o)

theorem Pair.drawn {w : World} {b : Nat} {x y : Int} (h : Pair w b x y) (n : Nat) : Pair (w.drewN n) b x y := h.kept (below_drewN (Below.refl _ _) n)

theorem Pair.put {w : World} {b : Nat} {x y : Int} (h : Pair w b x y) (x' y' : Int) : Pair ((w.setCell ⟨b, 0, none⟩ (.int .i64 x')).setCell ⟨b, 1, none⟩ (.int .i64 y')) b x' y' :=
  ⟨((h.1.same _).other (by simp) _), ((h.2.other (by simp) _).same _)⟩

theorem Pair.aside {w : World} {b b' : Nat} {x y : Int} (h : Pair w b x y) (hne : b' ≠ b) (x' y' : Value) : Pair ((w.setCell ⟨b', 0, none⟩ x').setCell ⟨b', 1, none⟩ y') b x y :=
  ⟨((h.1.other (fun e => hne (congrArg Addr.block e)) _).other (fun e => hne (congrArg Addr.block e)) _), ((h.2.other (fun e => hne (congrArg Addr.block e)) _).other (fun e => hne (congrArg Addr.block e)) _)⟩

/-- What the walk reads off. -/
theorem Pair.facts {w : World} {b : Nat} {x y : Int} (h : Pair w b x y) : w.cell? ⟨b, 0, none⟩ = some (.int .i64 x) ∧ w.cell? ⟨b, 1, none⟩ = some (.int .i64 y) ∧ w.frozen? ⟨b, 0, none⟩ = false ∧ w.frozen? ⟨b, 1, none⟩ = false :=
  ⟨h.1.1, h.2.1, h.1.2, h.2.2⟩

theorem below_put {w w1 : World} (hb : Below w.heap.size w w1) {b : Nat} (hB : w.heap.size ≤ b) (x y : Value) : Below w.heap.size w ((w1.setCell ⟨b, 0, none⟩ x).setCell ⟨b, 1, none⟩ y) :=
  (hb.setCell hB x).setCell hB y

/-- Behind the first call of a function with two such parameters. -/
theorem two_pairs {w w1 : World} {n d m c : Int} {t : TypeId} (hb : Below ((w.alloc (.cells #[.int .i64 n, .int .i64 d] t)).alloc (.cells #[.int .i64 m, .int .i64 c] t)).heap.size ((w.alloc (.cells #[.int .i64 n, .int .i64 d] t)).alloc (.cells #[.int .i64 m, .int .i64 c] t)) w1) :
    Pair w1 w.heap.size n d ∧ Pair w1 (w.heap.size + 1) m c ∧ w.heap.size + 2 ≤ w1.heap.size ∧ Below w.heap.size w w1 := by
  have hB := (Pair.made (w.alloc (.cells #[.int .i64 n, .int .i64 d] t)) m c t).kept hb
  refine ⟨((Pair.made w n d t).alloc _).kept hb, by simpa using hB, ?_, past_two hb⟩
  have := hb.size; simpa using this

theorem three_pairs {w w1 : World} {n d m c k l : Int} {t : TypeId} (hb : Below (((w.alloc (.cells #[.int .i64 n, .int .i64 d] t)).alloc (.cells #[.int .i64 m, .int .i64 c] t)).alloc (.cells #[.int .i64 k, .int .i64 l] t)).heap.size (((w.alloc (.cells #[.int .i64 n, .int .i64 d] t)).alloc (.cells #[.int .i64 m, .int .i64 c] t)).alloc (.cells #[.int .i64 k, .int .i64 l] t)) w1) :
    Pair w1 w.heap.size n d ∧ Pair w1 (w.heap.size + 1) m c ∧ Pair w1 (w.heap.size + 2) k l ∧ w.heap.size + 3 ≤ w1.heap.size ∧ Below w.heap.size w w1 := by
  have hB := ((Pair.made (w.alloc (.cells #[.int .i64 n, .int .i64 d] t)) m c t).alloc (.cells #[.int .i64 k, .int .i64 l] t)).kept hb
  have hC := (Pair.made ((w.alloc (.cells #[.int .i64 n, .int .i64 d] t)).alloc (.cells #[.int .i64 m, .int .i64 c] t)) k l t).kept hb
  refine ⟨(((Pair.made w n d t).alloc _).alloc _).kept hb, by simpa using hB, by simpa using hC, ?_, past_three hb⟩
  have := hb.size; simpa using this

theorem on_put {w w1 w2 : World} {b : Nat} {x y : Value} (hB : Below w.heap.size w w1) (hle : w.heap.size ≤ b) (hb : Below ((w1.setCell ⟨b, 0, none⟩ x).setCell ⟨b, 1, none⟩ y).heap.size ((w1.setCell ⟨b, 0, none⟩ x).setCell ⟨b, 1, none⟩ y) w2) : Below w.heap.size w w2 :=
  (below_put hB hle x y).trans (hb.mono (below_put hB hle x y).size)
end Go.Proofs.Ytbnebinpemejlaa

namespace Go.Proofs.Ytbnebinpemejlaa

/-- A limit is 1099511627776 (none), or 2 c or 2 c + 1 for a constant c from -1073741824 to 1073741824. -/
def lvB (l : Int) : Bool := decide (l = 1099511627776 ∨ (-2147483648 ≤ l ∧ l ≤ 2147483649))

def noB (l : Int) : Bool := decide (l = 1099511627776)

def evB (l : Int) : Bool := decide (l % 2 = 0)

def jnL (c : Int) (s : Bool) : Int := if -1073741824 ≤ c ∧ c ≤ 1073741824 then (if s then 2 * c else 2 * c + 1) else 0

def jnE (c : Int) : Int := if -1073741824 ≤ c ∧ c ≤ 1073741824 then 0 else 7

def spC (l : Int) : Int := if lvB l && !noB l then l / 2 else 0

def spS (l : Int) : Bool := lvB l && !noB l && evB l

def spE (l : Int) : Int := if lvB l then (if noB l then 4 else 0) else 2

def adL (a b : Int) : Int := if lvB a && lvB b then (if noB a || noB b then 1099511627776 else jnL (a / 2 + b / 2) (evB a || evB b)) else 0

def adE (a b : Int) : Int := if lvB a && lvB b then (if noB a || noB b then 0 else jnE (a / 2 + b / 2)) else 2

def ntL (a : Int) : Int := if lvB a && !noB a then 1 - a else 0

theorem lvB_no {l : Int} (h : l ≠ 1099511627776) (g : l < -2147483648 ∨ 2147483649 < l) : lvB l = false := by unfold lvB; simp; omega

theorem lvB_yes {l : Int} (h : l = 1099511627776 ∨ (-2147483648 ≤ l ∧ l ≤ 2147483649)) : lvB l = true := by unfold lvB; simpa using h

theorem lvB_cases (l : Int) : (lvB l = false ∧ noB l = false ∧ l ≠ 1099511627776 ∧ (l < -2147483648 ∨ 2147483649 < l)) ∨ (l = 1099511627776 ∧ lvB l = true ∧ noB l = true) ∨ (lvB l = true ∧ noB l = false ∧ l ≠ 1099511627776 ∧ -2147483648 ≤ l ∧ l ≤ 2147483649) := by
  unfold lvB noB
  by_cases h : l = 1099511627776
  · simp [h]
  · simp [h]; omega

theorem ad_bad1 {a : Int} (b : Int) (h : lvB a = false) : adL a b = 0 ∧ adE a b = 2 := by simp [adL, adE, h]

theorem ad_bad2 (a : Int) {b : Int} (h : lvB b = false) : adL a b = 0 ∧ adE a b = 2 := by simp [adL, adE, h]

theorem ad_none {a b : Int} (h : lvB a = true) (g : lvB b = true) (k : (noB a || noB b) = true) : adL a b = 1099511627776 ∧ adE a b = 0 := by simp only [adL, adE, h, g, k]; simp

theorem ad_some {a b : Int} (h : lvB a = true) (g : lvB b = true) (k : noB a = false) (l : noB b = false) : adL a b = jnL (a / 2 + b / 2) (evB a || evB b) ∧ adE a b = jnE (a / 2 + b / 2) := by simp [adL, adE, h, g, k, l]

theorem nt_some {a : Int} (h : lvB a = true) (k : noB a = false) (a1 : -2147483648 ≤ a) (a2 : a ≤ 2147483649) : ntL a = jnL (-(a / 2)) (!evB a) ∧ spE a = jnE (-(a / 2)) := by
  rw [show ntL a = 1 - a by simp [ntL, h, k], show spE a = 0 by simp [spE, h, k]]
  unfold jnL jnE evB
  rw [if_pos (And.intro (by omega) (by omega)), if_pos (And.intro (by omega) (by omega))]
  by_cases e : a % 2 = 0
  · simp [e]; omega
  · simp [e]; omega
end Go.Proofs.Ytbnebinpemejlaa

namespace Go.Proofs.Ytbnebinpemejlaa
open Go.RowKit

/-- A call that returns v, and leaves the world as it was. -/
def Still (v : Value) (w : World) (e : Ending) (w' : World) : Prop := e = .returned v ∧ w' = w

theorem ret_li {a b c d : Int} (h : a = b) (g : c = d) : Ending.returned (.tuple #[.int .i64 a, .int .i64 c]) = .returned (.tuple #[.int .i64 b, .int .i64 d]) := by rw [h, g]

theorem ret_cs {a b : Int} {c d : Bool} (h : a = b) (g : c = d) : Ending.returned (.tuple #[.int .i64 a, .bool c]) = .returned (.tuple #[.int .i64 b, .bool d]) := by rw [h, g]

theorem ret_cse {a b x y : Int} {c d : Bool} (h : a = b) (g : c = d) (k : x = y) : Ending.returned (.tuple #[.int .i64 a, .bool c, .int .i64 x]) = .returned (.tuple #[.int .i64 b, .bool d, .int .i64 y]) := by rw [h, g, k]

set_option maxHeartbeats 400000 in
theorem limValid_any (l : Int) (w : World) (hl : I64 l) : Calls Try.prog 75 #[.int .i64 l] w (Still (.bool (lvB l)) w) := by
  by_cases h0 : l = 1099511627776
  · have H := Lib.hid (lvB_yes (Or.inl h0))
    subst h0
    go_enter Try.func75, Try.ntmps75
    go_wp2_with fail
    go_ret
    exact ⟨ret_bool (by rw [H.out]), rfl⟩
  have B0 : (l == 1099511627776) = false := by simpa using h0
  by_cases h1 : l < -2147483648
  · have H := Lib.hid (lvB_no h0 (Or.inl h1))
    have D : decide ((-2147483648 : Int) ≤ l) = false := by simp; omega
    go_enter Try.func75, Try.ntmps75
    go_wp2_with fail
    go_ret
    exact ⟨ret_bool (by rw [H.out]), rfl⟩
  by_cases h2 : 2147483649 < l
  · have H := Lib.hid (lvB_no h0 (Or.inr h2))
    have D : decide (l ≤ (2147483649 : Int)) = false := by simp; omega
    go_enter Try.func75, Try.ntmps75
    go_wp2_with fail
    go_ret
    exact ⟨ret_bool (by rw [H.out]), rfl⟩
  · have H := Lib.hid (lvB_yes (l := l) (Or.inr ⟨by omega, by omega⟩))
    go_enter Try.func75, Try.ntmps75
    go_wp2_with fail
    go_ret
    exact ⟨ret_bool (by rw [H.out]), rfl⟩

set_option maxHeartbeats 400000 in
theorem refLimValid_any (l : Int) (w : World) (hl : I64 l) : Calls Try.prog 64 #[.int .i64 l] w (Still (.bool (lvB l)) w) := by
  by_cases h0 : l = 1099511627776
  · have H := Lib.hid (lvB_yes (Or.inl h0))
    subst h0
    go_enter Try.func64, Try.ntmps64
    go_wp2_with fail
    go_ret
    exact ⟨ret_bool (by rw [H.out]), rfl⟩
  have B0 : (l == 1099511627776) = false := by simpa using h0
  by_cases h1 : l < -2147483648
  · have H := Lib.hid (lvB_no h0 (Or.inl h1))
    have D : decide ((-2147483648 : Int) ≤ l) = false := by simp; omega
    go_enter Try.func64, Try.ntmps64
    go_wp2_with fail
    go_ret
    exact ⟨ret_bool (by rw [H.out]), rfl⟩
  by_cases h2 : 2147483649 < l
  · have H := Lib.hid (lvB_no h0 (Or.inr h2))
    have D : decide (l ≤ (2147483649 : Int)) = false := by simp; omega
    go_enter Try.func64, Try.ntmps64
    go_wp2_with fail
    go_ret
    exact ⟨ret_bool (by rw [H.out]), rfl⟩
  · have H := Lib.hid (lvB_yes (l := l) (Or.inr ⟨by omega, by omega⟩))
    go_enter Try.func64, Try.ntmps64
    go_wp2_with fail
    go_ret
    exact ⟨ret_bool (by rw [H.out]), rfl⟩

set_option maxHeartbeats 400000 in
theorem limValid_free (l : Int) (w : World) : Calls Try.prog 75 #[.int .i64 l] w (Still (.bool (lvB l)) w) := by
  by_cases h0 : l = 1099511627776
  · have H := Lib.hid (lvB_yes (Or.inl h0))
    subst h0
    go_enter Try.func75, Try.ntmps75
    go_wp2_with fail
    go_ret
    exact ⟨ret_bool (by rw [H.out]), rfl⟩
  have B0 : (l == 1099511627776) = false := by simpa using h0
  by_cases h1 : l < -2147483648
  · have H := Lib.hid (lvB_no h0 (Or.inl h1))
    have D : decide ((-2147483648 : Int) ≤ l) = false := by simp; omega
    go_enter Try.func75, Try.ntmps75
    go_wp2_with fail
    go_ret
    exact ⟨ret_bool (by rw [H.out]), rfl⟩
  by_cases h2 : 2147483649 < l
  · have H := Lib.hid (lvB_no h0 (Or.inr h2))
    have D : decide (l ≤ (2147483649 : Int)) = false := by simp; omega
    go_enter Try.func75, Try.ntmps75
    go_wp2_with fail
    go_ret
    exact ⟨ret_bool (by rw [H.out]), rfl⟩
  · have H := Lib.hid (lvB_yes (l := l) (Or.inr ⟨by omega, by omega⟩))
    go_enter Try.func75, Try.ntmps75
    go_wp2_with fail
    go_ret
    exact ⟨ret_bool (by rw [H.out]), rfl⟩

set_option maxHeartbeats 400000 in
theorem refLimValid_free (l : Int) (w : World) : Calls Try.prog 64 #[.int .i64 l] w (Still (.bool (lvB l)) w) := by
  by_cases h0 : l = 1099511627776
  · have H := Lib.hid (lvB_yes (Or.inl h0))
    subst h0
    go_enter Try.func64, Try.ntmps64
    go_wp2_with fail
    go_ret
    exact ⟨ret_bool (by rw [H.out]), rfl⟩
  have B0 : (l == 1099511627776) = false := by simpa using h0
  by_cases h1 : l < -2147483648
  · have H := Lib.hid (lvB_no h0 (Or.inl h1))
    have D : decide ((-2147483648 : Int) ≤ l) = false := by simp; omega
    go_enter Try.func64, Try.ntmps64
    go_wp2_with fail
    go_ret
    exact ⟨ret_bool (by rw [H.out]), rfl⟩
  by_cases h2 : 2147483649 < l
  · have H := Lib.hid (lvB_no h0 (Or.inr h2))
    have D : decide (l ≤ (2147483649 : Int)) = false := by simp; omega
    go_enter Try.func64, Try.ntmps64
    go_wp2_with fail
    go_ret
    exact ⟨ret_bool (by rw [H.out]), rfl⟩
  · have H := Lib.hid (lvB_yes (l := l) (Or.inr ⟨by omega, by omega⟩))
    go_enter Try.func64, Try.ntmps64
    go_wp2_with fail
    go_ret
    exact ⟨ret_bool (by rw [H.out]), rfl⟩

theorem limValid_as {l : Int} {b : Bool} (w : World) (hl : I64 l) (h : lvB l = b) : Calls Try.prog 75 #[.int .i64 l] w (Still (.bool b) w) := by
  rw [← h]; exact limValid_any l w hl

theorem refLimValid_as {l : Int} {b : Bool} (w : World) (hl : I64 l) (h : lvB l = b) : Calls Try.prog 64 #[.int .i64 l] w (Still (.bool b) w) := by
  rw [← h]; exact refLimValid_any l w hl

set_option maxHeartbeats 400000 in
theorem join_any (c : Int) (s : Bool) (w : World) : Calls Try.prog 140 #[.int .i64 c, .bool s] w (Still (.tuple #[.int .i64 (jnL c s), .int .i64 (jnE c)]) w) := by
  by_cases h1 : c < -1073741824
  · have H := Lib.hid (show jnL c s = 0 ∧ jnE c = 7 by unfold jnL jnE; rw [if_neg (by omega), if_neg (by omega)]; simp)
    go_enter Try.func140, Try.ntmps140
    go_wp2_with fail
    go_ret2
    exact ⟨ret_li H.out.1.symm H.out.2.symm, rfl⟩
  by_cases h2 : 1073741824 < c
  · have H := Lib.hid (show jnL c s = 0 ∧ jnE c = 7 by unfold jnL jnE; rw [if_neg (by omega), if_neg (by omega)]; simp)
    go_enter Try.func140, Try.ntmps140
    go_wp2_with fail
    go_ret2
    exact ⟨ret_li H.out.1.symm H.out.2.symm, rfl⟩
  cases s
  · have H := Lib.hid (show jnL c false = 2 * c + 1 ∧ jnE c = 0 by unfold jnL jnE; rw [if_pos (And.intro (by omega) (by omega)), if_pos (And.intro (by omega) (by omega))]; simp)
    go_enter Try.func140, Try.ntmps140
    go_wp2_with fail
    go_ret2
    exact ⟨ret_li H.out.1.symm H.out.2.symm, rfl⟩
  · have H := Lib.hid (show jnL c true = 2 * c ∧ jnE c = 0 by unfold jnL jnE; rw [if_pos (And.intro (by omega) (by omega)), if_pos (And.intro (by omega) (by omega))]; simp)
    go_enter Try.func140, Try.ntmps140
    go_wp2_with fail
    go_ret2
    exact ⟨ret_li H.out.1.symm H.out.2.symm, rfl⟩

set_option maxHeartbeats 400000 in
theorem weak_any (c : Int) (w : World) : Calls Try.prog 120 #[.int .i64 c] w (Still (.tuple #[.int .i64 (jnL c false), .int .i64 (jnE c)]) w) := by
  go_enter Try.func120, Try.ntmps120
  go_wp2_with fail
  refine (join_any _ _ _).mono ?_
  rintro e w' ⟨rfl, rfl⟩
  go_wp2_with fail
  go_ret2
  exact ⟨rfl, rfl⟩

/-- 'b & 1' of an int64 is its rest modulo 2. -/
theorem and1_i64 (l : Int) : bits .and .i64 l 1 = l % 2 := by
  show IntKind.i64.wrap (((BitVec.ofInt 64 l &&& BitVec.ofInt 64 1).toNat : Nat) : Int) = _
  have h1 : (BitVec.ofInt 64 1).toNat = 1 := by decide
  rw [BitVec.toNat_and, h1, Nat.and_one_is_mod, BitVec.toNat_ofInt]
  have h2 : 0 ≤ l % 2 ∧ l % 2 < 2 := by omega
  have h3 : (((l % ((2 ^ 64 : Nat) : Int)).toNat % 2 : Nat) : Int) = l % 2 := by
    have : ((2 ^ 64 : Nat) : Int) = 18446744073709551616 := by decide
    rw [this]; omega
  rw [h3]
  simp [IntKind.wrap, IntKind.bits, IntKind.signed]
  omega

theorem and1_ev (l : Int) : (bits .and .i64 l 1 == 0) = evB l := by rw [and1_i64]; unfold evB; rw [Bool.eq_iff_iff]; simp

set_option maxHeartbeats 400000 in
theorem split_any (l : Int) (w : World) : Calls Try.prog 149 #[.int .i64 l] w (Still (.tuple #[.int .i64 (l / 2), .bool (evB l)]) w) := by
  go_enter Try.func149, Try.ntmps149
  go_wp2_with fail
  go_ret2
  exact ⟨ret_cs rfl (and1_ev l), rfl⟩

set_option maxHeartbeats 400000 in
theorem limSplit_any (l : Int) (w : World) (hl : I64 l) : Calls Try.prog 128 #[.int .i64 l] w (Still (.tuple #[.int .i64 (spC l), .bool (spS l), .int .i64 (spE l)]) w) := by
  rcases lvB_cases l with ⟨hv, hn, h0, hr⟩ | ⟨rfl, hv, hn⟩ | ⟨hv, hn, h0, h1, h2⟩
  · have H := Lib.hid (show spC l = 0 ∧ spS l = false ∧ spE l = 2 by simp [spC, spS, spE, hv])
    have V := Lib.hid hv
    clear hv hn
    go_enter Try.func128, Try.ntmps128
    go_wp2_with fail
    refine (limValid_as _ hl V.out).mono ?_
    rintro e w' ⟨rfl, rfl⟩
    go_wp2_with fail
    go_ret3
    exact ⟨ret_cse H.out.1.symm H.out.2.1.symm H.out.2.2.symm, rfl⟩
  · have H := Lib.hid (show spC 1099511627776 = 0 ∧ spS 1099511627776 = false ∧ spE 1099511627776 = 4 by decide)
    have V := Lib.hid hv
    clear hv hn
    go_enter Try.func128, Try.ntmps128
    go_wp2_with fail
    refine (limValid_as _ hl V.out).mono ?_
    rintro e w' ⟨rfl, rfl⟩
    go_wp2_with fail
    go_ret3
    exact ⟨ret_cse H.out.1.symm H.out.2.1.symm H.out.2.2.symm, rfl⟩
  · have H := Lib.hid (show spC l = l / 2 ∧ spS l = evB l ∧ spE l = 0 by simp [spC, spS, spE, hv, hn])
    have V := Lib.hid hv
    clear hv hn
    have B0 : (l == 1099511627776) = false := by simpa using h0
    go_enter Try.func128, Try.ntmps128
    go_wp2_with fail
    refine (limValid_as _ hl V.out).mono ?_
    rintro e w' ⟨rfl, rfl⟩
    go_wp2_with fail
    refine (split_any l _).mono ?_
    rintro e w' ⟨rfl, rfl⟩
    go_wp2_with fail
    go_ret3
    exact ⟨ret_cse H.out.1.symm H.out.2.1.symm H.out.2.2.symm, rfl⟩

theorem quo_ev (l : Int) (h : l % 2 = 0) : l.tdiv 2 = l / 2 ∧ l.tmod 2 = 0 := by
  obtain ⟨k, rfl⟩ : ∃ k, l = 2 * k := ⟨l / 2, by omega⟩
  rw [Int.mul_tdiv_cancel_left _ (by omega), Int.mul_tmod_right]; omega

theorem quo_odd (l : Int) (h : ¬ l % 2 = 0) : (l - 1).tdiv 2 = l / 2 ∧ l.tmod 2 ≠ 0 := by
  obtain ⟨k, rfl⟩ : ∃ k, l = 2 * k + 1 := ⟨l / 2, by omega⟩
  have e : 2 * k + 1 - 1 = 2 * k := by omega
  have d := Int.mul_tdiv_add_tmod (2 * k + 1) 2
  rw [e, Int.mul_tdiv_cancel_left _ (by omega)]
  omega

set_option maxHeartbeats 400000 in
theorem sum_any (a b : Int) (w : World) (ha : -2147483648 ≤ a ∧ a ≤ 2147483649) (hb : -2147483648 ≤ b ∧ b ≤ 2147483649) :
    Calls Try.prog 159 #[.int .i64 a, .int .i64 b, .func (.func 149) #[] #[]] w (Still (.tuple #[.int .i64 (a / 2 + b / 2), .bool (evB a || evB b)]) w) := by
  obtain ⟨a1, a2⟩ := ha
  obtain ⟨b1, b2⟩ := hb
  have p1 := fun W => split_any a W
  have p2 := fun W => split_any b W
  generalize he : evB a = ea at p1
  generalize hf : evB b = eb at p2
  have P1 := Lib.hid p1
  have P2 := Lib.hid p2
  clear p1 p2 he hf
  cases ea
  · go_enter Try.func159, Try.ntmps159
    go_wp2_with fail
    refine (P1.out _).mono ?_
    rintro e w' ⟨rfl, rfl⟩
    go_wp2_with fail
    refine (P2.out _).mono ?_
    rintro e w' ⟨rfl, rfl⟩
    go_wp2_with fail
    go_ret2
    exact ⟨rfl, rfl⟩
  · go_enter Try.func159, Try.ntmps159
    go_wp2_with fail
    refine (P1.out _).mono ?_
    rintro e w' ⟨rfl, rfl⟩
    go_wp2_with fail
    refine (P2.out _).mono ?_
    rintro e w' ⟨rfl, rfl⟩
    go_wp2_with fail
    go_ret2
    exact ⟨rfl, rfl⟩

theorem limSplit_some {l : Int} (w : World) (hl : I64 l) (hv : lvB l = true) (hn : noB l = false) : Calls Try.prog 128 #[.int .i64 l] w (Still (.tuple #[.int .i64 (l / 2), .bool (evB l), .int .i64 0]) w) := by
  have h := limSplit_any l w hl
  rwa [show spC l = l / 2 by simp [spC, hv, hn], show spS l = evB l by simp [spS, hv, hn], show spE l = 0 by simp [spE, hv, hn]] at h

theorem limSplit_bad {l : Int} (w : World) (hl : I64 l) (hv : lvB l = false) : Calls Try.prog 128 #[.int .i64 l] w (Still (.tuple #[.int .i64 0, .bool false, .int .i64 2]) w) := by
  have h := limSplit_any l w hl
  rwa [show spC l = 0 by simp [spC, hv], show spS l = false by simp [spS, hv], show spE l = 2 by simp [spE, hv]] at h

set_option maxHeartbeats 800000 in
theorem limAdd_any (a b : Int) (w : World) (ha : I64 a) (hb : I64 b) : Calls Try.prog 150 #[.int .i64 a, .int .i64 b] w (Still (.tuple #[.int .i64 (adL a b), .int .i64 (adE a b)]) w) := by
  rcases lvB_cases a with ⟨va, na, a0, ar⟩ | ⟨a0, va, na⟩ | ⟨va, na, a0, a1, a2⟩ <;> rcases lvB_cases b with ⟨vb, nb, b0, br⟩ | ⟨b0, vb, nb⟩ | ⟨vb, nb, b0, b1, b2⟩
  · have H := Lib.hid (ad_bad1 b va)
    have BA : (a == 1099511627776) = false := by simpa using a0
    have BB : (b == 1099511627776) = false := by simpa using b0
    have VA := Lib.hid va
    have VB := Lib.hid vb
    have NA := Lib.hid na
    have NB := Lib.hid nb
    clear va vb na nb a0 b0
    go_enter Try.func150, Try.ntmps150
    go_wp2_with fail
    refine (limValid_as _ ha VA.out).mono ?_
    rintro e w' ⟨rfl, rfl⟩
    go_wp2_with fail
    go_ret2
    exact ⟨ret_li H.out.1.symm H.out.2.symm, rfl⟩
  · have H := Lib.hid (ad_bad1 b va)
    have BA : (a == 1099511627776) = false := by simpa using a0
    have BB : (b == 1099511627776) = true := by simpa using b0
    have VA := Lib.hid va
    have VB := Lib.hid vb
    have NA := Lib.hid na
    have NB := Lib.hid nb
    clear va vb na nb a0 b0
    go_enter Try.func150, Try.ntmps150
    go_wp2_with fail
    refine (limValid_as _ ha VA.out).mono ?_
    rintro e w' ⟨rfl, rfl⟩
    go_wp2_with fail
    go_ret2
    exact ⟨ret_li H.out.1.symm H.out.2.symm, rfl⟩
  · have H := Lib.hid (ad_bad1 b va)
    have BA : (a == 1099511627776) = false := by simpa using a0
    have BB : (b == 1099511627776) = false := by simpa using b0
    have VA := Lib.hid va
    have VB := Lib.hid vb
    have NA := Lib.hid na
    have NB := Lib.hid nb
    clear va vb na nb a0 b0
    go_enter Try.func150, Try.ntmps150
    go_wp2_with fail
    refine (limValid_as _ ha VA.out).mono ?_
    rintro e w' ⟨rfl, rfl⟩
    go_wp2_with fail
    go_ret2
    exact ⟨ret_li H.out.1.symm H.out.2.symm, rfl⟩
  · have H := Lib.hid (ad_bad2 a vb)
    have BA : (a == 1099511627776) = true := by simpa using a0
    have BB : (b == 1099511627776) = false := by simpa using b0
    have VA := Lib.hid va
    have VB := Lib.hid vb
    have NA := Lib.hid na
    have NB := Lib.hid nb
    clear va vb na nb a0 b0
    go_enter Try.func150, Try.ntmps150
    go_wp2_with fail
    refine (limValid_as _ ha VA.out).mono ?_
    rintro e w' ⟨rfl, rfl⟩
    go_wp2_with fail
    refine (limValid_as _ hb VB.out).mono ?_
    rintro e w' ⟨rfl, rfl⟩
    go_wp2_with fail
    go_ret2
    exact ⟨ret_li H.out.1.symm H.out.2.symm, rfl⟩
  · have H := Lib.hid (ad_none va vb (by simp [na, nb]))
    have BA : (a == 1099511627776) = true := by simpa using a0
    have BB : (b == 1099511627776) = true := by simpa using b0
    have VA := Lib.hid va
    have VB := Lib.hid vb
    have NA := Lib.hid na
    have NB := Lib.hid nb
    clear va vb na nb a0 b0
    go_enter Try.func150, Try.ntmps150
    go_wp2_with fail
    refine (limValid_as _ ha VA.out).mono ?_
    rintro e w' ⟨rfl, rfl⟩
    go_wp2_with fail
    refine (limValid_as _ hb VB.out).mono ?_
    rintro e w' ⟨rfl, rfl⟩
    go_wp2_with fail
    go_ret2
    exact ⟨ret_li H.out.1.symm H.out.2.symm, rfl⟩
  · have H := Lib.hid (ad_none va vb (by simp [na, nb]))
    have BA : (a == 1099511627776) = true := by simpa using a0
    have BB : (b == 1099511627776) = false := by simpa using b0
    have VA := Lib.hid va
    have VB := Lib.hid vb
    have NA := Lib.hid na
    have NB := Lib.hid nb
    clear va vb na nb a0 b0
    go_enter Try.func150, Try.ntmps150
    go_wp2_with fail
    refine (limValid_as _ ha VA.out).mono ?_
    rintro e w' ⟨rfl, rfl⟩
    go_wp2_with fail
    refine (limValid_as _ hb VB.out).mono ?_
    rintro e w' ⟨rfl, rfl⟩
    go_wp2_with fail
    go_ret2
    exact ⟨ret_li H.out.1.symm H.out.2.symm, rfl⟩
  · have H := Lib.hid (ad_bad2 a vb)
    have BA : (a == 1099511627776) = false := by simpa using a0
    have BB : (b == 1099511627776) = false := by simpa using b0
    have VA := Lib.hid va
    have VB := Lib.hid vb
    have NA := Lib.hid na
    have NB := Lib.hid nb
    clear va vb na nb a0 b0
    go_enter Try.func150, Try.ntmps150
    go_wp2_with fail
    refine (limValid_as _ ha VA.out).mono ?_
    rintro e w' ⟨rfl, rfl⟩
    go_wp2_with fail
    refine (limValid_as _ hb VB.out).mono ?_
    rintro e w' ⟨rfl, rfl⟩
    go_wp2_with fail
    go_ret2
    exact ⟨ret_li H.out.1.symm H.out.2.symm, rfl⟩
  · have H := Lib.hid (ad_none va vb (by simp [na, nb]))
    have BA : (a == 1099511627776) = false := by simpa using a0
    have BB : (b == 1099511627776) = true := by simpa using b0
    have VA := Lib.hid va
    have VB := Lib.hid vb
    have NA := Lib.hid na
    have NB := Lib.hid nb
    clear va vb na nb a0 b0
    go_enter Try.func150, Try.ntmps150
    go_wp2_with fail
    refine (limValid_as _ ha VA.out).mono ?_
    rintro e w' ⟨rfl, rfl⟩
    go_wp2_with fail
    refine (limValid_as _ hb VB.out).mono ?_
    rintro e w' ⟨rfl, rfl⟩
    go_wp2_with fail
    go_ret2
    exact ⟨ret_li H.out.1.symm H.out.2.symm, rfl⟩
  · have H := Lib.hid (ad_some va vb na nb)
    have BA : (a == 1099511627776) = false := by simpa using a0
    have BB : (b == 1099511627776) = false := by simpa using b0
    have VA := Lib.hid va
    have VB := Lib.hid vb
    have NA := Lib.hid na
    have NB := Lib.hid nb
    clear va vb na nb a0 b0
    go_enter Try.func150, Try.ntmps150
    go_wp2_with fail
    refine (limValid_as _ ha VA.out).mono ?_
    rintro e w' ⟨rfl, rfl⟩
    go_wp2_with fail
    refine (limValid_as _ hb VB.out).mono ?_
    rintro e w' ⟨rfl, rfl⟩
    go_wp2_with fail
    refine (sum_any _ _ _ ⟨a1, a2⟩ ⟨b1, b2⟩).mono ?_
    rintro e w' ⟨rfl, rfl⟩
    go_wp2_with fail
    refine (join_any _ _ _).mono ?_
    rintro e w' ⟨rfl, rfl⟩
    go_wp2_with fail
    go_ret2
    exact ⟨ret_li H.out.1.symm H.out.2.symm, rfl⟩
end Go.Proofs.Ytbnebinpemejlaa

namespace Go.Proofs.Ytbnebinpemejlaa.Zo

/-- A limit as a number: 2 c + 1 is weak, 2 c strict; none is no limit. -/
abbrev Lm := Option Int

def le : Lm → Lm → Prop
  | _, none => True
  | none, some _ => False
  | some a, some b => a ≤ b

/-- The sum of two limits. -/
def ps (a b : Int) : Int := if a % 2 = 0 ∧ b % 2 = 0 then a + b else a + b - 1

def add : Lm → Lm → Lm
  | some a, some b => some (ps a b)
  | _, _ => none

def mn : Lm → Lm → Lm
  | some a, some b => some (min a b)
  | some a, none => some a
  | none, b => b

theorem ps_comm (a b : Int) : ps a b = ps b a := by unfold ps; split <;> split <;> omega

theorem ps_assoc (a b c : Int) : ps (ps a b) c = ps a (ps b c) := by
  unfold ps
  by_cases ha : a % 2 = 0 <;> by_cases hb : b % 2 = 0 <;> by_cases hc : c % 2 = 0
  all_goals (repeat' split) <;> omega

theorem ps_mono {a a' b b' : Int} (h : a ≤ a') (k : b ≤ b') : ps a b ≤ ps a' b' := by
  unfold ps; split <;> split <;> omega

theorem ps_one (a : Int) : ps a 1 = a := by unfold ps; split <;> omega

theorem one_ps (a : Int) : ps 1 a = a := by rw [ps_comm]; exact ps_one a

theorem le_refl (a : Lm) : le a a := by cases a <;> simp [le]

theorem le_trans {a b c : Lm} (h : le a b) (k : le b c) : le a c := by
  cases a <;> cases b <;> cases c <;> simp_all [le]; omega

theorem le_antisymm {a b : Lm} (h : le a b) (k : le b a) : a = b := by
  cases a <;> cases b <;> simp_all [le]; omega

theorem le_none (a : Lm) : le a none := by cases a <;> simp [le]

theorem mn_left (a b : Lm) : le (mn a b) a := by cases a <;> cases b <;> simp [le, mn]; omega

theorem mn_right (a b : Lm) : le (mn a b) b := by cases a <;> cases b <;> simp [le, mn]; omega

theorem le_mn {a b c : Lm} (h : le a b) (k : le a c) : le a (mn b c) := by
  cases a <;> cases b <;> cases c <;> simp_all [le, mn]; omega

theorem mn_cases (a b : Lm) : mn a b = a ∨ mn a b = b := by
  cases a <;> cases b <;> simp [mn]; omega

theorem mn_eq_left {a b : Lm} (h : le a b) : mn a b = a := le_antisymm (mn_left a b) (le_mn (le_refl a) h)

theorem add_comm (a b : Lm) : add a b = add b a := by cases a <;> cases b <;> simp [add, ps_comm]

theorem add_assoc (a b c : Lm) : add (add a b) c = add a (add b c) := by cases a <;> cases b <;> cases c <;> simp [add, ps_assoc]

theorem add_mono {a a' b b' : Lm} (h : le a a') (k : le b b') : le (add a b) (add a' b') := by
  cases a <;> cases a' <;> cases b <;> cases b' <;> simp_all [le, add]
  exact ps_mono h k

theorem add_one (a : Lm) : add a (some 1) = a := by cases a <;> simp [add, ps_one]

theorem one_add (a : Lm) : add (some 1) a = a := by rw [add_comm]; exact add_one a

/-- One round of the rule: paths through k. -/
def stp (k : Nat) (d : Nat → Nat → Lm) : Nat → Nat → Lm := fun i j => mn (d i j) (add (d i k) (d k j))

def fw (m : Nat → Nat → Lm) : Nat → Nat → Nat → Lm
  | 0 => m
  | k + 1 => stp k (fw m k)

theorem fw_le (m : Nat → Nat → Lm) (k i j : Nat) : le (fw m (k + 1) i j) (fw m k i j) := mn_left _ _

theorem fw_le_m (m : Nat → Nat → Lm) (k i j : Nat) : le (fw m k i j) (m i j) := by
  induction k with
  | zero => exact le_refl _
  | succ k ih => exact le_trans (fw_le m k i j) ih

/-- Where the diagonal stays at 'at most 0', the row and the column of k don't turn in its round. -/
theorem stp_row {k : Nat} {d : Nat → Nat → Lm} (h : d k k = some 1) (j : Nat) : stp k d k j = d k j := by
  unfold stp; rw [h, one_add]; exact mn_eq_left (le_refl _)

theorem stp_col {k : Nat} {d : Nat → Nat → Lm} (h : d k k = some 1) (i : Nat) : stp k d i k = d i k := by
  unfold stp; rw [h, add_one]; exact mn_eq_left (le_refl _)

/-- The inequality of triangles, through the first k. -/
def Tri (k : Nat) (d : Nat → Nat → Lm) : Prop := ∀ v, v < k → ∀ i j, le (d i j) (add (d i v) (d v j))

theorem tri_step {k : Nat} {d : Nat → Nat → Lm} (h : Tri k d) (hk : d k k = some 1) : Tri (k + 1) (stp k d) := by
  intro v hv i j
  by_cases e : v = k
  · subst e
    rw [stp_col hk i, stp_row hk j]
    exact mn_right _ _
  · have hv' : v < k := by omega
    have one : le (stp k d i j) (add (d i k) (d k j)) := mn_right _ _
    have old : le (stp k d i j) (d i j) := mn_left _ _
    rcases mn_cases (d i v) (add (d i k) (d k v)) with e1 | e1 <;> rcases mn_cases (d v j) (add (d v k) (d k j)) with e2 | e2
    · show le _ (add (mn _ _) (mn _ _)); rw [e1, e2]; exact le_trans old (h v hv' i j)
    · show le _ (add (mn _ _) (mn _ _)); rw [e1, e2, ← add_assoc]
      exact le_trans one (add_mono (h v hv' i k) (le_refl _))
    · show le _ (add (mn _ _) (mn _ _)); rw [e1, e2, add_assoc]
      exact le_trans one (add_mono (le_refl _) (h v hv' k j))
    · show le _ (add (mn _ _) (mn _ _)); rw [e1, e2, add_assoc, ← add_assoc (d k v)]
      refine le_trans one (add_mono (le_refl _) ?_)
      have t := h v hv' k k
      rw [hk] at t
      have := add_mono t (le_refl (d k j))
      rwa [one_add] at this

theorem tri_fw {m : Nat → Nat → Lm} (K : Nat) (hd : ∀ k, k < K → fw m k k k = some 1) : Tri K (fw m K) := by
  induction K with
  | zero => intro v hv; omega
  | succ k ih => exact tri_step (ih fun j hj => hd j (by omega)) (hd k (by omega))

/-- What is below the matrix and keeps to the inequality is below each round. -/
theorem below_fw {m c : Nat → Nat → Lm} {K : Nat} (hc : Tri K c) (hm : ∀ i j, le (c i j) (m i j)) : ∀ k, k ≤ K → ∀ i j, le (c i j) (fw m k i j) := by
  intro k
  induction k with
  | zero => intro _ i j; exact hm i j
  | succ k ih =>
    intro hk i j
    exact le_mn (ih (by omega) i j) (le_trans (hc k (by omega) i j) (add_mono (ih (by omega) i k) (ih (by omega) k j)))

/-- A matrix that keeps to the inequality stays. -/
theorem fw_fix {m : Nat → Nat → Lm} {K : Nat} (h : Tri K m) : ∀ k, k ≤ K → fw m k = m := by
  intro k
  induction k with
  | zero => intro _; rfl
  | succ k ih =>
    intro hk
    show stp k (fw m k) = m
    rw [ih (by omega)]
    funext i j
    exact mn_eq_left (h k (by omega) i j)

/-- How many of the first k are in S. -/
def cnt (S : Nat → Bool) : Nat → Nat
  | 0 => 0
  | k + 1 => cnt S k + if S k then 1 else 0

theorem cnt_succ (S : Nat → Bool) (k : Nat) : cnt S (k + 1) = cnt S k + if S k then 1 else 0 := rfl

theorem cnt_le (S : Nat → Bool) (k : Nat) : cnt S k ≤ k := by
  induction k with
  | zero => simp [cnt]
  | succ k ih => unfold cnt; split <;> omega

theorem cnt_or {S T : Nat → Bool} (k : Nat) (h : ∀ v, v < k → ¬ (S v = true ∧ T v = true)) : cnt (fun v => S v || T v) k = cnt S k + cnt T k := by
  induction k with
  | zero => simp [cnt]
  | succ k ih =>
    unfold cnt
    rw [ih fun v hv => h v (by omega)]
    have := h k (by omega)
    cases hs : S k <;> cases ht : T k <;> simp_all <;> omega

theorem cnt_congr {S T : Nat → Bool} (k : Nat) (h : ∀ v, v < k → S v = T v) : cnt S k = cnt T k := by
  induction k with
  | zero => rfl
  | succ k ih => unfold cnt; rw [ih fun v hv => h v (by omega), h k (by omega)]

def fin (a : Lm) : Prop := ∃ x, a = some x

theorem fin_step {k : Nat} {d : Nat → Nat → Lm} {i j : Nat} (h : fin (d i j)) : fin (stp k d i j) := by
  obtain ⟨x, hx⟩ := h
  unfold stp; rw [hx]
  cases add (d i k) (d k j) <;> simp [mn, fin]

theorem fin_through {k : Nat} {d : Nat → Nat → Lm} {i j : Nat} (h : fin (d i k)) (g : fin (d k j)) : fin (stp k d i j) := by
  obtain ⟨x, hx⟩ := h
  obtain ⟨y, hy⟩ := g
  unfold stp; rw [hx, hy]
  cases d i j <;> simp [mn, add, fin]

/-- Behind k rounds the finite entries can be joined at each of the first k. -/
theorem fin_tri {m : Nat → Nat → Lm} (K : Nat) (hd : ∀ k, k < K → fw m k k k = some 1) : ∀ v, v < K → ∀ i j, fin (fw m K i v) → fin (fw m K v j) → fin (fw m K i j) := by
  intro v hv i j h g
  obtain ⟨x, hx⟩ := h
  obtain ⟨y, hy⟩ := g
  have t := tri_fw K hd v hv i j
  rw [hx, hy] at t
  cases e : fw m K i j
  · rw [e] at t; simp [le, add] at t
  · exact ⟨_, rfl⟩

/-- A finite entry is at most as many times U as a path without a repeated clock has edges. -/
theorem fw_bound {m : Nat → Nat → Lm} {U : Int} (hm : ∀ i j x, m i j = some x → x ≤ U) (K : Nat) (hd : ∀ k, k < K → fw m k k k = some 1) :
    ∀ i j x, fw m K i j = some x → ∃ S : Nat → Bool, (∀ v, S v = true → v < K ∧ fin (fw m K i v) ∧ fin (fw m K v j)) ∧ x ≤ U * (cnt S K + 1 : Int) := by
  induction K with
  | zero =>
    intro i j x h
    refine ⟨fun _ => false, by simp, ?_⟩
    have := hm i j x h
    simpa [cnt] using this
  | succ k ih =>
    have ih := ih fun j hj => hd j (by omega)
    have hk := hd k (by omega)
    intro i j x h
    cases ho : fw m k i j with
    | some y =>
      obtain ⟨S, hS, hx⟩ := ih i j y ho
      refine ⟨fun v => S v && decide (v < k), ?_, ?_⟩
      · intro v hv
        simp at hv
        obtain ⟨a, b, c⟩ := hS v hv.1
        exact ⟨by omega, fin_step b, fin_step c⟩
      · have hle : x ≤ y := by
          have := fw_le m k i j
          rw [h, ho] at this; exact this
        have e : cnt (fun v => S v && decide (v < k)) (k + 1) = cnt S k := by
          rw [cnt_succ, cnt_congr (T := S) k fun v hv => by simp [hv]]
          simp
        rw [e]; omega
    | none =>
      have h' : mn (fw m k i j) (add (fw m k i k) (fw m k k j)) = some x := h
      rw [ho] at h'
      cases h1 : fw m k i k with
      | none => rw [h1] at h'; simp [mn, add] at h'
      | some a =>
        cases h2 : fw m k k j with
        | none => rw [h1, h2] at h'; simp [mn, add] at h'
        | some b =>
          rw [h1, h2] at h'
          simp [mn, add] at h'
          obtain ⟨S, hS, hx⟩ := ih i k a h1
          obtain ⟨T, hT, hy⟩ := ih k j b h2
          have apart : ∀ v, v < k → ¬ (S v = true ∧ T v = true) := by
            intro v hv ⟨s, t⟩
            obtain ⟨_, f1, _⟩ := hS v s
            obtain ⟨_, _, f2⟩ := hT v t
            obtain ⟨z, hz⟩ := fin_tri k (fun j hj => hd j (by omega)) v hv i j f1 f2
            rw [ho] at hz; simp at hz
          refine ⟨fun v => if v < k then S v || T v else decide (v = k), ?_, ?_⟩
          · intro v hv
            by_cases hvk : v < k
            · simp [hvk] at hv
              refine ⟨by omega, ?_, ?_⟩
              · rcases hv with s | t
                · exact fin_step (hS v s).2.1
                · exact fin_through ⟨a, h1⟩ (hT v t).2.1
              · rcases hv with s | t
                · exact fin_through (hS v s).2.2 ⟨b, h2⟩
                · exact fin_step (hT v t).2.2
            · simp [hvk] at hv
              subst hv
              exact ⟨by omega, fin_step ⟨a, h1⟩, fin_step ⟨b, h2⟩⟩
          · have e : cnt (fun v => if v < k then S v || T v else decide (v = k)) (k + 1) = cnt S k + cnt T k + 1 := by
              rw [cnt_succ, cnt_congr (T := fun v => S v || T v) k fun v hv => by simp [hv], cnt_or k apart]
              simp
            have px : x ≤ a + b := by
              rw [← h']; unfold ps; split <;> omega
            rw [e]
            have e2 : U * ((cnt S k + cnt T k + 1 : Nat) + 1 : Int) = U * (cnt S k + 1 : Int) + U * (cnt T k + 1 : Int) := by
              rw [← Int.mul_add]; congr 1; omega
            rw [e2]; omega

theorem fw_low {m : Nat → Nat → Lm} {c : Int} (hc : 0 ≤ c) (hm : ∀ i j x, m i j = some x → -c + 1 ≤ x) (k : Nat) : ∀ i j x, fw m k i j = some x → -(c * 2 ^ k) + 1 ≤ x := by
  induction k with
  | zero => intro i j x h; have := hm i j x h; omega
  | succ k ih =>
    intro i j x h
    have e : c * (2 : Int) ^ (k + 1) = 2 * (c * 2 ^ k) := by rw [Int.pow_succ]; grind
    have h' : mn (fw m k i j) (add (fw m k i k) (fw m k k j)) = some x := h
    have c0 : -(c * (2 : Int) ^ k) + 1 ≤ x ∨ -(2 * (c * 2 ^ k)) + 1 ≤ x := by
      rcases mn_cases (fw m k i j) (add (fw m k i k) (fw m k k j)) with g | g
      · left; rw [g] at h'; exact ih i j x h'
      · right
        rw [g] at h'
        cases h1 : fw m k i k with
        | none => rw [h1] at h'; simp [add] at h'
        | some a =>
          cases h2 : fw m k k j with
          | none => rw [h1, h2] at h'; simp [add] at h'
          | some b =>
            rw [h1, h2] at h'
            simp [add] at h'
            have := ih i k a h1
            have := ih k j b h2
            rw [← h']; unfold ps; split <;> omega
    rw [e]
    have p : 0 ≤ c * (2 : Int) ^ k := Int.mul_nonneg hc (Int.le_of_lt (Int.pow_pos (by omega)))
    omega
end Go.Proofs.Ytbnebinpemejlaa.Zo

namespace Go.Proofs.Ytbnebinpemejlaa.Zo

def noL : Int := 1099511627776

/-- A sum of limits as the code computes it, in 64 bits. -/
def w64 (x : Int) : Int := (x + 9223372036854775808) % 18446744073709551616 - 9223372036854775808

theorem w64_in {x : Int} (h1 : -9223372036854775808 ≤ x) (h2 : x ≤ 9223372036854775807) : w64 x = x := by unfold w64; omega

def smW (a b : Int) : Int := if a = 1099511627776 ∨ b = 1099511627776 then 1099511627776 else if a % 2 = 0 ∧ b % 2 = 0 then w64 (a + b) else w64 (w64 (a + b) - 1)

def gt (l : List Int) (k : Nat) : Int := l.getD k 0

def ix (n i j : Nat) : Nat := i * (n + 1) + j

def At (n : Nat) (l : List Int) (i j : Nat) : Int := gt l (ix n i j)

theorem ix_lt {n i j : Nat} (hi : i ≤ n) (hj : j ≤ n) : ix n i j < (n + 1) * (n + 1) := by
  unfold ix
  have : i * (n + 1) ≤ n * (n + 1) := Nat.mul_le_mul_right _ hi
  have e : (n + 1) * (n + 1) = n * (n + 1) + (n + 1) := Nat.succ_mul _ _
  omega

theorem ix_inj {n i j a b : Nat} (hj : j ≤ n) (hb : b ≤ n) (h : ix n i j = ix n a b) : i = a ∧ j = b := by
  unfold ix at h
  have h1 : (i * (n + 1) + j) / (n + 1) = i := by
    rw [Nat.mul_comm, Nat.mul_add_div (by omega), Nat.div_eq_of_lt (by omega)]; rfl
  have h2 : (a * (n + 1) + b) / (n + 1) = a := by
    rw [Nat.mul_comm, Nat.mul_add_div (by omega), Nat.div_eq_of_lt (by omega)]; rfl
  have : i = a := by rw [← h1, ← h2, h]
  subst this
  exact ⟨rfl, by omega⟩

theorem gt_set {l : List Int} {k : Nat} (x : Int) (hk : k < l.length) (j : Nat) : gt (l.set k x) j = if j = k then x else gt l j := by
  unfold gt
  by_cases e : j = k
  · subst e; simp [hk]
  · simp [e, Ne.symm e]

theorem At_set {n : Nat} {l : List Int} (hl : l.length = (n + 1) * (n + 1)) {i j : Nat} (hi : i ≤ n) (hj : j ≤ n) (x : Int) {a b : Nat} (hb : b ≤ n) :
    At n (l.set (ix n i j) x) a b = if a = i ∧ b = j then x else At n l a b := by
  unfold At
  rw [gt_set x (by rw [hl]; exact ix_lt hi hj)]
  by_cases e : a = i ∧ b = j
  · rw [if_pos e, if_pos (by rw [e.1, e.2])]
  · rw [if_neg e, if_neg fun h => e (ix_inj hb hj h)]

/-- The code's steps: the first row and the diagonal are at most 'at most 0'; then a path through k. -/
def st1 (n : Nat) (l : List Int) (j : Nat) : List Int :=
  let l1 := l.set (ix n 0 j) (min (At n l 0 j) 1)
  l1.set (ix n j j) (min (At n l1 j j) 1)

def rlx (n k i : Nat) (l : List Int) (j : Nat) : List Int := l.set (ix n i j) (min (At n l i j) (smW (At n l i k) (At n l k j)))

def rlxJ (n k : Nat) (l : List Int) (i : Nat) : List Int := (List.range (n + 1)).foldl (rlx n k i) l

def rlxI (n : Nat) (l : List Int) (k : Nat) : List Int := (List.range (n + 1)).foldl (rlxJ n k) l

def pre (n : Nat) (l : List Int) : List Int := (List.range (n + 1)).foldl (st1 n) l

def clo (n : Nat) (l : List Int) : List Int := (List.range (n + 1)).foldl (rlxI n) (pre n l)

theorem fold_succ {α : Type} (f : α → Nat → α) (a : α) (t : Nat) : (List.range (t + 1)).foldl f a = f ((List.range t).foldl f a) t := by
  rw [List.range_succ, List.foldl_append]; rfl

/-- What each step keeps, a fold keeps. -/
theorem fold_keeps {α : Type} {f : α → Nat → α} {R : α → Prop} (N : Nat) (h : ∀ a t, t < N → R a → R (f a t)) (a : α) (ha : R a) : ∀ t, t ≤ N → R ((List.range t).foldl f a) := by
  intro t
  induction t with
  | zero => intro _; exact ha
  | succ t ih => intro ht; rw [fold_succ]; exact h _ _ (by omega) (ih (by omega))

/-- A property of matrices that a step at one place keeps is kept by the whole. -/
theorem clo_keeps {n : Nat} {R : List Int → Prop} (h1 : ∀ l i j, (i = 0 ∨ i = j) → i ≤ n → j ≤ n → R l → R (l.set (ix n i j) (min (At n l i j) 1)))
    (h2 : ∀ l k i j, k ≤ n → i ≤ n → j ≤ n → R l → R (rlx n k i l j)) {l : List Int} (h : R l) : R (clo n l) := by
  unfold clo pre
  refine fold_keeps (n + 1) (fun a k hk ha => ?_) _ (fold_keeps (n + 1) (fun a j hj ha => ?_) l h _ (Nat.le_refl _)) _ (Nat.le_refl _)
  · refine fold_keeps (n + 1) (fun a i hi ha => ?_) _ ha _ (Nat.le_refl _)
    exact fold_keeps (n + 1) (fun a j hj ha => h2 a k i j (by omega) (by omega) (by omega) ha) _ ha _ (Nat.le_refl _)
  · unfold st1
    exact h1 _ j j (Or.inr rfl) (by omega) (by omega) (h1 a 0 j (Or.inl rfl) (by omega) (by omega) ha)

theorem clo_length (n : Nat) (l : List Int) : (clo n l).length = l.length :=
  clo_keeps (R := fun x => x.length = l.length) (fun _ _ _ _ _ _ h => by simpa using h) (fun _ _ _ _ _ _ _ h => by simpa [rlx] using h) rfl

/-- Elements only become less. -/
theorem set_le {n : Nat} {l : List Int} (hl : l.length = (n + 1) * (n + 1)) {i j : Nat} (hi : i ≤ n) (hj : j ≤ n) (y : Int) {a b : Nat} (hb : b ≤ n) : At n (l.set (ix n i j) (min (At n l i j) y)) a b ≤ At n l a b := by
  rw [At_set hl hi hj _ hb]
  split
  · rename_i e; rw [e.1, e.2]; exact Int.min_le_left _ _
  · exact Int.le_refl _
end Go.Proofs.Ytbnebinpemejlaa.Zo
