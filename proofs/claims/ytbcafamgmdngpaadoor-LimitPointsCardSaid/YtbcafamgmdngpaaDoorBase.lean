/- What all contracts have in common: calls that return a value and leave all memory from before as it was; cells and blocks of two integers behind such calls. Nothing of the program is named here. -/
import Derived.Test.YtbcafamgmdngpaaDoorRows
import Derived.WalkKit
import Derived.WalkSpells
import Derived.WalkLawsBesides
import Derived.Deep.QuietTactic
import Derived.BigQuiet
import Derived.Deep.RegionHeld3
import Derived.Lib.Hide
import Derived.Laws.EntriesVeiled
namespace Go.Proofs.YtbcafamgmdngpaaDoor
open Go.RowKit

/-- What fits an int64. -/
def I64 (x : Int) : Prop := -9223372036854775808 ≤ x ∧ x ≤ 9223372036854775807

theorem i64lit (x : Int) (h1 : -9223372036854775808 ≤ x) (h2 : x ≤ 9223372036854775807) : I64 x := ⟨h1, h2⟩

theorem ret_int {k : IntKind} {a b : Int} (h : a = b) : Ending.returned (.int k a) = .returned (.int k b) := by rw [h]

def Drawn (v : Value) (w : World) (e : Ending) (w' : World) : Prop := e = .returned v ∧ ∃ n, w' = w.drewN n

/-- A call that returns v, and leaves all memory from before as it was. -/
def Made (v : Value) (w : World) (e : Ending) (w' : World) : Prop := e = .returned v ∧ Below w.heap.size w w'

/-- What was there before a call that only makes memory is there behind it. -/
theorem bcell {B : Nat} {W w1 : World} (hb : Below B W w1) : (∀ b o, b < B → w1.cell? ⟨b, o, none⟩ = W.cell? ⟨b, o, none⟩) ∧ (∀ b o, b < B → w1.frozen? ⟨b, o, none⟩ = W.frozen? ⟨b, o, none⟩) :=
  ⟨fun b o h => hb.cell (p := ⟨b, o, none⟩) h, fun b o h => hb.frozen (p := ⟨b, o, none⟩) h⟩

theorem ret_bool {a b : Bool} (h : a = b) : Ending.returned (.bool a) = .returned (.bool b) := by rw [h]

theorem two_below {w w1 : World} (hb : Below w.heap.size w w1) (n : Nat) (x y : Value) : Below w.heap.size w (((w1.drewN n).setCell ⟨w.heap.size, 0, none⟩ x).setCell ⟨w.heap.size, 1, none⟩ y) :=
  ((below_drewN hb n).setCell (Nat.le_refl _) x).setCell (Nat.le_refl _) y

theorem past_one {w w1 : World} {o : Obj} (hb : Below (w.alloc o).heap.size (w.alloc o) w1) : Below w.heap.size w w1 :=
  ((Below.refl _ _).alloc (Nat.le_refl _) o).trans (hb.mono (by simp))

theorem past_two {w w1 : World} {o1 o2 : Obj} (hb : Below ((w.alloc o1).alloc o2).heap.size ((w.alloc o1).alloc o2) w1) : Below w.heap.size w w1 :=
  past_one (past_one hb)

theorem past_three {w w1 : World} {o1 o2 o3 : Obj} (hb : Below (((w.alloc o1).alloc o2).alloc o3).heap.size (((w.alloc o1).alloc o2).alloc o3) w1) : Below w.heap.size w w1 :=
  past_one ((past_one ((past_one hb))))

theorem below_on {X w1 w2 : World} (hb : Below X.heap.size X w1) (hb2 : Below w1.heap.size w1 w2) : Below X.heap.size X w2 := hb.trans (hb2.mono hb.size)

theorem ret_two {k1 k2 : IntKind} {a b c d : Int} (h : a = b) (g : c = d) : Ending.returned (.tuple #[.int k1 a, .int k2 c]) = .returned (.tuple #[.int k1 b, .int k2 d]) := by rw [h, g]

theorem wrap_in (x : Int) (h1 : -9223372036854775808 ≤ x) (h2 : x ≤ 9223372036854775807) : IntKind.i64.wrap x = x := by
  simp [IntKind.wrap, IntKind.bits, IntKind.signed]
  omega

theorem w64min : wrap64 9223372036854775808 = -9223372036854775808 := by unfold wrap64; omega

/-- What a world had it has behind a call that only makes memory; and so does a new block of two cells. -/
theorem kept {w1 w2 : World} (hb : Below w1.heap.size w1 w2) {p : Addr} {v : Value} (h : w1.cell? p = some v) : w2.cell? p = some v := by
  rw [hb.cell (World.block_lt_of_cell? w1 _ h)]; exact h

theorem one_more {w1 : World} (o : Obj) : Below w1.heap.size w1 (w1.alloc o) := (Below.refl _ _).alloc (Nat.le_refl _) o

theorem boxed {w1 w2 : World} {x y : Value} {t : TypeId} (hb : Below (w1.alloc (.cells #[x, y] t)).heap.size (w1.alloc (.cells #[x, y] t)) w2) :
    w2.cell? ⟨w1.heap.size, 0, none⟩ = some x ∧ w2.cell? ⟨w1.heap.size, 1, none⟩ = some y ∧ w1.heap.size + 1 ≤ w2.heap.size := by
  refine ⟨kept hb (by go_simp), kept hb (by go_simp), ?_⟩
  have := hb.size; simpa using this

theorem on_box {w w1 w2 : World} {o : Obj} (hB : Below w.heap.size w w1) (hb : Below (w1.alloc o).heap.size (w1.alloc o) w2) : Below w.heap.size w w2 :=
  below_on hB (past_one hb)

/-- A cell that holds v and may be written. -/
def Cell (w : World) (p : Addr) (v : Value) : Prop := w.cell? p = some v ∧ w.frozen? p = false

theorem Cell.lt {w : World} {p : Addr} {v : Value} (h : Cell w p v) : p.block < w.heap.size := World.block_lt_of_cell? w _ h.1

theorem Cell.kept {w w' : World} {p : Addr} {v : Value} (h : Cell w p v) (hb : Below w.heap.size w w') : Cell w' p v :=
  ⟨by rw [hb.cell h.lt]; exact h.1, by rw [hb.frozen h.lt]; exact h.2⟩

theorem Cell.same {w : World} {p : Addr} {v : Value} (h : Cell w p v) (x : Value) : Cell (w.setCell p x) p x :=
  ⟨World.cell?_setCell_same _ _ _ h.1, by rw [World.frozen?_setCell]; exact h.2⟩

theorem Cell.other {w : World} {p q : Addr} {v : Value} (h : Cell w q v) (hne : p ≠ q) (x : Value) : Cell (w.setCell p x) q v :=
  ⟨(World.cell?_setCell_other _ _ _ _ hne).trans h.1, by rw [World.frozen?_setCell]; exact h.2⟩

/-- Block b holds the two integers x and y. -/
def Pair (w : World) (b : Nat) (x y : Int) : Prop := Cell w ⟨b, 0, none⟩ (.int .i64 x) ∧ Cell w ⟨b, 1, none⟩ (.int .i64 y)

theorem Pair.lt {w : World} {b : Nat} {x y : Int} (h : Pair w b x y) : b < w.heap.size := h.1.lt

theorem Pair.kept {w w' : World} {b : Nat} {x y : Int} (h : Pair w b x y) (hb : Below w.heap.size w w') : Pair w' b x y := ⟨h.1.kept hb, h.2.kept hb⟩

theorem Pair.made (w : World) (x y : Int) (t : TypeId) : Pair (w.alloc (.cells #[.int .i64 x, .int .i64 y] t)) w.heap.size x y :=
  ⟨⟨by go_simp, by go_simp⟩, ⟨by go_simp, by go_simp⟩⟩

theorem Pair.alloc {w : World} {b : Nat} {x y : Int} (h : Pair w b x y) (o : Obj) : Pair (w.alloc o) b x y := h.kept (one_more o)

theorem Pair.drawn {w : World} {b : Nat} {x y : Int} (h : Pair w b x y) (n : Nat) : Pair (w.drewN n) b x y := h.kept (below_drewN (Below.refl _ _) n)

theorem Pair.put {w : World} {b : Nat} {x y : Int} (h : Pair w b x y) (x' y' : Int) : Pair ((w.setCell ⟨b, 0, none⟩ (.int .i64 x')).setCell ⟨b, 1, none⟩ (.int .i64 y')) b x' y' :=
  ⟨((h.1.same _).other (by simp) _), ((h.2.other (by simp) _).same _)⟩

theorem Pair.aside {w : World} {b b' : Nat} {x y : Int} (h : Pair w b x y) (hne : b' ≠ b) (x' y' : Value) : Pair ((w.setCell ⟨b', 0, none⟩ x').setCell ⟨b', 1, none⟩ y') b x y :=
  ⟨((h.1.other (fun e => hne (congrArg Addr.block e)) _).other (fun e => hne (congrArg Addr.block e)) _), ((h.2.other (fun e => hne (congrArg Addr.block e)) _).other (fun e => hne (congrArg Addr.block e)) _)⟩

/-- What the walk reads off. -/
theorem Pair.facts {w : World} {b : Nat} {x y : Int} (h : Pair w b x y) : w.cell? ⟨b, 0, none⟩ = some (.int .i64 x) ∧ w.cell? ⟨b, 1, none⟩ = some (.int .i64 y) ∧ w.frozen? ⟨b, 0, none⟩ = false ∧ w.frozen? ⟨b, 1, none⟩ = false :=
  ⟨h.1.1, h.2.1, h.1.2, h.2.2⟩

theorem below_put {w w1 : World} (hb : Below w.heap.size w w1) {b : Nat} (hB : w.heap.size ≤ b) (x y : Value) : Below w.heap.size w ((w1.setCell ⟨b, 0, none⟩ x).setCell ⟨b, 1, none⟩ y) :=
  (hb.setCell hB x).setCell hB y

/-- Behind the first call of a function with two such parameters. -/
theorem two_pairs {w w1 : World} {n d m c : Int} {t : TypeId} (hb : Below ((w.alloc (.cells #[.int .i64 n, .int .i64 d] t)).alloc (.cells #[.int .i64 m, .int .i64 c] t)).heap.size ((w.alloc (.cells #[.int .i64 n, .int .i64 d] t)).alloc (.cells #[.int .i64 m, .int .i64 c] t)) w1) :
    Pair w1 w.heap.size n d ∧ Pair w1 (w.heap.size + 1) m c ∧ w.heap.size + 2 ≤ w1.heap.size ∧ Below w.heap.size w w1 := by
  have hB := (Pair.made (w.alloc (.cells #[.int .i64 n, .int .i64 d] t)) m c t).kept hb
  refine ⟨((Pair.made w n d t).alloc _).kept hb, by simpa using hB, ?_, past_two hb⟩
  have := hb.size; simpa using this

theorem three_pairs {w w1 : World} {n d m c k l : Int} {t : TypeId} (hb : Below (((w.alloc (.cells #[.int .i64 n, .int .i64 d] t)).alloc (.cells #[.int .i64 m, .int .i64 c] t)).alloc (.cells #[.int .i64 k, .int .i64 l] t)).heap.size (((w.alloc (.cells #[.int .i64 n, .int .i64 d] t)).alloc (.cells #[.int .i64 m, .int .i64 c] t)).alloc (.cells #[.int .i64 k, .int .i64 l] t)) w1) :
    Pair w1 w.heap.size n d ∧ Pair w1 (w.heap.size + 1) m c ∧ Pair w1 (w.heap.size + 2) k l ∧ w.heap.size + 3 ≤ w1.heap.size ∧ Below w.heap.size w w1 := by
  have hB := ((Pair.made (w.alloc (.cells #[.int .i64 n, .int .i64 d] t)) m c t).alloc (.cells #[.int .i64 k, .int .i64 l] t)).kept hb
  have hC := (Pair.made ((w.alloc (.cells #[.int .i64 n, .int .i64 d] t)).alloc (.cells #[.int .i64 m, .int .i64 c] t)) k l t).kept hb
  refine ⟨(((Pair.made w n d t).alloc _).alloc _).kept hb, by simpa using hB, by simpa using hC, ?_, past_three hb⟩
  have := hb.size; simpa using this

theorem on_put {w w1 w2 : World} {b : Nat} {x y : Value} (hB : Below w.heap.size w w1) (hle : w.heap.size ≤ b) (hb : Below ((w1.setCell ⟨b, 0, none⟩ x).setCell ⟨b, 1, none⟩ y).heap.size ((w1.setCell ⟨b, 0, none⟩ x).setCell ⟨b, 1, none⟩ y) w2) : Below w.heap.size w w2 :=
  (below_put hB hle x y).trans (hb.mono (below_put hB hle x y).size)
end Go.Proofs.YtbcafamgmdngpaaDoor
