/- What all contracts have in common: calls that return a value and leave all memory from before as it was; cells and blocks of two integers behind such calls. Nothing of the program is named here.; Lines of layer 7 in memory; commonDivisor of package poly.; Contracts of package poly: times, plus, lowest, opposite.; Contracts of package poly: lowest.; Contracts of package poly: opposite, limit, sum.; Contracts of package poly: sum.; Contracts of package poly: fit and fits; slices.IndexFunc and ContainsFunc at integers.; Contracts of cmp.Compare, cmp.Or and slices.Compare at integers; the order of lines.; The comparisons of package poly's tidy.; Equality of coefficients; rows of lines that can be read.; slices.CompactFunc at lines.; DERIVED: THE SHELF's CONTRACTS AT THIS DUMP, IN PLAIN WORDS (tools/lay-plain.mjs out of 'TryzShelf.lean', which tools/lay-shelf.mjs wrote): THE SAME DECLARATIONS UNDER THE SAME NAMES: 'import', 'namespace', 'open', 'def', 'theorem' AND NOTHING ELSE: no command of the shelf's: FOR A HAND-IN. Each laying: the table of numbers ('.._ren') and one theorem, a field a fact of the dump's own or the kernel's comparison; each contract: ONE APPLICATION.; slices.SortFunc at lines.; Contracts of package poly: tidy.; Plain mathematics: the tidy list made by insertion is the one made by sorting.; Laws of my own: a range over a function whose rounds, or whose function, may panic. The activation is of a known function (WpAt): a round's frame that is left by a panic is one of a function that the program has. -/
import Derived.Test.YtefpaobboimakaaGreatRows
import Derived.WalkKit
import Derived.WalkSpells
import Derived.WalkLawsBesides
import Derived.Deep.QuietTactic
import Derived.BigQuiet
import Derived.Deep.RegionHeld3
import Derived.Lib.Hide
import Derived.Laws.EntriesVeiled
import Derived.Deep.WholeRow
import Derived.Deep.MidRow
import Derived.Deep.DeepCutAuto
import Derived.StillTailTactics
import Derived.Shelf.Abstract
import Derived.Sort.Grow
import Derived.DeepKeys
import Derived.Laws.StructEq
import Derived.Shelf.SlSortCmp.NoneTotal
import Derived.Shelf.SlicesE.Clone
import Derived.Ground.SlsfProg
import Derived.Ground.SlgnProg
import Derived.Test.YtefpaobboimakaaGreatProg
import Derived.RangeFuncNested
import Derived.RangeFuncCalls
import Derived.RangeFuncLeaves
import Derived.RangeFuncBound
import Derived.Shelf.RegionOpen
import Derived.OwnWalkIn
import Derived.TacticsInMore
import Derived.LoopNIn
import Derived.LoopIn

namespace Go.Proofs.YtefpaobboimakaaGreat
open Go.RowKit

/-- What fits an int64. -/
def I64 (x : Int) : Prop := -9223372036854775808 ≤ x ∧ x ≤ 9223372036854775807

theorem i64lit (x : Int) (h1 : -9223372036854775808 ≤ x) (h2 : x ≤ 9223372036854775807) : I64 x := ⟨h1, h2⟩

theorem ret_int {k : IntKind} {a b : Int} (h : a = b) : Ending.returned (.int k a) = .returned (.int k b) := by rw [h]

def Drawn (v : Value) (w : World) (e : Ending) (w' : World) : Prop := e = .returned v ∧ ∃ n, w' = w.drewN n

/-- A call that returns v, and leaves all memory from before as it was. -/
def Made (v : Value) (w : World) (e : Ending) (w' : World) : Prop := e = .returned v ∧ Below w.heap.size w w'

/-- What was there before a call that only makes memory is there behind it. -/
theorem bcell {B : Nat} {W w1 : World} (hb : Below B W w1) : (∀ b o, b < B → w1.cell? ⟨b, o, none⟩ = W.cell? ⟨b, o, none⟩) ∧ (∀ b o, b < B → w1.frozen? ⟨b, o, none⟩ = W.frozen? ⟨b, o, none⟩) :=
  ⟨fun b o h => hb.cell (p := ⟨b, o, none⟩) h, fun b o h => hb.frozen (p := ⟨b, o, none⟩) h⟩

theorem ret_bool {a b : Bool} (h : a = b) : Ending.returned (.bool a) = .returned (.bool b) := by rw [h]

theorem two_below {w w1 : World} (hb : Below w.heap.size w w1) (n : Nat) (x y : Value) : Below w.heap.size w (((w1.drewN n).setCell ⟨w.heap.size, 0, none⟩ x).setCell ⟨w.heap.size, 1, none⟩ y) :=
  ((below_drewN hb n).setCell (Nat.le_refl _) x).setCell (Nat.le_refl _) y

theorem past_one {w w1 : World} {o : Obj} (hb : Below (w.alloc o).heap.size (w.alloc o) w1) : Below w.heap.size w w1 :=
  ((Below.refl _ _).alloc (Nat.le_refl _) o).trans (hb.mono (by simp))

theorem past_two {w w1 : World} {o1 o2 : Obj} (hb : Below ((w.alloc o1).alloc o2).heap.size ((w.alloc o1).alloc o2) w1) : Below w.heap.size w w1 :=
  past_one (past_one hb)

theorem past_three {w w1 : World} {o1 o2 o3 : Obj} (hb : Below (((w.alloc o1).alloc o2).alloc o3).heap.size (((w.alloc o1).alloc o2).alloc o3) w1) : Below w.heap.size w w1 :=
  past_one ((past_one ((past_one hb))))

theorem below_on {X w1 w2 : World} (hb : Below X.heap.size X w1) (hb2 : Below w1.heap.size w1 w2) : Below X.heap.size X w2 := hb.trans (hb2.mono hb.size)

theorem ret_two {k1 k2 : IntKind} {a b c d : Int} (h : a = b) (g : c = d) : Ending.returned (.tuple #[.int k1 a, .int k2 c]) = .returned (.tuple #[.int k1 b, .int k2 d]) := by rw [h, g]

theorem wrap_in (x : Int) (h1 : -9223372036854775808 ≤ x) (h2 : x ≤ 9223372036854775807) : IntKind.i64.wrap x = x := by
  simp [IntKind.wrap, IntKind.bits, IntKind.signed]
  omega

theorem w64min : wrap64 9223372036854775808 = -9223372036854775808 := by unfold wrap64; omega

/-- What a world had it has behind a call that only makes memory; and so does a new block of two cells. -/
theorem kept {w1 w2 : World} (hb : Below w1.heap.size w1 w2) {p : Addr} {v : Value} (h : w1.cell? p = some v) : w2.cell? p = some v := by
  rw [hb.cell (World.block_lt_of_cell? w1 _ h)]; exact h

theorem one_more {w1 : World} (o : Obj) : Below w1.heap.size w1 (w1.alloc o) := (Below.refl _ _).alloc (Nat.le_refl _) o

theorem boxed {w1 w2 : World} {x y : Value} {t : TypeId} (hb : Below (w1.alloc (.cells #[x, y] t)).heap.size (w1.alloc (.cells #[x, y] t)) w2) :
    w2.cell? ⟨w1.heap.size, 0, none⟩ = some x ∧ w2.cell? ⟨w1.heap.size, 1, none⟩ = some y ∧ w1.heap.size + 1 ≤ w2.heap.size := by
  refine ⟨kept hb (by go_simp), kept hb (by go_simp), ?_⟩
  have := hb.size; simpa using this

theorem on_box {w w1 w2 : World} {o : Obj} (hB : Below w.heap.size w w1) (hb : Below (w1.alloc o).heap.size (w1.alloc o) w2) : Below w.heap.size w w2 :=
  below_on hB (past_one hb)

/-- A cell that holds v and may be written. -/
def Cell (w : World) (p : Addr) (v : Value) : Prop := w.cell? p = some v ∧ w.frozen? p = false

theorem Cell.lt {w : World} {p : Addr} {v : Value} (h : Cell w p v) : p.block < w.heap.size := World.block_lt_of_cell? w _ h.1

theorem Cell.kept {w w' : World} {p : Addr} {v : Value} (h : Cell w p v) (hb : Below w.heap.size w w') : Cell w' p v :=
  ⟨by rw [hb.cell h.lt]; exact h.1, by rw [hb.frozen h.lt]; exact h.2⟩

theorem Cell.same {w : World} {p : Addr} {v : Value} (h : Cell w p v) (x : Value) : Cell (w.setCell p x) p x :=
  ⟨World.cell?_setCell_same _ _ _ h.1, by rw [World.frozen?_setCell]; exact h.2⟩

theorem Cell.other {w : World} {p q : Addr} {v : Value} (h : Cell w q v) (hne : p ≠ q) (x : Value) : Cell (w.setCell p x) q v :=
  ⟨(World.cell?_setCell_other _ _ _ _ hne).trans h.1, by rw [World.frozen?_setCell]; exact h.2⟩

/-- Block b holds the two integers x and y. -/
def Pair (w : World) (b : Nat) (x y : Int) : Prop := Cell w ⟨b, 0, none⟩ (.int .i64 x) ∧ Cell w ⟨b, 1, none⟩ (.int .i64 y)

theorem Pair.lt {w : World} {b : Nat} {x y : Int} (h : Pair w b x y) : b < w.heap.size := h.1.lt

theorem Pair.kept {w w' : World} {b : Nat} {x y : Int} (h : Pair w b x y) (hb : Below w.heap.size w w') : Pair w' b x y := ⟨h.1.kept hb, h.2.kept hb⟩

theorem Pair.made (w : World) (x y : Int) (t : TypeId) : Pair (w.alloc (.cells #[.int .i64 x, .int .i64 y] t)) w.heap.size x y :=
  ⟨⟨by go_simp, by go_simp⟩, ⟨by go_simp, by go_simp⟩⟩

theorem Pair.alloc {w : World} {b : Nat} {x y : Int} (h : Pair w b x y) (o : Obj) : Pair (w.alloc o) b x y := h.kept (one_more o)

theorem Pair.drawn {w : World} {b : Nat} {x y : Int} (h : Pair w b x y) (n : Nat) : Pair (w.drewN n) b x y := h.kept (below_drewN (Below.refl _ _) n)

theorem Pair.put {w : World} {b : Nat} {x y : Int} (h : Pair w b x y) (x' y' : Int) : Pair ((w.setCell ⟨b, 0, none⟩ (.int .i64 x')).setCell ⟨b, 1, none⟩ (.int .i64 y')) b x' y' :=
  ⟨((h.1.same _).other (by simp) _), ((h.2.other (by simp) _).same _)⟩

theorem Pair.aside {w : World} {b b' : Nat} {x y : Int} (h : Pair w b x y) (hne : b' ≠ b) (x' y' : Value) : Pair ((w.setCell ⟨b', 0, none⟩ x').setCell ⟨b', 1, none⟩ y') b x y :=
  ⟨((h.1.other (fun e => hne (congrArg Addr.block e)) _).other (fun e => hne (congrArg Addr.block e)) _), ((h.2.other (fun e => hne (congrArg Addr.block e)) _).other (fun e => hne (congrArg Addr.block e)) _)⟩

/-- What the walk reads off. -/
theorem Pair.facts {w : World} {b : Nat} {x y : Int} (h : Pair w b x y) : w.cell? ⟨b, 0, none⟩ = some (.int .i64 x) ∧ w.cell? ⟨b, 1, none⟩ = some (.int .i64 y) ∧ w.frozen? ⟨b, 0, none⟩ = false ∧ w.frozen? ⟨b, 1, none⟩ = false :=
  ⟨h.1.1, h.2.1, h.1.2, h.2.2⟩

theorem below_put {w w1 : World} (hb : Below w.heap.size w w1) {b : Nat} (hB : w.heap.size ≤ b) (x y : Value) : Below w.heap.size w ((w1.setCell ⟨b, 0, none⟩ x).setCell ⟨b, 1, none⟩ y) :=
  (hb.setCell hB x).setCell hB y

/-- Behind the first call of a function with two such parameters. -/
theorem two_pairs {w w1 : World} {n d m c : Int} {t : TypeId} (hb : Below ((w.alloc (.cells #[.int .i64 n, .int .i64 d] t)).alloc (.cells #[.int .i64 m, .int .i64 c] t)).heap.size ((w.alloc (.cells #[.int .i64 n, .int .i64 d] t)).alloc (.cells #[.int .i64 m, .int .i64 c] t)) w1) :
    Pair w1 w.heap.size n d ∧ Pair w1 (w.heap.size + 1) m c ∧ w.heap.size + 2 ≤ w1.heap.size ∧ Below w.heap.size w w1 := by
  have hB := (Pair.made (w.alloc (.cells #[.int .i64 n, .int .i64 d] t)) m c t).kept hb
  refine ⟨((Pair.made w n d t).alloc _).kept hb, by simpa using hB, ?_, past_two hb⟩
  have := hb.size; simpa using this

theorem three_pairs {w w1 : World} {n d m c k l : Int} {t : TypeId} (hb : Below (((w.alloc (.cells #[.int .i64 n, .int .i64 d] t)).alloc (.cells #[.int .i64 m, .int .i64 c] t)).alloc (.cells #[.int .i64 k, .int .i64 l] t)).heap.size (((w.alloc (.cells #[.int .i64 n, .int .i64 d] t)).alloc (.cells #[.int .i64 m, .int .i64 c] t)).alloc (.cells #[.int .i64 k, .int .i64 l] t)) w1) :
    Pair w1 w.heap.size n d ∧ Pair w1 (w.heap.size + 1) m c ∧ Pair w1 (w.heap.size + 2) k l ∧ w.heap.size + 3 ≤ w1.heap.size ∧ Below w.heap.size w w1 := by
  have hB := ((Pair.made (w.alloc (.cells #[.int .i64 n, .int .i64 d] t)) m c t).alloc (.cells #[.int .i64 k, .int .i64 l] t)).kept hb
  have hC := (Pair.made ((w.alloc (.cells #[.int .i64 n, .int .i64 d] t)).alloc (.cells #[.int .i64 m, .int .i64 c] t)) k l t).kept hb
  refine ⟨(((Pair.made w n d t).alloc _).alloc _).kept hb, by simpa using hB, by simpa using hC, ?_, past_three hb⟩
  have := hb.size; simpa using this

theorem on_put {w w1 w2 : World} {b : Nat} {x y : Value} (hB : Below w.heap.size w w1) (hle : w.heap.size ≤ b) (hb : Below ((w1.setCell ⟨b, 0, none⟩ x).setCell ⟨b, 1, none⟩ y).heap.size ((w1.setCell ⟨b, 0, none⟩ x).setCell ⟨b, 1, none⟩ y) w2) : Below w.heap.size w w2 :=
  (below_put hB hle x y).trans (hb.mono (below_put hB hle x y).size)
end Go.Proofs.YtefpaobboimakaaGreat

namespace Go.Proofs.YtefpaobboimakaaGreat
open Go.RowKit

/-- A line of package poly: six coefficients, the number, strict. -/
structure Ln where
  a : List Int
  b : Int
  s : Bool
deriving DecidableEq

def gA (a : List Int) (k : Nat) : Int := a.getD k 0

def Ln.cells (x : Ln) : List Value := x.a.map (Value.int .i64) ++ [.int .i64 x.b, .bool x.s]

def Ln.cs (x : Ln) : Array Value := ⟨x.cells⟩

theorem Ln.cells_len {x : Ln} (h : x.a.length = 6) : x.cells.length = 8 := by simp [Ln.cells, h]

theorem Ln.size {x : Ln} (h : x.a.length = 6) : x.cs.size = 8 := by simp [Ln.cs, Ln.cells, h]

theorem Ln.one (x : Ln) : x.cs.all (·.oneCell') = true := by
  rw [Array.all_eq_true_iff_forall_mem]
  intro v hv
  simp [Ln.cs, Ln.cells] at hv
  rcases hv with ⟨y, _, rfl⟩ | rfl | rfl <;> rfl

def ln0 : Ln := ⟨[0, 0, 0, 0, 0, 0], 0, false⟩

/-- Block b is a variable that holds the line x. -/
def Bk (w : World) (b : Nat) (x : Ln) : Prop := w.heap[b]? = some (.cells x.cs 82 (0, 0)) ∧ x.a.length = 6

theorem Bk.lt {w : World} {b : Nat} {x : Ln} (h : Bk w b x) : b < w.heap.size := by
  by_cases e : b < w.heap.size
  · exact e
  · have := h.1; rw [Array.getElem?_eq_none (by omega)] at this; cases this

theorem Bk.cell {w : World} {b : Nat} {x : Ln} (h : Bk w b x) (j : Nat) : w.cell? ⟨b, j, none⟩ = x.cells[j]? := by rw [cell_of_row w b j _ _ _ h.1]; simp [Ln.cs]

theorem Bk.at {w : World} {b : Nat} {x : Ln} (h : Bk w b x) {j : Nat} (hj : j < 6) : w.cell? ⟨b, j, none⟩ = some (.int .i64 (gA x.a j)) := by
  have l := h.2
  rw [h.cell]; simp [Ln.cells, gA, List.getElem?_append, l, hj]

theorem Bk.num {w : World} {b : Nat} {x : Ln} (h : Bk w b x) : w.cell? ⟨b, 6, none⟩ = some (.int .i64 x.b) := by
  have l := h.2
  rw [h.cell]; simp [Ln.cells, l]

theorem Bk.str {w : World} {b : Nat} {x : Ln} (h : Bk w b x) : w.cell? ⟨b, 7, none⟩ = some (.bool x.s) := by
  have l := h.2
  rw [h.cell]; simp [Ln.cells, l]

theorem Bk.free {w : World} {b : Nat} {x : Ln} (h : Bk w b x) (j : Nat) : w.frozen? ⟨b, j, none⟩ = false := frozen_of_row w b j _ _ h.1

theorem Bk.put {w : World} {b : Nat} {x : Ln} (h : Bk w b x) {j : Nat} (hj : j < 6) (v : Int) : Bk (w.setCell ⟨b, j, none⟩ (.int .i64 v)) b { x with a := x.a.set j v } := by
  have l := h.2
  refine ⟨?_, by simpa using l⟩
  rw [heap_setCell_same w b _ _ _ _ h.1]
  congr 2
  simp [Ln.cs, Ln.cells, List.map_set, l, hj]

theorem Bk.putb {w : World} {b : Nat} {x : Ln} (h : Bk w b x) (v : Int) : Bk (w.setCell ⟨b, 6, none⟩ (.int .i64 v)) b { x with b := v } := by
  have l := h.2
  refine ⟨?_, l⟩
  rw [heap_setCell_same w b _ _ _ _ h.1]
  congr 2
  simp [Ln.cs, Ln.cells, l]

theorem Bk.puts {w : World} {b : Nat} {x : Ln} (h : Bk w b x) (v : Bool) : Bk (w.setCell ⟨b, 7, none⟩ (.bool v)) b { x with s := v } := by
  have l := h.2
  refine ⟨?_, l⟩
  rw [heap_setCell_same w b _ _ _ _ h.1]
  congr 2
  simp [Ln.cs, Ln.cells, l]

theorem Bk.of_block {w w' : World} {b : Nat} {x : Ln} (h : Bk w b x) (e : w'.heap[b]? = w.heap[b]?) : Bk w' b x := ⟨e.trans h.1, h.2⟩

theorem Bk.kept {w w' : World} {b : Nat} {x : Ln} (h : Bk w b x) (hb : Below w.heap.size w w') : Bk w' b x := h.of_block (hb.block b h.lt)

theorem Bk.aside {w : World} {b : Nat} {x : Ln} (h : Bk w b x) {y j : Nat} (hne : b ≠ y) (v : Value) : Bk (w.setCell ⟨y, j, none⟩ v) b x := h.of_block (heap_setCell_other w ⟨y, j, none⟩ b v hne)

theorem Bk.alloc {w : World} {b : Nat} {x : Ln} (h : Bk w b x) (o : Obj) : Bk (w.alloc o) b x := h.kept (one_more o)

theorem Bk.made (w : World) (x : Ln) (h : x.a.length = 6) : Bk (w.alloc (.cells x.cs 82)) w.heap.size x := ⟨heap_alloc_last w _, h⟩

theorem Bk.setRow {w : World} {b : Nat} {x y : Ln} (h : Bk w b x) (hy : y.a.length = 6) : Bk (w.setRow b y.cs) b y := ⟨setRow_heap w b _ _ _ _ h.1, hy⟩

theorem Bk.setAside {w : World} {b y : Nat} {x : Ln} (h : Bk w b x) (hne : b ≠ y) (cs : Array Value) : Bk (w.setRow y cs) b x := h.of_block (setRow_other w y b cs hne)

theorem Below.setRow {B : Nat} {w w' : World} (h : Below B w w') {b : Nat} (hle : B ≤ b) (cs : Array Value) : Below B w (w'.setRow b cs) :=
  ⟨h.os, h.tape, h.output, by simpa using h.size, fun k hk => (setRow_other w' b k cs (by omega)).trans (h.block k hk)⟩

theorem ln_info : (Tryz.prog.info? 82).map (fun i => (i.zero, i.size)) = some (some (.agg ln0.cs), 8) := by kernel_rfl

theorem ln_size : (Tryz.prog.info? 82).map (·.size) = some 8 := (zero_of_info ln_info).2

theorem ln_zero (w : World) : (zeroValue 82).run Tryz.prog w = .ok (.agg ln0.cs) w := (zero_of_info ln_info).1 w

theorem ln_load {w : World} {b : Nat} {x : Ln} (h : Bk w b x) : (loadVar 82 ⟨b, 0, none⟩).run Tryz.prog w = .ok (.agg x.cs) w :=
  run_loadVar_row w b _ _ x.cs (0, 0) _ h.1 Tryz.underlying82 rfl (by rw [Ln.size h.2]; exact ln_size)

theorem wpl_load {ops : Array Oper} {rest : List Oper} {o : Oper} {a : Act} {w : World} {Q : Exit → Act → World → Prop} (hgd : o.guard = none) (x : Operand) (ho : o.op = .load 82 x)
    (b : Nat) (hx : a.eval x = .pointer (some ⟨b, 0, none⟩)) (y : Ln) (hv : Bk w b y) (h : wpList Tryz.prog ops Q rest (a.put o.dst (.agg y.cs)) w) : wpList Tryz.prog ops Q (o :: rest) a w :=
  wpList_load_row hgd _ x ho b hx _ y.cs (0, 0) _ hv.1 Tryz.underlying82 rfl (by rw [Ln.size hv.2]; exact ln_size) h

theorem wpl_store {ops : Array Oper} {rest : List Oper} {o : Oper} {a : Act} {w : World} {Q : Exit → Act → World → Prop} (hgd : o.guard = none) (x y : Operand) (ho : o.op = .store 82 x y)
    (b : Nat) (z : Ln) (hx : a.eval x = .pointer (some ⟨b, 0, none⟩)) (hy : a.eval y = .agg z.cs) (old : Ln) (hv : Bk w b old) (hz : z.a.length = 6)
    (h : wpList Tryz.prog ops Q rest (a.put o.dst undef) (w.setRow b z.cs)) : wpList Tryz.prog ops Q (o :: rest) a w :=
  wpList_store_row hgd _ x y ho b z.cs hx hy _ old.cs hv.1 (by rw [Ln.size hz]; exact ln_size) (by rw [Ln.size hv.2, Ln.size hz]) z.one h

theorem results_ln {fn : Func} {p : Tmp} (h : fn.results = #[.cell p 82]) (tmps : Array Value) {w : World} {b : Nat} {x : Ln}
    (hp : tmps.getD p undef = .pointer (some ⟨b, 0, none⟩)) (hv : Bk w b x) : (results fn tmps).run Tryz.prog w = .ok (.agg x.cs) w := by
  have hp' : tmps[p]?.getD undef = .pointer (some ⟨b, 0, none⟩) := by simpa using hp
  simp [results, h, hp', asAddr, ln_load hv]

/-- 'max' of two numbers, as a word that the walk doesn't part. -/
def imax (x y : Int) : Int := max x y

theorem run_imax (x y : Int) (ts : Array TypeId) (t : TypeId) (W : World) : (Builtin.max_ ts t #[.int .i64 x, .int .i64 y]).run Tryz.prog W = .ok (.int .i64 (imax x y)) W := by
  rw [run_max_int2]; unfold imax
  congr 2
  split
  · rw [Int.max_eq_right (by omega)]
  · rw [Int.max_eq_left (by omega)]

/-- What has an absolute value. -/
def A63 (x : Int) : Prop := -9223372036854775807 ≤ x ∧ x ≤ 9223372036854775807

theorem gcd_step (a b : Int) : Int.gcd b (a.tmod b) = Int.gcd a b := by
  rw [Int.gcd_comm a b]
  simp only [Int.gcd, Int.natAbs_tmod]
  rw [Nat.gcd_comm b.natAbs (a.natAbs % b.natAbs), ← Nat.gcd_rec]

theorem gcd_last (a : Int) : imax a (-a) = (Int.gcd a 0 : Int) := by
  simp only [Int.gcd, Int.natAbs_zero, Nat.gcd_zero_right]
  unfold imax
  rcases Int.le_total 0 a with h | h
  · rw [Int.max_eq_left (by omega)]; omega
  · rw [Int.max_eq_right (by omega)]; omega

theorem tmod_a63 {a b : Int} (hb : A63 b) (h0 : b ≠ 0) : A63 (a.tmod b) ∧ (a.tmod b).natAbs < b.natAbs := by
  have h : (a.tmod b).natAbs < b.natAbs := by rw [Int.natAbs_tmod]; exact Nat.mod_lt _ (by omega)
  unfold A63 at *
  exact ⟨by omega, h⟩

set_option maxRecDepth 20000 in
set_option maxHeartbeats 1000000 in
theorem pgcd_any (a b : Int) (w : World) (ha : A63 a) (hb : A63 b) :
    Calls Tryz.prog 120 #[.int .i64 a, .int .i64 b] w (Drawn (.int .i64 (Int.gcd a b)) w) := by
  obtain ⟨G, hG⟩ : ∃ G, G = Int.gcd a b := ⟨_, rfl⟩
  rw [← hG]
  go_enter Tryz.func120, Tryz.ntmps120
  go_wp2_with fail
  go_loopw [0, 1] (fun p q wr => ∃ x y : Int, p = .int .i64 x ∧ q = .int .i64 y ∧ Hid (A63 x ∧ A63 y) ∧ Hid (Int.gcd x y = G) ∧ ∃ n, wr = w.drewN n) (fun _ q _ => (intOf q).natAbs)
  case atStart => exact ⟨a, b, rfl, rfl, Lib.hid ⟨ha, hb⟩, Lib.hid hG.symm, 0, rfl⟩
  case round =>
    obtain ⟨x, y, rfl, rfl, HA, HG, n, rfl⟩ := hrel
    by_cases hy : y = 0
    · subst hy
      have hm := run_imax x (-x)
      have q : wrap64 (-x) = -x := by have := HA.out.1; unfold A63 at this; unfold wrap64; omega
      go_wp2_with fail
      go_ret
      exact ⟨ret_int (by rw [gcd_last, HG.out]), n, rfl⟩
    · have h0 : (y != 0) = true := by simpa using hy
      have hz : (y == 0) = false := by simpa using hy
      have HR := Lib.hid (show A63 (x.tmod y) ∧ (x.tmod y).natAbs < y.natAbs ∧ Int.gcd y (x.tmod y) = G from by
        have := tmod_a63 (a := x) HA.out.2 hy
        exact ⟨this.1, this.2, (gcd_step x y).trans HG.out⟩)
      have HX := Lib.hid HA.out.2
      clear HA HG
      go_wp2_with fail
      go_quiet (fail)
      go_wp2_with fail
      go_roundw
      case rel => exact ⟨y, x.tmod y, rfl, rfl, Lib.hid ⟨HX.out, HR.out.1⟩, Lib.hid HR.out.2.2, _, World.drewN_drewN _ _ _⟩
      case measure => exact HR.out.2.1
end Go.Proofs.YtefpaobboimakaaGreat

namespace Go.Proofs.YtefpaobboimakaaGreat
open Go.RowKit

/-- The first t elements are changed. -/
def mapN (f : Int → Int) (t : Nat) (l : List Int) : List Int := (l.take t).map f ++ l.drop t

theorem mapN_len (f : Int → Int) (t : Nat) (l : List Int) : (mapN f t l).length = l.length := by simp [mapN]; omega

theorem mapN_all (f : Int → Int) (l : List Int) {t : Nat} (h : l.length ≤ t) : mapN f t l = l.map f := by simp [mapN, List.take_of_length_le h, List.drop_of_length_le h]

theorem mapN_get (f : Int → Int) {t : Nat} {l : List Int} (h : t < l.length) : gA (mapN f t l) t = gA l t := by
  simp [mapN, gA, List.getElem?_append, Nat.min_eq_left (Nat.le_of_lt h)]

theorem mapN_step (f : Int → Int) {t : Nat} {l : List Int} (h : t < l.length) : (mapN f t l).set t (f (gA l t)) = mapN f (t + 1) l := by
  apply List.ext_getElem?
  intro i
  simp only [mapN, gA]
  rw [List.getElem?_set]
  by_cases e : t = i
  · subst e
    simp [h, List.getElem?_append, List.getD_eq_getElem?_getD, show t < min t l.length + (l.length - t) by omega, show t < min (t + 1) l.length by omega]
  · by_cases hi : i < t
    · simp [e, List.getElem?_append, hi, Nat.min_eq_left (Nat.le_of_lt h), show i < min (t + 1) l.length by omega]
    · simp [e, List.getElem?_append, hi, Nat.min_eq_left (Nat.le_of_lt h), Nat.min_eq_left (show t + 1 ≤ l.length by omega), show ¬ i < t + 1 by omega, show t + (i - t) = i by omega, show t + 1 + (i - (t + 1)) = i by omega]

def Ln.times (x : Ln) (c : Int) : Ln := ⟨x.a.map (· * c), x.b * c, x.s⟩

set_option maxRecDepth 20000 in
set_option maxHeartbeats 1000000 in
theorem times_any (x : Ln) (c : Int) (w : World) (hx : x.a.length = 6) (h1 : ∀ v ∈ x.a, I64 (v * c)) (h2 : I64 (x.b * c)) :
    Calls Tryz.prog 118 #[.agg x.cs, .int .i64 c] w (Made (.agg (x.times c).cs) w) := by
  have hz := ln_zero
  obtain ⟨w0, hw0⟩ : ∃ w0, w0 = (w.alloc (.cells x.cs 82)).alloc (.cells ln0.cs 82) := ⟨_, rfl⟩
  have K0 := Lib.hid (show Bk w0 w.heap.size x by rw [hw0]; exact (Bk.made w x hx).alloc _)
  have K1 := Lib.hid (show Bk w0 (w.heap.size + 1) ln0 by rw [hw0]; have := Bk.made (w.alloc (.cells x.cs 82)) ln0 rfl; simpa using this)
  have E0 := Lib.hid (show Below w.heap.size w w0 by rw [hw0]; exact past_two (Below.refl _ _))
  have H1 := Lib.hid (show ∀ t, t < 6 → wrap64 (gA x.a t * c) = gA x.a t * c from fun t ht => by
    have := h1 (gA x.a t) (by unfold gA; rw [List.getD_eq_getElem?_getD, List.getElem?_eq_getElem (by omega)]; exact List.getElem_mem _)
    unfold I64 at this; unfold wrap64; omega)
  have q2 : wrap64 (x.b * c) = x.b * c := by unfold I64 at h2; unfold wrap64; omega
  have HL := Lib.hid hx
  clear h1 h2 hx
  go_enter Tryz.func118, Tryz.ntmps118
  go_wp2_with fail
  rw [← hw0]
  clear hw0
  go_loopw [6] (fun s wr => ∃ t : Nat, s = .int .i64 t ∧ t ≤ 6 ∧ Hid (Bk wr w.heap.size ⟨mapN (· * c) t x.a, x.b, x.s⟩) ∧ Hid (Bk wr (w.heap.size + 1) ln0) ∧ Hid (Below w.heap.size w wr)) (fun s _ => 6 - (intOf s).toNat)
  case atStart => exact ⟨0, rfl, by omega, Lib.hid (by have := K0.out; simpa [mapN] using this), K1, E0⟩
  case round =>
    obtain ⟨t, rfl, ht, HB, HR, HW⟩ := hrel
    by_cases h6 : t < 6
    · have c0 : wr.cell? ⟨w.heap.size, t, none⟩ = some (.int .i64 (gA x.a t)) := by have := HB.out.at h6; rwa [mapN_get _ (by rw [HL.out]; exact h6)] at this
      have f0 := HB.out.free t
      have q1 := H1.out t h6
      have HB' := Lib.hid (HB.out.put h6 (gA x.a t * c))
      go_wp2_with fail
      go_roundw
      case rel =>
        refine ⟨t + 1, by go_num, by omega, Lib.hid ?_, Lib.hid (HR.out.aside (by omega) _), Lib.hid (HW.out.setCell (p := ⟨w.heap.size, t, none⟩) (Nat.le_refl _) _)⟩
        have := HB'.out
        rwa [mapN_step (· * c) (by rw [HL.out]; exact h6)] at this
      case measure => simp [intOf]; omega
    · have HB' := Lib.hid (show Bk wr w.heap.size ⟨x.a.map (· * c), x.b, x.s⟩ by have := HB.out; rwa [mapN_all _ _ (by rw [HL.out]; omega)] at this)
      have c6 := HB'.out.num
      have f6 := HB'.out.free 6
      have HC := Lib.hid (show Bk (wr.setCell ⟨w.heap.size, 6, none⟩ (.int .i64 (x.b * c))) w.heap.size (x.times c) from HB'.out.putb (x.b * c))
      have HD := Lib.hid (HR.out.aside (y := w.heap.size) (j := 6) (by omega) (.int .i64 (x.b * c)))
      have HE := Lib.hid (HW.out.setCell (p := ⟨w.heap.size, 6, none⟩) (Nat.le_refl _) (.int .i64 (x.b * c)))
      have HZ := Lib.hid HC.out.2
      clear HB HR HW
      go_wp2_with (first | refine wpl_load rfl _ rfl _ rfl _ HC.out ?_ | refine wpl_store rfl _ _ rfl _ _ rfl rfl _ HD.out HZ.out ?_)
      exact bodyPost_ret (results_ln Tryz.results118 _ rfl (HD.out.setRow HZ.out)) rfl ⟨rfl, Below.setRow HE.out (by omega) _⟩

/-- Two lists, added up element by element: the first t elements. -/
def addN (t : Nat) (l m : List Int) : List Int := List.zipWith (· + ·) (l.take t) (m.take t) ++ l.drop t

theorem addN_get {t : Nat} {l m : List Int} (hl : m.length = l.length) (h : t < l.length) : gA (addN t l m) t = gA l t := by
  simp [addN, gA, List.getElem?_append, hl, Nat.min_eq_left (Nat.le_of_lt h)]

theorem addN_all (l m : List Int) (hl : m.length = l.length) {t : Nat} (h : l.length ≤ t) : addN t l m = List.zipWith (· + ·) l m := by
  simp [addN, List.take_of_length_le h, List.take_of_length_le (show m.length ≤ t by omega), List.drop_of_length_le h]

theorem addN_len (t : Nat) (l m : List Int) (hl : m.length = l.length) : (addN t l m).length = l.length := by simp [addN, hl]; omega

theorem addN_step {t : Nat} {l m : List Int} (hl : m.length = l.length) (h : t < l.length) : (addN t l m).set t (gA l t + gA m t) = addN (t + 1) l m := by
  apply List.ext_getElem?
  intro i
  rw [List.getElem?_set]
  by_cases e : t = i
  · subst e
    simp [addN, gA, h, hl, List.getElem?_append, List.getElem?_zipWith, show t < min t l.length + (l.length - t) by omega, show t < min (t + 1) l.length by omega]
  · by_cases hi : i < t
    · simp [addN, e, List.getElem?_append, List.getElem?_zipWith, hl, hi, Nat.min_eq_left (Nat.le_of_lt h), show i < min (t + 1) l.length by omega, show i < t + 1 by omega]
    · simp [addN, e, List.getElem?_append, hl, hi, Nat.min_eq_left (Nat.le_of_lt h), Nat.min_eq_left (show t + 1 ≤ l.length by omega), show ¬ i < t + 1 by omega, show t + (i - t) = i by omega, show t + 1 + (i - (t + 1)) = i by omega]

def Ln.plus (x y : Ln) : Ln := ⟨List.zipWith (· + ·) x.a y.a, x.b + y.b, x.s || y.s⟩

set_option maxRecDepth 20000 in
set_option maxHeartbeats 1000000 in
theorem plus_any (x y : Ln) (w : World) (hx : x.a.length = 6) (hy : y.a.length = 6) (h1 : ∀ t, t < 6 → I64 (gA x.a t + gA y.a t)) (h2 : I64 (x.b + y.b)) :
    Calls Tryz.prog 121 #[.agg x.cs, .agg y.cs] w (Made (.agg (x.plus y).cs) w) := by
  have hz := ln_zero
  obtain ⟨w0, hw0⟩ : ∃ w0, w0 = ((w.alloc (.cells x.cs 82)).alloc (.cells y.cs 82)).alloc (.cells ln0.cs 82) := ⟨_, rfl⟩
  have K0 := Lib.hid (show Bk w0 w.heap.size x by rw [hw0]; exact ((Bk.made w x hx).alloc _).alloc _)
  have K1 := Lib.hid (show Bk w0 (w.heap.size + 1) y by rw [hw0]; have := (Bk.made (w.alloc (.cells x.cs 82)) y hy).alloc (.cells ln0.cs 82); simpa using this)
  have K2 := Lib.hid (show Bk w0 (w.heap.size + 2) ln0 by rw [hw0]; have := Bk.made ((w.alloc (.cells x.cs 82)).alloc (.cells y.cs 82)) ln0 rfl; simpa using this)
  have E0 := Lib.hid (show Below w.heap.size w w0 by rw [hw0]; exact past_three (Below.refl _ _))
  have H1 := Lib.hid (show ∀ t, t < 6 → wrap64 (gA x.a t + gA y.a t) = gA x.a t + gA y.a t from fun t ht => by
    have := h1 t ht
    unfold I64 at this; unfold wrap64; omega)
  have q2 : wrap64 (x.b + y.b) = x.b + y.b := by unfold I64 at h2; unfold wrap64; omega
  have HL := Lib.hid hx
  have HM := Lib.hid hy
  clear h1 h2 hx hy
  go_enter Tryz.func121, Tryz.ntmps121
  go_wp2_with fail
  rw [← hw0]
  clear hw0
  go_loopw [6] (fun s wr => ∃ t : Nat, s = .int .i64 t ∧ t ≤ 6 ∧ Hid (Bk wr w.heap.size ⟨addN t x.a y.a, x.b, x.s⟩) ∧ Hid (Bk wr (w.heap.size + 1) y) ∧ Hid (Bk wr (w.heap.size + 2) ln0) ∧ Hid (Below w.heap.size w wr)) (fun s _ => 6 - (intOf s).toNat)
  case atStart => exact ⟨0, rfl, by omega, Lib.hid (by have := K0.out; simpa [addN] using this), K1, K2, E0⟩
  case round =>
    obtain ⟨t, rfl, ht, HB, HY, HR, HW⟩ := hrel
    by_cases h6 : t < 6
    · have c0 : wr.cell? ⟨w.heap.size, t, none⟩ = some (.int .i64 (gA x.a t)) := by have := HB.out.at h6; rwa [addN_get (by rw [HL.out, HM.out]) (by rw [HL.out]; exact h6)] at this
      have c1 := HY.out.at h6
      have f0 := HB.out.free t
      have q1 := H1.out t h6
      have HB' := Lib.hid (show Bk _ _ _ from HB.out.put h6 (gA x.a t + gA y.a t))
      go_wp2_with fail
      go_region
      all_goals
        go_wp2_with fail
        go_roundw
        case rel =>
          refine ⟨t + 1, by go_num, by omega, Lib.hid ?_, Lib.hid ?_, Lib.hid ?_, Lib.hid ?_⟩
          · have := (HB'.out)
            rw [addN_step (by rw [HL.out, HM.out]) (by rw [HL.out]; exact h6)] at this
            exact this.of_block rfl
          · exact (HY.out.aside (y := w.heap.size) (j := t) (by omega) _).of_block rfl
          · exact (HR.out.aside (y := w.heap.size) (j := t) (by omega) _).of_block rfl
          · exact below_drewN (HW.out.setCell (p := ⟨w.heap.size, t, none⟩) (Nat.le_refl _) _) 1
        case measure => simp [intOf]; omega
    · have HB' := Lib.hid (show Bk wr w.heap.size ⟨List.zipWith (· + ·) x.a y.a, x.b, x.s⟩ by have := HB.out; rwa [addN_all _ _ (by rw [HL.out, HM.out]) (by rw [HL.out]; omega)] at this)
      have c6 := HB'.out.num
      have f6 := HB'.out.free 6
      have d6 := HY.out.num
      have B1 := Lib.hid (HB'.out.putb (x.b + y.b))
      have Y1 := Lib.hid (HY.out.aside (y := w.heap.size) (j := 6) (by omega) (.int .i64 (x.b + y.b)))
      have R1 := Lib.hid (HR.out.aside (y := w.heap.size) (j := 6) (by omega) (.int .i64 (x.b + y.b)))
      have W1 := Lib.hid (HW.out.setCell (p := ⟨w.heap.size, 6, none⟩) (Nat.le_refl _) (.int .i64 (x.b + y.b)))
      have g7 := B1.out.free 7
      have c7 := B1.out.str
      have d7 := Y1.out.str
      have C2 := Lib.hid (show Bk _ w.heap.size (x.plus y) from B1.out.puts (x.s || y.s))
      have R2 := Lib.hid (R1.out.aside (y := w.heap.size) (j := 7) (by omega) (.bool (x.s || y.s)))
      have W2 := Lib.hid (W1.out.setCell (p := ⟨w.heap.size, 7, none⟩) (Nat.le_refl _) (.bool (x.s || y.s)))
      have HZ := Lib.hid C2.out.2
      clear HB HR HW HY HB' B1 Y1 R1 W1
      cases hs : x.s
      · rw [hs] at c7 C2 R2 W2
        simp only [Bool.false_or] at C2 R2 W2
        go_wp2_with (first | refine wpl_load rfl _ rfl _ rfl _ C2.out ?_ | refine wpl_store rfl _ _ rfl _ _ rfl rfl _ R2.out HZ.out ?_)
        exact bodyPost_ret (results_ln Tryz.results121 _ rfl (R2.out.setRow HZ.out)) rfl ⟨rfl, Below.setRow W2.out (by omega) _⟩
      · rw [hs] at c7 C2 R2 W2
        simp only [Bool.true_or] at C2 R2 W2
        go_wp2_with (first | refine wpl_load rfl _ rfl _ rfl _ C2.out ?_ | refine wpl_store rfl _ _ rfl _ _ rfl rfl _ R2.out HZ.out ?_)
        exact bodyPost_ret (results_ln Tryz.results121 _ rfl (R2.out.setRow HZ.out)) rfl ⟨rfl, Below.setRow W2.out (by omega) _⟩
end Go.Proofs.YtefpaobboimakaaGreat

namespace Go.Proofs.YtefpaobboimakaaGreat
open Go.RowKit

def gcdL (b : Int) (a : List Int) : Int := a.foldl (fun d v => (Int.gcd d v : Int)) b

theorem gcdL_snoc (b : Int) (a : List Int) (v : Int) : gcdL b (a ++ [v]) = (Int.gcd (gcdL b a) v : Int) := by simp [gcdL]

theorem gcdL_step {b : Int} {a : List Int} {t : Nat} (h : t < a.length) : gcdL b (a.take (t + 1)) = (Int.gcd (gcdL b (a.take t)) (gA a t) : Int) := by
  rw [List.take_succ_eq_append_getElem h, gcdL_snoc]
  simp [gA, h]

theorem gcd_le63 {a b : Int} (ha : A63 a) (hb : A63 b) : A63 (Int.gcd a b : Int) := by
  unfold A63 at *
  by_cases h0 : a = 0
  · subst h0; simp only [Int.gcd, Int.natAbs_zero, Nat.gcd_zero_left]; omega
  · have := Nat.gcd_le_left b.natAbs (show 0 < a.natAbs by omega)
    simp only [Int.gcd]; omega

theorem gcdL_63 {b : Int} (hb : A63 b) : ∀ {a : List Int}, (∀ v ∈ a, A63 v) → A63 (gcdL b a) := by
  intro a h
  induction a generalizing b with
  | nil => exact hb
  | cons v a ih => exact ih (gcd_le63 hb (h v (by simp))) fun u hu => h u (by simp [hu])

def Ln.dv (x : Ln) : Int := gcdL x.b x.a

def Ln.low (x : Ln) : Ln := if x.dv = 0 then x else ⟨x.a.map (·.tdiv x.dv), x.b.tdiv x.dv, x.s⟩

theorem gA_mem {a : List Int} {t : Nat} (h : t < a.length) : gA a t ∈ a := by
  unfold gA; rw [List.getD_eq_getElem?_getD, List.getElem?_eq_getElem h]; exact List.getElem_mem _

theorem tdiv_in {a d : Int} (ha : A63 a) : wrap64 (a.tdiv d) = a.tdiv d := by
  have h : (a.tdiv d).natAbs ≤ a.natAbs := by rw [Int.natAbs_tdiv]; exact Nat.div_le_self _ _
  unfold A63 at ha; unfold wrap64; omega

theorem addr_add (b o j : Nat) : (⟨b, o, none⟩ : Addr).add j = ⟨b, o + j, none⟩ := by simp [Addr.add]

theorem coef_ty : Tryz.prog.underlying 80 = some (.array 6 2) := by kernel_rfl

theorem coef_size : (Tryz.prog.info? 80).map (·.size) = some 6 := by kernel_rfl

/-- The coefficients of a line in memory, as a value. -/
def avs (a : List Int) : Array Value := ⟨a.map (Value.int .i64)⟩

theorem size_of {t : TypeId} {k : Nat} (h : (Tryz.prog.info? t).map (·.size) = some k) (w : World) : (sizeOf t).run Tryz.prog w = .ok k w := by
  cases hq : Tryz.prog.info? t with
  | none => simp [hq] at h
  | some i => simp [hq] at h; simp [sizeOf, typeInfo, hq, h]

theorem i64_size : (Tryz.prog.info? 2).map (·.size) = some 1 := by kernel_rfl

theorem coef_loadV {w : World} {b : Nat} {x : Ln} (h : Bk w b x) : (loadVar 80 ⟨b, 0, none⟩).run Tryz.prog w = .ok (.agg (avs x.a)) w := by
  have hc := run_loadCells_list (P := Tryz.prog) w ⟨b, 0, none⟩ (x.a.map (Value.int .i64)) (fun j v hv => by
    have hj : j < 6 := by
      have := h.2
      by_cases e : j < (x.a.map (Value.int .i64)).length
      · simpa [this] using e
      · rw [List.getElem?_eq_none (by omega)] at hv; cases hv
    rw [addr_add, Nat.zero_add, h.at hj, ← hv]
    simp [gA, show j < x.a.length by rw [h.2]; exact hj])
  rw [show (x.a.map (Value.int .i64)).length = 6 by simp [h.2]] at hc
  have ha : (isAgg 80).run Tryz.prog w = .ok true w := by
    unfold isAgg; rw [Sem.run_bind, run_underlying coef_ty w]; simp
  unfold loadVar
  rw [Sem.run_bind, ha, Result.andThen_ok, if_pos rfl, Sem.run_bind, size_of coef_size, Result.andThen_ok, Sem.run_bind, hc]
  rfl

theorem wp_loadA {w : World} {o : Oper} {a : Act} {K : Act → World → Prop} {Q : Exit → Act → World → Prop} (s : Operand) (ho : o.op = .load 80 s) (b : Nat) (hs : a.eval s = .pointer (some ⟨b, 0, none⟩)) (x : Ln) (hx : Bk w b x)
    (h : K (a.put o.dst (.agg (avs x.a))) w) : o.wp Tryz.prog a w K Q := by
  have hv := coef_loadV hx
  generalize avs x.a = V at *
  unfold Oper.wp execOp
  simp only [ho, hs, Instr.loadAt, Instr.sureAddr, Sem.run_bind, Sem.run_pure, Result.andThen_ok, hv]
  exact h

theorem wpl_loadA {w : World} {ops : Array Oper} {rest : List Oper} {o : Oper} {a : Act} {Q : Exit → Act → World → Prop} (hgd : o.guard = none) (s : Operand) (ho : o.op = .load 80 s) (b : Nat) (hs : a.eval s = .pointer (some ⟨b, 0, none⟩)) (x : Ln) (hx : Bk w b x)
    (h : wpList Tryz.prog ops Q rest (a.put o.dst (.agg (avs x.a))) w) : wpList Tryz.prog ops Q (o :: rest) a w :=
  wpList_plain hgd fun _ hK => wp_loadA s ho b hs x hx (hK _ _ h)

theorem run_indexA (l : List Int) (t : Nat) (hl : l.length = 6) (ht : t < 6) (w : World) : (Instr.index 80 (.agg (avs l)) (.int .i64 t)).run Tryz.prog w = .ok (.int .i64 (gA l t)) w := by
  have hp : Tryz.prog.plainKey 2 = true := by kernel_rfl
  have p1 : (part 2 (avs l) (t * 1)).run Tryz.prog w = .ok (.int .i64 (gA l t)) w := run_part_plain w hp (by simp [avs, gA, show t < l.length by omega])
  unfold Instr.index
  simp only [asIntOf, Sem.run_bind, Sem.run_pure, Result.andThen_ok, run_underlying coef_ty w]
  rw [if_pos (by constructor <;> omega), Sem.run_bind, size_of i64_size, Result.andThen_ok, Int.toNat_natCast, p1]

theorem wp_indexA {w : World} {o : Oper} {a : Act} {K : Act → World → Prop} {Q : Exit → Act → World → Prop} (s i : Operand) (ho : o.op = .index 80 s i) (l : List Int) (t : Nat) (hs : a.eval s = .agg (avs l)) (hi : a.eval i = .int .i64 t) (hl : l.length = 6) (ht : t < 6)
    (h : K (a.put o.dst (.int .i64 (gA l t))) w) : o.wp Tryz.prog a w K Q := by
  have hv := run_indexA l t hl ht w
  generalize avs l = V at *
  unfold Oper.wp execOp
  simp only [ho, hs, hi, Sem.run_bind, Sem.run_pure, hv, Result.andThen_ok]
  exact h

theorem wpl_indexA {w : World} {ops : Array Oper} {rest : List Oper} {o : Oper} {a : Act} {Q : Exit → Act → World → Prop} (hgd : o.guard = none) (s i : Operand) (ho : o.op = .index 80 s i) (l : List Int) (t : Nat) (hs : a.eval s = .agg (avs l)) (hi : a.eval i = .int .i64 t) (hl : l.length = 6) (ht : t < 6)
    (h : wpList Tryz.prog ops Q rest (a.put o.dst (.int .i64 (gA l t))) w) : wpList Tryz.prog ops Q (o :: rest) a w :=
  wpList_plain hgd fun _ hK => wp_indexA s i ho l t hs hi hl ht (hK _ _ h)

set_option maxRecDepth 20000 in
set_option maxHeartbeats 1000000 in
theorem lowest_any (x : Ln) (w : World) (hx : x.a.length = 6) (h1 : ∀ v ∈ x.a, A63 v) (h2 : A63 x.b) :
    Calls Tryz.prog 122 #[.agg x.cs] w (Made (.agg x.low.cs) w) := by
  have hz := ln_zero
  obtain ⟨w0, hw0⟩ : ∃ w0, w0 = (w.alloc (.cells x.cs 82)).alloc (.cells ln0.cs 82) := ⟨_, rfl⟩
  have K0 := Lib.hid (show Bk w0 w.heap.size x by rw [hw0]; exact (Bk.made w x hx).alloc _)
  have K1 := Lib.hid (show Bk w0 (w.heap.size + 1) ln0 by rw [hw0]; have := Bk.made (w.alloc (.cells x.cs 82)) ln0 rfl; simpa using this)
  have E0 := Lib.hid (show Below w.heap.size w w0 by rw [hw0]; exact past_two (Below.refl _ _))
  have HL := Lib.hid hx
  have HA := Lib.hid h1
  have c6 := K0.out.num
  have HB := Lib.hid h2
  clear h1 h2 hx
  go_enter Tryz.func122, Tryz.ntmps122
  go_upto_region 1 with (fail)
  rw [← hw0]
  clear hw0
  go_wp2_with (refine wpl_loadA rfl _ rfl _ rfl x K0.out ?_)
  clear c6
  go_loopw [11, 3] (fun s d wr => ∃ t : Nat, s = .int .i64 t ∧ t ≤ 6 ∧ d = .int .i64 (gcdL x.b (x.a.take t)) ∧ ∃ n, wr = w0.drewN n) (fun s _ _ => 6 - (intOf s).toNat)
  case atStart => exact ⟨0, rfl, by omega, by simp [gcdL], 0, rfl⟩
  case round =>
    obtain ⟨t, rfl, ht, rfl, n, rfl⟩ := hrel
    by_cases h6 : t < 6
    · have PG := Lib.hid (fun W => pgcd_any (gcdL x.b (x.a.take t)) (gA x.a t) W (gcdL_63 HB.out fun u hu => HA.out u (List.mem_of_mem_take hu)) (HA.out _ (gA_mem (by rw [HL.out]; exact h6))))
      rw [← gcdL_step (by rw [HL.out]; exact h6)] at PG
      go_wp2_with (refine wpl_indexA rfl _ _ rfl x.a t rfl rfl HL.out h6 ?_)
      refine (PG.out _).mono ?_
      rintro e w1 ⟨rfl, m, rfl⟩
      go_wp2_with fail
      go_roundw
      case rel => exact ⟨t + 1, by go_num, by omega, rfl, _, rfl⟩
      case measure => simp [intOf]; omega
    · have e6 : t = 6 := by omega
      have HE := Lib.hid (show gcdL x.b (x.a.take t) = x.dv from by unfold Ln.dv; rw [List.take_of_length_le (by rw [HL.out]; omega)])
      obtain ⟨W, hW⟩ : ∃ W, W = w0.drewN n := ⟨_, rfl⟩
      have K2 := Lib.hid (show Bk W w.heap.size x by rw [hW]; exact K0.out.of_block rfl)
      have K3 := Lib.hid (show Bk W (w.heap.size + 1) ln0 by rw [hW]; exact K1.out.of_block rfl)
      have E2 := Lib.hid (show Below w.heap.size w W by rw [hW]; exact below_drewN E0.out n)
      rw [HE.out]
      rw [← hW]
      clear hW e6 ht
      by_cases hd : x.dv = 0
      · have D0 : (x.dv == 0) = true := by simpa using hd
        have EL := Lib.hid (show x.low = x from by unfold Ln.low; rw [if_pos hd])
        clear hd
        go_wp2_with (first | refine wpl_load rfl _ rfl _ rfl _ K2.out ?_ | refine wpl_store rfl _ _ rfl _ _ rfl rfl _ K3.out HL.out ?_)
        exact bodyPost_ret (results_ln Tryz.results122 _ rfl (K3.out.setRow HL.out)) rfl ⟨by rw [EL.out], Below.setRow E2.out (by omega) _⟩
      · have D0 : (x.dv == 0) = false := by simpa using hd
        have DN := hd
        have EL := Lib.hid (show x.low = ⟨x.a.map (·.tdiv x.dv), x.b.tdiv x.dv, x.s⟩ from by unfold Ln.low; rw [if_neg hd])
        clear hd
        go_wp2_with fail
        clear HE
        generalize x.dv = d at *
        have HT := Lib.hid (show ∀ t, t < 6 → wrap64 ((gA x.a t).tdiv d) = (gA x.a t).tdiv d from fun t ht => tdiv_in (HA.out _ (gA_mem (by rw [HL.out]; exact ht))))
        have hb := tdiv_in (d := d) HB.out
        go_loopw [21] (fun s wr => ∃ t : Nat, s = .int .i64 t ∧ t ≤ 6 ∧ Hid (Bk wr w.heap.size ⟨mapN (·.tdiv d) t x.a, x.b, x.s⟩) ∧ Hid (Bk wr (w.heap.size + 1) ln0) ∧ Hid (Below w.heap.size w wr)) (fun s _ => 6 - (intOf s).toNat)
        case atStart => exact ⟨0, rfl, by omega, Lib.hid (by have := K2.out; simpa [mapN] using this), K3, E2⟩
        case round =>
          obtain ⟨t, rfl, ht, HX, HR, HW⟩ := hrel
          by_cases h6 : t < 6
          · have c0 : wr.cell? ⟨w.heap.size, t, none⟩ = some (.int .i64 (gA x.a t)) := by have := HX.out.at h6; rwa [mapN_get _ (by rw [HL.out]; exact h6)] at this
            have f0 := HX.out.free t
            have q1 := HT.out t h6
            have HX' := Lib.hid (HX.out.put h6 ((gA x.a t).tdiv d))
            go_wp2_with fail
            go_roundw
            case rel =>
              refine ⟨t + 1, by go_num, by omega, Lib.hid ?_, Lib.hid (HR.out.aside (by omega) _), Lib.hid (HW.out.setCell (p := ⟨w.heap.size, t, none⟩) (Nat.le_refl _) _)⟩
              have := HX'.out
              rwa [mapN_step (·.tdiv d) (by rw [HL.out]; exact h6)] at this
            case measure => simp [intOf]; omega
          · have HX' := Lib.hid (show Bk wr w.heap.size ⟨x.a.map (·.tdiv d), x.b, x.s⟩ by have := HX.out; rwa [mapN_all _ _ (by rw [HL.out]; omega)] at this)
            have c6 := HX'.out.num
            have f6 := HX'.out.free 6
            have HC := Lib.hid (show Bk (wr.setCell ⟨w.heap.size, 6, none⟩ (.int .i64 (x.b.tdiv d))) w.heap.size x.low from by rw [EL.out]; exact HX'.out.putb (x.b.tdiv d))
            have HD := Lib.hid (HR.out.aside (y := w.heap.size) (j := 6) (by omega) (.int .i64 (x.b.tdiv d)))
            have HE' := Lib.hid (HW.out.setCell (p := ⟨w.heap.size, 6, none⟩) (Nat.le_refl _) (.int .i64 (x.b.tdiv d)))
            have HZ := Lib.hid HC.out.2
            clear HX HR HW
            go_wp2_with (first | refine wpl_load rfl _ rfl _ rfl _ HC.out ?_ | refine wpl_store rfl _ _ rfl _ _ rfl rfl _ HD.out HZ.out ?_)
            exact bodyPost_ret (results_ln Tryz.results122 _ rfl (HD.out.setRow HZ.out)) rfl ⟨rfl, Below.setRow HE'.out (by omega) _⟩
end Go.Proofs.YtefpaobboimakaaGreat

namespace Go.Proofs.YtefpaobboimakaaGreat
open Go.RowKit

/-- What a line's numbers keep to. -/
structure Rg (m : Int) (x : Ln) : Prop where
  len : x.a.length = 6
  a : ∀ v ∈ x.a, -m ≤ v ∧ v ≤ m
  b : -m ≤ x.b ∧ x.b ≤ m

theorem Rg.mono {m n : Int} {x : Ln} (h : Rg m x) (hn : m ≤ n) : Rg n x := ⟨h.len, fun v q => by have := h.a v q; omega, by have := h.b; omega⟩

theorem Rg.at {m : Int} {x : Ln} (h : Rg m x) {t : Nat} (ht : t < 6) : -m ≤ gA x.a t ∧ gA x.a t ≤ m := h.a _ (gA_mem (by rw [h.len]; exact ht))

theorem Rg.of_at {m : Int} {x : Ln} (hl : x.a.length = 6) (ha : ∀ t, t < 6 → -m ≤ gA x.a t ∧ gA x.a t ≤ m) (hb : -m ≤ x.b ∧ x.b ≤ m) : Rg m x :=
  ⟨hl, fun v hv => by
    obtain ⟨i, hi, rfl⟩ := List.getElem_of_mem hv
    have := ha i (by omega)
    simpa [gA, hi] using this, hb⟩

theorem times_len {x : Ln} {c : Int} : (x.times c).a.length = x.a.length := by simp [Ln.times]

theorem gA_map (f : Int → Int) {l : List Int} {t : Nat} (h : t < l.length) : gA (l.map f) t = f (gA l t) := by simp [gA, h]

theorem gA_zip {l m : List Int} {t : Nat} (h : t < l.length) (h' : t < m.length) : gA (List.zipWith (· + ·) l m) t = gA l t + gA m t := by simp [gA, h, h', List.getElem?_zipWith]

theorem mul_in {u v m k : Int} (h1 : -m ≤ u ∧ u ≤ m) (h2 : -k ≤ v ∧ v ≤ k) (hm : 0 ≤ m) (hk : 0 ≤ k) : -(m * k) ≤ u * v ∧ u * v ≤ m * k := by
  have a : (u * v).natAbs ≤ (m * k).natAbs := by
    rw [Int.natAbs_mul, Int.natAbs_mul]
    exact Nat.mul_le_mul (by omega) (by omega)
  have b : 0 ≤ m * k := Int.mul_nonneg hm hk
  omega

theorem Rg.times {m k : Int} {x : Ln} {c : Int} (h : Rg m x) (hc : -k ≤ c ∧ c ≤ k) (hm : 0 ≤ m) (hk : 0 ≤ k) : Rg (m * k) (x.times c) :=
  Rg.of_at (by rw [times_len]; exact h.len) (fun t ht => by rw [show (x.times c).a = x.a.map (· * c) from rfl, gA_map _ (by rw [h.len]; exact ht)]; exact mul_in (h.at ht) hc hm hk) (mul_in h.b hc hm hk)

theorem Rg.plus {m k : Int} {x y : Ln} (h : Rg m x) (h' : Rg k y) : Rg (m + k) (x.plus y) :=
  Rg.of_at (by simp [Ln.plus, h.len, h'.len]) (fun t ht => by
    rw [show (x.plus y).a = List.zipWith (· + ·) x.a y.a from rfl, gA_zip (by rw [h.len]; exact ht) (by rw [h'.len]; exact ht)]
    have := h.at ht; have := h'.at ht; omega) (by show -(m + k) ≤ x.b + y.b ∧ _; have := h.b; have := h'.b; constructor <;> (try show x.b + y.b ≤ _) <;> omega)

theorem Rg.low {m : Int} {x : Ln} (h : Rg m x) : Rg m x.low := by
  have td : ∀ v d : Int, -m ≤ v ∧ v ≤ m → -m ≤ v.tdiv d ∧ v.tdiv d ≤ m := fun v d q => by
    have : (v.tdiv d).natAbs ≤ v.natAbs := by rw [Int.natAbs_tdiv]; exact Nat.div_le_self _ _
    omega
  unfold Ln.low
  split
  · exact h
  · exact Rg.of_at (by simp [h.len]) (fun t ht => by rw [gA_map _ (by rw [h.len]; exact ht)]; exact td _ _ (h.at ht)) (td _ _ h.b)

def Ln.opp (x : Ln) : Ln := { x.times (-1) with s := !x.s }

theorem Rg.opp {m : Int} {x : Ln} (h : Rg m x) (hm : 0 ≤ m) : Rg m x.opp := by
  have := h.times (c := -1) (k := 1) (by omega) hm (by omega)
  rw [Int.mul_one] at this
  exact ⟨this.len, this.a, this.b⟩

set_option maxRecDepth 20000 in
set_option maxHeartbeats 1000000 in
theorem opp_any (x : Ln) (w : World) (h : Rg 9223372036854775807 x) :
    Calls Tryz.prog 96 #[.agg x.cs] w (Made (.agg x.opp.cs) w) := by
  have hz := ln_zero
  obtain ⟨w0, hw0⟩ : ∃ w0, w0 = (w.alloc (.cells x.cs 82)).alloc (.cells ln0.cs 82) := ⟨_, rfl⟩
  have K0 := Lib.hid (show Bk w0 w.heap.size x by rw [hw0]; exact (Bk.made w x h.len).alloc _)
  have K1 := Lib.hid (show Bk w0 (w.heap.size + 1) ln0 by rw [hw0]; have := Bk.made (w.alloc (.cells x.cs 82)) ln0 rfl; simpa using this)
  have E0 := Lib.hid (show Below w.heap.size w w0 by rw [hw0]; exact past_two (Below.refl _ _))
  have TM := Lib.hid (fun W => times_any x (-1) W h.len (fun v hv => by have := h.a v hv; unfold I64; omega) (by have := h.b; unfold I64; omega))
  have HL := Lib.hid (show (x.times (-1)).a.length = 6 by rw [times_len]; exact h.len)
  clear h
  go_enter Tryz.func96, Tryz.ntmps96
  go_upto_region 1 with (fail)
  rw [← hw0]
  clear hw0
  go_wp2_with (refine wpl_load rfl _ rfl _ rfl _ K0.out ?_)
  refine (TM.out _).mono ?_
  rintro e w1 ⟨rfl, hb⟩
  have B1 := Lib.hid (below_on E0.out hb)
  have X1 := Lib.hid (K0.out.kept hb)
  have Y1 := Lib.hid (K1.out.kept hb)
  clear hb
  have N1 := Lib.hid (show Bk (w1.alloc (.cells ln0.cs 82)) w1.heap.size ln0 from Bk.made w1 ln0 rfl)
  have z1 := Lib.hid (show w.heap.size + 2 ≤ w1.heap.size by have := Y1.out.lt; omega)
  have N2 := Lib.hid (N1.out.setRow HL.out)
  have X2 := Lib.hid ((X1.out.alloc (.cells ln0.cs 82)).setAside (y := w1.heap.size) (by have := z1.out; omega) (x.times (-1)).cs)
  have Y2 := Lib.hid ((Y1.out.alloc (.cells ln0.cs 82)).setAside (y := w1.heap.size) (by have := z1.out; omega) (x.times (-1)).cs)
  have B2 := Lib.hid (Below.setRow (B1.out.alloc B1.out.size (.cells ln0.cs 82)) (b := w1.heap.size) B1.out.size (x.times (-1)).cs)
  go_upto_region 2 with (refine wpl_store rfl _ _ rfl _ _ rfl rfl _ N1.out HL.out ?_)
  generalize (w1.alloc (.cells ln0.cs 82)).setRow w1.heap.size (x.times (-1)).cs = w2 at *
  generalize w1.heap.size = q at *
  have c7 := X2.out.str
  have d7 := N2.out.str
  have f7 := N2.out.free 7
  have N3 := Lib.hid (show Bk _ q x.opp from N2.out.puts (!x.s))
  have Y3 := Lib.hid (Y2.out.aside (y := q) (j := 7) (by have := z1.out; omega) (.bool (!x.s)))
  have B3 := Lib.hid (B2.out.setCell (p := ⟨q, 7, none⟩) (by have := z1.out; show w.heap.size ≤ q; omega) (.bool (!x.s)))
  have HO := Lib.hid N3.out.2
  go_wp2_with (first | refine wpl_load rfl _ rfl _ rfl _ N3.out ?_ | refine wpl_store rfl _ _ rfl _ _ rfl rfl _ Y3.out HO.out ?_)
  exact bodyPost_ret (results_ln Tryz.results96 _ rfl (Y3.out.setRow HO.out)) rfl ⟨rfl, Below.setRow B3.out (by omega) _⟩

def Ln.lim (x : Ln) : Int := if x.s then 2 * x.b else 2 * x.b + 1

set_option maxRecDepth 20000 in
set_option maxHeartbeats 1000000 in
theorem lim_any (x : Ln) (w : World) (h : Rg 4611686018427387903 x) :
    Calls Tryz.prog 123 #[.agg x.cs] w (Made (.int .i64 x.lim) w) := by
  obtain ⟨w0, hw0⟩ : ∃ w0, w0 = w.alloc (.cells x.cs 82) := ⟨_, rfl⟩
  have K0 := Bk.made w x h.len
  rw [← hw0] at K0
  have E0 := Lib.hid (show Below w.heap.size w w0 by rw [hw0]; exact one_more _)
  have c6 := K0.num
  have c7 := K0.str
  have q1 : wrap64 (2 * x.b) = 2 * x.b := by have := h.b; unfold wrap64; omega
  have q2 : wrap64 (2 * x.b + 1) = 2 * x.b + 1 := by have := h.b; unfold wrap64; omega
  have HL := Lib.hid (show x.lim = if x.s then 2 * x.b else 2 * x.b + 1 from rfl)
  clear K0 h
  go_enter Tryz.func123, Tryz.ntmps123
  go_upto_region 1 with (fail)
  rw [← hw0]
  clear hw0
  cases hs : x.s
  · rw [hs] at c7 HL
    go_wp2_with fail
    go_ret
    exact ⟨ret_int (by rw [HL.out]; first | rfl | (rw [q2]; rfl)), E0.out⟩
  · rw [hs] at c7 HL
    go_wp2_with fail
    go_ret
    exact ⟨ret_int (by rw [HL.out]; first | rfl | (rw [q2]; rfl)), E0.out⟩
end Go.Proofs.YtefpaobboimakaaGreat

namespace Go.Proofs.YtefpaobboimakaaGreat
open Go.RowKit

theorem ln_loadAt {w : World} {b : Nat} {x : Ln} (h : Bk w b x) : (Instr.loadAt 82 (.pointer (some ⟨b, 0, none⟩))).run Tryz.prog w = .ok (.agg x.cs) w := by
  simp only [Instr.loadAt, Instr.sureAddr, Sem.run_bind, Sem.run_pure, Result.andThen_ok, ln_load h]

theorem yld_loadL {o : Oper} {a : Act} {w : World} (s : Operand) (ho : o.op = .load 82 s) (b : Nat) (hs : a.eval s = .pointer (some ⟨b, 0, none⟩)) {x : Ln} (hx : Bk w b x) : (execOp a.eval o).run Tryz.prog w = .ok (.value (.agg x.cs)) w := by
  have h := ln_loadAt hx
  generalize x.cs = V at *
  unfold execOp
  simp only [ho, hs, Sem.run_bind, Sem.run_pure, h, Result.andThen_ok]

theorem row_aside {w : World} {p : Addr} {v : Value} (h : w.cell? p = some v) {y : Nat} (hne : p.block ≠ y) (cs : Array Value) : (w.setRow y cs).cell? p = some v := by
  have e : (w.setRow y cs).heap[p.block]? = w.heap[p.block]? := setRow_other w y p.block cs hne
  unfold World.cell? at h ⊢
  rw [e]; exact h

theorem tdc {a d : Int} {m : Int} (h : -m ≤ a ∧ a ≤ m) : -m ≤ a.tdiv d ∧ a.tdiv d ≤ m := by
  have : (a.tdiv d).natAbs ≤ a.natAbs := by rw [Int.natAbs_tdiv]; exact Nat.div_le_self _ _
  omega

/-- Two lines, added up so that the coefficient i goes. -/
def sumG (x y : Ln) (i : Nat) : Int := Int.gcd (gA x.a i) (gA y.a i)

def sumL (x y : Ln) (i : Nat) : Ln := ((x.times ((-(gA y.a i)).tdiv (sumG x y i))).plus (y.times ((gA x.a i).tdiv (sumG x y i)))).low

set_option maxRecDepth 20000 in
set_option maxHeartbeats 1000000 in
theorem sum_any (x y : Ln) (i : Nat) (w : World) (hi : i < 6) (hx : Rg 2147483647 x) (hy : Rg 2147483647 y) (h0 : gA x.a i ≠ 0) :
    Calls Tryz.prog 88 #[.agg x.cs, .agg y.cs, .int .i64 i] w (Made (.agg (sumL x y i).cs) w) := by
  have hz := ln_zero
  obtain ⟨w0, hw0⟩ : ∃ w0, w0 = ((w.alloc (.cells x.cs 82)).alloc (.cells y.cs 82)).alloc (.cells ln0.cs 82) := ⟨_, rfl⟩
  have K0 := Lib.hid (show Bk w0 w.heap.size x by rw [hw0]; exact ((Bk.made w x hx.len).alloc _).alloc _)
  have K1 := Lib.hid (show Bk w0 (w.heap.size + 1) y by rw [hw0]; have := (Bk.made (w.alloc (.cells x.cs 82)) y hy.len).alloc (.cells ln0.cs 82); simpa using this)
  have K2 := Lib.hid (show Bk w0 (w.heap.size + 2) ln0 by rw [hw0]; have := Bk.made ((w.alloc (.cells x.cs 82)).alloc (.cells y.cs 82)) ln0 rfl; simpa using this)
  have E0 := Lib.hid (show Below w.heap.size w w0 by rw [hw0]; exact past_three (Below.refl _ _))
  have rx := hx.at hi
  have ry := hy.at hi
  obtain ⟨u, hu⟩ : ∃ u, u = gA x.a i := ⟨_, rfl⟩
  obtain ⟨v, hv⟩ : ∃ v, v = gA y.a i := ⟨_, rfl⟩
  rw [← hu] at rx
  rw [← hv] at ry
  obtain ⟨d, hd⟩ : ∃ d, d = sumG x y i := ⟨_, rfl⟩
  have d1 : d = (Int.gcd u v : Int) := by rw [hd, hu, hv]; rfl
  have PG := Lib.hid (fun W => pgcd_any u v W (by unfold A63; omega) (by unfold A63; omega))
  rw [← d1] at PG
  have dn : d ≠ 0 := by
    rw [d1]; intro q
    have : Int.gcd u v = 0 := by exact_mod_cast q
    rw [Int.gcd_eq_zero_iff] at this
    rw [hu] at this; exact h0 this.1
  have d0 : (d == 0) = false := by simpa using dn
  have hi6 : (i : Int) < 6 := by omega
  have c0 : w0.cell? ⟨w.heap.size, i, none⟩ = some (.int .i64 u) := by rw [hu]; exact K0.out.at hi
  have c1 : w0.cell? ⟨w.heap.size + 1, i, none⟩ = some (.int .i64 v) := by rw [hv]; exact K1.out.at hi
  have HZ := Lib.hid (show (sumL x y i).a.length = 6 from (((hx.times (c := (-(gA y.a i)).tdiv (sumG x y i)) (k := 2147483647) (by rw [← hv, ← hd]; exact tdc (by omega)) (by omega) (by omega)).plus (hy.times (c := (gA x.a i).tdiv (sumG x y i)) (k := 2147483647) (by rw [← hu, ← hd]; exact tdc (by omega)) (by omega) (by omega))).low).len)
  obtain ⟨p, hp⟩ : ∃ p, p = (-v).tdiv d := ⟨_, rfl⟩
  obtain ⟨q, hq⟩ : ∃ q, q = u.tdiv d := ⟨_, rfl⟩
  have rp : -2147483647 ≤ p ∧ p ≤ 2147483647 := by rw [hp]; exact tdc (by omega)
  have rq : -2147483647 ≤ q ∧ q ≤ 2147483647 := by rw [hq]; exact tdc (by omega)
  have R1 := hx.times rp (by omega) (by omega)
  have R2 := hy.times rq (by omega) (by omega)
  have T1 := Lib.hid (fun W => times_any x p W hx.len (fun z hz => by have := mul_in (hx.a z hz) rp (by omega) (by omega); unfold I64; omega) (by have := mul_in hx.b rp (by omega) (by omega); unfold I64; omega))
  have T2 := Lib.hid (fun W => times_any y q W hy.len (fun z hz => by have := mul_in (hy.a z hz) rq (by omega) (by omega); unfold I64; omega) (by have := mul_in hy.b rq (by omega) (by omega); unfold I64; omega))
  have PL := Lib.hid (fun W => plus_any (x.times p) (y.times q) W R1.len R2.len (fun t ht => by have := R1.at ht; have := R2.at ht; unfold I64; omega) (by have := R1.b; have := R2.b; unfold I64; omega))
  have R3 := R1.plus R2
  have LO := Lib.hid (fun W => lowest_any ((x.times p).plus (y.times q)) W R3.len (fun z hz => by have := R3.a z hz; unfold A63; omega) (by have := R3.b; unfold A63; omega))
  rw [show ((x.times p).plus (y.times q)).low = sumL x y i by unfold sumL; rw [← hd, ← hu, ← hv, ← hp, ← hq]] at LO
  have hq1 : (-v).tdiv d = p := hp.symm
  have hq2 : u.tdiv d = q := hq.symm
  have hn : IntKind.i64.wrap (-v) = -v := wrap_in _ (by omega) (by omega)
  have hw1 : IntKind.i64.wrap p = p := wrap_in _ (by omega) (by omega)
  have hw2 : IntKind.i64.wrap q = q := wrap_in _ (by omega) (by omega)
  have dz : (d = 0) = False := by simpa using dn
  have KS := Lib.hid (show ∀ W, Below w0.heap.size w0 W → Bk W w.heap.size x ∧ Bk W (w.heap.size + 1) y ∧ W.cell? ⟨w.heap.size, i, none⟩ = some (.int .i64 u) ∧ W.cell? ⟨w.heap.size + 1, i, none⟩ = some (.int .i64 v) from fun W h => ⟨K0.out.kept h, K1.out.kept h, kept h c0, kept h c1⟩)
  clear R1 R2 R3 rp rq hp hq hu hv hd d1 dn h0 hx hy
  go_enter Tryz.func88, Tryz.ntmps88
  go_upto_region 1 with (fail)
  rw [← hw0]
  clear hw0 hz
  go_quiet ((go_at_call 120; refine Calls.quiet_of (PG.out _)))
  obtain ⟨w4, hw4⟩ : ∃ w4, w4 = (w0.drewN nq).drew := ⟨_, rfl⟩
  have B4 := Lib.hid (show Below w0.heap.size w0 w4 by rw [hw4]; exact (below_drewN (Below.refl _ _) nq).drew)
  go_upto_region 2 with (fail)
  refine wp_region_held_drew (S := (fun W => Bk W w.heap.size x ∧ Bk W (w.heap.size + 1) y ∧ W.cell? ⟨w.heap.size, i, none⟩ = some (.int .i64 u) ∧ W.cell? ⟨w.heap.size + 1, i, none⟩ = some (.int .i64 v))) (by kernel_rfl) (by rw [← hw4]; exact KS.out _ B4.out) (fun h0 => ?_)
  rw [← hw4] at h0 ⊢
  clear hw4
  refine wpAnyH_take (i := 0) (v := (.agg x.cs)) rfl (by kernel_rfl) (by kernel_rfl) (by kernel_rfl) (fun _ _ _ h => h) (Or.inl ⟨by rfl, fun w' hS => yld_loadL _ rfl _ rfl hS.1⟩) h0 ?_
  simp only [Act.put, List.getElem_toArray, List.getElem_cons_zero, List.setIfInBounds_toArray, List.set_cons_zero, List.set_cons_succ]
  refine wpAnyH_take (i := 1) (v := ?v2) rfl (by kernel_rfl) (by kernel_rfl) (by kernel_rfl) (fun _ _ _ h => h) (Or.inl ⟨by rfl, ?hy2⟩) h0 ?rest2
  case hy2 => (intro w' hS; (try dsimp only at hS); go_simp; try (with_reducible rfl))
  simp only [Act.put, List.getElem_toArray, List.getElem_cons_zero, List.getElem_cons_succ, List.setIfInBounds_toArray, List.set_cons_zero, List.set_cons_succ]
  refine wpAnyH_take (i := 2) (v := ?v3) rfl (by kernel_rfl) (by kernel_rfl) (by kernel_rfl) (fun _ _ _ h => h) (Or.inl ⟨by rfl, ?hy3⟩) h0 ?rest3
  case hy3 => (intro w' hS; (try dsimp only at hS); go_simp; try (with_reducible rfl))
  simp only [Act.put, List.getElem_toArray, List.getElem_cons_zero, List.getElem_cons_succ, List.setIfInBounds_toArray, List.set_cons_zero, List.set_cons_succ]
  refine wpAnyH_take (i := 3) (v := ?v4) rfl (by kernel_rfl) (by kernel_rfl) (by kernel_rfl) (fun _ _ _ h => h) (Or.inl ⟨by rfl, ?hy4⟩) h0 ?rest4
  case hy4 => (intro w' hS; (try dsimp only at hS); go_simp; try (with_reducible rfl))
  simp only [Act.put, List.getElem_toArray, List.getElem_cons_zero, List.getElem_cons_succ, List.setIfInBounds_toArray, List.set_cons_zero, List.set_cons_succ]
  refine wpAnyH_take (i := 4) (v := ?v5) rfl (by kernel_rfl) (by kernel_rfl) (by kernel_rfl) (fun _ _ _ h => h) (Or.inl ⟨by rfl, ?hy5⟩) h0 ?rest5
  case hy5 => (intro w' hS; (try dsimp only at hS); go_simp; try (with_reducible rfl))
  simp only [Act.put, List.getElem_toArray, List.getElem_cons_zero, List.getElem_cons_succ, List.setIfInBounds_toArray, List.set_cons_zero, List.set_cons_succ]
  refine wpAnyH_take (i := 5) (v := ?v6) rfl (by kernel_rfl) (by kernel_rfl) (by kernel_rfl) (fun _ _ _ h => h) (Or.inl ⟨by rfl, ?hy6⟩) h0 ?rest6
  case hy6 => (intro w' hS; (try dsimp only at hS); go_simp; try (with_reducible rfl))
  simp only [Act.put, List.getElem_toArray, List.getElem_cons_zero, List.getElem_cons_succ, List.setIfInBounds_toArray, List.set_cons_zero, List.set_cons_succ]
  refine wpAnyH_take (i := 6) (v := ?v7) rfl (by kernel_rfl) (by kernel_rfl) (by kernel_rfl) (fun _ _ _ h => h) (Or.inl ⟨by rfl, ?hy7⟩) h0 ?rest7
  case hy7 => (intro w' hS; (try dsimp only at hS); go_simp; try (with_reducible rfl))
  simp only [Act.put, List.getElem_toArray, List.getElem_cons_zero, List.getElem_cons_succ, List.setIfInBounds_toArray, List.set_cons_zero, List.set_cons_succ]
  refine wpAnyH_take (i := 7) (v := ?v8) rfl (by kernel_rfl) (by kernel_rfl) (by kernel_rfl) (fun _ _ _ h => h) (Or.inl ⟨by rfl, ?hy8⟩) h0 ?rest8
  case hy8 => (intro w' hS; (try dsimp only at hS); go_simp; try (with_reducible rfl))
  simp only [Act.put, List.getElem_toArray, List.getElem_cons_zero, List.getElem_cons_succ, List.setIfInBounds_toArray, List.set_cons_zero, List.set_cons_succ]
  refine wpAnyH_take (i := 9) (v := (.agg y.cs)) rfl (by kernel_rfl) (by kernel_rfl) (by kernel_rfl) (fun _ _ _ h => h) (Or.inl ⟨by rfl, fun w' hS => yld_loadL _ rfl _ rfl hS.2.1⟩) h0 ?_
  simp only [Act.put, List.getElem_toArray, List.getElem_cons_zero, List.getElem_cons_succ, List.setIfInBounds_toArray, List.set_cons_zero, List.set_cons_succ]
  refine wpAnyH_take (i := 10) (v := ?v10) rfl (by kernel_rfl) (by kernel_rfl) (by kernel_rfl) (fun _ _ _ h => h) (Or.inl ⟨by rfl, ?hy10⟩) h0 ?rest10
  case hy10 => (intro w' hS; (try dsimp only at hS); go_simp; try (with_reducible rfl))
  simp only [Act.put, List.getElem_toArray, List.getElem_cons_zero, List.getElem_cons_succ, List.setIfInBounds_toArray, List.set_cons_zero, List.set_cons_succ]
  refine wpAnyH_take (i := 11) (v := ?v11) rfl (by kernel_rfl) (by kernel_rfl) (by kernel_rfl) (fun _ _ _ h => h) (Or.inl ⟨by rfl, ?hy11⟩) h0 ?rest11
  case hy11 => (intro w' hS; (try dsimp only at hS); go_simp; try (with_reducible rfl))
  simp only [Act.put, List.getElem_toArray, List.getElem_cons_zero, List.getElem_cons_succ, List.setIfInBounds_toArray, List.set_cons_zero, List.set_cons_succ]
  refine wpAnyH_take (i := 12) (v := ?v12) rfl (by kernel_rfl) (by kernel_rfl) (by kernel_rfl) (fun _ _ _ h => h) (Or.inl ⟨by rfl, ?hy12⟩) h0 ?rest12
  case hy12 => (intro w' hS; (try dsimp only at hS); go_simp; try (with_reducible rfl))
  simp only [Act.put, List.getElem_toArray, List.getElem_cons_zero, List.getElem_cons_succ, List.setIfInBounds_toArray, List.set_cons_zero, List.set_cons_succ]
  refine wpAnyH_take (i := 13) (v := ?v13) rfl (by kernel_rfl) (by kernel_rfl) (by kernel_rfl) (fun _ _ _ h => h) (Or.inl ⟨by rfl, ?hy13⟩) h0 ?rest13
  case hy13 => (intro w' hS; (try dsimp only at hS); go_simp; try (with_reducible rfl))
  simp only [Act.put, List.getElem_toArray, List.getElem_cons_zero, List.getElem_cons_succ, List.setIfInBounds_toArray, List.set_cons_zero, List.set_cons_succ]
  refine wpAnyH_take (i := 14) (v := ?v14) rfl (by kernel_rfl) (by kernel_rfl) (by kernel_rfl) (fun _ _ _ h => h) (Or.inl ⟨by rfl, ?hy14⟩) h0 ?rest14
  case hy14 => (intro w' hS; (try dsimp only at hS); go_simp; try (with_reducible rfl))
  simp only [Act.put, List.getElem_toArray, List.getElem_cons_zero, List.getElem_cons_succ, List.setIfInBounds_toArray, List.set_cons_zero, List.set_cons_succ]
  refine wpAnyH_take (i := 15) (v := ?v15) rfl (by kernel_rfl) (by kernel_rfl) (by kernel_rfl) (fun _ _ _ h => h) (Or.inl ⟨by rfl, ?hy15⟩) h0 ?rest15
  case hy15 => (intro w' hS; (try dsimp only at hS); go_simp; try (with_reducible rfl))
  simp only [Act.put, List.getElem_toArray, List.getElem_cons_zero, List.getElem_cons_succ, List.setIfInBounds_toArray, List.set_cons_zero, List.set_cons_succ]
  refine wpAnyH_ready (rs := [8]) (by kernel_rfl) (by simp) (AllReadyH.cons rfl (fun K hK => ?_) AllReadyH.nil)
  rw [if_pos (by rfl)]
  go_simp
  refine (T1.out _).mono ?_
  rintro e w5 ⟨rfl, hb⟩
  have B5 := Lib.hid (below_on B4.out hb)
  clear hb
  go_simp
  refine hK.out _ _ (KS.out _ B5.out) (fun h0_1 => ?_)
  clear hK K h0
  refine wpAnyH_ready (rs := [16]) (by kernel_rfl) (by simp) (AllReadyH.cons rfl (fun K hK => ?_) AllReadyH.nil)
  rw [if_pos (by rfl)]
  go_simp
  refine (T2.out _).mono ?_
  rintro e w6 ⟨rfl, hb⟩
  have B6 := Lib.hid (below_on B5.out hb)
  clear hb
  go_simp
  refine hK.out _ _ (KS.out _ B6.out) (fun h0_2 => ?_)
  clear hK K h0_1
  refine wpAnyH_ready (rs := [17]) (by kernel_rfl) (by simp) (AllReadyH.cons rfl (fun K hK => ?_) AllReadyH.nil)
  rw [if_pos (by rfl)]
  go_simp
  refine (PL.out _).mono ?_
  rintro e w7 ⟨rfl, hb⟩
  have B7 := Lib.hid (below_on B6.out hb)
  clear hb
  go_simp
  refine hK.out _ _ (KS.out _ B7.out) (fun h0_3 => ?_)
  clear hK K h0_2
  refine wpAnyH_ready (rs := [18]) (by kernel_rfl) (by simp) (AllReadyH.cons rfl (fun K hK => ?_) AllReadyH.nil)
  rw [if_pos (by rfl)]
  go_simp
  refine (LO.out _).mono ?_
  rintro e w8 ⟨rfl, hb⟩
  have B8 := Lib.hid (below_on B7.out hb)
  clear hb
  go_simp
  refine hK.out _ _ (KS.out _ B8.out) (fun h0_4 => ?_)
  clear hK K h0_3
  refine wpAnyH_ready (rs := [19]) (by kernel_rfl) (by simp) (AllReadyH.cons rfl (fun K hK => ?_) AllReadyH.nil)
  rw [if_pos (by rfl)]
  refine wp_store_row _ _ _ rfl (w.heap.size + 2) (sumL x y i).cs rfl rfl _ _ (K2.out.kept B8.out).1 (by rw [Ln.size HZ.out]; exact ln_size) (by rw [Ln.size (K2.out.kept B8.out).2, Ln.size HZ.out]) (Ln.one _) ?_
  refine hK.out _ _ (⟨(KS.out _ B8.out).1.setAside (by omega) _, (KS.out _ B8.out).2.1.setAside (by omega) _, row_aside (KS.out _ B8.out).2.2.1 (by show w.heap.size ≠ w.heap.size + 2; omega) _, row_aside (KS.out _ B8.out).2.2.2 (by show w.heap.size + 1 ≠ w.heap.size + 2; omega) _⟩) (fun h0_5 => ?_)
  clear hK K h0_4
  refine wpAnyH_done (by kernel_rfl) ?_ _
  go_wp2_with fail
  exact bodyPost_ret (results_ln Tryz.results88 _ rfl ((K2.out.kept B8.out).setRow HZ.out)) rfl ⟨rfl, Below.setRow (below_on E0.out B8.out) (by omega) _⟩
end Go.Proofs.YtefpaobboimakaaGreat

namespace Go.Proofs.YtefpaobboimakaaGreat
open Go.RowKit

/-- The place of the first element with a property; -1 if there is none. -/
def ixf {α : Type} (p : α → Bool) (l : List α) : Int := match l.findIdx? p with
  | some i => (i : Int)
  | none => -1

theorem ixf_any {α : Type} (p : α → Bool) (l : List α) : decide (0 ≤ ixf p l) = l.any p := by
  unfold ixf
  cases h : l.findIdx? p with
  | some i =>
    have := List.findIdx?_eq_some_iff_getElem.1 h
    obtain ⟨h1, h2, _⟩ := this
    rw [show l.any p = true from List.any_eq_true.2 ⟨_, List.getElem_mem h1, h2⟩]
    simp
  | none =>
    rw [List.findIdx?_eq_none_iff] at h
    rw [show l.any p = false from List.any_eq_false.2 fun x hx => by rw [h x hx]; simp]
    simp

theorem ixf_at {α : Type} {p : α → Bool} {l : List α} {t : Nat} (ht : t < l.length) (h : ∀ i, ∀ q : i < l.length, i < t → p l[i] = false) (hp : p l[t] = true) : ixf p l = t := by
  unfold ixf
  rw [List.findIdx?_eq_some_iff_getElem.2 ⟨ht, hp, fun j hj => by rw [h j (by omega) hj]; simp⟩]

theorem ixf_none {α : Type} {p : α → Bool} {l : List α} (h : ∀ i, ∀ q : i < l.length, p l[i] = false) : ixf p l = -1 := by
  unfold ixf
  rw [List.findIdx?_eq_none_iff.2 fun x hx => by obtain ⟨i, hi, rfl⟩ := List.getElem_of_mem hx; exact h i hi]

/-- A row of integers that can be read. -/
def Rd1 (w : World) (ao : Option Addr) (l : List Int) : Prop := ∀ t, t < l.length → ∃ a, ao = some a ∧ w.cell? (a.add t) = some (.int .i64 (gA l t))

theorem Rd1.on {w w' : World} {ao : Option Addr} {l : List Int} (h : Rd1 w ao l) (hb : Below w.heap.size w w') : Rd1 w' ao l := fun t ht => by
  obtain ⟨a, e, c⟩ := h t ht
  exact ⟨a, e, kept hb c⟩

theorem Bk.rd {w : World} {b : Nat} {x : Ln} (h : Bk w b x) : Rd1 w (some ⟨b, 0, none⟩) x.a := fun t ht => ⟨_, rfl, by rw [addr_add, Nat.zero_add]; exact h.at (by have := h.2; omega)⟩

/-- What is asked of a function value: called with an element, it tells p. -/
def Tells (P : Program) (fv : Value) (w : World) {α : Type} (enc : α → Value) (p : α → Bool) (l : List α) : Prop :=
  ∃ g lb, fv = .func (.func g) #[] lb ∧ (∀ args w, (callFunc g args).run P w = .ok (.enter g args) w) ∧ ∀ W, Below w.heap.size w W → ∀ x ∈ l, Calls P g (#[enc x] ++ lb) W (Made (.bool (p x)) W)

set_option maxRecDepth 20000 in
set_option maxHeartbeats 1000000 in
theorem idxI_any (l : List Int) (ao : Option Addr) (cap : Nat) (fv : Value) (p : Int → Bool) (w : World) (hl : l.length ≤ 1000000) (hR : Rd1 w ao l) (hp : Tells Tryz.prog fv w (Value.int .i64) p l) :
    Calls Tryz.prog 147 #[.slice ao l.length cap, fv] w (Made (.int .i64 (ixf p l)) w) := by
  obtain ⟨g, lb, rfl, eg, hp⟩ := hp
  have HP := Lib.hid hp
  have HR := Lib.hid hR
  have NN := Lib.hid (fun h => ixf_none (p := p) (l := l) h)
  obtain ⟨n, hn⟩ : ∃ n, n = l.length := ⟨_, rfl⟩
  have HN := Lib.hid hn
  have hle : n ≤ 1000000 := by omega
  rw [← hn]
  clear hp hR hl hn
  go_enter Tryz.func147, Tryz.ntmps147
  go_wp2_with fail
  go_loopw [8] (fun s wr => ∃ t : Nat, s = .int .i64 t ∧ t ≤ n ∧ Hid (Below w.heap.size w wr) ∧ Hid (∀ i, ∀ q : i < l.length, i < t → p l[i] = false)) (fun s _ => n - (intOf s).toNat)
  case atStart => exact ⟨0, rfl, by omega, Lib.hid (Below.refl _ _), Lib.hid (fun i q h => by omega)⟩
  case round =>
    obtain ⟨t, rfl, ht, HB, HF⟩ := hrel
    by_cases htn : t < n
    · have hlt : t < l.length := by have := HN.out; omega
      obtain ⟨a, ha, c0⟩ := HR.out.on HB.out t hlt
      obtain ⟨v, hv⟩ : ∃ v, v = gA l t := ⟨_, rfl⟩
      have ev : l[t] = v := by rw [hv]; simp [gA, hlt]
      rw [← hv] at c0
      have PV := Lib.hid (HP.out wr HB.out v (by rw [← ev]; exact List.getElem_mem hlt))
      cases hpv : p v
      · rw [hpv] at PV
        have HF' := Lib.hid (show ∀ i, ∀ q : i < l.length, i < t + 1 → p l[i] = false from fun i q h => by
          by_cases e : i = t
          · subst e; rw [ev]; exact hpv
          · exact HF.out i q (by omega))
        clear hpv ev hv hlt
        subst ha
        go_wp2_with fail
        refine PV.out.mono ?_
        rintro e w1 ⟨rfl, hb⟩
        have B1 := Lib.hid (below_on HB.out hb)
        clear hb c0
        go_wp2_with fail
        go_roundw
        case rel => exact ⟨t + 1, by go_num, by omega, B1, HF'⟩
        case measure => simp [intOf]; omega
      · rw [hpv] at PV
        have HF' := Lib.hid (show ixf p l = t from ixf_at hlt (fun i q h => HF.out i q h) (by rw [ev]; exact hpv))
        clear hpv ev hv hlt
        subst ha
        go_wp2_with fail
        refine PV.out.mono ?_
        rintro e w1 ⟨rfl, hb⟩
        have B1 := Lib.hid (below_on HB.out hb)
        clear hb c0
        go_wp2_with fail
        go_ret
        exact ⟨ret_int HF'.out.symm, B1.out⟩
    · have HF' := Lib.hid (show ixf p l = -1 from NN.out (fun i q => HF.out i q (by have := HN.out; omega)))
      go_wp2_with fail
      go_ret
      exact ⟨ret_int HF'.out.symm, HB.out⟩

set_option maxRecDepth 20000 in
set_option maxHeartbeats 1000000 in
theorem conI_any (l : List Int) (ao : Option Addr) (cap : Nat) (fv : Value) (p : Int → Bool) (w : World) (hl : l.length ≤ 1000000) (hR : Rd1 w ao l) (hp : Tells Tryz.prog fv w (Value.int .i64) p l) :
    Calls Tryz.prog 116 #[.slice ao l.length cap, fv] w (Made (.bool (l.any p)) w) := by
  have IX := Lib.hid (idxI_any l ao cap fv p w hl hR hp)
  have HA := Lib.hid (ixf_any p l)
  generalize l.length = n at *
  generalize ixf p l = r at *
  generalize l.any p = b at *
  clear hR hp
  go_enter Tryz.func116, Tryz.ntmps116
  go_wp2_with fail
  refine IX.out.mono ?_
  rintro e w1 ⟨rfl, hb⟩
  have B1 := Lib.hid hb
  clear hb
  go_wp2_with fail
  go_ret
  exact ⟨ret_bool HA.out, B1.out⟩

/-- A number that fits in a line. -/
def fitB (v : Int) : Bool := decide (-2147483647 ≤ v ∧ v ≤ 2147483647)

set_option maxRecDepth 20000 in
set_option maxHeartbeats 1000000 in
theorem fit1_any (v : Int) (w : World) : Calls Tryz.prog 117 #[.int .i64 v] w (Made (.bool (!fitB v)) w) := by
  have HF := Lib.hid (show (!fitB v) = (decide (v < -2147483647) || decide (2147483647 < v)) by unfold fitB; rw [Bool.eq_iff_iff]; simp <;> omega)
  generalize fitB v = b at *
  by_cases h : v < -2147483647
  · have q : decide (v < -2147483647) = true := by simpa using h
    rw [q, Bool.true_or] at HF
    clear h
    go_enter Tryz.func117, Tryz.ntmps117
    go_wp2_with fail
    go_ret
    exact ⟨ret_bool HF.out.symm, Below.refl _ _⟩
  · have q : decide (v < -2147483647) = false := by simpa using h
    rw [q, Bool.false_or] at HF
    clear h
    go_enter Tryz.func117, Tryz.ntmps117
    go_wp2_with fail
    go_ret
    exact ⟨ret_bool HF.out.symm, Below.refl _ _⟩

theorem fit1_enters : ∀ args w, (callFunc 117 args).run Tryz.prog w = .ok (.enter 117 args) w := enters_of Tryz.func117 (by kernel_rfl) rfl

set_option maxRecDepth 20000 in
set_option maxHeartbeats 1000000 in
theorem fit_any (l : List Int) (ao : Option Addr) (cap : Nat) (w : World) (hl : l.length ≤ 1000000) (hR : Rd1 w ao l) :
    Calls Tryz.prog 81 #[.slice ao l.length cap] w (Made (.bool (l.all fitB)) w) := by
  have CO := Lib.hid (conI_any l ao cap (.func (.func 117) #[] #[]) (fun v => !fitB v) w hl hR ⟨_, _, rfl, fit1_enters, fun W _ v _ => fit1_any v W⟩)
  have HA := Lib.hid (show (!(l.any fun v => !fitB v)) = l.all fitB by rw [List.not_any_eq_all_not]; simp)
  generalize l.length = n at *
  generalize (l.any fun v => !fitB v) = b at *
  generalize l.all fitB = c at *
  clear hR
  go_enter Tryz.func81, Tryz.ntmps81
  go_wp2_with fail
  refine CO.out.mono ?_
  rintro e w1 ⟨rfl, hb⟩
  have B1 := Lib.hid hb
  clear hb
  go_wp2_with fail
  go_ret
  exact ⟨ret_bool HA.out, B1.out⟩

theorem run_wholeA (b : Nat) (w : World) : (Instr.sliceAt 80 (.pointer (some ⟨b, 0, none⟩)) none none none).run Tryz.prog w = .ok (.slice (some ⟨b, 0, none⟩) 6 6) w := by
  have ha : Tryz.prog.arrayLen 80 = 6 := by simp [Program.arrayLen, coef_ty]
  have he : Tryz.prog.elem 80 = 2 := by simp [Program.elem, coef_ty]
  rw [run_sliceAt_array_all w 80 ⟨b, 0, none⟩ (by rw [ha, he]; exact coef_ty)]
  rw [he, size_of i64_size]
  simp only [Result.andThen_ok, slicedAt, ha]
  rw [if_neg (by omega), addr_add]

/-- Do all numbers of a line fit? -/
def Ln.fits (x : Ln) : Bool := x.a.all fitB && fitB x.b

set_option maxRecDepth 20000 in
set_option maxHeartbeats 1000000 in
theorem fits_any (x : Ln) (w : World) (hx : x.a.length = 6) : Calls Tryz.prog 89 #[.agg x.cs] w (Made (.bool x.fits) w) := by
  obtain ⟨w0, hw0⟩ : ∃ w0, w0 = w.alloc (.cells x.cs 82) := ⟨_, rfl⟩
  have K0 := Lib.hid (show Bk w0 w.heap.size x by rw [hw0]; exact Bk.made w x hx)
  have E0 := Lib.hid (show Below w.heap.size w w0 by rw [hw0]; exact one_more _)
  have hs := run_wholeA w.heap.size
  have F1 := Lib.hid (show Calls Tryz.prog 81 #[.slice (some ⟨w.heap.size, 0, none⟩) 6 6] w0 (Made (.bool (x.a.all fitB)) w0) by
    have := fit_any x.a (some ⟨w.heap.size, 0, none⟩) 6 w0 (by omega) K0.out.rd
    rwa [hx] at this)
  have F2 := Lib.hid (fun (W : World) => fit_any [x.b] (some ⟨W.heap.size, 0, none⟩) 1 (W.alloc (.cells #[.int .i64 x.b] 2)) (by simp) (fun t ht => ⟨_, rfl, by
    have : t = 0 := by simpa using ht
    subst this
    rw [addr_add]; simp [gA]⟩))
  have HF := Lib.hid (show x.fits = (x.a.all fitB && [x.b].all fitB) by simp [Ln.fits])
  clear hx
  go_enter Tryz.func89, Tryz.ntmps89
  go_upto_region 1 with (fail)
  rw [← hw0]
  clear hw0
  go_wp2_with fail
  refine F1.out.mono ?_
  rintro e w1 ⟨rfl, hb⟩
  have B1 := Lib.hid (below_on E0.out hb)
  have c6 := (K0.out.kept hb).num
  clear hb
  cases h1 : x.a.all fitB
  · rw [h1] at HF
    go_wp2_with fail
    go_ret
    exact ⟨ret_bool (by rw [HF.out]; rfl), B1.out⟩
  · rw [h1] at HF
    go_wp2_with fail
    refine (F2.out w1).mono ?_
    rintro e w2 ⟨rfl, hb⟩
    have B2 := Lib.hid (below_on B1.out (past_one hb))
    clear hb
    generalize [x.b].all fitB = r at *
    go_wp2_with fail
    go_ret
    exact ⟨ret_bool (by rw [HF.out]; rfl), B2.out⟩
end Go.Proofs.YtefpaobboimakaaGreat

namespace Go.Proofs.YtefpaobboimakaaGreat
open Go.RowKit Go.Sort

/-- The world has grown: new blocks, draws, and nothing else. -/
def Gw (w w' : World) : Prop := ∃ q os, w' = grow (w.drewN q) os

theorem Gw.refl (w : World) : Gw w w := ⟨0, #[], by rw [grow_empty]; rfl⟩

theorem Gw.trans {a b c : World} (h : Gw a b) (k : Gw b c) : Gw a c := by
  obtain ⟨q, os, rfl⟩ := h
  obtain ⟨q', os', rfl⟩ := k
  exact ⟨q + q', os ++ os', by simp [grow, World.drewN, Array.append_assoc, Nat.add_assoc]⟩

theorem Gw.alloc (w : World) (o : Obj) : Gw w (w.alloc o) := ⟨0, #[o], by rw [alloc_eq_grow]; rfl⟩

theorem Gw.drewN (w : World) (n : Nat) : Gw w (w.drewN n) := ⟨n, #[], by rw [grow_empty]⟩

theorem Gw.drew (w : World) : Gw w w.drew := Gw.drewN w 1

theorem Gw.below {w w' : World} (h : Gw w w') : Below w.heap.size w w' := by
  obtain ⟨q, os, rfl⟩ := h
  refine ⟨rfl, rfl, rfl, ?_, fun k hk => ?_⟩
  · simp [grow, World.drewN]
  · show (w.heap ++ os)[k]? = _
    rw [Array.getElem?_append_left hk]

def cmpI (a b : Int) : Int := if a < b then -1 else if b < a then 1 else 0

set_option maxHeartbeats 400000 in
theorem nan_any (a : Int) (w : World) : Calls Tryz.prog 150 #[.int .i64 a] w (fun e w' => e = .returned (.bool false) ∧ w' = w) := by
  have h : (a != a) = false := by simp
  go_enter Tryz.func150, Tryz.ntmps150
  go_wp2_with fail
  go_ret
  exact ⟨rfl, rfl⟩

set_option maxRecDepth 20000 in
set_option maxHeartbeats 1000000 in
theorem cmpI_any (a b : Int) (w : World) : Calls Tryz.prog 128 #[.int .i64 a, .int .i64 b] w (fun e w' => e = .returned (.int .i64 (cmpI a b)) ∧ w' = w) := by
  have NA := Lib.hid (fun v W => nan_any v W)
  obtain ⟨r, hr⟩ : ∃ r, r = cmpI a b := ⟨_, rfl⟩
  have HR := Lib.hid hr
  rw [← hr]
  clear hr
  by_cases h1 : a < b
  · have HE := Lib.hid (show r = -1 by rw [HR.out]; unfold cmpI; rw [if_pos h1])
    have q1 : decide (a < b) = true := by simpa using h1
    clear h1
    go_enter Tryz.func128, Tryz.ntmps128
    go_wp2_with fail
    refine (NA.out _ _).mono ?_
    rintro e w1 ⟨rfl, rfl⟩
    go_wp2_with fail
    refine (NA.out _ _).mono ?_
    rintro e w1 ⟨rfl, rfl⟩
    go_wp2_with fail
    go_ret
    exact ⟨ret_int HE.out.symm, rfl⟩
  · have q1 : decide (a < b) = false := by simpa using h1
    by_cases h2 : b < a
    · have HE := Lib.hid (show r = 1 by rw [HR.out]; unfold cmpI; rw [if_neg h1, if_pos h2])
      have q2 : decide (b < a) = true := by simpa using h2
      clear h1 h2
      go_enter Tryz.func128, Tryz.ntmps128
      go_wp2_with fail
      refine (NA.out _ _).mono ?_
      rintro e w1 ⟨rfl, rfl⟩
      go_wp2_with fail
      refine (NA.out _ _).mono ?_
      rintro e w1 ⟨rfl, rfl⟩
      go_wp2_with fail
      go_ret
      exact ⟨ret_int HE.out.symm, rfl⟩
    · have HE := Lib.hid (show r = 0 by rw [HR.out]; unfold cmpI; rw [if_neg h1, if_neg h2])
      have q2 : decide (b < a) = false := by simpa using h2
      clear h1 h2
      go_enter Tryz.func128, Tryz.ntmps128
      go_wp2_with fail
      refine (NA.out _ _).mono ?_
      rintro e w1 ⟨rfl, rfl⟩
      go_wp2_with fail
      refine (NA.out _ _).mono ?_
      rintro e w1 ⟨rfl, rfl⟩
      go_wp2_with fail
      go_ret
      exact ⟨ret_int HE.out.symm, rfl⟩

/-- The order of two lists: at the first element that differs. -/
def cmpL : List Int → List Int → Int
  | [], [] => 0
  | [], _ :: _ => -1
  | _ :: _, [] => 1
  | x :: xs, y :: ys => if cmpI x y = 0 then cmpL xs ys else cmpI x y

theorem cmpI_zero {a b : Int} : cmpI a b = 0 ↔ a = b := by unfold cmpI; split <;> (try split) <;> omega

theorem cmpI_less {a b : Int} : cmpI a b < 0 ↔ a < b := by unfold cmpI; split <;> (try split) <;> omega

theorem cmpL_at : ∀ {l m : List Int} {t : Nat}, t < l.length → t < m.length → (∀ i, i < t → gA l i = gA m i) → cmpI (gA l t) (gA m t) ≠ 0 → cmpL l m = cmpI (gA l t) (gA m t)
  | [], _, _, h, _, _, _ => by simp at h
  | _ :: _, [], _, _, h, _, _ => by simp at h
  | x :: xs, y :: ys, 0, _, _, _, h => by
    have : cmpI x y ≠ 0 := by simpa [gA] using h
    simp [cmpL, gA, this]
  | x :: xs, y :: ys, t + 1, h1, h2, h3, h => by
    have e : x = y := by simpa [gA] using h3 0 (by omega)
    have ih := cmpL_at (l := xs) (m := ys) (t := t) (by simpa using h1) (by simpa using h2) (fun i hi => by simpa [gA] using h3 (i + 1) (by omega)) (by simpa [gA] using h)
    rw [show gA (x :: xs) (t + 1) = gA xs t by simp [gA], show gA (y :: ys) (t + 1) = gA ys t by simp [gA]]
    unfold cmpL
    rw [if_pos (cmpI_zero.2 e), ih]

theorem cmpL_zero : ∀ {l m : List Int}, cmpL l m = 0 ↔ l = m
  | [], [] => by simp [cmpL]
  | [], _ :: _ => by simp [cmpL]
  | _ :: _, [] => by simp [cmpL]
  | x :: xs, y :: ys => by
    unfold cmpL
    have ih := cmpL_zero (l := xs) (m := ys)
    split
    · rename_i h
      rw [ih, List.cons.injEq, cmpI_zero.1 h]; simp
    · rename_i h
      rw [List.cons.injEq]
      constructor
      · exact fun q => absurd q h
      · exact fun q => absurd (cmpI_zero.2 q.1) h

theorem gA_ext {l m : List Int} (h : l.length = m.length) (e : ∀ i, i < l.length → gA l i = gA m i) : l = m := by
  refine List.ext_getElem h fun i h1 h2 => ?_
  have := e i h1
  simpa [gA, h1, h2] using this

set_option maxRecDepth 20000 in
set_option maxHeartbeats 1000000 in
theorem cmpL_any (l m : List Int) (ao bo : Option Addr) (ca cb : Nat) (w : World) (hl : l.length ≤ 1000000) (hm : m.length = l.length) (hR : Rd1 w ao l) (hS : Rd1 w bo m) :
    Calls Tryz.prog 127 #[.slice ao l.length ca, .slice bo m.length cb] w (fun e w' => e = .returned (.int .i64 (cmpL l m)) ∧ w' = w) := by
  have CI := Lib.hid (fun a b W => cmpI_any a b W)
  have HR := Lib.hid hR
  have HS := Lib.hid hS
  obtain ⟨n, hn⟩ : ∃ n, n = l.length := ⟨_, rfl⟩
  have HL := Lib.hid hn
  have HM := Lib.hid (show n = m.length by omega)
  rw [hm, ← hn]
  have hle : n ≤ 1000000 := by omega
  clear hl hm hR hS hn
  go_enter Tryz.func127, Tryz.ntmps127
  go_wp2_with fail
  go_loopw [11] (fun s wr => ∃ t : Nat, s = .int .i64 t ∧ t ≤ n ∧ Hid (∀ i, i < t → gA l i = gA m i) ∧ wr = w) (fun s _ => n - (intOf s).toNat)
  case atStart => exact ⟨0, rfl, by omega, Lib.hid (fun i h => by omega), rfl⟩
  case round =>
    obtain ⟨t, rfl, ht, HF, rfl⟩ := hrel
    by_cases htn : t < n
    · obtain ⟨a, ha, c0⟩ := HR.out t (by have := HL.out; omega)
      obtain ⟨b, hb, c1⟩ := HS.out t (by have := HM.out; omega)
      obtain ⟨u, hu⟩ : ∃ u, u = gA l t := ⟨_, rfl⟩
      obtain ⟨v, hv⟩ : ∃ v, v = gA m t := ⟨_, rfl⟩
      have HU := Lib.hid hu
      have HV := Lib.hid hv
      rw [← hu] at c0
      rw [← hv] at c1
      clear hu hv
      subst ha
      subst hb
      have g0 : decide ((n : Int) ≤ (t : Int)) = false := by simp; omega
      go_wp2_with fail
      refine (CI.out _ _ _).mono ?_
      rintro e w1 ⟨rfl, rfl⟩
      by_cases hc : cmpI u v = 0
      · have D : (cmpI u v != 0) = false := by simpa using hc
        have HF' := Lib.hid (show ∀ i, i < t + 1 → gA l i = gA m i from fun i hi => by
          by_cases e : i = t
          · subst e; rw [← HU.out, ← HV.out]; exact cmpI_zero.1 hc
          · exact HF.out i (by omega))
        clear hc
        go_wp2_with fail
        go_roundw
        case rel => exact ⟨t + 1, by go_num, by omega, HF', trivial⟩
        case measure => simp [intOf]; omega
      · have D : (cmpI u v != 0) = true := by simpa using hc
        have HE := Lib.hid (show cmpL l m = cmpI u v from by
          rw [HU.out, HV.out]
          exact cmpL_at (by have := HL.out; omega) (by have := HM.out; omega) HF.out (by rw [← HU.out, ← HV.out]; exact hc))
        clear hc
        go_wp2_with fail
        go_ret
        exact ⟨ret_int HE.out.symm, rfl⟩
    · have HE := Lib.hid (show cmpL l m = 0 from cmpL_zero.2 (gA_ext (by have := HL.out; have := HM.out; omega) fun i hi => HF.out i (by have := HL.out; omega)))
      go_wp2_with fail
      go_ret
      exact ⟨ret_int HE.out.symm, rfl⟩

set_option maxRecDepth 20000 in
set_option maxHeartbeats 1000000 in
/-- cmp.Or of two numbers: the first that is not 0. -/
theorem or_any (x y : Int) (b : Nat) (w : World) (h0 : w.cell? ⟨b, 0, none⟩ = some (.int .i64 x)) (h1 : w.cell? ⟨b, 1, none⟩ = some (.int .i64 y)) :
    Calls Tryz.prog 126 #[.slice (some ⟨b, 0, none⟩) 2 2] w (fun e w' => e = .returned (.int .i64 (if x = 0 then y else x)) ∧ w' = w) := by
  obtain ⟨r, hr⟩ : ∃ r, r = if x = 0 then y else x := ⟨_, rfl⟩
  have HR := Lib.hid hr
  rw [← hr]
  clear hr
  go_enter Tryz.func126, Tryz.ntmps126
  go_wp2_with fail
  go_loopw [8] (fun s wr => ∃ t : Nat, s = .int .i64 t ∧ t ≤ 2 ∧ Hid ((1 ≤ t → x = 0) ∧ (2 ≤ t → y = 0)) ∧ wr = w) (fun s _ => 2 - (intOf s).toNat)
  case atStart => exact ⟨0, rfl, by omega, Lib.hid ⟨fun h => by omega, fun h => by omega⟩, rfl⟩
  case round =>
    obtain ⟨t, rfl, ht, HF, rfl⟩ := hrel
    have h3 : t = 0 ∨ t = 1 ∨ t = 2 := by omega
    clear ht
    rcases h3 with rfl | rfl | rfl
    · by_cases hx : x = 0
      · have D : (x != 0) = false := by simpa using hx
        have HX := Lib.hid hx
        clear hx
        go_wp2_with fail
        go_roundw
        case rel => exact ⟨1, by go_num, by omega, Lib.hid ⟨fun _ => HX.out, fun h => by omega⟩, trivial⟩
        case measure => simp [intOf]
      · have D : (x != 0) = true := by simpa using hx
        have HE := Lib.hid (show r = x by rw [HR.out, if_neg hx])
        clear hx
        go_wp2_with fail
        go_ret
        exact ⟨ret_int HE.out.symm, rfl⟩
    · have HX := HF.out.1 (by omega)
      have HE := Lib.hid (show r = y by rw [HR.out, if_pos HX])
      clear HX
      by_cases hy : y = 0
      · have D : (y != 0) = false := by simpa using hy
        have HY := Lib.hid hy
        clear hy
        go_wp2_with fail
        go_roundw
        case rel => exact ⟨2, by go_num, by omega, Lib.hid ⟨fun _ => HF.out.1 (by omega), fun _ => HY.out⟩, trivial⟩
        case measure => simp [intOf]
      · have D : (y != 0) = true := by simpa using hy
        clear hy
        go_wp2_with fail
        go_ret
        exact ⟨ret_int HE.out.symm, rfl⟩
    · have HE := Lib.hid (show r = 0 by rw [HR.out, if_pos (HF.out.1 (by omega))]; exact HF.out.2 (by omega))
      go_wp2_with fail
      go_ret
      exact ⟨ret_int HE.out.symm, rfl⟩
end Go.Proofs.YtefpaobboimakaaGreat

namespace Go.Proofs.YtefpaobboimakaaGreat
open Go.RowKit Go.Sort

set_option maxRecDepth 20000 in
set_option maxHeartbeats 1000000 in
theorem lim_gw (x : Ln) (w : World) (h : Rg 4611686018427387903 x) :
    Calls Tryz.prog 123 #[.agg x.cs] w (fun e w' => e = .returned (.int .i64 x.lim) ∧ Gw w w') := by
  obtain ⟨w0, hw0⟩ : ∃ w0, w0 = w.alloc (.cells x.cs 82) := ⟨_, rfl⟩
  have K0 := Bk.made w x h.len
  rw [← hw0] at K0
  have E0 := Lib.hid (show Gw w w0 by rw [hw0]; exact Gw.alloc _ _)
  have c6 := K0.num
  have c7 := K0.str
  have q1 : wrap64 (2 * x.b) = 2 * x.b := by have := h.b; unfold wrap64; omega
  have q2 : wrap64 (2 * x.b + 1) = 2 * x.b + 1 := by have := h.b; unfold wrap64; omega
  have HL := Lib.hid (show x.lim = if x.s then 2 * x.b else 2 * x.b + 1 from rfl)
  clear K0 h
  go_enter Tryz.func123, Tryz.ntmps123
  go_upto_region 1 with (fail)
  rw [← hw0]
  clear hw0
  cases hs : x.s
  · rw [hs] at c7 HL
    go_wp2_with fail
    go_ret
    exact ⟨ret_int (by rw [HL.out]; first | rfl | (rw [q2]; rfl)), E0.out⟩
  · rw [hs] at c7 HL
    go_wp2_with fail
    go_ret
    exact ⟨ret_int (by rw [HL.out]; first | rfl | (rw [q2]; rfl)), E0.out⟩

/-- The order of lines: by their coefficients, then by their limits. -/
def cmpN (x y : Ln) : Int := if cmpL x.a y.a = 0 then cmpI x.lim y.lim else cmpL x.a y.a

set_option maxRecDepth 20000 in
set_option maxHeartbeats 2000000 in
theorem tidy1_any (x y : Ln) (w : World) (hx : Rg 2147483647 x) (hy : Rg 2147483647 y) :
    Calls Tryz.prog 125 #[.agg x.cs, .agg y.cs] w (fun e w' => e = .returned (.int .i64 (cmpN x y)) ∧ Gw w w') := by
  obtain ⟨w0, hw0⟩ : ∃ w0, w0 = (w.alloc (.cells x.cs 82)).alloc (.cells y.cs 82) := ⟨_, rfl⟩
  have K0 := Lib.hid (show Bk w0 w.heap.size x by rw [hw0]; exact (Bk.made w x hx.len).alloc _)
  have K1 := Lib.hid (show Bk w0 (w.heap.size + 1) y by rw [hw0]; have := Bk.made (w.alloc (.cells x.cs 82)) y hy.len; simpa using this)
  have E0 := Lib.hid (show Gw w w0 by rw [hw0]; exact (Gw.alloc _ _).trans (Gw.alloc _ _))
  have KS := Lib.hid (show ∀ W, Gw w0 W → Bk W w.heap.size x ∧ Bk W (w.heap.size + 1) y from fun W h => ⟨K0.out.kept h.below, K1.out.kept h.below⟩)
  have hs := run_wholeA w.heap.size
  have hs' := run_wholeA (w.heap.size + 1)
  have LX := Lib.hid (fun W => lim_gw x W (hx.mono (by omega)))
  have LY := Lib.hid (fun W => lim_gw y W (hy.mono (by omega)))
  have CL := Lib.hid (show ∀ W, Bk W w.heap.size x → Bk W (w.heap.size + 1) y → Calls Tryz.prog 127 #[.slice (some ⟨w.heap.size, 0, none⟩) 6 6, .slice (some ⟨w.heap.size + 1, 0, none⟩) 6 6] W (fun e w' => e = .returned (.int .i64 (cmpL x.a y.a)) ∧ w' = W) from fun W h1 h2 => by
    have := cmpL_any x.a y.a (some ⟨w.heap.size, 0, none⟩) (some ⟨w.heap.size + 1, 0, none⟩) 6 6 W (by rw [hx.len]; omega) (by rw [hx.len, hy.len]) h1.rd h2.rd
    rwa [hx.len, hy.len] at this)
  have CI := Lib.hid (fun W => cmpI_any x.lim y.lim W)
  have HR := Lib.hid (show (if cmpL x.a y.a = 0 then cmpI x.lim y.lim else cmpL x.a y.a) = cmpN x y from rfl)
  generalize cmpL x.a y.a = c at *
  generalize cmpI x.lim y.lim = k at *
  obtain ⟨r, hr⟩ : ∃ r, r = if c = 0 then k else c := ⟨_, rfl⟩
  have OR := Lib.hid (fun W b h0 h1 => or_any c k b W h0 h1)
  rw [← hr] at HR OR
  clear hx hy hr
  go_enter Tryz.func125, Tryz.ntmps125
  go_upto_region 1 with (fail)
  rw [← hw0]
  clear hw0
  obtain ⟨w4, hw4⟩ : ∃ w4, w4 = w0.drew := ⟨_, rfl⟩
  have G4 := Lib.hid (show Gw w0 w4 by rw [hw4]; exact Gw.drew _)
  refine wp_region_held_drew (S := (fun W => Bk W w.heap.size x ∧ Bk W (w.heap.size + 1) y)) (by kernel_rfl) (by rw [← hw4]; exact KS.out _ G4.out) (fun h0 => ?_)
  rw [← hw4] at h0 ⊢
  clear hw4
  refine wpAnyH_take (i := 0) (v := ?v1) rfl (by kernel_rfl) (by kernel_rfl) (by kernel_rfl) (fun _ _ _ h => h) (Or.inl ⟨by rfl, ?hy1⟩) h0 ?rest1
  case hy1 => (intro w' hS; (try dsimp only at hS); go_simp; try (with_reducible rfl))
  simp only [Act.put, List.getElem_toArray, List.getElem_cons_zero, List.setIfInBounds_toArray, List.set_cons_zero, List.set_cons_succ]
  refine wpAnyH_take (i := 1) (v := ?v2) rfl (by kernel_rfl) (by kernel_rfl) (by kernel_rfl) (fun _ _ _ h => h) (Or.inl ⟨by rfl, ?hy2⟩) h0 ?rest2
  case hy2 => (intro w' hS; (try dsimp only at hS); go_simp; try (with_reducible rfl))
  simp only [Act.put, List.getElem_toArray, List.getElem_cons_zero, List.getElem_cons_succ, List.setIfInBounds_toArray, List.set_cons_zero, List.set_cons_succ]
  refine wpAnyH_take (i := 2) (v := ?v3) rfl (by kernel_rfl) (by kernel_rfl) (by kernel_rfl) (fun _ _ _ h => h) (Or.inl ⟨by rfl, ?hy3⟩) h0 ?rest3
  case hy3 => (intro w' hS; (try dsimp only at hS); go_simp; try (with_reducible rfl))
  simp only [Act.put, List.getElem_toArray, List.getElem_cons_zero, List.getElem_cons_succ, List.setIfInBounds_toArray, List.set_cons_zero, List.set_cons_succ]
  refine wpAnyH_take (i := 3) (v := ?v4) rfl (by kernel_rfl) (by kernel_rfl) (by kernel_rfl) (fun _ _ _ h => h) (Or.inl ⟨by rfl, ?hy4⟩) h0 ?rest4
  case hy4 => (intro w' hS; (try dsimp only at hS); go_simp; try (with_reducible rfl))
  simp only [Act.put, List.getElem_toArray, List.getElem_cons_zero, List.getElem_cons_succ, List.setIfInBounds_toArray, List.set_cons_zero, List.set_cons_succ]
  refine wpAnyH_take (i := 5) (v := (.agg x.cs)) rfl (by kernel_rfl) (by kernel_rfl) (by kernel_rfl) (fun _ _ _ h => h) (Or.inl ⟨by rfl, fun w' hS => yld_loadL _ rfl _ rfl hS.1⟩) h0 ?_
  simp only [Act.put, List.getElem_toArray, List.getElem_cons_zero, List.getElem_cons_succ, List.setIfInBounds_toArray, List.set_cons_zero, List.set_cons_succ]
  refine wpAnyH_take (i := 7) (v := (.agg y.cs)) rfl (by kernel_rfl) (by kernel_rfl) (by kernel_rfl) (fun _ _ _ h => h) (Or.inl ⟨by rfl, fun w' hS => yld_loadL _ rfl _ rfl hS.2⟩) h0 ?_
  simp only [Act.put, List.getElem_toArray, List.getElem_cons_zero, List.getElem_cons_succ, List.setIfInBounds_toArray, List.set_cons_zero, List.set_cons_succ]
  refine wpAnyH_ready (rs := [4]) (by kernel_rfl) (by simp) (AllReadyH.cons rfl (fun K hK => ?_) AllReadyH.nil)
  rw [if_pos (by rfl)]
  go_simp
  refine (CL.out _ (KS.out _ G4.out).1 (KS.out _ G4.out).2).mono ?_
  rintro e w5 ⟨rfl, hw5⟩
  rw [hw5]
  clear hw5
  go_simp
  refine hK.out _ _ (KS.out _ G4.out) (fun h0_1 => ?_)
  clear hK K h0
  refine wpAnyH_ready (rs := [6]) (by kernel_rfl) (by simp) (AllReadyH.cons rfl (fun K hK => ?_) AllReadyH.nil)
  rw [if_pos (by rfl)]
  go_simp
  refine (LX.out _).mono ?_
  rintro e w6 ⟨rfl, hg⟩
  have G6 := Lib.hid (G4.out.trans hg)
  clear hg
  go_simp
  refine hK.out _ _ (KS.out _ G6.out) (fun h0_2 => ?_)
  clear hK K h0_1
  refine wpAnyH_ready (rs := [8]) (by kernel_rfl) (by simp) (AllReadyH.cons rfl (fun K hK => ?_) AllReadyH.nil)
  rw [if_pos (by rfl)]
  go_simp
  refine (LY.out _).mono ?_
  rintro e w8 ⟨rfl, hg⟩
  have G8 := Lib.hid (G6.out.trans hg)
  clear hg
  go_simp
  refine hK.out _ _ (KS.out _ G8.out) (fun h0_3 => ?_)
  clear hK K h0_2
  refine wpAnyH_ready (rs := [9]) (by kernel_rfl) (by simp) (AllReadyH.cons rfl (fun K hK => ?_) AllReadyH.nil)
  rw [if_pos (by rfl)]
  go_simp
  refine (CI.out _).mono ?_
  rintro e w5 ⟨rfl, hw5⟩
  rw [hw5]
  clear hw5
  go_simp
  refine hK.out _ _ (KS.out _ G8.out) (fun h0_4 => ?_)
  clear hK K h0_3
  refine wpAnyH_ready (rs := [10]) (by kernel_rfl) (by simp) (AllReadyH.cons rfl (fun K hK => ?_) AllReadyH.nil)
  rw [if_pos (by rfl)]
  go_simp
  obtain ⟨w9, hw9⟩ : ∃ w9, w9 = w8.alloc (.cells #[.int .i64 c, .int .i64 k] 3) := ⟨_, rfl⟩
  have G9 := Lib.hid (show Gw w0 w9 by rw [hw9]; exact G8.out.trans (Gw.alloc _ _))
  have C0 := Lib.hid (show w9.cell? ⟨w8.heap.size, 0, none⟩ = some (.int .i64 c) by rw [hw9]; go_simp)
  have C1 := Lib.hid (show w9.cell? ⟨w8.heap.size, 1, none⟩ = some (.int .i64 k) by rw [hw9]; go_simp)
  rw [← hw9]
  clear hw9
  go_simp
  refine hK.out _ _ (KS.out _ G9.out) (fun h0_5 => ?_)
  clear hK K h0_4
  refine wpAnyH_ready (rs := [11]) (by kernel_rfl) (by simp) (AllReadyH.cons rfl (fun K hK => ?_) AllReadyH.nil)
  rw [if_pos (by rfl)]
  go_simp
  refine (OR.out w9 w8.heap.size C0.out C1.out).mono ?_
  rintro e w5 ⟨rfl, hw5⟩
  rw [hw5]
  clear hw5
  go_simp
  refine hK.out _ _ (KS.out _ G9.out) (fun h0_6 => ?_)
  clear hK K h0_5
  refine wpAnyH_take (i := 12) (v := ?v7) rfl (by kernel_rfl) (by kernel_rfl) (by kernel_rfl) (fun _ _ _ h => h) (Or.inl ⟨by rfl, ?hy7⟩) h0_6 ?rest7
  case hy7 => (intro w' hS; (try dsimp only at hS); go_simp; try (with_reducible rfl))
  simp only [Act.put, List.getElem_toArray, List.getElem_cons_zero, List.getElem_cons_succ, List.setIfInBounds_toArray, List.set_cons_zero, List.set_cons_succ]
  refine wpAnyH_done (by kernel_rfl) ?_ _
  go_wp2_with fail
  go_ret
  exact ⟨ret_int HR.out, E0.out.trans G9.out⟩
end Go.Proofs.YtefpaobboimakaaGreat

namespace Go.Proofs.YtefpaobboimakaaGreat
open Go.RowKit Go.Sort

theorem itemsA (d : Nat) (l m : List Int) (w : World) : ∀ is : List Nat, (∀ i ∈ is, i < l.length ∧ i < m.length) →
    (Op.eqItems (d + 1) 2 1 (avs l) (avs m) is).run Tryz.prog w = .ok (is.all fun i => gA l i == gA m i) w := by
  intro is
  have hp : Tryz.prog.plainKey 2 = true := by kernel_rfl
  induction is with
  | nil => intro _; simp [Op.eqItems]
  | cons i is ih =>
    intro h
    obtain ⟨h1, h2⟩ := h i (by simp)
    have p1 : (part 2 (avs l) (i * 1)).run Tryz.prog w = .ok (.int .i64 (gA l i)) w := run_part_plain w hp (by simp [avs, gA, h1])
    have p2 : (part 2 (avs m) (i * 1)).run Tryz.prog w = .ok (.int .i64 (gA m i)) w := run_part_plain w hp (by simp [avs, gA, h2])
    have p3 := run_equalIn_int (P := Tryz.prog) (w := w) d 2 .i64 .i64 (gA l i) (gA m i) Tryz.underlying2
    simp only [Op.eqItems, Sem.run_bind, p1, p2, p3, Result.andThen_ok, List.all_cons]
    cases gA l i == gA m i
    · simp
    · simpa using ih (fun j hj => h j (by simp [hj]))

theorem all_eqA (N : Nat) (l m : List Int) (hl : l.length = N) (hm : m.length = N) : ((List.range N).all fun i => gA l i == gA m i) = decide (l = m) := by
  rw [Bool.eq_iff_iff, List.all_eq_true, decide_eq_true_eq]
  constructor
  · intro h
    exact gA_ext (by omega) fun i hi => by simpa using h i (List.mem_range.2 (by omega))
  · intro h i _
    rw [h]; simp

theorem eqA_in (d : Nat) (l m : List Int) (hl : l.length = 6) (hm : m.length = 6) (w : World) :
    (Op.equalIn (d + 1 + 1) 80 (.agg (avs l)) (.agg (avs m))).run Tryz.prog w = .ok (decide (l = m)) w := by
  obtain ⟨ie, hie⟩ : ∃ i, Tryz.prog.info? 2 = some i := by
    cases hq : Tryz.prog.info? 2 with
    | none => have := i64_size; simp [hq] at this
    | some i => exact ⟨i, rfl⟩
  have hc : Tryz.prog.cellsOf 2 = 1 := by kernel_rfl
  rw [run_equalIn_array (P := Tryz.prog) w (d + 1) (avs l) (avs m) coef_ty hie]
  rw [hc, itemsA d l m w (List.range 6) (fun i hi => by have := List.mem_range.1 hi; exact ⟨by omega, by omega⟩)]
  rw [all_eqA 6 l m hl hm]

theorem eqA_run (l m : List Int) (hl : l.length = 6) (hm : m.length = 6) (w : World) : (Op.equalIn 10000 80 (.agg (avs l)) (.agg (avs m))).run Tryz.prog w = .ok (decide (l = m)) w := eqA_in 9998 l m hl hm w

theorem eqlA (l m : List Int) (hl : l.length = 6) (hm : m.length = 6) (w : World) : (binOp .eql 80 (.agg (avs l)) (.agg (avs m))).run Tryz.prog w = .ok (.bool (decide (l = m))) w := by
  rw [run_eql_struct, eqA_run l m hl hm w]; rfl

theorem neqA (l m : List Int) (hl : l.length = 6) (hm : m.length = 6) (w : World) : (binOp .neq 80 (.agg (avs l)) (.agg (avs m))).run Tryz.prog w = .ok (.bool (!decide (l = m))) w := by
  rw [run_neq_struct, eqA_run l m hl hm w]; rfl

theorem wp_eqlA {w : World} {o : Oper} {a : Act} {K : Act → World → Prop} {Q : Exit → Act → World → Prop} (s t : Operand) (r : TypeId) (ho : o.op = .binOp .eql 80 s t r) (l m : List Int) (hs : a.eval s = .agg (avs l)) (ht : a.eval t = .agg (avs m)) (hl : l.length = 6) (hm : m.length = 6)
    (h : K (a.put o.dst (.bool (decide (l = m)))) w) : o.wp Tryz.prog a w K Q := by
  have hv := eqlA l m hl hm w
  have hg : (eqGuard .eql 80 s t (.agg (avs l)) (.agg (avs m))).run Tryz.prog w = .ok () w := run_eqGuard_agg (P := Tryz.prog) w .eql _ s t _ _ (by kernel_rfl)
  generalize avs l = V at *
  generalize avs m = U at *
  generalize decide (l = m) = b at *
  unfold Oper.wp execOp
  simp only [ho, hs, ht, Sem.run_bind, Sem.run_pure, hv, hg, Result.andThen_ok]
  exact h

theorem wpl_eqlA {w : World} {ops : Array Oper} {rest : List Oper} {o : Oper} {a : Act} {Q : Exit → Act → World → Prop} (hgd : o.guard = none) (s t : Operand) (r : TypeId) (ho : o.op = .binOp .eql 80 s t r) (l m : List Int) (hs : a.eval s = .agg (avs l)) (ht : a.eval t = .agg (avs m)) (hl : l.length = 6) (hm : m.length = 6)
    (h : wpList Tryz.prog ops Q rest (a.put o.dst (.bool (decide (l = m)))) w) : wpList Tryz.prog ops Q (o :: rest) a w :=
  wpList_plain hgd fun _ hK => wp_eqlA s t r ho l m hs ht hl hm (hK _ _ h)

theorem wp_neqA {w : World} {o : Oper} {a : Act} {K : Act → World → Prop} {Q : Exit → Act → World → Prop} (s t : Operand) (r : TypeId) (ho : o.op = .binOp .neq 80 s t r) (l m : List Int) (hs : a.eval s = .agg (avs l)) (ht : a.eval t = .agg (avs m)) (hl : l.length = 6) (hm : m.length = 6)
    (h : K (a.put o.dst (.bool (!decide (l = m)))) w) : o.wp Tryz.prog a w K Q := by
  have hv := neqA l m hl hm w
  have hg : (eqGuard .neq 80 s t (.agg (avs l)) (.agg (avs m))).run Tryz.prog w = .ok () w := run_eqGuard_agg (P := Tryz.prog) w .neq _ s t _ _ (by kernel_rfl)
  generalize avs l = V at *
  generalize avs m = U at *
  generalize decide (l = m) = b at *
  unfold Oper.wp execOp
  simp only [ho, hs, ht, Sem.run_bind, Sem.run_pure, hv, hg, Result.andThen_ok]
  exact h

theorem wpl_neqA {w : World} {ops : Array Oper} {rest : List Oper} {o : Oper} {a : Act} {Q : Exit → Act → World → Prop} (hgd : o.guard = none) (s t : Operand) (r : TypeId) (ho : o.op = .binOp .neq 80 s t r) (l m : List Int) (hs : a.eval s = .agg (avs l)) (ht : a.eval t = .agg (avs m)) (hl : l.length = 6) (hm : m.length = 6)
    (h : wpList Tryz.prog ops Q rest (a.put o.dst (.bool (!decide (l = m)))) w) : wpList Tryz.prog ops Q (o :: rest) a w :=
  wpList_plain hgd fun _ hK => wp_neqA s t r ho l m hs ht hl hm (hK _ _ h)

set_option maxRecDepth 20000 in
set_option maxHeartbeats 1000000 in
theorem tidy2_any (x y : Ln) (w : World) (hx : x.a.length = 6) (hy : y.a.length = 6) :
    Calls Tryz.prog 130 #[.agg x.cs, .agg y.cs] w (Made (.bool (decide (x.a = y.a))) w) := by
  obtain ⟨w0, hw0⟩ : ∃ w0, w0 = (w.alloc (.cells x.cs 82)).alloc (.cells y.cs 82) := ⟨_, rfl⟩
  have K0 := Lib.hid (show Bk w0 w.heap.size x by rw [hw0]; exact (Bk.made w x hx).alloc _)
  have K1 := Lib.hid (show Bk w0 (w.heap.size + 1) y by rw [hw0]; have := Bk.made (w.alloc (.cells x.cs 82)) y hy; simpa using this)
  have E0 := Lib.hid (show Below w.heap.size w w0 by rw [hw0]; exact past_two (Below.refl _ _))
  have HX := Lib.hid hx
  have HY := Lib.hid hy
  clear hx hy
  go_enter Tryz.func130, Tryz.ntmps130
  go_upto_region 1 with (fail)
  rw [← hw0]
  clear hw0
  go_wp2_with (first | refine wpl_loadA rfl _ rfl _ rfl x K0.out ?_ | refine wpl_loadA rfl _ rfl _ rfl y K1.out ?_ | refine wpl_eqlA rfl _ _ _ rfl _ _ rfl rfl HX.out HY.out ?_)
  go_ret
  exact ⟨rfl, E0.out⟩

/-- A line can be read at an address. -/
def LnAt (w : World) (p : Addr) (x : Ln) : Prop := x.a.length = 6 ∧ ∀ j v, x.cells[j]? = some v → w.cell? (p.add j) = some v

theorem LnAt.on {w w' : World} {p : Addr} {x : Ln} (h : LnAt w p x) (hb : Below w.heap.size w w') : LnAt w' p x := ⟨h.1, fun j v hv => kept hb (h.2 j v hv)⟩

theorem Bk.lnAt {w : World} {b : Nat} {x : Ln} (h : Bk w b x) : LnAt w ⟨b, 0, none⟩ x := ⟨h.2, fun j v hv => by rw [addr_add, Nat.zero_add, h.cell]; exact hv⟩

theorem ln_loadP {w : World} {p : Addr} {x : Ln} (h : LnAt w p x) : (loadVar 82 p).run Tryz.prog w = .ok (.agg x.cs) w := by
  have hc := run_loadCells_list (P := Tryz.prog) w p x.cells h.2
  rw [Ln.cells_len h.1] at hc
  have ha : (isAgg 82).run Tryz.prog w = .ok true w := by
    unfold isAgg; rw [Sem.run_bind, run_underlying Tryz.underlying82 w]; simp
  unfold loadVar
  rw [Sem.run_bind, ha, Result.andThen_ok, if_pos rfl, Sem.run_bind, size_of ln_size, Result.andThen_ok, Sem.run_bind, hc]
  rfl

theorem ln_loadPt {w : World} {p : Addr} {x : Ln} (h : LnAt w p x) : (Instr.loadAt 82 (.pointer (some p))).run Tryz.prog w = .ok (.agg x.cs) w := by
  simp only [Instr.loadAt, Instr.sureAddr, Sem.run_bind, Sem.run_pure, Result.andThen_ok, ln_loadP h]

theorem yld_loadP {o : Oper} {a : Act} {w : World} (s : Operand) (ho : o.op = .load 82 s) (p : Addr) (hs : a.eval s = .pointer (some p)) {x : Ln} (hx : LnAt w p x) : (execOp a.eval o).run Tryz.prog w = .ok (.value (.agg x.cs)) w := by
  have h := ln_loadPt hx
  generalize x.cs = V at *
  unfold execOp
  simp only [ho, hs, Sem.run_bind, Sem.run_pure, h, Result.andThen_ok]

theorem wp_loadP {w : World} {o : Oper} {a : Act} {K : Act → World → Prop} {Q : Exit → Act → World → Prop} (s : Operand) (ho : o.op = .load 82 s) (p : Addr) (hs : a.eval s = .pointer (some p)) (x : Ln) (hx : LnAt w p x)
    (h : K (a.put o.dst (.agg x.cs)) w) : o.wp Tryz.prog a w K Q := by
  have hv := ln_loadP hx
  generalize x.cs = V at *
  unfold Oper.wp execOp
  simp only [ho, hs, Instr.loadAt, Instr.sureAddr, Sem.run_bind, Sem.run_pure, Result.andThen_ok, hv]
  exact h

theorem wpl_loadP {w : World} {ops : Array Oper} {rest : List Oper} {o : Oper} {a : Act} {Q : Exit → Act → World → Prop} (hgd : o.guard = none) (s : Operand) (ho : o.op = .load 82 s) (p : Addr) (hs : a.eval s = .pointer (some p)) (x : Ln) (hx : LnAt w p x)
    (h : wpList Tryz.prog ops Q rest (a.put o.dst (.agg x.cs)) w) : wpList Tryz.prog ops Q (o :: rest) a w :=
  wpList_plain hgd fun _ hK => wp_loadP s ho p hs x hx (hK _ _ h)

/-- A row of lines that can be read. -/
def RdL (w : World) (ao : Option Addr) (l : List Ln) : Prop := ∀ t, ∀ h : t < l.length, ∃ a, ao = some a ∧ LnAt w (a.add (t * 8)) l[t]

theorem RdL.on {w w' : World} {ao : Option Addr} {l : List Ln} (h : RdL w ao l) (hb : Below w.heap.size w w') : RdL w' ao l := fun t ht => by
  obtain ⟨a, e, c⟩ := h t ht
  exact ⟨a, e, c.on hb⟩

theorem RdL.nil (w : World) (ao : Option Addr) : RdL w ao [] := fun t h => by simp at h

/-- A row of lines that a call has made, to which it may append. -/
def OwnL (w : World) (B : Nat) (v : Value) (l : List Ln) : Prop := w.ownsRow B 82 8 v l.length (l.flatMap Ln.cells) ∧ ∀ x ∈ l, x.a.length = 6

theorem OwnL.nil (w : World) (B : Nat) : OwnL w B (.slice none 0 0) [] := ⟨World.ownsRow_nil w B _ _, fun x h => by simp at h⟩

theorem OwnL.on {w w' : World} {B : Nat} {v : Value} {l : List Ln} (h : OwnL w B v l) (hb : Below w.heap.size w w') : OwnL w' B v l := by
  have hg : w.grownBy w' none := ⟨hb.os, hb.tape, hb.output, hb.size, fun k hk _ => hb.block k hk⟩
  exact ⟨World.ownsRow.kept h.1 hg (by cases v.ownBlock <;> simp), h.2⟩

theorem flat_at {l : List Ln} (hl : ∀ x ∈ l, x.a.length = 6) {t : Nat} (ht : t < l.length) {j : Nat} (hj : j < 8) : (l.flatMap Ln.cells)[t * 8 + j]? = (l[t]).cells[j]? := by
  induction l generalizing t with
  | nil => simp at ht
  | cons x l ih =>
    have hx := Ln.cells_len (hl x (by simp))
    rw [List.flatMap_cons]
    cases t with
    | zero => rw [List.getElem?_append_left (by omega)]; simp
    | succ t =>
      rw [List.getElem?_append_right (by omega), show (t + 1) * 8 + j - x.cells.length = t * 8 + j by omega]
      simpa using ih (fun y hy => hl y (by simp [hy])) (t := t) (by simpa using ht)

theorem flat_len {l : List Ln} (hl : ∀ x ∈ l, x.a.length = 6) : (l.flatMap Ln.cells).length = l.length * 8 := by
  induction l with
  | nil => rfl
  | cons x l ih => rw [List.flatMap_cons, List.length_append, Ln.cells_len (hl x (by simp)), ih fun y hy => hl y (by simp [hy]), List.length_cons]; omega

theorem OwnL.read {w : World} {B : Nat} {v : Value} {l : List Ln} (h : OwnL w B v l) : ∃ ao cap, v = .slice ao l.length cap ∧ RdL w ao l ∧ (∀ a, ao = some a → B ≤ a.block ∧ a.off = 0 ∧ a.spot = none) := by
  rcases h.1.2 with ⟨rfl, hn⟩ | ⟨g, cap, cur, rfl, hb, hg, hc, hm, hsz, htake⟩
  · refine ⟨none, 0, by rw [hn], fun t ht => by omega, fun a h => by cases h⟩
  · refine ⟨_, cap, rfl, fun t ht => ⟨_, rfl, h.2 _ (List.getElem_mem ht), fun j u hu => ?_⟩, fun a h => by cases h; exact ⟨hb, rfl, rfl⟩⟩
    have hj : j < 8 := by
      by_cases q : j < 8
      · exact q
      · rw [List.getElem?_eq_none (by rw [Ln.cells_len (h.2 _ (List.getElem_mem ht))]; omega)] at hu; cases hu
    have hc := World.ownsRow.cellAt (g := g) (cap := cap) h.1
    rw [addr_add, addr_add, Nat.zero_add]
    exact (hc (t * 8 + j) (by omega)).trans ((flat_at h.2 ht hj).trans hu)
end Go.Proofs.YtefpaobboimakaaGreat

namespace Go.Proofs.YtefpaobboimakaaGreat
open Go.RowKit Go.Sort

/-- Of lines one behind the other with the same coefficients the first one. -/
def cpt : List Ln → List Ln
  | [] => []
  | [x] => [x]
  | x :: y :: r => if x.a = y.a then (x :: (cpt (y :: r)).tail) else x :: cpt (y :: r)

/-- The same, from the front on. -/
def cptN (l : List Ln) : Nat → List Ln
  | 0 => []
  | t + 1 => cptN l t ++ (if h : t < l.length then (if 0 < t ∧ (l[t]).a = (l.getD (t - 1) ln0).a then [] else [l[t]]) else [])

theorem cptN_zero (l : List Ln) : cptN l 0 = [] := rfl

theorem cptN_keep {l : List Ln} {t : Nat} (h : t < l.length) (hn : ¬ (0 < t ∧ (l[t]).a = (l.getD (t - 1) ln0).a)) : cptN l (t + 1) = cptN l t ++ [l[t]] := by
  simp only [cptN]; rw [dif_pos h, if_neg hn]

theorem cptN_drop {l : List Ln} {t : Nat} (h : t < l.length) (hn : 0 < t ∧ (l[t]).a = (l.getD (t - 1) ln0).a) : cptN l (t + 1) = cptN l t := by
  simp only [cptN]; rw [dif_pos h, if_pos hn, List.append_nil]

theorem cptN_len (l : List Ln) (t : Nat) : (cptN l t).length ≤ t := by
  induction t with
  | zero => simp [cptN]
  | succ t ih =>
    simp only [cptN, List.length_append]
    split
    · split <;> simp <;> omega
    · simp; omega

/-- Lines that lie one behind the other in block b; all of it may be written. -/
def Rw (w : World) (b : Nat) (l : List Ln) : Prop := (∀ i, ∀ h : i < l.length, LnAt w ⟨b, i * 8, none⟩ l[i]) ∧ ∀ j, j < l.length * 8 → (w.cell? ⟨b, j, none⟩).isSome = true ∧ w.frozen? ⟨b, j, none⟩ = false

theorem Rw.at {w : World} {b : Nat} {l : List Ln} (h : Rw w b l) {i : Nat} (hi : i < l.length) : LnAt w ⟨b, i * 8, none⟩ l[i] := h.1 i hi

theorem Rw.on {w w' : World} {b : Nat} {l : List Ln} (h : Rw w b l) (hb : Below w.heap.size w w') (hlt : b < w.heap.size) : Rw w' b l :=
  ⟨fun i hi => (h.1 i hi).on hb, fun j hj => by
    rw [hb.cell (p := ⟨b, j, none⟩) hlt, hb.frozen (p := ⟨b, j, none⟩) hlt]; exact h.2 j hj⟩

theorem Rw.set {w : World} {b : Nat} {l : List Ln} (h : Rw w b l) {i : Nat} (hi : i < l.length) {x : Ln} (hx : x.a.length = 6) : Rw (w.setCells b (i * 8) x.cells) b (l.set i x) := by
  have hc := Ln.cells_len hx
  refine ⟨fun k hk => ?_, fun j hj => ?_⟩
  · simp only [List.length_set] at hk
    by_cases e : i = k
    · subst e
      rw [List.getElem_set_self]
      refine ⟨hx, fun j v hv => ?_⟩
      have hj : j < 8 := by
        by_cases q : j < 8
        · exact q
        · rw [List.getElem?_eq_none (by omega)] at hv; cases hv
      rw [addr_add, World.cell?_setCells_in b x.cells (i * 8) w (fun j hj => (h.2 _ (by omega)).1) j (by omega)]
      rw [← hv, List.getElem?_eq_getElem (by omega)]
    · rw [List.getElem_set_ne e]
      have hk' := h.1 k hk
      refine ⟨hk'.1, fun j v hv => ?_⟩
      have hj : j < 8 := by
        by_cases q : j < 8
        · exact q
        · rw [List.getElem?_eq_none (by rw [Ln.cells_len hk'.1]; omega)] at hv; cases hv
      have := hk'.2 j v hv
      rw [addr_add] at this ⊢
      rw [World.cell?_setCells_out b x.cells (i * 8) w _ (fun _ _ => by show k * 8 + j < i * 8 ∨ i * 8 + x.cells.length ≤ k * 8 + j; omega)]
      exact this
  · simp only [List.length_set] at hj
    have := h.2 j hj
    rw [World.frozen?_setCells]
    exact ⟨World.isSome_setCells b _ _ _ _ this.1, this.2⟩

theorem Rw.take {w : World} {b : Nat} {l m : List Ln} (h : Rw w b (l ++ m)) : Rw w b l :=
  ⟨fun i hi => by have := h.1 i (by simp; omega); rwa [List.getElem_append_left hi] at this, fun j hj => h.2 j (by simp; omega)⟩

/-- Cells behind the first lines are overwritten. -/
theorem Rw.behind {w : World} {b : Nat} {l : List Ln} (h : Rw w b l) {o : Nat} (ho : l.length * 8 ≤ o) (vs : List Value) : Rw (w.setCells b o vs) b l := by
  refine ⟨fun k hk => ⟨(h.1 k hk).1, fun j v hv => ?_⟩, fun j hj => ?_⟩
  · have hj : j < 8 := by
      by_cases q : j < 8
      · exact q
      · rw [List.getElem?_eq_none (by rw [Ln.cells_len (h.1 k hk).1]; omega)] at hv; cases hv
    have := (h.1 k hk).2 j v hv
    rw [addr_add] at this ⊢
    rw [World.cell?_setCells_out b vs o w _ (fun _ _ => by show k * 8 + j < o ∨ _; omega)]
    exact this
  · rw [World.frozen?_setCells]
    exact ⟨World.isSome_setCells b _ _ _ _ (h.2 j hj).1, (h.2 j hj).2⟩

theorem Below.setCells {B : Nat} {w : World} {b : Nat} (hle : B ≤ b) : ∀ (vs : List Value) (o : Nat) (w' : World), Below B w w' → Below B w (w'.setCells b o vs) := by
  intro vs
  induction vs with
  | nil => intro o w' h; exact h
  | cons v vs ih => intro o w' h; exact ih _ _ (h.setCell hle v)

theorem cells_one (x : Ln) : ∀ v ∈ x.cells, v.oneCell' = true := by
  intro v hv
  simp [Ln.cells] at hv
  rcases hv with ⟨y, _, rfl⟩ | rfl | rfl <;> rfl

/-- 'clear' of lines: cells are written, nothing else turns. -/
theorem run_clearL (w : World) (b o n c : Nat) (hn : 0 < n) (hr : ∀ j, j < n * 8 → (w.cell? ⟨b, o + j, none⟩).isSome = true ∧ w.frozen? ⟨b, o + j, none⟩ = false) :
    ∃ vs, vs.length = n * 8 ∧ ∀ ty, (Builtin.clear_ #[66] ty #[.slice (some ⟨b, o, none⟩) n c]).run Tryz.prog w = .ok (.tuple #[]) (w.setCells b o vs) := by
  obtain ⟨vs, hvs⟩ : ∃ vs, vs = (Builtin.zeroCells ln0.cs n).toList := ⟨_, rfl⟩
  have hl : vs.length = n * 8 := by rw [hvs]; simp [Builtin.zeroCells, Ln.size (x := ln0) rfl]
  have h1 : ∀ v ∈ vs, v.oneCell' = true := by
    intro v hv
    rw [hvs] at hv
    simp only [Builtin.zeroCells, Array.toList_map, List.mem_map] at hv
    obtain ⟨i, _, hi⟩ := hv
    have q : ∀ j, j < 8 → (ln0.cs[j]!).oneCell' = true := by decide
    rw [← hi]
    exact q _ (Nat.mod_lt _ (by decide))
  have hst := run_storeCells_cells (P := Tryz.prog) b o vs 0 w (fun j hj => by simpa using (hr j (by omega)).1) (fun j hj => by simpa using (hr j (by omega)).2) h1
  simp only [Nat.add_zero] at hst
  refine ⟨vs, hl, fun ty => ?_⟩
  have hz := ln_zero w
  generalize ln0.cs = Z at *
  obtain ⟨m, rfl⟩ : ∃ m, n = m + 1 := ⟨n - 1, by omega⟩
  simp only [Builtin.clear_, Sem.run_bind, run_underlying Tryz.underlying66 w, Result.andThen_ok]
  simp [hz, Value.cells, ← hvs, hst]

theorem getD_at {l : List Ln} {t : Nat} (h : t < l.length) : l.getD t ln0 = l[t] := by simp [h]

/-- The row behind the lines that stay: i lines stay of the first m. -/
def rowC (l : List Ln) (m : Nat) : List Ln := cptN l m ++ l.drop (cptN l m).length

theorem rowC_len (l : List Ln) {m : Nat} (h : m ≤ l.length) : (rowC l m).length = l.length := by
  have := cptN_len l m
  simp [rowC]; omega

theorem rowC_at {l : List Ln} {m i : Nat} (h : (cptN l m).length ≤ i) (hi : i < l.length) (hm : m ≤ l.length) : (rowC l m)[i]'(by rw [rowC_len l hm]; exact hi) = l[i] := by
  simp only [rowC]
  rw [List.getElem_append_right h, List.getElem_drop]
  congr 1; omega

theorem rowC_set {l : List Ln} {m : Nat} (hm : m < l.length) (hk : cptN l (m + 1) = cptN l m ++ [l[m]]) : (rowC l m).set (cptN l m).length l[m] = rowC l (m + 1) := by
  have hl := cptN_len l m
  simp only [rowC, hk]
  rw [List.set_append_right _ _ (Nat.le_refl _), Nat.sub_self, List.length_append, List.length_singleton, List.append_assoc]
  congr 1
  rw [List.drop_eq_getElem_cons (show (cptN l m).length < l.length by omega)]
  rfl

theorem cptN_same {l : List Ln} : ∀ {t : Nat}, t ≤ l.length → (∀ i, ∀ h : i < t, ∀ q : i < l.length, ¬ (0 < i ∧ (l[i]).a = (l.getD (i - 1) ln0).a)) → cptN l t = l.take t
  | 0, _, _ => by simp [cptN]
  | t + 1, h, hn => by
    rw [cptN_keep (show t < l.length by omega) (hn t (by omega) (by omega)), cptN_same (t := t) (by omega) (fun i hi q => hn i (by omega) q), List.take_succ_eq_append_getElem]

set_option maxRecDepth 20000 in
set_option maxHeartbeats 4000000 in
theorem compact_any (l : List Ln) (b cap : Nat) (w : World) (hl : l.length ≤ 100000) (hcap : l.length ≤ cap) (hcm : cap ≤ 9223372036854775807) (hR : Rw w b l) (hb : b < w.heap.size) (h6 : ∀ x ∈ l, x.a.length = 6) :
    Calls Tryz.prog 129 #[.slice (some ⟨b, 0, none⟩) l.length cap, .func (.func 130) #[] #[]] w
      (fun e w' => e = .returned (.slice (some ⟨b, 0, none⟩) (cptN l l.length).length cap) ∧ Rw w' b (cptN l l.length) ∧ Below b w w') := by
  have EQ := Lib.hid (fun (x y : Ln) W (hx : x.a.length = 6) (hy : y.a.length = 6) => tidy2_any x y W hx hy)
  have H6 := Lib.hid h6
  have HR := Lib.hid hR
  obtain ⟨n, hn⟩ : ∃ n, n = l.length := ⟨_, rfl⟩
  have HN := Lib.hid hn
  have hle : n ≤ 100000 := by omega
  have hce : n ≤ cap := by omega
  rw [← hn]
  clear hl hcap hR h6 hn
  by_cases h2 : n < 2
  · have q : decide ((n : Int) < 2) = true := by simp; omega
    have HE := Lib.hid (show cptN l n = l from by
      rw [cptN_same (by rw [HN.out]; exact Nat.le_refl _) (fun i hi _ => by omega), HN.out, List.take_length])
    go_enter Tryz.func129, Tryz.ntmps129
    go_wp2_with fail
    go_ret
    exact ⟨by rw [HE.out, ← HN.out]; rfl, by rw [HE.out]; exact HR.out, Below.refl _ _⟩
  · have q : decide ((n : Int) < 2) = false := by simp; omega
    go_enter Tryz.func129, Tryz.ntmps129
    go_wp2_with fail
    go_loopw [5] (fun s wr => ∃ t : Nat, s = .int .i64 ((t : Int) + 1) ∧ t + 1 ≤ n ∧ Hid (Below w.heap.size w wr) ∧ Hid (∀ i, ∀ h : i < t + 1, ∀ q : i < l.length, ¬ (0 < i ∧ (l[i]).a = (l.getD (i - 1) ln0).a))) (fun s _ => n - (intOf s).toNat)
    case atStart => exact ⟨0, rfl, by omega, Lib.hid (Below.refl _ _), Lib.hid (fun i h q => by omega)⟩
    case round =>
      generalize wr = wo at *
      obtain ⟨s, rfl, ht, HB, HF⟩ := hrel
      by_cases htn : s + 1 < n
      · have hl1 : s + 1 < l.length := by have := HN.out; omega
        obtain ⟨x, hx⟩ : ∃ x, x = l[s + 1] := ⟨_, rfl⟩
        obtain ⟨y, hy⟩ : ∃ y, y = l[s]'(by omega) := ⟨_, rfl⟩
        have LX := Lib.hid (show LnAt wo ⟨b, (s + 1) * 8, none⟩ x from by rw [hx]; exact (HR.out.1 _ hl1).on HB.out)
        have LY := Lib.hid (show LnAt wo ⟨b, s * 8, none⟩ y from by rw [hy]; exact (HR.out.1 _ (by omega)).on HB.out)
        have HX := Lib.hid hx
        have HY := Lib.hid hy
        clear hx hy
        have g0 : (s : Int) + 1 < n := by omega
        have g1 : (0 : Int) ≤ (s : Int) + 1 := by omega
        have g2 : IntKind.i64.wrap (s : Int) = s := wrap_in _ (by omega) (by omega)
        have g3 : (s : Int) < n := by omega
        have g4 : (0 : Int) ≤ (s : Int) := by omega
        go_upto_region 6 with (fail)
        have KS := Lib.hid (show ∀ W, Below wo.heap.size wo W → LnAt W ⟨b, (s + 1) * 8, none⟩ x ∧ LnAt W ⟨b, s * 8, none⟩ y from fun W h => ⟨LX.out.on h, LY.out.on h⟩)
        obtain ⟨w4, hw4⟩ : ∃ w4, w4 = wo.drew := ⟨_, rfl⟩
        have G4 := Lib.hid (show Below wo.heap.size wo w4 by rw [hw4]; exact (Below.refl _ _).drew)
        refine wp_region_held_drew (S := (fun W => LnAt W ⟨b, (s + 1) * 8, none⟩ x ∧ LnAt W ⟨b, s * 8, none⟩ y)) (by kernel_rfl) (by rw [← hw4]; exact KS.out _ G4.out) (fun h0 => ?_)
        rw [← hw4] at h0 ⊢
        clear hw4
        refine wpAnyH_take (i := 0) (v := ?v1) rfl (by kernel_rfl) (by kernel_rfl) (by kernel_rfl) (fun _ _ _ h => h) (Or.inl ⟨by rfl, ?hy1⟩) h0 ?rest1
        case hy1 => (intro w' hS; (try dsimp only at hS); go_simp; try (with_reducible rfl))
        simp only [Act.put, List.getElem_toArray, List.getElem_cons_zero, List.setIfInBounds_toArray, List.set_cons_zero, List.set_cons_succ]
        refine wpAnyH_take (i := 1) (v := ?v2) rfl (by kernel_rfl) (by kernel_rfl) (by kernel_rfl) (fun _ _ _ h => h) (Or.inl ⟨by rfl, ?hy2⟩) h0 ?rest2
        case hy2 => (intro w' hS; (try dsimp only at hS); go_simp; try (with_reducible rfl))
        simp only [Act.put, List.getElem_toArray, List.getElem_cons_zero, List.getElem_cons_succ, List.setIfInBounds_toArray, List.set_cons_zero, List.set_cons_succ]
        refine wpAnyH_take (i := 2) (v := ?v3) rfl (by kernel_rfl) (by kernel_rfl) (by kernel_rfl) (fun _ _ _ h => h) (Or.inl ⟨by rfl, ?hy3⟩) h0 ?rest3
        case hy3 => (intro w' hS; (try dsimp only at hS); go_simp; try (with_reducible rfl))
        simp only [Act.put, List.getElem_toArray, List.getElem_cons_zero, List.getElem_cons_succ, List.setIfInBounds_toArray, List.set_cons_zero, List.set_cons_succ]
        refine wpAnyH_take (i := 3) (v := ?v4) rfl (by kernel_rfl) (by kernel_rfl) (by kernel_rfl) (fun _ _ _ h => h) (Or.inl ⟨by rfl, ?hy4⟩) h0 ?rest4
        case hy4 => (intro w' hS; (try dsimp only at hS); go_simp; try (with_reducible rfl))
        simp only [Act.put, List.getElem_toArray, List.getElem_cons_zero, List.getElem_cons_succ, List.setIfInBounds_toArray, List.set_cons_zero, List.set_cons_succ]
        refine wpAnyH_take (i := 4) (v := (.agg x.cs)) rfl (by kernel_rfl) (by kernel_rfl) (by kernel_rfl) (fun _ _ _ h => h) (Or.inl ⟨by rfl, fun w' hS => yld_loadP _ rfl _ rfl hS.1⟩) h0 ?_
        simp only [Act.put, List.getElem_toArray, List.getElem_cons_zero, List.getElem_cons_succ, List.setIfInBounds_toArray, List.set_cons_zero, List.set_cons_succ]
        refine wpAnyH_take (i := 5) (v := ?v6) rfl (by kernel_rfl) (by kernel_rfl) (by kernel_rfl) (fun _ _ _ h => h) (Or.inl ⟨by rfl, ?hy6⟩) h0 ?rest6
        case hy6 => (intro w' hS; (try dsimp only at hS); go_simp; try (with_reducible rfl))
        simp only [Act.put, List.getElem_toArray, List.getElem_cons_zero, List.getElem_cons_succ, List.setIfInBounds_toArray, List.set_cons_zero, List.set_cons_succ]
        refine wpAnyH_take (i := 6) (v := ?v7) rfl (by kernel_rfl) (by kernel_rfl) (by kernel_rfl) (fun _ _ _ h => h) (Or.inl ⟨by rfl, ?hy7⟩) h0 ?rest7
        case hy7 => (intro w' hS; (try dsimp only at hS); go_simp; try (with_reducible rfl))
        simp only [Act.put, List.getElem_toArray, List.getElem_cons_zero, List.getElem_cons_succ, List.setIfInBounds_toArray, List.set_cons_zero, List.set_cons_succ]
        refine wpAnyH_take (i := 7) (v := ?v8) rfl (by kernel_rfl) (by kernel_rfl) (by kernel_rfl) (fun _ _ _ h => h) (Or.inl ⟨by rfl, ?hy8⟩) h0 ?rest8
        case hy8 => (intro w' hS; (try dsimp only at hS); go_simp; try (with_reducible rfl))
        simp only [Act.put, List.getElem_toArray, List.getElem_cons_zero, List.getElem_cons_succ, List.setIfInBounds_toArray, List.set_cons_zero, List.set_cons_succ]
        refine wpAnyH_take (i := 8) (v := ?v9) rfl (by kernel_rfl) (by kernel_rfl) (by kernel_rfl) (fun _ _ _ h => h) (Or.inl ⟨by rfl, ?hy9⟩) h0 ?rest9
        case hy9 => (intro w' hS; (try dsimp only at hS); go_simp; try (with_reducible rfl))
        simp only [Act.put, List.getElem_toArray, List.getElem_cons_zero, List.getElem_cons_succ, List.setIfInBounds_toArray, List.set_cons_zero, List.set_cons_succ]
        refine wpAnyH_take (i := 9) (v := (.agg y.cs)) rfl (by kernel_rfl) (by kernel_rfl) (by kernel_rfl) (fun _ _ _ h => h) (Or.inl ⟨by rfl, fun w' hS => yld_loadP _ rfl _ rfl hS.2⟩) h0 ?_
        simp only [Act.put, List.getElem_toArray, List.getElem_cons_zero, List.getElem_cons_succ, List.setIfInBounds_toArray, List.set_cons_zero, List.set_cons_succ]
        refine wpAnyH_ready (rs := [10]) (by kernel_rfl) (by simp) (AllReadyH.cons rfl (fun K hK => ?_) AllReadyH.nil)
        rw [if_pos (by rfl)]
        go_simp
        refine (EQ.out x y _ (KS.out _ G4.out).1.1 (KS.out _ G4.out).2.1).mono ?_
        rintro e w5 ⟨rfl, hb⟩
        have G5 := Lib.hid (below_on G4.out hb)
        clear hb
        go_simp
        refine hK.out _ _ (KS.out _ G5.out) (fun h0_1 => ?_)
        clear hK K h0
        refine wpAnyH_done (by kernel_rfl) ?_ _
        have hxy : decide (x.a = y.a) = decide ((l[s + 1]).a = (l.getD s ln0).a) := by rw [HX.out, HY.out, getD_at (by omega)]
        rw [hxy]
        have HW := Lib.hid (show Below w.heap.size w w5 from below_on HB.out G5.out)
        clear hxy g0 g1 g2 g3 g4
        by_cases he : (l[s + 1]).a = (l.getD s ln0).a
        · have D : decide ((l[s + 1]).a = (l.getD s ln0).a) = true := by simpa using he
          rw [D]
          have T0 := Lib.hid (cptN_same (show s + 1 ≤ l.length by omega) HF.out)
          have T1 := Lib.hid (show cptN l (s + 1 + 1) = l.take (s + 1) from by rw [cptN_drop hl1 ⟨by omega, he⟩]; exact T0.out)
          have TL := Lib.hid (show (cptN l (s + 1 + 1)).length = s + 1 from by rw [T1.out, List.length_take]; omega)
          have TR := Lib.hid (show rowC l (s + 1 + 1) = l from by simp only [rowC]; rw [TL.out, T1.out, List.take_append_drop])
          have R5 := Lib.hid (show Rw w5 b (rowC l (s + 1 + 1)) from by rw [TR.out]; exact HR.out.on HW.out hb)
          have B5 := Lib.hid (show Below b w w5 from ⟨HW.out.os, HW.out.tape, HW.out.output, HW.out.size, fun k hk => HW.out.block k (by omega)⟩)
          clear D he HF
          go_upto_region 9 with (fail)
          go_loopw [5, 7] (fun p q wr => ∃ k u : Nat, p = .int .i64 u ∧ q = .int .i64 ((k : Int) + 1) ∧ s + 1 + (k + 1) ≤ n ∧ 1 ≤ u ∧ u + 1 ≤ s + 1 + (k + 1) ∧ Hid (u = (cptN l (s + 1 + (k + 1))).length) ∧ Hid (Rw wr b (rowC l (s + 1 + (k + 1)))) ∧ Hid (Below b w wr) ∧ Hid (w.heap.size ≤ wr.heap.size)) (fun _ q _ => n - (intOf q).toNat)
          case atStart => exact ⟨0, s + 1, by go_num, rfl, by omega, by omega, by omega, Lib.hid TL.out.symm, R5, B5, Lib.hid HW.out.size⟩
          case round =>
            clear R5 B5 HW T0 T1 TL TR LX LY HX HY G4 G5 KS
            clear h0_1
            generalize wr = wo at *
            obtain ⟨k, u, rfl, rfl, hk, hu0, hu, HU, HR1, HB1, HZ1⟩ := hrel
            by_cases hkn : s + 1 + (k + 1) < n
            · have hl2 : s + 1 + (k + 1) < l.length := by have := HN.out; omega
              have RL := Lib.hid (rowC_len l (show s + 1 + (k + 1) ≤ l.length by omega))
              obtain ⟨x2, hx2⟩ : ∃ x2, x2 = l[s + 1 + (k + 1)] := ⟨_, rfl⟩
              obtain ⟨y2, hy2⟩ : ∃ y2, y2 = l[s + 1 + k]'(by omega) := ⟨_, rfl⟩
              have LX := Lib.hid (show LnAt wo ⟨b, (s + 1) * 8 + (k + 1) * 8, none⟩ x2 from by
                have := HR1.out.1 (s + 1 + (k + 1)) (by rw [RL.out]; exact hl2)
                rw [rowC_at (by have := HU.out; omega) hl2 (by omega)] at this
                rw [hx2, show (s + 1) * 8 + (k + 1) * 8 = (s + 1 + (k + 1)) * 8 by omega]; exact this)
              have LY := Lib.hid (show LnAt wo ⟨b, (s + 1) * 8 + k * 8, none⟩ y2 from by
                have := HR1.out.1 (s + 1 + k) (by rw [RL.out]; omega)
                rw [rowC_at (by have := HU.out; omega) (by omega) (by omega)] at this
                rw [hy2, show (s + 1) * 8 + k * 8 = (s + 1 + k) * 8 by omega]; exact this)
              have HX := Lib.hid hx2
              have HY := Lib.hid hy2
              clear hx2 hy2
              have g0 : (k : Int) + 1 < ((n - (s + 1) : Nat) : Int) := by omega
              have g1 : (0 : Int) ≤ (k : Int) + 1 := by omega
              have g2 : IntKind.i64.wrap (k : Int) = k := wrap_in _ (by omega) (by omega)
              have g3 : (k : Int) < ((n - (s + 1) : Nat) : Int) := by omega
              have g4 : (0 : Int) ≤ (k : Int) := by omega
              go_upto_region 11 with (fail)
              have KS := Lib.hid (show ∀ W, Below wo.heap.size wo W → LnAt W ⟨b, (s + 1) * 8 + (k + 1) * 8, none⟩ x2 ∧ LnAt W ⟨b, (s + 1) * 8 + k * 8, none⟩ y2 from fun W h => ⟨LX.out.on h, LY.out.on h⟩)
              obtain ⟨w4, hw4⟩ : ∃ w4, w4 = wo.drew := ⟨_, rfl⟩
              have G4 := Lib.hid (show Below wo.heap.size wo w4 by rw [hw4]; exact (Below.refl _ _).drew)
              refine wp_region_held_drew (S := (fun W => LnAt W ⟨b, (s + 1) * 8 + (k + 1) * 8, none⟩ x2 ∧ LnAt W ⟨b, (s + 1) * 8 + k * 8, none⟩ y2)) (by kernel_rfl) (by rw [← hw4]; exact KS.out _ G4.out) (fun h0 => ?_)
              rw [← hw4] at h0 ⊢
              clear hw4
              refine wpAnyH_take (i := 0) (v := ?v11) rfl (by kernel_rfl) (by kernel_rfl) (by kernel_rfl) (fun _ _ _ h => h) (Or.inl ⟨by rfl, ?hy11⟩) h0 ?rest11
              case hy11 => (intro w' hS; (try dsimp only at hS); go_simp; try (with_reducible rfl))
              simp only [Act.put, List.getElem_toArray, List.getElem_cons_zero, List.setIfInBounds_toArray, List.set_cons_zero, List.set_cons_succ]
              refine wpAnyH_take (i := 1) (v := ?v12) rfl (by kernel_rfl) (by kernel_rfl) (by kernel_rfl) (fun _ _ _ h => h) (Or.inl ⟨by rfl, ?hy12⟩) h0 ?rest12
              case hy12 => (intro w' hS; (try dsimp only at hS); go_simp; try (with_reducible rfl))
              simp only [Act.put, List.getElem_toArray, List.getElem_cons_zero, List.getElem_cons_succ, List.setIfInBounds_toArray, List.set_cons_zero, List.set_cons_succ]
              refine wpAnyH_take (i := 2) (v := ?v13) rfl (by kernel_rfl) (by kernel_rfl) (by kernel_rfl) (fun _ _ _ h => h) (Or.inl ⟨by rfl, ?hy13⟩) h0 ?rest13
              case hy13 => (intro w' hS; (try dsimp only at hS); go_simp; try (with_reducible rfl))
              simp only [Act.put, List.getElem_toArray, List.getElem_cons_zero, List.getElem_cons_succ, List.setIfInBounds_toArray, List.set_cons_zero, List.set_cons_succ]
              refine wpAnyH_take (i := 3) (v := ?v14) rfl (by kernel_rfl) (by kernel_rfl) (by kernel_rfl) (fun _ _ _ h => h) (Or.inl ⟨by rfl, ?hy14⟩) h0 ?rest14
              case hy14 => (intro w' hS; (try dsimp only at hS); go_simp; try (with_reducible rfl))
              simp only [Act.put, List.getElem_toArray, List.getElem_cons_zero, List.getElem_cons_succ, List.setIfInBounds_toArray, List.set_cons_zero, List.set_cons_succ]
              refine wpAnyH_take (i := 4) (v := (.agg x2.cs)) rfl (by kernel_rfl) (by kernel_rfl) (by kernel_rfl) (fun _ _ _ h => h) (Or.inl ⟨by rfl, fun w' hS => yld_loadP _ rfl _ rfl hS.1⟩) h0 ?_
              simp only [Act.put, List.getElem_toArray, List.getElem_cons_zero, List.getElem_cons_succ, List.setIfInBounds_toArray, List.set_cons_zero, List.set_cons_succ]
              refine wpAnyH_take (i := 5) (v := ?v16) rfl (by kernel_rfl) (by kernel_rfl) (by kernel_rfl) (fun _ _ _ h => h) (Or.inl ⟨by rfl, ?hy16⟩) h0 ?rest16
              case hy16 => (intro w' hS; (try dsimp only at hS); go_simp; try (with_reducible rfl))
              simp only [Act.put, List.getElem_toArray, List.getElem_cons_zero, List.getElem_cons_succ, List.setIfInBounds_toArray, List.set_cons_zero, List.set_cons_succ]
              refine wpAnyH_take (i := 6) (v := ?v17) rfl (by kernel_rfl) (by kernel_rfl) (by kernel_rfl) (fun _ _ _ h => h) (Or.inl ⟨by rfl, ?hy17⟩) h0 ?rest17
              case hy17 => (intro w' hS; (try dsimp only at hS); go_simp; try (with_reducible rfl))
              simp only [Act.put, List.getElem_toArray, List.getElem_cons_zero, List.getElem_cons_succ, List.setIfInBounds_toArray, List.set_cons_zero, List.set_cons_succ]
              refine wpAnyH_take (i := 7) (v := ?v18) rfl (by kernel_rfl) (by kernel_rfl) (by kernel_rfl) (fun _ _ _ h => h) (Or.inl ⟨by rfl, ?hy18⟩) h0 ?rest18
              case hy18 => (intro w' hS; (try dsimp only at hS); go_simp; try (with_reducible rfl))
              simp only [Act.put, List.getElem_toArray, List.getElem_cons_zero, List.getElem_cons_succ, List.setIfInBounds_toArray, List.set_cons_zero, List.set_cons_succ]
              refine wpAnyH_take (i := 8) (v := ?v19) rfl (by kernel_rfl) (by kernel_rfl) (by kernel_rfl) (fun _ _ _ h => h) (Or.inl ⟨by rfl, ?hy19⟩) h0 ?rest19
              case hy19 => (intro w' hS; (try dsimp only at hS); go_simp; try (with_reducible rfl))
              simp only [Act.put, List.getElem_toArray, List.getElem_cons_zero, List.getElem_cons_succ, List.setIfInBounds_toArray, List.set_cons_zero, List.set_cons_succ]
              refine wpAnyH_take (i := 9) (v := (.agg y2.cs)) rfl (by kernel_rfl) (by kernel_rfl) (by kernel_rfl) (fun _ _ _ h => h) (Or.inl ⟨by rfl, fun w' hS => yld_loadP _ rfl _ rfl hS.2⟩) h0 ?_
              simp only [Act.put, List.getElem_toArray, List.getElem_cons_zero, List.getElem_cons_succ, List.setIfInBounds_toArray, List.set_cons_zero, List.set_cons_succ]
              refine wpAnyH_ready (rs := [10]) (by kernel_rfl) (by simp) (AllReadyH.cons rfl (fun K hK => ?_) AllReadyH.nil)
              rw [if_pos (by rfl)]
              go_simp
              refine (EQ.out x2 y2 _ (KS.out _ G4.out).1.1 (KS.out _ G4.out).2.1).mono ?_
              rintro e w5 ⟨rfl, hb5⟩
              have G5 := Lib.hid (below_on G4.out hb5)
              clear hb5
              go_simp
              refine hK.out _ _ (KS.out _ G5.out) (fun h0_1 => ?_)
              clear hK K h0
              refine wpAnyH_take (i := 11) (v := ?v21) rfl (by kernel_rfl) (by kernel_rfl) (by kernel_rfl) (fun _ _ _ h => h) (Or.inl ⟨by rfl, ?hy21⟩) h0_1 ?rest21
              case hy21 => (intro w' hS; (try dsimp only at hS); go_simp; try (with_reducible rfl))
              simp only [Act.put, List.getElem_toArray, List.getElem_cons_zero, List.getElem_cons_succ, List.setIfInBounds_toArray, List.set_cons_zero, List.set_cons_succ]
              refine wpAnyH_done (by kernel_rfl) ?_ _
              have hxy : decide (x2.a = y2.a) = decide ((l[s + 1 + (k + 1)]).a = (l.getD (s + 1 + k) ln0).a) := by rw [HX.out, HY.out, getD_at (by omega)]
              rw [hxy]
              have B5 := Lib.hid (show Below b w w5 from ⟨G5.out.os.trans HB1.out.os, G5.out.tape.trans HB1.out.tape, G5.out.output.trans HB1.out.output, Nat.le_trans HB1.out.size G5.out.size, fun i hi => (G5.out.block i (by have := HZ1.out; omega)).trans (HB1.out.block i hi)⟩)
              have R5 := Lib.hid (show Rw w5 b (rowC l (s + 1 + (k + 1))) from HR1.out.on G5.out (by have := HZ1.out; omega))
              have Z5 := Lib.hid (show w.heap.size ≤ w5.heap.size from Nat.le_trans HZ1.out G5.out.size)
              have L5 := Lib.hid (show LnAt w5 ⟨b, (s + 1) * 8 + (k + 1) * 8, none⟩ x2 from LX.out.on G5.out)
              clear hxy g2 g3 g4
              by_cases he : (l[s + 1 + (k + 1)]).a = (l.getD (s + 1 + k) ln0).a
              · have D : decide ((l[s + 1 + (k + 1)]).a = (l.getD (s + 1 + k) ln0).a) = true := by simpa using he
                rw [D]
                have T1 := Lib.hid (show cptN l (s + 1 + (k + 1 + 1)) = cptN l (s + 1 + (k + 1)) from by rw [show s + 1 + (k + 1 + 1) = s + 1 + (k + 1) + 1 by omega, cptN_drop hl2 ⟨by omega, he⟩])
                clear he D
                go_wp2_with fail
                go_roundw
                case rel => exact ⟨k + 1, u, rfl, by go_num, by omega, hu0, by omega, Lib.hid (by rw [T1.out]; exact HU.out), Lib.hid (by have := R5.out; unfold rowC at this ⊢; rw [T1.out]; exact this), B5, Z5⟩
                case measure => simp [intOf]; omega
              · have D : decide ((l[s + 1 + (k + 1)]).a = (l.getD (s + 1 + k) ln0).a) = false := by simpa using he
                rw [D]
                have T1 := Lib.hid (show cptN l (s + 1 + (k + 1) + 1) = cptN l (s + 1 + (k + 1)) ++ [x2] from by rw [HX.out]; exact cptN_keep hl2 (fun h => he h.2))
                have X6 := Lib.hid (show x2.a.length = 6 from by rw [HX.out]; exact H6.out _ (List.getElem_mem _))
                have ul : u < (rowC l (s + 1 + (k + 1))).length := by rw [RL.out]; omega
                have HT := Lib.hid (show w5.there b (u * 8) x2.cs.size from fun j hj => by
                  rw [Ln.size X6.out] at hj
                  exact R5.out.2 (u * 8 + j) (by omega))
                have R6 := Lib.hid (show Rw (w5.setCells b (u * 8) x2.cells) b (rowC l (s + 1 + (k + 1) + 1)) from by
                  have := R5.out.set ul X6.out
                  rw [HU.out, HX.out, rowC_set hl2 (by rw [T1.out, HX.out]), ← HX.out, ← HU.out] at this
                  exact this)
                have B6 := Lib.hid (Below.setCells (Nat.le_refl b) x2.cells (u * 8) _ B5.out)
                have Z6 := Lib.hid (show w.heap.size ≤ (w5.setCells b (u * 8) x2.cells).heap.size from by
                  have := (Below.setCells (Nat.zero_le b) x2.cells (u * 8) w5 (Below.refl 0 w5)).size
                  exact Nat.le_trans Z5.out this)
                have TU := Lib.hid (show u + 1 = (cptN l (s + 1 + (k + 1) + 1)).length from by rw [T1.out, List.length_append, ← HU.out]; rfl)
                have g5 : (u : Int) < (n : Int) := by omega
                clear he D ul
                go_wp2_with (first | refine wpl_loadP rfl _ rfl _ rfl x2 L5.out ?_ | refine wpList_store_mid rfl _ _ _ rfl b (u * 8) x2.cs rfl rfl HT.out (by rw [Ln.size X6.out]; exact ln_size) (Ln.one _) ?_)
                go_roundw
                case rel => exact ⟨k + 1, u + 1, by go_num, by go_num, by omega, by omega, by omega, Lib.hid (by rw [show s + 1 + (k + 1 + 1) = s + 1 + (k + 1) + 1 by omega]; exact TU.out), Lib.hid (by rw [show s + 1 + (k + 1 + 1) = s + 1 + (k + 1) + 1 by omega]; exact R6.out), B6, Z6⟩
                case measure => simp [intOf]; omega
            · have e : s + 1 + (k + 1) = n := by omega
              have g0 : ¬ (k : Int) + 1 < ((n - (s + 1) : Nat) : Int) := by omega
              have un : u < n := by omega
              have RL := Lib.hid (rowC_len l (show s + 1 + (k + 1) ≤ l.length by have := HN.out; omega))
              obtain ⟨vs, hvl, hcl⟩ := run_clearL wo b (u * 8) (n - u) (cap - u) (by omega) (fun j hj => HR1.out.2 (u * 8 + j) (by rw [RL.out, ← HN.out]; omega))
              rw [e] at HU HR1
              have R7 := Lib.hid (show Rw (wo.setCells b (u * 8) vs) b (cptN l n) from (show Rw wo b (cptN l n) from HR1.out.take).behind (by have := HU.out; omega) vs)
              have B7 := Lib.hid (Below.setCells (Nat.le_refl b) vs (u * 8) _ HB1.out)
              have HE := Lib.hid HU.out
              go_wp2_with fail
              go_ret
              exact ⟨by rw [← HE.out]; rfl, R7.out, B7.out⟩
        · have D : decide ((l[s + 1]).a = (l.getD s ln0).a) = false := by simpa using he
          rw [D]
          have HF' := Lib.hid (show ∀ i, ∀ h : i < s + 1 + 1, ∀ q : i < l.length, ¬ (0 < i ∧ (l[i]).a = (l.getD (i - 1) ln0).a) from fun i hi q => by
            by_cases e : i = s + 1
            · subst e; exact fun h => he h.2
            · exact HF.out i (by omega) q)
          clear he D
          go_wp2_with fail
          go_roundw
          case rel => exact ⟨s + 1, by go_num, by omega, HW, HF'⟩
          case measure => simp [intOf]; omega
      · have HE := Lib.hid (show cptN l n = l from by
          rw [cptN_same (by rw [HN.out]; exact Nat.le_refl _) (fun i hi q => HF.out i (by omega) q), HN.out, List.take_length])
        go_wp2_with fail
        go_ret
        exact ⟨by rw [HE.out, ← HN.out]; rfl, by rw [HE.out]; exact HR.out.on HB.out hb, ⟨HB.out.os, HB.out.tape, HB.out.output, HB.out.size, fun k hk => HB.out.block k (by omega)⟩⟩

set_option maxHeartbeats 1000000 in
theorem compact_nil (w : World) : Calls Tryz.prog 129 #[.slice none 0 0, .func (.func 130) #[] #[]] w (fun e w' => e = .returned (.slice none 0 0) ∧ w' = w) := by
  go_enter Tryz.func129, Tryz.ntmps129
  go_wp2_with fail
  go_ret
  exact ⟨rfl, rfl⟩
end Go.Proofs.YtefpaobboimakaaGreat

namespace Go.Proofs
open Go.Shelf
def Tryz.laysSort_ren : Go.Shelf.Ren := ⟨fun | 6 => 124 | 15 => 149 | 14 => 148 | 28 => 164 | 29 => 165 | 20 => 156 | 21 => 157 | 22 => 158 | 23 => 159 | 24 => 160 | 25 => 161 | 26 => 162 | 27 => 163 | 46 => 167 | 47 => 168 | 48 => 169 | 49 => 170 | 50 => 171 | 57 => 172 | n => n, fun | 22 => 66 | 24 => 82 | 25 => 142 | 3 => 3 | 39 => 158 | 0 => 0 | 53 => 169 | 55 => 125 | 4 => 4 | 46 => 162 | 45 => 161 | 50 => 166 | 5 => 5 | 9 => 9 | 66 => 171 | 70 => 175 | 76 => 177 | 77 => 178 | n => n, fun | n => n⟩
theorem Tryz.laysSort : Go.Proofs.SlLaysF0.n6 Tryz.prog Tryz.laysSort_ren := {
  mixed := by kernel_rfl
  f6 := ⟨Tryz.f124.name, by decide, Tryz.func124.trans (congrArg some (by kernel_rfl))⟩
  f14 := ⟨Tryz.f148.name, by decide, Tryz.func148.trans (congrArg some (by kernel_rfl))⟩
  f15 := Tryz.func149.trans (congrArg some (by kernel_rfl))
  f20 := ⟨Tryz.f156.name, by decide, Tryz.func156.trans (congrArg some (by kernel_rfl))⟩
  f21 := ⟨Tryz.f157.name, by decide, Tryz.func157.trans (congrArg some (by kernel_rfl))⟩
  f22 := ⟨Tryz.f158.name, by decide, Tryz.func158.trans (congrArg some (by kernel_rfl))⟩
  f23 := ⟨Tryz.f159.name, by decide, Tryz.func159.trans (congrArg some (by kernel_rfl))⟩
  f24 := ⟨Tryz.f160.name, by decide, Tryz.func160.trans (congrArg some (by kernel_rfl))⟩
  f25 := ⟨Tryz.f161.name, by decide, Tryz.func161.trans (congrArg some (by kernel_rfl))⟩
  f26 := ⟨Tryz.f162.name, by decide, Tryz.func162.trans (congrArg some (by kernel_rfl))⟩
  f27 := ⟨Tryz.f163.name, by decide, Tryz.func163.trans (congrArg some (by kernel_rfl))⟩
  f28 := Tryz.func164.trans (congrArg some (by kernel_rfl))
  f29 := Tryz.func165.trans (congrArg some (by kernel_rfl))
  f46 := ⟨Tryz.f167.name, by decide, Tryz.func167.trans (congrArg some (by kernel_rfl))⟩
  f47 := Tryz.func168.trans (congrArg some (by kernel_rfl))
  f48 := Tryz.func169.trans (congrArg some (by kernel_rfl))
  f49 := ⟨Tryz.f170.name, by decide, Tryz.func170.trans (congrArg some (by kernel_rfl))⟩
  f50 := ⟨Tryz.f171.name, by decide, Tryz.func171.trans (congrArg some (by kernel_rfl))⟩
  f57 := ⟨Tryz.f172.name, by decide, Tryz.func172.trans (congrArg some (by kernel_rfl))⟩
  t0 := Tryz.underlying0
  a0 := Tryz.isAgg0
  z0 := Tryz.sizeOf0
  v0 := Tryz.zeroValue0
  t3 := Tryz.underlying3
  a3 := Tryz.isAgg3
  z3 := Tryz.sizeOf3
  v3 := Tryz.zeroValue3
  t4 := Tryz.underlying4
  a4 := Tryz.isAgg4
  z4 := Tryz.sizeOf4
  v4 := Tryz.zeroValue4
  t5 := Tryz.underlying5
  a5 := Tryz.isAgg5
  z5 := Tryz.sizeOf5
  v5 := Tryz.zeroValue5
  t9 := Tryz.underlying9
  a9 := Tryz.isAgg9
  z9 := Tryz.sizeOf9
  v9 := Tryz.zeroValue9
  t22 := Tryz.underlying66
  a22 := Tryz.isAgg66
  z22 := Tryz.sizeOf66
  v22 := Tryz.zeroValue66
  t25 := Tryz.underlying142
  a25 := Tryz.isAgg142
  z25 := Tryz.sizeOf142
  v25 := Tryz.zeroValue142
  t39 := Tryz.underlying158
  a39 := Tryz.isAgg158
  z39 := Tryz.sizeOf158
  v39 := Tryz.zeroValue158
  t45 := Tryz.underlying161
  a45 := Tryz.isAgg161
  z45 := Tryz.sizeOf161
  v45 := Tryz.zeroValue161
  t46 := Tryz.underlying162
  a46 := Tryz.isAgg162
  z46 := Tryz.sizeOf162
  v46 := Tryz.zeroValue162
  t50 := Tryz.underlying166
  a50 := Tryz.isAgg166
  z50 := Tryz.sizeOf166
  v50 := Tryz.zeroValue166
  t53 := Tryz.underlying169
  a53 := Tryz.isAgg169
  z53 := Tryz.sizeOf169
  v53 := Tryz.zeroValue169
  t55 := Tryz.underlying125
  a55 := Tryz.isAgg125
  z55 := Tryz.sizeOf125
  v55 := Tryz.zeroValue125
  t66 := Tryz.underlying171
  a66 := Tryz.isAgg171
  z66 := Tryz.sizeOf171
  v66 := Tryz.zeroValue171
  t70 := Tryz.underlying175
  a70 := Tryz.isAgg175
  z70 := Tryz.sizeOf175
  v70 := Tryz.zeroValue175
  t76 := Tryz.underlying177
  a76 := Tryz.isAgg177
  z76 := Tryz.sizeOf177
  v76 := Tryz.zeroValue177
  t77 := Tryz.underlying178
  a77 := Tryz.isAgg178
  z77 := Tryz.sizeOf178
  v77 := Tryz.zeroValue178 }
def Tryz.laysCloneI_ren : Go.Shelf.Ren := ⟨fun | 41 => 86 | n => n, fun | 22 => 23 | 23 => 2 | 4 => 4 | n => n, fun | n => n⟩
theorem Tryz.laysCloneI : Go.Proofs.SlLaysE0.n41 Tryz.prog Tryz.laysCloneI_ren := {
  mixed := by kernel_rfl
  f41 := ⟨Tryz.f86.name, by decide, Tryz.func86.trans (congrArg some (by kernel_rfl))⟩
  t4 := Tryz.underlying4
  a4 := Tryz.isAgg4
  z4 := Tryz.sizeOf4
  v4 := Tryz.zeroValue4
  t22 := Tryz.underlying23
  a22 := Tryz.isAgg23
  z22 := Tryz.sizeOf23
  v22 := Tryz.zeroValue23 }
def Tryz.laysCloneL_ren : Go.Shelf.Ren := ⟨fun | 41 => 95 | n => n, fun | 22 => 66 | 23 => 82 | 4 => 4 | n => n, fun | n => n⟩
theorem Tryz.laysCloneL : Go.Proofs.SlLaysE0.n41 Tryz.prog Tryz.laysCloneL_ren := {
  mixed := by kernel_rfl
  f41 := ⟨Tryz.f95.name, by decide, Tryz.func95.trans (congrArg some (by kernel_rfl))⟩
  t4 := Tryz.underlying4
  a4 := Tryz.isAgg4
  z4 := Tryz.sizeOf4
  v4 := Tryz.zeroValue4
  t22 := Tryz.underlying66
  a22 := Tryz.isAgg66
  z22 := Tryz.sizeOf66
  v22 := Tryz.zeroValue66 }
end Go.Proofs

namespace Go.Proofs.YtefpaobboimakaaGreat
open Go.RowKit Go.Sort Go.Shelf

theorem cmpL_lt : ∀ {l m : List Int}, cmpL l m < 0 ↔ l < m
  | [], [] => by simp [cmpL]
  | [], _ :: _ => by simp [cmpL]
  | _ :: _, [] => by simp [cmpL]
  | x :: xs, y :: ys => by
    rw [List.cons_lt_cons_iff, ← cmpL_lt (l := xs) (m := ys), show cmpL (x :: xs) (y :: ys) = if cmpI x y = 0 then cmpL xs ys else cmpI x y from rfl]
    split
    · rename_i h
      have := cmpI_zero.1 h
      constructor
      · exact fun q => Or.inr ⟨this, q⟩
      · rintro (q | ⟨_, q⟩)
        · omega
        · exact q
    · rename_i h
      rw [cmpI_less]
      constructor
      · exact Or.inl
      · rintro (q | ⟨q, _⟩)
        · exact q
        · exact absurd (cmpI_zero.2 q) h

theorem cmpN_lt {x y : Ln} : cmpN x y < 0 ↔ x.a < y.a ∨ (x.a = y.a ∧ x.lim < y.lim) := by
  unfold cmpN
  split
  · rename_i h
    have e := cmpL_zero.1 h
    rw [cmpI_less, e]
    constructor
    · exact fun q => Or.inr ⟨rfl, q⟩
    · rintro (q | ⟨_, q⟩)
      · exact absurd q (List.lt_irrefl _)
      · exact q
  · rename_i h
    rw [cmpL_lt]
    constructor
    · exact Or.inl
    · rintro (q | ⟨q, _⟩)
      · exact q
      · exact absurd (cmpL_zero.2 q) h

theorem list_tri (l m : List Int) : l < m ∨ l = m ∨ m < l := by
  rcases Classical.em (l < m) with h | h
  · exact Or.inl h
  · rcases Classical.em (m < l) with q | q
    · exact Or.inr (Or.inr q)
    · exact Or.inr (Or.inl (List.le_antisymm (List.not_lt.1 q) (List.not_lt.1 h)))

/-- Lines whose numbers fit. -/
abbrev FL := { x : Ln // Rg 2147483647 x }

instance : Inhabited FL := ⟨⟨ln0, ⟨rfl, by decide, by decide⟩⟩⟩

def cfL (x y : FL) : Int := cmpN x.1 y.1

theorem ltL {x y : FL} : ltOf cfL x y = true ↔ (x.1.a < y.1.a ∨ (x.1.a = y.1.a ∧ x.1.lim < y.1.lim)) := by
  unfold ltOf cfL
  rw [decide_eq_true_eq, cmpN_lt]

theorem swoL : SWO (ltOf cfL) where
  irrefl x := by
    rw [Bool.eq_false_iff]
    intro h
    rcases ltL.1 h with q | ⟨_, q⟩
    · exact List.lt_irrefl _ q
    · omega
  trans x y z h k := by
    rw [ltL] at *
    rcases h with h | ⟨h, h'⟩
    · rcases k with k | ⟨k, _⟩
      · exact Or.inl (List.lt_trans h k)
      · exact Or.inl (k ▸ h)
    · rcases k with k | ⟨k, k'⟩
      · exact Or.inl (h ▸ k)
      · exact Or.inr ⟨h.trans k, by omega⟩
  ntrans x y z h k := by
    rw [Bool.eq_false_iff] at *
    rw [Ne, ltL] at *
    intro q
    rcases list_tri x.1.a y.1.a with a | a | a
    · exact h (Or.inl a)
    · rcases list_tri y.1.a z.1.a with b | b | b
      · exact k (Or.inl b)
      · rcases q with q | ⟨_, q⟩
        · rw [a, b] at q; exact List.lt_irrefl _ q
        · have c1 : ¬ x.1.lim < y.1.lim := fun c => h (Or.inr ⟨a, c⟩)
          have c2 : ¬ y.1.lim < z.1.lim := fun c => k (Or.inr ⟨b, c⟩)
          omega
      · rcases q with q | ⟨q, _⟩
        · rw [a] at q; exact List.lt_irrefl _ (List.lt_trans q b)
        · rw [← a, q] at b; exact List.lt_irrefl _ b
    · rcases list_tri y.1.a z.1.a with b | b | b
      · exact k (Or.inl b)
      · rcases q with q | ⟨q, _⟩
        · rw [b] at a; exact List.lt_irrefl _ (List.lt_trans q a)
        · rw [b, q] at a; exact List.lt_irrefl _ a
      · have c := List.lt_trans b a
        rcases q with q | ⟨q, _⟩
        · exact List.lt_irrefl _ (List.lt_trans q c)
        · rw [q] at c; exact List.lt_irrefl _ c

theorem totL (x y : FL) (h : ltOf cfL x y = false) (k : ltOf cfL y x = false) : x = y := by
  rw [Bool.eq_false_iff, Ne, ltL] at h k
  have ha : x.1.a = y.1.a := by
    rcases list_tri x.1.a y.1.a with a | a | a
    · exact absurd (Or.inl a) h
    · exact a
    · exact absurd (Or.inl a) k
  have hl : x.1.lim = y.1.lim := by
    have c1 : ¬ x.1.lim < y.1.lim := fun c => h (Or.inr ⟨ha, c⟩)
    have c2 : ¬ y.1.lim < x.1.lim := fun c => k (Or.inr ⟨ha.symm, c⟩)
    omega
  have hs : x.1.s = y.1.s ∧ x.1.b = y.1.b := by
    unfold Ln.lim at hl
    cases h1 : x.1.s <;> cases h2 : y.1.s <;> rw [h1, h2] at hl <;> simp at hl ⊢ <;> omega
  apply Subtype.ext
  rcases x with ⟨⟨a, b, s⟩, hx⟩
  rcases y with ⟨⟨a', b', s'⟩, hy⟩
  simp only at ha hs
  show (⟨a, b, s⟩ : Ln) = ⟨a', b', s'⟩
  rw [ha, hs.1, hs.2]

def encL (x : FL) : List Value := x.1.cells

theorem encL_len (x : FL) : (encL x).length = 8 := Ln.cells_len x.2.len

theorem layL (b n : Nat) (w : World) : CmpLays Tryz.prog 125 #[] encL 8 cfL b 0 n w := fun m os dk _ x y => by
  refine (tidy1_any x.1 y.1 (sortWorldK encL 8 w b 0 m dk os) x.2 y.2).mono ?_
  rintro e w' ⟨rfl, q, os', h⟩
  exact ⟨rfl, q, os', h⟩

theorem holdsL {w : World} {b : Nat} {d : Array FL} : HoldsK encL 8 w b 0 d ↔ Rw w b (d.toList.map Subtype.val) := by
  have key : ∀ i, ∀ hi : i < d.size, ∀ c, c < 8 → (encL d[i]!)[c]! = (d[i].1.cells[c]?).getD default := fun i hi c hc => by
    rw [getElem!_pos d i hi]
    unfold encL
    rw [List.getElem!_eq_getElem?_getD]
  constructor
  · intro h
    refine ⟨fun i hi => ?_, fun j hj => ?_⟩
    · have hi' : i < d.size := by simpa using hi
      have he : (d.toList.map Subtype.val)[i] = d[i].1 := by simp
      rw [he]
      refine ⟨d[i].2.len, fun c v hv => ?_⟩
      have hc : c < 8 := by
        by_cases q : c < 8
        · exact q
        · rw [List.getElem?_eq_none (by rw [Ln.cells_len d[i].2.len]; omega)] at hv; cases hv
      have := (HoldsK.cell h hi' hc).1
      rw [addr_add]
      rw [Nat.zero_add] at this
      rw [this, key i hi' c hc, hv]; rfl
    · have hj' : j < d.size * 8 := by simpa using hj
      have := h j (by simpa using hj')
      rw [Nat.zero_add] at this
      exact ⟨by rw [this.1]; rfl, this.2⟩
  · intro h j hj
    have hj' : j < d.size * 8 := by simpa using hj
    have hd : j / 8 < d.size := by omega
    have h1 := h.1 (j / 8) (by simpa using hd)
    have he : (d.toList.map Subtype.val)[j / 8]'(by simpa using hd) = d[j / 8].1 := by simp
    rw [he] at h1
    have h2 := h.2 j (by simpa using hj')
    have hl := Ln.cells_len d[j / 8].2.len
    have h3 := h1.2 (j % 8) _ (List.getElem?_eq_getElem (show j % 8 < d[j / 8].1.cells.length by omega))
    rw [addr_add, show j / 8 * 8 + j % 8 = j by omega] at h3
    rw [Nat.zero_add]
    refine ⟨?_, h2.2⟩
    rw [h3, get_flatK encL 8 d j hj', key _ hd _ (by omega), List.getElem?_eq_getElem (show j % 8 < d[j / 8].1.cells.length by omega)]
    rfl

/-- The lines in their order. -/
def srtF (d : List FL) : List FL := d.mergeSort fun x y => !(ltOf cfL y x)

theorem sort_any (d : List FL) (b cap : Nat) (w : World) (hl : d.length ≤ 1000000) (hb : b < w.heap.size) (hR : Rw w b (d.map Subtype.val)) :
    Calls Tryz.prog 124 #[.slice (some ⟨b, 0, none⟩) d.length cap, .func (.func 125) #[] #[]] w
      (fun e w' => e = .returned (.tuple #[]) ∧ Rw w' b ((srtF d).map Subtype.val) ∧ Below b w w') := by
  have hH : HoldsK encL 8 w b 0 d.toArray := holdsL.2 (by simpa using hR)
  have hle : (srtF d).length = d.length := List.length_mergeSort _
  have h := AnyQ.slices_SortFunc_total Tryz.laysSort 8 (fun w => by
      show (isAgg 82).run Tryz.prog w = .ok true w
      unfold isAgg; rw [Sem.run_bind, run_underlying Tryz.underlying82 w]; simp) (fun w => size_of ln_size w) encL encL_len (fun x v hv => cells_one x.1 v hv) cfL swoL 125 #[] b 0 cap d.toArray w
    (enters_of Tryz.func125 (by kernel_rfl) rfl) (layL b d.toArray.size w) hH hb (by simp; omega) totL
  change Calls Tryz.prog 124 _ _ _ at h
  rw [List.size_toArray] at h
  refine h.mono ?_
  rintro e w' ⟨he, n, os, rfl⟩
  have h1 : HoldsK encL 8 (sortWorldK encL 8 w b 0 n (srtF d).toArray os) b 0 (srtF d).toArray := by
    unfold sortWorldK
    exact holdsK_grow encL 8 _ _ _ _ _ (by simpa [putRowK, Sort.ahead] using hb) (holdsK_putRowK encL 8 (Sort.ahead w n) b 0 d.toArray _ (holdsK_ahead encL 8 w n b 0 d.toArray hH) (by simp [hle]))
  refine ⟨he, ?_, ?_⟩
  · have := holdsL.1 h1
    simpa [srtF] using this
  · unfold sortWorldK grow putRowK putRow mapBlock Sort.ahead
    refine ⟨rfl, rfl, rfl, by simp, fun k hk => ?_⟩
    have hk' : k < w.heap.size := by omega
    simp only
    rw [Array.getElem?_append_left (by simpa using hk'), Array.getElem?_modify, if_neg (by omega)]
end Go.Proofs.YtefpaobboimakaaGreat

namespace Go.Proofs.YtefpaobboimakaaGreat
open Go.RowKit Go.Sort Go.Shelf

def z6 : List Int := [0, 0, 0, 0, 0, 0]

/-- The line that nothing meets. -/
def bad0 : Ln := ⟨z6, 0, true⟩

def badB (l : List Ln) : Bool := l.any fun x => decide (x.low.a = z6) && decide (x.low.lim ≤ 0)

def keepL (l : List Ln) : List Ln := (l.map Ln.low).filter fun x => decide (x.a ≠ z6)

def srtL (l : List Ln) : List Ln := l.mergeSort fun x y => !decide (cmpN y x < 0)

def cptL (l : List Ln) : List Ln := cptN l l.length

/-- The tidy list. -/
def tidyL (l : List Ln) : List Ln := if badB l then [bad0] else cptL (srtL (keepL l))

theorem srtF_val (d : List FL) : (srtF d).map Subtype.val = srtL (d.map Subtype.val) := by
  unfold srtF srtL
  exact List.map_mergeSort (fun a _ b _ => rfl)

theorem keepL_snoc {l : List Ln} {t : Nat} (h : t < l.length) : keepL (l.take (t + 1)) = keepL (l.take t) ++ (if (l[t]).low.a = z6 then [] else [(l[t]).low]) := by
  unfold keepL
  rw [List.take_succ_eq_append_getElem h, List.map_append, List.filter_append]
  congr 1
  by_cases e : (l[t]).low.a = z6 <;> simp [e]

theorem cptN_mem {l : List Ln} : ∀ {t : Nat} {x : Ln}, x ∈ cptN l t → x ∈ l
  | 0, x, h => by simp [cptN] at h
  | t + 1, x, h => by
    simp only [cptN, List.mem_append] at h
    rcases h with h | h
    · exact cptN_mem h
    · split at h
      · split at h
        · simp at h
        · simp only [List.mem_singleton] at h; rw [h]; exact List.getElem_mem _
      · simp at h

theorem cptL_mem {l : List Ln} {x : Ln} (h : x ∈ cptL l) : x ∈ l := cptN_mem h

theorem srtL_mem {l : List Ln} {x : Ln} : x ∈ srtL l ↔ x ∈ l := List.mem_mergeSort

theorem keepL_mem {l : List Ln} {x : Ln} (h : x ∈ keepL l) : ∃ y ∈ l, y.low = x := by
  simp only [keepL, List.mem_filter, List.mem_map] at h
  exact h.1

theorem tidyL_rg {m : Int} {l : List Ln} (hm : 0 ≤ m) (h : ∀ x ∈ l, Rg m x) : ∀ x ∈ tidyL l, Rg m x := by
  intro x hx
  unfold tidyL at hx
  split at hx
  · simp only [List.mem_singleton] at hx
    rw [hx]
    exact ⟨rfl, by intro v hv; simp [bad0, z6] at hv; omega, by simp [bad0]; omega⟩
  · obtain ⟨y, hy, rfl⟩ := keepL_mem (srtL_mem.1 (cptL_mem hx))
    exact (h y hy).low

theorem ln_info3 : (Tryz.prog.info? 82).map (fun i => (i.zero, i.size, i.bytes)) = some (some (.agg ln0.cs), 8, 64) := by kernel_rfl

theorem ln_build2 (w : World) : (Instr.build 82 #[(2, .bool true)]).run Tryz.prog w = .ok (.agg bad0.cs) w := run_build w _ _ _ (by kernel_rfl)

theorem coef_build (w : World) : (Instr.build 80 #[]).run Tryz.prog w = .ok (.agg (avs z6)) w := run_build w _ _ _ (by kernel_rfl)

theorem grown_row (w : World) (b : Nat) (cs : Array Value) : w.grownBy (w.setRow b cs) (some b) := ⟨rfl, rfl, rfl, by simp, fun k _ hk => setRow_other w b k cs (fun e => hk (by rw [e]))⟩

theorem OwnL.row {w : World} {B : Nat} {v : Value} {l : List Ln} (h : OwnL w B v l) {q : Nat} (hq : ∀ k, v.ownBlock = some k → k ≠ q) (cs : Array Value) : OwnL (w.setRow q cs) B v l :=
  ⟨World.ownsRow.kept h.1 (grown_row w q cs) (by
    cases e : v.ownBlock with
    | none => exact Or.inl rfl
    | some k => exact Or.inr (fun h' => hq k e (by injection h'))), h.2⟩

theorem OwnL.lt {w : World} {B : Nat} {v : Value} {l : List Ln} (h : OwnL w B v l) : ∀ k, v.ownBlock = some k → k < w.heap.size := fun k hk => (World.ownsRow.lt h.1 k hk).2

theorem OwnL.rw' {w : World} {B : Nat} {g cap : Nat} {l : List Ln} (h : OwnL w B (.slice (some ⟨g, 0, none⟩) l.length cap) l) : Rw w g l := by
  refine ⟨fun i hi => ⟨h.2 _ (List.getElem_mem hi), fun j v hv => ?_⟩, fun j hj => ?_⟩
  · have hj : j < 8 := by
      by_cases q : j < 8
      · exact q
      · rw [List.getElem?_eq_none (by rw [Ln.cells_len (h.2 _ (List.getElem_mem hi))]; omega)] at hv; cases hv
    rw [addr_add]
    exact (World.ownsRow.cellAt h.1 (i * 8 + j) (by omega)).trans ((flat_at h.2 hi hj).trans hv)
  · refine ⟨?_, World.ownsRow.frozenAt h.1 j⟩
    rw [World.ownsRow.cellAt h.1 j hj, List.getElem?_eq_getElem (by rw [flat_len h.2]; exact hj)]
    rfl

theorem Rw.rd {w : World} {b : Nat} {l : List Ln} (h : Rw w b l) : RdL w (some ⟨b, 0, none⟩) l := fun t ht => ⟨_, rfl, by rw [addr_add, Nat.zero_add]; exact h.1 t ht⟩

theorem run_bs1 (x : Ln) (hx : x.a.length = 6) (w : World) : (Instr.buildSlice 66 1 #[(0, .agg x.cs)]).run Tryz.prog w = .ok (.slice (some ⟨w.heap.size, 0, none⟩) 1 1) (w.alloc (.cells x.cs 82)) := by
  have hz := (zero_of_info ln_info).1 w
  have hs := size_of ln_size w
  obtain ⟨a, b, s⟩ := x
  match a, hx with
  | [a0, a1, a2, a3, a4, a5], _ =>
    simp [go_sem, Instr.buildSlice, run_underlying Tryz.underlying66, hs, hz, Ln.cs, Ln.cells, ln0, Instr.fill]

theorem wp_bs1 {w : World} {o : Oper} {a : Act} {K : Act → World → Prop} {Q : Exit → Act → World → Prop} (s : Operand) (ho : o.op = .buildSlice 66 1 #[(0, s)]) (x : Ln) (hs : a.eval s = .agg x.cs) (hx : x.a.length = 6)
    (h : K (a.put o.dst (.slice (some ⟨w.heap.size, 0, none⟩) 1 1)) (w.alloc (.cells x.cs 82))) : o.wp Tryz.prog a w K Q := by
  have hv := run_bs1 x hx w
  generalize x.cs = V at *
  unfold Oper.wp execOp
  simp only [ho, List.map_toArray, List.map_cons, List.map_nil, hs, Sem.run_bind, Sem.run_pure, hv, Result.andThen_ok]
  exact h

theorem wpl_bs1 {w : World} {ops : Array Oper} {rest : List Oper} {o : Oper} {a : Act} {Q : Exit → Act → World → Prop} (hgd : o.guard = none) (s : Operand) (ho : o.op = .buildSlice 66 1 #[(0, s)]) (x : Ln) (hs : a.eval s = .agg x.cs) (hx : x.a.length = 6)
    (h : wpList Tryz.prog ops Q rest (a.put o.dst (.slice (some ⟨w.heap.size, 0, none⟩) 1 1)) (w.alloc (.cells x.cs 82))) : wpList Tryz.prog ops Q (o :: rest) a w :=
  wpList_plain hgd fun _ hK => wp_bs1 s ho x hs hx (hK _ _ h)

/-- What a function leaves that returns a list of lines: it can be read; all from before is as it was. -/
def LRes (w : World) (l : List Ln) (e : Ending) (w' : World) : Prop := ∃ ao cap, e = .returned (.slice ao l.length cap) ∧ RdL w' ao l ∧ Below w.heap.size w w'

set_option maxRecDepth 20000 in
set_option maxHeartbeats 4000000 in
theorem tidy_any (l : List Ln) (ao : Option Addr) (cap : Nat) (w : World) (hl : l.length ≤ 100000) (hR : RdL w ao l) (hg : ∀ x ∈ l, Rg 2147483647 x) :
    Calls Tryz.prog 90 #[.slice ao l.length cap] w (LRes w (tidyL l)) := by
  obtain ⟨i0, hi, hz0, hz1, hz2⟩ := info_parts ln_info3
  have hz := ln_zero
  have h0 := coef_build
  have hb2 := ln_build2
  have LO := Lib.hid (fun (x : Ln) W (h : Rg 2147483647 x) => lowest_any x W h.len (fun v hv => by have := h.a v hv; unfold A63; omega) (by have := h.b; unfold A63; omega))
  have LM := Lib.hid (fun (x : Ln) W (h : Rg 2147483647 x) => lim_any x W (h.mono (by omega)))
  have HG := Lib.hid hg
  have HR := Lib.hid hR
  obtain ⟨n, hn⟩ : ∃ n, n = l.length := ⟨_, rfl⟩
  have HN := Lib.hid hn
  have hle : n ≤ 100000 := by omega
  rw [← hn]
  clear hl hR hg hn
  go_enter Tryz.func90, Tryz.ntmps90
  go_wp2_with fail
  go_loopw [3, 8] (fun v s wr => ∃ t : Nat, s = .int .i64 t ∧ t ≤ n ∧ Hid (OwnL wr w.heap.size v (keepL (l.take t))) ∧ Hid (Below w.heap.size w wr) ∧ Hid (badB (l.take t) = false)) (fun _ s _ => n - (intOf s).toNat)
  case atStart => exact ⟨0, rfl, by omega, Lib.hid (by simpa [keepL] using OwnL.nil _ _), Lib.hid (Below.refl _ _), Lib.hid (by simp [badB])⟩
  case round =>
    obtain ⟨t, rfl, ht, HO, HB, HF⟩ := hrel
    by_cases htn : t < n
    · have hl1 : t < l.length := by have := HN.out; omega
      obtain ⟨a, ha, hla⟩ := HR.out.on HB.out t hl1
      obtain ⟨x, hx⟩ : ∃ x, x = l[t] := ⟨_, rfl⟩
      rw [← hx] at hla
      have LA := Lib.hid hla
      have GX := Lib.hid (show Rg 2147483647 x by rw [hx]; exact HG.out _ (List.getElem_mem _))
      have KS := Lib.hid (show keepL (l.take (t + 1)) = keepL (l.take t) ++ (if x.low.a = z6 then [] else [x.low]) by rw [hx]; exact keepL_snoc hl1)
      have BS := Lib.hid (show badB (l.take (t + 1)) = (decide (x.low.a = z6) && decide (x.low.lim ≤ 0)) by
        have := HF.out
        unfold badB at this ⊢
        rw [List.take_succ_eq_append_getElem hl1, List.any_append, this, ← hx]; simp)
      have BA := Lib.hid (show (decide (x.low.a = z6) && decide (x.low.lim ≤ 0)) = true → badB l = true from fun h => by
        unfold badB
        rw [List.any_eq_true]
        exact ⟨x, by rw [hx]; exact List.getElem_mem _, h⟩)
      have GL := Lib.hid GX.out.low
      clear hla hx hl1
      subst ha
      obtain ⟨q, hq⟩ : ∃ q, q = wr.heap.size := ⟨_, rfl⟩
      have N1 := Lib.hid (show Bk (wr.alloc (.cells ln0.cs 82)) wr.heap.size ln0 from Bk.made wr ln0 rfl)
      have N2 := Lib.hid (N1.out.setRow GX.out.len)
      have B2 := Lib.hid (Below.setRow ((Below.refl wr.heap.size wr).alloc (Nat.le_refl _) (.cells ln0.cs 82)) (b := wr.heap.size) (Nat.le_refl _) x.cs)
      have V2 := Lib.hid (fun k hk => show k ≠ wr.heap.size from by have := HO.out.lt k hk; omega)
      go_upto_region 5 with (first | refine wpl_loadP rfl _ rfl _ rfl x LA.out ?_ | refine wpl_store rfl _ _ rfl _ _ rfl rfl _ N1.out GX.out.len ?_)
      generalize (wr.alloc (.cells ln0.cs 82)).setRow wr.heap.size x.cs = w1 at *
      have O2 := Lib.hid (HO.out.on B2.out)
      have B1 := Lib.hid (below_on HB.out B2.out)
      rw [← hq] at N2 V2 B2 ⊢
      have q1 : q < w1.heap.size := N2.out.lt
      have q0 : w.heap.size ≤ q := by rw [hq]; exact HB.out.size
      clear N1 B2 hq LA
      go_wp2_with (refine wpl_load rfl _ rfl _ rfl x N2.out ?_)
      refine (LO.out x _ GX.out).mono ?_
      rintro e w2 ⟨rfl, hb⟩
      have N3 := Lib.hid (N2.out.kept hb)
      have O3 := Lib.hid (O2.out.on hb)
      have B3 := Lib.hid (below_on B1.out hb)
      clear hb
      have N4 := Lib.hid (N3.out.setRow GL.out.len)
      have O4 := Lib.hid (O3.out.row V2.out x.low.cs)
      have B4 := Lib.hid (Below.setRow B3.out (b := q) q0 x.low.cs)
      go_upto_region 6 with (refine wpl_store rfl _ _ rfl _ _ rfl rfl _ N3.out GL.out.len ?_)
      generalize w2.setRow q x.low.cs = w4 at *
      clear N2 O2 B1 N3 O3 B3
      by_cases hza : x.low.a = z6
      · have D : decide (x.low.a = z6) = true := by simpa using hza
        have KS' := Lib.hid (show keepL (l.take (t + 1)) = keepL (l.take t) by rw [KS.out, if_pos hza, List.append_nil])
        rw [D, Bool.true_and] at BS BA
        clear KS hza
        go_wp2_with (first | refine wpl_loadA rfl _ rfl _ rfl x.low N4.out ?_ | (refine wpl_neqA rfl _ _ _ rfl _ z6 rfl rfl GL.out.len rfl ?_; rw [D]) | refine wpl_load rfl _ rfl _ rfl x.low N4.out ?_)
        refine (LM.out x.low _ GL.out).mono ?_
        rintro e w5 ⟨rfl, hb⟩
        have O5 := Lib.hid (O4.out.on hb)
        have B5 := Lib.hid (below_on B4.out hb)
        clear hb
        generalize x.low.lim = L at *
        by_cases hL : L ≤ 0
        · have DL : decide (L ≤ 0) = true := by simpa using hL
          have HE := Lib.hid (show tidyL l = [bad0] by unfold tidyL; rw [BA.out DL, if_pos rfl])
          have M6 := Lib.hid (show Bk (w5.alloc (.cells bad0.cs 82)) w5.heap.size bad0 from Bk.made w5 bad0 rfl)
          have B6 := Lib.hid (B5.out.alloc B5.out.size (.cells bad0.cs 82))
          clear hL
          go_wp2_with (refine wpl_bs1 rfl _ rfl bad0 rfl rfl ?_)
          go_ret
          refine ⟨some ⟨w5.heap.size, 0, none⟩, 1, by rw [HE.out]; rfl, ?_, B6.out⟩
          rw [HE.out]
          intro j hj
          have : j = 0 := by simpa using hj
          subst this
          exact ⟨_, rfl, by rw [addr_add]; exact M6.out.lnAt⟩
        · have DL : decide (L ≤ 0) = false := by simpa using hL
          rw [DL] at BS
          clear hL
          go_wp2_with fail
          go_roundw
          case rel => exact ⟨t + 1, by go_num, by omega, Lib.hid (by rw [KS'.out]; exact O5.out), B5, BS⟩
          case measure => simp [intOf]; omega
      · have D : decide (x.low.a = z6) = false := by simpa using hza
        have KS' := Lib.hid (show keepL (l.take (t + 1)) = keepL (l.take t) ++ [x.low] by rw [KS.out, if_neg hza])
        rw [D, Bool.false_and] at BS
        have LN := Lib.hid (show (keepL (l.take t)).length ≤ n by
          unfold keepL
          refine Nat.le_trans (List.length_filter_le _ _) ?_
          simp; omega)
        clear KS BA hza
        go_wp2_with (first | refine wpl_loadA rfl _ rfl _ rfl x.low N4.out ?_ | (refine wpl_neqA rfl _ _ _ rfl _ z6 rfl rfl GL.out.len rfl ?_; rw [D]) | refine wpl_load rfl _ rfl _ rfl x.low N4.out ?_ | refine wpl_bs1 rfl _ rfl x.low rfl GL.out.len ?_ | (at_builtin; refine wpList_append_own _ rfl _ _ 66 rfl w.heap.size 82 i0 (.agg ln0.cs) 8 64 Tryz.underlying66 hi hz0 hz1 hz2 (by rfl) (by decide) _ _ _ rfl (World.ownsRow.alloc O4.out.1 _) ⟨w4.heap.size, 0, none⟩ 1 1 x.low.cells rfl (by rw [Ln.cells_len GL.out.len]) (fun j u hu => (Bk.made w4 x.low GL.out.len).lnAt.2 j u hu) (cells_one _) (by have := LN.out; unfold maxLen; omega) (by have := LN.out; omega) (by have := B4.out.size; simp; omega) ?_))
        intro v' w5 hown hgrow _
        have B5 := Lib.hid (show Below w.heap.size w w5 from Below.grown (B4.out.alloc B4.out.size _) hgrow (by have := B4.out.size; simp; omega) (fun k hk => (World.ownsRow.lt O4.out.1 k hk).1))
        have O5 := Lib.hid (show OwnL w5 w.heap.size v' (keepL (l.take (t + 1))) from by
          rw [KS'.out]
          refine ⟨?_, fun y hy => ?_⟩
          · rw [List.flatMap_append, List.length_append]; simpa using hown
          · rcases List.mem_append.1 hy with h | h
            · exact O4.out.2 y h
            · simp only [List.mem_singleton] at h; rw [h]; exact GL.out.len)
        clear hown hgrow
        go_wp2_with fail
        go_roundw
        case rel => exact ⟨t + 1, by go_num, by omega, O5, B5, BS⟩
        case measure => simp [intOf]; omega
    · have e : l.take t = l := List.take_of_length_le (by have := HN.out; omega)
      rw [e] at HO HF
      have HE := Lib.hid (show tidyL l = cptL (srtL (keepL l)) by unfold tidyL; rw [HF.out]; rfl)
      have LK := Lib.hid (show (keepL l).length ≤ 100000 by
        unfold keepL
        refine Nat.le_trans (List.length_filter_le _ _) ?_
        have := HN.out; simp; omega)
      have GK : ∀ x ∈ keepL l, Rg 2147483647 x := fun x hx => by
        obtain ⟨y, hy, rfl⟩ := keepL_mem hx
        exact (HG.out y hy).low
      obtain ⟨d, hd⟩ : ∃ d : List FL, d = (keepL l).pmap Subtype.mk GK := ⟨_, rfl⟩
      have hv : d.map Subtype.val = keepL l := by rw [hd]; simp [List.map_pmap]
      have hdl : d.length = (keepL l).length := by rw [← hv]; simp
      have HV := Lib.hid (show (srtF d).map Subtype.val = srtL (keepL l) by rw [srtF_val, hv])
      have LS := Lib.hid (show (srtL (keepL l)).length = (keepL l).length from List.length_mergeSort _)
      have h6 := Lib.hid (show ∀ x ∈ srtL (keepL l), x.a.length = 6 from fun x hx => (GK x (srtL_mem.1 hx)).len)
      rcases hO : HO.out.1.2 with ⟨rfl, hn0⟩ | ⟨g, cp, cur, rfl, hgb, hgh, hgc, hgm, _, _⟩
      · have hk : keepL l = [] := List.eq_nil_of_length_eq_zero hn0
        have HE' := Lib.hid (show tidyL l = [] by rw [HE.out, hk]; unfold cptL srtL; simp [cptN])
        have SN := Lib.hid (fun W => show Calls Tryz.prog 124 #[.slice none 0 0, .func (.func 125) #[] #[]] W (fun e w' => e = .returned (.tuple #[]) ∧ w' = W) from AnyF.slices_SortFunc_none { Tryz.laysSort with } none 0 _ W)
        have CN := Lib.hid (fun W => compact_nil W)
        clear hO hn0 hk
        go_wp2_with fail
        refine (SN.out _).mono ?_
        rintro e1 w1 ⟨rfl, rfl⟩
        go_wp2_with fail
        refine (CN.out _).mono ?_
        rintro e2 w2 ⟨rfl, rfl⟩
        go_wp2_with fail
        go_ret
        exact ⟨none, 0, by rw [HE'.out]; rfl, by rw [HE'.out]; exact RdL.nil _ _, HB.out⟩
      · have hlt : g < wr.heap.size := by
          by_cases q : g < wr.heap.size
          · exact q
          · rw [Array.getElem?_eq_none (by omega)] at hgh; cases hgh
        have SA := Lib.hid (show Calls Tryz.prog 124 #[.slice (some ⟨g, 0, none⟩) (keepL l).length cp, .func (.func 125) #[] #[]] wr (fun e w' => e = .returned (.tuple #[]) ∧ Rw w' g (srtL (keepL l)) ∧ Below g wr w') from by
          have := sort_any d g cp wr (by rw [hdl]; exact Nat.le_trans LK.out (by omega)) hlt (by rw [hv]; exact HO.out.rw')
          rw [hdl, HV.out] at this
          exact this)
        have CA := Lib.hid (fun W (hr : Rw W g (srtL (keepL l))) (hb : g < W.heap.size) => compact_any (srtL (keepL l)) g cp W (by rw [LS.out]; exact LK.out) (by rw [LS.out]; exact hgc) (by unfold maxLen at hgm; omega) hr hb h6.out)
        rw [LS.out] at CA
        have HE' := Lib.hid (show tidyL l = cptN (srtL (keepL l)) (keepL l).length by rw [HE.out]; unfold cptL; rw [LS.out])
        have HB' := Lib.hid HB.out
        have HG' := Lib.hid hgb
        have HL' := Lib.hid hlt
        clear hO hgh hgc hgm hgb hlt hv hdl hd HV GK LK
        generalize cptN (srtL (keepL l)) (keepL l).length = R at *
        generalize (keepL l).length = m at *
        go_wp2_with fail
        refine SA.out.mono ?_
        rintro e1 w1 ⟨rfl, hr1, hb1⟩
        have R1 := Lib.hid hr1
        have B1 := Lib.hid hb1
        clear hr1 hb1
        go_wp2_with fail
        refine (CA.out w1 R1.out (Nat.lt_of_lt_of_le HL'.out B1.out.size)).mono ?_
        rintro e2 w2 ⟨rfl, hr2, hb2⟩
        have R2 := Lib.hid hr2
        have B2 := Lib.hid hb2
        clear hr2 hb2
        go_wp2_with fail
        go_ret
        refine ⟨_, _, by rw [HE'.out]; rfl, by rw [HE'.out]; exact R2.out.rd, ?_⟩
        have k1 := B1.out
        have k2 := B2.out
        exact ⟨k2.os.trans (k1.os.trans HB'.out.os), k2.tape.trans (k1.tape.trans HB'.out.tape), k2.output.trans (k1.output.trans HB'.out.output), Nat.le_trans HB'.out.size (Nat.le_trans k1.size k2.size), fun i hi => (k2.block i (by have := HG'.out; omega)).trans ((k1.block i (by have := HG'.out; omega)).trans (HB'.out.block i hi))⟩
end Go.Proofs.YtefpaobboimakaaGreat

namespace Go.Proofs.YtefpaobboimakaaGreat
open Go.Sort

/-- x takes the place of y. -/
def Ln.over (x y : Ln) : Bool := decide (x.b < y.b) || (decide (x.b = y.b) && x.s)

def insN (x : Ln) : List Ln → List Ln
  | [] => [x]
  | y :: r => if cmpL y.a x.a < 0 then y :: insN x r else if y.a = x.a then (if x.over y then x :: r else y :: r) else x :: y :: r

def Srt (l : List Ln) : Prop := l.Pairwise fun x y => x.a < y.a

theorem lim_le {x y : Ln} : x.lim ≤ y.lim ↔ x.b < y.b ∨ (x.b = y.b ∧ (x.s = true ∨ y.s = false)) := by
  unfold Ln.lim
  cases x.s <;> cases y.s <;> simp <;> omega

theorem lim_inj {x y : Ln} (h : x.lim = y.lim) : x.b = y.b ∧ x.s = y.s := by
  unfold Ln.lim at h
  revert h
  cases x.s <;> cases y.s <;> simp <;> omega

theorem ln_ext {x y : Ln} (h : x.a = y.a) (k : x.lim = y.lim) : x = y := by
  obtain ⟨p, q⟩ := lim_inj k
  cases x; cases y; simp_all

theorem over_iff {x y : Ln} : x.over y = true ↔ x.lim < y.lim ∨ (x.lim = y.lim ∧ x.s = true) := by
  unfold Ln.over Ln.lim
  cases x.s <;> cases y.s <;> simp <;> omega

theorem lt_irr (l : List Int) : ¬ l < l := fun h => by have := cmpL_lt.2 h; rw [cmpL_zero.2 rfl] at this; omega

theorem lt_ne {l m : List Int} (h : l < m) : l ≠ m := fun e => lt_irr m (e ▸ h)

theorem lt_tr {l m k : List Int} (h : l < m) (h' : m < k) : l < k := List.lt_trans h h'

/-- Two lists in order that have the same elements are equal. -/
theorem srt_eq : ∀ {l m : List Ln}, Srt l → Srt m → (∀ z, z ∈ l ↔ z ∈ m) → l = m
  | [], [], _, _, _ => rfl
  | [], y :: r, _, _, h => absurd ((h y).2 (by simp)) (by simp)
  | x :: r, [], _, _, h => absurd ((h x).1 (by simp)) (by simp)
  | x :: r, y :: s, hl, hm, h => by
    obtain ⟨h1, h2⟩ := List.pairwise_cons.1 hl
    obtain ⟨k1, k2⟩ := List.pairwise_cons.1 hm
    have e : x = y := by
      rcases List.mem_cons.1 ((h x).1 (by simp)) with q | q
      · exact q
      · rcases List.mem_cons.1 ((h y).2 (by simp)) with p | p
        · exact p.symm
        · exact absurd (lt_tr (k1 x q) (h1 y p)) (lt_irr _)
    subst e
    rw [srt_eq h2 k2 fun z => ?_]
    constructor
    · intro q
      rcases List.mem_cons.1 ((h z).1 (by simp [q])) with p | p
      · subst p; exact absurd (h1 z q) (lt_irr _)
      · exact p
    · intro q
      rcases List.mem_cons.1 ((h z).2 (by simp [q])) with p | p
      · subst p; exact absurd (k1 z q) (lt_irr _)
      · exact p

/-- The elements behind an insertion. -/
theorem ins_mem {x : Ln} : ∀ {l : List Ln}, Srt l → ∀ z, z ∈ insN x l ↔ (z ∈ l ∧ (z.a = x.a → z.lim ≤ x.lim)) ∨ (z = x ∧ ∀ y ∈ l, y.a = x.a → x.lim ≤ y.lim)
  | [], _, z => by simp [insN]
  | y :: r, hl, z => by
    obtain ⟨h1, h2⟩ := List.pairwise_cons.1 hl
    have ih := ins_mem (x := x) h2 z
    unfold insN
    split
    · rename_i c
      have c := cmpL_lt.1 c
      rw [List.mem_cons, ih]
      constructor
      · rintro (rfl | (⟨p, q⟩ | ⟨p, q⟩))
        · exact Or.inl ⟨by simp, fun e => absurd e (lt_ne c)⟩
        · exact Or.inl ⟨by simp [p], q⟩
        · refine Or.inr ⟨p, fun u hu e => ?_⟩
          rcases List.mem_cons.1 hu with rfl | hu
          · exact absurd e (lt_ne c)
          · exact q u hu e
      · rintro (⟨p, q⟩ | ⟨p, q⟩)
        · rcases List.mem_cons.1 p with rfl | p
          · exact Or.inl rfl
          · exact Or.inr (Or.inl ⟨p, q⟩)
        · exact Or.inr (Or.inr ⟨p, fun u hu e => q u (by simp [hu]) e⟩)
    · rename_i c
      split
      · rename_i e
        have far : ∀ u ∈ r, u.a ≠ x.a := fun u hu e' => lt_ne (h1 u hu) (e.trans e'.symm)
        split
        · rename_i o
          have o := over_iff.1 o
          rw [List.mem_cons]
          constructor
          · rintro (rfl | p)
            · refine Or.inr ⟨rfl, fun u hu e' => ?_⟩
              rcases List.mem_cons.1 hu with rfl | hu
              · omega
              · exact absurd e' (far u hu)
            · exact Or.inl ⟨by simp [p], fun e' => absurd e' (far z p)⟩
          · rintro (⟨p, q⟩ | ⟨p, q⟩)
            · rcases List.mem_cons.1 p with rfl | p
              · have := q e
                exact Or.inl (ln_ext e (by omega))
              · exact Or.inr p
            · exact Or.inl p
        · rename_i o
          have o : y.lim ≤ x.lim := by
            rcases Int.lt_or_le x.lim y.lim with h | h
            · exact absurd (over_iff.2 (Or.inl h)) o
            · exact h
          rw [List.mem_cons]
          constructor
          · rintro (rfl | p)
            · exact Or.inl ⟨by simp, fun _ => o⟩
            · exact Or.inl ⟨by simp [p], fun e' => absurd e' (far z p)⟩
          · rintro (⟨p, q⟩ | ⟨p, q⟩)
            · first | exact List.mem_cons.1 p | exact p
            · subst p
              have := q y (by simp) e
              exact Or.inl (ln_ext e.symm (by omega))
      · rename_i e
        have c : x.a < y.a := by
          rcases list_tri x.a y.a with h | h | h
          · exact h
          · exact absurd h.symm e
          · exact absurd (cmpL_lt.2 h) c
        have far : ∀ u ∈ y :: r, u.a ≠ x.a := fun u hu e' => by
          rcases List.mem_cons.1 hu with rfl | hu
          · exact e e'
          · exact lt_ne (lt_tr c (h1 u hu)) e'.symm
        rw [List.mem_cons]
        constructor
        · rintro (rfl | p)
          · exact Or.inr ⟨rfl, fun u hu e' => absurd e' (far u hu)⟩
          · exact Or.inl ⟨p, fun e' => absurd e' (far z p)⟩
        · rintro (⟨p, _⟩ | ⟨p, _⟩)
          · exact Or.inr p
          · exact Or.inl p

theorem ins_srt {x : Ln} : ∀ {l : List Ln}, Srt l → Srt (insN x l)
  | [], _ => by simp [insN, Srt]
  | y :: r, hl => by
    obtain ⟨h1, h2⟩ := List.pairwise_cons.1 hl
    unfold insN
    split
    · rename_i c
      have c := cmpL_lt.1 c
      refine List.pairwise_cons.2 ⟨fun z hz => ?_, ins_srt h2⟩
      rcases (ins_mem h2 z).1 hz with ⟨p, _⟩ | ⟨p, _⟩
      · exact h1 z p
      · rw [p]; exact c
    · rename_i c
      split
      · rename_i e
        split
        · exact List.pairwise_cons.2 ⟨fun z hz => by rw [← e]; exact h1 z hz, h2⟩
        · exact hl
      · rename_i e
        have c : x.a < y.a := by
          rcases list_tri x.a y.a with h | h | h
          · exact h
          · exact absurd h.symm e
          · exact absurd (cmpL_lt.2 h) c
        refine List.pairwise_cons.2 ⟨fun z hz => ?_, hl⟩
        rcases List.mem_cons.1 hz with rfl | hz
        · exact c
        · exact lt_tr c (h1 z hz)

def insL (k : List Ln) : List Ln := k.foldl (fun o x => insN x o) []

def BestL (k : List Ln) (z : Ln) : Prop := z ∈ k ∧ ∀ y ∈ k, y.a = z.a → z.lim ≤ y.lim

theorem insL_snoc (k : List Ln) (x : Ln) : insL (k ++ [x]) = insN x (insL k) := by simp [insL, List.foldl_append]

theorem insL_ok (k : List Ln) : Srt (insL k) ∧ ∀ z, z ∈ insL k ↔ BestL k z := by
  suffices h : ∀ n, n ≤ k.length → Srt (insL (k.take n)) ∧ ∀ z, z ∈ insL (k.take n) ↔ BestL (k.take n) z by
    have := h k.length (Nat.le_refl _)
    rwa [List.take_length] at this
  intro n
  induction n with
  | zero => intro _; simp [insL, Srt, BestL]
  | succ n ih =>
    intro hn
    obtain ⟨h1, h2⟩ := ih (by omega)
    rw [List.take_succ_eq_append_getElem (show n < k.length by omega), insL_snoc]
    refine ⟨ins_srt h1, fun z => ?_⟩
    rw [ins_mem h1]
    generalize k[n] = x
    generalize hm : k.take n = m at *
    unfold BestL
    constructor
    · rintro (⟨p, q⟩ | ⟨p, q⟩)
      · obtain ⟨p1, p2⟩ := (h2 z).1 p
        refine ⟨by simp [p1], fun y hy e => ?_⟩
        rcases List.mem_append.1 hy with hy | hy
        · exact p2 y hy e
        · rw [List.mem_singleton] at hy; subst hy; exact q e.symm
      · subst p
        refine ⟨by simp, fun y hy e => ?_⟩
        rcases List.mem_append.1 hy with hy | hy
        · -- the best line with these coefficients stands in the list
          have hb : ∃ u ∈ insL m, u.a = z.a ∧ u.lim ≤ y.lim := by
            clear q hn
            have : ∀ (l : List Ln), (∀ y ∈ l, y ∈ m) → y ∈ l → ∃ u ∈ l, u.a = z.a ∧ u.lim ≤ y.lim ∧ ∀ v ∈ l, v.a = z.a → u.lim ≤ v.lim := by
              intro l
              induction l with
              | nil => intro _ h; simp at h
              | cons v r ihr =>
                intro hs hy
                by_cases hr : ∃ t ∈ r, t.a = z.a
                · obtain ⟨t, ht, et⟩ := hr
                  have best : ∃ u ∈ r, u.a = z.a ∧ ∀ v ∈ r, v.a = z.a → u.lim ≤ v.lim := by
                    clear ihr hs hy
                    induction r generalizing t with
                    | nil => simp at ht
                    | cons a r ihr2 =>
                      by_cases hr : ∃ t ∈ r, t.a = z.a
                      · obtain ⟨t', ht', et'⟩ := hr
                        obtain ⟨u, hu, eu, bu⟩ := ihr2 t' ht' et'
                        by_cases ea : a.a = z.a ∧ a.lim ≤ u.lim
                        · exact ⟨a, by simp, ea.1, fun v hv ev => by
                            rcases List.mem_cons.1 hv with rfl | hv
                            · omega
                            · have := bu v hv ev; omega⟩
                        · exact ⟨u, by simp [hu], eu, fun v hv ev => by
                            rcases List.mem_cons.1 hv with rfl | hv
                            · rcases Int.lt_or_le u.lim v.lim with h | h
                              · omega
                              · exact absurd ⟨ev, h⟩ ea
                            · exact bu v hv ev⟩
                      · have : t = a := by
                          rcases List.mem_cons.1 ht with h | h
                          · exact h
                          · exact absurd ⟨t, h, et⟩ hr
                        subst this
                        exact ⟨t, by simp, et, fun v hv ev => by
                          rcases List.mem_cons.1 hv with rfl | hv
                          · omega
                          · exact absurd ⟨v, hv, ev⟩ hr⟩
                  obtain ⟨u, hu, eu, bu⟩ := best
                  by_cases ev : v.a = z.a ∧ v.lim ≤ u.lim
                  · refine ⟨v, by simp, ev.1, ?_, fun t ht et => ?_⟩
                    · rcases List.mem_cons.1 hy with rfl | hy
                      · omega
                      · have := bu y hy e; omega
                    · rcases List.mem_cons.1 ht with rfl | ht
                      · omega
                      · have := bu t ht et; omega
                  · refine ⟨u, by simp [hu], eu, ?_, fun t ht et => ?_⟩
                    · rcases List.mem_cons.1 hy with rfl | hy
                      · rcases Int.lt_or_le u.lim y.lim with h | h
                        · omega
                        · exact absurd ⟨e, h⟩ ev
                      · exact bu y hy e
                    · rcases List.mem_cons.1 ht with rfl | ht
                      · rcases Int.lt_or_le u.lim t.lim with h | h
                        · omega
                        · exact absurd ⟨et, h⟩ ev
                      · exact bu t ht et
                · have : y = v := by
                    rcases List.mem_cons.1 hy with h | h
                    · exact h
                    · exact absurd ⟨y, h, e⟩ hr
                  subst this
                  exact ⟨y, by simp, e, by omega, fun t ht et => by
                    rcases List.mem_cons.1 ht with rfl | ht
                    · omega
                    · exact absurd ⟨t, ht, et⟩ hr⟩
            obtain ⟨u, hu, eu, bu, b2⟩ := this m (fun _ h => h) hy
            exact ⟨u, (h2 u).2 ⟨hu, fun v hv ev => b2 v hv (ev.trans eu)⟩, eu, bu⟩
          obtain ⟨u, hu, eu, bu⟩ := hb
          have := q u hu eu
          omega
        · rw [List.mem_singleton] at hy; subst hy; omega
    · rintro ⟨p, q⟩
      rcases List.mem_append.1 p with p | p
      · exact Or.inl ⟨(h2 z).2 ⟨p, fun y hy e => q y (by simp [hy]) e⟩, fun e => q x (by simp) e.symm⟩
      · rw [List.mem_singleton] at p
        exact Or.inr ⟨p, fun y hy e => by
          have := q y (by simp [((h2 y).1 hy).1]) (by rw [e, p])
          rw [← p]; exact this⟩

/-- The order by which lines are sorted. -/
def leN (x y : Ln) : Bool := !decide (cmpN y x < 0)

theorem leN_iff {x y : Ln} : leN x y = true ↔ x.a < y.a ∨ (x.a = y.a ∧ x.lim ≤ y.lim) := by
  unfold leN
  rw [Bool.not_eq_true', decide_eq_false_iff_not, cmpN_lt]
  constructor
  · intro h
    rcases list_tri x.a y.a with q | q | q
    · exact Or.inl q
    · right
      refine ⟨q, ?_⟩
      rcases Int.lt_or_le y.lim x.lim with p | p
      · exact absurd (Or.inr ⟨q.symm, p⟩) h
      · exact p
    · exact absurd (Or.inl q) h
  · rintro (h | ⟨h, k⟩) (q | ⟨q, p⟩)
    · exact lt_irr _ (lt_tr h q)
    · exact lt_ne h q.symm
    · exact lt_ne q h.symm
    · omega

theorem srtL_srt (k : List Ln) : (srtL k).Pairwise fun x y => leN x y = true := by
  refine List.pairwise_mergeSort (le := leN) ?_ ?_ k
  · intro a b c h h'
    rw [leN_iff] at h h' ⊢
    rcases h with h | ⟨h, p⟩ <;> rcases h' with h' | ⟨h', p'⟩
    · exact Or.inl (lt_tr h h')
    · exact Or.inl (h' ▸ h)
    · exact Or.inl (h ▸ h')
    · exact Or.inr ⟨h.trans h', by omega⟩
  · intro a b
    rw [Bool.or_eq_true, leN_iff, leN_iff]
    rcases list_tri a.a b.a with q | q | q
    · exact Or.inl (Or.inl q)
    · rcases Int.le_total a.lim b.lim with p | p
      · exact Or.inl (Or.inr ⟨q, p⟩)
      · exact Or.inr (Or.inr ⟨q.symm, p⟩)
    · exact Or.inr (Or.inl q)

theorem cpt_mem {l : List Ln} : ∀ {n : Nat}, n ≤ l.length → ∀ z, z ∈ cptN l n ↔ ∃ t, ∃ h : t < l.length, t < n ∧ z = l[t] ∧ ¬ (0 < t ∧ (l[t]).a = (l.getD (t - 1) ln0).a)
  | 0, _, z => by simp [cptN]
  | n + 1, hn, z => by
    have ih := cpt_mem (l := l) (n := n) (by omega) z
    by_cases c : 0 < n ∧ (l[n]).a = (l.getD (n - 1) ln0).a
    · rw [cptN_drop (by omega) c, ih]
      constructor
      · rintro ⟨t, h, p, q⟩; exact ⟨t, h, by omega, q⟩
      · rintro ⟨t, h, p, q, r⟩
        refine ⟨t, h, ?_, q, r⟩
        rcases Nat.lt_or_ge t n with k | k
        · exact k
        · obtain rfl : t = n := by omega
          exact absurd c r
    · rw [cptN_keep (by omega) c, List.mem_append, ih, List.mem_singleton]
      constructor
      · rintro (⟨t, h, p, q⟩ | p)
        · exact ⟨t, h, by omega, q⟩
        · exact ⟨n, by omega, by omega, p, c⟩
      · rintro ⟨t, h, p, q, r⟩
        rcases Nat.lt_or_ge t n with k | k
        · exact Or.inl ⟨t, h, k, q, r⟩
        · obtain rfl : t = n := by omega
          exact Or.inr q

theorem cpt_srt {l : List Ln} (hl : l.Pairwise fun x y => leN x y = true) : ∀ {n : Nat}, n ≤ l.length → Srt (cptN l n)
  | 0, _ => by simp [cptN, Srt]
  | n + 1, hn => by
    have ih := cpt_srt hl (n := n) (by omega)
    by_cases c : 0 < n ∧ (l[n]).a = (l.getD (n - 1) ln0).a
    · rw [cptN_drop (by omega) c]; exact ih
    · rw [cptN_keep (by omega) c]
      refine List.pairwise_append.2 ⟨ih, by simp, fun z hz y hy => ?_⟩
      rw [List.mem_singleton] at hy
      subst hy
      obtain ⟨t, h, p, rfl, _⟩ := (cpt_mem (by omega) z).1 hz
      have hp := List.pairwise_iff_getElem.1 hl
      have h1 := leN_iff.1 (hp (n - 1) n (by omega) (by omega) (by omega))
      have e1 : l.getD (n - 1) ln0 = l[n - 1] := getD_at (by omega)
      have h1 : l[n - 1].a < l[n].a := by
        rcases h1 with h1 | ⟨h1, _⟩
        · exact h1
        · exact absurd ⟨by omega, by rw [e1]; exact h1.symm⟩ c
      rcases Nat.lt_or_ge t (n - 1) with k | k
      · rcases leN_iff.1 (hp t (n - 1) (by omega) (by omega) k) with q | ⟨q, _⟩
        · exact lt_tr q h1
        · rw [q]; exact h1
      · obtain rfl : t = n - 1 := by omega
        exact h1

theorem cptL_best {k : List Ln} (z : Ln) : z ∈ cptL (srtL k) ↔ BestL k z := by
  have hs := srtL_srt k
  have hp := List.pairwise_iff_getElem.1 hs
  unfold cptL
  rw [cpt_mem (Nat.le_refl _)]
  unfold BestL
  constructor
  · rintro ⟨t, h, _, rfl, c⟩
    refine ⟨srtL_mem.1 (List.getElem_mem _), fun y hy e => ?_⟩
    obtain ⟨j, hj, rfl⟩ := List.getElem_of_mem (srtL_mem.2 hy)
    rcases Nat.lt_trichotomy t j with q | q | q
    · rcases leN_iff.1 (hp t j h hj q) with p | ⟨_, p⟩
      · exact absurd e.symm (lt_ne p)
      · exact p
    · subst q; omega
    · -- an element of the same coefficients ahead: so is the one just ahead
      refine absurd ⟨by omega, ?_⟩ c
      rw [getD_at (show t - 1 < _ by omega)]
      rcases leN_iff.1 (hp (t - 1) t (by omega) h (by omega)) with p | ⟨p, _⟩
      · rcases Nat.lt_or_ge j (t - 1) with r | r
        · rcases leN_iff.1 (hp j (t - 1) hj (by omega) r) with p' | ⟨p', _⟩
          · exact absurd e (lt_ne (lt_tr p' p))
          · rw [← p'] at p; exact absurd e (lt_ne p)
        · obtain rfl : j = t - 1 := by omega
          exact e.symm
      · exact p.symm
  · rintro ⟨p, q⟩
    have hz := srtL_mem.2 p
    have hex : ∃ t, ∃ h : t < (srtL k).length, (srtL k)[t].a = z.a ∧ ∀ j, ∀ hj : j < (srtL k).length, j < t → (srtL k)[j].a ≠ z.a := by
      obtain ⟨j, hj, e⟩ := List.getElem_of_mem hz
      have : ∀ n, ∀ hn : n < (srtL k).length, (srtL k)[n].a = z.a → ∃ t, ∃ h : t < (srtL k).length, (srtL k)[t].a = z.a ∧ ∀ j, ∀ hj : j < (srtL k).length, j < t → (srtL k)[j].a ≠ z.a := by
        intro n
        induction n using Nat.strongRecOn with
        | ind n ih =>
          intro hn en
          by_cases c : ∃ j, ∃ hj : j < (srtL k).length, j < n ∧ (srtL k)[j].a = z.a
          · obtain ⟨j, hj, c1, c2⟩ := c
            exact ih j c1 hj c2
          · exact ⟨n, hn, en, fun j hj hjn e => c ⟨j, hj, hjn, e⟩⟩
      exact this j hj (by rw [e])
    obtain ⟨t, h, e, first⟩ := hex
    refine ⟨t, h, h, ?_, ?_⟩
    · have h1 := q _ (srtL_mem.1 (List.getElem_mem h)) e
      refine ln_ext e.symm ?_
      have h2 : (srtL k)[t].lim ≤ z.lim := by
        obtain ⟨j, hj, ej⟩ := List.getElem_of_mem hz
        rcases Nat.lt_trichotomy t j with r | r | r
        · rcases leN_iff.1 (hp t j h hj r) with p' | ⟨_, p'⟩
          · rw [ej] at p'; exact absurd e (lt_ne p')
          · rw [ej] at p'; exact p'
        · subst r; rw [ej]; omega
        · exact absurd (by rw [ej]) (first j hj r)
      omega
    · rintro ⟨c1, c2⟩
      rw [getD_at (show t - 1 < _ by omega)] at c2
      exact first (t - 1) (by omega) (by omega) (c2.symm.trans e)

/-- By sorting or by insertion: the same list. -/
theorem cpt_ins (k : List Ln) : cptL (srtL k) = insL k :=
  srt_eq (cpt_srt (srtL_srt k) (Nat.le_refl _)) (insL_ok k).1 fun z => (cptL_best z).trans ((insL_ok k).2 z).symm
end Go.Proofs.YtefpaobboimakaaGreat

namespace Go.Proofs.YtefpaobboimakaaGreat
open Go.RowKit

variable {F : Fence} {n : Nat} {P : Program}

/-- A statement, in an activation of the function f. -/
def WpAt (f : FuncId) (F : Fence) (n : Nat) (P : Program) (c : Code) (Q : Exit → Act → World → Prop) (a : Act) (w : World) : Prop :=
  ∀ (b : Frame) (k : List Item) (cs : List Frame), b.fn = f → b.roundOf = F.round → F.fn f → F.room (cs.length + 1 + n) →
    ∃ e a' w', Q e a' w' ∧ ArrivesIn (Machine.fenced P F) P (lone (b.atR a (.code c :: k)) cs w) b k cs e a' w'

theorem wpAt_of_wpIn {f : FuncId} {c : Code} {Q : Exit → Act → World → Prop} {a : Act} {w : World} (h : c.wpIn F n P Q a w) : WpAt f F n P c Q a w :=
  fun b k cs hf hro hb hr => h b k cs hro (hf ▸ hb) hr

theorem wpAt_mono {f : FuncId} {c : Code} {Q Q' : Exit → Act → World → Prop} {a : Act} {w : World} (h : WpAt f F n P c Q a w) (hq : ∀ e a w, Q e a w → Q' e a w) : WpAt f F n P c Q' a w := by
  intro b k cs hf hro hb hr
  obtain ⟨e, a', w', q, r⟩ := h b k cs hf hro hb hr
  exact ⟨e, a', w', hq _ _ _ q, r⟩

theorem wpAt_seq {f : FuncId} {x y : Code} {Q : Exit → Act → World → Prop} {a : Act} {w : World} (h : WpAt f F n P x (Exit.then (fun a w => WpAt f F n P y Q a w) Q) a w) : WpAt f F n P (.seq x y) Q a w := by
  intro b k cs hf hro hb hr
  have s0 : StepsIn (Machine.fenced P F) P (lone (b.atR a (.code (.seq x y) :: k)) cs w) (lone (b.atR a (.code x :: .code y :: k)) cs w) := .one (fenced_calm (by show F.fn b.fn; rw [hf]; exact hb) hr rfl) stepR_seq
  obtain ⟨e, a₁, w₁, hq, harr⟩ := h b (.code y :: k) cs hf hro hb hr
  cases e
  case normal =>
    obtain ⟨e₂, a₂, w₂, hq₂, harr₂⟩ := hq b k cs hf hro hb hr
    exact ⟨e₂, a₂, w₂, hq₂, .of_steps (StepsIn.trans s0 harr) harr₂⟩
  all_goals exact ⟨_, a₁, w₁, hq, .of_steps s0 (.pass (x := .code y) rfl (fun _ _ => .inl (by simp)) harr)⟩

/-- A function's contract from its body, whose activation is known. -/
theorem callsIn_of_wpAt {f : FuncId} {fn : Func} {c : Code} {args : Array Value} {w : World} {R : Ending → World → Prop} (hf : P.funcs[f]? = some fn) (hb : fn.body = some c) (hF : F.fn f) (hro : F.round = none)
    (h : WpAt f F n P c (bodyPostM F n P fn R) { tmps := args ++ Array.replicate (fn.ntmps - args.size) undef, defers := [] } w) : CallsIn F n P f args w R := by
  refine ⟨hF, fun cs hr => ?_⟩
  obtain ⟨b, hb1, hb2, hb3⟩ : ∃ b : Frame, b.fn = f ∧ b.roundOf = none ∧ b.kind = .normal := ⟨{ (default : Frame) with fn := f, kind := .normal, roundOf := none }, rfl, rfl, rfl⟩
  have hen : Frame.enter P f args .normal = b.atR { tmps := args ++ Array.replicate (fn.ntmps - args.size) undef, defers := [] } [.code c] := by
    simp [Frame.enter, Frame.atR, hf, hb, hb1, hb2, hb3]
  have hFb : F.fn b.fn := by rw [hb1]; exact hF
  obtain ⟨e, a', w', hq, harr⟩ := h b [] cs hb1 (hb2.trans hro.symm) hF hr
  rw [← hen] at harr
  have out : ∀ (u : FrameMode) (todo : List Item), StepsIn (Machine.fenced P F) P (lone (Frame.enter P f args .normal) cs w) (lone { b.atR a' todo with mode := u } cs w') → LeavesInM F n P fn a'.tmps R a'.defers u w' →
      ∃ e w' fr, R e w' ∧ ComesIn (Machine.fenced P F) P (lone (Frame.enter P f args .normal) cs w) (lone fr cs w') e ∧ fr.fn = f ∧ fr.leaving P w' e := by
    intro u todo hs hl
    obtain ⟨e', w'', fr', r1, r2, r3, r4⟩ := leaves_stepsInM a'.defers u w' { b.atR a' todo with mode := u } cs rfl rfl rfl (by show P.funcs[b.fn]? = _; rw [hb1]; exact hf) hb3 hFb hr hl
    exact ⟨e', w'', fr', r1, ComesIn.of_steps hs r2, r3.trans hb1, r4⟩
  cases e with
  | normal => exact out .returning [] (StepsIn.trans harr (.one (fenced_calm (fr := b.atR a' []) hFb hr rfl) (stepR_end hb2))) hq
  | ret =>
    obtain ⟨todo, hs⟩ := harr.1 hb2
    exact out .returning todo hs hq
  | panic chain =>
    obtain ⟨todo, hs⟩ := harr
    exact out (.panicking chain) todo hs hq
  | exit id => exact hq.elim
  | goto l => exact hq.elim
  | outgrown => exact ⟨.outgrown, w', b, hq, harr.resolve_left (by simp [hb3]), hb1, trivial⟩

/-- What a round's body must leave: it goes on, or it panics. -/
def roundP (P : Program) (l : Nat) (R : Ending → World → Prop) : Exit → Act → World → Prop
  | .normal, _, w => ∃ v w', (Instr.endRound l none).run P w = .ok v w' ∧ R (.returned v) w'
  | .panic chain, a, w => a.defers = [] ∧ R (.panicked chain) w
  | _, _, _ => False

theorem round_of {l : Nat} {f : FuncId} {fn : Func} {tmps : Array Value} {assign body : Code} {w : World} {R : Ending → World → Prop} (hf : P.funcs[f]? = some fn) (hF : F.fn f)
    (h : assign.wpIn (F.inRound l) n P (Exit.then (fun a₁ w₁ => ∃ w₂, (Instr.beginRound l).run P w₁ = .ok () w₂ ∧ body.wpIn (F.inRound l) n P (roundP P l R) a₁ w₂) (fun _ _ _ => False)) { tmps := tmps, defers := [] } w) :
    RoundIn F n P l f tmps assign body w R := by
  refine ⟨hF, fun c cs hr => ?_⟩
  obtain ⟨b, hb1, hb2, hb3⟩ : ∃ b : Frame, b.fn = f ∧ b.roundOf = some l ∧ b.kind = .normal := ⟨{ (default : Frame) with fn := f, kind := .normal, roundOf := some l }, rfl, rfl, rfl⟩
  have hFb : (F.inRound l).fn b.fn := by rw [hb1]; exact hF
  have hr' : (F.inRound l).room ((c :: cs).length + 1 + n) := hr
  have st : Frame.round l f tmps assign body .normal = b.atR { tmps := tmps, defers := [] } [.code assign, .beginRound, .code body] := by simp [Frame.round, Frame.atR, hb1, hb2, hb3]
  obtain ⟨e, a₁, w₁, hq, harr⟩ := h b [.beginRound, .code body] (c :: cs) hb2 hFb hr'
  rw [← st] at harr
  cases e
  case normal =>
    obtain ⟨w₂, hbr, hbody⟩ := hq
    have s1 : StepsIn (Machine.fenced P (F.inRound l)) P (lone (Frame.round l f tmps assign body .normal) (c :: cs) w) (lone (b.atR a₁ [.code body]) (c :: cs) w₂) :=
      StepsIn.trans harr (.one (fenced_calm (fr := b.atR a₁ [.beginRound, .code body]) hFb hr' rfl) (stepR_beginRound hb2 hbr))
    obtain ⟨e₂, a₂, w₃, hq₂, harr₂⟩ := hbody b [] (c :: cs) hb2 hFb hr'
    cases e₂
    case normal =>
      obtain ⟨v, w₄, hend, hR⟩ := hq₂
      exact ⟨.returned v, w₄, hR, StepsIn.trans s1 (StepsIn.trans harr₂ (.one (fenced_calm (fr := b.atR a₂ []) hFb hr' rfl) (stepR_round_end hb2 hb3 hend)))⟩
    case panic chain =>
      obtain ⟨hd, hR⟩ := hq₂
      obtain ⟨todo, hs⟩ := harr₂
      have hl : ({ b.atR a₂ todo with mode := .panicking chain } : Frame).leaving P w₃ (.panicked chain) := ⟨rfl, hd, fn, by show P.funcs[b.fn]? = _; rw [hb1]; exact hf⟩
      exact ⟨.panicked chain, w₃, hR, StepsIn.trans s1 (StepsIn.trans hs (.one (fenced_leaving (F := F.inRound l) (n := n) (fr := { b.atR a₂ todo with mode := .panicking chain }) hFb hr' hl) (step_leave_panicked hl)))⟩
    all_goals exact hq₂.elim
  all_goals exact hq.elim

/-- Of the blocks in S none has turned. -/
structure Kept (S : Nat → Prop) (A B : World) : Prop where
  os : B.os = A.os
  tape : B.tape = A.tape
  output : B.output = A.output
  size : A.heap.size ≤ B.heap.size
  block : ∀ k, k < A.heap.size → S k → B.heap[k]? = A.heap[k]?

theorem Kept.refl (S : Nat → Prop) (A : World) : Kept S A A := ⟨rfl, rfl, rfl, Nat.le_refl _, fun _ _ _ => rfl⟩

theorem Kept.trans {S : Nat → Prop} {A B C : World} (h : Kept S A B) (k : Kept S B C) : Kept S A C :=
  ⟨k.os.trans h.os, k.tape.trans h.tape, k.output.trans h.output, Nat.le_trans h.size k.size, fun i hi hs => (k.block i (Nat.lt_of_lt_of_le hi h.size) hs).trans (h.block i hi hs)⟩

theorem Kept.mono {S S' : Nat → Prop} {A B : World} (h : Kept S A B) (hs : ∀ k, k < A.heap.size → S' k → S k) : Kept S' A B :=
  ⟨h.os, h.tape, h.output, h.size, fun k hk q => h.block k hk (hs k hk q)⟩

theorem Kept.below {S : Nat → Prop} {A B : World} (h : Kept S A B) (n₀ : Nat) (hn : n₀ ≤ A.heap.size) (hs : ∀ k, k < n₀ → S k) : Below n₀ A B :=
  ⟨h.os, h.tape, h.output, h.size, fun k hk => h.block k (by omega) (hs k hk)⟩

theorem Kept.of_below {A B : World} (h : Below A.heap.size A B) (S : Nat → Prop) : Kept S A B := ⟨h.os, h.tape, h.output, h.size, fun k hk _ => h.block k hk⟩

theorem Kept.putObj {S : Nat → Prop} (A : World) {l : Nat} (o : Obj) (h : ¬ S l) : Kept S A (A.putObj l o) := by
  have g := grownBy_putObj' A l o
  exact ⟨g.os, g.tape, g.output, g.size, fun k hk hs => g.block k hk (fun e => by cases e; exact h hs)⟩

/-- The function gf, called with the yield of whatever loop, hands over xs, one after the other, and returns; or it panics behind them (er). T: the blocks that the rounds may turn. -/
def SeqP {α : Type} (P : Program) (gf : Nat) (lb : Array Value) (encs : α → Array Value) (xs : List α) (er : Option (List PanicEntry)) (W : World) (T0 : Nat → Prop) : Prop :=
  ∀ (l : Nat) (J : List α → (Nat → Prop) → World → Prop) (Jp : List PanicEntry → World → Prop),
    (∀ pre T A B, J pre T A → Kept (fun k => k < W.heap.size ∨ T k) A B → J pre T B) →
    (∀ pre T A, J pre T A → ∀ k, T k → k < A.heap.size) →
    (∀ pre x T A, J pre T A → (pre ++ [x]) <+: xs → YieldAt Fence.wide 8 P l (encs x) A fun e B =>
      (e = .returned (.bool true) ∧ ∃ T', J (pre ++ [x]) T' B ∧ Kept (fun k => ¬ T k) A B ∧ ∀ k, T' k → T k ∨ A.heap.size ≤ k) ∨ (∃ chain, e = .panicked chain ∧ Jp chain B)) →
    J [] T0 W →
    CallsIn Fence.wide 9 P gf (#[.func (.yield l) #[] #[]] ++ lb) W fun e B =>
      (e = .returned (.tuple #[]) ∧ er = none ∧ ∃ T, J xs T B) ∨ (∃ chain, e = .panicked chain ∧ (Jp chain B ∨ (er = some chain ∧ ∃ T, J xs T B)))

/-- The statement, in an activation of a known function. -/
theorem wpAt_range {f : FuncId} {g : Operand} {ps : Array Tmp} {assign body : Code} {Q : Exit → Act → World → Prop} {a : Act} {w : World} {gf : Nat} {lb : Array Value} (hg : a.eval g = .func (.func gf) #[] lb)
    (eg : ∀ args w, (callFunc gf args).run P w = .ok (.enter gf args) w) {l : Nat} {mark : List Deferred} {w₁ : World} (he : (Instr.enterLoop f a.tmps ps assign body none).run P w = .ok (l, mark) w₁)
    (h : CallsIn Fence.wide 9 P gf (#[.func (.yield l) #[] #[]] ++ lb) w₁ fun e w₃ => match e with
      | .returned _ => ∃ w₄, (Instr.endLoop l).run P w₃ = .ok none w₄ ∧ Q .normal { a with defers := mark ++ a.defers } w₄
      | .panicked chain => Q (.panic chain) { a with defers := mark ++ a.defers } w₃
      | .outgrown => False) :
    WpAt f Fence.wide 10 P (.rangeFunc g ps assign body) Q a w := by
  intro b k cs hf hro hb hr
  have hro' : b.roundOf = none := hro
  rw [← hf, ← hro'] at he
  have hres : (resolve a.eval (rangeCall g l) 0).run P w₁ = .ok { target := .fn (.func gf) lb, args := #[.func (.yield l) #[] #[]] } w₁ := by
    simp only [resolve, hg]
    simp [go_sem]
  have hinv : (invoke (.fn (.func gf) lb) #[.func (.yield l) #[] #[]]).run P w₁ = .ok (.enter gf (#[.func (.yield l) #[] #[]] ++ lb)) w₁ := by simp [invoke, go_sem, eg]
  have s1 := stepR_rangeFunc (P := P) (b := b) (a := a) (k := k) (cs := cs) (w := w) he hres hinv
  have S1 : StepsIn (Machine.fenced P Fence.wide) P (lone (b.atR a (.code (.rangeFunc g ps assign body) :: k)) cs w) _ := .one (fenced_wide P _) s1
  obtain ⟨e, w₃, fr, hR, hs, _, hlv⟩ := h.2 (b.atR { a with defers := mark ++ a.defers } (.inRangeFunc l :: k) :: cs) (fun d hd => by cases hd)
  cases e with
  | returned v =>
    obtain ⟨w₄, hend, hq⟩ := hR
    refine ⟨.normal, _, w₄, hq, StepsIn.trans S1 (StepsIn.trans hs (.head (fenced_wide P _) (step_leave_returned hlv) ?_))⟩
    rw [finish_atR_inRangeFunc]
    exact .one (fenced_wide P _) (stepR_endRangeFunc hend)
  | panicked chain =>
    refine ⟨.panic chain, _, w₃, hR, .inRangeFunc l :: k, StepsIn.trans S1 (StepsIn.trans hs (.one (fenced_wide P _) ?_))⟩
    rw [← Frame.raise_atR]
    exact step_leave_panicked hlv
  | outgrown => exact hR.elim

/-- A LOOP OVER A FUNCTION WHOSE ROUNDS MAY PANIC. I: what holds between two rounds (T: the blocks that the rounds have for their own); Ax: what the assignment to the loop's variables leaves. -/
theorem wpAt_rangeP {α : Type} {f : FuncId} {fn : Func} (hf : P.funcs[f]? = some fn) {g : Operand} {ps : Array Tmp} {assign body : Code} {Q : Exit → Act → World → Prop} {a : Act} {w : World} {gf : Nat} {lb : Array Value} (hg : a.eval g = .func (.func gf) #[] lb)
    (eg : ∀ args w, (callFunc gf args).run P w = .ok (.enter gf args) w) {encs : α → Array Value} {xs : List α} {er : Option (List PanicEntry)} (hps : ∀ x, (encs x).size = ps.size)
    (I : List α → (Nat → Prop) → World → Prop) (Ip : List PanicEntry → World → Prop) (Ax : List α → α → (Nat → Prop) → Act → World → Prop) (T0 : Nat → Prop)
    (hst : ∀ pre T A B, I pre T A → Kept (fun k => k < w.heap.size ∨ T k) A B → I pre T B)
    (hsA : ∀ pre x T a' A B, Ax pre x T a' A → Kept (fun k => k < w.heap.size ∨ T k) A B → Ax pre x T a' B)
    (hT : ∀ pre T A, I pre T A → ∀ k, T k → k < A.heap.size) (h0 : I [] T0 w)
    (hseq : ∀ W, Kept (fun _ => True) w W → W.heap.size = w.heap.size + 2 → SeqP P gf lb encs xs er W (fun k => T0 k ∨ k = w.heap.size + 1))
    (hassign : ∀ l pre x T A (K : Act → World → Prop), I pre T A → (pre ++ [x]) <+: xs → (∀ a' B T', Ax pre x T' a' B → Kept (fun _ => True) A B → (∀ k, T' k → T k ∨ A.heap.size ≤ k) → K a' B) →
      assign.wpIn (Fence.wide.inRound l) 8 P (Exit.then K (fun _ _ _ => False)) { tmps := (ps.zip (encs x)).foldl (fun t (p, v) => t.setIfInBounds p v) a.tmps, defers := [] } A)
    (hbody : ∀ l pre x T a' A, Ax pre x T a' A → (pre ++ [x]) <+: xs → body.wpIn (Fence.wide.inRound l) 8 P (fun e a'' B => match e with
        | .normal => ∃ T', I (pre ++ [x]) T' B ∧ Kept (fun k => ¬ T k) A B ∧ ∀ k, T' k → T k ∨ A.heap.size ≤ k
        | .panic chain => a''.defers = [] ∧ Ip chain B ∧ Kept (fun k => ¬ T k) A B
        | _ => False) a' A)
    (hdone : ∀ T B, er = none → I xs T B → B.heap[w.heap.size]? = some (.deferred (some [])) → Q .normal { a with defers := { target := .collected w.heap.size, args := #[] } :: a.defers } B)
    (hpan : ∀ chain B, Ip chain B → B.heap[w.heap.size]? = some (.deferred (some [])) → Q (.panic chain) { a with defers := { target := .collected w.heap.size, args := #[] } :: a.defers } B)
    (hown : ∀ chain T B, er = some chain → I xs T B → B.heap[w.heap.size]? = some (.deferred (some [])) → Q (.panic chain) { a with defers := { target := .collected w.heap.size, args := #[] } :: a.defers } B) :
    WpAt f Fence.wide 10 P (.rangeFunc g ps assign body) Q a w := by
  obtain ⟨rec, hrec⟩ : ∃ rec : LoopState → Option Code → Loop, rec = fun st pe => { state := st, pending := pe, fn := f, tmps := a.tmps, params := ps, assign := assign, body := body, defers := w.heap.size } := ⟨_, rfl⟩
  obtain ⟨W, hW⟩ : ∃ W, W = (w.alloc (.deferred (some []))).alloc (.loop (rec .ready none)) := ⟨_, rfl⟩
  have zW : W.heap.size = w.heap.size + 2 := by rw [hW]; simp
  have eL : W.heap[w.heap.size + 1]? = some (.loop (rec .ready none)) := by
    rw [hW]; have := World.alloc_heap_new (w.alloc (.deferred (some []))) (.loop (rec .ready none)); rwa [World.size_alloc] at this
  have eD : W.heap[w.heap.size]? = some (.deferred (some [])) := by
    rw [hW]; exact (Below.heap_alloc _ _ _ (by simp)).trans (World.alloc_heap_new w _)
  have kW : Kept (fun _ => True) w W := by
    rw [hW]; exact Kept.of_below (((Below.refl _ w).alloc (Nat.le_refl _) _).alloc (by simp) _) _
  have hen : (Instr.enterLoop f a.tmps ps assign body none).run P w = .ok (w.heap.size + 1, [{ target := .collected w.heap.size, args := #[] }]) W := by
    rw [hW, hrec]; exact run_enterLoop_outer _ _ _ _ _
  -- between two rounds: the loop's record is ready, the block for deferred calls is open
  let J : List α → (Nat → Prop) → World → Prop := fun pre T A => ∃ T1, I pre T1 A ∧ (∀ k, T1 k → T k) ∧ (∀ k, T k → k < A.heap.size) ∧ T (w.heap.size + 1) ∧ ¬ T1 (w.heap.size + 1) ∧ ¬ T w.heap.size ∧ A.heap[w.heap.size + 1]? = some (.loop (rec .ready none)) ∧ A.heap[w.heap.size]? = some (.deferred (some []))
  let Jp : List PanicEntry → World → Prop := fun chain A => Ip chain A ∧ A.heap[w.heap.size]? = some (.deferred (some []))
  have lt0 := hT _ _ _ h0
  refine wpAt_range hg eg hen (CallsIn.mono (hseq W kW zW (w.heap.size + 1) J Jp ?_ (fun pre T A h => h.choose_spec.2.2.1) ?_ ?_) ?_)
  · rintro pre T A B ⟨T1, i1, i2, i3, i4, i5, i6, i7, i8⟩ hk
    have lA : w.heap.size + 1 < A.heap.size := i3 _ i4
    exact ⟨T1, hst _ _ _ _ i1 (hk.mono fun k _ q => q.elim (fun q => Or.inl (by omega)) (fun q => Or.inr (i2 k q))), i2, fun k q => Nat.lt_of_lt_of_le (i3 k q) hk.size, i4, i5, i6,
      (hk.block _ lA (Or.inr i4)).trans i7, (hk.block _ (by omega) (Or.inl (by omega))).trans i8⟩
  · rintro pre x T A ⟨T1, i1, i2, i3, i4, i5, i6, i7, i8⟩ hpx
    have lA : w.heap.size + 1 < A.heap.size := i3 _ i4
    have hy := run_yield (P := P) (args := encs x) i7 (by rw [hrec]; exact hps x)
    rw [hrec] at hy
    refine ⟨f, _, assign, body, hy, round_of hf trivial (hassign _ pre x T1 A _ i1 hpx ?_)⟩
    clear hy
    intro a' B T2 hax hkB hT2
    have lB : w.heap.size + 1 < B.heap.size := Nat.lt_of_lt_of_le lA hkB.size
    have j7 := (hkB.block _ lA trivial).trans i7
    have j8 := (hkB.block _ (by omega) trivial).trans i8
    have n2 : ¬ T2 (w.heap.size + 1) := fun q => (hT2 _ q).elim i5 (by omega)
    have n3 : ¬ T2 w.heap.size := fun q => (hT2 _ q).elim (fun q => i6 (i2 _ q)) (by omega)
    refine ⟨_, run_beginRound j7 (by rw [hrec]), ?_⟩
    obtain ⟨C, hC⟩ : ∃ C, C = B.putObj (w.heap.size + 1) (.loop { rec .ready none with state := .busy }) := ⟨_, rfl⟩
    rw [← hC]
    have kC : Kept (fun k => k < w.heap.size ∨ T2 k) B C := by
      rw [hC]; exact Kept.putObj B _ (fun q => q.elim (by omega) n2)
    have zC : C.heap.size = B.heap.size := by rw [hC]; simp
    have c7 : C.heap[w.heap.size + 1]? = some (.loop { rec .ready none with state := .busy }) := by rw [hC]; exact World.putObj_heap_same lB
    have c8 : C.heap[w.heap.size]? = some (.deferred (some [])) := by rw [hC]; exact (World.putObj_heap_other (by omega)).trans j8
    have kBC : Kept (fun k => ¬ T k) B C := by rw [hC]; exact Kept.putObj B _ (fun q => q i4)
    refine wpIn_mono (hbody _ pre x T2 a' C (hsA _ _ _ _ _ _ hax kC) hpx) ?_
    rintro e a3 E hp
    cases e with
    | normal =>
      obtain ⟨T3, t1, t2, t3⟩ := hp
      have e7 := (t2.block _ (by omega) n2).trans c7
      have e8 := (t2.block _ (by omega) n3).trans c8
      have lE : w.heap.size + 1 < E.heap.size := by have := t2.size; omega
      have hend := run_endRound (P := P) none e7
      have m3 : ¬ T3 (w.heap.size + 1) := fun q => (t3 _ q).elim n2 (by omega)
      have m4 : ¬ T3 w.heap.size := fun q => (t3 _ q).elim n3 (by omega)
      have lt3 := hT _ _ _ t1
      refine ⟨_, _, hend, Or.inl ⟨rfl, fun k => T3 k ∨ T k, ⟨T3, ?_, fun k q => Or.inl q, ?_, Or.inr i4, m3, fun q => q.elim m4 i6, ?_, (World.putObj_heap_other (by omega)).trans e8⟩, ?_, ?_⟩⟩
      · exact hst _ _ _ _ t1 (Kept.putObj E _ (fun q => q.elim (by omega) m3))
      · rintro k (q | q)
        · have := lt3 k q; simpa using this
        · have := i3 k q; have := hkB.size; have := t2.size; simp; omega
      · rw [World.putObj_heap_same lE]; rw [hrec]; rfl
      · have k1 : Kept (fun k => ¬ T k) A B := hkB.mono fun _ _ _ => trivial
        have k2 : Kept (fun k => ¬ T k) E (E.putObj (w.heap.size + 1) (.loop { rec .ready none with state := if (none : Option Code).isNone then .ready else .done, pending := none })) := Kept.putObj E _ (fun q => q i4)
        have k3 : Kept (fun k => ¬ T k ∧ k < A.heap.size) C E := t2.mono fun k _ q => fun q' => (hT2 k q').elim (fun r => q.1 (i2 k r)) (by omega)
        refine ⟨k2.os.trans (k3.os.trans (kBC.os.trans k1.os)), k2.tape.trans (k3.tape.trans (kBC.tape.trans k1.tape)), k2.output.trans (k3.output.trans (kBC.output.trans k1.output)), Nat.le_trans k1.size (Nat.le_trans kBC.size (Nat.le_trans k3.size k2.size)), fun k hk hn => ?_⟩
        have a1 := k1.block k hk hn
        have a2 := kBC.block k (Nat.lt_of_lt_of_le hk k1.size) hn
        have a3 := k3.block k (Nat.lt_of_lt_of_le (Nat.lt_of_lt_of_le hk k1.size) kBC.size) ⟨hn, hk⟩
        have a4 := k2.block k (Nat.lt_of_lt_of_le (Nat.lt_of_lt_of_le (Nat.lt_of_lt_of_le hk k1.size) kBC.size) k3.size) hn
        exact a4.trans (a3.trans (a2.trans a1))
      · rintro k (q | q)
        · rcases t3 k q with r | r
          · exact (hT2 k r).elim (fun r => Or.inl (i2 k r)) Or.inr
          · have := hkB.size; right; omega
        · exact Or.inl q
    | panic chain =>
      obtain ⟨hd, t1, t2⟩ := hp
      exact ⟨hd, Or.inr ⟨chain, rfl, t1, (t2.block _ (by omega) n3).trans c8⟩⟩
    | ret => exact hp.elim
    | exit id => exact hp.elim
    | goto t => exact hp.elim
    | outgrown => exact hp.elim
  · refine ⟨T0, hst _ _ _ _ h0 (kW.mono fun _ _ _ => trivial), fun k q => Or.inl q, ?_, Or.inr rfl, fun q => ?_, ?_, eL, eD⟩
    · rintro k (q | q)
      · have := lt0 k q; omega
      · omega
    · have := lt0 _ q; omega
    · rintro (q | q)
      · have := lt0 _ q; omega
      · omega
  · rintro e B (⟨rfl, her, T, T1, i1, _, i3, i4, i5, i6, i7, i8⟩ | ⟨chain, rfl, (⟨p1, p2⟩ | ⟨her, T, T1, i1, _, _, _, _, _, i7, i8⟩)⟩)
    · have lB : w.heap.size + 1 < B.heap.size := i3 _ i4
      have hend := run_endLoop (P := P) i7 (by rw [hrec]; simp)
      rw [show (rec .ready none).pending = none by rw [hrec]] at hend
      refine ⟨_, hend, hdone T1 _ her (hst _ _ _ _ i1 (Kept.putObj B _ (fun q => q.elim (by omega) i5))) ((World.putObj_heap_other (by omega)).trans i8)⟩
    · exact hpan _ _ p1 p2
    · exact hown _ _ _ her i1 i8
end Go.Proofs.YtefpaobboimakaaGreat
