/- What all contracts have in common: calls that return a value and leave all memory from before as it was; cells and blocks of two integers behind such calls. Nothing of the program is named here.; Lines of layer 7 in memory; commonDivisor of package poly.; Contracts of package poly: times, plus, lowest, opposite. -/
import Derived.Test.YtbhaoaobhgilkaaGreatRows
import Derived.WalkKit
import Derived.WalkSpells
import Derived.WalkLawsBesides
import Derived.Deep.QuietTactic
import Derived.BigQuiet
import Derived.Deep.RegionHeld3
import Derived.Lib.Hide
import Derived.Laws.EntriesVeiled
import Derived.Deep.WholeRow
import Derived.Deep.MidRow
import Derived.Deep.DeepCutAuto
import Derived.StillTailTactics

namespace Go.Proofs.YtbhaoaobhgilkaaGreat
open Go.RowKit

def I64 (x : Int) : Prop := -9223372036854775808 ≤ x ∧ x ≤ 9223372036854775807

theorem ret_int {k : IntKind} {a b : Int} (h : a = b) : Ending.returned (.int k a) = .returned (.int k b) := by rw [h]

def Drawn (v : Value) (w : World) (e : Ending) (w' : World) : Prop := e = .returned v ∧ ∃ n, w' = w.drewN n

def Made (v : Value) (w : World) (e : Ending) (w' : World) : Prop := e = .returned v ∧ Below w.heap.size w w'

theorem bcell {B : Nat} {W w1 : World} (hb : Below B W w1) : (∀ b o, b < B → w1.cell? ⟨b, o, none⟩ = W.cell? ⟨b, o, none⟩) ∧ (∀ b o, b < B → w1.frozen? ⟨b, o, none⟩ = W.frozen? ⟨b, o, none⟩) :=
  ⟨fun b o h => hb.cell (p := ⟨b, o, none⟩) h, fun b o h => hb.frozen (p := ⟨b, o, none⟩) h⟩

theorem ret_bool {a b : Bool} (h : a = b) : Ending.returned (.bool a) = .returned (.bool b) := by rw [h]

theorem two_below {w w1 : World} (hb : Below w.heap.size w w1) (n : Nat) (x y : Value) : Below w.heap.size w (((w1.drewN n).setCell ⟨w.heap.size, 0, none⟩ x).setCell ⟨w.heap.size, 1, none⟩ y) :=
  ((below_drewN hb n).setCell (Nat.le_refl _) x).setCell (Nat.le_refl _) y

theorem past_one {w w1 : World} {o : Obj} (hb : Below (w.alloc o).heap.size (w.alloc o) w1) : Below w.heap.size w w1 :=
  ((Below.refl _ _).alloc (Nat.le_refl _) o).trans (hb.mono (by simp))

theorem past_two {w w1 : World} {o1 o2 : Obj} (hb : Below ((w.alloc o1).alloc o2).heap.size ((w.alloc o1).alloc o2) w1) : Below w.heap.size w w1 :=
  past_one (past_one hb)

theorem past_three {w w1 : World} {o1 o2 o3 : Obj} (hb : Below (((w.alloc o1).alloc o2).alloc o3).heap.size (((w.alloc o1).alloc o2).alloc o3) w1) : Below w.heap.size w w1 :=
  past_one ((past_one ((past_one hb))))

theorem below_on {X w1 w2 : World} (hb : Below X.heap.size X w1) (hb2 : Below w1.heap.size w1 w2) : Below X.heap.size X w2 := hb.trans (hb2.mono hb.size)

theorem ret_two {k1 k2 : IntKind} {a b c d : Int} (h : a = b) (g : c = d) : Ending.returned (.tuple #[.int k1 a, .int k2 c]) = .returned (.tuple #[.int k1 b, .int k2 d]) := by rw [h, g]

theorem wrap_in (x : Int) (h1 : -9223372036854775808 ≤ x) (h2 : x ≤ 9223372036854775807) : IntKind.i64.wrap x = x := by
  simp [IntKind.wrap, IntKind.bits, IntKind.signed]
  omega

theorem w64min : wrap64 9223372036854775808 = -9223372036854775808 := by unfold wrap64; omega

theorem kept {w1 w2 : World} (hb : Below w1.heap.size w1 w2) {p : Addr} {v : Value} (h : w1.cell? p = some v) : w2.cell? p = some v := by
  rw [hb.cell (World.block_lt_of_cell? w1 _ h)]; exact h

theorem one_more {w1 : World} (o : Obj) : Below w1.heap.size w1 (w1.alloc o) := (Below.refl _ _).alloc (Nat.le_refl _) o

def Cell (w : World) (p : Addr) (v : Value) : Prop := w.cell? p = some v ∧ w.frozen? p = false

theorem Cell.lt {w : World} {p : Addr} {v : Value} (h : Cell w p v) : p.block < w.heap.size := World.block_lt_of_cell? w _ h.1

theorem Cell.kept {w w' : World} {p : Addr} {v : Value} (h : Cell w p v) (hb : Below w.heap.size w w') : Cell w' p v :=
  ⟨by rw [hb.cell h.lt]; exact h.1, by rw [hb.frozen h.lt]; exact h.2⟩

theorem Cell.same {w : World} {p : Addr} {v : Value} (h : Cell w p v) (x : Value) : Cell (w.setCell p x) p x :=
  ⟨World.cell?_setCell_same _ _ _ h.1, by rw [World.frozen?_setCell]; exact h.2⟩

theorem Cell.other {w : World} {p q : Addr} {v : Value} (h : Cell w q v) (hne : p ≠ q) (x : Value) : Cell (w.setCell p x) q v :=
  ⟨(World.cell?_setCell_other _ _ _ _ hne).trans h.1, by rw [World.frozen?_setCell]; exact h.2⟩

def Pair (w : World) (b : Nat) (x y : Int) : Prop := Cell w ⟨b, 0, none⟩ (.int .i64 x) ∧ Cell w ⟨b, 1, none⟩ (.int .i64 y)

theorem Pair.lt {w : World} {b : Nat} {x y : Int} (h : Pair w b x y) : b < w.heap.size := h.1.lt

theorem Pair.kept {w w' : World} {b : Nat} {x y : Int} (h : Pair w b x y) (hb : Below w.heap.size w w') : Pair w' b x y := ⟨h.1.kept hb, h.2.kept hb⟩

theorem Pair.made (w : World) (x y : Int) (t : TypeId) : Pair (w.alloc (.cells #[.int .i64 x, .int .i64 y] t)) w.heap.size x y :=
  ⟨⟨by go_simp, by go_simp⟩, ⟨by go_simp, by go_simp⟩⟩

theorem Pair.alloc {w : World} {b : Nat} {x y : Int} (h : Pair w b x y) (o : Obj) : Pair (w.alloc o) b x y := h.kept (one_more o)

theorem Pair.put {w : World} {b : Nat} {x y : Int} (h : Pair w b x y) (x' y' : Int) : Pair ((w.setCell ⟨b, 0, none⟩ (.int .i64 x')).setCell ⟨b, 1, none⟩ (.int .i64 y')) b x' y' :=
  ⟨((h.1.same _).other (by simp) _), ((h.2.other (by simp) _).same _)⟩

theorem Pair.aside {w : World} {b b' : Nat} {x y : Int} (h : Pair w b x y) (hne : b' ≠ b) (x' y' : Value) : Pair ((w.setCell ⟨b', 0, none⟩ x').setCell ⟨b', 1, none⟩ y') b x y :=
  ⟨((h.1.other (fun e => hne (congrArg Addr.block e)) _).other (fun e => hne (congrArg Addr.block e)) _), ((h.2.other (fun e => hne (congrArg Addr.block e)) _).other (fun e => hne (congrArg Addr.block e)) _)⟩

theorem Pair.facts {w : World} {b : Nat} {x y : Int} (h : Pair w b x y) : w.cell? ⟨b, 0, none⟩ = some (.int .i64 x) ∧ w.cell? ⟨b, 1, none⟩ = some (.int .i64 y) ∧ w.frozen? ⟨b, 0, none⟩ = false ∧ w.frozen? ⟨b, 1, none⟩ = false :=
  ⟨h.1.1, h.2.1, h.1.2, h.2.2⟩

theorem below_put {w w1 : World} (hb : Below w.heap.size w w1) {b : Nat} (hB : w.heap.size ≤ b) (x y : Value) : Below w.heap.size w ((w1.setCell ⟨b, 0, none⟩ x).setCell ⟨b, 1, none⟩ y) :=
  (hb.setCell hB x).setCell hB y

end Go.Proofs.YtbhaoaobhgilkaaGreat

namespace Go.Proofs.YtbhaoaobhgilkaaGreat
open Go.RowKit

structure Ln where
  a : List Int
  b : Int
  s : Bool
deriving DecidableEq

def gA (a : List Int) (k : Nat) : Int := a.getD k 0

def Ln.cells (x : Ln) : List Value := x.a.map (Value.int .i64) ++ [.int .i64 x.b, .bool x.s]

def Ln.cs (x : Ln) : Array Value := ⟨x.cells⟩

theorem Ln.cells_len {x : Ln} (h : x.a.length = 6) : x.cells.length = 8 := by simp [Ln.cells, h]

theorem Ln.size {x : Ln} (h : x.a.length = 6) : x.cs.size = 8 := by simp [Ln.cs, Ln.cells, h]

theorem Ln.one (x : Ln) : x.cs.all (·.oneCell') = true := by
  rw [Array.all_eq_true_iff_forall_mem]
  intro v hv
  simp [Ln.cs, Ln.cells] at hv
  rcases hv with ⟨y, _, rfl⟩ | rfl | rfl <;> rfl

def ln0 : Ln := ⟨[0, 0, 0, 0, 0, 0], 0, false⟩

def Bk (w : World) (b : Nat) (x : Ln) : Prop := w.heap[b]? = some (.cells x.cs 82 (0, 0)) ∧ x.a.length = 6

theorem Bk.lt {w : World} {b : Nat} {x : Ln} (h : Bk w b x) : b < w.heap.size := by
  by_cases e : b < w.heap.size
  · exact e
  · have := h.1; rw [Array.getElem?_eq_none (by omega)] at this; cases this

theorem Bk.cell {w : World} {b : Nat} {x : Ln} (h : Bk w b x) (j : Nat) : w.cell? ⟨b, j, none⟩ = x.cells[j]? := by rw [cell_of_row w b j _ _ _ h.1]; simp [Ln.cs]

theorem Bk.at {w : World} {b : Nat} {x : Ln} (h : Bk w b x) {j : Nat} (hj : j < 6) : w.cell? ⟨b, j, none⟩ = some (.int .i64 (gA x.a j)) := by
  have l := h.2
  rw [h.cell]; simp [Ln.cells, gA, List.getElem?_append, l, hj]

theorem Bk.num {w : World} {b : Nat} {x : Ln} (h : Bk w b x) : w.cell? ⟨b, 6, none⟩ = some (.int .i64 x.b) := by
  have l := h.2
  rw [h.cell]; simp [Ln.cells, l]

theorem Bk.str {w : World} {b : Nat} {x : Ln} (h : Bk w b x) : w.cell? ⟨b, 7, none⟩ = some (.bool x.s) := by
  have l := h.2
  rw [h.cell]; simp [Ln.cells, l]

theorem Bk.free {w : World} {b : Nat} {x : Ln} (h : Bk w b x) (j : Nat) : w.frozen? ⟨b, j, none⟩ = false := frozen_of_row w b j _ _ h.1

theorem Bk.put {w : World} {b : Nat} {x : Ln} (h : Bk w b x) {j : Nat} (hj : j < 6) (v : Int) : Bk (w.setCell ⟨b, j, none⟩ (.int .i64 v)) b { x with a := x.a.set j v } := by
  have l := h.2
  refine ⟨?_, by simpa using l⟩
  rw [heap_setCell_same w b _ _ _ _ h.1]
  congr 2
  simp [Ln.cs, Ln.cells, List.map_set, l, hj]

theorem Bk.putb {w : World} {b : Nat} {x : Ln} (h : Bk w b x) (v : Int) : Bk (w.setCell ⟨b, 6, none⟩ (.int .i64 v)) b { x with b := v } := by
  have l := h.2
  refine ⟨?_, l⟩
  rw [heap_setCell_same w b _ _ _ _ h.1]
  congr 2
  simp [Ln.cs, Ln.cells, l]

theorem Bk.puts {w : World} {b : Nat} {x : Ln} (h : Bk w b x) (v : Bool) : Bk (w.setCell ⟨b, 7, none⟩ (.bool v)) b { x with s := v } := by
  have l := h.2
  refine ⟨?_, l⟩
  rw [heap_setCell_same w b _ _ _ _ h.1]
  congr 2
  simp [Ln.cs, Ln.cells, l]

theorem Bk.of_block {w w' : World} {b : Nat} {x : Ln} (h : Bk w b x) (e : w'.heap[b]? = w.heap[b]?) : Bk w' b x := ⟨e.trans h.1, h.2⟩

theorem Bk.kept {w w' : World} {b : Nat} {x : Ln} (h : Bk w b x) (hb : Below w.heap.size w w') : Bk w' b x := h.of_block (hb.block b h.lt)

theorem Bk.aside {w : World} {b : Nat} {x : Ln} (h : Bk w b x) {y j : Nat} (hne : b ≠ y) (v : Value) : Bk (w.setCell ⟨y, j, none⟩ v) b x := h.of_block (heap_setCell_other w ⟨y, j, none⟩ b v hne)

theorem Bk.alloc {w : World} {b : Nat} {x : Ln} (h : Bk w b x) (o : Obj) : Bk (w.alloc o) b x := h.kept (one_more o)

theorem Bk.made (w : World) (x : Ln) (h : x.a.length = 6) : Bk (w.alloc (.cells x.cs 82)) w.heap.size x := ⟨heap_alloc_last w _, h⟩

theorem Bk.setRow {w : World} {b : Nat} {x y : Ln} (h : Bk w b x) (hy : y.a.length = 6) : Bk (w.setRow b y.cs) b y := ⟨setRow_heap w b _ _ _ _ h.1, hy⟩

theorem Bk.setAside {w : World} {b y : Nat} {x : Ln} (h : Bk w b x) (hne : b ≠ y) (cs : Array Value) : Bk (w.setRow y cs) b x := h.of_block (setRow_other w y b cs hne)

theorem Below.setRow {B : Nat} {w w' : World} (h : Below B w w') {b : Nat} (hle : B ≤ b) (cs : Array Value) : Below B w (w'.setRow b cs) :=
  ⟨h.os, h.tape, h.output, by simpa using h.size, fun k hk => (setRow_other w' b k cs (by omega)).trans (h.block k hk)⟩

theorem ln_info : (Tryz.prog.info? 82).map (fun i => (i.zero, i.size)) = some (some (.agg ln0.cs), 8) := by kernel_rfl

theorem ln_size : (Tryz.prog.info? 82).map (·.size) = some 8 := (zero_of_info ln_info).2

theorem ln_zero (w : World) : (zeroValue 82).run Tryz.prog w = .ok (.agg ln0.cs) w := (zero_of_info ln_info).1 w

theorem ln_load {w : World} {b : Nat} {x : Ln} (h : Bk w b x) : (loadVar 82 ⟨b, 0, none⟩).run Tryz.prog w = .ok (.agg x.cs) w :=
  run_loadVar_row w b _ _ x.cs (0, 0) _ h.1 Tryz.underlying82 rfl (by rw [Ln.size h.2]; exact ln_size)

theorem wpl_load {ops : Array Oper} {rest : List Oper} {o : Oper} {a : Act} {w : World} {Q : Exit → Act → World → Prop} (hgd : o.guard = none) (x : Operand) (ho : o.op = .load 82 x)
    (b : Nat) (hx : a.eval x = .pointer (some ⟨b, 0, none⟩)) (y : Ln) (hv : Bk w b y) (h : wpList Tryz.prog ops Q rest (a.put o.dst (.agg y.cs)) w) : wpList Tryz.prog ops Q (o :: rest) a w :=
  wpList_load_row hgd _ x ho b hx _ y.cs (0, 0) _ hv.1 Tryz.underlying82 rfl (by rw [Ln.size hv.2]; exact ln_size) h

theorem wpl_store {ops : Array Oper} {rest : List Oper} {o : Oper} {a : Act} {w : World} {Q : Exit → Act → World → Prop} (hgd : o.guard = none) (x y : Operand) (ho : o.op = .store 82 x y)
    (b : Nat) (z : Ln) (hx : a.eval x = .pointer (some ⟨b, 0, none⟩)) (hy : a.eval y = .agg z.cs) (old : Ln) (hv : Bk w b old) (hz : z.a.length = 6)
    (h : wpList Tryz.prog ops Q rest (a.put o.dst undef) (w.setRow b z.cs)) : wpList Tryz.prog ops Q (o :: rest) a w :=
  wpList_store_row hgd _ x y ho b z.cs hx hy _ old.cs hv.1 (by rw [Ln.size hz]; exact ln_size) (by rw [Ln.size hv.2, Ln.size hz]) z.one h

theorem results_ln {fn : Func} {p : Tmp} (h : fn.results = #[.cell p 82]) (tmps : Array Value) {w : World} {b : Nat} {x : Ln}
    (hp : tmps.getD p undef = .pointer (some ⟨b, 0, none⟩)) (hv : Bk w b x) : (results fn tmps).run Tryz.prog w = .ok (.agg x.cs) w := by
  have hp' : tmps[p]?.getD undef = .pointer (some ⟨b, 0, none⟩) := by simpa using hp
  simp [results, h, hp', asAddr, ln_load hv]

def imax (x y : Int) : Int := max x y

theorem run_imax (x y : Int) (ts : Array TypeId) (t : TypeId) (W : World) : (Builtin.max_ ts t #[.int .i64 x, .int .i64 y]).run Tryz.prog W = .ok (.int .i64 (imax x y)) W := by
  rw [run_max_int2]; unfold imax
  congr 2
  split
  · rw [Int.max_eq_right (by omega)]
  · rw [Int.max_eq_left (by omega)]

def A63 (x : Int) : Prop := -9223372036854775807 ≤ x ∧ x ≤ 9223372036854775807

theorem gcd_step (a b : Int) : Int.gcd b (a.tmod b) = Int.gcd a b := by
  rw [Int.gcd_comm a b]
  simp only [Int.gcd, Int.natAbs_tmod]
  rw [Nat.gcd_comm b.natAbs (a.natAbs % b.natAbs), ← Nat.gcd_rec]

theorem gcd_last (a : Int) : imax a (-a) = (Int.gcd a 0 : Int) := by
  simp only [Int.gcd, Int.natAbs_zero, Nat.gcd_zero_right]
  unfold imax
  rcases Int.le_total 0 a with h | h
  · rw [Int.max_eq_left (by omega)]; omega
  · rw [Int.max_eq_right (by omega)]; omega

theorem tmod_a63 {a b : Int} (hb : A63 b) (h0 : b ≠ 0) : A63 (a.tmod b) ∧ (a.tmod b).natAbs < b.natAbs := by
  have h : (a.tmod b).natAbs < b.natAbs := by rw [Int.natAbs_tmod]; exact Nat.mod_lt _ (by omega)
  unfold A63 at *
  exact ⟨by omega, h⟩

set_option maxRecDepth 20000 in
set_option maxHeartbeats 1000000 in
theorem pgcd_any (a b : Int) (w : World) (ha : A63 a) (hb : A63 b) :
    Calls Tryz.prog 120 #[.int .i64 a, .int .i64 b] w (Drawn (.int .i64 (Int.gcd a b)) w) := by
  obtain ⟨G, hG⟩ : ∃ G, G = Int.gcd a b := ⟨_, rfl⟩
  rw [← hG]
  go_enter Tryz.func120, Tryz.ntmps120
  go_wp2_with fail
  go_loopw [0, 1] (fun p q wr => ∃ x y : Int, p = .int .i64 x ∧ q = .int .i64 y ∧ Hid (A63 x ∧ A63 y) ∧ Hid (Int.gcd x y = G) ∧ ∃ n, wr = w.drewN n) (fun _ q _ => (intOf q).natAbs)
  case atStart => exact ⟨a, b, rfl, rfl, Lib.hid ⟨ha, hb⟩, Lib.hid hG.symm, 0, rfl⟩
  case round =>
    obtain ⟨x, y, rfl, rfl, HA, HG, n, rfl⟩ := hrel
    by_cases hy : y = 0
    · subst hy
      have hm := run_imax x (-x)
      have q : wrap64 (-x) = -x := by have := HA.out.1; unfold A63 at this; unfold wrap64; omega
      go_wp2_with fail
      go_ret
      exact ⟨ret_int (by rw [gcd_last, HG.out]), n, rfl⟩
    · have h0 : (y != 0) = true := by simpa using hy
      have hz : (y == 0) = false := by simpa using hy
      have HR := Lib.hid (show A63 (x.tmod y) ∧ (x.tmod y).natAbs < y.natAbs ∧ Int.gcd y (x.tmod y) = G from by
        have := tmod_a63 (a := x) HA.out.2 hy
        exact ⟨this.1, this.2, (gcd_step x y).trans HG.out⟩)
      have HX := Lib.hid HA.out.2
      clear HA HG
      go_wp2_with fail
      go_quiet (fail)
      go_wp2_with fail
      go_roundw
      case rel => exact ⟨y, x.tmod y, rfl, rfl, Lib.hid ⟨HX.out, HR.out.1⟩, Lib.hid HR.out.2.2, _, World.drewN_drewN _ _ _⟩
      case measure => exact HR.out.2.1
end Go.Proofs.YtbhaoaobhgilkaaGreat

namespace Go.Proofs.YtbhaoaobhgilkaaGreat
open Go.RowKit

def mapN (f : Int → Int) (t : Nat) (l : List Int) : List Int := (l.take t).map f ++ l.drop t

theorem mapN_len (f : Int → Int) (t : Nat) (l : List Int) : (mapN f t l).length = l.length := by simp [mapN]; omega

theorem mapN_all (f : Int → Int) (l : List Int) {t : Nat} (h : l.length ≤ t) : mapN f t l = l.map f := by simp [mapN, List.take_of_length_le h, List.drop_of_length_le h]

theorem mapN_get (f : Int → Int) {t : Nat} {l : List Int} (h : t < l.length) : gA (mapN f t l) t = gA l t := by
  simp [mapN, gA, List.getElem?_append, Nat.min_eq_left (Nat.le_of_lt h)]

theorem mapN_step (f : Int → Int) {t : Nat} {l : List Int} (h : t < l.length) : (mapN f t l).set t (f (gA l t)) = mapN f (t + 1) l := by
  apply List.ext_getElem?
  intro i
  simp only [mapN, gA]
  rw [List.getElem?_set]
  by_cases e : t = i
  · subst e
    simp [h, List.getElem?_append, List.getD_eq_getElem?_getD, show t < min t l.length + (l.length - t) by omega, show t < min (t + 1) l.length by omega]
  · by_cases hi : i < t
    · simp [e, List.getElem?_append, hi, Nat.min_eq_left (Nat.le_of_lt h), show i < min (t + 1) l.length by omega]
    · simp [e, List.getElem?_append, hi, Nat.min_eq_left (Nat.le_of_lt h), Nat.min_eq_left (show t + 1 ≤ l.length by omega), show ¬ i < t + 1 by omega, show t + (i - t) = i by omega, show t + 1 + (i - (t + 1)) = i by omega]

def Ln.times (x : Ln) (c : Int) : Ln := ⟨x.a.map (· * c), x.b * c, x.s⟩

set_option maxRecDepth 20000 in
set_option maxHeartbeats 1000000 in
theorem times_any (x : Ln) (c : Int) (w : World) (hx : x.a.length = 6) (h1 : ∀ v ∈ x.a, I64 (v * c)) (h2 : I64 (x.b * c)) :
    Calls Tryz.prog 118 #[.agg x.cs, .int .i64 c] w (Made (.agg (x.times c).cs) w) := by
  have hz := ln_zero
  obtain ⟨w0, hw0⟩ : ∃ w0, w0 = (w.alloc (.cells x.cs 82)).alloc (.cells ln0.cs 82) := ⟨_, rfl⟩
  have K0 := Lib.hid (show Bk w0 w.heap.size x by rw [hw0]; exact (Bk.made w x hx).alloc _)
  have K1 := Lib.hid (show Bk w0 (w.heap.size + 1) ln0 by rw [hw0]; have := Bk.made (w.alloc (.cells x.cs 82)) ln0 rfl; simpa using this)
  have E0 := Lib.hid (show Below w.heap.size w w0 by rw [hw0]; exact past_two (Below.refl _ _))
  have H1 := Lib.hid (show ∀ t, t < 6 → wrap64 (gA x.a t * c) = gA x.a t * c from fun t ht => by
    have := h1 (gA x.a t) (by unfold gA; rw [List.getD_eq_getElem?_getD, List.getElem?_eq_getElem (by omega)]; exact List.getElem_mem _)
    unfold I64 at this; unfold wrap64; omega)
  have q2 : wrap64 (x.b * c) = x.b * c := by unfold I64 at h2; unfold wrap64; omega
  have HL := Lib.hid hx
  clear h1 h2 hx
  go_enter Tryz.func118, Tryz.ntmps118
  go_wp2_with fail
  rw [← hw0]
  clear hw0
  go_loopw [6] (fun s wr => ∃ t : Nat, s = .int .i64 t ∧ t ≤ 6 ∧ Hid (Bk wr w.heap.size ⟨mapN (· * c) t x.a, x.b, x.s⟩) ∧ Hid (Bk wr (w.heap.size + 1) ln0) ∧ Hid (Below w.heap.size w wr)) (fun s _ => 6 - (intOf s).toNat)
  case atStart => exact ⟨0, rfl, by omega, Lib.hid (by have := K0.out; simpa [mapN] using this), K1, E0⟩
  case round =>
    obtain ⟨t, rfl, ht, HB, HR, HW⟩ := hrel
    by_cases h6 : t < 6
    · have c0 : wr.cell? ⟨w.heap.size, t, none⟩ = some (.int .i64 (gA x.a t)) := by have := HB.out.at h6; rwa [mapN_get _ (by rw [HL.out]; exact h6)] at this
      have f0 := HB.out.free t
      have q1 := H1.out t h6
      have HB' := Lib.hid (HB.out.put h6 (gA x.a t * c))
      go_wp2_with fail
      go_roundw
      case rel =>
        refine ⟨t + 1, by go_num, by omega, Lib.hid ?_, Lib.hid (HR.out.aside (by omega) _), Lib.hid (HW.out.setCell (p := ⟨w.heap.size, t, none⟩) (Nat.le_refl _) _)⟩
        have := HB'.out
        rwa [mapN_step (· * c) (by rw [HL.out]; exact h6)] at this
      case measure => simp [intOf]; omega
    · have HB' := Lib.hid (show Bk wr w.heap.size ⟨x.a.map (· * c), x.b, x.s⟩ by have := HB.out; rwa [mapN_all _ _ (by rw [HL.out]; omega)] at this)
      have c6 := HB'.out.num
      have f6 := HB'.out.free 6
      have HC := Lib.hid (show Bk (wr.setCell ⟨w.heap.size, 6, none⟩ (.int .i64 (x.b * c))) w.heap.size (x.times c) from HB'.out.putb (x.b * c))
      have HD := Lib.hid (HR.out.aside (y := w.heap.size) (j := 6) (by omega) (.int .i64 (x.b * c)))
      have HE := Lib.hid (HW.out.setCell (p := ⟨w.heap.size, 6, none⟩) (Nat.le_refl _) (.int .i64 (x.b * c)))
      have HZ := Lib.hid HC.out.2
      clear HB HR HW
      go_wp2_with (first | refine wpl_load rfl _ rfl _ rfl _ HC.out ?_ | refine wpl_store rfl _ _ rfl _ _ rfl rfl _ HD.out HZ.out ?_)
      exact bodyPost_ret (results_ln Tryz.results118 _ rfl (HD.out.setRow HZ.out)) rfl ⟨rfl, Below.setRow HE.out (by omega) _⟩

def addN (t : Nat) (l m : List Int) : List Int := List.zipWith (· + ·) (l.take t) (m.take t) ++ l.drop t

theorem addN_get {t : Nat} {l m : List Int} (hl : m.length = l.length) (h : t < l.length) : gA (addN t l m) t = gA l t := by
  simp [addN, gA, List.getElem?_append, hl, Nat.min_eq_left (Nat.le_of_lt h)]

theorem addN_all (l m : List Int) (hl : m.length = l.length) {t : Nat} (h : l.length ≤ t) : addN t l m = List.zipWith (· + ·) l m := by
  simp [addN, List.take_of_length_le h, List.take_of_length_le (show m.length ≤ t by omega), List.drop_of_length_le h]

theorem addN_step {t : Nat} {l m : List Int} (hl : m.length = l.length) (h : t < l.length) : (addN t l m).set t (gA l t + gA m t) = addN (t + 1) l m := by
  apply List.ext_getElem?
  intro i
  rw [List.getElem?_set]
  by_cases e : t = i
  · subst e
    simp [addN, gA, h, hl, List.getElem?_append, show t < min t l.length + (l.length - t) by omega, show t < min (t + 1) l.length by omega]
  · by_cases hi : i < t
    · simp [addN, e, List.getElem?_append, hl, hi, Nat.min_eq_left (Nat.le_of_lt h), show i < min (t + 1) l.length by omega]
    · simp [addN, e, List.getElem?_append, hl, hi, Nat.min_eq_left (Nat.le_of_lt h), Nat.min_eq_left (show t + 1 ≤ l.length by omega), show ¬ i < t + 1 by omega, show t + (i - t) = i by omega, show t + 1 + (i - (t + 1)) = i by omega]

def Ln.plus (x y : Ln) : Ln := ⟨List.zipWith (· + ·) x.a y.a, x.b + y.b, x.s || y.s⟩

set_option maxRecDepth 20000 in
set_option maxHeartbeats 1000000 in
theorem plus_any (x y : Ln) (w : World) (hx : x.a.length = 6) (hy : y.a.length = 6) (h1 : ∀ t, t < 6 → I64 (gA x.a t + gA y.a t)) (h2 : I64 (x.b + y.b)) :
    Calls Tryz.prog 121 #[.agg x.cs, .agg y.cs] w (Made (.agg (x.plus y).cs) w) := by
  have hz := ln_zero
  obtain ⟨w0, hw0⟩ : ∃ w0, w0 = ((w.alloc (.cells x.cs 82)).alloc (.cells y.cs 82)).alloc (.cells ln0.cs 82) := ⟨_, rfl⟩
  have K0 := Lib.hid (show Bk w0 w.heap.size x by rw [hw0]; exact ((Bk.made w x hx).alloc _).alloc _)
  have K1 := Lib.hid (show Bk w0 (w.heap.size + 1) y by rw [hw0]; have := (Bk.made (w.alloc (.cells x.cs 82)) y hy).alloc (.cells ln0.cs 82); simpa using this)
  have K2 := Lib.hid (show Bk w0 (w.heap.size + 2) ln0 by rw [hw0]; have := Bk.made ((w.alloc (.cells x.cs 82)).alloc (.cells y.cs 82)) ln0 rfl; simpa using this)
  have E0 := Lib.hid (show Below w.heap.size w w0 by rw [hw0]; exact past_three (Below.refl _ _))
  have H1 := Lib.hid (show ∀ t, t < 6 → wrap64 (gA x.a t + gA y.a t) = gA x.a t + gA y.a t from fun t ht => by
    have := h1 t ht
    unfold I64 at this; unfold wrap64; omega)
  have q2 : wrap64 (x.b + y.b) = x.b + y.b := by unfold I64 at h2; unfold wrap64; omega
  have HL := Lib.hid hx
  have HM := Lib.hid hy
  clear h1 h2 hx hy
  go_enter Tryz.func121, Tryz.ntmps121
  go_wp2_with fail
  rw [← hw0]
  clear hw0
  go_loopw [6] (fun s wr => ∃ t : Nat, s = .int .i64 t ∧ t ≤ 6 ∧ Hid (Bk wr w.heap.size ⟨addN t x.a y.a, x.b, x.s⟩) ∧ Hid (Bk wr (w.heap.size + 1) y) ∧ Hid (Bk wr (w.heap.size + 2) ln0) ∧ Hid (Below w.heap.size w wr)) (fun s _ => 6 - (intOf s).toNat)
  case atStart => exact ⟨0, rfl, by omega, Lib.hid (by have := K0.out; simpa [addN] using this), K1, K2, E0⟩
  case round =>
    obtain ⟨t, rfl, ht, HB, HY, HR, HW⟩ := hrel
    by_cases h6 : t < 6
    · have c0 : wr.cell? ⟨w.heap.size, t, none⟩ = some (.int .i64 (gA x.a t)) := by have := HB.out.at h6; rwa [addN_get (by rw [HL.out, HM.out]) (by rw [HL.out]; exact h6)] at this
      have c1 := HY.out.at h6
      have f0 := HB.out.free t
      have q1 := H1.out t h6
      have HB' := Lib.hid (show Bk _ _ _ from HB.out.put h6 (gA x.a t + gA y.a t))
      go_wp2_with fail
      go_region
      all_goals
        go_wp2_with fail
        go_roundw
        case rel =>
          refine ⟨t + 1, by go_num, by omega, Lib.hid ?_, Lib.hid ?_, Lib.hid ?_, Lib.hid ?_⟩
          · have := (HB'.out)
            rw [addN_step (by rw [HL.out, HM.out]) (by rw [HL.out]; exact h6)] at this
            exact this.of_block rfl
          · exact (HY.out.aside (y := w.heap.size) (j := t) (by omega) _).of_block rfl
          · exact (HR.out.aside (y := w.heap.size) (j := t) (by omega) _).of_block rfl
          · exact below_drewN (HW.out.setCell (p := ⟨w.heap.size, t, none⟩) (Nat.le_refl _) _) 1
        case measure => simp [intOf]; omega
    · have HB' := Lib.hid (show Bk wr w.heap.size ⟨List.zipWith (· + ·) x.a y.a, x.b, x.s⟩ by have := HB.out; rwa [addN_all _ _ (by rw [HL.out, HM.out]) (by rw [HL.out]; omega)] at this)
      have c6 := HB'.out.num
      have f6 := HB'.out.free 6
      have d6 := HY.out.num
      have B1 := Lib.hid (HB'.out.putb (x.b + y.b))
      have Y1 := Lib.hid (HY.out.aside (y := w.heap.size) (j := 6) (by omega) (.int .i64 (x.b + y.b)))
      have R1 := Lib.hid (HR.out.aside (y := w.heap.size) (j := 6) (by omega) (.int .i64 (x.b + y.b)))
      have W1 := Lib.hid (HW.out.setCell (p := ⟨w.heap.size, 6, none⟩) (Nat.le_refl _) (.int .i64 (x.b + y.b)))
      have g7 := B1.out.free 7
      have c7 := B1.out.str
      have d7 := Y1.out.str
      have C2 := Lib.hid (show Bk _ w.heap.size (x.plus y) from B1.out.puts (x.s || y.s))
      have R2 := Lib.hid (R1.out.aside (y := w.heap.size) (j := 7) (by omega) (.bool (x.s || y.s)))
      have W2 := Lib.hid (W1.out.setCell (p := ⟨w.heap.size, 7, none⟩) (Nat.le_refl _) (.bool (x.s || y.s)))
      have HZ := Lib.hid C2.out.2
      clear HB HR HW HY HB' B1 Y1 R1 W1
      cases hs : x.s
      · rw [hs] at c7 C2 R2 W2
        simp only [Bool.false_or] at C2 R2 W2
        go_wp2_with (first | refine wpl_load rfl _ rfl _ rfl _ C2.out ?_ | refine wpl_store rfl _ _ rfl _ _ rfl rfl _ R2.out HZ.out ?_)
        exact bodyPost_ret (results_ln Tryz.results121 _ rfl (R2.out.setRow HZ.out)) rfl ⟨rfl, Below.setRow W2.out (by omega) _⟩
      · rw [hs] at c7 C2 R2 W2
        simp only [Bool.true_or] at C2 R2 W2
        go_wp2_with (first | refine wpl_load rfl _ rfl _ rfl _ C2.out ?_ | refine wpl_store rfl _ _ rfl _ _ rfl rfl _ R2.out HZ.out ?_)
        exact bodyPost_ret (results_ln Tryz.results121 _ rfl (R2.out.setRow HZ.out)) rfl ⟨rfl, Below.setRow W2.out (by omega) _⟩
end Go.Proofs.YtbhaoaobhgilkaaGreat
