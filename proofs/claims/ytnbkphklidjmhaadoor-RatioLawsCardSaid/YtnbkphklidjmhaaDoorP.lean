/- Blocks of two integers that lie in memory: what becomes of them behind calls that only make memory, behind new blocks and behind stores. -/
import Derived.Test.YtnbkphklidjmhaaDoorX
namespace Go.Proofs.YtnbkphklidjmhaaDoor
open Go.RowKit

/-- A cell that holds v and may be written. -/
def Cell (w : World) (p : Addr) (v : Value) : Prop := w.cell? p = some v ∧ w.frozen? p = false
theorem Cell.lt {w : World} {p : Addr} {v : Value} (h : Cell w p v) : p.block < w.heap.size := World.block_lt_of_cell? w _ h.1
theorem Cell.kept {w w' : World} {p : Addr} {v : Value} (h : Cell w p v) (hb : Below w.heap.size w w') : Cell w' p v :=
  ⟨by rw [hb.cell h.lt]; exact h.1, by rw [hb.frozen h.lt]; exact h.2⟩
theorem Cell.same {w : World} {p : Addr} {v : Value} (h : Cell w p v) (x : Value) : Cell (w.setCell p x) p x :=
  ⟨World.cell?_setCell_same _ _ _ h.1, by rw [World.frozen?_setCell]; exact h.2⟩
theorem Cell.other {w : World} {p q : Addr} {v : Value} (h : Cell w q v) (hne : p ≠ q) (x : Value) : Cell (w.setCell p x) q v :=
  ⟨(World.cell?_setCell_other _ _ _ _ hne).trans h.1, by rw [World.frozen?_setCell]; exact h.2⟩

/-- Block b holds the two integers x and y. -/
def Pair (w : World) (b : Nat) (x y : Int) : Prop := Cell w ⟨b, 0, none⟩ (.int .i64 x) ∧ Cell w ⟨b, 1, none⟩ (.int .i64 y)
theorem Pair.lt {w : World} {b : Nat} {x y : Int} (h : Pair w b x y) : b < w.heap.size := h.1.lt
theorem Pair.kept {w w' : World} {b : Nat} {x y : Int} (h : Pair w b x y) (hb : Below w.heap.size w w') : Pair w' b x y := ⟨h.1.kept hb, h.2.kept hb⟩
theorem Pair.made (w : World) (x y : Int) (t : TypeId) : Pair (w.alloc (.cells #[.int .i64 x, .int .i64 y] t)) w.heap.size x y :=
  ⟨⟨by go_simp, by go_simp⟩, ⟨by go_simp, by go_simp⟩⟩
theorem Pair.alloc {w : World} {b : Nat} {x y : Int} (h : Pair w b x y) (o : Obj) : Pair (w.alloc o) b x y := h.kept (one_more o)
theorem Pair.drawn {w : World} {b : Nat} {x y : Int} (h : Pair w b x y) (n : Nat) : Pair (w.drewN n) b x y := h.kept (below_drewN (Below.refl _ _) n)
theorem Pair.put {w : World} {b : Nat} {x y : Int} (h : Pair w b x y) (x' y' : Int) : Pair ((w.setCell ⟨b, 0, none⟩ (.int .i64 x')).setCell ⟨b, 1, none⟩ (.int .i64 y')) b x' y' :=
  ⟨((h.1.same _).other (by simp) _), ((h.2.other (by simp) _).same _)⟩
theorem Pair.aside {w : World} {b b' : Nat} {x y : Int} (h : Pair w b x y) (hne : b' ≠ b) (x' y' : Value) : Pair ((w.setCell ⟨b', 0, none⟩ x').setCell ⟨b', 1, none⟩ y') b x y :=
  ⟨((h.1.other (fun e => hne (congrArg Addr.block e)) _).other (fun e => hne (congrArg Addr.block e)) _), ((h.2.other (fun e => hne (congrArg Addr.block e)) _).other (fun e => hne (congrArg Addr.block e)) _)⟩
/-- What the walk reads off. -/
theorem Pair.facts {w : World} {b : Nat} {x y : Int} (h : Pair w b x y) : w.cell? ⟨b, 0, none⟩ = some (.int .i64 x) ∧ w.cell? ⟨b, 1, none⟩ = some (.int .i64 y) ∧ w.frozen? ⟨b, 0, none⟩ = false ∧ w.frozen? ⟨b, 1, none⟩ = false :=
  ⟨h.1.1, h.2.1, h.1.2, h.2.2⟩
theorem below_put {w w1 : World} (hb : Below w.heap.size w w1) {b : Nat} (hB : w.heap.size ≤ b) (x y : Value) : Below w.heap.size w ((w1.setCell ⟨b, 0, none⟩ x).setCell ⟨b, 1, none⟩ y) :=
  (hb.setCell hB x).setCell hB y
/-- Behind the first call of a function with two such parameters. -/
theorem two_pairs {w w1 : World} {n d m c : Int} {t : TypeId} (hb : Below ((w.alloc (.cells #[.int .i64 n, .int .i64 d] t)).alloc (.cells #[.int .i64 m, .int .i64 c] t)).heap.size ((w.alloc (.cells #[.int .i64 n, .int .i64 d] t)).alloc (.cells #[.int .i64 m, .int .i64 c] t)) w1) :
    Pair w1 w.heap.size n d ∧ Pair w1 (w.heap.size + 1) m c ∧ w.heap.size + 2 ≤ w1.heap.size ∧ Below w.heap.size w w1 := by
  have hB := (Pair.made (w.alloc (.cells #[.int .i64 n, .int .i64 d] t)) m c t).kept hb
  refine ⟨((Pair.made w n d t).alloc _).kept hb, by simpa using hB, ?_, past_two hb⟩
  have := hb.size; simpa using this
theorem three_pairs {w w1 : World} {n d m c k l : Int} {t : TypeId} (hb : Below (((w.alloc (.cells #[.int .i64 n, .int .i64 d] t)).alloc (.cells #[.int .i64 m, .int .i64 c] t)).alloc (.cells #[.int .i64 k, .int .i64 l] t)).heap.size (((w.alloc (.cells #[.int .i64 n, .int .i64 d] t)).alloc (.cells #[.int .i64 m, .int .i64 c] t)).alloc (.cells #[.int .i64 k, .int .i64 l] t)) w1) :
    Pair w1 w.heap.size n d ∧ Pair w1 (w.heap.size + 1) m c ∧ Pair w1 (w.heap.size + 2) k l ∧ w.heap.size + 3 ≤ w1.heap.size ∧ Below w.heap.size w w1 := by
  have hB := ((Pair.made (w.alloc (.cells #[.int .i64 n, .int .i64 d] t)) m c t).alloc (.cells #[.int .i64 k, .int .i64 l] t)).kept hb
  have hC := (Pair.made ((w.alloc (.cells #[.int .i64 n, .int .i64 d] t)).alloc (.cells #[.int .i64 m, .int .i64 c] t)) k l t).kept hb
  refine ⟨(((Pair.made w n d t).alloc _).alloc _).kept hb, by simpa using hB, by simpa using hC, ?_, past_three hb⟩
  have := hb.size; simpa using this
theorem on_put {w w1 w2 : World} {b : Nat} {x y : Value} (hB : Below w.heap.size w w1) (hle : w.heap.size ≤ b) (hb : Below ((w1.setCell ⟨b, 0, none⟩ x).setCell ⟨b, 1, none⟩ y).heap.size ((w1.setCell ⟨b, 0, none⟩ x).setCell ⟨b, 1, none⟩ y) w2) : Below w.heap.size w w2 :=
  (below_put hB hle x y).trans (hb.mono (below_put hB hle x y).size)
end Go.Proofs.YtnbkphklidjmhaaDoor
