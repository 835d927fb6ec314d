/- Arguments opened: a zone, constraints.; What the walks of the laws of layer 3 have in common.; Blocks that stores elsewhere leave as they are.; set of the statements of layer 3: a point in which a clock has another value.; Plain mathematics of bounds: which points are in the set of a matrix, and that closing keeps them. A point is a list of integers over one common denominator. Nothing of the program is named here.; Plain mathematics: points as integers over one denominator; what Has says of a point is that it is in the set of the matrix; constraints and points.; Plain mathematics: intervals: what 'within' keeps, over one denominator. -/
import Derived.Test.YtbnebinpemejlaaHx1
import Derived.Test.YtbnebinpemejlaaHc6
import Derived.Test.YtbnebinpemejlaaHc10
import Derived.Test.YtbnebinpemejlaaHc2
import Derived.Test.YtbnebinpemejlaaHc4
import Derived.Test.YtbnebinpemejlaaHc8

namespace Go.Proofs.Ytbnebinpemejlaa
open Go.ChangeShapes Go.WideShapes Go.ChangeAt Go.RowKit Go.Joins Go.Deep

theorem Try.cells43 : Try.prog.cellsOf 43 = 1 := by kernel_rfl

theorem Try.cells22 : Try.prog.cellsOf 22 = 1 := by kernel_rfl

theorem Try.cells3 : Try.prog.cellsOf 3 = 1 := by kernel_rfl

theorem Try.cells25 : Try.prog.cellsOf 25 = 2 := by kernel_rfl

theorem Try.cells56 : Try.prog.cellsOf 56 = 3 := by kernel_rfl

theorem wf_i64 {n : Int} (h : (Lit.int .i64 n).wf = true) : I64 n := by
  simp [Lit.wf, IntKind.min, IntKind.max, IntKind.signed, IntKind.bits] at h
  exact ⟨by omega, by omega⟩

/-- A slice of limits. -/
theorem open_limits {H : Type} {enc : TypeId × Value → H} {W : World} {base fuel : Nat} {sp : Nat → Bool} {held : Bool} {c : Value} {y : DataW H × List MemPlace}
    (h : DataW.trod enc Try.prog W base sp held fuel 22 [c] = some y) : ∃ (ao : Option Addr) (l : List Int) (cap : Nat), c = .slice ao l.length cap ∧ Arg W ao l ∧ l.length ≤ maxLen := by
  rcases open_ints Try.underlying22 Try.underlying43 Try.cells43 h with ⟨e, _⟩ | ⟨a, len, cap, zs, e, _, hl, hm, hz, _, hc, _⟩
  · simp at e
    exact ⟨none, [], 0, by simpa using e, fun q => absurd rfl q, by simp⟩
  · simp at e
    have hlen : len ≤ zs.length := by rw [hz]; split <;> omega
    refine ⟨some a, zs.take len, cap, by rw [e]; simp [hlen], fun _ => ⟨a, rfl, fun j hj => ?_⟩, by simp; omega⟩
    simp at hj
    rw [hc j (by omega)]
    simp [Zo.gt, show j < len by omega]

set_option maxRecDepth 100000 in
/-- A zone by value. -/
theorem open_zone {H : Type} {enc : TypeId × Value → H} {W : World} {base : Nat} {sp : Nat → Bool} {held : Bool} {r : Reach} {b0 : Nat} {v : Value} {d : DataW H} {p : List MemPlace}
    (hv : Value.okWide Try.prog W r b0 25 v) (h : DataW.Trod enc Try.prog W base sp held 25 v d p) :
    ∃ (N : Int) (ao : Option Addr) (l : List Int) (cap : Nat), v = .agg #[.int .i64 N, .slice ao l.length cap] ∧ I64 N ∧ Arg W ao l ∧ l.length ≤ maxLen := by
  obtain ⟨v0, v1, y0, y1, n, rfl, _, _, h0, h1⟩ := open_agg2 Try.underlying25 (by kernel_rfl) Try.cells25 hv h
  obtain ⟨N, e0, _, w0⟩ := DataW.trod_int Try.underlying3 h0
  simp at e0
  obtain ⟨ao, l, cap, e1, hA, hl⟩ := open_limits h1
  exact ⟨N, ao, l, cap, by rw [e0, e1], wf_i64 w0, hA, hl⟩

set_option maxRecDepth 100000 in
/-- A struct of three integers. -/
theorem trod_con {H : Type} {enc : TypeId × Value → H} {W : World} {base fuel : Nat} {sp : Nat → Bool} {held : Bool} {cs : List Value} {y : DataW H × List MemPlace}
    (h : DataW.trod enc Try.prog W base sp held fuel 56 cs = some y) : ∃ i j x : Int, cs = [.int .i64 i, .int .i64 j, .int .i64 x] ∧ I64 i ∧ I64 j ∧ I64 x := by
  obtain ⟨xs, n, _, _, hl, hx, hf⟩ := DataW.trod_struct Try.underlying56 h
  rw [Try.cells56] at hl
  match cs, hl with
  | [a, b, c], _ =>
    have g0 := hf 0 _ rfl
    have g1 := hf 1 _ rfl
    have g2 := hf 2 _ rfl
    match xs, hx with
    | [y0, y1, y2], _ =>
      simp [Try.cells3, Try.cells43] at g0 g1 g2
      obtain ⟨i, e0, _, w0⟩ := DataW.trod_int Try.underlying3 g0
      obtain ⟨j, e1, _, w1⟩ := DataW.trod_int Try.underlying3 g1
      obtain ⟨x, e2, _, w2⟩ := DataW.trod_int Try.underlying43 g2
      simp at e0 e1 e2
      exact ⟨i, j, x, by rw [e0, e1, e2], wf_i64 w0, wf_i64 w1, wf_i64 w2⟩

theorem add_two (a : Addr) (k j : Nat) (hj : 0 < j) : (a.add k).add j = ⟨(a.add k).block, (a.add k).off + j, none⟩ := by
  generalize a.add k = b
  unfold Addr.add
  rw [if_neg (by omega)]

/-- A slice of constraints. -/
theorem open_cons {H : Type} {enc : TypeId × Value → H} {W : World} {base fuel : Nat} {sp : Nat → Bool} {held : Bool} {c : Value} {y : DataW H × List MemPlace}
    (h : DataW.trod enc Try.prog W base sp held fuel 35 [c] = some y) :
    ∃ (ao : Option Addr) (cs : List Con) (cap : Nat), c = .slice ao cs.length cap ∧ Arg3 W ao cs ∧ cs.length ≤ maxLen ∧ (∀ k, k < cs.length → (I64 (gc cs k).1 ∧ I64 (gc cs k).2.1 ∧ I64 (gc cs k).2.2)) ∧ (ao = none → cs = [] ∧ cap = 0) := by
  rcases open_slice Try.underlying35 h with ⟨e, _⟩ | ⟨a, len, cap, m, n, D, Pl, e, _, hl, hm, hmm, _, hi⟩
  · simp at e
    exact ⟨none, [], 0, by simpa using e, fun q => absurd rfl q, by simp, fun k hk => by simp at hk, fun _ => ⟨rfl, rfl⟩⟩
  · simp at e
    have hlen : len ≤ m := by rw [hmm]; split <;> omega
    have key : ∀ i, i < len → ∃ q : Con, (W.cell? (a.add (i * 3)) = some (.int .i64 q.1) ∧ W.cell? ⟨(a.add (i * 3)).block, (a.add (i * 3)).off + 1, none⟩ = some (.int .i64 q.2.1) ∧ W.cell? ⟨(a.add (i * 3)).block, (a.add (i * 3)).off + 2, none⟩ = some (.int .i64 q.2.2)) ∧ I64 q.1 ∧ I64 q.2.1 ∧ I64 q.2.2 := fun i hil => by
      obtain ⟨cs', hc, ht⟩ := hi i (by omega)
      rw [Try.cells56] at hc
      obtain ⟨x, y, z, rfl, w0, w1, w2⟩ := trod_con ht
      obtain ⟨_, hcl, hat⟩ := World.cells?_some hc
      have c0 := hat 0 (by simp)
      have c1 := hat 1 (by simp)
      have c2 := hat 2 (by simp)
      rw [add_two _ _ _ (by omega)] at c1 c2
      rw [show (a.add (i * 3)).add 0 = a.add (i * 3) by simp [Addr.add]] at c0
      exact ⟨(x, y, z), ⟨by simpa using c0, by simpa using c1, by simpa using c2⟩, w0, w1, w2⟩
    obtain ⟨F, hF⟩ : ∃ F : Nat → Con, ∀ i, i < len → (W.cell? (a.add (i * 3)) = some (.int .i64 (F i).1) ∧ W.cell? ⟨(a.add (i * 3)).block, (a.add (i * 3)).off + 1, none⟩ = some (.int .i64 (F i).2.1) ∧ W.cell? ⟨(a.add (i * 3)).block, (a.add (i * 3)).off + 2, none⟩ = some (.int .i64 (F i).2.2)) ∧ I64 (F i).1 ∧ I64 (F i).2.1 ∧ I64 (F i).2.2 := by
      refine ⟨fun i => if h : i < len then (key i h).choose else (0, 0, 0), fun i hil => ?_⟩
      simp only [dif_pos hil]
      exact (key i hil).choose_spec
    have hg : ∀ i, i < len → gc ((List.range len).map F) i = F i := fun i hil => by simp [gc, hil]
    refine ⟨some a, (List.range len).map F, cap, by rw [e]; simp, fun _ => ⟨a, rfl, fun j hj => ?_⟩, by simp; omega, fun k hk => ?_, fun q => by cases q⟩
    · simp at hj
      rw [hg j hj]
      exact (hF j hj).1
    · simp at hk
      rw [hg k hk]
      exact (hF k hk).2

set_option maxRecDepth 100000 in
/-- A slice of one cell, by value, and its reading. -/
theorem trod_slice1 {H : Type} {enc : TypeId × Value → H} {W : World} {base : Nat} {sp : Nat → Bool} {held : Bool} {r : Reach} {b0 : Nat} {t e : TypeId} {v : Value} {d : DataW H} {p : List MemPlace} (ht : Try.prog.underlying t = some (.slice e))
    (hv : Value.okWide Try.prog W r b0 t v) (h : DataW.Trod enc Try.prog W base sp held t v d p) : ∃ n, DataW.trod enc Try.prog W base sp held n t [v] = some (d, p) := by
  obtain ⟨n, hn⟩ := h
  obtain ⟨a, l, c, rfl⟩ := okWide_slice ht hv
  exact ⟨n, hn⟩

set_option maxRecDepth 100000 in
theorem open_cons_arg {H : Type} {enc : TypeId × Value → H} {W : World} {base : Nat} {sp : Nat → Bool} {held : Bool} {r : Reach} {b0 : Nat} {v : Value} {d : DataW H} {p : List MemPlace}
    (hv : Value.okWide Try.prog W r b0 35 v) (h : DataW.Trod enc Try.prog W base sp held 35 v d p) :
    ∃ (ao : Option Addr) (cs : List Con) (cap : Nat), v = .slice ao cs.length cap ∧ Arg3 W ao cs ∧ cs.length ≤ maxLen ∧ (∀ k, k < cs.length → (I64 (gc cs k).1 ∧ I64 (gc cs k).2.1 ∧ I64 (gc cs k).2.2)) ∧ (ao = none → cs = [] ∧ cap = 0) := by
  obtain ⟨n, hn⟩ := trod_slice1 Try.underlying35 hv h
  exact open_cons hn

/-- What a function that returns a zone leaves, in one form for both outcomes. -/
def zrN (er N : Int) : Int := if er = 0 then N else 0

def zrL (er : Int) (l : List Int) : List Int := if er = 0 then l else []

theorem ZRes.val {w : World} {N : Int} {l : List Int} {er : Int} {e : Ending} {w' : World} (h : ZRes w N l er e w') :
    ∃ ao cap, e = .returned (.tuple #[.agg #[.int .i64 (zrN er N), .slice ao (zrL er l).length cap], .int .i64 er]) ∧ Arg w' ao (zrL er l) ∧ (zrL er l).length ≤ maxLen ∧ Below w.heap.size w w' := by
  rcases h.2 with ⟨rfl, g, c, rfl, _, hO⟩ | ⟨h1, rfl⟩
  · refine ⟨some ⟨g, 0, none⟩, c, rfl, hO.arg, ?_, h.1⟩
    rcases hO.2 with ⟨q, _⟩ | ⟨g', cap, cur, _, _, _, h4, h5, _⟩
    · cases q
    · show l.length ≤ maxLen; omega
  · exact ⟨none, 0, by simp [zrN, zrL, h1], fun q => absurd (by simp [zrL, h1]) q, by simp [zrL, h1], h.1⟩

def ZVal (w : World) (M : Int) (m : List Int) (er : Int) (e : Ending) (w' : World) : Prop :=
  ∃ ao cap, e = .returned (.tuple #[.agg #[.int .i64 M, .slice ao m.length cap], .int .i64 er]) ∧ Arg w' ao m ∧ m.length ≤ maxLen ∧ Below w.heap.size w w'

theorem ZRes.zval {w : World} {N : Int} {l : List Int} {er : Int} {e : Ending} {w' : World} (h : ZRes w N l er e w') : ZVal w (zrN er N) (zrL er l) er e w' := h.val
end Go.Proofs.Ytbnebinpemejlaa

namespace Go.Proofs.Ytbnebinpemejlaa
open Go.ChangeShapes Go.WideShapes Go.ChangeAt Go.RowKit Go.Joins Go.Deep

theorem max_le' {n : Nat} (h : n ≤ maxLen) : n ≤ 9223372036854775807 := by unfold maxLen at h; omega

theorem arg_far' {w : World} {ao : Option Addr} {l : List Int} (h : Arg w ao l) {x : Nat} (hx : ∀ a, ao = some a → a.block ≠ x) (u v : Value) : Arg ((w.setCell ⟨x, 0, none⟩ u).setCell ⟨x, 1, none⟩ v) ao l := fun hl => by
  obtain ⟨a, e, hR⟩ := h hl
  refine ⟨a, e, fun j hj => ?_⟩
  have hb : (a.add j).block = a.block := by unfold Addr.add; split <;> rfl
  have hne := hx a e
  exact aside_two (hR j hj) (by rw [hb]; exact hne) u v

theorem far_below {w0 w : World} (h : Below w0.heap.size w0 w) {x : Nat} (hx : w0.heap.size ≤ x) (u v : Value) : Below w0.heap.size w0 ((w.setCell ⟨x, 0, none⟩ u).setCell ⟨x, 1, none⟩ v) := (h.setCell hx u).setCell hx v

/-- What a function that returns a zone leaves, in one form for both outcomes; the row is new. -/
def ZV2 (w : World) (M : Int) (m : List Int) (er : Int) (e : Ending) (w' : World) : Prop :=
  ∃ ao cap, e = .returned (.tuple #[.agg #[.int .i64 M, .slice ao m.length cap], .int .i64 er]) ∧ Arg w' ao m ∧ m.length ≤ maxLen ∧ (∀ b, ao = some b → w.heap.size ≤ b.block ∧ b.block < w'.heap.size) ∧ Below w.heap.size w w'

theorem ZRes.zv2 {w : World} {N : Int} {l : List Int} {er : Int} {e : Ending} {w' : World} (h : ZRes w N l er e w') : ZV2 w (zrN er N) (zrL er l) er e w' := by
  rcases h.2 with ⟨rfl, g, c, rfl, hg, hO⟩ | ⟨h1, rfl⟩
  · refine ⟨some ⟨g, 0, none⟩, c, rfl, hO.arg, ?_, fun b hb => by injection hb with hb; subst hb; exact ⟨hg, (World.ownsRow.lt hO g rfl).2⟩, h.1⟩
    rcases hO.2 with ⟨q, _⟩ | ⟨g', cap, cur, _, _, _, h4, h5, _⟩
    · cases q
    · show l.length ≤ maxLen; omega
  · exact ⟨none, 0, by simp [zrN, zrL, h1], fun q => absurd (by simp [zrL, h1]) q, by simp [zrL, h1], (fun b hb => by cases hb), h.1⟩

theorem lent_gen (N : Int) (l : List Int) (ao : Option Addr) (cap : Nat) (w : World) (h1 : l.length ≤ 200) (hA : Arg w ao l) (hn : ao = none → l = [] ∧ cap = 0) :
    Calls Try.prog 13 #[.agg #[.int .i64 N, .slice ao l.length cap]] w
      (fun e w' => ∃ g, e = .returned (.agg #[.int .i64 N, .slice (some ⟨g, 0, none⟩) l.length (l.length + 1)]) ∧ w.heap.size ≤ g ∧ Own w' g (l.length + 1) (l ++ [77]) ∧ Below w.heap.size w w') := by
  cases ao with
  | none =>
    obtain ⟨rfl, rfl⟩ := hn rfl
    exact lent_nil N w
  | some a =>
    refine lent_all N l a cap w h1 ?_
    by_cases c : l = []
    · subst c; intro j hj; simp at hj
    · obtain ⟨b, e, h⟩ := hA c
      injection e with e; subst e; exact h

theorem lsame_refl (M : Int) (m : List Int) (ao bo : Option Addr) (ca cb : Nat) (e : Int) (w : World) (hA : Arg w ao m) (hB : Arg w bo m) (hm : m.length ≤ maxLen) :
    Calls Try.prog 16 #[.agg #[.int .i64 M, .slice ao m.length ca], .agg #[.int .i64 M, .slice bo m.length cb], .int .i64 e, .int .i64 e] w (Made (.bool true) w) := by
  have := lsame_any M M m m ao bo ca cb e e w hA hB (max_le' hm)
  rw [show (smB M M m m && (e == e)) = true by simp [smB]] at this
  exact this

theorem own_front' {w : World} {g c : Nat} {l : List Int} {x : Int} (h : Own w g c (l ++ [x])) : Arg w (some ⟨g, 0, none⟩) l := fun _ => ⟨_, rfl, (own_front h).1⟩

/-- A slice of limits; one that is nil. -/
theorem open_limits2 {H : Type} {enc : TypeId × Value → H} {W : World} {base fuel : Nat} {sp : Nat → Bool} {held : Bool} {c : Value} {y : DataW H × List MemPlace}
    (h : DataW.trod enc Try.prog W base sp held fuel 22 [c] = some y) : ∃ (ao : Option Addr) (l : List Int) (cap : Nat), c = .slice ao l.length cap ∧ Arg W ao l ∧ l.length ≤ maxLen ∧ (ao = none → l = [] ∧ cap = 0) := by
  rcases open_ints Try.underlying22 Try.underlying43 Try.cells43 h with ⟨e, _⟩ | ⟨a, len, cap, zs, e, _, hl, hm, hz, _, hc, _⟩
  · simp at e
    exact ⟨none, [], 0, by simpa using e, fun q => absurd rfl q, by simp, fun _ => ⟨rfl, rfl⟩⟩
  · simp at e
    have hlen : len ≤ zs.length := by rw [hz]; split <;> omega
    refine ⟨some a, zs.take len, cap, by rw [e]; simp [hlen], fun _ => ⟨a, rfl, fun j hj => ?_⟩, by simp; omega, fun q => by cases q⟩
    simp at hj
    rw [hc j (by omega)]
    simp [Zo.gt, show j < len by omega]

set_option maxRecDepth 100000 in
theorem open_limits_arg {H : Type} {enc : TypeId × Value → H} {W : World} {base : Nat} {sp : Nat → Bool} {held : Bool} {r : Reach} {b0 : Nat} {v : Value} {d : DataW H} {p : List MemPlace}
    (hv : Value.okWide Try.prog W r b0 22 v) (h : DataW.Trod enc Try.prog W base sp held 22 v d p) :
    ∃ (ao : Option Addr) (l : List Int) (cap : Nat), v = .slice ao l.length cap ∧ Arg W ao l ∧ l.length ≤ maxLen ∧ (ao = none → l = [] ∧ cap = 0) := by
  obtain ⟨n, hn⟩ := trod_slice1 Try.underlying22 hv h
  exact open_limits2 hn

set_option maxRecDepth 100000 in
/-- A zone by value; one without a row. -/
theorem open_zone2 {H : Type} {enc : TypeId × Value → H} {W : World} {base : Nat} {sp : Nat → Bool} {held : Bool} {r : Reach} {b0 : Nat} {v : Value} {d : DataW H} {p : List MemPlace}
    (hv : Value.okWide Try.prog W r b0 25 v) (h : DataW.Trod enc Try.prog W base sp held 25 v d p) :
    ∃ (N : Int) (ao : Option Addr) (l : List Int) (cap : Nat), v = .agg #[.int .i64 N, .slice ao l.length cap] ∧ I64 N ∧ Arg W ao l ∧ l.length ≤ maxLen ∧ (ao = none → l = [] ∧ cap = 0) := by
  obtain ⟨v0, v1, y0, y1, n, rfl, _, _, h0, h1⟩ := open_agg2 Try.underlying25 (by kernel_rfl) Try.cells25 hv h
  obtain ⟨N, e0, _, w0⟩ := DataW.trod_int Try.underlying3 h0
  simp at e0
  obtain ⟨ao, l, cap, e1, hA, hl, hn⟩ := open_limits2 h1
  exact ⟨N, ao, l, cap, by rw [e0, e1], wf_i64 w0, hA, hl, hn⟩
end Go.Proofs.Ytbnebinpemejlaa

namespace Go.Proofs.Ytbnebinpemejlaa
open Go.RowKit

/-- A block of cells. -/
def Bx (w : World) (b : Nat) (A : Array Value) : Prop := ∃ t, w.heap[b]? = some (.cells A t (0, 0))

theorem Bx.lt {w : World} {b : Nat} {A : Array Value} (h : Bx w b A) : b < w.heap.size := by
  obtain ⟨t, h⟩ := h
  by_cases c : b < w.heap.size
  · exact c
  · rw [Array.getElem?_eq_none (by omega)] at h; cases h

theorem Bx.kept {w w' : World} {b : Nat} {A : Array Value} (h : Bx w b A) (hb : Below w.heap.size w w') : Bx w' b A := by
  have hl := h.lt
  obtain ⟨t, h⟩ := h
  exact ⟨t, (hb.block b hl).trans h⟩

theorem Bx.made (w : World) (A : Array Value) (t : TypeId) : Bx (w.alloc (.cells A t)) w.heap.size A := ⟨t, heap_alloc_last w _⟩

theorem Bx.cell {w : World} {b : Nat} {A : Array Value} (h : Bx w b A) (k : Nat) : w.cell? ⟨b, k, none⟩ = A[k]? := by
  obtain ⟨t, h⟩ := h
  exact cell_of_row _ _ k A _ _ h

theorem Bx.aside {w : World} {b b' : Nat} {A : Array Value} (h : Bx w b A) (hne : b' ≠ b) (u v : Value) : Bx ((w.setCell ⟨b', 0, none⟩ u).setCell ⟨b', 1, none⟩ v) b A := by
  obtain ⟨t, h⟩ := h
  exact ⟨t, ((heap_setCell_other _ ⟨b', 1, none⟩ b v (fun e => hne e.symm)).trans (heap_setCell_other _ ⟨b', 0, none⟩ b u (fun e => hne e.symm))).trans h⟩

theorem Bx.grown {w w' : World} {b g : Nat} {A : Array Value} (h : Bx w b A) (hg : w.grownBy w' (some g)) (hne : b ≠ g) : Bx w' b A := by
  have hl := h.lt
  obtain ⟨t, h⟩ := h
  exact ⟨t, (hg.block b hl (by simpa using hne)).trans h⟩

theorem own_aside {w : World} {g c b : Nat} {l : List Int} (h : Own w g c l) (hne : b ≠ g) (u v : Value) : Own ((w.setCell ⟨b, 0, none⟩ u).setCell ⟨b, 1, none⟩ v) g c l := put_far h hne u v

theorem arg_grown {w w' : World} {ao : Option Addr} {l : List Int} {g : Nat} (h : Arg w ao l) (hg : w.grownBy w' (some g)) (hne : ∀ a, ao = some a → a.block ≠ g) : Arg w' ao l := fun hl => by
  obtain ⟨a, e, hR⟩ := h hl
  refine ⟨a, e, fun j hj => ?_⟩
  have hb : (a.add j).block = a.block := by unfold Addr.add; split <;> rfl
  exact hg.cell (hR j hj) (by rw [hb]; simpa using hne a e)
end Go.Proofs.Ytbnebinpemejlaa

namespace Go.Proofs.Ytbnebinpemejlaa
open Go.RowKit

theorem qV_set (ps : List Pq) (k : Nat) (x y : Int) : ((qV ps).set (k * 2) (.int .i64 x)).set (k * 2 + 1) (.int .i64 y) = qV (ps.set k (x, y)) := by
  induction ps generalizing k with
  | nil => simp [qV]
  | cons c cs ih =>
    have e : ∀ c cs, qV (c :: cs) = .int .i64 c.1 :: .int .i64 c.2 :: qV cs := fun _ _ => rfl
    cases k with
    | zero => simp [e]
    | succ k =>
      rw [e, List.set_cons_succ, e, show (k + 1) * 2 = k * 2 + 1 + 1 by omega, show k * 2 + 1 + 1 + 1 = (k * 2 + 1) + 1 + 1 by omega]
      rw [List.set_cons_succ, List.set_cons_succ, List.set_cons_succ, List.set_cons_succ, ih]

set_option maxRecDepth 100000 in
set_option maxHeartbeats 1000000 in
theorem set_gen (ps : List Pq) (pa : Addr) (pc k : Nat) (x y : Int) (w : World) (hP : Rd2 w pa ps) (hk : k < ps.length) (hl : ps.length ≤ 50) :
    Calls Try.prog 47 #[.slice (some pa) ps.length pc, .int .i64 ((k : Int) + 1), .agg #[.int .i64 x, .int .i64 y]] w
      (fun e w' => ∃ qo qc, e = .returned (.slice qo ps.length qc) ∧ Arg2 w' qo (ps.set k (x, y)) ∧ Below w.heap.size w w') := by
  obtain ⟨i0, hi, hz0, hz1, hz2⟩ := info_parts rat_info
  have l1 : (qV ps).length = ps.length * 2 := qV_len ps
  have o1 := qV_one ps
  have A := Lib.hid (show ∀ (w' : World), Below w.heap.size w w' → ∀ j u, (qV ps)[j]? = some u → w'.cell? (pa.add j) = some u from fun w' h => qV_cells (hP.on h))
  have HQ := Lib.hid (show ∀ (W : World) g cap, W.ownsRow w.heap.size 52 2 (.slice (some ⟨g, 0, none⟩) ps.length cap) ps.length (qV ps) →
      Rd2 ((W.setCell ⟨g, k * 2, none⟩ (.int .i64 x)).setCell ⟨g, k * 2 + 1, none⟩ (.int .i64 y)) ⟨g, 0, none⟩ (ps.set k (x, y)) from fun W g cap h => by
    have h1 := (World.ownsRow.stored h (k * 2) (.int .i64 x)).1
    have h2 := (World.ownsRow.stored h1 (k * 2 + 1) (.int .i64 y)).1
    rw [qV_set] at h2
    have e : (ps.set k (x, y)).length = ps.length := by simp
    rw [← e] at h2
    exact OwnQ.rd h2)
  have HC := Lib.hid (show ∀ (W : World) g cap, W.ownsRow w.heap.size 52 2 (.slice (some ⟨g, 0, none⟩) ps.length cap) ps.length (qV ps) →
      W.cell? ⟨g, k * 2, none⟩ = some (.int .i64 (gp ps k).1) ∧ W.cell? ⟨g, k * 2 + 1, none⟩ = some (.int .i64 (gp ps k).2) ∧ W.frozen? ⟨g, k * 2, none⟩ = false ∧ W.frozen? ⟨g, k * 2 + 1, none⟩ = false from fun W g cap h => by
    obtain ⟨c0, c1⟩ := qV_at ps k hk
    exact ⟨(World.ownsRow.cellAt h (k * 2) (by omega)).trans c0, (World.ownsRow.cellAt h (k * 2 + 1) (by omega)).trans c1, World.ownsRow.frozenAt h _, World.ownsRow.frozenAt h _⟩)
  generalize qV ps = xs at *
  generalize ps.set k (x, y) = qs at *
  generalize gp ps k = q at *
  generalize hlen : ps.length = len at *
  clear hlen hP
  have XP := Lib.hid (show Pair ((w.alloc (.cells #[.int .i64 x, .int .i64 y] 52)).alloc (.cells #[] 52)) w.heap.size x y from (Pair.made _ _ _ _).alloc _)
  have E0 := Lib.hid (show Below w.heap.size w ((w.alloc (.cells #[.int .i64 x, .int .i64 y] 52)).alloc (.cells #[] 52)) from past_two (Below.refl _ _))
  have OW := Lib.hid (show World.ownsRow ((w.alloc (.cells #[.int .i64 x, .int .i64 y] 52)).alloc (.cells #[] 52)) w.heap.size 52 2 (.slice (some ⟨w.heap.size + 1, 0, none⟩) 0 0) 0 [] by
    have := World.ownsRow_made (w.alloc (.cells #[.int .i64 x, .int .i64 y] 52)) (base := w.heap.size) (e := 52) (size := 2) #[] 0 (by simp) (Nat.zero_le _) (by simp)
    simpa using this)
  go_enter Try.func47, Try.ntmps47
  go_wp2_with (at_builtin; refine wpList_append_own _ rfl _ _ 48 rfl w.heap.size 52 i0 (.agg #[.int .i64 0, .int .i64 0]) 2 16 Try.underlying48 hi hz0 hz1 hz2 rfl (by decide) _ 0 [] rfl OW.out pa len pc xs rfl l1 (A.out _ E0.out) o1 (by unfold maxLen; omega) (by omega) (by simp; omega) ?_)
  intro v' w1 hown hgrow _
  have hgrow2 := hgrow
  simp only [Value.ownBlock] at hgrow2
  have B1 := Lib.hid (show Below w.heap.size w w1 from Below.grown E0.out hgrow (by simp; omega) (by intro k hk; simp [Value.ownBlock] at hk; omega))
  have XP1 := Lib.hid (XP.out.grown hgrow2 (by omega))
  obtain ⟨g, cap, rfl, hg⟩ : ∃ g cap, v' = .slice (some ⟨g, 0, none⟩) len cap ∧ w.heap.size ≤ g := by
    rcases hown.2 with ⟨_, hn⟩ | ⟨g, cap, cur, rfl, hb, _⟩
    · omega
    · exact ⟨g, cap, rfl, hb⟩
  obtain ⟨c0, c1, z0, z1⟩ := HC.out _ _ _ hown
  have HQ1 := Lib.hid (HQ.out _ _ _ hown)
  obtain ⟨f0, f1, f2, f3⟩ := XP1.out.facts
  have kl : (k : Int) < (len : Int) := by omega
  have kb : (k : Int) < 50 := by omega
  clear hown hgrow hgrow2 OW XP E0 A HC HQ hi hz0 hz1 hz2 o1 l1 i0
  go_wp2_with fail
  go_ret
  exact ⟨_, _, rfl, fun _ => ⟨_, rfl, HQ1.out⟩, (B1.out.setCell hg _).setCell hg _⟩
end Go.Proofs.Ytbnebinpemejlaa

namespace Go.Proofs.Ytbnebinpemejlaa.Zo

/-- The number q / D meets the limit l. -/
def mt (D q l : Int) : Prop := l = 1099511627776 ∨ (l % 2 = 0 ∧ q < l / 2 * D) ∨ (¬ l % 2 = 0 ∧ q ≤ l / 2 * D)

theorem mt_none (D q : Int) : mt D q 1099511627776 := Or.inl rfl

theorem mt_one {D q : Int} : mt D q 1 ↔ q ≤ 0 := by
  unfold mt
  have : (1 : Int) / 2 * D = 0 := by rw [show (1 : Int) / 2 = 0 by decide]; omega
  rw [this]; omega

theorem mt_mono {D q a b : Int} (hD : 0 < D) (hab : a ≤ b) (hb : b ≤ 1099511627776) (h : mt D q a) : mt D q b := by
  unfold mt at h ⊢
  by_cases e : b = 1099511627776
  · exact Or.inl e
  · right
    have hl : a / 2 * D ≤ b / 2 * D := Int.mul_le_mul_of_nonneg_right (by omega) (by omega)
    rcases h with h | ⟨h1, h2⟩ | ⟨h1, h2⟩
    · omega
    · by_cases p : b % 2 = 0
      · exact Or.inl ⟨p, by omega⟩
      · exact Or.inr ⟨p, by omega⟩
    · by_cases p : b % 2 = 0
      · have : (a / 2 + 1) * D ≤ b / 2 * D := Int.mul_le_mul_of_nonneg_right (by omega) (by omega)
        rw [Int.add_mul] at this
        exact Or.inl ⟨p, by omega⟩
      · exact Or.inr ⟨p, by omega⟩

theorem mt_min {D q a b : Int} (h : mt D q a) (k : mt D q b) : mt D q (min a b) := by
  rcases Int.le_total a b with c | c
  · rwa [Int.min_eq_left c]
  · rwa [Int.min_eq_right c]

/-- What is met is not far below. -/
theorem mt_low {D q a M : Int} (hD : 0 < D) (hq : -(M * D) ≤ q) (h : mt D q a) (hM : 0 ≤ M) : -(2 * M) ≤ a := by
  unfold mt at h
  by_cases e : a < -(2 * M)
  · exfalso
    have hl : (a / 2 + M) * D ≤ -1 * D := Int.mul_le_mul_of_nonneg_right (by omega) (by omega)
    rw [Int.add_mul] at hl
    omega
  · omega

theorem mt_sum {D p q a b : Int} (ha : -1152921504606846976 ≤ a) (ha' : a ≤ 1152921504606846976) (hb : -1152921504606846976 ≤ b) (hb' : b ≤ 1152921504606846976) (h : mt D p a) (k : mt D q b) : mt D (p + q) (smW a b) := by
  unfold smW
  by_cases na : a = 1099511627776
  · rw [if_pos (Or.inl na)]; exact mt_none _ _
  by_cases nb : b = 1099511627776
  · rw [if_pos (Or.inr nb)]; exact mt_none _ _
  rw [if_neg (by omega)]
  unfold mt at h k
  have s : ∀ c, c = a / 2 + b / 2 → c * D = a / 2 * D + b / 2 * D := by intro c hc; rw [hc, Int.add_mul]
  by_cases ea : a % 2 = 0
  · by_cases eb : b % 2 = 0
    · rw [if_pos ⟨ea, eb⟩, w64_in (by omega) (by omega)]
      have := s ((a + b) / 2) (by omega)
      unfold mt; omega
    · rw [if_neg (by omega), w64_in (x := a + b) (by omega) (by omega), w64_in (by omega) (by omega)]
      have := s ((a + b - 1) / 2) (by omega)
      unfold mt; omega
  · rw [if_neg (by omega), w64_in (x := a + b) (by omega) (by omega), w64_in (by omega) (by omega)]
    have := s ((a + b - 1) / 2) (by omega)
    unfold mt; omega

/-- The point X / D is in the set of the matrix. -/
def In (n : Nat) (l : List Int) (D : Int) (X : Nat → Int) : Prop := ∀ i j, i ≤ n → j ≤ n → mt D (X i - X j) (At n l i j)

/-- A point: from 0 on, the clock 0 is 0, and no value is above M. -/
structure Pt (n : Nat) (D : Int) (X : Nat → Int) (M : Int) : Prop where
  pos : 0 < D
  zero : X 0 = 0
  low : ∀ i, i ≤ n → 0 ≤ X i
  high : ∀ i, i ≤ n → X i ≤ M * D

theorem Pt.diff {n : Nat} {D : Int} {X : Nat → Int} {M : Int} (h : Pt n D X M) {i j : Nat} (hi : i ≤ n) (hj : j ≤ n) : -(M * D) ≤ X i - X j := by
  have := h.low i hi
  have := h.high j hj
  omega

theorem Pt.le {n : Nat} {D : Int} {X : Nat → Int} {M : Int} (h : Pt n D X M) : 0 ≤ M := by
  have a := h.low 0 (by omega)
  have b := h.high 0 (by omega)
  rcases Int.lt_or_le M 0 with c | c
  · have : M * D < 0 * D := Int.mul_lt_mul_of_pos_right c h.pos
    omega
  · exact c

def Top (n : Nat) (l : List Int) : Prop := l.length = (n + 1) * (n + 1) ∧ ∀ i j, i ≤ n → j ≤ n → At n l i j ≤ 1099511627776

theorem Top.put {n : Nat} {l : List Int} (h : Top n l) {i j : Nat} (hi : i ≤ n) (hj : j ≤ n) (y : Int) : Top n (l.set (ix n i j) (min (At n l i j) y)) :=
  ⟨by simpa using h.1, fun _ _ ha hb => Int.le_trans (set_le h.1 hi hj y hb) (h.2 _ _ ha hb)⟩

/-- A point of the matrix is one of what is closed. -/
theorem clo_sound {n : Nat} {l : List Int} {D M : Int} {X : Nat → Int} (hp : Pt n D X M) (hM : M ≤ 4611686018427387) (ht : Top n l) (h : In n l D X) : In n (clo n l) D X := by
  have r : Top n (clo n l) ∧ In n (clo n l) D X := by
    refine clo_keeps (R := fun l => Top n l ∧ In n l D X) (fun l i j hij hi hj hl => ⟨hl.1.put hi hj 1, fun a b ha hb => ?_⟩) (fun l k i j hk hi hj hl => ⟨hl.1.put hi hj _, fun a b ha hb => ?_⟩) ⟨ht, h⟩
    · rw [At_set hl.1.1 hi hj _ hb]
      split
      · rename_i e
        rw [e.1, e.2]
        refine mt_min (hl.2 i j hi hj) (mt_one.2 ?_)
        rcases hij with z | z
        · subst z; have := hp.low j hj; rw [hp.zero]; omega
        · subst z; omega
      · exact hl.2 a b ha hb
    · unfold rlx
      rw [At_set hl.1.1 hi hj _ hb]
      split
      · rename_i e
        rw [e.1, e.2]
        have h1 := hl.2 i k hi hk
        have h2 := hl.2 k j hk hj
        have l1 := mt_low hp.pos (hp.diff hi hk) h1 hp.le
        have l2 := mt_low hp.pos (hp.diff hk hj) h2 hp.le
        have u1 := hl.1.2 i k hi hk
        have u2 := hl.1.2 k j hk hj
        refine mt_min (hl.2 i j hi hj) ?_
        have := mt_sum (by omega) (by omega) (by omega) (by omega) h1 h2
        rwa [show X i - X k + (X k - X j) = X i - X j by omega] at this
      · exact hl.2 a b ha hb
  exact r.2

theorem clo_le {n : Nat} {l : List Int} (hl : l.length = (n + 1) * (n + 1)) : ∀ a b, a ≤ n → b ≤ n → At n (clo n l) a b ≤ At n l a b := by
  intro a b ha hb
  exact (clo_keeps (R := fun x : List Int => x.length = (n + 1) * (n + 1) ∧ At n x a b ≤ At n l a b)
    (fun x i j _ hi hj hx => ⟨by simpa using hx.1, Int.le_trans (set_le hx.1 hi hj _ hb) hx.2⟩)
    (fun x k i j _ hi hj hx => ⟨by simpa [rlx] using hx.1, Int.le_trans (set_le hx.1 hi hj _ hb) hx.2⟩) ⟨hl, Int.le_refl _⟩).2

/-- And the other way round. -/
theorem clo_complete {n : Nat} {l : List Int} {D : Int} {X : Nat → Int} (hD : 0 < D) (ht : Top n l) (h : In n (clo n l) D X) : In n l D X :=
  fun i j hi hj => mt_mono hD (clo_le ht.1 i j hi hj) (ht.2 i j hi hj) (h i j hi hj)

/-- A set with a point is not told to be empty. -/
theorem In.diag {n : Nat} {l : List Int} {D : Int} {X : Nat → Int} (hD : 0 < D) (h : In n l D X) {i : Nat} (hi : i ≤ n) : 1 ≤ At n l i i := by
  have := h i i hi hi
  rw [Int.sub_self] at this
  unfold mt at this
  rcases this with e | ⟨e, g⟩ | ⟨e, g⟩
  · omega
  · by_cases c : At n l i i / 2 ≤ 0
    · have : At n l i i / 2 * D ≤ 0 * D := Int.mul_le_mul_of_nonneg_right c (by omega)
      omega
    · omega
  · by_cases c : At n l i i / 2 ≤ -1
    · have : At n l i i / 2 * D ≤ -1 * D := Int.mul_le_mul_of_nonneg_right c (by omega)
      omega
    · omega
end Go.Proofs.Ytbnebinpemejlaa.Zo

namespace Go.Proofs.Ytbnebinpemejlaa

/-- The point ps, over the denominator D. -/
structure Ov (D : Int) (X : Nat → Int) (ps : List Pq) : Prop where
  pos : 0 < D
  val : ∀ i, i ≤ ps.length → X i * (clk ps i).2 = (clk ps i).1 * D

theorem lt_scale {x y d D q : Int} (hD : 0 < D) (hd : 0 < d) (e : x * D = q * d) {c : Int} (hy : y = c * d) : x < y ↔ q < c * D := by
  subst hy
  constructor
  · intro h
    have h1 : x * D < c * d * D := Int.mul_lt_mul_of_pos_right h hD
    rw [e, Int.mul_right_comm] at h1
    exact Int.lt_of_mul_lt_mul_right h1 (by omega)
  · intro h
    have h1 : q * d < c * D * d := Int.mul_lt_mul_of_pos_right h hd
    rw [← e, Int.mul_right_comm] at h1
    exact Int.lt_of_mul_lt_mul_right h1 (by omega)

theorem le_scale {x y d D q : Int} (hD : 0 < D) (hd : 0 < d) (e : x * D = q * d) {c : Int} (hy : y = c * d) : x ≤ y ↔ q ≤ c * D := by
  subst hy
  constructor
  · intro h
    have h1 : x * D ≤ c * d * D := Int.mul_le_mul_of_nonneg_right h (by omega)
    rw [e, Int.mul_right_comm] at h1
    exact Int.le_of_mul_le_mul_right h1 hd
  · intro h
    have h1 : q * d ≤ c * D * d := Int.mul_le_mul_of_nonneg_right h (by omega)
    rw [← e, Int.mul_right_comm] at h1
    exact Int.le_of_mul_le_mul_right h1 hD

theorem vld_pos {n d : Int} (v : vldB n d = true) : 1 ≤ d ∧ d ≤ 2147483647 ∧ -2147483647 ≤ n ∧ n ≤ 2147483647 := by
  unfold vldB at v; simp at v; omega

/-- What meeting a limit says, over another denominator. -/
theorem me_mt {n d a b D q l : Int} (v : vldB n d = true) (vl : lvB l = true) (hb : 0 < b) (hD : 0 < D) (e : n * b = a * d) (e2 : q * b = a * D) : meB n d l = true ↔ Zo.mt D q l := by
  have hd := vld_pos v
  have key : n * D = q * d := by
    have h1 : n * D * b = q * d * b := by
      rw [Int.mul_right_comm n D b, e, Int.mul_right_comm q d b, e2, Int.mul_right_comm a d D]
    exact Int.eq_of_mul_eq_mul_right (by omega) h1
  unfold meB mtB Zo.mt
  rw [v, vl]
  by_cases nl : l = 1099511627776
  · simp [noB, nl]
  · have nb : noB l = false := by simp [noB, nl]
    rw [nb]
    by_cases ev : l % 2 = 0
    · have eb : evB l = true := by simp [evB, ev]
      rw [eb]
      have := lt_scale hD (show 0 < d by omega) key (c := l / 2) rfl
      simp [nl, ev, this]
    · have eb : evB l = false := by simp [evB, ev]
      rw [eb]
      have := le_scale hD (show 0 < d by omega) key (c := l / 2) rfl
      simp [nl, ev, this]

theorem rd_parts {n : Nat} {l : List Int} {ps : List Pq} (h : rdE n l ps = 0) : chkE n l = 0 ∧ ps.length = n ∧ (∀ k, k < ps.length → vldC (gp ps k) = true) ∧ (∀ i, i ≤ n → ∀ j, j ≤ n → sbE ps i j = 0) := by
  obtain ⟨h1, h2, h3, h4⟩ := rd_ok h
  exact ⟨h1, by omega, h3, fun i hi j hj => rdR_at h4 (by simpa using Nat.lt_succ_of_le hi) (by simpa using Nat.lt_succ_of_le hj)⟩

theorem clk_vld {ps : List Pq} (h : ∀ k, k < ps.length → vldC (gp ps k) = true) {i : Nat} (hi : i ≤ ps.length) : vldB (clk ps i).1 (clk ps i).2 = true ∧ 0 ≤ (clk ps i).1 := by
  refine ⟨clk_ok h hi, ?_⟩
  unfold clk
  split
  · simp
  · have := h (i - 1) (by omega)
    unfold vldC at this
    simp at this
    exact this.2

theorem Ov.sub {D : Int} {X : Nat → Int} {ps : List Pq} (h : Ov D X ps) {i j : Nat} (hi : i ≤ ps.length) (hj : j ≤ ps.length) :
    (X i - X j) * ((clk ps i).2 * (clk ps j).2) = ((clk ps i).1 * (clk ps j).2 - (clk ps j).1 * (clk ps i).2) * D := by
  have a := h.val i hi
  have b := h.val j hj
  rw [Int.sub_mul, Int.sub_mul, ← Int.mul_assoc, a, Int.mul_comm (clk ps i).2 (clk ps j).2, ← Int.mul_assoc, b]
  rw [Int.mul_right_comm, Int.mul_right_comm (clk ps j).1]

/-- One element, over one denominator. -/
theorem hs_mt {n : Nat} {l : List Int} {ps : List Pq} {D : Int} {X : Nat → Int} (hv : ∀ k, k < ps.length → vldC (gp ps k) = true) (ho : Ov D X ps) {i j : Nat} (hi : i ≤ ps.length) (hj : j ≤ ps.length) (hs : sbE ps i j = 0) (hl : lvB (Zo.At n l i j) = true) :
    hsM n l ps i j = true ↔ Zo.mt D (X i - X j) (Zo.At n l i j) := by
  obtain ⟨_, h2, h3⟩ := mk_ok hs
  have p1 := vld_pos (clk_vld hv hi).1
  have p2 := vld_pos (clk_vld hv hj).1
  have hb : 0 < (clk ps i).2 * (clk ps j).2 := Int.mul_pos (by omega) (by omega)
  exact me_mt h2 hl hb ho.pos h3 (ho.sub hi hj)

theorem chk_len {n : Nat} {l : List Int} (h : chkE n l = 0) : n ≤ 10 ∧ l.length = (n + 1) * (n + 1) ∧ rdL l = true := by
  have hb : rdB (n : Int) l = true := by
    cases c : rdB (n : Int) l
    · rw [chk_read c] at h; cases h
    · rfl
  unfold rdB at hb
  rw [Bool.and_eq_true, Bool.and_eq_true] at hb
  obtain ⟨⟨h1, h2⟩, h3⟩ := hb
  simp [dimB] at h1
  simp at h2
  exact ⟨by omega, h2, h3⟩

theorem chk_lvs {n : Nat} {l : List Int} (h : chkE n l = 0) {i j : Nat} (hi : i ≤ n) (hj : j ≤ n) : lvB (Zo.At n l i j) = true := by
  obtain ⟨_, h2, h3⟩ := chk_len h
  exact lv_of_all h2 h3 i j hi hj

theorem chk_top {n : Nat} {l : List Int} (h : chkE n l = 0) : Zo.Top n l := by
  obtain ⟨_, h2, h3⟩ := chk_len h
  exact ⟨h2, fun i j hi hj => vl_top (vl_of h2 h3 i j hi hj)⟩

/-- What Has says of a point. -/
theorem has_in {n : Nat} {l : List Int} {ps : List Pq} {D : Int} {X : Nat → Int} (hr : rdE n l ps = 0) (ho : Ov D X ps) : hsR n l ps = true ↔ Zo.In n l D X := by
  obtain ⟨h1, h2, h3, h4⟩ := rd_parts hr
  unfold hsR
  rw [hr]
  simp only [decide_true, Bool.true_and, Int.toNat_natCast]
  rw [hsB_iff]
  constructor
  · intro h i j hi hj
    exact (hs_mt h3 ho (by omega) (by omega) (h4 i hi j hj) (chk_lvs h1 hi hj)).1 (h i (by omega) j (by omega))
  · intro h i hi j hj
    exact (hs_mt h3 ho (by omega) (by omega) (h4 i (by omega) j (by omega)) (chk_lvs h1 (by omega) (by omega))).2 (h i j (by omega) (by omega))

theorem rdE_other {n : Nat} {l m : List Int} {ps : List Pq} (h1 : chkE n l = 0) (h2 : chkE n m = 0) : rdE n l ps = rdE n m ps := by
  unfold rdE; rw [h1, h2]

theorem Ov.pt {n : Nat} {D : Int} {X : Nat → Int} {ps : List Pq} (h : Ov D X ps) (hp : ps.length = n) (hv : ∀ k, k < ps.length → vldC (gp ps k) = true) : Zo.Pt n D X 2147483647 := by
  have key : ∀ i, i ≤ n → 0 ≤ X i ∧ X i ≤ 2147483647 * D := by
    intro i hi
    have e := h.val i (by omega)
    obtain ⟨v, z⟩ := clk_vld hv (i := i) (by omega)
    have q := vld_pos v
    have hD := h.pos
    generalize (clk ps i).1 = a at *
    generalize (clk ps i).2 = d at *
    constructor
    · have : 0 * d ≤ X i * d := by rw [e, Int.zero_mul]; exact Int.mul_nonneg z (by omega)
      exact Int.le_of_mul_le_mul_right this (by omega)
    · have h1 : a * D ≤ 2147483647 * D := Int.mul_le_mul_of_nonneg_right (by omega) (by omega)
      have h0 : 0 ≤ 2147483647 * D := by omega
      have h2 : 2147483647 * D * 1 ≤ 2147483647 * D * d := Int.mul_le_mul_of_nonneg_left (by omega) h0
      have : X i * d ≤ 2147483647 * D * d := by rw [e]; omega
      exact Int.le_of_mul_le_mul_right this (by omega)
  refine ⟨h.pos, ?_, fun i hi => (key i hi).1, fun i hi => (key i hi).2⟩
  have e := h.val 0 (by omega)
  simp [clk] at e
  exact e

/-- Every point has a denominator. -/
def dnP (ps : List Pq) : Int := ps.foldr (fun p r => p.2 * r) 1

theorem dnP_pos {ps : List Pq} (h : ∀ p ∈ ps, 1 ≤ p.2) : 1 ≤ dnP ps := by
  induction ps with
  | nil => simp [dnP]
  | cons p ps ih =>
    have h1 := h p (by simp)
    have h2 := ih (fun q hq => h q (by simp [hq]))
    show 1 ≤ p.2 * dnP ps
    have : 0 < p.2 * dnP ps := Int.mul_pos (by omega) (by omega)
    omega

theorem dnP_dvd {ps : List Pq} {p : Pq} (h : p ∈ ps) : p.2 ∣ dnP ps := by
  induction ps with
  | nil => cases h
  | cons q ps ih =>
    show p.2 ∣ q.2 * dnP ps
    rcases List.mem_cons.1 h with rfl | h
    · exact Int.dvd_mul_right _ _
    · exact Int.dvd_trans (ih h) (Int.dvd_mul_left _ _)

theorem gp_mem {ps : List Pq} {k : Nat} (h : k < ps.length) : gp ps k ∈ ps := by
  unfold gp
  rw [List.getD_eq_getElem?_getD, List.getElem?_eq_getElem h]
  exact List.getElem_mem h

theorem ov_of {ps : List Pq} (hv : ∀ k, k < ps.length → vldC (gp ps k) = true) : Ov (dnP ps) (fun i => (clk ps i).1 * (dnP ps / (clk ps i).2)) ps := by
  have h2 : ∀ p ∈ ps, 1 ≤ p.2 := by
    intro p hp
    obtain ⟨k, hk, rfl⟩ := List.getElem_of_mem hp
    have := hv k hk
    unfold gp at this
    rw [List.getD_eq_getElem?_getD, List.getElem?_eq_getElem hk] at this
    simp [vldC] at this
    exact (vld_pos this.1).1
  refine ⟨by have := dnP_pos h2; omega, fun i hi => ?_⟩
  show (clk ps i).1 * (dnP ps / (clk ps i).2) * (clk ps i).2 = _
  rw [Int.mul_assoc]
  congr 1
  refine Int.ediv_mul_cancel ?_
  unfold clk
  split
  · exact Int.one_dvd _
  · exact dnP_dvd (gp_mem (by omega))

/-- Constraints. -/
theorem an_in {n : Nat} {cs : List Con} {l : List Int} {D : Int} {X : Nat → Int} (hD : 0 < D) (hl : Zo.Top n l) (hok : ∀ t, t < cs.length → okC n (gc cs t) = true) :
    Zo.In n (anL n cs l) D X ↔ Zo.In n l D X ∧ ∀ t, t < cs.length → Zo.mt D (X (gc cs t).1.toNat - X (gc cs t).2.1.toNat) (gc cs t).2.2 := by
  have hl1 := hl.1
  have step : ∀ s, s ≤ cs.length → (Zo.In n ((List.range s).foldl (anS n cs) l) D X ↔ Zo.In n l D X ∧ ∀ t, t < s → Zo.mt D (X (gc cs t).1.toNat - X (gc cs t).2.1.toNat) (gc cs t).2.2) ∧ Zo.Top n ((List.range s).foldl (anS n cs) l) := by
    intro s
    induction s with
    | zero => intro _; exact ⟨⟨fun h => ⟨h, fun t ht => absurd ht (by omega)⟩, fun h => h.1⟩, hl⟩
    | succ s ih =>
      intro hs
      obtain ⟨i1, i2⟩ := ih (by omega)
      obtain ⟨p1, p2, p3⟩ := okC_parts (hok s (by omega))
      rw [Zo.fold_succ]
      generalize hu : (List.range s).foldl (anS n cs) l = u at *
      have hat : ∀ a b, b ≤ n → Zo.At n (anS n cs u s) a b = if a = (gc cs s).1.toNat ∧ b = (gc cs s).2.1.toNat then imin (Zo.At n u (gc cs s).1.toNat (gc cs s).2.1.toNat) (gc cs s).2.2 else Zo.At n u a b := fun a b hb => anS_at i2.1 (hok s (by omega)) hb
      have ht : Zo.Top n (anS n cs u s) := by
        refine ⟨by rw [anS_len]; exact i2.1, fun a b ha hb => ?_⟩
        rw [hat a b hb]
        split
        · have := i2.2 _ _ p1 p2
          unfold imin
          omega
        · exact i2.2 a b ha hb
      refine ⟨?_, ht⟩
      constructor
      · intro h
        have hu2 : Zo.In n u D X := by
          intro a b ha hb
          have := h a b ha hb
          rw [hat a b hb] at this
          split at this
          · rename_i e
            rw [e.1, e.2] at *
            exact Zo.mt_mono hD (by unfold imin; omega) (i2.2 _ _ p1 p2) this
          · exact this
        refine ⟨(i1.1 hu2).1, fun t htt => ?_⟩
        by_cases c : t = s
        · subst c
          have := h _ _ p1 p2
          rw [hat _ _ p2, if_pos ⟨rfl, rfl⟩] at this
          exact Zo.mt_mono hD (by unfold imin; omega) (vl_top p3) this
        · exact (i1.1 hu2).2 t (by omega)
      · intro h a b ha hb
        have hu2 := i1.2 ⟨h.1, fun t htt => h.2 t (by omega)⟩
        rw [hat a b hb]
        split
        · rename_i e
          rw [e.1, e.2]
          exact Zo.mt_min (hu2 _ _ p1 p2) (h.2 s (by omega))
        · exact hu2 a b ha hb
  exact (step cs.length (Nat.le_refl _)).1

/-- Closing: the points stay, and a set with a point is not empty. -/
theorem clo_in {n : Nat} {l : List Int} {D M : Int} {X : Nat → Int} (hp : Zo.Pt n D X M) (hM : M ≤ 4611686018427387) (ht : Zo.Top n l) : Zo.In n (Zo.clo n l) D X ↔ Zo.In n l D X :=
  ⟨Zo.clo_complete hp.pos ht, Zo.clo_sound hp hM ht⟩

theorem clo_full {n : Nat} {l : List Int} {D M : Int} {X : Nat → Int} (hp : Zo.Pt n D X M) (hM : M ≤ 4611686018427387) (ht : Zo.Top n l) (h : Zo.In n l D X) : cloB n l = false :=
  cloB_iff.2 fun _ hi => Zo.In.diag hp.pos (Zo.clo_sound hp hM ht h) hi

theorem cloE_full {n : Nat} {l : List Int} (h : cloB n l = false) : cloE n l ≠ 4 := by
  unfold cloE
  rw [h]
  simp
  split <;> simp
end Go.Proofs.Ytbnebinpemejlaa

namespace Go.Proofs.Ytbnebinpemejlaa

/-- The ratio n / d is N / D. -/
structure Sc (D n d N : Int) : Prop where
  vld : vldB n d = true
  val : N * d = n * D

theorem scale_cmp {A B N M D q : Int} (hD : 0 < D) (hq : 0 < q) (e1 : A * D = N * q) (e2 : B * D = M * q) : (A < B ↔ N < M) ∧ (A = B ↔ N = M) := by
  refine ⟨⟨fun h => ?_, fun h => ?_⟩, ⟨fun h => ?_, fun h => ?_⟩⟩
  · have := Int.mul_lt_mul_of_pos_right h hD
    rw [e1, e2] at this
    exact Int.lt_of_mul_lt_mul_right this (by omega)
  · have := Int.mul_lt_mul_of_pos_right h hq
    rw [← e1, ← e2] at this
    exact Int.lt_of_mul_lt_mul_right this (by omega)
  · subst h
    rw [e1] at e2
    exact Int.eq_of_mul_eq_mul_right (by omega) e2
  · subst h
    rw [← e1] at e2
    exact Int.eq_of_mul_eq_mul_right (by omega) e2.symm

theorem sc_cmp {D n d N m c M : Int} (hD : 0 < D) (h : Sc D n d N) (k : Sc D m c M) : (n * c < m * d ↔ N < M) ∧ (n * c = m * d ↔ N = M) := by
  have p1 := vld_pos h.vld
  have p2 := vld_pos k.vld
  refine scale_cmp hD (q := d * c) (Int.mul_pos (by omega) (by omega)) ?_ ?_
  · rw [Int.mul_right_comm, ← h.val, Int.mul_assoc]
  · rw [Int.mul_right_comm, ← k.val, Int.mul_assoc, Int.mul_comm c d]

theorem lsB_sc {D n d N m c M : Int} (hD : 0 < D) (h : Sc D n d N) (k : Sc D m c M) (e : Bool) : lsB n d m c e = (decide (N < M) || (decide (N = M) && e)) := by
  obtain ⟨h1, h2⟩ := sc_cmp hD h k
  unfold lsB
  rw [h.vld, k.vld]
  simp only [Bool.and_self, if_true]
  rw [decide_eq_decide.2 h1, decide_eq_decide.2 h2]

theorem sh_sc {D n d N c : Int} (h : Sc D n d N) (e : shE n d c = 0) : Sc D (shN n d c) (shD n d c) (N + c * D) := by
  have p1 := vld_pos h.vld
  unfold shE opErr at e
  rw [h.vld] at e
  simp only [if_true] at e
  obtain ⟨_, v, val⟩ := mk_ok e
  have en : shN n d c = mkNum (n * 1 + c * d) (d * 1) := by unfold shN opNum; rw [h.vld]; rfl
  have ed : shD n d c = mkDen (n * 1 + c * d) (d * 1) := by unfold shD opDen; rw [h.vld]; rfl
  rw [en, ed]
  refine ⟨v, ?_⟩
  generalize mkNum (n * 1 + c * d) (d * 1) = P at *
  generalize mkDen (n * 1 + c * d) (d * 1) = Q at *
  rw [Int.mul_one, Int.mul_one] at val
  have hv := h.val
  have key : (N + c * D) * Q * d = P * D * d := by
    rw [Int.mul_right_comm P D d, val]
    rw [Int.mul_right_comm (N + c * D) Q d, Int.add_mul N, hv]
    rw [Int.add_mul (n * D), Int.add_mul n, Int.add_mul (n * Q)]
    congr 1
    · rw [Int.mul_right_comm]
    · rw [Int.mul_right_comm c D d, Int.mul_right_comm (c * d) D Q]
  exact Int.eq_of_mul_eq_mul_right (by omega) key

def noL' (u : Int) : Prop := u = 1099511627776

/-- The greatest: the least of the upper bounds. -/
def HiInv (D : Int) (x : Dl) (H : Int) (t : Nat) (Nv U : Nat → Int) : Prop :=
  (x.nh = true → ∀ s, s < t → U s = 1099511627776) ∧
  (x.nh = false → Sc D x.hn x.hd H ∧ (∃ s, s < t ∧ U s ≠ 1099511627776 ∧ H = Nv s + U s / 2 * D ∧ x.ho = decide (U s % 2 = 0)) ∧
    ∀ s, s < t → U s ≠ 1099511627776 → (H < Nv s + U s / 2 * D ∨ (H = Nv s + U s / 2 * D ∧ (U s % 2 = 0 → x.ho = true))))

/-- The least: the greatest of the lower bounds, and of 0. -/
def LoInv (D : Int) (x : Dl) (L : Int) (t : Nat) (Nv W : Nat → Int) : Prop :=
  Sc D x.ln x.ld L ∧ 0 ≤ L ∧ ((L = 0 ∧ x.lo = false) ∨ ∃ s, s < t ∧ W s ≠ 1099511627776 ∧ L = Nv s - W s / 2 * D ∧ x.lo = decide (W s % 2 = 0)) ∧
    ∀ s, s < t → W s ≠ 1099511627776 → (Nv s - W s / 2 * D < L ∨ (Nv s - W s / 2 * D = L ∧ (W s % 2 = 0 → x.lo = true)))

theorem sp_some {u : Int} (hl : lvB u = true) (hn : u ≠ 1099511627776) : spE u = 0 ∧ spC u = u / 2 ∧ spS u = decide (u % 2 = 0) := by
  have : noB u = false := by simp [noB, hn]
  simp [spE, spC, spS, hl, this, evB]

theorem sp_none : spE 1099511627776 = 4 := by decide

theorem hi_step {D : Int} {x : Dl} {H n d N u : Int} {t : Nat} {Nv U : Nat → Int} (hD : 0 < D) (h : HiInv D x H t Nv U) (hs : Sc D n d N) (hN : Nv t = N) (hU : U t = u) (hl : lvB u = true) (e : wuE n d u = 0) :
    ∃ H', HiInv D (wuL x n d u) H' (t + 1) Nv U := by
  obtain ⟨h1, h2⟩ := h
  by_cases hn : u = 1099511627776
  · refine ⟨H, ?_⟩
    have : wuL x n d u = x := by unfold wuL; rw [hn, sp_none]; rfl
    rw [this]
    refine ⟨fun q s hst => ?_, fun q => ?_⟩
    · by_cases c : s = t
      · subst c; rw [hU, hn]
      · exact h1 q s (by omega)
    · obtain ⟨a, ⟨s, s1, s2⟩, b⟩ := h2 q
      refine ⟨a, ⟨s, by omega, s2⟩, fun s hst hne => ?_⟩
      by_cases c : s = t
      · subst c; exact absurd (hU.trans hn) hne
      · exact b s (by omega) hne
  · obtain ⟨p1, p2, p3⟩ := sp_some hl hn
    have es : shE n d (u / 2) = 0 := by unfold wuE at e; rw [if_pos p1, p2] at e; exact e
    have hB := sh_sc hs es
    have ew : wuL x n d u = if x.nh || lsB (shN n d (u / 2)) (shD n d (u / 2)) x.hn x.hd (decide (u % 2 = 0)) then { x with hn := shN n d (u / 2), hd := shD n d (u / 2), ho := decide (u % 2 = 0), nh := false } else x := by
      unfold wuL; rw [if_pos p1, p2, p3]
    rw [ew]
    cases hnh : x.nh
    · obtain ⟨a, ⟨s, s1, s2, s3, s4⟩, b⟩ := h2 hnh
      have hls := lsB_sc hD hB a (decide (u % 2 = 0))
      rw [hls]
      by_cases c : N + u / 2 * D < H ∨ (N + u / 2 * D = H ∧ u % 2 = 0)
      · have : (false || (decide (N + u / 2 * D < H) || (decide (N + u / 2 * D = H) && decide (u % 2 = 0)))) = true := by simpa using c
        rw [if_pos this]
        refine ⟨N + u / 2 * D, And.intro (fun q => by cases q) (fun _ => And.intro hB (And.intro ⟨t, by omega, by rw [hU]; exact hn, by rw [hN, hU], by rw [hU]⟩ (fun s hst hne => ?_)))⟩
        by_cases k : s = t
        · subst k; right; rw [hN, hU]; exact ⟨rfl, fun q => by simp [q]⟩
        · rcases b s (by omega) hne with g | ⟨g1, g2⟩
          · left; rcases c with c | c <;> omega
          · rcases c with c | ⟨c1, c2⟩
            · left; omega
            · right; exact ⟨by omega, fun _ => by simp [c2]⟩
      · have : ¬ (false || (decide (N + u / 2 * D < H) || (decide (N + u / 2 * D = H) && decide (u % 2 = 0)))) = true := by simpa using c
        rw [if_neg this]
        refine ⟨H, And.intro (fun q => by rw [hnh] at q; cases q) (fun _ => And.intro a (And.intro ⟨s, by omega, s2, s3, s4⟩ (fun s hst hne => ?_)))⟩
        by_cases k : s = t
        · subst k; rw [hN, hU]
          by_cases g : H < N + u / 2 * D
          · exact Or.inl g
          · right; exact ⟨by omega, fun q => by exfalso; omega⟩
        · exact b s (by omega) hne
    · simp only [Bool.true_or, if_true]
      refine ⟨N + u / 2 * D, And.intro (fun q => by cases q) (fun _ => And.intro hB (And.intro ⟨t, by omega, by rw [hU]; exact hn, by rw [hN, hU], by rw [hU]⟩ (fun s hst hne => ?_)))⟩
      by_cases k : s = t
      · subst k; right; rw [hN, hU]; exact ⟨rfl, fun q => by simp [q]⟩
      · exact absurd (h1 hnh s (by omega)) hne

theorem lo_step {D : Int} {x : Dl} {L n d N w : Int} {t : Nat} {Nv W : Nat → Int} (hD : 0 < D) (h : LoInv D x L t Nv W) (hs : Sc D n d N) (hN : Nv t = N) (hW : W t = w) (hl : lvB w = true) (e : wlE n d w = 0) :
    ∃ L', LoInv D (wlL x n d w) L' (t + 1) Nv W := by
  obtain ⟨a, z, h1, h2⟩ := h
  by_cases hn : w = 1099511627776
  · refine ⟨L, ?_⟩
    have : wlL x n d w = x := by unfold wlL; rw [hn, sp_none]; rfl
    rw [this]
    refine ⟨a, z, ?_, fun s hst hne => ?_⟩
    · rcases h1 with h1 | ⟨s, s1, s2⟩
      · exact Or.inl h1
      · exact Or.inr ⟨s, by omega, s2⟩
    · by_cases c : s = t
      · subst c; exact absurd (hW.trans hn) hne
      · exact h2 s (by omega) hne
  · obtain ⟨p1, p2, p3⟩ := sp_some hl hn
    have es : shE n d (-(w / 2)) = 0 := by unfold wlE at e; rw [if_pos p1, p2] at e; exact e
    have hB := sh_sc hs es
    rw [Int.neg_mul, ← Int.sub_eq_add_neg] at hB
    have ew : wlL x n d w = if lsB x.ln x.ld (shN n d (-(w / 2))) (shD n d (-(w / 2))) (decide (w % 2 = 0)) then { x with ln := shN n d (-(w / 2)), ld := shD n d (-(w / 2)), lo := decide (w % 2 = 0) } else x := by
      unfold wlL; rw [if_pos p1, p2, p3]
    rw [ew]
    have hls := lsB_sc hD a hB (decide (w % 2 = 0))
    rw [hls]
    by_cases c : L < N - w / 2 * D ∨ (L = N - w / 2 * D ∧ w % 2 = 0)
    · have : (decide (L < N - w / 2 * D) || (decide (L = N - w / 2 * D) && decide (w % 2 = 0))) = true := by simpa using c
      rw [if_pos this]
      refine ⟨N - w / 2 * D, hB, by omega, Or.inr ⟨t, by omega, by rw [hW]; exact hn, by rw [hN, hW], by rw [hW]⟩, fun s hst hne => ?_⟩
      by_cases k : s = t
      · subst k; right; rw [hN, hW]; exact ⟨rfl, fun q => by simp [q]⟩
      · rcases h2 s (by omega) hne with g | ⟨g1, g2⟩
        · left; rcases c with c | c <;> omega
        · rcases c with c | ⟨c1, c2⟩
          · left; omega
          · right; exact ⟨by omega, fun _ => by simp [c2]⟩
    · have : ¬ (decide (L < N - w / 2 * D) || (decide (L = N - w / 2 * D) && decide (w % 2 = 0))) = true := by simpa using c
      rw [if_neg this]
      refine ⟨L, a, z, ?_, fun s hst hne => ?_⟩
      · rcases h1 with h1 | ⟨s, s1, s2⟩
        · exact Or.inl h1
        · exact Or.inr ⟨s, by omega, s2⟩
      · by_cases k : s = t
        · subst k; rw [hN, hW]
          by_cases g : N - w / 2 * D < L
          · exact Or.inl g
          · right; exact ⟨by omega, fun q => by exfalso; omega⟩
        · exact h2 s (by omega) hne

theorem wl_hi {D : Int} {x : Dl} {H n d w : Int} {t : Nat} {Nv U : Nat → Int} (h : HiInv D x H t Nv U) : HiInv D (wlL x n d w) H t Nv U := by
  unfold wlL
  split
  · split
    · exact h
    · exact h
  · exact h

theorem wu_lo {D : Int} {x : Dl} {L n d u : Int} {t : Nat} {Nv W : Nat → Int} (h : LoInv D x L t Nv W) : LoInv D (wuL x n d u) L t Nv W := by
  unfold wuL
  split
  · split
    · exact h
    · exact h
  · exact h

/-- The invariant of a walk over bounds. -/
theorem iv_inv {D : Int} (hD : 0 < D) {T : Nat} (X : Nat → Dl × Int) (r : Nat → Pq) (U W Nv : Nat → Int) (h0 : X 0 = (Dl.one, 0))
    (hs : ∀ t, t < T → (X t).2 = 0 → X (t + 1) = (wiL (X t).1 (r t).1 (r t).2 (U t) (W t), wiE (r t).1 (r t).2 (U t) (W t))) (hst : ∀ t, (X t).2 ≠ 0 → X (t + 1) = X t)
    (hr : ∀ t, t < T → Sc D (r t).1 (r t).2 (Nv t)) (hU : ∀ t, t < T → lvB (U t) = true) (hW : ∀ t, t < T → lvB (W t) = true) :
    ∀ t, t ≤ T → (X t).2 = 0 → ∃ L H, HiInv D (X t).1 H t Nv U ∧ LoInv D (X t).1 L t Nv W := by
  intro t
  induction t with
  | zero =>
    intro _ _
    rw [h0]
    refine ⟨0, 0, ⟨fun _ s hs => absurd hs (by omega), fun q => by cases q⟩, ⟨by decide, by show 0 * (1 : Int) = 0 * D; omega⟩, by omega, Or.inl ⟨rfl, rfl⟩, fun s hs => absurd hs (by omega)⟩
  | succ t ih =>
    intro ht he
    by_cases c : (X t).2 = 0
    · obtain ⟨L, H, hi, lo⟩ := ih (by omega) c
      have hx := hs t (by omega) c
      rw [hx] at he ⊢
      show ∃ L H, HiInv D (wiL _ _ _ _ _) H (t + 1) Nv U ∧ LoInv D (wiL _ _ _ _ _) L (t + 1) Nv W
      have he : wiE (r t).1 (r t).2 (U t) (W t) = 0 := he
      have e1 : wuE (r t).1 (r t).2 (U t) = 0 := by
        unfold wiE at he
        by_cases k : wuE (r t).1 (r t).2 (U t) = 0
        · exact k
        · rw [if_pos k] at he; exact absurd he k
      have e2 : wlE (r t).1 (r t).2 (W t) = 0 := by unfold wiE at he; rw [if_neg (by omega)] at he; exact he
      have ew : ∀ x, wiL x (r t).1 (r t).2 (U t) (W t) = wlL (wuL x (r t).1 (r t).2 (U t)) (r t).1 (r t).2 (W t) := fun x => by unfold wiL; rw [if_pos he]
      rw [ew]
      obtain ⟨H', hi'⟩ := hi_step hD hi (hr t (by omega)) rfl rfl (hU t (by omega)) e1
      obtain ⟨L', lo'⟩ := lo_step hD (wu_lo lo (n := (r t).1) (d := (r t).2) (u := U t)) (hr t (by omega)) rfl rfl (hW t (by omega)) e2
      exact ⟨L', H', wl_hi hi', lo'⟩
    · rw [hst t c] at he; exact absurd he c

/-- Y is in the interval. -/
def InI (x : Dl) (L H Y : Int) : Prop := (L < Y ∨ (L = Y ∧ x.lo = false)) ∧ (x.nh = true ∨ Y < H ∨ (Y = H ∧ x.ho = false))

theorem iv_member {D : Int} {x : Dl} {L H Y : Int} {t : Nat} {Nv U W : Nat → Int} (hi : HiInv D x H t Nv U) (lo : LoInv D x L t Nv W) :
    InI x L H Y ↔ 0 ≤ Y ∧ ∀ s, s < t → Zo.mt D (Y - Nv s) (U s) ∧ Zo.mt D (Nv s - Y) (W s) := by
  obtain ⟨a, z, l1, l2⟩ := lo
  obtain ⟨h1, h2⟩ := hi
  constructor
  · rintro ⟨p, q⟩
    refine ⟨by rcases p with p | p <;> omega, fun s hs => ⟨?_, ?_⟩⟩
    · unfold Zo.mt
      by_cases hn : U s = 1099511627776
      · exact Or.inl hn
      · right
        cases hnh : x.nh
        · rw [hnh] at q
          obtain ⟨_, _, b⟩ := h2 hnh
          have := b s hs hn
          by_cases ev : U s % 2 = 0
          · left
            refine ⟨ev, ?_⟩
            rcases q with q | q | ⟨q1, q2⟩
            · cases q
            · rcases this with g | ⟨g, _⟩ <;> omega
            · rcases this with g | ⟨g, g2⟩
              · omega
              · rw [g2 ev] at q2; cases q2
          · right
            refine ⟨ev, ?_⟩
            rcases q with q | q | ⟨q1, q2⟩
            · cases q
            · rcases this with g | ⟨g, _⟩ <;> omega
            · rcases this with g | ⟨g, _⟩ <;> omega
        · exact absurd (h1 hnh s hs) hn
    · unfold Zo.mt
      by_cases hn : W s = 1099511627776
      · exact Or.inl hn
      · right
        have := l2 s hs hn
        by_cases ev : W s % 2 = 0
        · left
          refine ⟨ev, ?_⟩
          rcases p with p | ⟨p1, p2⟩
          · rcases this with g | ⟨g, _⟩ <;> omega
          · rcases this with g | ⟨g, g2⟩
            · omega
            · rw [g2 ev] at p2; cases p2
        · right
          refine ⟨ev, ?_⟩
          rcases p with p | ⟨p1, p2⟩
          · rcases this with g | ⟨g, _⟩ <;> omega
          · rcases this with g | ⟨g, _⟩ <;> omega
  · rintro ⟨y, h⟩
    constructor
    · rcases l1 with ⟨e, f⟩ | ⟨s, hs, hn, e, f⟩
      · by_cases c : L < Y
        · exact Or.inl c
        · exact Or.inr ⟨by omega, f⟩
      · have := (h s hs).2
        unfold Zo.mt at this
        rcases this with g | ⟨g, g2⟩ | ⟨g, g2⟩
        · exact absurd g hn
        · left; omega
        · by_cases c : L < Y
          · exact Or.inl c
          · exact Or.inr ⟨by omega, by rw [f]; simp; omega⟩
    · cases hnh : x.nh
      · right
        obtain ⟨_, ⟨s, hs, hn, e, f⟩, _⟩ := h2 hnh
        have := (h s hs).1
        unfold Zo.mt at this
        rcases this with g | ⟨g, g2⟩ | ⟨g, g2⟩
        · exact absurd g hn
        · left; omega
        · by_cases c : Y < H
          · exact Or.inl c
          · exact Or.inr ⟨by omega, by rw [f]; simp; omega⟩
      · exact Or.inl rfl

/-- The interval is not empty. -/
def Full (x : Dl) (L H : Int) : Prop := x.nh = true ∨ L < H ∨ (L = H ∧ x.lo = false ∧ x.ho = false)

theorem empty_sc {D : Int} {x : Dl} {L H : Int} (hD : 0 < D) (h1 : Sc D x.ln x.ld L) (h2 : x.nh = false → Sc D x.hn x.hd H) : x.empty = false ↔ Full x L H := by
  unfold Dl.empty Full
  cases hnh : x.nh
  · rw [lsB_sc hD (h2 hnh) h1]
    cases x.lo <;> cases x.ho <;> simp <;> omega
  · simp

theorem full_of {D : Int} {x : Dl} {L H : Int} {t : Nat} {Nv U W : Nat → Int} (hi : HiInv D x H t Nv U) (lo : LoInv D x L t Nv W)
    (hz : ∀ s, s < t → Zo.mt D (-Nv s) (U s)) (hp : ∀ s r, s < t → r < t → U s ≠ 1099511627776 → W r ≠ 1099511627776 → (Nv r - Nv s < (U s / 2 + W r / 2) * D ∨ (Nv r - Nv s = (U s / 2 + W r / 2) * D ∧ ¬ U s % 2 = 0 ∧ ¬ W r % 2 = 0))) : Full x L H := by
  unfold Full
  cases hnh : x.nh
  · right
    obtain ⟨_, ⟨s, hs, hn, e, f⟩, _⟩ := hi.2 hnh
    obtain ⟨_, z, l1, _⟩ := lo
    rcases l1 with ⟨e2, f2⟩ | ⟨r, hr, hrn, e2, f2⟩
    · have := hz s hs
      unfold Zo.mt at this
      rcases this with g | ⟨g, g2⟩ | ⟨g, g2⟩
      · exact absurd g hn
      · left; omega
      · by_cases c : L < H
        · exact Or.inl c
        · exact Or.inr ⟨by omega, f2, by rw [f]; simp; omega⟩
    · have := hp s r hs hr hn hrn
      rw [Int.add_mul] at this
      rcases this with g | ⟨g, g2, g3⟩
      · left; omega
      · by_cases c : L < H
        · exact Or.inl c
        · exact Or.inr ⟨by omega, by rw [f2]; simp; omega, by rw [f]; simp; omega⟩
  · exact Or.inl rfl

/-- The least upper bound is above 0. -/
theorem full_up {D : Int} {x : Dl} {L H : Int} {t : Nat} {Nv U W : Nat → Int} (hi : HiInv D x H t Nv U) (lo : LoInv D x L t Nv W) (hf : Full x L H) : ∀ s, s < t → Zo.mt D (-Nv s) (U s) := by
  intro s hs
  unfold Zo.mt
  by_cases hn : U s = 1099511627776
  · exact Or.inl hn
  · right
    have z := lo.2.1
    cases hnh : x.nh
    · obtain ⟨_, _, b⟩ := hi.2 hnh
      have := b s hs hn
      unfold Full at hf
      rw [hnh] at hf
      by_cases ev : U s % 2 = 0
      · left
        refine ⟨ev, ?_⟩
        rcases hf with q | q | ⟨q1, q2, q3⟩
        · cases q
        · rcases this with g | ⟨g, _⟩ <;> omega
        · rcases this with g | ⟨g, g2⟩
          · omega
          · rw [g2 ev] at q3; cases q3
      · right
        refine ⟨ev, ?_⟩
        rcases hf with q | q | ⟨q1, q2, q3⟩
        · cases q
        · rcases this with g | ⟨g, _⟩ <;> omega
        · rcases this with g | ⟨g, _⟩ <;> omega
    · exact absurd (hi.1 hnh s hs) hn

theorem in_full {x : Dl} {L H Y : Int} (h : InI x L H Y) : Full x L H := by
  obtain ⟨p, q⟩ := h
  unfold Full
  rcases q with q | q | ⟨q1, q2⟩
  · exact Or.inl q
  · right; left; rcases p with p | p <;> omega
  · right
    rcases p with p | ⟨p1, p2⟩
    · left; omega
    · right; exact ⟨by omega, p2, q2⟩

/-- A sum of limits that is met. -/
theorem mt_split {D q a b : Int} (ha : a ≠ 1099511627776) (hb : b ≠ 1099511627776) (la : lvB a = true) (lb : lvB b = true) (h : Zo.mt D q (Zo.smW a b)) : q < (a / 2 + b / 2) * D ∨ (q = (a / 2 + b / 2) * D ∧ ¬ a % 2 = 0 ∧ ¬ b % 2 = 0) := by
  have va := vl_of_lv la
  have vb := vl_of_lv lb
  unfold Zo.Vl at va vb
  unfold Zo.smW at h
  rw [if_neg (by omega)] at h
  by_cases e : a % 2 = 0 ∧ b % 2 = 0
  · rw [if_pos e, Zo.w64_in (by omega) (by omega)] at h
    unfold Zo.mt at h
    rw [show (a + b) / 2 = a / 2 + b / 2 by omega] at h
    rcases h with h | ⟨h, g⟩ | ⟨h, g⟩
    · omega
    · exact Or.inl g
    · omega
  · rw [if_neg e, Zo.w64_in (x := a + b) (by omega) (by omega), Zo.w64_in (by omega) (by omega)] at h
    unfold Zo.mt at h
    rw [show (a + b - 1) / 2 = a / 2 + b / 2 by omega] at h
    rcases h with h | ⟨h, g⟩ | ⟨h, g⟩
    · omega
    · exact Or.inl g
    · by_cases c : q < (a / 2 + b / 2) * D
      · exact Or.inl c
      · exact Or.inr ⟨by omega, by omega, by omega⟩
end Go.Proofs.Ytbnebinpemejlaa
