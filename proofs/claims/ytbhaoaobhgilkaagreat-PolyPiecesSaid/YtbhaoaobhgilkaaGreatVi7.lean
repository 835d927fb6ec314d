/- Equality of coefficients; rows of lines that can be read. -/
import Derived.Test.YtbhaoaobhgilkaaGreatVi6
import Derived.DeepKeys
import Derived.Laws.StructEq

namespace Go.Proofs.YtbhaoaobhgilkaaGreat
open Go.RowKit Go.Sort

theorem itemsA (d : Nat) (l m : List Int) (w : World) : ∀ is : List Nat, (∀ i ∈ is, i < l.length ∧ i < m.length) →
    (Op.eqItems (d + 1) 2 1 (avs l) (avs m) is).run Tryz.prog w = .ok (is.all fun i => gA l i == gA m i) w := by
  intro is
  have hp : Tryz.prog.plainKey 2 = true := by kernel_rfl
  induction is with
  | nil => intro _; simp [Op.eqItems]
  | cons i is ih =>
    intro h
    obtain ⟨h1, h2⟩ := h i (by simp)
    have p1 : (part 2 (avs l) (i * 1)).run Tryz.prog w = .ok (.int .i64 (gA l i)) w := run_part_plain w hp (by simp [avs, gA, h1])
    have p2 : (part 2 (avs m) (i * 1)).run Tryz.prog w = .ok (.int .i64 (gA m i)) w := run_part_plain w hp (by simp [avs, gA, h2])
    have p3 := run_equalIn_int (P := Tryz.prog) (w := w) d 2 .i64 .i64 (gA l i) (gA m i) Tryz.underlying2
    simp only [Op.eqItems, Sem.run_bind, p1, p2, p3, Result.andThen_ok, List.all_cons]
    cases gA l i == gA m i
    · simp
    · simpa using ih (fun j hj => h j (by simp [hj]))

theorem all_eqA (N : Nat) (l m : List Int) (hl : l.length = N) (hm : m.length = N) : ((List.range N).all fun i => gA l i == gA m i) = decide (l = m) := by
  rw [Bool.eq_iff_iff, List.all_eq_true, decide_eq_true_eq]
  constructor
  · intro h
    exact gA_ext (by omega) fun i hi => by simpa using h i (List.mem_range.2 (by omega))
  · intro h i _
    rw [h]; simp

theorem eqA_in (d : Nat) (l m : List Int) (hl : l.length = 6) (hm : m.length = 6) (w : World) :
    (Op.equalIn (d + 1 + 1) 80 (.agg (avs l)) (.agg (avs m))).run Tryz.prog w = .ok (decide (l = m)) w := by
  obtain ⟨ie, hie⟩ : ∃ i, Tryz.prog.info? 2 = some i := by
    cases hq : Tryz.prog.info? 2 with
    | none => have := i64_size; simp [hq] at this
    | some i => exact ⟨i, rfl⟩
  have hc : Tryz.prog.cellsOf 2 = 1 := by kernel_rfl
  rw [run_equalIn_array (P := Tryz.prog) w (d + 1) (avs l) (avs m) coef_ty hie]
  rw [hc, itemsA d l m w (List.range 6) (fun i hi => by have := List.mem_range.1 hi; exact ⟨by omega, by omega⟩)]
  rw [all_eqA 6 l m hl hm]

theorem eqA_run (l m : List Int) (hl : l.length = 6) (hm : m.length = 6) (w : World) : (Op.equalIn 10000 80 (.agg (avs l)) (.agg (avs m))).run Tryz.prog w = .ok (decide (l = m)) w := eqA_in 9998 l m hl hm w

theorem eqlA (l m : List Int) (hl : l.length = 6) (hm : m.length = 6) (w : World) : (binOp .eql 80 (.agg (avs l)) (.agg (avs m))).run Tryz.prog w = .ok (.bool (decide (l = m))) w := by
  rw [run_eql_struct, eqA_run l m hl hm w]; rfl

theorem neqA (l m : List Int) (hl : l.length = 6) (hm : m.length = 6) (w : World) : (binOp .neq 80 (.agg (avs l)) (.agg (avs m))).run Tryz.prog w = .ok (.bool (!decide (l = m))) w := by
  rw [run_neq_struct, eqA_run l m hl hm w]; rfl

theorem wp_eqlA {w : World} {o : Oper} {a : Act} {K : Act → World → Prop} {Q : Exit → Act → World → Prop} (s t : Operand) (r : TypeId) (ho : o.op = .binOp .eql 80 s t r) (l m : List Int) (hs : a.eval s = .agg (avs l)) (ht : a.eval t = .agg (avs m)) (hl : l.length = 6) (hm : m.length = 6)
    (h : K (a.put o.dst (.bool (decide (l = m)))) w) : o.wp Tryz.prog a w K Q := by
  have hv := eqlA l m hl hm w
  have hg : (eqGuard .eql 80 s t (.agg (avs l)) (.agg (avs m))).run Tryz.prog w = .ok () w := run_eqGuard_agg (P := Tryz.prog) w .eql _ s t _ _ (by kernel_rfl)
  generalize avs l = V at *
  generalize avs m = U at *
  generalize decide (l = m) = b at *
  unfold Oper.wp execOp
  simp only [ho, hs, ht, Sem.run_bind, Sem.run_pure, hv, hg, Result.andThen_ok]
  exact h

theorem wpl_eqlA {w : World} {ops : Array Oper} {rest : List Oper} {o : Oper} {a : Act} {Q : Exit → Act → World → Prop} (hgd : o.guard = none) (s t : Operand) (r : TypeId) (ho : o.op = .binOp .eql 80 s t r) (l m : List Int) (hs : a.eval s = .agg (avs l)) (ht : a.eval t = .agg (avs m)) (hl : l.length = 6) (hm : m.length = 6)
    (h : wpList Tryz.prog ops Q rest (a.put o.dst (.bool (decide (l = m)))) w) : wpList Tryz.prog ops Q (o :: rest) a w :=
  wpList_plain hgd fun _ hK => wp_eqlA s t r ho l m hs ht hl hm (hK _ _ h)

theorem wp_neqA {w : World} {o : Oper} {a : Act} {K : Act → World → Prop} {Q : Exit → Act → World → Prop} (s t : Operand) (r : TypeId) (ho : o.op = .binOp .neq 80 s t r) (l m : List Int) (hs : a.eval s = .agg (avs l)) (ht : a.eval t = .agg (avs m)) (hl : l.length = 6) (hm : m.length = 6)
    (h : K (a.put o.dst (.bool (!decide (l = m)))) w) : o.wp Tryz.prog a w K Q := by
  have hv := neqA l m hl hm w
  have hg : (eqGuard .neq 80 s t (.agg (avs l)) (.agg (avs m))).run Tryz.prog w = .ok () w := run_eqGuard_agg (P := Tryz.prog) w .neq _ s t _ _ (by kernel_rfl)
  generalize avs l = V at *
  generalize avs m = U at *
  generalize decide (l = m) = b at *
  unfold Oper.wp execOp
  simp only [ho, hs, ht, Sem.run_bind, Sem.run_pure, hv, hg, Result.andThen_ok]
  exact h

theorem wpl_neqA {w : World} {ops : Array Oper} {rest : List Oper} {o : Oper} {a : Act} {Q : Exit → Act → World → Prop} (hgd : o.guard = none) (s t : Operand) (r : TypeId) (ho : o.op = .binOp .neq 80 s t r) (l m : List Int) (hs : a.eval s = .agg (avs l)) (ht : a.eval t = .agg (avs m)) (hl : l.length = 6) (hm : m.length = 6)
    (h : wpList Tryz.prog ops Q rest (a.put o.dst (.bool (!decide (l = m)))) w) : wpList Tryz.prog ops Q (o :: rest) a w :=
  wpList_plain hgd fun _ hK => wp_neqA s t r ho l m hs ht hl hm (hK _ _ h)

set_option maxRecDepth 20000 in
set_option maxHeartbeats 1000000 in
theorem tidy2_any (x y : Ln) (w : World) (hx : x.a.length = 6) (hy : y.a.length = 6) :
    Calls Tryz.prog 130 #[.agg x.cs, .agg y.cs] w (Made (.bool (decide (x.a = y.a))) w) := by
  obtain ⟨w0, hw0⟩ : ∃ w0, w0 = (w.alloc (.cells x.cs 82)).alloc (.cells y.cs 82) := ⟨_, rfl⟩
  have K0 := Lib.hid (show Bk w0 w.heap.size x by rw [hw0]; exact (Bk.made w x hx).alloc _)
  have K1 := Lib.hid (show Bk w0 (w.heap.size + 1) y by rw [hw0]; have := Bk.made (w.alloc (.cells x.cs 82)) y hy; simpa using this)
  have E0 := Lib.hid (show Below w.heap.size w w0 by rw [hw0]; exact past_two (Below.refl _ _))
  have HX := Lib.hid hx
  have HY := Lib.hid hy
  clear hx hy
  go_enter Tryz.func130, Tryz.ntmps130
  go_upto_region 1 with (fail)
  rw [← hw0]
  clear hw0
  go_wp2_with (first | refine wpl_loadA rfl _ rfl _ rfl x K0.out ?_ | refine wpl_loadA rfl _ rfl _ rfl y K1.out ?_ | refine wpl_eqlA rfl _ _ _ rfl _ _ rfl rfl HX.out HY.out ?_)
  go_ret
  exact ⟨rfl, E0.out⟩

/-- A line can be read at an address. -/
def LnAt (w : World) (p : Addr) (x : Ln) : Prop := x.a.length = 6 ∧ ∀ j v, x.cells[j]? = some v → w.cell? (p.add j) = some v

theorem LnAt.on {w w' : World} {p : Addr} {x : Ln} (h : LnAt w p x) (hb : Below w.heap.size w w') : LnAt w' p x := ⟨h.1, fun j v hv => kept hb (h.2 j v hv)⟩

theorem Bk.lnAt {w : World} {b : Nat} {x : Ln} (h : Bk w b x) : LnAt w ⟨b, 0, none⟩ x := ⟨h.2, fun j v hv => by rw [addr_add, Nat.zero_add, h.cell]; exact hv⟩

theorem ln_loadP {w : World} {p : Addr} {x : Ln} (h : LnAt w p x) : (loadVar 82 p).run Tryz.prog w = .ok (.agg x.cs) w := by
  have hc := run_loadCells_list (P := Tryz.prog) w p x.cells h.2
  rw [Ln.cells_len h.1] at hc
  have ha : (isAgg 82).run Tryz.prog w = .ok true w := by
    unfold isAgg; rw [Sem.run_bind, run_underlying Tryz.underlying82 w]; simp
  unfold loadVar
  rw [Sem.run_bind, ha, Result.andThen_ok, if_pos rfl, Sem.run_bind, size_of ln_size, Result.andThen_ok, Sem.run_bind, hc]
  rfl

theorem ln_loadPt {w : World} {p : Addr} {x : Ln} (h : LnAt w p x) : (Instr.loadAt 82 (.pointer (some p))).run Tryz.prog w = .ok (.agg x.cs) w := by
  simp only [Instr.loadAt, Instr.sureAddr, Sem.run_bind, Sem.run_pure, Result.andThen_ok, ln_loadP h]

theorem yld_loadP {o : Oper} {a : Act} {w : World} (s : Operand) (ho : o.op = .load 82 s) (p : Addr) (hs : a.eval s = .pointer (some p)) {x : Ln} (hx : LnAt w p x) : (execOp a.eval o).run Tryz.prog w = .ok (.value (.agg x.cs)) w := by
  have h := ln_loadPt hx
  generalize x.cs = V at *
  unfold execOp
  simp only [ho, hs, Sem.run_bind, Sem.run_pure, h, Result.andThen_ok]

theorem wp_loadP {w : World} {o : Oper} {a : Act} {K : Act → World → Prop} {Q : Exit → Act → World → Prop} (s : Operand) (ho : o.op = .load 82 s) (p : Addr) (hs : a.eval s = .pointer (some p)) (x : Ln) (hx : LnAt w p x)
    (h : K (a.put o.dst (.agg x.cs)) w) : o.wp Tryz.prog a w K Q := by
  have hv := ln_loadP hx
  generalize x.cs = V at *
  unfold Oper.wp execOp
  simp only [ho, hs, Instr.loadAt, Instr.sureAddr, Sem.run_bind, Sem.run_pure, Result.andThen_ok, hv]
  exact h

theorem wpl_loadP {w : World} {ops : Array Oper} {rest : List Oper} {o : Oper} {a : Act} {Q : Exit → Act → World → Prop} (hgd : o.guard = none) (s : Operand) (ho : o.op = .load 82 s) (p : Addr) (hs : a.eval s = .pointer (some p)) (x : Ln) (hx : LnAt w p x)
    (h : wpList Tryz.prog ops Q rest (a.put o.dst (.agg x.cs)) w) : wpList Tryz.prog ops Q (o :: rest) a w :=
  wpList_plain hgd fun _ hK => wp_loadP s ho p hs x hx (hK _ _ h)

/-- A row of lines that can be read. -/
def RdL (w : World) (ao : Option Addr) (l : List Ln) : Prop := ∀ t, ∀ h : t < l.length, ∃ a, ao = some a ∧ LnAt w (a.add (t * 8)) l[t]

theorem RdL.on {w w' : World} {ao : Option Addr} {l : List Ln} (h : RdL w ao l) (hb : Below w.heap.size w w') : RdL w' ao l := fun t ht => by
  obtain ⟨a, e, c⟩ := h t ht
  exact ⟨a, e, c.on hb⟩

theorem RdL.nil (w : World) (ao : Option Addr) : RdL w ao [] := fun t h => by simp at h

/-- A row of lines that a call has made, to which it may append. -/
def OwnL (w : World) (B : Nat) (v : Value) (l : List Ln) : Prop := w.ownsRow B 82 8 v l.length (l.flatMap Ln.cells) ∧ ∀ x ∈ l, x.a.length = 6

theorem OwnL.nil (w : World) (B : Nat) : OwnL w B (.slice none 0 0) [] := ⟨World.ownsRow_nil w B _ _, fun x h => by simp at h⟩

theorem OwnL.on {w w' : World} {B : Nat} {v : Value} {l : List Ln} (h : OwnL w B v l) (hb : Below w.heap.size w w') : OwnL w' B v l := by
  have hg : w.grownBy w' none := ⟨hb.os, hb.tape, hb.output, hb.size, fun k hk _ => hb.block k hk⟩
  exact ⟨World.ownsRow.kept h.1 hg (by cases v.ownBlock <;> simp), h.2⟩

theorem flat_at {l : List Ln} (hl : ∀ x ∈ l, x.a.length = 6) {t : Nat} (ht : t < l.length) {j : Nat} (hj : j < 8) : (l.flatMap Ln.cells)[t * 8 + j]? = (l[t]).cells[j]? := by
  induction l generalizing t with
  | nil => simp at ht
  | cons x l ih =>
    have hx := Ln.cells_len (hl x (by simp))
    rw [List.flatMap_cons]
    cases t with
    | zero => rw [List.getElem?_append_left (by omega)]; simp
    | succ t =>
      rw [List.getElem?_append_right (by omega), show (t + 1) * 8 + j - x.cells.length = t * 8 + j by omega]
      simpa using ih (fun y hy => hl y (by simp [hy])) (t := t) (by simpa using ht)

theorem flat_len {l : List Ln} (hl : ∀ x ∈ l, x.a.length = 6) : (l.flatMap Ln.cells).length = l.length * 8 := by
  induction l with
  | nil => rfl
  | cons x l ih => rw [List.flatMap_cons, List.length_append, Ln.cells_len (hl x (by simp)), ih fun y hy => hl y (by simp [hy]), List.length_cons]; omega

end Go.Proofs.YtbhaoaobhgilkaaGreat
