/- Lists of lines that grow, and statements of a known function, for package poly's leaveOut.; Contracts of package poly: leaveOut. -/
import Derived.Test.YtbhaoaobhgilkaaGreatVi12
import Derived.Maps.OwnIn

namespace Go.Proofs.YtbhaoaobhgilkaaGreat
open Go.RowKit Go.Sort Go.Shelf

theorem append_run {w : World} {B : Nat} {v : Value} {l : List Ln} (hown : OwnL w B v l) {b c : Nat} {y : Ln} (hy : LnAt w ⟨b, 0, none⟩ y) (hle : l.length + 1 ≤ 2000000) (hB : B ≤ w.heap.size) (ty : TypeId) :
    ∃ v' w', (Builtin.append_ #[66, 66] ty #[v, .slice (some ⟨b, 0, none⟩) 1 c]).run Tryz.prog w = .ok v' w' ∧ OwnL w' B v' (l ++ [y]) ∧ w.grownBy w' v.ownBlock ∧ (v'.ownBlock = v.ownBlock ∨ v'.ownBlock = some w.heap.size) := by
  obtain ⟨i0, hi, hz0, hz1, hz2⟩ := info_parts ln_info3
  obtain ⟨v', w', hr, h2, h3, _, h5⟩ := run_append_own_at (P := Tryz.prog) w B 66 ty 82 i0 (.agg ln0.cs) 8 64 Tryz.underlying66 hi hz0 hz1 hz2 (by rfl) (by decide) v l.length _ hown.1 ⟨b, 0, none⟩ 1 c y.cells
    (by rw [Ln.cells_len hy.1]) (fun j u hu => hy.2 j u hu) (cells_one y) (by unfold maxLen; omega) (by omega) hB
  refine ⟨v', w', hr, ⟨?_, fun x hx => ?_⟩, h3, h5⟩
  · rw [List.flatMap_append, List.length_append]; simpa using h2
  · rcases List.mem_append.1 hx with h | h
    · exact hown.2 x h
    · simp only [List.mem_singleton] at h; rw [h]; exact hy.1
section
variable {F : Fence} {n : Nat} {ops : Array Oper} {rest : List Oper} {o : Oper} {a : Act} {w : World} {Q : Exit → Act → World → Prop}

theorem wpl_appL (hgd : o.guard = none) (s x : Operand) (ho : o.op = .call { callee := .builtin .append, args := #[s, x], argTypes := #[66, 66] }) (B : Nat) (v : Value) (l : List Ln) (y : Ln) (hs : a.eval s = v) (hown : OwnL w B v l) (b c : Nat) (hx : a.eval x = .slice (some ⟨b, 0, none⟩) 1 c) (hy : LnAt w ⟨b, 0, none⟩ y)
    (hle : l.length + 1 ≤ 2000000) (hB : B ≤ w.heap.size) (h : ∀ v' w', OwnL w' B v' (l ++ [y]) → w.grownBy w' v.ownBlock → (v'.ownBlock = v.ownBlock ∨ v'.ownBlock = some w.heap.size) → wpList Tryz.prog ops Q rest (a.put o.dst v') w') : wpList Tryz.prog ops Q (o :: rest) a w := by
  obtain ⟨v', w', hr, h1, h2, h3⟩ := append_run hown hy hle hB (c := c) o.type
  have hk := h v' w' h1 h2 h3
  refine wpList_plain hgd fun K hK => ?_
  unfold Oper.wp
  simp [execOp, ho, resolve, invoke, builtin, hs, hx, hr, Result.andThen]
  exact hK _ _ hk

theorem inl_appL (hgd : o.guard = none) (s x : Operand) (ho : o.op = .call { callee := .builtin .append, args := #[s, x], argTypes := #[66, 66] }) (B : Nat) (v : Value) (l : List Ln) (y : Ln) (hs : a.eval s = v) (hown : OwnL w B v l) (b c : Nat) (hx : a.eval x = .slice (some ⟨b, 0, none⟩) 1 c) (hy : LnAt w ⟨b, 0, none⟩ y)
    (hle : l.length + 1 ≤ 2000000) (hB : B ≤ w.heap.size) (h : ∀ v' w', OwnL w' B v' (l ++ [y]) → w.grownBy w' v.ownBlock → (v'.ownBlock = v.ownBlock ∨ v'.ownBlock = some w.heap.size) → wpListIn F n Tryz.prog ops Q rest (a.put o.dst v') w') : wpListIn F n Tryz.prog ops Q (o :: rest) a w := by
  obtain ⟨v', w', hr, h1, h2, h3⟩ := append_run hown hy hle hB (c := c) o.type
  have hk := h v' w' h1 h2 h3
  refine wpListIn_plain hgd fun K hK => ?_
  unfold Oper.wpIn
  refine ⟨by simp [Oper.about, ho, resolve, Target.leads, Sem.run_pure], ?_⟩
  rw [Oper.semAt_plain F _ _ (by rw [ho]; intro c hc'; cases hc')]
  simp [execOp, ho, resolve, invoke, builtin, hs, hx, hr, Result.andThen]
  exact hK _ _ hk
end

theorem OwnL.other {w w' : World} {B : Nat} {v u : Value} {l : List Ln} (h : OwnL w B v l) (hg : w.grownBy w' u.ownBlock) (hd : ∀ k, v.ownBlock = some k → u.ownBlock ≠ some k) : OwnL w' B v l :=
  ⟨World.ownsRow.kept h.1 hg (by
    cases e : v.ownBlock with
    | none => exact Or.inl rfl
    | some k => exact Or.inr (fun q => hd k e q.symm)), h.2⟩

/-- A row's block stays where only other blocks turn. -/
theorem OwnL.keptK {S : Nat → Prop} {A B : World} {n₀ : Nat} {v : Value} {l : List Ln} (h : OwnL A n₀ v l) (k : Kept S A B) (hs : ∀ j, v.ownBlock = some j → S j) : OwnL B n₀ v l := by
  refine ⟨⟨h.1.1, ?_⟩, h.2⟩
  rcases h.1.2 with q | ⟨g, cap, cur, rfl, hb, hg, hr⟩
  · exact Or.inl q
  · refine Or.inr ⟨g, cap, cur, rfl, hb, ?_, hr⟩
    have lt : g < A.heap.size := by
      by_cases e : g < A.heap.size
      · exact e
      · rw [Array.getElem?_eq_none (by omega)] at hg; cases hg
    rw [k.block g lt (hs g rfl)]; exact hg

/-- A box: a block of one cell that may be written. -/
def Bx1 (w : World) (b : Nat) (v : Value) (t : TypeId) : Prop := w.heap[b]? = some (.cells #[v] t (0, 0))

theorem Bx1.made (w : World) (v : Value) (t : TypeId) : Bx1 (w.alloc (.cells #[v] t)) w.heap.size v t := heap_alloc_last w _

theorem Bx1.lt {w : World} {b : Nat} {v : Value} {t : TypeId} (h : Bx1 w b v t) : b < w.heap.size := by
  by_cases e : b < w.heap.size
  · exact e
  · unfold Bx1 at h; rw [Array.getElem?_eq_none (by omega)] at h; cases h

theorem Bx1.cell {w : World} {b : Nat} {v : Value} {t : TypeId} (h : Bx1 w b v t) : w.cell? ⟨b, 0, none⟩ = some v := by rw [cell_of_row w b 0 _ _ _ h]; rfl

theorem Bx1.free {w : World} {b : Nat} {v : Value} {t : TypeId} (h : Bx1 w b v t) : w.frozen? ⟨b, 0, none⟩ = false := frozen_of_row w b 0 _ _ h

theorem Bx1.put {w : World} {b : Nat} {v : Value} {t : TypeId} (h : Bx1 w b v t) (u : Value) : Bx1 (w.setCell ⟨b, 0, none⟩ u) b u t := by
  unfold Bx1
  rw [heap_setCell_same w b _ _ _ _ h]; rfl

theorem Bx1.of_block {w w' : World} {b : Nat} {v : Value} {t : TypeId} (h : Bx1 w b v t) (e : w'.heap[b]? = w.heap[b]?) : Bx1 w' b v t := e.trans h

theorem Bx1.kept {w w' : World} {b : Nat} {v : Value} {t : TypeId} (h : Bx1 w b v t) (hb : Below w.heap.size w w') : Bx1 w' b v t := h.of_block (hb.block b h.lt)

theorem Bx1.keptK {S : Nat → Prop} {A B : World} {b : Nat} {v : Value} {t : TypeId} (h : Bx1 A b v t) (k : Kept S A B) (hs : S b) : Bx1 B b v t := h.of_block (k.block b h.lt hs)

theorem Bx1.aside {w : World} {b : Nat} {v : Value} {t : TypeId} (h : Bx1 w b v t) {y : Nat} (hne : b ≠ y) (u : Value) : Bx1 (w.setCell ⟨y, 0, none⟩ u) b v t := h.of_block (heap_setCell_other w ⟨y, 0, none⟩ b u hne)

theorem Bx1.grown {w w' : World} {b : Nat} {v : Value} {t : TypeId} {r : Option Nat} (h : Bx1 w b v t) (hg : w.grownBy w' r) (hne : some b ≠ r) : Bx1 w' b v t := h.of_block (hg.block b h.lt hne)

theorem wpAt_block {f : FuncId} {F : Fence} {n : Nat} {P : Program} {id : Nat} {c : Code} {Q : Exit → Act → World → Prop} {a : Act} {w : World} (h : WpAt f F n P c (fun e a w => match e with | .normal => Q .normal a w | .panic ch => Q (.panic ch) a w | _ => False) a w) : WpAt f F n P (.block id c) Q a w := by
  intro b k cs hf hro hb hr
  have hFb : F.fn b.fn := by rw [hf]; exact hb
  have s0 : StepsIn (Machine.fenced P F) P (lone (b.atR a (.code (.block id c) :: k)) cs w) (lone (b.atR a (.code c :: .inBlock id :: k)) cs w) := .one (fenced_calm hFb hr rfl) stepR_block
  obtain ⟨e, a₁, w₁, hq, harr⟩ := h b (.inBlock id :: k) cs hf hro hb hr
  cases e
  case normal => exact ⟨.normal, a₁, w₁, hq, StepsIn.trans s0 (StepsIn.trans harr (.one (fenced_calm hFb hr rfl) stepR_inBlock))⟩
  case panic ch => exact ⟨.panic ch, a₁, w₁, hq, .of_steps s0 harr⟩
  all_goals exact hq.elim
end Go.Proofs.YtbhaoaobhgilkaaGreat

namespace Go.Proofs.YtbhaoaobhgilkaaGreat
open Go.RowKit Go.Sort Go.Shelf

def ups (l : List Ln) (i : Nat) : List Ln := l.filter fun x => decide (0 < gA x.a i)

def dns (l : List Ln) (i : Nat) : List Ln := l.filter fun x => decide (gA x.a i < 0)

def zrs (l : List Ln) (i : Nat) : List Ln := l.filter fun x => decide (gA x.a i = 0)

def sums (l : List Ln) (i : Nat) : List Ln := (prs (ups l i) (dns l i)).map fun p => sumL p.1 p.2 i

/-- The error of leaveOut, or 0. -/
def leaveE (l : List Ln) (i : Nat) : Int := if 1000 < (zrs l i).length + (ups l i).length * (dns l i).length then 3 else if (sums l i).all Ln.fits then 0 else 7

def leaveL (l : List Ln) (i : Nat) : List Ln := tidyL (zrs l i ++ sums l i)

theorem filt_snoc {p : Ln → Bool} {l : List Ln} {t : Nat} (h : t < l.length) : (l.take (t + 1)).filter p = (l.take t).filter p ++ (if p l[t] then [l[t]] else []) := by
  rw [List.take_succ_eq_append_getElem h, List.filter_append]
  congr 1
  cases e : p l[t] <;> simp [e]

/-- What leaveOut has between two lines: three lists of its own, the box of the third, the box of the coordinate. -/
structure Lv (w wr : World) (bi bl i : Nat) (v1 v2 v3 : Value) (u d z : List Ln) : Prop where
  o1 : OwnL wr w.heap.size v1 u
  o2 : OwnL wr w.heap.size v2 d
  o3 : OwnL wr w.heap.size v3 z
  bx : Bx1 wr bl v3 66
  ix : Bx1 wr bi (.int .i64 i) 3
  be : Below w.heap.size w wr
  n12 : ∀ k, v1.ownBlock = some k → v2.ownBlock ≠ some k
  n13 : ∀ k, v1.ownBlock = some k → v3.ownBlock ≠ some k
  n23 : ∀ k, v2.ownBlock = some k → v3.ownBlock ≠ some k
  b1 : ∀ k, v1.ownBlock = some k → k ≠ bl ∧ k ≠ bi
  b2 : ∀ k, v2.ownBlock = some k → k ≠ bl ∧ k ≠ bi
  b3 : ∀ k, v3.ownBlock = some k → k ≠ bl ∧ k ≠ bi
  nb : bl ≠ bi ∧ w.heap.size ≤ bl
section
variable {w wr w' : World} {bi bl i : Nat} {v1 v2 v3 v' : Value} {u d z : List Ln} {x : Ln}

theorem Lv.on (h : Lv w wr bi bl i v1 v2 v3 u d z) (hb : Below wr.heap.size wr w') : Lv w w' bi bl i v1 v2 v3 u d z :=
  ⟨h.o1.on hb, h.o2.on hb, h.o3.on hb, h.bx.kept hb, h.ix.kept hb, below_on h.be hb, h.n12, h.n13, h.n23, h.b1, h.b2, h.b3, h.nb⟩

theorem Lv.grown_be (h : Lv w wr bi bl i v1 v2 v3 u d z) {v : Value} {l : List Ln} (ho : OwnL wr w.heap.size v l) (hg : wr.grownBy w' v.ownBlock) : Below w.heap.size w w' :=
  Below.grown h.be hg h.be.size (fun k hk => (World.ownsRow.lt ho.1 k hk).1)

theorem ne_of_opt {o : Option Nat} {k : Nat} (h : ∀ j, o = some j → j ≠ k) : some k ≠ o := fun e => h k e.symm rfl

theorem Lv.app1 (h : Lv w wr bi bl i v1 v2 v3 u d z) (ho : OwnL w' w.heap.size v' (u ++ [x])) (hg : wr.grownBy w' v1.ownBlock) (hf : v'.ownBlock = v1.ownBlock ∨ v'.ownBlock = some wr.heap.size) : Lv w w' bi bl i v' v2 v3 (u ++ [x]) d z := by
  have l2 := h.o2.lt
  have l3 := h.o3.lt
  have lb := h.bx.lt
  have li := h.ix.lt
  refine ⟨ho, h.o2.other hg (fun k e q => h.n12 k q e), h.o3.other hg (fun k e q => h.n13 k q e), h.bx.grown hg (ne_of_opt fun j e => (h.b1 j e).1), h.ix.grown hg (ne_of_opt fun j e => (h.b1 j e).2), h.grown_be h.o1 hg, ?_, ?_, h.n23, ?_, h.b2, h.b3, h.nb⟩
  · intro k e q
    rcases hf with f | f
    · exact h.n12 k (f ▸ e) q
    · rw [f] at e; cases e; have := l2 _ q; omega
  · intro k e q
    rcases hf with f | f
    · exact h.n13 k (f ▸ e) q
    · rw [f] at e; cases e; have := l3 _ q; omega
  · intro k e
    rcases hf with f | f
    · exact h.b1 k (f ▸ e)
    · rw [f] at e; cases e; exact ⟨by omega, by omega⟩

theorem Lv.app2 (h : Lv w wr bi bl i v1 v2 v3 u d z) (ho : OwnL w' w.heap.size v' (d ++ [x])) (hg : wr.grownBy w' v2.ownBlock) (hf : v'.ownBlock = v2.ownBlock ∨ v'.ownBlock = some wr.heap.size) : Lv w w' bi bl i v1 v' v3 u (d ++ [x]) z := by
  have l1 := h.o1.lt
  have l3 := h.o3.lt
  have lb := h.bx.lt
  have li := h.ix.lt
  refine ⟨h.o1.other hg (fun k e q => h.n12 k e q), ho, h.o3.other hg (fun k e q => h.n23 k q e), h.bx.grown hg (ne_of_opt fun j e => (h.b2 j e).1), h.ix.grown hg (ne_of_opt fun j e => (h.b2 j e).2), h.grown_be h.o2 hg, ?_, h.n13, ?_, h.b1, ?_, h.b3, h.nb⟩
  · intro k e q
    rcases hf with f | f
    · exact h.n12 k e (f ▸ q)
    · rw [f] at q; cases q; have := l1 _ e; omega
  · intro k e q
    rcases hf with f | f
    · exact h.n23 k (f ▸ e) q
    · rw [f] at e; cases e; have := l3 _ q; omega
  · intro k e
    rcases hf with f | f
    · exact h.b2 k (f ▸ e)
    · rw [f] at e; cases e; exact ⟨by omega, by omega⟩

theorem grown_cell (w : World) (b : Nat) (v : Value) : w.grownBy (w.setCell ⟨b, 0, none⟩ v) (some b) := ⟨rfl, rfl, rfl, by simp, fun k _ hk => heap_setCell_other w ⟨b, 0, none⟩ k v (fun e => hk (by simp [e]))⟩

theorem OwnL.cell {B : Nat} {v : Value} {l : List Ln} (h : OwnL wr B v l) {q : Nat} (hq : ∀ k, v.ownBlock = some k → k ≠ q) (y : Value) : OwnL (wr.setCell ⟨q, 0, none⟩ y) B v l :=
  ⟨World.ownsRow.kept h.1 (grown_cell wr q y) (by
    cases e : v.ownBlock with
    | none => exact Or.inl rfl
    | some k => exact Or.inr (fun h' => hq k e (by injection h'))), h.2⟩

theorem Lv.app3 (h : Lv w wr bi bl i v1 v2 v3 u d z) (ho : OwnL w' w.heap.size v' (z ++ [x])) (hg : wr.grownBy w' v3.ownBlock) (hf : v'.ownBlock = v3.ownBlock ∨ v'.ownBlock = some wr.heap.size) : Lv w (w'.setCell ⟨bl, 0, none⟩ v') bi bl i v1 v2 v' u d (z ++ [x]) := by
  have l1 := h.o1.lt
  have l2 := h.o2.lt
  have lb := h.bx.lt
  have li := h.ix.lt
  have g3 : ∀ k, v'.ownBlock = some k → k ≠ bl ∧ k ≠ bi := by
    intro k e
    rcases hf with f | f
    · exact h.b3 k (f ▸ e)
    · rw [f] at e; cases e; exact ⟨by omega, by omega⟩
  refine ⟨(h.o1.other hg (fun k e q => h.n13 k e q)).cell (fun k e => (h.b1 k e).1) _, (h.o2.other hg (fun k e q => h.n23 k e q)).cell (fun k e => (h.b2 k e).1) _, ho.cell (fun k e => (g3 k e).1) _,
    (h.bx.grown hg (ne_of_opt fun j e => (h.b3 j e).1)).put _, (h.ix.grown hg (ne_of_opt fun j e => (h.b3 j e).2)).aside h.nb.1.symm _, (h.grown_be h.o3 hg).setCell (p := ⟨bl, 0, none⟩) h.nb.2 _, h.n12, ?_, ?_, h.b1, h.b2, g3, h.nb⟩
  · intro k e q
    rcases hf with f | f
    · exact h.n13 k e (f ▸ q)
    · rw [f] at q; cases q; have := l1 _ e; omega
  · intro k e q
    rcases hf with f | f
    · exact h.n23 k e (f ▸ q)
    · rw [f] at q; cases q; have := l2 _ e; omega
end
end Go.Proofs.YtbhaoaobhgilkaaGreat
