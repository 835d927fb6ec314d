/- Lines in walks that speak of rounds: loads, stores, slices of one line.; Lists of lines that grow, and statements of a known function, for package poly's leaveOut.; Contracts of package poly: leaveOut.; The contract of package poly's leaveOut.; The contract of package poly's shadows.; Contracts of package poly: isEmpty, demand, isValid, Check; lines of package api in memory.; Contracts of package poly: Check, demand, isEmpty, lineOf.; The contract of package poly's lines.; Contracts of package poly: answer at truth values, its deferred closure.; Contracts of package poly: answer at lists.; Contracts of package poly: Empty.; The contract of package poly's Empty.; DERIVED: THE SHELF's CONTRACTS AT THIS DUMP, IN PLAIN WORDS (tools/lay-plain.mjs out of 'TryzShelf.lean', which tools/lay-shelf.mjs wrote): THE SAME DECLARATIONS UNDER THE SAME NAMES: 'import', 'namespace', 'open', 'def', 'theorem' AND NOTHING ELSE: no command of the shelf's: FOR A HAND-IN. Each laying: the table of numbers ('.._ren') and one theorem, a field a fact of the dump's own or the kernel's comparison; each contract: ONE APPLICATION.; slices.Clone and slices.Delete at integers; the closure of Without.; The closures of package poly that choose coefficients.; Plain mathematics: lists of lines of fewer coordinates are as tidy as those of six.; Contracts of layer 7's reference: size, divisor, order, zero.; Contracts of layer 7's reference: Valid, Check.; The contract of package poly's lists.; The closure of package poly's Without. -/
import Derived.Test.YtefpaobboimakaaGreatHp1
import Derived.Maps.OwnIn
import Derived.Laws.CopyRow
import Derived.Defers
import Derived.Recover
import Derived.Deep.RegionHeld3
import Derived.Shelf.SlicesG.Delete
import Derived.Ground.SlgnProg
import Derived.Test.YtefpaobboimakaaGreatProg
import Derived.BigQuiet
import Derived.Deep.QuietTactic

namespace Go.Proofs.YtefpaobboimakaaGreat
open Go.RowKit Go.Sort Go.Shelf

variable {F : Fence} {n : Nat} {ops : Array Oper} {rest : List Oper} {o : Oper} {a : Act} {w : World} {Q : Exit → Act → World → Prop}

theorem semAt_of {ro : Option Nat} {ρ : Operand → Value} (h : ∀ c, o.op ≠ .defer c) : Oper.semAt ro ρ o = execOp ρ o := by
  cases ro with
  | none => rfl
  | some l => exact Oper.semAt_some l ρ o h

/-- An operation that is no call and no defer, whose run is known. -/
theorem wplI (hgd : o.guard = none) (hc : ∀ c, o.op ≠ .call c) (hd : ∀ c, o.op ≠ .defer c) {v : Value} {w' : World} (hr : (execOp a.eval o).run Tryz.prog w = .ok (.value v) w') (h : wpListIn F n Tryz.prog ops Q rest (a.put o.dst v) w') : wpListIn F n Tryz.prog ops Q (o :: rest) a w := by
  refine wpListIn_plain hgd fun K hK => ⟨fun f hf => ?_, ?_⟩
  · unfold Oper.about at hf
    cases ho : o.op with
    | call c => exact absurd ho (hc c)
    | _ => rw [ho] at hf; cases hf
  · rw [semAt_of hd, hr]
    exact hK _ _ h

theorem wplIs (hgd : o.guard = none) (hc : ∀ c, o.op ≠ .call c) (hd : ∀ c, o.op ≠ .defer c) {w' : World} (hr : (execOp a.eval o).run Tryz.prog w = .ok .skip w') (h : wpListIn F n Tryz.prog ops Q rest (a.put o.dst undef) w') : wpListIn F n Tryz.prog ops Q (o :: rest) a w := by
  refine wpListIn_plain hgd fun K hK => ⟨fun f hf => ?_, ?_⟩
  · unfold Oper.about at hf
    cases ho : o.op with
    | call c => exact absurd ho (hc c)
    | _ => rw [ho] at hf; cases hf
  · rw [semAt_of hd, hr]
    exact hK _ _ h

theorem inl_load (hgd : o.guard = none) (s : Operand) (ho : o.op = .load 82 s) (p : Addr) (hs : a.eval s = .pointer (some p)) (x : Ln) (hx : LnAt w p x) (h : wpListIn F n Tryz.prog ops Q rest (a.put o.dst (.agg x.cs)) w) : wpListIn F n Tryz.prog ops Q (o :: rest) a w :=
  wplI hgd (fun c e => by rw [ho] at e; cases e) (fun c e => by rw [ho] at e; cases e) (yld_loadP s ho p hs hx) h

theorem inl_store (hgd : o.guard = none) (s t : Operand) (ho : o.op = .store 82 s t) (b : Nat) (z : Ln) (hs : a.eval s = .pointer (some ⟨b, 0, none⟩)) (ht : a.eval t = .agg z.cs) (old : Ln) (hv : Bk w b old) (hz : z.a.length = 6)
    (h : wpListIn F n Tryz.prog ops Q rest (a.put o.dst undef) (w.setRow b z.cs)) : wpListIn F n Tryz.prog ops Q (o :: rest) a w := by
  refine wplIs hgd (fun c e => by rw [ho] at e; cases e) (fun c e => by rw [ho] at e; cases e) ?_ h
  have hr := run_storeVar_row (P := Tryz.prog) w b 82 82 old.cs z.cs hv.1 (by rw [Ln.size hz]; exact ln_size) (by rw [Ln.size hv.2, Ln.size hz]) z.one
  generalize z.cs = V at *
  unfold execOp
  simp only [ho, hs, ht, Instr.storeAt, Instr.sureAddr, Sem.run_bind, Sem.run_pure, Result.andThen_ok, hr]

theorem inl_bs1 (hgd : o.guard = none) (s : Operand) (ho : o.op = .buildSlice 66 1 #[(0, s)]) (x : Ln) (hs : a.eval s = .agg x.cs) (hx : x.a.length = 6)
    (h : wpListIn F n Tryz.prog ops Q rest (a.put o.dst (.slice (some ⟨w.heap.size, 0, none⟩) 1 1)) (w.alloc (.cells x.cs 82))) : wpListIn F n Tryz.prog ops Q (o :: rest) a w := by
  refine wplI hgd (fun c e => by rw [ho] at e; cases e) (fun c e => by rw [ho] at e; cases e) ?_ h
  have hv := run_bs1 x hx w
  generalize x.cs = V at *
  unfold execOp
  simp only [ho, List.map_toArray, List.map_cons, List.map_nil, hs, Sem.run_bind, Sem.run_pure, hv, Result.andThen_ok]

/-- What lies at a place lies there still, if its block has not turned. -/
theorem cell_keptK {S : Nat → Prop} {A B : World} (h : Kept S A B) {p : Addr} {v : Value} (hc : A.cell? p = some v) (hs : S p.block) : B.cell? p = some v := by
  have lt := World.block_lt_of_cell? A _ hc
  unfold World.cell? at hc ⊢
  rw [h.block _ lt hs]; exact hc

theorem LnAt.keptK {S : Nat → Prop} {A B : World} (h : Kept S A B) {p : Addr} {x : Ln} (hx : LnAt A p x) (hs : ∀ j, S (p.add j).block) : LnAt B p x := ⟨hx.1, fun j v hv => cell_keptK h (hx.2 j v hv) (hs j)⟩

theorem add_block (p : Addr) (j : Nat) : (p.add j).block = p.block := by unfold Addr.add; split <;> rfl

/-- A list that can be read, in blocks that stay. -/
structure RdK (w : World) (S : Nat → Prop) (ao : Option Addr) (l : List Ln) : Prop where
  rd : RdL w ao l
  st : ∀ a, ao = some a → S a.block

theorem RdK.on {S : Nat → Prop} {A B : World} {ao : Option Addr} {l : List Ln} (h : RdK A S ao l) (k : Kept S A B) : RdK B S ao l :=
  ⟨fun t ht => by
    obtain ⟨a, e, c⟩ := h.rd t ht
    exact ⟨a, e, c.keptK k fun j => by rw [add_block, add_block]; exact h.st a e⟩, h.st⟩

/-- The pairs, one after the other. -/
def prs (xs ys : List Ln) : List (Ln × Ln) := xs.flatMap fun x => ys.map fun y => (x, y)

def encP (p : Ln × Ln) : Array Value := #[.agg p.1.cs, .agg p.2.cs]

theorem prs_take {xs ys : List Ln} {i : Nat} (h : i < xs.length) : prs (xs.take (i + 1)) ys = prs (xs.take i) ys ++ ys.map fun y => (xs[i], y) := by
  unfold prs
  rw [List.take_succ_eq_append_getElem h, List.flatMap_append]; simp

theorem map_take {α β : Type} (f : α → β) {l : List α} {j : Nat} (h : j < l.length) : (l.take (j + 1)).map f = (l.take j).map f ++ [f l[j]] := by
  rw [List.take_succ_eq_append_getElem h, List.map_append]; rfl

theorem prs_pre {xs ys : List Ln} {i j : Nat} (hi : i < xs.length) (hj : j < ys.length) : (prs (xs.take i) ys ++ (ys.take j).map fun y => (xs[i], y)) ++ [(xs[i], ys[j])] <+: prs xs ys := by
  refine ⟨(ys.drop (j + 1)).map (fun y => (xs[i], y)) ++ prs (xs.drop (i + 1)) ys, ?_⟩
  rw [List.append_assoc (prs (xs.take i) ys), ← map_take (fun y => (xs[i], y)) hj, List.append_assoc, ← List.append_assoc ((ys.take (j + 1)).map _), ← List.map_append, List.take_append_drop, ← List.append_assoc, ← prs_take hi]
  unfold prs
  rw [← List.flatMap_append, List.take_append_drop]

theorem pairs_enters : ∀ args w, (callFunc 119 args).run Tryz.prog w = .ok (.enter 119 args) w := enters_of Tryz.func119 (by kernel_rfl) rfl

attribute [local go_sem] Oper.semAt_some

set_option maxRecDepth 100000 in
set_option maxHeartbeats 4000000 in
theorem pairs_seq (xs ys : List Ln) (ao bo : Option Addr) (ca cb pa pb : Nat) (W : World) (T0 : Nat → Prop) (hlx : xs.length ≤ 1000000) (hly : ys.length ≤ 1000000) (hA : W.cell? ⟨pa, 0, none⟩ = some (.slice ao xs.length ca)) (hB : W.cell? ⟨pb, 0, none⟩ = some (.slice bo ys.length cb))
    (hX : RdK W (fun k => ¬ T0 k ∧ k < W.heap.size) ao xs) (hY : RdK W (fun k => ¬ T0 k ∧ k < W.heap.size) bo ys) (ha : ¬ T0 pa) (hb : ¬ T0 pb) (h6x : ∀ x ∈ xs, x.a.length = 6) (h6y : ∀ y ∈ ys, y.a.length = 6) :
    SeqP Tryz.prog 119 #[.pointer (some ⟨pa, 0, none⟩), .pointer (some ⟨pb, 0, none⟩)] encP (prs xs ys) none W T0 := by
  intro l J Jp hst hlt hY' h0
  have hz := ln_zero
  obtain ⟨nx, hnx⟩ : ∃ nx, nx = xs.length := ⟨_, rfl⟩
  obtain ⟨ny, hny⟩ : ∃ ny, ny = ys.length := ⟨_, rfl⟩
  have NX := Lib.hid hnx
  have NY := Lib.hid hny
  have hlx' : nx ≤ 1000000 := by omega
  have hly' : ny ≤ 1000000 := by omega
  rw [← hnx] at hA
  rw [← hny] at hB
  -- what a world between two rounds has
  have INV := Lib.hid (show ∀ (pre : List (Ln × Ln)) (A : World), (∃ T, J pre T A ∧ (∀ k, T k → T0 k ∨ W.heap.size ≤ k) ∧ Kept (fun k => ¬ T0 k ∧ k < W.heap.size) W A) → A.cell? ⟨pa, 0, none⟩ = some (.slice ao nx ca) ∧ A.cell? ⟨pb, 0, none⟩ = some (.slice bo ny cb) ∧ RdK A (fun k => ¬ T0 k ∧ k < W.heap.size) ao xs ∧ RdK A (fun k => ¬ T0 k ∧ k < W.heap.size) bo ys from
    fun pre A ⟨T, _, _, k⟩ => ⟨cell_keptK k hA ⟨ha, World.block_lt_of_cell? W _ hA⟩, cell_keptK k hB ⟨hb, World.block_lt_of_cell? W _ hB⟩, hX.on k, hY.on k⟩)
  have H0 := Lib.hid (show ∃ T, J [] T W ∧ (∀ k, T k → T0 k ∨ W.heap.size ≤ k) ∧ Kept (fun k => ¬ T0 k ∧ k < W.heap.size) W W from ⟨T0, h0, fun k q => Or.inl q, Kept.refl _ _⟩)
  have RND := Lib.hid hY'
  have ST := Lib.hid hst
  have LT := Lib.hid hlt
  have X6 := Lib.hid h6x
  have Y6 := Lib.hid h6y
  clear hY' hst hlt hX hY h6x h6y hnx hny h0 ha hb hlx hly
  refine callsIn_of_wp Tryz.func119 rfl trivial ?_ rfl
  simp only [Tryz.ntmps119, List.size_toArray, List.length_cons, List.length_nil, Nat.reduceAdd, Nat.reduceSub, Array.replicate_succ, Array.replicate_zero, List.push_toArray, List.append_toArray, List.nil_append, List.cons_append]
  gi_wp2
  gi_loopw [10] (fun s wr => ∃ i : Nat, s = .int .i64 i ∧ i ≤ nx ∧ Hid (∃ T, J (prs (xs.take i) ys) T wr ∧ (∀ k, T k → T0 k ∨ W.heap.size ≤ k) ∧ Kept (fun k => ¬ T0 k ∧ k < W.heap.size) W wr)) (fun s _ => nx - (intOf s).toNat)
  case atStart => exact ⟨0, rfl, by omega, Lib.hid (by simpa [prs] using H0.out)⟩
  case round =>
    generalize wr = wo at *
    obtain ⟨i, rfl, hi, HJ⟩ := hrel
    by_cases hin : i < nx
    · have hil : i < xs.length := by have := NX.out; omega
      obtain ⟨c0, c1, rx, ry⟩ := INV.out _ _ HJ.out
      obtain ⟨a, ea, hla⟩ := rx.rd i hil
      obtain ⟨x, hx⟩ : ∃ x, x = xs[i] := ⟨_, rfl⟩
      rw [← hx] at hla
      have LA := Lib.hid hla
      have HX := Lib.hid hx
      have x6 := Lib.hid (show x.a.length = 6 by rw [hx]; exact X6.out _ (List.getElem_mem _))
      have HI := Lib.hid hil
      have N1 := Lib.hid (show Bk (wo.alloc (.cells ln0.cs 82)) wo.heap.size ln0 from Bk.made wo ln0 rfl)
      have N2 := Lib.hid (N1.out.setRow x6.out)
      have B2 := Lib.hid (Below.setRow ((Below.refl wo.heap.size wo).alloc (Nat.le_refl _) (.cells ln0.cs 82)) (b := wo.heap.size) (Nat.le_refl _) x.cs)
      have PS := Lib.hid (show prs (xs.take (i + 1)) ys = prs (xs.take i) ys ++ ys.map fun y => (x, y) by rw [hx]; exact prs_take hil)
      have PP := Lib.hid (show ∀ j, ∀ h : j < ys.length, (prs (xs.take i) ys ++ (ys.take j).map fun y => (x, y)) ++ [(x, ys[j])] <+: prs xs ys from fun j h => by rw [hx]; exact prs_pre hil h)
      have JJ := Lib.hid (show ∃ T, J (prs (xs.take i) ys ++ (ys.take 0).map fun y => (x, y)) T ((wo.alloc (.cells ln0.cs 82)).setRow wo.heap.size x.cs) ∧ (∀ k, T k → T0 k ∨ W.heap.size ≤ k) ∧ Kept (fun k => ¬ T0 k ∧ k < W.heap.size) W ((wo.alloc (.cells ln0.cs 82)).setRow wo.heap.size x.cs) ∧ ¬ T wo.heap.size from by
        obtain ⟨T, j1, j2, j3⟩ := HJ.out
        refine ⟨T, ?_, j2, j3.trans (Kept.of_below B2.out _), fun q => by have := LT.out _ _ _ j1 _ q; omega⟩
        have := ST.out _ _ _ _ j1 (Kept.of_below B2.out _)
        simpa using this)
      have c2 : ((wo.alloc (.cells ln0.cs 82)).setRow wo.heap.size x.cs).cell? ⟨pb, 0, none⟩ = some (.slice bo ny cb) := kept B2.out c1
      clear rx ry hla hx HX hil c0 c1
      subst ea
      gi_wp2_with (first | refine inl_load rfl _ rfl _ rfl x LA.out ?_ | refine inl_store rfl _ _ rfl _ _ rfl rfl _ N1.out x6.out ?_)
      generalize (wo.alloc (.cells ln0.cs 82)).setRow wo.heap.size x.cs = w1 at *
      generalize wo.heap.size = q at *
      gi_loopw [16] (fun s wr => ∃ j : Nat, s = .int .i64 j ∧ j ≤ ny ∧ Hid (∃ T, J (prs (xs.take i) ys ++ (ys.take j).map fun y => (x, y)) T wr ∧ (∀ k, T k → T0 k ∨ W.heap.size ≤ k) ∧ Kept (fun k => ¬ T0 k ∧ k < W.heap.size) W wr ∧ ¬ T q) ∧ Hid (Bk wr q x)) (fun s _ => ny - (intOf s).toNat)
      case atStart => exact ⟨0, rfl, by omega, JJ, N2⟩
      case round =>
        generalize wr = wo at *
        obtain ⟨j, rfl, hj, HJ1, HQ⟩ := hrel
        by_cases hjn : j < ny
        · have hjl : j < ys.length := by have := NY.out; omega
          obtain ⟨_, _, _, ry⟩ := INV.out _ _ (show ∃ T, J _ T wo ∧ _ ∧ _ from by obtain ⟨T, j1, j2, j3, _⟩ := HJ1.out; exact ⟨T, j1, j2, j3⟩)
          obtain ⟨b, eb, hlb⟩ := ry.rd j hjl
          have PJ := Lib.hid (PP.out j hjl)
          have MT := Lib.hid (map_take (fun y => (x, y)) hjl)
          obtain ⟨y, hy⟩ : ∃ y, y = ys[j] := ⟨_, rfl⟩
          rw [← hy] at hlb PJ MT
          have LB := Lib.hid hlb
          have y6 := Lib.hid (show y.a.length = 6 by rw [hy]; exact Y6.out _ (List.getElem_mem _))
          have M1 := Lib.hid (show Bk (wo.alloc (.cells ln0.cs 82)) wo.heap.size ln0 from Bk.made wo ln0 rfl)
          have M2 := Lib.hid (M1.out.setRow y6.out)
          have D2 := Lib.hid (Below.setRow ((Below.refl wo.heap.size wo).alloc (Nat.le_refl _) (.cells ln0.cs 82)) (b := wo.heap.size) (Nat.le_refl _) y.cs)
          have Q2 := Lib.hid (HQ.out.kept D2.out)
          obtain ⟨T, j1, j2, j3, j4⟩ := HJ1.out
          have J1 := Lib.hid (ST.out _ _ _ _ j1 (Kept.of_below D2.out _))
          have J2 := Lib.hid j2
          have J3 := Lib.hid (j3.trans (Kept.of_below D2.out _))
          have J4 := Lib.hid j4
          obtain ⟨fn, tmps, assign, body, hyd, hR⟩ := RND.out _ (x, y) T _ J1.out PJ.out
          have HR := Lib.hid hR
          simp only [encP] at hyd
          clear ry hlb hy hjl j1 j2 j3 j4 hR
          subst eb
          gi_wp2_with (first | refine inl_load rfl _ rfl _ rfl y LB.out ?_ | refine inl_store rfl _ _ rfl _ _ rfl rfl _ M1.out y6.out ?_ | refine inl_load rfl _ rfl _ rfl x Q2.out.lnAt ?_ | refine inl_load rfl _ rfl _ rfl y M2.out.lnAt ?_)
          generalize (wo.alloc (.cells ln0.cs 82)).setRow wo.heap.size y.cs = w2 at *
          refine HR.out.mono ?_
          rintro e w3 (⟨rfl, T', t1, t2, t3⟩ | ⟨chain, rfl, hp⟩)
          · have Q3 := Lib.hid (show Bk w3 q x from Q2.out.of_block (t2.block q Q2.out.lt J4.out))
            have K3 := Lib.hid (show Kept (fun k => ¬ T0 k ∧ k < W.heap.size) W w3 from J3.out.trans (t2.mono fun k _ h q => (J2.out k q).elim h.1 (by have := h.2; omega)))
            have J5 := Lib.hid (show ∃ T, J (prs (xs.take i) ys ++ (ys.take (j + 1)).map fun y => (x, y)) T w3 ∧ (∀ k, T k → T0 k ∨ W.heap.size ≤ k) ∧ Kept (fun k => ¬ T0 k ∧ k < W.heap.size) W w3 ∧ ¬ T q from by
              refine ⟨T', ?_, fun k h => ?_, K3.out, fun h => ?_⟩
              · rw [MT.out, ← List.append_assoc]; exact t1
              · rcases t3 k h with h | h
                · exact J2.out k h
                · have := J3.out.size; right; omega
              · rcases t3 q h with h | h
                · exact J4.out h
                · have := Q2.out.lt; omega)
            clear t1 t2 t3
            gi_wp2
            go_roundw
            case rel => exact ⟨j + 1, by go_num, by omega, J5, Q3⟩
            case measure => simp [intOf]; omega
          · exact ⟨by first | rfl | trivial, Or.inr ⟨chain, by first | rfl | trivial, Or.inl hp⟩⟩
        · have ej : ys.take j = ys := List.take_of_length_le (by have := NY.out; omega)
          have J5 := Lib.hid (show ∃ T, J (prs (xs.take (i + 1)) ys) T wo ∧ (∀ k, T k → T0 k ∨ W.heap.size ≤ k) ∧ Kept (fun k => ¬ T0 k ∧ k < W.heap.size) W wo from by
            obtain ⟨T, j1, j2, j3, _⟩ := HJ1.out
            rw [ej] at j1
            rw [PS.out]
            exact ⟨T, j1, j2, j3⟩)
          clear ej
          gi_wp2
          go_roundw
          case rel => exact ⟨i + 1, by go_num, by omega, J5⟩
          case measure => simp [intOf]; omega
    · have ei : xs.take i = xs := List.take_of_length_le (by have := NX.out; omega)
      obtain ⟨T, j1, _, _⟩ := HJ.out
      rw [ei] at j1
      have J1 := Lib.hid j1
      clear j1 ei
      gi_wp2
      go_end0
      exact Or.inl ⟨by first | rfl | trivial, by first | rfl | trivial, T, J1.out⟩
end Go.Proofs.YtefpaobboimakaaGreat

namespace Go.Proofs.YtefpaobboimakaaGreat
open Go.RowKit Go.Sort Go.Shelf

theorem append_run {w : World} {B : Nat} {v : Value} {l : List Ln} (hown : OwnL w B v l) {b c : Nat} {y : Ln} (hy : LnAt w ⟨b, 0, none⟩ y) (hle : l.length + 1 ≤ 2000000) (hB : B ≤ w.heap.size) (ty : TypeId) :
    ∃ v' w', (Builtin.append_ #[66, 66] ty #[v, .slice (some ⟨b, 0, none⟩) 1 c]).run Tryz.prog w = .ok v' w' ∧ OwnL w' B v' (l ++ [y]) ∧ w.grownBy w' v.ownBlock ∧ (v'.ownBlock = v.ownBlock ∨ v'.ownBlock = some w.heap.size) := by
  obtain ⟨i0, hi, hz0, hz1, hz2⟩ := info_parts ln_info3
  obtain ⟨v', w', hr, h2, h3, _, h5⟩ := run_append_own_at (P := Tryz.prog) w B 66 ty 82 i0 (.agg ln0.cs) 8 64 Tryz.underlying66 hi hz0 hz1 hz2 (by rfl) (by decide) v l.length _ hown.1 ⟨b, 0, none⟩ 1 c y.cells
    (by rw [Ln.cells_len hy.1]) (fun j u hu => hy.2 j u hu) (cells_one y) (by unfold maxLen; omega) (by omega) hB
  refine ⟨v', w', hr, ⟨?_, fun x hx => ?_⟩, h3, h5⟩
  · rw [List.flatMap_append, List.length_append]; simpa using h2
  · rcases List.mem_append.1 hx with h | h
    · exact hown.2 x h
    · simp only [List.mem_singleton] at h; rw [h]; exact hy.1
section
variable {F : Fence} {n : Nat} {ops : Array Oper} {rest : List Oper} {o : Oper} {a : Act} {w : World} {Q : Exit → Act → World → Prop}

theorem wpl_appL (hgd : o.guard = none) (s x : Operand) (ho : o.op = .call { callee := .builtin .append, args := #[s, x], argTypes := #[66, 66] }) (B : Nat) (v : Value) (l : List Ln) (y : Ln) (hs : a.eval s = v) (hown : OwnL w B v l) (b c : Nat) (hx : a.eval x = .slice (some ⟨b, 0, none⟩) 1 c) (hy : LnAt w ⟨b, 0, none⟩ y)
    (hle : l.length + 1 ≤ 2000000) (hB : B ≤ w.heap.size) (h : ∀ v' w', OwnL w' B v' (l ++ [y]) → w.grownBy w' v.ownBlock → (v'.ownBlock = v.ownBlock ∨ v'.ownBlock = some w.heap.size) → wpList Tryz.prog ops Q rest (a.put o.dst v') w') : wpList Tryz.prog ops Q (o :: rest) a w := by
  obtain ⟨v', w', hr, h1, h2, h3⟩ := append_run hown hy hle hB (c := c) o.type
  have hk := h v' w' h1 h2 h3
  refine wpList_plain hgd fun K hK => ?_
  unfold Oper.wp
  simp [execOp, ho, resolve, invoke, builtin, hs, hx, hr, Result.andThen]
  exact hK _ _ hk

theorem inl_appL (hgd : o.guard = none) (s x : Operand) (ho : o.op = .call { callee := .builtin .append, args := #[s, x], argTypes := #[66, 66] }) (B : Nat) (v : Value) (l : List Ln) (y : Ln) (hs : a.eval s = v) (hown : OwnL w B v l) (b c : Nat) (hx : a.eval x = .slice (some ⟨b, 0, none⟩) 1 c) (hy : LnAt w ⟨b, 0, none⟩ y)
    (hle : l.length + 1 ≤ 2000000) (hB : B ≤ w.heap.size) (h : ∀ v' w', OwnL w' B v' (l ++ [y]) → w.grownBy w' v.ownBlock → (v'.ownBlock = v.ownBlock ∨ v'.ownBlock = some w.heap.size) → wpListIn F n Tryz.prog ops Q rest (a.put o.dst v') w') : wpListIn F n Tryz.prog ops Q (o :: rest) a w := by
  obtain ⟨v', w', hr, h1, h2, h3⟩ := append_run hown hy hle hB (c := c) o.type
  have hk := h v' w' h1 h2 h3
  refine wpListIn_plain hgd fun K hK => ?_
  unfold Oper.wpIn
  refine ⟨by simp [Oper.about, ho, resolve, Target.leads, Sem.run_pure], ?_⟩
  rw [Oper.semAt_plain F _ _ (by rw [ho]; intro c hc'; cases hc')]
  simp [execOp, ho, resolve, invoke, builtin, hs, hx, hr, Result.andThen]
  exact hK _ _ hk
end

theorem OwnL.other {w w' : World} {B : Nat} {v u : Value} {l : List Ln} (h : OwnL w B v l) (hg : w.grownBy w' u.ownBlock) (hd : ∀ k, v.ownBlock = some k → u.ownBlock ≠ some k) : OwnL w' B v l :=
  ⟨World.ownsRow.kept h.1 hg (by
    cases e : v.ownBlock with
    | none => exact Or.inl rfl
    | some k => exact Or.inr (fun q => hd k e q.symm)), h.2⟩

/-- A row's block stays where only other blocks turn. -/
theorem OwnL.keptK {S : Nat → Prop} {A B : World} {n₀ : Nat} {v : Value} {l : List Ln} (h : OwnL A n₀ v l) (k : Kept S A B) (hs : ∀ j, v.ownBlock = some j → S j) : OwnL B n₀ v l := by
  refine ⟨⟨h.1.1, ?_⟩, h.2⟩
  rcases h.1.2 with q | ⟨g, cap, cur, rfl, hb, hg, hr⟩
  · exact Or.inl q
  · refine Or.inr ⟨g, cap, cur, rfl, hb, ?_, hr⟩
    have lt : g < A.heap.size := by
      by_cases e : g < A.heap.size
      · exact e
      · rw [Array.getElem?_eq_none (by omega)] at hg; cases hg
    rw [k.block g lt (hs g rfl)]; exact hg

/-- A box: a block of one cell that may be written. -/
def Bx1 (w : World) (b : Nat) (v : Value) (t : TypeId) : Prop := w.heap[b]? = some (.cells #[v] t (0, 0))

theorem Bx1.made (w : World) (v : Value) (t : TypeId) : Bx1 (w.alloc (.cells #[v] t)) w.heap.size v t := heap_alloc_last w _

theorem Bx1.lt {w : World} {b : Nat} {v : Value} {t : TypeId} (h : Bx1 w b v t) : b < w.heap.size := by
  by_cases e : b < w.heap.size
  · exact e
  · unfold Bx1 at h; rw [Array.getElem?_eq_none (by omega)] at h; cases h

theorem Bx1.cell {w : World} {b : Nat} {v : Value} {t : TypeId} (h : Bx1 w b v t) : w.cell? ⟨b, 0, none⟩ = some v := by rw [cell_of_row w b 0 _ _ _ h]; rfl

theorem Bx1.free {w : World} {b : Nat} {v : Value} {t : TypeId} (h : Bx1 w b v t) : w.frozen? ⟨b, 0, none⟩ = false := frozen_of_row w b 0 _ _ h

theorem Bx1.put {w : World} {b : Nat} {v : Value} {t : TypeId} (h : Bx1 w b v t) (u : Value) : Bx1 (w.setCell ⟨b, 0, none⟩ u) b u t := by
  unfold Bx1
  rw [heap_setCell_same w b _ _ _ _ h]; rfl

theorem Bx1.of_block {w w' : World} {b : Nat} {v : Value} {t : TypeId} (h : Bx1 w b v t) (e : w'.heap[b]? = w.heap[b]?) : Bx1 w' b v t := e.trans h

theorem Bx1.kept {w w' : World} {b : Nat} {v : Value} {t : TypeId} (h : Bx1 w b v t) (hb : Below w.heap.size w w') : Bx1 w' b v t := h.of_block (hb.block b h.lt)

theorem Bx1.keptK {S : Nat → Prop} {A B : World} {b : Nat} {v : Value} {t : TypeId} (h : Bx1 A b v t) (k : Kept S A B) (hs : S b) : Bx1 B b v t := h.of_block (k.block b h.lt hs)

theorem Bx1.aside {w : World} {b : Nat} {v : Value} {t : TypeId} (h : Bx1 w b v t) {y : Nat} (hne : b ≠ y) (u : Value) : Bx1 (w.setCell ⟨y, 0, none⟩ u) b v t := h.of_block (heap_setCell_other w ⟨y, 0, none⟩ b u hne)

theorem Bx1.grown {w w' : World} {b : Nat} {v : Value} {t : TypeId} {r : Option Nat} (h : Bx1 w b v t) (hg : w.grownBy w' r) (hne : some b ≠ r) : Bx1 w' b v t := h.of_block (hg.block b h.lt hne)

theorem wpAt_block {f : FuncId} {F : Fence} {n : Nat} {P : Program} {id : Nat} {c : Code} {Q : Exit → Act → World → Prop} {a : Act} {w : World} (h : WpAt f F n P c (fun e a w => match e with | .normal => Q .normal a w | .panic ch => Q (.panic ch) a w | _ => False) a w) : WpAt f F n P (.block id c) Q a w := by
  intro b k cs hf hro hb hr
  have hFb : F.fn b.fn := by rw [hf]; exact hb
  have s0 : StepsIn (Machine.fenced P F) P (lone (b.atR a (.code (.block id c) :: k)) cs w) (lone (b.atR a (.code c :: .inBlock id :: k)) cs w) := .one (fenced_calm hFb hr rfl) stepR_block
  obtain ⟨e, a₁, w₁, hq, harr⟩ := h b (.inBlock id :: k) cs hf hro hb hr
  cases e
  case normal => exact ⟨.normal, a₁, w₁, hq, StepsIn.trans s0 (StepsIn.trans harr (.one (fenced_calm hFb hr rfl) stepR_inBlock))⟩
  case panic ch => exact ⟨.panic ch, a₁, w₁, hq, .of_steps s0 harr⟩
  all_goals exact hq.elim
end Go.Proofs.YtefpaobboimakaaGreat

namespace Go.Proofs.YtefpaobboimakaaGreat
open Go.RowKit Go.Sort Go.Shelf

def ups (l : List Ln) (i : Nat) : List Ln := l.filter fun x => decide (0 < gA x.a i)

def dns (l : List Ln) (i : Nat) : List Ln := l.filter fun x => decide (gA x.a i < 0)

def zrs (l : List Ln) (i : Nat) : List Ln := l.filter fun x => decide (gA x.a i = 0)

def sums (l : List Ln) (i : Nat) : List Ln := (prs (ups l i) (dns l i)).map fun p => sumL p.1 p.2 i

/-- The error of leaveOut, or 0. -/
def leaveE (l : List Ln) (i : Nat) : Int := if 1000 < (zrs l i).length + (ups l i).length * (dns l i).length then 3 else if (sums l i).all Ln.fits then 0 else 7

def leaveL (l : List Ln) (i : Nat) : List Ln := tidyL (zrs l i ++ sums l i)

theorem filt_snoc {p : Ln → Bool} {l : List Ln} {t : Nat} (h : t < l.length) : (l.take (t + 1)).filter p = (l.take t).filter p ++ (if p l[t] then [l[t]] else []) := by
  rw [List.take_succ_eq_append_getElem h, List.filter_append]
  congr 1
  cases e : p l[t] <;> simp [e]

/-- What leaveOut has between two lines: three lists of its own, the box of the third, the box of the coordinate. -/
structure Lv (w wr : World) (bi bl i : Nat) (v1 v2 v3 : Value) (u d z : List Ln) : Prop where
  o1 : OwnL wr w.heap.size v1 u
  o2 : OwnL wr w.heap.size v2 d
  o3 : OwnL wr w.heap.size v3 z
  bx : Bx1 wr bl v3 66
  ix : Bx1 wr bi (.int .i64 i) 3
  be : Below w.heap.size w wr
  n12 : ∀ k, v1.ownBlock = some k → v2.ownBlock ≠ some k
  n13 : ∀ k, v1.ownBlock = some k → v3.ownBlock ≠ some k
  n23 : ∀ k, v2.ownBlock = some k → v3.ownBlock ≠ some k
  b1 : ∀ k, v1.ownBlock = some k → k ≠ bl ∧ k ≠ bi
  b2 : ∀ k, v2.ownBlock = some k → k ≠ bl ∧ k ≠ bi
  b3 : ∀ k, v3.ownBlock = some k → k ≠ bl ∧ k ≠ bi
  nb : bl ≠ bi ∧ w.heap.size ≤ bl
section
variable {w wr w' : World} {bi bl i : Nat} {v1 v2 v3 v' : Value} {u d z : List Ln} {x : Ln}

theorem Lv.on (h : Lv w wr bi bl i v1 v2 v3 u d z) (hb : Below wr.heap.size wr w') : Lv w w' bi bl i v1 v2 v3 u d z :=
  ⟨h.o1.on hb, h.o2.on hb, h.o3.on hb, h.bx.kept hb, h.ix.kept hb, below_on h.be hb, h.n12, h.n13, h.n23, h.b1, h.b2, h.b3, h.nb⟩

theorem Lv.grown_be (h : Lv w wr bi bl i v1 v2 v3 u d z) {v : Value} {l : List Ln} (ho : OwnL wr w.heap.size v l) (hg : wr.grownBy w' v.ownBlock) : Below w.heap.size w w' :=
  Below.grown h.be hg h.be.size (fun k hk => (World.ownsRow.lt ho.1 k hk).1)

theorem ne_of_opt {o : Option Nat} {k : Nat} (h : ∀ j, o = some j → j ≠ k) : some k ≠ o := fun e => h k e.symm rfl

theorem Lv.app1 (h : Lv w wr bi bl i v1 v2 v3 u d z) (ho : OwnL w' w.heap.size v' (u ++ [x])) (hg : wr.grownBy w' v1.ownBlock) (hf : v'.ownBlock = v1.ownBlock ∨ v'.ownBlock = some wr.heap.size) : Lv w w' bi bl i v' v2 v3 (u ++ [x]) d z := by
  have l2 := h.o2.lt
  have l3 := h.o3.lt
  have lb := h.bx.lt
  have li := h.ix.lt
  refine ⟨ho, h.o2.other hg (fun k e q => h.n12 k q e), h.o3.other hg (fun k e q => h.n13 k q e), h.bx.grown hg (ne_of_opt fun j e => (h.b1 j e).1), h.ix.grown hg (ne_of_opt fun j e => (h.b1 j e).2), h.grown_be h.o1 hg, ?_, ?_, h.n23, ?_, h.b2, h.b3, h.nb⟩
  · intro k e q
    rcases hf with f | f
    · exact h.n12 k (f ▸ e) q
    · rw [f] at e; cases e; have := l2 _ q; omega
  · intro k e q
    rcases hf with f | f
    · exact h.n13 k (f ▸ e) q
    · rw [f] at e; cases e; have := l3 _ q; omega
  · intro k e
    rcases hf with f | f
    · exact h.b1 k (f ▸ e)
    · rw [f] at e; cases e; exact ⟨by omega, by omega⟩

theorem Lv.app2 (h : Lv w wr bi bl i v1 v2 v3 u d z) (ho : OwnL w' w.heap.size v' (d ++ [x])) (hg : wr.grownBy w' v2.ownBlock) (hf : v'.ownBlock = v2.ownBlock ∨ v'.ownBlock = some wr.heap.size) : Lv w w' bi bl i v1 v' v3 u (d ++ [x]) z := by
  have l1 := h.o1.lt
  have l3 := h.o3.lt
  have lb := h.bx.lt
  have li := h.ix.lt
  refine ⟨h.o1.other hg (fun k e q => h.n12 k e q), ho, h.o3.other hg (fun k e q => h.n23 k q e), h.bx.grown hg (ne_of_opt fun j e => (h.b2 j e).1), h.ix.grown hg (ne_of_opt fun j e => (h.b2 j e).2), h.grown_be h.o2 hg, ?_, h.n13, ?_, h.b1, ?_, h.b3, h.nb⟩
  · intro k e q
    rcases hf with f | f
    · exact h.n12 k e (f ▸ q)
    · rw [f] at q; cases q; have := l1 _ e; omega
  · intro k e q
    rcases hf with f | f
    · exact h.n23 k (f ▸ e) q
    · rw [f] at e; cases e; have := l3 _ q; omega
  · intro k e
    rcases hf with f | f
    · exact h.b2 k (f ▸ e)
    · rw [f] at e; cases e; exact ⟨by omega, by omega⟩

theorem grown_cell (w : World) (b : Nat) (v : Value) : w.grownBy (w.setCell ⟨b, 0, none⟩ v) (some b) := ⟨rfl, rfl, rfl, by simp, fun k _ hk => heap_setCell_other w ⟨b, 0, none⟩ k v (fun e => hk (by simp [e]))⟩

theorem OwnL.cell {B : Nat} {v : Value} {l : List Ln} (h : OwnL wr B v l) {q : Nat} (hq : ∀ k, v.ownBlock = some k → k ≠ q) (y : Value) : OwnL (wr.setCell ⟨q, 0, none⟩ y) B v l :=
  ⟨World.ownsRow.kept h.1 (grown_cell wr q y) (by
    cases e : v.ownBlock with
    | none => exact Or.inl rfl
    | some k => exact Or.inr (fun h' => hq k e (by injection h'))), h.2⟩

theorem Lv.app3 (h : Lv w wr bi bl i v1 v2 v3 u d z) (ho : OwnL w' w.heap.size v' (z ++ [x])) (hg : wr.grownBy w' v3.ownBlock) (hf : v'.ownBlock = v3.ownBlock ∨ v'.ownBlock = some wr.heap.size) : Lv w (w'.setCell ⟨bl, 0, none⟩ v') bi bl i v1 v2 v' u d (z ++ [x]) := by
  have l1 := h.o1.lt
  have l2 := h.o2.lt
  have lb := h.bx.lt
  have li := h.ix.lt
  have g3 : ∀ k, v'.ownBlock = some k → k ≠ bl ∧ k ≠ bi := by
    intro k e
    rcases hf with f | f
    · exact h.b3 k (f ▸ e)
    · rw [f] at e; cases e; exact ⟨by omega, by omega⟩
  refine ⟨(h.o1.other hg (fun k e q => h.n13 k e q)).cell (fun k e => (h.b1 k e).1) _, (h.o2.other hg (fun k e q => h.n23 k e q)).cell (fun k e => (h.b2 k e).1) _, ho.cell (fun k e => (g3 k e).1) _,
    (h.bx.grown hg (ne_of_opt fun j e => (h.b3 j e).1)).put _, (h.ix.grown hg (ne_of_opt fun j e => (h.b3 j e).2)).aside h.nb.1.symm _, (h.grown_be h.o3 hg).setCell (p := ⟨bl, 0, none⟩) h.nb.2 _, h.n12, ?_, ?_, h.b1, h.b2, g3, h.nb⟩
  · intro k e q
    rcases hf with f | f
    · exact h.n13 k e (f ▸ q)
    · rw [f] at q; cases q; have := l1 _ e; omega
  · intro k e q
    rcases hf with f | f
    · exact h.n23 k e (f ▸ q)
    · rw [f] at q; cases q; have := l2 _ e; omega
end
end Go.Proofs.YtefpaobboimakaaGreat

namespace Go.Proofs.YtefpaobboimakaaGreat
open Go.RowKit Go.Sort Go.Shelf

/-- What a function of package poly panics with. -/
def pan (er : Int) : List PanicEntry := [{ v := .iface 32 (.int .i64 er), recovered := false }]

def LvRes (w : World) (l : List Ln) (i : Nat) (e : Ending) (w' : World) : Prop := (leaveE l i = 0 ∧ LRes w (leaveL l i) e w') ∨ (leaveE l i ≠ 0 ∧ e = .panicked (pan (leaveE l i)) ∧ Below w.heap.size w w')

attribute [local go_sem] Oper.semAt_some

theorem OwnL.form {w : World} {B : Nat} {v : Value} {l : List Ln} (h : OwnL w B v l) : ∃ ao cap, v = .slice ao l.length cap := by
  rcases h.1.2 with ⟨e, h0⟩ | ⟨g, cap, _, e, _⟩
  · exact ⟨none, 0, by rw [h0]; exact e⟩
  · exact ⟨_, _, e⟩

theorem sumL_len {x y : Ln} {i : Nat} (hx : x.a.length = 6) (hy : y.a.length = 6) : (sumL x y i).a.length = 6 := by
  unfold sumL Ln.low
  split <;> simp [Ln.plus, Ln.times, hx, hy]

theorem Ln.fits_rg {x : Ln} (hx : x.a.length = 6) (h : x.fits = true) : Rg 2147483647 x := by
  unfold Ln.fits at h
  rw [Bool.and_eq_true, List.all_eq_true] at h
  exact ⟨hx, fun v hv => by have := h.1 v hv; unfold fitB at this; simpa using this, by have := h.2; unfold fitB at this; simpa using this⟩

def sumP (i : Nat) (p : Ln × Ln) : Ln := sumL p.1 p.2 i

theorem OwnL.rd {w : World} {B : Nat} {ao : Option Addr} {cap : Nat} {l : List Ln} (h : OwnL w B (.slice ao l.length cap) l) : RdL w ao l := by
  rcases h.1.2 with ⟨e, h0⟩ | ⟨g, c, _, e, _⟩
  · intro t ht; omega
  · injection e with e1 e2 e3
    subst e1
    exact h.rw'.rd

theorem cell_def {w : World} {D : Nat} {ds : Option (List Deferred)} (h : w.heap[D]? = some (.deferred ds)) {p : Addr} {v : Value} (hc : w.cell? p = some v) (o : Obj) : (w.putObj D o).cell? p = some v := by
  have hne : p.block ≠ D := by
    rintro rfl
    simp [World.cell?, h] at hc
  unfold World.cell? at hc ⊢
  rw [World.putObj_heap_other hne]; exact hc

theorem RdL.def {w : World} {D : Nat} {ds : Option (List Deferred)} {ao : Option Addr} {l : List Ln} (hr : RdL w ao l) (h : w.heap[D]? = some (.deferred ds)) (o : Obj) : RdL (w.putObj D o) ao l := fun t ht => by
  obtain ⟨a, e, c⟩ := hr t ht
  exact ⟨a, e, c.1, fun j v hv => cell_def h (c.2 j v hv) o⟩

/-- What leaveOut has between two rounds of its second loop. -/
structure LvI (w : World) (bi bl i : Nat) (zs : List Ln) (T : Nat → Prop) (A : World) (v : Value) : Prop where
  own : OwnL A w.heap.size v zs
  bx : Bx1 A bl v 66
  ix : Bx1 A bi (.int .i64 i) 3
  be : Below w.heap.size w A
  tl : T bl
  tv : ∀ k, v.ownBlock = some k → T k ∧ k ≠ bl
  ti : ¬ T bi
  lt : ∀ k, T k → k < A.heap.size ∧ w.heap.size ≤ k
section
variable {w A B : World} {bi bl i : Nat} {zs : List Ln} {T : Nat → Prop} {v : Value}

theorem LvI.stay (h : LvI w bi bl i zs T A v) {D : Nat} (k : Kept (fun k => k < D ∨ T k) A B) (hD : bi < D) (hw : w.heap.size ≤ D) : LvI w bi bl i zs T B v :=
  ⟨h.own.keptK k (fun j e => Or.inr (h.tv j e).1), h.bx.keptK k (Or.inr h.tl), h.ix.keptK k (Or.inl hD),
    h.be.trans (k.below w.heap.size h.be.size fun j hj => Or.inl (by omega)), h.tl, h.tv, h.ti, fun j q => ⟨Nat.lt_of_lt_of_le (h.lt j q).1 k.size, (h.lt j q).2⟩⟩

theorem LvI.on (h : LvI w bi bl i zs T A v) (k : Below A.heap.size A B) : LvI w bi bl i zs T B v :=
  ⟨h.own.on k, h.bx.kept k, h.ix.kept k, below_on h.be k, h.tl, h.tv, h.ti, fun j q => ⟨Nat.lt_of_lt_of_le (h.lt j q).1 k.size, (h.lt j q).2⟩⟩

theorem LvI.more (h : LvI w bi bl i zs T A v) {S : Nat → Prop} (hs : ∀ k, S k → k < A.heap.size ∧ w.heap.size ≤ k) (hi : ¬ S bi) : LvI w bi bl i zs (fun k => T k ∨ S k) A v :=
  ⟨h.own, h.bx, h.ix, h.be, Or.inl h.tl, fun k e => ⟨Or.inl (h.tv k e).1, (h.tv k e).2⟩, fun q => q.elim h.ti hi, fun k q => q.elim (h.lt k) (hs k)⟩

/-- A line more. -/
theorem LvI.app (h : LvI w bi bl i zs T A v) {v' : Value} {x : Ln} (ho : OwnL B w.heap.size v' (zs ++ [x])) (hg : A.grownBy B v.ownBlock) (hf : v'.ownBlock = v.ownBlock ∨ v'.ownBlock = some A.heap.size) :
    LvI w bi bl i (zs ++ [x]) (fun k => k = bl ∨ v'.ownBlock = some k) (B.setCell ⟨bl, 0, none⟩ v') v' := by
  have lb := h.bx.lt
  have li := h.ix.lt
  have nbl : bl ≠ bi := fun e => h.ti (e ▸ h.tl)
  have gv : ∀ k, v'.ownBlock = some k → k ≠ bl ∧ k ≠ bi ∧ w.heap.size ≤ k := by
    intro k e
    rcases hf with f | f
    · rw [f] at e
      have := h.tv k e
      exact ⟨this.2, fun q => h.ti (q ▸ this.1), (h.lt k this.1).2⟩
    · rw [f] at e; cases e
      have := h.be.size
      exact ⟨by omega, by omega, by omega⟩
  refine ⟨ho.cell (fun k e => (gv k e).1) _, (h.bx.grown hg (ne_of_opt fun j e => (h.tv j e).2)).put _, (h.ix.grown hg (ne_of_opt fun j e q => h.ti (q ▸ (h.tv j e).1))).aside nbl.symm _,
    (Below.grown h.be hg h.be.size (fun k hk => (World.ownsRow.lt h.own.1 k hk).1)).setCell (p := ⟨bl, 0, none⟩) (h.lt _ h.tl).2 _, Or.inl rfl, fun k e => ⟨Or.inr e, (gv k e).1⟩, ?_, ?_⟩
  · rintro (q | q)
    · exact nbl q.symm
    · exact (gv _ q).2.1 rfl
  · rintro k (q | q)
    · subst q; refine ⟨?_, (h.lt _ h.tl).2⟩
      have := hg.size; simp; omega
    · have := ho.lt k q
      exact ⟨by simpa using this, (gv k q).2.2⟩

theorem LvI.app_kept (h : LvI w bi bl i zs T A v) (hg : A.grownBy B v.ownBlock) (v' : Value) : Kept (fun k => ¬ T k) A (B.setCell ⟨bl, 0, none⟩ v') :=
  have k1 : Kept (fun k => ¬ T k) A B := ⟨hg.os, hg.tape, hg.output, hg.size, fun k hk q => hg.block k hk (fun e => q (h.tv k e.symm).1)⟩
  have g := grown_cell B bl v'
  k1.trans ⟨g.os, g.tape, g.output, g.size, fun k hk q => g.block k hk (fun e => by injection e with e; exact q (e ▸ h.tl))⟩
end

/-- In a round: the two lines in boxes of the round's own. -/
structure LvA (w : World) (D bi bl i : Nat) (zs : List Ln) (x : Ln × Ln) (T : Nat → Prop) (A : World) (v : Value) (q1 q2 : Nat) : Prop where
  i : LvI w bi bl i zs T A v
  b1 : Bk A q1 x.1
  b2 : Bk A q2 x.2
  t1 : T q1
  t2 : T q2

theorem LvA.stay {w A B : World} {D bi bl i : Nat} {zs : List Ln} {x : Ln × Ln} {T : Nat → Prop} {v : Value} {q1 q2 : Nat} (h : LvA w D bi bl i zs x T A v q1 q2) (k : Kept (fun k => k < D ∨ T k) A B) (hD : bi < D) (hw : w.heap.size ≤ D) : LvA w D bi bl i zs x T B v q1 q2 :=
  ⟨h.i.stay k hD hw, h.b1.of_block (k.block _ h.b1.lt (Or.inr h.t1)), h.b2.of_block (k.block _ h.b2.lt (Or.inr h.t2)), h.t1, h.t2⟩

set_option maxRecDepth 20000 in
theorem pairs_any (a1 a2 : Option Addr) (n1 n2 k1 k2 : Nat) (w : World) :
    Calls Tryz.prog 87 #[.slice a1 n1 k1, .slice a2 n2 k2] w (fun e w' => e = .returned (.func (.func 119) #[] #[.pointer (some ⟨w.heap.size, 0, none⟩), .pointer (some ⟨w.heap.size + 1, 0, none⟩)])
      ∧ w' = (w.alloc (.cells #[.slice a1 n1 k1] 66)).alloc (.cells #[.slice a2 n2 k2] 66)) := by
  go_enter Tryz.func87, Tryz.ntmps87
  go_wp2_with fail
  go_ret
  exact ⟨by first | rfl | simp, by first | rfl | simp⟩

set_option maxRecDepth 100000 in
set_option maxHeartbeats 8000000 in
theorem leave_any (l : List Ln) (ao : Option Addr) (cap i : Nat) (w : World) (hl : l.length ≤ 2000) (hi : i < 6) (hR : RdL w ao l) (hg : ∀ x ∈ l, Rg 2147483647 x) :
    Calls Tryz.prog 44 #[.slice ao l.length cap, .int .i64 i] w (LvRes w l i) := by
  have hz := ln_zero
  have HG := Lib.hid hg
  have hi' := hi
  have HR := Lib.hid hR
  obtain ⟨n, hn⟩ : ∃ n, n = l.length := ⟨_, rfl⟩
  have HN := Lib.hid hn
  have hle : n ≤ 2000 := by omega
  rw [← hn]
  have hi6 : (i : Int) < 6 := by omega
  obtain ⟨bi, hbi⟩ : ∃ bi, bi = w.heap.size := ⟨_, rfl⟩
  obtain ⟨bl, hbl⟩ : ∃ bl, bl = w.heap.size + 1 := ⟨_, rfl⟩
  obtain ⟨w0, hw0⟩ : ∃ w0, w0 = (w.alloc (.cells #[.int .i64 i] 3)).alloc (.cells #[.slice none 0 0] 66) := ⟨_, rfl⟩
  have E0 := Lib.hid (show Below w.heap.size w w0 by rw [hw0]; exact past_two (Below.refl _ _))
  have L0 := Lib.hid (show Lv w w0 bi bl i (.slice none 0 0) (.slice none 0 0) (.slice none 0 0) [] [] [] from by
    refine ⟨OwnL.nil _ _, OwnL.nil _ _, OwnL.nil _ _, ?_, ?_, E0.out, ?_, ?_, ?_, ?_, ?_, ?_, by omega, by omega⟩
    · rw [hw0, hbl]; have := Bx1.made (w.alloc (.cells #[.int .i64 i] 3)) (.slice none 0 0) 66; simpa using this
    · rw [hw0, hbi]; exact (Bx1.made w (.int .i64 i) 3).kept (one_more _)
    all_goals (intro k e; cases e))
  clear hl hR hg hn
  refine (callsIn_wide (n := 10)).1 (callsIn_of_wpAt Tryz.func44 rfl trivial rfl ?_)
  simp only [Tryz.ntmps44, List.size_toArray, List.length_cons, List.length_nil, Nat.reduceAdd, Nat.reduceSub, Array.replicate_succ, Array.replicate_zero, List.push_toArray, List.append_toArray, List.nil_append, List.cons_append]
  refine wpAt_seq (wpAt_of_wpIn (wpIn_wide.2 ?_))
  go_wp2_with fail
  show WpAt _ _ _ _ _ _ _ _
  refine wpAt_seq (wpAt_of_wpIn (wpIn_wide.2 ?_))
  go_wp2_with fail
  show WpAt _ _ _ _ _ _ _ _
  rw [← hw0, ← hbl, ← hbi]
  have HBI := Lib.hid hbi
  have HBL := Lib.hid hbl
  clear hw0 hbi hbl
  refine wpAt_seq (wpAt_of_wpIn (wpIn_wide.2 ?_))
  go_wp2_with fail
  go_loopw [5, 6, 15] (fun v1 v2 s wr => ∃ (t : Nat) (v3 : Value), s = .int .i64 t ∧ t ≤ n ∧ Hid (Lv w wr bi bl i v1 v2 v3 (ups (l.take t) i) (dns (l.take t) i) (zrs (l.take t) i))) (fun _ _ s _ => n - (intOf s).toNat)
  case atStart => exact ⟨0, .slice none 0 0, rfl, by omega, Lib.hid (by simpa [ups, dns, zrs] using L0.out)⟩
  case round =>
    obtain ⟨t, v3, rfl, ht, HL⟩ := hrel
    by_cases htn : t < n
    · have hl1 : t < l.length := by have := HN.out; omega
      obtain ⟨a, ha, hla⟩ := HR.out.on HL.out.be t hl1
      obtain ⟨x, hx⟩ : ∃ x, x = l[t] := ⟨_, rfl⟩
      rw [← hx] at hla
      have LA := Lib.hid hla
      have GX := Lib.hid (show Rg 2147483647 x by rw [hx]; exact HG.out _ (List.getElem_mem _))
      obtain ⟨u, hu⟩ : ∃ u, u = gA x.a i := ⟨_, rfl⟩
      have US := Lib.hid (show ups (l.take (t + 1)) i = ups (l.take t) i ++ (if decide (0 < u) then [x] else []) by rw [hu, hx]; exact filt_snoc hl1)
      have DS := Lib.hid (show dns (l.take (t + 1)) i = dns (l.take t) i ++ (if decide (u < 0) then [x] else []) by rw [hu, hx]; exact filt_snoc hl1)
      have ZS := Lib.hid (show zrs (l.take (t + 1)) i = zrs (l.take t) i ++ (if decide (u = 0) then [x] else []) by rw [hu, hx]; exact filt_snoc hl1)
      have UL := Lib.hid (show (ups (l.take t) i).length ≤ 2000 by unfold ups; refine Nat.le_trans (List.length_filter_le _ _) ?_; simp; omega)
      have DL := Lib.hid (show (dns (l.take t) i).length ≤ 2000 by unfold dns; refine Nat.le_trans (List.length_filter_le _ _) ?_; simp; omega)
      have ZL := Lib.hid (show (zrs (l.take t) i).length ≤ 2000 by unfold zrs; refine Nat.le_trans (List.length_filter_le _ _) ?_; simp; omega)
      generalize ups (l.take t) i = U at *
      generalize dns (l.take t) i = D at *
      generalize zrs (l.take t) i = Z at *
      clear hla hx hl1
      subst ha
      obtain ⟨q, hq⟩ : ∃ q, q = wr.heap.size := ⟨_, rfl⟩
      have N1 := Lib.hid (show Bk (wr.alloc (.cells ln0.cs 82)) wr.heap.size ln0 from Bk.made wr ln0 rfl)
      have N2 := Lib.hid (N1.out.setRow GX.out.len)
      have B2 := Lib.hid (Below.setRow ((Below.refl wr.heap.size wr).alloc (Nat.le_refl _) (.cells ln0.cs 82)) (b := wr.heap.size) (Nat.le_refl _) x.cs)
      go_upto_region 6 with (first | refine wpl_loadP rfl _ rfl _ rfl x LA.out ?_ | refine wpl_store rfl _ _ rfl _ _ rfl rfl _ N1.out GX.out.len ?_)
      generalize (wr.alloc (.cells ln0.cs 82)).setRow wr.heap.size x.cs = w1 at *
      have H2 := Lib.hid (HL.out.on B2.out)
      rw [← hq] at N2 ⊢
      clear N1 B2 hq LA HL wr
      have c0 : w1.cell? ⟨q, i, none⟩ = some (.int .i64 u) := by rw [hu]; exact N2.out.at hi'
      have c1 : w1.cell? ⟨bi, 0, none⟩ = some (.int .i64 i) := H2.out.ix.cell
      have NX := Lib.hid N2.out.lnAt
      clear hi'
      by_cases hp : 0 < u
      · have e1 : decide (0 < u) = true := by simpa using hp
        have e2 : decide (u < 0) = false := by simp; omega
        have e3 : decide (u = 0) = false := by simp; omega
        rw [e1, if_pos rfl] at US
        rw [e2] at DS
        rw [e3] at ZS
        clear e1 e2 e3
        have B3 := Lib.hid (one_more (w1 := w1) (.cells x.cs 82))
        have H3 := Lib.hid (H2.out.on B3.out)
        have M3 := Lib.hid (Bk.made w1 x GX.out.len).lnAt
        have z3 : w.heap.size ≤ (w1.alloc (.cells x.cs 82)).heap.size := H3.out.be.size
        go_wp2_with (first | refine wpl_loadP rfl _ rfl _ rfl x NX.out ?_ | refine wpl_bs1 rfl _ rfl x rfl GX.out.len ?_ | (at_builtin; refine wpl_appL rfl _ _ rfl w.heap.size _ _ x rfl H3.out.o1 _ _ rfl M3.out (by have := UL.out; omega) z3 ?_))
        intro v' w5 o5 g5 f5
        have H5 := Lib.hid (H3.out.app1 o5 g5 (by rw [World.size_alloc]; exact f5))
        clear o5 g5 f5
        go_wp2_with fail
        go_roundw
        case rel => exact ⟨t + 1, v3, by go_num, by omega, Lib.hid (by rw [US.out, DS.out, ZS.out]; simpa using H5.out)⟩
        case measure => simp [intOf]; omega
      · by_cases hm : u < 0
        · have e1 : decide (0 < u) = false := by simpa using hp
          have e2 : decide (u < 0) = true := by simpa using hm
          have e3 : decide (u = 0) = false := by simp; omega
          rw [e1] at US
          rw [e2, if_pos rfl] at DS
          rw [e3] at ZS
          clear e1 e2 e3
          have B3 := Lib.hid (one_more (w1 := w1) (.cells x.cs 82))
          have H3 := Lib.hid (H2.out.on B3.out)
          have M3 := Lib.hid (Bk.made w1 x GX.out.len).lnAt
          have z3 : w.heap.size ≤ (w1.alloc (.cells x.cs 82)).heap.size := H3.out.be.size
          go_wp2_with (first | refine wpl_loadP rfl _ rfl _ rfl x NX.out ?_ | refine wpl_bs1 rfl _ rfl x rfl GX.out.len ?_ | (at_builtin; refine wpl_appL rfl _ _ rfl w.heap.size _ _ x rfl H3.out.o2 _ _ rfl M3.out (by have := DL.out; omega) z3 ?_))
          intro v' w5 o5 g5 f5
          have H5 := Lib.hid (H3.out.app2 o5 g5 (by rw [World.size_alloc]; exact f5))
          clear o5 g5 f5
          go_wp2_with fail
          go_roundw
          case rel => exact ⟨t + 1, v3, by go_num, by omega, Lib.hid (by rw [US.out, DS.out, ZS.out]; simpa using H5.out)⟩
          case measure => simp [intOf]; omega
        · have e1 : decide (0 < u) = false := by simpa using hp
          have e2 : decide (u < 0) = false := by simpa using hm
          have e3 : decide (u = 0) = true := by simp; omega
          rw [e1] at US
          rw [e2] at DS
          rw [e3, if_pos rfl] at ZS
          clear e1 e2 e3
          have B3 := Lib.hid (one_more (w1 := w1) (.cells x.cs 82))
          have H3 := Lib.hid (H2.out.on B3.out)
          have M3 := Lib.hid (Bk.made w1 x GX.out.len).lnAt
          have z3 : w.heap.size ≤ (w1.alloc (.cells x.cs 82)).heap.size := H3.out.be.size
          obtain ⟨a3, c3, e3⟩ := H2.out.o3.form
          have c2 : w1.cell? ⟨bl, 0, none⟩ = some (.slice a3 Z.length c3) := by rw [← e3]; exact H2.out.bx.cell
          go_wp2_with (first | refine wpl_loadP rfl _ rfl _ rfl x NX.out ?_ | refine wpl_bs1 rfl _ rfl x rfl GX.out.len ?_ | (at_builtin; refine wpl_appL rfl _ _ rfl w.heap.size v3 _ x e3.symm H3.out.o3 _ _ rfl M3.out (by have := ZL.out; omega) z3 ?_))
          intro v' w5 o5 g5 f5
          rw [← e3] at g5 f5
          have H5 := Lib.hid (H3.out.app3 o5 g5 (by rw [World.size_alloc]; exact f5))
          have b5 := H3.out.bx.grown g5 (ne_of_opt fun j e => (H3.out.b3 j e).1)
          obtain ⟨a5, c5, e5⟩ := o5.form
          subst e5
          have y1 := b5.cell
          have y2 := b5.free
          clear o5 g5 f5
          go_wp2_with fail
          go_roundw
          case rel => exact ⟨t + 1, _, by go_num, by omega, Lib.hid (by rw [US.out, DS.out, ZS.out]; simpa using H5.out)⟩
          case measure => simp [intOf]; omega
    · have e : l.take t = l := List.take_of_length_le (by have := HN.out; omega)
      rw [e] at HL
      have LU := Lib.hid (show (ups l i).length ≤ n by rw [HN.out]; unfold ups; exact List.length_filter_le _ _)
      have LD := Lib.hid (show (dns l i).length ≤ n by rw [HN.out]; unfold dns; exact List.length_filter_le _ _)
      have LZ := Lib.hid (show (zrs l i).length ≤ n by rw [HN.out]; unfold zrs; exact List.length_filter_le _ _)
      obtain ⟨nu, hnu⟩ : ∃ nu, nu = (ups l i).length := ⟨_, rfl⟩
      obtain ⟨nd, hnd⟩ : ∃ nd, nd = (dns l i).length := ⟨_, rfl⟩
      obtain ⟨nz, hnz⟩ : ∃ nz, nz = (zrs l i).length := ⟨_, rfl⟩
      obtain ⟨a1, k1, f1⟩ := HL.out.o1.form
      obtain ⟨a2, k2, f2⟩ := HL.out.o2.form
      obtain ⟨a3, k3, f3⟩ := HL.out.o3.form
      rw [← hnu] at f1 LU
      rw [← hnd] at f2 LD
      rw [← hnz] at f3 LZ
      subst f1 f2 f3
      have c0 : wr.cell? ⟨bl, 0, none⟩ = some (.slice a3 nz k3) := HL.out.bx.cell
      have LU' := LU.out
      have LD' := LD.out
      have LZ' := LZ.out
      obtain ⟨p, hp⟩ : ∃ p, p = nu * nd := ⟨_, rfl⟩
      have hp1 : (nu : Int) * (nd : Int) = p := by rw [hp]; simp
      have hp2 : p ≤ 4000000 := by rw [hp]; exact Nat.mul_le_mul (Nat.le_trans LU' hle) (Nat.le_trans LD' hle)
      have HE := Lib.hid (show leaveE l i = if 1000 < nz + p then 3 else if (sums l i).all Ln.fits then 0 else 7 by rw [hp, hnu, hnd, hnz]; rfl)
      have NU := Lib.hid hnu
      have ND := Lib.hid hnd
      have NZ := Lib.hid hnz
      have HP := Lib.hid hp
      clear hp hnu hnd hnz e LU LD LZ
      go_wp2_with fail
      refine wpAt_seq (wpAt_of_wpIn (wpIn_wide.2 ?_))
      have p2 : (p : Int) ≤ 4000000 := by omega
      by_cases hq : 1000 < nz + p
      · have hq' : (1000 : Int) < nz + p := by omega
        go_wp2_with (rw [hp1])
        have he : leaveE l i = 3 := by rw [HE.out, if_pos hq]
        exact Or.inr ⟨by rw [he]; decide, by rw [he]; rfl, HL.out.be⟩
      · have hq' : ¬ (1000 : Int) < nz + p := by omega
        go_wp2_with (rw [hp1])
        refine wpAt_seq (wpAt_seq (wpAt_of_wpIn (wpIn_wide.2 ?_)))
        go_wp2_with fail
        refine (pairs_any a1 a2 nu nd k1 k2 _).mono ?_
        rintro e w2 ⟨rfl, hw2⟩
        go_wp2_with fail
        obtain ⟨w1, hw1⟩ : ∃ w1, w1 = (wr.alloc (.cells #[.slice a1 nu k1] 66)).alloc (.cells #[.slice a2 nd k2] 66) := ⟨_, rfl⟩
        rw [← hw1]
        have B1 := Lib.hid (show Below wr.heap.size wr w1 by rw [hw1]; exact past_two (Below.refl _ _))
        have PA := Lib.hid (show Bx1 w1 wr.heap.size (.slice a1 nu k1) 66 by rw [hw1]; exact (Bx1.made wr _ _).kept (one_more _))
        have PB := Lib.hid (show Bx1 w1 (wr.heap.size + 1) (.slice a2 nd k2) 66 by rw [hw1]; have := Bx1.made (wr.alloc (.cells #[.slice a1 nu k1] 66)) (.slice a2 nd k2) 66; simpa using this)
        have Z1 := Lib.hid (show w1.heap.size = wr.heap.size + 2 by rw [hw1]; simp)
        have H1 := Lib.hid (HL.out.on B1.out)
        clear hw1
        have D1 := Lib.hid (show bi < w1.heap.size from H1.out.ix.lt)
        have D2 := Lib.hid (show w.heap.size ≤ w1.heap.size from H1.out.be.size)
        have UP := Lib.hid (show ∀ x ∈ prs (ups l i) (dns l i), Rg 2147483647 x.1 ∧ Rg 2147483647 x.2 ∧ gA x.1.a i ≠ 0 from by
          intro x hx
          unfold prs at hx
          simp only [List.mem_flatMap, List.mem_map] at hx
          obtain ⟨a, ha, b, hb, rfl⟩ := hx
          unfold ups at ha
          unfold dns at hb
          rw [List.mem_filter] at ha hb
          have := ha.2
          simp only [decide_eq_true_eq] at this
          exact ⟨HG.out _ ha.1, HG.out _ hb.1, by show gA a.a i ≠ 0; omega⟩)
        have PL := Lib.hid (show (prs (ups l i) (dns l i)).length ≤ 1000 by
          have e : (prs (ups l i) (dns l i)).length = p := by rw [HP.out, NU.out, ND.out]; unfold prs; simp [List.length_flatMap, List.map_const', List.sum_replicate_nat]
          omega)
        have ZZ := Lib.hid (show (zrs l i).length ≤ 1000 by have := NZ.out; omega)
        refine wpAt_block (wpAt_rangeP Tryz.func44 rfl pairs_enters (encs := encP) (xs := prs (ups l i) (dns l i)) (er := none) (fun _ => rfl)
          (fun pre T A => (∃ v, LvI w bi bl i (zrs l i ++ pre.map (sumP i)) T A v) ∧ ∀ q ∈ pre, (sumP i q).fits = true)
          (fun chain B => chain = pan 7 ∧ leaveE l i = 7 ∧ Below w.heap.size w B)
          (fun pre x T a' A => ∃ q1 q2 v, a' = { tmps := #[.slice ao n cap, .int .i64 i, undef, .pointer (some ⟨bi, 0, none⟩), .slice none 0 0, .slice a1 nu k1, .slice a2 nd k2, .pointer (some ⟨bl, 0, none⟩), undef, u9, .pointer (some ⟨q1, 0, none⟩), .pointer (some ⟨q2, 0, none⟩), undef, .slice ao n cap, .int .i64 n, .int .i64 t, .bool false, u17, u18, u19, u20, u21, u22, u23, u24, u25, u26, u27, u28, u29, u30, u31, u32, u33, u34, u35, u36, u37, u38, u39, u40, u41, u42, u43, .slice a3 nz k3, .int .i64 nz, .slice a1 nu k1, .int .i64 nu, .slice a2 nd k2, .int .i64 nd, .int .i64 p, .int .i64 (nz + p), .bool false, undef, .slice a1 nu k1, .slice a2 nd k2, .func (.func 119) #[] #[.pointer (some ⟨wr.heap.size, 0, none⟩), .pointer (some ⟨wr.heap.size + 1, 0, none⟩)], .agg x.1.cs, .agg x.2.cs, undef, undef, undef, undef, undef, undef, undef, undef, undef, undef, undef, undef, undef, undef], defers := [] } ∧ LvA w w1.heap.size bi bl i (zrs l i ++ pre.map (sumP i)) x T A v q1 q2 ∧ ∀ q ∈ pre, (sumP i q).fits = true)
          (fun k => k = bl ∨ (Value.slice a3 nz k3).ownBlock = some k) ?hst ?hsA ?hT ?h0 ?hseq ?hassign ?hbody ?hdone ?hpan ?hown)
        case hst =>
          rintro pre T A B ⟨⟨v, h⟩, hf⟩ k
          exact ⟨⟨v, h.stay k D1.out D2.out⟩, hf⟩
        case hsA =>
          rintro pre x T a' A B ⟨q1, q2, v, e, h, hf⟩ k
          exact ⟨q1, q2, v, e, h.stay k D1.out D2.out, hf⟩
        case hT =>
          rintro pre T A ⟨⟨v, h⟩, _⟩ k q
          exact (h.lt k q).1
        case h0 =>
          refine ⟨⟨_, by simpa using H1.out.o3, H1.out.bx, H1.out.ix, H1.out.be, Or.inl rfl, fun k e => ⟨Or.inr e, (H1.out.b3 k e).1⟩, ?_, ?_⟩, by simp⟩
          · rintro (q | q)
            · exact H1.out.nb.1 q.symm
            · exact (H1.out.b3 _ q).2 rfl
          · rintro k (q | q)
            · subst q; exact ⟨H1.out.bx.lt, H1.out.nb.2⟩
            · have := World.ownsRow.lt H1.out.o3.1 k q
              exact ⟨this.2, this.1⟩
        case hseq =>
          intro W k z
          have O1 := H1.out.o1.keptK k (fun _ _ => trivial)
          have O2 := H1.out.o2.keptK k (fun _ _ => trivial)
          have C1 := (PA.out.keptK k trivial).cell
          have C2 := (PB.out.keptK k trivial).cell
          have e1 := NU.out
          have e2 := ND.out
          have zz := Z1.out
          have lb := H1.out.bx.lt
          have lw := HL.out.bx.lt
          have l1 := H1.out.o1.lt
          have l2 := H1.out.o2.lt
          have l3 := HL.out.o3.lt
          rw [e1] at O1 C1 l1
          rw [e2] at O2 C2 l2
          refine pairs_seq (ups l i) (dns l i) a1 a2 k1 k2 _ _ W _ (by omega) (by omega) C1 C2 ⟨O1.rd, ?_⟩ ⟨O2.rd, ?_⟩ ?_ ?_ (fun x hx => ?_) (fun x hx => ?_)
          · rintro a rfl
            have m1 := l1 a.block rfl
            refine ⟨?_, by omega⟩
            rintro ((q | q) | q)
            · exact (H1.out.b1 a.block rfl).1 q
            · exact H1.out.n13 a.block rfl q
            · omega
          · rintro a rfl
            have m1 := l2 a.block rfl
            refine ⟨?_, by omega⟩
            rintro ((q | q) | q)
            · exact (H1.out.b2 a.block rfl).1 q
            · exact H1.out.n23 a.block rfl q
            · omega
          · rintro ((q | q) | q)
            · omega
            · have := l3 _ q; omega
            · omega
          · rintro ((q | q) | q)
            · omega
            · have := l3 _ q; omega
            · omega
          · exact (HG.out x (by unfold ups at hx; exact (List.mem_filter.1 hx).1)).len
          · exact (HG.out x (by unfold dns at hx; exact (List.mem_filter.1 hx).1)).len
        case hassign =>
          rintro lp pre x T A K ⟨⟨v, h⟩, hf⟩ hpx hK
          have hm := UP.out x (hpx.subset (by simp))
          have g1 := Lib.hid hm.1.len
          have g2 := Lib.hid hm.2.1.len
          have N1 := Lib.hid (show Bk (A.alloc (.cells ln0.cs 82)) A.heap.size ln0 from Bk.made A ln0 rfl)
          have N2 := Lib.hid (N1.out.setRow g1.out)
          have B2 := Lib.hid (Below.setRow ((Below.refl A.heap.size A).alloc (Nat.le_refl _) (.cells ln0.cs 82)) (b := A.heap.size) (Nat.le_refl _) x.1.cs)
          have HK := Lib.hid hK
          have HV := Lib.hid h
          have HF := Lib.hid hf
          have z1 : ((A.alloc (.cells ln0.cs 82)).setRow A.heap.size x.1.cs).heap.size = A.heap.size + 1 := by
            have := N2.out.lt
            simp [World.setRow]
          have M1 := Lib.hid (show Bk (((A.alloc (.cells ln0.cs 82)).setRow A.heap.size x.1.cs).alloc (.cells ln0.cs 82)) (A.heap.size + 1) ln0 by rw [← z1]; exact Bk.made _ ln0 rfl)
          have M2 := Lib.hid (M1.out.setRow g2.out)
          have N3 := Lib.hid ((N2.out.alloc (.cells ln0.cs 82)).setAside (y := A.heap.size + 1) (by omega) x.2.cs)
          have B3 := Lib.hid (Below.setRow (B2.out.alloc B2.out.size (.cells ln0.cs 82)) (b := A.heap.size + 1) (by omega) x.2.cs)
          clear hK h hf hm hpx z1
          simp only [encP]
          gi_wp2_with (first | refine inl_store rfl _ _ rfl _ _ rfl rfl _ N1.out g1.out ?_ | refine inl_store rfl _ _ rfl _ _ rfl rfl _ M1.out g2.out ?_)
          have lz : A.heap.size + 1 < (((((A.alloc (.cells ln0.cs 82)).setRow A.heap.size x.1.cs).alloc (.cells ln0.cs 82)).setRow (A.heap.size + 1) x.2.cs)).heap.size := M2.out.lt
          generalize (((A.alloc (.cells ln0.cs 82)).setRow A.heap.size x.1.cs).alloc (.cells ln0.cs 82)).setRow (A.heap.size + 1) x.2.cs = A2 at *
          have li := HV.out.ix.lt
          have hw := HV.out.be.size
          refine HK.out _ _ (fun k => T k ∨ (k = A.heap.size ∨ k = A.heap.size + 1)) ⟨A.heap.size, A.heap.size + 1, v, rfl, ⟨(HV.out.on B3.out).more ?_ ?_, N3.out, M2.out, Or.inr (Or.inl rfl), Or.inr (Or.inr rfl)⟩, HF.out⟩ (Kept.of_below B3.out _) ?_
          · rintro k (rfl | rfl) <;> omega
          · rintro (q | q) <;> omega
          · rintro k (q | q | q)
            · exact Or.inl q
            · right; omega
            · right; omega
        case hbody =>
          rintro lp pre x T a' A ⟨q1, q2, v, rfl, hA, hf⟩ hpx
          have hmx := hpx.subset (show x ∈ pre ++ [x] by simp)
          have hm := UP.out x hmx
          have S6 := Lib.hid (show (sumP i x).a.length = 6 from sumL_len hm.1.len hm.2.1.len)
          have SM := Lib.hid (fun W => sum_any x.1 x.2 i W hi' hm.1 hm.2.1 hm.2.2)
          have FT := Lib.hid (fun W => fits_any (sumP i x) W S6.out)
          have E7 := Lib.hid (show (sumP i x).fits = false → leaveE l i = 7 from fun h => by
            rw [HE.out, if_neg hq, if_neg]
            intro q
            rw [List.all_eq_true] at q
            have := q (sumP i x) (by unfold sums; exact List.mem_map.2 ⟨x, hmx, rfl⟩)
            rw [h] at this; cases this)
          have PN := Lib.hid (show pre.length + 1 ≤ 1000 by have h1 := hpx.length_le; have h2 := PL.out; simp only [List.length_append, List.length_cons, List.length_nil] at h1; omega)
          have HF := Lib.hid hf
          obtain ⟨a9, k9, e9⟩ := hA.i.own.form
          obtain ⟨n9, hn9⟩ : ∃ n9, n9 = (zrs l i ++ pre.map (sumP i)).length := ⟨_, rfl⟩
          rw [← hn9] at e9
          have N9 := Lib.hid (show (zrs l i ++ pre.map (sumP i)).length ≤ 2000 by have := PN.out; have := ZZ.out; simp; omega)
          subst e9
          have HA := Lib.hid hA
          have c1 : A.cell? ⟨bi, 0, none⟩ = some (.int .i64 i) := hA.i.ix.cell
          obtain ⟨zs, hzs⟩ : ∃ zs, zs = zrs l i ++ pre.map (sumP i) := ⟨_, rfl⟩
          have ZS := Lib.hid hzs
          rw [← hzs] at hA HA hn9 N9
          clear hzs
          obtain ⟨x1, hx1⟩ : ∃ x1, x1 = x.1 := ⟨_, rfl⟩
          obtain ⟨x2, hx2⟩ : ∃ x2, x2 = x.2 := ⟨_, rfl⟩
          have L1 := Lib.hid (show LnAt A ⟨q1, 0, none⟩ x1 by rw [hx1]; exact hA.b1.lnAt)
          have L2 := Lib.hid (show LnAt A ⟨q2, 0, none⟩ x2 by rw [hx2]; exact hA.b2.lnAt)
          rw [← hx1, ← hx2] at SM
          have SP := Lib.hid (show sumL x1 x2 i = sumP i x by rw [hx1, hx2]; rfl)
          have HX := Lib.hid hmx
          obtain ⟨y, hy⟩ : ∃ y, y = sumP i x := ⟨_, rfl⟩
          have HY := Lib.hid hy
          rw [← hy] at S6 FT SP E7
          rw [SP.out] at SM
          obtain ⟨f, hff⟩ : ∃ f, f = y.fits := ⟨_, rfl⟩
          have HFF := Lib.hid hff
          rw [← hff] at FT E7
          rw [← hx1, ← hx2]
          clear hA hf hpx hmx hm hx1 hx2 hy hff hn9 hi hq hq'
          gi_wp2_with (first | refine inl_load rfl _ rfl _ rfl x1 L1.out ?_ | refine inl_load rfl _ rfl _ rfl x2 L2.out ?_)
          refine ⟨trivial, (CallsIn.inRound _ (callsIn_wide.2 (SM.out _))).mono ?_⟩
          rintro e A1 ⟨rfl, hb⟩
          have B1 := Lib.hid hb
          have N1 := Lib.hid (show Bk (A1.alloc (.cells ln0.cs 82)) A1.heap.size ln0 from Bk.made A1 ln0 rfl)
          have N2 := Lib.hid (N1.out.setRow S6.out)
          have B2 := Lib.hid (Below.setRow ((Below.refl A1.heap.size A1).alloc (Nat.le_refl _) (.cells ln0.cs 82)) (b := A1.heap.size) (Nat.le_refl _) y.cs)
          clear hb
          gi_wp2_with (first | refine inl_store rfl _ _ rfl _ _ rfl rfl _ N1.out S6.out ?_ | refine inl_load rfl _ rfl _ rfl y N2.out.lnAt ?_)
          generalize (A1.alloc (.cells ln0.cs 82)).setRow A1.heap.size y.cs = A2 at *
          obtain ⟨q3, hq3⟩ : ∃ q3, q3 = A1.heap.size := ⟨_, rfl⟩
          have B3 := Lib.hid (below_on B1.out B2.out)
          rw [← hq3] at N2 ⊢
          clear N1 B1 B2 hq3
          refine ⟨trivial, (CallsIn.inRound _ (callsIn_wide.2 (FT.out _))).mono ?_⟩
          rintro e A3 ⟨rfl, hb⟩
          have B4 := Lib.hid (below_on B3.out hb)
          have N4 := Lib.hid (N2.out.kept hb)
          have H4 := Lib.hid (HA.out.i.on B4.out)
          clear hb N2 B3
          cases f
          · gi_wp2_with fail
            exact ⟨⟨rfl, (by first | exact E7.out rfl | exact E7.out trivial), H4.out.be⟩, Kept.of_below B4.out _⟩
          · have c2 : A3.cell? ⟨bl, 0, none⟩ = some (.slice a9 n9 k9) := H4.out.bx.cell
            have B5 := Lib.hid (one_more (w1 := A3) (.cells y.cs 82))
            have H5 := Lib.hid (H4.out.on B5.out)
            have M5 := Lib.hid (Bk.made A3 y S6.out).lnAt
            have z5 : w.heap.size ≤ (A3.alloc (.cells y.cs 82)).heap.size := H5.out.be.size
            gi_wp2_with (first | refine inl_load rfl _ rfl _ rfl y N4.out.lnAt ?_ | refine inl_bs1 rfl _ rfl y rfl S6.out ?_ | refine inl_appL rfl _ _ rfl w.heap.size _ zs y rfl H5.out.own _ _ rfl M5.out (by have := N9.out; omega) z5 ?_)
            intro v' A6 o6 g6 f6
            have H6 := Lib.hid (H5.out.app o6 g6 (by rw [World.size_alloc]; exact f6))
            have K6 := Lib.hid ((Kept.of_below (below_on B4.out B5.out) (fun k => ¬ T k)).trans (H5.out.app_kept g6 v'))
            have b6 := H5.out.bx.grown g6 (ne_of_opt fun j e => (H5.out.tv j e).2)
            have S7 := Lib.hid (show ∀ k, (k = bl ∨ v'.ownBlock = some k) → T k ∨ A.heap.size ≤ k from by
              rintro k (q | q)
              · rw [q]; exact Or.inl H4.out.tl
              · rcases f6 with f | f
                · rw [f] at q; exact Or.inl (H4.out.tv k q).1
                · rw [f] at q; cases q; have := B4.out.size; right; omega)
            obtain ⟨a6, k6, e6⟩ := o6.form
            obtain ⟨m6, hm6⟩ : ∃ m6, m6 = (zs ++ [y]).length := ⟨_, rfl⟩
            rw [← hm6] at e6
            clear hm6
            subst e6
            have y1 := b6.cell
            have y2 := b6.free
            clear o6 g6 f6 b6
            gi_wp2_with fail
            refine ⟨_, ⟨⟨.slice a6 m6 k6, ?_⟩, ?_⟩, K6.out, S7.out⟩
            · rw [← List.append_assoc, ← ZS.out]
              have := H6.out
              rw [HY.out] at this
              exact this
            · have F6 : ∀ q ∈ pre ++ [x], (sumP i q).fits = true := by
                intro q hq
                rcases List.mem_append.1 hq with h | h
                · exact HF.out q h
                · rw [List.mem_singleton] at h
                  rw [h, ← HY.out, ← HFF.out]
              intro a b hq
              exact F6 (a, b) (by simpa using hq)
        case hdone =>
          rintro T B _ ⟨⟨v, h⟩, hf⟩ hD
          show WpAt _ _ _ _ _ _ _ _
          have SE := Lib.hid (show (prs (ups l i) (dns l i)).map (sumP i) = sums l i from rfl)
          rw [SE.out] at h
          have hle2 : (zrs l i ++ sums l i).length ≤ 100000 := by
            have h1 := PL.out
            have h2 := ZZ.out
            have h3 : (sums l i).length = (prs (ups l i) (dns l i)).length := by unfold sums; simp
            rw [List.length_append]; omega
          have hgr : ∀ x ∈ zrs l i ++ sums l i, Rg 2147483647 x := by
            intro x hx
            rcases List.mem_append.1 hx with q | q
            · exact HG.out x (by unfold zrs at q; exact (List.mem_filter.1 q).1)
            · unfold sums at q
              obtain ⟨y, hy, rfl⟩ := List.mem_map.1 q
              have := UP.out y hy
              exact Ln.fits_rg (sumL_len this.1.len this.2.1.len) (hf y hy)
          have he : leaveE l i = 0 := by
            rw [HE.out, if_neg hq, if_pos]
            rw [List.all_eq_true]
            intro x hx
            unfold sums at hx
            obtain ⟨y, hy, rfl⟩ := List.mem_map.1 hx
            exact hf y hy
          have LE := Lib.hid (show leaveL l i = tidyL (zrs l i ++ sums l i) from rfl)
          obtain ⟨a9, k9, e9⟩ := h.own.form
          subst e9
          have TD := Lib.hid (tidy_any (zrs l i ++ sums l i) a9 k9 B hle2 h.own.rd hgr)
          obtain ⟨n9, hn9⟩ : ∃ n9, n9 = (zrs l i ++ sums l i).length := ⟨_, rfl⟩
          rw [← hn9] at TD h
          have c9 : B.cell? ⟨bl, 0, none⟩ = some (.slice a9 n9 k9) := h.bx.cell
          have BB := Lib.hid h.be
          have HD := Lib.hid hD
          have ld : w1.heap.size < B.heap.size := by
            by_cases e : w1.heap.size < B.heap.size
            · exact e
            · rw [Array.getElem?_eq_none (by omega)] at hD; cases hD
          have HE0 := Lib.hid he
          clear h hf hD hgr hle2 hn9 he
          refine wpAt_of_wpIn (wpIn_wide.2 ?_)
          go_wp2_with fail
          refine TD.out.mono ?_
          rintro e B2 ⟨a8, k8, rfl, rd, bb⟩
          go_wp2_with fail
          have hD2 := (bb.block _ ld).trans HD.out
          refine ⟨by simp, Or.inl ⟨_, _, rfl, run_takeDeferred hD2, ?_⟩⟩
          refine ⟨_, results_tmp rfl _ _ _, Or.inl ⟨HE0.out, a8, k8, rfl, ?_, ?_⟩⟩
          · rw [LE.out]
            exact rd.def hD2 _
          · exact (below_on BB.out bb).trans ((Kept.putObj (S := fun k => k ≠ w1.heap.size) B2 _ (fun q => q rfl)).below w.heap.size (by have := (below_on BB.out bb).size; exact this) (fun k hk => by have := D2.out; omega))
        case hpan =>
          rintro chain B ⟨rfl, he, hb⟩ hD
          refine ⟨by simp, Or.inl ⟨_, _, rfl, run_takeDeferred hD, Or.inr ⟨by rw [he]; decide, by rw [he], ?_⟩⟩⟩
          exact hb.trans ((Kept.putObj (S := fun k => k ≠ w1.heap.size) B _ (fun q => q rfl)).below w.heap.size hb.size (fun k hk => by have := D2.out; omega))
        case hown =>
          rintro chain T B h
          cases h
end Go.Proofs.YtefpaobboimakaaGreat

namespace Go.Proofs.YtefpaobboimakaaGreat
open Go.RowKit Go.Sort Go.Shelf

/-- The lists of shadows, from the top down: k coordinates are left out. -/
def shL (l : List Ln) (n : Nat) : Nat → List Ln
  | 0 => tidyL l
  | k + 1 => leaveL (shL l n k) (n - 1 - k)

def shE (l : List Ln) (n : Nat) : Nat → Int
  | 0 => 0
  | k + 1 => if shE l n k = 0 then leaveE (shL l n k) (n - 1 - k) else shE l n k

theorem shE_stop {l : List Ln} {n k : Nat} (h : shE l n k ≠ 0) : ∀ j, shE l n (k + j) = shE l n k
  | 0 => rfl
  | j + 1 => by
    show (if shE l n (k + j) = 0 then _ else shE l n (k + j)) = _
    rw [shE_stop h j, if_neg h]

theorem cptN_le {l : List Ln} : ∀ t, (cptN l t).length ≤ t
  | 0 => by simp [cptN]
  | t + 1 => by
    have := cptN_le (l := l) t
    simp only [cptN, List.length_append]
    split
    · split <;> simp <;> omega
    · simp; omega

theorem tidyL_len {l : List Ln} {m : Nat} (h : l.length ≤ m) (hm : 1 ≤ m) : (tidyL l).length ≤ m := by
  unfold tidyL
  split
  · simpa using hm
  · unfold cptL
    refine Nat.le_trans (cptN_le _) ?_
    unfold srtL
    rw [List.length_mergeSort]
    unfold keepL
    exact Nat.le_trans (List.length_filter_le _ _) (by simpa using h)

theorem leaveE_len {l : List Ln} {i : Nat} (h : leaveE l i = 0) : (zrs l i ++ sums l i).length ≤ 1000 := by
  unfold leaveE at h
  split at h
  · cases h
  · rename_i q
    rw [List.length_append]
    have : (sums l i).length = (ups l i).length * (dns l i).length := by
      unfold sums prs
      simp [List.length_flatMap, List.map_const', List.sum_replicate_nat]
    omega

theorem leaveL_rg {l : List Ln} {i : Nat} (hg : ∀ x ∈ l, Rg 2147483647 x) (h : leaveE l i = 0) : ∀ x ∈ leaveL l i, Rg 2147483647 x := by
  unfold leaveL
  refine tidyL_rg (by omega) (fun x hx => ?_)
  rcases List.mem_append.1 hx with q | q
  · exact hg x (by unfold zrs at q; exact (List.mem_filter.1 q).1)
  · unfold leaveE at h
    split at h
    · cases h
    · split at h
      · rename_i q2
        rw [List.all_eq_true] at q2
        have f := q2 x q
        unfold sums at q
        obtain ⟨⟨a, b⟩, hp, rfl⟩ := List.mem_map.1 q
        unfold prs at hp
        simp only [List.mem_flatMap, List.mem_map] at hp
        obtain ⟨a', ha, b', hb, e⟩ := hp
        cases e
        exact Ln.fits_rg (sumL_len (hg _ (by unfold ups at ha; exact (List.mem_filter.1 ha).1)).len (hg _ (by unfold dns at hb; exact (List.mem_filter.1 hb).1)).len) f
      · cases h

theorem shL_ok {l : List Ln} {n : Nat} (hl : l.length ≤ 2000) (hg : ∀ x ∈ l, Rg 2147483647 x) : ∀ k, shE l n k = 0 → (shL l n k).length ≤ 2000 ∧ ∀ x ∈ shL l n k, Rg 2147483647 x
  | 0, _ => ⟨tidyL_len hl (by omega), tidyL_rg (by omega) hg⟩
  | k + 1, h => by
    have h' : (if shE l n k = 0 then leaveE (shL l n k) (n - 1 - k) else shE l n k) = 0 := h
    split at h'
    · rename_i q
      have ih := shL_ok hl hg k q
      refine ⟨?_, leaveL_rg ih.2 h'⟩
      show (leaveL _ _).length ≤ 2000
      unfold leaveL
      exact tidyL_len (by have := leaveE_len h'; omega) (by omega)
    · rename_i q; exact absurd h' q

theorem LnAt.slot {w : World} {p q : Addr} {x : Ln} (h : LnAt w p x) {a : Option Addr} {m c : Nat} (hq : w.cell? q = some (.slice a m c)) (v : Value) : LnAt (w.setCell q v) p x :=
  ⟨h.1, fun j u hu => by
    have hc := h.2 j u hu
    rw [World.cell?_setCell_other w q _ v]
    · exact hc
    · rintro rfl
      rw [hq] at hc
      have e : u = .slice a m c := by injection hc with hc; exact hc.symm
      have hm := List.mem_of_getElem? hu
      rw [e] at hm
      simp [Ln.cells] at hm⟩

theorem RdL.slot {w : World} {q : Addr} {ao : Option Addr} {l : List Ln} (h : RdL w ao l) {a : Option Addr} {m c : Nat} (hq : w.cell? q = some (.slice a m c)) (v : Value) : RdL (w.setCell q v) ao l := fun t ht => by
  obtain ⟨b, e, c⟩ := h t ht
  exact ⟨b, e, c.slot hq v⟩

/-- The row of shadows: the k lists from the top down stand. -/
structure ShR (w wr : World) (b : Nat) (l : List Ln) (n k : Nat) (cs : Array Value) : Prop where
  blk : wr.heap[b]? = some (.cells cs 66 (0, 0))
  size : cs.size = n + 1
  lo : ∀ j, j + k ≤ n → cs[j]? = some (.slice none 0 0)
  hi : ∀ j, n < j + k → j ≤ n → ∃ ao c, cs[j]? = some (.slice ao (shL l n (n - j)).length c) ∧ RdL wr ao (shL l n (n - j))
  be : Below w.heap.size w wr
  nb : w.heap.size ≤ b

theorem ShR.lt {w wr : World} {b : Nat} {l : List Ln} {n k : Nat} {cs : Array Value} (h : ShR w wr b l n k cs) : b < wr.heap.size := by
  by_cases e : b < wr.heap.size
  · exact e
  · have := h.blk; rw [Array.getElem?_eq_none (by omega)] at this; cases this

theorem ShR.on {w wr w2 : World} {b : Nat} {l : List Ln} {n k : Nat} {cs : Array Value} (h : ShR w wr b l n k cs) (hb : Below wr.heap.size wr w2) : ShR w w2 b l n k cs :=
  ⟨(hb.block b h.lt).trans h.blk, h.size, h.lo, fun j q r => by obtain ⟨ao, c, e, rd⟩ := h.hi j q r; exact ⟨ao, c, e, rd.on hb⟩, below_on h.be hb, h.nb⟩

theorem ShR.cell {w wr : World} {b : Nat} {l : List Ln} {n k : Nat} {cs : Array Value} (h : ShR w wr b l n k cs) (j : Nat) : wr.cell? ⟨b, j, none⟩ = cs[j]? := by rw [cell_of_row wr b j _ _ _ h.blk]

theorem ShR.free {w wr : World} {b : Nat} {l : List Ln} {n k : Nat} {cs : Array Value} (h : ShR w wr b l n k cs) (j : Nat) : wr.frozen? ⟨b, j, none⟩ = false := frozen_of_row wr b j _ _ h.blk

theorem ShR.put {w wr : World} {b : Nat} {l : List Ln} {n k : Nat} {cs : Array Value} (h : ShR w wr b l n k cs) {ao : Option Addr} {c j : Nat} (hj : j + k = n) (hr : RdL wr ao (shL l n k)) :
    ShR w (wr.setCell ⟨b, j, none⟩ (.slice ao (shL l n k).length c)) b l n (k + 1) (cs.setIfInBounds j (.slice ao (shL l n k).length c)) := by
  have hc := (h.cell j).trans (h.lo j (by omega))
  refine ⟨heap_setCell_same _ _ _ _ _ _ h.blk, by simp [h.size], fun t ht => ?_, fun t ht hn => ?_, h.be.setCell (p := ⟨b, j, none⟩) h.nb _, h.nb⟩
  · rw [Array.getElem?_setIfInBounds_ne (by omega)]
    exact h.lo t (by omega)
  · by_cases e : t = j
    · subst e
      have : n - t = k := by omega
      rw [this]
      refine ⟨ao, c, ?_, hr.slot hc _⟩
      rw [Array.getElem?_setIfInBounds_self_of_lt (by rw [h.size]; omega)]
    · obtain ⟨a2, c2, e2, r2⟩ := h.hi t (by omega) hn
      refine ⟨a2, c2, ?_, r2.slot hc _⟩
      rw [Array.getElem?_setIfInBounds_ne (by omega)]
      exact e2

theorem rows_info : (Tryz.prog.info? 66).map (fun i => (i.zero, i.size, i.bytes)) = some (some (.slice none 0 0), 1, 24) := by kernel_rfl

/-- 'make([][]line, n + 1)'. -/
theorem make_rows (w : World) (n : Nat) (hn : n ≤ 1000) (x : Int) (hx : x = n) :
    (Instr.makeSlice 76 (.int .i64 x) (.int .i64 x)).run Tryz.prog w = .ok (.slice (some ⟨w.heap.size, 0, none⟩) n n) (w.alloc (.cells (List.replicate n (Value.slice none 0 0)).toArray 66)) := by
  subst hx
  obtain ⟨i0, hi, hz0, hz1, hz2⟩ := info_parts rows_info
  have hr := run_make (P := Tryz.prog) w 76 66 i0 _ Tryz.underlying76 hi hz0 .i64 .i64 (n : Int) (n : Int) (by omega) (by omega) (by rw [hz2]; omega) (by omega)
  have e : madeCells (Value.slice none 0 0).cells ((n : Int).toNat * i0.size) = (List.replicate n (Value.slice none 0 0)).toArray := by
    apply Array.toList_inj.1
    rw [hz1]
    simp only [Int.toNat_natCast, Nat.mul_one]
    rw [show (Value.slice none 0 0).cells = #[Value.slice none 0 0] from rfl, toList_madeCells_one]
  rw [e] at hr
  simpa using hr

/-- What shadows leaves. -/
def ShRes (w : World) (l : List Ln) (n : Nat) (e : Ending) (w' : World) : Prop :=
  (shE l n n = 0 ∧ ∃ b cs, e = .returned (.slice (some ⟨b, 0, none⟩) (n + 1) (n + 1)) ∧ ShR w w' b l n (n + 1) cs) ∨ (shE l n n ≠ 0 ∧ e = .panicked (pan (shE l n n)) ∧ Below w.heap.size w w')

set_option maxRecDepth 100000 in
set_option maxHeartbeats 4000000 in
theorem shadows_any (l : List Ln) (ao : Option Addr) (cap n : Nat) (w : World) (hl : l.length ≤ 2000) (hn : n ≤ 6) (hR : RdL w ao l) (hg : ∀ x ∈ l, Rg 2147483647 x) :
    Calls Tryz.prog 54 #[.int .i64 n, .slice ao l.length cap] w (ShRes w l n) := by
  have OK := Lib.hid (fun k (h : shE l n k = 0) => shL_ok hl hg k h)
  have TD := Lib.hid (fun W (h : RdL W ao l) => tidy_any l ao cap W (by omega) h hg)
  have HR := Lib.hid hR
  have MK := make_rows w (n + 1) (by omega) ((n : Int) + 1) (by omega)
  obtain ⟨m0, hm0⟩ : ∃ m0, m0 = l.length := ⟨_, rfl⟩
  rw [← hm0] at TD ⊢
  obtain ⟨w0, hw0⟩ : ∃ w0, w0 = w.alloc (.cells (List.replicate (n + 1) (Value.slice none 0 0)).toArray 66) := ⟨_, rfl⟩
  have S0 := Lib.hid (show ShR w w0 w.heap.size l n 0 (List.replicate (n + 1) (Value.slice none 0 0)).toArray from
    ⟨by rw [hw0]; exact heap_alloc_last w _, by simp, fun j hj => by rw [List.getElem?_toArray, List.getElem?_replicate, if_pos (by omega)], fun j h1 h2 => by omega, by rw [hw0]; exact one_more _, Nat.le_refl _⟩)
  have R0 := Lib.hid (show RdL w0 ao l from by rw [hw0]; exact hR.on (one_more _))
  rw [← hw0] at MK
  clear hl hR hg hm0 hw0
  go_enter Tryz.func54, Tryz.ntmps54
  go_wp2_with (rw [MK])
  refine (TD.out w0 R0.out).mono ?_
  rintro e w1 ⟨a1, c1, rfl, rd1, hb1⟩
  have S1 := Lib.hid (S0.out.on hb1)
  have RD := Lib.hid (show RdL w1 a1 (shL l n 0) from rd1)
  obtain ⟨m1, hm1⟩ : ∃ m1, m1 = (tidyL l).length := ⟨_, rfl⟩
  have S2 := Lib.hid (show ShR w (w1.setCell ⟨w.heap.size, n, none⟩ (.slice a1 m1 c1)) w.heap.size l n 1 _ by rw [hm1]; exact S1.out.put (c := c1) (j := n) rfl RD.out)
  have f0 : w1.cell? ⟨w.heap.size, n, none⟩ = some (.slice none 0 0) := (S1.out.cell n).trans (S1.out.lo n (by omega))
  have f1 := S1.out.free n
  rw [← hm1]
  generalize hbb : w.heap.size = bb at f0 f1 S2 ⊢
  clear rd1 hb1 hm1 S0 R0 TD MK S1 RD HR
  go_wp2_with fail
  go_loopw [6] (fun s wr => ∃ (m : Nat), s = .int .i64 ((m : Int) - 1) ∧ m ≤ n ∧ Hid (∃ cs, ShR w wr bb l n (n - m + 1) cs) ∧ Hid (shE l n (n - m) = 0)) (fun s _ => (intOf s + 1).toNat)
  case atStart => exact ⟨n, by go_num, by omega, Lib.hid (by simpa using ⟨_, S2.out⟩), Lib.hid (by simp [shE])⟩
  case round =>
    obtain ⟨m, rfl, hm, HS, HE⟩ := hrel
    cases m with
    | zero =>
      have HS' := Lib.hid HS.out
      clear HS
      rw [show (((0 : Nat) : Int) - 1) = -1 from rfl]
      go_wp2_with fail
      go_ret
      obtain ⟨cs, h⟩ := HS'.out
      exact Or.inl ⟨HE.out, bb, cs, rfl, by rw [hbb] at *; exact h⟩
    | succ m =>
      rw [show (((m + 1 : Nat) : Int) - 1) = m by omega]
      obtain ⟨cs, h⟩ := HS.out
      obtain ⟨k, hk⟩ : ∃ k, k = n - (m + 1) := ⟨_, rfl⟩
      have hkn : m + (k + 1) = n := by omega
      have HE' := Lib.hid (show shE l n k = 0 by rw [hk]; exact HE.out)
      have HC := Lib.hid (show ShR w wr bb l n (k + 1) cs by rw [hk]; exact h)
      obtain ⟨a2, c2, e2, rd⟩ := HC.out.hi (m + 1) (by omega) hm
      rw [show n - (m + 1) = k from hk.symm] at e2 rd
      obtain ⟨ok1, ok2⟩ := OK.out k HE'.out
      have LV := Lib.hid (leave_any (shL l n k) a2 c2 m wr ok1 (by omega) rd ok2)
      have EE := Lib.hid (show shE l n (k + 1) = leaveE (shL l n k) m by
        show (if shE l n k = 0 then leaveE (shL l n k) (n - 1 - k) else shE l n k) = _
        rw [if_pos HE'.out, show n - 1 - k = m by omega])
      have EL := Lib.hid (show shL l n (k + 1) = leaveL (shL l n k) m by
        show leaveL (shL l n k) (n - 1 - k) = _
        rw [show n - 1 - k = m by omega])
      have KN := Lib.hid hkn
      have g0 := (HC.out.cell (m + 1)).trans e2
      obtain ⟨mL, hmL⟩ : ∃ mL, mL = (shL l n k).length := ⟨_, rfl⟩
      rw [← hmL] at LV g0
      clear HS h e2 rd ok1 ok2 hmL hk HE hkn
      go_wp2_with fail
      refine LV.out.mono ?_
      rintro e w2 (⟨he, a3, c3, rfl, rd3, b3⟩ | ⟨he, rfl, b3⟩)
      · have S3 := Lib.hid (HC.out.on b3)
        have RD := Lib.hid (show RdL w2 a3 (shL l n (k + 1)) by rw [EL.out]; exact rd3)
        obtain ⟨m3, hm3⟩ : ∃ m3, m3 = (shL l n (k + 1)).length := ⟨_, rfl⟩
        have S4 := Lib.hid (show ∃ cs, ShR w (w2.setCell ⟨bb, m, none⟩ (.slice a3 m3 c3)) bb l n (k + 1 + 1) cs by rw [hm3]; exact ⟨_, S3.out.put (c := c3) (j := m) KN.out RD.out⟩)
        have f2 := (S3.out.cell m).trans (S3.out.lo m (by have := KN.out; omega))
        have f3 := S3.out.free m
        have HE2 := Lib.hid (show shE l n (k + 1) = 0 by rw [EE.out]; exact he)
        rw [← EL.out, ← hm3]
        clear rd3 b3 hm3 he S3 RD g0
        go_wp2_with fail
        go_roundw
        case rel => exact ⟨m, by go_num, by omega, Lib.hid (by rw [show n - m + 1 = k + 1 + 1 by have := KN.out; omega]; exact S4.out), Lib.hid (by rw [show n - m = k + 1 by have := KN.out; omega]; exact HE2.out)⟩
        case measure => simp [intOf]
      · have hs : shE l n n = leaveE (shL l n k) m := by
          rw [← EE.out, show n = k + 1 + m by have := KN.out; omega]
          rw [show k + 1 + m = n by have := KN.out; omega]
          have := shE_stop (l := l) (n := n) (k := k + 1) (by rw [EE.out]; exact he) m
          rw [show k + 1 + m = n by have := KN.out; omega] at this
          exact this
        go_wp2_with fail
        exact And.intro rfl <| Or.inr ⟨by rw [hs]; exact he, by rw [hs], below_on HC.out.be b3⟩
end Go.Proofs.YtefpaobboimakaaGreat

namespace Go.Proofs.YtefpaobboimakaaGreat
open Go.RowKit Go.Sort Go.Shelf

/-- A line of package api: where its coefficients lie, and its numbers. -/
structure AV where
  q : Option Addr
  c : Nat
  a : List Int
  b : Int
  s : Bool

def AV.cells (y : AV) : List Value := [.slice y.q y.a.length y.c, .int .i64 y.b, .bool y.s]

def AV.cs (y : AV) : Array Value := ⟨y.cells⟩

/-- It lies at an address. -/
def AvAt (w : World) (p : Addr) (y : AV) : Prop := ∀ j v, y.cells[j]? = some v → w.cell? (p.add j) = some v

theorem AvAt.on {w w' : World} {p : Addr} {y : AV} (h : AvAt w p y) (hb : Below w.heap.size w w') : AvAt w' p y := fun j v hv => kept hb (h j v hv)

/-- A list of lines of package api that can be read. -/
structure RdV (w : World) (ao : Option Addr) (L : List AV) : Prop where
  at_ : ∀ t, ∀ h : t < L.length, ∃ p, ao = some p ∧ AvAt w (p.add (t * 3)) L[t]
  nums : ∀ y ∈ L, Rd1 w y.q y.a

theorem RdV.on {w w' : World} {ao : Option Addr} {L : List AV} (h : RdV w ao L) (hb : Below w.heap.size w w') : RdV w' ao L :=
  ⟨fun t ht => by obtain ⟨p, e, c⟩ := h.at_ t ht; exact ⟨p, e, c.on hb⟩, fun y hy => (h.nums y hy).on hb⟩

theorem av_size : (Tryz.prog.info? 25).map (·.size) = some 3 := by kernel_rfl

theorem av_loadP {w : World} {p : Addr} {y : AV} (h : AvAt w p y) : (loadVar 25 p).run Tryz.prog w = .ok (.agg y.cs) w := by
  have hc := run_loadCells_list (P := Tryz.prog) w p y.cells h
  have ha : (isAgg 25).run Tryz.prog w = .ok true w := by
    unfold isAgg; rw [Sem.run_bind, run_underlying Tryz.underlying25 w]; simp
  unfold loadVar
  rw [Sem.run_bind, ha, Result.andThen_ok, if_pos rfl, Sem.run_bind, size_of av_size, Result.andThen_ok, Sem.run_bind, show (3 : Nat) = y.cells.length from rfl, hc]
  rfl

theorem wp_loadV {w : World} {o : Oper} {a : Act} {K : Act → World → Prop} {Q : Exit → Act → World → Prop} (s : Operand) (ho : o.op = .load 25 s) (p : Addr) (hs : a.eval s = .pointer (some p)) (y : AV) (hx : AvAt w p y)
    (h : K (a.put o.dst (.agg y.cs)) w) : o.wp Tryz.prog a w K Q := by
  have hv := av_loadP hx
  generalize y.cs = V at *
  unfold Oper.wp execOp
  simp only [ho, hs, Instr.loadAt, Instr.sureAddr, Sem.run_bind, Sem.run_pure, Result.andThen_ok, hv]
  exact h

theorem wpl_loadV {w : World} {ops : Array Oper} {rest : List Oper} {o : Oper} {a : Act} {Q : Exit → Act → World → Prop} (hgd : o.guard = none) (s : Operand) (ho : o.op = .load 25 s) (p : Addr) (hs : a.eval s = .pointer (some p)) (y : AV) (hx : AvAt w p y)
    (h : wpList Tryz.prog ops Q rest (a.put o.dst (.agg y.cs)) w) : wpList Tryz.prog ops Q (o :: rest) a w :=
  wpList_plain hgd fun _ hK => wp_loadV s ho p hs y hx (hK _ _ h)

set_option maxRecDepth 20000 in
set_option maxHeartbeats 1000000 in
theorem idxA_any (l : List AV) (ao : Option Addr) (cap : Nat) (fv : Value) (p : AV → Bool) (w : World) (hl : l.length ≤ 1000000) (hR : RdV w ao l) (hp : Tells Tryz.prog fv w (fun y : AV => .agg y.cs) p l) :
    Calls Tryz.prog 84 #[.slice ao l.length cap, fv] w (Made (.int .i64 (ixf p l)) w) := by
  obtain ⟨g, lb, rfl, eg, hp⟩ := hp
  have HP := Lib.hid hp
  have HR := Lib.hid hR
  have NN := Lib.hid (fun h => ixf_none (p := p) (l := l) h)
  obtain ⟨n, hn⟩ : ∃ n, n = l.length := ⟨_, rfl⟩
  have HN := Lib.hid hn
  have hle : n ≤ 1000000 := by omega
  rw [← hn]
  clear hp hR hl hn
  go_enter Tryz.func84, Tryz.ntmps84
  go_wp2_with fail
  go_loopw [8] (fun s wr => ∃ t : Nat, s = .int .i64 t ∧ t ≤ n ∧ Hid (Below w.heap.size w wr) ∧ Hid (∀ i, ∀ q : i < l.length, i < t → p l[i] = false)) (fun s _ => n - (intOf s).toNat)
  case atStart => exact ⟨0, rfl, by omega, Lib.hid (Below.refl _ _), Lib.hid (fun i q h => by omega)⟩
  case round =>
    obtain ⟨t, rfl, ht, HB, HF⟩ := hrel
    by_cases htn : t < n
    · have hlt : t < l.length := by have := HN.out; omega
      obtain ⟨a, ha, c0⟩ := (HR.out.on HB.out).at_ t hlt
      obtain ⟨v, hv⟩ : ∃ v, v = l[t] := ⟨_, rfl⟩
      have ev : l[t] = v := hv.symm
      rw [← hv] at c0
      have C0 := Lib.hid c0
      have PV := Lib.hid (HP.out wr HB.out v (by rw [← ev]; exact List.getElem_mem hlt))
      cases hpv : p v
      · rw [hpv] at PV
        have HF' := Lib.hid (show ∀ i, ∀ q : i < l.length, i < t + 1 → p l[i] = false from fun i q h => by
          by_cases e : i = t
          · subst e; rw [ev]; exact hpv
          · exact HF.out i q (by omega))
        clear hpv ev hv hlt c0
        subst ha
        go_wp2_with (refine wpl_loadV rfl _ rfl _ rfl v C0.out ?_)
        refine PV.out.mono ?_
        rintro e w1 ⟨rfl, hb⟩
        have B1 := Lib.hid (below_on HB.out hb)
        clear hb C0
        go_wp2_with fail
        go_roundw
        case rel => exact ⟨t + 1, by go_num, by omega, B1, HF'⟩
        case measure => simp [intOf]; omega
      · rw [hpv] at PV
        have HF' := Lib.hid (show ixf p l = t from ixf_at hlt (fun i q h => HF.out i q h) (by rw [ev]; exact hpv))
        clear hpv ev hv hlt c0
        subst ha
        go_wp2_with (refine wpl_loadV rfl _ rfl _ rfl v C0.out ?_)
        refine PV.out.mono ?_
        rintro e w1 ⟨rfl, hb⟩
        have B1 := Lib.hid (below_on HB.out hb)
        clear hb C0
        go_wp2_with fail
        go_ret
        exact ⟨ret_int HF'.out.symm, B1.out⟩
    · have HF' := Lib.hid (show ixf p l = -1 from NN.out (fun i q => HF.out i q (by have := HN.out; omega)))
      go_wp2_with fail
      go_ret
      exact ⟨ret_int HF'.out.symm, HB.out⟩

set_option maxRecDepth 20000 in
set_option maxHeartbeats 1000000 in
theorem conA_any (l : List AV) (ao : Option Addr) (cap : Nat) (fv : Value) (p : AV → Bool) (w : World) (hl : l.length ≤ 1000000) (hR : RdV w ao l) (hp : Tells Tryz.prog fv w (fun y : AV => .agg y.cs) p l) :
    Calls Tryz.prog 37 #[.slice ao l.length cap, fv] w (Made (.bool (l.any p)) w) := by
  have IX := Lib.hid (idxA_any l ao cap fv p w hl hR hp)
  have HA := Lib.hid (ixf_any p l)
  generalize l.length = n at *
  generalize ixf p l = r at *
  generalize l.any p = b at *
  clear hR hp
  go_enter Tryz.func37, Tryz.ntmps37
  go_wp2_with fail
  refine IX.out.mono ?_
  rintro e w1 ⟨rfl, hb⟩
  have B1 := Lib.hid hb
  clear hb
  go_wp2_with fail
  go_ret
  exact ⟨ret_bool HA.out, B1.out⟩

def validB (n : Int) (y : AV) : Bool := decide ((y.a.length : Int) = n) && y.a.all fitB && fitB y.b

set_option maxRecDepth 20000 in
set_option maxHeartbeats 1000000 in
theorem isValid_any (n : Int) (y : AV) (w : World) (hn : n ≤ 1000000) (hR : Rd1 w y.q y.a) : Calls Tryz.prog 39 #[.int .i64 n, .agg y.cs] w (Made (.bool (validB n y)) w) := by
  obtain ⟨q, c, a, b, s⟩ := y
  simp only [AV.cs, AV.cells, validB] at *
  obtain ⟨w0, hw0⟩ : ∃ w0, w0 = w.alloc (.cells #[.slice q a.length c, .int .i64 b, .bool s] 25) := ⟨_, rfl⟩
  have E0 := Lib.hid (show Below w.heap.size w w0 by rw [hw0]; exact one_more _)
  have hq := heap_alloc_last w (.cells #[.slice q a.length c, .int .i64 b, .bool s] 25)
  rw [← hw0] at hq
  have d0 : w0.cell? ⟨w.heap.size, 0, none⟩ = some (.slice q a.length c) := by rw [cell_of_row w0 _ 0 _ _ _ hq]; rfl
  have d1 : w0.cell? ⟨w.heap.size, 1, none⟩ = some (.int .i64 b) := by rw [cell_of_row w0 _ 1 _ _ _ hq]; rfl
  have R0 := Lib.hid (hR.on E0.out)
  obtain ⟨m, hm⟩ : ∃ m, m = a.length := ⟨_, rfl⟩
  by_cases h : (m : Int) = n
  · have F1 := Lib.hid (fit_any a q c w0 (by omega) R0.out)
    have F2 := Lib.hid (fun (W : World) => fit_any [b] (some ⟨W.heap.size, 0, none⟩) 1 (W.alloc (.cells #[.int .i64 b] 2)) (by simp) (fun t ht => ⟨_, rfl, by
      have : t = 0 := by simpa using ht
      subst this
      rw [addr_add]; simp [gA]⟩))
    have HF := Lib.hid (show (decide ((a.length : Int) = n) && a.all fitB && fitB b) = (a.all fitB && [b].all fitB) by rw [← hm, h]; simp)
    generalize (decide ((a.length : Int) = n) && a.all fitB && fitB b) = res at *
    rw [← hm] at d0 F1 ⊢
    rw [← hm] at hw0
    clear hR hq hm R0
    subst h
    have D1 := Lib.hid d1
    go_enter Tryz.func39, Tryz.ntmps39
    go_upto_region 1 with (fail)
    rw [← hw0]
    clear hw0
    go_wp2_with fail
    refine F1.out.mono ?_
    rintro e w1 ⟨rfl, hb⟩
    have B1 := Lib.hid (below_on E0.out hb)
    have d2 := kept hb D1.out
    clear hb
    cases h1 : a.all fitB
    · rw [h1] at HF
      go_wp2_with fail
      go_ret
      exact ⟨ret_bool (by rw [HF.out]; rfl), B1.out⟩
    · rw [h1] at HF
      go_wp2_with fail
      refine (F2.out w1).mono ?_
      rintro e w2 ⟨rfl, hb⟩
      have B2 := Lib.hid (below_on B1.out (past_one hb))
      clear hb
      generalize [b].all fitB = r at *
      go_wp2_with fail
      go_ret
      exact ⟨ret_bool (by rw [HF.out]; rfl), B2.out⟩
  · have HF := Lib.hid (show (decide ((a.length : Int) = n) && a.all fitB && fitB b) = false by rw [← hm]; simp [h])
    generalize (decide ((a.length : Int) = n) && a.all fitB && fitB b) = res at *
    rw [← hm] at d0 ⊢
    rw [← hm] at hw0
    clear hR hq hm R0
    go_enter Tryz.func39, Tryz.ntmps39
    go_upto_region 1 with (fail)
    rw [← hw0]
    clear hw0
    go_wp2_with fail
    go_ret
    exact ⟨ret_bool HF.out.symm, E0.out⟩

set_option maxRecDepth 20000 in
theorem chk1_any (n : Int) (y : AV) (pb : Nat) (w : World) (hn : n ≤ 1000000) (hR : Rd1 w y.q y.a) (hb : w.cell? ⟨pb, 0, none⟩ = some (.int .i64 n)) :
    Calls Tryz.prog 38 #[.agg y.cs, .pointer (some ⟨pb, 0, none⟩)] w (Made (.bool (!validB n y)) w) := by
  have VA := Lib.hid (fun W (h : Rd1 W y.q y.a) => isValid_any n y W hn h)
  have HR := Lib.hid hR
  obtain ⟨q, c, a, b, s⟩ := y
  simp only [AV.cs, AV.cells] at *
  generalize validB n ⟨q, c, a, b, s⟩ = r at *
  have hb' := kept (one_more (w1 := w) (.cells #[.slice q a.length c, .int .i64 b, .bool s] 25)) hb
  have R0 := Lib.hid (hR.on (one_more (.cells #[.slice q a.length c, .int .i64 b, .bool s] 25)))
  clear hR hb
  go_enter Tryz.func38, Tryz.ntmps38
  go_wp2_with fail
  refine (VA.out _ R0.out).mono ?_
  rintro e w1 ⟨rfl, hb⟩
  have B1 := Lib.hid (past_one hb)
  clear hb
  go_wp2_with fail
  go_ret
  exact ⟨rfl, B1.out⟩
end Go.Proofs.YtefpaobboimakaaGreat

namespace Go.Proofs.YtefpaobboimakaaGreat
open Go.RowKit Go.Sort Go.Shelf

/-- What Check says. -/
def chkP (n : Int) (L : List AV) : Int := if n < 0 ∨ 5 < n then 2 else if 1000 < L.length then 3 else if L.any (fun y => !validB n y) then 2 else 0

theorem chk1_enters : ∀ args w, (callFunc 38 args).run Tryz.prog w = .ok (.enter 38 args) w := enters_of Tryz.func38 (by kernel_rfl) rfl

set_option maxRecDepth 20000 in
set_option maxHeartbeats 1000000 in
theorem check_any (n : Int) (L : List AV) (ao : Option Addr) (cap : Nat) (w : World) (hR : RdV w ao L) :
    Calls Tryz.prog 12 #[.int .i64 n, .slice ao L.length cap] w (Made (.int .i64 (chkP n L)) w) := by
  obtain ⟨w0, hw0⟩ : ∃ w0, w0 = w.alloc (.cells #[.int .i64 n] 3) := ⟨_, rfl⟩
  have E0 := Lib.hid (show Below w.heap.size w w0 by rw [hw0]; exact one_more _)
  have X0 := Lib.hid (show Bx1 w0 w.heap.size (.int .i64 n) 3 by rw [hw0]; exact Bx1.made w _ _)
  have R0 := Lib.hid (hR.on E0.out)
  have c0 : w0.cell? ⟨w.heap.size, 0, none⟩ = some (.int .i64 n) := X0.out.cell
  by_cases h1 : n < 0
  · have HC := Lib.hid (show chkP n L = 2 by unfold chkP; rw [if_pos (Or.inl h1)])
    obtain ⟨m, hm⟩ : ∃ m, m = L.length := ⟨_, rfl⟩
    rw [← hm]
    clear hR hm
    go_enter Tryz.func12, Tryz.ntmps12
    go_upto_region 1 with (fail)
    rw [← hw0]
    clear hw0
    go_wp2_with fail
    go_ret
    exact ⟨ret_int HC.out.symm, E0.out⟩
  · by_cases h2 : 5 < n
    · have HC := Lib.hid (show chkP n L = 2 by unfold chkP; rw [if_pos (Or.inr h2)])
      obtain ⟨m, hm⟩ : ∃ m, m = L.length := ⟨_, rfl⟩
      rw [← hm]
      clear hR hm
      go_enter Tryz.func12, Tryz.ntmps12
      go_upto_region 1 with (fail)
      rw [← hw0]
      clear hw0
      go_wp2_with fail
      go_ret
      exact ⟨ret_int HC.out.symm, E0.out⟩
    · have hno : ¬ (n < 0 ∨ 5 < n) := by omega
      obtain ⟨m, hm⟩ : ∃ m, m = L.length := ⟨_, rfl⟩
      by_cases h3 : 1000 < m
      · have HC := Lib.hid (show chkP n L = 3 by unfold chkP; rw [if_neg hno, if_pos (by omega)])
        rw [← hm]
        clear hR hm hno
        go_enter Tryz.func12, Tryz.ntmps12
        go_upto_region 1 with (fail)
        rw [← hw0]
        clear hw0
        go_wp2_with fail
        go_ret
        exact ⟨ret_int HC.out.symm, E0.out⟩
      · have CO := Lib.hid (conA_any L ao cap (.func (.func 38) #[] #[.pointer (some ⟨w.heap.size, 0, none⟩)]) (fun y => !validB n y) w0 (by omega) R0.out
          ⟨_, _, rfl, chk1_enters, fun W hb y hy => chk1_any n y w.heap.size W (by omega) ((R0.out.on hb).nums y hy) (kept hb c0)⟩)
        obtain ⟨b, hb⟩ : ∃ b, b = L.any (fun y => !validB n y) := ⟨_, rfl⟩
        have HC := Lib.hid (show chkP n L = if b then 2 else 0 by unfold chkP; rw [if_neg hno, if_neg (by omega), hb])
        rw [← hm, ← hb] at CO
        rw [← hm]
        clear hR hm hno hb
        go_enter Tryz.func12, Tryz.ntmps12
        go_upto_region 1 with (fail)
        rw [← hw0]
        clear hw0
        go_wp2_with fail
        refine CO.out.mono ?_
        rintro e w1 ⟨rfl, hb⟩
        have B1 := Lib.hid (below_on E0.out hb)
        clear hb
        cases b
        · go_wp2_with fail
          go_ret
          exact ⟨ret_int (by rw [HC.out]; rfl), B1.out⟩
        · go_wp2_with fail
          go_ret
          exact ⟨ret_int (by rw [HC.out]; rfl), B1.out⟩

set_option maxRecDepth 20000 in
theorem demand_any (b : Bool) (w : World) : Calls Tryz.prog 42 #[.bool b] w (fun e w' => w' = w ∧ e = if b then .returned (.tuple #[]) else .panicked (pan 2)) := by
  cases b
  · go_enter Tryz.func42, Tryz.ntmps42
    go_wp2_with fail
    exact And.intro rfl ⟨rfl, rfl⟩
  · go_enter Tryz.func42, Tryz.ntmps42
    go_wp2_with fail
    go_end0
    exact ⟨rfl, rfl⟩

set_option maxRecDepth 20000 in
theorem isEmpty_any (b m c k c' : Nat) (ao : Option Addr) (w : World) (hm : 0 < m) (h0 : w.cell? ⟨b, 0, none⟩ = some (.slice ao k c')) :
    Calls Tryz.prog 53 #[.slice (some ⟨b, 0, none⟩) m c] w (Made (.bool (decide (0 < k))) w) := by
  by_cases h : 0 < k
  · have q : decide (0 < k) = true := by simpa using h
    rw [q]
    go_enter Tryz.func53, Tryz.ntmps53
    go_wp2_with fail
    go_ret
    exact ⟨ret_bool (by first | rfl | simp | (simp; omega)), Below.refl _ _⟩
  · have q : decide (0 < k) = false := by simpa using h
    rw [q]
    go_enter Tryz.func53, Tryz.ntmps53
    go_wp2_with fail
    go_ret
    exact ⟨ret_bool (by first | rfl | simp | (simp; omega)), Below.refl _ _⟩

/-- The line that lineOf makes. -/
def ofV (y : AV) : Ln := ⟨y.a ++ List.replicate (6 - y.a.length) 0, y.b, y.s⟩

set_option maxRecDepth 20000 in
/-- 'copy(y.a[:], x.A)'. -/
theorem copy_a {w : World} {g : Nat} {b : Int} {s : Bool} {q : Option Addr} {a : List Int} {c : Nat} (h : Bk w g ⟨z6, b, s⟩) (hl : a.length ≤ 6) (hR : Rd1 w q a) (ty : TypeId) :
    ∃ w', (Builtin.copy_ #[23, 23] ty #[.slice (some ⟨g, 0, none⟩) 6 6, .slice q a.length c]).run Tryz.prog w = .ok (goInt a.length) w' ∧ Bk w' g ⟨a ++ List.replicate (6 - a.length) 0, b, s⟩ ∧ (∀ B w0, B ≤ g → Below B w0 w → Below B w0 w') ∧ (∀ k, k ≠ g → w'.heap[k]? = w.heap[k]?) := by
  by_cases e : a.length = 0
  · have ha : a = [] := List.eq_nil_of_length_eq_zero e
    subst ha
    refine ⟨w, run_copy_none w _ _ ty 2 _ _ _ _ _ _ Tryz.underlying23 (by kernel_rfl) (by simp), ?_, fun B w0 _ k => k, fun k _ => rfl⟩
    simpa [z6] using h
  · obtain ⟨p, hq, _⟩ := hR 0 (by omega)
    subst hq
    have hr := run_copy_row (P := Tryz.prog) w 23 23 ty 2 g 0 6 6 p a.length c (Ln.cs ⟨z6, b, s⟩) 82 (a.map (Value.int .i64)) Tryz.underlying23 (by kernel_rfl) h.1
      (by rw [List.length_map]; exact (Nat.min_eq_left hl).symm) (fun j v hv => by
        rw [List.getElem?_map] at hv
        cases hj : a[j]? with
        | none => rw [hj] at hv; cases hv
        | some u =>
          rw [hj] at hv
          have hjl : j < a.length := (List.getElem?_eq_some_iff.1 hj).1
          obtain ⟨p', e', c'⟩ := hR j hjl
          cases e'
          have eu : gA a j = u := by simp [gA, hj]
          rw [c', eu]
          exact hv) (by rw [List.length_map, Ln.size rfl]; omega) (by simp [Value.oneCell'])
    rw [List.length_map] at hr
    have er : ((Ln.cs ⟨z6, b, s⟩).toList.take 0 ++ a.map (Value.int .i64) ++ (Ln.cs ⟨z6, b, s⟩).toList.drop (0 + a.length)).toArray = Ln.cs ⟨a ++ List.replicate (6 - a.length) 0, b, s⟩ := by
      match a, hl with
      | [], _ => rfl
      | [_], _ => rfl
      | [_, _], _ => rfl
      | [_, _, _], _ => rfl
      | [_, _, _, _], _ => rfl
      | [_, _, _, _, _], _ => rfl
      | [_, _, _, _, _, _], _ => rfl
      | _ :: _ :: _ :: _ :: _ :: _ :: _ :: _, h => simp at h
    rw [er] at hr
    exact ⟨_, hr, h.setRow (by first | (simp; omega) | simp), fun B w0 hB k => Below.setRow k hB _, fun k hk => setRow_other w g k _ hk⟩

set_option maxRecDepth 100000 in
set_option maxHeartbeats 4000000 in
theorem lineOf_any (y : AV) (w : World) (hl : y.a.length ≤ 6) (hR : Rd1 w y.q y.a) : Calls Tryz.prog 58 #[.agg y.cs] w (Made (.agg (ofV y).cs) w) := by
  obtain ⟨q, c, a, b, s⟩ := y
  simp only [AV.cs, AV.cells, ofV] at *
  have hz := ln_zero
  obtain ⟨w0, hw0⟩ : ∃ w0, w0 = (w.alloc (.cells #[.slice q a.length c, .int .i64 b, .bool s] 25)).alloc (.cells ln0.cs 82) := ⟨_, rfl⟩
  have E0 := Lib.hid (show Below w.heap.size w w0 by rw [hw0]; exact past_two (Below.refl _ _))
  have hq : w0.heap[w.heap.size]? = some (.cells #[.slice q a.length c, .int .i64 b, .bool s] 25 (0, 0)) := by rw [hw0]; exact ((one_more _).block _ (by simp)).trans (heap_alloc_last w _)
  have K1 := Lib.hid (show Bk w0 (w.heap.size + 1) ln0 by rw [hw0]; have := Bk.made (w.alloc (.cells #[.slice q a.length c, .int .i64 b, .bool s] 25)) ln0 rfl; simpa using this)
  have d0 : w0.cell? ⟨w.heap.size, 0, none⟩ = some (.slice q a.length c) := by rw [cell_of_row w0 _ 0 _ _ _ hq]; rfl
  have d1 : w0.cell? ⟨w.heap.size, 1, none⟩ = some (.int .i64 b) := by rw [cell_of_row w0 _ 1 _ _ _ hq]; rfl
  have d2 : w0.cell? ⟨w.heap.size, 2, none⟩ = some (.bool s) := by rw [cell_of_row w0 _ 2 _ _ _ hq]; rfl
  have HQ := Lib.hid hq
  have R0 := Lib.hid (hR.on E0.out)
  have N1 := Lib.hid (show Bk (w0.alloc (.cells ln0.cs 82)) w0.heap.size ln0 from Bk.made w0 ln0 rfl)
  have N2 := Lib.hid (N1.out.setRow (y := ⟨z6, b, s⟩) rfl)
  have B2 := Lib.hid (Below.setRow ((Below.refl w0.heap.size w0).alloc (Nat.le_refl _) (.cells ln0.cs 82)) (b := w0.heap.size) (Nat.le_refl _) (Ln.cs ⟨z6, b, s⟩))
  have z6' := Lib.hid (show (⟨z6, b, s⟩ : Ln).a.length = 6 from rfl)
  have HL := Lib.hid hl
  clear hR hq hl
  go_enter Tryz.func58, Tryz.ntmps58
  go_upto_region 1 with (fail)
  rw [← hw0]
  have z0 := Lib.hid (show w0.heap.size = w.heap.size + 2 by rw [hw0]; simp)
  clear hw0
  go_upto_region 2 with (refine wpl_store rfl _ _ rfl _ ⟨z6, b, s⟩ rfl rfl _ N1.out z6'.out ?_)
  have R2 := Lib.hid (R0.out.on B2.out)
  have HQ2 := Lib.hid ((B2.out.block w.heap.size (by have := z0.out; omega)).trans HQ.out)
  have K2 := Lib.hid (K1.out.kept B2.out)
  have B3 := Lib.hid (below_on E0.out B2.out)
  generalize (w0.alloc (.cells ln0.cs 82)).setRow w0.heap.size (Ln.cs ⟨z6, b, s⟩) = w1 at *
  obtain ⟨g, hg⟩ : ∃ g, g = w0.heap.size := ⟨_, rfl⟩
  have g0 := Lib.hid (show g = w.heap.size + 2 by rw [hg]; exact z0.out)
  rw [← hg] at N2 ⊢
  clear N1 B2 E0 K1 d0 d1 d2 HQ R0 z0 hg hz
  have hr := run_wholeA g
  have d0 : w1.drew.cell? ⟨w.heap.size, 0, none⟩ = some (.slice q a.length c) := (cell_of_row w1 _ 0 _ _ _ HQ2.out).trans rfl
  obtain ⟨w2, hcp, hk, hbl, hoth⟩ := copy_a (w := w1.drew) (g := g) (b := b) (s := s) (q := q) (a := a) (c := c) N2.out HL.out R2.out 3
  have K3 := Lib.hid hk
  have B4 := Lib.hid (hbl w.heap.size w (by have := g0.out; omega) B3.out.drew)
  have K4 := Lib.hid (show Bk w2 (w.heap.size + 1) ln0 from K2.out.of_block (hoth _ (by have := g0.out; omega)))
  have KL := Lib.hid (show (Ln.mk (a ++ List.replicate (6 - a.length) 0) b s).a.length = 6 by have := HL.out; simp; omega)
  have K5 := Lib.hid (K4.out.setRow KL.out)
  have B5 := Lib.hid (Below.setRow B4.out (b := w.heap.size + 1) (by omega) (Ln.cs ⟨a ++ List.replicate (6 - a.length) 0, b, s⟩))
  clear hk hbl hoth N2 HQ2 R2 K2 B3 g0
  go_region
  go_wp2_with (first | refine wpl_load rfl _ rfl _ rfl _ K3.out ?_ | refine wpl_store rfl _ _ rfl _ _ rfl rfl _ K4.out KL.out ?_)
  exact bodyPost_ret (results_ln Tryz.results58 _ rfl K5.out) rfl ⟨rfl, B5.out⟩
end Go.Proofs.YtefpaobboimakaaGreat

namespace Go.Proofs.YtefpaobboimakaaGreat
open Go.RowKit Go.Sort Go.Shelf

def av0 : AV := ⟨none, 0, [], 0, false⟩

/-- A block that holds one line of package api. -/
def BkV (w : World) (b : Nat) (y : AV) : Prop := w.heap[b]? = some (.cells y.cs 25 (0, 0))

theorem BkV.made (w : World) (y : AV) : BkV (w.alloc (.cells y.cs 25)) w.heap.size y := heap_alloc_last w _

theorem BkV.lt {w : World} {b : Nat} {y : AV} (h : BkV w b y) : b < w.heap.size := by
  by_cases e : b < w.heap.size
  · exact e
  · unfold BkV at h; rw [Array.getElem?_eq_none (by omega)] at h; cases h

theorem BkV.kept {w w' : World} {b : Nat} {y : AV} (h : BkV w b y) (hb : Below w.heap.size w w') : BkV w' b y := (hb.block b h.lt).trans h

theorem BkV.setRow {w : World} {b : Nat} {y z : AV} (h : BkV w b y) : BkV (w.setRow b z.cs) b z := setRow_heap w b _ _ _ _ h

theorem BkV.avAt {w : World} {b : Nat} {y : AV} (h : BkV w b y) : AvAt w ⟨b, 0, none⟩ y := fun j v hv => by
  rw [addr_add, Nat.zero_add, cell_of_row w b j _ _ _ h]
  simpa [AV.cs] using hv

theorem av_zero (w : World) : (zeroValue 25).run Tryz.prog w = .ok (.agg av0.cs) w := (zero_of_info (show (Tryz.prog.info? 25).map (fun i => (i.zero, i.size)) = some (some (.agg av0.cs), 3) by kernel_rfl)).1 w

theorem wp_storeV {w : World} {o : Oper} {a : Act} {K : Act → World → Prop} {Q : Exit → Act → World → Prop} (s t : Operand) (ho : o.op = .store 25 s t) (b : Nat) (z : AV) (hs : a.eval s = .pointer (some ⟨b, 0, none⟩)) (ht : a.eval t = .agg z.cs) (old : AV) (hv : BkV w b old)
    (h : K (a.put o.dst undef) (w.setRow b z.cs)) : o.wp Tryz.prog a w K Q := by
  have hr := run_storeVar_row (P := Tryz.prog) w b 25 25 old.cs z.cs hv av_size rfl (by simp [AV.cs, AV.cells, Value.oneCell'])
  generalize z.cs = V at *
  unfold Oper.wp execOp
  simp only [ho, hs, ht, Instr.storeAt, Instr.sureAddr, Sem.run_bind, Sem.run_pure, Result.andThen_ok, hr]
  exact h

theorem wpl_storeV {w : World} {ops : Array Oper} {rest : List Oper} {o : Oper} {a : Act} {Q : Exit → Act → World → Prop} (hgd : o.guard = none) (s t : Operand) (ho : o.op = .store 25 s t) (b : Nat) (z : AV) (hs : a.eval s = .pointer (some ⟨b, 0, none⟩)) (ht : a.eval t = .agg z.cs) (old : AV) (hv : BkV w b old)
    (h : wpList Tryz.prog ops Q rest (a.put o.dst undef) (w.setRow b z.cs)) : wpList Tryz.prog ops Q (o :: rest) a w :=
  wpList_plain hgd fun _ hK => wp_storeV s t ho b z hs ht old hv (hK _ _ h)

/-- 'make([]line, n)'. -/
theorem make_lines (w : World) (n : Nat) (hn : n ≤ 100000) : ∃ cur : Array Value, (Instr.makeSlice 66 (.int .i64 n) (.int .i64 n)).run Tryz.prog w = .ok (.slice (some ⟨w.heap.size, 0, none⟩) n n) (w.alloc (.cells cur 82))
    ∧ Rw (w.alloc (.cells cur 82)) w.heap.size (List.replicate n ln0) := by
  obtain ⟨i0, hi, hz0, hz1, hz2⟩ := info_parts ln_info3
  have hr := run_make (P := Tryz.prog) w 66 82 i0 _ Tryz.underlying66 hi hz0 .i64 .i64 (n : Int) (n : Int) (by omega) (by omega) (by rw [hz2]; omega) (by omega)
  simp only [Int.toNat_natCast] at hr
  rw [hz1] at hr
  have hb := heap_alloc_last w (.cells (madeCells ln0.cs (n * 8)) 82)
  refine ⟨_, hr, fun i hi => ?_, fun j hj => ?_⟩
  · rw [List.getElem_replicate]
    have hin : i < n := by simpa using hi
    refine ⟨rfl, fun j v hv => ?_⟩
    have hj : j < 8 := by
      by_cases q : j < 8
      · exact q
      · rw [List.getElem?_eq_none (by rw [Ln.cells_len rfl]; omega)] at hv; cases hv
    rw [addr_add]
    have e : (Value.agg ln0.cs).cells = ln0.cs := rfl
    show World.cell? (w.alloc (.cells (madeCells (Value.agg ln0.cs).cells (n * 8)) 82)) _ = _
    rw [e, cell_of_row _ _ _ _ _ _ hb]
    have hlt : i * 8 + j < n * 8 := by omega
    have hm : (i * 8 + j) % 8 = j := by omega
    have hs : ln0.cs.size = 8 := rfl
    rw [madeCells, Array.getElem?_map, Array.getElem?_range, if_pos hlt]
    simp only [Option.map_some, hs, hm]
    have hjl : j < ln0.cs.size := by rw [hs]; exact hj
    rw [getElem!_pos ln0.cs j hjl]
    have : ln0.cs[j]? = some v := by simpa [Ln.cs] using hv
    rw [Array.getElem?_eq_getElem hjl] at this
    exact this
  · have hj' : j < n * 8 := by simpa using hj
    have e : (Value.agg ln0.cs).cells = ln0.cs := rfl
    show (World.cell? (w.alloc (.cells (madeCells (Value.agg ln0.cs).cells (n * 8)) 82)) _).isSome = true ∧ World.frozen? (w.alloc (.cells (madeCells (Value.agg ln0.cs).cells (n * 8)) 82)) _ = false
    rw [e]
    refine ⟨?_, frozen_of_row _ _ _ _ _ hb⟩
    rw [cell_of_row _ _ _ _ _ _ hb, Array.getElem?_eq_getElem (by rw [size_madeCells]; exact hj')]
    rfl

/-- The row while lines fills it. -/
def rowV (L : List AV) (t : Nat) : List Ln := (L.take t).map ofV ++ List.replicate (L.length - t) ln0

theorem rowV_len {L : List AV} {t : Nat} (ht : t ≤ L.length) : (rowV L t).length = L.length := by simp [rowV]; omega

theorem rowV_set {L : List AV} {t : Nat} (ht : t < L.length) : (rowV L t).set t (ofV L[t]) = rowV L (t + 1) := by
  unfold rowV
  rw [List.take_succ_eq_append_getElem ht, List.map_append, List.set_append_right _ _ (by simp; omega)]
  obtain ⟨k, hk⟩ : ∃ k, L.length - t = k + 1 := ⟨L.length - t - 1, by omega⟩
  rw [hk, show L.length - (t + 1) = k by omega, List.replicate_succ, show t - ((L.take t).map ofV).length = 0 by simp; omega]
  simp

set_option maxRecDepth 100000 in
set_option maxHeartbeats 4000000 in
theorem lines_row (L : List AV) (ao : Option Addr) (cap : Nat) (w : World) (hl : L.length ≤ 100000) (hR : RdV w ao L) (h6 : ∀ y ∈ L, y.a.length ≤ 6) :
    Calls Tryz.prog 45 #[.slice ao L.length cap] w (fun e w' => ∃ b, e = .returned (.slice (some ⟨b, 0, none⟩) (L.map ofV).length (L.map ofV).length) ∧ Rw w' b (L.map ofV) ∧ (w.heap.size ≤ b ∧ b < w'.heap.size) ∧ Below w.heap.size w w') := by
  have hz := av_zero
  have HR := Lib.hid hR
  have H6 := Lib.hid h6
  obtain ⟨cur, hmk, hrw⟩ := make_lines w L.length hl
  obtain ⟨n, hn⟩ : ∃ n, n = L.length := ⟨_, rfl⟩
  have HN := Lib.hid hn
  have hle : n ≤ 100000 := by omega
  obtain ⟨w0, hw0⟩ : ∃ w0, w0 = w.alloc (.cells cur 82) := ⟨_, rfl⟩
  rw [← hw0] at hmk hrw
  have W0 := Lib.hid (show Rw w0 w.heap.size (rowV L 0) by simpa [rowV] using hrw)
  have E0 := Lib.hid (show Below w.heap.size w w0 by rw [hw0]; exact one_more _)
  have Z0 := Lib.hid (show w.heap.size < w0.heap.size by rw [hw0]; simp)
  obtain ⟨b, hb⟩ : ∃ b, b = w.heap.size := ⟨_, rfl⟩
  have HB0 := Lib.hid hb
  rw [← hn] at hmk
  rw [← hn]
  rw [← hb] at hmk
  clear hl hR h6 hn hrw hw0 hb
  go_enter Tryz.func45, Tryz.ntmps45
  go_wp2_with (rw [hmk])
  go_loopw [11] (fun s wr => ∃ t : Nat, s = .int .i64 t ∧ t ≤ n ∧ Hid (Rw wr b (rowV L t)) ∧ Hid (Below w.heap.size w wr) ∧ Hid (b < wr.heap.size)) (fun s _ => n - (intOf s).toNat)
  case atStart => exact ⟨0, rfl, by omega, Lib.hid (by rw [HB0.out]; exact W0.out), E0, Lib.hid (by rw [HB0.out]; exact Z0.out)⟩
  case round =>
    clear hmk
    obtain ⟨t, rfl, ht, HW, HB, HZ⟩ := hrel
    by_cases htn : t < n
    · have hlt : t < L.length := by have := HN.out; omega
      obtain ⟨p, hp, c0⟩ := (HR.out.on HB.out).at_ t hlt
      obtain ⟨y, hy⟩ : ∃ y, y = L[t] := ⟨_, rfl⟩
      have hm := List.getElem_mem hlt
      rw [← hy] at c0 hm
      have C0 := Lib.hid c0
      have RS := Lib.hid (show (rowV L t).set t (ofV y) = rowV L (t + 1) by rw [hy]; exact rowV_set hlt)
      have RL := Lib.hid (rowV_len (L := L) (t := t) (by omega))
      have Y6 := Lib.hid (H6.out y hm)
      have YN := Lib.hid ((HR.out.on HB.out).nums y hm)
      have N1 := Lib.hid (BkV.made wr av0)
      have N2 := Lib.hid (N1.out.setRow (z := y))
      have B2 := Lib.hid (Below.setRow ((Below.refl wr.heap.size wr).alloc (Nat.le_refl _) (.cells av0.cs 25)) (b := wr.heap.size) (Nat.le_refl _) y.cs)
      clear c0 hy hm hlt
      subst hp
      go_upto_region 5 with (first | refine wpl_loadV rfl _ rfl _ rfl y C0.out ?_ | refine wpl_storeV rfl _ _ rfl _ _ rfl rfl _ N1.out ?_)
      generalize (wr.alloc (.cells av0.cs 25)).setRow wr.heap.size y.cs = w1 at *
      have YN1 := Lib.hid (YN.out.on B2.out)
      have W1 := Lib.hid (HW.out.on B2.out HZ.out)
      have B1 := Lib.hid (below_on HB.out B2.out)
      have Z1 := Lib.hid (show b < w1.heap.size from Nat.lt_of_lt_of_le HZ.out B2.out.size)
      obtain ⟨q, hq⟩ : ∃ q, q = wr.heap.size := ⟨_, rfl⟩
      rw [← hq] at N2 ⊢
      clear N1 B2 HW HB HZ C0 YN hq
      go_wp2_with (refine wpl_loadV rfl _ rfl _ rfl y N2.out.avAt ?_)
      refine (lineOf_any y w1 Y6.out YN1.out).mono ?_
      rintro e w2 ⟨rfl, hb⟩
      have W2 := Lib.hid (W1.out.on hb Z1.out)
      have B3 := Lib.hid (below_on B1.out hb)
      have Z2 := Lib.hid (show b < w2.heap.size from Nat.lt_of_lt_of_le Z1.out hb.size)
      have L6 := Lib.hid (show (ofV y).a.length = 6 by have := Y6.out; simp [ofV]; omega)
      have tn : t < (rowV L t).length := by rw [RL.out]; have := HN.out; omega
      have HT := Lib.hid (show w2.there b (t * 8) (ofV y).cs.size from fun j hj => by
        rw [Ln.size L6.out] at hj
        exact W2.out.2 (t * 8 + j) (by omega))
      have W3 := Lib.hid (show Rw (w2.setCells b (t * 8) (ofV y).cells) b (rowV L (t + 1)) by rw [← RS.out]; exact W2.out.set tn L6.out)
      have B4 := Lib.hid (show Below w.heap.size w (w2.setCells b (t * 8) (ofV y).cells) from Below.setCells (by have := HB0.out; omega) (ofV y).cells (t * 8) _ B3.out)
      have Z4 := Lib.hid (show b < (w2.setCells b (t * 8) (ofV y).cells).heap.size from
        Nat.lt_of_lt_of_le Z2.out ((Below.setCells (Nat.zero_le b) (ofV y).cells (t * 8) w2 (Below.refl 0 w2)).size))
      clear hb tn
      go_wp2_with (refine wpList_store_mid rfl _ _ _ rfl b (t * 8) (ofV y).cs rfl rfl HT.out (by rw [Ln.size L6.out]; exact ln_size) (Ln.one _) ?_)
      go_roundw
      case rel => exact ⟨t + 1, by go_num, by omega, W3, B4, Z4⟩
      case measure => simp [intOf]; omega
    · have e : rowV L t = L.map ofV := by
        have h1 := HN.out
        have h2 : t = L.length := by omega
        rw [h2]; simp [rowV]
      have HE := Lib.hid (show Rw wr b (L.map ofV) by rw [← e]; exact HW.out)
      clear e
      go_wp2_with fail
      go_ret
      exact ⟨b, by simp [← HN.out], HE.out, ⟨by rw [HB0.out]; exact Nat.le_refl _, HZ.out⟩, HB.out⟩

theorem lines_any (L : List AV) (ao : Option Addr) (cap : Nat) (w : World) (hl : L.length ≤ 100000) (hR : RdV w ao L) (h6 : ∀ y ∈ L, y.a.length ≤ 6) :
    Calls Tryz.prog 45 #[.slice ao L.length cap] w (LRes w (L.map ofV)) := by
  refine (lines_row L ao cap w hl hR h6).mono ?_
  rintro e w' ⟨b, rfl, h1, _, h3⟩
  exact ⟨_, _, rfl, h1.rd, h3⟩
end Go.Proofs.YtefpaobboimakaaGreat

namespace Go.Proofs.YtefpaobboimakaaGreat
open Go.RowKit Go.Sort Go.Shelf

set_option maxRecDepth 20000 in
theorem catchB_panic (b : Nat) (er : Int) (x : Value) (w : World) (hc : Bx1 w b x 32) (hx : w.cell? ⟨b, 0, none⟩ = some x) :
    CallsD Tryz.prog 94 #[.pointer (some ⟨b, 0, none⟩)] (.panicking (pan er)) w fun e u' w' =>
      e = .returned (.tuple #[]) ∧ u' = .panicking [{ v := .iface 32 (.int .i64 er), recovered := true }] ∧ w' = w.setCell ⟨b, 0, none⟩ (.int .i64 er) := by
  have hz := hc.free
  have hta : ∀ w : World, (Instr.typeAssert (.iface 32 (.int .i64 er)) 20 32 false).run Tryz.prog w = .ok (.int .i64 er) w := fun _ => by kernel_rfl
  unfold pan
  refine callsD_of_wpS Tryz.func94 rfl fun c₀ cs hu => ?_
  apply wpS_seq
  apply wpS_region
  simp [wpOpsS, go_sem, recoverD, hu, Tryz.ntmps94, Exit.thenS]
  refine wpS_of_wp ?_
  show Code.wp _ _ _ { tmps := #[.pointer (some ⟨b, 0, none⟩), .iface 32 (.int .i64 er), .iface 32 (.int .i64 er), undef, undef, undef, undef], defers := [] } _
  go_wp2
  cases c₀
  simp_all [bodyPostS, results, Tryz.results94]

set_option maxRecDepth 20000 in
theorem catchB_idle (b : Nat) (w : World) :
    CallsD Tryz.prog 94 #[.pointer (some ⟨b, 0, none⟩)] .returning w fun e u' w' => e = .returned (.tuple #[]) ∧ u' = .returning ∧ w' = w := by
  refine callsD_of_wpS Tryz.func94 rfl fun c₀ cs hu => ?_
  apply wpS_seq
  apply wpS_region
  simp [wpOpsS, go_sem, recoverD, hu, Tryz.ntmps94, Exit.thenS]
  refine wpS_of_wp ?_
  show Code.wp _ _ _ { tmps := #[.pointer (some ⟨b, 0, none⟩), .nilIface, .nilIface, undef, undef, undef, undef], defers := [] } _
  go_wp2
  cases c₀
  simp_all [bodyPostS, results, Tryz.results94]

/-- Lists of lines of package api, one behind the other, that can be read. -/
def RdG (w : World) (go : Option Addr) (G : List (List AV)) : Prop := ∀ t, ∀ h : t < G.length, ∃ p a c, go = some p ∧ w.cell? (p.add t) = some (.slice a (G[t]).length c) ∧ RdV w a G[t]

theorem RdG.on {w w' : World} {go : Option Addr} {G : List (List AV)} (h : RdG w go G) (hb : Below w.heap.size w w') : RdG w' go G := fun t ht => by
  obtain ⟨p, a, c, e, f, r⟩ := h t ht
  exact ⟨p, a, c, e, kept hb f, r.on hb⟩

/-- The error that answer tells. -/
def ansE (n : Int) (G : List (List AV)) (er : Int) : Int := match G.find? (fun L => decide (chkP n L ≠ 0)) with
  | some L => chkP n L
  | none => er

theorem ansE_at {n : Int} {G : List (List AV)} {er : Int} {t : Nat} (ht : t < G.length) (h : ∀ i, ∀ q : i < G.length, i < t → chkP n G[i] = 0) (hp : chkP n G[t] ≠ 0) : ansE n G er = chkP n G[t] := by
  have : G.find? (fun L => decide (chkP n L ≠ 0)) = some G[t] := by
    rw [List.find?_eq_some_iff_getElem]
    exact ⟨by simpa using hp, t, ht, rfl, fun j hj => by simp [h j (by omega) hj]⟩
  unfold ansE; rw [this]

theorem ansE_none {n : Int} {G : List (List AV)} {er : Int} (h : ∀ L ∈ G, chkP n L = 0) : ansE n G er = er := by
  have : G.find? (fun L => decide (chkP n L ≠ 0)) = none := by
    rw [List.find?_eq_none]
    intro L hL; simp [h L hL]
  unfold ansE; rw [this]

/-- What answer leaves. -/
def AnsRes (w : World) (n : Int) (G : List (List AV)) (er : Int) (z : Value) (R : World → Value → World → Prop) (e : Ending) (w' : World) : Prop :=
  Below w.heap.size w w' ∧ ((ansE n G er = 0 ∧ ∃ W v, Below w.heap.size w W ∧ e = .returned (.tuple #[v, .int .i64 0]) ∧ R W v w') ∨ (ansE n G er ≠ 0 ∧ e = .returned (.tuple #[z, .int .i64 (ansE n G er)])))

set_option maxRecDepth 100000 in
set_option maxHeartbeats 4000000 in
theorem answerB_any (g : FuncId) (lb : Array Value) (n : Int) (go : Option Addr) (gc : Nat) (G : List (List AV)) (er : Int) (w : World) (hgl : G.length ≤ 1000) (hG : RdG w go G)
    (eg : ∀ args w, (callFunc g args).run Tryz.prog w = .ok (.enter g args) w) (R : World → Value → World → Prop) (hst : ∀ W v A b y, R W v A → b < W.heap.size → R W v (A.setCell ⟨b, 0, none⟩ y))
    (hw : (∀ L ∈ G, chkP n L = 0) → ∀ W, Below w.heap.size w W → Calls Tryz.prog g lb W fun e W' => (er = 0 ∧ ∃ v, e = .returned v ∧ R W v W' ∧ Below W.heap.size W W') ∨ (er ≠ 0 ∧ e = .panicked (pan er) ∧ Below W.heap.size W W')) :
    Calls Tryz.prog 51 #[.func (.func g) #[] lb, .int .i64 n, .slice go G.length gc] w (AnsRes w n G er (.bool false) R) := by
  have hmf : ∀ (fn : Fn) (first cap : Array Value) (w : World), (Instr.makeFunc fn first cap).run Tryz.prog w = .ok (.func fn first cap) w := fun _ _ _ _ => rfl
  have HG := Lib.hid hG
  have HST := Lib.hid hst
  have HW := Lib.hid hw
  obtain ⟨m, hm⟩ : ∃ m, m = G.length := ⟨_, rfl⟩
  have HM := Lib.hid hm
  have hle : m ≤ 1000 := by omega
  rw [← hm]
  obtain ⟨w0, hw0⟩ : ∃ w0, w0 = w.alloc (.cells #[.int .i64 0] 32) := ⟨_, rfl⟩
  have E0 := Lib.hid (show Below w.heap.size w w0 by rw [hw0]; exact one_more _)
  have X0 := Lib.hid (show Bx1 w0 w.heap.size (.int .i64 0) 32 by rw [hw0]; exact Bx1.made w _ _)
  obtain ⟨b, hb⟩ : ∃ b, b = w.heap.size := ⟨_, rfl⟩
  have HB := Lib.hid hb
  clear hgl hG hst hw hm
  go_enter_defers Tryz.func51, Tryz.ntmps51
  go_upto_region 2 with (fail)
  rw [← hw0]
  rw [← hb] at X0 ⊢
  clear hw0 hb
  go_wp2_with fail
  go_loopw [6, 14] (fun v6 s wr => ∃ t : Nat, v6 = .bool false ∧ s = .int .i64 t ∧ t ≤ m ∧ Hid (∀ i, ∀ q : i < G.length, i < t → chkP n G[i] = 0) ∧ Hid (Below w.heap.size w wr) ∧ Hid (Bx1 wr b (.int .i64 0) 32)) (fun _ s _ => m - (intOf s).toNat)
  case atStart => exact ⟨0, rfl, rfl, by omega, Lib.hid (fun i q h => by omega), E0, X0⟩
  case round =>
    obtain ⟨t, rfl, rfl, ht, HF, HBB, HX⟩ := hrel
    by_cases htm : t < m
    · have hlt : t < G.length := by have := HM.out; omega
      obtain ⟨p, a, c, e, f0, r0⟩ := (HG.out.on HBB.out) t hlt
      have HL := Lib.hid hlt
      obtain ⟨L, hL⟩ : ∃ L, L = G[t] := ⟨_, rfl⟩
      have f : wr.cell? (p.add t) = some (.slice a L.length c) := by rw [hL]; exact f0
      have r : RdV wr a L := by rw [hL]; exact r0
      have CK := Lib.hid (check_any n L a c wr r)
      obtain ⟨k, hk⟩ : ∃ k, k = L.length := ⟨_, rfl⟩
      obtain ⟨z, hz⟩ : ∃ z, z = chkP n L := ⟨_, rfl⟩
      have HZ := Lib.hid (show z = chkP n G[t] by rw [hz, hL])
      rw [← hk, ← hz] at CK
      rw [← hk] at f
      clear r hk hz f0 r0 hL hlt
      subst e
      go_wp2_with fail
      refine CK.out.mono ?_
      rintro e w1 ⟨rfl, hb1⟩
      have B1 := Lib.hid (below_on HBB.out hb1)
      have X1 := Lib.hid (HX.out.kept hb1)
      clear hb1 f
      by_cases hz0 : z = 0
      · have HF' := Lib.hid (show ∀ i, ∀ q : i < G.length, i < t + 1 → chkP n G[i] = 0 from fun i q h => by
          by_cases e : i = t
          · subst e; exact HZ.out.symm.trans hz0
          · exact HF.out i q (by omega))
        clear HZ
        subst hz0
        go_wp2_with fail
        go_roundw
        case rel => exact ⟨t + 1, rfl, by go_num, by omega, HF', B1, X1⟩
        case measure => simp [intOf]; omega
      · have AE := Lib.hid (show ansE n G er = z from (ansE_at HL.out HF.out (fun h => hz0 (HZ.out.trans h))).trans HZ.out.symm)
        have x1 := X1.out.cell
        have x2 := X1.out.free
        have X2 := Lib.hid (X1.out.put (.int .i64 z))
        have B2 := Lib.hid (B1.out.setCell (p := ⟨b, 0, none⟩) (by have := HB.out; show w.heap.size ≤ b; omega) (.int .i64 z))
        go_wp2_with fail
        refine leaves_cons (f := 94) (args := #[.pointer (some ⟨b, 0, none⟩)]) (by simp) (by simp [go_sem]) ?_
        refine (catchB_idle b _).mono ?_
        rintro e u' w'' ⟨rfl, rfl, rfl⟩
        have y1 := X2.out.cell
        refine ⟨.tuple #[.bool false, .int .i64 z], ?_, B2.out, Or.inr ⟨by rw [AE.out]; exact hz0, by rw [AE.out]⟩⟩
        simp [results, Tryz.results51, go_sem, y1]
    · have HA := Lib.hid (show ∀ L ∈ G, chkP n L = 0 from fun L hL => by
        obtain ⟨i, hi, rfl⟩ := List.getElem_of_mem hL
        exact HF.out i hi (by have := HM.out; omega))
      have AE := Lib.hid (show ansE n G er = er from ansE_none HA.out)
      have WK := Lib.hid (HW.out HA.out wr HBB.out)
      go_wp2_with fail
      refine WK.out.mono ?_
      rintro e w2 (⟨he, v, rfl, hv, hb2⟩ | ⟨he, rfl, hb2⟩)
      · have B1 := Lib.hid (below_on HBB.out hb2)
        have X1 := Lib.hid (HX.out.kept hb2)
        have x1 := X1.out.cell
        have x2 := X1.out.free
        have X2 := Lib.hid (X1.out.put (.int .i64 0))
        have B2 := Lib.hid (B1.out.setCell (p := ⟨b, 0, none⟩) (by have := HB.out; show w.heap.size ≤ b; omega) (.int .i64 0))
        have R2 := Lib.hid (HST.out _ _ _ b (.int .i64 0) hv HX.out.lt)
        clear hv hb2
        go_wp2_with fail
        refine leaves_cons (f := 94) (args := #[.pointer (some ⟨b, 0, none⟩)]) (by simp) (by simp [go_sem]) ?_
        refine (catchB_idle b _).mono ?_
        rintro e u' w'' ⟨rfl, rfl, rfl⟩
        have y1 := X2.out.cell
        refine ⟨.tuple #[v, .int .i64 0], ?_, B2.out, Or.inl ⟨by rw [AE.out]; exact he, wr, v, HBB.out, rfl, R2.out⟩⟩
        simp [results, Tryz.results51, go_sem, y1]
      · have B1 := Lib.hid (below_on HBB.out hb2)
        have X1 := Lib.hid (HX.out.kept hb2)
        have X2 := Lib.hid (X1.out.put (.int .i64 er))
        have B2 := Lib.hid (B1.out.setCell (p := ⟨b, 0, none⟩) (by have := HB.out; show w.heap.size ≤ b; omega) (.int .i64 er))
        clear hb2
        go_wp2_with fail
        refine leaves_cons (f := 94) (args := #[.pointer (some ⟨b, 0, none⟩)]) (by simp) (by simp [go_sem]) ?_
        refine (catchB_panic b er _ _ X1.out X1.out.cell).mono ?_
        rintro e u' w'' ⟨rfl, rfl, rfl⟩
        have y1 := X2.out.cell
        refine ⟨.tuple #[.bool false, .int .i64 er], ?_, B2.out, Or.inr ⟨by rw [AE.out]; exact he, by rw [AE.out]⟩⟩
        simp [results, Tryz.results51, go_sem, y1]
end Go.Proofs.YtefpaobboimakaaGreat

namespace Go.Proofs.YtefpaobboimakaaGreat
open Go.RowKit Go.Sort Go.Shelf

set_option maxRecDepth 20000 in
theorem catchL_panic (b : Nat) (er : Int) (x : Value) (w : World) (hc : Bx1 w b x 32) (hx : w.cell? ⟨b, 0, none⟩ = some x) :
    CallsD Tryz.prog 85 #[.pointer (some ⟨b, 0, none⟩)] (.panicking (pan er)) w fun e u' w' =>
      e = .returned (.tuple #[]) ∧ u' = .panicking [{ v := .iface 32 (.int .i64 er), recovered := true }] ∧ w' = w.setCell ⟨b, 0, none⟩ (.int .i64 er) := by
  have hz := hc.free
  have hta : ∀ w : World, (Instr.typeAssert (.iface 32 (.int .i64 er)) 20 32 false).run Tryz.prog w = .ok (.int .i64 er) w := fun _ => by kernel_rfl
  unfold pan
  refine callsD_of_wpS Tryz.func85 rfl fun c₀ cs hu => ?_
  apply wpS_seq
  apply wpS_region
  simp [wpOpsS, go_sem, recoverD, hu, Tryz.ntmps85, Exit.thenS]
  refine wpS_of_wp ?_
  show Code.wp _ _ _ { tmps := #[.pointer (some ⟨b, 0, none⟩), .iface 32 (.int .i64 er), .iface 32 (.int .i64 er), undef, undef, undef, undef], defers := [] } _
  go_wp2
  cases c₀
  simp_all [bodyPostS, results, Tryz.results85]

set_option maxRecDepth 20000 in
theorem catchL_idle (b : Nat) (w : World) :
    CallsD Tryz.prog 85 #[.pointer (some ⟨b, 0, none⟩)] .returning w fun e u' w' => e = .returned (.tuple #[]) ∧ u' = .returning ∧ w' = w := by
  refine callsD_of_wpS Tryz.func85 rfl fun c₀ cs hu => ?_
  apply wpS_seq
  apply wpS_region
  simp [wpOpsS, go_sem, recoverD, hu, Tryz.ntmps85, Exit.thenS]
  refine wpS_of_wp ?_
  show Code.wp _ _ _ { tmps := #[.pointer (some ⟨b, 0, none⟩), .nilIface, .nilIface, undef, undef, undef, undef], defers := [] } _
  go_wp2
  cases c₀
  simp_all [bodyPostS, results, Tryz.results85]

set_option maxRecDepth 100000 in
set_option maxHeartbeats 4000000 in
theorem answerL_any (g : FuncId) (lb : Array Value) (n : Int) (go : Option Addr) (gc : Nat) (G : List (List AV)) (er : Int) (w : World) (hgl : G.length ≤ 1000) (hG : RdG w go G)
    (eg : ∀ args w, (callFunc g args).run Tryz.prog w = .ok (.enter g args) w) (R : World → Value → World → Prop) (hst : ∀ W v A b y, R W v A → b < W.heap.size → R W v (A.setCell ⟨b, 0, none⟩ y))
    (hw : (∀ L ∈ G, chkP n L = 0) → ∀ W, Below w.heap.size w W → Calls Tryz.prog g lb W fun e W' => (er = 0 ∧ ∃ v, e = .returned v ∧ R W v W' ∧ Below W.heap.size W W') ∨ (er ≠ 0 ∧ e = .panicked (pan er) ∧ Below W.heap.size W W')) :
    Calls Tryz.prog 40 #[.func (.func g) #[] lb, .int .i64 n, .slice go G.length gc] w (AnsRes w n G er (.slice none 0 0) R) := by
  have hmf : ∀ (fn : Fn) (first cap : Array Value) (w : World), (Instr.makeFunc fn first cap).run Tryz.prog w = .ok (.func fn first cap) w := fun _ _ _ _ => rfl
  have HG := Lib.hid hG
  have HST := Lib.hid hst
  have HW := Lib.hid hw
  obtain ⟨m, hm⟩ : ∃ m, m = G.length := ⟨_, rfl⟩
  have HM := Lib.hid hm
  have hle : m ≤ 1000 := by omega
  rw [← hm]
  obtain ⟨w0, hw0⟩ : ∃ w0, w0 = w.alloc (.cells #[.int .i64 0] 32) := ⟨_, rfl⟩
  have E0 := Lib.hid (show Below w.heap.size w w0 by rw [hw0]; exact one_more _)
  have X0 := Lib.hid (show Bx1 w0 w.heap.size (.int .i64 0) 32 by rw [hw0]; exact Bx1.made w _ _)
  obtain ⟨b, hb⟩ : ∃ b, b = w.heap.size := ⟨_, rfl⟩
  have HB := Lib.hid hb
  clear hgl hG hst hw hm
  go_enter_defers Tryz.func40, Tryz.ntmps40
  go_upto_region 2 with (fail)
  rw [← hw0]
  rw [← hb] at X0 ⊢
  clear hw0 hb
  go_wp2_with fail
  go_loopw [6, 14] (fun v6 s wr => ∃ t : Nat, v6 = .slice none 0 0 ∧ s = .int .i64 t ∧ t ≤ m ∧ Hid (∀ i, ∀ q : i < G.length, i < t → chkP n G[i] = 0) ∧ Hid (Below w.heap.size w wr) ∧ Hid (Bx1 wr b (.int .i64 0) 32)) (fun _ s _ => m - (intOf s).toNat)
  case atStart => exact ⟨0, rfl, rfl, by omega, Lib.hid (fun i q h => by omega), E0, X0⟩
  case round =>
    obtain ⟨t, rfl, rfl, ht, HF, HBB, HX⟩ := hrel
    by_cases htm : t < m
    · have hlt : t < G.length := by have := HM.out; omega
      obtain ⟨p, a, c, e, f0, r0⟩ := (HG.out.on HBB.out) t hlt
      have HL := Lib.hid hlt
      obtain ⟨L, hL⟩ : ∃ L, L = G[t] := ⟨_, rfl⟩
      have f : wr.cell? (p.add t) = some (.slice a L.length c) := by rw [hL]; exact f0
      have r : RdV wr a L := by rw [hL]; exact r0
      have CK := Lib.hid (check_any n L a c wr r)
      obtain ⟨k, hk⟩ : ∃ k, k = L.length := ⟨_, rfl⟩
      obtain ⟨z, hz⟩ : ∃ z, z = chkP n L := ⟨_, rfl⟩
      have HZ := Lib.hid (show z = chkP n G[t] by rw [hz, hL])
      rw [← hk, ← hz] at CK
      rw [← hk] at f
      clear r hk hz f0 r0 hL hlt
      subst e
      go_wp2_with fail
      refine CK.out.mono ?_
      rintro e w1 ⟨rfl, hb1⟩
      have B1 := Lib.hid (below_on HBB.out hb1)
      have X1 := Lib.hid (HX.out.kept hb1)
      clear hb1 f
      by_cases hz0 : z = 0
      · have HF' := Lib.hid (show ∀ i, ∀ q : i < G.length, i < t + 1 → chkP n G[i] = 0 from fun i q h => by
          by_cases e : i = t
          · subst e; exact HZ.out.symm.trans hz0
          · exact HF.out i q (by omega))
        clear HZ
        subst hz0
        go_wp2_with fail
        go_roundw
        case rel => exact ⟨t + 1, rfl, by go_num, by omega, HF', B1, X1⟩
        case measure => simp [intOf]; omega
      · have AE := Lib.hid (show ansE n G er = z from (ansE_at HL.out HF.out (fun h => hz0 (HZ.out.trans h))).trans HZ.out.symm)
        have x1 := X1.out.cell
        have x2 := X1.out.free
        have X2 := Lib.hid (X1.out.put (.int .i64 z))
        have B2 := Lib.hid (B1.out.setCell (p := ⟨b, 0, none⟩) (by have := HB.out; show w.heap.size ≤ b; omega) (.int .i64 z))
        go_wp2_with fail
        refine leaves_cons (f := 85) (args := #[.pointer (some ⟨b, 0, none⟩)]) (by simp) (by simp [go_sem]) ?_
        refine (catchL_idle b _).mono ?_
        rintro e u' w'' ⟨rfl, rfl, rfl⟩
        have y1 := X2.out.cell
        refine ⟨.tuple #[.slice none 0 0, .int .i64 z], ?_, B2.out, Or.inr ⟨by rw [AE.out]; exact hz0, by rw [AE.out]⟩⟩
        simp [results, Tryz.results40, go_sem, y1]
    · have HA := Lib.hid (show ∀ L ∈ G, chkP n L = 0 from fun L hL => by
        obtain ⟨i, hi, rfl⟩ := List.getElem_of_mem hL
        exact HF.out i hi (by have := HM.out; omega))
      have AE := Lib.hid (show ansE n G er = er from ansE_none HA.out)
      have WK := Lib.hid (HW.out HA.out wr HBB.out)
      go_wp2_with fail
      refine WK.out.mono ?_
      rintro e w2 (⟨he, v, rfl, hv, hb2⟩ | ⟨he, rfl, hb2⟩)
      · have B1 := Lib.hid (below_on HBB.out hb2)
        have X1 := Lib.hid (HX.out.kept hb2)
        have x1 := X1.out.cell
        have x2 := X1.out.free
        have X2 := Lib.hid (X1.out.put (.int .i64 0))
        have B2 := Lib.hid (B1.out.setCell (p := ⟨b, 0, none⟩) (by have := HB.out; show w.heap.size ≤ b; omega) (.int .i64 0))
        have R2 := Lib.hid (HST.out _ _ _ b (.int .i64 0) hv HX.out.lt)
        clear hv hb2
        go_wp2_with fail
        refine leaves_cons (f := 85) (args := #[.pointer (some ⟨b, 0, none⟩)]) (by simp) (by simp [go_sem]) ?_
        refine (catchL_idle b _).mono ?_
        rintro e u' w'' ⟨rfl, rfl, rfl⟩
        have y1 := X2.out.cell
        refine ⟨.tuple #[v, .int .i64 0], ?_, B2.out, Or.inl ⟨by rw [AE.out]; exact he, wr, v, HBB.out, rfl, R2.out⟩⟩
        simp [results, Tryz.results40, go_sem, y1]
      · have B1 := Lib.hid (below_on HBB.out hb2)
        have X1 := Lib.hid (HX.out.kept hb2)
        have X2 := Lib.hid (X1.out.put (.int .i64 er))
        have B2 := Lib.hid (B1.out.setCell (p := ⟨b, 0, none⟩) (by have := HB.out; show w.heap.size ≤ b; omega) (.int .i64 er))
        clear hb2
        go_wp2_with fail
        refine leaves_cons (f := 85) (args := #[.pointer (some ⟨b, 0, none⟩)]) (by simp) (by simp [go_sem]) ?_
        refine (catchL_panic b er _ _ X1.out X1.out.cell).mono ?_
        rintro e u' w'' ⟨rfl, rfl, rfl⟩
        have y1 := X2.out.cell
        refine ⟨.tuple #[.slice none 0 0, .int .i64 er], ?_, B2.out, Or.inr ⟨by rw [AE.out]; exact he, by rw [AE.out]⟩⟩
        simp [results, Tryz.results40, go_sem, y1]

set_option maxRecDepth 20000 in
theorem catchQ_panic (b : Nat) (er : Int) (x : Value) (w : World) (hc : Bx1 w b x 32) (hx : w.cell? ⟨b, 0, none⟩ = some x) :
    CallsD Tryz.prog 104 #[.pointer (some ⟨b, 0, none⟩)] (.panicking (pan er)) w fun e u' w' =>
      e = .returned (.tuple #[]) ∧ u' = .panicking [{ v := .iface 32 (.int .i64 er), recovered := true }] ∧ w' = w.setCell ⟨b, 0, none⟩ (.int .i64 er) := by
  have hz := hc.free
  have hta : ∀ w : World, (Instr.typeAssert (.iface 32 (.int .i64 er)) 20 32 false).run Tryz.prog w = .ok (.int .i64 er) w := fun _ => by kernel_rfl
  unfold pan
  refine callsD_of_wpS Tryz.func104 rfl fun c₀ cs hu => ?_
  apply wpS_seq
  apply wpS_region
  simp [wpOpsS, go_sem, recoverD, hu, Tryz.ntmps104, Exit.thenS]
  refine wpS_of_wp ?_
  show Code.wp _ _ _ { tmps := #[.pointer (some ⟨b, 0, none⟩), .iface 32 (.int .i64 er), .iface 32 (.int .i64 er), undef, undef, undef, undef], defers := [] } _
  go_wp2
  cases c₀
  simp_all [bodyPostS, results, Tryz.results104]

set_option maxRecDepth 20000 in
theorem catchQ_idle (b : Nat) (w : World) :
    CallsD Tryz.prog 104 #[.pointer (some ⟨b, 0, none⟩)] .returning w fun e u' w' => e = .returned (.tuple #[]) ∧ u' = .returning ∧ w' = w := by
  refine callsD_of_wpS Tryz.func104 rfl fun c₀ cs hu => ?_
  apply wpS_seq
  apply wpS_region
  simp [wpOpsS, go_sem, recoverD, hu, Tryz.ntmps104, Exit.thenS]
  refine wpS_of_wp ?_
  show Code.wp _ _ _ { tmps := #[.pointer (some ⟨b, 0, none⟩), .nilIface, .nilIface, undef, undef, undef, undef], defers := [] } _
  go_wp2
  cases c₀
  simp_all [bodyPostS, results, Tryz.results104]

set_option maxRecDepth 100000 in
set_option maxHeartbeats 4000000 in
theorem answerQ_any (g : FuncId) (lb : Array Value) (n : Int) (go : Option Addr) (gc : Nat) (G : List (List AV)) (er : Int) (w : World) (hgl : G.length ≤ 1000) (hG : RdG w go G)
    (eg : ∀ args w, (callFunc g args).run Tryz.prog w = .ok (.enter g args) w) (R : World → Value → World → Prop) (hst : ∀ W v A b y, R W v A → b < W.heap.size → R W v (A.setCell ⟨b, 0, none⟩ y))
    (hw : (∀ L ∈ G, chkP n L = 0) → ∀ W, Below w.heap.size w W → Calls Tryz.prog g lb W fun e W' => (er = 0 ∧ ∃ v, e = .returned v ∧ R W v W' ∧ Below W.heap.size W W') ∨ (er ≠ 0 ∧ e = .panicked (pan er) ∧ Below W.heap.size W W')) :
    Calls Tryz.prog 69 #[.func (.func g) #[] lb, .int .i64 n, .slice go G.length gc] w (AnsRes w n G er (.slice none 0 0) R) := by
  have hmf : ∀ (fn : Fn) (first cap : Array Value) (w : World), (Instr.makeFunc fn first cap).run Tryz.prog w = .ok (.func fn first cap) w := fun _ _ _ _ => rfl
  have HG := Lib.hid hG
  have HST := Lib.hid hst
  have HW := Lib.hid hw
  obtain ⟨m, hm⟩ : ∃ m, m = G.length := ⟨_, rfl⟩
  have HM := Lib.hid hm
  have hle : m ≤ 1000 := by omega
  rw [← hm]
  obtain ⟨w0, hw0⟩ : ∃ w0, w0 = w.alloc (.cells #[.int .i64 0] 32) := ⟨_, rfl⟩
  have E0 := Lib.hid (show Below w.heap.size w w0 by rw [hw0]; exact one_more _)
  have X0 := Lib.hid (show Bx1 w0 w.heap.size (.int .i64 0) 32 by rw [hw0]; exact Bx1.made w _ _)
  obtain ⟨b, hb⟩ : ∃ b, b = w.heap.size := ⟨_, rfl⟩
  have HB := Lib.hid hb
  clear hgl hG hst hw hm
  go_enter_defers Tryz.func69, Tryz.ntmps69
  go_upto_region 2 with (fail)
  rw [← hw0]
  rw [← hb] at X0 ⊢
  clear hw0 hb
  go_wp2_with fail
  go_loopw [6, 14] (fun v6 s wr => ∃ t : Nat, v6 = .slice none 0 0 ∧ s = .int .i64 t ∧ t ≤ m ∧ Hid (∀ i, ∀ q : i < G.length, i < t → chkP n G[i] = 0) ∧ Hid (Below w.heap.size w wr) ∧ Hid (Bx1 wr b (.int .i64 0) 32)) (fun _ s _ => m - (intOf s).toNat)
  case atStart => exact ⟨0, rfl, rfl, by omega, Lib.hid (fun i q h => by omega), E0, X0⟩
  case round =>
    obtain ⟨t, rfl, rfl, ht, HF, HBB, HX⟩ := hrel
    by_cases htm : t < m
    · have hlt : t < G.length := by have := HM.out; omega
      obtain ⟨p, a, c, e, f0, r0⟩ := (HG.out.on HBB.out) t hlt
      have HL := Lib.hid hlt
      obtain ⟨L, hL⟩ : ∃ L, L = G[t] := ⟨_, rfl⟩
      have f : wr.cell? (p.add t) = some (.slice a L.length c) := by rw [hL]; exact f0
      have r : RdV wr a L := by rw [hL]; exact r0
      have CK := Lib.hid (check_any n L a c wr r)
      obtain ⟨k, hk⟩ : ∃ k, k = L.length := ⟨_, rfl⟩
      obtain ⟨z, hz⟩ : ∃ z, z = chkP n L := ⟨_, rfl⟩
      have HZ := Lib.hid (show z = chkP n G[t] by rw [hz, hL])
      rw [← hk, ← hz] at CK
      rw [← hk] at f
      clear r hk hz f0 r0 hL hlt
      subst e
      go_wp2_with fail
      refine CK.out.mono ?_
      rintro e w1 ⟨rfl, hb1⟩
      have B1 := Lib.hid (below_on HBB.out hb1)
      have X1 := Lib.hid (HX.out.kept hb1)
      clear hb1 f
      by_cases hz0 : z = 0
      · have HF' := Lib.hid (show ∀ i, ∀ q : i < G.length, i < t + 1 → chkP n G[i] = 0 from fun i q h => by
          by_cases e : i = t
          · subst e; exact HZ.out.symm.trans hz0
          · exact HF.out i q (by omega))
        clear HZ
        subst hz0
        go_wp2_with fail
        go_roundw
        case rel => exact ⟨t + 1, rfl, by go_num, by omega, HF', B1, X1⟩
        case measure => simp [intOf]; omega
      · have AE := Lib.hid (show ansE n G er = z from (ansE_at HL.out HF.out (fun h => hz0 (HZ.out.trans h))).trans HZ.out.symm)
        have x1 := X1.out.cell
        have x2 := X1.out.free
        have X2 := Lib.hid (X1.out.put (.int .i64 z))
        have B2 := Lib.hid (B1.out.setCell (p := ⟨b, 0, none⟩) (by have := HB.out; show w.heap.size ≤ b; omega) (.int .i64 z))
        go_wp2_with fail
        refine leaves_cons (f := 104) (args := #[.pointer (some ⟨b, 0, none⟩)]) (by simp) (by simp [go_sem]) ?_
        refine (catchQ_idle b _).mono ?_
        rintro e u' w'' ⟨rfl, rfl, rfl⟩
        have y1 := X2.out.cell
        refine ⟨.tuple #[.slice none 0 0, .int .i64 z], ?_, B2.out, Or.inr ⟨by rw [AE.out]; exact hz0, by rw [AE.out]⟩⟩
        simp [results, Tryz.results69, go_sem, y1]
    · have HA := Lib.hid (show ∀ L ∈ G, chkP n L = 0 from fun L hL => by
        obtain ⟨i, hi, rfl⟩ := List.getElem_of_mem hL
        exact HF.out i hi (by have := HM.out; omega))
      have AE := Lib.hid (show ansE n G er = er from ansE_none HA.out)
      have WK := Lib.hid (HW.out HA.out wr HBB.out)
      go_wp2_with fail
      refine WK.out.mono ?_
      rintro e w2 (⟨he, v, rfl, hv, hb2⟩ | ⟨he, rfl, hb2⟩)
      · have B1 := Lib.hid (below_on HBB.out hb2)
        have X1 := Lib.hid (HX.out.kept hb2)
        have x1 := X1.out.cell
        have x2 := X1.out.free
        have X2 := Lib.hid (X1.out.put (.int .i64 0))
        have B2 := Lib.hid (B1.out.setCell (p := ⟨b, 0, none⟩) (by have := HB.out; show w.heap.size ≤ b; omega) (.int .i64 0))
        have R2 := Lib.hid (HST.out _ _ _ b (.int .i64 0) hv HX.out.lt)
        clear hv hb2
        go_wp2_with fail
        refine leaves_cons (f := 104) (args := #[.pointer (some ⟨b, 0, none⟩)]) (by simp) (by simp [go_sem]) ?_
        refine (catchQ_idle b _).mono ?_
        rintro e u' w'' ⟨rfl, rfl, rfl⟩
        have y1 := X2.out.cell
        refine ⟨.tuple #[v, .int .i64 0], ?_, B2.out, Or.inl ⟨by rw [AE.out]; exact he, wr, v, HBB.out, rfl, R2.out⟩⟩
        simp [results, Tryz.results69, go_sem, y1]
      · have B1 := Lib.hid (below_on HBB.out hb2)
        have X1 := Lib.hid (HX.out.kept hb2)
        have X2 := Lib.hid (X1.out.put (.int .i64 er))
        have B2 := Lib.hid (B1.out.setCell (p := ⟨b, 0, none⟩) (by have := HB.out; show w.heap.size ≤ b; omega) (.int .i64 er))
        clear hb2
        go_wp2_with fail
        refine leaves_cons (f := 104) (args := #[.pointer (some ⟨b, 0, none⟩)]) (by simp) (by simp [go_sem]) ?_
        refine (catchQ_panic b er _ _ X1.out X1.out.cell).mono ?_
        rintro e u' w'' ⟨rfl, rfl, rfl⟩
        have y1 := X2.out.cell
        refine ⟨.tuple #[.slice none 0 0, .int .i64 er], ?_, B2.out, Or.inr ⟨by rw [AE.out]; exact he, by rw [AE.out]⟩⟩
        simp [results, Tryz.results69, go_sem, y1]

set_option maxRecDepth 20000 in
theorem catchP_panic (b : Nat) (er : Int) (x : Value) (w : World) (hc : Bx1 w b x 32) (hx : w.cell? ⟨b, 0, none⟩ = some x) :
    CallsD Tryz.prog 113 #[.pointer (some ⟨b, 0, none⟩)] (.panicking (pan er)) w fun e u' w' =>
      e = .returned (.tuple #[]) ∧ u' = .panicking [{ v := .iface 32 (.int .i64 er), recovered := true }] ∧ w' = w.setCell ⟨b, 0, none⟩ (.int .i64 er) := by
  have hz := hc.free
  have hta : ∀ w : World, (Instr.typeAssert (.iface 32 (.int .i64 er)) 20 32 false).run Tryz.prog w = .ok (.int .i64 er) w := fun _ => by kernel_rfl
  unfold pan
  refine callsD_of_wpS Tryz.func113 rfl fun c₀ cs hu => ?_
  apply wpS_seq
  apply wpS_region
  simp [wpOpsS, go_sem, recoverD, hu, Tryz.ntmps113, Exit.thenS]
  refine wpS_of_wp ?_
  show Code.wp _ _ _ { tmps := #[.pointer (some ⟨b, 0, none⟩), .iface 32 (.int .i64 er), .iface 32 (.int .i64 er), undef, undef, undef, undef], defers := [] } _
  go_wp2
  cases c₀
  simp_all [bodyPostS, results, Tryz.results113]

set_option maxRecDepth 20000 in
theorem catchP_idle (b : Nat) (w : World) :
    CallsD Tryz.prog 113 #[.pointer (some ⟨b, 0, none⟩)] .returning w fun e u' w' => e = .returned (.tuple #[]) ∧ u' = .returning ∧ w' = w := by
  refine callsD_of_wpS Tryz.func113 rfl fun c₀ cs hu => ?_
  apply wpS_seq
  apply wpS_region
  simp [wpOpsS, go_sem, recoverD, hu, Tryz.ntmps113, Exit.thenS]
  refine wpS_of_wp ?_
  show Code.wp _ _ _ { tmps := #[.pointer (some ⟨b, 0, none⟩), .nilIface, .nilIface, undef, undef, undef, undef], defers := [] } _
  go_wp2
  cases c₀
  simp_all [bodyPostS, results, Tryz.results113]

set_option maxRecDepth 100000 in
set_option maxHeartbeats 4000000 in
theorem answerP_any (g : FuncId) (lb : Array Value) (n : Int) (go : Option Addr) (gc : Nat) (G : List (List AV)) (er : Int) (w : World) (hgl : G.length ≤ 1000) (hG : RdG w go G)
    (eg : ∀ args w, (callFunc g args).run Tryz.prog w = .ok (.enter g args) w) (R : World → Value → World → Prop) (hst : ∀ W v A b y, R W v A → b < W.heap.size → R W v (A.setCell ⟨b, 0, none⟩ y))
    (hw : (∀ L ∈ G, chkP n L = 0) → ∀ W, Below w.heap.size w W → Calls Tryz.prog g lb W fun e W' => (er = 0 ∧ ∃ v, e = .returned v ∧ R W v W' ∧ Below W.heap.size W W') ∨ (er ≠ 0 ∧ e = .panicked (pan er) ∧ Below W.heap.size W W')) :
    Calls Tryz.prog 76 #[.func (.func g) #[] lb, .int .i64 n, .slice go G.length gc] w (AnsRes w n G er (.slice none 0 0) R) := by
  have hmf : ∀ (fn : Fn) (first cap : Array Value) (w : World), (Instr.makeFunc fn first cap).run Tryz.prog w = .ok (.func fn first cap) w := fun _ _ _ _ => rfl
  have HG := Lib.hid hG
  have HST := Lib.hid hst
  have HW := Lib.hid hw
  obtain ⟨m, hm⟩ : ∃ m, m = G.length := ⟨_, rfl⟩
  have HM := Lib.hid hm
  have hle : m ≤ 1000 := by omega
  rw [← hm]
  obtain ⟨w0, hw0⟩ : ∃ w0, w0 = w.alloc (.cells #[.int .i64 0] 32) := ⟨_, rfl⟩
  have E0 := Lib.hid (show Below w.heap.size w w0 by rw [hw0]; exact one_more _)
  have X0 := Lib.hid (show Bx1 w0 w.heap.size (.int .i64 0) 32 by rw [hw0]; exact Bx1.made w _ _)
  obtain ⟨b, hb⟩ : ∃ b, b = w.heap.size := ⟨_, rfl⟩
  have HB := Lib.hid hb
  clear hgl hG hst hw hm
  go_enter_defers Tryz.func76, Tryz.ntmps76
  go_upto_region 2 with (fail)
  rw [← hw0]
  rw [← hb] at X0 ⊢
  clear hw0 hb
  go_wp2_with fail
  go_loopw [6, 14] (fun v6 s wr => ∃ t : Nat, v6 = .slice none 0 0 ∧ s = .int .i64 t ∧ t ≤ m ∧ Hid (∀ i, ∀ q : i < G.length, i < t → chkP n G[i] = 0) ∧ Hid (Below w.heap.size w wr) ∧ Hid (Bx1 wr b (.int .i64 0) 32)) (fun _ s _ => m - (intOf s).toNat)
  case atStart => exact ⟨0, rfl, rfl, by omega, Lib.hid (fun i q h => by omega), E0, X0⟩
  case round =>
    obtain ⟨t, rfl, rfl, ht, HF, HBB, HX⟩ := hrel
    by_cases htm : t < m
    · have hlt : t < G.length := by have := HM.out; omega
      obtain ⟨p, a, c, e, f0, r0⟩ := (HG.out.on HBB.out) t hlt
      have HL := Lib.hid hlt
      obtain ⟨L, hL⟩ : ∃ L, L = G[t] := ⟨_, rfl⟩
      have f : wr.cell? (p.add t) = some (.slice a L.length c) := by rw [hL]; exact f0
      have r : RdV wr a L := by rw [hL]; exact r0
      have CK := Lib.hid (check_any n L a c wr r)
      obtain ⟨k, hk⟩ : ∃ k, k = L.length := ⟨_, rfl⟩
      obtain ⟨z, hz⟩ : ∃ z, z = chkP n L := ⟨_, rfl⟩
      have HZ := Lib.hid (show z = chkP n G[t] by rw [hz, hL])
      rw [← hk, ← hz] at CK
      rw [← hk] at f
      clear r hk hz f0 r0 hL hlt
      subst e
      go_wp2_with fail
      refine CK.out.mono ?_
      rintro e w1 ⟨rfl, hb1⟩
      have B1 := Lib.hid (below_on HBB.out hb1)
      have X1 := Lib.hid (HX.out.kept hb1)
      clear hb1 f
      by_cases hz0 : z = 0
      · have HF' := Lib.hid (show ∀ i, ∀ q : i < G.length, i < t + 1 → chkP n G[i] = 0 from fun i q h => by
          by_cases e : i = t
          · subst e; exact HZ.out.symm.trans hz0
          · exact HF.out i q (by omega))
        clear HZ
        subst hz0
        go_wp2_with fail
        go_roundw
        case rel => exact ⟨t + 1, rfl, by go_num, by omega, HF', B1, X1⟩
        case measure => simp [intOf]; omega
      · have AE := Lib.hid (show ansE n G er = z from (ansE_at HL.out HF.out (fun h => hz0 (HZ.out.trans h))).trans HZ.out.symm)
        have x1 := X1.out.cell
        have x2 := X1.out.free
        have X2 := Lib.hid (X1.out.put (.int .i64 z))
        have B2 := Lib.hid (B1.out.setCell (p := ⟨b, 0, none⟩) (by have := HB.out; show w.heap.size ≤ b; omega) (.int .i64 z))
        go_wp2_with fail
        refine leaves_cons (f := 113) (args := #[.pointer (some ⟨b, 0, none⟩)]) (by simp) (by simp [go_sem]) ?_
        refine (catchP_idle b _).mono ?_
        rintro e u' w'' ⟨rfl, rfl, rfl⟩
        have y1 := X2.out.cell
        refine ⟨.tuple #[.slice none 0 0, .int .i64 z], ?_, B2.out, Or.inr ⟨by rw [AE.out]; exact hz0, by rw [AE.out]⟩⟩
        simp [results, Tryz.results76, go_sem, y1]
    · have HA := Lib.hid (show ∀ L ∈ G, chkP n L = 0 from fun L hL => by
        obtain ⟨i, hi, rfl⟩ := List.getElem_of_mem hL
        exact HF.out i hi (by have := HM.out; omega))
      have AE := Lib.hid (show ansE n G er = er from ansE_none HA.out)
      have WK := Lib.hid (HW.out HA.out wr HBB.out)
      go_wp2_with fail
      refine WK.out.mono ?_
      rintro e w2 (⟨he, v, rfl, hv, hb2⟩ | ⟨he, rfl, hb2⟩)
      · have B1 := Lib.hid (below_on HBB.out hb2)
        have X1 := Lib.hid (HX.out.kept hb2)
        have x1 := X1.out.cell
        have x2 := X1.out.free
        have X2 := Lib.hid (X1.out.put (.int .i64 0))
        have B2 := Lib.hid (B1.out.setCell (p := ⟨b, 0, none⟩) (by have := HB.out; show w.heap.size ≤ b; omega) (.int .i64 0))
        have R2 := Lib.hid (HST.out _ _ _ b (.int .i64 0) hv HX.out.lt)
        clear hv hb2
        go_wp2_with fail
        refine leaves_cons (f := 113) (args := #[.pointer (some ⟨b, 0, none⟩)]) (by simp) (by simp [go_sem]) ?_
        refine (catchP_idle b _).mono ?_
        rintro e u' w'' ⟨rfl, rfl, rfl⟩
        have y1 := X2.out.cell
        refine ⟨.tuple #[v, .int .i64 0], ?_, B2.out, Or.inl ⟨by rw [AE.out]; exact he, wr, v, HBB.out, rfl, R2.out⟩⟩
        simp [results, Tryz.results76, go_sem, y1]
      · have B1 := Lib.hid (below_on HBB.out hb2)
        have X1 := Lib.hid (HX.out.kept hb2)
        have X2 := Lib.hid (X1.out.put (.int .i64 er))
        have B2 := Lib.hid (B1.out.setCell (p := ⟨b, 0, none⟩) (by have := HB.out; show w.heap.size ≤ b; omega) (.int .i64 er))
        clear hb2
        go_wp2_with fail
        refine leaves_cons (f := 113) (args := #[.pointer (some ⟨b, 0, none⟩)]) (by simp) (by simp [go_sem]) ?_
        refine (catchP_panic b er _ _ X1.out X1.out.cell).mono ?_
        rintro e u' w'' ⟨rfl, rfl, rfl⟩
        have y1 := X2.out.cell
        refine ⟨.tuple #[.slice none 0 0, .int .i64 er], ?_, B2.out, Or.inr ⟨by rw [AE.out]; exact he, by rw [AE.out]⟩⟩
        simp [results, Tryz.results76, go_sem, y1]
end Go.Proofs.YtefpaobboimakaaGreat

namespace Go.Proofs.YtefpaobboimakaaGreat
open Go.RowKit Go.Sort Go.Shelf

theorem ofV_rg {n : Int} {y : AV} (hn : n ≤ 6) (h : validB n y = true) : Rg 2147483647 (ofV y) := by
  unfold validB at h
  simp only [Bool.and_eq_true, List.all_eq_true, decide_eq_true_eq] at h
  obtain ⟨⟨h1, h2⟩, h3⟩ := h
  refine ⟨by simp [ofV]; omega, fun v hv => ?_, ?_⟩
  · rcases List.mem_append.1 hv with q | q
    · have := h2 v q; unfold fitB at this; simpa using this
    · have := List.eq_of_mem_replicate q; omega
  · unfold fitB at h3; simpa [ofV] using h3

theorem chk_valid {n : Int} {L : List AV} (h : chkP n L = 0) : (0 ≤ n ∧ n ≤ 5) ∧ L.length ≤ 1000 ∧ ∀ y ∈ L, validB n y = true := by
  unfold chkP at h
  split at h
  · cases h
  · rename_i h1
    split at h
    · cases h
    · rename_i h2
      split at h
      · cases h
      · rename_i h3
        refine ⟨by omega, by omega, fun y hy => ?_⟩
        have : ¬ (!validB n y) = true := fun q => h3 (List.any_eq_true.2 ⟨y, hy, q⟩)
        simpa using this

theorem valid_len {n : Int} {y : AV} (h : validB n y = true) : (y.a.length : Int) = n := by
  unfold validB at h
  simp only [Bool.and_eq_true, decide_eq_true_eq] at h
  exact h.1.1

/-- Does a line stay when all coordinates are left out? -/
def empB (l : List Ln) (n : Nat) : Bool := decide (0 < (shL l n n).length)

set_option maxRecDepth 100000 in
set_option maxHeartbeats 4000000 in
theorem empty1_any (n : Nat) (L : List AV) (ao : Option Addr) (cap pn pl : Nat) (w : World) (hc : chkP n L = 0) (hR : RdV w ao L) (c0 : w.cell? ⟨pn, 0, none⟩ = some (.int .i64 n)) (c1 : w.cell? ⟨pl, 0, none⟩ = some (.slice ao L.length cap)) :
    Calls Tryz.prog 52 #[.pointer (some ⟨pn, 0, none⟩), .pointer (some ⟨pl, 0, none⟩)] w fun e W' =>
      (shE (L.map ofV) n n = 0 ∧ ∃ v, e = .returned v ∧ v = .bool (empB (L.map ofV) n) ∧ Below w.heap.size w W') ∨ (shE (L.map ofV) n n ≠ 0 ∧ e = .panicked (pan (shE (L.map ofV) n n)) ∧ Below w.heap.size w W') := by
  obtain ⟨⟨_, hn⟩, hl, hv⟩ := chk_valid hc
  have hn6 : n ≤ 6 := by omega
  obtain ⟨k, hk⟩ : ∃ k, k = (L.map ofV).length := ⟨_, rfl⟩
  have hk2 : k = L.length := by rw [hk]; simp
  have LI := Lib.hid (fun W (h : Below w.heap.size w W) => lines_any L ao cap W (by omega) (hR.on h) (fun y hy => by have := valid_len (hv y hy); omega))
  have SH := Lib.hid (fun W a c (h : RdL W a (L.map ofV)) => shadows_any (L.map ofV) a c n W (by simp; omega) hn6 h (fun x hx => by
    obtain ⟨y, hy, rfl⟩ := List.mem_map.1 hx
    exact ofV_rg (by omega) (hv y hy)))
  rw [← hk] at SH
  rw [← hk2] at LI c1
  have KL := Lib.hid hk
  have C0 := Lib.hid c0
  have C1 := Lib.hid c1
  generalize L.map ofV = l at *
  clear hc hR c0 c1 hl hv hk hk2 hn
  go_enter Tryz.func52, Tryz.ntmps52
  go_upto_region 1 with (fail)
  have KS := Lib.hid (show ∀ W, Below w.heap.size w W → (W.cell? ⟨pn, 0, none⟩ = some (.int .i64 n) ∧ W.cell? ⟨pl, 0, none⟩ = some (.slice ao k cap)) from fun W h => ⟨kept h C0.out, kept h C1.out⟩)
  obtain ⟨wc, hwc⟩ : ∃ wc, wc = w.drew := ⟨_, rfl⟩
  have Bc := Lib.hid (show Below w.heap.size w wc by rw [hwc]; exact (Below.refl _ _).drew)
  refine wp_region_held_drew (S := (fun W => (W.cell? ⟨pn, 0, none⟩ = some (.int .i64 n) ∧ W.cell? ⟨pl, 0, none⟩ = some (.slice ao k cap)))) (by kernel_rfl) (by rw [← hwc]; exact KS.out _ Bc.out) (fun h0 => ?_)
  rw [← hwc] at h0 ⊢
  clear hwc
  refine wpAnyH_take (i := 0) (v := ?v1) rfl (by kernel_rfl) (by kernel_rfl) (by kernel_rfl) (fun _ _ _ h => h) (Or.inl ⟨by rfl, ?hy1⟩) h0 ?rest1
  case hy1 => (intro w' hS; (try dsimp only at hS); go_simp; try (with_reducible rfl))
  simp only [Act.put, List.getElem_toArray, List.getElem_cons_zero, List.setIfInBounds_toArray, List.set_cons_zero, List.set_cons_succ]
  refine wpAnyH_take (i := 1) (v := ?v2) rfl (by kernel_rfl) (by kernel_rfl) (by kernel_rfl) (fun _ _ _ h => h) (Or.inl ⟨by rfl, ?hy2⟩) h0 ?rest2
  case hy2 => (intro w' hS; (try dsimp only at hS); go_simp; try (with_reducible rfl))
  simp only [Act.put, List.getElem_toArray, List.getElem_cons_zero, List.getElem_cons_succ, List.setIfInBounds_toArray, List.set_cons_zero, List.set_cons_succ]
  refine wpAnyH_ready (rs := [2]) (by kernel_rfl) (by simp) (AllReadyH.cons rfl (fun K hK => ?_) AllReadyH.nil)
  rw [if_pos (by rfl)]
  go_simp
  refine (LI.out wc Bc.out).mono ?_
  rintro e wc ⟨a1, d1, rfl, hr, hb⟩
  have R1 := Lib.hid hr
  clear hr
  rw [← KL.out]
  have Bc := Lib.hid (below_on Bc.out hb)
  clear hb
  go_simp
  refine hK.out _ _ (KS.out _ Bc.out) (fun h0_1 => ?_)
  clear hK K h0
  refine wpAnyH_ready (rs := [3]) (by kernel_rfl) (by simp) (AllReadyH.cons rfl (fun K hK => ?_) AllReadyH.nil)
  rw [if_pos (by rfl)]
  go_simp
  refine (SH.out wc a1 d1 R1.out).mono ?_
  rintro e wc (⟨he, b2, cs2, rfl, hs⟩ | ⟨he, rfl, hb⟩)
  rotate_left
  · exact And.intro rfl (Or.inr ⟨he, rfl, below_on Bc.out hb⟩)
  have HE := Lib.hid he
  have hb := hs.be
  obtain ⟨a3, d3, e3, r3⟩ := hs.hi 0 (by omega) (by omega)
  have g3 := Lib.hid ((hs.cell 0).trans e3)
  clear hs e3 r3 he
  have Bc := Lib.hid (below_on Bc.out hb)
  clear hb
  go_simp
  refine hK.out _ _ (KS.out _ Bc.out) (fun h0_2 => ?_)
  clear hK K h0_1
  refine wpAnyH_ready (rs := [4]) (by kernel_rfl) (by simp) (AllReadyH.cons rfl (fun K hK => ?_) AllReadyH.nil)
  rw [if_pos (by rfl)]
  go_simp
  refine (isEmpty_any b2 (n + 1) (n + 1) (shL l n (n - 0)).length d3 a3 wc (by omega) g3.out).mono ?_
  rintro e wc ⟨rfl, hb⟩
  have Bc := Lib.hid (below_on Bc.out hb)
  clear hb
  go_simp
  refine hK.out _ _ (KS.out _ Bc.out) (fun h0_3 => ?_)
  clear hK K h0_2
  refine wpAnyH_take (i := 5) (v := ?v3) rfl (by kernel_rfl) (by kernel_rfl) (by kernel_rfl) (fun _ _ _ h => h) (Or.inl ⟨by rfl, ?hy3⟩) h0_3 ?rest3
  case hy3 => (intro w' hS; (try dsimp only at hS); go_simp; try (with_reducible rfl))
  simp only [Act.put, List.getElem_toArray, List.getElem_cons_zero, List.getElem_cons_succ, List.setIfInBounds_toArray]
  try simp only [List.set_cons_succ]
  try simp only [List.set_cons_zero]
  refine wpAnyH_done (by kernel_rfl) ?_ _
  go_wp2_with fail
  go_ret
  exact Or.inl ⟨HE.out, _, rfl, rfl, Bc.out⟩
end Go.Proofs.YtefpaobboimakaaGreat

namespace Go.Proofs.YtefpaobboimakaaGreat
open Go.RowKit Go.Sort Go.Shelf

theorem empty1_enters : ∀ args w, (callFunc 52 args).run Tryz.prog w = .ok (.enter 52 args) w := enters_of Tryz.func52 (by kernel_rfl) rfl

theorem ansE_one (n : Int) (L : List AV) (er : Int) : ansE n [L] er = if chkP n L = 0 then er else chkP n L := by
  unfold ansE
  by_cases h : chkP n L = 0
  · simp [h]
  · simp [h]

/-- The error of Empty. -/
def empE (n : Int) (L : List AV) : Int := if chkP n L = 0 then shE (L.map ofV) n.toNat n.toNat else chkP n L

set_option maxRecDepth 100000 in
set_option maxHeartbeats 4000000 in
theorem empty_any (n : Int) (L : List AV) (ao : Option Addr) (cap : Nat) (w : World) (hR : RdV w ao L) :
    Calls Tryz.prog 17 #[.int .i64 n, .slice ao L.length cap] w (fun e w' => Below w.heap.size w w' ∧ e = .returned (.tuple #[.bool (if empE n L = 0 then empB (L.map ofV) n.toNat else false), .int .i64 (empE n L)])) := by
  have hmf : ∀ (fn : Fn) (first cap : Array Value) (w : World), (Instr.makeFunc fn first cap).run Tryz.prog w = .ok (.func fn first cap) w := fun _ _ _ _ => rfl
  obtain ⟨m, hm⟩ : ∃ m, m = L.length := ⟨_, rfl⟩
  obtain ⟨w0, hw0⟩ : ∃ w0, w0 = (w.alloc (.cells #[.int .i64 n] 3)).alloc (.cells #[.slice ao m cap] 22) := ⟨_, rfl⟩
  have E0 := Lib.hid (show Below w.heap.size w w0 by rw [hw0]; exact past_two (Below.refl _ _))
  have X0 := Lib.hid (show Bx1 w0 w.heap.size (.int .i64 n) 3 by rw [hw0]; exact (Bx1.made w _ _).kept (one_more _))
  have X1 := Lib.hid (show Bx1 w0 (w.heap.size + 1) (.slice ao m cap) 22 by rw [hw0]; have := Bx1.made (w.alloc (.cells #[.int .i64 n] 3)) (.slice ao m cap) 22; simpa using this)
  have Z0 := Lib.hid (show w0.heap.size = w.heap.size + 2 by rw [hw0]; simp)
  have B1 := Lib.hid (one_more (w1 := w0) (.cells #[.slice ao m cap] 22))
  have hG : RdG (w0.alloc (.cells #[.slice ao m cap] 22)) (some ⟨w0.heap.size, 0, none⟩) [L] := by
    intro t ht
    have : t = 0 := by simpa using ht
    subst this
    refine ⟨_, ao, cap, rfl, ?_, (hR.on E0.out).on B1.out⟩
    rw [addr_add]
    have := (Bx1.made w0 (.slice ao m cap) 22).cell
    rw [hm] at this ⊢
    exact this
  have AN := Lib.hid (answerB_any 52 #[.pointer (some ⟨w.heap.size, 0, none⟩), .pointer (some ⟨w.heap.size + 1, 0, none⟩)] n (some ⟨w0.heap.size, 0, none⟩) 1 [L] (shE (L.map ofV) n.toNat n.toNat) _ (by simp) hG empty1_enters
    (fun _ v _ => v = .bool (empB (L.map ofV) n.toNat)) (fun _ _ _ _ _ h _ => h) (fun hc W hW => by
      have hc0 := hc L (by simp)
      have hn := (chk_valid hc0).1
      have e : ((n.toNat : Nat) : Int) = n := by omega
      refine empty1_any n.toNat L ao cap w.heap.size (w.heap.size + 1) W (by rw [e]; exact hc0) (((hR.on E0.out).on B1.out).on hW) ?_ ?_
      · rw [e]; exact kept hW (kept B1.out X0.out.cell)
      · rw [← hm]; exact kept hW (kept B1.out X1.out.cell)))
  have HE := Lib.hid (show ansE n [L] (shE (L.map ofV) n.toNat n.toNat) = empE n L from ansE_one _ _ _)
  have c0 := X0.out.cell
  have c1 := X1.out.cell
  simp only [List.length_cons, List.length_nil, Nat.zero_add] at AN
  rw [← hm]
  clear hR hG hm
  go_enter Tryz.func17, Tryz.ntmps17
  go_upto_region 1 with (fail)
  rw [← hw0]
  clear hw0
  go_wp2_with fail
  refine AN.out.mono ?_
  rintro e w2 ⟨hb, ⟨he, W, v, hW, rfl, rfl⟩ | ⟨he, rfl⟩⟩
  · have B2 := Lib.hid (below_on E0.out (past_one hb))
    rw [HE.out] at he
    have HZ := Lib.hid he
    clear hb he hW
    go_wp2_with fail
    refine bodyPost_ret (v := .tuple #[.bool (empB (L.map ofV) n.toNat), .int .i64 0]) (by simp [results, Tryz.results17, go_sem]) rfl ?_
    exact ⟨B2.out, by first | rfl | rw [HZ.out, if_pos rfl]⟩
  · have B2 := Lib.hid (below_on E0.out (past_one hb))
    rw [HE.out] at he ⊢
    have HZ := Lib.hid he
    clear hb he
    go_wp2_with fail
    refine bodyPost_ret (v := .tuple #[.bool false, .int .i64 (empE n L)]) (by simp [results, Tryz.results17, go_sem]) rfl ?_
    exact ⟨B2.out, by first | rfl | rw [if_neg HZ.out]⟩
end Go.Proofs.YtefpaobboimakaaGreat

namespace Go.Proofs
open Go.Shelf
def Tryz.laysDel_ren : Go.Shelf.Ren := ⟨fun | 45 => 47 | n => n, fun | 22 => 23 | 23 => 2 | 3 => 3 | 4 => 4 | 0 => 0 | n => n, fun | n => n⟩
theorem Tryz.laysDel : Go.Proofs.SlLaysN.n45 Tryz.prog Tryz.laysDel_ren := {
  mixed := by kernel_rfl
  f45 := ⟨Tryz.f47.name, by decide, Tryz.func47.trans (congrArg some (by kernel_rfl))⟩
  t0 := Tryz.underlying0
  a0 := Tryz.isAgg0
  z0 := Tryz.sizeOf0
  v0 := Tryz.zeroValue0
  t3 := Tryz.underlying3
  a3 := Tryz.isAgg3
  z3 := Tryz.sizeOf3
  v3 := Tryz.zeroValue3
  t4 := Tryz.underlying4
  a4 := Tryz.isAgg4
  z4 := Tryz.sizeOf4
  v4 := Tryz.zeroValue4
  t22 := Tryz.underlying23
  a22 := Tryz.isAgg23
  z22 := Tryz.sizeOf23
  v22 := Tryz.zeroValue23
  t23 := Tryz.underlying2
  a23 := Tryz.isAgg2
  z23 := Tryz.sizeOf2
  v23 := Tryz.zeroValue2
  i23 := by kernel_rfl }
end Go.Proofs

namespace Go.Proofs.YtefpaobboimakaaGreat
open Go.RowKit Go.Sort Go.Shelf

/-- A row of integers of a call's own. -/
def OwnI (w : World) (B g cap : Nat) (a : List Int) : Prop := w.ownsRow B 2 1 (.slice (some ⟨g, 0, none⟩) a.length cap) a.length (a.map (Value.int .i64))

theorem OwnI.at {w : World} {B g cap : Nat} {a : List Int} (h : OwnI w B g cap a) {j : Nat} (hj : j < a.length) : w.cell? ⟨g, j, none⟩ = some (.int .i64 (gA a j)) := by
  rw [World.ownsRow.cellAt h j (by omega), List.getElem?_map, List.getElem?_eq_getElem hj]
  simp [gA, hj]

theorem OwnI.lt {w : World} {B g cap : Nat} {a : List Int} (h : OwnI w B g cap a) : B ≤ g ∧ g < w.heap.size := World.ownsRow.lt h g rfl

theorem OwnI.capOk {w : World} {B g cap : Nat} {a : List Int} (h : OwnI w B g cap a) : a.length ≤ cap ∧ cap ≤ maxLen := by
  rcases h.2 with ⟨e, _⟩ | ⟨_, c, _, e, _, _, h1, h2, _⟩
  · cases e
  · injection e with _ _ e; subst e; exact ⟨h1, h2⟩

theorem i64_info : (Tryz.prog.info? 2).map (fun i => (i.zero, i.size, i.bytes)) = some (some (.int .i64 0), 1, 8) := by kernel_rfl

theorem cloneI_any (a : List Int) (b c : Nat) (w : World) (hl : a.length ≤ 1000000) (hc : ∀ j, j < a.length → w.cell? ⟨b, j, none⟩ = some (.int .i64 (gA a j))) :
    Calls Tryz.prog 86 #[.slice (some ⟨b, 0, none⟩) a.length c] w (fun e w' => ∃ g cap, e = .returned (.slice (some ⟨g, 0, none⟩) a.length cap) ∧ OwnI w' w.heap.size g cap a ∧ Below w.heap.size w w') := by
  obtain ⟨i0, hi, hz0, hz1, hz2⟩ := info_parts i64_info
  have h := AnyE.slices_Clone Tryz.laysCloneI i0 (.int .i64 0) 1 8 hi hz0 hz1 hz2 rfl (by omega) (fun w => size_of i64_size w) b 0 a.length c (a.map (Value.int .i64)) w (by simp) (by unfold maxLen; omega) (by omega)
    (fun j u hu => by
      rw [List.getElem?_map] at hu
      cases hj : a[j]? with
      | none => rw [hj] at hu; cases hu
      | some x =>
        rw [hj] at hu
        have hjl : j < a.length := (List.getElem?_eq_some_iff.1 hj).1
        rw [Nat.zero_add, hc j hjl, ← hu]
        simp [gA, hj]) (by simp [Value.oneCell'])
  change Calls Tryz.prog 86 _ _ _ at h
  refine h.mono ?_
  rintro e w' ⟨v', rfl, ho, hn, hb⟩
  rcases id ho.2 with ⟨e1, _⟩ | ⟨g, cap, cur, e1, _⟩
  · exact absurd e1 hn
  · subst e1
    exact ⟨g, cap, rfl, ho, hb⟩

theorem del_any (a : List Int) (g cap i : Nat) (w : World) (hl : a.length ≤ cap) (hcm : cap ≤ 9223372036854775807) (hi : i < a.length) (hg : g < w.heap.size) (hc : ∀ j, j < a.length → w.cell? ⟨g, j, none⟩ = some (.int .i64 (gA a j)) ∧ w.frozen? ⟨g, j, none⟩ = false) :
    Calls Tryz.prog 47 #[.slice (some ⟨g, 0, none⟩) a.length cap, .int .i64 i, .int .i64 ((i : Int) + 1)] w (fun e w' => e = .returned (.slice (some ⟨g, 0, none⟩) (a.length - 1) cap)
      ∧ (∀ j, j < a.length - 1 → w'.cell? ⟨g, j, none⟩ = some (.int .i64 (gA (a.eraseIdx i) j))) ∧ w.grownBy w' (some g)) := by
  have hH : Holds (Value.int .i64) w g 0 a.toArray := fun j hj => by
    have hj' : j < a.length := by simpa using hj
    rw [Nat.zero_add]
    refine ⟨?_, (hc j hj').2⟩
    rw [(hc j hj').1]
    simp [gA, hj']
  have h := AnyG.slices_Delete_int Tryz.laysDel g 0 cap i (i + 1) a w hH hl hcm (by omega) (by omega)
  change Calls Tryz.prog 47 _ _ _ at h
  rw [show (((i + 1 : Nat)) : Int) = (i : Int) + 1 by omega, show i + 1 - i = 1 by omega] at h
  refine h.mono ?_
  rintro e w' ⟨rfl, q, rfl⟩
  have hs : (a.take i ++ a.drop (i + 1) ++ List.replicate 1 0).length = a.length := by simp; omega
  have H2 := holds_putRow (Value.int .i64) (Sort.ahead w q) g 0 a.toArray (a.take i ++ a.drop (i + 1) ++ List.replicate 1 0).toArray (fun j hj => hH j hj) (by rw [List.size_toArray, List.size_toArray, hs])
  refine ⟨rfl, fun j hj => ?_, ?_⟩
  · have h3 := (H2 j (by rw [List.size_toArray, hs]; omega)).1
    rw [Nat.zero_add] at h3
    rw [h3]
    have he : j < (a.eraseIdx i).length := by rw [List.length_eraseIdx_of_lt hi]; exact hj
    rw [List.eraseIdx_eq_take_drop_succ] at he ⊢
    have e1 : (a.take i ++ a.drop (i + 1) ++ List.replicate 1 0)[j]? = (a.take i ++ a.drop (i + 1))[j]? := List.getElem?_append_left he
    rw [List.getElem!_toArray, getElem!_def, e1]
    simp only [gA, List.getD_eq_getElem?_getD, List.getElem?_eq_getElem he, Option.getD_some]
  · unfold putRow mapBlock Sort.ahead
    refine ⟨rfl, rfl, rfl, by simp, fun k hk hne => ?_⟩
    simp only
    rw [Array.getElem?_modify, if_neg (fun e => hne (by rw [e]))]
end Go.Proofs.YtefpaobboimakaaGreat

namespace Go.Proofs.YtefpaobboimakaaGreat
open Go.RowKit Go.Sort Go.Shelf

/-- All blocks but g stay. -/
def GB (g : Nat) (A B : World) : Prop := A.grownBy B (some g)

theorem GB.refl (g : Nat) (A : World) : GB g A A := ⟨rfl, rfl, rfl, Nat.le_refl _, fun _ _ _ => rfl⟩

theorem GB.drew {g : Nat} {A B : World} (h : GB g A B) : GB g A B.drew := ⟨h.os, h.tape, h.output, h.size, h.block⟩

theorem GB.trans {g : Nat} {A B C : World} (h : GB g A B) (k : GB g B C) : GB g A C :=
  ⟨k.os.trans h.os, k.tape.trans h.tape, k.output.trans h.output, Nat.le_trans h.size k.size, fun j hj hn => (k.block j (Nat.lt_of_lt_of_le hj h.size) hn).trans (h.block j hj hn)⟩

theorem GB.below {g : Nat} {A B : World} (h : Below A.heap.size A B) : GB g A B := ⟨h.os, h.tape, h.output, h.size, fun j hj _ => h.block j hj⟩

theorem GB.cell {g : Nat} {A B : World} (h : GB g A B) {p : Addr} {v : Value} (hne : p.block ≠ g) (hc : A.cell? p = some v) : B.cell? p = some v := by
  rw [World.cell?_of_block (h.block _ (World.block_lt_of_cell? A _ hc) (fun e => hne (by injection e)))]; exact hc

theorem GB.to_below {g n : Nat} {A B : World} (h : GB g A B) (hg : n ≤ g) (hn : n ≤ A.heap.size) : Below n A B := ⟨h.os, h.tape, h.output, h.size, fun j hj => h.block j (by omega) (fun e => by injection e; omega)⟩

/-- What lists asks of its function: it is handed six coefficients in memory of the caller's own, and returns a part of that memory. -/
def Chooses (fv : Value) (w : World) (ch : List Int → List Int) : Prop :=
  ∃ k lb, fv = .func (.func k) #[] lb ∧ (∀ args w, (callFunc k args).run Tryz.prog w = .ok (.enter k args) w) ∧ ∀ W, Below w.heap.size w W → ∀ g cap (a : List Int), a.length = 6 → OwnI W w.heap.size g cap a →
    Calls Tryz.prog k (#[.slice (some ⟨g, 0, none⟩) 6 cap] ++ lb) W (fun e W' => ∃ m c', e = .returned (.slice (some ⟨g, 0, none⟩) m c') ∧ m = (ch a).length ∧ (∀ j, j < (ch a).length → W'.cell? ⟨g, j, none⟩ = some (.int .i64 (gA (ch a) j))) ∧ GB g W W')

theorem OwnI.free {w : World} {B g cap : Nat} {a : List Int} (h : OwnI w B g cap a) (j : Nat) : w.frozen? ⟨g, j, none⟩ = false := World.ownsRow.frozenAt h j

theorem cell_heap {W w : World} (h : W.heap = w.heap) (p : Addr) : W.cell? p = w.cell? p := by unfold World.cell?; rw [h]

theorem frozen_heap {W w : World} (h : W.heap = w.heap) (p : Addr) : W.frozen? p = w.frozen? p := by unfold World.frozen?; rw [h]

def chW (n i : Nat) (a : List Int) : List Int := (a.take n).eraseIdx i

theorem cut_hiI (w : World) (a : Addr) (m c k : Nat) (hk : k ≤ c) : (Instr.sliceAt 23 (.slice (some a) m c) none (some (.int .i64 k)) none).run Tryz.prog w = .ok (.slice (some a) k c) w := by
  have he : Tryz.prog.elem 23 = 2 := by simp [Program.elem]
  rw [run_sliceAt_slice w _ _ _ _ _ (by rw [he]; exact Tryz.underlying23), run_slice_h w _ _ _ _ (by rw [he]; exact Tryz.underlying23) .i64 k (by omega) (by omega), he, size_of i64_size]
  simp only [Result.andThen_ok, sliced, Int.toNat_natCast]
  by_cases h : c - 0 = 0
  · simp [h]; try omega
  · rw [if_neg (by omega)]
    simp [Addr.add]

theorem yld_cut {o : Oper} {ac : Act} {w : World} (s k : Operand) (ho : o.op = .slice 23 s none (some k) none) (a : Addr) (m c kk : Nat) (hs : ac.eval s = .slice (some a) m c) (hk : ac.eval k = .int .i64 kk) (hle : kk ≤ c) :
    (execOp ac.eval o).run Tryz.prog w = .ok (.value (.slice (some a) kk c)) w := by
  have h := cut_hiI w a m c kk hle
  unfold execOp
  simp only [ho, hs, hk, Option.map_none, Option.map_some, Sem.run_bind, h, Result.andThen_ok, Sem.run_pure]

theorem gA_take {a : List Int} {n j : Nat} (h : j < n) : gA (a.take n) j = gA a j := by
  simp [gA, List.getD_eq_getElem?_getD, List.getElem?_take, h]

set_option maxRecDepth 100000 in
set_option maxHeartbeats 4000000 in
theorem chW_any (n i g cap pn pi : Nat) (a : List Int) (B : Nat) (w : World) (ha : a.length = 6) (hn : n ≤ 6) (hi : i < n) (ho : OwnI w B g cap a) (c0 : w.cell? ⟨pn, 0, none⟩ = some (.int .i64 n)) (c1 : w.cell? ⟨pi, 0, none⟩ = some (.int .i64 i)) (h0 : pn ≠ g) (h1 : pi ≠ g) :
    Calls Tryz.prog 46 #[.slice (some ⟨g, 0, none⟩) 6 cap, .pointer (some ⟨pn, 0, none⟩), .pointer (some ⟨pi, 0, none⟩)] w (fun e W' => ∃ m c', e = .returned (.slice (some ⟨g, 0, none⟩) m c') ∧ m = (chW n i a).length ∧ (∀ j, j < (chW n i a).length → W'.cell? ⟨g, j, none⟩ = some (.int .i64 (gA (chW n i a) j))) ∧ GB g w W') := by
  have hcp := ho.capOk
  have hcn := Lib.hid (show n ≤ cap by have := hcp.1; omega)
  have hln : (a.take n).length = n := by simp; omega
  have hcm : cap ≤ 9223372036854775807 := by have := hcp.2; unfold maxLen at this; omega
  have hcc : n ≤ cap := by have := hcp.1; omega
  have hfa : ∀ W : World, W.heap = w.heap → ∀ j, j < (a.take n).length → W.cell? ⟨g, j, none⟩ = some (.int .i64 (gA (a.take n) j)) ∧ W.frozen? ⟨g, j, none⟩ = false := fun W hd j hj => by
    have hj' : j < a.length := by omega
    refine ⟨?_, ?_⟩
    · rw [cell_heap hd, ho.at hj', gA_take (by omega)]
    · rw [frozen_heap hd]; exact ho.free j
  have DE := Lib.hid (fun W (_ : GB g w W) (hd : W.heap = w.heap) => del_any (a.take n) g cap i W (by rw [hln]; exact hcc) hcm (by rw [hln]; exact hi) (by rw [hd]; exact ho.lt.2) (hfa W hd))
  rw [hln] at DE
  have CL := Lib.hid (show (chW n i a).length = n - 1 by unfold chW; rw [List.length_eraseIdx_of_lt (by omega), hln])
  have C0 := Lib.hid c0
  have C1 := Lib.hid c1
  have H0 := Lib.hid h0
  have H1 := Lib.hid h1
  have CE := Lib.hid (show (a.take n).eraseIdx i = chW n i a from rfl)
  rw [CE.out] at DE
  have HW1 := Lib.hid (show IntKind.i64.wrap ((i : Int) + 1) = (i : Int) + 1 by rw [IntKind.wrap_i64]; omega)
  generalize chW n i a = r at *
  clear ho c0 c1 h0 h1 hcp hln ha CE hfa hcm hcc
  go_enter Tryz.func46, Tryz.ntmps46
  go_upto_region 1 with (fail)
  have KS := Lib.hid (show ∀ W, GB g w W → (W.cell? ⟨pn, 0, none⟩ = some (.int .i64 n) ∧ W.cell? ⟨pi, 0, none⟩ = some (.int .i64 i)) from fun W h => ⟨h.cell H0.out C0.out, h.cell H1.out C1.out⟩)
  obtain ⟨wc, hwc⟩ : ∃ wc, wc = w.drew := ⟨_, rfl⟩
  have HH := Lib.hid (show wc.heap = w.heap by rw [hwc]; rfl)
  have Bc := Lib.hid (show GB g w wc by rw [hwc]; exact (GB.refl g _).drew)
  refine wp_region_held_drew (S := (fun W => (W.cell? ⟨pn, 0, none⟩ = some (.int .i64 n) ∧ W.cell? ⟨pi, 0, none⟩ = some (.int .i64 i)))) (by kernel_rfl) (by rw [← hwc]; exact KS.out _ Bc.out) (fun h0 => ?_)
  rw [← hwc] at h0 ⊢
  clear hwc
  refine wpAnyH_take (i := 0) (v := ?v1) rfl (by kernel_rfl) (by kernel_rfl) (by kernel_rfl) (fun _ _ _ h => h) (Or.inl ⟨by rfl, ?hy1⟩) h0 ?rest1
  case hy1 => (intro w' hS; (try dsimp only at hS); go_simp; try (with_reducible rfl))
  simp only [Act.put, List.getElem_toArray, List.getElem_cons_zero, List.setIfInBounds_toArray, List.set_cons_zero, List.set_cons_succ]
  refine wpAnyH_take (i := 1) (v := ?v2) rfl (by kernel_rfl) (by kernel_rfl) (by kernel_rfl) (fun _ _ _ h => h) (Or.inl ⟨by rfl, ?hy2⟩) h0 ?rest2
  case hy2 => (intro w' hS; (try dsimp only at hS); go_simp; try (with_reducible rfl))
  simp only [Act.put, List.getElem_toArray, List.getElem_cons_zero, List.getElem_cons_succ, List.setIfInBounds_toArray, List.set_cons_zero, List.set_cons_succ]
  refine wpAnyH_take (i := 2) (v := (.slice (some ⟨g, 0, none⟩) n cap)) rfl (by kernel_rfl) (by kernel_rfl) (by kernel_rfl) (fun _ _ _ h => h) (Or.inl ⟨by rfl, (fun w' _ => yld_cut _ _ rfl ⟨g, 0, none⟩ 6 cap n rfl rfl hcn.out)⟩) h0 ?_
  simp only [Act.put, List.getElem_toArray, List.getElem_cons_zero, List.getElem_cons_succ, List.setIfInBounds_toArray, List.set_cons_zero, List.set_cons_succ]
  refine wpAnyH_take (i := 3) (v := ?v4) rfl (by kernel_rfl) (by kernel_rfl) (by kernel_rfl) (fun _ _ _ h => h) (Or.inl ⟨by rfl, ?hy4⟩) h0 ?rest4
  case hy4 => (intro w' hS; (try dsimp only at hS); go_simp; try (with_reducible rfl))
  simp only [Act.put, List.getElem_toArray, List.getElem_cons_zero, List.getElem_cons_succ, List.setIfInBounds_toArray, List.set_cons_zero, List.set_cons_succ]
  refine wpAnyH_take (i := 4) (v := ?v5) rfl (by kernel_rfl) (by kernel_rfl) (by kernel_rfl) (fun _ _ _ h => h) (Or.inl ⟨by rfl, ?hy5⟩) h0 ?rest5
  case hy5 => (intro w' hS; (try dsimp only at hS); go_simp; try (with_reducible rfl))
  simp only [Act.put, List.getElem_toArray, List.getElem_cons_zero, List.getElem_cons_succ, List.setIfInBounds_toArray, List.set_cons_zero, List.set_cons_succ]
  refine wpAnyH_take (i := 5) (v := ?v6) rfl (by kernel_rfl) (by kernel_rfl) (by kernel_rfl) (fun _ _ _ h => h) (Or.inl ⟨by rfl, ?hy6⟩) h0 ?rest6
  case hy6 => (intro w' hS; (try dsimp only at hS); go_simp; try (with_reducible rfl))
  simp only [Act.put, List.getElem_toArray, List.getElem_cons_zero, List.getElem_cons_succ, List.setIfInBounds_toArray, List.set_cons_zero, List.set_cons_succ]
  refine wpAnyH_ready (rs := [6]) (by kernel_rfl) (by simp) (AllReadyH.cons rfl (fun K hK => ?_) AllReadyH.nil)
  rw [if_pos (by rfl)]
  go_simp
  rw [HW1.out]
  refine (DE.out wc Bc.out HH.out).mono ?_
  rintro e wc ⟨rfl, hr, hb⟩
  have R1 := Lib.hid hr
  clear hr
  have Bc := Lib.hid (GB.trans Bc.out hb)
  clear hb
  go_simp
  refine hK.out _ _ (KS.out _ Bc.out) (fun h0_1 => ?_)
  clear hK K h0
  refine wpAnyH_take (i := 7) (v := ?v7) rfl (by kernel_rfl) (by kernel_rfl) (by kernel_rfl) (fun _ _ _ h => h) (Or.inl ⟨by rfl, ?hy7⟩) h0_1 ?rest7
  case hy7 => (intro w' hS; (try dsimp only at hS); go_simp; try (with_reducible rfl))
  simp only [Act.put, List.getElem_toArray, List.getElem_cons_zero, List.getElem_cons_succ, List.setIfInBounds_toArray]
  try simp only [List.set_cons_succ]
  try simp only [List.set_cons_zero]
  refine wpAnyH_done (by kernel_rfl) ?_ _
  go_wp2_with fail
  go_ret
  exact ⟨n - 1, cap, rfl, CL.out.symm, by rw [CL.out]; exact R1.out, Bc.out⟩
end Go.Proofs.YtefpaobboimakaaGreat

namespace Go.Proofs.YtefpaobboimakaaGreat
open Go.Sort

/-- A map of lines that keeps their order. -/
structure Keeps (f : Ln → Ln) (D : Ln → Prop) : Prop where
  ord : ∀ x y, D x → D y → cmpL (f x).a (f y).a = cmpL x.a y.a
  num : ∀ x, (f x).b = x.b
  str : ∀ x, (f x).s = x.s

theorem Keeps.over {f : Ln → Ln} {D : Ln → Prop} (h : Keeps f D) (x y : Ln) : (f x).over (f y) = x.over y := by unfold Ln.over; rw [h.num, h.num, h.str]

theorem Keeps.eq {f : Ln → Ln} {D : Ln → Prop} (h : Keeps f D) {x y : Ln} (hx : D x) (hy : D y) : (f x).a = (f y).a ↔ x.a = y.a := by
  rw [← cmpL_zero, ← cmpL_zero, h.ord x y hx hy]

theorem ins_map {f : Ln → Ln} {D : Ln → Prop} (h : Keeps f D) {x : Ln} (hx : D x) : ∀ {l : List Ln}, (∀ y ∈ l, D y) → insN (f x) (l.map f) = (insN x l).map f
  | [], _ => rfl
  | y :: r, hl => by
    have hy := hl y (by simp)
    have ih := ins_map h hx (l := r) (fun z hz => hl z (by simp [hz]))
    simp only [List.map_cons, insN, h.ord y x hy hx, h.eq hy hx, h.over]
    split
    · rw [List.map_cons, ih]
    · split
      · split <;> rfl
      · rfl

theorem ins_D {D : Ln → Prop} {x : Ln} (hx : D x) : ∀ {l : List Ln}, (∀ y ∈ l, D y) → ∀ z ∈ insN x l, D z
  | [], _, z, hz => by simp [insN] at hz; rw [hz]; exact hx
  | y :: r, hl, z, hz => by
    unfold insN at hz
    split at hz
    · rcases List.mem_cons.1 hz with rfl | hz
      · exact hl _ (by simp)
      · exact ins_D hx (fun u hu => hl u (by simp [hu])) z hz
    · split at hz
      · split at hz
        · rcases List.mem_cons.1 hz with rfl | hz
          · exact hx
          · exact hl z (by simp [hz])
        · exact hl z hz
      · rcases List.mem_cons.1 hz with rfl | hz
        · exact hx
        · exact hl z hz

theorem insL_map {f : Ln → Ln} {D : Ln → Prop} (h : Keeps f D) {k : List Ln} (hk : ∀ x ∈ k, D x) : insL (k.map f) = (insL k).map f := by
  suffices g : ∀ n, n ≤ k.length → insL ((k.take n).map f) = (insL (k.take n)).map f ∧ ∀ z ∈ insL (k.take n), D z by
    have := (g k.length (Nat.le_refl _)).1
    rwa [List.take_length] at this
  intro n
  induction n with
  | zero => intro _; simp [insL]
  | succ n ih =>
    intro hn
    obtain ⟨i1, i2⟩ := ih (by omega)
    have hx := hk _ (List.getElem_mem (show n < k.length by omega))
    rw [List.take_succ_eq_append_getElem (show n < k.length by omega), List.map_append, List.map_cons, List.map_nil, insL_snoc, insL_snoc, i1]
    exact ⟨ins_map h hx i2, ins_D hx i2⟩

/-- The coordinate i of n is left out. -/
def erL (n i : Nat) (x : Ln) : Ln := ⟨chW n i x.a, x.b, x.s⟩

def DomL (n i : Nat) (x : Ln) : Prop := x.a.length = 6 ∧ gA x.a i = 0 ∧ ∀ j, n ≤ j → gA x.a j = 0

theorem cmpL_skip : ∀ {l m : List Int} {i : Nat}, l.length = m.length → gA l i = gA m i → cmpL (l.eraseIdx i) (m.eraseIdx i) = cmpL l m
  | [], [], _, _, _ => rfl
  | [], _ :: _, _, h, _ => by simp at h
  | _ :: _, [], _, h, _ => by simp at h
  | x :: xs, y :: ys, 0, _, e => by
    have e : x = y := by simpa [gA] using e
    subst e
    show cmpL xs ys = if cmpI x x = 0 then cmpL xs ys else cmpI x x
    rw [if_pos (cmpI_zero.2 rfl)]
  | x :: xs, y :: ys, i + 1, h, e => by
    have ih := cmpL_skip (l := xs) (m := ys) (i := i) (by simpa using h) (by simpa [gA] using e)
    show (if cmpI x y = 0 then cmpL (xs.eraseIdx i) (ys.eraseIdx i) else cmpI x y) = (if cmpI x y = 0 then cmpL xs ys else cmpI x y)
    rw [ih]

theorem cmpL_take : ∀ {l m : List Int} (n : Nat), l.length = m.length → (∀ j, n ≤ j → gA l j = gA m j) → cmpL (l.take n) (m.take n) = cmpL l m
  | [], [], _, _, _ => by simp
  | [], _ :: _, _, h, _ => by simp at h
  | _ :: _, [], _, h, _ => by simp at h
  | x :: xs, y :: ys, 0, h, e => by
    have : x :: xs = y :: ys := gA_ext h (fun j _ => e j (by omega))
    rw [this]; simp
    exact (cmpL_zero.2 rfl).symm
  | x :: xs, y :: ys, n + 1, h, e => by
    have ih := cmpL_take (l := xs) (m := ys) n (by simpa using h) (fun j hj => by have := e (j + 1) (by omega); simpa [gA] using this)
    show (if cmpI x y = 0 then cmpL (xs.take n) (ys.take n) else cmpI x y) = (if cmpI x y = 0 then cmpL xs ys else cmpI x y)
    rw [ih]

theorem erL_keeps (n i : Nat) (hi : i < n) : Keeps (erL n i) (DomL n i) where
  ord x y hx hy := by
    obtain ⟨x1, x2, x3⟩ := hx
    obtain ⟨y1, y2, y3⟩ := hy
    show cmpL ((x.a.take n).eraseIdx i) ((y.a.take n).eraseIdx i) = cmpL x.a y.a
    rw [cmpL_skip (by simp [x1, y1]) (by rw [gA_take hi, gA_take hi, x2, y2]), cmpL_take n (by rw [x1, y1]) (fun j hj => by rw [x3 j hj, y3 j hj])]
  num _ := rfl
  str _ := rfl
end Go.Proofs.YtefpaobboimakaaGreat

namespace Go.Proofs.YtefpaobboimakaaGreat
open Go.RowKit Go.Sort

theorem drewN_3 (w : World) (a b c : Nat) : ((w.drewN a).drewN b).drewN c = w.drewN (a + b + c) := by rw [World.drewN_drewN, World.drewN_drewN, Nat.add_assoc]

theorem rsize_any (n : Int) (w : World) (h : A63 n) : Calls Tryz.prog 145 #[.int .i64 n] w (fun e w' => e = .returned (.int .i64 (n.natAbs : Int)) ∧ w' = w) := by
  by_cases h0 : n < 0
  · have e : wrap64 (-n) = (n.natAbs : Int) := by unfold A63 at h; unfold wrap64; omega
    have E := Lib.hid e
    clear h e
    go_enter Tryz.func145, Tryz.ntmps145
    go_wp2_with fail
    go_ret
    exact ⟨ret_int E.out, rfl⟩
  · have E := Lib.hid (show n = (n.natAbs : Int) by omega)
    clear h
    go_enter Tryz.func145, Tryz.ntmps145
    go_wp2_with fail
    go_ret
    exact ⟨ret_int E.out, rfl⟩

set_option maxRecDepth 20000 in
set_option maxHeartbeats 1000000 in
theorem rdiv_any (a b : Int) (w : World) (ha : 0 ≤ a ∧ a ≤ 9223372036854775807) (hb : 0 ≤ b ∧ b ≤ 9223372036854775807) :
    Calls Tryz.prog 92 #[.int .i64 a, .int .i64 b] w (Drawn (.int .i64 (Int.gcd a b)) w) := by
  obtain ⟨G, hG⟩ : ∃ G, G = Int.gcd a b := ⟨_, rfl⟩
  rw [← hG]
  go_enter Tryz.func92, Tryz.ntmps92
  go_wp2_with fail
  go_loopw [0, 1] (fun p q wr => ∃ x y : Int, p = .int .i64 x ∧ q = .int .i64 y ∧ Hid (A63 x ∧ A63 y ∧ 0 ≤ x ∧ 0 ≤ y) ∧ Hid (Int.gcd x y = G) ∧ ∃ n, wr = w.drewN n) (fun _ q _ => (intOf q).natAbs)
  case atStart => exact ⟨a, b, rfl, rfl, Lib.hid ⟨by unfold A63; omega, by unfold A63; omega, ha.1, hb.1⟩, Lib.hid hG.symm, 0, rfl⟩
  case round =>
    obtain ⟨x, y, rfl, rfl, HA, HG, n, rfl⟩ := hrel
    by_cases hy : y = 0
    · subst hy
      have HX := Lib.hid (show x = (G : Int) by have := HG.out; have := HA.out.2.2.1; rw [Int.gcd_zero_right] at *; omega)
      clear HA HG
      go_wp2_with fail
      go_ret
      exact ⟨ret_int HX.out, n, rfl⟩
    · have h0 : (y != 0) = true := by simpa using hy
      have hz : (y == 0) = false := by simpa using hy
      have HR := Lib.hid (show A63 (x.tmod y) ∧ (x.tmod y).natAbs < y.natAbs ∧ Int.gcd y (x.tmod y) = G ∧ 0 ≤ x.tmod y from by
        have := tmod_a63 (a := x) HA.out.2.1 hy
        exact ⟨this.1, this.2, (gcd_step x y).trans HG.out, Int.tmod_nonneg y HA.out.2.2.1⟩)
      have HX := Lib.hid HA.out
      clear HA HG
      go_wp2_with fail
      go_quiet (fail)
      go_wp2_with fail
      go_roundw
      case rel => exact ⟨y, x.tmod y, rfl, rfl, Lib.hid ⟨HX.out.2.1, HR.out.1, HX.out.2.2.2, HR.out.2.2.2⟩, Lib.hid HR.out.2.2.1, _, World.drewN_drewN _ _ _⟩
      case measure => exact HR.out.2.1

set_option maxRecDepth 20000 in
set_option maxHeartbeats 1000000 in
theorem rzero_any (l : List Int) (ao : Option Addr) (c : Nat) (w : World) (hl : l.length ≤ 1000000) (hR : Rd1 w ao l) :
    Calls Tryz.prog 108 #[.slice ao l.length c] w (fun e w' => e = .returned (.bool (l.all (· == 0))) ∧ w' = w) := by
  have HR := Lib.hid hR
  obtain ⟨n, hn⟩ : ∃ n, n = l.length := ⟨_, rfl⟩
  have HL := Lib.hid hn
  rw [← hn]
  have hle : n ≤ 1000000 := by omega
  obtain ⟨r, hr⟩ : ∃ r, r = l.all (· == 0) := ⟨_, rfl⟩
  have HB := Lib.hid hr
  rw [← hr]
  clear hl hR hn hr
  go_enter Tryz.func108, Tryz.ntmps108
  go_wp2_with fail
  go_loopw [3] (fun s wr => ∃ t : Nat, s = .int .i64 t ∧ t ≤ n ∧ Hid (∀ i, i < t → gA l i = 0) ∧ wr = w) (fun s _ => n - (intOf s).toNat)
  case atStart => exact ⟨0, rfl, by omega, Lib.hid (fun i h => by omega), rfl⟩
  case round =>
    obtain ⟨t, rfl, ht, HF, rfl⟩ := hrel
    by_cases htn : t < n
    · obtain ⟨a, ha, c0⟩ := HR.out t (by have := HL.out; omega)
      obtain ⟨u, hu⟩ : ∃ u, u = gA l t := ⟨_, rfl⟩
      have HU := Lib.hid hu
      rw [← hu] at c0
      clear hu
      subst ha
      by_cases hc : u = 0
      · have HF' := Lib.hid (show ∀ i, i < t + 1 → gA l i = 0 from fun i hi => by
          by_cases e : i = t
          · subst e; rw [← HU.out]; exact hc
          · exact HF.out i (by omega))
        subst hc
        go_wp2_with fail
        go_roundw
        case rel => exact ⟨t + 1, by go_num, by omega, HF', trivial⟩
        case measure => simp [intOf]; omega
      · have D : (u != 0) = true := by simpa using hc
        have HE := Lib.hid (show r = false from by
          rw [HB.out, List.all_eq_false]
          refine ⟨gA l t, gA_mem (by have := HL.out; omega), ?_⟩
          rw [← HU.out]; simpa using hc)
        clear hc
        go_wp2_with fail
        go_ret
        exact ⟨ret_bool HE.out.symm, rfl⟩
    · have HE := Lib.hid (show r = true from by
        rw [HB.out, List.all_eq_true]
        intro v hv
        obtain ⟨i, hi, rfl⟩ := List.getElem_of_mem hv
        have := HF.out i (by have := HL.out; omega)
        simp [gA, hi] at this
        simpa using this)
      go_wp2_with fail
      go_ret
      exact ⟨ret_bool HE.out.symm, rfl⟩

set_option maxRecDepth 20000 in
set_option maxHeartbeats 1000000 in
theorem rorder_any (l m : List Int) (ao bo : Option Addr) (ca cb : Nat) (w : World) (hl : l.length ≤ 1000000) (hm : m.length = l.length) (hR : Rd1 w ao l) (hS : Rd1 w bo m) :
    Calls Tryz.prog 109 #[.slice ao l.length ca, .slice bo m.length cb] w (fun e w' => e = .returned (.int .i64 (cmpL l m)) ∧ ∃ k, w' = w.drewN k) := by
  have HR := Lib.hid hR
  have HS := Lib.hid hS
  obtain ⟨n, hn⟩ : ∃ n, n = l.length := ⟨_, rfl⟩
  have HL := Lib.hid hn
  have HM := Lib.hid (show n = m.length by omega)
  rw [hm, ← hn]
  have hle : n ≤ 1000000 := by omega
  clear hl hm hR hS hn
  go_enter Tryz.func109, Tryz.ntmps109
  go_wp2_with fail
  go_loopw [5] (fun s wr => ∃ t : Nat, s = .int .i64 t ∧ t ≤ n ∧ Hid (∀ i, i < t → gA l i = gA m i) ∧ ∃ k, wr = w.drewN k) (fun s _ => n - (intOf s).toNat)
  case atStart => exact ⟨0, rfl, by omega, Lib.hid (fun i h => by omega), 0, rfl⟩
  case round =>
    obtain ⟨t, rfl, ht, HF, k, rfl⟩ := hrel
    by_cases htn : t < n
    · obtain ⟨a, ha, c0⟩ := HR.out t (by have := HL.out; omega)
      obtain ⟨b, hb, c1⟩ := HS.out t (by have := HM.out; omega)
      obtain ⟨u, hu⟩ : ∃ u, u = gA l t := ⟨_, rfl⟩
      obtain ⟨v, hv⟩ : ∃ v, v = gA m t := ⟨_, rfl⟩
      have HU := Lib.hid hu
      have HV := Lib.hid hv
      rw [← hu] at c0
      rw [← hv] at c1
      clear hu hv
      subst ha
      subst hb
      by_cases h1 : u < v
      · have HE := Lib.hid (show cmpL l m = -1 from by
          have e : cmpI (gA l t) (gA m t) = -1 := by rw [← HU.out, ← HV.out]; unfold cmpI; rw [if_pos h1]
          rw [cmpL_at (by have := HL.out; omega) (by have := HM.out; omega) HF.out (by rw [e]; decide), e])
        go_wp2_with fail
        go_quiet (fail)
        go_wp2_with fail
        go_ret
        exact ⟨ret_int HE.out.symm, _, World.drewN_drewN _ _ _⟩
      · by_cases h2 : v < u
        · have HE := Lib.hid (show cmpL l m = 1 from by
            have e : cmpI (gA l t) (gA m t) = 1 := by rw [← HU.out, ← HV.out]; unfold cmpI; rw [if_neg h1, if_pos h2]
            rw [cmpL_at (by have := HL.out; omega) (by have := HM.out; omega) HF.out (by rw [e]; decide), e])
          go_wp2_with fail
          go_quiet (fail)
          go_wp2_with fail
          go_quiet (fail)
          go_wp2_with fail
          go_ret
          exact ⟨ret_int HE.out.symm, _, drewN_3 _ _ _ _⟩
        · have HF' := Lib.hid (show ∀ i, i < t + 1 → gA l i = gA m i from fun i hi => by
            by_cases e : i = t
            · subst e; rw [← HU.out, ← HV.out]; omega
            · exact HF.out i (by omega))
          go_wp2_with fail
          go_quiet (fail)
          go_wp2_with fail
          go_quiet (fail)
          go_wp2_with fail
          go_roundw
          case rel => exact ⟨t + 1, by go_num, by omega, HF', _, rfl⟩
          case measure => simp [intOf]; omega
    · have HE := Lib.hid (show cmpL l m = 0 from cmpL_zero.2 (gA_ext (by have := HL.out; have := HM.out; omega) fun i hi => HF.out i (by have := HL.out; omega)))
      go_wp2_with fail
      go_ret
      exact ⟨ret_int HE.out.symm, k, rfl⟩
end Go.Proofs.YtefpaobboimakaaGreat

namespace Go.Proofs.YtefpaobboimakaaGreat
open Go.RowKit Go.Sort

set_option maxRecDepth 20000 in
set_option maxHeartbeats 2000000 in
theorem rvalid_any (n : Int) (y : AV) (w : World) (hl : y.a.length ≤ 1000000) (hR : Rd1 w y.q y.a) : Calls Tryz.prog 50 #[.int .i64 n, .agg y.cs] w (Made (.bool (validB n y)) w) := by
  obtain ⟨q, c, a, b, s⟩ := y
  simp only [AV.cs, AV.cells] at *
  obtain ⟨w0, hw0⟩ : ∃ w0, w0 = w.alloc (.cells #[.slice q a.length c, .int .i64 b, .bool s] 25) := ⟨_, rfl⟩
  have E0 := Lib.hid (show Below w.heap.size w w0 by rw [hw0]; exact one_more _)
  have hq := heap_alloc_last w (.cells #[.slice q a.length c, .int .i64 b, .bool s] 25)
  rw [← hw0] at hq
  have d0 : w0.cell? ⟨w.heap.size, 0, none⟩ = some (.slice q a.length c) := by rw [cell_of_row w0 _ 0 _ _ _ hq]; rfl
  have d1 : w0.cell? ⟨w.heap.size, 1, none⟩ = some (.int .i64 b) := by rw [cell_of_row w0 _ 1 _ _ _ hq]; rfl
  have R0 := Lib.hid (hR.on E0.out)
  obtain ⟨m, hm⟩ : ∃ m, m = a.length := ⟨_, rfl⟩
  have HM := Lib.hid hm
  have hle : m ≤ 1000000 := by omega
  obtain ⟨r, hr⟩ : ∃ r, r = validB n ⟨q, c, a, b, s⟩ := ⟨_, rfl⟩
  have VB := Lib.hid (show r = (decide ((a.length : Int) = n) && a.all fitB && fitB b) by rw [hr]; rfl)
  rw [← hr]
  rw [← hm] at d0 hw0 ⊢
  clear hl hR hq hm hr
  go_enter Tryz.func50, Tryz.ntmps50
  go_upto_region 1 with (fail)
  rw [← hw0]
  clear hw0
  go_wp2_with fail
  go_loopw [5] (fun u wr => ∃ t : Nat, u = .int .i64 t ∧ t ≤ m ∧ Hid (∀ i, i < t → fitB (gA a i) = true) ∧ wr = w0) (fun u _ => m - (intOf u).toNat)
  case atStart => exact ⟨0, rfl, by omega, Lib.hid (fun i h => by omega), rfl⟩
  case round =>
    obtain ⟨t, rfl, ht, HF, rfl⟩ := hrel
    by_cases htn : t < m
    · obtain ⟨p, hp, c0⟩ := R0.out t (by have := HM.out; omega)
      obtain ⟨u, hu⟩ : ∃ u, u = gA a t := ⟨_, rfl⟩
      have HU := Lib.hid hu
      rw [← hu] at c0
      clear hu
      subst hp
      have bad : ¬ (-2147483647 ≤ u ∧ u ≤ 2147483647) → r = false := fun h => by
        rw [VB.out]
        have : a.all fitB = false := by
          rw [List.all_eq_false]
          refine ⟨gA a t, gA_mem (by have := HM.out; omega), ?_⟩
          rw [← HU.out]; unfold fitB; simpa using h
        rw [this]; simp
      by_cases h1 : u < -2147483647
      · have HE := Lib.hid (bad (by omega))
        clear bad
        go_wp2_with fail
        go_ret
        exact ⟨ret_bool HE.out.symm, E0.out⟩
      · by_cases h2 : 2147483647 < u
        · have HE := Lib.hid (bad (by omega))
          clear bad
          go_wp2_with fail
          go_ret
          exact ⟨ret_bool HE.out.symm, E0.out⟩
        · have HF' := Lib.hid (show ∀ i, i < t + 1 → fitB (gA a i) = true from fun i hi => by
            by_cases e : i = t
            · subst e; rw [← HU.out]; unfold fitB; simp; omega
            · exact HF.out i (by omega))
          clear bad
          go_wp2_with fail
          go_roundw
          case rel => exact ⟨t + 1, by go_num, by omega, HF', trivial⟩
          case measure => simp [intOf]; omega
    · have FA := Lib.hid (show a.all fitB = true from by
        rw [List.all_eq_true]
        intro v hv
        obtain ⟨i, hi, rfl⟩ := List.getElem_of_mem hv
        have := HF.out i (by have := HM.out; omega)
        simpa [gA, hi] using this)
      by_cases h0 : (m : Int) = n
      · have e0 : ((m : Int) == n) = true := beq_iff_eq.2 h0
        have VC := Lib.hid (show r = fitB b by rw [VB.out, FA.out, ← HM.out]; simp [h0])
        clear h0
        by_cases h1 : -2147483647 ≤ b
        · by_cases h2 : b ≤ 2147483647
          · have HE := Lib.hid (show r = true by rw [VC.out]; unfold fitB; simp; omega)
            go_wp2_with fail
            go_ret
            exact ⟨ret_bool HE.out.symm, E0.out⟩
          · have HE := Lib.hid (show r = false by rw [VC.out]; unfold fitB; simp; omega)
            go_wp2_with fail
            go_ret
            exact ⟨ret_bool HE.out.symm, E0.out⟩
        · have HE := Lib.hid (show r = false by rw [VC.out]; unfold fitB; simp; omega)
          go_wp2_with fail
          go_ret
          exact ⟨ret_bool HE.out.symm, E0.out⟩
      · have e0 : ((m : Int) == n) = false := by rw [beq_eq_false_iff_ne]; exact h0
        have HE := Lib.hid (show r = false by rw [VB.out, ← HM.out]; simp [h0])
        clear h0
        go_wp2_with fail
        go_ret
        exact ⟨ret_bool HE.out.symm, E0.out⟩

set_option maxRecDepth 20000 in
set_option maxHeartbeats 2000000 in
theorem rcheck_any (n : Int) (L : List AV) (ao : Option Addr) (cap : Nat) (w : World) (hR : RdV w ao L) (hL : ∀ y ∈ L, y.a.length ≤ 1000000) :
    Calls Tryz.prog 16 #[.int .i64 n, .slice ao L.length cap] w (Made (.int .i64 (chkP n L)) w) := by
  obtain ⟨m, hm⟩ : ∃ m, m = L.length := ⟨_, rfl⟩
  have HM := Lib.hid hm
  have HR := Lib.hid hR
  have HL := Lib.hid hL
  obtain ⟨r, hr⟩ : ∃ r, r = chkP n L := ⟨_, rfl⟩
  have RB := Lib.hid (show r = if n < 0 ∨ 5 < n then 2 else if 1000 < m then 3 else if L.any (fun y => !validB n y) then 2 else 0 by rw [hr, hm]; rfl)
  rw [← hr, ← hm]
  clear hR hL hm hr
  by_cases h1 : n < 0
  · have HE := Lib.hid (show r = 2 by rw [RB.out, if_pos (Or.inl h1)])
    go_enter Tryz.func16, Tryz.ntmps16
    go_wp2_with fail
    go_ret
    exact ⟨ret_int HE.out.symm, Below.refl _ _⟩
  by_cases h2 : 5 < n
  · have HE := Lib.hid (show r = 2 by rw [RB.out, if_pos (Or.inr h2)])
    go_enter Tryz.func16, Tryz.ntmps16
    go_wp2_with fail
    go_ret
    exact ⟨ret_int HE.out.symm, Below.refl _ _⟩
  have RB := Lib.hid (show r = if 1000 < m then 3 else if L.any (fun y => !validB n y) then 2 else 0 by rw [RB.out, if_neg (by omega)])
  by_cases h3 : 1000 < m
  · have HE := Lib.hid (show r = 3 by rw [RB.out, if_pos h3])
    go_enter Tryz.func16, Tryz.ntmps16
    go_wp2_with fail
    go_ret
    exact ⟨ret_int HE.out.symm, Below.refl _ _⟩
  have RB := Lib.hid (show r = if L.any (fun y => !validB n y) then 2 else 0 by rw [RB.out, if_neg h3])
  go_enter Tryz.func16, Tryz.ntmps16
  go_wp2_with fail
  go_loopw [5] (fun u wr => ∃ t : Nat, u = .int .i64 t ∧ t ≤ m ∧ Hid (∀ i, ∀ h : i < L.length, i < t → validB n L[i] = true) ∧ Hid (Below w.heap.size w wr)) (fun u _ => m - (intOf u).toNat)
  case atStart => exact ⟨0, rfl, by omega, Lib.hid (fun i h h' => by omega), Lib.hid (Below.refl _ _)⟩
  case round =>
    obtain ⟨t, rfl, ht, HF, HB⟩ := hrel
    by_cases htn : t < m
    · have hlt : t < L.length := by have := HM.out; omega
      obtain ⟨p, hp, c0⟩ := (HR.out.on HB.out).at_ t hlt
      obtain ⟨y, hy⟩ : ∃ y, y = L[t] := ⟨_, rfl⟩
      have hmem := List.getElem_mem hlt
      rw [← hy] at c0 hmem
      have C0 := Lib.hid c0
      have YL := Lib.hid (HL.out y hmem)
      have YN := Lib.hid ((HR.out.on HB.out).nums y hmem)
      have HY := Lib.hid (show ∀ h : t < L.length, y = L[t] from fun _ => hy)
      have LT := Lib.hid hlt
      subst hp
      clear c0 hmem hy hlt
      go_wp2_with (refine wpl_loadV rfl _ rfl _ rfl y C0.out ?_)
      refine (rvalid_any n y wr YL.out YN.out).mono ?_
      rintro e w1 ⟨rfl, hb⟩
      have HB1 := Lib.hid (below_on HB.out hb)
      clear hb
      cases hv : validB n y
      · have HE := Lib.hid (show r = 2 by
          rw [RB.out, if_pos]
          rw [List.any_eq_true]
          exact ⟨y, by rw [HY.out LT.out]; exact List.getElem_mem LT.out, by rw [hv]; rfl⟩)
        go_wp2_with fail
        go_ret
        exact ⟨ret_int HE.out.symm, HB1.out⟩
      · have HF' := Lib.hid (show ∀ i, ∀ h : i < L.length, i < t + 1 → validB n L[i] = true from fun i h hi => by
          by_cases e : i = t
          · subst e; rw [← HY.out h]; exact hv
          · exact HF.out i h (by omega))
        go_wp2_with fail
        go_roundw
        case rel => exact ⟨t + 1, by go_num, by omega, HF', HB1⟩
        case measure => simp [intOf]; omega
    · have HE := Lib.hid (show r = 0 by
        rw [RB.out, if_neg]
        rw [List.any_eq_true]
        rintro ⟨y, hy, hv⟩
        obtain ⟨i, hi, rfl⟩ := List.getElem_of_mem hy
        rw [HF.out i hi (by have := HM.out; omega)] at hv
        simp at hv)
      go_wp2_with fail
      go_ret
      exact ⟨ret_int HE.out.symm, HB.out⟩
end Go.Proofs.YtefpaobboimakaaGreat

namespace Go.Proofs.YtefpaobboimakaaGreat
open Go.RowKit Go.Sort Go.Shelf

/-- The row of lines of package api while lists fills it. -/
structure RowV (w : World) (b n : Nat) (L : List AV) : Prop where
  at_ : ∀ t, ∀ h : t < L.length, AvAt w ⟨b, t * 3, none⟩ L[t]
  there : ∀ j, j < n * 3 → (w.cell? ⟨b, j, none⟩).isSome = true ∧ w.frozen? ⟨b, j, none⟩ = false
  nums : ∀ y ∈ L, ∃ g, y.q = some ⟨g, 0, none⟩ ∧ b < g ∧ Rd1 w y.q y.a
  lt : b < w.heap.size

theorem RowV.on {w w' : World} {b n : Nat} {L : List AV} (h : RowV w b n L) (hb : Below w.heap.size w w') : RowV w' b n L :=
  ⟨fun t ht => (h.at_ t ht).on hb, fun j hj => by rw [hb.cell (p := ⟨b, j, none⟩) h.lt, hb.frozen (p := ⟨b, j, none⟩) h.lt]; exact h.there j hj,
    fun y hy => by obtain ⟨g, e, n, r⟩ := h.nums y hy; exact ⟨g, e, n, r.on hb⟩, Nat.lt_of_lt_of_le h.lt hb.size⟩

theorem Rd1.setCells {w : World} {g b o : Nat} {a : List Int} (h : Rd1 w (some ⟨g, 0, none⟩) a) (hne : g ≠ b) (vs : List Value) : Rd1 (w.setCells b o vs) (some ⟨g, 0, none⟩) a := fun t ht => by
  obtain ⟨p, e, c⟩ := h t ht
  refine ⟨p, e, ?_⟩
  cases e
  rw [addr_add] at c ⊢
  rw [World.cell?_setCells_out b vs o w _ (fun e _ => absurd e hne)]
  exact c

theorem RowV.put {w : World} {b n : Nat} {L : List AV} (h : RowV w b n L) {y : AV} (hn : L.length < n) {g : Nat} (hq : y.q = some ⟨g, 0, none⟩) (hg : b < g) (hr : Rd1 w y.q y.a) : RowV (w.setCells b (L.length * 3) y.cells) b n (L ++ [y]) := by
  refine ⟨fun t ht => ?_, fun j hj => ?_, fun z hz => ?_, ?_⟩
  · by_cases e : t < L.length
    · rw [List.getElem_append_left e]
      intro j v hv
      have hj : j < 3 := by
        by_cases q : j < 3
        · exact q
        · rw [List.getElem?_eq_none (by show (3 : Nat) ≤ j; omega)] at hv; cases hv
      have := h.at_ t e j v hv
      rw [addr_add] at this ⊢
      rw [World.cell?_setCells_out b y.cells (L.length * 3) w _ (fun _ _ => Or.inl (by show t * 3 + j < L.length * 3; omega))]
      exact this
    · have e2 : t = L.length := by simp at ht; omega
      subst e2
      rw [List.getElem_append_right (Nat.le_refl _)]
      simp only [Nat.sub_self, List.getElem_cons_zero]
      intro j v hv
      have hj : j < y.cells.length := (List.getElem?_eq_some_iff.1 hv).1
      have hj3 : j < 3 := hj
      rw [addr_add, World.cell?_setCells_in b y.cells (L.length * 3) w (fun j hj => (h.there _ (by have : j < 3 := hj; omega)).1) j hj, ← hv, List.getElem?_eq_getElem hj]
  · rw [World.frozen?_setCells]
    exact ⟨World.isSome_setCells b _ _ _ _ (h.there j hj).1, (h.there j hj).2⟩
  · rcases List.mem_append.1 hz with q | q
    · obtain ⟨g', e, n', r⟩ := h.nums z q
      exact ⟨g', e, n', by rw [e] at r ⊢; exact r.setCells (by omega) _⟩
    · rw [List.mem_singleton] at q
      subst q
      exact ⟨g, hq, hg, by rw [hq] at hr ⊢; exact hr.setCells (by omega) _⟩
  · exact Nat.lt_of_lt_of_le h.lt (Below.setCells (Nat.zero_le b) y.cells (L.length * 3) w (Below.refl 0 w)).size

theorem RowV.rd {w : World} {b n : Nat} {L : List AV} (h : RowV w b n L) : RdV w (some ⟨b, 0, none⟩) L :=
  ⟨fun t ht => ⟨_, rfl, by rw [addr_add, Nat.zero_add]; exact h.at_ t ht⟩, fun y hy => by obtain ⟨_, _, _, r⟩ := h.nums y hy; exact r⟩

theorem OwnI.base {w : World} {B B' g cap : Nat} {a : List Int} (h : OwnI w B g cap a) (hb : B' ≤ B) : OwnI w B' g cap a :=
  ⟨h.1, h.2.imp id fun ⟨g, cap, cur, h1, h2, h3⟩ => ⟨g, cap, cur, h1, Nat.le_trans hb h2, h3⟩⟩

theorem av_info : (Tryz.prog.info? 25).map (fun i => (i.zero, i.size, i.bytes)) = some (some (.agg av0.cs), 3, 40) := by kernel_rfl

/-- 'make([]api.Line, n)'. -/
theorem make_avs (w : World) (n : Nat) (hn : n ≤ 100000) : ∃ cur : Array Value, (Instr.makeSlice 22 (.int .i64 n) (.int .i64 n)).run Tryz.prog w = .ok (.slice (some ⟨w.heap.size, 0, none⟩) n n) (w.alloc (.cells cur 25))
    ∧ RowV (w.alloc (.cells cur 25)) w.heap.size n [] := by
  obtain ⟨i0, hi, hz0, hz1, hz2⟩ := info_parts av_info
  have hr := run_make (P := Tryz.prog) w 22 25 i0 _ Tryz.underlying22 hi hz0 .i64 .i64 (n : Int) (n : Int) (by omega) (by omega) (by rw [hz2]; omega) (by omega)
  simp only [Int.toNat_natCast] at hr
  rw [hz1] at hr
  refine ⟨_, hr, fun t ht => by simp at ht, fun j hj => ?_, fun y hy => by simp at hy, by simp⟩
  have hb := heap_alloc_last w (.cells (madeCells av0.cs (n * 3)) 25)
  have e : (Value.agg av0.cs).cells = av0.cs := rfl
  rw [e]
  refine ⟨?_, frozen_of_row _ _ _ _ _ hb⟩
  rw [cell_of_row _ _ _ _ _ _ hb, Array.getElem?_eq_getElem (by rw [size_madeCells]; exact hj)]
  rfl

theorem yld_wholeA {o : Oper} {ac : Act} {w : World} (s : Operand) (ho : o.op = .slice 80 s none none none) (b : Nat) (hs : ac.eval s = .pointer (some ⟨b, 0, none⟩)) :
    (execOp ac.eval o).run Tryz.prog w = .ok (.value (.slice (some ⟨b, 0, none⟩) 6 6)) w := by
  have h := run_wholeA b w
  unfold execOp
  simp only [ho, hs, Option.map_none, Sem.run_bind, h, Result.andThen_ok, Sem.run_pure]

/-- Are these the lines of l, with the coefficients that ch chooses? -/
def IsCh (ch : List Int → List Int) (l : List Ln) (L : List AV) : Prop := L.map (fun y => (y.a, y.b, y.s)) = l.map fun x => (ch x.a, x.b, x.s)

theorem IsCh.snoc {ch : List Int → List Int} {l : List Ln} {L : List AV} {t : Nat} (ht : t < l.length) (h : IsCh ch (l.take t) L) {y : AV} (e1 : y.a = ch l[t].a) (e2 : y.b = l[t].b) (e3 : y.s = l[t].s) : IsCh ch (l.take (t + 1)) (L ++ [y]) := by
  unfold IsCh at h ⊢
  rw [List.take_succ_eq_append_getElem ht, List.map_append, List.map_append, h]
  simp [e1, e2, e3]

set_option maxRecDepth 100000 in
set_option maxHeartbeats 4000000 in
theorem lists_any (l : List Ln) (ao : Option Addr) (cap : Nat) (fv : Value) (ch : List Int → List Int) (w : World) (hl : l.length ≤ 100000) (hR : RdL w ao l) (h6 : ∀ x ∈ l, x.a.length = 6) (hC : Chooses fv w ch) :
    Calls Tryz.prog 43 #[.slice ao l.length cap, fv] w (fun e w' => ∃ b L, e = .returned (.slice (some ⟨b, 0, none⟩) l.length l.length) ∧ IsCh ch l L ∧ RowV w' b l.length L ∧ w.heap.size ≤ b ∧ Below w.heap.size w w') := by
  obtain ⟨kf, lb, rfl, eg, hC⟩ := hC
  have HC := Lib.hid hC
  have hz := ln_zero
  have HR := Lib.hid hR
  have H6 := Lib.hid h6
  obtain ⟨cur, hmk, hrw⟩ := make_avs w l.length hl
  obtain ⟨n, hn⟩ : ∃ n, n = l.length := ⟨_, rfl⟩
  have HN := Lib.hid hn
  have hle : n ≤ 100000 := by omega
  obtain ⟨w0, hw0⟩ : ∃ w0, w0 = w.alloc (.cells cur 25) := ⟨_, rfl⟩
  rw [← hw0] at hmk hrw
  have W0 := Lib.hid hrw
  have E0 := Lib.hid (show Below w.heap.size w w0 by rw [hw0]; exact one_more _)
  obtain ⟨b, hb⟩ : ∃ b, b = w.heap.size := ⟨_, rfl⟩
  have HB0 := Lib.hid hb
  rw [← hn] at hmk
  rw [← hn] at W0
  rw [← hn]
  rw [← hb] at hmk W0
  clear hl hR h6 hn hrw hw0 hb hC
  go_enter Tryz.func43, Tryz.ntmps43
  go_wp2_with (rw [hmk])
  go_loopw [13] (fun s wr => ∃ t : Nat, s = .int .i64 t ∧ t ≤ n ∧ Hid (∃ L, L.length = t ∧ IsCh ch (l.take t) L ∧ RowV wr b n L) ∧ Hid (Below w.heap.size w wr)) (fun s _ => n - (intOf s).toNat)
  case atStart => exact ⟨0, rfl, by omega, Lib.hid ⟨[], rfl, rfl, W0.out⟩, E0⟩
  case round =>
    clear hmk
    obtain ⟨t, rfl, ht, HL, HB⟩ := hrel
    obtain ⟨L, hLt, hIs, hRow⟩ := HL.out
    have HRow := Lib.hid hRow
    have HIs := Lib.hid hIs
    have HLt := Lib.hid hLt
    clear HL hLt hIs hRow
    by_cases htn : t < n
    · have hlt : t < l.length := by have := HN.out; omega
      obtain ⟨p, hp, hla⟩ := HR.out.on HB.out t hlt
      obtain ⟨x, hx⟩ : ∃ x, x = l[t] := ⟨_, rfl⟩
      rw [← hx] at hla
      have LA := Lib.hid hla
      have X6 := Lib.hid (show x.a.length = 6 by rw [hx]; exact H6.out _ (List.getElem_mem _))
      have SN := Lib.hid (fun (y : AV) (e1 : y.a = ch x.a) (e2 : y.b = x.b) (e3 : y.s = x.s) => HIs.out.snoc hlt (e1.trans (by rw [hx])) (e2.trans (by rw [hx])) (e3.trans (by rw [hx])))
      have N1 := Lib.hid (show Bk (wr.alloc (.cells ln0.cs 82)) wr.heap.size ln0 from Bk.made wr ln0 rfl)
      have N2 := Lib.hid (N1.out.setRow X6.out)
      have B2 := Lib.hid (Below.setRow ((Below.refl wr.heap.size wr).alloc (Nat.le_refl _) (.cells ln0.cs 82)) (b := wr.heap.size) (Nat.le_refl _) x.cs)
      clear hla hx hlt
      subst hp
      go_upto_region 5 with (first | refine wpl_loadP rfl _ rfl _ rfl x LA.out ?_ | refine wpl_store rfl _ _ rfl _ _ rfl rfl _ N1.out X6.out ?_)
      generalize (wr.alloc (.cells ln0.cs 82)).setRow wr.heap.size x.cs = w1 at *
      have R1 := Lib.hid (HRow.out.on B2.out)
      have B1 := Lib.hid (below_on HB.out B2.out)
      obtain ⟨q, hq⟩ : ∃ q, q = wr.heap.size := ⟨_, rfl⟩
      have QB := Lib.hid (show q ≠ b by rw [hq]; have := HRow.out.lt; omega)
      rw [← hq] at N2 ⊢
      clear N1 B2 HRow HB LA hq HIs
      have C6 := Lib.hid N2.out.num
      have C7 := Lib.hid N2.out.str
      have KS := Lib.hid (show ∀ W, Below w1.heap.size w1 W → (W.cell? ⟨q, 6, none⟩ = some (.int .i64 x.b) ∧ W.cell? ⟨q, 7, none⟩ = some (.bool x.s)) from fun W h => ⟨kept h C6.out, kept h C7.out⟩)
      obtain ⟨wc, hwc⟩ : ∃ wc, wc = w1.drew := ⟨_, rfl⟩
      have Bc := Lib.hid (show Below w1.heap.size w1 wc by rw [hwc]; exact (Below.refl _ _).drew)
      have Bk0 := Lib.hid (show w1.heap.size ≤ wc.heap.size from Bc.out.size)
      refine wp_region_held_drew (S := (fun W => (W.cell? ⟨q, 6, none⟩ = some (.int .i64 x.b) ∧ W.cell? ⟨q, 7, none⟩ = some (.bool x.s)))) (by kernel_rfl) (by rw [← hwc]; exact KS.out _ Bc.out) (fun h0 => ?_)
      rw [← hwc] at h0 ⊢
      clear hwc
      refine wpAnyH_take (i := 0) (v := ?v1) rfl (by kernel_rfl) (by kernel_rfl) (by kernel_rfl) (fun _ _ _ h => h) (Or.inl ⟨by rfl, ?hy1⟩) h0 ?rest1
      case hy1 => (intro w' hS; (try dsimp only at hS); go_simp; try (with_reducible rfl))
      simp only [Act.put, List.getElem_toArray, List.getElem_cons_zero, List.setIfInBounds_toArray, List.set_cons_zero, List.set_cons_succ]
      refine wpAnyH_take (i := 1) (v := ?v2) rfl (by kernel_rfl) (by kernel_rfl) (by kernel_rfl) (fun _ _ _ h => h) (Or.inl ⟨by rfl, ?hy2⟩) h0 ?rest2
      case hy2 => (intro w' hS; (try dsimp only at hS); go_simp; try (with_reducible rfl))
      simp only [Act.put, List.getElem_toArray, List.getElem_cons_zero, List.getElem_cons_succ, List.setIfInBounds_toArray, List.set_cons_zero, List.set_cons_succ]
      refine wpAnyH_take (i := 2) (v := ?v3) rfl (by kernel_rfl) (by kernel_rfl) (by kernel_rfl) (fun _ _ _ h => h) (Or.inl ⟨by rfl, ?hy3⟩) h0 ?rest3
      case hy3 => (intro w' hS; (try dsimp only at hS); go_simp; try (with_reducible rfl))
      simp only [Act.put, List.getElem_toArray, List.getElem_cons_zero, List.getElem_cons_succ, List.setIfInBounds_toArray, List.set_cons_zero, List.set_cons_succ]
      refine wpAnyH_take (i := 3) (v := ?v4) rfl (by kernel_rfl) (by kernel_rfl) (by kernel_rfl) (fun _ _ _ h => h) (Or.inl ⟨by rfl, ?hy4⟩) h0 ?rest4
      case hy4 => (intro w' hS; (try dsimp only at hS); go_simp; try (with_reducible rfl))
      simp only [Act.put, List.getElem_toArray, List.getElem_cons_zero, List.getElem_cons_succ, List.setIfInBounds_toArray, List.set_cons_zero, List.set_cons_succ]
      refine wpAnyH_take (i := 4) (v := (.slice (some ⟨q, 0, none⟩) 6 6)) rfl (by kernel_rfl) (by kernel_rfl) (by kernel_rfl) (fun _ _ _ h => h) (Or.inl ⟨by rfl, (fun w' _ => yld_wholeA _ rfl q rfl)⟩) h0 ?_
      simp only [Act.put, List.getElem_toArray, List.getElem_cons_zero, List.getElem_cons_succ, List.setIfInBounds_toArray, List.set_cons_zero, List.set_cons_succ]
      refine wpAnyH_take (i := 7) (v := ?v6) rfl (by kernel_rfl) (by kernel_rfl) (by kernel_rfl) (fun _ _ _ h => h) (Or.inl ⟨by rfl, ?hy6⟩) h0 ?rest6
      case hy6 => (intro w' hS; (try dsimp only at hS); go_simp; try (with_reducible rfl))
      simp only [Act.put, List.getElem_toArray, List.getElem_cons_zero, List.getElem_cons_succ, List.setIfInBounds_toArray, List.set_cons_zero, List.set_cons_succ]
      refine wpAnyH_take (i := 8) (v := ?v7) rfl (by kernel_rfl) (by kernel_rfl) (by kernel_rfl) (fun _ _ _ h => h) (Or.inl ⟨by rfl, ?hy7⟩) h0 ?rest7
      case hy7 => (intro w' hS; (try dsimp only at hS); go_simp; try (with_reducible rfl))
      simp only [Act.put, List.getElem_toArray, List.getElem_cons_zero, List.getElem_cons_succ, List.setIfInBounds_toArray, List.set_cons_zero, List.set_cons_succ]
      refine wpAnyH_take (i := 9) (v := ?v8) rfl (by kernel_rfl) (by kernel_rfl) (by kernel_rfl) (fun _ _ _ h => h) (Or.inl ⟨by rfl, ?hy8⟩) h0 ?rest8
      case hy8 => (intro w' hS; (try dsimp only at hS); go_simp; try (with_reducible rfl))
      simp only [Act.put, List.getElem_toArray, List.getElem_cons_zero, List.getElem_cons_succ, List.setIfInBounds_toArray, List.set_cons_zero, List.set_cons_succ]
      refine wpAnyH_take (i := 10) (v := ?v9) rfl (by kernel_rfl) (by kernel_rfl) (by kernel_rfl) (fun _ _ _ h => h) (Or.inl ⟨by rfl, ?hy9⟩) h0 ?rest9
      case hy9 => (intro w' hS; (try dsimp only at hS); go_simp; try (with_reducible rfl))
      simp only [Act.put, List.getElem_toArray, List.getElem_cons_zero, List.getElem_cons_succ, List.setIfInBounds_toArray, List.set_cons_zero, List.set_cons_succ]
      refine wpAnyH_ready (rs := [5]) (by kernel_rfl) (by simp) (AllReadyH.cons rfl (fun K hK => ?_) AllReadyH.nil)
      rw [if_pos (by rfl)]
      go_simp
      have hcl := cloneI_any x.a q 6 wc (by rw [X6.out]; omega) (fun j hj => kept Bc.out (N2.out.at (by have := X6.out; omega)))
      rw [X6.out] at hcl
      refine hcl.mono ?_
      clear hcl
      rintro e wd ⟨g, cg, rfl, ho, hb⟩
      have OI := Lib.hid ho
      have GQ := Lib.hid (show w1.heap.size ≤ g from Nat.le_trans Bc.out.size ho.lt.1)
      have Bc := Lib.hid (below_on Bc.out hb)
      clear ho hb
      go_simp
      refine hK.out _ _ (KS.out _ Bc.out) (fun h0_1 => ?_)
      clear hK K h0
      refine wpAnyH_ready (rs := [6]) (by kernel_rfl) (by simp) (AllReadyH.cons rfl (fun K hK => ?_) AllReadyH.nil)
      rw [if_pos (by rfl)]
      go_simp
      have hch := HC.out wd (below_on B1.out Bc.out) g cg x.a X6.out (OwnI.base OI.out (Nat.le_trans B1.out.size (Nat.le_trans (Bk0.out) (Nat.le_refl _))))
      refine hch.mono ?_
      clear hch
      rintro e we ⟨m, c', rfl, hm, hr, hgb⟩
      have Bc := Lib.hid (Bc.out.trans (hgb.to_below GQ.out Bc.out.size))
      have RR := Lib.hid hr
      have MM := Lib.hid hm
      clear hm hr hgb
      go_simp
      refine hK.out _ _ (KS.out _ Bc.out) (fun h0_2 => ?_)
      clear hK K h0_1
      refine wpAnyH_take (i := 11) (v := ?v10) rfl (by kernel_rfl) (by kernel_rfl) (by kernel_rfl) (fun _ _ _ h => h) (Or.inl ⟨by rfl, ?hy10⟩) h0_2 ?rest10
      case hy10 => (intro w' hS; (try dsimp only at hS); go_simp; try (with_reducible rfl))
      simp only [Act.put, List.getElem_toArray, List.getElem_cons_zero, List.getElem_cons_succ, List.setIfInBounds_toArray, List.set_cons_zero, List.set_cons_succ]
      refine wpAnyH_take (i := 12) (v := ?v11) rfl (by kernel_rfl) (by kernel_rfl) (by kernel_rfl) (fun _ _ _ h => h) (Or.inl ⟨by rfl, ?hy11⟩) h0_2 ?rest11
      case hy11 => (intro w' hS; (try dsimp only at hS); go_simp; try (with_reducible rfl))
      simp only [Act.put, List.getElem_toArray, List.getElem_cons_zero, List.getElem_cons_succ, List.setIfInBounds_toArray, List.set_cons_zero, List.set_cons_succ]
      refine wpAnyH_ready (rs := [13]) (by kernel_rfl) (by simp) (AllReadyH.cons rfl (fun K hK => ?_) AllReadyH.nil)
      rw [if_pos (by rfl)]
      obtain ⟨y, hy⟩ : ∃ y : AV, y = ⟨some ⟨g, 0, none⟩, c', ch x.a, x.b, x.s⟩ := ⟨_, rfl⟩
      have RW := Lib.hid (R1.out.on Bc.out)
      have HT := Lib.hid (show we.there b (t * 3) y.cs.size from fun j hj => RW.out.there (t * 3 + j) (by have : j < 3 := hj; omega))
      have ZY := Lib.hid (show RowV (we.setCells b (t * 3) y.cells) b n (L ++ [y]) by rw [← HLt.out]; exact RW.out.put (by rw [HLt.out]; exact htn) (g := g) (by rw [hy]) (by have := R1.out.lt; have := GQ.out; omega) (by rw [hy]; intro j hj; exact ⟨_, rfl, by rw [addr_add, Nat.zero_add]; exact RR.out j hj⟩))
      have SY := Lib.hid (show IsCh ch (l.take (t + 1)) (L ++ [y]) from SN.out y (by rw [hy]) (by rw [hy]) (by rw [hy]))
      have B9 := Lib.hid (show Below w.heap.size w (we.setCells b (t * 3) y.cells) from Below.setCells (by have := HB0.out; omega) y.cells (t * 3) _ (below_on B1.out Bc.out))
      have KZ := Lib.hid (show (we.setCells b (t * 3) y.cells).cell? ⟨q, 6, none⟩ = some (.int .i64 x.b) ∧ (we.setCells b (t * 3) y.cells).cell? ⟨q, 7, none⟩ = some (.bool x.s) from ⟨by rw [World.cell?_setCells_out b y.cells (t * 3) we _ (fun e _ => absurd e QB.out)]; exact (KS.out _ Bc.out).1, by rw [World.cell?_setCells_out b y.cells (t * 3) we _ (fun e _ => absurd e QB.out)]; exact (KS.out _ Bc.out).2⟩)
      have HYL := Lib.hid (show (L ++ [y]).length = t + 1 by rw [List.length_append, HLt.out]; rfl)
      rw [MM.out]
      refine wp_store_mid _ _ _ rfl b (t * 3) y.cs rfl (by rw [hy]; rfl) HT.out av_size (by simp [AV.cs, AV.cells, Value.oneCell']) ?_
      clear hy
      refine hK.out _ _ KZ.out (fun h0_3 => ?_)
      clear hK K h0_2
      try simp only [List.set_cons_succ]
      try simp only [List.set_cons_zero]
      refine wpAnyH_done (by kernel_rfl) ?_ _
      go_wp2_with fail
      go_roundw
      case rel => exact ⟨t + 1, by go_num, by omega, Lib.hid ⟨_, HYL.out, SY.out, ZY.out⟩, B9⟩
      case measure => simp [intOf]; omega
    · have e : l.take t = l := List.take_of_length_le (by have := HN.out; omega)
      rw [e] at HIs
      clear e
      go_wp2_with fail
      go_ret
      exact ⟨b, L, rfl, HIs.out, HRow.out, by rw [HB0.out]; exact Nat.le_refl _, HB.out⟩
end Go.Proofs.YtefpaobboimakaaGreat

namespace Go.Proofs.YtefpaobboimakaaGreat
open Go.RowKit Go.Sort Go.Shelf

def woE (n : Int) (L : List AV) (I : Int) : Int := if 0 ≤ I ∧ I < n then leaveE (L.map ofV) I.toNat else 2

def WoR (n : Nat) (L : List AV) (I : Int) (W : World) (v : Value) (A : World) : Prop :=
  ∃ b Lr, v = .slice (some ⟨b, 0, none⟩) (leaveL (L.map ofV) I.toNat).length (leaveL (L.map ofV) I.toNat).length ∧ IsCh (chW n I.toNat) (leaveL (L.map ofV) I.toNat) Lr ∧ RowV A b (leaveL (L.map ofV) I.toNat).length Lr ∧ W.heap.size ≤ b

theorem RowV.aside {w : World} {b n : Nat} {L : List AV} (h : RowV w b n L) {k : Nat} (hk : k < b) (v : Value) : RowV (w.setCell ⟨k, 0, none⟩ v) b n L := by
  have far : ∀ p : Addr, p.block ≠ k → (w.setCell ⟨k, 0, none⟩ v).cell? p = w.cell? p := fun p hp => World.cell?_setCell_other w ⟨k, 0, none⟩ p v (fun e => hp (by rw [← e]))
  refine ⟨fun t ht j u hu => ?_, fun j hj => ?_, fun y hy => ?_, ?_⟩
  · have := h.at_ t ht j u hu
    rw [far _ (by rw [addr_add]; show b ≠ k; omega)]; exact this
  · rw [World.frozen?_setCell, far _ (by show b ≠ k; omega)]; exact h.there j hj
  · obtain ⟨g, e, hg, r⟩ := h.nums y hy
    refine ⟨g, e, hg, fun t ht => ?_⟩
    obtain ⟨p, e2, c⟩ := r t ht
    refine ⟨p, e2, ?_⟩
    have e3 : p = ⟨g, 0, none⟩ := by rw [e] at e2; injection e2 with e2; exact e2.symm
    rw [far _ (by rw [e3, addr_add]; show g ≠ k; omega)]; exact c
  · have := h.lt; simpa using this

theorem WoR.aside {n : Nat} {L : List AV} {I : Int} {W A : World} {v : Value} (h : WoR n L I W v A) {k : Nat} (hk : k < W.heap.size) (y : Value) : WoR n L I W v (A.setCell ⟨k, 0, none⟩ y) := by
  obtain ⟨b, Lr, e, h1, h2, h3⟩ := h
  exact ⟨b, Lr, e, h1, h2.aside (by omega) y, h3⟩

theorem chW_enters : ∀ args w, (callFunc 46 args).run Tryz.prog w = .ok (.enter 46 args) w := enters_of Tryz.func46 (by kernel_rfl) rfl

set_option maxRecDepth 100000 in
set_option maxHeartbeats 4000000 in
theorem without1_any (n : Nat) (I : Int) (L : List AV) (ao : Option Addr) (cap pi pn pl : Nat) (w : World) (hc : chkP n L = 0) (hR : RdV w ao L) (c0 : w.cell? ⟨pi, 0, none⟩ = some (.int .i64 I)) (c1 : w.cell? ⟨pn, 0, none⟩ = some (.int .i64 n)) (c2 : w.cell? ⟨pl, 0, none⟩ = some (.slice ao L.length cap)) :
    Calls Tryz.prog 41 #[.pointer (some ⟨pi, 0, none⟩), .pointer (some ⟨pn, 0, none⟩), .pointer (some ⟨pl, 0, none⟩)] w fun e W' =>
      (woE n L I = 0 ∧ ∃ v, e = .returned v ∧ WoR n L I w v W' ∧ Below w.heap.size w W') ∨ (woE n L I ≠ 0 ∧ e = .panicked (pan (woE n L I)) ∧ Below w.heap.size w W') := by
  have hmf : ∀ (fn : Fn) (first cap : Array Value) (w : World), (Instr.makeFunc fn first cap).run Tryz.prog w = .ok (.func fn first cap) w := fun _ _ _ _ => rfl
  obtain ⟨⟨_, hn⟩, hl, hv⟩ := chk_valid hc
  obtain ⟨k, hk⟩ : ∃ k, k = L.length := ⟨_, rfl⟩
  rw [← hk] at c2
  by_cases h1 : I < 0
  · have HE := Lib.hid (show woE n L I = 2 by unfold woE; rw [if_neg (by omega)])
    clear hc hR hl hv hk
    go_enter Tryz.func41, Tryz.ntmps41
    go_wp2_with fail
    refine (demand_any false w).mono ?_
    rintro e w2 ⟨rfl, rfl⟩
    go_wp2_with fail
    exact And.intro rfl (Or.inr ⟨by rw [HE.out]; decide, by rw [HE.out], Below.refl _ _⟩)
  · by_cases h2 : I < n
    · obtain ⟨i, rfl⟩ : ∃ i : Nat, I = i := ⟨I.toNat, by omega⟩
      have hi : i < n := by omega
      have HE := Lib.hid (show woE n L i = leaveE (L.map ofV) i by unfold woE; rw [if_pos ⟨by omega, by omega⟩, Int.toNat_natCast])
      have hkl : k = (L.map ofV).length := by rw [hk]; simp
      have LI := Lib.hid (fun W (h : Below w.heap.size w W) => lines_any L ao cap W (by omega) (hR.on h) (fun y hy => by have := valid_len (hv y hy); omega))
      have LV := Lib.hid (fun W a c (h : RdL W a (L.map ofV)) => leave_any (L.map ofV) a c i W (by simp; omega) (by omega) h (fun x hx => by
        obtain ⟨y, hy, rfl⟩ := List.mem_map.1 hx
        exact ofV_rg (by omega) (hv y hy)))
      have RG := Lib.hid (show leaveE (L.map ofV) i = 0 → (leaveL (L.map ofV) i).length ≤ 100000 ∧ ∀ x ∈ leaveL (L.map ofV) i, x.a.length = 6 from fun h => by
        refine ⟨?_, fun x hx => (leaveL_rg (fun x hx => by
          obtain ⟨y, hy, rfl⟩ := List.mem_map.1 hx
          exact ofV_rg (n := n) (by omega) (hv y hy)) h x hx).len⟩
        unfold leaveL
        exact tidyL_len (by have := leaveE_len h; omega) (by omega))
      rw [← hkl] at LV
      rw [← hk] at LI
      have KL := Lib.hid hkl
      have C0 := Lib.hid c0
      have C1 := Lib.hid c1
      have C2 := Lib.hid c2
      have CH := Lib.hid (show ∀ W, Below w.heap.size w W → Chooses (.func (.func 46) #[] #[.pointer (some ⟨pn, 0, none⟩), .pointer (some ⟨pi, 0, none⟩)]) W (chW n i) from fun W hW =>
        ⟨_, _, rfl, chW_enters, fun V hV g cg a ha ho => chW_any n i g cg pn pi a W.heap.size V ha (by omega) hi ho (kept hV (kept hW C1.out)) (kept hV (kept hW C0.out))
          (by have h3 := World.block_lt_of_cell? W _ (kept hW C1.out); have h4 := ho.lt; simp only at h3; omega) (by have h3 := World.block_lt_of_cell? W _ (kept hW C0.out); have h4 := ho.lt; simp only at h3; omega)⟩)
      have WR := Lib.hid (show ∀ (v : Value) (A : World) b Lr, v = .slice (some ⟨b, 0, none⟩) (leaveL (L.map ofV) i).length (leaveL (L.map ofV) i).length → IsCh (chW n i) (leaveL (L.map ofV) i) Lr → RowV A b (leaveL (L.map ofV) i).length Lr → w.heap.size ≤ b → WoR n L i w v A from fun v A b Lr e q1 q2 q3 => ⟨b, Lr, e, q1, q2, q3⟩)
      generalize L.map ofV = l at *
      clear hc hR hl hv hk hkl
      go_enter Tryz.func41, Tryz.ntmps41
      go_wp2_with fail
      refine (demand_any true w).mono ?_
      rintro e w2 ⟨rfl, rfl⟩
      go_upto_region 2 with (fail)
      have KS := Lib.hid (show ∀ W, Below w2.heap.size w2 W → (W.cell? ⟨pi, 0, none⟩ = some (.int .i64 i) ∧ W.cell? ⟨pn, 0, none⟩ = some (.int .i64 n) ∧ W.cell? ⟨pl, 0, none⟩ = some (.slice ao k cap)) from fun W h => ⟨kept h C0.out, kept h C1.out, kept h C2.out⟩)
      obtain ⟨wc, hwc⟩ : ∃ wc, wc = w2.drew := ⟨_, rfl⟩
      have Bc := Lib.hid (show Below w2.heap.size w2 wc by rw [hwc]; exact (Below.refl _ _).drew)
      refine wp_region_held_drew (S := (fun W => (W.cell? ⟨pi, 0, none⟩ = some (.int .i64 i) ∧ W.cell? ⟨pn, 0, none⟩ = some (.int .i64 n) ∧ W.cell? ⟨pl, 0, none⟩ = some (.slice ao k cap)))) (by kernel_rfl) (by rw [← hwc]; exact KS.out _ Bc.out) (fun h0 => ?_)
      rw [← hwc] at h0 ⊢
      clear hwc
      refine wpAnyH_take (i := 0) (v := ?v1) rfl (by kernel_rfl) (by kernel_rfl) (by kernel_rfl) (fun _ _ _ h => h) (Or.inl ⟨by rfl, ?hy1⟩) h0 ?rest1
      case hy1 => (intro w' hS; (try dsimp only at hS); go_simp; try (with_reducible rfl))
      simp only [Act.put, List.getElem_toArray, List.getElem_cons_zero, List.setIfInBounds_toArray, List.set_cons_zero, List.set_cons_succ]
      refine wpAnyH_take (i := 2) (v := ?v2) rfl (by kernel_rfl) (by kernel_rfl) (by kernel_rfl) (fun _ _ _ h => h) (Or.inl ⟨by rfl, ?hy2⟩) h0 ?rest2
      case hy2 => (intro w' hS; (try dsimp only at hS); go_simp; try (with_reducible rfl))
      simp only [Act.put, List.getElem_toArray, List.getElem_cons_zero, List.getElem_cons_succ, List.setIfInBounds_toArray, List.set_cons_zero, List.set_cons_succ]
      refine wpAnyH_take (i := 4) (v := ?v3) rfl (by kernel_rfl) (by kernel_rfl) (by kernel_rfl) (fun _ _ _ h => h) (Or.inl ⟨by rfl, ?hy3⟩) h0 ?rest3
      case hy3 => (intro w' hS; (try dsimp only at hS); go_simp; try (with_reducible rfl))
      simp only [Act.put, List.getElem_toArray, List.getElem_cons_zero, List.getElem_cons_succ, List.setIfInBounds_toArray, List.set_cons_zero, List.set_cons_succ]
      refine wpAnyH_ready (rs := [1]) (by kernel_rfl) (by simp) (AllReadyH.cons rfl (fun K hK => ?_) AllReadyH.nil)
      rw [if_pos (by rfl)]
      go_simp
      refine (LI.out wc Bc.out).mono ?_
      rintro e wc ⟨a1, d1, rfl, hr, hb⟩
      have R1 := Lib.hid hr
      clear hr
      rw [← KL.out]
      have Bc := Lib.hid (below_on Bc.out hb)
      clear hb
      go_simp
      refine hK.out _ _ (KS.out _ Bc.out) (fun h0_1 => ?_)
      clear hK K h0
      refine wpAnyH_ready (rs := [3]) (by kernel_rfl) (by simp) (AllReadyH.cons rfl (fun K hK => ?_) AllReadyH.nil)
      rw [if_pos (by rfl)]
      go_simp
      refine (LV.out wc a1 d1 R1.out).mono ?_
      rintro e wc (⟨he, a3, d3, rfl, hr, hb⟩ | ⟨he, rfl, hb⟩)
      rotate_left
      · exact And.intro rfl (Or.inr ⟨by rw [HE.out]; exact he, by rw [HE.out], below_on Bc.out hb⟩)
      have HZ := Lib.hid he
      have R3 := Lib.hid hr
      clear hr he
      have Bc := Lib.hid (below_on Bc.out hb)
      clear hb
      go_simp
      refine hK.out _ _ (KS.out _ Bc.out) (fun h0_2 => ?_)
      clear hK K h0_1
      refine wpAnyH_ready (rs := [5]) (by kernel_rfl) (by simp) (AllReadyH.cons rfl (fun K hK => ?_) AllReadyH.nil)
      rw [if_pos (by rfl)]
      go_simp
      refine (lists_any (leaveL l i) a3 d3 _ (chW n i) wc (RG.out HZ.out).1 R3.out (RG.out HZ.out).2 (CH.out wc Bc.out)).mono ?_
      have Z5 := Lib.hid Bc.out.size
      rintro e wc ⟨b5, L5, rfl, q1, q2, q3, hb⟩
      have W5 := Lib.hid (WR.out _ _ b5 L5 rfl q1 q2 (Nat.le_trans Z5.out q3))
      clear q1 q2 q3
      have Bc := Lib.hid (below_on Bc.out hb)
      clear hb
      go_simp
      refine hK.out _ _ (KS.out _ Bc.out) (fun h0_3 => ?_)
      clear hK K h0_2
      refine wpAnyH_take (i := 6) (v := ?v4) rfl (by kernel_rfl) (by kernel_rfl) (by kernel_rfl) (fun _ _ _ h => h) (Or.inl ⟨by rfl, ?hy4⟩) h0_3 ?rest4
      case hy4 => (intro w' hS; (try dsimp only at hS); go_simp; try (with_reducible rfl))
      simp only [Act.put, List.getElem_toArray, List.getElem_cons_zero, List.getElem_cons_succ, List.setIfInBounds_toArray]
      try simp only [List.set_cons_succ]
      try simp only [List.set_cons_zero]
      refine wpAnyH_done (by kernel_rfl) ?_ _
      go_wp2_with fail
      go_ret
      exact Or.inl ⟨by rw [HE.out]; exact HZ.out, _, rfl, W5.out, Bc.out⟩
    · have HE := Lib.hid (show woE n L I = 2 by unfold woE; rw [if_neg (by omega)])
      clear hc hR hl hv hk
      go_enter Tryz.func41, Tryz.ntmps41
      go_wp2_with fail
      refine (demand_any false w).mono ?_
      rintro e w2 ⟨rfl, rfl⟩
      go_wp2_with fail
      exact And.intro rfl (Or.inr ⟨by rw [HE.out]; decide, by rw [HE.out], Below.refl _ _⟩)
end Go.Proofs.YtefpaobboimakaaGreat
