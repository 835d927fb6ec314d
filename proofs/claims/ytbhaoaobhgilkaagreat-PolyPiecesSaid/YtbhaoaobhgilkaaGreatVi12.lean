/- Lines in walks that speak of rounds: loads, stores, slices of one line. -/
import Derived.Test.YtbhaoaobhgilkaaGreatVi10
import Derived.Test.YtbhaoaobhgilkaaGreatVi11

namespace Go.Proofs.YtbhaoaobhgilkaaGreat
open Go.RowKit Go.Sort Go.Shelf

variable {F : Fence} {n : Nat} {ops : Array Oper} {rest : List Oper} {o : Oper} {a : Act} {w : World} {Q : Exit → Act → World → Prop}

theorem semAt_of {ro : Option Nat} {ρ : Operand → Value} (h : ∀ c, o.op ≠ .defer c) : Oper.semAt ro ρ o = execOp ρ o := by
  cases ro with
  | none => rfl
  | some l => exact Oper.semAt_some l ρ o h

/-- An operation that is no call and no defer, whose run is known. -/
theorem wplI (hgd : o.guard = none) (hc : ∀ c, o.op ≠ .call c) (hd : ∀ c, o.op ≠ .defer c) {v : Value} {w' : World} (hr : (execOp a.eval o).run Tryz.prog w = .ok (.value v) w') (h : wpListIn F n Tryz.prog ops Q rest (a.put o.dst v) w') : wpListIn F n Tryz.prog ops Q (o :: rest) a w := by
  refine wpListIn_plain hgd fun K hK => ⟨fun f hf => ?_, ?_⟩
  · unfold Oper.about at hf
    cases ho : o.op with
    | call c => exact absurd ho (hc c)
    | _ => rw [ho] at hf; cases hf
  · rw [semAt_of hd, hr]
    exact hK _ _ h

theorem wplIs (hgd : o.guard = none) (hc : ∀ c, o.op ≠ .call c) (hd : ∀ c, o.op ≠ .defer c) {w' : World} (hr : (execOp a.eval o).run Tryz.prog w = .ok .skip w') (h : wpListIn F n Tryz.prog ops Q rest (a.put o.dst undef) w') : wpListIn F n Tryz.prog ops Q (o :: rest) a w := by
  refine wpListIn_plain hgd fun K hK => ⟨fun f hf => ?_, ?_⟩
  · unfold Oper.about at hf
    cases ho : o.op with
    | call c => exact absurd ho (hc c)
    | _ => rw [ho] at hf; cases hf
  · rw [semAt_of hd, hr]
    exact hK _ _ h

theorem inl_load (hgd : o.guard = none) (s : Operand) (ho : o.op = .load 82 s) (p : Addr) (hs : a.eval s = .pointer (some p)) (x : Ln) (hx : LnAt w p x) (h : wpListIn F n Tryz.prog ops Q rest (a.put o.dst (.agg x.cs)) w) : wpListIn F n Tryz.prog ops Q (o :: rest) a w :=
  wplI hgd (fun c e => by rw [ho] at e; cases e) (fun c e => by rw [ho] at e; cases e) (yld_loadP s ho p hs hx) h

theorem inl_store (hgd : o.guard = none) (s t : Operand) (ho : o.op = .store 82 s t) (b : Nat) (z : Ln) (hs : a.eval s = .pointer (some ⟨b, 0, none⟩)) (ht : a.eval t = .agg z.cs) (old : Ln) (hv : Bk w b old) (hz : z.a.length = 6)
    (h : wpListIn F n Tryz.prog ops Q rest (a.put o.dst undef) (w.setRow b z.cs)) : wpListIn F n Tryz.prog ops Q (o :: rest) a w := by
  refine wplIs hgd (fun c e => by rw [ho] at e; cases e) (fun c e => by rw [ho] at e; cases e) ?_ h
  have hr := run_storeVar_row (P := Tryz.prog) w b 82 82 old.cs z.cs hv.1 (by rw [Ln.size hz]; exact ln_size) (by rw [Ln.size hv.2, Ln.size hz]) z.one
  generalize z.cs = V at *
  unfold execOp
  simp only [ho, hs, ht, Instr.storeAt, Instr.sureAddr, Sem.run_bind, Sem.run_pure, Result.andThen_ok, hr]

theorem inl_bs1 (hgd : o.guard = none) (s : Operand) (ho : o.op = .buildSlice 66 1 #[(0, s)]) (x : Ln) (hs : a.eval s = .agg x.cs) (hx : x.a.length = 6)
    (h : wpListIn F n Tryz.prog ops Q rest (a.put o.dst (.slice (some ⟨w.heap.size, 0, none⟩) 1 1)) (w.alloc (.cells x.cs 82))) : wpListIn F n Tryz.prog ops Q (o :: rest) a w := by
  refine wplI hgd (fun c e => by rw [ho] at e; cases e) (fun c e => by rw [ho] at e; cases e) ?_ h
  have hv := run_bs1 x hx w
  generalize x.cs = V at *
  unfold execOp
  simp only [ho, List.map_toArray, List.map_cons, List.map_nil, hs, Sem.run_bind, Sem.run_pure, hv, Result.andThen_ok]

/-- What lies at a place lies there still, if its block has not turned. -/
theorem cell_keptK {S : Nat → Prop} {A B : World} (h : Kept S A B) {p : Addr} {v : Value} (hc : A.cell? p = some v) (hs : S p.block) : B.cell? p = some v := by
  have lt := World.block_lt_of_cell? A _ hc
  unfold World.cell? at hc ⊢
  rw [h.block _ lt hs]; exact hc

theorem LnAt.keptK {S : Nat → Prop} {A B : World} (h : Kept S A B) {p : Addr} {x : Ln} (hx : LnAt A p x) (hs : ∀ j, S (p.add j).block) : LnAt B p x := ⟨hx.1, fun j v hv => cell_keptK h (hx.2 j v hv) (hs j)⟩

theorem add_block (p : Addr) (j : Nat) : (p.add j).block = p.block := by unfold Addr.add; split <;> rfl

/-- A list that can be read, in blocks that stay. -/
structure RdK (w : World) (S : Nat → Prop) (ao : Option Addr) (l : List Ln) : Prop where
  rd : RdL w ao l
  st : ∀ a, ao = some a → S a.block

theorem RdK.on {S : Nat → Prop} {A B : World} {ao : Option Addr} {l : List Ln} (h : RdK A S ao l) (k : Kept S A B) : RdK B S ao l :=
  ⟨fun t ht => by
    obtain ⟨a, e, c⟩ := h.rd t ht
    exact ⟨a, e, c.keptK k fun j => by rw [add_block, add_block]; exact h.st a e⟩, h.st⟩

/-- The pairs, one after the other. -/
def prs (xs ys : List Ln) : List (Ln × Ln) := xs.flatMap fun x => ys.map fun y => (x, y)

def encP (p : Ln × Ln) : Array Value := #[.agg p.1.cs, .agg p.2.cs]

theorem prs_take {xs ys : List Ln} {i : Nat} (h : i < xs.length) : prs (xs.take (i + 1)) ys = prs (xs.take i) ys ++ ys.map fun y => (xs[i], y) := by
  unfold prs
  rw [List.take_succ_eq_append_getElem h, List.flatMap_append]; simp

theorem map_take {α β : Type} (f : α → β) {l : List α} {j : Nat} (h : j < l.length) : (l.take (j + 1)).map f = (l.take j).map f ++ [f l[j]] := by
  rw [List.take_succ_eq_append_getElem h, List.map_append]; rfl

theorem prs_pre {xs ys : List Ln} {i j : Nat} (hi : i < xs.length) (hj : j < ys.length) : (prs (xs.take i) ys ++ (ys.take j).map fun y => (xs[i], y)) ++ [(xs[i], ys[j])] <+: prs xs ys := by
  refine ⟨(ys.drop (j + 1)).map (fun y => (xs[i], y)) ++ prs (xs.drop (i + 1)) ys, ?_⟩
  rw [List.append_assoc (prs (xs.take i) ys), ← map_take (fun y => (xs[i], y)) hj, List.append_assoc, ← List.append_assoc ((ys.take (j + 1)).map _), ← List.map_append, List.take_append_drop, ← List.append_assoc, ← prs_take hi]
  unfold prs
  rw [← List.flatMap_append, List.take_append_drop]

theorem pairs_enters : ∀ args w, (callFunc 119 args).run Tryz.prog w = .ok (.enter 119 args) w := enters_of Tryz.func119 (by kernel_rfl) rfl

attribute [local go_sem] Oper.semAt_some

set_option maxRecDepth 100000 in
set_option maxHeartbeats 4000000 in
theorem pairs_seq (xs ys : List Ln) (ao bo : Option Addr) (ca cb pa pb : Nat) (W : World) (T0 : Nat → Prop) (hlx : xs.length ≤ 1000000) (hly : ys.length ≤ 1000000) (hA : W.cell? ⟨pa, 0, none⟩ = some (.slice ao xs.length ca)) (hB : W.cell? ⟨pb, 0, none⟩ = some (.slice bo ys.length cb))
    (hX : RdK W (fun k => ¬ T0 k ∧ k < W.heap.size) ao xs) (hY : RdK W (fun k => ¬ T0 k ∧ k < W.heap.size) bo ys) (ha : ¬ T0 pa) (hb : ¬ T0 pb) (h6x : ∀ x ∈ xs, x.a.length = 6) (h6y : ∀ y ∈ ys, y.a.length = 6) :
    SeqP Tryz.prog 119 #[.pointer (some ⟨pa, 0, none⟩), .pointer (some ⟨pb, 0, none⟩)] encP (prs xs ys) none W T0 := by
  intro l J Jp hst hlt hY' h0
  have hz := ln_zero
  obtain ⟨nx, hnx⟩ : ∃ nx, nx = xs.length := ⟨_, rfl⟩
  obtain ⟨ny, hny⟩ : ∃ ny, ny = ys.length := ⟨_, rfl⟩
  have NX := Lib.hid hnx
  have NY := Lib.hid hny
  have hlx' : nx ≤ 1000000 := by omega
  have hly' : ny ≤ 1000000 := by omega
  rw [← hnx] at hA
  rw [← hny] at hB
  -- what a world between two rounds has
  have INV := Lib.hid (show ∀ (pre : List (Ln × Ln)) (A : World), (∃ T, J pre T A ∧ (∀ k, T k → T0 k ∨ W.heap.size ≤ k) ∧ Kept (fun k => ¬ T0 k ∧ k < W.heap.size) W A) → A.cell? ⟨pa, 0, none⟩ = some (.slice ao nx ca) ∧ A.cell? ⟨pb, 0, none⟩ = some (.slice bo ny cb) ∧ RdK A (fun k => ¬ T0 k ∧ k < W.heap.size) ao xs ∧ RdK A (fun k => ¬ T0 k ∧ k < W.heap.size) bo ys from
    fun pre A ⟨T, _, _, k⟩ => ⟨cell_keptK k hA ⟨ha, World.block_lt_of_cell? W _ hA⟩, cell_keptK k hB ⟨hb, World.block_lt_of_cell? W _ hB⟩, hX.on k, hY.on k⟩)
  have H0 := Lib.hid (show ∃ T, J [] T W ∧ (∀ k, T k → T0 k ∨ W.heap.size ≤ k) ∧ Kept (fun k => ¬ T0 k ∧ k < W.heap.size) W W from ⟨T0, h0, fun k q => Or.inl q, Kept.refl _ _⟩)
  have RND := Lib.hid hY'
  have ST := Lib.hid hst
  have LT := Lib.hid hlt
  have X6 := Lib.hid h6x
  have Y6 := Lib.hid h6y
  clear hY' hst hlt hX hY h6x h6y hnx hny h0 ha hb hlx hly
  refine callsIn_of_wp Tryz.func119 rfl trivial ?_ rfl
  simp only [Tryz.ntmps119, List.size_toArray, List.length_cons, List.length_nil, Nat.reduceAdd, Nat.reduceSub, Array.replicate_succ, Array.replicate_zero, List.push_toArray, List.append_toArray, List.nil_append, List.cons_append]
  gi_wp2
  gi_loopw [10] (fun s wr => ∃ i : Nat, s = .int .i64 i ∧ i ≤ nx ∧ Hid (∃ T, J (prs (xs.take i) ys) T wr ∧ (∀ k, T k → T0 k ∨ W.heap.size ≤ k) ∧ Kept (fun k => ¬ T0 k ∧ k < W.heap.size) W wr)) (fun s _ => nx - (intOf s).toNat)
  case atStart => exact ⟨0, rfl, by omega, Lib.hid (by simpa [prs] using H0.out)⟩
  case round =>
    generalize wr = wo at *
    obtain ⟨i, rfl, hi, HJ⟩ := hrel
    by_cases hin : i < nx
    · have hil : i < xs.length := by have := NX.out; omega
      obtain ⟨c0, c1, rx, ry⟩ := INV.out _ _ HJ.out
      obtain ⟨a, ea, hla⟩ := rx.rd i hil
      obtain ⟨x, hx⟩ : ∃ x, x = xs[i] := ⟨_, rfl⟩
      rw [← hx] at hla
      have LA := Lib.hid hla
      have HX := Lib.hid hx
      have x6 := Lib.hid (show x.a.length = 6 by rw [hx]; exact X6.out _ (List.getElem_mem _))
      have HI := Lib.hid hil
      have N1 := Lib.hid (show Bk (wo.alloc (.cells ln0.cs 82)) wo.heap.size ln0 from Bk.made wo ln0 rfl)
      have N2 := Lib.hid (N1.out.setRow x6.out)
      have B2 := Lib.hid (Below.setRow ((Below.refl wo.heap.size wo).alloc (Nat.le_refl _) (.cells ln0.cs 82)) (b := wo.heap.size) (Nat.le_refl _) x.cs)
      have PS := Lib.hid (show prs (xs.take (i + 1)) ys = prs (xs.take i) ys ++ ys.map fun y => (x, y) by rw [hx]; exact prs_take hil)
      have PP := Lib.hid (show ∀ j, ∀ h : j < ys.length, (prs (xs.take i) ys ++ (ys.take j).map fun y => (x, y)) ++ [(x, ys[j])] <+: prs xs ys from fun j h => by rw [hx]; exact prs_pre hil h)
      have JJ := Lib.hid (show ∃ T, J (prs (xs.take i) ys ++ (ys.take 0).map fun y => (x, y)) T ((wo.alloc (.cells ln0.cs 82)).setRow wo.heap.size x.cs) ∧ (∀ k, T k → T0 k ∨ W.heap.size ≤ k) ∧ Kept (fun k => ¬ T0 k ∧ k < W.heap.size) W ((wo.alloc (.cells ln0.cs 82)).setRow wo.heap.size x.cs) ∧ ¬ T wo.heap.size from by
        obtain ⟨T, j1, j2, j3⟩ := HJ.out
        refine ⟨T, ?_, j2, j3.trans (Kept.of_below B2.out _), fun q => by have := LT.out _ _ _ j1 _ q; omega⟩
        have := ST.out _ _ _ _ j1 (Kept.of_below B2.out _)
        simpa using this)
      have c2 : ((wo.alloc (.cells ln0.cs 82)).setRow wo.heap.size x.cs).cell? ⟨pb, 0, none⟩ = some (.slice bo ny cb) := kept B2.out c1
      clear rx ry hla hx HX hil c0 c1
      subst ea
      gi_wp2_with (first | refine inl_load rfl _ rfl _ rfl x LA.out ?_ | refine inl_store rfl _ _ rfl _ _ rfl rfl _ N1.out x6.out ?_)
      generalize (wo.alloc (.cells ln0.cs 82)).setRow wo.heap.size x.cs = w1 at *
      generalize wo.heap.size = q at *
      gi_loopw [16] (fun s wr => ∃ j : Nat, s = .int .i64 j ∧ j ≤ ny ∧ Hid (∃ T, J (prs (xs.take i) ys ++ (ys.take j).map fun y => (x, y)) T wr ∧ (∀ k, T k → T0 k ∨ W.heap.size ≤ k) ∧ Kept (fun k => ¬ T0 k ∧ k < W.heap.size) W wr ∧ ¬ T q) ∧ Hid (Bk wr q x)) (fun s _ => ny - (intOf s).toNat)
      case atStart => exact ⟨0, rfl, by omega, JJ, N2⟩
      case round =>
        generalize wr = wo at *
        obtain ⟨j, rfl, hj, HJ1, HQ⟩ := hrel
        by_cases hjn : j < ny
        · have hjl : j < ys.length := by have := NY.out; omega
          obtain ⟨_, _, _, ry⟩ := INV.out _ _ (show ∃ T, J _ T wo ∧ _ ∧ _ from by obtain ⟨T, j1, j2, j3, _⟩ := HJ1.out; exact ⟨T, j1, j2, j3⟩)
          obtain ⟨b, eb, hlb⟩ := ry.rd j hjl
          have PJ := Lib.hid (PP.out j hjl)
          have MT := Lib.hid (map_take (fun y => (x, y)) hjl)
          obtain ⟨y, hy⟩ : ∃ y, y = ys[j] := ⟨_, rfl⟩
          rw [← hy] at hlb PJ MT
          have LB := Lib.hid hlb
          have y6 := Lib.hid (show y.a.length = 6 by rw [hy]; exact Y6.out _ (List.getElem_mem _))
          have M1 := Lib.hid (show Bk (wo.alloc (.cells ln0.cs 82)) wo.heap.size ln0 from Bk.made wo ln0 rfl)
          have M2 := Lib.hid (M1.out.setRow y6.out)
          have D2 := Lib.hid (Below.setRow ((Below.refl wo.heap.size wo).alloc (Nat.le_refl _) (.cells ln0.cs 82)) (b := wo.heap.size) (Nat.le_refl _) y.cs)
          have Q2 := Lib.hid (HQ.out.kept D2.out)
          obtain ⟨T, j1, j2, j3, j4⟩ := HJ1.out
          have J1 := Lib.hid (ST.out _ _ _ _ j1 (Kept.of_below D2.out _))
          have J2 := Lib.hid j2
          have J3 := Lib.hid (j3.trans (Kept.of_below D2.out _))
          have J4 := Lib.hid j4
          obtain ⟨fn, tmps, assign, body, hyd, hR⟩ := RND.out _ (x, y) T _ J1.out PJ.out
          have HR := Lib.hid hR
          simp only [encP] at hyd
          clear ry hlb hy hjl j1 j2 j3 j4 hR
          subst eb
          gi_wp2_with (first | refine inl_load rfl _ rfl _ rfl y LB.out ?_ | refine inl_store rfl _ _ rfl _ _ rfl rfl _ M1.out y6.out ?_ | refine inl_load rfl _ rfl _ rfl x Q2.out.lnAt ?_ | refine inl_load rfl _ rfl _ rfl y M2.out.lnAt ?_)
          generalize (wo.alloc (.cells ln0.cs 82)).setRow wo.heap.size y.cs = w2 at *
          refine HR.out.mono ?_
          rintro e w3 (⟨rfl, T', t1, t2, t3⟩ | ⟨chain, rfl, hp⟩)
          · have Q3 := Lib.hid (show Bk w3 q x from Q2.out.of_block (t2.block q Q2.out.lt J4.out))
            have K3 := Lib.hid (show Kept (fun k => ¬ T0 k ∧ k < W.heap.size) W w3 from J3.out.trans (t2.mono fun k _ h q => (J2.out k q).elim h.1 (by have := h.2; omega)))
            have J5 := Lib.hid (show ∃ T, J (prs (xs.take i) ys ++ (ys.take (j + 1)).map fun y => (x, y)) T w3 ∧ (∀ k, T k → T0 k ∨ W.heap.size ≤ k) ∧ Kept (fun k => ¬ T0 k ∧ k < W.heap.size) W w3 ∧ ¬ T q from by
              refine ⟨T', ?_, fun k h => ?_, K3.out, fun h => ?_⟩
              · rw [MT.out, ← List.append_assoc]; exact t1
              · rcases t3 k h with h | h
                · exact J2.out k h
                · have := J3.out.size; right; omega
              · rcases t3 q h with h | h
                · exact J4.out h
                · have := Q2.out.lt; omega)
            clear t1 t2 t3
            gi_wp2
            go_roundw
            case rel => exact ⟨j + 1, by go_num, by omega, J5, Q3⟩
            case measure => simp [intOf]; omega
          · exact ⟨by first | rfl | trivial, Or.inr ⟨chain, by first | rfl | trivial, Or.inl hp⟩⟩
        · have ej : ys.take j = ys := List.take_of_length_le (by have := NY.out; omega)
          have J5 := Lib.hid (show ∃ T, J (prs (xs.take (i + 1)) ys) T wo ∧ (∀ k, T k → T0 k ∨ W.heap.size ≤ k) ∧ Kept (fun k => ¬ T0 k ∧ k < W.heap.size) W wo from by
            obtain ⟨T, j1, j2, j3, _⟩ := HJ1.out
            rw [ej] at j1
            rw [PS.out]
            exact ⟨T, j1, j2, j3⟩)
          clear ej
          gi_wp2
          go_roundw
          case rel => exact ⟨i + 1, by go_num, by omega, J5⟩
          case measure => simp [intOf]; omega
    · have ei : xs.take i = xs := List.take_of_length_le (by have := NX.out; omega)
      obtain ⟨T, j1, _, _⟩ := HJ.out
      rw [ei] at j1
      have J1 := Lib.hid j1
      clear j1 ei
      gi_wp2
      go_end0
      exact Or.inl ⟨by first | rfl | trivial, by first | rfl | trivial, T, J1.out⟩
end Go.Proofs.YtbhaoaobhgilkaaGreat
