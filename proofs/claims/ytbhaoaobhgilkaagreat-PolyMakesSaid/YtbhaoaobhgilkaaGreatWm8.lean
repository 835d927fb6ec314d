/- Lines in walks that speak of rounds: loads, stores, slices of one line.; Lists of lines that grow, and statements of a known function, for package poly's leaveOut.; Contracts of package poly: leaveOut. -/
import Derived.Test.YtbhaoaobhgilkaaGreatWm6
import Derived.Test.YtbhaoaobhgilkaaGreatWm7
import Derived.Maps.OwnIn

namespace Go.Proofs.YtbhaoaobhgilkaaGreat
open Go.RowKit Go.Sort Go.Shelf

variable {F : Fence} {n : Nat} {ops : Array Oper} {rest : List Oper} {o : Oper} {a : Act} {w : World} {Q : Exit → Act → World → Prop}

theorem semAt_of {ro : Option Nat} {ρ : Operand → Value} (h : ∀ c, o.op ≠ .defer c) : Oper.semAt ro ρ o = execOp ρ o := by
  cases ro with
  | none => rfl
  | some l => exact Oper.semAt_some l ρ o h

theorem wplI (hgd : o.guard = none) (hc : ∀ c, o.op ≠ .call c) (hd : ∀ c, o.op ≠ .defer c) {v : Value} {w' : World} (hr : (execOp a.eval o).run Tryz.prog w = .ok (.value v) w') (h : wpListIn F n Tryz.prog ops Q rest (a.put o.dst v) w') : wpListIn F n Tryz.prog ops Q (o :: rest) a w := by
  refine wpListIn_plain hgd fun K hK => ⟨fun f hf => ?_, ?_⟩
  · unfold Oper.about at hf
    cases ho : o.op with
    | call c => exact absurd ho (hc c)
    | _ => rw [ho] at hf; cases hf
  · rw [semAt_of hd, hr]
    exact hK _ _ h

theorem wplIs (hgd : o.guard = none) (hc : ∀ c, o.op ≠ .call c) (hd : ∀ c, o.op ≠ .defer c) {w' : World} (hr : (execOp a.eval o).run Tryz.prog w = .ok .skip w') (h : wpListIn F n Tryz.prog ops Q rest (a.put o.dst undef) w') : wpListIn F n Tryz.prog ops Q (o :: rest) a w := by
  refine wpListIn_plain hgd fun K hK => ⟨fun f hf => ?_, ?_⟩
  · unfold Oper.about at hf
    cases ho : o.op with
    | call c => exact absurd ho (hc c)
    | _ => rw [ho] at hf; cases hf
  · rw [semAt_of hd, hr]
    exact hK _ _ h

theorem inl_load (hgd : o.guard = none) (s : Operand) (ho : o.op = .load 82 s) (p : Addr) (hs : a.eval s = .pointer (some p)) (x : Ln) (hx : LnAt w p x) (h : wpListIn F n Tryz.prog ops Q rest (a.put o.dst (.agg x.cs)) w) : wpListIn F n Tryz.prog ops Q (o :: rest) a w :=
  wplI hgd (fun c e => by rw [ho] at e; cases e) (fun c e => by rw [ho] at e; cases e) (yld_loadP s ho p hs hx) h

theorem inl_store (hgd : o.guard = none) (s t : Operand) (ho : o.op = .store 82 s t) (b : Nat) (z : Ln) (hs : a.eval s = .pointer (some ⟨b, 0, none⟩)) (ht : a.eval t = .agg z.cs) (old : Ln) (hv : Bk w b old) (hz : z.a.length = 6)
    (h : wpListIn F n Tryz.prog ops Q rest (a.put o.dst undef) (w.setRow b z.cs)) : wpListIn F n Tryz.prog ops Q (o :: rest) a w := by
  refine wplIs hgd (fun c e => by rw [ho] at e; cases e) (fun c e => by rw [ho] at e; cases e) ?_ h
  have hr := run_storeVar_row (P := Tryz.prog) w b 82 82 old.cs z.cs hv.1 (by rw [Ln.size hz]; exact ln_size) (by rw [Ln.size hv.2, Ln.size hz]) z.one
  generalize z.cs = V at *
  unfold execOp
  simp only [ho, hs, ht, Instr.storeAt, Instr.sureAddr, Sem.run_bind, Sem.run_pure, Result.andThen_ok, hr]

theorem inl_bs1 (hgd : o.guard = none) (s : Operand) (ho : o.op = .buildSlice 66 1 #[(0, s)]) (x : Ln) (hs : a.eval s = .agg x.cs) (hx : x.a.length = 6)
    (h : wpListIn F n Tryz.prog ops Q rest (a.put o.dst (.slice (some ⟨w.heap.size, 0, none⟩) 1 1)) (w.alloc (.cells x.cs 82))) : wpListIn F n Tryz.prog ops Q (o :: rest) a w := by
  refine wplI hgd (fun c e => by rw [ho] at e; cases e) (fun c e => by rw [ho] at e; cases e) ?_ h
  have hv := run_bs1 x hx w
  generalize x.cs = V at *
  unfold execOp
  simp only [ho, List.map_toArray, List.map_cons, List.map_nil, hs, Sem.run_bind, Sem.run_pure, hv, Result.andThen_ok]

theorem cell_keptK {S : Nat → Prop} {A B : World} (h : Kept S A B) {p : Addr} {v : Value} (hc : A.cell? p = some v) (hs : S p.block) : B.cell? p = some v := by
  have lt := World.block_lt_of_cell? A _ hc
  unfold World.cell? at hc ⊢
  rw [h.block _ lt hs]; exact hc

theorem LnAt.keptK {S : Nat → Prop} {A B : World} (h : Kept S A B) {p : Addr} {x : Ln} (hx : LnAt A p x) (hs : ∀ j, S (p.add j).block) : LnAt B p x := ⟨hx.1, fun j v hv => cell_keptK h (hx.2 j v hv) (hs j)⟩

theorem add_block (p : Addr) (j : Nat) : (p.add j).block = p.block := by unfold Addr.add; split <;> rfl

structure RdK (w : World) (S : Nat → Prop) (ao : Option Addr) (l : List Ln) : Prop where
  rd : RdL w ao l
  st : ∀ a, ao = some a → S a.block

theorem RdK.on {S : Nat → Prop} {A B : World} {ao : Option Addr} {l : List Ln} (h : RdK A S ao l) (k : Kept S A B) : RdK B S ao l :=
  ⟨fun t ht => by
    obtain ⟨a, e, c⟩ := h.rd t ht
    exact ⟨a, e, c.keptK k fun j => by rw [add_block, add_block]; exact h.st a e⟩, h.st⟩

def prs (xs ys : List Ln) : List (Ln × Ln) := xs.flatMap fun x => ys.map fun y => (x, y)

def encP (p : Ln × Ln) : Array Value := #[.agg p.1.cs, .agg p.2.cs]

theorem prs_take {xs ys : List Ln} {i : Nat} (h : i < xs.length) : prs (xs.take (i + 1)) ys = prs (xs.take i) ys ++ ys.map fun y => (xs[i], y) := by
  unfold prs
  rw [List.take_succ_eq_append_getElem h, List.flatMap_append]; simp

theorem map_take {α β : Type} (f : α → β) {l : List α} {j : Nat} (h : j < l.length) : (l.take (j + 1)).map f = (l.take j).map f ++ [f l[j]] := by
  rw [List.take_succ_eq_append_getElem h, List.map_append]; rfl

theorem prs_pre {xs ys : List Ln} {i j : Nat} (hi : i < xs.length) (hj : j < ys.length) : (prs (xs.take i) ys ++ (ys.take j).map fun y => (xs[i], y)) ++ [(xs[i], ys[j])] <+: prs xs ys := by
  refine ⟨(ys.drop (j + 1)).map (fun y => (xs[i], y)) ++ prs (xs.drop (i + 1)) ys, ?_⟩
  rw [List.append_assoc (prs (xs.take i) ys), ← map_take (fun y => (xs[i], y)) hj, List.append_assoc, ← List.append_assoc ((ys.take (j + 1)).map _), ← List.map_append, List.take_append_drop, ← List.append_assoc, ← prs_take hi]
  unfold prs
  rw [← List.flatMap_append, List.take_append_drop]

theorem pairs_enters : ∀ args w, (callFunc 119 args).run Tryz.prog w = .ok (.enter 119 args) w := enters_of Tryz.func119 (by kernel_rfl) rfl

attribute [local go_sem] Oper.semAt_some

set_option maxRecDepth 100000 in
set_option maxHeartbeats 4000000 in
theorem pairs_seq (xs ys : List Ln) (ao bo : Option Addr) (ca cb pa pb : Nat) (W : World) (T0 : Nat → Prop) (hlx : xs.length ≤ 1000000) (hly : ys.length ≤ 1000000) (hA : W.cell? ⟨pa, 0, none⟩ = some (.slice ao xs.length ca)) (hB : W.cell? ⟨pb, 0, none⟩ = some (.slice bo ys.length cb))
    (hX : RdK W (fun k => ¬ T0 k ∧ k < W.heap.size) ao xs) (hY : RdK W (fun k => ¬ T0 k ∧ k < W.heap.size) bo ys) (ha : ¬ T0 pa) (hb : ¬ T0 pb) (h6x : ∀ x ∈ xs, x.a.length = 6) (h6y : ∀ y ∈ ys, y.a.length = 6) :
    SeqP Tryz.prog 119 #[.pointer (some ⟨pa, 0, none⟩), .pointer (some ⟨pb, 0, none⟩)] encP (prs xs ys) none W T0 := by
  intro l J Jp hst hlt hY' h0
  have hz := ln_zero
  obtain ⟨nx, hnx⟩ : ∃ nx, nx = xs.length := ⟨_, rfl⟩
  obtain ⟨ny, hny⟩ : ∃ ny, ny = ys.length := ⟨_, rfl⟩
  have NX := Lib.hid hnx
  have NY := Lib.hid hny
  have hlx' : nx ≤ 1000000 := by omega
  have hly' : ny ≤ 1000000 := by omega
  rw [← hnx] at hA
  rw [← hny] at hB
  -- what a world between two rounds has
  have INV := Lib.hid (show ∀ (pre : List (Ln × Ln)) (A : World), (∃ T, J pre T A ∧ (∀ k, T k → T0 k ∨ W.heap.size ≤ k) ∧ Kept (fun k => ¬ T0 k ∧ k < W.heap.size) W A) → A.cell? ⟨pa, 0, none⟩ = some (.slice ao nx ca) ∧ A.cell? ⟨pb, 0, none⟩ = some (.slice bo ny cb) ∧ RdK A (fun k => ¬ T0 k ∧ k < W.heap.size) ao xs ∧ RdK A (fun k => ¬ T0 k ∧ k < W.heap.size) bo ys from
    fun pre A ⟨T, _, _, k⟩ => ⟨cell_keptK k hA ⟨ha, World.block_lt_of_cell? W _ hA⟩, cell_keptK k hB ⟨hb, World.block_lt_of_cell? W _ hB⟩, hX.on k, hY.on k⟩)
  have H0 := Lib.hid (show ∃ T, J [] T W ∧ (∀ k, T k → T0 k ∨ W.heap.size ≤ k) ∧ Kept (fun k => ¬ T0 k ∧ k < W.heap.size) W W from ⟨T0, h0, fun k q => Or.inl q, Kept.refl _ _⟩)
  have RND := Lib.hid hY'
  have ST := Lib.hid hst
  have LT := Lib.hid hlt
  have X6 := Lib.hid h6x
  have Y6 := Lib.hid h6y
  clear hY' hst hlt hX hY h6x h6y hnx hny h0 ha hb hlx hly
  refine callsIn_of_wp Tryz.func119 rfl trivial ?_ rfl
  simp only [Tryz.ntmps119, List.size_toArray, List.length_cons, List.length_nil, Nat.reduceAdd, Nat.reduceSub, Array.replicate_succ, Array.replicate_zero, List.push_toArray, List.append_toArray, List.nil_append, List.cons_append]
  gi_wp2
  gi_loopw [10] (fun s wr => ∃ i : Nat, s = .int .i64 i ∧ i ≤ nx ∧ Hid (∃ T, J (prs (xs.take i) ys) T wr ∧ (∀ k, T k → T0 k ∨ W.heap.size ≤ k) ∧ Kept (fun k => ¬ T0 k ∧ k < W.heap.size) W wr)) (fun s _ => nx - (intOf s).toNat)
  case atStart => exact ⟨0, rfl, by omega, Lib.hid (by simpa [prs] using H0.out)⟩
  case round =>
    generalize wr = wo at *
    obtain ⟨i, rfl, hi, HJ⟩ := hrel
    by_cases hin : i < nx
    · have hil : i < xs.length := by have := NX.out; omega
      obtain ⟨c0, c1, rx, ry⟩ := INV.out _ _ HJ.out
      obtain ⟨a, ea, hla⟩ := rx.rd i hil
      obtain ⟨x, hx⟩ : ∃ x, x = xs[i] := ⟨_, rfl⟩
      rw [← hx] at hla
      have LA := Lib.hid hla
      have HX := Lib.hid hx
      have x6 := Lib.hid (show x.a.length = 6 by rw [hx]; exact X6.out _ (List.getElem_mem _))
      have HI := Lib.hid hil
      have N1 := Lib.hid (show Bk (wo.alloc (.cells ln0.cs 82)) wo.heap.size ln0 from Bk.made wo ln0 rfl)
      have N2 := Lib.hid (N1.out.setRow x6.out)
      have B2 := Lib.hid (Below.setRow ((Below.refl wo.heap.size wo).alloc (Nat.le_refl _) (.cells ln0.cs 82)) (b := wo.heap.size) (Nat.le_refl _) x.cs)
      have PS := Lib.hid (show prs (xs.take (i + 1)) ys = prs (xs.take i) ys ++ ys.map fun y => (x, y) by rw [hx]; exact prs_take hil)
      have PP := Lib.hid (show ∀ j, ∀ h : j < ys.length, (prs (xs.take i) ys ++ (ys.take j).map fun y => (x, y)) ++ [(x, ys[j])] <+: prs xs ys from fun j h => by rw [hx]; exact prs_pre hil h)
      have JJ := Lib.hid (show ∃ T, J (prs (xs.take i) ys ++ (ys.take 0).map fun y => (x, y)) T ((wo.alloc (.cells ln0.cs 82)).setRow wo.heap.size x.cs) ∧ (∀ k, T k → T0 k ∨ W.heap.size ≤ k) ∧ Kept (fun k => ¬ T0 k ∧ k < W.heap.size) W ((wo.alloc (.cells ln0.cs 82)).setRow wo.heap.size x.cs) ∧ ¬ T wo.heap.size from by
        obtain ⟨T, j1, j2, j3⟩ := HJ.out
        refine ⟨T, ?_, j2, j3.trans (Kept.of_below B2.out _), fun q => by have := LT.out _ _ _ j1 _ q; omega⟩
        have := ST.out _ _ _ _ j1 (Kept.of_below B2.out _)
        simpa using this)
      have c2 : ((wo.alloc (.cells ln0.cs 82)).setRow wo.heap.size x.cs).cell? ⟨pb, 0, none⟩ = some (.slice bo ny cb) := kept B2.out c1
      clear rx ry hla hx HX hil c0 c1
      subst ea
      gi_wp2_with (first | refine inl_load rfl _ rfl _ rfl x LA.out ?_ | refine inl_store rfl _ _ rfl _ _ rfl rfl _ N1.out x6.out ?_)
      generalize (wo.alloc (.cells ln0.cs 82)).setRow wo.heap.size x.cs = w1 at *
      generalize wo.heap.size = q at *
      gi_loopw [16] (fun s wr => ∃ j : Nat, s = .int .i64 j ∧ j ≤ ny ∧ Hid (∃ T, J (prs (xs.take i) ys ++ (ys.take j).map fun y => (x, y)) T wr ∧ (∀ k, T k → T0 k ∨ W.heap.size ≤ k) ∧ Kept (fun k => ¬ T0 k ∧ k < W.heap.size) W wr ∧ ¬ T q) ∧ Hid (Bk wr q x)) (fun s _ => ny - (intOf s).toNat)
      case atStart => exact ⟨0, rfl, by omega, JJ, N2⟩
      case round =>
        generalize wr = wo at *
        obtain ⟨j, rfl, hj, HJ1, HQ⟩ := hrel
        by_cases hjn : j < ny
        · have hjl : j < ys.length := by have := NY.out; omega
          obtain ⟨_, _, _, ry⟩ := INV.out _ _ (show ∃ T, J _ T wo ∧ _ ∧ _ from by obtain ⟨T, j1, j2, j3, _⟩ := HJ1.out; exact ⟨T, j1, j2, j3⟩)
          obtain ⟨b, eb, hlb⟩ := ry.rd j hjl
          have PJ := Lib.hid (PP.out j hjl)
          have MT := Lib.hid (map_take (fun y => (x, y)) hjl)
          obtain ⟨y, hy⟩ : ∃ y, y = ys[j] := ⟨_, rfl⟩
          rw [← hy] at hlb PJ MT
          have LB := Lib.hid hlb
          have y6 := Lib.hid (show y.a.length = 6 by rw [hy]; exact Y6.out _ (List.getElem_mem _))
          have M1 := Lib.hid (show Bk (wo.alloc (.cells ln0.cs 82)) wo.heap.size ln0 from Bk.made wo ln0 rfl)
          have M2 := Lib.hid (M1.out.setRow y6.out)
          have D2 := Lib.hid (Below.setRow ((Below.refl wo.heap.size wo).alloc (Nat.le_refl _) (.cells ln0.cs 82)) (b := wo.heap.size) (Nat.le_refl _) y.cs)
          have Q2 := Lib.hid (HQ.out.kept D2.out)
          obtain ⟨T, j1, j2, j3, j4⟩ := HJ1.out
          have J1 := Lib.hid (ST.out _ _ _ _ j1 (Kept.of_below D2.out _))
          have J2 := Lib.hid j2
          have J3 := Lib.hid (j3.trans (Kept.of_below D2.out _))
          have J4 := Lib.hid j4
          obtain ⟨fn, tmps, assign, body, hyd, hR⟩ := RND.out _ (x, y) T _ J1.out PJ.out
          have HR := Lib.hid hR
          simp only [encP] at hyd
          clear ry hlb hy hjl j1 j2 j3 j4 hR
          subst eb
          gi_wp2_with (first | refine inl_load rfl _ rfl _ rfl y LB.out ?_ | refine inl_store rfl _ _ rfl _ _ rfl rfl _ M1.out y6.out ?_ | refine inl_load rfl _ rfl _ rfl x Q2.out.lnAt ?_ | refine inl_load rfl _ rfl _ rfl y M2.out.lnAt ?_)
          generalize (wo.alloc (.cells ln0.cs 82)).setRow wo.heap.size y.cs = w2 at *
          refine HR.out.mono ?_
          rintro e w3 (⟨rfl, T', t1, t2, t3⟩ | ⟨chain, rfl, hp⟩)
          · have Q3 := Lib.hid (show Bk w3 q x from Q2.out.of_block (t2.block q Q2.out.lt J4.out))
            have K3 := Lib.hid (show Kept (fun k => ¬ T0 k ∧ k < W.heap.size) W w3 from J3.out.trans (t2.mono fun k _ h q => (J2.out k q).elim h.1 (by have := h.2; omega)))
            have J5 := Lib.hid (show ∃ T, J (prs (xs.take i) ys ++ (ys.take (j + 1)).map fun y => (x, y)) T w3 ∧ (∀ k, T k → T0 k ∨ W.heap.size ≤ k) ∧ Kept (fun k => ¬ T0 k ∧ k < W.heap.size) W w3 ∧ ¬ T q from by
              refine ⟨T', ?_, fun k h => ?_, K3.out, fun h => ?_⟩
              · rw [MT.out, ← List.append_assoc]; exact t1
              · rcases t3 k h with h | h
                · exact J2.out k h
                · have := J3.out.size; right; omega
              · rcases t3 q h with h | h
                · exact J4.out h
                · have := Q2.out.lt; omega)
            clear t1 t2 t3
            gi_wp2
            go_roundw
            case rel => exact ⟨j + 1, by go_num, by omega, J5, Q3⟩
            case measure => simp [intOf]; omega
          · exact ⟨by first | rfl | trivial, Or.inr ⟨chain, by first | rfl | trivial, Or.inl hp⟩⟩
        · have ej : ys.take j = ys := List.take_of_length_le (by have := NY.out; omega)
          have J5 := Lib.hid (show ∃ T, J (prs (xs.take (i + 1)) ys) T wo ∧ (∀ k, T k → T0 k ∨ W.heap.size ≤ k) ∧ Kept (fun k => ¬ T0 k ∧ k < W.heap.size) W wo from by
            obtain ⟨T, j1, j2, j3, _⟩ := HJ1.out
            rw [ej] at j1
            rw [PS.out]
            exact ⟨T, j1, j2, j3⟩)
          clear ej
          gi_wp2
          go_roundw
          case rel => exact ⟨i + 1, by go_num, by omega, J5⟩
          case measure => simp [intOf]; omega
    · have ei : xs.take i = xs := List.take_of_length_le (by have := NX.out; omega)
      obtain ⟨T, j1, _, _⟩ := HJ.out
      rw [ei] at j1
      have J1 := Lib.hid j1
      clear j1 ei
      gi_wp2
      go_end0
      exact Or.inl ⟨by first | rfl | trivial, by first | rfl | trivial, T, J1.out⟩
end Go.Proofs.YtbhaoaobhgilkaaGreat

namespace Go.Proofs.YtbhaoaobhgilkaaGreat
open Go.RowKit Go.Sort Go.Shelf

theorem append_run {w : World} {B : Nat} {v : Value} {l : List Ln} (hown : OwnL w B v l) {b c : Nat} {y : Ln} (hy : LnAt w ⟨b, 0, none⟩ y) (hle : l.length + 1 ≤ 2000000) (hB : B ≤ w.heap.size) (ty : TypeId) :
    ∃ v' w', (Builtin.append_ #[66, 66] ty #[v, .slice (some ⟨b, 0, none⟩) 1 c]).run Tryz.prog w = .ok v' w' ∧ OwnL w' B v' (l ++ [y]) ∧ w.grownBy w' v.ownBlock ∧ (v'.ownBlock = v.ownBlock ∨ v'.ownBlock = some w.heap.size) := by
  obtain ⟨i0, hi, hz0, hz1, hz2⟩ := info_parts ln_info3
  obtain ⟨v', w', hr, h2, h3, _, h5⟩ := run_append_own_at (P := Tryz.prog) w B 66 ty 82 i0 (.agg ln0.cs) 8 64 Tryz.underlying66 hi hz0 hz1 hz2 (by rfl) (by decide) v l.length _ hown.1 ⟨b, 0, none⟩ 1 c y.cells
    (by rw [Ln.cells_len hy.1]) (fun j u hu => hy.2 j u hu) (cells_one y) (by unfold maxLen; omega) (by omega) hB
  refine ⟨v', w', hr, ⟨?_, fun x hx => ?_⟩, h3, h5⟩
  · rw [List.flatMap_append, List.length_append]; simpa using h2
  · rcases List.mem_append.1 hx with h | h
    · exact hown.2 x h
    · simp only [List.mem_singleton] at h; rw [h]; exact hy.1
section
variable {F : Fence} {n : Nat} {ops : Array Oper} {rest : List Oper} {o : Oper} {a : Act} {w : World} {Q : Exit → Act → World → Prop}

theorem wpl_appL (hgd : o.guard = none) (s x : Operand) (ho : o.op = .call { callee := .builtin .append, args := #[s, x], argTypes := #[66, 66] }) (B : Nat) (v : Value) (l : List Ln) (y : Ln) (hs : a.eval s = v) (hown : OwnL w B v l) (b c : Nat) (hx : a.eval x = .slice (some ⟨b, 0, none⟩) 1 c) (hy : LnAt w ⟨b, 0, none⟩ y)
    (hle : l.length + 1 ≤ 2000000) (hB : B ≤ w.heap.size) (h : ∀ v' w', OwnL w' B v' (l ++ [y]) → w.grownBy w' v.ownBlock → (v'.ownBlock = v.ownBlock ∨ v'.ownBlock = some w.heap.size) → wpList Tryz.prog ops Q rest (a.put o.dst v') w') : wpList Tryz.prog ops Q (o :: rest) a w := by
  obtain ⟨v', w', hr, h1, h2, h3⟩ := append_run hown hy hle hB (c := c) o.type
  have hk := h v' w' h1 h2 h3
  refine wpList_plain hgd fun K hK => ?_
  unfold Oper.wp
  simp [execOp, ho, resolve, invoke, builtin, hs, hx, hr, Result.andThen]
  exact hK _ _ hk

theorem inl_appL (hgd : o.guard = none) (s x : Operand) (ho : o.op = .call { callee := .builtin .append, args := #[s, x], argTypes := #[66, 66] }) (B : Nat) (v : Value) (l : List Ln) (y : Ln) (hs : a.eval s = v) (hown : OwnL w B v l) (b c : Nat) (hx : a.eval x = .slice (some ⟨b, 0, none⟩) 1 c) (hy : LnAt w ⟨b, 0, none⟩ y)
    (hle : l.length + 1 ≤ 2000000) (hB : B ≤ w.heap.size) (h : ∀ v' w', OwnL w' B v' (l ++ [y]) → w.grownBy w' v.ownBlock → (v'.ownBlock = v.ownBlock ∨ v'.ownBlock = some w.heap.size) → wpListIn F n Tryz.prog ops Q rest (a.put o.dst v') w') : wpListIn F n Tryz.prog ops Q (o :: rest) a w := by
  obtain ⟨v', w', hr, h1, h2, h3⟩ := append_run hown hy hle hB (c := c) o.type
  have hk := h v' w' h1 h2 h3
  refine wpListIn_plain hgd fun K hK => ?_
  unfold Oper.wpIn
  refine ⟨by simp [Oper.about, ho, resolve, Target.leads, Sem.run_pure], ?_⟩
  rw [Oper.semAt_plain F _ _ (by rw [ho]; intro c hc'; cases hc')]
  simp [execOp, ho, resolve, invoke, builtin, hs, hx, hr, Result.andThen]
  exact hK _ _ hk
end

theorem OwnL.other {w w' : World} {B : Nat} {v u : Value} {l : List Ln} (h : OwnL w B v l) (hg : w.grownBy w' u.ownBlock) (hd : ∀ k, v.ownBlock = some k → u.ownBlock ≠ some k) : OwnL w' B v l :=
  ⟨World.ownsRow.kept h.1 hg (by
    cases e : v.ownBlock with
    | none => exact Or.inl rfl
    | some k => exact Or.inr (fun q => hd k e q.symm)), h.2⟩

theorem OwnL.keptK {S : Nat → Prop} {A B : World} {n₀ : Nat} {v : Value} {l : List Ln} (h : OwnL A n₀ v l) (k : Kept S A B) (hs : ∀ j, v.ownBlock = some j → S j) : OwnL B n₀ v l := by
  refine ⟨⟨h.1.1, ?_⟩, h.2⟩
  rcases h.1.2 with q | ⟨g, cap, cur, rfl, hb, hg, hr⟩
  · exact Or.inl q
  · refine Or.inr ⟨g, cap, cur, rfl, hb, ?_, hr⟩
    have lt : g < A.heap.size := by
      by_cases e : g < A.heap.size
      · exact e
      · rw [Array.getElem?_eq_none (by omega)] at hg; cases hg
    rw [k.block g lt (hs g rfl)]; exact hg

def Bx1 (w : World) (b : Nat) (v : Value) (t : TypeId) : Prop := w.heap[b]? = some (.cells #[v] t (0, 0))

theorem Bx1.made (w : World) (v : Value) (t : TypeId) : Bx1 (w.alloc (.cells #[v] t)) w.heap.size v t := heap_alloc_last w _

theorem Bx1.lt {w : World} {b : Nat} {v : Value} {t : TypeId} (h : Bx1 w b v t) : b < w.heap.size := by
  by_cases e : b < w.heap.size
  · exact e
  · unfold Bx1 at h; rw [Array.getElem?_eq_none (by omega)] at h; cases h

theorem Bx1.cell {w : World} {b : Nat} {v : Value} {t : TypeId} (h : Bx1 w b v t) : w.cell? ⟨b, 0, none⟩ = some v := by rw [cell_of_row w b 0 _ _ _ h]; rfl

theorem Bx1.free {w : World} {b : Nat} {v : Value} {t : TypeId} (h : Bx1 w b v t) : w.frozen? ⟨b, 0, none⟩ = false := frozen_of_row w b 0 _ _ h

theorem Bx1.put {w : World} {b : Nat} {v : Value} {t : TypeId} (h : Bx1 w b v t) (u : Value) : Bx1 (w.setCell ⟨b, 0, none⟩ u) b u t := by
  unfold Bx1
  rw [heap_setCell_same w b _ _ _ _ h]; rfl

theorem Bx1.of_block {w w' : World} {b : Nat} {v : Value} {t : TypeId} (h : Bx1 w b v t) (e : w'.heap[b]? = w.heap[b]?) : Bx1 w' b v t := e.trans h

theorem Bx1.kept {w w' : World} {b : Nat} {v : Value} {t : TypeId} (h : Bx1 w b v t) (hb : Below w.heap.size w w') : Bx1 w' b v t := h.of_block (hb.block b h.lt)

theorem Bx1.keptK {S : Nat → Prop} {A B : World} {b : Nat} {v : Value} {t : TypeId} (h : Bx1 A b v t) (k : Kept S A B) (hs : S b) : Bx1 B b v t := h.of_block (k.block b h.lt hs)

theorem Bx1.aside {w : World} {b : Nat} {v : Value} {t : TypeId} (h : Bx1 w b v t) {y : Nat} (hne : b ≠ y) (u : Value) : Bx1 (w.setCell ⟨y, 0, none⟩ u) b v t := h.of_block (heap_setCell_other w ⟨y, 0, none⟩ b u hne)

theorem Bx1.grown {w w' : World} {b : Nat} {v : Value} {t : TypeId} {r : Option Nat} (h : Bx1 w b v t) (hg : w.grownBy w' r) (hne : some b ≠ r) : Bx1 w' b v t := h.of_block (hg.block b h.lt hne)

theorem wpAt_block {f : FuncId} {F : Fence} {n : Nat} {P : Program} {id : Nat} {c : Code} {Q : Exit → Act → World → Prop} {a : Act} {w : World} (h : WpAt f F n P c (fun e a w => match e with | .normal => Q .normal a w | .panic ch => Q (.panic ch) a w | _ => False) a w) : WpAt f F n P (.block id c) Q a w := by
  intro b k cs hf hro hb hr
  have hFb : F.fn b.fn := by rw [hf]; exact hb
  have s0 : StepsIn (Machine.fenced P F) P (lone (b.atR a (.code (.block id c) :: k)) cs w) (lone (b.atR a (.code c :: .inBlock id :: k)) cs w) := .one (fenced_calm hFb hr rfl) stepR_block
  obtain ⟨e, a₁, w₁, hq, harr⟩ := h b (.inBlock id :: k) cs hf hro hb hr
  cases e
  case normal => exact ⟨.normal, a₁, w₁, hq, StepsIn.trans s0 (StepsIn.trans harr (.one (fenced_calm hFb hr rfl) stepR_inBlock))⟩
  case panic ch => exact ⟨.panic ch, a₁, w₁, hq, .of_steps s0 harr⟩
  all_goals exact hq.elim
end Go.Proofs.YtbhaoaobhgilkaaGreat

namespace Go.Proofs.YtbhaoaobhgilkaaGreat
open Go.RowKit Go.Sort Go.Shelf

def ups (l : List Ln) (i : Nat) : List Ln := l.filter fun x => decide (0 < gA x.a i)

def dns (l : List Ln) (i : Nat) : List Ln := l.filter fun x => decide (gA x.a i < 0)

def zrs (l : List Ln) (i : Nat) : List Ln := l.filter fun x => decide (gA x.a i = 0)

def sums (l : List Ln) (i : Nat) : List Ln := (prs (ups l i) (dns l i)).map fun p => sumL p.1 p.2 i

def leaveE (l : List Ln) (i : Nat) : Int := if 1000 < (zrs l i).length + (ups l i).length * (dns l i).length then 3 else if (sums l i).all Ln.fits then 0 else 7

def leaveL (l : List Ln) (i : Nat) : List Ln := tidyL (zrs l i ++ sums l i)

theorem filt_snoc {p : Ln → Bool} {l : List Ln} {t : Nat} (h : t < l.length) : (l.take (t + 1)).filter p = (l.take t).filter p ++ (if p l[t] then [l[t]] else []) := by
  rw [List.take_succ_eq_append_getElem h, List.filter_append]
  congr 1
  cases e : p l[t] <;> simp [e]

structure Lv (w wr : World) (bi bl i : Nat) (v1 v2 v3 : Value) (u d z : List Ln) : Prop where
  o1 : OwnL wr w.heap.size v1 u
  o2 : OwnL wr w.heap.size v2 d
  o3 : OwnL wr w.heap.size v3 z
  bx : Bx1 wr bl v3 66
  ix : Bx1 wr bi (.int .i64 i) 3
  be : Below w.heap.size w wr
  n12 : ∀ k, v1.ownBlock = some k → v2.ownBlock ≠ some k
  n13 : ∀ k, v1.ownBlock = some k → v3.ownBlock ≠ some k
  n23 : ∀ k, v2.ownBlock = some k → v3.ownBlock ≠ some k
  b1 : ∀ k, v1.ownBlock = some k → k ≠ bl ∧ k ≠ bi
  b2 : ∀ k, v2.ownBlock = some k → k ≠ bl ∧ k ≠ bi
  b3 : ∀ k, v3.ownBlock = some k → k ≠ bl ∧ k ≠ bi
  nb : bl ≠ bi ∧ w.heap.size ≤ bl
section
variable {w wr w' : World} {bi bl i : Nat} {v1 v2 v3 v' : Value} {u d z : List Ln} {x : Ln}

theorem Lv.on (h : Lv w wr bi bl i v1 v2 v3 u d z) (hb : Below wr.heap.size wr w') : Lv w w' bi bl i v1 v2 v3 u d z :=
  ⟨h.o1.on hb, h.o2.on hb, h.o3.on hb, h.bx.kept hb, h.ix.kept hb, below_on h.be hb, h.n12, h.n13, h.n23, h.b1, h.b2, h.b3, h.nb⟩

theorem Lv.grown_be (h : Lv w wr bi bl i v1 v2 v3 u d z) {v : Value} {l : List Ln} (ho : OwnL wr w.heap.size v l) (hg : wr.grownBy w' v.ownBlock) : Below w.heap.size w w' :=
  Below.grown h.be hg h.be.size (fun k hk => (World.ownsRow.lt ho.1 k hk).1)

theorem ne_of_opt {o : Option Nat} {k : Nat} (h : ∀ j, o = some j → j ≠ k) : some k ≠ o := fun e => h k e.symm rfl

theorem Lv.app1 (h : Lv w wr bi bl i v1 v2 v3 u d z) (ho : OwnL w' w.heap.size v' (u ++ [x])) (hg : wr.grownBy w' v1.ownBlock) (hf : v'.ownBlock = v1.ownBlock ∨ v'.ownBlock = some wr.heap.size) : Lv w w' bi bl i v' v2 v3 (u ++ [x]) d z := by
  have l2 := h.o2.lt
  have l3 := h.o3.lt
  have lb := h.bx.lt
  have li := h.ix.lt
  refine ⟨ho, h.o2.other hg (fun k e q => h.n12 k q e), h.o3.other hg (fun k e q => h.n13 k q e), h.bx.grown hg (ne_of_opt fun j e => (h.b1 j e).1), h.ix.grown hg (ne_of_opt fun j e => (h.b1 j e).2), h.grown_be h.o1 hg, ?_, ?_, h.n23, ?_, h.b2, h.b3, h.nb⟩
  · intro k e q
    rcases hf with f | f
    · exact h.n12 k (f ▸ e) q
    · rw [f] at e; cases e; have := l2 _ q; omega
  · intro k e q
    rcases hf with f | f
    · exact h.n13 k (f ▸ e) q
    · rw [f] at e; cases e; have := l3 _ q; omega
  · intro k e
    rcases hf with f | f
    · exact h.b1 k (f ▸ e)
    · rw [f] at e; cases e; exact ⟨by omega, by omega⟩

theorem Lv.app2 (h : Lv w wr bi bl i v1 v2 v3 u d z) (ho : OwnL w' w.heap.size v' (d ++ [x])) (hg : wr.grownBy w' v2.ownBlock) (hf : v'.ownBlock = v2.ownBlock ∨ v'.ownBlock = some wr.heap.size) : Lv w w' bi bl i v1 v' v3 u (d ++ [x]) z := by
  have l1 := h.o1.lt
  have l3 := h.o3.lt
  have lb := h.bx.lt
  have li := h.ix.lt
  refine ⟨h.o1.other hg (fun k e q => h.n12 k e q), ho, h.o3.other hg (fun k e q => h.n23 k q e), h.bx.grown hg (ne_of_opt fun j e => (h.b2 j e).1), h.ix.grown hg (ne_of_opt fun j e => (h.b2 j e).2), h.grown_be h.o2 hg, ?_, h.n13, ?_, h.b1, ?_, h.b3, h.nb⟩
  · intro k e q
    rcases hf with f | f
    · exact h.n12 k e (f ▸ q)
    · rw [f] at q; cases q; have := l1 _ e; omega
  · intro k e q
    rcases hf with f | f
    · exact h.n23 k (f ▸ e) q
    · rw [f] at e; cases e; have := l3 _ q; omega
  · intro k e
    rcases hf with f | f
    · exact h.b2 k (f ▸ e)
    · rw [f] at e; cases e; exact ⟨by omega, by omega⟩

theorem grown_cell (w : World) (b : Nat) (v : Value) : w.grownBy (w.setCell ⟨b, 0, none⟩ v) (some b) := ⟨rfl, rfl, rfl, by simp, fun k _ hk => heap_setCell_other w ⟨b, 0, none⟩ k v (fun e => hk (by simp [e]))⟩

theorem OwnL.cell {B : Nat} {v : Value} {l : List Ln} (h : OwnL wr B v l) {q : Nat} (hq : ∀ k, v.ownBlock = some k → k ≠ q) (y : Value) : OwnL (wr.setCell ⟨q, 0, none⟩ y) B v l :=
  ⟨World.ownsRow.kept h.1 (grown_cell wr q y) (by
    cases e : v.ownBlock with
    | none => exact Or.inl rfl
    | some k => exact Or.inr (fun h' => hq k e (by injection h'))), h.2⟩

theorem Lv.app3 (h : Lv w wr bi bl i v1 v2 v3 u d z) (ho : OwnL w' w.heap.size v' (z ++ [x])) (hg : wr.grownBy w' v3.ownBlock) (hf : v'.ownBlock = v3.ownBlock ∨ v'.ownBlock = some wr.heap.size) : Lv w (w'.setCell ⟨bl, 0, none⟩ v') bi bl i v1 v2 v' u d (z ++ [x]) := by
  have l1 := h.o1.lt
  have l2 := h.o2.lt
  have lb := h.bx.lt
  have li := h.ix.lt
  have g3 : ∀ k, v'.ownBlock = some k → k ≠ bl ∧ k ≠ bi := by
    intro k e
    rcases hf with f | f
    · exact h.b3 k (f ▸ e)
    · rw [f] at e; cases e; exact ⟨by omega, by omega⟩
  refine ⟨(h.o1.other hg (fun k e q => h.n13 k e q)).cell (fun k e => (h.b1 k e).1) _, (h.o2.other hg (fun k e q => h.n23 k e q)).cell (fun k e => (h.b2 k e).1) _, ho.cell (fun k e => (g3 k e).1) _,
    (h.bx.grown hg (ne_of_opt fun j e => (h.b3 j e).1)).put _, (h.ix.grown hg (ne_of_opt fun j e => (h.b3 j e).2)).aside h.nb.1.symm _, (h.grown_be h.o3 hg).setCell (p := ⟨bl, 0, none⟩) h.nb.2 _, h.n12, ?_, ?_, h.b1, h.b2, g3, h.nb⟩
  · intro k e q
    rcases hf with f | f
    · exact h.n13 k e (f ▸ q)
    · rw [f] at q; cases q; have := l1 _ e; omega
  · intro k e q
    rcases hf with f | f
    · exact h.n23 k e (f ▸ q)
    · rw [f] at q; cases q; have := l2 _ e; omega
end
end Go.Proofs.YtbhaoaobhgilkaaGreat
