/- Shorter names for steps that many walks take.; Contracts of package poly: sum.; Contracts of package poly: fit and fits; slices.IndexFunc and ContainsFunc at integers. -/
import Derived.Deep.RegionHeld3
import Derived.KernelRfl
import Derived.Test.YtbhaoaobhgilkaaGreatWm2
import Derived.Shelf.Abstract

namespace Go.Proofs.YtbhaoaobhgilkaaGreat

theorem tkH {P : Program} {md : Region.Mode} {ops : Array Oper} {Q : Exit → Act → World → Prop} {S : World → Prop} {i : Nat} {oi : Oper} {v : Value} {fuel : Nat} {listed : Array Bool} {a : Act} {w : World} (hi : ops[i]? = some oi) (hy : YieldsIf P ops S oi v a) (hS : S w)
    (h : wpAnyH P md ops Q S fuel (listed.setIfInBounds i true) (a.put oi.dst v) w) (hs : Region.noSelect ops = true := by kernel_rfl) (hf : Region.free md ops listed i = true := by kernel_rfl) (hr : (Region.ready md ops listed).contains i = true := by kernel_rfl)
    (hQ : ∀ c a w, Q (.panic c) (a.put oi.dst v) w → Q (.panic c) a w := by exact fun _ _ _ h => h) : wpAnyH P md ops Q S (fuel + 1) listed a w := wpAnyH_take hi hs hf hr hQ hy hS h

theorem sA {α : Type _} {xs : List α} {i : Nat} (h : i < xs.toArray.size) : xs.toArray[i] = xs[i]'(by simpa using h) := List.getElem_toArray h

theorem sB {α : Type _} (a : α) (l : List α) (h : 0 < (a :: l).length) : (a :: l)[0] = a := List.getElem_cons_zero a l h

theorem sC {α : Type _} (a : α) (l : List α) (i : Nat) (h : i + 1 < (a :: l).length) : (a :: l)[i + 1] = l[i]'(by simpa using h) := List.getElem_cons_succ a l i h

theorem sD {α : Type _} (l : List α) (i : Nat) (a : α) : l.toArray.setIfInBounds i a = (l.set i a).toArray := List.setIfInBounds_toArray l i a

theorem sE {α : Type _} {x a : α} {xs : List α} : (x :: xs).set 0 a = a :: xs := List.set_cons_zero

theorem sF {α : Type _} {x a : α} {xs : List α} {i : Nat} : (x :: xs).set (i + 1) a = x :: xs.set i a := List.set_cons_succ

/-- All of them at once. -/
theorem sZ : (∀ (α : Type) (xs : List α) (i : Nat) (h : i < xs.toArray.size), xs.toArray[i] = xs[i]'(by simpa using h)) ∧ (∀ (α : Type) (a : α) (l : List α) (h : 0 < (a :: l).length), (a :: l)[0] = a) ∧
    (∀ (α : Type) (a : α) (l : List α) (i : Nat) (h : i + 1 < (a :: l).length), (a :: l)[i + 1] = l[i]'(by simpa using h)) ∧ (∀ (α : Type) (l : List α) (i : Nat) (a : α), l.toArray.setIfInBounds i a = (l.set i a).toArray) ∧
    (∀ (α : Type) (x a : α) (xs : List α), (x :: xs).set 0 a = a :: xs) ∧ (∀ (α : Type) (x a : α) (xs : List α) (i : Nat), (x :: xs).set (i + 1) a = x :: xs.set i a) :=
  ⟨fun _ _ _ h => sA h, fun _ a l h => sB a l h, fun _ a l i h => sC a l i h, fun _ l i a => sD l i a, fun _ _ _ _ => sE, fun _ _ _ _ _ => sF⟩
end Go.Proofs.YtbhaoaobhgilkaaGreat

namespace Go.Proofs.YtbhaoaobhgilkaaGreat
open Go.RowKit

theorem ln_loadAt {w : World} {b : Nat} {x : Ln} (h : Bk w b x) : (Instr.loadAt 82 (.pointer (some ⟨b, 0, none⟩))).run Tryz.prog w = .ok (.agg x.cs) w := by
  simp only [Instr.loadAt, Instr.sureAddr, Sem.run_bind, Sem.run_pure, Result.andThen_ok, ln_load h]

theorem yld_loadL {o : Oper} {a : Act} {w : World} (s : Operand) (ho : o.op = .load 82 s) (b : Nat) (hs : a.eval s = .pointer (some ⟨b, 0, none⟩)) {x : Ln} (hx : Bk w b x) : (execOp a.eval o).run Tryz.prog w = .ok (.value (.agg x.cs)) w := by
  have h := ln_loadAt hx
  generalize x.cs = V at *
  unfold execOp
  simp only [ho, hs, Sem.run_bind, Sem.run_pure, h, Result.andThen_ok]

theorem row_aside {w : World} {p : Addr} {v : Value} (h : w.cell? p = some v) {y : Nat} (hne : p.block ≠ y) (cs : Array Value) : (w.setRow y cs).cell? p = some v := by
  have e : (w.setRow y cs).heap[p.block]? = w.heap[p.block]? := setRow_other w y p.block cs hne
  unfold World.cell? at h ⊢
  rw [e]; exact h

theorem tdc {a d : Int} {m : Int} (h : -m ≤ a ∧ a ≤ m) : -m ≤ a.tdiv d ∧ a.tdiv d ≤ m := by
  have : (a.tdiv d).natAbs ≤ a.natAbs := by rw [Int.natAbs_tdiv]; exact Nat.div_le_self _ _
  omega

def sumG (x y : Ln) (i : Nat) : Int := Int.gcd (gA x.a i) (gA y.a i)

def sumL (x y : Ln) (i : Nat) : Ln := ((x.times ((-(gA y.a i)).tdiv (sumG x y i))).plus (y.times ((gA x.a i).tdiv (sumG x y i)))).low

set_option maxRecDepth 20000 in
set_option maxHeartbeats 1000000 in
theorem sum_any (x y : Ln) (i : Nat) (w : World) (hi : i < 6) (hx : Rg 2147483647 x) (hy : Rg 2147483647 y) (h0 : gA x.a i ≠ 0) :
    Calls Tryz.prog 88 #[.agg x.cs, .agg y.cs, .int .i64 i] w (Made (.agg (sumL x y i).cs) w) := by
  have hz := ln_zero
  obtain ⟨w0, hw0⟩ : ∃ w0, w0 = ((w.alloc (.cells x.cs 82)).alloc (.cells y.cs 82)).alloc (.cells ln0.cs 82) := ⟨_, rfl⟩
  have K0 := Lib.hid (show Bk w0 w.heap.size x by rw [hw0]; exact ((Bk.made w x hx.len).alloc _).alloc _)
  have K1 := Lib.hid (show Bk w0 (w.heap.size + 1) y by rw [hw0]; have := (Bk.made (w.alloc (.cells x.cs 82)) y hy.len).alloc (.cells ln0.cs 82); simpa using this)
  have K2 := Lib.hid (show Bk w0 (w.heap.size + 2) ln0 by rw [hw0]; have := Bk.made ((w.alloc (.cells x.cs 82)).alloc (.cells y.cs 82)) ln0 rfl; simpa using this)
  have E0 := Lib.hid (show Below w.heap.size w w0 by rw [hw0]; exact past_three (Below.refl _ _))
  have rx := hx.at hi
  have ry := hy.at hi
  obtain ⟨u, hu⟩ : ∃ u, u = gA x.a i := ⟨_, rfl⟩
  obtain ⟨v, hv⟩ : ∃ v, v = gA y.a i := ⟨_, rfl⟩
  rw [← hu] at rx
  rw [← hv] at ry
  obtain ⟨d, hd⟩ : ∃ d, d = sumG x y i := ⟨_, rfl⟩
  have d1 : d = (Int.gcd u v : Int) := by rw [hd, hu, hv]; rfl
  have PG := Lib.hid (fun W => pgcd_any u v W (by unfold A63; omega) (by unfold A63; omega))
  rw [← d1] at PG
  have dn : d ≠ 0 := by
    rw [d1]; intro q
    have : Int.gcd u v = 0 := by exact_mod_cast q
    rw [Int.gcd_eq_zero_iff] at this
    rw [hu] at this; exact h0 this.1
  have d0 : (d == 0) = false := by simpa using dn
  have hi6 : (i : Int) < 6 := by omega
  have c0 : w0.cell? ⟨w.heap.size, i, none⟩ = some (.int .i64 u) := by rw [hu]; exact K0.out.at hi
  have c1 : w0.cell? ⟨w.heap.size + 1, i, none⟩ = some (.int .i64 v) := by rw [hv]; exact K1.out.at hi
  have HZ := Lib.hid (show (sumL x y i).a.length = 6 from (((hx.times (c := (-(gA y.a i)).tdiv (sumG x y i)) (k := 2147483647) (by rw [← hv, ← hd]; exact tdc (by omega)) (by omega) (by omega)).plus (hy.times (c := (gA x.a i).tdiv (sumG x y i)) (k := 2147483647) (by rw [← hu, ← hd]; exact tdc (by omega)) (by omega) (by omega))).low).len)
  obtain ⟨p, hp⟩ : ∃ p, p = (-v).tdiv d := ⟨_, rfl⟩
  obtain ⟨q, hq⟩ : ∃ q, q = u.tdiv d := ⟨_, rfl⟩
  have rp : -2147483647 ≤ p ∧ p ≤ 2147483647 := by rw [hp]; exact tdc (by omega)
  have rq : -2147483647 ≤ q ∧ q ≤ 2147483647 := by rw [hq]; exact tdc (by omega)
  have R1 := hx.times rp (by omega) (by omega)
  have R2 := hy.times rq (by omega) (by omega)
  have T1 := Lib.hid (fun W => times_any x p W hx.len (fun z hz => by have := mul_in (hx.a z hz) rp (by omega) (by omega); unfold I64; omega) (by have := mul_in hx.b rp (by omega) (by omega); unfold I64; omega))
  have T2 := Lib.hid (fun W => times_any y q W hy.len (fun z hz => by have := mul_in (hy.a z hz) rq (by omega) (by omega); unfold I64; omega) (by have := mul_in hy.b rq (by omega) (by omega); unfold I64; omega))
  have PL := Lib.hid (fun W => plus_any (x.times p) (y.times q) W R1.len R2.len (fun t ht => by have := R1.at ht; have := R2.at ht; unfold I64; omega) (by have := R1.b; have := R2.b; unfold I64; omega))
  have R3 := R1.plus R2
  have LO := Lib.hid (fun W => lowest_any ((x.times p).plus (y.times q)) W R3.len (fun z hz => by have := R3.a z hz; unfold A63; omega) (by have := R3.b; unfold A63; omega))
  rw [show ((x.times p).plus (y.times q)).low = sumL x y i by unfold sumL; rw [← hd, ← hu, ← hv, ← hp, ← hq]] at LO
  have hq1 : (-v).tdiv d = p := hp.symm
  have hq2 : u.tdiv d = q := hq.symm
  have hn : IntKind.i64.wrap (-v) = -v := wrap_in _ (by omega) (by omega)
  have hw1 : IntKind.i64.wrap p = p := wrap_in _ (by omega) (by omega)
  have hw2 : IntKind.i64.wrap q = q := wrap_in _ (by omega) (by omega)
  have dz : (d = 0) = False := by simpa using dn
  have KS := Lib.hid (show ∀ W, Below w0.heap.size w0 W → Bk W w.heap.size x ∧ Bk W (w.heap.size + 1) y ∧ W.cell? ⟨w.heap.size, i, none⟩ = some (.int .i64 u) ∧ W.cell? ⟨w.heap.size + 1, i, none⟩ = some (.int .i64 v) from fun W h => ⟨K0.out.kept h, K1.out.kept h, kept h c0, kept h c1⟩)
  clear R1 R2 R3 rp rq hp hq hu hv hd d1 dn h0 hx hy
  go_enter Tryz.func88, Tryz.ntmps88
  go_upto_region 1 with (fail)
  rw [← hw0]
  clear hw0 hz
  go_quiet ((go_at_call 120; refine Calls.quiet_of (PG.out _)))
  obtain ⟨w4, hw4⟩ : ∃ w4, w4 = (w0.drewN nq).drew := ⟨_, rfl⟩
  have B4 := Lib.hid (show Below w0.heap.size w0 w4 by rw [hw4]; exact (below_drewN (Below.refl _ _) nq).drew)
  go_upto_region 2 with (fail)
  refine wp_region_held_drew (S := (fun W => Bk W w.heap.size x ∧ Bk W (w.heap.size + 1) y ∧ W.cell? ⟨w.heap.size, i, none⟩ = some (.int .i64 u) ∧ W.cell? ⟨w.heap.size + 1, i, none⟩ = some (.int .i64 v))) (by kernel_rfl) (by rw [← hw4]; exact KS.out _ B4.out) (fun h0 => ?_)
  rw [← hw4] at h0 ⊢
  clear hw4
  refine tkH (i := 0) (v := (.agg x.cs)) rfl (Or.inl ⟨by rfl, fun w' hS => yld_loadL _ rfl _ rfl hS.1⟩) h0 ?_
  simp only [Act.put, sA, sB, sD, sE, sF]
  refine tkH (i := 1) (v := ?v2) rfl (Or.inl ⟨by rfl, ?hy2⟩) h0 ?rest2
  case hy2 => (intro w' hS; (try dsimp only at hS); go_simp; try (with_reducible rfl))
  simp only [Act.put, sZ]
  refine tkH (i := 2) (v := ?v3) rfl (Or.inl ⟨by rfl, ?hy3⟩) h0 ?rest3
  case hy3 => (intro w' hS; (try dsimp only at hS); go_simp; try (with_reducible rfl))
  simp only [Act.put, sZ]
  refine tkH (i := 3) (v := ?v4) rfl (Or.inl ⟨by rfl, ?hy4⟩) h0 ?rest4
  case hy4 => (intro w' hS; (try dsimp only at hS); go_simp; try (with_reducible rfl))
  simp only [Act.put, sZ]
  refine tkH (i := 4) (v := ?v5) rfl (Or.inl ⟨by rfl, ?hy5⟩) h0 ?rest5
  case hy5 => (intro w' hS; (try dsimp only at hS); go_simp; try (with_reducible rfl))
  simp only [Act.put, sZ]
  refine tkH (i := 5) (v := ?v6) rfl (Or.inl ⟨by rfl, ?hy6⟩) h0 ?rest6
  case hy6 => (intro w' hS; (try dsimp only at hS); go_simp; try (with_reducible rfl))
  simp only [Act.put, sZ]
  refine tkH (i := 6) (v := ?v7) rfl (Or.inl ⟨by rfl, ?hy7⟩) h0 ?rest7
  case hy7 => (intro w' hS; (try dsimp only at hS); go_simp; try (with_reducible rfl))
  simp only [Act.put, sZ]
  refine tkH (i := 7) (v := ?v8) rfl (Or.inl ⟨by rfl, ?hy8⟩) h0 ?rest8
  case hy8 => (intro w' hS; (try dsimp only at hS); go_simp; try (with_reducible rfl))
  simp only [Act.put, sZ]
  refine tkH (i := 9) (v := (.agg y.cs)) rfl (Or.inl ⟨by rfl, fun w' hS => yld_loadL _ rfl _ rfl hS.2.1⟩) h0 ?_
  simp only [Act.put, sZ]
  refine tkH (i := 10) (v := ?v10) rfl (Or.inl ⟨by rfl, ?hy10⟩) h0 ?rest10
  case hy10 => (intro w' hS; (try dsimp only at hS); go_simp; try (with_reducible rfl))
  simp only [Act.put, sZ]
  refine tkH (i := 11) (v := ?v11) rfl (Or.inl ⟨by rfl, ?hy11⟩) h0 ?rest11
  case hy11 => (intro w' hS; (try dsimp only at hS); go_simp; try (with_reducible rfl))
  simp only [Act.put, sZ]
  refine tkH (i := 12) (v := ?v12) rfl (Or.inl ⟨by rfl, ?hy12⟩) h0 ?rest12
  case hy12 => (intro w' hS; (try dsimp only at hS); go_simp; try (with_reducible rfl))
  simp only [Act.put, sZ]
  refine tkH (i := 13) (v := ?v13) rfl (Or.inl ⟨by rfl, ?hy13⟩) h0 ?rest13
  case hy13 => (intro w' hS; (try dsimp only at hS); go_simp; try (with_reducible rfl))
  simp only [Act.put, sZ]
  refine tkH (i := 14) (v := ?v14) rfl (Or.inl ⟨by rfl, ?hy14⟩) h0 ?rest14
  case hy14 => (intro w' hS; (try dsimp only at hS); go_simp; try (with_reducible rfl))
  simp only [Act.put, sZ]
  refine tkH (i := 15) (v := ?v15) rfl (Or.inl ⟨by rfl, ?hy15⟩) h0 ?rest15
  case hy15 => (intro w' hS; (try dsimp only at hS); go_simp; try (with_reducible rfl))
  simp only [Act.put, sZ]
  refine wpAnyH_ready (rs := [8]) (by kernel_rfl) (by simp) (AllReadyH.cons rfl (fun K hK => ?_) AllReadyH.nil)
  rw [if_pos (by rfl)]
  go_simp
  refine (T1.out _).mono ?_
  rintro e w5 ⟨rfl, hb⟩
  have B5 := Lib.hid (below_on B4.out hb)
  clear hb
  go_simp
  refine hK.out _ _ (KS.out _ B5.out) (fun h0_1 => ?_)
  clear hK K h0
  refine wpAnyH_ready (rs := [16]) (by kernel_rfl) (by simp) (AllReadyH.cons rfl (fun K hK => ?_) AllReadyH.nil)
  rw [if_pos (by rfl)]
  go_simp
  refine (T2.out _).mono ?_
  rintro e w6 ⟨rfl, hb⟩
  have B6 := Lib.hid (below_on B5.out hb)
  clear hb
  go_simp
  refine hK.out _ _ (KS.out _ B6.out) (fun h0_2 => ?_)
  clear hK K h0_1
  refine wpAnyH_ready (rs := [17]) (by kernel_rfl) (by simp) (AllReadyH.cons rfl (fun K hK => ?_) AllReadyH.nil)
  rw [if_pos (by rfl)]
  go_simp
  refine (PL.out _).mono ?_
  rintro e w7 ⟨rfl, hb⟩
  have B7 := Lib.hid (below_on B6.out hb)
  clear hb
  go_simp
  refine hK.out _ _ (KS.out _ B7.out) (fun h0_3 => ?_)
  clear hK K h0_2
  refine wpAnyH_ready (rs := [18]) (by kernel_rfl) (by simp) (AllReadyH.cons rfl (fun K hK => ?_) AllReadyH.nil)
  rw [if_pos (by rfl)]
  go_simp
  refine (LO.out _).mono ?_
  rintro e w8 ⟨rfl, hb⟩
  have B8 := Lib.hid (below_on B7.out hb)
  clear hb
  go_simp
  refine hK.out _ _ (KS.out _ B8.out) (fun h0_4 => ?_)
  clear hK K h0_3
  refine wpAnyH_ready (rs := [19]) (by kernel_rfl) (by simp) (AllReadyH.cons rfl (fun K hK => ?_) AllReadyH.nil)
  rw [if_pos (by rfl)]
  refine wp_store_row _ _ _ rfl (w.heap.size + 2) (sumL x y i).cs rfl rfl _ _ (K2.out.kept B8.out).1 (by rw [Ln.size HZ.out]; exact ln_size) (by rw [Ln.size (K2.out.kept B8.out).2, Ln.size HZ.out]) (Ln.one _) ?_
  refine hK.out _ _ (⟨(KS.out _ B8.out).1.setAside (by omega) _, (KS.out _ B8.out).2.1.setAside (by omega) _, row_aside (KS.out _ B8.out).2.2.1 (by show w.heap.size ≠ w.heap.size + 2; omega) _, row_aside (KS.out _ B8.out).2.2.2 (by show w.heap.size + 1 ≠ w.heap.size + 2; omega) _⟩) (fun h0_5 => ?_)
  clear hK K h0_4
  refine wpAnyH_done (by kernel_rfl) ?_ _
  go_wp2_with fail
  exact bodyPost_ret (results_ln Tryz.results88 _ rfl ((K2.out.kept B8.out).setRow HZ.out)) rfl ⟨rfl, Below.setRow (below_on E0.out B8.out) (by omega) _⟩
end Go.Proofs.YtbhaoaobhgilkaaGreat

namespace Go.Proofs.YtbhaoaobhgilkaaGreat
open Go.RowKit

def ixf {α : Type} (p : α → Bool) (l : List α) : Int := match l.findIdx? p with
  | some i => (i : Int)
  | none => -1

theorem ixf_any {α : Type} (p : α → Bool) (l : List α) : decide (0 ≤ ixf p l) = l.any p := by
  unfold ixf
  cases h : l.findIdx? p with
  | some i =>
    have := List.findIdx?_eq_some_iff_getElem.1 h
    obtain ⟨h1, h2, _⟩ := this
    rw [show l.any p = true from List.any_eq_true.2 ⟨_, List.getElem_mem h1, h2⟩]
    simp
  | none =>
    rw [List.findIdx?_eq_none_iff] at h
    rw [show l.any p = false from List.any_eq_false.2 fun x hx => by rw [h x hx]; simp]
    simp

theorem ixf_at {α : Type} {p : α → Bool} {l : List α} {t : Nat} (ht : t < l.length) (h : ∀ i, ∀ q : i < l.length, i < t → p l[i] = false) (hp : p l[t] = true) : ixf p l = t := by
  unfold ixf
  rw [List.findIdx?_eq_some_iff_getElem.2 ⟨ht, hp, fun j hj => by rw [h j (by omega) hj]; simp⟩]

theorem ixf_none {α : Type} {p : α → Bool} {l : List α} (h : ∀ i, ∀ q : i < l.length, p l[i] = false) : ixf p l = -1 := by
  unfold ixf
  rw [List.findIdx?_eq_none_iff.2 fun x hx => by obtain ⟨i, hi, rfl⟩ := List.getElem_of_mem hx; exact h i hi]

def Rd1 (w : World) (ao : Option Addr) (l : List Int) : Prop := ∀ t, t < l.length → ∃ a, ao = some a ∧ w.cell? (a.add t) = some (.int .i64 (gA l t))

theorem Rd1.on {w w' : World} {ao : Option Addr} {l : List Int} (h : Rd1 w ao l) (hb : Below w.heap.size w w') : Rd1 w' ao l := fun t ht => by
  obtain ⟨a, e, c⟩ := h t ht
  exact ⟨a, e, kept hb c⟩

theorem Bk.rd {w : World} {b : Nat} {x : Ln} (h : Bk w b x) : Rd1 w (some ⟨b, 0, none⟩) x.a := fun t ht => ⟨_, rfl, by rw [addr_add, Nat.zero_add]; exact h.at (by have := h.2; omega)⟩

def Tells (P : Program) (fv : Value) (w : World) {α : Type} (enc : α → Value) (p : α → Bool) (l : List α) : Prop :=
  ∃ g lb, fv = .func (.func g) #[] lb ∧ (∀ args w, (callFunc g args).run P w = .ok (.enter g args) w) ∧ ∀ W, Below w.heap.size w W → ∀ x ∈ l, Calls P g (#[enc x] ++ lb) W (Made (.bool (p x)) W)

set_option maxRecDepth 20000 in
set_option maxHeartbeats 1000000 in
theorem idxI_any (l : List Int) (ao : Option Addr) (cap : Nat) (fv : Value) (p : Int → Bool) (w : World) (hl : l.length ≤ 1000000) (hR : Rd1 w ao l) (hp : Tells Tryz.prog fv w (Value.int .i64) p l) :
    Calls Tryz.prog 147 #[.slice ao l.length cap, fv] w (Made (.int .i64 (ixf p l)) w) := by
  obtain ⟨g, lb, rfl, eg, hp⟩ := hp
  have HP := Lib.hid hp
  have HR := Lib.hid hR
  have NN := Lib.hid (fun h => ixf_none (p := p) (l := l) h)
  obtain ⟨n, hn⟩ : ∃ n, n = l.length := ⟨_, rfl⟩
  have HN := Lib.hid hn
  have hle : n ≤ 1000000 := by omega
  rw [← hn]
  clear hp hR hl hn
  go_enter Tryz.func147, Tryz.ntmps147
  go_wp2_with fail
  go_loopw [8] (fun s wr => ∃ t : Nat, s = .int .i64 t ∧ t ≤ n ∧ Hid (Below w.heap.size w wr) ∧ Hid (∀ i, ∀ q : i < l.length, i < t → p l[i] = false)) (fun s _ => n - (intOf s).toNat)
  case atStart => exact ⟨0, rfl, by omega, Lib.hid (Below.refl _ _), Lib.hid (fun i q h => by omega)⟩
  case round =>
    obtain ⟨t, rfl, ht, HB, HF⟩ := hrel
    by_cases htn : t < n
    · have hlt : t < l.length := by have := HN.out; omega
      obtain ⟨a, ha, c0⟩ := HR.out.on HB.out t hlt
      obtain ⟨v, hv⟩ : ∃ v, v = gA l t := ⟨_, rfl⟩
      have ev : l[t] = v := by rw [hv]; simp [gA, hlt]
      rw [← hv] at c0
      have PV := Lib.hid (HP.out wr HB.out v (by rw [← ev]; exact List.getElem_mem hlt))
      cases hpv : p v
      · rw [hpv] at PV
        have HF' := Lib.hid (show ∀ i, ∀ q : i < l.length, i < t + 1 → p l[i] = false from fun i q h => by
          by_cases e : i = t
          · subst e; rw [ev]; exact hpv
          · exact HF.out i q (by omega))
        clear hpv ev hv hlt
        subst ha
        go_wp2_with fail
        refine PV.out.mono ?_
        rintro e w1 ⟨rfl, hb⟩
        have B1 := Lib.hid (below_on HB.out hb)
        clear hb c0
        go_wp2_with fail
        go_roundw
        case rel => exact ⟨t + 1, by go_num, by omega, B1, HF'⟩
        case measure => simp [intOf]; omega
      · rw [hpv] at PV
        have HF' := Lib.hid (show ixf p l = t from ixf_at hlt (fun i q h => HF.out i q h) (by rw [ev]; exact hpv))
        clear hpv ev hv hlt
        subst ha
        go_wp2_with fail
        refine PV.out.mono ?_
        rintro e w1 ⟨rfl, hb⟩
        have B1 := Lib.hid (below_on HB.out hb)
        clear hb c0
        go_wp2_with fail
        go_ret
        exact ⟨ret_int HF'.out.symm, B1.out⟩
    · have HF' := Lib.hid (show ixf p l = -1 from NN.out (fun i q => HF.out i q (by have := HN.out; omega)))
      go_wp2_with fail
      go_ret
      exact ⟨ret_int HF'.out.symm, HB.out⟩

set_option maxRecDepth 20000 in
set_option maxHeartbeats 1000000 in
theorem conI_any (l : List Int) (ao : Option Addr) (cap : Nat) (fv : Value) (p : Int → Bool) (w : World) (hl : l.length ≤ 1000000) (hR : Rd1 w ao l) (hp : Tells Tryz.prog fv w (Value.int .i64) p l) :
    Calls Tryz.prog 116 #[.slice ao l.length cap, fv] w (Made (.bool (l.any p)) w) := by
  have IX := Lib.hid (idxI_any l ao cap fv p w hl hR hp)
  have HA := Lib.hid (ixf_any p l)
  generalize l.length = n at *
  generalize ixf p l = r at *
  generalize l.any p = b at *
  clear hR hp
  go_enter Tryz.func116, Tryz.ntmps116
  go_wp2_with fail
  refine IX.out.mono ?_
  rintro e w1 ⟨rfl, hb⟩
  have B1 := Lib.hid hb
  clear hb
  go_wp2_with fail
  go_ret
  exact ⟨ret_bool HA.out, B1.out⟩

def fitB (v : Int) : Bool := decide (-2147483647 ≤ v ∧ v ≤ 2147483647)

set_option maxRecDepth 20000 in
set_option maxHeartbeats 1000000 in
theorem fit1_any (v : Int) (w : World) : Calls Tryz.prog 117 #[.int .i64 v] w (Made (.bool (!fitB v)) w) := by
  have HF := Lib.hid (show (!fitB v) = (decide (v < -2147483647) || decide (2147483647 < v)) by unfold fitB; rw [Bool.eq_iff_iff]; simp <;> omega)
  generalize fitB v = b at *
  by_cases h : v < -2147483647
  · have q : decide (v < -2147483647) = true := by simpa using h
    rw [q, Bool.true_or] at HF
    clear h
    go_enter Tryz.func117, Tryz.ntmps117
    go_wp2_with fail
    go_ret
    exact ⟨ret_bool HF.out.symm, Below.refl _ _⟩
  · have q : decide (v < -2147483647) = false := by simpa using h
    rw [q, Bool.false_or] at HF
    clear h
    go_enter Tryz.func117, Tryz.ntmps117
    go_wp2_with fail
    go_ret
    exact ⟨ret_bool HF.out.symm, Below.refl _ _⟩

theorem fit1_enters : ∀ args w, (callFunc 117 args).run Tryz.prog w = .ok (.enter 117 args) w := enters_of Tryz.func117 (by kernel_rfl) rfl

set_option maxRecDepth 20000 in
set_option maxHeartbeats 1000000 in
theorem fit_any (l : List Int) (ao : Option Addr) (cap : Nat) (w : World) (hl : l.length ≤ 1000000) (hR : Rd1 w ao l) :
    Calls Tryz.prog 81 #[.slice ao l.length cap] w (Made (.bool (l.all fitB)) w) := by
  have CO := Lib.hid (conI_any l ao cap (.func (.func 117) #[] #[]) (fun v => !fitB v) w hl hR ⟨_, _, rfl, fit1_enters, fun W _ v _ => fit1_any v W⟩)
  have HA := Lib.hid (show (!(l.any fun v => !fitB v)) = l.all fitB by rw [List.not_any_eq_all_not]; simp)
  generalize l.length = n at *
  generalize (l.any fun v => !fitB v) = b at *
  generalize l.all fitB = c at *
  clear hR
  go_enter Tryz.func81, Tryz.ntmps81
  go_wp2_with fail
  refine CO.out.mono ?_
  rintro e w1 ⟨rfl, hb⟩
  have B1 := Lib.hid hb
  clear hb
  go_wp2_with fail
  go_ret
  exact ⟨ret_bool HA.out, B1.out⟩

theorem run_wholeA (b : Nat) (w : World) : (Instr.sliceAt 80 (.pointer (some ⟨b, 0, none⟩)) none none none).run Tryz.prog w = .ok (.slice (some ⟨b, 0, none⟩) 6 6) w := by
  have ha : Tryz.prog.arrayLen 80 = 6 := by simp [Program.arrayLen]
  have he : Tryz.prog.elem 80 = 2 := by simp [Program.elem]
  rw [run_sliceAt_array_all w 80 ⟨b, 0, none⟩ (by rw [ha, he]; exact coef_ty)]
  rw [he, size_of i64_size]
  simp only [Result.andThen_ok, slicedAt, ha]
  rw [if_neg (by omega), addr_add]

def Ln.fits (x : Ln) : Bool := x.a.all fitB && fitB x.b

set_option maxRecDepth 20000 in
set_option maxHeartbeats 1000000 in
theorem fits_any (x : Ln) (w : World) (hx : x.a.length = 6) : Calls Tryz.prog 89 #[.agg x.cs] w (Made (.bool x.fits) w) := by
  obtain ⟨w0, hw0⟩ : ∃ w0, w0 = w.alloc (.cells x.cs 82) := ⟨_, rfl⟩
  have K0 := Lib.hid (show Bk w0 w.heap.size x by rw [hw0]; exact Bk.made w x hx)
  have E0 := Lib.hid (show Below w.heap.size w w0 by rw [hw0]; exact one_more _)
  have hs := run_wholeA w.heap.size
  have F1 := Lib.hid (show Calls Tryz.prog 81 #[.slice (some ⟨w.heap.size, 0, none⟩) 6 6] w0 (Made (.bool (x.a.all fitB)) w0) by
    have := fit_any x.a (some ⟨w.heap.size, 0, none⟩) 6 w0 (by omega) K0.out.rd
    rwa [hx] at this)
  have F2 := Lib.hid (fun (W : World) => fit_any [x.b] (some ⟨W.heap.size, 0, none⟩) 1 (W.alloc (.cells #[.int .i64 x.b] 2)) (by simp) (fun t ht => ⟨_, rfl, by
    have : t = 0 := by simpa using ht
    subst this
    rw [addr_add]; simp [gA]⟩))
  have HF := Lib.hid (show x.fits = (x.a.all fitB && [x.b].all fitB) by simp [Ln.fits])
  clear hx
  go_enter Tryz.func89, Tryz.ntmps89
  go_upto_region 1 with (fail)
  rw [← hw0]
  clear hw0
  go_wp2_with fail
  refine F1.out.mono ?_
  rintro e w1 ⟨rfl, hb⟩
  have B1 := Lib.hid (below_on E0.out hb)
  have c6 := (K0.out.kept hb).num
  clear hb
  cases h1 : x.a.all fitB
  · rw [h1] at HF
    go_wp2_with fail
    go_ret
    exact ⟨ret_bool (by rw [HF.out]; rfl), B1.out⟩
  · rw [h1] at HF
    go_wp2_with fail
    refine (F2.out w1).mono ?_
    rintro e w2 ⟨rfl, hb⟩
    have B2 := Lib.hid (below_on B1.out (past_one hb))
    clear hb
    generalize [x.b].all fitB = r at *
    go_wp2_with fail
    go_ret
    exact ⟨ret_bool (by rw [HF.out]; rfl), B2.out⟩
end Go.Proofs.YtbhaoaobhgilkaaGreat
