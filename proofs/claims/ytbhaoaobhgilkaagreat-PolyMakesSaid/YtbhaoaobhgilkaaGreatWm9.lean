/- The contract of package poly's leaveOut. -/
import Derived.Test.YtbhaoaobhgilkaaGreatWm8

namespace Go.Proofs.YtbhaoaobhgilkaaGreat
open Go.RowKit Go.Sort Go.Shelf

def pan (er : Int) : List PanicEntry := [{ v := .iface 32 (.int .i64 er), recovered := false }]

def LvRes (w : World) (l : List Ln) (i : Nat) (e : Ending) (w' : World) : Prop := (leaveE l i = 0 ∧ LRes w (leaveL l i) e w') ∨ (leaveE l i ≠ 0 ∧ e = .panicked (pan (leaveE l i)) ∧ Below w.heap.size w w')

attribute [local go_sem] Oper.semAt_some

theorem OwnL.form {w : World} {B : Nat} {v : Value} {l : List Ln} (h : OwnL w B v l) : ∃ ao cap, v = .slice ao l.length cap := by
  rcases h.1.2 with ⟨e, h0⟩ | ⟨g, cap, _, e, _⟩
  · exact ⟨none, 0, by rw [h0]; exact e⟩
  · exact ⟨_, _, e⟩

theorem sumL_len {x y : Ln} {i : Nat} (hx : x.a.length = 6) (hy : y.a.length = 6) : (sumL x y i).a.length = 6 := by
  unfold sumL Ln.low
  split <;> simp [Ln.plus, Ln.times, hx, hy]

theorem Ln.fits_rg {x : Ln} (hx : x.a.length = 6) (h : x.fits = true) : Rg 2147483647 x := by
  unfold Ln.fits at h
  rw [Bool.and_eq_true, List.all_eq_true] at h
  exact ⟨hx, fun v hv => by have := h.1 v hv; unfold fitB at this; simpa using this, by have := h.2; unfold fitB at this; simpa using this⟩

def sumP (i : Nat) (p : Ln × Ln) : Ln := sumL p.1 p.2 i

theorem OwnL.rd {w : World} {B : Nat} {ao : Option Addr} {cap : Nat} {l : List Ln} (h : OwnL w B (.slice ao l.length cap) l) : RdL w ao l := by
  rcases h.1.2 with ⟨e, h0⟩ | ⟨g, c, _, e, _⟩
  · intro t ht; omega
  · injection e with e1 e2 e3
    subst e1
    exact h.rw'.rd

theorem cell_def {w : World} {D : Nat} {ds : Option (List Deferred)} (h : w.heap[D]? = some (.deferred ds)) {p : Addr} {v : Value} (hc : w.cell? p = some v) (o : Obj) : (w.putObj D o).cell? p = some v := by
  have hne : p.block ≠ D := by
    rintro rfl
    simp [World.cell?, h] at hc
  unfold World.cell? at hc ⊢
  rw [World.putObj_heap_other hne]; exact hc

theorem RdL.def {w : World} {D : Nat} {ds : Option (List Deferred)} {ao : Option Addr} {l : List Ln} (hr : RdL w ao l) (h : w.heap[D]? = some (.deferred ds)) (o : Obj) : RdL (w.putObj D o) ao l := fun t ht => by
  obtain ⟨a, e, c⟩ := hr t ht
  exact ⟨a, e, c.1, fun j v hv => cell_def h (c.2 j v hv) o⟩

structure LvI (w : World) (bi bl i : Nat) (zs : List Ln) (T : Nat → Prop) (A : World) (v : Value) : Prop where
  own : OwnL A w.heap.size v zs
  bx : Bx1 A bl v 66
  ix : Bx1 A bi (.int .i64 i) 3
  be : Below w.heap.size w A
  tl : T bl
  tv : ∀ k, v.ownBlock = some k → T k ∧ k ≠ bl
  ti : ¬ T bi
  lt : ∀ k, T k → k < A.heap.size ∧ w.heap.size ≤ k
section
variable {w A B : World} {bi bl i : Nat} {zs : List Ln} {T : Nat → Prop} {v : Value}

theorem LvI.stay (h : LvI w bi bl i zs T A v) {D : Nat} (k : Kept (fun k => k < D ∨ T k) A B) (hD : bi < D) (hw : w.heap.size ≤ D) : LvI w bi bl i zs T B v :=
  ⟨h.own.keptK k (fun j e => Or.inr (h.tv j e).1), h.bx.keptK k (Or.inr h.tl), h.ix.keptK k (Or.inl hD),
    h.be.trans (k.below w.heap.size h.be.size fun j hj => Or.inl (by omega)), h.tl, h.tv, h.ti, fun j q => ⟨Nat.lt_of_lt_of_le (h.lt j q).1 k.size, (h.lt j q).2⟩⟩

theorem LvI.on (h : LvI w bi bl i zs T A v) (k : Below A.heap.size A B) : LvI w bi bl i zs T B v :=
  ⟨h.own.on k, h.bx.kept k, h.ix.kept k, below_on h.be k, h.tl, h.tv, h.ti, fun j q => ⟨Nat.lt_of_lt_of_le (h.lt j q).1 k.size, (h.lt j q).2⟩⟩

theorem LvI.more (h : LvI w bi bl i zs T A v) {S : Nat → Prop} (hs : ∀ k, S k → k < A.heap.size ∧ w.heap.size ≤ k) (hi : ¬ S bi) : LvI w bi bl i zs (fun k => T k ∨ S k) A v :=
  ⟨h.own, h.bx, h.ix, h.be, Or.inl h.tl, fun k e => ⟨Or.inl (h.tv k e).1, (h.tv k e).2⟩, fun q => q.elim h.ti hi, fun k q => q.elim (h.lt k) (hs k)⟩

theorem LvI.app (h : LvI w bi bl i zs T A v) {v' : Value} {x : Ln} (ho : OwnL B w.heap.size v' (zs ++ [x])) (hg : A.grownBy B v.ownBlock) (hf : v'.ownBlock = v.ownBlock ∨ v'.ownBlock = some A.heap.size) :
    LvI w bi bl i (zs ++ [x]) (fun k => k = bl ∨ v'.ownBlock = some k) (B.setCell ⟨bl, 0, none⟩ v') v' := by
  have lb := h.bx.lt
  have li := h.ix.lt
  have nbl : bl ≠ bi := fun e => h.ti (e ▸ h.tl)
  have gv : ∀ k, v'.ownBlock = some k → k ≠ bl ∧ k ≠ bi ∧ w.heap.size ≤ k := by
    intro k e
    rcases hf with f | f
    · rw [f] at e
      have := h.tv k e
      exact ⟨this.2, fun q => h.ti (q ▸ this.1), (h.lt k this.1).2⟩
    · rw [f] at e; cases e
      have := h.be.size
      exact ⟨by omega, by omega, by omega⟩
  refine ⟨ho.cell (fun k e => (gv k e).1) _, (h.bx.grown hg (ne_of_opt fun j e => (h.tv j e).2)).put _, (h.ix.grown hg (ne_of_opt fun j e q => h.ti (q ▸ (h.tv j e).1))).aside nbl.symm _,
    (Below.grown h.be hg h.be.size (fun k hk => (World.ownsRow.lt h.own.1 k hk).1)).setCell (p := ⟨bl, 0, none⟩) (h.lt _ h.tl).2 _, Or.inl rfl, fun k e => ⟨Or.inr e, (gv k e).1⟩, ?_, ?_⟩
  · rintro (q | q)
    · exact nbl q.symm
    · exact (gv _ q).2.1 rfl
  · rintro k (q | q)
    · subst q; refine ⟨?_, (h.lt _ h.tl).2⟩
      have := hg.size; simp; omega
    · have := ho.lt k q
      exact ⟨by simpa using this, (gv k q).2.2⟩

theorem LvI.app_kept (h : LvI w bi bl i zs T A v) (hg : A.grownBy B v.ownBlock) (v' : Value) : Kept (fun k => ¬ T k) A (B.setCell ⟨bl, 0, none⟩ v') :=
  have k1 : Kept (fun k => ¬ T k) A B := ⟨hg.os, hg.tape, hg.output, hg.size, fun k hk q => hg.block k hk (fun e => q (h.tv k e.symm).1)⟩
  have g := grown_cell B bl v'
  k1.trans ⟨g.os, g.tape, g.output, g.size, fun k hk q => g.block k hk (fun e => by injection e with e; exact q (e ▸ h.tl))⟩
end

structure LvA (w : World) (D bi bl i : Nat) (zs : List Ln) (x : Ln × Ln) (T : Nat → Prop) (A : World) (v : Value) (q1 q2 : Nat) : Prop where
  i : LvI w bi bl i zs T A v
  b1 : Bk A q1 x.1
  b2 : Bk A q2 x.2
  t1 : T q1
  t2 : T q2

theorem LvA.stay {w A B : World} {D bi bl i : Nat} {zs : List Ln} {x : Ln × Ln} {T : Nat → Prop} {v : Value} {q1 q2 : Nat} (h : LvA w D bi bl i zs x T A v q1 q2) (k : Kept (fun k => k < D ∨ T k) A B) (hD : bi < D) (hw : w.heap.size ≤ D) : LvA w D bi bl i zs x T B v q1 q2 :=
  ⟨h.i.stay k hD hw, h.b1.of_block (k.block _ h.b1.lt (Or.inr h.t1)), h.b2.of_block (k.block _ h.b2.lt (Or.inr h.t2)), h.t1, h.t2⟩

set_option maxRecDepth 20000 in
theorem pairs_any (a1 a2 : Option Addr) (n1 n2 k1 k2 : Nat) (w : World) :
    Calls Tryz.prog 87 #[.slice a1 n1 k1, .slice a2 n2 k2] w (fun e w' => e = .returned (.func (.func 119) #[] #[.pointer (some ⟨w.heap.size, 0, none⟩), .pointer (some ⟨w.heap.size + 1, 0, none⟩)])
      ∧ w' = (w.alloc (.cells #[.slice a1 n1 k1] 66)).alloc (.cells #[.slice a2 n2 k2] 66)) := by
  go_enter Tryz.func87, Tryz.ntmps87
  go_wp2_with fail
  go_ret
  exact ⟨by first | rfl | simp, by first | rfl | simp⟩

set_option maxRecDepth 100000 in
set_option maxHeartbeats 8000000 in
theorem leave_any (l : List Ln) (ao : Option Addr) (cap i : Nat) (w : World) (hl : l.length ≤ 2000) (hi : i < 6) (hR : RdL w ao l) (hg : ∀ x ∈ l, Rg 2147483647 x) :
    Calls Tryz.prog 44 #[.slice ao l.length cap, .int .i64 i] w (LvRes w l i) := by
  have hz := ln_zero
  have HG := Lib.hid hg
  have hi' := hi
  have HR := Lib.hid hR
  obtain ⟨n, hn⟩ : ∃ n, n = l.length := ⟨_, rfl⟩
  have HN := Lib.hid hn
  have hle : n ≤ 2000 := by omega
  rw [← hn]
  have hi6 : (i : Int) < 6 := by omega
  obtain ⟨bi, hbi⟩ : ∃ bi, bi = w.heap.size := ⟨_, rfl⟩
  obtain ⟨bl, hbl⟩ : ∃ bl, bl = w.heap.size + 1 := ⟨_, rfl⟩
  obtain ⟨w0, hw0⟩ : ∃ w0, w0 = (w.alloc (.cells #[.int .i64 i] 3)).alloc (.cells #[.slice none 0 0] 66) := ⟨_, rfl⟩
  have E0 := Lib.hid (show Below w.heap.size w w0 by rw [hw0]; exact past_two (Below.refl _ _))
  have L0 := Lib.hid (show Lv w w0 bi bl i (.slice none 0 0) (.slice none 0 0) (.slice none 0 0) [] [] [] from by
    refine ⟨OwnL.nil _ _, OwnL.nil _ _, OwnL.nil _ _, ?_, ?_, E0.out, ?_, ?_, ?_, ?_, ?_, ?_, by omega, by omega⟩
    · rw [hw0, hbl]; have := Bx1.made (w.alloc (.cells #[.int .i64 i] 3)) (.slice none 0 0) 66; simpa using this
    · rw [hw0, hbi]; exact (Bx1.made w (.int .i64 i) 3).kept (one_more _)
    all_goals (intro k e; cases e))
  clear hl hR hg hn
  refine (callsIn_wide (n := 10)).1 (callsIn_of_wpAt Tryz.func44 rfl trivial rfl ?_)
  simp only [Tryz.ntmps44, List.size_toArray, List.length_cons, List.length_nil, Nat.reduceAdd, Nat.reduceSub, Array.replicate_succ, Array.replicate_zero, List.push_toArray, List.append_toArray, List.nil_append, List.cons_append]
  refine wpAt_seq (wpAt_of_wpIn (wpIn_wide.2 ?_))
  go_wp2_with fail
  show WpAt _ _ _ _ _ _ _ _
  refine wpAt_seq (wpAt_of_wpIn (wpIn_wide.2 ?_))
  go_wp2_with fail
  show WpAt _ _ _ _ _ _ _ _
  rw [← hw0, ← hbl, ← hbi]
  have HBI := Lib.hid hbi
  have HBL := Lib.hid hbl
  clear hw0 hbi hbl
  refine wpAt_seq (wpAt_of_wpIn (wpIn_wide.2 ?_))
  go_wp2_with fail
  go_loopw [5, 6, 15] (fun v1 v2 s wr => ∃ (t : Nat) (v3 : Value), s = .int .i64 t ∧ t ≤ n ∧ Hid (Lv w wr bi bl i v1 v2 v3 (ups (l.take t) i) (dns (l.take t) i) (zrs (l.take t) i))) (fun _ _ s _ => n - (intOf s).toNat)
  case atStart => exact ⟨0, .slice none 0 0, rfl, by omega, Lib.hid (by simpa [ups, dns, zrs] using L0.out)⟩
  case round =>
    obtain ⟨t, v3, rfl, ht, HL⟩ := hrel
    by_cases htn : t < n
    · have hl1 : t < l.length := by have := HN.out; omega
      obtain ⟨a, ha, hla⟩ := HR.out.on HL.out.be t hl1
      obtain ⟨x, hx⟩ : ∃ x, x = l[t] := ⟨_, rfl⟩
      rw [← hx] at hla
      have LA := Lib.hid hla
      have GX := Lib.hid (show Rg 2147483647 x by rw [hx]; exact HG.out _ (List.getElem_mem _))
      obtain ⟨u, hu⟩ : ∃ u, u = gA x.a i := ⟨_, rfl⟩
      have US := Lib.hid (show ups (l.take (t + 1)) i = ups (l.take t) i ++ (if decide (0 < u) then [x] else []) by rw [hu, hx]; exact filt_snoc hl1)
      have DS := Lib.hid (show dns (l.take (t + 1)) i = dns (l.take t) i ++ (if decide (u < 0) then [x] else []) by rw [hu, hx]; exact filt_snoc hl1)
      have ZS := Lib.hid (show zrs (l.take (t + 1)) i = zrs (l.take t) i ++ (if decide (u = 0) then [x] else []) by rw [hu, hx]; exact filt_snoc hl1)
      have UL := Lib.hid (show (ups (l.take t) i).length ≤ 2000 by unfold ups; refine Nat.le_trans (List.length_filter_le _ _) ?_; simp; omega)
      have DL := Lib.hid (show (dns (l.take t) i).length ≤ 2000 by unfold dns; refine Nat.le_trans (List.length_filter_le _ _) ?_; simp; omega)
      have ZL := Lib.hid (show (zrs (l.take t) i).length ≤ 2000 by unfold zrs; refine Nat.le_trans (List.length_filter_le _ _) ?_; simp; omega)
      generalize ups (l.take t) i = U at *
      generalize dns (l.take t) i = D at *
      generalize zrs (l.take t) i = Z at *
      clear hla hx hl1
      subst ha
      obtain ⟨q, hq⟩ : ∃ q, q = wr.heap.size := ⟨_, rfl⟩
      have N1 := Lib.hid (show Bk (wr.alloc (.cells ln0.cs 82)) wr.heap.size ln0 from Bk.made wr ln0 rfl)
      have N2 := Lib.hid (N1.out.setRow GX.out.len)
      have B2 := Lib.hid (Below.setRow ((Below.refl wr.heap.size wr).alloc (Nat.le_refl _) (.cells ln0.cs 82)) (b := wr.heap.size) (Nat.le_refl _) x.cs)
      go_upto_region 6 with (first | refine wpl_loadP rfl _ rfl _ rfl x LA.out ?_ | refine wpl_store rfl _ _ rfl _ _ rfl rfl _ N1.out GX.out.len ?_)
      generalize (wr.alloc (.cells ln0.cs 82)).setRow wr.heap.size x.cs = w1 at *
      have H2 := Lib.hid (HL.out.on B2.out)
      rw [← hq] at N2 ⊢
      clear N1 B2 hq LA HL wr
      have c0 : w1.cell? ⟨q, i, none⟩ = some (.int .i64 u) := by rw [hu]; exact N2.out.at hi'
      have c1 : w1.cell? ⟨bi, 0, none⟩ = some (.int .i64 i) := H2.out.ix.cell
      have NX := Lib.hid N2.out.lnAt
      clear hi'
      by_cases hp : 0 < u
      · have e1 : decide (0 < u) = true := by simpa using hp
        have e2 : decide (u < 0) = false := by simp; omega
        have e3 : decide (u = 0) = false := by simp; omega
        rw [e1, if_pos rfl] at US
        rw [e2] at DS
        rw [e3] at ZS
        clear e1 e2 e3
        have B3 := Lib.hid (one_more (w1 := w1) (.cells x.cs 82))
        have H3 := Lib.hid (H2.out.on B3.out)
        have M3 := Lib.hid (Bk.made w1 x GX.out.len).lnAt
        have z3 : w.heap.size ≤ (w1.alloc (.cells x.cs 82)).heap.size := H3.out.be.size
        go_wp2_with (first | refine wpl_loadP rfl _ rfl _ rfl x NX.out ?_ | refine wpl_bs1 rfl _ rfl x rfl GX.out.len ?_ | (at_builtin; refine wpl_appL rfl _ _ rfl w.heap.size _ _ x rfl H3.out.o1 _ _ rfl M3.out (by have := UL.out; omega) z3 ?_))
        intro v' w5 o5 g5 f5
        have H5 := Lib.hid (H3.out.app1 o5 g5 (by rw [World.size_alloc]; exact f5))
        clear o5 g5 f5
        go_wp2_with fail
        go_roundw
        case rel => exact ⟨t + 1, v3, by go_num, by omega, Lib.hid (by rw [US.out, DS.out, ZS.out]; simpa using H5.out)⟩
        case measure => simp [intOf]; omega
      · by_cases hm : u < 0
        · have e1 : decide (0 < u) = false := by simpa using hp
          have e2 : decide (u < 0) = true := by simpa using hm
          have e3 : decide (u = 0) = false := by simp; omega
          rw [e1] at US
          rw [e2, if_pos rfl] at DS
          rw [e3] at ZS
          clear e1 e2 e3
          have B3 := Lib.hid (one_more (w1 := w1) (.cells x.cs 82))
          have H3 := Lib.hid (H2.out.on B3.out)
          have M3 := Lib.hid (Bk.made w1 x GX.out.len).lnAt
          have z3 : w.heap.size ≤ (w1.alloc (.cells x.cs 82)).heap.size := H3.out.be.size
          go_wp2_with (first | refine wpl_loadP rfl _ rfl _ rfl x NX.out ?_ | refine wpl_bs1 rfl _ rfl x rfl GX.out.len ?_ | (at_builtin; refine wpl_appL rfl _ _ rfl w.heap.size _ _ x rfl H3.out.o2 _ _ rfl M3.out (by have := DL.out; omega) z3 ?_))
          intro v' w5 o5 g5 f5
          have H5 := Lib.hid (H3.out.app2 o5 g5 (by rw [World.size_alloc]; exact f5))
          clear o5 g5 f5
          go_wp2_with fail
          go_roundw
          case rel => exact ⟨t + 1, v3, by go_num, by omega, Lib.hid (by rw [US.out, DS.out, ZS.out]; simpa using H5.out)⟩
          case measure => simp [intOf]; omega
        · have e1 : decide (0 < u) = false := by simpa using hp
          have e2 : decide (u < 0) = false := by simpa using hm
          have e3 : decide (u = 0) = true := by simp; omega
          rw [e1] at US
          rw [e2] at DS
          rw [e3, if_pos rfl] at ZS
          clear e1 e2 e3
          have B3 := Lib.hid (one_more (w1 := w1) (.cells x.cs 82))
          have H3 := Lib.hid (H2.out.on B3.out)
          have M3 := Lib.hid (Bk.made w1 x GX.out.len).lnAt
          have z3 : w.heap.size ≤ (w1.alloc (.cells x.cs 82)).heap.size := H3.out.be.size
          obtain ⟨a3, c3, e3⟩ := H2.out.o3.form
          have c2 : w1.cell? ⟨bl, 0, none⟩ = some (.slice a3 Z.length c3) := by rw [← e3]; exact H2.out.bx.cell
          go_wp2_with (first | refine wpl_loadP rfl _ rfl _ rfl x NX.out ?_ | refine wpl_bs1 rfl _ rfl x rfl GX.out.len ?_ | (at_builtin; refine wpl_appL rfl _ _ rfl w.heap.size v3 _ x e3.symm H3.out.o3 _ _ rfl M3.out (by have := ZL.out; omega) z3 ?_))
          intro v' w5 o5 g5 f5
          rw [← e3] at g5 f5
          have H5 := Lib.hid (H3.out.app3 o5 g5 (by rw [World.size_alloc]; exact f5))
          have b5 := H3.out.bx.grown g5 (ne_of_opt fun j e => (H3.out.b3 j e).1)
          obtain ⟨a5, c5, e5⟩ := o5.form
          subst e5
          have y1 := b5.cell
          have y2 := b5.free
          clear o5 g5 f5
          go_wp2_with fail
          go_roundw
          case rel => exact ⟨t + 1, _, by go_num, by omega, Lib.hid (by rw [US.out, DS.out, ZS.out]; simpa using H5.out)⟩
          case measure => simp [intOf]; omega
    · have e : l.take t = l := List.take_of_length_le (by have := HN.out; omega)
      rw [e] at HL
      have LU := Lib.hid (show (ups l i).length ≤ n by rw [HN.out]; unfold ups; exact List.length_filter_le _ _)
      have LD := Lib.hid (show (dns l i).length ≤ n by rw [HN.out]; unfold dns; exact List.length_filter_le _ _)
      have LZ := Lib.hid (show (zrs l i).length ≤ n by rw [HN.out]; unfold zrs; exact List.length_filter_le _ _)
      obtain ⟨nu, hnu⟩ : ∃ nu, nu = (ups l i).length := ⟨_, rfl⟩
      obtain ⟨nd, hnd⟩ : ∃ nd, nd = (dns l i).length := ⟨_, rfl⟩
      obtain ⟨nz, hnz⟩ : ∃ nz, nz = (zrs l i).length := ⟨_, rfl⟩
      obtain ⟨a1, k1, f1⟩ := HL.out.o1.form
      obtain ⟨a2, k2, f2⟩ := HL.out.o2.form
      obtain ⟨a3, k3, f3⟩ := HL.out.o3.form
      rw [← hnu] at f1 LU
      rw [← hnd] at f2 LD
      rw [← hnz] at f3 LZ
      subst f1 f2 f3
      have c0 : wr.cell? ⟨bl, 0, none⟩ = some (.slice a3 nz k3) := HL.out.bx.cell
      have LU' := LU.out
      have LD' := LD.out
      have LZ' := LZ.out
      obtain ⟨p, hp⟩ : ∃ p, p = nu * nd := ⟨_, rfl⟩
      have hp1 : (nu : Int) * (nd : Int) = p := by rw [hp]; simp
      have hp2 : p ≤ 4000000 := by rw [hp]; exact Nat.mul_le_mul (Nat.le_trans LU' hle) (Nat.le_trans LD' hle)
      have HE := Lib.hid (show leaveE l i = if 1000 < nz + p then 3 else if (sums l i).all Ln.fits then 0 else 7 by rw [hp, hnu, hnd, hnz]; rfl)
      have NU := Lib.hid hnu
      have ND := Lib.hid hnd
      have NZ := Lib.hid hnz
      have HP := Lib.hid hp
      clear hp hnu hnd hnz e LU LD LZ
      go_wp2_with fail
      refine wpAt_seq (wpAt_of_wpIn (wpIn_wide.2 ?_))
      have p2 : (p : Int) ≤ 4000000 := by omega
      by_cases hq : 1000 < nz + p
      · have hq' : (1000 : Int) < nz + p := by omega
        go_wp2_with (rw [hp1])
        have he : leaveE l i = 3 := by rw [HE.out, if_pos hq]
        exact Or.inr ⟨by rw [he]; decide, by rw [he]; rfl, HL.out.be⟩
      · have hq' : ¬ (1000 : Int) < nz + p := by omega
        go_wp2_with (rw [hp1])
        refine wpAt_seq (wpAt_seq (wpAt_of_wpIn (wpIn_wide.2 ?_)))
        go_wp2_with fail
        refine (pairs_any a1 a2 nu nd k1 k2 _).mono ?_
        rintro e w2 ⟨rfl, hw2⟩
        go_wp2_with fail
        obtain ⟨w1, hw1⟩ : ∃ w1, w1 = (wr.alloc (.cells #[.slice a1 nu k1] 66)).alloc (.cells #[.slice a2 nd k2] 66) := ⟨_, rfl⟩
        rw [← hw1]
        have B1 := Lib.hid (show Below wr.heap.size wr w1 by rw [hw1]; exact past_two (Below.refl _ _))
        have PA := Lib.hid (show Bx1 w1 wr.heap.size (.slice a1 nu k1) 66 by rw [hw1]; exact (Bx1.made wr _ _).kept (one_more _))
        have PB := Lib.hid (show Bx1 w1 (wr.heap.size + 1) (.slice a2 nd k2) 66 by rw [hw1]; have := Bx1.made (wr.alloc (.cells #[.slice a1 nu k1] 66)) (.slice a2 nd k2) 66; simpa using this)
        have Z1 := Lib.hid (show w1.heap.size = wr.heap.size + 2 by rw [hw1]; simp)
        have H1 := Lib.hid (HL.out.on B1.out)
        clear hw1
        have D1 := Lib.hid (show bi < w1.heap.size from H1.out.ix.lt)
        have D2 := Lib.hid (show w.heap.size ≤ w1.heap.size from H1.out.be.size)
        have UP := Lib.hid (show ∀ x ∈ prs (ups l i) (dns l i), Rg 2147483647 x.1 ∧ Rg 2147483647 x.2 ∧ gA x.1.a i ≠ 0 from by
          intro x hx
          unfold prs at hx
          simp only [List.mem_flatMap, List.mem_map] at hx
          obtain ⟨a, ha, b, hb, rfl⟩ := hx
          unfold ups at ha
          unfold dns at hb
          rw [List.mem_filter] at ha hb
          have := ha.2
          simp only [decide_eq_true_eq] at this
          exact ⟨HG.out _ ha.1, HG.out _ hb.1, by show gA a.a i ≠ 0; omega⟩)
        have PL := Lib.hid (show (prs (ups l i) (dns l i)).length ≤ 1000 by
          have e : (prs (ups l i) (dns l i)).length = p := by rw [HP.out, NU.out, ND.out]; unfold prs; simp [List.length_flatMap, List.map_const', List.sum_replicate_nat]
          omega)
        have ZZ := Lib.hid (show (zrs l i).length ≤ 1000 by have := NZ.out; omega)
        refine wpAt_block (wpAt_rangeP Tryz.func44 rfl pairs_enters (encs := encP) (xs := prs (ups l i) (dns l i)) (er := none) (fun _ => rfl)
          (fun pre T A => (∃ v, LvI w bi bl i (zrs l i ++ pre.map (sumP i)) T A v) ∧ ∀ q ∈ pre, (sumP i q).fits = true)
          (fun chain B => chain = pan 7 ∧ leaveE l i = 7 ∧ Below w.heap.size w B)
          (fun pre x T a' A => ∃ q1 q2 v, a' = { tmps := #[.slice ao n cap, .int .i64 i, undef, .pointer (some ⟨bi, 0, none⟩), .slice none 0 0, .slice a1 nu k1, .slice a2 nd k2, .pointer (some ⟨bl, 0, none⟩), undef, u9, .pointer (some ⟨q1, 0, none⟩), .pointer (some ⟨q2, 0, none⟩), undef, .slice ao n cap, .int .i64 n, .int .i64 t, .bool false, u17, u18, u19, u20, u21, u22, u23, u24, u25, u26, u27, u28, u29, u30, u31, u32, u33, u34, u35, u36, u37, u38, u39, u40, u41, u42, u43, .slice a3 nz k3, .int .i64 nz, .slice a1 nu k1, .int .i64 nu, .slice a2 nd k2, .int .i64 nd, .int .i64 p, .int .i64 (nz + p), .bool false, undef, .slice a1 nu k1, .slice a2 nd k2, .func (.func 119) #[] #[.pointer (some ⟨wr.heap.size, 0, none⟩), .pointer (some ⟨wr.heap.size + 1, 0, none⟩)], .agg x.1.cs, .agg x.2.cs, undef, undef, undef, undef, undef, undef, undef, undef, undef, undef, undef, undef, undef, undef], defers := [] } ∧ LvA w w1.heap.size bi bl i (zrs l i ++ pre.map (sumP i)) x T A v q1 q2 ∧ ∀ q ∈ pre, (sumP i q).fits = true)
          (fun k => k = bl ∨ (Value.slice a3 nz k3).ownBlock = some k) ?hst ?hsA ?hT ?h0 ?hseq ?hassign ?hbody ?hdone ?hpan ?hown)
        case hst =>
          rintro pre T A B ⟨⟨v, h⟩, hf⟩ k
          exact ⟨⟨v, h.stay k D1.out D2.out⟩, hf⟩
        case hsA =>
          rintro pre x T a' A B ⟨q1, q2, v, e, h, hf⟩ k
          exact ⟨q1, q2, v, e, h.stay k D1.out D2.out, hf⟩
        case hT =>
          rintro pre T A ⟨⟨v, h⟩, _⟩ k q
          exact (h.lt k q).1
        case h0 =>
          refine ⟨⟨_, by simpa using H1.out.o3, H1.out.bx, H1.out.ix, H1.out.be, Or.inl rfl, fun k e => ⟨Or.inr e, (H1.out.b3 k e).1⟩, ?_, ?_⟩, by simp⟩
          · rintro (q | q)
            · exact H1.out.nb.1 q.symm
            · exact (H1.out.b3 _ q).2 rfl
          · rintro k (q | q)
            · subst q; exact ⟨H1.out.bx.lt, H1.out.nb.2⟩
            · have := World.ownsRow.lt H1.out.o3.1 k q
              exact ⟨this.2, this.1⟩
        case hseq =>
          intro W k z
          have O1 := H1.out.o1.keptK k (fun _ _ => trivial)
          have O2 := H1.out.o2.keptK k (fun _ _ => trivial)
          have C1 := (PA.out.keptK k trivial).cell
          have C2 := (PB.out.keptK k trivial).cell
          have e1 := NU.out
          have e2 := ND.out
          have zz := Z1.out
          have lb := H1.out.bx.lt
          have lw := HL.out.bx.lt
          have l1 := H1.out.o1.lt
          have l2 := H1.out.o2.lt
          have l3 := HL.out.o3.lt
          rw [e1] at O1 C1 l1
          rw [e2] at O2 C2 l2
          refine pairs_seq (ups l i) (dns l i) a1 a2 k1 k2 _ _ W _ (by omega) (by omega) C1 C2 ⟨O1.rd, ?_⟩ ⟨O2.rd, ?_⟩ ?_ ?_ (fun x hx => ?_) (fun x hx => ?_)
          · rintro a rfl
            have m1 := l1 a.block rfl
            refine ⟨?_, by omega⟩
            rintro ((q | q) | q)
            · exact (H1.out.b1 a.block rfl).1 q
            · exact H1.out.n13 a.block rfl q
            · omega
          · rintro a rfl
            have m1 := l2 a.block rfl
            refine ⟨?_, by omega⟩
            rintro ((q | q) | q)
            · exact (H1.out.b2 a.block rfl).1 q
            · exact H1.out.n23 a.block rfl q
            · omega
          · rintro ((q | q) | q)
            · omega
            · have := l3 _ q; omega
            · omega
          · rintro ((q | q) | q)
            · omega
            · have := l3 _ q; omega
            · omega
          · exact (HG.out x (by unfold ups at hx; exact (List.mem_filter.1 hx).1)).len
          · exact (HG.out x (by unfold dns at hx; exact (List.mem_filter.1 hx).1)).len
        case hassign =>
          rintro lp pre x T A K ⟨⟨v, h⟩, hf⟩ hpx hK
          have hm := UP.out x (hpx.subset (by simp))
          have g1 := Lib.hid hm.1.len
          have g2 := Lib.hid hm.2.1.len
          have N1 := Lib.hid (show Bk (A.alloc (.cells ln0.cs 82)) A.heap.size ln0 from Bk.made A ln0 rfl)
          have N2 := Lib.hid (N1.out.setRow g1.out)
          have B2 := Lib.hid (Below.setRow ((Below.refl A.heap.size A).alloc (Nat.le_refl _) (.cells ln0.cs 82)) (b := A.heap.size) (Nat.le_refl _) x.1.cs)
          have HK := Lib.hid hK
          have HV := Lib.hid h
          have HF := Lib.hid hf
          have z1 : ((A.alloc (.cells ln0.cs 82)).setRow A.heap.size x.1.cs).heap.size = A.heap.size + 1 := by
            have := N2.out.lt
            simp [World.setRow]
          have M1 := Lib.hid (show Bk (((A.alloc (.cells ln0.cs 82)).setRow A.heap.size x.1.cs).alloc (.cells ln0.cs 82)) (A.heap.size + 1) ln0 by rw [← z1]; exact Bk.made _ ln0 rfl)
          have M2 := Lib.hid (M1.out.setRow g2.out)
          have N3 := Lib.hid ((N2.out.alloc (.cells ln0.cs 82)).setAside (y := A.heap.size + 1) (by omega) x.2.cs)
          have B3 := Lib.hid (Below.setRow (B2.out.alloc B2.out.size (.cells ln0.cs 82)) (b := A.heap.size + 1) (by omega) x.2.cs)
          clear hK h hf hm hpx z1
          simp only [encP]
          gi_wp2_with (first | refine inl_store rfl _ _ rfl _ _ rfl rfl _ N1.out g1.out ?_ | refine inl_store rfl _ _ rfl _ _ rfl rfl _ M1.out g2.out ?_)
          have lz : A.heap.size + 1 < (((((A.alloc (.cells ln0.cs 82)).setRow A.heap.size x.1.cs).alloc (.cells ln0.cs 82)).setRow (A.heap.size + 1) x.2.cs)).heap.size := M2.out.lt
          generalize (((A.alloc (.cells ln0.cs 82)).setRow A.heap.size x.1.cs).alloc (.cells ln0.cs 82)).setRow (A.heap.size + 1) x.2.cs = A2 at *
          have li := HV.out.ix.lt
          have hw := HV.out.be.size
          refine HK.out _ _ (fun k => T k ∨ (k = A.heap.size ∨ k = A.heap.size + 1)) ⟨A.heap.size, A.heap.size + 1, v, rfl, ⟨(HV.out.on B3.out).more ?_ ?_, N3.out, M2.out, Or.inr (Or.inl rfl), Or.inr (Or.inr rfl)⟩, HF.out⟩ (Kept.of_below B3.out _) ?_
          · rintro k (rfl | rfl) <;> omega
          · rintro (q | q) <;> omega
          · rintro k (q | q | q)
            · exact Or.inl q
            · right; omega
            · right; omega
        case hbody =>
          rintro lp pre x T a' A ⟨q1, q2, v, rfl, hA, hf⟩ hpx
          have hmx := hpx.subset (show x ∈ pre ++ [x] by simp)
          have hm := UP.out x hmx
          have S6 := Lib.hid (show (sumP i x).a.length = 6 from sumL_len hm.1.len hm.2.1.len)
          have SM := Lib.hid (fun W => sum_any x.1 x.2 i W hi' hm.1 hm.2.1 hm.2.2)
          have FT := Lib.hid (fun W => fits_any (sumP i x) W S6.out)
          have E7 := Lib.hid (show (sumP i x).fits = false → leaveE l i = 7 from fun h => by
            rw [HE.out, if_neg hq, if_neg]
            intro q
            rw [List.all_eq_true] at q
            have := q (sumP i x) (by unfold sums; exact List.mem_map.2 ⟨x, hmx, rfl⟩)
            rw [h] at this; cases this)
          have PN := Lib.hid (show pre.length + 1 ≤ 1000 by have h1 := hpx.length_le; have h2 := PL.out; simp only [List.length_append, List.length_cons, List.length_nil] at h1; omega)
          have HF := Lib.hid hf
          obtain ⟨a9, k9, e9⟩ := hA.i.own.form
          obtain ⟨n9, hn9⟩ : ∃ n9, n9 = (zrs l i ++ pre.map (sumP i)).length := ⟨_, rfl⟩
          rw [← hn9] at e9
          have N9 := Lib.hid (show (zrs l i ++ pre.map (sumP i)).length ≤ 2000 by have := PN.out; have := ZZ.out; simp; omega)
          subst e9
          have HA := Lib.hid hA
          have c1 : A.cell? ⟨bi, 0, none⟩ = some (.int .i64 i) := hA.i.ix.cell
          obtain ⟨zs, hzs⟩ : ∃ zs, zs = zrs l i ++ pre.map (sumP i) := ⟨_, rfl⟩
          have ZS := Lib.hid hzs
          rw [← hzs] at hA HA hn9 N9
          clear hzs
          obtain ⟨x1, hx1⟩ : ∃ x1, x1 = x.1 := ⟨_, rfl⟩
          obtain ⟨x2, hx2⟩ : ∃ x2, x2 = x.2 := ⟨_, rfl⟩
          have L1 := Lib.hid (show LnAt A ⟨q1, 0, none⟩ x1 by rw [hx1]; exact hA.b1.lnAt)
          have L2 := Lib.hid (show LnAt A ⟨q2, 0, none⟩ x2 by rw [hx2]; exact hA.b2.lnAt)
          rw [← hx1, ← hx2] at SM
          have SP := Lib.hid (show sumL x1 x2 i = sumP i x by rw [hx1, hx2]; rfl)
          have HX := Lib.hid hmx
          obtain ⟨y, hy⟩ : ∃ y, y = sumP i x := ⟨_, rfl⟩
          have HY := Lib.hid hy
          rw [← hy] at S6 FT SP E7
          rw [SP.out] at SM
          obtain ⟨f, hff⟩ : ∃ f, f = y.fits := ⟨_, rfl⟩
          have HFF := Lib.hid hff
          rw [← hff] at FT E7
          rw [← hx1, ← hx2]
          clear hA hf hpx hmx hm hx1 hx2 hy hff hn9 hi hq hq'
          gi_wp2_with (first | refine inl_load rfl _ rfl _ rfl x1 L1.out ?_ | refine inl_load rfl _ rfl _ rfl x2 L2.out ?_)
          refine ⟨trivial, (CallsIn.inRound _ (callsIn_wide.2 (SM.out _))).mono ?_⟩
          rintro e A1 ⟨rfl, hb⟩
          have B1 := Lib.hid hb
          have N1 := Lib.hid (show Bk (A1.alloc (.cells ln0.cs 82)) A1.heap.size ln0 from Bk.made A1 ln0 rfl)
          have N2 := Lib.hid (N1.out.setRow S6.out)
          have B2 := Lib.hid (Below.setRow ((Below.refl A1.heap.size A1).alloc (Nat.le_refl _) (.cells ln0.cs 82)) (b := A1.heap.size) (Nat.le_refl _) y.cs)
          clear hb
          gi_wp2_with (first | refine inl_store rfl _ _ rfl _ _ rfl rfl _ N1.out S6.out ?_ | refine inl_load rfl _ rfl _ rfl y N2.out.lnAt ?_)
          generalize (A1.alloc (.cells ln0.cs 82)).setRow A1.heap.size y.cs = A2 at *
          obtain ⟨q3, hq3⟩ : ∃ q3, q3 = A1.heap.size := ⟨_, rfl⟩
          have B3 := Lib.hid (below_on B1.out B2.out)
          rw [← hq3] at N2 ⊢
          clear N1 B1 B2 hq3
          refine ⟨trivial, (CallsIn.inRound _ (callsIn_wide.2 (FT.out _))).mono ?_⟩
          rintro e A3 ⟨rfl, hb⟩
          have B4 := Lib.hid (below_on B3.out hb)
          have N4 := Lib.hid (N2.out.kept hb)
          have H4 := Lib.hid (HA.out.i.on B4.out)
          clear hb N2 B3
          cases f
          · gi_wp2_with fail
            exact ⟨⟨rfl, (by first | exact E7.out rfl | exact E7.out trivial), H4.out.be⟩, Kept.of_below B4.out _⟩
          · have c2 : A3.cell? ⟨bl, 0, none⟩ = some (.slice a9 n9 k9) := H4.out.bx.cell
            have B5 := Lib.hid (one_more (w1 := A3) (.cells y.cs 82))
            have H5 := Lib.hid (H4.out.on B5.out)
            have M5 := Lib.hid (Bk.made A3 y S6.out).lnAt
            have z5 : w.heap.size ≤ (A3.alloc (.cells y.cs 82)).heap.size := H5.out.be.size
            gi_wp2_with (first | refine inl_load rfl _ rfl _ rfl y N4.out.lnAt ?_ | refine inl_bs1 rfl _ rfl y rfl S6.out ?_ | refine inl_appL rfl _ _ rfl w.heap.size _ zs y rfl H5.out.own _ _ rfl M5.out (by have := N9.out; omega) z5 ?_)
            intro v' A6 o6 g6 f6
            have H6 := Lib.hid (H5.out.app o6 g6 (by rw [World.size_alloc]; exact f6))
            have K6 := Lib.hid ((Kept.of_below (below_on B4.out B5.out) (fun k => ¬ T k)).trans (H5.out.app_kept g6 v'))
            have b6 := H5.out.bx.grown g6 (ne_of_opt fun j e => (H5.out.tv j e).2)
            have S7 := Lib.hid (show ∀ k, (k = bl ∨ v'.ownBlock = some k) → T k ∨ A.heap.size ≤ k from by
              rintro k (q | q)
              · rw [q]; exact Or.inl H4.out.tl
              · rcases f6 with f | f
                · rw [f] at q; exact Or.inl (H4.out.tv k q).1
                · rw [f] at q; cases q; have := B4.out.size; right; omega)
            obtain ⟨a6, k6, e6⟩ := o6.form
            obtain ⟨m6, hm6⟩ : ∃ m6, m6 = (zs ++ [y]).length := ⟨_, rfl⟩
            rw [← hm6] at e6
            clear hm6
            subst e6
            have y1 := b6.cell
            have y2 := b6.free
            clear o6 g6 f6 b6
            gi_wp2_with fail
            refine ⟨_, ⟨⟨.slice a6 m6 k6, ?_⟩, ?_⟩, K6.out, S7.out⟩
            · rw [← List.append_assoc, ← ZS.out]
              have := H6.out
              rw [HY.out] at this
              exact this
            · have F6 : ∀ q ∈ pre ++ [x], (sumP i q).fits = true := by
                intro q hq
                rcases List.mem_append.1 hq with h | h
                · exact HF.out q h
                · rw [List.mem_singleton] at h
                  rw [h, ← HY.out, ← HFF.out]
              intro a b hq
              exact F6 (a, b) (by simpa using hq)
        case hdone =>
          rintro T B _ ⟨⟨v, h⟩, hf⟩ hD
          show WpAt _ _ _ _ _ _ _ _
          have SE := Lib.hid (show (prs (ups l i) (dns l i)).map (sumP i) = sums l i from rfl)
          rw [SE.out] at h
          have hle2 : (zrs l i ++ sums l i).length ≤ 100000 := by
            have h1 := PL.out
            have h2 := ZZ.out
            have h3 : (sums l i).length = (prs (ups l i) (dns l i)).length := by unfold sums; simp
            rw [List.length_append]; omega
          have hgr : ∀ x ∈ zrs l i ++ sums l i, Rg 2147483647 x := by
            intro x hx
            rcases List.mem_append.1 hx with q | q
            · exact HG.out x (by unfold zrs at q; exact (List.mem_filter.1 q).1)
            · unfold sums at q
              obtain ⟨y, hy, rfl⟩ := List.mem_map.1 q
              have := UP.out y hy
              exact Ln.fits_rg (sumL_len this.1.len this.2.1.len) (hf y hy)
          have he : leaveE l i = 0 := by
            rw [HE.out, if_neg hq, if_pos]
            rw [List.all_eq_true]
            intro x hx
            unfold sums at hx
            obtain ⟨y, hy, rfl⟩ := List.mem_map.1 hx
            exact hf y hy
          have LE := Lib.hid (show leaveL l i = tidyL (zrs l i ++ sums l i) from rfl)
          obtain ⟨a9, k9, e9⟩ := h.own.form
          subst e9
          have TD := Lib.hid (tidy_any (zrs l i ++ sums l i) a9 k9 B hle2 h.own.rd hgr)
          obtain ⟨n9, hn9⟩ : ∃ n9, n9 = (zrs l i ++ sums l i).length := ⟨_, rfl⟩
          rw [← hn9] at TD h
          have c9 : B.cell? ⟨bl, 0, none⟩ = some (.slice a9 n9 k9) := h.bx.cell
          have BB := Lib.hid h.be
          have HD := Lib.hid hD
          have ld : w1.heap.size < B.heap.size := by
            by_cases e : w1.heap.size < B.heap.size
            · exact e
            · rw [Array.getElem?_eq_none (by omega)] at hD; cases hD
          have HE0 := Lib.hid he
          clear h hf hD hgr hle2 hn9 he
          refine wpAt_of_wpIn (wpIn_wide.2 ?_)
          go_wp2_with fail
          refine TD.out.mono ?_
          rintro e B2 ⟨a8, k8, rfl, rd, bb⟩
          go_wp2_with fail
          have hD2 := (bb.block _ ld).trans HD.out
          refine ⟨by simp, Or.inl ⟨_, _, rfl, run_takeDeferred hD2, ?_⟩⟩
          refine ⟨_, results_tmp rfl _ _ _, Or.inl ⟨HE0.out, a8, k8, rfl, ?_, ?_⟩⟩
          · rw [LE.out]
            exact rd.def hD2 _
          · exact (below_on BB.out bb).trans ((Kept.putObj (S := fun k => k ≠ w1.heap.size) B2 _ (fun q => q rfl)).below w.heap.size (by have := (below_on BB.out bb).size; exact this) (fun k hk => by have := D2.out; omega))
        case hpan =>
          rintro chain B ⟨rfl, he, hb⟩ hD
          refine ⟨by simp, Or.inl ⟨_, _, rfl, run_takeDeferred hD, Or.inr ⟨by rw [he]; decide, by rw [he], ?_⟩⟩⟩
          exact hb.trans ((Kept.putObj (S := fun k => k ≠ w1.heap.size) B _ (fun q => q rfl)).below w.heap.size hb.size (fun k hk => by have := D2.out; omega))
        case hown =>
          rintro chain T B h
          cases h
end Go.Proofs.YtbhaoaobhgilkaaGreat
