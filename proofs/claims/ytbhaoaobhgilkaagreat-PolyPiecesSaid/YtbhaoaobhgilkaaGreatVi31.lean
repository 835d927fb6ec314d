/- The contract of package poly's lists. -/
import Derived.Test.YtbhaoaobhgilkaaGreatVi26
import Derived.Deep.RegionHeld3

namespace Go.Proofs.YtbhaoaobhgilkaaGreat
open Go.RowKit Go.Sort Go.Shelf

/-- The row of lines of package api while lists fills it. -/
structure RowV (w : World) (b n : Nat) (L : List AV) : Prop where
  at_ : ∀ t, ∀ h : t < L.length, AvAt w ⟨b, t * 3, none⟩ L[t]
  there : ∀ j, j < n * 3 → (w.cell? ⟨b, j, none⟩).isSome = true ∧ w.frozen? ⟨b, j, none⟩ = false
  nums : ∀ y ∈ L, ∃ g, y.q = some ⟨g, 0, none⟩ ∧ b < g ∧ Rd1 w y.q y.a
  lt : b < w.heap.size

theorem RowV.on {w w' : World} {b n : Nat} {L : List AV} (h : RowV w b n L) (hb : Below w.heap.size w w') : RowV w' b n L :=
  ⟨fun t ht => (h.at_ t ht).on hb, fun j hj => by rw [hb.cell (p := ⟨b, j, none⟩) h.lt, hb.frozen (p := ⟨b, j, none⟩) h.lt]; exact h.there j hj,
    fun y hy => by obtain ⟨g, e, n, r⟩ := h.nums y hy; exact ⟨g, e, n, r.on hb⟩, Nat.lt_of_lt_of_le h.lt hb.size⟩

theorem Rd1.setCells {w : World} {g b o : Nat} {a : List Int} (h : Rd1 w (some ⟨g, 0, none⟩) a) (hne : g ≠ b) (vs : List Value) : Rd1 (w.setCells b o vs) (some ⟨g, 0, none⟩) a := fun t ht => by
  obtain ⟨p, e, c⟩ := h t ht
  refine ⟨p, e, ?_⟩
  cases e
  rw [addr_add] at c ⊢
  rw [World.cell?_setCells_out b vs o w _ (fun e _ => absurd e hne)]
  exact c

theorem RowV.put {w : World} {b n : Nat} {L : List AV} (h : RowV w b n L) {y : AV} (hn : L.length < n) {g : Nat} (hq : y.q = some ⟨g, 0, none⟩) (hg : b < g) (hr : Rd1 w y.q y.a) : RowV (w.setCells b (L.length * 3) y.cells) b n (L ++ [y]) := by
  refine ⟨fun t ht => ?_, fun j hj => ?_, fun z hz => ?_, ?_⟩
  · by_cases e : t < L.length
    · rw [List.getElem_append_left e]
      intro j v hv
      have hj : j < 3 := by
        by_cases q : j < 3
        · exact q
        · rw [List.getElem?_eq_none (by show (3 : Nat) ≤ j; omega)] at hv; cases hv
      have := h.at_ t e j v hv
      rw [addr_add] at this ⊢
      rw [World.cell?_setCells_out b y.cells (L.length * 3) w _ (fun _ _ => Or.inl (by show t * 3 + j < L.length * 3; omega))]
      exact this
    · have e2 : t = L.length := by simp at ht; omega
      subst e2
      rw [List.getElem_append_right (Nat.le_refl _)]
      simp only [Nat.sub_self, List.getElem_cons_zero]
      intro j v hv
      have hj : j < y.cells.length := (List.getElem?_eq_some_iff.1 hv).1
      have hj3 : j < 3 := hj
      rw [addr_add, World.cell?_setCells_in b y.cells (L.length * 3) w (fun j hj => (h.there _ (by have : j < 3 := hj; omega)).1) j hj, ← hv, List.getElem?_eq_getElem hj]
  · rw [World.frozen?_setCells]
    exact ⟨World.isSome_setCells b _ _ _ _ (h.there j hj).1, (h.there j hj).2⟩
  · rcases List.mem_append.1 hz with q | q
    · obtain ⟨g', e, n', r⟩ := h.nums z q
      exact ⟨g', e, n', by rw [e] at r ⊢; exact r.setCells (by omega) _⟩
    · rw [List.mem_singleton] at q
      subst q
      exact ⟨g, hq, hg, by rw [hq] at hr ⊢; exact hr.setCells (by omega) _⟩
  · exact Nat.lt_of_lt_of_le h.lt (Below.setCells (Nat.zero_le b) y.cells (L.length * 3) w (Below.refl 0 w)).size

theorem RowV.rd {w : World} {b n : Nat} {L : List AV} (h : RowV w b n L) : RdV w (some ⟨b, 0, none⟩) L :=
  ⟨fun t ht => ⟨_, rfl, by rw [addr_add, Nat.zero_add]; exact h.at_ t ht⟩, fun y hy => by obtain ⟨_, _, _, r⟩ := h.nums y hy; exact r⟩

theorem OwnI.base {w : World} {B B' g cap : Nat} {a : List Int} (h : OwnI w B g cap a) (hb : B' ≤ B) : OwnI w B' g cap a :=
  ⟨h.1, h.2.imp id fun ⟨g, cap, cur, h1, h2, h3⟩ => ⟨g, cap, cur, h1, Nat.le_trans hb h2, h3⟩⟩

theorem av_info : (Tryz.prog.info? 25).map (fun i => (i.zero, i.size, i.bytes)) = some (some (.agg av0.cs), 3, 40) := by kernel_rfl

/-- 'make([]api.Line, n)'. -/
theorem make_avs (w : World) (n : Nat) (hn : n ≤ 100000) : ∃ cur : Array Value, (Instr.makeSlice 22 (.int .i64 n) (.int .i64 n)).run Tryz.prog w = .ok (.slice (some ⟨w.heap.size, 0, none⟩) n n) (w.alloc (.cells cur 25))
    ∧ RowV (w.alloc (.cells cur 25)) w.heap.size n [] := by
  obtain ⟨i0, hi, hz0, hz1, hz2⟩ := info_parts av_info
  have hr := run_make (P := Tryz.prog) w 22 25 i0 _ Tryz.underlying22 hi hz0 .i64 .i64 (n : Int) (n : Int) (by omega) (by omega) (by rw [hz2]; omega) (by omega)
  simp only [Int.toNat_natCast] at hr
  rw [hz1] at hr
  refine ⟨_, hr, fun t ht => by simp at ht, fun j hj => ?_, fun y hy => by simp at hy, by simp⟩
  have hb := heap_alloc_last w (.cells (madeCells av0.cs (n * 3)) 25)
  have e : (Value.agg av0.cs).cells = av0.cs := rfl
  rw [e]
  refine ⟨?_, frozen_of_row _ _ _ _ _ hb⟩
  rw [cell_of_row _ _ _ _ _ _ hb, Array.getElem?_eq_getElem (by rw [size_madeCells]; exact hj)]
  rfl

theorem yld_wholeA {o : Oper} {ac : Act} {w : World} (s : Operand) (ho : o.op = .slice 80 s none none none) (b : Nat) (hs : ac.eval s = .pointer (some ⟨b, 0, none⟩)) :
    (execOp ac.eval o).run Tryz.prog w = .ok (.value (.slice (some ⟨b, 0, none⟩) 6 6)) w := by
  have h := run_wholeA b w
  unfold execOp
  simp only [ho, hs, Option.map_none, Sem.run_bind, h, Result.andThen_ok, Sem.run_pure]

/-- Are these the lines of l, with the coefficients that ch chooses? -/
def IsCh (ch : List Int → List Int) (l : List Ln) (L : List AV) : Prop := L.map (fun y => (y.a, y.b, y.s)) = l.map fun x => (ch x.a, x.b, x.s)

theorem IsCh.snoc {ch : List Int → List Int} {l : List Ln} {L : List AV} {t : Nat} (ht : t < l.length) (h : IsCh ch (l.take t) L) {y : AV} (e1 : y.a = ch l[t].a) (e2 : y.b = l[t].b) (e3 : y.s = l[t].s) : IsCh ch (l.take (t + 1)) (L ++ [y]) := by
  unfold IsCh at h ⊢
  rw [List.take_succ_eq_append_getElem ht, List.map_append, List.map_append, h]
  simp [e1, e2, e3]

set_option maxRecDepth 100000 in
set_option maxHeartbeats 4000000 in
theorem lists_any (l : List Ln) (ao : Option Addr) (cap : Nat) (fv : Value) (ch : List Int → List Int) (w : World) (hl : l.length ≤ 100000) (hR : RdL w ao l) (h6 : ∀ x ∈ l, x.a.length = 6) (hC : Chooses fv w ch) :
    Calls Tryz.prog 43 #[.slice ao l.length cap, fv] w (fun e w' => ∃ b L, e = .returned (.slice (some ⟨b, 0, none⟩) l.length l.length) ∧ IsCh ch l L ∧ RowV w' b l.length L ∧ w.heap.size ≤ b ∧ Below w.heap.size w w') := by
  obtain ⟨kf, lb, rfl, eg, hC⟩ := hC
  have HC := Lib.hid hC
  have hz := ln_zero
  have HR := Lib.hid hR
  have H6 := Lib.hid h6
  obtain ⟨cur, hmk, hrw⟩ := make_avs w l.length hl
  obtain ⟨n, hn⟩ : ∃ n, n = l.length := ⟨_, rfl⟩
  have HN := Lib.hid hn
  have hle : n ≤ 100000 := by omega
  obtain ⟨w0, hw0⟩ : ∃ w0, w0 = w.alloc (.cells cur 25) := ⟨_, rfl⟩
  rw [← hw0] at hmk hrw
  have W0 := Lib.hid hrw
  have E0 := Lib.hid (show Below w.heap.size w w0 by rw [hw0]; exact one_more _)
  obtain ⟨b, hb⟩ : ∃ b, b = w.heap.size := ⟨_, rfl⟩
  have HB0 := Lib.hid hb
  rw [← hn] at hmk
  rw [← hn] at W0
  rw [← hn]
  rw [← hb] at hmk W0
  clear hl hR h6 hn hrw hw0 hb hC
  go_enter Tryz.func43, Tryz.ntmps43
  go_wp2_with (rw [hmk])
  go_loopw [13] (fun s wr => ∃ t : Nat, s = .int .i64 t ∧ t ≤ n ∧ Hid (∃ L, L.length = t ∧ IsCh ch (l.take t) L ∧ RowV wr b n L) ∧ Hid (Below w.heap.size w wr)) (fun s _ => n - (intOf s).toNat)
  case atStart => exact ⟨0, rfl, by omega, Lib.hid ⟨[], rfl, rfl, W0.out⟩, E0⟩
  case round =>
    clear hmk
    obtain ⟨t, rfl, ht, HL, HB⟩ := hrel
    obtain ⟨L, hLt, hIs, hRow⟩ := HL.out
    have HRow := Lib.hid hRow
    have HIs := Lib.hid hIs
    have HLt := Lib.hid hLt
    clear HL hLt hIs hRow
    by_cases htn : t < n
    · have hlt : t < l.length := by have := HN.out; omega
      obtain ⟨p, hp, hla⟩ := HR.out.on HB.out t hlt
      obtain ⟨x, hx⟩ : ∃ x, x = l[t] := ⟨_, rfl⟩
      rw [← hx] at hla
      have LA := Lib.hid hla
      have X6 := Lib.hid (show x.a.length = 6 by rw [hx]; exact H6.out _ (List.getElem_mem _))
      have SN := Lib.hid (fun (y : AV) (e1 : y.a = ch x.a) (e2 : y.b = x.b) (e3 : y.s = x.s) => HIs.out.snoc hlt (e1.trans (by rw [hx])) (e2.trans (by rw [hx])) (e3.trans (by rw [hx])))
      have N1 := Lib.hid (show Bk (wr.alloc (.cells ln0.cs 82)) wr.heap.size ln0 from Bk.made wr ln0 rfl)
      have N2 := Lib.hid (N1.out.setRow X6.out)
      have B2 := Lib.hid (Below.setRow ((Below.refl wr.heap.size wr).alloc (Nat.le_refl _) (.cells ln0.cs 82)) (b := wr.heap.size) (Nat.le_refl _) x.cs)
      clear hla hx hlt
      subst hp
      go_upto_region 5 with (first | refine wpl_loadP rfl _ rfl _ rfl x LA.out ?_ | refine wpl_store rfl _ _ rfl _ _ rfl rfl _ N1.out X6.out ?_)
      generalize (wr.alloc (.cells ln0.cs 82)).setRow wr.heap.size x.cs = w1 at *
      have R1 := Lib.hid (HRow.out.on B2.out)
      have B1 := Lib.hid (below_on HB.out B2.out)
      obtain ⟨q, hq⟩ : ∃ q, q = wr.heap.size := ⟨_, rfl⟩
      have QB := Lib.hid (show q ≠ b by rw [hq]; have := HRow.out.lt; omega)
      rw [← hq] at N2 ⊢
      clear N1 B2 HRow HB LA hq HIs
      have C6 := Lib.hid N2.out.num
      have C7 := Lib.hid N2.out.str
      have KS := Lib.hid (show ∀ W, Below w1.heap.size w1 W → (W.cell? ⟨q, 6, none⟩ = some (.int .i64 x.b) ∧ W.cell? ⟨q, 7, none⟩ = some (.bool x.s)) from fun W h => ⟨kept h C6.out, kept h C7.out⟩)
      obtain ⟨wc, hwc⟩ : ∃ wc, wc = w1.drew := ⟨_, rfl⟩
      have Bc := Lib.hid (show Below w1.heap.size w1 wc by rw [hwc]; exact (Below.refl _ _).drew)
      have Bk0 := Lib.hid (show w1.heap.size ≤ wc.heap.size from Bc.out.size)
      refine wp_region_held_drew (S := (fun W => (W.cell? ⟨q, 6, none⟩ = some (.int .i64 x.b) ∧ W.cell? ⟨q, 7, none⟩ = some (.bool x.s)))) (by kernel_rfl) (by rw [← hwc]; exact KS.out _ Bc.out) (fun h0 => ?_)
      rw [← hwc] at h0 ⊢
      clear hwc
      refine wpAnyH_take (i := 0) (v := ?v1) rfl (by kernel_rfl) (by kernel_rfl) (by kernel_rfl) (fun _ _ _ h => h) (Or.inl ⟨by rfl, ?hy1⟩) h0 ?rest1
      case hy1 => (intro w' hS; (try dsimp only at hS); go_simp; try (with_reducible rfl))
      simp only [Act.put, List.getElem_toArray, List.getElem_cons_zero, List.setIfInBounds_toArray, List.set_cons_zero, List.set_cons_succ]
      refine wpAnyH_take (i := 1) (v := ?v2) rfl (by kernel_rfl) (by kernel_rfl) (by kernel_rfl) (fun _ _ _ h => h) (Or.inl ⟨by rfl, ?hy2⟩) h0 ?rest2
      case hy2 => (intro w' hS; (try dsimp only at hS); go_simp; try (with_reducible rfl))
      simp only [Act.put, List.getElem_toArray, List.getElem_cons_zero, List.getElem_cons_succ, List.setIfInBounds_toArray, List.set_cons_zero, List.set_cons_succ]
      refine wpAnyH_take (i := 2) (v := ?v3) rfl (by kernel_rfl) (by kernel_rfl) (by kernel_rfl) (fun _ _ _ h => h) (Or.inl ⟨by rfl, ?hy3⟩) h0 ?rest3
      case hy3 => (intro w' hS; (try dsimp only at hS); go_simp; try (with_reducible rfl))
      simp only [Act.put, List.getElem_toArray, List.getElem_cons_zero, List.getElem_cons_succ, List.setIfInBounds_toArray, List.set_cons_zero, List.set_cons_succ]
      refine wpAnyH_take (i := 3) (v := ?v4) rfl (by kernel_rfl) (by kernel_rfl) (by kernel_rfl) (fun _ _ _ h => h) (Or.inl ⟨by rfl, ?hy4⟩) h0 ?rest4
      case hy4 => (intro w' hS; (try dsimp only at hS); go_simp; try (with_reducible rfl))
      simp only [Act.put, List.getElem_toArray, List.getElem_cons_zero, List.getElem_cons_succ, List.setIfInBounds_toArray, List.set_cons_zero, List.set_cons_succ]
      refine wpAnyH_take (i := 4) (v := (.slice (some ⟨q, 0, none⟩) 6 6)) rfl (by kernel_rfl) (by kernel_rfl) (by kernel_rfl) (fun _ _ _ h => h) (Or.inl ⟨by rfl, (fun w' _ => yld_wholeA _ rfl q rfl)⟩) h0 ?_
      simp only [Act.put, List.getElem_toArray, List.getElem_cons_zero, List.getElem_cons_succ, List.setIfInBounds_toArray, List.set_cons_zero, List.set_cons_succ]
      refine wpAnyH_take (i := 7) (v := ?v6) rfl (by kernel_rfl) (by kernel_rfl) (by kernel_rfl) (fun _ _ _ h => h) (Or.inl ⟨by rfl, ?hy6⟩) h0 ?rest6
      case hy6 => (intro w' hS; (try dsimp only at hS); go_simp; try (with_reducible rfl))
      simp only [Act.put, List.getElem_toArray, List.getElem_cons_zero, List.getElem_cons_succ, List.setIfInBounds_toArray, List.set_cons_zero, List.set_cons_succ]
      refine wpAnyH_take (i := 8) (v := ?v7) rfl (by kernel_rfl) (by kernel_rfl) (by kernel_rfl) (fun _ _ _ h => h) (Or.inl ⟨by rfl, ?hy7⟩) h0 ?rest7
      case hy7 => (intro w' hS; (try dsimp only at hS); go_simp; try (with_reducible rfl))
      simp only [Act.put, List.getElem_toArray, List.getElem_cons_zero, List.getElem_cons_succ, List.setIfInBounds_toArray, List.set_cons_zero, List.set_cons_succ]
      refine wpAnyH_take (i := 9) (v := ?v8) rfl (by kernel_rfl) (by kernel_rfl) (by kernel_rfl) (fun _ _ _ h => h) (Or.inl ⟨by rfl, ?hy8⟩) h0 ?rest8
      case hy8 => (intro w' hS; (try dsimp only at hS); go_simp; try (with_reducible rfl))
      simp only [Act.put, List.getElem_toArray, List.getElem_cons_zero, List.getElem_cons_succ, List.setIfInBounds_toArray, List.set_cons_zero, List.set_cons_succ]
      refine wpAnyH_take (i := 10) (v := ?v9) rfl (by kernel_rfl) (by kernel_rfl) (by kernel_rfl) (fun _ _ _ h => h) (Or.inl ⟨by rfl, ?hy9⟩) h0 ?rest9
      case hy9 => (intro w' hS; (try dsimp only at hS); go_simp; try (with_reducible rfl))
      simp only [Act.put, List.getElem_toArray, List.getElem_cons_zero, List.getElem_cons_succ, List.setIfInBounds_toArray, List.set_cons_zero, List.set_cons_succ]
      refine wpAnyH_ready (rs := [5]) (by kernel_rfl) (by simp) (AllReadyH.cons rfl (fun K hK => ?_) AllReadyH.nil)
      rw [if_pos (by rfl)]
      go_simp
      have hcl := cloneI_any x.a q 6 wc (by rw [X6.out]; omega) (fun j hj => kept Bc.out (N2.out.at (by have := X6.out; omega)))
      rw [X6.out] at hcl
      refine hcl.mono ?_
      clear hcl
      rintro e wd ⟨g, cg, rfl, ho, hb⟩
      have OI := Lib.hid ho
      have GQ := Lib.hid (show w1.heap.size ≤ g from Nat.le_trans Bc.out.size ho.lt.1)
      have Bc := Lib.hid (below_on Bc.out hb)
      clear ho hb
      go_simp
      refine hK.out _ _ (KS.out _ Bc.out) (fun h0_1 => ?_)
      clear hK K h0
      refine wpAnyH_ready (rs := [6]) (by kernel_rfl) (by simp) (AllReadyH.cons rfl (fun K hK => ?_) AllReadyH.nil)
      rw [if_pos (by rfl)]
      go_simp
      have hch := HC.out wd (below_on B1.out Bc.out) g cg x.a X6.out (OwnI.base OI.out (Nat.le_trans B1.out.size (Nat.le_trans (Bk0.out) (Nat.le_refl _))))
      refine hch.mono ?_
      clear hch
      rintro e we ⟨m, c', rfl, hm, hr, hgb⟩
      have Bc := Lib.hid (Bc.out.trans (hgb.to_below GQ.out Bc.out.size))
      have RR := Lib.hid hr
      have MM := Lib.hid hm
      clear hm hr hgb
      go_simp
      refine hK.out _ _ (KS.out _ Bc.out) (fun h0_2 => ?_)
      clear hK K h0_1
      refine wpAnyH_take (i := 11) (v := ?v10) rfl (by kernel_rfl) (by kernel_rfl) (by kernel_rfl) (fun _ _ _ h => h) (Or.inl ⟨by rfl, ?hy10⟩) h0_2 ?rest10
      case hy10 => (intro w' hS; (try dsimp only at hS); go_simp; try (with_reducible rfl))
      simp only [Act.put, List.getElem_toArray, List.getElem_cons_zero, List.getElem_cons_succ, List.setIfInBounds_toArray, List.set_cons_zero, List.set_cons_succ]
      refine wpAnyH_take (i := 12) (v := ?v11) rfl (by kernel_rfl) (by kernel_rfl) (by kernel_rfl) (fun _ _ _ h => h) (Or.inl ⟨by rfl, ?hy11⟩) h0_2 ?rest11
      case hy11 => (intro w' hS; (try dsimp only at hS); go_simp; try (with_reducible rfl))
      simp only [Act.put, List.getElem_toArray, List.getElem_cons_zero, List.getElem_cons_succ, List.setIfInBounds_toArray, List.set_cons_zero, List.set_cons_succ]
      refine wpAnyH_ready (rs := [13]) (by kernel_rfl) (by simp) (AllReadyH.cons rfl (fun K hK => ?_) AllReadyH.nil)
      rw [if_pos (by rfl)]
      obtain ⟨y, hy⟩ : ∃ y : AV, y = ⟨some ⟨g, 0, none⟩, c', ch x.a, x.b, x.s⟩ := ⟨_, rfl⟩
      have RW := Lib.hid (R1.out.on Bc.out)
      have HT := Lib.hid (show we.there b (t * 3) y.cs.size from fun j hj => RW.out.there (t * 3 + j) (by have : j < 3 := hj; omega))
      have ZY := Lib.hid (show RowV (we.setCells b (t * 3) y.cells) b n (L ++ [y]) by rw [← HLt.out]; exact RW.out.put (by rw [HLt.out]; exact htn) (g := g) (by rw [hy]) (by have := R1.out.lt; have := GQ.out; omega) (by rw [hy]; intro j hj; exact ⟨_, rfl, by rw [addr_add, Nat.zero_add]; exact RR.out j hj⟩))
      have SY := Lib.hid (show IsCh ch (l.take (t + 1)) (L ++ [y]) from SN.out y (by rw [hy]) (by rw [hy]) (by rw [hy]))
      have B9 := Lib.hid (show Below w.heap.size w (we.setCells b (t * 3) y.cells) from Below.setCells (by have := HB0.out; omega) y.cells (t * 3) _ (below_on B1.out Bc.out))
      have KZ := Lib.hid (show (we.setCells b (t * 3) y.cells).cell? ⟨q, 6, none⟩ = some (.int .i64 x.b) ∧ (we.setCells b (t * 3) y.cells).cell? ⟨q, 7, none⟩ = some (.bool x.s) from ⟨by rw [World.cell?_setCells_out b y.cells (t * 3) we _ (fun e _ => absurd e QB.out)]; exact (KS.out _ Bc.out).1, by rw [World.cell?_setCells_out b y.cells (t * 3) we _ (fun e _ => absurd e QB.out)]; exact (KS.out _ Bc.out).2⟩)
      have HYL := Lib.hid (show (L ++ [y]).length = t + 1 by rw [List.length_append, HLt.out]; rfl)
      rw [MM.out]
      refine wp_store_mid _ _ _ rfl b (t * 3) y.cs rfl (by rw [hy]; rfl) HT.out av_size (by simp [AV.cs, AV.cells, Value.oneCell']) ?_
      clear hy
      refine hK.out _ _ KZ.out (fun h0_3 => ?_)
      clear hK K h0_2
      try simp only [List.set_cons_succ]
      try simp only [List.set_cons_zero]
      refine wpAnyH_done (by kernel_rfl) ?_ _
      go_wp2_with fail
      go_roundw
      case rel => exact ⟨t + 1, by go_num, by omega, Lib.hid ⟨_, HYL.out, SY.out, ZY.out⟩, B9⟩
      case measure => simp [intOf]; omega
    · have e : l.take t = l := List.take_of_length_le (by have := HN.out; omega)
      rw [e] at HIs
      clear e
      go_wp2_with fail
      go_ret
      exact ⟨b, L, rfl, HIs.out, HRow.out, by rw [HB0.out]; exact Nat.le_refl _, HB.out⟩
end Go.Proofs.YtbhaoaobhgilkaaGreat
