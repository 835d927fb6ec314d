/- The contract of package poly's lists.; The closure of package poly's Without. -/
import Derived.Test.YtbhaoaobhgilkaaGreatWm3
import Derived.Test.YtbhaoaobhgilkaaGreatWm13
import Derived.Deep.RegionHeld3

namespace Go.Proofs.YtbhaoaobhgilkaaGreat
open Go.RowKit Go.Sort Go.Shelf

structure RowV (w : World) (b n : Nat) (L : List AV) : Prop where
  at_ : ∀ t, ∀ h : t < L.length, AvAt w ⟨b, t * 3, none⟩ L[t]
  there : ∀ j, j < n * 3 → (w.cell? ⟨b, j, none⟩).isSome = true ∧ w.frozen? ⟨b, j, none⟩ = false
  nums : ∀ y ∈ L, ∃ g, y.q = some ⟨g, 0, none⟩ ∧ b < g ∧ Rd1 w y.q y.a
  lt : b < w.heap.size

theorem RowV.on {w w' : World} {b n : Nat} {L : List AV} (h : RowV w b n L) (hb : Below w.heap.size w w') : RowV w' b n L :=
  ⟨fun t ht => (h.at_ t ht).on hb, fun j hj => by rw [hb.cell (p := ⟨b, j, none⟩) h.lt, hb.frozen (p := ⟨b, j, none⟩) h.lt]; exact h.there j hj,
    fun y hy => by obtain ⟨g, e, n, r⟩ := h.nums y hy; exact ⟨g, e, n, r.on hb⟩, Nat.lt_of_lt_of_le h.lt hb.size⟩

theorem Rd1.setCells {w : World} {g b o : Nat} {a : List Int} (h : Rd1 w (some ⟨g, 0, none⟩) a) (hne : g ≠ b) (vs : List Value) : Rd1 (w.setCells b o vs) (some ⟨g, 0, none⟩) a := fun t ht => by
  obtain ⟨p, e, c⟩ := h t ht
  refine ⟨p, e, ?_⟩
  cases e
  rw [addr_add] at c ⊢
  rw [World.cell?_setCells_out b vs o w _ (fun e _ => absurd e hne)]
  exact c

theorem RowV.put {w : World} {b n : Nat} {L : List AV} (h : RowV w b n L) {y : AV} (hn : L.length < n) {g : Nat} (hq : y.q = some ⟨g, 0, none⟩) (hg : b < g) (hr : Rd1 w y.q y.a) : RowV (w.setCells b (L.length * 3) y.cells) b n (L ++ [y]) := by
  refine ⟨fun t ht => ?_, fun j hj => ?_, fun z hz => ?_, ?_⟩
  · by_cases e : t < L.length
    · rw [List.getElem_append_left e]
      intro j v hv
      have hj : j < 3 := by
        by_cases q : j < 3
        · exact q
        · rw [List.getElem?_eq_none (by show (3 : Nat) ≤ j; omega)] at hv; cases hv
      have := h.at_ t e j v hv
      rw [addr_add] at this ⊢
      rw [World.cell?_setCells_out b y.cells (L.length * 3) w _ (fun _ _ => Or.inl (by show t * 3 + j < L.length * 3; omega))]
      exact this
    · have e2 : t = L.length := by simp at ht; omega
      subst e2
      rw [List.getElem_append_right (Nat.le_refl _)]
      simp only [Nat.sub_self, List.getElem_cons_zero]
      intro j v hv
      have hj : j < y.cells.length := (List.getElem?_eq_some_iff.1 hv).1
      have hj3 : j < 3 := hj
      rw [addr_add, World.cell?_setCells_in b y.cells (L.length * 3) w (fun j hj => (h.there _ (by have : j < 3 := hj; omega)).1) j hj, ← hv, List.getElem?_eq_getElem hj]
  · rw [World.frozen?_setCells]
    exact ⟨World.isSome_setCells b _ _ _ _ (h.there j hj).1, (h.there j hj).2⟩
  · rcases List.mem_append.1 hz with q | q
    · obtain ⟨g', e, n', r⟩ := h.nums z q
      exact ⟨g', e, n', by rw [e] at r ⊢; exact r.setCells (by omega) _⟩
    · rw [List.mem_singleton] at q
      subst q
      exact ⟨g, hq, hg, by rw [hq] at hr ⊢; exact hr.setCells (by omega) _⟩
  · exact Nat.lt_of_lt_of_le h.lt (Below.setCells (Nat.zero_le b) y.cells (L.length * 3) w (Below.refl 0 w)).size

theorem RowV.rd {w : World} {b n : Nat} {L : List AV} (h : RowV w b n L) : RdV w (some ⟨b, 0, none⟩) L :=
  ⟨fun t ht => ⟨_, rfl, by rw [addr_add, Nat.zero_add]; exact h.at_ t ht⟩, fun y hy => by obtain ⟨_, _, _, r⟩ := h.nums y hy; exact r⟩

theorem OwnI.base {w : World} {B B' g cap : Nat} {a : List Int} (h : OwnI w B g cap a) (hb : B' ≤ B) : OwnI w B' g cap a :=
  ⟨h.1, h.2.imp id fun ⟨g, cap, cur, h1, h2, h3⟩ => ⟨g, cap, cur, h1, Nat.le_trans hb h2, h3⟩⟩

theorem av_info : (Tryz.prog.info? 25).map (fun i => (i.zero, i.size, i.bytes)) = some (some (.agg av0.cs), 3, 40) := by kernel_rfl

theorem make_avs (w : World) (n : Nat) (hn : n ≤ 100000) : ∃ cur : Array Value, (Instr.makeSlice 22 (.int .i64 n) (.int .i64 n)).run Tryz.prog w = .ok (.slice (some ⟨w.heap.size, 0, none⟩) n n) (w.alloc (.cells cur 25))
    ∧ RowV (w.alloc (.cells cur 25)) w.heap.size n [] := by
  obtain ⟨i0, hi, hz0, hz1, hz2⟩ := info_parts av_info
  have hr := run_make (P := Tryz.prog) w 22 25 i0 _ Tryz.underlying22 hi hz0 .i64 .i64 (n : Int) (n : Int) (by omega) (by omega) (by rw [hz2]; omega) (by omega)
  simp only [Int.toNat_natCast] at hr
  rw [hz1] at hr
  refine ⟨_, hr, fun t ht => by simp at ht, fun j hj => ?_, fun y hy => by simp at hy, by simp⟩
  have hb := heap_alloc_last w (.cells (madeCells av0.cs (n * 3)) 25)
  have e : (Value.agg av0.cs).cells = av0.cs := rfl
  rw [e]
  refine ⟨?_, frozen_of_row _ _ _ _ _ hb⟩
  rw [cell_of_row _ _ _ _ _ _ hb, Array.getElem?_eq_getElem (by rw [size_madeCells]; exact hj)]
  rfl

theorem yld_wholeA {o : Oper} {ac : Act} {w : World} (s : Operand) (ho : o.op = .slice 80 s none none none) (b : Nat) (hs : ac.eval s = .pointer (some ⟨b, 0, none⟩)) :
    (execOp ac.eval o).run Tryz.prog w = .ok (.value (.slice (some ⟨b, 0, none⟩) 6 6)) w := by
  have h := run_wholeA b w
  unfold execOp
  simp only [ho, hs, Option.map_none, Sem.run_bind, h, Result.andThen_ok, Sem.run_pure]

def IsCh (ch : List Int → List Int) (l : List Ln) (L : List AV) : Prop := L.map (fun y => (y.a, y.b, y.s)) = l.map fun x => (ch x.a, x.b, x.s)

theorem IsCh.snoc {ch : List Int → List Int} {l : List Ln} {L : List AV} {t : Nat} (ht : t < l.length) (h : IsCh ch (l.take t) L) {y : AV} (e1 : y.a = ch l[t].a) (e2 : y.b = l[t].b) (e3 : y.s = l[t].s) : IsCh ch (l.take (t + 1)) (L ++ [y]) := by
  unfold IsCh at h ⊢
  rw [List.take_succ_eq_append_getElem ht, List.map_append, List.map_append, h]
  simp [e1, e2, e3]

set_option maxRecDepth 100000 in
set_option maxHeartbeats 4000000 in
theorem lists_any (l : List Ln) (ao : Option Addr) (cap : Nat) (fv : Value) (ch : List Int → List Int) (w : World) (hl : l.length ≤ 100000) (hR : RdL w ao l) (h6 : ∀ x ∈ l, x.a.length = 6) (hC : Chooses fv w ch) :
    Calls Tryz.prog 43 #[.slice ao l.length cap, fv] w (fun e w' => ∃ b L, e = .returned (.slice (some ⟨b, 0, none⟩) l.length l.length) ∧ IsCh ch l L ∧ RowV w' b l.length L ∧ w.heap.size ≤ b ∧ Below w.heap.size w w') := by
  obtain ⟨kf, lb, rfl, eg, hC⟩ := hC
  have HC := Lib.hid hC
  have hz := ln_zero
  have HR := Lib.hid hR
  have H6 := Lib.hid h6
  obtain ⟨cur, hmk, hrw⟩ := make_avs w l.length hl
  obtain ⟨n, hn⟩ : ∃ n, n = l.length := ⟨_, rfl⟩
  have HN := Lib.hid hn
  have hle : n ≤ 100000 := by omega
  obtain ⟨w0, hw0⟩ : ∃ w0, w0 = w.alloc (.cells cur 25) := ⟨_, rfl⟩
  rw [← hw0] at hmk hrw
  have W0 := Lib.hid hrw
  have E0 := Lib.hid (show Below w.heap.size w w0 by rw [hw0]; exact one_more _)
  obtain ⟨b, hb⟩ : ∃ b, b = w.heap.size := ⟨_, rfl⟩
  have HB0 := Lib.hid hb
  rw [← hn] at hmk
  rw [← hn] at W0
  rw [← hn]
  rw [← hb] at hmk W0
  clear hl hR h6 hn hrw hw0 hb hC
  go_enter Tryz.func43, Tryz.ntmps43
  go_wp2_with (rw [hmk])
  go_loopw [13] (fun s wr => ∃ t : Nat, s = .int .i64 t ∧ t ≤ n ∧ Hid (∃ L, L.length = t ∧ IsCh ch (l.take t) L ∧ RowV wr b n L) ∧ Hid (Below w.heap.size w wr)) (fun s _ => n - (intOf s).toNat)
  case atStart => exact ⟨0, rfl, by omega, Lib.hid ⟨[], rfl, rfl, W0.out⟩, E0⟩
  case round =>
    clear hmk
    obtain ⟨t, rfl, ht, HL, HB⟩ := hrel
    obtain ⟨L, hLt, hIs, hRow⟩ := HL.out
    have HRow := Lib.hid hRow
    have HIs := Lib.hid hIs
    have HLt := Lib.hid hLt
    clear HL hLt hIs hRow
    by_cases htn : t < n
    · have hlt : t < l.length := by have := HN.out; omega
      obtain ⟨p, hp, hla⟩ := HR.out.on HB.out t hlt
      obtain ⟨x, hx⟩ : ∃ x, x = l[t] := ⟨_, rfl⟩
      rw [← hx] at hla
      have LA := Lib.hid hla
      have X6 := Lib.hid (show x.a.length = 6 by rw [hx]; exact H6.out _ (List.getElem_mem _))
      have SN := Lib.hid (fun (y : AV) (e1 : y.a = ch x.a) (e2 : y.b = x.b) (e3 : y.s = x.s) => HIs.out.snoc hlt (e1.trans (by rw [hx])) (e2.trans (by rw [hx])) (e3.trans (by rw [hx])))
      have N1 := Lib.hid (show Bk (wr.alloc (.cells ln0.cs 82)) wr.heap.size ln0 from Bk.made wr ln0 rfl)
      have N2 := Lib.hid (N1.out.setRow X6.out)
      have B2 := Lib.hid (Below.setRow ((Below.refl wr.heap.size wr).alloc (Nat.le_refl _) (.cells ln0.cs 82)) (b := wr.heap.size) (Nat.le_refl _) x.cs)
      clear hla hx hlt
      subst hp
      go_upto_region 5 with (first | refine wpl_loadP rfl _ rfl _ rfl x LA.out ?_ | refine wpl_store rfl _ _ rfl _ _ rfl rfl _ N1.out X6.out ?_)
      generalize (wr.alloc (.cells ln0.cs 82)).setRow wr.heap.size x.cs = w1 at *
      have R1 := Lib.hid (HRow.out.on B2.out)
      have B1 := Lib.hid (below_on HB.out B2.out)
      obtain ⟨q, hq⟩ : ∃ q, q = wr.heap.size := ⟨_, rfl⟩
      have QB := Lib.hid (show q ≠ b by rw [hq]; have := HRow.out.lt; omega)
      rw [← hq] at N2 ⊢
      clear N1 B2 HRow HB LA hq HIs
      have C6 := Lib.hid N2.out.num
      have C7 := Lib.hid N2.out.str
      have KS := Lib.hid (show ∀ W, Below w1.heap.size w1 W → (W.cell? ⟨q, 6, none⟩ = some (.int .i64 x.b) ∧ W.cell? ⟨q, 7, none⟩ = some (.bool x.s)) from fun W h => ⟨kept h C6.out, kept h C7.out⟩)
      obtain ⟨wc, hwc⟩ : ∃ wc, wc = w1.drew := ⟨_, rfl⟩
      have Bc := Lib.hid (show Below w1.heap.size w1 wc by rw [hwc]; exact (Below.refl _ _).drew)
      have Bk0 := Lib.hid (show w1.heap.size ≤ wc.heap.size from Bc.out.size)
      refine wp_region_held_drew (S := (fun W => (W.cell? ⟨q, 6, none⟩ = some (.int .i64 x.b) ∧ W.cell? ⟨q, 7, none⟩ = some (.bool x.s)))) (by kernel_rfl) (by rw [← hwc]; exact KS.out _ Bc.out) (fun h0 => ?_)
      rw [← hwc] at h0 ⊢
      clear hwc
      refine tkH (i := 0) (v := ?v1) rfl (Or.inl ⟨by rfl, ?hy1⟩) h0 ?rest1
      case hy1 => (intro w' hS; (try dsimp only at hS); go_simp; try (with_reducible rfl))
      simp only [Act.put, sA, sB, sD, sE, sF]
      refine tkH (i := 1) (v := ?v2) rfl (Or.inl ⟨by rfl, ?hy2⟩) h0 ?rest2
      case hy2 => (intro w' hS; (try dsimp only at hS); go_simp; try (with_reducible rfl))
      simp only [Act.put, sZ]
      refine tkH (i := 2) (v := ?v3) rfl (Or.inl ⟨by rfl, ?hy3⟩) h0 ?rest3
      case hy3 => (intro w' hS; (try dsimp only at hS); go_simp; try (with_reducible rfl))
      simp only [Act.put, sZ]
      refine tkH (i := 3) (v := ?v4) rfl (Or.inl ⟨by rfl, ?hy4⟩) h0 ?rest4
      case hy4 => (intro w' hS; (try dsimp only at hS); go_simp; try (with_reducible rfl))
      simp only [Act.put, sZ]
      refine tkH (i := 4) (v := (.slice (some ⟨q, 0, none⟩) 6 6)) rfl (Or.inl ⟨by rfl, (fun w' _ => yld_wholeA _ rfl q rfl)⟩) h0 ?_
      simp only [Act.put, sZ]
      refine tkH (i := 7) (v := ?v6) rfl (Or.inl ⟨by rfl, ?hy6⟩) h0 ?rest6
      case hy6 => (intro w' hS; (try dsimp only at hS); go_simp; try (with_reducible rfl))
      simp only [Act.put, sZ]
      refine tkH (i := 8) (v := ?v7) rfl (Or.inl ⟨by rfl, ?hy7⟩) h0 ?rest7
      case hy7 => (intro w' hS; (try dsimp only at hS); go_simp; try (with_reducible rfl))
      simp only [Act.put, sZ]
      refine tkH (i := 9) (v := ?v8) rfl (Or.inl ⟨by rfl, ?hy8⟩) h0 ?rest8
      case hy8 => (intro w' hS; (try dsimp only at hS); go_simp; try (with_reducible rfl))
      simp only [Act.put, sZ]
      refine tkH (i := 10) (v := ?v9) rfl (Or.inl ⟨by rfl, ?hy9⟩) h0 ?rest9
      case hy9 => (intro w' hS; (try dsimp only at hS); go_simp; try (with_reducible rfl))
      simp only [Act.put, sZ]
      refine wpAnyH_ready (rs := [5]) (by kernel_rfl) (by simp) (AllReadyH.cons rfl (fun K hK => ?_) AllReadyH.nil)
      rw [if_pos (by rfl)]
      go_simp
      have hcl := cloneI_any x.a q 6 wc (by rw [X6.out]; omega) (fun j hj => kept Bc.out (N2.out.at (by have := X6.out; omega)))
      rw [X6.out] at hcl
      refine hcl.mono ?_
      clear hcl
      rintro e wd ⟨g, cg, rfl, ho, hb⟩
      have OI := Lib.hid ho
      have GQ := Lib.hid (show w1.heap.size ≤ g from Nat.le_trans Bc.out.size ho.lt.1)
      have Bc := Lib.hid (below_on Bc.out hb)
      clear ho hb
      go_simp
      refine hK.out _ _ (KS.out _ Bc.out) (fun h0_1 => ?_)
      clear hK K h0
      refine wpAnyH_ready (rs := [6]) (by kernel_rfl) (by simp) (AllReadyH.cons rfl (fun K hK => ?_) AllReadyH.nil)
      rw [if_pos (by rfl)]
      go_simp
      have hch := HC.out wd (below_on B1.out Bc.out) g cg x.a X6.out (OwnI.base OI.out (Nat.le_trans B1.out.size (Nat.le_trans (Bk0.out) (Nat.le_refl _))))
      refine hch.mono ?_
      clear hch
      rintro e we ⟨m, c', rfl, hm, hr, hgb⟩
      have Bc := Lib.hid (Bc.out.trans (hgb.to_below GQ.out Bc.out.size))
      have RR := Lib.hid hr
      have MM := Lib.hid hm
      clear hm hr hgb
      go_simp
      refine hK.out _ _ (KS.out _ Bc.out) (fun h0_2 => ?_)
      clear hK K h0_1
      refine tkH (i := 11) (v := ?v10) rfl (Or.inl ⟨by rfl, ?hy10⟩) h0_2 ?rest10
      case hy10 => (intro w' hS; (try dsimp only at hS); go_simp; try (with_reducible rfl))
      simp only [Act.put, sZ]
      refine tkH (i := 12) (v := ?v11) rfl (Or.inl ⟨by rfl, ?hy11⟩) h0_2 ?rest11
      case hy11 => (intro w' hS; (try dsimp only at hS); go_simp; try (with_reducible rfl))
      simp only [Act.put, sZ]
      refine wpAnyH_ready (rs := [13]) (by kernel_rfl) (by simp) (AllReadyH.cons rfl (fun K hK => ?_) AllReadyH.nil)
      rw [if_pos (by rfl)]
      obtain ⟨y, hy⟩ : ∃ y : AV, y = ⟨some ⟨g, 0, none⟩, c', ch x.a, x.b, x.s⟩ := ⟨_, rfl⟩
      have RW := Lib.hid (R1.out.on Bc.out)
      have HT := Lib.hid (show we.there b (t * 3) y.cs.size from fun j hj => RW.out.there (t * 3 + j) (by have : j < 3 := hj; omega))
      have ZY := Lib.hid (show RowV (we.setCells b (t * 3) y.cells) b n (L ++ [y]) by rw [← HLt.out]; exact RW.out.put (by rw [HLt.out]; exact htn) (g := g) (by rw [hy]) (by have := R1.out.lt; have := GQ.out; omega) (by rw [hy]; intro j hj; exact ⟨_, rfl, by rw [addr_add, Nat.zero_add]; exact RR.out j hj⟩))
      have SY := Lib.hid (show IsCh ch (l.take (t + 1)) (L ++ [y]) from SN.out y (by rw [hy]) (by rw [hy]) (by rw [hy]))
      have B9 := Lib.hid (show Below w.heap.size w (we.setCells b (t * 3) y.cells) from Below.setCells (by have := HB0.out; omega) y.cells (t * 3) _ (below_on B1.out Bc.out))
      have KZ := Lib.hid (show (we.setCells b (t * 3) y.cells).cell? ⟨q, 6, none⟩ = some (.int .i64 x.b) ∧ (we.setCells b (t * 3) y.cells).cell? ⟨q, 7, none⟩ = some (.bool x.s) from ⟨by rw [World.cell?_setCells_out b y.cells (t * 3) we _ (fun e _ => absurd e QB.out)]; exact (KS.out _ Bc.out).1, by rw [World.cell?_setCells_out b y.cells (t * 3) we _ (fun e _ => absurd e QB.out)]; exact (KS.out _ Bc.out).2⟩)
      have HYL := Lib.hid (show (L ++ [y]).length = t + 1 by rw [List.length_append, HLt.out]; rfl)
      rw [MM.out]
      refine wp_store_mid _ _ _ rfl b (t * 3) y.cs rfl (by rw [hy]; rfl) HT.out av_size (by simp [AV.cs, AV.cells, Value.oneCell']) ?_
      clear hy
      refine hK.out _ _ KZ.out (fun h0_3 => ?_)
      clear hK K h0_2
      try simp only [sF]
      try simp only [sE]
      refine wpAnyH_done (by kernel_rfl) ?_ _
      go_wp2_with fail
      go_roundw
      case rel => exact ⟨t + 1, by go_num, by omega, Lib.hid ⟨_, HYL.out, SY.out, ZY.out⟩, B9⟩
      case measure => simp [intOf]; omega
    · have e : l.take t = l := List.take_of_length_le (by have := HN.out; omega)
      rw [e] at HIs
      clear e
      go_wp2_with fail
      go_ret
      exact ⟨b, L, rfl, HIs.out, HRow.out, by rw [HB0.out]; exact Nat.le_refl _, HB.out⟩
end Go.Proofs.YtbhaoaobhgilkaaGreat

namespace Go.Proofs.YtbhaoaobhgilkaaGreat
open Go.RowKit Go.Sort Go.Shelf

def woE (n : Int) (L : List AV) (I : Int) : Int := if 0 ≤ I ∧ I < n then leaveE (L.map ofV) I.toNat else 2

def WoR (n : Nat) (L : List AV) (I : Int) (W : World) (v : Value) (A : World) : Prop :=
  ∃ b Lr, v = .slice (some ⟨b, 0, none⟩) (leaveL (L.map ofV) I.toNat).length (leaveL (L.map ofV) I.toNat).length ∧ IsCh (chW n I.toNat) (leaveL (L.map ofV) I.toNat) Lr ∧ RowV A b (leaveL (L.map ofV) I.toNat).length Lr ∧ W.heap.size ≤ b

theorem RowV.aside {w : World} {b n : Nat} {L : List AV} (h : RowV w b n L) {k : Nat} (hk : k < b) (v : Value) : RowV (w.setCell ⟨k, 0, none⟩ v) b n L := by
  have far : ∀ p : Addr, p.block ≠ k → (w.setCell ⟨k, 0, none⟩ v).cell? p = w.cell? p := fun p hp => World.cell?_setCell_other w ⟨k, 0, none⟩ p v (fun e => hp (by rw [← e]))
  refine ⟨fun t ht j u hu => ?_, fun j hj => ?_, fun y hy => ?_, ?_⟩
  · have := h.at_ t ht j u hu
    rw [far _ (by rw [addr_add]; show b ≠ k; omega)]; exact this
  · rw [World.frozen?_setCell, far _ (by show b ≠ k; omega)]; exact h.there j hj
  · obtain ⟨g, e, hg, r⟩ := h.nums y hy
    refine ⟨g, e, hg, fun t ht => ?_⟩
    obtain ⟨p, e2, c⟩ := r t ht
    refine ⟨p, e2, ?_⟩
    have e3 : p = ⟨g, 0, none⟩ := by rw [e] at e2; injection e2 with e2; exact e2.symm
    rw [far _ (by rw [e3, addr_add]; show g ≠ k; omega)]; exact c
  · have := h.lt; simpa using this

theorem WoR.aside {n : Nat} {L : List AV} {I : Int} {W A : World} {v : Value} (h : WoR n L I W v A) {k : Nat} (hk : k < W.heap.size) (y : Value) : WoR n L I W v (A.setCell ⟨k, 0, none⟩ y) := by
  obtain ⟨b, Lr, e, h1, h2, h3⟩ := h
  exact ⟨b, Lr, e, h1, h2.aside (by omega) y, h3⟩

theorem chW_enters : ∀ args w, (callFunc 46 args).run Tryz.prog w = .ok (.enter 46 args) w := enters_of Tryz.func46 (by kernel_rfl) rfl

set_option maxRecDepth 100000 in
set_option maxHeartbeats 4000000 in
theorem without1_any (n : Nat) (I : Int) (L : List AV) (ao : Option Addr) (cap pi pn pl : Nat) (w : World) (hc : chkP n L = 0) (hR : RdV w ao L) (c0 : w.cell? ⟨pi, 0, none⟩ = some (.int .i64 I)) (c1 : w.cell? ⟨pn, 0, none⟩ = some (.int .i64 n)) (c2 : w.cell? ⟨pl, 0, none⟩ = some (.slice ao L.length cap)) :
    Calls Tryz.prog 41 #[.pointer (some ⟨pi, 0, none⟩), .pointer (some ⟨pn, 0, none⟩), .pointer (some ⟨pl, 0, none⟩)] w fun e W' =>
      (woE n L I = 0 ∧ ∃ v, e = .returned v ∧ WoR n L I w v W' ∧ Below w.heap.size w W') ∨ (woE n L I ≠ 0 ∧ e = .panicked (pan (woE n L I)) ∧ Below w.heap.size w W') := by
  have hmf : ∀ (fn : Fn) (first cap : Array Value) (w : World), (Instr.makeFunc fn first cap).run Tryz.prog w = .ok (.func fn first cap) w := fun _ _ _ _ => rfl
  obtain ⟨⟨_, hn⟩, hl, hv⟩ := chk_valid hc
  obtain ⟨k, hk⟩ : ∃ k, k = L.length := ⟨_, rfl⟩
  rw [← hk] at c2
  by_cases h1 : I < 0
  · have HE := Lib.hid (show woE n L I = 2 by unfold woE; rw [if_neg (by omega)])
    clear hc hR hl hv hk
    go_enter Tryz.func41, Tryz.ntmps41
    go_wp2_with fail
    refine (demand_any false w).mono ?_
    rintro e w2 ⟨rfl, rfl⟩
    go_wp2_with fail
    exact And.intro rfl (Or.inr ⟨by rw [HE.out]; decide, by rw [HE.out], Below.refl _ _⟩)
  · by_cases h2 : I < n
    · obtain ⟨i, rfl⟩ : ∃ i : Nat, I = i := ⟨I.toNat, by omega⟩
      have hi : i < n := by omega
      have HE := Lib.hid (show woE n L i = leaveE (L.map ofV) i by unfold woE; rw [if_pos ⟨by omega, by omega⟩, Int.toNat_natCast])
      have hkl : k = (L.map ofV).length := by rw [hk]; simp
      have LI := Lib.hid (fun W (h : Below w.heap.size w W) => lines_any L ao cap W (by omega) (hR.on h) (fun y hy => by have := valid_len (hv y hy); omega))
      have LV := Lib.hid (fun W a c (h : RdL W a (L.map ofV)) => leave_any (L.map ofV) a c i W (by simp; omega) (by omega) h (fun x hx => by
        obtain ⟨y, hy, rfl⟩ := List.mem_map.1 hx
        exact ofV_rg (by omega) (hv y hy)))
      have RG := Lib.hid (show leaveE (L.map ofV) i = 0 → (leaveL (L.map ofV) i).length ≤ 100000 ∧ ∀ x ∈ leaveL (L.map ofV) i, x.a.length = 6 from fun h => by
        refine ⟨?_, fun x hx => (leaveL_rg (fun x hx => by
          obtain ⟨y, hy, rfl⟩ := List.mem_map.1 hx
          exact ofV_rg (n := n) (by omega) (hv y hy)) h x hx).len⟩
        unfold leaveL
        exact tidyL_len (by have := leaveE_len h; omega) (by omega))
      rw [← hkl] at LV
      rw [← hk] at LI
      have KL := Lib.hid hkl
      have C0 := Lib.hid c0
      have C1 := Lib.hid c1
      have C2 := Lib.hid c2
      have CH := Lib.hid (show ∀ W, Below w.heap.size w W → Chooses (.func (.func 46) #[] #[.pointer (some ⟨pn, 0, none⟩), .pointer (some ⟨pi, 0, none⟩)]) W (chW n i) from fun W hW =>
        ⟨_, _, rfl, chW_enters, fun V hV g cg a ha ho => chW_any n i g cg pn pi a W.heap.size V ha (by omega) hi ho (kept hV (kept hW C1.out)) (kept hV (kept hW C0.out))
          (by have h3 := World.block_lt_of_cell? W _ (kept hW C1.out); have h4 := ho.lt; simp only at h3; omega) (by have h3 := World.block_lt_of_cell? W _ (kept hW C0.out); have h4 := ho.lt; simp only at h3; omega)⟩)
      have WR := Lib.hid (show ∀ (v : Value) (A : World) b Lr, v = .slice (some ⟨b, 0, none⟩) (leaveL (L.map ofV) i).length (leaveL (L.map ofV) i).length → IsCh (chW n i) (leaveL (L.map ofV) i) Lr → RowV A b (leaveL (L.map ofV) i).length Lr → w.heap.size ≤ b → WoR n L i w v A from fun v A b Lr e q1 q2 q3 => ⟨b, Lr, e, q1, q2, q3⟩)
      generalize L.map ofV = l at *
      clear hc hR hl hv hk hkl
      go_enter Tryz.func41, Tryz.ntmps41
      go_wp2_with fail
      refine (demand_any true w).mono ?_
      rintro e w2 ⟨rfl, rfl⟩
      go_upto_region 2 with (fail)
      have KS := Lib.hid (show ∀ W, Below w2.heap.size w2 W → (W.cell? ⟨pi, 0, none⟩ = some (.int .i64 i) ∧ W.cell? ⟨pn, 0, none⟩ = some (.int .i64 n) ∧ W.cell? ⟨pl, 0, none⟩ = some (.slice ao k cap)) from fun W h => ⟨kept h C0.out, kept h C1.out, kept h C2.out⟩)
      obtain ⟨wc, hwc⟩ : ∃ wc, wc = w2.drew := ⟨_, rfl⟩
      have Bc := Lib.hid (show Below w2.heap.size w2 wc by rw [hwc]; exact (Below.refl _ _).drew)
      refine wp_region_held_drew (S := (fun W => (W.cell? ⟨pi, 0, none⟩ = some (.int .i64 i) ∧ W.cell? ⟨pn, 0, none⟩ = some (.int .i64 n) ∧ W.cell? ⟨pl, 0, none⟩ = some (.slice ao k cap)))) (by kernel_rfl) (by rw [← hwc]; exact KS.out _ Bc.out) (fun h0 => ?_)
      rw [← hwc] at h0 ⊢
      clear hwc
      refine tkH (i := 0) (v := ?v1) rfl (Or.inl ⟨by rfl, ?hy1⟩) h0 ?rest1
      case hy1 => (intro w' hS; (try dsimp only at hS); go_simp; try (with_reducible rfl))
      simp only [Act.put, sA, sB, sD, sE, sF]
      refine tkH (i := 2) (v := ?v2) rfl (Or.inl ⟨by rfl, ?hy2⟩) h0 ?rest2
      case hy2 => (intro w' hS; (try dsimp only at hS); go_simp; try (with_reducible rfl))
      simp only [Act.put, sZ]
      refine tkH (i := 4) (v := ?v3) rfl (Or.inl ⟨by rfl, ?hy3⟩) h0 ?rest3
      case hy3 => (intro w' hS; (try dsimp only at hS); go_simp; try (with_reducible rfl))
      simp only [Act.put, sZ]
      refine wpAnyH_ready (rs := [1]) (by kernel_rfl) (by simp) (AllReadyH.cons rfl (fun K hK => ?_) AllReadyH.nil)
      rw [if_pos (by rfl)]
      go_simp
      refine (LI.out wc Bc.out).mono ?_
      rintro e wc ⟨a1, d1, rfl, hr, hb⟩
      have R1 := Lib.hid hr
      clear hr
      rw [← KL.out]
      have Bc := Lib.hid (below_on Bc.out hb)
      clear hb
      go_simp
      refine hK.out _ _ (KS.out _ Bc.out) (fun h0_1 => ?_)
      clear hK K h0
      refine wpAnyH_ready (rs := [3]) (by kernel_rfl) (by simp) (AllReadyH.cons rfl (fun K hK => ?_) AllReadyH.nil)
      rw [if_pos (by rfl)]
      go_simp
      refine (LV.out wc a1 d1 R1.out).mono ?_
      rintro e wc (⟨he, a3, d3, rfl, hr, hb⟩ | ⟨he, rfl, hb⟩)
      rotate_left
      · exact And.intro rfl (Or.inr ⟨by rw [HE.out]; exact he, by rw [HE.out], below_on Bc.out hb⟩)
      have HZ := Lib.hid he
      have R3 := Lib.hid hr
      clear hr he
      have Bc := Lib.hid (below_on Bc.out hb)
      clear hb
      go_simp
      refine hK.out _ _ (KS.out _ Bc.out) (fun h0_2 => ?_)
      clear hK K h0_1
      refine wpAnyH_ready (rs := [5]) (by kernel_rfl) (by simp) (AllReadyH.cons rfl (fun K hK => ?_) AllReadyH.nil)
      rw [if_pos (by rfl)]
      go_simp
      refine (lists_any (leaveL l i) a3 d3 _ (chW n i) wc (RG.out HZ.out).1 R3.out (RG.out HZ.out).2 (CH.out wc Bc.out)).mono ?_
      have Z5 := Lib.hid Bc.out.size
      rintro e wc ⟨b5, L5, rfl, q1, q2, q3, hb⟩
      have W5 := Lib.hid (WR.out _ _ b5 L5 rfl q1 q2 (Nat.le_trans Z5.out q3))
      clear q1 q2 q3
      have Bc := Lib.hid (below_on Bc.out hb)
      clear hb
      go_simp
      refine hK.out _ _ (KS.out _ Bc.out) (fun h0_3 => ?_)
      clear hK K h0_2
      refine tkH (i := 6) (v := ?v4) rfl (Or.inl ⟨by rfl, ?hy4⟩) h0_3 ?rest4
      case hy4 => (intro w' hS; (try dsimp only at hS); go_simp; try (with_reducible rfl))
      simp only [Act.put, sA, sB, sC, sD]
      try simp only [sF]
      try simp only [sE]
      refine wpAnyH_done (by kernel_rfl) ?_ _
      go_wp2_with fail
      go_ret
      exact Or.inl ⟨by rw [HE.out]; exact HZ.out, _, rfl, W5.out, Bc.out⟩
    · have HE := Lib.hid (show woE n L I = 2 by unfold woE; rw [if_neg (by omega)])
      clear hc hR hl hv hk
      go_enter Tryz.func41, Tryz.ntmps41
      go_wp2_with fail
      refine (demand_any false w).mono ?_
      rintro e w2 ⟨rfl, rfl⟩
      go_wp2_with fail
      exact And.intro rfl (Or.inr ⟨by rw [HE.out]; decide, by rw [HE.out], Below.refl _ _⟩)
end Go.Proofs.YtbhaoaobhgilkaaGreat
