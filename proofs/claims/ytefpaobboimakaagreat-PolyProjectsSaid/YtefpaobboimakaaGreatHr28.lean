/- slices.Clone at lines.; The contract of package poly's implies.; The closure of package poly's Implies. -/
import Derived.Test.YtefpaobboimakaaGreatHr21
import Derived.Test.YtefpaobboimakaaGreatHr24
import Derived.Deep.RegionHeld3
import Derived.Lib.AppendZeros

namespace Go.Proofs.YtefpaobboimakaaGreat
open Go.RowKit Go.Sort Go.Shelf

theorem cloneL_any (l : List Ln) (b c : Nat) (w : World) (hl : l.length ≤ 1000000) (h : Rw w b l) :
    Calls Tryz.prog 95 #[.slice (some ⟨b, 0, none⟩) l.length c] w (fun e w' => ∃ v', e = .returned v' ∧ OwnL w' w.heap.size v' l ∧ Below w.heap.size w w') := by
  obtain ⟨i0, hi, hz0, hz1, hz2⟩ := info_parts ln_info3
  have h6 : ∀ x ∈ l, x.a.length = 6 := fun x hx => by
    obtain ⟨i, hi, rfl⟩ := List.getElem_of_mem hx
    exact (h.1 i hi).1
  have hh := AnyE.slices_Clone Tryz.laysCloneL i0 (.agg ln0.cs) 8 64 hi hz0 hz1 hz2 rfl (by omega) (fun w => size_of ln_size w) b 0 l.length c (l.flatMap Ln.cells) w (flat_len h6) (by unfold maxLen; omega) (by omega)
    (fun j u hu => by
      have hj : j < l.length * 8 := by
        by_cases q : j < l.length * 8
        · exact q
        · rw [List.getElem?_eq_none (by rw [flat_len h6]; omega)] at hu; cases hu
      have ht : j / 8 < l.length := by omega
      have e : j = j / 8 * 8 + j % 8 := by omega
      rw [e, flat_at h6 ht (by omega)] at hu
      have := (h.1 (j / 8) ht).2 (j % 8) u hu
      rw [addr_add] at this
      rw [Nat.zero_add, e]
      exact this) (fun u hu => by
      obtain ⟨x, hx, hu⟩ := List.mem_flatMap.1 hu
      exact cells_one x u hu)
  change Calls Tryz.prog 95 _ _ _ at hh
  refine hh.mono ?_
  rintro e w' ⟨v', rfl, ho, _, hb⟩
  exact ⟨v', rfl, ⟨ho, h6⟩, hb⟩
end Go.Proofs.YtefpaobboimakaaGreat

namespace Go.Proofs.YtefpaobboimakaaGreat
open Go.RowKit Go.Sort Go.Shelf

theorem OwnL.base {w : World} {B B' : Nat} {v : Value} {l : List Ln} (h : OwnL w B v l) (hb : B' ≤ B) : OwnL w B' v l :=
  ⟨⟨h.1.1, h.1.2.imp id fun ⟨g, cap, cur, h1, h2, h3⟩ => ⟨g, cap, cur, h1, Nat.le_trans hb h2, h3⟩⟩, h.2⟩

set_option maxRecDepth 100000 in
set_option maxHeartbeats 4000000 in
theorem implies_any (n : Nat) (l : List Ln) (x : Ln) (b c : Nat) (w : World) (hn : n ≤ 6) (hl : l.length ≤ 1900) (hw : Rw w b l) (hlt : b < w.heap.size) (hg : ∀ y ∈ l, Rg 2147483647 y) (hx : Rg 2147483647 x) :
    Calls Tryz.prog 57 #[.int .i64 n, .slice (some ⟨b, 0, none⟩) l.length c, .agg x.cs] w (fun e W' =>
      (shE (l ++ [x.opp]) n n = 0 ∧ e = .returned (.bool (empB (l ++ [x.opp]) n)) ∧ Below w.heap.size w W') ∨ (shE (l ++ [x.opp]) n n ≠ 0 ∧ e = .panicked (pan (shE (l ++ [x.opp]) n n)) ∧ Below w.heap.size w W')) := by
  have ho := hx.opp (by omega)
  obtain ⟨l2, hl2⟩ : ∃ l2, l2 = l ++ [x.opp] := ⟨_, rfl⟩
  have L2 := Lib.hid hl2
  have h2 : l2.length ≤ 2000 := by rw [hl2]; simp; omega
  have hg2 : ∀ y ∈ l2, Rg 2147483647 y := fun y hy => by
    rw [hl2] at hy
    rcases List.mem_append.1 hy with q | q
    · exact hg y q
    · rw [List.mem_singleton] at q; rw [q]; exact ho
  have SH := Lib.hid (fun W a d (h : RdL W a l2) => shadows_any l2 a d n W h2 hn h hg2)
  have CLN := Lib.hid (fun W (h : Below w.heap.size w W) => cloneL_any l b c W (by omega) (hw.on h hlt))
  have OP := Lib.hid (fun W => opp_any x W (hx.mono (by omega)))
  have O6 := Lib.hid ho.len
  have LE := Lib.hid hl
  rw [← hl2]
  obtain ⟨w0, hw0⟩ : ∃ w0, w0 = w.alloc (.cells x.cs 82) := ⟨_, rfl⟩
  have K0 := Lib.hid (show Bk w0 w.heap.size x by rw [hw0]; exact Bk.made w x hx.len)
  have E0 := Lib.hid (show Below w.heap.size w w0 by rw [hw0]; exact one_more _)
  obtain ⟨m, hm⟩ : ∃ m, m = l.length := ⟨_, rfl⟩
  rw [← hm] at CLN ⊢
  clear ho hl2 h2 hg2 hl hw hlt hg hx hm
  go_enter Tryz.func57, Tryz.ntmps57
  go_upto_region 1 with (fail)
  rw [← hw0]
  clear hw0
  have KS := Lib.hid (show ∀ W, Below w0.heap.size w0 W → Bk W w.heap.size x from fun W h => K0.out.kept h)
  obtain ⟨wc, hwc⟩ : ∃ wc, wc = w0.drew := ⟨_, rfl⟩
  have Bc := Lib.hid (show Below w0.heap.size w0 wc by rw [hwc]; exact (Below.refl _ _).drew)
  refine wp_region_held_drew (S := (fun W => Bk W w.heap.size x)) (by kernel_rfl) (by rw [← hwc]; exact KS.out _ Bc.out) (fun h0 => ?_)
  rw [← hwc] at h0 ⊢
  clear hwc
  refine wpAnyH_take (i := 0) (v := ?v1) rfl (by kernel_rfl) (by kernel_rfl) (by kernel_rfl) (fun _ _ _ h => h) (Or.inl ⟨by rfl, ?hy1⟩) h0 ?rest1
  case hy1 => (intro w' hS; (try dsimp only at hS); go_simp; try (with_reducible rfl))
  simp only [Act.put, List.getElem_toArray, List.getElem_cons_zero, List.setIfInBounds_toArray, List.set_cons_zero, List.set_cons_succ]
  refine wpAnyH_take (i := 1) (v := ?v2) rfl (by kernel_rfl) (by kernel_rfl) (by kernel_rfl) (fun _ _ _ h => h) (Or.inl ⟨by rfl, ?hy2⟩) h0 ?rest2
  case hy2 => (intro w' hS; (try dsimp only at hS); go_simp; try (with_reducible rfl))
  simp only [Act.put, List.getElem_toArray, List.getElem_cons_zero, List.getElem_cons_succ, List.setIfInBounds_toArray, List.set_cons_zero, List.set_cons_succ]
  refine wpAnyH_take (i := 3) (v := (.agg x.cs)) rfl (by kernel_rfl) (by kernel_rfl) (by kernel_rfl) (fun _ _ _ h => h) (Or.inl ⟨by rfl, fun w' hS => yld_loadL _ rfl _ rfl hS⟩) h0 ?_
  simp only [Act.put, List.getElem_toArray, List.getElem_cons_zero, List.getElem_cons_succ, List.setIfInBounds_toArray, List.set_cons_zero, List.set_cons_succ]
  refine wpAnyH_ready (rs := [2]) (by kernel_rfl) (by simp) (AllReadyH.cons rfl (fun K hK => ?_) AllReadyH.nil)
  rw [if_pos (by rfl)]
  go_simp
  refine (CLN.out wc (below_on E0.out Bc.out)).mono ?_
  rintro e wc ⟨v1, rfl, ho, hb⟩
  have O1 := Lib.hid (ho.base Bc.out.size)
  have Bc := Lib.hid (below_on Bc.out hb)
  clear ho hb
  go_simp
  refine hK.out _ _ (KS.out _ Bc.out) (fun h0_1 => ?_)
  clear hK K h0
  refine wpAnyH_ready (rs := [4]) (by kernel_rfl) (by simp) (AllReadyH.cons rfl (fun K hK => ?_) AllReadyH.nil)
  rw [if_pos (by rfl)]
  go_simp
  refine (OP.out wc).mono ?_
  rintro e wc ⟨rfl, hb⟩
  have O1 := Lib.hid (O1.out.on hb)
  have Bc := Lib.hid (below_on Bc.out hb)
  clear hb
  go_simp
  refine hK.out _ _ (KS.out _ Bc.out) (fun h0_2 => ?_)
  clear hK K h0_1
  refine wpAnyH_ready (rs := [5]) (by kernel_rfl) (by simp) (AllReadyH.cons rfl (fun K hK => ?_) AllReadyH.nil)
  rw [if_pos (by rfl)]
  obtain ⟨wd, hwd⟩ : ∃ wd, wd = wc.alloc (.cells x.opp.cs 82) := ⟨_, rfl⟩
  refine wp_bs1 _ rfl x.opp rfl O6.out ?_
  rw [← hwd]
  have hb : Below wc.heap.size wc wd := by rw [hwd]; exact one_more _
  have YL := Lib.hid (show LnAt wd ⟨wc.heap.size, 0, none⟩ x.opp by rw [hwd]; exact (Bk.made wc x.opp O6.out).lnAt)
  have O1 := Lib.hid (O1.out.on hb)
  have Bc := Lib.hid (below_on Bc.out hb)
  clear hb hwd
  try simp only [Act.put, List.getElem_toArray, List.getElem_cons_zero, List.getElem_cons_succ, List.setIfInBounds_toArray, List.set_cons_zero, List.set_cons_succ]
  refine hK.out _ _ (KS.out _ Bc.out) (fun h0_3 => ?_)
  clear hK K h0_2
  refine wpAnyH_ready (rs := [6]) (by kernel_rfl) (by simp) (AllReadyH.cons rfl (fun K hK => ?_) AllReadyH.nil)
  rw [if_pos (by rfl)]
  obtain ⟨v2, we, hrun, ho2, hg2, _⟩ := append_run O1.out YL.out (by have := LE.out; omega) Bc.out.size (c := 1) 66
  refine Lib.wp_append_run _ _ _ 66 66 rfl v1 (.slice (some ⟨wc.heap.size, 0, none⟩) 1 1) rfl rfl _ _ hrun ?_
  have O2 := Lib.hid (show OwnL we w0.heap.size v2 l2 by rw [L2.out]; exact ho2)
  have Bc := Lib.hid (Below.grown Bc.out hg2 Bc.out.size (fun k hk => (World.ownsRow.lt O1.out.1 k hk).1))
  obtain ⟨a2, c2, e2⟩ := O2.out.form
  subst e2
  clear hrun ho2 hg2
  try simp only [Act.put, List.getElem_toArray, List.getElem_cons_zero, List.getElem_cons_succ, List.setIfInBounds_toArray, List.set_cons_zero, List.set_cons_succ]
  refine hK.out _ _ (KS.out _ Bc.out) (fun h0_4 => ?_)
  clear hK K h0_3
  refine wpAnyH_ready (rs := [7]) (by kernel_rfl) (by simp) (AllReadyH.cons rfl (fun K hK => ?_) AllReadyH.nil)
  rw [if_pos (by rfl)]
  go_simp
  refine (SH.out we a2 c2 O2.out.rd).mono ?_
  rintro e wf (⟨he, b3, cs3, rfl, hs⟩ | ⟨he, rfl, hb⟩)
  rotate_left
  · exact And.intro rfl (Or.inr ⟨he, rfl, below_on E0.out (below_on Bc.out hb)⟩)
  have HZ := Lib.hid he
  obtain ⟨a3, d3, e3, r3⟩ := hs.hi 0 (by omega) (by omega)
  have g3 := Lib.hid ((hs.cell 0).trans e3)
  have Bc := Lib.hid (below_on Bc.out hs.be)
  clear hs e3 r3 he
  go_simp
  refine hK.out _ _ (KS.out _ Bc.out) (fun h0_5 => ?_)
  clear hK K h0_4
  refine wpAnyH_ready (rs := [8]) (by kernel_rfl) (by simp) (AllReadyH.cons rfl (fun K hK => ?_) AllReadyH.nil)
  rw [if_pos (by rfl)]
  go_simp
  refine (isEmpty_any b3 (n + 1) (n + 1) (shL l2 n (n - 0)).length d3 a3 wf (by omega) g3.out).mono ?_
  rintro e wg ⟨rfl, hb⟩
  have Bc := Lib.hid (below_on Bc.out hb)
  clear hb
  go_simp
  refine hK.out _ _ (KS.out _ Bc.out) (fun h0_6 => ?_)
  clear hK K h0_5
  refine wpAnyH_take (i := 9) (v := ?v4) rfl (by kernel_rfl) (by kernel_rfl) (by kernel_rfl) (fun _ _ _ h => h) (Or.inl ⟨by rfl, ?hy4⟩) h0_6 ?rest4
  case hy4 => (intro w' hS; (try dsimp only at hS); go_simp; try (with_reducible rfl))
  simp only [Act.put, List.getElem_toArray, List.getElem_cons_zero, List.getElem_cons_succ, List.setIfInBounds_toArray]
  try simp only [List.set_cons_succ]
  try simp only [List.set_cons_zero]
  refine wpAnyH_done (by kernel_rfl) ?_ _
  go_wp2_with fail
  go_ret
  exact Or.inl ⟨HZ.out, rfl, below_on E0.out Bc.out⟩
end Go.Proofs.YtefpaobboimakaaGreat

namespace Go.Proofs.YtefpaobboimakaaGreat
open Go.RowKit Go.Sort Go.Shelf

theorem yld_loadV {o : Oper} {a : Act} {w : World} (s : Operand) (ho : o.op = .load 25 s) (p : Addr) (hs : a.eval s = .pointer (some p)) {y : AV} (hx : AvAt w p y) : (execOp a.eval o).run Tryz.prog w = .ok (.value (.agg y.cs)) w := by
  have hv := av_loadP hx
  have h : (Instr.loadAt 25 (.pointer (some p))).run Tryz.prog w = .ok (.agg y.cs) w := by
    simp only [Instr.loadAt, Instr.sureAddr, Sem.run_bind, Sem.run_pure, Result.andThen_ok, hv]
  generalize y.cs = V at *
  unfold execOp
  simp only [ho, hs, Sem.run_bind, Sem.run_pure, h, Result.andThen_ok]

def impE (n : Nat) (L : List AV) (y : AV) : Int := if validB n y then shE (L.map ofV ++ [(ofV y).opp]) n n else 2

set_option maxRecDepth 100000 in
set_option maxHeartbeats 4000000 in
theorem implies1_any (n : Nat) (L : List AV) (y : AV) (ao : Option Addr) (cap pn px pl : Nat) (w : World) (hc : chkP n L = 0) (hR : RdV w ao L) (c0 : w.cell? ⟨pn, 0, none⟩ = some (.int .i64 n)) (c1 : AvAt w ⟨px, 0, none⟩ y) (hy : Rd1 w y.q y.a) (c2 : w.cell? ⟨pl, 0, none⟩ = some (.slice ao L.length cap)) :
    Calls Tryz.prog 56 #[.pointer (some ⟨pn, 0, none⟩), .pointer (some ⟨px, 0, none⟩), .pointer (some ⟨pl, 0, none⟩)] w fun e W' =>
      (impE n L y = 0 ∧ ∃ v, e = .returned v ∧ v = .bool (empB (L.map ofV ++ [(ofV y).opp]) n) ∧ Below w.heap.size w W') ∨ (impE n L y ≠ 0 ∧ e = .panicked (pan (impE n L y)) ∧ Below w.heap.size w W') := by
  obtain ⟨⟨_, hn⟩, hl, hv⟩ := chk_valid hc
  obtain ⟨k, hk⟩ : ∃ k, k = L.length := ⟨_, rfl⟩
  rw [← hk] at c2
  have VA := Lib.hid (isValid_any n y w (by omega) hy)
  have A1 := Lib.hid c1
  have C0 := Lib.hid c0
  have C2 := Lib.hid c2
  cases hb : validB n y
  · have HE := Lib.hid (show impE n L y = 2 by unfold impE; rw [hb]; rfl)
    rw [hb] at VA
    clear hc hR hl hv hk c1 hy hb
    go_enter Tryz.func56, Tryz.ntmps56
    go_wp2_with (refine wpl_loadV rfl _ rfl _ rfl y A1.out ?_)
    refine VA.out.mono ?_
    rintro e w1 ⟨rfl, hb⟩
    have B1 := Lib.hid hb
    clear hb
    go_wp2_with fail
    refine (demand_any false w1).mono ?_
    rintro e w2 ⟨rfl, rfl⟩
    go_wp2_with fail
    exact And.intro rfl (Or.inr ⟨by rw [HE.out]; decide, by rw [HE.out], B1.out⟩)
  · have HE := Lib.hid (show impE n L y = shE (L.map ofV ++ [(ofV y).opp]) n n by unfold impE; rw [hb]; rfl)
    have yl := valid_len hb
    have yg : Rg 2147483647 (ofV y) := ofV_rg (n := n) (by omega) hb
    rw [hb] at VA
    have LI := Lib.hid (fun W (h : Below w.heap.size w W) => lines_row L ao cap W (by omega) (hR.on h) (fun y hy => by have := valid_len (hv y hy); omega))
    have LO := Lib.hid (fun W (h : Below w.heap.size w W) => lineOf_any y W (by omega) (hy.on h))
    have IM := Lib.hid (fun W b (h1 : Rw W b (L.map ofV)) (h2 : b < W.heap.size) => implies_any n (L.map ofV) (ofV y) b (L.map ofV).length W (by omega) (by simp; omega) h1 h2 (fun x hx => by
      obtain ⟨z, hz, rfl⟩ := List.mem_map.1 hx
      exact ofV_rg (n := n) (by omega) (hv z hz)) yg)
    rw [← hk] at LI
    have HL := Lib.hid (show (L.map ofV).length = k by rw [hk]; simp)
    generalize L.map ofV = l at *
    generalize ofV y = x at *
    clear hc hR hl hv hk c1 hy hb yl yg
    go_enter Tryz.func56, Tryz.ntmps56
    go_wp2_with (refine wpl_loadV rfl _ rfl _ rfl y A1.out ?_)
    refine VA.out.mono ?_
    rintro e w1 ⟨rfl, hb⟩
    have B1 := Lib.hid hb
    clear hb
    go_wp2_with fail
    refine (demand_any true w1).mono ?_
    rintro e w2 ⟨rfl, rfl⟩
    go_upto_region 2 with (fail)
    have KS := Lib.hid (show ∀ W, Below w2.heap.size w2 W → (W.cell? ⟨pn, 0, none⟩ = some (.int .i64 n) ∧ W.cell? ⟨pl, 0, none⟩ = some (.slice ao k cap) ∧ AvAt W ⟨px, 0, none⟩ y) from fun W h => ⟨kept (below_on B1.out h) C0.out, kept (below_on B1.out h) C2.out, A1.out.on (below_on B1.out h)⟩)
    obtain ⟨wc, hwc⟩ : ∃ wc, wc = w2.drew := ⟨_, rfl⟩
    have Bc := Lib.hid (show Below w2.heap.size w2 wc by rw [hwc]; exact (Below.refl _ _).drew)
    refine wp_region_held_drew (S := (fun W => (W.cell? ⟨pn, 0, none⟩ = some (.int .i64 n) ∧ W.cell? ⟨pl, 0, none⟩ = some (.slice ao k cap) ∧ AvAt W ⟨px, 0, none⟩ y))) (by kernel_rfl) (by rw [← hwc]; exact KS.out _ Bc.out) (fun h0 => ?_)
    rw [← hwc] at h0 ⊢
    clear hwc
    refine wpAnyH_take (i := 0) (v := ?v1) rfl (by kernel_rfl) (by kernel_rfl) (by kernel_rfl) (fun _ _ _ h => h) (Or.inl ⟨by rfl, ?hy1⟩) h0 ?rest1
    case hy1 => (intro w' hS; (try dsimp only at hS); go_simp; try (with_reducible rfl))
    simp only [Act.put, List.getElem_toArray, List.getElem_cons_zero, List.setIfInBounds_toArray, List.set_cons_zero, List.set_cons_succ]
    refine wpAnyH_take (i := 1) (v := ?v2) rfl (by kernel_rfl) (by kernel_rfl) (by kernel_rfl) (fun _ _ _ h => h) (Or.inl ⟨by rfl, ?hy2⟩) h0 ?rest2
    case hy2 => (intro w' hS; (try dsimp only at hS); go_simp; try (with_reducible rfl))
    simp only [Act.put, List.getElem_toArray, List.getElem_cons_zero, List.getElem_cons_succ, List.setIfInBounds_toArray, List.set_cons_zero, List.set_cons_succ]
    refine wpAnyH_take (i := 3) (v := (.agg y.cs)) rfl (by kernel_rfl) (by kernel_rfl) (by kernel_rfl) (fun _ _ _ h => h) (Or.inl ⟨by rfl, fun w' hS => yld_loadV _ rfl _ rfl hS.2.2⟩) h0 ?_
    simp only [Act.put, List.getElem_toArray, List.getElem_cons_zero, List.getElem_cons_succ, List.setIfInBounds_toArray, List.set_cons_zero, List.set_cons_succ]
    refine wpAnyH_ready (rs := [2]) (by kernel_rfl) (by simp) (AllReadyH.cons rfl (fun K hK => ?_) AllReadyH.nil)
    rw [if_pos (by rfl)]
    go_simp
    refine (LI.out wc (below_on B1.out Bc.out)).mono ?_
    rintro e wc ⟨b1, rfl, hr, ⟨_, hz⟩, hb⟩
    have R1 := Lib.hid hr
    have Z1 := Lib.hid hz
    clear hr hz
    have Bc := Lib.hid (below_on Bc.out hb)
    clear hb
    go_simp
    refine hK.out _ _ (KS.out _ Bc.out) (fun h0_1 => ?_)
    clear hK K h0
    refine wpAnyH_ready (rs := [4]) (by kernel_rfl) (by simp) (AllReadyH.cons rfl (fun K hK => ?_) AllReadyH.nil)
    rw [if_pos (by rfl)]
    go_simp
    refine (LO.out wc (below_on B1.out Bc.out)).mono ?_
    rintro e wc ⟨rfl, hb⟩
    have R1 := Lib.hid (R1.out.on hb Z1.out)
    have Z1 := Lib.hid (Nat.lt_of_lt_of_le Z1.out hb.size)
    have Bc := Lib.hid (below_on Bc.out hb)
    clear hb
    go_simp
    refine hK.out _ _ (KS.out _ Bc.out) (fun h0_2 => ?_)
    clear hK K h0_1
    refine wpAnyH_ready (rs := [5]) (by kernel_rfl) (by simp) (AllReadyH.cons rfl (fun K hK => ?_) AllReadyH.nil)
    rw [if_pos (by rfl)]
    go_simp
    refine (IM.out wc b1 R1.out Z1.out).mono ?_
    rintro e wc (⟨he, rfl, hb⟩ | ⟨he, rfl, hb⟩)
    rotate_left
    · exact And.intro rfl (Or.inr ⟨by rw [HE.out]; exact he, by rw [HE.out], below_on B1.out (below_on Bc.out hb)⟩)
    have HZ := Lib.hid he
    clear he
    have Bc := Lib.hid (below_on Bc.out hb)
    clear hb
    go_simp
    refine hK.out _ _ (KS.out _ Bc.out) (fun h0_3 => ?_)
    clear hK K h0_2
    refine wpAnyH_take (i := 6) (v := ?v4) rfl (by kernel_rfl) (by kernel_rfl) (by kernel_rfl) (fun _ _ _ h => h) (Or.inl ⟨by rfl, ?hy4⟩) h0_3 ?rest4
    case hy4 => (intro w' hS; (try dsimp only at hS); go_simp; try (with_reducible rfl))
    simp only [Act.put, List.getElem_toArray, List.getElem_cons_zero, List.getElem_cons_succ, List.setIfInBounds_toArray]
    try simp only [List.set_cons_succ]
    try simp only [List.set_cons_zero]
    refine wpAnyH_done (by kernel_rfl) ?_ _
    go_wp2_with fail
    go_ret
    exact Or.inl ⟨by rw [HE.out]; exact HZ.out, _, rfl, rfl, below_on B1.out Bc.out⟩
end Go.Proofs.YtefpaobboimakaaGreat
