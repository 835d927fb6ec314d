/- Contracts of package poly: Empty.; The contract of package poly's Empty.; slices.Clone at lines.; The contract of package poly's implies.; The closure of package poly's Implies.; The contract of package poly's Implies. -/
import Derived.Test.YtbhaoaobhgilkaaGreatVa3
import Derived.Test.YtbhaoaobhgilkaaGreatVa17
import Derived.Deep.RegionHeld3
import Derived.Test.YtbhaoaobhgilkaaGreatVa16
import Derived.Lib.AppendZeros

namespace Go.Proofs.YtbhaoaobhgilkaaGreat
open Go.RowKit Go.Sort Go.Shelf

theorem ofV_rg {n : Int} {y : AV} (hn : n ≤ 6) (h : validB n y = true) : Rg 2147483647 (ofV y) := by
  unfold validB at h
  simp only [Bool.and_eq_true, List.all_eq_true, decide_eq_true_eq] at h
  obtain ⟨⟨h1, h2⟩, h3⟩ := h
  refine ⟨by simp [ofV]; omega, fun v hv => ?_, ?_⟩
  · rcases List.mem_append.1 hv with q | q
    · have := h2 v q; unfold fitB at this; simpa using this
    · have := List.eq_of_mem_replicate q; omega
  · unfold fitB at h3; simpa [ofV] using h3

theorem chk_valid {n : Int} {L : List AV} (h : chkP n L = 0) : (0 ≤ n ∧ n ≤ 5) ∧ L.length ≤ 1000 ∧ ∀ y ∈ L, validB n y = true := by
  unfold chkP at h
  split at h
  · cases h
  · rename_i h1
    split at h
    · cases h
    · rename_i h2
      split at h
      · cases h
      · rename_i h3
        refine ⟨by omega, by omega, fun y hy => ?_⟩
        have : ¬ (!validB n y) = true := fun q => h3 (List.any_eq_true.2 ⟨y, hy, q⟩)
        simpa using this

theorem valid_len {n : Int} {y : AV} (h : validB n y = true) : (y.a.length : Int) = n := by
  unfold validB at h
  simp only [Bool.and_eq_true, decide_eq_true_eq] at h
  exact h.1.1

/-- Does a line stay when all coordinates are left out? -/
def empB (l : List Ln) (n : Nat) : Bool := decide (0 < (shL l n n).length)

set_option maxRecDepth 100000 in
set_option maxHeartbeats 4000000 in
theorem empty1_any (n : Nat) (L : List AV) (ao : Option Addr) (cap pn pl : Nat) (w : World) (hc : chkP n L = 0) (hR : RdV w ao L) (c0 : w.cell? ⟨pn, 0, none⟩ = some (.int .i64 n)) (c1 : w.cell? ⟨pl, 0, none⟩ = some (.slice ao L.length cap)) :
    Calls Tryz.prog 52 #[.pointer (some ⟨pn, 0, none⟩), .pointer (some ⟨pl, 0, none⟩)] w fun e W' =>
      (shE (L.map ofV) n n = 0 ∧ ∃ v, e = .returned v ∧ v = .bool (empB (L.map ofV) n) ∧ Below w.heap.size w W') ∨ (shE (L.map ofV) n n ≠ 0 ∧ e = .panicked (pan (shE (L.map ofV) n n)) ∧ Below w.heap.size w W') := by
  obtain ⟨⟨_, hn⟩, hl, hv⟩ := chk_valid hc
  have hn6 : n ≤ 6 := by omega
  obtain ⟨k, hk⟩ : ∃ k, k = (L.map ofV).length := ⟨_, rfl⟩
  have hk2 : k = L.length := by rw [hk]; simp
  have LI := Lib.hid (fun W (h : Below w.heap.size w W) => lines_any L ao cap W (by omega) (hR.on h) (fun y hy => by have := valid_len (hv y hy); omega))
  have SH := Lib.hid (fun W a c (h : RdL W a (L.map ofV)) => shadows_any (L.map ofV) a c n W (by simp; omega) hn6 h (fun x hx => by
    obtain ⟨y, hy, rfl⟩ := List.mem_map.1 hx
    exact ofV_rg (by omega) (hv y hy)))
  rw [← hk] at SH
  rw [← hk2] at LI c1
  have KL := Lib.hid hk
  have C0 := Lib.hid c0
  have C1 := Lib.hid c1
  generalize L.map ofV = l at *
  clear hc hR c0 c1 hl hv hk hk2 hn
  go_enter Tryz.func52, Tryz.ntmps52
  go_upto_region 1 with (fail)
  have KS := Lib.hid (show ∀ W, Below w.heap.size w W → (W.cell? ⟨pn, 0, none⟩ = some (.int .i64 n) ∧ W.cell? ⟨pl, 0, none⟩ = some (.slice ao k cap)) from fun W h => ⟨kept h C0.out, kept h C1.out⟩)
  obtain ⟨wc, hwc⟩ : ∃ wc, wc = w.drew := ⟨_, rfl⟩
  have Bc := Lib.hid (show Below w.heap.size w wc by rw [hwc]; exact (Below.refl _ _).drew)
  refine wp_region_held_drew (S := (fun W => (W.cell? ⟨pn, 0, none⟩ = some (.int .i64 n) ∧ W.cell? ⟨pl, 0, none⟩ = some (.slice ao k cap)))) (by kernel_rfl) (by rw [← hwc]; exact KS.out _ Bc.out) (fun h0 => ?_)
  rw [← hwc] at h0 ⊢
  clear hwc
  refine tkH (i := 0) (v := ?v1) rfl (Or.inl ⟨by rfl, ?hy1⟩) h0 ?rest1
  case hy1 => (intro w' hS; (try dsimp only at hS); go_simp; try (with_reducible rfl))
  simp only [Act.put, sA, sB, sD, sE, sF]
  refine tkH (i := 1) (v := ?v2) rfl (Or.inl ⟨by rfl, ?hy2⟩) h0 ?rest2
  case hy2 => (intro w' hS; (try dsimp only at hS); go_simp; try (with_reducible rfl))
  simp only [Act.put, sA, sB, sC, sD, sE, sF]
  refine wpAnyH_ready (rs := [2]) (by kernel_rfl) (by simp) (AllReadyH.cons rfl (fun K hK => ?_) AllReadyH.nil)
  rw [if_pos (by rfl)]
  go_simp
  refine (LI.out wc Bc.out).mono ?_
  rintro e wc ⟨a1, d1, rfl, hr, hb⟩
  have R1 := Lib.hid hr
  clear hr
  rw [← KL.out]
  have Bc := Lib.hid (below_on Bc.out hb)
  clear hb
  go_simp
  refine hK.out _ _ (KS.out _ Bc.out) (fun h0_1 => ?_)
  clear hK K h0
  refine wpAnyH_ready (rs := [3]) (by kernel_rfl) (by simp) (AllReadyH.cons rfl (fun K hK => ?_) AllReadyH.nil)
  rw [if_pos (by rfl)]
  go_simp
  refine (SH.out wc a1 d1 R1.out).mono ?_
  rintro e wc (⟨he, b2, cs2, rfl, hs⟩ | ⟨he, rfl, hb⟩)
  rotate_left
  · exact And.intro rfl (Or.inr ⟨he, rfl, below_on Bc.out hb⟩)
  have HE := Lib.hid he
  have hb := hs.be
  obtain ⟨a3, d3, e3, r3⟩ := hs.hi 0 (by omega) (by omega)
  have g3 := Lib.hid ((hs.cell 0).trans e3)
  clear hs e3 r3 he
  have Bc := Lib.hid (below_on Bc.out hb)
  clear hb
  go_simp
  refine hK.out _ _ (KS.out _ Bc.out) (fun h0_2 => ?_)
  clear hK K h0_1
  refine wpAnyH_ready (rs := [4]) (by kernel_rfl) (by simp) (AllReadyH.cons rfl (fun K hK => ?_) AllReadyH.nil)
  rw [if_pos (by rfl)]
  go_simp
  refine (isEmpty_any b2 (n + 1) (n + 1) (shL l n (n - 0)).length d3 a3 wc (by omega) g3.out).mono ?_
  rintro e wc ⟨rfl, hb⟩
  have Bc := Lib.hid (below_on Bc.out hb)
  clear hb
  go_simp
  refine hK.out _ _ (KS.out _ Bc.out) (fun h0_3 => ?_)
  clear hK K h0_2
  refine tkH (i := 5) (v := ?v3) rfl (Or.inl ⟨by rfl, ?hy3⟩) h0_3 ?rest3
  case hy3 => (intro w' hS; (try dsimp only at hS); go_simp; try (with_reducible rfl))
  simp only [Act.put, sA, sB, sC, sD]
  try simp only [sF]
  try simp only [sE]
  refine wpAnyH_done (by kernel_rfl) ?_ _
  go_wp2_with fail
  go_ret
  exact Or.inl ⟨HE.out, _, rfl, rfl, Bc.out⟩
end Go.Proofs.YtbhaoaobhgilkaaGreat

namespace Go.Proofs.YtbhaoaobhgilkaaGreat
open Go.RowKit Go.Sort Go.Shelf

theorem empty1_enters : ∀ args w, (callFunc 52 args).run Tryz.prog w = .ok (.enter 52 args) w := enters_of Tryz.func52 (by kernel_rfl) rfl

theorem ansE_one (n : Int) (L : List AV) (er : Int) : ansE n [L] er = if chkP n L = 0 then er else chkP n L := by
  unfold ansE
  by_cases h : chkP n L = 0
  · simp [h]
  · simp [h]

/-- The error of Empty. -/
def empE (n : Int) (L : List AV) : Int := if chkP n L = 0 then shE (L.map ofV) n.toNat n.toNat else chkP n L

set_option maxRecDepth 100000 in
set_option maxHeartbeats 4000000 in
theorem empty_any (n : Int) (L : List AV) (ao : Option Addr) (cap : Nat) (w : World) (hR : RdV w ao L) :
    Calls Tryz.prog 17 #[.int .i64 n, .slice ao L.length cap] w (fun e w' => Below w.heap.size w w' ∧ e = .returned (.tuple #[.bool (if empE n L = 0 then empB (L.map ofV) n.toNat else false), .int .i64 (empE n L)])) := by
  have hmf : ∀ (fn : Fn) (first cap : Array Value) (w : World), (Instr.makeFunc fn first cap).run Tryz.prog w = .ok (.func fn first cap) w := fun _ _ _ _ => rfl
  obtain ⟨m, hm⟩ : ∃ m, m = L.length := ⟨_, rfl⟩
  obtain ⟨w0, hw0⟩ : ∃ w0, w0 = (w.alloc (.cells #[.int .i64 n] 3)).alloc (.cells #[.slice ao m cap] 22) := ⟨_, rfl⟩
  have E0 := Lib.hid (show Below w.heap.size w w0 by rw [hw0]; exact past_two (Below.refl _ _))
  have X0 := Lib.hid (show Bx1 w0 w.heap.size (.int .i64 n) 3 by rw [hw0]; exact (Bx1.made w _ _).kept (one_more _))
  have X1 := Lib.hid (show Bx1 w0 (w.heap.size + 1) (.slice ao m cap) 22 by rw [hw0]; have := Bx1.made (w.alloc (.cells #[.int .i64 n] 3)) (.slice ao m cap) 22; simpa using this)
  have Z0 := Lib.hid (show w0.heap.size = w.heap.size + 2 by rw [hw0]; simp)
  have B1 := Lib.hid (one_more (w1 := w0) (.cells #[.slice ao m cap] 22))
  have hG : RdG (w0.alloc (.cells #[.slice ao m cap] 22)) (some ⟨w0.heap.size, 0, none⟩) [L] := by
    intro t ht
    have : t = 0 := by simpa using ht
    subst this
    refine ⟨_, ao, cap, rfl, ?_, (hR.on E0.out).on B1.out⟩
    rw [addr_add]
    have := (Bx1.made w0 (.slice ao m cap) 22).cell
    rw [hm] at this ⊢
    exact this
  have AN := Lib.hid (answerB_any 52 #[.pointer (some ⟨w.heap.size, 0, none⟩), .pointer (some ⟨w.heap.size + 1, 0, none⟩)] n (some ⟨w0.heap.size, 0, none⟩) 1 [L] (shE (L.map ofV) n.toNat n.toNat) _ (by simp) hG empty1_enters
    (fun _ v _ => v = .bool (empB (L.map ofV) n.toNat)) (fun _ _ _ _ _ h _ => h) (fun hc W hW => by
      have hc0 := hc L (by simp)
      have hn := (chk_valid hc0).1
      have e : ((n.toNat : Nat) : Int) = n := by omega
      refine empty1_any n.toNat L ao cap w.heap.size (w.heap.size + 1) W (by rw [e]; exact hc0) (((hR.on E0.out).on B1.out).on hW) ?_ ?_
      · rw [e]; exact kept hW (kept B1.out X0.out.cell)
      · rw [← hm]; exact kept hW (kept B1.out X1.out.cell)))
  have HE := Lib.hid (show ansE n [L] (shE (L.map ofV) n.toNat n.toNat) = empE n L from ansE_one _ _ _)
  have c0 := X0.out.cell
  have c1 := X1.out.cell
  simp only [List.length_cons, List.length_nil, Nat.zero_add] at AN
  rw [← hm]
  clear hR hG hm
  go_enter Tryz.func17, Tryz.ntmps17
  go_upto_region 1 with (fail)
  rw [← hw0]
  clear hw0
  go_wp2_with fail
  refine AN.out.mono ?_
  rintro e w2 ⟨hb, ⟨he, W, v, hW, rfl, rfl⟩ | ⟨he, rfl⟩⟩
  · have B2 := Lib.hid (below_on E0.out (past_one hb))
    rw [HE.out] at he
    have HZ := Lib.hid he
    clear hb he hW
    go_wp2_with fail
    refine bodyPost_ret (v := .tuple #[.bool (empB (L.map ofV) n.toNat), .int .i64 0]) (by simp [results, Tryz.results17, go_sem]) rfl ?_
    exact ⟨B2.out, by first | rfl | rw [HZ.out, if_pos rfl]⟩
  · have B2 := Lib.hid (below_on E0.out (past_one hb))
    rw [HE.out] at he ⊢
    have HZ := Lib.hid he
    clear hb he
    go_wp2_with fail
    refine bodyPost_ret (v := .tuple #[.bool false, .int .i64 (empE n L)]) (by simp [results, Tryz.results17, go_sem]) rfl ?_
    exact ⟨B2.out, by first | rfl | rw [if_neg HZ.out]⟩
end Go.Proofs.YtbhaoaobhgilkaaGreat

namespace Go.Proofs.YtbhaoaobhgilkaaGreat
open Go.RowKit Go.Sort Go.Shelf

theorem cloneL_any (l : List Ln) (b c : Nat) (w : World) (hl : l.length ≤ 1000000) (h : Rw w b l) :
    Calls Tryz.prog 95 #[.slice (some ⟨b, 0, none⟩) l.length c] w (fun e w' => ∃ v', e = .returned v' ∧ OwnL w' w.heap.size v' l ∧ Below w.heap.size w w') := by
  obtain ⟨i0, hi, hz0, hz1, hz2⟩ := info_parts ln_info3
  have h6 : ∀ x ∈ l, x.a.length = 6 := fun x hx => by
    obtain ⟨i, hi, rfl⟩ := List.getElem_of_mem hx
    exact (h.1 i hi).1
  have hh := AnyE.slices_Clone Tryz.laysCloneL i0 (.agg ln0.cs) 8 64 hi hz0 hz1 hz2 rfl (by omega) (fun w => size_of ln_size w) b 0 l.length c (l.flatMap Ln.cells) w (flat_len h6) (by unfold maxLen; omega) (by omega)
    (fun j u hu => by
      have hj : j < l.length * 8 := by
        by_cases q : j < l.length * 8
        · exact q
        · rw [List.getElem?_eq_none (by rw [flat_len h6]; omega)] at hu; cases hu
      have ht : j / 8 < l.length := by omega
      have e : j = j / 8 * 8 + j % 8 := by omega
      rw [e, flat_at h6 ht (by omega)] at hu
      have := (h.1 (j / 8) ht).2 (j % 8) u hu
      rw [addr_add] at this
      rw [Nat.zero_add, e]
      exact this) (fun u hu => by
      obtain ⟨x, hx, hu⟩ := List.mem_flatMap.1 hu
      exact cells_one x u hu)
  change Calls Tryz.prog 95 _ _ _ at hh
  refine hh.mono ?_
  rintro e w' ⟨v', rfl, ho, _, hb⟩
  exact ⟨v', rfl, ⟨ho, h6⟩, hb⟩
end Go.Proofs.YtbhaoaobhgilkaaGreat

namespace Go.Proofs.YtbhaoaobhgilkaaGreat
open Go.RowKit Go.Sort Go.Shelf

theorem OwnL.base {w : World} {B B' : Nat} {v : Value} {l : List Ln} (h : OwnL w B v l) (hb : B' ≤ B) : OwnL w B' v l :=
  ⟨⟨h.1.1, h.1.2.imp id fun ⟨g, cap, cur, h1, h2, h3⟩ => ⟨g, cap, cur, h1, Nat.le_trans hb h2, h3⟩⟩, h.2⟩

set_option maxRecDepth 100000 in
set_option maxHeartbeats 4000000 in
theorem implies_any (n : Nat) (l : List Ln) (x : Ln) (b c : Nat) (w : World) (hn : n ≤ 6) (hl : l.length ≤ 1900) (hw : Rw w b l) (hlt : b < w.heap.size) (hg : ∀ y ∈ l, Rg 2147483647 y) (hx : Rg 2147483647 x) :
    Calls Tryz.prog 57 #[.int .i64 n, .slice (some ⟨b, 0, none⟩) l.length c, .agg x.cs] w (fun e W' =>
      (shE (l ++ [x.opp]) n n = 0 ∧ e = .returned (.bool (empB (l ++ [x.opp]) n)) ∧ Below w.heap.size w W') ∨ (shE (l ++ [x.opp]) n n ≠ 0 ∧ e = .panicked (pan (shE (l ++ [x.opp]) n n)) ∧ Below w.heap.size w W')) := by
  have ho := hx.opp (by omega)
  obtain ⟨l2, hl2⟩ : ∃ l2, l2 = l ++ [x.opp] := ⟨_, rfl⟩
  have L2 := Lib.hid hl2
  have h2 : l2.length ≤ 2000 := by rw [hl2]; simp; omega
  have hg2 : ∀ y ∈ l2, Rg 2147483647 y := fun y hy => by
    rw [hl2] at hy
    rcases List.mem_append.1 hy with q | q
    · exact hg y q
    · rw [List.mem_singleton] at q; rw [q]; exact ho
  have SH := Lib.hid (fun W a d (h : RdL W a l2) => shadows_any l2 a d n W h2 hn h hg2)
  have CLN := Lib.hid (fun W (h : Below w.heap.size w W) => cloneL_any l b c W (by omega) (hw.on h hlt))
  have OP := Lib.hid (fun W => opp_any x W (hx.mono (by omega)))
  have O6 := Lib.hid ho.len
  have LE := Lib.hid hl
  rw [← hl2]
  obtain ⟨w0, hw0⟩ : ∃ w0, w0 = w.alloc (.cells x.cs 82) := ⟨_, rfl⟩
  have K0 := Lib.hid (show Bk w0 w.heap.size x by rw [hw0]; exact Bk.made w x hx.len)
  have E0 := Lib.hid (show Below w.heap.size w w0 by rw [hw0]; exact one_more _)
  obtain ⟨m, hm⟩ : ∃ m, m = l.length := ⟨_, rfl⟩
  rw [← hm] at CLN ⊢
  clear ho hl2 h2 hg2 hl hw hlt hg hx hm
  go_enter Tryz.func57, Tryz.ntmps57
  go_upto_region 1 with (fail)
  rw [← hw0]
  clear hw0
  have KS := Lib.hid (show ∀ W, Below w0.heap.size w0 W → Bk W w.heap.size x from fun W h => K0.out.kept h)
  obtain ⟨wc, hwc⟩ : ∃ wc, wc = w0.drew := ⟨_, rfl⟩
  have Bc := Lib.hid (show Below w0.heap.size w0 wc by rw [hwc]; exact (Below.refl _ _).drew)
  refine wp_region_held_drew (S := (fun W => Bk W w.heap.size x)) (by kernel_rfl) (by rw [← hwc]; exact KS.out _ Bc.out) (fun h0 => ?_)
  rw [← hwc] at h0 ⊢
  clear hwc
  refine tkH (i := 0) (v := ?v1) rfl (Or.inl ⟨by rfl, ?hy1⟩) h0 ?rest1
  case hy1 => (intro w' hS; (try dsimp only at hS); go_simp; try (with_reducible rfl))
  simp only [Act.put, sA, sB, sD, sE, sF]
  refine tkH (i := 1) (v := ?v2) rfl (Or.inl ⟨by rfl, ?hy2⟩) h0 ?rest2
  case hy2 => (intro w' hS; (try dsimp only at hS); go_simp; try (with_reducible rfl))
  simp only [Act.put, sA, sB, sC, sD, sE, sF]
  refine tkH (i := 3) (v := (.agg x.cs)) rfl (Or.inl ⟨by rfl, fun w' hS => yld_loadL _ rfl _ rfl hS⟩) h0 ?_
  simp only [Act.put, sA, sB, sC, sD, sE, sF]
  refine wpAnyH_ready (rs := [2]) (by kernel_rfl) (by simp) (AllReadyH.cons rfl (fun K hK => ?_) AllReadyH.nil)
  rw [if_pos (by rfl)]
  go_simp
  refine (CLN.out wc (below_on E0.out Bc.out)).mono ?_
  rintro e wc ⟨v1, rfl, ho, hb⟩
  have O1 := Lib.hid (ho.base Bc.out.size)
  have Bc := Lib.hid (below_on Bc.out hb)
  clear ho hb
  go_simp
  refine hK.out _ _ (KS.out _ Bc.out) (fun h0_1 => ?_)
  clear hK K h0
  refine wpAnyH_ready (rs := [4]) (by kernel_rfl) (by simp) (AllReadyH.cons rfl (fun K hK => ?_) AllReadyH.nil)
  rw [if_pos (by rfl)]
  go_simp
  refine (OP.out wc).mono ?_
  rintro e wc ⟨rfl, hb⟩
  have O1 := Lib.hid (O1.out.on hb)
  have Bc := Lib.hid (below_on Bc.out hb)
  clear hb
  go_simp
  refine hK.out _ _ (KS.out _ Bc.out) (fun h0_2 => ?_)
  clear hK K h0_1
  refine wpAnyH_ready (rs := [5]) (by kernel_rfl) (by simp) (AllReadyH.cons rfl (fun K hK => ?_) AllReadyH.nil)
  rw [if_pos (by rfl)]
  obtain ⟨wd, hwd⟩ : ∃ wd, wd = wc.alloc (.cells x.opp.cs 82) := ⟨_, rfl⟩
  refine wp_bs1 _ rfl x.opp rfl O6.out ?_
  rw [← hwd]
  have hb : Below wc.heap.size wc wd := by rw [hwd]; exact one_more _
  have YL := Lib.hid (show LnAt wd ⟨wc.heap.size, 0, none⟩ x.opp by rw [hwd]; exact (Bk.made wc x.opp O6.out).lnAt)
  have O1 := Lib.hid (O1.out.on hb)
  have Bc := Lib.hid (below_on Bc.out hb)
  clear hb hwd
  try simp only [Act.put, sA, sB, sC, sD, sE, sF]
  refine hK.out _ _ (KS.out _ Bc.out) (fun h0_3 => ?_)
  clear hK K h0_2
  refine wpAnyH_ready (rs := [6]) (by kernel_rfl) (by simp) (AllReadyH.cons rfl (fun K hK => ?_) AllReadyH.nil)
  rw [if_pos (by rfl)]
  obtain ⟨v2, we, hrun, ho2, hg2, _⟩ := append_run O1.out YL.out (by have := LE.out; omega) Bc.out.size (c := 1) 66
  refine Lib.wp_append_run _ _ _ 66 66 rfl v1 (.slice (some ⟨wc.heap.size, 0, none⟩) 1 1) rfl rfl _ _ hrun ?_
  have O2 := Lib.hid (show OwnL we w0.heap.size v2 l2 by rw [L2.out]; exact ho2)
  have Bc := Lib.hid (Below.grown Bc.out hg2 Bc.out.size (fun k hk => (World.ownsRow.lt O1.out.1 k hk).1))
  obtain ⟨a2, c2, e2⟩ := O2.out.form
  subst e2
  clear hrun ho2 hg2
  try simp only [Act.put, sA, sB, sC, sD, sE, sF]
  refine hK.out _ _ (KS.out _ Bc.out) (fun h0_4 => ?_)
  clear hK K h0_3
  refine wpAnyH_ready (rs := [7]) (by kernel_rfl) (by simp) (AllReadyH.cons rfl (fun K hK => ?_) AllReadyH.nil)
  rw [if_pos (by rfl)]
  go_simp
  refine (SH.out we a2 c2 O2.out.rd).mono ?_
  rintro e wf (⟨he, b3, cs3, rfl, hs⟩ | ⟨he, rfl, hb⟩)
  rotate_left
  · exact And.intro rfl (Or.inr ⟨he, rfl, below_on E0.out (below_on Bc.out hb)⟩)
  have HZ := Lib.hid he
  obtain ⟨a3, d3, e3, r3⟩ := hs.hi 0 (by omega) (by omega)
  have g3 := Lib.hid ((hs.cell 0).trans e3)
  have Bc := Lib.hid (below_on Bc.out hs.be)
  clear hs e3 r3 he
  go_simp
  refine hK.out _ _ (KS.out _ Bc.out) (fun h0_5 => ?_)
  clear hK K h0_4
  refine wpAnyH_ready (rs := [8]) (by kernel_rfl) (by simp) (AllReadyH.cons rfl (fun K hK => ?_) AllReadyH.nil)
  rw [if_pos (by rfl)]
  go_simp
  refine (isEmpty_any b3 (n + 1) (n + 1) (shL l2 n (n - 0)).length d3 a3 wf (by omega) g3.out).mono ?_
  rintro e wg ⟨rfl, hb⟩
  have Bc := Lib.hid (below_on Bc.out hb)
  clear hb
  go_simp
  refine hK.out _ _ (KS.out _ Bc.out) (fun h0_6 => ?_)
  clear hK K h0_5
  refine tkH (i := 9) (v := ?v4) rfl (Or.inl ⟨by rfl, ?hy4⟩) h0_6 ?rest4
  case hy4 => (intro w' hS; (try dsimp only at hS); go_simp; try (with_reducible rfl))
  simp only [Act.put, sA, sB, sC, sD]
  try simp only [sF]
  try simp only [sE]
  refine wpAnyH_done (by kernel_rfl) ?_ _
  go_wp2_with fail
  go_ret
  exact Or.inl ⟨HZ.out, rfl, below_on E0.out Bc.out⟩
end Go.Proofs.YtbhaoaobhgilkaaGreat

namespace Go.Proofs.YtbhaoaobhgilkaaGreat
open Go.RowKit Go.Sort Go.Shelf

theorem yld_loadV {o : Oper} {a : Act} {w : World} (s : Operand) (ho : o.op = .load 25 s) (p : Addr) (hs : a.eval s = .pointer (some p)) {y : AV} (hx : AvAt w p y) : (execOp a.eval o).run Tryz.prog w = .ok (.value (.agg y.cs)) w := by
  have hv := av_loadP hx
  have h : (Instr.loadAt 25 (.pointer (some p))).run Tryz.prog w = .ok (.agg y.cs) w := by
    simp only [Instr.loadAt, Instr.sureAddr, Sem.run_bind, Sem.run_pure, Result.andThen_ok, hv]
  generalize y.cs = V at *
  unfold execOp
  simp only [ho, hs, Sem.run_bind, Sem.run_pure, h, Result.andThen_ok]

def impE (n : Nat) (L : List AV) (y : AV) : Int := if validB n y then shE (L.map ofV ++ [(ofV y).opp]) n n else 2

set_option maxRecDepth 100000 in
set_option maxHeartbeats 4000000 in
theorem implies1_any (n : Nat) (L : List AV) (y : AV) (ao : Option Addr) (cap pn px pl : Nat) (w : World) (hc : chkP n L = 0) (hR : RdV w ao L) (c0 : w.cell? ⟨pn, 0, none⟩ = some (.int .i64 n)) (c1 : AvAt w ⟨px, 0, none⟩ y) (hy : Rd1 w y.q y.a) (c2 : w.cell? ⟨pl, 0, none⟩ = some (.slice ao L.length cap)) :
    Calls Tryz.prog 56 #[.pointer (some ⟨pn, 0, none⟩), .pointer (some ⟨px, 0, none⟩), .pointer (some ⟨pl, 0, none⟩)] w fun e W' =>
      (impE n L y = 0 ∧ ∃ v, e = .returned v ∧ v = .bool (empB (L.map ofV ++ [(ofV y).opp]) n) ∧ Below w.heap.size w W') ∨ (impE n L y ≠ 0 ∧ e = .panicked (pan (impE n L y)) ∧ Below w.heap.size w W') := by
  obtain ⟨⟨_, hn⟩, hl, hv⟩ := chk_valid hc
  obtain ⟨k, hk⟩ : ∃ k, k = L.length := ⟨_, rfl⟩
  rw [← hk] at c2
  have VA := Lib.hid (isValid_any n y w (by omega) hy)
  have A1 := Lib.hid c1
  have C0 := Lib.hid c0
  have C2 := Lib.hid c2
  cases hb : validB n y
  · have HE := Lib.hid (show impE n L y = 2 by unfold impE; rw [hb]; rfl)
    rw [hb] at VA
    clear hc hR hl hv hk c1 hy hb
    go_enter Tryz.func56, Tryz.ntmps56
    go_wp2_with (refine wpl_loadV rfl _ rfl _ rfl y A1.out ?_)
    refine VA.out.mono ?_
    rintro e w1 ⟨rfl, hb⟩
    have B1 := Lib.hid hb
    clear hb
    go_wp2_with fail
    refine (demand_any false w1).mono ?_
    rintro e w2 ⟨rfl, rfl⟩
    go_wp2_with fail
    exact And.intro rfl (Or.inr ⟨by rw [HE.out]; decide, by rw [HE.out], B1.out⟩)
  · have HE := Lib.hid (show impE n L y = shE (L.map ofV ++ [(ofV y).opp]) n n by unfold impE; rw [hb]; rfl)
    have yl := valid_len hb
    have yg : Rg 2147483647 (ofV y) := ofV_rg (n := n) (by omega) hb
    rw [hb] at VA
    have LI := Lib.hid (fun W (h : Below w.heap.size w W) => lines_row L ao cap W (by omega) (hR.on h) (fun y hy => by have := valid_len (hv y hy); omega))
    have LO := Lib.hid (fun W (h : Below w.heap.size w W) => lineOf_any y W (by omega) (hy.on h))
    have IM := Lib.hid (fun W b (h1 : Rw W b (L.map ofV)) (h2 : b < W.heap.size) => implies_any n (L.map ofV) (ofV y) b (L.map ofV).length W (by omega) (by simp; omega) h1 h2 (fun x hx => by
      obtain ⟨z, hz, rfl⟩ := List.mem_map.1 hx
      exact ofV_rg (n := n) (by omega) (hv z hz)) yg)
    rw [← hk] at LI
    have HL := Lib.hid (show (L.map ofV).length = k by rw [hk]; simp)
    generalize L.map ofV = l at *
    generalize ofV y = x at *
    clear hc hR hl hv hk c1 hy hb yl yg
    go_enter Tryz.func56, Tryz.ntmps56
    go_wp2_with (refine wpl_loadV rfl _ rfl _ rfl y A1.out ?_)
    refine VA.out.mono ?_
    rintro e w1 ⟨rfl, hb⟩
    have B1 := Lib.hid hb
    clear hb
    go_wp2_with fail
    refine (demand_any true w1).mono ?_
    rintro e w2 ⟨rfl, rfl⟩
    go_upto_region 2 with (fail)
    have KS := Lib.hid (show ∀ W, Below w2.heap.size w2 W → (W.cell? ⟨pn, 0, none⟩ = some (.int .i64 n) ∧ W.cell? ⟨pl, 0, none⟩ = some (.slice ao k cap) ∧ AvAt W ⟨px, 0, none⟩ y) from fun W h => ⟨kept (below_on B1.out h) C0.out, kept (below_on B1.out h) C2.out, A1.out.on (below_on B1.out h)⟩)
    obtain ⟨wc, hwc⟩ : ∃ wc, wc = w2.drew := ⟨_, rfl⟩
    have Bc := Lib.hid (show Below w2.heap.size w2 wc by rw [hwc]; exact (Below.refl _ _).drew)
    refine wp_region_held_drew (S := (fun W => (W.cell? ⟨pn, 0, none⟩ = some (.int .i64 n) ∧ W.cell? ⟨pl, 0, none⟩ = some (.slice ao k cap) ∧ AvAt W ⟨px, 0, none⟩ y))) (by kernel_rfl) (by rw [← hwc]; exact KS.out _ Bc.out) (fun h0 => ?_)
    rw [← hwc] at h0 ⊢
    clear hwc
    refine tkH (i := 0) (v := ?v1) rfl (Or.inl ⟨by rfl, ?hy1⟩) h0 ?rest1
    case hy1 => (intro w' hS; (try dsimp only at hS); go_simp; try (with_reducible rfl))
    simp only [Act.put, sA, sB, sD, sE, sF]
    refine tkH (i := 1) (v := ?v2) rfl (Or.inl ⟨by rfl, ?hy2⟩) h0 ?rest2
    case hy2 => (intro w' hS; (try dsimp only at hS); go_simp; try (with_reducible rfl))
    simp only [Act.put, sA, sB, sC, sD, sE, sF]
    refine tkH (i := 3) (v := (.agg y.cs)) rfl (Or.inl ⟨by rfl, fun w' hS => yld_loadV _ rfl _ rfl hS.2.2⟩) h0 ?_
    simp only [Act.put, sA, sB, sC, sD, sE, sF]
    refine wpAnyH_ready (rs := [2]) (by kernel_rfl) (by simp) (AllReadyH.cons rfl (fun K hK => ?_) AllReadyH.nil)
    rw [if_pos (by rfl)]
    go_simp
    refine (LI.out wc (below_on B1.out Bc.out)).mono ?_
    rintro e wc ⟨b1, rfl, hr, ⟨_, hz⟩, hb⟩
    have R1 := Lib.hid hr
    have Z1 := Lib.hid hz
    clear hr hz
    have Bc := Lib.hid (below_on Bc.out hb)
    clear hb
    go_simp
    refine hK.out _ _ (KS.out _ Bc.out) (fun h0_1 => ?_)
    clear hK K h0
    refine wpAnyH_ready (rs := [4]) (by kernel_rfl) (by simp) (AllReadyH.cons rfl (fun K hK => ?_) AllReadyH.nil)
    rw [if_pos (by rfl)]
    go_simp
    refine (LO.out wc (below_on B1.out Bc.out)).mono ?_
    rintro e wc ⟨rfl, hb⟩
    have R1 := Lib.hid (R1.out.on hb Z1.out)
    have Z1 := Lib.hid (Nat.lt_of_lt_of_le Z1.out hb.size)
    have Bc := Lib.hid (below_on Bc.out hb)
    clear hb
    go_simp
    refine hK.out _ _ (KS.out _ Bc.out) (fun h0_2 => ?_)
    clear hK K h0_1
    refine wpAnyH_ready (rs := [5]) (by kernel_rfl) (by simp) (AllReadyH.cons rfl (fun K hK => ?_) AllReadyH.nil)
    rw [if_pos (by rfl)]
    go_simp
    refine (IM.out wc b1 R1.out Z1.out).mono ?_
    rintro e wc (⟨he, rfl, hb⟩ | ⟨he, rfl, hb⟩)
    rotate_left
    · exact And.intro rfl (Or.inr ⟨by rw [HE.out]; exact he, by rw [HE.out], below_on B1.out (below_on Bc.out hb)⟩)
    have HZ := Lib.hid he
    clear he
    have Bc := Lib.hid (below_on Bc.out hb)
    clear hb
    go_simp
    refine hK.out _ _ (KS.out _ Bc.out) (fun h0_3 => ?_)
    clear hK K h0_2
    refine tkH (i := 6) (v := ?v4) rfl (Or.inl ⟨by rfl, ?hy4⟩) h0_3 ?rest4
    case hy4 => (intro w' hS; (try dsimp only at hS); go_simp; try (with_reducible rfl))
    simp only [Act.put, sA, sB, sC, sD]
    try simp only [sF]
    try simp only [sE]
    refine wpAnyH_done (by kernel_rfl) ?_ _
    go_wp2_with fail
    go_ret
    exact Or.inl ⟨by rw [HE.out]; exact HZ.out, _, rfl, rfl, below_on B1.out Bc.out⟩
end Go.Proofs.YtbhaoaobhgilkaaGreat

namespace Go.Proofs.YtbhaoaobhgilkaaGreat
open Go.RowKit Go.Sort Go.Shelf

theorem implies1_enters : ∀ args w, (callFunc 56 args).run Tryz.prog w = .ok (.enter 56 args) w := enters_of Tryz.func56 (by kernel_rfl) rfl

/-- The error of Implies. -/
def impEr (n : Int) (L : List AV) (y : AV) : Int := if chkP n L = 0 then impE n.toNat L y else chkP n L

set_option maxRecDepth 100000 in
set_option maxHeartbeats 4000000 in
theorem impliesP_any (n : Int) (L : List AV) (y : AV) (ao : Option Addr) (cap : Nat) (w : World) (hR : RdV w ao L) (hy : Rd1 w y.q y.a) :
    Calls Tryz.prog 19 #[.int .i64 n, .slice ao L.length cap, .agg y.cs] w (fun e w' => Below w.heap.size w w' ∧ e = .returned (.tuple #[.bool (if impEr n L y = 0 then empB (L.map ofV ++ [(ofV y).opp]) n.toNat else false), .int .i64 (impEr n L y)])) := by
  have hmf : ∀ (fn : Fn) (first cap : Array Value) (w : World), (Instr.makeFunc fn first cap).run Tryz.prog w = .ok (.func fn first cap) w := fun _ _ _ _ => rfl
  obtain ⟨m, hm⟩ : ∃ m, m = L.length := ⟨_, rfl⟩
  obtain ⟨w0, hw0⟩ : ∃ w0, w0 = ((w.alloc (.cells #[.int .i64 n] 3)).alloc (.cells #[.slice ao m cap] 22)).alloc (.cells y.cs 25) := ⟨_, rfl⟩
  have E0 := Lib.hid (show Below w.heap.size w w0 by rw [hw0]; exact past_three (Below.refl _ _))
  have X0 := Lib.hid (show Bx1 w0 w.heap.size (.int .i64 n) 3 by rw [hw0]; exact ((Bx1.made w _ _).kept (one_more _)).kept (one_more _))
  have X1 := Lib.hid (show Bx1 w0 (w.heap.size + 1) (.slice ao m cap) 22 by rw [hw0]; have := (Bx1.made (w.alloc (.cells #[.int .i64 n] 3)) (.slice ao m cap) 22).kept (one_more (.cells y.cs 25)); simpa using this)
  have X2 := Lib.hid (show BkV w0 (w.heap.size + 2) y by rw [hw0]; have := BkV.made ((w.alloc (.cells #[.int .i64 n] 3)).alloc (.cells #[.slice ao m cap] 22)) y; simpa using this)
  have B1 := Lib.hid (one_more (w1 := w0) (.cells #[.slice ao m cap] 22))
  have hG : RdG (w0.alloc (.cells #[.slice ao m cap] 22)) (some ⟨w0.heap.size, 0, none⟩) [L] := by
    intro t ht
    have : t = 0 := by simpa using ht
    subst this
    refine ⟨_, ao, cap, rfl, ?_, (hR.on E0.out).on B1.out⟩
    rw [addr_add]
    have := (Bx1.made w0 (.slice ao m cap) 22).cell
    rw [hm] at this ⊢
    exact this
  have AN := Lib.hid (answerB_any 56 #[.pointer (some ⟨w.heap.size, 0, none⟩), .pointer (some ⟨w.heap.size + 2, 0, none⟩), .pointer (some ⟨w.heap.size + 1, 0, none⟩)] n (some ⟨w0.heap.size, 0, none⟩) 1 [L] (impE n.toNat L y) _ (by simp) hG implies1_enters
    (fun _ v _ => v = .bool (empB (L.map ofV ++ [(ofV y).opp]) n.toNat)) (fun _ _ _ _ _ h _ => h) (fun hc W hW => by
      have hc0 := hc L (by simp)
      have hn := (chk_valid hc0).1
      have e : ((n.toNat : Nat) : Int) = n := by omega
      refine implies1_any n.toNat L y ao cap w.heap.size (w.heap.size + 2) (w.heap.size + 1) W (by rw [e]; exact hc0) (((hR.on E0.out).on B1.out).on hW) ?_ ((X2.out.avAt.on B1.out).on hW) (((hy.on E0.out).on B1.out).on hW) ?_
      · rw [e]; exact kept hW (kept B1.out X0.out.cell)
      · rw [← hm]; exact kept hW (kept B1.out X1.out.cell)))
  have HE := Lib.hid (show ansE n [L] (impE n.toNat L y) = impEr n L y from ansE_one _ _ _)
  have c0 := X0.out.cell
  have c1 := X1.out.cell
  simp only [List.length_cons, List.length_nil, Nat.zero_add] at AN
  rw [← hm]
  clear hR hG hm hy
  have YC := Lib.hid (show w.heap.size ≤ w.heap.size from Nat.le_refl _)
  go_enter Tryz.func19, Tryz.ntmps19
  go_upto_region 1 with (fail)
  rw [← hw0]
  clear hw0
  go_wp2_with fail
  refine AN.out.mono ?_
  rintro e w2 ⟨hb, ⟨he, W, v, hW, rfl, rfl⟩ | ⟨he, rfl⟩⟩
  · have B2 := Lib.hid (below_on E0.out (past_one hb))
    rw [HE.out] at he
    have HZ := Lib.hid he
    clear hb he hW
    go_wp2_with fail
    refine bodyPost_ret (v := .tuple #[.bool (empB (L.map ofV ++ [(ofV y).opp]) n.toNat), .int .i64 0]) (by simp [results, Tryz.results19, go_sem]) rfl ?_
    exact ⟨B2.out, by first | rfl | rw [HZ.out, if_pos rfl]⟩
  · have B2 := Lib.hid (below_on E0.out (past_one hb))
    rw [HE.out] at he ⊢
    have HZ := Lib.hid he
    clear hb he
    go_wp2_with fail
    refine bodyPost_ret (v := .tuple #[.bool false, .int .i64 (impEr n L y)]) (by simp [results, Tryz.results19, go_sem]) rfl ?_
    exact ⟨B2.out, by first | rfl | rw [if_neg HZ.out]⟩
end Go.Proofs.YtbhaoaobhgilkaaGreat
