/- WidenBounds, for whatever arguments. -/
import Derived.Test.YtjfhjckacfkpoaaHa4

namespace Go.Proofs.Ytjfhjckacfkpoaa
open Go.RowKit

set_option maxRecDepth 100000 in
set_option maxHeartbeats 1000000 in
theorem wlb_long (N : Int) (ao lo ho : Option Addr) (len cap j lc k hc : Nat) (w : World) (h : b2B len j k = true) :
    Calls Try.prog 3 #[.agg #[.int .i64 N, .slice ao len cap], .slice lo j lc, .slice ho k hc] w (Made (.bool true) w) := by
  have SH := Lib.hid (fun W => shown6_any W)
  obtain ⟨w0, hw0⟩ : ∃ w0, w0 = (w.alloc (.cells #[.int .i64 N, .slice ao len cap] 24)).alloc (.cells #[.slice lo j lc, .slice ho k hc] 25) := ⟨_, rfl⟩
  have E0 := Lib.hid (show Below w.heap.size w w0 by rw [hw0]; exact past_two (Below.refl _ _))
  have c0 : w0.cell? ⟨w.heap.size + 1, 0, none⟩ = some (.slice lo j lc) := by rw [hw0]; go_simp
  have c1 : w0.cell? ⟨w.heap.size + 1, 1, none⟩ = some (.slice ho k hc) := by rw [hw0]; go_simp
  have BE := Lib.hid (show Calls Try.prog 7 #[.agg #[.int .i64 N, .slice ao len cap], .slice (some ⟨w.heap.size + 1, 0, none⟩) 2 2] w0 (Made (.bool true) w0) by
    have := beyond2_any N ao lo ho len cap j k lc hc (w.heap.size + 1) w0 c0 c1
    rwa [h] at this)
  have HW0 := Lib.hid hw0
  clear hw0 c0 c1
  go_enter Try.func3, Try.ntmps3
  go_wp2_with fail
  rw [← HW0.out]
  refine BE.out.mono ?_
  rintro e w1 ⟨rfl, hb⟩
  have B1 := Lib.hid (below_on E0.out hb)
  clear hb
  go_wp2_with fail
  refine (SH.out _).mono ?_
  rintro e w2 ⟨rfl, hb⟩
  have B2 := Lib.hid (below_on B1.out hb)
  clear hb
  go_wp2_with fail
  go_ret
  exact ⟨rfl, B2.out⟩

set_option maxRecDepth 100000 in
set_option maxHeartbeats 16000000 in
theorem wlb_short (N : Int) (l low high : List Int) (ao lo ho : Option Addr) (cap lc hc : Nat) (w : World) (hS : Src w ao l cap) (hL : Src w lo low lc) (hH : Src w ho high hc) (h : b2B l.length low.length high.length = false) :
    Calls Try.prog 3 #[.agg #[.int .i64 N, .slice ao l.length cap], .slice lo low.length lc, .slice ho high.length hc] w (Made (.bool true) w) := by
  have hl : low.length ≤ 50 ∧ high.length ≤ 50 ∧ l.length ≤ 200 := by unfold b2B at h; simp at h; omega
  have SH := Lib.hid (fun W => shown6_any W)
  have BO := Lib.hid (fun W a c p pc q qc (h1 : Src W a l c) (h2 : Src W p low pc) (h3 : Src W q high qc) => (wbounds_gen N l a c low high p q pc qc W h1.1 h2.1 h3.1 h2.2 h3.2 (by omega) (by omega)).mono fun e w' h => h.zv2)
  have RB := Lib.hid (fun W (hb : Below w.heap.size w W) => (rbounds_gen N l ao cap low high lo ho lc hc W (hS.on hb).1 (hL.on hb).1 (hH.on hb).1 (by omega) (by omega)).mono fun e w' h => h.zv2)
  have GO := Lib.hid (fun W a c p pc (h1 : Src W a l c) (h2 : Src W p low pc) => (wgreatest_gen N l a c low p pc W h1.1 h2.1 h2.2 (by omega)).mono fun e w' h => h.zv2)
  have RG := Lib.hid (fun W (hb : Below w.heap.size w W) => (rgreatest_gen N l ao cap low lo lc W (hS.on hb).1 (hL.on hb).1 (by omega)).mono fun e w' h => h.zv2)
  have SM := Lib.hid (fun W M m ao bo ca cb hA hB hm => same_refl M m ao bo ca cb W hA hB hm)
  have LM := Lib.hid (show l.length ≤ maxLen by unfold maxLen; omega)
  have HS := Lib.hid (fun W (hb : Below w.heap.size w W) => hS.on hb)
  have HL := Lib.hid (fun W (hb : Below w.heap.size w W) => hL.on hb)
  have HH := Lib.hid (fun W (hb : Below w.heap.size w W) => hH.on hb)
  obtain ⟨i0, hi, hz0, hz1, hz2⟩ := info_parts Try.info49
  obtain ⟨i1, hj, hy0, hy1, hy2⟩ := info_parts Try.info2
  obtain ⟨w0, hw0⟩ : ∃ w0, w0 = (w.alloc (.cells #[.int .i64 N, .slice ao l.length cap] 24)).alloc (.cells #[.slice lo low.length lc, .slice ho high.length hc] 25) := ⟨_, rfl⟩
  have E0 := Lib.hid (show Below w.heap.size w w0 by rw [hw0]; exact past_two (Below.refl _ _))
  have PX := Lib.hid (show Two w0 w.heap.size (.int .i64 N) (.slice ao l.length cap) by rw [hw0]; exact (Two.made _ _ _ _).alloc _)
  have c0 : w0.cell? ⟨w.heap.size + 1, 0, none⟩ = some (.slice lo low.length lc) := by rw [hw0]; go_simp
  have c1 : w0.cell? ⟨w.heap.size + 1, 1, none⟩ = some (.slice ho high.length hc) := by rw [hw0]; go_simp
  have BE := Lib.hid (show Calls Try.prog 7 #[.agg #[.int .i64 N, .slice ao l.length cap], .slice (some ⟨w.heap.size + 1, 0, none⟩) 2 2] w0 (Made (.bool false) w0) by
    have := beyond2_any N ao lo ho l.length cap low.length high.length lc hc (w.heap.size + 1) w0 c0 c1
    rwa [h] at this)
  have HW0 := Lib.hid hw0
  generalize zrN (wdE N low high l) N = M1 at *
  generalize zrL (wdE N low high l) (Zo.clo N.toNat (wdM N.toNat low high l)) = m1 at *
  generalize wdE N low high l = e1 at *
  generalize zrN (wdE N low low l) N = M2 at *
  generalize zrL (wdE N low low l) (Zo.clo N.toNat (wdM N.toNat low low l)) = m2 at *
  generalize wdE N low low l = e2 at *
  have DE1 : (e1 == e1) = true := by simp
  have DE2 : (e2 == e2) = true := by simp
  have g1 := hl.1
  have g2 := hl.2.1
  have g3 := hl.2.2
  clear hw0 c0 c1 hS hL hH h hl
  go_enter Try.func3, Try.ntmps3
  go_wp2_with fail
  rw [← HW0.out]
  refine BE.out.mono ?_
  rintro e w1 ⟨rfl, hb⟩
  have B1 := Lib.hid (below_on E0.out hb)
  have PX := Lib.hid (PX.out.kept hb)
  clear hb BE HW0
  go_wp2_with fail
  go_cut [7] (fun s7 wx => ∃ (p : Nat) (mo : Option Addr) (mc : Nat), s7 = .pointer (some ⟨p, 0, none⟩) ∧ Hid (Two wx p (.int .i64 N) (.slice mo l.length mc) ∧ Src wx mo l mc ∧ Below w1.heap.size w1 wx))
  case first =>
    have HSW := Lib.hid (fun W (hb : Below w1.heap.size w1 W) => HS.out W (below_on B1.out hb))
    have KS := Lib.hid (show ∀ W, Below w1.heap.size w1 W → (W.cell? ⟨w.heap.size, 0, none⟩ = some (.int .i64 N) ∧ W.cell? ⟨w.heap.size, 1, none⟩ = some (.slice ao l.length cap)) from fun W h => ⟨(PX.out.kept h).facts.1, (PX.out.kept h).facts.2.1⟩)
    obtain ⟨wc, hwc⟩ : ∃ wc, wc = w1.drew := ⟨_, rfl⟩
    have Bc := Lib.hid (show Below w1.heap.size w1 wc by rw [hwc]; exact (Below.refl _ _).drew)
    refine wp_region_held_drew (S := (fun W => (W.cell? ⟨w.heap.size, 0, none⟩ = some (.int .i64 N) ∧ W.cell? ⟨w.heap.size, 1, none⟩ = some (.slice ao l.length cap)))) (by kernel_rfl) (by rw [← hwc]; exact KS.out _ Bc.out) (fun h0 => ?_)
    rw [← hwc] at h0 ⊢
    clear hwc
    refine wpAnyH_take (i := 0) (v := ?v1) rfl (by kernel_rfl) (by kernel_rfl) (by kernel_rfl) (fun _ _ _ h => h) (Or.inl ⟨by rfl, ?hy1⟩) h0 ?rest1
    case hy1 => (intro w' hS; (try dsimp only at hS); go_simp; try (with_reducible rfl))
    simp only [Act.put, List.getElem_toArray, List.getElem_cons_zero, List.setIfInBounds_toArray, List.set_cons_zero, List.set_cons_succ]
    refine wpAnyH_take (i := 1) (v := ?v2) rfl (by kernel_rfl) (by kernel_rfl) (by kernel_rfl) (fun _ _ _ h => h) (Or.inl ⟨by rfl, ?hy2⟩) h0 ?rest2
    case hy2 => (intro w' hS; (try dsimp only at hS); go_simp; try (with_reducible rfl))
    simp only [Act.put, List.getElem_toArray, List.getElem_cons_zero, List.getElem_cons_succ, List.setIfInBounds_toArray, List.set_cons_zero, List.set_cons_succ]
    refine wpAnyH_take (i := 3) (v := ?v3) rfl (by kernel_rfl) (by kernel_rfl) (by kernel_rfl) (fun _ _ _ h => h) (Or.inl ⟨by rfl, ?hy3⟩) h0 ?rest3
    case hy3 => (intro w' hS; (try dsimp only at hS); go_simp; try (with_reducible rfl))
    simp only [Act.put, List.getElem_toArray, List.getElem_cons_zero, List.getElem_cons_succ, List.setIfInBounds_toArray, List.set_cons_zero, List.set_cons_succ]
    refine wpAnyH_take (i := 4) (v := ?v4) rfl (by kernel_rfl) (by kernel_rfl) (by kernel_rfl) (fun _ _ _ h => h) (Or.inl ⟨by rfl, ?hy4⟩) h0 ?rest4
    case hy4 => (intro w' hS; (try dsimp only at hS); go_simp; try (with_reducible rfl))
    simp only [Act.put, List.getElem_toArray, List.getElem_cons_zero, List.getElem_cons_succ, List.setIfInBounds_toArray, List.set_cons_zero, List.set_cons_succ]
    refine wpAnyH_ready (rs := [2, 7]) (by kernel_rfl) (by simp) (AllReadyH.cons rfl (fun K hK => ?_) (AllReadyH.cons rfl (fun K hK => ?_) AllReadyH.nil))
    · rw [if_pos (by rfl)]
      go_simp
      obtain ⟨bx, hbb⟩ : ∃ b, b = wc.heap.size := ⟨_, rfl⟩
      try (have Ntx := Lib.hid (show bt ≠ bx by have h := It.out; omega))
      try (have Mrx := Lib.hid (fun (d : Addr) (e : aor = some d) => show d.block ≠ bx by have h := Dr.out d e; omega))
      have hb := one_more (w1 := wc) (.cells #[] 49)
      have hX := Emp.made wc w1.heap.size 49 Bc.out.size
      have hI : w1.heap.size ≤ bx ∧ bx < (wc.alloc (.cells #[] 49)).heap.size := by rw [hbb]; exact ⟨Bc.out.size, by simp⟩
      rw [← hbb] at hX
      obtain ⟨wc, hwc⟩ : ∃ wn, wn = wc.alloc (.cells #[] 49) := ⟨_, rfl⟩
      rw [← hwc] at hb hX hI ⊢
      try rw [← hbb]
      try (have Sr := Lib.hid (Sr.out.on hb))
      try (have Dr := Lib.hid (fun d e => And.intro (Dr.out d e).1 (Nat.lt_of_lt_of_le (Dr.out d e).2 hb.size)))
      try (have Wt := Lib.hid (Wt.out.kept hb))
      try (have It := Lib.hid (And.intro It.out.1 (Nat.lt_of_lt_of_le It.out.2 hb.size)))
      have Bc := Lib.hid (below_on Bc.out hb)
      have Xx := Lib.hid hX
      have Ix := Lib.hid hI
      clear hb hX hI hwc hbb
      go_simp
      refine hK.out _ _ (KS.out _ Bc.out) (fun h0_1 => ?_)
      clear hK K h0
      refine wpAnyH_ready (rs := [5, 7]) (by kernel_rfl) (by simp) (AllReadyH.cons rfl (fun K hK => ?_) (AllReadyH.cons rfl (fun K hK => ?_) AllReadyH.nil))
      · rw [if_pos (by rfl)]
        obtain ⟨aor, cr, wc, hrun, hS, hD, hg⟩ := run_app (t := 22) (ty := 22) (e := 49) Try.underlying22 hi hz0 hz1 hz2 Xx.out (HSW.out _ Bc.out) (by omega)
        refine Lib.wp_append_run _ (.tmp 24) (.tmp 26) 22 22 rfl (.slice (some ⟨bx, 0, none⟩) 0 0) (.slice ao l.length cap) (by simp [Act.eval]) (by simp [Act.eval]) _ _ hrun ?_
        have hz := hg.size
        try (have Mrt := Lib.hid (fun (d : Addr) (e : aor = some d) => show d.block ≠ bt by have h1 := (hD d e).1; have h2 := It.out; first | (have h3 := Nxt.out; omega) | (have h3 := Ntx.out; omega)))
        try (have Wt := Lib.hid (Wt.out.grown hg (by first | exact Ntx.out | exact Ne.symm Nxt.out)))
        try (have It := Lib.hid (And.intro It.out.1 (Nat.lt_of_lt_of_le It.out.2 hz)))
        have Sr := Lib.hid hS
        have Dr := Lib.hid (fun (d : Addr) (e : aor = some d) => show w1.heap.size ≤ d.block ∧ d.block < wc.heap.size by have h1 := hD d e; have h2 := Ix.out; have h3 := Bc.out.size; omega)
        have Bc := Lib.hid (below_app Bc.out hg Ix.out.1)
        clear hrun hS hD hg hz
        clear Xx
        try simp only [Act.put, List.getElem_toArray, List.getElem_cons_zero, List.getElem_cons_succ, List.setIfInBounds_toArray, List.set_cons_zero, List.set_cons_succ]
        refine hK.out _ _ (KS.out _ Bc.out) (fun h0_2 => ?_)
        clear hK K h0_1
        refine wpAnyH_take (i := 6) (v := ?v5) rfl (by kernel_rfl) (by kernel_rfl) (by kernel_rfl) (fun _ _ _ h => h) (Or.inl ⟨by rfl, ?hy5⟩) h0_2 ?rest5
        case hy5 => (intro w' hS; (try dsimp only at hS); go_simp; try (with_reducible rfl))
        simp only [Act.put, List.getElem_toArray, List.getElem_cons_zero, List.getElem_cons_succ, List.setIfInBounds_toArray, List.set_cons_zero, List.set_cons_succ]
        refine wpAnyH_ready (rs := [7]) (by kernel_rfl) (by simp) (AllReadyH.cons rfl (fun K hK => ?_) AllReadyH.nil)
        rw [if_pos (by rfl)]
        go_simp
        obtain ⟨bt, hbb⟩ : ∃ b, b = wc.heap.size := ⟨_, rfl⟩
        try (have Nxt := Lib.hid (show bx ≠ bt by have h := Ix.out; omega))
        try (have Mrt := Lib.hid (fun (d : Addr) (e : aor = some d) => show d.block ≠ bt by have h := Dr.out d e; omega))
        have hb := one_more (w1 := wc) (.cells #[.int .i64 0, .slice none 0 0] 24)
        have hX := Two.made wc (.int .i64 0) (.slice none 0 0) 24
        have hI : w1.heap.size ≤ bt ∧ bt < (wc.alloc (.cells #[.int .i64 0, .slice none 0 0] 24)).heap.size := by rw [hbb]; exact ⟨Bc.out.size, by simp⟩
        rw [← hbb] at hX
        obtain ⟨wc, hwc⟩ : ∃ wn, wn = wc.alloc (.cells #[.int .i64 0, .slice none 0 0] 24) := ⟨_, rfl⟩
        rw [← hwc] at hb hX hI ⊢
        try rw [← hbb]
        try (have Xx := Lib.hid (Xx.out.on hb))
        try (have Ix := Lib.hid (And.intro Ix.out.1 (Nat.lt_of_lt_of_le Ix.out.2 hb.size)))
        try (have Sr := Lib.hid (Sr.out.on hb))
        try (have Dr := Lib.hid (fun d e => And.intro (Dr.out d e).1 (Nat.lt_of_lt_of_le (Dr.out d e).2 hb.size)))
        have Bc := Lib.hid (below_on Bc.out hb)
        have Wt := Lib.hid hX
        have It := Lib.hid hI
        clear hb hX hI hwc hbb
        go_simp
        refine hK.out _ _ (KS.out _ Bc.out) (fun h0_3 => ?_)
        clear hK K h0_2
        refine wpAnyH_ready (rs := [8]) (by kernel_rfl) (by simp) (AllReadyH.cons rfl (fun K hK => ?_) AllReadyH.nil)
        rw [if_pos (by rfl)]
        obtain ⟨q0, q1, q2, q3⟩ := Wt.out.facts
        go_simp
        have hW := Wt.out.put (.int .i64 N) (.slice aor l.length cr)
        have hA := Src.aside Sr.out Mrt.out (.int .i64 N) (.slice aor l.length cr)
        have hB := far_below Bc.out It.out.1 (.int .i64 N) (.slice aor l.length cr)
        obtain ⟨wc, hwc⟩ : ∃ wn, wn = (wc.setCell ⟨bt, 0, none⟩ (.int .i64 N)).setCell ⟨bt, 1, none⟩ (.slice aor l.length cr) := ⟨_, rfl⟩
        rw [← hwc] at hW hA hB ⊢
        have Wt := Lib.hid hW
        have Sr := Lib.hid hA
        have Bc := Lib.hid hB
        clear hW hA hB hwc q0 q1 q2 q3
        refine hK.out _ _ (KS.out _ Bc.out) (fun h0_4 => ?_)
        clear hK K h0_3
        refine wpAnyH_done (by kernel_rfl) ?_ _
        go_wp2_with fail
        go_meet
        case rel => exact ⟨bt, aor, cr, rfl, Lib.hid ⟨Wt.out, Sr.out, Bc.out⟩⟩
      · rw [if_pos (by rfl)]
        go_simp
        obtain ⟨bt, hbb⟩ : ∃ b, b = wc.heap.size := ⟨_, rfl⟩
        try (have Nxt := Lib.hid (show bx ≠ bt by have h := Ix.out; omega))
        try (have Mrt := Lib.hid (fun (d : Addr) (e : aor = some d) => show d.block ≠ bt by have h := Dr.out d e; omega))
        have hb := one_more (w1 := wc) (.cells #[.int .i64 0, .slice none 0 0] 24)
        have hX := Two.made wc (.int .i64 0) (.slice none 0 0) 24
        have hI : w1.heap.size ≤ bt ∧ bt < (wc.alloc (.cells #[.int .i64 0, .slice none 0 0] 24)).heap.size := by rw [hbb]; exact ⟨Bc.out.size, by simp⟩
        rw [← hbb] at hX
        obtain ⟨wc, hwc⟩ : ∃ wn, wn = wc.alloc (.cells #[.int .i64 0, .slice none 0 0] 24) := ⟨_, rfl⟩
        rw [← hwc] at hb hX hI ⊢
        try rw [← hbb]
        try (have Xx := Lib.hid (Xx.out.on hb))
        try (have Ix := Lib.hid (And.intro Ix.out.1 (Nat.lt_of_lt_of_le Ix.out.2 hb.size)))
        try (have Sr := Lib.hid (Sr.out.on hb))
        try (have Dr := Lib.hid (fun d e => And.intro (Dr.out d e).1 (Nat.lt_of_lt_of_le (Dr.out d e).2 hb.size)))
        have Bc := Lib.hid (below_on Bc.out hb)
        have Wt := Lib.hid hX
        have It := Lib.hid hI
        clear hb hX hI hwc hbb
        go_simp
        refine hK.out _ _ (KS.out _ Bc.out) (fun h0_2 => ?_)
        clear hK K h0_1
        refine wpAnyH_ready (rs := [5]) (by kernel_rfl) (by simp) (AllReadyH.cons rfl (fun K hK => ?_) AllReadyH.nil)
        rw [if_pos (by rfl)]
        obtain ⟨aor, cr, wc, hrun, hS, hD, hg⟩ := run_app (t := 22) (ty := 22) (e := 49) Try.underlying22 hi hz0 hz1 hz2 Xx.out (HSW.out _ Bc.out) (by omega)
        refine Lib.wp_append_run _ (.tmp 24) (.tmp 26) 22 22 rfl (.slice (some ⟨bx, 0, none⟩) 0 0) (.slice ao l.length cap) (by simp [Act.eval]) (by simp [Act.eval]) _ _ hrun ?_
        have hz := hg.size
        try (have Mrt := Lib.hid (fun (d : Addr) (e : aor = some d) => show d.block ≠ bt by have h1 := (hD d e).1; have h2 := It.out; first | (have h3 := Nxt.out; omega) | (have h3 := Ntx.out; omega)))
        try (have Wt := Lib.hid (Wt.out.grown hg (by first | exact Ntx.out | exact Ne.symm Nxt.out)))
        try (have It := Lib.hid (And.intro It.out.1 (Nat.lt_of_lt_of_le It.out.2 hz)))
        have Sr := Lib.hid hS
        have Dr := Lib.hid (fun (d : Addr) (e : aor = some d) => show w1.heap.size ≤ d.block ∧ d.block < wc.heap.size by have h1 := hD d e; have h2 := Ix.out; have h3 := Bc.out.size; omega)
        have Bc := Lib.hid (below_app Bc.out hg Ix.out.1)
        clear hrun hS hD hg hz
        clear Xx
        try simp only [Act.put, List.getElem_toArray, List.getElem_cons_zero, List.getElem_cons_succ, List.setIfInBounds_toArray, List.set_cons_zero, List.set_cons_succ]
        refine hK.out _ _ (KS.out _ Bc.out) (fun h0_5 => ?_)
        clear hK K h0_2
        refine wpAnyH_take (i := 6) (v := ?v6) rfl (by kernel_rfl) (by kernel_rfl) (by kernel_rfl) (fun _ _ _ h => h) (Or.inl ⟨by rfl, ?hy6⟩) h0_5 ?rest6
        case hy6 => (intro w' hS; (try dsimp only at hS); go_simp; try (with_reducible rfl))
        simp only [Act.put, List.getElem_toArray, List.getElem_cons_zero, List.getElem_cons_succ, List.setIfInBounds_toArray, List.set_cons_zero, List.set_cons_succ]
        refine wpAnyH_ready (rs := [8]) (by kernel_rfl) (by simp) (AllReadyH.cons rfl (fun K hK => ?_) AllReadyH.nil)
        rw [if_pos (by rfl)]
        obtain ⟨q0, q1, q2, q3⟩ := Wt.out.facts
        go_simp
        have hW := Wt.out.put (.int .i64 N) (.slice aor l.length cr)
        have hA := Src.aside Sr.out Mrt.out (.int .i64 N) (.slice aor l.length cr)
        have hB := far_below Bc.out It.out.1 (.int .i64 N) (.slice aor l.length cr)
        obtain ⟨wc, hwc⟩ : ∃ wn, wn = (wc.setCell ⟨bt, 0, none⟩ (.int .i64 N)).setCell ⟨bt, 1, none⟩ (.slice aor l.length cr) := ⟨_, rfl⟩
        rw [← hwc] at hW hA hB ⊢
        have Wt := Lib.hid hW
        have Sr := Lib.hid hA
        have Bc := Lib.hid hB
        clear hW hA hB hwc q0 q1 q2 q3
        refine hK.out _ _ (KS.out _ Bc.out) (fun h0_6 => ?_)
        clear hK K h0_5
        refine wpAnyH_done (by kernel_rfl) ?_ _
        go_wp2_with fail
        go_meet
        case rel => exact ⟨bt, aor, cr, rfl, Lib.hid ⟨Wt.out, Sr.out, Bc.out⟩⟩
    · rw [if_pos (by rfl)]
      go_simp
      obtain ⟨bt, hbb⟩ : ∃ b, b = wc.heap.size := ⟨_, rfl⟩
      try (have Nxt := Lib.hid (show bx ≠ bt by have h := Ix.out; omega))
      try (have Mrt := Lib.hid (fun (d : Addr) (e : aor = some d) => show d.block ≠ bt by have h := Dr.out d e; omega))
      have hb := one_more (w1 := wc) (.cells #[.int .i64 0, .slice none 0 0] 24)
      have hX := Two.made wc (.int .i64 0) (.slice none 0 0) 24
      have hI : w1.heap.size ≤ bt ∧ bt < (wc.alloc (.cells #[.int .i64 0, .slice none 0 0] 24)).heap.size := by rw [hbb]; exact ⟨Bc.out.size, by simp⟩
      rw [← hbb] at hX
      obtain ⟨wc, hwc⟩ : ∃ wn, wn = wc.alloc (.cells #[.int .i64 0, .slice none 0 0] 24) := ⟨_, rfl⟩
      rw [← hwc] at hb hX hI ⊢
      try rw [← hbb]
      try (have Xx := Lib.hid (Xx.out.on hb))
      try (have Ix := Lib.hid (And.intro Ix.out.1 (Nat.lt_of_lt_of_le Ix.out.2 hb.size)))
      try (have Sr := Lib.hid (Sr.out.on hb))
      try (have Dr := Lib.hid (fun d e => And.intro (Dr.out d e).1 (Nat.lt_of_lt_of_le (Dr.out d e).2 hb.size)))
      have Bc := Lib.hid (below_on Bc.out hb)
      have Wt := Lib.hid hX
      have It := Lib.hid hI
      clear hb hX hI hwc hbb
      go_simp
      refine hK.out _ _ (KS.out _ Bc.out) (fun h0_1 => ?_)
      clear hK K h0
      refine wpAnyH_ready (rs := [2]) (by kernel_rfl) (by simp) (AllReadyH.cons rfl (fun K hK => ?_) AllReadyH.nil)
      rw [if_pos (by rfl)]
      go_simp
      obtain ⟨bx, hbb⟩ : ∃ b, b = wc.heap.size := ⟨_, rfl⟩
      try (have Ntx := Lib.hid (show bt ≠ bx by have h := It.out; omega))
      try (have Mrx := Lib.hid (fun (d : Addr) (e : aor = some d) => show d.block ≠ bx by have h := Dr.out d e; omega))
      have hb := one_more (w1 := wc) (.cells #[] 49)
      have hX := Emp.made wc w1.heap.size 49 Bc.out.size
      have hI : w1.heap.size ≤ bx ∧ bx < (wc.alloc (.cells #[] 49)).heap.size := by rw [hbb]; exact ⟨Bc.out.size, by simp⟩
      rw [← hbb] at hX
      obtain ⟨wc, hwc⟩ : ∃ wn, wn = wc.alloc (.cells #[] 49) := ⟨_, rfl⟩
      rw [← hwc] at hb hX hI ⊢
      try rw [← hbb]
      try (have Sr := Lib.hid (Sr.out.on hb))
      try (have Dr := Lib.hid (fun d e => And.intro (Dr.out d e).1 (Nat.lt_of_lt_of_le (Dr.out d e).2 hb.size)))
      try (have Wt := Lib.hid (Wt.out.kept hb))
      try (have It := Lib.hid (And.intro It.out.1 (Nat.lt_of_lt_of_le It.out.2 hb.size)))
      have Bc := Lib.hid (below_on Bc.out hb)
      have Xx := Lib.hid hX
      have Ix := Lib.hid hI
      clear hb hX hI hwc hbb
      go_simp
      refine hK.out _ _ (KS.out _ Bc.out) (fun h0_7 => ?_)
      clear hK K h0_1
      refine wpAnyH_ready (rs := [5]) (by kernel_rfl) (by simp) (AllReadyH.cons rfl (fun K hK => ?_) AllReadyH.nil)
      rw [if_pos (by rfl)]
      obtain ⟨aor, cr, wc, hrun, hS, hD, hg⟩ := run_app (t := 22) (ty := 22) (e := 49) Try.underlying22 hi hz0 hz1 hz2 Xx.out (HSW.out _ Bc.out) (by omega)
      refine Lib.wp_append_run _ (.tmp 24) (.tmp 26) 22 22 rfl (.slice (some ⟨bx, 0, none⟩) 0 0) (.slice ao l.length cap) (by simp [Act.eval]) (by simp [Act.eval]) _ _ hrun ?_
      have hz := hg.size
      try (have Mrt := Lib.hid (fun (d : Addr) (e : aor = some d) => show d.block ≠ bt by have h1 := (hD d e).1; have h2 := It.out; first | (have h3 := Nxt.out; omega) | (have h3 := Ntx.out; omega)))
      try (have Wt := Lib.hid (Wt.out.grown hg (by first | exact Ntx.out | exact Ne.symm Nxt.out)))
      try (have It := Lib.hid (And.intro It.out.1 (Nat.lt_of_lt_of_le It.out.2 hz)))
      have Sr := Lib.hid hS
      have Dr := Lib.hid (fun (d : Addr) (e : aor = some d) => show w1.heap.size ≤ d.block ∧ d.block < wc.heap.size by have h1 := hD d e; have h2 := Ix.out; have h3 := Bc.out.size; omega)
      have Bc := Lib.hid (below_app Bc.out hg Ix.out.1)
      clear hrun hS hD hg hz
      clear Xx
      try simp only [Act.put, List.getElem_toArray, List.getElem_cons_zero, List.getElem_cons_succ, List.setIfInBounds_toArray, List.set_cons_zero, List.set_cons_succ]
      refine hK.out _ _ (KS.out _ Bc.out) (fun h0_8 => ?_)
      clear hK K h0_7
      refine wpAnyH_take (i := 6) (v := ?v7) rfl (by kernel_rfl) (by kernel_rfl) (by kernel_rfl) (fun _ _ _ h => h) (Or.inl ⟨by rfl, ?hy7⟩) h0_8 ?rest7
      case hy7 => (intro w' hS; (try dsimp only at hS); go_simp; try (with_reducible rfl))
      simp only [Act.put, List.getElem_toArray, List.getElem_cons_zero, List.getElem_cons_succ, List.setIfInBounds_toArray, List.set_cons_zero, List.set_cons_succ]
      refine wpAnyH_ready (rs := [8]) (by kernel_rfl) (by simp) (AllReadyH.cons rfl (fun K hK => ?_) AllReadyH.nil)
      rw [if_pos (by rfl)]
      obtain ⟨q0, q1, q2, q3⟩ := Wt.out.facts
      go_simp
      have hW := Wt.out.put (.int .i64 N) (.slice aor l.length cr)
      have hA := Src.aside Sr.out Mrt.out (.int .i64 N) (.slice aor l.length cr)
      have hB := far_below Bc.out It.out.1 (.int .i64 N) (.slice aor l.length cr)
      obtain ⟨wc, hwc⟩ : ∃ wn, wn = (wc.setCell ⟨bt, 0, none⟩ (.int .i64 N)).setCell ⟨bt, 1, none⟩ (.slice aor l.length cr) := ⟨_, rfl⟩
      rw [← hwc] at hW hA hB ⊢
      have Wt := Lib.hid hW
      have Sr := Lib.hid hA
      have Bc := Lib.hid hB
      clear hW hA hB hwc q0 q1 q2 q3
      refine hK.out _ _ (KS.out _ Bc.out) (fun h0_9 => ?_)
      clear hK K h0_8
      refine wpAnyH_done (by kernel_rfl) ?_ _
      go_wp2_with fail
      go_meet
      case rel => exact ⟨bt, aor, cr, rfl, Lib.hid ⟨Wt.out, Sr.out, Bc.out⟩⟩
  case rest =>
    obtain ⟨p, mo, mc, rfl, HX⟩ := hcut
    generalize wc = v2 at *
    have OX := Lib.hid HX.out.1
    have OS := Lib.hid HX.out.2.1
    have B2 := Lib.hid (below_on B1.out HX.out.2.2)
    have PX := Lib.hid (PX.out.kept HX.out.2.2)
    clear HX
    have OSW := Lib.hid (fun W (hb : Below v2.heap.size v2 W) => OS.out.on hb)
    have HLW := Lib.hid (fun W (hb : Below v2.heap.size v2 W) => HL.out W (below_on B2.out hb))
    have HHW := Lib.hid (fun W (hb : Below v2.heap.size v2 W) => HH.out W (below_on B2.out hb))
    go_wp2_with fail
    go_cut [8, 9] (fun s8 s9 wx => ∃ (p : Nat) (mo : Option Addr) (mc : Nat), s8 = .pointer (some ⟨p, 0, none⟩) ∧ s9 = .int .i64 e1 ∧ Hid (Two wx p (.int .i64 M1) (.slice mo m1.length mc) ∧ Arg wx mo m1 ∧ m1.length ≤ maxLen ∧ Below v2.heap.size v2 wx))
    case first =>
      have KS := Lib.hid (show ∀ W, Below v2.heap.size v2 W → (W.cell? ⟨p, 0, none⟩ = some (.int .i64 N) ∧ W.cell? ⟨p, 1, none⟩ = some (.slice mo l.length mc)) from fun W h => ⟨(OX.out.kept h).facts.1, (OX.out.kept h).facts.2.1⟩)
      obtain ⟨wc, hwc⟩ : ∃ wc, wc = v2.drew := ⟨_, rfl⟩
      have Bc := Lib.hid (show Below v2.heap.size v2 wc by rw [hwc]; exact (Below.refl _ _).drew)
      refine wp_region_held_drew (S := (fun W => (W.cell? ⟨p, 0, none⟩ = some (.int .i64 N) ∧ W.cell? ⟨p, 1, none⟩ = some (.slice mo l.length mc)))) (by kernel_rfl) (by rw [← hwc]; exact KS.out _ Bc.out) (fun h0 => ?_)
      rw [← hwc] at h0 ⊢
      clear hwc
      refine wpAnyH_take (i := 0) (v := ?v8) rfl (by kernel_rfl) (by kernel_rfl) (by kernel_rfl) (fun _ _ _ h => h) (Or.inl ⟨by rfl, ?hy8⟩) h0 ?rest8
      case hy8 => (intro w' hS; (try dsimp only at hS); go_simp; try (with_reducible rfl))
      simp only [Act.put, List.getElem_toArray, List.getElem_cons_zero, List.setIfInBounds_toArray, List.set_cons_zero, List.set_cons_succ]
      refine wpAnyH_take (i := 2) (v := ?v9) rfl (by kernel_rfl) (by kernel_rfl) (by kernel_rfl) (fun _ _ _ h => h) (Or.inl ⟨by rfl, ?hy9⟩) h0 ?rest9
      case hy9 => (intro w' hS; (try dsimp only at hS); go_simp; try (with_reducible rfl))
      simp only [Act.put, List.getElem_toArray, List.getElem_cons_zero, List.getElem_cons_succ, List.setIfInBounds_toArray, List.set_cons_zero, List.set_cons_succ]
      refine wpAnyH_take (i := 5) (v := ?v10) rfl (by kernel_rfl) (by kernel_rfl) (by kernel_rfl) (fun _ _ _ h => h) (Or.inl ⟨by rfl, ?hy10⟩) h0 ?rest10
      case hy10 => (intro w' hS; (try dsimp only at hS); go_simp; try (with_reducible rfl))
      simp only [Act.put, List.getElem_toArray, List.getElem_cons_zero, List.getElem_cons_succ, List.setIfInBounds_toArray, List.set_cons_zero, List.set_cons_succ]
      refine wpAnyH_ready (rs := [1, 4, 11]) (by kernel_rfl) (by simp) (AllReadyH.cons rfl (fun K hK => ?_) (AllReadyH.cons rfl (fun K hK => ?_) (AllReadyH.cons rfl (fun K hK => ?_) AllReadyH.nil)))
      · rw [if_pos (by rfl)]
        go_simp
        obtain ⟨bx, hbb⟩ : ∃ b, b = wc.heap.size := ⟨_, rfl⟩
        try (have Nzx := Lib.hid (show bz ≠ bx by have h := Iz.out; omega))
        try (have Ntx := Lib.hid (show bt ≠ bx by have h := It.out; omega))
        try (have Mrx := Lib.hid (fun (d : Addr) (e : aor = some d) => show d.block ≠ bx by have h := Dr.out d e; omega))
        try (have Mqx := Lib.hid (fun (d : Addr) (e : aoq = some d) => show d.block ≠ bx by have h := Dq.out d e; omega))
        try (have Mkx := Lib.hid (fun (d : Addr) (e : aok = some d) => show d.block ≠ bx by have h := Dk.out d e; omega))
        have hb := one_more (w1 := wc) (.cells #[] 2)
        have hX := Emp.made wc v2.heap.size 2 Bc.out.size
        have hI : v2.heap.size ≤ bx ∧ bx < (wc.alloc (.cells #[] 2)).heap.size := by rw [hbb]; exact ⟨Bc.out.size, by simp⟩
        rw [← hbb] at hX
        obtain ⟨wc, hwc⟩ : ∃ wn, wn = wc.alloc (.cells #[] 2) := ⟨_, rfl⟩
        rw [← hwc] at hb hX hI ⊢
        try rw [← hbb]
        try (have Xz := Lib.hid (Xz.out.on hb))
        try (have Iz := Lib.hid (And.intro Iz.out.1 (Nat.lt_of_lt_of_le Iz.out.2 hb.size)))
        try (have Sr := Lib.hid (Sr.out.on hb))
        try (have Dr := Lib.hid (fun d e => And.intro (Dr.out d e).1 (Nat.lt_of_lt_of_le (Dr.out d e).2 hb.size)))
        try (have Sq := Lib.hid (Sq.out.on hb))
        try (have Dq := Lib.hid (fun d e => And.intro (Dq.out d e).1 (Nat.lt_of_lt_of_le (Dq.out d e).2 hb.size)))
        try (have Wt := Lib.hid (Wt.out.kept hb))
        try (have It := Lib.hid (And.intro It.out.1 (Nat.lt_of_lt_of_le It.out.2 hb.size)))
        try (have Ak := Lib.hid (Ak.out.on hb))
        try (have Dk := Lib.hid (fun d e => And.intro (Dk.out d e).1 (Nat.lt_of_lt_of_le (Dk.out d e).2 hb.size)))
        have Bc := Lib.hid (below_on Bc.out hb)
        have Xx := Lib.hid hX
        have Ix := Lib.hid hI
        clear hb hX hI hwc hbb
        go_simp
        refine hK.out _ _ (KS.out _ Bc.out) (fun h0_1 => ?_)
        clear hK K h0
        refine wpAnyH_ready (rs := [3, 4, 11]) (by kernel_rfl) (by simp) (AllReadyH.cons rfl (fun K hK => ?_) (AllReadyH.cons rfl (fun K hK => ?_) (AllReadyH.cons rfl (fun K hK => ?_) AllReadyH.nil)))
        · rw [if_pos (by rfl)]
          obtain ⟨aor, cr, wc, hrun, hS, hD, hg⟩ := run_app (t := 25) (ty := 25) (e := 2) Try.underlying25 hj hy0 hy1 hy2 Xx.out (HLW.out _ Bc.out) (by omega)
          refine Lib.wp_append_run _ (.tmp 31) (.tmp 32) 25 25 rfl (.slice (some ⟨bx, 0, none⟩) 0 0) (.slice lo low.length lc) (by simp [Act.eval]) (by simp [Act.eval]) _ _ hrun ?_
          have hz := hg.size
          try (have Mrz := Lib.hid (fun (d : Addr) (e : aor = some d) => show d.block ≠ bz by have h1 := (hD d e).1; have h2 := Iz.out; first | (have h3 := Nxz.out; omega) | (have h3 := Nzx.out; omega)))
          try (have Mrt := Lib.hid (fun (d : Addr) (e : aor = some d) => show d.block ≠ bt by have h1 := (hD d e).1; have h2 := It.out; first | (have h3 := Nxt.out; omega) | (have h3 := Ntx.out; omega)))
          try (have Xz := Lib.hid (Xz.out.grown hg (by first | exact Nzx.out | exact Ne.symm Nxz.out)))
          try (have Iz := Lib.hid (And.intro Iz.out.1 (Nat.lt_of_lt_of_le Iz.out.2 hz)))
          try (have Sq := Lib.hid (Sq.out.grown hg Mqx.out))
          try (have Dq := Lib.hid (fun d e => And.intro (Dq.out d e).1 (Nat.lt_of_lt_of_le (Dq.out d e).2 hz)))
          try (have Wt := Lib.hid (Wt.out.grown hg (by first | exact Ntx.out | exact Ne.symm Nxt.out)))
          try (have It := Lib.hid (And.intro It.out.1 (Nat.lt_of_lt_of_le It.out.2 hz)))
          have Sr := Lib.hid hS
          have Dr := Lib.hid (fun (d : Addr) (e : aor = some d) => show v2.heap.size ≤ d.block ∧ d.block < wc.heap.size by have h1 := hD d e; have h2 := Ix.out; have h3 := Bc.out.size; omega)
          have Bc := Lib.hid (below_app Bc.out hg Ix.out.1)
          clear hrun hS hD hg hz
          clear Xx
          try simp only [Act.put, List.getElem_toArray, List.getElem_cons_zero, List.getElem_cons_succ, List.setIfInBounds_toArray, List.set_cons_zero, List.set_cons_succ]
          refine hK.out _ _ (KS.out _ Bc.out) (fun h0_2 => ?_)
          clear hK K h0_1
          refine wpAnyH_ready (rs := [4, 11]) (by kernel_rfl) (by simp) (AllReadyH.cons rfl (fun K hK => ?_) (AllReadyH.cons rfl (fun K hK => ?_) AllReadyH.nil))
          · rw [if_pos (by rfl)]
            go_simp
            obtain ⟨bz, hbb⟩ : ∃ b, b = wc.heap.size := ⟨_, rfl⟩
            try (have Nxz := Lib.hid (show bx ≠ bz by have h := Ix.out; omega))
            try (have Ntz := Lib.hid (show bt ≠ bz by have h := It.out; omega))
            try (have Mrz := Lib.hid (fun (d : Addr) (e : aor = some d) => show d.block ≠ bz by have h := Dr.out d e; omega))
            try (have Mqz := Lib.hid (fun (d : Addr) (e : aoq = some d) => show d.block ≠ bz by have h := Dq.out d e; omega))
            try (have Mkz := Lib.hid (fun (d : Addr) (e : aok = some d) => show d.block ≠ bz by have h := Dk.out d e; omega))
            have hb := one_more (w1 := wc) (.cells #[] 2)
            have hX := Emp.made wc v2.heap.size 2 Bc.out.size
            have hI : v2.heap.size ≤ bz ∧ bz < (wc.alloc (.cells #[] 2)).heap.size := by rw [hbb]; exact ⟨Bc.out.size, by simp⟩
            rw [← hbb] at hX
            obtain ⟨wc, hwc⟩ : ∃ wn, wn = wc.alloc (.cells #[] 2) := ⟨_, rfl⟩
            rw [← hwc] at hb hX hI ⊢
            try rw [← hbb]
            try (have Xx := Lib.hid (Xx.out.on hb))
            try (have Ix := Lib.hid (And.intro Ix.out.1 (Nat.lt_of_lt_of_le Ix.out.2 hb.size)))
            try (have Sr := Lib.hid (Sr.out.on hb))
            try (have Dr := Lib.hid (fun d e => And.intro (Dr.out d e).1 (Nat.lt_of_lt_of_le (Dr.out d e).2 hb.size)))
            try (have Sq := Lib.hid (Sq.out.on hb))
            try (have Dq := Lib.hid (fun d e => And.intro (Dq.out d e).1 (Nat.lt_of_lt_of_le (Dq.out d e).2 hb.size)))
            try (have Wt := Lib.hid (Wt.out.kept hb))
            try (have It := Lib.hid (And.intro It.out.1 (Nat.lt_of_lt_of_le It.out.2 hb.size)))
            try (have Ak := Lib.hid (Ak.out.on hb))
            try (have Dk := Lib.hid (fun d e => And.intro (Dk.out d e).1 (Nat.lt_of_lt_of_le (Dk.out d e).2 hb.size)))
            have Bc := Lib.hid (below_on Bc.out hb)
            have Xz := Lib.hid hX
            have Iz := Lib.hid hI
            clear hb hX hI hwc hbb
            go_simp
            refine hK.out _ _ (KS.out _ Bc.out) (fun h0_3 => ?_)
            clear hK K h0_2
            refine wpAnyH_ready (rs := [6, 11]) (by kernel_rfl) (by simp) (AllReadyH.cons rfl (fun K hK => ?_) (AllReadyH.cons rfl (fun K hK => ?_) AllReadyH.nil))
            · rw [if_pos (by rfl)]
              obtain ⟨aoq, cq, wc, hrun, hS, hD, hg⟩ := run_app (t := 25) (ty := 25) (e := 2) Try.underlying25 hj hy0 hy1 hy2 Xz.out (HHW.out _ Bc.out) (by omega)
              refine Lib.wp_append_run _ (.tmp 34) (.tmp 35) 25 25 rfl (.slice (some ⟨bz, 0, none⟩) 0 0) (.slice ho high.length hc) (by simp [Act.eval]) (by simp [Act.eval]) _ _ hrun ?_
              have hz := hg.size
              try (have Mqx := Lib.hid (fun (d : Addr) (e : aoq = some d) => show d.block ≠ bx by have h1 := (hD d e).1; have h2 := Ix.out; first | (have h3 := Nzx.out; omega) | (have h3 := Nxz.out; omega)))
              try (have Mqt := Lib.hid (fun (d : Addr) (e : aoq = some d) => show d.block ≠ bt by have h1 := (hD d e).1; have h2 := It.out; first | (have h3 := Nzt.out; omega) | (have h3 := Ntz.out; omega)))
              try (have Xx := Lib.hid (Xx.out.grown hg (by first | exact Nxz.out | exact Ne.symm Nzx.out)))
              try (have Ix := Lib.hid (And.intro Ix.out.1 (Nat.lt_of_lt_of_le Ix.out.2 hz)))
              try (have Sr := Lib.hid (Sr.out.grown hg Mrz.out))
              try (have Dr := Lib.hid (fun d e => And.intro (Dr.out d e).1 (Nat.lt_of_lt_of_le (Dr.out d e).2 hz)))
              try (have Wt := Lib.hid (Wt.out.grown hg (by first | exact Ntz.out | exact Ne.symm Nzt.out)))
              try (have It := Lib.hid (And.intro It.out.1 (Nat.lt_of_lt_of_le It.out.2 hz)))
              have Sq := Lib.hid hS
              have Dq := Lib.hid (fun (d : Addr) (e : aoq = some d) => show v2.heap.size ≤ d.block ∧ d.block < wc.heap.size by have h1 := hD d e; have h2 := Iz.out; have h3 := Bc.out.size; omega)
              have Bc := Lib.hid (below_app Bc.out hg Iz.out.1)
              clear hrun hS hD hg hz
              clear Xz
              try simp only [Act.put, List.getElem_toArray, List.getElem_cons_zero, List.getElem_cons_succ, List.setIfInBounds_toArray, List.set_cons_zero, List.set_cons_succ]
              refine hK.out _ _ (KS.out _ Bc.out) (fun h0_4 => ?_)
              clear hK K h0_3
              refine wpAnyH_ready (rs := [7, 11]) (by kernel_rfl) (by simp) (AllReadyH.cons rfl (fun K hK => ?_) (AllReadyH.cons rfl (fun K hK => ?_) AllReadyH.nil))
              · rw [if_pos (by rfl)]
                go_simp
                refine (BO.out _ _ _ _ _ _ _ (OSW.out _ Bc.out) Sr.out Sq.out).mono ?_
                rintro e wc ⟨aok, ck, rfl, hA, hm, hD, hn, hb⟩
                try (have Mkt := Lib.hid (fun (d : Addr) (e : aok = some d) => show d.block ≠ bt by have h1 := (hD d e).1; have h2 := It.out; omega))
                try (have Xx := Lib.hid (Xx.out.on hb))
                try (have Ix := Lib.hid (And.intro Ix.out.1 (Nat.lt_of_lt_of_le Ix.out.2 hb.size)))
                try (have Xz := Lib.hid (Xz.out.on hb))
                try (have Iz := Lib.hid (And.intro Iz.out.1 (Nat.lt_of_lt_of_le Iz.out.2 hb.size)))
                try (have Sr := Lib.hid (Sr.out.on hb))
                try (have Dr := Lib.hid (fun d e => And.intro (Dr.out d e).1 (Nat.lt_of_lt_of_le (Dr.out d e).2 hb.size)))
                try (have Sq := Lib.hid (Sq.out.on hb))
                try (have Dq := Lib.hid (fun d e => And.intro (Dq.out d e).1 (Nat.lt_of_lt_of_le (Dq.out d e).2 hb.size)))
                try (have Wt := Lib.hid (Wt.out.kept hb))
                try (have It := Lib.hid (And.intro It.out.1 (Nat.lt_of_lt_of_le It.out.2 hb.size)))
                have Ak := Lib.hid hA
                have Lk := Lib.hid hm
                have Qk := Lib.hid hn
                have Dk := Lib.hid (fun (d : Addr) (e : aok = some d) => show v2.heap.size ≤ d.block ∧ d.block < wc.heap.size by have h1 := hD d e; have h3 := Bc.out.size; omega)
                have Bc := Lib.hid (below_on Bc.out hb)
                clear hA hm hD hn hb
                go_simp
                refine hK.out _ _ (KS.out _ Bc.out) (fun h0_5 => ?_)
                clear hK K h0_4
                refine wpAnyH_take (i := 8) (v := ?v11) rfl (by kernel_rfl) (by kernel_rfl) (by kernel_rfl) (fun _ _ _ h => h) (Or.inl ⟨by rfl, ?hy11⟩) h0_5 ?rest11
                case hy11 => (intro w' hS; (try dsimp only at hS); go_simp; try (with_reducible rfl))
                simp only [Act.put, List.getElem_toArray, List.getElem_cons_zero, List.getElem_cons_succ, List.setIfInBounds_toArray, List.set_cons_zero, List.set_cons_succ]
                refine wpAnyH_take (i := 9) (v := ?v12) rfl (by kernel_rfl) (by kernel_rfl) (by kernel_rfl) (fun _ _ _ h => h) (Or.inl ⟨by rfl, ?hy12⟩) h0_5 ?rest12
                case hy12 => (intro w' hS; (try dsimp only at hS); go_simp; try (with_reducible rfl))
                simp only [Act.put, List.getElem_toArray, List.getElem_cons_zero, List.getElem_cons_succ, List.setIfInBounds_toArray, List.set_cons_zero, List.set_cons_succ]
                refine wpAnyH_take (i := 10) (v := ?v13) rfl (by kernel_rfl) (by kernel_rfl) (by kernel_rfl) (fun _ _ _ h => h) (Or.inl ⟨by rfl, ?hy13⟩) h0_5 ?rest13
                case hy13 => (intro w' hS; (try dsimp only at hS); go_simp; try (with_reducible rfl))
                simp only [Act.put, List.getElem_toArray, List.getElem_cons_zero, List.getElem_cons_succ, List.setIfInBounds_toArray, List.set_cons_zero, List.set_cons_succ]
                refine wpAnyH_ready (rs := [11]) (by kernel_rfl) (by simp) (AllReadyH.cons rfl (fun K hK => ?_) AllReadyH.nil)
                rw [if_pos (by rfl)]
                go_simp
                obtain ⟨bt, hbb⟩ : ∃ b, b = wc.heap.size := ⟨_, rfl⟩
                try (have Nxt := Lib.hid (show bx ≠ bt by have h := Ix.out; omega))
                try (have Nzt := Lib.hid (show bz ≠ bt by have h := Iz.out; omega))
                try (have Mrt := Lib.hid (fun (d : Addr) (e : aor = some d) => show d.block ≠ bt by have h := Dr.out d e; omega))
                try (have Mqt := Lib.hid (fun (d : Addr) (e : aoq = some d) => show d.block ≠ bt by have h := Dq.out d e; omega))
                try (have Mkt := Lib.hid (fun (d : Addr) (e : aok = some d) => show d.block ≠ bt by have h := Dk.out d e; omega))
                have hb := one_more (w1 := wc) (.cells #[.int .i64 0, .slice none 0 0] 24)
                have hX := Two.made wc (.int .i64 0) (.slice none 0 0) 24
                have hI : v2.heap.size ≤ bt ∧ bt < (wc.alloc (.cells #[.int .i64 0, .slice none 0 0] 24)).heap.size := by rw [hbb]; exact ⟨Bc.out.size, by simp⟩
                rw [← hbb] at hX
                obtain ⟨wc, hwc⟩ : ∃ wn, wn = wc.alloc (.cells #[.int .i64 0, .slice none 0 0] 24) := ⟨_, rfl⟩
                rw [← hwc] at hb hX hI ⊢
                try rw [← hbb]
                try (have Xx := Lib.hid (Xx.out.on hb))
                try (have Ix := Lib.hid (And.intro Ix.out.1 (Nat.lt_of_lt_of_le Ix.out.2 hb.size)))
                try (have Xz := Lib.hid (Xz.out.on hb))
                try (have Iz := Lib.hid (And.intro Iz.out.1 (Nat.lt_of_lt_of_le Iz.out.2 hb.size)))
                try (have Sr := Lib.hid (Sr.out.on hb))
                try (have Dr := Lib.hid (fun d e => And.intro (Dr.out d e).1 (Nat.lt_of_lt_of_le (Dr.out d e).2 hb.size)))
                try (have Sq := Lib.hid (Sq.out.on hb))
                try (have Dq := Lib.hid (fun d e => And.intro (Dq.out d e).1 (Nat.lt_of_lt_of_le (Dq.out d e).2 hb.size)))
                try (have Ak := Lib.hid (Ak.out.on hb))
                try (have Dk := Lib.hid (fun d e => And.intro (Dk.out d e).1 (Nat.lt_of_lt_of_le (Dk.out d e).2 hb.size)))
                have Bc := Lib.hid (below_on Bc.out hb)
                have Wt := Lib.hid hX
                have It := Lib.hid hI
                clear hb hX hI hwc hbb
                go_simp
                refine hK.out _ _ (KS.out _ Bc.out) (fun h0_6 => ?_)
                clear hK K h0_5
                refine wpAnyH_ready (rs := [12]) (by kernel_rfl) (by simp) (AllReadyH.cons rfl (fun K hK => ?_) AllReadyH.nil)
                rw [if_pos (by rfl)]
                obtain ⟨q0, q1, q2, q3⟩ := Wt.out.facts
                go_simp
                have hW := Wt.out.put (.int .i64 M1) (.slice aok m1.length ck)
                have hA := arg_far' Ak.out Mkt.out (.int .i64 M1) (.slice aok m1.length ck)
                have hB := far_below Bc.out It.out.1 (.int .i64 M1) (.slice aok m1.length ck)
                obtain ⟨wc, hwc⟩ : ∃ wn, wn = (wc.setCell ⟨bt, 0, none⟩ (.int .i64 M1)).setCell ⟨bt, 1, none⟩ (.slice aok m1.length ck) := ⟨_, rfl⟩
                rw [← hwc] at hW hA hB ⊢
                have Wt := Lib.hid hW
                have Ak := Lib.hid hA
                have Bc := Lib.hid hB
                clear hW hA hB hwc q0 q1 q2 q3
                refine hK.out _ _ (KS.out _ Bc.out) (fun h0_7 => ?_)
                clear hK K h0_6
                refine wpAnyH_take (i := 13) (v := ?v14) rfl (by kernel_rfl) (by kernel_rfl) (by kernel_rfl) (fun _ _ _ h => h) (Or.inl ⟨by rfl, ?hy14⟩) h0_7 ?rest14
                case hy14 => (intro w' hS; (try dsimp only at hS); go_simp; try (with_reducible rfl))
                simp only [Act.put, List.getElem_toArray, List.getElem_cons_zero, List.getElem_cons_succ, List.setIfInBounds_toArray, List.set_cons_zero, List.set_cons_succ]
                refine wpAnyH_done (by kernel_rfl) ?_ _
                go_wp2_with fail
                go_meet
                case rel => exact ⟨bt, aok, ck, rfl, rfl, Lib.hid ⟨Wt.out, Ak.out, Lk.out, Bc.out⟩⟩
              · rw [if_pos (by rfl)]
                go_simp
                obtain ⟨bt, hbb⟩ : ∃ b, b = wc.heap.size := ⟨_, rfl⟩
                try (have Nxt := Lib.hid (show bx ≠ bt by have h := Ix.out; omega))
                try (have Nzt := Lib.hid (show bz ≠ bt by have h := Iz.out; omega))
                try (have Mrt := Lib.hid (fun (d : Addr) (e : aor = some d) => show d.block ≠ bt by have h := Dr.out d e; omega))
                try (have Mqt := Lib.hid (fun (d : Addr) (e : aoq = some d) => show d.block ≠ bt by have h := Dq.out d e; omega))
                try (have Mkt := Lib.hid (fun (d : Addr) (e : aok = some d) => show d.block ≠ bt by have h := Dk.out d e; omega))
                have hb := one_more (w1 := wc) (.cells #[.int .i64 0, .slice none 0 0] 24)
                have hX := Two.made wc (.int .i64 0) (.slice none 0 0) 24
                have hI : v2.heap.size ≤ bt ∧ bt < (wc.alloc (.cells #[.int .i64 0, .slice none 0 0] 24)).heap.size := by rw [hbb]; exact ⟨Bc.out.size, by simp⟩
                rw [← hbb] at hX
                obtain ⟨wc, hwc⟩ : ∃ wn, wn = wc.alloc (.cells #[.int .i64 0, .slice none 0 0] 24) := ⟨_, rfl⟩
                rw [← hwc] at hb hX hI ⊢
                try rw [← hbb]
                try (have Xx := Lib.hid (Xx.out.on hb))
                try (have Ix := Lib.hid (And.intro Ix.out.1 (Nat.lt_of_lt_of_le Ix.out.2 hb.size)))
                try (have Xz := Lib.hid (Xz.out.on hb))
                try (have Iz := Lib.hid (And.intro Iz.out.1 (Nat.lt_of_lt_of_le Iz.out.2 hb.size)))
                try (have Sr := Lib.hid (Sr.out.on hb))
                try (have Dr := Lib.hid (fun d e => And.intro (Dr.out d e).1 (Nat.lt_of_lt_of_le (Dr.out d e).2 hb.size)))
                try (have Sq := Lib.hid (Sq.out.on hb))
                try (have Dq := Lib.hid (fun d e => And.intro (Dq.out d e).1 (Nat.lt_of_lt_of_le (Dq.out d e).2 hb.size)))
                try (have Ak := Lib.hid (Ak.out.on hb))
                try (have Dk := Lib.hid (fun d e => And.intro (Dk.out d e).1 (Nat.lt_of_lt_of_le (Dk.out d e).2 hb.size)))
                have Bc := Lib.hid (below_on Bc.out hb)
                have Wt := Lib.hid hX
                have It := Lib.hid hI
                clear hb hX hI hwc hbb
                go_simp
                refine hK.out _ _ (KS.out _ Bc.out) (fun h0_5 => ?_)
                clear hK K h0_4
                refine wpAnyH_ready (rs := [7]) (by kernel_rfl) (by simp) (AllReadyH.cons rfl (fun K hK => ?_) AllReadyH.nil)
                rw [if_pos (by rfl)]
                go_simp
                refine (BO.out _ _ _ _ _ _ _ (OSW.out _ Bc.out) Sr.out Sq.out).mono ?_
                rintro e wc ⟨aok, ck, rfl, hA, hm, hD, hn, hb⟩
                try (have Mkt := Lib.hid (fun (d : Addr) (e : aok = some d) => show d.block ≠ bt by have h1 := (hD d e).1; have h2 := It.out; omega))
                try (have Xx := Lib.hid (Xx.out.on hb))
                try (have Ix := Lib.hid (And.intro Ix.out.1 (Nat.lt_of_lt_of_le Ix.out.2 hb.size)))
                try (have Xz := Lib.hid (Xz.out.on hb))
                try (have Iz := Lib.hid (And.intro Iz.out.1 (Nat.lt_of_lt_of_le Iz.out.2 hb.size)))
                try (have Sr := Lib.hid (Sr.out.on hb))
                try (have Dr := Lib.hid (fun d e => And.intro (Dr.out d e).1 (Nat.lt_of_lt_of_le (Dr.out d e).2 hb.size)))
                try (have Sq := Lib.hid (Sq.out.on hb))
                try (have Dq := Lib.hid (fun d e => And.intro (Dq.out d e).1 (Nat.lt_of_lt_of_le (Dq.out d e).2 hb.size)))
                try (have Wt := Lib.hid (Wt.out.kept hb))
                try (have It := Lib.hid (And.intro It.out.1 (Nat.lt_of_lt_of_le It.out.2 hb.size)))
                have Ak := Lib.hid hA
                have Lk := Lib.hid hm
                have Qk := Lib.hid hn
                have Dk := Lib.hid (fun (d : Addr) (e : aok = some d) => show v2.heap.size ≤ d.block ∧ d.block < wc.heap.size by have h1 := hD d e; have h3 := Bc.out.size; omega)
                have Bc := Lib.hid (below_on Bc.out hb)
                clear hA hm hD hn hb
                go_simp
                refine hK.out _ _ (KS.out _ Bc.out) (fun h0_8 => ?_)
                clear hK K h0_5
                refine wpAnyH_take (i := 8) (v := ?v15) rfl (by kernel_rfl) (by kernel_rfl) (by kernel_rfl) (fun _ _ _ h => h) (Or.inl ⟨by rfl, ?hy15⟩) h0_8 ?rest15
                case hy15 => (intro w' hS; (try dsimp only at hS); go_simp; try (with_reducible rfl))
                simp only [Act.put, List.getElem_toArray, List.getElem_cons_zero, List.getElem_cons_succ, List.setIfInBounds_toArray, List.set_cons_zero, List.set_cons_succ]
                refine wpAnyH_take (i := 9) (v := ?v16) rfl (by kernel_rfl) (by kernel_rfl) (by kernel_rfl) (fun _ _ _ h => h) (Or.inl ⟨by rfl, ?hy16⟩) h0_8 ?rest16
                case hy16 => (intro w' hS; (try dsimp only at hS); go_simp; try (with_reducible rfl))
                simp only [Act.put, List.getElem_toArray, List.getElem_cons_zero, List.getElem_cons_succ, List.setIfInBounds_toArray, List.set_cons_zero, List.set_cons_succ]
                refine wpAnyH_take (i := 10) (v := ?v17) rfl (by kernel_rfl) (by kernel_rfl) (by kernel_rfl) (fun _ _ _ h => h) (Or.inl ⟨by rfl, ?hy17⟩) h0_8 ?rest17
                case hy17 => (intro w' hS; (try dsimp only at hS); go_simp; try (with_reducible rfl))
                simp only [Act.put, List.getElem_toArray, List.getElem_cons_zero, List.getElem_cons_succ, List.setIfInBounds_toArray, List.set_cons_zero, List.set_cons_succ]
                refine wpAnyH_ready (rs := [12]) (by kernel_rfl) (by simp) (AllReadyH.cons rfl (fun K hK => ?_) AllReadyH.nil)
                rw [if_pos (by rfl)]
                obtain ⟨q0, q1, q2, q3⟩ := Wt.out.facts
                go_simp
                have hW := Wt.out.put (.int .i64 M1) (.slice aok m1.length ck)
                have hA := arg_far' Ak.out Mkt.out (.int .i64 M1) (.slice aok m1.length ck)
                have hB := far_below Bc.out It.out.1 (.int .i64 M1) (.slice aok m1.length ck)
                obtain ⟨wc, hwc⟩ : ∃ wn, wn = (wc.setCell ⟨bt, 0, none⟩ (.int .i64 M1)).setCell ⟨bt, 1, none⟩ (.slice aok m1.length ck) := ⟨_, rfl⟩
                rw [← hwc] at hW hA hB ⊢
                have Wt := Lib.hid hW
                have Ak := Lib.hid hA
                have Bc := Lib.hid hB
                clear hW hA hB hwc q0 q1 q2 q3
                refine hK.out _ _ (KS.out _ Bc.out) (fun h0_9 => ?_)
                clear hK K h0_8
                refine wpAnyH_take (i := 13) (v := ?v18) rfl (by kernel_rfl) (by kernel_rfl) (by kernel_rfl) (fun _ _ _ h => h) (Or.inl ⟨by rfl, ?hy18⟩) h0_9 ?rest18
                case hy18 => (intro w' hS; (try dsimp only at hS); go_simp; try (with_reducible rfl))
                simp only [Act.put, List.getElem_toArray, List.getElem_cons_zero, List.getElem_cons_succ, List.setIfInBounds_toArray, List.set_cons_zero, List.set_cons_succ]
                refine wpAnyH_done (by kernel_rfl) ?_ _
                go_wp2_with fail
                go_meet
                case rel => exact ⟨bt, aok, ck, rfl, rfl, Lib.hid ⟨Wt.out, Ak.out, Lk.out, Bc.out⟩⟩
            · rw [if_pos (by rfl)]
              go_simp
              obtain ⟨bt, hbb⟩ : ∃ b, b = wc.heap.size := ⟨_, rfl⟩
              try (have Nxt := Lib.hid (show bx ≠ bt by have h := Ix.out; omega))
              try (have Nzt := Lib.hid (show bz ≠ bt by have h := Iz.out; omega))
              try (have Mrt := Lib.hid (fun (d : Addr) (e : aor = some d) => show d.block ≠ bt by have h := Dr.out d e; omega))
              try (have Mqt := Lib.hid (fun (d : Addr) (e : aoq = some d) => show d.block ≠ bt by have h := Dq.out d e; omega))
              try (have Mkt := Lib.hid (fun (d : Addr) (e : aok = some d) => show d.block ≠ bt by have h := Dk.out d e; omega))
              have hb := one_more (w1 := wc) (.cells #[.int .i64 0, .slice none 0 0] 24)
              have hX := Two.made wc (.int .i64 0) (.slice none 0 0) 24
              have hI : v2.heap.size ≤ bt ∧ bt < (wc.alloc (.cells #[.int .i64 0, .slice none 0 0] 24)).heap.size := by rw [hbb]; exact ⟨Bc.out.size, by simp⟩
              rw [← hbb] at hX
              obtain ⟨wc, hwc⟩ : ∃ wn, wn = wc.alloc (.cells #[.int .i64 0, .slice none 0 0] 24) := ⟨_, rfl⟩
              rw [← hwc] at hb hX hI ⊢
              try rw [← hbb]
              try (have Xx := Lib.hid (Xx.out.on hb))
              try (have Ix := Lib.hid (And.intro Ix.out.1 (Nat.lt_of_lt_of_le Ix.out.2 hb.size)))
              try (have Xz := Lib.hid (Xz.out.on hb))
              try (have Iz := Lib.hid (And.intro Iz.out.1 (Nat.lt_of_lt_of_le Iz.out.2 hb.size)))
              try (have Sr := Lib.hid (Sr.out.on hb))
              try (have Dr := Lib.hid (fun d e => And.intro (Dr.out d e).1 (Nat.lt_of_lt_of_le (Dr.out d e).2 hb.size)))
              try (have Sq := Lib.hid (Sq.out.on hb))
              try (have Dq := Lib.hid (fun d e => And.intro (Dq.out d e).1 (Nat.lt_of_lt_of_le (Dq.out d e).2 hb.size)))
              try (have Ak := Lib.hid (Ak.out.on hb))
              try (have Dk := Lib.hid (fun d e => And.intro (Dk.out d e).1 (Nat.lt_of_lt_of_le (Dk.out d e).2 hb.size)))
              have Bc := Lib.hid (below_on Bc.out hb)
              have Wt := Lib.hid hX
              have It := Lib.hid hI
              clear hb hX hI hwc hbb
              go_simp
              refine hK.out _ _ (KS.out _ Bc.out) (fun h0_4 => ?_)
              clear hK K h0_3
              refine wpAnyH_ready (rs := [6]) (by kernel_rfl) (by simp) (AllReadyH.cons rfl (fun K hK => ?_) AllReadyH.nil)
              rw [if_pos (by rfl)]
              obtain ⟨aoq, cq, wc, hrun, hS, hD, hg⟩ := run_app (t := 25) (ty := 25) (e := 2) Try.underlying25 hj hy0 hy1 hy2 Xz.out (HHW.out _ Bc.out) (by omega)
              refine Lib.wp_append_run _ (.tmp 34) (.tmp 35) 25 25 rfl (.slice (some ⟨bz, 0, none⟩) 0 0) (.slice ho high.length hc) (by simp [Act.eval]) (by simp [Act.eval]) _ _ hrun ?_
              have hz := hg.size
              try (have Mqx := Lib.hid (fun (d : Addr) (e : aoq = some d) => show d.block ≠ bx by have h1 := (hD d e).1; have h2 := Ix.out; first | (have h3 := Nzx.out; omega) | (have h3 := Nxz.out; omega)))
              try (have Mqt := Lib.hid (fun (d : Addr) (e : aoq = some d) => show d.block ≠ bt by have h1 := (hD d e).1; have h2 := It.out; first | (have h3 := Nzt.out; omega) | (have h3 := Ntz.out; omega)))
              try (have Xx := Lib.hid (Xx.out.grown hg (by first | exact Nxz.out | exact Ne.symm Nzx.out)))
              try (have Ix := Lib.hid (And.intro Ix.out.1 (Nat.lt_of_lt_of_le Ix.out.2 hz)))
              try (have Sr := Lib.hid (Sr.out.grown hg Mrz.out))
              try (have Dr := Lib.hid (fun d e => And.intro (Dr.out d e).1 (Nat.lt_of_lt_of_le (Dr.out d e).2 hz)))
              try (have Wt := Lib.hid (Wt.out.grown hg (by first | exact Ntz.out | exact Ne.symm Nzt.out)))
              try (have It := Lib.hid (And.intro It.out.1 (Nat.lt_of_lt_of_le It.out.2 hz)))
              have Sq := Lib.hid hS
              have Dq := Lib.hid (fun (d : Addr) (e : aoq = some d) => show v2.heap.size ≤ d.block ∧ d.block < wc.heap.size by have h1 := hD d e; have h2 := Iz.out; have h3 := Bc.out.size; omega)
              have Bc := Lib.hid (below_app Bc.out hg Iz.out.1)
              clear hrun hS hD hg hz
              clear Xz
              try simp only [Act.put, List.getElem_toArray, List.getElem_cons_zero, List.getElem_cons_succ, List.setIfInBounds_toArray, List.set_cons_zero, List.set_cons_succ]
              refine hK.out _ _ (KS.out _ Bc.out) (fun h0_10 => ?_)
              clear hK K h0_4
              refine wpAnyH_ready (rs := [7]) (by kernel_rfl) (by simp) (AllReadyH.cons rfl (fun K hK => ?_) AllReadyH.nil)
              rw [if_pos (by rfl)]
              go_simp
              refine (BO.out _ _ _ _ _ _ _ (OSW.out _ Bc.out) Sr.out Sq.out).mono ?_
              rintro e wc ⟨aok, ck, rfl, hA, hm, hD, hn, hb⟩
              try (have Mkt := Lib.hid (fun (d : Addr) (e : aok = some d) => show d.block ≠ bt by have h1 := (hD d e).1; have h2 := It.out; omega))
              try (have Xx := Lib.hid (Xx.out.on hb))
              try (have Ix := Lib.hid (And.intro Ix.out.1 (Nat.lt_of_lt_of_le Ix.out.2 hb.size)))
              try (have Xz := Lib.hid (Xz.out.on hb))
              try (have Iz := Lib.hid (And.intro Iz.out.1 (Nat.lt_of_lt_of_le Iz.out.2 hb.size)))
              try (have Sr := Lib.hid (Sr.out.on hb))
              try (have Dr := Lib.hid (fun d e => And.intro (Dr.out d e).1 (Nat.lt_of_lt_of_le (Dr.out d e).2 hb.size)))
              try (have Sq := Lib.hid (Sq.out.on hb))
              try (have Dq := Lib.hid (fun d e => And.intro (Dq.out d e).1 (Nat.lt_of_lt_of_le (Dq.out d e).2 hb.size)))
              try (have Wt := Lib.hid (Wt.out.kept hb))
              try (have It := Lib.hid (And.intro It.out.1 (Nat.lt_of_lt_of_le It.out.2 hb.size)))
              have Ak := Lib.hid hA
              have Lk := Lib.hid hm
              have Qk := Lib.hid hn
              have Dk := Lib.hid (fun (d : Addr) (e : aok = some d) => show v2.heap.size ≤ d.block ∧ d.block < wc.heap.size by have h1 := hD d e; have h3 := Bc.out.size; omega)
              have Bc := Lib.hid (below_on Bc.out hb)
              clear hA hm hD hn hb
              go_simp
              refine hK.out _ _ (KS.out _ Bc.out) (fun h0_11 => ?_)
              clear hK K h0_10
              refine wpAnyH_take (i := 8) (v := ?v19) rfl (by kernel_rfl) (by kernel_rfl) (by kernel_rfl) (fun _ _ _ h => h) (Or.inl ⟨by rfl, ?hy19⟩) h0_11 ?rest19
              case hy19 => (intro w' hS; (try dsimp only at hS); go_simp; try (with_reducible rfl))
              simp only [Act.put, List.getElem_toArray, List.getElem_cons_zero, List.getElem_cons_succ, List.setIfInBounds_toArray, List.set_cons_zero, List.set_cons_succ]
              refine wpAnyH_take (i := 9) (v := ?v20) rfl (by kernel_rfl) (by kernel_rfl) (by kernel_rfl) (fun _ _ _ h => h) (Or.inl ⟨by rfl, ?hy20⟩) h0_11 ?rest20
              case hy20 => (intro w' hS; (try dsimp only at hS); go_simp; try (with_reducible rfl))
              simp only [Act.put, List.getElem_toArray, List.getElem_cons_zero, List.getElem_cons_succ, List.setIfInBounds_toArray, List.set_cons_zero, List.set_cons_succ]
              refine wpAnyH_take (i := 10) (v := ?v21) rfl (by kernel_rfl) (by kernel_rfl) (by kernel_rfl) (fun _ _ _ h => h) (Or.inl ⟨by rfl, ?hy21⟩) h0_11 ?rest21
              case hy21 => (intro w' hS; (try dsimp only at hS); go_simp; try (with_reducible rfl))
              simp only [Act.put, List.getElem_toArray, List.getElem_cons_zero, List.getElem_cons_succ, List.setIfInBounds_toArray, List.set_cons_zero, List.set_cons_succ]
              refine wpAnyH_ready (rs := [12]) (by kernel_rfl) (by simp) (AllReadyH.cons rfl (fun K hK => ?_) AllReadyH.nil)
              rw [if_pos (by rfl)]
              obtain ⟨q0, q1, q2, q3⟩ := Wt.out.facts
              go_simp
              have hW := Wt.out.put (.int .i64 M1) (.slice aok m1.length ck)
              have hA := arg_far' Ak.out Mkt.out (.int .i64 M1) (.slice aok m1.length ck)
              have hB := far_below Bc.out It.out.1 (.int .i64 M1) (.slice aok m1.length ck)
              obtain ⟨wc, hwc⟩ : ∃ wn, wn = (wc.setCell ⟨bt, 0, none⟩ (.int .i64 M1)).setCell ⟨bt, 1, none⟩ (.slice aok m1.length ck) := ⟨_, rfl⟩
              rw [← hwc] at hW hA hB ⊢
              have Wt := Lib.hid hW
              have Ak := Lib.hid hA
              have Bc := Lib.hid hB
              clear hW hA hB hwc q0 q1 q2 q3
              refine hK.out _ _ (KS.out _ Bc.out) (fun h0_12 => ?_)
              clear hK K h0_11
              refine wpAnyH_take (i := 13) (v := ?v22) rfl (by kernel_rfl) (by kernel_rfl) (by kernel_rfl) (fun _ _ _ h => h) (Or.inl ⟨by rfl, ?hy22⟩) h0_12 ?rest22
              case hy22 => (intro w' hS; (try dsimp only at hS); go_simp; try (with_reducible rfl))
              simp only [Act.put, List.getElem_toArray, List.getElem_cons_zero, List.getElem_cons_succ, List.setIfInBounds_toArray, List.set_cons_zero, List.set_cons_succ]
              refine wpAnyH_done (by kernel_rfl) ?_ _
              go_wp2_with fail
              go_meet
              case rel => exact ⟨bt, aok, ck, rfl, rfl, Lib.hid ⟨Wt.out, Ak.out, Lk.out, Bc.out⟩⟩
          · rw [if_pos (by rfl)]
            go_simp
            obtain ⟨bt, hbb⟩ : ∃ b, b = wc.heap.size := ⟨_, rfl⟩
            try (have Nxt := Lib.hid (show bx ≠ bt by have h := Ix.out; omega))
            try (have Nzt := Lib.hid (show bz ≠ bt by have h := Iz.out; omega))
            try (have Mrt := Lib.hid (fun (d : Addr) (e : aor = some d) => show d.block ≠ bt by have h := Dr.out d e; omega))
            try (have Mqt := Lib.hid (fun (d : Addr) (e : aoq = some d) => show d.block ≠ bt by have h := Dq.out d e; omega))
            try (have Mkt := Lib.hid (fun (d : Addr) (e : aok = some d) => show d.block ≠ bt by have h := Dk.out d e; omega))
            have hb := one_more (w1 := wc) (.cells #[.int .i64 0, .slice none 0 0] 24)
            have hX := Two.made wc (.int .i64 0) (.slice none 0 0) 24
            have hI : v2.heap.size ≤ bt ∧ bt < (wc.alloc (.cells #[.int .i64 0, .slice none 0 0] 24)).heap.size := by rw [hbb]; exact ⟨Bc.out.size, by simp⟩
            rw [← hbb] at hX
            obtain ⟨wc, hwc⟩ : ∃ wn, wn = wc.alloc (.cells #[.int .i64 0, .slice none 0 0] 24) := ⟨_, rfl⟩
            rw [← hwc] at hb hX hI ⊢
            try rw [← hbb]
            try (have Xx := Lib.hid (Xx.out.on hb))
            try (have Ix := Lib.hid (And.intro Ix.out.1 (Nat.lt_of_lt_of_le Ix.out.2 hb.size)))
            try (have Xz := Lib.hid (Xz.out.on hb))
            try (have Iz := Lib.hid (And.intro Iz.out.1 (Nat.lt_of_lt_of_le Iz.out.2 hb.size)))
            try (have Sr := Lib.hid (Sr.out.on hb))
            try (have Dr := Lib.hid (fun d e => And.intro (Dr.out d e).1 (Nat.lt_of_lt_of_le (Dr.out d e).2 hb.size)))
            try (have Sq := Lib.hid (Sq.out.on hb))
            try (have Dq := Lib.hid (fun d e => And.intro (Dq.out d e).1 (Nat.lt_of_lt_of_le (Dq.out d e).2 hb.size)))
            try (have Ak := Lib.hid (Ak.out.on hb))
            try (have Dk := Lib.hid (fun d e => And.intro (Dk.out d e).1 (Nat.lt_of_lt_of_le (Dk.out d e).2 hb.size)))
            have Bc := Lib.hid (below_on Bc.out hb)
            have Wt := Lib.hid hX
            have It := Lib.hid hI
            clear hb hX hI hwc hbb
            go_simp
            refine hK.out _ _ (KS.out _ Bc.out) (fun h0_3 => ?_)
            clear hK K h0_2
            refine wpAnyH_ready (rs := [4]) (by kernel_rfl) (by simp) (AllReadyH.cons rfl (fun K hK => ?_) AllReadyH.nil)
            rw [if_pos (by rfl)]
            go_simp
            obtain ⟨bz, hbb⟩ : ∃ b, b = wc.heap.size := ⟨_, rfl⟩
            try (have Nxz := Lib.hid (show bx ≠ bz by have h := Ix.out; omega))
            try (have Ntz := Lib.hid (show bt ≠ bz by have h := It.out; omega))
            try (have Mrz := Lib.hid (fun (d : Addr) (e : aor = some d) => show d.block ≠ bz by have h := Dr.out d e; omega))
            try (have Mqz := Lib.hid (fun (d : Addr) (e : aoq = some d) => show d.block ≠ bz by have h := Dq.out d e; omega))
            try (have Mkz := Lib.hid (fun (d : Addr) (e : aok = some d) => show d.block ≠ bz by have h := Dk.out d e; omega))
            have hb := one_more (w1 := wc) (.cells #[] 2)
            have hX := Emp.made wc v2.heap.size 2 Bc.out.size
            have hI : v2.heap.size ≤ bz ∧ bz < (wc.alloc (.cells #[] 2)).heap.size := by rw [hbb]; exact ⟨Bc.out.size, by simp⟩
            rw [← hbb] at hX
            obtain ⟨wc, hwc⟩ : ∃ wn, wn = wc.alloc (.cells #[] 2) := ⟨_, rfl⟩
            rw [← hwc] at hb hX hI ⊢
            try rw [← hbb]
            try (have Xx := Lib.hid (Xx.out.on hb))
            try (have Ix := Lib.hid (And.intro Ix.out.1 (Nat.lt_of_lt_of_le Ix.out.2 hb.size)))
            try (have Sr := Lib.hid (Sr.out.on hb))
            try (have Dr := Lib.hid (fun d e => And.intro (Dr.out d e).1 (Nat.lt_of_lt_of_le (Dr.out d e).2 hb.size)))
            try (have Sq := Lib.hid (Sq.out.on hb))
            try (have Dq := Lib.hid (fun d e => And.intro (Dq.out d e).1 (Nat.lt_of_lt_of_le (Dq.out d e).2 hb.size)))
            try (have Wt := Lib.hid (Wt.out.kept hb))
            try (have It := Lib.hid (And.intro It.out.1 (Nat.lt_of_lt_of_le It.out.2 hb.size)))
            try (have Ak := Lib.hid (Ak.out.on hb))
            try (have Dk := Lib.hid (fun d e => And.intro (Dk.out d e).1 (Nat.lt_of_lt_of_le (Dk.out d e).2 hb.size)))
            have Bc := Lib.hid (below_on Bc.out hb)
            have Xz := Lib.hid hX
            have Iz := Lib.hid hI
            clear hb hX hI hwc hbb
            go_simp
            refine hK.out _ _ (KS.out _ Bc.out) (fun h0_13 => ?_)
            clear hK K h0_3
            refine wpAnyH_ready (rs := [6]) (by kernel_rfl) (by simp) (AllReadyH.cons rfl (fun K hK => ?_) AllReadyH.nil)
            rw [if_pos (by rfl)]
            obtain ⟨aoq, cq, wc, hrun, hS, hD, hg⟩ := run_app (t := 25) (ty := 25) (e := 2) Try.underlying25 hj hy0 hy1 hy2 Xz.out (HHW.out _ Bc.out) (by omega)
            refine Lib.wp_append_run _ (.tmp 34) (.tmp 35) 25 25 rfl (.slice (some ⟨bz, 0, none⟩) 0 0) (.slice ho high.length hc) (by simp [Act.eval]) (by simp [Act.eval]) _ _ hrun ?_
            have hz := hg.size
            try (have Mqx := Lib.hid (fun (d : Addr) (e : aoq = some d) => show d.block ≠ bx by have h1 := (hD d e).1; have h2 := Ix.out; first | (have h3 := Nzx.out; omega) | (have h3 := Nxz.out; omega)))
            try (have Mqt := Lib.hid (fun (d : Addr) (e : aoq = some d) => show d.block ≠ bt by have h1 := (hD d e).1; have h2 := It.out; first | (have h3 := Nzt.out; omega) | (have h3 := Ntz.out; omega)))
            try (have Xx := Lib.hid (Xx.out.grown hg (by first | exact Nxz.out | exact Ne.symm Nzx.out)))
            try (have Ix := Lib.hid (And.intro Ix.out.1 (Nat.lt_of_lt_of_le Ix.out.2 hz)))
            try (have Sr := Lib.hid (Sr.out.grown hg Mrz.out))
            try (have Dr := Lib.hid (fun d e => And.intro (Dr.out d e).1 (Nat.lt_of_lt_of_le (Dr.out d e).2 hz)))
            try (have Wt := Lib.hid (Wt.out.grown hg (by first | exact Ntz.out | exact Ne.symm Nzt.out)))
            try (have It := Lib.hid (And.intro It.out.1 (Nat.lt_of_lt_of_le It.out.2 hz)))
            have Sq := Lib.hid hS
            have Dq := Lib.hid (fun (d : Addr) (e : aoq = some d) => show v2.heap.size ≤ d.block ∧ d.block < wc.heap.size by have h1 := hD d e; have h2 := Iz.out; have h3 := Bc.out.size; omega)
            have Bc := Lib.hid (below_app Bc.out hg Iz.out.1)
            clear hrun hS hD hg hz
            clear Xz
            try simp only [Act.put, List.getElem_toArray, List.getElem_cons_zero, List.getElem_cons_succ, List.setIfInBounds_toArray, List.set_cons_zero, List.set_cons_succ]
            refine hK.out _ _ (KS.out _ Bc.out) (fun h0_14 => ?_)
            clear hK K h0_13
            refine wpAnyH_ready (rs := [7]) (by kernel_rfl) (by simp) (AllReadyH.cons rfl (fun K hK => ?_) AllReadyH.nil)
            rw [if_pos (by rfl)]
            go_simp
            refine (BO.out _ _ _ _ _ _ _ (OSW.out _ Bc.out) Sr.out Sq.out).mono ?_
            rintro e wc ⟨aok, ck, rfl, hA, hm, hD, hn, hb⟩
            try (have Mkt := Lib.hid (fun (d : Addr) (e : aok = some d) => show d.block ≠ bt by have h1 := (hD d e).1; have h2 := It.out; omega))
            try (have Xx := Lib.hid (Xx.out.on hb))
            try (have Ix := Lib.hid (And.intro Ix.out.1 (Nat.lt_of_lt_of_le Ix.out.2 hb.size)))
            try (have Xz := Lib.hid (Xz.out.on hb))
            try (have Iz := Lib.hid (And.intro Iz.out.1 (Nat.lt_of_lt_of_le Iz.out.2 hb.size)))
            try (have Sr := Lib.hid (Sr.out.on hb))
            try (have Dr := Lib.hid (fun d e => And.intro (Dr.out d e).1 (Nat.lt_of_lt_of_le (Dr.out d e).2 hb.size)))
            try (have Sq := Lib.hid (Sq.out.on hb))
            try (have Dq := Lib.hid (fun d e => And.intro (Dq.out d e).1 (Nat.lt_of_lt_of_le (Dq.out d e).2 hb.size)))
            try (have Wt := Lib.hid (Wt.out.kept hb))
            try (have It := Lib.hid (And.intro It.out.1 (Nat.lt_of_lt_of_le It.out.2 hb.size)))
            have Ak := Lib.hid hA
            have Lk := Lib.hid hm
            have Qk := Lib.hid hn
            have Dk := Lib.hid (fun (d : Addr) (e : aok = some d) => show v2.heap.size ≤ d.block ∧ d.block < wc.heap.size by have h1 := hD d e; have h3 := Bc.out.size; omega)
            have Bc := Lib.hid (below_on Bc.out hb)
            clear hA hm hD hn hb
            go_simp
            refine hK.out _ _ (KS.out _ Bc.out) (fun h0_15 => ?_)
            clear hK K h0_14
            refine wpAnyH_take (i := 8) (v := ?v23) rfl (by kernel_rfl) (by kernel_rfl) (by kernel_rfl) (fun _ _ _ h => h) (Or.inl ⟨by rfl, ?hy23⟩) h0_15 ?rest23
            case hy23 => (intro w' hS; (try dsimp only at hS); go_simp; try (with_reducible rfl))
            simp only [Act.put, List.getElem_toArray, List.getElem_cons_zero, List.getElem_cons_succ, List.setIfInBounds_toArray, List.set_cons_zero, List.set_cons_succ]
            refine wpAnyH_take (i := 9) (v := ?v24) rfl (by kernel_rfl) (by kernel_rfl) (by kernel_rfl) (fun _ _ _ h => h) (Or.inl ⟨by rfl, ?hy24⟩) h0_15 ?rest24
            case hy24 => (intro w' hS; (try dsimp only at hS); go_simp; try (with_reducible rfl))
            simp only [Act.put, List.getElem_toArray, List.getElem_cons_zero, List.getElem_cons_succ, List.setIfInBounds_toArray, List.set_cons_zero, List.set_cons_succ]
            refine wpAnyH_take (i := 10) (v := ?v25) rfl (by kernel_rfl) (by kernel_rfl) (by kernel_rfl) (fun _ _ _ h => h) (Or.inl ⟨by rfl, ?hy25⟩) h0_15 ?rest25
            case hy25 => (intro w' hS; (try dsimp only at hS); go_simp; try (with_reducible rfl))
            simp only [Act.put, List.getElem_toArray, List.getElem_cons_zero, List.getElem_cons_succ, List.setIfInBounds_toArray, List.set_cons_zero, List.set_cons_succ]
            refine wpAnyH_ready (rs := [12]) (by kernel_rfl) (by simp) (AllReadyH.cons rfl (fun K hK => ?_) AllReadyH.nil)
            rw [if_pos (by rfl)]
            obtain ⟨q0, q1, q2, q3⟩ := Wt.out.facts
            go_simp
            have hW := Wt.out.put (.int .i64 M1) (.slice aok m1.length ck)
            have hA := arg_far' Ak.out Mkt.out (.int .i64 M1) (.slice aok m1.length ck)
            have hB := far_below Bc.out It.out.1 (.int .i64 M1) (.slice aok m1.length ck)
            obtain ⟨wc, hwc⟩ : ∃ wn, wn = (wc.setCell ⟨bt, 0, none⟩ (.int .i64 M1)).setCell ⟨bt, 1, none⟩ (.slice aok m1.length ck) := ⟨_, rfl⟩
            rw [← hwc] at hW hA hB ⊢
            have Wt := Lib.hid hW
            have Ak := Lib.hid hA
            have Bc := Lib.hid hB
            clear hW hA hB hwc q0 q1 q2 q3
            refine hK.out _ _ (KS.out _ Bc.out) (fun h0_16 => ?_)
            clear hK K h0_15
            refine wpAnyH_take (i := 13) (v := ?v26) rfl (by kernel_rfl) (by kernel_rfl) (by kernel_rfl) (fun _ _ _ h => h) (Or.inl ⟨by rfl, ?hy26⟩) h0_16 ?rest26
            case hy26 => (intro w' hS; (try dsimp only at hS); go_simp; try (with_reducible rfl))
            simp only [Act.put, List.getElem_toArray, List.getElem_cons_zero, List.getElem_cons_succ, List.setIfInBounds_toArray, List.set_cons_zero, List.set_cons_succ]
            refine wpAnyH_done (by kernel_rfl) ?_ _
            go_wp2_with fail
            go_meet
            case rel => exact ⟨bt, aok, ck, rfl, rfl, Lib.hid ⟨Wt.out, Ak.out, Lk.out, Bc.out⟩⟩
        · rw [if_pos (by rfl)]
          go_simp
          obtain ⟨bz, hbb⟩ : ∃ b, b = wc.heap.size := ⟨_, rfl⟩
          try (have Nxz := Lib.hid (show bx ≠ bz by have h := Ix.out; omega))
          try (have Ntz := Lib.hid (show bt ≠ bz by have h := It.out; omega))
          try (have Mrz := Lib.hid (fun (d : Addr) (e : aor = some d) => show d.block ≠ bz by have h := Dr.out d e; omega))
          try (have Mqz := Lib.hid (fun (d : Addr) (e : aoq = some d) => show d.block ≠ bz by have h := Dq.out d e; omega))
          try (have Mkz := Lib.hid (fun (d : Addr) (e : aok = some d) => show d.block ≠ bz by have h := Dk.out d e; omega))
          have hb := one_more (w1 := wc) (.cells #[] 2)
          have hX := Emp.made wc v2.heap.size 2 Bc.out.size
          have hI : v2.heap.size ≤ bz ∧ bz < (wc.alloc (.cells #[] 2)).heap.size := by rw [hbb]; exact ⟨Bc.out.size, by simp⟩
          rw [← hbb] at hX
          obtain ⟨wc, hwc⟩ : ∃ wn, wn = wc.alloc (.cells #[] 2) := ⟨_, rfl⟩
          rw [← hwc] at hb hX hI ⊢
          try rw [← hbb]
          try (have Xx := Lib.hid (Xx.out.on hb))
          try (have Ix := Lib.hid (And.intro Ix.out.1 (Nat.lt_of_lt_of_le Ix.out.2 hb.size)))
          try (have Sr := Lib.hid (Sr.out.on hb))
          try (have Dr := Lib.hid (fun d e => And.intro (Dr.out d e).1 (Nat.lt_of_lt_of_le (Dr.out d e).2 hb.size)))
          try (have Sq := Lib.hid (Sq.out.on hb))
          try (have Dq := Lib.hid (fun d e => And.intro (Dq.out d e).1 (Nat.lt_of_lt_of_le (Dq.out d e).2 hb.size)))
          try (have Wt := Lib.hid (Wt.out.kept hb))
          try (have It := Lib.hid (And.intro It.out.1 (Nat.lt_of_lt_of_le It.out.2 hb.size)))
          try (have Ak := Lib.hid (Ak.out.on hb))
          try (have Dk := Lib.hid (fun d e => And.intro (Dk.out d e).1 (Nat.lt_of_lt_of_le (Dk.out d e).2 hb.size)))
          have Bc := Lib.hid (below_on Bc.out hb)
          have Xz := Lib.hid hX
          have Iz := Lib.hid hI
          clear hb hX hI hwc hbb
          go_simp
          refine hK.out _ _ (KS.out _ Bc.out) (fun h0_2 => ?_)
          clear hK K h0_1
          refine wpAnyH_ready (rs := [3, 11]) (by kernel_rfl) (by simp) (AllReadyH.cons rfl (fun K hK => ?_) (AllReadyH.cons rfl (fun K hK => ?_) AllReadyH.nil))
          · rw [if_pos (by rfl)]
            obtain ⟨aor, cr, wc, hrun, hS, hD, hg⟩ := run_app (t := 25) (ty := 25) (e := 2) Try.underlying25 hj hy0 hy1 hy2 Xx.out (HLW.out _ Bc.out) (by omega)
            refine Lib.wp_append_run _ (.tmp 31) (.tmp 32) 25 25 rfl (.slice (some ⟨bx, 0, none⟩) 0 0) (.slice lo low.length lc) (by simp [Act.eval]) (by simp [Act.eval]) _ _ hrun ?_
            have hz := hg.size
            try (have Mrz := Lib.hid (fun (d : Addr) (e : aor = some d) => show d.block ≠ bz by have h1 := (hD d e).1; have h2 := Iz.out; first | (have h3 := Nxz.out; omega) | (have h3 := Nzx.out; omega)))
            try (have Mrt := Lib.hid (fun (d : Addr) (e : aor = some d) => show d.block ≠ bt by have h1 := (hD d e).1; have h2 := It.out; first | (have h3 := Nxt.out; omega) | (have h3 := Ntx.out; omega)))
            try (have Xz := Lib.hid (Xz.out.grown hg (by first | exact Nzx.out | exact Ne.symm Nxz.out)))
            try (have Iz := Lib.hid (And.intro Iz.out.1 (Nat.lt_of_lt_of_le Iz.out.2 hz)))
            try (have Sq := Lib.hid (Sq.out.grown hg Mqx.out))
            try (have Dq := Lib.hid (fun d e => And.intro (Dq.out d e).1 (Nat.lt_of_lt_of_le (Dq.out d e).2 hz)))
            try (have Wt := Lib.hid (Wt.out.grown hg (by first | exact Ntx.out | exact Ne.symm Nxt.out)))
            try (have It := Lib.hid (And.intro It.out.1 (Nat.lt_of_lt_of_le It.out.2 hz)))
            have Sr := Lib.hid hS
            have Dr := Lib.hid (fun (d : Addr) (e : aor = some d) => show v2.heap.size ≤ d.block ∧ d.block < wc.heap.size by have h1 := hD d e; have h2 := Ix.out; have h3 := Bc.out.size; omega)
            have Bc := Lib.hid (below_app Bc.out hg Ix.out.1)
            clear hrun hS hD hg hz
            clear Xx
            try simp only [Act.put, List.getElem_toArray, List.getElem_cons_zero, List.getElem_cons_succ, List.setIfInBounds_toArray, List.set_cons_zero, List.set_cons_succ]
            refine hK.out _ _ (KS.out _ Bc.out) (fun h0_17 => ?_)
            clear hK K h0_2
            refine wpAnyH_ready (rs := [6, 11]) (by kernel_rfl) (by simp) (AllReadyH.cons rfl (fun K hK => ?_) (AllReadyH.cons rfl (fun K hK => ?_) AllReadyH.nil))
            · rw [if_pos (by rfl)]
              obtain ⟨aoq, cq, wc, hrun, hS, hD, hg⟩ := run_app (t := 25) (ty := 25) (e := 2) Try.underlying25 hj hy0 hy1 hy2 Xz.out (HHW.out _ Bc.out) (by omega)
              refine Lib.wp_append_run _ (.tmp 34) (.tmp 35) 25 25 rfl (.slice (some ⟨bz, 0, none⟩) 0 0) (.slice ho high.length hc) (by simp [Act.eval]) (by simp [Act.eval]) _ _ hrun ?_
              have hz := hg.size
              try (have Mqx := Lib.hid (fun (d : Addr) (e : aoq = some d) => show d.block ≠ bx by have h1 := (hD d e).1; have h2 := Ix.out; first | (have h3 := Nzx.out; omega) | (have h3 := Nxz.out; omega)))
              try (have Mqt := Lib.hid (fun (d : Addr) (e : aoq = some d) => show d.block ≠ bt by have h1 := (hD d e).1; have h2 := It.out; first | (have h3 := Nzt.out; omega) | (have h3 := Ntz.out; omega)))
              try (have Xx := Lib.hid (Xx.out.grown hg (by first | exact Nxz.out | exact Ne.symm Nzx.out)))
              try (have Ix := Lib.hid (And.intro Ix.out.1 (Nat.lt_of_lt_of_le Ix.out.2 hz)))
              try (have Sr := Lib.hid (Sr.out.grown hg Mrz.out))
              try (have Dr := Lib.hid (fun d e => And.intro (Dr.out d e).1 (Nat.lt_of_lt_of_le (Dr.out d e).2 hz)))
              try (have Wt := Lib.hid (Wt.out.grown hg (by first | exact Ntz.out | exact Ne.symm Nzt.out)))
              try (have It := Lib.hid (And.intro It.out.1 (Nat.lt_of_lt_of_le It.out.2 hz)))
              have Sq := Lib.hid hS
              have Dq := Lib.hid (fun (d : Addr) (e : aoq = some d) => show v2.heap.size ≤ d.block ∧ d.block < wc.heap.size by have h1 := hD d e; have h2 := Iz.out; have h3 := Bc.out.size; omega)
              have Bc := Lib.hid (below_app Bc.out hg Iz.out.1)
              clear hrun hS hD hg hz
              clear Xz
              try simp only [Act.put, List.getElem_toArray, List.getElem_cons_zero, List.getElem_cons_succ, List.setIfInBounds_toArray, List.set_cons_zero, List.set_cons_succ]
              refine hK.out _ _ (KS.out _ Bc.out) (fun h0_18 => ?_)
              clear hK K h0_17
              refine wpAnyH_ready (rs := [7, 11]) (by kernel_rfl) (by simp) (AllReadyH.cons rfl (fun K hK => ?_) (AllReadyH.cons rfl (fun K hK => ?_) AllReadyH.nil))
              · rw [if_pos (by rfl)]
                go_simp
                refine (BO.out _ _ _ _ _ _ _ (OSW.out _ Bc.out) Sr.out Sq.out).mono ?_
                rintro e wc ⟨aok, ck, rfl, hA, hm, hD, hn, hb⟩
                try (have Mkt := Lib.hid (fun (d : Addr) (e : aok = some d) => show d.block ≠ bt by have h1 := (hD d e).1; have h2 := It.out; omega))
                try (have Xx := Lib.hid (Xx.out.on hb))
                try (have Ix := Lib.hid (And.intro Ix.out.1 (Nat.lt_of_lt_of_le Ix.out.2 hb.size)))
                try (have Xz := Lib.hid (Xz.out.on hb))
                try (have Iz := Lib.hid (And.intro Iz.out.1 (Nat.lt_of_lt_of_le Iz.out.2 hb.size)))
                try (have Sr := Lib.hid (Sr.out.on hb))
                try (have Dr := Lib.hid (fun d e => And.intro (Dr.out d e).1 (Nat.lt_of_lt_of_le (Dr.out d e).2 hb.size)))
                try (have Sq := Lib.hid (Sq.out.on hb))
                try (have Dq := Lib.hid (fun d e => And.intro (Dq.out d e).1 (Nat.lt_of_lt_of_le (Dq.out d e).2 hb.size)))
                try (have Wt := Lib.hid (Wt.out.kept hb))
                try (have It := Lib.hid (And.intro It.out.1 (Nat.lt_of_lt_of_le It.out.2 hb.size)))
                have Ak := Lib.hid hA
                have Lk := Lib.hid hm
                have Qk := Lib.hid hn
                have Dk := Lib.hid (fun (d : Addr) (e : aok = some d) => show v2.heap.size ≤ d.block ∧ d.block < wc.heap.size by have h1 := hD d e; have h3 := Bc.out.size; omega)
                have Bc := Lib.hid (below_on Bc.out hb)
                clear hA hm hD hn hb
                go_simp
                refine hK.out _ _ (KS.out _ Bc.out) (fun h0_19 => ?_)
                clear hK K h0_18
                refine wpAnyH_take (i := 8) (v := ?v27) rfl (by kernel_rfl) (by kernel_rfl) (by kernel_rfl) (fun _ _ _ h => h) (Or.inl ⟨by rfl, ?hy27⟩) h0_19 ?rest27
                case hy27 => (intro w' hS; (try dsimp only at hS); go_simp; try (with_reducible rfl))
                simp only [Act.put, List.getElem_toArray, List.getElem_cons_zero, List.getElem_cons_succ, List.setIfInBounds_toArray, List.set_cons_zero, List.set_cons_succ]
                refine wpAnyH_take (i := 9) (v := ?v28) rfl (by kernel_rfl) (by kernel_rfl) (by kernel_rfl) (fun _ _ _ h => h) (Or.inl ⟨by rfl, ?hy28⟩) h0_19 ?rest28
                case hy28 => (intro w' hS; (try dsimp only at hS); go_simp; try (with_reducible rfl))
                simp only [Act.put, List.getElem_toArray, List.getElem_cons_zero, List.getElem_cons_succ, List.setIfInBounds_toArray, List.set_cons_zero, List.set_cons_succ]
                refine wpAnyH_take (i := 10) (v := ?v29) rfl (by kernel_rfl) (by kernel_rfl) (by kernel_rfl) (fun _ _ _ h => h) (Or.inl ⟨by rfl, ?hy29⟩) h0_19 ?rest29
                case hy29 => (intro w' hS; (try dsimp only at hS); go_simp; try (with_reducible rfl))
                simp only [Act.put, List.getElem_toArray, List.getElem_cons_zero, List.getElem_cons_succ, List.setIfInBounds_toArray, List.set_cons_zero, List.set_cons_succ]
                refine wpAnyH_ready (rs := [11]) (by kernel_rfl) (by simp) (AllReadyH.cons rfl (fun K hK => ?_) AllReadyH.nil)
                rw [if_pos (by rfl)]
                go_simp
                obtain ⟨bt, hbb⟩ : ∃ b, b = wc.heap.size := ⟨_, rfl⟩
                try (have Nxt := Lib.hid (show bx ≠ bt by have h := Ix.out; omega))
                try (have Nzt := Lib.hid (show bz ≠ bt by have h := Iz.out; omega))
                try (have Mrt := Lib.hid (fun (d : Addr) (e : aor = some d) => show d.block ≠ bt by have h := Dr.out d e; omega))
                try (have Mqt := Lib.hid (fun (d : Addr) (e : aoq = some d) => show d.block ≠ bt by have h := Dq.out d e; omega))
                try (have Mkt := Lib.hid (fun (d : Addr) (e : aok = some d) => show d.block ≠ bt by have h := Dk.out d e; omega))
                have hb := one_more (w1 := wc) (.cells #[.int .i64 0, .slice none 0 0] 24)
                have hX := Two.made wc (.int .i64 0) (.slice none 0 0) 24
                have hI : v2.heap.size ≤ bt ∧ bt < (wc.alloc (.cells #[.int .i64 0, .slice none 0 0] 24)).heap.size := by rw [hbb]; exact ⟨Bc.out.size, by simp⟩
                rw [← hbb] at hX
                obtain ⟨wc, hwc⟩ : ∃ wn, wn = wc.alloc (.cells #[.int .i64 0, .slice none 0 0] 24) := ⟨_, rfl⟩
                rw [← hwc] at hb hX hI ⊢
                try rw [← hbb]
                try (have Xx := Lib.hid (Xx.out.on hb))
                try (have Ix := Lib.hid (And.intro Ix.out.1 (Nat.lt_of_lt_of_le Ix.out.2 hb.size)))
                try (have Xz := Lib.hid (Xz.out.on hb))
                try (have Iz := Lib.hid (And.intro Iz.out.1 (Nat.lt_of_lt_of_le Iz.out.2 hb.size)))
                try (have Sr := Lib.hid (Sr.out.on hb))
                try (have Dr := Lib.hid (fun d e => And.intro (Dr.out d e).1 (Nat.lt_of_lt_of_le (Dr.out d e).2 hb.size)))
                try (have Sq := Lib.hid (Sq.out.on hb))
                try (have Dq := Lib.hid (fun d e => And.intro (Dq.out d e).1 (Nat.lt_of_lt_of_le (Dq.out d e).2 hb.size)))
                try (have Ak := Lib.hid (Ak.out.on hb))
                try (have Dk := Lib.hid (fun d e => And.intro (Dk.out d e).1 (Nat.lt_of_lt_of_le (Dk.out d e).2 hb.size)))
                have Bc := Lib.hid (below_on Bc.out hb)
                have Wt := Lib.hid hX
                have It := Lib.hid hI
                clear hb hX hI hwc hbb
                go_simp
                refine hK.out _ _ (KS.out _ Bc.out) (fun h0_20 => ?_)
                clear hK K h0_19
                refine wpAnyH_ready (rs := [12]) (by kernel_rfl) (by simp) (AllReadyH.cons rfl (fun K hK => ?_) AllReadyH.nil)
                rw [if_pos (by rfl)]
                obtain ⟨q0, q1, q2, q3⟩ := Wt.out.facts
                go_simp
                have hW := Wt.out.put (.int .i64 M1) (.slice aok m1.length ck)
                have hA := arg_far' Ak.out Mkt.out (.int .i64 M1) (.slice aok m1.length ck)
                have hB := far_below Bc.out It.out.1 (.int .i64 M1) (.slice aok m1.length ck)
                obtain ⟨wc, hwc⟩ : ∃ wn, wn = (wc.setCell ⟨bt, 0, none⟩ (.int .i64 M1)).setCell ⟨bt, 1, none⟩ (.slice aok m1.length ck) := ⟨_, rfl⟩
                rw [← hwc] at hW hA hB ⊢
                have Wt := Lib.hid hW
                have Ak := Lib.hid hA
                have Bc := Lib.hid hB
                clear hW hA hB hwc q0 q1 q2 q3
                refine hK.out _ _ (KS.out _ Bc.out) (fun h0_21 => ?_)
                clear hK K h0_20
                refine wpAnyH_take (i := 13) (v := ?v30) rfl (by kernel_rfl) (by kernel_rfl) (by kernel_rfl) (fun _ _ _ h => h) (Or.inl ⟨by rfl, ?hy30⟩) h0_21 ?rest30
                case hy30 => (intro w' hS; (try dsimp only at hS); go_simp; try (with_reducible rfl))
                simp only [Act.put, List.getElem_toArray, List.getElem_cons_zero, List.getElem_cons_succ, List.setIfInBounds_toArray, List.set_cons_zero, List.set_cons_succ]
                refine wpAnyH_done (by kernel_rfl) ?_ _
                go_wp2_with fail
                go_meet
                case rel => exact ⟨bt, aok, ck, rfl, rfl, Lib.hid ⟨Wt.out, Ak.out, Lk.out, Bc.out⟩⟩
              · rw [if_pos (by rfl)]
                go_simp
                obtain ⟨bt, hbb⟩ : ∃ b, b = wc.heap.size := ⟨_, rfl⟩
                try (have Nxt := Lib.hid (show bx ≠ bt by have h := Ix.out; omega))
                try (have Nzt := Lib.hid (show bz ≠ bt by have h := Iz.out; omega))
                try (have Mrt := Lib.hid (fun (d : Addr) (e : aor = some d) => show d.block ≠ bt by have h := Dr.out d e; omega))
                try (have Mqt := Lib.hid (fun (d : Addr) (e : aoq = some d) => show d.block ≠ bt by have h := Dq.out d e; omega))
                try (have Mkt := Lib.hid (fun (d : Addr) (e : aok = some d) => show d.block ≠ bt by have h := Dk.out d e; omega))
                have hb := one_more (w1 := wc) (.cells #[.int .i64 0, .slice none 0 0] 24)
                have hX := Two.made wc (.int .i64 0) (.slice none 0 0) 24
                have hI : v2.heap.size ≤ bt ∧ bt < (wc.alloc (.cells #[.int .i64 0, .slice none 0 0] 24)).heap.size := by rw [hbb]; exact ⟨Bc.out.size, by simp⟩
                rw [← hbb] at hX
                obtain ⟨wc, hwc⟩ : ∃ wn, wn = wc.alloc (.cells #[.int .i64 0, .slice none 0 0] 24) := ⟨_, rfl⟩
                rw [← hwc] at hb hX hI ⊢
                try rw [← hbb]
                try (have Xx := Lib.hid (Xx.out.on hb))
                try (have Ix := Lib.hid (And.intro Ix.out.1 (Nat.lt_of_lt_of_le Ix.out.2 hb.size)))
                try (have Xz := Lib.hid (Xz.out.on hb))
                try (have Iz := Lib.hid (And.intro Iz.out.1 (Nat.lt_of_lt_of_le Iz.out.2 hb.size)))
                try (have Sr := Lib.hid (Sr.out.on hb))
                try (have Dr := Lib.hid (fun d e => And.intro (Dr.out d e).1 (Nat.lt_of_lt_of_le (Dr.out d e).2 hb.size)))
                try (have Sq := Lib.hid (Sq.out.on hb))
                try (have Dq := Lib.hid (fun d e => And.intro (Dq.out d e).1 (Nat.lt_of_lt_of_le (Dq.out d e).2 hb.size)))
                try (have Ak := Lib.hid (Ak.out.on hb))
                try (have Dk := Lib.hid (fun d e => And.intro (Dk.out d e).1 (Nat.lt_of_lt_of_le (Dk.out d e).2 hb.size)))
                have Bc := Lib.hid (below_on Bc.out hb)
                have Wt := Lib.hid hX
                have It := Lib.hid hI
                clear hb hX hI hwc hbb
                go_simp
                refine hK.out _ _ (KS.out _ Bc.out) (fun h0_19 => ?_)
                clear hK K h0_18
                refine wpAnyH_ready (rs := [7]) (by kernel_rfl) (by simp) (AllReadyH.cons rfl (fun K hK => ?_) AllReadyH.nil)
                rw [if_pos (by rfl)]
                go_simp
                refine (BO.out _ _ _ _ _ _ _ (OSW.out _ Bc.out) Sr.out Sq.out).mono ?_
                rintro e wc ⟨aok, ck, rfl, hA, hm, hD, hn, hb⟩
                try (have Mkt := Lib.hid (fun (d : Addr) (e : aok = some d) => show d.block ≠ bt by have h1 := (hD d e).1; have h2 := It.out; omega))
                try (have Xx := Lib.hid (Xx.out.on hb))
                try (have Ix := Lib.hid (And.intro Ix.out.1 (Nat.lt_of_lt_of_le Ix.out.2 hb.size)))
                try (have Xz := Lib.hid (Xz.out.on hb))
                try (have Iz := Lib.hid (And.intro Iz.out.1 (Nat.lt_of_lt_of_le Iz.out.2 hb.size)))
                try (have Sr := Lib.hid (Sr.out.on hb))
                try (have Dr := Lib.hid (fun d e => And.intro (Dr.out d e).1 (Nat.lt_of_lt_of_le (Dr.out d e).2 hb.size)))
                try (have Sq := Lib.hid (Sq.out.on hb))
                try (have Dq := Lib.hid (fun d e => And.intro (Dq.out d e).1 (Nat.lt_of_lt_of_le (Dq.out d e).2 hb.size)))
                try (have Wt := Lib.hid (Wt.out.kept hb))
                try (have It := Lib.hid (And.intro It.out.1 (Nat.lt_of_lt_of_le It.out.2 hb.size)))
                have Ak := Lib.hid hA
                have Lk := Lib.hid hm
                have Qk := Lib.hid hn
                have Dk := Lib.hid (fun (d : Addr) (e : aok = some d) => show v2.heap.size ≤ d.block ∧ d.block < wc.heap.size by have h1 := hD d e; have h3 := Bc.out.size; omega)
                have Bc := Lib.hid (below_on Bc.out hb)
                clear hA hm hD hn hb
                go_simp
                refine hK.out _ _ (KS.out _ Bc.out) (fun h0_22 => ?_)
                clear hK K h0_19
                refine wpAnyH_take (i := 8) (v := ?v31) rfl (by kernel_rfl) (by kernel_rfl) (by kernel_rfl) (fun _ _ _ h => h) (Or.inl ⟨by rfl, ?hy31⟩) h0_22 ?rest31
                case hy31 => (intro w' hS; (try dsimp only at hS); go_simp; try (with_reducible rfl))
                simp only [Act.put, List.getElem_toArray, List.getElem_cons_zero, List.getElem_cons_succ, List.setIfInBounds_toArray, List.set_cons_zero, List.set_cons_succ]
                refine wpAnyH_take (i := 9) (v := ?v32) rfl (by kernel_rfl) (by kernel_rfl) (by kernel_rfl) (fun _ _ _ h => h) (Or.inl ⟨by rfl, ?hy32⟩) h0_22 ?rest32
                case hy32 => (intro w' hS; (try dsimp only at hS); go_simp; try (with_reducible rfl))
                simp only [Act.put, List.getElem_toArray, List.getElem_cons_zero, List.getElem_cons_succ, List.setIfInBounds_toArray, List.set_cons_zero, List.set_cons_succ]
                refine wpAnyH_take (i := 10) (v := ?v33) rfl (by kernel_rfl) (by kernel_rfl) (by kernel_rfl) (fun _ _ _ h => h) (Or.inl ⟨by rfl, ?hy33⟩) h0_22 ?rest33
                case hy33 => (intro w' hS; (try dsimp only at hS); go_simp; try (with_reducible rfl))
                simp only [Act.put, List.getElem_toArray, List.getElem_cons_zero, List.getElem_cons_succ, List.setIfInBounds_toArray, List.set_cons_zero, List.set_cons_succ]
                refine wpAnyH_ready (rs := [12]) (by kernel_rfl) (by simp) (AllReadyH.cons rfl (fun K hK => ?_) AllReadyH.nil)
                rw [if_pos (by rfl)]
                obtain ⟨q0, q1, q2, q3⟩ := Wt.out.facts
                go_simp
                have hW := Wt.out.put (.int .i64 M1) (.slice aok m1.length ck)
                have hA := arg_far' Ak.out Mkt.out (.int .i64 M1) (.slice aok m1.length ck)
                have hB := far_below Bc.out It.out.1 (.int .i64 M1) (.slice aok m1.length ck)
                obtain ⟨wc, hwc⟩ : ∃ wn, wn = (wc.setCell ⟨bt, 0, none⟩ (.int .i64 M1)).setCell ⟨bt, 1, none⟩ (.slice aok m1.length ck) := ⟨_, rfl⟩
                rw [← hwc] at hW hA hB ⊢
                have Wt := Lib.hid hW
                have Ak := Lib.hid hA
                have Bc := Lib.hid hB
                clear hW hA hB hwc q0 q1 q2 q3
                refine hK.out _ _ (KS.out _ Bc.out) (fun h0_23 => ?_)
                clear hK K h0_22
                refine wpAnyH_take (i := 13) (v := ?v34) rfl (by kernel_rfl) (by kernel_rfl) (by kernel_rfl) (fun _ _ _ h => h) (Or.inl ⟨by rfl, ?hy34⟩) h0_23 ?rest34
                case hy34 => (intro w' hS; (try dsimp only at hS); go_simp; try (with_reducible rfl))
                simp only [Act.put, List.getElem_toArray, List.getElem_cons_zero, List.getElem_cons_succ, List.setIfInBounds_toArray, List.set_cons_zero, List.set_cons_succ]
                refine wpAnyH_done (by kernel_rfl) ?_ _
                go_wp2_with fail
                go_meet
                case rel => exact ⟨bt, aok, ck, rfl, rfl, Lib.hid ⟨Wt.out, Ak.out, Lk.out, Bc.out⟩⟩
            · rw [if_pos (by rfl)]
              go_simp
              obtain ⟨bt, hbb⟩ : ∃ b, b = wc.heap.size := ⟨_, rfl⟩
              try (have Nxt := Lib.hid (show bx ≠ bt by have h := Ix.out; omega))
              try (have Nzt := Lib.hid (show bz ≠ bt by have h := Iz.out; omega))
              try (have Mrt := Lib.hid (fun (d : Addr) (e : aor = some d) => show d.block ≠ bt by have h := Dr.out d e; omega))
              try (have Mqt := Lib.hid (fun (d : Addr) (e : aoq = some d) => show d.block ≠ bt by have h := Dq.out d e; omega))
              try (have Mkt := Lib.hid (fun (d : Addr) (e : aok = some d) => show d.block ≠ bt by have h := Dk.out d e; omega))
              have hb := one_more (w1 := wc) (.cells #[.int .i64 0, .slice none 0 0] 24)
              have hX := Two.made wc (.int .i64 0) (.slice none 0 0) 24
              have hI : v2.heap.size ≤ bt ∧ bt < (wc.alloc (.cells #[.int .i64 0, .slice none 0 0] 24)).heap.size := by rw [hbb]; exact ⟨Bc.out.size, by simp⟩
              rw [← hbb] at hX
              obtain ⟨wc, hwc⟩ : ∃ wn, wn = wc.alloc (.cells #[.int .i64 0, .slice none 0 0] 24) := ⟨_, rfl⟩
              rw [← hwc] at hb hX hI ⊢
              try rw [← hbb]
              try (have Xx := Lib.hid (Xx.out.on hb))
              try (have Ix := Lib.hid (And.intro Ix.out.1 (Nat.lt_of_lt_of_le Ix.out.2 hb.size)))
              try (have Xz := Lib.hid (Xz.out.on hb))
              try (have Iz := Lib.hid (And.intro Iz.out.1 (Nat.lt_of_lt_of_le Iz.out.2 hb.size)))
              try (have Sr := Lib.hid (Sr.out.on hb))
              try (have Dr := Lib.hid (fun d e => And.intro (Dr.out d e).1 (Nat.lt_of_lt_of_le (Dr.out d e).2 hb.size)))
              try (have Sq := Lib.hid (Sq.out.on hb))
              try (have Dq := Lib.hid (fun d e => And.intro (Dq.out d e).1 (Nat.lt_of_lt_of_le (Dq.out d e).2 hb.size)))
              try (have Ak := Lib.hid (Ak.out.on hb))
              try (have Dk := Lib.hid (fun d e => And.intro (Dk.out d e).1 (Nat.lt_of_lt_of_le (Dk.out d e).2 hb.size)))
              have Bc := Lib.hid (below_on Bc.out hb)
              have Wt := Lib.hid hX
              have It := Lib.hid hI
              clear hb hX hI hwc hbb
              go_simp
              refine hK.out _ _ (KS.out _ Bc.out) (fun h0_18 => ?_)
              clear hK K h0_17
              refine wpAnyH_ready (rs := [6]) (by kernel_rfl) (by simp) (AllReadyH.cons rfl (fun K hK => ?_) AllReadyH.nil)
              rw [if_pos (by rfl)]
              obtain ⟨aoq, cq, wc, hrun, hS, hD, hg⟩ := run_app (t := 25) (ty := 25) (e := 2) Try.underlying25 hj hy0 hy1 hy2 Xz.out (HHW.out _ Bc.out) (by omega)
              refine Lib.wp_append_run _ (.tmp 34) (.tmp 35) 25 25 rfl (.slice (some ⟨bz, 0, none⟩) 0 0) (.slice ho high.length hc) (by simp [Act.eval]) (by simp [Act.eval]) _ _ hrun ?_
              have hz := hg.size
              try (have Mqx := Lib.hid (fun (d : Addr) (e : aoq = some d) => show d.block ≠ bx by have h1 := (hD d e).1; have h2 := Ix.out; first | (have h3 := Nzx.out; omega) | (have h3 := Nxz.out; omega)))
              try (have Mqt := Lib.hid (fun (d : Addr) (e : aoq = some d) => show d.block ≠ bt by have h1 := (hD d e).1; have h2 := It.out; first | (have h3 := Nzt.out; omega) | (have h3 := Ntz.out; omega)))
              try (have Xx := Lib.hid (Xx.out.grown hg (by first | exact Nxz.out | exact Ne.symm Nzx.out)))
              try (have Ix := Lib.hid (And.intro Ix.out.1 (Nat.lt_of_lt_of_le Ix.out.2 hz)))
              try (have Sr := Lib.hid (Sr.out.grown hg Mrz.out))
              try (have Dr := Lib.hid (fun d e => And.intro (Dr.out d e).1 (Nat.lt_of_lt_of_le (Dr.out d e).2 hz)))
              try (have Wt := Lib.hid (Wt.out.grown hg (by first | exact Ntz.out | exact Ne.symm Nzt.out)))
              try (have It := Lib.hid (And.intro It.out.1 (Nat.lt_of_lt_of_le It.out.2 hz)))
              have Sq := Lib.hid hS
              have Dq := Lib.hid (fun (d : Addr) (e : aoq = some d) => show v2.heap.size ≤ d.block ∧ d.block < wc.heap.size by have h1 := hD d e; have h2 := Iz.out; have h3 := Bc.out.size; omega)
              have Bc := Lib.hid (below_app Bc.out hg Iz.out.1)
              clear hrun hS hD hg hz
              clear Xz
              try simp only [Act.put, List.getElem_toArray, List.getElem_cons_zero, List.getElem_cons_succ, List.setIfInBounds_toArray, List.set_cons_zero, List.set_cons_succ]
              refine hK.out _ _ (KS.out _ Bc.out) (fun h0_24 => ?_)
              clear hK K h0_18
              refine wpAnyH_ready (rs := [7]) (by kernel_rfl) (by simp) (AllReadyH.cons rfl (fun K hK => ?_) AllReadyH.nil)
              rw [if_pos (by rfl)]
              go_simp
              refine (BO.out _ _ _ _ _ _ _ (OSW.out _ Bc.out) Sr.out Sq.out).mono ?_
              rintro e wc ⟨aok, ck, rfl, hA, hm, hD, hn, hb⟩
              try (have Mkt := Lib.hid (fun (d : Addr) (e : aok = some d) => show d.block ≠ bt by have h1 := (hD d e).1; have h2 := It.out; omega))
              try (have Xx := Lib.hid (Xx.out.on hb))
              try (have Ix := Lib.hid (And.intro Ix.out.1 (Nat.lt_of_lt_of_le Ix.out.2 hb.size)))
              try (have Xz := Lib.hid (Xz.out.on hb))
              try (have Iz := Lib.hid (And.intro Iz.out.1 (Nat.lt_of_lt_of_le Iz.out.2 hb.size)))
              try (have Sr := Lib.hid (Sr.out.on hb))
              try (have Dr := Lib.hid (fun d e => And.intro (Dr.out d e).1 (Nat.lt_of_lt_of_le (Dr.out d e).2 hb.size)))
              try (have Sq := Lib.hid (Sq.out.on hb))
              try (have Dq := Lib.hid (fun d e => And.intro (Dq.out d e).1 (Nat.lt_of_lt_of_le (Dq.out d e).2 hb.size)))
              try (have Wt := Lib.hid (Wt.out.kept hb))
              try (have It := Lib.hid (And.intro It.out.1 (Nat.lt_of_lt_of_le It.out.2 hb.size)))
              have Ak := Lib.hid hA
              have Lk := Lib.hid hm
              have Qk := Lib.hid hn
              have Dk := Lib.hid (fun (d : Addr) (e : aok = some d) => show v2.heap.size ≤ d.block ∧ d.block < wc.heap.size by have h1 := hD d e; have h3 := Bc.out.size; omega)
              have Bc := Lib.hid (below_on Bc.out hb)
              clear hA hm hD hn hb
              go_simp
              refine hK.out _ _ (KS.out _ Bc.out) (fun h0_25 => ?_)
              clear hK K h0_24
              refine wpAnyH_take (i := 8) (v := ?v35) rfl (by kernel_rfl) (by kernel_rfl) (by kernel_rfl) (fun _ _ _ h => h) (Or.inl ⟨by rfl, ?hy35⟩) h0_25 ?rest35
              case hy35 => (intro w' hS; (try dsimp only at hS); go_simp; try (with_reducible rfl))
              simp only [Act.put, List.getElem_toArray, List.getElem_cons_zero, List.getElem_cons_succ, List.setIfInBounds_toArray, List.set_cons_zero, List.set_cons_succ]
              refine wpAnyH_take (i := 9) (v := ?v36) rfl (by kernel_rfl) (by kernel_rfl) (by kernel_rfl) (fun _ _ _ h => h) (Or.inl ⟨by rfl, ?hy36⟩) h0_25 ?rest36
              case hy36 => (intro w' hS; (try dsimp only at hS); go_simp; try (with_reducible rfl))
              simp only [Act.put, List.getElem_toArray, List.getElem_cons_zero, List.getElem_cons_succ, List.setIfInBounds_toArray, List.set_cons_zero, List.set_cons_succ]
              refine wpAnyH_take (i := 10) (v := ?v37) rfl (by kernel_rfl) (by kernel_rfl) (by kernel_rfl) (fun _ _ _ h => h) (Or.inl ⟨by rfl, ?hy37⟩) h0_25 ?rest37
              case hy37 => (intro w' hS; (try dsimp only at hS); go_simp; try (with_reducible rfl))
              simp only [Act.put, List.getElem_toArray, List.getElem_cons_zero, List.getElem_cons_succ, List.setIfInBounds_toArray, List.set_cons_zero, List.set_cons_succ]
              refine wpAnyH_ready (rs := [12]) (by kernel_rfl) (by simp) (AllReadyH.cons rfl (fun K hK => ?_) AllReadyH.nil)
              rw [if_pos (by rfl)]
              obtain ⟨q0, q1, q2, q3⟩ := Wt.out.facts
              go_simp
              have hW := Wt.out.put (.int .i64 M1) (.slice aok m1.length ck)
              have hA := arg_far' Ak.out Mkt.out (.int .i64 M1) (.slice aok m1.length ck)
              have hB := far_below Bc.out It.out.1 (.int .i64 M1) (.slice aok m1.length ck)
              obtain ⟨wc, hwc⟩ : ∃ wn, wn = (wc.setCell ⟨bt, 0, none⟩ (.int .i64 M1)).setCell ⟨bt, 1, none⟩ (.slice aok m1.length ck) := ⟨_, rfl⟩
              rw [← hwc] at hW hA hB ⊢
              have Wt := Lib.hid hW
              have Ak := Lib.hid hA
              have Bc := Lib.hid hB
              clear hW hA hB hwc q0 q1 q2 q3
              refine hK.out _ _ (KS.out _ Bc.out) (fun h0_26 => ?_)
              clear hK K h0_25
              refine wpAnyH_take (i := 13) (v := ?v38) rfl (by kernel_rfl) (by kernel_rfl) (by kernel_rfl) (fun _ _ _ h => h) (Or.inl ⟨by rfl, ?hy38⟩) h0_26 ?rest38
              case hy38 => (intro w' hS; (try dsimp only at hS); go_simp; try (with_reducible rfl))
              simp only [Act.put, List.getElem_toArray, List.getElem_cons_zero, List.getElem_cons_succ, List.setIfInBounds_toArray, List.set_cons_zero, List.set_cons_succ]
              refine wpAnyH_done (by kernel_rfl) ?_ _
              go_wp2_with fail
              go_meet
              case rel => exact ⟨bt, aok, ck, rfl, rfl, Lib.hid ⟨Wt.out, Ak.out, Lk.out, Bc.out⟩⟩
          · rw [if_pos (by rfl)]
            go_simp
            obtain ⟨bt, hbb⟩ : ∃ b, b = wc.heap.size := ⟨_, rfl⟩
            try (have Nxt := Lib.hid (show bx ≠ bt by have h := Ix.out; omega))
            try (have Nzt := Lib.hid (show bz ≠ bt by have h := Iz.out; omega))
            try (have Mrt := Lib.hid (fun (d : Addr) (e : aor = some d) => show d.block ≠ bt by have h := Dr.out d e; omega))
            try (have Mqt := Lib.hid (fun (d : Addr) (e : aoq = some d) => show d.block ≠ bt by have h := Dq.out d e; omega))
            try (have Mkt := Lib.hid (fun (d : Addr) (e : aok = some d) => show d.block ≠ bt by have h := Dk.out d e; omega))
            have hb := one_more (w1 := wc) (.cells #[.int .i64 0, .slice none 0 0] 24)
            have hX := Two.made wc (.int .i64 0) (.slice none 0 0) 24
            have hI : v2.heap.size ≤ bt ∧ bt < (wc.alloc (.cells #[.int .i64 0, .slice none 0 0] 24)).heap.size := by rw [hbb]; exact ⟨Bc.out.size, by simp⟩
            rw [← hbb] at hX
            obtain ⟨wc, hwc⟩ : ∃ wn, wn = wc.alloc (.cells #[.int .i64 0, .slice none 0 0] 24) := ⟨_, rfl⟩
            rw [← hwc] at hb hX hI ⊢
            try rw [← hbb]
            try (have Xx := Lib.hid (Xx.out.on hb))
            try (have Ix := Lib.hid (And.intro Ix.out.1 (Nat.lt_of_lt_of_le Ix.out.2 hb.size)))
            try (have Xz := Lib.hid (Xz.out.on hb))
            try (have Iz := Lib.hid (And.intro Iz.out.1 (Nat.lt_of_lt_of_le Iz.out.2 hb.size)))
            try (have Sr := Lib.hid (Sr.out.on hb))
            try (have Dr := Lib.hid (fun d e => And.intro (Dr.out d e).1 (Nat.lt_of_lt_of_le (Dr.out d e).2 hb.size)))
            try (have Sq := Lib.hid (Sq.out.on hb))
            try (have Dq := Lib.hid (fun d e => And.intro (Dq.out d e).1 (Nat.lt_of_lt_of_le (Dq.out d e).2 hb.size)))
            try (have Ak := Lib.hid (Ak.out.on hb))
            try (have Dk := Lib.hid (fun d e => And.intro (Dk.out d e).1 (Nat.lt_of_lt_of_le (Dk.out d e).2 hb.size)))
            have Bc := Lib.hid (below_on Bc.out hb)
            have Wt := Lib.hid hX
            have It := Lib.hid hI
            clear hb hX hI hwc hbb
            go_simp
            refine hK.out _ _ (KS.out _ Bc.out) (fun h0_17 => ?_)
            clear hK K h0_2
            refine wpAnyH_ready (rs := [3]) (by kernel_rfl) (by simp) (AllReadyH.cons rfl (fun K hK => ?_) AllReadyH.nil)
            rw [if_pos (by rfl)]
            obtain ⟨aor, cr, wc, hrun, hS, hD, hg⟩ := run_app (t := 25) (ty := 25) (e := 2) Try.underlying25 hj hy0 hy1 hy2 Xx.out (HLW.out _ Bc.out) (by omega)
            refine Lib.wp_append_run _ (.tmp 31) (.tmp 32) 25 25 rfl (.slice (some ⟨bx, 0, none⟩) 0 0) (.slice lo low.length lc) (by simp [Act.eval]) (by simp [Act.eval]) _ _ hrun ?_
            have hz := hg.size
            try (have Mrz := Lib.hid (fun (d : Addr) (e : aor = some d) => show d.block ≠ bz by have h1 := (hD d e).1; have h2 := Iz.out; first | (have h3 := Nxz.out; omega) | (have h3 := Nzx.out; omega)))
            try (have Mrt := Lib.hid (fun (d : Addr) (e : aor = some d) => show d.block ≠ bt by have h1 := (hD d e).1; have h2 := It.out; first | (have h3 := Nxt.out; omega) | (have h3 := Ntx.out; omega)))
            try (have Xz := Lib.hid (Xz.out.grown hg (by first | exact Nzx.out | exact Ne.symm Nxz.out)))
            try (have Iz := Lib.hid (And.intro Iz.out.1 (Nat.lt_of_lt_of_le Iz.out.2 hz)))
            try (have Sq := Lib.hid (Sq.out.grown hg Mqx.out))
            try (have Dq := Lib.hid (fun d e => And.intro (Dq.out d e).1 (Nat.lt_of_lt_of_le (Dq.out d e).2 hz)))
            try (have Wt := Lib.hid (Wt.out.grown hg (by first | exact Ntx.out | exact Ne.symm Nxt.out)))
            try (have It := Lib.hid (And.intro It.out.1 (Nat.lt_of_lt_of_le It.out.2 hz)))
            have Sr := Lib.hid hS
            have Dr := Lib.hid (fun (d : Addr) (e : aor = some d) => show v2.heap.size ≤ d.block ∧ d.block < wc.heap.size by have h1 := hD d e; have h2 := Ix.out; have h3 := Bc.out.size; omega)
            have Bc := Lib.hid (below_app Bc.out hg Ix.out.1)
            clear hrun hS hD hg hz
            clear Xx
            try simp only [Act.put, List.getElem_toArray, List.getElem_cons_zero, List.getElem_cons_succ, List.setIfInBounds_toArray, List.set_cons_zero, List.set_cons_succ]
            refine hK.out _ _ (KS.out _ Bc.out) (fun h0_27 => ?_)
            clear hK K h0_17
            refine wpAnyH_ready (rs := [6]) (by kernel_rfl) (by simp) (AllReadyH.cons rfl (fun K hK => ?_) AllReadyH.nil)
            rw [if_pos (by rfl)]
            obtain ⟨aoq, cq, wc, hrun, hS, hD, hg⟩ := run_app (t := 25) (ty := 25) (e := 2) Try.underlying25 hj hy0 hy1 hy2 Xz.out (HHW.out _ Bc.out) (by omega)
            refine Lib.wp_append_run _ (.tmp 34) (.tmp 35) 25 25 rfl (.slice (some ⟨bz, 0, none⟩) 0 0) (.slice ho high.length hc) (by simp [Act.eval]) (by simp [Act.eval]) _ _ hrun ?_
            have hz := hg.size
            try (have Mqx := Lib.hid (fun (d : Addr) (e : aoq = some d) => show d.block ≠ bx by have h1 := (hD d e).1; have h2 := Ix.out; first | (have h3 := Nzx.out; omega) | (have h3 := Nxz.out; omega)))
            try (have Mqt := Lib.hid (fun (d : Addr) (e : aoq = some d) => show d.block ≠ bt by have h1 := (hD d e).1; have h2 := It.out; first | (have h3 := Nzt.out; omega) | (have h3 := Ntz.out; omega)))
            try (have Xx := Lib.hid (Xx.out.grown hg (by first | exact Nxz.out | exact Ne.symm Nzx.out)))
            try (have Ix := Lib.hid (And.intro Ix.out.1 (Nat.lt_of_lt_of_le Ix.out.2 hz)))
            try (have Sr := Lib.hid (Sr.out.grown hg Mrz.out))
            try (have Dr := Lib.hid (fun d e => And.intro (Dr.out d e).1 (Nat.lt_of_lt_of_le (Dr.out d e).2 hz)))
            try (have Wt := Lib.hid (Wt.out.grown hg (by first | exact Ntz.out | exact Ne.symm Nzt.out)))
            try (have It := Lib.hid (And.intro It.out.1 (Nat.lt_of_lt_of_le It.out.2 hz)))
            have Sq := Lib.hid hS
            have Dq := Lib.hid (fun (d : Addr) (e : aoq = some d) => show v2.heap.size ≤ d.block ∧ d.block < wc.heap.size by have h1 := hD d e; have h2 := Iz.out; have h3 := Bc.out.size; omega)
            have Bc := Lib.hid (below_app Bc.out hg Iz.out.1)
            clear hrun hS hD hg hz
            clear Xz
            try simp only [Act.put, List.getElem_toArray, List.getElem_cons_zero, List.getElem_cons_succ, List.setIfInBounds_toArray, List.set_cons_zero, List.set_cons_succ]
            refine hK.out _ _ (KS.out _ Bc.out) (fun h0_28 => ?_)
            clear hK K h0_27
            refine wpAnyH_ready (rs := [7]) (by kernel_rfl) (by simp) (AllReadyH.cons rfl (fun K hK => ?_) AllReadyH.nil)
            rw [if_pos (by rfl)]
            go_simp
            refine (BO.out _ _ _ _ _ _ _ (OSW.out _ Bc.out) Sr.out Sq.out).mono ?_
            rintro e wc ⟨aok, ck, rfl, hA, hm, hD, hn, hb⟩
            try (have Mkt := Lib.hid (fun (d : Addr) (e : aok = some d) => show d.block ≠ bt by have h1 := (hD d e).1; have h2 := It.out; omega))
            try (have Xx := Lib.hid (Xx.out.on hb))
            try (have Ix := Lib.hid (And.intro Ix.out.1 (Nat.lt_of_lt_of_le Ix.out.2 hb.size)))
            try (have Xz := Lib.hid (Xz.out.on hb))
            try (have Iz := Lib.hid (And.intro Iz.out.1 (Nat.lt_of_lt_of_le Iz.out.2 hb.size)))
            try (have Sr := Lib.hid (Sr.out.on hb))
            try (have Dr := Lib.hid (fun d e => And.intro (Dr.out d e).1 (Nat.lt_of_lt_of_le (Dr.out d e).2 hb.size)))
            try (have Sq := Lib.hid (Sq.out.on hb))
            try (have Dq := Lib.hid (fun d e => And.intro (Dq.out d e).1 (Nat.lt_of_lt_of_le (Dq.out d e).2 hb.size)))
            try (have Wt := Lib.hid (Wt.out.kept hb))
            try (have It := Lib.hid (And.intro It.out.1 (Nat.lt_of_lt_of_le It.out.2 hb.size)))
            have Ak := Lib.hid hA
            have Lk := Lib.hid hm
            have Qk := Lib.hid hn
            have Dk := Lib.hid (fun (d : Addr) (e : aok = some d) => show v2.heap.size ≤ d.block ∧ d.block < wc.heap.size by have h1 := hD d e; have h3 := Bc.out.size; omega)
            have Bc := Lib.hid (below_on Bc.out hb)
            clear hA hm hD hn hb
            go_simp
            refine hK.out _ _ (KS.out _ Bc.out) (fun h0_29 => ?_)
            clear hK K h0_28
            refine wpAnyH_take (i := 8) (v := ?v39) rfl (by kernel_rfl) (by kernel_rfl) (by kernel_rfl) (fun _ _ _ h => h) (Or.inl ⟨by rfl, ?hy39⟩) h0_29 ?rest39
            case hy39 => (intro w' hS; (try dsimp only at hS); go_simp; try (with_reducible rfl))
            simp only [Act.put, List.getElem_toArray, List.getElem_cons_zero, List.getElem_cons_succ, List.setIfInBounds_toArray, List.set_cons_zero, List.set_cons_succ]
            refine wpAnyH_take (i := 9) (v := ?v40) rfl (by kernel_rfl) (by kernel_rfl) (by kernel_rfl) (fun _ _ _ h => h) (Or.inl ⟨by rfl, ?hy40⟩) h0_29 ?rest40
            case hy40 => (intro w' hS; (try dsimp only at hS); go_simp; try (with_reducible rfl))
            simp only [Act.put, List.getElem_toArray, List.getElem_cons_zero, List.getElem_cons_succ, List.setIfInBounds_toArray, List.set_cons_zero, List.set_cons_succ]
            refine wpAnyH_take (i := 10) (v := ?v41) rfl (by kernel_rfl) (by kernel_rfl) (by kernel_rfl) (fun _ _ _ h => h) (Or.inl ⟨by rfl, ?hy41⟩) h0_29 ?rest41
            case hy41 => (intro w' hS; (try dsimp only at hS); go_simp; try (with_reducible rfl))
            simp only [Act.put, List.getElem_toArray, List.getElem_cons_zero, List.getElem_cons_succ, List.setIfInBounds_toArray, List.set_cons_zero, List.set_cons_succ]
            refine wpAnyH_ready (rs := [12]) (by kernel_rfl) (by simp) (AllReadyH.cons rfl (fun K hK => ?_) AllReadyH.nil)
            rw [if_pos (by rfl)]
            obtain ⟨q0, q1, q2, q3⟩ := Wt.out.facts
            go_simp
            have hW := Wt.out.put (.int .i64 M1) (.slice aok m1.length ck)
            have hA := arg_far' Ak.out Mkt.out (.int .i64 M1) (.slice aok m1.length ck)
            have hB := far_below Bc.out It.out.1 (.int .i64 M1) (.slice aok m1.length ck)
            obtain ⟨wc, hwc⟩ : ∃ wn, wn = (wc.setCell ⟨bt, 0, none⟩ (.int .i64 M1)).setCell ⟨bt, 1, none⟩ (.slice aok m1.length ck) := ⟨_, rfl⟩
            rw [← hwc] at hW hA hB ⊢
            have Wt := Lib.hid hW
            have Ak := Lib.hid hA
            have Bc := Lib.hid hB
            clear hW hA hB hwc q0 q1 q2 q3
            refine hK.out _ _ (KS.out _ Bc.out) (fun h0_30 => ?_)
            clear hK K h0_29
            refine wpAnyH_take (i := 13) (v := ?v42) rfl (by kernel_rfl) (by kernel_rfl) (by kernel_rfl) (fun _ _ _ h => h) (Or.inl ⟨by rfl, ?hy42⟩) h0_30 ?rest42
            case hy42 => (intro w' hS; (try dsimp only at hS); go_simp; try (with_reducible rfl))
            simp only [Act.put, List.getElem_toArray, List.getElem_cons_zero, List.getElem_cons_succ, List.setIfInBounds_toArray, List.set_cons_zero, List.set_cons_succ]
            refine wpAnyH_done (by kernel_rfl) ?_ _
            go_wp2_with fail
            go_meet
            case rel => exact ⟨bt, aok, ck, rfl, rfl, Lib.hid ⟨Wt.out, Ak.out, Lk.out, Bc.out⟩⟩
        · rw [if_pos (by rfl)]
          go_simp
          obtain ⟨bt, hbb⟩ : ∃ b, b = wc.heap.size := ⟨_, rfl⟩
          try (have Nxt := Lib.hid (show bx ≠ bt by have h := Ix.out; omega))
          try (have Nzt := Lib.hid (show bz ≠ bt by have h := Iz.out; omega))
          try (have Mrt := Lib.hid (fun (d : Addr) (e : aor = some d) => show d.block ≠ bt by have h := Dr.out d e; omega))
          try (have Mqt := Lib.hid (fun (d : Addr) (e : aoq = some d) => show d.block ≠ bt by have h := Dq.out d e; omega))
          try (have Mkt := Lib.hid (fun (d : Addr) (e : aok = some d) => show d.block ≠ bt by have h := Dk.out d e; omega))
          have hb := one_more (w1 := wc) (.cells #[.int .i64 0, .slice none 0 0] 24)
          have hX := Two.made wc (.int .i64 0) (.slice none 0 0) 24
          have hI : v2.heap.size ≤ bt ∧ bt < (wc.alloc (.cells #[.int .i64 0, .slice none 0 0] 24)).heap.size := by rw [hbb]; exact ⟨Bc.out.size, by simp⟩
          rw [← hbb] at hX
          obtain ⟨wc, hwc⟩ : ∃ wn, wn = wc.alloc (.cells #[.int .i64 0, .slice none 0 0] 24) := ⟨_, rfl⟩
          rw [← hwc] at hb hX hI ⊢
          try rw [← hbb]
          try (have Xx := Lib.hid (Xx.out.on hb))
          try (have Ix := Lib.hid (And.intro Ix.out.1 (Nat.lt_of_lt_of_le Ix.out.2 hb.size)))
          try (have Xz := Lib.hid (Xz.out.on hb))
          try (have Iz := Lib.hid (And.intro Iz.out.1 (Nat.lt_of_lt_of_le Iz.out.2 hb.size)))
          try (have Sr := Lib.hid (Sr.out.on hb))
          try (have Dr := Lib.hid (fun d e => And.intro (Dr.out d e).1 (Nat.lt_of_lt_of_le (Dr.out d e).2 hb.size)))
          try (have Sq := Lib.hid (Sq.out.on hb))
          try (have Dq := Lib.hid (fun d e => And.intro (Dq.out d e).1 (Nat.lt_of_lt_of_le (Dq.out d e).2 hb.size)))
          try (have Ak := Lib.hid (Ak.out.on hb))
          try (have Dk := Lib.hid (fun d e => And.intro (Dk.out d e).1 (Nat.lt_of_lt_of_le (Dk.out d e).2 hb.size)))
          have Bc := Lib.hid (below_on Bc.out hb)
          have Wt := Lib.hid hX
          have It := Lib.hid hI
          clear hb hX hI hwc hbb
          go_simp
          refine hK.out _ _ (KS.out _ Bc.out) (fun h0_2 => ?_)
          clear hK K h0_1
          refine wpAnyH_ready (rs := [3, 4]) (by kernel_rfl) (by simp) (AllReadyH.cons rfl (fun K hK => ?_) (AllReadyH.cons rfl (fun K hK => ?_) AllReadyH.nil))
          · rw [if_pos (by rfl)]
            obtain ⟨aor, cr, wc, hrun, hS, hD, hg⟩ := run_app (t := 25) (ty := 25) (e := 2) Try.underlying25 hj hy0 hy1 hy2 Xx.out (HLW.out _ Bc.out) (by omega)
            refine Lib.wp_append_run _ (.tmp 31) (.tmp 32) 25 25 rfl (.slice (some ⟨bx, 0, none⟩) 0 0) (.slice lo low.length lc) (by simp [Act.eval]) (by simp [Act.eval]) _ _ hrun ?_
            have hz := hg.size
            try (have Mrz := Lib.hid (fun (d : Addr) (e : aor = some d) => show d.block ≠ bz by have h1 := (hD d e).1; have h2 := Iz.out; first | (have h3 := Nxz.out; omega) | (have h3 := Nzx.out; omega)))
            try (have Mrt := Lib.hid (fun (d : Addr) (e : aor = some d) => show d.block ≠ bt by have h1 := (hD d e).1; have h2 := It.out; first | (have h3 := Nxt.out; omega) | (have h3 := Ntx.out; omega)))
            try (have Xz := Lib.hid (Xz.out.grown hg (by first | exact Nzx.out | exact Ne.symm Nxz.out)))
            try (have Iz := Lib.hid (And.intro Iz.out.1 (Nat.lt_of_lt_of_le Iz.out.2 hz)))
            try (have Sq := Lib.hid (Sq.out.grown hg Mqx.out))
            try (have Dq := Lib.hid (fun d e => And.intro (Dq.out d e).1 (Nat.lt_of_lt_of_le (Dq.out d e).2 hz)))
            try (have Wt := Lib.hid (Wt.out.grown hg (by first | exact Ntx.out | exact Ne.symm Nxt.out)))
            try (have It := Lib.hid (And.intro It.out.1 (Nat.lt_of_lt_of_le It.out.2 hz)))
            have Sr := Lib.hid hS
            have Dr := Lib.hid (fun (d : Addr) (e : aor = some d) => show v2.heap.size ≤ d.block ∧ d.block < wc.heap.size by have h1 := hD d e; have h2 := Ix.out; have h3 := Bc.out.size; omega)
            have Bc := Lib.hid (below_app Bc.out hg Ix.out.1)
            clear hrun hS hD hg hz
            clear Xx
            try simp only [Act.put, List.getElem_toArray, List.getElem_cons_zero, List.getElem_cons_succ, List.setIfInBounds_toArray, List.set_cons_zero, List.set_cons_succ]
            refine hK.out _ _ (KS.out _ Bc.out) (fun h0_31 => ?_)
            clear hK K h0_2
            refine wpAnyH_ready (rs := [4]) (by kernel_rfl) (by simp) (AllReadyH.cons rfl (fun K hK => ?_) AllReadyH.nil)
            rw [if_pos (by rfl)]
            go_simp
            obtain ⟨bz, hbb⟩ : ∃ b, b = wc.heap.size := ⟨_, rfl⟩
            try (have Nxz := Lib.hid (show bx ≠ bz by have h := Ix.out; omega))
            try (have Ntz := Lib.hid (show bt ≠ bz by have h := It.out; omega))
            try (have Mrz := Lib.hid (fun (d : Addr) (e : aor = some d) => show d.block ≠ bz by have h := Dr.out d e; omega))
            try (have Mqz := Lib.hid (fun (d : Addr) (e : aoq = some d) => show d.block ≠ bz by have h := Dq.out d e; omega))
            try (have Mkz := Lib.hid (fun (d : Addr) (e : aok = some d) => show d.block ≠ bz by have h := Dk.out d e; omega))
            have hb := one_more (w1 := wc) (.cells #[] 2)
            have hX := Emp.made wc v2.heap.size 2 Bc.out.size
            have hI : v2.heap.size ≤ bz ∧ bz < (wc.alloc (.cells #[] 2)).heap.size := by rw [hbb]; exact ⟨Bc.out.size, by simp⟩
            rw [← hbb] at hX
            obtain ⟨wc, hwc⟩ : ∃ wn, wn = wc.alloc (.cells #[] 2) := ⟨_, rfl⟩
            rw [← hwc] at hb hX hI ⊢
            try rw [← hbb]
            try (have Xx := Lib.hid (Xx.out.on hb))
            try (have Ix := Lib.hid (And.intro Ix.out.1 (Nat.lt_of_lt_of_le Ix.out.2 hb.size)))
            try (have Sr := Lib.hid (Sr.out.on hb))
            try (have Dr := Lib.hid (fun d e => And.intro (Dr.out d e).1 (Nat.lt_of_lt_of_le (Dr.out d e).2 hb.size)))
            try (have Sq := Lib.hid (Sq.out.on hb))
            try (have Dq := Lib.hid (fun d e => And.intro (Dq.out d e).1 (Nat.lt_of_lt_of_le (Dq.out d e).2 hb.size)))
            try (have Wt := Lib.hid (Wt.out.kept hb))
            try (have It := Lib.hid (And.intro It.out.1 (Nat.lt_of_lt_of_le It.out.2 hb.size)))
            try (have Ak := Lib.hid (Ak.out.on hb))
            try (have Dk := Lib.hid (fun d e => And.intro (Dk.out d e).1 (Nat.lt_of_lt_of_le (Dk.out d e).2 hb.size)))
            have Bc := Lib.hid (below_on Bc.out hb)
            have Xz := Lib.hid hX
            have Iz := Lib.hid hI
            clear hb hX hI hwc hbb
            go_simp
            refine hK.out _ _ (KS.out _ Bc.out) (fun h0_32 => ?_)
            clear hK K h0_31
            refine wpAnyH_ready (rs := [6]) (by kernel_rfl) (by simp) (AllReadyH.cons rfl (fun K hK => ?_) AllReadyH.nil)
            rw [if_pos (by rfl)]
            obtain ⟨aoq, cq, wc, hrun, hS, hD, hg⟩ := run_app (t := 25) (ty := 25) (e := 2) Try.underlying25 hj hy0 hy1 hy2 Xz.out (HHW.out _ Bc.out) (by omega)
            refine Lib.wp_append_run _ (.tmp 34) (.tmp 35) 25 25 rfl (.slice (some ⟨bz, 0, none⟩) 0 0) (.slice ho high.length hc) (by simp [Act.eval]) (by simp [Act.eval]) _ _ hrun ?_
            have hz := hg.size
            try (have Mqx := Lib.hid (fun (d : Addr) (e : aoq = some d) => show d.block ≠ bx by have h1 := (hD d e).1; have h2 := Ix.out; first | (have h3 := Nzx.out; omega) | (have h3 := Nxz.out; omega)))
            try (have Mqt := Lib.hid (fun (d : Addr) (e : aoq = some d) => show d.block ≠ bt by have h1 := (hD d e).1; have h2 := It.out; first | (have h3 := Nzt.out; omega) | (have h3 := Ntz.out; omega)))
            try (have Xx := Lib.hid (Xx.out.grown hg (by first | exact Nxz.out | exact Ne.symm Nzx.out)))
            try (have Ix := Lib.hid (And.intro Ix.out.1 (Nat.lt_of_lt_of_le Ix.out.2 hz)))
            try (have Sr := Lib.hid (Sr.out.grown hg Mrz.out))
            try (have Dr := Lib.hid (fun d e => And.intro (Dr.out d e).1 (Nat.lt_of_lt_of_le (Dr.out d e).2 hz)))
            try (have Wt := Lib.hid (Wt.out.grown hg (by first | exact Ntz.out | exact Ne.symm Nzt.out)))
            try (have It := Lib.hid (And.intro It.out.1 (Nat.lt_of_lt_of_le It.out.2 hz)))
            have Sq := Lib.hid hS
            have Dq := Lib.hid (fun (d : Addr) (e : aoq = some d) => show v2.heap.size ≤ d.block ∧ d.block < wc.heap.size by have h1 := hD d e; have h2 := Iz.out; have h3 := Bc.out.size; omega)
            have Bc := Lib.hid (below_app Bc.out hg Iz.out.1)
            clear hrun hS hD hg hz
            clear Xz
            try simp only [Act.put, List.getElem_toArray, List.getElem_cons_zero, List.getElem_cons_succ, List.setIfInBounds_toArray, List.set_cons_zero, List.set_cons_succ]
            refine hK.out _ _ (KS.out _ Bc.out) (fun h0_33 => ?_)
            clear hK K h0_32
            refine wpAnyH_ready (rs := [7]) (by kernel_rfl) (by simp) (AllReadyH.cons rfl (fun K hK => ?_) AllReadyH.nil)
            rw [if_pos (by rfl)]
            go_simp
            refine (BO.out _ _ _ _ _ _ _ (OSW.out _ Bc.out) Sr.out Sq.out).mono ?_
            rintro e wc ⟨aok, ck, rfl, hA, hm, hD, hn, hb⟩
            try (have Mkt := Lib.hid (fun (d : Addr) (e : aok = some d) => show d.block ≠ bt by have h1 := (hD d e).1; have h2 := It.out; omega))
            try (have Xx := Lib.hid (Xx.out.on hb))
            try (have Ix := Lib.hid (And.intro Ix.out.1 (Nat.lt_of_lt_of_le Ix.out.2 hb.size)))
            try (have Xz := Lib.hid (Xz.out.on hb))
            try (have Iz := Lib.hid (And.intro Iz.out.1 (Nat.lt_of_lt_of_le Iz.out.2 hb.size)))
            try (have Sr := Lib.hid (Sr.out.on hb))
            try (have Dr := Lib.hid (fun d e => And.intro (Dr.out d e).1 (Nat.lt_of_lt_of_le (Dr.out d e).2 hb.size)))
            try (have Sq := Lib.hid (Sq.out.on hb))
            try (have Dq := Lib.hid (fun d e => And.intro (Dq.out d e).1 (Nat.lt_of_lt_of_le (Dq.out d e).2 hb.size)))
            try (have Wt := Lib.hid (Wt.out.kept hb))
            try (have It := Lib.hid (And.intro It.out.1 (Nat.lt_of_lt_of_le It.out.2 hb.size)))
            have Ak := Lib.hid hA
            have Lk := Lib.hid hm
            have Qk := Lib.hid hn
            have Dk := Lib.hid (fun (d : Addr) (e : aok = some d) => show v2.heap.size ≤ d.block ∧ d.block < wc.heap.size by have h1 := hD d e; have h3 := Bc.out.size; omega)
            have Bc := Lib.hid (below_on Bc.out hb)
            clear hA hm hD hn hb
            go_simp
            refine hK.out _ _ (KS.out _ Bc.out) (fun h0_34 => ?_)
            clear hK K h0_33
            refine wpAnyH_take (i := 8) (v := ?v43) rfl (by kernel_rfl) (by kernel_rfl) (by kernel_rfl) (fun _ _ _ h => h) (Or.inl ⟨by rfl, ?hy43⟩) h0_34 ?rest43
            case hy43 => (intro w' hS; (try dsimp only at hS); go_simp; try (with_reducible rfl))
            simp only [Act.put, List.getElem_toArray, List.getElem_cons_zero, List.getElem_cons_succ, List.setIfInBounds_toArray, List.set_cons_zero, List.set_cons_succ]
            refine wpAnyH_take (i := 9) (v := ?v44) rfl (by kernel_rfl) (by kernel_rfl) (by kernel_rfl) (fun _ _ _ h => h) (Or.inl ⟨by rfl, ?hy44⟩) h0_34 ?rest44
            case hy44 => (intro w' hS; (try dsimp only at hS); go_simp; try (with_reducible rfl))
            simp only [Act.put, List.getElem_toArray, List.getElem_cons_zero, List.getElem_cons_succ, List.setIfInBounds_toArray, List.set_cons_zero, List.set_cons_succ]
            refine wpAnyH_take (i := 10) (v := ?v45) rfl (by kernel_rfl) (by kernel_rfl) (by kernel_rfl) (fun _ _ _ h => h) (Or.inl ⟨by rfl, ?hy45⟩) h0_34 ?rest45
            case hy45 => (intro w' hS; (try dsimp only at hS); go_simp; try (with_reducible rfl))
            simp only [Act.put, List.getElem_toArray, List.getElem_cons_zero, List.getElem_cons_succ, List.setIfInBounds_toArray, List.set_cons_zero, List.set_cons_succ]
            refine wpAnyH_ready (rs := [12]) (by kernel_rfl) (by simp) (AllReadyH.cons rfl (fun K hK => ?_) AllReadyH.nil)
            rw [if_pos (by rfl)]
            obtain ⟨q0, q1, q2, q3⟩ := Wt.out.facts
            go_simp
            have hW := Wt.out.put (.int .i64 M1) (.slice aok m1.length ck)
            have hA := arg_far' Ak.out Mkt.out (.int .i64 M1) (.slice aok m1.length ck)
            have hB := far_below Bc.out It.out.1 (.int .i64 M1) (.slice aok m1.length ck)
            obtain ⟨wc, hwc⟩ : ∃ wn, wn = (wc.setCell ⟨bt, 0, none⟩ (.int .i64 M1)).setCell ⟨bt, 1, none⟩ (.slice aok m1.length ck) := ⟨_, rfl⟩
            rw [← hwc] at hW hA hB ⊢
            have Wt := Lib.hid hW
            have Ak := Lib.hid hA
            have Bc := Lib.hid hB
            clear hW hA hB hwc q0 q1 q2 q3
            refine hK.out _ _ (KS.out _ Bc.out) (fun h0_35 => ?_)
            clear hK K h0_34
            refine wpAnyH_take (i := 13) (v := ?v46) rfl (by kernel_rfl) (by kernel_rfl) (by kernel_rfl) (fun _ _ _ h => h) (Or.inl ⟨by rfl, ?hy46⟩) h0_35 ?rest46
            case hy46 => (intro w' hS; (try dsimp only at hS); go_simp; try (with_reducible rfl))
            simp only [Act.put, List.getElem_toArray, List.getElem_cons_zero, List.getElem_cons_succ, List.setIfInBounds_toArray, List.set_cons_zero, List.set_cons_succ]
            refine wpAnyH_done (by kernel_rfl) ?_ _
            go_wp2_with fail
            go_meet
            case rel => exact ⟨bt, aok, ck, rfl, rfl, Lib.hid ⟨Wt.out, Ak.out, Lk.out, Bc.out⟩⟩
          · rw [if_pos (by rfl)]
            go_simp
            obtain ⟨bz, hbb⟩ : ∃ b, b = wc.heap.size := ⟨_, rfl⟩
            try (have Nxz := Lib.hid (show bx ≠ bz by have h := Ix.out; omega))
            try (have Ntz := Lib.hid (show bt ≠ bz by have h := It.out; omega))
            try (have Mrz := Lib.hid (fun (d : Addr) (e : aor = some d) => show d.block ≠ bz by have h := Dr.out d e; omega))
            try (have Mqz := Lib.hid (fun (d : Addr) (e : aoq = some d) => show d.block ≠ bz by have h := Dq.out d e; omega))
            try (have Mkz := Lib.hid (fun (d : Addr) (e : aok = some d) => show d.block ≠ bz by have h := Dk.out d e; omega))
            have hb := one_more (w1 := wc) (.cells #[] 2)
            have hX := Emp.made wc v2.heap.size 2 Bc.out.size
            have hI : v2.heap.size ≤ bz ∧ bz < (wc.alloc (.cells #[] 2)).heap.size := by rw [hbb]; exact ⟨Bc.out.size, by simp⟩
            rw [← hbb] at hX
            obtain ⟨wc, hwc⟩ : ∃ wn, wn = wc.alloc (.cells #[] 2) := ⟨_, rfl⟩
            rw [← hwc] at hb hX hI ⊢
            try rw [← hbb]
            try (have Xx := Lib.hid (Xx.out.on hb))
            try (have Ix := Lib.hid (And.intro Ix.out.1 (Nat.lt_of_lt_of_le Ix.out.2 hb.size)))
            try (have Sr := Lib.hid (Sr.out.on hb))
            try (have Dr := Lib.hid (fun d e => And.intro (Dr.out d e).1 (Nat.lt_of_lt_of_le (Dr.out d e).2 hb.size)))
            try (have Sq := Lib.hid (Sq.out.on hb))
            try (have Dq := Lib.hid (fun d e => And.intro (Dq.out d e).1 (Nat.lt_of_lt_of_le (Dq.out d e).2 hb.size)))
            try (have Wt := Lib.hid (Wt.out.kept hb))
            try (have It := Lib.hid (And.intro It.out.1 (Nat.lt_of_lt_of_le It.out.2 hb.size)))
            try (have Ak := Lib.hid (Ak.out.on hb))
            try (have Dk := Lib.hid (fun d e => And.intro (Dk.out d e).1 (Nat.lt_of_lt_of_le (Dk.out d e).2 hb.size)))
            have Bc := Lib.hid (below_on Bc.out hb)
            have Xz := Lib.hid hX
            have Iz := Lib.hid hI
            clear hb hX hI hwc hbb
            go_simp
            refine hK.out _ _ (KS.out _ Bc.out) (fun h0_31 => ?_)
            clear hK K h0_2
            refine wpAnyH_ready (rs := [3]) (by kernel_rfl) (by simp) (AllReadyH.cons rfl (fun K hK => ?_) AllReadyH.nil)
            rw [if_pos (by rfl)]
            obtain ⟨aor, cr, wc, hrun, hS, hD, hg⟩ := run_app (t := 25) (ty := 25) (e := 2) Try.underlying25 hj hy0 hy1 hy2 Xx.out (HLW.out _ Bc.out) (by omega)
            refine Lib.wp_append_run _ (.tmp 31) (.tmp 32) 25 25 rfl (.slice (some ⟨bx, 0, none⟩) 0 0) (.slice lo low.length lc) (by simp [Act.eval]) (by simp [Act.eval]) _ _ hrun ?_
            have hz := hg.size
            try (have Mrz := Lib.hid (fun (d : Addr) (e : aor = some d) => show d.block ≠ bz by have h1 := (hD d e).1; have h2 := Iz.out; first | (have h3 := Nxz.out; omega) | (have h3 := Nzx.out; omega)))
            try (have Mrt := Lib.hid (fun (d : Addr) (e : aor = some d) => show d.block ≠ bt by have h1 := (hD d e).1; have h2 := It.out; first | (have h3 := Nxt.out; omega) | (have h3 := Ntx.out; omega)))
            try (have Xz := Lib.hid (Xz.out.grown hg (by first | exact Nzx.out | exact Ne.symm Nxz.out)))
            try (have Iz := Lib.hid (And.intro Iz.out.1 (Nat.lt_of_lt_of_le Iz.out.2 hz)))
            try (have Sq := Lib.hid (Sq.out.grown hg Mqx.out))
            try (have Dq := Lib.hid (fun d e => And.intro (Dq.out d e).1 (Nat.lt_of_lt_of_le (Dq.out d e).2 hz)))
            try (have Wt := Lib.hid (Wt.out.grown hg (by first | exact Ntx.out | exact Ne.symm Nxt.out)))
            try (have It := Lib.hid (And.intro It.out.1 (Nat.lt_of_lt_of_le It.out.2 hz)))
            have Sr := Lib.hid hS
            have Dr := Lib.hid (fun (d : Addr) (e : aor = some d) => show v2.heap.size ≤ d.block ∧ d.block < wc.heap.size by have h1 := hD d e; have h2 := Ix.out; have h3 := Bc.out.size; omega)
            have Bc := Lib.hid (below_app Bc.out hg Ix.out.1)
            clear hrun hS hD hg hz
            clear Xx
            try simp only [Act.put, List.getElem_toArray, List.getElem_cons_zero, List.getElem_cons_succ, List.setIfInBounds_toArray, List.set_cons_zero, List.set_cons_succ]
            refine hK.out _ _ (KS.out _ Bc.out) (fun h0_36 => ?_)
            clear hK K h0_31
            refine wpAnyH_ready (rs := [6]) (by kernel_rfl) (by simp) (AllReadyH.cons rfl (fun K hK => ?_) AllReadyH.nil)
            rw [if_pos (by rfl)]
            obtain ⟨aoq, cq, wc, hrun, hS, hD, hg⟩ := run_app (t := 25) (ty := 25) (e := 2) Try.underlying25 hj hy0 hy1 hy2 Xz.out (HHW.out _ Bc.out) (by omega)
            refine Lib.wp_append_run _ (.tmp 34) (.tmp 35) 25 25 rfl (.slice (some ⟨bz, 0, none⟩) 0 0) (.slice ho high.length hc) (by simp [Act.eval]) (by simp [Act.eval]) _ _ hrun ?_
            have hz := hg.size
            try (have Mqx := Lib.hid (fun (d : Addr) (e : aoq = some d) => show d.block ≠ bx by have h1 := (hD d e).1; have h2 := Ix.out; first | (have h3 := Nzx.out; omega) | (have h3 := Nxz.out; omega)))
            try (have Mqt := Lib.hid (fun (d : Addr) (e : aoq = some d) => show d.block ≠ bt by have h1 := (hD d e).1; have h2 := It.out; first | (have h3 := Nzt.out; omega) | (have h3 := Ntz.out; omega)))
            try (have Xx := Lib.hid (Xx.out.grown hg (by first | exact Nxz.out | exact Ne.symm Nzx.out)))
            try (have Ix := Lib.hid (And.intro Ix.out.1 (Nat.lt_of_lt_of_le Ix.out.2 hz)))
            try (have Sr := Lib.hid (Sr.out.grown hg Mrz.out))
            try (have Dr := Lib.hid (fun d e => And.intro (Dr.out d e).1 (Nat.lt_of_lt_of_le (Dr.out d e).2 hz)))
            try (have Wt := Lib.hid (Wt.out.grown hg (by first | exact Ntz.out | exact Ne.symm Nzt.out)))
            try (have It := Lib.hid (And.intro It.out.1 (Nat.lt_of_lt_of_le It.out.2 hz)))
            have Sq := Lib.hid hS
            have Dq := Lib.hid (fun (d : Addr) (e : aoq = some d) => show v2.heap.size ≤ d.block ∧ d.block < wc.heap.size by have h1 := hD d e; have h2 := Iz.out; have h3 := Bc.out.size; omega)
            have Bc := Lib.hid (below_app Bc.out hg Iz.out.1)
            clear hrun hS hD hg hz
            clear Xz
            try simp only [Act.put, List.getElem_toArray, List.getElem_cons_zero, List.getElem_cons_succ, List.setIfInBounds_toArray, List.set_cons_zero, List.set_cons_succ]
            refine hK.out _ _ (KS.out _ Bc.out) (fun h0_37 => ?_)
            clear hK K h0_36
            refine wpAnyH_ready (rs := [7]) (by kernel_rfl) (by simp) (AllReadyH.cons rfl (fun K hK => ?_) AllReadyH.nil)
            rw [if_pos (by rfl)]
            go_simp
            refine (BO.out _ _ _ _ _ _ _ (OSW.out _ Bc.out) Sr.out Sq.out).mono ?_
            rintro e wc ⟨aok, ck, rfl, hA, hm, hD, hn, hb⟩
            try (have Mkt := Lib.hid (fun (d : Addr) (e : aok = some d) => show d.block ≠ bt by have h1 := (hD d e).1; have h2 := It.out; omega))
            try (have Xx := Lib.hid (Xx.out.on hb))
            try (have Ix := Lib.hid (And.intro Ix.out.1 (Nat.lt_of_lt_of_le Ix.out.2 hb.size)))
            try (have Xz := Lib.hid (Xz.out.on hb))
            try (have Iz := Lib.hid (And.intro Iz.out.1 (Nat.lt_of_lt_of_le Iz.out.2 hb.size)))
            try (have Sr := Lib.hid (Sr.out.on hb))
            try (have Dr := Lib.hid (fun d e => And.intro (Dr.out d e).1 (Nat.lt_of_lt_of_le (Dr.out d e).2 hb.size)))
            try (have Sq := Lib.hid (Sq.out.on hb))
            try (have Dq := Lib.hid (fun d e => And.intro (Dq.out d e).1 (Nat.lt_of_lt_of_le (Dq.out d e).2 hb.size)))
            try (have Wt := Lib.hid (Wt.out.kept hb))
            try (have It := Lib.hid (And.intro It.out.1 (Nat.lt_of_lt_of_le It.out.2 hb.size)))
            have Ak := Lib.hid hA
            have Lk := Lib.hid hm
            have Qk := Lib.hid hn
            have Dk := Lib.hid (fun (d : Addr) (e : aok = some d) => show v2.heap.size ≤ d.block ∧ d.block < wc.heap.size by have h1 := hD d e; have h3 := Bc.out.size; omega)
            have Bc := Lib.hid (below_on Bc.out hb)
            clear hA hm hD hn hb
            go_simp
            refine hK.out _ _ (KS.out _ Bc.out) (fun h0_38 => ?_)
            clear hK K h0_37
            refine wpAnyH_take (i := 8) (v := ?v47) rfl (by kernel_rfl) (by kernel_rfl) (by kernel_rfl) (fun _ _ _ h => h) (Or.inl ⟨by rfl, ?hy47⟩) h0_38 ?rest47
            case hy47 => (intro w' hS; (try dsimp only at hS); go_simp; try (with_reducible rfl))
            simp only [Act.put, List.getElem_toArray, List.getElem_cons_zero, List.getElem_cons_succ, List.setIfInBounds_toArray, List.set_cons_zero, List.set_cons_succ]
            refine wpAnyH_take (i := 9) (v := ?v48) rfl (by kernel_rfl) (by kernel_rfl) (by kernel_rfl) (fun _ _ _ h => h) (Or.inl ⟨by rfl, ?hy48⟩) h0_38 ?rest48
            case hy48 => (intro w' hS; (try dsimp only at hS); go_simp; try (with_reducible rfl))
            simp only [Act.put, List.getElem_toArray, List.getElem_cons_zero, List.getElem_cons_succ, List.setIfInBounds_toArray, List.set_cons_zero, List.set_cons_succ]
            refine wpAnyH_take (i := 10) (v := ?v49) rfl (by kernel_rfl) (by kernel_rfl) (by kernel_rfl) (fun _ _ _ h => h) (Or.inl ⟨by rfl, ?hy49⟩) h0_38 ?rest49
            case hy49 => (intro w' hS; (try dsimp only at hS); go_simp; try (with_reducible rfl))
            simp only [Act.put, List.getElem_toArray, List.getElem_cons_zero, List.getElem_cons_succ, List.setIfInBounds_toArray, List.set_cons_zero, List.set_cons_succ]
            refine wpAnyH_ready (rs := [12]) (by kernel_rfl) (by simp) (AllReadyH.cons rfl (fun K hK => ?_) AllReadyH.nil)
            rw [if_pos (by rfl)]
            obtain ⟨q0, q1, q2, q3⟩ := Wt.out.facts
            go_simp
            have hW := Wt.out.put (.int .i64 M1) (.slice aok m1.length ck)
            have hA := arg_far' Ak.out Mkt.out (.int .i64 M1) (.slice aok m1.length ck)
            have hB := far_below Bc.out It.out.1 (.int .i64 M1) (.slice aok m1.length ck)
            obtain ⟨wc, hwc⟩ : ∃ wn, wn = (wc.setCell ⟨bt, 0, none⟩ (.int .i64 M1)).setCell ⟨bt, 1, none⟩ (.slice aok m1.length ck) := ⟨_, rfl⟩
            rw [← hwc] at hW hA hB ⊢
            have Wt := Lib.hid hW
            have Ak := Lib.hid hA
            have Bc := Lib.hid hB
            clear hW hA hB hwc q0 q1 q2 q3
            refine hK.out _ _ (KS.out _ Bc.out) (fun h0_39 => ?_)
            clear hK K h0_38
            refine wpAnyH_take (i := 13) (v := ?v50) rfl (by kernel_rfl) (by kernel_rfl) (by kernel_rfl) (fun _ _ _ h => h) (Or.inl ⟨by rfl, ?hy50⟩) h0_39 ?rest50
            case hy50 => (intro w' hS; (try dsimp only at hS); go_simp; try (with_reducible rfl))
            simp only [Act.put, List.getElem_toArray, List.getElem_cons_zero, List.getElem_cons_succ, List.setIfInBounds_toArray, List.set_cons_zero, List.set_cons_succ]
            refine wpAnyH_done (by kernel_rfl) ?_ _
            go_wp2_with fail
            go_meet
            case rel => exact ⟨bt, aok, ck, rfl, rfl, Lib.hid ⟨Wt.out, Ak.out, Lk.out, Bc.out⟩⟩
      · rw [if_pos (by rfl)]
        go_simp
        obtain ⟨bz, hbb⟩ : ∃ b, b = wc.heap.size := ⟨_, rfl⟩
        try (have Nxz := Lib.hid (show bx ≠ bz by have h := Ix.out; omega))
        try (have Ntz := Lib.hid (show bt ≠ bz by have h := It.out; omega))
        try (have Mrz := Lib.hid (fun (d : Addr) (e : aor = some d) => show d.block ≠ bz by have h := Dr.out d e; omega))
        try (have Mqz := Lib.hid (fun (d : Addr) (e : aoq = some d) => show d.block ≠ bz by have h := Dq.out d e; omega))
        try (have Mkz := Lib.hid (fun (d : Addr) (e : aok = some d) => show d.block ≠ bz by have h := Dk.out d e; omega))
        have hb := one_more (w1 := wc) (.cells #[] 2)
        have hX := Emp.made wc v2.heap.size 2 Bc.out.size
        have hI : v2.heap.size ≤ bz ∧ bz < (wc.alloc (.cells #[] 2)).heap.size := by rw [hbb]; exact ⟨Bc.out.size, by simp⟩
        rw [← hbb] at hX
        obtain ⟨wc, hwc⟩ : ∃ wn, wn = wc.alloc (.cells #[] 2) := ⟨_, rfl⟩
        rw [← hwc] at hb hX hI ⊢
        try rw [← hbb]
        try (have Xx := Lib.hid (Xx.out.on hb))
        try (have Ix := Lib.hid (And.intro Ix.out.1 (Nat.lt_of_lt_of_le Ix.out.2 hb.size)))
        try (have Sr := Lib.hid (Sr.out.on hb))
        try (have Dr := Lib.hid (fun d e => And.intro (Dr.out d e).1 (Nat.lt_of_lt_of_le (Dr.out d e).2 hb.size)))
        try (have Sq := Lib.hid (Sq.out.on hb))
        try (have Dq := Lib.hid (fun d e => And.intro (Dq.out d e).1 (Nat.lt_of_lt_of_le (Dq.out d e).2 hb.size)))
        try (have Wt := Lib.hid (Wt.out.kept hb))
        try (have It := Lib.hid (And.intro It.out.1 (Nat.lt_of_lt_of_le It.out.2 hb.size)))
        try (have Ak := Lib.hid (Ak.out.on hb))
        try (have Dk := Lib.hid (fun d e => And.intro (Dk.out d e).1 (Nat.lt_of_lt_of_le (Dk.out d e).2 hb.size)))
        have Bc := Lib.hid (below_on Bc.out hb)
        have Xz := Lib.hid hX
        have Iz := Lib.hid hI
        clear hb hX hI hwc hbb
        go_simp
        refine hK.out _ _ (KS.out _ Bc.out) (fun h0_1 => ?_)
        clear hK K h0
        refine wpAnyH_ready (rs := [1, 11]) (by kernel_rfl) (by simp) (AllReadyH.cons rfl (fun K hK => ?_) (AllReadyH.cons rfl (fun K hK => ?_) AllReadyH.nil))
        · rw [if_pos (by rfl)]
          go_simp
          obtain ⟨bx, hbb⟩ : ∃ b, b = wc.heap.size := ⟨_, rfl⟩
          try (have Nzx := Lib.hid (show bz ≠ bx by have h := Iz.out; omega))
          try (have Ntx := Lib.hid (show bt ≠ bx by have h := It.out; omega))
          try (have Mrx := Lib.hid (fun (d : Addr) (e : aor = some d) => show d.block ≠ bx by have h := Dr.out d e; omega))
          try (have Mqx := Lib.hid (fun (d : Addr) (e : aoq = some d) => show d.block ≠ bx by have h := Dq.out d e; omega))
          try (have Mkx := Lib.hid (fun (d : Addr) (e : aok = some d) => show d.block ≠ bx by have h := Dk.out d e; omega))
          have hb := one_more (w1 := wc) (.cells #[] 2)
          have hX := Emp.made wc v2.heap.size 2 Bc.out.size
          have hI : v2.heap.size ≤ bx ∧ bx < (wc.alloc (.cells #[] 2)).heap.size := by rw [hbb]; exact ⟨Bc.out.size, by simp⟩
          rw [← hbb] at hX
          obtain ⟨wc, hwc⟩ : ∃ wn, wn = wc.alloc (.cells #[] 2) := ⟨_, rfl⟩
          rw [← hwc] at hb hX hI ⊢
          try rw [← hbb]
          try (have Xz := Lib.hid (Xz.out.on hb))
          try (have Iz := Lib.hid (And.intro Iz.out.1 (Nat.lt_of_lt_of_le Iz.out.2 hb.size)))
          try (have Sr := Lib.hid (Sr.out.on hb))
          try (have Dr := Lib.hid (fun d e => And.intro (Dr.out d e).1 (Nat.lt_of_lt_of_le (Dr.out d e).2 hb.size)))
          try (have Sq := Lib.hid (Sq.out.on hb))
          try (have Dq := Lib.hid (fun d e => And.intro (Dq.out d e).1 (Nat.lt_of_lt_of_le (Dq.out d e).2 hb.size)))
          try (have Wt := Lib.hid (Wt.out.kept hb))
          try (have It := Lib.hid (And.intro It.out.1 (Nat.lt_of_lt_of_le It.out.2 hb.size)))
          try (have Ak := Lib.hid (Ak.out.on hb))
          try (have Dk := Lib.hid (fun d e => And.intro (Dk.out d e).1 (Nat.lt_of_lt_of_le (Dk.out d e).2 hb.size)))
          have Bc := Lib.hid (below_on Bc.out hb)
          have Xx := Lib.hid hX
          have Ix := Lib.hid hI
          clear hb hX hI hwc hbb
          go_simp
          refine hK.out _ _ (KS.out _ Bc.out) (fun h0_40 => ?_)
          clear hK K h0_1
          refine wpAnyH_ready (rs := [3, 11]) (by kernel_rfl) (by simp) (AllReadyH.cons rfl (fun K hK => ?_) (AllReadyH.cons rfl (fun K hK => ?_) AllReadyH.nil))
          · rw [if_pos (by rfl)]
            obtain ⟨aor, cr, wc, hrun, hS, hD, hg⟩ := run_app (t := 25) (ty := 25) (e := 2) Try.underlying25 hj hy0 hy1 hy2 Xx.out (HLW.out _ Bc.out) (by omega)
            refine Lib.wp_append_run _ (.tmp 31) (.tmp 32) 25 25 rfl (.slice (some ⟨bx, 0, none⟩) 0 0) (.slice lo low.length lc) (by simp [Act.eval]) (by simp [Act.eval]) _ _ hrun ?_
            have hz := hg.size
            try (have Mrz := Lib.hid (fun (d : Addr) (e : aor = some d) => show d.block ≠ bz by have h1 := (hD d e).1; have h2 := Iz.out; first | (have h3 := Nxz.out; omega) | (have h3 := Nzx.out; omega)))
            try (have Mrt := Lib.hid (fun (d : Addr) (e : aor = some d) => show d.block ≠ bt by have h1 := (hD d e).1; have h2 := It.out; first | (have h3 := Nxt.out; omega) | (have h3 := Ntx.out; omega)))
            try (have Xz := Lib.hid (Xz.out.grown hg (by first | exact Nzx.out | exact Ne.symm Nxz.out)))
            try (have Iz := Lib.hid (And.intro Iz.out.1 (Nat.lt_of_lt_of_le Iz.out.2 hz)))
            try (have Sq := Lib.hid (Sq.out.grown hg Mqx.out))
            try (have Dq := Lib.hid (fun d e => And.intro (Dq.out d e).1 (Nat.lt_of_lt_of_le (Dq.out d e).2 hz)))
            try (have Wt := Lib.hid (Wt.out.grown hg (by first | exact Ntx.out | exact Ne.symm Nxt.out)))
            try (have It := Lib.hid (And.intro It.out.1 (Nat.lt_of_lt_of_le It.out.2 hz)))
            have Sr := Lib.hid hS
            have Dr := Lib.hid (fun (d : Addr) (e : aor = some d) => show v2.heap.size ≤ d.block ∧ d.block < wc.heap.size by have h1 := hD d e; have h2 := Ix.out; have h3 := Bc.out.size; omega)
            have Bc := Lib.hid (below_app Bc.out hg Ix.out.1)
            clear hrun hS hD hg hz
            clear Xx
            try simp only [Act.put, List.getElem_toArray, List.getElem_cons_zero, List.getElem_cons_succ, List.setIfInBounds_toArray, List.set_cons_zero, List.set_cons_succ]
            refine hK.out _ _ (KS.out _ Bc.out) (fun h0_41 => ?_)
            clear hK K h0_40
            refine wpAnyH_ready (rs := [6, 11]) (by kernel_rfl) (by simp) (AllReadyH.cons rfl (fun K hK => ?_) (AllReadyH.cons rfl (fun K hK => ?_) AllReadyH.nil))
            · rw [if_pos (by rfl)]
              obtain ⟨aoq, cq, wc, hrun, hS, hD, hg⟩ := run_app (t := 25) (ty := 25) (e := 2) Try.underlying25 hj hy0 hy1 hy2 Xz.out (HHW.out _ Bc.out) (by omega)
              refine Lib.wp_append_run _ (.tmp 34) (.tmp 35) 25 25 rfl (.slice (some ⟨bz, 0, none⟩) 0 0) (.slice ho high.length hc) (by simp [Act.eval]) (by simp [Act.eval]) _ _ hrun ?_
              have hz := hg.size
              try (have Mqx := Lib.hid (fun (d : Addr) (e : aoq = some d) => show d.block ≠ bx by have h1 := (hD d e).1; have h2 := Ix.out; first | (have h3 := Nzx.out; omega) | (have h3 := Nxz.out; omega)))
              try (have Mqt := Lib.hid (fun (d : Addr) (e : aoq = some d) => show d.block ≠ bt by have h1 := (hD d e).1; have h2 := It.out; first | (have h3 := Nzt.out; omega) | (have h3 := Ntz.out; omega)))
              try (have Xx := Lib.hid (Xx.out.grown hg (by first | exact Nxz.out | exact Ne.symm Nzx.out)))
              try (have Ix := Lib.hid (And.intro Ix.out.1 (Nat.lt_of_lt_of_le Ix.out.2 hz)))
              try (have Sr := Lib.hid (Sr.out.grown hg Mrz.out))
              try (have Dr := Lib.hid (fun d e => And.intro (Dr.out d e).1 (Nat.lt_of_lt_of_le (Dr.out d e).2 hz)))
              try (have Wt := Lib.hid (Wt.out.grown hg (by first | exact Ntz.out | exact Ne.symm Nzt.out)))
              try (have It := Lib.hid (And.intro It.out.1 (Nat.lt_of_lt_of_le It.out.2 hz)))
              have Sq := Lib.hid hS
              have Dq := Lib.hid (fun (d : Addr) (e : aoq = some d) => show v2.heap.size ≤ d.block ∧ d.block < wc.heap.size by have h1 := hD d e; have h2 := Iz.out; have h3 := Bc.out.size; omega)
              have Bc := Lib.hid (below_app Bc.out hg Iz.out.1)
              clear hrun hS hD hg hz
              clear Xz
              try simp only [Act.put, List.getElem_toArray, List.getElem_cons_zero, List.getElem_cons_succ, List.setIfInBounds_toArray, List.set_cons_zero, List.set_cons_succ]
              refine hK.out _ _ (KS.out _ Bc.out) (fun h0_42 => ?_)
              clear hK K h0_41
              refine wpAnyH_ready (rs := [7, 11]) (by kernel_rfl) (by simp) (AllReadyH.cons rfl (fun K hK => ?_) (AllReadyH.cons rfl (fun K hK => ?_) AllReadyH.nil))
              · rw [if_pos (by rfl)]
                go_simp
                refine (BO.out _ _ _ _ _ _ _ (OSW.out _ Bc.out) Sr.out Sq.out).mono ?_
                rintro e wc ⟨aok, ck, rfl, hA, hm, hD, hn, hb⟩
                try (have Mkt := Lib.hid (fun (d : Addr) (e : aok = some d) => show d.block ≠ bt by have h1 := (hD d e).1; have h2 := It.out; omega))
                try (have Xx := Lib.hid (Xx.out.on hb))
                try (have Ix := Lib.hid (And.intro Ix.out.1 (Nat.lt_of_lt_of_le Ix.out.2 hb.size)))
                try (have Xz := Lib.hid (Xz.out.on hb))
                try (have Iz := Lib.hid (And.intro Iz.out.1 (Nat.lt_of_lt_of_le Iz.out.2 hb.size)))
                try (have Sr := Lib.hid (Sr.out.on hb))
                try (have Dr := Lib.hid (fun d e => And.intro (Dr.out d e).1 (Nat.lt_of_lt_of_le (Dr.out d e).2 hb.size)))
                try (have Sq := Lib.hid (Sq.out.on hb))
                try (have Dq := Lib.hid (fun d e => And.intro (Dq.out d e).1 (Nat.lt_of_lt_of_le (Dq.out d e).2 hb.size)))
                try (have Wt := Lib.hid (Wt.out.kept hb))
                try (have It := Lib.hid (And.intro It.out.1 (Nat.lt_of_lt_of_le It.out.2 hb.size)))
                have Ak := Lib.hid hA
                have Lk := Lib.hid hm
                have Qk := Lib.hid hn
                have Dk := Lib.hid (fun (d : Addr) (e : aok = some d) => show v2.heap.size ≤ d.block ∧ d.block < wc.heap.size by have h1 := hD d e; have h3 := Bc.out.size; omega)
                have Bc := Lib.hid (below_on Bc.out hb)
                clear hA hm hD hn hb
                go_simp
                refine hK.out _ _ (KS.out _ Bc.out) (fun h0_43 => ?_)
                clear hK K h0_42
                refine wpAnyH_take (i := 8) (v := ?v51) rfl (by kernel_rfl) (by kernel_rfl) (by kernel_rfl) (fun _ _ _ h => h) (Or.inl ⟨by rfl, ?hy51⟩) h0_43 ?rest51
                case hy51 => (intro w' hS; (try dsimp only at hS); go_simp; try (with_reducible rfl))
                simp only [Act.put, List.getElem_toArray, List.getElem_cons_zero, List.getElem_cons_succ, List.setIfInBounds_toArray, List.set_cons_zero, List.set_cons_succ]
                refine wpAnyH_take (i := 9) (v := ?v52) rfl (by kernel_rfl) (by kernel_rfl) (by kernel_rfl) (fun _ _ _ h => h) (Or.inl ⟨by rfl, ?hy52⟩) h0_43 ?rest52
                case hy52 => (intro w' hS; (try dsimp only at hS); go_simp; try (with_reducible rfl))
                simp only [Act.put, List.getElem_toArray, List.getElem_cons_zero, List.getElem_cons_succ, List.setIfInBounds_toArray, List.set_cons_zero, List.set_cons_succ]
                refine wpAnyH_take (i := 10) (v := ?v53) rfl (by kernel_rfl) (by kernel_rfl) (by kernel_rfl) (fun _ _ _ h => h) (Or.inl ⟨by rfl, ?hy53⟩) h0_43 ?rest53
                case hy53 => (intro w' hS; (try dsimp only at hS); go_simp; try (with_reducible rfl))
                simp only [Act.put, List.getElem_toArray, List.getElem_cons_zero, List.getElem_cons_succ, List.setIfInBounds_toArray, List.set_cons_zero, List.set_cons_succ]
                refine wpAnyH_ready (rs := [11]) (by kernel_rfl) (by simp) (AllReadyH.cons rfl (fun K hK => ?_) AllReadyH.nil)
                rw [if_pos (by rfl)]
                go_simp
                obtain ⟨bt, hbb⟩ : ∃ b, b = wc.heap.size := ⟨_, rfl⟩
                try (have Nxt := Lib.hid (show bx ≠ bt by have h := Ix.out; omega))
                try (have Nzt := Lib.hid (show bz ≠ bt by have h := Iz.out; omega))
                try (have Mrt := Lib.hid (fun (d : Addr) (e : aor = some d) => show d.block ≠ bt by have h := Dr.out d e; omega))
                try (have Mqt := Lib.hid (fun (d : Addr) (e : aoq = some d) => show d.block ≠ bt by have h := Dq.out d e; omega))
                try (have Mkt := Lib.hid (fun (d : Addr) (e : aok = some d) => show d.block ≠ bt by have h := Dk.out d e; omega))
                have hb := one_more (w1 := wc) (.cells #[.int .i64 0, .slice none 0 0] 24)
                have hX := Two.made wc (.int .i64 0) (.slice none 0 0) 24
                have hI : v2.heap.size ≤ bt ∧ bt < (wc.alloc (.cells #[.int .i64 0, .slice none 0 0] 24)).heap.size := by rw [hbb]; exact ⟨Bc.out.size, by simp⟩
                rw [← hbb] at hX
                obtain ⟨wc, hwc⟩ : ∃ wn, wn = wc.alloc (.cells #[.int .i64 0, .slice none 0 0] 24) := ⟨_, rfl⟩
                rw [← hwc] at hb hX hI ⊢
                try rw [← hbb]
                try (have Xx := Lib.hid (Xx.out.on hb))
                try (have Ix := Lib.hid (And.intro Ix.out.1 (Nat.lt_of_lt_of_le Ix.out.2 hb.size)))
                try (have Xz := Lib.hid (Xz.out.on hb))
                try (have Iz := Lib.hid (And.intro Iz.out.1 (Nat.lt_of_lt_of_le Iz.out.2 hb.size)))
                try (have Sr := Lib.hid (Sr.out.on hb))
                try (have Dr := Lib.hid (fun d e => And.intro (Dr.out d e).1 (Nat.lt_of_lt_of_le (Dr.out d e).2 hb.size)))
                try (have Sq := Lib.hid (Sq.out.on hb))
                try (have Dq := Lib.hid (fun d e => And.intro (Dq.out d e).1 (Nat.lt_of_lt_of_le (Dq.out d e).2 hb.size)))
                try (have Ak := Lib.hid (Ak.out.on hb))
                try (have Dk := Lib.hid (fun d e => And.intro (Dk.out d e).1 (Nat.lt_of_lt_of_le (Dk.out d e).2 hb.size)))
                have Bc := Lib.hid (below_on Bc.out hb)
                have Wt := Lib.hid hX
                have It := Lib.hid hI
                clear hb hX hI hwc hbb
                go_simp
                refine hK.out _ _ (KS.out _ Bc.out) (fun h0_44 => ?_)
                clear hK K h0_43
                refine wpAnyH_ready (rs := [12]) (by kernel_rfl) (by simp) (AllReadyH.cons rfl (fun K hK => ?_) AllReadyH.nil)
                rw [if_pos (by rfl)]
                obtain ⟨q0, q1, q2, q3⟩ := Wt.out.facts
                go_simp
                have hW := Wt.out.put (.int .i64 M1) (.slice aok m1.length ck)
                have hA := arg_far' Ak.out Mkt.out (.int .i64 M1) (.slice aok m1.length ck)
                have hB := far_below Bc.out It.out.1 (.int .i64 M1) (.slice aok m1.length ck)
                obtain ⟨wc, hwc⟩ : ∃ wn, wn = (wc.setCell ⟨bt, 0, none⟩ (.int .i64 M1)).setCell ⟨bt, 1, none⟩ (.slice aok m1.length ck) := ⟨_, rfl⟩
                rw [← hwc] at hW hA hB ⊢
                have Wt := Lib.hid hW
                have Ak := Lib.hid hA
                have Bc := Lib.hid hB
                clear hW hA hB hwc q0 q1 q2 q3
                refine hK.out _ _ (KS.out _ Bc.out) (fun h0_45 => ?_)
                clear hK K h0_44
                refine wpAnyH_take (i := 13) (v := ?v54) rfl (by kernel_rfl) (by kernel_rfl) (by kernel_rfl) (fun _ _ _ h => h) (Or.inl ⟨by rfl, ?hy54⟩) h0_45 ?rest54
                case hy54 => (intro w' hS; (try dsimp only at hS); go_simp; try (with_reducible rfl))
                simp only [Act.put, List.getElem_toArray, List.getElem_cons_zero, List.getElem_cons_succ, List.setIfInBounds_toArray, List.set_cons_zero, List.set_cons_succ]
                refine wpAnyH_done (by kernel_rfl) ?_ _
                go_wp2_with fail
                go_meet
                case rel => exact ⟨bt, aok, ck, rfl, rfl, Lib.hid ⟨Wt.out, Ak.out, Lk.out, Bc.out⟩⟩
              · rw [if_pos (by rfl)]
                go_simp
                obtain ⟨bt, hbb⟩ : ∃ b, b = wc.heap.size := ⟨_, rfl⟩
                try (have Nxt := Lib.hid (show bx ≠ bt by have h := Ix.out; omega))
                try (have Nzt := Lib.hid (show bz ≠ bt by have h := Iz.out; omega))
                try (have Mrt := Lib.hid (fun (d : Addr) (e : aor = some d) => show d.block ≠ bt by have h := Dr.out d e; omega))
                try (have Mqt := Lib.hid (fun (d : Addr) (e : aoq = some d) => show d.block ≠ bt by have h := Dq.out d e; omega))
                try (have Mkt := Lib.hid (fun (d : Addr) (e : aok = some d) => show d.block ≠ bt by have h := Dk.out d e; omega))
                have hb := one_more (w1 := wc) (.cells #[.int .i64 0, .slice none 0 0] 24)
                have hX := Two.made wc (.int .i64 0) (.slice none 0 0) 24
                have hI : v2.heap.size ≤ bt ∧ bt < (wc.alloc (.cells #[.int .i64 0, .slice none 0 0] 24)).heap.size := by rw [hbb]; exact ⟨Bc.out.size, by simp⟩
                rw [← hbb] at hX
                obtain ⟨wc, hwc⟩ : ∃ wn, wn = wc.alloc (.cells #[.int .i64 0, .slice none 0 0] 24) := ⟨_, rfl⟩
                rw [← hwc] at hb hX hI ⊢
                try rw [← hbb]
                try (have Xx := Lib.hid (Xx.out.on hb))
                try (have Ix := Lib.hid (And.intro Ix.out.1 (Nat.lt_of_lt_of_le Ix.out.2 hb.size)))
                try (have Xz := Lib.hid (Xz.out.on hb))
                try (have Iz := Lib.hid (And.intro Iz.out.1 (Nat.lt_of_lt_of_le Iz.out.2 hb.size)))
                try (have Sr := Lib.hid (Sr.out.on hb))
                try (have Dr := Lib.hid (fun d e => And.intro (Dr.out d e).1 (Nat.lt_of_lt_of_le (Dr.out d e).2 hb.size)))
                try (have Sq := Lib.hid (Sq.out.on hb))
                try (have Dq := Lib.hid (fun d e => And.intro (Dq.out d e).1 (Nat.lt_of_lt_of_le (Dq.out d e).2 hb.size)))
                try (have Ak := Lib.hid (Ak.out.on hb))
                try (have Dk := Lib.hid (fun d e => And.intro (Dk.out d e).1 (Nat.lt_of_lt_of_le (Dk.out d e).2 hb.size)))
                have Bc := Lib.hid (below_on Bc.out hb)
                have Wt := Lib.hid hX
                have It := Lib.hid hI
                clear hb hX hI hwc hbb
                go_simp
                refine hK.out _ _ (KS.out _ Bc.out) (fun h0_43 => ?_)
                clear hK K h0_42
                refine wpAnyH_ready (rs := [7]) (by kernel_rfl) (by simp) (AllReadyH.cons rfl (fun K hK => ?_) AllReadyH.nil)
                rw [if_pos (by rfl)]
                go_simp
                refine (BO.out _ _ _ _ _ _ _ (OSW.out _ Bc.out) Sr.out Sq.out).mono ?_
                rintro e wc ⟨aok, ck, rfl, hA, hm, hD, hn, hb⟩
                try (have Mkt := Lib.hid (fun (d : Addr) (e : aok = some d) => show d.block ≠ bt by have h1 := (hD d e).1; have h2 := It.out; omega))
                try (have Xx := Lib.hid (Xx.out.on hb))
                try (have Ix := Lib.hid (And.intro Ix.out.1 (Nat.lt_of_lt_of_le Ix.out.2 hb.size)))
                try (have Xz := Lib.hid (Xz.out.on hb))
                try (have Iz := Lib.hid (And.intro Iz.out.1 (Nat.lt_of_lt_of_le Iz.out.2 hb.size)))
                try (have Sr := Lib.hid (Sr.out.on hb))
                try (have Dr := Lib.hid (fun d e => And.intro (Dr.out d e).1 (Nat.lt_of_lt_of_le (Dr.out d e).2 hb.size)))
                try (have Sq := Lib.hid (Sq.out.on hb))
                try (have Dq := Lib.hid (fun d e => And.intro (Dq.out d e).1 (Nat.lt_of_lt_of_le (Dq.out d e).2 hb.size)))
                try (have Wt := Lib.hid (Wt.out.kept hb))
                try (have It := Lib.hid (And.intro It.out.1 (Nat.lt_of_lt_of_le It.out.2 hb.size)))
                have Ak := Lib.hid hA
                have Lk := Lib.hid hm
                have Qk := Lib.hid hn
                have Dk := Lib.hid (fun (d : Addr) (e : aok = some d) => show v2.heap.size ≤ d.block ∧ d.block < wc.heap.size by have h1 := hD d e; have h3 := Bc.out.size; omega)
                have Bc := Lib.hid (below_on Bc.out hb)
                clear hA hm hD hn hb
                go_simp
                refine hK.out _ _ (KS.out _ Bc.out) (fun h0_46 => ?_)
                clear hK K h0_43
                refine wpAnyH_take (i := 8) (v := ?v55) rfl (by kernel_rfl) (by kernel_rfl) (by kernel_rfl) (fun _ _ _ h => h) (Or.inl ⟨by rfl, ?hy55⟩) h0_46 ?rest55
                case hy55 => (intro w' hS; (try dsimp only at hS); go_simp; try (with_reducible rfl))
                simp only [Act.put, List.getElem_toArray, List.getElem_cons_zero, List.getElem_cons_succ, List.setIfInBounds_toArray, List.set_cons_zero, List.set_cons_succ]
                refine wpAnyH_take (i := 9) (v := ?v56) rfl (by kernel_rfl) (by kernel_rfl) (by kernel_rfl) (fun _ _ _ h => h) (Or.inl ⟨by rfl, ?hy56⟩) h0_46 ?rest56
                case hy56 => (intro w' hS; (try dsimp only at hS); go_simp; try (with_reducible rfl))
                simp only [Act.put, List.getElem_toArray, List.getElem_cons_zero, List.getElem_cons_succ, List.setIfInBounds_toArray, List.set_cons_zero, List.set_cons_succ]
                refine wpAnyH_take (i := 10) (v := ?v57) rfl (by kernel_rfl) (by kernel_rfl) (by kernel_rfl) (fun _ _ _ h => h) (Or.inl ⟨by rfl, ?hy57⟩) h0_46 ?rest57
                case hy57 => (intro w' hS; (try dsimp only at hS); go_simp; try (with_reducible rfl))
                simp only [Act.put, List.getElem_toArray, List.getElem_cons_zero, List.getElem_cons_succ, List.setIfInBounds_toArray, List.set_cons_zero, List.set_cons_succ]
                refine wpAnyH_ready (rs := [12]) (by kernel_rfl) (by simp) (AllReadyH.cons rfl (fun K hK => ?_) AllReadyH.nil)
                rw [if_pos (by rfl)]
                obtain ⟨q0, q1, q2, q3⟩ := Wt.out.facts
                go_simp
                have hW := Wt.out.put (.int .i64 M1) (.slice aok m1.length ck)
                have hA := arg_far' Ak.out Mkt.out (.int .i64 M1) (.slice aok m1.length ck)
                have hB := far_below Bc.out It.out.1 (.int .i64 M1) (.slice aok m1.length ck)
                obtain ⟨wc, hwc⟩ : ∃ wn, wn = (wc.setCell ⟨bt, 0, none⟩ (.int .i64 M1)).setCell ⟨bt, 1, none⟩ (.slice aok m1.length ck) := ⟨_, rfl⟩
                rw [← hwc] at hW hA hB ⊢
                have Wt := Lib.hid hW
                have Ak := Lib.hid hA
                have Bc := Lib.hid hB
                clear hW hA hB hwc q0 q1 q2 q3
                refine hK.out _ _ (KS.out _ Bc.out) (fun h0_47 => ?_)
                clear hK K h0_46
                refine wpAnyH_take (i := 13) (v := ?v58) rfl (by kernel_rfl) (by kernel_rfl) (by kernel_rfl) (fun _ _ _ h => h) (Or.inl ⟨by rfl, ?hy58⟩) h0_47 ?rest58
                case hy58 => (intro w' hS; (try dsimp only at hS); go_simp; try (with_reducible rfl))
                simp only [Act.put, List.getElem_toArray, List.getElem_cons_zero, List.getElem_cons_succ, List.setIfInBounds_toArray, List.set_cons_zero, List.set_cons_succ]
                refine wpAnyH_done (by kernel_rfl) ?_ _
                go_wp2_with fail
                go_meet
                case rel => exact ⟨bt, aok, ck, rfl, rfl, Lib.hid ⟨Wt.out, Ak.out, Lk.out, Bc.out⟩⟩
            · rw [if_pos (by rfl)]
              go_simp
              obtain ⟨bt, hbb⟩ : ∃ b, b = wc.heap.size := ⟨_, rfl⟩
              try (have Nxt := Lib.hid (show bx ≠ bt by have h := Ix.out; omega))
              try (have Nzt := Lib.hid (show bz ≠ bt by have h := Iz.out; omega))
              try (have Mrt := Lib.hid (fun (d : Addr) (e : aor = some d) => show d.block ≠ bt by have h := Dr.out d e; omega))
              try (have Mqt := Lib.hid (fun (d : Addr) (e : aoq = some d) => show d.block ≠ bt by have h := Dq.out d e; omega))
              try (have Mkt := Lib.hid (fun (d : Addr) (e : aok = some d) => show d.block ≠ bt by have h := Dk.out d e; omega))
              have hb := one_more (w1 := wc) (.cells #[.int .i64 0, .slice none 0 0] 24)
              have hX := Two.made wc (.int .i64 0) (.slice none 0 0) 24
              have hI : v2.heap.size ≤ bt ∧ bt < (wc.alloc (.cells #[.int .i64 0, .slice none 0 0] 24)).heap.size := by rw [hbb]; exact ⟨Bc.out.size, by simp⟩
              rw [← hbb] at hX
              obtain ⟨wc, hwc⟩ : ∃ wn, wn = wc.alloc (.cells #[.int .i64 0, .slice none 0 0] 24) := ⟨_, rfl⟩
              rw [← hwc] at hb hX hI ⊢
              try rw [← hbb]
              try (have Xx := Lib.hid (Xx.out.on hb))
              try (have Ix := Lib.hid (And.intro Ix.out.1 (Nat.lt_of_lt_of_le Ix.out.2 hb.size)))
              try (have Xz := Lib.hid (Xz.out.on hb))
              try (have Iz := Lib.hid (And.intro Iz.out.1 (Nat.lt_of_lt_of_le Iz.out.2 hb.size)))
              try (have Sr := Lib.hid (Sr.out.on hb))
              try (have Dr := Lib.hid (fun d e => And.intro (Dr.out d e).1 (Nat.lt_of_lt_of_le (Dr.out d e).2 hb.size)))
              try (have Sq := Lib.hid (Sq.out.on hb))
              try (have Dq := Lib.hid (fun d e => And.intro (Dq.out d e).1 (Nat.lt_of_lt_of_le (Dq.out d e).2 hb.size)))
              try (have Ak := Lib.hid (Ak.out.on hb))
              try (have Dk := Lib.hid (fun d e => And.intro (Dk.out d e).1 (Nat.lt_of_lt_of_le (Dk.out d e).2 hb.size)))
              have Bc := Lib.hid (below_on Bc.out hb)
              have Wt := Lib.hid hX
              have It := Lib.hid hI
              clear hb hX hI hwc hbb
              go_simp
              refine hK.out _ _ (KS.out _ Bc.out) (fun h0_42 => ?_)
              clear hK K h0_41
              refine wpAnyH_ready (rs := [6]) (by kernel_rfl) (by simp) (AllReadyH.cons rfl (fun K hK => ?_) AllReadyH.nil)
              rw [if_pos (by rfl)]
              obtain ⟨aoq, cq, wc, hrun, hS, hD, hg⟩ := run_app (t := 25) (ty := 25) (e := 2) Try.underlying25 hj hy0 hy1 hy2 Xz.out (HHW.out _ Bc.out) (by omega)
              refine Lib.wp_append_run _ (.tmp 34) (.tmp 35) 25 25 rfl (.slice (some ⟨bz, 0, none⟩) 0 0) (.slice ho high.length hc) (by simp [Act.eval]) (by simp [Act.eval]) _ _ hrun ?_
              have hz := hg.size
              try (have Mqx := Lib.hid (fun (d : Addr) (e : aoq = some d) => show d.block ≠ bx by have h1 := (hD d e).1; have h2 := Ix.out; first | (have h3 := Nzx.out; omega) | (have h3 := Nxz.out; omega)))
              try (have Mqt := Lib.hid (fun (d : Addr) (e : aoq = some d) => show d.block ≠ bt by have h1 := (hD d e).1; have h2 := It.out; first | (have h3 := Nzt.out; omega) | (have h3 := Ntz.out; omega)))
              try (have Xx := Lib.hid (Xx.out.grown hg (by first | exact Nxz.out | exact Ne.symm Nzx.out)))
              try (have Ix := Lib.hid (And.intro Ix.out.1 (Nat.lt_of_lt_of_le Ix.out.2 hz)))
              try (have Sr := Lib.hid (Sr.out.grown hg Mrz.out))
              try (have Dr := Lib.hid (fun d e => And.intro (Dr.out d e).1 (Nat.lt_of_lt_of_le (Dr.out d e).2 hz)))
              try (have Wt := Lib.hid (Wt.out.grown hg (by first | exact Ntz.out | exact Ne.symm Nzt.out)))
              try (have It := Lib.hid (And.intro It.out.1 (Nat.lt_of_lt_of_le It.out.2 hz)))
              have Sq := Lib.hid hS
              have Dq := Lib.hid (fun (d : Addr) (e : aoq = some d) => show v2.heap.size ≤ d.block ∧ d.block < wc.heap.size by have h1 := hD d e; have h2 := Iz.out; have h3 := Bc.out.size; omega)
              have Bc := Lib.hid (below_app Bc.out hg Iz.out.1)
              clear hrun hS hD hg hz
              clear Xz
              try simp only [Act.put, List.getElem_toArray, List.getElem_cons_zero, List.getElem_cons_succ, List.setIfInBounds_toArray, List.set_cons_zero, List.set_cons_succ]
              refine hK.out _ _ (KS.out _ Bc.out) (fun h0_48 => ?_)
              clear hK K h0_42
              refine wpAnyH_ready (rs := [7]) (by kernel_rfl) (by simp) (AllReadyH.cons rfl (fun K hK => ?_) AllReadyH.nil)
              rw [if_pos (by rfl)]
              go_simp
              refine (BO.out _ _ _ _ _ _ _ (OSW.out _ Bc.out) Sr.out Sq.out).mono ?_
              rintro e wc ⟨aok, ck, rfl, hA, hm, hD, hn, hb⟩
              try (have Mkt := Lib.hid (fun (d : Addr) (e : aok = some d) => show d.block ≠ bt by have h1 := (hD d e).1; have h2 := It.out; omega))
              try (have Xx := Lib.hid (Xx.out.on hb))
              try (have Ix := Lib.hid (And.intro Ix.out.1 (Nat.lt_of_lt_of_le Ix.out.2 hb.size)))
              try (have Xz := Lib.hid (Xz.out.on hb))
              try (have Iz := Lib.hid (And.intro Iz.out.1 (Nat.lt_of_lt_of_le Iz.out.2 hb.size)))
              try (have Sr := Lib.hid (Sr.out.on hb))
              try (have Dr := Lib.hid (fun d e => And.intro (Dr.out d e).1 (Nat.lt_of_lt_of_le (Dr.out d e).2 hb.size)))
              try (have Sq := Lib.hid (Sq.out.on hb))
              try (have Dq := Lib.hid (fun d e => And.intro (Dq.out d e).1 (Nat.lt_of_lt_of_le (Dq.out d e).2 hb.size)))
              try (have Wt := Lib.hid (Wt.out.kept hb))
              try (have It := Lib.hid (And.intro It.out.1 (Nat.lt_of_lt_of_le It.out.2 hb.size)))
              have Ak := Lib.hid hA
              have Lk := Lib.hid hm
              have Qk := Lib.hid hn
              have Dk := Lib.hid (fun (d : Addr) (e : aok = some d) => show v2.heap.size ≤ d.block ∧ d.block < wc.heap.size by have h1 := hD d e; have h3 := Bc.out.size; omega)
              have Bc := Lib.hid (below_on Bc.out hb)
              clear hA hm hD hn hb
              go_simp
              refine hK.out _ _ (KS.out _ Bc.out) (fun h0_49 => ?_)
              clear hK K h0_48
              refine wpAnyH_take (i := 8) (v := ?v59) rfl (by kernel_rfl) (by kernel_rfl) (by kernel_rfl) (fun _ _ _ h => h) (Or.inl ⟨by rfl, ?hy59⟩) h0_49 ?rest59
              case hy59 => (intro w' hS; (try dsimp only at hS); go_simp; try (with_reducible rfl))
              simp only [Act.put, List.getElem_toArray, List.getElem_cons_zero, List.getElem_cons_succ, List.setIfInBounds_toArray, List.set_cons_zero, List.set_cons_succ]
              refine wpAnyH_take (i := 9) (v := ?v60) rfl (by kernel_rfl) (by kernel_rfl) (by kernel_rfl) (fun _ _ _ h => h) (Or.inl ⟨by rfl, ?hy60⟩) h0_49 ?rest60
              case hy60 => (intro w' hS; (try dsimp only at hS); go_simp; try (with_reducible rfl))
              simp only [Act.put, List.getElem_toArray, List.getElem_cons_zero, List.getElem_cons_succ, List.setIfInBounds_toArray, List.set_cons_zero, List.set_cons_succ]
              refine wpAnyH_take (i := 10) (v := ?v61) rfl (by kernel_rfl) (by kernel_rfl) (by kernel_rfl) (fun _ _ _ h => h) (Or.inl ⟨by rfl, ?hy61⟩) h0_49 ?rest61
              case hy61 => (intro w' hS; (try dsimp only at hS); go_simp; try (with_reducible rfl))
              simp only [Act.put, List.getElem_toArray, List.getElem_cons_zero, List.getElem_cons_succ, List.setIfInBounds_toArray, List.set_cons_zero, List.set_cons_succ]
              refine wpAnyH_ready (rs := [12]) (by kernel_rfl) (by simp) (AllReadyH.cons rfl (fun K hK => ?_) AllReadyH.nil)
              rw [if_pos (by rfl)]
              obtain ⟨q0, q1, q2, q3⟩ := Wt.out.facts
              go_simp
              have hW := Wt.out.put (.int .i64 M1) (.slice aok m1.length ck)
              have hA := arg_far' Ak.out Mkt.out (.int .i64 M1) (.slice aok m1.length ck)
              have hB := far_below Bc.out It.out.1 (.int .i64 M1) (.slice aok m1.length ck)
              obtain ⟨wc, hwc⟩ : ∃ wn, wn = (wc.setCell ⟨bt, 0, none⟩ (.int .i64 M1)).setCell ⟨bt, 1, none⟩ (.slice aok m1.length ck) := ⟨_, rfl⟩
              rw [← hwc] at hW hA hB ⊢
              have Wt := Lib.hid hW
              have Ak := Lib.hid hA
              have Bc := Lib.hid hB
              clear hW hA hB hwc q0 q1 q2 q3
              refine hK.out _ _ (KS.out _ Bc.out) (fun h0_50 => ?_)
              clear hK K h0_49
              refine wpAnyH_take (i := 13) (v := ?v62) rfl (by kernel_rfl) (by kernel_rfl) (by kernel_rfl) (fun _ _ _ h => h) (Or.inl ⟨by rfl, ?hy62⟩) h0_50 ?rest62
              case hy62 => (intro w' hS; (try dsimp only at hS); go_simp; try (with_reducible rfl))
              simp only [Act.put, List.getElem_toArray, List.getElem_cons_zero, List.getElem_cons_succ, List.setIfInBounds_toArray, List.set_cons_zero, List.set_cons_succ]
              refine wpAnyH_done (by kernel_rfl) ?_ _
              go_wp2_with fail
              go_meet
              case rel => exact ⟨bt, aok, ck, rfl, rfl, Lib.hid ⟨Wt.out, Ak.out, Lk.out, Bc.out⟩⟩
          · rw [if_pos (by rfl)]
            go_simp
            obtain ⟨bt, hbb⟩ : ∃ b, b = wc.heap.size := ⟨_, rfl⟩
            try (have Nxt := Lib.hid (show bx ≠ bt by have h := Ix.out; omega))
            try (have Nzt := Lib.hid (show bz ≠ bt by have h := Iz.out; omega))
            try (have Mrt := Lib.hid (fun (d : Addr) (e : aor = some d) => show d.block ≠ bt by have h := Dr.out d e; omega))
            try (have Mqt := Lib.hid (fun (d : Addr) (e : aoq = some d) => show d.block ≠ bt by have h := Dq.out d e; omega))
            try (have Mkt := Lib.hid (fun (d : Addr) (e : aok = some d) => show d.block ≠ bt by have h := Dk.out d e; omega))
            have hb := one_more (w1 := wc) (.cells #[.int .i64 0, .slice none 0 0] 24)
            have hX := Two.made wc (.int .i64 0) (.slice none 0 0) 24
            have hI : v2.heap.size ≤ bt ∧ bt < (wc.alloc (.cells #[.int .i64 0, .slice none 0 0] 24)).heap.size := by rw [hbb]; exact ⟨Bc.out.size, by simp⟩
            rw [← hbb] at hX
            obtain ⟨wc, hwc⟩ : ∃ wn, wn = wc.alloc (.cells #[.int .i64 0, .slice none 0 0] 24) := ⟨_, rfl⟩
            rw [← hwc] at hb hX hI ⊢
            try rw [← hbb]
            try (have Xx := Lib.hid (Xx.out.on hb))
            try (have Ix := Lib.hid (And.intro Ix.out.1 (Nat.lt_of_lt_of_le Ix.out.2 hb.size)))
            try (have Xz := Lib.hid (Xz.out.on hb))
            try (have Iz := Lib.hid (And.intro Iz.out.1 (Nat.lt_of_lt_of_le Iz.out.2 hb.size)))
            try (have Sr := Lib.hid (Sr.out.on hb))
            try (have Dr := Lib.hid (fun d e => And.intro (Dr.out d e).1 (Nat.lt_of_lt_of_le (Dr.out d e).2 hb.size)))
            try (have Sq := Lib.hid (Sq.out.on hb))
            try (have Dq := Lib.hid (fun d e => And.intro (Dq.out d e).1 (Nat.lt_of_lt_of_le (Dq.out d e).2 hb.size)))
            try (have Ak := Lib.hid (Ak.out.on hb))
            try (have Dk := Lib.hid (fun d e => And.intro (Dk.out d e).1 (Nat.lt_of_lt_of_le (Dk.out d e).2 hb.size)))
            have Bc := Lib.hid (below_on Bc.out hb)
            have Wt := Lib.hid hX
            have It := Lib.hid hI
            clear hb hX hI hwc hbb
            go_simp
            refine hK.out _ _ (KS.out _ Bc.out) (fun h0_41 => ?_)
            clear hK K h0_40
            refine wpAnyH_ready (rs := [3]) (by kernel_rfl) (by simp) (AllReadyH.cons rfl (fun K hK => ?_) AllReadyH.nil)
            rw [if_pos (by rfl)]
            obtain ⟨aor, cr, wc, hrun, hS, hD, hg⟩ := run_app (t := 25) (ty := 25) (e := 2) Try.underlying25 hj hy0 hy1 hy2 Xx.out (HLW.out _ Bc.out) (by omega)
            refine Lib.wp_append_run _ (.tmp 31) (.tmp 32) 25 25 rfl (.slice (some ⟨bx, 0, none⟩) 0 0) (.slice lo low.length lc) (by simp [Act.eval]) (by simp [Act.eval]) _ _ hrun ?_
            have hz := hg.size
            try (have Mrz := Lib.hid (fun (d : Addr) (e : aor = some d) => show d.block ≠ bz by have h1 := (hD d e).1; have h2 := Iz.out; first | (have h3 := Nxz.out; omega) | (have h3 := Nzx.out; omega)))
            try (have Mrt := Lib.hid (fun (d : Addr) (e : aor = some d) => show d.block ≠ bt by have h1 := (hD d e).1; have h2 := It.out; first | (have h3 := Nxt.out; omega) | (have h3 := Ntx.out; omega)))
            try (have Xz := Lib.hid (Xz.out.grown hg (by first | exact Nzx.out | exact Ne.symm Nxz.out)))
            try (have Iz := Lib.hid (And.intro Iz.out.1 (Nat.lt_of_lt_of_le Iz.out.2 hz)))
            try (have Sq := Lib.hid (Sq.out.grown hg Mqx.out))
            try (have Dq := Lib.hid (fun d e => And.intro (Dq.out d e).1 (Nat.lt_of_lt_of_le (Dq.out d e).2 hz)))
            try (have Wt := Lib.hid (Wt.out.grown hg (by first | exact Ntx.out | exact Ne.symm Nxt.out)))
            try (have It := Lib.hid (And.intro It.out.1 (Nat.lt_of_lt_of_le It.out.2 hz)))
            have Sr := Lib.hid hS
            have Dr := Lib.hid (fun (d : Addr) (e : aor = some d) => show v2.heap.size ≤ d.block ∧ d.block < wc.heap.size by have h1 := hD d e; have h2 := Ix.out; have h3 := Bc.out.size; omega)
            have Bc := Lib.hid (below_app Bc.out hg Ix.out.1)
            clear hrun hS hD hg hz
            clear Xx
            try simp only [Act.put, List.getElem_toArray, List.getElem_cons_zero, List.getElem_cons_succ, List.setIfInBounds_toArray, List.set_cons_zero, List.set_cons_succ]
            refine hK.out _ _ (KS.out _ Bc.out) (fun h0_51 => ?_)
            clear hK K h0_41
            refine wpAnyH_ready (rs := [6]) (by kernel_rfl) (by simp) (AllReadyH.cons rfl (fun K hK => ?_) AllReadyH.nil)
            rw [if_pos (by rfl)]
            obtain ⟨aoq, cq, wc, hrun, hS, hD, hg⟩ := run_app (t := 25) (ty := 25) (e := 2) Try.underlying25 hj hy0 hy1 hy2 Xz.out (HHW.out _ Bc.out) (by omega)
            refine Lib.wp_append_run _ (.tmp 34) (.tmp 35) 25 25 rfl (.slice (some ⟨bz, 0, none⟩) 0 0) (.slice ho high.length hc) (by simp [Act.eval]) (by simp [Act.eval]) _ _ hrun ?_
            have hz := hg.size
            try (have Mqx := Lib.hid (fun (d : Addr) (e : aoq = some d) => show d.block ≠ bx by have h1 := (hD d e).1; have h2 := Ix.out; first | (have h3 := Nzx.out; omega) | (have h3 := Nxz.out; omega)))
            try (have Mqt := Lib.hid (fun (d : Addr) (e : aoq = some d) => show d.block ≠ bt by have h1 := (hD d e).1; have h2 := It.out; first | (have h3 := Nzt.out; omega) | (have h3 := Ntz.out; omega)))
            try (have Xx := Lib.hid (Xx.out.grown hg (by first | exact Nxz.out | exact Ne.symm Nzx.out)))
            try (have Ix := Lib.hid (And.intro Ix.out.1 (Nat.lt_of_lt_of_le Ix.out.2 hz)))
            try (have Sr := Lib.hid (Sr.out.grown hg Mrz.out))
            try (have Dr := Lib.hid (fun d e => And.intro (Dr.out d e).1 (Nat.lt_of_lt_of_le (Dr.out d e).2 hz)))
            try (have Wt := Lib.hid (Wt.out.grown hg (by first | exact Ntz.out | exact Ne.symm Nzt.out)))
            try (have It := Lib.hid (And.intro It.out.1 (Nat.lt_of_lt_of_le It.out.2 hz)))
            have Sq := Lib.hid hS
            have Dq := Lib.hid (fun (d : Addr) (e : aoq = some d) => show v2.heap.size ≤ d.block ∧ d.block < wc.heap.size by have h1 := hD d e; have h2 := Iz.out; have h3 := Bc.out.size; omega)
            have Bc := Lib.hid (below_app Bc.out hg Iz.out.1)
            clear hrun hS hD hg hz
            clear Xz
            try simp only [Act.put, List.getElem_toArray, List.getElem_cons_zero, List.getElem_cons_succ, List.setIfInBounds_toArray, List.set_cons_zero, List.set_cons_succ]
            refine hK.out _ _ (KS.out _ Bc.out) (fun h0_52 => ?_)
            clear hK K h0_51
            refine wpAnyH_ready (rs := [7]) (by kernel_rfl) (by simp) (AllReadyH.cons rfl (fun K hK => ?_) AllReadyH.nil)
            rw [if_pos (by rfl)]
            go_simp
            refine (BO.out _ _ _ _ _ _ _ (OSW.out _ Bc.out) Sr.out Sq.out).mono ?_
            rintro e wc ⟨aok, ck, rfl, hA, hm, hD, hn, hb⟩
            try (have Mkt := Lib.hid (fun (d : Addr) (e : aok = some d) => show d.block ≠ bt by have h1 := (hD d e).1; have h2 := It.out; omega))
            try (have Xx := Lib.hid (Xx.out.on hb))
            try (have Ix := Lib.hid (And.intro Ix.out.1 (Nat.lt_of_lt_of_le Ix.out.2 hb.size)))
            try (have Xz := Lib.hid (Xz.out.on hb))
            try (have Iz := Lib.hid (And.intro Iz.out.1 (Nat.lt_of_lt_of_le Iz.out.2 hb.size)))
            try (have Sr := Lib.hid (Sr.out.on hb))
            try (have Dr := Lib.hid (fun d e => And.intro (Dr.out d e).1 (Nat.lt_of_lt_of_le (Dr.out d e).2 hb.size)))
            try (have Sq := Lib.hid (Sq.out.on hb))
            try (have Dq := Lib.hid (fun d e => And.intro (Dq.out d e).1 (Nat.lt_of_lt_of_le (Dq.out d e).2 hb.size)))
            try (have Wt := Lib.hid (Wt.out.kept hb))
            try (have It := Lib.hid (And.intro It.out.1 (Nat.lt_of_lt_of_le It.out.2 hb.size)))
            have Ak := Lib.hid hA
            have Lk := Lib.hid hm
            have Qk := Lib.hid hn
            have Dk := Lib.hid (fun (d : Addr) (e : aok = some d) => show v2.heap.size ≤ d.block ∧ d.block < wc.heap.size by have h1 := hD d e; have h3 := Bc.out.size; omega)
            have Bc := Lib.hid (below_on Bc.out hb)
            clear hA hm hD hn hb
            go_simp
            refine hK.out _ _ (KS.out _ Bc.out) (fun h0_53 => ?_)
            clear hK K h0_52
            refine wpAnyH_take (i := 8) (v := ?v63) rfl (by kernel_rfl) (by kernel_rfl) (by kernel_rfl) (fun _ _ _ h => h) (Or.inl ⟨by rfl, ?hy63⟩) h0_53 ?rest63
            case hy63 => (intro w' hS; (try dsimp only at hS); go_simp; try (with_reducible rfl))
            simp only [Act.put, List.getElem_toArray, List.getElem_cons_zero, List.getElem_cons_succ, List.setIfInBounds_toArray, List.set_cons_zero, List.set_cons_succ]
            refine wpAnyH_take (i := 9) (v := ?v64) rfl (by kernel_rfl) (by kernel_rfl) (by kernel_rfl) (fun _ _ _ h => h) (Or.inl ⟨by rfl, ?hy64⟩) h0_53 ?rest64
            case hy64 => (intro w' hS; (try dsimp only at hS); go_simp; try (with_reducible rfl))
            simp only [Act.put, List.getElem_toArray, List.getElem_cons_zero, List.getElem_cons_succ, List.setIfInBounds_toArray, List.set_cons_zero, List.set_cons_succ]
            refine wpAnyH_take (i := 10) (v := ?v65) rfl (by kernel_rfl) (by kernel_rfl) (by kernel_rfl) (fun _ _ _ h => h) (Or.inl ⟨by rfl, ?hy65⟩) h0_53 ?rest65
            case hy65 => (intro w' hS; (try dsimp only at hS); go_simp; try (with_reducible rfl))
            simp only [Act.put, List.getElem_toArray, List.getElem_cons_zero, List.getElem_cons_succ, List.setIfInBounds_toArray, List.set_cons_zero, List.set_cons_succ]
            refine wpAnyH_ready (rs := [12]) (by kernel_rfl) (by simp) (AllReadyH.cons rfl (fun K hK => ?_) AllReadyH.nil)
            rw [if_pos (by rfl)]
            obtain ⟨q0, q1, q2, q3⟩ := Wt.out.facts
            go_simp
            have hW := Wt.out.put (.int .i64 M1) (.slice aok m1.length ck)
            have hA := arg_far' Ak.out Mkt.out (.int .i64 M1) (.slice aok m1.length ck)
            have hB := far_below Bc.out It.out.1 (.int .i64 M1) (.slice aok m1.length ck)
            obtain ⟨wc, hwc⟩ : ∃ wn, wn = (wc.setCell ⟨bt, 0, none⟩ (.int .i64 M1)).setCell ⟨bt, 1, none⟩ (.slice aok m1.length ck) := ⟨_, rfl⟩
            rw [← hwc] at hW hA hB ⊢
            have Wt := Lib.hid hW
            have Ak := Lib.hid hA
            have Bc := Lib.hid hB
            clear hW hA hB hwc q0 q1 q2 q3
            refine hK.out _ _ (KS.out _ Bc.out) (fun h0_54 => ?_)
            clear hK K h0_53
            refine wpAnyH_take (i := 13) (v := ?v66) rfl (by kernel_rfl) (by kernel_rfl) (by kernel_rfl) (fun _ _ _ h => h) (Or.inl ⟨by rfl, ?hy66⟩) h0_54 ?rest66
            case hy66 => (intro w' hS; (try dsimp only at hS); go_simp; try (with_reducible rfl))
            simp only [Act.put, List.getElem_toArray, List.getElem_cons_zero, List.getElem_cons_succ, List.setIfInBounds_toArray, List.set_cons_zero, List.set_cons_succ]
            refine wpAnyH_done (by kernel_rfl) ?_ _
            go_wp2_with fail
            go_meet
            case rel => exact ⟨bt, aok, ck, rfl, rfl, Lib.hid ⟨Wt.out, Ak.out, Lk.out, Bc.out⟩⟩
        · rw [if_pos (by rfl)]
          go_simp
          obtain ⟨bt, hbb⟩ : ∃ b, b = wc.heap.size := ⟨_, rfl⟩
          try (have Nxt := Lib.hid (show bx ≠ bt by have h := Ix.out; omega))
          try (have Nzt := Lib.hid (show bz ≠ bt by have h := Iz.out; omega))
          try (have Mrt := Lib.hid (fun (d : Addr) (e : aor = some d) => show d.block ≠ bt by have h := Dr.out d e; omega))
          try (have Mqt := Lib.hid (fun (d : Addr) (e : aoq = some d) => show d.block ≠ bt by have h := Dq.out d e; omega))
          try (have Mkt := Lib.hid (fun (d : Addr) (e : aok = some d) => show d.block ≠ bt by have h := Dk.out d e; omega))
          have hb := one_more (w1 := wc) (.cells #[.int .i64 0, .slice none 0 0] 24)
          have hX := Two.made wc (.int .i64 0) (.slice none 0 0) 24
          have hI : v2.heap.size ≤ bt ∧ bt < (wc.alloc (.cells #[.int .i64 0, .slice none 0 0] 24)).heap.size := by rw [hbb]; exact ⟨Bc.out.size, by simp⟩
          rw [← hbb] at hX
          obtain ⟨wc, hwc⟩ : ∃ wn, wn = wc.alloc (.cells #[.int .i64 0, .slice none 0 0] 24) := ⟨_, rfl⟩
          rw [← hwc] at hb hX hI ⊢
          try rw [← hbb]
          try (have Xx := Lib.hid (Xx.out.on hb))
          try (have Ix := Lib.hid (And.intro Ix.out.1 (Nat.lt_of_lt_of_le Ix.out.2 hb.size)))
          try (have Xz := Lib.hid (Xz.out.on hb))
          try (have Iz := Lib.hid (And.intro Iz.out.1 (Nat.lt_of_lt_of_le Iz.out.2 hb.size)))
          try (have Sr := Lib.hid (Sr.out.on hb))
          try (have Dr := Lib.hid (fun d e => And.intro (Dr.out d e).1 (Nat.lt_of_lt_of_le (Dr.out d e).2 hb.size)))
          try (have Sq := Lib.hid (Sq.out.on hb))
          try (have Dq := Lib.hid (fun d e => And.intro (Dq.out d e).1 (Nat.lt_of_lt_of_le (Dq.out d e).2 hb.size)))
          try (have Ak := Lib.hid (Ak.out.on hb))
          try (have Dk := Lib.hid (fun d e => And.intro (Dk.out d e).1 (Nat.lt_of_lt_of_le (Dk.out d e).2 hb.size)))
          have Bc := Lib.hid (below_on Bc.out hb)
          have Wt := Lib.hid hX
          have It := Lib.hid hI
          clear hb hX hI hwc hbb
          go_simp
          refine hK.out _ _ (KS.out _ Bc.out) (fun h0_40 => ?_)
          clear hK K h0_1
          refine wpAnyH_ready (rs := [1]) (by kernel_rfl) (by simp) (AllReadyH.cons rfl (fun K hK => ?_) AllReadyH.nil)
          rw [if_pos (by rfl)]
          go_simp
          obtain ⟨bx, hbb⟩ : ∃ b, b = wc.heap.size := ⟨_, rfl⟩
          try (have Nzx := Lib.hid (show bz ≠ bx by have h := Iz.out; omega))
          try (have Ntx := Lib.hid (show bt ≠ bx by have h := It.out; omega))
          try (have Mrx := Lib.hid (fun (d : Addr) (e : aor = some d) => show d.block ≠ bx by have h := Dr.out d e; omega))
          try (have Mqx := Lib.hid (fun (d : Addr) (e : aoq = some d) => show d.block ≠ bx by have h := Dq.out d e; omega))
          try (have Mkx := Lib.hid (fun (d : Addr) (e : aok = some d) => show d.block ≠ bx by have h := Dk.out d e; omega))
          have hb := one_more (w1 := wc) (.cells #[] 2)
          have hX := Emp.made wc v2.heap.size 2 Bc.out.size
          have hI : v2.heap.size ≤ bx ∧ bx < (wc.alloc (.cells #[] 2)).heap.size := by rw [hbb]; exact ⟨Bc.out.size, by simp⟩
          rw [← hbb] at hX
          obtain ⟨wc, hwc⟩ : ∃ wn, wn = wc.alloc (.cells #[] 2) := ⟨_, rfl⟩
          rw [← hwc] at hb hX hI ⊢
          try rw [← hbb]
          try (have Xz := Lib.hid (Xz.out.on hb))
          try (have Iz := Lib.hid (And.intro Iz.out.1 (Nat.lt_of_lt_of_le Iz.out.2 hb.size)))
          try (have Sr := Lib.hid (Sr.out.on hb))
          try (have Dr := Lib.hid (fun d e => And.intro (Dr.out d e).1 (Nat.lt_of_lt_of_le (Dr.out d e).2 hb.size)))
          try (have Sq := Lib.hid (Sq.out.on hb))
          try (have Dq := Lib.hid (fun d e => And.intro (Dq.out d e).1 (Nat.lt_of_lt_of_le (Dq.out d e).2 hb.size)))
          try (have Wt := Lib.hid (Wt.out.kept hb))
          try (have It := Lib.hid (And.intro It.out.1 (Nat.lt_of_lt_of_le It.out.2 hb.size)))
          try (have Ak := Lib.hid (Ak.out.on hb))
          try (have Dk := Lib.hid (fun d e => And.intro (Dk.out d e).1 (Nat.lt_of_lt_of_le (Dk.out d e).2 hb.size)))
          have Bc := Lib.hid (below_on Bc.out hb)
          have Xx := Lib.hid hX
          have Ix := Lib.hid hI
          clear hb hX hI hwc hbb
          go_simp
          refine hK.out _ _ (KS.out _ Bc.out) (fun h0_55 => ?_)
          clear hK K h0_40
          refine wpAnyH_ready (rs := [3]) (by kernel_rfl) (by simp) (AllReadyH.cons rfl (fun K hK => ?_) AllReadyH.nil)
          rw [if_pos (by rfl)]
          obtain ⟨aor, cr, wc, hrun, hS, hD, hg⟩ := run_app (t := 25) (ty := 25) (e := 2) Try.underlying25 hj hy0 hy1 hy2 Xx.out (HLW.out _ Bc.out) (by omega)
          refine Lib.wp_append_run _ (.tmp 31) (.tmp 32) 25 25 rfl (.slice (some ⟨bx, 0, none⟩) 0 0) (.slice lo low.length lc) (by simp [Act.eval]) (by simp [Act.eval]) _ _ hrun ?_
          have hz := hg.size
          try (have Mrz := Lib.hid (fun (d : Addr) (e : aor = some d) => show d.block ≠ bz by have h1 := (hD d e).1; have h2 := Iz.out; first | (have h3 := Nxz.out; omega) | (have h3 := Nzx.out; omega)))
          try (have Mrt := Lib.hid (fun (d : Addr) (e : aor = some d) => show d.block ≠ bt by have h1 := (hD d e).1; have h2 := It.out; first | (have h3 := Nxt.out; omega) | (have h3 := Ntx.out; omega)))
          try (have Xz := Lib.hid (Xz.out.grown hg (by first | exact Nzx.out | exact Ne.symm Nxz.out)))
          try (have Iz := Lib.hid (And.intro Iz.out.1 (Nat.lt_of_lt_of_le Iz.out.2 hz)))
          try (have Sq := Lib.hid (Sq.out.grown hg Mqx.out))
          try (have Dq := Lib.hid (fun d e => And.intro (Dq.out d e).1 (Nat.lt_of_lt_of_le (Dq.out d e).2 hz)))
          try (have Wt := Lib.hid (Wt.out.grown hg (by first | exact Ntx.out | exact Ne.symm Nxt.out)))
          try (have It := Lib.hid (And.intro It.out.1 (Nat.lt_of_lt_of_le It.out.2 hz)))
          have Sr := Lib.hid hS
          have Dr := Lib.hid (fun (d : Addr) (e : aor = some d) => show v2.heap.size ≤ d.block ∧ d.block < wc.heap.size by have h1 := hD d e; have h2 := Ix.out; have h3 := Bc.out.size; omega)
          have Bc := Lib.hid (below_app Bc.out hg Ix.out.1)
          clear hrun hS hD hg hz
          clear Xx
          try simp only [Act.put, List.getElem_toArray, List.getElem_cons_zero, List.getElem_cons_succ, List.setIfInBounds_toArray, List.set_cons_zero, List.set_cons_succ]
          refine hK.out _ _ (KS.out _ Bc.out) (fun h0_56 => ?_)
          clear hK K h0_55
          refine wpAnyH_ready (rs := [6]) (by kernel_rfl) (by simp) (AllReadyH.cons rfl (fun K hK => ?_) AllReadyH.nil)
          rw [if_pos (by rfl)]
          obtain ⟨aoq, cq, wc, hrun, hS, hD, hg⟩ := run_app (t := 25) (ty := 25) (e := 2) Try.underlying25 hj hy0 hy1 hy2 Xz.out (HHW.out _ Bc.out) (by omega)
          refine Lib.wp_append_run _ (.tmp 34) (.tmp 35) 25 25 rfl (.slice (some ⟨bz, 0, none⟩) 0 0) (.slice ho high.length hc) (by simp [Act.eval]) (by simp [Act.eval]) _ _ hrun ?_
          have hz := hg.size
          try (have Mqx := Lib.hid (fun (d : Addr) (e : aoq = some d) => show d.block ≠ bx by have h1 := (hD d e).1; have h2 := Ix.out; first | (have h3 := Nzx.out; omega) | (have h3 := Nxz.out; omega)))
          try (have Mqt := Lib.hid (fun (d : Addr) (e : aoq = some d) => show d.block ≠ bt by have h1 := (hD d e).1; have h2 := It.out; first | (have h3 := Nzt.out; omega) | (have h3 := Ntz.out; omega)))
          try (have Xx := Lib.hid (Xx.out.grown hg (by first | exact Nxz.out | exact Ne.symm Nzx.out)))
          try (have Ix := Lib.hid (And.intro Ix.out.1 (Nat.lt_of_lt_of_le Ix.out.2 hz)))
          try (have Sr := Lib.hid (Sr.out.grown hg Mrz.out))
          try (have Dr := Lib.hid (fun d e => And.intro (Dr.out d e).1 (Nat.lt_of_lt_of_le (Dr.out d e).2 hz)))
          try (have Wt := Lib.hid (Wt.out.grown hg (by first | exact Ntz.out | exact Ne.symm Nzt.out)))
          try (have It := Lib.hid (And.intro It.out.1 (Nat.lt_of_lt_of_le It.out.2 hz)))
          have Sq := Lib.hid hS
          have Dq := Lib.hid (fun (d : Addr) (e : aoq = some d) => show v2.heap.size ≤ d.block ∧ d.block < wc.heap.size by have h1 := hD d e; have h2 := Iz.out; have h3 := Bc.out.size; omega)
          have Bc := Lib.hid (below_app Bc.out hg Iz.out.1)
          clear hrun hS hD hg hz
          clear Xz
          try simp only [Act.put, List.getElem_toArray, List.getElem_cons_zero, List.getElem_cons_succ, List.setIfInBounds_toArray, List.set_cons_zero, List.set_cons_succ]
          refine hK.out _ _ (KS.out _ Bc.out) (fun h0_57 => ?_)
          clear hK K h0_56
          refine wpAnyH_ready (rs := [7]) (by kernel_rfl) (by simp) (AllReadyH.cons rfl (fun K hK => ?_) AllReadyH.nil)
          rw [if_pos (by rfl)]
          go_simp
          refine (BO.out _ _ _ _ _ _ _ (OSW.out _ Bc.out) Sr.out Sq.out).mono ?_
          rintro e wc ⟨aok, ck, rfl, hA, hm, hD, hn, hb⟩
          try (have Mkt := Lib.hid (fun (d : Addr) (e : aok = some d) => show d.block ≠ bt by have h1 := (hD d e).1; have h2 := It.out; omega))
          try (have Xx := Lib.hid (Xx.out.on hb))
          try (have Ix := Lib.hid (And.intro Ix.out.1 (Nat.lt_of_lt_of_le Ix.out.2 hb.size)))
          try (have Xz := Lib.hid (Xz.out.on hb))
          try (have Iz := Lib.hid (And.intro Iz.out.1 (Nat.lt_of_lt_of_le Iz.out.2 hb.size)))
          try (have Sr := Lib.hid (Sr.out.on hb))
          try (have Dr := Lib.hid (fun d e => And.intro (Dr.out d e).1 (Nat.lt_of_lt_of_le (Dr.out d e).2 hb.size)))
          try (have Sq := Lib.hid (Sq.out.on hb))
          try (have Dq := Lib.hid (fun d e => And.intro (Dq.out d e).1 (Nat.lt_of_lt_of_le (Dq.out d e).2 hb.size)))
          try (have Wt := Lib.hid (Wt.out.kept hb))
          try (have It := Lib.hid (And.intro It.out.1 (Nat.lt_of_lt_of_le It.out.2 hb.size)))
          have Ak := Lib.hid hA
          have Lk := Lib.hid hm
          have Qk := Lib.hid hn
          have Dk := Lib.hid (fun (d : Addr) (e : aok = some d) => show v2.heap.size ≤ d.block ∧ d.block < wc.heap.size by have h1 := hD d e; have h3 := Bc.out.size; omega)
          have Bc := Lib.hid (below_on Bc.out hb)
          clear hA hm hD hn hb
          go_simp
          refine hK.out _ _ (KS.out _ Bc.out) (fun h0_58 => ?_)
          clear hK K h0_57
          refine wpAnyH_take (i := 8) (v := ?v67) rfl (by kernel_rfl) (by kernel_rfl) (by kernel_rfl) (fun _ _ _ h => h) (Or.inl ⟨by rfl, ?hy67⟩) h0_58 ?rest67
          case hy67 => (intro w' hS; (try dsimp only at hS); go_simp; try (with_reducible rfl))
          simp only [Act.put, List.getElem_toArray, List.getElem_cons_zero, List.getElem_cons_succ, List.setIfInBounds_toArray, List.set_cons_zero, List.set_cons_succ]
          refine wpAnyH_take (i := 9) (v := ?v68) rfl (by kernel_rfl) (by kernel_rfl) (by kernel_rfl) (fun _ _ _ h => h) (Or.inl ⟨by rfl, ?hy68⟩) h0_58 ?rest68
          case hy68 => (intro w' hS; (try dsimp only at hS); go_simp; try (with_reducible rfl))
          simp only [Act.put, List.getElem_toArray, List.getElem_cons_zero, List.getElem_cons_succ, List.setIfInBounds_toArray, List.set_cons_zero, List.set_cons_succ]
          refine wpAnyH_take (i := 10) (v := ?v69) rfl (by kernel_rfl) (by kernel_rfl) (by kernel_rfl) (fun _ _ _ h => h) (Or.inl ⟨by rfl, ?hy69⟩) h0_58 ?rest69
          case hy69 => (intro w' hS; (try dsimp only at hS); go_simp; try (with_reducible rfl))
          simp only [Act.put, List.getElem_toArray, List.getElem_cons_zero, List.getElem_cons_succ, List.setIfInBounds_toArray, List.set_cons_zero, List.set_cons_succ]
          refine wpAnyH_ready (rs := [12]) (by kernel_rfl) (by simp) (AllReadyH.cons rfl (fun K hK => ?_) AllReadyH.nil)
          rw [if_pos (by rfl)]
          obtain ⟨q0, q1, q2, q3⟩ := Wt.out.facts
          go_simp
          have hW := Wt.out.put (.int .i64 M1) (.slice aok m1.length ck)
          have hA := arg_far' Ak.out Mkt.out (.int .i64 M1) (.slice aok m1.length ck)
          have hB := far_below Bc.out It.out.1 (.int .i64 M1) (.slice aok m1.length ck)
          obtain ⟨wc, hwc⟩ : ∃ wn, wn = (wc.setCell ⟨bt, 0, none⟩ (.int .i64 M1)).setCell ⟨bt, 1, none⟩ (.slice aok m1.length ck) := ⟨_, rfl⟩
          rw [← hwc] at hW hA hB ⊢
          have Wt := Lib.hid hW
          have Ak := Lib.hid hA
          have Bc := Lib.hid hB
          clear hW hA hB hwc q0 q1 q2 q3
          refine hK.out _ _ (KS.out _ Bc.out) (fun h0_59 => ?_)
          clear hK K h0_58
          refine wpAnyH_take (i := 13) (v := ?v70) rfl (by kernel_rfl) (by kernel_rfl) (by kernel_rfl) (fun _ _ _ h => h) (Or.inl ⟨by rfl, ?hy70⟩) h0_59 ?rest70
          case hy70 => (intro w' hS; (try dsimp only at hS); go_simp; try (with_reducible rfl))
          simp only [Act.put, List.getElem_toArray, List.getElem_cons_zero, List.getElem_cons_succ, List.setIfInBounds_toArray, List.set_cons_zero, List.set_cons_succ]
          refine wpAnyH_done (by kernel_rfl) ?_ _
          go_wp2_with fail
          go_meet
          case rel => exact ⟨bt, aok, ck, rfl, rfl, Lib.hid ⟨Wt.out, Ak.out, Lk.out, Bc.out⟩⟩
      · rw [if_pos (by rfl)]
        go_simp
        obtain ⟨bt, hbb⟩ : ∃ b, b = wc.heap.size := ⟨_, rfl⟩
        try (have Nxt := Lib.hid (show bx ≠ bt by have h := Ix.out; omega))
        try (have Nzt := Lib.hid (show bz ≠ bt by have h := Iz.out; omega))
        try (have Mrt := Lib.hid (fun (d : Addr) (e : aor = some d) => show d.block ≠ bt by have h := Dr.out d e; omega))
        try (have Mqt := Lib.hid (fun (d : Addr) (e : aoq = some d) => show d.block ≠ bt by have h := Dq.out d e; omega))
        try (have Mkt := Lib.hid (fun (d : Addr) (e : aok = some d) => show d.block ≠ bt by have h := Dk.out d e; omega))
        have hb := one_more (w1 := wc) (.cells #[.int .i64 0, .slice none 0 0] 24)
        have hX := Two.made wc (.int .i64 0) (.slice none 0 0) 24
        have hI : v2.heap.size ≤ bt ∧ bt < (wc.alloc (.cells #[.int .i64 0, .slice none 0 0] 24)).heap.size := by rw [hbb]; exact ⟨Bc.out.size, by simp⟩
        rw [← hbb] at hX
        obtain ⟨wc, hwc⟩ : ∃ wn, wn = wc.alloc (.cells #[.int .i64 0, .slice none 0 0] 24) := ⟨_, rfl⟩
        rw [← hwc] at hb hX hI ⊢
        try rw [← hbb]
        try (have Xx := Lib.hid (Xx.out.on hb))
        try (have Ix := Lib.hid (And.intro Ix.out.1 (Nat.lt_of_lt_of_le Ix.out.2 hb.size)))
        try (have Xz := Lib.hid (Xz.out.on hb))
        try (have Iz := Lib.hid (And.intro Iz.out.1 (Nat.lt_of_lt_of_le Iz.out.2 hb.size)))
        try (have Sr := Lib.hid (Sr.out.on hb))
        try (have Dr := Lib.hid (fun d e => And.intro (Dr.out d e).1 (Nat.lt_of_lt_of_le (Dr.out d e).2 hb.size)))
        try (have Sq := Lib.hid (Sq.out.on hb))
        try (have Dq := Lib.hid (fun d e => And.intro (Dq.out d e).1 (Nat.lt_of_lt_of_le (Dq.out d e).2 hb.size)))
        try (have Ak := Lib.hid (Ak.out.on hb))
        try (have Dk := Lib.hid (fun d e => And.intro (Dk.out d e).1 (Nat.lt_of_lt_of_le (Dk.out d e).2 hb.size)))
        have Bc := Lib.hid (below_on Bc.out hb)
        have Wt := Lib.hid hX
        have It := Lib.hid hI
        clear hb hX hI hwc hbb
        go_simp
        refine hK.out _ _ (KS.out _ Bc.out) (fun h0_1 => ?_)
        clear hK K h0
        refine wpAnyH_ready (rs := [1, 4]) (by kernel_rfl) (by simp) (AllReadyH.cons rfl (fun K hK => ?_) (AllReadyH.cons rfl (fun K hK => ?_) AllReadyH.nil))
        · rw [if_pos (by rfl)]
          go_simp
          obtain ⟨bx, hbb⟩ : ∃ b, b = wc.heap.size := ⟨_, rfl⟩
          try (have Nzx := Lib.hid (show bz ≠ bx by have h := Iz.out; omega))
          try (have Ntx := Lib.hid (show bt ≠ bx by have h := It.out; omega))
          try (have Mrx := Lib.hid (fun (d : Addr) (e : aor = some d) => show d.block ≠ bx by have h := Dr.out d e; omega))
          try (have Mqx := Lib.hid (fun (d : Addr) (e : aoq = some d) => show d.block ≠ bx by have h := Dq.out d e; omega))
          try (have Mkx := Lib.hid (fun (d : Addr) (e : aok = some d) => show d.block ≠ bx by have h := Dk.out d e; omega))
          have hb := one_more (w1 := wc) (.cells #[] 2)
          have hX := Emp.made wc v2.heap.size 2 Bc.out.size
          have hI : v2.heap.size ≤ bx ∧ bx < (wc.alloc (.cells #[] 2)).heap.size := by rw [hbb]; exact ⟨Bc.out.size, by simp⟩
          rw [← hbb] at hX
          obtain ⟨wc, hwc⟩ : ∃ wn, wn = wc.alloc (.cells #[] 2) := ⟨_, rfl⟩
          rw [← hwc] at hb hX hI ⊢
          try rw [← hbb]
          try (have Xz := Lib.hid (Xz.out.on hb))
          try (have Iz := Lib.hid (And.intro Iz.out.1 (Nat.lt_of_lt_of_le Iz.out.2 hb.size)))
          try (have Sr := Lib.hid (Sr.out.on hb))
          try (have Dr := Lib.hid (fun d e => And.intro (Dr.out d e).1 (Nat.lt_of_lt_of_le (Dr.out d e).2 hb.size)))
          try (have Sq := Lib.hid (Sq.out.on hb))
          try (have Dq := Lib.hid (fun d e => And.intro (Dq.out d e).1 (Nat.lt_of_lt_of_le (Dq.out d e).2 hb.size)))
          try (have Wt := Lib.hid (Wt.out.kept hb))
          try (have It := Lib.hid (And.intro It.out.1 (Nat.lt_of_lt_of_le It.out.2 hb.size)))
          try (have Ak := Lib.hid (Ak.out.on hb))
          try (have Dk := Lib.hid (fun d e => And.intro (Dk.out d e).1 (Nat.lt_of_lt_of_le (Dk.out d e).2 hb.size)))
          have Bc := Lib.hid (below_on Bc.out hb)
          have Xx := Lib.hid hX
          have Ix := Lib.hid hI
          clear hb hX hI hwc hbb
          go_simp
          refine hK.out _ _ (KS.out _ Bc.out) (fun h0_60 => ?_)
          clear hK K h0_1
          refine wpAnyH_ready (rs := [3, 4]) (by kernel_rfl) (by simp) (AllReadyH.cons rfl (fun K hK => ?_) (AllReadyH.cons rfl (fun K hK => ?_) AllReadyH.nil))
          · rw [if_pos (by rfl)]
            obtain ⟨aor, cr, wc, hrun, hS, hD, hg⟩ := run_app (t := 25) (ty := 25) (e := 2) Try.underlying25 hj hy0 hy1 hy2 Xx.out (HLW.out _ Bc.out) (by omega)
            refine Lib.wp_append_run _ (.tmp 31) (.tmp 32) 25 25 rfl (.slice (some ⟨bx, 0, none⟩) 0 0) (.slice lo low.length lc) (by simp [Act.eval]) (by simp [Act.eval]) _ _ hrun ?_
            have hz := hg.size
            try (have Mrz := Lib.hid (fun (d : Addr) (e : aor = some d) => show d.block ≠ bz by have h1 := (hD d e).1; have h2 := Iz.out; first | (have h3 := Nxz.out; omega) | (have h3 := Nzx.out; omega)))
            try (have Mrt := Lib.hid (fun (d : Addr) (e : aor = some d) => show d.block ≠ bt by have h1 := (hD d e).1; have h2 := It.out; first | (have h3 := Nxt.out; omega) | (have h3 := Ntx.out; omega)))
            try (have Xz := Lib.hid (Xz.out.grown hg (by first | exact Nzx.out | exact Ne.symm Nxz.out)))
            try (have Iz := Lib.hid (And.intro Iz.out.1 (Nat.lt_of_lt_of_le Iz.out.2 hz)))
            try (have Sq := Lib.hid (Sq.out.grown hg Mqx.out))
            try (have Dq := Lib.hid (fun d e => And.intro (Dq.out d e).1 (Nat.lt_of_lt_of_le (Dq.out d e).2 hz)))
            try (have Wt := Lib.hid (Wt.out.grown hg (by first | exact Ntx.out | exact Ne.symm Nxt.out)))
            try (have It := Lib.hid (And.intro It.out.1 (Nat.lt_of_lt_of_le It.out.2 hz)))
            have Sr := Lib.hid hS
            have Dr := Lib.hid (fun (d : Addr) (e : aor = some d) => show v2.heap.size ≤ d.block ∧ d.block < wc.heap.size by have h1 := hD d e; have h2 := Ix.out; have h3 := Bc.out.size; omega)
            have Bc := Lib.hid (below_app Bc.out hg Ix.out.1)
            clear hrun hS hD hg hz
            clear Xx
            try simp only [Act.put, List.getElem_toArray, List.getElem_cons_zero, List.getElem_cons_succ, List.setIfInBounds_toArray, List.set_cons_zero, List.set_cons_succ]
            refine hK.out _ _ (KS.out _ Bc.out) (fun h0_61 => ?_)
            clear hK K h0_60
            refine wpAnyH_ready (rs := [4]) (by kernel_rfl) (by simp) (AllReadyH.cons rfl (fun K hK => ?_) AllReadyH.nil)
            rw [if_pos (by rfl)]
            go_simp
            obtain ⟨bz, hbb⟩ : ∃ b, b = wc.heap.size := ⟨_, rfl⟩
            try (have Nxz := Lib.hid (show bx ≠ bz by have h := Ix.out; omega))
            try (have Ntz := Lib.hid (show bt ≠ bz by have h := It.out; omega))
            try (have Mrz := Lib.hid (fun (d : Addr) (e : aor = some d) => show d.block ≠ bz by have h := Dr.out d e; omega))
            try (have Mqz := Lib.hid (fun (d : Addr) (e : aoq = some d) => show d.block ≠ bz by have h := Dq.out d e; omega))
            try (have Mkz := Lib.hid (fun (d : Addr) (e : aok = some d) => show d.block ≠ bz by have h := Dk.out d e; omega))
            have hb := one_more (w1 := wc) (.cells #[] 2)
            have hX := Emp.made wc v2.heap.size 2 Bc.out.size
            have hI : v2.heap.size ≤ bz ∧ bz < (wc.alloc (.cells #[] 2)).heap.size := by rw [hbb]; exact ⟨Bc.out.size, by simp⟩
            rw [← hbb] at hX
            obtain ⟨wc, hwc⟩ : ∃ wn, wn = wc.alloc (.cells #[] 2) := ⟨_, rfl⟩
            rw [← hwc] at hb hX hI ⊢
            try rw [← hbb]
            try (have Xx := Lib.hid (Xx.out.on hb))
            try (have Ix := Lib.hid (And.intro Ix.out.1 (Nat.lt_of_lt_of_le Ix.out.2 hb.size)))
            try (have Sr := Lib.hid (Sr.out.on hb))
            try (have Dr := Lib.hid (fun d e => And.intro (Dr.out d e).1 (Nat.lt_of_lt_of_le (Dr.out d e).2 hb.size)))
            try (have Sq := Lib.hid (Sq.out.on hb))
            try (have Dq := Lib.hid (fun d e => And.intro (Dq.out d e).1 (Nat.lt_of_lt_of_le (Dq.out d e).2 hb.size)))
            try (have Wt := Lib.hid (Wt.out.kept hb))
            try (have It := Lib.hid (And.intro It.out.1 (Nat.lt_of_lt_of_le It.out.2 hb.size)))
            try (have Ak := Lib.hid (Ak.out.on hb))
            try (have Dk := Lib.hid (fun d e => And.intro (Dk.out d e).1 (Nat.lt_of_lt_of_le (Dk.out d e).2 hb.size)))
            have Bc := Lib.hid (below_on Bc.out hb)
            have Xz := Lib.hid hX
            have Iz := Lib.hid hI
            clear hb hX hI hwc hbb
            go_simp
            refine hK.out _ _ (KS.out _ Bc.out) (fun h0_62 => ?_)
            clear hK K h0_61
            refine wpAnyH_ready (rs := [6]) (by kernel_rfl) (by simp) (AllReadyH.cons rfl (fun K hK => ?_) AllReadyH.nil)
            rw [if_pos (by rfl)]
            obtain ⟨aoq, cq, wc, hrun, hS, hD, hg⟩ := run_app (t := 25) (ty := 25) (e := 2) Try.underlying25 hj hy0 hy1 hy2 Xz.out (HHW.out _ Bc.out) (by omega)
            refine Lib.wp_append_run _ (.tmp 34) (.tmp 35) 25 25 rfl (.slice (some ⟨bz, 0, none⟩) 0 0) (.slice ho high.length hc) (by simp [Act.eval]) (by simp [Act.eval]) _ _ hrun ?_
            have hz := hg.size
            try (have Mqx := Lib.hid (fun (d : Addr) (e : aoq = some d) => show d.block ≠ bx by have h1 := (hD d e).1; have h2 := Ix.out; first | (have h3 := Nzx.out; omega) | (have h3 := Nxz.out; omega)))
            try (have Mqt := Lib.hid (fun (d : Addr) (e : aoq = some d) => show d.block ≠ bt by have h1 := (hD d e).1; have h2 := It.out; first | (have h3 := Nzt.out; omega) | (have h3 := Ntz.out; omega)))
            try (have Xx := Lib.hid (Xx.out.grown hg (by first | exact Nxz.out | exact Ne.symm Nzx.out)))
            try (have Ix := Lib.hid (And.intro Ix.out.1 (Nat.lt_of_lt_of_le Ix.out.2 hz)))
            try (have Sr := Lib.hid (Sr.out.grown hg Mrz.out))
            try (have Dr := Lib.hid (fun d e => And.intro (Dr.out d e).1 (Nat.lt_of_lt_of_le (Dr.out d e).2 hz)))
            try (have Wt := Lib.hid (Wt.out.grown hg (by first | exact Ntz.out | exact Ne.symm Nzt.out)))
            try (have It := Lib.hid (And.intro It.out.1 (Nat.lt_of_lt_of_le It.out.2 hz)))
            have Sq := Lib.hid hS
            have Dq := Lib.hid (fun (d : Addr) (e : aoq = some d) => show v2.heap.size ≤ d.block ∧ d.block < wc.heap.size by have h1 := hD d e; have h2 := Iz.out; have h3 := Bc.out.size; omega)
            have Bc := Lib.hid (below_app Bc.out hg Iz.out.1)
            clear hrun hS hD hg hz
            clear Xz
            try simp only [Act.put, List.getElem_toArray, List.getElem_cons_zero, List.getElem_cons_succ, List.setIfInBounds_toArray, List.set_cons_zero, List.set_cons_succ]
            refine hK.out _ _ (KS.out _ Bc.out) (fun h0_63 => ?_)
            clear hK K h0_62
            refine wpAnyH_ready (rs := [7]) (by kernel_rfl) (by simp) (AllReadyH.cons rfl (fun K hK => ?_) AllReadyH.nil)
            rw [if_pos (by rfl)]
            go_simp
            refine (BO.out _ _ _ _ _ _ _ (OSW.out _ Bc.out) Sr.out Sq.out).mono ?_
            rintro e wc ⟨aok, ck, rfl, hA, hm, hD, hn, hb⟩
            try (have Mkt := Lib.hid (fun (d : Addr) (e : aok = some d) => show d.block ≠ bt by have h1 := (hD d e).1; have h2 := It.out; omega))
            try (have Xx := Lib.hid (Xx.out.on hb))
            try (have Ix := Lib.hid (And.intro Ix.out.1 (Nat.lt_of_lt_of_le Ix.out.2 hb.size)))
            try (have Xz := Lib.hid (Xz.out.on hb))
            try (have Iz := Lib.hid (And.intro Iz.out.1 (Nat.lt_of_lt_of_le Iz.out.2 hb.size)))
            try (have Sr := Lib.hid (Sr.out.on hb))
            try (have Dr := Lib.hid (fun d e => And.intro (Dr.out d e).1 (Nat.lt_of_lt_of_le (Dr.out d e).2 hb.size)))
            try (have Sq := Lib.hid (Sq.out.on hb))
            try (have Dq := Lib.hid (fun d e => And.intro (Dq.out d e).1 (Nat.lt_of_lt_of_le (Dq.out d e).2 hb.size)))
            try (have Wt := Lib.hid (Wt.out.kept hb))
            try (have It := Lib.hid (And.intro It.out.1 (Nat.lt_of_lt_of_le It.out.2 hb.size)))
            have Ak := Lib.hid hA
            have Lk := Lib.hid hm
            have Qk := Lib.hid hn
            have Dk := Lib.hid (fun (d : Addr) (e : aok = some d) => show v2.heap.size ≤ d.block ∧ d.block < wc.heap.size by have h1 := hD d e; have h3 := Bc.out.size; omega)
            have Bc := Lib.hid (below_on Bc.out hb)
            clear hA hm hD hn hb
            go_simp
            refine hK.out _ _ (KS.out _ Bc.out) (fun h0_64 => ?_)
            clear hK K h0_63
            refine wpAnyH_take (i := 8) (v := ?v71) rfl (by kernel_rfl) (by kernel_rfl) (by kernel_rfl) (fun _ _ _ h => h) (Or.inl ⟨by rfl, ?hy71⟩) h0_64 ?rest71
            case hy71 => (intro w' hS; (try dsimp only at hS); go_simp; try (with_reducible rfl))
            simp only [Act.put, List.getElem_toArray, List.getElem_cons_zero, List.getElem_cons_succ, List.setIfInBounds_toArray, List.set_cons_zero, List.set_cons_succ]
            refine wpAnyH_take (i := 9) (v := ?v72) rfl (by kernel_rfl) (by kernel_rfl) (by kernel_rfl) (fun _ _ _ h => h) (Or.inl ⟨by rfl, ?hy72⟩) h0_64 ?rest72
            case hy72 => (intro w' hS; (try dsimp only at hS); go_simp; try (with_reducible rfl))
            simp only [Act.put, List.getElem_toArray, List.getElem_cons_zero, List.getElem_cons_succ, List.setIfInBounds_toArray, List.set_cons_zero, List.set_cons_succ]
            refine wpAnyH_take (i := 10) (v := ?v73) rfl (by kernel_rfl) (by kernel_rfl) (by kernel_rfl) (fun _ _ _ h => h) (Or.inl ⟨by rfl, ?hy73⟩) h0_64 ?rest73
            case hy73 => (intro w' hS; (try dsimp only at hS); go_simp; try (with_reducible rfl))
            simp only [Act.put, List.getElem_toArray, List.getElem_cons_zero, List.getElem_cons_succ, List.setIfInBounds_toArray, List.set_cons_zero, List.set_cons_succ]
            refine wpAnyH_ready (rs := [12]) (by kernel_rfl) (by simp) (AllReadyH.cons rfl (fun K hK => ?_) AllReadyH.nil)
            rw [if_pos (by rfl)]
            obtain ⟨q0, q1, q2, q3⟩ := Wt.out.facts
            go_simp
            have hW := Wt.out.put (.int .i64 M1) (.slice aok m1.length ck)
            have hA := arg_far' Ak.out Mkt.out (.int .i64 M1) (.slice aok m1.length ck)
            have hB := far_below Bc.out It.out.1 (.int .i64 M1) (.slice aok m1.length ck)
            obtain ⟨wc, hwc⟩ : ∃ wn, wn = (wc.setCell ⟨bt, 0, none⟩ (.int .i64 M1)).setCell ⟨bt, 1, none⟩ (.slice aok m1.length ck) := ⟨_, rfl⟩
            rw [← hwc] at hW hA hB ⊢
            have Wt := Lib.hid hW
            have Ak := Lib.hid hA
            have Bc := Lib.hid hB
            clear hW hA hB hwc q0 q1 q2 q3
            refine hK.out _ _ (KS.out _ Bc.out) (fun h0_65 => ?_)
            clear hK K h0_64
            refine wpAnyH_take (i := 13) (v := ?v74) rfl (by kernel_rfl) (by kernel_rfl) (by kernel_rfl) (fun _ _ _ h => h) (Or.inl ⟨by rfl, ?hy74⟩) h0_65 ?rest74
            case hy74 => (intro w' hS; (try dsimp only at hS); go_simp; try (with_reducible rfl))
            simp only [Act.put, List.getElem_toArray, List.getElem_cons_zero, List.getElem_cons_succ, List.setIfInBounds_toArray, List.set_cons_zero, List.set_cons_succ]
            refine wpAnyH_done (by kernel_rfl) ?_ _
            go_wp2_with fail
            go_meet
            case rel => exact ⟨bt, aok, ck, rfl, rfl, Lib.hid ⟨Wt.out, Ak.out, Lk.out, Bc.out⟩⟩
          · rw [if_pos (by rfl)]
            go_simp
            obtain ⟨bz, hbb⟩ : ∃ b, b = wc.heap.size := ⟨_, rfl⟩
            try (have Nxz := Lib.hid (show bx ≠ bz by have h := Ix.out; omega))
            try (have Ntz := Lib.hid (show bt ≠ bz by have h := It.out; omega))
            try (have Mrz := Lib.hid (fun (d : Addr) (e : aor = some d) => show d.block ≠ bz by have h := Dr.out d e; omega))
            try (have Mqz := Lib.hid (fun (d : Addr) (e : aoq = some d) => show d.block ≠ bz by have h := Dq.out d e; omega))
            try (have Mkz := Lib.hid (fun (d : Addr) (e : aok = some d) => show d.block ≠ bz by have h := Dk.out d e; omega))
            have hb := one_more (w1 := wc) (.cells #[] 2)
            have hX := Emp.made wc v2.heap.size 2 Bc.out.size
            have hI : v2.heap.size ≤ bz ∧ bz < (wc.alloc (.cells #[] 2)).heap.size := by rw [hbb]; exact ⟨Bc.out.size, by simp⟩
            rw [← hbb] at hX
            obtain ⟨wc, hwc⟩ : ∃ wn, wn = wc.alloc (.cells #[] 2) := ⟨_, rfl⟩
            rw [← hwc] at hb hX hI ⊢
            try rw [← hbb]
            try (have Xx := Lib.hid (Xx.out.on hb))
            try (have Ix := Lib.hid (And.intro Ix.out.1 (Nat.lt_of_lt_of_le Ix.out.2 hb.size)))
            try (have Sr := Lib.hid (Sr.out.on hb))
            try (have Dr := Lib.hid (fun d e => And.intro (Dr.out d e).1 (Nat.lt_of_lt_of_le (Dr.out d e).2 hb.size)))
            try (have Sq := Lib.hid (Sq.out.on hb))
            try (have Dq := Lib.hid (fun d e => And.intro (Dq.out d e).1 (Nat.lt_of_lt_of_le (Dq.out d e).2 hb.size)))
            try (have Wt := Lib.hid (Wt.out.kept hb))
            try (have It := Lib.hid (And.intro It.out.1 (Nat.lt_of_lt_of_le It.out.2 hb.size)))
            try (have Ak := Lib.hid (Ak.out.on hb))
            try (have Dk := Lib.hid (fun d e => And.intro (Dk.out d e).1 (Nat.lt_of_lt_of_le (Dk.out d e).2 hb.size)))
            have Bc := Lib.hid (below_on Bc.out hb)
            have Xz := Lib.hid hX
            have Iz := Lib.hid hI
            clear hb hX hI hwc hbb
            go_simp
            refine hK.out _ _ (KS.out _ Bc.out) (fun h0_61 => ?_)
            clear hK K h0_60
            refine wpAnyH_ready (rs := [3]) (by kernel_rfl) (by simp) (AllReadyH.cons rfl (fun K hK => ?_) AllReadyH.nil)
            rw [if_pos (by rfl)]
            obtain ⟨aor, cr, wc, hrun, hS, hD, hg⟩ := run_app (t := 25) (ty := 25) (e := 2) Try.underlying25 hj hy0 hy1 hy2 Xx.out (HLW.out _ Bc.out) (by omega)
            refine Lib.wp_append_run _ (.tmp 31) (.tmp 32) 25 25 rfl (.slice (some ⟨bx, 0, none⟩) 0 0) (.slice lo low.length lc) (by simp [Act.eval]) (by simp [Act.eval]) _ _ hrun ?_
            have hz := hg.size
            try (have Mrz := Lib.hid (fun (d : Addr) (e : aor = some d) => show d.block ≠ bz by have h1 := (hD d e).1; have h2 := Iz.out; first | (have h3 := Nxz.out; omega) | (have h3 := Nzx.out; omega)))
            try (have Mrt := Lib.hid (fun (d : Addr) (e : aor = some d) => show d.block ≠ bt by have h1 := (hD d e).1; have h2 := It.out; first | (have h3 := Nxt.out; omega) | (have h3 := Ntx.out; omega)))
            try (have Xz := Lib.hid (Xz.out.grown hg (by first | exact Nzx.out | exact Ne.symm Nxz.out)))
            try (have Iz := Lib.hid (And.intro Iz.out.1 (Nat.lt_of_lt_of_le Iz.out.2 hz)))
            try (have Sq := Lib.hid (Sq.out.grown hg Mqx.out))
            try (have Dq := Lib.hid (fun d e => And.intro (Dq.out d e).1 (Nat.lt_of_lt_of_le (Dq.out d e).2 hz)))
            try (have Wt := Lib.hid (Wt.out.grown hg (by first | exact Ntx.out | exact Ne.symm Nxt.out)))
            try (have It := Lib.hid (And.intro It.out.1 (Nat.lt_of_lt_of_le It.out.2 hz)))
            have Sr := Lib.hid hS
            have Dr := Lib.hid (fun (d : Addr) (e : aor = some d) => show v2.heap.size ≤ d.block ∧ d.block < wc.heap.size by have h1 := hD d e; have h2 := Ix.out; have h3 := Bc.out.size; omega)
            have Bc := Lib.hid (below_app Bc.out hg Ix.out.1)
            clear hrun hS hD hg hz
            clear Xx
            try simp only [Act.put, List.getElem_toArray, List.getElem_cons_zero, List.getElem_cons_succ, List.setIfInBounds_toArray, List.set_cons_zero, List.set_cons_succ]
            refine hK.out _ _ (KS.out _ Bc.out) (fun h0_66 => ?_)
            clear hK K h0_61
            refine wpAnyH_ready (rs := [6]) (by kernel_rfl) (by simp) (AllReadyH.cons rfl (fun K hK => ?_) AllReadyH.nil)
            rw [if_pos (by rfl)]
            obtain ⟨aoq, cq, wc, hrun, hS, hD, hg⟩ := run_app (t := 25) (ty := 25) (e := 2) Try.underlying25 hj hy0 hy1 hy2 Xz.out (HHW.out _ Bc.out) (by omega)
            refine Lib.wp_append_run _ (.tmp 34) (.tmp 35) 25 25 rfl (.slice (some ⟨bz, 0, none⟩) 0 0) (.slice ho high.length hc) (by simp [Act.eval]) (by simp [Act.eval]) _ _ hrun ?_
            have hz := hg.size
            try (have Mqx := Lib.hid (fun (d : Addr) (e : aoq = some d) => show d.block ≠ bx by have h1 := (hD d e).1; have h2 := Ix.out; first | (have h3 := Nzx.out; omega) | (have h3 := Nxz.out; omega)))
            try (have Mqt := Lib.hid (fun (d : Addr) (e : aoq = some d) => show d.block ≠ bt by have h1 := (hD d e).1; have h2 := It.out; first | (have h3 := Nzt.out; omega) | (have h3 := Ntz.out; omega)))
            try (have Xx := Lib.hid (Xx.out.grown hg (by first | exact Nxz.out | exact Ne.symm Nzx.out)))
            try (have Ix := Lib.hid (And.intro Ix.out.1 (Nat.lt_of_lt_of_le Ix.out.2 hz)))
            try (have Sr := Lib.hid (Sr.out.grown hg Mrz.out))
            try (have Dr := Lib.hid (fun d e => And.intro (Dr.out d e).1 (Nat.lt_of_lt_of_le (Dr.out d e).2 hz)))
            try (have Wt := Lib.hid (Wt.out.grown hg (by first | exact Ntz.out | exact Ne.symm Nzt.out)))
            try (have It := Lib.hid (And.intro It.out.1 (Nat.lt_of_lt_of_le It.out.2 hz)))
            have Sq := Lib.hid hS
            have Dq := Lib.hid (fun (d : Addr) (e : aoq = some d) => show v2.heap.size ≤ d.block ∧ d.block < wc.heap.size by have h1 := hD d e; have h2 := Iz.out; have h3 := Bc.out.size; omega)
            have Bc := Lib.hid (below_app Bc.out hg Iz.out.1)
            clear hrun hS hD hg hz
            clear Xz
            try simp only [Act.put, List.getElem_toArray, List.getElem_cons_zero, List.getElem_cons_succ, List.setIfInBounds_toArray, List.set_cons_zero, List.set_cons_succ]
            refine hK.out _ _ (KS.out _ Bc.out) (fun h0_67 => ?_)
            clear hK K h0_66
            refine wpAnyH_ready (rs := [7]) (by kernel_rfl) (by simp) (AllReadyH.cons rfl (fun K hK => ?_) AllReadyH.nil)
            rw [if_pos (by rfl)]
            go_simp
            refine (BO.out _ _ _ _ _ _ _ (OSW.out _ Bc.out) Sr.out Sq.out).mono ?_
            rintro e wc ⟨aok, ck, rfl, hA, hm, hD, hn, hb⟩
            try (have Mkt := Lib.hid (fun (d : Addr) (e : aok = some d) => show d.block ≠ bt by have h1 := (hD d e).1; have h2 := It.out; omega))
            try (have Xx := Lib.hid (Xx.out.on hb))
            try (have Ix := Lib.hid (And.intro Ix.out.1 (Nat.lt_of_lt_of_le Ix.out.2 hb.size)))
            try (have Xz := Lib.hid (Xz.out.on hb))
            try (have Iz := Lib.hid (And.intro Iz.out.1 (Nat.lt_of_lt_of_le Iz.out.2 hb.size)))
            try (have Sr := Lib.hid (Sr.out.on hb))
            try (have Dr := Lib.hid (fun d e => And.intro (Dr.out d e).1 (Nat.lt_of_lt_of_le (Dr.out d e).2 hb.size)))
            try (have Sq := Lib.hid (Sq.out.on hb))
            try (have Dq := Lib.hid (fun d e => And.intro (Dq.out d e).1 (Nat.lt_of_lt_of_le (Dq.out d e).2 hb.size)))
            try (have Wt := Lib.hid (Wt.out.kept hb))
            try (have It := Lib.hid (And.intro It.out.1 (Nat.lt_of_lt_of_le It.out.2 hb.size)))
            have Ak := Lib.hid hA
            have Lk := Lib.hid hm
            have Qk := Lib.hid hn
            have Dk := Lib.hid (fun (d : Addr) (e : aok = some d) => show v2.heap.size ≤ d.block ∧ d.block < wc.heap.size by have h1 := hD d e; have h3 := Bc.out.size; omega)
            have Bc := Lib.hid (below_on Bc.out hb)
            clear hA hm hD hn hb
            go_simp
            refine hK.out _ _ (KS.out _ Bc.out) (fun h0_68 => ?_)
            clear hK K h0_67
            refine wpAnyH_take (i := 8) (v := ?v75) rfl (by kernel_rfl) (by kernel_rfl) (by kernel_rfl) (fun _ _ _ h => h) (Or.inl ⟨by rfl, ?hy75⟩) h0_68 ?rest75
            case hy75 => (intro w' hS; (try dsimp only at hS); go_simp; try (with_reducible rfl))
            simp only [Act.put, List.getElem_toArray, List.getElem_cons_zero, List.getElem_cons_succ, List.setIfInBounds_toArray, List.set_cons_zero, List.set_cons_succ]
            refine wpAnyH_take (i := 9) (v := ?v76) rfl (by kernel_rfl) (by kernel_rfl) (by kernel_rfl) (fun _ _ _ h => h) (Or.inl ⟨by rfl, ?hy76⟩) h0_68 ?rest76
            case hy76 => (intro w' hS; (try dsimp only at hS); go_simp; try (with_reducible rfl))
            simp only [Act.put, List.getElem_toArray, List.getElem_cons_zero, List.getElem_cons_succ, List.setIfInBounds_toArray, List.set_cons_zero, List.set_cons_succ]
            refine wpAnyH_take (i := 10) (v := ?v77) rfl (by kernel_rfl) (by kernel_rfl) (by kernel_rfl) (fun _ _ _ h => h) (Or.inl ⟨by rfl, ?hy77⟩) h0_68 ?rest77
            case hy77 => (intro w' hS; (try dsimp only at hS); go_simp; try (with_reducible rfl))
            simp only [Act.put, List.getElem_toArray, List.getElem_cons_zero, List.getElem_cons_succ, List.setIfInBounds_toArray, List.set_cons_zero, List.set_cons_succ]
            refine wpAnyH_ready (rs := [12]) (by kernel_rfl) (by simp) (AllReadyH.cons rfl (fun K hK => ?_) AllReadyH.nil)
            rw [if_pos (by rfl)]
            obtain ⟨q0, q1, q2, q3⟩ := Wt.out.facts
            go_simp
            have hW := Wt.out.put (.int .i64 M1) (.slice aok m1.length ck)
            have hA := arg_far' Ak.out Mkt.out (.int .i64 M1) (.slice aok m1.length ck)
            have hB := far_below Bc.out It.out.1 (.int .i64 M1) (.slice aok m1.length ck)
            obtain ⟨wc, hwc⟩ : ∃ wn, wn = (wc.setCell ⟨bt, 0, none⟩ (.int .i64 M1)).setCell ⟨bt, 1, none⟩ (.slice aok m1.length ck) := ⟨_, rfl⟩
            rw [← hwc] at hW hA hB ⊢
            have Wt := Lib.hid hW
            have Ak := Lib.hid hA
            have Bc := Lib.hid hB
            clear hW hA hB hwc q0 q1 q2 q3
            refine hK.out _ _ (KS.out _ Bc.out) (fun h0_69 => ?_)
            clear hK K h0_68
            refine wpAnyH_take (i := 13) (v := ?v78) rfl (by kernel_rfl) (by kernel_rfl) (by kernel_rfl) (fun _ _ _ h => h) (Or.inl ⟨by rfl, ?hy78⟩) h0_69 ?rest78
            case hy78 => (intro w' hS; (try dsimp only at hS); go_simp; try (with_reducible rfl))
            simp only [Act.put, List.getElem_toArray, List.getElem_cons_zero, List.getElem_cons_succ, List.setIfInBounds_toArray, List.set_cons_zero, List.set_cons_succ]
            refine wpAnyH_done (by kernel_rfl) ?_ _
            go_wp2_with fail
            go_meet
            case rel => exact ⟨bt, aok, ck, rfl, rfl, Lib.hid ⟨Wt.out, Ak.out, Lk.out, Bc.out⟩⟩
        · rw [if_pos (by rfl)]
          go_simp
          obtain ⟨bz, hbb⟩ : ∃ b, b = wc.heap.size := ⟨_, rfl⟩
          try (have Nxz := Lib.hid (show bx ≠ bz by have h := Ix.out; omega))
          try (have Ntz := Lib.hid (show bt ≠ bz by have h := It.out; omega))
          try (have Mrz := Lib.hid (fun (d : Addr) (e : aor = some d) => show d.block ≠ bz by have h := Dr.out d e; omega))
          try (have Mqz := Lib.hid (fun (d : Addr) (e : aoq = some d) => show d.block ≠ bz by have h := Dq.out d e; omega))
          try (have Mkz := Lib.hid (fun (d : Addr) (e : aok = some d) => show d.block ≠ bz by have h := Dk.out d e; omega))
          have hb := one_more (w1 := wc) (.cells #[] 2)
          have hX := Emp.made wc v2.heap.size 2 Bc.out.size
          have hI : v2.heap.size ≤ bz ∧ bz < (wc.alloc (.cells #[] 2)).heap.size := by rw [hbb]; exact ⟨Bc.out.size, by simp⟩
          rw [← hbb] at hX
          obtain ⟨wc, hwc⟩ : ∃ wn, wn = wc.alloc (.cells #[] 2) := ⟨_, rfl⟩
          rw [← hwc] at hb hX hI ⊢
          try rw [← hbb]
          try (have Xx := Lib.hid (Xx.out.on hb))
          try (have Ix := Lib.hid (And.intro Ix.out.1 (Nat.lt_of_lt_of_le Ix.out.2 hb.size)))
          try (have Sr := Lib.hid (Sr.out.on hb))
          try (have Dr := Lib.hid (fun d e => And.intro (Dr.out d e).1 (Nat.lt_of_lt_of_le (Dr.out d e).2 hb.size)))
          try (have Sq := Lib.hid (Sq.out.on hb))
          try (have Dq := Lib.hid (fun d e => And.intro (Dq.out d e).1 (Nat.lt_of_lt_of_le (Dq.out d e).2 hb.size)))
          try (have Wt := Lib.hid (Wt.out.kept hb))
          try (have It := Lib.hid (And.intro It.out.1 (Nat.lt_of_lt_of_le It.out.2 hb.size)))
          try (have Ak := Lib.hid (Ak.out.on hb))
          try (have Dk := Lib.hid (fun d e => And.intro (Dk.out d e).1 (Nat.lt_of_lt_of_le (Dk.out d e).2 hb.size)))
          have Bc := Lib.hid (below_on Bc.out hb)
          have Xz := Lib.hid hX
          have Iz := Lib.hid hI
          clear hb hX hI hwc hbb
          go_simp
          refine hK.out _ _ (KS.out _ Bc.out) (fun h0_60 => ?_)
          clear hK K h0_1
          refine wpAnyH_ready (rs := [1]) (by kernel_rfl) (by simp) (AllReadyH.cons rfl (fun K hK => ?_) AllReadyH.nil)
          rw [if_pos (by rfl)]
          go_simp
          obtain ⟨bx, hbb⟩ : ∃ b, b = wc.heap.size := ⟨_, rfl⟩
          try (have Nzx := Lib.hid (show bz ≠ bx by have h := Iz.out; omega))
          try (have Ntx := Lib.hid (show bt ≠ bx by have h := It.out; omega))
          try (have Mrx := Lib.hid (fun (d : Addr) (e : aor = some d) => show d.block ≠ bx by have h := Dr.out d e; omega))
          try (have Mqx := Lib.hid (fun (d : Addr) (e : aoq = some d) => show d.block ≠ bx by have h := Dq.out d e; omega))
          try (have Mkx := Lib.hid (fun (d : Addr) (e : aok = some d) => show d.block ≠ bx by have h := Dk.out d e; omega))
          have hb := one_more (w1 := wc) (.cells #[] 2)
          have hX := Emp.made wc v2.heap.size 2 Bc.out.size
          have hI : v2.heap.size ≤ bx ∧ bx < (wc.alloc (.cells #[] 2)).heap.size := by rw [hbb]; exact ⟨Bc.out.size, by simp⟩
          rw [← hbb] at hX
          obtain ⟨wc, hwc⟩ : ∃ wn, wn = wc.alloc (.cells #[] 2) := ⟨_, rfl⟩
          rw [← hwc] at hb hX hI ⊢
          try rw [← hbb]
          try (have Xz := Lib.hid (Xz.out.on hb))
          try (have Iz := Lib.hid (And.intro Iz.out.1 (Nat.lt_of_lt_of_le Iz.out.2 hb.size)))
          try (have Sr := Lib.hid (Sr.out.on hb))
          try (have Dr := Lib.hid (fun d e => And.intro (Dr.out d e).1 (Nat.lt_of_lt_of_le (Dr.out d e).2 hb.size)))
          try (have Sq := Lib.hid (Sq.out.on hb))
          try (have Dq := Lib.hid (fun d e => And.intro (Dq.out d e).1 (Nat.lt_of_lt_of_le (Dq.out d e).2 hb.size)))
          try (have Wt := Lib.hid (Wt.out.kept hb))
          try (have It := Lib.hid (And.intro It.out.1 (Nat.lt_of_lt_of_le It.out.2 hb.size)))
          try (have Ak := Lib.hid (Ak.out.on hb))
          try (have Dk := Lib.hid (fun d e => And.intro (Dk.out d e).1 (Nat.lt_of_lt_of_le (Dk.out d e).2 hb.size)))
          have Bc := Lib.hid (below_on Bc.out hb)
          have Xx := Lib.hid hX
          have Ix := Lib.hid hI
          clear hb hX hI hwc hbb
          go_simp
          refine hK.out _ _ (KS.out _ Bc.out) (fun h0_70 => ?_)
          clear hK K h0_60
          refine wpAnyH_ready (rs := [3]) (by kernel_rfl) (by simp) (AllReadyH.cons rfl (fun K hK => ?_) AllReadyH.nil)
          rw [if_pos (by rfl)]
          obtain ⟨aor, cr, wc, hrun, hS, hD, hg⟩ := run_app (t := 25) (ty := 25) (e := 2) Try.underlying25 hj hy0 hy1 hy2 Xx.out (HLW.out _ Bc.out) (by omega)
          refine Lib.wp_append_run _ (.tmp 31) (.tmp 32) 25 25 rfl (.slice (some ⟨bx, 0, none⟩) 0 0) (.slice lo low.length lc) (by simp [Act.eval]) (by simp [Act.eval]) _ _ hrun ?_
          have hz := hg.size
          try (have Mrz := Lib.hid (fun (d : Addr) (e : aor = some d) => show d.block ≠ bz by have h1 := (hD d e).1; have h2 := Iz.out; first | (have h3 := Nxz.out; omega) | (have h3 := Nzx.out; omega)))
          try (have Mrt := Lib.hid (fun (d : Addr) (e : aor = some d) => show d.block ≠ bt by have h1 := (hD d e).1; have h2 := It.out; first | (have h3 := Nxt.out; omega) | (have h3 := Ntx.out; omega)))
          try (have Xz := Lib.hid (Xz.out.grown hg (by first | exact Nzx.out | exact Ne.symm Nxz.out)))
          try (have Iz := Lib.hid (And.intro Iz.out.1 (Nat.lt_of_lt_of_le Iz.out.2 hz)))
          try (have Sq := Lib.hid (Sq.out.grown hg Mqx.out))
          try (have Dq := Lib.hid (fun d e => And.intro (Dq.out d e).1 (Nat.lt_of_lt_of_le (Dq.out d e).2 hz)))
          try (have Wt := Lib.hid (Wt.out.grown hg (by first | exact Ntx.out | exact Ne.symm Nxt.out)))
          try (have It := Lib.hid (And.intro It.out.1 (Nat.lt_of_lt_of_le It.out.2 hz)))
          have Sr := Lib.hid hS
          have Dr := Lib.hid (fun (d : Addr) (e : aor = some d) => show v2.heap.size ≤ d.block ∧ d.block < wc.heap.size by have h1 := hD d e; have h2 := Ix.out; have h3 := Bc.out.size; omega)
          have Bc := Lib.hid (below_app Bc.out hg Ix.out.1)
          clear hrun hS hD hg hz
          clear Xx
          try simp only [Act.put, List.getElem_toArray, List.getElem_cons_zero, List.getElem_cons_succ, List.setIfInBounds_toArray, List.set_cons_zero, List.set_cons_succ]
          refine hK.out _ _ (KS.out _ Bc.out) (fun h0_71 => ?_)
          clear hK K h0_70
          refine wpAnyH_ready (rs := [6]) (by kernel_rfl) (by simp) (AllReadyH.cons rfl (fun K hK => ?_) AllReadyH.nil)
          rw [if_pos (by rfl)]
          obtain ⟨aoq, cq, wc, hrun, hS, hD, hg⟩ := run_app (t := 25) (ty := 25) (e := 2) Try.underlying25 hj hy0 hy1 hy2 Xz.out (HHW.out _ Bc.out) (by omega)
          refine Lib.wp_append_run _ (.tmp 34) (.tmp 35) 25 25 rfl (.slice (some ⟨bz, 0, none⟩) 0 0) (.slice ho high.length hc) (by simp [Act.eval]) (by simp [Act.eval]) _ _ hrun ?_
          have hz := hg.size
          try (have Mqx := Lib.hid (fun (d : Addr) (e : aoq = some d) => show d.block ≠ bx by have h1 := (hD d e).1; have h2 := Ix.out; first | (have h3 := Nzx.out; omega) | (have h3 := Nxz.out; omega)))
          try (have Mqt := Lib.hid (fun (d : Addr) (e : aoq = some d) => show d.block ≠ bt by have h1 := (hD d e).1; have h2 := It.out; first | (have h3 := Nzt.out; omega) | (have h3 := Ntz.out; omega)))
          try (have Xx := Lib.hid (Xx.out.grown hg (by first | exact Nxz.out | exact Ne.symm Nzx.out)))
          try (have Ix := Lib.hid (And.intro Ix.out.1 (Nat.lt_of_lt_of_le Ix.out.2 hz)))
          try (have Sr := Lib.hid (Sr.out.grown hg Mrz.out))
          try (have Dr := Lib.hid (fun d e => And.intro (Dr.out d e).1 (Nat.lt_of_lt_of_le (Dr.out d e).2 hz)))
          try (have Wt := Lib.hid (Wt.out.grown hg (by first | exact Ntz.out | exact Ne.symm Nzt.out)))
          try (have It := Lib.hid (And.intro It.out.1 (Nat.lt_of_lt_of_le It.out.2 hz)))
          have Sq := Lib.hid hS
          have Dq := Lib.hid (fun (d : Addr) (e : aoq = some d) => show v2.heap.size ≤ d.block ∧ d.block < wc.heap.size by have h1 := hD d e; have h2 := Iz.out; have h3 := Bc.out.size; omega)
          have Bc := Lib.hid (below_app Bc.out hg Iz.out.1)
          clear hrun hS hD hg hz
          clear Xz
          try simp only [Act.put, List.getElem_toArray, List.getElem_cons_zero, List.getElem_cons_succ, List.setIfInBounds_toArray, List.set_cons_zero, List.set_cons_succ]
          refine hK.out _ _ (KS.out _ Bc.out) (fun h0_72 => ?_)
          clear hK K h0_71
          refine wpAnyH_ready (rs := [7]) (by kernel_rfl) (by simp) (AllReadyH.cons rfl (fun K hK => ?_) AllReadyH.nil)
          rw [if_pos (by rfl)]
          go_simp
          refine (BO.out _ _ _ _ _ _ _ (OSW.out _ Bc.out) Sr.out Sq.out).mono ?_
          rintro e wc ⟨aok, ck, rfl, hA, hm, hD, hn, hb⟩
          try (have Mkt := Lib.hid (fun (d : Addr) (e : aok = some d) => show d.block ≠ bt by have h1 := (hD d e).1; have h2 := It.out; omega))
          try (have Xx := Lib.hid (Xx.out.on hb))
          try (have Ix := Lib.hid (And.intro Ix.out.1 (Nat.lt_of_lt_of_le Ix.out.2 hb.size)))
          try (have Xz := Lib.hid (Xz.out.on hb))
          try (have Iz := Lib.hid (And.intro Iz.out.1 (Nat.lt_of_lt_of_le Iz.out.2 hb.size)))
          try (have Sr := Lib.hid (Sr.out.on hb))
          try (have Dr := Lib.hid (fun d e => And.intro (Dr.out d e).1 (Nat.lt_of_lt_of_le (Dr.out d e).2 hb.size)))
          try (have Sq := Lib.hid (Sq.out.on hb))
          try (have Dq := Lib.hid (fun d e => And.intro (Dq.out d e).1 (Nat.lt_of_lt_of_le (Dq.out d e).2 hb.size)))
          try (have Wt := Lib.hid (Wt.out.kept hb))
          try (have It := Lib.hid (And.intro It.out.1 (Nat.lt_of_lt_of_le It.out.2 hb.size)))
          have Ak := Lib.hid hA
          have Lk := Lib.hid hm
          have Qk := Lib.hid hn
          have Dk := Lib.hid (fun (d : Addr) (e : aok = some d) => show v2.heap.size ≤ d.block ∧ d.block < wc.heap.size by have h1 := hD d e; have h3 := Bc.out.size; omega)
          have Bc := Lib.hid (below_on Bc.out hb)
          clear hA hm hD hn hb
          go_simp
          refine hK.out _ _ (KS.out _ Bc.out) (fun h0_73 => ?_)
          clear hK K h0_72
          refine wpAnyH_take (i := 8) (v := ?v79) rfl (by kernel_rfl) (by kernel_rfl) (by kernel_rfl) (fun _ _ _ h => h) (Or.inl ⟨by rfl, ?hy79⟩) h0_73 ?rest79
          case hy79 => (intro w' hS; (try dsimp only at hS); go_simp; try (with_reducible rfl))
          simp only [Act.put, List.getElem_toArray, List.getElem_cons_zero, List.getElem_cons_succ, List.setIfInBounds_toArray, List.set_cons_zero, List.set_cons_succ]
          refine wpAnyH_take (i := 9) (v := ?v80) rfl (by kernel_rfl) (by kernel_rfl) (by kernel_rfl) (fun _ _ _ h => h) (Or.inl ⟨by rfl, ?hy80⟩) h0_73 ?rest80
          case hy80 => (intro w' hS; (try dsimp only at hS); go_simp; try (with_reducible rfl))
          simp only [Act.put, List.getElem_toArray, List.getElem_cons_zero, List.getElem_cons_succ, List.setIfInBounds_toArray, List.set_cons_zero, List.set_cons_succ]
          refine wpAnyH_take (i := 10) (v := ?v81) rfl (by kernel_rfl) (by kernel_rfl) (by kernel_rfl) (fun _ _ _ h => h) (Or.inl ⟨by rfl, ?hy81⟩) h0_73 ?rest81
          case hy81 => (intro w' hS; (try dsimp only at hS); go_simp; try (with_reducible rfl))
          simp only [Act.put, List.getElem_toArray, List.getElem_cons_zero, List.getElem_cons_succ, List.setIfInBounds_toArray, List.set_cons_zero, List.set_cons_succ]
          refine wpAnyH_ready (rs := [12]) (by kernel_rfl) (by simp) (AllReadyH.cons rfl (fun K hK => ?_) AllReadyH.nil)
          rw [if_pos (by rfl)]
          obtain ⟨q0, q1, q2, q3⟩ := Wt.out.facts
          go_simp
          have hW := Wt.out.put (.int .i64 M1) (.slice aok m1.length ck)
          have hA := arg_far' Ak.out Mkt.out (.int .i64 M1) (.slice aok m1.length ck)
          have hB := far_below Bc.out It.out.1 (.int .i64 M1) (.slice aok m1.length ck)
          obtain ⟨wc, hwc⟩ : ∃ wn, wn = (wc.setCell ⟨bt, 0, none⟩ (.int .i64 M1)).setCell ⟨bt, 1, none⟩ (.slice aok m1.length ck) := ⟨_, rfl⟩
          rw [← hwc] at hW hA hB ⊢
          have Wt := Lib.hid hW
          have Ak := Lib.hid hA
          have Bc := Lib.hid hB
          clear hW hA hB hwc q0 q1 q2 q3
          refine hK.out _ _ (KS.out _ Bc.out) (fun h0_74 => ?_)
          clear hK K h0_73
          refine wpAnyH_take (i := 13) (v := ?v82) rfl (by kernel_rfl) (by kernel_rfl) (by kernel_rfl) (fun _ _ _ h => h) (Or.inl ⟨by rfl, ?hy82⟩) h0_74 ?rest82
          case hy82 => (intro w' hS; (try dsimp only at hS); go_simp; try (with_reducible rfl))
          simp only [Act.put, List.getElem_toArray, List.getElem_cons_zero, List.getElem_cons_succ, List.setIfInBounds_toArray, List.set_cons_zero, List.set_cons_succ]
          refine wpAnyH_done (by kernel_rfl) ?_ _
          go_wp2_with fail
          go_meet
          case rel => exact ⟨bt, aok, ck, rfl, rfl, Lib.hid ⟨Wt.out, Ak.out, Lk.out, Bc.out⟩⟩
    case rest =>
      obtain ⟨p3, ao3, c3, rfl, rfl, HX⟩ := hcut
      generalize wc = v3 at *
      have X3 := Lib.hid HX.out.1
      have A3 := Lib.hid HX.out.2.1
      have L3 := Lib.hid HX.out.2.2.1
      have B3 := Lib.hid (below_on B2.out HX.out.2.2.2)
      have PX := Lib.hid (PX.out.kept HX.out.2.2.2)
      have OX := Lib.hid (OX.out.kept HX.out.2.2.2)
      have OS := Lib.hid (OS.out.on HX.out.2.2.2)
      clear HX OSW HLW HHW
      obtain ⟨b0, b1, b2, b3⟩ := PX.out.facts
      go_wp2_with fail
      refine (RB.out _ B3.out).mono ?_
      rintro e w4 ⟨ao4, c4, rfl, hA, hm, _, _, hb⟩
      obtain ⟨v4, hv⟩ : ∃ v4, v4 = w4.alloc (.cells #[.int .i64 M1, .slice ao4 m1.length c4] 24) := ⟨_, rfl⟩
      have X4 := Lib.hid (show Two v4 w4.heap.size (.int .i64 M1) (.slice ao4 m1.length c4) by rw [hv]; exact Two.made _ _ _ _)
      have A4 := Lib.hid (show Arg v4 ao4 m1 by rw [hv]; exact hA.on (one_more _))
      have H4 := Lib.hid (show Below v3.heap.size v3 v4 by rw [hv]; exact hb.alloc hb.size _)
      clear hA hm hb b0 b1 b2 b3
      go_upto_region 6 with (fail)
      rw [← hv]
      clear hv
      have B4 := Lib.hid (below_on B3.out H4.out)
      have PX := Lib.hid (PX.out.kept H4.out)
      have OX := Lib.hid (OX.out.kept H4.out)
      have OS := Lib.hid (OS.out.on H4.out)
      have X3 := Lib.hid (X3.out.kept H4.out)
      have A3 := Lib.hid (A3.out.on H4.out)
      have OSW := Lib.hid (fun W (hb : Below v4.heap.size v4 W) => OS.out.on hb)
      have HLW := Lib.hid (fun W (hb : Below v4.heap.size v4 W) => HL.out W (below_on B4.out hb))
      go_cut [12, 13] (fun s8 s9 wx => ∃ (p : Nat) (mo : Option Addr) (mc : Nat), s8 = .pointer (some ⟨p, 0, none⟩) ∧ s9 = .int .i64 e2 ∧ Hid (Two wx p (.int .i64 M2) (.slice mo m2.length mc) ∧ Arg wx mo m2 ∧ m2.length ≤ maxLen ∧ Below v4.heap.size v4 wx))
      case first =>
        have KS := Lib.hid (show ∀ W, Below v4.heap.size v4 W → (W.cell? ⟨p, 0, none⟩ = some (.int .i64 N) ∧ W.cell? ⟨p, 1, none⟩ = some (.slice mo l.length mc)) from fun W h => ⟨(OX.out.kept h).facts.1, (OX.out.kept h).facts.2.1⟩)
        obtain ⟨wc, hwc⟩ : ∃ wc, wc = v4.drew := ⟨_, rfl⟩
        have Bc := Lib.hid (show Below v4.heap.size v4 wc by rw [hwc]; exact (Below.refl _ _).drew)
        refine wp_region_held_drew (S := (fun W => (W.cell? ⟨p, 0, none⟩ = some (.int .i64 N) ∧ W.cell? ⟨p, 1, none⟩ = some (.slice mo l.length mc)))) (by kernel_rfl) (by rw [← hwc]; exact KS.out _ Bc.out) (fun h0 => ?_)
        rw [← hwc] at h0 ⊢
        clear hwc
        refine wpAnyH_take (i := 0) (v := ?v83) rfl (by kernel_rfl) (by kernel_rfl) (by kernel_rfl) (fun _ _ _ h => h) (Or.inl ⟨by rfl, ?hy83⟩) h0 ?rest83
        case hy83 => (intro w' hS; (try dsimp only at hS); go_simp; try (with_reducible rfl))
        simp only [Act.put, List.getElem_toArray, List.getElem_cons_zero, List.setIfInBounds_toArray, List.set_cons_zero, List.set_cons_succ]
        refine wpAnyH_take (i := 2) (v := ?v84) rfl (by kernel_rfl) (by kernel_rfl) (by kernel_rfl) (fun _ _ _ h => h) (Or.inl ⟨by rfl, ?hy84⟩) h0 ?rest84
        case hy84 => (intro w' hS; (try dsimp only at hS); go_simp; try (with_reducible rfl))
        simp only [Act.put, List.getElem_toArray, List.getElem_cons_zero, List.getElem_cons_succ, List.setIfInBounds_toArray, List.set_cons_zero, List.set_cons_succ]
        refine wpAnyH_ready (rs := [1, 8]) (by kernel_rfl) (by simp) (AllReadyH.cons rfl (fun K hK => ?_) (AllReadyH.cons rfl (fun K hK => ?_) AllReadyH.nil))
        · rw [if_pos (by rfl)]
          go_simp
          obtain ⟨bx, hbb⟩ : ∃ b, b = wc.heap.size := ⟨_, rfl⟩
          try (have Ntx := Lib.hid (show bt ≠ bx by have h := It.out; omega))
          try (have Mrx := Lib.hid (fun (d : Addr) (e : aor = some d) => show d.block ≠ bx by have h := Dr.out d e; omega))
          try (have Mkx := Lib.hid (fun (d : Addr) (e : aok = some d) => show d.block ≠ bx by have h := Dk.out d e; omega))
          have hb := one_more (w1 := wc) (.cells #[] 2)
          have hX := Emp.made wc v4.heap.size 2 Bc.out.size
          have hI : v4.heap.size ≤ bx ∧ bx < (wc.alloc (.cells #[] 2)).heap.size := by rw [hbb]; exact ⟨Bc.out.size, by simp⟩
          rw [← hbb] at hX
          obtain ⟨wc, hwc⟩ : ∃ wn, wn = wc.alloc (.cells #[] 2) := ⟨_, rfl⟩
          rw [← hwc] at hb hX hI ⊢
          try rw [← hbb]
          try (have Sr := Lib.hid (Sr.out.on hb))
          try (have Dr := Lib.hid (fun d e => And.intro (Dr.out d e).1 (Nat.lt_of_lt_of_le (Dr.out d e).2 hb.size)))
          try (have Wt := Lib.hid (Wt.out.kept hb))
          try (have It := Lib.hid (And.intro It.out.1 (Nat.lt_of_lt_of_le It.out.2 hb.size)))
          try (have Ak := Lib.hid (Ak.out.on hb))
          try (have Dk := Lib.hid (fun d e => And.intro (Dk.out d e).1 (Nat.lt_of_lt_of_le (Dk.out d e).2 hb.size)))
          have Bc := Lib.hid (below_on Bc.out hb)
          have Xx := Lib.hid hX
          have Ix := Lib.hid hI
          clear hb hX hI hwc hbb
          go_simp
          refine hK.out _ _ (KS.out _ Bc.out) (fun h0_1 => ?_)
          clear hK K h0
          refine wpAnyH_ready (rs := [3, 8]) (by kernel_rfl) (by simp) (AllReadyH.cons rfl (fun K hK => ?_) (AllReadyH.cons rfl (fun K hK => ?_) AllReadyH.nil))
          · rw [if_pos (by rfl)]
            obtain ⟨aor, cr, wc, hrun, hS, hD, hg⟩ := run_app (t := 25) (ty := 25) (e := 2) Try.underlying25 hj hy0 hy1 hy2 Xx.out (HLW.out _ Bc.out) (by omega)
            refine Lib.wp_append_run _ (.tmp 49) (.tmp 50) 25 25 rfl (.slice (some ⟨bx, 0, none⟩) 0 0) (.slice lo low.length lc) (by simp [Act.eval]) (by simp [Act.eval]) _ _ hrun ?_
            have hz := hg.size
            try (have Mrt := Lib.hid (fun (d : Addr) (e : aor = some d) => show d.block ≠ bt by have h1 := (hD d e).1; have h2 := It.out; first | (have h3 := Nxt.out; omega) | (have h3 := Ntx.out; omega)))
            try (have Wt := Lib.hid (Wt.out.grown hg (by first | exact Ntx.out | exact Ne.symm Nxt.out)))
            try (have It := Lib.hid (And.intro It.out.1 (Nat.lt_of_lt_of_le It.out.2 hz)))
            have Sr := Lib.hid hS
            have Dr := Lib.hid (fun (d : Addr) (e : aor = some d) => show v4.heap.size ≤ d.block ∧ d.block < wc.heap.size by have h1 := hD d e; have h2 := Ix.out; have h3 := Bc.out.size; omega)
            have Bc := Lib.hid (below_app Bc.out hg Ix.out.1)
            clear hrun hS hD hg hz
            clear Xx
            try simp only [Act.put, List.getElem_toArray, List.getElem_cons_zero, List.getElem_cons_succ, List.setIfInBounds_toArray, List.set_cons_zero, List.set_cons_succ]
            refine hK.out _ _ (KS.out _ Bc.out) (fun h0_2 => ?_)
            clear hK K h0_1
            refine wpAnyH_ready (rs := [4, 8]) (by kernel_rfl) (by simp) (AllReadyH.cons rfl (fun K hK => ?_) (AllReadyH.cons rfl (fun K hK => ?_) AllReadyH.nil))
            · rw [if_pos (by rfl)]
              go_simp
              refine (GO.out _ _ _ _ _ (OSW.out _ Bc.out) Sr.out).mono ?_
              rintro e wc ⟨aok, ck, rfl, hA, hm, hD, hn, hb⟩
              try (have Mkt := Lib.hid (fun (d : Addr) (e : aok = some d) => show d.block ≠ bt by have h1 := (hD d e).1; have h2 := It.out; omega))
              try (have Xx := Lib.hid (Xx.out.on hb))
              try (have Ix := Lib.hid (And.intro Ix.out.1 (Nat.lt_of_lt_of_le Ix.out.2 hb.size)))
              try (have Sr := Lib.hid (Sr.out.on hb))
              try (have Dr := Lib.hid (fun d e => And.intro (Dr.out d e).1 (Nat.lt_of_lt_of_le (Dr.out d e).2 hb.size)))
              try (have Wt := Lib.hid (Wt.out.kept hb))
              try (have It := Lib.hid (And.intro It.out.1 (Nat.lt_of_lt_of_le It.out.2 hb.size)))
              have Ak := Lib.hid hA
              have Lk := Lib.hid hm
              have Qk := Lib.hid hn
              have Dk := Lib.hid (fun (d : Addr) (e : aok = some d) => show v4.heap.size ≤ d.block ∧ d.block < wc.heap.size by have h1 := hD d e; have h3 := Bc.out.size; omega)
              have Bc := Lib.hid (below_on Bc.out hb)
              clear hA hm hD hn hb
              go_simp
              refine hK.out _ _ (KS.out _ Bc.out) (fun h0_3 => ?_)
              clear hK K h0_2
              refine wpAnyH_take (i := 5) (v := ?v85) rfl (by kernel_rfl) (by kernel_rfl) (by kernel_rfl) (fun _ _ _ h => h) (Or.inl ⟨by rfl, ?hy85⟩) h0_3 ?rest85
              case hy85 => (intro w' hS; (try dsimp only at hS); go_simp; try (with_reducible rfl))
              simp only [Act.put, List.getElem_toArray, List.getElem_cons_zero, List.getElem_cons_succ, List.setIfInBounds_toArray, List.set_cons_zero, List.set_cons_succ]
              refine wpAnyH_take (i := 6) (v := ?v86) rfl (by kernel_rfl) (by kernel_rfl) (by kernel_rfl) (fun _ _ _ h => h) (Or.inl ⟨by rfl, ?hy86⟩) h0_3 ?rest86
              case hy86 => (intro w' hS; (try dsimp only at hS); go_simp; try (with_reducible rfl))
              simp only [Act.put, List.getElem_toArray, List.getElem_cons_zero, List.getElem_cons_succ, List.setIfInBounds_toArray, List.set_cons_zero, List.set_cons_succ]
              refine wpAnyH_take (i := 7) (v := ?v87) rfl (by kernel_rfl) (by kernel_rfl) (by kernel_rfl) (fun _ _ _ h => h) (Or.inl ⟨by rfl, ?hy87⟩) h0_3 ?rest87
              case hy87 => (intro w' hS; (try dsimp only at hS); go_simp; try (with_reducible rfl))
              simp only [Act.put, List.getElem_toArray, List.getElem_cons_zero, List.getElem_cons_succ, List.setIfInBounds_toArray, List.set_cons_zero, List.set_cons_succ]
              refine wpAnyH_ready (rs := [8]) (by kernel_rfl) (by simp) (AllReadyH.cons rfl (fun K hK => ?_) AllReadyH.nil)
              rw [if_pos (by rfl)]
              go_simp
              obtain ⟨bt, hbb⟩ : ∃ b, b = wc.heap.size := ⟨_, rfl⟩
              try (have Nxt := Lib.hid (show bx ≠ bt by have h := Ix.out; omega))
              try (have Mrt := Lib.hid (fun (d : Addr) (e : aor = some d) => show d.block ≠ bt by have h := Dr.out d e; omega))
              try (have Mkt := Lib.hid (fun (d : Addr) (e : aok = some d) => show d.block ≠ bt by have h := Dk.out d e; omega))
              have hb := one_more (w1 := wc) (.cells #[.int .i64 0, .slice none 0 0] 24)
              have hX := Two.made wc (.int .i64 0) (.slice none 0 0) 24
              have hI : v4.heap.size ≤ bt ∧ bt < (wc.alloc (.cells #[.int .i64 0, .slice none 0 0] 24)).heap.size := by rw [hbb]; exact ⟨Bc.out.size, by simp⟩
              rw [← hbb] at hX
              obtain ⟨wc, hwc⟩ : ∃ wn, wn = wc.alloc (.cells #[.int .i64 0, .slice none 0 0] 24) := ⟨_, rfl⟩
              rw [← hwc] at hb hX hI ⊢
              try rw [← hbb]
              try (have Xx := Lib.hid (Xx.out.on hb))
              try (have Ix := Lib.hid (And.intro Ix.out.1 (Nat.lt_of_lt_of_le Ix.out.2 hb.size)))
              try (have Sr := Lib.hid (Sr.out.on hb))
              try (have Dr := Lib.hid (fun d e => And.intro (Dr.out d e).1 (Nat.lt_of_lt_of_le (Dr.out d e).2 hb.size)))
              try (have Ak := Lib.hid (Ak.out.on hb))
              try (have Dk := Lib.hid (fun d e => And.intro (Dk.out d e).1 (Nat.lt_of_lt_of_le (Dk.out d e).2 hb.size)))
              have Bc := Lib.hid (below_on Bc.out hb)
              have Wt := Lib.hid hX
              have It := Lib.hid hI
              clear hb hX hI hwc hbb
              go_simp
              refine hK.out _ _ (KS.out _ Bc.out) (fun h0_4 => ?_)
              clear hK K h0_3
              refine wpAnyH_ready (rs := [9]) (by kernel_rfl) (by simp) (AllReadyH.cons rfl (fun K hK => ?_) AllReadyH.nil)
              rw [if_pos (by rfl)]
              obtain ⟨q0, q1, q2, q3⟩ := Wt.out.facts
              go_simp
              have hW := Wt.out.put (.int .i64 M2) (.slice aok m2.length ck)
              have hA := arg_far' Ak.out Mkt.out (.int .i64 M2) (.slice aok m2.length ck)
              have hB := far_below Bc.out It.out.1 (.int .i64 M2) (.slice aok m2.length ck)
              obtain ⟨wc, hwc⟩ : ∃ wn, wn = (wc.setCell ⟨bt, 0, none⟩ (.int .i64 M2)).setCell ⟨bt, 1, none⟩ (.slice aok m2.length ck) := ⟨_, rfl⟩
              rw [← hwc] at hW hA hB ⊢
              have Wt := Lib.hid hW
              have Ak := Lib.hid hA
              have Bc := Lib.hid hB
              clear hW hA hB hwc q0 q1 q2 q3
              refine hK.out _ _ (KS.out _ Bc.out) (fun h0_5 => ?_)
              clear hK K h0_4
              refine wpAnyH_take (i := 10) (v := ?v88) rfl (by kernel_rfl) (by kernel_rfl) (by kernel_rfl) (fun _ _ _ h => h) (Or.inl ⟨by rfl, ?hy88⟩) h0_5 ?rest88
              case hy88 => (intro w' hS; (try dsimp only at hS); go_simp; try (with_reducible rfl))
              simp only [Act.put, List.getElem_toArray, List.getElem_cons_zero, List.getElem_cons_succ, List.setIfInBounds_toArray, List.set_cons_zero, List.set_cons_succ]
              refine wpAnyH_done (by kernel_rfl) ?_ _
              go_wp2_with fail
              go_meet
              case rel => exact ⟨bt, aok, ck, rfl, rfl, Lib.hid ⟨Wt.out, Ak.out, Lk.out, Bc.out⟩⟩
            · rw [if_pos (by rfl)]
              go_simp
              obtain ⟨bt, hbb⟩ : ∃ b, b = wc.heap.size := ⟨_, rfl⟩
              try (have Nxt := Lib.hid (show bx ≠ bt by have h := Ix.out; omega))
              try (have Mrt := Lib.hid (fun (d : Addr) (e : aor = some d) => show d.block ≠ bt by have h := Dr.out d e; omega))
              try (have Mkt := Lib.hid (fun (d : Addr) (e : aok = some d) => show d.block ≠ bt by have h := Dk.out d e; omega))
              have hb := one_more (w1 := wc) (.cells #[.int .i64 0, .slice none 0 0] 24)
              have hX := Two.made wc (.int .i64 0) (.slice none 0 0) 24
              have hI : v4.heap.size ≤ bt ∧ bt < (wc.alloc (.cells #[.int .i64 0, .slice none 0 0] 24)).heap.size := by rw [hbb]; exact ⟨Bc.out.size, by simp⟩
              rw [← hbb] at hX
              obtain ⟨wc, hwc⟩ : ∃ wn, wn = wc.alloc (.cells #[.int .i64 0, .slice none 0 0] 24) := ⟨_, rfl⟩
              rw [← hwc] at hb hX hI ⊢
              try rw [← hbb]
              try (have Xx := Lib.hid (Xx.out.on hb))
              try (have Ix := Lib.hid (And.intro Ix.out.1 (Nat.lt_of_lt_of_le Ix.out.2 hb.size)))
              try (have Sr := Lib.hid (Sr.out.on hb))
              try (have Dr := Lib.hid (fun d e => And.intro (Dr.out d e).1 (Nat.lt_of_lt_of_le (Dr.out d e).2 hb.size)))
              try (have Ak := Lib.hid (Ak.out.on hb))
              try (have Dk := Lib.hid (fun d e => And.intro (Dk.out d e).1 (Nat.lt_of_lt_of_le (Dk.out d e).2 hb.size)))
              have Bc := Lib.hid (below_on Bc.out hb)
              have Wt := Lib.hid hX
              have It := Lib.hid hI
              clear hb hX hI hwc hbb
              go_simp
              refine hK.out _ _ (KS.out _ Bc.out) (fun h0_3 => ?_)
              clear hK K h0_2
              refine wpAnyH_ready (rs := [4]) (by kernel_rfl) (by simp) (AllReadyH.cons rfl (fun K hK => ?_) AllReadyH.nil)
              rw [if_pos (by rfl)]
              go_simp
              refine (GO.out _ _ _ _ _ (OSW.out _ Bc.out) Sr.out).mono ?_
              rintro e wc ⟨aok, ck, rfl, hA, hm, hD, hn, hb⟩
              try (have Mkt := Lib.hid (fun (d : Addr) (e : aok = some d) => show d.block ≠ bt by have h1 := (hD d e).1; have h2 := It.out; omega))
              try (have Xx := Lib.hid (Xx.out.on hb))
              try (have Ix := Lib.hid (And.intro Ix.out.1 (Nat.lt_of_lt_of_le Ix.out.2 hb.size)))
              try (have Sr := Lib.hid (Sr.out.on hb))
              try (have Dr := Lib.hid (fun d e => And.intro (Dr.out d e).1 (Nat.lt_of_lt_of_le (Dr.out d e).2 hb.size)))
              try (have Wt := Lib.hid (Wt.out.kept hb))
              try (have It := Lib.hid (And.intro It.out.1 (Nat.lt_of_lt_of_le It.out.2 hb.size)))
              have Ak := Lib.hid hA
              have Lk := Lib.hid hm
              have Qk := Lib.hid hn
              have Dk := Lib.hid (fun (d : Addr) (e : aok = some d) => show v4.heap.size ≤ d.block ∧ d.block < wc.heap.size by have h1 := hD d e; have h3 := Bc.out.size; omega)
              have Bc := Lib.hid (below_on Bc.out hb)
              clear hA hm hD hn hb
              go_simp
              refine hK.out _ _ (KS.out _ Bc.out) (fun h0_6 => ?_)
              clear hK K h0_3
              refine wpAnyH_take (i := 5) (v := ?v89) rfl (by kernel_rfl) (by kernel_rfl) (by kernel_rfl) (fun _ _ _ h => h) (Or.inl ⟨by rfl, ?hy89⟩) h0_6 ?rest89
              case hy89 => (intro w' hS; (try dsimp only at hS); go_simp; try (with_reducible rfl))
              simp only [Act.put, List.getElem_toArray, List.getElem_cons_zero, List.getElem_cons_succ, List.setIfInBounds_toArray, List.set_cons_zero, List.set_cons_succ]
              refine wpAnyH_take (i := 6) (v := ?v90) rfl (by kernel_rfl) (by kernel_rfl) (by kernel_rfl) (fun _ _ _ h => h) (Or.inl ⟨by rfl, ?hy90⟩) h0_6 ?rest90
              case hy90 => (intro w' hS; (try dsimp only at hS); go_simp; try (with_reducible rfl))
              simp only [Act.put, List.getElem_toArray, List.getElem_cons_zero, List.getElem_cons_succ, List.setIfInBounds_toArray, List.set_cons_zero, List.set_cons_succ]
              refine wpAnyH_take (i := 7) (v := ?v91) rfl (by kernel_rfl) (by kernel_rfl) (by kernel_rfl) (fun _ _ _ h => h) (Or.inl ⟨by rfl, ?hy91⟩) h0_6 ?rest91
              case hy91 => (intro w' hS; (try dsimp only at hS); go_simp; try (with_reducible rfl))
              simp only [Act.put, List.getElem_toArray, List.getElem_cons_zero, List.getElem_cons_succ, List.setIfInBounds_toArray, List.set_cons_zero, List.set_cons_succ]
              refine wpAnyH_ready (rs := [9]) (by kernel_rfl) (by simp) (AllReadyH.cons rfl (fun K hK => ?_) AllReadyH.nil)
              rw [if_pos (by rfl)]
              obtain ⟨q0, q1, q2, q3⟩ := Wt.out.facts
              go_simp
              have hW := Wt.out.put (.int .i64 M2) (.slice aok m2.length ck)
              have hA := arg_far' Ak.out Mkt.out (.int .i64 M2) (.slice aok m2.length ck)
              have hB := far_below Bc.out It.out.1 (.int .i64 M2) (.slice aok m2.length ck)
              obtain ⟨wc, hwc⟩ : ∃ wn, wn = (wc.setCell ⟨bt, 0, none⟩ (.int .i64 M2)).setCell ⟨bt, 1, none⟩ (.slice aok m2.length ck) := ⟨_, rfl⟩
              rw [← hwc] at hW hA hB ⊢
              have Wt := Lib.hid hW
              have Ak := Lib.hid hA
              have Bc := Lib.hid hB
              clear hW hA hB hwc q0 q1 q2 q3
              refine hK.out _ _ (KS.out _ Bc.out) (fun h0_7 => ?_)
              clear hK K h0_6
              refine wpAnyH_take (i := 10) (v := ?v92) rfl (by kernel_rfl) (by kernel_rfl) (by kernel_rfl) (fun _ _ _ h => h) (Or.inl ⟨by rfl, ?hy92⟩) h0_7 ?rest92
              case hy92 => (intro w' hS; (try dsimp only at hS); go_simp; try (with_reducible rfl))
              simp only [Act.put, List.getElem_toArray, List.getElem_cons_zero, List.getElem_cons_succ, List.setIfInBounds_toArray, List.set_cons_zero, List.set_cons_succ]
              refine wpAnyH_done (by kernel_rfl) ?_ _
              go_wp2_with fail
              go_meet
              case rel => exact ⟨bt, aok, ck, rfl, rfl, Lib.hid ⟨Wt.out, Ak.out, Lk.out, Bc.out⟩⟩
          · rw [if_pos (by rfl)]
            go_simp
            obtain ⟨bt, hbb⟩ : ∃ b, b = wc.heap.size := ⟨_, rfl⟩
            try (have Nxt := Lib.hid (show bx ≠ bt by have h := Ix.out; omega))
            try (have Mrt := Lib.hid (fun (d : Addr) (e : aor = some d) => show d.block ≠ bt by have h := Dr.out d e; omega))
            try (have Mkt := Lib.hid (fun (d : Addr) (e : aok = some d) => show d.block ≠ bt by have h := Dk.out d e; omega))
            have hb := one_more (w1 := wc) (.cells #[.int .i64 0, .slice none 0 0] 24)
            have hX := Two.made wc (.int .i64 0) (.slice none 0 0) 24
            have hI : v4.heap.size ≤ bt ∧ bt < (wc.alloc (.cells #[.int .i64 0, .slice none 0 0] 24)).heap.size := by rw [hbb]; exact ⟨Bc.out.size, by simp⟩
            rw [← hbb] at hX
            obtain ⟨wc, hwc⟩ : ∃ wn, wn = wc.alloc (.cells #[.int .i64 0, .slice none 0 0] 24) := ⟨_, rfl⟩
            rw [← hwc] at hb hX hI ⊢
            try rw [← hbb]
            try (have Xx := Lib.hid (Xx.out.on hb))
            try (have Ix := Lib.hid (And.intro Ix.out.1 (Nat.lt_of_lt_of_le Ix.out.2 hb.size)))
            try (have Sr := Lib.hid (Sr.out.on hb))
            try (have Dr := Lib.hid (fun d e => And.intro (Dr.out d e).1 (Nat.lt_of_lt_of_le (Dr.out d e).2 hb.size)))
            try (have Ak := Lib.hid (Ak.out.on hb))
            try (have Dk := Lib.hid (fun d e => And.intro (Dk.out d e).1 (Nat.lt_of_lt_of_le (Dk.out d e).2 hb.size)))
            have Bc := Lib.hid (below_on Bc.out hb)
            have Wt := Lib.hid hX
            have It := Lib.hid hI
            clear hb hX hI hwc hbb
            go_simp
            refine hK.out _ _ (KS.out _ Bc.out) (fun h0_2 => ?_)
            clear hK K h0_1
            refine wpAnyH_ready (rs := [3]) (by kernel_rfl) (by simp) (AllReadyH.cons rfl (fun K hK => ?_) AllReadyH.nil)
            rw [if_pos (by rfl)]
            obtain ⟨aor, cr, wc, hrun, hS, hD, hg⟩ := run_app (t := 25) (ty := 25) (e := 2) Try.underlying25 hj hy0 hy1 hy2 Xx.out (HLW.out _ Bc.out) (by omega)
            refine Lib.wp_append_run _ (.tmp 49) (.tmp 50) 25 25 rfl (.slice (some ⟨bx, 0, none⟩) 0 0) (.slice lo low.length lc) (by simp [Act.eval]) (by simp [Act.eval]) _ _ hrun ?_
            have hz := hg.size
            try (have Mrt := Lib.hid (fun (d : Addr) (e : aor = some d) => show d.block ≠ bt by have h1 := (hD d e).1; have h2 := It.out; first | (have h3 := Nxt.out; omega) | (have h3 := Ntx.out; omega)))
            try (have Wt := Lib.hid (Wt.out.grown hg (by first | exact Ntx.out | exact Ne.symm Nxt.out)))
            try (have It := Lib.hid (And.intro It.out.1 (Nat.lt_of_lt_of_le It.out.2 hz)))
            have Sr := Lib.hid hS
            have Dr := Lib.hid (fun (d : Addr) (e : aor = some d) => show v4.heap.size ≤ d.block ∧ d.block < wc.heap.size by have h1 := hD d e; have h2 := Ix.out; have h3 := Bc.out.size; omega)
            have Bc := Lib.hid (below_app Bc.out hg Ix.out.1)
            clear hrun hS hD hg hz
            clear Xx
            try simp only [Act.put, List.getElem_toArray, List.getElem_cons_zero, List.getElem_cons_succ, List.setIfInBounds_toArray, List.set_cons_zero, List.set_cons_succ]
            refine hK.out _ _ (KS.out _ Bc.out) (fun h0_8 => ?_)
            clear hK K h0_2
            refine wpAnyH_ready (rs := [4]) (by kernel_rfl) (by simp) (AllReadyH.cons rfl (fun K hK => ?_) AllReadyH.nil)
            rw [if_pos (by rfl)]
            go_simp
            refine (GO.out _ _ _ _ _ (OSW.out _ Bc.out) Sr.out).mono ?_
            rintro e wc ⟨aok, ck, rfl, hA, hm, hD, hn, hb⟩
            try (have Mkt := Lib.hid (fun (d : Addr) (e : aok = some d) => show d.block ≠ bt by have h1 := (hD d e).1; have h2 := It.out; omega))
            try (have Xx := Lib.hid (Xx.out.on hb))
            try (have Ix := Lib.hid (And.intro Ix.out.1 (Nat.lt_of_lt_of_le Ix.out.2 hb.size)))
            try (have Sr := Lib.hid (Sr.out.on hb))
            try (have Dr := Lib.hid (fun d e => And.intro (Dr.out d e).1 (Nat.lt_of_lt_of_le (Dr.out d e).2 hb.size)))
            try (have Wt := Lib.hid (Wt.out.kept hb))
            try (have It := Lib.hid (And.intro It.out.1 (Nat.lt_of_lt_of_le It.out.2 hb.size)))
            have Ak := Lib.hid hA
            have Lk := Lib.hid hm
            have Qk := Lib.hid hn
            have Dk := Lib.hid (fun (d : Addr) (e : aok = some d) => show v4.heap.size ≤ d.block ∧ d.block < wc.heap.size by have h1 := hD d e; have h3 := Bc.out.size; omega)
            have Bc := Lib.hid (below_on Bc.out hb)
            clear hA hm hD hn hb
            go_simp
            refine hK.out _ _ (KS.out _ Bc.out) (fun h0_9 => ?_)
            clear hK K h0_8
            refine wpAnyH_take (i := 5) (v := ?v93) rfl (by kernel_rfl) (by kernel_rfl) (by kernel_rfl) (fun _ _ _ h => h) (Or.inl ⟨by rfl, ?hy93⟩) h0_9 ?rest93
            case hy93 => (intro w' hS; (try dsimp only at hS); go_simp; try (with_reducible rfl))
            simp only [Act.put, List.getElem_toArray, List.getElem_cons_zero, List.getElem_cons_succ, List.setIfInBounds_toArray, List.set_cons_zero, List.set_cons_succ]
            refine wpAnyH_take (i := 6) (v := ?v94) rfl (by kernel_rfl) (by kernel_rfl) (by kernel_rfl) (fun _ _ _ h => h) (Or.inl ⟨by rfl, ?hy94⟩) h0_9 ?rest94
            case hy94 => (intro w' hS; (try dsimp only at hS); go_simp; try (with_reducible rfl))
            simp only [Act.put, List.getElem_toArray, List.getElem_cons_zero, List.getElem_cons_succ, List.setIfInBounds_toArray, List.set_cons_zero, List.set_cons_succ]
            refine wpAnyH_take (i := 7) (v := ?v95) rfl (by kernel_rfl) (by kernel_rfl) (by kernel_rfl) (fun _ _ _ h => h) (Or.inl ⟨by rfl, ?hy95⟩) h0_9 ?rest95
            case hy95 => (intro w' hS; (try dsimp only at hS); go_simp; try (with_reducible rfl))
            simp only [Act.put, List.getElem_toArray, List.getElem_cons_zero, List.getElem_cons_succ, List.setIfInBounds_toArray, List.set_cons_zero, List.set_cons_succ]
            refine wpAnyH_ready (rs := [9]) (by kernel_rfl) (by simp) (AllReadyH.cons rfl (fun K hK => ?_) AllReadyH.nil)
            rw [if_pos (by rfl)]
            obtain ⟨q0, q1, q2, q3⟩ := Wt.out.facts
            go_simp
            have hW := Wt.out.put (.int .i64 M2) (.slice aok m2.length ck)
            have hA := arg_far' Ak.out Mkt.out (.int .i64 M2) (.slice aok m2.length ck)
            have hB := far_below Bc.out It.out.1 (.int .i64 M2) (.slice aok m2.length ck)
            obtain ⟨wc, hwc⟩ : ∃ wn, wn = (wc.setCell ⟨bt, 0, none⟩ (.int .i64 M2)).setCell ⟨bt, 1, none⟩ (.slice aok m2.length ck) := ⟨_, rfl⟩
            rw [← hwc] at hW hA hB ⊢
            have Wt := Lib.hid hW
            have Ak := Lib.hid hA
            have Bc := Lib.hid hB
            clear hW hA hB hwc q0 q1 q2 q3
            refine hK.out _ _ (KS.out _ Bc.out) (fun h0_10 => ?_)
            clear hK K h0_9
            refine wpAnyH_take (i := 10) (v := ?v96) rfl (by kernel_rfl) (by kernel_rfl) (by kernel_rfl) (fun _ _ _ h => h) (Or.inl ⟨by rfl, ?hy96⟩) h0_10 ?rest96
            case hy96 => (intro w' hS; (try dsimp only at hS); go_simp; try (with_reducible rfl))
            simp only [Act.put, List.getElem_toArray, List.getElem_cons_zero, List.getElem_cons_succ, List.setIfInBounds_toArray, List.set_cons_zero, List.set_cons_succ]
            refine wpAnyH_done (by kernel_rfl) ?_ _
            go_wp2_with fail
            go_meet
            case rel => exact ⟨bt, aok, ck, rfl, rfl, Lib.hid ⟨Wt.out, Ak.out, Lk.out, Bc.out⟩⟩
        · rw [if_pos (by rfl)]
          go_simp
          obtain ⟨bt, hbb⟩ : ∃ b, b = wc.heap.size := ⟨_, rfl⟩
          try (have Nxt := Lib.hid (show bx ≠ bt by have h := Ix.out; omega))
          try (have Mrt := Lib.hid (fun (d : Addr) (e : aor = some d) => show d.block ≠ bt by have h := Dr.out d e; omega))
          try (have Mkt := Lib.hid (fun (d : Addr) (e : aok = some d) => show d.block ≠ bt by have h := Dk.out d e; omega))
          have hb := one_more (w1 := wc) (.cells #[.int .i64 0, .slice none 0 0] 24)
          have hX := Two.made wc (.int .i64 0) (.slice none 0 0) 24
          have hI : v4.heap.size ≤ bt ∧ bt < (wc.alloc (.cells #[.int .i64 0, .slice none 0 0] 24)).heap.size := by rw [hbb]; exact ⟨Bc.out.size, by simp⟩
          rw [← hbb] at hX
          obtain ⟨wc, hwc⟩ : ∃ wn, wn = wc.alloc (.cells #[.int .i64 0, .slice none 0 0] 24) := ⟨_, rfl⟩
          rw [← hwc] at hb hX hI ⊢
          try rw [← hbb]
          try (have Xx := Lib.hid (Xx.out.on hb))
          try (have Ix := Lib.hid (And.intro Ix.out.1 (Nat.lt_of_lt_of_le Ix.out.2 hb.size)))
          try (have Sr := Lib.hid (Sr.out.on hb))
          try (have Dr := Lib.hid (fun d e => And.intro (Dr.out d e).1 (Nat.lt_of_lt_of_le (Dr.out d e).2 hb.size)))
          try (have Ak := Lib.hid (Ak.out.on hb))
          try (have Dk := Lib.hid (fun d e => And.intro (Dk.out d e).1 (Nat.lt_of_lt_of_le (Dk.out d e).2 hb.size)))
          have Bc := Lib.hid (below_on Bc.out hb)
          have Wt := Lib.hid hX
          have It := Lib.hid hI
          clear hb hX hI hwc hbb
          go_simp
          refine hK.out _ _ (KS.out _ Bc.out) (fun h0_1 => ?_)
          clear hK K h0
          refine wpAnyH_ready (rs := [1]) (by kernel_rfl) (by simp) (AllReadyH.cons rfl (fun K hK => ?_) AllReadyH.nil)
          rw [if_pos (by rfl)]
          go_simp
          obtain ⟨bx, hbb⟩ : ∃ b, b = wc.heap.size := ⟨_, rfl⟩
          try (have Ntx := Lib.hid (show bt ≠ bx by have h := It.out; omega))
          try (have Mrx := Lib.hid (fun (d : Addr) (e : aor = some d) => show d.block ≠ bx by have h := Dr.out d e; omega))
          try (have Mkx := Lib.hid (fun (d : Addr) (e : aok = some d) => show d.block ≠ bx by have h := Dk.out d e; omega))
          have hb := one_more (w1 := wc) (.cells #[] 2)
          have hX := Emp.made wc v4.heap.size 2 Bc.out.size
          have hI : v4.heap.size ≤ bx ∧ bx < (wc.alloc (.cells #[] 2)).heap.size := by rw [hbb]; exact ⟨Bc.out.size, by simp⟩
          rw [← hbb] at hX
          obtain ⟨wc, hwc⟩ : ∃ wn, wn = wc.alloc (.cells #[] 2) := ⟨_, rfl⟩
          rw [← hwc] at hb hX hI ⊢
          try rw [← hbb]
          try (have Sr := Lib.hid (Sr.out.on hb))
          try (have Dr := Lib.hid (fun d e => And.intro (Dr.out d e).1 (Nat.lt_of_lt_of_le (Dr.out d e).2 hb.size)))
          try (have Wt := Lib.hid (Wt.out.kept hb))
          try (have It := Lib.hid (And.intro It.out.1 (Nat.lt_of_lt_of_le It.out.2 hb.size)))
          try (have Ak := Lib.hid (Ak.out.on hb))
          try (have Dk := Lib.hid (fun d e => And.intro (Dk.out d e).1 (Nat.lt_of_lt_of_le (Dk.out d e).2 hb.size)))
          have Bc := Lib.hid (below_on Bc.out hb)
          have Xx := Lib.hid hX
          have Ix := Lib.hid hI
          clear hb hX hI hwc hbb
          go_simp
          refine hK.out _ _ (KS.out _ Bc.out) (fun h0_11 => ?_)
          clear hK K h0_1
          refine wpAnyH_ready (rs := [3]) (by kernel_rfl) (by simp) (AllReadyH.cons rfl (fun K hK => ?_) AllReadyH.nil)
          rw [if_pos (by rfl)]
          obtain ⟨aor, cr, wc, hrun, hS, hD, hg⟩ := run_app (t := 25) (ty := 25) (e := 2) Try.underlying25 hj hy0 hy1 hy2 Xx.out (HLW.out _ Bc.out) (by omega)
          refine Lib.wp_append_run _ (.tmp 49) (.tmp 50) 25 25 rfl (.slice (some ⟨bx, 0, none⟩) 0 0) (.slice lo low.length lc) (by simp [Act.eval]) (by simp [Act.eval]) _ _ hrun ?_
          have hz := hg.size
          try (have Mrt := Lib.hid (fun (d : Addr) (e : aor = some d) => show d.block ≠ bt by have h1 := (hD d e).1; have h2 := It.out; first | (have h3 := Nxt.out; omega) | (have h3 := Ntx.out; omega)))
          try (have Wt := Lib.hid (Wt.out.grown hg (by first | exact Ntx.out | exact Ne.symm Nxt.out)))
          try (have It := Lib.hid (And.intro It.out.1 (Nat.lt_of_lt_of_le It.out.2 hz)))
          have Sr := Lib.hid hS
          have Dr := Lib.hid (fun (d : Addr) (e : aor = some d) => show v4.heap.size ≤ d.block ∧ d.block < wc.heap.size by have h1 := hD d e; have h2 := Ix.out; have h3 := Bc.out.size; omega)
          have Bc := Lib.hid (below_app Bc.out hg Ix.out.1)
          clear hrun hS hD hg hz
          clear Xx
          try simp only [Act.put, List.getElem_toArray, List.getElem_cons_zero, List.getElem_cons_succ, List.setIfInBounds_toArray, List.set_cons_zero, List.set_cons_succ]
          refine hK.out _ _ (KS.out _ Bc.out) (fun h0_12 => ?_)
          clear hK K h0_11
          refine wpAnyH_ready (rs := [4]) (by kernel_rfl) (by simp) (AllReadyH.cons rfl (fun K hK => ?_) AllReadyH.nil)
          rw [if_pos (by rfl)]
          go_simp
          refine (GO.out _ _ _ _ _ (OSW.out _ Bc.out) Sr.out).mono ?_
          rintro e wc ⟨aok, ck, rfl, hA, hm, hD, hn, hb⟩
          try (have Mkt := Lib.hid (fun (d : Addr) (e : aok = some d) => show d.block ≠ bt by have h1 := (hD d e).1; have h2 := It.out; omega))
          try (have Xx := Lib.hid (Xx.out.on hb))
          try (have Ix := Lib.hid (And.intro Ix.out.1 (Nat.lt_of_lt_of_le Ix.out.2 hb.size)))
          try (have Sr := Lib.hid (Sr.out.on hb))
          try (have Dr := Lib.hid (fun d e => And.intro (Dr.out d e).1 (Nat.lt_of_lt_of_le (Dr.out d e).2 hb.size)))
          try (have Wt := Lib.hid (Wt.out.kept hb))
          try (have It := Lib.hid (And.intro It.out.1 (Nat.lt_of_lt_of_le It.out.2 hb.size)))
          have Ak := Lib.hid hA
          have Lk := Lib.hid hm
          have Qk := Lib.hid hn
          have Dk := Lib.hid (fun (d : Addr) (e : aok = some d) => show v4.heap.size ≤ d.block ∧ d.block < wc.heap.size by have h1 := hD d e; have h3 := Bc.out.size; omega)
          have Bc := Lib.hid (below_on Bc.out hb)
          clear hA hm hD hn hb
          go_simp
          refine hK.out _ _ (KS.out _ Bc.out) (fun h0_13 => ?_)
          clear hK K h0_12
          refine wpAnyH_take (i := 5) (v := ?v97) rfl (by kernel_rfl) (by kernel_rfl) (by kernel_rfl) (fun _ _ _ h => h) (Or.inl ⟨by rfl, ?hy97⟩) h0_13 ?rest97
          case hy97 => (intro w' hS; (try dsimp only at hS); go_simp; try (with_reducible rfl))
          simp only [Act.put, List.getElem_toArray, List.getElem_cons_zero, List.getElem_cons_succ, List.setIfInBounds_toArray, List.set_cons_zero, List.set_cons_succ]
          refine wpAnyH_take (i := 6) (v := ?v98) rfl (by kernel_rfl) (by kernel_rfl) (by kernel_rfl) (fun _ _ _ h => h) (Or.inl ⟨by rfl, ?hy98⟩) h0_13 ?rest98
          case hy98 => (intro w' hS; (try dsimp only at hS); go_simp; try (with_reducible rfl))
          simp only [Act.put, List.getElem_toArray, List.getElem_cons_zero, List.getElem_cons_succ, List.setIfInBounds_toArray, List.set_cons_zero, List.set_cons_succ]
          refine wpAnyH_take (i := 7) (v := ?v99) rfl (by kernel_rfl) (by kernel_rfl) (by kernel_rfl) (fun _ _ _ h => h) (Or.inl ⟨by rfl, ?hy99⟩) h0_13 ?rest99
          case hy99 => (intro w' hS; (try dsimp only at hS); go_simp; try (with_reducible rfl))
          simp only [Act.put, List.getElem_toArray, List.getElem_cons_zero, List.getElem_cons_succ, List.setIfInBounds_toArray, List.set_cons_zero, List.set_cons_succ]
          refine wpAnyH_ready (rs := [9]) (by kernel_rfl) (by simp) (AllReadyH.cons rfl (fun K hK => ?_) AllReadyH.nil)
          rw [if_pos (by rfl)]
          obtain ⟨q0, q1, q2, q3⟩ := Wt.out.facts
          go_simp
          have hW := Wt.out.put (.int .i64 M2) (.slice aok m2.length ck)
          have hA := arg_far' Ak.out Mkt.out (.int .i64 M2) (.slice aok m2.length ck)
          have hB := far_below Bc.out It.out.1 (.int .i64 M2) (.slice aok m2.length ck)
          obtain ⟨wc, hwc⟩ : ∃ wn, wn = (wc.setCell ⟨bt, 0, none⟩ (.int .i64 M2)).setCell ⟨bt, 1, none⟩ (.slice aok m2.length ck) := ⟨_, rfl⟩
          rw [← hwc] at hW hA hB ⊢
          have Wt := Lib.hid hW
          have Ak := Lib.hid hA
          have Bc := Lib.hid hB
          clear hW hA hB hwc q0 q1 q2 q3
          refine hK.out _ _ (KS.out _ Bc.out) (fun h0_14 => ?_)
          clear hK K h0_13
          refine wpAnyH_take (i := 10) (v := ?v100) rfl (by kernel_rfl) (by kernel_rfl) (by kernel_rfl) (fun _ _ _ h => h) (Or.inl ⟨by rfl, ?hy100⟩) h0_14 ?rest100
          case hy100 => (intro w' hS; (try dsimp only at hS); go_simp; try (with_reducible rfl))
          simp only [Act.put, List.getElem_toArray, List.getElem_cons_zero, List.getElem_cons_succ, List.setIfInBounds_toArray, List.set_cons_zero, List.set_cons_succ]
          refine wpAnyH_done (by kernel_rfl) ?_ _
          go_wp2_with fail
          go_meet
          case rel => exact ⟨bt, aok, ck, rfl, rfl, Lib.hid ⟨Wt.out, Ak.out, Lk.out, Bc.out⟩⟩
      case rest =>
        obtain ⟨p5, ao5, c5, rfl, rfl, HX⟩ := hcut
        generalize wc = v5 at *
        have X5 := Lib.hid HX.out.1
        have A5 := Lib.hid HX.out.2.1
        have L5 := Lib.hid HX.out.2.2.1
        have B5 := Lib.hid (below_on B4.out HX.out.2.2.2)
        have PX := Lib.hid (PX.out.kept HX.out.2.2.2)
        have OX := Lib.hid (OX.out.kept HX.out.2.2.2)
        have OS := Lib.hid (OS.out.on HX.out.2.2.2)
        have X3 := Lib.hid (X3.out.kept HX.out.2.2.2)
        have A3 := Lib.hid (A3.out.on HX.out.2.2.2)
        have X4 := Lib.hid (X4.out.kept HX.out.2.2.2)
        have A4 := Lib.hid (A4.out.on HX.out.2.2.2)
        clear HX OSW HLW
        obtain ⟨b0, b1, b2, b3⟩ := PX.out.facts
        go_wp2_with fail
        refine (RG.out _ B5.out).mono ?_
        rintro e w6 ⟨ao6, c6, rfl, hA, hm, _, _, hb⟩
        obtain ⟨v6, hv⟩ : ∃ v6, v6 = w6.alloc (.cells #[.int .i64 M2, .slice ao6 m2.length c6] 24) := ⟨_, rfl⟩
        have X6 := Lib.hid (show Two v6 w6.heap.size (.int .i64 M2) (.slice ao6 m2.length c6) by rw [hv]; exact Two.made _ _ _ _)
        have A6' := Lib.hid (show Arg v6 ao6 m2 by rw [hv]; exact hA.on (one_more _))
        have H6 := Lib.hid (show Below v5.heap.size v5 v6 by rw [hv]; exact hb.alloc hb.size _)
        clear hA hm hb b0 b1 b2 b3
        go_upto_region 8 with (fail)
        rw [← hv]
        clear hv
        have B6 := Lib.hid (below_on B5.out H6.out)
        have PX := Lib.hid (PX.out.kept H6.out)
        have OX := Lib.hid (OX.out.kept H6.out)
        have OS := Lib.hid (OS.out.on H6.out)
        have X3 := Lib.hid (X3.out.kept H6.out)
        have A3 := Lib.hid (A3.out.on H6.out)
        have X4 := Lib.hid (X4.out.kept H6.out)
        have A4 := Lib.hid (A4.out.on H6.out)
        have X5 := Lib.hid (X5.out.kept H6.out)
        have A5 := Lib.hid (A5.out.on H6.out)
        obtain ⟨b0, b1, b2, b3⟩ := X3.out.facts
        obtain ⟨d0, d1, d2, d3⟩ := X4.out.facts
        go_wp2_with fail
        refine (SM.out _ _ _ _ _ _ _ A3.out A4.out L3.out).mono ?_
        rintro e w7 ⟨rfl, hb⟩
        have B7 := Lib.hid (below_on B6.out hb)
        have H7 := Lib.hid hb
        clear hb b0 b1 b2 b3 d0 d1 d2 d3
        obtain ⟨b0, b1, b2, b3⟩ := (X5.out.kept H7.out).facts
        obtain ⟨d0, d1, d2, d3⟩ := (X6.out.kept H7.out).facts
        go_wp2_with fail
        refine (SM.out _ _ _ _ _ _ _ (A5.out.on H7.out) (A6'.out.on H7.out) L5.out).mono ?_
        rintro e w8 ⟨rfl, hb⟩
        have B8 := Lib.hid (below_on B7.out hb)
        have H8 := Lib.hid (below_on H7.out hb)
        clear hb b0 b1 b2 b3 d0 d1 d2 d3
        obtain ⟨b0, b1, b2, b3⟩ := (OX.out.kept H8.out).facts
        obtain ⟨d0, d1, d2, d3⟩ := (PX.out.kept H8.out).facts
        go_wp2_with fail
        refine (SM.out _ _ _ _ _ _ _ (OS.out.on H8.out).1 (HS.out _ B8.out).1 LM.out).mono ?_
        rintro e w9 ⟨rfl, hb⟩
        have B9 := Lib.hid (below_on B8.out hb)
        clear hb b0 b1 b2 b3 d0 d1 d2 d3
        go_wp2_with fail
        refine (SH.out _).mono ?_
        rintro e w10 ⟨rfl, hb⟩
        have B10 := Lib.hid (below_on B9.out hb)
        clear hb
        go_wp2_with fail
        go_ret
        exact ⟨rfl, B10.out⟩

theorem widenbounds_any (N : Int) (l low high : List Int) (ao lo ho : Option Addr) (cap lc hc : Nat) (w : World) (hA : Arg w ao l) (hL : Arg w lo low) (hH : Arg w ho high) (n1 : ao = none → l = [] ∧ cap = 0) (n2 : lo = none → low = [] ∧ lc = 0) (n3 : ho = none → high = [] ∧ hc = 0) :
    Calls Try.prog 3 #[.agg #[.int .i64 N, .slice ao l.length cap], .slice lo low.length lc, .slice ho high.length hc] w (Made (.bool true) w) := by
  cases h : b2B l.length low.length high.length
  · exact wlb_short N l low high ao lo ho cap lc hc w ⟨hA, n1⟩ ⟨hL, n2⟩ ⟨hH, n3⟩ h
  · exact wlb_long N ao lo ho l.length cap low.length lc high.length hc w h
end Go.Proofs.Ytjfhjckacfkpoaa
