/- ZoneTwos, for whatever arguments. -/
import Derived.Test.YtbnebinpemejlaaHs1
import Derived.Test.YtbnebinpemejlaaHt1

namespace Go.Proofs.Ytbnebinpemejlaa
open Go.RowKit

set_option maxRecDepth 100000 in
set_option maxHeartbeats 2000000 in
theorem twos_long (N M : Int) (ao bo : Option Addr) (len ca mlen cb : Nat) (w : World) (h : 200 < len ∨ 200 < mlen) :
    Calls Try.prog 5 #[.agg #[.int .i64 N, .slice ao len ca], .agg #[.int .i64 M, .slice bo mlen cb]] w (Made (.bool true) w) := by
  have SH := Lib.hid (fun W => shown3_any W)
  have Q0 := Lib.hid (show Below w.heap.size w ((w.alloc (.cells #[.int .i64 N, .slice ao len ca] 25)).alloc (.cells #[.int .i64 M, .slice bo mlen cb] 25)) from past_two (Below.refl _ _))
  by_cases h1 : 200 < len
  · have D : decide ((200 : Int) < (len : Int)) = true := by simp; omega
    go_enter Try.func5, Try.ntmps5
    go_wp2_with fail
    refine (SH.out _).mono ?_
    rintro e w8 ⟨rfl, hb8⟩
    have B8 := Lib.hid (below_on Q0.out hb8)
    clear hb8
    go_wp2_with fail
    go_ret
    exact ⟨rfl, B8.out⟩
  · have D : decide ((200 : Int) < (len : Int)) = false := by simp; omega
    have D1 : decide ((200 : Int) < (mlen : Int)) = true := by simp; omega
    go_enter Try.func5, Try.ntmps5
    go_wp2_with fail
    refine (SH.out _).mono ?_
    rintro e w8 ⟨rfl, hb8⟩
    have B8 := Lib.hid (below_on Q0.out hb8)
    clear hb8
    go_wp2_with fail
    go_ret
    exact ⟨rfl, B8.out⟩

set_option maxRecDepth 100000 in
set_option maxHeartbeats 4000000 in
theorem twos_short (N M : Int) (l m : List Int) (ao bo : Option Addr) (ca cb : Nat) (w : World) (hA0 : Arg w ao l) (hB0 : Arg w bo m) (hn1 : ao = none → l = [] ∧ ca = 0) (hn2 : bo = none → m = [] ∧ cb = 0) (h1 : l.length ≤ 200) (h2 : m.length ≤ 200) :
    Calls Try.prog 5 #[.agg #[.int .i64 N, .slice ao l.length ca], .agg #[.int .i64 M, .slice bo m.length cb]] w (Made (.bool true) w) := by
  have SH := Lib.hid (fun W => shown3_any W)
  have LX := Lib.hid (fun W (hb : Below w.heap.size w W) => lent_gen N l ao ca W h1 (hA0.on hb) hn1)
  have LY := Lib.hid (fun W (hb : Below w.heap.size w W) => lent_gen M m bo cb W h2 (hB0.on hb) hn2)
  have IZ := Lib.hid (fun W a b ca' cb' (h : Arg W a l) (k : Arg W b m) => zinc_gen N M l m a b ca' cb' W h k)
  have IR := Lib.hid (fun W (hb : Below w.heap.size w W) => includes_gen N M l m ao bo ca cb W (hA0.on hb) (hB0.on hb))
  have SZ := Lib.hid (fun W a b ca' cb' (h : Arg W a l) (k : Arg W b m) => zsame_any N M l m a b ca' cb' W h k (by omega))
  have SR := Lib.hid (fun W (hb : Below w.heap.size w W) => same_any N M l m ao bo ca cb W (hA0.on hb) (hB0.on hb) (by omega))
  have SU := Lib.hid (show ∀ W a ca', Arg W a l → Below w.heap.size w W → Calls Try.prog 40 #[.agg #[.int .i64 N, .slice a l.length ca'], .agg #[.int .i64 N, .slice ao l.length ca]] W (Made (.bool true) W) from fun W a ca' h hb => by
    have := zsame_any N N l l a ao ca' ca W h (hA0.on hb) (by omega)
    rwa [show smB N N l l = true by simp [smB]] at this)
  have MZ := Lib.hid (fun W a b ca' cb' (h : Arg W a l) (k : Arg W b m) => (zme_gen N M l m a b ca' cb' W h k).mono fun e w' h => h.zv2)
  have MR := Lib.hid (fun W (hb : Below w.heap.size w W) => (me_gen N M l m ao bo ca cb W (hA0.on hb) (hB0.on hb)).mono fun e w' h => h.zv2)
  have HZ := Lib.hid (fun W a b ca' cb' (h : Arg W a l) (k : Arg W b m) => (zhu_gen N M l m a b ca' cb' W h k).mono fun e w' h => h.zv2)
  have HR := Lib.hid (fun W (hb : Below w.heap.size w W) => (hu_gen N M l m ao bo ca cb W (hA0.on hb) (hB0.on hb)).mono fun e w' h => h.zv2)
  have KX := Lib.hid (fun W g (hO : Own W g (l.length + 1) (l ++ [77])) (h : Below w.heap.size w W) => kept_yes N N l l g ao ca W hO (hA0.on h) h1 (by simp [smB]))
  have KY := Lib.hid (fun W g (hO : Own W g (m.length + 1) (m ++ [77])) (h : Below w.heap.size w W) => kept_yes M M m m g bo cb W hO (hB0.on h) h2 (by simp [smB]))
  have SM := Lib.hid (fun W M m ao bo ca cb e hA hB hm => lsame_refl M m ao bo ca cb e W hA hB hm)
  have D0 : decide ((200 : Int) < (l.length : Int)) = false := by simp; omega
  have D1 : decide ((200 : Int) < (m.length : Int)) = false := by simp; omega
  generalize inR N M l m = ib at *
  generalize inE N M l m = ie at *
  generalize smB N M l m = sb at *
  generalize zrN (zmE N M l m) N = M1 at *
  generalize zrL (zmE N M l m) (Zo.clo N.toNat (meL l m)) = m1 at *
  generalize zmE N M l m = e1 at *
  generalize zrN (huE N M l m) N = M2 at *
  generalize zrL (huE N M l m) (Zo.clo N.toNat (huL l m)) = m2 at *
  generalize huE N M l m = e2 at *
  unfold ZV2 at MZ MR HZ HR
  have HL := Lib.hid (show (l ++ [77]).length = l.length + 1 by simp)
  have HLm := Lib.hid (show (m ++ [77]).length = m.length + 1 by simp)
  have HL2 := Lib.hid h1
  have HL3 := Lib.hid h2
  clear hA0 hB0 hn1 hn2 h1 h2
  obtain ⟨w0, hw0⟩ : ∃ w0, w0 = (w.alloc (.cells #[.int .i64 N, .slice ao l.length ca] 25)).alloc (.cells #[.int .i64 M, .slice bo m.length cb] 25) := ⟨_, rfl⟩
  have PX := Lib.hid (show Two w0 w.heap.size (.int .i64 N) (.slice ao l.length ca) by rw [hw0]; exact (Two.made _ _ _ _).alloc _)
  have PY := Lib.hid (show Two w0 (w.heap.size + 1) (.int .i64 M) (.slice bo m.length cb) by
    rw [hw0]
    have := Two.made (w.alloc (.cells #[.int .i64 N, .slice ao l.length ca] 25)) (.int .i64 M) (.slice bo m.length cb) 25
    simpa using this)
  have E0 := Lib.hid (show Below w.heap.size w w0 by rw [hw0]; exact past_two (Below.refl _ _))
  have Z0 := Lib.hid (show w0.heap.size = w.heap.size + 2 by rw [hw0]; simp)
  go_enter Try.func5, Try.ntmps5
  go_upto_region 1 with (fail)
  rw [← hw0]
  clear hw0
  obtain ⟨p0, p1, _, _⟩ := PX.out.facts
  obtain ⟨q0, q1, _, _⟩ := PY.out.facts
  go_upto_region 3 with (fail)
  clear p0 p1 q0 q1
  go_cut [5, 6] (fun s5 s6 wx => ∃ b5 b6 g1 g2 : Nat, s5 = .pointer (some ⟨b5, 0, none⟩) ∧ s6 = .pointer (some ⟨b6, 0, none⟩) ∧ Hid (Two wx b5 (.int .i64 N) (.slice (some ⟨g1, 0, none⟩) l.length (l.length + 1)) ∧ Two wx b6 (.int .i64 M) (.slice (some ⟨g2, 0, none⟩) m.length (m.length + 1)) ∧ Own wx g1 (l.length + 1) (l ++ [77]) ∧ Own wx g2 (m.length + 1) (m ++ [77]) ∧ Below w0.heap.size w0 wx ∧
    (w0.heap.size ≤ b5 ∧ w0.heap.size ≤ b6 ∧ w0.heap.size ≤ g1 ∧ w0.heap.size ≤ g2 ∧ b5 ≠ b6 ∧ g1 ≠ g2 ∧ b5 ≠ g1 ∧ b5 ≠ g2 ∧ b6 ≠ g1 ∧ b6 ≠ g2)))
  case first =>
    have KS := Lib.hid (show ∀ W, Below w0.heap.size w0 W → (W.cell? ⟨w.heap.size, 0, none⟩ = some (.int .i64 N) ∧ W.cell? ⟨w.heap.size, 1, none⟩ = some (.slice ao l.length ca) ∧ W.cell? ⟨(w.heap.size + 1), 0, none⟩ = some (.int .i64 M) ∧ W.cell? ⟨(w.heap.size + 1), 1, none⟩ = some (.slice bo m.length cb)) from fun W h => ⟨(PX.out.kept h).facts.1, (PX.out.kept h).facts.2.1, (PY.out.kept h).facts.1, (PY.out.kept h).facts.2.1⟩)
    obtain ⟨wc, hwc⟩ : ∃ wc, wc = w0.drew := ⟨_, rfl⟩
    have Bc := Lib.hid (show Below w0.heap.size w0 wc by rw [hwc]; exact (Below.refl _ _).drew)
    have D := Lib.hid (show w0.heap.size ≤ w0.heap.size from Nat.le_refl _)
    refine wp_region_held_drew (S := (fun W => (W.cell? ⟨w.heap.size, 0, none⟩ = some (.int .i64 N) ∧ W.cell? ⟨w.heap.size, 1, none⟩ = some (.slice ao l.length ca) ∧ W.cell? ⟨(w.heap.size + 1), 0, none⟩ = some (.int .i64 M) ∧ W.cell? ⟨(w.heap.size + 1), 1, none⟩ = some (.slice bo m.length cb)))) (by kernel_rfl) (by rw [← hwc]; exact KS.out _ Bc.out) (fun h0 => ?_)
    rw [← hwc] at h0 ⊢
    clear hwc
    refine wpAnyH_take (i := 0) (v := ?v1) rfl (by kernel_rfl) (by kernel_rfl) (by kernel_rfl) (fun _ _ _ h => h) (Or.inl ⟨by rfl, ?hy1⟩) h0 ?rest1
    case hy1 => (intro w' hS; (try dsimp only at hS); go_simp; try (with_reducible rfl))
    simp only [Act.put, List.getElem_toArray, List.getElem_cons_zero, List.setIfInBounds_toArray, List.set_cons_zero, List.set_cons_succ]
    refine wpAnyH_take (i := 2) (v := ?v2) rfl (by kernel_rfl) (by kernel_rfl) (by kernel_rfl) (fun _ _ _ h => h) (Or.inl ⟨by rfl, ?hy2⟩) h0 ?rest2
    case hy2 => (intro w' hS; (try dsimp only at hS); go_simp; try (with_reducible rfl))
    simp only [Act.put, List.getElem_toArray, List.getElem_cons_zero, List.getElem_cons_succ, List.setIfInBounds_toArray, List.set_cons_zero, List.set_cons_succ]
    refine wpAnyH_ready (rs := [1, 4, 5]) (by kernel_rfl) (by simp) (AllReadyH.cons rfl (fun K hK => ?_) (AllReadyH.cons rfl (fun K hK => ?_) (AllReadyH.cons rfl (fun K hK => ?_) AllReadyH.nil)))
    · rw [if_pos (by rfl)]
      go_simp
      refine (LX.out _ (below_on E0.out Bc.out)).mono ?_
      rintro e wc ⟨g1, rfl, hg, hO, hb⟩
      have D := Lib.hid (show _ ∧ w0.heap.size ≤ g1 from ⟨D.out, Nat.le_trans Bc.out.size hg⟩)
      try (have D := Lib.hid (show _ ∧ b5 < g1 from ⟨D.out, by have := T5.out.lt; omega⟩))
      try (have D := Lib.hid (show _ ∧ b6 < g1 from ⟨D.out, by have := T6.out.lt; omega⟩))
      try (have O2 := Lib.hid (own_below O2.out hb))
      try (have T5 := Lib.hid (T5.out.kept hb))
      try (have T6 := Lib.hid (T6.out.kept hb))
      have Bc := Lib.hid (below_on Bc.out hb)
      have O1 := Lib.hid hO
      clear hO hb hg
      go_simp
      refine hK.out _ _ (KS.out _ Bc.out) (fun h0_1 => ?_)
      clear hK K h0
      refine wpAnyH_ready (rs := [3, 4, 5]) (by kernel_rfl) (by simp) (AllReadyH.cons rfl (fun K hK => ?_) (AllReadyH.cons rfl (fun K hK => ?_) (AllReadyH.cons rfl (fun K hK => ?_) AllReadyH.nil)))
      · rw [if_pos (by rfl)]
        go_simp
        refine (LY.out _ (below_on E0.out Bc.out)).mono ?_
        rintro e wc ⟨g2, rfl, hg, hO, hb⟩
        have D := Lib.hid (show _ ∧ w0.heap.size ≤ g2 from ⟨D.out, Nat.le_trans Bc.out.size hg⟩)
        try (have D := Lib.hid (show _ ∧ b5 < g2 from ⟨D.out, by have := T5.out.lt; omega⟩))
        try (have D := Lib.hid (show _ ∧ b6 < g2 from ⟨D.out, by have := T6.out.lt; omega⟩))
        try (have D := Lib.hid (show _ ∧ g1 < g2 from ⟨D.out, by have := O1.out.lt; omega⟩))
        try (have O1 := Lib.hid (own_below O1.out hb))
        try (have T5 := Lib.hid (T5.out.kept hb))
        try (have T6 := Lib.hid (T6.out.kept hb))
        have Bc := Lib.hid (below_on Bc.out hb)
        have O2 := Lib.hid hO
        clear hO hb hg
        go_simp
        refine hK.out _ _ (KS.out _ Bc.out) (fun h0_2 => ?_)
        clear hK K h0_1
        refine wpAnyH_ready (rs := [4, 5]) (by kernel_rfl) (by simp) (AllReadyH.cons rfl (fun K hK => ?_) (AllReadyH.cons rfl (fun K hK => ?_) AllReadyH.nil))
        · rw [if_pos (by rfl)]
          go_simp
          obtain ⟨b5, hbk⟩ : ∃ b, b = wc.heap.size := ⟨_, rfl⟩
          rw [← hbk]
          have hmade := Two.made wc (.int .i64 0) (.slice none 0 0) 25
          rw [← hbk] at hmade
          have hone := one_more (w1 := wc) (.cells #[.int .i64 0, .slice none 0 0] 25)
          have D := Lib.hid (show _ ∧ w0.heap.size ≤ b5 from ⟨D.out, by have := Bc.out.size; omega⟩)
          try (have D := Lib.hid (show _ ∧ b6 < b5 from ⟨D.out, by have := T6.out.lt; omega⟩))
          try (have D := Lib.hid (show _ ∧ g1 < b5 from ⟨D.out, by have := O1.out.lt; omega⟩))
          try (have D := Lib.hid (show _ ∧ g2 < b5 from ⟨D.out, by have := O2.out.lt; omega⟩))
          try (have O1 := Lib.hid (own_below O1.out hone))
          try (have O2 := Lib.hid (own_below O2.out hone))
          try (have T6 := Lib.hid (T6.out.kept hone))
          have Bc := Lib.hid (below_on Bc.out hone)
          have T5 := Lib.hid hmade
          clear hmade hone hbk
          generalize wc.alloc (.cells #[.int .i64 0, .slice none 0 0] 25) = wc at *
          go_simp
          refine hK.out _ _ (KS.out _ Bc.out) (fun h0_3 => ?_)
          clear hK K h0_2
          refine wpAnyH_ready (rs := [5]) (by kernel_rfl) (by simp) (AllReadyH.cons rfl (fun K hK => ?_) AllReadyH.nil)
          rw [if_pos (by rfl)]
          go_simp
          obtain ⟨b6, hbk⟩ : ∃ b, b = wc.heap.size := ⟨_, rfl⟩
          rw [← hbk]
          have hmade := Two.made wc (.int .i64 0) (.slice none 0 0) 25
          rw [← hbk] at hmade
          have hone := one_more (w1 := wc) (.cells #[.int .i64 0, .slice none 0 0] 25)
          have D := Lib.hid (show _ ∧ w0.heap.size ≤ b6 from ⟨D.out, by have := Bc.out.size; omega⟩)
          try (have D := Lib.hid (show _ ∧ b5 < b6 from ⟨D.out, by have := T5.out.lt; omega⟩))
          try (have D := Lib.hid (show _ ∧ g1 < b6 from ⟨D.out, by have := O1.out.lt; omega⟩))
          try (have D := Lib.hid (show _ ∧ g2 < b6 from ⟨D.out, by have := O2.out.lt; omega⟩))
          try (have O1 := Lib.hid (own_below O1.out hone))
          try (have O2 := Lib.hid (own_below O2.out hone))
          try (have T5 := Lib.hid (T5.out.kept hone))
          have Bc := Lib.hid (below_on Bc.out hone)
          have T6 := Lib.hid hmade
          clear hmade hone hbk
          generalize wc.alloc (.cells #[.int .i64 0, .slice none 0 0] 25) = wc at *
          go_simp
          refine hK.out _ _ (KS.out _ Bc.out) (fun h0_4 => ?_)
          clear hK K h0_3
          refine wpAnyH_ready (rs := [6]) (by kernel_rfl) (by simp) (AllReadyH.cons rfl (fun K hK => ?_) AllReadyH.nil)
          rw [if_pos (by rfl)]
          obtain ⟨q0, q1, q2, q3⟩ := T5.out.facts
          go_simp
          have hput := T5.out.put (.int .i64 N) (.slice (some ⟨g1, 0, none⟩) l.length (l.length + 1))
          have hP := Lib.hid (far_below Bc.out (x := b5) (by have := D.out; omega) (.int .i64 N) (.slice (some ⟨g1, 0, none⟩) l.length (l.length + 1)))
          have O1 := Lib.hid (own_aside O1.out (b := b5) (by have := D.out; omega) (.int .i64 N) (.slice (some ⟨g1, 0, none⟩) l.length (l.length + 1)))
          have O2 := Lib.hid (own_aside O2.out (b := b5) (by have := D.out; omega) (.int .i64 N) (.slice (some ⟨g1, 0, none⟩) l.length (l.length + 1)))
          have T6 := Lib.hid (T6.out.aside (b' := b5) (by have := D.out; omega) (.int .i64 N) (.slice (some ⟨g1, 0, none⟩) l.length (l.length + 1)))
          have T5 := Lib.hid hput
          clear hput q0 q1 q2 q3
          generalize (wc.setCell ⟨b5, 0, none⟩ (.int .i64 N)).setCell ⟨b5, 1, none⟩ (.slice (some ⟨g1, 0, none⟩) l.length (l.length + 1)) = wc at *
          have Bc := hP
          clear hP
          refine hK.out _ _ (KS.out _ Bc.out) (fun h0_5 => ?_)
          clear hK K h0_4
          refine wpAnyH_ready (rs := [7]) (by kernel_rfl) (by simp) (AllReadyH.cons rfl (fun K hK => ?_) AllReadyH.nil)
          rw [if_pos (by rfl)]
          obtain ⟨q0, q1, q2, q3⟩ := T6.out.facts
          go_simp
          have hput := T6.out.put (.int .i64 M) (.slice (some ⟨g2, 0, none⟩) m.length (m.length + 1))
          have hP := Lib.hid (far_below Bc.out (x := b6) (by have := D.out; omega) (.int .i64 M) (.slice (some ⟨g2, 0, none⟩) m.length (m.length + 1)))
          have O1 := Lib.hid (own_aside O1.out (b := b6) (by have := D.out; omega) (.int .i64 M) (.slice (some ⟨g2, 0, none⟩) m.length (m.length + 1)))
          have O2 := Lib.hid (own_aside O2.out (b := b6) (by have := D.out; omega) (.int .i64 M) (.slice (some ⟨g2, 0, none⟩) m.length (m.length + 1)))
          have T5 := Lib.hid (T5.out.aside (b' := b6) (by have := D.out; omega) (.int .i64 M) (.slice (some ⟨g2, 0, none⟩) m.length (m.length + 1)))
          have T6 := Lib.hid hput
          clear hput q0 q1 q2 q3
          generalize (wc.setCell ⟨b6, 0, none⟩ (.int .i64 M)).setCell ⟨b6, 1, none⟩ (.slice (some ⟨g2, 0, none⟩) m.length (m.length + 1)) = wc at *
          have Bc := hP
          clear hP
          refine hK.out _ _ (KS.out _ Bc.out) (fun h0_6 => ?_)
          clear hK K h0_5
          refine wpAnyH_done (by kernel_rfl) ?_ _
          go_wp2_with fail
          go_meet
          case rel => exact ⟨b5, b6, g1, g2, rfl, rfl, Lib.hid ⟨T5.out, T6.out, O1.out, O2.out, Bc.out, by have := D.out; omega⟩⟩
        · rw [if_pos (by rfl)]
          go_simp
          obtain ⟨b6, hbk⟩ : ∃ b, b = wc.heap.size := ⟨_, rfl⟩
          rw [← hbk]
          have hmade := Two.made wc (.int .i64 0) (.slice none 0 0) 25
          rw [← hbk] at hmade
          have hone := one_more (w1 := wc) (.cells #[.int .i64 0, .slice none 0 0] 25)
          have D := Lib.hid (show _ ∧ w0.heap.size ≤ b6 from ⟨D.out, by have := Bc.out.size; omega⟩)
          try (have D := Lib.hid (show _ ∧ b5 < b6 from ⟨D.out, by have := T5.out.lt; omega⟩))
          try (have D := Lib.hid (show _ ∧ g1 < b6 from ⟨D.out, by have := O1.out.lt; omega⟩))
          try (have D := Lib.hid (show _ ∧ g2 < b6 from ⟨D.out, by have := O2.out.lt; omega⟩))
          try (have O1 := Lib.hid (own_below O1.out hone))
          try (have O2 := Lib.hid (own_below O2.out hone))
          try (have T5 := Lib.hid (T5.out.kept hone))
          have Bc := Lib.hid (below_on Bc.out hone)
          have T6 := Lib.hid hmade
          clear hmade hone hbk
          generalize wc.alloc (.cells #[.int .i64 0, .slice none 0 0] 25) = wc at *
          go_simp
          refine hK.out _ _ (KS.out _ Bc.out) (fun h0_3 => ?_)
          clear hK K h0_2
          refine wpAnyH_ready (rs := [4]) (by kernel_rfl) (by simp) (AllReadyH.cons rfl (fun K hK => ?_) AllReadyH.nil)
          rw [if_pos (by rfl)]
          go_simp
          obtain ⟨b5, hbk⟩ : ∃ b, b = wc.heap.size := ⟨_, rfl⟩
          rw [← hbk]
          have hmade := Two.made wc (.int .i64 0) (.slice none 0 0) 25
          rw [← hbk] at hmade
          have hone := one_more (w1 := wc) (.cells #[.int .i64 0, .slice none 0 0] 25)
          have D := Lib.hid (show _ ∧ w0.heap.size ≤ b5 from ⟨D.out, by have := Bc.out.size; omega⟩)
          try (have D := Lib.hid (show _ ∧ b6 < b5 from ⟨D.out, by have := T6.out.lt; omega⟩))
          try (have D := Lib.hid (show _ ∧ g1 < b5 from ⟨D.out, by have := O1.out.lt; omega⟩))
          try (have D := Lib.hid (show _ ∧ g2 < b5 from ⟨D.out, by have := O2.out.lt; omega⟩))
          try (have O1 := Lib.hid (own_below O1.out hone))
          try (have O2 := Lib.hid (own_below O2.out hone))
          try (have T6 := Lib.hid (T6.out.kept hone))
          have Bc := Lib.hid (below_on Bc.out hone)
          have T5 := Lib.hid hmade
          clear hmade hone hbk
          generalize wc.alloc (.cells #[.int .i64 0, .slice none 0 0] 25) = wc at *
          go_simp
          refine hK.out _ _ (KS.out _ Bc.out) (fun h0_7 => ?_)
          clear hK K h0_3
          refine wpAnyH_ready (rs := [6]) (by kernel_rfl) (by simp) (AllReadyH.cons rfl (fun K hK => ?_) AllReadyH.nil)
          rw [if_pos (by rfl)]
          obtain ⟨q0, q1, q2, q3⟩ := T5.out.facts
          go_simp
          have hput := T5.out.put (.int .i64 N) (.slice (some ⟨g1, 0, none⟩) l.length (l.length + 1))
          have hP := Lib.hid (far_below Bc.out (x := b5) (by have := D.out; omega) (.int .i64 N) (.slice (some ⟨g1, 0, none⟩) l.length (l.length + 1)))
          have O1 := Lib.hid (own_aside O1.out (b := b5) (by have := D.out; omega) (.int .i64 N) (.slice (some ⟨g1, 0, none⟩) l.length (l.length + 1)))
          have O2 := Lib.hid (own_aside O2.out (b := b5) (by have := D.out; omega) (.int .i64 N) (.slice (some ⟨g1, 0, none⟩) l.length (l.length + 1)))
          have T6 := Lib.hid (T6.out.aside (b' := b5) (by have := D.out; omega) (.int .i64 N) (.slice (some ⟨g1, 0, none⟩) l.length (l.length + 1)))
          have T5 := Lib.hid hput
          clear hput q0 q1 q2 q3
          generalize (wc.setCell ⟨b5, 0, none⟩ (.int .i64 N)).setCell ⟨b5, 1, none⟩ (.slice (some ⟨g1, 0, none⟩) l.length (l.length + 1)) = wc at *
          have Bc := hP
          clear hP
          refine hK.out _ _ (KS.out _ Bc.out) (fun h0_8 => ?_)
          clear hK K h0_7
          refine wpAnyH_ready (rs := [7]) (by kernel_rfl) (by simp) (AllReadyH.cons rfl (fun K hK => ?_) AllReadyH.nil)
          rw [if_pos (by rfl)]
          obtain ⟨q0, q1, q2, q3⟩ := T6.out.facts
          go_simp
          have hput := T6.out.put (.int .i64 M) (.slice (some ⟨g2, 0, none⟩) m.length (m.length + 1))
          have hP := Lib.hid (far_below Bc.out (x := b6) (by have := D.out; omega) (.int .i64 M) (.slice (some ⟨g2, 0, none⟩) m.length (m.length + 1)))
          have O1 := Lib.hid (own_aside O1.out (b := b6) (by have := D.out; omega) (.int .i64 M) (.slice (some ⟨g2, 0, none⟩) m.length (m.length + 1)))
          have O2 := Lib.hid (own_aside O2.out (b := b6) (by have := D.out; omega) (.int .i64 M) (.slice (some ⟨g2, 0, none⟩) m.length (m.length + 1)))
          have T5 := Lib.hid (T5.out.aside (b' := b6) (by have := D.out; omega) (.int .i64 M) (.slice (some ⟨g2, 0, none⟩) m.length (m.length + 1)))
          have T6 := Lib.hid hput
          clear hput q0 q1 q2 q3
          generalize (wc.setCell ⟨b6, 0, none⟩ (.int .i64 M)).setCell ⟨b6, 1, none⟩ (.slice (some ⟨g2, 0, none⟩) m.length (m.length + 1)) = wc at *
          have Bc := hP
          clear hP
          refine hK.out _ _ (KS.out _ Bc.out) (fun h0_9 => ?_)
          clear hK K h0_8
          refine wpAnyH_done (by kernel_rfl) ?_ _
          go_wp2_with fail
          go_meet
          case rel => exact ⟨b5, b6, g1, g2, rfl, rfl, Lib.hid ⟨T5.out, T6.out, O1.out, O2.out, Bc.out, by have := D.out; omega⟩⟩
      · rw [if_pos (by rfl)]
        go_simp
        obtain ⟨b5, hbk⟩ : ∃ b, b = wc.heap.size := ⟨_, rfl⟩
        rw [← hbk]
        have hmade := Two.made wc (.int .i64 0) (.slice none 0 0) 25
        rw [← hbk] at hmade
        have hone := one_more (w1 := wc) (.cells #[.int .i64 0, .slice none 0 0] 25)
        have D := Lib.hid (show _ ∧ w0.heap.size ≤ b5 from ⟨D.out, by have := Bc.out.size; omega⟩)
        try (have D := Lib.hid (show _ ∧ b6 < b5 from ⟨D.out, by have := T6.out.lt; omega⟩))
        try (have D := Lib.hid (show _ ∧ g1 < b5 from ⟨D.out, by have := O1.out.lt; omega⟩))
        try (have D := Lib.hid (show _ ∧ g2 < b5 from ⟨D.out, by have := O2.out.lt; omega⟩))
        try (have O1 := Lib.hid (own_below O1.out hone))
        try (have O2 := Lib.hid (own_below O2.out hone))
        try (have T6 := Lib.hid (T6.out.kept hone))
        have Bc := Lib.hid (below_on Bc.out hone)
        have T5 := Lib.hid hmade
        clear hmade hone hbk
        generalize wc.alloc (.cells #[.int .i64 0, .slice none 0 0] 25) = wc at *
        go_simp
        refine hK.out _ _ (KS.out _ Bc.out) (fun h0_2 => ?_)
        clear hK K h0_1
        refine wpAnyH_ready (rs := [3, 5]) (by kernel_rfl) (by simp) (AllReadyH.cons rfl (fun K hK => ?_) (AllReadyH.cons rfl (fun K hK => ?_) AllReadyH.nil))
        · rw [if_pos (by rfl)]
          go_simp
          refine (LY.out _ (below_on E0.out Bc.out)).mono ?_
          rintro e wc ⟨g2, rfl, hg, hO, hb⟩
          have D := Lib.hid (show _ ∧ w0.heap.size ≤ g2 from ⟨D.out, Nat.le_trans Bc.out.size hg⟩)
          try (have D := Lib.hid (show _ ∧ b5 < g2 from ⟨D.out, by have := T5.out.lt; omega⟩))
          try (have D := Lib.hid (show _ ∧ b6 < g2 from ⟨D.out, by have := T6.out.lt; omega⟩))
          try (have D := Lib.hid (show _ ∧ g1 < g2 from ⟨D.out, by have := O1.out.lt; omega⟩))
          try (have O1 := Lib.hid (own_below O1.out hb))
          try (have T5 := Lib.hid (T5.out.kept hb))
          try (have T6 := Lib.hid (T6.out.kept hb))
          have Bc := Lib.hid (below_on Bc.out hb)
          have O2 := Lib.hid hO
          clear hO hb hg
          go_simp
          refine hK.out _ _ (KS.out _ Bc.out) (fun h0_10 => ?_)
          clear hK K h0_2
          refine wpAnyH_ready (rs := [5]) (by kernel_rfl) (by simp) (AllReadyH.cons rfl (fun K hK => ?_) AllReadyH.nil)
          rw [if_pos (by rfl)]
          go_simp
          obtain ⟨b6, hbk⟩ : ∃ b, b = wc.heap.size := ⟨_, rfl⟩
          rw [← hbk]
          have hmade := Two.made wc (.int .i64 0) (.slice none 0 0) 25
          rw [← hbk] at hmade
          have hone := one_more (w1 := wc) (.cells #[.int .i64 0, .slice none 0 0] 25)
          have D := Lib.hid (show _ ∧ w0.heap.size ≤ b6 from ⟨D.out, by have := Bc.out.size; omega⟩)
          try (have D := Lib.hid (show _ ∧ b5 < b6 from ⟨D.out, by have := T5.out.lt; omega⟩))
          try (have D := Lib.hid (show _ ∧ g1 < b6 from ⟨D.out, by have := O1.out.lt; omega⟩))
          try (have D := Lib.hid (show _ ∧ g2 < b6 from ⟨D.out, by have := O2.out.lt; omega⟩))
          try (have O1 := Lib.hid (own_below O1.out hone))
          try (have O2 := Lib.hid (own_below O2.out hone))
          try (have T5 := Lib.hid (T5.out.kept hone))
          have Bc := Lib.hid (below_on Bc.out hone)
          have T6 := Lib.hid hmade
          clear hmade hone hbk
          generalize wc.alloc (.cells #[.int .i64 0, .slice none 0 0] 25) = wc at *
          go_simp
          refine hK.out _ _ (KS.out _ Bc.out) (fun h0_11 => ?_)
          clear hK K h0_10
          refine wpAnyH_ready (rs := [6]) (by kernel_rfl) (by simp) (AllReadyH.cons rfl (fun K hK => ?_) AllReadyH.nil)
          rw [if_pos (by rfl)]
          obtain ⟨q0, q1, q2, q3⟩ := T5.out.facts
          go_simp
          have hput := T5.out.put (.int .i64 N) (.slice (some ⟨g1, 0, none⟩) l.length (l.length + 1))
          have hP := Lib.hid (far_below Bc.out (x := b5) (by have := D.out; omega) (.int .i64 N) (.slice (some ⟨g1, 0, none⟩) l.length (l.length + 1)))
          have O1 := Lib.hid (own_aside O1.out (b := b5) (by have := D.out; omega) (.int .i64 N) (.slice (some ⟨g1, 0, none⟩) l.length (l.length + 1)))
          have O2 := Lib.hid (own_aside O2.out (b := b5) (by have := D.out; omega) (.int .i64 N) (.slice (some ⟨g1, 0, none⟩) l.length (l.length + 1)))
          have T6 := Lib.hid (T6.out.aside (b' := b5) (by have := D.out; omega) (.int .i64 N) (.slice (some ⟨g1, 0, none⟩) l.length (l.length + 1)))
          have T5 := Lib.hid hput
          clear hput q0 q1 q2 q3
          generalize (wc.setCell ⟨b5, 0, none⟩ (.int .i64 N)).setCell ⟨b5, 1, none⟩ (.slice (some ⟨g1, 0, none⟩) l.length (l.length + 1)) = wc at *
          have Bc := hP
          clear hP
          refine hK.out _ _ (KS.out _ Bc.out) (fun h0_12 => ?_)
          clear hK K h0_11
          refine wpAnyH_ready (rs := [7]) (by kernel_rfl) (by simp) (AllReadyH.cons rfl (fun K hK => ?_) AllReadyH.nil)
          rw [if_pos (by rfl)]
          obtain ⟨q0, q1, q2, q3⟩ := T6.out.facts
          go_simp
          have hput := T6.out.put (.int .i64 M) (.slice (some ⟨g2, 0, none⟩) m.length (m.length + 1))
          have hP := Lib.hid (far_below Bc.out (x := b6) (by have := D.out; omega) (.int .i64 M) (.slice (some ⟨g2, 0, none⟩) m.length (m.length + 1)))
          have O1 := Lib.hid (own_aside O1.out (b := b6) (by have := D.out; omega) (.int .i64 M) (.slice (some ⟨g2, 0, none⟩) m.length (m.length + 1)))
          have O2 := Lib.hid (own_aside O2.out (b := b6) (by have := D.out; omega) (.int .i64 M) (.slice (some ⟨g2, 0, none⟩) m.length (m.length + 1)))
          have T5 := Lib.hid (T5.out.aside (b' := b6) (by have := D.out; omega) (.int .i64 M) (.slice (some ⟨g2, 0, none⟩) m.length (m.length + 1)))
          have T6 := Lib.hid hput
          clear hput q0 q1 q2 q3
          generalize (wc.setCell ⟨b6, 0, none⟩ (.int .i64 M)).setCell ⟨b6, 1, none⟩ (.slice (some ⟨g2, 0, none⟩) m.length (m.length + 1)) = wc at *
          have Bc := hP
          clear hP
          refine hK.out _ _ (KS.out _ Bc.out) (fun h0_13 => ?_)
          clear hK K h0_12
          refine wpAnyH_done (by kernel_rfl) ?_ _
          go_wp2_with fail
          go_meet
          case rel => exact ⟨b5, b6, g1, g2, rfl, rfl, Lib.hid ⟨T5.out, T6.out, O1.out, O2.out, Bc.out, by have := D.out; omega⟩⟩
        · rw [if_pos (by rfl)]
          go_simp
          obtain ⟨b6, hbk⟩ : ∃ b, b = wc.heap.size := ⟨_, rfl⟩
          rw [← hbk]
          have hmade := Two.made wc (.int .i64 0) (.slice none 0 0) 25
          rw [← hbk] at hmade
          have hone := one_more (w1 := wc) (.cells #[.int .i64 0, .slice none 0 0] 25)
          have D := Lib.hid (show _ ∧ w0.heap.size ≤ b6 from ⟨D.out, by have := Bc.out.size; omega⟩)
          try (have D := Lib.hid (show _ ∧ b5 < b6 from ⟨D.out, by have := T5.out.lt; omega⟩))
          try (have D := Lib.hid (show _ ∧ g1 < b6 from ⟨D.out, by have := O1.out.lt; omega⟩))
          try (have D := Lib.hid (show _ ∧ g2 < b6 from ⟨D.out, by have := O2.out.lt; omega⟩))
          try (have O1 := Lib.hid (own_below O1.out hone))
          try (have O2 := Lib.hid (own_below O2.out hone))
          try (have T5 := Lib.hid (T5.out.kept hone))
          have Bc := Lib.hid (below_on Bc.out hone)
          have T6 := Lib.hid hmade
          clear hmade hone hbk
          generalize wc.alloc (.cells #[.int .i64 0, .slice none 0 0] 25) = wc at *
          go_simp
          refine hK.out _ _ (KS.out _ Bc.out) (fun h0_10 => ?_)
          clear hK K h0_2
          refine wpAnyH_ready (rs := [3]) (by kernel_rfl) (by simp) (AllReadyH.cons rfl (fun K hK => ?_) AllReadyH.nil)
          rw [if_pos (by rfl)]
          go_simp
          refine (LY.out _ (below_on E0.out Bc.out)).mono ?_
          rintro e wc ⟨g2, rfl, hg, hO, hb⟩
          have D := Lib.hid (show _ ∧ w0.heap.size ≤ g2 from ⟨D.out, Nat.le_trans Bc.out.size hg⟩)
          try (have D := Lib.hid (show _ ∧ b5 < g2 from ⟨D.out, by have := T5.out.lt; omega⟩))
          try (have D := Lib.hid (show _ ∧ b6 < g2 from ⟨D.out, by have := T6.out.lt; omega⟩))
          try (have D := Lib.hid (show _ ∧ g1 < g2 from ⟨D.out, by have := O1.out.lt; omega⟩))
          try (have O1 := Lib.hid (own_below O1.out hb))
          try (have T5 := Lib.hid (T5.out.kept hb))
          try (have T6 := Lib.hid (T6.out.kept hb))
          have Bc := Lib.hid (below_on Bc.out hb)
          have O2 := Lib.hid hO
          clear hO hb hg
          go_simp
          refine hK.out _ _ (KS.out _ Bc.out) (fun h0_14 => ?_)
          clear hK K h0_10
          refine wpAnyH_ready (rs := [6]) (by kernel_rfl) (by simp) (AllReadyH.cons rfl (fun K hK => ?_) AllReadyH.nil)
          rw [if_pos (by rfl)]
          obtain ⟨q0, q1, q2, q3⟩ := T5.out.facts
          go_simp
          have hput := T5.out.put (.int .i64 N) (.slice (some ⟨g1, 0, none⟩) l.length (l.length + 1))
          have hP := Lib.hid (far_below Bc.out (x := b5) (by have := D.out; omega) (.int .i64 N) (.slice (some ⟨g1, 0, none⟩) l.length (l.length + 1)))
          have O1 := Lib.hid (own_aside O1.out (b := b5) (by have := D.out; omega) (.int .i64 N) (.slice (some ⟨g1, 0, none⟩) l.length (l.length + 1)))
          have O2 := Lib.hid (own_aside O2.out (b := b5) (by have := D.out; omega) (.int .i64 N) (.slice (some ⟨g1, 0, none⟩) l.length (l.length + 1)))
          have T6 := Lib.hid (T6.out.aside (b' := b5) (by have := D.out; omega) (.int .i64 N) (.slice (some ⟨g1, 0, none⟩) l.length (l.length + 1)))
          have T5 := Lib.hid hput
          clear hput q0 q1 q2 q3
          generalize (wc.setCell ⟨b5, 0, none⟩ (.int .i64 N)).setCell ⟨b5, 1, none⟩ (.slice (some ⟨g1, 0, none⟩) l.length (l.length + 1)) = wc at *
          have Bc := hP
          clear hP
          refine hK.out _ _ (KS.out _ Bc.out) (fun h0_15 => ?_)
          clear hK K h0_14
          refine wpAnyH_ready (rs := [7]) (by kernel_rfl) (by simp) (AllReadyH.cons rfl (fun K hK => ?_) AllReadyH.nil)
          rw [if_pos (by rfl)]
          obtain ⟨q0, q1, q2, q3⟩ := T6.out.facts
          go_simp
          have hput := T6.out.put (.int .i64 M) (.slice (some ⟨g2, 0, none⟩) m.length (m.length + 1))
          have hP := Lib.hid (far_below Bc.out (x := b6) (by have := D.out; omega) (.int .i64 M) (.slice (some ⟨g2, 0, none⟩) m.length (m.length + 1)))
          have O1 := Lib.hid (own_aside O1.out (b := b6) (by have := D.out; omega) (.int .i64 M) (.slice (some ⟨g2, 0, none⟩) m.length (m.length + 1)))
          have O2 := Lib.hid (own_aside O2.out (b := b6) (by have := D.out; omega) (.int .i64 M) (.slice (some ⟨g2, 0, none⟩) m.length (m.length + 1)))
          have T5 := Lib.hid (T5.out.aside (b' := b6) (by have := D.out; omega) (.int .i64 M) (.slice (some ⟨g2, 0, none⟩) m.length (m.length + 1)))
          have T6 := Lib.hid hput
          clear hput q0 q1 q2 q3
          generalize (wc.setCell ⟨b6, 0, none⟩ (.int .i64 M)).setCell ⟨b6, 1, none⟩ (.slice (some ⟨g2, 0, none⟩) m.length (m.length + 1)) = wc at *
          have Bc := hP
          clear hP
          refine hK.out _ _ (KS.out _ Bc.out) (fun h0_16 => ?_)
          clear hK K h0_15
          refine wpAnyH_done (by kernel_rfl) ?_ _
          go_wp2_with fail
          go_meet
          case rel => exact ⟨b5, b6, g1, g2, rfl, rfl, Lib.hid ⟨T5.out, T6.out, O1.out, O2.out, Bc.out, by have := D.out; omega⟩⟩
      · rw [if_pos (by rfl)]
        go_simp
        obtain ⟨b6, hbk⟩ : ∃ b, b = wc.heap.size := ⟨_, rfl⟩
        rw [← hbk]
        have hmade := Two.made wc (.int .i64 0) (.slice none 0 0) 25
        rw [← hbk] at hmade
        have hone := one_more (w1 := wc) (.cells #[.int .i64 0, .slice none 0 0] 25)
        have D := Lib.hid (show _ ∧ w0.heap.size ≤ b6 from ⟨D.out, by have := Bc.out.size; omega⟩)
        try (have D := Lib.hid (show _ ∧ b5 < b6 from ⟨D.out, by have := T5.out.lt; omega⟩))
        try (have D := Lib.hid (show _ ∧ g1 < b6 from ⟨D.out, by have := O1.out.lt; omega⟩))
        try (have D := Lib.hid (show _ ∧ g2 < b6 from ⟨D.out, by have := O2.out.lt; omega⟩))
        try (have O1 := Lib.hid (own_below O1.out hone))
        try (have O2 := Lib.hid (own_below O2.out hone))
        try (have T5 := Lib.hid (T5.out.kept hone))
        have Bc := Lib.hid (below_on Bc.out hone)
        have T6 := Lib.hid hmade
        clear hmade hone hbk
        generalize wc.alloc (.cells #[.int .i64 0, .slice none 0 0] 25) = wc at *
        go_simp
        refine hK.out _ _ (KS.out _ Bc.out) (fun h0_2 => ?_)
        clear hK K h0_1
        refine wpAnyH_ready (rs := [3, 4]) (by kernel_rfl) (by simp) (AllReadyH.cons rfl (fun K hK => ?_) (AllReadyH.cons rfl (fun K hK => ?_) AllReadyH.nil))
        · rw [if_pos (by rfl)]
          go_simp
          refine (LY.out _ (below_on E0.out Bc.out)).mono ?_
          rintro e wc ⟨g2, rfl, hg, hO, hb⟩
          have D := Lib.hid (show _ ∧ w0.heap.size ≤ g2 from ⟨D.out, Nat.le_trans Bc.out.size hg⟩)
          try (have D := Lib.hid (show _ ∧ b5 < g2 from ⟨D.out, by have := T5.out.lt; omega⟩))
          try (have D := Lib.hid (show _ ∧ b6 < g2 from ⟨D.out, by have := T6.out.lt; omega⟩))
          try (have D := Lib.hid (show _ ∧ g1 < g2 from ⟨D.out, by have := O1.out.lt; omega⟩))
          try (have O1 := Lib.hid (own_below O1.out hb))
          try (have T5 := Lib.hid (T5.out.kept hb))
          try (have T6 := Lib.hid (T6.out.kept hb))
          have Bc := Lib.hid (below_on Bc.out hb)
          have O2 := Lib.hid hO
          clear hO hb hg
          go_simp
          refine hK.out _ _ (KS.out _ Bc.out) (fun h0_17 => ?_)
          clear hK K h0_2
          refine wpAnyH_ready (rs := [4]) (by kernel_rfl) (by simp) (AllReadyH.cons rfl (fun K hK => ?_) AllReadyH.nil)
          rw [if_pos (by rfl)]
          go_simp
          obtain ⟨b5, hbk⟩ : ∃ b, b = wc.heap.size := ⟨_, rfl⟩
          rw [← hbk]
          have hmade := Two.made wc (.int .i64 0) (.slice none 0 0) 25
          rw [← hbk] at hmade
          have hone := one_more (w1 := wc) (.cells #[.int .i64 0, .slice none 0 0] 25)
          have D := Lib.hid (show _ ∧ w0.heap.size ≤ b5 from ⟨D.out, by have := Bc.out.size; omega⟩)
          try (have D := Lib.hid (show _ ∧ b6 < b5 from ⟨D.out, by have := T6.out.lt; omega⟩))
          try (have D := Lib.hid (show _ ∧ g1 < b5 from ⟨D.out, by have := O1.out.lt; omega⟩))
          try (have D := Lib.hid (show _ ∧ g2 < b5 from ⟨D.out, by have := O2.out.lt; omega⟩))
          try (have O1 := Lib.hid (own_below O1.out hone))
          try (have O2 := Lib.hid (own_below O2.out hone))
          try (have T6 := Lib.hid (T6.out.kept hone))
          have Bc := Lib.hid (below_on Bc.out hone)
          have T5 := Lib.hid hmade
          clear hmade hone hbk
          generalize wc.alloc (.cells #[.int .i64 0, .slice none 0 0] 25) = wc at *
          go_simp
          refine hK.out _ _ (KS.out _ Bc.out) (fun h0_18 => ?_)
          clear hK K h0_17
          refine wpAnyH_ready (rs := [6]) (by kernel_rfl) (by simp) (AllReadyH.cons rfl (fun K hK => ?_) AllReadyH.nil)
          rw [if_pos (by rfl)]
          obtain ⟨q0, q1, q2, q3⟩ := T5.out.facts
          go_simp
          have hput := T5.out.put (.int .i64 N) (.slice (some ⟨g1, 0, none⟩) l.length (l.length + 1))
          have hP := Lib.hid (far_below Bc.out (x := b5) (by have := D.out; omega) (.int .i64 N) (.slice (some ⟨g1, 0, none⟩) l.length (l.length + 1)))
          have O1 := Lib.hid (own_aside O1.out (b := b5) (by have := D.out; omega) (.int .i64 N) (.slice (some ⟨g1, 0, none⟩) l.length (l.length + 1)))
          have O2 := Lib.hid (own_aside O2.out (b := b5) (by have := D.out; omega) (.int .i64 N) (.slice (some ⟨g1, 0, none⟩) l.length (l.length + 1)))
          have T6 := Lib.hid (T6.out.aside (b' := b5) (by have := D.out; omega) (.int .i64 N) (.slice (some ⟨g1, 0, none⟩) l.length (l.length + 1)))
          have T5 := Lib.hid hput
          clear hput q0 q1 q2 q3
          generalize (wc.setCell ⟨b5, 0, none⟩ (.int .i64 N)).setCell ⟨b5, 1, none⟩ (.slice (some ⟨g1, 0, none⟩) l.length (l.length + 1)) = wc at *
          have Bc := hP
          clear hP
          refine hK.out _ _ (KS.out _ Bc.out) (fun h0_19 => ?_)
          clear hK K h0_18
          refine wpAnyH_ready (rs := [7]) (by kernel_rfl) (by simp) (AllReadyH.cons rfl (fun K hK => ?_) AllReadyH.nil)
          rw [if_pos (by rfl)]
          obtain ⟨q0, q1, q2, q3⟩ := T6.out.facts
          go_simp
          have hput := T6.out.put (.int .i64 M) (.slice (some ⟨g2, 0, none⟩) m.length (m.length + 1))
          have hP := Lib.hid (far_below Bc.out (x := b6) (by have := D.out; omega) (.int .i64 M) (.slice (some ⟨g2, 0, none⟩) m.length (m.length + 1)))
          have O1 := Lib.hid (own_aside O1.out (b := b6) (by have := D.out; omega) (.int .i64 M) (.slice (some ⟨g2, 0, none⟩) m.length (m.length + 1)))
          have O2 := Lib.hid (own_aside O2.out (b := b6) (by have := D.out; omega) (.int .i64 M) (.slice (some ⟨g2, 0, none⟩) m.length (m.length + 1)))
          have T5 := Lib.hid (T5.out.aside (b' := b6) (by have := D.out; omega) (.int .i64 M) (.slice (some ⟨g2, 0, none⟩) m.length (m.length + 1)))
          have T6 := Lib.hid hput
          clear hput q0 q1 q2 q3
          generalize (wc.setCell ⟨b6, 0, none⟩ (.int .i64 M)).setCell ⟨b6, 1, none⟩ (.slice (some ⟨g2, 0, none⟩) m.length (m.length + 1)) = wc at *
          have Bc := hP
          clear hP
          refine hK.out _ _ (KS.out _ Bc.out) (fun h0_20 => ?_)
          clear hK K h0_19
          refine wpAnyH_done (by kernel_rfl) ?_ _
          go_wp2_with fail
          go_meet
          case rel => exact ⟨b5, b6, g1, g2, rfl, rfl, Lib.hid ⟨T5.out, T6.out, O1.out, O2.out, Bc.out, by have := D.out; omega⟩⟩
        · rw [if_pos (by rfl)]
          go_simp
          obtain ⟨b5, hbk⟩ : ∃ b, b = wc.heap.size := ⟨_, rfl⟩
          rw [← hbk]
          have hmade := Two.made wc (.int .i64 0) (.slice none 0 0) 25
          rw [← hbk] at hmade
          have hone := one_more (w1 := wc) (.cells #[.int .i64 0, .slice none 0 0] 25)
          have D := Lib.hid (show _ ∧ w0.heap.size ≤ b5 from ⟨D.out, by have := Bc.out.size; omega⟩)
          try (have D := Lib.hid (show _ ∧ b6 < b5 from ⟨D.out, by have := T6.out.lt; omega⟩))
          try (have D := Lib.hid (show _ ∧ g1 < b5 from ⟨D.out, by have := O1.out.lt; omega⟩))
          try (have D := Lib.hid (show _ ∧ g2 < b5 from ⟨D.out, by have := O2.out.lt; omega⟩))
          try (have O1 := Lib.hid (own_below O1.out hone))
          try (have O2 := Lib.hid (own_below O2.out hone))
          try (have T6 := Lib.hid (T6.out.kept hone))
          have Bc := Lib.hid (below_on Bc.out hone)
          have T5 := Lib.hid hmade
          clear hmade hone hbk
          generalize wc.alloc (.cells #[.int .i64 0, .slice none 0 0] 25) = wc at *
          go_simp
          refine hK.out _ _ (KS.out _ Bc.out) (fun h0_17 => ?_)
          clear hK K h0_2
          refine wpAnyH_ready (rs := [3]) (by kernel_rfl) (by simp) (AllReadyH.cons rfl (fun K hK => ?_) AllReadyH.nil)
          rw [if_pos (by rfl)]
          go_simp
          refine (LY.out _ (below_on E0.out Bc.out)).mono ?_
          rintro e wc ⟨g2, rfl, hg, hO, hb⟩
          have D := Lib.hid (show _ ∧ w0.heap.size ≤ g2 from ⟨D.out, Nat.le_trans Bc.out.size hg⟩)
          try (have D := Lib.hid (show _ ∧ b5 < g2 from ⟨D.out, by have := T5.out.lt; omega⟩))
          try (have D := Lib.hid (show _ ∧ b6 < g2 from ⟨D.out, by have := T6.out.lt; omega⟩))
          try (have D := Lib.hid (show _ ∧ g1 < g2 from ⟨D.out, by have := O1.out.lt; omega⟩))
          try (have O1 := Lib.hid (own_below O1.out hb))
          try (have T5 := Lib.hid (T5.out.kept hb))
          try (have T6 := Lib.hid (T6.out.kept hb))
          have Bc := Lib.hid (below_on Bc.out hb)
          have O2 := Lib.hid hO
          clear hO hb hg
          go_simp
          refine hK.out _ _ (KS.out _ Bc.out) (fun h0_21 => ?_)
          clear hK K h0_17
          refine wpAnyH_ready (rs := [6]) (by kernel_rfl) (by simp) (AllReadyH.cons rfl (fun K hK => ?_) AllReadyH.nil)
          rw [if_pos (by rfl)]
          obtain ⟨q0, q1, q2, q3⟩ := T5.out.facts
          go_simp
          have hput := T5.out.put (.int .i64 N) (.slice (some ⟨g1, 0, none⟩) l.length (l.length + 1))
          have hP := Lib.hid (far_below Bc.out (x := b5) (by have := D.out; omega) (.int .i64 N) (.slice (some ⟨g1, 0, none⟩) l.length (l.length + 1)))
          have O1 := Lib.hid (own_aside O1.out (b := b5) (by have := D.out; omega) (.int .i64 N) (.slice (some ⟨g1, 0, none⟩) l.length (l.length + 1)))
          have O2 := Lib.hid (own_aside O2.out (b := b5) (by have := D.out; omega) (.int .i64 N) (.slice (some ⟨g1, 0, none⟩) l.length (l.length + 1)))
          have T6 := Lib.hid (T6.out.aside (b' := b5) (by have := D.out; omega) (.int .i64 N) (.slice (some ⟨g1, 0, none⟩) l.length (l.length + 1)))
          have T5 := Lib.hid hput
          clear hput q0 q1 q2 q3
          generalize (wc.setCell ⟨b5, 0, none⟩ (.int .i64 N)).setCell ⟨b5, 1, none⟩ (.slice (some ⟨g1, 0, none⟩) l.length (l.length + 1)) = wc at *
          have Bc := hP
          clear hP
          refine hK.out _ _ (KS.out _ Bc.out) (fun h0_22 => ?_)
          clear hK K h0_21
          refine wpAnyH_ready (rs := [7]) (by kernel_rfl) (by simp) (AllReadyH.cons rfl (fun K hK => ?_) AllReadyH.nil)
          rw [if_pos (by rfl)]
          obtain ⟨q0, q1, q2, q3⟩ := T6.out.facts
          go_simp
          have hput := T6.out.put (.int .i64 M) (.slice (some ⟨g2, 0, none⟩) m.length (m.length + 1))
          have hP := Lib.hid (far_below Bc.out (x := b6) (by have := D.out; omega) (.int .i64 M) (.slice (some ⟨g2, 0, none⟩) m.length (m.length + 1)))
          have O1 := Lib.hid (own_aside O1.out (b := b6) (by have := D.out; omega) (.int .i64 M) (.slice (some ⟨g2, 0, none⟩) m.length (m.length + 1)))
          have O2 := Lib.hid (own_aside O2.out (b := b6) (by have := D.out; omega) (.int .i64 M) (.slice (some ⟨g2, 0, none⟩) m.length (m.length + 1)))
          have T5 := Lib.hid (T5.out.aside (b' := b6) (by have := D.out; omega) (.int .i64 M) (.slice (some ⟨g2, 0, none⟩) m.length (m.length + 1)))
          have T6 := Lib.hid hput
          clear hput q0 q1 q2 q3
          generalize (wc.setCell ⟨b6, 0, none⟩ (.int .i64 M)).setCell ⟨b6, 1, none⟩ (.slice (some ⟨g2, 0, none⟩) m.length (m.length + 1)) = wc at *
          have Bc := hP
          clear hP
          refine hK.out _ _ (KS.out _ Bc.out) (fun h0_23 => ?_)
          clear hK K h0_22
          refine wpAnyH_done (by kernel_rfl) ?_ _
          go_wp2_with fail
          go_meet
          case rel => exact ⟨b5, b6, g1, g2, rfl, rfl, Lib.hid ⟨T5.out, T6.out, O1.out, O2.out, Bc.out, by have := D.out; omega⟩⟩
    · rw [if_pos (by rfl)]
      go_simp
      obtain ⟨b5, hbk⟩ : ∃ b, b = wc.heap.size := ⟨_, rfl⟩
      rw [← hbk]
      have hmade := Two.made wc (.int .i64 0) (.slice none 0 0) 25
      rw [← hbk] at hmade
      have hone := one_more (w1 := wc) (.cells #[.int .i64 0, .slice none 0 0] 25)
      have D := Lib.hid (show _ ∧ w0.heap.size ≤ b5 from ⟨D.out, by have := Bc.out.size; omega⟩)
      try (have D := Lib.hid (show _ ∧ b6 < b5 from ⟨D.out, by have := T6.out.lt; omega⟩))
      try (have D := Lib.hid (show _ ∧ g1 < b5 from ⟨D.out, by have := O1.out.lt; omega⟩))
      try (have D := Lib.hid (show _ ∧ g2 < b5 from ⟨D.out, by have := O2.out.lt; omega⟩))
      try (have O1 := Lib.hid (own_below O1.out hone))
      try (have O2 := Lib.hid (own_below O2.out hone))
      try (have T6 := Lib.hid (T6.out.kept hone))
      have Bc := Lib.hid (below_on Bc.out hone)
      have T5 := Lib.hid hmade
      clear hmade hone hbk
      generalize wc.alloc (.cells #[.int .i64 0, .slice none 0 0] 25) = wc at *
      go_simp
      refine hK.out _ _ (KS.out _ Bc.out) (fun h0_1 => ?_)
      clear hK K h0
      refine wpAnyH_ready (rs := [1, 5]) (by kernel_rfl) (by simp) (AllReadyH.cons rfl (fun K hK => ?_) (AllReadyH.cons rfl (fun K hK => ?_) AllReadyH.nil))
      · rw [if_pos (by rfl)]
        go_simp
        refine (LX.out _ (below_on E0.out Bc.out)).mono ?_
        rintro e wc ⟨g1, rfl, hg, hO, hb⟩
        have D := Lib.hid (show _ ∧ w0.heap.size ≤ g1 from ⟨D.out, Nat.le_trans Bc.out.size hg⟩)
        try (have D := Lib.hid (show _ ∧ b5 < g1 from ⟨D.out, by have := T5.out.lt; omega⟩))
        try (have D := Lib.hid (show _ ∧ b6 < g1 from ⟨D.out, by have := T6.out.lt; omega⟩))
        try (have O2 := Lib.hid (own_below O2.out hb))
        try (have T5 := Lib.hid (T5.out.kept hb))
        try (have T6 := Lib.hid (T6.out.kept hb))
        have Bc := Lib.hid (below_on Bc.out hb)
        have O1 := Lib.hid hO
        clear hO hb hg
        go_simp
        refine hK.out _ _ (KS.out _ Bc.out) (fun h0_24 => ?_)
        clear hK K h0_1
        refine wpAnyH_ready (rs := [3, 5]) (by kernel_rfl) (by simp) (AllReadyH.cons rfl (fun K hK => ?_) (AllReadyH.cons rfl (fun K hK => ?_) AllReadyH.nil))
        · rw [if_pos (by rfl)]
          go_simp
          refine (LY.out _ (below_on E0.out Bc.out)).mono ?_
          rintro e wc ⟨g2, rfl, hg, hO, hb⟩
          have D := Lib.hid (show _ ∧ w0.heap.size ≤ g2 from ⟨D.out, Nat.le_trans Bc.out.size hg⟩)
          try (have D := Lib.hid (show _ ∧ b5 < g2 from ⟨D.out, by have := T5.out.lt; omega⟩))
          try (have D := Lib.hid (show _ ∧ b6 < g2 from ⟨D.out, by have := T6.out.lt; omega⟩))
          try (have D := Lib.hid (show _ ∧ g1 < g2 from ⟨D.out, by have := O1.out.lt; omega⟩))
          try (have O1 := Lib.hid (own_below O1.out hb))
          try (have T5 := Lib.hid (T5.out.kept hb))
          try (have T6 := Lib.hid (T6.out.kept hb))
          have Bc := Lib.hid (below_on Bc.out hb)
          have O2 := Lib.hid hO
          clear hO hb hg
          go_simp
          refine hK.out _ _ (KS.out _ Bc.out) (fun h0_25 => ?_)
          clear hK K h0_24
          refine wpAnyH_ready (rs := [5]) (by kernel_rfl) (by simp) (AllReadyH.cons rfl (fun K hK => ?_) AllReadyH.nil)
          rw [if_pos (by rfl)]
          go_simp
          obtain ⟨b6, hbk⟩ : ∃ b, b = wc.heap.size := ⟨_, rfl⟩
          rw [← hbk]
          have hmade := Two.made wc (.int .i64 0) (.slice none 0 0) 25
          rw [← hbk] at hmade
          have hone := one_more (w1 := wc) (.cells #[.int .i64 0, .slice none 0 0] 25)
          have D := Lib.hid (show _ ∧ w0.heap.size ≤ b6 from ⟨D.out, by have := Bc.out.size; omega⟩)
          try (have D := Lib.hid (show _ ∧ b5 < b6 from ⟨D.out, by have := T5.out.lt; omega⟩))
          try (have D := Lib.hid (show _ ∧ g1 < b6 from ⟨D.out, by have := O1.out.lt; omega⟩))
          try (have D := Lib.hid (show _ ∧ g2 < b6 from ⟨D.out, by have := O2.out.lt; omega⟩))
          try (have O1 := Lib.hid (own_below O1.out hone))
          try (have O2 := Lib.hid (own_below O2.out hone))
          try (have T5 := Lib.hid (T5.out.kept hone))
          have Bc := Lib.hid (below_on Bc.out hone)
          have T6 := Lib.hid hmade
          clear hmade hone hbk
          generalize wc.alloc (.cells #[.int .i64 0, .slice none 0 0] 25) = wc at *
          go_simp
          refine hK.out _ _ (KS.out _ Bc.out) (fun h0_26 => ?_)
          clear hK K h0_25
          refine wpAnyH_ready (rs := [6]) (by kernel_rfl) (by simp) (AllReadyH.cons rfl (fun K hK => ?_) AllReadyH.nil)
          rw [if_pos (by rfl)]
          obtain ⟨q0, q1, q2, q3⟩ := T5.out.facts
          go_simp
          have hput := T5.out.put (.int .i64 N) (.slice (some ⟨g1, 0, none⟩) l.length (l.length + 1))
          have hP := Lib.hid (far_below Bc.out (x := b5) (by have := D.out; omega) (.int .i64 N) (.slice (some ⟨g1, 0, none⟩) l.length (l.length + 1)))
          have O1 := Lib.hid (own_aside O1.out (b := b5) (by have := D.out; omega) (.int .i64 N) (.slice (some ⟨g1, 0, none⟩) l.length (l.length + 1)))
          have O2 := Lib.hid (own_aside O2.out (b := b5) (by have := D.out; omega) (.int .i64 N) (.slice (some ⟨g1, 0, none⟩) l.length (l.length + 1)))
          have T6 := Lib.hid (T6.out.aside (b' := b5) (by have := D.out; omega) (.int .i64 N) (.slice (some ⟨g1, 0, none⟩) l.length (l.length + 1)))
          have T5 := Lib.hid hput
          clear hput q0 q1 q2 q3
          generalize (wc.setCell ⟨b5, 0, none⟩ (.int .i64 N)).setCell ⟨b5, 1, none⟩ (.slice (some ⟨g1, 0, none⟩) l.length (l.length + 1)) = wc at *
          have Bc := hP
          clear hP
          refine hK.out _ _ (KS.out _ Bc.out) (fun h0_27 => ?_)
          clear hK K h0_26
          refine wpAnyH_ready (rs := [7]) (by kernel_rfl) (by simp) (AllReadyH.cons rfl (fun K hK => ?_) AllReadyH.nil)
          rw [if_pos (by rfl)]
          obtain ⟨q0, q1, q2, q3⟩ := T6.out.facts
          go_simp
          have hput := T6.out.put (.int .i64 M) (.slice (some ⟨g2, 0, none⟩) m.length (m.length + 1))
          have hP := Lib.hid (far_below Bc.out (x := b6) (by have := D.out; omega) (.int .i64 M) (.slice (some ⟨g2, 0, none⟩) m.length (m.length + 1)))
          have O1 := Lib.hid (own_aside O1.out (b := b6) (by have := D.out; omega) (.int .i64 M) (.slice (some ⟨g2, 0, none⟩) m.length (m.length + 1)))
          have O2 := Lib.hid (own_aside O2.out (b := b6) (by have := D.out; omega) (.int .i64 M) (.slice (some ⟨g2, 0, none⟩) m.length (m.length + 1)))
          have T5 := Lib.hid (T5.out.aside (b' := b6) (by have := D.out; omega) (.int .i64 M) (.slice (some ⟨g2, 0, none⟩) m.length (m.length + 1)))
          have T6 := Lib.hid hput
          clear hput q0 q1 q2 q3
          generalize (wc.setCell ⟨b6, 0, none⟩ (.int .i64 M)).setCell ⟨b6, 1, none⟩ (.slice (some ⟨g2, 0, none⟩) m.length (m.length + 1)) = wc at *
          have Bc := hP
          clear hP
          refine hK.out _ _ (KS.out _ Bc.out) (fun h0_28 => ?_)
          clear hK K h0_27
          refine wpAnyH_done (by kernel_rfl) ?_ _
          go_wp2_with fail
          go_meet
          case rel => exact ⟨b5, b6, g1, g2, rfl, rfl, Lib.hid ⟨T5.out, T6.out, O1.out, O2.out, Bc.out, by have := D.out; omega⟩⟩
        · rw [if_pos (by rfl)]
          go_simp
          obtain ⟨b6, hbk⟩ : ∃ b, b = wc.heap.size := ⟨_, rfl⟩
          rw [← hbk]
          have hmade := Two.made wc (.int .i64 0) (.slice none 0 0) 25
          rw [← hbk] at hmade
          have hone := one_more (w1 := wc) (.cells #[.int .i64 0, .slice none 0 0] 25)
          have D := Lib.hid (show _ ∧ w0.heap.size ≤ b6 from ⟨D.out, by have := Bc.out.size; omega⟩)
          try (have D := Lib.hid (show _ ∧ b5 < b6 from ⟨D.out, by have := T5.out.lt; omega⟩))
          try (have D := Lib.hid (show _ ∧ g1 < b6 from ⟨D.out, by have := O1.out.lt; omega⟩))
          try (have D := Lib.hid (show _ ∧ g2 < b6 from ⟨D.out, by have := O2.out.lt; omega⟩))
          try (have O1 := Lib.hid (own_below O1.out hone))
          try (have O2 := Lib.hid (own_below O2.out hone))
          try (have T5 := Lib.hid (T5.out.kept hone))
          have Bc := Lib.hid (below_on Bc.out hone)
          have T6 := Lib.hid hmade
          clear hmade hone hbk
          generalize wc.alloc (.cells #[.int .i64 0, .slice none 0 0] 25) = wc at *
          go_simp
          refine hK.out _ _ (KS.out _ Bc.out) (fun h0_25 => ?_)
          clear hK K h0_24
          refine wpAnyH_ready (rs := [3]) (by kernel_rfl) (by simp) (AllReadyH.cons rfl (fun K hK => ?_) AllReadyH.nil)
          rw [if_pos (by rfl)]
          go_simp
          refine (LY.out _ (below_on E0.out Bc.out)).mono ?_
          rintro e wc ⟨g2, rfl, hg, hO, hb⟩
          have D := Lib.hid (show _ ∧ w0.heap.size ≤ g2 from ⟨D.out, Nat.le_trans Bc.out.size hg⟩)
          try (have D := Lib.hid (show _ ∧ b5 < g2 from ⟨D.out, by have := T5.out.lt; omega⟩))
          try (have D := Lib.hid (show _ ∧ b6 < g2 from ⟨D.out, by have := T6.out.lt; omega⟩))
          try (have D := Lib.hid (show _ ∧ g1 < g2 from ⟨D.out, by have := O1.out.lt; omega⟩))
          try (have O1 := Lib.hid (own_below O1.out hb))
          try (have T5 := Lib.hid (T5.out.kept hb))
          try (have T6 := Lib.hid (T6.out.kept hb))
          have Bc := Lib.hid (below_on Bc.out hb)
          have O2 := Lib.hid hO
          clear hO hb hg
          go_simp
          refine hK.out _ _ (KS.out _ Bc.out) (fun h0_29 => ?_)
          clear hK K h0_25
          refine wpAnyH_ready (rs := [6]) (by kernel_rfl) (by simp) (AllReadyH.cons rfl (fun K hK => ?_) AllReadyH.nil)
          rw [if_pos (by rfl)]
          obtain ⟨q0, q1, q2, q3⟩ := T5.out.facts
          go_simp
          have hput := T5.out.put (.int .i64 N) (.slice (some ⟨g1, 0, none⟩) l.length (l.length + 1))
          have hP := Lib.hid (far_below Bc.out (x := b5) (by have := D.out; omega) (.int .i64 N) (.slice (some ⟨g1, 0, none⟩) l.length (l.length + 1)))
          have O1 := Lib.hid (own_aside O1.out (b := b5) (by have := D.out; omega) (.int .i64 N) (.slice (some ⟨g1, 0, none⟩) l.length (l.length + 1)))
          have O2 := Lib.hid (own_aside O2.out (b := b5) (by have := D.out; omega) (.int .i64 N) (.slice (some ⟨g1, 0, none⟩) l.length (l.length + 1)))
          have T6 := Lib.hid (T6.out.aside (b' := b5) (by have := D.out; omega) (.int .i64 N) (.slice (some ⟨g1, 0, none⟩) l.length (l.length + 1)))
          have T5 := Lib.hid hput
          clear hput q0 q1 q2 q3
          generalize (wc.setCell ⟨b5, 0, none⟩ (.int .i64 N)).setCell ⟨b5, 1, none⟩ (.slice (some ⟨g1, 0, none⟩) l.length (l.length + 1)) = wc at *
          have Bc := hP
          clear hP
          refine hK.out _ _ (KS.out _ Bc.out) (fun h0_30 => ?_)
          clear hK K h0_29
          refine wpAnyH_ready (rs := [7]) (by kernel_rfl) (by simp) (AllReadyH.cons rfl (fun K hK => ?_) AllReadyH.nil)
          rw [if_pos (by rfl)]
          obtain ⟨q0, q1, q2, q3⟩ := T6.out.facts
          go_simp
          have hput := T6.out.put (.int .i64 M) (.slice (some ⟨g2, 0, none⟩) m.length (m.length + 1))
          have hP := Lib.hid (far_below Bc.out (x := b6) (by have := D.out; omega) (.int .i64 M) (.slice (some ⟨g2, 0, none⟩) m.length (m.length + 1)))
          have O1 := Lib.hid (own_aside O1.out (b := b6) (by have := D.out; omega) (.int .i64 M) (.slice (some ⟨g2, 0, none⟩) m.length (m.length + 1)))
          have O2 := Lib.hid (own_aside O2.out (b := b6) (by have := D.out; omega) (.int .i64 M) (.slice (some ⟨g2, 0, none⟩) m.length (m.length + 1)))
          have T5 := Lib.hid (T5.out.aside (b' := b6) (by have := D.out; omega) (.int .i64 M) (.slice (some ⟨g2, 0, none⟩) m.length (m.length + 1)))
          have T6 := Lib.hid hput
          clear hput q0 q1 q2 q3
          generalize (wc.setCell ⟨b6, 0, none⟩ (.int .i64 M)).setCell ⟨b6, 1, none⟩ (.slice (some ⟨g2, 0, none⟩) m.length (m.length + 1)) = wc at *
          have Bc := hP
          clear hP
          refine hK.out _ _ (KS.out _ Bc.out) (fun h0_31 => ?_)
          clear hK K h0_30
          refine wpAnyH_done (by kernel_rfl) ?_ _
          go_wp2_with fail
          go_meet
          case rel => exact ⟨b5, b6, g1, g2, rfl, rfl, Lib.hid ⟨T5.out, T6.out, O1.out, O2.out, Bc.out, by have := D.out; omega⟩⟩
      · rw [if_pos (by rfl)]
        go_simp
        obtain ⟨b6, hbk⟩ : ∃ b, b = wc.heap.size := ⟨_, rfl⟩
        rw [← hbk]
        have hmade := Two.made wc (.int .i64 0) (.slice none 0 0) 25
        rw [← hbk] at hmade
        have hone := one_more (w1 := wc) (.cells #[.int .i64 0, .slice none 0 0] 25)
        have D := Lib.hid (show _ ∧ w0.heap.size ≤ b6 from ⟨D.out, by have := Bc.out.size; omega⟩)
        try (have D := Lib.hid (show _ ∧ b5 < b6 from ⟨D.out, by have := T5.out.lt; omega⟩))
        try (have D := Lib.hid (show _ ∧ g1 < b6 from ⟨D.out, by have := O1.out.lt; omega⟩))
        try (have D := Lib.hid (show _ ∧ g2 < b6 from ⟨D.out, by have := O2.out.lt; omega⟩))
        try (have O1 := Lib.hid (own_below O1.out hone))
        try (have O2 := Lib.hid (own_below O2.out hone))
        try (have T5 := Lib.hid (T5.out.kept hone))
        have Bc := Lib.hid (below_on Bc.out hone)
        have T6 := Lib.hid hmade
        clear hmade hone hbk
        generalize wc.alloc (.cells #[.int .i64 0, .slice none 0 0] 25) = wc at *
        go_simp
        refine hK.out _ _ (KS.out _ Bc.out) (fun h0_24 => ?_)
        clear hK K h0_1
        refine wpAnyH_ready (rs := [1]) (by kernel_rfl) (by simp) (AllReadyH.cons rfl (fun K hK => ?_) AllReadyH.nil)
        rw [if_pos (by rfl)]
        go_simp
        refine (LX.out _ (below_on E0.out Bc.out)).mono ?_
        rintro e wc ⟨g1, rfl, hg, hO, hb⟩
        have D := Lib.hid (show _ ∧ w0.heap.size ≤ g1 from ⟨D.out, Nat.le_trans Bc.out.size hg⟩)
        try (have D := Lib.hid (show _ ∧ b5 < g1 from ⟨D.out, by have := T5.out.lt; omega⟩))
        try (have D := Lib.hid (show _ ∧ b6 < g1 from ⟨D.out, by have := T6.out.lt; omega⟩))
        try (have O2 := Lib.hid (own_below O2.out hb))
        try (have T5 := Lib.hid (T5.out.kept hb))
        try (have T6 := Lib.hid (T6.out.kept hb))
        have Bc := Lib.hid (below_on Bc.out hb)
        have O1 := Lib.hid hO
        clear hO hb hg
        go_simp
        refine hK.out _ _ (KS.out _ Bc.out) (fun h0_32 => ?_)
        clear hK K h0_24
        refine wpAnyH_ready (rs := [3]) (by kernel_rfl) (by simp) (AllReadyH.cons rfl (fun K hK => ?_) AllReadyH.nil)
        rw [if_pos (by rfl)]
        go_simp
        refine (LY.out _ (below_on E0.out Bc.out)).mono ?_
        rintro e wc ⟨g2, rfl, hg, hO, hb⟩
        have D := Lib.hid (show _ ∧ w0.heap.size ≤ g2 from ⟨D.out, Nat.le_trans Bc.out.size hg⟩)
        try (have D := Lib.hid (show _ ∧ b5 < g2 from ⟨D.out, by have := T5.out.lt; omega⟩))
        try (have D := Lib.hid (show _ ∧ b6 < g2 from ⟨D.out, by have := T6.out.lt; omega⟩))
        try (have D := Lib.hid (show _ ∧ g1 < g2 from ⟨D.out, by have := O1.out.lt; omega⟩))
        try (have O1 := Lib.hid (own_below O1.out hb))
        try (have T5 := Lib.hid (T5.out.kept hb))
        try (have T6 := Lib.hid (T6.out.kept hb))
        have Bc := Lib.hid (below_on Bc.out hb)
        have O2 := Lib.hid hO
        clear hO hb hg
        go_simp
        refine hK.out _ _ (KS.out _ Bc.out) (fun h0_33 => ?_)
        clear hK K h0_32
        refine wpAnyH_ready (rs := [6]) (by kernel_rfl) (by simp) (AllReadyH.cons rfl (fun K hK => ?_) AllReadyH.nil)
        rw [if_pos (by rfl)]
        obtain ⟨q0, q1, q2, q3⟩ := T5.out.facts
        go_simp
        have hput := T5.out.put (.int .i64 N) (.slice (some ⟨g1, 0, none⟩) l.length (l.length + 1))
        have hP := Lib.hid (far_below Bc.out (x := b5) (by have := D.out; omega) (.int .i64 N) (.slice (some ⟨g1, 0, none⟩) l.length (l.length + 1)))
        have O1 := Lib.hid (own_aside O1.out (b := b5) (by have := D.out; omega) (.int .i64 N) (.slice (some ⟨g1, 0, none⟩) l.length (l.length + 1)))
        have O2 := Lib.hid (own_aside O2.out (b := b5) (by have := D.out; omega) (.int .i64 N) (.slice (some ⟨g1, 0, none⟩) l.length (l.length + 1)))
        have T6 := Lib.hid (T6.out.aside (b' := b5) (by have := D.out; omega) (.int .i64 N) (.slice (some ⟨g1, 0, none⟩) l.length (l.length + 1)))
        have T5 := Lib.hid hput
        clear hput q0 q1 q2 q3
        generalize (wc.setCell ⟨b5, 0, none⟩ (.int .i64 N)).setCell ⟨b5, 1, none⟩ (.slice (some ⟨g1, 0, none⟩) l.length (l.length + 1)) = wc at *
        have Bc := hP
        clear hP
        refine hK.out _ _ (KS.out _ Bc.out) (fun h0_34 => ?_)
        clear hK K h0_33
        refine wpAnyH_ready (rs := [7]) (by kernel_rfl) (by simp) (AllReadyH.cons rfl (fun K hK => ?_) AllReadyH.nil)
        rw [if_pos (by rfl)]
        obtain ⟨q0, q1, q2, q3⟩ := T6.out.facts
        go_simp
        have hput := T6.out.put (.int .i64 M) (.slice (some ⟨g2, 0, none⟩) m.length (m.length + 1))
        have hP := Lib.hid (far_below Bc.out (x := b6) (by have := D.out; omega) (.int .i64 M) (.slice (some ⟨g2, 0, none⟩) m.length (m.length + 1)))
        have O1 := Lib.hid (own_aside O1.out (b := b6) (by have := D.out; omega) (.int .i64 M) (.slice (some ⟨g2, 0, none⟩) m.length (m.length + 1)))
        have O2 := Lib.hid (own_aside O2.out (b := b6) (by have := D.out; omega) (.int .i64 M) (.slice (some ⟨g2, 0, none⟩) m.length (m.length + 1)))
        have T5 := Lib.hid (T5.out.aside (b' := b6) (by have := D.out; omega) (.int .i64 M) (.slice (some ⟨g2, 0, none⟩) m.length (m.length + 1)))
        have T6 := Lib.hid hput
        clear hput q0 q1 q2 q3
        generalize (wc.setCell ⟨b6, 0, none⟩ (.int .i64 M)).setCell ⟨b6, 1, none⟩ (.slice (some ⟨g2, 0, none⟩) m.length (m.length + 1)) = wc at *
        have Bc := hP
        clear hP
        refine hK.out _ _ (KS.out _ Bc.out) (fun h0_35 => ?_)
        clear hK K h0_34
        refine wpAnyH_done (by kernel_rfl) ?_ _
        go_wp2_with fail
        go_meet
        case rel => exact ⟨b5, b6, g1, g2, rfl, rfl, Lib.hid ⟨T5.out, T6.out, O1.out, O2.out, Bc.out, by have := D.out; omega⟩⟩
    · rw [if_pos (by rfl)]
      go_simp
      obtain ⟨b6, hbk⟩ : ∃ b, b = wc.heap.size := ⟨_, rfl⟩
      rw [← hbk]
      have hmade := Two.made wc (.int .i64 0) (.slice none 0 0) 25
      rw [← hbk] at hmade
      have hone := one_more (w1 := wc) (.cells #[.int .i64 0, .slice none 0 0] 25)
      have D := Lib.hid (show _ ∧ w0.heap.size ≤ b6 from ⟨D.out, by have := Bc.out.size; omega⟩)
      try (have D := Lib.hid (show _ ∧ b5 < b6 from ⟨D.out, by have := T5.out.lt; omega⟩))
      try (have D := Lib.hid (show _ ∧ g1 < b6 from ⟨D.out, by have := O1.out.lt; omega⟩))
      try (have D := Lib.hid (show _ ∧ g2 < b6 from ⟨D.out, by have := O2.out.lt; omega⟩))
      try (have O1 := Lib.hid (own_below O1.out hone))
      try (have O2 := Lib.hid (own_below O2.out hone))
      try (have T5 := Lib.hid (T5.out.kept hone))
      have Bc := Lib.hid (below_on Bc.out hone)
      have T6 := Lib.hid hmade
      clear hmade hone hbk
      generalize wc.alloc (.cells #[.int .i64 0, .slice none 0 0] 25) = wc at *
      go_simp
      refine hK.out _ _ (KS.out _ Bc.out) (fun h0_1 => ?_)
      clear hK K h0
      refine wpAnyH_ready (rs := [1, 4]) (by kernel_rfl) (by simp) (AllReadyH.cons rfl (fun K hK => ?_) (AllReadyH.cons rfl (fun K hK => ?_) AllReadyH.nil))
      · rw [if_pos (by rfl)]
        go_simp
        refine (LX.out _ (below_on E0.out Bc.out)).mono ?_
        rintro e wc ⟨g1, rfl, hg, hO, hb⟩
        have D := Lib.hid (show _ ∧ w0.heap.size ≤ g1 from ⟨D.out, Nat.le_trans Bc.out.size hg⟩)
        try (have D := Lib.hid (show _ ∧ b5 < g1 from ⟨D.out, by have := T5.out.lt; omega⟩))
        try (have D := Lib.hid (show _ ∧ b6 < g1 from ⟨D.out, by have := T6.out.lt; omega⟩))
        try (have O2 := Lib.hid (own_below O2.out hb))
        try (have T5 := Lib.hid (T5.out.kept hb))
        try (have T6 := Lib.hid (T6.out.kept hb))
        have Bc := Lib.hid (below_on Bc.out hb)
        have O1 := Lib.hid hO
        clear hO hb hg
        go_simp
        refine hK.out _ _ (KS.out _ Bc.out) (fun h0_36 => ?_)
        clear hK K h0_1
        refine wpAnyH_ready (rs := [3, 4]) (by kernel_rfl) (by simp) (AllReadyH.cons rfl (fun K hK => ?_) (AllReadyH.cons rfl (fun K hK => ?_) AllReadyH.nil))
        · rw [if_pos (by rfl)]
          go_simp
          refine (LY.out _ (below_on E0.out Bc.out)).mono ?_
          rintro e wc ⟨g2, rfl, hg, hO, hb⟩
          have D := Lib.hid (show _ ∧ w0.heap.size ≤ g2 from ⟨D.out, Nat.le_trans Bc.out.size hg⟩)
          try (have D := Lib.hid (show _ ∧ b5 < g2 from ⟨D.out, by have := T5.out.lt; omega⟩))
          try (have D := Lib.hid (show _ ∧ b6 < g2 from ⟨D.out, by have := T6.out.lt; omega⟩))
          try (have D := Lib.hid (show _ ∧ g1 < g2 from ⟨D.out, by have := O1.out.lt; omega⟩))
          try (have O1 := Lib.hid (own_below O1.out hb))
          try (have T5 := Lib.hid (T5.out.kept hb))
          try (have T6 := Lib.hid (T6.out.kept hb))
          have Bc := Lib.hid (below_on Bc.out hb)
          have O2 := Lib.hid hO
          clear hO hb hg
          go_simp
          refine hK.out _ _ (KS.out _ Bc.out) (fun h0_37 => ?_)
          clear hK K h0_36
          refine wpAnyH_ready (rs := [4]) (by kernel_rfl) (by simp) (AllReadyH.cons rfl (fun K hK => ?_) AllReadyH.nil)
          rw [if_pos (by rfl)]
          go_simp
          obtain ⟨b5, hbk⟩ : ∃ b, b = wc.heap.size := ⟨_, rfl⟩
          rw [← hbk]
          have hmade := Two.made wc (.int .i64 0) (.slice none 0 0) 25
          rw [← hbk] at hmade
          have hone := one_more (w1 := wc) (.cells #[.int .i64 0, .slice none 0 0] 25)
          have D := Lib.hid (show _ ∧ w0.heap.size ≤ b5 from ⟨D.out, by have := Bc.out.size; omega⟩)
          try (have D := Lib.hid (show _ ∧ b6 < b5 from ⟨D.out, by have := T6.out.lt; omega⟩))
          try (have D := Lib.hid (show _ ∧ g1 < b5 from ⟨D.out, by have := O1.out.lt; omega⟩))
          try (have D := Lib.hid (show _ ∧ g2 < b5 from ⟨D.out, by have := O2.out.lt; omega⟩))
          try (have O1 := Lib.hid (own_below O1.out hone))
          try (have O2 := Lib.hid (own_below O2.out hone))
          try (have T6 := Lib.hid (T6.out.kept hone))
          have Bc := Lib.hid (below_on Bc.out hone)
          have T5 := Lib.hid hmade
          clear hmade hone hbk
          generalize wc.alloc (.cells #[.int .i64 0, .slice none 0 0] 25) = wc at *
          go_simp
          refine hK.out _ _ (KS.out _ Bc.out) (fun h0_38 => ?_)
          clear hK K h0_37
          refine wpAnyH_ready (rs := [6]) (by kernel_rfl) (by simp) (AllReadyH.cons rfl (fun K hK => ?_) AllReadyH.nil)
          rw [if_pos (by rfl)]
          obtain ⟨q0, q1, q2, q3⟩ := T5.out.facts
          go_simp
          have hput := T5.out.put (.int .i64 N) (.slice (some ⟨g1, 0, none⟩) l.length (l.length + 1))
          have hP := Lib.hid (far_below Bc.out (x := b5) (by have := D.out; omega) (.int .i64 N) (.slice (some ⟨g1, 0, none⟩) l.length (l.length + 1)))
          have O1 := Lib.hid (own_aside O1.out (b := b5) (by have := D.out; omega) (.int .i64 N) (.slice (some ⟨g1, 0, none⟩) l.length (l.length + 1)))
          have O2 := Lib.hid (own_aside O2.out (b := b5) (by have := D.out; omega) (.int .i64 N) (.slice (some ⟨g1, 0, none⟩) l.length (l.length + 1)))
          have T6 := Lib.hid (T6.out.aside (b' := b5) (by have := D.out; omega) (.int .i64 N) (.slice (some ⟨g1, 0, none⟩) l.length (l.length + 1)))
          have T5 := Lib.hid hput
          clear hput q0 q1 q2 q3
          generalize (wc.setCell ⟨b5, 0, none⟩ (.int .i64 N)).setCell ⟨b5, 1, none⟩ (.slice (some ⟨g1, 0, none⟩) l.length (l.length + 1)) = wc at *
          have Bc := hP
          clear hP
          refine hK.out _ _ (KS.out _ Bc.out) (fun h0_39 => ?_)
          clear hK K h0_38
          refine wpAnyH_ready (rs := [7]) (by kernel_rfl) (by simp) (AllReadyH.cons rfl (fun K hK => ?_) AllReadyH.nil)
          rw [if_pos (by rfl)]
          obtain ⟨q0, q1, q2, q3⟩ := T6.out.facts
          go_simp
          have hput := T6.out.put (.int .i64 M) (.slice (some ⟨g2, 0, none⟩) m.length (m.length + 1))
          have hP := Lib.hid (far_below Bc.out (x := b6) (by have := D.out; omega) (.int .i64 M) (.slice (some ⟨g2, 0, none⟩) m.length (m.length + 1)))
          have O1 := Lib.hid (own_aside O1.out (b := b6) (by have := D.out; omega) (.int .i64 M) (.slice (some ⟨g2, 0, none⟩) m.length (m.length + 1)))
          have O2 := Lib.hid (own_aside O2.out (b := b6) (by have := D.out; omega) (.int .i64 M) (.slice (some ⟨g2, 0, none⟩) m.length (m.length + 1)))
          have T5 := Lib.hid (T5.out.aside (b' := b6) (by have := D.out; omega) (.int .i64 M) (.slice (some ⟨g2, 0, none⟩) m.length (m.length + 1)))
          have T6 := Lib.hid hput
          clear hput q0 q1 q2 q3
          generalize (wc.setCell ⟨b6, 0, none⟩ (.int .i64 M)).setCell ⟨b6, 1, none⟩ (.slice (some ⟨g2, 0, none⟩) m.length (m.length + 1)) = wc at *
          have Bc := hP
          clear hP
          refine hK.out _ _ (KS.out _ Bc.out) (fun h0_40 => ?_)
          clear hK K h0_39
          refine wpAnyH_done (by kernel_rfl) ?_ _
          go_wp2_with fail
          go_meet
          case rel => exact ⟨b5, b6, g1, g2, rfl, rfl, Lib.hid ⟨T5.out, T6.out, O1.out, O2.out, Bc.out, by have := D.out; omega⟩⟩
        · rw [if_pos (by rfl)]
          go_simp
          obtain ⟨b5, hbk⟩ : ∃ b, b = wc.heap.size := ⟨_, rfl⟩
          rw [← hbk]
          have hmade := Two.made wc (.int .i64 0) (.slice none 0 0) 25
          rw [← hbk] at hmade
          have hone := one_more (w1 := wc) (.cells #[.int .i64 0, .slice none 0 0] 25)
          have D := Lib.hid (show _ ∧ w0.heap.size ≤ b5 from ⟨D.out, by have := Bc.out.size; omega⟩)
          try (have D := Lib.hid (show _ ∧ b6 < b5 from ⟨D.out, by have := T6.out.lt; omega⟩))
          try (have D := Lib.hid (show _ ∧ g1 < b5 from ⟨D.out, by have := O1.out.lt; omega⟩))
          try (have D := Lib.hid (show _ ∧ g2 < b5 from ⟨D.out, by have := O2.out.lt; omega⟩))
          try (have O1 := Lib.hid (own_below O1.out hone))
          try (have O2 := Lib.hid (own_below O2.out hone))
          try (have T6 := Lib.hid (T6.out.kept hone))
          have Bc := Lib.hid (below_on Bc.out hone)
          have T5 := Lib.hid hmade
          clear hmade hone hbk
          generalize wc.alloc (.cells #[.int .i64 0, .slice none 0 0] 25) = wc at *
          go_simp
          refine hK.out _ _ (KS.out _ Bc.out) (fun h0_37 => ?_)
          clear hK K h0_36
          refine wpAnyH_ready (rs := [3]) (by kernel_rfl) (by simp) (AllReadyH.cons rfl (fun K hK => ?_) AllReadyH.nil)
          rw [if_pos (by rfl)]
          go_simp
          refine (LY.out _ (below_on E0.out Bc.out)).mono ?_
          rintro e wc ⟨g2, rfl, hg, hO, hb⟩
          have D := Lib.hid (show _ ∧ w0.heap.size ≤ g2 from ⟨D.out, Nat.le_trans Bc.out.size hg⟩)
          try (have D := Lib.hid (show _ ∧ b5 < g2 from ⟨D.out, by have := T5.out.lt; omega⟩))
          try (have D := Lib.hid (show _ ∧ b6 < g2 from ⟨D.out, by have := T6.out.lt; omega⟩))
          try (have D := Lib.hid (show _ ∧ g1 < g2 from ⟨D.out, by have := O1.out.lt; omega⟩))
          try (have O1 := Lib.hid (own_below O1.out hb))
          try (have T5 := Lib.hid (T5.out.kept hb))
          try (have T6 := Lib.hid (T6.out.kept hb))
          have Bc := Lib.hid (below_on Bc.out hb)
          have O2 := Lib.hid hO
          clear hO hb hg
          go_simp
          refine hK.out _ _ (KS.out _ Bc.out) (fun h0_41 => ?_)
          clear hK K h0_37
          refine wpAnyH_ready (rs := [6]) (by kernel_rfl) (by simp) (AllReadyH.cons rfl (fun K hK => ?_) AllReadyH.nil)
          rw [if_pos (by rfl)]
          obtain ⟨q0, q1, q2, q3⟩ := T5.out.facts
          go_simp
          have hput := T5.out.put (.int .i64 N) (.slice (some ⟨g1, 0, none⟩) l.length (l.length + 1))
          have hP := Lib.hid (far_below Bc.out (x := b5) (by have := D.out; omega) (.int .i64 N) (.slice (some ⟨g1, 0, none⟩) l.length (l.length + 1)))
          have O1 := Lib.hid (own_aside O1.out (b := b5) (by have := D.out; omega) (.int .i64 N) (.slice (some ⟨g1, 0, none⟩) l.length (l.length + 1)))
          have O2 := Lib.hid (own_aside O2.out (b := b5) (by have := D.out; omega) (.int .i64 N) (.slice (some ⟨g1, 0, none⟩) l.length (l.length + 1)))
          have T6 := Lib.hid (T6.out.aside (b' := b5) (by have := D.out; omega) (.int .i64 N) (.slice (some ⟨g1, 0, none⟩) l.length (l.length + 1)))
          have T5 := Lib.hid hput
          clear hput q0 q1 q2 q3
          generalize (wc.setCell ⟨b5, 0, none⟩ (.int .i64 N)).setCell ⟨b5, 1, none⟩ (.slice (some ⟨g1, 0, none⟩) l.length (l.length + 1)) = wc at *
          have Bc := hP
          clear hP
          refine hK.out _ _ (KS.out _ Bc.out) (fun h0_42 => ?_)
          clear hK K h0_41
          refine wpAnyH_ready (rs := [7]) (by kernel_rfl) (by simp) (AllReadyH.cons rfl (fun K hK => ?_) AllReadyH.nil)
          rw [if_pos (by rfl)]
          obtain ⟨q0, q1, q2, q3⟩ := T6.out.facts
          go_simp
          have hput := T6.out.put (.int .i64 M) (.slice (some ⟨g2, 0, none⟩) m.length (m.length + 1))
          have hP := Lib.hid (far_below Bc.out (x := b6) (by have := D.out; omega) (.int .i64 M) (.slice (some ⟨g2, 0, none⟩) m.length (m.length + 1)))
          have O1 := Lib.hid (own_aside O1.out (b := b6) (by have := D.out; omega) (.int .i64 M) (.slice (some ⟨g2, 0, none⟩) m.length (m.length + 1)))
          have O2 := Lib.hid (own_aside O2.out (b := b6) (by have := D.out; omega) (.int .i64 M) (.slice (some ⟨g2, 0, none⟩) m.length (m.length + 1)))
          have T5 := Lib.hid (T5.out.aside (b' := b6) (by have := D.out; omega) (.int .i64 M) (.slice (some ⟨g2, 0, none⟩) m.length (m.length + 1)))
          have T6 := Lib.hid hput
          clear hput q0 q1 q2 q3
          generalize (wc.setCell ⟨b6, 0, none⟩ (.int .i64 M)).setCell ⟨b6, 1, none⟩ (.slice (some ⟨g2, 0, none⟩) m.length (m.length + 1)) = wc at *
          have Bc := hP
          clear hP
          refine hK.out _ _ (KS.out _ Bc.out) (fun h0_43 => ?_)
          clear hK K h0_42
          refine wpAnyH_done (by kernel_rfl) ?_ _
          go_wp2_with fail
          go_meet
          case rel => exact ⟨b5, b6, g1, g2, rfl, rfl, Lib.hid ⟨T5.out, T6.out, O1.out, O2.out, Bc.out, by have := D.out; omega⟩⟩
      · rw [if_pos (by rfl)]
        go_simp
        obtain ⟨b5, hbk⟩ : ∃ b, b = wc.heap.size := ⟨_, rfl⟩
        rw [← hbk]
        have hmade := Two.made wc (.int .i64 0) (.slice none 0 0) 25
        rw [← hbk] at hmade
        have hone := one_more (w1 := wc) (.cells #[.int .i64 0, .slice none 0 0] 25)
        have D := Lib.hid (show _ ∧ w0.heap.size ≤ b5 from ⟨D.out, by have := Bc.out.size; omega⟩)
        try (have D := Lib.hid (show _ ∧ b6 < b5 from ⟨D.out, by have := T6.out.lt; omega⟩))
        try (have D := Lib.hid (show _ ∧ g1 < b5 from ⟨D.out, by have := O1.out.lt; omega⟩))
        try (have D := Lib.hid (show _ ∧ g2 < b5 from ⟨D.out, by have := O2.out.lt; omega⟩))
        try (have O1 := Lib.hid (own_below O1.out hone))
        try (have O2 := Lib.hid (own_below O2.out hone))
        try (have T6 := Lib.hid (T6.out.kept hone))
        have Bc := Lib.hid (below_on Bc.out hone)
        have T5 := Lib.hid hmade
        clear hmade hone hbk
        generalize wc.alloc (.cells #[.int .i64 0, .slice none 0 0] 25) = wc at *
        go_simp
        refine hK.out _ _ (KS.out _ Bc.out) (fun h0_36 => ?_)
        clear hK K h0_1
        refine wpAnyH_ready (rs := [1]) (by kernel_rfl) (by simp) (AllReadyH.cons rfl (fun K hK => ?_) AllReadyH.nil)
        rw [if_pos (by rfl)]
        go_simp
        refine (LX.out _ (below_on E0.out Bc.out)).mono ?_
        rintro e wc ⟨g1, rfl, hg, hO, hb⟩
        have D := Lib.hid (show _ ∧ w0.heap.size ≤ g1 from ⟨D.out, Nat.le_trans Bc.out.size hg⟩)
        try (have D := Lib.hid (show _ ∧ b5 < g1 from ⟨D.out, by have := T5.out.lt; omega⟩))
        try (have D := Lib.hid (show _ ∧ b6 < g1 from ⟨D.out, by have := T6.out.lt; omega⟩))
        try (have O2 := Lib.hid (own_below O2.out hb))
        try (have T5 := Lib.hid (T5.out.kept hb))
        try (have T6 := Lib.hid (T6.out.kept hb))
        have Bc := Lib.hid (below_on Bc.out hb)
        have O1 := Lib.hid hO
        clear hO hb hg
        go_simp
        refine hK.out _ _ (KS.out _ Bc.out) (fun h0_44 => ?_)
        clear hK K h0_36
        refine wpAnyH_ready (rs := [3]) (by kernel_rfl) (by simp) (AllReadyH.cons rfl (fun K hK => ?_) AllReadyH.nil)
        rw [if_pos (by rfl)]
        go_simp
        refine (LY.out _ (below_on E0.out Bc.out)).mono ?_
        rintro e wc ⟨g2, rfl, hg, hO, hb⟩
        have D := Lib.hid (show _ ∧ w0.heap.size ≤ g2 from ⟨D.out, Nat.le_trans Bc.out.size hg⟩)
        try (have D := Lib.hid (show _ ∧ b5 < g2 from ⟨D.out, by have := T5.out.lt; omega⟩))
        try (have D := Lib.hid (show _ ∧ b6 < g2 from ⟨D.out, by have := T6.out.lt; omega⟩))
        try (have D := Lib.hid (show _ ∧ g1 < g2 from ⟨D.out, by have := O1.out.lt; omega⟩))
        try (have O1 := Lib.hid (own_below O1.out hb))
        try (have T5 := Lib.hid (T5.out.kept hb))
        try (have T6 := Lib.hid (T6.out.kept hb))
        have Bc := Lib.hid (below_on Bc.out hb)
        have O2 := Lib.hid hO
        clear hO hb hg
        go_simp
        refine hK.out _ _ (KS.out _ Bc.out) (fun h0_45 => ?_)
        clear hK K h0_44
        refine wpAnyH_ready (rs := [6]) (by kernel_rfl) (by simp) (AllReadyH.cons rfl (fun K hK => ?_) AllReadyH.nil)
        rw [if_pos (by rfl)]
        obtain ⟨q0, q1, q2, q3⟩ := T5.out.facts
        go_simp
        have hput := T5.out.put (.int .i64 N) (.slice (some ⟨g1, 0, none⟩) l.length (l.length + 1))
        have hP := Lib.hid (far_below Bc.out (x := b5) (by have := D.out; omega) (.int .i64 N) (.slice (some ⟨g1, 0, none⟩) l.length (l.length + 1)))
        have O1 := Lib.hid (own_aside O1.out (b := b5) (by have := D.out; omega) (.int .i64 N) (.slice (some ⟨g1, 0, none⟩) l.length (l.length + 1)))
        have O2 := Lib.hid (own_aside O2.out (b := b5) (by have := D.out; omega) (.int .i64 N) (.slice (some ⟨g1, 0, none⟩) l.length (l.length + 1)))
        have T6 := Lib.hid (T6.out.aside (b' := b5) (by have := D.out; omega) (.int .i64 N) (.slice (some ⟨g1, 0, none⟩) l.length (l.length + 1)))
        have T5 := Lib.hid hput
        clear hput q0 q1 q2 q3
        generalize (wc.setCell ⟨b5, 0, none⟩ (.int .i64 N)).setCell ⟨b5, 1, none⟩ (.slice (some ⟨g1, 0, none⟩) l.length (l.length + 1)) = wc at *
        have Bc := hP
        clear hP
        refine hK.out _ _ (KS.out _ Bc.out) (fun h0_46 => ?_)
        clear hK K h0_45
        refine wpAnyH_ready (rs := [7]) (by kernel_rfl) (by simp) (AllReadyH.cons rfl (fun K hK => ?_) AllReadyH.nil)
        rw [if_pos (by rfl)]
        obtain ⟨q0, q1, q2, q3⟩ := T6.out.facts
        go_simp
        have hput := T6.out.put (.int .i64 M) (.slice (some ⟨g2, 0, none⟩) m.length (m.length + 1))
        have hP := Lib.hid (far_below Bc.out (x := b6) (by have := D.out; omega) (.int .i64 M) (.slice (some ⟨g2, 0, none⟩) m.length (m.length + 1)))
        have O1 := Lib.hid (own_aside O1.out (b := b6) (by have := D.out; omega) (.int .i64 M) (.slice (some ⟨g2, 0, none⟩) m.length (m.length + 1)))
        have O2 := Lib.hid (own_aside O2.out (b := b6) (by have := D.out; omega) (.int .i64 M) (.slice (some ⟨g2, 0, none⟩) m.length (m.length + 1)))
        have T5 := Lib.hid (T5.out.aside (b' := b6) (by have := D.out; omega) (.int .i64 M) (.slice (some ⟨g2, 0, none⟩) m.length (m.length + 1)))
        have T6 := Lib.hid hput
        clear hput q0 q1 q2 q3
        generalize (wc.setCell ⟨b6, 0, none⟩ (.int .i64 M)).setCell ⟨b6, 1, none⟩ (.slice (some ⟨g2, 0, none⟩) m.length (m.length + 1)) = wc at *
        have Bc := hP
        clear hP
        refine hK.out _ _ (KS.out _ Bc.out) (fun h0_47 => ?_)
        clear hK K h0_46
        refine wpAnyH_done (by kernel_rfl) ?_ _
        go_wp2_with fail
        go_meet
        case rel => exact ⟨b5, b6, g1, g2, rfl, rfl, Lib.hid ⟨T5.out, T6.out, O1.out, O2.out, Bc.out, by have := D.out; omega⟩⟩
  case rest =>
  obtain ⟨b5, b6, g1, g2, rfl, rfl, hH⟩ := hcut
  have UX := Lib.hid hH.out.1
  have VX := Lib.hid hH.out.2.1
  have O1 := Lib.hid hH.out.2.2.1
  have O2 := Lib.hid hH.out.2.2.2.1
  have PX := Lib.hid (PX.out.kept hH.out.2.2.2.2.1)
  have PY := Lib.hid (PY.out.kept hH.out.2.2.2.2.1)
  have Q0 := Lib.hid (below_on E0.out hH.out.2.2.2.2.1)
  have HN := Lib.hid (show w.heap.size + 2 ≤ b5 ∧ w.heap.size + 2 ≤ b6 ∧ w.heap.size + 2 ≤ g1 ∧ w.heap.size + 2 ≤ g2 ∧ b5 ≠ b6 ∧ g1 ≠ g2 ∧ b5 ≠ g1 ∧ b5 ≠ g2 ∧ b6 ≠ g1 ∧ b6 ≠ g2 by
    have := hH.out.2.2.2.2.2; have := Z0.out; omega)
  clear hH LX LY
  generalize wc = v1 at *
  obtain ⟨u0, u1, _, _⟩ := UX.out.facts
  obtain ⟨x0, x1, _, _⟩ := VX.out.facts
  go_wp2_with fail
  refine (IZ.out _ _ _ _ _ (own_front' O1.out) (own_front' O2.out)).mono ?_
  rintro e v2 ⟨rfl, hb⟩
  have Q0 := Lib.hid (show Below w.heap.size w v2 from below_on Q0.out hb)
  have PX := Lib.hid (show Two v2 w.heap.size (.int .i64 N) (.slice ao l.length ca) from PX.out.kept hb)
  have PY := Lib.hid (show Two v2 (w.heap.size + 1) (.int .i64 M) (.slice bo m.length cb) from PY.out.kept hb)
  have UX := Lib.hid (show Two v2 b5 (.int .i64 N) (.slice (some ⟨g1, 0, none⟩) l.length (l.length + 1)) from UX.out.kept hb)
  have VX := Lib.hid (show Two v2 b6 (.int .i64 M) (.slice (some ⟨g2, 0, none⟩) m.length (m.length + 1)) from VX.out.kept hb)
  have O1 := Lib.hid (show Own v2 g1 (l.length + 1) (l ++ [77]) from own_below O1.out hb)
  have O2 := Lib.hid (show Own v2 g2 (m.length + 1) (m ++ [77]) from own_below O2.out hb)
  clear hb
  clear u0 u1 x0 x1
  obtain ⟨p0, p1, _, _⟩ := PX.out.facts
  obtain ⟨q0, q1, _, _⟩ := PY.out.facts
  go_wp2_with fail
  refine (IR.out _ Q0.out).mono ?_
  rintro e v3 ⟨rfl, hb⟩
  have Q0 := Lib.hid (show Below w.heap.size w v3 from below_on Q0.out hb)
  have PX := Lib.hid (show Two v3 w.heap.size (.int .i64 N) (.slice ao l.length ca) from PX.out.kept hb)
  have PY := Lib.hid (show Two v3 (w.heap.size + 1) (.int .i64 M) (.slice bo m.length cb) from PY.out.kept hb)
  have UX := Lib.hid (show Two v3 b5 (.int .i64 N) (.slice (some ⟨g1, 0, none⟩) l.length (l.length + 1)) from UX.out.kept hb)
  have VX := Lib.hid (show Two v3 b6 (.int .i64 M) (.slice (some ⟨g2, 0, none⟩) m.length (m.length + 1)) from VX.out.kept hb)
  have O1 := Lib.hid (show Own v3 g1 (l.length + 1) (l ++ [77]) from own_below O1.out hb)
  have O2 := Lib.hid (show Own v3 g2 (m.length + 1) (m ++ [77]) from own_below O2.out hb)
  clear hb
  clear p0 p1 q0 q1
  clear IZ IR
  go_upto_region 6 with (fail)
  have KS := Lib.hid (show ∀ W, Below v3.heap.size v3 W → (W.cell? ⟨w.heap.size, 0, none⟩ = some (.int .i64 N) ∧ W.cell? ⟨w.heap.size, 1, none⟩ = some (.slice ao l.length ca) ∧ W.cell? ⟨(w.heap.size + 1), 0, none⟩ = some (.int .i64 M) ∧ W.cell? ⟨(w.heap.size + 1), 1, none⟩ = some (.slice bo m.length cb) ∧ W.cell? ⟨b5, 0, none⟩ = some (.int .i64 N) ∧ W.cell? ⟨b5, 1, none⟩ = some (.slice (some ⟨g1, 0, none⟩) l.length (l.length + 1)) ∧ W.cell? ⟨b6, 0, none⟩ = some (.int .i64 M) ∧ W.cell? ⟨b6, 1, none⟩ = some (.slice (some ⟨g2, 0, none⟩) m.length (m.length + 1))) from fun W h => ⟨(PX.out.kept h).facts.1, (PX.out.kept h).facts.2.1, (PY.out.kept h).facts.1, (PY.out.kept h).facts.2.1, (UX.out.kept h).facts.1, (UX.out.kept h).facts.2.1, (VX.out.kept h).facts.1, (VX.out.kept h).facts.2.1⟩)
  obtain ⟨wc, hwc⟩ : ∃ wc, wc = v3.drew := ⟨_, rfl⟩
  have Bc := Lib.hid (show Below v3.heap.size v3 wc by rw [hwc]; exact (Below.refl _ _).drew)
  refine wp_region_held_drew (S := (fun W => (W.cell? ⟨w.heap.size, 0, none⟩ = some (.int .i64 N) ∧ W.cell? ⟨w.heap.size, 1, none⟩ = some (.slice ao l.length ca) ∧ W.cell? ⟨(w.heap.size + 1), 0, none⟩ = some (.int .i64 M) ∧ W.cell? ⟨(w.heap.size + 1), 1, none⟩ = some (.slice bo m.length cb) ∧ W.cell? ⟨b5, 0, none⟩ = some (.int .i64 N) ∧ W.cell? ⟨b5, 1, none⟩ = some (.slice (some ⟨g1, 0, none⟩) l.length (l.length + 1)) ∧ W.cell? ⟨b6, 0, none⟩ = some (.int .i64 M) ∧ W.cell? ⟨b6, 1, none⟩ = some (.slice (some ⟨g2, 0, none⟩) m.length (m.length + 1))))) (by kernel_rfl) (by rw [← hwc]; exact KS.out _ Bc.out) (fun h0 => ?_)
  rw [← hwc] at h0 ⊢
  clear hwc
  refine wpAnyH_take (i := 0) (v := ?v3) rfl (by kernel_rfl) (by kernel_rfl) (by kernel_rfl) (fun _ _ _ h => h) (Or.inl ⟨by rfl, ?hy3⟩) h0 ?rest3
  case hy3 => (intro w' hS; (try dsimp only at hS); go_simp; try (with_reducible rfl))
  simp only [Act.put, List.getElem_toArray, List.getElem_cons_zero, List.setIfInBounds_toArray, List.set_cons_zero, List.set_cons_succ]
  refine wpAnyH_take (i := 1) (v := ?v4) rfl (by kernel_rfl) (by kernel_rfl) (by kernel_rfl) (fun _ _ _ h => h) (Or.inl ⟨by rfl, ?hy4⟩) h0 ?rest4
  case hy4 => (intro w' hS; (try dsimp only at hS); go_simp; try (with_reducible rfl))
  simp only [Act.put, List.getElem_toArray, List.getElem_cons_zero, List.getElem_cons_succ, List.setIfInBounds_toArray, List.set_cons_zero, List.set_cons_succ]
  refine wpAnyH_take (i := 2) (v := (.bool false)) rfl (by kernel_rfl) (by kernel_rfl) (by kernel_rfl) (fun _ _ _ h => h) (Or.inl ⟨by rfl, (by intro w' hS; go_simp)⟩) h0 ?_
  simp only [Act.put, List.getElem_toArray, List.getElem_cons_zero, List.getElem_cons_succ, List.setIfInBounds_toArray, List.set_cons_zero, List.set_cons_succ]
  refine wpAnyH_take (i := 3) (v := ?v6) rfl (by kernel_rfl) (by kernel_rfl) (by kernel_rfl) (fun _ _ _ h => h) (Or.inl ⟨by rfl, ?hy6⟩) h0 ?rest6
  case hy6 => (intro w' hS; (try dsimp only at hS); go_simp; try (with_reducible rfl))
  simp only [Act.put, List.getElem_toArray, List.getElem_cons_zero, List.getElem_cons_succ, List.setIfInBounds_toArray, List.set_cons_zero, List.set_cons_succ]
  refine wpAnyH_take (i := 4) (v := ?v7) rfl (by kernel_rfl) (by kernel_rfl) (by kernel_rfl) (fun _ _ _ h => h) (Or.inl ⟨by rfl, ?hy7⟩) h0 ?rest7
  case hy7 => (intro w' hS; (try dsimp only at hS); go_simp; try (with_reducible rfl))
  simp only [Act.put, List.getElem_toArray, List.getElem_cons_zero, List.getElem_cons_succ, List.setIfInBounds_toArray, List.set_cons_zero, List.set_cons_succ]
  refine wpAnyH_take (i := 5) (v := ?v8) rfl (by kernel_rfl) (by kernel_rfl) (by kernel_rfl) (fun _ _ _ h => h) (Or.inl ⟨by rfl, ?hy8⟩) h0 ?rest8
  case hy8 => (intro w' hS; (try dsimp only at hS); go_simp; try (with_reducible rfl))
  simp only [Act.put, List.getElem_toArray, List.getElem_cons_zero, List.getElem_cons_succ, List.setIfInBounds_toArray, List.set_cons_zero, List.set_cons_succ]
  refine wpAnyH_take (i := 6) (v := (.bool false)) rfl (by kernel_rfl) (by kernel_rfl) (by kernel_rfl) (fun _ _ _ h => h) (Or.inl ⟨by rfl, (by intro w' hS; go_simp)⟩) h0 ?_
  simp only [Act.put, List.getElem_toArray, List.getElem_cons_zero, List.getElem_cons_succ, List.setIfInBounds_toArray, List.set_cons_zero, List.set_cons_succ]
  refine wpAnyH_take (i := 7) (v := ?v10) rfl (by kernel_rfl) (by kernel_rfl) (by kernel_rfl) (fun _ _ _ h => h) (Or.inl ⟨by rfl, ?hy10⟩) h0 ?rest10
  case hy10 => (intro w' hS; (try dsimp only at hS); go_simp; try (with_reducible rfl))
  simp only [Act.put, List.getElem_toArray, List.getElem_cons_zero, List.getElem_cons_succ, List.setIfInBounds_toArray, List.set_cons_zero, List.set_cons_succ]
  refine wpAnyH_take (i := 8) (v := ?v11) rfl (by kernel_rfl) (by kernel_rfl) (by kernel_rfl) (fun _ _ _ h => h) (Or.inl ⟨by rfl, ?hy11⟩) h0 ?rest11
  case hy11 => (intro w' hS; (try dsimp only at hS); go_simp; try (with_reducible rfl))
  simp only [Act.put, List.getElem_toArray, List.getElem_cons_zero, List.getElem_cons_succ, List.setIfInBounds_toArray, List.set_cons_zero, List.set_cons_succ]
  refine wpAnyH_take (i := 9) (v := ?v12) rfl (by kernel_rfl) (by kernel_rfl) (by kernel_rfl) (fun _ _ _ h => h) (Or.inl ⟨by rfl, ?hy12⟩) h0 ?rest12
  case hy12 => (intro w' hS; (try dsimp only at hS); go_simp; try (with_reducible rfl))
  simp only [Act.put, List.getElem_toArray, List.getElem_cons_zero, List.getElem_cons_succ, List.setIfInBounds_toArray, List.set_cons_zero, List.set_cons_succ]
  refine wpAnyH_take (i := 10) (v := ?v13) rfl (by kernel_rfl) (by kernel_rfl) (by kernel_rfl) (fun _ _ _ h => h) (Or.inl ⟨by rfl, ?hy13⟩) h0 ?rest13
  case hy13 => (intro w' hS; (try dsimp only at hS); go_simp; try (with_reducible rfl))
  simp only [Act.put, List.getElem_toArray, List.getElem_cons_zero, List.getElem_cons_succ, List.setIfInBounds_toArray, List.set_cons_zero, List.set_cons_succ]
  refine wpAnyH_take (i := 12) (v := ?v14) rfl (by kernel_rfl) (by kernel_rfl) (by kernel_rfl) (fun _ _ _ h => h) (Or.inl ⟨by rfl, ?hy14⟩) h0 ?rest14
  case hy14 => (intro w' hS; (try dsimp only at hS); go_simp; try (with_reducible rfl))
  simp only [Act.put, List.getElem_toArray, List.getElem_cons_zero, List.getElem_cons_succ, List.setIfInBounds_toArray, List.set_cons_zero, List.set_cons_succ]
  refine wpAnyH_take (i := 13) (v := ?v15) rfl (by kernel_rfl) (by kernel_rfl) (by kernel_rfl) (fun _ _ _ h => h) (Or.inl ⟨by rfl, ?hy15⟩) h0 ?rest15
  case hy15 => (intro w' hS; (try dsimp only at hS); go_simp; try (with_reducible rfl))
  simp only [Act.put, List.getElem_toArray, List.getElem_cons_zero, List.getElem_cons_succ, List.setIfInBounds_toArray, List.set_cons_zero, List.set_cons_succ]
  refine wpAnyH_ready (rs := [11]) (by kernel_rfl) (by simp) (AllReadyH.cons rfl (fun K hK => ?_) AllReadyH.nil)
  rw [if_pos (by rfl)]
  go_simp
  refine (SZ.out _ _ _ _ _ (own_front' (own_below O1.out Bc.out)) (own_front' (own_below O2.out Bc.out))).mono ?_
  rintro e wc ⟨rfl, hb⟩
  have Bc := Lib.hid (below_on Bc.out hb)
  clear hb
  go_simp
  refine hK.out _ _ (KS.out _ Bc.out) (fun h0_1 => ?_)
  clear hK K h0
  refine wpAnyH_ready (rs := [14]) (by kernel_rfl) (by simp) (AllReadyH.cons rfl (fun K hK => ?_) AllReadyH.nil)
  rw [if_pos (by rfl)]
  go_simp
  refine (SR.out _ (below_on Q0.out Bc.out)).mono ?_
  rintro e wc ⟨rfl, hb⟩
  have Bc := Lib.hid (below_on Bc.out hb)
  clear hb
  go_simp
  refine hK.out _ _ (KS.out _ Bc.out) (fun h0_2 => ?_)
  clear hK K h0_1
  refine wpAnyH_take (i := 15) (v := (.bool false)) rfl (by kernel_rfl) (by kernel_rfl) (by kernel_rfl) (fun _ _ _ h => h) (Or.inl ⟨by rfl, (by intro w' hS; go_simp)⟩) h0_2 ?_
  simp only [Act.put, List.getElem_toArray, List.getElem_cons_zero, List.getElem_cons_succ, List.setIfInBounds_toArray, List.set_cons_zero, List.set_cons_succ]
  refine wpAnyH_take (i := 16) (v := ?v17) rfl (by kernel_rfl) (by kernel_rfl) (by kernel_rfl) (fun _ _ _ h => h) (Or.inl ⟨by rfl, ?hy17⟩) h0_2 ?rest17
  case hy17 => (intro w' hS; (try dsimp only at hS); go_simp; try (with_reducible rfl))
  simp only [Act.put, List.getElem_toArray, List.getElem_cons_zero, List.getElem_cons_succ, List.setIfInBounds_toArray, List.set_cons_zero, List.set_cons_succ]
  refine wpAnyH_take (i := 17) (v := ?v18) rfl (by kernel_rfl) (by kernel_rfl) (by kernel_rfl) (fun _ _ _ h => h) (Or.inl ⟨by rfl, ?hy18⟩) h0_2 ?rest18
  case hy18 => (intro w' hS; (try dsimp only at hS); go_simp; try (with_reducible rfl))
  simp only [Act.put, List.getElem_toArray, List.getElem_cons_zero, List.getElem_cons_succ, List.setIfInBounds_toArray, List.set_cons_zero, List.set_cons_succ]
  refine wpAnyH_take (i := 18) (v := ?v19) rfl (by kernel_rfl) (by kernel_rfl) (by kernel_rfl) (fun _ _ _ h => h) (Or.inl ⟨by rfl, ?hy19⟩) h0_2 ?rest19
  case hy19 => (intro w' hS; (try dsimp only at hS); go_simp; try (with_reducible rfl))
  simp only [Act.put, List.getElem_toArray, List.getElem_cons_zero, List.getElem_cons_succ, List.setIfInBounds_toArray, List.set_cons_zero, List.set_cons_succ]
  refine wpAnyH_take (i := 19) (v := ?v20) rfl (by kernel_rfl) (by kernel_rfl) (by kernel_rfl) (fun _ _ _ h => h) (Or.inl ⟨by rfl, ?hy20⟩) h0_2 ?rest20
  case hy20 => (intro w' hS; (try dsimp only at hS); go_simp; try (with_reducible rfl))
  simp only [Act.put, List.getElem_toArray, List.getElem_cons_zero, List.getElem_cons_succ, List.setIfInBounds_toArray, List.set_cons_zero, List.set_cons_succ]
  refine wpAnyH_ready (rs := [20]) (by kernel_rfl) (by simp) (AllReadyH.cons rfl (fun K hK => ?_) AllReadyH.nil)
  rw [if_pos (by rfl)]
  go_simp
  refine (SU.out _ _ _ (own_front' (own_below O1.out Bc.out)) (below_on Q0.out Bc.out)).mono ?_
  rintro e wc ⟨rfl, hb⟩
  have Bc := Lib.hid (below_on Bc.out hb)
  clear hb
  go_simp
  refine hK.out _ _ (KS.out _ Bc.out) (fun h0_3 => ?_)
  clear hK K h0_2
  refine wpAnyH_take (i := 21) (v := ?v21) rfl (by kernel_rfl) (by kernel_rfl) (by kernel_rfl) (fun _ _ _ h => h) (Or.inl ⟨by rfl, ?hy21⟩) h0_3 ?rest21
  case hy21 => (intro w' hS; (try dsimp only at hS); go_simp; try (with_reducible rfl))
  simp only [Act.put, List.getElem_toArray, List.getElem_cons_zero, List.getElem_cons_succ, List.setIfInBounds_toArray, List.set_cons_zero, List.set_cons_succ]
  refine wpAnyH_take (i := 22) (v := ?v22) rfl (by kernel_rfl) (by kernel_rfl) (by kernel_rfl) (fun _ _ _ h => h) (Or.inl ⟨by rfl, ?hy22⟩) h0_3 ?rest22
  case hy22 => (intro w' hS; (try dsimp only at hS); go_simp; try (with_reducible rfl))
  simp only [Act.put, List.getElem_toArray, List.getElem_cons_zero, List.getElem_cons_succ, List.setIfInBounds_toArray]
  refine wpAnyH_done (by kernel_rfl) ?_ _
  have Q0 := Lib.hid (show Below w.heap.size w wc from below_on Q0.out Bc.out)
  have PX := Lib.hid (show Two wc w.heap.size (.int .i64 N) (.slice ao l.length ca) from PX.out.kept Bc.out)
  have PY := Lib.hid (show Two wc (w.heap.size + 1) (.int .i64 M) (.slice bo m.length cb) from PY.out.kept Bc.out)
  have UX := Lib.hid (show Two wc b5 (.int .i64 N) (.slice (some ⟨g1, 0, none⟩) l.length (l.length + 1)) from UX.out.kept Bc.out)
  have VX := Lib.hid (show Two wc b6 (.int .i64 M) (.slice (some ⟨g2, 0, none⟩) m.length (m.length + 1)) from VX.out.kept Bc.out)
  have O1 := Lib.hid (show Own wc g1 (l.length + 1) (l ++ [77]) from own_below O1.out Bc.out)
  have O2 := Lib.hid (show Own wc g2 (m.length + 1) (m ++ [77]) from own_below O2.out Bc.out)
  clear KS SZ SR SU
  have U0 := Lib.hid (show b5 < wc.heap.size ∧ b6 < wc.heap.size ∧ g1 < wc.heap.size ∧ g2 < wc.heap.size from ⟨UX.out.lt, VX.out.lt, O1.out.lt, O2.out.lt⟩)
  obtain ⟨u0, u1, _, _⟩ := UX.out.facts
  obtain ⟨x0, x1, _, _⟩ := VX.out.facts
  go_wp2_with fail
  refine (MZ.out _ _ _ _ _ (own_front' O1.out) (own_front' O2.out)).mono ?_
  rintro e w4 ⟨ao4, ck4, rfl, hA, hm, _, hb⟩
  have L4 := Lib.hid hm
  obtain ⟨v4, hv⟩ : ∃ v4, v4 = w4.alloc (.cells #[.int .i64 M1, .slice ao4 m1.length ck4] 25) := ⟨_, rfl⟩
  have X4 := Lib.hid (show Two v4 w4.heap.size (.int .i64 M1) (.slice ao4 m1.length ck4) by rw [hv]; exact Two.made _ _ _ _)
  have A4 := Lib.hid (show Arg v4 ao4 m1 by rw [hv]; exact hA.on (one_more _))
  have B4 := Lib.hid (show Below wc.heap.size wc v4 by rw [hv]; exact hb.alloc hb.size _)
  have Y4 := Lib.hid (show wc.heap.size ≤ w4.heap.size ∧ v4.heap.size = w4.heap.size + 1 by rw [hv]; exact ⟨hb.size, by simp⟩)
  clear hA hm hb
  go_upto_region 9 with (fail)
  rw [← hv]
  clear hv
  clear u0 u1 x0 x1
  have Q0 := Lib.hid (show Below w.heap.size w v4 from below_on Q0.out B4.out)
  have PX := Lib.hid (show Two v4 w.heap.size (.int .i64 N) (.slice ao l.length ca) from PX.out.kept B4.out)
  have PY := Lib.hid (show Two v4 (w.heap.size + 1) (.int .i64 M) (.slice bo m.length cb) from PY.out.kept B4.out)
  have UX := Lib.hid (show Two v4 b5 (.int .i64 N) (.slice (some ⟨g1, 0, none⟩) l.length (l.length + 1)) from UX.out.kept B4.out)
  have VX := Lib.hid (show Two v4 b6 (.int .i64 M) (.slice (some ⟨g2, 0, none⟩) m.length (m.length + 1)) from VX.out.kept B4.out)
  have O1 := Lib.hid (show Own v4 g1 (l.length + 1) (l ++ [77]) from own_below O1.out B4.out)
  have O2 := Lib.hid (show Own v4 g2 (m.length + 1) (m ++ [77]) from own_below O2.out B4.out)
  obtain ⟨p0, p1, _, _⟩ := PX.out.facts
  obtain ⟨q0, q1, _, _⟩ := PY.out.facts
  go_wp2_with fail
  refine (MR.out _ Q0.out).mono ?_
  rintro e w5 ⟨ao5, ck5, rfl, hA, hm, _, hb⟩
  have L5 := Lib.hid hm
  obtain ⟨v5, hv⟩ : ∃ v5, v5 = w5.alloc (.cells #[.int .i64 M1, .slice ao5 m1.length ck5] 25) := ⟨_, rfl⟩
  have X5 := Lib.hid (show Two v5 w5.heap.size (.int .i64 M1) (.slice ao5 m1.length ck5) by rw [hv]; exact Two.made _ _ _ _)
  have A5 := Lib.hid (show Arg v5 ao5 m1 by rw [hv]; exact hA.on (one_more _))
  have B5 := Lib.hid (show Below v4.heap.size v4 v5 by rw [hv]; exact hb.alloc hb.size _)
  have Y5 := Lib.hid (show v4.heap.size ≤ w5.heap.size ∧ v5.heap.size = w5.heap.size + 1 by rw [hv]; exact ⟨hb.size, by simp⟩)
  clear hA hm hb
  go_upto_region 10 with (fail)
  rw [← hv]
  clear hv
  clear p0 p1 q0 q1
  have Q0 := Lib.hid (show Below w.heap.size w v5 from below_on Q0.out B5.out)
  have PX := Lib.hid (show Two v5 w.heap.size (.int .i64 N) (.slice ao l.length ca) from PX.out.kept B5.out)
  have PY := Lib.hid (show Two v5 (w.heap.size + 1) (.int .i64 M) (.slice bo m.length cb) from PY.out.kept B5.out)
  have UX := Lib.hid (show Two v5 b5 (.int .i64 N) (.slice (some ⟨g1, 0, none⟩) l.length (l.length + 1)) from UX.out.kept B5.out)
  have VX := Lib.hid (show Two v5 b6 (.int .i64 M) (.slice (some ⟨g2, 0, none⟩) m.length (m.length + 1)) from VX.out.kept B5.out)
  have O1 := Lib.hid (show Own v5 g1 (l.length + 1) (l ++ [77]) from own_below O1.out B5.out)
  have O2 := Lib.hid (show Own v5 g2 (m.length + 1) (m ++ [77]) from own_below O2.out B5.out)
  have T1 := Lib.hid (X4.out.kept B5.out)
  have T2 := X5
  have HB := Lib.hid (show w.heap.size ≤ w4.heap.size ∧ w.heap.size ≤ w5.heap.size ∧ w4.heap.size ≠ w5.heap.size ∧ b5 < w4.heap.size ∧ b6 < w4.heap.size ∧ g1 < w4.heap.size ∧ g2 < w4.heap.size ∧ w4.heap.size < w5.heap.size ∧ w.heap.size + 2 ≤ w4.heap.size by
    have := U0.out; have := Y4.out; have := Y5.out; have := HN.out; omega)
  obtain ⟨b0, b1, b2, b3⟩ := T1.out.facts
  obtain ⟨c0, c1, c2, c3⟩ := T2.out.facts
  go_wp2_with fail
  refine (SM.out _ _ _ _ _ _ _ _ (A4.out.on B5.out) A5.out L5.out).mono ?_
  rintro e v6 ⟨rfl, hb⟩
  have T1 := Lib.hid (T1.out.kept hb)
  have T2 := Lib.hid (T2.out.kept hb)
  have Q0 := Lib.hid (show Below w.heap.size w v6 from below_on Q0.out hb)
  have PX := Lib.hid (show Two v6 w.heap.size (.int .i64 N) (.slice ao l.length ca) from PX.out.kept hb)
  have PY := Lib.hid (show Two v6 (w.heap.size + 1) (.int .i64 M) (.slice bo m.length cb) from PY.out.kept hb)
  have UX := Lib.hid (show Two v6 b5 (.int .i64 N) (.slice (some ⟨g1, 0, none⟩) l.length (l.length + 1)) from UX.out.kept hb)
  have VX := Lib.hid (show Two v6 b6 (.int .i64 M) (.slice (some ⟨g2, 0, none⟩) m.length (m.length + 1)) from VX.out.kept hb)
  have O1 := Lib.hid (show Own v6 g1 (l.length + 1) (l ++ [77]) from own_below O1.out hb)
  have O2 := Lib.hid (show Own v6 g2 (m.length + 1) (m ++ [77]) from own_below O2.out hb)
  clear hb b0 b1 b2 b3 c0 c1 c2 c3 A4 A5 X4 X5 B4 B5 L4 L5 MZ MR
  obtain ⟨u0, u1, _, _⟩ := UX.out.facts
  obtain ⟨x0, x1, _, _⟩ := VX.out.facts
  go_wp2_with fail
  clear u0 u1 x0 x1
  have O1old := O1
  have O2old := O2
  refine (HZ.out _ _ _ _ _ (own_front' O1.out) (own_front' O2.out)).mono ?_
  rintro e w20a ⟨ao20a, ck20a, rfl, hA, hm, hf, hb⟩
  have XX := T1.out.kept hb
  obtain ⟨d0, d1, d2, d3⟩ := XX.facts
  have hne := fun a e => Nat.lt_of_lt_of_le T1.out.lt (hf a e).1
  have F20a := Lib.hid (fun a e => Nat.lt_of_lt_of_le T2.out.lt (hf a e).1)
  have L20a := Lib.hid hm
  obtain ⟨v20a, hv⟩ : ∃ v, v = (w20a.setCell ⟨w4.heap.size, 0, none⟩ (.int .i64 M2)).setCell ⟨w4.heap.size, 1, none⟩ (.slice ao20a m2.length ck20a) := ⟨_, rfl⟩
  have T1 := Lib.hid (show Two v20a w4.heap.size (.int .i64 M2) (.slice ao20a m2.length ck20a) by rw [hv]; exact XX.put _ _)
  have A20a := Lib.hid (show Arg v20a ao20a m2 by rw [hv]; exact arg_far' hA (fun a e => by have := hne a e; omega) _ _)
  have Q0 := Lib.hid (show Below w.heap.size w v20a by rw [hv]; exact far_below (below_on Q0.out hb) (by have := HB.out; omega) _ _)
  have PX := Lib.hid (show Two v20a w.heap.size (.int .i64 N) (.slice ao l.length ca) by rw [hv]; exact (PX.out.kept hb).aside (by have := HN.out; have := HB.out; omega) _ _)
  have PY := Lib.hid (show Two v20a (w.heap.size + 1) (.int .i64 M) (.slice bo m.length cb) by rw [hv]; exact (PY.out.kept hb).aside (by have := HN.out; have := HB.out; omega) _ _)
  have UX := Lib.hid (show Two v20a b5 (.int .i64 N) (.slice (some ⟨g1, 0, none⟩) l.length (l.length + 1)) by rw [hv]; exact (UX.out.kept hb).aside (by have := HN.out; have := HB.out; omega) _ _)
  have VX := Lib.hid (show Two v20a b6 (.int .i64 M) (.slice (some ⟨g2, 0, none⟩) m.length (m.length + 1)) by rw [hv]; exact (VX.out.kept hb).aside (by have := HN.out; have := HB.out; omega) _ _)
  have O1 := Lib.hid (show Own v20a g1 (l.length + 1) (l ++ [77]) by rw [hv]; exact own_aside (own_below O1.out hb) (by have := HN.out; have := HB.out; omega) _ _)
  have O2 := Lib.hid (show Own v20a g2 (m.length + 1) (m ++ [77]) by rw [hv]; exact own_aside (own_below O2.out hb) (by have := HN.out; have := HB.out; omega) _ _)
  have T2 := Lib.hid (show Two v20a w5.heap.size _ _ by rw [hv]; exact (T2.out.kept hb).aside HB.out.2.2.1 _ _)
  have FG := Lib.hid (fun a e => And.intro (Nat.lt_of_lt_of_le O1old.out.lt (hf a e).1) (Nat.lt_of_lt_of_le O2old.out.lt (hf a e).1))
  clear hA hm hf hne XX
  clear hb
  go_upto_region 13 with (fail)
  rw [← hv]
  clear hv d0 d1 d2 d3
  obtain ⟨u0, u1, _, _⟩ := UX.out.facts
  obtain ⟨x0, x1, _, _⟩ := VX.out.facts
  obtain ⟨p0, p1, _, _⟩ := PX.out.facts
  obtain ⟨q0, q1, _, _⟩ := PY.out.facts
  go_wp2_with fail
  refine (KX.out _ _ O1.out Q0.out).mono ?_
  rintro e v21 ⟨rfl, hb⟩
  have T1 := Lib.hid (T1.out.kept hb)
  have T2 := Lib.hid (T2.out.kept hb)
  have A20a := Lib.hid (A20a.out.on hb)
  have Q0 := Lib.hid (show Below w.heap.size w v21 from below_on Q0.out hb)
  have PX := Lib.hid (show Two v21 w.heap.size (.int .i64 N) (.slice ao l.length ca) from PX.out.kept hb)
  have PY := Lib.hid (show Two v21 (w.heap.size + 1) (.int .i64 M) (.slice bo m.length cb) from PY.out.kept hb)
  have UX := Lib.hid (show Two v21 b5 (.int .i64 N) (.slice (some ⟨g1, 0, none⟩) l.length (l.length + 1)) from UX.out.kept hb)
  have VX := Lib.hid (show Two v21 b6 (.int .i64 M) (.slice (some ⟨g2, 0, none⟩) m.length (m.length + 1)) from VX.out.kept hb)
  have O1 := Lib.hid (show Own v21 g1 (l.length + 1) (l ++ [77]) from own_below O1.out hb)
  have O2 := Lib.hid (show Own v21 g2 (m.length + 1) (m ++ [77]) from own_below O2.out hb)
  clear hb
  clear u0 u1 x0 x1
  clear p0 p1 q0 q1
  obtain ⟨u0, u1, _, _⟩ := UX.out.facts
  obtain ⟨x0, x1, _, _⟩ := VX.out.facts
  obtain ⟨p0, p1, _, _⟩ := PX.out.facts
  obtain ⟨q0, q1, _, _⟩ := PY.out.facts
  go_wp2_with fail
  refine (KY.out _ _ O2.out Q0.out).mono ?_
  rintro e v22 ⟨rfl, hb⟩
  have T1 := Lib.hid (T1.out.kept hb)
  have T2 := Lib.hid (T2.out.kept hb)
  have A20a := Lib.hid (A20a.out.on hb)
  have Q0 := Lib.hid (show Below w.heap.size w v22 from below_on Q0.out hb)
  have PX := Lib.hid (show Two v22 w.heap.size (.int .i64 N) (.slice ao l.length ca) from PX.out.kept hb)
  have PY := Lib.hid (show Two v22 (w.heap.size + 1) (.int .i64 M) (.slice bo m.length cb) from PY.out.kept hb)
  have UX := Lib.hid (show Two v22 b5 (.int .i64 N) (.slice (some ⟨g1, 0, none⟩) l.length (l.length + 1)) from UX.out.kept hb)
  have VX := Lib.hid (show Two v22 b6 (.int .i64 M) (.slice (some ⟨g2, 0, none⟩) m.length (m.length + 1)) from VX.out.kept hb)
  have O1 := Lib.hid (show Own v22 g1 (l.length + 1) (l ++ [77]) from own_below O1.out hb)
  have O2 := Lib.hid (show Own v22 g2 (m.length + 1) (m ++ [77]) from own_below O2.out hb)
  clear hb
  clear u0 u1 x0 x1
  clear p0 p1 q0 q1
  have S0 := Lib.hid (show St v22 g1 (l.length + 1) (l ++ [77]) v22 from ⟨O1.out, World.grownBy.refl _ _⟩)
  clear KX KY O1old O2old
  go_wp2_with fail
  go_loopw [13] (fun s wr => ∃ (t : Nat) (x : List Int), t ≤ l.length ∧ s = .int .i64 (t : Int) ∧ Hid (x.length = l.length + 1) ∧ Hid (St v22 g1 (l.length + 1) x wr)) (fun s _ => l.length - (intOf s).toNat)
  case atStart => exact ⟨0, l ++ [77], by omega, rfl, HL, S0⟩
  case round =>
    obtain ⟨t, x, ht, rfl, HX, HT⟩ := hrel
    obtain ⟨o0, o1, o2, o3⟩ := (UX.out.grown HT.out.2 (by have := HN.out; omega)).facts
    by_cases htn : t < l.length
    · have TB : decide ((t : Int) < (l.length : Int)) = true := by simp; omega
      have q0 : wr.cell? ⟨g1, t, none⟩ = some (.int .i64 (Zo.gt x t)) := by
        have := HT.out.1.rd t (by have := HX.out; omega)
        rwa [addr_add] at this
      have q1 : wr.frozen? ⟨g1, t, none⟩ = false := World.ownsRow.frozenAt HT.out.1 _
      have HP := Lib.hid (show St v22 g1 (l.length + 1) (x.set t 99) (wr.setCell ⟨g1, t, none⟩ (.int .i64 99)) from ⟨(HT.out.1.put t 99).1, grown_trans HT.out.2 (HT.out.1.put t 99).2⟩)
      have tb : (t : Int) < 200 := by have := HL2.out; omega
      go_wp2_with fail
      go_roundw
      case rel => exact ⟨t + 1, x.set t 99, by omega, by go_num, Lib.hid (by simpa using HX.out), HP⟩
      case measure => simp [intOf]; omega
    · have TB : decide ((t : Int) < (l.length : Int)) = false := by simp; omega
      have HG := Lib.hid HT.out.2
      clear HT HX
      have T1 := Lib.hid (T1.out.grown HG.out (by have := HN.out; have := HB.out; omega))
      have T2 := Lib.hid (T2.out.grown HG.out (by have := HN.out; have := HB.out; omega))
      have PX := Lib.hid (PX.out.grown HG.out (by have := HN.out; omega))
      have PY := Lib.hid (PY.out.grown HG.out (by have := HN.out; omega))
      have A20a := Lib.hid (arg_grown A20a.out HG.out (fun a e => by have := FG.out a e; omega))
      have Q0 := Lib.hid (grown_over Q0.out HG.out (by have := HN.out; omega))
      have VX := Lib.hid (VX.out.grown HG.out (by have := HN.out; omega))
      have O2 := Lib.hid (O2.out.kept HG.out (by have := HN.out; simp; omega))
      generalize wr = v30 at *
      have S1 := Lib.hid (show St v30 g2 (m.length + 1) (m ++ [77]) v30 from ⟨O2.out, World.grownBy.refl _ _⟩)
      go_wp2_with fail
      clear o0 o1 o2 o3 HG O2
      go_loopw [14] (fun s wr => ∃ (t : Nat) (x : List Int), t ≤ m.length ∧ s = .int .i64 (t : Int) ∧ Hid (x.length = m.length + 1) ∧ Hid (St v30 g2 (m.length + 1) x wr)) (fun s _ => m.length - (intOf s).toNat)
      case atStart => exact ⟨0, m ++ [77], by omega, rfl, HLm, S1⟩
      case round =>
        obtain ⟨t, x, ht, rfl, HX, HT⟩ := hrel
        obtain ⟨o0, o1, o2, o3⟩ := (VX.out.grown HT.out.2 (by have := HN.out; omega)).facts
        by_cases htn : t < m.length
        · have TB : decide ((t : Int) < (m.length : Int)) = true := by simp; omega
          have q0 : wr.cell? ⟨g2, t, none⟩ = some (.int .i64 (Zo.gt x t)) := by
            have := HT.out.1.rd t (by have := HX.out; omega)
            rwa [addr_add] at this
          have q1 : wr.frozen? ⟨g2, t, none⟩ = false := World.ownsRow.frozenAt HT.out.1 _
          have HP := Lib.hid (show St v30 g2 (m.length + 1) (x.set t 99) (wr.setCell ⟨g2, t, none⟩ (.int .i64 99)) from ⟨(HT.out.1.put t 99).1, grown_trans HT.out.2 (HT.out.1.put t 99).2⟩)
          have tb : (t : Int) < 200 := by have := HL3.out; omega
          go_wp2_with fail
          go_roundw
          case rel => exact ⟨t + 1, x.set t 99, by omega, by go_num, Lib.hid (by simpa using HX.out), HP⟩
          case measure => simp [intOf]; omega
        · have TB : decide ((t : Int) < (m.length : Int)) = false := by simp; omega
          have HG := Lib.hid HT.out.2
          clear HT HX
          have T1 := Lib.hid (T1.out.grown HG.out (by have := HN.out; have := HB.out; omega))
          have T2 := Lib.hid (T2.out.grown HG.out (by have := HN.out; have := HB.out; omega))
          have PX := Lib.hid (PX.out.grown HG.out (by have := HN.out; omega))
          have PY := Lib.hid (PY.out.grown HG.out (by have := HN.out; omega))
          have A20a := Lib.hid (arg_grown A20a.out HG.out (fun a e => by have := FG.out a e; omega))
          have Q0 := Lib.hid (grown_over Q0.out HG.out (by have := HN.out; omega))
          have VX := Lib.hid (VX.out.grown HG.out (by have := HN.out; omega))
          obtain ⟨p0, p1, _, _⟩ := PX.out.facts
          obtain ⟨q0, q1, _, _⟩ := PY.out.facts
          go_wp2_with fail
          clear p0 p1 q0 q1 o0 o1 o2 o3
          refine (HR.out _ Q0.out).mono ?_
          rintro e w20b ⟨ao20b, ck20b, rfl, hA, hm, hf, hb⟩
          have XX := T2.out.kept hb
          obtain ⟨d0, d1, d2, d3⟩ := XX.facts
          have hne := fun a e => Nat.lt_of_lt_of_le T2.out.lt (hf a e).1
          have F20b := Lib.hid (fun a e => Nat.lt_of_lt_of_le T2.out.lt (hf a e).1)
          have L20b := Lib.hid hm
          obtain ⟨v20b, hv⟩ : ∃ v, v = (w20b.setCell ⟨w5.heap.size, 0, none⟩ (.int .i64 M2)).setCell ⟨w5.heap.size, 1, none⟩ (.slice ao20b m2.length ck20b) := ⟨_, rfl⟩
          have T2 := Lib.hid (show Two v20b w5.heap.size (.int .i64 M2) (.slice ao20b m2.length ck20b) by rw [hv]; exact XX.put _ _)
          have A20b := Lib.hid (show Arg v20b ao20b m2 by rw [hv]; exact arg_far' hA (fun a e => by have := hne a e; omega) _ _)
          have Q0 := Lib.hid (show Below w.heap.size w v20b by rw [hv]; exact far_below (below_on Q0.out hb) (by have := HB.out; omega) _ _)
          have T1 := Lib.hid (show Two v20b w4.heap.size (.int .i64 M2) (.slice ao20a m2.length ck20a) by rw [hv]; exact (T1.out.kept hb).aside HB.out.2.2.1.symm _ _)
          have A20a := Lib.hid (show Arg v20b ao20a m2 by rw [hv]; exact arg_far' (A20a.out.on hb) (fun a e => by have := F20a.out a e; omega) _ _)
          clear hA hm hf hne XX
          clear hb
          go_upto_region 24 with (fail)
          rw [← hv]
          clear hv d0 d1 d2 d3
          obtain ⟨b0, b1, b2, b3⟩ := T1.out.facts
          obtain ⟨c0, c1, c2, c3⟩ := T2.out.facts
          go_wp2_with fail
          refine (SM.out _ _ _ _ _ _ _ _ A20a.out A20b.out L20b.out).mono ?_
          rintro e w20c ⟨rfl, hb⟩
          have T1 := Lib.hid (T1.out.kept hb)
          have T2 := Lib.hid (T2.out.kept hb)
          have Q0 := Lib.hid (show Below w.heap.size w w20c from below_on Q0.out hb)
          clear hb b0 b1 b2 b3 c0 c1 c2 c3 A20a A20b F20a F20b L20a L20b
          go_wp2_with fail
          refine (SH.out _).mono ?_
          rintro e w99 ⟨rfl, hb⟩
          have Q0 := Lib.hid (below_on Q0.out hb)
          clear hb
          go_wp2_with fail
          go_ret
          exact ⟨rfl, Q0.out⟩

theorem twos_any (N M : Int) (l m : List Int) (ao bo : Option Addr) (ca cb : Nat) (w : World) (hA : Arg w ao l) (hB : Arg w bo m) (hn1 : ao = none → l = [] ∧ ca = 0) (hn2 : bo = none → m = [] ∧ cb = 0) :
    Calls Try.prog 5 #[.agg #[.int .i64 N, .slice ao l.length ca], .agg #[.int .i64 M, .slice bo m.length cb]] w (Made (.bool true) w) := by
  by_cases h : 200 < l.length ∨ 200 < m.length
  · exact twos_long N M ao bo l.length ca m.length cb w h
  · exact twos_short N M l m ao bo ca cb w hA hB hn1 hn2 (by omega) (by omega)
end Go.Proofs.Ytbnebinpemejlaa
