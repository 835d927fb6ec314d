/- RatioBetween: for every three ratios, valid or not: Middle of the first two lies between them, and no number between them has a lesser denominator, or the same one and is less; the statement's function returns true and the arguments read as before. Conditions: none beyond the row's own (the three listed tables of the library hold what the program's text lays). -/
import Derived.Test.YtnbkphklidjmhaaDoorK
import Derived.Test.YtnbkphklidjmhaaDoorP
import Derived.Test.YtnbkphklidjmhaaDoorMath2
namespace Go.Proofs.YtnbkphklidjmhaaDoor.Between
open Go.Proofs.YtnbkphklidjmhaaDoor
open Go.ChangeShapes Go.WideShapes Go.ChangeAt Go.RowKit Go.Joins

theorem mid_as {n d m c P Q E : Int} (w : World) (hn : I64 n) (hd : I64 d) (hm : I64 m) (hc : I64 c) (h1 : opNum (midB n d m c) (midX n d m c) (midY n d m c) = P) (h2 : opDen (midB n d m c) (midX n d m c) (midY n d m c) = Q) (h3 : opErr (midB n d m c) (midX n d m c) (midY n d m c) = E) :
    Calls Tryd.prog 32 #[.agg #[.int .i64 n, .int .i64 d], .agg #[.int .i64 m, .int .i64 c]] w (Made (.tuple #[.agg #[.int .i64 P, .int .i64 Q], .int .i64 E]) w) := by
  have h := middle_any n d m c w hn hd hm hc
  rw [h1, h2, h3] at h
  exact h
/-- What Cmp says of two ratios: k, and the error e. -/
def CmpIs (n d m c k e : Int) : Prop := (if (vldB n d && vldB m c) then sgn (n * c) (m * d) else 0) = k ∧ (if (vldB n d && vldB m c) then (0 : Int) else 2) = e
theorem cmp_is {n d m c k e : Int} (w : World) (hn : I64 n) (hd : I64 d) (hm : I64 m) (hc : I64 c) (h : CmpIs n d m c k e) :
    Calls Tryd.prog 30 #[.agg #[.int .i64 n, .int .i64 d], .agg #[.int .i64 m, .int .i64 c]] w (Made (.tuple #[.int .i64 k, .int .i64 e]) w) := cmp_as w hn hd hm hc h.1 h.2
theorem cmp_less {n d m c : Int} (h1 : vldB n d = true) (h2 : vldB m c = true) (h : n * c < m * d) : CmpIs n d m c (-1) 0 := by
  unfold CmpIs; rw [h1, h2]; simp [sgn, h]
/-- Otherwise there is an error, or the result is not negative. -/
theorem cmp_else {n d m c : Int} (h : ¬ (vldB n d = true ∧ vldB m c = true ∧ n * c < m * d)) : CmpIs n d m c 0 2 ∨ ∃ k, 0 ≤ k ∧ CmpIs n d m c k 0 := by
  cases hv : (vldB n d && vldB m c)
  · left; unfold CmpIs; rw [hv]; simp
  · right
    refine ⟨sgn (n * c) (m * d), ?_, ?_⟩
    · have : ¬ n * c < m * d := by simp at hv; intro h3; exact h ⟨hv.1, hv.2, h3⟩
      unfold sgn; rw [if_neg this]; split <;> omega
    · unfold CmpIs; rw [hv]; simp

set_option maxRecDepth 100000 in
set_option maxHeartbeats 1600000 in
theorem walk_no (n d m c k l : Int) (w : World) (hF : Fit w) (hn : I64 n) (hd : I64 d) (hm : I64 m) (hc : I64 c) (h : midB n d m c = false) :
    Calls Tryd.prog 8 #[.agg #[.int .i64 n, .int .i64 d], .agg #[.int .i64 m, .int .i64 c], .agg #[.int .i64 k, .int .i64 l]] w (Made (.bool true) w) := by
  have HF := Lib.hid hF
  clear hF
  have hx : ¬ (vldB n d = true ∧ vldB m c = true ∧ n * c < m * d) := by
    rintro ⟨h1, h2, h3⟩; unfold midB at h; rw [h1, h2] at h; simp at h; omega
  have M1 := Lib.hid (show opNum (midB n d m c) (midX n d m c) (midY n d m c) = 0 by rw [h]; rfl)
  have M2 := Lib.hid (show opDen (midB n d m c) (midX n d m c) (midY n d m c) = 0 by rw [h]; rfl)
  have M3 := Lib.hid (show opErr (midB n d m c) (midX n d m c) (midY n d m c) = 2 by rw [h]; rfl)
  clear h
  rcases cmp_else hx with hC | ⟨q, hq, hC⟩
  · clear hx
    go_enter Tryd.func8, Tryd.ntmps8
    go_wp2_with fail
    refine (mid_as _ hn hd hm hc M1.out M2.out M3.out).mono ?_
    rintro e w1 ⟨rfl, hb⟩
    obtain ⟨pA, pB, pC, z1, hB⟩ := three_pairs hb
    clear hb
    have g1 : w.heap.size < w1.heap.size := by omega
    have g2 : w.heap.size + 1 < w1.heap.size := by omega
    have g3 : w.heap.size + 2 < w1.heap.size := by omega
    have g4 : w.heap.size + 1 + 1 < w1.heap.size := by omega
    obtain ⟨fA0, fA1, fA2, fA3⟩ := pA.facts
    obtain ⟨fB0, fB1, fB2, fB3⟩ := pB.facts
    obtain ⟨fC0, fC1, fC2, fC3⟩ := pC.facts
    go_wp2_with fail
    refine (cmp_is _ hn hd hm hc hC).mono ?_
    rintro e w2 ⟨rfl, hb⟩
    clear fA0 fA1 fA2 fA3
    clear fB0 fB1 fB2 fB3
    clear fC0 fC1 fC2 fC3
    have pD := (Pair.made w1 _ _ 23).kept hb
    replace pA := (pA.alloc _).kept hb
    replace pB := (pB.alloc _).kept hb
    replace pC := (pC.alloc _).kept hb
    replace hB := on_box hB hb
    clear hb
    obtain ⟨fA0, fA1, fA2, fA3⟩ := pA.facts
    obtain ⟨fB0, fB1, fB2, fB3⟩ := pB.facts
    obtain ⟨fC0, fC1, fC2, fC3⟩ := pC.facts
    obtain ⟨fD0, fD1, fD2, fD3⟩ := pD.facts
    go_wp2_with fail
    refine (shown_any _ (HF.out.on hB)).mono ?_
    rintro e wz ⟨rfl, hb⟩
    go_wp2_with fail
    go_ret
    exact ⟨rfl, below_on hB hb⟩
  · clear hx
    go_enter Tryd.func8, Tryd.ntmps8
    go_wp2_with fail
    refine (mid_as _ hn hd hm hc M1.out M2.out M3.out).mono ?_
    rintro e w1 ⟨rfl, hb⟩
    obtain ⟨pA, pB, pC, z1, hB⟩ := three_pairs hb
    clear hb
    have g1 : w.heap.size < w1.heap.size := by omega
    have g2 : w.heap.size + 1 < w1.heap.size := by omega
    have g3 : w.heap.size + 2 < w1.heap.size := by omega
    have g4 : w.heap.size + 1 + 1 < w1.heap.size := by omega
    obtain ⟨fA0, fA1, fA2, fA3⟩ := pA.facts
    obtain ⟨fB0, fB1, fB2, fB3⟩ := pB.facts
    obtain ⟨fC0, fC1, fC2, fC3⟩ := pC.facts
    go_wp2_with fail
    refine (cmp_is _ hn hd hm hc hC).mono ?_
    rintro e w2 ⟨rfl, hb⟩
    clear fA0 fA1 fA2 fA3
    clear fB0 fB1 fB2 fB3
    clear fC0 fC1 fC2 fC3
    have pD := (Pair.made w1 _ _ 23).kept hb
    replace pA := (pA.alloc _).kept hb
    replace pB := (pB.alloc _).kept hb
    replace pC := (pC.alloc _).kept hb
    replace hB := on_box hB hb
    clear hb
    obtain ⟨fA0, fA1, fA2, fA3⟩ := pA.facts
    obtain ⟨fB0, fB1, fB2, fB3⟩ := pB.facts
    obtain ⟨fC0, fC1, fC2, fC3⟩ := pC.facts
    obtain ⟨fD0, fD1, fD2, fD3⟩ := pD.facts
    go_wp2_with fail
    refine (shown_any _ (HF.out.on hB)).mono ?_
    rintro e wz ⟨rfl, hb⟩
    go_wp2_with fail
    go_ret
    exact ⟨rfl, below_on hB hb⟩

set_option maxRecDepth 100000 in
set_option maxHeartbeats 1600000 in
theorem walk_far (n d m c k l : Int) (w : World) (hF : Fit w) (hn : I64 n) (hd : I64 d) (hm : I64 m) (hc : I64 c) (h : midB n d m c = true) (he : mkErr (midX n d m c) (midY n d m c) ≠ 0) :
    Calls Tryd.prog 8 #[.agg #[.int .i64 n, .int .i64 d], .agg #[.int .i64 m, .int .i64 c], .agg #[.int .i64 k, .int .i64 l]] w (Made (.bool true) w) := by
  have HF := Lib.hid hF
  clear hF
  obtain ⟨hA, hK⟩ := mid_args h
  have hy : midY n d m c ≠ 0 := by have := (smp_rng _ hA hK).2.1; unfold midY; omega
  obtain ⟨e1, e2, e3⟩ := mk_zero hy he
  have hC : CmpIs n d m c (-1) 0 := by
    have h' := h; unfold midB at h'; simp at h'; exact cmp_less h'.1.1 h'.1.2 h'.2
  have M1 := Lib.hid (show opNum (midB n d m c) (midX n d m c) (midY n d m c) = 0 by rw [h, opNum, if_pos rfl, e1])
  have M2 := Lib.hid (show opDen (midB n d m c) (midX n d m c) (midY n d m c) = 0 by rw [h, opDen, if_pos rfl, e2])
  have M3 := Lib.hid (show opErr (midB n d m c) (midX n d m c) (midY n d m c) = 7 by rw [h, opErr, if_pos rfl, e3])
  clear h he hA hK hy e1 e2 e3
  go_enter Tryd.func8, Tryd.ntmps8
  go_wp2_with fail
  refine (mid_as _ hn hd hm hc M1.out M2.out M3.out).mono ?_
  rintro e w1 ⟨rfl, hb⟩
  obtain ⟨pA, pB, pC, z1, hB⟩ := three_pairs hb
  clear hb
  have g1 : w.heap.size < w1.heap.size := by omega
  have g2 : w.heap.size + 1 < w1.heap.size := by omega
  have g3 : w.heap.size + 2 < w1.heap.size := by omega
  have g4 : w.heap.size + 1 + 1 < w1.heap.size := by omega
  obtain ⟨fA0, fA1, fA2, fA3⟩ := pA.facts
  obtain ⟨fB0, fB1, fB2, fB3⟩ := pB.facts
  obtain ⟨fC0, fC1, fC2, fC3⟩ := pC.facts
  go_wp2_with fail
  refine (cmp_is _ hn hd hm hc hC).mono ?_
  rintro e w2 ⟨rfl, hb⟩
  clear fA0 fA1 fA2 fA3
  clear fB0 fB1 fB2 fB3
  clear fC0 fC1 fC2 fC3
  have pD := (Pair.made w1 _ _ 23).kept hb
  replace pA := (pA.alloc _).kept hb
  replace pB := (pB.alloc _).kept hb
  replace pC := (pC.alloc _).kept hb
  replace hB := on_box hB hb
  clear hb
  obtain ⟨fA0, fA1, fA2, fA3⟩ := pA.facts
  obtain ⟨fB0, fB1, fB2, fB3⟩ := pB.facts
  obtain ⟨fC0, fC1, fC2, fC3⟩ := pC.facts
  obtain ⟨fD0, fD1, fD2, fD3⟩ := pD.facts
  go_wp2_with fail
  refine (shown_any _ (HF.out.on hB)).mono ?_
  rintro e wz ⟨rfl, hb⟩
  go_wp2_with fail
  go_ret
  exact ⟨rfl, below_on hB hb⟩

set_option maxRecDepth 100000 in
set_option maxHeartbeats 3200000 in
theorem walk_other (n d m c k l : Int) (w : World) (hF : Fit w) (hn : I64 n) (hd : I64 d) (hm : I64 m) (hc : I64 c) (hk : I64 k) (hl : I64 l) (h : midB n d m c = true) (he : mkErr (midX n d m c) (midY n d m c) = 0) (ho : ¬ (vldB k l = true ∧ n * l < k * d ∧ k * c < m * l)) :
    Calls Tryd.prog 8 #[.agg #[.int .i64 n, .int .i64 d], .agg #[.int .i64 m, .int .i64 c], .agg #[.int .i64 k, .int .i64 l]] w (Made (.bool true) w) := by
  have HF := Lib.hid hF
  clear hF
  obtain ⟨e1, e2, hv, hbest⟩ := mid_best h he
  have h' := h
  unfold midB at h'
  simp at h'
  obtain ⟨⟨v1, v2⟩, hlt⟩ := h'
  have hC : CmpIs n d m c (-1) 0 := cmp_less v1 v2 hlt
  have M1 := Lib.hid (show opNum (midB n d m c) (midX n d m c) (midY n d m c) = midX n d m c by rw [h, opNum, if_pos rfl, e1])
  have M2 := Lib.hid (show opDen (midB n d m c) (midX n d m c) (midY n d m c) = midY n d m c by rw [h, opDen, if_pos rfl, e2])
  have M3 := Lib.hid (show opErr (midB n d m c) (midX n d m c) (midY n d m c) = 0 by rw [h, opErr, if_pos rfl, he])
  have HM := Lib.hid (fun W => mid_as W hn hd hm hc M1.out M2.out M3.out)
  clear h he e1 e2 M1 M2 M3
  generalize midX n d m c = X at *
  generalize midY n d m c = Y at *
  obtain ⟨y1, b1, b2, mn⟩ := hbest
  have hC2 : CmpIs n d X Y (-1) 0 := cmp_less v1 hv b1
  have hC3 : CmpIs X Y m c (-1) 0 := cmp_less hv v2 b2
  obtain ⟨x1, x2, x3, x4⟩ := vld_bd hv
  have hX : I64 X := ⟨by omega, by omega⟩
  have hY : I64 Y := ⟨by omega, by omega⟩
  clear mn
  by_cases hL : vldB k l = true ∧ n * l < k * d
  · have C4 : CmpIs n d k l (-1) 0 := cmp_less v1 hL.1 hL.2
    rcases cmp_else (n := k) (d := l) (m := m) (c := c) (fun h => ho ⟨hL.1, hL.2, h.2.2⟩) with C5 | ⟨q5, hq5, C5⟩
    · clear ho hL hlt b1 b2 v1 v2 hv
      go_enter Tryd.func8, Tryd.ntmps8
      go_wp2_with fail
      refine (HM.out _).mono ?_
      rintro e w1 ⟨rfl, hb⟩
      obtain ⟨pA, pB, pC, z1, hB⟩ := three_pairs hb
      clear hb
      have g1 : w.heap.size < w1.heap.size := by omega
      have g2 : w.heap.size + 1 < w1.heap.size := by omega
      have g3 : w.heap.size + 2 < w1.heap.size := by omega
      have g4 : w.heap.size + 1 + 1 < w1.heap.size := by omega
      obtain ⟨fA0, fA1, fA2, fA3⟩ := pA.facts
      obtain ⟨fB0, fB1, fB2, fB3⟩ := pB.facts
      obtain ⟨fC0, fC1, fC2, fC3⟩ := pC.facts
      go_wp2_with fail
      refine (cmp_is _ hn hd hm hc hC).mono ?_
      rintro e w2 ⟨rfl, hb⟩
      clear fA0 fA1 fA2 fA3
      clear fB0 fB1 fB2 fB3
      clear fC0 fC1 fC2 fC3
      have pD := (Pair.made w1 _ _ 23).kept hb
      replace pA := (pA.alloc _).kept hb
      replace pB := (pB.alloc _).kept hb
      replace pC := (pC.alloc _).kept hb
      replace hB := on_box hB hb
      clear hb
      obtain ⟨fA0, fA1, fA2, fA3⟩ := pA.facts
      obtain ⟨fB0, fB1, fB2, fB3⟩ := pB.facts
      obtain ⟨fC0, fC1, fC2, fC3⟩ := pC.facts
      obtain ⟨fD0, fD1, fD2, fD3⟩ := pD.facts
      go_wp2_with fail
      refine (cmp_is _ hn hd hX hY hC2).mono ?_
      rintro e w3 ⟨rfl, hb⟩
      clear fA0 fA1 fA2 fA3
      clear fB0 fB1 fB2 fB3
      clear fC0 fC1 fC2 fC3
      clear fD0 fD1 fD2 fD3
      replace pA := pA.kept hb
      replace pB := pB.kept hb
      replace pC := pC.kept hb
      replace pD := pD.kept hb
      replace hB := below_on hB hb
      clear hb
      obtain ⟨fA0, fA1, fA2, fA3⟩ := pA.facts
      obtain ⟨fB0, fB1, fB2, fB3⟩ := pB.facts
      obtain ⟨fC0, fC1, fC2, fC3⟩ := pC.facts
      obtain ⟨fD0, fD1, fD2, fD3⟩ := pD.facts
      go_wp2_with fail
      refine (cmp_is _ hX hY hm hc hC3).mono ?_
      rintro e w4 ⟨rfl, hb⟩
      clear fA0 fA1 fA2 fA3
      clear fB0 fB1 fB2 fB3
      clear fC0 fC1 fC2 fC3
      clear fD0 fD1 fD2 fD3
      replace pA := pA.kept hb
      replace pB := pB.kept hb
      replace pC := pC.kept hb
      replace pD := pD.kept hb
      replace hB := below_on hB hb
      clear hb
      obtain ⟨fA0, fA1, fA2, fA3⟩ := pA.facts
      obtain ⟨fB0, fB1, fB2, fB3⟩ := pB.facts
      obtain ⟨fC0, fC1, fC2, fC3⟩ := pC.facts
      obtain ⟨fD0, fD1, fD2, fD3⟩ := pD.facts
      go_wp2_with fail
      refine (cmp_is _ hn hd hk hl C4).mono ?_
      rintro e w5 ⟨rfl, hb⟩
      clear fA0 fA1 fA2 fA3
      clear fB0 fB1 fB2 fB3
      clear fC0 fC1 fC2 fC3
      clear fD0 fD1 fD2 fD3
      replace pA := pA.kept hb
      replace pB := pB.kept hb
      replace pC := pC.kept hb
      replace pD := pD.kept hb
      replace hB := below_on hB hb
      clear hb
      obtain ⟨fA0, fA1, fA2, fA3⟩ := pA.facts
      obtain ⟨fB0, fB1, fB2, fB3⟩ := pB.facts
      obtain ⟨fC0, fC1, fC2, fC3⟩ := pC.facts
      obtain ⟨fD0, fD1, fD2, fD3⟩ := pD.facts
      go_wp2_with fail
      refine (cmp_is _ hk hl hm hc C5).mono ?_
      rintro e w6 ⟨rfl, hb⟩
      clear fA0 fA1 fA2 fA3
      clear fB0 fB1 fB2 fB3
      clear fC0 fC1 fC2 fC3
      clear fD0 fD1 fD2 fD3
      replace pA := pA.kept hb
      replace pB := pB.kept hb
      replace pC := pC.kept hb
      replace pD := pD.kept hb
      replace hB := below_on hB hb
      clear hb
      obtain ⟨fA0, fA1, fA2, fA3⟩ := pA.facts
      obtain ⟨fB0, fB1, fB2, fB3⟩ := pB.facts
      obtain ⟨fC0, fC1, fC2, fC3⟩ := pC.facts
      obtain ⟨fD0, fD1, fD2, fD3⟩ := pD.facts
      go_wp2_with fail
      refine (shown_any _ (HF.out.on hB)).mono ?_
      rintro e wz ⟨rfl, hb⟩
      go_wp2_with fail
      go_ret
      exact ⟨rfl, below_on hB hb⟩
    · clear ho hL hlt b1 b2 v1 v2 hv
      go_enter Tryd.func8, Tryd.ntmps8
      go_wp2_with fail
      refine (HM.out _).mono ?_
      rintro e w1 ⟨rfl, hb⟩
      obtain ⟨pA, pB, pC, z1, hB⟩ := three_pairs hb
      clear hb
      have g1 : w.heap.size < w1.heap.size := by omega
      have g2 : w.heap.size + 1 < w1.heap.size := by omega
      have g3 : w.heap.size + 2 < w1.heap.size := by omega
      have g4 : w.heap.size + 1 + 1 < w1.heap.size := by omega
      obtain ⟨fA0, fA1, fA2, fA3⟩ := pA.facts
      obtain ⟨fB0, fB1, fB2, fB3⟩ := pB.facts
      obtain ⟨fC0, fC1, fC2, fC3⟩ := pC.facts
      go_wp2_with fail
      refine (cmp_is _ hn hd hm hc hC).mono ?_
      rintro e w2 ⟨rfl, hb⟩
      clear fA0 fA1 fA2 fA3
      clear fB0 fB1 fB2 fB3
      clear fC0 fC1 fC2 fC3
      have pD := (Pair.made w1 _ _ 23).kept hb
      replace pA := (pA.alloc _).kept hb
      replace pB := (pB.alloc _).kept hb
      replace pC := (pC.alloc _).kept hb
      replace hB := on_box hB hb
      clear hb
      obtain ⟨fA0, fA1, fA2, fA3⟩ := pA.facts
      obtain ⟨fB0, fB1, fB2, fB3⟩ := pB.facts
      obtain ⟨fC0, fC1, fC2, fC3⟩ := pC.facts
      obtain ⟨fD0, fD1, fD2, fD3⟩ := pD.facts
      go_wp2_with fail
      refine (cmp_is _ hn hd hX hY hC2).mono ?_
      rintro e w3 ⟨rfl, hb⟩
      clear fA0 fA1 fA2 fA3
      clear fB0 fB1 fB2 fB3
      clear fC0 fC1 fC2 fC3
      clear fD0 fD1 fD2 fD3
      replace pA := pA.kept hb
      replace pB := pB.kept hb
      replace pC := pC.kept hb
      replace pD := pD.kept hb
      replace hB := below_on hB hb
      clear hb
      obtain ⟨fA0, fA1, fA2, fA3⟩ := pA.facts
      obtain ⟨fB0, fB1, fB2, fB3⟩ := pB.facts
      obtain ⟨fC0, fC1, fC2, fC3⟩ := pC.facts
      obtain ⟨fD0, fD1, fD2, fD3⟩ := pD.facts
      go_wp2_with fail
      refine (cmp_is _ hX hY hm hc hC3).mono ?_
      rintro e w4 ⟨rfl, hb⟩
      clear fA0 fA1 fA2 fA3
      clear fB0 fB1 fB2 fB3
      clear fC0 fC1 fC2 fC3
      clear fD0 fD1 fD2 fD3
      replace pA := pA.kept hb
      replace pB := pB.kept hb
      replace pC := pC.kept hb
      replace pD := pD.kept hb
      replace hB := below_on hB hb
      clear hb
      obtain ⟨fA0, fA1, fA2, fA3⟩ := pA.facts
      obtain ⟨fB0, fB1, fB2, fB3⟩ := pB.facts
      obtain ⟨fC0, fC1, fC2, fC3⟩ := pC.facts
      obtain ⟨fD0, fD1, fD2, fD3⟩ := pD.facts
      go_wp2_with fail
      refine (cmp_is _ hn hd hk hl C4).mono ?_
      rintro e w5 ⟨rfl, hb⟩
      clear fA0 fA1 fA2 fA3
      clear fB0 fB1 fB2 fB3
      clear fC0 fC1 fC2 fC3
      clear fD0 fD1 fD2 fD3
      replace pA := pA.kept hb
      replace pB := pB.kept hb
      replace pC := pC.kept hb
      replace pD := pD.kept hb
      replace hB := below_on hB hb
      clear hb
      obtain ⟨fA0, fA1, fA2, fA3⟩ := pA.facts
      obtain ⟨fB0, fB1, fB2, fB3⟩ := pB.facts
      obtain ⟨fC0, fC1, fC2, fC3⟩ := pC.facts
      obtain ⟨fD0, fD1, fD2, fD3⟩ := pD.facts
      go_wp2_with fail
      refine (cmp_is _ hk hl hm hc C5).mono ?_
      rintro e w6 ⟨rfl, hb⟩
      clear fA0 fA1 fA2 fA3
      clear fB0 fB1 fB2 fB3
      clear fC0 fC1 fC2 fC3
      clear fD0 fD1 fD2 fD3
      replace pA := pA.kept hb
      replace pB := pB.kept hb
      replace pC := pC.kept hb
      replace pD := pD.kept hb
      replace hB := below_on hB hb
      clear hb
      obtain ⟨fA0, fA1, fA2, fA3⟩ := pA.facts
      obtain ⟨fB0, fB1, fB2, fB3⟩ := pB.facts
      obtain ⟨fC0, fC1, fC2, fC3⟩ := pC.facts
      obtain ⟨fD0, fD1, fD2, fD3⟩ := pD.facts
      go_wp2_with fail
      refine (shown_any _ (HF.out.on hB)).mono ?_
      rintro e wz ⟨rfl, hb⟩
      go_wp2_with fail
      go_ret
      exact ⟨rfl, below_on hB hb⟩
  · have C5 : ∃ q e, CmpIs k l m c q e := ⟨_, _, rfl, rfl⟩
    obtain ⟨q5, e5, C5⟩ := C5
    rcases cmp_else (n := n) (d := d) (m := k) (c := l) (fun h => hL ⟨h.2.1, h.2.2⟩) with C4 | ⟨q4, hq4, C4⟩
    · clear ho hL hlt b1 b2 v1 v2 hv
      go_enter Tryd.func8, Tryd.ntmps8
      go_wp2_with fail
      refine (HM.out _).mono ?_
      rintro e w1 ⟨rfl, hb⟩
      obtain ⟨pA, pB, pC, z1, hB⟩ := three_pairs hb
      clear hb
      have g1 : w.heap.size < w1.heap.size := by omega
      have g2 : w.heap.size + 1 < w1.heap.size := by omega
      have g3 : w.heap.size + 2 < w1.heap.size := by omega
      have g4 : w.heap.size + 1 + 1 < w1.heap.size := by omega
      obtain ⟨fA0, fA1, fA2, fA3⟩ := pA.facts
      obtain ⟨fB0, fB1, fB2, fB3⟩ := pB.facts
      obtain ⟨fC0, fC1, fC2, fC3⟩ := pC.facts
      go_wp2_with fail
      refine (cmp_is _ hn hd hm hc hC).mono ?_
      rintro e w2 ⟨rfl, hb⟩
      clear fA0 fA1 fA2 fA3
      clear fB0 fB1 fB2 fB3
      clear fC0 fC1 fC2 fC3
      have pD := (Pair.made w1 _ _ 23).kept hb
      replace pA := (pA.alloc _).kept hb
      replace pB := (pB.alloc _).kept hb
      replace pC := (pC.alloc _).kept hb
      replace hB := on_box hB hb
      clear hb
      obtain ⟨fA0, fA1, fA2, fA3⟩ := pA.facts
      obtain ⟨fB0, fB1, fB2, fB3⟩ := pB.facts
      obtain ⟨fC0, fC1, fC2, fC3⟩ := pC.facts
      obtain ⟨fD0, fD1, fD2, fD3⟩ := pD.facts
      go_wp2_with fail
      refine (cmp_is _ hn hd hX hY hC2).mono ?_
      rintro e w3 ⟨rfl, hb⟩
      clear fA0 fA1 fA2 fA3
      clear fB0 fB1 fB2 fB3
      clear fC0 fC1 fC2 fC3
      clear fD0 fD1 fD2 fD3
      replace pA := pA.kept hb
      replace pB := pB.kept hb
      replace pC := pC.kept hb
      replace pD := pD.kept hb
      replace hB := below_on hB hb
      clear hb
      obtain ⟨fA0, fA1, fA2, fA3⟩ := pA.facts
      obtain ⟨fB0, fB1, fB2, fB3⟩ := pB.facts
      obtain ⟨fC0, fC1, fC2, fC3⟩ := pC.facts
      obtain ⟨fD0, fD1, fD2, fD3⟩ := pD.facts
      go_wp2_with fail
      refine (cmp_is _ hX hY hm hc hC3).mono ?_
      rintro e w4 ⟨rfl, hb⟩
      clear fA0 fA1 fA2 fA3
      clear fB0 fB1 fB2 fB3
      clear fC0 fC1 fC2 fC3
      clear fD0 fD1 fD2 fD3
      replace pA := pA.kept hb
      replace pB := pB.kept hb
      replace pC := pC.kept hb
      replace pD := pD.kept hb
      replace hB := below_on hB hb
      clear hb
      obtain ⟨fA0, fA1, fA2, fA3⟩ := pA.facts
      obtain ⟨fB0, fB1, fB2, fB3⟩ := pB.facts
      obtain ⟨fC0, fC1, fC2, fC3⟩ := pC.facts
      obtain ⟨fD0, fD1, fD2, fD3⟩ := pD.facts
      go_wp2_with fail
      refine (cmp_is _ hn hd hk hl C4).mono ?_
      rintro e w5 ⟨rfl, hb⟩
      clear fA0 fA1 fA2 fA3
      clear fB0 fB1 fB2 fB3
      clear fC0 fC1 fC2 fC3
      clear fD0 fD1 fD2 fD3
      replace pA := pA.kept hb
      replace pB := pB.kept hb
      replace pC := pC.kept hb
      replace pD := pD.kept hb
      replace hB := below_on hB hb
      clear hb
      obtain ⟨fA0, fA1, fA2, fA3⟩ := pA.facts
      obtain ⟨fB0, fB1, fB2, fB3⟩ := pB.facts
      obtain ⟨fC0, fC1, fC2, fC3⟩ := pC.facts
      obtain ⟨fD0, fD1, fD2, fD3⟩ := pD.facts
      go_wp2_with fail
      refine (cmp_is _ hk hl hm hc C5).mono ?_
      rintro e w6 ⟨rfl, hb⟩
      clear fA0 fA1 fA2 fA3
      clear fB0 fB1 fB2 fB3
      clear fC0 fC1 fC2 fC3
      clear fD0 fD1 fD2 fD3
      replace pA := pA.kept hb
      replace pB := pB.kept hb
      replace pC := pC.kept hb
      replace pD := pD.kept hb
      replace hB := below_on hB hb
      clear hb
      obtain ⟨fA0, fA1, fA2, fA3⟩ := pA.facts
      obtain ⟨fB0, fB1, fB2, fB3⟩ := pB.facts
      obtain ⟨fC0, fC1, fC2, fC3⟩ := pC.facts
      obtain ⟨fD0, fD1, fD2, fD3⟩ := pD.facts
      go_wp2_with fail
      refine (shown_any _ (HF.out.on hB)).mono ?_
      rintro e wz ⟨rfl, hb⟩
      go_wp2_with fail
      go_ret
      exact ⟨rfl, below_on hB hb⟩
    · clear ho hL hlt b1 b2 v1 v2 hv
      by_cases hz5 : e5 = 0
      · subst hz5
        go_enter Tryd.func8, Tryd.ntmps8
        go_wp2_with fail
        refine (HM.out _).mono ?_
        rintro e w1 ⟨rfl, hb⟩
        obtain ⟨pA, pB, pC, z1, hB⟩ := three_pairs hb
        clear hb
        have g1 : w.heap.size < w1.heap.size := by omega
        have g2 : w.heap.size + 1 < w1.heap.size := by omega
        have g3 : w.heap.size + 2 < w1.heap.size := by omega
        have g4 : w.heap.size + 1 + 1 < w1.heap.size := by omega
        obtain ⟨fA0, fA1, fA2, fA3⟩ := pA.facts
        obtain ⟨fB0, fB1, fB2, fB3⟩ := pB.facts
        obtain ⟨fC0, fC1, fC2, fC3⟩ := pC.facts
        go_wp2_with fail
        refine (cmp_is _ hn hd hm hc hC).mono ?_
        rintro e w2 ⟨rfl, hb⟩
        clear fA0 fA1 fA2 fA3
        clear fB0 fB1 fB2 fB3
        clear fC0 fC1 fC2 fC3
        have pD := (Pair.made w1 _ _ 23).kept hb
        replace pA := (pA.alloc _).kept hb
        replace pB := (pB.alloc _).kept hb
        replace pC := (pC.alloc _).kept hb
        replace hB := on_box hB hb
        clear hb
        obtain ⟨fA0, fA1, fA2, fA3⟩ := pA.facts
        obtain ⟨fB0, fB1, fB2, fB3⟩ := pB.facts
        obtain ⟨fC0, fC1, fC2, fC3⟩ := pC.facts
        obtain ⟨fD0, fD1, fD2, fD3⟩ := pD.facts
        go_wp2_with fail
        refine (cmp_is _ hn hd hX hY hC2).mono ?_
        rintro e w3 ⟨rfl, hb⟩
        clear fA0 fA1 fA2 fA3
        clear fB0 fB1 fB2 fB3
        clear fC0 fC1 fC2 fC3
        clear fD0 fD1 fD2 fD3
        replace pA := pA.kept hb
        replace pB := pB.kept hb
        replace pC := pC.kept hb
        replace pD := pD.kept hb
        replace hB := below_on hB hb
        clear hb
        obtain ⟨fA0, fA1, fA2, fA3⟩ := pA.facts
        obtain ⟨fB0, fB1, fB2, fB3⟩ := pB.facts
        obtain ⟨fC0, fC1, fC2, fC3⟩ := pC.facts
        obtain ⟨fD0, fD1, fD2, fD3⟩ := pD.facts
        go_wp2_with fail
        refine (cmp_is _ hX hY hm hc hC3).mono ?_
        rintro e w4 ⟨rfl, hb⟩
        clear fA0 fA1 fA2 fA3
        clear fB0 fB1 fB2 fB3
        clear fC0 fC1 fC2 fC3
        clear fD0 fD1 fD2 fD3
        replace pA := pA.kept hb
        replace pB := pB.kept hb
        replace pC := pC.kept hb
        replace pD := pD.kept hb
        replace hB := below_on hB hb
        clear hb
        obtain ⟨fA0, fA1, fA2, fA3⟩ := pA.facts
        obtain ⟨fB0, fB1, fB2, fB3⟩ := pB.facts
        obtain ⟨fC0, fC1, fC2, fC3⟩ := pC.facts
        obtain ⟨fD0, fD1, fD2, fD3⟩ := pD.facts
        go_wp2_with fail
        refine (cmp_is _ hn hd hk hl C4).mono ?_
        rintro e w5 ⟨rfl, hb⟩
        clear fA0 fA1 fA2 fA3
        clear fB0 fB1 fB2 fB3
        clear fC0 fC1 fC2 fC3
        clear fD0 fD1 fD2 fD3
        replace pA := pA.kept hb
        replace pB := pB.kept hb
        replace pC := pC.kept hb
        replace pD := pD.kept hb
        replace hB := below_on hB hb
        clear hb
        obtain ⟨fA0, fA1, fA2, fA3⟩ := pA.facts
        obtain ⟨fB0, fB1, fB2, fB3⟩ := pB.facts
        obtain ⟨fC0, fC1, fC2, fC3⟩ := pC.facts
        obtain ⟨fD0, fD1, fD2, fD3⟩ := pD.facts
        go_wp2_with fail
        refine (cmp_is _ hk hl hm hc C5).mono ?_
        rintro e w6 ⟨rfl, hb⟩
        clear fA0 fA1 fA2 fA3
        clear fB0 fB1 fB2 fB3
        clear fC0 fC1 fC2 fC3
        clear fD0 fD1 fD2 fD3
        replace pA := pA.kept hb
        replace pB := pB.kept hb
        replace pC := pC.kept hb
        replace pD := pD.kept hb
        replace hB := below_on hB hb
        clear hb
        obtain ⟨fA0, fA1, fA2, fA3⟩ := pA.facts
        obtain ⟨fB0, fB1, fB2, fB3⟩ := pB.facts
        obtain ⟨fC0, fC1, fC2, fC3⟩ := pC.facts
        obtain ⟨fD0, fD1, fD2, fD3⟩ := pD.facts
        go_wp2_with fail
        refine (shown_any _ (HF.out.on hB)).mono ?_
        rintro e wz ⟨rfl, hb⟩
        go_wp2_with fail
        go_ret
        exact ⟨rfl, below_on hB hb⟩
      · have z5 : (e5 == 0) = false := by simpa using hz5
        have z5b : (e5 != 0) = true := by simpa using hz5
        go_enter Tryd.func8, Tryd.ntmps8
        go_wp2_with fail
        refine (HM.out _).mono ?_
        rintro e w1 ⟨rfl, hb⟩
        obtain ⟨pA, pB, pC, z1, hB⟩ := three_pairs hb
        clear hb
        have g1 : w.heap.size < w1.heap.size := by omega
        have g2 : w.heap.size + 1 < w1.heap.size := by omega
        have g3 : w.heap.size + 2 < w1.heap.size := by omega
        have g4 : w.heap.size + 1 + 1 < w1.heap.size := by omega
        obtain ⟨fA0, fA1, fA2, fA3⟩ := pA.facts
        obtain ⟨fB0, fB1, fB2, fB3⟩ := pB.facts
        obtain ⟨fC0, fC1, fC2, fC3⟩ := pC.facts
        go_wp2_with fail
        refine (cmp_is _ hn hd hm hc hC).mono ?_
        rintro e w2 ⟨rfl, hb⟩
        clear fA0 fA1 fA2 fA3
        clear fB0 fB1 fB2 fB3
        clear fC0 fC1 fC2 fC3
        have pD := (Pair.made w1 _ _ 23).kept hb
        replace pA := (pA.alloc _).kept hb
        replace pB := (pB.alloc _).kept hb
        replace pC := (pC.alloc _).kept hb
        replace hB := on_box hB hb
        clear hb
        obtain ⟨fA0, fA1, fA2, fA3⟩ := pA.facts
        obtain ⟨fB0, fB1, fB2, fB3⟩ := pB.facts
        obtain ⟨fC0, fC1, fC2, fC3⟩ := pC.facts
        obtain ⟨fD0, fD1, fD2, fD3⟩ := pD.facts
        go_wp2_with fail
        refine (cmp_is _ hn hd hX hY hC2).mono ?_
        rintro e w3 ⟨rfl, hb⟩
        clear fA0 fA1 fA2 fA3
        clear fB0 fB1 fB2 fB3
        clear fC0 fC1 fC2 fC3
        clear fD0 fD1 fD2 fD3
        replace pA := pA.kept hb
        replace pB := pB.kept hb
        replace pC := pC.kept hb
        replace pD := pD.kept hb
        replace hB := below_on hB hb
        clear hb
        obtain ⟨fA0, fA1, fA2, fA3⟩ := pA.facts
        obtain ⟨fB0, fB1, fB2, fB3⟩ := pB.facts
        obtain ⟨fC0, fC1, fC2, fC3⟩ := pC.facts
        obtain ⟨fD0, fD1, fD2, fD3⟩ := pD.facts
        go_wp2_with fail
        refine (cmp_is _ hX hY hm hc hC3).mono ?_
        rintro e w4 ⟨rfl, hb⟩
        clear fA0 fA1 fA2 fA3
        clear fB0 fB1 fB2 fB3
        clear fC0 fC1 fC2 fC3
        clear fD0 fD1 fD2 fD3
        replace pA := pA.kept hb
        replace pB := pB.kept hb
        replace pC := pC.kept hb
        replace pD := pD.kept hb
        replace hB := below_on hB hb
        clear hb
        obtain ⟨fA0, fA1, fA2, fA3⟩ := pA.facts
        obtain ⟨fB0, fB1, fB2, fB3⟩ := pB.facts
        obtain ⟨fC0, fC1, fC2, fC3⟩ := pC.facts
        obtain ⟨fD0, fD1, fD2, fD3⟩ := pD.facts
        go_wp2_with fail
        refine (cmp_is _ hn hd hk hl C4).mono ?_
        rintro e w5 ⟨rfl, hb⟩
        clear fA0 fA1 fA2 fA3
        clear fB0 fB1 fB2 fB3
        clear fC0 fC1 fC2 fC3
        clear fD0 fD1 fD2 fD3
        replace pA := pA.kept hb
        replace pB := pB.kept hb
        replace pC := pC.kept hb
        replace pD := pD.kept hb
        replace hB := below_on hB hb
        clear hb
        obtain ⟨fA0, fA1, fA2, fA3⟩ := pA.facts
        obtain ⟨fB0, fB1, fB2, fB3⟩ := pB.facts
        obtain ⟨fC0, fC1, fC2, fC3⟩ := pC.facts
        obtain ⟨fD0, fD1, fD2, fD3⟩ := pD.facts
        go_wp2_with fail
        refine (cmp_is _ hk hl hm hc C5).mono ?_
        rintro e w6 ⟨rfl, hb⟩
        clear fA0 fA1 fA2 fA3
        clear fB0 fB1 fB2 fB3
        clear fC0 fC1 fC2 fC3
        clear fD0 fD1 fD2 fD3
        replace pA := pA.kept hb
        replace pB := pB.kept hb
        replace pC := pC.kept hb
        replace pD := pD.kept hb
        replace hB := below_on hB hb
        clear hb
        obtain ⟨fA0, fA1, fA2, fA3⟩ := pA.facts
        obtain ⟨fB0, fB1, fB2, fB3⟩ := pB.facts
        obtain ⟨fC0, fC1, fC2, fC3⟩ := pC.facts
        obtain ⟨fD0, fD1, fD2, fD3⟩ := pD.facts
        go_wp2_with fail
        refine (shown_any _ (HF.out.on hB)).mono ?_
        rintro e wz ⟨rfl, hb⟩
        go_wp2_with fail
        go_ret
        exact ⟨rfl, below_on hB hb⟩

set_option maxRecDepth 100000 in
set_option maxHeartbeats 3200000 in
theorem walk_between (n d m c k l : Int) (w : World) (hF : Fit w) (hn : I64 n) (hd : I64 d) (hm : I64 m) (hc : I64 c) (hk : I64 k) (hl : I64 l) (h : midB n d m c = true) (he : mkErr (midX n d m c) (midY n d m c) = 0) (ho : vldB k l = true ∧ n * l < k * d ∧ k * c < m * l) :
    Calls Tryd.prog 8 #[.agg #[.int .i64 n, .int .i64 d], .agg #[.int .i64 m, .int .i64 c], .agg #[.int .i64 k, .int .i64 l]] w (Made (.bool true) w) := by
  have HF := Lib.hid hF
  clear hF
  obtain ⟨e1, e2, hv, hbest⟩ := mid_best h he
  have h' := h
  unfold midB at h'
  simp at h'
  obtain ⟨⟨v1, v2⟩, hlt⟩ := h'
  have hC : CmpIs n d m c (-1) 0 := cmp_less v1 v2 hlt
  have M1 := Lib.hid (show opNum (midB n d m c) (midX n d m c) (midY n d m c) = midX n d m c by rw [h, opNum, if_pos rfl, e1])
  have M2 := Lib.hid (show opDen (midB n d m c) (midX n d m c) (midY n d m c) = midY n d m c by rw [h, opDen, if_pos rfl, e2])
  have M3 := Lib.hid (show opErr (midB n d m c) (midX n d m c) (midY n d m c) = 0 by rw [h, opErr, if_pos rfl, he])
  have HM := Lib.hid (fun W => mid_as W hn hd hm hc M1.out M2.out M3.out)
  clear h he e1 e2 M1 M2 M3
  generalize midX n d m c = X at *
  generalize midY n d m c = Y at *
  obtain ⟨y1, b1, b2, mn⟩ := hbest
  have hC2 : CmpIs n d X Y (-1) 0 := cmp_less v1 hv b1
  have hC3 : CmpIs X Y m c (-1) 0 := cmp_less hv v2 b2
  obtain ⟨x1, x2, x3, x4⟩ := vld_bd hv
  have hX : I64 X := ⟨by omega, by omega⟩
  have hY : I64 Y := ⟨by omega, by omega⟩
  have C4 : CmpIs n d k l (-1) 0 := cmp_less v1 ho.1 ho.2.1
  have C5 : CmpIs k l m c (-1) 0 := cmp_less ho.1 v2 ho.2.2
  obtain ⟨u1, u2, _⟩ := mn k l (vld_bd ho.1).1 ho.2.1 ho.2.2
  clear mn ho hlt b1 b2 v1 v2 hv
  by_cases hq : Y < l
  · clear u2
    go_enter Tryd.func8, Tryd.ntmps8
    go_wp2_with fail
    refine (HM.out _).mono ?_
    rintro e w1 ⟨rfl, hb⟩
    obtain ⟨pA, pB, pC, z1, hB⟩ := three_pairs hb
    clear hb
    have g1 : w.heap.size < w1.heap.size := by omega
    have g2 : w.heap.size + 1 < w1.heap.size := by omega
    have g3 : w.heap.size + 2 < w1.heap.size := by omega
    have g4 : w.heap.size + 1 + 1 < w1.heap.size := by omega
    obtain ⟨fA0, fA1, fA2, fA3⟩ := pA.facts
    obtain ⟨fB0, fB1, fB2, fB3⟩ := pB.facts
    obtain ⟨fC0, fC1, fC2, fC3⟩ := pC.facts
    go_wp2_with fail
    refine (cmp_is _ hn hd hm hc hC).mono ?_
    rintro e w2 ⟨rfl, hb⟩
    clear fA0 fA1 fA2 fA3
    clear fB0 fB1 fB2 fB3
    clear fC0 fC1 fC2 fC3
    have pD := (Pair.made w1 _ _ 23).kept hb
    replace pA := (pA.alloc _).kept hb
    replace pB := (pB.alloc _).kept hb
    replace pC := (pC.alloc _).kept hb
    replace hB := on_box hB hb
    clear hb
    obtain ⟨fA0, fA1, fA2, fA3⟩ := pA.facts
    obtain ⟨fB0, fB1, fB2, fB3⟩ := pB.facts
    obtain ⟨fC0, fC1, fC2, fC3⟩ := pC.facts
    obtain ⟨fD0, fD1, fD2, fD3⟩ := pD.facts
    go_wp2_with fail
    refine (cmp_is _ hn hd hX hY hC2).mono ?_
    rintro e w3 ⟨rfl, hb⟩
    clear fA0 fA1 fA2 fA3
    clear fB0 fB1 fB2 fB3
    clear fC0 fC1 fC2 fC3
    clear fD0 fD1 fD2 fD3
    replace pA := pA.kept hb
    replace pB := pB.kept hb
    replace pC := pC.kept hb
    replace pD := pD.kept hb
    replace hB := below_on hB hb
    clear hb
    obtain ⟨fA0, fA1, fA2, fA3⟩ := pA.facts
    obtain ⟨fB0, fB1, fB2, fB3⟩ := pB.facts
    obtain ⟨fC0, fC1, fC2, fC3⟩ := pC.facts
    obtain ⟨fD0, fD1, fD2, fD3⟩ := pD.facts
    go_wp2_with fail
    refine (cmp_is _ hX hY hm hc hC3).mono ?_
    rintro e w4 ⟨rfl, hb⟩
    clear fA0 fA1 fA2 fA3
    clear fB0 fB1 fB2 fB3
    clear fC0 fC1 fC2 fC3
    clear fD0 fD1 fD2 fD3
    replace pA := pA.kept hb
    replace pB := pB.kept hb
    replace pC := pC.kept hb
    replace pD := pD.kept hb
    replace hB := below_on hB hb
    clear hb
    obtain ⟨fA0, fA1, fA2, fA3⟩ := pA.facts
    obtain ⟨fB0, fB1, fB2, fB3⟩ := pB.facts
    obtain ⟨fC0, fC1, fC2, fC3⟩ := pC.facts
    obtain ⟨fD0, fD1, fD2, fD3⟩ := pD.facts
    go_wp2_with fail
    refine (cmp_is _ hn hd hk hl C4).mono ?_
    rintro e w5 ⟨rfl, hb⟩
    clear fA0 fA1 fA2 fA3
    clear fB0 fB1 fB2 fB3
    clear fC0 fC1 fC2 fC3
    clear fD0 fD1 fD2 fD3
    replace pA := pA.kept hb
    replace pB := pB.kept hb
    replace pC := pC.kept hb
    replace pD := pD.kept hb
    replace hB := below_on hB hb
    clear hb
    obtain ⟨fA0, fA1, fA2, fA3⟩ := pA.facts
    obtain ⟨fB0, fB1, fB2, fB3⟩ := pB.facts
    obtain ⟨fC0, fC1, fC2, fC3⟩ := pC.facts
    obtain ⟨fD0, fD1, fD2, fD3⟩ := pD.facts
    go_wp2_with fail
    refine (cmp_is _ hk hl hm hc C5).mono ?_
    rintro e w6 ⟨rfl, hb⟩
    clear fA0 fA1 fA2 fA3
    clear fB0 fB1 fB2 fB3
    clear fC0 fC1 fC2 fC3
    clear fD0 fD1 fD2 fD3
    replace pA := pA.kept hb
    replace pB := pB.kept hb
    replace pC := pC.kept hb
    replace pD := pD.kept hb
    replace hB := below_on hB hb
    clear hb
    obtain ⟨fA0, fA1, fA2, fA3⟩ := pA.facts
    obtain ⟨fB0, fB1, fB2, fB3⟩ := pB.facts
    obtain ⟨fC0, fC1, fC2, fC3⟩ := pC.facts
    obtain ⟨fD0, fD1, fD2, fD3⟩ := pD.facts
    go_wp2_with fail
    refine (shown_any _ (HF.out.on hB)).mono ?_
    rintro e wz ⟨rfl, hb⟩
    go_wp2_with fail
    go_ret
    exact ⟨rfl, below_on hB hb⟩
  · have e : Y = l := by omega
    have u3 := u2 e
    subst e
    clear u2
    go_enter Tryd.func8, Tryd.ntmps8
    go_wp2_with fail
    refine (HM.out _).mono ?_
    rintro e w1 ⟨rfl, hb⟩
    obtain ⟨pA, pB, pC, z1, hB⟩ := three_pairs hb
    clear hb
    have g1 : w.heap.size < w1.heap.size := by omega
    have g2 : w.heap.size + 1 < w1.heap.size := by omega
    have g3 : w.heap.size + 2 < w1.heap.size := by omega
    have g4 : w.heap.size + 1 + 1 < w1.heap.size := by omega
    obtain ⟨fA0, fA1, fA2, fA3⟩ := pA.facts
    obtain ⟨fB0, fB1, fB2, fB3⟩ := pB.facts
    obtain ⟨fC0, fC1, fC2, fC3⟩ := pC.facts
    go_wp2_with fail
    refine (cmp_is _ hn hd hm hc hC).mono ?_
    rintro e w2 ⟨rfl, hb⟩
    clear fA0 fA1 fA2 fA3
    clear fB0 fB1 fB2 fB3
    clear fC0 fC1 fC2 fC3
    have pD := (Pair.made w1 _ _ 23).kept hb
    replace pA := (pA.alloc _).kept hb
    replace pB := (pB.alloc _).kept hb
    replace pC := (pC.alloc _).kept hb
    replace hB := on_box hB hb
    clear hb
    obtain ⟨fA0, fA1, fA2, fA3⟩ := pA.facts
    obtain ⟨fB0, fB1, fB2, fB3⟩ := pB.facts
    obtain ⟨fC0, fC1, fC2, fC3⟩ := pC.facts
    obtain ⟨fD0, fD1, fD2, fD3⟩ := pD.facts
    go_wp2_with fail
    refine (cmp_is _ hn hd hX hY hC2).mono ?_
    rintro e w3 ⟨rfl, hb⟩
    clear fA0 fA1 fA2 fA3
    clear fB0 fB1 fB2 fB3
    clear fC0 fC1 fC2 fC3
    clear fD0 fD1 fD2 fD3
    replace pA := pA.kept hb
    replace pB := pB.kept hb
    replace pC := pC.kept hb
    replace pD := pD.kept hb
    replace hB := below_on hB hb
    clear hb
    obtain ⟨fA0, fA1, fA2, fA3⟩ := pA.facts
    obtain ⟨fB0, fB1, fB2, fB3⟩ := pB.facts
    obtain ⟨fC0, fC1, fC2, fC3⟩ := pC.facts
    obtain ⟨fD0, fD1, fD2, fD3⟩ := pD.facts
    go_wp2_with fail
    refine (cmp_is _ hX hY hm hc hC3).mono ?_
    rintro e w4 ⟨rfl, hb⟩
    clear fA0 fA1 fA2 fA3
    clear fB0 fB1 fB2 fB3
    clear fC0 fC1 fC2 fC3
    clear fD0 fD1 fD2 fD3
    replace pA := pA.kept hb
    replace pB := pB.kept hb
    replace pC := pC.kept hb
    replace pD := pD.kept hb
    replace hB := below_on hB hb
    clear hb
    obtain ⟨fA0, fA1, fA2, fA3⟩ := pA.facts
    obtain ⟨fB0, fB1, fB2, fB3⟩ := pB.facts
    obtain ⟨fC0, fC1, fC2, fC3⟩ := pC.facts
    obtain ⟨fD0, fD1, fD2, fD3⟩ := pD.facts
    go_wp2_with fail
    refine (cmp_is _ hn hd hk hl C4).mono ?_
    rintro e w5 ⟨rfl, hb⟩
    clear fA0 fA1 fA2 fA3
    clear fB0 fB1 fB2 fB3
    clear fC0 fC1 fC2 fC3
    clear fD0 fD1 fD2 fD3
    replace pA := pA.kept hb
    replace pB := pB.kept hb
    replace pC := pC.kept hb
    replace pD := pD.kept hb
    replace hB := below_on hB hb
    clear hb
    obtain ⟨fA0, fA1, fA2, fA3⟩ := pA.facts
    obtain ⟨fB0, fB1, fB2, fB3⟩ := pB.facts
    obtain ⟨fC0, fC1, fC2, fC3⟩ := pC.facts
    obtain ⟨fD0, fD1, fD2, fD3⟩ := pD.facts
    go_wp2_with fail
    refine (cmp_is _ hk hl hm hc C5).mono ?_
    rintro e w6 ⟨rfl, hb⟩
    clear fA0 fA1 fA2 fA3
    clear fB0 fB1 fB2 fB3
    clear fC0 fC1 fC2 fC3
    clear fD0 fD1 fD2 fD3
    replace pA := pA.kept hb
    replace pB := pB.kept hb
    replace pC := pC.kept hb
    replace pD := pD.kept hb
    replace hB := below_on hB hb
    clear hb
    obtain ⟨fA0, fA1, fA2, fA3⟩ := pA.facts
    obtain ⟨fB0, fB1, fB2, fB3⟩ := pB.facts
    obtain ⟨fC0, fC1, fC2, fC3⟩ := pC.facts
    obtain ⟨fD0, fD1, fD2, fD3⟩ := pD.facts
    go_wp2_with fail
    refine (shown_any _ (HF.out.on hB)).mono ?_
    rintro e wz ⟨rfl, hb⟩
    go_wp2_with fail
    go_ret
    exact ⟨rfl, below_on hB hb⟩

theorem walk (n d m c k l : Int) (w : World) (hF : Fit w) (hn : I64 n) (hd : I64 d) (hm : I64 m) (hc : I64 c) (hk : I64 k) (hl : I64 l) :
    Calls Tryd.prog 8 #[.agg #[.int .i64 n, .int .i64 d], .agg #[.int .i64 m, .int .i64 c], .agg #[.int .i64 k, .int .i64 l]] w (Made (.bool true) w) := by
  cases h : midB n d m c
  · exact walk_no n d m c k l w hF hn hd hm hc h
  · by_cases he : mkErr (midX n d m c) (midY n d m c) = 0
    · by_cases ho : vldB k l = true ∧ n * l < k * d ∧ k * c < m * l
      · exact walk_between n d m c k l w hF hn hd hm hc hk hl h he ho
      · exact walk_other n d m c k l w hF hn hd hm hc hk hl h he ho
    · exact walk_far n d m c k l w hF hn hd hm hc h he

set_option maxRecDepth 100000 in
theorem lifted (os : Os) (started : os.Started) (H : Type) (enc : TypeId × Value → H) :
    ReturnsInHanded {} Tryd.checked os 8 .any (fun w args => (Rows.ratioBetweenSpec.pre enc Tryd.prog Tryd.f8 [] false w args ∧ laidMetH Tryd.prog laid3 w) ∧ sizedMet enc Tryd.prog Tryd.f8 (OpenSpec.ofChange Rows.ratioBetweenSpec) false w args)
      (Rows.ratioBetweenSpec.post enc Tryd.prog Tryd.f8 false true false false) := by
  refine returns_laid_shaped (C := Tryd.checked) (X := fun w _ => laidMetH Tryd.prog laid3 w) (fun _ _ _ hh h => h.of_heap hh) own started (by kernel_rfl) Tryd.func8
    (ChangeSpec.witness_shaped (enc := enc) (C := Tryd.checked) (os := os) (X := fun w _ => laidMetH Tryd.prog laid3 w) false (World.doorLaid Tryd.prog 400 os) #[.agg #[.int .i64 0, .int .i64 0], .agg #[.int .i64 0, .int .i64 0], .agg #[.int .i64 0, .int .i64 0]] 8 rfl (World.shaped_of_RefB (by kernel_rfl) (by kernel_rfl)) (by kernel_rfl) (by kernel_rfl) (by kernel_rfl) (door_met os _)) ?_
  intro W base args ds gs before hval0 hW _ _ hL hsh
  have hF := fit_of hL hsh
  have hval : ∀ (j : Nat) t v, Tryd.f8.params[j]? = some t → args[j]? = some v → Value.okWide Tryd.prog W .any base t v := hval0
  have hW' := hW
  obtain ⟨p, q, hA0, hV, rfl, hfz, hnd⟩ := hW
  have hA : DataW.TrodAll enc Tryd.prog W 0 (fun _ => true) true Tryd.f8.params.toList args.toList ds p := hA0
  rw [Tryd.params8] at hA hval
  obtain ⟨v0, v1, v2, d0, d1, d2, p0, p1, p2, rfl, rfl, rfl, h0, h1, h2⟩ := trodAll_three hA
  obtain ⟨rfl, rfl⟩ := trodVars_none hV
  obtain ⟨c00, c01, y00, y01, m0, rfl, rfl, rfl, hy00, hy01⟩ := open_agg2 Tryd.underlying23 (by kernel_rfl) Tryd.cells23 (hval 0 23 v0 rfl rfl) h0
  obtain ⟨a00, e00, rfl, wa00⟩ := DataW.trod_int Tryd.underlying2 hy00
  obtain ⟨a01, e01, rfl, wa01⟩ := DataW.trod_int Tryd.underlying2 hy01
  simp at e00 e01
  subst e00 e01
  obtain ⟨c10, c11, y10, y11, m1, rfl, rfl, rfl, hy10, hy11⟩ := open_agg2 Tryd.underlying23 (by kernel_rfl) Tryd.cells23 (hval 1 23 v1 rfl rfl) h1
  obtain ⟨a10, e10, rfl, wa10⟩ := DataW.trod_int Tryd.underlying2 hy10
  obtain ⟨a11, e11, rfl, wa11⟩ := DataW.trod_int Tryd.underlying2 hy11
  simp at e10 e11
  subst e10 e11
  obtain ⟨c20, c21, y20, y21, m2, rfl, rfl, rfl, hy20, hy21⟩ := open_agg2 Tryd.underlying23 (by kernel_rfl) Tryd.cells23 (hval 2 23 v2 rfl rfl) h2
  obtain ⟨a20, e20, rfl, wa20⟩ := DataW.trod_int Tryd.underlying2 hy20
  obtain ⟨a21, e21, rfl, wa21⟩ := DataW.trod_int Tryd.underlying2 hy21
  simp at e20 e21
  subst e20 e21
  clear hA0 hval0
  simp only [List.append_nil] at hW'
  refine (walk a00 a01 a10 a11 a20 a21 W hF (bounds_i64 wa00) (bounds_i64 wa01) (bounds_i64 wa10) (bounds_i64 wa11) (bounds_i64 wa20) (bounds_i64 wa21)).mono fun e W' ⟨he, hb⟩ => ?_
  subst he
  have r0 : ∀ (sp : Nat → Bool), DataW.Trod enc Tryd.prog W' 0 sp true 23 (.agg #[.int .i64 a00, .int .i64 a01]) (.agg [.lit (.int .i64 a00), .lit (.int .i64 a01)]) [] := fun sp =>
    shut_agg2 (y0 := (.lit (.int .i64 a00), [])) (y1 := (.lit (.int .i64 a01), [])) Tryd.underlying23 (by kernel_rfl) Tryd.cells23 ⟨1, by simp [DataW.trod, Tryd.underlying2, wa00]⟩ ⟨1, by simp [DataW.trod, Tryd.underlying2, wa01]⟩
  have r1 : ∀ (sp : Nat → Bool), DataW.Trod enc Tryd.prog W' 0 sp true 23 (.agg #[.int .i64 a10, .int .i64 a11]) (.agg [.lit (.int .i64 a10), .lit (.int .i64 a11)]) [] := fun sp =>
    shut_agg2 (y0 := (.lit (.int .i64 a10), [])) (y1 := (.lit (.int .i64 a11), [])) Tryd.underlying23 (by kernel_rfl) Tryd.cells23 ⟨1, by simp [DataW.trod, Tryd.underlying2, wa10]⟩ ⟨1, by simp [DataW.trod, Tryd.underlying2, wa11]⟩
  have r2 : ∀ (sp : Nat → Bool), DataW.Trod enc Tryd.prog W' 0 sp true 23 (.agg #[.int .i64 a20, .int .i64 a21]) (.agg [.lit (.int .i64 a20), .lit (.int .i64 a21)]) [] := fun sp =>
    shut_agg2 (y0 := (.lit (.int .i64 a20), [])) (y1 := (.lit (.int .i64 a21), [])) Tryd.underlying23 (by kernel_rfl) Tryd.cells23 ⟨1, by simp [DataW.trod, Tryd.underlying2, wa20]⟩ ⟨1, by simp [DataW.trod, Tryd.underlying2, wa21]⟩
  exact ⟨_, rfl, post_made hW' hb (fun _ _ _ => trodAll_mk1 (shut_bool Tryd.underlying4 _)) (fun sp => trodAll_mk3 (r0 sp) (r1 sp) (r2 sp)) (fun _ => rfl) (ok_one (by kernel_rfl) rfl (okWide_bool_mk Tryd.underlying4 _))⟩

theorem said : Rows.RatioBetweenSaid :=
  OpenClaim.holds_of_wide 8 Tryd.f8 rfl rfl rfl rfl rfl rfl rfl ⟨rfl, rfl, rfl, rfl, rfl⟩ rfl rfl rfl rfl rfl (by kernel_rfl) Tryd.func8 (by kernel_rfl)
    (of_decide_eq_true (by kernel_rfl)) (by unfold Func.isWrapper; first | (rw [if_pos (by decide +kernel)]; kernel_rfl) | (rw [if_neg (by decide +kernel)]; exact ⟨rfl, rfl⟩))
    (fun os started H enc _ => lifted os started H enc)

theorem proved : Rows.RatioBetweenCardSaid :=
  Claim7.holds_tied_plain_at .later [] [.data, .data, .data] true (true, "37b220b99fbac8cdeffc3cfbaf41194bd7baedb872a775bac3f445b2fae09ae0") false
    said (fun _ h => by cases h) (by kernel_rfl) (fun _ h => by cases h) ratioBetween_row_tie rfl ⟨rfl, rfl⟩ (by kernel_rfl) rfl
    (fun f fn hf hfn => by
      obtain rfl : f = 8 := Option.some.inj ((show Tryd.prog.funcNamed "foliot/foliotlaw01.RatioBetween" = some 8 by kernel_rfl).symm.trans hf) |>.symm
      obtain rfl : fn = Tryd.f8 := (Option.some.inj (Tryd.func8.symm.trans hfn)).symm
      exact ⟨by kernel_rfl, fun j t ht => by
        rw [Tryd.params8] at ht
        have hm : t ∈ [23] := by have := Array.mem_of_getElem? ht; simp at this ⊢; omega
        have hall : ([23].all fun u => !Tryd.prog.wantsStandIn u) = true := by kernel_rfl
        exact (show Tryd.prog.wantsStandIn t = false by simpa using List.all_eq_true.1 hall t hm)⟩)
    (by kernel_rfl)
#print axioms proved
end Go.Proofs.YtnbkphklidjmhaaDoor.Between
