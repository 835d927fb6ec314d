/- Walks of RatioLaws: the sum is out of range; the product is, or y is 0. -/
import Derived.Test.YtnbkphklidjmhaaDoorL0
namespace Go.Proofs.YtnbkphklidjmhaaDoor.Laws
open Go.Proofs.YtnbkphklidjmhaaDoor
open Go.RowKit

set_option maxRecDepth 100000 in
set_option maxHeartbeats 6400000 in
theorem walk_nn (n d m c k l : Int) (w : World) (hF : Fit w) (hn : I64 n) (hd : I64 d) (hm : I64 m) (hc : I64 c) (hk : I64 k) (hl : I64 l) (v1 : vldB n d = true) (v2 : vldB m c = true) (v3 : vldB k l = true) {P1 Q1 E1 P2 Q2 E2 P3 Q3 E3 : Int}
    (i1 : Is (vldB n d && vldB m c) (n * c + m * d) (d * c) P1 Q1 E1) (i2 : Is (vldB n d && vldB m c) (n * m) (d * c) P2 Q2 E2) (i3 : Is (vldB n d && vldB m c) (n * c - m * d) (d * c) P3 Q3 E3) (e1 : E1 ≠ 0) (e2 : E2 ≠ 0) :
    Calls Tryd.prog 7 #[.agg #[.int .i64 n, .int .i64 d], .agg #[.int .i64 m, .int .i64 c], .agg #[.int .i64 k, .int .i64 l]] w (Made (.bool true) w) := by
  have y1 : (E1 == 0) = false := by simpa using e1
  have z1 : (E1 != 0) = true := by simpa using e1
  clear e1
  have y2 : (E2 == 0) = false := by simpa using e2
  have z2 : (E2 != 0) = true := by simpa using e2
  clear e2
  have I1c := Lib.hid (add_comm_is i1)
  have I2c := Lib.hid (mul_comm_is i2)
  have b1 := i1.bd
  have b2 := i2.bd
  have HC := Lib.hid (fun W => cmp_sgn W hn hd hm hc v1 v2)
  have HS := Lib.hid (sgn_ways v1 v2)
  have HP := Lib.hid (sgn_diff v1 v2 i3)
  generalize sgn (n * c) (m * d) = K at *
  have I1 := Lib.hid i1
  have I2 := Lib.hid i2
  have I3 := Lib.hid i3
  have HF := Lib.hid hF
  have V1 := Lib.hid v1
  have V2 := Lib.hid v2
  have V3 := Lib.hid v3
  have HT := Lib.hid (fun W hW => text_of W hW hn hd v1)
  have HR := Lib.hid (fun W hW => read_of W hW hn hd v1)
  have HO := Lib.hid (fun W => others_any n d m c k l W hn hd hm hc hk hl v1 v2 v3)
  generalize (⟨(txt n d).toArray⟩ : ByteArray) = T at *
  clear hF v1 v2 v3 i1 i2 i3
  go_enter Tryd.func7, Tryd.ntmps7
  go_wp2_with fail
  refine (valid_as _ hn hd V1.out).mono ?_
  rintro e w1 ⟨rfl, hb⟩
  obtain ⟨pA, pB, pC, z1, hB⟩ := three_pairs hb
  clear z1
  clear hb
  obtain ⟨fA0, fA1, fA2, fA3⟩ := pA.facts
  have lA := pA.lt
  obtain ⟨fB0, fB1, fB2, fB3⟩ := pB.facts
  have lB := pB.lt
  obtain ⟨fC0, fC1, fC2, fC3⟩ := pC.facts
  have lC := pC.lt
  go_wp2_with fail
  refine (valid_as _ hm hc V2.out).mono ?_
  rintro e w2 ⟨rfl, hb⟩
  clear fA0 fA1 fA2 fA3 lA
  clear fB0 fB1 fB2 fB3 lB
  clear fC0 fC1 fC2 fC3 lC
  replace pA := pA.kept hb
  replace pB := pB.kept hb
  replace pC := pC.kept hb
  replace hB := below_on hB hb
  clear hb
  obtain ⟨fA0, fA1, fA2, fA3⟩ := pA.facts
  have lA := pA.lt
  obtain ⟨fB0, fB1, fB2, fB3⟩ := pB.facts
  have lB := pB.lt
  obtain ⟨fC0, fC1, fC2, fC3⟩ := pC.facts
  have lC := pC.lt
  go_wp2_with fail
  refine (valid_as _ hk hl V3.out).mono ?_
  rintro e w3 ⟨rfl, hb⟩
  clear fA0 fA1 fA2 fA3 lA
  clear fB0 fB1 fB2 fB3 lB
  clear fC0 fC1 fC2 fC3 lC
  replace pA := pA.kept hb
  replace pB := pB.kept hb
  replace pC := pC.kept hb
  replace hB := below_on hB hb
  clear hb
  obtain ⟨fA0, fA1, fA2, fA3⟩ := pA.facts
  have lA := pA.lt
  obtain ⟨fB0, fB1, fB2, fB3⟩ := pB.facts
  have lB := pB.lt
  obtain ⟨fC0, fC1, fC2, fC3⟩ := pC.facts
  have lC := pC.lt
  go_wp2_with fail
  refine (add_is _ hn hd hm hc I1.out).mono ?_
  rintro e w4 ⟨rfl, hb⟩
  clear fA0 fA1 fA2 fA3 lA
  clear fB0 fB1 fB2 fB3 lB
  clear fC0 fC1 fC2 fC3 lC
  replace pA := pA.kept hb
  replace pB := pB.kept hb
  replace pC := pC.kept hb
  replace hB := below_on hB hb
  clear hb
  obtain ⟨fA0, fA1, fA2, fA3⟩ := pA.facts
  have lA := pA.lt
  obtain ⟨fB0, fB1, fB2, fB3⟩ := pB.facts
  have lB := pB.lt
  obtain ⟨fC0, fC1, fC2, fC3⟩ := pC.facts
  have lC := pC.lt
  go_wp2_with fail
  refine (add_is _ hm hc hn hd I1c.out).mono ?_
  rintro e w5 ⟨rfl, hb⟩
  clear fA0 fA1 fA2 fA3 lA
  clear fB0 fB1 fB2 fB3 lB
  clear fC0 fC1 fC2 fC3 lC
  have pD := (Pair.made w4 _ _ 23).kept hb
  replace pA := (pA.alloc _).kept hb
  replace pB := (pB.alloc _).kept hb
  replace pC := (pC.alloc _).kept hb
  replace hB := on_box hB hb
  clear hb
  obtain ⟨fA0, fA1, fA2, fA3⟩ := pA.facts
  have lA := pA.lt
  obtain ⟨fB0, fB1, fB2, fB3⟩ := pB.facts
  have lB := pB.lt
  obtain ⟨fC0, fC1, fC2, fC3⟩ := pC.facts
  have lC := pC.lt
  obtain ⟨fD0, fD1, fD2, fD3⟩ := pD.facts
  have lD := pD.lt
  go_wp2_with fail
  refine (mul_is _ hn hd hm hc I2.out).mono ?_
  rintro e w6 ⟨rfl, hb⟩
  clear fA0 fA1 fA2 fA3 lA
  clear fB0 fB1 fB2 fB3 lB
  clear fC0 fC1 fC2 fC3 lC
  clear fD0 fD1 fD2 fD3 lD
  have pE := (Pair.made w5 _ _ 23).kept hb
  replace pA := (pA.alloc _).kept hb
  replace pB := (pB.alloc _).kept hb
  replace pC := (pC.alloc _).kept hb
  replace pD := (pD.alloc _).kept hb
  replace hB := on_box hB hb
  clear hb
  obtain ⟨fA0, fA1, fA2, fA3⟩ := pA.facts
  have lA := pA.lt
  obtain ⟨fB0, fB1, fB2, fB3⟩ := pB.facts
  have lB := pB.lt
  obtain ⟨fC0, fC1, fC2, fC3⟩ := pC.facts
  have lC := pC.lt
  obtain ⟨fD0, fD1, fD2, fD3⟩ := pD.facts
  have lD := pD.lt
  obtain ⟨fE0, fE1, fE2, fE3⟩ := pE.facts
  have lE := pE.lt
  go_wp2_with fail
  refine (mul_is _ hm hc hn hd I2c.out).mono ?_
  rintro e w7 ⟨rfl, hb⟩
  clear fA0 fA1 fA2 fA3 lA
  clear fB0 fB1 fB2 fB3 lB
  clear fC0 fC1 fC2 fC3 lC
  clear fD0 fD1 fD2 fD3 lD
  clear fE0 fE1 fE2 fE3 lE
  have pF := (Pair.made w6 _ _ 23).kept hb
  replace pA := (pA.alloc _).kept hb
  replace pB := (pB.alloc _).kept hb
  replace pC := (pC.alloc _).kept hb
  replace pD := (pD.alloc _).kept hb
  replace pE := (pE.alloc _).kept hb
  replace hB := on_box hB hb
  clear hb
  obtain ⟨fA0, fA1, fA2, fA3⟩ := pA.facts
  have lA := pA.lt
  obtain ⟨fB0, fB1, fB2, fB3⟩ := pB.facts
  have lB := pB.lt
  obtain ⟨fC0, fC1, fC2, fC3⟩ := pC.facts
  have lC := pC.lt
  obtain ⟨fD0, fD1, fD2, fD3⟩ := pD.facts
  have lD := pD.lt
  obtain ⟨fE0, fE1, fE2, fE3⟩ := pE.facts
  have lE := pE.lt
  obtain ⟨fF0, fF1, fF2, fF3⟩ := pF.facts
  have lF := pF.lt
  go_wp2_with fail
  refine (sub_is _ hn hd hm hc I3.out).mono ?_
  rintro e w8 ⟨rfl, hb⟩
  clear fA0 fA1 fA2 fA3 lA
  clear fB0 fB1 fB2 fB3 lB
  clear fC0 fC1 fC2 fC3 lC
  clear fD0 fD1 fD2 fD3 lD
  clear fE0 fE1 fE2 fE3 lE
  clear fF0 fF1 fF2 fF3 lF
  have pG := (Pair.made w7 _ _ 23).kept hb
  replace pA := (pA.alloc _).kept hb
  replace pB := (pB.alloc _).kept hb
  replace pC := (pC.alloc _).kept hb
  replace pD := (pD.alloc _).kept hb
  replace pE := (pE.alloc _).kept hb
  replace pF := (pF.alloc _).kept hb
  replace hB := on_box hB hb
  clear hb
  clear pD
  clear pE
  clear pF
  clear pG
  obtain ⟨fA0, fA1, fA2, fA3⟩ := pA.facts
  have lA := pA.lt
  obtain ⟨fB0, fB1, fB2, fB3⟩ := pB.facts
  have lB := pB.lt
  obtain ⟨fC0, fC1, fC2, fC3⟩ := pC.facts
  have lC := pC.lt
  go_wp2_with fail
  refine (HC.out _).mono ?_
  rintro e w9 ⟨rfl, hb⟩
  clear fA0 fA1 fA2 fA3 lA
  clear fB0 fB1 fB2 fB3 lB
  clear fC0 fC1 fC2 fC3 lC
  have pJ := (Pair.made w8 _ _ 23).kept hb
  replace pA := (pA.alloc _).kept hb
  replace pB := (pB.alloc _).kept hb
  replace pC := (pC.alloc _).kept hb
  replace hB := on_box hB hb
  clear hb
  obtain ⟨fA0, fA1, fA2, fA3⟩ := pA.facts
  have lA := pA.lt
  obtain ⟨fB0, fB1, fB2, fB3⟩ := pB.facts
  have lB := pB.lt
  obtain ⟨fC0, fC1, fC2, fC3⟩ := pC.facts
  have lC := pC.lt
  obtain ⟨fJ0, fJ1, fJ2, fJ3⟩ := pJ.facts
  have lJ := pJ.lt
  go_upto_region 19 with (fail)
  go_cut [161] (fun s wx => s = .bool false ∧ wx = w9)
  case first =>
    cases g3 : (E3 == 0)
    · rcases HS.out with ⟨a1, a2, a3⟩ | ⟨a1, a2, a3, a4⟩ | ⟨a1, a2, a3⟩
      · have g3' : (E3 != 0) = true := by rw [bne, g3]; rfl
        cases g4 : (n == m)
        · clear a3
          go_wp2_with fail
          go_meet
          exact ⟨rfl, rfl⟩
        · have g5 := a3 g4
          clear a3
          go_wp2_with fail
          go_meet
          exact ⟨rfl, rfl⟩
      · have g3' : (E3 != 0) = true := by rw [bne, g3]; rfl
        go_wp2_with fail
        go_meet
        exact ⟨rfl, rfl⟩
      · have g3' : (E3 != 0) = true := by rw [bne, g3]; rfl
        cases g4 : (n == m)
        · clear a3
          go_wp2_with fail
          go_meet
          exact ⟨rfl, rfl⟩
        · have g5 := a3 g4
          clear a3
          go_wp2_with fail
          go_meet
          exact ⟨rfl, rfl⟩
    · rcases HS.out with ⟨a1, a2, a3⟩ | ⟨a1, a2, a3, a4⟩ | ⟨a1, a2, a3⟩
      · have g3' : (E3 != 0) = false := by rw [bne, g3]; rfl
        obtain ⟨a5, a6⟩ := (HP.out (by simpa using g3)).1 a1
        cases g4 : (n == m)
        · clear a3
          go_wp2_with fail
          go_meet
          exact ⟨rfl, rfl⟩
        · have g5 := a3 g4
          clear a3
          go_wp2_with fail
          go_meet
          exact ⟨rfl, rfl⟩
      · have g3' : (E3 != 0) = false := by rw [bne, g3]; rfl
        obtain ⟨a5, a6⟩ := (HP.out (by simpa using g3)).2.1 a2
        go_wp2_with fail
        go_meet
        exact ⟨rfl, rfl⟩
      · have g3' : (E3 != 0) = false := by rw [bne, g3]; rfl
        obtain ⟨a5, a6⟩ := (HP.out (by simpa using g3)).2.2 a1 a2
        cases g4 : (n == m)
        · clear a3
          go_wp2_with fail
          go_meet
          exact ⟨rfl, rfl⟩
        · have g5 := a3 g4
          clear a3
          go_wp2_with fail
          go_meet
          exact ⟨rfl, rfl⟩
  case rest =>
    obtain ⟨rfl, rfl⟩ := hcut
    clear fA0 fA1 fA2 fA3 lA
    clear fB0 fB1 fB2 fB3 lB
    clear fC0 fC1 fC2 fC3 lC
    clear fJ0 fJ1 fJ2 fJ3 lJ
    obtain ⟨fA0, fA1, fA2, fA3⟩ := pA.facts
    have lA := pA.lt
    obtain ⟨fB0, fB1, fB2, fB3⟩ := pB.facts
    have lB := pB.lt
    obtain ⟨fC0, fC1, fC2, fC3⟩ := pC.facts
    have lC := pC.lt
    obtain ⟨fJ0, fJ1, fJ2, fJ3⟩ := pJ.facts
    have lJ := pJ.lt
    go_wp2_with fail
    refine (HT.out _ (HF.out.on hB)).mono ?_
    rintro e w10 ⟨rfl, hb⟩
    clear fA0 fA1 fA2 fA3 lA
    clear fB0 fB1 fB2 fB3 lB
    clear fC0 fC1 fC2 fC3 lC
    clear fJ0 fJ1 fJ2 fJ3 lJ
    replace pA := pA.kept hb
    replace pB := pB.kept hb
    replace pC := pC.kept hb
    replace pJ := pJ.kept hb
    replace hB := below_on hB hb
    clear hb
    clear pJ
    obtain ⟨fA0, fA1, fA2, fA3⟩ := pA.facts
    have lA := pA.lt
    obtain ⟨fB0, fB1, fB2, fB3⟩ := pB.facts
    have lB := pB.lt
    obtain ⟨fC0, fC1, fC2, fC3⟩ := pC.facts
    have lC := pC.lt
    go_wp2_with fail
    refine (HR.out _ (HF.out.on hB)).mono ?_
    rintro e w11 ⟨rfl, hb⟩
    clear fA0 fA1 fA2 fA3 lA
    clear fB0 fB1 fB2 fB3 lB
    clear fC0 fC1 fC2 fC3 lC
    replace pA := pA.kept hb
    replace pB := pB.kept hb
    replace pC := pC.kept hb
    replace hB := below_on hB hb
    clear hb
    obtain ⟨fA0, fA1, fA2, fA3⟩ := pA.facts
    have lA := pA.lt
    obtain ⟨fB0, fB1, fB2, fB3⟩ := pB.facts
    have lB := pB.lt
    obtain ⟨fC0, fC1, fC2, fC3⟩ := pC.facts
    have lC := pC.lt
    go_wp2_with fail
    refine (HO.out _).mono ?_
    rintro e w12 ⟨rfl, hb⟩
    clear fA0 fA1 fA2 fA3 lA
    clear fB0 fB1 fB2 fB3 lB
    clear fC0 fC1 fC2 fC3 lC
    have pL := (Pair.made w11 _ _ 23).kept hb
    replace pA := (pA.alloc _).kept hb
    replace pB := (pB.alloc _).kept hb
    replace pC := (pC.alloc _).kept hb
    replace hB := on_box hB hb
    clear hb
    clear pA
    clear pB
    clear pC
    clear pL
    go_wp2_with fail
    refine (shown_any _ (HF.out.on hB)).mono ?_
    rintro e w13 ⟨rfl, hb⟩
    replace hB := below_on hB hb
    clear hb
    go_wp2_with fail
    go_ret
    exact ⟨rfl, hB⟩

set_option maxRecDepth 100000 in
set_option maxHeartbeats 6400000 in
theorem walk_nz (n d m c k l : Int) (w : World) (hF : Fit w) (hn : I64 n) (hd : I64 d) (hm : I64 m) (hc : I64 c) (hk : I64 k) (hl : I64 l) (v1 : vldB n d = true) (v2 : vldB m c = true) (v3 : vldB k l = true) {P1 Q1 E1 P2 Q2 E2 P3 Q3 E3 : Int}
    (i1 : Is (vldB n d && vldB m c) (n * c + m * d) (d * c) P1 Q1 E1) (i2 : Is (vldB n d && vldB m c) (n * m) (d * c) P2 Q2 E2) (i3 : Is (vldB n d && vldB m c) (n * c - m * d) (d * c) P3 Q3 E3) (e1 : E1 ≠ 0) (e2 : E2 = 0) (m0 : m = 0) :
    Calls Tryd.prog 7 #[.agg #[.int .i64 n, .int .i64 d], .agg #[.int .i64 m, .int .i64 c], .agg #[.int .i64 k, .int .i64 l]] w (Made (.bool true) w) := by
  have y1 : (E1 == 0) = false := by simpa using e1
  have z1 : (E1 != 0) = true := by simpa using e1
  clear e1
  subst e2
  have ym : (m == 0) = true := by simpa using m0
  have zm : (m != 0) = false := by rw [bne, ym]; rfl
  clear m0
  have I1c := Lib.hid (add_comm_is i1)
  have I2c := Lib.hid (mul_comm_is i2)
  have b1 := i1.bd
  have b2 := i2.bd
  have HC := Lib.hid (fun W => cmp_sgn W hn hd hm hc v1 v2)
  have HS := Lib.hid (sgn_ways v1 v2)
  have HP := Lib.hid (sgn_diff v1 v2 i3)
  generalize sgn (n * c) (m * d) = K at *
  have I1 := Lib.hid i1
  have I2 := Lib.hid i2
  have I3 := Lib.hid i3
  have HF := Lib.hid hF
  have V1 := Lib.hid v1
  have V2 := Lib.hid v2
  have V3 := Lib.hid v3
  have HT := Lib.hid (fun W hW => text_of W hW hn hd v1)
  have HR := Lib.hid (fun W hW => read_of W hW hn hd v1)
  have HO := Lib.hid (fun W => others_any n d m c k l W hn hd hm hc hk hl v1 v2 v3)
  generalize (⟨(txt n d).toArray⟩ : ByteArray) = T at *
  clear hF v1 v2 v3 i1 i2 i3
  go_enter Tryd.func7, Tryd.ntmps7
  go_wp2_with fail
  refine (valid_as _ hn hd V1.out).mono ?_
  rintro e w1 ⟨rfl, hb⟩
  obtain ⟨pA, pB, pC, z1, hB⟩ := three_pairs hb
  clear z1
  clear hb
  obtain ⟨fA0, fA1, fA2, fA3⟩ := pA.facts
  have lA := pA.lt
  obtain ⟨fB0, fB1, fB2, fB3⟩ := pB.facts
  have lB := pB.lt
  obtain ⟨fC0, fC1, fC2, fC3⟩ := pC.facts
  have lC := pC.lt
  go_wp2_with fail
  refine (valid_as _ hm hc V2.out).mono ?_
  rintro e w2 ⟨rfl, hb⟩
  clear fA0 fA1 fA2 fA3 lA
  clear fB0 fB1 fB2 fB3 lB
  clear fC0 fC1 fC2 fC3 lC
  replace pA := pA.kept hb
  replace pB := pB.kept hb
  replace pC := pC.kept hb
  replace hB := below_on hB hb
  clear hb
  obtain ⟨fA0, fA1, fA2, fA3⟩ := pA.facts
  have lA := pA.lt
  obtain ⟨fB0, fB1, fB2, fB3⟩ := pB.facts
  have lB := pB.lt
  obtain ⟨fC0, fC1, fC2, fC3⟩ := pC.facts
  have lC := pC.lt
  go_wp2_with fail
  refine (valid_as _ hk hl V3.out).mono ?_
  rintro e w3 ⟨rfl, hb⟩
  clear fA0 fA1 fA2 fA3 lA
  clear fB0 fB1 fB2 fB3 lB
  clear fC0 fC1 fC2 fC3 lC
  replace pA := pA.kept hb
  replace pB := pB.kept hb
  replace pC := pC.kept hb
  replace hB := below_on hB hb
  clear hb
  obtain ⟨fA0, fA1, fA2, fA3⟩ := pA.facts
  have lA := pA.lt
  obtain ⟨fB0, fB1, fB2, fB3⟩ := pB.facts
  have lB := pB.lt
  obtain ⟨fC0, fC1, fC2, fC3⟩ := pC.facts
  have lC := pC.lt
  go_wp2_with fail
  refine (add_is _ hn hd hm hc I1.out).mono ?_
  rintro e w4 ⟨rfl, hb⟩
  clear fA0 fA1 fA2 fA3 lA
  clear fB0 fB1 fB2 fB3 lB
  clear fC0 fC1 fC2 fC3 lC
  replace pA := pA.kept hb
  replace pB := pB.kept hb
  replace pC := pC.kept hb
  replace hB := below_on hB hb
  clear hb
  obtain ⟨fA0, fA1, fA2, fA3⟩ := pA.facts
  have lA := pA.lt
  obtain ⟨fB0, fB1, fB2, fB3⟩ := pB.facts
  have lB := pB.lt
  obtain ⟨fC0, fC1, fC2, fC3⟩ := pC.facts
  have lC := pC.lt
  go_wp2_with fail
  refine (add_is _ hm hc hn hd I1c.out).mono ?_
  rintro e w5 ⟨rfl, hb⟩
  clear fA0 fA1 fA2 fA3 lA
  clear fB0 fB1 fB2 fB3 lB
  clear fC0 fC1 fC2 fC3 lC
  have pD := (Pair.made w4 _ _ 23).kept hb
  replace pA := (pA.alloc _).kept hb
  replace pB := (pB.alloc _).kept hb
  replace pC := (pC.alloc _).kept hb
  replace hB := on_box hB hb
  clear hb
  obtain ⟨fA0, fA1, fA2, fA3⟩ := pA.facts
  have lA := pA.lt
  obtain ⟨fB0, fB1, fB2, fB3⟩ := pB.facts
  have lB := pB.lt
  obtain ⟨fC0, fC1, fC2, fC3⟩ := pC.facts
  have lC := pC.lt
  obtain ⟨fD0, fD1, fD2, fD3⟩ := pD.facts
  have lD := pD.lt
  go_wp2_with fail
  refine (mul_is _ hn hd hm hc I2.out).mono ?_
  rintro e w6 ⟨rfl, hb⟩
  clear fA0 fA1 fA2 fA3 lA
  clear fB0 fB1 fB2 fB3 lB
  clear fC0 fC1 fC2 fC3 lC
  clear fD0 fD1 fD2 fD3 lD
  have pE := (Pair.made w5 _ _ 23).kept hb
  replace pA := (pA.alloc _).kept hb
  replace pB := (pB.alloc _).kept hb
  replace pC := (pC.alloc _).kept hb
  replace pD := (pD.alloc _).kept hb
  replace hB := on_box hB hb
  clear hb
  obtain ⟨fA0, fA1, fA2, fA3⟩ := pA.facts
  have lA := pA.lt
  obtain ⟨fB0, fB1, fB2, fB3⟩ := pB.facts
  have lB := pB.lt
  obtain ⟨fC0, fC1, fC2, fC3⟩ := pC.facts
  have lC := pC.lt
  obtain ⟨fD0, fD1, fD2, fD3⟩ := pD.facts
  have lD := pD.lt
  obtain ⟨fE0, fE1, fE2, fE3⟩ := pE.facts
  have lE := pE.lt
  go_wp2_with fail
  refine (mul_is _ hm hc hn hd I2c.out).mono ?_
  rintro e w7 ⟨rfl, hb⟩
  clear fA0 fA1 fA2 fA3 lA
  clear fB0 fB1 fB2 fB3 lB
  clear fC0 fC1 fC2 fC3 lC
  clear fD0 fD1 fD2 fD3 lD
  clear fE0 fE1 fE2 fE3 lE
  have pF := (Pair.made w6 _ _ 23).kept hb
  replace pA := (pA.alloc _).kept hb
  replace pB := (pB.alloc _).kept hb
  replace pC := (pC.alloc _).kept hb
  replace pD := (pD.alloc _).kept hb
  replace pE := (pE.alloc _).kept hb
  replace hB := on_box hB hb
  clear hb
  obtain ⟨fA0, fA1, fA2, fA3⟩ := pA.facts
  have lA := pA.lt
  obtain ⟨fB0, fB1, fB2, fB3⟩ := pB.facts
  have lB := pB.lt
  obtain ⟨fC0, fC1, fC2, fC3⟩ := pC.facts
  have lC := pC.lt
  obtain ⟨fD0, fD1, fD2, fD3⟩ := pD.facts
  have lD := pD.lt
  obtain ⟨fE0, fE1, fE2, fE3⟩ := pE.facts
  have lE := pE.lt
  obtain ⟨fF0, fF1, fF2, fF3⟩ := pF.facts
  have lF := pF.lt
  go_wp2_with fail
  refine (sub_is _ hn hd hm hc I3.out).mono ?_
  rintro e w8 ⟨rfl, hb⟩
  clear fA0 fA1 fA2 fA3 lA
  clear fB0 fB1 fB2 fB3 lB
  clear fC0 fC1 fC2 fC3 lC
  clear fD0 fD1 fD2 fD3 lD
  clear fE0 fE1 fE2 fE3 lE
  clear fF0 fF1 fF2 fF3 lF
  have pG := (Pair.made w7 _ _ 23).kept hb
  replace pA := (pA.alloc _).kept hb
  replace pB := (pB.alloc _).kept hb
  replace pC := (pC.alloc _).kept hb
  replace pD := (pD.alloc _).kept hb
  replace pE := (pE.alloc _).kept hb
  replace pF := (pF.alloc _).kept hb
  replace hB := on_box hB hb
  clear hb
  clear pD
  clear pE
  clear pF
  clear pG
  obtain ⟨fA0, fA1, fA2, fA3⟩ := pA.facts
  have lA := pA.lt
  obtain ⟨fB0, fB1, fB2, fB3⟩ := pB.facts
  have lB := pB.lt
  obtain ⟨fC0, fC1, fC2, fC3⟩ := pC.facts
  have lC := pC.lt
  go_wp2_with fail
  refine (HC.out _).mono ?_
  rintro e w9 ⟨rfl, hb⟩
  clear fA0 fA1 fA2 fA3 lA
  clear fB0 fB1 fB2 fB3 lB
  clear fC0 fC1 fC2 fC3 lC
  have pJ := (Pair.made w8 _ _ 23).kept hb
  replace pA := (pA.alloc _).kept hb
  replace pB := (pB.alloc _).kept hb
  replace pC := (pC.alloc _).kept hb
  replace hB := on_box hB hb
  clear hb
  obtain ⟨fA0, fA1, fA2, fA3⟩ := pA.facts
  have lA := pA.lt
  obtain ⟨fB0, fB1, fB2, fB3⟩ := pB.facts
  have lB := pB.lt
  obtain ⟨fC0, fC1, fC2, fC3⟩ := pC.facts
  have lC := pC.lt
  obtain ⟨fJ0, fJ1, fJ2, fJ3⟩ := pJ.facts
  have lJ := pJ.lt
  go_upto_region 19 with (fail)
  go_cut [161] (fun s wx => s = .bool false ∧ wx = w9)
  case first =>
    cases g3 : (E3 == 0)
    · rcases HS.out with ⟨a1, a2, a3⟩ | ⟨a1, a2, a3, a4⟩ | ⟨a1, a2, a3⟩
      · have g3' : (E3 != 0) = true := by rw [bne, g3]; rfl
        cases g4 : (n == m)
        · clear a3
          go_wp2_with fail
          go_meet
          exact ⟨rfl, rfl⟩
        · have g5 := a3 g4
          clear a3
          go_wp2_with fail
          go_meet
          exact ⟨rfl, rfl⟩
      · have g3' : (E3 != 0) = true := by rw [bne, g3]; rfl
        go_wp2_with fail
        go_meet
        exact ⟨rfl, rfl⟩
      · have g3' : (E3 != 0) = true := by rw [bne, g3]; rfl
        cases g4 : (n == m)
        · clear a3
          go_wp2_with fail
          go_meet
          exact ⟨rfl, rfl⟩
        · have g5 := a3 g4
          clear a3
          go_wp2_with fail
          go_meet
          exact ⟨rfl, rfl⟩
    · rcases HS.out with ⟨a1, a2, a3⟩ | ⟨a1, a2, a3, a4⟩ | ⟨a1, a2, a3⟩
      · have g3' : (E3 != 0) = false := by rw [bne, g3]; rfl
        obtain ⟨a5, a6⟩ := (HP.out (by simpa using g3)).1 a1
        cases g4 : (n == m)
        · clear a3
          go_wp2_with fail
          go_meet
          exact ⟨rfl, rfl⟩
        · have g5 := a3 g4
          clear a3
          go_wp2_with fail
          go_meet
          exact ⟨rfl, rfl⟩
      · have g3' : (E3 != 0) = false := by rw [bne, g3]; rfl
        obtain ⟨a5, a6⟩ := (HP.out (by simpa using g3)).2.1 a2
        go_wp2_with fail
        go_meet
        exact ⟨rfl, rfl⟩
      · have g3' : (E3 != 0) = false := by rw [bne, g3]; rfl
        obtain ⟨a5, a6⟩ := (HP.out (by simpa using g3)).2.2 a1 a2
        cases g4 : (n == m)
        · clear a3
          go_wp2_with fail
          go_meet
          exact ⟨rfl, rfl⟩
        · have g5 := a3 g4
          clear a3
          go_wp2_with fail
          go_meet
          exact ⟨rfl, rfl⟩
  case rest =>
    obtain ⟨rfl, rfl⟩ := hcut
    clear fA0 fA1 fA2 fA3 lA
    clear fB0 fB1 fB2 fB3 lB
    clear fC0 fC1 fC2 fC3 lC
    clear fJ0 fJ1 fJ2 fJ3 lJ
    obtain ⟨fA0, fA1, fA2, fA3⟩ := pA.facts
    have lA := pA.lt
    obtain ⟨fB0, fB1, fB2, fB3⟩ := pB.facts
    have lB := pB.lt
    obtain ⟨fC0, fC1, fC2, fC3⟩ := pC.facts
    have lC := pC.lt
    obtain ⟨fJ0, fJ1, fJ2, fJ3⟩ := pJ.facts
    have lJ := pJ.lt
    go_wp2_with fail
    refine (HT.out _ (HF.out.on hB)).mono ?_
    rintro e w10 ⟨rfl, hb⟩
    clear fA0 fA1 fA2 fA3 lA
    clear fB0 fB1 fB2 fB3 lB
    clear fC0 fC1 fC2 fC3 lC
    clear fJ0 fJ1 fJ2 fJ3 lJ
    replace pA := pA.kept hb
    replace pB := pB.kept hb
    replace pC := pC.kept hb
    replace pJ := pJ.kept hb
    replace hB := below_on hB hb
    clear hb
    clear pJ
    obtain ⟨fA0, fA1, fA2, fA3⟩ := pA.facts
    have lA := pA.lt
    obtain ⟨fB0, fB1, fB2, fB3⟩ := pB.facts
    have lB := pB.lt
    obtain ⟨fC0, fC1, fC2, fC3⟩ := pC.facts
    have lC := pC.lt
    go_wp2_with fail
    refine (HR.out _ (HF.out.on hB)).mono ?_
    rintro e w11 ⟨rfl, hb⟩
    clear fA0 fA1 fA2 fA3 lA
    clear fB0 fB1 fB2 fB3 lB
    clear fC0 fC1 fC2 fC3 lC
    replace pA := pA.kept hb
    replace pB := pB.kept hb
    replace pC := pC.kept hb
    replace hB := below_on hB hb
    clear hb
    obtain ⟨fA0, fA1, fA2, fA3⟩ := pA.facts
    have lA := pA.lt
    obtain ⟨fB0, fB1, fB2, fB3⟩ := pB.facts
    have lB := pB.lt
    obtain ⟨fC0, fC1, fC2, fC3⟩ := pC.facts
    have lC := pC.lt
    go_wp2_with fail
    refine (HO.out _).mono ?_
    rintro e w12 ⟨rfl, hb⟩
    clear fA0 fA1 fA2 fA3 lA
    clear fB0 fB1 fB2 fB3 lB
    clear fC0 fC1 fC2 fC3 lC
    have pL := (Pair.made w11 _ _ 23).kept hb
    replace pA := (pA.alloc _).kept hb
    replace pB := (pB.alloc _).kept hb
    replace pC := (pC.alloc _).kept hb
    replace hB := on_box hB hb
    clear hb
    clear pA
    clear pB
    clear pC
    clear pL
    go_wp2_with fail
    refine (shown_any _ (HF.out.on hB)).mono ?_
    rintro e w13 ⟨rfl, hb⟩
    replace hB := below_on hB hb
    clear hb
    go_wp2_with fail
    go_ret
    exact ⟨rfl, hB⟩

end Go.Proofs.YtnbkphklidjmhaaDoor.Laws
