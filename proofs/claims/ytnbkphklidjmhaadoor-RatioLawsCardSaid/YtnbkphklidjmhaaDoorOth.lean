/- The contract of the statements' part on three ratios: sums are associative, products distributive, as far as no result is out of range. -/
import Derived.Test.YtnbkphklidjmhaaDoorMath3
import Derived.Test.YtnbkphklidjmhaaDoorP
namespace Go.Proofs.YtnbkphklidjmhaaDoor
open Go.RowKit

set_option maxRecDepth 100000 in
set_option maxHeartbeats 1600000 in
theorem oth_all (n d m c k l : Int) (w : World) (hn : I64 n) (hd : I64 d) (hm : I64 m) (hc : I64 c) (hk : I64 k) (hl : I64 l) (v1 : vldB n d = true) (v2 : vldB m c = true) (v3 : vldB k l = true) {P1 Q1 E1 P2 Q2 E2 P3 Q3 E3 P4 Q4 E4 P5 Q5 E5 P6 Q6 E6 P7 Q7 E7 : Int}
    (i1 : Is (vldB n d && vldB m c) (n * c + m * d) (d * c) P1 Q1 E1) (i2 : Is (vldB m c && vldB k l) (m * l + k * c) (c * l) P2 Q2 E2)
    (i3 : Is (vldB P1 Q1 && vldB k l) (P1 * l + k * Q1) (Q1 * l) P3 Q3 E3) (i4 : Is (vldB n d && vldB P2 Q2) (n * Q2 + P2 * d) (d * Q2) P4 Q4 E4)
    (i5 : Is (vldB n d && vldB P2 Q2) (n * P2) (d * Q2) P5 Q5 E5) (i6 : Is (vldB n d && vldB m c) (n * m) (d * c) P6 Q6 E6) (i7 : Is (vldB n d && vldB k l) (n * k) (d * l) P7 Q7 E7) (e1 : E1 = 0) (e2 : E2 = 0) (e5 : E5 = 0) (e6 : E6 = 0) (e7 : E7 = 0) :
    Calls Tryd.prog 38 #[.agg #[.int .i64 n, .int .i64 d], .agg #[.int .i64 m, .int .i64 c], .agg #[.int .i64 k, .int .i64 l]] w (Made (.bool true) w) := by
  obtain ⟨_, _, _⟩ := And.intro v1 (And.intro v2 v3)
  subst e1; subst e2
  have a := assoc_is v1 v2 v3 i1 i2 i3
  obtain ⟨q1, q2, q3⟩ := a
  obtain ⟨r1, r2, r3⟩ := i4
  rw [q1] at r1
  rw [q2] at r2
  rw [q3] at r3
  subst r1; subst r2; subst r3
  have i4 : Is (vldB n d && vldB P2 Q2) (n * Q2 + P2 * d) (d * Q2) P3 Q3 E3 := ⟨q1, q2, q3⟩
  clear q1 q2 q3
  subst e5; subst e6; subst e7
  have i8 := dist_is v1 v2 v3 i2 i5 i6 i7
  have I8 := Lib.hid i8
  have I1 := Lib.hid i1
  have I2 := Lib.hid i2
  have I3 := Lib.hid i3
  have I4 := Lib.hid i4
  have I5 := Lib.hid i5
  have I6 := Lib.hid i6
  have I7 := Lib.hid i7
  have b1 := i1.bd
  have b2 := i2.bd
  have b6 := i6.bd
  have b7 := i7.bd
  clear i1 i2 i3 i4 i5 i6 i7
  clear i8 v1 v2 v3
  go_enter Tryd.func38, Tryd.ntmps38
  go_wp2_with fail
  refine (add_is _ hn hd hm hc I1.out).mono ?_
  rintro e w1 ⟨rfl, hb⟩
  obtain ⟨pA, pB, pC, z1, hB⟩ := three_pairs hb
  clear z1
  clear hb
  obtain ⟨fA0, fA1, fA2, fA3⟩ := pA.facts
  have lA := pA.lt
  obtain ⟨fB0, fB1, fB2, fB3⟩ := pB.facts
  have lB := pB.lt
  obtain ⟨fC0, fC1, fC2, fC3⟩ := pC.facts
  have lC := pC.lt
  go_wp2_with fail
  refine (add_is _ hm hc hk hl I2.out).mono ?_
  rintro e w2 ⟨rfl, hb⟩
  clear fA0 fA1 fA2 fA3 lA
  clear fB0 fB1 fB2 fB3 lB
  clear fC0 fC1 fC2 fC3 lC
  have pD := (Pair.made w1 _ _ 23).kept hb
  replace pA := (pA.alloc _).kept hb
  replace pB := (pB.alloc _).kept hb
  replace pC := (pC.alloc _).kept hb
  replace hB := on_box hB hb
  clear hb
  obtain ⟨fA0, fA1, fA2, fA3⟩ := pA.facts
  have lA := pA.lt
  obtain ⟨fB0, fB1, fB2, fB3⟩ := pB.facts
  have lB := pB.lt
  obtain ⟨fC0, fC1, fC2, fC3⟩ := pC.facts
  have lC := pC.lt
  obtain ⟨fD0, fD1, fD2, fD3⟩ := pD.facts
  have lD := pD.lt
  go_wp2_with fail
  refine (add_is _ b1.1 b1.2 hk hl I3.out).mono ?_
  rintro e w3 ⟨rfl, hb⟩
  clear fA0 fA1 fA2 fA3 lA
  clear fB0 fB1 fB2 fB3 lB
  clear fC0 fC1 fC2 fC3 lC
  clear fD0 fD1 fD2 fD3 lD
  have pE := (Pair.made w2 _ _ 23).kept hb
  replace pA := (pA.alloc _).kept hb
  replace pB := (pB.alloc _).kept hb
  replace pC := (pC.alloc _).kept hb
  replace pD := (pD.alloc _).kept hb
  replace hB := on_box hB hb
  clear hb
  obtain ⟨fA0, fA1, fA2, fA3⟩ := pA.facts
  have lA := pA.lt
  obtain ⟨fB0, fB1, fB2, fB3⟩ := pB.facts
  have lB := pB.lt
  obtain ⟨fC0, fC1, fC2, fC3⟩ := pC.facts
  have lC := pC.lt
  obtain ⟨fD0, fD1, fD2, fD3⟩ := pD.facts
  have lD := pD.lt
  obtain ⟨fE0, fE1, fE2, fE3⟩ := pE.facts
  have lE := pE.lt
  go_wp2_with fail
  refine (add_is _ hn hd b2.1 b2.2 I4.out).mono ?_
  rintro e w4 ⟨rfl, hb⟩
  clear fA0 fA1 fA2 fA3 lA
  clear fB0 fB1 fB2 fB3 lB
  clear fC0 fC1 fC2 fC3 lC
  clear fD0 fD1 fD2 fD3 lD
  clear fE0 fE1 fE2 fE3 lE
  have pF := (Pair.made w3 _ _ 23).kept hb
  replace pA := (pA.alloc _).kept hb
  replace pB := (pB.alloc _).kept hb
  replace pC := (pC.alloc _).kept hb
  replace pD := (pD.alloc _).kept hb
  replace pE := (pE.alloc _).kept hb
  replace hB := on_box hB hb
  clear hb
  obtain ⟨fA0, fA1, fA2, fA3⟩ := pA.facts
  have lA := pA.lt
  obtain ⟨fB0, fB1, fB2, fB3⟩ := pB.facts
  have lB := pB.lt
  obtain ⟨fC0, fC1, fC2, fC3⟩ := pC.facts
  have lC := pC.lt
  obtain ⟨fD0, fD1, fD2, fD3⟩ := pD.facts
  have lD := pD.lt
  obtain ⟨fE0, fE1, fE2, fE3⟩ := pE.facts
  have lE := pE.lt
  obtain ⟨fF0, fF1, fF2, fF3⟩ := pF.facts
  have lF := pF.lt
  go_wp2_with fail
  refine (mul_is _ hn hd b2.1 b2.2 I5.out).mono ?_
  rintro e w5 ⟨rfl, hb⟩
  clear fA0 fA1 fA2 fA3 lA
  clear fB0 fB1 fB2 fB3 lB
  clear fC0 fC1 fC2 fC3 lC
  clear fD0 fD1 fD2 fD3 lD
  clear fE0 fE1 fE2 fE3 lE
  clear fF0 fF1 fF2 fF3 lF
  have pG := (Pair.made w4 _ _ 23).kept hb
  replace pA := (pA.alloc _).kept hb
  replace pB := (pB.alloc _).kept hb
  replace pC := (pC.alloc _).kept hb
  replace pD := (pD.alloc _).kept hb
  replace pE := (pE.alloc _).kept hb
  replace pF := (pF.alloc _).kept hb
  replace hB := on_box hB hb
  clear hb
  clear pD
  clear pF
  clear pG
  obtain ⟨fA0, fA1, fA2, fA3⟩ := pA.facts
  have lA := pA.lt
  obtain ⟨fB0, fB1, fB2, fB3⟩ := pB.facts
  have lB := pB.lt
  obtain ⟨fC0, fC1, fC2, fC3⟩ := pC.facts
  have lC := pC.lt
  obtain ⟨fE0, fE1, fE2, fE3⟩ := pE.facts
  have lE := pE.lt
  go_wp2_with fail
  refine (mul_is _ hn hd hm hc I6.out).mono ?_
  rintro e w6 ⟨rfl, hb⟩
  clear fA0 fA1 fA2 fA3 lA
  clear fB0 fB1 fB2 fB3 lB
  clear fC0 fC1 fC2 fC3 lC
  clear fE0 fE1 fE2 fE3 lE
  have pH := (Pair.made w5 _ _ 23).kept hb
  replace pA := (pA.alloc _).kept hb
  replace pB := (pB.alloc _).kept hb
  replace pC := (pC.alloc _).kept hb
  replace pE := (pE.alloc _).kept hb
  replace hB := on_box hB hb
  clear hb
  obtain ⟨fA0, fA1, fA2, fA3⟩ := pA.facts
  have lA := pA.lt
  obtain ⟨fB0, fB1, fB2, fB3⟩ := pB.facts
  have lB := pB.lt
  obtain ⟨fC0, fC1, fC2, fC3⟩ := pC.facts
  have lC := pC.lt
  obtain ⟨fE0, fE1, fE2, fE3⟩ := pE.facts
  have lE := pE.lt
  obtain ⟨fH0, fH1, fH2, fH3⟩ := pH.facts
  have lH := pH.lt
  go_wp2_with fail
  refine (mul_is _ hn hd hk hl I7.out).mono ?_
  rintro e w7 ⟨rfl, hb⟩
  clear fA0 fA1 fA2 fA3 lA
  clear fB0 fB1 fB2 fB3 lB
  clear fC0 fC1 fC2 fC3 lC
  clear fE0 fE1 fE2 fE3 lE
  clear fH0 fH1 fH2 fH3 lH
  have pI := (Pair.made w6 _ _ 23).kept hb
  replace pA := (pA.alloc _).kept hb
  replace pB := (pB.alloc _).kept hb
  replace pC := (pC.alloc _).kept hb
  replace pE := (pE.alloc _).kept hb
  replace pH := (pH.alloc _).kept hb
  replace hB := on_box hB hb
  clear hb
  obtain ⟨fA0, fA1, fA2, fA3⟩ := pA.facts
  have lA := pA.lt
  obtain ⟨fB0, fB1, fB2, fB3⟩ := pB.facts
  have lB := pB.lt
  obtain ⟨fC0, fC1, fC2, fC3⟩ := pC.facts
  have lC := pC.lt
  obtain ⟨fE0, fE1, fE2, fE3⟩ := pE.facts
  have lE := pE.lt
  obtain ⟨fH0, fH1, fH2, fH3⟩ := pH.facts
  have lH := pH.lt
  obtain ⟨fI0, fI1, fI2, fI3⟩ := pI.facts
  have lI := pI.lt
  go_wp2_with fail
  refine (add_is _ b6.1 b6.2 b7.1 b7.2 I8.out).mono ?_
  rintro e w8 ⟨rfl, hb⟩
  clear fA0 fA1 fA2 fA3 lA
  clear fB0 fB1 fB2 fB3 lB
  clear fC0 fC1 fC2 fC3 lC
  clear fE0 fE1 fE2 fE3 lE
  clear fH0 fH1 fH2 fH3 lH
  clear fI0 fI1 fI2 fI3 lI
  have pJ := (Pair.made w7 _ _ 23).kept hb
  replace pA := (pA.alloc _).kept hb
  replace pB := (pB.alloc _).kept hb
  replace pC := (pC.alloc _).kept hb
  replace pE := (pE.alloc _).kept hb
  replace pH := (pH.alloc _).kept hb
  replace pI := (pI.alloc _).kept hb
  replace hB := on_box hB hb
  clear hb
  obtain ⟨fA0, fA1, fA2, fA3⟩ := pA.facts
  have lA := pA.lt
  obtain ⟨fB0, fB1, fB2, fB3⟩ := pB.facts
  have lB := pB.lt
  obtain ⟨fC0, fC1, fC2, fC3⟩ := pC.facts
  have lC := pC.lt
  obtain ⟨fE0, fE1, fE2, fE3⟩ := pE.facts
  have lE := pE.lt
  obtain ⟨fH0, fH1, fH2, fH3⟩ := pH.facts
  have lH := pH.lt
  obtain ⟨fI0, fI1, fI2, fI3⟩ := pI.facts
  have lI := pI.lt
  obtain ⟨fJ0, fJ1, fJ2, fJ3⟩ := pJ.facts
  have lJ := pJ.lt
  go_wp2_with fail
  go_ret
  exact ⟨rfl, hB.alloc hB.size _⟩

set_option maxRecDepth 100000 in
set_option maxHeartbeats 1600000 in
theorem oth_a5 (n d m c k l : Int) (w : World) (hn : I64 n) (hd : I64 d) (hm : I64 m) (hc : I64 c) (hk : I64 k) (hl : I64 l) (v1 : vldB n d = true) (v2 : vldB m c = true) (v3 : vldB k l = true) {P1 Q1 E1 P2 Q2 E2 P3 Q3 E3 P4 Q4 E4 P5 Q5 E5 P6 Q6 E6 P7 Q7 E7 : Int}
    (i1 : Is (vldB n d && vldB m c) (n * c + m * d) (d * c) P1 Q1 E1) (i2 : Is (vldB m c && vldB k l) (m * l + k * c) (c * l) P2 Q2 E2)
    (i3 : Is (vldB P1 Q1 && vldB k l) (P1 * l + k * Q1) (Q1 * l) P3 Q3 E3) (i4 : Is (vldB n d && vldB P2 Q2) (n * Q2 + P2 * d) (d * Q2) P4 Q4 E4)
    (i5 : Is (vldB n d && vldB P2 Q2) (n * P2) (d * Q2) P5 Q5 E5) (i6 : Is (vldB n d && vldB m c) (n * m) (d * c) P6 Q6 E6) (i7 : Is (vldB n d && vldB k l) (n * k) (d * l) P7 Q7 E7) (e1 : E1 = 0) (e2 : E2 = 0) (e5 : E5 ≠ 0) :
    Calls Tryd.prog 38 #[.agg #[.int .i64 n, .int .i64 d], .agg #[.int .i64 m, .int .i64 c], .agg #[.int .i64 k, .int .i64 l]] w (Made (.bool true) w) := by
  obtain ⟨_, _, _⟩ := And.intro v1 (And.intro v2 v3)
  subst e1; subst e2
  have a := assoc_is v1 v2 v3 i1 i2 i3
  obtain ⟨q1, q2, q3⟩ := a
  obtain ⟨r1, r2, r3⟩ := i4
  rw [q1] at r1
  rw [q2] at r2
  rw [q3] at r3
  subst r1; subst r2; subst r3
  have i4 : Is (vldB n d && vldB P2 Q2) (n * Q2 + P2 * d) (d * Q2) P3 Q3 E3 := ⟨q1, q2, q3⟩
  clear q1 q2 q3
  have y5 : (E5 == 0) = false := by simpa using e5
  have z5 : (E5 != 0) = true := by simpa using e5
  have I1 := Lib.hid i1
  have I2 := Lib.hid i2
  have I3 := Lib.hid i3
  have I4 := Lib.hid i4
  have I5 := Lib.hid i5
  have I6 := Lib.hid i6
  have I7 := Lib.hid i7
  have b1 := i1.bd
  have b2 := i2.bd
  have b6 := i6.bd
  have b7 := i7.bd
  clear i1 i2 i3 i4 i5 i6 i7
  clear e5 v1 v2 v3
  go_enter Tryd.func38, Tryd.ntmps38
  go_wp2_with fail
  refine (add_is _ hn hd hm hc I1.out).mono ?_
  rintro e w1 ⟨rfl, hb⟩
  obtain ⟨pA, pB, pC, z1, hB⟩ := three_pairs hb
  clear z1
  clear hb
  obtain ⟨fA0, fA1, fA2, fA3⟩ := pA.facts
  have lA := pA.lt
  obtain ⟨fB0, fB1, fB2, fB3⟩ := pB.facts
  have lB := pB.lt
  obtain ⟨fC0, fC1, fC2, fC3⟩ := pC.facts
  have lC := pC.lt
  go_wp2_with fail
  refine (add_is _ hm hc hk hl I2.out).mono ?_
  rintro e w2 ⟨rfl, hb⟩
  clear fA0 fA1 fA2 fA3 lA
  clear fB0 fB1 fB2 fB3 lB
  clear fC0 fC1 fC2 fC3 lC
  have pD := (Pair.made w1 _ _ 23).kept hb
  replace pA := (pA.alloc _).kept hb
  replace pB := (pB.alloc _).kept hb
  replace pC := (pC.alloc _).kept hb
  replace hB := on_box hB hb
  clear hb
  obtain ⟨fA0, fA1, fA2, fA3⟩ := pA.facts
  have lA := pA.lt
  obtain ⟨fB0, fB1, fB2, fB3⟩ := pB.facts
  have lB := pB.lt
  obtain ⟨fC0, fC1, fC2, fC3⟩ := pC.facts
  have lC := pC.lt
  obtain ⟨fD0, fD1, fD2, fD3⟩ := pD.facts
  have lD := pD.lt
  go_wp2_with fail
  refine (add_is _ b1.1 b1.2 hk hl I3.out).mono ?_
  rintro e w3 ⟨rfl, hb⟩
  clear fA0 fA1 fA2 fA3 lA
  clear fB0 fB1 fB2 fB3 lB
  clear fC0 fC1 fC2 fC3 lC
  clear fD0 fD1 fD2 fD3 lD
  have pE := (Pair.made w2 _ _ 23).kept hb
  replace pA := (pA.alloc _).kept hb
  replace pB := (pB.alloc _).kept hb
  replace pC := (pC.alloc _).kept hb
  replace pD := (pD.alloc _).kept hb
  replace hB := on_box hB hb
  clear hb
  obtain ⟨fA0, fA1, fA2, fA3⟩ := pA.facts
  have lA := pA.lt
  obtain ⟨fB0, fB1, fB2, fB3⟩ := pB.facts
  have lB := pB.lt
  obtain ⟨fC0, fC1, fC2, fC3⟩ := pC.facts
  have lC := pC.lt
  obtain ⟨fD0, fD1, fD2, fD3⟩ := pD.facts
  have lD := pD.lt
  obtain ⟨fE0, fE1, fE2, fE3⟩ := pE.facts
  have lE := pE.lt
  go_wp2_with fail
  refine (add_is _ hn hd b2.1 b2.2 I4.out).mono ?_
  rintro e w4 ⟨rfl, hb⟩
  clear fA0 fA1 fA2 fA3 lA
  clear fB0 fB1 fB2 fB3 lB
  clear fC0 fC1 fC2 fC3 lC
  clear fD0 fD1 fD2 fD3 lD
  clear fE0 fE1 fE2 fE3 lE
  have pF := (Pair.made w3 _ _ 23).kept hb
  replace pA := (pA.alloc _).kept hb
  replace pB := (pB.alloc _).kept hb
  replace pC := (pC.alloc _).kept hb
  replace pD := (pD.alloc _).kept hb
  replace pE := (pE.alloc _).kept hb
  replace hB := on_box hB hb
  clear hb
  obtain ⟨fA0, fA1, fA2, fA3⟩ := pA.facts
  have lA := pA.lt
  obtain ⟨fB0, fB1, fB2, fB3⟩ := pB.facts
  have lB := pB.lt
  obtain ⟨fC0, fC1, fC2, fC3⟩ := pC.facts
  have lC := pC.lt
  obtain ⟨fD0, fD1, fD2, fD3⟩ := pD.facts
  have lD := pD.lt
  obtain ⟨fE0, fE1, fE2, fE3⟩ := pE.facts
  have lE := pE.lt
  obtain ⟨fF0, fF1, fF2, fF3⟩ := pF.facts
  have lF := pF.lt
  go_wp2_with fail
  refine (mul_is _ hn hd b2.1 b2.2 I5.out).mono ?_
  rintro e w5 ⟨rfl, hb⟩
  clear fA0 fA1 fA2 fA3 lA
  clear fB0 fB1 fB2 fB3 lB
  clear fC0 fC1 fC2 fC3 lC
  clear fD0 fD1 fD2 fD3 lD
  clear fE0 fE1 fE2 fE3 lE
  clear fF0 fF1 fF2 fF3 lF
  have pG := (Pair.made w4 _ _ 23).kept hb
  replace pA := (pA.alloc _).kept hb
  replace pB := (pB.alloc _).kept hb
  replace pC := (pC.alloc _).kept hb
  replace pD := (pD.alloc _).kept hb
  replace pE := (pE.alloc _).kept hb
  replace pF := (pF.alloc _).kept hb
  replace hB := on_box hB hb
  clear hb
  clear pD
  clear pF
  clear pG
  obtain ⟨fA0, fA1, fA2, fA3⟩ := pA.facts
  have lA := pA.lt
  obtain ⟨fB0, fB1, fB2, fB3⟩ := pB.facts
  have lB := pB.lt
  obtain ⟨fC0, fC1, fC2, fC3⟩ := pC.facts
  have lC := pC.lt
  obtain ⟨fE0, fE1, fE2, fE3⟩ := pE.facts
  have lE := pE.lt
  go_wp2_with fail
  refine (mul_is _ hn hd hm hc I6.out).mono ?_
  rintro e w6 ⟨rfl, hb⟩
  clear fA0 fA1 fA2 fA3 lA
  clear fB0 fB1 fB2 fB3 lB
  clear fC0 fC1 fC2 fC3 lC
  clear fE0 fE1 fE2 fE3 lE
  have pH := (Pair.made w5 _ _ 23).kept hb
  replace pA := (pA.alloc _).kept hb
  replace pB := (pB.alloc _).kept hb
  replace pC := (pC.alloc _).kept hb
  replace pE := (pE.alloc _).kept hb
  replace hB := on_box hB hb
  clear hb
  obtain ⟨fA0, fA1, fA2, fA3⟩ := pA.facts
  have lA := pA.lt
  obtain ⟨fB0, fB1, fB2, fB3⟩ := pB.facts
  have lB := pB.lt
  obtain ⟨fC0, fC1, fC2, fC3⟩ := pC.facts
  have lC := pC.lt
  obtain ⟨fE0, fE1, fE2, fE3⟩ := pE.facts
  have lE := pE.lt
  obtain ⟨fH0, fH1, fH2, fH3⟩ := pH.facts
  have lH := pH.lt
  go_wp2_with fail
  refine (mul_is _ hn hd hk hl I7.out).mono ?_
  rintro e w7 ⟨rfl, hb⟩
  clear fA0 fA1 fA2 fA3 lA
  clear fB0 fB1 fB2 fB3 lB
  clear fC0 fC1 fC2 fC3 lC
  clear fE0 fE1 fE2 fE3 lE
  clear fH0 fH1 fH2 fH3 lH
  have pI := (Pair.made w6 _ _ 23).kept hb
  replace pA := (pA.alloc _).kept hb
  replace pB := (pB.alloc _).kept hb
  replace pC := (pC.alloc _).kept hb
  replace pE := (pE.alloc _).kept hb
  replace pH := (pH.alloc _).kept hb
  replace hB := on_box hB hb
  clear hb
  obtain ⟨fA0, fA1, fA2, fA3⟩ := pA.facts
  have lA := pA.lt
  obtain ⟨fB0, fB1, fB2, fB3⟩ := pB.facts
  have lB := pB.lt
  obtain ⟨fC0, fC1, fC2, fC3⟩ := pC.facts
  have lC := pC.lt
  obtain ⟨fE0, fE1, fE2, fE3⟩ := pE.facts
  have lE := pE.lt
  obtain ⟨fH0, fH1, fH2, fH3⟩ := pH.facts
  have lH := pH.lt
  obtain ⟨fI0, fI1, fI2, fI3⟩ := pI.facts
  have lI := pI.lt
  go_wp2_with fail
  go_ret
  exact ⟨rfl, hB.alloc hB.size _⟩

set_option maxRecDepth 100000 in
set_option maxHeartbeats 1600000 in
theorem oth_a6 (n d m c k l : Int) (w : World) (hn : I64 n) (hd : I64 d) (hm : I64 m) (hc : I64 c) (hk : I64 k) (hl : I64 l) (v1 : vldB n d = true) (v2 : vldB m c = true) (v3 : vldB k l = true) {P1 Q1 E1 P2 Q2 E2 P3 Q3 E3 P4 Q4 E4 P5 Q5 E5 P6 Q6 E6 P7 Q7 E7 : Int}
    (i1 : Is (vldB n d && vldB m c) (n * c + m * d) (d * c) P1 Q1 E1) (i2 : Is (vldB m c && vldB k l) (m * l + k * c) (c * l) P2 Q2 E2)
    (i3 : Is (vldB P1 Q1 && vldB k l) (P1 * l + k * Q1) (Q1 * l) P3 Q3 E3) (i4 : Is (vldB n d && vldB P2 Q2) (n * Q2 + P2 * d) (d * Q2) P4 Q4 E4)
    (i5 : Is (vldB n d && vldB P2 Q2) (n * P2) (d * Q2) P5 Q5 E5) (i6 : Is (vldB n d && vldB m c) (n * m) (d * c) P6 Q6 E6) (i7 : Is (vldB n d && vldB k l) (n * k) (d * l) P7 Q7 E7) (e1 : E1 = 0) (e2 : E2 = 0) (e5 : E5 = 0) (e6 : E6 ≠ 0) :
    Calls Tryd.prog 38 #[.agg #[.int .i64 n, .int .i64 d], .agg #[.int .i64 m, .int .i64 c], .agg #[.int .i64 k, .int .i64 l]] w (Made (.bool true) w) := by
  obtain ⟨_, _, _⟩ := And.intro v1 (And.intro v2 v3)
  subst e1; subst e2
  have a := assoc_is v1 v2 v3 i1 i2 i3
  obtain ⟨q1, q2, q3⟩ := a
  obtain ⟨r1, r2, r3⟩ := i4
  rw [q1] at r1
  rw [q2] at r2
  rw [q3] at r3
  subst r1; subst r2; subst r3
  have i4 : Is (vldB n d && vldB P2 Q2) (n * Q2 + P2 * d) (d * Q2) P3 Q3 E3 := ⟨q1, q2, q3⟩
  clear q1 q2 q3
  subst e5
  have y6 : (E6 == 0) = false := by simpa using e6
  have z6 : (E6 != 0) = true := by simpa using e6
  have I1 := Lib.hid i1
  have I2 := Lib.hid i2
  have I3 := Lib.hid i3
  have I4 := Lib.hid i4
  have I5 := Lib.hid i5
  have I6 := Lib.hid i6
  have I7 := Lib.hid i7
  have b1 := i1.bd
  have b2 := i2.bd
  have b6 := i6.bd
  have b7 := i7.bd
  clear i1 i2 i3 i4 i5 i6 i7
  clear e6 v1 v2 v3
  go_enter Tryd.func38, Tryd.ntmps38
  go_wp2_with fail
  refine (add_is _ hn hd hm hc I1.out).mono ?_
  rintro e w1 ⟨rfl, hb⟩
  obtain ⟨pA, pB, pC, z1, hB⟩ := three_pairs hb
  clear z1
  clear hb
  obtain ⟨fA0, fA1, fA2, fA3⟩ := pA.facts
  have lA := pA.lt
  obtain ⟨fB0, fB1, fB2, fB3⟩ := pB.facts
  have lB := pB.lt
  obtain ⟨fC0, fC1, fC2, fC3⟩ := pC.facts
  have lC := pC.lt
  go_wp2_with fail
  refine (add_is _ hm hc hk hl I2.out).mono ?_
  rintro e w2 ⟨rfl, hb⟩
  clear fA0 fA1 fA2 fA3 lA
  clear fB0 fB1 fB2 fB3 lB
  clear fC0 fC1 fC2 fC3 lC
  have pD := (Pair.made w1 _ _ 23).kept hb
  replace pA := (pA.alloc _).kept hb
  replace pB := (pB.alloc _).kept hb
  replace pC := (pC.alloc _).kept hb
  replace hB := on_box hB hb
  clear hb
  obtain ⟨fA0, fA1, fA2, fA3⟩ := pA.facts
  have lA := pA.lt
  obtain ⟨fB0, fB1, fB2, fB3⟩ := pB.facts
  have lB := pB.lt
  obtain ⟨fC0, fC1, fC2, fC3⟩ := pC.facts
  have lC := pC.lt
  obtain ⟨fD0, fD1, fD2, fD3⟩ := pD.facts
  have lD := pD.lt
  go_wp2_with fail
  refine (add_is _ b1.1 b1.2 hk hl I3.out).mono ?_
  rintro e w3 ⟨rfl, hb⟩
  clear fA0 fA1 fA2 fA3 lA
  clear fB0 fB1 fB2 fB3 lB
  clear fC0 fC1 fC2 fC3 lC
  clear fD0 fD1 fD2 fD3 lD
  have pE := (Pair.made w2 _ _ 23).kept hb
  replace pA := (pA.alloc _).kept hb
  replace pB := (pB.alloc _).kept hb
  replace pC := (pC.alloc _).kept hb
  replace pD := (pD.alloc _).kept hb
  replace hB := on_box hB hb
  clear hb
  obtain ⟨fA0, fA1, fA2, fA3⟩ := pA.facts
  have lA := pA.lt
  obtain ⟨fB0, fB1, fB2, fB3⟩ := pB.facts
  have lB := pB.lt
  obtain ⟨fC0, fC1, fC2, fC3⟩ := pC.facts
  have lC := pC.lt
  obtain ⟨fD0, fD1, fD2, fD3⟩ := pD.facts
  have lD := pD.lt
  obtain ⟨fE0, fE1, fE2, fE3⟩ := pE.facts
  have lE := pE.lt
  go_wp2_with fail
  refine (add_is _ hn hd b2.1 b2.2 I4.out).mono ?_
  rintro e w4 ⟨rfl, hb⟩
  clear fA0 fA1 fA2 fA3 lA
  clear fB0 fB1 fB2 fB3 lB
  clear fC0 fC1 fC2 fC3 lC
  clear fD0 fD1 fD2 fD3 lD
  clear fE0 fE1 fE2 fE3 lE
  have pF := (Pair.made w3 _ _ 23).kept hb
  replace pA := (pA.alloc _).kept hb
  replace pB := (pB.alloc _).kept hb
  replace pC := (pC.alloc _).kept hb
  replace pD := (pD.alloc _).kept hb
  replace pE := (pE.alloc _).kept hb
  replace hB := on_box hB hb
  clear hb
  obtain ⟨fA0, fA1, fA2, fA3⟩ := pA.facts
  have lA := pA.lt
  obtain ⟨fB0, fB1, fB2, fB3⟩ := pB.facts
  have lB := pB.lt
  obtain ⟨fC0, fC1, fC2, fC3⟩ := pC.facts
  have lC := pC.lt
  obtain ⟨fD0, fD1, fD2, fD3⟩ := pD.facts
  have lD := pD.lt
  obtain ⟨fE0, fE1, fE2, fE3⟩ := pE.facts
  have lE := pE.lt
  obtain ⟨fF0, fF1, fF2, fF3⟩ := pF.facts
  have lF := pF.lt
  go_wp2_with fail
  refine (mul_is _ hn hd b2.1 b2.2 I5.out).mono ?_
  rintro e w5 ⟨rfl, hb⟩
  clear fA0 fA1 fA2 fA3 lA
  clear fB0 fB1 fB2 fB3 lB
  clear fC0 fC1 fC2 fC3 lC
  clear fD0 fD1 fD2 fD3 lD
  clear fE0 fE1 fE2 fE3 lE
  clear fF0 fF1 fF2 fF3 lF
  have pG := (Pair.made w4 _ _ 23).kept hb
  replace pA := (pA.alloc _).kept hb
  replace pB := (pB.alloc _).kept hb
  replace pC := (pC.alloc _).kept hb
  replace pD := (pD.alloc _).kept hb
  replace pE := (pE.alloc _).kept hb
  replace pF := (pF.alloc _).kept hb
  replace hB := on_box hB hb
  clear hb
  clear pD
  clear pF
  clear pG
  obtain ⟨fA0, fA1, fA2, fA3⟩ := pA.facts
  have lA := pA.lt
  obtain ⟨fB0, fB1, fB2, fB3⟩ := pB.facts
  have lB := pB.lt
  obtain ⟨fC0, fC1, fC2, fC3⟩ := pC.facts
  have lC := pC.lt
  obtain ⟨fE0, fE1, fE2, fE3⟩ := pE.facts
  have lE := pE.lt
  go_wp2_with fail
  refine (mul_is _ hn hd hm hc I6.out).mono ?_
  rintro e w6 ⟨rfl, hb⟩
  clear fA0 fA1 fA2 fA3 lA
  clear fB0 fB1 fB2 fB3 lB
  clear fC0 fC1 fC2 fC3 lC
  clear fE0 fE1 fE2 fE3 lE
  have pH := (Pair.made w5 _ _ 23).kept hb
  replace pA := (pA.alloc _).kept hb
  replace pB := (pB.alloc _).kept hb
  replace pC := (pC.alloc _).kept hb
  replace pE := (pE.alloc _).kept hb
  replace hB := on_box hB hb
  clear hb
  obtain ⟨fA0, fA1, fA2, fA3⟩ := pA.facts
  have lA := pA.lt
  obtain ⟨fB0, fB1, fB2, fB3⟩ := pB.facts
  have lB := pB.lt
  obtain ⟨fC0, fC1, fC2, fC3⟩ := pC.facts
  have lC := pC.lt
  obtain ⟨fE0, fE1, fE2, fE3⟩ := pE.facts
  have lE := pE.lt
  obtain ⟨fH0, fH1, fH2, fH3⟩ := pH.facts
  have lH := pH.lt
  go_wp2_with fail
  refine (mul_is _ hn hd hk hl I7.out).mono ?_
  rintro e w7 ⟨rfl, hb⟩
  clear fA0 fA1 fA2 fA3 lA
  clear fB0 fB1 fB2 fB3 lB
  clear fC0 fC1 fC2 fC3 lC
  clear fE0 fE1 fE2 fE3 lE
  clear fH0 fH1 fH2 fH3 lH
  have pI := (Pair.made w6 _ _ 23).kept hb
  replace pA := (pA.alloc _).kept hb
  replace pB := (pB.alloc _).kept hb
  replace pC := (pC.alloc _).kept hb
  replace pE := (pE.alloc _).kept hb
  replace pH := (pH.alloc _).kept hb
  replace hB := on_box hB hb
  clear hb
  obtain ⟨fA0, fA1, fA2, fA3⟩ := pA.facts
  have lA := pA.lt
  obtain ⟨fB0, fB1, fB2, fB3⟩ := pB.facts
  have lB := pB.lt
  obtain ⟨fC0, fC1, fC2, fC3⟩ := pC.facts
  have lC := pC.lt
  obtain ⟨fE0, fE1, fE2, fE3⟩ := pE.facts
  have lE := pE.lt
  obtain ⟨fH0, fH1, fH2, fH3⟩ := pH.facts
  have lH := pH.lt
  obtain ⟨fI0, fI1, fI2, fI3⟩ := pI.facts
  have lI := pI.lt
  go_wp2_with fail
  go_ret
  exact ⟨rfl, hB.alloc hB.size _⟩

set_option maxRecDepth 100000 in
set_option maxHeartbeats 1600000 in
theorem oth_a7 (n d m c k l : Int) (w : World) (hn : I64 n) (hd : I64 d) (hm : I64 m) (hc : I64 c) (hk : I64 k) (hl : I64 l) (v1 : vldB n d = true) (v2 : vldB m c = true) (v3 : vldB k l = true) {P1 Q1 E1 P2 Q2 E2 P3 Q3 E3 P4 Q4 E4 P5 Q5 E5 P6 Q6 E6 P7 Q7 E7 : Int}
    (i1 : Is (vldB n d && vldB m c) (n * c + m * d) (d * c) P1 Q1 E1) (i2 : Is (vldB m c && vldB k l) (m * l + k * c) (c * l) P2 Q2 E2)
    (i3 : Is (vldB P1 Q1 && vldB k l) (P1 * l + k * Q1) (Q1 * l) P3 Q3 E3) (i4 : Is (vldB n d && vldB P2 Q2) (n * Q2 + P2 * d) (d * Q2) P4 Q4 E4)
    (i5 : Is (vldB n d && vldB P2 Q2) (n * P2) (d * Q2) P5 Q5 E5) (i6 : Is (vldB n d && vldB m c) (n * m) (d * c) P6 Q6 E6) (i7 : Is (vldB n d && vldB k l) (n * k) (d * l) P7 Q7 E7) (e1 : E1 = 0) (e2 : E2 = 0) (e5 : E5 = 0) (e6 : E6 = 0) (e7 : E7 ≠ 0) :
    Calls Tryd.prog 38 #[.agg #[.int .i64 n, .int .i64 d], .agg #[.int .i64 m, .int .i64 c], .agg #[.int .i64 k, .int .i64 l]] w (Made (.bool true) w) := by
  obtain ⟨_, _, _⟩ := And.intro v1 (And.intro v2 v3)
  subst e1; subst e2
  have a := assoc_is v1 v2 v3 i1 i2 i3
  obtain ⟨q1, q2, q3⟩ := a
  obtain ⟨r1, r2, r3⟩ := i4
  rw [q1] at r1
  rw [q2] at r2
  rw [q3] at r3
  subst r1; subst r2; subst r3
  have i4 : Is (vldB n d && vldB P2 Q2) (n * Q2 + P2 * d) (d * Q2) P3 Q3 E3 := ⟨q1, q2, q3⟩
  clear q1 q2 q3
  subst e5; subst e6
  have y7 : (E7 == 0) = false := by simpa using e7
  have z7 : (E7 != 0) = true := by simpa using e7
  have I1 := Lib.hid i1
  have I2 := Lib.hid i2
  have I3 := Lib.hid i3
  have I4 := Lib.hid i4
  have I5 := Lib.hid i5
  have I6 := Lib.hid i6
  have I7 := Lib.hid i7
  have b1 := i1.bd
  have b2 := i2.bd
  have b6 := i6.bd
  have b7 := i7.bd
  clear i1 i2 i3 i4 i5 i6 i7
  clear e7 v1 v2 v3
  go_enter Tryd.func38, Tryd.ntmps38
  go_wp2_with fail
  refine (add_is _ hn hd hm hc I1.out).mono ?_
  rintro e w1 ⟨rfl, hb⟩
  obtain ⟨pA, pB, pC, z1, hB⟩ := three_pairs hb
  clear z1
  clear hb
  obtain ⟨fA0, fA1, fA2, fA3⟩ := pA.facts
  have lA := pA.lt
  obtain ⟨fB0, fB1, fB2, fB3⟩ := pB.facts
  have lB := pB.lt
  obtain ⟨fC0, fC1, fC2, fC3⟩ := pC.facts
  have lC := pC.lt
  go_wp2_with fail
  refine (add_is _ hm hc hk hl I2.out).mono ?_
  rintro e w2 ⟨rfl, hb⟩
  clear fA0 fA1 fA2 fA3 lA
  clear fB0 fB1 fB2 fB3 lB
  clear fC0 fC1 fC2 fC3 lC
  have pD := (Pair.made w1 _ _ 23).kept hb
  replace pA := (pA.alloc _).kept hb
  replace pB := (pB.alloc _).kept hb
  replace pC := (pC.alloc _).kept hb
  replace hB := on_box hB hb
  clear hb
  obtain ⟨fA0, fA1, fA2, fA3⟩ := pA.facts
  have lA := pA.lt
  obtain ⟨fB0, fB1, fB2, fB3⟩ := pB.facts
  have lB := pB.lt
  obtain ⟨fC0, fC1, fC2, fC3⟩ := pC.facts
  have lC := pC.lt
  obtain ⟨fD0, fD1, fD2, fD3⟩ := pD.facts
  have lD := pD.lt
  go_wp2_with fail
  refine (add_is _ b1.1 b1.2 hk hl I3.out).mono ?_
  rintro e w3 ⟨rfl, hb⟩
  clear fA0 fA1 fA2 fA3 lA
  clear fB0 fB1 fB2 fB3 lB
  clear fC0 fC1 fC2 fC3 lC
  clear fD0 fD1 fD2 fD3 lD
  have pE := (Pair.made w2 _ _ 23).kept hb
  replace pA := (pA.alloc _).kept hb
  replace pB := (pB.alloc _).kept hb
  replace pC := (pC.alloc _).kept hb
  replace pD := (pD.alloc _).kept hb
  replace hB := on_box hB hb
  clear hb
  obtain ⟨fA0, fA1, fA2, fA3⟩ := pA.facts
  have lA := pA.lt
  obtain ⟨fB0, fB1, fB2, fB3⟩ := pB.facts
  have lB := pB.lt
  obtain ⟨fC0, fC1, fC2, fC3⟩ := pC.facts
  have lC := pC.lt
  obtain ⟨fD0, fD1, fD2, fD3⟩ := pD.facts
  have lD := pD.lt
  obtain ⟨fE0, fE1, fE2, fE3⟩ := pE.facts
  have lE := pE.lt
  go_wp2_with fail
  refine (add_is _ hn hd b2.1 b2.2 I4.out).mono ?_
  rintro e w4 ⟨rfl, hb⟩
  clear fA0 fA1 fA2 fA3 lA
  clear fB0 fB1 fB2 fB3 lB
  clear fC0 fC1 fC2 fC3 lC
  clear fD0 fD1 fD2 fD3 lD
  clear fE0 fE1 fE2 fE3 lE
  have pF := (Pair.made w3 _ _ 23).kept hb
  replace pA := (pA.alloc _).kept hb
  replace pB := (pB.alloc _).kept hb
  replace pC := (pC.alloc _).kept hb
  replace pD := (pD.alloc _).kept hb
  replace pE := (pE.alloc _).kept hb
  replace hB := on_box hB hb
  clear hb
  obtain ⟨fA0, fA1, fA2, fA3⟩ := pA.facts
  have lA := pA.lt
  obtain ⟨fB0, fB1, fB2, fB3⟩ := pB.facts
  have lB := pB.lt
  obtain ⟨fC0, fC1, fC2, fC3⟩ := pC.facts
  have lC := pC.lt
  obtain ⟨fD0, fD1, fD2, fD3⟩ := pD.facts
  have lD := pD.lt
  obtain ⟨fE0, fE1, fE2, fE3⟩ := pE.facts
  have lE := pE.lt
  obtain ⟨fF0, fF1, fF2, fF3⟩ := pF.facts
  have lF := pF.lt
  go_wp2_with fail
  refine (mul_is _ hn hd b2.1 b2.2 I5.out).mono ?_
  rintro e w5 ⟨rfl, hb⟩
  clear fA0 fA1 fA2 fA3 lA
  clear fB0 fB1 fB2 fB3 lB
  clear fC0 fC1 fC2 fC3 lC
  clear fD0 fD1 fD2 fD3 lD
  clear fE0 fE1 fE2 fE3 lE
  clear fF0 fF1 fF2 fF3 lF
  have pG := (Pair.made w4 _ _ 23).kept hb
  replace pA := (pA.alloc _).kept hb
  replace pB := (pB.alloc _).kept hb
  replace pC := (pC.alloc _).kept hb
  replace pD := (pD.alloc _).kept hb
  replace pE := (pE.alloc _).kept hb
  replace pF := (pF.alloc _).kept hb
  replace hB := on_box hB hb
  clear hb
  clear pD
  clear pF
  clear pG
  obtain ⟨fA0, fA1, fA2, fA3⟩ := pA.facts
  have lA := pA.lt
  obtain ⟨fB0, fB1, fB2, fB3⟩ := pB.facts
  have lB := pB.lt
  obtain ⟨fC0, fC1, fC2, fC3⟩ := pC.facts
  have lC := pC.lt
  obtain ⟨fE0, fE1, fE2, fE3⟩ := pE.facts
  have lE := pE.lt
  go_wp2_with fail
  refine (mul_is _ hn hd hm hc I6.out).mono ?_
  rintro e w6 ⟨rfl, hb⟩
  clear fA0 fA1 fA2 fA3 lA
  clear fB0 fB1 fB2 fB3 lB
  clear fC0 fC1 fC2 fC3 lC
  clear fE0 fE1 fE2 fE3 lE
  have pH := (Pair.made w5 _ _ 23).kept hb
  replace pA := (pA.alloc _).kept hb
  replace pB := (pB.alloc _).kept hb
  replace pC := (pC.alloc _).kept hb
  replace pE := (pE.alloc _).kept hb
  replace hB := on_box hB hb
  clear hb
  obtain ⟨fA0, fA1, fA2, fA3⟩ := pA.facts
  have lA := pA.lt
  obtain ⟨fB0, fB1, fB2, fB3⟩ := pB.facts
  have lB := pB.lt
  obtain ⟨fC0, fC1, fC2, fC3⟩ := pC.facts
  have lC := pC.lt
  obtain ⟨fE0, fE1, fE2, fE3⟩ := pE.facts
  have lE := pE.lt
  obtain ⟨fH0, fH1, fH2, fH3⟩ := pH.facts
  have lH := pH.lt
  go_wp2_with fail
  refine (mul_is _ hn hd hk hl I7.out).mono ?_
  rintro e w7 ⟨rfl, hb⟩
  clear fA0 fA1 fA2 fA3 lA
  clear fB0 fB1 fB2 fB3 lB
  clear fC0 fC1 fC2 fC3 lC
  clear fE0 fE1 fE2 fE3 lE
  clear fH0 fH1 fH2 fH3 lH
  have pI := (Pair.made w6 _ _ 23).kept hb
  replace pA := (pA.alloc _).kept hb
  replace pB := (pB.alloc _).kept hb
  replace pC := (pC.alloc _).kept hb
  replace pE := (pE.alloc _).kept hb
  replace pH := (pH.alloc _).kept hb
  replace hB := on_box hB hb
  clear hb
  obtain ⟨fA0, fA1, fA2, fA3⟩ := pA.facts
  have lA := pA.lt
  obtain ⟨fB0, fB1, fB2, fB3⟩ := pB.facts
  have lB := pB.lt
  obtain ⟨fC0, fC1, fC2, fC3⟩ := pC.facts
  have lC := pC.lt
  obtain ⟨fE0, fE1, fE2, fE3⟩ := pE.facts
  have lE := pE.lt
  obtain ⟨fH0, fH1, fH2, fH3⟩ := pH.facts
  have lH := pH.lt
  obtain ⟨fI0, fI1, fI2, fI3⟩ := pI.facts
  have lI := pI.lt
  go_wp2_with fail
  go_ret
  exact ⟨rfl, hB.alloc hB.size _⟩

set_option maxRecDepth 100000 in
set_option maxHeartbeats 1600000 in
theorem oth_ball (n d m c k l : Int) (w : World) (hn : I64 n) (hd : I64 d) (hm : I64 m) (hc : I64 c) (hk : I64 k) (hl : I64 l) (v1 : vldB n d = true) (v2 : vldB m c = true) (v3 : vldB k l = true) {P1 Q1 E1 P2 Q2 E2 P3 Q3 E3 P4 Q4 E4 P5 Q5 E5 P6 Q6 E6 P7 Q7 E7 : Int}
    (i1 : Is (vldB n d && vldB m c) (n * c + m * d) (d * c) P1 Q1 E1) (i2 : Is (vldB m c && vldB k l) (m * l + k * c) (c * l) P2 Q2 E2)
    (i3 : Is (vldB P1 Q1 && vldB k l) (P1 * l + k * Q1) (Q1 * l) P3 Q3 E3) (i4 : Is (vldB n d && vldB P2 Q2) (n * Q2 + P2 * d) (d * Q2) P4 Q4 E4)
    (i5 : Is (vldB n d && vldB P2 Q2) (n * P2) (d * Q2) P5 Q5 E5) (i6 : Is (vldB n d && vldB m c) (n * m) (d * c) P6 Q6 E6) (i7 : Is (vldB n d && vldB k l) (n * k) (d * l) P7 Q7 E7) (e1 : E1 ≠ 0) (e2 : E2 = 0) (e5 : E5 = 0) (e6 : E6 = 0) (e7 : E7 = 0) :
    Calls Tryd.prog 38 #[.agg #[.int .i64 n, .int .i64 d], .agg #[.int .i64 m, .int .i64 c], .agg #[.int .i64 k, .int .i64 l]] w (Made (.bool true) w) := by
  obtain ⟨_, _, _⟩ := And.intro v1 (And.intro v2 v3)
  subst e2; subst e5; subst e6; subst e7
  have y1 : (E1 == 0) = false := by simpa using e1
  have z1 : (E1 != 0) = true := by simpa using e1
  have i8 := dist_is v1 v2 v3 i2 i5 i6 i7
  have I8 := Lib.hid i8
  have I1 := Lib.hid i1
  have I2 := Lib.hid i2
  have I3 := Lib.hid i3
  have I4 := Lib.hid i4
  have I5 := Lib.hid i5
  have I6 := Lib.hid i6
  have I7 := Lib.hid i7
  have b1 := i1.bd
  have b2 := i2.bd
  have b6 := i6.bd
  have b7 := i7.bd
  clear i1 i2 i3 i4 i5 i6 i7
  clear i8 e1 v1 v2 v3
  go_enter Tryd.func38, Tryd.ntmps38
  go_wp2_with fail
  refine (add_is _ hn hd hm hc I1.out).mono ?_
  rintro e w1 ⟨rfl, hb⟩
  obtain ⟨pA, pB, pC, z1, hB⟩ := three_pairs hb
  clear z1
  clear hb
  obtain ⟨fA0, fA1, fA2, fA3⟩ := pA.facts
  have lA := pA.lt
  obtain ⟨fB0, fB1, fB2, fB3⟩ := pB.facts
  have lB := pB.lt
  obtain ⟨fC0, fC1, fC2, fC3⟩ := pC.facts
  have lC := pC.lt
  go_wp2_with fail
  refine (add_is _ hm hc hk hl I2.out).mono ?_
  rintro e w2 ⟨rfl, hb⟩
  clear fA0 fA1 fA2 fA3 lA
  clear fB0 fB1 fB2 fB3 lB
  clear fC0 fC1 fC2 fC3 lC
  have pD := (Pair.made w1 _ _ 23).kept hb
  replace pA := (pA.alloc _).kept hb
  replace pB := (pB.alloc _).kept hb
  replace pC := (pC.alloc _).kept hb
  replace hB := on_box hB hb
  clear hb
  obtain ⟨fA0, fA1, fA2, fA3⟩ := pA.facts
  have lA := pA.lt
  obtain ⟨fB0, fB1, fB2, fB3⟩ := pB.facts
  have lB := pB.lt
  obtain ⟨fC0, fC1, fC2, fC3⟩ := pC.facts
  have lC := pC.lt
  obtain ⟨fD0, fD1, fD2, fD3⟩ := pD.facts
  have lD := pD.lt
  go_wp2_with fail
  refine (add_is _ b1.1 b1.2 hk hl I3.out).mono ?_
  rintro e w3 ⟨rfl, hb⟩
  clear fA0 fA1 fA2 fA3 lA
  clear fB0 fB1 fB2 fB3 lB
  clear fC0 fC1 fC2 fC3 lC
  clear fD0 fD1 fD2 fD3 lD
  have pE := (Pair.made w2 _ _ 23).kept hb
  replace pA := (pA.alloc _).kept hb
  replace pB := (pB.alloc _).kept hb
  replace pC := (pC.alloc _).kept hb
  replace pD := (pD.alloc _).kept hb
  replace hB := on_box hB hb
  clear hb
  obtain ⟨fA0, fA1, fA2, fA3⟩ := pA.facts
  have lA := pA.lt
  obtain ⟨fB0, fB1, fB2, fB3⟩ := pB.facts
  have lB := pB.lt
  obtain ⟨fC0, fC1, fC2, fC3⟩ := pC.facts
  have lC := pC.lt
  obtain ⟨fD0, fD1, fD2, fD3⟩ := pD.facts
  have lD := pD.lt
  obtain ⟨fE0, fE1, fE2, fE3⟩ := pE.facts
  have lE := pE.lt
  go_wp2_with fail
  refine (add_is _ hn hd b2.1 b2.2 I4.out).mono ?_
  rintro e w4 ⟨rfl, hb⟩
  clear fA0 fA1 fA2 fA3 lA
  clear fB0 fB1 fB2 fB3 lB
  clear fC0 fC1 fC2 fC3 lC
  clear fD0 fD1 fD2 fD3 lD
  clear fE0 fE1 fE2 fE3 lE
  have pF := (Pair.made w3 _ _ 23).kept hb
  replace pA := (pA.alloc _).kept hb
  replace pB := (pB.alloc _).kept hb
  replace pC := (pC.alloc _).kept hb
  replace pD := (pD.alloc _).kept hb
  replace pE := (pE.alloc _).kept hb
  replace hB := on_box hB hb
  clear hb
  obtain ⟨fA0, fA1, fA2, fA3⟩ := pA.facts
  have lA := pA.lt
  obtain ⟨fB0, fB1, fB2, fB3⟩ := pB.facts
  have lB := pB.lt
  obtain ⟨fC0, fC1, fC2, fC3⟩ := pC.facts
  have lC := pC.lt
  obtain ⟨fD0, fD1, fD2, fD3⟩ := pD.facts
  have lD := pD.lt
  obtain ⟨fE0, fE1, fE2, fE3⟩ := pE.facts
  have lE := pE.lt
  obtain ⟨fF0, fF1, fF2, fF3⟩ := pF.facts
  have lF := pF.lt
  go_wp2_with fail
  refine (mul_is _ hn hd b2.1 b2.2 I5.out).mono ?_
  rintro e w5 ⟨rfl, hb⟩
  clear fA0 fA1 fA2 fA3 lA
  clear fB0 fB1 fB2 fB3 lB
  clear fC0 fC1 fC2 fC3 lC
  clear fD0 fD1 fD2 fD3 lD
  clear fE0 fE1 fE2 fE3 lE
  clear fF0 fF1 fF2 fF3 lF
  have pG := (Pair.made w4 _ _ 23).kept hb
  replace pA := (pA.alloc _).kept hb
  replace pB := (pB.alloc _).kept hb
  replace pC := (pC.alloc _).kept hb
  replace pD := (pD.alloc _).kept hb
  replace pE := (pE.alloc _).kept hb
  replace pF := (pF.alloc _).kept hb
  replace hB := on_box hB hb
  clear hb
  clear pD
  clear pF
  clear pG
  obtain ⟨fA0, fA1, fA2, fA3⟩ := pA.facts
  have lA := pA.lt
  obtain ⟨fB0, fB1, fB2, fB3⟩ := pB.facts
  have lB := pB.lt
  obtain ⟨fC0, fC1, fC2, fC3⟩ := pC.facts
  have lC := pC.lt
  obtain ⟨fE0, fE1, fE2, fE3⟩ := pE.facts
  have lE := pE.lt
  go_wp2_with fail
  refine (mul_is _ hn hd hm hc I6.out).mono ?_
  rintro e w6 ⟨rfl, hb⟩
  clear fA0 fA1 fA2 fA3 lA
  clear fB0 fB1 fB2 fB3 lB
  clear fC0 fC1 fC2 fC3 lC
  clear fE0 fE1 fE2 fE3 lE
  have pH := (Pair.made w5 _ _ 23).kept hb
  replace pA := (pA.alloc _).kept hb
  replace pB := (pB.alloc _).kept hb
  replace pC := (pC.alloc _).kept hb
  replace pE := (pE.alloc _).kept hb
  replace hB := on_box hB hb
  clear hb
  obtain ⟨fA0, fA1, fA2, fA3⟩ := pA.facts
  have lA := pA.lt
  obtain ⟨fB0, fB1, fB2, fB3⟩ := pB.facts
  have lB := pB.lt
  obtain ⟨fC0, fC1, fC2, fC3⟩ := pC.facts
  have lC := pC.lt
  obtain ⟨fE0, fE1, fE2, fE3⟩ := pE.facts
  have lE := pE.lt
  obtain ⟨fH0, fH1, fH2, fH3⟩ := pH.facts
  have lH := pH.lt
  go_wp2_with fail
  refine (mul_is _ hn hd hk hl I7.out).mono ?_
  rintro e w7 ⟨rfl, hb⟩
  clear fA0 fA1 fA2 fA3 lA
  clear fB0 fB1 fB2 fB3 lB
  clear fC0 fC1 fC2 fC3 lC
  clear fE0 fE1 fE2 fE3 lE
  clear fH0 fH1 fH2 fH3 lH
  have pI := (Pair.made w6 _ _ 23).kept hb
  replace pA := (pA.alloc _).kept hb
  replace pB := (pB.alloc _).kept hb
  replace pC := (pC.alloc _).kept hb
  replace pE := (pE.alloc _).kept hb
  replace pH := (pH.alloc _).kept hb
  replace hB := on_box hB hb
  clear hb
  obtain ⟨fA0, fA1, fA2, fA3⟩ := pA.facts
  have lA := pA.lt
  obtain ⟨fB0, fB1, fB2, fB3⟩ := pB.facts
  have lB := pB.lt
  obtain ⟨fC0, fC1, fC2, fC3⟩ := pC.facts
  have lC := pC.lt
  obtain ⟨fE0, fE1, fE2, fE3⟩ := pE.facts
  have lE := pE.lt
  obtain ⟨fH0, fH1, fH2, fH3⟩ := pH.facts
  have lH := pH.lt
  obtain ⟨fI0, fI1, fI2, fI3⟩ := pI.facts
  have lI := pI.lt
  go_wp2_with fail
  refine (add_is _ b6.1 b6.2 b7.1 b7.2 I8.out).mono ?_
  rintro e w8 ⟨rfl, hb⟩
  clear fA0 fA1 fA2 fA3 lA
  clear fB0 fB1 fB2 fB3 lB
  clear fC0 fC1 fC2 fC3 lC
  clear fE0 fE1 fE2 fE3 lE
  clear fH0 fH1 fH2 fH3 lH
  clear fI0 fI1 fI2 fI3 lI
  have pJ := (Pair.made w7 _ _ 23).kept hb
  replace pA := (pA.alloc _).kept hb
  replace pB := (pB.alloc _).kept hb
  replace pC := (pC.alloc _).kept hb
  replace pE := (pE.alloc _).kept hb
  replace pH := (pH.alloc _).kept hb
  replace pI := (pI.alloc _).kept hb
  replace hB := on_box hB hb
  clear hb
  obtain ⟨fA0, fA1, fA2, fA3⟩ := pA.facts
  have lA := pA.lt
  obtain ⟨fB0, fB1, fB2, fB3⟩ := pB.facts
  have lB := pB.lt
  obtain ⟨fC0, fC1, fC2, fC3⟩ := pC.facts
  have lC := pC.lt
  obtain ⟨fE0, fE1, fE2, fE3⟩ := pE.facts
  have lE := pE.lt
  obtain ⟨fH0, fH1, fH2, fH3⟩ := pH.facts
  have lH := pH.lt
  obtain ⟨fI0, fI1, fI2, fI3⟩ := pI.facts
  have lI := pI.lt
  obtain ⟨fJ0, fJ1, fJ2, fJ3⟩ := pJ.facts
  have lJ := pJ.lt
  go_wp2_with fail
  go_ret
  exact ⟨rfl, hB.alloc hB.size _⟩

set_option maxRecDepth 100000 in
set_option maxHeartbeats 1600000 in
theorem oth_b5 (n d m c k l : Int) (w : World) (hn : I64 n) (hd : I64 d) (hm : I64 m) (hc : I64 c) (hk : I64 k) (hl : I64 l) (v1 : vldB n d = true) (v2 : vldB m c = true) (v3 : vldB k l = true) {P1 Q1 E1 P2 Q2 E2 P3 Q3 E3 P4 Q4 E4 P5 Q5 E5 P6 Q6 E6 P7 Q7 E7 : Int}
    (i1 : Is (vldB n d && vldB m c) (n * c + m * d) (d * c) P1 Q1 E1) (i2 : Is (vldB m c && vldB k l) (m * l + k * c) (c * l) P2 Q2 E2)
    (i3 : Is (vldB P1 Q1 && vldB k l) (P1 * l + k * Q1) (Q1 * l) P3 Q3 E3) (i4 : Is (vldB n d && vldB P2 Q2) (n * Q2 + P2 * d) (d * Q2) P4 Q4 E4)
    (i5 : Is (vldB n d && vldB P2 Q2) (n * P2) (d * Q2) P5 Q5 E5) (i6 : Is (vldB n d && vldB m c) (n * m) (d * c) P6 Q6 E6) (i7 : Is (vldB n d && vldB k l) (n * k) (d * l) P7 Q7 E7) (e1 : E1 ≠ 0) (e2 : E2 = 0) (e5 : E5 ≠ 0) :
    Calls Tryd.prog 38 #[.agg #[.int .i64 n, .int .i64 d], .agg #[.int .i64 m, .int .i64 c], .agg #[.int .i64 k, .int .i64 l]] w (Made (.bool true) w) := by
  obtain ⟨_, _, _⟩ := And.intro v1 (And.intro v2 v3)
  subst e2
  have y1 : (E1 == 0) = false := by simpa using e1
  have z1 : (E1 != 0) = true := by simpa using e1
  have y5 : (E5 == 0) = false := by simpa using e5
  have z5 : (E5 != 0) = true := by simpa using e5
  have I1 := Lib.hid i1
  have I2 := Lib.hid i2
  have I3 := Lib.hid i3
  have I4 := Lib.hid i4
  have I5 := Lib.hid i5
  have I6 := Lib.hid i6
  have I7 := Lib.hid i7
  have b1 := i1.bd
  have b2 := i2.bd
  have b6 := i6.bd
  have b7 := i7.bd
  clear i1 i2 i3 i4 i5 i6 i7
  clear e1 e5 v1 v2 v3
  go_enter Tryd.func38, Tryd.ntmps38
  go_wp2_with fail
  refine (add_is _ hn hd hm hc I1.out).mono ?_
  rintro e w1 ⟨rfl, hb⟩
  obtain ⟨pA, pB, pC, z1, hB⟩ := three_pairs hb
  clear z1
  clear hb
  obtain ⟨fA0, fA1, fA2, fA3⟩ := pA.facts
  have lA := pA.lt
  obtain ⟨fB0, fB1, fB2, fB3⟩ := pB.facts
  have lB := pB.lt
  obtain ⟨fC0, fC1, fC2, fC3⟩ := pC.facts
  have lC := pC.lt
  go_wp2_with fail
  refine (add_is _ hm hc hk hl I2.out).mono ?_
  rintro e w2 ⟨rfl, hb⟩
  clear fA0 fA1 fA2 fA3 lA
  clear fB0 fB1 fB2 fB3 lB
  clear fC0 fC1 fC2 fC3 lC
  have pD := (Pair.made w1 _ _ 23).kept hb
  replace pA := (pA.alloc _).kept hb
  replace pB := (pB.alloc _).kept hb
  replace pC := (pC.alloc _).kept hb
  replace hB := on_box hB hb
  clear hb
  obtain ⟨fA0, fA1, fA2, fA3⟩ := pA.facts
  have lA := pA.lt
  obtain ⟨fB0, fB1, fB2, fB3⟩ := pB.facts
  have lB := pB.lt
  obtain ⟨fC0, fC1, fC2, fC3⟩ := pC.facts
  have lC := pC.lt
  obtain ⟨fD0, fD1, fD2, fD3⟩ := pD.facts
  have lD := pD.lt
  go_wp2_with fail
  refine (add_is _ b1.1 b1.2 hk hl I3.out).mono ?_
  rintro e w3 ⟨rfl, hb⟩
  clear fA0 fA1 fA2 fA3 lA
  clear fB0 fB1 fB2 fB3 lB
  clear fC0 fC1 fC2 fC3 lC
  clear fD0 fD1 fD2 fD3 lD
  have pE := (Pair.made w2 _ _ 23).kept hb
  replace pA := (pA.alloc _).kept hb
  replace pB := (pB.alloc _).kept hb
  replace pC := (pC.alloc _).kept hb
  replace pD := (pD.alloc _).kept hb
  replace hB := on_box hB hb
  clear hb
  obtain ⟨fA0, fA1, fA2, fA3⟩ := pA.facts
  have lA := pA.lt
  obtain ⟨fB0, fB1, fB2, fB3⟩ := pB.facts
  have lB := pB.lt
  obtain ⟨fC0, fC1, fC2, fC3⟩ := pC.facts
  have lC := pC.lt
  obtain ⟨fD0, fD1, fD2, fD3⟩ := pD.facts
  have lD := pD.lt
  obtain ⟨fE0, fE1, fE2, fE3⟩ := pE.facts
  have lE := pE.lt
  go_wp2_with fail
  refine (add_is _ hn hd b2.1 b2.2 I4.out).mono ?_
  rintro e w4 ⟨rfl, hb⟩
  clear fA0 fA1 fA2 fA3 lA
  clear fB0 fB1 fB2 fB3 lB
  clear fC0 fC1 fC2 fC3 lC
  clear fD0 fD1 fD2 fD3 lD
  clear fE0 fE1 fE2 fE3 lE
  have pF := (Pair.made w3 _ _ 23).kept hb
  replace pA := (pA.alloc _).kept hb
  replace pB := (pB.alloc _).kept hb
  replace pC := (pC.alloc _).kept hb
  replace pD := (pD.alloc _).kept hb
  replace pE := (pE.alloc _).kept hb
  replace hB := on_box hB hb
  clear hb
  obtain ⟨fA0, fA1, fA2, fA3⟩ := pA.facts
  have lA := pA.lt
  obtain ⟨fB0, fB1, fB2, fB3⟩ := pB.facts
  have lB := pB.lt
  obtain ⟨fC0, fC1, fC2, fC3⟩ := pC.facts
  have lC := pC.lt
  obtain ⟨fD0, fD1, fD2, fD3⟩ := pD.facts
  have lD := pD.lt
  obtain ⟨fE0, fE1, fE2, fE3⟩ := pE.facts
  have lE := pE.lt
  obtain ⟨fF0, fF1, fF2, fF3⟩ := pF.facts
  have lF := pF.lt
  go_wp2_with fail
  refine (mul_is _ hn hd b2.1 b2.2 I5.out).mono ?_
  rintro e w5 ⟨rfl, hb⟩
  clear fA0 fA1 fA2 fA3 lA
  clear fB0 fB1 fB2 fB3 lB
  clear fC0 fC1 fC2 fC3 lC
  clear fD0 fD1 fD2 fD3 lD
  clear fE0 fE1 fE2 fE3 lE
  clear fF0 fF1 fF2 fF3 lF
  have pG := (Pair.made w4 _ _ 23).kept hb
  replace pA := (pA.alloc _).kept hb
  replace pB := (pB.alloc _).kept hb
  replace pC := (pC.alloc _).kept hb
  replace pD := (pD.alloc _).kept hb
  replace pE := (pE.alloc _).kept hb
  replace pF := (pF.alloc _).kept hb
  replace hB := on_box hB hb
  clear hb
  clear pD
  clear pF
  clear pG
  obtain ⟨fA0, fA1, fA2, fA3⟩ := pA.facts
  have lA := pA.lt
  obtain ⟨fB0, fB1, fB2, fB3⟩ := pB.facts
  have lB := pB.lt
  obtain ⟨fC0, fC1, fC2, fC3⟩ := pC.facts
  have lC := pC.lt
  obtain ⟨fE0, fE1, fE2, fE3⟩ := pE.facts
  have lE := pE.lt
  go_wp2_with fail
  refine (mul_is _ hn hd hm hc I6.out).mono ?_
  rintro e w6 ⟨rfl, hb⟩
  clear fA0 fA1 fA2 fA3 lA
  clear fB0 fB1 fB2 fB3 lB
  clear fC0 fC1 fC2 fC3 lC
  clear fE0 fE1 fE2 fE3 lE
  have pH := (Pair.made w5 _ _ 23).kept hb
  replace pA := (pA.alloc _).kept hb
  replace pB := (pB.alloc _).kept hb
  replace pC := (pC.alloc _).kept hb
  replace pE := (pE.alloc _).kept hb
  replace hB := on_box hB hb
  clear hb
  obtain ⟨fA0, fA1, fA2, fA3⟩ := pA.facts
  have lA := pA.lt
  obtain ⟨fB0, fB1, fB2, fB3⟩ := pB.facts
  have lB := pB.lt
  obtain ⟨fC0, fC1, fC2, fC3⟩ := pC.facts
  have lC := pC.lt
  obtain ⟨fE0, fE1, fE2, fE3⟩ := pE.facts
  have lE := pE.lt
  obtain ⟨fH0, fH1, fH2, fH3⟩ := pH.facts
  have lH := pH.lt
  go_wp2_with fail
  refine (mul_is _ hn hd hk hl I7.out).mono ?_
  rintro e w7 ⟨rfl, hb⟩
  clear fA0 fA1 fA2 fA3 lA
  clear fB0 fB1 fB2 fB3 lB
  clear fC0 fC1 fC2 fC3 lC
  clear fE0 fE1 fE2 fE3 lE
  clear fH0 fH1 fH2 fH3 lH
  have pI := (Pair.made w6 _ _ 23).kept hb
  replace pA := (pA.alloc _).kept hb
  replace pB := (pB.alloc _).kept hb
  replace pC := (pC.alloc _).kept hb
  replace pE := (pE.alloc _).kept hb
  replace pH := (pH.alloc _).kept hb
  replace hB := on_box hB hb
  clear hb
  obtain ⟨fA0, fA1, fA2, fA3⟩ := pA.facts
  have lA := pA.lt
  obtain ⟨fB0, fB1, fB2, fB3⟩ := pB.facts
  have lB := pB.lt
  obtain ⟨fC0, fC1, fC2, fC3⟩ := pC.facts
  have lC := pC.lt
  obtain ⟨fE0, fE1, fE2, fE3⟩ := pE.facts
  have lE := pE.lt
  obtain ⟨fH0, fH1, fH2, fH3⟩ := pH.facts
  have lH := pH.lt
  obtain ⟨fI0, fI1, fI2, fI3⟩ := pI.facts
  have lI := pI.lt
  go_wp2_with fail
  go_ret
  exact ⟨rfl, hB.alloc hB.size _⟩

set_option maxRecDepth 100000 in
set_option maxHeartbeats 1600000 in
theorem oth_b6 (n d m c k l : Int) (w : World) (hn : I64 n) (hd : I64 d) (hm : I64 m) (hc : I64 c) (hk : I64 k) (hl : I64 l) (v1 : vldB n d = true) (v2 : vldB m c = true) (v3 : vldB k l = true) {P1 Q1 E1 P2 Q2 E2 P3 Q3 E3 P4 Q4 E4 P5 Q5 E5 P6 Q6 E6 P7 Q7 E7 : Int}
    (i1 : Is (vldB n d && vldB m c) (n * c + m * d) (d * c) P1 Q1 E1) (i2 : Is (vldB m c && vldB k l) (m * l + k * c) (c * l) P2 Q2 E2)
    (i3 : Is (vldB P1 Q1 && vldB k l) (P1 * l + k * Q1) (Q1 * l) P3 Q3 E3) (i4 : Is (vldB n d && vldB P2 Q2) (n * Q2 + P2 * d) (d * Q2) P4 Q4 E4)
    (i5 : Is (vldB n d && vldB P2 Q2) (n * P2) (d * Q2) P5 Q5 E5) (i6 : Is (vldB n d && vldB m c) (n * m) (d * c) P6 Q6 E6) (i7 : Is (vldB n d && vldB k l) (n * k) (d * l) P7 Q7 E7) (e1 : E1 ≠ 0) (e2 : E2 = 0) (e5 : E5 = 0) (e6 : E6 ≠ 0) :
    Calls Tryd.prog 38 #[.agg #[.int .i64 n, .int .i64 d], .agg #[.int .i64 m, .int .i64 c], .agg #[.int .i64 k, .int .i64 l]] w (Made (.bool true) w) := by
  obtain ⟨_, _, _⟩ := And.intro v1 (And.intro v2 v3)
  subst e2
  subst e5
  have y1 : (E1 == 0) = false := by simpa using e1
  have z1 : (E1 != 0) = true := by simpa using e1
  have y6 : (E6 == 0) = false := by simpa using e6
  have z6 : (E6 != 0) = true := by simpa using e6
  have I1 := Lib.hid i1
  have I2 := Lib.hid i2
  have I3 := Lib.hid i3
  have I4 := Lib.hid i4
  have I5 := Lib.hid i5
  have I6 := Lib.hid i6
  have I7 := Lib.hid i7
  have b1 := i1.bd
  have b2 := i2.bd
  have b6 := i6.bd
  have b7 := i7.bd
  clear i1 i2 i3 i4 i5 i6 i7
  clear e1 e6 v1 v2 v3
  go_enter Tryd.func38, Tryd.ntmps38
  go_wp2_with fail
  refine (add_is _ hn hd hm hc I1.out).mono ?_
  rintro e w1 ⟨rfl, hb⟩
  obtain ⟨pA, pB, pC, z1, hB⟩ := three_pairs hb
  clear z1
  clear hb
  obtain ⟨fA0, fA1, fA2, fA3⟩ := pA.facts
  have lA := pA.lt
  obtain ⟨fB0, fB1, fB2, fB3⟩ := pB.facts
  have lB := pB.lt
  obtain ⟨fC0, fC1, fC2, fC3⟩ := pC.facts
  have lC := pC.lt
  go_wp2_with fail
  refine (add_is _ hm hc hk hl I2.out).mono ?_
  rintro e w2 ⟨rfl, hb⟩
  clear fA0 fA1 fA2 fA3 lA
  clear fB0 fB1 fB2 fB3 lB
  clear fC0 fC1 fC2 fC3 lC
  have pD := (Pair.made w1 _ _ 23).kept hb
  replace pA := (pA.alloc _).kept hb
  replace pB := (pB.alloc _).kept hb
  replace pC := (pC.alloc _).kept hb
  replace hB := on_box hB hb
  clear hb
  obtain ⟨fA0, fA1, fA2, fA3⟩ := pA.facts
  have lA := pA.lt
  obtain ⟨fB0, fB1, fB2, fB3⟩ := pB.facts
  have lB := pB.lt
  obtain ⟨fC0, fC1, fC2, fC3⟩ := pC.facts
  have lC := pC.lt
  obtain ⟨fD0, fD1, fD2, fD3⟩ := pD.facts
  have lD := pD.lt
  go_wp2_with fail
  refine (add_is _ b1.1 b1.2 hk hl I3.out).mono ?_
  rintro e w3 ⟨rfl, hb⟩
  clear fA0 fA1 fA2 fA3 lA
  clear fB0 fB1 fB2 fB3 lB
  clear fC0 fC1 fC2 fC3 lC
  clear fD0 fD1 fD2 fD3 lD
  have pE := (Pair.made w2 _ _ 23).kept hb
  replace pA := (pA.alloc _).kept hb
  replace pB := (pB.alloc _).kept hb
  replace pC := (pC.alloc _).kept hb
  replace pD := (pD.alloc _).kept hb
  replace hB := on_box hB hb
  clear hb
  obtain ⟨fA0, fA1, fA2, fA3⟩ := pA.facts
  have lA := pA.lt
  obtain ⟨fB0, fB1, fB2, fB3⟩ := pB.facts
  have lB := pB.lt
  obtain ⟨fC0, fC1, fC2, fC3⟩ := pC.facts
  have lC := pC.lt
  obtain ⟨fD0, fD1, fD2, fD3⟩ := pD.facts
  have lD := pD.lt
  obtain ⟨fE0, fE1, fE2, fE3⟩ := pE.facts
  have lE := pE.lt
  go_wp2_with fail
  refine (add_is _ hn hd b2.1 b2.2 I4.out).mono ?_
  rintro e w4 ⟨rfl, hb⟩
  clear fA0 fA1 fA2 fA3 lA
  clear fB0 fB1 fB2 fB3 lB
  clear fC0 fC1 fC2 fC3 lC
  clear fD0 fD1 fD2 fD3 lD
  clear fE0 fE1 fE2 fE3 lE
  have pF := (Pair.made w3 _ _ 23).kept hb
  replace pA := (pA.alloc _).kept hb
  replace pB := (pB.alloc _).kept hb
  replace pC := (pC.alloc _).kept hb
  replace pD := (pD.alloc _).kept hb
  replace pE := (pE.alloc _).kept hb
  replace hB := on_box hB hb
  clear hb
  obtain ⟨fA0, fA1, fA2, fA3⟩ := pA.facts
  have lA := pA.lt
  obtain ⟨fB0, fB1, fB2, fB3⟩ := pB.facts
  have lB := pB.lt
  obtain ⟨fC0, fC1, fC2, fC3⟩ := pC.facts
  have lC := pC.lt
  obtain ⟨fD0, fD1, fD2, fD3⟩ := pD.facts
  have lD := pD.lt
  obtain ⟨fE0, fE1, fE2, fE3⟩ := pE.facts
  have lE := pE.lt
  obtain ⟨fF0, fF1, fF2, fF3⟩ := pF.facts
  have lF := pF.lt
  go_wp2_with fail
  refine (mul_is _ hn hd b2.1 b2.2 I5.out).mono ?_
  rintro e w5 ⟨rfl, hb⟩
  clear fA0 fA1 fA2 fA3 lA
  clear fB0 fB1 fB2 fB3 lB
  clear fC0 fC1 fC2 fC3 lC
  clear fD0 fD1 fD2 fD3 lD
  clear fE0 fE1 fE2 fE3 lE
  clear fF0 fF1 fF2 fF3 lF
  have pG := (Pair.made w4 _ _ 23).kept hb
  replace pA := (pA.alloc _).kept hb
  replace pB := (pB.alloc _).kept hb
  replace pC := (pC.alloc _).kept hb
  replace pD := (pD.alloc _).kept hb
  replace pE := (pE.alloc _).kept hb
  replace pF := (pF.alloc _).kept hb
  replace hB := on_box hB hb
  clear hb
  clear pD
  clear pF
  clear pG
  obtain ⟨fA0, fA1, fA2, fA3⟩ := pA.facts
  have lA := pA.lt
  obtain ⟨fB0, fB1, fB2, fB3⟩ := pB.facts
  have lB := pB.lt
  obtain ⟨fC0, fC1, fC2, fC3⟩ := pC.facts
  have lC := pC.lt
  obtain ⟨fE0, fE1, fE2, fE3⟩ := pE.facts
  have lE := pE.lt
  go_wp2_with fail
  refine (mul_is _ hn hd hm hc I6.out).mono ?_
  rintro e w6 ⟨rfl, hb⟩
  clear fA0 fA1 fA2 fA3 lA
  clear fB0 fB1 fB2 fB3 lB
  clear fC0 fC1 fC2 fC3 lC
  clear fE0 fE1 fE2 fE3 lE
  have pH := (Pair.made w5 _ _ 23).kept hb
  replace pA := (pA.alloc _).kept hb
  replace pB := (pB.alloc _).kept hb
  replace pC := (pC.alloc _).kept hb
  replace pE := (pE.alloc _).kept hb
  replace hB := on_box hB hb
  clear hb
  obtain ⟨fA0, fA1, fA2, fA3⟩ := pA.facts
  have lA := pA.lt
  obtain ⟨fB0, fB1, fB2, fB3⟩ := pB.facts
  have lB := pB.lt
  obtain ⟨fC0, fC1, fC2, fC3⟩ := pC.facts
  have lC := pC.lt
  obtain ⟨fE0, fE1, fE2, fE3⟩ := pE.facts
  have lE := pE.lt
  obtain ⟨fH0, fH1, fH2, fH3⟩ := pH.facts
  have lH := pH.lt
  go_wp2_with fail
  refine (mul_is _ hn hd hk hl I7.out).mono ?_
  rintro e w7 ⟨rfl, hb⟩
  clear fA0 fA1 fA2 fA3 lA
  clear fB0 fB1 fB2 fB3 lB
  clear fC0 fC1 fC2 fC3 lC
  clear fE0 fE1 fE2 fE3 lE
  clear fH0 fH1 fH2 fH3 lH
  have pI := (Pair.made w6 _ _ 23).kept hb
  replace pA := (pA.alloc _).kept hb
  replace pB := (pB.alloc _).kept hb
  replace pC := (pC.alloc _).kept hb
  replace pE := (pE.alloc _).kept hb
  replace pH := (pH.alloc _).kept hb
  replace hB := on_box hB hb
  clear hb
  obtain ⟨fA0, fA1, fA2, fA3⟩ := pA.facts
  have lA := pA.lt
  obtain ⟨fB0, fB1, fB2, fB3⟩ := pB.facts
  have lB := pB.lt
  obtain ⟨fC0, fC1, fC2, fC3⟩ := pC.facts
  have lC := pC.lt
  obtain ⟨fE0, fE1, fE2, fE3⟩ := pE.facts
  have lE := pE.lt
  obtain ⟨fH0, fH1, fH2, fH3⟩ := pH.facts
  have lH := pH.lt
  obtain ⟨fI0, fI1, fI2, fI3⟩ := pI.facts
  have lI := pI.lt
  go_wp2_with fail
  go_ret
  exact ⟨rfl, hB.alloc hB.size _⟩

set_option maxRecDepth 100000 in
set_option maxHeartbeats 1600000 in
theorem oth_b7 (n d m c k l : Int) (w : World) (hn : I64 n) (hd : I64 d) (hm : I64 m) (hc : I64 c) (hk : I64 k) (hl : I64 l) (v1 : vldB n d = true) (v2 : vldB m c = true) (v3 : vldB k l = true) {P1 Q1 E1 P2 Q2 E2 P3 Q3 E3 P4 Q4 E4 P5 Q5 E5 P6 Q6 E6 P7 Q7 E7 : Int}
    (i1 : Is (vldB n d && vldB m c) (n * c + m * d) (d * c) P1 Q1 E1) (i2 : Is (vldB m c && vldB k l) (m * l + k * c) (c * l) P2 Q2 E2)
    (i3 : Is (vldB P1 Q1 && vldB k l) (P1 * l + k * Q1) (Q1 * l) P3 Q3 E3) (i4 : Is (vldB n d && vldB P2 Q2) (n * Q2 + P2 * d) (d * Q2) P4 Q4 E4)
    (i5 : Is (vldB n d && vldB P2 Q2) (n * P2) (d * Q2) P5 Q5 E5) (i6 : Is (vldB n d && vldB m c) (n * m) (d * c) P6 Q6 E6) (i7 : Is (vldB n d && vldB k l) (n * k) (d * l) P7 Q7 E7) (e1 : E1 ≠ 0) (e2 : E2 = 0) (e5 : E5 = 0) (e6 : E6 = 0) (e7 : E7 ≠ 0) :
    Calls Tryd.prog 38 #[.agg #[.int .i64 n, .int .i64 d], .agg #[.int .i64 m, .int .i64 c], .agg #[.int .i64 k, .int .i64 l]] w (Made (.bool true) w) := by
  obtain ⟨_, _, _⟩ := And.intro v1 (And.intro v2 v3)
  subst e2
  subst e5; subst e6
  have y1 : (E1 == 0) = false := by simpa using e1
  have z1 : (E1 != 0) = true := by simpa using e1
  have y7 : (E7 == 0) = false := by simpa using e7
  have z7 : (E7 != 0) = true := by simpa using e7
  have I1 := Lib.hid i1
  have I2 := Lib.hid i2
  have I3 := Lib.hid i3
  have I4 := Lib.hid i4
  have I5 := Lib.hid i5
  have I6 := Lib.hid i6
  have I7 := Lib.hid i7
  have b1 := i1.bd
  have b2 := i2.bd
  have b6 := i6.bd
  have b7 := i7.bd
  clear i1 i2 i3 i4 i5 i6 i7
  clear e1 e7 v1 v2 v3
  go_enter Tryd.func38, Tryd.ntmps38
  go_wp2_with fail
  refine (add_is _ hn hd hm hc I1.out).mono ?_
  rintro e w1 ⟨rfl, hb⟩
  obtain ⟨pA, pB, pC, z1, hB⟩ := three_pairs hb
  clear z1
  clear hb
  obtain ⟨fA0, fA1, fA2, fA3⟩ := pA.facts
  have lA := pA.lt
  obtain ⟨fB0, fB1, fB2, fB3⟩ := pB.facts
  have lB := pB.lt
  obtain ⟨fC0, fC1, fC2, fC3⟩ := pC.facts
  have lC := pC.lt
  go_wp2_with fail
  refine (add_is _ hm hc hk hl I2.out).mono ?_
  rintro e w2 ⟨rfl, hb⟩
  clear fA0 fA1 fA2 fA3 lA
  clear fB0 fB1 fB2 fB3 lB
  clear fC0 fC1 fC2 fC3 lC
  have pD := (Pair.made w1 _ _ 23).kept hb
  replace pA := (pA.alloc _).kept hb
  replace pB := (pB.alloc _).kept hb
  replace pC := (pC.alloc _).kept hb
  replace hB := on_box hB hb
  clear hb
  obtain ⟨fA0, fA1, fA2, fA3⟩ := pA.facts
  have lA := pA.lt
  obtain ⟨fB0, fB1, fB2, fB3⟩ := pB.facts
  have lB := pB.lt
  obtain ⟨fC0, fC1, fC2, fC3⟩ := pC.facts
  have lC := pC.lt
  obtain ⟨fD0, fD1, fD2, fD3⟩ := pD.facts
  have lD := pD.lt
  go_wp2_with fail
  refine (add_is _ b1.1 b1.2 hk hl I3.out).mono ?_
  rintro e w3 ⟨rfl, hb⟩
  clear fA0 fA1 fA2 fA3 lA
  clear fB0 fB1 fB2 fB3 lB
  clear fC0 fC1 fC2 fC3 lC
  clear fD0 fD1 fD2 fD3 lD
  have pE := (Pair.made w2 _ _ 23).kept hb
  replace pA := (pA.alloc _).kept hb
  replace pB := (pB.alloc _).kept hb
  replace pC := (pC.alloc _).kept hb
  replace pD := (pD.alloc _).kept hb
  replace hB := on_box hB hb
  clear hb
  obtain ⟨fA0, fA1, fA2, fA3⟩ := pA.facts
  have lA := pA.lt
  obtain ⟨fB0, fB1, fB2, fB3⟩ := pB.facts
  have lB := pB.lt
  obtain ⟨fC0, fC1, fC2, fC3⟩ := pC.facts
  have lC := pC.lt
  obtain ⟨fD0, fD1, fD2, fD3⟩ := pD.facts
  have lD := pD.lt
  obtain ⟨fE0, fE1, fE2, fE3⟩ := pE.facts
  have lE := pE.lt
  go_wp2_with fail
  refine (add_is _ hn hd b2.1 b2.2 I4.out).mono ?_
  rintro e w4 ⟨rfl, hb⟩
  clear fA0 fA1 fA2 fA3 lA
  clear fB0 fB1 fB2 fB3 lB
  clear fC0 fC1 fC2 fC3 lC
  clear fD0 fD1 fD2 fD3 lD
  clear fE0 fE1 fE2 fE3 lE
  have pF := (Pair.made w3 _ _ 23).kept hb
  replace pA := (pA.alloc _).kept hb
  replace pB := (pB.alloc _).kept hb
  replace pC := (pC.alloc _).kept hb
  replace pD := (pD.alloc _).kept hb
  replace pE := (pE.alloc _).kept hb
  replace hB := on_box hB hb
  clear hb
  obtain ⟨fA0, fA1, fA2, fA3⟩ := pA.facts
  have lA := pA.lt
  obtain ⟨fB0, fB1, fB2, fB3⟩ := pB.facts
  have lB := pB.lt
  obtain ⟨fC0, fC1, fC2, fC3⟩ := pC.facts
  have lC := pC.lt
  obtain ⟨fD0, fD1, fD2, fD3⟩ := pD.facts
  have lD := pD.lt
  obtain ⟨fE0, fE1, fE2, fE3⟩ := pE.facts
  have lE := pE.lt
  obtain ⟨fF0, fF1, fF2, fF3⟩ := pF.facts
  have lF := pF.lt
  go_wp2_with fail
  refine (mul_is _ hn hd b2.1 b2.2 I5.out).mono ?_
  rintro e w5 ⟨rfl, hb⟩
  clear fA0 fA1 fA2 fA3 lA
  clear fB0 fB1 fB2 fB3 lB
  clear fC0 fC1 fC2 fC3 lC
  clear fD0 fD1 fD2 fD3 lD
  clear fE0 fE1 fE2 fE3 lE
  clear fF0 fF1 fF2 fF3 lF
  have pG := (Pair.made w4 _ _ 23).kept hb
  replace pA := (pA.alloc _).kept hb
  replace pB := (pB.alloc _).kept hb
  replace pC := (pC.alloc _).kept hb
  replace pD := (pD.alloc _).kept hb
  replace pE := (pE.alloc _).kept hb
  replace pF := (pF.alloc _).kept hb
  replace hB := on_box hB hb
  clear hb
  clear pD
  clear pF
  clear pG
  obtain ⟨fA0, fA1, fA2, fA3⟩ := pA.facts
  have lA := pA.lt
  obtain ⟨fB0, fB1, fB2, fB3⟩ := pB.facts
  have lB := pB.lt
  obtain ⟨fC0, fC1, fC2, fC3⟩ := pC.facts
  have lC := pC.lt
  obtain ⟨fE0, fE1, fE2, fE3⟩ := pE.facts
  have lE := pE.lt
  go_wp2_with fail
  refine (mul_is _ hn hd hm hc I6.out).mono ?_
  rintro e w6 ⟨rfl, hb⟩
  clear fA0 fA1 fA2 fA3 lA
  clear fB0 fB1 fB2 fB3 lB
  clear fC0 fC1 fC2 fC3 lC
  clear fE0 fE1 fE2 fE3 lE
  have pH := (Pair.made w5 _ _ 23).kept hb
  replace pA := (pA.alloc _).kept hb
  replace pB := (pB.alloc _).kept hb
  replace pC := (pC.alloc _).kept hb
  replace pE := (pE.alloc _).kept hb
  replace hB := on_box hB hb
  clear hb
  obtain ⟨fA0, fA1, fA2, fA3⟩ := pA.facts
  have lA := pA.lt
  obtain ⟨fB0, fB1, fB2, fB3⟩ := pB.facts
  have lB := pB.lt
  obtain ⟨fC0, fC1, fC2, fC3⟩ := pC.facts
  have lC := pC.lt
  obtain ⟨fE0, fE1, fE2, fE3⟩ := pE.facts
  have lE := pE.lt
  obtain ⟨fH0, fH1, fH2, fH3⟩ := pH.facts
  have lH := pH.lt
  go_wp2_with fail
  refine (mul_is _ hn hd hk hl I7.out).mono ?_
  rintro e w7 ⟨rfl, hb⟩
  clear fA0 fA1 fA2 fA3 lA
  clear fB0 fB1 fB2 fB3 lB
  clear fC0 fC1 fC2 fC3 lC
  clear fE0 fE1 fE2 fE3 lE
  clear fH0 fH1 fH2 fH3 lH
  have pI := (Pair.made w6 _ _ 23).kept hb
  replace pA := (pA.alloc _).kept hb
  replace pB := (pB.alloc _).kept hb
  replace pC := (pC.alloc _).kept hb
  replace pE := (pE.alloc _).kept hb
  replace pH := (pH.alloc _).kept hb
  replace hB := on_box hB hb
  clear hb
  obtain ⟨fA0, fA1, fA2, fA3⟩ := pA.facts
  have lA := pA.lt
  obtain ⟨fB0, fB1, fB2, fB3⟩ := pB.facts
  have lB := pB.lt
  obtain ⟨fC0, fC1, fC2, fC3⟩ := pC.facts
  have lC := pC.lt
  obtain ⟨fE0, fE1, fE2, fE3⟩ := pE.facts
  have lE := pE.lt
  obtain ⟨fH0, fH1, fH2, fH3⟩ := pH.facts
  have lH := pH.lt
  obtain ⟨fI0, fI1, fI2, fI3⟩ := pI.facts
  have lI := pI.lt
  go_wp2_with fail
  go_ret
  exact ⟨rfl, hB.alloc hB.size _⟩

set_option maxRecDepth 100000 in
set_option maxHeartbeats 1600000 in
theorem oth_c0 (n d m c k l : Int) (w : World) (hn : I64 n) (hd : I64 d) (hm : I64 m) (hc : I64 c) (hk : I64 k) (hl : I64 l) (v1 : vldB n d = true) (v2 : vldB m c = true) (v3 : vldB k l = true) {P1 Q1 E1 P2 Q2 E2 P3 Q3 E3 P4 Q4 E4 P5 Q5 E5 P6 Q6 E6 P7 Q7 E7 : Int}
    (i1 : Is (vldB n d && vldB m c) (n * c + m * d) (d * c) P1 Q1 E1) (i2 : Is (vldB m c && vldB k l) (m * l + k * c) (c * l) P2 Q2 E2)
    (i3 : Is (vldB P1 Q1 && vldB k l) (P1 * l + k * Q1) (Q1 * l) P3 Q3 E3) (i4 : Is (vldB n d && vldB P2 Q2) (n * Q2 + P2 * d) (d * Q2) P4 Q4 E4)
    (i5 : Is (vldB n d && vldB P2 Q2) (n * P2) (d * Q2) P5 Q5 E5) (i6 : Is (vldB n d && vldB m c) (n * m) (d * c) P6 Q6 E6) (i7 : Is (vldB n d && vldB k l) (n * k) (d * l) P7 Q7 E7) (e1 : E1 = 0) (e2 : E2 ≠ 0) :
    Calls Tryd.prog 38 #[.agg #[.int .i64 n, .int .i64 d], .agg #[.int .i64 m, .int .i64 c], .agg #[.int .i64 k, .int .i64 l]] w (Made (.bool true) w) := by
  obtain ⟨_, _, _⟩ := And.intro v1 (And.intro v2 v3)
  subst e1
  have y2 : (E2 == 0) = false := by simpa using e2
  have z2 : (E2 != 0) = true := by simpa using e2
  have I1 := Lib.hid i1
  have I2 := Lib.hid i2
  have I3 := Lib.hid i3
  have I4 := Lib.hid i4
  have I5 := Lib.hid i5
  have I6 := Lib.hid i6
  have I7 := Lib.hid i7
  have b1 := i1.bd
  have b2 := i2.bd
  have b6 := i6.bd
  have b7 := i7.bd
  clear i1 i2 i3 i4 i5 i6 i7
  clear e2 v1 v2 v3
  go_enter Tryd.func38, Tryd.ntmps38
  go_wp2_with fail
  refine (add_is _ hn hd hm hc I1.out).mono ?_
  rintro e w1 ⟨rfl, hb⟩
  obtain ⟨pA, pB, pC, z1, hB⟩ := three_pairs hb
  clear z1
  clear hb
  obtain ⟨fA0, fA1, fA2, fA3⟩ := pA.facts
  have lA := pA.lt
  obtain ⟨fB0, fB1, fB2, fB3⟩ := pB.facts
  have lB := pB.lt
  obtain ⟨fC0, fC1, fC2, fC3⟩ := pC.facts
  have lC := pC.lt
  go_wp2_with fail
  refine (add_is _ hm hc hk hl I2.out).mono ?_
  rintro e w2 ⟨rfl, hb⟩
  clear fA0 fA1 fA2 fA3 lA
  clear fB0 fB1 fB2 fB3 lB
  clear fC0 fC1 fC2 fC3 lC
  have pD := (Pair.made w1 _ _ 23).kept hb
  replace pA := (pA.alloc _).kept hb
  replace pB := (pB.alloc _).kept hb
  replace pC := (pC.alloc _).kept hb
  replace hB := on_box hB hb
  clear hb
  obtain ⟨fA0, fA1, fA2, fA3⟩ := pA.facts
  have lA := pA.lt
  obtain ⟨fB0, fB1, fB2, fB3⟩ := pB.facts
  have lB := pB.lt
  obtain ⟨fC0, fC1, fC2, fC3⟩ := pC.facts
  have lC := pC.lt
  obtain ⟨fD0, fD1, fD2, fD3⟩ := pD.facts
  have lD := pD.lt
  go_wp2_with fail
  refine (add_is _ b1.1 b1.2 hk hl I3.out).mono ?_
  rintro e w3 ⟨rfl, hb⟩
  clear fA0 fA1 fA2 fA3 lA
  clear fB0 fB1 fB2 fB3 lB
  clear fC0 fC1 fC2 fC3 lC
  clear fD0 fD1 fD2 fD3 lD
  have pE := (Pair.made w2 _ _ 23).kept hb
  replace pA := (pA.alloc _).kept hb
  replace pB := (pB.alloc _).kept hb
  replace pC := (pC.alloc _).kept hb
  replace pD := (pD.alloc _).kept hb
  replace hB := on_box hB hb
  clear hb
  obtain ⟨fA0, fA1, fA2, fA3⟩ := pA.facts
  have lA := pA.lt
  obtain ⟨fB0, fB1, fB2, fB3⟩ := pB.facts
  have lB := pB.lt
  obtain ⟨fC0, fC1, fC2, fC3⟩ := pC.facts
  have lC := pC.lt
  obtain ⟨fD0, fD1, fD2, fD3⟩ := pD.facts
  have lD := pD.lt
  obtain ⟨fE0, fE1, fE2, fE3⟩ := pE.facts
  have lE := pE.lt
  go_wp2_with fail
  refine (add_is _ hn hd b2.1 b2.2 I4.out).mono ?_
  rintro e w4 ⟨rfl, hb⟩
  clear fA0 fA1 fA2 fA3 lA
  clear fB0 fB1 fB2 fB3 lB
  clear fC0 fC1 fC2 fC3 lC
  clear fD0 fD1 fD2 fD3 lD
  clear fE0 fE1 fE2 fE3 lE
  have pF := (Pair.made w3 _ _ 23).kept hb
  replace pA := (pA.alloc _).kept hb
  replace pB := (pB.alloc _).kept hb
  replace pC := (pC.alloc _).kept hb
  replace pD := (pD.alloc _).kept hb
  replace pE := (pE.alloc _).kept hb
  replace hB := on_box hB hb
  clear hb
  obtain ⟨fA0, fA1, fA2, fA3⟩ := pA.facts
  have lA := pA.lt
  obtain ⟨fB0, fB1, fB2, fB3⟩ := pB.facts
  have lB := pB.lt
  obtain ⟨fC0, fC1, fC2, fC3⟩ := pC.facts
  have lC := pC.lt
  obtain ⟨fD0, fD1, fD2, fD3⟩ := pD.facts
  have lD := pD.lt
  obtain ⟨fE0, fE1, fE2, fE3⟩ := pE.facts
  have lE := pE.lt
  obtain ⟨fF0, fF1, fF2, fF3⟩ := pF.facts
  have lF := pF.lt
  go_wp2_with fail
  refine (mul_is _ hn hd b2.1 b2.2 I5.out).mono ?_
  rintro e w5 ⟨rfl, hb⟩
  clear fA0 fA1 fA2 fA3 lA
  clear fB0 fB1 fB2 fB3 lB
  clear fC0 fC1 fC2 fC3 lC
  clear fD0 fD1 fD2 fD3 lD
  clear fE0 fE1 fE2 fE3 lE
  clear fF0 fF1 fF2 fF3 lF
  have pG := (Pair.made w4 _ _ 23).kept hb
  replace pA := (pA.alloc _).kept hb
  replace pB := (pB.alloc _).kept hb
  replace pC := (pC.alloc _).kept hb
  replace pD := (pD.alloc _).kept hb
  replace pE := (pE.alloc _).kept hb
  replace pF := (pF.alloc _).kept hb
  replace hB := on_box hB hb
  clear hb
  clear pD
  clear pF
  clear pG
  obtain ⟨fA0, fA1, fA2, fA3⟩ := pA.facts
  have lA := pA.lt
  obtain ⟨fB0, fB1, fB2, fB3⟩ := pB.facts
  have lB := pB.lt
  obtain ⟨fC0, fC1, fC2, fC3⟩ := pC.facts
  have lC := pC.lt
  obtain ⟨fE0, fE1, fE2, fE3⟩ := pE.facts
  have lE := pE.lt
  go_wp2_with fail
  refine (mul_is _ hn hd hm hc I6.out).mono ?_
  rintro e w6 ⟨rfl, hb⟩
  clear fA0 fA1 fA2 fA3 lA
  clear fB0 fB1 fB2 fB3 lB
  clear fC0 fC1 fC2 fC3 lC
  clear fE0 fE1 fE2 fE3 lE
  have pH := (Pair.made w5 _ _ 23).kept hb
  replace pA := (pA.alloc _).kept hb
  replace pB := (pB.alloc _).kept hb
  replace pC := (pC.alloc _).kept hb
  replace pE := (pE.alloc _).kept hb
  replace hB := on_box hB hb
  clear hb
  obtain ⟨fA0, fA1, fA2, fA3⟩ := pA.facts
  have lA := pA.lt
  obtain ⟨fB0, fB1, fB2, fB3⟩ := pB.facts
  have lB := pB.lt
  obtain ⟨fC0, fC1, fC2, fC3⟩ := pC.facts
  have lC := pC.lt
  obtain ⟨fE0, fE1, fE2, fE3⟩ := pE.facts
  have lE := pE.lt
  obtain ⟨fH0, fH1, fH2, fH3⟩ := pH.facts
  have lH := pH.lt
  go_wp2_with fail
  refine (mul_is _ hn hd hk hl I7.out).mono ?_
  rintro e w7 ⟨rfl, hb⟩
  clear fA0 fA1 fA2 fA3 lA
  clear fB0 fB1 fB2 fB3 lB
  clear fC0 fC1 fC2 fC3 lC
  clear fE0 fE1 fE2 fE3 lE
  clear fH0 fH1 fH2 fH3 lH
  have pI := (Pair.made w6 _ _ 23).kept hb
  replace pA := (pA.alloc _).kept hb
  replace pB := (pB.alloc _).kept hb
  replace pC := (pC.alloc _).kept hb
  replace pE := (pE.alloc _).kept hb
  replace pH := (pH.alloc _).kept hb
  replace hB := on_box hB hb
  clear hb
  obtain ⟨fA0, fA1, fA2, fA3⟩ := pA.facts
  have lA := pA.lt
  obtain ⟨fB0, fB1, fB2, fB3⟩ := pB.facts
  have lB := pB.lt
  obtain ⟨fC0, fC1, fC2, fC3⟩ := pC.facts
  have lC := pC.lt
  obtain ⟨fE0, fE1, fE2, fE3⟩ := pE.facts
  have lE := pE.lt
  obtain ⟨fH0, fH1, fH2, fH3⟩ := pH.facts
  have lH := pH.lt
  obtain ⟨fI0, fI1, fI2, fI3⟩ := pI.facts
  have lI := pI.lt
  go_wp2_with fail
  go_ret
  exact ⟨rfl, hB.alloc hB.size _⟩

set_option maxRecDepth 100000 in
set_option maxHeartbeats 1600000 in
theorem oth_c1 (n d m c k l : Int) (w : World) (hn : I64 n) (hd : I64 d) (hm : I64 m) (hc : I64 c) (hk : I64 k) (hl : I64 l) (v1 : vldB n d = true) (v2 : vldB m c = true) (v3 : vldB k l = true) {P1 Q1 E1 P2 Q2 E2 P3 Q3 E3 P4 Q4 E4 P5 Q5 E5 P6 Q6 E6 P7 Q7 E7 : Int}
    (i1 : Is (vldB n d && vldB m c) (n * c + m * d) (d * c) P1 Q1 E1) (i2 : Is (vldB m c && vldB k l) (m * l + k * c) (c * l) P2 Q2 E2)
    (i3 : Is (vldB P1 Q1 && vldB k l) (P1 * l + k * Q1) (Q1 * l) P3 Q3 E3) (i4 : Is (vldB n d && vldB P2 Q2) (n * Q2 + P2 * d) (d * Q2) P4 Q4 E4)
    (i5 : Is (vldB n d && vldB P2 Q2) (n * P2) (d * Q2) P5 Q5 E5) (i6 : Is (vldB n d && vldB m c) (n * m) (d * c) P6 Q6 E6) (i7 : Is (vldB n d && vldB k l) (n * k) (d * l) P7 Q7 E7) (e1 : E1 ≠ 0) (e2 : E2 ≠ 0) :
    Calls Tryd.prog 38 #[.agg #[.int .i64 n, .int .i64 d], .agg #[.int .i64 m, .int .i64 c], .agg #[.int .i64 k, .int .i64 l]] w (Made (.bool true) w) := by
  obtain ⟨_, _, _⟩ := And.intro v1 (And.intro v2 v3)
  have y1 : (E1 == 0) = false := by simpa using e1
  have z1 : (E1 != 0) = true := by simpa using e1
  have y2 : (E2 == 0) = false := by simpa using e2
  have z2 : (E2 != 0) = true := by simpa using e2
  have I1 := Lib.hid i1
  have I2 := Lib.hid i2
  have I3 := Lib.hid i3
  have I4 := Lib.hid i4
  have I5 := Lib.hid i5
  have I6 := Lib.hid i6
  have I7 := Lib.hid i7
  have b1 := i1.bd
  have b2 := i2.bd
  have b6 := i6.bd
  have b7 := i7.bd
  clear i1 i2 i3 i4 i5 i6 i7
  clear e1 e2 v1 v2 v3
  go_enter Tryd.func38, Tryd.ntmps38
  go_wp2_with fail
  refine (add_is _ hn hd hm hc I1.out).mono ?_
  rintro e w1 ⟨rfl, hb⟩
  obtain ⟨pA, pB, pC, z1, hB⟩ := three_pairs hb
  clear z1
  clear hb
  obtain ⟨fA0, fA1, fA2, fA3⟩ := pA.facts
  have lA := pA.lt
  obtain ⟨fB0, fB1, fB2, fB3⟩ := pB.facts
  have lB := pB.lt
  obtain ⟨fC0, fC1, fC2, fC3⟩ := pC.facts
  have lC := pC.lt
  go_wp2_with fail
  refine (add_is _ hm hc hk hl I2.out).mono ?_
  rintro e w2 ⟨rfl, hb⟩
  clear fA0 fA1 fA2 fA3 lA
  clear fB0 fB1 fB2 fB3 lB
  clear fC0 fC1 fC2 fC3 lC
  have pD := (Pair.made w1 _ _ 23).kept hb
  replace pA := (pA.alloc _).kept hb
  replace pB := (pB.alloc _).kept hb
  replace pC := (pC.alloc _).kept hb
  replace hB := on_box hB hb
  clear hb
  obtain ⟨fA0, fA1, fA2, fA3⟩ := pA.facts
  have lA := pA.lt
  obtain ⟨fB0, fB1, fB2, fB3⟩ := pB.facts
  have lB := pB.lt
  obtain ⟨fC0, fC1, fC2, fC3⟩ := pC.facts
  have lC := pC.lt
  obtain ⟨fD0, fD1, fD2, fD3⟩ := pD.facts
  have lD := pD.lt
  go_wp2_with fail
  refine (add_is _ b1.1 b1.2 hk hl I3.out).mono ?_
  rintro e w3 ⟨rfl, hb⟩
  clear fA0 fA1 fA2 fA3 lA
  clear fB0 fB1 fB2 fB3 lB
  clear fC0 fC1 fC2 fC3 lC
  clear fD0 fD1 fD2 fD3 lD
  have pE := (Pair.made w2 _ _ 23).kept hb
  replace pA := (pA.alloc _).kept hb
  replace pB := (pB.alloc _).kept hb
  replace pC := (pC.alloc _).kept hb
  replace pD := (pD.alloc _).kept hb
  replace hB := on_box hB hb
  clear hb
  obtain ⟨fA0, fA1, fA2, fA3⟩ := pA.facts
  have lA := pA.lt
  obtain ⟨fB0, fB1, fB2, fB3⟩ := pB.facts
  have lB := pB.lt
  obtain ⟨fC0, fC1, fC2, fC3⟩ := pC.facts
  have lC := pC.lt
  obtain ⟨fD0, fD1, fD2, fD3⟩ := pD.facts
  have lD := pD.lt
  obtain ⟨fE0, fE1, fE2, fE3⟩ := pE.facts
  have lE := pE.lt
  go_wp2_with fail
  refine (add_is _ hn hd b2.1 b2.2 I4.out).mono ?_
  rintro e w4 ⟨rfl, hb⟩
  clear fA0 fA1 fA2 fA3 lA
  clear fB0 fB1 fB2 fB3 lB
  clear fC0 fC1 fC2 fC3 lC
  clear fD0 fD1 fD2 fD3 lD
  clear fE0 fE1 fE2 fE3 lE
  have pF := (Pair.made w3 _ _ 23).kept hb
  replace pA := (pA.alloc _).kept hb
  replace pB := (pB.alloc _).kept hb
  replace pC := (pC.alloc _).kept hb
  replace pD := (pD.alloc _).kept hb
  replace pE := (pE.alloc _).kept hb
  replace hB := on_box hB hb
  clear hb
  obtain ⟨fA0, fA1, fA2, fA3⟩ := pA.facts
  have lA := pA.lt
  obtain ⟨fB0, fB1, fB2, fB3⟩ := pB.facts
  have lB := pB.lt
  obtain ⟨fC0, fC1, fC2, fC3⟩ := pC.facts
  have lC := pC.lt
  obtain ⟨fD0, fD1, fD2, fD3⟩ := pD.facts
  have lD := pD.lt
  obtain ⟨fE0, fE1, fE2, fE3⟩ := pE.facts
  have lE := pE.lt
  obtain ⟨fF0, fF1, fF2, fF3⟩ := pF.facts
  have lF := pF.lt
  go_wp2_with fail
  refine (mul_is _ hn hd b2.1 b2.2 I5.out).mono ?_
  rintro e w5 ⟨rfl, hb⟩
  clear fA0 fA1 fA2 fA3 lA
  clear fB0 fB1 fB2 fB3 lB
  clear fC0 fC1 fC2 fC3 lC
  clear fD0 fD1 fD2 fD3 lD
  clear fE0 fE1 fE2 fE3 lE
  clear fF0 fF1 fF2 fF3 lF
  have pG := (Pair.made w4 _ _ 23).kept hb
  replace pA := (pA.alloc _).kept hb
  replace pB := (pB.alloc _).kept hb
  replace pC := (pC.alloc _).kept hb
  replace pD := (pD.alloc _).kept hb
  replace pE := (pE.alloc _).kept hb
  replace pF := (pF.alloc _).kept hb
  replace hB := on_box hB hb
  clear hb
  clear pD
  clear pF
  clear pG
  obtain ⟨fA0, fA1, fA2, fA3⟩ := pA.facts
  have lA := pA.lt
  obtain ⟨fB0, fB1, fB2, fB3⟩ := pB.facts
  have lB := pB.lt
  obtain ⟨fC0, fC1, fC2, fC3⟩ := pC.facts
  have lC := pC.lt
  obtain ⟨fE0, fE1, fE2, fE3⟩ := pE.facts
  have lE := pE.lt
  go_wp2_with fail
  refine (mul_is _ hn hd hm hc I6.out).mono ?_
  rintro e w6 ⟨rfl, hb⟩
  clear fA0 fA1 fA2 fA3 lA
  clear fB0 fB1 fB2 fB3 lB
  clear fC0 fC1 fC2 fC3 lC
  clear fE0 fE1 fE2 fE3 lE
  have pH := (Pair.made w5 _ _ 23).kept hb
  replace pA := (pA.alloc _).kept hb
  replace pB := (pB.alloc _).kept hb
  replace pC := (pC.alloc _).kept hb
  replace pE := (pE.alloc _).kept hb
  replace hB := on_box hB hb
  clear hb
  obtain ⟨fA0, fA1, fA2, fA3⟩ := pA.facts
  have lA := pA.lt
  obtain ⟨fB0, fB1, fB2, fB3⟩ := pB.facts
  have lB := pB.lt
  obtain ⟨fC0, fC1, fC2, fC3⟩ := pC.facts
  have lC := pC.lt
  obtain ⟨fE0, fE1, fE2, fE3⟩ := pE.facts
  have lE := pE.lt
  obtain ⟨fH0, fH1, fH2, fH3⟩ := pH.facts
  have lH := pH.lt
  go_wp2_with fail
  refine (mul_is _ hn hd hk hl I7.out).mono ?_
  rintro e w7 ⟨rfl, hb⟩
  clear fA0 fA1 fA2 fA3 lA
  clear fB0 fB1 fB2 fB3 lB
  clear fC0 fC1 fC2 fC3 lC
  clear fE0 fE1 fE2 fE3 lE
  clear fH0 fH1 fH2 fH3 lH
  have pI := (Pair.made w6 _ _ 23).kept hb
  replace pA := (pA.alloc _).kept hb
  replace pB := (pB.alloc _).kept hb
  replace pC := (pC.alloc _).kept hb
  replace pE := (pE.alloc _).kept hb
  replace pH := (pH.alloc _).kept hb
  replace hB := on_box hB hb
  clear hb
  obtain ⟨fA0, fA1, fA2, fA3⟩ := pA.facts
  have lA := pA.lt
  obtain ⟨fB0, fB1, fB2, fB3⟩ := pB.facts
  have lB := pB.lt
  obtain ⟨fC0, fC1, fC2, fC3⟩ := pC.facts
  have lC := pC.lt
  obtain ⟨fE0, fE1, fE2, fE3⟩ := pE.facts
  have lE := pE.lt
  obtain ⟨fH0, fH1, fH2, fH3⟩ := pH.facts
  have lH := pH.lt
  obtain ⟨fI0, fI1, fI2, fI3⟩ := pI.facts
  have lI := pI.lt
  go_wp2_with fail
  go_ret
  exact ⟨rfl, hB.alloc hB.size _⟩

theorem others_any (n d m c k l : Int) (w : World) (hn : I64 n) (hd : I64 d) (hm : I64 m) (hc : I64 c) (hk : I64 k) (hl : I64 l) (v1 : vldB n d = true) (v2 : vldB m c = true) (v3 : vldB k l = true) :
    Calls Tryd.prog 38 #[.agg #[.int .i64 n, .int .i64 d], .agg #[.int .i64 m, .int .i64 c], .agg #[.int .i64 k, .int .i64 l]] w (Made (.bool true) w) := by
  obtain ⟨P1, Q1, E1, i1⟩ := Is.any (vldB n d && vldB m c) (n * c + m * d) (d * c)
  obtain ⟨P2, Q2, E2, i2⟩ := Is.any (vldB m c && vldB k l) (m * l + k * c) (c * l)
  obtain ⟨P3, Q3, E3, i3⟩ := Is.any (vldB P1 Q1 && vldB k l) (P1 * l + k * Q1) (Q1 * l)
  obtain ⟨P4, Q4, E4, i4⟩ := Is.any (vldB n d && vldB P2 Q2) (n * Q2 + P2 * d) (d * Q2)
  obtain ⟨P5, Q5, E5, i5⟩ := Is.any (vldB n d && vldB P2 Q2) (n * P2) (d * Q2)
  obtain ⟨P6, Q6, E6, i6⟩ := Is.any (vldB n d && vldB m c) (n * m) (d * c)
  obtain ⟨P7, Q7, E7, i7⟩ := Is.any (vldB n d && vldB k l) (n * k) (d * l)
  by_cases e2 : E2 = 0
  · by_cases e1 : E1 = 0
    · by_cases e5 : E5 = 0
      · by_cases e6 : E6 = 0
        · by_cases e7 : E7 = 0
          · exact oth_all n d m c k l w hn hd hm hc hk hl v1 v2 v3 i1 i2 i3 i4 i5 i6 i7 e1 e2 e5 e6 e7
          · exact oth_a7 n d m c k l w hn hd hm hc hk hl v1 v2 v3 i1 i2 i3 i4 i5 i6 i7 e1 e2 e5 e6 e7
        · exact oth_a6 n d m c k l w hn hd hm hc hk hl v1 v2 v3 i1 i2 i3 i4 i5 i6 i7 e1 e2 e5 e6
      · exact oth_a5 n d m c k l w hn hd hm hc hk hl v1 v2 v3 i1 i2 i3 i4 i5 i6 i7 e1 e2 e5
    · by_cases e5 : E5 = 0
      · by_cases e6 : E6 = 0
        · by_cases e7 : E7 = 0
          · exact oth_ball n d m c k l w hn hd hm hc hk hl v1 v2 v3 i1 i2 i3 i4 i5 i6 i7 e1 e2 e5 e6 e7
          · exact oth_b7 n d m c k l w hn hd hm hc hk hl v1 v2 v3 i1 i2 i3 i4 i5 i6 i7 e1 e2 e5 e6 e7
        · exact oth_b6 n d m c k l w hn hd hm hc hk hl v1 v2 v3 i1 i2 i3 i4 i5 i6 i7 e1 e2 e5 e6
      · exact oth_b5 n d m c k l w hn hd hm hc hk hl v1 v2 v3 i1 i2 i3 i4 i5 i6 i7 e1 e2 e5
  · by_cases e1 : E1 = 0
    · exact oth_c0 n d m c k l w hn hd hm hc hk hl v1 v2 v3 i1 i2 i3 i4 i5 i6 i7 e1 e2
    · exact oth_c1 n d m c k l w hn hd hm hc hk hl v1 v2 v3 i1 i2 i3 i4 i5 i6 i7 e1 e2
end Go.Proofs.YtnbkphklidjmhaaDoor
