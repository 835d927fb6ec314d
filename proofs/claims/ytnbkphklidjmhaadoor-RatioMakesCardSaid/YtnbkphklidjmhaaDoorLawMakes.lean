/- RatioMakes: for every two int64, Make, Of, Valid, Floor, Ceil and Neg of package ratio return what the reference returns (Floor, Ceil and Neg of both numbers as a ratio, valid or not, and of what Make returns); the statement's function returns true. Conditions: none beyond the row's own (the three listed tables of the library hold what the program's text lays). -/
import Derived.Test.YtnbkphklidjmhaaDoorK
import Derived.Test.YtnbkphklidjmhaaDoorP
namespace Go.Proofs.YtnbkphklidjmhaaDoor.Makes
open Go.Proofs.YtnbkphklidjmhaaDoor
open Go.ChangeShapes Go.WideShapes Go.ChangeAt Go.RowKit Go.Joins

def selI (b : Bool) (x : Int) : Int := if b then x else 0
theorem floorS (n d : Int) (w : World) (hn : I64 n) (hd : I64 d) :
    Calls Tryd.prog 15 #[.agg #[.int .i64 n, .int .i64 d]] w (Made (.tuple #[.int .i64 (selI (vldB n d) (n / d)), .int .i64 (okErr (vldB n d))]) w) := ratioFloor_any n d w hn hd
theorem refFloorS (n d : Int) (w : World) (hn : I64 n) (hd : I64 d) :
    Calls Tryd.prog 16 #[.agg #[.int .i64 n, .int .i64 d]] w (Made (.tuple #[.int .i64 (selI (vldB n d) (n / d)), .int .i64 (okErr (vldB n d))]) w) := refFloor_any n d w hn hd
theorem ceilS (n d : Int) (w : World) (hn : I64 n) (hd : I64 d) :
    Calls Tryd.prog 17 #[.agg #[.int .i64 n, .int .i64 d]] w (Made (.tuple #[.int .i64 (selI (vldB n d) (-(-n / d))), .int .i64 (okErr (vldB n d))]) w) := ratioCeil_any n d w hn hd
theorem refCeilS (n d : Int) (w : World) (hn : I64 n) (hd : I64 d) :
    Calls Tryd.prog 18 #[.agg #[.int .i64 n, .int .i64 d]] w (Made (.tuple #[.int .i64 (selI (vldB n d) (-(-n / d))), .int .i64 (okErr (vldB n d))]) w) := refCeil_any n d w hn hd
theorem negS (n d : Int) (w : World) (hn : I64 n) (hd : I64 d) :
    Calls Tryd.prog 19 #[.agg #[.int .i64 n, .int .i64 d]] w (Made (.tuple #[.agg #[.int .i64 (selI (vldB n d) (-n)), .int .i64 (selI (vldB n d) d)], .int .i64 (okErr (vldB n d))]) w) := neg_any n d w hn hd
theorem refNegS (n d : Int) (w : World) (hn : I64 n) (hd : I64 d) :
    Calls Tryd.prog 20 #[.agg #[.int .i64 n, .int .i64 d]] w (Made (.tuple #[.agg #[.int .i64 (selI (vldB n d) (-n)), .int .i64 (selI (vldB n d) d)], .int .i64 (okErr (vldB n d))]) w) := refNeg_any n d w hn hd

/-- Block b holds four integers. -/
def Quad (w : World) (b : Nat) (x y u v : Int) : Prop := Cell w ⟨b, 0, none⟩ (.int .i64 x) ∧ Cell w ⟨b, 1, none⟩ (.int .i64 y) ∧ Cell w ⟨b, 2, none⟩ (.int .i64 u) ∧ Cell w ⟨b, 3, none⟩ (.int .i64 v)
theorem Quad.lt {w : World} {b : Nat} {x y u v : Int} (h : Quad w b x y u v) : b < w.heap.size := h.1.lt
theorem Quad.kept {w w' : World} {b : Nat} {x y u v : Int} (h : Quad w b x y u v) (hb : Below w.heap.size w w') : Quad w' b x y u v := ⟨h.1.kept hb, h.2.1.kept hb, h.2.2.1.kept hb, h.2.2.2.kept hb⟩
theorem Quad.made (w : World) (x y u v : Int) (t : TypeId) : Quad (w.alloc (.cells #[.int .i64 x, .int .i64 y, .int .i64 u, .int .i64 v] t)) w.heap.size x y u v :=
  ⟨⟨by go_simp, by go_simp⟩, ⟨by go_simp, by go_simp⟩, ⟨by go_simp, by go_simp⟩, ⟨by go_simp, by go_simp⟩⟩
theorem Quad.facts {w : World} {b : Nat} {x y u v : Int} (h : Quad w b x y u v) : w.cell? ⟨b, 0, none⟩ = some (.int .i64 x) ∧ w.cell? ⟨b, 1, none⟩ = some (.int .i64 y) ∧ w.cell? ⟨b, 2, none⟩ = some (.int .i64 u) ∧ w.cell? ⟨b, 3, none⟩ = some (.int .i64 v) :=
  ⟨h.1.1, h.2.1.1, h.2.2.1.1, h.2.2.2.1⟩

set_option maxRecDepth 100000 in
set_option maxHeartbeats 1600000 in
theorem walk (n d : Int) (w : World) (hF : Fit w) (hn : I64 n) (hd : I64 d) :
    Calls Tryd.prog 3 #[.int .i64 n, .int .i64 d] w (Made (.bool true) w) := by
  have HF := Lib.hid hF
  have c1 := fun W => make_any n d W hn.1 hn.2 hd.1 hd.2
  have c2 := fun W => refMake_any n d W hn.1 hn.2 hd.1 hd.2
  have hX : I64 (mkNum n d) := by have := mkNum_bd n d; exact ⟨by omega, by omega⟩
  have hY : I64 (mkDen n d) := by have := mkDen_bd n d; exact ⟨by omega, by omega⟩
  generalize mkNum n d = X at *
  generalize mkDen n d = Y at *
  generalize mkErr n d = E at *
  have C1 := Lib.hid c1
  have C2 := Lib.hid c2
  clear c1 c2 hF
  have c3 := fun W => of_any n W hn
  have c4 := fun W => refOf_any n W hn
  generalize mkNum n 1 = X1 at *
  generalize mkDen n 1 = Y1 at *
  generalize mkErr n 1 = E1 at *
  have C3 := Lib.hid c3
  have C4 := Lib.hid c4
  clear c3 c4
  have c5 := fun W => valid_as (n := n) (d := d) W hn hd rfl
  have c6 := fun W => refValid_as (n := n) (d := d) W hn hd rfl
  generalize vldB n d = V at *
  have C5 := Lib.hid c5
  have C6 := Lib.hid c6
  clear c5 c6
  go_enter Tryd.func3, Tryd.ntmps3
  go_wp2_with fail
  refine (C1.out _).mono ?_
  rintro e w1 ⟨rfl, hb⟩
  have pA := (Pair.made w _ _ 23).kept hb
  have z1 : w.heap.size + 1 ≤ w1.heap.size := by have := hb.size; simpa using this
  have hB := past_one hb
  clear hb
  go_wp2_with fail
  refine (C2.out _).mono ?_
  rintro e w2 ⟨rfl, hb⟩
  have pB := (Pair.made w1 _ _ 23).kept hb
  replace pA := (pA.alloc _).kept hb
  have z2 : w1.heap.size + 1 ≤ w2.heap.size := by have := hb.size; simpa using this
  replace hB := on_box hB hb
  clear hb
  go_wp2_with fail
  refine (C3.out _).mono ?_
  rintro e w3 ⟨rfl, hb⟩
  have pC := (Pair.made w2 _ _ 23).kept hb
  replace pA := (pA.alloc _).kept hb
  replace pB := (pB.alloc _).kept hb
  have z3 : w2.heap.size + 1 ≤ w3.heap.size := by have := hb.size; simpa using this
  replace hB := on_box hB hb
  clear hb
  go_wp2_with fail
  refine (C4.out _).mono ?_
  rintro e w4 ⟨rfl, hb⟩
  have pD := (Pair.made w3 _ _ 23).kept hb
  replace pA := (pA.alloc _).kept hb
  replace pB := (pB.alloc _).kept hb
  replace pC := (pC.alloc _).kept hb
  have z4 : w3.heap.size + 1 ≤ w4.heap.size := by have := hb.size; simpa using this
  replace hB := on_box hB hb
  clear hb
  have g1 : w.heap.size < w4.heap.size := by omega
  have g2 : w1.heap.size < w4.heap.size := by omega
  have g3 : w2.heap.size < w4.heap.size := by omega
  have g4 : w3.heap.size < w4.heap.size := by omega
  obtain ⟨fA0, fA1, fA2, fA3⟩ := pA.facts
  obtain ⟨fB0, fB1, fB2, fB3⟩ := pB.facts
  obtain ⟨fC0, fC1, fC2, fC3⟩ := pC.facts
  obtain ⟨fD0, fD1, fD2, fD3⟩ := pD.facts
  go_wp2_with fail
  clear fA0 fA1 fA2 fA3
  clear fB0 fB1 fB2 fB3
  clear fC0 fC1 fC2 fC3
  clear fD0 fD1 fD2 fD3
  have pE := Pair.made w4 X1 Y1 23
  replace pA := pA.alloc (.cells #[.int .i64 X1, .int .i64 Y1] 23)
  replace pB := pB.alloc (.cells #[.int .i64 X1, .int .i64 Y1] 23)
  replace pC := pC.alloc (.cells #[.int .i64 X1, .int .i64 Y1] 23)
  replace pD := pD.alloc (.cells #[.int .i64 X1, .int .i64 Y1] 23)
  replace hB := hB.alloc hB.size (.cells #[.int .i64 X1, .int .i64 Y1] 23)
  generalize w4.alloc (.cells #[.int .i64 X1, .int .i64 Y1] 23) = wx at *
  have HS := Lib.hid (show ∀ w1' w2' : World, Below w1'.heap.size w1' w2' → (fun w' : World => w'.cell? ⟨w.heap.size, 0, none⟩ = some (.int .i64 n) ∧ w'.cell? ⟨w.heap.size, 1, none⟩ = some (.int .i64 d) ∧ w'.cell? ⟨w1.heap.size, 0, none⟩ = some (.int .i64 X) ∧ w'.cell? ⟨w1.heap.size, 1, none⟩ = some (.int .i64 Y) ∧ w'.cell? ⟨w2.heap.size, 0, none⟩ = some (.int .i64 X) ∧ w'.cell? ⟨w2.heap.size, 1, none⟩ = some (.int .i64 Y) ∧ w'.cell? ⟨w3.heap.size, 0, none⟩ = some (.int .i64 X1) ∧ w'.cell? ⟨w3.heap.size, 1, none⟩ = some (.int .i64 Y1) ∧ w'.cell? ⟨w4.heap.size, 0, none⟩ = some (.int .i64 X1) ∧ w'.cell? ⟨w4.heap.size, 1, none⟩ = some (.int .i64 Y1)) w1' → (fun w' : World => w'.cell? ⟨w.heap.size, 0, none⟩ = some (.int .i64 n) ∧ w'.cell? ⟨w.heap.size, 1, none⟩ = some (.int .i64 d) ∧ w'.cell? ⟨w1.heap.size, 0, none⟩ = some (.int .i64 X) ∧ w'.cell? ⟨w1.heap.size, 1, none⟩ = some (.int .i64 Y) ∧ w'.cell? ⟨w2.heap.size, 0, none⟩ = some (.int .i64 X) ∧ w'.cell? ⟨w2.heap.size, 1, none⟩ = some (.int .i64 Y) ∧ w'.cell? ⟨w3.heap.size, 0, none⟩ = some (.int .i64 X1) ∧ w'.cell? ⟨w3.heap.size, 1, none⟩ = some (.int .i64 Y1) ∧ w'.cell? ⟨w4.heap.size, 0, none⟩ = some (.int .i64 X1) ∧ w'.cell? ⟨w4.heap.size, 1, none⟩ = some (.int .i64 Y1)) w2' from
    fun _ _ hb ⟨h0, h1, h2, h3, h4, h5, h6, h7, h8, h9⟩ => ⟨kept hb h0, kept hb h1, kept hb h2, kept hb h3, kept hb h4, kept hb h5, kept hb h6, kept hb h7, kept hb h8, kept hb h9⟩)
  obtain ⟨fA0, fA1, fA2, fA3⟩ := pA.facts
  obtain ⟨fB0, fB1, fB2, fB3⟩ := pB.facts
  obtain ⟨fC0, fC1, fC2, fC3⟩ := pC.facts
  obtain ⟨fD0, fD1, fD2, fD3⟩ := pD.facts
  obtain ⟨fE0, fE1, fE2, fE3⟩ := pE.facts
  go_region_held3 (fun w' => w'.cell? ⟨w.heap.size, 0, none⟩ = some (.int .i64 n) ∧ w'.cell? ⟨w.heap.size, 1, none⟩ = some (.int .i64 d) ∧ w'.cell? ⟨w1.heap.size, 0, none⟩ = some (.int .i64 X) ∧ w'.cell? ⟨w1.heap.size, 1, none⟩ = some (.int .i64 Y) ∧ w'.cell? ⟨w2.heap.size, 0, none⟩ = some (.int .i64 X) ∧ w'.cell? ⟨w2.heap.size, 1, none⟩ = some (.int .i64 Y) ∧ w'.cell? ⟨w3.heap.size, 0, none⟩ = some (.int .i64 X1) ∧ w'.cell? ⟨w3.heap.size, 1, none⟩ = some (.int .i64 Y1) ∧ w'.cell? ⟨w4.heap.size, 0, none⟩ = some (.int .i64 X1) ∧ w'.cell? ⟨w4.heap.size, 1, none⟩ = some (.int .i64 Y1)) (first | go_keep | exact HS.out _ _ hb (by assumption) | exact HS.out _ _ hb2 (by assumption))
    (first | (go_at_call 13; refine (C5.out _).mono ?_; rintro e w5 ⟨rfl, hb⟩) | (go_at_call 14; refine (C6.out _).mono ?_; rintro e w6 ⟨rfl, hb2⟩))
  clear fA0 fA1 fA2 fA3
  clear fB0 fB1 fB2 fB3
  clear fC0 fC1 fC2 fC3
  clear fD0 fD1 fD2 fD3
  clear fE0 fE1 fE2 fE3
  have hx6 : Below wx.heap.size wx w6 := ((Below.refl wx.heap.size wx).drew.trans hb).trans (hb2.mono hb.size)
  replace pA := pA.kept hx6
  replace pB := pB.kept hx6
  replace hB := below_on hB hx6
  have z6 := hx6.size
  have lA := pA.lt
  have lB := pB.lt
  clear HS hb hb2 hx6 pC pD pE g1 g2 g3 g4 z1 z2 z3 z4 z6
  obtain ⟨fA0, fA1, fA2, fA3⟩ := pA.facts
  obtain ⟨fB0, fB1, fB2, fB3⟩ := pB.facts
  go_wp2_with fail
  clear fA0 fA1 fA2 fA3 fB0 fB1 fB2 fB3 pA pB lA lB
  go_loopw [15] (fun i wr => ∃ k : Nat, k ≤ 2 ∧ i = .int .i64 k ∧ Hid (Quad wr w6.heap.size n d X Y) ∧ Hid (Below w.heap.size w wr)) (fun i _ => 2 - (intOf i).toNat)
  case atStart => exact ⟨0, by omega, rfl, Lib.hid (Quad.made _ _ _ _ _ _), Lib.hid (hB.alloc hB.size _)⟩
  case round =>
    obtain ⟨k, hk, rfl, hq, hbw⟩ := hrel
    by_cases k0 : k = 0
    · subst k0
      have v1 := fun W => floorS n d W hn hd
      have v2 := fun W => refFloorS n d W hn hd
      have v3 := fun W => ceilS n d W hn hd
      have v4 := fun W => refCeilS n d W hn hd
      have v5 := fun W => negS n d W hn hd
      have v6 := fun W => refNegS n d W hn hd
      generalize selI (vldB n d) (n / d) = F at v1 v2
      generalize selI (vldB n d) (-(-n / d)) = G at v3 v4
      generalize selI (vldB n d) (-n) = P at v5 v6
      generalize selI (vldB n d) d = Q at v5 v6
      generalize okErr (vldB n d) = O at v1 v2 v3 v4 v5 v6
      have V1 := Lib.hid v1
      have V2 := Lib.hid v2
      have V3 := Lib.hid v3
      have V4 := Lib.hid v4
      have V5 := Lib.hid v5
      have V6 := Lib.hid v6
      clear v1 v2 v3 v4 v5 v6
      have hqq := hq.out
      have hbb := hbw.out
      obtain ⟨q0, q1, q2, q3⟩ := hqq.facts
      go_wp2_with fail
      refine (V1.out _).mono ?_
      rintro e u1 ⟨rfl, hc1⟩
      clear q0 q1 q2 q3
      replace hqq := hqq.kept hc1
      replace hbb := below_on hbb hc1
      clear hc1
      obtain ⟨q0, q1, q2, q3⟩ := hqq.facts
      go_wp2_with fail
      refine (V2.out _).mono ?_
      rintro e u2 ⟨rfl, hc2⟩
      clear q0 q1 q2 q3
      replace hqq := hqq.kept hc2
      replace hbb := below_on hbb hc2
      clear hc2
      obtain ⟨q0, q1, q2, q3⟩ := hqq.facts
      go_wp2_with fail
      refine (V3.out _).mono ?_
      rintro e u3 ⟨rfl, hc3⟩
      clear q0 q1 q2 q3
      replace hqq := hqq.kept hc3
      replace hbb := below_on hbb hc3
      clear hc3
      obtain ⟨q0, q1, q2, q3⟩ := hqq.facts
      go_wp2_with fail
      refine (V4.out _).mono ?_
      rintro e u4 ⟨rfl, hc4⟩
      clear q0 q1 q2 q3
      replace hqq := hqq.kept hc4
      replace hbb := below_on hbb hc4
      clear hc4
      obtain ⟨q0, q1, q2, q3⟩ := hqq.facts
      go_wp2_with fail
      refine (V5.out _).mono ?_
      rintro e u5 ⟨rfl, hc5⟩
      clear q0 q1 q2 q3
      replace hqq := hqq.kept hc5
      replace hbb := below_on hbb hc5
      clear hc5
      obtain ⟨q0, q1, q2, q3⟩ := hqq.facts
      have lt5 := hqq.lt
      go_wp2_with fail
      refine (V6.out _).mono ?_
      rintro e u6 ⟨rfl, hc6⟩
      clear q0 q1 q2 q3
      have pN := (Pair.made u5 _ _ 23).kept hc6
      replace hqq := (hqq.kept (one_more _)).kept hc6
      have lN := pN.lt
      replace hbb := on_box hbb hc6
      clear hc6
      obtain ⟨n0, n1, n2, n3⟩ := pN.facts
      go_wp2_with fail
      go_roundw
      case rel => exact ⟨1, by omega, by go_num, Lib.hid (hqq.kept (one_more _)), Lib.hid (hbb.alloc hbb.size _)⟩
      case measure => simp [intOf]
    by_cases k1 : k = 1
    · subst k1
      have v1 := fun W => floorS X Y W hX hY
      have v2 := fun W => refFloorS X Y W hX hY
      have v3 := fun W => ceilS X Y W hX hY
      have v4 := fun W => refCeilS X Y W hX hY
      have v5 := fun W => negS X Y W hX hY
      have v6 := fun W => refNegS X Y W hX hY
      generalize selI (vldB X Y) (X / Y) = F at v1 v2
      generalize selI (vldB X Y) (-(-X / Y)) = G at v3 v4
      generalize selI (vldB X Y) (-X) = P at v5 v6
      generalize selI (vldB X Y) Y = Q at v5 v6
      generalize okErr (vldB X Y) = O at v1 v2 v3 v4 v5 v6
      have V1 := Lib.hid v1
      have V2 := Lib.hid v2
      have V3 := Lib.hid v3
      have V4 := Lib.hid v4
      have V5 := Lib.hid v5
      have V6 := Lib.hid v6
      clear v1 v2 v3 v4 v5 v6
      have hqq := hq.out
      have hbb := hbw.out
      obtain ⟨q0, q1, q2, q3⟩ := hqq.facts
      go_wp2_with fail
      refine (V1.out _).mono ?_
      rintro e u1 ⟨rfl, hc1⟩
      clear q0 q1 q2 q3
      replace hqq := hqq.kept hc1
      replace hbb := below_on hbb hc1
      clear hc1
      obtain ⟨q0, q1, q2, q3⟩ := hqq.facts
      go_wp2_with fail
      refine (V2.out _).mono ?_
      rintro e u2 ⟨rfl, hc2⟩
      clear q0 q1 q2 q3
      replace hqq := hqq.kept hc2
      replace hbb := below_on hbb hc2
      clear hc2
      obtain ⟨q0, q1, q2, q3⟩ := hqq.facts
      go_wp2_with fail
      refine (V3.out _).mono ?_
      rintro e u3 ⟨rfl, hc3⟩
      clear q0 q1 q2 q3
      replace hqq := hqq.kept hc3
      replace hbb := below_on hbb hc3
      clear hc3
      obtain ⟨q0, q1, q2, q3⟩ := hqq.facts
      go_wp2_with fail
      refine (V4.out _).mono ?_
      rintro e u4 ⟨rfl, hc4⟩
      clear q0 q1 q2 q3
      replace hqq := hqq.kept hc4
      replace hbb := below_on hbb hc4
      clear hc4
      obtain ⟨q0, q1, q2, q3⟩ := hqq.facts
      go_wp2_with fail
      refine (V5.out _).mono ?_
      rintro e u5 ⟨rfl, hc5⟩
      clear q0 q1 q2 q3
      replace hqq := hqq.kept hc5
      replace hbb := below_on hbb hc5
      clear hc5
      obtain ⟨q0, q1, q2, q3⟩ := hqq.facts
      have lt5 := hqq.lt
      go_wp2_with fail
      refine (V6.out _).mono ?_
      rintro e u6 ⟨rfl, hc6⟩
      clear q0 q1 q2 q3
      have pN := (Pair.made u5 _ _ 23).kept hc6
      replace hqq := (hqq.kept (one_more _)).kept hc6
      have lN := pN.lt
      replace hbb := on_box hbb hc6
      clear hc6
      obtain ⟨n0, n1, n2, n3⟩ := pN.facts
      go_wp2_with fail
      go_roundw
      case rel => exact ⟨2, by omega, by go_num, Lib.hid (hqq.kept (one_more _)), Lib.hid (hbb.alloc hbb.size _)⟩
      case measure => simp [intOf]
    · obtain rfl : k = 2 := by omega
      have hbb := hbw.out
      go_wp2_with fail
      refine (shown_any _ (HF.out.on hbb)).mono ?_
      rintro e wz ⟨rfl, hbz⟩
      go_wp2_with fail
      go_ret
      exact ⟨rfl, below_on hbb hbz⟩

set_option maxRecDepth 100000 in
theorem lifted (os : Os) (started : os.Started) (H : Type) (enc : TypeId × Value → H) :
    ReturnsInHanded {} Tryd.checked os 3 .any (fun w args => (Rows.ratioMakesSpec.pre enc Tryd.prog Tryd.f3 [] false w args ∧ laidMetH Tryd.prog laid3 w) ∧ sizedMet enc Tryd.prog Tryd.f3 (OpenSpec.ofChange Rows.ratioMakesSpec) false w args)
      (Rows.ratioMakesSpec.post enc Tryd.prog Tryd.f3 false true false false) := by
  refine returns_laid_shaped (C := Tryd.checked) (X := fun w _ => laidMetH Tryd.prog laid3 w) (fun _ _ _ hh h => h.of_heap hh) own started (by kernel_rfl) Tryd.func3
    (ChangeSpec.witness_shaped (enc := enc) (C := Tryd.checked) (os := os) (X := fun w _ => laidMetH Tryd.prog laid3 w) false (World.doorLaid Tryd.prog 400 os) #[.int .i64 0, .int .i64 0] 8 rfl (World.shaped_of_RefB (by kernel_rfl) (by kernel_rfl)) (by kernel_rfl) (by kernel_rfl) (by kernel_rfl) (door_met os _)) ?_
  intro W base args ds gs before hval0 hW _ _ hL hsh
  have hF := fit_of hL hsh
  have hval : ∀ (j : Nat) t v, Tryd.f3.params[j]? = some t → args[j]? = some v → Value.okWide Tryd.prog W .any base t v := hval0
  have hW' := hW
  obtain ⟨p, q, hA0, hV, rfl, hfz, hnd⟩ := hW
  have hA : DataW.TrodAll enc Tryd.prog W 0 (fun _ => true) true Tryd.f3.params.toList args.toList ds p := hA0
  rw [Tryd.params3] at hA hval
  obtain ⟨v0, v1, d0, d1, p0, p1, rfl, rfl, rfl, h0, h1⟩ := trodAll_two hA
  obtain ⟨rfl, rfl⟩ := trodVars_none hV
  obtain ⟨a0, rfl, rfl, rfl, wa0⟩ := open_int Tryd.underlying2 (hval 0 2 v0 rfl rfl) h0
  obtain ⟨a1, rfl, rfl, rfl, wa1⟩ := open_int Tryd.underlying2 (hval 1 2 v1 rfl rfl) h1
  clear hA0 hval0
  simp only [List.append_nil] at hW'
  refine (walk a0 a1 W hF (bounds_i64 wa0) (bounds_i64 wa1)).mono fun e W' ⟨he, hb⟩ => ?_
  subst he
  exact ⟨_, rfl, post_made hW' hb (fun _ _ _ => trodAll_mk1 (shut_bool Tryd.underlying4 _)) (fun sp => trodAll_mk2 (shut_int Tryd.underlying2 wa0) (shut_int Tryd.underlying2 wa1)) (fun _ => rfl) (ok_one (by kernel_rfl) rfl (okWide_bool_mk Tryd.underlying4 _))⟩

theorem said : Rows.RatioMakesSaid :=
  OpenClaim.holds_of_wide 3 Tryd.f3 rfl rfl rfl rfl rfl rfl rfl ⟨rfl, rfl, rfl, rfl, rfl⟩ rfl rfl rfl rfl rfl (by kernel_rfl) Tryd.func3 (by kernel_rfl)
    (of_decide_eq_true (by kernel_rfl)) (by unfold Func.isWrapper; first | (rw [if_pos (by decide +kernel)]; kernel_rfl) | (rw [if_neg (by decide +kernel)]; exact ⟨rfl, rfl⟩))
    (fun os started H enc _ => lifted os started H enc)

theorem proved : Rows.RatioMakesCardSaid :=
  Claim7.holds_tied_plain_at .later [] [.data, .data, .data] true (true, "37b220b99fbac8cdeffc3cfbaf41194bd7baedb872a775bac3f445b2fae09ae0") false
    said (fun _ h => by cases h) (by kernel_rfl) (fun _ h => by cases h) ratioMakes_row_tie rfl ⟨rfl, rfl⟩ (by kernel_rfl) rfl
    (fun f fn hf hfn => by
      obtain rfl : f = 3 := Option.some.inj ((show Tryd.prog.funcNamed "foliot/foliotlaw01.RatioMakes" = some 3 by kernel_rfl).symm.trans hf) |>.symm
      obtain rfl : fn = Tryd.f3 := (Option.some.inj (Tryd.func3.symm.trans hfn)).symm
      exact ⟨by kernel_rfl, fun j t ht => by
        rw [Tryd.params3] at ht
        have hm : t ∈ [2] := by have := Array.mem_of_getElem? ht; simp at this ⊢; omega
        have hall : ([2].all fun u => !Tryd.prog.wantsStandIn u) = true := by kernel_rfl
        exact (show Tryd.prog.wantsStandIn t = false by simpa using List.all_eq_true.1 hall t hm)⟩)
    (by kernel_rfl)
#print axioms proved
end Go.Proofs.YtnbkphklidjmhaaDoor.Makes
