/- LimitLaws: for every three integers that are valid limits, Add is commutative, associative where it is in range, and grows with the limits, and Not of Not is the limit; for others nothing is asked; the statement's function returns true; the arguments read as before. Conditions: none beyond the row's own (the three listed tables of the library hold what the program's text lays). -/
import Derived.Test.YtbcafamgmdngpaaDoorK
import Derived.Test.YtbcafamgmdngpaaDoorLi4
import Derived.Test.YtbcafamgmdngpaaDoorLiMath2
namespace Go.Proofs.YtbcafamgmdngpaaDoor.LiLaws
open Go.Proofs.YtbcafamgmdngpaaDoor
open Go.ChangeShapes Go.WideShapes Go.ChangeAt Go.RowKit Go.Joins

set_option maxRecDepth 100000 in
set_option maxHeartbeats 800000 in
theorem walk_bad (x y z : Int) (w : World) (hF : Fit w) (hx : I64 x) (hy : I64 y) (hz : I64 z) (h : lvB x = false ∨ lvB y = false ∨ lvB z = false) : Calls Tryd.prog 6 #[.int .i64 x, .int .i64 y, .int .i64 z] w (Made (.bool true) w) := by
  have p0 := fun W => limValid_any x W hx
  have p1 := fun W => limValid_any y W hy
  have p2 := fun W => limValid_any z W hz
  generalize lvB x = bx at *
  generalize lvB y = by' at *
  generalize lvB z = bz at *
  have P0 := Lib.hid p0
  have P1 := Lib.hid p1
  have P2 := Lib.hid p2
  have HF := Lib.hid hF
  clear p0 p1 p2 hF
  cases bx
  · clear h
    go_enter Tryd.func6, Tryd.ntmps6
    go_wp2_with fail
    refine (P0.out _).mono ?_
    rintro e w' ⟨rfl, rfl⟩
    go_wp2_with fail
    refine (shown_any _ HF.out).mono ?_
    rintro e w1 ⟨rfl, hB⟩
    go_wp2_with fail
    go_ret
    exact ⟨rfl, hB⟩
  cases by'
  · clear h
    go_enter Tryd.func6, Tryd.ntmps6
    go_wp2_with fail
    refine (P0.out _).mono ?_
    rintro e w' ⟨rfl, rfl⟩
    go_wp2_with fail
    refine (P1.out _).mono ?_
    rintro e w' ⟨rfl, rfl⟩
    go_wp2_with fail
    refine (shown_any _ HF.out).mono ?_
    rintro e w1 ⟨rfl, hB⟩
    go_wp2_with fail
    go_ret
    exact ⟨rfl, hB⟩
  cases bz
  · clear h
    go_enter Tryd.func6, Tryd.ntmps6
    go_wp2_with fail
    refine (P0.out _).mono ?_
    rintro e w' ⟨rfl, rfl⟩
    go_wp2_with fail
    refine (P1.out _).mono ?_
    rintro e w' ⟨rfl, rfl⟩
    go_wp2_with fail
    refine (P2.out _).mono ?_
    rintro e w' ⟨rfl, rfl⟩
    go_wp2_with fail
    refine (shown_any _ HF.out).mono ?_
    rintro e w1 ⟨rfl, hB⟩
    go_wp2_with fail
    go_ret
    exact ⟨rfl, hB⟩
  · simp at h

set_option maxRecDepth 100000 in
set_option maxHeartbeats 800000 in
theorem arm_n00 {x y z A C D E G H : Int} (w : World) (HF : Hid (Fit w)) (x0 : (x == 1099511627776) = true) (e0 : (E == 0) = false)
    (V0 : Hid (∀ W, Calls Tryd.prog 16 #[.int .i64 x] W (Still (.bool true) W))) (V1 : Hid (∀ W, Calls Tryd.prog 16 #[.int .i64 y] W (Still (.bool true) W))) (V2 : Hid (∀ W, Calls Tryd.prog 16 #[.int .i64 z] W (Still (.bool true) W)))
    (P0 : Hid (∀ W, Calls Tryd.prog 19 #[.int .i64 x, .int .i64 y] W (Still (.tuple #[.int .i64 A, .int .i64 E]) W))) (P1 : Hid (∀ W, Calls Tryd.prog 19 #[.int .i64 y, .int .i64 x] W (Still (.tuple #[.int .i64 A, .int .i64 E]) W)))
    (P2 : Hid (∀ W, Calls Tryd.prog 19 #[.int .i64 y, .int .i64 z] W (Still (.tuple #[.int .i64 C, .int .i64 G]) W)))
    (P5 : Hid (∀ W, Calls Tryd.prog 19 #[.int .i64 x, .int .i64 z] W (Still (.tuple #[.int .i64 D, .int .i64 H]) W))) : Calls Tryd.prog 6 #[.int .i64 x, .int .i64 y, .int .i64 z] w (Made (.bool true) w) := by
  go_enter Tryd.func6, Tryd.ntmps6
  go_wp2_with fail
  refine (V0.out _).mono ?_
  rintro e w' ⟨rfl, rfl⟩
  go_wp2_with fail
  refine (V1.out _).mono ?_
  rintro e w' ⟨rfl, rfl⟩
  go_wp2_with fail
  refine (V2.out _).mono ?_
  rintro e w' ⟨rfl, rfl⟩
  go_wp2_with fail
  refine (P0.out _).mono ?_
  rintro e w' ⟨rfl, rfl⟩
  go_wp2_with fail
  refine (P1.out _).mono ?_
  rintro e w' ⟨rfl, rfl⟩
  go_wp2_with fail
  refine (P2.out _).mono ?_
  rintro e w' ⟨rfl, rfl⟩
  go_wp2_with fail
  refine (P5.out _).mono ?_
  rintro e w' ⟨rfl, rfl⟩
  go_wp2_with fail
  refine (shown_any _ HF.out).mono ?_
  rintro e w1 ⟨rfl, hB⟩
  go_wp2_with fail
  go_ret
  exact ⟨rfl, hB⟩

set_option maxRecDepth 100000 in
set_option maxHeartbeats 800000 in
theorem arm_n10no {x y z A C D G H : Int} (w : World) (HF : Hid (Fit w)) (x0 : (x == 1099511627776) = true) (g0 : (G == 0) = false) (h0 : (H == 0) = false)
    (V0 : Hid (∀ W, Calls Tryd.prog 16 #[.int .i64 x] W (Still (.bool true) W))) (V1 : Hid (∀ W, Calls Tryd.prog 16 #[.int .i64 y] W (Still (.bool true) W))) (V2 : Hid (∀ W, Calls Tryd.prog 16 #[.int .i64 z] W (Still (.bool true) W)))
    (P0 : Hid (∀ W, Calls Tryd.prog 19 #[.int .i64 x, .int .i64 y] W (Still (.tuple #[.int .i64 A, .int .i64 0]) W))) (P1 : Hid (∀ W, Calls Tryd.prog 19 #[.int .i64 y, .int .i64 x] W (Still (.tuple #[.int .i64 A, .int .i64 0]) W)))
    (P2 : Hid (∀ W, Calls Tryd.prog 19 #[.int .i64 y, .int .i64 z] W (Still (.tuple #[.int .i64 C, .int .i64 G]) W)))
    (P5 : Hid (∀ W, Calls Tryd.prog 19 #[.int .i64 x, .int .i64 z] W (Still (.tuple #[.int .i64 D, .int .i64 H]) W))) : Calls Tryd.prog 6 #[.int .i64 x, .int .i64 y, .int .i64 z] w (Made (.bool true) w) := by
  go_enter Tryd.func6, Tryd.ntmps6
  go_wp2_with fail
  refine (V0.out _).mono ?_
  rintro e w' ⟨rfl, rfl⟩
  go_wp2_with fail
  refine (V1.out _).mono ?_
  rintro e w' ⟨rfl, rfl⟩
  go_wp2_with fail
  refine (V2.out _).mono ?_
  rintro e w' ⟨rfl, rfl⟩
  go_wp2_with fail
  refine (P0.out _).mono ?_
  rintro e w' ⟨rfl, rfl⟩
  go_wp2_with fail
  refine (P1.out _).mono ?_
  rintro e w' ⟨rfl, rfl⟩
  go_wp2_with fail
  refine (P2.out _).mono ?_
  rintro e w' ⟨rfl, rfl⟩
  go_wp2_with fail
  refine (P5.out _).mono ?_
  rintro e w' ⟨rfl, rfl⟩
  go_wp2_with fail
  refine (shown_any _ HF.out).mono ?_
  rintro e w1 ⟨rfl, hB⟩
  go_wp2_with fail
  go_ret
  exact ⟨rfl, hB⟩

set_option maxRecDepth 100000 in
set_option maxHeartbeats 800000 in
theorem arm_n10le {x y z A C D G : Int} (w : World) (HF : Hid (Fit w)) (x0 : (x == 1099511627776) = true) (g0 : (G == 0) = false) (yz : y ≤ z) (ad : A ≤ D)
    (V0 : Hid (∀ W, Calls Tryd.prog 16 #[.int .i64 x] W (Still (.bool true) W))) (V1 : Hid (∀ W, Calls Tryd.prog 16 #[.int .i64 y] W (Still (.bool true) W))) (V2 : Hid (∀ W, Calls Tryd.prog 16 #[.int .i64 z] W (Still (.bool true) W)))
    (P0 : Hid (∀ W, Calls Tryd.prog 19 #[.int .i64 x, .int .i64 y] W (Still (.tuple #[.int .i64 A, .int .i64 0]) W))) (P1 : Hid (∀ W, Calls Tryd.prog 19 #[.int .i64 y, .int .i64 x] W (Still (.tuple #[.int .i64 A, .int .i64 0]) W)))
    (P2 : Hid (∀ W, Calls Tryd.prog 19 #[.int .i64 y, .int .i64 z] W (Still (.tuple #[.int .i64 C, .int .i64 G]) W)))
    (P5 : Hid (∀ W, Calls Tryd.prog 19 #[.int .i64 x, .int .i64 z] W (Still (.tuple #[.int .i64 D, .int .i64 0]) W))) : Calls Tryd.prog 6 #[.int .i64 x, .int .i64 y, .int .i64 z] w (Made (.bool true) w) := by
  go_enter Tryd.func6, Tryd.ntmps6
  go_wp2_with fail
  refine (V0.out _).mono ?_
  rintro e w' ⟨rfl, rfl⟩
  go_wp2_with fail
  refine (V1.out _).mono ?_
  rintro e w' ⟨rfl, rfl⟩
  go_wp2_with fail
  refine (V2.out _).mono ?_
  rintro e w' ⟨rfl, rfl⟩
  go_wp2_with fail
  refine (P0.out _).mono ?_
  rintro e w' ⟨rfl, rfl⟩
  go_wp2_with fail
  refine (P1.out _).mono ?_
  rintro e w' ⟨rfl, rfl⟩
  go_wp2_with fail
  refine (P2.out _).mono ?_
  rintro e w' ⟨rfl, rfl⟩
  go_wp2_with fail
  refine (P5.out _).mono ?_
  rintro e w' ⟨rfl, rfl⟩
  go_wp2_with fail
  refine (shown_any _ HF.out).mono ?_
  rintro e w1 ⟨rfl, hB⟩
  go_wp2_with fail
  go_ret
  exact ⟨rfl, hB⟩

set_option maxRecDepth 100000 in
set_option maxHeartbeats 800000 in
theorem arm_n10gt {x y z A C D G : Int} (w : World) (HF : Hid (Fit w)) (x0 : (x == 1099511627776) = true) (g0 : (G == 0) = false) (yz : z < y)
    (V0 : Hid (∀ W, Calls Tryd.prog 16 #[.int .i64 x] W (Still (.bool true) W))) (V1 : Hid (∀ W, Calls Tryd.prog 16 #[.int .i64 y] W (Still (.bool true) W))) (V2 : Hid (∀ W, Calls Tryd.prog 16 #[.int .i64 z] W (Still (.bool true) W)))
    (P0 : Hid (∀ W, Calls Tryd.prog 19 #[.int .i64 x, .int .i64 y] W (Still (.tuple #[.int .i64 A, .int .i64 0]) W))) (P1 : Hid (∀ W, Calls Tryd.prog 19 #[.int .i64 y, .int .i64 x] W (Still (.tuple #[.int .i64 A, .int .i64 0]) W)))
    (P2 : Hid (∀ W, Calls Tryd.prog 19 #[.int .i64 y, .int .i64 z] W (Still (.tuple #[.int .i64 C, .int .i64 G]) W)))
    (P5 : Hid (∀ W, Calls Tryd.prog 19 #[.int .i64 x, .int .i64 z] W (Still (.tuple #[.int .i64 D, .int .i64 0]) W))) : Calls Tryd.prog 6 #[.int .i64 x, .int .i64 y, .int .i64 z] w (Made (.bool true) w) := by
  go_enter Tryd.func6, Tryd.ntmps6
  go_wp2_with fail
  refine (V0.out _).mono ?_
  rintro e w' ⟨rfl, rfl⟩
  go_wp2_with fail
  refine (V1.out _).mono ?_
  rintro e w' ⟨rfl, rfl⟩
  go_wp2_with fail
  refine (V2.out _).mono ?_
  rintro e w' ⟨rfl, rfl⟩
  go_wp2_with fail
  refine (P0.out _).mono ?_
  rintro e w' ⟨rfl, rfl⟩
  go_wp2_with fail
  refine (P1.out _).mono ?_
  rintro e w' ⟨rfl, rfl⟩
  go_wp2_with fail
  refine (P2.out _).mono ?_
  rintro e w' ⟨rfl, rfl⟩
  go_wp2_with fail
  refine (P5.out _).mono ?_
  rintro e w' ⟨rfl, rfl⟩
  go_wp2_with fail
  refine (shown_any _ HF.out).mono ?_
  rintro e w1 ⟨rfl, hB⟩
  go_wp2_with fail
  go_ret
  exact ⟨rfl, hB⟩

set_option maxRecDepth 100000 in
set_option maxHeartbeats 800000 in
theorem arm_n11no {x y z A C D L M H : Int} (w : World) (HF : Hid (Fit w)) (x0 : (x == 1099511627776) = true) (h0 : (H == 0) = false)
    (V0 : Hid (∀ W, Calls Tryd.prog 16 #[.int .i64 x] W (Still (.bool true) W))) (V1 : Hid (∀ W, Calls Tryd.prog 16 #[.int .i64 y] W (Still (.bool true) W))) (V2 : Hid (∀ W, Calls Tryd.prog 16 #[.int .i64 z] W (Still (.bool true) W)))
    (P0 : Hid (∀ W, Calls Tryd.prog 19 #[.int .i64 x, .int .i64 y] W (Still (.tuple #[.int .i64 A, .int .i64 0]) W))) (P1 : Hid (∀ W, Calls Tryd.prog 19 #[.int .i64 y, .int .i64 x] W (Still (.tuple #[.int .i64 A, .int .i64 0]) W)))
    (P2 : Hid (∀ W, Calls Tryd.prog 19 #[.int .i64 y, .int .i64 z] W (Still (.tuple #[.int .i64 C, .int .i64 0]) W)))
    (P5 : Hid (∀ W, Calls Tryd.prog 19 #[.int .i64 x, .int .i64 z] W (Still (.tuple #[.int .i64 D, .int .i64 H]) W)))
    (P3 : Hid (∀ W, Calls Tryd.prog 19 #[.int .i64 A, .int .i64 z] W (Still (.tuple #[.int .i64 L, .int .i64 M]) W))) (P4 : Hid (∀ W, Calls Tryd.prog 19 #[.int .i64 x, .int .i64 C] W (Still (.tuple #[.int .i64 L, .int .i64 M]) W))) : Calls Tryd.prog 6 #[.int .i64 x, .int .i64 y, .int .i64 z] w (Made (.bool true) w) := by
  go_enter Tryd.func6, Tryd.ntmps6
  go_wp2_with fail
  refine (V0.out _).mono ?_
  rintro e w' ⟨rfl, rfl⟩
  go_wp2_with fail
  refine (V1.out _).mono ?_
  rintro e w' ⟨rfl, rfl⟩
  go_wp2_with fail
  refine (V2.out _).mono ?_
  rintro e w' ⟨rfl, rfl⟩
  go_wp2_with fail
  refine (P0.out _).mono ?_
  rintro e w' ⟨rfl, rfl⟩
  go_wp2_with fail
  refine (P1.out _).mono ?_
  rintro e w' ⟨rfl, rfl⟩
  go_wp2_with fail
  refine (P2.out _).mono ?_
  rintro e w' ⟨rfl, rfl⟩
  go_wp2_with fail
  refine (P3.out _).mono ?_
  rintro e w' ⟨rfl, rfl⟩
  go_wp2_with fail
  refine (P4.out _).mono ?_
  rintro e w' ⟨rfl, rfl⟩
  go_wp2_with fail
  refine (P5.out _).mono ?_
  rintro e w' ⟨rfl, rfl⟩
  go_wp2_with fail
  refine (shown_any _ HF.out).mono ?_
  rintro e w1 ⟨rfl, hB⟩
  go_wp2_with fail
  go_ret
  exact ⟨rfl, hB⟩

set_option maxRecDepth 100000 in
set_option maxHeartbeats 800000 in
theorem arm_n11le {x y z A C D L M : Int} (w : World) (HF : Hid (Fit w)) (x0 : (x == 1099511627776) = true) (yz : y ≤ z) (ad : A ≤ D)
    (V0 : Hid (∀ W, Calls Tryd.prog 16 #[.int .i64 x] W (Still (.bool true) W))) (V1 : Hid (∀ W, Calls Tryd.prog 16 #[.int .i64 y] W (Still (.bool true) W))) (V2 : Hid (∀ W, Calls Tryd.prog 16 #[.int .i64 z] W (Still (.bool true) W)))
    (P0 : Hid (∀ W, Calls Tryd.prog 19 #[.int .i64 x, .int .i64 y] W (Still (.tuple #[.int .i64 A, .int .i64 0]) W))) (P1 : Hid (∀ W, Calls Tryd.prog 19 #[.int .i64 y, .int .i64 x] W (Still (.tuple #[.int .i64 A, .int .i64 0]) W)))
    (P2 : Hid (∀ W, Calls Tryd.prog 19 #[.int .i64 y, .int .i64 z] W (Still (.tuple #[.int .i64 C, .int .i64 0]) W)))
    (P5 : Hid (∀ W, Calls Tryd.prog 19 #[.int .i64 x, .int .i64 z] W (Still (.tuple #[.int .i64 D, .int .i64 0]) W)))
    (P3 : Hid (∀ W, Calls Tryd.prog 19 #[.int .i64 A, .int .i64 z] W (Still (.tuple #[.int .i64 L, .int .i64 M]) W))) (P4 : Hid (∀ W, Calls Tryd.prog 19 #[.int .i64 x, .int .i64 C] W (Still (.tuple #[.int .i64 L, .int .i64 M]) W))) : Calls Tryd.prog 6 #[.int .i64 x, .int .i64 y, .int .i64 z] w (Made (.bool true) w) := by
  go_enter Tryd.func6, Tryd.ntmps6
  go_wp2_with fail
  refine (V0.out _).mono ?_
  rintro e w' ⟨rfl, rfl⟩
  go_wp2_with fail
  refine (V1.out _).mono ?_
  rintro e w' ⟨rfl, rfl⟩
  go_wp2_with fail
  refine (V2.out _).mono ?_
  rintro e w' ⟨rfl, rfl⟩
  go_wp2_with fail
  refine (P0.out _).mono ?_
  rintro e w' ⟨rfl, rfl⟩
  go_wp2_with fail
  refine (P1.out _).mono ?_
  rintro e w' ⟨rfl, rfl⟩
  go_wp2_with fail
  refine (P2.out _).mono ?_
  rintro e w' ⟨rfl, rfl⟩
  go_wp2_with fail
  refine (P3.out _).mono ?_
  rintro e w' ⟨rfl, rfl⟩
  go_wp2_with fail
  refine (P4.out _).mono ?_
  rintro e w' ⟨rfl, rfl⟩
  go_wp2_with fail
  refine (P5.out _).mono ?_
  rintro e w' ⟨rfl, rfl⟩
  go_wp2_with fail
  refine (shown_any _ HF.out).mono ?_
  rintro e w1 ⟨rfl, hB⟩
  go_wp2_with fail
  go_ret
  exact ⟨rfl, hB⟩

set_option maxRecDepth 100000 in
set_option maxHeartbeats 800000 in
theorem arm_n11gt {x y z A C D L M : Int} (w : World) (HF : Hid (Fit w)) (x0 : (x == 1099511627776) = true) (yz : z < y)
    (V0 : Hid (∀ W, Calls Tryd.prog 16 #[.int .i64 x] W (Still (.bool true) W))) (V1 : Hid (∀ W, Calls Tryd.prog 16 #[.int .i64 y] W (Still (.bool true) W))) (V2 : Hid (∀ W, Calls Tryd.prog 16 #[.int .i64 z] W (Still (.bool true) W)))
    (P0 : Hid (∀ W, Calls Tryd.prog 19 #[.int .i64 x, .int .i64 y] W (Still (.tuple #[.int .i64 A, .int .i64 0]) W))) (P1 : Hid (∀ W, Calls Tryd.prog 19 #[.int .i64 y, .int .i64 x] W (Still (.tuple #[.int .i64 A, .int .i64 0]) W)))
    (P2 : Hid (∀ W, Calls Tryd.prog 19 #[.int .i64 y, .int .i64 z] W (Still (.tuple #[.int .i64 C, .int .i64 0]) W)))
    (P5 : Hid (∀ W, Calls Tryd.prog 19 #[.int .i64 x, .int .i64 z] W (Still (.tuple #[.int .i64 D, .int .i64 0]) W)))
    (P3 : Hid (∀ W, Calls Tryd.prog 19 #[.int .i64 A, .int .i64 z] W (Still (.tuple #[.int .i64 L, .int .i64 M]) W))) (P4 : Hid (∀ W, Calls Tryd.prog 19 #[.int .i64 x, .int .i64 C] W (Still (.tuple #[.int .i64 L, .int .i64 M]) W))) : Calls Tryd.prog 6 #[.int .i64 x, .int .i64 y, .int .i64 z] w (Made (.bool true) w) := by
  go_enter Tryd.func6, Tryd.ntmps6
  go_wp2_with fail
  refine (V0.out _).mono ?_
  rintro e w' ⟨rfl, rfl⟩
  go_wp2_with fail
  refine (V1.out _).mono ?_
  rintro e w' ⟨rfl, rfl⟩
  go_wp2_with fail
  refine (V2.out _).mono ?_
  rintro e w' ⟨rfl, rfl⟩
  go_wp2_with fail
  refine (P0.out _).mono ?_
  rintro e w' ⟨rfl, rfl⟩
  go_wp2_with fail
  refine (P1.out _).mono ?_
  rintro e w' ⟨rfl, rfl⟩
  go_wp2_with fail
  refine (P2.out _).mono ?_
  rintro e w' ⟨rfl, rfl⟩
  go_wp2_with fail
  refine (P3.out _).mono ?_
  rintro e w' ⟨rfl, rfl⟩
  go_wp2_with fail
  refine (P4.out _).mono ?_
  rintro e w' ⟨rfl, rfl⟩
  go_wp2_with fail
  refine (P5.out _).mono ?_
  rintro e w' ⟨rfl, rfl⟩
  go_wp2_with fail
  refine (shown_any _ HF.out).mono ?_
  rintro e w1 ⟨rfl, hB⟩
  go_wp2_with fail
  go_ret
  exact ⟨rfl, hB⟩

set_option maxRecDepth 100000 in
set_option maxHeartbeats 800000 in
theorem arm_s00 {x y z A C D E G H : Int} (w : World) (HF : Hid (Fit w)) (x0 : (x == 1099511627776) = false) (x1 : -2147483648 ≤ x) (x2 : x ≤ 2147483649) (e0 : (E == 0) = false)
    (V0 : Hid (∀ W, Calls Tryd.prog 16 #[.int .i64 x] W (Still (.bool true) W))) (V1 : Hid (∀ W, Calls Tryd.prog 16 #[.int .i64 y] W (Still (.bool true) W))) (V2 : Hid (∀ W, Calls Tryd.prog 16 #[.int .i64 z] W (Still (.bool true) W)))
    (P0 : Hid (∀ W, Calls Tryd.prog 19 #[.int .i64 x, .int .i64 y] W (Still (.tuple #[.int .i64 A, .int .i64 E]) W))) (P1 : Hid (∀ W, Calls Tryd.prog 19 #[.int .i64 y, .int .i64 x] W (Still (.tuple #[.int .i64 A, .int .i64 E]) W)))
    (P2 : Hid (∀ W, Calls Tryd.prog 19 #[.int .i64 y, .int .i64 z] W (Still (.tuple #[.int .i64 C, .int .i64 G]) W)))
    (P5 : Hid (∀ W, Calls Tryd.prog 19 #[.int .i64 x, .int .i64 z] W (Still (.tuple #[.int .i64 D, .int .i64 H]) W)))
    (P6 : Hid (∀ W, Calls Tryd.prog 21 #[.int .i64 x] W (Still (.tuple #[.int .i64 (1 - x), .int .i64 0]) W))) (P7 : Hid (∀ W, Calls Tryd.prog 21 #[.int .i64 (1 - x)] W (Still (.tuple #[.int .i64 x, .int .i64 0]) W))) : Calls Tryd.prog 6 #[.int .i64 x, .int .i64 y, .int .i64 z] w (Made (.bool true) w) := by
  go_enter Tryd.func6, Tryd.ntmps6
  go_wp2_with fail
  refine (V0.out _).mono ?_
  rintro e w' ⟨rfl, rfl⟩
  go_wp2_with fail
  refine (V1.out _).mono ?_
  rintro e w' ⟨rfl, rfl⟩
  go_wp2_with fail
  refine (V2.out _).mono ?_
  rintro e w' ⟨rfl, rfl⟩
  go_wp2_with fail
  refine (P0.out _).mono ?_
  rintro e w' ⟨rfl, rfl⟩
  go_wp2_with fail
  refine (P1.out _).mono ?_
  rintro e w' ⟨rfl, rfl⟩
  go_wp2_with fail
  refine (P2.out _).mono ?_
  rintro e w' ⟨rfl, rfl⟩
  go_wp2_with fail
  refine (P5.out _).mono ?_
  rintro e w' ⟨rfl, rfl⟩
  go_wp2_with fail
  refine (P6.out _).mono ?_
  rintro e w' ⟨rfl, rfl⟩
  go_wp2_with fail
  refine (P7.out _).mono ?_
  rintro e w' ⟨rfl, rfl⟩
  go_wp2_with fail
  refine (shown_any _ HF.out).mono ?_
  rintro e w1 ⟨rfl, hB⟩
  go_wp2_with fail
  go_ret
  exact ⟨rfl, hB⟩

set_option maxRecDepth 100000 in
set_option maxHeartbeats 800000 in
theorem arm_s10no {x y z A C D G H : Int} (w : World) (HF : Hid (Fit w)) (x0 : (x == 1099511627776) = false) (x1 : -2147483648 ≤ x) (x2 : x ≤ 2147483649) (g0 : (G == 0) = false) (h0 : (H == 0) = false)
    (V0 : Hid (∀ W, Calls Tryd.prog 16 #[.int .i64 x] W (Still (.bool true) W))) (V1 : Hid (∀ W, Calls Tryd.prog 16 #[.int .i64 y] W (Still (.bool true) W))) (V2 : Hid (∀ W, Calls Tryd.prog 16 #[.int .i64 z] W (Still (.bool true) W)))
    (P0 : Hid (∀ W, Calls Tryd.prog 19 #[.int .i64 x, .int .i64 y] W (Still (.tuple #[.int .i64 A, .int .i64 0]) W))) (P1 : Hid (∀ W, Calls Tryd.prog 19 #[.int .i64 y, .int .i64 x] W (Still (.tuple #[.int .i64 A, .int .i64 0]) W)))
    (P2 : Hid (∀ W, Calls Tryd.prog 19 #[.int .i64 y, .int .i64 z] W (Still (.tuple #[.int .i64 C, .int .i64 G]) W)))
    (P5 : Hid (∀ W, Calls Tryd.prog 19 #[.int .i64 x, .int .i64 z] W (Still (.tuple #[.int .i64 D, .int .i64 H]) W)))
    (P6 : Hid (∀ W, Calls Tryd.prog 21 #[.int .i64 x] W (Still (.tuple #[.int .i64 (1 - x), .int .i64 0]) W))) (P7 : Hid (∀ W, Calls Tryd.prog 21 #[.int .i64 (1 - x)] W (Still (.tuple #[.int .i64 x, .int .i64 0]) W))) : Calls Tryd.prog 6 #[.int .i64 x, .int .i64 y, .int .i64 z] w (Made (.bool true) w) := by
  go_enter Tryd.func6, Tryd.ntmps6
  go_wp2_with fail
  refine (V0.out _).mono ?_
  rintro e w' ⟨rfl, rfl⟩
  go_wp2_with fail
  refine (V1.out _).mono ?_
  rintro e w' ⟨rfl, rfl⟩
  go_wp2_with fail
  refine (V2.out _).mono ?_
  rintro e w' ⟨rfl, rfl⟩
  go_wp2_with fail
  refine (P0.out _).mono ?_
  rintro e w' ⟨rfl, rfl⟩
  go_wp2_with fail
  refine (P1.out _).mono ?_
  rintro e w' ⟨rfl, rfl⟩
  go_wp2_with fail
  refine (P2.out _).mono ?_
  rintro e w' ⟨rfl, rfl⟩
  go_wp2_with fail
  refine (P5.out _).mono ?_
  rintro e w' ⟨rfl, rfl⟩
  go_wp2_with fail
  refine (P6.out _).mono ?_
  rintro e w' ⟨rfl, rfl⟩
  go_wp2_with fail
  refine (P7.out _).mono ?_
  rintro e w' ⟨rfl, rfl⟩
  go_wp2_with fail
  refine (shown_any _ HF.out).mono ?_
  rintro e w1 ⟨rfl, hB⟩
  go_wp2_with fail
  go_ret
  exact ⟨rfl, hB⟩

set_option maxRecDepth 100000 in
set_option maxHeartbeats 800000 in
theorem arm_s10le {x y z A C D G : Int} (w : World) (HF : Hid (Fit w)) (x0 : (x == 1099511627776) = false) (x1 : -2147483648 ≤ x) (x2 : x ≤ 2147483649) (g0 : (G == 0) = false) (yz : y ≤ z) (ad : A ≤ D)
    (V0 : Hid (∀ W, Calls Tryd.prog 16 #[.int .i64 x] W (Still (.bool true) W))) (V1 : Hid (∀ W, Calls Tryd.prog 16 #[.int .i64 y] W (Still (.bool true) W))) (V2 : Hid (∀ W, Calls Tryd.prog 16 #[.int .i64 z] W (Still (.bool true) W)))
    (P0 : Hid (∀ W, Calls Tryd.prog 19 #[.int .i64 x, .int .i64 y] W (Still (.tuple #[.int .i64 A, .int .i64 0]) W))) (P1 : Hid (∀ W, Calls Tryd.prog 19 #[.int .i64 y, .int .i64 x] W (Still (.tuple #[.int .i64 A, .int .i64 0]) W)))
    (P2 : Hid (∀ W, Calls Tryd.prog 19 #[.int .i64 y, .int .i64 z] W (Still (.tuple #[.int .i64 C, .int .i64 G]) W)))
    (P5 : Hid (∀ W, Calls Tryd.prog 19 #[.int .i64 x, .int .i64 z] W (Still (.tuple #[.int .i64 D, .int .i64 0]) W)))
    (P6 : Hid (∀ W, Calls Tryd.prog 21 #[.int .i64 x] W (Still (.tuple #[.int .i64 (1 - x), .int .i64 0]) W))) (P7 : Hid (∀ W, Calls Tryd.prog 21 #[.int .i64 (1 - x)] W (Still (.tuple #[.int .i64 x, .int .i64 0]) W))) : Calls Tryd.prog 6 #[.int .i64 x, .int .i64 y, .int .i64 z] w (Made (.bool true) w) := by
  go_enter Tryd.func6, Tryd.ntmps6
  go_wp2_with fail
  refine (V0.out _).mono ?_
  rintro e w' ⟨rfl, rfl⟩
  go_wp2_with fail
  refine (V1.out _).mono ?_
  rintro e w' ⟨rfl, rfl⟩
  go_wp2_with fail
  refine (V2.out _).mono ?_
  rintro e w' ⟨rfl, rfl⟩
  go_wp2_with fail
  refine (P0.out _).mono ?_
  rintro e w' ⟨rfl, rfl⟩
  go_wp2_with fail
  refine (P1.out _).mono ?_
  rintro e w' ⟨rfl, rfl⟩
  go_wp2_with fail
  refine (P2.out _).mono ?_
  rintro e w' ⟨rfl, rfl⟩
  go_wp2_with fail
  refine (P5.out _).mono ?_
  rintro e w' ⟨rfl, rfl⟩
  go_wp2_with fail
  refine (P6.out _).mono ?_
  rintro e w' ⟨rfl, rfl⟩
  go_wp2_with fail
  refine (P7.out _).mono ?_
  rintro e w' ⟨rfl, rfl⟩
  go_wp2_with fail
  refine (shown_any _ HF.out).mono ?_
  rintro e w1 ⟨rfl, hB⟩
  go_wp2_with fail
  go_ret
  exact ⟨rfl, hB⟩

set_option maxRecDepth 100000 in
set_option maxHeartbeats 800000 in
theorem arm_s10gt {x y z A C D G : Int} (w : World) (HF : Hid (Fit w)) (x0 : (x == 1099511627776) = false) (x1 : -2147483648 ≤ x) (x2 : x ≤ 2147483649) (g0 : (G == 0) = false) (yz : z < y)
    (V0 : Hid (∀ W, Calls Tryd.prog 16 #[.int .i64 x] W (Still (.bool true) W))) (V1 : Hid (∀ W, Calls Tryd.prog 16 #[.int .i64 y] W (Still (.bool true) W))) (V2 : Hid (∀ W, Calls Tryd.prog 16 #[.int .i64 z] W (Still (.bool true) W)))
    (P0 : Hid (∀ W, Calls Tryd.prog 19 #[.int .i64 x, .int .i64 y] W (Still (.tuple #[.int .i64 A, .int .i64 0]) W))) (P1 : Hid (∀ W, Calls Tryd.prog 19 #[.int .i64 y, .int .i64 x] W (Still (.tuple #[.int .i64 A, .int .i64 0]) W)))
    (P2 : Hid (∀ W, Calls Tryd.prog 19 #[.int .i64 y, .int .i64 z] W (Still (.tuple #[.int .i64 C, .int .i64 G]) W)))
    (P5 : Hid (∀ W, Calls Tryd.prog 19 #[.int .i64 x, .int .i64 z] W (Still (.tuple #[.int .i64 D, .int .i64 0]) W)))
    (P6 : Hid (∀ W, Calls Tryd.prog 21 #[.int .i64 x] W (Still (.tuple #[.int .i64 (1 - x), .int .i64 0]) W))) (P7 : Hid (∀ W, Calls Tryd.prog 21 #[.int .i64 (1 - x)] W (Still (.tuple #[.int .i64 x, .int .i64 0]) W))) : Calls Tryd.prog 6 #[.int .i64 x, .int .i64 y, .int .i64 z] w (Made (.bool true) w) := by
  go_enter Tryd.func6, Tryd.ntmps6
  go_wp2_with fail
  refine (V0.out _).mono ?_
  rintro e w' ⟨rfl, rfl⟩
  go_wp2_with fail
  refine (V1.out _).mono ?_
  rintro e w' ⟨rfl, rfl⟩
  go_wp2_with fail
  refine (V2.out _).mono ?_
  rintro e w' ⟨rfl, rfl⟩
  go_wp2_with fail
  refine (P0.out _).mono ?_
  rintro e w' ⟨rfl, rfl⟩
  go_wp2_with fail
  refine (P1.out _).mono ?_
  rintro e w' ⟨rfl, rfl⟩
  go_wp2_with fail
  refine (P2.out _).mono ?_
  rintro e w' ⟨rfl, rfl⟩
  go_wp2_with fail
  refine (P5.out _).mono ?_
  rintro e w' ⟨rfl, rfl⟩
  go_wp2_with fail
  refine (P6.out _).mono ?_
  rintro e w' ⟨rfl, rfl⟩
  go_wp2_with fail
  refine (P7.out _).mono ?_
  rintro e w' ⟨rfl, rfl⟩
  go_wp2_with fail
  refine (shown_any _ HF.out).mono ?_
  rintro e w1 ⟨rfl, hB⟩
  go_wp2_with fail
  go_ret
  exact ⟨rfl, hB⟩

set_option maxRecDepth 100000 in
set_option maxHeartbeats 800000 in
theorem arm_s11no {x y z A C D L M H : Int} (w : World) (HF : Hid (Fit w)) (x0 : (x == 1099511627776) = false) (x1 : -2147483648 ≤ x) (x2 : x ≤ 2147483649) (h0 : (H == 0) = false)
    (V0 : Hid (∀ W, Calls Tryd.prog 16 #[.int .i64 x] W (Still (.bool true) W))) (V1 : Hid (∀ W, Calls Tryd.prog 16 #[.int .i64 y] W (Still (.bool true) W))) (V2 : Hid (∀ W, Calls Tryd.prog 16 #[.int .i64 z] W (Still (.bool true) W)))
    (P0 : Hid (∀ W, Calls Tryd.prog 19 #[.int .i64 x, .int .i64 y] W (Still (.tuple #[.int .i64 A, .int .i64 0]) W))) (P1 : Hid (∀ W, Calls Tryd.prog 19 #[.int .i64 y, .int .i64 x] W (Still (.tuple #[.int .i64 A, .int .i64 0]) W)))
    (P2 : Hid (∀ W, Calls Tryd.prog 19 #[.int .i64 y, .int .i64 z] W (Still (.tuple #[.int .i64 C, .int .i64 0]) W)))
    (P5 : Hid (∀ W, Calls Tryd.prog 19 #[.int .i64 x, .int .i64 z] W (Still (.tuple #[.int .i64 D, .int .i64 H]) W)))
    (P3 : Hid (∀ W, Calls Tryd.prog 19 #[.int .i64 A, .int .i64 z] W (Still (.tuple #[.int .i64 L, .int .i64 M]) W))) (P4 : Hid (∀ W, Calls Tryd.prog 19 #[.int .i64 x, .int .i64 C] W (Still (.tuple #[.int .i64 L, .int .i64 M]) W)))
    (P6 : Hid (∀ W, Calls Tryd.prog 21 #[.int .i64 x] W (Still (.tuple #[.int .i64 (1 - x), .int .i64 0]) W))) (P7 : Hid (∀ W, Calls Tryd.prog 21 #[.int .i64 (1 - x)] W (Still (.tuple #[.int .i64 x, .int .i64 0]) W))) : Calls Tryd.prog 6 #[.int .i64 x, .int .i64 y, .int .i64 z] w (Made (.bool true) w) := by
  go_enter Tryd.func6, Tryd.ntmps6
  go_wp2_with fail
  refine (V0.out _).mono ?_
  rintro e w' ⟨rfl, rfl⟩
  go_wp2_with fail
  refine (V1.out _).mono ?_
  rintro e w' ⟨rfl, rfl⟩
  go_wp2_with fail
  refine (V2.out _).mono ?_
  rintro e w' ⟨rfl, rfl⟩
  go_wp2_with fail
  refine (P0.out _).mono ?_
  rintro e w' ⟨rfl, rfl⟩
  go_wp2_with fail
  refine (P1.out _).mono ?_
  rintro e w' ⟨rfl, rfl⟩
  go_wp2_with fail
  refine (P2.out _).mono ?_
  rintro e w' ⟨rfl, rfl⟩
  go_wp2_with fail
  refine (P3.out _).mono ?_
  rintro e w' ⟨rfl, rfl⟩
  go_wp2_with fail
  refine (P4.out _).mono ?_
  rintro e w' ⟨rfl, rfl⟩
  go_wp2_with fail
  refine (P5.out _).mono ?_
  rintro e w' ⟨rfl, rfl⟩
  go_wp2_with fail
  refine (P6.out _).mono ?_
  rintro e w' ⟨rfl, rfl⟩
  go_wp2_with fail
  refine (P7.out _).mono ?_
  rintro e w' ⟨rfl, rfl⟩
  go_wp2_with fail
  refine (shown_any _ HF.out).mono ?_
  rintro e w1 ⟨rfl, hB⟩
  go_wp2_with fail
  go_ret
  exact ⟨rfl, hB⟩

set_option maxRecDepth 100000 in
set_option maxHeartbeats 800000 in
theorem arm_s11le {x y z A C D L M : Int} (w : World) (HF : Hid (Fit w)) (x0 : (x == 1099511627776) = false) (x1 : -2147483648 ≤ x) (x2 : x ≤ 2147483649) (yz : y ≤ z) (ad : A ≤ D)
    (V0 : Hid (∀ W, Calls Tryd.prog 16 #[.int .i64 x] W (Still (.bool true) W))) (V1 : Hid (∀ W, Calls Tryd.prog 16 #[.int .i64 y] W (Still (.bool true) W))) (V2 : Hid (∀ W, Calls Tryd.prog 16 #[.int .i64 z] W (Still (.bool true) W)))
    (P0 : Hid (∀ W, Calls Tryd.prog 19 #[.int .i64 x, .int .i64 y] W (Still (.tuple #[.int .i64 A, .int .i64 0]) W))) (P1 : Hid (∀ W, Calls Tryd.prog 19 #[.int .i64 y, .int .i64 x] W (Still (.tuple #[.int .i64 A, .int .i64 0]) W)))
    (P2 : Hid (∀ W, Calls Tryd.prog 19 #[.int .i64 y, .int .i64 z] W (Still (.tuple #[.int .i64 C, .int .i64 0]) W)))
    (P5 : Hid (∀ W, Calls Tryd.prog 19 #[.int .i64 x, .int .i64 z] W (Still (.tuple #[.int .i64 D, .int .i64 0]) W)))
    (P3 : Hid (∀ W, Calls Tryd.prog 19 #[.int .i64 A, .int .i64 z] W (Still (.tuple #[.int .i64 L, .int .i64 M]) W))) (P4 : Hid (∀ W, Calls Tryd.prog 19 #[.int .i64 x, .int .i64 C] W (Still (.tuple #[.int .i64 L, .int .i64 M]) W)))
    (P6 : Hid (∀ W, Calls Tryd.prog 21 #[.int .i64 x] W (Still (.tuple #[.int .i64 (1 - x), .int .i64 0]) W))) (P7 : Hid (∀ W, Calls Tryd.prog 21 #[.int .i64 (1 - x)] W (Still (.tuple #[.int .i64 x, .int .i64 0]) W))) : Calls Tryd.prog 6 #[.int .i64 x, .int .i64 y, .int .i64 z] w (Made (.bool true) w) := by
  go_enter Tryd.func6, Tryd.ntmps6
  go_wp2_with fail
  refine (V0.out _).mono ?_
  rintro e w' ⟨rfl, rfl⟩
  go_wp2_with fail
  refine (V1.out _).mono ?_
  rintro e w' ⟨rfl, rfl⟩
  go_wp2_with fail
  refine (V2.out _).mono ?_
  rintro e w' ⟨rfl, rfl⟩
  go_wp2_with fail
  refine (P0.out _).mono ?_
  rintro e w' ⟨rfl, rfl⟩
  go_wp2_with fail
  refine (P1.out _).mono ?_
  rintro e w' ⟨rfl, rfl⟩
  go_wp2_with fail
  refine (P2.out _).mono ?_
  rintro e w' ⟨rfl, rfl⟩
  go_wp2_with fail
  refine (P3.out _).mono ?_
  rintro e w' ⟨rfl, rfl⟩
  go_wp2_with fail
  refine (P4.out _).mono ?_
  rintro e w' ⟨rfl, rfl⟩
  go_wp2_with fail
  refine (P5.out _).mono ?_
  rintro e w' ⟨rfl, rfl⟩
  go_wp2_with fail
  refine (P6.out _).mono ?_
  rintro e w' ⟨rfl, rfl⟩
  go_wp2_with fail
  refine (P7.out _).mono ?_
  rintro e w' ⟨rfl, rfl⟩
  go_wp2_with fail
  refine (shown_any _ HF.out).mono ?_
  rintro e w1 ⟨rfl, hB⟩
  go_wp2_with fail
  go_ret
  exact ⟨rfl, hB⟩

set_option maxRecDepth 100000 in
set_option maxHeartbeats 800000 in
theorem arm_s11gt {x y z A C D L M : Int} (w : World) (HF : Hid (Fit w)) (x0 : (x == 1099511627776) = false) (x1 : -2147483648 ≤ x) (x2 : x ≤ 2147483649) (yz : z < y)
    (V0 : Hid (∀ W, Calls Tryd.prog 16 #[.int .i64 x] W (Still (.bool true) W))) (V1 : Hid (∀ W, Calls Tryd.prog 16 #[.int .i64 y] W (Still (.bool true) W))) (V2 : Hid (∀ W, Calls Tryd.prog 16 #[.int .i64 z] W (Still (.bool true) W)))
    (P0 : Hid (∀ W, Calls Tryd.prog 19 #[.int .i64 x, .int .i64 y] W (Still (.tuple #[.int .i64 A, .int .i64 0]) W))) (P1 : Hid (∀ W, Calls Tryd.prog 19 #[.int .i64 y, .int .i64 x] W (Still (.tuple #[.int .i64 A, .int .i64 0]) W)))
    (P2 : Hid (∀ W, Calls Tryd.prog 19 #[.int .i64 y, .int .i64 z] W (Still (.tuple #[.int .i64 C, .int .i64 0]) W)))
    (P5 : Hid (∀ W, Calls Tryd.prog 19 #[.int .i64 x, .int .i64 z] W (Still (.tuple #[.int .i64 D, .int .i64 0]) W)))
    (P3 : Hid (∀ W, Calls Tryd.prog 19 #[.int .i64 A, .int .i64 z] W (Still (.tuple #[.int .i64 L, .int .i64 M]) W))) (P4 : Hid (∀ W, Calls Tryd.prog 19 #[.int .i64 x, .int .i64 C] W (Still (.tuple #[.int .i64 L, .int .i64 M]) W)))
    (P6 : Hid (∀ W, Calls Tryd.prog 21 #[.int .i64 x] W (Still (.tuple #[.int .i64 (1 - x), .int .i64 0]) W))) (P7 : Hid (∀ W, Calls Tryd.prog 21 #[.int .i64 (1 - x)] W (Still (.tuple #[.int .i64 x, .int .i64 0]) W))) : Calls Tryd.prog 6 #[.int .i64 x, .int .i64 y, .int .i64 z] w (Made (.bool true) w) := by
  go_enter Tryd.func6, Tryd.ntmps6
  go_wp2_with fail
  refine (V0.out _).mono ?_
  rintro e w' ⟨rfl, rfl⟩
  go_wp2_with fail
  refine (V1.out _).mono ?_
  rintro e w' ⟨rfl, rfl⟩
  go_wp2_with fail
  refine (V2.out _).mono ?_
  rintro e w' ⟨rfl, rfl⟩
  go_wp2_with fail
  refine (P0.out _).mono ?_
  rintro e w' ⟨rfl, rfl⟩
  go_wp2_with fail
  refine (P1.out _).mono ?_
  rintro e w' ⟨rfl, rfl⟩
  go_wp2_with fail
  refine (P2.out _).mono ?_
  rintro e w' ⟨rfl, rfl⟩
  go_wp2_with fail
  refine (P3.out _).mono ?_
  rintro e w' ⟨rfl, rfl⟩
  go_wp2_with fail
  refine (P4.out _).mono ?_
  rintro e w' ⟨rfl, rfl⟩
  go_wp2_with fail
  refine (P5.out _).mono ?_
  rintro e w' ⟨rfl, rfl⟩
  go_wp2_with fail
  refine (P6.out _).mono ?_
  rintro e w' ⟨rfl, rfl⟩
  go_wp2_with fail
  refine (P7.out _).mono ?_
  rintro e w' ⟨rfl, rfl⟩
  go_wp2_with fail
  refine (shown_any _ HF.out).mono ?_
  rintro e w1 ⟨rfl, hB⟩
  go_wp2_with fail
  go_ret
  exact ⟨rfl, hB⟩

theorem walk (x y z : Int) (w : World) (hF : Fit w) (hx : I64 x) (hy : I64 y) (hz : I64 z) : Calls Tryd.prog 6 #[.int .i64 x, .int .i64 y, .int .i64 z] w (Made (.bool true) w) := by
  cases vx : lvB x
  · exact walk_bad x y z w hF hx hy hz (Or.inl vx)
  cases vy : lvB y
  · exact walk_bad x y z w hF hx hy hz (Or.inr (Or.inl vy))
  cases vz : lvB z
  · exact walk_bad x y z w hF hx hy hz (Or.inr (Or.inr vz))
  have V0 := Lib.hid fun W => limValid_as W hx vx
  have V1 := Lib.hid fun W => limValid_as W hy vy
  have V2 := Lib.hid fun W => limValid_as W hz vz
  have p0 := fun W => limAdd_any x y W hx hy
  have p1 := fun W => limAdd_any y x W hy hx
  rw [← (ad_comm x y).1, ← (ad_comm x y).2] at p1
  have p2 := fun W => limAdd_any y z W hy hz
  have p3 := fun W => limAdd_any (adL x y) z W (ad_bd x y) hz
  have p4 := fun W => limAdd_any x (adL y z) W hx (ad_bd y z)
  have p5 := fun W => limAdd_any x z W hx hz
  have HF := Lib.hid hF
  cases nx : noB x
  · have x0 : (x == 1099511627776) = false := by simpa [noB] using nx
    have p6 := fun W => limNot_any x W hx
    rw [(nt_val vx nx).1, (nt_val vx nx).2] at p6
    obtain ⟨x1, x2⟩ : -2147483648 ≤ x ∧ x ≤ 2147483649 := by unfold lvB at vx; unfold noB at nx; simp at vx nx; omega
    have p7 := fun W => limNot_any (1 - x) W (by unfold I64; omega)
    rw [(nt_nt vx nx).1, (nt_nt vx nx).2] at p7
    have P6 := Lib.hid p6
    have P7 := Lib.hid p7
    rcases ad_E vx vy with e | e
    · rw [e] at p0 p1
      rcases ad_E vy vz with g | g
      · obtain ⟨a1, a2⟩ := ad_assoc vx vy vz e g
        rw [← a1, ← a2] at p4
        rw [g] at p2
        rcases ad_E vx vz with h | h
        · have mono := ad_mono vx vy vz e h
          rw [h] at p5
          by_cases yz : y ≤ z
          · exact arm_s11le w HF x0 x1 x2 yz (mono yz) V0 V1 V2 (Lib.hid p0) (Lib.hid p1) (Lib.hid p2) (Lib.hid p5) (Lib.hid p3) (Lib.hid p4) P6 P7
          · exact arm_s11gt w HF x0 x1 x2 (Int.not_le.1 yz) V0 V1 V2 (Lib.hid p0) (Lib.hid p1) (Lib.hid p2) (Lib.hid p5) (Lib.hid p3) (Lib.hid p4) P6 P7
        · exact arm_s11no w HF x0 x1 x2 (show (adE x z == 0) = false by rw [h]; decide) V0 V1 V2 (Lib.hid p0) (Lib.hid p1) (Lib.hid p2) (Lib.hid p5) (Lib.hid p3) (Lib.hid p4) P6 P7
      · have g0 : (adE y z == 0) = false := by rw [g]; decide
        rcases ad_E vx vz with h | h
        · have mono := ad_mono vx vy vz e h
          rw [h] at p5
          by_cases yz : y ≤ z
          · exact arm_s10le w HF x0 x1 x2 g0 yz (mono yz) V0 V1 V2 (Lib.hid p0) (Lib.hid p1) (Lib.hid p2) (Lib.hid p5) P6 P7
          · exact arm_s10gt w HF x0 x1 x2 g0 (Int.not_le.1 yz) V0 V1 V2 (Lib.hid p0) (Lib.hid p1) (Lib.hid p2) (Lib.hid p5) P6 P7
        · exact arm_s10no w HF x0 x1 x2 g0 (show (adE x z == 0) = false by rw [h]; decide) V0 V1 V2 (Lib.hid p0) (Lib.hid p1) (Lib.hid p2) (Lib.hid p5) P6 P7
    · exact arm_s00 w HF x0 x1 x2 (show (adE x y == 0) = false by rw [e]; decide) V0 V1 V2 (Lib.hid p0) (Lib.hid p1) (Lib.hid p2) (Lib.hid p5) P6 P7
  · have x0 : (x == 1099511627776) = true := by simpa [noB] using nx
    rcases ad_E vx vy with e | e
    · rw [e] at p0 p1
      rcases ad_E vy vz with g | g
      · obtain ⟨a1, a2⟩ := ad_assoc vx vy vz e g
        rw [← a1, ← a2] at p4
        rw [g] at p2
        rcases ad_E vx vz with h | h
        · have mono := ad_mono vx vy vz e h
          rw [h] at p5
          by_cases yz : y ≤ z
          · exact arm_n11le w HF x0 yz (mono yz) V0 V1 V2 (Lib.hid p0) (Lib.hid p1) (Lib.hid p2) (Lib.hid p5) (Lib.hid p3) (Lib.hid p4)
          · exact arm_n11gt w HF x0 (Int.not_le.1 yz) V0 V1 V2 (Lib.hid p0) (Lib.hid p1) (Lib.hid p2) (Lib.hid p5) (Lib.hid p3) (Lib.hid p4)
        · exact arm_n11no w HF x0 (show (adE x z == 0) = false by rw [h]; decide) V0 V1 V2 (Lib.hid p0) (Lib.hid p1) (Lib.hid p2) (Lib.hid p5) (Lib.hid p3) (Lib.hid p4)
      · have g0 : (adE y z == 0) = false := by rw [g]; decide
        rcases ad_E vx vz with h | h
        · have mono := ad_mono vx vy vz e h
          rw [h] at p5
          by_cases yz : y ≤ z
          · exact arm_n10le w HF x0 g0 yz (mono yz) V0 V1 V2 (Lib.hid p0) (Lib.hid p1) (Lib.hid p2) (Lib.hid p5)
          · exact arm_n10gt w HF x0 g0 (Int.not_le.1 yz) V0 V1 V2 (Lib.hid p0) (Lib.hid p1) (Lib.hid p2) (Lib.hid p5)
        · exact arm_n10no w HF x0 g0 (show (adE x z == 0) = false by rw [h]; decide) V0 V1 V2 (Lib.hid p0) (Lib.hid p1) (Lib.hid p2) (Lib.hid p5)
    · exact arm_n00 w HF x0 (show (adE x y == 0) = false by rw [e]; decide) V0 V1 V2 (Lib.hid p0) (Lib.hid p1) (Lib.hid p2) (Lib.hid p5)

set_option maxRecDepth 100000 in
theorem lifted (os : Os) (started : os.Started) (H : Type) (enc : TypeId × Value → H) :
    ReturnsInHanded {} Tryd.checked os 6 .any (fun w args => (Rows.limitLawsSpec.pre enc Tryd.prog Tryd.f6 [] false w args ∧ laidMetH Tryd.prog laid3 w) ∧ sizedMet enc Tryd.prog Tryd.f6 (OpenSpec.ofChange Rows.limitLawsSpec) false w args)
      (Rows.limitLawsSpec.post enc Tryd.prog Tryd.f6 false true false false) := by
  refine returns_laid_shaped (C := Tryd.checked) (X := fun w _ => laidMetH Tryd.prog laid3 w) (fun _ _ _ hh h => h.of_heap hh) own started (by kernel_rfl) Tryd.func6
    (ChangeSpec.witness_shaped (enc := enc) (C := Tryd.checked) (os := os) (X := fun w _ => laidMetH Tryd.prog laid3 w) false (World.doorLaid Tryd.prog 400 os) #[.int .i64 0, .int .i64 0, .int .i64 0] 8 rfl (World.shaped_of_RefB (by kernel_rfl) (by kernel_rfl)) (by kernel_rfl) (by kernel_rfl) (by kernel_rfl) (door_met os _)) ?_
  intro W base args ds gs before hval0 hW _ _ hL hsh
  have hF := fit_of hL
  have hval : ∀ (j : Nat) t v, Tryd.f6.params[j]? = some t → args[j]? = some v → Value.okWide Tryd.prog W .any base t v := hval0
  have hW' := hW
  obtain ⟨p, q, hA0, hV, rfl, hfz, hnd⟩ := hW
  have hA : DataW.TrodAll enc Tryd.prog W 0 (fun _ => true) true Tryd.f6.params.toList args.toList ds p := hA0
  rw [Tryd.params6] at hA hval
  obtain ⟨v0, v1, v2, d0, d1, d2, p0, p1, p2, rfl, rfl, rfl, h0, h1, h2⟩ := trodAll_three hA
  obtain ⟨rfl, rfl⟩ := trodVars_none hV
  obtain ⟨a0, rfl, rfl, rfl, wa0⟩ := open_int Tryd.underlying22 (hval 0 22 v0 rfl rfl) h0
  obtain ⟨a1, rfl, rfl, rfl, wa1⟩ := open_int Tryd.underlying22 (hval 1 22 v1 rfl rfl) h1
  obtain ⟨a2, rfl, rfl, rfl, wa2⟩ := open_int Tryd.underlying22 (hval 2 22 v2 rfl rfl) h2
  clear hA0 hval0
  simp only [List.append_nil] at hW'
  refine (walk a0 a1 a2 W hF (bounds_i64 wa0) (bounds_i64 wa1) (bounds_i64 wa2)).mono fun e W' ⟨he, hb⟩ => ?_
  subst he
  exact ⟨_, rfl, post_made hW' hb (fun _ _ _ => trodAll_mk1 (shut_bool Tryd.underlying4 _)) (fun sp => trodAll_mk3 (shut_int Tryd.underlying22 wa0) (shut_int Tryd.underlying22 wa1) (shut_int Tryd.underlying22 wa2)) (fun _ => rfl) (ok_one (by kernel_rfl) rfl (okWide_bool_mk Tryd.underlying4 _))⟩

theorem said : Rows.LimitLawsSaid :=
  OpenClaim.holds_of_wide 6 Tryd.f6 rfl rfl rfl rfl rfl rfl rfl ⟨rfl, rfl, rfl, rfl, rfl⟩ rfl rfl rfl rfl rfl (by kernel_rfl) Tryd.func6 (by kernel_rfl)
    (of_decide_eq_true (by kernel_rfl)) (by unfold Func.isWrapper; first | (rw [if_pos (by decide +kernel)]; kernel_rfl) | (rw [if_neg (by decide +kernel)]; exact ⟨rfl, rfl⟩))
    (fun os started H enc _ => lifted os started H enc)

theorem proved : Rows.LimitLawsCardSaid :=
  Claim7.holds_tied_plain_at .later [] [.data, .data, .data] true (true, "4ac88df0ca6c9a3c6b754f126be577545796e3b4e23f935dfd43c51c38490d2d") false
    said (fun _ h => by cases h) (by kernel_rfl) (fun _ h => by cases h) limitLaws_row_tie rfl ⟨rfl, rfl⟩ (by kernel_rfl) rfl
    (fun f fn hf hfn => by
      obtain rfl : f = 6 := Option.some.inj ((show Tryd.prog.funcNamed "foliot/foliotlaw02.LimitLaws" = some 6 by kernel_rfl).symm.trans hf) |>.symm
      obtain rfl : fn = Tryd.f6 := (Option.some.inj (Tryd.func6.symm.trans hfn)).symm
      exact ⟨by kernel_rfl, fun j t ht => by
        rw [Tryd.params6] at ht
        have hm : t ∈ [22] := by have := Array.mem_of_getElem? ht; simp at this ⊢; omega
        have hall : ([22].all fun u => !Tryd.prog.wantsStandIn u) = true := by kernel_rfl
        exact (show Tryd.prog.wantsStandIn t = false by simpa using List.all_eq_true.1 hall t hm)⟩)
    (by kernel_rfl)

#print axioms proved
end Go.Proofs.YtbcafamgmdngpaaDoor.LiLaws
