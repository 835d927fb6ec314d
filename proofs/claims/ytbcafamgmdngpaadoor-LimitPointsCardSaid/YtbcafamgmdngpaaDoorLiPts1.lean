/- The walks of LimitPoints where an argument is not valid, or the limit is none. -/
import Derived.Test.YtbcafamgmdngpaaDoorLiPts0
namespace Go.Proofs.YtbcafamgmdngpaaDoor.LiPoints
open Go.Proofs.YtbcafamgmdngpaaDoor
open Go.ChangeShapes Go.WideShapes Go.ChangeAt Go.RowKit Go.Joins

set_option maxRecDepth 100000 in
set_option maxHeartbeats 800000 in
theorem bad0 {n d m c a b : Int} (w : World) (HF : Hid (Fit w)) (V0 : Hid (∀ W, Calls Tryd.prog 25 #[.agg #[.int .i64 n, .int .i64 d]] W (Made (.bool false) W))) : Calls Tryd.prog 7 #[.agg #[.int .i64 n, .int .i64 d, .int .i64 m, .int .i64 c], .int .i64 a, .int .i64 b] w (Made (.bool true) w) := by
  go_enter Tryd.func7, Tryd.ntmps7
  go_wp2_with fail
  go_cut [7, 8] (fun s7 s8 wx => ∃ p q : Nat, s7 = .pointer (some ⟨p, 0, none⟩) ∧ s8 = .pointer (some ⟨q, 0, none⟩) ∧ Hid (Pair wx p n d) ∧ Hid (Pair wx q m c) ∧ Hid (Below w.heap.size w wx))
  case first =>
    go_region
    · go_wp2_with fail
      go_meet
      case rel =>
        refine ⟨_, _, rfl, rfl, Lib.hid ?_, Lib.hid ?_, Lib.hid ?_⟩
        · exact (((Pair.made (w.alloc (.cells #[.int .i64 n, .int .i64 d, .int .i64 m, .int .i64 c] 42)) n d 37).alloc _).kept ((Below.refl _ _).drew)).cast_block (by simp)
        · exact ((Pair.made ((w.alloc (.cells #[.int .i64 n, .int .i64 d, .int .i64 m, .int .i64 c] 42)).alloc (.cells #[.int .i64 n, .int .i64 d] 37)) m c 37).kept ((Below.refl _ _).drew)).cast_block (by simp)
        · exact (past_three (Below.refl _ _)).drew
    · go_wp2_with fail
      go_meet
      case rel =>
        refine ⟨_, _, rfl, rfl, Lib.hid ?_, Lib.hid ?_, Lib.hid ?_⟩
        · exact ((Pair.made ((w.alloc (.cells #[.int .i64 n, .int .i64 d, .int .i64 m, .int .i64 c] 42)).alloc (.cells #[.int .i64 m, .int .i64 c] 37)) n d 37).kept ((Below.refl _ _).drew)).cast_block (by simp)
        · exact (((Pair.made (w.alloc (.cells #[.int .i64 n, .int .i64 d, .int .i64 m, .int .i64 c] 42)) m c 37).alloc _).kept ((Below.refl _ _).drew)).cast_block (by simp)
        · exact (past_three (Below.refl _ _)).drew
  case rest =>
  obtain ⟨p, q, rfl, rfl, hA, hC, hB0⟩ := hcut
  have pA := hA.out
  have pC := hC.out
  have hB := hB0.out
  clear hA hC hB0
  obtain ⟨fA0, fA1, fA2, fA3⟩ := pA.facts
  obtain ⟨fC0, fC1, fC2, fC3⟩ := pC.facts
  have gA := pA.lt
  have gC := pC.lt
  go_wp2_with fail
  refine (V0.out _).mono ?_
  rintro e x1 ⟨rfl, hb⟩
  clear fA0 fA1 fA2 fA3 fC0 fC1 fC2 fC3 gA gC
  replace pA := pA.kept hb
  replace pC := pC.kept hb
  replace hB := below_on hB hb
  clear hb
  obtain ⟨fA0, fA1, fA2, fA3⟩ := pA.facts
  obtain ⟨fC0, fC1, fC2, fC3⟩ := pC.facts
  have gA := pA.lt
  have gC := pC.lt
  go_wp2_with fail
  refine (shown_any _ (HF.out.on hB)).mono ?_
  rintro e x2 ⟨rfl, hb⟩
  replace hB := below_on hB hb
  clear hb
  go_wp2_with fail
  go_ret
  exact ⟨rfl, hB⟩

set_option maxRecDepth 100000 in
set_option maxHeartbeats 800000 in
theorem bad1 {n d m c a b : Int} (w : World) (HF : Hid (Fit w)) (V0 : Hid (∀ W, Calls Tryd.prog 25 #[.agg #[.int .i64 n, .int .i64 d]] W (Made (.bool true) W))) (V1 : Hid (∀ W, Calls Tryd.prog 25 #[.agg #[.int .i64 m, .int .i64 c]] W (Made (.bool false) W))) : Calls Tryd.prog 7 #[.agg #[.int .i64 n, .int .i64 d, .int .i64 m, .int .i64 c], .int .i64 a, .int .i64 b] w (Made (.bool true) w) := by
  go_enter Tryd.func7, Tryd.ntmps7
  go_wp2_with fail
  go_cut [7, 8] (fun s7 s8 wx => ∃ p q : Nat, s7 = .pointer (some ⟨p, 0, none⟩) ∧ s8 = .pointer (some ⟨q, 0, none⟩) ∧ Hid (Pair wx p n d) ∧ Hid (Pair wx q m c) ∧ Hid (Below w.heap.size w wx))
  case first =>
    go_region
    · go_wp2_with fail
      go_meet
      case rel =>
        refine ⟨_, _, rfl, rfl, Lib.hid ?_, Lib.hid ?_, Lib.hid ?_⟩
        · exact (((Pair.made (w.alloc (.cells #[.int .i64 n, .int .i64 d, .int .i64 m, .int .i64 c] 42)) n d 37).alloc _).kept ((Below.refl _ _).drew)).cast_block (by simp)
        · exact ((Pair.made ((w.alloc (.cells #[.int .i64 n, .int .i64 d, .int .i64 m, .int .i64 c] 42)).alloc (.cells #[.int .i64 n, .int .i64 d] 37)) m c 37).kept ((Below.refl _ _).drew)).cast_block (by simp)
        · exact (past_three (Below.refl _ _)).drew
    · go_wp2_with fail
      go_meet
      case rel =>
        refine ⟨_, _, rfl, rfl, Lib.hid ?_, Lib.hid ?_, Lib.hid ?_⟩
        · exact ((Pair.made ((w.alloc (.cells #[.int .i64 n, .int .i64 d, .int .i64 m, .int .i64 c] 42)).alloc (.cells #[.int .i64 m, .int .i64 c] 37)) n d 37).kept ((Below.refl _ _).drew)).cast_block (by simp)
        · exact (((Pair.made (w.alloc (.cells #[.int .i64 n, .int .i64 d, .int .i64 m, .int .i64 c] 42)) m c 37).alloc _).kept ((Below.refl _ _).drew)).cast_block (by simp)
        · exact (past_three (Below.refl _ _)).drew
  case rest =>
  obtain ⟨p, q, rfl, rfl, hA, hC, hB0⟩ := hcut
  have pA := hA.out
  have pC := hC.out
  have hB := hB0.out
  clear hA hC hB0
  obtain ⟨fA0, fA1, fA2, fA3⟩ := pA.facts
  obtain ⟨fC0, fC1, fC2, fC3⟩ := pC.facts
  have gA := pA.lt
  have gC := pC.lt
  go_wp2_with fail
  refine (V0.out _).mono ?_
  rintro e x3 ⟨rfl, hb⟩
  clear fA0 fA1 fA2 fA3 fC0 fC1 fC2 fC3 gA gC
  replace pA := pA.kept hb
  replace pC := pC.kept hb
  replace hB := below_on hB hb
  clear hb
  obtain ⟨fA0, fA1, fA2, fA3⟩ := pA.facts
  obtain ⟨fC0, fC1, fC2, fC3⟩ := pC.facts
  have gA := pA.lt
  have gC := pC.lt
  go_wp2_with fail
  refine (V1.out _).mono ?_
  rintro e x4 ⟨rfl, hb⟩
  clear fA0 fA1 fA2 fA3 fC0 fC1 fC2 fC3 gA gC
  replace pA := pA.kept hb
  replace pC := pC.kept hb
  replace hB := below_on hB hb
  clear hb
  obtain ⟨fA0, fA1, fA2, fA3⟩ := pA.facts
  obtain ⟨fC0, fC1, fC2, fC3⟩ := pC.facts
  have gA := pA.lt
  have gC := pC.lt
  go_wp2_with fail
  refine (shown_any _ (HF.out.on hB)).mono ?_
  rintro e x5 ⟨rfl, hb⟩
  replace hB := below_on hB hb
  clear hb
  go_wp2_with fail
  go_ret
  exact ⟨rfl, hB⟩

set_option maxRecDepth 100000 in
set_option maxHeartbeats 800000 in
theorem bad2 {n d m c a b : Int} (w : World) (HF : Hid (Fit w)) (V0 : Hid (∀ W, Calls Tryd.prog 25 #[.agg #[.int .i64 n, .int .i64 d]] W (Made (.bool true) W))) (V1 : Hid (∀ W, Calls Tryd.prog 25 #[.agg #[.int .i64 m, .int .i64 c]] W (Made (.bool true) W))) (V2 : Hid (∀ W, Calls Tryd.prog 17 #[.int .i64 a] W (Still (.bool false) W))) : Calls Tryd.prog 7 #[.agg #[.int .i64 n, .int .i64 d, .int .i64 m, .int .i64 c], .int .i64 a, .int .i64 b] w (Made (.bool true) w) := by
  go_enter Tryd.func7, Tryd.ntmps7
  go_wp2_with fail
  go_cut [7, 8] (fun s7 s8 wx => ∃ p q : Nat, s7 = .pointer (some ⟨p, 0, none⟩) ∧ s8 = .pointer (some ⟨q, 0, none⟩) ∧ Hid (Pair wx p n d) ∧ Hid (Pair wx q m c) ∧ Hid (Below w.heap.size w wx))
  case first =>
    go_region
    · go_wp2_with fail
      go_meet
      case rel =>
        refine ⟨_, _, rfl, rfl, Lib.hid ?_, Lib.hid ?_, Lib.hid ?_⟩
        · exact (((Pair.made (w.alloc (.cells #[.int .i64 n, .int .i64 d, .int .i64 m, .int .i64 c] 42)) n d 37).alloc _).kept ((Below.refl _ _).drew)).cast_block (by simp)
        · exact ((Pair.made ((w.alloc (.cells #[.int .i64 n, .int .i64 d, .int .i64 m, .int .i64 c] 42)).alloc (.cells #[.int .i64 n, .int .i64 d] 37)) m c 37).kept ((Below.refl _ _).drew)).cast_block (by simp)
        · exact (past_three (Below.refl _ _)).drew
    · go_wp2_with fail
      go_meet
      case rel =>
        refine ⟨_, _, rfl, rfl, Lib.hid ?_, Lib.hid ?_, Lib.hid ?_⟩
        · exact ((Pair.made ((w.alloc (.cells #[.int .i64 n, .int .i64 d, .int .i64 m, .int .i64 c] 42)).alloc (.cells #[.int .i64 m, .int .i64 c] 37)) n d 37).kept ((Below.refl _ _).drew)).cast_block (by simp)
        · exact (((Pair.made (w.alloc (.cells #[.int .i64 n, .int .i64 d, .int .i64 m, .int .i64 c] 42)) m c 37).alloc _).kept ((Below.refl _ _).drew)).cast_block (by simp)
        · exact (past_three (Below.refl _ _)).drew
  case rest =>
  obtain ⟨p, q, rfl, rfl, hA, hC, hB0⟩ := hcut
  have pA := hA.out
  have pC := hC.out
  have hB := hB0.out
  clear hA hC hB0
  obtain ⟨fA0, fA1, fA2, fA3⟩ := pA.facts
  obtain ⟨fC0, fC1, fC2, fC3⟩ := pC.facts
  have gA := pA.lt
  have gC := pC.lt
  go_wp2_with fail
  refine (V0.out _).mono ?_
  rintro e x6 ⟨rfl, hb⟩
  clear fA0 fA1 fA2 fA3 fC0 fC1 fC2 fC3 gA gC
  replace pA := pA.kept hb
  replace pC := pC.kept hb
  replace hB := below_on hB hb
  clear hb
  obtain ⟨fA0, fA1, fA2, fA3⟩ := pA.facts
  obtain ⟨fC0, fC1, fC2, fC3⟩ := pC.facts
  have gA := pA.lt
  have gC := pC.lt
  go_wp2_with fail
  refine (V1.out _).mono ?_
  rintro e x7 ⟨rfl, hb⟩
  clear fA0 fA1 fA2 fA3 fC0 fC1 fC2 fC3 gA gC
  replace pA := pA.kept hb
  replace pC := pC.kept hb
  replace hB := below_on hB hb
  clear hb
  obtain ⟨fA0, fA1, fA2, fA3⟩ := pA.facts
  obtain ⟨fC0, fC1, fC2, fC3⟩ := pC.facts
  have gA := pA.lt
  have gC := pC.lt
  go_wp2_with fail
  refine (V2.out _).mono ?_
  rintro e w' ⟨rfl, rfl⟩
  go_wp2_with fail
  refine (shown_any _ (HF.out.on hB)).mono ?_
  rintro e x8 ⟨rfl, hb⟩
  replace hB := below_on hB hb
  clear hb
  go_wp2_with fail
  go_ret
  exact ⟨rfl, hB⟩

set_option maxRecDepth 100000 in
set_option maxHeartbeats 800000 in
theorem bad3 {n d m c a b : Int} (w : World) (HF : Hid (Fit w)) (V0 : Hid (∀ W, Calls Tryd.prog 25 #[.agg #[.int .i64 n, .int .i64 d]] W (Made (.bool true) W))) (V1 : Hid (∀ W, Calls Tryd.prog 25 #[.agg #[.int .i64 m, .int .i64 c]] W (Made (.bool true) W))) (V2 : Hid (∀ W, Calls Tryd.prog 17 #[.int .i64 a] W (Still (.bool true) W))) (V3 : Hid (∀ W, Calls Tryd.prog 17 #[.int .i64 b] W (Still (.bool false) W))) : Calls Tryd.prog 7 #[.agg #[.int .i64 n, .int .i64 d, .int .i64 m, .int .i64 c], .int .i64 a, .int .i64 b] w (Made (.bool true) w) := by
  go_enter Tryd.func7, Tryd.ntmps7
  go_wp2_with fail
  go_cut [7, 8] (fun s7 s8 wx => ∃ p q : Nat, s7 = .pointer (some ⟨p, 0, none⟩) ∧ s8 = .pointer (some ⟨q, 0, none⟩) ∧ Hid (Pair wx p n d) ∧ Hid (Pair wx q m c) ∧ Hid (Below w.heap.size w wx))
  case first =>
    go_region
    · go_wp2_with fail
      go_meet
      case rel =>
        refine ⟨_, _, rfl, rfl, Lib.hid ?_, Lib.hid ?_, Lib.hid ?_⟩
        · exact (((Pair.made (w.alloc (.cells #[.int .i64 n, .int .i64 d, .int .i64 m, .int .i64 c] 42)) n d 37).alloc _).kept ((Below.refl _ _).drew)).cast_block (by simp)
        · exact ((Pair.made ((w.alloc (.cells #[.int .i64 n, .int .i64 d, .int .i64 m, .int .i64 c] 42)).alloc (.cells #[.int .i64 n, .int .i64 d] 37)) m c 37).kept ((Below.refl _ _).drew)).cast_block (by simp)
        · exact (past_three (Below.refl _ _)).drew
    · go_wp2_with fail
      go_meet
      case rel =>
        refine ⟨_, _, rfl, rfl, Lib.hid ?_, Lib.hid ?_, Lib.hid ?_⟩
        · exact ((Pair.made ((w.alloc (.cells #[.int .i64 n, .int .i64 d, .int .i64 m, .int .i64 c] 42)).alloc (.cells #[.int .i64 m, .int .i64 c] 37)) n d 37).kept ((Below.refl _ _).drew)).cast_block (by simp)
        · exact (((Pair.made (w.alloc (.cells #[.int .i64 n, .int .i64 d, .int .i64 m, .int .i64 c] 42)) m c 37).alloc _).kept ((Below.refl _ _).drew)).cast_block (by simp)
        · exact (past_three (Below.refl _ _)).drew
  case rest =>
  obtain ⟨p, q, rfl, rfl, hA, hC, hB0⟩ := hcut
  have pA := hA.out
  have pC := hC.out
  have hB := hB0.out
  clear hA hC hB0
  obtain ⟨fA0, fA1, fA2, fA3⟩ := pA.facts
  obtain ⟨fC0, fC1, fC2, fC3⟩ := pC.facts
  have gA := pA.lt
  have gC := pC.lt
  go_wp2_with fail
  refine (V0.out _).mono ?_
  rintro e x9 ⟨rfl, hb⟩
  clear fA0 fA1 fA2 fA3 fC0 fC1 fC2 fC3 gA gC
  replace pA := pA.kept hb
  replace pC := pC.kept hb
  replace hB := below_on hB hb
  clear hb
  obtain ⟨fA0, fA1, fA2, fA3⟩ := pA.facts
  obtain ⟨fC0, fC1, fC2, fC3⟩ := pC.facts
  have gA := pA.lt
  have gC := pC.lt
  go_wp2_with fail
  refine (V1.out _).mono ?_
  rintro e x10 ⟨rfl, hb⟩
  clear fA0 fA1 fA2 fA3 fC0 fC1 fC2 fC3 gA gC
  replace pA := pA.kept hb
  replace pC := pC.kept hb
  replace hB := below_on hB hb
  clear hb
  obtain ⟨fA0, fA1, fA2, fA3⟩ := pA.facts
  obtain ⟨fC0, fC1, fC2, fC3⟩ := pC.facts
  have gA := pA.lt
  have gC := pC.lt
  go_wp2_with fail
  refine (V2.out _).mono ?_
  rintro e w' ⟨rfl, rfl⟩
  go_wp2_with fail
  refine (V3.out _).mono ?_
  rintro e w' ⟨rfl, rfl⟩
  go_wp2_with fail
  refine (shown_any _ (HF.out.on hB)).mono ?_
  rintro e x11 ⟨rfl, hb⟩
  replace hB := below_on hB hb
  clear hb
  go_wp2_with fail
  go_ret
  exact ⟨rfl, hB⟩

set_option maxRecDepth 100000 in
set_option maxHeartbeats 800000 in
theorem arm_n_f {n d m c a b P Q C G H : Int} {MB : Bool} (w : World) (HF : Hid (Fit w)) (a0 : (a == 1099511627776) = true)
    (V0 : Hid (∀ W, Calls Tryd.prog 25 #[.agg #[.int .i64 n, .int .i64 d]] W (Made (.bool true) W))) (V1 : Hid (∀ W, Calls Tryd.prog 25 #[.agg #[.int .i64 m, .int .i64 c]] W (Made (.bool true) W))) (V2 : Hid (∀ W, Calls Tryd.prog 17 #[.int .i64 a] W (Still (.bool true) W))) (V3 : Hid (∀ W, Calls Tryd.prog 17 #[.int .i64 b] W (Still (.bool true) W)))
    (M0 : Hid (∀ W, Calls Tryd.prog 23 #[.agg #[.int .i64 n, .int .i64 d], .int .i64 a] W (Made (.tuple #[.bool false, .int .i64 0]) W))) (M1 : Hid (∀ W, Calls Tryd.prog 23 #[.agg #[.int .i64 m, .int .i64 c], .int .i64 b] W (Made (.tuple #[.bool MB, .int .i64 0]) W)))
    (AD : Hid (∀ W, Calls Tryd.prog 26 #[.agg #[.int .i64 n, .int .i64 d], .agg #[.int .i64 m, .int .i64 c]] W (Made (.tuple #[.agg #[.int .i64 P, .int .i64 Q], .int .i64 G]) W))) (LA : Hid (∀ W, Calls Tryd.prog 19 #[.int .i64 a, .int .i64 b] W (Still (.tuple #[.int .i64 C, .int .i64 H]) W))) : Calls Tryd.prog 7 #[.agg #[.int .i64 n, .int .i64 d, .int .i64 m, .int .i64 c], .int .i64 a, .int .i64 b] w (Made (.bool true) w) := by
  go_enter Tryd.func7, Tryd.ntmps7
  go_wp2_with fail
  go_cut [7, 8] (fun s7 s8 wx => ∃ p q : Nat, s7 = .pointer (some ⟨p, 0, none⟩) ∧ s8 = .pointer (some ⟨q, 0, none⟩) ∧ Hid (Pair wx p n d) ∧ Hid (Pair wx q m c) ∧ Hid (Below w.heap.size w wx))
  case first =>
    go_region
    · go_wp2_with fail
      go_meet
      case rel =>
        refine ⟨_, _, rfl, rfl, Lib.hid ?_, Lib.hid ?_, Lib.hid ?_⟩
        · exact (((Pair.made (w.alloc (.cells #[.int .i64 n, .int .i64 d, .int .i64 m, .int .i64 c] 42)) n d 37).alloc _).kept ((Below.refl _ _).drew)).cast_block (by simp)
        · exact ((Pair.made ((w.alloc (.cells #[.int .i64 n, .int .i64 d, .int .i64 m, .int .i64 c] 42)).alloc (.cells #[.int .i64 n, .int .i64 d] 37)) m c 37).kept ((Below.refl _ _).drew)).cast_block (by simp)
        · exact (past_three (Below.refl _ _)).drew
    · go_wp2_with fail
      go_meet
      case rel =>
        refine ⟨_, _, rfl, rfl, Lib.hid ?_, Lib.hid ?_, Lib.hid ?_⟩
        · exact ((Pair.made ((w.alloc (.cells #[.int .i64 n, .int .i64 d, .int .i64 m, .int .i64 c] 42)).alloc (.cells #[.int .i64 m, .int .i64 c] 37)) n d 37).kept ((Below.refl _ _).drew)).cast_block (by simp)
        · exact (((Pair.made (w.alloc (.cells #[.int .i64 n, .int .i64 d, .int .i64 m, .int .i64 c] 42)) m c 37).alloc _).kept ((Below.refl _ _).drew)).cast_block (by simp)
        · exact (past_three (Below.refl _ _)).drew
  case rest =>
  obtain ⟨p, q, rfl, rfl, hA, hC, hB0⟩ := hcut
  have pA := hA.out
  have pC := hC.out
  have hB := hB0.out
  clear hA hC hB0
  obtain ⟨fA0, fA1, fA2, fA3⟩ := pA.facts
  obtain ⟨fC0, fC1, fC2, fC3⟩ := pC.facts
  have gA := pA.lt
  have gC := pC.lt
  go_wp2_with fail
  refine (V0.out _).mono ?_
  rintro e x12 ⟨rfl, hb⟩
  clear fA0 fA1 fA2 fA3 fC0 fC1 fC2 fC3 gA gC
  replace pA := pA.kept hb
  replace pC := pC.kept hb
  replace hB := below_on hB hb
  clear hb
  obtain ⟨fA0, fA1, fA2, fA3⟩ := pA.facts
  obtain ⟨fC0, fC1, fC2, fC3⟩ := pC.facts
  have gA := pA.lt
  have gC := pC.lt
  go_wp2_with fail
  refine (V1.out _).mono ?_
  rintro e x13 ⟨rfl, hb⟩
  clear fA0 fA1 fA2 fA3 fC0 fC1 fC2 fC3 gA gC
  replace pA := pA.kept hb
  replace pC := pC.kept hb
  replace hB := below_on hB hb
  clear hb
  obtain ⟨fA0, fA1, fA2, fA3⟩ := pA.facts
  obtain ⟨fC0, fC1, fC2, fC3⟩ := pC.facts
  have gA := pA.lt
  have gC := pC.lt
  go_wp2_with fail
  refine (V2.out _).mono ?_
  rintro e w' ⟨rfl, rfl⟩
  go_wp2_with fail
  refine (V3.out _).mono ?_
  rintro e w' ⟨rfl, rfl⟩
  go_wp2_with fail
  refine (M0.out _).mono ?_
  rintro e x14 ⟨rfl, hb⟩
  clear fA0 fA1 fA2 fA3 fC0 fC1 fC2 fC3 gA gC
  replace pA := pA.kept hb
  replace pC := pC.kept hb
  replace hB := below_on hB hb
  clear hb
  obtain ⟨fA0, fA1, fA2, fA3⟩ := pA.facts
  obtain ⟨fC0, fC1, fC2, fC3⟩ := pC.facts
  have gA := pA.lt
  have gC := pC.lt
  go_wp2_with fail
  refine (M1.out _).mono ?_
  rintro e x15 ⟨rfl, hb⟩
  clear fA0 fA1 fA2 fA3 fC0 fC1 fC2 fC3 gA gC
  replace pA := pA.kept hb
  replace pC := pC.kept hb
  replace hB := below_on hB hb
  clear hb
  obtain ⟨fA0, fA1, fA2, fA3⟩ := pA.facts
  obtain ⟨fC0, fC1, fC2, fC3⟩ := pC.facts
  have gA := pA.lt
  have gC := pC.lt
  go_wp2_with fail
  refine (AD.out _).mono ?_
  rintro e y1 ⟨rfl, hb⟩
  clear fA0 fA1 fA2 fA3 fC0 fC1 fC2 fC3 gA gC
  replace pA := pA.kept hb
  replace pC := pC.kept hb
  replace hB := below_on hB hb
  clear hb
  obtain ⟨fA0, fA1, fA2, fA3⟩ := pA.facts
  obtain ⟨fC0, fC1, fC2, fC3⟩ := pC.facts
  have gA := pA.lt
  have gC := pC.lt
  go_wp2_with fail
  refine (LA.out _).mono ?_
  rintro e w' ⟨rfl, rfl⟩
  go_wp2_with fail
  refine (shown_any _ (HF.out.on (hB.trans ((one_more _).mono hB.size)))).mono ?_
  rintro e y2 ⟨rfl, hb⟩
  clear fA0 fA1 fA2 fA3 fC0 fC1 fC2 fC3 gA gC
  replace hB := on_box hB hb
  clear hb pA pC
  go_wp2_with fail
  go_ret
  exact ⟨rfl, hB⟩

set_option maxRecDepth 100000 in
set_option maxHeartbeats 800000 in
theorem arm_n_tf {n d m c a b P Q C G H : Int} (w : World) (HF : Hid (Fit w)) (a0 : (a == 1099511627776) = true)
    (V0 : Hid (∀ W, Calls Tryd.prog 25 #[.agg #[.int .i64 n, .int .i64 d]] W (Made (.bool true) W))) (V1 : Hid (∀ W, Calls Tryd.prog 25 #[.agg #[.int .i64 m, .int .i64 c]] W (Made (.bool true) W))) (V2 : Hid (∀ W, Calls Tryd.prog 17 #[.int .i64 a] W (Still (.bool true) W))) (V3 : Hid (∀ W, Calls Tryd.prog 17 #[.int .i64 b] W (Still (.bool true) W)))
    (M0 : Hid (∀ W, Calls Tryd.prog 23 #[.agg #[.int .i64 n, .int .i64 d], .int .i64 a] W (Made (.tuple #[.bool true, .int .i64 0]) W))) (M1 : Hid (∀ W, Calls Tryd.prog 23 #[.agg #[.int .i64 m, .int .i64 c], .int .i64 b] W (Made (.tuple #[.bool false, .int .i64 0]) W)))
    (AD : Hid (∀ W, Calls Tryd.prog 26 #[.agg #[.int .i64 n, .int .i64 d], .agg #[.int .i64 m, .int .i64 c]] W (Made (.tuple #[.agg #[.int .i64 P, .int .i64 Q], .int .i64 G]) W))) (LA : Hid (∀ W, Calls Tryd.prog 19 #[.int .i64 a, .int .i64 b] W (Still (.tuple #[.int .i64 C, .int .i64 H]) W))) : Calls Tryd.prog 7 #[.agg #[.int .i64 n, .int .i64 d, .int .i64 m, .int .i64 c], .int .i64 a, .int .i64 b] w (Made (.bool true) w) := by
  go_enter Tryd.func7, Tryd.ntmps7
  go_wp2_with fail
  go_cut [7, 8] (fun s7 s8 wx => ∃ p q : Nat, s7 = .pointer (some ⟨p, 0, none⟩) ∧ s8 = .pointer (some ⟨q, 0, none⟩) ∧ Hid (Pair wx p n d) ∧ Hid (Pair wx q m c) ∧ Hid (Below w.heap.size w wx))
  case first =>
    go_region
    · go_wp2_with fail
      go_meet
      case rel =>
        refine ⟨_, _, rfl, rfl, Lib.hid ?_, Lib.hid ?_, Lib.hid ?_⟩
        · exact (((Pair.made (w.alloc (.cells #[.int .i64 n, .int .i64 d, .int .i64 m, .int .i64 c] 42)) n d 37).alloc _).kept ((Below.refl _ _).drew)).cast_block (by simp)
        · exact ((Pair.made ((w.alloc (.cells #[.int .i64 n, .int .i64 d, .int .i64 m, .int .i64 c] 42)).alloc (.cells #[.int .i64 n, .int .i64 d] 37)) m c 37).kept ((Below.refl _ _).drew)).cast_block (by simp)
        · exact (past_three (Below.refl _ _)).drew
    · go_wp2_with fail
      go_meet
      case rel =>
        refine ⟨_, _, rfl, rfl, Lib.hid ?_, Lib.hid ?_, Lib.hid ?_⟩
        · exact ((Pair.made ((w.alloc (.cells #[.int .i64 n, .int .i64 d, .int .i64 m, .int .i64 c] 42)).alloc (.cells #[.int .i64 m, .int .i64 c] 37)) n d 37).kept ((Below.refl _ _).drew)).cast_block (by simp)
        · exact (((Pair.made (w.alloc (.cells #[.int .i64 n, .int .i64 d, .int .i64 m, .int .i64 c] 42)) m c 37).alloc _).kept ((Below.refl _ _).drew)).cast_block (by simp)
        · exact (past_three (Below.refl _ _)).drew
  case rest =>
  obtain ⟨p, q, rfl, rfl, hA, hC, hB0⟩ := hcut
  have pA := hA.out
  have pC := hC.out
  have hB := hB0.out
  clear hA hC hB0
  obtain ⟨fA0, fA1, fA2, fA3⟩ := pA.facts
  obtain ⟨fC0, fC1, fC2, fC3⟩ := pC.facts
  have gA := pA.lt
  have gC := pC.lt
  go_wp2_with fail
  refine (V0.out _).mono ?_
  rintro e x16 ⟨rfl, hb⟩
  clear fA0 fA1 fA2 fA3 fC0 fC1 fC2 fC3 gA gC
  replace pA := pA.kept hb
  replace pC := pC.kept hb
  replace hB := below_on hB hb
  clear hb
  obtain ⟨fA0, fA1, fA2, fA3⟩ := pA.facts
  obtain ⟨fC0, fC1, fC2, fC3⟩ := pC.facts
  have gA := pA.lt
  have gC := pC.lt
  go_wp2_with fail
  refine (V1.out _).mono ?_
  rintro e x17 ⟨rfl, hb⟩
  clear fA0 fA1 fA2 fA3 fC0 fC1 fC2 fC3 gA gC
  replace pA := pA.kept hb
  replace pC := pC.kept hb
  replace hB := below_on hB hb
  clear hb
  obtain ⟨fA0, fA1, fA2, fA3⟩ := pA.facts
  obtain ⟨fC0, fC1, fC2, fC3⟩ := pC.facts
  have gA := pA.lt
  have gC := pC.lt
  go_wp2_with fail
  refine (V2.out _).mono ?_
  rintro e w' ⟨rfl, rfl⟩
  go_wp2_with fail
  refine (V3.out _).mono ?_
  rintro e w' ⟨rfl, rfl⟩
  go_wp2_with fail
  refine (M0.out _).mono ?_
  rintro e x18 ⟨rfl, hb⟩
  clear fA0 fA1 fA2 fA3 fC0 fC1 fC2 fC3 gA gC
  replace pA := pA.kept hb
  replace pC := pC.kept hb
  replace hB := below_on hB hb
  clear hb
  obtain ⟨fA0, fA1, fA2, fA3⟩ := pA.facts
  obtain ⟨fC0, fC1, fC2, fC3⟩ := pC.facts
  have gA := pA.lt
  have gC := pC.lt
  go_wp2_with fail
  refine (M1.out _).mono ?_
  rintro e x19 ⟨rfl, hb⟩
  clear fA0 fA1 fA2 fA3 fC0 fC1 fC2 fC3 gA gC
  replace pA := pA.kept hb
  replace pC := pC.kept hb
  replace hB := below_on hB hb
  clear hb
  obtain ⟨fA0, fA1, fA2, fA3⟩ := pA.facts
  obtain ⟨fC0, fC1, fC2, fC3⟩ := pC.facts
  have gA := pA.lt
  have gC := pC.lt
  go_wp2_with fail
  refine (AD.out _).mono ?_
  rintro e y1 ⟨rfl, hb⟩
  clear fA0 fA1 fA2 fA3 fC0 fC1 fC2 fC3 gA gC
  replace pA := pA.kept hb
  replace pC := pC.kept hb
  replace hB := below_on hB hb
  clear hb
  obtain ⟨fA0, fA1, fA2, fA3⟩ := pA.facts
  obtain ⟨fC0, fC1, fC2, fC3⟩ := pC.facts
  have gA := pA.lt
  have gC := pC.lt
  go_wp2_with fail
  refine (LA.out _).mono ?_
  rintro e w' ⟨rfl, rfl⟩
  go_wp2_with fail
  refine (shown_any _ (HF.out.on (hB.trans ((one_more _).mono hB.size)))).mono ?_
  rintro e y2 ⟨rfl, hb⟩
  clear fA0 fA1 fA2 fA3 fC0 fC1 fC2 fC3 gA gC
  replace hB := on_box hB hb
  clear hb pA pC
  go_wp2_with fail
  go_ret
  exact ⟨rfl, hB⟩

set_option maxRecDepth 100000 in
set_option maxHeartbeats 800000 in
theorem arm_n_g {n d m c a b P Q C G H : Int} (w : World) (HF : Hid (Fit w)) (a0 : (a == 1099511627776) = true) (g0 : (G == 0) = false)
    (V0 : Hid (∀ W, Calls Tryd.prog 25 #[.agg #[.int .i64 n, .int .i64 d]] W (Made (.bool true) W))) (V1 : Hid (∀ W, Calls Tryd.prog 25 #[.agg #[.int .i64 m, .int .i64 c]] W (Made (.bool true) W))) (V2 : Hid (∀ W, Calls Tryd.prog 17 #[.int .i64 a] W (Still (.bool true) W))) (V3 : Hid (∀ W, Calls Tryd.prog 17 #[.int .i64 b] W (Still (.bool true) W)))
    (M0 : Hid (∀ W, Calls Tryd.prog 23 #[.agg #[.int .i64 n, .int .i64 d], .int .i64 a] W (Made (.tuple #[.bool true, .int .i64 0]) W))) (M1 : Hid (∀ W, Calls Tryd.prog 23 #[.agg #[.int .i64 m, .int .i64 c], .int .i64 b] W (Made (.tuple #[.bool true, .int .i64 0]) W)))
    (AD : Hid (∀ W, Calls Tryd.prog 26 #[.agg #[.int .i64 n, .int .i64 d], .agg #[.int .i64 m, .int .i64 c]] W (Made (.tuple #[.agg #[.int .i64 P, .int .i64 Q], .int .i64 G]) W))) (LA : Hid (∀ W, Calls Tryd.prog 19 #[.int .i64 a, .int .i64 b] W (Still (.tuple #[.int .i64 C, .int .i64 H]) W))) : Calls Tryd.prog 7 #[.agg #[.int .i64 n, .int .i64 d, .int .i64 m, .int .i64 c], .int .i64 a, .int .i64 b] w (Made (.bool true) w) := by
  go_enter Tryd.func7, Tryd.ntmps7
  go_wp2_with fail
  go_cut [7, 8] (fun s7 s8 wx => ∃ p q : Nat, s7 = .pointer (some ⟨p, 0, none⟩) ∧ s8 = .pointer (some ⟨q, 0, none⟩) ∧ Hid (Pair wx p n d) ∧ Hid (Pair wx q m c) ∧ Hid (Below w.heap.size w wx))
  case first =>
    go_region
    · go_wp2_with fail
      go_meet
      case rel =>
        refine ⟨_, _, rfl, rfl, Lib.hid ?_, Lib.hid ?_, Lib.hid ?_⟩
        · exact (((Pair.made (w.alloc (.cells #[.int .i64 n, .int .i64 d, .int .i64 m, .int .i64 c] 42)) n d 37).alloc _).kept ((Below.refl _ _).drew)).cast_block (by simp)
        · exact ((Pair.made ((w.alloc (.cells #[.int .i64 n, .int .i64 d, .int .i64 m, .int .i64 c] 42)).alloc (.cells #[.int .i64 n, .int .i64 d] 37)) m c 37).kept ((Below.refl _ _).drew)).cast_block (by simp)
        · exact (past_three (Below.refl _ _)).drew
    · go_wp2_with fail
      go_meet
      case rel =>
        refine ⟨_, _, rfl, rfl, Lib.hid ?_, Lib.hid ?_, Lib.hid ?_⟩
        · exact ((Pair.made ((w.alloc (.cells #[.int .i64 n, .int .i64 d, .int .i64 m, .int .i64 c] 42)).alloc (.cells #[.int .i64 m, .int .i64 c] 37)) n d 37).kept ((Below.refl _ _).drew)).cast_block (by simp)
        · exact (((Pair.made (w.alloc (.cells #[.int .i64 n, .int .i64 d, .int .i64 m, .int .i64 c] 42)) m c 37).alloc _).kept ((Below.refl _ _).drew)).cast_block (by simp)
        · exact (past_three (Below.refl _ _)).drew
  case rest =>
  obtain ⟨p, q, rfl, rfl, hA, hC, hB0⟩ := hcut
  have pA := hA.out
  have pC := hC.out
  have hB := hB0.out
  clear hA hC hB0
  obtain ⟨fA0, fA1, fA2, fA3⟩ := pA.facts
  obtain ⟨fC0, fC1, fC2, fC3⟩ := pC.facts
  have gA := pA.lt
  have gC := pC.lt
  go_wp2_with fail
  refine (V0.out _).mono ?_
  rintro e x20 ⟨rfl, hb⟩
  clear fA0 fA1 fA2 fA3 fC0 fC1 fC2 fC3 gA gC
  replace pA := pA.kept hb
  replace pC := pC.kept hb
  replace hB := below_on hB hb
  clear hb
  obtain ⟨fA0, fA1, fA2, fA3⟩ := pA.facts
  obtain ⟨fC0, fC1, fC2, fC3⟩ := pC.facts
  have gA := pA.lt
  have gC := pC.lt
  go_wp2_with fail
  refine (V1.out _).mono ?_
  rintro e x21 ⟨rfl, hb⟩
  clear fA0 fA1 fA2 fA3 fC0 fC1 fC2 fC3 gA gC
  replace pA := pA.kept hb
  replace pC := pC.kept hb
  replace hB := below_on hB hb
  clear hb
  obtain ⟨fA0, fA1, fA2, fA3⟩ := pA.facts
  obtain ⟨fC0, fC1, fC2, fC3⟩ := pC.facts
  have gA := pA.lt
  have gC := pC.lt
  go_wp2_with fail
  refine (V2.out _).mono ?_
  rintro e w' ⟨rfl, rfl⟩
  go_wp2_with fail
  refine (V3.out _).mono ?_
  rintro e w' ⟨rfl, rfl⟩
  go_wp2_with fail
  refine (M0.out _).mono ?_
  rintro e x22 ⟨rfl, hb⟩
  clear fA0 fA1 fA2 fA3 fC0 fC1 fC2 fC3 gA gC
  replace pA := pA.kept hb
  replace pC := pC.kept hb
  replace hB := below_on hB hb
  clear hb
  obtain ⟨fA0, fA1, fA2, fA3⟩ := pA.facts
  obtain ⟨fC0, fC1, fC2, fC3⟩ := pC.facts
  have gA := pA.lt
  have gC := pC.lt
  go_wp2_with fail
  refine (M1.out _).mono ?_
  rintro e x23 ⟨rfl, hb⟩
  clear fA0 fA1 fA2 fA3 fC0 fC1 fC2 fC3 gA gC
  replace pA := pA.kept hb
  replace pC := pC.kept hb
  replace hB := below_on hB hb
  clear hb
  obtain ⟨fA0, fA1, fA2, fA3⟩ := pA.facts
  obtain ⟨fC0, fC1, fC2, fC3⟩ := pC.facts
  have gA := pA.lt
  have gC := pC.lt
  go_wp2_with fail
  refine (AD.out _).mono ?_
  rintro e y1 ⟨rfl, hb⟩
  clear fA0 fA1 fA2 fA3 fC0 fC1 fC2 fC3 gA gC
  replace pA := pA.kept hb
  replace pC := pC.kept hb
  replace hB := below_on hB hb
  clear hb
  obtain ⟨fA0, fA1, fA2, fA3⟩ := pA.facts
  obtain ⟨fC0, fC1, fC2, fC3⟩ := pC.facts
  have gA := pA.lt
  have gC := pC.lt
  go_wp2_with fail
  refine (LA.out _).mono ?_
  rintro e w' ⟨rfl, rfl⟩
  go_wp2_with fail
  refine (shown_any _ (HF.out.on (hB.trans ((one_more _).mono hB.size)))).mono ?_
  rintro e y2 ⟨rfl, hb⟩
  clear fA0 fA1 fA2 fA3 fC0 fC1 fC2 fC3 gA gC
  replace hB := on_box hB hb
  clear hb pA pC
  go_wp2_with fail
  go_ret
  exact ⟨rfl, hB⟩

set_option maxRecDepth 100000 in
set_option maxHeartbeats 800000 in
theorem arm_n_h {n d m c a b P Q C H : Int} (w : World) (HF : Hid (Fit w)) (a0 : (a == 1099511627776) = true) (h0 : (H == 0) = false)
    (V0 : Hid (∀ W, Calls Tryd.prog 25 #[.agg #[.int .i64 n, .int .i64 d]] W (Made (.bool true) W))) (V1 : Hid (∀ W, Calls Tryd.prog 25 #[.agg #[.int .i64 m, .int .i64 c]] W (Made (.bool true) W))) (V2 : Hid (∀ W, Calls Tryd.prog 17 #[.int .i64 a] W (Still (.bool true) W))) (V3 : Hid (∀ W, Calls Tryd.prog 17 #[.int .i64 b] W (Still (.bool true) W)))
    (M0 : Hid (∀ W, Calls Tryd.prog 23 #[.agg #[.int .i64 n, .int .i64 d], .int .i64 a] W (Made (.tuple #[.bool true, .int .i64 0]) W))) (M1 : Hid (∀ W, Calls Tryd.prog 23 #[.agg #[.int .i64 m, .int .i64 c], .int .i64 b] W (Made (.tuple #[.bool true, .int .i64 0]) W)))
    (AD : Hid (∀ W, Calls Tryd.prog 26 #[.agg #[.int .i64 n, .int .i64 d], .agg #[.int .i64 m, .int .i64 c]] W (Made (.tuple #[.agg #[.int .i64 P, .int .i64 Q], .int .i64 0]) W))) (LA : Hid (∀ W, Calls Tryd.prog 19 #[.int .i64 a, .int .i64 b] W (Still (.tuple #[.int .i64 C, .int .i64 H]) W))) : Calls Tryd.prog 7 #[.agg #[.int .i64 n, .int .i64 d, .int .i64 m, .int .i64 c], .int .i64 a, .int .i64 b] w (Made (.bool true) w) := by
  go_enter Tryd.func7, Tryd.ntmps7
  go_wp2_with fail
  go_cut [7, 8] (fun s7 s8 wx => ∃ p q : Nat, s7 = .pointer (some ⟨p, 0, none⟩) ∧ s8 = .pointer (some ⟨q, 0, none⟩) ∧ Hid (Pair wx p n d) ∧ Hid (Pair wx q m c) ∧ Hid (Below w.heap.size w wx))
  case first =>
    go_region
    · go_wp2_with fail
      go_meet
      case rel =>
        refine ⟨_, _, rfl, rfl, Lib.hid ?_, Lib.hid ?_, Lib.hid ?_⟩
        · exact (((Pair.made (w.alloc (.cells #[.int .i64 n, .int .i64 d, .int .i64 m, .int .i64 c] 42)) n d 37).alloc _).kept ((Below.refl _ _).drew)).cast_block (by simp)
        · exact ((Pair.made ((w.alloc (.cells #[.int .i64 n, .int .i64 d, .int .i64 m, .int .i64 c] 42)).alloc (.cells #[.int .i64 n, .int .i64 d] 37)) m c 37).kept ((Below.refl _ _).drew)).cast_block (by simp)
        · exact (past_three (Below.refl _ _)).drew
    · go_wp2_with fail
      go_meet
      case rel =>
        refine ⟨_, _, rfl, rfl, Lib.hid ?_, Lib.hid ?_, Lib.hid ?_⟩
        · exact ((Pair.made ((w.alloc (.cells #[.int .i64 n, .int .i64 d, .int .i64 m, .int .i64 c] 42)).alloc (.cells #[.int .i64 m, .int .i64 c] 37)) n d 37).kept ((Below.refl _ _).drew)).cast_block (by simp)
        · exact (((Pair.made (w.alloc (.cells #[.int .i64 n, .int .i64 d, .int .i64 m, .int .i64 c] 42)) m c 37).alloc _).kept ((Below.refl _ _).drew)).cast_block (by simp)
        · exact (past_three (Below.refl _ _)).drew
  case rest =>
  obtain ⟨p, q, rfl, rfl, hA, hC, hB0⟩ := hcut
  have pA := hA.out
  have pC := hC.out
  have hB := hB0.out
  clear hA hC hB0
  obtain ⟨fA0, fA1, fA2, fA3⟩ := pA.facts
  obtain ⟨fC0, fC1, fC2, fC3⟩ := pC.facts
  have gA := pA.lt
  have gC := pC.lt
  go_wp2_with fail
  refine (V0.out _).mono ?_
  rintro e x24 ⟨rfl, hb⟩
  clear fA0 fA1 fA2 fA3 fC0 fC1 fC2 fC3 gA gC
  replace pA := pA.kept hb
  replace pC := pC.kept hb
  replace hB := below_on hB hb
  clear hb
  obtain ⟨fA0, fA1, fA2, fA3⟩ := pA.facts
  obtain ⟨fC0, fC1, fC2, fC3⟩ := pC.facts
  have gA := pA.lt
  have gC := pC.lt
  go_wp2_with fail
  refine (V1.out _).mono ?_
  rintro e x25 ⟨rfl, hb⟩
  clear fA0 fA1 fA2 fA3 fC0 fC1 fC2 fC3 gA gC
  replace pA := pA.kept hb
  replace pC := pC.kept hb
  replace hB := below_on hB hb
  clear hb
  obtain ⟨fA0, fA1, fA2, fA3⟩ := pA.facts
  obtain ⟨fC0, fC1, fC2, fC3⟩ := pC.facts
  have gA := pA.lt
  have gC := pC.lt
  go_wp2_with fail
  refine (V2.out _).mono ?_
  rintro e w' ⟨rfl, rfl⟩
  go_wp2_with fail
  refine (V3.out _).mono ?_
  rintro e w' ⟨rfl, rfl⟩
  go_wp2_with fail
  refine (M0.out _).mono ?_
  rintro e x26 ⟨rfl, hb⟩
  clear fA0 fA1 fA2 fA3 fC0 fC1 fC2 fC3 gA gC
  replace pA := pA.kept hb
  replace pC := pC.kept hb
  replace hB := below_on hB hb
  clear hb
  obtain ⟨fA0, fA1, fA2, fA3⟩ := pA.facts
  obtain ⟨fC0, fC1, fC2, fC3⟩ := pC.facts
  have gA := pA.lt
  have gC := pC.lt
  go_wp2_with fail
  refine (M1.out _).mono ?_
  rintro e x27 ⟨rfl, hb⟩
  clear fA0 fA1 fA2 fA3 fC0 fC1 fC2 fC3 gA gC
  replace pA := pA.kept hb
  replace pC := pC.kept hb
  replace hB := below_on hB hb
  clear hb
  obtain ⟨fA0, fA1, fA2, fA3⟩ := pA.facts
  obtain ⟨fC0, fC1, fC2, fC3⟩ := pC.facts
  have gA := pA.lt
  have gC := pC.lt
  go_wp2_with fail
  refine (AD.out _).mono ?_
  rintro e y1 ⟨rfl, hb⟩
  clear fA0 fA1 fA2 fA3 fC0 fC1 fC2 fC3 gA gC
  replace pA := pA.kept hb
  replace pC := pC.kept hb
  replace hB := below_on hB hb
  clear hb
  obtain ⟨fA0, fA1, fA2, fA3⟩ := pA.facts
  obtain ⟨fC0, fC1, fC2, fC3⟩ := pC.facts
  have gA := pA.lt
  have gC := pC.lt
  go_wp2_with fail
  refine (LA.out _).mono ?_
  rintro e w' ⟨rfl, rfl⟩
  go_wp2_with fail
  refine (shown_any _ (HF.out.on (hB.trans ((one_more _).mono hB.size)))).mono ?_
  rintro e y2 ⟨rfl, hb⟩
  clear fA0 fA1 fA2 fA3 fC0 fC1 fC2 fC3 gA gC
  replace hB := on_box hB hb
  clear hb pA pC
  go_wp2_with fail
  go_ret
  exact ⟨rfl, hB⟩

set_option maxRecDepth 100000 in
set_option maxHeartbeats 800000 in
theorem arm_n_ok {n d m c a b P Q C : Int} (w : World) (HF : Hid (Fit w)) (a0 : (a == 1099511627776) = true)
    (V0 : Hid (∀ W, Calls Tryd.prog 25 #[.agg #[.int .i64 n, .int .i64 d]] W (Made (.bool true) W))) (V1 : Hid (∀ W, Calls Tryd.prog 25 #[.agg #[.int .i64 m, .int .i64 c]] W (Made (.bool true) W))) (V2 : Hid (∀ W, Calls Tryd.prog 17 #[.int .i64 a] W (Still (.bool true) W))) (V3 : Hid (∀ W, Calls Tryd.prog 17 #[.int .i64 b] W (Still (.bool true) W)))
    (M0 : Hid (∀ W, Calls Tryd.prog 23 #[.agg #[.int .i64 n, .int .i64 d], .int .i64 a] W (Made (.tuple #[.bool true, .int .i64 0]) W))) (M1 : Hid (∀ W, Calls Tryd.prog 23 #[.agg #[.int .i64 m, .int .i64 c], .int .i64 b] W (Made (.tuple #[.bool true, .int .i64 0]) W)))
    (AD : Hid (∀ W, Calls Tryd.prog 26 #[.agg #[.int .i64 n, .int .i64 d], .agg #[.int .i64 m, .int .i64 c]] W (Made (.tuple #[.agg #[.int .i64 P, .int .i64 Q], .int .i64 0]) W))) (LA : Hid (∀ W, Calls Tryd.prog 19 #[.int .i64 a, .int .i64 b] W (Still (.tuple #[.int .i64 C, .int .i64 0]) W)))
    (MS : Hid (∀ W, Calls Tryd.prog 23 #[.agg #[.int .i64 P, .int .i64 Q], .int .i64 C] W (Made (.tuple #[.bool true, .int .i64 0]) W))) : Calls Tryd.prog 7 #[.agg #[.int .i64 n, .int .i64 d, .int .i64 m, .int .i64 c], .int .i64 a, .int .i64 b] w (Made (.bool true) w) := by
  go_enter Tryd.func7, Tryd.ntmps7
  go_wp2_with fail
  go_cut [7, 8] (fun s7 s8 wx => ∃ p q : Nat, s7 = .pointer (some ⟨p, 0, none⟩) ∧ s8 = .pointer (some ⟨q, 0, none⟩) ∧ Hid (Pair wx p n d) ∧ Hid (Pair wx q m c) ∧ Hid (Below w.heap.size w wx))
  case first =>
    go_region
    · go_wp2_with fail
      go_meet
      case rel =>
        refine ⟨_, _, rfl, rfl, Lib.hid ?_, Lib.hid ?_, Lib.hid ?_⟩
        · exact (((Pair.made (w.alloc (.cells #[.int .i64 n, .int .i64 d, .int .i64 m, .int .i64 c] 42)) n d 37).alloc _).kept ((Below.refl _ _).drew)).cast_block (by simp)
        · exact ((Pair.made ((w.alloc (.cells #[.int .i64 n, .int .i64 d, .int .i64 m, .int .i64 c] 42)).alloc (.cells #[.int .i64 n, .int .i64 d] 37)) m c 37).kept ((Below.refl _ _).drew)).cast_block (by simp)
        · exact (past_three (Below.refl _ _)).drew
    · go_wp2_with fail
      go_meet
      case rel =>
        refine ⟨_, _, rfl, rfl, Lib.hid ?_, Lib.hid ?_, Lib.hid ?_⟩
        · exact ((Pair.made ((w.alloc (.cells #[.int .i64 n, .int .i64 d, .int .i64 m, .int .i64 c] 42)).alloc (.cells #[.int .i64 m, .int .i64 c] 37)) n d 37).kept ((Below.refl _ _).drew)).cast_block (by simp)
        · exact (((Pair.made (w.alloc (.cells #[.int .i64 n, .int .i64 d, .int .i64 m, .int .i64 c] 42)) m c 37).alloc _).kept ((Below.refl _ _).drew)).cast_block (by simp)
        · exact (past_three (Below.refl _ _)).drew
  case rest =>
  obtain ⟨p, q, rfl, rfl, hA, hC, hB0⟩ := hcut
  have pA := hA.out
  have pC := hC.out
  have hB := hB0.out
  clear hA hC hB0
  obtain ⟨fA0, fA1, fA2, fA3⟩ := pA.facts
  obtain ⟨fC0, fC1, fC2, fC3⟩ := pC.facts
  have gA := pA.lt
  have gC := pC.lt
  go_wp2_with fail
  refine (V0.out _).mono ?_
  rintro e x28 ⟨rfl, hb⟩
  clear fA0 fA1 fA2 fA3 fC0 fC1 fC2 fC3 gA gC
  replace pA := pA.kept hb
  replace pC := pC.kept hb
  replace hB := below_on hB hb
  clear hb
  obtain ⟨fA0, fA1, fA2, fA3⟩ := pA.facts
  obtain ⟨fC0, fC1, fC2, fC3⟩ := pC.facts
  have gA := pA.lt
  have gC := pC.lt
  go_wp2_with fail
  refine (V1.out _).mono ?_
  rintro e x29 ⟨rfl, hb⟩
  clear fA0 fA1 fA2 fA3 fC0 fC1 fC2 fC3 gA gC
  replace pA := pA.kept hb
  replace pC := pC.kept hb
  replace hB := below_on hB hb
  clear hb
  obtain ⟨fA0, fA1, fA2, fA3⟩ := pA.facts
  obtain ⟨fC0, fC1, fC2, fC3⟩ := pC.facts
  have gA := pA.lt
  have gC := pC.lt
  go_wp2_with fail
  refine (V2.out _).mono ?_
  rintro e w' ⟨rfl, rfl⟩
  go_wp2_with fail
  refine (V3.out _).mono ?_
  rintro e w' ⟨rfl, rfl⟩
  go_wp2_with fail
  refine (M0.out _).mono ?_
  rintro e x30 ⟨rfl, hb⟩
  clear fA0 fA1 fA2 fA3 fC0 fC1 fC2 fC3 gA gC
  replace pA := pA.kept hb
  replace pC := pC.kept hb
  replace hB := below_on hB hb
  clear hb
  obtain ⟨fA0, fA1, fA2, fA3⟩ := pA.facts
  obtain ⟨fC0, fC1, fC2, fC3⟩ := pC.facts
  have gA := pA.lt
  have gC := pC.lt
  go_wp2_with fail
  refine (M1.out _).mono ?_
  rintro e x31 ⟨rfl, hb⟩
  clear fA0 fA1 fA2 fA3 fC0 fC1 fC2 fC3 gA gC
  replace pA := pA.kept hb
  replace pC := pC.kept hb
  replace hB := below_on hB hb
  clear hb
  obtain ⟨fA0, fA1, fA2, fA3⟩ := pA.facts
  obtain ⟨fC0, fC1, fC2, fC3⟩ := pC.facts
  have gA := pA.lt
  have gC := pC.lt
  go_wp2_with fail
  refine (AD.out _).mono ?_
  rintro e y1 ⟨rfl, hb⟩
  clear fA0 fA1 fA2 fA3 fC0 fC1 fC2 fC3 gA gC
  replace pA := pA.kept hb
  replace pC := pC.kept hb
  replace hB := below_on hB hb
  clear hb
  obtain ⟨fA0, fA1, fA2, fA3⟩ := pA.facts
  obtain ⟨fC0, fC1, fC2, fC3⟩ := pC.facts
  have gA := pA.lt
  have gC := pC.lt
  go_wp2_with fail
  refine (LA.out _).mono ?_
  rintro e w' ⟨rfl, rfl⟩
  go_wp2_with fail
  refine (MS.out _).mono ?_
  rintro e y2 ⟨rfl, hb⟩
  clear fA0 fA1 fA2 fA3 fC0 fC1 fC2 fC3 gA gC
  replace hB := on_box hB hb
  clear hb pA pC
  go_wp2_with fail
  refine (shown_any _ (HF.out.on hB)).mono ?_
  rintro e x32 ⟨rfl, hb⟩
  replace hB := below_on hB hb
  clear hb
  go_wp2_with fail
  go_ret
  exact ⟨rfl, hB⟩
end Go.Proofs.YtbcafamgmdngpaaDoor.LiPoints
