/- Contracts of Of, Neg, Floor, Ceil, Cmp of package ratio and of the reference, and of the reference's Sub. -/
import Derived.Test.YtnbkphklidjmhaaDoorC
namespace Go.Proofs.YtnbkphklidjmhaaDoor
open Go.RowKit

theorem ret_two {k1 k2 : IntKind} {a b c d : Int} (h : a = b) (g : c = d) : Ending.returned (.tuple #[.int k1 a, .int k2 c]) = .returned (.tuple #[.int k1 b, .int k2 d]) := by rw [h, g]

set_option maxHeartbeats 400000 in
theorem of_any (n : Int) (w : World) (hn : I64 n) :
    Calls Tryd.prog 11 #[.int .i64 n] w (Made (.tuple #[.agg #[.int .i64 (mkNum n 1), .int .i64 (mkDen n 1)], .int .i64 (mkErr n 1)]) w) := by
  have a1 := hn.1
  have a2 := hn.2
  go_enter Tryd.func11, Tryd.ntmps11
  go_wp2_with fail
  refine (make_any _ _ _ (by omega) (by omega) (by omega) (by omega)).mono ?_
  rintro e w1 ⟨rfl, hb⟩
  obtain ⟨hx, hf⟩ := bcell hb
  go_wp2_with fail
  refine bodyPost_ret (v := .tuple #[.agg #[.int .i64 (mkNum n 1), .int .i64 (mkDen n 1)], .int .i64 (mkErr n 1)]) (by simp [results, Tryd.results11, go_sem, hx]) rfl ⟨rfl, ?_⟩
  exact ((past_one hb).setCell (by simp) _).setCell (by simp) _

set_option maxHeartbeats 400000 in
theorem refOf_any (n : Int) (w : World) (hn : I64 n) :
    Calls Tryd.prog 12 #[.int .i64 n] w (Made (.tuple #[.agg #[.int .i64 (mkNum n 1), .int .i64 (mkDen n 1)], .int .i64 (mkErr n 1)]) w) := by
  have a1 := hn.1
  have a2 := hn.2
  go_enter Tryd.func12, Tryd.ntmps12
  go_wp2_with fail
  refine (refMake_any _ _ _ (by omega) (by omega) (by omega) (by omega)).mono ?_
  rintro e w1 ⟨rfl, hb⟩
  obtain ⟨hx, hf⟩ := bcell hb
  go_wp2_with fail
  refine bodyPost_ret (v := .tuple #[.agg #[.int .i64 (mkNum n 1), .int .i64 (mkDen n 1)], .int .i64 (mkErr n 1)]) (by simp [results, Tryd.results12, go_sem, hx]) rfl ⟨rfl, ?_⟩
  exact ((past_one hb).setCell (by simp) _).setCell (by simp) _

theorem past_two {w w1 : World} {o1 o2 : Obj} (hb : Below ((w.alloc o1).alloc o2).heap.size ((w.alloc o1).alloc o2) w1) : Below w.heap.size w w1 :=
  past_one (past_one hb)

set_option maxHeartbeats 400000 in
theorem neg_any (n d : Int) (w : World) (hn : I64 n) (hd : I64 d) :
    Calls Tryd.prog 19 #[.agg #[.int .i64 n, .int .i64 d]] w (Made (.tuple #[.agg #[.int .i64 (if vldB n d then -n else 0), .int .i64 (if vldB n d then d else 0)], .int .i64 (if vldB n d then 0 else 2)]) w) := by
  cases v1 : vldB n d
  · have V1 := Lib.hid v1
    clear v1
    go_enter Tryd.func19, Tryd.ntmps19
    go_wp2_with fail
    refine (valid_as _ hn hd V1.out).mono ?_
    rintro e w1 ⟨rfl, hb⟩
    obtain ⟨hx, hf⟩ := bcell hb
    go_wp2_with fail
    refine bodyPost_ret (v := .tuple #[.agg #[.int .i64 0, .int .i64 0], .int .i64 2]) (by simp [results, Tryd.results19, go_sem, hx]) rfl ⟨rfl, ?_⟩
    exact ((past_two hb).setCell (by simp) _).setCell (by simp) _
  · have V1 := Lib.hid v1
    obtain ⟨x1, x2, x3, x4⟩ := vld_bd v1
    clear v1
    go_enter Tryd.func19, Tryd.ntmps19
    go_wp2_with fail
    refine (valid_as _ hn hd V1.out).mono ?_
    rintro e w1 ⟨rfl, hb⟩
    obtain ⟨hx, hf⟩ := bcell hb
    go_wp2_with fail
    refine bodyPost_ret (v := .tuple #[.agg #[.int .i64 (-n), .int .i64 d], .int .i64 0]) (by simp [results, Tryd.results19, go_sem, hx]) rfl ⟨rfl, ?_⟩
    exact ((past_two hb).setCell (by simp) _).setCell (by simp) _

set_option maxHeartbeats 400000 in
theorem refNeg_any (n d : Int) (w : World) (hn : I64 n) (hd : I64 d) :
    Calls Tryd.prog 20 #[.agg #[.int .i64 n, .int .i64 d]] w (Made (.tuple #[.agg #[.int .i64 (if vldB n d then -n else 0), .int .i64 (if vldB n d then d else 0)], .int .i64 (if vldB n d then 0 else 2)]) w) := by
  cases v1 : vldB n d
  · have V1 := Lib.hid v1
    clear v1
    go_enter Tryd.func20, Tryd.ntmps20
    go_wp2_with fail
    refine (refValid_as _ hn hd V1.out).mono ?_
    rintro e w1 ⟨rfl, hb⟩
    obtain ⟨hx, hf⟩ := bcell hb
    go_wp2_with fail
    refine bodyPost_ret (v := .tuple #[.agg #[.int .i64 0, .int .i64 0], .int .i64 2]) (by simp [results, Tryd.results20, go_sem, hx]) rfl ⟨rfl, ?_⟩
    exact ((past_two hb).setCell (by simp) _).setCell (by simp) _
  · have V1 := Lib.hid v1
    obtain ⟨x1, x2, x3, x4⟩ := vld_bd v1
    clear v1
    go_enter Tryd.func20, Tryd.ntmps20
    go_wp2_with fail
    refine (refValid_as _ hn hd V1.out).mono ?_
    rintro e w1 ⟨rfl, hb⟩
    obtain ⟨hx, hf⟩ := bcell hb
    go_wp2_with fail
    refine bodyPost_ret (v := .tuple #[.agg #[.int .i64 (-n), .int .i64 d], .int .i64 0]) (by simp [results, Tryd.results20, go_sem, hx]) rfl ⟨rfl, ?_⟩
    exact ((past_two hb).setCell (by simp) _).setCell (by simp) _

/-- Go's quotient and rest, and the quotient rounded down. -/
theorem fdiv_of (n d : Int) (hd : 1 ≤ d) : n / d = if n.tmod d < 0 then n.tdiv d - 1 else n.tdiv d := by
  have hd0 : 0 < d := by omega
  by_cases h : 0 ≤ n
  · rw [Int.tmod_eq_emod_of_nonneg h, Int.tdiv_eq_ediv_of_nonneg h, if_neg (by have := Int.emod_nonneg n (show d ≠ 0 by omega); omega)]
  · have h1 := Int.tmod_add_tdiv_mul n d
    have h2 : -d < n.tmod d := by have := Int.lt_tmod_of_pos n hd0; omega
    have h3 : n.tmod d ≤ 0 := by
      have e : n.tmod d = -((-n).tmod d) := by rw [Int.neg_tmod]; omega
      rw [e, Int.tmod_eq_emod_of_nonneg (show 0 ≤ -n by omega)]
      have := Int.emod_nonneg (-n) (show d ≠ 0 by omega)
      omega
    generalize hr : n.tmod d = r at *
    generalize hq : n.tdiv d = q at *
    split
    · rename_i h4
      have e : n = (r + d) + (q - 1) * d := by rw [Int.sub_mul]; omega
      rw [e, Int.add_mul_ediv_right _ _ (by omega), Int.ediv_eq_zero_of_lt (by omega) (by omega)]; omega
    · have e : n = 0 + q * d := by omega
      rw [e, Int.add_mul_ediv_right _ _ (by omega)]; simp

theorem tdiv_bd (n d : Int) (h1 : -4611686018427387904 ≤ n) (h2 : n ≤ 4611686018427387904) : -4611686018427387904 ≤ n.tdiv d ∧ n.tdiv d ≤ 4611686018427387904 := by
  have := Int.natAbs_tdiv_le_natAbs n d
  omega
theorem fl_bd (n d : Int) (hd : 1 ≤ d) (h1 : -2147483648 ≤ n) (h2 : n ≤ 2147483648) : -2147483648 ≤ n / d ∧ n / d ≤ 2147483648 := by
  constructor
  · rw [Int.le_ediv_iff_mul_le (by omega)]
    have : (-2147483648 : Int) * d ≤ -2147483648 * 1 := by omega
    omega
  · apply Int.ediv_le_of_le_mul (by omega)
    have : (2147483648 : Int) * 1 ≤ 2147483648 * d := by omega
    omega

set_option maxHeartbeats 400000 in
theorem rounded_any (n d : Int) (w : World) (h1 : -4611686018427387904 ≤ n) (h2 : n ≤ 4611686018427387904) (hd : 1 ≤ d) (hd2 : d ≤ 9223372036854775807) :
    Calls Tryd.prog 43 #[.int .i64 n, .int .i64 d] w fun e w' => e = .returned (.int .i64 (n / d)) ∧ w = w' := by
  have hz : (d == 0) = false := by simp; omega
  by_cases hn : 0 ≤ n
  · have hm := Int.emod_nonneg n (show d ≠ 0 by omega)
    go_enter Tryd.func43, Tryd.ntmps43
    go_wp2
    go_ret
    exact ⟨rfl, rfl⟩
  · have tb := tdiv_bd n d h1 (by omega)
    by_cases hr : n.tmod d < 0
    · have H := Lib.hid (show n.tdiv d - 1 = n / d by rw [fdiv_of n d hd, if_pos hr])
      go_enter Tryd.func43, Tryd.ntmps43
      go_wp2
      go_ret
      exact ⟨ret_int H.out, rfl⟩
    · have H := Lib.hid (show n.tdiv d = n / d by rw [fdiv_of n d hd, if_neg hr])
      go_enter Tryd.func43, Tryd.ntmps43
      go_wp2
      go_ret
      exact ⟨ret_int H.out, rfl⟩

set_option maxHeartbeats 400000 in
theorem floor_any (n d : Int) (w : World) (h1 : -4611686018427387904 ≤ n) (h2 : n ≤ 4611686018427387904) (hd : 1 ≤ d) (hd2 : d ≤ 9223372036854775807) :
    Calls Tryd.prog 44 #[.int .i64 n, .int .i64 d] w fun e w' => e = .returned (.int .i64 (n / d)) ∧ w = w' := by
  have hz : (d == 0) = false := by simp; omega
  by_cases hn : 0 ≤ n
  · have hm := Int.emod_nonneg n (show d ≠ 0 by omega)
    go_enter Tryd.func44, Tryd.ntmps44
    go_wp2
    go_ret
    exact ⟨rfl, rfl⟩
  · have tb := tdiv_bd n d h1 (by omega)
    by_cases hr : n.tmod d < 0
    · have H := Lib.hid (show n.tdiv d - 1 = n / d by rw [fdiv_of n d hd, if_pos hr])
      go_enter Tryd.func44, Tryd.ntmps44
      go_wp2
      go_ret
      exact ⟨ret_int H.out, rfl⟩
    · have H := Lib.hid (show n.tdiv d = n / d by rw [fdiv_of n d hd, if_neg hr])
      go_enter Tryd.func44, Tryd.ntmps44
      go_wp2
      go_ret
      exact ⟨ret_int H.out, rfl⟩

set_option maxHeartbeats 400000 in
theorem ratioFloor_any (n d : Int) (w : World) (hn : I64 n) (hd : I64 d) :
    Calls Tryd.prog 15 #[.agg #[.int .i64 n, .int .i64 d]] w (Made (.tuple #[.int .i64 (if vldB n d then n / d else 0), .int .i64 (if vldB n d then 0 else 2)]) w) := by
  cases v1 : vldB n d
  · have V1 := Lib.hid v1
    clear v1
    go_enter Tryd.func15, Tryd.ntmps15
    go_wp2_with fail
    refine (valid_as _ hn hd V1.out).mono ?_
    rintro e w1 ⟨rfl, hb⟩
    go_wp2_with fail
    go_ret2
    exact ⟨rfl, past_one hb⟩
  · have V1 := Lib.hid v1
    obtain ⟨x1, x2, x3, x4⟩ := vld_bd v1
    clear v1
    have fb := fl_bd n d x1 (by omega) (by omega)
    go_enter Tryd.func15, Tryd.ntmps15
    go_wp2_with fail
    refine (valid_as _ hn hd V1.out).mono ?_
    rintro e w1 ⟨rfl, hb⟩
    obtain ⟨hx, hf⟩ := bcell hb
    go_wp2_with fail
    refine (rounded_any _ _ _ (by omega) (by omega) (by omega) (by omega)).mono ?_
    rintro e w2 ⟨rfl, rfl⟩
    go_wp2_with fail
    go_ret2
    exact ⟨rfl, past_one hb⟩

set_option maxHeartbeats 400000 in
theorem refFloor_any (n d : Int) (w : World) (hn : I64 n) (hd : I64 d) :
    Calls Tryd.prog 16 #[.agg #[.int .i64 n, .int .i64 d]] w (Made (.tuple #[.int .i64 (if vldB n d then n / d else 0), .int .i64 (if vldB n d then 0 else 2)]) w) := by
  cases v1 : vldB n d
  · have V1 := Lib.hid v1
    clear v1
    go_enter Tryd.func16, Tryd.ntmps16
    go_wp2_with fail
    refine (refValid_as _ hn hd V1.out).mono ?_
    rintro e w1 ⟨rfl, hb⟩
    go_wp2_with fail
    go_ret2
    exact ⟨rfl, past_one hb⟩
  · have V1 := Lib.hid v1
    obtain ⟨x1, x2, x3, x4⟩ := vld_bd v1
    clear v1
    have fb := fl_bd n d x1 (by omega) (by omega)
    go_enter Tryd.func16, Tryd.ntmps16
    go_wp2_with fail
    refine (refValid_as _ hn hd V1.out).mono ?_
    rintro e w1 ⟨rfl, hb⟩
    obtain ⟨hx, hf⟩ := bcell hb
    go_wp2_with fail
    refine (floor_any _ _ _ (by omega) (by omega) (by omega) (by omega)).mono ?_
    rintro e w2 ⟨rfl, rfl⟩
    go_wp2_with fail
    go_ret2
    exact ⟨rfl, past_one hb⟩

set_option maxHeartbeats 400000 in
theorem ratioCeil_any (n d : Int) (w : World) (hn : I64 n) (hd : I64 d) :
    Calls Tryd.prog 17 #[.agg #[.int .i64 n, .int .i64 d]] w (Made (.tuple #[.int .i64 (if vldB n d then -(-n / d) else 0), .int .i64 (if vldB n d then 0 else 2)]) w) := by
  cases v1 : vldB n d
  · have V1 := Lib.hid v1
    clear v1
    go_enter Tryd.func17, Tryd.ntmps17
    go_wp2_with fail
    refine (valid_as _ hn hd V1.out).mono ?_
    rintro e w1 ⟨rfl, hb⟩
    go_wp2_with fail
    go_ret2
    exact ⟨rfl, past_one hb⟩
  · have V1 := Lib.hid v1
    obtain ⟨x1, x2, x3, x4⟩ := vld_bd v1
    clear v1
    have fb := fl_bd (-n) d x1 (by omega) (by omega)
    go_enter Tryd.func17, Tryd.ntmps17
    go_wp2_with fail
    refine (valid_as _ hn hd V1.out).mono ?_
    rintro e w1 ⟨rfl, hb⟩
    obtain ⟨hx, hf⟩ := bcell hb
    go_wp2_with fail
    refine (rounded_any _ _ _ (by omega) (by omega) (by omega) (by omega)).mono ?_
    rintro e w2 ⟨rfl, rfl⟩
    go_wp2_with fail
    go_ret2
    exact ⟨rfl, past_one hb⟩

set_option maxHeartbeats 400000 in
theorem refCeil_any (n d : Int) (w : World) (hn : I64 n) (hd : I64 d) :
    Calls Tryd.prog 18 #[.agg #[.int .i64 n, .int .i64 d]] w (Made (.tuple #[.int .i64 (if vldB n d then -(-n / d) else 0), .int .i64 (if vldB n d then 0 else 2)]) w) := by
  cases v1 : vldB n d
  · have V1 := Lib.hid v1
    clear v1
    go_enter Tryd.func18, Tryd.ntmps18
    go_wp2_with fail
    refine (refValid_as _ hn hd V1.out).mono ?_
    rintro e w1 ⟨rfl, hb⟩
    go_wp2_with fail
    go_ret2
    exact ⟨rfl, past_one hb⟩
  · have V1 := Lib.hid v1
    obtain ⟨x1, x2, x3, x4⟩ := vld_bd v1
    clear v1
    have fb := fl_bd (-n) d x1 (by omega) (by omega)
    go_enter Tryd.func18, Tryd.ntmps18
    go_wp2_with fail
    refine (refValid_as _ hn hd V1.out).mono ?_
    rintro e w1 ⟨rfl, hb⟩
    obtain ⟨hx, hf⟩ := bcell hb
    go_wp2_with fail
    refine (floor_any _ _ _ (by omega) (by omega) (by omega) (by omega)).mono ?_
    rintro e w2 ⟨rfl, rfl⟩
    go_wp2_with fail
    go_ret2
    exact ⟨rfl, past_one hb⟩

def sgn (x y : Int) : Int := if x < y then -1 else if y < x then 1 else 0

set_option maxHeartbeats 400000 in
theorem compare_any (x y : Int) (w : World) (hx : I64 x) (hy : I64 y) :
    Calls Tryd.prog 45 #[.int .i64 x, .int .i64 y] w fun e w' => e = .returned (.int .i64 (sgn x y)) ∧ w = w' := by
  have a1 := hx.1
  have a2 := hx.2
  have b1 := hy.1
  have b2 := hy.2
  by_cases h1 : x < y
  · have H := Lib.hid (show sgn x y = -1 by unfold sgn; rw [if_pos h1])
    go_enter Tryd.func45, Tryd.ntmps45
    go_wp2
    go_ret
    exact ⟨ret_int H.out.symm, rfl⟩
  by_cases h2 : y < x
  · have H := Lib.hid (show sgn x y = 1 by unfold sgn; rw [if_neg h1, if_pos h2])
    go_enter Tryd.func45, Tryd.ntmps45
    go_wp2
    go_ret
    exact ⟨ret_int H.out.symm, rfl⟩
  have H := Lib.hid (show sgn x y = 0 by unfold sgn; rw [if_neg h1, if_neg h2])
  go_enter Tryd.func45, Tryd.ntmps45
  go_wp2
  go_ret
  exact ⟨ret_int H.out.symm, rfl⟩

end Go.Proofs.YtnbkphklidjmhaaDoor
