/- Contracts of Of, Neg, Floor, Ceil, Cmp of package ratio and of the reference, and of the reference's Sub. -/
import Derived.Test.YtbhaoaobhgilkaaGreatVi18

namespace Go.Proofs.YtbhaoaobhgilkaaGreat
open Go.RowKit

/-- Go's quotient and rest, and the quotient rounded down. -/
theorem fdiv_of (n d : Int) (hd : 1 ≤ d) : n / d = if n.tmod d < 0 then n.tdiv d - 1 else n.tdiv d := by
  have hd0 : 0 < d := by omega
  by_cases h : 0 ≤ n
  · rw [Int.tmod_eq_emod_of_nonneg h, Int.tdiv_eq_ediv_of_nonneg h, if_neg (by have := Int.emod_nonneg n (show d ≠ 0 by omega); omega)]
  · have h1 := Int.tmod_add_tdiv_mul n d
    have h2 : -d < n.tmod d := by have := Int.lt_tmod_of_pos n hd0; omega
    have h3 : n.tmod d ≤ 0 := by
      have e : n.tmod d = -((-n).tmod d) := by rw [Int.neg_tmod]; omega
      rw [e, Int.tmod_eq_emod_of_nonneg (show 0 ≤ -n by omega)]
      have := Int.emod_nonneg (-n) (show d ≠ 0 by omega)
      omega
    generalize hr : n.tmod d = r at *
    generalize hq : n.tdiv d = q at *
    split
    · rename_i h4
      have e : n = (r + d) + (q - 1) * d := by rw [Int.sub_mul]; omega
      rw [e, Int.add_mul_ediv_right _ _ (by omega), Int.ediv_eq_zero_of_lt (by omega) (by omega)]; omega
    · have e : n = 0 + q * d := by omega
      rw [e, Int.add_mul_ediv_right _ _ (by omega)]; simp

theorem tdiv_bd (n d : Int) (h1 : -4611686018427387904 ≤ n) (h2 : n ≤ 4611686018427387904) : -4611686018427387904 ≤ n.tdiv d ∧ n.tdiv d ≤ 4611686018427387904 := by
  have := Int.natAbs_tdiv_le_natAbs n d
  omega

set_option maxHeartbeats 400000 in
theorem rounded_any (n d : Int) (w : World) (h1 : -4611686018427387904 ≤ n) (h2 : n ≤ 4611686018427387904) (hd : 1 ≤ d) (hd2 : d ≤ 9223372036854775807) :
    Calls Tryz.prog 166 #[.int .i64 n, .int .i64 d] w fun e w' => e = .returned (.int .i64 (n / d)) ∧ w = w' := by
  have hz : (d == 0) = false := by simp; omega
  by_cases hn : 0 ≤ n
  · have hm := Int.emod_nonneg n (show d ≠ 0 by omega)
    go_enter Tryz.func166, Tryz.ntmps166
    go_wp2
    go_ret
    exact ⟨rfl, rfl⟩
  · have tb := tdiv_bd n d h1 (by omega)
    by_cases hr : n.tmod d < 0
    · have H := Lib.hid (show n.tdiv d - 1 = n / d by rw [fdiv_of n d hd, if_pos hr])
      go_enter Tryz.func166, Tryz.ntmps166
      go_wp2
      go_ret
      exact ⟨ret_int H.out, rfl⟩
    · have H := Lib.hid (show n.tdiv d = n / d by rw [fdiv_of n d hd, if_neg hr])
      go_enter Tryz.func166, Tryz.ntmps166
      go_wp2
      go_ret
      exact ⟨ret_int H.out, rfl⟩

def sgn (x y : Int) : Int := if x < y then -1 else if y < x then 1 else 0

set_option maxHeartbeats 400000 in
theorem compare_any (x y : Int) (w : World) (hx : I64 x) (hy : I64 y) :
    Calls Tryz.prog 128 #[.int .i64 x, .int .i64 y] w fun e w' => e = .returned (.int .i64 (sgn x y)) ∧ w = w' := by
  have a1 := hx.1
  have a2 := hx.2
  have b1 := hy.1
  have b2 := hy.2
  by_cases h1 : x < y
  · have H := Lib.hid (show sgn x y = -1 by unfold sgn; rw [if_pos h1])
    go_enter Tryz.func128, Tryz.ntmps128
    go_wp2
    go_ret
    exact ⟨ret_int H.out.symm, rfl⟩
  by_cases h2 : y < x
  · have H := Lib.hid (show sgn x y = 1 by unfold sgn; rw [if_neg h1, if_pos h2])
    go_enter Tryz.func128, Tryz.ntmps128
    go_wp2
    go_ret
    exact ⟨ret_int H.out.symm, rfl⟩
  have H := Lib.hid (show sgn x y = 0 by unfold sgn; rw [if_neg h1, if_neg h2])
  go_enter Tryz.func128, Tryz.ntmps128
  go_wp2
  go_ret
  exact ⟨ret_int H.out.symm, rfl⟩

set_option maxHeartbeats 400000 in
theorem cmp_any (n d m c : Int) (w : World) (hn : I64 n) (hd : I64 d) (hm : I64 m) (hc : I64 c) :
    Calls Tryz.prog 135 #[.agg #[.int .i64 n, .int .i64 d], .agg #[.int .i64 m, .int .i64 c]] w
      (Made (.tuple #[.int .i64 (if (vldB n d && vldB m c) then sgn (n * c) (m * d) else 0), .int .i64 (if (vldB n d && vldB m c) then 0 else 2)]) w) := by
  cases v1 : vldB n d
  · have V1 := Lib.hid v1
    clear v1
    go_enter Tryz.func135, Tryz.ntmps135
    go_wp2_with fail
    refine (valid_as _ hn hd V1.out).mono ?_
    rintro e w1 ⟨rfl, hb⟩
    obtain ⟨hx, hf⟩ := bcell hb
    go_wp2_with fail
    go_ret2
    exact ⟨rfl, past_two hb⟩
  · cases v2 : vldB m c
    · have V1 := Lib.hid v1
      have V2 := Lib.hid v2
      clear v1 v2
      go_enter Tryz.func135, Tryz.ntmps135
      go_wp2_with fail
      refine (valid_as _ hn hd V1.out).mono ?_
      rintro e w1 ⟨rfl, hb⟩
      obtain ⟨hx, hf⟩ := bcell hb
      go_wp2_with fail
      refine (valid_as _ hm hc V2.out).mono ?_
      rintro e w2 ⟨rfl, hb2⟩
      replace hb2 := below_on hb hb2
      clear hb hx hf
      obtain ⟨hx, hf⟩ := bcell hb2
      go_wp2_with fail
      go_ret2
      exact ⟨rfl, past_two hb2⟩
    · have V1 := Lib.hid v1
      have V2 := Lib.hid v2
      obtain ⟨x1, x2, x3, x4⟩ := vld_bd v1
      obtain ⟨y1, y2, y3, y4⟩ := vld_bd v2
      clear v1 v2
      obtain ⟨p1a, p1b⟩ := mul_bd x3 x4 (show -2147483647 ≤ c by omega) y2
      obtain ⟨p2a, p2b⟩ := mul_bd y3 y4 (show -2147483647 ≤ d by omega) x2
      go_enter Tryz.func135, Tryz.ntmps135
      go_wp2_with fail
      refine (valid_as _ hn hd V1.out).mono ?_
      rintro e w1 ⟨rfl, hb⟩
      obtain ⟨hx, hf⟩ := bcell hb
      go_wp2_with fail
      refine (valid_as _ hm hc V2.out).mono ?_
      rintro e w2 ⟨rfl, hb2⟩
      replace hb2 := below_on hb hb2
      clear hb hx hf
      obtain ⟨hx, hf⟩ := bcell hb2
      go_wp2_with fail
      refine (compare_any _ _ _ ⟨by omega, by omega⟩ ⟨by omega, by omega⟩).mono ?_
      rintro e w3 ⟨rfl, rfl⟩
      go_wp2_with fail
      go_ret2
      exact ⟨rfl, past_two hb2⟩

set_option maxHeartbeats 400000 in
theorem refCmp_any (n d m c : Int) (w : World) (hn : I64 n) (hd : I64 d) (hm : I64 m) (hc : I64 c) :
    Calls Tryz.prog 35 #[.agg #[.int .i64 n, .int .i64 d], .agg #[.int .i64 m, .int .i64 c]] w
      (Made (.tuple #[.int .i64 (if (vldB n d && vldB m c) then sgn (n * c) (m * d) else 0), .int .i64 (if (vldB n d && vldB m c) then 0 else 2)]) w) := by
  cases v1 : vldB n d
  · have V1 := Lib.hid v1
    clear v1
    go_enter Tryz.func35, Tryz.ntmps35
    go_wp2_with fail
    refine (refValid_as _ hn hd V1.out).mono ?_
    rintro e w1 ⟨rfl, hb⟩
    obtain ⟨hx, hf⟩ := bcell hb
    go_wp2_with fail
    go_ret2
    exact ⟨rfl, past_two hb⟩
  · cases v2 : vldB m c
    · have V1 := Lib.hid v1
      have V2 := Lib.hid v2
      clear v1 v2
      go_enter Tryz.func35, Tryz.ntmps35
      go_wp2_with fail
      refine (refValid_as _ hn hd V1.out).mono ?_
      rintro e w1 ⟨rfl, hb⟩
      obtain ⟨hx, hf⟩ := bcell hb
      go_wp2_with fail
      refine (refValid_as _ hm hc V2.out).mono ?_
      rintro e w2 ⟨rfl, hb2⟩
      replace hb2 := below_on hb hb2
      clear hb hx hf
      obtain ⟨hx, hf⟩ := bcell hb2
      go_wp2_with fail
      go_ret2
      exact ⟨rfl, past_two hb2⟩
    · have V1 := Lib.hid v1
      have V2 := Lib.hid v2
      obtain ⟨x1, x2, x3, x4⟩ := vld_bd v1
      obtain ⟨y1, y2, y3, y4⟩ := vld_bd v2
      clear v1 v2
      obtain ⟨p1a, p1b⟩ := mul_bd x3 x4 (show -2147483647 ≤ c by omega) y2
      obtain ⟨p2a, p2b⟩ := mul_bd y3 y4 (show -2147483647 ≤ d by omega) x2
      by_cases h1 : n * c < m * d
      · have H := Lib.hid (show sgn (n * c) (m * d) = -1 by unfold sgn; rw [if_pos h1])
        have e1 := wrap_in (n * c) (by omega) (by omega)
        have e2 := wrap_in (m * d) (by omega) (by omega)
        go_enter Tryz.func35, Tryz.ntmps35
        go_wp2_with fail
        refine (refValid_as _ hn hd V1.out).mono ?_
        rintro e w1 ⟨rfl, hb⟩
        obtain ⟨hx, hf⟩ := bcell hb
        go_wp2_with fail
        refine (refValid_as _ hm hc V2.out).mono ?_
        rintro e w2 ⟨rfl, hb2⟩
        replace hb2 := below_on hb hb2
        clear hb hx hf
        obtain ⟨hx, hf⟩ := bcell hb2
        go_wp2_with fail
        go_quiet (fail)
        go_wp2_with fail
        go_ret2
        exact ⟨ret_two H.out.symm rfl, below_drewN (past_two hb2) _⟩
      by_cases h2 : m * d < n * c
      · have H := Lib.hid (show sgn (n * c) (m * d) = 1 by unfold sgn; rw [if_neg h1, if_pos h2])
        have e1 := wrap_in (n * c) (by omega) (by omega)
        have e2 := wrap_in (m * d) (by omega) (by omega)
        go_enter Tryz.func35, Tryz.ntmps35
        go_wp2_with fail
        refine (refValid_as _ hn hd V1.out).mono ?_
        rintro e w1 ⟨rfl, hb⟩
        obtain ⟨hx, hf⟩ := bcell hb
        go_wp2_with fail
        refine (refValid_as _ hm hc V2.out).mono ?_
        rintro e w2 ⟨rfl, hb2⟩
        replace hb2 := below_on hb hb2
        clear hb hx hf
        obtain ⟨hx, hf⟩ := bcell hb2
        go_wp2_with fail
        go_quiet (fail)
        go_wp2_with fail
        go_ret2
        exact ⟨ret_two H.out.symm rfl, below_drewN (past_two hb2) _⟩
      have H := Lib.hid (show sgn (n * c) (m * d) = 0 by unfold sgn; rw [if_neg h1, if_neg h2])
      have e1 := wrap_in (n * c) (by omega) (by omega)
      have e2 := wrap_in (m * d) (by omega) (by omega)
      go_enter Tryz.func35, Tryz.ntmps35
      go_wp2_with fail
      refine (refValid_as _ hn hd V1.out).mono ?_
      rintro e w1 ⟨rfl, hb⟩
      obtain ⟨hx, hf⟩ := bcell hb
      go_wp2_with fail
      refine (refValid_as _ hm hc V2.out).mono ?_
      rintro e w2 ⟨rfl, hb2⟩
      replace hb2 := below_on hb hb2
      clear hb hx hf
      obtain ⟨hx, hf⟩ := bcell hb2
      go_wp2_with fail
      go_quiet (fail)
      go_wp2_with fail
      go_ret2
      exact ⟨ret_two H.out.symm rfl, below_drewN (past_two hb2) _⟩

end Go.Proofs.YtbhaoaobhgilkaaGreat
