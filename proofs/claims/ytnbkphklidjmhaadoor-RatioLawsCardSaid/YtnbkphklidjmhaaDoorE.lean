/- Contracts of Cmp of package ratio and of the reference, and of the reference's Sub. -/
import Derived.Test.YtnbkphklidjmhaaDoorD
namespace Go.Proofs.YtnbkphklidjmhaaDoor
open Go.RowKit

theorem wrap_in (x : Int) (h1 : -9223372036854775808 ≤ x) (h2 : x ≤ 9223372036854775807) : IntKind.i64.wrap x = x := by
  simp [IntKind.wrap, IntKind.bits, IntKind.signed]
  omega

set_option maxHeartbeats 400000 in
theorem cmp_any (n d m c : Int) (w : World) (hn : I64 n) (hd : I64 d) (hm : I64 m) (hc : I64 c) :
    Calls Tryd.prog 30 #[.agg #[.int .i64 n, .int .i64 d], .agg #[.int .i64 m, .int .i64 c]] w
      (Made (.tuple #[.int .i64 (if (vldB n d && vldB m c) then sgn (n * c) (m * d) else 0), .int .i64 (if (vldB n d && vldB m c) then 0 else 2)]) w) := by
  cases v1 : vldB n d
  · have V1 := Lib.hid v1
    clear v1
    go_enter Tryd.func30, Tryd.ntmps30
    go_wp2_with fail
    refine (valid_as _ hn hd V1.out).mono ?_
    rintro e w1 ⟨rfl, hb⟩
    obtain ⟨hx, hf⟩ := bcell hb
    go_wp2_with fail
    go_ret2
    exact ⟨rfl, past_two hb⟩
  · cases v2 : vldB m c
    · have V1 := Lib.hid v1
      have V2 := Lib.hid v2
      clear v1 v2
      go_enter Tryd.func30, Tryd.ntmps30
      go_wp2_with fail
      refine (valid_as _ hn hd V1.out).mono ?_
      rintro e w1 ⟨rfl, hb⟩
      obtain ⟨hx, hf⟩ := bcell hb
      go_wp2_with fail
      refine (valid_as _ hm hc V2.out).mono ?_
      rintro e w2 ⟨rfl, hb2⟩
      replace hb2 := below_on hb hb2
      clear hb hx hf
      obtain ⟨hx, hf⟩ := bcell hb2
      go_wp2_with fail
      go_ret2
      exact ⟨rfl, past_two hb2⟩
    · have V1 := Lib.hid v1
      have V2 := Lib.hid v2
      obtain ⟨x1, x2, x3, x4⟩ := vld_bd v1
      obtain ⟨y1, y2, y3, y4⟩ := vld_bd v2
      clear v1 v2
      obtain ⟨p1a, p1b⟩ := mul_bd x3 x4 (show -2147483647 ≤ c by omega) y2
      obtain ⟨p2a, p2b⟩ := mul_bd y3 y4 (show -2147483647 ≤ d by omega) x2
      go_enter Tryd.func30, Tryd.ntmps30
      go_wp2_with fail
      refine (valid_as _ hn hd V1.out).mono ?_
      rintro e w1 ⟨rfl, hb⟩
      obtain ⟨hx, hf⟩ := bcell hb
      go_wp2_with fail
      refine (valid_as _ hm hc V2.out).mono ?_
      rintro e w2 ⟨rfl, hb2⟩
      replace hb2 := below_on hb hb2
      clear hb hx hf
      obtain ⟨hx, hf⟩ := bcell hb2
      go_wp2_with fail
      refine (compare_any _ _ _ ⟨by omega, by omega⟩ ⟨by omega, by omega⟩).mono ?_
      rintro e w3 ⟨rfl, rfl⟩
      go_wp2_with fail
      go_ret2
      exact ⟨rfl, past_two hb2⟩

set_option maxHeartbeats 400000 in
theorem refCmp_any (n d m c : Int) (w : World) (hn : I64 n) (hd : I64 d) (hm : I64 m) (hc : I64 c) :
    Calls Tryd.prog 31 #[.agg #[.int .i64 n, .int .i64 d], .agg #[.int .i64 m, .int .i64 c]] w
      (Made (.tuple #[.int .i64 (if (vldB n d && vldB m c) then sgn (n * c) (m * d) else 0), .int .i64 (if (vldB n d && vldB m c) then 0 else 2)]) w) := by
  cases v1 : vldB n d
  · have V1 := Lib.hid v1
    clear v1
    go_enter Tryd.func31, Tryd.ntmps31
    go_wp2_with fail
    refine (refValid_as _ hn hd V1.out).mono ?_
    rintro e w1 ⟨rfl, hb⟩
    obtain ⟨hx, hf⟩ := bcell hb
    go_wp2_with fail
    go_ret2
    exact ⟨rfl, past_two hb⟩
  · cases v2 : vldB m c
    · have V1 := Lib.hid v1
      have V2 := Lib.hid v2
      clear v1 v2
      go_enter Tryd.func31, Tryd.ntmps31
      go_wp2_with fail
      refine (refValid_as _ hn hd V1.out).mono ?_
      rintro e w1 ⟨rfl, hb⟩
      obtain ⟨hx, hf⟩ := bcell hb
      go_wp2_with fail
      refine (refValid_as _ hm hc V2.out).mono ?_
      rintro e w2 ⟨rfl, hb2⟩
      replace hb2 := below_on hb hb2
      clear hb hx hf
      obtain ⟨hx, hf⟩ := bcell hb2
      go_wp2_with fail
      go_ret2
      exact ⟨rfl, past_two hb2⟩
    · have V1 := Lib.hid v1
      have V2 := Lib.hid v2
      obtain ⟨x1, x2, x3, x4⟩ := vld_bd v1
      obtain ⟨y1, y2, y3, y4⟩ := vld_bd v2
      clear v1 v2
      obtain ⟨p1a, p1b⟩ := mul_bd x3 x4 (show -2147483647 ≤ c by omega) y2
      obtain ⟨p2a, p2b⟩ := mul_bd y3 y4 (show -2147483647 ≤ d by omega) x2
      by_cases h1 : n * c < m * d
      · have H := Lib.hid (show sgn (n * c) (m * d) = -1 by unfold sgn; rw [if_pos h1])
        have e1 := wrap_in (n * c) (by omega) (by omega)
        have e2 := wrap_in (m * d) (by omega) (by omega)
        go_enter Tryd.func31, Tryd.ntmps31
        go_wp2_with fail
        refine (refValid_as _ hn hd V1.out).mono ?_
        rintro e w1 ⟨rfl, hb⟩
        obtain ⟨hx, hf⟩ := bcell hb
        go_wp2_with fail
        refine (refValid_as _ hm hc V2.out).mono ?_
        rintro e w2 ⟨rfl, hb2⟩
        replace hb2 := below_on hb hb2
        clear hb hx hf
        obtain ⟨hx, hf⟩ := bcell hb2
        go_wp2_with fail
        go_quiet (fail)
        go_wp2_with fail
        go_ret2
        exact ⟨ret_two H.out.symm rfl, below_drewN (past_two hb2) _⟩
      by_cases h2 : m * d < n * c
      · have H := Lib.hid (show sgn (n * c) (m * d) = 1 by unfold sgn; rw [if_neg h1, if_pos h2])
        have e1 := wrap_in (n * c) (by omega) (by omega)
        have e2 := wrap_in (m * d) (by omega) (by omega)
        go_enter Tryd.func31, Tryd.ntmps31
        go_wp2_with fail
        refine (refValid_as _ hn hd V1.out).mono ?_
        rintro e w1 ⟨rfl, hb⟩
        obtain ⟨hx, hf⟩ := bcell hb
        go_wp2_with fail
        refine (refValid_as _ hm hc V2.out).mono ?_
        rintro e w2 ⟨rfl, hb2⟩
        replace hb2 := below_on hb hb2
        clear hb hx hf
        obtain ⟨hx, hf⟩ := bcell hb2
        go_wp2_with fail
        go_quiet (fail)
        go_wp2_with fail
        go_ret2
        exact ⟨ret_two H.out.symm rfl, below_drewN (past_two hb2) _⟩
      have H := Lib.hid (show sgn (n * c) (m * d) = 0 by unfold sgn; rw [if_neg h1, if_neg h2])
      have e1 := wrap_in (n * c) (by omega) (by omega)
      have e2 := wrap_in (m * d) (by omega) (by omega)
      go_enter Tryd.func31, Tryd.ntmps31
      go_wp2_with fail
      refine (refValid_as _ hn hd V1.out).mono ?_
      rintro e w1 ⟨rfl, hb⟩
      obtain ⟨hx, hf⟩ := bcell hb
      go_wp2_with fail
      refine (refValid_as _ hm hc V2.out).mono ?_
      rintro e w2 ⟨rfl, hb2⟩
      replace hb2 := below_on hb hb2
      clear hb hx hf
      obtain ⟨hx, hf⟩ := bcell hb2
      go_wp2_with fail
      go_quiet (fail)
      go_wp2_with fail
      go_ret2
      exact ⟨ret_two H.out.symm rfl, below_drewN (past_two hb2) _⟩

theorem w64min : wrap64 9223372036854775808 = -9223372036854775808 := by unfold wrap64; omega

theorem vld_neg (m c : Int) : vldB (-m) c = vldB m c := by
  unfold vldB; rw [Bool.eq_iff_iff]; simp; omega

set_option maxHeartbeats 400000 in
theorem refSub_any (n d m c : Int) (w : World) (hn : I64 n) (hd : I64 d) (hm : I64 m) (hc : I64 c) :
    Calls Tryd.prog 25 #[.agg #[.int .i64 n, .int .i64 d], .agg #[.int .i64 m, .int .i64 c]] w
      (Made (.tuple #[.agg #[.int .i64 (opNum (vldB n d && vldB m c) (n * c - m * d) (d * c)), .int .i64 (opDen (vldB n d && vldB m c) (n * c - m * d) (d * c))], .int .i64 (opErr (vldB n d && vldB m c) (n * c - m * d) (d * c))]) w) := by
  by_cases h0 : m = -9223372036854775808
  · have hv : vldB m c = false := vld_no (by omega)
    have HV := Lib.hid (show ∀ x y : Int, opNum (vldB n d && vldB m c) x y = 0 ∧ opDen (vldB n d && vldB m c) x y = 0 ∧ opErr (vldB n d && vldB m c) x y = 2 by simp [opNum, opDen, opErr, hv])
    clear hv
    subst h0
    go_enter Tryd.func25, Tryd.ntmps25
    go_wp2_with fail
    rw [w64min]
    refine (refAdd_any _ _ _ _ _ hn hd (by unfold I64; omega) hc).mono ?_
    rintro e w1 ⟨rfl, hb⟩
    obtain ⟨hx, hf⟩ := bcell hb
    rw [(HV.out _ _).1, (HV.out _ _).2.1, (HV.out _ _).2.2, (HV.out _ _).1, (HV.out _ _).2.1, (HV.out _ _).2.2]
    go_wp2_with fail
    refine bodyPost_ret (v := .tuple #[.agg #[.int .i64 0, .int .i64 0], .int .i64 2]) (by simp [results, Tryd.results25, go_sem, hx]) rfl ⟨by rw [(HV.out _ _).1, (HV.out _ _).2.1, (HV.out _ _).2.2], ?_⟩
    exact ((past_three hb).setCell (by simp; omega) _).setCell (by simp; omega) _
  · have he : n * c - m * d = n * c + (-m) * d := by rw [Int.neg_mul]; omega
    have b1 := hm.1
    have b2 := hm.2
    have b3 : -9223372036854775808 < m := by omega
    rw [he, ← vld_neg m c]
    clear he
    go_enter Tryd.func25, Tryd.ntmps25
    go_wp2_with fail
    refine (refAdd_any _ _ _ _ _ hn hd (by unfold I64; omega) hc).mono ?_
    rintro e w1 ⟨rfl, hb⟩
    obtain ⟨hx, hf⟩ := bcell hb
    go_wp2_with fail
    refine bodyPost_ret (v := .tuple #[.agg #[.int .i64 (opNum (vldB n d && vldB (-m) c) (n * c + (-m) * d) (d * c)), .int .i64 (opDen (vldB n d && vldB (-m) c) (n * c + (-m) * d) (d * c))], .int .i64 (opErr (vldB n d && vldB (-m) c) (n * c + (-m) * d) (d * c))]) (by simp [results, Tryd.results25, go_sem, hx]) rfl ⟨rfl, ?_⟩
    exact ((past_three hb).setCell (by simp; omega) _).setCell (by simp; omega) _
end Go.Proofs.YtnbkphklidjmhaaDoor
