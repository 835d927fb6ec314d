/- Contracts of Of, Neg, Floor, Ceil, Cmp of package ratio and of the reference, and of the reference's Sub.; Plain mathematics: the simplest number between two others, as the program finds it, lies between them and is the simplest. Nothing of the program is named here.; Contracts of simplest and Middle, of package ratio and of the reference.; Contracts of Middle, of package ratio and of the reference. -/
import Derived.Test.YtbhaoaobhgilkaaGreatWm15

namespace Go.Proofs.YtbhaoaobhgilkaaGreat
open Go.RowKit

theorem fdiv_of (n d : Int) (hd : 1 ≤ d) : n / d = if n.tmod d < 0 then n.tdiv d - 1 else n.tdiv d := by
  have hd0 : 0 < d := by omega
  by_cases h : 0 ≤ n
  · rw [Int.tmod_eq_emod_of_nonneg h, Int.tdiv_eq_ediv_of_nonneg h, if_neg (by have := Int.emod_nonneg n (show d ≠ 0 by omega); omega)]
  · have h1 := Int.tmod_add_tdiv_mul n d
    have h2 : -d < n.tmod d := by have := Int.lt_tmod_of_pos n hd0; omega
    have h3 : n.tmod d ≤ 0 := by
      have e : n.tmod d = -((-n).tmod d) := by rw [Int.neg_tmod]; omega
      rw [e, Int.tmod_eq_emod_of_nonneg (show 0 ≤ -n by omega)]
      have := Int.emod_nonneg (-n) (show d ≠ 0 by omega)
      omega
    generalize hr : n.tmod d = r at *
    generalize hq : n.tdiv d = q at *
    split
    · rename_i h4
      have e : n = (r + d) + (q - 1) * d := by rw [Int.sub_mul]; omega
      rw [e, Int.add_mul_ediv_right _ _ (by omega), Int.ediv_eq_zero_of_lt (by omega) (by omega)]; omega
    · have e : n = 0 + q * d := by omega
      rw [e, Int.add_mul_ediv_right _ _ (by omega)]; simp

theorem tdiv_bd (n d : Int) (h1 : -4611686018427387904 ≤ n) (h2 : n ≤ 4611686018427387904) : -4611686018427387904 ≤ n.tdiv d ∧ n.tdiv d ≤ 4611686018427387904 := by
  have := Int.natAbs_tdiv_le_natAbs n d
  omega

set_option maxHeartbeats 400000 in
theorem rounded_any (n d : Int) (w : World) (h1 : -4611686018427387904 ≤ n) (h2 : n ≤ 4611686018427387904) (hd : 1 ≤ d) (hd2 : d ≤ 9223372036854775807) :
    Calls Tryz.prog 166 #[.int .i64 n, .int .i64 d] w fun e w' => e = .returned (.int .i64 (n / d)) ∧ w = w' := by
  have hz : (d == 0) = false := by simp; omega
  by_cases hn : 0 ≤ n
  · have hm := Int.emod_nonneg n (show d ≠ 0 by omega)
    go_enter Tryz.func166, Tryz.ntmps166
    go_wp2
    go_ret
    exact ⟨rfl, rfl⟩
  · have tb := tdiv_bd n d h1 (by omega)
    by_cases hr : n.tmod d < 0
    · have H := Lib.hid (show n.tdiv d - 1 = n / d by rw [fdiv_of n d hd, if_pos hr])
      go_enter Tryz.func166, Tryz.ntmps166
      go_wp2
      go_ret
      exact ⟨ret_int H.out, rfl⟩
    · have H := Lib.hid (show n.tdiv d = n / d by rw [fdiv_of n d hd, if_neg hr])
      go_enter Tryz.func166, Tryz.ntmps166
      go_wp2
      go_ret
      exact ⟨ret_int H.out, rfl⟩

def sgn (x y : Int) : Int := if x < y then -1 else if y < x then 1 else 0

set_option maxHeartbeats 400000 in
theorem compare_any (x y : Int) (w : World) (hx : I64 x) (hy : I64 y) :
    Calls Tryz.prog 128 #[.int .i64 x, .int .i64 y] w fun e w' => e = .returned (.int .i64 (sgn x y)) ∧ w = w' := by
  have a1 := hx.1
  have a2 := hx.2
  have b1 := hy.1
  have b2 := hy.2
  by_cases h1 : x < y
  · have H := Lib.hid (show sgn x y = -1 by unfold sgn; rw [if_pos h1])
    go_enter Tryz.func128, Tryz.ntmps128
    go_wp2
    go_ret
    exact ⟨ret_int H.out.symm, rfl⟩
  by_cases h2 : y < x
  · have H := Lib.hid (show sgn x y = 1 by unfold sgn; rw [if_neg h1, if_pos h2])
    go_enter Tryz.func128, Tryz.ntmps128
    go_wp2
    go_ret
    exact ⟨ret_int H.out.symm, rfl⟩
  have H := Lib.hid (show sgn x y = 0 by unfold sgn; rw [if_neg h1, if_neg h2])
  go_enter Tryz.func128, Tryz.ntmps128
  go_wp2
  go_ret
  exact ⟨ret_int H.out.symm, rfl⟩

set_option maxHeartbeats 400000 in
theorem cmp_any (n d m c : Int) (w : World) (hn : I64 n) (hd : I64 d) (hm : I64 m) (hc : I64 c) :
    Calls Tryz.prog 135 #[.agg #[.int .i64 n, .int .i64 d], .agg #[.int .i64 m, .int .i64 c]] w
      (Made (.tuple #[.int .i64 (if (vldB n d && vldB m c) then sgn (n * c) (m * d) else 0), .int .i64 (if (vldB n d && vldB m c) then 0 else 2)]) w) := by
  cases v1 : vldB n d
  · have V1 := Lib.hid v1
    clear v1
    go_enter Tryz.func135, Tryz.ntmps135
    go_wp2_with fail
    refine (valid_as _ hn hd V1.out).mono ?_
    rintro e w1 ⟨rfl, hb⟩
    obtain ⟨hx, hf⟩ := bcell hb
    go_wp2_with fail
    go_ret2
    exact ⟨rfl, past_two hb⟩
  · cases v2 : vldB m c
    · have V1 := Lib.hid v1
      have V2 := Lib.hid v2
      clear v1 v2
      go_enter Tryz.func135, Tryz.ntmps135
      go_wp2_with fail
      refine (valid_as _ hn hd V1.out).mono ?_
      rintro e w1 ⟨rfl, hb⟩
      obtain ⟨hx, hf⟩ := bcell hb
      go_wp2_with fail
      refine (valid_as _ hm hc V2.out).mono ?_
      rintro e w2 ⟨rfl, hb2⟩
      replace hb2 := below_on hb hb2
      clear hb hx hf
      obtain ⟨hx, hf⟩ := bcell hb2
      go_wp2_with fail
      go_ret2
      exact ⟨rfl, past_two hb2⟩
    · have V1 := Lib.hid v1
      have V2 := Lib.hid v2
      obtain ⟨x1, x2, x3, x4⟩ := vld_bd v1
      obtain ⟨y1, y2, y3, y4⟩ := vld_bd v2
      clear v1 v2
      obtain ⟨p1a, p1b⟩ := mul_bd x3 x4 (show -2147483647 ≤ c by omega) y2
      obtain ⟨p2a, p2b⟩ := mul_bd y3 y4 (show -2147483647 ≤ d by omega) x2
      go_enter Tryz.func135, Tryz.ntmps135
      go_wp2_with fail
      refine (valid_as _ hn hd V1.out).mono ?_
      rintro e w1 ⟨rfl, hb⟩
      obtain ⟨hx, hf⟩ := bcell hb
      go_wp2_with fail
      refine (valid_as _ hm hc V2.out).mono ?_
      rintro e w2 ⟨rfl, hb2⟩
      replace hb2 := below_on hb hb2
      clear hb hx hf
      obtain ⟨hx, hf⟩ := bcell hb2
      go_wp2_with fail
      refine (compare_any _ _ _ ⟨by omega, by omega⟩ ⟨by omega, by omega⟩).mono ?_
      rintro e w3 ⟨rfl, rfl⟩
      go_wp2_with fail
      go_ret2
      exact ⟨rfl, past_two hb2⟩

set_option maxHeartbeats 400000 in
theorem refCmp_any (n d m c : Int) (w : World) (hn : I64 n) (hd : I64 d) (hm : I64 m) (hc : I64 c) :
    Calls Tryz.prog 35 #[.agg #[.int .i64 n, .int .i64 d], .agg #[.int .i64 m, .int .i64 c]] w
      (Made (.tuple #[.int .i64 (if (vldB n d && vldB m c) then sgn (n * c) (m * d) else 0), .int .i64 (if (vldB n d && vldB m c) then 0 else 2)]) w) := by
  cases v1 : vldB n d
  · have V1 := Lib.hid v1
    clear v1
    go_enter Tryz.func35, Tryz.ntmps35
    go_wp2_with fail
    refine (refValid_as _ hn hd V1.out).mono ?_
    rintro e w1 ⟨rfl, hb⟩
    obtain ⟨hx, hf⟩ := bcell hb
    go_wp2_with fail
    go_ret2
    exact ⟨rfl, past_two hb⟩
  · cases v2 : vldB m c
    · have V1 := Lib.hid v1
      have V2 := Lib.hid v2
      clear v1 v2
      go_enter Tryz.func35, Tryz.ntmps35
      go_wp2_with fail
      refine (refValid_as _ hn hd V1.out).mono ?_
      rintro e w1 ⟨rfl, hb⟩
      obtain ⟨hx, hf⟩ := bcell hb
      go_wp2_with fail
      refine (refValid_as _ hm hc V2.out).mono ?_
      rintro e w2 ⟨rfl, hb2⟩
      replace hb2 := below_on hb hb2
      clear hb hx hf
      obtain ⟨hx, hf⟩ := bcell hb2
      go_wp2_with fail
      go_ret2
      exact ⟨rfl, past_two hb2⟩
    · have V1 := Lib.hid v1
      have V2 := Lib.hid v2
      obtain ⟨x1, x2, x3, x4⟩ := vld_bd v1
      obtain ⟨y1, y2, y3, y4⟩ := vld_bd v2
      clear v1 v2
      obtain ⟨p1a, p1b⟩ := mul_bd x3 x4 (show -2147483647 ≤ c by omega) y2
      obtain ⟨p2a, p2b⟩ := mul_bd y3 y4 (show -2147483647 ≤ d by omega) x2
      by_cases h1 : n * c < m * d
      · have H := Lib.hid (show sgn (n * c) (m * d) = -1 by unfold sgn; rw [if_pos h1])
        have e1 := wrap_in (n * c) (by omega) (by omega)
        have e2 := wrap_in (m * d) (by omega) (by omega)
        go_enter Tryz.func35, Tryz.ntmps35
        go_wp2_with fail
        refine (refValid_as _ hn hd V1.out).mono ?_
        rintro e w1 ⟨rfl, hb⟩
        obtain ⟨hx, hf⟩ := bcell hb
        go_wp2_with fail
        refine (refValid_as _ hm hc V2.out).mono ?_
        rintro e w2 ⟨rfl, hb2⟩
        replace hb2 := below_on hb hb2
        clear hb hx hf
        obtain ⟨hx, hf⟩ := bcell hb2
        go_wp2_with fail
        go_quiet (fail)
        go_wp2_with fail
        go_ret2
        exact ⟨ret_two H.out.symm rfl, below_drewN (past_two hb2) _⟩
      by_cases h2 : m * d < n * c
      · have H := Lib.hid (show sgn (n * c) (m * d) = 1 by unfold sgn; rw [if_neg h1, if_pos h2])
        have e1 := wrap_in (n * c) (by omega) (by omega)
        have e2 := wrap_in (m * d) (by omega) (by omega)
        go_enter Tryz.func35, Tryz.ntmps35
        go_wp2_with fail
        refine (refValid_as _ hn hd V1.out).mono ?_
        rintro e w1 ⟨rfl, hb⟩
        obtain ⟨hx, hf⟩ := bcell hb
        go_wp2_with fail
        refine (refValid_as _ hm hc V2.out).mono ?_
        rintro e w2 ⟨rfl, hb2⟩
        replace hb2 := below_on hb hb2
        clear hb hx hf
        obtain ⟨hx, hf⟩ := bcell hb2
        go_wp2_with fail
        go_quiet (fail)
        go_wp2_with fail
        go_ret2
        exact ⟨ret_two H.out.symm rfl, below_drewN (past_two hb2) _⟩
      have H := Lib.hid (show sgn (n * c) (m * d) = 0 by unfold sgn; rw [if_neg h1, if_neg h2])
      have e1 := wrap_in (n * c) (by omega) (by omega)
      have e2 := wrap_in (m * d) (by omega) (by omega)
      go_enter Tryz.func35, Tryz.ntmps35
      go_wp2_with fail
      refine (refValid_as _ hn hd V1.out).mono ?_
      rintro e w1 ⟨rfl, hb⟩
      obtain ⟨hx, hf⟩ := bcell hb
      go_wp2_with fail
      refine (refValid_as _ hm hc V2.out).mono ?_
      rintro e w2 ⟨rfl, hb2⟩
      replace hb2 := below_on hb hb2
      clear hb hx hf
      obtain ⟨hx, hf⟩ := bcell hb2
      go_wp2_with fail
      go_quiet (fail)
      go_wp2_with fail
      go_ret2
      exact ⟨ret_two H.out.symm rfl, below_drewN (past_two hb2) _⟩

theorem vld_neg (m c : Int) : vldB (-m) c = vldB m c := by
  unfold vldB; rw [Bool.eq_iff_iff]; simp; omega

set_option maxHeartbeats 400000 in
theorem refSub_any (n d m c : Int) (w : World) (hn : I64 n) (hd : I64 d) (hm : I64 m) (hc : I64 c) :
    Calls Tryz.prog 110 #[.agg #[.int .i64 n, .int .i64 d], .agg #[.int .i64 m, .int .i64 c]] w
      (Made (.tuple #[.agg #[.int .i64 (opNum (vldB n d && vldB m c) (n * c - m * d) (d * c)), .int .i64 (opDen (vldB n d && vldB m c) (n * c - m * d) (d * c))], .int .i64 (opErr (vldB n d && vldB m c) (n * c - m * d) (d * c))]) w) := by
  by_cases h0 : m = -9223372036854775808
  · have hv : vldB m c = false := vld_no (by omega)
    have HV := Lib.hid (show ∀ x y : Int, opNum (vldB n d && vldB m c) x y = 0 ∧ opDen (vldB n d && vldB m c) x y = 0 ∧ opErr (vldB n d && vldB m c) x y = 2 by simp [opNum, opDen, opErr, hv])
    clear hv
    subst h0
    go_enter Tryz.func110, Tryz.ntmps110
    go_wp2_with fail
    rw [w64min]
    refine (refAdd_any _ _ _ _ _ hn hd (by unfold I64; omega) hc).mono ?_
    rintro e w1 ⟨rfl, hb⟩
    obtain ⟨hx, hf⟩ := bcell hb
    rw [(HV.out _ _).1, (HV.out _ _).2.1, (HV.out _ _).2.2, (HV.out _ _).1, (HV.out _ _).2.1, (HV.out _ _).2.2]
    go_wp2_with fail
    refine bodyPost_ret (v := .tuple #[.agg #[.int .i64 0, .int .i64 0], .int .i64 2]) (by simp [results, Tryz.results110, go_sem, hx]) rfl ⟨by rw [(HV.out _ _).1, (HV.out _ _).2.1, (HV.out _ _).2.2], ?_⟩
    exact ((past_three hb).setCell (by simp; omega) _).setCell (by simp; omega) _
  · have he : n * c - m * d = n * c + (-m) * d := by rw [Int.neg_mul]; omega
    have b1 := hm.1
    have b2 := hm.2
    have b3 : -9223372036854775808 < m := by omega
    rw [he, ← vld_neg m c]
    clear he
    go_enter Tryz.func110, Tryz.ntmps110
    go_wp2_with fail
    refine (refAdd_any _ _ _ _ _ hn hd (by unfold I64; omega) hc).mono ?_
    rintro e w1 ⟨rfl, hb⟩
    obtain ⟨hx, hf⟩ := bcell hb
    go_wp2_with fail
    refine bodyPost_ret (v := .tuple #[.agg #[.int .i64 (opNum (vldB n d && vldB (-m) c) (n * c + (-m) * d) (d * c)), .int .i64 (opDen (vldB n d && vldB (-m) c) (n * c + (-m) * d) (d * c))], .int .i64 (opErr (vldB n d && vldB (-m) c) (n * c + (-m) * d) (d * c))]) (by simp [results, Tryz.results110, go_sem, hx]) rfl ⟨rfl, ?_⟩
    exact ((past_three hb).setCell (by simp; omega) _).setCell (by simp; omega) _
end Go.Proofs.YtbhaoaobhgilkaaGreat

namespace Go.Proofs.YtbhaoaobhgilkaaGreat

def smp : Nat → Int → Int → Int → Int → Int × Int
  | 0, _, _, _, _ => (0, 1)
  | k + 1, p, q, r, s =>
    if (p / q + 1) * s < r then (p / q + 1, 1)
    else ((p / q) * (smp k s (r - (p / q) * s) q (p - (p / q) * q)).1 + (smp k s (r - (p / q) * s) q (p - (p / q) * q)).2,
      (smp k s (r - (p / q) * s) q (p - (p / q) * q)).1)

structure Ends (p q r s : Int) : Prop where
  q1 : 1 ≤ q
  s0 : 0 ≤ s
  lt : p * s < r * q

theorem fl (p q : Int) (h : 1 ≤ q) : (p / q) * q ≤ p ∧ p < (p / q) * q + q := by
  have h1 := Int.emod_nonneg p (show q ≠ 0 by omega)
  have h2 := Int.emod_lt_of_pos p (show 0 < q by omega)
  have h3 := Int.mul_ediv_add_emod p q
  have h4 := Int.mul_comm q (p / q)
  omega

theorem Ends.next {p q r s : Int} (h : Ends p q r s) (hn : ¬ (p / q + 1) * s < r) :
    1 ≤ s ∧ 1 ≤ r - (p / q) * s ∧ r - (p / q) * s ≤ s ∧ 0 ≤ p - (p / q) * q ∧ p - (p / q) * q < q ∧ Ends s (r - (p / q) * s) q (p - (p / q) * q) := by
  obtain ⟨q1, s0, lt⟩ := h
  obtain ⟨f1, f2⟩ := fl p q q1
  generalize p / q = low at *
  have hs : 1 ≤ s := by
    rcases Int.lt_or_le 0 s with h | h
    · omega
    · exfalso
      have : s = 0 := by omega
      subst this
      have h0 : 0 < r * q := by simpa using lt
      have h1 : r ≤ 0 := by simpa using hn
      have h2 : r * q ≤ 0 * q := Int.mul_le_mul_of_nonneg_right h1 (by omega)
      omega
  have key : s * (p - low * q) < q * (r - low * s) := by grind
  have hr : 1 ≤ r - low * s := by
    rcases Int.lt_or_le 0 (r - low * s) with h | h
    · omega
    · exfalso
      have h1 : q * (r - low * s) ≤ q * 0 := Int.mul_le_mul_of_nonneg_left h (by omega)
      have h2 : 0 ≤ s * (p - low * q) := Int.mul_nonneg (by omega) (by omega)
      omega
  refine ⟨hs, hr, ?_, by omega, by omega, hr, by omega, key⟩
  grind

def Best (p q r s x y : Int) : Prop :=
  1 ≤ y ∧ p * y < x * q ∧ x * s < r * y ∧ ∀ u v : Int, 1 ≤ v → p * v < u * q → u * s < r * v → y ≤ v ∧ (y = v → x ≤ u) ∧ (0 ≤ p → x ≤ u)

theorem smp_best (k : Nat) : ∀ p q r s : Int, Ends p q r s → q + s ≤ k → Best p q r s (smp k p q r s).1 (smp k p q r s).2 := by
  induction k with
  | zero => intro p q r s h hk; have := h.q1; have := h.s0; omega
  | succ k ih =>
    intro p q r s h hk
    unfold smp
    by_cases hn : (p / q + 1) * s < r
    · rw [if_pos hn]
      obtain ⟨f1, f2⟩ := fl p q h.q1
      have q1 := h.q1
      generalize p / q = low at *
      refine ⟨by simp, by simp; grind, by simpa using hn, ?_⟩
      intro u v hv h1 h2
      have h3 : low * v < u := by
        rcases Int.lt_or_le (low * v) u with h | h
        · exact h
        · exfalso
          have a1 : u * q ≤ (low * v) * q := Int.mul_le_mul_of_nonneg_right h (by omega)
          have a2 : (low * q) * v ≤ p * v := Int.mul_le_mul_of_nonneg_right f1 (by omega)
          grind
      refine ⟨hv, ?_, ?_⟩
      · intro e
        have e : v = 1 := by simpa using e.symm
        subst e; simp at h3 ⊢; omega
      · intro hp
        have h0 : 0 ≤ low := by
          rcases Int.lt_or_le low 0 with h | h
          · exfalso
            have : low * q ≤ (-1) * q := Int.mul_le_mul_of_nonneg_right (by omega) (by omega)
            omega
          · exact h
        have : low * 1 ≤ low * v := Int.mul_le_mul_of_nonneg_left hv h0
        simp; omega
    · rw [if_neg hn]
      obtain ⟨s1, r1, r2, g0, g1, hE⟩ := h.next hn
      have q1 := h.q1
      have lt := h.lt
      obtain ⟨f1, f2⟩ := fl p q h.q1
      have IH := ih s (r - (p / q) * s) q (p - (p / q) * q) hE (by omega)
      generalize hden : (smp k s (r - (p / q) * s) q (p - (p / q) * q)).1 = den at *
      generalize hnum : (smp k s (r - (p / q) * s) q (p - (p / q) * q)).2 = num at *
      clear hden hnum ih
      generalize p / q = low at *
      obtain ⟨n1, b1, b2, mn⟩ := IH
      have d1 : 1 ≤ den := by
        rcases Int.lt_or_le 0 den with h | h
        · omega
        · exfalso
          have a1 : den * (r - low * s) ≤ 0 * (r - low * s) := Int.mul_le_mul_of_nonneg_right h (by omega)
          have a2 : 0 ≤ s * num := Int.mul_nonneg (by omega) (by omega)
          omega
      refine ⟨d1, ?_, ?_, ?_⟩
      · show p * den < (low * den + num) * q
        grind
      · show (low * den + num) * s < r * den
        grind
      · intro u v hv h1 h2
        show den ≤ v ∧ (den = v → low * den + num ≤ u) ∧ (0 ≤ p → low * den + num ≤ u)
        have ua : 1 ≤ u - low * v := by
          rcases Int.lt_or_le 0 (u - low * v) with h | h
          · omega
          · exfalso
            have a1 : (u - low * v) * q ≤ 0 * q := Int.mul_le_mul_of_nonneg_right h (by omega)
            have a2 : 0 ≤ v * (p - low * q) := Int.mul_nonneg (by omega) (by omega)
            grind
        obtain ⟨m1, m2, m3⟩ := mn v (u - low * v) ua (by grind) (by grind)
        have m4 := m3 (by omega)
        refine ⟨m4, ?_, ?_⟩
        · intro e; subst e; omega
        · intro hp
          have h0 : 0 ≤ low := by
            rcases Int.lt_or_le low 0 with h | h
            · exfalso
              have : low * q ≤ (-1) * q := Int.mul_le_mul_of_nonneg_right (by omega) (by omega)
              omega
            · exact h
          have : low * den ≤ low * v := Int.mul_le_mul_of_nonneg_left m4 h0
          omega

theorem smp_den (k : Nat) (p q r s : Int) (h : Ends p q r s) (hk : q + s ≤ k) : 1 ≤ (smp k p q r s).2 ∧ (smp k p q r s).2 ≤ q + s := by
  obtain ⟨h1, _, _, h4⟩ := smp_best k p q r s h hk
  obtain ⟨q1, s0, lt⟩ := h
  exact ⟨h1, (h4 (p + r) (q + s) (by omega) (by grind) (by grind)).1⟩
end Go.Proofs.YtbhaoaobhgilkaaGreat

namespace Go.Proofs.YtbhaoaobhgilkaaGreat
open Go.RowKit

structure Args (p q r s : Int) : Prop where
  p1 : -2147483647 ≤ p
  p2 : p ≤ 2147483647
  r1 : -2147483647 ≤ r
  r2 : r ≤ 2147483647
  q2 : q ≤ 2147483647
  s2 : s ≤ 2147483647
  ends : Ends p q r s

theorem lowB (p q : Int) (h1 : -2147483647 ≤ p) (h2 : p ≤ 2147483647) (hq : 1 ≤ q) : -2147483647 ≤ p / q ∧ p / q ≤ 2147483647 := by
  constructor
  · rw [Int.le_ediv_iff_mul_le (by omega)]
    have : (-2147483647 : Int) * q ≤ -2147483647 * 1 := by omega
    omega
  · apply Int.ediv_le_of_le_mul (by omega)
    have : (2147483647 : Int) * 1 ≤ 2147483647 * q := by omega
    omega

theorem Args.next {p q r s : Int} (h : Args p q r s) (hn : ¬ (p / q + 1) * s < r) : Args s (r - (p / q) * s) q (p - (p / q) * q) := by
  obtain ⟨s1, r1, r2, g0, g1, hE⟩ := h.ends.next hn
  have := h.q2
  have := h.s2
  have := h.ends.q1
  exact ⟨by omega, by omega, by omega, by omega, by omega, by omega, hE⟩

theorem mulB {x y : Int} (x1 : -2147483647 ≤ x) (x2 : x ≤ 2147483647) (y1 : 0 ≤ y) (y2 : y ≤ 4294967294) :
    -9223372028264841218 ≤ x * y ∧ x * y ≤ 9223372028264841218 := by
  have h : (x * y).natAbs ≤ 2147483647 * 4294967294 := by
    rw [Int.natAbs_mul]; exact Nat.mul_le_mul (by omega) (by omega)
  omega

theorem inner_bd (k : Nat) {p q r s : Int} (h : Args p q r s) (hk : q + s ≤ (k + 1 : Nat)) (hn : ¬ (p / q + 1) * s < r) :
    1 ≤ (smp k s (r - (p / q) * s) q (p - (p / q) * q)).1 ∧ (smp k s (r - (p / q) * s) q (p - (p / q) * q)).1 ≤ 4294967294 ∧
    1 ≤ (smp k s (r - (p / q) * s) q (p - (p / q) * q)).2 ∧ (smp k s (r - (p / q) * s) q (p - (p / q) * q)).2 ≤ 4294967294 := by
  have h1 := smp_den (k + 1) p q r s h.ends hk
  have e : (smp (k + 1) p q r s).2 = (smp k s (r - (p / q) * s) q (p - (p / q) * q)).1 := by
    rw [smp, if_neg hn]
  rw [e] at h1
  obtain ⟨s1, r1, r2, g0, g1, hE⟩ := h.ends.next hn
  have h2 := smp_den k _ _ _ _ hE (by omega)
  have := h.q2
  have := h.s2
  have := h.ends.q1
  omega

theorem smp_rng (k : Nat) {p q r s : Int} (h : Args p q r s) (hk : q + s ≤ k) : I64 (smp k p q r s).1 ∧ 1 ≤ (smp k p q r s).2 ∧ (smp k p q r s).2 ≤ 4294967294 := by
  have hd := smp_den k p q r s h.ends hk
  have := h.q2
  have := h.s2
  refine ⟨?_, hd.1, by omega⟩
  match k, hk with
  | 0, hk => exfalso; have := h.ends.q1; have := h.ends.s0; omega
  | k + 1, hk =>
    have lb := lowB p q h.p1 h.p2 h.ends.q1
    unfold smp
    by_cases hn : (p / q + 1) * s < r
    · rw [if_pos hn]; unfold I64; simp; omega
    · rw [if_neg hn]
      have ib := inner_bd k h hk hn
      have mb := mulB lb.1 lb.2 (show 0 ≤ (smp k s (r - (p / q) * s) q (p - (p / q) * q)).1 by omega) ib.2.1
      unfold I64
      simp only
      omega

set_option maxHeartbeats 400000 in
theorem simplest_any (k : Nat) : ∀ (p q r s : Int) (w : World), Args p q r s → q + s ≤ k →
    Calls Tryz.prog 154 #[.int .i64 p, .int .i64 q, .int .i64 r, .int .i64 s] w fun e w' => e = .returned (.tuple #[.int .i64 (smp k p q r s).1, .int .i64 (smp k p q r s).2]) ∧ w = w' := by
  induction k with
  | zero => intro p q r s w h hk; exfalso; have := h.ends.q1; have := h.ends.s0; omega
  | succ k ih =>
    intro p q r s w h hk
    have IH := Lib.hid ih
    clear ih
    obtain ⟨lb1, lb2⟩ := lowB p q h.p1 h.p2 h.ends.q1
    have p1 := h.p1
    have p2 := h.p2
    have r1 := h.r1
    have r2 := h.r2
    have q1 := h.ends.q1
    have q2 := h.q2
    have s1 := h.ends.s0
    have s2 := h.s2
    obtain ⟨m1, m2⟩ := mul_bd lb1 lb2 (show -2147483647 ≤ s by omega) s2
    have m3 : (p / q + 1) * s = p / q * s + s := by rw [Int.add_mul]; omega
    have m4 : -4611686018427387904 ≤ (p / q + 1) * s := by omega
    have m5 : (p / q + 1) * s ≤ 4611686018427387904 := by omega
    clear m3
    obtain ⟨m6, m7⟩ := mul_bd lb1 lb2 (show -2147483647 ≤ q by omega) q2
    by_cases hn : (p / q + 1) * s < r
    · have H := Lib.hid (show smp (k + 1) p q r s = (p / q + 1, 1) by rw [smp, if_pos hn])
      go_enter Tryz.func154, Tryz.ntmps154
      go_wp2_with fail
      refine (rounded_any _ _ _ (by omega) (by omega) (by omega) (by omega)).mono ?_
      rintro e w1 ⟨rfl, rfl⟩
      generalize p / q = low at *
      go_wp2_with fail
      go_ret2
      exact ⟨by rw [H.out]; rfl, rfl⟩
    · have hA := h.next hn
      have ib := inner_bd k h hk hn
      obtain ⟨i1, i2, i3, i4⟩ := ib
      obtain ⟨b1, b2⟩ := mulB lb1 lb2 (show 0 ≤ (smp k s (r - (p / q) * s) q (p - (p / q) * q)).1 by omega) i2
      obtain ⟨s1', r1', r2', g0, g1, hE⟩ := h.ends.next hn
      have hk2 : r - p / q * s + (p - p / q * q) ≤ k := by omega
      have H := Lib.hid (show smp (k + 1) p q r s = ((p / q) * (smp k s (r - (p / q) * s) q (p - (p / q) * q)).1 + (smp k s (r - (p / q) * s) q (p - (p / q) * q)).2,
        (smp k s (r - (p / q) * s) q (p - (p / q) * q)).1) by rw [smp, if_neg hn])
      go_enter Tryz.func154, Tryz.ntmps154
      go_wp2_with fail
      refine (rounded_any _ _ _ (by omega) (by omega) (by omega) (by omega)).mono ?_
      rintro e w1 ⟨rfl, rfl⟩
      generalize p / q = low at *
      go_wp2_with fail
      refine (IH.out _ _ _ _ _ hA hk2).mono ?_
      rintro e w1 ⟨rfl, rfl⟩
      generalize (smp k s (r - low * s) q (p - low * q)).1 = den at *
      generalize (smp k s (r - low * s) q (p - low * q)).2 = num at *
      go_wp2_with fail
      go_ret2
      exact ⟨by rw [H.out]; rfl, rfl⟩

end Go.Proofs.YtbhaoaobhgilkaaGreat

namespace Go.Proofs.YtbhaoaobhgilkaaGreat
open Go.RowKit

def midB (n d m c : Int) : Bool := vldB n d && vldB m c && decide (n * c < m * d)

def midX (n d m c : Int) : Int := (smp (d + c).toNat n d m c).1

def midY (n d m c : Int) : Int := (smp (d + c).toNat n d m c).2

theorem mid_args {n d m c : Int} (h : midB n d m c = true) : Args n d m c ∧ d + c ≤ ((d + c).toNat : Int) := by
  unfold midB at h
  simp at h
  obtain ⟨⟨h1, h2⟩, h3⟩ := h
  obtain ⟨x1, x2, x3, x4⟩ := vld_bd h1
  obtain ⟨y1, y2, y3, y4⟩ := vld_bd h2
  exact ⟨⟨x3, x4, y3, y4, x2, y2, x1, by omega, h3⟩, by omega⟩

theorem cmp_as {n d m c k e : Int} (w : World) (hn : I64 n) (hd : I64 d) (hm : I64 m) (hc : I64 c) (h1 : (if (vldB n d && vldB m c) then sgn (n * c) (m * d) else 0) = k) (h2 : (if (vldB n d && vldB m c) then (0 : Int) else 2) = e) :
    Calls Tryz.prog 135 #[.agg #[.int .i64 n, .int .i64 d], .agg #[.int .i64 m, .int .i64 c]] w (Made (.tuple #[.int .i64 k, .int .i64 e]) w) := by
  have h := cmp_any n d m c w hn hd hm hc
  rw [h1, h2] at h
  exact h

set_option maxHeartbeats 400000 in
theorem middle_any (n d m c : Int) (w : World) (hn : I64 n) (hd : I64 d) (hm : I64 m) (hc : I64 c) :
    Calls Tryz.prog 139 #[.agg #[.int .i64 n, .int .i64 d], .agg #[.int .i64 m, .int .i64 c]] w
      (Made (.tuple #[.agg #[.int .i64 (opNum (midB n d m c) (midX n d m c) (midY n d m c)), .int .i64 (opDen (midB n d m c) (midX n d m c) (midY n d m c))], .int .i64 (opErr (midB n d m c) (midX n d m c) (midY n d m c))]) w) := by
  cases hM : midB n d m c
  · have HV := Lib.hid (show ∀ x y : Int, opNum false x y = 0 ∧ opDen false x y = 0 ∧ opErr false x y = 2 by simp [opNum, opDen, opErr])
    cases hV : (vldB n d && vldB m c)
    · have H1 := Lib.hid (show (if (vldB n d && vldB m c) then sgn (n * c) (m * d) else 0) = 0 by simp [hV])
      have H2 := Lib.hid (show (if (vldB n d && vldB m c) then (0 : Int) else 2) = 2 by simp [hV])
      clear hV hM
      go_enter Tryz.func139, Tryz.ntmps139
      go_wp2_with fail
      refine (cmp_as _ hn hd hm hc H1.out H2.out).mono ?_
      rintro e w1 ⟨rfl, hb⟩
      obtain ⟨hx, hf⟩ := bcell hb
      go_wp2_with fail
      refine bodyPost_ret (v := .tuple #[.agg #[.int .i64 0, .int .i64 0], .int .i64 2]) (by simp [results, Tryz.results139, go_sem, hx]) rfl ⟨by rw [(HV.out _ _).1, (HV.out _ _).2.1, (HV.out _ _).2.2], ?_⟩
      exact ((past_three hb).setCell (by simp; omega) _).setCell (by simp; omega) _
    · have h3 : ¬ n * c < m * d := by unfold midB at hM; rw [hV] at hM; simpa using hM
      have H1 : 0 ≤ (if (vldB n d && vldB m c) then sgn (n * c) (m * d) else 0) := by rw [hV]; unfold sgn; simp; split <;> omega
      obtain ⟨k, hk⟩ : ∃ k : Int, (if (vldB n d && vldB m c) then sgn (n * c) (m * d) else 0) = k := ⟨_, rfl⟩
      rw [hk] at H1
      have HK := Lib.hid hk
      have H2 := Lib.hid (show (if (vldB n d && vldB m c) then (0 : Int) else 2) = 0 by simp [hV])
      clear hk hV hM h3
      go_enter Tryz.func139, Tryz.ntmps139
      go_wp2_with fail
      refine (cmp_as _ hn hd hm hc HK.out H2.out).mono ?_
      rintro e w1 ⟨rfl, hb⟩
      obtain ⟨hx, hf⟩ := bcell hb
      go_wp2_with fail
      refine bodyPost_ret (v := .tuple #[.agg #[.int .i64 0, .int .i64 0], .int .i64 2]) (by simp [results, Tryz.results139, go_sem, hx]) rfl ⟨by rw [(HV.out _ _).1, (HV.out _ _).2.1, (HV.out _ _).2.2], ?_⟩
      exact ((past_three hb).setCell (by simp; omega) _).setCell (by simp; omega) _
  · obtain ⟨hA, hK⟩ := mid_args hM
    have hR := smp_rng _ hA hK
    obtain ⟨⟨g1, g2⟩, g3, g4⟩ := hR
    have HV := Lib.hid (show ∀ x y : Int, opNum true x y = mkNum x y ∧ opDen true x y = mkDen x y ∧ opErr true x y = mkErr x y by simp [opNum, opDen, opErr])
    have hV : (vldB n d && vldB m c) = true := by unfold midB at hM; simp at hM; simp [hM]
    have h3 : n * c < m * d := by unfold midB at hM; simp at hM; exact hM.2
    have H1 := Lib.hid (show (if (vldB n d && vldB m c) then sgn (n * c) (m * d) else 0) = -1 by rw [hV]; simp [sgn, h3])
    have H2 := Lib.hid (show (if (vldB n d && vldB m c) then (0 : Int) else 2) = 0 by simp [hV])
    clear hV hM h3
    unfold midX midY
    go_enter Tryz.func139, Tryz.ntmps139
    go_wp2_with fail
    refine (cmp_as _ hn hd hm hc H1.out H2.out).mono ?_
    rintro e w1 ⟨rfl, hb⟩
    obtain ⟨hx, hf⟩ := bcell hb
    go_wp2_with fail
    refine (simplest_any _ _ _ _ _ _ hA hK).mono ?_
    rintro e w2 ⟨rfl, rfl⟩
    generalize (smp (d + c).toNat n d m c).1 = X at *
    generalize (smp (d + c).toNat n d m c).2 = Y at *
    go_wp2_with fail
    refine (make_any _ _ _ (by omega) (by omega) (by omega) (by omega)).mono ?_
    rintro e w3 ⟨rfl, hb3⟩
    replace hb3 := below_on hb hb3
    clear hb hx hf
    obtain ⟨hx, hf⟩ := bcell hb3
    go_wp2_with fail
    refine bodyPost_ret (v := .tuple #[.agg #[.int .i64 (mkNum X Y), .int .i64 (mkDen X Y)], .int .i64 (mkErr X Y)]) (by simp [results, Tryz.results139, go_sem, hx]) rfl ⟨by rw [(HV.out _ _).1, (HV.out _ _).2.1, (HV.out _ _).2.2], ?_⟩
    exact ((past_three hb3).setCell (by simp; omega) _).setCell (by simp; omega) _

end Go.Proofs.YtbhaoaobhgilkaaGreat
