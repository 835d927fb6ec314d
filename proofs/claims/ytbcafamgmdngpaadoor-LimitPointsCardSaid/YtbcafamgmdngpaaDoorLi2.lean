/- Contracts of Meets of package limit and of its reference. -/
import Derived.Test.YtbcafamgmdngpaaDoorLi1
import Derived.Test.YtbcafamgmdngpaaDoorRa4
namespace Go.Proofs.YtbcafamgmdngpaaDoor
open Go.RowKit

/-- Whether the number n / d meets the limit l. -/
def mtB (n d l : Int) : Bool := noB l || (if evB l then decide (n < l / 2 * d) else decide (n ≤ l / 2 * d))

def meB (n d l : Int) : Bool := vldB n d && lvB l && mtB n d l

def meE (n d l : Int) : Int := if vldB n d && lvB l then 0 else 2

theorem ret_be {a b : Bool} {c d : Int} (h : a = b) (g : c = d) : Ending.returned (.tuple #[.bool a, .int .i64 c]) = .returned (.tuple #[.bool b, .int .i64 d]) := by rw [h, g]

theorem of_small {c : Int} (h1 : -2147483647 ≤ c) (h2 : c ≤ 2147483647) : mkNum c 1 = c ∧ mkDen c 1 = 1 ∧ mkErr c 1 = 0 := by
  have ht : top c 1 = c.natAbs := by unfold top; simp
  have hb : bot c 1 = 1 := by unfold bot; simp
  have hf : fits c 1 = true := by unfold fits; rw [ht, hb]; simp; omega
  unfold mkNum mkDen mkErr
  have h0 : ¬ ((1 : Int) = 0) := by decide
  simp only [if_neg h0, hf, if_true, ht, hb]
  refine ⟨?_, by simp⟩
  by_cases hc : c < 0
  · simp [hc]; omega
  · simp [hc]; omega

theorem vld_small {c : Int} (h1 : -2147483647 ≤ c) (h2 : c ≤ 2147483647) : vldB c 1 = true := by unfold vldB; simp; omega

theorem of_as {c : Int} (w : World) (h1 : -2147483647 ≤ c) (h2 : c ≤ 2147483647) : Calls Tryd.prog 34 #[.int .i64 c] w (Made (.tuple #[.agg #[.int .i64 c, .int .i64 1], .int .i64 0]) w) := by
  have h := of_any c w ⟨by omega, by omega⟩
  rwa [(of_small h1 h2).1, (of_small h1 h2).2.1, (of_small h1 h2).2.2] at h

theorem cmp_to {n d c o : Int} (w : World) (v : vldB n d = true) (h1 : -2147483647 ≤ c) (h2 : c ≤ 2147483647) (ho : sgn (n * 1) (c * d) = o) :
    Calls Tryd.prog 35 #[.agg #[.int .i64 n, .int .i64 d], .agg #[.int .i64 c, .int .i64 1]] w (Made (.tuple #[.int .i64 o, .int .i64 0]) w) := by
  obtain ⟨x1, x2, x3, x4⟩ := vld_bd v
  have h := cmp_any n d c 1 w ⟨by omega, by omega⟩ ⟨by omega, by omega⟩ ⟨by omega, by omega⟩ ⟨by omega, by omega⟩
  have g : (vldB n d && vldB c 1) = true := by rw [v, vld_small h1 h2]; rfl
  rw [if_pos g, if_pos g, ho] at h
  exact h

theorem sgn_three (x y : Int) : (sgn x y = -1 ∧ x < y) ∨ (sgn x y = 0 ∧ x = y) ∨ (sgn x y = 1 ∧ y < x) := by
  unfold sgn
  by_cases h : x < y
  · simp [h]
  · by_cases g : y < x
    · simp [h, g]
    · right; left; rw [if_neg h, if_neg g]; omega

set_option maxHeartbeats 400000 in
theorem limMeets_some (n d l : Int) (w : World) (v : vldB n d = true) (hl : I64 l) (vl : lvB l = true) (nl : noB l = false) (l1 : -2147483648 ≤ l) (l2 : l ≤ 2147483649) :
    Calls Tryd.prog 23 #[.agg #[.int .i64 n, .int .i64 d], .int .i64 l] w (Made (.tuple #[.bool (meB n d l), .int .i64 (meE n d l)]) w) := by
  obtain ⟨x1, x2, x3, x4⟩ := vld_bd v
  have L0 : (l == 1099511627776) = false := by simpa [noB] using nl
  have hS := fun W => limSplit_some W hl vl nl
  have HM := Lib.hid (show meB n d l = (if evB l then decide (n < l / 2 * d) else decide (n ≤ l / 2 * d)) ∧ meE n d l = 0 by simp [meB, mtB, meE, v, vl, nl])
  obtain ⟨c, hc⟩ : ∃ c, c = l / 2 := ⟨_, rfl⟩
  have c1 : -2147483647 ≤ c := by omega
  have c2 : c ≤ 2147483647 := by omega
  obtain ⟨s, hs⟩ : ∃ s, s = evB l := ⟨_, rfl⟩
  rw [← hc, ← hs] at hS HM
  clear hc hs
  have V := Lib.hid v
  have VL := Lib.hid vl
  have HS := Lib.hid hS
  clear v vl nl hS
  rcases sgn_three (n * 1) (c * d) with ⟨ho, hr⟩ | ⟨ho, hr⟩ | ⟨ho, hr⟩ <;> cases s
  all_goals
    have HO := Lib.hid ho
    have HR := Lib.hid hr
    clear ho hr
    go_enter Tryd.func23, Tryd.ntmps23
    go_wp2_with fail
    refine (valid_as _ ⟨by omega, by omega⟩ ⟨by omega, by omega⟩ V.out).mono ?_
    rintro e w1 ⟨rfl, hb⟩
    have hB := past_one hb
    have pA := (Pair.made w n d 37).kept hb
    clear hb
    obtain ⟨fA0, fA1, fA2, fA3⟩ := pA.facts
    have gA := pA.lt
    go_wp2_with fail
    refine (limValid_as _ hl VL.out).mono ?_
    rintro e w' ⟨rfl, rfl⟩
    go_wp2_with fail
    refine (HS.out _).mono ?_
    rintro e w' ⟨rfl, rfl⟩
    go_wp2_with fail
    refine (of_as _ c1 c2).mono ?_
    rintro e w2 ⟨rfl, hb⟩
    replace pA := pA.kept hb
    replace hB := below_on hB hb
    clear hb fA0 fA1 fA2 fA3 gA
    obtain ⟨fA0, fA1, fA2, fA3⟩ := pA.facts
    have gA := pA.lt
    go_wp2_with fail
    refine (cmp_to _ V.out c1 c2 HO.out).mono ?_
    rintro e w3 ⟨rfl, hb⟩
    replace hB := on_box hB hb
    clear hb fA0 fA1 fA2 fA3 gA
    go_wp2_with fail
    go_ret2
    refine ⟨ret_be ?_ HM.out.2.symm, hB⟩
    have h := HR.out
    rw [Int.mul_one] at h
    rw [HM.out.1]
    simp
  all_goals omega

set_option maxHeartbeats 400000 in
theorem limMeets_bad1 (n d l : Int) (w : World) (hn : I64 n) (hd : I64 d) (v : vldB n d = false) :
    Calls Tryd.prog 23 #[.agg #[.int .i64 n, .int .i64 d], .int .i64 l] w (Made (.tuple #[.bool (meB n d l), .int .i64 (meE n d l)]) w) := by
  have HM := Lib.hid (show meB n d l = false ∧ meE n d l = 2 by simp [meB, meE, v])
  have V := Lib.hid v
  clear v
  go_enter Tryd.func23, Tryd.ntmps23
  go_wp2_with fail
  refine (valid_as _ hn hd V.out).mono ?_
  rintro e w1 ⟨rfl, hb⟩
  go_wp2_with fail
  go_ret2
  exact ⟨ret_be HM.out.1.symm HM.out.2.symm, past_one hb⟩

set_option maxHeartbeats 400000 in
theorem limMeets_bad2 (n d l : Int) (w : World) (hn : I64 n) (hd : I64 d) (hl : I64 l) (v : vldB n d = true) (vl : lvB l = false) :
    Calls Tryd.prog 23 #[.agg #[.int .i64 n, .int .i64 d], .int .i64 l] w (Made (.tuple #[.bool (meB n d l), .int .i64 (meE n d l)]) w) := by
  have HM := Lib.hid (show meB n d l = false ∧ meE n d l = 2 by simp [meB, meE, vl])
  have V := Lib.hid v
  have VL := Lib.hid vl
  clear v vl
  go_enter Tryd.func23, Tryd.ntmps23
  go_wp2_with fail
  refine (valid_as _ hn hd V.out).mono ?_
  rintro e w1 ⟨rfl, hb⟩
  go_wp2_with fail
  refine (limValid_as _ hl VL.out).mono ?_
  rintro e w' ⟨rfl, rfl⟩
  go_wp2_with fail
  go_ret2
  exact ⟨ret_be HM.out.1.symm HM.out.2.symm, past_one hb⟩

set_option maxHeartbeats 400000 in
theorem limMeets_none (n d l : Int) (w : World) (hn : I64 n) (hd : I64 d) (hl : I64 l) (v : vldB n d = true) (vl : lvB l = true) (nl : noB l = true) :
    Calls Tryd.prog 23 #[.agg #[.int .i64 n, .int .i64 d], .int .i64 l] w (Made (.tuple #[.bool (meB n d l), .int .i64 (meE n d l)]) w) := by
  have HM := Lib.hid (show meB n d l = true ∧ meE n d l = 0 by simp [meB, mtB, meE, v, vl, nl])
  have L0 : (l == 1099511627776) = true := by simpa [noB] using nl
  have V := Lib.hid v
  have VL := Lib.hid vl
  have NL := Lib.hid nl
  clear v vl nl
  go_enter Tryd.func23, Tryd.ntmps23
  go_wp2_with fail
  refine (valid_as _ hn hd V.out).mono ?_
  rintro e w1 ⟨rfl, hb⟩
  go_wp2_with fail
  refine (limValid_as _ hl VL.out).mono ?_
  rintro e w' ⟨rfl, rfl⟩
  go_wp2_with fail
  go_ret2
  exact ⟨ret_be HM.out.1.symm HM.out.2.symm, past_one hb⟩

theorem limMeets_any (n d l : Int) (w : World) (hn : I64 n) (hd : I64 d) (hl : I64 l) :
    Calls Tryd.prog 23 #[.agg #[.int .i64 n, .int .i64 d], .int .i64 l] w (Made (.tuple #[.bool (meB n d l), .int .i64 (meE n d l)]) w) := by
  cases v : vldB n d
  · exact limMeets_bad1 n d l w hn hd v
  · rcases lvB_cases l with ⟨vl, nl, l0, lr⟩ | ⟨l0, vl, nl⟩ | ⟨vl, nl, l0, l1, l2⟩
    · exact limMeets_bad2 n d l w hn hd hl v vl
    · exact limMeets_none n d l w hn hd hl v vl nl
    · exact limMeets_some n d l w v hl vl nl l1 l2

set_option maxHeartbeats 400000 in
theorem refLimMeets_some (n d l : Int) (w : World) (v : vldB n d = true) (hl : I64 l) (vl : lvB l = true) (nl : noB l = false) (l1 : -2147483648 ≤ l) (l2 : l ≤ 2147483649) :
    Calls Tryd.prog 24 #[.agg #[.int .i64 n, .int .i64 d], .int .i64 l] w (Made (.tuple #[.bool (meB n d l), .int .i64 (meE n d l)]) w) := by
  obtain ⟨x1, x2, x3, x4⟩ := vld_bd v
  have L0 : (l == 1099511627776) = false := by simpa [noB] using nl
  have hS := fun W => refSplit_some W hl vl nl
  have HM := Lib.hid (show meB n d l = (if evB l then decide (n < l / 2 * d) else decide (n ≤ l / 2 * d)) ∧ meE n d l = 0 by simp [meB, mtB, meE, v, vl, nl])
  obtain ⟨c, hc⟩ : ∃ c, c = l / 2 := ⟨_, rfl⟩
  have c1 : -2147483647 ≤ c := by omega
  have c2 : c ≤ 2147483647 := by omega
  obtain ⟨p1a, p1b⟩ := mul_bd c1 c2 (show -2147483647 ≤ d by omega) x2
  have e1 := wrap_in (c * d) (by omega) (by omega)
  obtain ⟨s, hs⟩ : ∃ s, s = evB l := ⟨_, rfl⟩
  rw [← hc, ← hs] at hS HM
  clear hc hs
  have V := Lib.hid v
  have VL := Lib.hid vl
  have HS := Lib.hid hS
  clear v vl nl hS
  cases s
  all_goals
    go_enter Tryd.func24, Tryd.ntmps24
    go_wp2_with fail
    refine (refValid_as _ ⟨by omega, by omega⟩ ⟨by omega, by omega⟩ V.out).mono ?_
    rintro e w1 ⟨rfl, hb⟩
    have hB := past_one hb
    have pA := (Pair.made w n d 37).kept hb
    clear hb
    obtain ⟨fA0, fA1, fA2, fA3⟩ := pA.facts
    have gA := pA.lt
    go_wp2_with fail
    refine (refLimValid_as _ hl VL.out).mono ?_
    rintro e w' ⟨rfl, rfl⟩
    go_wp2_with fail
    refine (HS.out _).mono ?_
    rintro e w' ⟨rfl, rfl⟩
    go_wp2_with fail
    go_ret2
    exact ⟨ret_be (by rw [HM.out.1]; simp) HM.out.2.symm, hB⟩

set_option maxHeartbeats 400000 in
theorem refLimMeets_bad1 (n d l : Int) (w : World) (hn : I64 n) (hd : I64 d) (v : vldB n d = false) :
    Calls Tryd.prog 24 #[.agg #[.int .i64 n, .int .i64 d], .int .i64 l] w (Made (.tuple #[.bool (meB n d l), .int .i64 (meE n d l)]) w) := by
  have HM := Lib.hid (show meB n d l = false ∧ meE n d l = 2 by simp [meB, meE, v])
  have V := Lib.hid v
  clear v
  go_enter Tryd.func24, Tryd.ntmps24
  go_wp2_with fail
  refine (refValid_as _ hn hd V.out).mono ?_
  rintro e w1 ⟨rfl, hb⟩
  go_wp2_with fail
  go_ret2
  exact ⟨ret_be HM.out.1.symm HM.out.2.symm, past_one hb⟩

set_option maxHeartbeats 400000 in
theorem refLimMeets_bad2 (n d l : Int) (w : World) (hn : I64 n) (hd : I64 d) (hl : I64 l) (v : vldB n d = true) (vl : lvB l = false) :
    Calls Tryd.prog 24 #[.agg #[.int .i64 n, .int .i64 d], .int .i64 l] w (Made (.tuple #[.bool (meB n d l), .int .i64 (meE n d l)]) w) := by
  have HM := Lib.hid (show meB n d l = false ∧ meE n d l = 2 by simp [meB, meE, vl])
  have V := Lib.hid v
  have VL := Lib.hid vl
  clear v vl
  go_enter Tryd.func24, Tryd.ntmps24
  go_wp2_with fail
  refine (refValid_as _ hn hd V.out).mono ?_
  rintro e w1 ⟨rfl, hb⟩
  go_wp2_with fail
  refine (refLimValid_as _ hl VL.out).mono ?_
  rintro e w' ⟨rfl, rfl⟩
  go_wp2_with fail
  go_ret2
  exact ⟨ret_be HM.out.1.symm HM.out.2.symm, past_one hb⟩

set_option maxHeartbeats 400000 in
theorem refLimMeets_none (n d l : Int) (w : World) (hn : I64 n) (hd : I64 d) (hl : I64 l) (v : vldB n d = true) (vl : lvB l = true) (nl : noB l = true) :
    Calls Tryd.prog 24 #[.agg #[.int .i64 n, .int .i64 d], .int .i64 l] w (Made (.tuple #[.bool (meB n d l), .int .i64 (meE n d l)]) w) := by
  have HM := Lib.hid (show meB n d l = true ∧ meE n d l = 0 by simp [meB, mtB, meE, v, vl, nl])
  have L0 : (l == 1099511627776) = true := by simpa [noB] using nl
  have V := Lib.hid v
  have VL := Lib.hid vl
  have NL := Lib.hid nl
  clear v vl nl
  go_enter Tryd.func24, Tryd.ntmps24
  go_wp2_with fail
  refine (refValid_as _ hn hd V.out).mono ?_
  rintro e w1 ⟨rfl, hb⟩
  go_wp2_with fail
  refine (refLimValid_as _ hl VL.out).mono ?_
  rintro e w' ⟨rfl, rfl⟩
  go_wp2_with fail
  refine (refSplit_none _ hl VL.out NL.out).mono ?_
  rintro e w' ⟨rfl, rfl⟩
  go_wp2_with fail
  go_ret2
  exact ⟨ret_be HM.out.1.symm HM.out.2.symm, past_one hb⟩

theorem refLimMeets_any (n d l : Int) (w : World) (hn : I64 n) (hd : I64 d) (hl : I64 l) :
    Calls Tryd.prog 24 #[.agg #[.int .i64 n, .int .i64 d], .int .i64 l] w (Made (.tuple #[.bool (meB n d l), .int .i64 (meE n d l)]) w) := by
  cases v : vldB n d
  · exact refLimMeets_bad1 n d l w hn hd v
  · rcases lvB_cases l with ⟨vl, nl, l0, lr⟩ | ⟨l0, vl, nl⟩ | ⟨vl, nl, l0, l1, l2⟩
    · exact refLimMeets_bad2 n d l w hn hd hl v vl
    · exact refLimMeets_none n d l w hn hd hl v vl nl
    · exact refLimMeets_some n d l w v hl vl nl l1 l2
end Go.Proofs.YtbcafamgmdngpaaDoor
