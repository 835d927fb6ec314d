/- Contracts of Add, Sub, Mul, Div of package ratio and of the reference.; Contracts of Of, Neg, Floor, Ceil, Cmp of package ratio and of the reference, and of the reference's Sub.; Plain mathematics: the simplest number between two others, as the program finds it, lies between them and is the simplest. Nothing of the program is named here.; Contracts of simplest and Middle, of package ratio and of the reference.; Contracts of Middle, of package ratio and of the reference.; Ratios as pairs of integers; whole and must of package poly.; The contract of sum of layer 7's reference.; Plain mathematics: what the reference leaves of the shorter lines is what the project leaves of the long ones, shortened.; What the reference's leave has between two lines; plain mathematics of its lists.; slices.Clone at lines.; The contract of package poly's implies.; The closure of package poly's Implies.; The contract of leave of layer 7's reference. -/
import Derived.Test.YtefpaobboimakaaGreatHp3
import Derived.Test.YtefpaobboimakaaGreatHp2
import Derived.Deep.RegionHeld3
import Derived.Lib.AppendZeros
import Derived.BigQuiet

namespace Go.Proofs.YtefpaobboimakaaGreat
open Go.RowKit

set_option maxHeartbeats 400000 in
theorem add_any (n d m c : Int) (w : World) (hn : I64 n) (hd : I64 d) (hm : I64 m) (hc : I64 c) :
    Calls Tryz.prog 140 #[.agg #[.int .i64 n, .int .i64 d], .agg #[.int .i64 m, .int .i64 c]] w
      (Made (.tuple #[.agg #[.int .i64 (opNum (vldB n d && vldB m c) (n * c + m * d) (d * c)), .int .i64 (opDen (vldB n d && vldB m c) (n * c + m * d) (d * c))], .int .i64 (opErr (vldB n d && vldB m c) (n * c + m * d) (d * c))]) w) := by
  by_cases v1 : vldB n d = true
  · by_cases v2 : vldB m c = true
    · have V1 := Lib.hid v1
      have V2 := Lib.hid v2
      obtain ⟨x1, x2, x3, x4⟩ := vld_bd v1
      obtain ⟨y1, y2, y3, y4⟩ := vld_bd v2
      have HV := Lib.hid (show opNum (vldB n d && vldB m c) (n * c + m * d) (d * c) = mkNum (n * c + m * d) (d * c) ∧ opDen (vldB n d && vldB m c) (n * c + m * d) (d * c) = mkDen (n * c + m * d) (d * c) ∧ opErr (vldB n d && vldB m c) (n * c + m * d) (d * c) = mkErr (n * c + m * d) (d * c) by simp [opNum, opDen, opErr, v1, v2])
      clear v1 v2
      obtain ⟨p1a, p1b⟩ := mul_bd x3 x4 (show -2147483647 ≤ c by omega) y2
      obtain ⟨p2a, p2b⟩ := mul_bd y3 y4 (show -2147483647 ≤ d by omega) x2
      obtain ⟨p3a, p3b⟩ := mul_bd (show -2147483647 ≤ d by omega) x2 (show -2147483647 ≤ c by omega) y2
      obtain ⟨p4a, p4b⟩ := mul_bd x3 x4 y3 y4
      obtain ⟨p5a, p5b⟩ := mul_bd (show -2147483647 ≤ d by omega) x2 y3 y4
      go_enter Tryz.func140, Tryz.ntmps140
      go_wp2_with fail
      refine (valid_as _ hn hd V1.out).mono ?_
      rintro e w1 ⟨rfl, hb⟩
      obtain ⟨hx, hf⟩ := bcell hb
      go_wp2_with fail
      refine (valid_as _ hm hc V2.out).mono ?_
      rintro e w2 ⟨rfl, hb2⟩
      replace hb2 := below_on hb hb2
      clear hb hx hf
      obtain ⟨hx, hf⟩ := bcell hb2
      go_wp2_with fail
      refine (make_any _ _ _ (by omega) (by omega) (by omega) (by omega)).mono ?_
      rintro e w3 ⟨rfl, hb3⟩
      replace hb3 := below_on hb2 hb3
      clear hb2 hx hf
      obtain ⟨hx, hf⟩ := bcell hb3
      go_wp2_with fail
      refine bodyPost_ret (v := .tuple #[.agg #[.int .i64 (mkNum (n * c + m * d) (d * c)), .int .i64 (mkDen (n * c + m * d) (d * c))], .int .i64 (mkErr (n * c + m * d) (d * c))]) (by simp [results, Tryz.results140, go_sem, hx]) rfl ⟨?_, ?_⟩
      · rw [HV.out.1, HV.out.2.1, HV.out.2.2]
      · exact ((past_three hb3).setCell (by simp; omega) _).setCell (by simp; omega) _
    · have V1 := Lib.hid v1
      have v2' : vldB m c = false := by simpa using v2
      have V2 := Lib.hid v2'
      have HV := Lib.hid (show opNum (vldB n d && vldB m c) (n * c + m * d) (d * c) = 0 ∧ opDen (vldB n d && vldB m c) (n * c + m * d) (d * c) = 0 ∧ opErr (vldB n d && vldB m c) (n * c + m * d) (d * c) = 2 by simp [opNum, opDen, opErr, v1, v2'])
      clear v1 v2 v2'
      go_enter Tryz.func140, Tryz.ntmps140
      go_wp2_with fail
      refine (valid_as _ hn hd V1.out).mono ?_
      rintro e w1 ⟨rfl, hb⟩
      obtain ⟨hx, hf⟩ := bcell hb
      go_wp2_with fail
      refine (valid_as _ hm hc V2.out).mono ?_
      rintro e w2 ⟨rfl, hb2⟩
      replace hb2 := below_on hb hb2
      clear hb hx hf
      obtain ⟨hx, hf⟩ := bcell hb2
      go_wp2_with fail
      refine bodyPost_ret (v := .tuple #[.agg #[.int .i64 0, .int .i64 0], .int .i64 2]) (by simp [results, Tryz.results140, go_sem, hx]) rfl ⟨?_, ?_⟩
      · rw [HV.out.1, HV.out.2.1, HV.out.2.2]
      · exact ((past_three hb2).setCell (by simp; omega) _).setCell (by simp; omega) _
  · have v1' : vldB n d = false := by simpa using v1
    have V1 := Lib.hid v1'
    have HV := Lib.hid (show opNum (vldB n d && vldB m c) (n * c + m * d) (d * c) = 0 ∧ opDen (vldB n d && vldB m c) (n * c + m * d) (d * c) = 0 ∧ opErr (vldB n d && vldB m c) (n * c + m * d) (d * c) = 2 by simp [opNum, opDen, opErr, v1'])
    clear v1 v1'
    go_enter Tryz.func140, Tryz.ntmps140
    go_wp2_with fail
    refine (valid_as _ hn hd V1.out).mono ?_
    rintro e w1 ⟨rfl, hb⟩
    obtain ⟨hx, hf⟩ := bcell hb
    go_wp2_with fail
    refine bodyPost_ret (v := .tuple #[.agg #[.int .i64 0, .int .i64 0], .int .i64 2]) (by simp [results, Tryz.results140, go_sem, hx]) rfl ⟨?_, ?_⟩
    · rw [HV.out.1, HV.out.2.1, HV.out.2.2]
    · exact ((past_three hb).setCell (by simp; omega) _).setCell (by simp; omega) _

set_option maxHeartbeats 400000 in
theorem sub_any (n d m c : Int) (w : World) (hn : I64 n) (hd : I64 d) (hm : I64 m) (hc : I64 c) :
    Calls Tryz.prog 141 #[.agg #[.int .i64 n, .int .i64 d], .agg #[.int .i64 m, .int .i64 c]] w
      (Made (.tuple #[.agg #[.int .i64 (opNum (vldB n d && vldB m c) (n * c - m * d) (d * c)), .int .i64 (opDen (vldB n d && vldB m c) (n * c - m * d) (d * c))], .int .i64 (opErr (vldB n d && vldB m c) (n * c - m * d) (d * c))]) w) := by
  by_cases v1 : vldB n d = true
  · by_cases v2 : vldB m c = true
    · have V1 := Lib.hid v1
      have V2 := Lib.hid v2
      obtain ⟨x1, x2, x3, x4⟩ := vld_bd v1
      obtain ⟨y1, y2, y3, y4⟩ := vld_bd v2
      have HV := Lib.hid (show opNum (vldB n d && vldB m c) (n * c - m * d) (d * c) = mkNum (n * c - m * d) (d * c) ∧ opDen (vldB n d && vldB m c) (n * c - m * d) (d * c) = mkDen (n * c - m * d) (d * c) ∧ opErr (vldB n d && vldB m c) (n * c - m * d) (d * c) = mkErr (n * c - m * d) (d * c) by simp [opNum, opDen, opErr, v1, v2])
      clear v1 v2
      obtain ⟨p1a, p1b⟩ := mul_bd x3 x4 (show -2147483647 ≤ c by omega) y2
      obtain ⟨p2a, p2b⟩ := mul_bd y3 y4 (show -2147483647 ≤ d by omega) x2
      obtain ⟨p3a, p3b⟩ := mul_bd (show -2147483647 ≤ d by omega) x2 (show -2147483647 ≤ c by omega) y2
      obtain ⟨p4a, p4b⟩ := mul_bd x3 x4 y3 y4
      obtain ⟨p5a, p5b⟩ := mul_bd (show -2147483647 ≤ d by omega) x2 y3 y4
      go_enter Tryz.func141, Tryz.ntmps141
      go_wp2_with fail
      refine (valid_as _ hn hd V1.out).mono ?_
      rintro e w1 ⟨rfl, hb⟩
      obtain ⟨hx, hf⟩ := bcell hb
      go_wp2_with fail
      refine (valid_as _ hm hc V2.out).mono ?_
      rintro e w2 ⟨rfl, hb2⟩
      replace hb2 := below_on hb hb2
      clear hb hx hf
      obtain ⟨hx, hf⟩ := bcell hb2
      go_wp2_with fail
      refine (make_any _ _ _ (by omega) (by omega) (by omega) (by omega)).mono ?_
      rintro e w3 ⟨rfl, hb3⟩
      replace hb3 := below_on hb2 hb3
      clear hb2 hx hf
      obtain ⟨hx, hf⟩ := bcell hb3
      go_wp2_with fail
      refine bodyPost_ret (v := .tuple #[.agg #[.int .i64 (mkNum (n * c - m * d) (d * c)), .int .i64 (mkDen (n * c - m * d) (d * c))], .int .i64 (mkErr (n * c - m * d) (d * c))]) (by simp [results, Tryz.results141, go_sem, hx]) rfl ⟨?_, ?_⟩
      · rw [HV.out.1, HV.out.2.1, HV.out.2.2]
      · exact ((past_three hb3).setCell (by simp; omega) _).setCell (by simp; omega) _
    · have V1 := Lib.hid v1
      have v2' : vldB m c = false := by simpa using v2
      have V2 := Lib.hid v2'
      have HV := Lib.hid (show opNum (vldB n d && vldB m c) (n * c - m * d) (d * c) = 0 ∧ opDen (vldB n d && vldB m c) (n * c - m * d) (d * c) = 0 ∧ opErr (vldB n d && vldB m c) (n * c - m * d) (d * c) = 2 by simp [opNum, opDen, opErr, v1, v2'])
      clear v1 v2 v2'
      go_enter Tryz.func141, Tryz.ntmps141
      go_wp2_with fail
      refine (valid_as _ hn hd V1.out).mono ?_
      rintro e w1 ⟨rfl, hb⟩
      obtain ⟨hx, hf⟩ := bcell hb
      go_wp2_with fail
      refine (valid_as _ hm hc V2.out).mono ?_
      rintro e w2 ⟨rfl, hb2⟩
      replace hb2 := below_on hb hb2
      clear hb hx hf
      obtain ⟨hx, hf⟩ := bcell hb2
      go_wp2_with fail
      refine bodyPost_ret (v := .tuple #[.agg #[.int .i64 0, .int .i64 0], .int .i64 2]) (by simp [results, Tryz.results141, go_sem, hx]) rfl ⟨?_, ?_⟩
      · rw [HV.out.1, HV.out.2.1, HV.out.2.2]
      · exact ((past_three hb2).setCell (by simp; omega) _).setCell (by simp; omega) _
  · have v1' : vldB n d = false := by simpa using v1
    have V1 := Lib.hid v1'
    have HV := Lib.hid (show opNum (vldB n d && vldB m c) (n * c - m * d) (d * c) = 0 ∧ opDen (vldB n d && vldB m c) (n * c - m * d) (d * c) = 0 ∧ opErr (vldB n d && vldB m c) (n * c - m * d) (d * c) = 2 by simp [opNum, opDen, opErr, v1'])
    clear v1 v1'
    go_enter Tryz.func141, Tryz.ntmps141
    go_wp2_with fail
    refine (valid_as _ hn hd V1.out).mono ?_
    rintro e w1 ⟨rfl, hb⟩
    obtain ⟨hx, hf⟩ := bcell hb
    go_wp2_with fail
    refine bodyPost_ret (v := .tuple #[.agg #[.int .i64 0, .int .i64 0], .int .i64 2]) (by simp [results, Tryz.results141, go_sem, hx]) rfl ⟨?_, ?_⟩
    · rw [HV.out.1, HV.out.2.1, HV.out.2.2]
    · exact ((past_three hb).setCell (by simp; omega) _).setCell (by simp; omega) _

set_option maxHeartbeats 400000 in
theorem mul_any (n d m c : Int) (w : World) (hn : I64 n) (hd : I64 d) (hm : I64 m) (hc : I64 c) :
    Calls Tryz.prog 152 #[.agg #[.int .i64 n, .int .i64 d], .agg #[.int .i64 m, .int .i64 c]] w
      (Made (.tuple #[.agg #[.int .i64 (opNum (vldB n d && vldB m c) (n * m) (d * c)), .int .i64 (opDen (vldB n d && vldB m c) (n * m) (d * c))], .int .i64 (opErr (vldB n d && vldB m c) (n * m) (d * c))]) w) := by
  by_cases v1 : vldB n d = true
  · by_cases v2 : vldB m c = true
    · have V1 := Lib.hid v1
      have V2 := Lib.hid v2
      obtain ⟨x1, x2, x3, x4⟩ := vld_bd v1
      obtain ⟨y1, y2, y3, y4⟩ := vld_bd v2
      have HV := Lib.hid (show opNum (vldB n d && vldB m c) (n * m) (d * c) = mkNum (n * m) (d * c) ∧ opDen (vldB n d && vldB m c) (n * m) (d * c) = mkDen (n * m) (d * c) ∧ opErr (vldB n d && vldB m c) (n * m) (d * c) = mkErr (n * m) (d * c) by simp [opNum, opDen, opErr, v1, v2])
      clear v1 v2
      obtain ⟨p1a, p1b⟩ := mul_bd x3 x4 (show -2147483647 ≤ c by omega) y2
      obtain ⟨p2a, p2b⟩ := mul_bd y3 y4 (show -2147483647 ≤ d by omega) x2
      obtain ⟨p3a, p3b⟩ := mul_bd (show -2147483647 ≤ d by omega) x2 (show -2147483647 ≤ c by omega) y2
      obtain ⟨p4a, p4b⟩ := mul_bd x3 x4 y3 y4
      obtain ⟨p5a, p5b⟩ := mul_bd (show -2147483647 ≤ d by omega) x2 y3 y4
      go_enter Tryz.func152, Tryz.ntmps152
      go_wp2_with fail
      refine (valid_as _ hn hd V1.out).mono ?_
      rintro e w1 ⟨rfl, hb⟩
      obtain ⟨hx, hf⟩ := bcell hb
      go_wp2_with fail
      refine (valid_as _ hm hc V2.out).mono ?_
      rintro e w2 ⟨rfl, hb2⟩
      replace hb2 := below_on hb hb2
      clear hb hx hf
      obtain ⟨hx, hf⟩ := bcell hb2
      go_wp2_with fail
      refine (make_any _ _ _ (by omega) (by omega) (by omega) (by omega)).mono ?_
      rintro e w3 ⟨rfl, hb3⟩
      replace hb3 := below_on hb2 hb3
      clear hb2 hx hf
      obtain ⟨hx, hf⟩ := bcell hb3
      go_wp2_with fail
      refine bodyPost_ret (v := .tuple #[.agg #[.int .i64 (mkNum (n * m) (d * c)), .int .i64 (mkDen (n * m) (d * c))], .int .i64 (mkErr (n * m) (d * c))]) (by simp [results, Tryz.results152, go_sem, hx]) rfl ⟨?_, ?_⟩
      · rw [HV.out.1, HV.out.2.1, HV.out.2.2]
      · exact ((past_three hb3).setCell (by simp; omega) _).setCell (by simp; omega) _
    · have V1 := Lib.hid v1
      have v2' : vldB m c = false := by simpa using v2
      have V2 := Lib.hid v2'
      have HV := Lib.hid (show opNum (vldB n d && vldB m c) (n * m) (d * c) = 0 ∧ opDen (vldB n d && vldB m c) (n * m) (d * c) = 0 ∧ opErr (vldB n d && vldB m c) (n * m) (d * c) = 2 by simp [opNum, opDen, opErr, v1, v2'])
      clear v1 v2 v2'
      go_enter Tryz.func152, Tryz.ntmps152
      go_wp2_with fail
      refine (valid_as _ hn hd V1.out).mono ?_
      rintro e w1 ⟨rfl, hb⟩
      obtain ⟨hx, hf⟩ := bcell hb
      go_wp2_with fail
      refine (valid_as _ hm hc V2.out).mono ?_
      rintro e w2 ⟨rfl, hb2⟩
      replace hb2 := below_on hb hb2
      clear hb hx hf
      obtain ⟨hx, hf⟩ := bcell hb2
      go_wp2_with fail
      refine bodyPost_ret (v := .tuple #[.agg #[.int .i64 0, .int .i64 0], .int .i64 2]) (by simp [results, Tryz.results152, go_sem, hx]) rfl ⟨?_, ?_⟩
      · rw [HV.out.1, HV.out.2.1, HV.out.2.2]
      · exact ((past_three hb2).setCell (by simp; omega) _).setCell (by simp; omega) _
  · have v1' : vldB n d = false := by simpa using v1
    have V1 := Lib.hid v1'
    have HV := Lib.hid (show opNum (vldB n d && vldB m c) (n * m) (d * c) = 0 ∧ opDen (vldB n d && vldB m c) (n * m) (d * c) = 0 ∧ opErr (vldB n d && vldB m c) (n * m) (d * c) = 2 by simp [opNum, opDen, opErr, v1'])
    clear v1 v1'
    go_enter Tryz.func152, Tryz.ntmps152
    go_wp2_with fail
    refine (valid_as _ hn hd V1.out).mono ?_
    rintro e w1 ⟨rfl, hb⟩
    obtain ⟨hx, hf⟩ := bcell hb
    go_wp2_with fail
    refine bodyPost_ret (v := .tuple #[.agg #[.int .i64 0, .int .i64 0], .int .i64 2]) (by simp [results, Tryz.results152, go_sem, hx]) rfl ⟨?_, ?_⟩
    · rw [HV.out.1, HV.out.2.1, HV.out.2.2]
    · exact ((past_three hb).setCell (by simp; omega) _).setCell (by simp; omega) _

set_option maxHeartbeats 400000 in
theorem div_any (n d m c : Int) (w : World) (hn : I64 n) (hd : I64 d) (hm : I64 m) (hc : I64 c) :
    Calls Tryz.prog 144 #[.agg #[.int .i64 n, .int .i64 d], .agg #[.int .i64 m, .int .i64 c]] w
      (Made (.tuple #[.agg #[.int .i64 (opNum (vldB n d && vldB m c && !decide (m = 0)) (n * c) (d * m)), .int .i64 (opDen (vldB n d && vldB m c && !decide (m = 0)) (n * c) (d * m))], .int .i64 (opErr (vldB n d && vldB m c && !decide (m = 0)) (n * c) (d * m))]) w) := by
  by_cases v1 : vldB n d = true
  · by_cases v2 : vldB m c = true
    · have V1 := Lib.hid v1
      have V2 := Lib.hid v2
      by_cases m0 : m = 0
      · have HV := Lib.hid (show opNum (vldB n d && vldB m c && !decide (m = 0)) (n * c) (d * m) = 0 ∧ opDen (vldB n d && vldB m c && !decide (m = 0)) (n * c) (d * m) = 0 ∧ opErr (vldB n d && vldB m c && !decide (m = 0)) (n * c) (d * m) = 2 by simp [opNum, opDen, opErr, v1, m0])
        clear v1 v2
        subst m0
        go_enter Tryz.func144, Tryz.ntmps144
        go_wp2_with fail
        refine (valid_as _ hn hd V1.out).mono ?_
        rintro e w1 ⟨rfl, hb⟩
        obtain ⟨hx, hf⟩ := bcell hb
        go_wp2_with fail
        refine (valid_as _ hm hc V2.out).mono ?_
        rintro e w2 ⟨rfl, hb2⟩
        replace hb2 := below_on hb hb2
        clear hb hx hf
        obtain ⟨hx, hf⟩ := bcell hb2
        go_wp2_with fail
        refine bodyPost_ret (v := .tuple #[.agg #[.int .i64 0, .int .i64 0], .int .i64 2]) (by simp [results, Tryz.results144, go_sem, hx]) rfl ⟨?_, ?_⟩
        · rw [HV.out.1, HV.out.2.1, HV.out.2.2]
        · exact ((past_three hb2).setCell (by simp; omega) _).setCell (by simp; omega) _
      have M0 : (m == 0) = false := by simpa using m0
      obtain ⟨x1, x2, x3, x4⟩ := vld_bd v1
      obtain ⟨y1, y2, y3, y4⟩ := vld_bd v2
      have HV := Lib.hid (show opNum (vldB n d && vldB m c && !decide (m = 0)) (n * c) (d * m) = mkNum (n * c) (d * m) ∧ opDen (vldB n d && vldB m c && !decide (m = 0)) (n * c) (d * m) = mkDen (n * c) (d * m) ∧ opErr (vldB n d && vldB m c && !decide (m = 0)) (n * c) (d * m) = mkErr (n * c) (d * m) by simp [opNum, opDen, opErr, v1, v2, m0])
      clear v1 v2
      obtain ⟨p1a, p1b⟩ := mul_bd x3 x4 (show -2147483647 ≤ c by omega) y2
      obtain ⟨p2a, p2b⟩ := mul_bd y3 y4 (show -2147483647 ≤ d by omega) x2
      obtain ⟨p3a, p3b⟩ := mul_bd (show -2147483647 ≤ d by omega) x2 (show -2147483647 ≤ c by omega) y2
      obtain ⟨p4a, p4b⟩ := mul_bd x3 x4 y3 y4
      obtain ⟨p5a, p5b⟩ := mul_bd (show -2147483647 ≤ d by omega) x2 y3 y4
      go_enter Tryz.func144, Tryz.ntmps144
      go_wp2_with fail
      refine (valid_as _ hn hd V1.out).mono ?_
      rintro e w1 ⟨rfl, hb⟩
      obtain ⟨hx, hf⟩ := bcell hb
      go_wp2_with fail
      refine (valid_as _ hm hc V2.out).mono ?_
      rintro e w2 ⟨rfl, hb2⟩
      replace hb2 := below_on hb hb2
      clear hb hx hf
      obtain ⟨hx, hf⟩ := bcell hb2
      go_wp2_with fail
      refine (make_any _ _ _ (by omega) (by omega) (by omega) (by omega)).mono ?_
      rintro e w3 ⟨rfl, hb3⟩
      replace hb3 := below_on hb2 hb3
      clear hb2 hx hf
      obtain ⟨hx, hf⟩ := bcell hb3
      go_wp2_with fail
      refine bodyPost_ret (v := .tuple #[.agg #[.int .i64 (mkNum (n * c) (d * m)), .int .i64 (mkDen (n * c) (d * m))], .int .i64 (mkErr (n * c) (d * m))]) (by simp [results, Tryz.results144, go_sem, hx]) rfl ⟨?_, ?_⟩
      · rw [HV.out.1, HV.out.2.1, HV.out.2.2]
      · exact ((past_three hb3).setCell (by simp; omega) _).setCell (by simp; omega) _
    · have V1 := Lib.hid v1
      have v2' : vldB m c = false := by simpa using v2
      have V2 := Lib.hid v2'
      have HV := Lib.hid (show opNum (vldB n d && vldB m c && !decide (m = 0)) (n * c) (d * m) = 0 ∧ opDen (vldB n d && vldB m c && !decide (m = 0)) (n * c) (d * m) = 0 ∧ opErr (vldB n d && vldB m c && !decide (m = 0)) (n * c) (d * m) = 2 by simp [opNum, opDen, opErr, v1, v2'])
      clear v1 v2 v2'
      go_enter Tryz.func144, Tryz.ntmps144
      go_wp2_with fail
      refine (valid_as _ hn hd V1.out).mono ?_
      rintro e w1 ⟨rfl, hb⟩
      obtain ⟨hx, hf⟩ := bcell hb
      go_wp2_with fail
      refine (valid_as _ hm hc V2.out).mono ?_
      rintro e w2 ⟨rfl, hb2⟩
      replace hb2 := below_on hb hb2
      clear hb hx hf
      obtain ⟨hx, hf⟩ := bcell hb2
      go_wp2_with fail
      refine bodyPost_ret (v := .tuple #[.agg #[.int .i64 0, .int .i64 0], .int .i64 2]) (by simp [results, Tryz.results144, go_sem, hx]) rfl ⟨?_, ?_⟩
      · rw [HV.out.1, HV.out.2.1, HV.out.2.2]
      · exact ((past_three hb2).setCell (by simp; omega) _).setCell (by simp; omega) _
  · have v1' : vldB n d = false := by simpa using v1
    have V1 := Lib.hid v1'
    have HV := Lib.hid (show opNum (vldB n d && vldB m c && !decide (m = 0)) (n * c) (d * m) = 0 ∧ opDen (vldB n d && vldB m c && !decide (m = 0)) (n * c) (d * m) = 0 ∧ opErr (vldB n d && vldB m c && !decide (m = 0)) (n * c) (d * m) = 2 by simp [opNum, opDen, opErr, v1'])
    clear v1 v1'
    go_enter Tryz.func144, Tryz.ntmps144
    go_wp2_with fail
    refine (valid_as _ hn hd V1.out).mono ?_
    rintro e w1 ⟨rfl, hb⟩
    obtain ⟨hx, hf⟩ := bcell hb
    go_wp2_with fail
    refine bodyPost_ret (v := .tuple #[.agg #[.int .i64 0, .int .i64 0], .int .i64 2]) (by simp [results, Tryz.results144, go_sem, hx]) rfl ⟨?_, ?_⟩
    · rw [HV.out.1, HV.out.2.1, HV.out.2.2]
    · exact ((past_three hb).setCell (by simp; omega) _).setCell (by simp; omega) _

set_option maxHeartbeats 400000 in
theorem refAdd_any (n d m c : Int) (w : World) (hn : I64 n) (hd : I64 d) (hm : I64 m) (hc : I64 c) :
    Calls Tryz.prog 34 #[.agg #[.int .i64 n, .int .i64 d], .agg #[.int .i64 m, .int .i64 c]] w
      (Made (.tuple #[.agg #[.int .i64 (opNum (vldB n d && vldB m c) (n * c + m * d) (d * c)), .int .i64 (opDen (vldB n d && vldB m c) (n * c + m * d) (d * c))], .int .i64 (opErr (vldB n d && vldB m c) (n * c + m * d) (d * c))]) w) := by
  by_cases v1 : vldB n d = true
  · by_cases v2 : vldB m c = true
    · have V1 := Lib.hid v1
      have V2 := Lib.hid v2
      obtain ⟨x1, x2, x3, x4⟩ := vld_bd v1
      obtain ⟨y1, y2, y3, y4⟩ := vld_bd v2
      have HV := Lib.hid (show opNum (vldB n d && vldB m c) (n * c + m * d) (d * c) = mkNum (n * c + m * d) (d * c) ∧ opDen (vldB n d && vldB m c) (n * c + m * d) (d * c) = mkDen (n * c + m * d) (d * c) ∧ opErr (vldB n d && vldB m c) (n * c + m * d) (d * c) = mkErr (n * c + m * d) (d * c) by simp [opNum, opDen, opErr, v1, v2])
      clear v1 v2
      obtain ⟨p1a, p1b⟩ := mul_bd x3 x4 (show -2147483647 ≤ c by omega) y2
      obtain ⟨p2a, p2b⟩ := mul_bd y3 y4 (show -2147483647 ≤ d by omega) x2
      obtain ⟨p3a, p3b⟩ := mul_bd (show -2147483647 ≤ d by omega) x2 (show -2147483647 ≤ c by omega) y2
      obtain ⟨p4a, p4b⟩ := mul_bd x3 x4 y3 y4
      obtain ⟨p5a, p5b⟩ := mul_bd (show -2147483647 ≤ d by omega) x2 y3 y4
      go_enter Tryz.func34, Tryz.ntmps34
      go_wp2_with fail
      refine (refValid_as _ hn hd V1.out).mono ?_
      rintro e w1 ⟨rfl, hb⟩
      obtain ⟨hx, hf⟩ := bcell hb
      go_wp2_with fail
      refine (refValid_as _ hm hc V2.out).mono ?_
      rintro e w2 ⟨rfl, hb2⟩
      replace hb2 := below_on hb hb2
      clear hb hx hf
      obtain ⟨hx, hf⟩ := bcell hb2
      go_wp2_with fail
      refine (refMake_any _ _ _ (by omega) (by omega) (by omega) (by omega)).mono ?_
      rintro e w3 ⟨rfl, hb3⟩
      replace hb3 := below_on hb2 hb3
      clear hb2 hx hf
      obtain ⟨hx, hf⟩ := bcell hb3
      go_wp2_with fail
      refine bodyPost_ret (v := .tuple #[.agg #[.int .i64 (mkNum (n * c + m * d) (d * c)), .int .i64 (mkDen (n * c + m * d) (d * c))], .int .i64 (mkErr (n * c + m * d) (d * c))]) (by simp [results, Tryz.results34, go_sem, hx]) rfl ⟨?_, ?_⟩
      · rw [HV.out.1, HV.out.2.1, HV.out.2.2]
      · exact ((past_three hb3).setCell (by simp; omega) _).setCell (by simp; omega) _
    · have V1 := Lib.hid v1
      have v2' : vldB m c = false := by simpa using v2
      have V2 := Lib.hid v2'
      have HV := Lib.hid (show opNum (vldB n d && vldB m c) (n * c + m * d) (d * c) = 0 ∧ opDen (vldB n d && vldB m c) (n * c + m * d) (d * c) = 0 ∧ opErr (vldB n d && vldB m c) (n * c + m * d) (d * c) = 2 by simp [opNum, opDen, opErr, v1, v2'])
      clear v1 v2 v2'
      go_enter Tryz.func34, Tryz.ntmps34
      go_wp2_with fail
      refine (refValid_as _ hn hd V1.out).mono ?_
      rintro e w1 ⟨rfl, hb⟩
      obtain ⟨hx, hf⟩ := bcell hb
      go_wp2_with fail
      refine (refValid_as _ hm hc V2.out).mono ?_
      rintro e w2 ⟨rfl, hb2⟩
      replace hb2 := below_on hb hb2
      clear hb hx hf
      obtain ⟨hx, hf⟩ := bcell hb2
      go_wp2_with fail
      refine bodyPost_ret (v := .tuple #[.agg #[.int .i64 0, .int .i64 0], .int .i64 2]) (by simp [results, Tryz.results34, go_sem, hx]) rfl ⟨?_, ?_⟩
      · rw [HV.out.1, HV.out.2.1, HV.out.2.2]
      · exact ((past_three hb2).setCell (by simp; omega) _).setCell (by simp; omega) _
  · have v1' : vldB n d = false := by simpa using v1
    have V1 := Lib.hid v1'
    have HV := Lib.hid (show opNum (vldB n d && vldB m c) (n * c + m * d) (d * c) = 0 ∧ opDen (vldB n d && vldB m c) (n * c + m * d) (d * c) = 0 ∧ opErr (vldB n d && vldB m c) (n * c + m * d) (d * c) = 2 by simp [opNum, opDen, opErr, v1'])
    clear v1 v1'
    go_enter Tryz.func34, Tryz.ntmps34
    go_wp2_with fail
    refine (refValid_as _ hn hd V1.out).mono ?_
    rintro e w1 ⟨rfl, hb⟩
    obtain ⟨hx, hf⟩ := bcell hb
    go_wp2_with fail
    refine bodyPost_ret (v := .tuple #[.agg #[.int .i64 0, .int .i64 0], .int .i64 2]) (by simp [results, Tryz.results34, go_sem, hx]) rfl ⟨?_, ?_⟩
    · rw [HV.out.1, HV.out.2.1, HV.out.2.2]
    · exact ((past_three hb).setCell (by simp; omega) _).setCell (by simp; omega) _

set_option maxHeartbeats 400000 in
theorem refMul_any (n d m c : Int) (w : World) (hn : I64 n) (hd : I64 d) (hm : I64 m) (hc : I64 c) :
    Calls Tryz.prog 33 #[.agg #[.int .i64 n, .int .i64 d], .agg #[.int .i64 m, .int .i64 c]] w
      (Made (.tuple #[.agg #[.int .i64 (opNum (vldB n d && vldB m c) (n * m) (d * c)), .int .i64 (opDen (vldB n d && vldB m c) (n * m) (d * c))], .int .i64 (opErr (vldB n d && vldB m c) (n * m) (d * c))]) w) := by
  by_cases v1 : vldB n d = true
  · by_cases v2 : vldB m c = true
    · have V1 := Lib.hid v1
      have V2 := Lib.hid v2
      obtain ⟨x1, x2, x3, x4⟩ := vld_bd v1
      obtain ⟨y1, y2, y3, y4⟩ := vld_bd v2
      have HV := Lib.hid (show opNum (vldB n d && vldB m c) (n * m) (d * c) = mkNum (n * m) (d * c) ∧ opDen (vldB n d && vldB m c) (n * m) (d * c) = mkDen (n * m) (d * c) ∧ opErr (vldB n d && vldB m c) (n * m) (d * c) = mkErr (n * m) (d * c) by simp [opNum, opDen, opErr, v1, v2])
      clear v1 v2
      obtain ⟨p1a, p1b⟩ := mul_bd x3 x4 (show -2147483647 ≤ c by omega) y2
      obtain ⟨p2a, p2b⟩ := mul_bd y3 y4 (show -2147483647 ≤ d by omega) x2
      obtain ⟨p3a, p3b⟩ := mul_bd (show -2147483647 ≤ d by omega) x2 (show -2147483647 ≤ c by omega) y2
      obtain ⟨p4a, p4b⟩ := mul_bd x3 x4 y3 y4
      obtain ⟨p5a, p5b⟩ := mul_bd (show -2147483647 ≤ d by omega) x2 y3 y4
      go_enter Tryz.func33, Tryz.ntmps33
      go_wp2_with fail
      refine (refValid_as _ hn hd V1.out).mono ?_
      rintro e w1 ⟨rfl, hb⟩
      obtain ⟨hx, hf⟩ := bcell hb
      go_wp2_with fail
      refine (refValid_as _ hm hc V2.out).mono ?_
      rintro e w2 ⟨rfl, hb2⟩
      replace hb2 := below_on hb hb2
      clear hb hx hf
      obtain ⟨hx, hf⟩ := bcell hb2
      go_wp2_with fail
      refine (refMake_any _ _ _ (by omega) (by omega) (by omega) (by omega)).mono ?_
      rintro e w3 ⟨rfl, hb3⟩
      replace hb3 := below_on hb2 hb3
      clear hb2 hx hf
      obtain ⟨hx, hf⟩ := bcell hb3
      go_wp2_with fail
      refine bodyPost_ret (v := .tuple #[.agg #[.int .i64 (mkNum (n * m) (d * c)), .int .i64 (mkDen (n * m) (d * c))], .int .i64 (mkErr (n * m) (d * c))]) (by simp [results, Tryz.results33, go_sem, hx]) rfl ⟨?_, ?_⟩
      · rw [HV.out.1, HV.out.2.1, HV.out.2.2]
      · exact ((past_three hb3).setCell (by simp; omega) _).setCell (by simp; omega) _
    · have V1 := Lib.hid v1
      have v2' : vldB m c = false := by simpa using v2
      have V2 := Lib.hid v2'
      have HV := Lib.hid (show opNum (vldB n d && vldB m c) (n * m) (d * c) = 0 ∧ opDen (vldB n d && vldB m c) (n * m) (d * c) = 0 ∧ opErr (vldB n d && vldB m c) (n * m) (d * c) = 2 by simp [opNum, opDen, opErr, v1, v2'])
      clear v1 v2 v2'
      go_enter Tryz.func33, Tryz.ntmps33
      go_wp2_with fail
      refine (refValid_as _ hn hd V1.out).mono ?_
      rintro e w1 ⟨rfl, hb⟩
      obtain ⟨hx, hf⟩ := bcell hb
      go_wp2_with fail
      refine (refValid_as _ hm hc V2.out).mono ?_
      rintro e w2 ⟨rfl, hb2⟩
      replace hb2 := below_on hb hb2
      clear hb hx hf
      obtain ⟨hx, hf⟩ := bcell hb2
      go_wp2_with fail
      refine bodyPost_ret (v := .tuple #[.agg #[.int .i64 0, .int .i64 0], .int .i64 2]) (by simp [results, Tryz.results33, go_sem, hx]) rfl ⟨?_, ?_⟩
      · rw [HV.out.1, HV.out.2.1, HV.out.2.2]
      · exact ((past_three hb2).setCell (by simp; omega) _).setCell (by simp; omega) _
  · have v1' : vldB n d = false := by simpa using v1
    have V1 := Lib.hid v1'
    have HV := Lib.hid (show opNum (vldB n d && vldB m c) (n * m) (d * c) = 0 ∧ opDen (vldB n d && vldB m c) (n * m) (d * c) = 0 ∧ opErr (vldB n d && vldB m c) (n * m) (d * c) = 2 by simp [opNum, opDen, opErr, v1'])
    clear v1 v1'
    go_enter Tryz.func33, Tryz.ntmps33
    go_wp2_with fail
    refine (refValid_as _ hn hd V1.out).mono ?_
    rintro e w1 ⟨rfl, hb⟩
    obtain ⟨hx, hf⟩ := bcell hb
    go_wp2_with fail
    refine bodyPost_ret (v := .tuple #[.agg #[.int .i64 0, .int .i64 0], .int .i64 2]) (by simp [results, Tryz.results33, go_sem, hx]) rfl ⟨?_, ?_⟩
    · rw [HV.out.1, HV.out.2.1, HV.out.2.2]
    · exact ((past_three hb).setCell (by simp; omega) _).setCell (by simp; omega) _

set_option maxHeartbeats 400000 in
theorem refDiv_any (n d m c : Int) (w : World) (hn : I64 n) (hd : I64 d) (hm : I64 m) (hc : I64 c) :
    Calls Tryz.prog 111 #[.agg #[.int .i64 n, .int .i64 d], .agg #[.int .i64 m, .int .i64 c]] w
      (Made (.tuple #[.agg #[.int .i64 (opNum (vldB n d && vldB m c && !decide (m = 0)) (n * c) (d * m)), .int .i64 (opDen (vldB n d && vldB m c && !decide (m = 0)) (n * c) (d * m))], .int .i64 (opErr (vldB n d && vldB m c && !decide (m = 0)) (n * c) (d * m))]) w) := by
  by_cases v1 : vldB n d = true
  · by_cases v2 : vldB m c = true
    · have V1 := Lib.hid v1
      have V2 := Lib.hid v2
      by_cases m0 : m = 0
      · have HV := Lib.hid (show opNum (vldB n d && vldB m c && !decide (m = 0)) (n * c) (d * m) = 0 ∧ opDen (vldB n d && vldB m c && !decide (m = 0)) (n * c) (d * m) = 0 ∧ opErr (vldB n d && vldB m c && !decide (m = 0)) (n * c) (d * m) = 2 by simp [opNum, opDen, opErr, v1, m0])
        clear v1 v2
        subst m0
        go_enter Tryz.func111, Tryz.ntmps111
        go_wp2_with fail
        refine (refValid_as _ hn hd V1.out).mono ?_
        rintro e w1 ⟨rfl, hb⟩
        obtain ⟨hx, hf⟩ := bcell hb
        go_wp2_with fail
        refine (refValid_as _ hm hc V2.out).mono ?_
        rintro e w2 ⟨rfl, hb2⟩
        replace hb2 := below_on hb hb2
        clear hb hx hf
        obtain ⟨hx, hf⟩ := bcell hb2
        go_wp2_with fail
        refine bodyPost_ret (v := .tuple #[.agg #[.int .i64 0, .int .i64 0], .int .i64 2]) (by simp [results, Tryz.results111, go_sem, hx]) rfl ⟨?_, ?_⟩
        · rw [HV.out.1, HV.out.2.1, HV.out.2.2]
        · exact ((past_three hb2).setCell (by simp; omega) _).setCell (by simp; omega) _
      have M0 : (m == 0) = false := by simpa using m0
      obtain ⟨x1, x2, x3, x4⟩ := vld_bd v1
      obtain ⟨y1, y2, y3, y4⟩ := vld_bd v2
      have HV := Lib.hid (show opNum (vldB n d && vldB m c && !decide (m = 0)) (n * c) (d * m) = mkNum (n * c) (d * m) ∧ opDen (vldB n d && vldB m c && !decide (m = 0)) (n * c) (d * m) = mkDen (n * c) (d * m) ∧ opErr (vldB n d && vldB m c && !decide (m = 0)) (n * c) (d * m) = mkErr (n * c) (d * m) by simp [opNum, opDen, opErr, v1, v2, m0])
      clear v1 v2
      obtain ⟨p1a, p1b⟩ := mul_bd x3 x4 (show -2147483647 ≤ c by omega) y2
      obtain ⟨p2a, p2b⟩ := mul_bd y3 y4 (show -2147483647 ≤ d by omega) x2
      obtain ⟨p3a, p3b⟩ := mul_bd (show -2147483647 ≤ d by omega) x2 (show -2147483647 ≤ c by omega) y2
      obtain ⟨p4a, p4b⟩ := mul_bd x3 x4 y3 y4
      obtain ⟨p5a, p5b⟩ := mul_bd (show -2147483647 ≤ d by omega) x2 y3 y4
      go_enter Tryz.func111, Tryz.ntmps111
      go_wp2_with fail
      refine (refValid_as _ hn hd V1.out).mono ?_
      rintro e w1 ⟨rfl, hb⟩
      obtain ⟨hx, hf⟩ := bcell hb
      go_wp2_with fail
      refine (refValid_as _ hm hc V2.out).mono ?_
      rintro e w2 ⟨rfl, hb2⟩
      replace hb2 := below_on hb hb2
      clear hb hx hf
      obtain ⟨hx, hf⟩ := bcell hb2
      go_wp2_with fail
      refine (refMake_any _ _ _ (by omega) (by omega) (by omega) (by omega)).mono ?_
      rintro e w3 ⟨rfl, hb3⟩
      replace hb3 := below_on hb2 hb3
      clear hb2 hx hf
      obtain ⟨hx, hf⟩ := bcell hb3
      go_wp2_with fail
      refine bodyPost_ret (v := .tuple #[.agg #[.int .i64 (mkNum (n * c) (d * m)), .int .i64 (mkDen (n * c) (d * m))], .int .i64 (mkErr (n * c) (d * m))]) (by simp [results, Tryz.results111, go_sem, hx]) rfl ⟨?_, ?_⟩
      · rw [HV.out.1, HV.out.2.1, HV.out.2.2]
      · exact ((past_three hb3).setCell (by simp; omega) _).setCell (by simp; omega) _
    · have V1 := Lib.hid v1
      have v2' : vldB m c = false := by simpa using v2
      have V2 := Lib.hid v2'
      have HV := Lib.hid (show opNum (vldB n d && vldB m c && !decide (m = 0)) (n * c) (d * m) = 0 ∧ opDen (vldB n d && vldB m c && !decide (m = 0)) (n * c) (d * m) = 0 ∧ opErr (vldB n d && vldB m c && !decide (m = 0)) (n * c) (d * m) = 2 by simp [opNum, opDen, opErr, v1, v2'])
      clear v1 v2 v2'
      go_enter Tryz.func111, Tryz.ntmps111
      go_wp2_with fail
      refine (refValid_as _ hn hd V1.out).mono ?_
      rintro e w1 ⟨rfl, hb⟩
      obtain ⟨hx, hf⟩ := bcell hb
      go_wp2_with fail
      refine (refValid_as _ hm hc V2.out).mono ?_
      rintro e w2 ⟨rfl, hb2⟩
      replace hb2 := below_on hb hb2
      clear hb hx hf
      obtain ⟨hx, hf⟩ := bcell hb2
      go_wp2_with fail
      refine bodyPost_ret (v := .tuple #[.agg #[.int .i64 0, .int .i64 0], .int .i64 2]) (by simp [results, Tryz.results111, go_sem, hx]) rfl ⟨?_, ?_⟩
      · rw [HV.out.1, HV.out.2.1, HV.out.2.2]
      · exact ((past_three hb2).setCell (by simp; omega) _).setCell (by simp; omega) _
  · have v1' : vldB n d = false := by simpa using v1
    have V1 := Lib.hid v1'
    have HV := Lib.hid (show opNum (vldB n d && vldB m c && !decide (m = 0)) (n * c) (d * m) = 0 ∧ opDen (vldB n d && vldB m c && !decide (m = 0)) (n * c) (d * m) = 0 ∧ opErr (vldB n d && vldB m c && !decide (m = 0)) (n * c) (d * m) = 2 by simp [opNum, opDen, opErr, v1'])
    clear v1 v1'
    go_enter Tryz.func111, Tryz.ntmps111
    go_wp2_with fail
    refine (refValid_as _ hn hd V1.out).mono ?_
    rintro e w1 ⟨rfl, hb⟩
    obtain ⟨hx, hf⟩ := bcell hb
    go_wp2_with fail
    refine bodyPost_ret (v := .tuple #[.agg #[.int .i64 0, .int .i64 0], .int .i64 2]) (by simp [results, Tryz.results111, go_sem, hx]) rfl ⟨?_, ?_⟩
    · rw [HV.out.1, HV.out.2.1, HV.out.2.2]
    · exact ((past_three hb).setCell (by simp; omega) _).setCell (by simp; omega) _
end Go.Proofs.YtefpaobboimakaaGreat

namespace Go.Proofs.YtefpaobboimakaaGreat
open Go.RowKit

/-- Go's quotient and rest, and the quotient rounded down. -/
theorem fdiv_of (n d : Int) (hd : 1 ≤ d) : n / d = if n.tmod d < 0 then n.tdiv d - 1 else n.tdiv d := by
  have hd0 : 0 < d := by omega
  by_cases h : 0 ≤ n
  · rw [Int.tmod_eq_emod_of_nonneg h, Int.tdiv_eq_ediv_of_nonneg h, if_neg (by have := Int.emod_nonneg n (show d ≠ 0 by omega); omega)]
  · have h1 := Int.tmod_add_tdiv_mul n d
    have h2 : -d < n.tmod d := by have := Int.lt_tmod_of_pos n hd0; omega
    have h3 : n.tmod d ≤ 0 := by
      have e : n.tmod d = -((-n).tmod d) := by rw [Int.neg_tmod]; omega
      rw [e, Int.tmod_eq_emod_of_nonneg (show 0 ≤ -n by omega)]
      have := Int.emod_nonneg (-n) (show d ≠ 0 by omega)
      omega
    generalize hr : n.tmod d = r at *
    generalize hq : n.tdiv d = q at *
    split
    · rename_i h4
      have e : n = (r + d) + (q - 1) * d := by rw [Int.sub_mul]; omega
      rw [e, Int.add_mul_ediv_right _ _ (by omega), Int.ediv_eq_zero_of_lt (by omega) (by omega)]; omega
    · have e : n = 0 + q * d := by omega
      rw [e, Int.add_mul_ediv_right _ _ (by omega)]; simp

theorem tdiv_bd (n d : Int) (h1 : -4611686018427387904 ≤ n) (h2 : n ≤ 4611686018427387904) : -4611686018427387904 ≤ n.tdiv d ∧ n.tdiv d ≤ 4611686018427387904 := by
  have := Int.natAbs_tdiv_le_natAbs n d
  omega

theorem fl_bd (n d : Int) (hd : 1 ≤ d) (h1 : -2147483648 ≤ n) (h2 : n ≤ 2147483648) : -2147483648 ≤ n / d ∧ n / d ≤ 2147483648 := by
  constructor
  · rw [Int.le_ediv_iff_mul_le (by omega)]
    have : (-2147483648 : Int) * d ≤ -2147483648 * 1 := by omega
    omega
  · apply Int.ediv_le_of_le_mul (by omega)
    have : (2147483648 : Int) * 1 ≤ 2147483648 * d := by omega
    omega

set_option maxHeartbeats 400000 in
theorem rounded_any (n d : Int) (w : World) (h1 : -4611686018427387904 ≤ n) (h2 : n ≤ 4611686018427387904) (hd : 1 ≤ d) (hd2 : d ≤ 9223372036854775807) :
    Calls Tryz.prog 166 #[.int .i64 n, .int .i64 d] w fun e w' => e = .returned (.int .i64 (n / d)) ∧ w = w' := by
  have hz : (d == 0) = false := by simp; omega
  by_cases hn : 0 ≤ n
  · have hm := Int.emod_nonneg n (show d ≠ 0 by omega)
    go_enter Tryz.func166, Tryz.ntmps166
    go_wp2
    go_ret
    exact ⟨rfl, rfl⟩
  · have tb := tdiv_bd n d h1 (by omega)
    by_cases hr : n.tmod d < 0
    · have H := Lib.hid (show n.tdiv d - 1 = n / d by rw [fdiv_of n d hd, if_pos hr])
      go_enter Tryz.func166, Tryz.ntmps166
      go_wp2
      go_ret
      exact ⟨ret_int H.out, rfl⟩
    · have H := Lib.hid (show n.tdiv d = n / d by rw [fdiv_of n d hd, if_neg hr])
      go_enter Tryz.func166, Tryz.ntmps166
      go_wp2
      go_ret
      exact ⟨ret_int H.out, rfl⟩

set_option maxHeartbeats 400000 in
theorem floor_any (n d : Int) (w : World) (h1 : -4611686018427387904 ≤ n) (h2 : n ≤ 4611686018427387904) (hd : 1 ≤ d) (hd2 : d ≤ 9223372036854775807) :
    Calls Tryz.prog 155 #[.int .i64 n, .int .i64 d] w fun e w' => e = .returned (.int .i64 (n / d)) ∧ w = w' := by
  have hz : (d == 0) = false := by simp; omega
  by_cases hn : 0 ≤ n
  · have hm := Int.emod_nonneg n (show d ≠ 0 by omega)
    go_enter Tryz.func155, Tryz.ntmps155
    go_wp2
    go_ret
    exact ⟨rfl, rfl⟩
  · have tb := tdiv_bd n d h1 (by omega)
    by_cases hr : n.tmod d < 0
    · have H := Lib.hid (show n.tdiv d - 1 = n / d by rw [fdiv_of n d hd, if_pos hr])
      go_enter Tryz.func155, Tryz.ntmps155
      go_wp2
      go_ret
      exact ⟨ret_int H.out, rfl⟩
    · have H := Lib.hid (show n.tdiv d = n / d by rw [fdiv_of n d hd, if_neg hr])
      go_enter Tryz.func155, Tryz.ntmps155
      go_wp2
      go_ret
      exact ⟨ret_int H.out, rfl⟩

def sgn (x y : Int) : Int := if x < y then -1 else if y < x then 1 else 0

set_option maxHeartbeats 400000 in
theorem compare_any (x y : Int) (w : World) (hx : I64 x) (hy : I64 y) :
    Calls Tryz.prog 128 #[.int .i64 x, .int .i64 y] w fun e w' => e = .returned (.int .i64 (sgn x y)) ∧ w = w' := by
  have a1 := hx.1
  have a2 := hx.2
  have b1 := hy.1
  have b2 := hy.2
  by_cases h1 : x < y
  · have H := Lib.hid (show sgn x y = -1 by unfold sgn; rw [if_pos h1])
    go_enter Tryz.func128, Tryz.ntmps128
    go_wp2
    go_ret
    exact ⟨ret_int H.out.symm, rfl⟩
  by_cases h2 : y < x
  · have H := Lib.hid (show sgn x y = 1 by unfold sgn; rw [if_neg h1, if_pos h2])
    go_enter Tryz.func128, Tryz.ntmps128
    go_wp2
    go_ret
    exact ⟨ret_int H.out.symm, rfl⟩
  have H := Lib.hid (show sgn x y = 0 by unfold sgn; rw [if_neg h1, if_neg h2])
  go_enter Tryz.func128, Tryz.ntmps128
  go_wp2
  go_ret
  exact ⟨ret_int H.out.symm, rfl⟩

set_option maxHeartbeats 400000 in
theorem cmp_any (n d m c : Int) (w : World) (hn : I64 n) (hd : I64 d) (hm : I64 m) (hc : I64 c) :
    Calls Tryz.prog 135 #[.agg #[.int .i64 n, .int .i64 d], .agg #[.int .i64 m, .int .i64 c]] w
      (Made (.tuple #[.int .i64 (if (vldB n d && vldB m c) then sgn (n * c) (m * d) else 0), .int .i64 (if (vldB n d && vldB m c) then 0 else 2)]) w) := by
  cases v1 : vldB n d
  · have V1 := Lib.hid v1
    clear v1
    go_enter Tryz.func135, Tryz.ntmps135
    go_wp2_with fail
    refine (valid_as _ hn hd V1.out).mono ?_
    rintro e w1 ⟨rfl, hb⟩
    obtain ⟨hx, hf⟩ := bcell hb
    go_wp2_with fail
    go_ret2
    exact ⟨rfl, past_two hb⟩
  · cases v2 : vldB m c
    · have V1 := Lib.hid v1
      have V2 := Lib.hid v2
      clear v1 v2
      go_enter Tryz.func135, Tryz.ntmps135
      go_wp2_with fail
      refine (valid_as _ hn hd V1.out).mono ?_
      rintro e w1 ⟨rfl, hb⟩
      obtain ⟨hx, hf⟩ := bcell hb
      go_wp2_with fail
      refine (valid_as _ hm hc V2.out).mono ?_
      rintro e w2 ⟨rfl, hb2⟩
      replace hb2 := below_on hb hb2
      clear hb hx hf
      obtain ⟨hx, hf⟩ := bcell hb2
      go_wp2_with fail
      go_ret2
      exact ⟨rfl, past_two hb2⟩
    · have V1 := Lib.hid v1
      have V2 := Lib.hid v2
      obtain ⟨x1, x2, x3, x4⟩ := vld_bd v1
      obtain ⟨y1, y2, y3, y4⟩ := vld_bd v2
      clear v1 v2
      obtain ⟨p1a, p1b⟩ := mul_bd x3 x4 (show -2147483647 ≤ c by omega) y2
      obtain ⟨p2a, p2b⟩ := mul_bd y3 y4 (show -2147483647 ≤ d by omega) x2
      go_enter Tryz.func135, Tryz.ntmps135
      go_wp2_with fail
      refine (valid_as _ hn hd V1.out).mono ?_
      rintro e w1 ⟨rfl, hb⟩
      obtain ⟨hx, hf⟩ := bcell hb
      go_wp2_with fail
      refine (valid_as _ hm hc V2.out).mono ?_
      rintro e w2 ⟨rfl, hb2⟩
      replace hb2 := below_on hb hb2
      clear hb hx hf
      obtain ⟨hx, hf⟩ := bcell hb2
      go_wp2_with fail
      refine (compare_any _ _ _ ⟨by omega, by omega⟩ ⟨by omega, by omega⟩).mono ?_
      rintro e w3 ⟨rfl, rfl⟩
      go_wp2_with fail
      go_ret2
      exact ⟨rfl, past_two hb2⟩

set_option maxHeartbeats 400000 in
theorem refCmp_any (n d m c : Int) (w : World) (hn : I64 n) (hd : I64 d) (hm : I64 m) (hc : I64 c) :
    Calls Tryz.prog 35 #[.agg #[.int .i64 n, .int .i64 d], .agg #[.int .i64 m, .int .i64 c]] w
      (Made (.tuple #[.int .i64 (if (vldB n d && vldB m c) then sgn (n * c) (m * d) else 0), .int .i64 (if (vldB n d && vldB m c) then 0 else 2)]) w) := by
  cases v1 : vldB n d
  · have V1 := Lib.hid v1
    clear v1
    go_enter Tryz.func35, Tryz.ntmps35
    go_wp2_with fail
    refine (refValid_as _ hn hd V1.out).mono ?_
    rintro e w1 ⟨rfl, hb⟩
    obtain ⟨hx, hf⟩ := bcell hb
    go_wp2_with fail
    go_ret2
    exact ⟨rfl, past_two hb⟩
  · cases v2 : vldB m c
    · have V1 := Lib.hid v1
      have V2 := Lib.hid v2
      clear v1 v2
      go_enter Tryz.func35, Tryz.ntmps35
      go_wp2_with fail
      refine (refValid_as _ hn hd V1.out).mono ?_
      rintro e w1 ⟨rfl, hb⟩
      obtain ⟨hx, hf⟩ := bcell hb
      go_wp2_with fail
      refine (refValid_as _ hm hc V2.out).mono ?_
      rintro e w2 ⟨rfl, hb2⟩
      replace hb2 := below_on hb hb2
      clear hb hx hf
      obtain ⟨hx, hf⟩ := bcell hb2
      go_wp2_with fail
      go_ret2
      exact ⟨rfl, past_two hb2⟩
    · have V1 := Lib.hid v1
      have V2 := Lib.hid v2
      obtain ⟨x1, x2, x3, x4⟩ := vld_bd v1
      obtain ⟨y1, y2, y3, y4⟩ := vld_bd v2
      clear v1 v2
      obtain ⟨p1a, p1b⟩ := mul_bd x3 x4 (show -2147483647 ≤ c by omega) y2
      obtain ⟨p2a, p2b⟩ := mul_bd y3 y4 (show -2147483647 ≤ d by omega) x2
      by_cases h1 : n * c < m * d
      · have H := Lib.hid (show sgn (n * c) (m * d) = -1 by unfold sgn; rw [if_pos h1])
        have e1 := wrap_in (n * c) (by omega) (by omega)
        have e2 := wrap_in (m * d) (by omega) (by omega)
        go_enter Tryz.func35, Tryz.ntmps35
        go_wp2_with fail
        refine (refValid_as _ hn hd V1.out).mono ?_
        rintro e w1 ⟨rfl, hb⟩
        obtain ⟨hx, hf⟩ := bcell hb
        go_wp2_with fail
        refine (refValid_as _ hm hc V2.out).mono ?_
        rintro e w2 ⟨rfl, hb2⟩
        replace hb2 := below_on hb hb2
        clear hb hx hf
        obtain ⟨hx, hf⟩ := bcell hb2
        go_wp2_with fail
        go_quiet (fail)
        go_wp2_with fail
        go_ret2
        exact ⟨ret_two H.out.symm rfl, below_drewN (past_two hb2) _⟩
      by_cases h2 : m * d < n * c
      · have H := Lib.hid (show sgn (n * c) (m * d) = 1 by unfold sgn; rw [if_neg h1, if_pos h2])
        have e1 := wrap_in (n * c) (by omega) (by omega)
        have e2 := wrap_in (m * d) (by omega) (by omega)
        go_enter Tryz.func35, Tryz.ntmps35
        go_wp2_with fail
        refine (refValid_as _ hn hd V1.out).mono ?_
        rintro e w1 ⟨rfl, hb⟩
        obtain ⟨hx, hf⟩ := bcell hb
        go_wp2_with fail
        refine (refValid_as _ hm hc V2.out).mono ?_
        rintro e w2 ⟨rfl, hb2⟩
        replace hb2 := below_on hb hb2
        clear hb hx hf
        obtain ⟨hx, hf⟩ := bcell hb2
        go_wp2_with fail
        go_quiet (fail)
        go_wp2_with fail
        go_ret2
        exact ⟨ret_two H.out.symm rfl, below_drewN (past_two hb2) _⟩
      have H := Lib.hid (show sgn (n * c) (m * d) = 0 by unfold sgn; rw [if_neg h1, if_neg h2])
      have e1 := wrap_in (n * c) (by omega) (by omega)
      have e2 := wrap_in (m * d) (by omega) (by omega)
      go_enter Tryz.func35, Tryz.ntmps35
      go_wp2_with fail
      refine (refValid_as _ hn hd V1.out).mono ?_
      rintro e w1 ⟨rfl, hb⟩
      obtain ⟨hx, hf⟩ := bcell hb
      go_wp2_with fail
      refine (refValid_as _ hm hc V2.out).mono ?_
      rintro e w2 ⟨rfl, hb2⟩
      replace hb2 := below_on hb hb2
      clear hb hx hf
      obtain ⟨hx, hf⟩ := bcell hb2
      go_wp2_with fail
      go_quiet (fail)
      go_wp2_with fail
      go_ret2
      exact ⟨ret_two H.out.symm rfl, below_drewN (past_two hb2) _⟩

theorem vld_neg (m c : Int) : vldB (-m) c = vldB m c := by
  unfold vldB; rw [Bool.eq_iff_iff]; simp; omega

set_option maxHeartbeats 400000 in
theorem refSub_any (n d m c : Int) (w : World) (hn : I64 n) (hd : I64 d) (hm : I64 m) (hc : I64 c) :
    Calls Tryz.prog 110 #[.agg #[.int .i64 n, .int .i64 d], .agg #[.int .i64 m, .int .i64 c]] w
      (Made (.tuple #[.agg #[.int .i64 (opNum (vldB n d && vldB m c) (n * c - m * d) (d * c)), .int .i64 (opDen (vldB n d && vldB m c) (n * c - m * d) (d * c))], .int .i64 (opErr (vldB n d && vldB m c) (n * c - m * d) (d * c))]) w) := by
  by_cases h0 : m = -9223372036854775808
  · have hv : vldB m c = false := vld_no (by omega)
    have HV := Lib.hid (show ∀ x y : Int, opNum (vldB n d && vldB m c) x y = 0 ∧ opDen (vldB n d && vldB m c) x y = 0 ∧ opErr (vldB n d && vldB m c) x y = 2 by simp [opNum, opDen, opErr, hv])
    clear hv
    subst h0
    go_enter Tryz.func110, Tryz.ntmps110
    go_wp2_with fail
    rw [w64min]
    refine (refAdd_any _ _ _ _ _ hn hd (by unfold I64; omega) hc).mono ?_
    rintro e w1 ⟨rfl, hb⟩
    obtain ⟨hx, hf⟩ := bcell hb
    rw [(HV.out _ _).1, (HV.out _ _).2.1, (HV.out _ _).2.2, (HV.out _ _).1, (HV.out _ _).2.1, (HV.out _ _).2.2]
    go_wp2_with fail
    refine bodyPost_ret (v := .tuple #[.agg #[.int .i64 0, .int .i64 0], .int .i64 2]) (by simp [results, Tryz.results110, go_sem, hx]) rfl ⟨by rw [(HV.out _ _).1, (HV.out _ _).2.1, (HV.out _ _).2.2], ?_⟩
    exact ((past_three hb).setCell (by simp; omega) _).setCell (by simp; omega) _
  · have he : n * c - m * d = n * c + (-m) * d := by rw [Int.neg_mul]; omega
    have b1 := hm.1
    have b2 := hm.2
    have b3 : -9223372036854775808 < m := by omega
    rw [he, ← vld_neg m c]
    clear he
    go_enter Tryz.func110, Tryz.ntmps110
    go_wp2_with fail
    refine (refAdd_any _ _ _ _ _ hn hd (by unfold I64; omega) hc).mono ?_
    rintro e w1 ⟨rfl, hb⟩
    obtain ⟨hx, hf⟩ := bcell hb
    go_wp2_with fail
    refine bodyPost_ret (v := .tuple #[.agg #[.int .i64 (opNum (vldB n d && vldB (-m) c) (n * c + (-m) * d) (d * c)), .int .i64 (opDen (vldB n d && vldB (-m) c) (n * c + (-m) * d) (d * c))], .int .i64 (opErr (vldB n d && vldB (-m) c) (n * c + (-m) * d) (d * c))]) (by simp [results, Tryz.results110, go_sem, hx]) rfl ⟨rfl, ?_⟩
    exact ((past_three hb).setCell (by simp; omega) _).setCell (by simp; omega) _
end Go.Proofs.YtefpaobboimakaaGreat

namespace Go.Proofs.YtefpaobboimakaaGreat

def smp : Nat → Int → Int → Int → Int → Int × Int
  | 0, _, _, _, _ => (0, 1)
  | k + 1, p, q, r, s =>
    if (p / q + 1) * s < r then (p / q + 1, 1)
    else ((p / q) * (smp k s (r - (p / q) * s) q (p - (p / q) * q)).1 + (smp k s (r - (p / q) * s) q (p - (p / q) * q)).2,
      (smp k s (r - (p / q) * s) q (p - (p / q) * q)).1)

/-- What the arguments of a call have in common: p / q is less than r / s (where s = 0 is no upper end). -/
structure Ends (p q r s : Int) : Prop where
  q1 : 1 ≤ q
  s0 : 0 ≤ s
  lt : p * s < r * q

theorem fl (p q : Int) (h : 1 ≤ q) : (p / q) * q ≤ p ∧ p < (p / q) * q + q := by
  have h1 := Int.emod_nonneg p (show q ≠ 0 by omega)
  have h2 := Int.emod_lt_of_pos p (show 0 < q by omega)
  have h3 := Int.mul_ediv_add_emod p q
  have h4 := Int.mul_comm q (p / q)
  omega

/-- If no integer lies between them, the arguments of the call of itself are ends again, and lesser. -/
theorem Ends.next {p q r s : Int} (h : Ends p q r s) (hn : ¬ (p / q + 1) * s < r) :
    1 ≤ s ∧ 1 ≤ r - (p / q) * s ∧ r - (p / q) * s ≤ s ∧ 0 ≤ p - (p / q) * q ∧ p - (p / q) * q < q ∧ Ends s (r - (p / q) * s) q (p - (p / q) * q) := by
  obtain ⟨q1, s0, lt⟩ := h
  obtain ⟨f1, f2⟩ := fl p q q1
  generalize p / q = low at *
  have hs : 1 ≤ s := by
    rcases Int.lt_or_le 0 s with h | h
    · omega
    · exfalso
      have : s = 0 := by omega
      subst this
      have h0 : 0 < r * q := by simpa using lt
      have h1 : r ≤ 0 := by simpa using hn
      have h2 : r * q ≤ 0 * q := Int.mul_le_mul_of_nonneg_right h1 (by omega)
      omega
  have key : s * (p - low * q) < q * (r - low * s) := by grind
  have hr : 1 ≤ r - low * s := by
    rcases Int.lt_or_le 0 (r - low * s) with h | h
    · omega
    · exfalso
      have h1 : q * (r - low * s) ≤ q * 0 := Int.mul_le_mul_of_nonneg_left h (by omega)
      have h2 : 0 ≤ s * (p - low * q) := Int.mul_nonneg (by omega) (by omega)
      omega
  refine ⟨hs, hr, ?_, by omega, by omega, hr, by omega, key⟩
  grind

/-- The result lies between the ends, and nothing between them is simpler. -/
def Best (p q r s x y : Int) : Prop :=
  1 ≤ y ∧ p * y < x * q ∧ x * s < r * y ∧ ∀ u v : Int, 1 ≤ v → p * v < u * q → u * s < r * v → y ≤ v ∧ (y = v → x ≤ u) ∧ (0 ≤ p → x ≤ u)

theorem smp_best (k : Nat) : ∀ p q r s : Int, Ends p q r s → q + s ≤ k → Best p q r s (smp k p q r s).1 (smp k p q r s).2 := by
  induction k with
  | zero => intro p q r s h hk; have := h.q1; have := h.s0; omega
  | succ k ih =>
    intro p q r s h hk
    unfold smp
    by_cases hn : (p / q + 1) * s < r
    · rw [if_pos hn]
      obtain ⟨f1, f2⟩ := fl p q h.q1
      have q1 := h.q1
      generalize p / q = low at *
      refine ⟨by simp, by simp; grind, by simpa using hn, ?_⟩
      intro u v hv h1 h2
      have h3 : low * v < u := by
        rcases Int.lt_or_le (low * v) u with h | h
        · exact h
        · exfalso
          have a1 : u * q ≤ (low * v) * q := Int.mul_le_mul_of_nonneg_right h (by omega)
          have a2 : (low * q) * v ≤ p * v := Int.mul_le_mul_of_nonneg_right f1 (by omega)
          grind
      refine ⟨hv, ?_, ?_⟩
      · intro e
        have e : v = 1 := by simpa using e.symm
        subst e; simp at h3 ⊢; omega
      · intro hp
        have h0 : 0 ≤ low := by
          rcases Int.lt_or_le low 0 with h | h
          · exfalso
            have : low * q ≤ (-1) * q := Int.mul_le_mul_of_nonneg_right (by omega) (by omega)
            omega
          · exact h
        have : low * 1 ≤ low * v := Int.mul_le_mul_of_nonneg_left hv h0
        simp; omega
    · rw [if_neg hn]
      obtain ⟨s1, r1, r2, g0, g1, hE⟩ := h.next hn
      have q1 := h.q1
      have lt := h.lt
      obtain ⟨f1, f2⟩ := fl p q h.q1
      have IH := ih s (r - (p / q) * s) q (p - (p / q) * q) hE (by omega)
      generalize hden : (smp k s (r - (p / q) * s) q (p - (p / q) * q)).1 = den at *
      generalize hnum : (smp k s (r - (p / q) * s) q (p - (p / q) * q)).2 = num at *
      clear hden hnum ih
      generalize p / q = low at *
      obtain ⟨n1, b1, b2, mn⟩ := IH
      have d1 : 1 ≤ den := by
        rcases Int.lt_or_le 0 den with h | h
        · omega
        · exfalso
          have a1 : den * (r - low * s) ≤ 0 * (r - low * s) := Int.mul_le_mul_of_nonneg_right h (by omega)
          have a2 : 0 ≤ s * num := Int.mul_nonneg (by omega) (by omega)
          omega
      refine ⟨d1, ?_, ?_, ?_⟩
      · show p * den < (low * den + num) * q
        grind
      · show (low * den + num) * s < r * den
        grind
      · intro u v hv h1 h2
        show den ≤ v ∧ (den = v → low * den + num ≤ u) ∧ (0 ≤ p → low * den + num ≤ u)
        have ua : 1 ≤ u - low * v := by
          rcases Int.lt_or_le 0 (u - low * v) with h | h
          · omega
          · exfalso
            have a1 : (u - low * v) * q ≤ 0 * q := Int.mul_le_mul_of_nonneg_right h (by omega)
            have a2 : 0 ≤ v * (p - low * q) := Int.mul_nonneg (by omega) (by omega)
            grind
        obtain ⟨m1, m2, m3⟩ := mn v (u - low * v) ua (by grind) (by grind)
        have m4 := m3 (by omega)
        refine ⟨m4, ?_, ?_⟩
        · intro e; subst e; omega
        · intro hp
          have h0 : 0 ≤ low := by
            rcases Int.lt_or_le low 0 with h | h
            · exfalso
              have : low * q ≤ (-1) * q := Int.mul_le_mul_of_nonneg_right (by omega) (by omega)
              omega
            · exact h
          have : low * den ≤ low * v := Int.mul_le_mul_of_nonneg_left m4 h0
          omega

/-- The denominator is at most the sum of both. -/
theorem smp_den (k : Nat) (p q r s : Int) (h : Ends p q r s) (hk : q + s ≤ k) : 1 ≤ (smp k p q r s).2 ∧ (smp k p q r s).2 ≤ q + s := by
  obtain ⟨h1, _, _, h4⟩ := smp_best k p q r s h hk
  obtain ⟨q1, s0, lt⟩ := h
  exact ⟨h1, (h4 (p + r) (q + s) (by omega) (by grind) (by grind)).1⟩
end Go.Proofs.YtefpaobboimakaaGreat

namespace Go.Proofs.YtefpaobboimakaaGreat
open Go.RowKit

/-- The arguments of a call of simplest, within their limits. -/
structure Args (p q r s : Int) : Prop where
  p1 : -2147483647 ≤ p
  p2 : p ≤ 2147483647
  r1 : -2147483647 ≤ r
  r2 : r ≤ 2147483647
  q2 : q ≤ 2147483647
  s2 : s ≤ 2147483647
  ends : Ends p q r s

theorem lowB (p q : Int) (h1 : -2147483647 ≤ p) (h2 : p ≤ 2147483647) (hq : 1 ≤ q) : -2147483647 ≤ p / q ∧ p / q ≤ 2147483647 := by
  constructor
  · rw [Int.le_ediv_iff_mul_le (by omega)]
    have : (-2147483647 : Int) * q ≤ -2147483647 * 1 := by omega
    omega
  · apply Int.ediv_le_of_le_mul (by omega)
    have : (2147483647 : Int) * 1 ≤ 2147483647 * q := by omega
    omega

theorem Args.next {p q r s : Int} (h : Args p q r s) (hn : ¬ (p / q + 1) * s < r) : Args s (r - (p / q) * s) q (p - (p / q) * q) := by
  obtain ⟨s1, r1, r2, g0, g1, hE⟩ := h.ends.next hn
  have := h.q2
  have := h.s2
  have := h.ends.q1
  exact ⟨by omega, by omega, by omega, by omega, by omega, by omega, hE⟩

theorem mulB {x y : Int} (x1 : -2147483647 ≤ x) (x2 : x ≤ 2147483647) (y1 : 0 ≤ y) (y2 : y ≤ 4294967294) :
    -9223372028264841218 ≤ x * y ∧ x * y ≤ 9223372028264841218 := by
  have h : (x * y).natAbs ≤ 2147483647 * 4294967294 := by
    rw [Int.natAbs_mul]; exact Nat.mul_le_mul (by omega) (by omega)
  omega

/-- In a call that calls itself: the numbers that come back. -/
theorem inner_bd (k : Nat) {p q r s : Int} (h : Args p q r s) (hk : q + s ≤ (k + 1 : Nat)) (hn : ¬ (p / q + 1) * s < r) :
    1 ≤ (smp k s (r - (p / q) * s) q (p - (p / q) * q)).1 ∧ (smp k s (r - (p / q) * s) q (p - (p / q) * q)).1 ≤ 4294967294 ∧
    1 ≤ (smp k s (r - (p / q) * s) q (p - (p / q) * q)).2 ∧ (smp k s (r - (p / q) * s) q (p - (p / q) * q)).2 ≤ 4294967294 := by
  have h1 := smp_den (k + 1) p q r s h.ends hk
  have e : (smp (k + 1) p q r s).2 = (smp k s (r - (p / q) * s) q (p - (p / q) * q)).1 := by
    rw [smp, if_neg hn]
  rw [e] at h1
  obtain ⟨s1, r1, r2, g0, g1, hE⟩ := h.ends.next hn
  have h2 := smp_den k _ _ _ _ hE (by omega)
  have := h.q2
  have := h.s2
  have := h.ends.q1
  omega

theorem smp_rng (k : Nat) {p q r s : Int} (h : Args p q r s) (hk : q + s ≤ k) : I64 (smp k p q r s).1 ∧ 1 ≤ (smp k p q r s).2 ∧ (smp k p q r s).2 ≤ 4294967294 := by
  have hd := smp_den k p q r s h.ends hk
  have := h.q2
  have := h.s2
  refine ⟨?_, hd.1, by omega⟩
  match k, hk with
  | 0, hk => exfalso; have := h.ends.q1; have := h.ends.s0; omega
  | k + 1, hk =>
    have lb := lowB p q h.p1 h.p2 h.ends.q1
    unfold smp
    by_cases hn : (p / q + 1) * s < r
    · rw [if_pos hn]; unfold I64; simp; omega
    · rw [if_neg hn]
      have ib := inner_bd k h hk hn
      have mb := mulB lb.1 lb.2 (show 0 ≤ (smp k s (r - (p / q) * s) q (p - (p / q) * q)).1 by omega) ib.2.1
      unfold I64
      simp only
      omega

set_option maxHeartbeats 400000 in
theorem simplest_any (k : Nat) : ∀ (p q r s : Int) (w : World), Args p q r s → q + s ≤ k →
    Calls Tryz.prog 154 #[.int .i64 p, .int .i64 q, .int .i64 r, .int .i64 s] w fun e w' => e = .returned (.tuple #[.int .i64 (smp k p q r s).1, .int .i64 (smp k p q r s).2]) ∧ w = w' := by
  induction k with
  | zero => intro p q r s w h hk; exfalso; have := h.ends.q1; have := h.ends.s0; omega
  | succ k ih =>
    intro p q r s w h hk
    have IH := Lib.hid ih
    clear ih
    obtain ⟨lb1, lb2⟩ := lowB p q h.p1 h.p2 h.ends.q1
    have p1 := h.p1
    have p2 := h.p2
    have r1 := h.r1
    have r2 := h.r2
    have q1 := h.ends.q1
    have q2 := h.q2
    have s1 := h.ends.s0
    have s2 := h.s2
    obtain ⟨m1, m2⟩ := mul_bd lb1 lb2 (show -2147483647 ≤ s by omega) s2
    have m3 : (p / q + 1) * s = p / q * s + s := by rw [Int.add_mul]; omega
    have m4 : -4611686018427387904 ≤ (p / q + 1) * s := by omega
    have m5 : (p / q + 1) * s ≤ 4611686018427387904 := by omega
    clear m3
    obtain ⟨m6, m7⟩ := mul_bd lb1 lb2 (show -2147483647 ≤ q by omega) q2
    by_cases hn : (p / q + 1) * s < r
    · have H := Lib.hid (show smp (k + 1) p q r s = (p / q + 1, 1) by rw [smp, if_pos hn])
      go_enter Tryz.func154, Tryz.ntmps154
      go_wp2_with fail
      refine (rounded_any _ _ _ (by omega) (by omega) (by omega) (by omega)).mono ?_
      rintro e w1 ⟨rfl, rfl⟩
      generalize p / q = low at *
      go_wp2_with fail
      go_ret2
      exact ⟨by rw [H.out]; rfl, rfl⟩
    · have hA := h.next hn
      have ib := inner_bd k h hk hn
      obtain ⟨i1, i2, i3, i4⟩ := ib
      obtain ⟨b1, b2⟩ := mulB lb1 lb2 (show 0 ≤ (smp k s (r - (p / q) * s) q (p - (p / q) * q)).1 by omega) i2
      obtain ⟨s1', r1', r2', g0, g1, hE⟩ := h.ends.next hn
      have hk2 : r - p / q * s + (p - p / q * q) ≤ k := by omega
      have H := Lib.hid (show smp (k + 1) p q r s = ((p / q) * (smp k s (r - (p / q) * s) q (p - (p / q) * q)).1 + (smp k s (r - (p / q) * s) q (p - (p / q) * q)).2,
        (smp k s (r - (p / q) * s) q (p - (p / q) * q)).1) by rw [smp, if_neg hn])
      go_enter Tryz.func154, Tryz.ntmps154
      go_wp2_with fail
      refine (rounded_any _ _ _ (by omega) (by omega) (by omega) (by omega)).mono ?_
      rintro e w1 ⟨rfl, rfl⟩
      generalize p / q = low at *
      go_wp2_with fail
      refine (IH.out _ _ _ _ _ hA hk2).mono ?_
      rintro e w1 ⟨rfl, rfl⟩
      generalize (smp k s (r - low * s) q (p - low * q)).1 = den at *
      generalize (smp k s (r - low * s) q (p - low * q)).2 = num at *
      go_wp2_with fail
      go_ret2
      exact ⟨by rw [H.out]; rfl, rfl⟩

set_option maxHeartbeats 400000 in
theorem refSimplest_any (k : Nat) : ∀ (p q r s : Int) (w : World), Args p q r s → q + s ≤ k →
    Calls Tryz.prog 146 #[.int .i64 p, .int .i64 q, .int .i64 r, .int .i64 s] w fun e w' => e = .returned (.tuple #[.int .i64 (smp k p q r s).1, .int .i64 (smp k p q r s).2]) ∧ w = w' := by
  induction k with
  | zero => intro p q r s w h hk; exfalso; have := h.ends.q1; have := h.ends.s0; omega
  | succ k ih =>
    intro p q r s w h hk
    have IH := Lib.hid ih
    clear ih
    obtain ⟨lb1, lb2⟩ := lowB p q h.p1 h.p2 h.ends.q1
    have p1 := h.p1
    have p2 := h.p2
    have r1 := h.r1
    have r2 := h.r2
    have q1 := h.ends.q1
    have q2 := h.q2
    have s1 := h.ends.s0
    have s2 := h.s2
    obtain ⟨m1, m2⟩ := mul_bd lb1 lb2 (show -2147483647 ≤ s by omega) s2
    have m3 : (p / q + 1) * s = p / q * s + s := by rw [Int.add_mul]; omega
    have m4 : -4611686018427387904 ≤ (p / q + 1) * s := by omega
    have m5 : (p / q + 1) * s ≤ 4611686018427387904 := by omega
    clear m3
    obtain ⟨m6, m7⟩ := mul_bd lb1 lb2 (show -2147483647 ≤ q by omega) q2
    by_cases hn : (p / q + 1) * s < r
    · have H := Lib.hid (show smp (k + 1) p q r s = (p / q + 1, 1) by rw [smp, if_pos hn])
      by_cases hs : s = 0
      · subst hs
        go_enter Tryz.func146, Tryz.ntmps146
        go_wp2_with fail
        refine (floor_any _ _ _ (by omega) (by omega) (by omega) (by omega)).mono ?_
        rintro e w1 ⟨rfl, rfl⟩
        generalize p / q = low at *
        go_wp2_with fail
        go_ret2
        exact ⟨by rw [H.out]; rfl, rfl⟩
      have hs2 : (s == 0) = false := by simpa using hs
      go_enter Tryz.func146, Tryz.ntmps146
      go_wp2_with fail
      refine (floor_any _ _ _ (by omega) (by omega) (by omega) (by omega)).mono ?_
      rintro e w1 ⟨rfl, rfl⟩
      generalize p / q = low at *
      go_wp2_with fail
      go_ret2
      exact ⟨by rw [H.out]; rfl, rfl⟩
    · have hA := h.next hn
      have ib := inner_bd k h hk hn
      obtain ⟨i1, i2, i3, i4⟩ := ib
      obtain ⟨b1, b2⟩ := mulB lb1 lb2 (show 0 ≤ (smp k s (r - (p / q) * s) q (p - (p / q) * q)).1 by omega) i2
      obtain ⟨s1', r1', r2', g0, g1, hE⟩ := h.ends.next hn
      have hk2 : r - p / q * s + (p - p / q * q) ≤ k := by omega
      have H := Lib.hid (show smp (k + 1) p q r s = ((p / q) * (smp k s (r - (p / q) * s) q (p - (p / q) * q)).1 + (smp k s (r - (p / q) * s) q (p - (p / q) * q)).2,
        (smp k s (r - (p / q) * s) q (p - (p / q) * q)).1) by rw [smp, if_neg hn])
      have hs2 : (s == 0) = false := by simp; omega
      go_enter Tryz.func146, Tryz.ntmps146
      go_wp2_with fail
      refine (floor_any _ _ _ (by omega) (by omega) (by omega) (by omega)).mono ?_
      rintro e w1 ⟨rfl, rfl⟩
      generalize p / q = low at *
      go_wp2_with fail
      refine (IH.out _ _ _ _ _ hA hk2).mono ?_
      rintro e w1 ⟨rfl, rfl⟩
      generalize (smp k s (r - low * s) q (p - low * q)).1 = den at *
      generalize (smp k s (r - low * s) q (p - low * q)).2 = num at *
      go_wp2_with fail
      go_ret2
      exact ⟨by rw [H.out]; rfl, rfl⟩
end Go.Proofs.YtefpaobboimakaaGreat

namespace Go.Proofs.YtefpaobboimakaaGreat
open Go.RowKit

def midB (n d m c : Int) : Bool := vldB n d && vldB m c && decide (n * c < m * d)

def midX (n d m c : Int) : Int := (smp (d + c).toNat n d m c).1

def midY (n d m c : Int) : Int := (smp (d + c).toNat n d m c).2

theorem mid_args {n d m c : Int} (h : midB n d m c = true) : Args n d m c ∧ d + c ≤ ((d + c).toNat : Int) := by
  unfold midB at h
  simp at h
  obtain ⟨⟨h1, h2⟩, h3⟩ := h
  obtain ⟨x1, x2, x3, x4⟩ := vld_bd h1
  obtain ⟨y1, y2, y3, y4⟩ := vld_bd h2
  exact ⟨⟨x3, x4, y3, y4, x2, y2, x1, by omega, h3⟩, by omega⟩

theorem cmp_as {n d m c k e : Int} (w : World) (hn : I64 n) (hd : I64 d) (hm : I64 m) (hc : I64 c) (h1 : (if (vldB n d && vldB m c) then sgn (n * c) (m * d) else 0) = k) (h2 : (if (vldB n d && vldB m c) then (0 : Int) else 2) = e) :
    Calls Tryz.prog 135 #[.agg #[.int .i64 n, .int .i64 d], .agg #[.int .i64 m, .int .i64 c]] w (Made (.tuple #[.int .i64 k, .int .i64 e]) w) := by
  have h := cmp_any n d m c w hn hd hm hc
  rw [h1, h2] at h
  exact h

set_option maxHeartbeats 400000 in
theorem middle_any (n d m c : Int) (w : World) (hn : I64 n) (hd : I64 d) (hm : I64 m) (hc : I64 c) :
    Calls Tryz.prog 139 #[.agg #[.int .i64 n, .int .i64 d], .agg #[.int .i64 m, .int .i64 c]] w
      (Made (.tuple #[.agg #[.int .i64 (opNum (midB n d m c) (midX n d m c) (midY n d m c)), .int .i64 (opDen (midB n d m c) (midX n d m c) (midY n d m c))], .int .i64 (opErr (midB n d m c) (midX n d m c) (midY n d m c))]) w) := by
  cases hM : midB n d m c
  · have HV := Lib.hid (show ∀ x y : Int, opNum false x y = 0 ∧ opDen false x y = 0 ∧ opErr false x y = 2 by simp [opNum, opDen, opErr])
    cases hV : (vldB n d && vldB m c)
    · have H1 := Lib.hid (show (if (vldB n d && vldB m c) then sgn (n * c) (m * d) else 0) = 0 by simp [hV])
      have H2 := Lib.hid (show (if (vldB n d && vldB m c) then (0 : Int) else 2) = 2 by simp [hV])
      clear hV hM
      go_enter Tryz.func139, Tryz.ntmps139
      go_wp2_with fail
      refine (cmp_as _ hn hd hm hc H1.out H2.out).mono ?_
      rintro e w1 ⟨rfl, hb⟩
      obtain ⟨hx, hf⟩ := bcell hb
      go_wp2_with fail
      refine bodyPost_ret (v := .tuple #[.agg #[.int .i64 0, .int .i64 0], .int .i64 2]) (by simp [results, Tryz.results139, go_sem, hx]) rfl ⟨by rw [(HV.out _ _).1, (HV.out _ _).2.1, (HV.out _ _).2.2], ?_⟩
      exact ((past_three hb).setCell (by simp; omega) _).setCell (by simp; omega) _
    · have h3 : ¬ n * c < m * d := by unfold midB at hM; rw [hV] at hM; simpa using hM
      have H1 : 0 ≤ (if (vldB n d && vldB m c) then sgn (n * c) (m * d) else 0) := by rw [hV]; unfold sgn; simp; split <;> omega
      obtain ⟨k, hk⟩ : ∃ k : Int, (if (vldB n d && vldB m c) then sgn (n * c) (m * d) else 0) = k := ⟨_, rfl⟩
      rw [hk] at H1
      have HK := Lib.hid hk
      have H2 := Lib.hid (show (if (vldB n d && vldB m c) then (0 : Int) else 2) = 0 by simp [hV])
      clear hk hV hM h3
      go_enter Tryz.func139, Tryz.ntmps139
      go_wp2_with fail
      refine (cmp_as _ hn hd hm hc HK.out H2.out).mono ?_
      rintro e w1 ⟨rfl, hb⟩
      obtain ⟨hx, hf⟩ := bcell hb
      go_wp2_with fail
      refine bodyPost_ret (v := .tuple #[.agg #[.int .i64 0, .int .i64 0], .int .i64 2]) (by simp [results, Tryz.results139, go_sem, hx]) rfl ⟨by rw [(HV.out _ _).1, (HV.out _ _).2.1, (HV.out _ _).2.2], ?_⟩
      exact ((past_three hb).setCell (by simp; omega) _).setCell (by simp; omega) _
  · obtain ⟨hA, hK⟩ := mid_args hM
    have hR := smp_rng _ hA hK
    obtain ⟨⟨g1, g2⟩, g3, g4⟩ := hR
    have HV := Lib.hid (show ∀ x y : Int, opNum true x y = mkNum x y ∧ opDen true x y = mkDen x y ∧ opErr true x y = mkErr x y by simp [opNum, opDen, opErr])
    have hV : (vldB n d && vldB m c) = true := by unfold midB at hM; simp at hM; simp [hM]
    have h3 : n * c < m * d := by unfold midB at hM; simp at hM; exact hM.2
    have H1 := Lib.hid (show (if (vldB n d && vldB m c) then sgn (n * c) (m * d) else 0) = -1 by rw [hV]; simp [sgn, h3])
    have H2 := Lib.hid (show (if (vldB n d && vldB m c) then (0 : Int) else 2) = 0 by simp [hV])
    clear hV hM h3
    unfold midX midY
    go_enter Tryz.func139, Tryz.ntmps139
    go_wp2_with fail
    refine (cmp_as _ hn hd hm hc H1.out H2.out).mono ?_
    rintro e w1 ⟨rfl, hb⟩
    obtain ⟨hx, hf⟩ := bcell hb
    go_wp2_with fail
    refine (simplest_any _ _ _ _ _ _ hA hK).mono ?_
    rintro e w2 ⟨rfl, rfl⟩
    generalize (smp (d + c).toNat n d m c).1 = X at *
    generalize (smp (d + c).toNat n d m c).2 = Y at *
    go_wp2_with fail
    refine (make_any _ _ _ (by omega) (by omega) (by omega) (by omega)).mono ?_
    rintro e w3 ⟨rfl, hb3⟩
    replace hb3 := below_on hb hb3
    clear hb hx hf
    obtain ⟨hx, hf⟩ := bcell hb3
    go_wp2_with fail
    refine bodyPost_ret (v := .tuple #[.agg #[.int .i64 (mkNum X Y), .int .i64 (mkDen X Y)], .int .i64 (mkErr X Y)]) (by simp [results, Tryz.results139, go_sem, hx]) rfl ⟨by rw [(HV.out _ _).1, (HV.out _ _).2.1, (HV.out _ _).2.2], ?_⟩
    exact ((past_three hb3).setCell (by simp; omega) _).setCell (by simp; omega) _

theorem refCmp_as {n d m c k e : Int} (w : World) (hn : I64 n) (hd : I64 d) (hm : I64 m) (hc : I64 c) (h1 : (if (vldB n d && vldB m c) then sgn (n * c) (m * d) else 0) = k) (h2 : (if (vldB n d && vldB m c) then (0 : Int) else 2) = e) :
    Calls Tryz.prog 35 #[.agg #[.int .i64 n, .int .i64 d], .agg #[.int .i64 m, .int .i64 c]] w (Made (.tuple #[.int .i64 k, .int .i64 e]) w) := by
  have h := refCmp_any n d m c w hn hd hm hc
  rw [h1, h2] at h
  exact h

set_option maxHeartbeats 400000 in
theorem refMiddle_any (n d m c : Int) (w : World) (hn : I64 n) (hd : I64 d) (hm : I64 m) (hc : I64 c) :
    Calls Tryz.prog 112 #[.agg #[.int .i64 n, .int .i64 d], .agg #[.int .i64 m, .int .i64 c]] w
      (Made (.tuple #[.agg #[.int .i64 (opNum (midB n d m c) (midX n d m c) (midY n d m c)), .int .i64 (opDen (midB n d m c) (midX n d m c) (midY n d m c))], .int .i64 (opErr (midB n d m c) (midX n d m c) (midY n d m c))]) w) := by
  cases hM : midB n d m c
  · have HV := Lib.hid (show ∀ x y : Int, opNum false x y = 0 ∧ opDen false x y = 0 ∧ opErr false x y = 2 by simp [opNum, opDen, opErr])
    cases hV : (vldB n d && vldB m c)
    · have H1 := Lib.hid (show (if (vldB n d && vldB m c) then sgn (n * c) (m * d) else 0) = 0 by simp [hV])
      have H2 := Lib.hid (show (if (vldB n d && vldB m c) then (0 : Int) else 2) = 2 by simp [hV])
      clear hV hM
      go_enter Tryz.func112, Tryz.ntmps112
      go_wp2_with fail
      refine (refCmp_as _ hn hd hm hc H1.out H2.out).mono ?_
      rintro e w1 ⟨rfl, hb⟩
      obtain ⟨hx, hf⟩ := bcell hb
      go_wp2_with fail
      refine bodyPost_ret (v := .tuple #[.agg #[.int .i64 0, .int .i64 0], .int .i64 2]) (by simp [results, Tryz.results112, go_sem, hx]) rfl ⟨by rw [(HV.out _ _).1, (HV.out _ _).2.1, (HV.out _ _).2.2], ?_⟩
      exact ((past_three hb).setCell (by simp; omega) _).setCell (by simp; omega) _
    · have h3 : ¬ n * c < m * d := by unfold midB at hM; rw [hV] at hM; simpa using hM
      have H1 : 0 ≤ (if (vldB n d && vldB m c) then sgn (n * c) (m * d) else 0) := by rw [hV]; unfold sgn; simp; split <;> omega
      obtain ⟨k, hk⟩ : ∃ k : Int, (if (vldB n d && vldB m c) then sgn (n * c) (m * d) else 0) = k := ⟨_, rfl⟩
      rw [hk] at H1
      have HK := Lib.hid hk
      have H2 := Lib.hid (show (if (vldB n d && vldB m c) then (0 : Int) else 2) = 0 by simp [hV])
      clear hk hV hM h3
      go_enter Tryz.func112, Tryz.ntmps112
      go_wp2_with fail
      refine (refCmp_as _ hn hd hm hc HK.out H2.out).mono ?_
      rintro e w1 ⟨rfl, hb⟩
      obtain ⟨hx, hf⟩ := bcell hb
      go_wp2_with fail
      refine bodyPost_ret (v := .tuple #[.agg #[.int .i64 0, .int .i64 0], .int .i64 2]) (by simp [results, Tryz.results112, go_sem, hx]) rfl ⟨by rw [(HV.out _ _).1, (HV.out _ _).2.1, (HV.out _ _).2.2], ?_⟩
      exact ((past_three hb).setCell (by simp; omega) _).setCell (by simp; omega) _
  · obtain ⟨hA, hK⟩ := mid_args hM
    have hR := smp_rng _ hA hK
    obtain ⟨⟨g1, g2⟩, g3, g4⟩ := hR
    have HV := Lib.hid (show ∀ x y : Int, opNum true x y = mkNum x y ∧ opDen true x y = mkDen x y ∧ opErr true x y = mkErr x y by simp [opNum, opDen, opErr])
    have hV : (vldB n d && vldB m c) = true := by unfold midB at hM; simp at hM; simp [hM]
    have h3 : n * c < m * d := by unfold midB at hM; simp at hM; exact hM.2
    have H1 := Lib.hid (show (if (vldB n d && vldB m c) then sgn (n * c) (m * d) else 0) = -1 by rw [hV]; simp [sgn, h3])
    have H2 := Lib.hid (show (if (vldB n d && vldB m c) then (0 : Int) else 2) = 0 by simp [hV])
    clear hV hM h3
    unfold midX midY
    go_enter Tryz.func112, Tryz.ntmps112
    go_wp2_with fail
    refine (refCmp_as _ hn hd hm hc H1.out H2.out).mono ?_
    rintro e w1 ⟨rfl, hb⟩
    obtain ⟨hx, hf⟩ := bcell hb
    go_wp2_with fail
    refine (refSimplest_any _ _ _ _ _ _ hA hK).mono ?_
    rintro e w2 ⟨rfl, rfl⟩
    generalize (smp (d + c).toNat n d m c).1 = X at *
    generalize (smp (d + c).toNat n d m c).2 = Y at *
    go_wp2_with fail
    refine (refMake_any _ _ _ (by omega) (by omega) (by omega) (by omega)).mono ?_
    rintro e w3 ⟨rfl, hb3⟩
    replace hb3 := below_on hb hb3
    clear hb hx hf
    obtain ⟨hx, hf⟩ := bcell hb3
    go_wp2_with fail
    refine bodyPost_ret (v := .tuple #[.agg #[.int .i64 (mkNum X Y), .int .i64 (mkDen X Y)], .int .i64 (mkErr X Y)]) (by simp [results, Tryz.results112, go_sem, hx]) rfl ⟨by rw [(HV.out _ _).1, (HV.out _ _).2.1, (HV.out _ _).2.2], ?_⟩
    exact ((past_three hb3).setCell (by simp; omega) _).setCell (by simp; omega) _
end Go.Proofs.YtefpaobboimakaaGreat

namespace Go.Proofs.YtefpaobboimakaaGreat
open Go.RowKit Go.Sort Go.Shelf

abbrev Pq := Int × Int

def I2 (x : Pq) : Prop := I64 x.1 ∧ I64 x.2

def vR (x : Pq) : Bool := vldB x.1 x.2

def adR (x y : Pq) : Pq := (opNum (vldB x.1 x.2 && vldB y.1 y.2) (x.1 * y.2 + y.1 * x.2) (x.2 * y.2), opDen (vldB x.1 x.2 && vldB y.1 y.2) (x.1 * y.2 + y.1 * x.2) (x.2 * y.2))

def adE (x y : Pq) : Int := opErr (vldB x.1 x.2 && vldB y.1 y.2) (x.1 * y.2 + y.1 * x.2) (x.2 * y.2)

def sbR (x y : Pq) : Pq := (opNum (vldB x.1 x.2 && vldB y.1 y.2) (x.1 * y.2 - y.1 * x.2) (x.2 * y.2), opDen (vldB x.1 x.2 && vldB y.1 y.2) (x.1 * y.2 - y.1 * x.2) (x.2 * y.2))

def sbE (x y : Pq) : Int := opErr (vldB x.1 x.2 && vldB y.1 y.2) (x.1 * y.2 - y.1 * x.2) (x.2 * y.2)

def muR (x y : Pq) : Pq := (opNum (vldB x.1 x.2 && vldB y.1 y.2) (x.1 * y.1) (x.2 * y.2), opDen (vldB x.1 x.2 && vldB y.1 y.2) (x.1 * y.1) (x.2 * y.2))

def muE (x y : Pq) : Int := opErr (vldB x.1 x.2 && vldB y.1 y.2) (x.1 * y.1) (x.2 * y.2)

def dvR (x y : Pq) : Pq := (opNum (vldB x.1 x.2 && vldB y.1 y.2 && !decide (y.1 = 0)) (x.1 * y.2) (x.2 * y.1), opDen (vldB x.1 x.2 && vldB y.1 y.2 && !decide (y.1 = 0)) (x.1 * y.2) (x.2 * y.1))

def dvE (x y : Pq) : Int := opErr (vldB x.1 x.2 && vldB y.1 y.2 && !decide (y.1 = 0)) (x.1 * y.2) (x.2 * y.1)

def mdR (x y : Pq) : Pq := (opNum (midB x.1 x.2 y.1 y.2) (midX x.1 x.2 y.1 y.2) (midY x.1 x.2 y.1 y.2), opDen (midB x.1 x.2 y.1 y.2) (midX x.1 x.2 y.1 y.2) (midY x.1 x.2 y.1 y.2))

def mdE (x y : Pq) : Int := opErr (midB x.1 x.2 y.1 y.2) (midX x.1 x.2 y.1 y.2) (midY x.1 x.2 y.1 y.2)

def cmR (x y : Pq) : Int := if (vldB x.1 x.2 && vldB y.1 y.2) then sgn (x.1 * y.2) (y.1 * x.2) else 0

def cmE (x y : Pq) : Int := if (vldB x.1 x.2 && vldB y.1 y.2) then 0 else 2

/-- What Make and the like return is valid, where there is no error. -/
theorem op_bd (v : Bool) (p q : Int) : (-2147483647 ≤ opNum v p q ∧ opNum v p q ≤ 2147483647) ∧ (0 ≤ opDen v p q ∧ opDen v p q ≤ 2147483647) := by
  unfold opNum opDen
  cases v
  · simp
  · have h1 := mkNum_bd p q
    have h2 := mkDen_bd p q
    simp only [if_true]
    omega

theorem i2_of (v : Bool) (p q : Int) : I2 (opNum v p q, opDen v p q) := by
  have := op_bd v p q
  unfold I2 I64; simp only; omega

theorem adR_64 (x y : Pq) : I2 (adR x y) := i2_of _ _ _

theorem sbR_64 (x y : Pq) : I2 (sbR x y) := i2_of _ _ _

theorem muR_64 (x y : Pq) : I2 (muR x y) := i2_of _ _ _

theorem dvR_64 (x y : Pq) : I2 (dvR x y) := i2_of _ _ _

theorem mdR_64 (x y : Pq) : I2 (mdR x y) := i2_of _ _ _

theorem wh_64 {x : Int} (h : I64 x) : I2 (x, 1) := ⟨h, by unfold I64; simp only; omega⟩

theorem cmR_bd (x y : Pq) : -1 ≤ cmR x y ∧ cmR x y ≤ 1 := by unfold cmR sgn; (repeat' split) <;> omega

section
variable (x y : Pq) (w : World) (hx : I2 x) (hy : I2 y)
include hx hy

theorem addP_any : Calls Tryz.prog 140 #[.agg #[.int .i64 x.1, .int .i64 x.2], .agg #[.int .i64 y.1, .int .i64 y.2]] w (Made (.tuple #[.agg #[.int .i64 (adR x y).1, .int .i64 (adR x y).2], .int .i64 (adE x y)]) w) := add_any _ _ _ _ w hx.1 hx.2 hy.1 hy.2

theorem subP_any : Calls Tryz.prog 141 #[.agg #[.int .i64 x.1, .int .i64 x.2], .agg #[.int .i64 y.1, .int .i64 y.2]] w (Made (.tuple #[.agg #[.int .i64 (sbR x y).1, .int .i64 (sbR x y).2], .int .i64 (sbE x y)]) w) := sub_any _ _ _ _ w hx.1 hx.2 hy.1 hy.2

theorem mulP_any : Calls Tryz.prog 152 #[.agg #[.int .i64 x.1, .int .i64 x.2], .agg #[.int .i64 y.1, .int .i64 y.2]] w (Made (.tuple #[.agg #[.int .i64 (muR x y).1, .int .i64 (muR x y).2], .int .i64 (muE x y)]) w) := mul_any _ _ _ _ w hx.1 hx.2 hy.1 hy.2

theorem divP_any : Calls Tryz.prog 144 #[.agg #[.int .i64 x.1, .int .i64 x.2], .agg #[.int .i64 y.1, .int .i64 y.2]] w (Made (.tuple #[.agg #[.int .i64 (dvR x y).1, .int .i64 (dvR x y).2], .int .i64 (dvE x y)]) w) := div_any _ _ _ _ w hx.1 hx.2 hy.1 hy.2

theorem midP_any : Calls Tryz.prog 139 #[.agg #[.int .i64 x.1, .int .i64 x.2], .agg #[.int .i64 y.1, .int .i64 y.2]] w (Made (.tuple #[.agg #[.int .i64 (mdR x y).1, .int .i64 (mdR x y).2], .int .i64 (mdE x y)]) w) := middle_any _ _ _ _ w hx.1 hx.2 hy.1 hy.2

theorem cmpP_any : Calls Tryz.prog 135 #[.agg #[.int .i64 x.1, .int .i64 x.2], .agg #[.int .i64 y.1, .int .i64 y.2]] w (Made (.tuple #[.int .i64 (cmR x y), .int .i64 (cmE x y)]) w) := cmp_any _ _ _ _ w hx.1 hx.2 hy.1 hy.2
end

theorem whole_any (x : Int) (w : World) : Calls Tryz.prog 137 #[.int .i64 x] w (Made (.agg #[.int .i64 x, .int .i64 1]) w) := by
  go_enter Tryz.func137, Tryz.ntmps137
  go_wp2_with fail
  refine bodyPost_ret (v := .agg #[.int .i64 x, .int .i64 1]) (by simp [results, Tryz.results137, go_sem]) rfl ⟨rfl, ?_⟩
  exact one_more _

set_option maxRecDepth 20000 in
theorem mustR_ok (x : Pq) (er : Int) (w : World) (he : er = 0) : Calls Tryz.prog 138 #[.agg #[.int .i64 x.1, .int .i64 x.2], .int .i64 er] w (Made (.agg #[.int .i64 x.1, .int .i64 x.2]) w) := by
  subst he
  go_enter Tryz.func138, Tryz.ntmps138
  go_wp2_with fail
  refine bodyPost_ret (v := .agg #[.int .i64 x.1, .int .i64 x.2]) (by simp [results, Tryz.results138, go_sem]) rfl ⟨rfl, ?_⟩
  exact past_two (Below.refl _ _)

theorem mustR_no (x : Pq) (er : Int) (w : World) (he : er ≠ 0) : Calls Tryz.prog 138 #[.agg #[.int .i64 x.1, .int .i64 x.2], .int .i64 er] w (fun e w' => e = .panicked (pan er) ∧ Below w.heap.size w w') := by
  have h0 : (er != 0) = true := by simpa using he
  clear he
  go_enter Tryz.func138, Tryz.ntmps138
  go_wp2_with fail
  exact And.intro rfl ⟨rfl, (one_more _).trans ((one_more _).mono (by simp))⟩

theorem mustR_any (x : Pq) (er : Int) (w : World) : Calls Tryz.prog 138 #[.agg #[.int .i64 x.1, .int .i64 x.2], .int .i64 er] w (fun e w' => Below w.heap.size w w' ∧ ((er = 0 ∧ e = .returned (.agg #[.int .i64 x.1, .int .i64 x.2])) ∨ (er ≠ 0 ∧ e = .panicked (pan er)))) := by
  by_cases h : er = 0
  · refine (mustR_ok x er w h).mono ?_
    rintro e w' ⟨rfl, hb⟩
    exact ⟨hb, Or.inl ⟨h, rfl⟩⟩
  · refine (mustR_no x er w h).mono ?_
    rintro e w' ⟨rfl, hb⟩
    exact ⟨hb, Or.inr ⟨h, rfl⟩⟩

theorem mustI_ok (x : Int) (er : Int) (w : World) (he : er = 0) : Calls Tryz.prog 134 #[.int .i64 x, .int .i64 er] w (Made (.int .i64 x) w) := by
  subst he
  go_enter Tryz.func134, Tryz.ntmps134
  go_wp2_with fail
  go_ret
  exact ⟨rfl, Below.refl _ _⟩

theorem mustI_no (x : Int) (er : Int) (w : World) (he : er ≠ 0) : Calls Tryz.prog 134 #[.int .i64 x, .int .i64 er] w (fun e w' => e = .panicked (pan er) ∧ Below w.heap.size w w') := by
  have h0 : (er != 0) = true := by simpa using he
  clear he
  go_enter Tryz.func134, Tryz.ntmps134
  go_wp2_with fail
  exact And.intro rfl ⟨rfl, Below.refl _ _⟩

theorem mustI_any (x : Int) (er : Int) (w : World) : Calls Tryz.prog 134 #[.int .i64 x, .int .i64 er] w (fun e w' => Below w.heap.size w w' ∧ ((er = 0 ∧ e = .returned (.int .i64 x)) ∨ (er ≠ 0 ∧ e = .panicked (pan er)))) := by
  by_cases h : er = 0
  · refine (mustI_ok x er w h).mono ?_
    rintro e w' ⟨rfl, hb⟩
    exact ⟨hb, Or.inl ⟨h, rfl⟩⟩
  · refine (mustI_no x er w h).mono ?_
    rintro e w' ⟨rfl, hb⟩
    exact ⟨hb, Or.inr ⟨h, rfl⟩⟩

/-- A ratio that lies at an address: it is loaded. -/
def QAt (w : World) (p : Addr) (x : Pq) : Prop := w.cell? (p.add 0) = some (.int .i64 x.1) ∧ w.cell? (p.add 1) = some (.int .i64 x.2)

theorem QAt.on {w w' : World} {p : Addr} {x : Pq} (h : QAt w p x) (hb : Below w.heap.size w w') : QAt w' p x := ⟨kept hb h.1, kept hb h.2⟩

theorem Pair.qAt {w : World} {b : Nat} {x : Pq} (h : Pair w b x.1 x.2) : QAt w ⟨b, 0, none⟩ x := ⟨by rw [addr_add]; exact h.1.1, by rw [addr_add]; exact h.2.1⟩

theorem rat_info : (Tryz.prog.info? 50).map (fun i => (i.zero, i.size, i.bytes)) = some (some (.agg #[.int .i64 0, .int .i64 0]), 2, 16) := by kernel_rfl

theorem rat_size : (Tryz.prog.info? 50).map (·.size) = some 2 := by kernel_rfl

/-- Ratios one behind the other that can be read. -/
def gp (ps : List Pq) (k : Nat) : Pq := ps.getD k (0, 0)

def Rd2 (w : World) (ao : Option Addr) (ps : List Pq) : Prop := ∀ t, t < ps.length → ∃ a, ao = some a ∧ QAt w (a.add (t * 2)) (gp ps t)

theorem Rd2.on {w w' : World} {ao : Option Addr} {ps : List Pq} (h : Rd2 w ao ps) (hb : Below w.heap.size w w') : Rd2 w' ao ps := fun t ht => by
  obtain ⟨a, e, c⟩ := h t ht
  exact ⟨a, e, c.on hb⟩

/-- These cells lie at an address. -/
def CsAt (w : World) (p : Addr) (cs : List Value) : Prop := ∀ j v, cs[j]? = some v → w.cell? (p.add j) = some v

theorem CsAt.on {w w' : World} {p : Addr} {cs : List Value} (h : CsAt w p cs) (hb : Below w.heap.size w w') : CsAt w' p cs := fun j v hv => kept hb (h j v hv)

theorem cs_loadP {t : TypeId} {cs : List Value} (ha : ∀ w, (isAgg t).run Tryz.prog w = .ok true w) (hz : (Tryz.prog.info? t).map (·.size) = some cs.length) {w : World} {p : Addr} (h : CsAt w p cs) : (loadVar t p).run Tryz.prog w = .ok (.agg ⟨cs⟩) w := by
  have hc := run_loadCells_list (P := Tryz.prog) w p cs h
  unfold loadVar
  rw [Sem.run_bind, ha, Result.andThen_ok, if_pos rfl, Sem.run_bind, size_of hz, Result.andThen_ok, Sem.run_bind, hc]
  rfl

theorem yld_loadC {t : TypeId} {cs : List Value} (ha : ∀ w, (isAgg t).run Tryz.prog w = .ok true w) (hz : (Tryz.prog.info? t).map (·.size) = some cs.length) {w : World} {o : Oper} {a : Act} (s : Operand) (ho : o.op = .load t s) (p : Addr) (hs : a.eval s = .pointer (some p)) (hx : CsAt w p cs) : (execOp a.eval o).run Tryz.prog w = .ok (.value (.agg ⟨cs⟩)) w := by
  have h : (Instr.loadAt t (.pointer (some p))).run Tryz.prog w = .ok (.agg ⟨cs⟩) w := by
    simp only [Instr.loadAt, Instr.sureAddr, Sem.run_bind, Sem.run_pure, Result.andThen_ok, cs_loadP ha hz hx]
  unfold execOp
  simp only [ho, hs, Sem.run_bind, Sem.run_pure, h, Result.andThen_ok]

theorem q_isAgg (w : World) : (isAgg 50).run Tryz.prog w = .ok true w := by
  unfold isAgg; rw [Sem.run_bind, run_underlying Tryz.underlying50 w]; simp

theorem QAt.cs {w : World} {p : Addr} {x : Pq} (h : QAt w p x) : CsAt w p [.int .i64 x.1, .int .i64 x.2] := fun j v hv => by
  match j, hv with
  | 0, hv => simp at hv; subst hv; exact h.1
  | 1, hv => simp at hv; subst hv; exact h.2

theorem yld_loadQ {w : World} {o : Oper} {a : Act} (s : Operand) (ho : o.op = .load 50 s) (p : Addr) (hs : a.eval s = .pointer (some p)) {x : Pq} (hx : QAt w p x) : (execOp a.eval o).run Tryz.prog w = .ok (.value (.agg #[.int .i64 x.1, .int .i64 x.2])) w :=
  yld_loadC (cs := [.int .i64 x.1, .int .i64 x.2]) q_isAgg rat_size s ho p hs hx.cs

theorem wp_loadQ {w : World} {o : Oper} {a : Act} {K : Act → World → Prop} {Q : Exit → Act → World → Prop} (s : Operand) (ho : o.op = .load 50 s) (p : Addr) (hs : a.eval s = .pointer (some p)) (x : Pq) (hx : QAt w p x)
    (h : K (a.put o.dst (.agg #[.int .i64 x.1, .int .i64 x.2])) w) : o.wp Tryz.prog a w K Q := by
  have hv := cs_loadP (cs := [.int .i64 x.1, .int .i64 x.2]) q_isAgg rat_size hx.cs
  unfold Oper.wp execOp
  simp only [ho, hs, Instr.loadAt, Instr.sureAddr, Sem.run_bind, Sem.run_pure, Result.andThen_ok, hv]
  exact h

theorem wpl_loadQ {w : World} {ops : Array Oper} {rest : List Oper} {o : Oper} {a : Act} {Q : Exit → Act → World → Prop} (hgd : o.guard = none) (s : Operand) (ho : o.op = .load 50 s) (p : Addr) (hs : a.eval s = .pointer (some p)) (x : Pq) (hx : QAt w p x)
    (h : wpList Tryz.prog ops Q rest (a.put o.dst (.agg #[.int .i64 x.1, .int .i64 x.2])) w) : wpList Tryz.prog ops Q (o :: rest) a w :=
  wpList_plain hgd fun _ hK => wp_loadQ s ho p hs x hx (hK _ _ h)
end Go.Proofs.YtefpaobboimakaaGreat

namespace Go.Proofs.YtefpaobboimakaaGreat
open Go.RowKit Go.Sort Go.Shelf

/-- a times x plus b times y. -/
def combR (a : Int) (x : Ln) (b : Int) (y : Ln) : Ln := ⟨List.zipWith (fun u v => a * u + b * v) x.a y.a, a * x.b + b * y.b, x.s || y.s⟩

def combN (t : Nat) (a : Int) (x : List Int) (b : Int) (y : List Int) : List Int := (List.zipWith (fun u v => a * u + b * v) (x.take t) (y.take t)) ++ List.replicate (x.length - t) 0

theorem combN_len {t : Nat} {a b : Int} {x y : List Int} (h : y.length = x.length) (ht : t ≤ x.length) : (combN t a x b y).length = x.length := by simp [combN]; omega

theorem combN_step {t : Nat} {a b : Int} {x y : List Int} (h : y.length = x.length) (ht : t < x.length) : (combN t a x b y).set t (a * gA x t + b * gA y t) = combN (t + 1) a x b y := by
  unfold combN
  have hl : (List.zipWith (fun u v => a * u + b * v) (x.take t) (y.take t)).length = t := by simp; omega
  rw [List.set_append_right _ _ (by omega), hl, Nat.sub_self, show x.length - t = (x.length - (t + 1)) + 1 by omega, List.replicate_succ, List.set_cons_zero,
    List.take_succ_eq_append_getElem ht, List.take_succ_eq_append_getElem (show t < y.length by omega), List.zipWith_append (by simp; omega)]
  simp [gA, ht, show t < y.length by omega]

theorem combN_all {a b : Int} {x y : List Int} (h : y.length = x.length) : combN x.length a x b y = List.zipWith (fun u v => a * u + b * v) x y := by
  unfold combN; rw [List.take_length, ← h, List.take_length]; simp [h]

theorem comb_bd {a b u v : Int} (ha : -2147483647 ≤ a ∧ a ≤ 2147483647) (hb : -2147483647 ≤ b ∧ b ≤ 2147483647) (hu : -2147483647 ≤ u ∧ u ≤ 2147483647) (hv : -2147483647 ≤ v ∧ v ≤ 2147483647) :
    (IntKind.i64.wrap (a * u) = a * u ∧ IntKind.i64.wrap (b * v) = b * v) ∧ IntKind.i64.wrap (a * u + b * v) = a * u + b * v ∧ A63 (a * u + b * v) := by
  have h1 := mul_in ha hu (by omega) (by omega)
  have h2 := mul_in hb hv (by omega) (by omega)
  unfold A63
  exact ⟨⟨wrap_in _ (by omega) (by omega), wrap_in _ (by omega) (by omega)⟩, wrap_in _ (by omega) (by omega), by omega⟩

theorem make_ints0 (w : World) (n : Nat) (hn : n ≤ 1000) : (Instr.makeSlice 23 (.int .i64 n) (.int .i64 n)).run Tryz.prog w = .ok (.slice (some ⟨w.heap.size, 0, none⟩) n n) (w.alloc (.cells (List.replicate n (Value.int .i64 0)).toArray 2)) := by
  obtain ⟨i0, hi, hz0, hz1, hz2⟩ := info_parts i64_info
  have hr := run_make (P := Tryz.prog) w 23 2 i0 _ Tryz.underlying23 hi hz0 .i64 .i64 (n : Int) (n : Int) (by omega) (by omega) (by rw [hz2]; omega) (by omega)
  have e : madeCells (Value.int .i64 0).cells ((n : Int).toNat * i0.size) = (List.replicate n (Value.int .i64 0)).toArray := by
    apply Array.toList_inj.1
    rw [hz1]
    simp only [Int.toNat_natCast, Nat.mul_one]
    rw [show (Value.int .i64 0).cells = #[Value.int .i64 0] from rfl, toList_madeCells_one]
  rw [e] at hr
  simpa using hr

theorem own_zeros (w : World) (n B : Nat) (hB : B ≤ w.heap.size) (hn : n ≤ 1000) : OwnI (w.alloc (.cells (List.replicate n (Value.int .i64 0)).toArray 2)) B w.heap.size n (List.replicate n 0) :=
  ⟨by simp, .inr ⟨w.heap.size, n, _, by simp, hB, heap_alloc_last w _, by simp, by unfold maxLen; omega, by simp, by simp⟩⟩

/-- The numbers of a line of the reference fit. -/
def FitV (n : Nat) (y : AV) : Prop := y.a.length = n ∧ (∀ v ∈ y.a, -2147483647 ≤ v ∧ v ≤ 2147483647) ∧ (-2147483647 ≤ y.b ∧ y.b ≤ 2147483647)

set_option maxRecDepth 100000 in
set_option maxHeartbeats 4000000 in
theorem rsum_any (a b : Int) (x y : AV) (n i : Nat) (w : World) (hn : n ≤ 100) (hi : i < n) (hx : FitV n x) (hy : FitV n y) (ha : -2147483647 ≤ a ∧ a ≤ 2147483647) (hb : -2147483647 ≤ b ∧ b ≤ 2147483647) (hR : Rd1 w x.q x.a) (hS : Rd1 w y.q y.a) :
    Calls Tryz.prog 93 #[.int .i64 a, .agg x.cs, .int .i64 b, .agg y.cs, .int .i64 i] w (VRes w (shR i (combR a (lnV x) b (lnV y))).lowR) := by
  obtain ⟨w0, hw0⟩ : ∃ w0, w0 = ((w.alloc (.cells x.cs 25)).alloc (.cells y.cs 25)).alloc (.cells #[.slice none 0 0, .int .i64 0, .bool false] 25) := ⟨_, rfl⟩
  have E0 := Lib.hid (show Below w.heap.size w w0 by rw [hw0]; exact past_three (Below.refl _ _))
  have K0 := Lib.hid (show BkV w0 w.heap.size x by rw [hw0]; exact ((BkV.made w x).kept (one_more _)).kept (one_more _))
  have K1 := Lib.hid (show BkV w0 (w.heap.size + 1) y by rw [hw0]; have := (BkV.made (w.alloc (.cells x.cs 25)) y).kept (one_more (.cells #[.slice none 0 0, .int .i64 0, .bool false] 25)); simpa using this)
  have K2 := Lib.hid (show BkV w0 (w.heap.size + 2) av0 by rw [hw0]; have := BkV.made ((w.alloc (.cells x.cs 25)).alloc (.cells y.cs 25)) av0; simpa [av0, AV.cs, AV.cells] using this)
  have R0 := Lib.hid (hR.on E0.out)
  have S0 := Lib.hid (hS.on E0.out)
  obtain ⟨q1, c1, xa, xb, xs⟩ := x
  obtain ⟨q2, c2, ya, yb, ys⟩ := y
  obtain ⟨x1, x2, x3⟩ := hx
  obtain ⟨y1, y2, y3⟩ := hy
  simp only at x1 x2 x3 y1 y2 y3 R0 S0
  obtain ⟨f0, f1, f2⟩ := K0.out.facts
  obtain ⟨g0, g1, g2⟩ := K1.out.facts
  simp only at f0 f1 f2 g0 g1 g2
  rw [x1] at f0
  rw [y1] at g0
  have XL := Lib.hid x1
  have YL := Lib.hid y1
  have XA := Lib.hid x2
  have YA := Lib.hid y2
  have F0 := Lib.hid f0
  have F1 := Lib.hid f1
  have F2 := Lib.hid f2
  have G0 := Lib.hid g0
  have G1 := Lib.hid g1
  have G2 := Lib.hid g2
  have AB := Lib.hid (And.intro ha hb)
  have N1 := Lib.hid (And.intro hn hi)
  have CB := Lib.hid (comb_bd ha hb x3 y3)
  obtain ⟨⟨m1, m2⟩, m3, _⟩ := comb_bd ha hb x3 y3
  have MK := Lib.hid (fun W => make_ints0 W n (by omega))
  obtain ⟨sb, hsb⟩ : ∃ sb, sb = a * xb + b * yb := ⟨_, rfl⟩
  have SBB := Lib.hid hsb
  have SWW := Lib.hid (show IntKind.i64.wrap (a * xb + b * yb) = sb by rw [hsb]; exact m3)
  rw [← hsb] at m3
  obtain ⟨ss, hss⟩ : ∃ ss, ss = (xs || ys) := ⟨_, rfl⟩
  have SSS := Lib.hid hss
  have nn : n ≤ 100 := hn
  have XCR := Lib.hid (show combR a (lnV ⟨q1, c1, xa, xb, xs⟩) b (lnV ⟨q2, c2, ya, yb, ys⟩) = ⟨combN n a xa b ya, sb, ss⟩ by
    rw [hsb, hss]; unfold combR lnV; simp only; rw [← combN_all (by rw [x1, y1]), x1])
  generalize combR a (lnV ⟨q1, c1, xa, xb, xs⟩) b (lnV ⟨q2, c2, ya, yb, ys⟩) = CR at *
  clear hR hS x1 x2 x3 y1 y2 y3 ha hb hn hi hsb hss
  go_enter Tryz.func93, Tryz.ntmps93
  go_upto_region 1 with (fail)
  rw [← hw0]
  clear hw0 f0 f1 f2 g0 g1 g2
  go_cut [11] (fun s11 wx => ∃ q5 g, s11 = .pointer (some ⟨q5, 0, none⟩) ∧ Hid (BkV wx q5 ⟨some ⟨g, 0, none⟩, n, List.replicate n 0, sb, ss⟩) ∧ Hid (OwnI wx w.heap.size g n (List.replicate n 0)) ∧ Hid (g ≠ q5 ∧ w0.heap.size ≤ q5 ∧ w0.heap.size ≤ g) ∧ Hid (Below w0.heap.size w0 wx))
  case first =>
    cases xs
    · have KS := Lib.hid (show ∀ W, Below w0.heap.size w0 W → (W.cell? ⟨w.heap.size, 0, none⟩ = some (.slice q1 n c1) ∧ W.cell? ⟨w.heap.size, 1, none⟩ = some (.int .i64 xb) ∧ W.cell? ⟨w.heap.size, 2, none⟩ = some (.bool false) ∧ W.cell? ⟨w.heap.size + 1, 1, none⟩ = some (.int .i64 yb) ∧ W.cell? ⟨w.heap.size + 1, 2, none⟩ = some (.bool ys)) from fun W h => ⟨kept h F0.out, kept h F1.out, kept h F2.out, kept h G1.out, kept h G2.out⟩)
      obtain ⟨wc, hwc⟩ : ∃ wc, wc = w0.drew := ⟨_, rfl⟩
      have Bc := Lib.hid (show Below w0.heap.size w0 wc by rw [hwc]; exact (Below.refl _ _).drew)
      refine wp_region_held_drew (S := (fun W => (W.cell? ⟨w.heap.size, 0, none⟩ = some (.slice q1 n c1) ∧ W.cell? ⟨w.heap.size, 1, none⟩ = some (.int .i64 xb) ∧ W.cell? ⟨w.heap.size, 2, none⟩ = some (.bool false) ∧ W.cell? ⟨w.heap.size + 1, 1, none⟩ = some (.int .i64 yb) ∧ W.cell? ⟨w.heap.size + 1, 2, none⟩ = some (.bool ys)))) (by kernel_rfl) (by rw [← hwc]; exact KS.out _ Bc.out) (fun h0 => ?_)
      rw [← hwc] at h0 ⊢
      clear hwc
      refine wpAnyH_take (i := 0) (v := ?v1) rfl (by kernel_rfl) (by kernel_rfl) (by kernel_rfl) (fun _ _ _ h => h) (Or.inl ⟨by rfl, ?hy1⟩) h0 ?rest1
      case hy1 => (intro w' hS; (try dsimp only at hS); go_simp; try (with_reducible rfl))
      simp only [Act.put, List.getElem_toArray, List.getElem_cons_zero, List.setIfInBounds_toArray, List.set_cons_zero, List.set_cons_succ]
      refine wpAnyH_take (i := 1) (v := ?v2) rfl (by kernel_rfl) (by kernel_rfl) (by kernel_rfl) (fun _ _ _ h => h) (Or.inl ⟨by rfl, ?hy2⟩) h0 ?rest2
      case hy2 => (intro w' hS; (try dsimp only at hS); go_simp; try (with_reducible rfl))
      simp only [Act.put, List.getElem_toArray, List.getElem_cons_zero, List.getElem_cons_succ, List.setIfInBounds_toArray, List.set_cons_zero, List.set_cons_succ]
      refine wpAnyH_take (i := 2) (v := ?v3) rfl (by kernel_rfl) (by kernel_rfl) (by kernel_rfl) (fun _ _ _ h => h) (Or.inl ⟨by rfl, ?hy3⟩) h0 ?rest3
      case hy3 => (intro w' hS; (try dsimp only at hS); go_simp; try (with_reducible rfl))
      simp only [Act.put, List.getElem_toArray, List.getElem_cons_zero, List.getElem_cons_succ, List.setIfInBounds_toArray, List.set_cons_zero, List.set_cons_succ]
      refine wpAnyH_take (i := 4) (v := ?v4) rfl (by kernel_rfl) (by kernel_rfl) (by kernel_rfl) (fun _ _ _ h => h) (Or.inl ⟨by rfl, ?hy4⟩) h0 ?rest4
      case hy4 => (intro w' hS; (try dsimp only at hS); go_simp; try (with_reducible rfl))
      simp only [Act.put, List.getElem_toArray, List.getElem_cons_zero, List.getElem_cons_succ, List.setIfInBounds_toArray, List.set_cons_zero, List.set_cons_succ]
      refine wpAnyH_take (i := 5) (v := ?v5) rfl (by kernel_rfl) (by kernel_rfl) (by kernel_rfl) (fun _ _ _ h => h) (Or.inl ⟨by rfl, ?hy5⟩) h0 ?rest5
      case hy5 => (intro w' hS; (try dsimp only at hS); go_simp; try (with_reducible rfl))
      simp only [Act.put, List.getElem_toArray, List.getElem_cons_zero, List.getElem_cons_succ, List.setIfInBounds_toArray, List.set_cons_zero, List.set_cons_succ]
      refine wpAnyH_take (i := 6) (v := ?v6) rfl (by kernel_rfl) (by kernel_rfl) (by kernel_rfl) (fun _ _ _ h => h) (Or.inl ⟨by rfl, ?hy6⟩) h0 ?rest6
      case hy6 => (intro w' hS; (try dsimp only at hS); go_simp; try (with_reducible rfl))
      simp only [Act.put, List.getElem_toArray, List.getElem_cons_zero, List.getElem_cons_succ, List.setIfInBounds_toArray, List.set_cons_zero, List.set_cons_succ]
      refine wpAnyH_take (i := 7) (v := ?v7) rfl (by kernel_rfl) (by kernel_rfl) (by kernel_rfl) (fun _ _ _ h => h) (Or.inl ⟨by rfl, ?hy7⟩) h0 ?rest7
      case hy7 => (intro w' hS; (try dsimp only at hS); go_simp; try (with_reducible rfl))
      simp only [Act.put, List.getElem_toArray, List.getElem_cons_zero, List.getElem_cons_succ, List.setIfInBounds_toArray, List.set_cons_zero, List.set_cons_succ]
      refine wpAnyH_take (i := 8) (v := ?v8) rfl (by kernel_rfl) (by kernel_rfl) (by kernel_rfl) (fun _ _ _ h => h) (Or.inl ⟨by rfl, ?hy8⟩) h0 ?rest8
      case hy8 => (intro w' hS; (try dsimp only at hS); go_simp; try (with_reducible rfl))
      simp only [Act.put, List.getElem_toArray, List.getElem_cons_zero, List.getElem_cons_succ, List.setIfInBounds_toArray, List.set_cons_zero, List.set_cons_succ]
      refine wpAnyH_take (i := 9) (v := ?v9) rfl (by kernel_rfl) (by kernel_rfl) (by kernel_rfl) (fun _ _ _ h => h) (Or.inl ⟨by rfl, ?hy9⟩) h0 ?rest9
      case hy9 => (intro w' hS; (try dsimp only at hS); go_simp; try (with_reducible rfl))
      simp only [Act.put, List.getElem_toArray, List.getElem_cons_zero, List.getElem_cons_succ, List.setIfInBounds_toArray, List.set_cons_zero, List.set_cons_succ]
      refine wpAnyH_take (i := 10) (v := ?v10) rfl (by kernel_rfl) (by kernel_rfl) (by kernel_rfl) (fun _ _ _ h => h) (Or.inl ⟨by rfl, ?hy10⟩) h0 ?rest10
      case hy10 => (intro w' hS; (try dsimp only at hS); go_simp; try (with_reducible rfl))
      simp only [Act.put, List.getElem_toArray, List.getElem_cons_zero, List.getElem_cons_succ, List.setIfInBounds_toArray, List.set_cons_zero, List.set_cons_succ]
      refine wpAnyH_take (i := 11) (v := ?v11) rfl (by kernel_rfl) (by kernel_rfl) (by kernel_rfl) (fun _ _ _ h => h) (Or.inl ⟨by rfl, ?hy11⟩) h0 ?rest11
      case hy11 => (intro w' hS; (try dsimp only at hS); go_simp; try (with_reducible rfl))
      simp only [Act.put, List.getElem_toArray, List.getElem_cons_zero, List.getElem_cons_succ, List.setIfInBounds_toArray, List.set_cons_zero, List.set_cons_succ]
      refine wpAnyH_take (i := 12) (v := ?v12) rfl (by kernel_rfl) (by kernel_rfl) (by kernel_rfl) (fun _ _ _ h => h) (Or.inl ⟨by rfl, ?hy12⟩) h0 ?rest12
      case hy12 => (intro w' hS; (try dsimp only at hS); go_simp; try (with_reducible rfl))
      simp only [Act.put, List.getElem_toArray, List.getElem_cons_zero, List.getElem_cons_succ, List.setIfInBounds_toArray, List.set_cons_zero, List.set_cons_succ]
      refine wpAnyH_take (i := 13) (v := ?v13) rfl (by kernel_rfl) (by kernel_rfl) (by kernel_rfl) (fun _ _ _ h => h) (Or.inl ⟨by rfl, ?hy13⟩) h0 ?rest13
      case hy13 => (intro w' hS; (try dsimp only at hS); go_simp; try (with_reducible rfl))
      simp only [Act.put, List.getElem_toArray, List.getElem_cons_zero, List.getElem_cons_succ, List.setIfInBounds_toArray, List.set_cons_zero, List.set_cons_succ]
      refine wpAnyH_take (i := 14) (v := ?v14) rfl (by kernel_rfl) (by kernel_rfl) (by kernel_rfl) (fun _ _ _ h => h) (Or.inl ⟨by rfl, ?hy14⟩) h0 ?rest14
      case hy14 => (intro w' hS; (try dsimp only at hS); go_simp; try (with_reducible rfl))
      simp only [Act.put, List.getElem_toArray, List.getElem_cons_zero, List.getElem_cons_succ, List.setIfInBounds_toArray, List.set_cons_zero, List.set_cons_succ]
      refine wpAnyH_take (i := 15) (v := ?v15) rfl (by kernel_rfl) (by kernel_rfl) (by kernel_rfl) (fun _ _ _ h => h) (Or.inl ⟨by rfl, ?hy15⟩) h0 ?rest15
      case hy15 => (intro w' hS; (try dsimp only at hS); go_simp; try (with_reducible rfl))
      simp only [Act.put, List.getElem_toArray, List.getElem_cons_zero, List.getElem_cons_succ, List.setIfInBounds_toArray, List.set_cons_zero, List.set_cons_succ]
      refine wpAnyH_take (i := 16) (v := ?v16) rfl (by kernel_rfl) (by kernel_rfl) (by kernel_rfl) (fun _ _ _ h => h) (Or.inl ⟨by rfl, ?hy16⟩) h0 ?rest16
      case hy16 => (intro w' hS; (try dsimp only at hS); go_simp; try (with_reducible rfl))
      simp only [Act.put, List.getElem_toArray, List.getElem_cons_zero, List.getElem_cons_succ, List.setIfInBounds_toArray, List.set_cons_zero, List.set_cons_succ]
      refine wpAnyH_take (i := 17) (v := ?v17) rfl (by kernel_rfl) (by kernel_rfl) (by kernel_rfl) (fun _ _ _ h => h) (Or.inl ⟨by rfl, ?hy17⟩) h0 ?rest17
      case hy17 => (intro w' hS; (try dsimp only at hS); go_simp; try (with_reducible rfl))
      simp only [Act.put, List.getElem_toArray, List.getElem_cons_zero, List.getElem_cons_succ, List.setIfInBounds_toArray, List.set_cons_zero, List.set_cons_succ]
      refine wpAnyH_take (i := 18) (v := ?v18) rfl (by kernel_rfl) (by kernel_rfl) (by kernel_rfl) (fun _ _ _ h => h) (Or.inl ⟨by rfl, ?hy18⟩) h0 ?rest18
      case hy18 => (intro w' hS; (try dsimp only at hS); go_simp; try (with_reducible rfl))
      simp only [Act.put, List.getElem_toArray, List.getElem_cons_zero, List.getElem_cons_succ, List.setIfInBounds_toArray, List.set_cons_zero, List.set_cons_succ]
      refine wpAnyH_ready (rs := [3, 20]) (by kernel_rfl) (by simp) (AllReadyH.cons rfl (fun K hK => ?_) (AllReadyH.cons rfl (fun K hK => ?_) AllReadyH.nil))
      · rw [if_pos (by rfl)]
        go_simp
        rw [MK.out]
        have hb := one_more (w1 := wc) (.cells (List.replicate n (Value.int .i64 0)).toArray 2)
        have hP := own_zeros wc n w.heap.size (Nat.le_trans E0.out.size Bc.out.size) (by omega)
        have hz := Bc.out.size
        obtain ⟨g, hbb⟩ : ∃ g, g = wc.heap.size := ⟨_, rfl⟩
        rw [← hbb] at hP hz
        obtain ⟨wn, hwn⟩ : ∃ wn, wn = wc.alloc (.cells (List.replicate n (Value.int .i64 0)).toArray 2) := ⟨_, rfl⟩
        rw [← hwn] at hb hP ⊢
        try rw [← hbb]
        try (have NG := Lib.hid (show g ≠ q5 by have := P5.out.lt; omega))
        try (have P5 := Lib.hid (P5.out.kept hb))
        have Bc := Lib.hid (below_on Bc.out hb)
        have PI := Lib.hid hP
        have ZI := Lib.hid hz
        clear hb hP hz hbb hwn
        obtain ⟨wc, hwc⟩ : ∃ wc, wc = wn := ⟨_, rfl⟩
        rw [← hwc] at Bc PI ⊢
        try rw [← hwc] at P5
        clear hwc
        go_simp
        refine hK.out _ _ (KS.out _ Bc.out) (fun h0_1 => ?_)
        clear hK K h0
        refine wpAnyH_take (i := 19) (v := ?v19) rfl (by kernel_rfl) (by kernel_rfl) (by kernel_rfl) (fun _ _ _ h => h) (Or.inl ⟨by rfl, ?hy19⟩) h0_1 ?rest19
        case hy19 => (intro w' hS; (try dsimp only at hS); go_simp; try (with_reducible rfl))
        simp only [Act.put, List.getElem_toArray, List.getElem_cons_zero, List.getElem_cons_succ, List.setIfInBounds_toArray, List.set_cons_zero, List.set_cons_succ]
        refine wpAnyH_ready (rs := [20]) (by kernel_rfl) (by simp) (AllReadyH.cons rfl (fun K hK => ?_) AllReadyH.nil)
        rw [if_pos (by rfl)]
        go_simp
        have hb := one_more (w1 := wc) (.cells #[.slice none 0 0, .int .i64 0, .bool false] 25)
        have hP := (show BkV (wc.alloc (.cells #[.slice none 0 0, .int .i64 0, .bool false] 25)) wc.heap.size av0 from BkV.made wc av0)
        have hz := Bc.out.size
        obtain ⟨q5, hbb⟩ : ∃ q5, q5 = wc.heap.size := ⟨_, rfl⟩
        rw [← hbb] at hP hz
        obtain ⟨wn, hwn⟩ : ∃ wn, wn = wc.alloc (.cells #[.slice none 0 0, .int .i64 0, .bool false] 25) := ⟨_, rfl⟩
        rw [← hwn] at hb hP ⊢
        try rw [← hbb]
        try (have NG := Lib.hid (show g ≠ q5 by have := PI.out.lt; omega))
        try (have PI := Lib.hid (PI.out.on hb))
        have Bc := Lib.hid (below_on Bc.out hb)
        have P5 := Lib.hid hP
        have Z5 := Lib.hid hz
        clear hb hP hz hbb hwn
        obtain ⟨wc, hwc⟩ : ∃ wc, wc = wn := ⟨_, rfl⟩
        rw [← hwc] at Bc P5 ⊢
        try rw [← hwc] at PI
        clear hwc
        go_simp
        refine hK.out _ _ (KS.out _ Bc.out) (fun h0_2 => ?_)
        clear hK K h0_1
        refine wpAnyH_ready (rs := [21]) (by kernel_rfl) (by simp) (AllReadyH.cons rfl (fun K hK => ?_) AllReadyH.nil)
        rw [if_pos (by rfl)]
        refine wp_storeV _ _ rfl q5 ⟨some ⟨g, 0, none⟩, n, List.replicate n 0, sb, ss⟩ rfl (by simp [AV.cs, AV.cells, Act.eval, SSS.out]; exact SWW.out) _ P5.out ?_
        refine hK.out _ _ (KS.out _ (Below.setRow Bc.out Z5.out _)) (fun h0_3 => ?_)
        clear hK K h0_2
        try simp only [List.set_cons_succ]
        try simp only [List.set_cons_zero]
        refine wpAnyH_done (by kernel_rfl) ?_ _
        have PE := P5.out.setRow (z := ⟨some ⟨g, 0, none⟩, n, List.replicate n 0, sb, ss⟩)
        have BE := Below.setRow Bc.out Z5.out (AV.mk (some ⟨g, 0, none⟩) n (List.replicate n 0) sb ss).cs
        have GE := PI.out.grown (grown_row wc q5 (AV.mk (some ⟨g, 0, none⟩) n (List.replicate n 0) sb ss).cs) NG.out
        go_wp2_with fail
        go_meet
        case rel => exact ⟨q5, g, rfl, Lib.hid PE, Lib.hid GE, Lib.hid ⟨NG.out, Z5.out, ZI.out⟩, Lib.hid BE⟩
      · rw [if_pos (by rfl)]
        go_simp
        have hb := one_more (w1 := wc) (.cells #[.slice none 0 0, .int .i64 0, .bool false] 25)
        have hP := (show BkV (wc.alloc (.cells #[.slice none 0 0, .int .i64 0, .bool false] 25)) wc.heap.size av0 from BkV.made wc av0)
        have hz := Bc.out.size
        obtain ⟨q5, hbb⟩ : ∃ q5, q5 = wc.heap.size := ⟨_, rfl⟩
        rw [← hbb] at hP hz
        obtain ⟨wn, hwn⟩ : ∃ wn, wn = wc.alloc (.cells #[.slice none 0 0, .int .i64 0, .bool false] 25) := ⟨_, rfl⟩
        rw [← hwn] at hb hP ⊢
        try rw [← hbb]
        try (have NG := Lib.hid (show g ≠ q5 by have := PI.out.lt; omega))
        try (have PI := Lib.hid (PI.out.on hb))
        have Bc := Lib.hid (below_on Bc.out hb)
        have P5 := Lib.hid hP
        have Z5 := Lib.hid hz
        clear hb hP hz hbb hwn
        obtain ⟨wc, hwc⟩ : ∃ wc, wc = wn := ⟨_, rfl⟩
        rw [← hwc] at Bc P5 ⊢
        try rw [← hwc] at PI
        clear hwc
        go_simp
        refine hK.out _ _ (KS.out _ Bc.out) (fun h0_1 => ?_)
        clear hK K h0
        refine wpAnyH_ready (rs := [3]) (by kernel_rfl) (by simp) (AllReadyH.cons rfl (fun K hK => ?_) AllReadyH.nil)
        rw [if_pos (by rfl)]
        go_simp
        rw [MK.out]
        have hb := one_more (w1 := wc) (.cells (List.replicate n (Value.int .i64 0)).toArray 2)
        have hP := own_zeros wc n w.heap.size (Nat.le_trans E0.out.size Bc.out.size) (by omega)
        have hz := Bc.out.size
        obtain ⟨g, hbb⟩ : ∃ g, g = wc.heap.size := ⟨_, rfl⟩
        rw [← hbb] at hP hz
        obtain ⟨wn, hwn⟩ : ∃ wn, wn = wc.alloc (.cells (List.replicate n (Value.int .i64 0)).toArray 2) := ⟨_, rfl⟩
        rw [← hwn] at hb hP ⊢
        try rw [← hbb]
        try (have NG := Lib.hid (show g ≠ q5 by have := P5.out.lt; omega))
        try (have P5 := Lib.hid (P5.out.kept hb))
        have Bc := Lib.hid (below_on Bc.out hb)
        have PI := Lib.hid hP
        have ZI := Lib.hid hz
        clear hb hP hz hbb hwn
        obtain ⟨wc, hwc⟩ : ∃ wc, wc = wn := ⟨_, rfl⟩
        rw [← hwc] at Bc PI ⊢
        try rw [← hwc] at P5
        clear hwc
        go_simp
        refine hK.out _ _ (KS.out _ Bc.out) (fun h0_4 => ?_)
        clear hK K h0_1
        refine wpAnyH_take (i := 19) (v := ?v20) rfl (by kernel_rfl) (by kernel_rfl) (by kernel_rfl) (fun _ _ _ h => h) (Or.inl ⟨by rfl, ?hy20⟩) h0_4 ?rest20
        case hy20 => (intro w' hS; (try dsimp only at hS); go_simp; try (with_reducible rfl))
        simp only [Act.put, List.getElem_toArray, List.getElem_cons_zero, List.getElem_cons_succ, List.setIfInBounds_toArray, List.set_cons_zero, List.set_cons_succ]
        refine wpAnyH_ready (rs := [21]) (by kernel_rfl) (by simp) (AllReadyH.cons rfl (fun K hK => ?_) AllReadyH.nil)
        rw [if_pos (by rfl)]
        refine wp_storeV _ _ rfl q5 ⟨some ⟨g, 0, none⟩, n, List.replicate n 0, sb, ss⟩ rfl (by simp [AV.cs, AV.cells, Act.eval, SSS.out]; exact SWW.out) _ P5.out ?_
        refine hK.out _ _ (KS.out _ (Below.setRow Bc.out Z5.out _)) (fun h0_5 => ?_)
        clear hK K h0_4
        try simp only [List.set_cons_succ]
        try simp only [List.set_cons_zero]
        refine wpAnyH_done (by kernel_rfl) ?_ _
        have PE := P5.out.setRow (z := ⟨some ⟨g, 0, none⟩, n, List.replicate n 0, sb, ss⟩)
        have BE := Below.setRow Bc.out Z5.out (AV.mk (some ⟨g, 0, none⟩) n (List.replicate n 0) sb ss).cs
        have GE := PI.out.grown (grown_row wc q5 (AV.mk (some ⟨g, 0, none⟩) n (List.replicate n 0) sb ss).cs) NG.out
        go_wp2_with fail
        go_meet
        case rel => exact ⟨q5, g, rfl, Lib.hid PE, Lib.hid GE, Lib.hid ⟨NG.out, Z5.out, ZI.out⟩, Lib.hid BE⟩
    · have KS := Lib.hid (show ∀ W, Below w0.heap.size w0 W → (W.cell? ⟨w.heap.size, 0, none⟩ = some (.slice q1 n c1) ∧ W.cell? ⟨w.heap.size, 1, none⟩ = some (.int .i64 xb) ∧ W.cell? ⟨w.heap.size, 2, none⟩ = some (.bool true) ∧ W.cell? ⟨w.heap.size + 1, 1, none⟩ = some (.int .i64 yb) ∧ W.cell? ⟨w.heap.size + 1, 2, none⟩ = some (.bool ys)) from fun W h => ⟨kept h F0.out, kept h F1.out, kept h F2.out, kept h G1.out, kept h G2.out⟩)
      obtain ⟨wc, hwc⟩ : ∃ wc, wc = w0.drew := ⟨_, rfl⟩
      have Bc := Lib.hid (show Below w0.heap.size w0 wc by rw [hwc]; exact (Below.refl _ _).drew)
      refine wp_region_held_drew (S := (fun W => (W.cell? ⟨w.heap.size, 0, none⟩ = some (.slice q1 n c1) ∧ W.cell? ⟨w.heap.size, 1, none⟩ = some (.int .i64 xb) ∧ W.cell? ⟨w.heap.size, 2, none⟩ = some (.bool true) ∧ W.cell? ⟨w.heap.size + 1, 1, none⟩ = some (.int .i64 yb) ∧ W.cell? ⟨w.heap.size + 1, 2, none⟩ = some (.bool ys)))) (by kernel_rfl) (by rw [← hwc]; exact KS.out _ Bc.out) (fun h0 => ?_)
      rw [← hwc] at h0 ⊢
      clear hwc
      refine wpAnyH_take (i := 0) (v := ?v21) rfl (by kernel_rfl) (by kernel_rfl) (by kernel_rfl) (fun _ _ _ h => h) (Or.inl ⟨by rfl, ?hy21⟩) h0 ?rest21
      case hy21 => (intro w' hS; (try dsimp only at hS); go_simp; try (with_reducible rfl))
      simp only [Act.put, List.getElem_toArray, List.getElem_cons_zero, List.setIfInBounds_toArray, List.set_cons_zero, List.set_cons_succ]
      refine wpAnyH_take (i := 1) (v := ?v22) rfl (by kernel_rfl) (by kernel_rfl) (by kernel_rfl) (fun _ _ _ h => h) (Or.inl ⟨by rfl, ?hy22⟩) h0 ?rest22
      case hy22 => (intro w' hS; (try dsimp only at hS); go_simp; try (with_reducible rfl))
      simp only [Act.put, List.getElem_toArray, List.getElem_cons_zero, List.getElem_cons_succ, List.setIfInBounds_toArray, List.set_cons_zero, List.set_cons_succ]
      refine wpAnyH_take (i := 2) (v := ?v23) rfl (by kernel_rfl) (by kernel_rfl) (by kernel_rfl) (fun _ _ _ h => h) (Or.inl ⟨by rfl, ?hy23⟩) h0 ?rest23
      case hy23 => (intro w' hS; (try dsimp only at hS); go_simp; try (with_reducible rfl))
      simp only [Act.put, List.getElem_toArray, List.getElem_cons_zero, List.getElem_cons_succ, List.setIfInBounds_toArray, List.set_cons_zero, List.set_cons_succ]
      refine wpAnyH_take (i := 4) (v := ?v24) rfl (by kernel_rfl) (by kernel_rfl) (by kernel_rfl) (fun _ _ _ h => h) (Or.inl ⟨by rfl, ?hy24⟩) h0 ?rest24
      case hy24 => (intro w' hS; (try dsimp only at hS); go_simp; try (with_reducible rfl))
      simp only [Act.put, List.getElem_toArray, List.getElem_cons_zero, List.getElem_cons_succ, List.setIfInBounds_toArray, List.set_cons_zero, List.set_cons_succ]
      refine wpAnyH_take (i := 5) (v := ?v25) rfl (by kernel_rfl) (by kernel_rfl) (by kernel_rfl) (fun _ _ _ h => h) (Or.inl ⟨by rfl, ?hy25⟩) h0 ?rest25
      case hy25 => (intro w' hS; (try dsimp only at hS); go_simp; try (with_reducible rfl))
      simp only [Act.put, List.getElem_toArray, List.getElem_cons_zero, List.getElem_cons_succ, List.setIfInBounds_toArray, List.set_cons_zero, List.set_cons_succ]
      refine wpAnyH_take (i := 6) (v := ?v26) rfl (by kernel_rfl) (by kernel_rfl) (by kernel_rfl) (fun _ _ _ h => h) (Or.inl ⟨by rfl, ?hy26⟩) h0 ?rest26
      case hy26 => (intro w' hS; (try dsimp only at hS); go_simp; try (with_reducible rfl))
      simp only [Act.put, List.getElem_toArray, List.getElem_cons_zero, List.getElem_cons_succ, List.setIfInBounds_toArray, List.set_cons_zero, List.set_cons_succ]
      refine wpAnyH_take (i := 7) (v := ?v27) rfl (by kernel_rfl) (by kernel_rfl) (by kernel_rfl) (fun _ _ _ h => h) (Or.inl ⟨by rfl, ?hy27⟩) h0 ?rest27
      case hy27 => (intro w' hS; (try dsimp only at hS); go_simp; try (with_reducible rfl))
      simp only [Act.put, List.getElem_toArray, List.getElem_cons_zero, List.getElem_cons_succ, List.setIfInBounds_toArray, List.set_cons_zero, List.set_cons_succ]
      refine wpAnyH_take (i := 8) (v := ?v28) rfl (by kernel_rfl) (by kernel_rfl) (by kernel_rfl) (fun _ _ _ h => h) (Or.inl ⟨by rfl, ?hy28⟩) h0 ?rest28
      case hy28 => (intro w' hS; (try dsimp only at hS); go_simp; try (with_reducible rfl))
      simp only [Act.put, List.getElem_toArray, List.getElem_cons_zero, List.getElem_cons_succ, List.setIfInBounds_toArray, List.set_cons_zero, List.set_cons_succ]
      refine wpAnyH_take (i := 9) (v := ?v29) rfl (by kernel_rfl) (by kernel_rfl) (by kernel_rfl) (fun _ _ _ h => h) (Or.inl ⟨by rfl, ?hy29⟩) h0 ?rest29
      case hy29 => (intro w' hS; (try dsimp only at hS); go_simp; try (with_reducible rfl))
      simp only [Act.put, List.getElem_toArray, List.getElem_cons_zero, List.getElem_cons_succ, List.setIfInBounds_toArray, List.set_cons_zero, List.set_cons_succ]
      refine wpAnyH_take (i := 10) (v := ?v30) rfl (by kernel_rfl) (by kernel_rfl) (by kernel_rfl) (fun _ _ _ h => h) (Or.inl ⟨by rfl, ?hy30⟩) h0 ?rest30
      case hy30 => (intro w' hS; (try dsimp only at hS); go_simp; try (with_reducible rfl))
      simp only [Act.put, List.getElem_toArray, List.getElem_cons_zero, List.getElem_cons_succ, List.setIfInBounds_toArray, List.set_cons_zero, List.set_cons_succ]
      refine wpAnyH_take (i := 11) (v := ?v31) rfl (by kernel_rfl) (by kernel_rfl) (by kernel_rfl) (fun _ _ _ h => h) (Or.inl ⟨by rfl, ?hy31⟩) h0 ?rest31
      case hy31 => (intro w' hS; (try dsimp only at hS); go_simp; try (with_reducible rfl))
      simp only [Act.put, List.getElem_toArray, List.getElem_cons_zero, List.getElem_cons_succ, List.setIfInBounds_toArray, List.set_cons_zero, List.set_cons_succ]
      refine wpAnyH_take (i := 12) (v := ?v32) rfl (by kernel_rfl) (by kernel_rfl) (by kernel_rfl) (fun _ _ _ h => h) (Or.inl ⟨by rfl, ?hy32⟩) h0 ?rest32
      case hy32 => (intro w' hS; (try dsimp only at hS); go_simp; try (with_reducible rfl))
      simp only [Act.put, List.getElem_toArray, List.getElem_cons_zero, List.getElem_cons_succ, List.setIfInBounds_toArray, List.set_cons_zero, List.set_cons_succ]
      refine wpAnyH_take (i := 13) (v := ?v33) rfl (by kernel_rfl) (by kernel_rfl) (by kernel_rfl) (fun _ _ _ h => h) (Or.inl ⟨by rfl, ?hy33⟩) h0 ?rest33
      case hy33 => (intro w' hS; (try dsimp only at hS); go_simp; try (with_reducible rfl))
      simp only [Act.put, List.getElem_toArray, List.getElem_cons_zero, List.getElem_cons_succ, List.setIfInBounds_toArray, List.set_cons_zero, List.set_cons_succ]
      refine wpAnyH_take (i := 14) (v := ?v34) rfl (by kernel_rfl) (by kernel_rfl) (by kernel_rfl) (fun _ _ _ h => h) (Or.inl ⟨by rfl, ?hy34⟩) h0 ?rest34
      case hy34 => (intro w' hS; (try dsimp only at hS); go_simp; try (with_reducible rfl))
      simp only [Act.put, List.getElem_toArray, List.getElem_cons_zero, List.getElem_cons_succ, List.setIfInBounds_toArray, List.set_cons_zero, List.set_cons_succ]
      refine wpAnyH_take (i := 15) (v := ?v35) rfl (by kernel_rfl) (by kernel_rfl) (by kernel_rfl) (fun _ _ _ h => h) (Or.inl ⟨by rfl, ?hy35⟩) h0 ?rest35
      case hy35 => (intro w' hS; (try dsimp only at hS); go_simp; try (with_reducible rfl))
      simp only [Act.put, List.getElem_toArray, List.getElem_cons_zero, List.getElem_cons_succ, List.setIfInBounds_toArray, List.set_cons_zero, List.set_cons_succ]
      refine wpAnyH_take (i := 16) (v := undef) rfl (by kernel_rfl) (by kernel_rfl) (by kernel_rfl) (fun _ _ _ h => h) (Or.inr ⟨by rfl, rfl⟩) h0 ?_
      simp only [Act.put, List.getElem_toArray, List.getElem_cons_zero, List.getElem_cons_succ, List.setIfInBounds_toArray, List.set_cons_zero, List.set_cons_succ]
      refine wpAnyH_take (i := 17) (v := undef) rfl (by kernel_rfl) (by kernel_rfl) (by kernel_rfl) (fun _ _ _ h => h) (Or.inr ⟨by rfl, rfl⟩) h0 ?_
      simp only [Act.put, List.getElem_toArray, List.getElem_cons_zero, List.getElem_cons_succ, List.setIfInBounds_toArray, List.set_cons_zero, List.set_cons_succ]
      refine wpAnyH_take (i := 18) (v := ?v38) rfl (by kernel_rfl) (by kernel_rfl) (by kernel_rfl) (fun _ _ _ h => h) (Or.inl ⟨by rfl, ?hy38⟩) h0 ?rest38
      case hy38 => (intro w' hS; (try dsimp only at hS); go_simp; try (with_reducible rfl))
      simp only [Act.put, List.getElem_toArray, List.getElem_cons_zero, List.getElem_cons_succ, List.setIfInBounds_toArray, List.set_cons_zero, List.set_cons_succ]
      refine wpAnyH_ready (rs := [3, 20]) (by kernel_rfl) (by simp) (AllReadyH.cons rfl (fun K hK => ?_) (AllReadyH.cons rfl (fun K hK => ?_) AllReadyH.nil))
      · rw [if_pos (by rfl)]
        go_simp
        rw [MK.out]
        have hb := one_more (w1 := wc) (.cells (List.replicate n (Value.int .i64 0)).toArray 2)
        have hP := own_zeros wc n w.heap.size (Nat.le_trans E0.out.size Bc.out.size) (by omega)
        have hz := Bc.out.size
        obtain ⟨g, hbb⟩ : ∃ g, g = wc.heap.size := ⟨_, rfl⟩
        rw [← hbb] at hP hz
        obtain ⟨wn, hwn⟩ : ∃ wn, wn = wc.alloc (.cells (List.replicate n (Value.int .i64 0)).toArray 2) := ⟨_, rfl⟩
        rw [← hwn] at hb hP ⊢
        try rw [← hbb]
        try (have NG := Lib.hid (show g ≠ q5 by have := P5.out.lt; omega))
        try (have P5 := Lib.hid (P5.out.kept hb))
        have Bc := Lib.hid (below_on Bc.out hb)
        have PI := Lib.hid hP
        have ZI := Lib.hid hz
        clear hb hP hz hbb hwn
        obtain ⟨wc, hwc⟩ : ∃ wc, wc = wn := ⟨_, rfl⟩
        rw [← hwc] at Bc PI ⊢
        try rw [← hwc] at P5
        clear hwc
        go_simp
        refine hK.out _ _ (KS.out _ Bc.out) (fun h0_1 => ?_)
        clear hK K h0
        refine wpAnyH_take (i := 19) (v := ?v39) rfl (by kernel_rfl) (by kernel_rfl) (by kernel_rfl) (fun _ _ _ h => h) (Or.inl ⟨by rfl, ?hy39⟩) h0_1 ?rest39
        case hy39 => (intro w' hS; (try dsimp only at hS); go_simp; try (with_reducible rfl))
        simp only [Act.put, List.getElem_toArray, List.getElem_cons_zero, List.getElem_cons_succ, List.setIfInBounds_toArray, List.set_cons_zero, List.set_cons_succ]
        refine wpAnyH_ready (rs := [20]) (by kernel_rfl) (by simp) (AllReadyH.cons rfl (fun K hK => ?_) AllReadyH.nil)
        rw [if_pos (by rfl)]
        go_simp
        have hb := one_more (w1 := wc) (.cells #[.slice none 0 0, .int .i64 0, .bool false] 25)
        have hP := (show BkV (wc.alloc (.cells #[.slice none 0 0, .int .i64 0, .bool false] 25)) wc.heap.size av0 from BkV.made wc av0)
        have hz := Bc.out.size
        obtain ⟨q5, hbb⟩ : ∃ q5, q5 = wc.heap.size := ⟨_, rfl⟩
        rw [← hbb] at hP hz
        obtain ⟨wn, hwn⟩ : ∃ wn, wn = wc.alloc (.cells #[.slice none 0 0, .int .i64 0, .bool false] 25) := ⟨_, rfl⟩
        rw [← hwn] at hb hP ⊢
        try rw [← hbb]
        try (have NG := Lib.hid (show g ≠ q5 by have := PI.out.lt; omega))
        try (have PI := Lib.hid (PI.out.on hb))
        have Bc := Lib.hid (below_on Bc.out hb)
        have P5 := Lib.hid hP
        have Z5 := Lib.hid hz
        clear hb hP hz hbb hwn
        obtain ⟨wc, hwc⟩ : ∃ wc, wc = wn := ⟨_, rfl⟩
        rw [← hwc] at Bc P5 ⊢
        try rw [← hwc] at PI
        clear hwc
        go_simp
        refine hK.out _ _ (KS.out _ Bc.out) (fun h0_2 => ?_)
        clear hK K h0_1
        refine wpAnyH_ready (rs := [21]) (by kernel_rfl) (by simp) (AllReadyH.cons rfl (fun K hK => ?_) AllReadyH.nil)
        rw [if_pos (by rfl)]
        refine wp_storeV _ _ rfl q5 ⟨some ⟨g, 0, none⟩, n, List.replicate n 0, sb, ss⟩ rfl (by simp [AV.cs, AV.cells, Act.eval, SSS.out]; exact SWW.out) _ P5.out ?_
        refine hK.out _ _ (KS.out _ (Below.setRow Bc.out Z5.out _)) (fun h0_3 => ?_)
        clear hK K h0_2
        try simp only [List.set_cons_succ]
        try simp only [List.set_cons_zero]
        refine wpAnyH_done (by kernel_rfl) ?_ _
        have PE := P5.out.setRow (z := ⟨some ⟨g, 0, none⟩, n, List.replicate n 0, sb, ss⟩)
        have BE := Below.setRow Bc.out Z5.out (AV.mk (some ⟨g, 0, none⟩) n (List.replicate n 0) sb ss).cs
        have GE := PI.out.grown (grown_row wc q5 (AV.mk (some ⟨g, 0, none⟩) n (List.replicate n 0) sb ss).cs) NG.out
        go_wp2_with fail
        go_meet
        case rel => exact ⟨q5, g, rfl, Lib.hid PE, Lib.hid GE, Lib.hid ⟨NG.out, Z5.out, ZI.out⟩, Lib.hid BE⟩
      · rw [if_pos (by rfl)]
        go_simp
        have hb := one_more (w1 := wc) (.cells #[.slice none 0 0, .int .i64 0, .bool false] 25)
        have hP := (show BkV (wc.alloc (.cells #[.slice none 0 0, .int .i64 0, .bool false] 25)) wc.heap.size av0 from BkV.made wc av0)
        have hz := Bc.out.size
        obtain ⟨q5, hbb⟩ : ∃ q5, q5 = wc.heap.size := ⟨_, rfl⟩
        rw [← hbb] at hP hz
        obtain ⟨wn, hwn⟩ : ∃ wn, wn = wc.alloc (.cells #[.slice none 0 0, .int .i64 0, .bool false] 25) := ⟨_, rfl⟩
        rw [← hwn] at hb hP ⊢
        try rw [← hbb]
        try (have NG := Lib.hid (show g ≠ q5 by have := PI.out.lt; omega))
        try (have PI := Lib.hid (PI.out.on hb))
        have Bc := Lib.hid (below_on Bc.out hb)
        have P5 := Lib.hid hP
        have Z5 := Lib.hid hz
        clear hb hP hz hbb hwn
        obtain ⟨wc, hwc⟩ : ∃ wc, wc = wn := ⟨_, rfl⟩
        rw [← hwc] at Bc P5 ⊢
        try rw [← hwc] at PI
        clear hwc
        go_simp
        refine hK.out _ _ (KS.out _ Bc.out) (fun h0_1 => ?_)
        clear hK K h0
        refine wpAnyH_ready (rs := [3]) (by kernel_rfl) (by simp) (AllReadyH.cons rfl (fun K hK => ?_) AllReadyH.nil)
        rw [if_pos (by rfl)]
        go_simp
        rw [MK.out]
        have hb := one_more (w1 := wc) (.cells (List.replicate n (Value.int .i64 0)).toArray 2)
        have hP := own_zeros wc n w.heap.size (Nat.le_trans E0.out.size Bc.out.size) (by omega)
        have hz := Bc.out.size
        obtain ⟨g, hbb⟩ : ∃ g, g = wc.heap.size := ⟨_, rfl⟩
        rw [← hbb] at hP hz
        obtain ⟨wn, hwn⟩ : ∃ wn, wn = wc.alloc (.cells (List.replicate n (Value.int .i64 0)).toArray 2) := ⟨_, rfl⟩
        rw [← hwn] at hb hP ⊢
        try rw [← hbb]
        try (have NG := Lib.hid (show g ≠ q5 by have := P5.out.lt; omega))
        try (have P5 := Lib.hid (P5.out.kept hb))
        have Bc := Lib.hid (below_on Bc.out hb)
        have PI := Lib.hid hP
        have ZI := Lib.hid hz
        clear hb hP hz hbb hwn
        obtain ⟨wc, hwc⟩ : ∃ wc, wc = wn := ⟨_, rfl⟩
        rw [← hwc] at Bc PI ⊢
        try rw [← hwc] at P5
        clear hwc
        go_simp
        refine hK.out _ _ (KS.out _ Bc.out) (fun h0_4 => ?_)
        clear hK K h0_1
        refine wpAnyH_take (i := 19) (v := ?v40) rfl (by kernel_rfl) (by kernel_rfl) (by kernel_rfl) (fun _ _ _ h => h) (Or.inl ⟨by rfl, ?hy40⟩) h0_4 ?rest40
        case hy40 => (intro w' hS; (try dsimp only at hS); go_simp; try (with_reducible rfl))
        simp only [Act.put, List.getElem_toArray, List.getElem_cons_zero, List.getElem_cons_succ, List.setIfInBounds_toArray, List.set_cons_zero, List.set_cons_succ]
        refine wpAnyH_ready (rs := [21]) (by kernel_rfl) (by simp) (AllReadyH.cons rfl (fun K hK => ?_) AllReadyH.nil)
        rw [if_pos (by rfl)]
        refine wp_storeV _ _ rfl q5 ⟨some ⟨g, 0, none⟩, n, List.replicate n 0, sb, ss⟩ rfl (by simp [AV.cs, AV.cells, Act.eval, SSS.out]; exact SWW.out) _ P5.out ?_
        refine hK.out _ _ (KS.out _ (Below.setRow Bc.out Z5.out _)) (fun h0_5 => ?_)
        clear hK K h0_4
        try simp only [List.set_cons_succ]
        try simp only [List.set_cons_zero]
        refine wpAnyH_done (by kernel_rfl) ?_ _
        have PE := P5.out.setRow (z := ⟨some ⟨g, 0, none⟩, n, List.replicate n 0, sb, ss⟩)
        have BE := Below.setRow Bc.out Z5.out (AV.mk (some ⟨g, 0, none⟩) n (List.replicate n 0) sb ss).cs
        have GE := PI.out.grown (grown_row wc q5 (AV.mk (some ⟨g, 0, none⟩) n (List.replicate n 0) sb ss).cs) NG.out
        go_wp2_with fail
        go_meet
        case rel => exact ⟨q5, g, rfl, Lib.hid PE, Lib.hid GE, Lib.hid ⟨NG.out, Z5.out, ZI.out⟩, Lib.hid BE⟩
  case rest =>
    obtain ⟨q5, g, rfl, HQ, HG, HZ, HB⟩ := hcut
    have C0 := Lib.hid (show combN 0 a xa b ya = List.replicate n 0 by unfold combN; simp [XL.out])
    have hgw := HG.out
    rw [← C0.out] at hgw
    have HG0 := Lib.hid hgw
    clear HG hgw m1 m2 m3
    go_wp2_with fail
    go_loopw [12] (fun s wr => ∃ t : Nat, s = .int .i64 t ∧ t ≤ n ∧ Hid (BkV wr q5 ⟨some ⟨g, 0, none⟩, n, List.replicate n 0, sb, ss⟩) ∧ Hid (OwnI wr w.heap.size g n (combN t a xa b ya)) ∧ Hid (Below w0.heap.size w0 wr)) (fun s _ => n - (intOf s).toNat)
    case atStart => exact ⟨0, rfl, by omega, HQ, HG0, HB⟩
    case round =>
      clear HQ HG0 HB
      obtain ⟨t, rfl, ht, HQ, HG, HB⟩ := hrel
      have f0 := kept HB.out F0.out
      by_cases htn : t < n
      · obtain ⟨p1, e1, d1⟩ := (R0.out.on HB.out) t (by rw [XL.out]; exact htn)
        obtain ⟨p2, e2, d2⟩ := (S0.out.on HB.out) t (by rw [YL.out]; exact htn)
        obtain ⟨u, hu⟩ : ∃ u, u = gA xa t := ⟨_, rfl⟩
        obtain ⟨v, hv⟩ : ∃ v, v = gA ya t := ⟨_, rfl⟩
        rw [← hu] at d1
        rw [← hv] at d2
        have hm := comb_bd AB.out.1 AB.out.2 (show -2147483647 ≤ u ∧ u ≤ 2147483647 by rw [hu]; exact XA.out _ (gA_mem (by rw [XL.out]; exact htn))) (show -2147483647 ≤ v ∧ v ≤ 2147483647 by rw [hv]; exact YA.out _ (gA_mem (by rw [YL.out]; exact htn)))
        obtain ⟨⟨m1, m2⟩, m3, _⟩ := hm
        have cl : (combN t a xa b ya).length = n := by rw [combN_len (by rw [XL.out, YL.out]) (by rw [XL.out]; omega), XL.out]
        have g0 := kept HB.out G0.out
        obtain ⟨h0, h1, h2⟩ := HQ.out.facts
        simp only [List.length_replicate] at h0
        have k0 := HG.out.at (j := t) (by rw [cl]; exact htn)
        have k1 : wr.frozen? ⟨g, t, none⟩ = false := World.ownsRow.frozenAt HG.out t
        have GP := HG.out.put t (a * u + b * v)
        rw [hu, hv, combN_step (by rw [XL.out, YL.out]) (by rw [XL.out]; exact htn), ← hu, ← hv] at GP
        have G2 := Lib.hid GP.1
        have Q2 := Lib.hid (HQ.out.grown GP.2 (Ne.symm HZ.out.1))
        have B2 := Lib.hid (Below.grown HB.out GP.2 HB.out.size (fun k hk => by have := HZ.out.2.2; injection hk with hk; omega))
        subst e1
        subst e2
        clear hu hv GP cl h1 h2
        go_wp2_with fail
        go_region
        go_wp2_with fail
        go_roundw
        case rel => exact ⟨t + 1, by go_num, by omega, Lib.hid (Q2.out.kept (below_drewN (Below.refl _ _) 1)), Lib.hid (G2.out.on (below_drewN (Below.refl _ _) 1)), Lib.hid (below_drewN B2.out 1)⟩
        case measure => simp [intOf]; omega
      · obtain rfl : t = n := by omega
        have cl : (combN t a xa b ya).length = t := by rw [combN_len (by rw [XL.out, YL.out]) (by rw [XL.out]; omega), XL.out]
        obtain ⟨A, hA⟩ : ∃ A, A = combN t a xa b ya := ⟨_, rfl⟩
        have A63' : ∀ v ∈ A, A63 v := fun v hv => by
          rw [hA, show combN t a xa b ya = List.zipWith (fun u v => a * u + b * v) xa ya by rw [← combN_all (by rw [XL.out, YL.out]), XL.out]] at hv
          obtain ⟨j, hj, rfl⟩ := List.getElem_of_mem hv
          rw [List.getElem_zipWith]
          exact (comb_bd AB.out.1 AB.out.2 (XA.out _ (List.getElem_mem _)) (YA.out _ (List.getElem_mem _))).2.2
        rw [← hA] at cl HG XCR
        have Q3 := Lib.hid (show BkV wr q5 ⟨some ⟨g, 0, none⟩, t, A, sb, ss⟩ by
          have := HQ.out
          unfold BkV at this ⊢
          rw [this]; simp [AV.cs, AV.cells, cl])
        have SH := Lib.hid (rshort_any ⟨some ⟨g, 0, none⟩, t, A, sb, ss⟩ i wr ⟨g, 0, none⟩ rfl rfl (by show A.length ≤ t; omega) (by show t ≤ 9223372036854775807; omega) (by show i < A.length; have := N1.out.2; omega) (by show A.length ≤ 1000; omega) HG.out.rd)
        have AA := Lib.hid A63'
        have SBA := Lib.hid (show A63 sb by rw [SBB.out]; exact CB.out.2.2)
        have CL := Lib.hid cl
        clear hA HG A63' cl
        go_wp2_with (refine wpl_loadV rfl _ rfl _ rfl ⟨some ⟨g, 0, none⟩, t, A, sb, ss⟩ Q3.out.avAt ?_)
        refine SH.out.mono ?_
        rintro e w5 ⟨g5, c5, rfl, ho, hb⟩
        have LW := Lib.hid (rlowest_any (AV.mk (some ⟨g5, 0, none⟩) c5 (A.eraseIdx i) sb ss) w5 (by show (A.eraseIdx i).length ≤ 1000; have := CL.out; have := List.length_eraseIdx_le A i; omega) ho.rd ⟨fun e => by (cases e), ho.capOk⟩ (fun v hv => AA.out v (List.mem_of_mem_eraseIdx hv)) SBA.out)
        have B5 := Lib.hid (below_on HB.out hb)
        have Z5 := Lib.hid hb.size
        clear ho hb f0
        go_wp2_with fail
        refine LW.out.mono ?_
        rintro e w6 ⟨g6, c6, rfl, ho, hb⟩
        have B6 := Lib.hid (below_on B5.out hb)
        have K6 := Lib.hid (K2.out.kept B6.out)
        have HO := Lib.hid ho
        have Z6 := Lib.hid (show w0.heap.size ≤ g6 by have h1 := ho.lt; have h2 := B5.out.size; omega)
        clear ho hb
        obtain ⟨X, hX⟩ : ∃ X, X = (shR i CR).lowR := ⟨_, rfl⟩
        have EX : (lnV (AV.mk (some ⟨g5, 0, none⟩) c5 (A.eraseIdx i) sb ss)).lowR = X := by rw [hX, XCR.out]; rfl
        rw [EX] at HO ⊢
        have HXX := Lib.hid hX
        clear EX hX
        have NG := Lib.hid (show g6 ≠ w.heap.size + 2 by have := K2.out.lt; have := Z6.out; omega)
        have GO := Lib.hid (HO.out.grown (grown_row w6 (w.heap.size + 2) (AV.mk (some ⟨g6, 0, none⟩) c6 X.a X.b X.s).cs) NG.out)
        have KF := Lib.hid (K6.out.setRow (z := AV.mk (some ⟨g6, 0, none⟩) c6 X.a X.b X.s))
        have BW := Lib.hid (Below.setRow (below_on E0.out B6.out) (b := w.heap.size + 2) (by omega) (AV.mk (some ⟨g6, 0, none⟩) c6 X.a X.b X.s).cs)
        go_wp2_with (refine wpl_storeV rfl _ _ rfl (w.heap.size + 2) (AV.mk (some ⟨g6, 0, none⟩) c6 X.a X.b X.s) rfl rfl _ K6.out ?_)
        refine bodyPost_ret (results_av Tryz.results93 _ rfl KF.out) rfl ⟨g6, c6, by rw [← HXX.out], by rw [← HXX.out]; exact World.ownsRow.mono GO.out (Nat.le_trans E0.out.size B5.out.size), BW.out⟩
end Go.Proofs.YtefpaobboimakaaGreat

namespace Go.Proofs.YtefpaobboimakaaGreat
open Go.Sort

/-- The first n coordinates alone. -/
def tk (n : Nat) (x : Ln) : Ln := ⟨x.a.take n, x.b, x.s⟩

/-- The sum of two lines without the coordinate i, as the reference has it. -/
def sumRf (x y : Ln) (i : Nat) : Ln := (shR i (combR ((-(gA y.a i)).tdiv (Int.gcd (-(gA y.a i)) (gA x.a i))) x ((gA x.a i).tdiv (Int.gcd (-(gA y.a i)) (gA x.a i))) y)).lowR

def DomN (n : Nat) (x : Ln) : Prop := x.a.length = 6 ∧ ∀ j, n ≤ j → gA x.a j = 0

theorem gA_tk {n i : Nat} (hi : i < n) (x : Ln) : gA (tk n x).a i = gA x.a i := gA_take hi

theorem sh_tk (n i : Nat) (x : Ln) : shR i (tk n x) = erL n i x := rfl

theorem comb_tk {n : Nat} {x y : Ln} (p q : Int) : combR p (tk n x) q (tk n y) = tk n ((x.times p).plus (y.times q)) := by
  unfold combR tk Ln.plus Ln.times
  simp only [Ln.mk.injEq]
  refine ⟨?_, by rw [Int.mul_comm p, Int.mul_comm q], trivial⟩
  rw [List.take_zipWith, ← List.map_take, ← List.map_take, List.zipWith_map]
  congr 1
  funext u v
  rw [Int.mul_comm p, Int.mul_comm q]

theorem comb_dom {n i : Nat} (hi : i < 6) {x y : Ln} (hx : DomN n x) (hy : DomN n y) : DomL n i ((x.times ((-(gA y.a i)).tdiv (sumG x y i))).plus (y.times ((gA x.a i).tdiv (sumG x y i)))) := by
  obtain ⟨x1, x2⟩ := hx
  obtain ⟨y1, y2⟩ := hy
  have at_ : ∀ p q : Int, ∀ j, j < 6 → gA ((x.times p).plus (y.times q)).a j = gA x.a j * p + gA y.a j * q := fun p q j hj => by
    show gA (List.zipWith (· + ·) (x.a.map (· * p)) (y.a.map (· * q))) j = _
    rw [gA_zip (by simp; omega) (by simp; omega), gA_map _ (by omega), gA_map _ (by omega)]
  refine ⟨by simp [Ln.plus, Ln.times, x1, y1], ?_, fun j hj => ?_⟩
  · rw [at_ _ _ i hi]
    unfold sumG
    obtain ⟨u, hu⟩ := Int.gcd_dvd_left (gA x.a i) (gA y.a i)
    obtain ⟨v, hv⟩ := Int.gcd_dvd_right (gA x.a i) (gA y.a i)
    generalize gA x.a i = a at *
    generalize gA y.a i = b at *
    generalize (Int.gcd a b : Int) = g at *
    by_cases hg : g = 0
    · rw [hg] at hu hv ⊢
      simp at hu hv; rw [hu, hv]; simp
    · rw [show (-b).tdiv g = -v by rw [hv, Int.neg_mul_eq_mul_neg, Int.mul_tdiv_cancel_left _ hg], show a.tdiv g = u by rw [hu, Int.mul_tdiv_cancel_left _ hg], hu, hv]
      grind
  · by_cases h6 : j < 6
    · rw [at_ _ _ j h6, x2 j hj, y2 j hj]; simp
    · unfold gA; rw [List.getD_eq_getElem?_getD, List.getElem?_eq_none (by simp [Ln.plus, Ln.times, x1, y1]; omega)]; rfl

theorem sum_tk {n i : Nat} (hi : i < n) (hn : n ≤ 6) {x y : Ln} (hx : DomN n x) (hy : DomN n y) : sumRf (tk n x) (tk n y) i = erL n i (sumL x y i) := by
  unfold sumRf sumL
  rw [gA_tk hi, gA_tk hi, comb_tk, sh_tk, ← low_er (comb_dom (by omega) hx hy) hi]
  have : Int.gcd (-(gA y.a i)) (gA x.a i) = Int.gcd (gA x.a i) (gA y.a i) := by rw [Int.gcd_comm]; simp [Int.gcd]
  rw [this]; rfl

theorem sum_dom {n i : Nat} (hi : i < n) (hn : n ≤ 6) {x y : Ln} (hx : DomN n x) (hy : DomN n y) : DomL n i (sumL x y i) := low_dom (comb_dom (by omega) hx hy)

/-- What the reference leaves, and its error. -/
def sumsR (l : List Ln) (i : Nat) : List Ln := (prs (ups l i) (dns l i)).map fun p => sumRf p.1 p.2 i

def validL (m : Nat) (x : Ln) : Bool := decide (x.a.length = m) && x.a.all fitB && fitB x.b

def leaveEr (n : Nat) (l : List Ln) (i : Nat) : Int := if 1000 < (zrs l i).length + (ups l i).length * (dns l i).length then 3 else if (sumsR l i).all (validL (n - 1)) then 0 else 7

def leaveLr (n : Nat) (l : List Ln) (i : Nat) : List Ln := tidR (n - 1) ((zrs l i).map (shR i) ++ sumsR l i)

theorem ups_tk {n i : Nat} (hi : i < n) (l : List Ln) : ups (l.map (tk n)) i = (ups l i).map (tk n) ∧ dns (l.map (tk n)) i = (dns l i).map (tk n) ∧ zrs (l.map (tk n)) i = (zrs l i).map (tk n) := by
  unfold ups dns zrs
  refine ⟨?_, ?_, ?_⟩ <;> (rw [List.filter_map]; congr 2; funext x; simp [Function.comp, gA_tk hi])

theorem prs_map (f : Ln → Ln) (xs ys : List Ln) : prs (xs.map f) (ys.map f) = (prs xs ys).map fun p => (f p.1, f p.2) := by
  unfold prs
  rw [List.map_flatMap, List.flatMap_map]
  congr 1
  funext x
  simp [List.map_map, Function.comp]

theorem mem_prs {xs ys : List Ln} {p : Ln × Ln} (h : p ∈ prs xs ys) : p.1 ∈ xs ∧ p.2 ∈ ys := by
  unfold prs at h
  obtain ⟨x, hx, h⟩ := List.mem_flatMap.1 h
  obtain ⟨y, hy, rfl⟩ := List.mem_map.1 h
  exact ⟨hx, hy⟩

theorem sums_tk {n i : Nat} (hi : i < n) (hn : n ≤ 6) {l : List Ln} (hl : ∀ x ∈ l, DomN n x) : sumsR (l.map (tk n)) i = (sums l i).map (erL n i) ∧ ∀ x ∈ sums l i, DomL n i x := by
  have hp : ∀ p ∈ prs (ups l i) (dns l i), DomN n p.1 ∧ DomN n p.2 := fun p h => by
    obtain ⟨h1, h2⟩ := mem_prs h
    exact ⟨hl _ (List.mem_filter.1 h1).1, hl _ (List.mem_filter.1 h2).1⟩
  unfold sumsR sums
  refine ⟨?_, fun x hx => ?_⟩
  · rw [(ups_tk hi l).1, (ups_tk hi l).2.1, prs_map, List.map_map, List.map_map]
    refine List.map_congr_left fun p h => ?_
    exact sum_tk hi hn (hp p h).1 (hp p h).2
  · obtain ⟨p, h, rfl⟩ := List.mem_map.1 hx
    exact sum_dom hi hn (hp p h).1 (hp p h).2

theorem zrs_dom {n i : Nat} {l : List Ln} (hl : ∀ x ∈ l, DomN n x) : ∀ x ∈ zrs l i, DomL n i x := fun x hx => by
  obtain ⟨h1, h2⟩ := List.mem_filter.1 hx
  have := hl x h1
  exact ⟨this.1, by simpa using h2, this.2⟩

theorem leaveL_tk {n i : Nat} (hi : i < n) (hn : n ≤ 6) {l : List Ln} (hl : ∀ x ∈ l, DomN n x) : leaveLr n (l.map (tk n)) i = (leaveL l i).map (erL n i) := by
  unfold leaveLr leaveL
  rw [(sums_tk hi hn hl).1, (ups_tk hi l).2.2, List.map_map, ← tidy_er hi hn (fun x hx => by
    rcases List.mem_append.1 hx with h | h
    · exact zrs_dom hl x h
    · exact (sums_tk hi hn hl).2 x h), List.map_append]
  rfl

theorem fits_er {n i : Nat} (hi : i < n) (hn : n ≤ 6) {x : Ln} (h : DomL n i x) : validL (n - 1) (erL n i x) = x.fits := by
  obtain ⟨h1, h2, h3⟩ := h
  have hl : ((x.a.take n).eraseIdx i).length = n - 1 := by rw [List.length_eraseIdx_of_lt (by simp; omega)]; simp; omega
  unfold validL erL chW Ln.fits
  simp only [hl, decide_true, Bool.true_and]
  congr 1
  rw [Bool.eq_iff_iff, List.all_eq_true, List.all_eq_true]
  constructor
  · intro h v hv
    obtain ⟨j, hj, rfl⟩ := List.getElem_of_mem hv
    by_cases hjn : n ≤ j
    · have := h3 j hjn; simp [gA, hj] at this; rw [this]; decide
    · by_cases hji : j = i
      · subst hji; simp [gA, hj] at h2; rw [h2]; decide
      · refine h _ ?_
        rw [List.mem_eraseIdx_iff_getElem?]
        exact ⟨j, hji, by rw [List.getElem?_take_of_lt (by omega), List.getElem?_eq_getElem hj]⟩
  · intro h v hv
    exact h v (List.mem_of_mem_take (List.mem_of_mem_eraseIdx hv))

theorem leaveE_tk {n i : Nat} (hi : i < n) (hn : n ≤ 6) {l : List Ln} (hl : ∀ x ∈ l, DomN n x) : leaveEr n (l.map (tk n)) i = leaveE l i := by
  unfold leaveEr leaveE
  rw [(ups_tk hi l).1, (ups_tk hi l).2.1, (ups_tk hi l).2.2, List.length_map, List.length_map, List.length_map, (sums_tk hi hn hl).1, List.all_map]
  have : (sums l i).all (validL (n - 1) ∘ erL n i) = (sums l i).all Ln.fits := by
    rw [Bool.eq_iff_iff, List.all_eq_true, List.all_eq_true]
    constructor <;> intro h x hx
    · have := h x hx; rwa [Function.comp, fits_er hi hn ((sums_tk hi hn hl).2 x hx)] at this
    · rw [Function.comp, fits_er hi hn ((sums_tk hi hn hl).2 x hx)]; exact h x hx
  rw [this]
end Go.Proofs.YtefpaobboimakaaGreat

namespace Go.Proofs.YtefpaobboimakaaGreat
open Go.RowKit Go.Sort Go.Shelf

theorem OwnV.other {w w' : World} {B : Nat} {v : Value} {L : List AV} {r : Option Nat} (h : OwnV w B v L) (hg : w.grownBy w' r) (hd : ∀ k, v.ownBlock = some k → r ≠ some k) (hn : ∀ y ∈ L, ∀ p, y.q = some p → r ≠ some p.block) : OwnV w' B v L :=
  ⟨World.ownsRow.kept h.row hg (by
    cases e : v.ownBlock with
    | none => exact Or.inl rfl
    | some k => exact Or.inr (fun q => hd k e q.symm)), fun y hy => (h.nums y hy).grown hg (hn y hy), fun y hy p e => ⟨(h.far y hy p e).1, Nat.lt_of_lt_of_le (h.far y hy p e).2 hg.size⟩, h.nil⟩

theorem OwnV.lt {w : World} {B : Nat} {v : Value} {L : List AV} (h : OwnV w B v L) : ∀ k, v.ownBlock = some k → B ≤ k ∧ k < w.heap.size := fun k hk => World.ownsRow.lt h.row k hk

/-- What leave has between two lines: three lists of its own. -/
structure LvR (w wr : World) (v1 v2 v3 : Value) (U D Z : List AV) : Prop where
  o1 : OwnV wr w.heap.size v1 U
  o2 : OwnV wr w.heap.size v2 D
  o3 : OwnV wr w.heap.size v3 Z
  be : Below w.heap.size w wr
  n12 : ∀ k, v1.ownBlock = some k → v2.ownBlock ≠ some k
  n13 : ∀ k, v1.ownBlock = some k → v3.ownBlock ≠ some k
  n23 : ∀ k, v2.ownBlock = some k → v3.ownBlock ≠ some k
  l1 : ∀ y ∈ U, ∀ p, y.q = some p → p.block < w.heap.size
  l2 : ∀ y ∈ D, ∀ p, y.q = some p → p.block < w.heap.size
  l3 : ∀ y ∈ Z, ∀ p, y.q = some p → v1.ownBlock ≠ some p.block ∧ v2.ownBlock ≠ some p.block ∧ w.heap.size ≤ p.block
section
variable {w wr w' : World} {v1 v2 v3 v' : Value} {U D Z : List AV} {y : AV}

theorem LvR.on (h : LvR w wr v1 v2 v3 U D Z) (hb : Below wr.heap.size wr w') : LvR w w' v1 v2 v3 U D Z :=
  ⟨h.o1.on hb, h.o2.on hb, h.o3.on hb, below_on h.be hb, h.n12, h.n13, h.n23, h.l1, h.l2, h.l3⟩

theorem LvR.grown_be (h : LvR w wr v1 v2 v3 U D Z) {v : Value} {l : List AV} (ho : OwnV wr w.heap.size v l) (hg : wr.grownBy w' v.ownBlock) : Below w.heap.size w w' :=
  Below.grown h.be hg h.be.size (fun k hk => (ho.lt k hk).1)

theorem LvR.app1 (h : LvR w wr v1 v2 v3 U D Z) (ho : OwnV w' w.heap.size v' (U ++ [y])) (hg : wr.grownBy w' v1.ownBlock) (hf : v'.ownBlock = v1.ownBlock ∨ v'.ownBlock = some wr.heap.size) (hy : ∀ p, y.q = some p → p.block < w.heap.size) : LvR w w' v' v2 v3 (U ++ [y]) D Z := by
  have a1 := h.o1.lt
  have a2 := h.o2.lt
  have a3 := h.o3.lt
  refine ⟨ho, h.o2.other hg (fun k e q => h.n12 k q e) (fun z hz p e q => by have := h.l2 z hz p e; have := a1 _ q; omega), h.o3.other hg (fun k e q => h.n13 k q e) (fun z hz p e => (h.l3 z hz p e).1), h.grown_be h.o1 hg, ?_, ?_, h.n23, ?_, h.l2, ?_⟩
  · intro k e q
    rcases hf with f | f
    · exact h.n12 k (f ▸ e) q
    · rw [f] at e; cases e; have := a2 _ q; omega
  · intro k e q
    rcases hf with f | f
    · exact h.n13 k (f ▸ e) q
    · rw [f] at e; cases e; have := a3 _ q; omega
  · intro z hz
    rcases List.mem_append.1 hz with q | q
    · exact h.l1 z q
    · rw [List.mem_singleton] at q; subst q; exact hy
  · intro z hz p e
    have := h.l3 z hz p e
    refine ⟨?_, this.2⟩
    rcases hf with f | f
    · rw [f]; exact this.1
    · rw [f]; intro q; injection q with q; have := (h.o3.far z hz p e).2; omega

theorem LvR.app2 (h : LvR w wr v1 v2 v3 U D Z) (ho : OwnV w' w.heap.size v' (D ++ [y])) (hg : wr.grownBy w' v2.ownBlock) (hf : v'.ownBlock = v2.ownBlock ∨ v'.ownBlock = some wr.heap.size) (hy : ∀ p, y.q = some p → p.block < w.heap.size) : LvR w w' v1 v' v3 U (D ++ [y]) Z := by
  have a1 := h.o1.lt
  have a2 := h.o2.lt
  have a3 := h.o3.lt
  refine ⟨h.o1.other hg (fun k e q => h.n12 k e q) (fun z hz p e q => by have := h.l1 z hz p e; have := a2 _ q; omega), ho, h.o3.other hg (fun k e q => h.n23 k q e) (fun z hz p e => (h.l3 z hz p e).2.1), h.grown_be h.o2 hg, ?_, h.n13, ?_, h.l1, ?_, ?_⟩
  · intro k e q
    rcases hf with f | f
    · exact h.n12 k e (f ▸ q)
    · rw [f] at q; cases q; have := a1 _ e; omega
  · intro k e q
    rcases hf with f | f
    · exact h.n23 k (f ▸ e) q
    · rw [f] at e; cases e; have := a3 _ q; omega
  · intro z hz
    rcases List.mem_append.1 hz with q | q
    · exact h.l2 z q
    · rw [List.mem_singleton] at q; subst q; exact hy
  · intro z hz p e
    have := h.l3 z hz p e
    refine ⟨this.1, ?_, this.2.2⟩
    rcases hf with f | f
    · rw [f]; exact this.2.1
    · rw [f]; intro q; injection q with q; have := (h.o3.far z hz p e).2; omega

theorem LvR.app3 (h : LvR w wr v1 v2 v3 U D Z) (ho : OwnV w' w.heap.size v' (Z ++ [y])) (hg : wr.grownBy w' v3.ownBlock) (hf : v'.ownBlock = v3.ownBlock ∨ v'.ownBlock = some wr.heap.size) (hy : ∀ p, y.q = some p → v1.ownBlock ≠ some p.block ∧ v2.ownBlock ≠ some p.block ∧ w.heap.size ≤ p.block) : LvR w w' v1 v2 v' U D (Z ++ [y]) := by
  have a1 := h.o1.lt
  have a2 := h.o2.lt
  have a3 := h.o3.lt
  refine ⟨h.o1.other hg (fun k e q => h.n13 k e q) (fun z hz p e q => by have := h.l1 z hz p e; have := a3 _ q; omega), h.o2.other hg (fun k e q => h.n23 k e q) (fun z hz p e q => by have := h.l2 z hz p e; have := a3 _ q; omega), ho, h.grown_be h.o3 hg, h.n12, ?_, ?_, h.l1, h.l2, ?_⟩
  · intro k e q
    rcases hf with f | f
    · exact h.n13 k e (f ▸ q)
    · rw [f] at q; cases q; have := a1 _ e; omega
  · intro k e q
    rcases hf with f | f
    · exact h.n23 k e (f ▸ q)
    · rw [f] at q; cases q; have := a2 _ e; omega
  · intro z hz
    rcases List.mem_append.1 hz with q | q
    · exact h.l3 z q
    · rw [List.mem_singleton] at q; subst q; exact hy

theorem LvR.start (w : World) : LvR w w (.slice none 0 0) (.slice none 0 0) (.slice none 0 0) [] [] [] :=
  ⟨OwnV.empty _ _, OwnV.empty _ _, OwnV.empty _ _, Below.refl _ _, fun k e => (by cases e), fun k e => (by cases e), fun k e => (by cases e), fun y h => (by simp at h), fun y h => (by simp at h), fun y h => (by simp at h)⟩
end

def upsV (L : List AV) (i : Nat) : List AV := L.filter fun y => decide (0 < gA y.a i)

def dnsV (L : List AV) (i : Nat) : List AV := L.filter fun y => decide (gA y.a i < 0)

def zrsV (L : List AV) (i : Nat) : List Ln := (zrs (L.map lnV) i).map (shR i)

theorem upsV_map (L : List AV) (i : Nat) : (upsV L i).map lnV = ups (L.map lnV) i := by
  unfold upsV ups; rw [List.filter_map]; rfl

theorem dnsV_map (L : List AV) (i : Nat) : (dnsV L i).map lnV = dns (L.map lnV) i := by
  unfold dnsV dns; rw [List.filter_map]; rfl

theorem filtV_snoc {p : AV → Bool} {l : List AV} {t : Nat} (h : t < l.length) : (l.take (t + 1)).filter p = (l.take t).filter p ++ (if p l[t] then [l[t]] else []) := by
  rw [List.take_succ_eq_append_getElem h, List.filter_append]
  congr 1
  cases e : p l[t] <;> simp [e]

theorem zrsV_snoc {l : List AV} {t i : Nat} (h : t < l.length) : zrsV (l.take (t + 1)) i = zrsV (l.take t) i ++ (if decide (gA l[t].a i = 0) then [shR i (lnV l[t])] else []) := by
  unfold zrsV
  rw [List.map_take, zrs, filt_snoc (by simpa using h), List.map_append, ← zrs, ← List.map_take]
  simp only [List.getElem_map]
  congr 1
  by_cases e : gA l[t].a i = 0
  · have h1 : decide (gA (lnV l[t]).a i = 0) = true := decide_eq_true e
    have h2 : decide (gA l[t].a i = 0) = true := decide_eq_true e
    rw [h1, h2]; rfl
  · have h1 : decide (gA (lnV l[t]).a i = 0) = false := decide_eq_false e
    have h2 : decide (gA l[t].a i = 0) = false := decide_eq_false e
    rw [h1, h2]; rfl

/-- The sums of the first k lines of one list with all of another, and of one more line with the first m. -/
def someR (U D : List Ln) (i k m : Nat) : List Ln := (prs (U.take k) D).map (fun p => sumRf p.1 p.2 i) ++ (D.take m).map (fun y => sumRf (U.getD k ⟨[], 0, false⟩) y i)

theorem someR_zero (U D : List Ln) (i : Nat) : someR U D i 0 0 = [] := by simp [someR, prs]

theorem someR_step {U D : List Ln} {i k m : Nat} (hm : m < D.length) : someR U D i k (m + 1) = someR U D i k m ++ [sumRf (U.getD k ⟨[], 0, false⟩) D[m] i] := by
  unfold someR
  rw [List.take_succ_eq_append_getElem hm, List.map_append, List.append_assoc]; rfl

theorem someR_next {U D : List Ln} {i k : Nat} (hk : k < U.length) : someR U D i k D.length = someR U D i (k + 1) 0 := by
  unfold someR prs
  rw [List.take_succ_eq_append_getElem hk, List.flatMap_append, List.map_append]
  simp [List.map_map, Function.comp, hk]

theorem someR_all (U D : List Ln) (i : Nat) : someR U D i U.length 0 = (prs U D).map (fun p => sumRf p.1 p.2 i) := by
  unfold someR; simp

theorem someR_len (U D : List Ln) (i k m : Nat) (hk : k < U.length) : (someR U D i k m).length ≤ U.length * D.length := by
  unfold someR prs
  rw [List.length_append, List.length_map, List.length_flatMap, List.length_map, List.length_take]
  have h1 : ((U.take k).map (fun x => (D.map (fun y => (x, y))).length)).sum = k * D.length := by
    rw [show (U.take k).map (fun x => (D.map (fun y => (x, y))).length) = List.replicate k D.length by
      refine List.ext_getElem (by simp; omega) fun j _ _ => by simp]
    simp
  rw [h1]
  have h2 : (k + 1) * D.length ≤ U.length * D.length := Nat.mul_le_mul_right _ hk
  rw [Nat.add_mul] at h2
  omega

theorem sumRf_mem {U D : List Ln} {i k m : Nat} (hk : k < U.length) (hm : m < D.length) : sumRf (U.getD k ⟨[], 0, false⟩) D[m] i ∈ (prs U D).map (fun p => sumRf p.1 p.2 i) := by
  rw [List.mem_map]
  refine ⟨(U[k], D[m]), ?_, by simp [hk]⟩
  unfold prs
  rw [List.mem_flatMap]
  exact ⟨U[k], List.getElem_mem _, List.mem_map.2 ⟨D[m], List.getElem_mem _, rfl⟩⟩
end Go.Proofs.YtefpaobboimakaaGreat

namespace Go.Proofs.YtefpaobboimakaaGreat
open Go.RowKit Go.Sort Go.Shelf

theorem cloneL_any (l : List Ln) (b c : Nat) (w : World) (hl : l.length ≤ 1000000) (h : Rw w b l) :
    Calls Tryz.prog 95 #[.slice (some ⟨b, 0, none⟩) l.length c] w (fun e w' => ∃ v', e = .returned v' ∧ OwnL w' w.heap.size v' l ∧ Below w.heap.size w w') := by
  obtain ⟨i0, hi, hz0, hz1, hz2⟩ := info_parts ln_info3
  have h6 : ∀ x ∈ l, x.a.length = 6 := fun x hx => by
    obtain ⟨i, hi, rfl⟩ := List.getElem_of_mem hx
    exact (h.1 i hi).1
  have hh := AnyE.slices_Clone Tryz.laysCloneL i0 (.agg ln0.cs) 8 64 hi hz0 hz1 hz2 rfl (by omega) (fun w => size_of ln_size w) b 0 l.length c (l.flatMap Ln.cells) w (flat_len h6) (by unfold maxLen; omega) (by omega)
    (fun j u hu => by
      have hj : j < l.length * 8 := by
        by_cases q : j < l.length * 8
        · exact q
        · rw [List.getElem?_eq_none (by rw [flat_len h6]; omega)] at hu; cases hu
      have ht : j / 8 < l.length := by omega
      have e : j = j / 8 * 8 + j % 8 := by omega
      rw [e, flat_at h6 ht (by omega)] at hu
      have := (h.1 (j / 8) ht).2 (j % 8) u hu
      rw [addr_add] at this
      rw [Nat.zero_add, e]
      exact this) (fun u hu => by
      obtain ⟨x, hx, hu⟩ := List.mem_flatMap.1 hu
      exact cells_one x u hu)
  change Calls Tryz.prog 95 _ _ _ at hh
  refine hh.mono ?_
  rintro e w' ⟨v', rfl, ho, _, hb⟩
  exact ⟨v', rfl, ⟨ho, h6⟩, hb⟩
end Go.Proofs.YtefpaobboimakaaGreat

namespace Go.Proofs.YtefpaobboimakaaGreat
open Go.RowKit Go.Sort Go.Shelf

theorem OwnL.base {w : World} {B B' : Nat} {v : Value} {l : List Ln} (h : OwnL w B v l) (hb : B' ≤ B) : OwnL w B' v l :=
  ⟨⟨h.1.1, h.1.2.imp id fun ⟨g, cap, cur, h1, h2, h3⟩ => ⟨g, cap, cur, h1, Nat.le_trans hb h2, h3⟩⟩, h.2⟩

set_option maxRecDepth 100000 in
set_option maxHeartbeats 4000000 in
theorem implies_any (n : Nat) (l : List Ln) (x : Ln) (b c : Nat) (w : World) (hn : n ≤ 6) (hl : l.length ≤ 1900) (hw : Rw w b l) (hlt : b < w.heap.size) (hg : ∀ y ∈ l, Rg 2147483647 y) (hx : Rg 2147483647 x) :
    Calls Tryz.prog 57 #[.int .i64 n, .slice (some ⟨b, 0, none⟩) l.length c, .agg x.cs] w (fun e W' =>
      (shE (l ++ [x.opp]) n n = 0 ∧ e = .returned (.bool (empB (l ++ [x.opp]) n)) ∧ Below w.heap.size w W') ∨ (shE (l ++ [x.opp]) n n ≠ 0 ∧ e = .panicked (pan (shE (l ++ [x.opp]) n n)) ∧ Below w.heap.size w W')) := by
  have ho := hx.opp (by omega)
  obtain ⟨l2, hl2⟩ : ∃ l2, l2 = l ++ [x.opp] := ⟨_, rfl⟩
  have L2 := Lib.hid hl2
  have h2 : l2.length ≤ 2000 := by rw [hl2]; simp; omega
  have hg2 : ∀ y ∈ l2, Rg 2147483647 y := fun y hy => by
    rw [hl2] at hy
    rcases List.mem_append.1 hy with q | q
    · exact hg y q
    · rw [List.mem_singleton] at q; rw [q]; exact ho
  have SH := Lib.hid (fun W a d (h : RdL W a l2) => shadows_any l2 a d n W h2 hn h hg2)
  have CLN := Lib.hid (fun W (h : Below w.heap.size w W) => cloneL_any l b c W (by omega) (hw.on h hlt))
  have OP := Lib.hid (fun W => opp_any x W (hx.mono (by omega)))
  have O6 := Lib.hid ho.len
  have LE := Lib.hid hl
  rw [← hl2]
  obtain ⟨w0, hw0⟩ : ∃ w0, w0 = w.alloc (.cells x.cs 82) := ⟨_, rfl⟩
  have K0 := Lib.hid (show Bk w0 w.heap.size x by rw [hw0]; exact Bk.made w x hx.len)
  have E0 := Lib.hid (show Below w.heap.size w w0 by rw [hw0]; exact one_more _)
  obtain ⟨m, hm⟩ : ∃ m, m = l.length := ⟨_, rfl⟩
  rw [← hm] at CLN ⊢
  clear ho hl2 h2 hg2 hl hw hlt hg hx hm
  go_enter Tryz.func57, Tryz.ntmps57
  go_upto_region 1 with (fail)
  rw [← hw0]
  clear hw0
  have KS := Lib.hid (show ∀ W, Below w0.heap.size w0 W → Bk W w.heap.size x from fun W h => K0.out.kept h)
  obtain ⟨wc, hwc⟩ : ∃ wc, wc = w0.drew := ⟨_, rfl⟩
  have Bc := Lib.hid (show Below w0.heap.size w0 wc by rw [hwc]; exact (Below.refl _ _).drew)
  refine wp_region_held_drew (S := (fun W => Bk W w.heap.size x)) (by kernel_rfl) (by rw [← hwc]; exact KS.out _ Bc.out) (fun h0 => ?_)
  rw [← hwc] at h0 ⊢
  clear hwc
  refine wpAnyH_take (i := 0) (v := ?v1) rfl (by kernel_rfl) (by kernel_rfl) (by kernel_rfl) (fun _ _ _ h => h) (Or.inl ⟨by rfl, ?hy1⟩) h0 ?rest1
  case hy1 => (intro w' hS; (try dsimp only at hS); go_simp; try (with_reducible rfl))
  simp only [Act.put, List.getElem_toArray, List.getElem_cons_zero, List.setIfInBounds_toArray, List.set_cons_zero, List.set_cons_succ]
  refine wpAnyH_take (i := 1) (v := ?v2) rfl (by kernel_rfl) (by kernel_rfl) (by kernel_rfl) (fun _ _ _ h => h) (Or.inl ⟨by rfl, ?hy2⟩) h0 ?rest2
  case hy2 => (intro w' hS; (try dsimp only at hS); go_simp; try (with_reducible rfl))
  simp only [Act.put, List.getElem_toArray, List.getElem_cons_zero, List.getElem_cons_succ, List.setIfInBounds_toArray, List.set_cons_zero, List.set_cons_succ]
  refine wpAnyH_take (i := 3) (v := (.agg x.cs)) rfl (by kernel_rfl) (by kernel_rfl) (by kernel_rfl) (fun _ _ _ h => h) (Or.inl ⟨by rfl, fun w' hS => yld_loadL _ rfl _ rfl hS⟩) h0 ?_
  simp only [Act.put, List.getElem_toArray, List.getElem_cons_zero, List.getElem_cons_succ, List.setIfInBounds_toArray, List.set_cons_zero, List.set_cons_succ]
  refine wpAnyH_ready (rs := [2]) (by kernel_rfl) (by simp) (AllReadyH.cons rfl (fun K hK => ?_) AllReadyH.nil)
  rw [if_pos (by rfl)]
  go_simp
  refine (CLN.out wc (below_on E0.out Bc.out)).mono ?_
  rintro e wc ⟨v1, rfl, ho, hb⟩
  have O1 := Lib.hid (ho.base Bc.out.size)
  have Bc := Lib.hid (below_on Bc.out hb)
  clear ho hb
  go_simp
  refine hK.out _ _ (KS.out _ Bc.out) (fun h0_1 => ?_)
  clear hK K h0
  refine wpAnyH_ready (rs := [4]) (by kernel_rfl) (by simp) (AllReadyH.cons rfl (fun K hK => ?_) AllReadyH.nil)
  rw [if_pos (by rfl)]
  go_simp
  refine (OP.out wc).mono ?_
  rintro e wc ⟨rfl, hb⟩
  have O1 := Lib.hid (O1.out.on hb)
  have Bc := Lib.hid (below_on Bc.out hb)
  clear hb
  go_simp
  refine hK.out _ _ (KS.out _ Bc.out) (fun h0_2 => ?_)
  clear hK K h0_1
  refine wpAnyH_ready (rs := [5]) (by kernel_rfl) (by simp) (AllReadyH.cons rfl (fun K hK => ?_) AllReadyH.nil)
  rw [if_pos (by rfl)]
  obtain ⟨wd, hwd⟩ : ∃ wd, wd = wc.alloc (.cells x.opp.cs 82) := ⟨_, rfl⟩
  refine wp_bs1 _ rfl x.opp rfl O6.out ?_
  rw [← hwd]
  have hb : Below wc.heap.size wc wd := by rw [hwd]; exact one_more _
  have YL := Lib.hid (show LnAt wd ⟨wc.heap.size, 0, none⟩ x.opp by rw [hwd]; exact (Bk.made wc x.opp O6.out).lnAt)
  have O1 := Lib.hid (O1.out.on hb)
  have Bc := Lib.hid (below_on Bc.out hb)
  clear hb hwd
  try simp only [Act.put, List.getElem_toArray, List.getElem_cons_zero, List.getElem_cons_succ, List.setIfInBounds_toArray, List.set_cons_zero, List.set_cons_succ]
  refine hK.out _ _ (KS.out _ Bc.out) (fun h0_3 => ?_)
  clear hK K h0_2
  refine wpAnyH_ready (rs := [6]) (by kernel_rfl) (by simp) (AllReadyH.cons rfl (fun K hK => ?_) AllReadyH.nil)
  rw [if_pos (by rfl)]
  obtain ⟨v2, we, hrun, ho2, hg2, _⟩ := append_run O1.out YL.out (by have := LE.out; omega) Bc.out.size (c := 1) 66
  refine Lib.wp_append_run _ _ _ 66 66 rfl v1 (.slice (some ⟨wc.heap.size, 0, none⟩) 1 1) rfl rfl _ _ hrun ?_
  have O2 := Lib.hid (show OwnL we w0.heap.size v2 l2 by rw [L2.out]; exact ho2)
  have Bc := Lib.hid (Below.grown Bc.out hg2 Bc.out.size (fun k hk => (World.ownsRow.lt O1.out.1 k hk).1))
  obtain ⟨a2, c2, e2⟩ := O2.out.form
  subst e2
  clear hrun ho2 hg2
  try simp only [Act.put, List.getElem_toArray, List.getElem_cons_zero, List.getElem_cons_succ, List.setIfInBounds_toArray, List.set_cons_zero, List.set_cons_succ]
  refine hK.out _ _ (KS.out _ Bc.out) (fun h0_4 => ?_)
  clear hK K h0_3
  refine wpAnyH_ready (rs := [7]) (by kernel_rfl) (by simp) (AllReadyH.cons rfl (fun K hK => ?_) AllReadyH.nil)
  rw [if_pos (by rfl)]
  go_simp
  refine (SH.out we a2 c2 O2.out.rd).mono ?_
  rintro e wf (⟨he, b3, cs3, rfl, hs⟩ | ⟨he, rfl, hb⟩)
  rotate_left
  · exact And.intro rfl (Or.inr ⟨he, rfl, below_on E0.out (below_on Bc.out hb)⟩)
  have HZ := Lib.hid he
  obtain ⟨a3, d3, e3, r3⟩ := hs.hi 0 (by omega) (by omega)
  have g3 := Lib.hid ((hs.cell 0).trans e3)
  have Bc := Lib.hid (below_on Bc.out hs.be)
  clear hs e3 r3 he
  go_simp
  refine hK.out _ _ (KS.out _ Bc.out) (fun h0_5 => ?_)
  clear hK K h0_4
  refine wpAnyH_ready (rs := [8]) (by kernel_rfl) (by simp) (AllReadyH.cons rfl (fun K hK => ?_) AllReadyH.nil)
  rw [if_pos (by rfl)]
  go_simp
  refine (isEmpty_any b3 (n + 1) (n + 1) (shL l2 n (n - 0)).length d3 a3 wf (by omega) g3.out).mono ?_
  rintro e wg ⟨rfl, hb⟩
  have Bc := Lib.hid (below_on Bc.out hb)
  clear hb
  go_simp
  refine hK.out _ _ (KS.out _ Bc.out) (fun h0_6 => ?_)
  clear hK K h0_5
  refine wpAnyH_take (i := 9) (v := ?v4) rfl (by kernel_rfl) (by kernel_rfl) (by kernel_rfl) (fun _ _ _ h => h) (Or.inl ⟨by rfl, ?hy4⟩) h0_6 ?rest4
  case hy4 => (intro w' hS; (try dsimp only at hS); go_simp; try (with_reducible rfl))
  simp only [Act.put, List.getElem_toArray, List.getElem_cons_zero, List.getElem_cons_succ, List.setIfInBounds_toArray]
  try simp only [List.set_cons_succ]
  try simp only [List.set_cons_zero]
  refine wpAnyH_done (by kernel_rfl) ?_ _
  go_wp2_with fail
  go_ret
  exact Or.inl ⟨HZ.out, rfl, below_on E0.out Bc.out⟩
end Go.Proofs.YtefpaobboimakaaGreat

namespace Go.Proofs.YtefpaobboimakaaGreat
open Go.RowKit Go.Sort Go.Shelf

theorem yld_loadV {o : Oper} {a : Act} {w : World} (s : Operand) (ho : o.op = .load 25 s) (p : Addr) (hs : a.eval s = .pointer (some p)) {y : AV} (hx : AvAt w p y) : (execOp a.eval o).run Tryz.prog w = .ok (.value (.agg y.cs)) w := by
  have hv := av_loadP hx
  have h : (Instr.loadAt 25 (.pointer (some p))).run Tryz.prog w = .ok (.agg y.cs) w := by
    simp only [Instr.loadAt, Instr.sureAddr, Sem.run_bind, Sem.run_pure, Result.andThen_ok, hv]
  generalize y.cs = V at *
  unfold execOp
  simp only [ho, hs, Sem.run_bind, Sem.run_pure, h, Result.andThen_ok]

def impE (n : Nat) (L : List AV) (y : AV) : Int := if validB n y then shE (L.map ofV ++ [(ofV y).opp]) n n else 2

set_option maxRecDepth 100000 in
set_option maxHeartbeats 4000000 in
theorem implies1_any (n : Nat) (L : List AV) (y : AV) (ao : Option Addr) (cap pn px pl : Nat) (w : World) (hc : chkP n L = 0) (hR : RdV w ao L) (c0 : w.cell? ⟨pn, 0, none⟩ = some (.int .i64 n)) (c1 : AvAt w ⟨px, 0, none⟩ y) (hy : Rd1 w y.q y.a) (c2 : w.cell? ⟨pl, 0, none⟩ = some (.slice ao L.length cap)) :
    Calls Tryz.prog 56 #[.pointer (some ⟨pn, 0, none⟩), .pointer (some ⟨px, 0, none⟩), .pointer (some ⟨pl, 0, none⟩)] w fun e W' =>
      (impE n L y = 0 ∧ ∃ v, e = .returned v ∧ v = .bool (empB (L.map ofV ++ [(ofV y).opp]) n) ∧ Below w.heap.size w W') ∨ (impE n L y ≠ 0 ∧ e = .panicked (pan (impE n L y)) ∧ Below w.heap.size w W') := by
  obtain ⟨⟨_, hn⟩, hl, hv⟩ := chk_valid hc
  obtain ⟨k, hk⟩ : ∃ k, k = L.length := ⟨_, rfl⟩
  rw [← hk] at c2
  have VA := Lib.hid (isValid_any n y w (by omega) hy)
  have A1 := Lib.hid c1
  have C0 := Lib.hid c0
  have C2 := Lib.hid c2
  cases hb : validB n y
  · have HE := Lib.hid (show impE n L y = 2 by unfold impE; rw [hb]; rfl)
    rw [hb] at VA
    clear hc hR hl hv hk c1 hy hb
    go_enter Tryz.func56, Tryz.ntmps56
    go_wp2_with (refine wpl_loadV rfl _ rfl _ rfl y A1.out ?_)
    refine VA.out.mono ?_
    rintro e w1 ⟨rfl, hb⟩
    have B1 := Lib.hid hb
    clear hb
    go_wp2_with fail
    refine (demand_any false w1).mono ?_
    rintro e w2 ⟨rfl, rfl⟩
    go_wp2_with fail
    exact And.intro rfl (Or.inr ⟨by rw [HE.out]; decide, by rw [HE.out], B1.out⟩)
  · have HE := Lib.hid (show impE n L y = shE (L.map ofV ++ [(ofV y).opp]) n n by unfold impE; rw [hb]; rfl)
    have yl := valid_len hb
    have yg : Rg 2147483647 (ofV y) := ofV_rg (n := n) (by omega) hb
    rw [hb] at VA
    have LI := Lib.hid (fun W (h : Below w.heap.size w W) => lines_row L ao cap W (by omega) (hR.on h) (fun y hy => by have := valid_len (hv y hy); omega))
    have LO := Lib.hid (fun W (h : Below w.heap.size w W) => lineOf_any y W (by omega) (hy.on h))
    have IM := Lib.hid (fun W b (h1 : Rw W b (L.map ofV)) (h2 : b < W.heap.size) => implies_any n (L.map ofV) (ofV y) b (L.map ofV).length W (by omega) (by simp; omega) h1 h2 (fun x hx => by
      obtain ⟨z, hz, rfl⟩ := List.mem_map.1 hx
      exact ofV_rg (n := n) (by omega) (hv z hz)) yg)
    rw [← hk] at LI
    have HL := Lib.hid (show (L.map ofV).length = k by rw [hk]; simp)
    generalize L.map ofV = l at *
    generalize ofV y = x at *
    clear hc hR hl hv hk c1 hy hb yl yg
    go_enter Tryz.func56, Tryz.ntmps56
    go_wp2_with (refine wpl_loadV rfl _ rfl _ rfl y A1.out ?_)
    refine VA.out.mono ?_
    rintro e w1 ⟨rfl, hb⟩
    have B1 := Lib.hid hb
    clear hb
    go_wp2_with fail
    refine (demand_any true w1).mono ?_
    rintro e w2 ⟨rfl, rfl⟩
    go_upto_region 2 with (fail)
    have KS := Lib.hid (show ∀ W, Below w2.heap.size w2 W → (W.cell? ⟨pn, 0, none⟩ = some (.int .i64 n) ∧ W.cell? ⟨pl, 0, none⟩ = some (.slice ao k cap) ∧ AvAt W ⟨px, 0, none⟩ y) from fun W h => ⟨kept (below_on B1.out h) C0.out, kept (below_on B1.out h) C2.out, A1.out.on (below_on B1.out h)⟩)
    obtain ⟨wc, hwc⟩ : ∃ wc, wc = w2.drew := ⟨_, rfl⟩
    have Bc := Lib.hid (show Below w2.heap.size w2 wc by rw [hwc]; exact (Below.refl _ _).drew)
    refine wp_region_held_drew (S := (fun W => (W.cell? ⟨pn, 0, none⟩ = some (.int .i64 n) ∧ W.cell? ⟨pl, 0, none⟩ = some (.slice ao k cap) ∧ AvAt W ⟨px, 0, none⟩ y))) (by kernel_rfl) (by rw [← hwc]; exact KS.out _ Bc.out) (fun h0 => ?_)
    rw [← hwc] at h0 ⊢
    clear hwc
    refine wpAnyH_take (i := 0) (v := ?v1) rfl (by kernel_rfl) (by kernel_rfl) (by kernel_rfl) (fun _ _ _ h => h) (Or.inl ⟨by rfl, ?hy1⟩) h0 ?rest1
    case hy1 => (intro w' hS; (try dsimp only at hS); go_simp; try (with_reducible rfl))
    simp only [Act.put, List.getElem_toArray, List.getElem_cons_zero, List.setIfInBounds_toArray, List.set_cons_zero, List.set_cons_succ]
    refine wpAnyH_take (i := 1) (v := ?v2) rfl (by kernel_rfl) (by kernel_rfl) (by kernel_rfl) (fun _ _ _ h => h) (Or.inl ⟨by rfl, ?hy2⟩) h0 ?rest2
    case hy2 => (intro w' hS; (try dsimp only at hS); go_simp; try (with_reducible rfl))
    simp only [Act.put, List.getElem_toArray, List.getElem_cons_zero, List.getElem_cons_succ, List.setIfInBounds_toArray, List.set_cons_zero, List.set_cons_succ]
    refine wpAnyH_take (i := 3) (v := (.agg y.cs)) rfl (by kernel_rfl) (by kernel_rfl) (by kernel_rfl) (fun _ _ _ h => h) (Or.inl ⟨by rfl, fun w' hS => yld_loadV _ rfl _ rfl hS.2.2⟩) h0 ?_
    simp only [Act.put, List.getElem_toArray, List.getElem_cons_zero, List.getElem_cons_succ, List.setIfInBounds_toArray, List.set_cons_zero, List.set_cons_succ]
    refine wpAnyH_ready (rs := [2]) (by kernel_rfl) (by simp) (AllReadyH.cons rfl (fun K hK => ?_) AllReadyH.nil)
    rw [if_pos (by rfl)]
    go_simp
    refine (LI.out wc (below_on B1.out Bc.out)).mono ?_
    rintro e wc ⟨b1, rfl, hr, ⟨_, hz⟩, hb⟩
    have R1 := Lib.hid hr
    have Z1 := Lib.hid hz
    clear hr hz
    have Bc := Lib.hid (below_on Bc.out hb)
    clear hb
    go_simp
    refine hK.out _ _ (KS.out _ Bc.out) (fun h0_1 => ?_)
    clear hK K h0
    refine wpAnyH_ready (rs := [4]) (by kernel_rfl) (by simp) (AllReadyH.cons rfl (fun K hK => ?_) AllReadyH.nil)
    rw [if_pos (by rfl)]
    go_simp
    refine (LO.out wc (below_on B1.out Bc.out)).mono ?_
    rintro e wc ⟨rfl, hb⟩
    have R1 := Lib.hid (R1.out.on hb Z1.out)
    have Z1 := Lib.hid (Nat.lt_of_lt_of_le Z1.out hb.size)
    have Bc := Lib.hid (below_on Bc.out hb)
    clear hb
    go_simp
    refine hK.out _ _ (KS.out _ Bc.out) (fun h0_2 => ?_)
    clear hK K h0_1
    refine wpAnyH_ready (rs := [5]) (by kernel_rfl) (by simp) (AllReadyH.cons rfl (fun K hK => ?_) AllReadyH.nil)
    rw [if_pos (by rfl)]
    go_simp
    refine (IM.out wc b1 R1.out Z1.out).mono ?_
    rintro e wc (⟨he, rfl, hb⟩ | ⟨he, rfl, hb⟩)
    rotate_left
    · exact And.intro rfl (Or.inr ⟨by rw [HE.out]; exact he, by rw [HE.out], below_on B1.out (below_on Bc.out hb)⟩)
    have HZ := Lib.hid he
    clear he
    have Bc := Lib.hid (below_on Bc.out hb)
    clear hb
    go_simp
    refine hK.out _ _ (KS.out _ Bc.out) (fun h0_3 => ?_)
    clear hK K h0_2
    refine wpAnyH_take (i := 6) (v := ?v4) rfl (by kernel_rfl) (by kernel_rfl) (by kernel_rfl) (fun _ _ _ h => h) (Or.inl ⟨by rfl, ?hy4⟩) h0_3 ?rest4
    case hy4 => (intro w' hS; (try dsimp only at hS); go_simp; try (with_reducible rfl))
    simp only [Act.put, List.getElem_toArray, List.getElem_cons_zero, List.getElem_cons_succ, List.setIfInBounds_toArray]
    try simp only [List.set_cons_succ]
    try simp only [List.set_cons_zero]
    refine wpAnyH_done (by kernel_rfl) ?_ _
    go_wp2_with fail
    go_ret
    exact Or.inl ⟨by rw [HE.out]; exact HZ.out, _, rfl, rfl, below_on B1.out Bc.out⟩
end Go.Proofs.YtefpaobboimakaaGreat

namespace Go.Proofs.YtefpaobboimakaaGreat
open Go.RowKit Go.Sort Go.Shelf

/-- What leave returns: a list of lines of its own, or an error. -/
def LrRes (w : World) (er : Int) (l : List Ln) (e : Ending) (w' : World) : Prop :=
  (er = 0 ∧ ∃ v R, e = .returned (.tuple #[v, .int .i64 0]) ∧ OwnV w' w.heap.size v R ∧ R.map lnV = l ∧ Below w.heap.size w w') ∨ (er ≠ 0 ∧ e = .returned (.tuple #[.slice none 0 0, .int .i64 er]) ∧ Below w.heap.size w w')

theorem own_ne_bk {w : World} {B g c q : Nat} {a : List Int} {y : AV} (h : OwnI w B g c a) (k : BkV w q y) : g ≠ q := by
  rintro rfl
  rcases h.2 with ⟨e, _⟩ | ⟨g', cap, cur, e, hb, hg, _⟩
  · cases e
  · injection e with e1
    injection e1 with e1
    injection e1 with e1
    subst e1
    unfold BkV at k
    rw [hg] at k
    injection k with k
    injection k with _ k
    exact absurd k (by decide)

/-- The place of a line's numbers. -/
theorem line_at {w : World} {n i : Nat} {y : AV} (hi : i < n) (hy : y.a.length = n) (hn : NilOk y) (hR : Rd1 w y.q y.a) : ∃ rb ro, y.q = some ⟨rb, ro, none⟩ ∧ rb < w.heap.size ∧ ∀ t, t < n → w.cell? ⟨rb, ro + t, none⟩ = some (.int .i64 (gA y.a t)) := by
  obtain ⟨p, e, c⟩ := hR 0 (by omega)
  have hs := World.cell?_spot c
  have hb := World.block_lt_of_cell? w _ c
  obtain ⟨rb, ro, rs⟩ := p
  have hs : rs = none := by simpa [Addr.add] using hs
  subst hs
  rw [addr_add] at hb
  refine ⟨rb, ro, e, hb, fun t ht => ?_⟩
  obtain ⟨p, e2, c2⟩ := hR t (by omega)
  rw [e] at e2
  cases e2
  rw [addr_add] at c2
  exact c2

theorem valid_b {n : Nat} (hn : 0 < n) (y : AV) : validB ((n : Int) - 1) y = validL (n - 1) (lnV y) := by
  have e : decide ((y.a.length : Int) = (n : Int) - 1) = decide (y.a.length = n - 1) := by
    rw [decide_eq_decide]
    omega
  unfold validB validL lnV
  rw [e]

theorem valid_fit {n : Nat} {y : AV} (h : validL n (lnV y) = true) : FitV n y := by
  unfold validL lnV at h
  simp only [Bool.and_eq_true, decide_eq_true_eq, List.all_eq_true] at h
  obtain ⟨⟨h1, h2⟩, h3⟩ := h
  refine ⟨h1, fun v hv => ?_, ?_⟩
  · have := h2 v hv; unfold fitB at this; simpa using this
  · unfold fitB at h3; simpa using h3

theorem tdiv_le {a g : Int} (h : -2147483647 ≤ a ∧ a ≤ 2147483647) : -2147483647 ≤ a.tdiv g ∧ a.tdiv g ≤ 2147483647 := by
  have h : (a.tdiv g).natAbs ≤ a.natAbs := by rw [Int.natAbs_tdiv]; exact Nat.div_le_self _ _
  omega

theorem OwnV.form' {w : World} {B n cap : Nat} {ao : Option Addr} {L : List AV} (h : OwnV w B (.slice ao n cap) L) (hL : 0 < L.length) : ∃ g, ao = some ⟨g, 0, none⟩ ∧ B ≤ g := by
  obtain ⟨g, c, e, hb, _⟩ := h.form hL
  injection e with e1
  exact ⟨g, e1, hb⟩

theorem OwnV.avAt' {w : World} {B g n cap : Nat} {L : List AV} (h : OwnV w B (.slice (some ⟨g, 0, none⟩) n cap) L) (hn : n = L.length) {i : Nat} (hi : i < L.length) : AvAt w ⟨g, i * 3, none⟩ L[i] := by
  subst hn; exact h.avAt hi

theorem OwnV.base {w : World} {B B' : Nat} {v : Value} {L : List AV} (h : OwnV w B v L) (hb : B' ≤ B) : OwnV w B' v L :=
  ⟨⟨h.row.1, h.row.2.imp id fun ⟨g, cap, cur, h1, h2, h3⟩ => ⟨g, cap, cur, h1, Nat.le_trans hb h2, h3⟩⟩, h.nums, h.far, h.nil⟩

theorem av_cell0 {w : World} {g t n rb ro : Nat} {y : AV} (h : AvAt w ⟨g, t, none⟩ y) (hq : y.q = some ⟨rb, ro, none⟩) (hl : y.a.length = n) : w.cell? ⟨g, t, none⟩ = some (.slice (some ⟨rb, ro, none⟩) n y.c) := by
  have := h 0 _ rfl
  rw [addr_add, Nat.add_zero] at this
  rw [this, ← hq, hl]

theorem prs_len (U D : List Ln) : (prs U D).length = U.length * D.length := by
  unfold prs
  simp [List.length_flatMap, List.map_const', List.sum_replicate_nat]

theorem sumRf_len {x y : Ln} {n i : Nat} (hx : x.a.length = n) (hy : y.a.length = n) (hi : i < n) : (sumRf x y i).a.length = n - 1 := by
  unfold sumRf
  rw [lowR_len]
  unfold shR combR
  rw [List.length_eraseIdx_of_lt (by simp; omega)]
  simp; omega

/-- A sum in a box of its own. -/
structure SumAt (wr wx : World) (q : Nat) (X : AV) (l : Ln) : Prop where
  bk : BkV wx q X
  ln : lnV X = l
  at_ : ∃ g, X.q = some ⟨g, 0, none⟩ ∧ OwnI wx wr.heap.size g X.c X.a
  be : Below wr.heap.size wr wx

set_option maxRecDepth 100000 in
set_option maxHeartbeats 8000000 in
theorem rleave_any (n i : Nat) (L : List AV) (ao : Option Addr) (cap : Nat) (w : World) (hn : n ≤ 100) (hi : i < n) (hl : L.length ≤ 2000) (hR : RdV w ao L) (hY : ∀ y ∈ L, FitV n y ∧ NilOk y) :
    Calls Tryz.prog 49 #[.slice ao L.length cap, .int .i64 n, .int .i64 i] w (LrRes w (leaveEr n (L.map lnV) i) (leaveLr n (L.map lnV) i)) := by
  obtain ⟨m, hm⟩ : ∃ m, m = L.length := ⟨_, rfl⟩
  have HM := Lib.hid hm
  have HR := Lib.hid hR
  have HY := Lib.hid hY
  have hle : m ≤ 2000 := by omega
  obtain ⟨E, hE⟩ : ∃ E, E = leaveEr n (L.map lnV) i := ⟨_, rfl⟩
  obtain ⟨T, hT⟩ : ∃ T, T = leaveLr n (L.map lnV) i := ⟨_, rfl⟩
  have HE := Lib.hid hE
  have HT := Lib.hid hT
  have N100 := Lib.hid hn
  have HI := Lib.hid hi
  have hz := av_zero
  have hi2 : (i : Int) < n := by omega
  rw [← hE, ← hT, ← hm]
  clear hl hR hY hE hT hm
  go_enter Tryz.func49, Tryz.ntmps49
  go_wp2_with fail
  go_loopw [8, 9, 10, 11] (fun v3 v1 v2 s wr => ∃ t : Nat, s = .int .i64 t ∧ t ≤ m ∧ Hid (∃ Z, LvR w wr v1 v2 v3 (upsV (L.take t) i) (dnsV (L.take t) i) Z ∧ Z.map lnV = zrsV (L.take t) i)) (fun _ _ _ s _ => m - (intOf s).toNat)
  case atStart => exact ⟨0, rfl, by omega, Lib.hid ⟨[], by simpa [upsV, dnsV] using LvR.start w, by simp [zrsV, zrs]⟩⟩
  case round =>
    obtain ⟨t, rfl, ht, HZ⟩ := hrel
    by_cases htm : t < m
    · have hlt : t < L.length := by have := HM.out; omega
      obtain ⟨Z, hL, hZ⟩ := HZ.out
      have HL := Lib.hid hL
      have ZM := Lib.hid hZ
      obtain ⟨p, hp, c0⟩ := (HR.out.on hL.be).at_ t hlt
      obtain ⟨y, hy⟩ : ∃ y, y = L[t] := ⟨_, rfl⟩
      have hmem := List.getElem_mem hlt
      rw [← hy] at c0 hmem
      have YY := Lib.hid (HY.out y hmem)
      have YN := Lib.hid (HR.out.nums y hmem)
      have yl : y.a.length = n := YY.out.1.1
      obtain ⟨rb, ro, hr, hrb, hrc⟩ := line_at HI.out yl YY.out.2 YN.out
      have YL := Lib.hid yl
      have RB := Lib.hid hrb
      have YQ := Lib.hid hr
      obtain ⟨u, hu⟩ : ∃ u, u = gA y.a i := ⟨_, rfl⟩
      have US := Lib.hid (show upsV (L.take (t + 1)) i = upsV (L.take t) i ++ (if decide (0 < u) then [y] else []) by rw [hu, hy]; exact filtV_snoc hlt)
      have DS := Lib.hid (show dnsV (L.take (t + 1)) i = dnsV (L.take t) i ++ (if decide (u < 0) then [y] else []) by rw [hu, hy]; exact filtV_snoc hlt)
      have ZS := Lib.hid (show zrsV (L.take (t + 1)) i = zrsV (L.take t) i ++ (if decide (u = 0) then [shR i (lnV y)] else []) by rw [hu, hy]; exact zrsV_snoc hlt)
      have UL := Lib.hid (show (upsV (L.take t) i).length ≤ 2000 by unfold upsV; refine Nat.le_trans (List.length_filter_le _ _) ?_; simp; omega)
      have DL := Lib.hid (show (dnsV (L.take t) i).length ≤ 2000 by unfold dnsV; refine Nat.le_trans (List.length_filter_le _ _) ?_; simp; omega)
      have ZL := Lib.hid (show Z.length ≤ 2000 by have := congrArg List.length hZ; rw [List.length_map] at this; rw [this]; unfold zrsV zrs; rw [List.length_map]; refine Nat.le_trans (List.length_filter_le _ _) ?_; simp; omega)
      have c1 := kept hL.be (hrc i HI.out)
      rw [← hu] at c1
      have C0 := Lib.hid c0
      have c00 : wr.cell? (p.add (t * 3)) = some (.slice (some ⟨rb, ro, none⟩) n y.c) := by
        have := c0 0 _ rfl
        rw [show (p.add (t * 3)).add 0 = p.add (t * 3) by simp [Addr.add]] at this
        rw [this, ← hr, yl]
      generalize upsV (L.take t) i = U at *
      generalize dnsV (L.take t) i = D at *
      generalize zrsV (L.take t) i = Q at *
      clear c0 hmem hy hlt HZ hZ hL hrb hrc hu hr yl
      subst hp
      have yn := YN.out
      by_cases hpu : 0 < u
      · have e1 : decide (0 < u) = true := by simpa using hpu
        have e2 : decide (u < 0) = false := by simp; omega
        have e3 : decide (u = 0) = false := by simp; omega
        rw [e1, if_pos rfl] at US
        rw [e2] at DS
        rw [e3] at ZS
        clear e1 e2 e3
        have B3 := Lib.hid (one_more (w1 := wr) (.cells y.cs 25))
        have H3 := Lib.hid (HL.out.on B3.out)
        have M3 := Lib.hid (BkV.made wr y).avAt
        have z3 : w.heap.size ≤ (wr.alloc (.cells y.cs 25)).heap.size := H3.out.be.size
        have GD := Lib.hid (show GoodV (wr.alloc (.cells y.cs 25)) u9.ownBlock y from ⟨YN.out.on H3.out.be, fun p e => by
          rw [YQ.out] at e; cases e
          have := RB.out
          exact ⟨fun q => by have := HL.out.o1.lt _ q; show False; simp only at this; omega, by simp only; omega⟩, YY.out.2⟩)
        go_wp2_with (first | refine wpl_loadV rfl _ rfl _ rfl y C0.out ?_ | refine wpl_bv1 rfl _ rfl y rfl ?_ | (at_builtin; refine wpl_appV rfl _ _ rfl w.heap.size _ U y rfl H3.out.o1 _ _ rfl M3.out GD.out (by have := UL.out; omega) z3 ?_))
        intro v' w5 o5 g5 f5
        have H5 := Lib.hid (H3.out.app1 o5 g5 (by rw [World.size_alloc]; exact f5) (fun p e => by rw [YQ.out] at e; cases e; exact RB.out))
        clear o5 g5 f5
        go_wp2_with fail
        go_roundw
        case rel => exact ⟨t + 1, by go_num, by omega, Lib.hid ⟨Z, by rw [US.out, DS.out]; simpa using H5.out, by rw [ZS.out, ZM.out]; simp⟩⟩
        case measure => simp [intOf]; omega
      · by_cases hmu : u < 0
        · have e1 : decide (0 < u) = false := by simpa using hpu
          have e2 : decide (u < 0) = true := by simpa using hmu
          have e3 : decide (u = 0) = false := by simp; omega
          rw [e1] at US
          rw [e2, if_pos rfl] at DS
          rw [e3] at ZS
          clear e1 e2 e3
          have B3 := Lib.hid (one_more (w1 := wr) (.cells y.cs 25))
          have H3 := Lib.hid (HL.out.on B3.out)
          have M3 := Lib.hid (BkV.made wr y).avAt
          have z3 : w.heap.size ≤ (wr.alloc (.cells y.cs 25)).heap.size := H3.out.be.size
          have GD := Lib.hid (show GoodV (wr.alloc (.cells y.cs 25)) u10.ownBlock y from ⟨YN.out.on H3.out.be, fun p e => by
            rw [YQ.out] at e; cases e
            have := RB.out
            exact ⟨fun q => by have := HL.out.o2.lt _ q; show False; simp only at this; omega, by simp only; omega⟩, YY.out.2⟩)
          go_wp2_with (first | refine wpl_loadV rfl _ rfl _ rfl y C0.out ?_ | refine wpl_bv1 rfl _ rfl y rfl ?_ | (at_builtin; refine wpl_appV rfl _ _ rfl w.heap.size _ D y rfl H3.out.o2 _ _ rfl M3.out GD.out (by have := DL.out; omega) z3 ?_))
          intro v' w5 o5 g5 f5
          have H5 := Lib.hid (H3.out.app2 o5 g5 (by rw [World.size_alloc]; exact f5) (fun p e => by rw [YQ.out] at e; cases e; exact RB.out))
          clear o5 g5 f5
          go_wp2_with fail
          go_roundw
          case rel => exact ⟨t + 1, by go_num, by omega, Lib.hid ⟨Z, by rw [US.out, DS.out]; simpa using H5.out, by rw [ZS.out, ZM.out]; simp⟩⟩
          case measure => simp [intOf]; omega
        · have e1 : decide (0 < u) = false := by simpa using hpu
          have e2 : decide (u < 0) = false := by simpa using hmu
          have e3 : decide (u = 0) = true := by simp; omega
          rw [e1] at US
          rw [e2] at DS
          rw [e3, if_pos rfl] at ZS
          clear e1 e2 e3
          have SH := Lib.hid (rshort_any y i wr ⟨rb, ro, none⟩ YQ.out rfl YY.out.2.2.1 (by have := YY.out.2.2.2; unfold maxLen at this; omega) (by have := HI.out; have := YL.out; omega) (by have := YL.out; have := N100.out; omega) (YN.out.on HL.out.be))
          go_wp2_with (first | refine wpl_loadV rfl _ rfl _ rfl y C0.out ?_)
          refine SH.out.mono ?_
          rintro e w2 ⟨g, c, rfl, ho, hb⟩
          obtain ⟨X, hX⟩ : ∃ X, X = AV.mk (some ⟨g, 0, none⟩) c (shR i (lnV y)).a (shR i (lnV y)).b (shR i (lnV y)).s := ⟨_, rfl⟩
          rw [← hX]
          have XL := Lib.hid (show lnV X = shR i (lnV y) by rw [hX]; rfl)
          have XQ := Lib.hid (show X.q = some ⟨g, 0, none⟩ by rw [hX])
          have XO := Lib.hid (show OwnI w2 wr.heap.size g X.c X.a by rw [hX]; exact ho)
          have H2 := Lib.hid (HL.out.on hb)
          have B3 := Lib.hid (one_more (w1 := w2) (.cells X.cs 25))
          have H3 := Lib.hid (H2.out.on B3.out)
          have M3 := Lib.hid (BkV.made w2 X).avAt
          have z3 : w.heap.size ≤ (w2.alloc (.cells X.cs 25)).heap.size := H3.out.be.size
          have GD := Lib.hid (show GoodV (w2.alloc (.cells X.cs 25)) u8.ownBlock X from ⟨by rw [XQ.out]; exact (XO.out.on B3.out).rd, fun p e => by
            rw [XQ.out] at e; cases e
            have := XO.out.lt
            exact ⟨fun q => by have := HL.out.o3.lt _ q; show False; simp only at this; omega, by rw [World.size_alloc]; simp only; omega⟩, fun e => (by rw [XQ.out] at e; cases e), XO.out.capOk⟩)
          have L3 := Lib.hid (show ∀ p, X.q = some p → u9.ownBlock ≠ some p.block ∧ u10.ownBlock ≠ some p.block ∧ w.heap.size ≤ p.block from fun p e => by
            rw [XQ.out] at e; cases e
            have h1 := XO.out.lt
            have h2 := HL.out.be.size
            exact ⟨fun q => by have := HL.out.o1.lt _ q; show False; simp only at this; omega, fun q => by have := HL.out.o2.lt _ q; show False; simp only at this; omega, by simp only; omega⟩)
          clear ho hb hX c00 c1
          go_wp2_with (first | refine wpl_bv1 rfl _ rfl X rfl ?_ | (at_builtin; refine wpl_appV rfl _ _ rfl w.heap.size _ Z X rfl H3.out.o3 _ _ rfl M3.out GD.out (by have := ZL.out; omega) z3 ?_))
          intro v' w5 o5 g5 f5
          have H5 := Lib.hid (H3.out.app3 o5 g5 (by rw [World.size_alloc]; exact f5) L3.out)
          clear o5 g5 f5
          go_wp2_with fail
          go_roundw
          case rel => exact ⟨t + 1, by go_num, by omega, Lib.hid ⟨Z ++ [X], by rw [US.out, DS.out]; simpa using H5.out, by rw [ZS.out, List.map_append, ZM.out]; simp [XL.out]⟩⟩
          case measure => simp [intOf]; omega
    · have e : L.take t = L := List.take_of_length_le (by have := HM.out; omega)
      rw [e] at HZ
      obtain ⟨Z, hL, hZ⟩ := HZ.out
      have HL := Lib.hid hL
      have ZM := Lib.hid hZ
      have UF := Lib.hid (show ∀ y ∈ upsV L i, (FitV n y ∧ NilOk y) ∧ 0 < gA y.a i ∧ Rd1 w y.q y.a from fun y h => by
        unfold upsV at h
        rw [List.mem_filter] at h
        exact ⟨HY.out y h.1, by simpa using h.2, HR.out.nums y h.1⟩)
      have DF := Lib.hid (show ∀ y ∈ dnsV L i, (FitV n y ∧ NilOk y) ∧ gA y.a i < 0 ∧ Rd1 w y.q y.a from fun y h => by
        unfold dnsV at h
        rw [List.mem_filter] at h
        exact ⟨HY.out y h.1, by simpa using h.2, HR.out.nums y h.1⟩)
      have ZF := Lib.hid (show ∀ x ∈ zrsV L i, x.a.length = n - 1 ∧ (∀ v ∈ x.a, A63 v) ∧ A63 x.b from fun x h => by
        unfold zrsV zrs at h
        rw [List.mem_map] at h
        obtain ⟨x', h, rfl⟩ := h
        rw [List.mem_filter] at h
        obtain ⟨y, hy, rfl⟩ := List.mem_map.1 h.1
        obtain ⟨h1, h2, h3⟩ := (HY.out y hy).1
        refine ⟨?_, fun v hv => ?_, ?_⟩
        · show (y.a.eraseIdx i).length = n - 1
          rw [List.length_eraseIdx_of_lt (by rw [h1]; exact HI.out), h1]
        · have := h2 v (List.mem_of_mem_eraseIdx hv); unfold A63; omega
        · show A63 y.b; unfold A63; omega)
      have LU := Lib.hid (show (upsV L i).length ≤ m by rw [HM.out]; unfold upsV; exact List.length_filter_le _ _)
      have LD := Lib.hid (show (dnsV L i).length ≤ m by rw [HM.out]; unfold dnsV; exact List.length_filter_le _ _)
      have LZ := Lib.hid (show Z.length ≤ m by have := congrArg List.length hZ; rw [List.length_map] at this; rw [this, HM.out]; unfold zrsV zrs; rw [List.length_map]; refine Nat.le_trans (List.length_filter_le _ _) ?_; simp)
      have UM := Lib.hid (upsV_map L i)
      have DM := Lib.hid (dnsV_map L i)
      have ZN := Lib.hid (show (zrs (L.map lnV) i).length = Z.length by have := congrArg List.length hZ; rw [List.length_map] at this; rw [this]; unfold zrsV; rw [List.length_map])
      have HT2 := Lib.hid (show T = tidR (n - 1) (zrsV L i ++ sumsR (L.map lnV) i) from HT.out)
      have HE2 := Lib.hid (show E = if 1000 < Z.length + (upsV L i).length * (dnsV L i).length then 3 else if (sumsR (L.map lnV) i).all (validL (n - 1)) then 0 else 7 by
        rw [HE.out]; unfold leaveEr
        rw [ZN.out, ← UM.out, ← DM.out, List.length_map, List.length_map])
      have SR := Lib.hid (show sumsR (L.map lnV) i = (prs ((upsV L i).map lnV) ((dnsV L i).map lnV)).map (fun p => sumRf p.1 p.2 i) by rw [UM.out, DM.out]; rfl)
      generalize sumsR (L.map lnV) i = SS at *
      generalize upsV L i = U at *
      generalize dnsV L i = D at *
      generalize zrsV L i = Q at *
      obtain ⟨nu, hnu⟩ : ∃ nu, nu = U.length := ⟨_, rfl⟩
      obtain ⟨nd, hnd⟩ : ∃ nd, nd = D.length := ⟨_, rfl⟩
      obtain ⟨nz, hnz⟩ : ∃ nz, nz = Z.length := ⟨_, rfl⟩
      obtain ⟨a1, k1, f1, r1, q1⟩ := hL.o1.read
      obtain ⟨a2, k2, f2, r2, q2⟩ := hL.o2.read
      obtain ⟨a3, k3, f3, r3, q3⟩ := hL.o3.read
      rw [← hnu] at f1 LU HE2
      rw [← hnd] at f2 LD HE2
      rw [← hnz] at f3 LZ HE2
      subst f1 f2 f3
      have LU' := LU.out
      have LD' := LD.out
      have LZ' := LZ.out
      obtain ⟨p, hp⟩ : ∃ p, p = nu * nd := ⟨_, rfl⟩
      have hp1 : (nu : Int) * (nd : Int) = p := by rw [hp]; simp
      have hp2 : p ≤ 4000000 := by rw [hp]; exact Nat.mul_le_mul (Nat.le_trans LU' hle) (Nat.le_trans LD' hle)
      rw [← hp] at HE2
      have NU := Lib.hid hnu
      have ND := Lib.hid hnd
      have NZ := Lib.hid hnz
      have HP := Lib.hid hp
      have Q1 := Lib.hid q1
      have Q2 := Lib.hid q2
      clear hp hnu hnd hnz e LU LD LZ HZ hL hZ r1 r2 r3 q1 q2 q3 HT HE UM DM ZN HY HR
      go_upto_region 10 with (fail)
      have p2 : (p : Int) ≤ 4000000 := by omega
      by_cases hq : 1000 < nz + p
      · have hq' : (1000 : Int) < nz + p := by omega
        have he := Lib.hid (show E = 3 by rw [HE2.out, if_pos hq])
        go_wp2_with (rw [hp1])
        refine bodyPost_ret (v := .tuple #[.slice none 0 0, .int .i64 3]) (by simp [results, Tryz.results49, go_sem]) rfl ?_
        exact Or.inr ⟨by rw [he.out]; decide, by rw [he.out], HL.out.be⟩
      · have hq' : ¬ (1000 : Int) < nz + p := by omega
        have EE := Lib.hid (show E = if SS.all (validL (n - 1)) then 0 else 7 by rw [HE2.out, if_neg hq])
        have PQ := Lib.hid (show Z.length + U.length * D.length ≤ 1000 by rw [← NZ.out, ← NU.out, ← ND.out, ← HP.out]; omega)
        clear HE2
        go_wp2_with (rw [hp1])
        go_loopw [8, 12] (fun v s wo => ∃ k : Nat, s = .int .i64 k ∧ k ≤ nu ∧ Hid (∃ Z', LvR w wo (.slice a1 nu k1) (.slice a2 nd k2) v U D Z' ∧ Z'.map lnV = Q ++ someR (U.map lnV) (D.map lnV) i k 0) ∧ Hid (∀ x ∈ someR (U.map lnV) (D.map lnV) i k 0, validL (n - 1) x = true)) (fun _ s _ => nu - (intOf s).toNat)
        case atStart => exact ⟨0, rfl, by omega, Lib.hid ⟨Z, HL.out, by rw [someR_zero, ZM.out]; simp⟩, Lib.hid (by rw [someR_zero]; simp)⟩
        case round =>
          obtain ⟨k, rfl, hk, HZ, HV⟩ := hrel
          generalize wr = wo at *
          by_cases hku : k < nu
          · have hkU : k < U.length := by have := NU.out; omega
            have LOK := Lib.hid (show ∀ j, (someR (U.map lnV) (D.map lnV) i k j).length + Q.length ≤ 1000 from fun j => by
              have h1 := someR_len (U.map lnV) (D.map lnV) i k j (by simpa using hkU)
              have h2 := congrArg List.length ZM.out
              rw [List.length_map] at h2
              have h3 := PQ.out
              simp only [List.length_map] at h1
              omega)
            obtain ⟨x, hx⟩ : ∃ x, x = U[k] := ⟨_, rfl⟩
            have XF := Lib.hid (UF.out x (by rw [hx]; exact List.getElem_mem hkU))
            have XD := Lib.hid (show (U.map lnV).getD k ⟨[], 0, false⟩ = lnV x by rw [hx]; simp [hkU])
            have XE := Lib.hid (show ∀ h : k < U.length, U[k] = x from fun _ => hx.symm)
            obtain ⟨xb, xo, xq, xlt, xc⟩ := line_at HI.out XF.out.1.1.1 XF.out.1.2 XF.out.2.2
            have XQ := Lib.hid xq
            have XC := Lib.hid (xc i HI.out)
            obtain ⟨u, hu⟩ : ∃ u, u = gA x.a i := ⟨_, rfl⟩
            rw [← hu] at XC
            have HU := Lib.hid hu
            have UP := Lib.hid (show 0 < u ∧ u ≤ 2147483647 by rw [hu]; exact ⟨XF.out.2.1, (XF.out.1.1.2.1 _ (gA_mem (by rw [XF.out.1.1.1]; exact HI.out))).2⟩)
            have SNX := Lib.hid (show someR (U.map lnV) (D.map lnV) i k nd = someR (U.map lnV) (D.map lnV) i (k + 1) 0 by rw [ND.out]; have := someR_next (U := U.map lnV) (D := D.map lnV) (i := i) (k := k) (by simpa using hkU); simpa using this)
            obtain ⟨g1, ha1⟩ : ∃ g1, a1 = some ⟨g1, 0, none⟩ := by
              obtain ⟨Z', h, _⟩ := HZ.out
              obtain ⟨g, e, _⟩ := h.o1.form' (by omega)
              exact ⟨g, e⟩
            have A1 := Lib.hid ha1
            clear hx xq xlt xc hu ha1 hkU
            go_wp2_with fail
            go_loopw [8, 13] (fun v s wi => ∃ j : Nat, s = .int .i64 j ∧ j ≤ nd ∧ Hid (∃ Z', LvR w wi (.slice a1 nu k1) (.slice a2 nd k2) v U D Z' ∧ Z'.map lnV = Q ++ someR (U.map lnV) (D.map lnV) i k j) ∧ Hid (∀ x ∈ someR (U.map lnV) (D.map lnV) i k j, validL (n - 1) x = true)) (fun _ s _ => nd - (intOf s).toNat)
            case atStart => exact ⟨0, rfl, by omega, HZ, HV⟩
            case round =>
              clear HZ HV
              obtain ⟨j, rfl, hj, HZ, HV⟩ := hrel
              by_cases hjd : j < nd
              · have hjD : j < D.length := by have := ND.out; omega
                obtain ⟨Z', hL', hZ'⟩ := HZ.out
                obtain ⟨y, hy⟩ : ∃ y, y = D[j] := ⟨_, rfl⟩
                have YF := Lib.hid (DF.out y (by rw [hy]; exact List.getElem_mem hjD))
                obtain ⟨yb, yo, yq, ylt, yc⟩ := line_at HI.out YF.out.1.1.1 YF.out.1.2 YF.out.2.2
                obtain ⟨d, hd⟩ : ∃ d, d = gA y.a i := ⟨_, rfl⟩
                have DP := Lib.hid (show d < 0 ∧ -2147483647 ≤ d by rw [hd]; exact ⟨YF.out.2.1, (YF.out.1.1.2.1 _ (gA_mem (by rw [YF.out.1.1.1]; exact HI.out))).1⟩)
                have YC := Lib.hid (show w.cell? ⟨yb, yo + i, none⟩ = some (.int .i64 d) by rw [hd]; exact yc i HI.out)
                obtain ⟨g2, ha2, _⟩ := hL'.o2.form' (by omega)
                have hg1 := A1.out
                subst ha2
                subst hg1
                have HL2 := Lib.hid hL'
                have CX := Lib.hid (show AvAt wr ⟨g1, k * 3, none⟩ x by have hkU : k < U.length := by { have := NU.out; omega }; rw [← XE.out hkU]; exact hL'.o1.avAt' NU.out hkU)
                have CY := Lib.hid (show AvAt wr ⟨g2, j * 3, none⟩ y by rw [hy]; exact hL'.o2.avAt' ND.out hjD)
                have X0 := Lib.hid (av_cell0 CX.out XQ.out XF.out.1.1.1)
                have Y0 := Lib.hid (av_cell0 CY.out yq YF.out.1.1.1)
                have X1 := Lib.hid (kept hL'.be XC.out)
                have Y1 := Lib.hid (kept hL'.be YC.out)
                obtain ⟨G, hG⟩ : ∃ G : Int, G = (Int.gcd (-d) u : Int) := ⟨_, rfl⟩
                have GP := Lib.hid (show 0 < G by rw [hG]; have := Int.gcd_pos_of_ne_zero_left u (show -d ≠ 0 by have := DP.out; omega); omega)
                obtain ⟨S1, hS1⟩ : ∃ S1, S1 = sumRf (lnV x) (lnV y) i := ⟨_, rfl⟩
                have ST := Lib.hid (show someR (U.map lnV) (D.map lnV) i k (j + 1) = someR (U.map lnV) (D.map lnV) i k j ++ [S1] by
                  rw [someR_step (by simpa using hjD), XD.out, hS1, hy]; simp)
                have SL := Lib.hid (show S1.a.length = n - 1 by rw [hS1]; exact sumRf_len XF.out.1.1.1 YF.out.1.1.1 HI.out)
                have SI := Lib.hid (show S1 ∈ SS by
                  rw [SR.out, hS1]
                  have hkU : k < U.length := by { have := NU.out; omega }
                  have := sumRf_mem (U := U.map lnV) (D := D.map lnV) (i := i) (k := k) (m := j) (by simpa using hkU) (by simpa using hjD)
                  rw [XD.out] at this
                  simpa [hy] using this)
                have DV := Lib.hid (fun W => rdiv_any (-d) u W (by have := DP.out; omega) (by have := UP.out; omega))
                rw [← hG] at DV
                obtain ⟨p1, hq1⟩ : ∃ p1, p1 = (-d).tdiv G := ⟨_, rfl⟩
                obtain ⟨p3, hq2⟩ : ∃ p3, p3 = u.tdiv G := ⟨_, rfl⟩
                have P1 := Lib.hid (show -2147483647 ≤ p1 ∧ p1 ≤ 2147483647 by rw [hq1]; exact tdiv_le (by have := DP.out; omega))
                have P3 := Lib.hid (show -2147483647 ≤ p3 ∧ p3 ≤ 2147483647 by rw [hq2]; exact tdiv_le (by have := UP.out; omega))
                have SM := Lib.hid (show ∀ W, Below wr.heap.size wr W → Calls Tryz.prog 93 #[.int .i64 p1, .agg x.cs, .int .i64 p3, .agg y.cs, .int .i64 i] W (VRes W S1) from fun W h => by
                  have := rsum_any p1 p3 x y n i W N100.out HI.out XF.out.1.1 YF.out.1.1 P1.out P3.out (XF.out.2.2.on (below_on HL2.out.be h)) (YF.out.2.2.on (below_on HL2.out.be h))
                  rw [hS1]
                  rw [hq1, hq2, hG, hd, HU.out] at this ⊢
                  exact this)
                have hwd : IntKind.i64.wrap (-d) = -d := wrap_in _ (by have := DP.out; omega) (by have := DP.out; omega)
                have hq1' : IntKind.i64.wrap (-d.tdiv G) = p1 := by rw [← Int.neg_tdiv, ← hq1]; exact wrap_in _ (by have := P1.out; omega) (by have := P1.out; omega)
                have hq2' : IntKind.i64.wrap (u.tdiv G) = p3 := by rw [← hq2]; exact wrap_in _ (by have := P3.out; omega) (by have := P3.out; omega)
                have hg0 : (G = 0) = False := by have := GP.out; simp; omega
                have W1 := Lib.hid hwd
                have W2 := Lib.hid hq1'
                have W3 := Lib.hid hq2'
                have W4 := Lib.hid hg0
                have HZ' := Lib.hid hZ'
                have LZ9 := Lib.hid (show Z'.length + 1 ≤ 1000000 by
                  have h1 := congrArg List.length hZ'
                  rw [List.length_map, List.length_append] at h1
                  have h2 := LOK.out j
                  omega)
                clear hy yq ylt yc hd hL' hZ' HZ hG hS1 hq1 hq2 hjD hq1' hq2' hg0
                go_upto_region 18 with (fail)
                have KS := Lib.hid (show ∀ W, Below wr.heap.size wr W → (W.cell? ⟨g2, j * 3, none⟩ = some (.slice (some ⟨yb, yo, none⟩) n y.c) ∧ W.cell? ⟨yb, yo + i, none⟩ = some (.int .i64 d) ∧ W.cell? ⟨g1, k * 3, none⟩ = some (.slice (some ⟨xb, xo, none⟩) n x.c) ∧ W.cell? ⟨xb, xo + i, none⟩ = some (.int .i64 u)) from fun W h => ⟨kept h Y0.out, kept h Y1.out, kept h X0.out, kept h X1.out⟩)
                obtain ⟨wc, hwc⟩ : ∃ wc, wc = wr.drew := ⟨_, rfl⟩
                have Bc := Lib.hid (show Below wr.heap.size wr wc by rw [hwc]; exact (Below.refl _ _).drew)
                refine wp_region_held_drew (S := (fun W => (W.cell? ⟨g2, j * 3, none⟩ = some (.slice (some ⟨yb, yo, none⟩) n y.c) ∧ W.cell? ⟨yb, yo + i, none⟩ = some (.int .i64 d) ∧ W.cell? ⟨g1, k * 3, none⟩ = some (.slice (some ⟨xb, xo, none⟩) n x.c) ∧ W.cell? ⟨xb, xo + i, none⟩ = some (.int .i64 u)))) (by kernel_rfl) (by rw [← hwc]; exact KS.out _ Bc.out) (fun h0 => ?_)
                rw [← hwc] at h0 ⊢
                clear hwc
                refine wpAnyH_take (i := 0) (v := ?v1) rfl (by kernel_rfl) (by kernel_rfl) (by kernel_rfl) (fun _ _ _ h => h) (Or.inl ⟨by rfl, ?hy1⟩) h0 ?rest1
                case hy1 => (intro w' hS; (try dsimp only at hS); go_simp; try (with_reducible rfl))
                simp only [Act.put, List.getElem_toArray, List.getElem_cons_zero, List.setIfInBounds_toArray, List.set_cons_zero, List.set_cons_succ]
                refine wpAnyH_take (i := 1) (v := ?v2) rfl (by kernel_rfl) (by kernel_rfl) (by kernel_rfl) (fun _ _ _ h => h) (Or.inl ⟨by rfl, ?hy2⟩) h0 ?rest2
                case hy2 => (intro w' hS; (try dsimp only at hS); go_simp; try (with_reducible rfl))
                simp only [Act.put, List.getElem_toArray, List.getElem_cons_zero, List.getElem_cons_succ, List.setIfInBounds_toArray, List.set_cons_zero, List.set_cons_succ]
                refine wpAnyH_take (i := 2) (v := ?v3) rfl (by kernel_rfl) (by kernel_rfl) (by kernel_rfl) (fun _ _ _ h => h) (Or.inl ⟨by rfl, ?hy3⟩) h0 ?rest3
                case hy3 => (intro w' hS; (try dsimp only at hS); go_simp; try (with_reducible rfl))
                simp only [Act.put, List.getElem_toArray, List.getElem_cons_zero, List.getElem_cons_succ, List.setIfInBounds_toArray, List.set_cons_zero, List.set_cons_succ]
                refine wpAnyH_take (i := 3) (v := ?v4) rfl (by kernel_rfl) (by kernel_rfl) (by kernel_rfl) (fun _ _ _ h => h) (Or.inl ⟨by rfl, ?hy4⟩) h0 ?rest4
                case hy4 => (intro w' hS; (try dsimp only at hS); go_simp; try (with_reducible rfl))
                simp only [Act.put, List.getElem_toArray, List.getElem_cons_zero, List.getElem_cons_succ, List.setIfInBounds_toArray, List.set_cons_zero, List.set_cons_succ]
                refine wpAnyH_take (i := 4) (v := ?v5) rfl (by kernel_rfl) (by kernel_rfl) (by kernel_rfl) (fun _ _ _ h => h) (Or.inl ⟨by rfl, ?hy5⟩) h0 ?rest5
                case hy5 => (intro w' hS; (try dsimp only at hS); go_simp; try (with_reducible rfl))
                simp only [Act.put, List.getElem_toArray, List.getElem_cons_zero, List.getElem_cons_succ, List.setIfInBounds_toArray, List.set_cons_zero, List.set_cons_succ]
                refine wpAnyH_take (i := 5) (v := ?v6) rfl (by kernel_rfl) (by kernel_rfl) (by kernel_rfl) (fun _ _ _ h => h) (Or.inl ⟨by rfl, ?hy6⟩) h0 ?rest6
                case hy6 => (intro w' hS; (try dsimp only at hS); go_simp; try (with_reducible rfl))
                simp only [Act.put, List.getElem_toArray, List.getElem_cons_zero, List.getElem_cons_succ, List.setIfInBounds_toArray, List.set_cons_zero, List.set_cons_succ]
                refine wpAnyH_take (i := 6) (v := ?v7) rfl (by kernel_rfl) (by kernel_rfl) (by kernel_rfl) (fun _ _ _ h => h) (Or.inl ⟨by rfl, ?hy7⟩) h0 ?rest7
                case hy7 => (intro w' hS; (try dsimp only at hS); go_simp; try (with_reducible rfl))
                simp only [Act.put, List.getElem_toArray, List.getElem_cons_zero, List.getElem_cons_succ, List.setIfInBounds_toArray, List.set_cons_zero, List.set_cons_succ]
                refine wpAnyH_take (i := 7) (v := ?v8) rfl (by kernel_rfl) (by kernel_rfl) (by kernel_rfl) (fun _ _ _ h => h) (Or.inl ⟨by rfl, ?hy8⟩) h0 ?rest8
                case hy8 => (intro w' hS; (try dsimp only at hS); go_simp; try (with_reducible rfl))
                simp only [Act.put, List.getElem_toArray, List.getElem_cons_zero, List.getElem_cons_succ, List.setIfInBounds_toArray, List.set_cons_zero, List.set_cons_succ]
                refine wpAnyH_take (i := 8) (v := ?v9) rfl (by kernel_rfl) (by kernel_rfl) (by kernel_rfl) (fun _ _ _ h => h) (Or.inl ⟨by rfl, ?hy9⟩) h0 ?rest9
                case hy9 => (intro w' hS; (try dsimp only at hS); go_simp; try (with_reducible rfl))
                simp only [Act.put, List.getElem_toArray, List.getElem_cons_zero, List.getElem_cons_succ, List.setIfInBounds_toArray, List.set_cons_zero, List.set_cons_succ]
                refine wpAnyH_take (i := 9) (v := ?v10) rfl (by kernel_rfl) (by kernel_rfl) (by kernel_rfl) (fun _ _ _ h => h) (Or.inl ⟨by rfl, ?hy10⟩) h0 ?rest10
                case hy10 => (intro w' hS; (try dsimp only at hS); go_simp; try (with_reducible rfl))
                simp only [Act.put, List.getElem_toArray, List.getElem_cons_zero, List.getElem_cons_succ, List.setIfInBounds_toArray, List.set_cons_zero, List.set_cons_succ]
                refine wpAnyH_take (i := 10) (v := ?v11) rfl (by kernel_rfl) (by kernel_rfl) (by kernel_rfl) (fun _ _ _ h => h) (Or.inl ⟨by rfl, ?hy11⟩) h0 ?rest11
                case hy11 => (intro w' hS; (try dsimp only at hS); go_simp; try (with_reducible rfl))
                simp only [Act.put, List.getElem_toArray, List.getElem_cons_zero, List.getElem_cons_succ, List.setIfInBounds_toArray, List.set_cons_zero, List.set_cons_succ]
                refine wpAnyH_take (i := 11) (v := ?v12) rfl (by kernel_rfl) (by kernel_rfl) (by kernel_rfl) (fun _ _ _ h => h) (Or.inl ⟨by rfl, ?hy12⟩) h0 ?rest12
                case hy12 => (intro w' hS; (try dsimp only at hS); go_simp; try (with_reducible rfl))
                simp only [Act.put, List.getElem_toArray, List.getElem_cons_zero, List.getElem_cons_succ, List.setIfInBounds_toArray, List.set_cons_zero, List.set_cons_succ]
                refine wpAnyH_take (i := 12) (v := ?v13) rfl (by kernel_rfl) (by kernel_rfl) (by kernel_rfl) (fun _ _ _ h => h) (Or.inl ⟨by rfl, ?hy13⟩) h0 ?rest13
                case hy13 => (intro w' hS; (try dsimp only at hS); go_simp; try (with_reducible rfl))
                simp only [Act.put, List.getElem_toArray, List.getElem_cons_zero, List.getElem_cons_succ, List.setIfInBounds_toArray, List.set_cons_zero, List.set_cons_succ]
                refine wpAnyH_take (i := 13) (v := ?v14) rfl (by kernel_rfl) (by kernel_rfl) (by kernel_rfl) (fun _ _ _ h => h) (Or.inl ⟨by rfl, ?hy14⟩) h0 ?rest14
                case hy14 => (intro w' hS; (try dsimp only at hS); go_simp; try (with_reducible rfl))
                simp only [Act.put, List.getElem_toArray, List.getElem_cons_zero, List.getElem_cons_succ, List.setIfInBounds_toArray, List.set_cons_zero, List.set_cons_succ]
                refine wpAnyH_take (i := 14) (v := ?v15) rfl (by kernel_rfl) (by kernel_rfl) (by kernel_rfl) (fun _ _ _ h => h) (Or.inl ⟨by rfl, ?hy15⟩) h0 ?rest15
                case hy15 => (intro w' hS; (try dsimp only at hS); go_simp; try (with_reducible rfl))
                simp only [Act.put, List.getElem_toArray, List.getElem_cons_zero, List.getElem_cons_succ, List.setIfInBounds_toArray, List.set_cons_zero, List.set_cons_succ]
                refine wpAnyH_take (i := 15) (v := ?v16) rfl (by kernel_rfl) (by kernel_rfl) (by kernel_rfl) (fun _ _ _ h => h) (Or.inl ⟨by rfl, ?hy16⟩) h0 ?rest16
                case hy16 => (intro w' hS; (try dsimp only at hS); go_simp; try (with_reducible rfl))
                simp only [Act.put, List.getElem_toArray, List.getElem_cons_zero, List.getElem_cons_succ, List.setIfInBounds_toArray, List.set_cons_zero, List.set_cons_succ]
                refine wpAnyH_take (i := 16) (v := ?v17) rfl (by kernel_rfl) (by kernel_rfl) (by kernel_rfl) (fun _ _ _ h => h) (Or.inl ⟨by rfl, ?hy17⟩) h0 ?rest17
                case hy17 => (intro w' hS; (try dsimp only at hS); go_simp; try (with_reducible rfl))
                simp only [Act.put, List.getElem_toArray, List.getElem_cons_zero, List.getElem_cons_succ, List.setIfInBounds_toArray, List.set_cons_zero, List.set_cons_succ]
                refine wpAnyH_take (i := 17) (v := ?v18) rfl (by kernel_rfl) (by kernel_rfl) (by kernel_rfl) (fun _ _ _ h => h) (Or.inl ⟨by rfl, ?hy18⟩) h0 ?rest18
                case hy18 => (intro w' hS; (try dsimp only at hS); go_simp; try (with_reducible rfl))
                simp only [Act.put, List.getElem_toArray, List.getElem_cons_zero, List.getElem_cons_succ, List.setIfInBounds_toArray, List.set_cons_zero, List.set_cons_succ]
                refine wpAnyH_take (i := 18) (v := ?v19) rfl (by kernel_rfl) (by kernel_rfl) (by kernel_rfl) (fun _ _ _ h => h) (Or.inl ⟨by rfl, ?hy19⟩) h0 ?rest19
                case hy19 => (intro w' hS; (try dsimp only at hS); go_simp; try (with_reducible rfl))
                simp only [Act.put, List.getElem_toArray, List.getElem_cons_zero, List.getElem_cons_succ, List.setIfInBounds_toArray]
                try simp only [List.set_cons_succ]
                try simp only [List.set_cons_zero]
                refine wpAnyH_done (by kernel_rfl) ?_ _
                clear h0 KS hwd
                go_wp2_with fail
                refine (DV.out _).mono ?_
                rintro e w2 ⟨rfl, jn, rfl⟩
                obtain ⟨w3, hw3⟩ : ∃ w3, w3 = wc.drewN jn := ⟨_, rfl⟩
                have B3 := Lib.hid (show Below wr.heap.size wr w3 by rw [hw3]; exact below_drewN Bc.out jn)
                rw [← hw3]
                clear hw3 Bc wc DV
                have hq1' := W2.out
                have hq2' := W3.out
                have hg0 := W4.out
                go_upto_region 20 with (fail)
                go_cut [17] (fun s17 wx => ∃ (q : Nat) (X : AV), s17 = .pointer (some ⟨q, 0, none⟩) ∧ Hid (SumAt wr wx q X S1))
                case first =>
                  have KS := Lib.hid (show ∀ W, Below w3.heap.size w3 W → (AvAt W ⟨g1, k * 3, none⟩ x ∧ AvAt W ⟨g2, j * 3, none⟩ y) from fun W h => ⟨CX.out.on (below_on B3.out h), CY.out.on (below_on B3.out h)⟩)
                  obtain ⟨wc, hwc⟩ : ∃ wc, wc = w3.drew := ⟨_, rfl⟩
                  have Bc := Lib.hid (show Below w3.heap.size w3 wc by rw [hwc]; exact (Below.refl _ _).drew)
                  refine wp_region_held_drew (S := (fun W => (AvAt W ⟨g1, k * 3, none⟩ x ∧ AvAt W ⟨g2, j * 3, none⟩ y))) (by kernel_rfl) (by rw [← hwc]; exact KS.out _ Bc.out) (fun h0 => ?_)
                  rw [← hwc] at h0 ⊢
                  clear hwc
                  refine wpAnyH_take (i := 0) (v := ?v20) rfl (by kernel_rfl) (by kernel_rfl) (by kernel_rfl) (fun _ _ _ h => h) (Or.inl ⟨by rfl, ?hy20⟩) h0 ?rest20
                  case hy20 => (intro w' hS; (try dsimp only at hS); go_simp; try (with_reducible rfl))
                  simp only [Act.put, List.getElem_toArray, List.getElem_cons_zero, List.setIfInBounds_toArray, List.set_cons_zero, List.set_cons_succ]
                  refine wpAnyH_take (i := 1) (v := ?v21) rfl (by kernel_rfl) (by kernel_rfl) (by kernel_rfl) (fun _ _ _ h => h) (Or.inl ⟨by rfl, ?hy21⟩) h0 ?rest21
                  case hy21 => (intro w' hS; (try dsimp only at hS); go_simp; try (with_reducible rfl))
                  simp only [Act.put, List.getElem_toArray, List.getElem_cons_zero, List.getElem_cons_succ, List.setIfInBounds_toArray, List.set_cons_zero, List.set_cons_succ]
                  refine wpAnyH_take (i := 2) (v := ?v22) rfl (by kernel_rfl) (by kernel_rfl) (by kernel_rfl) (fun _ _ _ h => h) (Or.inl ⟨by rfl, ?hy22⟩) h0 ?rest22
                  case hy22 => (intro w' hS; (try dsimp only at hS); go_simp; try (with_reducible rfl))
                  simp only [Act.put, List.getElem_toArray, List.getElem_cons_zero, List.getElem_cons_succ, List.setIfInBounds_toArray, List.set_cons_zero, List.set_cons_succ]
                  refine wpAnyH_take (i := 3) (v := ?v23) rfl (by kernel_rfl) (by kernel_rfl) (by kernel_rfl) (fun _ _ _ h => h) (Or.inl ⟨by rfl, ?hy23⟩) h0 ?rest23
                  case hy23 => (intro w' hS; (try dsimp only at hS); go_simp; try (with_reducible rfl))
                  simp only [Act.put, List.getElem_toArray, List.getElem_cons_zero, List.getElem_cons_succ, List.setIfInBounds_toArray, List.set_cons_zero, List.set_cons_succ]
                  refine wpAnyH_take (i := 4) (v := ?v24) rfl (by kernel_rfl) (by kernel_rfl) (by kernel_rfl) (fun _ _ _ h => h) (Or.inl ⟨by rfl, ?hy24⟩) h0 ?rest24
                  case hy24 => (intro w' hS; (try dsimp only at hS); go_simp; try (with_reducible rfl))
                  simp only [Act.put, List.getElem_toArray, List.getElem_cons_zero, List.getElem_cons_succ, List.setIfInBounds_toArray, List.set_cons_zero, List.set_cons_succ]
                  refine wpAnyH_take (i := 5) (v := ?v25) rfl (by kernel_rfl) (by kernel_rfl) (by kernel_rfl) (fun _ _ _ h => h) (Or.inl ⟨by rfl, ?hy25⟩) h0 ?rest25
                  case hy25 => (intro w' hS; (try dsimp only at hS); go_simp; try (with_reducible rfl))
                  simp only [Act.put, List.getElem_toArray, List.getElem_cons_zero, List.getElem_cons_succ, List.setIfInBounds_toArray, List.set_cons_zero, List.set_cons_succ]
                  refine wpAnyH_take (i := 6) (v := (.agg x.cs)) rfl (by kernel_rfl) (by kernel_rfl) (by kernel_rfl) (fun _ _ _ h => h) (Or.inl ⟨by rfl, fun w' hS => yld_loadV _ rfl _ rfl hS.1⟩) h0 ?_
                  simp only [Act.put, List.getElem_toArray, List.getElem_cons_zero, List.getElem_cons_succ, List.setIfInBounds_toArray, List.set_cons_zero, List.set_cons_succ]
                  refine wpAnyH_take (i := 7) (v := ?v27) rfl (by kernel_rfl) (by kernel_rfl) (by kernel_rfl) (fun _ _ _ h => h) (Or.inl ⟨by rfl, ?hy27⟩) h0 ?rest27
                  case hy27 => (intro w' hS; (try dsimp only at hS); go_simp; try (with_reducible rfl))
                  simp only [Act.put, List.getElem_toArray, List.getElem_cons_zero, List.getElem_cons_succ, List.setIfInBounds_toArray, List.set_cons_zero, List.set_cons_succ]
                  refine wpAnyH_take (i := 8) (v := ?v28) rfl (by kernel_rfl) (by kernel_rfl) (by kernel_rfl) (fun _ _ _ h => h) (Or.inl ⟨by rfl, ?hy28⟩) h0 ?rest28
                  case hy28 => (intro w' hS; (try dsimp only at hS); go_simp; try (with_reducible rfl))
                  simp only [Act.put, List.getElem_toArray, List.getElem_cons_zero, List.getElem_cons_succ, List.setIfInBounds_toArray, List.set_cons_zero, List.set_cons_succ]
                  refine wpAnyH_take (i := 9) (v := ?v29) rfl (by kernel_rfl) (by kernel_rfl) (by kernel_rfl) (fun _ _ _ h => h) (Or.inl ⟨by rfl, ?hy29⟩) h0 ?rest29
                  case hy29 => (intro w' hS; (try dsimp only at hS); go_simp; try (with_reducible rfl))
                  simp only [Act.put, List.getElem_toArray, List.getElem_cons_zero, List.getElem_cons_succ, List.setIfInBounds_toArray, List.set_cons_zero, List.set_cons_succ]
                  refine wpAnyH_take (i := 10) (v := ?v30) rfl (by kernel_rfl) (by kernel_rfl) (by kernel_rfl) (fun _ _ _ h => h) (Or.inl ⟨by rfl, ?hy30⟩) h0 ?rest30
                  case hy30 => (intro w' hS; (try dsimp only at hS); go_simp; try (with_reducible rfl))
                  simp only [Act.put, List.getElem_toArray, List.getElem_cons_zero, List.getElem_cons_succ, List.setIfInBounds_toArray, List.set_cons_zero, List.set_cons_succ]
                  refine wpAnyH_take (i := 11) (v := ?v31) rfl (by kernel_rfl) (by kernel_rfl) (by kernel_rfl) (fun _ _ _ h => h) (Or.inl ⟨by rfl, ?hy31⟩) h0 ?rest31
                  case hy31 => (intro w' hS; (try dsimp only at hS); go_simp; try (with_reducible rfl))
                  simp only [Act.put, List.getElem_toArray, List.getElem_cons_zero, List.getElem_cons_succ, List.setIfInBounds_toArray, List.set_cons_zero, List.set_cons_succ]
                  refine wpAnyH_take (i := 12) (v := ?v32) rfl (by kernel_rfl) (by kernel_rfl) (by kernel_rfl) (fun _ _ _ h => h) (Or.inl ⟨by rfl, ?hy32⟩) h0 ?rest32
                  case hy32 => (intro w' hS; (try dsimp only at hS); go_simp; try (with_reducible rfl))
                  simp only [Act.put, List.getElem_toArray, List.getElem_cons_zero, List.getElem_cons_succ, List.setIfInBounds_toArray, List.set_cons_zero, List.set_cons_succ]
                  refine wpAnyH_take (i := 13) (v := (.agg y.cs)) rfl (by kernel_rfl) (by kernel_rfl) (by kernel_rfl) (fun _ _ _ h => h) (Or.inl ⟨by rfl, fun w' hS => yld_loadV _ rfl _ rfl hS.2⟩) h0 ?_
                  simp only [Act.put, List.getElem_toArray, List.getElem_cons_zero, List.getElem_cons_succ, List.setIfInBounds_toArray, List.set_cons_zero, List.set_cons_succ]
                  refine wpAnyH_take (i := 14) (v := ?v34) rfl (by kernel_rfl) (by kernel_rfl) (by kernel_rfl) (fun _ _ _ h => h) (Or.inl ⟨by rfl, ?hy34⟩) h0 ?rest34
                  case hy34 => (intro w' hS; (try dsimp only at hS); go_simp; try (with_reducible rfl))
                  simp only [Act.put, List.getElem_toArray, List.getElem_cons_zero, List.getElem_cons_succ, List.setIfInBounds_toArray, List.set_cons_zero, List.set_cons_succ]
                  refine wpAnyH_ready (rs := [15, 16]) (by kernel_rfl) (by simp) (AllReadyH.cons rfl (fun K hK => ?_) (AllReadyH.cons rfl (fun K hK => ?_) AllReadyH.nil))
                  · rw [if_pos (by rfl)]
                    go_simp
                    have hzb := Nat.le_trans B3.out.size Bc.out.size
                    refine (SM.out wc (below_on B3.out Bc.out)).mono ?_
                    rintro e wc ⟨g, c, rfl, ho, hb⟩
                    try (have P7 := Lib.hid (P7.out.kept hb))
                    have Bc := Lib.hid (below_on Bc.out hb)
                    obtain ⟨X, hX⟩ : ∃ X, X = AV.mk (some ⟨g, 0, none⟩) c S1.a S1.b S1.s := ⟨_, rfl⟩
                    rw [← hX]
                    have XL := Lib.hid (show lnV X = S1 by rw [hX]; rfl)
                    have XQ2 := Lib.hid (show X.q = some ⟨g, 0, none⟩ by rw [hX])
                    have OW := Lib.hid (show OwnI wc wr.heap.size g X.c X.a by rw [hX]; exact ho.base hzb)
                    clear hb ho hX hzb
                    go_simp
                    refine hK.out _ _ (KS.out _ Bc.out) (fun h0_1 => ?_)
                    clear hK K h0
                    refine wpAnyH_ready (rs := [16]) (by kernel_rfl) (by simp) (AllReadyH.cons rfl (fun K hK => ?_) AllReadyH.nil)
                    rw [if_pos (by rfl)]
                    go_simp
                    have hb := one_more (w1 := wc) (.cells av0.cs 25)
                    have hP := (show BkV (wc.alloc (.cells av0.cs 25)) wc.heap.size av0 from BkV.made wc av0)
                    have hz := Bc.out.size
                    obtain ⟨q7, hbb⟩ : ∃ b, b = wc.heap.size := ⟨_, rfl⟩
                    rw [← hbb] at hP hz
                    obtain ⟨wn, hwn⟩ : ∃ wn, wn = wc.alloc (.cells av0.cs 25) := ⟨_, rfl⟩
                    rw [← hwn] at hb hP ⊢
                    try rw [← hbb]
                    try (have OW := Lib.hid (OW.out.on hb))
                    have Bc := Lib.hid (below_on Bc.out hb)
                    have P7 := Lib.hid hP
                    have Zq7 := Lib.hid hz
                    clear hb hP hz hbb hwn
                    obtain ⟨wc, hwc⟩ : ∃ wc, wc = wn := ⟨_, rfl⟩
                    rw [← hwc] at Bc P7 ⊢
                    try rw [← hwc] at OW
                    clear hwc
                    go_simp
                    refine hK.out _ _ (KS.out _ Bc.out) (fun h0_2 => ?_)
                    clear hK K h0_1
                    refine wpAnyH_ready (rs := [17]) (by kernel_rfl) (by simp) (AllReadyH.cons rfl (fun K hK => ?_) AllReadyH.nil)
                    rw [if_pos (by rfl)]
                    refine wp_storeV _ _ rfl q7 X rfl rfl _ P7.out ?_
                    refine hK.out _ _ (KS.out _ (Below.setRow Bc.out Zq7.out _)) (fun h0_3 => ?_)
                    clear hK K h0_2
                    try simp only [List.set_cons_succ]
                    try simp only [List.set_cons_zero]
                    refine wpAnyH_done (by kernel_rfl) ?_ _
                    have OZ := own_ne_bk OW.out P7.out
                    have PE := P7.out.setRow (z := X)
                    have BE := Below.setRow Bc.out Zq7.out X.cs
                    have OE := OW.out.grown (grown_row wc q7 X.cs) OZ
                    obtain ⟨we, hwe⟩ : ∃ we, we = wc.setRow q7 X.cs := ⟨_, rfl⟩
                    rw [← hwe] at PE BE OE ⊢
                    have SA := Lib.hid (show SumAt wr we q7 X S1 from ⟨PE, XL.out, ⟨g, XQ2.out, OE⟩, below_on B3.out BE⟩)
                    clear hwe PE BE OE OZ
                    go_wp2_with fail
                    go_meet
                    case rel => exact ⟨q7, X, rfl, SA⟩
                  · rw [if_pos (by rfl)]
                    go_simp
                    have hb := one_more (w1 := wc) (.cells av0.cs 25)
                    have hP := (show BkV (wc.alloc (.cells av0.cs 25)) wc.heap.size av0 from BkV.made wc av0)
                    have hz := Bc.out.size
                    obtain ⟨q7, hbb⟩ : ∃ b, b = wc.heap.size := ⟨_, rfl⟩
                    rw [← hbb] at hP hz
                    obtain ⟨wn, hwn⟩ : ∃ wn, wn = wc.alloc (.cells av0.cs 25) := ⟨_, rfl⟩
                    rw [← hwn] at hb hP ⊢
                    try rw [← hbb]
                    try (have OW := Lib.hid (OW.out.on hb))
                    have Bc := Lib.hid (below_on Bc.out hb)
                    have P7 := Lib.hid hP
                    have Zq7 := Lib.hid hz
                    clear hb hP hz hbb hwn
                    obtain ⟨wc, hwc⟩ : ∃ wc, wc = wn := ⟨_, rfl⟩
                    rw [← hwc] at Bc P7 ⊢
                    try rw [← hwc] at OW
                    clear hwc
                    go_simp
                    refine hK.out _ _ (KS.out _ Bc.out) (fun h0_1 => ?_)
                    clear hK K h0
                    refine wpAnyH_ready (rs := [15]) (by kernel_rfl) (by simp) (AllReadyH.cons rfl (fun K hK => ?_) AllReadyH.nil)
                    rw [if_pos (by rfl)]
                    go_simp
                    have hzb := Nat.le_trans B3.out.size Bc.out.size
                    refine (SM.out wc (below_on B3.out Bc.out)).mono ?_
                    rintro e wc ⟨g, c, rfl, ho, hb⟩
                    try (have P7 := Lib.hid (P7.out.kept hb))
                    have Bc := Lib.hid (below_on Bc.out hb)
                    obtain ⟨X, hX⟩ : ∃ X, X = AV.mk (some ⟨g, 0, none⟩) c S1.a S1.b S1.s := ⟨_, rfl⟩
                    rw [← hX]
                    have XL := Lib.hid (show lnV X = S1 by rw [hX]; rfl)
                    have XQ2 := Lib.hid (show X.q = some ⟨g, 0, none⟩ by rw [hX])
                    have OW := Lib.hid (show OwnI wc wr.heap.size g X.c X.a by rw [hX]; exact ho.base hzb)
                    clear hb ho hX hzb
                    go_simp
                    refine hK.out _ _ (KS.out _ Bc.out) (fun h0_4 => ?_)
                    clear hK K h0_1
                    refine wpAnyH_ready (rs := [17]) (by kernel_rfl) (by simp) (AllReadyH.cons rfl (fun K hK => ?_) AllReadyH.nil)
                    rw [if_pos (by rfl)]
                    refine wp_storeV _ _ rfl q7 X rfl rfl _ P7.out ?_
                    refine hK.out _ _ (KS.out _ (Below.setRow Bc.out Zq7.out _)) (fun h0_5 => ?_)
                    clear hK K h0_4
                    try simp only [List.set_cons_succ]
                    try simp only [List.set_cons_zero]
                    refine wpAnyH_done (by kernel_rfl) ?_ _
                    have OZ := own_ne_bk OW.out P7.out
                    have PE := P7.out.setRow (z := X)
                    have BE := Below.setRow Bc.out Zq7.out X.cs
                    have OE := OW.out.grown (grown_row wc q7 X.cs) OZ
                    obtain ⟨we, hwe⟩ : ∃ we, we = wc.setRow q7 X.cs := ⟨_, rfl⟩
                    rw [← hwe] at PE BE OE ⊢
                    have SA := Lib.hid (show SumAt wr we q7 X S1 from ⟨PE, XL.out, ⟨g, XQ2.out, OE⟩, below_on B3.out BE⟩)
                    clear hwe PE BE OE OZ
                    go_wp2_with fail
                    go_meet
                    case rel => exact ⟨q7, X, rfl, SA⟩
                case rest =>
                obtain ⟨q7, X, rfl, SA⟩ := hcut
                obtain ⟨w4, hw4⟩ : ∃ w4, w4 = wc := ⟨_, rfl⟩
                rw [← hw4] at SA ⊢
                clear hw4 SM hq1' hq2' hg0 W1 W2 W3 W4 B3 w3
                have hw1 : wrap64 ((n : Int) - 1) = (n : Int) - 1 := by have := N100.out; unfold wrap64; omega
                have XN := Lib.hid (show X.a.length = n - 1 by have := congrArg (fun l => l.a.length) SA.out.ln; exact this.trans SL.out)
                have VA := Lib.hid (rvalid_any ((n : Int) - 1) X w4 (by have := XN.out; have := N100.out; omega) (by obtain ⟨g, e, o⟩ := SA.out.at_; rw [e]; exact o.rd))
                obtain ⟨b, hb⟩ : ∃ b, b = validL (n - 1) S1 := ⟨_, rfl⟩
                have VE := Lib.hid hb
                rw [valid_b (Nat.lt_of_le_of_lt (Nat.zero_le _) HI.out), SA.out.ln, ← hb] at VA
                clear hb
                go_wp2_with (first | refine wpl_loadV rfl _ rfl _ rfl X SA.out.bk.avAt ?_)
                refine VA.out.mono ?_
                rintro e w5 ⟨rfl, hb⟩
                have B5 := Lib.hid hb
                clear hb VA
                cases b
                · have E7 := Lib.hid (show E = 7 by
                    rw [EE.out, if_neg]
                    rw [List.all_eq_true]
                    intro h
                    have := h S1 SI.out
                    rw [← VE.out] at this; cases this)
                  go_wp2_with fail
                  refine bodyPost_ret (v := .tuple #[.slice none 0 0, .int .i64 7]) (by simp [results, Tryz.results49, go_sem]) rfl ?_
                  exact Or.inr ⟨by rw [E7.out]; decide, by rw [E7.out], below_on HL2.out.be (below_on SA.out.be B5.out)⟩
                · have H5 := Lib.hid (HL2.out.on (below_on SA.out.be B5.out))
                  have A3 := Lib.hid (one_more (w1 := w5) (.cells X.cs 25))
                  have H6 := Lib.hid (H5.out.on A3.out)
                  have K5 := Lib.hid (SA.out.bk.kept B5.out)
                  have M6 := Lib.hid (BkV.made w5 X).avAt
                  have z6 : w.heap.size ≤ (w5.alloc (.cells X.cs 25)).heap.size := H6.out.be.size
                  obtain ⟨g, xq, xo'⟩ := SA.out.at_
                  have XO := Lib.hid (xo'.on B5.out)
                  have GD := Lib.hid (show GoodV (w5.alloc (.cells X.cs 25)) u8.ownBlock X from ⟨by rw [xq]; exact (XO.out.on A3.out).rd, fun p e => by
                    rw [xq] at e; cases e
                    have := XO.out.lt
                    exact ⟨fun q => by have := HL2.out.o3.lt _ q; show False; simp only at this; omega, by rw [World.size_alloc]; simp only; omega⟩, fun e => (by rw [xq] at e; cases e), XO.out.capOk⟩)
                  have L3 := Lib.hid (show ∀ p, X.q = some p → (Value.slice (some ⟨g1, 0, none⟩) nu k1).ownBlock ≠ some p.block ∧ (Value.slice (some ⟨g2, 0, none⟩) nd k2).ownBlock ≠ some p.block ∧ w.heap.size ≤ p.block from fun p e => by
                    rw [xq] at e; cases e
                    have h1 := XO.out.lt
                    have h2 := HL2.out.be.size
                    exact ⟨fun q => by have := HL2.out.o1.lt _ q; show False; simp only at this; omega, fun q => by have := HL2.out.o2.lt _ q; show False; simp only at this; omega, by simp only; omega⟩)
                  have HVn := Lib.hid (show ∀ x ∈ someR (U.map lnV) (D.map lnV) i k (j + 1), validL (n - 1) x = true by
                    rw [ST.out]
                    intro z hz
                    rcases List.mem_append.1 hz with q | q
                    · exact HV.out z q
                    · rw [List.mem_singleton] at q; rw [q]; exact VE.out.symm)
                  clear xq xo' hw1
                  go_wp2_with (first | refine wpl_loadV rfl _ rfl _ rfl X K5.out.avAt ?_ | refine wpl_bv1 rfl _ rfl X rfl ?_ | (at_builtin; refine wpl_appV rfl _ _ rfl w.heap.size _ Z' X rfl H6.out.o3 _ _ rfl M6.out GD.out LZ9.out z6 ?_))
                  intro v' w6 o6 g6 f6
                  have H7 := Lib.hid (H6.out.app3 o6 g6 (by rw [World.size_alloc]; exact f6) L3.out)
                  clear o6 g6 f6
                  go_wp2_with fail
                  go_roundw
                  case rel => exact ⟨j + 1, by go_num, by omega, Lib.hid ⟨Z' ++ [X], H7.out, by rw [List.map_append, HZ'.out, ST.out]; simp [SA.out.ln]⟩, HVn⟩
                  case measure => simp [intOf]; omega
              · have hw : wrap64 ((k : Int) + 1) = (k : Int) + 1 := by unfold wrap64; omega
                have ej : j = nd := by omega
                have HZ2 := Lib.hid (show ∃ Z', LvR w wr (.slice a1 nu k1) (.slice a2 nd k2) _ U D Z' ∧ Z'.map lnV = Q ++ someR (U.map lnV) (D.map lnV) i (k + 1) 0 by have := HZ.out; rw [ej, SNX.out] at this; exact this)
                have HV2 := Lib.hid (show ∀ x ∈ someR (U.map lnV) (D.map lnV) i (k + 1) 0, validL (n - 1) x = true by have := HV.out; rw [ej, SNX.out] at this; exact this)
                clear ej hw
                go_wp2_with fail
                go_roundw
                case rel => exact ⟨k + 1, by go_num, by omega, HZ2, HV2⟩
                case measure => simp [intOf]; omega
          · have ek : k = nu := by omega
            obtain ⟨Z', hL', hZ'⟩ := HZ.out
            rw [ek, NU.out, show U.length = (U.map lnV).length by simp, someR_all, ← SR.out] at hZ'
            have HV2 := Lib.hid (show ∀ x ∈ SS, validL (n - 1) x = true by have := HV.out; rw [ek, NU.out, show U.length = (U.map lnV).length by simp, someR_all, ← SR.out] at this; exact this)
            have E0 := Lib.hid (show E = 0 by rw [EE.out, if_pos]; rw [List.all_eq_true]; exact HV2.out)
            obtain ⟨a9, k9, e9, r9, _⟩ := hL'.o3.read
            have len9 : Z'.length ≤ 1000 := by
              have h1 := congrArg List.length hZ'
              have h2 := congrArg List.length ZM.out
              rw [List.length_map] at h2
              rw [List.length_map, List.length_append, SR.out, List.length_map, prs_len, List.length_map, List.length_map] at h1
              have h3 := PQ.out
              omega
            have RT := Lib.hid (fun W (h : Below wo.heap.size wo W) => rtidy_any (n - 1) Z' a9 k9 W (by have := N100.out; omega) (by omega) (r9.on h) (fun y hy => by
              have hm : lnV y ∈ Q ++ SS := by rw [← hZ']; exact List.mem_map.2 ⟨y, hy, rfl⟩
              have hN := hL'.o3.nil y hy
              rcases List.mem_append.1 hm with q | q
              · obtain ⟨h1, h2, h3⟩ := ZF.out _ q
                exact ⟨h1, hN, h2, h3⟩
              · obtain ⟨h1, h2, h3⟩ := valid_fit (HV2.out _ q)
                exact ⟨h1, hN, fun v hv => by have := h2 v hv; unfold A63; omega, by unfold A63; omega⟩))
            rw [hZ', ← HT2.out] at RT
            have BE := Lib.hid hL'.be
            have hw : wrap64 ((n : Int) - 1) = (n : Int) - 1 := by have := N100.out; unfold wrap64; omega
            have en : (n : Int) - 1 = ((n - 1 : Nat) : Int) := by have := HI.out; omega
            have EN := Lib.hid en
            obtain ⟨n9, hn9⟩ : ∃ n9, n9 = Z'.length := ⟨_, rfl⟩
            rw [← hn9] at RT e9
            subst e9
            clear ek hL' hZ' r9 len9 HZ HV hn9 en
            go_wp2_with fail
            rw [EN.out]
            refine (RT.out _ (Below.refl _ _)).mono ?_
            rintro e w9 ⟨v, R, rfl, hO, hm, hb⟩
            have F1 := Lib.hid (hO.base BE.out.size)
            have F2 := Lib.hid hm
            have F3 := Lib.hid (below_on BE.out hb)
            clear hO hm hb
            go_wp2_with fail
            refine bodyPost_ret (v := .tuple #[v, .int .i64 0]) (by simp [results, Tryz.results49, go_sem]) rfl ?_
            exact Or.inl ⟨E0.out, v, R, rfl, F1.out, F2.out, F3.out⟩
end Go.Proofs.YtefpaobboimakaaGreat
