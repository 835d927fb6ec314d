/- A part. -/
import Derived.Test.YthjapmdfcbngmaaGreatWr2
import Derived.Test.YthjapmdfcbngmaaGreatWr9
import Derived.Test.YthjapmdfcbngmaaGreatWr11
import Derived.Test.YthjapmdfcbngmaaGreatWr16
namespace Go.Proofs.YthjapmdfcbngmaaGreat
set_option maxHeartbeats 2000000
open Go.RowKit
def mtB (n d l : Int) : Bool := noB l || (if evB l then decide (n < l / 2 * d) else decide (n ≤ l / 2 * d))
def meB (n d l : Int) : Bool := vldB n d && lvB l && mtB n d l
def meE (n d l : Int) : Int := if vldB n d && lvB l then 0 else 2
theorem ret_be {a b : Bool} {c d : Int} (h : a = b) (g : c = d) : Ending.returned (.tuple #[.bool a, .int .i64 c]) = .returned (.tuple #[.bool b, .int .i64 d]) := by rw [h, g]
theorem of_small {c : Int} (h1 : -2147483647 ≤ c) (h2 : c ≤ 2147483647) : mkNum c 1 = c ∧ mkDen c 1 = 1 ∧ mkErr c 1 = 0 := by
 have ht : top c 1 = c.natAbs := by unfold top; simp
 have hb : bot c 1 = 1 := by unfold bot; simp
 have hf : fits c 1 = true := by unfold fits; rw [ht, hb]; simp; omega
 unfold mkNum mkDen mkErr
 have h0 : ¬ ((1 : Int) = 0) := by decide
 simp only [if_neg h0, hf, if_true, ht, hb]
 refine ⟨?_, by simp⟩
 by_cases hc : c < 0
 · simp [hc]; omega
 · simp [hc]; omega
theorem vld_small {c : Int} (h1 : -2147483647 ≤ c) (h2 : c ≤ 2147483647) : vldB c 1 = true := by unfold vldB; simp; omega
theorem of_as {c : Int} (w : World) (h1 : -2147483647 ≤ c) (h2 : c ≤ 2147483647) : Calls Tryz.prog 172 #[.int .i64 c] w (Made (.tuple #[.agg #[.int .i64 c, .int .i64 1], .int .i64 0]) w) := by
 have h := of_any c w ⟨by omega, by omega⟩
 rwa [(of_small h1 h2).1, (of_small h1 h2).2.1, (of_small h1 h2).2.2] at h
theorem cmp_to {n d c o : Int} (w : World) (v : vldB n d = true) (h1 : -2147483647 ≤ c) (h2 : c ≤ 2147483647) (ho : sgn (n * 1) (c * d) = o) :
  Calls Tryz.prog 173 #[.agg #[.int .i64 n, .int .i64 d], .agg #[.int .i64 c, .int .i64 1]] w (Made (.tuple #[.int .i64 o, .int .i64 0]) w) := by
 obtain ⟨x1, x2, x3, x4⟩ := vld_bd v
 have h := cmp_any n d c 1 w ⟨by omega, by omega⟩ ⟨by omega, by omega⟩ ⟨by omega, by omega⟩ ⟨by omega, by omega⟩
 have g : (vldB n d && vldB c 1) = true := by rw [v, vld_small h1 h2]; rfl
 rw [if_pos g, if_pos g, ho] at h
 exact h
theorem sgn_three (x y : Int) : (sgn x y = -1 ∧ x < y) ∨ (sgn x y = 0 ∧ x = y) ∨ (sgn x y = 1 ∧ y < x) := by
 unfold sgn
 by_cases h : x < y
 · simp [h]
 · by_cases g : y < x
   · simp [h, g]
   · right; left; rw [if_neg h, if_neg g]; omega
theorem limMeets_some (n d l : Int) (w : World) (v : vldB n d = true) (hl : I64 l) (vl : lvB l = true) (nl : noB l = false) (l1 : -2147483648 ≤ l) (l2 : l ≤ 2147483649) :
  Calls Tryz.prog 150 #[.agg #[.int .i64 n, .int .i64 d], .int .i64 l] w (Made (.tuple #[.bool (meB n d l), .int .i64 (meE n d l)]) w) := by
 obtain ⟨x1, x2, x3, x4⟩ := vld_bd v
 have L0 : (l == 1099511627776) = false := by simpa [noB] using nl
 have hS := fun W => limSplit_some W hl vl nl
 have HM := Lib.hid (show meB n d l = (if evB l then decide (n < l / 2 * d) else decide (n ≤ l / 2 * d)) ∧ meE n d l = 0 by simp [meB, mtB, meE, v, vl, nl])
 obtain ⟨c, hc⟩ : ∃ c, c = l / 2 := ⟨_, rfl⟩
 have c1 : -2147483647 ≤ c := by omega
 have c2 : c ≤ 2147483647 := by omega
 obtain ⟨s, hs⟩ : ∃ s, s = evB l := ⟨_, rfl⟩
 rw [← hc, ← hs] at hS HM
 clear hc hs
 have V := Lib.hid v
 have VL := Lib.hid vl
 have HS := Lib.hid hS
 clear v vl nl hS
 rcases sgn_three (n * 1) (c * d) with ⟨ho, hr⟩ | ⟨ho, hr⟩ | ⟨ho, hr⟩ <;> cases s
 all_goals
  have HO := Lib.hid ho
  have HR := Lib.hid hr
  clear ho hr
  go_enter Tryz.func150, Tryz.ntmps150
  go_wp2_with fail
  refine (valid_as _ ⟨by omega, by omega⟩ ⟨by omega, by omega⟩ V.out).mono ?_
  rintro e w1 ⟨rfl, hb⟩
  have hB := past_one hb
  have pA := (Pair.made w n d 45).kept hb
  clear hb
  obtain ⟨fA0, fA1, fA2, fA3⟩ := pA.facts
  have gA := pA.lt
  go_wp2_with fail
  refine (limValid_as _ hl VL.out).mono ?_
  rintro e w' ⟨rfl, rfl⟩
  go_wp2_with fail
  refine (HS.out _).mono ?_
  rintro e w' ⟨rfl, rfl⟩
  go_wp2_with fail
  refine (of_as _ c1 c2).mono ?_
  rintro e w2 ⟨rfl, hb⟩
  replace pA := pA.kept hb
  replace hB := below_on hB hb
  clear hb fA0 fA1 fA2 fA3 gA
  obtain ⟨fA0, fA1, fA2, fA3⟩ := pA.facts
  have gA := pA.lt
  go_wp2_with fail
  refine (cmp_to _ V.out c1 c2 HO.out).mono ?_
  rintro e w3 ⟨rfl, hb⟩
  replace hB := on_box hB hb
  clear hb fA0 fA1 fA2 fA3 gA
  go_wp2_with fail
  go_ret2
  refine ⟨ret_be ?_ HM.out.2.symm, hB⟩
  have h := HR.out
  rw [Int.mul_one] at h
  rw [HM.out.1]
  simp
 all_goals omega
theorem limMeets_bad1 (n d l : Int) (w : World) (hn : I64 n) (hd : I64 d) (v : vldB n d = false) :
  Calls Tryz.prog 150 #[.agg #[.int .i64 n, .int .i64 d], .int .i64 l] w (Made (.tuple #[.bool (meB n d l), .int .i64 (meE n d l)]) w) := by
 have HM := Lib.hid (show meB n d l = false ∧ meE n d l = 2 by simp [meB, meE, v])
 have V := Lib.hid v
 clear v
 go_enter Tryz.func150, Tryz.ntmps150
 go_wp2_with fail
 refine (valid_as _ hn hd V.out).mono ?_
 rintro e w1 ⟨rfl, hb⟩
 go_wp2_with fail
 go_ret2
 exact ⟨ret_be HM.out.1.symm HM.out.2.symm, past_one hb⟩
theorem limMeets_bad2 (n d l : Int) (w : World) (hn : I64 n) (hd : I64 d) (hl : I64 l) (v : vldB n d = true) (vl : lvB l = false) :
  Calls Tryz.prog 150 #[.agg #[.int .i64 n, .int .i64 d], .int .i64 l] w (Made (.tuple #[.bool (meB n d l), .int .i64 (meE n d l)]) w) := by
 have HM := Lib.hid (show meB n d l = false ∧ meE n d l = 2 by simp [meB, meE, vl])
 have V := Lib.hid v
 have VL := Lib.hid vl
 clear v vl
 go_enter Tryz.func150, Tryz.ntmps150
 go_wp2_with fail
 refine (valid_as _ hn hd V.out).mono ?_
 rintro e w1 ⟨rfl, hb⟩
 go_wp2_with fail
 refine (limValid_as _ hl VL.out).mono ?_
 rintro e w' ⟨rfl, rfl⟩
 go_wp2_with fail
 go_ret2
 exact ⟨ret_be HM.out.1.symm HM.out.2.symm, past_one hb⟩
theorem limMeets_none (n d l : Int) (w : World) (hn : I64 n) (hd : I64 d) (hl : I64 l) (v : vldB n d = true) (vl : lvB l = true) (nl : noB l = true) :
  Calls Tryz.prog 150 #[.agg #[.int .i64 n, .int .i64 d], .int .i64 l] w (Made (.tuple #[.bool (meB n d l), .int .i64 (meE n d l)]) w) := by
 have HM := Lib.hid (show meB n d l = true ∧ meE n d l = 0 by simp [meB, mtB, meE, v, vl, nl])
 have L0 : (l == 1099511627776) = true := by simpa [noB] using nl
 have V := Lib.hid v
 have VL := Lib.hid vl
 have NL := Lib.hid nl
 clear v vl nl
 go_enter Tryz.func150, Tryz.ntmps150
 go_wp2_with fail
 refine (valid_as _ hn hd V.out).mono ?_
 rintro e w1 ⟨rfl, hb⟩
 go_wp2_with fail
 refine (limValid_as _ hl VL.out).mono ?_
 rintro e w' ⟨rfl, rfl⟩
 go_wp2_with fail
 go_ret2
 exact ⟨ret_be HM.out.1.symm HM.out.2.symm, past_one hb⟩
theorem limMeets_any (n d l : Int) (w : World) (hn : I64 n) (hd : I64 d) (hl : I64 l) :
  Calls Tryz.prog 150 #[.agg #[.int .i64 n, .int .i64 d], .int .i64 l] w (Made (.tuple #[.bool (meB n d l), .int .i64 (meE n d l)]) w) := by
 cases v : vldB n d
 · exact limMeets_bad1 n d l w hn hd v
 · rcases lvB_cases l with ⟨vl, nl, l0, lr⟩ | ⟨l0, vl, nl⟩ | ⟨vl, nl, l0, l1, l2⟩
   · exact limMeets_bad2 n d l w hn hd hl v vl
   · exact limMeets_none n d l w hn hd hl v vl nl
   · exact limMeets_some n d l w v hl vl nl l1 l2
theorem refLimMeets_some (n d l : Int) (w : World) (v : vldB n d = true) (hl : I64 l) (vl : lvB l = true) (nl : noB l = false) (l1 : -2147483648 ≤ l) (l2 : l ≤ 2147483649) :
  Calls Tryz.prog 121 #[.agg #[.int .i64 n, .int .i64 d], .int .i64 l] w (Made (.tuple #[.bool (meB n d l), .int .i64 (meE n d l)]) w) := by
 obtain ⟨x1, x2, x3, x4⟩ := vld_bd v
 have L0 : (l == 1099511627776) = false := by simpa [noB] using nl
 have hS := fun W => refSplit_some W hl vl nl
 have HM := Lib.hid (show meB n d l = (if evB l then decide (n < l / 2 * d) else decide (n ≤ l / 2 * d)) ∧ meE n d l = 0 by simp [meB, mtB, meE, v, vl, nl])
 obtain ⟨c, hc⟩ : ∃ c, c = l / 2 := ⟨_, rfl⟩
 have c1 : -2147483647 ≤ c := by omega
 have c2 : c ≤ 2147483647 := by omega
 obtain ⟨p1a, p1b⟩ := mul_bd c1 c2 (show -2147483647 ≤ d by omega) x2
 have e1 := wrap_in (c * d) (by omega) (by omega)
 obtain ⟨s, hs⟩ : ∃ s, s = evB l := ⟨_, rfl⟩
 rw [← hc, ← hs] at hS HM
 clear hc hs
 have V := Lib.hid v
 have VL := Lib.hid vl
 have HS := Lib.hid hS
 clear v vl nl hS
 cases s
 all_goals
  go_enter Tryz.func121, Tryz.ntmps121
  go_wp2_with fail
  refine (refValid_as _ ⟨by omega, by omega⟩ ⟨by omega, by omega⟩ V.out).mono ?_
  rintro e w1 ⟨rfl, hb⟩
  have hB := past_one hb
  have pA := (Pair.made w n d 45).kept hb
  clear hb
  obtain ⟨fA0, fA1, fA2, fA3⟩ := pA.facts
  have gA := pA.lt
  go_wp2_with fail
  refine (refLimValid_as _ hl VL.out).mono ?_
  rintro e w' ⟨rfl, rfl⟩
  go_wp2_with fail
  refine (HS.out _).mono ?_
  rintro e w' ⟨rfl, rfl⟩
  go_wp2_with fail
  go_ret2
  exact ⟨ret_be (by rw [HM.out.1]; simp) HM.out.2.symm, hB⟩
theorem refLimMeets_bad1 (n d l : Int) (w : World) (hn : I64 n) (hd : I64 d) (v : vldB n d = false) :
  Calls Tryz.prog 121 #[.agg #[.int .i64 n, .int .i64 d], .int .i64 l] w (Made (.tuple #[.bool (meB n d l), .int .i64 (meE n d l)]) w) := by
 have HM := Lib.hid (show meB n d l = false ∧ meE n d l = 2 by simp [meB, meE, v])
 have V := Lib.hid v
 clear v
 go_enter Tryz.func121, Tryz.ntmps121
 go_wp2_with fail
 refine (refValid_as _ hn hd V.out).mono ?_
 rintro e w1 ⟨rfl, hb⟩
 go_wp2_with fail
 go_ret2
 exact ⟨ret_be HM.out.1.symm HM.out.2.symm, past_one hb⟩
theorem refLimMeets_bad2 (n d l : Int) (w : World) (hn : I64 n) (hd : I64 d) (hl : I64 l) (v : vldB n d = true) (vl : lvB l = false) :
  Calls Tryz.prog 121 #[.agg #[.int .i64 n, .int .i64 d], .int .i64 l] w (Made (.tuple #[.bool (meB n d l), .int .i64 (meE n d l)]) w) := by
 have HM := Lib.hid (show meB n d l = false ∧ meE n d l = 2 by simp [meB, meE, vl])
 have V := Lib.hid v
 have VL := Lib.hid vl
 clear v vl
 go_enter Tryz.func121, Tryz.ntmps121
 go_wp2_with fail
 refine (refValid_as _ hn hd V.out).mono ?_
 rintro e w1 ⟨rfl, hb⟩
 go_wp2_with fail
 refine (refLimValid_as _ hl VL.out).mono ?_
 rintro e w' ⟨rfl, rfl⟩
 go_wp2_with fail
 go_ret2
 exact ⟨ret_be HM.out.1.symm HM.out.2.symm, past_one hb⟩
theorem refLimMeets_none (n d l : Int) (w : World) (hn : I64 n) (hd : I64 d) (hl : I64 l) (v : vldB n d = true) (vl : lvB l = true) (nl : noB l = true) :
  Calls Tryz.prog 121 #[.agg #[.int .i64 n, .int .i64 d], .int .i64 l] w (Made (.tuple #[.bool (meB n d l), .int .i64 (meE n d l)]) w) := by
 have HM := Lib.hid (show meB n d l = true ∧ meE n d l = 0 by simp [meB, mtB, meE, v, vl, nl])
 have L0 : (l == 1099511627776) = true := by simpa [noB] using nl
 have V := Lib.hid v
 have VL := Lib.hid vl
 have NL := Lib.hid nl
 clear v vl nl
 go_enter Tryz.func121, Tryz.ntmps121
 go_wp2_with fail
 refine (refValid_as _ hn hd V.out).mono ?_
 rintro e w1 ⟨rfl, hb⟩
 go_wp2_with fail
 refine (refLimValid_as _ hl VL.out).mono ?_
 rintro e w' ⟨rfl, rfl⟩
 go_wp2_with fail
 refine (refSplit_none _ hl VL.out NL.out).mono ?_
 rintro e w' ⟨rfl, rfl⟩
 go_wp2_with fail
 go_ret2
 exact ⟨ret_be HM.out.1.symm HM.out.2.symm, past_one hb⟩
theorem refLimMeets_any (n d l : Int) (w : World) (hn : I64 n) (hd : I64 d) (hl : I64 l) :
  Calls Tryz.prog 121 #[.agg #[.int .i64 n, .int .i64 d], .int .i64 l] w (Made (.tuple #[.bool (meB n d l), .int .i64 (meE n d l)]) w) := by
 cases v : vldB n d
 · exact refLimMeets_bad1 n d l w hn hd v
 · rcases lvB_cases l with ⟨vl, nl, l0, lr⟩ | ⟨l0, vl, nl⟩ | ⟨vl, nl, l0, l1, l2⟩
   · exact refLimMeets_bad2 n d l w hn hd hl v vl
   · exact refLimMeets_none n d l w hn hd hl v vl nl
   · exact refLimMeets_some n d l w v hl vl nl l1 l2
def MuRes (w : World) (v : Value) (er : Int) (e : Ending) (w' : World) : Prop := Below w.heap.size w w' ∧ ((er = 0 ∧ e = .returned v) ∨ (er ≠ 0 ∧ e = .panicked (pan er)))
set_option maxRecDepth 20000 in
theorem mustZ_any (z : ZV) (er : Int) (w : World) : Calls Tryz.prog 107 #[z.val, .int .i64 er] w (MuRes w z.val er) := by
 unfold ZV.val
 by_cases h : er = 0
 · subst h
   go_enter Tryz.func107, Tryz.ntmps107
   go_wp2_with fail
   refine bodyPost_ret (v := .agg #[.int .i64 z.N, .slice z.a z.l.length z.c]) (by simp [results, Tryz.results107, go_sem]) rfl ⟨?_, Or.inl ⟨rfl, rfl⟩⟩
   exact past_two (Below.refl _ _)
 · have h0 : (er != 0) = true := by simpa using h
   have H := Lib.hid h
   clear h
   go_enter Tryz.func107, Tryz.ntmps107
   go_wp2_with fail
   exact And.intro rfl ⟨(one_more _).trans ((one_more _).mono (by simp)), Or.inr ⟨H.out, rfl⟩⟩
set_option maxRecDepth 20000 in
theorem mustC_any (ao : Option Addr) (n c : Nat) (er : Int) (w : World) : Calls Tryz.prog 134 #[.slice ao n c, .int .i64 er] w (MuRes w (.slice ao n c) er) := by
 by_cases h : er = 0
 · subst h
   go_enter Tryz.func134, Tryz.ntmps134
   go_wp2_with fail
   go_ret
   exact ⟨Below.refl _ _, Or.inl ⟨rfl, rfl⟩⟩
 · have h0 : (er != 0) = true := by simpa using h
   have H := Lib.hid h
   clear h
   go_enter Tryz.func134, Tryz.ntmps134
   go_wp2_with fail
   exact And.intro rfl ⟨Below.refl _ _, Or.inr ⟨H.out, rfl⟩⟩
set_option maxRecDepth 20000 in
theorem mustB_any (b : Bool) (er : Int) (w : World) : Calls Tryz.prog 73 #[.bool b, .int .i64 er] w (MuRes w (.bool b) er) := by
 by_cases h : er = 0
 · subst h
   go_enter Tryz.func73, Tryz.ntmps73
   go_wp2_with fail
   go_ret
   exact ⟨Below.refl _ _, Or.inl ⟨rfl, rfl⟩⟩
 · have h0 : (er != 0) = true := by simpa using h
   have H := Lib.hid h
   clear h
   go_enter Tryz.func73, Tryz.ntmps73
   go_wp2_with fail
   exact And.intro rfl ⟨Below.refl _ _, Or.inr ⟨H.out, rfl⟩⟩
set_option maxRecDepth 20000 in
theorem mustL_any (x : Int) (w : World) : Calls Tryz.prog 185 #[.int .i64 x, .int .i64 0] w (Made (.int .i64 x) w) := by
 go_enter Tryz.func185, Tryz.ntmps185
 go_wp2_with fail
 go_ret
 exact ⟨rfl, Below.refl _ _⟩
def EmRes (w : World) (er : Int) (e : Ending) (w' : World) : Prop := Below w.heap.size w w' ∧ ((er = 4 ∧ e = .returned (.bool true)) ∨ (er = 0 ∧ e = .returned (.bool false)) ∨ (er ≠ 0 ∧ er ≠ 4 ∧ e = .panicked (pan er)))
set_option maxRecDepth 20000 in
theorem empty_any (z : ZV) (er : Int) (w : World) : Calls Tryz.prog 91 #[z.val, .int .i64 er] w (EmRes w er) := by
 have MU := Lib.hid (fun W => mustZ_any z er W)
 unfold ZV.val at MU ⊢
 generalize z.l.length = len at *
 generalize z.N = N at *
 generalize z.a = a at *
 generalize z.c = c at *
 by_cases h4 : er = 4
 · subst h4
   go_enter Tryz.func91, Tryz.ntmps91
   go_wp2_with fail
   go_ret
   exact ⟨one_more _, Or.inl ⟨rfl, rfl⟩⟩
 · have h40 : (er == 4) = false := by simpa using h4
   have B1 := Lib.hid (one_more (w1 := w) (.cells #[.int .i64 N, .slice a len c] 36))
   have X1 := Lib.hid (Bx2.made w (.int .i64 N) (.slice a len c) 36)
   obtain ⟨b0, b1, _, _⟩ := X1.out.facts
   have H4 := Lib.hid h4
   clear h4
   go_enter Tryz.func91, Tryz.ntmps91
   go_wp2_with fail
   refine (MU.out _).mono ?_
   rintro e w1 ⟨hb, (⟨he, rfl⟩ | ⟨he, rfl⟩)⟩
   · have B2 := Lib.hid (below_on B1.out hb)
     clear hb
     go_wp2_with fail
     go_ret
     exact ⟨B2.out, Or.inr (Or.inl ⟨he, rfl⟩)⟩
   · have B2 := Lib.hid (below_on B1.out hb)
     clear hb
     go_wp2_with fail
     exact And.intro rfl ⟨B2.out, Or.inr (Or.inr ⟨he, H4.out, rfl⟩)⟩
theorem below_put3 {X w : World} {n b : Nat} (h : Below n X w) (hb : n ≤ b) (u v t : Value) : Below n X (((w.setCell ⟨b, 0, none⟩ u).setCell ⟨b, 1, none⟩ v).setCell ⟨b, 2, none⟩ t) := (below_put2 h hb u v).setCell (p := ⟨b, 2, none⟩) hb t
theorem put3_far {w : World} {p : Addr} {x u v t : Value} {b : Nat} (h : w.cell? p = some x) (hb : p.block ≠ b) : (((w.setCell ⟨b, 0, none⟩ u).setCell ⟨b, 1, none⟩ v).setCell ⟨b, 2, none⟩ t).cell? p = some x := by
 rw [World.cell?_setCell_other _ _ _ _ (fun e => hb (by rw [← e])), World.cell?_setCell_other _ _ _ _ (fun e => hb (by rw [← e])), World.cell?_setCell_other _ _ _ _ (fun e => hb (by rw [← e]))]; exact h
theorem put3_facts {w : World} {b : Nat} {x y z u v t : Value} (h0 : w.cell? ⟨b, 0, none⟩ = some x) (h1 : w.cell? ⟨b, 1, none⟩ = some y) (h2 : w.cell? ⟨b, 2, none⟩ = some z) :
  let W := ((w.setCell ⟨b, 0, none⟩ u).setCell ⟨b, 1, none⟩ v).setCell ⟨b, 2, none⟩ t
  W.cell? ⟨b, 0, none⟩ = some u ∧ W.cell? ⟨b, 1, none⟩ = some v ∧ W.cell? ⟨b, 2, none⟩ = some t := by
 refine ⟨?_, ?_, ?_⟩
 · rw [World.cell?_setCell_other _ _ _ _ (by simp), World.cell?_setCell_other _ _ _ _ (by simp), World.cell?_setCell_same _ _ _ h0]
 · rw [World.cell?_setCell_other _ _ _ _ (by simp), World.cell?_setCell_same _ _ _ (by rw [World.cell?_setCell_other _ _ _ _ (by simp)]; exact h1)]
 · rw [World.cell?_setCell_same _ _ _ (by rw [World.cell?_setCell_other _ _ _ _ (by simp), World.cell?_setCell_other _ _ _ _ (by simp)]; exact h2)]
def opC (c : Con) : Con := (c.2.1, c.1, ntL c.2.2)
set_option maxRecDepth 20000 in
theorem opposite_any (i j x : Int) (w : World) (hx : I64 x) (he : spE x = 0) : Calls Tryz.prog 160 #[.agg #[.int .i64 i, .int .i64 j, .int .i64 x]] w (Made (.agg #[.int .i64 j, .int .i64 i, .int .i64 (ntL x)]) w) := by
 have NT := Lib.hid (fun W => by have := limNot_any x W hx; rw [he] at this; exact this)
 have ML := Lib.hid (fun W => mustL_any (ntL x) W)
 obtain ⟨y, hy⟩ : ∃ y, y = ntL x := ⟨_, rfl⟩
 rw [← hy] at NT ML ⊢
 obtain ⟨w0, hw0⟩ : ∃ w0, w0 = (w.alloc (.cells #[.int .i64 i, .int .i64 j, .int .i64 x] 110)).alloc (.cells #[.int .i64 0, .int .i64 0, .int .i64 0] 110) := ⟨_, rfl⟩
 have b0 : w0.cell? ⟨w.heap.size, 0, none⟩ = some (.int .i64 i) := by rw [hw0]; go_simp
 have b1 : w0.cell? ⟨w.heap.size, 1, none⟩ = some (.int .i64 j) := by rw [hw0]; go_simp
 have b2 : w0.cell? ⟨w.heap.size, 2, none⟩ = some (.int .i64 x) := by rw [hw0]; go_simp
 have r0 : ∀ k, k < 3 → w0.cell? ⟨w.heap.size + 1, k, none⟩ = some (.int .i64 0) ∧ w0.frozen? ⟨w.heap.size + 1, k, none⟩ = false := by
  intro k hk
  rw [hw0]
  match k, hk with
  | 0, _ => exact ⟨by go_simp, by go_simp⟩
  | 1, _ => exact ⟨by go_simp, by go_simp⟩
  | 2, _ => exact ⟨by go_simp, by go_simp⟩
 have z0 : w0.heap.size = w.heap.size + 2 := by rw [hw0]; simp
 have E0 := Lib.hid (show Below w.heap.size w w0 by rw [hw0]; exact past_two (Below.refl _ _))
 have KS0 := Lib.hid (show ∀ W, Below w0.heap.size w0 W → W.cell? ⟨w.heap.size, 0, none⟩ = some (.int .i64 i) ∧ W.cell? ⟨w.heap.size, 1, none⟩ = some (.int .i64 j) ∧ W.cell? ⟨w.heap.size, 2, none⟩ = some (.int .i64 x) from fun W h => ⟨kept h b0, kept h b1, kept h b2⟩)
 have KR := Lib.hid (show ∀ W, Below w0.heap.size w0 W → ∀ k, k < 3 → W.cell? ⟨w.heap.size + 1, k, none⟩ = some (.int .i64 0) ∧ W.frozen? ⟨w.heap.size + 1, k, none⟩ = false from fun W h k hk => ⟨kept h (r0 k hk).1, (h.frozen (p := ⟨w.heap.size + 1, k, none⟩) (by show w.heap.size + 1 < _; omega)).trans (r0 k hk).2⟩)
 have FAR := Lib.hid (show ∀ W : World, (W.cell? ⟨w.heap.size, 0, none⟩ = some (.int .i64 i) ∧ W.cell? ⟨w.heap.size, 1, none⟩ = some (.int .i64 j) ∧ W.cell? ⟨w.heap.size, 2, none⟩ = some (.int .i64 x)) → ((((W.setCell ⟨w.heap.size + 1, 0, none⟩ (.int .i64 j)).setCell ⟨w.heap.size + 1, 1, none⟩ (.int .i64 i)).setCell ⟨w.heap.size + 1, 2, none⟩ (.int .i64 y)).cell? ⟨w.heap.size, 0, none⟩ = some (.int .i64 i) ∧ (((W.setCell ⟨w.heap.size + 1, 0, none⟩ (.int .i64 j)).setCell ⟨w.heap.size + 1, 1, none⟩ (.int .i64 i)).setCell ⟨w.heap.size + 1, 2, none⟩ (.int .i64 y)).cell? ⟨w.heap.size, 1, none⟩ = some (.int .i64 j) ∧ (((W.setCell ⟨w.heap.size + 1, 0, none⟩ (.int .i64 j)).setCell ⟨w.heap.size + 1, 1, none⟩ (.int .i64 i)).setCell ⟨w.heap.size + 1, 2, none⟩ (.int .i64 y)).cell? ⟨w.heap.size, 2, none⟩ = some (.int .i64 x)) from fun W h => ⟨put3_far h.1 (by show w.heap.size ≠ _; omega), put3_far h.2.1 (by show w.heap.size ≠ _; omega), put3_far h.2.2 (by show w.heap.size ≠ _; omega)⟩)
 clear r0 hx he hy
 go_enter Tryz.func160, Tryz.ntmps160
 go_wp2_with fail
 rw [← hw0]
 clear hw0
 have KS := Lib.hid (show ∀ W, Below w0.heap.size w0 W → (W.cell? ⟨w.heap.size, 0, none⟩ = some (.int .i64 i) ∧ W.cell? ⟨w.heap.size, 1, none⟩ = some (.int .i64 j) ∧ W.cell? ⟨w.heap.size, 2, none⟩ = some (.int .i64 x)) from fun W h => ⟨kept h b0, kept h b1, kept h b2⟩)
 obtain ⟨wc, hwc⟩ : ∃ wc, wc = w0.drew := ⟨_, rfl⟩
 have Bc := Lib.hid (show Below w0.heap.size w0 wc by rw [hwc]; exact (Below.refl _ _).drew)
 refine wp_region_held_drew (S := (fun W => (W.cell? ⟨w.heap.size, 0, none⟩ = some (.int .i64 i) ∧ W.cell? ⟨w.heap.size, 1, none⟩ = some (.int .i64 j) ∧ W.cell? ⟨w.heap.size, 2, none⟩ = some (.int .i64 x)))) (by kernel_rfl) (by rw [← hwc]; exact KS.out _ Bc.out) (fun h0 => ?_)
 rw [← hwc] at h0 ⊢
 clear hwc
 refine tkI (i := 0) rfl h0 ?_
 simp only [Act.put, sA, sB, sD, sE, sF]
 refine tkI (i := 1) rfl h0 ?_
 simp only [Act.put, sZ]
 refine tkI (i := 2) rfl h0 ?_
 simp only [Act.put, sZ]
 refine tkI (i := 3) rfl h0 ?_
 simp only [Act.put, sZ]
 refine tkI (i := 4) rfl h0 ?_
 simp only [Act.put, sZ]
 refine tkI (i := 5) rfl h0 ?_
 simp only [Act.put, sZ]
 refine wpAnyH_ready (rs := [6]) (by kernel_rfl) (by simp) (AllReadyH.cons rfl (fun K hK => ?_) AllReadyH.nil)
 rw [if_pos (by rfl)]
 go_simp
 refine (NT.out wc).mono ?_
 rintro e w6 ⟨rfl, hw6⟩
 rw [hw6]
 clear hw6 w6
 go_simp
 refine hK.out _ _ (KS.out _ Bc.out) (fun h0_1 => ?_)
 clear hK K h0
 refine tkI (i := 7) rfl h0_1 ?_
 simp only [Act.put, sZ]
 refine tkI (i := 8) rfl h0_1 ?_
 simp only [Act.put, sZ]
 refine wpAnyH_ready (rs := [9]) (by kernel_rfl) (by simp) (AllReadyH.cons rfl (fun K hK => ?_) AllReadyH.nil)
 rw [if_pos (by rfl)]
 go_simp
 refine (ML.out wc).mono ?_
 rintro e wc ⟨rfl, hb⟩
 have Bc := Lib.hid (below_on Bc.out hb)
 clear hb
 go_simp
 refine hK.out _ _ (KS.out _ Bc.out) (fun h0_2 => ?_)
 clear hK K h0_1
 refine tkI (i := 10) rfl h0_2 ?_
 simp only [Act.put, sZ]
 refine wpAnyH_ready (rs := [11]) (by kernel_rfl) (by simp) (AllReadyH.cons rfl (fun K hK => ?_) AllReadyH.nil)
 rw [if_pos (by rfl)]
 go_simp
 obtain ⟨f0, f1⟩ := KR.out _ Bc.out 0 (by omega)
 obtain ⟨f2, f3⟩ := KR.out _ Bc.out 1 (by omega)
 obtain ⟨f4, f5⟩ := KR.out _ Bc.out 2 (by omega)
 go_simp
 refine hK.out _ _ (FAR.out _ (KS.out _ Bc.out)) (fun h0_3 => ?_)
 clear hK K h0_2
 try simp only [sF]
 try simp only [sE]
 refine wpAnyH_done (by kernel_rfl) ?_ _
 have BE := below_put3 (below_on E0.out Bc.out) (b := w.heap.size + 1) (by omega) (.int .i64 j) (.int .i64 i) (.int .i64 y)
 obtain ⟨q0, q1, q2⟩ := put3_facts (u := .int .i64 j) (v := .int .i64 i) (t := .int .i64 y) f0 f2 f4
 obtain ⟨we, hwe⟩ : ∃ we, we = ((wc.setCell ⟨w.heap.size + 1, 0, none⟩ (.int .i64 j)).setCell ⟨w.heap.size + 1, 1, none⟩ (.int .i64 i)).setCell ⟨w.heap.size + 1, 2, none⟩ (.int .i64 y) := ⟨_, rfl⟩
 rw [← hwe] at BE q0 q1 q2 ⊢
 have BX := Lib.hid BE
 clear hwe BE f0 f1 f2 f3 f4 f5
 go_wp2_with fail
 refine bodyPost_ret (v := .agg #[.int .i64 j, .int .i64 i, .int .i64 y]) (by simp [results, Tryz.results160, go_sem, q0, q1, q2]) rfl ⟨rfl, BX.out⟩
end Go.Proofs.YthjapmdfcbngmaaGreat
