/- A part. -/
import Derived.Test.YthjapmdfcbngmaaGreatWr1
namespace Go.Proofs.YthjapmdfcbngmaaGreat
set_option maxHeartbeats 800000
def lvB (l : Int) : Bool := decide (l = 1099511627776 ∨ (-2147483648 ≤ l ∧ l ≤ 2147483649))
def noB (l : Int) : Bool := decide (l = 1099511627776)
def evB (l : Int) : Bool := decide (l % 2 = 0)
def jnL (c : Int) (s : Bool) : Int := if -1073741824 ≤ c ∧ c ≤ 1073741824 then (if s then 2 * c else 2 * c + 1) else 0
def jnE (c : Int) : Int := if -1073741824 ≤ c ∧ c ≤ 1073741824 then 0 else 7
def spC (l : Int) : Int := if lvB l && !noB l then l / 2 else 0
def spS (l : Int) : Bool := lvB l && !noB l && evB l
def spE (l : Int) : Int := if lvB l then (if noB l then 4 else 0) else 2
def adL (a b : Int) : Int := if lvB a && lvB b then (if noB a || noB b then 1099511627776 else jnL (a / 2 + b / 2) (evB a || evB b)) else 0
def adE (a b : Int) : Int := if lvB a && lvB b then (if noB a || noB b then 0 else jnE (a / 2 + b / 2)) else 2
def ntL (a : Int) : Int := if lvB a && !noB a then 1 - a else 0
theorem lvB_no {l : Int} (h : l ≠ 1099511627776) (g : l < -2147483648 ∨ 2147483649 < l) : lvB l = false := by unfold lvB; simp; omega
theorem lvB_yes {l : Int} (h : l = 1099511627776 ∨ (-2147483648 ≤ l ∧ l ≤ 2147483649)) : lvB l = true := by unfold lvB; simpa using h
theorem lvB_cases (l : Int) : (lvB l = false ∧ noB l = false ∧ l ≠ 1099511627776 ∧ (l < -2147483648 ∨ 2147483649 < l)) ∨ (l = 1099511627776 ∧ lvB l = true ∧ noB l = true) ∨ (lvB l = true ∧ noB l = false ∧ l ≠ 1099511627776 ∧ -2147483648 ≤ l ∧ l ≤ 2147483649) := by
 unfold lvB noB
 by_cases h : l = 1099511627776
 · simp [h]
 · simp [h]; omega
theorem ad_bad1 {a : Int} (b : Int) (h : lvB a = false) : adL a b = 0 ∧ adE a b = 2 := by simp [adL, adE, h]
theorem ad_bad2 (a : Int) {b : Int} (h : lvB b = false) : adL a b = 0 ∧ adE a b = 2 := by simp [adL, adE, h]
theorem ad_none {a b : Int} (h : lvB a = true) (g : lvB b = true) (k : (noB a || noB b) = true) : adL a b = 1099511627776 ∧ adE a b = 0 := by simp only [adL, adE, h, g, k]; simp
theorem ad_some {a b : Int} (h : lvB a = true) (g : lvB b = true) (k : noB a = false) (l : noB b = false) : adL a b = jnL (a / 2 + b / 2) (evB a || evB b) ∧ adE a b = jnE (a / 2 + b / 2) := by simp [adL, adE, h, g, k, l]
open Go.RowKit
def Still (v : Value) (w : World) (e : Ending) (w' : World) : Prop := e = .returned v ∧ w' = w
theorem ret_li {a b c d : Int} (h : a = b) (g : c = d) : Ending.returned (.tuple #[.int .i64 a, .int .i64 c]) = .returned (.tuple #[.int .i64 b, .int .i64 d]) := by rw [h, g]
theorem ret_cs {a b : Int} {c d : Bool} (h : a = b) (g : c = d) : Ending.returned (.tuple #[.int .i64 a, .bool c]) = .returned (.tuple #[.int .i64 b, .bool d]) := by rw [h, g]
theorem ret_cse {a b x y : Int} {c d : Bool} (h : a = b) (g : c = d) (k : x = y) : Ending.returned (.tuple #[.int .i64 a, .bool c, .int .i64 x]) = .returned (.tuple #[.int .i64 b, .bool d, .int .i64 y]) := by rw [h, g, k]
theorem limValid_any (l : Int) (w : World) (hl : I64 l) : Calls Tryz.prog 166 #[.int .i64 l] w (Still (.bool (lvB l)) w) := by
 by_cases h0 : l = 1099511627776
 · have H := Lib.hid (lvB_yes (Or.inl h0))
   subst h0
   go_enter Tryz.func166, Tryz.ntmps166
   go_wp2_with fail
   go_ret
   exact ⟨ret_bool (by rw [H.out]), rfl⟩
 have B0 : (l == 1099511627776) = false := by simpa using h0
 by_cases h1 : l < -2147483648
 · have H := Lib.hid (lvB_no h0 (Or.inl h1))
   have D : decide ((-2147483648 : Int) ≤ l) = false := by simp; omega
   go_enter Tryz.func166, Tryz.ntmps166
   go_wp2_with fail
   go_ret
   exact ⟨ret_bool (by rw [H.out]), rfl⟩
 by_cases h2 : 2147483649 < l
 · have H := Lib.hid (lvB_no h0 (Or.inr h2))
   have D : decide (l ≤ (2147483649 : Int)) = false := by simp; omega
   go_enter Tryz.func166, Tryz.ntmps166
   go_wp2_with fail
   go_ret
   exact ⟨ret_bool (by rw [H.out]), rfl⟩
 · have H := Lib.hid (lvB_yes (l := l) (Or.inr ⟨by omega, by omega⟩))
   go_enter Tryz.func166, Tryz.ntmps166
   go_wp2_with fail
   go_ret
   exact ⟨ret_bool (by rw [H.out]), rfl⟩
theorem refLimValid_any (l : Int) (w : World) (hl : I64 l) : Calls Tryz.prog 86 #[.int .i64 l] w (Still (.bool (lvB l)) w) := by
 by_cases h0 : l = 1099511627776
 · have H := Lib.hid (lvB_yes (Or.inl h0))
   subst h0
   go_enter Tryz.func86, Tryz.ntmps86
   go_wp2_with fail
   go_ret
   exact ⟨ret_bool (by rw [H.out]), rfl⟩
 have B0 : (l == 1099511627776) = false := by simpa using h0
 by_cases h1 : l < -2147483648
 · have H := Lib.hid (lvB_no h0 (Or.inl h1))
   have D : decide ((-2147483648 : Int) ≤ l) = false := by simp; omega
   go_enter Tryz.func86, Tryz.ntmps86
   go_wp2_with fail
   go_ret
   exact ⟨ret_bool (by rw [H.out]), rfl⟩
 by_cases h2 : 2147483649 < l
 · have H := Lib.hid (lvB_no h0 (Or.inr h2))
   have D : decide (l ≤ (2147483649 : Int)) = false := by simp; omega
   go_enter Tryz.func86, Tryz.ntmps86
   go_wp2_with fail
   go_ret
   exact ⟨ret_bool (by rw [H.out]), rfl⟩
 · have H := Lib.hid (lvB_yes (l := l) (Or.inr ⟨by omega, by omega⟩))
   go_enter Tryz.func86, Tryz.ntmps86
   go_wp2_with fail
   go_ret
   exact ⟨ret_bool (by rw [H.out]), rfl⟩
theorem limValid_free (l : Int) (w : World) : Calls Tryz.prog 166 #[.int .i64 l] w (Still (.bool (lvB l)) w) := by
 by_cases h0 : l = 1099511627776
 · have H := Lib.hid (lvB_yes (Or.inl h0))
   subst h0
   go_enter Tryz.func166, Tryz.ntmps166
   go_wp2_with fail
   go_ret
   exact ⟨ret_bool (by rw [H.out]), rfl⟩
 have B0 : (l == 1099511627776) = false := by simpa using h0
 by_cases h1 : l < -2147483648
 · have H := Lib.hid (lvB_no h0 (Or.inl h1))
   have D : decide ((-2147483648 : Int) ≤ l) = false := by simp; omega
   go_enter Tryz.func166, Tryz.ntmps166
   go_wp2_with fail
   go_ret
   exact ⟨ret_bool (by rw [H.out]), rfl⟩
 by_cases h2 : 2147483649 < l
 · have H := Lib.hid (lvB_no h0 (Or.inr h2))
   have D : decide (l ≤ (2147483649 : Int)) = false := by simp; omega
   go_enter Tryz.func166, Tryz.ntmps166
   go_wp2_with fail
   go_ret
   exact ⟨ret_bool (by rw [H.out]), rfl⟩
 · have H := Lib.hid (lvB_yes (l := l) (Or.inr ⟨by omega, by omega⟩))
   go_enter Tryz.func166, Tryz.ntmps166
   go_wp2_with fail
   go_ret
   exact ⟨ret_bool (by rw [H.out]), rfl⟩
theorem refLimValid_free (l : Int) (w : World) : Calls Tryz.prog 86 #[.int .i64 l] w (Still (.bool (lvB l)) w) := by
 by_cases h0 : l = 1099511627776
 · have H := Lib.hid (lvB_yes (Or.inl h0))
   subst h0
   go_enter Tryz.func86, Tryz.ntmps86
   go_wp2_with fail
   go_ret
   exact ⟨ret_bool (by rw [H.out]), rfl⟩
 have B0 : (l == 1099511627776) = false := by simpa using h0
 by_cases h1 : l < -2147483648
 · have H := Lib.hid (lvB_no h0 (Or.inl h1))
   have D : decide ((-2147483648 : Int) ≤ l) = false := by simp; omega
   go_enter Tryz.func86, Tryz.ntmps86
   go_wp2_with fail
   go_ret
   exact ⟨ret_bool (by rw [H.out]), rfl⟩
 by_cases h2 : 2147483649 < l
 · have H := Lib.hid (lvB_no h0 (Or.inr h2))
   have D : decide (l ≤ (2147483649 : Int)) = false := by simp; omega
   go_enter Tryz.func86, Tryz.ntmps86
   go_wp2_with fail
   go_ret
   exact ⟨ret_bool (by rw [H.out]), rfl⟩
 · have H := Lib.hid (lvB_yes (l := l) (Or.inr ⟨by omega, by omega⟩))
   go_enter Tryz.func86, Tryz.ntmps86
   go_wp2_with fail
   go_ret
   exact ⟨ret_bool (by rw [H.out]), rfl⟩
theorem limValid_as {l : Int} {b : Bool} (w : World) (hl : I64 l) (h : lvB l = b) : Calls Tryz.prog 166 #[.int .i64 l] w (Still (.bool b) w) := by
 rw [← h]; exact limValid_any l w hl
theorem refLimValid_as {l : Int} {b : Bool} (w : World) (hl : I64 l) (h : lvB l = b) : Calls Tryz.prog 86 #[.int .i64 l] w (Still (.bool b) w) := by
 rw [← h]; exact refLimValid_any l w hl
theorem join_any (c : Int) (s : Bool) (w : World) : Calls Tryz.prog 196 #[.int .i64 c, .bool s] w (Still (.tuple #[.int .i64 (jnL c s), .int .i64 (jnE c)]) w) := by
 by_cases h1 : c < -1073741824
 · have H := Lib.hid (show jnL c s = 0 ∧ jnE c = 7 by unfold jnL jnE; rw [if_neg (by omega), if_neg (by omega)]; simp)
   go_enter Tryz.func196, Tryz.ntmps196
   go_wp2_with fail
   go_ret2
   exact ⟨ret_li H.out.1.symm H.out.2.symm, rfl⟩
 by_cases h2 : 1073741824 < c
 · have H := Lib.hid (show jnL c s = 0 ∧ jnE c = 7 by unfold jnL jnE; rw [if_neg (by omega), if_neg (by omega)]; simp)
   go_enter Tryz.func196, Tryz.ntmps196
   go_wp2_with fail
   go_ret2
   exact ⟨ret_li H.out.1.symm H.out.2.symm, rfl⟩
 cases s
 · have H := Lib.hid (show jnL c false = 2 * c + 1 ∧ jnE c = 0 by unfold jnL jnE; rw [if_pos (And.intro (by omega) (by omega)), if_pos (And.intro (by omega) (by omega))]; simp)
   go_enter Tryz.func196, Tryz.ntmps196
   go_wp2_with fail
   go_ret2
   exact ⟨ret_li H.out.1.symm H.out.2.symm, rfl⟩
 · have H := Lib.hid (show jnL c true = 2 * c ∧ jnE c = 0 by unfold jnL jnE; rw [if_pos (And.intro (by omega) (by omega)), if_pos (And.intro (by omega) (by omega))]; simp)
   go_enter Tryz.func196, Tryz.ntmps196
   go_wp2_with fail
   go_ret2
   exact ⟨ret_li H.out.1.symm H.out.2.symm, rfl⟩
theorem and1_i64 (l : Int) : bits .and .i64 l 1 = l % 2 := by
 show IntKind.i64.wrap (((BitVec.ofInt 64 l &&& BitVec.ofInt 64 1).toNat : Nat) : Int) = _
 have h1 : (BitVec.ofInt 64 1).toNat = 1 := by decide
 rw [BitVec.toNat_and, h1, Nat.and_one_is_mod, BitVec.toNat_ofInt]
 have h2 : 0 ≤ l % 2 ∧ l % 2 < 2 := by omega
 have h3 : (((l % ((2 ^ 64 : Nat) : Int)).toNat % 2 : Nat) : Int) = l % 2 := by
  have : ((2 ^ 64 : Nat) : Int) = 18446744073709551616 := by decide
  rw [this]; omega
 rw [h3]
 simp [IntKind.wrap, IntKind.bits, IntKind.signed]
 omega
theorem and1_ev (l : Int) : (bits .and .i64 l 1 == 0) = evB l := by rw [and1_i64]; unfold evB; rw [Bool.eq_iff_iff]; simp
theorem split_any (l : Int) (w : World) : Calls Tryz.prog 188 #[.int .i64 l] w (Still (.tuple #[.int .i64 (l / 2), .bool (evB l)]) w) := by
 go_enter Tryz.func188, Tryz.ntmps188
 go_wp2_with fail
 go_ret2
 exact ⟨ret_cs rfl (and1_ev l), rfl⟩
theorem limSplit_any (l : Int) (w : World) (hl : I64 l) : Calls Tryz.prog 171 #[.int .i64 l] w (Still (.tuple #[.int .i64 (spC l), .bool (spS l), .int .i64 (spE l)]) w) := by
 rcases lvB_cases l with ⟨hv, hn, h0, hr⟩ | ⟨rfl, hv, hn⟩ | ⟨hv, hn, h0, h1, h2⟩
 · have H := Lib.hid (show spC l = 0 ∧ spS l = false ∧ spE l = 2 by simp [spC, spS, spE, hv])
   have V := Lib.hid hv
   clear hv hn
   go_enter Tryz.func171, Tryz.ntmps171
   go_wp2_with fail
   refine (limValid_as _ hl V.out).mono ?_
   rintro e w' ⟨rfl, rfl⟩
   go_wp2_with fail
   go_ret3
   exact ⟨ret_cse H.out.1.symm H.out.2.1.symm H.out.2.2.symm, rfl⟩
 · have H := Lib.hid (show spC 1099511627776 = 0 ∧ spS 1099511627776 = false ∧ spE 1099511627776 = 4 by decide)
   have V := Lib.hid hv
   clear hv hn
   go_enter Tryz.func171, Tryz.ntmps171
   go_wp2_with fail
   refine (limValid_as _ hl V.out).mono ?_
   rintro e w' ⟨rfl, rfl⟩
   go_wp2_with fail
   go_ret3
   exact ⟨ret_cse H.out.1.symm H.out.2.1.symm H.out.2.2.symm, rfl⟩
 · have H := Lib.hid (show spC l = l / 2 ∧ spS l = evB l ∧ spE l = 0 by simp [spC, spS, spE, hv, hn])
   have V := Lib.hid hv
   clear hv hn
   have B0 : (l == 1099511627776) = false := by simpa using h0
   go_enter Tryz.func171, Tryz.ntmps171
   go_wp2_with fail
   refine (limValid_as _ hl V.out).mono ?_
   rintro e w' ⟨rfl, rfl⟩
   go_wp2_with fail
   refine (split_any l _).mono ?_
   rintro e w' ⟨rfl, rfl⟩
   go_wp2_with fail
   go_ret3
   exact ⟨ret_cse H.out.1.symm H.out.2.1.symm H.out.2.2.symm, rfl⟩
theorem quo_ev (l : Int) (h : l % 2 = 0) : l.tdiv 2 = l / 2 ∧ l.tmod 2 = 0 := by
 obtain ⟨k, rfl⟩ : ∃ k, l = 2 * k := ⟨l / 2, by omega⟩
 rw [Int.mul_tdiv_cancel_left _ (by omega), Int.mul_tmod_right]; omega
theorem quo_odd (l : Int) (h : ¬ l % 2 = 0) : (l - 1).tdiv 2 = l / 2 ∧ l.tmod 2 ≠ 0 := by
 obtain ⟨k, rfl⟩ : ∃ k, l = 2 * k + 1 := ⟨l / 2, by omega⟩
 have e : 2 * k + 1 - 1 = 2 * k := by omega
 have d := Int.mul_tdiv_add_tmod (2 * k + 1) 2
 rw [e, Int.mul_tdiv_cancel_left _ (by omega)]
 omega
theorem refLimSplit_any (l : Int) (w : World) (hl : I64 l) : Calls Tryz.prog 139 #[.int .i64 l] w (Still (.tuple #[.int .i64 (spC l), .bool (spS l), .int .i64 (spE l)]) w) := by
 rcases lvB_cases l with ⟨hv, hn, h0, hr⟩ | ⟨rfl, hv, hn⟩ | ⟨hv, hn, h0, h1, h2⟩
 · have H := Lib.hid (show spC l = 0 ∧ spS l = false ∧ spE l = 2 by simp [spC, spS, spE, hv])
   have V := Lib.hid hv
   clear hv hn
   go_enter Tryz.func139, Tryz.ntmps139
   go_wp2_with fail
   refine (refLimValid_as _ hl V.out).mono ?_
   rintro e w' ⟨rfl, rfl⟩
   go_wp2_with fail
   go_ret3
   exact ⟨ret_cse H.out.1.symm H.out.2.1.symm H.out.2.2.symm, rfl⟩
 · have H := Lib.hid (show spC 1099511627776 = 0 ∧ spS 1099511627776 = false ∧ spE 1099511627776 = 4 by decide)
   have V := Lib.hid hv
   clear hv hn
   go_enter Tryz.func139, Tryz.ntmps139
   go_wp2_with fail
   refine (refLimValid_as _ hl V.out).mono ?_
   rintro e w' ⟨rfl, rfl⟩
   go_wp2_with fail
   go_ret3
   exact ⟨ret_cse H.out.1.symm H.out.2.1.symm H.out.2.2.symm, rfl⟩
 · have B0 : (l == 1099511627776) = false := by simpa using h0
   by_cases he : l % 2 = 0
   · have H := Lib.hid (show spC l = l.tdiv 2 ∧ spS l = true ∧ spE l = 0 by simp [spC, spS, spE, evB, hv, hn, he, (quo_ev l he).1])
     have V := Lib.hid hv
     have M : (l.tmod 2 == 0) = true := by simpa using (quo_ev l he).2
     clear hv hn
     go_enter Tryz.func139, Tryz.ntmps139
     go_wp2_with fail
     refine (refLimValid_as _ hl V.out).mono ?_
     rintro e w' ⟨rfl, rfl⟩
     go_wp2_with fail
     go_ret3
     exact ⟨ret_cse H.out.1.symm H.out.2.1.symm H.out.2.2.symm, rfl⟩
   · have H := Lib.hid (show spC l = (l - 1).tdiv 2 ∧ spS l = false ∧ spE l = 0 by simp [spC, spS, spE, evB, hv, hn, he, (quo_odd l he).1])
     have V := Lib.hid hv
     have M : (l.tmod 2 == 0) = false := by simpa using (quo_odd l he).2
     clear hv hn
     go_enter Tryz.func139, Tryz.ntmps139
     go_wp2_with fail
     refine (refLimValid_as _ hl V.out).mono ?_
     rintro e w' ⟨rfl, rfl⟩
     go_wp2_with fail
     go_ret3
     exact ⟨ret_cse H.out.1.symm H.out.2.1.symm H.out.2.2.symm, rfl⟩
theorem sum_any (a b : Int) (w : World) (ha : -2147483648 ≤ a ∧ a ≤ 2147483649) (hb : -2147483648 ≤ b ∧ b ≤ 2147483649) :
  Calls Tryz.prog 197 #[.int .i64 a, .int .i64 b, .func (.func 188) #[] #[]] w (Still (.tuple #[.int .i64 (a / 2 + b / 2), .bool (evB a || evB b)]) w) := by
 obtain ⟨a1, a2⟩ := ha
 obtain ⟨b1, b2⟩ := hb
 have p1 := fun W => split_any a W
 have p2 := fun W => split_any b W
 generalize he : evB a = ea at p1
 generalize hf : evB b = eb at p2
 have P1 := Lib.hid p1
 have P2 := Lib.hid p2
 clear p1 p2 he hf
 cases ea
 · go_enter Tryz.func197, Tryz.ntmps197
   go_wp2_with fail
   refine (P1.out _).mono ?_
   rintro e w' ⟨rfl, rfl⟩
   go_wp2_with fail
   refine (P2.out _).mono ?_
   rintro e w' ⟨rfl, rfl⟩
   go_wp2_with fail
   go_ret2
   exact ⟨rfl, rfl⟩
 · go_enter Tryz.func197, Tryz.ntmps197
   go_wp2_with fail
   refine (P1.out _).mono ?_
   rintro e w' ⟨rfl, rfl⟩
   go_wp2_with fail
   refine (P2.out _).mono ?_
   rintro e w' ⟨rfl, rfl⟩
   go_wp2_with fail
   go_ret2
   exact ⟨rfl, rfl⟩
theorem refSplit_none {l : Int} (w : World) (hl : I64 l) (hv : lvB l = true) (hn : noB l = true) : Calls Tryz.prog 139 #[.int .i64 l] w (Still (.tuple #[.int .i64 0, .bool false, .int .i64 4]) w) := by
 have h := refLimSplit_any l w hl
 rwa [show spC l = 0 by simp [spC, hv, hn], show spS l = false by simp [spS, hv, hn], show spE l = 4 by simp [spE, hv, hn]] at h
theorem refSplit_some {l : Int} (w : World) (hl : I64 l) (hv : lvB l = true) (hn : noB l = false) : Calls Tryz.prog 139 #[.int .i64 l] w (Still (.tuple #[.int .i64 (l / 2), .bool (evB l), .int .i64 0]) w) := by
 have h := refLimSplit_any l w hl
 rwa [show spC l = l / 2 by simp [spC, hv, hn], show spS l = evB l by simp [spS, hv, hn], show spE l = 0 by simp [spE, hv, hn]] at h
theorem limSplit_some {l : Int} (w : World) (hl : I64 l) (hv : lvB l = true) (hn : noB l = false) : Calls Tryz.prog 171 #[.int .i64 l] w (Still (.tuple #[.int .i64 (l / 2), .bool (evB l), .int .i64 0]) w) := by
 have h := limSplit_any l w hl
 rwa [show spC l = l / 2 by simp [spC, hv, hn], show spS l = evB l by simp [spS, hv, hn], show spE l = 0 by simp [spE, hv, hn]] at h
theorem limAdd_any (a b : Int) (w : World) (ha : I64 a) (hb : I64 b) : Calls Tryz.prog 190 #[.int .i64 a, .int .i64 b] w (Still (.tuple #[.int .i64 (adL a b), .int .i64 (adE a b)]) w) := by
 rcases lvB_cases a with ⟨va, na, a0, ar⟩ | ⟨a0, va, na⟩ | ⟨va, na, a0, a1, a2⟩ <;> rcases lvB_cases b with ⟨vb, nb, b0, br⟩ | ⟨b0, vb, nb⟩ | ⟨vb, nb, b0, b1, b2⟩
 · have H := Lib.hid (ad_bad1 b va)
   have BA : (a == 1099511627776) = false := by simpa using a0
   have BB : (b == 1099511627776) = false := by simpa using b0
   have VA := Lib.hid va
   have VB := Lib.hid vb
   have NA := Lib.hid na
   have NB := Lib.hid nb
   clear va vb na nb a0 b0
   go_enter Tryz.func190, Tryz.ntmps190
   go_wp2_with fail
   refine (limValid_as _ ha VA.out).mono ?_
   rintro e w' ⟨rfl, rfl⟩
   go_wp2_with fail
   go_ret2
   exact ⟨ret_li H.out.1.symm H.out.2.symm, rfl⟩
 · have H := Lib.hid (ad_bad1 b va)
   have BA : (a == 1099511627776) = false := by simpa using a0
   have BB : (b == 1099511627776) = true := by simpa using b0
   have VA := Lib.hid va
   have VB := Lib.hid vb
   have NA := Lib.hid na
   have NB := Lib.hid nb
   clear va vb na nb a0 b0
   go_enter Tryz.func190, Tryz.ntmps190
   go_wp2_with fail
   refine (limValid_as _ ha VA.out).mono ?_
   rintro e w' ⟨rfl, rfl⟩
   go_wp2_with fail
   go_ret2
   exact ⟨ret_li H.out.1.symm H.out.2.symm, rfl⟩
 · have H := Lib.hid (ad_bad1 b va)
   have BA : (a == 1099511627776) = false := by simpa using a0
   have BB : (b == 1099511627776) = false := by simpa using b0
   have VA := Lib.hid va
   have VB := Lib.hid vb
   have NA := Lib.hid na
   have NB := Lib.hid nb
   clear va vb na nb a0 b0
   go_enter Tryz.func190, Tryz.ntmps190
   go_wp2_with fail
   refine (limValid_as _ ha VA.out).mono ?_
   rintro e w' ⟨rfl, rfl⟩
   go_wp2_with fail
   go_ret2
   exact ⟨ret_li H.out.1.symm H.out.2.symm, rfl⟩
 · have H := Lib.hid (ad_bad2 a vb)
   have BA : (a == 1099511627776) = true := by simpa using a0
   have BB : (b == 1099511627776) = false := by simpa using b0
   have VA := Lib.hid va
   have VB := Lib.hid vb
   have NA := Lib.hid na
   have NB := Lib.hid nb
   clear va vb na nb a0 b0
   go_enter Tryz.func190, Tryz.ntmps190
   go_wp2_with fail
   refine (limValid_as _ ha VA.out).mono ?_
   rintro e w' ⟨rfl, rfl⟩
   go_wp2_with fail
   refine (limValid_as _ hb VB.out).mono ?_
   rintro e w' ⟨rfl, rfl⟩
   go_wp2_with fail
   go_ret2
   exact ⟨ret_li H.out.1.symm H.out.2.symm, rfl⟩
 · have H := Lib.hid (ad_none va vb (by simp [na, nb]))
   have BA : (a == 1099511627776) = true := by simpa using a0
   have BB : (b == 1099511627776) = true := by simpa using b0
   have VA := Lib.hid va
   have VB := Lib.hid vb
   have NA := Lib.hid na
   have NB := Lib.hid nb
   clear va vb na nb a0 b0
   go_enter Tryz.func190, Tryz.ntmps190
   go_wp2_with fail
   refine (limValid_as _ ha VA.out).mono ?_
   rintro e w' ⟨rfl, rfl⟩
   go_wp2_with fail
   refine (limValid_as _ hb VB.out).mono ?_
   rintro e w' ⟨rfl, rfl⟩
   go_wp2_with fail
   go_ret2
   exact ⟨ret_li H.out.1.symm H.out.2.symm, rfl⟩
 · have H := Lib.hid (ad_none va vb (by simp [na, nb]))
   have BA : (a == 1099511627776) = true := by simpa using a0
   have BB : (b == 1099511627776) = false := by simpa using b0
   have VA := Lib.hid va
   have VB := Lib.hid vb
   have NA := Lib.hid na
   have NB := Lib.hid nb
   clear va vb na nb a0 b0
   go_enter Tryz.func190, Tryz.ntmps190
   go_wp2_with fail
   refine (limValid_as _ ha VA.out).mono ?_
   rintro e w' ⟨rfl, rfl⟩
   go_wp2_with fail
   refine (limValid_as _ hb VB.out).mono ?_
   rintro e w' ⟨rfl, rfl⟩
   go_wp2_with fail
   go_ret2
   exact ⟨ret_li H.out.1.symm H.out.2.symm, rfl⟩
 · have H := Lib.hid (ad_bad2 a vb)
   have BA : (a == 1099511627776) = false := by simpa using a0
   have BB : (b == 1099511627776) = false := by simpa using b0
   have VA := Lib.hid va
   have VB := Lib.hid vb
   have NA := Lib.hid na
   have NB := Lib.hid nb
   clear va vb na nb a0 b0
   go_enter Tryz.func190, Tryz.ntmps190
   go_wp2_with fail
   refine (limValid_as _ ha VA.out).mono ?_
   rintro e w' ⟨rfl, rfl⟩
   go_wp2_with fail
   refine (limValid_as _ hb VB.out).mono ?_
   rintro e w' ⟨rfl, rfl⟩
   go_wp2_with fail
   go_ret2
   exact ⟨ret_li H.out.1.symm H.out.2.symm, rfl⟩
 · have H := Lib.hid (ad_none va vb (by simp [na, nb]))
   have BA : (a == 1099511627776) = false := by simpa using a0
   have BB : (b == 1099511627776) = true := by simpa using b0
   have VA := Lib.hid va
   have VB := Lib.hid vb
   have NA := Lib.hid na
   have NB := Lib.hid nb
   clear va vb na nb a0 b0
   go_enter Tryz.func190, Tryz.ntmps190
   go_wp2_with fail
   refine (limValid_as _ ha VA.out).mono ?_
   rintro e w' ⟨rfl, rfl⟩
   go_wp2_with fail
   refine (limValid_as _ hb VB.out).mono ?_
   rintro e w' ⟨rfl, rfl⟩
   go_wp2_with fail
   go_ret2
   exact ⟨ret_li H.out.1.symm H.out.2.symm, rfl⟩
 · have H := Lib.hid (ad_some va vb na nb)
   have BA : (a == 1099511627776) = false := by simpa using a0
   have BB : (b == 1099511627776) = false := by simpa using b0
   have VA := Lib.hid va
   have VB := Lib.hid vb
   have NA := Lib.hid na
   have NB := Lib.hid nb
   clear va vb na nb a0 b0
   go_enter Tryz.func190, Tryz.ntmps190
   go_wp2_with fail
   refine (limValid_as _ ha VA.out).mono ?_
   rintro e w' ⟨rfl, rfl⟩
   go_wp2_with fail
   refine (limValid_as _ hb VB.out).mono ?_
   rintro e w' ⟨rfl, rfl⟩
   go_wp2_with fail
   refine (sum_any _ _ _ ⟨a1, a2⟩ ⟨b1, b2⟩).mono ?_
   rintro e w' ⟨rfl, rfl⟩
   go_wp2_with fail
   refine (join_any _ _ _).mono ?_
   rintro e w' ⟨rfl, rfl⟩
   go_wp2_with fail
   go_ret2
   exact ⟨ret_li H.out.1.symm H.out.2.symm, rfl⟩
theorem limNot_any (a : Int) (w : World) (ha : I64 a) : Calls Tryz.prog 186 #[.int .i64 a] w (Still (.tuple #[.int .i64 (ntL a), .int .i64 (spE a)]) w) := by
 rcases lvB_cases a with ⟨va, na, a0, ar⟩ | ⟨a0, va, na⟩ | ⟨va, na, a0, a1, a2⟩
 · have H := Lib.hid (show ntL a = 0 ∧ spE a = 2 by simp [ntL, spE, va, na])
   have BA : (a == 1099511627776) = false := by simpa using a0
   have VA := Lib.hid va
   clear va na a0
   go_enter Tryz.func186, Tryz.ntmps186
   go_wp2_with fail
   refine (limValid_as _ ha VA.out).mono ?_
   rintro e w' ⟨rfl, rfl⟩
   go_wp2_with fail
   go_ret2
   exact ⟨ret_li H.out.1.symm H.out.2.symm, rfl⟩
 · have H := Lib.hid (show ntL a = 0 ∧ spE a = 4 by simp [ntL, spE, va, na])
   have BA : (a == 1099511627776) = true := by simpa using a0
   have VA := Lib.hid va
   clear va na a0
   go_enter Tryz.func186, Tryz.ntmps186
   go_wp2_with fail
   refine (limValid_as _ ha VA.out).mono ?_
   rintro e w' ⟨rfl, rfl⟩
   go_wp2_with fail
   go_ret2
   exact ⟨ret_li H.out.1.symm H.out.2.symm, rfl⟩
 · have H := Lib.hid (show ntL a = 1 - a ∧ spE a = 0 by simp [ntL, spE, va, na])
   have BA : (a == 1099511627776) = false := by simpa using a0
   have VA := Lib.hid va
   clear va na a0
   go_enter Tryz.func186, Tryz.ntmps186
   go_wp2_with fail
   refine (limValid_as _ ha VA.out).mono ?_
   rintro e w' ⟨rfl, rfl⟩
   go_wp2_with fail
   go_ret2
   exact ⟨ret_li H.out.1.symm H.out.2.symm, rfl⟩
end Go.Proofs.YthjapmdfcbngmaaGreat
