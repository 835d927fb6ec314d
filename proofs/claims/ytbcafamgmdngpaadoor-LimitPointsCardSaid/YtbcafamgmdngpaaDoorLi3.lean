/- Contracts of Text of package limit and of its reference. -/
import Derived.Test.YtbcafamgmdngpaaDoorLi1
import Derived.Test.YtbcafamgmdngpaaDoorRa6
namespace Go.Proofs.YtbcafamgmdngpaaDoor
open Go.RowKit

/-- The text of a limit. -/
def liT (l : Int) : List UInt8 := if noB l then [97, 110, 121] else if lvB l then (if evB l then 60 :: Lib.itoa (l / 2) else 60 :: 61 :: Lib.itoa (l / 2)) else []

def liE (l : Int) : Int := if lvB l then 0 else 2

theorem ret_tx {a : ByteArray} {b : List UInt8} {c d : Int} (h : a = ⟨b.toArray⟩) (g : c = d) : Ending.returned (.tuple #[.string a, .int .i64 c]) = .returned (.tuple #[.string ⟨b.toArray⟩, .int .i64 d]) := by rw [h, g]

theorem cat60 (l : List UInt8) : (⟨#[60]⟩ : ByteArray) ++ ⟨l.toArray⟩ = ⟨(60 :: l).toArray⟩ := cat1 60 l

theorem cat6061 (l : List UInt8) : (⟨#[60, 61]⟩ : ByteArray) ++ ⟨l.toArray⟩ = ⟨(60 :: 61 :: l).toArray⟩ := by
  apply ByteArray.ext
  simp

set_option maxHeartbeats 400000 in
theorem limText_any (l : Int) (w : World) (hF : Fit w) (hl : I64 l) : Calls Tryd.prog 14 #[.int .i64 l] w (Made (.tuple #[.string ⟨(liT l).toArray⟩, .int .i64 (liE l)]) w) := by
  rcases lvB_cases l with ⟨vl, nl, l0, lr⟩ | ⟨l0, vl, nl⟩ | ⟨vl, nl, l0, l1, l2⟩
  · have H := Lib.hid (show liT l = [] ∧ liE l = 2 by simp [liT, liE, vl, nl])
    have L0 : (l == 1099511627776) = false := by simpa using l0
    have VL := Lib.hid vl
    clear vl nl l0
    go_enter Tryd.func14, Tryd.ntmps14
    go_wp2_with fail
    refine (limSplit_bad _ hl VL.out).mono ?_
    rintro e w' ⟨rfl, rfl⟩
    go_wp2_with fail
    go_ret2
    exact ⟨ret_tx (by rw [H.out.1]) H.out.2.symm, Below.refl _ _⟩
  · have H := Lib.hid (show liT l = [97, 110, 121] ∧ liE l = 0 by simp [liT, liE, vl, nl])
    have L0 : (l == 1099511627776) = true := by simpa using l0
    clear vl nl l0
    go_enter Tryd.func14, Tryd.ntmps14
    go_wp2_with fail
    go_ret2
    exact ⟨ret_tx (by rw [H.out.1]) H.out.2.symm, Below.refl _ _⟩
  · have H := Lib.hid (show liT l = (if evB l then 60 :: Lib.itoa (l / 2) else 60 :: 61 :: Lib.itoa (l / 2)) ∧ liE l = 0 by simp [liT, liE, vl, nl])
    have L0 : (l == 1099511627776) = false := by simpa using l0
    have hS := fun W => limSplit_some W hl vl nl
    have hl2 := Lib.itoa_length_le (l / 2) (by omega) (by omega)
    obtain ⟨s, hs⟩ : ∃ s, s = evB l := ⟨_, rfl⟩
    obtain ⟨c, hc⟩ : ∃ c, c = l / 2 := ⟨_, rfl⟩
    have c1 : -9223372036854775808 ≤ c := by omega
    have c2 : c ≤ 9223372036854775807 := by omega
    rw [← hs, ← hc] at H hS
    rw [← hc] at hl2
    have p1 := fun W (hW : Fit W) => Tryd.strconv_FormatInt_10 c c1 c2 W hW.tab
    generalize Lib.itoa c = sn at *
    have HS := Lib.hid hS
    have P1 := Lib.hid p1
    have HF := Lib.hid hF
    have hl3 : (sn.length : Int) ≤ 21 := by omega
    clear vl nl l0 hs hc hS p1 hF
    cases s
    all_goals
      go_enter Tryd.func14, Tryd.ntmps14
      go_wp2_with fail
      refine (HS.out _).mono ?_
      rintro e w' ⟨rfl, rfl⟩
      go_wp2_with fail
      refine (P1.out _ HF.out).mono ?_
      rintro e w2 ⟨rfl, k, os, hw⟩
      have hB : Below w'.heap.size w' w2 := by rw [hw]; exact Lib.below_grow _ _ (Nat.le_refl _) k os
      clear hw
      go_wp2_with fail
      go_ret2
      refine ⟨ret_tx ?_ H.out.2.symm, hB⟩
      rw [H.out.1]
      first | exact cat60 sn | exact cat6061 sn

set_option maxHeartbeats 400000 in
theorem refLimText_any (l : Int) (w : World) (hl : I64 l) : Calls Tryd.prog 15 #[.int .i64 l] w (Made (.tuple #[.string ⟨(liT l).toArray⟩, .int .i64 (liE l)]) w) := by
  rcases lvB_cases l with ⟨vl, nl, l0, lr⟩ | ⟨l0, vl, nl⟩ | ⟨vl, nl, l0, l1, l2⟩
  · have H := Lib.hid (show liT l = [] ∧ liE l = 2 by simp [liT, liE, vl, nl])
    have VL := Lib.hid vl
    clear vl nl l0
    go_enter Tryd.func15, Tryd.ntmps15
    go_wp2_with fail
    refine (refSplit_bad _ hl VL.out).mono ?_
    rintro e w' ⟨rfl, rfl⟩
    go_wp2_with fail
    go_ret2
    exact ⟨ret_tx (by rw [H.out.1]) H.out.2.symm, Below.refl _ _⟩
  · have H := Lib.hid (show liT l = [97, 110, 121] ∧ liE l = 0 by simp [liT, liE, vl, nl])
    have VL := Lib.hid vl
    have NL := Lib.hid nl
    clear vl nl l0
    go_enter Tryd.func15, Tryd.ntmps15
    go_wp2_with fail
    refine (refSplit_none _ hl VL.out NL.out).mono ?_
    rintro e w' ⟨rfl, rfl⟩
    go_wp2_with fail
    go_ret2
    exact ⟨ret_tx (by rw [H.out.1]) H.out.2.symm, Below.refl _ _⟩
  · have H := Lib.hid (show liT l = (if evB l then 60 :: Lib.itoa (l / 2) else 60 :: 61 :: Lib.itoa (l / 2)) ∧ liE l = 0 by simp [liT, liE, vl, nl])
    have hS := fun W => refSplit_some W hl vl nl
    have hl2 := Lib.itoa_length_le (l / 2) (by omega) (by omega)
    obtain ⟨s, hs⟩ : ∃ s, s = evB l := ⟨_, rfl⟩
    obtain ⟨c, hc⟩ : ∃ c, c = l / 2 := ⟨_, rfl⟩
    have c1 : -2147483647 ≤ c := by omega
    have c2 : c ≤ 2147483647 := by omega
    rw [← hs, ← hc] at H hS
    rw [← hc] at hl2
    have p1 := fun W => refText_any c 1 W (by unfold I64; omega) (by unfold I64; omega)
    have v1 : vldB c 1 = true := by unfold vldB; simp; omega
    rw [show txt c 1 = Lib.itoa c by simp [txt, v1], show okErr (vldB c 1) = 0 by simp [okErr, v1]] at p1
    generalize Lib.itoa c = sn at *
    have HS := Lib.hid hS
    have P1 := Lib.hid p1
    have hl3 : (sn.length : Int) ≤ 21 := by omega
    clear vl nl l0 hs hc hS p1 v1
    cases s
    all_goals
      go_enter Tryd.func15, Tryd.ntmps15
      go_wp2_with fail
      refine (HS.out _).mono ?_
      rintro e w' ⟨rfl, rfl⟩
      go_wp2_with fail
      refine (P1.out _).mono ?_
      rintro e w2 ⟨rfl, hB⟩
      go_wp2_with fail
      go_ret2
      refine ⟨ret_tx ?_ H.out.2.symm, hB⟩
      rw [H.out.1]
      first | exact cat60 sn | exact cat6061 sn
end Go.Proofs.YtbcafamgmdngpaaDoor
