/- The contract of ratio.Make. -/
import Derived.Test.YtnbkphklidjmhaaDoorA
import Derived.Test.YtnbkphklidjmhaaDoorMath
namespace Go.Proofs.YtnbkphklidjmhaaDoor
open Go.RowKit

set_option maxHeartbeats 400000 in
theorem make_zero (a b : Int) (w : World) (hb : b = 0) :
    Calls Tryd.prog 9 #[.int .i64 a, .int .i64 b] w (Made (.tuple #[.agg #[.int .i64 (mkNum a b), .int .i64 (mkDen a b)], .int .i64 (mkErr a b)]) w) := by
  subst hb
  have H := Lib.hid (show mkNum a 0 = 0 ∧ mkDen a 0 = 0 ∧ mkErr a 0 = 2 by simp [mkNum, mkDen, mkErr])
  go_enter Tryd.func9, Tryd.ntmps9
  go_wp2_with fail
  refine bodyPost_ret (v := .tuple #[.agg #[.int .i64 0, .int .i64 0], .int .i64 2]) (by simp [results, Tryd.results9, go_sem]) rfl ⟨?_, ?_⟩
  · rw [H.out.1, H.out.2.1, H.out.2.2]
  · exact (((Below.refl _ _).alloc (Nat.le_refl _) _))

theorem wrap_top (a b : Int) (h : a.natAbs < 18446744073709551616) : IntKind.u64.wrap ((a.natAbs : Int) / ((Nat.gcd a.natAbs b.natAbs : Nat) : Int)) = ((top a b : Nat) : Int) := by
  have h1 := top_le a b
  have h2 : (a.natAbs : Int) / ((Nat.gcd a.natAbs b.natAbs : Nat) : Int) = ((top a b : Nat) : Int) := by unfold top; simp
  rw [h2]
  simp [IntKind.wrap, IntKind.bits, IntKind.signed]
  omega
theorem wrap_bot (a b : Int) (h : b.natAbs < 18446744073709551616) : IntKind.u64.wrap ((b.natAbs : Int) / ((Nat.gcd a.natAbs b.natAbs : Nat) : Int)) = ((bot a b : Nat) : Int) := by
  have h1 := bot_le a b
  have h2 : (b.natAbs : Int) / ((Nat.gcd a.natAbs b.natAbs : Nat) : Int) = ((bot a b : Nat) : Int) := by unfold bot; simp
  rw [h2]
  simp [IntKind.wrap, IntKind.bits, IntKind.signed]
  omega

theorem mk_no (a b : Int) (h0 : b ≠ 0) (h : 2147483647 < top a b ∨ 2147483647 < bot a b) : mkNum a b = 0 ∧ mkDen a b = 0 ∧ mkErr a b = 7 := by
  have hf : fits a b = false := by unfold fits; simp; omega
  simp [mkNum, mkDen, mkErr, h0, hf]
theorem mk_yes (a b : Int) (h0 : b ≠ 0) (h1 : ¬ 2147483647 < top a b) (h2 : ¬ 2147483647 < bot a b) : mkNum a b = (if (decide (a < 0) != decide (b < 0)) then -(top a b : Int) else top a b) ∧ mkDen a b = bot a b ∧ mkErr a b = 0 := by
  have hf : fits a b = true := by unfold fits; simp; omega
  simp [mkNum, mkDen, mkErr, h0, hf]
theorem two_below {w w1 : World} (hb : Below w.heap.size w w1) (n : Nat) (x y : Value) : Below w.heap.size w (((w1.drewN n).setCell ⟨w.heap.size, 0, none⟩ x).setCell ⟨w.heap.size, 1, none⟩ y) :=
  ((below_drewN hb n).setCell (Nat.le_refl _) x).setCell (Nat.le_refl _) y
theorem past_one {w w1 : World} {o : Obj} (hb : Below (w.alloc o).heap.size (w.alloc o) w1) : Below w.heap.size w w1 :=
  ((Below.refl _ _).alloc (Nat.le_refl _) o).trans (hb.mono (by simp))

set_option maxHeartbeats 400000 in
theorem make_some (a b : Int) (w : World) (a1 : -9223372036854775808 ≤ a) (a2 : a ≤ 9223372036854775807) (b1 : -9223372036854775808 ≤ b) (b2 : b ≤ 9223372036854775807) (h0 : b ≠ 0) :
    Calls Tryd.prog 9 #[.int .i64 a, .int .i64 b] w (Made (.tuple #[.agg #[.int .i64 (mkNum a b), .int .i64 (mkDen a b)], .int .i64 (mkErr a b)]) w) := by
  have B0 : ((b : Int) == 0) = false := by simpa using h0
  have k1 : a.natAbs < 18446744073709551616 := by omega
  have k2 : b.natAbs < 18446744073709551616 := by omega
  have gp : 0 < Nat.gcd a.natAbs b.natAbs := Nat.gcd_pos_of_pos_right _ (by omega)
  have gB : (((Nat.gcd a.natAbs b.natAbs : Nat) : Int) == 0) = false := by simp; omega
  have gl : Nat.gcd a.natAbs b.natAbs ≤ b.natAbs := Nat.gcd_le_right _ (by omega)
  go_enter Tryd.func9, Tryd.ntmps9
  go_wp2_with fail
  refine (magnitude_any _ _ (by omega) (by omega)).mono ?_
  rintro e w' ⟨rfl, rfl⟩
  go_wp2_with fail
  refine (magnitude_any _ _ (by omega) (by omega)).mono ?_
  rintro e w' ⟨rfl, rfl⟩
  go_wp2_with fail
  refine (commonDivisor_any _ _ _ (by omega) (by omega)).mono ?_
  rintro e w1 ⟨rfl, hb⟩
  obtain ⟨hc, hf⟩ := bcell hb
  go_wp2_with fail
  go_quiet (fail)
  rw [wrap_top a b k1, wrap_bot a b k2]
  by_cases f1 : 2147483647 < top a b
  · have HV := Lib.hid (mk_no a b h0 (Or.inl f1))
    go_wp2_with fail
    refine bodyPost_ret (v := .tuple #[.agg #[.int .i64 0, .int .i64 0], .int .i64 7]) (by simp [results, Tryd.results9, go_sem, hc]) rfl ⟨?_, two_below (past_one hb) _ _ _⟩
    rw [HV.out.1, HV.out.2.1, HV.out.2.2]
  by_cases f2 : 2147483647 < bot a b
  · have HV := Lib.hid (mk_no a b h0 (Or.inr f2))
    go_wp2_with fail
    refine bodyPost_ret (v := .tuple #[.agg #[.int .i64 0, .int .i64 0], .int .i64 7]) (by simp [results, Tryd.results9, go_sem, hc]) rfl ⟨?_, two_below (past_one hb) _ _ _⟩
    rw [HV.out.1, HV.out.2.1, HV.out.2.2]
  have hv := mk_yes a b h0 f1 f2
  by_cases s1 : a < 0
  · by_cases s2 : b < 0
    · have HV := Lib.hid (show mkNum a b = top a b ∧ mkDen a b = bot a b ∧ mkErr a b = 0 by simpa [s1, s2] using hv)
      clear hv
      go_wp2_with fail
      refine bodyPost_ret (v := .tuple #[.agg #[.int .i64 (top a b), .int .i64 (bot a b)], .int .i64 0]) (by simp [results, Tryd.results9, go_sem, hc]) rfl ⟨?_, two_below (past_one hb) _ _ _⟩
      rw [HV.out.1, HV.out.2.1, HV.out.2.2]
    · have HV := Lib.hid (show mkNum a b = -(top a b : Int) ∧ mkDen a b = bot a b ∧ mkErr a b = 0 by simpa [s1, s2] using hv)
      clear hv
      go_wp2_with fail
      refine bodyPost_ret (v := .tuple #[.agg #[.int .i64 (-(top a b : Int)), .int .i64 (bot a b)], .int .i64 0]) (by simp [results, Tryd.results9, go_sem, hc]) rfl ⟨?_, two_below (past_one hb) _ _ _⟩
      rw [HV.out.1, HV.out.2.1, HV.out.2.2]
  · by_cases s2 : b < 0
    · have HV := Lib.hid (show mkNum a b = -(top a b : Int) ∧ mkDen a b = bot a b ∧ mkErr a b = 0 by simpa [s1, s2] using hv)
      clear hv
      go_wp2_with fail
      refine bodyPost_ret (v := .tuple #[.agg #[.int .i64 (-(top a b : Int)), .int .i64 (bot a b)], .int .i64 0]) (by simp [results, Tryd.results9, go_sem, hc]) rfl ⟨?_, two_below (past_one hb) _ _ _⟩
      rw [HV.out.1, HV.out.2.1, HV.out.2.2]
    · have HV := Lib.hid (show mkNum a b = top a b ∧ mkDen a b = bot a b ∧ mkErr a b = 0 by simpa [s1, s2] using hv)
      clear hv
      go_wp2_with fail
      refine bodyPost_ret (v := .tuple #[.agg #[.int .i64 (top a b), .int .i64 (bot a b)], .int .i64 0]) (by simp [results, Tryd.results9, go_sem, hc]) rfl ⟨?_, two_below (past_one hb) _ _ _⟩
      rw [HV.out.1, HV.out.2.1, HV.out.2.2]

theorem make_any (a b : Int) (w : World) (a1 : -9223372036854775808 ≤ a) (a2 : a ≤ 9223372036854775807) (b1 : -9223372036854775808 ≤ b) (b2 : b ≤ 9223372036854775807) :
    Calls Tryd.prog 9 #[.int .i64 a, .int .i64 b] w (Made (.tuple #[.agg #[.int .i64 (mkNum a b), .int .i64 (mkDen a b)], .int .i64 (mkErr a b)]) w) := by
  by_cases h : b = 0
  · exact make_zero a b w h
  · exact make_some a b w a1 a2 b1 b2 h
end Go.Proofs.YtnbkphklidjmhaaDoor
