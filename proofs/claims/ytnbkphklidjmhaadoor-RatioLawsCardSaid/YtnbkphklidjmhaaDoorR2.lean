/- The contract of the reference's Make. -/
import Derived.Test.YtnbkphklidjmhaaDoorR
namespace Go.Proofs.YtnbkphklidjmhaaDoor
open Go.RowKit

set_option maxHeartbeats 400000 in
theorem refMake_zero (a b : Int) (w : World) (hb : b = 0) :
    Calls Tryd.prog 10 #[.int .i64 a, .int .i64 b] w (Made (.tuple #[.agg #[.int .i64 (mkNum a b), .int .i64 (mkDen a b)], .int .i64 (mkErr a b)]) w) := by
  subst hb
  have H := Lib.hid (show mkNum a 0 = 0 ∧ mkDen a 0 = 0 ∧ mkErr a 0 = 2 by simp [mkNum, mkDen, mkErr])
  go_enter Tryd.func10, Tryd.ntmps10
  go_wp2_with fail
  refine bodyPost_ret (v := .tuple #[.agg #[.int .i64 0, .int .i64 0], .int .i64 2]) (by simp [results, Tryd.results10, go_sem]) rfl ⟨?_, ?_⟩
  · rw [H.out.1, H.out.2.1, H.out.2.2]
  · exact (((Below.refl _ _).alloc (Nat.le_refl _) _))

set_option maxHeartbeats 800000 in
theorem refMake_some (a b : Int) (w : World) (a1 : -9223372036854775808 ≤ a) (a2 : a ≤ 9223372036854775807) (b1 : -9223372036854775808 ≤ b) (b2 : b ≤ 9223372036854775807) (h0 : b ≠ 0) :
    Calls Tryd.prog 10 #[.int .i64 a, .int .i64 b] w (Made (.tuple #[.agg #[.int .i64 (mkNum a b), .int .i64 (mkDen a b)], .int .i64 (mkErr a b)]) w) := by
  have B0 : ((b : Int) == 0) = false := by simpa using h0
  have k1 : a.natAbs < 18446744073709551616 := by omega
  have k2 : b.natAbs < 18446744073709551616 := by omega
  have gp : 0 < Nat.gcd a.natAbs b.natAbs := Nat.gcd_pos_of_pos_right _ (by omega)
  have gB : (((Nat.gcd a.natAbs b.natAbs : Nat) : Int) == 0) = false := by simp; omega
  have gl : Nat.gcd a.natAbs b.natAbs ≤ b.natAbs := Nat.gcd_le_right _ (by omega)
  go_enter Tryd.func10, Tryd.ntmps10
  go_wp2_with fail
  refine (size_any _ _ (by omega) (by omega)).mono ?_
  rintro e w' ⟨rfl, rfl⟩
  go_wp2_with fail
  refine (size_any _ _ (by omega) (by omega)).mono ?_
  rintro e w' ⟨rfl, rfl⟩
  go_wp2_with fail
  refine (divisor_any _ _ _ (by omega) (by omega)).mono ?_
  rintro e w1 ⟨rfl, n1, rfl⟩
  go_wp2_with fail
  go_quiet ((go_at_call 42; exact (size_any _ _ (by omega) (by omega)).mono (fun e w' h => ⟨h.1, _, h.2⟩)))
  rw [wrap_top a b k1, wrap_bot a b k2]
  by_cases f1 : 2147483647 < top a b
  · have HV := Lib.hid (mk_no a b h0 (Or.inl f1))
    go_wp2_with fail
    refine bodyPost_ret (v := .tuple #[.agg #[.int .i64 0, .int .i64 0], .int .i64 7]) (by simp [results, Tryd.results10, go_sem]) rfl ⟨?_, ?_⟩
    · rw [HV.out.1, HV.out.2.1, HV.out.2.2]
    · repeat (first | exact Below.refl _ _ | refine Below.alloc ?_ (by simp) _ | refine Below.setCell ?_ (by simp) _ | refine below_drewN ?_ _)
  by_cases f2 : 2147483647 < bot a b
  · have HV := Lib.hid (mk_no a b h0 (Or.inr f2))
    go_wp2_with fail
    refine bodyPost_ret (v := .tuple #[.agg #[.int .i64 0, .int .i64 0], .int .i64 7]) (by simp [results, Tryd.results10, go_sem]) rfl ⟨?_, ?_⟩
    · rw [HV.out.1, HV.out.2.1, HV.out.2.2]
    · repeat (first | exact Below.refl _ _ | refine Below.alloc ?_ (by simp) _ | refine Below.setCell ?_ (by simp) _ | refine below_drewN ?_ _)
  have hv := mk_yes a b h0 f1 f2
  by_cases s1 : a < 0
  · by_cases s2 : b < 0
    · have HV := Lib.hid (show mkNum a b = top a b ∧ mkDen a b = bot a b ∧ mkErr a b = 0 by simpa [s1, s2] using hv)
      clear hv
      go_wp2_with fail
      refine bodyPost_ret (v := .tuple #[.agg #[.int .i64 (top a b), .int .i64 (bot a b)], .int .i64 0]) (by simp [results, Tryd.results10, go_sem]) rfl ⟨?_, ?_⟩
      · rw [HV.out.1, HV.out.2.1, HV.out.2.2]
      · repeat (first | exact Below.refl _ _ | refine Below.alloc ?_ (by simp) _ | refine Below.setCell ?_ (by simp) _ | refine below_drewN ?_ _)
    · have HV := Lib.hid (show mkNum a b = -(top a b : Int) ∧ mkDen a b = bot a b ∧ mkErr a b = 0 by simpa [s1, s2] using hv)
      clear hv
      go_wp2_with fail
      refine bodyPost_ret (v := .tuple #[.agg #[.int .i64 (-(top a b : Int)), .int .i64 (bot a b)], .int .i64 0]) (by simp [results, Tryd.results10, go_sem]) rfl ⟨?_, ?_⟩
      · rw [HV.out.1, HV.out.2.1, HV.out.2.2]
      · repeat (first | exact Below.refl _ _ | refine Below.alloc ?_ (by simp) _ | refine Below.setCell ?_ (by simp) _ | refine below_drewN ?_ _)
  · by_cases s2 : b < 0
    · have HV := Lib.hid (show mkNum a b = -(top a b : Int) ∧ mkDen a b = bot a b ∧ mkErr a b = 0 by simpa [s1, s2] using hv)
      clear hv
      go_wp2_with fail
      refine bodyPost_ret (v := .tuple #[.agg #[.int .i64 (-(top a b : Int)), .int .i64 (bot a b)], .int .i64 0]) (by simp [results, Tryd.results10, go_sem]) rfl ⟨?_, ?_⟩
      · rw [HV.out.1, HV.out.2.1, HV.out.2.2]
      · repeat (first | exact Below.refl _ _ | refine Below.alloc ?_ (by simp) _ | refine Below.setCell ?_ (by simp) _ | refine below_drewN ?_ _)
    · have HV := Lib.hid (show mkNum a b = top a b ∧ mkDen a b = bot a b ∧ mkErr a b = 0 by simpa [s1, s2] using hv)
      clear hv
      go_wp2_with fail
      refine bodyPost_ret (v := .tuple #[.agg #[.int .i64 (top a b), .int .i64 (bot a b)], .int .i64 0]) (by simp [results, Tryd.results10, go_sem]) rfl ⟨?_, ?_⟩
      · rw [HV.out.1, HV.out.2.1, HV.out.2.2]
      · repeat (first | exact Below.refl _ _ | refine Below.alloc ?_ (by simp) _ | refine Below.setCell ?_ (by simp) _ | refine below_drewN ?_ _)

theorem refMake_any (a b : Int) (w : World) (a1 : -9223372036854775808 ≤ a) (a2 : a ≤ 9223372036854775807) (b1 : -9223372036854775808 ≤ b) (b2 : b ≤ 9223372036854775807) :
    Calls Tryd.prog 10 #[.int .i64 a, .int .i64 b] w (Made (.tuple #[.agg #[.int .i64 (mkNum a b), .int .i64 (mkDen a b)], .int .i64 (mkErr a b)]) w) := by
  by_cases h : b = 0
  · exact refMake_zero a b w h
  · exact refMake_some a b w a1 a2 b1 b2 h
end Go.Proofs.YtnbkphklidjmhaaDoor
