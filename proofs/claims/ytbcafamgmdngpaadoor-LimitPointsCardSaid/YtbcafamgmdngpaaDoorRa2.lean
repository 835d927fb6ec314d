/- Contracts of size, divisor, Valid and Make of the reference. -/
import Derived.Test.YtbcafamgmdngpaaDoorRa1
namespace Go.Proofs.YtbcafamgmdngpaaDoor
open Go.RowKit

theorem size_neg (n : Int) (h1 : -9223372036854775808 ≤ n) (h2 : n < 0) : IntKind.u64.wrap (IntKind.u64.wrap (-(n + 1)) + 1) = (n.natAbs : Int) := by
  simp [IntKind.wrap, IntKind.bits, IntKind.signed]
  omega

set_option maxHeartbeats 400000 in
theorem size_any (n : Int) (w : World) (h1 : -9223372036854775808 ≤ n) (h2 : n ≤ 9223372036854775807) :
    Calls Tryd.prog 37 #[.int .i64 n] w fun e w' => e = .returned (.int .u64 (n.natAbs : Int)) ∧ w' = w := by
  by_cases hn : n < 0
  · have H := Lib.hid (show -(n + 1) + 1 = (n.natAbs : Int) by omega)
    go_enter Tryd.func37, Tryd.ntmps37
    go_wp2
    go_ret
    exact ⟨ret_int H.out, rfl⟩
  · have H := Lib.hid (show (n : Int) = (n.natAbs : Int) by omega)
    go_enter Tryd.func37, Tryd.ntmps37
    go_wp2
    go_ret
    exact ⟨ret_int H.out, rfl⟩

set_option maxHeartbeats 400000 in
theorem divisor_any (a b : Nat) (w : World) (ha : a < 18446744073709551616) (hb : b < 18446744073709551616) :
    Calls Tryd.prog 36 #[.int .u64 a, .int .u64 b] w (Drawn (.int .u64 (Nat.gcd a b)) w) := by
  go_enter Tryd.func36, Tryd.ntmps36
  go_wp2
  go_loopw [0, 1] (fun x y wr => ∃ p q n : Nat, p < 18446744073709551616 ∧ q < 18446744073709551616 ∧ x = .int .u64 p ∧ y = .int .u64 q ∧ Hid (Nat.gcd p q = Nat.gcd a b) ∧ Hid (wr = w.drewN n)) (fun _ y _ => (intOf y).toNat)
  case atStart => exact ⟨a, b, 0, ha, hb, rfl, rfl, Lib.hid rfl, Lib.hid rfl⟩
  case round =>
    obtain ⟨p, q, n, hp, hq, rfl, rfl, hg, hw⟩ := hrel
    by_cases hz : q = 0
    · subst hz
      go_wp2
      go_ret
      exact ⟨ret_int (by have := hg.out; simp at this; simpa using congrArg (fun k : Nat => (k : Int)) this), n, hw.out⟩
    · have Hz : ((q : Int) == 0) = false := by simpa using hz
      have Hz2 : ((q : Int) != 0) = true := by simpa using hz
      go_wp2
      go_quiet (fail)
      go_wp2
      go_roundw
      case rel => exact ⟨q, p % q, n + nq, hq, Nat.lt_of_lt_of_le (Nat.mod_lt _ (Nat.pos_of_ne_zero hz)) (by omega), rfl, rfl, Lib.hid (by rw [← hg.out, Nat.gcd_comm p q, Nat.gcd_rec q p, Nat.gcd_comm]), Lib.hid (by rw [hw.out, World.drewN_drewN])⟩
      case measure => have := Nat.mod_lt p (Nat.pos_of_ne_zero hz); simp [intOf]; omega

set_option maxHeartbeats 400000 in
theorem refValid_any (n d : Int) (w : World) (n1 : -9223372036854775808 ≤ n) (n2 : n ≤ 9223372036854775807) (d1 : -9223372036854775808 ≤ d) (d2 : d ≤ 9223372036854775807) :
    Calls Tryd.prog 25 #[.agg #[.int .i64 n, .int .i64 d]] w (Made (.bool (vldB n d)) w) := by
  by_cases h1 : d < 1
  · have H := Lib.hid (vld_no (n := n) (d := d) (Or.inl h1))
    have D : decide ((1 : Int) ≤ d) = false := by simp; omega
    go_enter Tryd.func25, Tryd.ntmps25
    go_wp2_with fail
    go_quiet (fail)
    go_wp2_with fail
    go_ret
    exact ⟨ret_bool (by rw [H.out]), below_drewN ((Below.refl _ _).alloc (Nat.le_refl _) _) _⟩
  by_cases h2 : 2147483647 < d
  · have H := Lib.hid (vld_no (n := n) (d := d) (Or.inr (Or.inl h2)))
    have D : decide (d ≤ (2147483647 : Int)) = false := by simp; omega
    go_enter Tryd.func25, Tryd.ntmps25
    go_wp2_with fail
    go_quiet (fail)
    go_wp2_with fail
    go_ret
    exact ⟨ret_bool (by rw [H.out]), below_drewN ((Below.refl _ _).alloc (Nat.le_refl _) _) _⟩
  by_cases h3 : n < -2147483647
  · have H := Lib.hid (vld_no (n := n) (d := d) (Or.inr (Or.inr (Or.inl h3))))
    have D : decide ((-2147483647 : Int) ≤ n) = false := by simp; omega
    go_enter Tryd.func25, Tryd.ntmps25
    go_wp2_with fail
    go_quiet (fail)
    go_wp2_with fail
    go_ret
    exact ⟨ret_bool (by rw [H.out]), below_drewN ((Below.refl _ _).alloc (Nat.le_refl _) _) _⟩
  by_cases h4 : 2147483647 < n
  · have H := Lib.hid (vld_no (n := n) (d := d) (Or.inr (Or.inr (Or.inr h4))))
    have D : decide (n ≤ (2147483647 : Int)) = false := by simp; omega
    go_enter Tryd.func25, Tryd.ntmps25
    go_wp2_with fail
    go_quiet (fail)
    go_wp2_with fail
    go_ret
    exact ⟨ret_bool (by rw [H.out]), below_drewN ((Below.refl _ _).alloc (Nat.le_refl _) _) _⟩
  have H := Lib.hid (vld_yes (n := n) (d := d) (by omega) (by omega) (by omega) (by omega))
  have k1 : n.natAbs < 18446744073709551616 := by omega
  have k2 : d.natAbs < 18446744073709551616 := by omega
  go_enter Tryd.func25, Tryd.ntmps25
  go_wp2_with fail
  go_quiet (first | (go_at_call 37; exact Calls.quiet_of_same (size_any _ _ (by omega) (by omega))) | (go_at_call 36; exact Calls.quiet_of (divisor_any _ _ _ (by omega) (by omega))))
  go_wp2_with fail
  go_ret
  exact ⟨ret_bool (by rw [H.out]), below_drewN ((Below.refl _ _).alloc (Nat.le_refl _) _) _⟩

set_option maxHeartbeats 400000 in
theorem refMake_zero (a b : Int) (w : World) (hb : b = 0) :
    Calls Tryd.prog 38 #[.int .i64 a, .int .i64 b] w (Made (.tuple #[.agg #[.int .i64 (mkNum a b), .int .i64 (mkDen a b)], .int .i64 (mkErr a b)]) w) := by
  subst hb
  have H := Lib.hid (show mkNum a 0 = 0 ∧ mkDen a 0 = 0 ∧ mkErr a 0 = 2 by simp [mkNum, mkDen, mkErr])
  go_enter Tryd.func38, Tryd.ntmps38
  go_wp2_with fail
  refine bodyPost_ret (v := .tuple #[.agg #[.int .i64 0, .int .i64 0], .int .i64 2]) (by simp [results, Tryd.results38, go_sem]) rfl ⟨?_, ?_⟩
  · rw [H.out.1, H.out.2.1, H.out.2.2]
  · exact (((Below.refl _ _).alloc (Nat.le_refl _) _))

set_option maxHeartbeats 800000 in
theorem refMake_some (a b : Int) (w : World) (a1 : -9223372036854775808 ≤ a) (a2 : a ≤ 9223372036854775807) (b1 : -9223372036854775808 ≤ b) (b2 : b ≤ 9223372036854775807) (h0 : b ≠ 0) :
    Calls Tryd.prog 38 #[.int .i64 a, .int .i64 b] w (Made (.tuple #[.agg #[.int .i64 (mkNum a b), .int .i64 (mkDen a b)], .int .i64 (mkErr a b)]) w) := by
  have B0 : ((b : Int) == 0) = false := by simpa using h0
  have k1 : a.natAbs < 18446744073709551616 := by omega
  have k2 : b.natAbs < 18446744073709551616 := by omega
  have gp : 0 < Nat.gcd a.natAbs b.natAbs := Nat.gcd_pos_of_pos_right _ (by omega)
  have gB : (((Nat.gcd a.natAbs b.natAbs : Nat) : Int) == 0) = false := by simp; omega
  have gl : Nat.gcd a.natAbs b.natAbs ≤ b.natAbs := Nat.gcd_le_right _ (by omega)
  go_enter Tryd.func38, Tryd.ntmps38
  go_wp2_with fail
  refine (size_any _ _ (by omega) (by omega)).mono ?_
  rintro e w' ⟨rfl, rfl⟩
  go_wp2_with fail
  refine (size_any _ _ (by omega) (by omega)).mono ?_
  rintro e w' ⟨rfl, rfl⟩
  go_wp2_with fail
  refine (divisor_any _ _ _ (by omega) (by omega)).mono ?_
  rintro e w1 ⟨rfl, n1, rfl⟩
  go_wp2_with fail
  go_quiet ((go_at_call 37; exact (size_any _ _ (by omega) (by omega)).mono (fun e w' h => ⟨h.1, _, h.2⟩)))
  rw [wrap_top a b k1, wrap_bot a b k2]
  by_cases f1 : 2147483647 < top a b
  · have HV := Lib.hid (mk_no a b h0 (Or.inl f1))
    go_wp2_with fail
    refine bodyPost_ret (v := .tuple #[.agg #[.int .i64 0, .int .i64 0], .int .i64 7]) (by simp [results, Tryd.results38, go_sem]) rfl ⟨?_, ?_⟩
    · rw [HV.out.1, HV.out.2.1, HV.out.2.2]
    · repeat (first | exact Below.refl _ _ | refine Below.alloc ?_ (by simp) _ | refine Below.setCell ?_ (by simp) _ | refine below_drewN ?_ _)
  by_cases f2 : 2147483647 < bot a b
  · have HV := Lib.hid (mk_no a b h0 (Or.inr f2))
    go_wp2_with fail
    refine bodyPost_ret (v := .tuple #[.agg #[.int .i64 0, .int .i64 0], .int .i64 7]) (by simp [results, Tryd.results38, go_sem]) rfl ⟨?_, ?_⟩
    · rw [HV.out.1, HV.out.2.1, HV.out.2.2]
    · repeat (first | exact Below.refl _ _ | refine Below.alloc ?_ (by simp) _ | refine Below.setCell ?_ (by simp) _ | refine below_drewN ?_ _)
  have hv := mk_yes a b h0 f1 f2
  by_cases s1 : a < 0
  · by_cases s2 : b < 0
    · have HV := Lib.hid (show mkNum a b = top a b ∧ mkDen a b = bot a b ∧ mkErr a b = 0 by simpa [s1, s2] using hv)
      clear hv
      go_wp2_with fail
      refine bodyPost_ret (v := .tuple #[.agg #[.int .i64 (top a b), .int .i64 (bot a b)], .int .i64 0]) (by simp [results, Tryd.results38, go_sem]) rfl ⟨?_, ?_⟩
      · rw [HV.out.1, HV.out.2.1, HV.out.2.2]
      · repeat (first | exact Below.refl _ _ | refine Below.alloc ?_ (by simp) _ | refine Below.setCell ?_ (by simp) _ | refine below_drewN ?_ _)
    · have HV := Lib.hid (show mkNum a b = -(top a b : Int) ∧ mkDen a b = bot a b ∧ mkErr a b = 0 by simpa [s1, s2] using hv)
      clear hv
      go_wp2_with fail
      refine bodyPost_ret (v := .tuple #[.agg #[.int .i64 (-(top a b : Int)), .int .i64 (bot a b)], .int .i64 0]) (by simp [results, Tryd.results38, go_sem]) rfl ⟨?_, ?_⟩
      · rw [HV.out.1, HV.out.2.1, HV.out.2.2]
      · repeat (first | exact Below.refl _ _ | refine Below.alloc ?_ (by simp) _ | refine Below.setCell ?_ (by simp) _ | refine below_drewN ?_ _)
  · by_cases s2 : b < 0
    · have HV := Lib.hid (show mkNum a b = -(top a b : Int) ∧ mkDen a b = bot a b ∧ mkErr a b = 0 by simpa [s1, s2] using hv)
      clear hv
      go_wp2_with fail
      refine bodyPost_ret (v := .tuple #[.agg #[.int .i64 (-(top a b : Int)), .int .i64 (bot a b)], .int .i64 0]) (by simp [results, Tryd.results38, go_sem]) rfl ⟨?_, ?_⟩
      · rw [HV.out.1, HV.out.2.1, HV.out.2.2]
      · repeat (first | exact Below.refl _ _ | refine Below.alloc ?_ (by simp) _ | refine Below.setCell ?_ (by simp) _ | refine below_drewN ?_ _)
    · have HV := Lib.hid (show mkNum a b = top a b ∧ mkDen a b = bot a b ∧ mkErr a b = 0 by simpa [s1, s2] using hv)
      clear hv
      go_wp2_with fail
      refine bodyPost_ret (v := .tuple #[.agg #[.int .i64 (top a b), .int .i64 (bot a b)], .int .i64 0]) (by simp [results, Tryd.results38, go_sem]) rfl ⟨?_, ?_⟩
      · rw [HV.out.1, HV.out.2.1, HV.out.2.2]
      · repeat (first | exact Below.refl _ _ | refine Below.alloc ?_ (by simp) _ | refine Below.setCell ?_ (by simp) _ | refine below_drewN ?_ _)

theorem refMake_any (a b : Int) (w : World) (a1 : -9223372036854775808 ≤ a) (a2 : a ≤ 9223372036854775807) (b1 : -9223372036854775808 ≤ b) (b2 : b ≤ 9223372036854775807) :
    Calls Tryd.prog 38 #[.int .i64 a, .int .i64 b] w (Made (.tuple #[.agg #[.int .i64 (mkNum a b), .int .i64 (mkDen a b)], .int .i64 (mkErr a b)]) w) := by
  by_cases h : b = 0
  · exact refMake_zero a b w h
  · exact refMake_some a b w a1 a2 b1 b2 h

theorem refValid_as {n d : Int} {b : Bool} (w : World) (hn : I64 n) (hd : I64 d) (h : vldB n d = b) : Calls Tryd.prog 25 #[.agg #[.int .i64 n, .int .i64 d]] w (Made (.bool b) w) := by
  rw [← h]; exact refValid_any n d w hn.1 hn.2 hd.1 hd.2
end Go.Proofs.YtbcafamgmdngpaaDoor
