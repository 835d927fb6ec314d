/- Contracts of magnitude, commonDivisor, Valid and Make of package ratio. -/
import Derived.Test.YtbcafamgmdngpaaDoorBase
import Derived.Test.YtbcafamgmdngpaaDoorRaMath
namespace Go.Proofs.YtbcafamgmdngpaaDoor
open Go.RowKit

theorem neg_mag (n : Int) (h1 : -9223372036854775808 ≤ n) (h2 : n < 0) : IntKind.u64.wrap (-IntKind.u64.wrap n) = (n.natAbs : Int) := by
  simp [IntKind.wrap, IntKind.bits, IntKind.signed]
  omega

set_option maxHeartbeats 400000 in
theorem magnitude_any (n : Int) (w : World) (h1 : -9223372036854775808 ≤ n) (h2 : n ≤ 9223372036854775807) :
    Calls Tryd.prog 42 #[.int .i64 n] w fun e w' => e = .returned (.int .u64 (n.natAbs : Int)) ∧ w = w' := by
  by_cases hn : n < 0
  · have H := Lib.hid (neg_mag n h1 hn)
    go_enter Tryd.func42, Tryd.ntmps42
    go_wp2
    go_ret
    exact ⟨ret_int H.out, rfl⟩
  · have H := Lib.hid (show (n : Int) = (n.natAbs : Int) by omega)
    go_enter Tryd.func42, Tryd.ntmps42
    go_wp2
    go_ret
    exact ⟨ret_int H.out, rfl⟩

set_option maxHeartbeats 400000 in
theorem divide_any (k : Nat) : ∀ (a b : Nat) (p : Addr) (w : World), b ≤ k → a < 18446744073709551616 → b < 18446744073709551616 →
    w.cell? p = some (.func (.func 49) #[] #[.pointer (some p)]) →
    Calls Tryd.prog 49 #[.int .u64 a, .int .u64 b, .pointer (some p)] w (Drawn (.int .u64 (Nat.gcd a b)) w) := by
  induction k with
  | zero =>
    intro a b p w hb ha hb2 hc
    obtain rfl : b = 0 := by omega
    go_enter Tryd.func49, Tryd.ntmps49
    go_wp2_with fail
    go_ret
    exact ⟨ret_int (by simp), 0, rfl⟩
  | succ k ih =>
    intro a b p w hb ha hb2 hc
    by_cases h0 : b = 0
    · subst h0
      go_enter Tryd.func49, Tryd.ntmps49
      go_wp2_with fail
      go_ret
      exact ⟨ret_int (by simp), 0, rfl⟩
    · have H0 : ((b : Int) == 0) = false := by simpa using h0
      have IH := Lib.hid ih
      clear ih
      have G := Lib.hid (Nat.gcd_rec b a)
      go_enter Tryd.func49, Tryd.ntmps49
      go_wp2_with fail
      go_quiet ((go_at_call 49; refine Calls.quiet_of (IH.out b (a % b) p _ (by have := Nat.mod_lt a (Nat.pos_of_ne_zero h0); omega) hb2 (by have := Nat.mod_lt a (Nat.pos_of_ne_zero h0); omega) ?_); simpa using hc))
      go_wp2_with fail
      go_ret
      exact ⟨ret_int (by rw [Nat.gcd_comm a b, Nat.gcd_rec b a, Nat.gcd_comm]), _, rfl⟩

set_option maxHeartbeats 400000 in
theorem commonDivisor_any (a b : Nat) (w : World) (ha : a < 18446744073709551616) (hb : b < 18446744073709551616) :
    Calls Tryd.prog 41 #[.int .u64 a, .int .u64 b] w (Made (.int .u64 (Nat.gcd a b)) w) := by
  go_enter Tryd.func41, Tryd.ntmps41
  go_wp2_with fail
  refine (divide_any b a b _ _ (Nat.le_refl _) ha hb ?_).mono ?_
  · go_simp
  rintro e w' ⟨rfl, n, rfl⟩
  go_wp2_with fail
  go_ret
  exact ⟨rfl, below_drewN ((Below.refl _ _).alloc (Nat.le_refl _) _) n⟩

def vldB (n d : Int) : Bool := decide (1 ≤ d ∧ d ≤ 2147483647 ∧ -2147483647 ≤ n ∧ n ≤ 2147483647 ∧ Nat.gcd n.natAbs d.natAbs = 1)

theorem vld_no {n d : Int} (h : d < 1 ∨ 2147483647 < d ∨ n < -2147483647 ∨ 2147483647 < n) : vldB n d = false := by
  unfold vldB; simp; omega

theorem vld_yes {n d : Int} (h1 : 1 ≤ d) (h2 : d ≤ 2147483647) (h3 : -2147483647 ≤ n) (h4 : n ≤ 2147483647) : vldB n d = (((Nat.gcd n.natAbs d.natAbs : Nat) : Int) == 1) := by
  unfold vldB; rw [Bool.eq_iff_iff]; simp; omega

set_option maxHeartbeats 400000 in
theorem valid_any (n d : Int) (w : World) (n1 : -9223372036854775808 ≤ n) (n2 : n ≤ 9223372036854775807) (d1 : -9223372036854775808 ≤ d) (d2 : d ≤ 9223372036854775807) :
    Calls Tryd.prog 33 #[.agg #[.int .i64 n, .int .i64 d]] w (Made (.bool (vldB n d)) w) := by
  by_cases h1 : d < 1
  · have H := Lib.hid (vld_no (n := n) (Or.inl h1))
    go_enter Tryd.func33, Tryd.ntmps33
    go_wp2_with fail
    go_ret
    exact ⟨ret_bool (by rw [H.out]), (Below.refl _ _).alloc (Nat.le_refl _) _⟩
  by_cases h2 : 2147483647 < d
  · have H := Lib.hid (vld_no (n := n) (Or.inr (Or.inl h2)))
    go_enter Tryd.func33, Tryd.ntmps33
    go_wp2_with fail
    go_ret
    exact ⟨ret_bool (by rw [H.out]), (Below.refl _ _).alloc (Nat.le_refl _) _⟩
  by_cases h3 : n < -2147483647
  · have H := Lib.hid (vld_no (d := d) (Or.inr (Or.inr (Or.inl h3))))
    go_enter Tryd.func33, Tryd.ntmps33
    go_wp2_with fail
    go_ret
    exact ⟨ret_bool (by rw [H.out]), (Below.refl _ _).alloc (Nat.le_refl _) _⟩
  by_cases h4 : 2147483647 < n
  · have H := Lib.hid (vld_no (d := d) (Or.inr (Or.inr (Or.inr h4))))
    go_enter Tryd.func33, Tryd.ntmps33
    go_wp2_with fail
    go_ret
    exact ⟨ret_bool (by rw [H.out]), (Below.refl _ _).alloc (Nat.le_refl _) _⟩
  have H := Lib.hid (vld_yes (n := n) (d := d) (by omega) (by omega) (by omega) (by omega))
  have k1 : n.natAbs < 18446744073709551616 := by omega
  have k2 : d.natAbs < 18446744073709551616 := by omega
  go_enter Tryd.func33, Tryd.ntmps33
  go_wp2_with fail
  go_region_held3 (fun w' => w'.cell? ⟨w.heap.size, 0, none⟩ = some (.int .i64 n) ∧ w'.cell? ⟨w.heap.size, 1, none⟩ = some (.int .i64 d)) (first | go_keep)
    (first | (go_at_call 42; refine (magnitude_any _ _ (by omega) (by omega)).mono ?_; rintro e w' ⟨rfl, rfl⟩) | (go_at_call 41; refine (commonDivisor_any _ _ _ (by omega) (by omega)).mono ?_; rintro e w' ⟨rfl, hb⟩; obtain ⟨hc, hf⟩ := bcell hb))
  clear hc hf
  go_wp2_with fail
  go_ret
  exact ⟨ret_bool (by rw [H.out]), (((Below.refl _ _).alloc (Nat.le_refl _) _).drew).trans (hb.mono (by simp [go_sem]))⟩

set_option maxHeartbeats 400000 in
theorem make_zero (a b : Int) (w : World) (hb : b = 0) :
    Calls Tryd.prog 43 #[.int .i64 a, .int .i64 b] w (Made (.tuple #[.agg #[.int .i64 (mkNum a b), .int .i64 (mkDen a b)], .int .i64 (mkErr a b)]) w) := by
  subst hb
  have H := Lib.hid (show mkNum a 0 = 0 ∧ mkDen a 0 = 0 ∧ mkErr a 0 = 2 by simp [mkNum, mkDen, mkErr])
  go_enter Tryd.func43, Tryd.ntmps43
  go_wp2_with fail
  refine bodyPost_ret (v := .tuple #[.agg #[.int .i64 0, .int .i64 0], .int .i64 2]) (by simp [results, Tryd.results43, go_sem]) rfl ⟨?_, ?_⟩
  · rw [H.out.1, H.out.2.1, H.out.2.2]
  · exact (((Below.refl _ _).alloc (Nat.le_refl _) _))

theorem wrap_top (a b : Int) (h : a.natAbs < 18446744073709551616) : IntKind.u64.wrap ((a.natAbs : Int) / ((Nat.gcd a.natAbs b.natAbs : Nat) : Int)) = ((top a b : Nat) : Int) := by
  have h1 := top_le a b
  have h2 : (a.natAbs : Int) / ((Nat.gcd a.natAbs b.natAbs : Nat) : Int) = ((top a b : Nat) : Int) := by unfold top; simp
  rw [h2]
  simp [IntKind.wrap, IntKind.bits, IntKind.signed]
  omega

theorem wrap_bot (a b : Int) (h : b.natAbs < 18446744073709551616) : IntKind.u64.wrap ((b.natAbs : Int) / ((Nat.gcd a.natAbs b.natAbs : Nat) : Int)) = ((bot a b : Nat) : Int) := by
  have h1 := bot_le a b
  have h2 : (b.natAbs : Int) / ((Nat.gcd a.natAbs b.natAbs : Nat) : Int) = ((bot a b : Nat) : Int) := by unfold bot; simp
  rw [h2]
  simp [IntKind.wrap, IntKind.bits, IntKind.signed]
  omega

theorem mk_no (a b : Int) (h0 : b ≠ 0) (h : 2147483647 < top a b ∨ 2147483647 < bot a b) : mkNum a b = 0 ∧ mkDen a b = 0 ∧ mkErr a b = 7 := by
  have hf : fits a b = false := by unfold fits; simp; omega
  simp [mkNum, mkDen, mkErr, h0, hf]

theorem mk_yes (a b : Int) (h0 : b ≠ 0) (h1 : ¬ 2147483647 < top a b) (h2 : ¬ 2147483647 < bot a b) : mkNum a b = (if (decide (a < 0) != decide (b < 0)) then -(top a b : Int) else top a b) ∧ mkDen a b = bot a b ∧ mkErr a b = 0 := by
  have hf : fits a b = true := by unfold fits; simp; omega
  simp [mkNum, mkDen, mkErr, h0, hf]

set_option maxHeartbeats 400000 in
theorem make_some (a b : Int) (w : World) (a1 : -9223372036854775808 ≤ a) (a2 : a ≤ 9223372036854775807) (b1 : -9223372036854775808 ≤ b) (b2 : b ≤ 9223372036854775807) (h0 : b ≠ 0) :
    Calls Tryd.prog 43 #[.int .i64 a, .int .i64 b] w (Made (.tuple #[.agg #[.int .i64 (mkNum a b), .int .i64 (mkDen a b)], .int .i64 (mkErr a b)]) w) := by
  have B0 : ((b : Int) == 0) = false := by simpa using h0
  have k1 : a.natAbs < 18446744073709551616 := by omega
  have k2 : b.natAbs < 18446744073709551616 := by omega
  have gp : 0 < Nat.gcd a.natAbs b.natAbs := Nat.gcd_pos_of_pos_right _ (by omega)
  have gB : (((Nat.gcd a.natAbs b.natAbs : Nat) : Int) == 0) = false := by simp; omega
  have gl : Nat.gcd a.natAbs b.natAbs ≤ b.natAbs := Nat.gcd_le_right _ (by omega)
  go_enter Tryd.func43, Tryd.ntmps43
  go_wp2_with fail
  refine (magnitude_any _ _ (by omega) (by omega)).mono ?_
  rintro e w' ⟨rfl, rfl⟩
  go_wp2_with fail
  refine (magnitude_any _ _ (by omega) (by omega)).mono ?_
  rintro e w' ⟨rfl, rfl⟩
  go_wp2_with fail
  refine (commonDivisor_any _ _ _ (by omega) (by omega)).mono ?_
  rintro e w1 ⟨rfl, hb⟩
  obtain ⟨hc, hf⟩ := bcell hb
  go_wp2_with fail
  go_quiet (fail)
  rw [wrap_top a b k1, wrap_bot a b k2]
  by_cases f1 : 2147483647 < top a b
  · have HV := Lib.hid (mk_no a b h0 (Or.inl f1))
    go_wp2_with fail
    refine bodyPost_ret (v := .tuple #[.agg #[.int .i64 0, .int .i64 0], .int .i64 7]) (by simp [results, Tryd.results43, go_sem, hc]) rfl ⟨?_, two_below (past_one hb) _ _ _⟩
    rw [HV.out.1, HV.out.2.1, HV.out.2.2]
  by_cases f2 : 2147483647 < bot a b
  · have HV := Lib.hid (mk_no a b h0 (Or.inr f2))
    go_wp2_with fail
    refine bodyPost_ret (v := .tuple #[.agg #[.int .i64 0, .int .i64 0], .int .i64 7]) (by simp [results, Tryd.results43, go_sem, hc]) rfl ⟨?_, two_below (past_one hb) _ _ _⟩
    rw [HV.out.1, HV.out.2.1, HV.out.2.2]
  have hv := mk_yes a b h0 f1 f2
  by_cases s1 : a < 0
  · by_cases s2 : b < 0
    · have HV := Lib.hid (show mkNum a b = top a b ∧ mkDen a b = bot a b ∧ mkErr a b = 0 by simpa [s1, s2] using hv)
      clear hv
      go_wp2_with fail
      refine bodyPost_ret (v := .tuple #[.agg #[.int .i64 (top a b), .int .i64 (bot a b)], .int .i64 0]) (by simp [results, Tryd.results43, go_sem, hc]) rfl ⟨?_, two_below (past_one hb) _ _ _⟩
      rw [HV.out.1, HV.out.2.1, HV.out.2.2]
    · have HV := Lib.hid (show mkNum a b = -(top a b : Int) ∧ mkDen a b = bot a b ∧ mkErr a b = 0 by simpa [s1, s2] using hv)
      clear hv
      go_wp2_with fail
      refine bodyPost_ret (v := .tuple #[.agg #[.int .i64 (-(top a b : Int)), .int .i64 (bot a b)], .int .i64 0]) (by simp [results, Tryd.results43, go_sem, hc]) rfl ⟨?_, two_below (past_one hb) _ _ _⟩
      rw [HV.out.1, HV.out.2.1, HV.out.2.2]
  · by_cases s2 : b < 0
    · have HV := Lib.hid (show mkNum a b = -(top a b : Int) ∧ mkDen a b = bot a b ∧ mkErr a b = 0 by simpa [s1, s2] using hv)
      clear hv
      go_wp2_with fail
      refine bodyPost_ret (v := .tuple #[.agg #[.int .i64 (-(top a b : Int)), .int .i64 (bot a b)], .int .i64 0]) (by simp [results, Tryd.results43, go_sem, hc]) rfl ⟨?_, two_below (past_one hb) _ _ _⟩
      rw [HV.out.1, HV.out.2.1, HV.out.2.2]
    · have HV := Lib.hid (show mkNum a b = top a b ∧ mkDen a b = bot a b ∧ mkErr a b = 0 by simpa [s1, s2] using hv)
      clear hv
      go_wp2_with fail
      refine bodyPost_ret (v := .tuple #[.agg #[.int .i64 (top a b), .int .i64 (bot a b)], .int .i64 0]) (by simp [results, Tryd.results43, go_sem, hc]) rfl ⟨?_, two_below (past_one hb) _ _ _⟩
      rw [HV.out.1, HV.out.2.1, HV.out.2.2]

theorem make_any (a b : Int) (w : World) (a1 : -9223372036854775808 ≤ a) (a2 : a ≤ 9223372036854775807) (b1 : -9223372036854775808 ≤ b) (b2 : b ≤ 9223372036854775807) :
    Calls Tryd.prog 43 #[.int .i64 a, .int .i64 b] w (Made (.tuple #[.agg #[.int .i64 (mkNum a b), .int .i64 (mkDen a b)], .int .i64 (mkErr a b)]) w) := by
  by_cases h : b = 0
  · exact make_zero a b w h
  · exact make_some a b w a1 a2 b1 b2 h

theorem valid_as {n d : Int} {b : Bool} (w : World) (hn : I64 n) (hd : I64 d) (h : vldB n d = b) : Calls Tryd.prog 33 #[.agg #[.int .i64 n, .int .i64 d]] w (Made (.bool b) w) := by
  rw [← h]; exact valid_any n d w hn.1 hn.2 hd.1 hd.2

theorem vld_bd {n d : Int} (h : vldB n d = true) : 1 ≤ d ∧ d ≤ 2147483647 ∧ -2147483647 ≤ n ∧ n ≤ 2147483647 := by
  unfold vldB at h; simp at h; omega
end Go.Proofs.YtbcafamgmdngpaaDoor
