/- Plain mathematics of ratios: what Make returns, as numbers. Nothing of the program is named here.; Contracts of magnitude, commonDivisor, Valid and Make of package ratio.; Contracts of size, divisor, Valid and Make of the reference.; Contracts of Add, Sub, Mul, Div of package ratio and of the reference.; Contracts of Of, Neg, Floor, Ceil, Cmp of package ratio and of the reference, and of the reference's Sub.; Contracts of clock and ready of layer 3's reference.; Layer 6's law: common, the least common denominator of a point.; Contracts of Meets of package limit and of its reference.; Plain mathematics of ratios: what Make returns stands for the quotient.; The contract of Has of layer 3's reference.; WidenCovers, for whatever arguments.; Plain mathematics of bounds: which points are in the set of a matrix, and that closing keeps them. A point is a list of integers over one common denominator. Nothing of the program is named here.; Plain mathematics: a matrix that keeps to the inequality of triangles has a point; two of them that agree along all cycles have one together.; Plain mathematics: points as integers over one denominator; what Has says of a point is that it is in the set of the matrix; constraints and points.; Plain mathematics: widening by lower and upper constants is sound. -/
import Derived.Test.YtjfhjckacfkpoaaHa1
import Derived.BigQuiet
import Derived.Test.YtjfhjckacfkpoaaHb1

namespace Go.Proofs.Ytjfhjckacfkpoaa

def top (a b : Int) : Nat := a.natAbs / Nat.gcd a.natAbs b.natAbs

def bot (a b : Int) : Nat := b.natAbs / Nat.gcd a.natAbs b.natAbs

def fits (a b : Int) : Bool := decide (top a b ≤ 2147483647 ∧ bot a b ≤ 2147483647)

def mkErr (a b : Int) : Int := if b = 0 then 2 else if fits a b then 0 else 7

def mkNum (a b : Int) : Int := if b = 0 then 0 else if fits a b then (if (decide (a < 0) != decide (b < 0)) then -(top a b : Int) else top a b) else 0

def mkDen (a b : Int) : Int := if b = 0 then 0 else if fits a b then bot a b else 0

theorem mkNum_bd (a b : Int) : -2147483647 ≤ mkNum a b ∧ mkNum a b ≤ 2147483647 := by
  unfold mkNum fits
  split
  · omega
  split
  · rename_i h; simp at h; split <;> omega
  · omega

theorem mkDen_bd (a b : Int) : 0 ≤ mkDen a b ∧ mkDen a b ≤ 2147483647 := by
  unfold mkDen fits
  split
  · omega
  split
  · rename_i h; simp at h; omega
  · omega

theorem mkErr_bd (a b : Int) : 0 ≤ mkErr a b ∧ mkErr a b ≤ 7 := by
  unfold mkErr
  split
  · omega
  split <;> omega

theorem top_le (a b : Int) : top a b ≤ a.natAbs := Nat.div_le_self _ _

theorem bot_le (a b : Int) : bot a b ≤ b.natAbs := Nat.div_le_self _ _

def opNum (v : Bool) (p q : Int) : Int := if v then mkNum p q else 0

def opDen (v : Bool) (p q : Int) : Int := if v then mkDen p q else 0

def opErr (v : Bool) (p q : Int) : Int := if v then mkErr p q else 2

theorem mul_bd {x y : Int} (x1 : -2147483647 ≤ x) (x2 : x ≤ 2147483647) (y1 : -2147483647 ≤ y) (y2 : y ≤ 2147483647) :
    -4611686014132420609 ≤ x * y ∧ x * y ≤ 4611686014132420609 := by
  have h : (x * y).natAbs ≤ 2147483647 * 2147483647 := by
    rw [Int.natAbs_mul]; exact Nat.mul_le_mul (by omega) (by omega)
  omega
end Go.Proofs.Ytjfhjckacfkpoaa

namespace Go.Proofs.Ytjfhjckacfkpoaa
open Go.RowKit

theorem neg_mag (n : Int) (h1 : -9223372036854775808 ≤ n) (h2 : n < 0) : IntKind.u64.wrap (-IntKind.u64.wrap n) = (n.natAbs : Int) := by
  simp [IntKind.wrap, IntKind.bits, IntKind.signed]
  omega

def vldB (n d : Int) : Bool := decide (1 ≤ d ∧ d ≤ 2147483647 ∧ -2147483647 ≤ n ∧ n ≤ 2147483647 ∧ Nat.gcd n.natAbs d.natAbs = 1)

theorem vld_no {n d : Int} (h : d < 1 ∨ 2147483647 < d ∨ n < -2147483647 ∨ 2147483647 < n) : vldB n d = false := by
  unfold vldB; simp; omega

theorem vld_yes {n d : Int} (h1 : 1 ≤ d) (h2 : d ≤ 2147483647) (h3 : -2147483647 ≤ n) (h4 : n ≤ 2147483647) : vldB n d = (((Nat.gcd n.natAbs d.natAbs : Nat) : Int) == 1) := by
  unfold vldB; rw [Bool.eq_iff_iff]; simp; omega

theorem wrap_top (a b : Int) (h : a.natAbs < 18446744073709551616) : IntKind.u64.wrap ((a.natAbs : Int) / ((Nat.gcd a.natAbs b.natAbs : Nat) : Int)) = ((top a b : Nat) : Int) := by
  have h1 := top_le a b
  have h2 : (a.natAbs : Int) / ((Nat.gcd a.natAbs b.natAbs : Nat) : Int) = ((top a b : Nat) : Int) := by unfold top; simp
  rw [h2]
  simp [IntKind.wrap, IntKind.bits, IntKind.signed]
  omega

theorem wrap_bot (a b : Int) (h : b.natAbs < 18446744073709551616) : IntKind.u64.wrap ((b.natAbs : Int) / ((Nat.gcd a.natAbs b.natAbs : Nat) : Int)) = ((bot a b : Nat) : Int) := by
  have h1 := bot_le a b
  have h2 : (b.natAbs : Int) / ((Nat.gcd a.natAbs b.natAbs : Nat) : Int) = ((bot a b : Nat) : Int) := by unfold bot; simp
  rw [h2]
  simp [IntKind.wrap, IntKind.bits, IntKind.signed]
  omega

theorem mk_no (a b : Int) (h0 : b ≠ 0) (h : 2147483647 < top a b ∨ 2147483647 < bot a b) : mkNum a b = 0 ∧ mkDen a b = 0 ∧ mkErr a b = 7 := by
  have hf : fits a b = false := by unfold fits; simp; omega
  simp [mkNum, mkDen, mkErr, h0, hf]

theorem mk_yes (a b : Int) (h0 : b ≠ 0) (h1 : ¬ 2147483647 < top a b) (h2 : ¬ 2147483647 < bot a b) : mkNum a b = (if (decide (a < 0) != decide (b < 0)) then -(top a b : Int) else top a b) ∧ mkDen a b = bot a b ∧ mkErr a b = 0 := by
  have hf : fits a b = true := by unfold fits; simp; omega
  simp [mkNum, mkDen, mkErr, h0, hf]

theorem vld_bd {n d : Int} (h : vldB n d = true) : 1 ≤ d ∧ d ≤ 2147483647 ∧ -2147483647 ≤ n ∧ n ≤ 2147483647 := by
  unfold vldB at h; simp at h; omega
end Go.Proofs.Ytjfhjckacfkpoaa

namespace Go.Proofs.Ytjfhjckacfkpoaa
open Go.RowKit

theorem size_neg (n : Int) (h1 : -9223372036854775808 ≤ n) (h2 : n < 0) : IntKind.u64.wrap (IntKind.u64.wrap (-(n + 1)) + 1) = (n.natAbs : Int) := by
  simp [IntKind.wrap, IntKind.bits, IntKind.signed]
  omega

set_option maxHeartbeats 400000 in
theorem size_any (n : Int) (w : World) (h1 : -9223372036854775808 ≤ n) (h2 : n ≤ 9223372036854775807) :
    Calls Try.prog 65 #[.int .i64 n] w fun e w' => e = .returned (.int .u64 (n.natAbs : Int)) ∧ w' = w := by
  by_cases hn : n < 0
  · have H := Lib.hid (show -(n + 1) + 1 = (n.natAbs : Int) by omega)
    go_enter Try.func65, Try.ntmps65
    go_wp2
    go_ret
    exact ⟨ret_int H.out, rfl⟩
  · have H := Lib.hid (show (n : Int) = (n.natAbs : Int) by omega)
    go_enter Try.func65, Try.ntmps65
    go_wp2
    go_ret
    exact ⟨ret_int H.out, rfl⟩

set_option maxHeartbeats 400000 in
theorem divisor_any (a b : Nat) (w : World) (ha : a < 18446744073709551616) (hb : b < 18446744073709551616) :
    Calls Try.prog 64 #[.int .u64 a, .int .u64 b] w (Drawn (.int .u64 (Nat.gcd a b)) w) := by
  go_enter Try.func64, Try.ntmps64
  go_wp2
  go_loopw [0, 1] (fun x y wr => ∃ p q n : Nat, p < 18446744073709551616 ∧ q < 18446744073709551616 ∧ x = .int .u64 p ∧ y = .int .u64 q ∧ Hid (Nat.gcd p q = Nat.gcd a b) ∧ Hid (wr = w.drewN n)) (fun _ y _ => (intOf y).toNat)
  case atStart => exact ⟨a, b, 0, ha, hb, rfl, rfl, Lib.hid rfl, Lib.hid rfl⟩
  case round =>
    obtain ⟨p, q, n, hp, hq, rfl, rfl, hg, hw⟩ := hrel
    by_cases hz : q = 0
    · subst hz
      go_wp2
      go_ret
      exact ⟨ret_int (by have := hg.out; simp at this; simpa using congrArg (fun k : Nat => (k : Int)) this), n, hw.out⟩
    · have Hz : ((q : Int) == 0) = false := by simpa using hz
      have Hz2 : ((q : Int) != 0) = true := by simpa using hz
      go_wp2
      go_quiet (fail)
      go_wp2
      go_roundw
      case rel => exact ⟨q, p % q, n + nq, hq, Nat.lt_of_lt_of_le (Nat.mod_lt _ (Nat.pos_of_ne_zero hz)) (by omega), rfl, rfl, Lib.hid (by rw [← hg.out, Nat.gcd_comm p q, Nat.gcd_rec q p, Nat.gcd_comm]), Lib.hid (by rw [hw.out, World.drewN_drewN])⟩
      case measure => have := Nat.mod_lt p (Nat.pos_of_ne_zero hz); simp [intOf]; omega

set_option maxHeartbeats 400000 in
theorem refValid_any (n d : Int) (w : World) (n1 : -9223372036854775808 ≤ n) (n2 : n ≤ 9223372036854775807) (d1 : -9223372036854775808 ≤ d) (d2 : d ≤ 9223372036854775807) :
    Calls Try.prog 39 #[.agg #[.int .i64 n, .int .i64 d]] w (Made (.bool (vldB n d)) w) := by
  by_cases h1 : d < 1
  · have H := Lib.hid (vld_no (n := n) (d := d) (Or.inl h1))
    have D : decide ((1 : Int) ≤ d) = false := by simp; omega
    go_enter Try.func39, Try.ntmps39
    go_wp2_with fail
    go_quiet (fail)
    go_wp2_with fail
    go_ret
    exact ⟨ret_bool (by rw [H.out]), below_drewN ((Below.refl _ _).alloc (Nat.le_refl _) _) _⟩
  by_cases h2 : 2147483647 < d
  · have H := Lib.hid (vld_no (n := n) (d := d) (Or.inr (Or.inl h2)))
    have D : decide (d ≤ (2147483647 : Int)) = false := by simp; omega
    go_enter Try.func39, Try.ntmps39
    go_wp2_with fail
    go_quiet (fail)
    go_wp2_with fail
    go_ret
    exact ⟨ret_bool (by rw [H.out]), below_drewN ((Below.refl _ _).alloc (Nat.le_refl _) _) _⟩
  by_cases h3 : n < -2147483647
  · have H := Lib.hid (vld_no (n := n) (d := d) (Or.inr (Or.inr (Or.inl h3))))
    have D : decide ((-2147483647 : Int) ≤ n) = false := by simp; omega
    go_enter Try.func39, Try.ntmps39
    go_wp2_with fail
    go_quiet (fail)
    go_wp2_with fail
    go_ret
    exact ⟨ret_bool (by rw [H.out]), below_drewN ((Below.refl _ _).alloc (Nat.le_refl _) _) _⟩
  by_cases h4 : 2147483647 < n
  · have H := Lib.hid (vld_no (n := n) (d := d) (Or.inr (Or.inr (Or.inr h4))))
    have D : decide (n ≤ (2147483647 : Int)) = false := by simp; omega
    go_enter Try.func39, Try.ntmps39
    go_wp2_with fail
    go_quiet (fail)
    go_wp2_with fail
    go_ret
    exact ⟨ret_bool (by rw [H.out]), below_drewN ((Below.refl _ _).alloc (Nat.le_refl _) _) _⟩
  have H := Lib.hid (vld_yes (n := n) (d := d) (by omega) (by omega) (by omega) (by omega))
  have k1 : n.natAbs < 18446744073709551616 := by omega
  have k2 : d.natAbs < 18446744073709551616 := by omega
  go_enter Try.func39, Try.ntmps39
  go_wp2_with fail
  go_quiet (first | (go_at_call 65; exact Calls.quiet_of_same (size_any _ _ (by omega) (by omega))) | (go_at_call 64; exact Calls.quiet_of (divisor_any _ _ _ (by omega) (by omega))))
  go_wp2_with fail
  go_ret
  exact ⟨ret_bool (by rw [H.out]), below_drewN ((Below.refl _ _).alloc (Nat.le_refl _) _) _⟩

set_option maxHeartbeats 400000 in
theorem refMake_zero (a b : Int) (w : World) (hb : b = 0) :
    Calls Try.prog 74 #[.int .i64 a, .int .i64 b] w (Made (.tuple #[.agg #[.int .i64 (mkNum a b), .int .i64 (mkDen a b)], .int .i64 (mkErr a b)]) w) := by
  subst hb
  have H := Lib.hid (show mkNum a 0 = 0 ∧ mkDen a 0 = 0 ∧ mkErr a 0 = 2 by simp [mkNum, mkDen, mkErr])
  go_enter Try.func74, Try.ntmps74
  go_wp2_with fail
  refine bodyPost_ret (v := .tuple #[.agg #[.int .i64 0, .int .i64 0], .int .i64 2]) (by simp [results, Try.results74, go_sem]) rfl ⟨?_, ?_⟩
  · rw [H.out.1, H.out.2.1, H.out.2.2]
  · exact (((Below.refl _ _).alloc (Nat.le_refl _) _))

set_option maxHeartbeats 800000 in
theorem refMake_some (a b : Int) (w : World) (a1 : -9223372036854775808 ≤ a) (a2 : a ≤ 9223372036854775807) (b1 : -9223372036854775808 ≤ b) (b2 : b ≤ 9223372036854775807) (h0 : b ≠ 0) :
    Calls Try.prog 74 #[.int .i64 a, .int .i64 b] w (Made (.tuple #[.agg #[.int .i64 (mkNum a b), .int .i64 (mkDen a b)], .int .i64 (mkErr a b)]) w) := by
  have B0 : ((b : Int) == 0) = false := by simpa using h0
  have k1 : a.natAbs < 18446744073709551616 := by omega
  have k2 : b.natAbs < 18446744073709551616 := by omega
  have gp : 0 < Nat.gcd a.natAbs b.natAbs := Nat.gcd_pos_of_pos_right _ (by omega)
  have gB : (((Nat.gcd a.natAbs b.natAbs : Nat) : Int) == 0) = false := by simp; omega
  have gl : Nat.gcd a.natAbs b.natAbs ≤ b.natAbs := Nat.gcd_le_right _ (by omega)
  go_enter Try.func74, Try.ntmps74
  go_wp2_with fail
  refine (size_any _ _ (by omega) (by omega)).mono ?_
  rintro e w' ⟨rfl, rfl⟩
  go_wp2_with fail
  refine (size_any _ _ (by omega) (by omega)).mono ?_
  rintro e w' ⟨rfl, rfl⟩
  go_wp2_with fail
  refine (divisor_any _ _ _ (by omega) (by omega)).mono ?_
  rintro e w1 ⟨rfl, n1, rfl⟩
  go_wp2_with fail
  go_quiet ((go_at_call 65; exact (size_any _ _ (by omega) (by omega)).mono (fun e w' h => ⟨h.1, _, h.2⟩)))
  rw [wrap_top a b k1, wrap_bot a b k2]
  by_cases f1 : 2147483647 < top a b
  · have HV := Lib.hid (mk_no a b h0 (Or.inl f1))
    go_wp2_with fail
    refine bodyPost_ret (v := .tuple #[.agg #[.int .i64 0, .int .i64 0], .int .i64 7]) (by simp [results, Try.results74, go_sem]) rfl ⟨?_, ?_⟩
    · rw [HV.out.1, HV.out.2.1, HV.out.2.2]
    · repeat (first | exact Below.refl _ _ | refine Below.alloc ?_ (by simp) _ | refine Below.setCell ?_ (by simp) _ | refine below_drewN ?_ _)
  by_cases f2 : 2147483647 < bot a b
  · have HV := Lib.hid (mk_no a b h0 (Or.inr f2))
    go_wp2_with fail
    refine bodyPost_ret (v := .tuple #[.agg #[.int .i64 0, .int .i64 0], .int .i64 7]) (by simp [results, Try.results74, go_sem]) rfl ⟨?_, ?_⟩
    · rw [HV.out.1, HV.out.2.1, HV.out.2.2]
    · repeat (first | exact Below.refl _ _ | refine Below.alloc ?_ (by simp) _ | refine Below.setCell ?_ (by simp) _ | refine below_drewN ?_ _)
  have hv := mk_yes a b h0 f1 f2
  by_cases s1 : a < 0
  · by_cases s2 : b < 0
    · have HV := Lib.hid (show mkNum a b = top a b ∧ mkDen a b = bot a b ∧ mkErr a b = 0 by simpa [s1, s2] using hv)
      clear hv
      go_wp2_with fail
      refine bodyPost_ret (v := .tuple #[.agg #[.int .i64 (top a b), .int .i64 (bot a b)], .int .i64 0]) (by simp [results, Try.results74, go_sem]) rfl ⟨?_, ?_⟩
      · rw [HV.out.1, HV.out.2.1, HV.out.2.2]
      · repeat (first | exact Below.refl _ _ | refine Below.alloc ?_ (by simp) _ | refine Below.setCell ?_ (by simp) _ | refine below_drewN ?_ _)
    · have HV := Lib.hid (show mkNum a b = -(top a b : Int) ∧ mkDen a b = bot a b ∧ mkErr a b = 0 by simpa [s1, s2] using hv)
      clear hv
      go_wp2_with fail
      refine bodyPost_ret (v := .tuple #[.agg #[.int .i64 (-(top a b : Int)), .int .i64 (bot a b)], .int .i64 0]) (by simp [results, Try.results74, go_sem]) rfl ⟨?_, ?_⟩
      · rw [HV.out.1, HV.out.2.1, HV.out.2.2]
      · repeat (first | exact Below.refl _ _ | refine Below.alloc ?_ (by simp) _ | refine Below.setCell ?_ (by simp) _ | refine below_drewN ?_ _)
  · by_cases s2 : b < 0
    · have HV := Lib.hid (show mkNum a b = -(top a b : Int) ∧ mkDen a b = bot a b ∧ mkErr a b = 0 by simpa [s1, s2] using hv)
      clear hv
      go_wp2_with fail
      refine bodyPost_ret (v := .tuple #[.agg #[.int .i64 (-(top a b : Int)), .int .i64 (bot a b)], .int .i64 0]) (by simp [results, Try.results74, go_sem]) rfl ⟨?_, ?_⟩
      · rw [HV.out.1, HV.out.2.1, HV.out.2.2]
      · repeat (first | exact Below.refl _ _ | refine Below.alloc ?_ (by simp) _ | refine Below.setCell ?_ (by simp) _ | refine below_drewN ?_ _)
    · have HV := Lib.hid (show mkNum a b = top a b ∧ mkDen a b = bot a b ∧ mkErr a b = 0 by simpa [s1, s2] using hv)
      clear hv
      go_wp2_with fail
      refine bodyPost_ret (v := .tuple #[.agg #[.int .i64 (top a b), .int .i64 (bot a b)], .int .i64 0]) (by simp [results, Try.results74, go_sem]) rfl ⟨?_, ?_⟩
      · rw [HV.out.1, HV.out.2.1, HV.out.2.2]
      · repeat (first | exact Below.refl _ _ | refine Below.alloc ?_ (by simp) _ | refine Below.setCell ?_ (by simp) _ | refine below_drewN ?_ _)

theorem refMake_any (a b : Int) (w : World) (a1 : -9223372036854775808 ≤ a) (a2 : a ≤ 9223372036854775807) (b1 : -9223372036854775808 ≤ b) (b2 : b ≤ 9223372036854775807) :
    Calls Try.prog 74 #[.int .i64 a, .int .i64 b] w (Made (.tuple #[.agg #[.int .i64 (mkNum a b), .int .i64 (mkDen a b)], .int .i64 (mkErr a b)]) w) := by
  by_cases h : b = 0
  · exact refMake_zero a b w h
  · exact refMake_some a b w a1 a2 b1 b2 h

theorem refValid_as {n d : Int} {b : Bool} (w : World) (hn : I64 n) (hd : I64 d) (h : vldB n d = b) : Calls Try.prog 39 #[.agg #[.int .i64 n, .int .i64 d]] w (Made (.bool b) w) := by
  rw [← h]; exact refValid_any n d w hn.1 hn.2 hd.1 hd.2
end Go.Proofs.Ytjfhjckacfkpoaa

namespace Go.Proofs.Ytjfhjckacfkpoaa
open Go.RowKit

set_option maxHeartbeats 400000 in
theorem refAdd_any (n d m c : Int) (w : World) (hn : I64 n) (hd : I64 d) (hm : I64 m) (hc : I64 c) :
    Calls Try.prog 63 #[.agg #[.int .i64 n, .int .i64 d], .agg #[.int .i64 m, .int .i64 c]] w
      (Made (.tuple #[.agg #[.int .i64 (opNum (vldB n d && vldB m c) (n * c + m * d) (d * c)), .int .i64 (opDen (vldB n d && vldB m c) (n * c + m * d) (d * c))], .int .i64 (opErr (vldB n d && vldB m c) (n * c + m * d) (d * c))]) w) := by
  by_cases v1 : vldB n d = true
  · by_cases v2 : vldB m c = true
    · have V1 := Lib.hid v1
      have V2 := Lib.hid v2
      obtain ⟨x1, x2, x3, x4⟩ := vld_bd v1
      obtain ⟨y1, y2, y3, y4⟩ := vld_bd v2
      have HV := Lib.hid (show opNum (vldB n d && vldB m c) (n * c + m * d) (d * c) = mkNum (n * c + m * d) (d * c) ∧ opDen (vldB n d && vldB m c) (n * c + m * d) (d * c) = mkDen (n * c + m * d) (d * c) ∧ opErr (vldB n d && vldB m c) (n * c + m * d) (d * c) = mkErr (n * c + m * d) (d * c) by simp [opNum, opDen, opErr, v1, v2])
      clear v1 v2
      obtain ⟨p1a, p1b⟩ := mul_bd x3 x4 (show -2147483647 ≤ c by omega) y2
      obtain ⟨p2a, p2b⟩ := mul_bd y3 y4 (show -2147483647 ≤ d by omega) x2
      obtain ⟨p3a, p3b⟩ := mul_bd (show -2147483647 ≤ d by omega) x2 (show -2147483647 ≤ c by omega) y2
      obtain ⟨p4a, p4b⟩ := mul_bd x3 x4 y3 y4
      obtain ⟨p5a, p5b⟩ := mul_bd (show -2147483647 ≤ d by omega) x2 y3 y4
      go_enter Try.func63, Try.ntmps63
      go_wp2_with fail
      refine (refValid_as _ hn hd V1.out).mono ?_
      rintro e w1 ⟨rfl, hb⟩
      obtain ⟨hx, hf⟩ := bcell hb
      go_wp2_with fail
      refine (refValid_as _ hm hc V2.out).mono ?_
      rintro e w2 ⟨rfl, hb2⟩
      replace hb2 := below_on hb hb2
      clear hb hx hf
      obtain ⟨hx, hf⟩ := bcell hb2
      go_wp2_with fail
      refine (refMake_any _ _ _ (by omega) (by omega) (by omega) (by omega)).mono ?_
      rintro e w3 ⟨rfl, hb3⟩
      replace hb3 := below_on hb2 hb3
      clear hb2 hx hf
      obtain ⟨hx, hf⟩ := bcell hb3
      go_wp2_with fail
      refine bodyPost_ret (v := .tuple #[.agg #[.int .i64 (mkNum (n * c + m * d) (d * c)), .int .i64 (mkDen (n * c + m * d) (d * c))], .int .i64 (mkErr (n * c + m * d) (d * c))]) (by simp [results, Try.results63, go_sem, hx]) rfl ⟨?_, ?_⟩
      · rw [HV.out.1, HV.out.2.1, HV.out.2.2]
      · exact ((past_three hb3).setCell (by simp; omega) _).setCell (by simp; omega) _
    · have V1 := Lib.hid v1
      have v2' : vldB m c = false := by simpa using v2
      have V2 := Lib.hid v2'
      have HV := Lib.hid (show opNum (vldB n d && vldB m c) (n * c + m * d) (d * c) = 0 ∧ opDen (vldB n d && vldB m c) (n * c + m * d) (d * c) = 0 ∧ opErr (vldB n d && vldB m c) (n * c + m * d) (d * c) = 2 by simp [opNum, opDen, opErr, v1, v2'])
      clear v1 v2 v2'
      go_enter Try.func63, Try.ntmps63
      go_wp2_with fail
      refine (refValid_as _ hn hd V1.out).mono ?_
      rintro e w1 ⟨rfl, hb⟩
      obtain ⟨hx, hf⟩ := bcell hb
      go_wp2_with fail
      refine (refValid_as _ hm hc V2.out).mono ?_
      rintro e w2 ⟨rfl, hb2⟩
      replace hb2 := below_on hb hb2
      clear hb hx hf
      obtain ⟨hx, hf⟩ := bcell hb2
      go_wp2_with fail
      refine bodyPost_ret (v := .tuple #[.agg #[.int .i64 0, .int .i64 0], .int .i64 2]) (by simp [results, Try.results63, go_sem, hx]) rfl ⟨?_, ?_⟩
      · rw [HV.out.1, HV.out.2.1, HV.out.2.2]
      · exact ((past_three hb2).setCell (by simp; omega) _).setCell (by simp; omega) _
  · have v1' : vldB n d = false := by simpa using v1
    have V1 := Lib.hid v1'
    have HV := Lib.hid (show opNum (vldB n d && vldB m c) (n * c + m * d) (d * c) = 0 ∧ opDen (vldB n d && vldB m c) (n * c + m * d) (d * c) = 0 ∧ opErr (vldB n d && vldB m c) (n * c + m * d) (d * c) = 2 by simp [opNum, opDen, opErr, v1'])
    clear v1 v1'
    go_enter Try.func63, Try.ntmps63
    go_wp2_with fail
    refine (refValid_as _ hn hd V1.out).mono ?_
    rintro e w1 ⟨rfl, hb⟩
    obtain ⟨hx, hf⟩ := bcell hb
    go_wp2_with fail
    refine bodyPost_ret (v := .tuple #[.agg #[.int .i64 0, .int .i64 0], .int .i64 2]) (by simp [results, Try.results63, go_sem, hx]) rfl ⟨?_, ?_⟩
    · rw [HV.out.1, HV.out.2.1, HV.out.2.2]
    · exact ((past_three hb).setCell (by simp; omega) _).setCell (by simp; omega) _
end Go.Proofs.Ytjfhjckacfkpoaa

namespace Go.Proofs.Ytjfhjckacfkpoaa
open Go.RowKit

/-- Go's quotient and rest, and the quotient rounded down. -/
theorem fdiv_of (n d : Int) (hd : 1 ≤ d) : n / d = if n.tmod d < 0 then n.tdiv d - 1 else n.tdiv d := by
  have hd0 : 0 < d := by omega
  by_cases h : 0 ≤ n
  · rw [Int.tmod_eq_emod_of_nonneg h, Int.tdiv_eq_ediv_of_nonneg h, if_neg (by have := Int.emod_nonneg n (show d ≠ 0 by omega); omega)]
  · have h1 := Int.tmod_add_tdiv_mul n d
    have h2 : -d < n.tmod d := by have := Int.lt_tmod_of_pos n hd0; omega
    have h3 : n.tmod d ≤ 0 := by
      have e : n.tmod d = -((-n).tmod d) := by rw [Int.neg_tmod]; omega
      rw [e, Int.tmod_eq_emod_of_nonneg (show 0 ≤ -n by omega)]
      have := Int.emod_nonneg (-n) (show d ≠ 0 by omega)
      omega
    generalize hr : n.tmod d = r at *
    generalize hq : n.tdiv d = q at *
    split
    · rename_i h4
      have e : n = (r + d) + (q - 1) * d := by rw [Int.sub_mul]; omega
      rw [e, Int.add_mul_ediv_right _ _ (by omega), Int.ediv_eq_zero_of_lt (by omega) (by omega)]; omega
    · have e : n = 0 + q * d := by omega
      rw [e, Int.add_mul_ediv_right _ _ (by omega)]; simp

theorem tdiv_bd (n d : Int) (h1 : -4611686018427387904 ≤ n) (h2 : n ≤ 4611686018427387904) : -4611686018427387904 ≤ n.tdiv d ∧ n.tdiv d ≤ 4611686018427387904 := by
  have := Int.natAbs_tdiv_le_natAbs n d
  omega

theorem fl_bd (n d : Int) (hd : 1 ≤ d) (h1 : -2147483648 ≤ n) (h2 : n ≤ 2147483648) : -2147483648 ≤ n / d ∧ n / d ≤ 2147483648 := by
  constructor
  · rw [Int.le_ediv_iff_mul_le (by omega)]
    have : (-2147483648 : Int) * d ≤ -2147483648 * 1 := by omega
    omega
  · apply Int.ediv_le_of_le_mul (by omega)
    have : (2147483648 : Int) * 1 ≤ 2147483648 * d := by omega
    omega

set_option maxHeartbeats 400000 in
theorem floor_any (n d : Int) (w : World) (h1 : -4611686018427387904 ≤ n) (h2 : n ≤ 4611686018427387904) (hd : 1 ≤ d) (hd2 : d ≤ 9223372036854775807) :
    Calls Try.prog 40 #[.int .i64 n, .int .i64 d] w fun e w' => e = .returned (.int .i64 (n / d)) ∧ w = w' := by
  have hz : (d == 0) = false := by simp; omega
  by_cases hn : 0 ≤ n
  · have hm := Int.emod_nonneg n (show d ≠ 0 by omega)
    go_enter Try.func40, Try.ntmps40
    go_wp2
    go_ret
    exact ⟨rfl, rfl⟩
  · have tb := tdiv_bd n d h1 (by omega)
    by_cases hr : n.tmod d < 0
    · have H := Lib.hid (show n.tdiv d - 1 = n / d by rw [fdiv_of n d hd, if_pos hr])
      go_enter Try.func40, Try.ntmps40
      go_wp2
      go_ret
      exact ⟨ret_int H.out, rfl⟩
    · have H := Lib.hid (show n.tdiv d = n / d by rw [fdiv_of n d hd, if_neg hr])
      go_enter Try.func40, Try.ntmps40
      go_wp2
      go_ret
      exact ⟨ret_int H.out, rfl⟩

set_option maxHeartbeats 400000 in
theorem refFloor_any (n d : Int) (w : World) (hn : I64 n) (hd : I64 d) :
    Calls Try.prog 19 #[.agg #[.int .i64 n, .int .i64 d]] w (Made (.tuple #[.int .i64 (if vldB n d then n / d else 0), .int .i64 (if vldB n d then 0 else 2)]) w) := by
  cases v1 : vldB n d
  · have V1 := Lib.hid v1
    clear v1
    go_enter Try.func19, Try.ntmps19
    go_wp2_with fail
    refine (refValid_as _ hn hd V1.out).mono ?_
    rintro e w1 ⟨rfl, hb⟩
    go_wp2_with fail
    go_ret2
    exact ⟨rfl, past_one hb⟩
  · have V1 := Lib.hid v1
    obtain ⟨x1, x2, x3, x4⟩ := vld_bd v1
    clear v1
    have fb := fl_bd n d x1 (by omega) (by omega)
    go_enter Try.func19, Try.ntmps19
    go_wp2_with fail
    refine (refValid_as _ hn hd V1.out).mono ?_
    rintro e w1 ⟨rfl, hb⟩
    obtain ⟨hx, hf⟩ := bcell hb
    go_wp2_with fail
    refine (floor_any _ _ _ (by omega) (by omega) (by omega) (by omega)).mono ?_
    rintro e w2 ⟨rfl, rfl⟩
    go_wp2_with fail
    go_ret2
    exact ⟨rfl, past_one hb⟩

def sgn (x y : Int) : Int := if x < y then -1 else if y < x then 1 else 0

set_option maxHeartbeats 400000 in
theorem refCmp_any (n d m c : Int) (w : World) (hn : I64 n) (hd : I64 d) (hm : I64 m) (hc : I64 c) :
    Calls Try.prog 41 #[.agg #[.int .i64 n, .int .i64 d], .agg #[.int .i64 m, .int .i64 c]] w
      (Made (.tuple #[.int .i64 (if (vldB n d && vldB m c) then sgn (n * c) (m * d) else 0), .int .i64 (if (vldB n d && vldB m c) then 0 else 2)]) w) := by
  cases v1 : vldB n d
  · have V1 := Lib.hid v1
    clear v1
    go_enter Try.func41, Try.ntmps41
    go_wp2_with fail
    refine (refValid_as _ hn hd V1.out).mono ?_
    rintro e w1 ⟨rfl, hb⟩
    obtain ⟨hx, hf⟩ := bcell hb
    go_wp2_with fail
    go_ret2
    exact ⟨rfl, past_two hb⟩
  · cases v2 : vldB m c
    · have V1 := Lib.hid v1
      have V2 := Lib.hid v2
      clear v1 v2
      go_enter Try.func41, Try.ntmps41
      go_wp2_with fail
      refine (refValid_as _ hn hd V1.out).mono ?_
      rintro e w1 ⟨rfl, hb⟩
      obtain ⟨hx, hf⟩ := bcell hb
      go_wp2_with fail
      refine (refValid_as _ hm hc V2.out).mono ?_
      rintro e w2 ⟨rfl, hb2⟩
      replace hb2 := below_on hb hb2
      clear hb hx hf
      obtain ⟨hx, hf⟩ := bcell hb2
      go_wp2_with fail
      go_ret2
      exact ⟨rfl, past_two hb2⟩
    · have V1 := Lib.hid v1
      have V2 := Lib.hid v2
      obtain ⟨x1, x2, x3, x4⟩ := vld_bd v1
      obtain ⟨y1, y2, y3, y4⟩ := vld_bd v2
      clear v1 v2
      obtain ⟨p1a, p1b⟩ := mul_bd x3 x4 (show -2147483647 ≤ c by omega) y2
      obtain ⟨p2a, p2b⟩ := mul_bd y3 y4 (show -2147483647 ≤ d by omega) x2
      by_cases h1 : n * c < m * d
      · have H := Lib.hid (show sgn (n * c) (m * d) = -1 by unfold sgn; rw [if_pos h1])
        have e1 := wrap_in (n * c) (by omega) (by omega)
        have e2 := wrap_in (m * d) (by omega) (by omega)
        go_enter Try.func41, Try.ntmps41
        go_wp2_with fail
        refine (refValid_as _ hn hd V1.out).mono ?_
        rintro e w1 ⟨rfl, hb⟩
        obtain ⟨hx, hf⟩ := bcell hb
        go_wp2_with fail
        refine (refValid_as _ hm hc V2.out).mono ?_
        rintro e w2 ⟨rfl, hb2⟩
        replace hb2 := below_on hb hb2
        clear hb hx hf
        obtain ⟨hx, hf⟩ := bcell hb2
        go_wp2_with fail
        go_quiet (fail)
        go_wp2_with fail
        go_ret2
        exact ⟨ret_two H.out.symm rfl, below_drewN (past_two hb2) _⟩
      by_cases h2 : m * d < n * c
      · have H := Lib.hid (show sgn (n * c) (m * d) = 1 by unfold sgn; rw [if_neg h1, if_pos h2])
        have e1 := wrap_in (n * c) (by omega) (by omega)
        have e2 := wrap_in (m * d) (by omega) (by omega)
        go_enter Try.func41, Try.ntmps41
        go_wp2_with fail
        refine (refValid_as _ hn hd V1.out).mono ?_
        rintro e w1 ⟨rfl, hb⟩
        obtain ⟨hx, hf⟩ := bcell hb
        go_wp2_with fail
        refine (refValid_as _ hm hc V2.out).mono ?_
        rintro e w2 ⟨rfl, hb2⟩
        replace hb2 := below_on hb hb2
        clear hb hx hf
        obtain ⟨hx, hf⟩ := bcell hb2
        go_wp2_with fail
        go_quiet (fail)
        go_wp2_with fail
        go_ret2
        exact ⟨ret_two H.out.symm rfl, below_drewN (past_two hb2) _⟩
      have H := Lib.hid (show sgn (n * c) (m * d) = 0 by unfold sgn; rw [if_neg h1, if_neg h2])
      have e1 := wrap_in (n * c) (by omega) (by omega)
      have e2 := wrap_in (m * d) (by omega) (by omega)
      go_enter Try.func41, Try.ntmps41
      go_wp2_with fail
      refine (refValid_as _ hn hd V1.out).mono ?_
      rintro e w1 ⟨rfl, hb⟩
      obtain ⟨hx, hf⟩ := bcell hb
      go_wp2_with fail
      refine (refValid_as _ hm hc V2.out).mono ?_
      rintro e w2 ⟨rfl, hb2⟩
      replace hb2 := below_on hb hb2
      clear hb hx hf
      obtain ⟨hx, hf⟩ := bcell hb2
      go_wp2_with fail
      go_quiet (fail)
      go_wp2_with fail
      go_ret2
      exact ⟨ret_two H.out.symm rfl, below_drewN (past_two hb2) _⟩

theorem vld_neg (m c : Int) : vldB (-m) c = vldB m c := by
  unfold vldB; rw [Bool.eq_iff_iff]; simp; omega

set_option maxHeartbeats 400000 in
theorem refSub_any (n d m c : Int) (w : World) (hn : I64 n) (hd : I64 d) (hm : I64 m) (hc : I64 c) :
    Calls Try.prog 35 #[.agg #[.int .i64 n, .int .i64 d], .agg #[.int .i64 m, .int .i64 c]] w
      (Made (.tuple #[.agg #[.int .i64 (opNum (vldB n d && vldB m c) (n * c - m * d) (d * c)), .int .i64 (opDen (vldB n d && vldB m c) (n * c - m * d) (d * c))], .int .i64 (opErr (vldB n d && vldB m c) (n * c - m * d) (d * c))]) w) := by
  by_cases h0 : m = -9223372036854775808
  · have hv : vldB m c = false := vld_no (by omega)
    have HV := Lib.hid (show ∀ x y : Int, opNum (vldB n d && vldB m c) x y = 0 ∧ opDen (vldB n d && vldB m c) x y = 0 ∧ opErr (vldB n d && vldB m c) x y = 2 by simp [opNum, opDen, opErr, hv])
    clear hv
    subst h0
    go_enter Try.func35, Try.ntmps35
    go_wp2_with fail
    rw [w64min]
    refine (refAdd_any _ _ _ _ _ hn hd (by unfold I64; omega) hc).mono ?_
    rintro e w1 ⟨rfl, hb⟩
    obtain ⟨hx, hf⟩ := bcell hb
    rw [(HV.out _ _).1, (HV.out _ _).2.1, (HV.out _ _).2.2, (HV.out _ _).1, (HV.out _ _).2.1, (HV.out _ _).2.2]
    go_wp2_with fail
    refine bodyPost_ret (v := .tuple #[.agg #[.int .i64 0, .int .i64 0], .int .i64 2]) (by simp [results, Try.results35, go_sem, hx]) rfl ⟨by rw [(HV.out _ _).1, (HV.out _ _).2.1, (HV.out _ _).2.2], ?_⟩
    exact ((past_three hb).setCell (by simp; omega) _).setCell (by simp; omega) _
  · have he : n * c - m * d = n * c + (-m) * d := by rw [Int.neg_mul]; omega
    have b1 := hm.1
    have b2 := hm.2
    have b3 : -9223372036854775808 < m := by omega
    rw [he, ← vld_neg m c]
    clear he
    go_enter Try.func35, Try.ntmps35
    go_wp2_with fail
    refine (refAdd_any _ _ _ _ _ hn hd (by unfold I64; omega) hc).mono ?_
    rintro e w1 ⟨rfl, hb⟩
    obtain ⟨hx, hf⟩ := bcell hb
    go_wp2_with fail
    refine bodyPost_ret (v := .tuple #[.agg #[.int .i64 (opNum (vldB n d && vldB (-m) c) (n * c + (-m) * d) (d * c)), .int .i64 (opDen (vldB n d && vldB (-m) c) (n * c + (-m) * d) (d * c))], .int .i64 (opErr (vldB n d && vldB (-m) c) (n * c + (-m) * d) (d * c))]) (by simp [results, Try.results35, go_sem, hx]) rfl ⟨rfl, ?_⟩
    exact ((past_three hb).setCell (by simp; omega) _).setCell (by simp; omega) _
end Go.Proofs.Ytjfhjckacfkpoaa

namespace Go.Proofs.Ytjfhjckacfkpoaa
open Go.RowKit

/-- Points: the values of the clocks from 1 on. -/
abbrev Pq := Int × Int

def gp (ps : List Pq) (k : Nat) : Pq := ps.getD k (0, 0)

def clk (ps : List Pq) (i : Nat) : Pq := if i = 0 then (0, 1) else gp ps (i - 1)

def Rd2 (w : World) (a : Addr) (ps : List Pq) : Prop := ∀ j, j < ps.length → w.cell? (a.add (j * 2)) = some (.int .i64 (gp ps j).1) ∧ w.cell? ⟨(a.add (j * 2)).block, (a.add (j * 2)).off + 1, none⟩ = some (.int .i64 (gp ps j).2)

theorem Rd2.on {w w' : World} {a : Addr} {l : List Pq} (h : Rd2 w a l) (hb : Below w.heap.size w w') : Rd2 w' a l := fun j hj => ⟨kept hb (h j hj).1, kept hb (h j hj).2⟩

def Arg2 (w : World) (po : Option Addr) (ps : List Pq) : Prop := ps ≠ [] → ∃ a, po = some a ∧ Rd2 w a ps

theorem Arg2.on {w w' : World} {ao : Option Addr} {l : List Pq} (h : Arg2 w ao l) (hb : Below w.heap.size w w') : Arg2 w' ao l := fun hl => by
  obtain ⟨a, h1, h2⟩ := h hl
  exact ⟨a, h1, h2.on hb⟩

set_option maxHeartbeats 400000 in
theorem clock_any (ps : List Pq) (po : Option Addr) (pc i : Nat) (w : World) (hA : Arg2 w po ps) (hi : i ≤ ps.length) (hl : ps.length ≤ 1000) :
    Calls Try.prog 36 #[.slice po ps.length pc, .int .i64 i] w (Made (.agg #[.int .i64 (clk ps i).1, .int .i64 (clk ps i).2]) w) := by
  by_cases h0 : i = 0
  · have H := Lib.hid (show clk ps i = (0, 1) by unfold clk; rw [if_pos h0])
    have I0 : ((i : Int) == 0) = true := by simp; omega
    clear h0
    generalize ps.length = len at *
    go_enter Try.func36, Try.ntmps36
    go_wp2_with fail
    refine bodyPost_ret (v := .agg #[.int .i64 0, .int .i64 1]) (by simp [results, Try.results36, go_sem]) rfl ⟨by rw [H.out], ?_⟩
    exact one_more _
  · have H := Lib.hid (show clk ps i = gp ps (i - 1) by unfold clk; rw [if_neg h0])
    obtain ⟨a, rfl, hR⟩ := hA (fun e => by rw [e] at hi; simp at hi; omega)
    obtain ⟨k, rfl⟩ : ∃ k, i = k + 1 := ⟨i - 1, by omega⟩
    have c0 := fun o => (hR.on (one_more (w1 := w) o)) k (by omega)
    rw [show k + 1 - 1 = k by omega] at H
    generalize gp ps k = q at *
    obtain ⟨x, y⟩ := q
    have d0 : ∀ o, (w.alloc o).cell? (a.add (k * 2)) = some (.int .i64 x) := fun o => (c0 o).1
    have d1 : ∀ o, (w.alloc o).cell? ⟨(a.add (k * 2)).block, (a.add (k * 2)).off + 1, none⟩ = some (.int .i64 y) := fun o => (c0 o).2
    have I0 : (((k + 1 : Nat) : Int) == 0) = false := by simp; omega
    have kl : (k : Int) < (ps.length : Int) := by omega
    clear c0 hR hA
    generalize ps.length = len at *
    go_enter Try.func36, Try.ntmps36
    go_wp2_with fail
    refine bodyPost_ret (v := .agg #[.int .i64 x, .int .i64 y]) (by simp [results, Try.results36, go_sem]) rfl ⟨by rw [H.out], ?_⟩
    exact one_more _

/-- A value of a clock: a ratio from 0 on. -/
def vldC (c : Pq) : Bool := vldB c.1 c.2 && decide (0 ≤ c.1)

def sbE (ps : List Pq) (i j : Nat) : Int := mkErr ((clk ps i).1 * (clk ps j).2 - (clk ps j).1 * (clk ps i).2) ((clk ps i).2 * (clk ps j).2)

def sbN (ps : List Pq) (i j : Nat) : Int := mkNum ((clk ps i).1 * (clk ps j).2 - (clk ps j).1 * (clk ps i).2) ((clk ps i).2 * (clk ps j).2)

def sbD (ps : List Pq) (i j : Nat) : Int := mkDen ((clk ps i).1 * (clk ps j).2 - (clk ps j).1 * (clk ps i).2) ((clk ps i).2 * (clk ps j).2)

def rdR (n : Nat) (ps : List Pq) : Bool := (List.range (n + 1)).all fun i => (List.range (n + 1)).all fun j => decide (sbE ps i j = 0)

def rdE (N : Int) (l : List Int) (ps : List Pq) : Int := if chkE N l = 0 ∧ (ps.length : Int) = N ∧ ps.all vldC = true then (if rdR N.toNat ps then 0 else 7) else 2

theorem rd_all {ps : List Pq} (h : ps.all vldC = true) (k : Nat) (hk : k < ps.length) : vldC (gp ps k) = true := by
  rw [List.all_eq_true] at h
  have := h ps[k] (List.getElem_mem hk)
  simpa [gp, hk] using this

theorem rd_of {ps : List Pq} (h : ∀ k, k < ps.length → vldC (gp ps k) = true) : ps.all vldC = true := by
  rw [List.all_eq_true]
  intro x hx
  obtain ⟨k, hk, rfl⟩ := List.getElem_of_mem hx
  have := h k hk
  simpa [gp, hk] using this

theorem rdR_at {n : Nat} {ps : List Pq} (h : rdR n ps = true) {i j : Nat} (hi : i < n + 1) (hj : j < n + 1) : sbE ps i j = 0 := by
  simp [rdR] at h; exact h i hi j hj

theorem rdR_of {n : Nat} {ps : List Pq} (h : ∀ i, i < n + 1 → ∀ j, j < n + 1 → sbE ps i j = 0) : rdR n ps = true := by
  simp [rdR]; exact h

theorem clk_ok {ps : List Pq} (h : ∀ k, k < ps.length → vldC (gp ps k) = true) {i : Nat} (hi : i ≤ ps.length) : vldB (clk ps i).1 (clk ps i).2 = true := by
  unfold clk
  split
  · decide +kernel
  · have := h (i - 1) (by omega)
    unfold vldC at this
    simp at this
    exact this.1

/-- The difference of two clocks. -/
theorem sub_clk {ps : List Pq} (w : World) (h : ∀ k, k < ps.length → vldC (gp ps k) = true) {i j : Nat} (hi : i ≤ ps.length) (hj : j ≤ ps.length) :
    Calls Try.prog 35 #[.agg #[.int .i64 (clk ps i).1, .int .i64 (clk ps i).2], .agg #[.int .i64 (clk ps j).1, .int .i64 (clk ps j).2]] w (Made (.tuple #[.agg #[.int .i64 (sbN ps i j), .int .i64 (sbD ps i j)], .int .i64 (sbE ps i j)]) w) := by
  have v1 := clk_ok h hi
  have v2 := clk_ok h hj
  obtain ⟨a1, a2, a3, a4⟩ := vld_bd v1
  obtain ⟨b1, b2, b3, b4⟩ := vld_bd v2
  have := refSub_any (clk ps i).1 (clk ps i).2 (clk ps j).1 (clk ps j).2 w (by unfold I64; omega) (by unfold I64; omega) (by unfold I64; omega) (by unfold I64; omega)
  rw [v1, v2] at this
  exact this

set_option maxHeartbeats 400000 in
theorem ready_bad1 (N : Int) (l : List Int) (ao : Option Addr) (cap : Nat) (ps : List Pq) (po : Option Addr) (pc : Nat) (w : World) (hA : Arg w ao l) (hc : chkE N l ≠ 0) :
    Calls Try.prog 34 #[.agg #[.int .i64 N, .slice ao l.length cap], .slice po ps.length pc] w (Made (.int .i64 (rdE N l ps)) w) := by
  have H := Lib.hid (show rdE N l ps = 2 by unfold rdE; rw [if_neg (fun h => hc h.1)])
  have CK := Lib.hid fun W (h : Below w.heap.size w W) => check_as (cap := cap) W (hA.on h) (chk_two hc)
  have e0 := Lib.hid (one_more (w1 := w))
  clear hA hc
  generalize l.length = len at *
  generalize ps.length = plen at *
  go_enter Try.func34, Try.ntmps34
  go_wp2_with fail
  refine (CK.out _ (e0.out _)).mono ?_
  rintro e w1 ⟨rfl, hb⟩
  go_wp2_with fail
  go_ret
  exact ⟨ret_int H.out.symm, past_one hb⟩

set_option maxHeartbeats 400000 in
theorem ready_bad2 (N : Int) (l : List Int) (ao : Option Addr) (cap : Nat) (ps : List Pq) (po : Option Addr) (pc : Nat) (w : World) (hA : Arg w ao l) (hc : chkE N l = 0) (hp : (ps.length : Int) ≠ N) :
    Calls Try.prog 34 #[.agg #[.int .i64 N, .slice ao l.length cap], .slice po ps.length pc] w (Made (.int .i64 (rdE N l ps)) w) := by
  have H := Lib.hid (show rdE N l ps = 2 by unfold rdE; rw [if_neg (fun h => hp h.2.1)])
  have CK := Lib.hid fun W (h : Below w.heap.size w W) => check_as (cap := cap) W (hA.on h) hc
  have e0 := Lib.hid (one_more (w1 := w))
  have D : ((ps.length : Int) != N) = true := by simpa using hp
  clear hA hc hp
  generalize l.length = len at *
  generalize ps.length = plen at *
  go_enter Try.func34, Try.ntmps34
  go_wp2_with fail
  refine (CK.out _ (e0.out _)).mono ?_
  rintro e w1 ⟨rfl, hb⟩
  obtain ⟨b0, b1, b2, b3⟩ := ((Two.made w (.int .i64 N) (.slice ao len cap) 24).kept hb).facts
  go_wp2_with fail
  go_ret
  exact ⟨ret_int H.out.symm, past_one hb⟩

set_option maxHeartbeats 1600000 in
theorem ready_any (n : Nat) (l : List Int) (a : Addr) (cap : Nat) (ps : List Pq) (po : Option Addr) (pc : Nat) (w : World) (hn : n ≤ 10) (hl : l.length = (n + 1) * (n + 1)) (hR : Rd w a l) (hc : chkE n l = 0) (hp : ps.length = n) (hP : Arg2 w po ps) (hI : ∀ k, k < ps.length → I64 (gp ps k).1 ∧ I64 (gp ps k).2) :
    Calls Try.prog 34 #[.agg #[.int .i64 n, .slice (some a) l.length cap], .slice po ps.length pc] w (Made (.int .i64 (rdE n l ps)) w) := by
  obtain ⟨len, hlen⟩ : ∃ len, len = l.length := ⟨_, rfl⟩
  obtain ⟨w0, hw0⟩ : ∃ w0, w0 = w.alloc (.cells #[.int .i64 n, .slice (some a) len cap] 24) := ⟨_, rfl⟩
  have bx : Two w0 w.heap.size (.int .i64 n) (.slice (some a) len cap) := by rw [hw0]; exact Two.made _ _ _ _
  have e0 : Below w.heap.size w w0 := by rw [hw0]; exact one_more _
  have CK : Hid (∀ W, Below w.heap.size w W → Calls Try.prog 29 #[.agg #[.int .i64 n, .slice (some a) len cap]] W (Made (.int .i64 0) W)) := Lib.hid fun W h => by have := check_any n l a cap W hn hl (hR.on h); rw [hc, ← hlen] at this; exact this
  have CL : Hid (∀ (i : Nat) (W : World), i ≤ n → Below w.heap.size w W → Calls Try.prog 36 #[.slice po n pc, .int .i64 i] W (Made (.agg #[.int .i64 (clk ps i).1, .int .i64 (clk ps i).2]) W)) := Lib.hid fun i W hi h => by have := clock_any ps po pc i W (hP.on h) (by omega) (by omega); rw [hp] at this; exact this
  have HP := Lib.hid hP
  have HI := Lib.hid hI
  have HPl := Lib.hid hp
  have HC := Lib.hid hc
  have E0 := Lib.hid e0
  have HW0 := Lib.hid hw0
  have D0 : ((n : Int) != (n : Int)) = false := by simp
  rw [hp, ← hlen]
  clear hR hc hp hP hI e0 hw0 hl hlen
  go_enter Try.func34, Try.ntmps34
  go_wp2_with fail
  rw [← HW0.out]
  obtain ⟨b0, b1, b2, b3⟩ := bx.facts
  go_wp2_with fail
  refine (CK.out _ E0.out).mono ?_
  rintro e w1 ⟨rfl, hb1⟩
  clear b0 b1 b2 b3
  replace bx := bx.kept hb1
  have E1 := Lib.hid (below_on E0.out hb1)
  clear hb1 E0
  obtain ⟨b0, b1, b2, b3⟩ := bx.facts
  go_wp2_with fail
  clear b0 b1 b2 b3
  go_loopw [5] (fun s wr => ∃ t : Nat, t ≤ n ∧ s = .int .i64 t ∧ Hid (∀ k, k < t → vldC (gp ps k) = true) ∧ Hid (Below w1.heap.size w1 wr)) (fun s _ => n - (intOf s).toNat)
  case atStart => exact ⟨0, by omega, rfl, Lib.hid (fun k hk => by omega), Lib.hid (Below.refl _ _)⟩
  case round =>
    obtain ⟨t, ht, rfl, HK, HB⟩ := hrel
    by_cases htn : t < n
    · obtain ⟨d, hd, hD⟩ := HP.out (fun e => by have := HPl.out; rw [e] at this; simp at this; omega)
      subst hd
      obtain ⟨i1, i2⟩ := HI.out t (by rw [HPl.out]; exact htn)
      obtain ⟨c1, c2⟩ := (hD.on (below_on E1.out HB.out)) t (by rw [HPl.out]; exact htn)
      obtain ⟨q, hq⟩ : ∃ q, q = gp ps t := ⟨_, rfl⟩
      rw [← hq] at c1 c2 i1 i2
      have HQ := Lib.hid hq
      clear hq hD
      obtain ⟨x, y⟩ := q
      simp only at c1 c2 i1 i2
      cases v : vldB x y
      · have HE := Lib.hid (show rdE n l ps = 2 by
          unfold rdE
          rw [if_neg]
          rintro ⟨_, _, h⟩
          have := rd_all h t (by rw [HPl.out]; exact htn)
          rw [← HQ.out] at this
          simp [vldC, v] at this)
        have V := Lib.hid v
        clear v
        go_wp2_with fail
        refine (refValid_as _ i1 i2 V.out).mono ?_
        rintro e w2 ⟨rfl, hb2⟩
        go_wp2_with fail
        go_ret
        exact ⟨ret_int HE.out.symm, below_on (below_on E1.out HB.out) hb2⟩
      · have V := Lib.hid v
        by_cases x0 : x < 0
        · have HE := Lib.hid (show rdE n l ps = 2 by
            unfold rdE
            rw [if_neg]
            rintro ⟨_, _, h⟩
            have := rd_all h t (by rw [HPl.out]; exact htn)
            rw [← HQ.out] at this
            simp [vldC, v] at this
            omega)
          have D : decide (x < (0 : Int)) = true := by simpa using x0
          clear v
          go_wp2_with fail
          refine (refValid_as _ i1 i2 V.out).mono ?_
          rintro e w2 ⟨rfl, hb2⟩
          replace c1 := kept hb2 c1
          replace c2 := kept hb2 c2
          go_wp2_with fail
          go_ret
          exact ⟨ret_int HE.out.symm, below_on (below_on E1.out HB.out) hb2⟩
        · have HK2 := Lib.hid (show vldC (gp ps t) = true by rw [← HQ.out]; simp [vldC, v]; omega)
          have D : decide (x < (0 : Int)) = false := by simp; omega
          clear v
          go_wp2_with fail
          refine (refValid_as _ i1 i2 V.out).mono ?_
          rintro e w2 ⟨rfl, hb2⟩
          replace c1 := kept hb2 c1
          replace c2 := kept hb2 c2
          have HB2 := Lib.hid (below_on HB.out hb2)
          clear hb2
          go_wp2_with fail
          go_roundw
          case rel =>
            refine ⟨t + 1, by omega, by go_num, Lib.hid (fun k hk => ?_), HB2⟩
            by_cases e : k = t
            · rw [e]; exact HK2.out
            · exact HK.out k (by omega)
          case measure => simp [intOf]; omega
    · have HV := Lib.hid (show ∀ k, k < ps.length → vldC (gp ps k) = true from fun k hk => HK.out k (by rw [HPl.out] at hk; omega))
      have HA := Lib.hid (rd_of HV.out)
      have SB := Lib.hid fun (i j : Nat) (W : World) (hi : i ≤ n) (hj : j ≤ n) => sub_clk (ps := ps) W HV.out (i := i) (j := j) (by rw [HPl.out]; exact hi) (by rw [HPl.out]; exact hj)
      clear HK
      go_wp2_with fail
      go_loopw [6] (fun s wx => ∃ t : Nat, t ≤ n + 1 ∧ s = .int .i64 t ∧ Hid (∀ i, i < t → ∀ j, j < n + 1 → sbE ps i j = 0) ∧ Hid (Below w1.heap.size w1 wx)) (fun s _ => n + 1 - (intOf s).toNat)
      case atStart => exact ⟨0, by omega, rfl, Lib.hid (fun k hk => by omega), HB⟩
      case round =>
        clear HB
        obtain ⟨i, hi, rfl, HS, HB⟩ := hrel
        obtain ⟨b0, b1, b2, b3⟩ := (bx.kept HB.out).facts
        by_cases hin : i ≤ n
        · go_wp2_with fail
          clear b0 b1 b2 b3
          go_loopw [7] (fun s wx => ∃ t : Nat, t ≤ n + 1 ∧ s = .int .i64 t ∧ Hid (∀ j, j < t → sbE ps i j = 0) ∧ Hid (Below w1.heap.size w1 wx)) (fun s _ => n + 1 - (intOf s).toNat)
          case atStart => exact ⟨0, by omega, rfl, Lib.hid (fun k hk => by omega), HB⟩
          case round =>
            obtain ⟨j, hj, rfl, HJ, HBj⟩ := hrel
            obtain ⟨b0, b1, b2, b3⟩ := (bx.kept HBj.out).facts
            by_cases hjn : j ≤ n
            · by_cases hs : sbE ps i j = 0
              · have SB2 := Lib.hid fun (W : World) => by have := SB.out i j W hin hjn; rw [hs] at this; exact this
                have HS2 := Lib.hid hs
                clear hs
                go_wp2_with fail
                refine (CL.out i _ hin (below_on E1.out HBj.out)).mono ?_
                rintro e w3 ⟨rfl, hb3⟩
                have q3 := below_on HBj.out hb3
                clear hb3 b0 b1 b2 b3
                go_wp2_with fail
                refine (CL.out j _ hjn (below_on E1.out q3)).mono ?_
                rintro e w4 ⟨rfl, hb4⟩
                have q4 := below_on q3 hb4
                clear hb4 q3
                go_wp2_with fail
                refine (SB2.out _).mono ?_
                rintro e w5 ⟨rfl, hb5⟩
                have Q5 := Lib.hid (below_on q4 hb5)
                clear hb5 q4
                go_wp2_with fail
                go_roundw
                case rel =>
                  refine ⟨j + 1, by omega, by go_num, Lib.hid (fun k hk => ?_), Lib.hid (Q5.out.alloc Q5.out.size _)⟩
                  by_cases e : k = j
                  · rw [e]; exact HS2.out
                  · exact HJ.out k (by omega)
                case measure => simp [intOf]; omega
              · have HE := Lib.hid (show rdE n l ps = 7 by
                  unfold rdE
                  rw [if_pos ⟨HC.out, by rw [HPl.out], HA.out⟩]
                  have : rdR n ps = false := by
                    cases e : rdR n ps
                    · rfl
                    · have := rdR_at e (i := i) (j := j) (by omega) (by omega)
                      exact absurd this hs
                  simp [this])
                have D : (sbE ps i j != 0) = true := by simpa using hs
                have SB2 := Lib.hid fun (W : World) => SB.out i j W hin hjn
                generalize sbE ps i j = er at *
                clear hs
                go_wp2_with fail
                refine (CL.out i _ hin (below_on E1.out HBj.out)).mono ?_
                rintro e w3 ⟨rfl, hb3⟩
                have q3 := below_on HBj.out hb3
                clear hb3 b0 b1 b2 b3
                go_wp2_with fail
                refine (CL.out j _ hjn (below_on E1.out q3)).mono ?_
                rintro e w4 ⟨rfl, hb4⟩
                have q4 := below_on q3 hb4
                clear hb4 q3
                go_wp2_with fail
                refine (SB2.out _).mono ?_
                rintro e w5 ⟨rfl, hb5⟩
                have Q5 := Lib.hid (below_on q4 hb5)
                clear hb5 q4
                go_wp2_with fail
                go_ret
                exact ⟨ret_int HE.out.symm, (below_on E1.out Q5.out).alloc (below_on E1.out Q5.out).size _⟩
            · have HS3 := Lib.hid (show ∀ x, x < i + 1 → ∀ j, j < n + 1 → sbE ps x j = 0 from fun x hx y hy => by
                by_cases e : x = i
                · rw [e]; exact HJ.out y (by omega)
                · exact HS.out x (by omega) y hy)
              go_wp2_with fail
              go_roundw
              case rel => exact ⟨i + 1, by omega, by go_num, HS3, HBj⟩
              case measure => simp [intOf]; omega
        · have HE := Lib.hid (show rdE n l ps = 0 by
            unfold rdE
            rw [if_pos ⟨HC.out, by rw [HPl.out], HA.out⟩]
            have : rdR n ps = true := rdR_of (fun i hi j hj => HS.out i (by omega) j hj)
            simp [this])
          go_wp2_with fail
          go_ret
          exact ⟨ret_int HE.out.symm, below_on E1.out HB.out⟩
end Go.Proofs.Ytjfhjckacfkpoaa

namespace Go.Proofs.Ytjfhjckacfkpoaa
open Go.RowKit

/-- What common says of a point, if it is not 0. -/
def CoOk (ps : List Pq) (t : Nat) (D : Int) : Prop := 1 ≤ D ∧ D ≤ 500 ∧ ∀ k, k < t → (1 ≤ (gp ps k).2 ∧ (gp ps k).2 ≤ 500 ∧ 0 ≤ (gp ps k).1 ∧ (gp ps k).1 ≤ 1048576 ∧ (gp ps k).2 ∣ D)

theorem CoOk.step {ps : List Pq} {t : Nat} {B d G : Nat} (h : CoOk ps t B) (hd : (gp ps t).2 = d) (d1 : 1 ≤ d) (d5 : d ≤ 500) (n0 : 0 ≤ (gp ps t).1) (n1 : (gp ps t).1 ≤ 1048576) (hG : G = Nat.gcd B d) (hb : B / G * d ≤ 500) : CoOk ps (t + 1) ((B / G * d : Nat) : Int) := by
  obtain ⟨b1, b2, hk⟩ := h
  obtain ⟨u, hu⟩ := Nat.gcd_dvd_left B d
  obtain ⟨v, hv⟩ := Nat.gcd_dvd_right B d
  rw [← hG] at hu hv
  have gp' : 0 < G := by rw [hG]; exact Nat.gcd_pos_of_pos_right _ d1
  have eB : B / G = u := by rw [hu]; exact Nat.mul_div_cancel_left _ gp'
  have e1 : B / G * d = B * v := by rw [eB, hv, hu, ← Nat.mul_assoc, Nat.mul_comm u G]
  have up : 1 ≤ u := by
    rcases Nat.eq_zero_or_pos u with z | z
    · rw [z, Nat.mul_zero] at hu; omega
    · exact z
  refine ⟨?_, by omega, fun k hkt => ?_⟩
  · have : 1 ≤ B / G * d := by rw [eB]; exact Nat.mul_pos up d1
    omega
  · by_cases c : k = t
    · subst c
      refine ⟨by omega, by omega, n0, n1, ?_⟩
      rw [hd]
      exact Int.natCast_dvd_natCast.2 ⟨B / G, by rw [Nat.mul_comm]⟩
    · obtain ⟨a, b, c', d', e⟩ := hk k (by omega)
      refine ⟨a, b, c', d', Int.dvd_trans e (Int.natCast_dvd_natCast.2 ⟨v, e1⟩)⟩

set_option maxRecDepth 100000 in
set_option maxHeartbeats 4000000 in
theorem common_any (ps : List Pq) (po : Option Addr) (pc : Nat) (w : World) (hP : Arg2 w po ps) (hl : ps.length ≤ 1000) :
    Calls Try.prog 15 #[.slice po ps.length pc] w (fun e w' => Below w.heap.size w w' ∧ ∃ r : Int, e = .returned (.int .i64 r) ∧ (r = 0 ∨ CoOk ps ps.length r)) := by
  obtain ⟨len, hlen⟩ : ∃ len, len = ps.length := ⟨_, rfl⟩
  have HL := Lib.hid hlen
  have HP := Lib.hid (show ∀ W n, W = w.drewN n → ∀ t, t < len → ∃ a, po = some a ∧ W.cell? (a.add (t * 2)) = some (.int .i64 (gp ps t).1) ∧ W.cell? ⟨(a.add (t * 2)).block, (a.add (t * 2)).off + 1, none⟩ = some (.int .i64 (gp ps t).2) from fun W n e t h => by
    obtain ⟨a, ha, hr⟩ := hP (fun q => by rw [hlen, q] at h; simp at h)
    subst e
    exact ⟨a, ha, by simpa using (hr t (by omega)).1, by simpa using (hr t (by omega)).2⟩)
  rw [← hlen]
  have ll : len ≤ 1000 := by omega
  clear hP hlen hl
  go_enter Try.func15, Try.ntmps15
  go_wp2_with fail
  go_loopw [4, 3, 5, 6] (fun s b _ _ wr => ∃ (t B n : Nat), s = .int .i64 t ∧ b = .int .i64 B ∧ t ≤ len ∧ 1 ≤ B ∧ B ≤ 500 ∧ Hid (CoOk ps t B) ∧ Hid (wr = w.drewN n)) (fun s _ _ _ _ => len - (intOf s).toNat)
  case atStart => exact ⟨0, 1, 0, rfl, rfl, by omega, by omega, by omega, Lib.hid ⟨by omega, by omega, fun k hk => by omega⟩, Lib.hid rfl⟩
  case round =>
    obtain ⟨t, B, n, rfl, rfl, ht, hB1, hB5, HC, hw⟩ := hrel
    have EQ := Lib.hid (show Below w.heap.size w wr by rw [hw.out]; exact below_drewN (Below.refl _ _) _)
    by_cases htl : t < len
    · obtain ⟨a, hpo, c0, c1⟩ := HP.out _ _ hw.out t htl
      have HPO := Lib.hid hpo
      subst hpo
      obtain ⟨nm, hnm⟩ : ∃ x, x = (gp ps t).1 := ⟨_, rfl⟩
      obtain ⟨dn, hdn⟩ : ∃ x, x = (gp ps t).2 := ⟨_, rfl⟩
      rw [← hnm] at c0
      rw [← hdn] at c1
      have HN := Lib.hid hnm
      have HDN := Lib.hid hdn
      clear hnm hdn
      by_cases h1 : dn < 1
      · have D1 : decide (dn < (1 : Int)) = true := by simpa using h1
        clear h1
        go_wp2_with fail
        go_ret
        exact ⟨EQ.out, 0, rfl, Or.inl rfl⟩
      have D1 : decide (dn < (1 : Int)) = false := by simp; omega
      by_cases h2 : 500 < dn
      · have D2 : decide ((500 : Int) < dn) = true := by simpa using h2
        clear h1 h2
        go_wp2_with fail
        go_ret
        exact ⟨EQ.out, 0, rfl, Or.inl rfl⟩
      have D2 : decide ((500 : Int) < dn) = false := by simp; omega
      by_cases h3 : nm < 0
      · have D3 : decide (nm < (0 : Int)) = true := by simpa using h3
        clear h1 h2 h3
        go_wp2_with fail
        go_ret
        exact ⟨EQ.out, 0, rfl, Or.inl rfl⟩
      have D3 : decide (nm < (0 : Int)) = false := by simp; omega
      by_cases h4 : 1048576 < nm
      · have D4 : decide ((1048576 : Int) < nm) = true := by simpa using h4
        clear h1 h2 h3 h4
        go_wp2_with fail
        go_ret
        exact ⟨EQ.out, 0, rfl, Or.inl rfl⟩
      have D4 : decide ((1048576 : Int) < nm) = false := by simp; omega
      obtain ⟨d, rfl⟩ : ∃ d : Nat, dn = d := ⟨dn.toNat, by omega⟩
      have dd : 1 ≤ d ∧ d ≤ 500 := by omega
      have HNM := Lib.hid (show 0 ≤ nm ∧ nm ≤ 1048576 by omega)
      clear h1 h2 h3 h4
      go_wp2_with fail
      go_quiet (fail)
      go_wp2_with fail
      go_loopw [5, 6] (fun x y wq => ∃ p q m : Nat, x = .int .i64 p ∧ y = .int .i64 q ∧ p ≤ 500 ∧ q ≤ 500 ∧ Hid (Nat.gcd p q = Nat.gcd B d) ∧ Hid (wq = w.drewN m)) (fun _ y _ => (intOf y).toNat)
      case atStart => exact ⟨B, d, _, rfl, rfl, hB5, dd.2, Lib.hid rfl, Lib.hid (by rw [hw.out, World.drewN_drewN])⟩
      case round =>
        obtain ⟨p, q, m, rfl, rfl, hp, hq, hg, hw2⟩ := hrel
        by_cases hz : q = 0
        · subst hz
          have Hz2 : ((0 : Nat) : Int) = 0 := rfl
          obtain ⟨G, hG⟩ : ∃ G, G = Nat.gcd B d := ⟨_, rfl⟩
          have hpG : p = G := by have := hg.out; simp at this; rw [hG]; exact this
          subst hpG
          have p1 : 1 ≤ p := by rw [hG]; exact Nat.gcd_pos_of_pos_right _ dd.1
          have HG := Lib.hid hG
          obtain ⟨a', hpo', e0, e1⟩ := HP.out _ _ hw2.out t htl
          injection hpo' with hpo'
          subst hpo'
          rw [← HN.out] at e0
          rw [← HDN.out] at e1
          obtain ⟨u, hu⟩ : ∃ u, u = B / p := ⟨_, rfl⟩
          have q1 : (B : Int).tdiv (p : Int) = (u : Int) := by rw [Int.tdiv_eq_ediv_of_nonneg (by omega), hu]; rfl
          have bq : u ≤ 500 := by rw [hu]; exact Nat.le_trans (Nat.div_le_self _ _) hB5
          have HU := Lib.hid hu
          clear hu
          have q2 : wrap64 (u : Int) = (u : Int) := by unfold wrap64; omega
          have bm : u * d ≤ 250000 := Nat.mul_le_mul bq dd.2
          have q4 : (u : Int) * (d : Int) = ((u * d : Nat) : Int) := by rw [← Int.natCast_mul]
          have q3 : wrap64 ((u : Int) * (d : Int)) = ((u * d : Nat) : Int) := by rw [q4]; generalize u * d = z at *; unfold wrap64; omega
          have HUD := Lib.hid q4
          have p0 : ((p : Int) == 0) = false := by simp; omega
          have p00 : ((p : Int) = 0) = False := by simp; omega
          have EQ2 := Lib.hid (show Below w.heap.size w wr by rw [hw2.out]; exact below_drewN (Below.refl _ _) _)
          have ST := Lib.hid (fun h5 : u * d ≤ 500 => HC.out.step (G := p) (by rw [← HDN.out]) dd.1 dd.2 (by rw [← HN.out]; exact HNM.out.1) (by rw [← HN.out]; exact HNM.out.2) HG.out (by rw [← HU.out]; exact h5))
          rw [← HU.out] at ST
          have U1 : 1 ≤ u := by
            rw [HU.out]
            have : p ∣ B := by rw [HG.out]; exact Nat.gcd_dvd_left _ _
            exact Nat.div_pos (Nat.le_of_dvd (by omega) this) (by omega)
          have UD1 : 1 ≤ u * d := Nat.mul_pos U1 dd.1
          obtain ⟨z, hz⟩ : ∃ z, z = u * d := ⟨_, rfl⟩
          rw [← hz] at q3 bm ST UD1
          clear hG q4 hz
          by_cases h5 : 500 < z
          · have D5 : decide ((500 : Int) < (z : Int)) = true := by simp; omega
            go_wp2_with fail
            go_quiet (fail)
            go_wp2_with fail
            go_ret
            exact ⟨below_drewN EQ2.out _, 0, rfl, Or.inl rfl⟩
          · have D5 : decide ((500 : Int) < (z : Int)) = false := by simp; omega
            have HZ := Lib.hid (show z ≤ 500 by omega)
            go_wp2_with fail
            go_quiet (fail)
            go_wp2_with fail
            go_roundw
            case rel => exact ⟨t + 1, z, _, by go_num, by first | rfl | rw [q3], by omega, UD1, HZ.out, Lib.hid (ST.out HZ.out), Lib.hid (by rw [hw2.out, World.drewN_drewN])⟩
            case measure => simp [intOf]; omega
        · have Hz2 : ((q : Int) != 0) = true := by simpa using hz
          have Hz : ((q : Int) == 0) = false := by simpa using hz
          have hm : (p : Int).tmod (q : Int) = ((p % q : Nat) : Int) := by rw [Int.tmod_eq_emod_of_nonneg (by omega)]; rfl
          have hml := Nat.mod_lt p (Nat.pos_of_ne_zero hz)
          go_wp2_with fail
          go_quiet (fail)
          go_wp2_with fail
          go_roundw
          case rel => exact ⟨q, p % q, _, rfl, rfl, hq, by omega, Lib.hid (by rw [← hg.out, Nat.gcd_comm p q, Nat.gcd_rec q p, Nat.gcd_comm]), Lib.hid (by rw [hw2.out, World.drewN_drewN])⟩
          case measure => simp [intOf]; omega
    · go_wp2_with fail
      go_ret
      exact ⟨EQ.out, _, rfl, Or.inr (by rw [show len = t by omega]; exact HC.out)⟩
end Go.Proofs.Ytjfhjckacfkpoaa

namespace Go.Proofs.Ytjfhjckacfkpoaa
open Go.RowKit

/-- Whether the number n / d meets the limit l. -/
def mtB (n d l : Int) : Bool := noB l || (if evB l then decide (n < l / 2 * d) else decide (n ≤ l / 2 * d))

def meB (n d l : Int) : Bool := vldB n d && lvB l && mtB n d l

def meE (n d l : Int) : Int := if vldB n d && lvB l then 0 else 2

theorem ret_be {a b : Bool} {c d : Int} (h : a = b) (g : c = d) : Ending.returned (.tuple #[.bool a, .int .i64 c]) = .returned (.tuple #[.bool b, .int .i64 d]) := by rw [h, g]

theorem of_small {c : Int} (h1 : -2147483647 ≤ c) (h2 : c ≤ 2147483647) : mkNum c 1 = c ∧ mkDen c 1 = 1 ∧ mkErr c 1 = 0 := by
  have ht : top c 1 = c.natAbs := by unfold top; simp
  have hb : bot c 1 = 1 := by unfold bot; simp
  have hf : fits c 1 = true := by unfold fits; rw [ht, hb]; simp; omega
  unfold mkNum mkDen mkErr
  have h0 : ¬ ((1 : Int) = 0) := by decide
  simp only [if_neg h0, hf, if_true, ht, hb]
  refine ⟨?_, by simp⟩
  by_cases hc : c < 0
  · simp [hc]; omega
  · simp [hc]; omega

theorem vld_small {c : Int} (h1 : -2147483647 ≤ c) (h2 : c ≤ 2147483647) : vldB c 1 = true := by unfold vldB; simp; omega

theorem sgn_three (x y : Int) : (sgn x y = -1 ∧ x < y) ∨ (sgn x y = 0 ∧ x = y) ∨ (sgn x y = 1 ∧ y < x) := by
  unfold sgn
  by_cases h : x < y
  · simp [h]
  · by_cases g : y < x
    · simp [h, g]
    · right; left; rw [if_neg h, if_neg g]; omega

set_option maxHeartbeats 400000 in
theorem refLimMeets_some (n d l : Int) (w : World) (v : vldB n d = true) (hl : I64 l) (vl : lvB l = true) (nl : noB l = false) (l1 : -2147483648 ≤ l) (l2 : l ≤ 2147483649) :
    Calls Try.prog 37 #[.agg #[.int .i64 n, .int .i64 d], .int .i64 l] w (Made (.tuple #[.bool (meB n d l), .int .i64 (meE n d l)]) w) := by
  obtain ⟨x1, x2, x3, x4⟩ := vld_bd v
  have L0 : (l == 1099511627776) = false := by simpa [noB] using nl
  have hS := fun W => refSplit_some W hl vl nl
  have HM := Lib.hid (show meB n d l = (if evB l then decide (n < l / 2 * d) else decide (n ≤ l / 2 * d)) ∧ meE n d l = 0 by simp [meB, mtB, meE, v, vl, nl])
  obtain ⟨c, hc⟩ : ∃ c, c = l / 2 := ⟨_, rfl⟩
  have c1 : -2147483647 ≤ c := by omega
  have c2 : c ≤ 2147483647 := by omega
  obtain ⟨p1a, p1b⟩ := mul_bd c1 c2 (show -2147483647 ≤ d by omega) x2
  have e1 := wrap_in (c * d) (by omega) (by omega)
  obtain ⟨s, hs⟩ : ∃ s, s = evB l := ⟨_, rfl⟩
  rw [← hc, ← hs] at hS HM
  clear hc hs
  have V := Lib.hid v
  have VL := Lib.hid vl
  have HS := Lib.hid hS
  clear v vl nl hS
  cases s
  all_goals
    go_enter Try.func37, Try.ntmps37
    go_wp2_with fail
    refine (refValid_as _ ⟨by omega, by omega⟩ ⟨by omega, by omega⟩ V.out).mono ?_
    rintro e w1 ⟨rfl, hb⟩
    have hB := past_one hb
    have pA := (Pair.made w n d 48).kept hb
    clear hb
    obtain ⟨fA0, fA1, fA2, fA3⟩ := pA.facts
    have gA := pA.lt
    go_wp2_with fail
    refine (refLimValid_as _ hl VL.out).mono ?_
    rintro e w' ⟨rfl, rfl⟩
    go_wp2_with fail
    refine (HS.out _).mono ?_
    rintro e w' ⟨rfl, rfl⟩
    go_wp2_with fail
    go_ret2
    exact ⟨ret_be (by rw [HM.out.1]; simp) HM.out.2.symm, hB⟩

set_option maxHeartbeats 400000 in
theorem refLimMeets_bad1 (n d l : Int) (w : World) (hn : I64 n) (hd : I64 d) (v : vldB n d = false) :
    Calls Try.prog 37 #[.agg #[.int .i64 n, .int .i64 d], .int .i64 l] w (Made (.tuple #[.bool (meB n d l), .int .i64 (meE n d l)]) w) := by
  have HM := Lib.hid (show meB n d l = false ∧ meE n d l = 2 by simp [meB, meE, v])
  have V := Lib.hid v
  clear v
  go_enter Try.func37, Try.ntmps37
  go_wp2_with fail
  refine (refValid_as _ hn hd V.out).mono ?_
  rintro e w1 ⟨rfl, hb⟩
  go_wp2_with fail
  go_ret2
  exact ⟨ret_be HM.out.1.symm HM.out.2.symm, past_one hb⟩

set_option maxHeartbeats 400000 in
theorem refLimMeets_bad2 (n d l : Int) (w : World) (hn : I64 n) (hd : I64 d) (hl : I64 l) (v : vldB n d = true) (vl : lvB l = false) :
    Calls Try.prog 37 #[.agg #[.int .i64 n, .int .i64 d], .int .i64 l] w (Made (.tuple #[.bool (meB n d l), .int .i64 (meE n d l)]) w) := by
  have HM := Lib.hid (show meB n d l = false ∧ meE n d l = 2 by simp [meB, meE, vl])
  have V := Lib.hid v
  have VL := Lib.hid vl
  clear v vl
  go_enter Try.func37, Try.ntmps37
  go_wp2_with fail
  refine (refValid_as _ hn hd V.out).mono ?_
  rintro e w1 ⟨rfl, hb⟩
  go_wp2_with fail
  refine (refLimValid_as _ hl VL.out).mono ?_
  rintro e w' ⟨rfl, rfl⟩
  go_wp2_with fail
  go_ret2
  exact ⟨ret_be HM.out.1.symm HM.out.2.symm, past_one hb⟩

set_option maxHeartbeats 400000 in
theorem refLimMeets_none (n d l : Int) (w : World) (hn : I64 n) (hd : I64 d) (hl : I64 l) (v : vldB n d = true) (vl : lvB l = true) (nl : noB l = true) :
    Calls Try.prog 37 #[.agg #[.int .i64 n, .int .i64 d], .int .i64 l] w (Made (.tuple #[.bool (meB n d l), .int .i64 (meE n d l)]) w) := by
  have HM := Lib.hid (show meB n d l = true ∧ meE n d l = 0 by simp [meB, mtB, meE, v, vl, nl])
  have L0 : (l == 1099511627776) = true := by simpa [noB] using nl
  have V := Lib.hid v
  have VL := Lib.hid vl
  have NL := Lib.hid nl
  clear v vl nl
  go_enter Try.func37, Try.ntmps37
  go_wp2_with fail
  refine (refValid_as _ hn hd V.out).mono ?_
  rintro e w1 ⟨rfl, hb⟩
  go_wp2_with fail
  refine (refLimValid_as _ hl VL.out).mono ?_
  rintro e w' ⟨rfl, rfl⟩
  go_wp2_with fail
  refine (refSplit_none _ hl VL.out NL.out).mono ?_
  rintro e w' ⟨rfl, rfl⟩
  go_wp2_with fail
  go_ret2
  exact ⟨ret_be HM.out.1.symm HM.out.2.symm, past_one hb⟩

theorem refLimMeets_any (n d l : Int) (w : World) (hn : I64 n) (hd : I64 d) (hl : I64 l) :
    Calls Try.prog 37 #[.agg #[.int .i64 n, .int .i64 d], .int .i64 l] w (Made (.tuple #[.bool (meB n d l), .int .i64 (meE n d l)]) w) := by
  cases v : vldB n d
  · exact refLimMeets_bad1 n d l w hn hd v
  · rcases lvB_cases l with ⟨vl, nl, l0, lr⟩ | ⟨l0, vl, nl⟩ | ⟨vl, nl, l0, l1, l2⟩
    · exact refLimMeets_bad2 n d l w hn hd hl v vl
    · exact refLimMeets_none n d l w hn hd hl v vl nl
    · exact refLimMeets_some n d l w v hl vl nl l1 l2
end Go.Proofs.Ytjfhjckacfkpoaa

namespace Go.Proofs.Ytjfhjckacfkpoaa

theorem gcd_pos (a b : Int) (h : b ≠ 0) : 0 < Nat.gcd a.natAbs b.natAbs := Nat.gcd_pos_of_pos_right _ (by omega)

theorem top_mul (a b : Int) : top a b * Nat.gcd a.natAbs b.natAbs = a.natAbs := Nat.div_mul_cancel (Nat.gcd_dvd_left _ _)

theorem bot_mul (a b : Int) : bot a b * Nat.gcd a.natAbs b.natAbs = b.natAbs := Nat.div_mul_cancel (Nat.gcd_dvd_right _ _)

theorem tb_cop (a b : Int) (h : b ≠ 0) : Nat.gcd (top a b) (bot a b) = 1 := by
  unfold top bot
  exact Nat.Coprime.gcd_eq_one (Nat.coprime_div_gcd_div_gcd (gcd_pos a b h))

theorem bot_pos (a b : Int) (h : b ≠ 0) : 1 ≤ bot a b := by
  have h1 := bot_mul a b
  rcases Nat.eq_zero_or_pos (bot a b) with e | e
  · rw [e] at h1; omega
  · exact e

/-- Parts without a common divisor are those of the number. -/
theorem cop_unique {t u t' u' : Nat} (h : Nat.gcd t u = 1) (h' : Nat.gcd t' u' = 1) (e : t * u' = t' * u) : t = t' ∧ u = u' := by
  have d1 : t ∣ t' := Nat.Coprime.dvd_of_dvd_mul_right (show Nat.Coprime t u from h) (e ▸ Nat.dvd_mul_right t u')
  have d2 : t' ∣ t := Nat.Coprime.dvd_of_dvd_mul_right (show Nat.Coprime t' u' from h') (e ▸ Nat.dvd_mul_right t' u)
  have d3 : u ∣ u' := Nat.Coprime.dvd_of_dvd_mul_left (show Nat.Coprime u t from by rw [Nat.coprime_comm]; exact h) (e ▸ Nat.dvd_mul_left u t')
  have d4 : u' ∣ u := Nat.Coprime.dvd_of_dvd_mul_left (show Nat.Coprime u' t' from by rw [Nat.coprime_comm]; exact h') (e ▸ Nat.dvd_mul_left u' t)
  exact ⟨Nat.dvd_antisymm d1 d2, Nat.dvd_antisymm d3 d4⟩

theorem tb_congr {a b a' b' : Int} (hb : b ≠ 0) (hb' : b' ≠ 0) (e : a * b' = a' * b) : top a b = top a' b' ∧ bot a b = bot a' b' := by
  apply cop_unique (tb_cop a b hb) (tb_cop a' b' hb')
  have e1 : a.natAbs * b'.natAbs = a'.natAbs * b.natAbs := by rw [← Int.natAbs_mul, ← Int.natAbs_mul, e]
  have t1 := top_mul a b
  have t2 := bot_mul a b
  have t3 := top_mul a' b'
  have t4 := bot_mul a' b'
  have p := gcd_pos a b hb
  have p' := gcd_pos a' b' hb'
  have e2 : (Nat.gcd a.natAbs b.natAbs * Nat.gcd a'.natAbs b'.natAbs) * (top a b * bot a' b') = (Nat.gcd a.natAbs b.natAbs * Nat.gcd a'.natAbs b'.natAbs) * (top a' b' * bot a b) := by
    calc _ = top a b * Nat.gcd a.natAbs b.natAbs * (bot a' b' * Nat.gcd a'.natAbs b'.natAbs) := by ac_rfl
      _ = a.natAbs * b'.natAbs := by rw [t1, t4]
      _ = a'.natAbs * b.natAbs := e1
      _ = top a' b' * Nat.gcd a'.natAbs b'.natAbs * (bot a b * Nat.gcd a.natAbs b.natAbs) := by rw [t2, t3]
      _ = _ := by ac_rfl
  exact Nat.eq_of_mul_eq_mul_left (Nat.mul_pos p p') e2

theorem neg_iff {a b : Int} (ha : a ≠ 0) (hb : b ≠ 0) : (decide (a < 0) != decide (b < 0)) = decide (a * b < 0) := by
  rcases Int.lt_or_lt_of_ne ha with x | x <;> rcases Int.lt_or_lt_of_ne hb with y | y
  · have u : 0 < a * b := Int.mul_pos_of_neg_of_neg x y
    rw [Bool.eq_iff_iff]; simp; omega
  · have u : a * b < 0 := Int.mul_neg_of_neg_of_pos x y
    rw [Bool.eq_iff_iff]; simp; omega
  · have u : a * b < 0 := Int.mul_neg_of_pos_of_neg x y
    rw [Bool.eq_iff_iff]; simp; omega
  · have u : 0 < a * b := Int.mul_pos x y
    rw [Bool.eq_iff_iff]; simp; omega

theorem neg_scale {x y p q : Int} (hp : 0 < p) (hq : 0 < q) (e : x * p = y * q) (h : x < 0) : y < 0 := by
  have u : x * p < 0 := Int.mul_neg_of_neg_of_pos h hp
  rcases Int.lt_or_le y 0 with k | k
  · exact k
  · have : 0 ≤ y * q := Int.mul_nonneg k (by omega)
    omega

theorem sq_pos {b : Int} (hb : b ≠ 0) : 0 < b * b := by
  rcases Int.lt_or_lt_of_ne hb with x | x
  · exact Int.mul_pos_of_neg_of_neg x x
  · exact Int.mul_pos x x

theorem neg_congr {a b a' b' : Int} (hb : b ≠ 0) (hb' : b' ≠ 0) (e : a * b' = a' * b) (h0 : a ≠ 0) : (decide (a < 0) != decide (b < 0)) = (decide (a' < 0) != decide (b' < 0)) := by
  have h1 : a' ≠ 0 := by
    intro h
    rw [h, Int.zero_mul] at e
    rcases Int.mul_eq_zero.1 e with h | h
    · exact h0 h
    · exact hb' h
  rw [neg_iff h0 hb, neg_iff h1 hb']
  have k : (a * b) * (b' * b') = (a' * b') * (b * b) := by
    calc (a * b) * (b' * b') = (a * b') * (b * b') := by ac_rfl
      _ = (a' * b) * (b * b') := by rw [e]
      _ = _ := by ac_rfl
  rw [decide_eq_decide]
  exact ⟨neg_scale (sq_pos hb') (sq_pos hb) k, neg_scale (sq_pos hb) (sq_pos hb') k.symm⟩

/-- Equal numbers are made the same. -/
theorem mk_congr {a b a' b' : Int} (hb : b ≠ 0) (hb' : b' ≠ 0) (e : a * b' = a' * b) : mkNum a b = mkNum a' b' ∧ mkDen a b = mkDen a' b' ∧ mkErr a b = mkErr a' b' := by
  obtain ⟨e1, e2⟩ := tb_congr hb hb' e
  have ef : fits a b = fits a' b' := by unfold fits; rw [e1, e2]
  refine ⟨?_, ?_, ?_⟩
  · unfold mkNum
    rw [if_neg hb, if_neg hb', ef, e1]
    by_cases h0 : a = 0
    · have t0 : top a' b' = 0 := by rw [← e1, h0]; simp [top]
      rw [t0]; simp
    · rw [neg_congr hb hb' e h0]
  · unfold mkDen
    rw [if_neg hb, if_neg hb', ef, e2]
  · unfold mkErr
    rw [if_neg hb, if_neg hb', ef]

/-- A valid ratio is made of itself. -/
theorem mk_self {n d : Int} (h : vldB n d = true) : mkNum n d = n ∧ mkDen n d = d ∧ mkErr n d = 0 := by
  obtain ⟨h1, h2, h3, h4⟩ := vld_bd h
  have hg : Nat.gcd n.natAbs d.natAbs = 1 := by unfold vldB at h; simp at h; exact h.2.2.2.2
  have t1 : top n d = n.natAbs := by unfold top; rw [hg]; simp
  have t2 : bot n d = d.natAbs := by unfold bot; rw [hg]; simp
  have hf : fits n d = true := by unfold fits; rw [t1, t2]; simp; omega
  have hd : ¬ d = 0 := by omega
  refine ⟨?_, ?_, ?_⟩
  · unfold mkNum; rw [if_neg hd, hf, t1]
    have : decide (d < 0) = false := by simp; omega
    rw [this]
    by_cases hn : n < 0
    · simp [hn]; omega
    · simp [hn]; omega
  · unfold mkDen; rw [if_neg hd, hf, t2]; simp; omega
  · unfold mkErr; rw [if_neg hd, hf]; rfl

/-- The ratio of a number: what stands for it is what is made. -/
theorem mk_is {a b P Q : Int} (hv : vldB P Q = true) (hb : b ≠ 0) (e : P * b = a * Q) : mkNum a b = P ∧ mkDen a b = Q ∧ mkErr a b = 0 := by
  have hQ := (vld_bd hv).1
  obtain ⟨s1, s2, s3⟩ := mk_self hv
  obtain ⟨c1, c2, c3⟩ := mk_congr (a := a) (b := b) (a' := P) (b' := Q) hb (by omega) e.symm
  rw [s1] at c1; rw [s2] at c2; rw [s3] at c3
  exact ⟨c1, c2, c3⟩

/-- What is made without an error is a ratio that stands for the number. -/
theorem mk_ok {a b : Int} (h : mkErr a b = 0) : b ≠ 0 ∧ vldB (mkNum a b) (mkDen a b) = true ∧ mkNum a b * b = a * mkDen a b := by
  have hb : b ≠ 0 := by intro e; unfold mkErr at h; rw [if_pos e] at h; omega
  have hf : fits a b = true := by
    unfold mkErr at h; rw [if_neg hb] at h
    cases hc : fits a b
    · rw [hc] at h; simp at h
    · rfl
  have hn : mkNum a b = (if (decide (a < 0) != decide (b < 0)) then -(top a b : Int) else top a b) := by unfold mkNum; rw [if_neg hb, hf]; rfl
  have hd : mkDen a b = bot a b := by unfold mkDen; rw [if_neg hb, hf]; rfl
  have c := tb_cop a b hb
  have p := bot_pos a b hb
  have f2 : top a b ≤ 2147483647 ∧ bot a b ≤ 2147483647 := by unfold fits at hf; simpa using hf
  have ab : (mkNum a b).natAbs = top a b := by rw [hn]; split <;> simp
  refine ⟨hb, ?_, ?_⟩
  · unfold vldB
    rw [ab, hd]
    simp
    refine ⟨by omega, by omega, ?_, ?_, c⟩ <;> omega
  · have t := top_mul a b
    have u := bot_mul a b
    generalize hg : Nat.gcd a.natAbs b.natAbs = g at *
    have t' : ((top a b : Nat) : Int) * (g : Int) = (a.natAbs : Int) := by exact_mod_cast t
    have u' : ((bot a b : Nat) : Int) * (g : Int) = (b.natAbs : Int) := by exact_mod_cast u
    rw [hn, hd]
    generalize ((top a b : Nat) : Int) = T at *
    generalize ((bot a b : Nat) : Int) = U at *
    by_cases ha : a < 0 <;> by_cases hb2 : b < 0
    · have ea : a = -(T * g) := by omega
      have eb : b = -(U * g) := by omega
      simp only [ha, hb2, decide_true, bne_self_eq_false, Bool.false_eq_true, if_false]
      rw [eb, ea]; grind
    · have ea : a = -(T * g) := by omega
      have eb : b = U * g := by omega
      simp only [ha, hb2, decide_true, decide_false]
      simp
      rw [eb, ea]; grind
    · have ea : a = T * g := by omega
      have eb : b = -(U * g) := by omega
      simp only [ha, hb2, decide_true, decide_false]
      simp
      rw [eb, ea]; grind
    · have ea : a = T * g := by omega
      have eb : b = U * g := by omega
      simp only [ha, hb2, decide_false, bne_self_eq_false, Bool.false_eq_true, if_false]
      rw [eb, ea]; grind

theorem mk_zero {a b : Int} (hb : b ≠ 0) (h : mkErr a b ≠ 0) : mkNum a b = 0 ∧ mkDen a b = 0 ∧ mkErr a b = 7 := by
  unfold mkErr at h; rw [if_neg hb] at h
  have hf : fits a b = false := by
    cases hc : fits a b
    · rfl
    · rw [hc] at h; simp at h
  unfold mkNum mkDen mkErr
  rw [if_neg hb, if_neg hb, if_neg hb, hf]
  simp
end Go.Proofs.Ytjfhjckacfkpoaa

namespace Go.Proofs.Ytjfhjckacfkpoaa
open Go.RowKit

def Fits (ps : List Pq) : Prop := ∀ k, k < ps.length → I64 (gp ps k).1 ∧ I64 (gp ps k).2

theorem ready_gen (N : Int) (l : List Int) (ao : Option Addr) (cap : Nat) (ps : List Pq) (po : Option Addr) (pc : Nat) (w : World) (hA : Arg w ao l) (hP : Arg2 w po ps) (hI : Fits ps) :
    Calls Try.prog 34 #[.agg #[.int .i64 N, .slice ao l.length cap], .slice po ps.length pc] w (Made (.int .i64 (rdE N l ps)) w) := by
  by_cases hc : chkE N l = 0
  · by_cases hp : (ps.length : Int) = N
    · obtain ⟨n, rfl, hn, hl, hne⟩ := chk_ok hc
      obtain ⟨a, rfl, hR⟩ := hA hne
      exact ready_any n l a cap ps po pc w hn hl hR hc (by omega) hP hI
    · exact ready_bad2 N l ao cap ps po pc w hA hc hp
  · exact ready_bad1 N l ao cap ps po pc w hA hc

/-- The elements of a zone that passes Check are limits. -/
theorem chk_i64 {n : Nat} {l : List Int} (h : chkE (n : Int) l = 0) {i j : Nat} (hi : i ≤ n) (hj : j ≤ n) : I64 (Zo.At n l i j) := by
  unfold chkE at h
  split at h
  · rename_i c
    unfold chkB at c
    simp only [Bool.and_eq_true] at c
    have := chk1_iff.1 c.1.2 i (by simp; omega) j (by simp; omega)
    simp only [Int.toNat_natCast] at this
    unfold okI at this
    simp only [Bool.and_eq_true] at this
    have lv := this.1.1
    unfold lvB at lv
    simp at lv
    unfold I64; omega
  · omega

def hsM (n : Nat) (l : List Int) (ps : List Pq) (i j : Nat) : Bool := meB (sbN ps i j) (sbD ps i j) (Zo.At n l i j)

def hsB (n : Nat) (l : List Int) (ps : List Pq) : Bool := (List.range (n + 1)).all fun i => (List.range (n + 1)).all fun j => hsM n l ps i j

def hsR (N : Int) (l : List Int) (ps : List Pq) : Bool := decide (rdE N l ps = 0) && hsB N.toNat l ps

theorem hsB_iff {n : Nat} {l : List Int} {ps : List Pq} : hsB n l ps = true ↔ ∀ i, i < n + 1 → ∀ j, j < n + 1 → hsM n l ps i j = true := by simp [hsB]

theorem hsB_no {n : Nat} {l : List Int} {ps : List Pq} {i j : Nat} (hi : i < n + 1) (hj : j < n + 1) (h : hsM n l ps i j = false) : hsB n l ps = false := by
  cases e : hsB n l ps
  · rfl
  · have := hsB_iff.1 e i hi j hj
    rw [h] at this; simp at this

/-- What it means to be ready. -/
theorem rd_ok {N : Int} {l : List Int} {ps : List Pq} (h : rdE N l ps = 0) : chkE N l = 0 ∧ (ps.length : Int) = N ∧ (∀ k, k < ps.length → vldC (gp ps k) = true) ∧ rdR N.toNat ps = true := by
  unfold rdE at h
  split at h
  · rename_i c
    split at h
    · rename_i d; exact ⟨c.1, c.2.1, fun k hk => rd_all c.2.2 k hk, d⟩
    · omega
  · omega

set_option maxHeartbeats 400000 in
theorem has_bad (N : Int) (l : List Int) (ao : Option Addr) (cap : Nat) (ps : List Pq) (po : Option Addr) (pc : Nat) (w : World) (hA : Arg w ao l) (hP : Arg2 w po ps) (hI : Fits ps) (hr : rdE N l ps ≠ 0) :
    Calls Try.prog 16 #[.agg #[.int .i64 N, .slice ao l.length cap], .slice po ps.length pc] w (Made (.tuple #[.bool (hsR N l ps), .int .i64 (rdE N l ps)]) w) := by
  have H := Lib.hid (show hsR N l ps = false by simp [hsR, hr])
  have RD := Lib.hid fun W (h : Below w.heap.size w W) => ready_gen N l ao cap ps po pc W (hA.on h) (hP.on h) hI
  have D : (rdE N l ps != 0) = true := by simpa using hr
  have e0 := Lib.hid (one_more (w1 := w))
  clear hA hP hI hr
  generalize l.length = len at *
  generalize ps.length = plen at *
  generalize rdE N l ps = er at *
  go_enter Try.func16, Try.ntmps16
  go_wp2_with fail
  refine (RD.out _ (e0.out _)).mono ?_
  rintro e w1 ⟨rfl, hb⟩
  go_wp2_with fail
  go_ret2
  exact ⟨by rw [H.out]; rfl, past_one hb⟩

set_option maxHeartbeats 1600000 in
theorem has_any (n : Nat) (l : List Int) (a : Addr) (cap : Nat) (ps : List Pq) (po : Option Addr) (pc : Nat) (w : World) (hn : n ≤ 10) (hl : l.length = (n + 1) * (n + 1)) (hR : Rd w a l) (hP : Arg2 w po ps) (hI : Fits ps) (hr : rdE n l ps = 0) (hL : ∀ i j, i ≤ n → j ≤ n → I64 (Zo.At n l i j)) :
    Calls Try.prog 16 #[.agg #[.int .i64 n, .slice (some a) l.length cap], .slice po ps.length pc] w (Made (.tuple #[.bool (hsR n l ps), .int .i64 (rdE n l ps)]) w) := by
  obtain ⟨hc, hp, hv, hR0⟩ := rd_ok hr
  replace hp : ps.length = n := by omega
  obtain ⟨len, hlen⟩ : ∃ len, len = l.length := ⟨_, rfl⟩
  obtain ⟨w0, hw0⟩ : ∃ w0, w0 = w.alloc (.cells #[.int .i64 n, .slice (some a) len cap] 24) := ⟨_, rfl⟩
  have bx : Two w0 w.heap.size (.int .i64 n) (.slice (some a) len cap) := by rw [hw0]; exact Two.made _ _ _ _
  have e0 : Below w.heap.size w w0 := by rw [hw0]; exact one_more _
  have RD : Hid (∀ W, Below w.heap.size w W → Calls Try.prog 34 #[.agg #[.int .i64 n, .slice (some a) len cap], .slice po n pc] W (Made (.int .i64 0) W)) := Lib.hid fun W h => by have := ready_gen n l (some a) cap ps po pc W (fun _ => ⟨_, rfl, hR.on h⟩) (hP.on h) hI; rw [hr, hp, ← hlen] at this; exact this
  have CL : Hid (∀ (i : Nat) (W : World), i ≤ n → Below w.heap.size w W → Calls Try.prog 36 #[.slice po n pc, .int .i64 i] W (Made (.agg #[.int .i64 (clk ps i).1, .int .i64 (clk ps i).2]) W)) := Lib.hid fun i W hi h => by have := clock_any ps po pc i W (hP.on h) (by omega) (by omega); rw [hp] at this; exact this
  have SB := Lib.hid fun (i j : Nat) (W : World) (hi : i ≤ n) (hj : j ≤ n) => by have := sub_clk (ps := ps) W hv (i := i) (j := j) (by rw [hp]; exact hi) (by rw [hp]; exact hj); rw [rdR_at hR0 (i := i) (j := j) (by simp; omega) (by simp; omega)] at this; exact this
  have AT : Hid (∀ (i j : Nat) (W : World), i ≤ n → j ≤ n → Below w.heap.size w W → Calls Try.prog 38 #[.agg #[.int .i64 n, .slice (some a) len cap], .int .i64 i, .int .i64 j] W (Made (.int .i64 (Zo.At n l i j)) W)) := Lib.hid fun i j W hi hj h => by have := at_any n i j l a cap W hn hi hj hl (hR.on h); rw [← hlen] at this; exact this
  have MT := Lib.hid fun (i j : Nat) (W : World) (hi : i ≤ n) (hj : j ≤ n) => refLimMeets_any (sbN ps i j) (sbD ps i j) (Zo.At n l i j) W (by have := mkNum_bd ((clk ps i).1 * (clk ps j).2 - (clk ps j).1 * (clk ps i).2) ((clk ps i).2 * (clk ps j).2); unfold sbN I64; omega) (by have := mkDen_bd ((clk ps i).1 * (clk ps j).2 - (clk ps j).1 * (clk ps i).2) ((clk ps i).2 * (clk ps j).2); unfold sbD I64; omega) (hL i j hi hj)
  have HRE := Lib.hid hr
  have HH := Lib.hid (show hsR n l ps = hsB n l ps by simp [hsR, hr])
  have E0 := Lib.hid e0
  have HW0 := Lib.hid hw0
  rw [hp, ← hlen]
  clear hR hc hp hP hI e0 hw0 hl hlen hv hR0 hr hL
  go_enter Try.func16, Try.ntmps16
  go_wp2_with fail
  rw [← HW0.out]
  obtain ⟨b0, b1, b2, b3⟩ := bx.facts
  go_wp2_with fail
  refine (RD.out _ E0.out).mono ?_
  rintro e w1 ⟨rfl, hb1⟩
  clear b0 b1 b2 b3
  replace bx := bx.kept hb1
  have E1 := Lib.hid (below_on E0.out hb1)
  clear hb1 E0
  go_wp2_with fail
  go_loopw [7] (fun s wx => ∃ t : Nat, t ≤ n + 1 ∧ s = .int .i64 t ∧ Hid (∀ i, i < t → ∀ j, j < n + 1 → hsM n l ps i j = true) ∧ Hid (Below w1.heap.size w1 wx)) (fun s _ => n + 1 - (intOf s).toNat)
  case atStart => exact ⟨0, by omega, rfl, Lib.hid (fun k hk => by omega), Lib.hid (Below.refl _ _)⟩
  case round =>
    obtain ⟨i, hi, rfl, HS, HB⟩ := hrel
    obtain ⟨b0, b1, b2, b3⟩ := (bx.kept HB.out).facts
    by_cases hin : i ≤ n
    · go_wp2_with fail
      clear b0 b1 b2 b3
      go_loopw [8] (fun s wx => ∃ t : Nat, t ≤ n + 1 ∧ s = .int .i64 t ∧ Hid (∀ j, j < t → hsM n l ps i j = true) ∧ Hid (Below w1.heap.size w1 wx)) (fun s _ => n + 1 - (intOf s).toNat)
      case atStart => exact ⟨0, by omega, rfl, Lib.hid (fun k hk => by omega), HB⟩
      case round =>
        obtain ⟨j, hj, rfl, HJ, HBj⟩ := hrel
        obtain ⟨b0, b1, b2, b3⟩ := (bx.kept HBj.out).facts
        by_cases hjn : j ≤ n
        · have mt := fun W => MT.out i j W hin hjn
          have sb := fun W => SB.out i j W hin hjn
          have a9 := fun W h => AT.out i j W hin hjn h
          have hM : hsM n l ps i j = meB (sbN ps i j) (sbD ps i j) (Zo.At n l i j) := rfl
          generalize meB (sbN ps i j) (sbD ps i j) (Zo.At n l i j) = mb at mt hM
          generalize meE (sbN ps i j) (sbD ps i j) (Zo.At n l i j) = me at mt
          generalize sbN ps i j = sn at *
          generalize sbD ps i j = sd at *
          generalize Zo.At n l i j = lv at *
          have MT2 := Lib.hid mt
          have SB2 := Lib.hid sb
          have AT2 := Lib.hid a9
          have HM := Lib.hid hM
          clear mt sb a9 hM
          cases mb
          · have HE := Lib.hid (hsB_no (n := n) (l := l) (ps := ps) (i := i) (j := j) (by omega) (by omega) HM.out)
            go_wp2_with fail
            refine (CL.out i _ hin (below_on E1.out HBj.out)).mono ?_
            rintro e w3 ⟨rfl, hb3⟩
            have q3 := below_on HBj.out hb3
            clear hb3 b0 b1 b2 b3
            go_wp2_with fail
            refine (CL.out j _ hjn (below_on E1.out q3)).mono ?_
            rintro e w4 ⟨rfl, hb4⟩
            have q4 := below_on q3 hb4
            clear hb4 q3
            go_wp2_with fail
            refine (SB2.out _).mono ?_
            rintro e w5 ⟨rfl, hb5⟩
            have q5 := below_on q4 hb5
            clear hb5 q4
            obtain ⟨w6, hw6⟩ : ∃ w6, w6 = w5.alloc (.cells #[.int .i64 sn, .int .i64 sd] 48) := ⟨_, rfl⟩
            have pD : Pair w6 w5.heap.size sn sd := by rw [hw6]; exact Pair.made _ _ _ _
            have q6 : Below w1.heap.size w1 w6 := by rw [hw6]; exact q5.alloc q5.size _
            have bx6 := bx.kept q6
            have HW6 := Lib.hid hw6
            have KS := Lib.hid (show ∀ W : World, Below w6.heap.size w6 W → (W.cell? ⟨w5.heap.size, 0, none⟩ = some (.int .i64 sn) ∧ W.cell? ⟨w5.heap.size, 1, none⟩ = some (.int .i64 sd)) ∧ (W.cell? ⟨w.heap.size, 0, none⟩ = some (.int .i64 n) ∧ W.cell? ⟨w.heap.size, 1, none⟩ = some (.slice (some a) len cap)) from
              fun W h => ⟨⟨(pD.kept h).facts.1, (pD.kept h).facts.2.1⟩, (bx6.kept h).facts.1, (bx6.kept h).facts.2.1⟩)
            have Q6 := Lib.hid q6
            clear hw6 q5 q6 pD bx6
            go_wp2_with fail
            rw [← HW6.out]
            have s1 : Below w6.heap.size w6 w6.drew := (Below.refl _ _).drew
            go_region_held3 (fun w' => (w'.cell? ⟨w5.heap.size, 0, none⟩ = some (.int .i64 sn) ∧ w'.cell? ⟨w5.heap.size, 1, none⟩ = some (.int .i64 sd)) ∧ (w'.cell? ⟨w.heap.size, 0, none⟩ = some (.int .i64 n) ∧ w'.cell? ⟨w.heap.size, 1, none⟩ = some (.slice (some a) len cap))) (first | exact KS.out _ s1 | exact KS.out _ s7 | exact KS.out _ s8)
              (first | (go_at_call 38; refine (AT2.out _ (below_on E1.out (below_on Q6.out s1))).mono ?_; rintro e w7 ⟨rfl, hb7⟩; have s7 := below_on s1 hb7) | (go_at_call 37; refine (MT2.out _).mono ?_; rintro e w8 ⟨rfl, hb8⟩; have s8 := below_on s7 hb8))
            have Q8 := Lib.hid (below_on Q6.out s8)
            clear s1 s7 s8 hb7 hb8
            go_wp2_with fail
            go_ret2
            exact ⟨by rw [HRE.out, HH.out, HE.out]; rfl, below_on E1.out Q8.out⟩
          · go_wp2_with fail
            refine (CL.out i _ hin (below_on E1.out HBj.out)).mono ?_
            rintro e w3 ⟨rfl, hb3⟩
            have q3 := below_on HBj.out hb3
            clear hb3 b0 b1 b2 b3
            go_wp2_with fail
            refine (CL.out j _ hjn (below_on E1.out q3)).mono ?_
            rintro e w4 ⟨rfl, hb4⟩
            have q4 := below_on q3 hb4
            clear hb4 q3
            go_wp2_with fail
            refine (SB2.out _).mono ?_
            rintro e w5 ⟨rfl, hb5⟩
            have q5 := below_on q4 hb5
            clear hb5 q4
            obtain ⟨w6, hw6⟩ : ∃ w6, w6 = w5.alloc (.cells #[.int .i64 sn, .int .i64 sd] 48) := ⟨_, rfl⟩
            have pD : Pair w6 w5.heap.size sn sd := by rw [hw6]; exact Pair.made _ _ _ _
            have q6 : Below w1.heap.size w1 w6 := by rw [hw6]; exact q5.alloc q5.size _
            have bx6 := bx.kept q6
            have HW6 := Lib.hid hw6
            have KS := Lib.hid (show ∀ W : World, Below w6.heap.size w6 W → (W.cell? ⟨w5.heap.size, 0, none⟩ = some (.int .i64 sn) ∧ W.cell? ⟨w5.heap.size, 1, none⟩ = some (.int .i64 sd)) ∧ (W.cell? ⟨w.heap.size, 0, none⟩ = some (.int .i64 n) ∧ W.cell? ⟨w.heap.size, 1, none⟩ = some (.slice (some a) len cap)) from
              fun W h => ⟨⟨(pD.kept h).facts.1, (pD.kept h).facts.2.1⟩, (bx6.kept h).facts.1, (bx6.kept h).facts.2.1⟩)
            have Q6 := Lib.hid q6
            clear hw6 q5 q6 pD bx6
            go_wp2_with fail
            rw [← HW6.out]
            have s1 : Below w6.heap.size w6 w6.drew := (Below.refl _ _).drew
            go_region_held3 (fun w' => (w'.cell? ⟨w5.heap.size, 0, none⟩ = some (.int .i64 sn) ∧ w'.cell? ⟨w5.heap.size, 1, none⟩ = some (.int .i64 sd)) ∧ (w'.cell? ⟨w.heap.size, 0, none⟩ = some (.int .i64 n) ∧ w'.cell? ⟨w.heap.size, 1, none⟩ = some (.slice (some a) len cap))) (first | exact KS.out _ s1 | exact KS.out _ s7 | exact KS.out _ s8)
              (first | (go_at_call 38; refine (AT2.out _ (below_on E1.out (below_on Q6.out s1))).mono ?_; rintro e w7 ⟨rfl, hb7⟩; have s7 := below_on s1 hb7) | (go_at_call 37; refine (MT2.out _).mono ?_; rintro e w8 ⟨rfl, hb8⟩; have s8 := below_on s7 hb8))
            have Q8 := Lib.hid (below_on Q6.out s8)
            clear s1 s7 s8 hb7 hb8
            go_wp2_with fail
            go_roundw
            case rel =>
              refine ⟨j + 1, by omega, by go_num, Lib.hid (fun k hk => ?_), Q8⟩
              by_cases e : k = j
              · rw [e]; exact HM.out
              · exact HJ.out k (by omega)
            case measure => simp [intOf]; omega
        · have HS3 := Lib.hid (show ∀ x, x < i + 1 → ∀ j, j < n + 1 → hsM n l ps x j = true from fun x hx y hy => by
            by_cases e : x = i
            · rw [e]; exact HJ.out y (by omega)
            · exact HS.out x (by omega) y hy)
          go_wp2_with fail
          go_roundw
          case rel => exact ⟨i + 1, by omega, by go_num, HS3, HBj⟩
          case measure => simp [intOf]; omega
    · have HE := Lib.hid (show hsB n l ps = true from hsB_iff.2 (fun i hi j hj => HS.out i (by omega) j hj))
      go_wp2_with fail
      go_ret2
      exact ⟨by rw [HRE.out, HH.out, HE.out]; rfl, below_on E1.out HB.out⟩

theorem has_gen (N : Int) (l : List Int) (ao : Option Addr) (cap : Nat) (ps : List Pq) (po : Option Addr) (pc : Nat) (w : World) (hA : Arg w ao l) (hP : Arg2 w po ps) (hI : Fits ps) :
    Calls Try.prog 16 #[.agg #[.int .i64 N, .slice ao l.length cap], .slice po ps.length pc] w (Made (.tuple #[.bool (hsR N l ps), .int .i64 (rdE N l ps)]) w) := by
  by_cases hr : rdE N l ps = 0
  · obtain ⟨n, rfl, hn, hl, hne⟩ := chk_ok (rd_ok hr).1
    obtain ⟨a, rfl, hR⟩ := hA hne
    exact has_any n l a cap ps po pc w hn hl hR hP hI hr (fun i j hi hj => chk_i64 (rd_ok hr).1 hi hj)
  · exact has_bad N l ao cap ps po pc w hA hP hI hr
end Go.Proofs.Ytjfhjckacfkpoaa

namespace Go.Proofs.Ytjfhjckacfkpoaa
open Go.RowKit

set_option maxRecDepth 100000 in
set_option maxHeartbeats 2000000 in
theorem wlc_long (N : Int) (l k0 k1 : List Int) (ao o0 o1 : Option Addr) (cap c0 c1 : Nat) (ps : List Pq) (po : Option Addr) (pc : Nat) (w : World) (hb2 : b2B l.length k0.length k1.length = true) :
    Calls Try.prog 5 #[.agg #[.int .i64 N, .slice ao l.length cap], .agg #[.slice o0 k0.length c0, .slice o1 k1.length c1], .slice po ps.length pc] w (Made (.bool true) w) := by
  have SH := Lib.hid (fun W => shown6_any W)
  obtain ⟨w1, hw1⟩ : ∃ w1, w1 = (w.alloc (.cells #[.int .i64 N, .slice ao l.length cap] 24)).alloc (.cells #[.slice o0 k0.length c0, .slice o1 k1.length c1] 36) := ⟨_, rfl⟩
  obtain ⟨w0, hw0⟩ : ∃ w0, w0 = w1.alloc (.cells #[.slice o0 k0.length c0, .slice o1 k1.length c1] 25) := ⟨_, rfl⟩
  have E1 := Lib.hid (show Below w.heap.size w w1 by rw [hw1]; exact past_two (Below.refl _ _))
  have E0 := Lib.hid (show Below w.heap.size w w0 by rw [hw0]; exact E1.out.alloc E1.out.size _)
  have ZX1 : Two w1 w.heap.size (.int .i64 N) (.slice ao l.length cap) := by rw [hw1]; exact (Two.made _ _ _ _).alloc _
  have KX1 : Two w1 (w.heap.size + 1) (.slice o0 k0.length c0) (.slice o1 k1.length c1) := by
    rw [hw1]
    have := Two.made (w.alloc (.cells #[.int .i64 N, .slice ao l.length cap] 24)) (.slice o0 k0.length c0) (.slice o1 k1.length c1) 36
    simpa using this
  have z1 : w1.heap.size = w.heap.size + 2 := by rw [hw1]; simp
  have ZX := Lib.hid (show Two w0 w.heap.size (.int .i64 N) (.slice ao l.length cap) by rw [hw0]; exact ZX1.alloc _)
  have KX := Lib.hid (show Two w0 (w.heap.size + 1) (.slice o0 k0.length c0) (.slice o1 k1.length c1) by rw [hw0]; exact KX1.alloc _)
  have r0 : w0.cell? ⟨w.heap.size + 2, 0, none⟩ = some (.slice o0 k0.length c0) := by rw [hw0, ← z1]; go_simp
  have r1 : w0.cell? ⟨w.heap.size + 2, 1, none⟩ = some (.slice o1 k1.length c1) := by rw [hw0, ← z1]; go_simp
  have BE := Lib.hid (show Calls Try.prog 7 #[.agg #[.int .i64 N, .slice ao l.length cap], .slice (some ⟨w.heap.size + 2, 0, none⟩) 2 2] w0 (Made (.bool true) w0) by
    have := beyond2_any N ao o0 o1 l.length cap k0.length k1.length c0 c1 (w.heap.size + 2) w0 r0 r1
    rwa [hb2] at this)
  obtain ⟨k2, k3, k4, k5⟩ := KX1.facts
  obtain ⟨zz0, zz1, zz2, zz3⟩ := ZX1.facts
  have HW0 := Lib.hid hw0
  have HW1 := Lib.hid hw1
  have HZ1 := Lib.hid z1
  clear hw0 hw1 r0 r1 ZX1 KX1 z1
  go_enter Try.func5, Try.ntmps5
  go_upto_region 1 with (fail)
  rw [← HW1.out]
  go_wp2_with fail
  rw [HZ1.out, ← HW0.out]
  clear k2 k3 k4 k5 zz0 zz1 zz2 zz3
  refine BE.out.mono ?_
  rintro e w2 ⟨rfl, hb⟩
  have B2 := Lib.hid (below_on E0.out hb)
  clear hb
  go_wp2_with fail
  refine (SH.out _).mono ?_
  rintro e ws ⟨rfl, hbs⟩
  have BS := Lib.hid (below_on B2.out hbs)
  clear hbs
  go_wp2_with fail
  go_ret
  exact ⟨rfl, BS.out⟩

set_option maxRecDepth 100000 in
set_option maxHeartbeats 2000000 in
theorem wlc_many (N : Int) (l k0 k1 : List Int) (ao o0 o1 : Option Addr) (cap c0 c1 : Nat) (ps : List Pq) (po : Option Addr) (pc : Nat) (w : World) (hb2 : b2B l.length k0.length k1.length = false) (hm : 4 < N ∨ 4 < ps.length) :
    Calls Try.prog 5 #[.agg #[.int .i64 N, .slice ao l.length cap], .agg #[.slice o0 k0.length c0, .slice o1 k1.length c1], .slice po ps.length pc] w (Made (.bool true) w) := by
  have SH := Lib.hid (fun W => shown6_any W)
  obtain ⟨w1, hw1⟩ : ∃ w1, w1 = (w.alloc (.cells #[.int .i64 N, .slice ao l.length cap] 24)).alloc (.cells #[.slice o0 k0.length c0, .slice o1 k1.length c1] 36) := ⟨_, rfl⟩
  obtain ⟨w0, hw0⟩ : ∃ w0, w0 = w1.alloc (.cells #[.slice o0 k0.length c0, .slice o1 k1.length c1] 25) := ⟨_, rfl⟩
  have E1 := Lib.hid (show Below w.heap.size w w1 by rw [hw1]; exact past_two (Below.refl _ _))
  have E0 := Lib.hid (show Below w.heap.size w w0 by rw [hw0]; exact E1.out.alloc E1.out.size _)
  have ZX1 : Two w1 w.heap.size (.int .i64 N) (.slice ao l.length cap) := by rw [hw1]; exact (Two.made _ _ _ _).alloc _
  have KX1 : Two w1 (w.heap.size + 1) (.slice o0 k0.length c0) (.slice o1 k1.length c1) := by
    rw [hw1]
    have := Two.made (w.alloc (.cells #[.int .i64 N, .slice ao l.length cap] 24)) (.slice o0 k0.length c0) (.slice o1 k1.length c1) 36
    simpa using this
  have z1 : w1.heap.size = w.heap.size + 2 := by rw [hw1]; simp
  have ZX := Lib.hid (show Two w0 w.heap.size (.int .i64 N) (.slice ao l.length cap) by rw [hw0]; exact ZX1.alloc _)
  have KX := Lib.hid (show Two w0 (w.heap.size + 1) (.slice o0 k0.length c0) (.slice o1 k1.length c1) by rw [hw0]; exact KX1.alloc _)
  have r0 : w0.cell? ⟨w.heap.size + 2, 0, none⟩ = some (.slice o0 k0.length c0) := by rw [hw0, ← z1]; go_simp
  have r1 : w0.cell? ⟨w.heap.size + 2, 1, none⟩ = some (.slice o1 k1.length c1) := by rw [hw0, ← z1]; go_simp
  have BE := Lib.hid (show Calls Try.prog 7 #[.agg #[.int .i64 N, .slice ao l.length cap], .slice (some ⟨w.heap.size + 2, 0, none⟩) 2 2] w0 (Made (.bool false) w0) by
    have := beyond2_any N ao o0 o1 l.length cap k0.length k1.length c0 c1 (w.heap.size + 2) w0 r0 r1
    rwa [hb2] at this)
  obtain ⟨k2, k3, k4, k5⟩ := KX1.facts
  obtain ⟨zz0, zz1, zz2, zz3⟩ := ZX1.facts
  have HW0 := Lib.hid hw0
  have HW1 := Lib.hid hw1
  have HZ1 := Lib.hid z1
  clear hw0 hw1 r0 r1 ZX1 KX1 z1
  by_cases h4 : 4 < N
  · have D1 : decide ((4 : Int) < N) = true := by simpa using h4
    clear h4 hm
    go_enter Try.func5, Try.ntmps5
    go_upto_region 1 with (fail)
    rw [← HW1.out]
    go_wp2_with fail
    rw [HZ1.out, ← HW0.out]
    clear k2 k3 k4 k5 zz0 zz1 zz2 zz3
    refine BE.out.mono ?_
    rintro e w2 ⟨rfl, hb⟩
    have B2 := Lib.hid (below_on E0.out hb)
    obtain ⟨b0, b1, b2, b3⟩ := (ZX.out.kept hb).facts
    clear hb
    go_wp2_with fail
    refine (SH.out _).mono ?_
    rintro e ws ⟨rfl, hbs⟩
    have BS := Lib.hid (below_on B2.out hbs)
    clear hbs
    go_wp2_with fail
    go_ret
    exact ⟨rfl, BS.out⟩
  · have D1 : decide ((4 : Int) < N) = false := by simp; omega
    have D2 : decide ((4 : Int) < (ps.length : Int)) = true := by simp; omega
    clear h4 hm
    go_enter Try.func5, Try.ntmps5
    go_upto_region 1 with (fail)
    rw [← HW1.out]
    go_wp2_with fail
    rw [HZ1.out, ← HW0.out]
    clear k2 k3 k4 k5 zz0 zz1 zz2 zz3
    refine BE.out.mono ?_
    rintro e w2 ⟨rfl, hb⟩
    have B2 := Lib.hid (below_on E0.out hb)
    obtain ⟨b0, b1, b2, b3⟩ := (ZX.out.kept hb).facts
    clear hb
    go_wp2_with fail
    refine (SH.out _).mono ?_
    rintro e ws ⟨rfl, hbs⟩
    have BS := Lib.hid (below_on B2.out hbs)
    clear hbs
    go_wp2_with fail
    go_ret
    exact ⟨rfl, BS.out⟩
end Go.Proofs.Ytjfhjckacfkpoaa

namespace Go.Proofs.Ytjfhjckacfkpoaa.Zo

/-- The number q / D meets the limit l. -/
def mt (D q l : Int) : Prop := l = 1099511627776 ∨ (l % 2 = 0 ∧ q < l / 2 * D) ∨ (¬ l % 2 = 0 ∧ q ≤ l / 2 * D)

theorem mt_none (D q : Int) : mt D q 1099511627776 := Or.inl rfl

theorem mt_one {D q : Int} : mt D q 1 ↔ q ≤ 0 := by
  unfold mt
  have : (1 : Int) / 2 * D = 0 := by rw [show (1 : Int) / 2 = 0 by decide]; omega
  rw [this]; omega

theorem mt_mono {D q a b : Int} (hD : 0 < D) (hab : a ≤ b) (hb : b ≤ 1099511627776) (h : mt D q a) : mt D q b := by
  unfold mt at h ⊢
  by_cases e : b = 1099511627776
  · exact Or.inl e
  · right
    have hl : a / 2 * D ≤ b / 2 * D := Int.mul_le_mul_of_nonneg_right (by omega) (by omega)
    rcases h with h | ⟨h1, h2⟩ | ⟨h1, h2⟩
    · omega
    · by_cases p : b % 2 = 0
      · exact Or.inl ⟨p, by omega⟩
      · exact Or.inr ⟨p, by omega⟩
    · by_cases p : b % 2 = 0
      · have : (a / 2 + 1) * D ≤ b / 2 * D := Int.mul_le_mul_of_nonneg_right (by omega) (by omega)
        rw [Int.add_mul] at this
        exact Or.inl ⟨p, by omega⟩
      · exact Or.inr ⟨p, by omega⟩

theorem mt_min {D q a b : Int} (h : mt D q a) (k : mt D q b) : mt D q (min a b) := by
  rcases Int.le_total a b with c | c
  · rwa [Int.min_eq_left c]
  · rwa [Int.min_eq_right c]

/-- What is met is not far below. -/
theorem mt_low {D q a M : Int} (hD : 0 < D) (hq : -(M * D) ≤ q) (h : mt D q a) (hM : 0 ≤ M) : -(2 * M) ≤ a := by
  unfold mt at h
  by_cases e : a < -(2 * M)
  · exfalso
    have hl : (a / 2 + M) * D ≤ -1 * D := Int.mul_le_mul_of_nonneg_right (by omega) (by omega)
    rw [Int.add_mul] at hl
    omega
  · omega

theorem mt_sum {D p q a b : Int} (ha : -1152921504606846976 ≤ a) (ha' : a ≤ 1152921504606846976) (hb : -1152921504606846976 ≤ b) (hb' : b ≤ 1152921504606846976) (h : mt D p a) (k : mt D q b) : mt D (p + q) (smW a b) := by
  unfold smW
  by_cases na : a = 1099511627776
  · rw [if_pos (Or.inl na)]; exact mt_none _ _
  by_cases nb : b = 1099511627776
  · rw [if_pos (Or.inr nb)]; exact mt_none _ _
  rw [if_neg (by omega)]
  unfold mt at h k
  have s : ∀ c, c = a / 2 + b / 2 → c * D = a / 2 * D + b / 2 * D := by intro c hc; rw [hc, Int.add_mul]
  by_cases ea : a % 2 = 0
  · by_cases eb : b % 2 = 0
    · rw [if_pos ⟨ea, eb⟩, w64_in (by omega) (by omega)]
      have := s ((a + b) / 2) (by omega)
      unfold mt; omega
    · rw [if_neg (by omega), w64_in (x := a + b) (by omega) (by omega), w64_in (by omega) (by omega)]
      have := s ((a + b - 1) / 2) (by omega)
      unfold mt; omega
  · rw [if_neg (by omega), w64_in (x := a + b) (by omega) (by omega), w64_in (by omega) (by omega)]
    have := s ((a + b - 1) / 2) (by omega)
    unfold mt; omega

/-- The point X / D is in the set of the matrix. -/
def In (n : Nat) (l : List Int) (D : Int) (X : Nat → Int) : Prop := ∀ i j, i ≤ n → j ≤ n → mt D (X i - X j) (At n l i j)

/-- A point: from 0 on, the clock 0 is 0, and no value is above M. -/
structure Pt (n : Nat) (D : Int) (X : Nat → Int) (M : Int) : Prop where
  pos : 0 < D
  zero : X 0 = 0
  low : ∀ i, i ≤ n → 0 ≤ X i
  high : ∀ i, i ≤ n → X i ≤ M * D

theorem Pt.diff {n : Nat} {D : Int} {X : Nat → Int} {M : Int} (h : Pt n D X M) {i j : Nat} (hi : i ≤ n) (hj : j ≤ n) : -(M * D) ≤ X i - X j := by
  have := h.low i hi
  have := h.high j hj
  omega

theorem Pt.le {n : Nat} {D : Int} {X : Nat → Int} {M : Int} (h : Pt n D X M) : 0 ≤ M := by
  have a := h.low 0 (by omega)
  have b := h.high 0 (by omega)
  rcases Int.lt_or_le M 0 with c | c
  · have : M * D < 0 * D := Int.mul_lt_mul_of_pos_right c h.pos
    omega
  · exact c

def Top (n : Nat) (l : List Int) : Prop := l.length = (n + 1) * (n + 1) ∧ ∀ i j, i ≤ n → j ≤ n → At n l i j ≤ 1099511627776

theorem Top.put {n : Nat} {l : List Int} (h : Top n l) {i j : Nat} (hi : i ≤ n) (hj : j ≤ n) (y : Int) : Top n (l.set (ix n i j) (min (At n l i j) y)) :=
  ⟨by simpa using h.1, fun _ _ ha hb => Int.le_trans (set_le h.1 hi hj y hb) (h.2 _ _ ha hb)⟩

/-- A point of the matrix is one of what is closed. -/
theorem clo_sound {n : Nat} {l : List Int} {D M : Int} {X : Nat → Int} (hp : Pt n D X M) (hM : M ≤ 4611686018427387) (ht : Top n l) (h : In n l D X) : In n (clo n l) D X := by
  have r : Top n (clo n l) ∧ In n (clo n l) D X := by
    refine clo_keeps (R := fun l => Top n l ∧ In n l D X) (fun l i j hij hi hj hl => ⟨hl.1.put hi hj 1, fun a b ha hb => ?_⟩) (fun l k i j hk hi hj hl => ⟨hl.1.put hi hj _, fun a b ha hb => ?_⟩) ⟨ht, h⟩
    · rw [At_set hl.1.1 hi hj _ hb]
      split
      · rename_i e
        rw [e.1, e.2]
        refine mt_min (hl.2 i j hi hj) (mt_one.2 ?_)
        rcases hij with z | z
        · subst z; have := hp.low j hj; rw [hp.zero]; omega
        · subst z; omega
      · exact hl.2 a b ha hb
    · unfold rlx
      rw [At_set hl.1.1 hi hj _ hb]
      split
      · rename_i e
        rw [e.1, e.2]
        have h1 := hl.2 i k hi hk
        have h2 := hl.2 k j hk hj
        have l1 := mt_low hp.pos (hp.diff hi hk) h1 hp.le
        have l2 := mt_low hp.pos (hp.diff hk hj) h2 hp.le
        have u1 := hl.1.2 i k hi hk
        have u2 := hl.1.2 k j hk hj
        refine mt_min (hl.2 i j hi hj) ?_
        have := mt_sum (by omega) (by omega) (by omega) (by omega) h1 h2
        rwa [show X i - X k + (X k - X j) = X i - X j by omega] at this
      · exact hl.2 a b ha hb
  exact r.2

theorem clo_le {n : Nat} {l : List Int} (hl : l.length = (n + 1) * (n + 1)) : ∀ a b, a ≤ n → b ≤ n → At n (clo n l) a b ≤ At n l a b := by
  intro a b ha hb
  exact (clo_keeps (R := fun x : List Int => x.length = (n + 1) * (n + 1) ∧ At n x a b ≤ At n l a b)
    (fun x i j _ hi hj hx => ⟨by simpa using hx.1, Int.le_trans (set_le hx.1 hi hj _ hb) hx.2⟩)
    (fun x k i j _ hi hj hx => ⟨by simpa [rlx] using hx.1, Int.le_trans (set_le hx.1 hi hj _ hb) hx.2⟩) ⟨hl, Int.le_refl _⟩).2

/-- And the other way round. -/
theorem clo_complete {n : Nat} {l : List Int} {D : Int} {X : Nat → Int} (hD : 0 < D) (ht : Top n l) (h : In n (clo n l) D X) : In n l D X :=
  fun i j hi hj => mt_mono hD (clo_le ht.1 i j hi hj) (ht.2 i j hi hj) (h i j hi hj)

/-- A set with a point is not told to be empty. -/
theorem In.diag {n : Nat} {l : List Int} {D : Int} {X : Nat → Int} (hD : 0 < D) (h : In n l D X) {i : Nat} (hi : i ≤ n) : 1 ≤ At n l i i := by
  have := h i i hi hi
  rw [Int.sub_self] at this
  unfold mt at this
  rcases this with e | ⟨e, g⟩ | ⟨e, g⟩
  · omega
  · by_cases c : At n l i i / 2 ≤ 0
    · have : At n l i i / 2 * D ≤ 0 * D := Int.mul_le_mul_of_nonneg_right c (by omega)
      omega
    · omega
  · by_cases c : At n l i i / 2 ≤ -1
    · have : At n l i i / 2 * D ≤ -1 * D := Int.mul_le_mul_of_nonneg_right c (by omega)
      omega
    · omega
end Go.Proofs.Ytjfhjckacfkpoaa.Zo

namespace Go.Proofs.Ytjfhjckacfkpoaa.Zo

/-- A number q / D meets a limit. -/
def ml (D q : Int) : Lm → Prop
  | none => True
  | some x => (x % 2 = 0 ∧ q < x / 2 * D) ∨ (¬ x % 2 = 0 ∧ q ≤ x / 2 * D)

theorem ml_some {D q x : Int} : ml D q (some x) ↔ (x % 2 = 0 ∧ q < x / 2 * D) ∨ (¬ x % 2 = 0 ∧ q ≤ x / 2 * D) := Iff.rfl

theorem ml_mono {D q : Int} (hD : 0 < D) {a b : Lm} (h : le a b) (k : ml D q a) : ml D q b := by
  cases b with
  | none => trivial
  | some y =>
    cases a with
    | none => exact absurd h (by simp [le])
    | some x =>
      have hxy : x ≤ y := h
      unfold ml at k ⊢
      have hm : x / 2 ≤ y / 2 := by omega
      have hp : x / 2 * D ≤ y / 2 * D := Int.mul_le_mul_of_nonneg_right hm (by omega)
      rcases k with ⟨k1, k2⟩ | ⟨k1, k2⟩
      · by_cases c : y % 2 = 0
        · left; exact ⟨c, by omega⟩
        · right; exact ⟨c, by omega⟩
      · by_cases c : y % 2 = 0
        · left
          refine ⟨c, ?_⟩
          have : x / 2 + 1 ≤ y / 2 := by omega
          have := Int.mul_le_mul_of_nonneg_right this (show 0 ≤ D by omega)
          rw [Int.add_mul, Int.one_mul] at this
          omega
        · right; exact ⟨c, by omega⟩

theorem ml_twice {D q : Int} {a : Lm} (k : ml D q a) : ml (2 * D) (2 * q) a := by
  cases a with
  | none => trivial
  | some x =>
    rw [ml_some] at k ⊢
    have e : x / 2 * (2 * D) = 2 * (x / 2 * D) := by rw [Int.mul_left_comm]
    rw [e]
    omega

theorem ml_add {D p q : Int} {a b : Lm} (h : ml D p a) (k : ml D q b) : ml D (p + q) (add a b) := by
  cases a with
  | none => cases b <;> trivial
  | some x =>
    cases b with
    | none => trivial
    | some y =>
      show ml D (p + q) (some (ps x y))
      rw [ml_some] at h k ⊢
      unfold ps
      by_cases c : x % 2 = 0 ∧ y % 2 = 0
      · rw [if_pos c, show (x + y) / 2 = x / 2 + y / 2 by omega, Int.add_mul]; omega
      · rw [if_neg c]
        by_cases d : x % 2 = 0
        · rw [show (x + y - 1) / 2 = x / 2 + y / 2 by omega, Int.add_mul]; omega
        · by_cases e : y % 2 = 0
          · rw [show (x + y - 1) / 2 = x / 2 + y / 2 by omega, Int.add_mul]; omega
          · rw [show (x + y - 1) / 2 = x / 2 + y / 2 by omega, Int.add_mul]; omega

/-- The greatest of some numbers, of which there may be none. -/
theorem greatest (f : Nat → Option Int) : ∀ m : Nat, (∀ j, j < m → f j = none) ∨ ∃ j v, j < m ∧ f j = some v ∧ ∀ k u, k < m → f k = some u → u ≤ v := by
  intro m
  induction m with
  | zero => left; intro j hj; omega
  | succ m ih =>
    cases e : f m with
    | none =>
      rcases ih with h | ⟨j, v, h1, h2, h3⟩
      · left
        intro j hj
        by_cases c : j = m
        · rw [c, e]
        · exact h j (by omega)
      · right
        refine ⟨j, v, by omega, h2, fun k u hk hu => ?_⟩
        by_cases c : k = m
        · rw [c, e] at hu; cases hu
        · exact h3 k u (by omega) hu
    | some x =>
      right
      rcases ih with h | ⟨j, v, h1, h2, h3⟩
      · refine ⟨m, x, by omega, e, fun k u hk hu => ?_⟩
        by_cases c : k = m
        · rw [c, e] at hu; injection hu with hu; omega
        · rw [h k (by omega)] at hu; cases hu
      · by_cases c : v ≤ x
        · refine ⟨m, x, by omega, e, fun k u hk hu => ?_⟩
          by_cases d : k = m
          · rw [d, e] at hu; injection hu with hu; omega
          · have := h3 k u (by omega) hu; omega
        · refine ⟨j, v, by omega, h2, fun k u hk hu => ?_⟩
          by_cases d : k = m
          · rw [d, e] at hu; injection hu with hu; omega
          · exact h3 k u (by omega) hu

/-- The bound itself, with D in it. -/
def bv (D : Int) : Lm → Option Int
  | none => none
  | some x => some (x / 2 * D)

theorem point_step {n m : Nat} {d : Nat → Nat → Lm} (ht : Tri (n + 1) d) (hm : m ≤ n) {D : Int} (hD : 0 < D) {X : Nat → Int} (h : ∀ i j, i < m → j < m → ml D (X i - X j) (d i j)) :
    ∃ v : Int, ∀ j, j < m → ml (2 * D) (v - 2 * X j) (d m j) ∧ ml (2 * D) (2 * X j - v) (d j m) := by
  -- lower bounds: X j - bound of d j m; upper bounds: X j + bound of d m j
  have G := greatest (fun j => (bv D (d j m)).map (fun c => X j - c)) m
  have L := greatest (fun j => (bv D (d m j)).map (fun c => -(X j + c))) m
  have lowOf : ∀ j x, d j m = some x → (bv D (d j m)).map (fun c => X j - c) = some (X j - x / 2 * D) := fun j x e => by rw [e]; rfl
  have upOf : ∀ j x, d m j = some x → (bv D (d m j)).map (fun c => -(X j + c)) = some (-(X j + x / 2 * D)) := fun j x e => by rw [e]; rfl
  -- what both together say
  have pair : ∀ j k x y, j < m → k < m → d j m = some x → d m k = some y → X j - x / 2 * D ≤ X k + y / 2 * D ∧ ((x % 2 = 0 ∨ y % 2 = 0) → X j - x / 2 * D < X k + y / 2 * D) := by
    intro j k x y hj hk e1 e2
    have t := ht m (by omega) j k
    rw [e1, e2] at t
    have := ml_mono hD t (h j k hj hk)
    unfold add at this
    simp only [ml] at this
    unfold ps at this
    by_cases c : x % 2 = 0 ∧ y % 2 = 0
    · rw [if_pos c, show (x + y) / 2 = x / 2 + y / 2 by omega, Int.add_mul] at this; omega
    · rw [if_neg c] at this
      by_cases p : x % 2 = 0
      · rw [show (x + y - 1) / 2 = x / 2 + y / 2 by omega, Int.add_mul] at this; omega
      · by_cases q : y % 2 = 0
        · rw [show (x + y - 1) / 2 = x / 2 + y / 2 by omega, Int.add_mul] at this; omega
        · rw [show (x + y - 1) / 2 = x / 2 + y / 2 by omega, Int.add_mul] at this; omega
  have two : ∀ c : Int, c * (2 * D) = 2 * (c * D) := fun c => by rw [Int.mul_left_comm]
  -- v: below each upper bound, above each lower one
  have fin : ∀ v : Int, (∀ j x, j < m → d j m = some x → (2 * (X j - x / 2 * D) < v ∨ (¬ x % 2 = 0 ∧ 2 * (X j - x / 2 * D) ≤ v))) → (∀ j x, j < m → d m j = some x → (v < 2 * (X j + x / 2 * D) ∨ (¬ x % 2 = 0 ∧ v ≤ 2 * (X j + x / 2 * D)))) →
      ∀ j, j < m → ml (2 * D) (v - 2 * X j) (d m j) ∧ ml (2 * D) (2 * X j - v) (d j m) := by
    intro v h1 h2 j hj
    constructor
    · cases e : d m j with
      | none => trivial
      | some x =>
        have := h2 j x hj e
        rw [ml_some, two]
        omega
    · cases e : d j m with
      | none => trivial
      | some x =>
        have := h1 j x hj e
        rw [ml_some, two]
        omega
  rcases G with g | ⟨gj, gv, g1, g2, g3⟩
  · rcases L with l | ⟨lj, lv, l1, l2, l3⟩
    · refine ⟨0, fin 0 (fun j x hj e => ?_) (fun j x hj e => ?_)⟩
      · have := g j hj; rw [lowOf j x e] at this; cases this
      · have := l j hj; rw [upOf j x e] at this; cases this
    · refine ⟨-2 * lv - 1, fin _ (fun j x hj e => ?_) (fun j x hj e => ?_)⟩
      · have := g j hj; rw [lowOf j x e] at this; cases this
      · have := l3 j _ hj (upOf j x e); omega
  · rcases L with l | ⟨lj, lv, l1, l2, l3⟩
    · refine ⟨2 * gv + 1, fin _ (fun j x hj e => ?_) (fun j x hj e => ?_)⟩
      · have := g3 j _ hj (lowOf j x e); omega
      · have := l j hj; rw [upOf j x e] at this; cases this
    · obtain ⟨x0, e0, v0⟩ : ∃ x, d gj m = some x ∧ X gj - x / 2 * D = gv := by
        cases e : d gj m with
        | none => rw [e] at g2; simp [bv] at g2
        | some x => rw [lowOf gj x e] at g2; injection g2 with g2; exact ⟨x, rfl, g2⟩
      obtain ⟨y0, f0, u0⟩ : ∃ y, d m lj = some y ∧ X lj + y / 2 * D = -lv := by
        cases e : d m lj with
        | none => rw [e] at l2; simp [bv] at l2
        | some y => rw [upOf lj y e] at l2; injection l2 with l2; exact ⟨y, rfl, by omega⟩
      have p0 := pair gj lj x0 y0 g1 l1 e0 f0
      rw [v0, u0] at p0
      refine ⟨gv - lv, fin _ (fun j x hj e => ?_) (fun j x hj e => ?_)⟩
      · have a := g3 j _ hj (lowOf j x e)
        have b := pair j lj x y0 hj l1 e f0
        rw [u0] at b
        by_cases c : x % 2 = 0
        · left; have := b.2 (Or.inl c); omega
        · right; exact ⟨c, by omega⟩
      · have a := l3 j _ hj (upOf j x e)
        have b := pair gj j x0 x g1 hj e0 e
        rw [v0] at b
        by_cases c : x % 2 = 0
        · left; have := b.2 (Or.inr c); omega
        · right; exact ⟨c, by omega⟩

/-- A point of a matrix that keeps to the inequality of triangles. -/
theorem point_of {n : Nat} {d : Nat → Nat → Lm} (ht : Tri (n + 1) d) (hd : ∀ i, i ≤ n → d i i = some 1) : ∃ (D : Int) (X : Nat → Int), 0 < D ∧ X 0 = 0 ∧ ∀ i j, i ≤ n → j ≤ n → ml D (X i - X j) (d i j) := by
  have key : ∀ m, m ≤ n + 1 → ∃ (D : Int) (X : Nat → Int), 0 < D ∧ ∀ i j, i < m → j < m → ml D (X i - X j) (d i j) := by
    intro m
    induction m with
    | zero => intro _; exact ⟨1, fun _ => 0, by omega, fun i j hi _ => by omega⟩
    | succ m ih =>
      intro hm
      obtain ⟨D, X, hD, h⟩ := ih (by omega)
      obtain ⟨v, hv⟩ := point_step ht (show m ≤ n by omega) hD h
      refine ⟨2 * D, fun i => if i = m then v else 2 * X i, by omega, fun i j hi hj => ?_⟩
      by_cases ci : i = m
      · by_cases cj : j = m
        · subst ci; subst cj
          rw [hd j (by omega)]
          simp only [if_true, Int.sub_self]
          unfold ml; right; simp
        · subst ci
          simp only [if_true, if_neg cj]
          exact (hv j (by omega)).1
      · by_cases cj : j = m
        · subst cj
          simp only [if_true, if_neg ci]
          exact (hv i (by omega)).2
        · simp only [if_neg ci, if_neg cj]
          have := ml_twice (h i j (by omega) (by omega))
          rwa [Int.mul_sub] at this
  obtain ⟨D, X, hD, h⟩ := key (n + 1) (Nat.le_refl _)
  refine ⟨D, fun i => X i - X 0, hD, by simp, fun i j hi hj => ?_⟩
  have := h i j (by omega) (by omega)
  rwa [show X i - X 0 - (X j - X 0) = X i - X j by omega]

/-- The least of some limits. -/
def inf (f : Nat → Lm) : Nat → Lm
  | 0 => none
  | m + 1 => mn (inf f m) (f m)

theorem inf_le (f : Nat → Lm) {m k : Nat} (hk : k < m) : le (inf f m) (f k) := by
  induction m with
  | zero => omega
  | succ m ih =>
    by_cases c : k = m
    · subst c; exact mn_right _ _
    · exact le_trans (mn_left _ _) (ih (by omega))

theorem inf_get (f : Nat → Lm) (m : Nat) : inf f m = none ∨ ∃ k, k < m ∧ inf f m = f k := by
  induction m with
  | zero => left; rfl
  | succ m ih =>
    rcases mn_cases (inf f m) (f m) with h | h
    · have e : inf f (m + 1) = inf f m := h
      rcases ih with i | ⟨k, hk, i⟩
      · left; rw [e, i]
      · right; exact ⟨k, by omega, by rw [e, i]⟩
    · right; exact ⟨m, by omega, h⟩

def thr (n : Nat) (Z R : Nat → Nat → Lm) (i j : Nat) : Lm := inf (fun s => inf (fun t => add (add (Z i s) (R s t)) (Z t j)) (n + 1)) (n + 1)

def both (n : Nat) (Z R : Nat → Nat → Lm) : Nat → Nat → Lm := fun i j => mn (Z i j) (thr n Z R i j)

theorem thr_le {n : Nat} {Z R : Nat → Nat → Lm} (i j : Nat) {s t : Nat} (hs : s ≤ n) (ht : t ≤ n) : le (thr n Z R i j) (add (add (Z i s) (R s t)) (Z t j)) :=
  le_trans (inf_le (fun s => inf (fun t => add (add (Z i s) (R s t)) (Z t j)) (n + 1)) (show s < n + 1 by omega)) (inf_le (fun t => add (add (Z i s) (R s t)) (Z t j)) (show t < n + 1 by omega))

theorem thr_get {n : Nat} {Z R : Nat → Nat → Lm} (i j : Nat) : thr n Z R i j = none ∨ ∃ s t, s ≤ n ∧ t ≤ n ∧ thr n Z R i j = add (add (Z i s) (R s t)) (Z t j) := by
  rcases inf_get (fun s => inf (fun t => add (add (Z i s) (R s t)) (Z t j)) (n + 1)) (n + 1) with h | ⟨s, hs, h⟩
  · left; exact h
  · rcases inf_get (fun t => add (add (Z i s) (R s t)) (Z t j)) (n + 1) with g | ⟨t, ht, g⟩
    · left; rw [show thr n Z R i j = _ from h]; exact g
    · right; exact ⟨s, t, by omega, by omega, by rw [show thr n Z R i j = _ from h]; exact g⟩

theorem both_get {n : Nat} {Z R : Nat → Nat → Lm} (i j : Nat) : both n Z R i j = none ∨ both n Z R i j = Z i j ∨ ∃ s t, s ≤ n ∧ t ≤ n ∧ both n Z R i j = add (add (Z i s) (R s t)) (Z t j) := by
  rcases mn_cases (Z i j) (thr n Z R i j) with h | h
  · right; left; exact h
  · rcases thr_get (n := n) (Z := Z) (R := R) i j with g | ⟨s, t, a, b, g⟩
    · left; rw [show both n Z R i j = _ from h, g]
    · right; right; exact ⟨s, t, a, b, by rw [show both n Z R i j = _ from h, g]⟩

theorem add_none_r (a : Lm) : add a none = none := by cases a <;> rfl

theorem add_none_l (a : Lm) : add none a = none := by cases a <;> rfl

theorem both_tri {n : Nat} {Z R : Nat → Nat → Lm} (hZ : Tri (n + 1) Z) (hR : ∀ s t s' t', s ≤ n → t ≤ n → s' ≤ n → t' ≤ n → le (R s t') (add (add (R s t) (Z t s')) (R s' t'))) : Tri (n + 1) (both n Z R) := by
  intro k hk i j
  rcases both_get (n := n) (Z := Z) (R := R) i k with a | a | ⟨s, t, hs, ht, a⟩
  · rw [a, add_none_l]; exact le_none _
  · rcases both_get (n := n) (Z := Z) (R := R) k j with b | b | ⟨s', t', hs', ht', b⟩
    · rw [b, add_none_r]; exact le_none _
    · rw [a, b]; exact le_trans (mn_left _ _) (hZ k hk i j)
    · rw [a, b]
      refine le_trans (mn_right _ _) (le_trans (thr_le i j hs' ht') ?_)
      rw [← add_assoc, ← add_assoc]
      exact add_mono (add_mono (hZ k hk i s') (le_refl _)) (le_refl _)
  · rcases both_get (n := n) (Z := Z) (R := R) k j with b | b | ⟨s', t', hs', ht', b⟩
    · rw [b, add_none_r]; exact le_none _
    · rw [a, b]
      refine le_trans (mn_right _ _) (le_trans (thr_le i j hs ht) ?_)
      rw [add_assoc (add (Z i s) (R s t)) (Z t k) (Z k j)]
      exact add_mono (le_refl _) (hZ k hk t j)
    · rw [a, b]
      refine le_trans (mn_right _ _) (le_trans (thr_le i j hs ht') ?_)
      have e : add (add (add (Z i s) (R s t)) (Z t k)) (add (add (Z k s') (R s' t')) (Z t' j)) = add (add (Z i s) (add (add (R s t) (add (Z t k) (Z k s'))) (R s' t'))) (Z t' j) := by
        simp only [add_assoc]
      rw [e]
      refine add_mono (add_mono (le_refl _) (le_trans (hR s t s' t' hs ht hs' ht') ?_)) (le_refl _)
      exact add_mono (add_mono (le_refl _) (hZ k hk t s')) (le_refl _)

theorem both_diag {n : Nat} {Z R : Nat → Nat → Lm} (hZ : Tri (n + 1) Z) (hd : ∀ i, i ≤ n → Z i i = some 1) (hR : ∀ s t, s ≤ n → t ≤ n → le (some 1) (add (R s t) (Z t s))) {i : Nat} (hi : i ≤ n) : both n Z R i i = some 1 := by
  refine le_antisymm (by show le (mn (Z i i) (thr n Z R i i)) (some 1); rw [hd i hi]; exact mn_left _ _) ?_
  rcases both_get (n := n) (Z := Z) (R := R) i i with a | a | ⟨s, t, hs, ht, a⟩
  · rw [a]; exact le_none _
  · rw [a, hd i hi]; exact le_refl _
  · rw [a]
    refine le_trans (hR s t hs ht) ?_
    rw [add_assoc, add_comm (Z i s), add_assoc]
    exact add_mono (le_refl _) (hZ i (by omega) t s)

/-- Two matrices that agree along all cycles have a point together. -/
theorem point_both {n : Nat} {Z R : Nat → Nat → Lm} (hZ : Tri (n + 1) Z) (hd : ∀ i, i ≤ n → Z i i = some 1)
    (h1 : ∀ s t s' t', s ≤ n → t ≤ n → s' ≤ n → t' ≤ n → le (R s t') (add (add (R s t) (Z t s')) (R s' t'))) (h2 : ∀ s t, s ≤ n → t ≤ n → le (some 1) (add (R s t) (Z t s))) :
    ∃ (D : Int) (X : Nat → Int), 0 < D ∧ X 0 = 0 ∧ ∀ i j, i ≤ n → j ≤ n → ml D (X i - X j) (Z i j) ∧ ml D (X i - X j) (R i j) := by
  obtain ⟨D, X, hD, h0, h⟩ := point_of (both_tri hZ h1) (fun i hi => both_diag hZ hd h2 hi)
  refine ⟨D, X, hD, h0, fun i j hi hj => ⟨ml_mono hD (mn_left _ _) (h i j hi hj), ml_mono hD (le_trans (mn_right _ _) ?_) (h i j hi hj)⟩⟩
  have := thr_le (n := n) (Z := Z) (R := R) i j hi hj
  rwa [hd i hi, hd j hj, one_add, add_one] at this

/-- A box: each clock has a lower and an upper bound. -/
theorem point_box {n : Nat} {Z : Nat → Nat → Lm} {A B : Nat → Lm} (hZ : Tri (n + 1) Z) (hd : ∀ i, i ≤ n → Z i i = some 1) (hA : A 0 = some 1) (hB : B 0 = some 1) (hE : ∀ t s, t ≤ n → s ≤ n → le (some 1) (add (add (A t) (Z t s)) (B s))) :
    ∃ (D : Int) (X : Nat → Int), 0 < D ∧ X 0 = 0 ∧ (∀ i j, i ≤ n → j ≤ n → ml D (X i - X j) (Z i j)) ∧ ∀ i, i ≤ n → ml D (X i) (B i) ∧ ml D (-X i) (A i) := by
  obtain ⟨D, X, h0, hx, h⟩ := point_both (R := fun s t => add (B s) (A t)) hZ hd (fun s t s' t' _ ht hs' _ => by
      have e : add (add (add (B s) (A t)) (Z t s')) (add (B s') (A t')) = add (add (B s) (add (add (A t) (Z t s')) (B s'))) (A t') := by simp only [add_assoc]
      rw [e]
      refine add_mono ?_ (le_refl _)
      have := add_mono (le_refl (B s)) (hE t s' ht hs')
      rwa [add_one] at this) (fun s t hs ht => by
      have := hE t s ht hs
      rw [add_assoc, add_comm]
      exact this)
  refine ⟨D, X, h0, hx, fun i j hi hj => (h i j hi hj).1, fun i hi => ?_⟩
  have a := (h i 0 hi (Nat.zero_le _)).2
  have b := (h 0 i (Nat.zero_le _) hi).2
  simp only [hA, hB, hx, add_one, one_add] at a b
  exact ⟨by simpa using a, by simpa using b⟩
end Go.Proofs.Ytjfhjckacfkpoaa.Zo

namespace Go.Proofs.Ytjfhjckacfkpoaa

/-- The point ps, over the denominator D. -/
structure Ov (D : Int) (X : Nat → Int) (ps : List Pq) : Prop where
  pos : 0 < D
  val : ∀ i, i ≤ ps.length → X i * (clk ps i).2 = (clk ps i).1 * D

theorem lt_scale {x y d D q : Int} (hD : 0 < D) (hd : 0 < d) (e : x * D = q * d) {c : Int} (hy : y = c * d) : x < y ↔ q < c * D := by
  subst hy
  constructor
  · intro h
    have h1 : x * D < c * d * D := Int.mul_lt_mul_of_pos_right h hD
    rw [e, Int.mul_right_comm] at h1
    exact Int.lt_of_mul_lt_mul_right h1 (by omega)
  · intro h
    have h1 : q * d < c * D * d := Int.mul_lt_mul_of_pos_right h hd
    rw [← e, Int.mul_right_comm] at h1
    exact Int.lt_of_mul_lt_mul_right h1 (by omega)

theorem le_scale {x y d D q : Int} (hD : 0 < D) (hd : 0 < d) (e : x * D = q * d) {c : Int} (hy : y = c * d) : x ≤ y ↔ q ≤ c * D := by
  subst hy
  constructor
  · intro h
    have h1 : x * D ≤ c * d * D := Int.mul_le_mul_of_nonneg_right h (by omega)
    rw [e, Int.mul_right_comm] at h1
    exact Int.le_of_mul_le_mul_right h1 hd
  · intro h
    have h1 : q * d ≤ c * D * d := Int.mul_le_mul_of_nonneg_right h (by omega)
    rw [← e, Int.mul_right_comm] at h1
    exact Int.le_of_mul_le_mul_right h1 hD

theorem vld_pos {n d : Int} (v : vldB n d = true) : 1 ≤ d ∧ d ≤ 2147483647 ∧ -2147483647 ≤ n ∧ n ≤ 2147483647 := by
  unfold vldB at v; simp at v; omega

/-- What meeting a limit says, over another denominator. -/
theorem me_mt {n d a b D q l : Int} (v : vldB n d = true) (vl : lvB l = true) (hb : 0 < b) (hD : 0 < D) (e : n * b = a * d) (e2 : q * b = a * D) : meB n d l = true ↔ Zo.mt D q l := by
  have hd := vld_pos v
  have key : n * D = q * d := by
    have h1 : n * D * b = q * d * b := by
      rw [Int.mul_right_comm n D b, e, Int.mul_right_comm q d b, e2, Int.mul_right_comm a d D]
    exact Int.eq_of_mul_eq_mul_right (by omega) h1
  unfold meB mtB Zo.mt
  rw [v, vl]
  by_cases nl : l = 1099511627776
  · simp [noB, nl]
  · have nb : noB l = false := by simp [noB, nl]
    rw [nb]
    by_cases ev : l % 2 = 0
    · have eb : evB l = true := by simp [evB, ev]
      rw [eb]
      have := lt_scale hD (show 0 < d by omega) key (c := l / 2) rfl
      simp [nl, ev, this]
    · have eb : evB l = false := by simp [evB, ev]
      rw [eb]
      have := le_scale hD (show 0 < d by omega) key (c := l / 2) rfl
      simp [nl, ev, this]

theorem rd_parts {n : Nat} {l : List Int} {ps : List Pq} (h : rdE n l ps = 0) : chkE n l = 0 ∧ ps.length = n ∧ (∀ k, k < ps.length → vldC (gp ps k) = true) ∧ (∀ i, i ≤ n → ∀ j, j ≤ n → sbE ps i j = 0) := by
  obtain ⟨h1, h2, h3, h4⟩ := rd_ok h
  exact ⟨h1, by omega, h3, fun i hi j hj => rdR_at h4 (by simpa using Nat.lt_succ_of_le hi) (by simpa using Nat.lt_succ_of_le hj)⟩

theorem clk_vld {ps : List Pq} (h : ∀ k, k < ps.length → vldC (gp ps k) = true) {i : Nat} (hi : i ≤ ps.length) : vldB (clk ps i).1 (clk ps i).2 = true ∧ 0 ≤ (clk ps i).1 := by
  refine ⟨clk_ok h hi, ?_⟩
  unfold clk
  split
  · simp
  · have := h (i - 1) (by omega)
    unfold vldC at this
    simp at this
    exact this.2

theorem Ov.sub {D : Int} {X : Nat → Int} {ps : List Pq} (h : Ov D X ps) {i j : Nat} (hi : i ≤ ps.length) (hj : j ≤ ps.length) :
    (X i - X j) * ((clk ps i).2 * (clk ps j).2) = ((clk ps i).1 * (clk ps j).2 - (clk ps j).1 * (clk ps i).2) * D := by
  have a := h.val i hi
  have b := h.val j hj
  rw [Int.sub_mul, Int.sub_mul, ← Int.mul_assoc, a, Int.mul_comm (clk ps i).2 (clk ps j).2, ← Int.mul_assoc, b]
  rw [Int.mul_right_comm, Int.mul_right_comm (clk ps j).1]

/-- One element, over one denominator. -/
theorem hs_mt {n : Nat} {l : List Int} {ps : List Pq} {D : Int} {X : Nat → Int} (hv : ∀ k, k < ps.length → vldC (gp ps k) = true) (ho : Ov D X ps) {i j : Nat} (hi : i ≤ ps.length) (hj : j ≤ ps.length) (hs : sbE ps i j = 0) (hl : lvB (Zo.At n l i j) = true) :
    hsM n l ps i j = true ↔ Zo.mt D (X i - X j) (Zo.At n l i j) := by
  obtain ⟨_, h2, h3⟩ := mk_ok hs
  have p1 := vld_pos (clk_vld hv hi).1
  have p2 := vld_pos (clk_vld hv hj).1
  have hb : 0 < (clk ps i).2 * (clk ps j).2 := Int.mul_pos (by omega) (by omega)
  exact me_mt h2 hl hb ho.pos h3 (ho.sub hi hj)

theorem chk_len {n : Nat} {l : List Int} (h : chkE n l = 0) : n ≤ 10 ∧ l.length = (n + 1) * (n + 1) ∧ rdL l = true := by
  have hb : rdB (n : Int) l = true := by
    cases c : rdB (n : Int) l
    · rw [chk_read c] at h; cases h
    · rfl
  unfold rdB at hb
  rw [Bool.and_eq_true, Bool.and_eq_true] at hb
  obtain ⟨⟨h1, h2⟩, h3⟩ := hb
  simp [dimB] at h1
  simp at h2
  exact ⟨by omega, h2, h3⟩

theorem chk_lvs {n : Nat} {l : List Int} (h : chkE n l = 0) {i j : Nat} (hi : i ≤ n) (hj : j ≤ n) : lvB (Zo.At n l i j) = true := by
  obtain ⟨_, h2, h3⟩ := chk_len h
  exact lv_of_all h2 h3 i j hi hj

theorem chk_top {n : Nat} {l : List Int} (h : chkE n l = 0) : Zo.Top n l := by
  obtain ⟨_, h2, h3⟩ := chk_len h
  exact ⟨h2, fun i j hi hj => vl_top (vl_of h2 h3 i j hi hj)⟩

/-- What Has says of a point. -/
theorem has_in {n : Nat} {l : List Int} {ps : List Pq} {D : Int} {X : Nat → Int} (hr : rdE n l ps = 0) (ho : Ov D X ps) : hsR n l ps = true ↔ Zo.In n l D X := by
  obtain ⟨h1, h2, h3, h4⟩ := rd_parts hr
  unfold hsR
  rw [hr]
  simp only [decide_true, Bool.true_and, Int.toNat_natCast]
  rw [hsB_iff]
  constructor
  · intro h i j hi hj
    exact (hs_mt h3 ho (by omega) (by omega) (h4 i hi j hj) (chk_lvs h1 hi hj)).1 (h i (by omega) j (by omega))
  · intro h i hi j hj
    exact (hs_mt h3 ho (by omega) (by omega) (h4 i (by omega) j (by omega)) (chk_lvs h1 (by omega) (by omega))).2 (h i j (by omega) (by omega))

theorem rdE_other {n : Nat} {l m : List Int} {ps : List Pq} (h1 : chkE n l = 0) (h2 : chkE n m = 0) : rdE n l ps = rdE n m ps := by
  unfold rdE; rw [h1, h2]

theorem Ov.pt {n : Nat} {D : Int} {X : Nat → Int} {ps : List Pq} (h : Ov D X ps) (hp : ps.length = n) (hv : ∀ k, k < ps.length → vldC (gp ps k) = true) : Zo.Pt n D X 2147483647 := by
  have key : ∀ i, i ≤ n → 0 ≤ X i ∧ X i ≤ 2147483647 * D := by
    intro i hi
    have e := h.val i (by omega)
    obtain ⟨v, z⟩ := clk_vld hv (i := i) (by omega)
    have q := vld_pos v
    have hD := h.pos
    generalize (clk ps i).1 = a at *
    generalize (clk ps i).2 = d at *
    constructor
    · have : 0 * d ≤ X i * d := by rw [e, Int.zero_mul]; exact Int.mul_nonneg z (by omega)
      exact Int.le_of_mul_le_mul_right this (by omega)
    · have h1 : a * D ≤ 2147483647 * D := Int.mul_le_mul_of_nonneg_right (by omega) (by omega)
      have h0 : 0 ≤ 2147483647 * D := by omega
      have h2 : 2147483647 * D * 1 ≤ 2147483647 * D * d := Int.mul_le_mul_of_nonneg_left (by omega) h0
      have : X i * d ≤ 2147483647 * D * d := by rw [e]; omega
      exact Int.le_of_mul_le_mul_right this (by omega)
  refine ⟨h.pos, ?_, fun i hi => (key i hi).1, fun i hi => (key i hi).2⟩
  have e := h.val 0 (by omega)
  simp [clk] at e
  exact e

/-- Every point has a denominator. -/
def dnP (ps : List Pq) : Int := ps.foldr (fun p r => p.2 * r) 1

theorem dnP_pos {ps : List Pq} (h : ∀ p ∈ ps, 1 ≤ p.2) : 1 ≤ dnP ps := by
  induction ps with
  | nil => simp [dnP]
  | cons p ps ih =>
    have h1 := h p (by simp)
    have h2 := ih (fun q hq => h q (by simp [hq]))
    show 1 ≤ p.2 * dnP ps
    have : 0 < p.2 * dnP ps := Int.mul_pos (by omega) (by omega)
    omega

theorem dnP_dvd {ps : List Pq} {p : Pq} (h : p ∈ ps) : p.2 ∣ dnP ps := by
  induction ps with
  | nil => cases h
  | cons q ps ih =>
    show p.2 ∣ q.2 * dnP ps
    rcases List.mem_cons.1 h with rfl | h
    · exact Int.dvd_mul_right _ _
    · exact Int.dvd_trans (ih h) (Int.dvd_mul_left _ _)

theorem gp_mem {ps : List Pq} {k : Nat} (h : k < ps.length) : gp ps k ∈ ps := by
  unfold gp
  rw [List.getD_eq_getElem?_getD, List.getElem?_eq_getElem h]
  exact List.getElem_mem h

theorem ov_of {ps : List Pq} (hv : ∀ k, k < ps.length → vldC (gp ps k) = true) : Ov (dnP ps) (fun i => (clk ps i).1 * (dnP ps / (clk ps i).2)) ps := by
  have h2 : ∀ p ∈ ps, 1 ≤ p.2 := by
    intro p hp
    obtain ⟨k, hk, rfl⟩ := List.getElem_of_mem hp
    have := hv k hk
    unfold gp at this
    rw [List.getD_eq_getElem?_getD, List.getElem?_eq_getElem hk] at this
    simp [vldC] at this
    exact (vld_pos this.1).1
  refine ⟨by have := dnP_pos h2; omega, fun i hi => ?_⟩
  show (clk ps i).1 * (dnP ps / (clk ps i).2) * (clk ps i).2 = _
  rw [Int.mul_assoc]
  congr 1
  refine Int.ediv_mul_cancel ?_
  unfold clk
  split
  · exact Int.one_dvd _
  · exact dnP_dvd (gp_mem (by omega))

/-- Constraints. -/
theorem an_in {n : Nat} {cs : List Con} {l : List Int} {D : Int} {X : Nat → Int} (hD : 0 < D) (hl : Zo.Top n l) (hok : ∀ t, t < cs.length → okC n (gc cs t) = true) :
    Zo.In n (anL n cs l) D X ↔ Zo.In n l D X ∧ ∀ t, t < cs.length → Zo.mt D (X (gc cs t).1.toNat - X (gc cs t).2.1.toNat) (gc cs t).2.2 := by
  have hl1 := hl.1
  have step : ∀ s, s ≤ cs.length → (Zo.In n ((List.range s).foldl (anS n cs) l) D X ↔ Zo.In n l D X ∧ ∀ t, t < s → Zo.mt D (X (gc cs t).1.toNat - X (gc cs t).2.1.toNat) (gc cs t).2.2) ∧ Zo.Top n ((List.range s).foldl (anS n cs) l) := by
    intro s
    induction s with
    | zero => intro _; exact ⟨⟨fun h => ⟨h, fun t ht => absurd ht (by omega)⟩, fun h => h.1⟩, hl⟩
    | succ s ih =>
      intro hs
      obtain ⟨i1, i2⟩ := ih (by omega)
      obtain ⟨p1, p2, p3⟩ := okC_parts (hok s (by omega))
      rw [Zo.fold_succ]
      generalize hu : (List.range s).foldl (anS n cs) l = u at *
      have hat : ∀ a b, b ≤ n → Zo.At n (anS n cs u s) a b = if a = (gc cs s).1.toNat ∧ b = (gc cs s).2.1.toNat then imin (Zo.At n u (gc cs s).1.toNat (gc cs s).2.1.toNat) (gc cs s).2.2 else Zo.At n u a b := fun a b hb => anS_at i2.1 (hok s (by omega)) hb
      have ht : Zo.Top n (anS n cs u s) := by
        refine ⟨by rw [anS_len]; exact i2.1, fun a b ha hb => ?_⟩
        rw [hat a b hb]
        split
        · have := i2.2 _ _ p1 p2
          unfold imin
          omega
        · exact i2.2 a b ha hb
      refine ⟨?_, ht⟩
      constructor
      · intro h
        have hu2 : Zo.In n u D X := by
          intro a b ha hb
          have := h a b ha hb
          rw [hat a b hb] at this
          split at this
          · rename_i e
            rw [e.1, e.2] at *
            exact Zo.mt_mono hD (by unfold imin; omega) (i2.2 _ _ p1 p2) this
          · exact this
        refine ⟨(i1.1 hu2).1, fun t htt => ?_⟩
        by_cases c : t = s
        · subst c
          have := h _ _ p1 p2
          rw [hat _ _ p2, if_pos ⟨rfl, rfl⟩] at this
          exact Zo.mt_mono hD (by unfold imin; omega) (vl_top p3) this
        · exact (i1.1 hu2).2 t (by omega)
      · intro h a b ha hb
        have hu2 := i1.2 ⟨h.1, fun t htt => h.2 t (by omega)⟩
        rw [hat a b hb]
        split
        · rename_i e
          rw [e.1, e.2]
          exact Zo.mt_min (hu2 _ _ p1 p2) (h.2 s (by omega))
        · exact hu2 a b ha hb
  exact (step cs.length (Nat.le_refl _)).1

/-- Closing: the points stay, and a set with a point is not empty. -/
theorem clo_in {n : Nat} {l : List Int} {D M : Int} {X : Nat → Int} (hp : Zo.Pt n D X M) (hM : M ≤ 4611686018427387) (ht : Zo.Top n l) : Zo.In n (Zo.clo n l) D X ↔ Zo.In n l D X :=
  ⟨Zo.clo_complete hp.pos ht, Zo.clo_sound hp hM ht⟩

theorem clo_full {n : Nat} {l : List Int} {D M : Int} {X : Nat → Int} (hp : Zo.Pt n D X M) (hM : M ≤ 4611686018427387) (ht : Zo.Top n l) (h : Zo.In n l D X) : cloB n l = false :=
  cloB_iff.2 fun _ hi => Zo.In.diag hp.pos (Zo.clo_sound hp hM ht h) hi

theorem cloE_full {n : Nat} {l : List Int} (h : cloB n l = false) : cloE n l ≠ 4 := by
  unfold cloE
  rw [h]
  simp
  split <;> simp
end Go.Proofs.Ytjfhjckacfkpoaa

namespace Go.Proofs.Ytjfhjckacfkpoaa

/-- An element times D. -/
def scE (D x : Int) : Int := if x = 1099511627776 then 1099511627776 else 2 * (x / 2) * D + x % 2

def scL (D : Int) (l : List Int) : List Int := l.map (scE D)

theorem scL_len (D : Int) (l : List Int) : (scL D l).length = l.length := by simp [scL]

theorem scL_at {n : Nat} {D : Int} {l : List Int} (hl : l.length = (n + 1) * (n + 1)) {a b : Nat} (ha : a ≤ n) (hb : b ≤ n) : Zo.At n (scL D l) a b = scE D (Zo.At n l a b) := by
  have := Zo.ix_lt ha hb
  unfold Zo.At Zo.gt scL
  simp [show Zo.ix n a b < l.length by omega]

theorem scE_no (D : Int) : scE D 1099511627776 = 1099511627776 := by unfold scE; rw [if_pos rfl]

theorem scE_num {D x : Int} (h : x ≠ 1099511627776) : scE D x = 2 * (x / 2) * D + x % 2 := by unfold scE; rw [if_neg h]

/-- The constants of a zone are small. -/
def Sm (n : Nat) (l : List Int) : Prop := ∀ a b, a ≤ n → b ≤ n → Zo.At n l a b = 1099511627776 ∨ (-1048576 ≤ Zo.At n l a b / 2 ∧ Zo.At n l a b / 2 ≤ 1048576)

theorem mul_le' {a b D : Int} (h : a ≤ b) (hD : 0 < D) : a * D ≤ b * D := Int.mul_le_mul_of_nonneg_right h (by omega)

theorem of_mul_le {a b D : Int} (h : a * D ≤ b * D) (hD : 0 < D) : a ≤ b := Int.le_of_mul_le_mul_right h hD

theorem scE_range {D x : Int} (h1 : 1 ≤ D) (h2 : D ≤ 500) (hx : x = 1099511627776 ∨ (-1048576 ≤ x / 2 ∧ x / 2 ≤ 1048576)) : scE D x = 1099511627776 ∨ (-1048576000 ≤ scE D x ∧ scE D x ≤ 1048576001) := by
  by_cases c : x = 1099511627776
  · left; rw [c, scE_no]
  · right
    rw [scE_num c]
    have a1 := Int.mul_le_mul_of_nonneg_left h2 (show (0 : Int) ≤ 1048576 by omega)
    have hh := hx.resolve_left c
    have a2 := mul_le' hh.1 (show 0 < D by omega)
    have a3 := mul_le' hh.2 (show 0 < D by omega)
    rw [Int.mul_assoc]
    omega

theorem sc_tri {D x y z : Int} (hD : 1 ≤ D) (hd : D ≤ 500) (hx : x = 1099511627776 ∨ (-1048576 ≤ x / 2 ∧ x / 2 ≤ 1048576)) (hy : y = 1099511627776 ∨ (-1048576 ≤ y / 2 ∧ y / 2 ≤ 1048576)) (hz : z = 1099511627776 ∨ (-1048576 ≤ z / 2 ∧ z / 2 ≤ 1048576)) (h : x ≤ Zo.smW y z) :
    scE D x ≤ Zo.smW (scE D y) (scE D z) := by
  have rx := scE_range hD hd hx
  have ry := scE_range hD hd hy
  have rz := scE_range hD hd hz
  by_cases cy : y = 1099511627776
  · rw [cy, scE_no]; unfold Zo.smW; rw [if_pos (Or.inl rfl)]; omega
  by_cases cz : z = 1099511627776
  · rw [cz, scE_no]; unfold Zo.smW; rw [if_pos (Or.inr rfl)]; omega
  have ny := ry.resolve_left (by rw [scE_num cy]; have := hy.resolve_left cy; have b1 := scE_range hD hd hy; rw [scE_num cy] at b1; intro q; have a2 := mul_le' this.2 (show 0 < D by omega); have a1 := Int.mul_le_mul_of_nonneg_left hd (show (0 : Int) ≤ 1048576 by omega); rw [Int.mul_assoc] at q; omega)
  have nz := rz.resolve_left (by rw [scE_num cz]; have := hz.resolve_left cz; intro q; have a2 := mul_le' this.2 (show 0 < D by omega); have a1 := Int.mul_le_mul_of_nonneg_left hd (show (0 : Int) ≤ 1048576 by omega); rw [Int.mul_assoc] at q; omega)
  have hyy := hy.resolve_left cy
  have hzz := hz.resolve_left cz
  have w1 : Zo.w64 (y + z) = y + z := Zo.w64_in (by omega) (by omega)
  have w2 : Zo.w64 (y + z - 1) = y + z - 1 := Zo.w64_in (by omega) (by omega)
  unfold Zo.smW at h
  rw [if_neg (by omega), w1, w2] at h
  have cx : x ≠ 1099511627776 := by intro c; split at h <;> omega
  unfold Zo.smW
  rw [if_neg (by omega)]
  generalize hY : scE D y = Y at *
  generalize hZ : scE D z = Z at *
  rw [Zo.w64_in (x := Y + Z) (by omega) (by omega), Zo.w64_in (x := Y + Z - 1) (by omega) (by omega)]
  rw [scE_num cx, Int.mul_assoc]
  rw [scE_num cy, Int.mul_assoc] at hY
  rw [scE_num cz, Int.mul_assoc] at hZ
  have k0 : x / 2 ≤ y / 2 + z / 2 → x / 2 * D ≤ y / 2 * D + z / 2 * D := fun q => by rw [← Int.add_mul]; exact mul_le' q (by omega)
  have k1 : x / 2 ≤ y / 2 + z / 2 - 1 → x / 2 * D ≤ y / 2 * D + z / 2 * D - D := fun q => by
    have := mul_le' q (show 0 < D by omega)
    rw [Int.sub_mul, Int.one_mul, Int.add_mul] at this
    exact this
  generalize x / 2 * D = xd at *
  generalize y / 2 * D = yd at *
  generalize z / 2 * D = zd at *
  have : x / 2 ≤ y / 2 + z / 2 := by split at h <;> omega
  have k0' := k0 this
  by_cases c : x / 2 ≤ y / 2 + z / 2 - 1
  · have k1' := k1 c
    split <;> omega
  · split at h
    · rw [if_pos (by omega)]; omega
    · rw [if_neg (by omega)]; omega

/-- A canonical matrix times D is canonical. -/
theorem sc_chk {n : Nat} {D : Int} {l : List Int} (hc : chkE n l = 0) (hS : Sm n l) (hD : 1 ≤ D) (hd : D ≤ 500) : chkE n (scL D l) = 0 := by
  obtain ⟨hn, hl, hr⟩ := chk_len hc
  have d := chk_diag hc
  have lg : (scL D l).length = (n + 1) * (n + 1) := by rw [scL_len, hl]
  have at' := fun a b (ha : a ≤ n) (hb : b ≤ n) => scL_at (D := D) hl ha hb
  have hv : rdL (scL D l) = true := all_of_lv lg fun a b ha hb => by
    rw [at' a b ha hb]
    have := scE_range hD hd (hS a b ha hb)
    unfold lvB; simp; omega
  have dg : ∀ a, a ≤ n → Zo.At n (scL D l) a a = 1 := fun a ha => by
    rw [at' a a ha ha, d.1 a ha, scE_num (by omega)]; omega
  have e := clo_fix lg (fun a ha => by rw [dg a ha]; omega) (fun a ha => by
      rw [at' 0 a (by omega) ha]
      have r := d.2 a ha
      rw [scE_num (by omega), Int.mul_assoc]
      have := mul_le' (show Zo.At n l 0 a / 2 ≤ 0 by omega) (show 0 < D by omega)
      rw [Int.zero_mul] at this
      by_cases q : Zo.At n l 0 a / 2 = 0
      · rw [q]; omega
      · have := mul_le' (show Zo.At n l 0 a / 2 ≤ -1 by omega) (show 0 < D by omega)
        omega) (fun i j k hi hj hk => by
      rw [at' i j hi hj, at' i k hi hk, at' k j hk hj]
      exact sc_tri hD hd (hS i j hi hj) (hS i k hi hk) (hS k j hk hj) (chk_tri hc i j k hi hj hk))
  exact (chk_iff hn lg hv).2 ⟨cloB_iff.2 fun i hi => by rw [e, dg i hi]; omega, e⟩

/-- Constants that are -1 stay so. -/
def cnV (k D : Int) : Int := if k < 0 then -1 else k * D

theorem cov_two {D c xt xs : Int} {t s : Nat} {low high : List Int} (hD : 0 < D) (lv : lvB c = true) (hn : c ≠ 1099511627776) (hm : Zo.mt D (xt - xs) (wdn c t s low high)) (pt : 0 ≤ xt)
    (ht : 1 ≤ t → 0 ≤ Zo.gt low (t - 1) ∧ xt ≤ Zo.gt low (t - 1) * D) (hs : 1 ≤ s → 0 ≤ Zo.gt high (s - 1) ∧ xs ≤ Zo.gt high (s - 1) * D) (p0 : 0 ≤ xs) : Zo.mt D (xt - xs) c := by
  rcases Classical.em (Zo.mt D (xt - xs) c) with h | h
  · exact h
  · exfalso
    have hk : c / 2 * D ≤ xt - xs := by
      unfold Zo.mt at h
      by_cases q : c % 2 = 0
      · rcases Int.lt_or_le (xt - xs) (c / 2 * D) with z | z
        · exact absurd (Or.inr (Or.inl ⟨q, z⟩)) h
        · exact z
      · rcases Int.lt_or_le (c / 2 * D) (xt - xs) with z | z
        · omega
        · exact absurd (Or.inr (Or.inr ⟨q, z⟩)) h
    rw [wdn_num lv hn] at hm
    have r1 : ¬ (1 ≤ t ∧ (Zo.gt low (t - 1) = -1 ∨ Zo.gt low (t - 1) < c / 2)) := by
      rintro ⟨q, r⟩
      have := ht q
      have : c / 2 ≤ Zo.gt low (t - 1) := of_mul_le (D := D) (by omega) hD
      omega
    rw [if_neg r1] at hm
    have r2 : ¬ (1 ≤ s ∧ Zo.gt high (s - 1) = -1) := by
      rintro ⟨q, r⟩
      have := hs q
      omega
    rw [if_neg r2] at hm
    by_cases r3 : 1 ≤ s ∧ c / 2 < -Zo.gt high (s - 1)
    · rw [if_pos r3] at hm
      have := hs r3.1
      unfold Zo.mt at hm
      rw [show -2 * Zo.gt high (s - 1) / 2 = -Zo.gt high (s - 1) by omega, show -Zo.gt high (s - 1) * D = -(Zo.gt high (s - 1) * D) from Int.neg_mul _ _] at hm
      omega
    · rw [if_neg r3] at hm
      exact h hm

theorem cov_one {D c xt xs : Int} {t s : Nat} {low high : List Int} (hD : 0 < D) (lv : lvB c = true) (hn : c ≠ 1099511627776) (hm : Zo.mt D (xt - xs) (wdn c t s low high)) (pt : 0 ≤ xt)
    (ht : 0 ≤ Zo.gt low (t - 1) ∧ Zo.gt low (t - 1) * D < xt) (hs : 1 ≤ s → 0 ≤ Zo.gt high (s - 1) ∧ xs ≤ Zo.gt high (s - 1) * D) (p0 : 0 ≤ xs) : Zo.gt low (t - 1) * D - xs < c / 2 * D := by
  rcases Int.lt_or_le (Zo.gt low (t - 1) * D - xs) (c / 2 * D) with h | h
  · exact h
  · exfalso
    rw [wdn_num lv hn] at hm
    have kl : c / 2 ≤ Zo.gt low (t - 1) := of_mul_le (D := D) (by omega) hD
    rw [if_neg (by omega)] at hm
    have r2 : ¬ (1 ≤ s ∧ Zo.gt high (s - 1) = -1) := by
      rintro ⟨q, r⟩
      have := hs q
      omega
    rw [if_neg r2] at hm
    by_cases r3 : 1 ≤ s ∧ c / 2 < -Zo.gt high (s - 1)
    · rw [if_pos r3] at hm
      have := hs r3.1
      unfold Zo.mt at hm
      rw [show -2 * Zo.gt high (s - 1) / 2 = -Zo.gt high (s - 1) by omega, show -Zo.gt high (s - 1) * D = -(Zo.gt high (s - 1) * D) from Int.neg_mul _ _] at hm
      omega
    · rw [if_neg r3] at hm
      unfold Zo.mt at hm
      omega
end Go.Proofs.Ytjfhjckacfkpoaa
