/- Contracts of simplest and Middle, of package ratio and of the reference. -/
import Derived.Test.YtnbkphklidjmhaaDoorE
import Derived.Test.YtnbkphklidjmhaaDoorSimp
namespace Go.Proofs.YtnbkphklidjmhaaDoor
open Go.RowKit

/-- The arguments of a call of simplest, within their limits. -/
structure Args (p q r s : Int) : Prop where
  p1 : -2147483647 ≤ p
  p2 : p ≤ 2147483647
  r1 : -2147483647 ≤ r
  r2 : r ≤ 2147483647
  q2 : q ≤ 2147483647
  s2 : s ≤ 2147483647
  ends : Ends p q r s

theorem lowB (p q : Int) (h1 : -2147483647 ≤ p) (h2 : p ≤ 2147483647) (hq : 1 ≤ q) : -2147483647 ≤ p / q ∧ p / q ≤ 2147483647 := by
  constructor
  · rw [Int.le_ediv_iff_mul_le (by omega)]
    have : (-2147483647 : Int) * q ≤ -2147483647 * 1 := by omega
    omega
  · apply Int.ediv_le_of_le_mul (by omega)
    have : (2147483647 : Int) * 1 ≤ 2147483647 * q := by omega
    omega

theorem Args.next {p q r s : Int} (h : Args p q r s) (hn : ¬ (p / q + 1) * s < r) : Args s (r - (p / q) * s) q (p - (p / q) * q) := by
  obtain ⟨s1, r1, r2, g0, g1, hE⟩ := h.ends.next hn
  have := h.q2
  have := h.s2
  have := h.ends.q1
  exact ⟨by omega, by omega, by omega, by omega, by omega, by omega, hE⟩

theorem mulB {x y : Int} (x1 : -2147483647 ≤ x) (x2 : x ≤ 2147483647) (y1 : 0 ≤ y) (y2 : y ≤ 4294967294) :
    -9223372028264841218 ≤ x * y ∧ x * y ≤ 9223372028264841218 := by
  have h : (x * y).natAbs ≤ 2147483647 * 4294967294 := by
    rw [Int.natAbs_mul]; exact Nat.mul_le_mul (by omega) (by omega)
  omega

/-- In a call that calls itself: the numbers that come back. -/
theorem inner_bd (k : Nat) {p q r s : Int} (h : Args p q r s) (hk : q + s ≤ (k + 1 : Nat)) (hn : ¬ (p / q + 1) * s < r) :
    1 ≤ (smp k s (r - (p / q) * s) q (p - (p / q) * q)).1 ∧ (smp k s (r - (p / q) * s) q (p - (p / q) * q)).1 ≤ 4294967294 ∧
    1 ≤ (smp k s (r - (p / q) * s) q (p - (p / q) * q)).2 ∧ (smp k s (r - (p / q) * s) q (p - (p / q) * q)).2 ≤ 4294967294 := by
  have h1 := smp_den (k + 1) p q r s h.ends hk
  have e : (smp (k + 1) p q r s).2 = (smp k s (r - (p / q) * s) q (p - (p / q) * q)).1 := by
    rw [smp, if_neg hn]
  rw [e] at h1
  obtain ⟨s1, r1, r2, g0, g1, hE⟩ := h.ends.next hn
  have h2 := smp_den k _ _ _ _ hE (by omega)
  have := h.q2
  have := h.s2
  have := h.ends.q1
  omega

theorem smp_rng (k : Nat) {p q r s : Int} (h : Args p q r s) (hk : q + s ≤ k) : I64 (smp k p q r s).1 ∧ 1 ≤ (smp k p q r s).2 ∧ (smp k p q r s).2 ≤ 4294967294 := by
  have hd := smp_den k p q r s h.ends hk
  have := h.q2
  have := h.s2
  refine ⟨?_, hd.1, by omega⟩
  match k, hk with
  | 0, hk => exfalso; have := h.ends.q1; have := h.ends.s0; omega
  | k + 1, hk =>
    have lb := lowB p q h.p1 h.p2 h.ends.q1
    unfold smp
    by_cases hn : (p / q + 1) * s < r
    · rw [if_pos hn]; unfold I64; simp; omega
    · rw [if_neg hn]
      have ib := inner_bd k h hk hn
      have mb := mulB lb.1 lb.2 (show 0 ≤ (smp k s (r - (p / q) * s) q (p - (p / q) * q)).1 by omega) ib.2.1
      unfold I64
      simp only
      omega

set_option maxHeartbeats 400000 in
theorem simplest_any (k : Nat) : ∀ (p q r s : Int) (w : World), Args p q r s → q + s ≤ k →
    Calls Tryd.prog 46 #[.int .i64 p, .int .i64 q, .int .i64 r, .int .i64 s] w fun e w' => e = .returned (.tuple #[.int .i64 (smp k p q r s).1, .int .i64 (smp k p q r s).2]) ∧ w = w' := by
  induction k with
  | zero => intro p q r s w h hk; exfalso; have := h.ends.q1; have := h.ends.s0; omega
  | succ k ih =>
    intro p q r s w h hk
    have IH := Lib.hid ih
    clear ih
    obtain ⟨lb1, lb2⟩ := lowB p q h.p1 h.p2 h.ends.q1
    have p1 := h.p1
    have p2 := h.p2
    have r1 := h.r1
    have r2 := h.r2
    have q1 := h.ends.q1
    have q2 := h.q2
    have s1 := h.ends.s0
    have s2 := h.s2
    obtain ⟨m1, m2⟩ := mul_bd lb1 lb2 (show -2147483647 ≤ s by omega) s2
    have m3 : (p / q + 1) * s = p / q * s + s := by rw [Int.add_mul]; omega
    have m4 : -4611686018427387904 ≤ (p / q + 1) * s := by omega
    have m5 : (p / q + 1) * s ≤ 4611686018427387904 := by omega
    clear m3
    obtain ⟨m6, m7⟩ := mul_bd lb1 lb2 (show -2147483647 ≤ q by omega) q2
    by_cases hn : (p / q + 1) * s < r
    · have H := Lib.hid (show smp (k + 1) p q r s = (p / q + 1, 1) by rw [smp, if_pos hn])
      go_enter Tryd.func46, Tryd.ntmps46
      go_wp2_with fail
      refine (rounded_any _ _ _ (by omega) (by omega) (by omega) (by omega)).mono ?_
      rintro e w1 ⟨rfl, rfl⟩
      generalize p / q = low at *
      go_wp2_with fail
      go_ret2
      exact ⟨by rw [H.out]; rfl, rfl⟩
    · have hA := h.next hn
      have ib := inner_bd k h hk hn
      obtain ⟨i1, i2, i3, i4⟩ := ib
      obtain ⟨b1, b2⟩ := mulB lb1 lb2 (show 0 ≤ (smp k s (r - (p / q) * s) q (p - (p / q) * q)).1 by omega) i2
      obtain ⟨s1', r1', r2', g0, g1, hE⟩ := h.ends.next hn
      have hk2 : r - p / q * s + (p - p / q * q) ≤ k := by omega
      have H := Lib.hid (show smp (k + 1) p q r s = ((p / q) * (smp k s (r - (p / q) * s) q (p - (p / q) * q)).1 + (smp k s (r - (p / q) * s) q (p - (p / q) * q)).2,
        (smp k s (r - (p / q) * s) q (p - (p / q) * q)).1) by rw [smp, if_neg hn])
      go_enter Tryd.func46, Tryd.ntmps46
      go_wp2_with fail
      refine (rounded_any _ _ _ (by omega) (by omega) (by omega) (by omega)).mono ?_
      rintro e w1 ⟨rfl, rfl⟩
      generalize p / q = low at *
      go_wp2_with fail
      refine (IH.out _ _ _ _ _ hA hk2).mono ?_
      rintro e w1 ⟨rfl, rfl⟩
      generalize (smp k s (r - low * s) q (p - low * q)).1 = den at *
      generalize (smp k s (r - low * s) q (p - low * q)).2 = num at *
      go_wp2_with fail
      go_ret2
      exact ⟨by rw [H.out]; rfl, rfl⟩

set_option maxHeartbeats 400000 in
theorem refSimplest_any (k : Nat) : ∀ (p q r s : Int) (w : World), Args p q r s → q + s ≤ k →
    Calls Tryd.prog 47 #[.int .i64 p, .int .i64 q, .int .i64 r, .int .i64 s] w fun e w' => e = .returned (.tuple #[.int .i64 (smp k p q r s).1, .int .i64 (smp k p q r s).2]) ∧ w = w' := by
  induction k with
  | zero => intro p q r s w h hk; exfalso; have := h.ends.q1; have := h.ends.s0; omega
  | succ k ih =>
    intro p q r s w h hk
    have IH := Lib.hid ih
    clear ih
    obtain ⟨lb1, lb2⟩ := lowB p q h.p1 h.p2 h.ends.q1
    have p1 := h.p1
    have p2 := h.p2
    have r1 := h.r1
    have r2 := h.r2
    have q1 := h.ends.q1
    have q2 := h.q2
    have s1 := h.ends.s0
    have s2 := h.s2
    obtain ⟨m1, m2⟩ := mul_bd lb1 lb2 (show -2147483647 ≤ s by omega) s2
    have m3 : (p / q + 1) * s = p / q * s + s := by rw [Int.add_mul]; omega
    have m4 : -4611686018427387904 ≤ (p / q + 1) * s := by omega
    have m5 : (p / q + 1) * s ≤ 4611686018427387904 := by omega
    clear m3
    obtain ⟨m6, m7⟩ := mul_bd lb1 lb2 (show -2147483647 ≤ q by omega) q2
    by_cases hn : (p / q + 1) * s < r
    · have H := Lib.hid (show smp (k + 1) p q r s = (p / q + 1, 1) by rw [smp, if_pos hn])
      by_cases hs : s = 0
      · subst hs
        go_enter Tryd.func47, Tryd.ntmps47
        go_wp2_with fail
        refine (floor_any _ _ _ (by omega) (by omega) (by omega) (by omega)).mono ?_
        rintro e w1 ⟨rfl, rfl⟩
        generalize p / q = low at *
        go_wp2_with fail
        go_ret2
        exact ⟨by rw [H.out]; rfl, rfl⟩
      have hs2 : (s == 0) = false := by simpa using hs
      go_enter Tryd.func47, Tryd.ntmps47
      go_wp2_with fail
      refine (floor_any _ _ _ (by omega) (by omega) (by omega) (by omega)).mono ?_
      rintro e w1 ⟨rfl, rfl⟩
      generalize p / q = low at *
      go_wp2_with fail
      go_ret2
      exact ⟨by rw [H.out]; rfl, rfl⟩
    · have hA := h.next hn
      have ib := inner_bd k h hk hn
      obtain ⟨i1, i2, i3, i4⟩ := ib
      obtain ⟨b1, b2⟩ := mulB lb1 lb2 (show 0 ≤ (smp k s (r - (p / q) * s) q (p - (p / q) * q)).1 by omega) i2
      obtain ⟨s1', r1', r2', g0, g1, hE⟩ := h.ends.next hn
      have hk2 : r - p / q * s + (p - p / q * q) ≤ k := by omega
      have H := Lib.hid (show smp (k + 1) p q r s = ((p / q) * (smp k s (r - (p / q) * s) q (p - (p / q) * q)).1 + (smp k s (r - (p / q) * s) q (p - (p / q) * q)).2,
        (smp k s (r - (p / q) * s) q (p - (p / q) * q)).1) by rw [smp, if_neg hn])
      have hs2 : (s == 0) = false := by simp; omega
      go_enter Tryd.func47, Tryd.ntmps47
      go_wp2_with fail
      refine (floor_any _ _ _ (by omega) (by omega) (by omega) (by omega)).mono ?_
      rintro e w1 ⟨rfl, rfl⟩
      generalize p / q = low at *
      go_wp2_with fail
      refine (IH.out _ _ _ _ _ hA hk2).mono ?_
      rintro e w1 ⟨rfl, rfl⟩
      generalize (smp k s (r - low * s) q (p - low * q)).1 = den at *
      generalize (smp k s (r - low * s) q (p - low * q)).2 = num at *
      go_wp2_with fail
      go_ret2
      exact ⟨by rw [H.out]; rfl, rfl⟩

end Go.Proofs.YtnbkphklidjmhaaDoor
