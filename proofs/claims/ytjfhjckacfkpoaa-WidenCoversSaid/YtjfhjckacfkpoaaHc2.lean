/- Plain mathematics: a point of a widened zone is covered by one of the zone.; Plain mathematics: numbers by their digits to the base 3.; Plain mathematics: the constraints by which a valuation covers a point.; The quotient by 3, as a step of a walk.; Contracts of layer 4's small functions: at, areBound, and of the reference's at, bound.; Contracts of layer 4's isPlain and isSum.; Contracts of layer 4's reference: First, next.; The contract of layer 4's reference: kept.; The contract of layer 4's reference: Reduce; lists of constraints that a call has made.; Layer 6's law: covered.; Layer 6's law: scaled.; Plain mathematics: the case of each clock in which a point is covered.; WidenCovers, for whatever arguments: the walk.; Arguments opened: a slice of ratios, an array of two lists of constants. -/
import Derived.Test.YtjfhjckacfkpoaaHc1
import Derived.Test.YtjfhjckacfkpoaaHb1
import Derived.Test.YtjfhjckacfkpoaaHa4
import Derived.Lib.AppendZeros
import Derived.Test.YtjfhjckacfkpoaaHa1
import Derived.Test.YtjfhjckacfkpoaaHa3
import Derived.BigQuiet
import Derived.Test.YtjfhjckacfkpoaaHa2

namespace Go.Proofs.Ytjfhjckacfkpoaa

def hugeC : Int := 17179869185

/-- The box of the valuations that cover a point. -/
def bxA (D : Int) (X : Nat → Int) (low : List Int) (t : Nat) : Int := if t = 0 then 1 else if cnV (Zo.gt low (t - 1)) D < X t then -2 * cnV (Zo.gt low (t - 1)) D else -2 * X t + 1

def bxB (D : Int) (X : Nat → Int) (high : List Int) (s : Nat) : Int := if s = 0 then 1 else if cnV (Zo.gt high (s - 1)) D < X s then hugeC else 2 * X s + 1

/-- Along the cycles through a lower bound, an element and an upper bound the sum is not below 0. -/
theorem cov_sum {n : Nat} {D : Int} {l low high : List Int} {X : Nat → Int} (hc : chkE n l = 0) (hS : Sm n l) (h1 : 1 ≤ D) (h2 : D ≤ 500) (hlo : Kn n low) (_ : Kn n high) (hX0 : X 0 = 0) (hX : ∀ i, i ≤ n → 0 ≤ X i ∧ X i ≤ 524288000)
    (hIn : Zo.In n (wdM n low high l) D X) {t s : Nat} (ht : t ≤ n) (hs : s ≤ n) : Zo.le (some 1) (Zo.add (Zo.add (some (bxA D X low t)) (Zo.dec (scE D (Zo.At n l t s)))) (some (bxB D X high s))) := by
  obtain ⟨hn, hl, hr⟩ := chk_len hc
  have hD : 0 < D := by omega
  have lv := fun a b (ha : a ≤ n) (hb : b ≤ n) => chk_lvs hc ha hb
  have d := chk_diag hc
  by_cases cn : Zo.At n l t s = 1099511627776
  · rw [cn, scE_no]
    show Zo.le _ (Zo.add (Zo.add _ (Zo.dec 1099511627776)) _)
    rw [show Zo.dec 1099511627776 = none from by unfold Zo.dec; rw [if_pos rfl]]
    exact Zo.le_none _
  have rg := scE_range h1 h2 (hS t s ht hs)
  have rgn : -1048576000 ≤ scE D (Zo.At n l t s) ∧ scE D (Zo.At n l t s) ≤ 1048576001 := by
    refine rg.resolve_left ?_
    rw [scE_num cn, Int.mul_assoc]
    intro q
    have a1 := Int.mul_le_mul_of_nonneg_left h2 (show (0 : Int) ≤ 1048576 by omega)
    have a2 := mul_le' ((hS t s ht hs).resolve_left cn).2 hD
    omega
  rw [show Zo.dec (scE D (Zo.At n l t s)) = some (scE D (Zo.At n l t s)) from by unfold Zo.dec; rw [if_neg (by omega)]]
  show (1 : Int) ≤ Zo.ps (Zo.ps (bxA D X low t) (scE D (Zo.At n l t s))) (bxB D X high s)
  -- the elements are met by the point, widened
  have hm : ∀ a b, a ≤ n → b ≤ n → a ≠ b → Zo.mt D (X a - X b) (wdn (Zo.At n l a b) a b low high) := fun a b ha hb hne => by
    have := hIn a b ha hb
    rw [wd_at hl ha hb, if_neg hne] at this
    exact this
  have cv : ∀ k, -1 ≤ k → k ≤ 1048576 → -1 ≤ cnV k D ∧ cnV k D ≤ 524288000 := fun k a b => by
    unfold cnV
    split
    · omega
    · have a1 := Int.mul_le_mul_of_nonneg_left h2 (show (0 : Int) ≤ 1048576 by omega)
      have a2 := mul_le' b hD
      have a3 := mul_le' (show 0 ≤ k by omega) hD
      rw [Int.zero_mul] at a3
      omega
  have hXt := hX t ht
  have hXs := hX s hs
  have e2 : scE D (Zo.At n l t s) = 2 * (Zo.At n l t s / 2 * D) + Zo.At n l t s % 2 := by rw [scE_num cn, Int.mul_assoc]
  have bA : -1048576000 ≤ bxA D X low t := by
    unfold bxA
    split
    · omega
    · have := hlo.2 (t - 1) (by omega)
      have := cv _ this.1 this.2
      split <;> omega
  -- the upper bound is out of reach
  by_cases hB : s ≠ 0 ∧ cnV (Zo.gt high (s - 1)) D < X s
  · rw [show bxB D X high s = hugeC by unfold bxB; rw [if_neg hB.1, if_pos hB.2]]
    unfold hugeC Zo.ps
    split <;> split <;> omega
  have eB : bxB D X high s = 2 * X s + 1 := by
    unfold bxB
    by_cases q : s = 0
    · rw [if_pos q, q, hX0]; rfl
    · rw [if_neg q, if_neg (fun r => hB ⟨q, r⟩)]
  rw [eB]
  have hsb : 1 ≤ s → 0 ≤ Zo.gt high (s - 1) ∧ X s ≤ Zo.gt high (s - 1) * D := fun q => by
    have h : ¬ cnV (Zo.gt high (s - 1)) D < X s := fun r => hB ⟨by omega, r⟩
    unfold cnV at h
    by_cases r : Zo.gt high (s - 1) < 0
    · rw [if_pos r] at h; exact absurd (by omega) h
    · rw [if_neg r] at h; omega
  -- what the pair (t, s) gives, where the lower bound is the point itself
  have two : ∀ t, t ≤ n → Zo.At n l t s ≠ 1099511627776 → (1 ≤ t → 0 ≤ Zo.gt low (t - 1) ∧ X t ≤ Zo.gt low (t - 1) * D) → Zo.mt D (X t - X s) (Zo.At n l t s) := fun t ht cn h => by
    by_cases q : t = s
    · subst q
      rw [d.1 t ht, show X t - X t = 0 by omega]
      unfold Zo.mt; omega
    · exact cov_two hD (lv t s ht hs) cn (hm t s ht hs q) (hX t ht).1 h hsb hXs.1
  by_cases hA : t ≠ 0 ∧ cnV (Zo.gt low (t - 1)) D < X t
  · rw [show bxA D X low t = -2 * cnV (Zo.gt low (t - 1)) D by unfold bxA; rw [if_neg hA.1, if_pos hA.2]]
    have key : cnV (Zo.gt low (t - 1)) D - X s < Zo.At n l t s / 2 * D := by
      by_cases q : t = s
      · subst q
        rw [d.1 t ht]
        omega
      have hlt := hlo.2 (t - 1) (by omega)
      by_cases neg : Zo.gt low (t - 1) < 0
      · rw [show cnV (Zo.gt low (t - 1)) D = -1 by unfold cnV; rw [if_pos neg]]
        rcases Int.lt_or_le (-1 - X s) (Zo.At n l t s / 2 * D) with z | z
        · exact z
        · exfalso
          have kn : Zo.At n l t s / 2 ≤ -1 := by
            rcases Int.lt_or_le (-1) (Zo.At n l t s / 2) with y | y
            · have := mul_le' (show 0 ≤ Zo.At n l t s / 2 by omega) hD
              rw [Int.zero_mul] at this
              omega
            · exact y
          -- the lower bound of the clock s
          have tr := chk_tri hc 0 s t (Nat.zero_le _) hs ht
          have r0 := d.2 t ht
          have n0 := lv_num (lv 0 t (Nat.zero_le _) ht)
          have n1 := lv_num (lv t s ht hs)
          have n2 := lv_num (lv 0 s (Nat.zero_le _) hs)
          have low0 : Zo.At n l 0 s / 2 ≤ Zo.At n l t s / 2 ∧ Zo.At n l 0 s ≠ 1099511627776 := by
            unfold Zo.smW at tr
            rw [if_neg (by omega), Zo.w64_in (x := Zo.At n l 0 t + Zo.At n l t s) (by omega) (by omega), Zo.w64_in (x := Zo.At n l 0 t + Zo.At n l t s - 1) (by omega) (by omega)] at tr
            split at tr <;> omega
          have m := two 0 (Nat.zero_le _) low0.2 (fun q => by omega)
          have le2 := mul_le' low0.1 hD
          unfold Zo.mt at m
          rw [hX0] at m
          have := low0.2
          omega
      · rw [show cnV (Zo.gt low (t - 1)) D = Zo.gt low (t - 1) * D by unfold cnV; rw [if_neg neg]]
        have h := hA.2
        unfold cnV at h
        rw [if_neg neg] at h
        exact cov_one hD (lv t s ht hs) cn (hm t s ht hs q) hXt.1 ⟨by omega, h⟩ hsb hXs.1
    rw [e2]
    generalize cnV (Zo.gt low (t - 1)) D = lo at *
    generalize Zo.At n l t s / 2 * D = kd at *
    unfold Zo.ps
    split <;> split <;> omega
  · have eA : bxA D X low t = -2 * X t + 1 := by
      unfold bxA
      by_cases q : t = 0
      · rw [if_pos q, q, hX0]; rfl
      · rw [if_neg q, if_neg (fun r => hA ⟨q, r⟩)]
    rw [eA]
    have m := two t ht cn (fun q => by
      have h : ¬ cnV (Zo.gt low (t - 1)) D < X t := fun r => hA ⟨by omega, r⟩
      unfold cnV at h
      by_cases r : Zo.gt low (t - 1) < 0
      · rw [if_pos r] at h; exact absurd (by omega) h
      · rw [if_neg r] at h; omega)
    unfold Zo.mt at m
    rw [e2]
    generalize hkd : Zo.At n l t s / 2 * D = kd at *
    generalize Zo.At n l t s = c at *
    unfold Zo.ps
    split <;> split <;> omega

/-- The point that covers. -/
theorem cov_point {n : Nat} {D : Int} {l low high : List Int} {X : Nat → Int} (hc : chkE n l = 0) (hS : Sm n l) (h1 : 1 ≤ D) (h2 : D ≤ 500) (hlo : Kn n low) (hhi : Kn n high) (hX0 : X 0 = 0) (hX : ∀ i, i ≤ n → 0 ≤ X i ∧ X i ≤ 524288000)
    (hIn : Zo.In n (wdM n low high l) D X) : ∃ (E : Int) (Y : Nat → Int), 0 < E ∧ Y 0 = 0 ∧ Zo.In n (scL D l) E Y ∧ ∀ i, 1 ≤ i → i ≤ n → Y i ≤ 8589934592 * E ∧ (Y i = X i * E ∨ (cnV (Zo.gt low (i - 1)) D * E < Y i ∧ Y i < X i * E) ∨ (cnV (Zo.gt high (i - 1)) D < X i ∧ X i * E < Y i)) := by
  obtain ⟨hn, hl, hr⟩ := chk_len hc
  have hg := sc_chk hc hS h1 h2
  obtain ⟨hn', hlg, hrg⟩ := chk_len hg
  obtain ⟨Z, hZ⟩ := chk_cl hn hlg hg
  have ez := fun a b (ha : a ≤ n) (hb : b ≤ n) => hZ.dec ha hb
  obtain ⟨E, Y, hE, hY0, hY, hB⟩ := Zo.point_box (n := n) (Z := Z) (A := fun t => some (bxA D X low t)) (B := fun s => some (bxB D X high s)) hZ.tri hZ.dg rfl rfl (fun t s ht hs => by
    show Zo.le _ (Zo.add (Zo.add _ (Z t s)) _)
    rw [ez t s ht hs, scL_at hl ht hs]
    exact cov_sum hc hS h1 h2 hlo hhi hX0 hX hIn ht hs)
  refine ⟨E, Y, hE, hY0, fun i j hi hj => ?_, fun i hi1 hi => ?_⟩
  · have := hY i j hi hj
    rw [ez i j hi hj] at this
    generalize Zo.At n (scL D l) i j = c at *
    unfold Zo.dec at this
    by_cases q : c = 1099511627776
    · exact Or.inl q
    · rw [if_neg q, Zo.ml_some] at this
      exact Or.inr this
  · obtain ⟨b, a⟩ := hB i hi
    simp only [Zo.ml_some] at a b
    unfold bxB at b
    unfold bxA at a
    rw [if_neg (show ¬ i = 0 by omega)] at a b
    have hx := hX i hi
    have xe : X i * E ≤ 8589934592 * E := mul_le' (by omega) hE
    by_cases c1 : cnV (Zo.gt low (i - 1)) D < X i
    · rw [if_pos c1, show -2 * cnV (Zo.gt low (i - 1)) D / 2 = -cnV (Zo.gt low (i - 1)) D by omega, show -cnV (Zo.gt low (i - 1)) D * E = -(cnV (Zo.gt low (i - 1)) D * E) from Int.neg_mul _ _] at a
      by_cases c2 : cnV (Zo.gt high (i - 1)) D < X i
      · rw [if_pos c2] at b
        unfold hugeC at b
        rw [show (17179869185 : Int) / 2 = 8589934592 by decide] at b
        refine ⟨by omega, ?_⟩
        by_cases e : Y i = X i * E
        · left; exact e
        · by_cases f : Y i < X i * E
          · right; left; exact ⟨by omega, f⟩
          · right; right; exact ⟨c2, by omega⟩
      · rw [if_neg c2, show (2 * X i + 1) / 2 = X i by omega] at b
        refine ⟨by omega, ?_⟩
        by_cases e : Y i = X i * E
        · left; exact e
        · right; left; exact ⟨by omega, by omega⟩
    · rw [if_neg c1, show (-2 * X i + 1) / 2 = -X i by omega, show -X i * E = -(X i * E) from Int.neg_mul _ _] at a
      by_cases c2 : cnV (Zo.gt high (i - 1)) D < X i
      · rw [if_pos c2] at b
        unfold hugeC at b
        rw [show (17179869185 : Int) / 2 = 8589934592 by decide] at b
        refine ⟨by omega, ?_⟩
        by_cases e : Y i = X i * E
        · left; exact e
        · right; right; exact ⟨c2, by omega⟩
      · rw [if_neg c2, show (2 * X i + 1) / 2 = X i by omega] at b
        refine ⟨by omega, ?_⟩
        left; omega
end Go.Proofs.Ytjfhjckacfkpoaa

namespace Go.Proofs.Ytjfhjckacfkpoaa

def num3 : Nat → (Nat → Nat) → Nat
  | 0, _ => 0
  | k + 1, f => f 0 + 3 * num3 k (fun i => f (i + 1))

theorem num3_lt : ∀ (k : Nat) (f : Nat → Nat), (∀ i, i < k → f i < 3) → num3 k f < 3 ^ k
  | 0, _, _ => by simp [num3]
  | k + 1, f, h => by
    have a := num3_lt k (fun i => f (i + 1)) (fun i hi => h (i + 1) (by omega))
    have b := h 0 (by omega)
    simp only [num3, Nat.pow_succ]
    omega

theorem num3_mod {k : Nat} {f : Nat → Nat} (hk : 0 < k) (h : f 0 < 3) : num3 k f % 3 = f 0 ∧ num3 k f / 3 = num3 (k - 1) (fun i => f (i + 1)) := by
  cases k with
  | zero => omega
  | succ k => simp only [num3, Nat.add_sub_cancel]; omega

/-- A number of a point over the common denominator. -/
def xV (ps : List Pq) (D : Int) (i : Nat) : Int := (gp ps i).1 * (D / (gp ps i).2)

theorem xV_range {ps : List Pq} {n : Nat} {D : Int} (h : CoOk ps n D) {i : Nat} (hi : i < n) : 0 ≤ xV ps D i ∧ xV ps D i ≤ 524288000 ∧ 1 ≤ D / (gp ps i).2 ∧ D / (gp ps i).2 ≤ 500 ∧ (gp ps i).1 * D = xV ps D i * (gp ps i).2 := by
  obtain ⟨d1, d5, hk⟩ := h
  obtain ⟨a, b, c, d, e⟩ := hk i hi
  obtain ⟨u, hu⟩ := e
  have eu : D / (gp ps i).2 = u := by rw [hu]; exact Int.mul_ediv_cancel_left _ (by omega)
  unfold xV
  rw [eu]
  have up : 1 ≤ u := by
    rcases Int.lt_or_le 0 u with z | z
    · omega
    · have := Int.mul_le_mul_of_nonneg_left z (show 0 ≤ (gp ps i).2 by omega)
      rw [Int.mul_zero] at this
      omega
  have uu : u ≤ 500 := by
    have := Int.mul_le_mul_of_nonneg_right a (show 0 ≤ u by omega)
    rw [Int.one_mul] at this
    omega
  have m1 := Int.mul_le_mul_of_nonneg_right d (show 0 ≤ u by omega)
  have m0 := Int.mul_nonneg c (show 0 ≤ u by omega)
  refine ⟨m0, by omega, up, uu, ?_⟩
  rw [hu, Int.mul_assoc, Int.mul_comm u]
end Go.Proofs.Ytjfhjckacfkpoaa

namespace Go.Proofs.Ytjfhjckacfkpoaa

def cvL (i d : Nat) (x lo : Int) : List Con := if d = 0 then [((i : Int) + 1, 0, 2 * x + 1), (0, (i : Int) + 1, -2 * x + 1)] else if d = 1 then [((i : Int) + 1, 0, 2 * x), (0, (i : Int) + 1, -2 * lo)] else [(0, (i : Int) + 1, -2 * x)]

theorem cvL_ok {n i d : Nat} {x lo : Int} (hi : i < n) (h1 : 0 ≤ x) (h2 : x ≤ 524288000) (h3 : -1 ≤ lo) (h4 : lo ≤ 524288000) : ∀ c ∈ cvL i d x lo, okC n c = true := by
  intro c hc
  unfold cvL at hc
  have k : ∀ {a b l : Int}, 0 ≤ a → a ≤ n → 0 ≤ b → b ≤ n → -2147483648 ≤ l → l ≤ 2147483649 → okC n (a, b, l) = true := fun p q r s t u => by unfold okC lvB; simp; omega
  split at hc
  · simp only [List.mem_cons, List.not_mem_nil, or_false] at hc
    rcases hc with rfl | rfl <;> exact k (by omega) (by omega) (by omega) (by omega) (by omega) (by omega)
  · split at hc
    · simp only [List.mem_cons, List.not_mem_nil, or_false] at hc
      rcases hc with rfl | rfl <;> exact k (by omega) (by omega) (by omega) (by omega) (by omega) (by omega)
    · simp only [List.mem_cons, List.not_mem_nil, or_false] at hc
      subst hc
      exact k (by omega) (by omega) (by omega) (by omega) (by omega) (by omega)

/-- The case of a clock. -/
def CvD (E x lo hi y : Int) (d : Nat) : Prop := (d = 0 ∧ y = x * E) ∨ (d = 1 ∧ lo * E < y ∧ y < x * E) ∨ (d = 2 ∧ hi < x ∧ x * E < y)

theorem cvL_met {E x lo hi : Int} {Y : Nat → Int} {i d : Nat} (h0 : Y 0 = 0) (h : CvD E x lo hi (Y (i + 1)) d) : ∀ c ∈ cvL i d x lo, Zo.mt E (Y c.1.toNat - Y c.2.1.toNat) c.2.2 := by
  intro c hc
  have t1 : ((i : Int) + 1).toNat = i + 1 := by omega
  have e1 : (2 * x + 1) / 2 = x := by omega
  have e2 : (-2 * x + 1) / 2 = -x := by omega
  have e3 : 2 * x / 2 = x := by omega
  have e4 : -2 * lo / 2 = -lo := by omega
  have e5 : -2 * x / 2 = -x := by omega
  have n1 : -x * E = -(x * E) := Int.neg_mul _ _
  have n2 : -lo * E = -(lo * E) := Int.neg_mul _ _
  unfold cvL at hc
  rcases h with ⟨hd, h⟩ | ⟨hd, h, h'⟩ | ⟨hd, h, h'⟩
  · rw [if_pos hd] at hc
    simp only [List.mem_cons, List.not_mem_nil, or_false] at hc
    rcases hc with rfl | rfl
    · simp only [t1, Int.toNat_zero, h0]; right; right; rw [e1]; omega
    · simp only [t1, Int.toNat_zero, h0]; right; right; rw [e2, n1]; omega
  · rw [if_neg (by omega), if_pos hd] at hc
    simp only [List.mem_cons, List.not_mem_nil, or_false] at hc
    rcases hc with rfl | rfl
    · simp only [t1, Int.toNat_zero, h0]; right; left; rw [e3]; omega
    · simp only [t1, Int.toNat_zero, h0]; right; left; rw [e4, n2]; omega
  · rw [if_neg (by omega), if_neg (by omega)] at hc
    simp only [List.mem_cons, List.not_mem_nil, or_false] at hc
    subst hc
    simp only [t1, Int.toNat_zero, h0]; right; left; rw [e5, n1]; omega

theorem gc_mem {cs : List Con} {t : Nat} (h : t < cs.length) : gc cs t ∈ cs := by unfold gc; rw [List.getD_eq_getElem?_getD, List.getElem?_eq_getElem h]; exact List.getElem_mem h

/-- Constraints that a point of the zone meets leave something. -/
theorem an_full {n : Nat} {g : List Int} {cs : List Con} {E : Int} {Y : Nat → Int} (hc : chkE n g = 0) (hE : 0 < E) (hY0 : Y 0 = 0) (hY : ∀ i, i ≤ n → 0 ≤ Y i ∧ Y i ≤ 8589934592 * E) (hIn : Zo.In n g E Y) (hok : ∀ c ∈ cs, okC n c = true)
    (hm : ∀ c ∈ cs, Zo.mt E (Y c.1.toNat - Y c.2.1.toNat) c.2.2) : anG n cs g = 0 ∨ anG n cs g = 7 := by
  obtain ⟨hn, hl, hr⟩ := chk_len hc
  have ok' : ∀ t, t < cs.length → okC n (gc cs t) = true := fun t ht => hok _ (gc_mem ht)
  have hp : Zo.Pt n E Y 8589934592 := ⟨hE, hY0, fun i hi => (hY i hi).1, fun i hi => (hY i hi).2⟩
  have top : Zo.Top n (anL n cs g) := ⟨by rw [anL_len, hl], fun i j hi hj => Int.le_trans (an_le ok' hl cs.length (Nat.le_refl _) i j hi hj) ((chk_top hc).2 i j hi hj)⟩
  have hB := clo_full hp (by omega) top ((an_in hE (chk_top hc) ok').2 ⟨hIn, fun t ht => hm _ (gc_mem ht)⟩)
  rw [show anG (n : Int) cs g = cloE n (anL n cs g) from by
    unfold anG; rw [if_pos hc]; exact anE_ok ok']
  unfold cloE
  rw [hB]
  simp only [Bool.false_eq_true, if_false]
  split
  · left; rfl
  · right; rfl
end Go.Proofs.Ytjfhjckacfkpoaa

namespace Go.Proofs.Ytjfhjckacfkpoaa
open Go.RowKit

theorem wp_quo3 {w : World} {o : Oper} {a : Act} {K : Act → World → Prop} {Q : Exit → Act → World → Prop} (s : Operand) (ho : o.op = .binOp .quo 3 s (.const (.int .i64 3)) 3) (m q : Nat) (hs : a.eval s = .int .i64 (m : Int)) (hm : m ≤ 100000) (hq : q = m / 3)
    (h : K (a.put o.dst (.int .i64 (q : Int))) w) : o.wp Try.prog a w K Q := by
  have h1 : (m : Int).tdiv 3 = (q : Int) := by rw [Int.tdiv_eq_ediv_of_nonneg (by omega), hq]; omega
  have hb : q ≤ 100000 := by omega
  clear hq hm
  have h2 : IntKind.i64.wrap (q : Int) = (q : Int) := wrap_in _ (by omega) (by omega)
  unfold Oper.wp execOp
  have hc : a.eval (.const (.int .i64 3)) = .int .i64 3 := rfl
  simp only [ho, hc, hs]
  simp [go_sem, h1, h2]
  exact h

theorem wpList_quo3 {w : World} {ops : Array Oper} {rest : List Oper} {o : Oper} {a : Act} {Q : Exit → Act → World → Prop} (hgd : o.guard = none) (s : Operand) (ho : o.op = .binOp .quo 3 s (.const (.int .i64 3)) 3) (m q : Nat) (hs : a.eval s = .int .i64 (m : Int)) (hm : m ≤ 100000) (hq : q = m / 3)
    (h : wpList Try.prog ops Q rest (a.put o.dst (.int .i64 (q : Int))) w) : wpList Try.prog ops Q (o :: rest) a w :=
  wpList_plain hgd fun _ hK => wp_quo3 s ho m q hs hm hq (hK _ _ h)

theorem wp_rem3 {w : World} {o : Oper} {a : Act} {K : Act → World → Prop} {Q : Exit → Act → World → Prop} (s : Operand) (ho : o.op = .binOp .rem 3 s (.const (.int .i64 3)) 3) (m q : Nat) (hs : a.eval s = .int .i64 (m : Int)) (hq : q = m % 3)
    (h : K (a.put o.dst (.int .i64 (q : Int))) w) : o.wp Try.prog a w K Q := by
  have h1 : (m : Int).tmod 3 = (q : Int) := by rw [Int.tmod_eq_emod_of_nonneg (by omega), hq]; omega
  clear hq
  unfold Oper.wp execOp
  have hc : a.eval (.const (.int .i64 3)) = .int .i64 3 := rfl
  simp only [ho, hc, hs]
  simp [go_sem, h1]
  exact h

theorem wpList_rem3 {w : World} {ops : Array Oper} {rest : List Oper} {o : Oper} {a : Act} {Q : Exit → Act → World → Prop} (hgd : o.guard = none) (s : Operand) (ho : o.op = .binOp .rem 3 s (.const (.int .i64 3)) 3) (m q : Nat) (hs : a.eval s = .int .i64 (m : Int)) (hq : q = m % 3)
    (h : wpList Try.prog ops Q rest (a.put o.dst (.int .i64 (q : Int))) w) : wpList Try.prog ops Q (o :: rest) a w :=
  wpList_plain hgd fun _ hK => wp_rem3 s ho m q hs hq (hK _ _ h)
end Go.Proofs.Ytjfhjckacfkpoaa

namespace Go.Proofs.Ytjfhjckacfkpoaa
open Go.RowKit

/-- A zone that came in, valid: what the small functions need. -/
def Zn (n : Nat) (l : List Int) : Prop := n ≤ 10 ∧ l.length = (n + 1) * (n + 1) ∧ ∀ i j, i ≤ n → j ≤ n → lvB (Zo.At n l i j) = true

/-- Are two clocks bound? -/
def bdB (n : Nat) (l : List Int) (i j : Nat) : Bool := decide (Zo.smW (Zo.At n l i j) (Zo.At n l j i) = 1)

/-- Whether the sum of two limits is a limit, by the sum of layer 2. -/
def suB (a b c : Int) : Bool := decide (adE a b = 0) && decide (adL a b = c)
end Go.Proofs.Ytjfhjckacfkpoaa

namespace Go.Proofs.Ytjfhjckacfkpoaa
open Go.RowKit

def plB (n : Nat) (l : List Int) (i j : Nat) : Bool := decide (i = 0) && decide (Zo.At n l i j = 1)
end Go.Proofs.Ytjfhjckacfkpoaa

namespace Go.Proofs.Ytjfhjckacfkpoaa
open Go.RowKit

def fiB (n : Nat) (l : List Int) (i : Nat) : Bool := (List.range i).all fun k => !bdB n l k i

theorem fiB_yes {n i : Nat} {l : List Int} (h : ∀ k, k < i → bdB n l k i = false) : fiB n l i = true := by
  unfold fiB; rw [List.all_eq_true]; intro k hk; rw [h k (List.mem_range.1 hk)]; rfl

theorem fiB_no {n i k : Nat} {l : List Int} (hk : k < i) (h : bdB n l k i = true) : fiB n l i = false := by
  unfold fiB; rw [List.all_eq_false]; exact ⟨k, List.mem_range.2 hk, by rw [h]; simp⟩

theorem fiB_iff {n i : Nat} {l : List Int} : fiB n l i = true ↔ ∀ k, k < i → bdB n l k i = false := by
  unfold fiB; simp

/-- Is k a clock of the class that stands between i and j on the ring? -/
def btB (i j k : Nat) : Bool := (decide (i < j) && decide (i < k) && decide (k < j)) || (decide (j < i) && (decide (i < k) || decide (k < j)))

def skB (n : Nat) (l : List Int) (i j k : Nat) : Bool := decide (k = i) || decide (k = j) || !bdB n l k i

def nxB (n : Nat) (l : List Int) (i j : Nat) : Bool := (List.range (n + 1)).all fun k => skB n l i j k || !btB i j k

theorem nxB_yes {n i j : Nat} {l : List Int} (h : ∀ k, k < n + 1 → (skB n l i j k || !btB i j k) = true) : nxB n l i j = true := by
  unfold nxB; rw [List.all_eq_true]; intro k hk; exact h k (List.mem_range.1 hk)

theorem nxB_no {n i j k : Nat} {l : List Int} (hk : k < n + 1) (h1 : skB n l i j k = false) (h2 : btB i j k = true) : nxB n l i j = false := by
  unfold nxB; rw [List.all_eq_false]; exact ⟨k, List.mem_range.2 hk, by rw [h1, h2]; simp⟩

/-- The frame: a zone that is a parameter, boxed. -/
theorem zbox (n : Nat) (a : Addr) (len cap : Nat) (w : World) : ∃ w0, w0 = w.alloc (.cells #[.int .i64 n, .slice (some a) len cap] 24) ∧ Below w.heap.size w w0 ∧
    (∀ W : World, Below w0.heap.size w0 W → (W.cell? ⟨w.heap.size, 0, none⟩ = some (.int .i64 n) ∧ W.cell? ⟨w.heap.size, 1, none⟩ = some (.slice (some a) len cap))) := by
  refine ⟨_, rfl, one_more _, fun W h => ?_⟩
  have bx := (Two.made w (.int .i64 n) (.slice (some a) len cap) 24).kept h
  exact ⟨bx.facts.1, bx.facts.2.1⟩
end Go.Proofs.Ytjfhjckacfkpoaa

namespace Go.Proofs.Ytjfhjckacfkpoaa
open Go.RowKit

def kpN (n : Nat) (l : List Int) (i j : Nat) : Bool := nxB n l i j && (!decide (i = 0) || !decide (Zo.At n l i j = 1))

def kpA (n : Nat) (l : List Int) (i j k : Nat) : Bool := decide (i = 0) && bdB n l k j && decide (Zo.At n l 0 k = 1)

def kpS (n : Nat) (l : List Int) (i j k : Nat) : Bool := decide (Zo.At n l i j = Zo.smW (Zo.At n l i k) (Zo.At n l k j))

def kpC (n : Nat) (l : List Int) (i j k : Nat) : Bool := fiB n l k && !decide (k = i) && !decide (k = j) && kpS n l i j k

def kpM (n : Nat) (l : List Int) (i j : Nat) : Bool := fiB n l i && fiB n l j && (List.range (n + 1)).all fun k => !(kpA n l i j k || kpC n l i j k)

def kpB (n : Nat) (l : List Int) (i j : Nat) : Bool := !decide (i = j) && !decide (Zo.At n l i j = 1099511627776) && (if bdB n l i j then kpN n l i j else kpM n l i j)

theorem kpM_no {n i j k : Nat} {l : List Int} (hk : k < n + 1) (h : (kpA n l i j k || kpC n l i j k) = true) : kpM n l i j = false := by
  unfold kpM
  have : ((List.range (n + 1)).all fun k => !(kpA n l i j k || kpC n l i j k)) = false := by
    rw [List.all_eq_false]; exact ⟨k, List.mem_range.2 hk, by rw [h]; simp⟩
  rw [this]; simp

theorem kpM_yes {n i j : Nat} {l : List Int} (hi : fiB n l i = true) (hj : fiB n l j = true) (h : ∀ k, k < n + 1 → (kpA n l i j k || kpC n l i j k) = false) : kpM n l i j = true := by
  unfold kpM
  rw [hi, hj]
  simp only [Bool.true_and, List.all_eq_true]
  intro k hk
  rw [h k (List.mem_range.1 hk)]; rfl

theorem made_as {P : Program} {f : FuncId} {args : Array Value} {W : World} {b c : Bool} (h : Calls P f args W (Made (.bool b) W)) (e : b = c) : Calls P f args W (Made (.bool c) W) := by rw [← e]; exact h

theorem made_ia {P : Program} {f : FuncId} {args : Array Value} {W : World} {b c : Int} (h : Calls P f args W (Made (.int .i64 b) W)) (e : b = c) : Calls P f args W (Made (.int .i64 c) W) := by rw [← e]; exact h
end Go.Proofs.Ytjfhjckacfkpoaa

namespace Go.Proofs.Ytjfhjckacfkpoaa
open Go.RowKit

/-- The cells of constraints. -/
def conV (cs : List Con) : List Value := cs.flatMap fun c => [.int .i64 c.1, .int .i64 c.2.1, .int .i64 c.2.2]

theorem conV_len (cs : List Con) : (conV cs).length = cs.length * 3 := by
  unfold conV; rw [List.length_flatMap]
  induction cs with
  | nil => rfl
  | cons c cs ih => simp only [List.map_cons, List.sum_cons, List.length_cons] at ih ⊢; rw [ih]; simp; omega

theorem conV_app (cs : List Con) (i j x : Int) : conV (cs ++ [(i, j, x)]) = conV cs ++ [.int .i64 i, .int .i64 j, .int .i64 x] := by unfold conV; rw [List.flatMap_append]; rfl

theorem conV_at (cs : List Con) (k : Nat) (hk : k < cs.length) : (conV cs)[k * 3]? = some (.int .i64 (gc cs k).1) ∧ (conV cs)[k * 3 + 1]? = some (.int .i64 (gc cs k).2.1) ∧ (conV cs)[k * 3 + 2]? = some (.int .i64 (gc cs k).2.2) := by
  induction cs generalizing k with
  | nil => simp at hk
  | cons c cs ih =>
    cases k with
    | zero => exact ⟨rfl, rfl, rfl⟩
    | succ k =>
      have := ih k (by simp at hk; omega)
      have e : conV (c :: cs) = [.int .i64 c.1, .int .i64 c.2.1, .int .i64 c.2.2] ++ conV cs := rfl
      have g : gc (c :: cs) (k + 1) = gc cs k := by simp [gc]
      rw [e, g, show (k + 1) * 3 = k * 3 + 3 by omega]
      refine ⟨?_, ?_, ?_⟩
      · rw [List.getElem?_append_right (by simp)]; exact this.1
      · rw [List.getElem?_append_right (by simp)]; simpa using this.2.1
      · rw [List.getElem?_append_right (by simp)]; simpa using this.2.2

/-- A list of constraints that a call has made. -/
def OwnC (w : World) (B : Nat) (v : Value) (cs : List Con) : Prop := w.ownsRow B 51 3 v cs.length (conV cs)

theorem OwnC.nil (w : World) (B : Nat) : OwnC w B (.slice none 0 0) [] := World.ownsRow_nil w B _ _

theorem OwnC.on {w w' : World} {B : Nat} {v : Value} {cs : List Con} (h : OwnC w B v cs) (hb : Below w.heap.size w w') : OwnC w' B v cs := by
  have hg : w.grownBy w' none := ⟨hb.os, hb.tape, hb.output, hb.size, fun k hk _ => hb.block k hk⟩
  exact World.ownsRow.kept h hg (by cases v.ownBlock <;> simp)

theorem OwnC.arg {w : World} {B : Nat} {v : Value} {cs : List Con} (h : OwnC w B v cs) : ∃ ao cap, v = .slice ao cs.length cap ∧ Arg3 w ao cs := by
  rcases h.2 with ⟨rfl, hn⟩ | ⟨g, cap, cur, rfl, hb, hg, hc, hm, hsz, htake⟩
  · exact ⟨none, 0, by rw [hn], fun hne => absurd (List.eq_nil_of_length_eq_zero hn) hne⟩
  · refine ⟨_, cap, rfl, fun _ => ⟨⟨g, 0, none⟩, rfl, fun j hj => ?_⟩⟩
    have hc := World.ownsRow.cellAt (g := g) (cap := cap) h
    obtain ⟨c0, c1, c2⟩ := conV_at cs j hj
    refine ⟨?_, ?_, ?_⟩
    · rw [addr_add]; exact (hc (j * 3) (by omega)).trans c0
    · rw [addr_add]; exact (hc (j * 3 + 1) (by omega)).trans c1
    · rw [addr_add]; exact (hc (j * 3 + 2) (by omega)).trans c2

theorem OwnC.low {w : World} {B B' : Nat} {v : Value} {cs : List Con} (h : OwnC w B v cs) (hb : B' ≤ B) : OwnC w B' v cs := by
  refine ⟨h.1, ?_⟩
  rcases h.2 with c | ⟨g, cap, cur, h1, h2, h3⟩
  · exact Or.inl c
  · exact Or.inr ⟨g, cap, cur, h1, by omega, h3⟩

/-- What Reduce leaves. -/
def CRes (w : World) (cs : List Con) (er : Int) (e : Ending) (w' : World) : Prop :=
  Below w.heap.size w w' ∧ ∃ v, e = .returned (.tuple #[v, .int .i64 er]) ∧ OwnC w' w.heap.size v cs

theorem cells_three {w w' : World} (x y z : Value) (t : TypeId) (hw : w' = w.alloc (.cells #[x, y, z] t)) : ∀ j u, ([x, y, z] : List Value)[j]? = some u → w'.cell? ((⟨w.heap.size, 0, none⟩ : Addr).add j) = some u := by
  subst hw
  intro j u hu
  rw [addr_add]
  match j, hu with
  | 0, hu => simp at hu; subst hu; go_simp
  | 1, hu => simp at hu; subst hu; go_simp
  | 2, hu => simp at hu; subst hu; go_simp

def redT (n : Nat) (l : List Int) (i t : Nat) : List Con := (List.range t).flatMap fun j => if kpB n l i j then [((i : Int), (j : Int), Zo.At n l i j)] else []

def redS (n : Nat) (l : List Int) (t : Nat) : List Con := (List.range t).flatMap fun i => redT n l i (n + 1)

def redL (n : Nat) (l : List Int) : List Con := redS n l (n + 1)

theorem redT_no {n i t : Nat} {l : List Int} (h : kpB n l i t = false) : redT n l i (t + 1) = redT n l i t := by
  unfold redT; rw [List.range_succ, List.flatMap_append]; simp [h]

theorem redT_yes {n i t : Nat} {l : List Int} (h : kpB n l i t = true) : redT n l i (t + 1) = redT n l i t ++ [((i : Int), (t : Int), Zo.At n l i t)] := by
  unfold redT; rw [List.range_succ, List.flatMap_append]; simp [h]

theorem redS_succ (n : Nat) (l : List Int) (t : Nat) : redS n l (t + 1) = redS n l t ++ redT n l t (n + 1) := by
  unfold redS; rw [List.range_succ, List.flatMap_append]; simp

theorem flat_le {α : Type} (f : Nat → List α) (b : Nat) (hf : ∀ i, (f i).length ≤ b) (t : Nat) : ((List.range t).flatMap f).length ≤ t * b := by
  induction t with
  | zero => simp
  | succ t ih =>
    rw [List.range_succ, List.flatMap_append, List.length_append]
    have := hf t
    simp only [List.flatMap_cons, List.flatMap_nil, List.append_nil]
    rw [Nat.add_mul]; omega

theorem redT_len (n : Nat) (l : List Int) (i t : Nat) : (redT n l i t).length ≤ t := by
  have := flat_le (fun j => if kpB n l i j then [((i : Int), (j : Int), Zo.At n l i j)] else []) 1 (fun j => by split <;> simp) t
  unfold redT; omega

theorem redS_len (n : Nat) (l : List Int) (t : Nat) : (redS n l t).length ≤ t * (n + 1) := flat_le _ _ (fun i => redT_len n l i (n + 1)) t

theorem redL_le {n : Nat} {l : List Int} (hn : n ≤ 10) : (redL n l).length ≤ 121 := by
  have := redS_len n l (n + 1)
  have : (n + 1) * (n + 1) ≤ 11 * 11 := Nat.mul_le_mul (by omega) (by omega)
  unfold redL; omega

theorem con_info : (Try.prog.info? 51).map (fun i => (i.zero, i.size, i.bytes)) = some (some (.agg #[.int .i64 0, .int .i64 0, .int .i64 0]), 3, 24) := by kernel_rfl
end Go.Proofs.Ytjfhjckacfkpoaa

namespace Go.Proofs.Ytjfhjckacfkpoaa
open Go.RowKit

theorem conV_appd (a b : List Con) : conV (a ++ b) = conV a ++ conV b := by unfold conV; rw [List.flatMap_append]

theorem cells_row {w w' : World} (vs : List Value) (t : TypeId) (hw : w' = w.alloc (.cells vs.toArray t)) : ∀ j u, vs[j]? = some u → w'.cell? ((⟨w.heap.size, 0, none⟩ : Addr).add j) = some u := by
  subst hw
  intro j u hu
  rw [addr_add, cell_of_row _ _ _ _ _ _ (heap_alloc_last w _)]
  simpa using hu

theorem cvL_len (i d : Nat) (x lo : Int) : (cvL i d x lo).length ≤ 2 := by
  unfold cvL
  split
  · simp
  · split <;> simp

set_option maxRecDepth 100000 in
set_option maxHeartbeats 16000000 in
theorem covered_any (n : Nat) (g : List Int) (a : Addr) (cap : Nat) (D : Int) (k0 k1 : List Int) (o0 o1 : Option Addr) (c0 c1 : Nat) (ps : List Pq) (po : Option Addr) (pc nn : Nat) (w : World) (hck : chkE n g = 0) (hR : Arg w (some a) g) (h0 : Arg w o0 k0) (h1 : Arg w o1 k1) (kn0 : Kn n k0) (kn1 : Kn n k1)
    (hP : Arg2 w po ps) (hps : ps.length = n) (hco : CoOk ps n D) (hnn : nn ≤ 100000) (P : Prop) (E : Int) (Y : Nat → Int) (f : Nat → Nat)
    (hp : P → 0 < E ∧ Y 0 = 0 ∧ (∀ i, i ≤ n → 0 ≤ Y i ∧ Y i ≤ 8589934592 * E) ∧ Zo.In n g E Y ∧ nn = num3 n f ∧ ∀ i, i < n → CvD E (xV ps D i) (cnV (Zo.gt k0 i) D) (cnV (Zo.gt k1 i) D) (Y (i + 1)) (f i)) :
    Calls Try.prog 18 #[.agg #[.int .i64 n, .slice (some a) g.length cap], .int .i64 D, .agg #[.slice o0 k0.length c0, .slice o1 k1.length c1], .slice po ps.length pc, .int .i64 nn] w (fun e w' => Below w.heap.size w w' ∧ ∃ b, e = .returned (.bool b) ∧ (P → b = true)) := by
  obtain ⟨hn, hl, hr⟩ := chk_len hck
  obtain ⟨i0, hi, hz0, hz1, hz2⟩ := info_parts con_info
  have AN := Lib.hid (fun W (cs : List Con) dao dc (hb : Below w.heap.size w W) (hD : Arg3 W dao cs) (hl : cs.length ≤ 1000) => (an_gen n g (some a) cap cs dao dc W (hR.on hb) hD hl).mono fun e w' h => h.zv2)
  have CP := Lib.hid (show ∀ W, Below w.heap.size w W → ∀ t, t < n → ∃ b, po = some b ∧ W.cell? (b.add (t * 2)) = some (.int .i64 (gp ps t).1) ∧ W.cell? ⟨(b.add (t * 2)).block, (b.add (t * 2)).off + 1, none⟩ = some (.int .i64 (gp ps t).2) from fun W hb t ht => by
    obtain ⟨b, e, hr⟩ := hP (fun q => by rw [q] at hps; simp at hps; omega)
    exact ⟨b, e, kept hb (hr t (by omega)).1, kept hb (hr t (by omega)).2⟩)
  have C0 := Lib.hid (show ∀ W, Below w.heap.size w W → ∀ t, t < n → ∃ b, o0 = some b ∧ W.cell? (b.add t) = some (.int .i64 (Zo.gt k0 t)) from fun W hb t ht => (h0.on hb).get (by rw [kn0.1]; exact ht))
  have C1 := Lib.hid (show ∀ W, Below w.heap.size w W → ∀ t, t < n → ∃ b, o1 = some b ∧ W.cell? (b.add t) = some (.int .i64 (Zo.gt k1 t)) from fun W hb t ht => (h1.on hb).get (by rw [kn1.1]; exact ht))
  have CO := Lib.hid hco
  have K0 := Lib.hid kn0
  have K1 := Lib.hid kn1
  have HP := Lib.hid hp
  have HCK := Lib.hid hck
  rw [kn0.1, kn1.1, hps]
  clear hR h0 h1 kn0 kn1 hP hps hco hp hck hl hr
  obtain ⟨w0, hw0⟩ : ∃ w0, w0 = (w.alloc (.cells #[.int .i64 n, .slice (some a) g.length cap] 24)).alloc (.cells #[.slice o0 n c0, .slice o1 n c1] 36) := ⟨_, rfl⟩
  have ZX := Lib.hid (show Two w0 w.heap.size (.int .i64 n) (.slice (some a) g.length cap) by rw [hw0]; exact (Two.made _ _ _ _).alloc _)
  have KX := Lib.hid (show Two w0 (w.heap.size + 1) (.slice o0 n c0) (.slice o1 n c1) by
    rw [hw0]
    have := Two.made (w.alloc (.cells #[.int .i64 n, .slice (some a) g.length cap] 24)) (.slice o0 n c0) (.slice o1 n c1) 36
    simpa using this)
  have E0 := Lib.hid (show Below w.heap.size w w0 by rw [hw0]; exact past_two (Below.refl _ _))
  have HW0 := Lib.hid hw0
  clear hw0
  go_enter Try.func18, Try.ntmps18
  go_upto_region 1 with (fail)
  rw [← HW0.out]
  clear HW0
  go_wp2_with fail
  go_loopw [11, 12, 4] (fun v s q wr => ∃ (t m : Nat) (cs : List Con), s = .int .i64 t ∧ q = .int .i64 m ∧ t ≤ n ∧ m ≤ 100000 ∧ Hid (OwnC wr w0.heap.size v cs ∧ Below w0.heap.size w0 wr) ∧ Hid (cs.length ≤ 2 * t) ∧ Hid (∀ c ∈ cs, okC n c = true) ∧ Hid (P → m = num3 (n - t) (fun i => f (i + t))) ∧ Hid (P → ∀ c ∈ cs, Zo.mt E (Y c.1.toNat - Y c.2.1.toNat) c.2.2)) (fun _ s _ _ => n - (intOf s).toNat)
  case atStart => exact ⟨0, nn, [], rfl, rfl, by omega, hnn, Lib.hid ⟨OwnC.nil _ _, Below.refl _ _⟩, Lib.hid (by simp), Lib.hid (fun c hc => by simp at hc), Lib.hid (fun p => (HP.out p).2.2.2.2.1), Lib.hid (fun _ c hc => by simp at hc)⟩
  case round =>
    obtain ⟨t, m, cs, rfl, rfl, ht, hm, HO, HLn, HOK, HNM, HMT⟩ := hrel
    by_cases htn : t < n
    · obtain ⟨md, hmd⟩ : ∃ z, z = m % 3 := ⟨_, rfl⟩
      obtain ⟨mq, hmq⟩ : ∃ z, z = m / 3 := ⟨_, rfl⟩
      have mq1 : mq ≤ 100000 := by omega
      have md3 : md = 0 ∨ md = 1 ∨ md = 2 := by omega
      have HD3 := Lib.hid hmd
      have HQ3 := Lib.hid hmq
      have PD := Lib.hid (show P → md = f t ∧ mq = num3 (n - (t + 1)) (fun i => f (i + (t + 1))) from fun p => by
        have h1 := HNM.out p
        have h2 := (HP.out p).2.2.2.2.2 t htn
        have h3 : f t < 3 := by unfold CvD at h2; omega
        have h4 := num3_mod (k := n - t) (f := fun i => f (i + t)) (by omega) (by simpa using h3)
        rw [← h1] at h4
        refine ⟨by rw [hmd, h4.1]; simp, ?_⟩
        rw [hmq, h4.2, show n - t - 1 = n - (t + 1) by omega]
        congr 1
        funext i
        rw [show i + 1 + t = i + (t + 1) by omega])
      obtain ⟨pa, hpo, e0, e1⟩ := CP.out _ (below_on E0.out HO.out.2) t htn
      obtain ⟨b0, ho0, e2⟩ := C0.out _ (below_on E0.out HO.out.2) t htn
      obtain ⟨b1, ho1, e3⟩ := C1.out _ (below_on E0.out HO.out.2) t htn
      obtain ⟨x0, x1, x2, x3⟩ := (KX.out.kept HO.out.2).facts
      rw [ho0] at x0
      rw [ho1] at x1
      have HO0 := Lib.hid ho0
      have HO1 := Lib.hid ho1
      clear ho0 ho1
      subst hpo
      obtain ⟨r1, r2, r3, r4, r5⟩ := xV_range CO.out htn
      have dr := CO.out.2.2 t htn
      have D1 := CO.out.1
      have D5 := CO.out.2.1
      obtain ⟨nm, hnm⟩ : ∃ z, z = (gp ps t).1 := ⟨_, rfl⟩
      obtain ⟨dn, hdn⟩ : ∃ z, z = (gp ps t).2 := ⟨_, rfl⟩
      rw [← hnm] at e0
      rw [← hdn] at e1 dr r3 r4
      obtain ⟨u, hu⟩ : ∃ u, u = D / dn := ⟨_, rfl⟩
      rw [← hu] at r3 r4
      have q1 : D.tdiv dn = u := by rw [Int.tdiv_eq_ediv_of_nonneg (by omega), hu]
      have q2 : wrap64 u = u := by unfold wrap64; omega
      obtain ⟨x, hx⟩ : ∃ x, x = xV ps D t := ⟨_, rfl⟩
      have q3 : wrap64 (nm * u) = x := by
        rw [show nm * u = x by rw [hx]; unfold xV; rw [← hnm, ← hdn, ← hu]]
        rw [← hx] at r1 r2
        unfold wrap64; omega
      rw [← hx] at r1 r2
      have HX := Lib.hid hx
      have p0 : (dn == 0) = false := by simp; omega
      have p00 : (dn = 0) = False := by simp; omega
      have kb0 := K0.out.2 t htn
      have kb1 := K1.out.2 t htn
      obtain ⟨y0, hy0⟩ : ∃ y, y = Zo.gt k0 t := ⟨_, rfl⟩
      obtain ⟨y1, hy1⟩ : ∃ y, y = Zo.gt k1 t := ⟨_, rfl⟩
      rw [← hy0] at e2 kb0
      rw [← hy1] at e3 kb1
      have HY0 := Lib.hid hy0
      have HY1 := Lib.hid hy1
      have a1 := Int.mul_le_mul_of_nonneg_left D5 (show (0 : Int) ≤ 1048576 by omega)
      have a2 := mul_le' kb0.1 (show 0 < D by omega)
      have a3 := mul_le' kb0.2 (show 0 < D by omega)
      have a4 := mul_le' kb1.1 (show 0 < D by omega)
      have a5 := mul_le' kb1.2 (show 0 < D by omega)
      obtain ⟨l0, hl0⟩ : ∃ z, z = y0 * D := ⟨_, rfl⟩
      obtain ⟨l1, hl1⟩ : ∃ z, z = y1 * D := ⟨_, rfl⟩
      have q4 : wrap64 (y0 * D) = l0 := by rw [← hl0] at a2 a3 ⊢; unfold wrap64; omega
      have q5 : wrap64 (y1 * D) = l1 := by rw [← hl1] at a4 a5 ⊢; unfold wrap64; omega
      have CV := Lib.hid (show P → CvD E x (cnV y0 D) (cnV y1 D) (Y (t + 1)) md from fun p => by
        have h2 := (HP.out p).2.2.2.2.2 t htn
        rw [← HX.out, ← HY0.out, ← HY1.out, ← (PD.out p).1] at h2
        exact h2)
      have w1 : wrap64 (2 * x) = 2 * x := by unfold wrap64; omega
      have w2 : wrap64 (2 * x + 1) = 2 * x + 1 := by unfold wrap64; omega
      have w3 : wrap64 (-2 * x) = -2 * x := by unfold wrap64; omega
      have w4 : wrap64 (-2 * x + 1) = -2 * x + 1 := by unfold wrap64; omega
      have BB := Lib.hid (And.intro r1 r2)
      have KB := Lib.hid (show -1 ≤ l0 ∨ y0 < 0 from by
        rcases Int.lt_or_le y0 0 with z | z
        · right; exact z
        · left
          have := mul_le' z (show 0 < D by omega)
          rw [Int.zero_mul] at this
          omega)
      have KC := Lib.hid (show l0 ≤ 524288000 from by rw [hl0]; omega)
      have HL0 := Lib.hid hl0
      have HL1 := Lib.hid hl1
      have hod := Lib.hid (fun k : Nat => HO.out.1.on (below_drewN (Below.refl _ _) k))
      have hbd := Lib.hid (fun k : Nat => show Below w0.heap.size w0 (wr.drewN k) from below_drewN HO.out.2 k)
      clear hnm hdn hu hx hy0 hy1 a1 a2 a3 a4 a5 hl0 hl1 hmd hmq r5 dr D1 D5 r3 r4
      by_cases hn0 : y0 < 0
      · by_cases hn1 : y1 < 0
        · rcases md3 with rfl | rfl | rfl
          · have HLO := Lib.hid (show cnV y0 D = (-1) by unfold cnV; rw [if_pos hn0])
            have HHI := Lib.hid (show cnV y1 D = (-1) by unfold cnV; rw [if_pos hn1])
            have LOB := Lib.hid (show -1 ≤ (-1) ∧ (-1) ≤ 524288000 from by have := KC.out; have := KB.out; omega)
            have s0 : decide (y0 < (0 : Int)) = true := by simp; omega
            have s1 : decide (y1 < (0 : Int)) = true := by simp; omega
            clear hn0 hn1
            go_wp2_with fail
            go_quiet (fail)
            generalize nq = j1 at *
            go_wp2_with fail
            go_quiet (fail)
            rw [q2, q3, q4, q5]
            have OD := Lib.hid (hod.out (j1 + nq))
            have BD := Lib.hid (hbd.out (j1 + nq))
            try simp only [World.drewN_drewN]
            generalize wr.drewN (j1 + nq) = wd at *
            clear q1 q2 q3 q4 q5 p0 p00 e0 e1 e2 e3 x0 x1 x2 x3
            obtain ⟨b2, hb2, e2⟩ := C0.out _ (below_on E0.out BD.out) t htn
            rw [HO0.out] at hb2
            injection hb2 with hb2
            subst hb2
            rw [← HY0.out] at e2
            obtain ⟨b3, hb3, e3⟩ := C1.out _ (below_on E0.out BD.out) t htn
            rw [HO1.out] at hb3
            injection hb3 with hb3
            subst hb3
            rw [← HY1.out] at e3
            obtain ⟨x0, x1, x2, x3⟩ := (KX.out.kept BD.out).facts
            rw [HO0.out] at x0
            rw [HO1.out] at x1
            go_upto_region 11 with (fail)
            clear e2 e3 x0 x1 x2 x3 s0 s1
            go_upto_region 15 with (refine wpList_rem3 rfl (.tmp 63) rfl m _ rfl HD3.out ?_)
            go_wp2_with (at_builtin; refine wpList_append_own _ rfl _ _ 44 rfl w0.heap.size 51 i0 (.agg #[.int .i64 0, .int .i64 0, .int .i64 0]) 3 24 Try.underlying44 hi hz0 hz1 hz2 rfl (by decide) _ _ _ rfl (World.ownsRow.alloc OD.out _) ⟨wd.heap.size, 0, none⟩ 2 2 [.int .i64 ((t : Int) + 1), .int .i64 0, .int .i64 (2 * x + 1), .int .i64 0, .int .i64 ((t : Int) + 1), .int .i64 (-2 * x + 1)] rfl rfl ?qc2 (by simp [Value.oneCell']) (by have := HLn.out; unfold maxLen; omega) (by have := HLn.out; omega) (by have := BD.out.size; simp; omega) ?_)
            case qc2 => exact cells_row [.int .i64 ((t : Int) + 1), .int .i64 0, .int .i64 (2 * x + 1), .int .i64 0, .int .i64 ((t : Int) + 1), .int .i64 (-2 * x + 1)] 51 rfl
            intro v' w5 hown5 hgrow _
            have B5 := Lib.hid (show Below w0.heap.size w0 w5 from Below.grown (BD.out.alloc BD.out.size _) hgrow (by have := BD.out.size; simp; omega) (fun k hk => (World.ownsRow.lt OD.out k hk).1))
            have O5 := Lib.hid (show OwnC w5 w0.heap.size v' (cs ++ cvL t 0 x (-1)) by unfold OwnC; rw [conV_appd, List.length_append]; exact hown5)
            clear hown5 hgrow
            go_wp2_with (refine wpList_quo3 rfl (.tmp 108) rfl m mq rfl hm HQ3.out ?_)
            go_roundw
            case rel =>
              refine ⟨t + 1, mq, cs ++ cvL t 0 x (-1), by go_num, rfl, by omega, mq1, Lib.hid ⟨O5.out, B5.out⟩, Lib.hid ?_, Lib.hid (fun c hc => ?_), Lib.hid (fun p => (PD.out p).2), Lib.hid (fun p c hc => ?_)⟩
              · have h1 := HLn.out
                have h2 := cvL_len t 0 x (-1)
                rw [List.length_append]; omega
              · rcases List.mem_append.1 hc with q | q
                · exact HOK.out c q
                · exact cvL_ok htn BB.out.1 BB.out.2 LOB.out.1 LOB.out.2 c q
              · rcases List.mem_append.1 hc with q | q
                · exact HMT.out p c q
                · have h := CV.out p
                  rw [HLO.out, HHI.out] at h
                  exact cvL_met (HP.out p).2.1 h c q
            case measure => simp [intOf]; omega
          · have HLO := Lib.hid (show cnV y0 D = (-1) by unfold cnV; rw [if_pos hn0])
            have HHI := Lib.hid (show cnV y1 D = (-1) by unfold cnV; rw [if_pos hn1])
            have LOB := Lib.hid (show -1 ≤ (-1) ∧ (-1) ≤ 524288000 from by have := KC.out; have := KB.out; omega)
            have s0 : decide (y0 < (0 : Int)) = true := by simp; omega
            have s1 : decide (y1 < (0 : Int)) = true := by simp; omega
            have w5 : wrap64 (-2 * (-1)) = -2 * (-1) := by have := LOB.out; unfold wrap64; omega
            clear hn0 hn1
            go_wp2_with fail
            go_quiet (fail)
            generalize nq = j1 at *
            go_wp2_with fail
            go_quiet (fail)
            rw [q2, q3, q4, q5]
            have OD := Lib.hid (hod.out (j1 + nq))
            have BD := Lib.hid (hbd.out (j1 + nq))
            try simp only [World.drewN_drewN]
            generalize wr.drewN (j1 + nq) = wd at *
            clear q1 q2 q3 q4 q5 p0 p00 e0 e1 e2 e3 x0 x1 x2 x3
            obtain ⟨b2, hb2, e2⟩ := C0.out _ (below_on E0.out BD.out) t htn
            rw [HO0.out] at hb2
            injection hb2 with hb2
            subst hb2
            rw [← HY0.out] at e2
            obtain ⟨b3, hb3, e3⟩ := C1.out _ (below_on E0.out BD.out) t htn
            rw [HO1.out] at hb3
            injection hb3 with hb3
            subst hb3
            rw [← HY1.out] at e3
            obtain ⟨x0, x1, x2, x3⟩ := (KX.out.kept BD.out).facts
            rw [HO0.out] at x0
            rw [HO1.out] at x1
            go_upto_region 11 with (fail)
            clear e2 e3 x0 x1 x2 x3 s0 s1
            go_upto_region 15 with (refine wpList_rem3 rfl (.tmp 63) rfl m _ rfl HD3.out ?_)
            go_wp2_with (at_builtin; refine wpList_append_own _ rfl _ _ 44 rfl w0.heap.size 51 i0 (.agg #[.int .i64 0, .int .i64 0, .int .i64 0]) 3 24 Try.underlying44 hi hz0 hz1 hz2 rfl (by decide) _ _ _ rfl (World.ownsRow.alloc OD.out _) ⟨wd.heap.size, 0, none⟩ 2 2 [.int .i64 ((t : Int) + 1), .int .i64 0, .int .i64 (2 * x), .int .i64 0, .int .i64 ((t : Int) + 1), .int .i64 (-2 * (-1))] rfl rfl ?qc2 (by simp [Value.oneCell']) (by have := HLn.out; unfold maxLen; omega) (by have := HLn.out; omega) (by have := BD.out.size; simp; omega) ?_)
            case qc2 => exact cells_row [.int .i64 ((t : Int) + 1), .int .i64 0, .int .i64 (2 * x), .int .i64 0, .int .i64 ((t : Int) + 1), .int .i64 (-2 * (-1))] 51 rfl
            intro v' w5 hown5 hgrow _
            have B5 := Lib.hid (show Below w0.heap.size w0 w5 from Below.grown (BD.out.alloc BD.out.size _) hgrow (by have := BD.out.size; simp; omega) (fun k hk => (World.ownsRow.lt OD.out k hk).1))
            have O5 := Lib.hid (show OwnC w5 w0.heap.size v' (cs ++ cvL t 1 x (-1)) by unfold OwnC; rw [conV_appd, List.length_append]; exact hown5)
            clear hown5 hgrow
            go_wp2_with (refine wpList_quo3 rfl (.tmp 108) rfl m mq rfl hm HQ3.out ?_)
            go_roundw
            case rel =>
              refine ⟨t + 1, mq, cs ++ cvL t 1 x (-1), by go_num, rfl, by omega, mq1, Lib.hid ⟨O5.out, B5.out⟩, Lib.hid ?_, Lib.hid (fun c hc => ?_), Lib.hid (fun p => (PD.out p).2), Lib.hid (fun p c hc => ?_)⟩
              · have h1 := HLn.out
                have h2 := cvL_len t 1 x (-1)
                rw [List.length_append]; omega
              · rcases List.mem_append.1 hc with q | q
                · exact HOK.out c q
                · exact cvL_ok htn BB.out.1 BB.out.2 LOB.out.1 LOB.out.2 c q
              · rcases List.mem_append.1 hc with q | q
                · exact HMT.out p c q
                · have h := CV.out p
                  rw [HLO.out, HHI.out] at h
                  exact cvL_met (HP.out p).2.1 h c q
            case measure => simp [intOf]; omega
          · have HLO := Lib.hid (show cnV y0 D = (-1) by unfold cnV; rw [if_pos hn0])
            have HHI := Lib.hid (show cnV y1 D = (-1) by unfold cnV; rw [if_pos hn1])
            have LOB := Lib.hid (show -1 ≤ (-1) ∧ (-1) ≤ 524288000 from by have := KC.out; have := KB.out; omega)
            have s0 : decide (y0 < (0 : Int)) = true := by simp; omega
            have s1 : decide (y1 < (0 : Int)) = true := by simp; omega
            clear hn0 hn1
            by_cases hge : x ≤ (-1)
            · have s2 : decide (x ≤ (-1)) = true := by simpa using hge
              have NOP := Lib.hid (show ¬ P from fun p => by
                have h := CV.out p
                rw [HLO.out, HHI.out] at h
                unfold CvD at h
                omega)
              clear hge
              go_wp2_with fail
              go_quiet (fail)
              generalize nq = j1 at *
              go_wp2_with fail
              go_quiet (fail)
              rw [q2, q3, q4, q5]
              have OD := Lib.hid (hod.out (j1 + nq))
              have BD := Lib.hid (hbd.out (j1 + nq))
              try simp only [World.drewN_drewN]
              generalize wr.drewN (j1 + nq) = wd at *
              clear q1 q2 q3 q4 q5 p0 p00 e0 e1 e2 e3 x0 x1 x2 x3
              obtain ⟨b2, hb2, e2⟩ := C0.out _ (below_on E0.out BD.out) t htn
              rw [HO0.out] at hb2
              injection hb2 with hb2
              subst hb2
              rw [← HY0.out] at e2
              obtain ⟨b3, hb3, e3⟩ := C1.out _ (below_on E0.out BD.out) t htn
              rw [HO1.out] at hb3
              injection hb3 with hb3
              subst hb3
              rw [← HY1.out] at e3
              obtain ⟨x0, x1, x2, x3⟩ := (KX.out.kept BD.out).facts
              rw [HO0.out] at x0
              rw [HO1.out] at x1
              go_upto_region 11 with (fail)
              clear e2 e3 x0 x1 x2 x3 s0 s1
              go_upto_region 15 with (refine wpList_rem3 rfl (.tmp 63) rfl m _ rfl HD3.out ?_)
              go_wp2_with fail
              go_ret
              exact ⟨below_on E0.out BD.out, false, rfl, fun p => absurd p NOP.out⟩
            · have s2 : decide (x ≤ (-1)) = false := by simp; omega
              clear hge
              go_wp2_with fail
              go_quiet (fail)
              generalize nq = j1 at *
              go_wp2_with fail
              go_quiet (fail)
              rw [q2, q3, q4, q5]
              have OD := Lib.hid (hod.out (j1 + nq))
              have BD := Lib.hid (hbd.out (j1 + nq))
              try simp only [World.drewN_drewN]
              generalize wr.drewN (j1 + nq) = wd at *
              clear q1 q2 q3 q4 q5 p0 p00 e0 e1 e2 e3 x0 x1 x2 x3
              obtain ⟨b2, hb2, e2⟩ := C0.out _ (below_on E0.out BD.out) t htn
              rw [HO0.out] at hb2
              injection hb2 with hb2
              subst hb2
              rw [← HY0.out] at e2
              obtain ⟨b3, hb3, e3⟩ := C1.out _ (below_on E0.out BD.out) t htn
              rw [HO1.out] at hb3
              injection hb3 with hb3
              subst hb3
              rw [← HY1.out] at e3
              obtain ⟨x0, x1, x2, x3⟩ := (KX.out.kept BD.out).facts
              rw [HO0.out] at x0
              rw [HO1.out] at x1
              go_upto_region 11 with (fail)
              clear e2 e3 x0 x1 x2 x3 s0 s1
              go_upto_region 15 with (refine wpList_rem3 rfl (.tmp 63) rfl m _ rfl HD3.out ?_)
              go_wp2_with (at_builtin; refine wpList_append_own _ rfl _ _ 44 rfl w0.heap.size 51 i0 (.agg #[.int .i64 0, .int .i64 0, .int .i64 0]) 3 24 Try.underlying44 hi hz0 hz1 hz2 rfl (by decide) _ _ _ rfl (World.ownsRow.alloc OD.out _) ⟨wd.heap.size, 0, none⟩ 1 1 [.int .i64 0, .int .i64 ((t : Int) + 1), .int .i64 (-2 * x)] rfl rfl ?qc2 (by simp [Value.oneCell']) (by have := HLn.out; unfold maxLen; omega) (by have := HLn.out; omega) (by have := BD.out.size; simp; omega) ?_)
              case qc2 => exact cells_row [.int .i64 0, .int .i64 ((t : Int) + 1), .int .i64 (-2 * x)] 51 rfl
              intro v' w5 hown5 hgrow _
              have B5 := Lib.hid (show Below w0.heap.size w0 w5 from Below.grown (BD.out.alloc BD.out.size _) hgrow (by have := BD.out.size; simp; omega) (fun k hk => (World.ownsRow.lt OD.out k hk).1))
              have O5 := Lib.hid (show OwnC w5 w0.heap.size v' (cs ++ cvL t 2 x (-1)) by unfold OwnC; rw [conV_appd, List.length_append]; exact hown5)
              clear hown5 hgrow
              go_wp2_with (refine wpList_quo3 rfl (.tmp 108) rfl m mq rfl hm HQ3.out ?_)
              go_roundw
              case rel =>
                refine ⟨t + 1, mq, cs ++ cvL t 2 x (-1), by go_num, rfl, by omega, mq1, Lib.hid ⟨O5.out, B5.out⟩, Lib.hid ?_, Lib.hid (fun c hc => ?_), Lib.hid (fun p => (PD.out p).2), Lib.hid (fun p c hc => ?_)⟩
                · have h1 := HLn.out
                  have h2 := cvL_len t 2 x (-1)
                  rw [List.length_append]; omega
                · rcases List.mem_append.1 hc with q | q
                  · exact HOK.out c q
                  · exact cvL_ok htn BB.out.1 BB.out.2 LOB.out.1 LOB.out.2 c q
                · rcases List.mem_append.1 hc with q | q
                  · exact HMT.out p c q
                  · have h := CV.out p
                    rw [HLO.out, HHI.out] at h
                    exact cvL_met (HP.out p).2.1 h c q
              case measure => simp [intOf]; omega
        · rcases md3 with rfl | rfl | rfl
          · have HLO := Lib.hid (show cnV y0 D = (-1) by unfold cnV; rw [if_pos hn0])
            have HHI := Lib.hid (show cnV y1 D = l1 by unfold cnV; rw [if_neg hn1, HL1.out])
            have LOB := Lib.hid (show -1 ≤ (-1) ∧ (-1) ≤ 524288000 from by have := KC.out; have := KB.out; omega)
            have s0 : decide (y0 < (0 : Int)) = true := by simp; omega
            have s1 : decide (y1 < (0 : Int)) = false := by simp; omega
            clear hn0 hn1
            go_wp2_with fail
            go_quiet (fail)
            generalize nq = j1 at *
            go_wp2_with fail
            go_quiet (fail)
            rw [q2, q3, q4, q5]
            have OD := Lib.hid (hod.out (j1 + nq))
            have BD := Lib.hid (hbd.out (j1 + nq))
            try simp only [World.drewN_drewN]
            generalize wr.drewN (j1 + nq) = wd at *
            clear q1 q2 q3 q4 q5 p0 p00 e0 e1 e2 e3 x0 x1 x2 x3
            obtain ⟨b2, hb2, e2⟩ := C0.out _ (below_on E0.out BD.out) t htn
            rw [HO0.out] at hb2
            injection hb2 with hb2
            subst hb2
            rw [← HY0.out] at e2
            obtain ⟨b3, hb3, e3⟩ := C1.out _ (below_on E0.out BD.out) t htn
            rw [HO1.out] at hb3
            injection hb3 with hb3
            subst hb3
            rw [← HY1.out] at e3
            obtain ⟨x0, x1, x2, x3⟩ := (KX.out.kept BD.out).facts
            rw [HO0.out] at x0
            rw [HO1.out] at x1
            go_upto_region 11 with (fail)
            clear e2 e3 x0 x1 x2 x3 s0 s1
            go_upto_region 15 with (refine wpList_rem3 rfl (.tmp 63) rfl m _ rfl HD3.out ?_)
            go_wp2_with (at_builtin; refine wpList_append_own _ rfl _ _ 44 rfl w0.heap.size 51 i0 (.agg #[.int .i64 0, .int .i64 0, .int .i64 0]) 3 24 Try.underlying44 hi hz0 hz1 hz2 rfl (by decide) _ _ _ rfl (World.ownsRow.alloc OD.out _) ⟨wd.heap.size, 0, none⟩ 2 2 [.int .i64 ((t : Int) + 1), .int .i64 0, .int .i64 (2 * x + 1), .int .i64 0, .int .i64 ((t : Int) + 1), .int .i64 (-2 * x + 1)] rfl rfl ?qc2 (by simp [Value.oneCell']) (by have := HLn.out; unfold maxLen; omega) (by have := HLn.out; omega) (by have := BD.out.size; simp; omega) ?_)
            case qc2 => exact cells_row [.int .i64 ((t : Int) + 1), .int .i64 0, .int .i64 (2 * x + 1), .int .i64 0, .int .i64 ((t : Int) + 1), .int .i64 (-2 * x + 1)] 51 rfl
            intro v' w5 hown5 hgrow _
            have B5 := Lib.hid (show Below w0.heap.size w0 w5 from Below.grown (BD.out.alloc BD.out.size _) hgrow (by have := BD.out.size; simp; omega) (fun k hk => (World.ownsRow.lt OD.out k hk).1))
            have O5 := Lib.hid (show OwnC w5 w0.heap.size v' (cs ++ cvL t 0 x (-1)) by unfold OwnC; rw [conV_appd, List.length_append]; exact hown5)
            clear hown5 hgrow
            go_wp2_with (refine wpList_quo3 rfl (.tmp 108) rfl m mq rfl hm HQ3.out ?_)
            go_roundw
            case rel =>
              refine ⟨t + 1, mq, cs ++ cvL t 0 x (-1), by go_num, rfl, by omega, mq1, Lib.hid ⟨O5.out, B5.out⟩, Lib.hid ?_, Lib.hid (fun c hc => ?_), Lib.hid (fun p => (PD.out p).2), Lib.hid (fun p c hc => ?_)⟩
              · have h1 := HLn.out
                have h2 := cvL_len t 0 x (-1)
                rw [List.length_append]; omega
              · rcases List.mem_append.1 hc with q | q
                · exact HOK.out c q
                · exact cvL_ok htn BB.out.1 BB.out.2 LOB.out.1 LOB.out.2 c q
              · rcases List.mem_append.1 hc with q | q
                · exact HMT.out p c q
                · have h := CV.out p
                  rw [HLO.out, HHI.out] at h
                  exact cvL_met (HP.out p).2.1 h c q
            case measure => simp [intOf]; omega
          · have HLO := Lib.hid (show cnV y0 D = (-1) by unfold cnV; rw [if_pos hn0])
            have HHI := Lib.hid (show cnV y1 D = l1 by unfold cnV; rw [if_neg hn1, HL1.out])
            have LOB := Lib.hid (show -1 ≤ (-1) ∧ (-1) ≤ 524288000 from by have := KC.out; have := KB.out; omega)
            have s0 : decide (y0 < (0 : Int)) = true := by simp; omega
            have s1 : decide (y1 < (0 : Int)) = false := by simp; omega
            have w5 : wrap64 (-2 * (-1)) = -2 * (-1) := by have := LOB.out; unfold wrap64; omega
            clear hn0 hn1
            go_wp2_with fail
            go_quiet (fail)
            generalize nq = j1 at *
            go_wp2_with fail
            go_quiet (fail)
            rw [q2, q3, q4, q5]
            have OD := Lib.hid (hod.out (j1 + nq))
            have BD := Lib.hid (hbd.out (j1 + nq))
            try simp only [World.drewN_drewN]
            generalize wr.drewN (j1 + nq) = wd at *
            clear q1 q2 q3 q4 q5 p0 p00 e0 e1 e2 e3 x0 x1 x2 x3
            obtain ⟨b2, hb2, e2⟩ := C0.out _ (below_on E0.out BD.out) t htn
            rw [HO0.out] at hb2
            injection hb2 with hb2
            subst hb2
            rw [← HY0.out] at e2
            obtain ⟨b3, hb3, e3⟩ := C1.out _ (below_on E0.out BD.out) t htn
            rw [HO1.out] at hb3
            injection hb3 with hb3
            subst hb3
            rw [← HY1.out] at e3
            obtain ⟨x0, x1, x2, x3⟩ := (KX.out.kept BD.out).facts
            rw [HO0.out] at x0
            rw [HO1.out] at x1
            go_upto_region 11 with (fail)
            clear e2 e3 x0 x1 x2 x3 s0 s1
            go_upto_region 15 with (refine wpList_rem3 rfl (.tmp 63) rfl m _ rfl HD3.out ?_)
            go_wp2_with (at_builtin; refine wpList_append_own _ rfl _ _ 44 rfl w0.heap.size 51 i0 (.agg #[.int .i64 0, .int .i64 0, .int .i64 0]) 3 24 Try.underlying44 hi hz0 hz1 hz2 rfl (by decide) _ _ _ rfl (World.ownsRow.alloc OD.out _) ⟨wd.heap.size, 0, none⟩ 2 2 [.int .i64 ((t : Int) + 1), .int .i64 0, .int .i64 (2 * x), .int .i64 0, .int .i64 ((t : Int) + 1), .int .i64 (-2 * (-1))] rfl rfl ?qc2 (by simp [Value.oneCell']) (by have := HLn.out; unfold maxLen; omega) (by have := HLn.out; omega) (by have := BD.out.size; simp; omega) ?_)
            case qc2 => exact cells_row [.int .i64 ((t : Int) + 1), .int .i64 0, .int .i64 (2 * x), .int .i64 0, .int .i64 ((t : Int) + 1), .int .i64 (-2 * (-1))] 51 rfl
            intro v' w5 hown5 hgrow _
            have B5 := Lib.hid (show Below w0.heap.size w0 w5 from Below.grown (BD.out.alloc BD.out.size _) hgrow (by have := BD.out.size; simp; omega) (fun k hk => (World.ownsRow.lt OD.out k hk).1))
            have O5 := Lib.hid (show OwnC w5 w0.heap.size v' (cs ++ cvL t 1 x (-1)) by unfold OwnC; rw [conV_appd, List.length_append]; exact hown5)
            clear hown5 hgrow
            go_wp2_with (refine wpList_quo3 rfl (.tmp 108) rfl m mq rfl hm HQ3.out ?_)
            go_roundw
            case rel =>
              refine ⟨t + 1, mq, cs ++ cvL t 1 x (-1), by go_num, rfl, by omega, mq1, Lib.hid ⟨O5.out, B5.out⟩, Lib.hid ?_, Lib.hid (fun c hc => ?_), Lib.hid (fun p => (PD.out p).2), Lib.hid (fun p c hc => ?_)⟩
              · have h1 := HLn.out
                have h2 := cvL_len t 1 x (-1)
                rw [List.length_append]; omega
              · rcases List.mem_append.1 hc with q | q
                · exact HOK.out c q
                · exact cvL_ok htn BB.out.1 BB.out.2 LOB.out.1 LOB.out.2 c q
              · rcases List.mem_append.1 hc with q | q
                · exact HMT.out p c q
                · have h := CV.out p
                  rw [HLO.out, HHI.out] at h
                  exact cvL_met (HP.out p).2.1 h c q
            case measure => simp [intOf]; omega
          · have HLO := Lib.hid (show cnV y0 D = (-1) by unfold cnV; rw [if_pos hn0])
            have HHI := Lib.hid (show cnV y1 D = l1 by unfold cnV; rw [if_neg hn1, HL1.out])
            have LOB := Lib.hid (show -1 ≤ (-1) ∧ (-1) ≤ 524288000 from by have := KC.out; have := KB.out; omega)
            have s0 : decide (y0 < (0 : Int)) = true := by simp; omega
            have s1 : decide (y1 < (0 : Int)) = false := by simp; omega
            clear hn0 hn1
            by_cases hge : x ≤ l1
            · have s2 : decide (x ≤ l1) = true := by simpa using hge
              have NOP := Lib.hid (show ¬ P from fun p => by
                have h := CV.out p
                rw [HLO.out, HHI.out] at h
                unfold CvD at h
                omega)
              clear hge
              go_wp2_with fail
              go_quiet (fail)
              generalize nq = j1 at *
              go_wp2_with fail
              go_quiet (fail)
              rw [q2, q3, q4, q5]
              have OD := Lib.hid (hod.out (j1 + nq))
              have BD := Lib.hid (hbd.out (j1 + nq))
              try simp only [World.drewN_drewN]
              generalize wr.drewN (j1 + nq) = wd at *
              clear q1 q2 q3 q4 q5 p0 p00 e0 e1 e2 e3 x0 x1 x2 x3
              obtain ⟨b2, hb2, e2⟩ := C0.out _ (below_on E0.out BD.out) t htn
              rw [HO0.out] at hb2
              injection hb2 with hb2
              subst hb2
              rw [← HY0.out] at e2
              obtain ⟨b3, hb3, e3⟩ := C1.out _ (below_on E0.out BD.out) t htn
              rw [HO1.out] at hb3
              injection hb3 with hb3
              subst hb3
              rw [← HY1.out] at e3
              obtain ⟨x0, x1, x2, x3⟩ := (KX.out.kept BD.out).facts
              rw [HO0.out] at x0
              rw [HO1.out] at x1
              go_upto_region 11 with (fail)
              clear e2 e3 x0 x1 x2 x3 s0 s1
              go_upto_region 15 with (refine wpList_rem3 rfl (.tmp 63) rfl m _ rfl HD3.out ?_)
              go_wp2_with fail
              go_ret
              exact ⟨below_on E0.out BD.out, false, rfl, fun p => absurd p NOP.out⟩
            · have s2 : decide (x ≤ l1) = false := by simp; omega
              clear hge
              go_wp2_with fail
              go_quiet (fail)
              generalize nq = j1 at *
              go_wp2_with fail
              go_quiet (fail)
              rw [q2, q3, q4, q5]
              have OD := Lib.hid (hod.out (j1 + nq))
              have BD := Lib.hid (hbd.out (j1 + nq))
              try simp only [World.drewN_drewN]
              generalize wr.drewN (j1 + nq) = wd at *
              clear q1 q2 q3 q4 q5 p0 p00 e0 e1 e2 e3 x0 x1 x2 x3
              obtain ⟨b2, hb2, e2⟩ := C0.out _ (below_on E0.out BD.out) t htn
              rw [HO0.out] at hb2
              injection hb2 with hb2
              subst hb2
              rw [← HY0.out] at e2
              obtain ⟨b3, hb3, e3⟩ := C1.out _ (below_on E0.out BD.out) t htn
              rw [HO1.out] at hb3
              injection hb3 with hb3
              subst hb3
              rw [← HY1.out] at e3
              obtain ⟨x0, x1, x2, x3⟩ := (KX.out.kept BD.out).facts
              rw [HO0.out] at x0
              rw [HO1.out] at x1
              go_upto_region 11 with (fail)
              clear e2 e3 x0 x1 x2 x3 s0 s1
              go_upto_region 15 with (refine wpList_rem3 rfl (.tmp 63) rfl m _ rfl HD3.out ?_)
              go_wp2_with (at_builtin; refine wpList_append_own _ rfl _ _ 44 rfl w0.heap.size 51 i0 (.agg #[.int .i64 0, .int .i64 0, .int .i64 0]) 3 24 Try.underlying44 hi hz0 hz1 hz2 rfl (by decide) _ _ _ rfl (World.ownsRow.alloc OD.out _) ⟨wd.heap.size, 0, none⟩ 1 1 [.int .i64 0, .int .i64 ((t : Int) + 1), .int .i64 (-2 * x)] rfl rfl ?qc2 (by simp [Value.oneCell']) (by have := HLn.out; unfold maxLen; omega) (by have := HLn.out; omega) (by have := BD.out.size; simp; omega) ?_)
              case qc2 => exact cells_row [.int .i64 0, .int .i64 ((t : Int) + 1), .int .i64 (-2 * x)] 51 rfl
              intro v' w5 hown5 hgrow _
              have B5 := Lib.hid (show Below w0.heap.size w0 w5 from Below.grown (BD.out.alloc BD.out.size _) hgrow (by have := BD.out.size; simp; omega) (fun k hk => (World.ownsRow.lt OD.out k hk).1))
              have O5 := Lib.hid (show OwnC w5 w0.heap.size v' (cs ++ cvL t 2 x (-1)) by unfold OwnC; rw [conV_appd, List.length_append]; exact hown5)
              clear hown5 hgrow
              go_wp2_with (refine wpList_quo3 rfl (.tmp 108) rfl m mq rfl hm HQ3.out ?_)
              go_roundw
              case rel =>
                refine ⟨t + 1, mq, cs ++ cvL t 2 x (-1), by go_num, rfl, by omega, mq1, Lib.hid ⟨O5.out, B5.out⟩, Lib.hid ?_, Lib.hid (fun c hc => ?_), Lib.hid (fun p => (PD.out p).2), Lib.hid (fun p c hc => ?_)⟩
                · have h1 := HLn.out
                  have h2 := cvL_len t 2 x (-1)
                  rw [List.length_append]; omega
                · rcases List.mem_append.1 hc with q | q
                  · exact HOK.out c q
                  · exact cvL_ok htn BB.out.1 BB.out.2 LOB.out.1 LOB.out.2 c q
                · rcases List.mem_append.1 hc with q | q
                  · exact HMT.out p c q
                  · have h := CV.out p
                    rw [HLO.out, HHI.out] at h
                    exact cvL_met (HP.out p).2.1 h c q
              case measure => simp [intOf]; omega
      · by_cases hn1 : y1 < 0
        · rcases md3 with rfl | rfl | rfl
          · have HLO := Lib.hid (show cnV y0 D = l0 by unfold cnV; rw [if_neg hn0, HL0.out])
            have HHI := Lib.hid (show cnV y1 D = (-1) by unfold cnV; rw [if_pos hn1])
            have LOB := Lib.hid (show -1 ≤ l0 ∧ l0 ≤ 524288000 from by have := KC.out; have := KB.out; omega)
            have s0 : decide (y0 < (0 : Int)) = false := by simp; omega
            have s1 : decide (y1 < (0 : Int)) = true := by simp; omega
            clear hn0 hn1
            go_wp2_with fail
            go_quiet (fail)
            generalize nq = j1 at *
            go_wp2_with fail
            go_quiet (fail)
            rw [q2, q3, q4, q5]
            have OD := Lib.hid (hod.out (j1 + nq))
            have BD := Lib.hid (hbd.out (j1 + nq))
            try simp only [World.drewN_drewN]
            generalize wr.drewN (j1 + nq) = wd at *
            clear q1 q2 q3 q4 q5 p0 p00 e0 e1 e2 e3 x0 x1 x2 x3
            obtain ⟨b2, hb2, e2⟩ := C0.out _ (below_on E0.out BD.out) t htn
            rw [HO0.out] at hb2
            injection hb2 with hb2
            subst hb2
            rw [← HY0.out] at e2
            obtain ⟨b3, hb3, e3⟩ := C1.out _ (below_on E0.out BD.out) t htn
            rw [HO1.out] at hb3
            injection hb3 with hb3
            subst hb3
            rw [← HY1.out] at e3
            obtain ⟨x0, x1, x2, x3⟩ := (KX.out.kept BD.out).facts
            rw [HO0.out] at x0
            rw [HO1.out] at x1
            go_upto_region 11 with (fail)
            clear e2 e3 x0 x1 x2 x3 s0 s1
            go_upto_region 15 with (refine wpList_rem3 rfl (.tmp 63) rfl m _ rfl HD3.out ?_)
            go_wp2_with (at_builtin; refine wpList_append_own _ rfl _ _ 44 rfl w0.heap.size 51 i0 (.agg #[.int .i64 0, .int .i64 0, .int .i64 0]) 3 24 Try.underlying44 hi hz0 hz1 hz2 rfl (by decide) _ _ _ rfl (World.ownsRow.alloc OD.out _) ⟨wd.heap.size, 0, none⟩ 2 2 [.int .i64 ((t : Int) + 1), .int .i64 0, .int .i64 (2 * x + 1), .int .i64 0, .int .i64 ((t : Int) + 1), .int .i64 (-2 * x + 1)] rfl rfl ?qc2 (by simp [Value.oneCell']) (by have := HLn.out; unfold maxLen; omega) (by have := HLn.out; omega) (by have := BD.out.size; simp; omega) ?_)
            case qc2 => exact cells_row [.int .i64 ((t : Int) + 1), .int .i64 0, .int .i64 (2 * x + 1), .int .i64 0, .int .i64 ((t : Int) + 1), .int .i64 (-2 * x + 1)] 51 rfl
            intro v' w5 hown5 hgrow _
            have B5 := Lib.hid (show Below w0.heap.size w0 w5 from Below.grown (BD.out.alloc BD.out.size _) hgrow (by have := BD.out.size; simp; omega) (fun k hk => (World.ownsRow.lt OD.out k hk).1))
            have O5 := Lib.hid (show OwnC w5 w0.heap.size v' (cs ++ cvL t 0 x l0) by unfold OwnC; rw [conV_appd, List.length_append]; exact hown5)
            clear hown5 hgrow
            go_wp2_with (refine wpList_quo3 rfl (.tmp 108) rfl m mq rfl hm HQ3.out ?_)
            go_roundw
            case rel =>
              refine ⟨t + 1, mq, cs ++ cvL t 0 x l0, by go_num, rfl, by omega, mq1, Lib.hid ⟨O5.out, B5.out⟩, Lib.hid ?_, Lib.hid (fun c hc => ?_), Lib.hid (fun p => (PD.out p).2), Lib.hid (fun p c hc => ?_)⟩
              · have h1 := HLn.out
                have h2 := cvL_len t 0 x l0
                rw [List.length_append]; omega
              · rcases List.mem_append.1 hc with q | q
                · exact HOK.out c q
                · exact cvL_ok htn BB.out.1 BB.out.2 LOB.out.1 LOB.out.2 c q
              · rcases List.mem_append.1 hc with q | q
                · exact HMT.out p c q
                · have h := CV.out p
                  rw [HLO.out, HHI.out] at h
                  exact cvL_met (HP.out p).2.1 h c q
            case measure => simp [intOf]; omega
          · have HLO := Lib.hid (show cnV y0 D = l0 by unfold cnV; rw [if_neg hn0, HL0.out])
            have HHI := Lib.hid (show cnV y1 D = (-1) by unfold cnV; rw [if_pos hn1])
            have LOB := Lib.hid (show -1 ≤ l0 ∧ l0 ≤ 524288000 from by have := KC.out; have := KB.out; omega)
            have s0 : decide (y0 < (0 : Int)) = false := by simp; omega
            have s1 : decide (y1 < (0 : Int)) = true := by simp; omega
            have w5 : wrap64 (-2 * l0) = -2 * l0 := by have := LOB.out; unfold wrap64; omega
            clear hn0 hn1
            go_wp2_with fail
            go_quiet (fail)
            generalize nq = j1 at *
            go_wp2_with fail
            go_quiet (fail)
            rw [q2, q3, q4, q5]
            have OD := Lib.hid (hod.out (j1 + nq))
            have BD := Lib.hid (hbd.out (j1 + nq))
            try simp only [World.drewN_drewN]
            generalize wr.drewN (j1 + nq) = wd at *
            clear q1 q2 q3 q4 q5 p0 p00 e0 e1 e2 e3 x0 x1 x2 x3
            obtain ⟨b2, hb2, e2⟩ := C0.out _ (below_on E0.out BD.out) t htn
            rw [HO0.out] at hb2
            injection hb2 with hb2
            subst hb2
            rw [← HY0.out] at e2
            obtain ⟨b3, hb3, e3⟩ := C1.out _ (below_on E0.out BD.out) t htn
            rw [HO1.out] at hb3
            injection hb3 with hb3
            subst hb3
            rw [← HY1.out] at e3
            obtain ⟨x0, x1, x2, x3⟩ := (KX.out.kept BD.out).facts
            rw [HO0.out] at x0
            rw [HO1.out] at x1
            go_upto_region 11 with (fail)
            clear e2 e3 x0 x1 x2 x3 s0 s1
            go_upto_region 15 with (refine wpList_rem3 rfl (.tmp 63) rfl m _ rfl HD3.out ?_)
            go_wp2_with (at_builtin; refine wpList_append_own _ rfl _ _ 44 rfl w0.heap.size 51 i0 (.agg #[.int .i64 0, .int .i64 0, .int .i64 0]) 3 24 Try.underlying44 hi hz0 hz1 hz2 rfl (by decide) _ _ _ rfl (World.ownsRow.alloc OD.out _) ⟨wd.heap.size, 0, none⟩ 2 2 [.int .i64 ((t : Int) + 1), .int .i64 0, .int .i64 (2 * x), .int .i64 0, .int .i64 ((t : Int) + 1), .int .i64 (-2 * l0)] rfl rfl ?qc2 (by simp [Value.oneCell']) (by have := HLn.out; unfold maxLen; omega) (by have := HLn.out; omega) (by have := BD.out.size; simp; omega) ?_)
            case qc2 => exact cells_row [.int .i64 ((t : Int) + 1), .int .i64 0, .int .i64 (2 * x), .int .i64 0, .int .i64 ((t : Int) + 1), .int .i64 (-2 * l0)] 51 rfl
            intro v' w5 hown5 hgrow _
            have B5 := Lib.hid (show Below w0.heap.size w0 w5 from Below.grown (BD.out.alloc BD.out.size _) hgrow (by have := BD.out.size; simp; omega) (fun k hk => (World.ownsRow.lt OD.out k hk).1))
            have O5 := Lib.hid (show OwnC w5 w0.heap.size v' (cs ++ cvL t 1 x l0) by unfold OwnC; rw [conV_appd, List.length_append]; exact hown5)
            clear hown5 hgrow
            go_wp2_with (refine wpList_quo3 rfl (.tmp 108) rfl m mq rfl hm HQ3.out ?_)
            go_roundw
            case rel =>
              refine ⟨t + 1, mq, cs ++ cvL t 1 x l0, by go_num, rfl, by omega, mq1, Lib.hid ⟨O5.out, B5.out⟩, Lib.hid ?_, Lib.hid (fun c hc => ?_), Lib.hid (fun p => (PD.out p).2), Lib.hid (fun p c hc => ?_)⟩
              · have h1 := HLn.out
                have h2 := cvL_len t 1 x l0
                rw [List.length_append]; omega
              · rcases List.mem_append.1 hc with q | q
                · exact HOK.out c q
                · exact cvL_ok htn BB.out.1 BB.out.2 LOB.out.1 LOB.out.2 c q
              · rcases List.mem_append.1 hc with q | q
                · exact HMT.out p c q
                · have h := CV.out p
                  rw [HLO.out, HHI.out] at h
                  exact cvL_met (HP.out p).2.1 h c q
            case measure => simp [intOf]; omega
          · have HLO := Lib.hid (show cnV y0 D = l0 by unfold cnV; rw [if_neg hn0, HL0.out])
            have HHI := Lib.hid (show cnV y1 D = (-1) by unfold cnV; rw [if_pos hn1])
            have LOB := Lib.hid (show -1 ≤ l0 ∧ l0 ≤ 524288000 from by have := KC.out; have := KB.out; omega)
            have s0 : decide (y0 < (0 : Int)) = false := by simp; omega
            have s1 : decide (y1 < (0 : Int)) = true := by simp; omega
            clear hn0 hn1
            by_cases hge : x ≤ (-1)
            · have s2 : decide (x ≤ (-1)) = true := by simpa using hge
              have NOP := Lib.hid (show ¬ P from fun p => by
                have h := CV.out p
                rw [HLO.out, HHI.out] at h
                unfold CvD at h
                omega)
              clear hge
              go_wp2_with fail
              go_quiet (fail)
              generalize nq = j1 at *
              go_wp2_with fail
              go_quiet (fail)
              rw [q2, q3, q4, q5]
              have OD := Lib.hid (hod.out (j1 + nq))
              have BD := Lib.hid (hbd.out (j1 + nq))
              try simp only [World.drewN_drewN]
              generalize wr.drewN (j1 + nq) = wd at *
              clear q1 q2 q3 q4 q5 p0 p00 e0 e1 e2 e3 x0 x1 x2 x3
              obtain ⟨b2, hb2, e2⟩ := C0.out _ (below_on E0.out BD.out) t htn
              rw [HO0.out] at hb2
              injection hb2 with hb2
              subst hb2
              rw [← HY0.out] at e2
              obtain ⟨b3, hb3, e3⟩ := C1.out _ (below_on E0.out BD.out) t htn
              rw [HO1.out] at hb3
              injection hb3 with hb3
              subst hb3
              rw [← HY1.out] at e3
              obtain ⟨x0, x1, x2, x3⟩ := (KX.out.kept BD.out).facts
              rw [HO0.out] at x0
              rw [HO1.out] at x1
              go_upto_region 11 with (fail)
              clear e2 e3 x0 x1 x2 x3 s0 s1
              go_upto_region 15 with (refine wpList_rem3 rfl (.tmp 63) rfl m _ rfl HD3.out ?_)
              go_wp2_with fail
              go_ret
              exact ⟨below_on E0.out BD.out, false, rfl, fun p => absurd p NOP.out⟩
            · have s2 : decide (x ≤ (-1)) = false := by simp; omega
              clear hge
              go_wp2_with fail
              go_quiet (fail)
              generalize nq = j1 at *
              go_wp2_with fail
              go_quiet (fail)
              rw [q2, q3, q4, q5]
              have OD := Lib.hid (hod.out (j1 + nq))
              have BD := Lib.hid (hbd.out (j1 + nq))
              try simp only [World.drewN_drewN]
              generalize wr.drewN (j1 + nq) = wd at *
              clear q1 q2 q3 q4 q5 p0 p00 e0 e1 e2 e3 x0 x1 x2 x3
              obtain ⟨b2, hb2, e2⟩ := C0.out _ (below_on E0.out BD.out) t htn
              rw [HO0.out] at hb2
              injection hb2 with hb2
              subst hb2
              rw [← HY0.out] at e2
              obtain ⟨b3, hb3, e3⟩ := C1.out _ (below_on E0.out BD.out) t htn
              rw [HO1.out] at hb3
              injection hb3 with hb3
              subst hb3
              rw [← HY1.out] at e3
              obtain ⟨x0, x1, x2, x3⟩ := (KX.out.kept BD.out).facts
              rw [HO0.out] at x0
              rw [HO1.out] at x1
              go_upto_region 11 with (fail)
              clear e2 e3 x0 x1 x2 x3 s0 s1
              go_upto_region 15 with (refine wpList_rem3 rfl (.tmp 63) rfl m _ rfl HD3.out ?_)
              go_wp2_with (at_builtin; refine wpList_append_own _ rfl _ _ 44 rfl w0.heap.size 51 i0 (.agg #[.int .i64 0, .int .i64 0, .int .i64 0]) 3 24 Try.underlying44 hi hz0 hz1 hz2 rfl (by decide) _ _ _ rfl (World.ownsRow.alloc OD.out _) ⟨wd.heap.size, 0, none⟩ 1 1 [.int .i64 0, .int .i64 ((t : Int) + 1), .int .i64 (-2 * x)] rfl rfl ?qc2 (by simp [Value.oneCell']) (by have := HLn.out; unfold maxLen; omega) (by have := HLn.out; omega) (by have := BD.out.size; simp; omega) ?_)
              case qc2 => exact cells_row [.int .i64 0, .int .i64 ((t : Int) + 1), .int .i64 (-2 * x)] 51 rfl
              intro v' w5 hown5 hgrow _
              have B5 := Lib.hid (show Below w0.heap.size w0 w5 from Below.grown (BD.out.alloc BD.out.size _) hgrow (by have := BD.out.size; simp; omega) (fun k hk => (World.ownsRow.lt OD.out k hk).1))
              have O5 := Lib.hid (show OwnC w5 w0.heap.size v' (cs ++ cvL t 2 x l0) by unfold OwnC; rw [conV_appd, List.length_append]; exact hown5)
              clear hown5 hgrow
              go_wp2_with (refine wpList_quo3 rfl (.tmp 108) rfl m mq rfl hm HQ3.out ?_)
              go_roundw
              case rel =>
                refine ⟨t + 1, mq, cs ++ cvL t 2 x l0, by go_num, rfl, by omega, mq1, Lib.hid ⟨O5.out, B5.out⟩, Lib.hid ?_, Lib.hid (fun c hc => ?_), Lib.hid (fun p => (PD.out p).2), Lib.hid (fun p c hc => ?_)⟩
                · have h1 := HLn.out
                  have h2 := cvL_len t 2 x l0
                  rw [List.length_append]; omega
                · rcases List.mem_append.1 hc with q | q
                  · exact HOK.out c q
                  · exact cvL_ok htn BB.out.1 BB.out.2 LOB.out.1 LOB.out.2 c q
                · rcases List.mem_append.1 hc with q | q
                  · exact HMT.out p c q
                  · have h := CV.out p
                    rw [HLO.out, HHI.out] at h
                    exact cvL_met (HP.out p).2.1 h c q
              case measure => simp [intOf]; omega
        · rcases md3 with rfl | rfl | rfl
          · have HLO := Lib.hid (show cnV y0 D = l0 by unfold cnV; rw [if_neg hn0, HL0.out])
            have HHI := Lib.hid (show cnV y1 D = l1 by unfold cnV; rw [if_neg hn1, HL1.out])
            have LOB := Lib.hid (show -1 ≤ l0 ∧ l0 ≤ 524288000 from by have := KC.out; have := KB.out; omega)
            have s0 : decide (y0 < (0 : Int)) = false := by simp; omega
            have s1 : decide (y1 < (0 : Int)) = false := by simp; omega
            clear hn0 hn1
            go_wp2_with fail
            go_quiet (fail)
            generalize nq = j1 at *
            go_wp2_with fail
            go_quiet (fail)
            rw [q2, q3, q4, q5]
            have OD := Lib.hid (hod.out (j1 + nq))
            have BD := Lib.hid (hbd.out (j1 + nq))
            try simp only [World.drewN_drewN]
            generalize wr.drewN (j1 + nq) = wd at *
            clear q1 q2 q3 q4 q5 p0 p00 e0 e1 e2 e3 x0 x1 x2 x3
            obtain ⟨b2, hb2, e2⟩ := C0.out _ (below_on E0.out BD.out) t htn
            rw [HO0.out] at hb2
            injection hb2 with hb2
            subst hb2
            rw [← HY0.out] at e2
            obtain ⟨b3, hb3, e3⟩ := C1.out _ (below_on E0.out BD.out) t htn
            rw [HO1.out] at hb3
            injection hb3 with hb3
            subst hb3
            rw [← HY1.out] at e3
            obtain ⟨x0, x1, x2, x3⟩ := (KX.out.kept BD.out).facts
            rw [HO0.out] at x0
            rw [HO1.out] at x1
            go_upto_region 11 with (fail)
            clear e2 e3 x0 x1 x2 x3 s0 s1
            go_upto_region 15 with (refine wpList_rem3 rfl (.tmp 63) rfl m _ rfl HD3.out ?_)
            go_wp2_with (at_builtin; refine wpList_append_own _ rfl _ _ 44 rfl w0.heap.size 51 i0 (.agg #[.int .i64 0, .int .i64 0, .int .i64 0]) 3 24 Try.underlying44 hi hz0 hz1 hz2 rfl (by decide) _ _ _ rfl (World.ownsRow.alloc OD.out _) ⟨wd.heap.size, 0, none⟩ 2 2 [.int .i64 ((t : Int) + 1), .int .i64 0, .int .i64 (2 * x + 1), .int .i64 0, .int .i64 ((t : Int) + 1), .int .i64 (-2 * x + 1)] rfl rfl ?qc2 (by simp [Value.oneCell']) (by have := HLn.out; unfold maxLen; omega) (by have := HLn.out; omega) (by have := BD.out.size; simp; omega) ?_)
            case qc2 => exact cells_row [.int .i64 ((t : Int) + 1), .int .i64 0, .int .i64 (2 * x + 1), .int .i64 0, .int .i64 ((t : Int) + 1), .int .i64 (-2 * x + 1)] 51 rfl
            intro v' w5 hown5 hgrow _
            have B5 := Lib.hid (show Below w0.heap.size w0 w5 from Below.grown (BD.out.alloc BD.out.size _) hgrow (by have := BD.out.size; simp; omega) (fun k hk => (World.ownsRow.lt OD.out k hk).1))
            have O5 := Lib.hid (show OwnC w5 w0.heap.size v' (cs ++ cvL t 0 x l0) by unfold OwnC; rw [conV_appd, List.length_append]; exact hown5)
            clear hown5 hgrow
            go_wp2_with (refine wpList_quo3 rfl (.tmp 108) rfl m mq rfl hm HQ3.out ?_)
            go_roundw
            case rel =>
              refine ⟨t + 1, mq, cs ++ cvL t 0 x l0, by go_num, rfl, by omega, mq1, Lib.hid ⟨O5.out, B5.out⟩, Lib.hid ?_, Lib.hid (fun c hc => ?_), Lib.hid (fun p => (PD.out p).2), Lib.hid (fun p c hc => ?_)⟩
              · have h1 := HLn.out
                have h2 := cvL_len t 0 x l0
                rw [List.length_append]; omega
              · rcases List.mem_append.1 hc with q | q
                · exact HOK.out c q
                · exact cvL_ok htn BB.out.1 BB.out.2 LOB.out.1 LOB.out.2 c q
              · rcases List.mem_append.1 hc with q | q
                · exact HMT.out p c q
                · have h := CV.out p
                  rw [HLO.out, HHI.out] at h
                  exact cvL_met (HP.out p).2.1 h c q
            case measure => simp [intOf]; omega
          · have HLO := Lib.hid (show cnV y0 D = l0 by unfold cnV; rw [if_neg hn0, HL0.out])
            have HHI := Lib.hid (show cnV y1 D = l1 by unfold cnV; rw [if_neg hn1, HL1.out])
            have LOB := Lib.hid (show -1 ≤ l0 ∧ l0 ≤ 524288000 from by have := KC.out; have := KB.out; omega)
            have s0 : decide (y0 < (0 : Int)) = false := by simp; omega
            have s1 : decide (y1 < (0 : Int)) = false := by simp; omega
            have w5 : wrap64 (-2 * l0) = -2 * l0 := by have := LOB.out; unfold wrap64; omega
            clear hn0 hn1
            go_wp2_with fail
            go_quiet (fail)
            generalize nq = j1 at *
            go_wp2_with fail
            go_quiet (fail)
            rw [q2, q3, q4, q5]
            have OD := Lib.hid (hod.out (j1 + nq))
            have BD := Lib.hid (hbd.out (j1 + nq))
            try simp only [World.drewN_drewN]
            generalize wr.drewN (j1 + nq) = wd at *
            clear q1 q2 q3 q4 q5 p0 p00 e0 e1 e2 e3 x0 x1 x2 x3
            obtain ⟨b2, hb2, e2⟩ := C0.out _ (below_on E0.out BD.out) t htn
            rw [HO0.out] at hb2
            injection hb2 with hb2
            subst hb2
            rw [← HY0.out] at e2
            obtain ⟨b3, hb3, e3⟩ := C1.out _ (below_on E0.out BD.out) t htn
            rw [HO1.out] at hb3
            injection hb3 with hb3
            subst hb3
            rw [← HY1.out] at e3
            obtain ⟨x0, x1, x2, x3⟩ := (KX.out.kept BD.out).facts
            rw [HO0.out] at x0
            rw [HO1.out] at x1
            go_upto_region 11 with (fail)
            clear e2 e3 x0 x1 x2 x3 s0 s1
            go_upto_region 15 with (refine wpList_rem3 rfl (.tmp 63) rfl m _ rfl HD3.out ?_)
            go_wp2_with (at_builtin; refine wpList_append_own _ rfl _ _ 44 rfl w0.heap.size 51 i0 (.agg #[.int .i64 0, .int .i64 0, .int .i64 0]) 3 24 Try.underlying44 hi hz0 hz1 hz2 rfl (by decide) _ _ _ rfl (World.ownsRow.alloc OD.out _) ⟨wd.heap.size, 0, none⟩ 2 2 [.int .i64 ((t : Int) + 1), .int .i64 0, .int .i64 (2 * x), .int .i64 0, .int .i64 ((t : Int) + 1), .int .i64 (-2 * l0)] rfl rfl ?qc2 (by simp [Value.oneCell']) (by have := HLn.out; unfold maxLen; omega) (by have := HLn.out; omega) (by have := BD.out.size; simp; omega) ?_)
            case qc2 => exact cells_row [.int .i64 ((t : Int) + 1), .int .i64 0, .int .i64 (2 * x), .int .i64 0, .int .i64 ((t : Int) + 1), .int .i64 (-2 * l0)] 51 rfl
            intro v' w5 hown5 hgrow _
            have B5 := Lib.hid (show Below w0.heap.size w0 w5 from Below.grown (BD.out.alloc BD.out.size _) hgrow (by have := BD.out.size; simp; omega) (fun k hk => (World.ownsRow.lt OD.out k hk).1))
            have O5 := Lib.hid (show OwnC w5 w0.heap.size v' (cs ++ cvL t 1 x l0) by unfold OwnC; rw [conV_appd, List.length_append]; exact hown5)
            clear hown5 hgrow
            go_wp2_with (refine wpList_quo3 rfl (.tmp 108) rfl m mq rfl hm HQ3.out ?_)
            go_roundw
            case rel =>
              refine ⟨t + 1, mq, cs ++ cvL t 1 x l0, by go_num, rfl, by omega, mq1, Lib.hid ⟨O5.out, B5.out⟩, Lib.hid ?_, Lib.hid (fun c hc => ?_), Lib.hid (fun p => (PD.out p).2), Lib.hid (fun p c hc => ?_)⟩
              · have h1 := HLn.out
                have h2 := cvL_len t 1 x l0
                rw [List.length_append]; omega
              · rcases List.mem_append.1 hc with q | q
                · exact HOK.out c q
                · exact cvL_ok htn BB.out.1 BB.out.2 LOB.out.1 LOB.out.2 c q
              · rcases List.mem_append.1 hc with q | q
                · exact HMT.out p c q
                · have h := CV.out p
                  rw [HLO.out, HHI.out] at h
                  exact cvL_met (HP.out p).2.1 h c q
            case measure => simp [intOf]; omega
          · have HLO := Lib.hid (show cnV y0 D = l0 by unfold cnV; rw [if_neg hn0, HL0.out])
            have HHI := Lib.hid (show cnV y1 D = l1 by unfold cnV; rw [if_neg hn1, HL1.out])
            have LOB := Lib.hid (show -1 ≤ l0 ∧ l0 ≤ 524288000 from by have := KC.out; have := KB.out; omega)
            have s0 : decide (y0 < (0 : Int)) = false := by simp; omega
            have s1 : decide (y1 < (0 : Int)) = false := by simp; omega
            clear hn0 hn1
            by_cases hge : x ≤ l1
            · have s2 : decide (x ≤ l1) = true := by simpa using hge
              have NOP := Lib.hid (show ¬ P from fun p => by
                have h := CV.out p
                rw [HLO.out, HHI.out] at h
                unfold CvD at h
                omega)
              clear hge
              go_wp2_with fail
              go_quiet (fail)
              generalize nq = j1 at *
              go_wp2_with fail
              go_quiet (fail)
              rw [q2, q3, q4, q5]
              have OD := Lib.hid (hod.out (j1 + nq))
              have BD := Lib.hid (hbd.out (j1 + nq))
              try simp only [World.drewN_drewN]
              generalize wr.drewN (j1 + nq) = wd at *
              clear q1 q2 q3 q4 q5 p0 p00 e0 e1 e2 e3 x0 x1 x2 x3
              obtain ⟨b2, hb2, e2⟩ := C0.out _ (below_on E0.out BD.out) t htn
              rw [HO0.out] at hb2
              injection hb2 with hb2
              subst hb2
              rw [← HY0.out] at e2
              obtain ⟨b3, hb3, e3⟩ := C1.out _ (below_on E0.out BD.out) t htn
              rw [HO1.out] at hb3
              injection hb3 with hb3
              subst hb3
              rw [← HY1.out] at e3
              obtain ⟨x0, x1, x2, x3⟩ := (KX.out.kept BD.out).facts
              rw [HO0.out] at x0
              rw [HO1.out] at x1
              go_upto_region 11 with (fail)
              clear e2 e3 x0 x1 x2 x3 s0 s1
              go_upto_region 15 with (refine wpList_rem3 rfl (.tmp 63) rfl m _ rfl HD3.out ?_)
              go_wp2_with fail
              go_ret
              exact ⟨below_on E0.out BD.out, false, rfl, fun p => absurd p NOP.out⟩
            · have s2 : decide (x ≤ l1) = false := by simp; omega
              clear hge
              go_wp2_with fail
              go_quiet (fail)
              generalize nq = j1 at *
              go_wp2_with fail
              go_quiet (fail)
              rw [q2, q3, q4, q5]
              have OD := Lib.hid (hod.out (j1 + nq))
              have BD := Lib.hid (hbd.out (j1 + nq))
              try simp only [World.drewN_drewN]
              generalize wr.drewN (j1 + nq) = wd at *
              clear q1 q2 q3 q4 q5 p0 p00 e0 e1 e2 e3 x0 x1 x2 x3
              obtain ⟨b2, hb2, e2⟩ := C0.out _ (below_on E0.out BD.out) t htn
              rw [HO0.out] at hb2
              injection hb2 with hb2
              subst hb2
              rw [← HY0.out] at e2
              obtain ⟨b3, hb3, e3⟩ := C1.out _ (below_on E0.out BD.out) t htn
              rw [HO1.out] at hb3
              injection hb3 with hb3
              subst hb3
              rw [← HY1.out] at e3
              obtain ⟨x0, x1, x2, x3⟩ := (KX.out.kept BD.out).facts
              rw [HO0.out] at x0
              rw [HO1.out] at x1
              go_upto_region 11 with (fail)
              clear e2 e3 x0 x1 x2 x3 s0 s1
              go_upto_region 15 with (refine wpList_rem3 rfl (.tmp 63) rfl m _ rfl HD3.out ?_)
              go_wp2_with (at_builtin; refine wpList_append_own _ rfl _ _ 44 rfl w0.heap.size 51 i0 (.agg #[.int .i64 0, .int .i64 0, .int .i64 0]) 3 24 Try.underlying44 hi hz0 hz1 hz2 rfl (by decide) _ _ _ rfl (World.ownsRow.alloc OD.out _) ⟨wd.heap.size, 0, none⟩ 1 1 [.int .i64 0, .int .i64 ((t : Int) + 1), .int .i64 (-2 * x)] rfl rfl ?qc2 (by simp [Value.oneCell']) (by have := HLn.out; unfold maxLen; omega) (by have := HLn.out; omega) (by have := BD.out.size; simp; omega) ?_)
              case qc2 => exact cells_row [.int .i64 0, .int .i64 ((t : Int) + 1), .int .i64 (-2 * x)] 51 rfl
              intro v' w5 hown5 hgrow _
              have B5 := Lib.hid (show Below w0.heap.size w0 w5 from Below.grown (BD.out.alloc BD.out.size _) hgrow (by have := BD.out.size; simp; omega) (fun k hk => (World.ownsRow.lt OD.out k hk).1))
              have O5 := Lib.hid (show OwnC w5 w0.heap.size v' (cs ++ cvL t 2 x l0) by unfold OwnC; rw [conV_appd, List.length_append]; exact hown5)
              clear hown5 hgrow
              go_wp2_with (refine wpList_quo3 rfl (.tmp 108) rfl m mq rfl hm HQ3.out ?_)
              go_roundw
              case rel =>
                refine ⟨t + 1, mq, cs ++ cvL t 2 x l0, by go_num, rfl, by omega, mq1, Lib.hid ⟨O5.out, B5.out⟩, Lib.hid ?_, Lib.hid (fun c hc => ?_), Lib.hid (fun p => (PD.out p).2), Lib.hid (fun p c hc => ?_)⟩
                · have h1 := HLn.out
                  have h2 := cvL_len t 2 x l0
                  rw [List.length_append]; omega
                · rcases List.mem_append.1 hc with q | q
                  · exact HOK.out c q
                  · exact cvL_ok htn BB.out.1 BB.out.2 LOB.out.1 LOB.out.2 c q
                · rcases List.mem_append.1 hc with q | q
                  · exact HMT.out p c q
                  · have h := CV.out p
                    rw [HLO.out, HHI.out] at h
                    exact cvL_met (HP.out p).2.1 h c q
              case measure => simp [intOf]; omega
    · have htt : t = n := by omega
      obtain ⟨ao, ck, rfl, hA3⟩ := HO.out.1.arg
      have HA3 := Lib.hid hA3
      have BW := Lib.hid (below_on E0.out HO.out.2)
      have LN := Lib.hid (show cs.length ≤ 1000 by have := HLn.out; omega)
      have GD := Lib.hid (show P → anG n cs g = 0 ∨ anG n cs g = 7 from fun p => by
        obtain ⟨h1, h2, h3, h4, _, _⟩ := HP.out p
        exact an_full HCK.out h1 h2 h3 h4 HOK.out (HMT.out p))
      obtain ⟨z0, z1, z2, z3⟩ := (ZX.out.kept HO.out.2).facts
      have AX := Lib.hid (AN.out wr cs ao ck BW.out HA3.out LN.out)
      generalize zrN (anG n cs g) n = M1 at *
      generalize zrL (anG n cs g) (Zo.clo (n : Int).toNat (anL (n : Int).toNat cs g)) = m1 at *
      generalize anG n cs g = er at *
      clear hA3 htt
      go_wp2_with fail
      refine AX.out.mono ?_
      rintro e w6 ⟨a6, c6, rfl, _, _, _, _, hb⟩
      have B6 := Lib.hid (show Below w.heap.size w (w6.alloc (.cells #[.int .i64 M1, .slice a6 m1.length c6] 24)) from (below_on BW.out hb).alloc (below_on BW.out hb).size _)
      clear hb z0 z1 z2 z3
      by_cases he : er = 0
      · have DE : (er == 0) = true := by simpa using he
        go_wp2_with fail
        go_ret
        exact ⟨B6.out, _, rfl, fun _ => rfl⟩
      · have DE : (er == 0) = false := by simpa using he
        have GE := Lib.hid (show P → (er == 7) = true from fun p => by
          rcases GD.out p with q | q
          · exact absurd q he
          · simpa using q)
        clear he
        go_wp2_with fail
        go_ret
        exact ⟨B6.out, _, rfl, GE.out⟩
end Go.Proofs.Ytjfhjckacfkpoaa

namespace Go.Proofs.Ytjfhjckacfkpoaa
open Go.RowKit

/-- Is a constant small? -/
def kmB (x : Int) : Bool := decide (x = 1099511627776) || (decide (-1048576 ≤ x / 2) && decide (x / 2 ≤ 1048576))

def scS (D : Int) (x : List Int) (t : Nat) : List Int := x.set t (scE D (Zo.gt x t))

theorem gt_scL (D : Int) (l : List Int) {k : Nat} (h : k < l.length) : Zo.gt (scL D l) k = scE D (Zo.gt l k) := by simp [Zo.gt, scL, h]

set_option maxRecDepth 100000 in
set_option maxHeartbeats 4000000 in
theorem scaled_any (N : Int) (l : List Int) (a : Addr) (cap : Nat) (D : Int) (w : World) (h0 : 0 < l.length) (h1 : l.length ≤ 200) (hR : Rd w a l) (hv : A6 l) (d1 : 1 ≤ D) (d2 : D ≤ 500) :
    Calls Try.prog 17 #[.agg #[.int .i64 N, .slice (some a) l.length cap], .int .i64 D] w (fun e w' => Below w.heap.size w w' ∧
      (((∀ k, k < l.length → kmB (Zo.gt l k) = true) ∧ ∃ g c, e = .returned (.tuple #[.agg #[.int .i64 N, .slice (some ⟨g, 0, none⟩) l.length c], .bool true]) ∧ w.heap.size ≤ g ∧ Own w' g c (scL D l)) ∨
       e = .returned (.tuple #[.agg #[.int .i64 0, .slice none 0 0], .bool false]))) := by
  obtain ⟨i0, hi, hz0, hz1, hz2⟩ := info_parts Try.info49
  obtain ⟨len, hlen⟩ : ∃ len, len = l.length := ⟨_, rfl⟩
  obtain ⟨xs, hxs⟩ : ∃ xs, xs = l.map (Value.int .i64) := ⟨_, rfl⟩
  have RN := Lib.hid (show ∀ w' : World, Below w.heap.size w w' → ∀ j u, xs[j]? = some u → w'.cell? (a.add j) = some u from fun w' h => by rw [hxs]; exact (hR.on h).map)
  have m1 : xs.length = len * 1 := by rw [hxs, hlen]; simp
  have o1 : ∀ u ∈ xs, u.oneCell' = true := by rw [hxs]; simp [Value.oneCell']
  have ln : len ≤ 200 := by omega
  have lp : 0 < len := by omega
  have HX := Lib.hid hxs
  have HO1 := Lib.hid o1
  have HLen := Lib.hid hlen
  have HV := Lib.hid hv
  rw [← hlen]
  clear hR hxs o1 hv hlen h0 h1
  obtain ⟨w0, hw0⟩ : ∃ w0, w0 = (w.alloc (.cells #[.int .i64 N, .slice (some a) len cap] 24)).alloc (.cells #[.int .i64 0, .slice none 0 0] 24) := ⟨_, rfl⟩
  have bx : Two w0 w.heap.size (.int .i64 N) (.slice (some a) len cap) := by rw [hw0]; exact (Two.made _ _ _ _).alloc _
  have rs : Two w0 (w.heap.size + 1) (.int .i64 0) (.slice none 0 0) := by
    rw [hw0]
    have := Two.made (w.alloc (.cells #[.int .i64 N, .slice (some a) len cap] 24)) (.int .i64 0) (.slice none 0 0) 24
    simpa using this
  have E0 := Lib.hid (show Below w.heap.size w w0 by rw [hw0]; exact past_two (Below.refl _ _))
  have z0 := rs.lt
  have HW0 := Lib.hid hw0
  clear hw0
  go_enter Try.func17, Try.ntmps17
  go_upto_region 1 with (fail)
  rw [← HW0.out]
  clear HW0
  obtain ⟨b0, b1, b2, b3⟩ := bx.facts
  have b0' := kept (one_more (w1 := w0) (.cells #[] 49)) b0
  have b1' := kept (one_more (w1 := w0) (.cells #[] 49)) b1
  have B4 := Lib.hid (show Below w.heap.size w (w0.alloc (.cells #[] 49)) from E0.out.alloc E0.out.size _)
  go_wp2_with (at_builtin; refine wpList_append_own _ rfl _ _ 22 rfl w0.heap.size 49 i0 (.int .i64 0) 1 8 Try.underlying22 hi hz0 hz1 hz2 rfl (by decide) _ _ _ rfl (World.ownsRow_made w0 #[] 0 (Nat.le_refl _) (Nat.zero_le _) (by simp)) a len cap xs rfl ?qc1 ?qc2 ?qc3 ?qc4 ?qc5 ?qc6 ?_)
  case qc1 => exact m1
  case qc2 =>
    intro j u hj
    exact RN.out _ B4.out j u hj
  case qc3 => exact HO1.out
  case qc4 => unfold maxLen; omega
  case qc5 => omega
  case qc6 => simp
  intro v' w4 hown hgrow hnil
  have hown' : w4.ownsRow w0.heap.size 49 1 v' len xs := by simpa using hown
  obtain ⟨g, c, rfl⟩ := Joins.ownsRow_form hown' (by omega)
  obtain ⟨ho4, hg4⟩ := own_of hown' HX.out HLen.out
  have G4 : Below w0.heap.size w0 w4 := (one_more _).grown hgrow (by simp) (by intro k hk; simp [Value.ownBlock] at hk; omega)
  have E4 := Lib.hid (below_on E0.out G4)
  clear b0 b1 b2 b3 b0' b1'
  replace bx := bx.kept G4
  replace rs := rs.kept G4
  have z4 := G4.size
  have S4 := Lib.hid (show St w4 g c l w4 from ⟨ho4, World.grownBy.refl _ _⟩)
  clear hown hgrow hnil hown' ho4 G4 B4
  go_wp2_with fail
  go_loopw [7, 8] (fun s _ wr => ∃ (t : Nat) (x : List Int), t ≤ len ∧ s = .int .i64 t ∧ Hid (x.length = len) ∧ Hid (∀ k, k < len → Zo.gt x k = if k < t then scE D (Zo.gt l k) else Zo.gt l k) ∧ Hid (∀ k, k < t → kmB (Zo.gt l k) = true) ∧ Hid (St w4 g c x wr)) (fun s _ _ => len - (intOf s).toNat)
  case atStart => exact ⟨0, l, by omega, rfl, Lib.hid HLen.out.symm, Lib.hid (fun k hk => by rw [if_neg (by omega)]), Lib.hid (fun k hk => by omega), S4⟩
  case round =>
    obtain ⟨t, x, ht, rfl, HXL, HXX, HSM, HT⟩ := hrel
    by_cases htn : t < len
    · obtain ⟨q0, q1⟩ := HT.out.get (k := t) (by rw [HXL.out]; exact htn)
      rw [HXX.out t htn, if_neg (by omega)] at q0
      obtain ⟨y, hy⟩ : ∃ y, y = Zo.gt l t := ⟨_, rfl⟩
      have iy : I64 y := by rw [hy]; exact HV.out t (by rw [← HLen.out]; exact htn)
      have HY := Lib.hid hy
      rw [← hy] at q0
      clear hy
      by_cases hno : y = 1099511627776
      · have D1 : (y == 1099511627776) = true := by simpa using hno
        have HN := Lib.hid hno
        clear hno
        go_wp2_with fail
        go_roundw
        case rel =>
          refine ⟨t + 1, x, by omega, by go_num, HXL, Lib.hid (fun k hk => ?_), Lib.hid (fun k hk => ?_), HT⟩
          · rw [HXX.out k hk]
            by_cases e : k = t
            · subst e; rw [if_neg (by omega), if_pos (by omega), ← HY.out, HN.out, scE_no]
            · by_cases f : k < t
              · rw [if_pos f, if_pos (by omega)]
              · rw [if_neg f, if_neg (by omega)]
          · by_cases e : k = t
            · rw [e, ← HY.out, HN.out]; decide
            · exact HSM.out k (by omega)
        case measure => simp [intOf]; omega
      · have D1 : (y == 1099511627776) = false := by simpa using hno
        have HN := Lib.hid hno
        obtain ⟨cc, hcc⟩ : ∃ cc, cc = y / 2 := ⟨_, rfl⟩
        have hc2 : y / 2 = cc := hcc.symm
        have HC := Lib.hid hcc
        have HBD := Lib.hid (show -4611686018427387905 < cc ∧ cc < 4611686018427387905 by rw [hcc]; unfold I64 at iy; omega)
        clear hcc hno
        by_cases hs1 : 1048576 < cc
        · have D2 : decide ((1048576 : Int) < cc) = true := by simpa using hs1
          clear hs1
          have E5 := Lib.hid (grown_over E4.out HT.out.2 (by have := E4.out.size; omega))
          obtain ⟨r0, r1, r2, r3⟩ := (rs.grown HT.out.2 (by omega)).facts
          go_wp2_with fail
          refine bodyPost_ret (v := .tuple #[.agg #[.int .i64 0, .slice none 0 0], .bool false]) (by simp [results, Try.results17, go_sem, r0, r1]) rfl ⟨(E5.out.setCell (by show w.heap.size ≤ w.heap.size + 1; omega) _).setCell (by show w.heap.size ≤ w.heap.size + 1; omega) _, Or.inr rfl⟩
        have D2 : decide ((1048576 : Int) < cc) = false := by simp; omega
        by_cases hs2 : cc < -1048576
        · have D3 : decide (cc < (-1048576 : Int)) = true := by simpa using hs2
          clear hs1 hs2
          have E5 := Lib.hid (grown_over E4.out HT.out.2 (by have := E4.out.size; omega))
          obtain ⟨r0, r1, r2, r3⟩ := (rs.grown HT.out.2 (by omega)).facts
          go_wp2_with fail
          refine bodyPost_ret (v := .tuple #[.agg #[.int .i64 0, .slice none 0 0], .bool false]) (by simp [results, Try.results17, go_sem, r0, r1]) rfl ⟨(E5.out.setCell (by show w.heap.size ≤ w.heap.size + 1; omega) _).setCell (by show w.heap.size ≤ w.heap.size + 1; omega) _, Or.inr rfl⟩
        have D3 : decide (cc < (-1048576 : Int)) = false := by simp; omega
        have a1 := Int.mul_le_mul_of_nonneg_left d2 (show (0 : Int) ≤ 2097152 by omega)
        have a2 := mul_le' (show -2097152 ≤ 2 * cc by omega) (show 0 < D by omega)
        have a3 := mul_le' (show 2 * cc ≤ 2097152 by omega) (show 0 < D by omega)
        have k1 : wrap64 (2 * cc) = 2 * cc := by unfold wrap64; omega
        obtain ⟨pr, hpr⟩ : ∃ pr, pr = 2 * cc * D := ⟨_, rfl⟩
        have bp : -1048576000 ≤ pr ∧ pr ≤ 1048576000 := by rw [hpr]; omega
        have k2 : wrap64 (2 * cc * D) = pr := by rw [← hpr]; unfold wrap64; omega
        have k3 := and1_i64 y
        obtain ⟨md, hmd⟩ : ∃ md, md = y % 2 := ⟨_, rfl⟩
        rw [← hmd] at k3
        have HMD := Lib.hid hmd
        obtain ⟨nv, hnv⟩ : ∃ nv, nv = pr + md := ⟨_, rfl⟩
        have k4 : wrap64 (pr + md) = nv := by rw [hnv]; unfold wrap64; omega
        have HNV := Lib.hid (show nv = scE D y by rw [scE_num HN.out, hnv, hpr, HC.out, HMD.out])
        have HSB := Lib.hid (show kmB y = true by unfold kmB; rw [← HC.out]; simp; right; omega)
        have S5 := Lib.hid (HT.out.put t nv)
        clear hpr hmd hnv a1 a2 a3 hs1 hs2 bp
        go_wp2_with fail
        go_roundw
        case rel =>
          refine ⟨t + 1, x.set t nv, by omega, by go_num, Lib.hid (by rw [List.length_set]; exact HXL.out), Lib.hid (fun k hk => ?_), Lib.hid (fun k hk => ?_), S5⟩
          · rw [Zo.gt_set _ (by rw [HXL.out]; exact htn)]
            by_cases e : k = t
            · subst e; rw [if_pos rfl, if_pos (by omega), ← HY.out]; exact HNV.out
            · rw [if_neg e, HXX.out k hk]
              by_cases f : k < t
              · rw [if_pos f, if_pos (by omega)]
              · rw [if_neg f, if_neg (by omega)]
          · by_cases e : k = t
            · rw [e, ← HY.out]; exact HSB.out
            · exact HSM.out k (by omega)
        case measure => simp [intOf]; omega
    · have HE := Lib.hid (show x = scL D l from by
        refine List.ext_getElem (by rw [HXL.out, scL_len, HLen.out]) fun i p1 p2 => ?_
        have := HXX.out i (by rw [HXL.out] at p1; exact p1)
        rw [if_pos (by rw [HXL.out] at p1; omega)] at this
        rw [← gt_scL D l (by rw [scL_len] at p2; exact p2)] at this
        simpa [Zo.gt, p1, p2] using this)
      have HSA := Lib.hid (show ∀ k, k < l.length → kmB (Zo.gt l k) = true from fun k hk => HSM.out k (by rw [← HLen.out] at hk; omega))
      have E5 := Lib.hid (grown_over E4.out HT.out.2 (by have := E4.out.size; omega))
      obtain ⟨b0, b1, b2, b3⟩ := (bx.grown HT.out.2 (by omega)).facts
      obtain ⟨r0, r1, r2, r3⟩ := (rs.grown HT.out.2 (by omega)).facts
      have z5 := E0.out.size
      go_wp2_with fail
      refine bodyPost_ret (v := .tuple #[.agg #[.int .i64 N, .slice (some ⟨g, 0, none⟩) len c], .bool true]) (by simp [results, Try.results17, go_sem, r0, r1]) rfl ⟨(E5.out.setCell (by show w.heap.size ≤ w.heap.size + 1; omega) _).setCell (by show w.heap.size ≤ w.heap.size + 1; omega) _, Or.inl ⟨by rw [← HLen.out] at HSA; exact HSA.out, g, c, rfl, by omega, put_far (by rw [← HE.out]; exact HT.out.1) (by omega) _ _⟩⟩
end Go.Proofs.Ytjfhjckacfkpoaa

namespace Go.Proofs.Ytjfhjckacfkpoaa

theorem sm_of {n : Nat} {l : List Int} (hl : l.length = (n + 1) * (n + 1)) (h : ∀ k, k < l.length → kmB (Zo.gt l k) = true) : Sm n l := fun a b ha hb => by
  have := h (Zo.ix n a b) (by rw [hl]; exact Zo.ix_lt ha hb)
  unfold kmB at this
  simp only [Bool.or_eq_true, Bool.and_eq_true, decide_eq_true_eq] at this
  exact this

theorem cov_digits {n : Nat} {D : Int} {l low high : List Int} {ps : List Pq} (hck : chkE n l = 0) (hS : Sm n l) (kn0 : Kn n low) (kn1 : Kn n high) (hps : ps.length = n) (hco : CoOk ps n D) (hr : rdE n (Zo.clo n (wdM n low high l)) ps = 0) (hh : hsR n (Zo.clo n (wdM n low high l)) ps = true) :
    ∃ (E : Int) (Y : Nat → Int) (f : Nat → Nat), 0 < E ∧ Y 0 = 0 ∧ (∀ i, i ≤ n → 0 ≤ Y i ∧ Y i ≤ 8589934592 * E) ∧ Zo.In n (scL D l) E Y ∧ ∀ i, i < n → CvD E (xV ps D i) (cnV (Zo.gt low i) D) (cnV (Zo.gt high i) D) (Y (i + 1)) (f i) := by
  obtain ⟨hn, hl, hrl⟩ := chk_len hck
  obtain ⟨X, hX⟩ : ∃ X : Nat → Int, X = fun i => if i = 0 then 0 else xV ps D (i - 1) := ⟨_, rfl⟩
  have X0 : X 0 = 0 := by rw [hX]; rfl
  have X1 : ∀ i, 1 ≤ i → X i = xV ps D (i - 1) := fun i h => by rw [hX]; simp only [if_neg (show ¬ i = 0 by omega)]
  have hD1 := hco.1
  have hD5 := hco.2.1
  have ov : Ov D X ps := ⟨by omega, fun i hi => by
    by_cases c : i = 0
    · subst c; rw [X0]; simp [clk]
    · rw [X1 i (by omega)]
      have := (xV_range hco (i := i - 1) (by omega)).2.2.2.2
      unfold clk
      rw [if_neg c]
      exact this.symm⟩
  have wc := wd_closed hck kn0 kn1
  have top : Zo.Top n (wdM n low high l) := ⟨wd_len hl, fun i j hi hj => by have := (wd_range hck kn0 kn1 hi hj).2; omega⟩
  have hIn := Zo.clo_complete ov.pos top ((has_in hr ov).1 hh)
  have hXr : ∀ i, i ≤ n → 0 ≤ X i ∧ X i ≤ 524288000 := fun i hi => by
    by_cases c : i = 0
    · rw [c, X0]; omega
    · rw [X1 i (by omega)]
      have := xV_range hco (i := i - 1) (by omega)
      omega
  obtain ⟨E, Y, hE, hY0, hYg, hY⟩ := cov_point hck hS hD1 hD5 kn0 kn1 X0 hXr hIn
  have hg := sc_chk hck hS hD1 hD5
  refine ⟨E, Y, fun i => if Y (i + 1) = xV ps D i * E then 0 else if Y (i + 1) < xV ps D i * E then 1 else 2, hE, hY0, fun i hi => ?_, hYg, fun i hi => ?_⟩
  · have lo : 0 ≤ Y i := by
      have m := Zo.mt_mono hE ((chk_diag hg).2 i hi) (by omega) (hYg 0 i (Nat.zero_le _) hi)
      rw [Zo.mt_one, hY0] at m
      omega
    by_cases c : i = 0
    · rw [c, hY0]
      have := Int.mul_nonneg (show (0 : Int) ≤ 8589934592 by omega) (show 0 ≤ E by omega)
      omega
    · exact ⟨lo, (hY i (by omega) hi).1⟩
  · have h := (hY (i + 1) (by omega) (by omega)).2
    rw [X1 (i + 1) (by omega)] at h
    simp only [Nat.add_sub_cancel] at h
    show CvD E (xV ps D i) (cnV (Zo.gt low i) D) (cnV (Zo.gt high i) D) (Y (i + 1)) (if Y (i + 1) = xV ps D i * E then 0 else if Y (i + 1) < xV ps D i * E then 1 else 2)
    unfold CvD
    rcases h with h | ⟨h, h'⟩ | ⟨h, h'⟩
    · left; rw [if_pos h]; exact ⟨rfl, h⟩
    · right; left
      rw [if_neg (by omega), if_pos h']
      exact ⟨rfl, h, h'⟩
    · right; right
      rw [if_neg (by omega), if_neg (by omega)]
      exact ⟨rfl, h, h'⟩
end Go.Proofs.Ytjfhjckacfkpoaa

namespace Go.Proofs.Ytjfhjckacfkpoaa
open Go.RowKit

set_option maxRecDepth 100000 in
set_option maxHeartbeats 4000000 in
theorem wlc_err (N : Int) (l k0 k1 : List Int) (ao o0 o1 : Option Addr) (cap c0 c1 : Nat) (ps : List Pq) (po : Option Addr) (pc : Nat) (w : World) (hS : Src w ao l cap) (hL : Src w o0 k0 c0) (hH : Src w o1 k1 c1) (hP : Arg2 w po ps) (hb2 : b2B l.length k0.length k1.length = false) (hN : N ≤ 4) (hp4 : ps.length ≤ 4) (he : wdE N k0 k1 l ≠ 0) :
    Calls Try.prog 5 #[.agg #[.int .i64 N, .slice ao l.length cap], .agg #[.slice o0 k0.length c0, .slice o1 k1.length c1], .slice po ps.length pc] w (Made (.bool true) w) := by
  have hl : k0.length ≤ 50 ∧ k1.length ≤ 50 ∧ l.length ≤ 200 := by have h := hb2; unfold b2B at h; simp at h; omega
  have SH := Lib.hid (fun W => shown6_any W)
  have BO := Lib.hid (show ∀ W, Below w.heap.size w W → Calls Try.prog 9 #[.agg #[.int .i64 N, .slice ao l.length cap], .slice o0 k0.length c0, .slice o1 k1.length c1] W (fun e w' => e = .returned (.tuple #[.agg #[.int .i64 0, .slice none 0 0], .int .i64 2]) ∧ Below W.heap.size W w') from fun W hb => (wbounds_gen N l ao cap k0 k1 o0 o1 c0 c1 W (hS.on hb).1 (hL.on hb).1 (hH.on hb).1 hL.2 hH.2 (by omega) (by omega)).mono fun e w' q => by have := q.no he; rwa [wdE_two he] at this)
  have CM := Lib.hid (fun W (hb : Below w.heap.size w W) => common_any ps po pc W (hP.on hb) (by omega))
  have D1 : decide ((4 : Int) < N) = false := by simp; omega
  have D2 : decide ((4 : Int) < (ps.length : Int)) = false := by simp; omega
  obtain ⟨w1, hw1⟩ : ∃ w1, w1 = (w.alloc (.cells #[.int .i64 N, .slice ao l.length cap] 24)).alloc (.cells #[.slice o0 k0.length c0, .slice o1 k1.length c1] 36) := ⟨_, rfl⟩
  obtain ⟨w0, hw0⟩ : ∃ w0, w0 = w1.alloc (.cells #[.slice o0 k0.length c0, .slice o1 k1.length c1] 25) := ⟨_, rfl⟩
  have E1 := Lib.hid (show Below w.heap.size w w1 by rw [hw1]; exact past_two (Below.refl _ _))
  have E0 := Lib.hid (show Below w.heap.size w w0 by rw [hw0]; exact E1.out.alloc E1.out.size _)
  have ZX1 : Two w1 w.heap.size (.int .i64 N) (.slice ao l.length cap) := by rw [hw1]; exact (Two.made _ _ _ _).alloc _
  have KX1 : Two w1 (w.heap.size + 1) (.slice o0 k0.length c0) (.slice o1 k1.length c1) := by
    rw [hw1]
    have := Two.made (w.alloc (.cells #[.int .i64 N, .slice ao l.length cap] 24)) (.slice o0 k0.length c0) (.slice o1 k1.length c1) 36
    simpa using this
  have z1 : w1.heap.size = w.heap.size + 2 := by rw [hw1]; simp
  have ZX := Lib.hid (show Two w0 w.heap.size (.int .i64 N) (.slice ao l.length cap) by rw [hw0]; exact ZX1.alloc _)
  have KX := Lib.hid (show Two w0 (w.heap.size + 1) (.slice o0 k0.length c0) (.slice o1 k1.length c1) by rw [hw0]; exact KX1.alloc _)
  have r0 : w0.cell? ⟨w.heap.size + 2, 0, none⟩ = some (.slice o0 k0.length c0) := by rw [hw0, ← z1]; go_simp
  have r1 : w0.cell? ⟨w.heap.size + 2, 1, none⟩ = some (.slice o1 k1.length c1) := by rw [hw0, ← z1]; go_simp
  have BE := Lib.hid (show Calls Try.prog 7 #[.agg #[.int .i64 N, .slice ao l.length cap], .slice (some ⟨w.heap.size + 2, 0, none⟩) 2 2] w0 (Made (.bool false) w0) by
    have := beyond2_any N ao o0 o1 l.length cap k0.length k1.length c0 c1 (w.heap.size + 2) w0 r0 r1
    rwa [hb2] at this)
  obtain ⟨k2, k3, k4, k5⟩ := KX1.facts
  obtain ⟨zz0, zz1, zz2, zz3⟩ := ZX1.facts
  have HW0 := Lib.hid hw0
  have HW1 := Lib.hid hw1
  have HZ1 := Lib.hid z1
  clear hw0 hw1 r0 r1 ZX1 KX1 z1
  clear hS hL hH hP hb2 hN hp4 he hl
  go_enter Try.func5, Try.ntmps5
  go_upto_region 1 with (fail)
  rw [← HW1.out]
  go_wp2_with fail
  rw [HZ1.out, ← HW0.out]
  clear k2 k3 k4 k5 zz0 zz1 zz2 zz3
  refine BE.out.mono ?_
  rintro e w2 ⟨rfl, hb⟩
  have B2 := Lib.hid (below_on E0.out hb)
  have ZX := Lib.hid (ZX.out.kept hb)
  have KX := Lib.hid (KX.out.kept hb)
  clear hb
  obtain ⟨b0, b1, b2, b3⟩ := ZX.out.facts
  obtain ⟨k2, k3, k4, k5⟩ := KX.out.facts
  go_wp2_with fail
  refine (BO.out _ B2.out).mono ?_
  rintro e w3 ⟨rfl, hb⟩
  obtain ⟨v3, hv⟩ : ∃ v3, v3 = w3.alloc (.cells #[.int .i64 0, .slice none 0 0] 24) := ⟨_, rfl⟩
  have B3 := Lib.hid (show Below w.heap.size w v3 by rw [hv]; exact (below_on B2.out hb).alloc (below_on B2.out hb).size _)
  clear hb b0 b1 b2 b3 k2 k3 k4 k5
  go_upto_region 4 with (fail)
  rw [← hv]
  clear hv
  go_wp2_with fail
  refine (CM.out _ B3.out).mono ?_
  rintro e w4 ⟨hb, r, rfl, _⟩
  have B4 := Lib.hid (below_on B3.out hb)
  clear hb
  go_wp2_with fail
  refine (SH.out _).mono ?_
  rintro e ws ⟨rfl, hbs⟩
  have BS := Lib.hid (below_on B4.out hbs)
  clear hbs
  go_wp2_with fail
  go_ret
  exact ⟨rfl, BS.out⟩

set_option maxRecDepth 100000 in
set_option maxHeartbeats 16000000 in
theorem wlc_ok (n : Nat) (l k0 k1 : List Int) (a : Addr) (o0 o1 : Option Addr) (cap c0 c1 : Nat) (ps : List Pq) (po : Option Addr) (pc : Nat) (w : World) (hR : Rd w a l) (hL : Src w o0 k0 c0) (hH : Src w o1 k1 c1) (hP : Arg2 w po ps) (hF : Fits ps) (hb2 : b2B l.length k0.length k1.length = false) (hN : (n : Int) ≤ 4) (hp4 : ps.length ≤ 4) (hc : chkE n l = 0) (kn0 : Kn n k0) (kn1 : Kn n k1) (he : wdE n k0 k1 l = 0) :
    Calls Try.prog 5 #[.agg #[.int .i64 n, .slice (some a) l.length cap], .agg #[.slice o0 k0.length c0, .slice o1 k1.length c1], .slice po ps.length pc] w (Made (.bool true) w) := by
  have hl : k0.length ≤ 50 ∧ k1.length ≤ 50 ∧ l.length ≤ 200 := by have h := hb2; unfold b2B at h; simp at h; omega
  obtain ⟨hn, hll, hrl⟩ := chk_len hc
  have hlp : 0 < l.length := by rw [hll]; exact dsq_pos n
  obtain ⟨A, hA⟩ : ∃ A, A = Zo.clo n (wdM n k0 k1 l) := ⟨_, rfl⟩
  have SH := Lib.hid (fun W => shown6_any W)
  have BO := Lib.hid (show ∀ W, Below w.heap.size w W → Calls Try.prog 9 #[.agg #[.int .i64 n, .slice (some a) l.length cap], .slice o0 k0.length c0, .slice o1 k1.length c1] W (fun e w' => ∃ g c, e = .returned (.tuple #[.agg #[.int .i64 n, .slice (some ⟨g, 0, none⟩) A.length c], .int .i64 0]) ∧ W.heap.size ≤ g ∧ Own w' g c A ∧ Below W.heap.size W w') from fun W hb => (wbounds_gen n l (some a) cap k0 k1 o0 o1 c0 c1 W (fun _ => ⟨a, rfl, hR.on hb⟩) (hL.on hb).1 (hH.on hb).1 hL.2 hH.2 (by omega) (by omega)).mono fun e w' q => by
    have := q.ok he
    rw [show Zo.clo (n : Int).toNat (wdM (n : Int).toNat k0 k1 l) = A by rw [hA]; simp] at this
    exact this)
  have CM := Lib.hid (fun W (hb : Below w.heap.size w W) => common_any ps po pc W (hP.on hb) (by omega))
  have HA := Lib.hid (fun W g c (hO : Own W g c A) (hb : Below w.heap.size w W) => has_gen n A (some ⟨g, 0, none⟩) c ps po pc W hO.arg (hP.on hb) hF)
  have SD := Lib.hid (fun W D (hb : Below w.heap.size w W) (d1 : 1 ≤ D) (d2 : D ≤ 500) => scaled_any n l a cap D W hlp (by omega) (hR.on hb) (chk_a6 hc hll) d1 d2)
  have PT := Lib.hid (show ∀ r, CoOk ps ps.length r → ps.length = n → (∀ k, k < l.length → kmB (Zo.gt l k) = true) → rdE n A ps = 0 → hsR n A ps = true → ∃ (E : Int) (Y : Nat → Int) (f : Nat → Nat), 0 < E ∧ Y 0 = 0 ∧ (∀ i, i ≤ n → 0 ≤ Y i ∧ Y i ≤ 8589934592 * E) ∧ Zo.In n (scL r l) E Y ∧ ∀ i, i < n → CvD E (xV ps r i) (cnV (Zo.gt k0 i) r) (cnV (Zo.gt k1 i) r) (Y (i + 1)) (f i) from fun r h1 h2 h3 h4 h5 => by
    rw [hA] at h4 h5
    rw [h2] at h1
    exact cov_digits hc (sm_of hll h3) kn0 kn1 h2 h1 h4 h5)
  have SC := Lib.hid (fun r (h1 : CoOk ps ps.length r) (h3 : ∀ k, k < l.length → kmB (Zo.gt l k) = true) => sc_chk hc (sm_of hll h3) h1.1 h1.2.1)
  have CV := Lib.hid (fun (W : World) (g c : Nat) (r : Int) (nn : Nat) (P : Prop) E Y f (hO : Own W g c (scL r l)) (hb : Below w.heap.size w W) (hk : chkE n (scL r l) = 0) (h1 : CoOk ps ps.length r) (h2 : ps.length = n) hnn hp => covered_any n (scL r l) ⟨g, 0, none⟩ c r k0 k1 o0 o1 c0 c1 ps po pc nn W hk hO.arg (hL.on hb).1 (hH.on hb).1 kn0 kn1 (hP.on hb) h2 (by rw [← h2]; exact h1) hnn P E Y f hp)
  have K0 := Lib.hid kn0.1
  have K1 := Lib.hid kn1.1
  have D1 : decide ((4 : Int) < (n : Int)) = false := by simp; omega
  have D2 : decide ((4 : Int) < (ps.length : Int)) = false := by simp; omega
  have n4 : n ≤ 4 := by omega
  obtain ⟨w1, hw1⟩ : ∃ w1, w1 = (w.alloc (.cells #[.int .i64 n, .slice (some a) l.length cap] 24)).alloc (.cells #[.slice o0 k0.length c0, .slice o1 k1.length c1] 36) := ⟨_, rfl⟩
  obtain ⟨w0, hw0⟩ : ∃ w0, w0 = w1.alloc (.cells #[.slice o0 k0.length c0, .slice o1 k1.length c1] 25) := ⟨_, rfl⟩
  have E1 := Lib.hid (show Below w.heap.size w w1 by rw [hw1]; exact past_two (Below.refl _ _))
  have E0 := Lib.hid (show Below w.heap.size w w0 by rw [hw0]; exact E1.out.alloc E1.out.size _)
  have ZX1 : Two w1 w.heap.size (.int .i64 n) (.slice (some a) l.length cap) := by rw [hw1]; exact (Two.made _ _ _ _).alloc _
  have KX1 : Two w1 (w.heap.size + 1) (.slice o0 k0.length c0) (.slice o1 k1.length c1) := by
    rw [hw1]
    have := Two.made (w.alloc (.cells #[.int .i64 n, .slice (some a) l.length cap] 24)) (.slice o0 k0.length c0) (.slice o1 k1.length c1) 36
    simpa using this
  have z1 : w1.heap.size = w.heap.size + 2 := by rw [hw1]; simp
  have ZX := Lib.hid (show Two w0 w.heap.size (.int .i64 n) (.slice (some a) l.length cap) by rw [hw0]; exact ZX1.alloc _)
  have KX := Lib.hid (show Two w0 (w.heap.size + 1) (.slice o0 k0.length c0) (.slice o1 k1.length c1) by rw [hw0]; exact KX1.alloc _)
  have r0 : w0.cell? ⟨w.heap.size + 2, 0, none⟩ = some (.slice o0 k0.length c0) := by rw [hw0, ← z1]; go_simp
  have r1 : w0.cell? ⟨w.heap.size + 2, 1, none⟩ = some (.slice o1 k1.length c1) := by rw [hw0, ← z1]; go_simp
  have BE := Lib.hid (show Calls Try.prog 7 #[.agg #[.int .i64 n, .slice (some a) l.length cap], .slice (some ⟨w.heap.size + 2, 0, none⟩) 2 2] w0 (Made (.bool false) w0) by
    have := beyond2_any n (some a) o0 o1 l.length cap k0.length k1.length c0 c1 (w.heap.size + 2) w0 r0 r1
    rwa [hb2] at this)
  obtain ⟨k2, k3, k4, k5⟩ := KX1.facts
  obtain ⟨zz0, zz1, zz2, zz3⟩ := ZX1.facts
  have HW0 := Lib.hid hw0
  have HW1 := Lib.hid hw1
  have HZ1 := Lib.hid z1
  clear hw0 hw1 r0 r1 ZX1 KX1 z1
  clear hR hL hH hP hF hb2 hN hp4 hc kn0 kn1 he hl hn hll hrl hlp hA
  go_enter Try.func5, Try.ntmps5
  go_upto_region 1 with (fail)
  rw [← HW1.out]
  go_wp2_with fail
  rw [HZ1.out, ← HW0.out]
  clear k2 k3 k4 k5 zz0 zz1 zz2 zz3
  refine BE.out.mono ?_
  rintro e w2 ⟨rfl, hb⟩
  have B2 := Lib.hid (below_on E0.out hb)
  have ZX := Lib.hid (ZX.out.kept hb)
  have KX := Lib.hid (KX.out.kept hb)
  clear hb
  obtain ⟨b0, b1, b2, b3⟩ := ZX.out.facts
  obtain ⟨k2, k3, k4, k5⟩ := KX.out.facts
  go_wp2_with fail
  refine (BO.out _ B2.out).mono ?_
  rintro e w3 ⟨ga, ca, rfl, _, hO, hb⟩
  obtain ⟨v3, hv⟩ : ∃ v3, v3 = w3.alloc (.cells #[.int .i64 n, .slice (some ⟨ga, 0, none⟩) A.length ca] 24) := ⟨_, rfl⟩
  have X3 := Lib.hid (show Two v3 w3.heap.size (.int .i64 n) (.slice (some ⟨ga, 0, none⟩) A.length ca) by rw [hv]; exact Two.made _ _ _ _)
  have A3 := Lib.hid (show Own v3 ga ca A by rw [hv]; exact hO.alloc _)
  have H3 := Lib.hid (show Below w2.heap.size w2 v3 by rw [hv]; exact hb.alloc hb.size _)
  have B3 := Lib.hid (below_on B2.out H3.out)
  have ZX := Lib.hid (ZX.out.kept H3.out)
  have KX := Lib.hid (KX.out.kept H3.out)
  clear hb hO b0 b1 b2 b3 k2 k3 k4 k5
  go_upto_region 4 with (fail)
  rw [← hv]
  clear hv
  go_wp2_with fail
  refine (CM.out _ B3.out).mono ?_
  rintro e w4 ⟨hb, r, rfl, hr⟩
  have B4 := Lib.hid (below_on B3.out hb)
  have ZX := Lib.hid (ZX.out.kept hb)
  have KX := Lib.hid (KX.out.kept hb)
  have X3 := Lib.hid (X3.out.kept hb)
  have A3 := Lib.hid (own_below A3.out hb)
  clear hb
  obtain ⟨b0, b1, b2, b3⟩ := ZX.out.facts
  obtain ⟨k2, k3, k4, k5⟩ := KX.out.facts
  by_cases hr0 : r = 0
  · have D3 : (r == 0) = true := by simpa using hr0
    clear hr hr0
    go_wp2_with fail
    refine (SH.out _).mono ?_
    rintro e ws ⟨rfl, hbs⟩
    have BS := Lib.hid (below_on B4.out hbs)
    clear hbs
    go_wp2_with fail
    go_ret
    exact ⟨rfl, BS.out⟩
  have D3 : (r == 0) = false := by simpa using hr0
  have CO := Lib.hid (hr.resolve_left hr0)
  clear hr hr0
  by_cases hpn : ps.length = n
  case neg =>
    have D4 : ((ps.length : Int) != (n : Int)) = true := by simp; omega
    go_wp2_with fail
    refine (SH.out _).mono ?_
    rintro e ws ⟨rfl, hbs⟩
    have BS := Lib.hid (below_on B4.out hbs)
    clear hbs
    go_wp2_with fail
    go_ret
    exact ⟨rfl, BS.out⟩
  have D4 : ((ps.length : Int) != (n : Int)) = false := by simp; omega
  have D5 : ((k0.length : Int) != (n : Int)) = false := by have := K0.out; simp; omega
  have D6 : ((k1.length : Int) != (n : Int)) = false := by have := K1.out; simp; omega
  have HPN := Lib.hid hpn
  clear hpn
  obtain ⟨x0, x1, x2, x3⟩ := X3.out.facts
  have HB := Lib.hid (HA.out w4 ga ca A3.out B4.out)
  obtain ⟨hs, hhs⟩ : ∃ b, b = hsR n A ps := ⟨_, rfl⟩
  obtain ⟨rd, hrd⟩ : ∃ b, b = rdE n A ps := ⟨_, rfl⟩
  rw [← hhs, ← hrd] at HB
  have HHS := Lib.hid hhs
  have HRD := Lib.hid hrd
  clear hhs hrd
  go_wp2_with fail
  refine HB.out.mono ?_
  rintro e w5 ⟨rfl, hb⟩
  have B5 := Lib.hid (below_on B4.out hb)
  have ZX := Lib.hid (ZX.out.kept hb)
  have KX := Lib.hid (KX.out.kept hb)
  clear hb HB b0 b1 b2 b3 k2 k3 k4 k5 x0 x1 x2 x3 X3 A3 D3 D4 D5 D6
  obtain ⟨b0, b1, b2, b3⟩ := ZX.out.facts
  go_wp2_with fail
  refine (SD.out _ _ B5.out CO.out.1 CO.out.2.1).mono ?_
  rintro e w6 ⟨hb, ⟨hkm, gs, cs, rfl, _, hOs⟩ | rfl⟩
  case inr =>
    have B6 := Lib.hid (show Below w.heap.size w (w6.alloc (.cells #[.int .i64 0, .slice none 0 0] 24)) from (below_on B5.out hb).alloc (below_on B5.out hb).size _)
    clear hb b0 b1 b2 b3
    by_cases hd : rd = 0
    · have D7 : (rd != 0) = false := by simpa using hd
      clear hd
      go_wp2_with fail
      refine (SH.out _).mono ?_
      rintro e ws ⟨rfl, hbs⟩
      have BS := Lib.hid (below_on B6.out hbs)
      clear hbs
      go_wp2_with fail
      go_ret
      exact ⟨rfl, BS.out⟩
    · have D7 : (rd != 0) = true := by simpa using hd
      clear hd
      go_wp2_with fail
      refine (SH.out _).mono ?_
      rintro e ws ⟨rfl, hbs⟩
      have BS := Lib.hid (below_on B6.out hbs)
      clear hbs
      go_wp2_with fail
      go_ret
      exact ⟨rfl, BS.out⟩
  case inl =>
    obtain ⟨v6, hv⟩ : ∃ v6, v6 = w6.alloc (.cells #[.int .i64 n, .slice (some ⟨gs, 0, none⟩) l.length cs] 24) := ⟨_, rfl⟩
    have X6 := Lib.hid (show Two v6 w6.heap.size (.int .i64 n) (.slice (some ⟨gs, 0, none⟩) l.length cs) by rw [hv]; exact Two.made _ _ _ _)
    have A6' := Lib.hid (show Own v6 gs cs (scL r l) by rw [hv]; exact hOs.alloc _)
    have H6 := Lib.hid (show Below w5.heap.size w5 v6 by rw [hv]; exact hb.alloc hb.size _)
    have B6 := Lib.hid (below_on B5.out H6.out)
    have ZX := Lib.hid (ZX.out.kept H6.out)
    have KX := Lib.hid (KX.out.kept H6.out)
    have HKM := Lib.hid hkm
    clear hb hOs b0 b1 b2 b3 hkm
    go_upto_region 9 with (fail)
    rw [← hv]
    clear hv
    by_cases hd : rd = 0
    case neg =>
      have D7 : (rd != 0) = true := by simpa using hd
      clear hd
      go_wp2_with fail
      refine (SH.out _).mono ?_
      rintro e ws ⟨rfl, hbs⟩
      have BS := Lib.hid (below_on B6.out hbs)
      clear hbs
      go_wp2_with fail
      go_ret
      exact ⟨rfl, BS.out⟩
    have D7 : (rd != 0) = false := by simpa using hd
    have HD0 := Lib.hid hd
    clear hd
    cases hs
    case false =>
      go_wp2_with fail
      refine (SH.out _).mono ?_
      rintro e ws ⟨rfl, hbs⟩
      have BS := Lib.hid (below_on B6.out hbs)
      clear hbs
      go_wp2_with fail
      go_ret
      exact ⟨rfl, BS.out⟩
    case true =>
      obtain ⟨E, Y, f, p1, p2, p3, p4, p5⟩ := PT.out r CO.out HPN.out HKM.out (by rw [← HRD.out]; exact HD0.out) HHS.out.symm
      have HK := Lib.hid (SC.out r CO.out HKM.out)
      have F3 := Lib.hid (show ∀ i, i < n → f i < 3 from fun i hi => by have := p5 i hi; unfold CvD at this; omega)
      have NL := Lib.hid (num3_lt n f F3.out)
      have PP := Lib.hid (show ∀ nn : Nat, (nn = num3 n f) → 0 < E ∧ Y 0 = 0 ∧ (∀ i, i ≤ n → 0 ≤ Y i ∧ Y i ≤ 8589934592 * E) ∧ Zo.In n (scL r l) E Y ∧ nn = num3 n f ∧ ∀ i, i < n → CvD E (xV ps r i) (cnV (Zo.gt k0 i) r) (cnV (Zo.gt k1 i) r) (Y (i + 1)) (f i) from fun nn h => ⟨p1, p2, p3, p4, h, p5⟩)
      have P81 := Lib.hid (show 3 ^ n ≤ 81 from Nat.le_trans (Nat.pow_le_pow_right (by omega) n4) (by decide))
      clear p1 p2 p3 p4 p5
      go_wp2_with fail
      go_loopw [15, 14] (fun s q wr => ∃ (t c : Nat), s = .int .i64 t ∧ q = .int .i64 c ∧ t ≤ n ∧ c ≤ 81 ∧ Hid (c = 3 ^ t) ∧ Hid (wr = v6)) (fun s _ _ => n - (intOf s).toNat)
      case atStart => exact ⟨0, 1, rfl, rfl, by omega, by omega, Lib.hid rfl, Lib.hid rfl⟩
      case round =>
        obtain ⟨t, c, rfl, rfl, ht, hc81, HC, HW⟩ := hrel
        have hw := HW.out
        subst hw
        obtain ⟨b0, b1, b2, b3⟩ := ZX.out.facts
        by_cases htn : t < n
        · have c3 : 3 * c ≤ 81 := by
            have h1 : c = 3 ^ t := HC.out
            have h2 : 3 ^ (t + 1) ≤ 3 ^ n := Nat.pow_le_pow_right (by omega) (by omega)
            have h3 := P81.out
            rw [Nat.pow_succ] at h2
            omega
          go_wp2_with fail
          go_roundw
          case rel => exact ⟨t + 1, 3 * c, by go_num, by go_num, by omega, c3, Lib.hid (by rw [Nat.pow_succ, HC.out]; omega), Lib.hid (by first | rfl | trivial)⟩
          case measure => simp [intOf]; omega
        · have HCN := Lib.hid (show c = 3 ^ n by rw [HC.out, show t = n by omega])
          go_wp2_with fail
          clear b0 b1 b2 b3
          generalize wr = v7 at *
          go_loopw [16] (fun s wr => ∃ m : Nat, s = .int .i64 m ∧ m ≤ 81 ∧ Hid (m ≤ num3 n f) ∧ Hid (Below v7.heap.size v7 wr)) (fun s _ => 82 - (intOf s).toNat)
          case atStart => exact ⟨0, rfl, by omega, Lib.hid (Nat.zero_le _), Lib.hid (Below.refl _ _)⟩
          case round =>
            obtain ⟨m, rfl, hm, HLE, HBL⟩ := hrel
            by_cases hmc : m < c
            · have BW := Lib.hid (below_on B6.out HBL.out)
              have CX := Lib.hid (CV.out wr gs cs r m (m = num3 n f) E Y f (own_below A6'.out HBL.out) BW.out HK.out CO.out HPN.out (by omega) (PP.out m))
              rw [scL_len] at CX
              obtain ⟨x0, x1, x2, x3⟩ := (X6.out.kept HBL.out).facts
              obtain ⟨k2, k3, k4, k5⟩ := (KX.out.kept HBL.out).facts
              go_wp2_with fail
              refine CX.out.mono ?_
              rintro e w8 ⟨hb, bb, rfl, hP⟩
              have B8 := Lib.hid (below_on BW.out hb)
              have H8 := Lib.hid (below_on HBL.out hb)
              have HPX := Lib.hid hP
              clear hb hP x0 x1 x2 x3 k2 k3 k4 k5 CX
              cases bb
              · go_wp2_with fail
                go_roundw
                case rel => exact ⟨m + 1, by go_num, by omega, Lib.hid (by
                  have h1 := HLE.out
                  rcases Nat.lt_or_ge m (num3 n f) with h | h
                  · omega
                  · exact absurd (HPX.out (by omega)) (by simp)), H8⟩
                case measure => simp [intOf]; omega
              · go_wp2_with fail
                refine (SH.out _).mono ?_
                rintro e ws ⟨rfl, hbs⟩
                have BS := Lib.hid (below_on B8.out hbs)
                clear hbs
                go_wp2_with fail
                go_ret
                exact ⟨rfl, BS.out⟩
            · exfalso
              have h1 := HLE.out
              have h2 := NL.out
              have h3 := HCN.out
              omega

theorem widencovers_any (N : Int) (l k0 k1 : List Int) (ao o0 o1 : Option Addr) (cap c0 c1 : Nat) (ps : List Pq) (po : Option Addr) (pc : Nat) (w : World) (hA : Arg w ao l) (h0 : Arg w o0 k0) (h1 : Arg w o1 k1) (n1 : ao = none → l = [] ∧ cap = 0) (n2 : o0 = none → k0 = [] ∧ c0 = 0) (n3 : o1 = none → k1 = [] ∧ c1 = 0) (hP : Arg2 w po ps) (hF : Fits ps) :
    Calls Try.prog 5 #[.agg #[.int .i64 N, .slice ao l.length cap], .agg #[.slice o0 k0.length c0, .slice o1 k1.length c1], .slice po ps.length pc] w (Made (.bool true) w) := by
  cases hb : b2B l.length k0.length k1.length
  · by_cases hN : 4 < N
    · exact wlc_many N l k0 k1 ao o0 o1 cap c0 c1 ps po pc w hb (Or.inl hN)
    by_cases hp : 4 < ps.length
    · exact wlc_many N l k0 k1 ao o0 o1 cap c0 c1 ps po pc w hb (Or.inr hp)
    by_cases he : wdE N k0 k1 l = 0
    · obtain ⟨q1, q2, q3⟩ := wdE_ok he
      obtain ⟨n, rfl, _, _, hne⟩ := chk_ok q1
      obtain ⟨a, rfl, hR⟩ := hA hne
      exact wlc_ok n l k0 k1 a o0 o1 cap c0 c1 ps po pc w hR ⟨h0, n2⟩ ⟨h1, n3⟩ hP hF hb (by omega) (by omega) q1 (ksB_kn q2) (ksB_kn q3) he
    · exact wlc_err N l k0 k1 ao o0 o1 cap c0 c1 ps po pc w ⟨hA, n1⟩ ⟨h0, n2⟩ ⟨h1, n3⟩ hP hb (by omega) (by omega) he
  · exact wlc_long N l k0 k1 ao o0 o1 cap c0 c1 ps po pc w hb
end Go.Proofs.Ytjfhjckacfkpoaa

namespace Go.Proofs.Ytjfhjckacfkpoaa
open Go.ChangeShapes Go.WideShapes Go.ChangeAt Go.RowKit Go.Joins Go.Deep

theorem Try.cells48 : Try.prog.cellsOf 48 = 2 := by kernel_rfl

theorem Try.cells25 : Try.prog.cellsOf 25 = 1 := by kernel_rfl

theorem Try.cells36 : Try.prog.cellsOf 36 = 2 := by kernel_rfl

set_option maxRecDepth 100000 in
/-- A struct of two integers. -/
theorem trod_rat {H : Type} {enc : TypeId × Value → H} {W : World} {base fuel : Nat} {sp : Nat → Bool} {held : Bool} {cs : List Value} {y : DataW H × List MemPlace}
    (h : DataW.trod enc Try.prog W base sp held fuel 48 cs = some y) : ∃ i j : Int, cs = [.int .i64 i, .int .i64 j] ∧ I64 i ∧ I64 j := by
  obtain ⟨xs, n, _, _, hl, hx, hf⟩ := DataW.trod_struct Try.underlying48 h
  rw [Try.cells48] at hl
  match cs, hl with
  | [a, b], _ =>
    have g0 := hf 0 _ rfl
    have g1 := hf 1 _ rfl
    match xs, hx with
    | [y0, y1], _ =>
      simp [Try.cells2] at g0 g1
      obtain ⟨i, e0, _, w0⟩ := DataW.trod_int Try.underlying2 g0
      obtain ⟨j, e1, _, w1⟩ := DataW.trod_int Try.underlying2 g1
      simp at e0 e1
      exact ⟨i, j, by rw [e0, e1], wf_i64 w0, wf_i64 w1⟩

/-- A slice of ratios. -/
theorem open_rats {H : Type} {enc : TypeId × Value → H} {W : World} {base fuel : Nat} {sp : Nat → Bool} {held : Bool} {c : Value} {y : DataW H × List MemPlace}
    (h : DataW.trod enc Try.prog W base sp held fuel 37 [c] = some y) :
    ∃ (ao : Option Addr) (ps : List Pq) (cap : Nat), c = .slice ao ps.length cap ∧ Arg2 W ao ps ∧ ps.length ≤ maxLen ∧ Fits ps ∧ (ao = none → ps = [] ∧ cap = 0) := by
  rcases open_slice Try.underlying37 h with ⟨e, _⟩ | ⟨a, len, cap, m, n, D, Pl, e, _, hl, hm, hmm, _, hi⟩
  · simp at e
    exact ⟨none, [], 0, by simpa using e, fun q => absurd rfl q, by simp, fun k hk => by simp at hk, fun _ => ⟨rfl, rfl⟩⟩
  · simp at e
    have hlen : len ≤ m := by rw [hmm]; split <;> omega
    have key : ∀ i, i < len → ∃ q : Pq, (W.cell? (a.add (i * 2)) = some (.int .i64 q.1) ∧ W.cell? ⟨(a.add (i * 2)).block, (a.add (i * 2)).off + 1, none⟩ = some (.int .i64 q.2)) ∧ I64 q.1 ∧ I64 q.2 := fun i hil => by
      obtain ⟨cs', hc, ht⟩ := hi i (by omega)
      rw [Try.cells48] at hc
      obtain ⟨x, y, rfl, w0, w1⟩ := trod_rat ht
      obtain ⟨_, hcl, hat⟩ := World.cells?_some hc
      have c0 := hat 0 (by simp)
      have c1 := hat 1 (by simp)
      rw [add_two _ _ _ (by omega)] at c1
      rw [show (a.add (i * 2)).add 0 = a.add (i * 2) by simp [Addr.add]] at c0
      exact ⟨(x, y), ⟨by simpa using c0, by simpa using c1⟩, w0, w1⟩
    obtain ⟨F, hF⟩ : ∃ F : Nat → Pq, ∀ i, i < len → (W.cell? (a.add (i * 2)) = some (.int .i64 (F i).1) ∧ W.cell? ⟨(a.add (i * 2)).block, (a.add (i * 2)).off + 1, none⟩ = some (.int .i64 (F i).2)) ∧ I64 (F i).1 ∧ I64 (F i).2 := by
      refine ⟨fun i => if h : i < len then (key i h).choose else (0, 0), fun i hil => ?_⟩
      simp only [dif_pos hil]
      exact (key i hil).choose_spec
    have hg : ∀ i, i < len → gp ((List.range len).map F) i = F i := fun i hil => by simp [gp, hil]
    refine ⟨some a, (List.range len).map F, cap, by rw [e]; simp, fun _ => ⟨a, rfl, fun j hj => ?_⟩, by simp; omega, fun k hk => ?_, fun q => by cases q⟩
    · simp at hj
      rw [hg j hj]
      exact (hF j hj).1
    · simp at hk
      rw [hg k hk]
      exact (hF k hk).2

set_option maxRecDepth 100000 in
theorem open_rats_arg {H : Type} {enc : TypeId × Value → H} {W : World} {base : Nat} {sp : Nat → Bool} {held : Bool} {r : Reach} {b0 : Nat} {v : Value} {d : DataW H} {p : List MemPlace}
    (hv : Value.okWide Try.prog W r b0 37 v) (h : DataW.Trod enc Try.prog W base sp held 37 v d p) :
    ∃ (ao : Option Addr) (ps : List Pq) (cap : Nat), v = .slice ao ps.length cap ∧ Arg2 W ao ps ∧ ps.length ≤ maxLen ∧ Fits ps ∧ (ao = none → ps = [] ∧ cap = 0) := by
  obtain ⟨n, hn⟩ := trod_slice1 Try.underlying37 hv h
  exact open_rats hn

set_option maxRecDepth 100000 in
/-- An array of two lists of constants. -/
theorem open_two_arg {H : Type} {enc : TypeId × Value → H} {W : World} {base : Nat} {sp : Nat → Bool} {held : Bool} {r : Reach} {b0 : Nat} {v : Value} {d : DataW H} {p : List MemPlace}
    (hv : Value.okWide Try.prog W r b0 36 v) (h : DataW.Trod enc Try.prog W base sp held 36 v d p) :
    ∃ (ao bo : Option Addr) (l m : List Int) (ca cb : Nat), v = .agg #[.slice ao l.length ca, .slice bo m.length cb] ∧ Arg W ao l ∧ Arg W bo m ∧ (ao = none → l = [] ∧ ca = 0) ∧ (bo = none → m = [] ∧ cb = 0) := by
  simp only [Value.okWide, Try.underlying36] at hv
  obtain ⟨cs, rfl, hsz, _⟩ := hv
  obtain ⟨c0, c1, rfl⟩ : ∃ c0 c1, cs = #[c0, c1] := by
    have hs := hsz.trans Try.cells36
    match cs, hs with
    | ⟨[c0, c1]⟩, _ => exact ⟨c0, c1, rfl⟩
  obtain ⟨fuel, hf⟩ := h
  cases fuel with
  | zero => simp [DataW.trod] at hf
  | succ n =>
    have hf' : DataW.trod enc Try.prog W base sp held (n + 1) 36 [c0, c1] = some (d, p) := by simpa [Value.cells] using hf
    unfold DataW.trod at hf'
    rw [Try.underlying36] at hf'
    have r2 : List.range 2 = [0, 1] := rfl
    simp [r2, Try.cells25, Try.cells36] at hf'
    cases h0 : DataW.trod enc Try.prog W base sp held n 25 [c0] with
    | none => simp [h0] at hf'
    | some y0 =>
      cases h1 : DataW.trod enc Try.prog W base sp held n 25 [c1] with
      | none => simp [h0, h1] at hf'
      | some y1 =>
        obtain ⟨ao, l, ca, e0, hA, _, hn, _⟩ := open_consts2 h0
        obtain ⟨bo, m, cb, e1, hB, _, hm, _⟩ := open_consts2 h1
        exact ⟨ao, bo, l, m, ca, cb, by rw [e0, e1], hA, hB, hn, hm⟩
end Go.Proofs.Ytjfhjckacfkpoaa
