/- Plain mathematics: the constraints by which a valuation covers a point.; Layer 6's law: scaled.; Plain mathematics: the case of each clock in which a point is covered.; Plain mathematics: a point of a zone widened by one row of constants has a point of the zone in its region.; Plain mathematics: the whole number and the fraction of a clock's value, over one denominator.; Contracts of layer 4's small functions: at, areBound, and of the reference's at, bound.; Contracts of layer 4's isPlain and isSum.; Contracts of layer 4's reference: First, next.; The contract of layer 4's reference: kept.; The contract of layer 4's reference: Reduce; lists of constraints that a call has made.; Layer 6's law: order.; WidenAlike: what the reference's And answers to the region's constraints.; WidenAlike: the early ends.; WidenAlike: the loops.; WidenAlike, for whatever arguments. -/
import Derived.Test.YtgdcclldgfcilaaHw6
import Derived.Test.YtgdcclldgfcilaaHw5
import Derived.Test.YtgdcclldgfcilaaHw3
import Derived.Test.YtgdcclldgfcilaaHw2
import Derived.Test.YtgdcclldgfcilaaHw4
import Derived.BigQuiet

namespace Go.Proofs.Ytgdcclldgfcilaa

def cvL (i d : Nat) (x lo : Int) : List Con := if d = 0 then [((i : Int) + 1, 0, 2 * x + 1), (0, (i : Int) + 1, -2 * x + 1)] else if d = 1 then [((i : Int) + 1, 0, 2 * x), (0, (i : Int) + 1, -2 * lo)] else [(0, (i : Int) + 1, -2 * x)]

theorem cvL_ok {n i d : Nat} {x lo : Int} (hi : i < n) (h1 : 0 ≤ x) (h2 : x ≤ 524288000) (h3 : -1 ≤ lo) (h4 : lo ≤ 524288000) : ∀ c ∈ cvL i d x lo, okC n c = true := by
  intro c hc
  unfold cvL at hc
  have k : ∀ {a b l : Int}, 0 ≤ a → a ≤ n → 0 ≤ b → b ≤ n → -2147483648 ≤ l → l ≤ 2147483649 → okC n (a, b, l) = true := fun p q r s t u => by unfold okC lvB; simp; omega
  split at hc
  · simp only [List.mem_cons, List.not_mem_nil, or_false] at hc
    rcases hc with rfl | rfl <;> exact k (by omega) (by omega) (by omega) (by omega) (by omega) (by omega)
  · split at hc
    · simp only [List.mem_cons, List.not_mem_nil, or_false] at hc
      rcases hc with rfl | rfl <;> exact k (by omega) (by omega) (by omega) (by omega) (by omega) (by omega)
    · simp only [List.mem_cons, List.not_mem_nil, or_false] at hc
      subst hc
      exact k (by omega) (by omega) (by omega) (by omega) (by omega) (by omega)

/-- The case of a clock. -/
def CvD (E x lo hi y : Int) (d : Nat) : Prop := (d = 0 ∧ y = x * E) ∨ (d = 1 ∧ lo * E < y ∧ y < x * E) ∨ (d = 2 ∧ hi < x ∧ x * E < y)

theorem cvL_met {E x lo hi : Int} {Y : Nat → Int} {i d : Nat} (h0 : Y 0 = 0) (h : CvD E x lo hi (Y (i + 1)) d) : ∀ c ∈ cvL i d x lo, Zo.mt E (Y c.1.toNat - Y c.2.1.toNat) c.2.2 := by
  intro c hc
  have t1 : ((i : Int) + 1).toNat = i + 1 := by omega
  have e1 : (2 * x + 1) / 2 = x := by omega
  have e2 : (-2 * x + 1) / 2 = -x := by omega
  have e3 : 2 * x / 2 = x := by omega
  have e4 : -2 * lo / 2 = -lo := by omega
  have e5 : -2 * x / 2 = -x := by omega
  have n1 : -x * E = -(x * E) := Int.neg_mul _ _
  have n2 : -lo * E = -(lo * E) := Int.neg_mul _ _
  unfold cvL at hc
  rcases h with ⟨hd, h⟩ | ⟨hd, h, h'⟩ | ⟨hd, h, h'⟩
  · rw [if_pos hd] at hc
    simp only [List.mem_cons, List.not_mem_nil, or_false] at hc
    rcases hc with rfl | rfl
    · simp only [t1, Int.toNat_zero, h0]; right; right; rw [e1]; omega
    · simp only [t1, Int.toNat_zero, h0]; right; right; rw [e2, n1]; omega
  · rw [if_neg (by omega), if_pos hd] at hc
    simp only [List.mem_cons, List.not_mem_nil, or_false] at hc
    rcases hc with rfl | rfl
    · simp only [t1, Int.toNat_zero, h0]; right; left; rw [e3]; omega
    · simp only [t1, Int.toNat_zero, h0]; right; left; rw [e4, n2]; omega
  · rw [if_neg (by omega), if_neg (by omega)] at hc
    simp only [List.mem_cons, List.not_mem_nil, or_false] at hc
    subst hc
    simp only [t1, Int.toNat_zero, h0]; right; left; rw [e5, n1]; omega

theorem gc_mem {cs : List Con} {t : Nat} (h : t < cs.length) : gc cs t ∈ cs := by unfold gc; rw [List.getD_eq_getElem?_getD, List.getElem?_eq_getElem h]; exact List.getElem_mem h

/-- Constraints that a point of the zone meets leave something. -/
theorem an_full {n : Nat} {g : List Int} {cs : List Con} {E : Int} {Y : Nat → Int} (hc : chkE n g = 0) (hE : 0 < E) (hY0 : Y 0 = 0) (hY : ∀ i, i ≤ n → 0 ≤ Y i ∧ Y i ≤ 8589934592 * E) (hIn : Zo.In n g E Y) (hok : ∀ c ∈ cs, okC n c = true)
    (hm : ∀ c ∈ cs, Zo.mt E (Y c.1.toNat - Y c.2.1.toNat) c.2.2) : anG n cs g = 0 ∨ anG n cs g = 7 := by
  obtain ⟨hn, hl, hr⟩ := chk_len hc
  have ok' : ∀ t, t < cs.length → okC n (gc cs t) = true := fun t ht => hok _ (gc_mem ht)
  have hp : Zo.Pt n E Y 8589934592 := ⟨hE, hY0, fun i hi => (hY i hi).1, fun i hi => (hY i hi).2⟩
  have top : Zo.Top n (anL n cs g) := ⟨by rw [anL_len, hl], fun i j hi hj => Int.le_trans (an_le ok' hl cs.length (Nat.le_refl _) i j hi hj) ((chk_top hc).2 i j hi hj)⟩
  have hB := clo_full hp (by omega) top ((an_in hE (chk_top hc) ok').2 ⟨hIn, fun t ht => hm _ (gc_mem ht)⟩)
  rw [show anG (n : Int) cs g = cloE n (anL n cs g) from by
    unfold anG; rw [if_pos hc]; exact anE_ok ok']
  unfold cloE
  rw [hB]
  simp only [Bool.false_eq_true, if_false]
  split
  · left; rfl
  · right; rfl
end Go.Proofs.Ytgdcclldgfcilaa

namespace Go.Proofs.Ytgdcclldgfcilaa
open Go.RowKit

/-- Is a constant small? -/
def kmB (x : Int) : Bool := decide (x = 1099511627776) || (decide (-1048576 ≤ x / 2) && decide (x / 2 ≤ 1048576))

def scS (D : Int) (x : List Int) (t : Nat) : List Int := x.set t (scE D (Zo.gt x t))

theorem gt_scL (D : Int) (l : List Int) {k : Nat} (h : k < l.length) : Zo.gt (scL D l) k = scE D (Zo.gt l k) := by simp [Zo.gt, scL, h]
end Go.Proofs.Ytgdcclldgfcilaa

namespace Go.Proofs.Ytgdcclldgfcilaa

theorem sm_of {n : Nat} {l : List Int} (hl : l.length = (n + 1) * (n + 1)) (h : ∀ k, k < l.length → kmB (Zo.gt l k) = true) : Sm n l := fun a b ha hb => by
  have := h (Zo.ix n a b) (by rw [hl]; exact Zo.ix_lt ha hb)
  unfold kmB at this
  simp only [Bool.or_eq_true, Bool.and_eq_true, decide_eq_true_eq] at this
  exact this

theorem cov_digits {n : Nat} {D : Int} {l low high : List Int} {ps : List Pq} (hck : chkE n l = 0) (hS : Sm n l) (kn0 : Kn n low) (kn1 : Kn n high) (hps : ps.length = n) (hco : CoOk ps n D) (hr : rdE n (Zo.clo n (wdM n low high l)) ps = 0) (hh : hsR n (Zo.clo n (wdM n low high l)) ps = true) :
    ∃ (E : Int) (Y : Nat → Int) (f : Nat → Nat), 0 < E ∧ Y 0 = 0 ∧ (∀ i, i ≤ n → 0 ≤ Y i ∧ Y i ≤ 8589934592 * E) ∧ Zo.In n (scL D l) E Y ∧ ∀ i, i < n → CvD E (xV ps D i) (cnV (Zo.gt low i) D) (cnV (Zo.gt high i) D) (Y (i + 1)) (f i) := by
  obtain ⟨hn, hl, hrl⟩ := chk_len hck
  obtain ⟨X, hX⟩ : ∃ X : Nat → Int, X = fun i => if i = 0 then 0 else xV ps D (i - 1) := ⟨_, rfl⟩
  have X0 : X 0 = 0 := by rw [hX]; rfl
  have X1 : ∀ i, 1 ≤ i → X i = xV ps D (i - 1) := fun i h => by rw [hX]; simp only [if_neg (show ¬ i = 0 by omega)]
  have hD1 := hco.1
  have hD5 := hco.2.1
  have ov : Ov D X ps := ⟨by omega, fun i hi => by
    by_cases c : i = 0
    · subst c; rw [X0]; simp [clk]
    · rw [X1 i (by omega)]
      have := (xV_range hco (i := i - 1) (by omega)).2.2.2.2
      unfold clk
      rw [if_neg c]
      exact this.symm⟩
  have wc := wd_closed hck kn0 kn1
  have top : Zo.Top n (wdM n low high l) := ⟨wd_len hl, fun i j hi hj => by have := (wd_range hck kn0 kn1 hi hj).2; omega⟩
  have hIn := Zo.clo_complete ov.pos top ((has_in hr ov).1 hh)
  have hXr : ∀ i, i ≤ n → 0 ≤ X i ∧ X i ≤ 524288000 := fun i hi => by
    by_cases c : i = 0
    · rw [c, X0]; omega
    · rw [X1 i (by omega)]
      have := xV_range hco (i := i - 1) (by omega)
      omega
  obtain ⟨E, Y, hE, hY0, hYg, hY⟩ := cov_point hck hS hD1 hD5 kn0 kn1 X0 hXr hIn
  have hg := sc_chk hck hS hD1 hD5
  refine ⟨E, Y, fun i => if Y (i + 1) = xV ps D i * E then 0 else if Y (i + 1) < xV ps D i * E then 1 else 2, hE, hY0, fun i hi => ?_, hYg, fun i hi => ?_⟩
  · have lo : 0 ≤ Y i := by
      have m := Zo.mt_mono hE ((chk_diag hg).2 i hi) (by omega) (hYg 0 i (Nat.zero_le _) hi)
      rw [Zo.mt_one, hY0] at m
      omega
    by_cases c : i = 0
    · rw [c, hY0]
      have := Int.mul_nonneg (show (0 : Int) ≤ 8589934592 by omega) (show 0 ≤ E by omega)
      omega
    · exact ⟨lo, (hY i (by omega) hi).1⟩
  · have h := (hY (i + 1) (by omega) (by omega)).2
    rw [X1 (i + 1) (by omega)] at h
    simp only [Nat.add_sub_cancel] at h
    show CvD E (xV ps D i) (cnV (Zo.gt low i) D) (cnV (Zo.gt high i) D) (Y (i + 1)) (if Y (i + 1) = xV ps D i * E then 0 else if Y (i + 1) < xV ps D i * E then 1 else 2)
    unfold CvD
    rcases h with h | ⟨h, h'⟩ | ⟨h, h'⟩
    · left; rw [if_pos h]; exact ⟨rfl, h⟩
    · right; left
      rw [if_neg (by omega), if_pos h']
      exact ⟨rfl, h, h'⟩
    · right; right
      rw [if_neg (by omega), if_neg (by omega)]
      exact ⟨rfl, h, h'⟩
end Go.Proofs.Ytgdcclldgfcilaa

namespace Go.Proofs.Ytgdcclldgfcilaa

/-- The least limit that a number q / D meets. -/
def cd (D q : Int) : Int := if q % D = 0 then 2 * (q / D) + 1 else 2 * (q / D) + 2

theorem lt_of_mul {a b D : Int} (h : a * D < b * D) (hD : 0 < D) : a < b := by
  rcases Int.lt_or_le a b with q | q
  · exact q
  · have := mul_le' q hD; omega

theorem cd_parts (D q : Int) (hD : 0 < D) : q = q / D * D + q % D ∧ 0 ≤ q % D ∧ q % D < D :=
  ⟨by have := Int.mul_ediv_add_emod q D; rw [Int.mul_comm] at this; omega, Int.emod_nonneg q (by omega), Int.emod_lt_of_pos q hD⟩

theorem cd_le {D q c : Int} (hD : 0 < D) (h : (c % 2 = 0 ∧ q < c / 2 * D) ∨ (¬ c % 2 = 0 ∧ q ≤ c / 2 * D)) : cd D q ≤ c := by
  obtain ⟨e, r0, r1⟩ := cd_parts D q hD
  unfold cd
  generalize q / D = f at *
  generalize q % D = r at *
  rcases h with ⟨p, h⟩ | ⟨p, h⟩
  · have : f < c / 2 := lt_of_mul (D := D) (by omega) hD
    split <;> omega
  · by_cases z : r = 0
    · rw [if_pos z]
      have : f ≤ c / 2 := of_mul_le (D := D) (by omega) hD
      omega
    · rw [if_neg z]
      have : f < c / 2 := lt_of_mul (D := D) (by omega) hD
      omega

theorem cd_met {D q : Int} (hD : 0 < D) : Zo.ml D q (some (cd D q)) := by
  obtain ⟨e, r0, r1⟩ := cd_parts D q hD
  rw [Zo.ml_some]
  unfold cd
  generalize q / D = f at *
  generalize q % D = r at *
  by_cases z : r = 0
  · rw [if_pos z, show (2 * f + 1) / 2 = f by omega]; omega
  · rw [if_neg z, show (2 * f + 2) / 2 = f + 1 by omega, Int.add_mul, Int.one_mul]; omega

theorem cd_lm {D q : Int} {x : Zo.Lm} (hD : 0 < D) (h : Zo.ml D q x) : Zo.le (some (cd D q)) x := by
  cases x with
  | none => exact Zo.le_none _
  | some c => exact cd_le hD (Zo.ml_some.1 h)

theorem cd_sum {D p q : Int} (hD : 0 < D) : Zo.le (some (cd D (p + q))) (Zo.add (some (cd D p)) (some (cd D q))) :=
  cd_lm hD (Zo.ml_add (cd_met hD) (cd_met hD))

theorem cd_zero {D : Int} : cd D 0 = 1 := by unfold cd; simp

theorem cd_range {D q a b : Int} (hD : 0 < D) (h1 : a * D ≤ q) (h2 : q ≤ b * D) : 2 * a + 1 ≤ cd D q ∧ cd D q ≤ 2 * b + 1 := by
  refine ⟨?_, cd_le hD (Or.inr ⟨by omega, by rw [show (2 * b + 1) / 2 = b by omega]; exact h2⟩)⟩
  obtain ⟨e, r0, r1⟩ := cd_parts D q hD
  have : a ≤ q / D := by
    have : a < q / D + 1 := lt_of_mul (D := D) (by rw [Int.add_mul, Int.one_mul]; omega) hD
    omega
  unfold cd
  split <;> omega

/-- Its value by the whole numbers and the fractions of two numbers. -/
theorem cd_diff {D x y : Int} (hD : 0 < D) : cd D (x - y) = if x % D = y % D then 2 * (x / D - y / D) + 1 else if x % D < y % D then 2 * (x / D - y / D) else 2 * (x / D - y / D) + 2 := by
  obtain ⟨ex, x0, x1⟩ := cd_parts D x hD
  obtain ⟨ey, y0, y1⟩ := cd_parts D y hD
  obtain ⟨e, r0, r1⟩ := cd_parts D (x - y) hD
  unfold cd
  generalize hf : (x - y) / D = f at *
  generalize (x - y) % D = r at *
  generalize x / D = a at *
  generalize y / D = b at *
  generalize x % D = u at *
  generalize y % D = v at *
  have e2 : f * D + r = (a - b) * D + (u - v) := by rw [Int.sub_mul]; omega
  by_cases c : u = v
  · rw [if_pos c]
    have h1 : f < a - b + 1 := lt_of_mul (D := D) (by rw [Int.add_mul, Int.one_mul]; omega) hD
    have h2 : a - b < f + 1 := lt_of_mul (D := D) (by rw [Int.add_mul, Int.one_mul]; omega) hD
    have h3 : f = a - b := by omega
    rw [h3] at e2
    rw [if_pos (by omega), h3]
  · rw [if_neg c]
    by_cases d : u < v
    · rw [if_pos d]
      have h1 : f < a - b := lt_of_mul (D := D) (by omega) hD
      have h2 : a - b < f + 1 + 1 := lt_of_mul (D := D) (by rw [Int.add_mul, Int.add_mul, Int.one_mul]; omega) hD
      have h3 : f = a - b - 1 := by omega
      rw [h3, Int.sub_mul, Int.one_mul] at e2
      rw [if_neg (by omega), h3]
      omega
    · rw [if_neg d]
      have h1 : f < a - b + 1 := lt_of_mul (D := D) (by rw [Int.add_mul, Int.one_mul]; omega) hD
      have h2 : a - b < f + 1 := lt_of_mul (D := D) (by rw [Int.add_mul, Int.one_mul]; omega) hD
      have h3 : f = a - b := by omega
      rw [h3] at e2
      rw [if_neg (by omega), h3]

/-- A clock that is not above its constant; the clock 0 is none that is above. -/
def Blw (k : List Int) (D : Int) (X : Nat → Int) (i : Nat) : Prop := i = 0 ∨ (0 ≤ Zo.gt k (i - 1) ∧ X i ≤ Zo.gt k (i - 1) * D)

instance (k : List Int) (D : Int) (X : Nat → Int) : DecidablePred (Blw k D X) := fun i => by unfold Blw; exact inferInstance

/-- A constraint of the region. -/
def AlC (n : Nat) (k : List Int) (D : Int) (X : Nat → Int) (c : Con) : Prop :=
  ∃ a b : Nat, a ≤ n ∧ b ≤ n ∧ c.1 = a ∧ c.2.1 = b ∧ ((Blw k D X a ∧ Blw k D X b ∧ c.2.2 = cd D (X a - X b)) ∨ (a = 0 ∧ ¬ Blw k D X b ∧ 0 ≤ Zo.gt k (b - 1) ∧ c.2.2 = -2 * Zo.gt k (b - 1)))

theorem blw_range {n : Nat} {k : List Int} {D : Int} {X : Nat → Int} (hk : Kn n k) (hX0 : X 0 = 0) (hD : 0 < D) {i : Nat} (hi : i ≤ n) (h : Blw k D X i) : X i ≤ 1048576 * D := by
  rcases h with h | ⟨h, h'⟩
  · subst h; rw [hX0]; have := Int.mul_nonneg (show (0 : Int) ≤ 1048576 by omega) (show 0 ≤ D by omega); omega
  · by_cases z : i = 0
    · subst z; rw [hX0]; have := Int.mul_nonneg (show (0 : Int) ≤ 1048576 by omega) (show 0 ≤ D by omega); omega
    · have := mul_le' (hk.2 (i - 1) (by omega)).2 hD
      omega

theorem alC_ok {n : Nat} {k : List Int} {D : Int} {X : Nat → Int} (hk : Kn n k) (hD : 0 < D) (hX0 : X 0 = 0) (hX : ∀ i, i ≤ n → 0 ≤ X i) {c : Con} (h : AlC n k D X c) : okC n c = true := by
  obtain ⟨a, b, ha, hb, e1, e2, h⟩ := h
  have key : -2147483648 ≤ c.2.2 ∧ c.2.2 ≤ 2147483649 := by
    rcases h with ⟨h1, h2, e⟩ | ⟨h1, h2, h3, e⟩
    · have r1 := blw_range hk hX0 hD ha h1
      have r2 := blw_range hk hX0 hD hb h2
      have := hX a ha
      have := hX b hb
      have q := cd_range (q := X a - X b) (a := -1048576) (b := 1048576) hD (by rw [Int.neg_mul]; omega) (by omega)
      omega
    · by_cases z : b = 0
      · exact absurd (Or.inl z) h2
      · have := hk.2 (b - 1) (by omega)
        omega
  unfold okC lvB
  rw [e1, e2]
  simp
  omega

theorem alike_point {n : Nat} {D : Int} {l k : List Int} {X : Nat → Int} (hc : chkE n l = 0) (hD : 0 < D) (hk : Kn n k) (hX0 : X 0 = 0) (hX : ∀ i, i ≤ n → 0 ≤ X i)
    (hIn : Zo.In n (wdM n k k l) D X) : ∃ (E : Int) (Y : Nat → Int), 0 < E ∧ Y 0 = 0 ∧ (∀ i, i ≤ n → 0 ≤ Y i ∧ Y i ≤ 8589934592 * E) ∧ Zo.In n l E Y ∧ ∀ c, AlC n k D X c → Zo.mt E (Y c.1.toNat - Y c.2.1.toNat) c.2.2 := by
  obtain ⟨hn, hl, hr⟩ := chk_len hc
  obtain ⟨Z, hZ⟩ := chk_cl hn hl hc
  have ez := fun a b (ha : a ≤ n) (hb : b ≤ n) => hZ.dec ha hb
  have lv := fun a b (ha : a ≤ n) (hb : b ≤ n) => chk_lvs hc ha hb
  have d := chk_diag hc
  have hm : ∀ a b, a ≤ n → b ≤ n → a ≠ b → Zo.mt D (X a - X b) (wdn (Zo.At n l a b) a b k k) := fun a b ha hb hne => by
    have := hIn a b ha hb
    rw [wd_at hl ha hb, if_neg hne] at this
    exact this
  have zc : ∀ s t, s ≤ n → t ≤ n → (Zo.At n l s t = 1099511627776 ∧ Z s t = none) ∨ (Zo.At n l s t ≠ 1099511627776 ∧ Z s t = some (Zo.At n l s t) ∧ -2147483648 ≤ Zo.At n l s t ∧ Zo.At n l s t ≤ 2147483649) := fun s t hs ht => by
    rw [ez s t hs ht]
    unfold Zo.dec
    by_cases q : Zo.At n l s t = 1099511627776
    · left; exact ⟨q, if_pos q⟩
    · right
      have r := lv s t hs ht
      unfold lvB at r
      simp at r
      exact ⟨q, if_neg q, by omega⟩
  have B0 : Blw k D X 0 := Or.inl rfl
  have low : ∀ s, s ≤ n → Blw k D X s → 0 ≤ X s ∧ X s ≤ 1048576 * D := fun s hs h => ⟨hX s hs, blw_range hk hX0 hD hs h⟩
  have blw1 : ∀ s, Blw k D X s → 1 ≤ s → 0 ≤ Zo.gt k (s - 1) ∧ X s ≤ Zo.gt k (s - 1) * D := fun s h h1 => h.resolve_left (by omega)
  have abv : ∀ s, s ≤ n → ¬ Blw k D X s → 1 ≤ s ∧ (0 ≤ Zo.gt k (s - 1) → Zo.gt k (s - 1) * D < X s) := fun s hs h => by
    refine ⟨?_, fun q => ?_⟩
    · rcases Nat.eq_zero_or_pos s with z | z
      · exact absurd (Or.inl z) h
      · exact z
    · rcases Int.lt_or_le (Zo.gt k (s - 1) * D) (X s) with z | z
      · exact z
      · exact absurd (Or.inr ⟨q, z⟩) h
  let U : Nat → Zo.Lm := fun s => some (if Blw k D X s then cd D (X s) else hugeC)
  let L : Nat → Zo.Lm := fun t => if Blw k D X t then some (cd D (-X t)) else if 0 ≤ Zo.gt k (t - 1) then some (-2 * Zo.gt k (t - 1)) else none
  let C : Nat → Nat → Zo.Lm := fun s t => some (cd D (X s - X t))
  have Ub : ∀ s, Blw k D X s → U s = some (cd D (X s)) := fun s h => by show some (if _ then _ else _) = _; rw [if_pos h]
  have Ua : ∀ s, ¬ Blw k D X s → U s = some hugeC := fun s h => by show some (if _ then _ else _) = _; rw [if_neg h]
  have Lb : ∀ s, Blw k D X s → L s = some (cd D (-X s)) := fun s h => by show (if _ then _ else _) = _; rw [if_pos h]
  have La : ∀ s, ¬ Blw k D X s → 0 ≤ Zo.gt k (s - 1) → L s = some (-2 * Zo.gt k (s - 1)) := fun s h q => by show (if _ then _ else _) = _; rw [if_neg h, if_pos q]
  have Ln : ∀ s, ¬ Blw k D X s → ¬ 0 ≤ Zo.gt k (s - 1) → L s = none := fun s h q => by show (if _ then _ else _) = _; rw [if_neg h, if_neg q]
  have cdU : ∀ s, s ≤ n → Blw k D X s → 1 ≤ cd D (X s) ∧ cd D (X s) ≤ 2097153 := fun s hs h => by
    have := cd_range (q := X s) (a := 0) (b := 1048576) hD (by rw [Int.zero_mul]; exact (low s hs h).1) (low s hs h).2
    omega
  obtain ⟨E, Y, hE, hY0, hY⟩ := Zo.rgn_point (n := n) (Z := Z) (B := Blw k D X) (U := U) (L := L) (C := C) hZ.tri hZ.dg
    (fun s t _ _ bs bt => by
      rw [Ub s bs, Lb t bt]
      have := cd_sum (p := X s) (q := -X t) hD
      rwa [show X s + -X t = X s - X t by omega] at this)
    (fun s t u _ _ _ _ _ _ => by
      have := cd_sum (p := X s - X t) (q := X t - X u) hD
      rwa [show X s - X t + (X t - X u) = X s - X u by omega] at this)
    (fun s _ _ => by
      show Zo.le (some 1) (some (cd D (X s - X s)))
      rw [show X s - X s = 0 by omega, cd_zero]
      exact Zo.le_refl _)
    (fun s t hs ht bs bt => by
      by_cases q : s = t
      · subst q
        rw [hZ.dg s hs]
        show Zo.le (some (cd D (X s - X s))) (some 1)
        rw [show X s - X s = 0 by omega, cd_zero]
        exact Zo.le_refl _
      · rcases zc s t hs ht with ⟨_, e⟩ | ⟨cn, e, _⟩
        · rw [e]; exact Zo.le_none _
        · rw [e]
          have m := cov_two hD (lv s t hs ht) cn (hm s t hs ht q) (hX s hs) (blw1 s bs) (blw1 t bt) (hX t ht)
          exact cd_le hD (m.resolve_left cn))
    (fun s t _ _ bs bt => by
      rw [Ub s bs, Ub t bt]
      have := cd_sum (p := X s - X t) (q := X t) hD
      rwa [show X s - X t + X t = X s by omega] at this)
    (fun s t _ _ bs bt => by
      rw [Lb s bs, Lb t bt]
      have := cd_sum (p := -X s) (q := X s - X t) hD
      rwa [show -X s + (X s - X t) = -X t by omega] at this)
    (fun s _ bs => by
      rw [Lb s bs, Ub s bs]
      have := cd_sum (p := -X s) (q := X s) hD
      rwa [show -X s + X s = 0 by omega, cd_zero] at this)
    (fun t s ht hs bt bs => by
      rw [Lb s bs]
      by_cases q : 0 ≤ Zo.gt k (t - 1)
      · rw [La t bt q]
        have hne : t ≠ s := fun h => bt (h ▸ bs)
        rcases zc t s ht hs with ⟨_, e⟩ | ⟨cn, e, _⟩
        · rw [e]; exact Zo.le_none _
        · rw [e]
          have key := cov_one hD (lv t s ht hs) cn (hm t s ht hs hne) (hX t ht) ⟨q, (abv t ht bt).2 q⟩ (blw1 s bs) (hX s hs)
          refine cd_lm hD ?_
          show Zo.ml D (-X s) (some (Zo.ps (-2 * Zo.gt k (t - 1)) (Zo.At n l t s)))
          rw [Zo.ml_some]
          have e2 : (Zo.At n l t s / 2 - Zo.gt k (t - 1)) * D = Zo.At n l t s / 2 * D - Zo.gt k (t - 1) * D := Int.sub_mul _ _ _
          left
          unfold Zo.ps
          generalize Zo.At n l t s = c at *
          generalize Zo.gt k (t - 1) = kt at *
          by_cases p : c % 2 = 0
          · rw [if_pos ⟨by omega, p⟩, show (-2 * kt + c) / 2 = c / 2 - kt by omega, e2]
            omega
          · rw [if_neg (by omega), show (-2 * kt + c - 1) / 2 = c / 2 - kt by omega, e2]
            omega
      · rw [Ln t bt q]; exact Zo.le_none _)
    (fun t s ht hs bt bs => by
      rw [Ub t bt, Ua s bs]
      rcases zc t s ht hs with ⟨_, e⟩ | ⟨_, e, r1, r2⟩
      · rw [e]; exact Zo.le_none _
      · rw [e]
        show cd D (X t) ≤ Zo.ps (Zo.At n l t s) hugeC
        have := cdU t ht bt
        unfold hugeC Zo.ps
        split <;> omega)
    (fun t s ht hs bt bs => by
      rw [Ua s bs]
      by_cases q : 0 ≤ Zo.gt k (t - 1)
      · rw [La t bt q]
        rcases zc t s ht hs with ⟨_, e⟩ | ⟨_, e, r1, r2⟩
        · rw [e]; exact Zo.le_none _
        · rw [e]
          show (1 : Int) ≤ Zo.ps (Zo.ps (-2 * Zo.gt k (t - 1)) (Zo.At n l t s)) hugeC
          have := (hk.2 (t - 1) (by have := (abv t ht bt).1; omega)).2
          unfold hugeC Zo.ps
          split <;> split <;> omega
      · rw [Ln t bt q]; exact Zo.le_none _)
  have toMt : ∀ {q c : Int}, Zo.ml E q (some c) → Zo.mt E q c := fun h => Or.inr (Zo.ml_some.1 h)
  have hYl : Zo.In n l E Y := fun i j hi hj => by
    have := (hY i j hi hj).1
    rcases zc i j hi hj with ⟨e, _⟩ | ⟨_, e, _⟩
    · exact Or.inl e
    · rw [e] at this; exact toMt this
  refine ⟨E, Y, hE, hY0, fun i hi => ⟨?_, ?_⟩, hYl, ?_⟩
  · have m := Zo.mt_mono hE (d.2 i hi) (by omega) (hYl 0 i (Nat.zero_le _) hi)
    rw [Zo.mt_one, hY0] at m
    omega
  · have m := (hY i 0 hi (Nat.zero_le _)).2
    rw [hY0, show Y i - 0 = Y i by omega] at m
    by_cases b : Blw k D X i
    · rw [Zo.rgn_in b B0] at m
      have m := Zo.ml_some.1 m
      rw [hX0, show X i - 0 = X i by omega] at m
      have r := cdU i hi b
      have r2 := mul_le' (show cd D (X i) / 2 ≤ 8589934592 by omega) hE
      omega
    · rw [Zo.rgn_l b, Ua i b, Lb 0 B0, hX0, show -(0 : Int) = 0 by omega, cd_zero, Zo.add_one] at m
      have m := Zo.ml_some.1 m
      unfold hugeC at m
      rw [show (17179869185 : Int) / 2 = 8589934592 by decide] at m
      omega
  · rintro c ⟨a, b, ha, hb, e1, e2, h⟩
    have m := (hY a b ha hb).2
    rw [e1, e2, Int.toNat_natCast, Int.toNat_natCast]
    rcases h with ⟨h1, h2, e⟩ | ⟨h1, h2, h3, e⟩
    · rw [Zo.rgn_in h1 h2] at m
      rw [e]
      exact toMt m
    · subst h1
      rw [Zo.rgn_r h2, Ub 0 B0, hX0, cd_zero, Zo.one_add, La b h2 h3] at m
      rw [e]
      exact toMt m
end Go.Proofs.Ytgdcclldgfcilaa

namespace Go.Proofs.Ytgdcclldgfcilaa

theorem fl_eq {n d D x : Int} (hD : 0 < D) (hd : 0 < d) (e : x * d = n * D) : x / D = n / d := by
  have h1 : x * d / (D * d) = x / D := Int.mul_ediv_mul_of_pos_left x D hd
  have h2 : n * D / (d * D) = n / d := Int.mul_ediv_mul_of_pos_left n d hD
  rw [← h1, ← h2, e, Int.mul_comm D d]

theorem fr_eq {n d D x : Int} (hD : 0 < D) (hd : 0 < d) (e : x * d = n * D) : x % D * d = n % d * D := by
  have f := fl_eq hD hd e
  have a := Int.emod_def x D
  have b := Int.emod_def n d
  rw [a, b, f, Int.sub_mul, Int.sub_mul, e, Int.mul_right_comm D, Int.mul_right_comm d, Int.mul_comm D d]

/-- A value is whole exactly if its denominator is 1. -/
theorem whole_iff {n d D x : Int} (hv : vldB n d = true) (hD : 0 < D) (e : x * d = n * D) : x % D = 0 ↔ d = 1 := by
  have hp := vld_pos hv
  have f := fr_eq hD (show 0 < d by omega) e
  constructor
  · intro h
    rw [h, Int.zero_mul] at f
    have z : n % d = 0 := by
      rcases Int.mul_eq_zero.1 f.symm with q | q
      · exact q
      · omega
    unfold vldB at hv
    simp only [decide_eq_true_eq] at hv
    have g := hv.2.2.2.2
    have dv : d.natAbs ∣ n.natAbs := Int.natAbs_dvd_natAbs.2 (Int.dvd_of_emod_eq_zero z)
    rw [Nat.gcd_eq_right dv] at g
    omega
  · intro h
    subst h
    rw [Int.emod_one, Int.zero_mul, Int.mul_one] at f
    exact f

/-- Fractions in the least terms compare as the rests do. -/
theorem fr_cmp {D r s xn xd yn yd : Int} (hD : 0 < D) (hx : 0 < xd) (hy : 0 < yd) (ex : xn * D = r * xd) (ey : yn * D = s * yd) : (xn * yd < yn * xd ↔ r < s) ∧ (xn * yd = yn * xd ↔ r = s) := by
  have a : xn * yd * D = r * (xd * yd) := by rw [Int.mul_right_comm, ex, Int.mul_assoc]
  have b : yn * xd * D = s * (xd * yd) := by rw [Int.mul_right_comm, ey, Int.mul_assoc, Int.mul_comm yd xd]
  have hp : 0 < xd * yd := Int.mul_pos hx hy
  refine ⟨⟨fun h => ?_, fun h => ?_⟩, ⟨fun h => ?_, fun h => ?_⟩⟩
  · have := Int.mul_lt_mul_of_pos_right h hD
    rw [a, b] at this
    exact lt_of_mul this hp
  · have := Int.mul_lt_mul_of_pos_right h hp
    rw [← a, ← b] at this
    exact lt_of_mul this hD
  · rw [h, b] at a
    exact (Int.eq_of_mul_eq_mul_right (by omega) a).symm
  · rw [h, ← b] at a
    exact Int.eq_of_mul_eq_mul_right (by omega) a

/-- The constraints that order two clocks: c is how their fractions compare. -/
def orL (i j : Nat) (d c : Int) : List Con :=
  if c = 0 then [((i : Int) + 1, (j : Int) + 1, 2 * d + 1), ((j : Int) + 1, (i : Int) + 1, -2 * d + 1)]
  else if c < 0 then [((i : Int) + 1, (j : Int) + 1, 2 * d), ((j : Int) + 1, (i : Int) + 1, -2 * d + 2)]
  else [((i : Int) + 1, (j : Int) + 1, 2 * d + 2), ((j : Int) + 1, (i : Int) + 1, -2 * d)]

theorem orL_al {n : Nat} {k : List Int} {D c : Int} {X : Nat → Int} (hD : 0 < D) {i j : Nat} (hi : i < n) (hj : j < n) (bi : Blw k D X (i + 1)) (bj : Blw k D X (j + 1)) (h0 : c = 0 ↔ X (i + 1) % D = X (j + 1) % D) (h1 : c < 0 ↔ X (i + 1) % D < X (j + 1) % D) :
    ∀ x ∈ orL i j (X (i + 1) / D - X (j + 1) / D) c, AlC n k D X x := by
  intro x hx
  have e1 := cd_diff (x := X (i + 1)) (y := X (j + 1)) hD
  have e2 := cd_diff (x := X (j + 1)) (y := X (i + 1)) hD
  have fwd : ∀ l, l = cd D (X (i + 1) - X (j + 1)) → AlC n k D X ((i : Int) + 1, (j : Int) + 1, l) := fun l e => ⟨i + 1, j + 1, by omega, by omega, by simp, by simp, Or.inl ⟨bi, bj, e⟩⟩
  have bwd : ∀ l, l = cd D (X (j + 1) - X (i + 1)) → AlC n k D X ((j : Int) + 1, (i : Int) + 1, l) := fun l e => ⟨j + 1, i + 1, by omega, by omega, by simp, by simp, Or.inl ⟨bj, bi, e⟩⟩
  unfold orL at hx
  by_cases c0 : c = 0
  · have q := h0.1 c0
    rw [if_pos q] at e1
    rw [if_pos q.symm] at e2
    rw [if_pos c0] at hx
    simp only [List.mem_cons, List.not_mem_nil, or_false] at hx
    rcases hx with rfl | rfl
    · exact fwd _ (by rw [e1])
    · exact bwd _ (by rw [e2]; omega)
  · have q : ¬ X (i + 1) % D = X (j + 1) % D := fun h => c0 (h0.2 h)
    rw [if_neg q] at e1
    rw [if_neg (fun h => q h.symm)] at e2
    rw [if_neg c0] at hx
    by_cases c1 : c < 0
    · have p := h1.1 c1
      rw [if_pos p] at e1
      rw [if_neg (by omega)] at e2
      rw [if_pos c1] at hx
      simp only [List.mem_cons, List.not_mem_nil, or_false] at hx
      rcases hx with rfl | rfl
      · exact fwd _ (by rw [e1])
      · exact bwd _ (by rw [e2]; omega)
    · have p : ¬ X (i + 1) % D < X (j + 1) % D := fun h => c1 (h1.2 h)
      rw [if_neg p] at e1
      rw [if_pos (by omega)] at e2
      rw [if_neg c1] at hx
      simp only [List.mem_cons, List.not_mem_nil, or_false] at hx
      rcases hx with rfl | rfl
      · exact fwd _ (by rw [e1])
      · exact bwd _ (by rw [e2]; omega)

/-- The constraints of one clock. -/
def onL (i : Nat) (f k : Int) (wh : Bool) : List Con :=
  if f > k ∨ (f = k ∧ wh = false) then (if 0 ≤ k then [(0, (i : Int) + 1, -2 * k)] else [])
  else if wh then [((i : Int) + 1, 0, 2 * f + 1), (0, (i : Int) + 1, -2 * f + 1)] else [((i : Int) + 1, 0, 2 * f + 2), (0, (i : Int) + 1, -2 * f)]

theorem blw_iff {k : List Int} {D : Int} {X : Nat → Int} (hD : 0 < D) {i : Nat} (h0 : 0 ≤ X (i + 1)) : Blw k D X (i + 1) ↔ ¬ (X (i + 1) / D > Zo.gt k i ∨ (X (i + 1) / D = Zo.gt k i ∧ ¬ X (i + 1) % D = 0)) := by
  obtain ⟨e, r0, r1⟩ := cd_parts D (X (i + 1)) hD
  unfold Blw
  rw [show i + 1 - 1 = i by omega]
  generalize X (i + 1) / D = f at *
  generalize X (i + 1) % D = r at *
  have f0 : 0 ≤ f := by
    have : (0 : Int) < f + 1 := lt_of_mul (D := D) (by rw [Int.add_mul, Int.one_mul]; omega) hD
    omega
  constructor
  · rintro (h | ⟨h, h'⟩)
    · omega
    · rintro (q | ⟨q, q'⟩)
      · have := mul_le' (show Zo.gt k i + 1 ≤ f by omega) hD
        rw [Int.add_mul, Int.one_mul] at this
        omega
      · rw [← q] at h'; omega
  · intro h
    right
    refine ⟨by omega, ?_⟩
    by_cases q : f = Zo.gt k i
    · have : r = 0 := by
        rcases Classical.em (r = 0) with z | z
        · exact z
        · exact absurd (Or.inr ⟨q, z⟩) h
      rw [← q]; omega
    · have := mul_le' (show f + 1 ≤ Zo.gt k i by omega) hD
      rw [Int.add_mul, Int.one_mul] at this
      omega

theorem onL_al {n : Nat} {k : List Int} {D : Int} {X : Nat → Int} {wh : Bool} (hD : 0 < D) (hX0 : X 0 = 0) {i : Nat} (hi : i < n) (h0 : 0 ≤ X (i + 1)) (hw : wh = true ↔ X (i + 1) % D = 0) :
    ∀ x ∈ onL i (X (i + 1) / D) (Zo.gt k i) wh, AlC n k D X x := by
  intro x hx
  have B0 : Blw k D X 0 := Or.inl rfl
  have bi := blw_iff (k := k) hD h0
  have wn : wh = false ↔ ¬ X (i + 1) % D = 0 := by
    rw [← hw]; cases wh <;> simp
  have e1 : cd D (X (i + 1) - 0) = if X (i + 1) % D = 0 then 2 * (X (i + 1) / D) + 1 else 2 * (X (i + 1) / D) + 2 := by
    rw [show X (i + 1) - 0 = X (i + 1) by omega]; rfl
  have e2 := cd_diff (x := 0) (y := X (i + 1)) hD
  rw [Int.zero_emod, Int.zero_ediv] at e2
  obtain ⟨_, r0, r1⟩ := cd_parts D (X (i + 1)) hD
  have fwd : Blw k D X (i + 1) → ∀ l, l = cd D (X (i + 1) - 0) → AlC n k D X ((i : Int) + 1, 0, l) := fun b l e => ⟨i + 1, 0, by omega, by omega, by simp, by simp, Or.inl ⟨b, B0, by rw [hX0]; exact e⟩⟩
  have bwd : Blw k D X (i + 1) → ∀ l, l = cd D (0 - X (i + 1)) → AlC n k D X (0, (i : Int) + 1, l) := fun b l e => ⟨0, i + 1, by omega, by omega, by simp, by simp, Or.inl ⟨B0, b, by rw [hX0]; exact e⟩⟩
  unfold onL at hx
  by_cases q : X (i + 1) / D > Zo.gt k i ∨ (X (i + 1) / D = Zo.gt k i ∧ wh = false)
  · rw [if_pos q] at hx
    have nb : ¬ Blw k D X (i + 1) := by rw [bi, ← wn]; exact fun h => h q
    split at hx
    · rename_i k0
      simp only [List.mem_cons, List.not_mem_nil, or_false] at hx
      subst hx
      exact ⟨0, i + 1, by omega, by omega, by simp, by simp, Or.inr ⟨rfl, nb, by simpa using k0, by simp⟩⟩
    · simp at hx
  · rw [if_neg q] at hx
    have b : Blw k D X (i + 1) := by rw [bi, ← wn]; exact q
    split at hx
    · rename_i w1
      have z := hw.1 w1
      rw [if_pos z] at e1
      rw [if_pos z.symm] at e2
      simp only [List.mem_cons, List.not_mem_nil, or_false] at hx
      rcases hx with rfl | rfl
      · exact fwd b _ e1.symm
      · exact bwd b _ (by rw [e2]; omega)
    · rename_i w1
      have z : ¬ X (i + 1) % D = 0 := fun h => w1 (hw.2 h)
      rw [if_neg z] at e1
      rw [if_neg (fun h => z h.symm), if_pos (by omega)] at e2
      simp only [List.mem_cons, List.not_mem_nil, or_false] at hx
      rcases hx with rfl | rfl
      · exact fwd b _ e1.symm
      · exact bwd b _ (by rw [e2]; omega)
end Go.Proofs.Ytgdcclldgfcilaa

namespace Go.Proofs.Ytgdcclldgfcilaa
open Go.RowKit

/-- A zone that came in, valid: what the small functions need. -/
def Zn (n : Nat) (l : List Int) : Prop := n ≤ 10 ∧ l.length = (n + 1) * (n + 1) ∧ ∀ i j, i ≤ n → j ≤ n → lvB (Zo.At n l i j) = true

/-- Are two clocks bound? -/
def bdB (n : Nat) (l : List Int) (i j : Nat) : Bool := decide (Zo.smW (Zo.At n l i j) (Zo.At n l j i) = 1)

/-- Whether the sum of two limits is a limit, by the sum of layer 2. -/
def suB (a b c : Int) : Bool := decide (adE a b = 0) && decide (adL a b = c)
end Go.Proofs.Ytgdcclldgfcilaa

namespace Go.Proofs.Ytgdcclldgfcilaa
open Go.RowKit

def plB (n : Nat) (l : List Int) (i j : Nat) : Bool := decide (i = 0) && decide (Zo.At n l i j = 1)
end Go.Proofs.Ytgdcclldgfcilaa

namespace Go.Proofs.Ytgdcclldgfcilaa
open Go.RowKit

def fiB (n : Nat) (l : List Int) (i : Nat) : Bool := (List.range i).all fun k => !bdB n l k i

theorem fiB_yes {n i : Nat} {l : List Int} (h : ∀ k, k < i → bdB n l k i = false) : fiB n l i = true := by
  unfold fiB; rw [List.all_eq_true]; intro k hk; rw [h k (List.mem_range.1 hk)]; rfl

theorem fiB_no {n i k : Nat} {l : List Int} (hk : k < i) (h : bdB n l k i = true) : fiB n l i = false := by
  unfold fiB; rw [List.all_eq_false]; exact ⟨k, List.mem_range.2 hk, by rw [h]; simp⟩

theorem fiB_iff {n i : Nat} {l : List Int} : fiB n l i = true ↔ ∀ k, k < i → bdB n l k i = false := by
  unfold fiB; simp

/-- Is k a clock of the class that stands between i and j on the ring? -/
def btB (i j k : Nat) : Bool := (decide (i < j) && decide (i < k) && decide (k < j)) || (decide (j < i) && (decide (i < k) || decide (k < j)))

def skB (n : Nat) (l : List Int) (i j k : Nat) : Bool := decide (k = i) || decide (k = j) || !bdB n l k i

def nxB (n : Nat) (l : List Int) (i j : Nat) : Bool := (List.range (n + 1)).all fun k => skB n l i j k || !btB i j k

theorem nxB_yes {n i j : Nat} {l : List Int} (h : ∀ k, k < n + 1 → (skB n l i j k || !btB i j k) = true) : nxB n l i j = true := by
  unfold nxB; rw [List.all_eq_true]; intro k hk; exact h k (List.mem_range.1 hk)

theorem nxB_no {n i j k : Nat} {l : List Int} (hk : k < n + 1) (h1 : skB n l i j k = false) (h2 : btB i j k = true) : nxB n l i j = false := by
  unfold nxB; rw [List.all_eq_false]; exact ⟨k, List.mem_range.2 hk, by rw [h1, h2]; simp⟩

/-- The frame: a zone that is a parameter, boxed. -/
theorem zbox (n : Nat) (a : Addr) (len cap : Nat) (w : World) : ∃ w0, w0 = w.alloc (.cells #[.int .i64 n, .slice (some a) len cap] 24) ∧ Below w.heap.size w w0 ∧
    (∀ W : World, Below w0.heap.size w0 W → (W.cell? ⟨w.heap.size, 0, none⟩ = some (.int .i64 n) ∧ W.cell? ⟨w.heap.size, 1, none⟩ = some (.slice (some a) len cap))) := by
  refine ⟨_, rfl, one_more _, fun W h => ?_⟩
  have bx := (Two.made w (.int .i64 n) (.slice (some a) len cap) 24).kept h
  exact ⟨bx.facts.1, bx.facts.2.1⟩
end Go.Proofs.Ytgdcclldgfcilaa

namespace Go.Proofs.Ytgdcclldgfcilaa
open Go.RowKit

def kpN (n : Nat) (l : List Int) (i j : Nat) : Bool := nxB n l i j && (!decide (i = 0) || !decide (Zo.At n l i j = 1))

def kpA (n : Nat) (l : List Int) (i j k : Nat) : Bool := decide (i = 0) && bdB n l k j && decide (Zo.At n l 0 k = 1)

def kpS (n : Nat) (l : List Int) (i j k : Nat) : Bool := decide (Zo.At n l i j = Zo.smW (Zo.At n l i k) (Zo.At n l k j))

def kpC (n : Nat) (l : List Int) (i j k : Nat) : Bool := fiB n l k && !decide (k = i) && !decide (k = j) && kpS n l i j k

def kpM (n : Nat) (l : List Int) (i j : Nat) : Bool := fiB n l i && fiB n l j && (List.range (n + 1)).all fun k => !(kpA n l i j k || kpC n l i j k)

def kpB (n : Nat) (l : List Int) (i j : Nat) : Bool := !decide (i = j) && !decide (Zo.At n l i j = 1099511627776) && (if bdB n l i j then kpN n l i j else kpM n l i j)

theorem kpM_no {n i j k : Nat} {l : List Int} (hk : k < n + 1) (h : (kpA n l i j k || kpC n l i j k) = true) : kpM n l i j = false := by
  unfold kpM
  have : ((List.range (n + 1)).all fun k => !(kpA n l i j k || kpC n l i j k)) = false := by
    rw [List.all_eq_false]; exact ⟨k, List.mem_range.2 hk, by rw [h]; simp⟩
  rw [this]; simp

theorem kpM_yes {n i j : Nat} {l : List Int} (hi : fiB n l i = true) (hj : fiB n l j = true) (h : ∀ k, k < n + 1 → (kpA n l i j k || kpC n l i j k) = false) : kpM n l i j = true := by
  unfold kpM
  rw [hi, hj]
  simp only [Bool.true_and, List.all_eq_true]
  intro k hk
  rw [h k (List.mem_range.1 hk)]; rfl

theorem made_as {P : Program} {f : FuncId} {args : Array Value} {W : World} {b c : Bool} (h : Calls P f args W (Made (.bool b) W)) (e : b = c) : Calls P f args W (Made (.bool c) W) := by rw [← e]; exact h

theorem made_ia {P : Program} {f : FuncId} {args : Array Value} {W : World} {b c : Int} (h : Calls P f args W (Made (.int .i64 b) W)) (e : b = c) : Calls P f args W (Made (.int .i64 c) W) := by rw [← e]; exact h
end Go.Proofs.Ytgdcclldgfcilaa

namespace Go.Proofs.Ytgdcclldgfcilaa
open Go.RowKit

/-- The cells of constraints. -/
def conV (cs : List Con) : List Value := cs.flatMap fun c => [.int .i64 c.1, .int .i64 c.2.1, .int .i64 c.2.2]

theorem conV_len (cs : List Con) : (conV cs).length = cs.length * 3 := by
  unfold conV; rw [List.length_flatMap]
  induction cs with
  | nil => rfl
  | cons c cs ih => simp only [List.map_cons, List.sum_cons, List.length_cons] at ih ⊢; rw [ih]; simp; omega

theorem conV_app (cs : List Con) (i j x : Int) : conV (cs ++ [(i, j, x)]) = conV cs ++ [.int .i64 i, .int .i64 j, .int .i64 x] := by unfold conV; rw [List.flatMap_append]; rfl

theorem conV_at (cs : List Con) (k : Nat) (hk : k < cs.length) : (conV cs)[k * 3]? = some (.int .i64 (gc cs k).1) ∧ (conV cs)[k * 3 + 1]? = some (.int .i64 (gc cs k).2.1) ∧ (conV cs)[k * 3 + 2]? = some (.int .i64 (gc cs k).2.2) := by
  induction cs generalizing k with
  | nil => simp at hk
  | cons c cs ih =>
    cases k with
    | zero => exact ⟨rfl, rfl, rfl⟩
    | succ k =>
      have := ih k (by simp at hk; omega)
      have e : conV (c :: cs) = [.int .i64 c.1, .int .i64 c.2.1, .int .i64 c.2.2] ++ conV cs := rfl
      have g : gc (c :: cs) (k + 1) = gc cs k := by simp [gc]
      rw [e, g, show (k + 1) * 3 = k * 3 + 3 by omega]
      refine ⟨?_, ?_, ?_⟩
      · rw [List.getElem?_append_right (by simp)]; exact this.1
      · rw [List.getElem?_append_right (by simp)]; simpa using this.2.1
      · rw [List.getElem?_append_right (by simp)]; simpa using this.2.2

/-- A list of constraints that a call has made. -/
def OwnC (w : World) (B : Nat) (v : Value) (cs : List Con) : Prop := w.ownsRow B 41 3 v cs.length (conV cs)

theorem OwnC.nil (w : World) (B : Nat) : OwnC w B (.slice none 0 0) [] := World.ownsRow_nil w B _ _

theorem OwnC.on {w w' : World} {B : Nat} {v : Value} {cs : List Con} (h : OwnC w B v cs) (hb : Below w.heap.size w w') : OwnC w' B v cs := by
  have hg : w.grownBy w' none := ⟨hb.os, hb.tape, hb.output, hb.size, fun k hk _ => hb.block k hk⟩
  exact World.ownsRow.kept h hg (by cases v.ownBlock <;> simp)

theorem OwnC.arg {w : World} {B : Nat} {v : Value} {cs : List Con} (h : OwnC w B v cs) : ∃ ao cap, v = .slice ao cs.length cap ∧ Arg3 w ao cs := by
  rcases h.2 with ⟨rfl, hn⟩ | ⟨g, cap, cur, rfl, hb, hg, hc, hm, hsz, htake⟩
  · exact ⟨none, 0, by rw [hn], fun hne => absurd (List.eq_nil_of_length_eq_zero hn) hne⟩
  · refine ⟨_, cap, rfl, fun _ => ⟨⟨g, 0, none⟩, rfl, fun j hj => ?_⟩⟩
    have hc := World.ownsRow.cellAt (g := g) (cap := cap) h
    obtain ⟨c0, c1, c2⟩ := conV_at cs j hj
    refine ⟨?_, ?_, ?_⟩
    · rw [addr_add]; exact (hc (j * 3) (by omega)).trans c0
    · rw [addr_add]; exact (hc (j * 3 + 1) (by omega)).trans c1
    · rw [addr_add]; exact (hc (j * 3 + 2) (by omega)).trans c2

theorem OwnC.low {w : World} {B B' : Nat} {v : Value} {cs : List Con} (h : OwnC w B v cs) (hb : B' ≤ B) : OwnC w B' v cs := by
  refine ⟨h.1, ?_⟩
  rcases h.2 with c | ⟨g, cap, cur, h1, h2, h3⟩
  · exact Or.inl c
  · exact Or.inr ⟨g, cap, cur, h1, by omega, h3⟩

/-- What Reduce leaves. -/
def CRes (w : World) (cs : List Con) (er : Int) (e : Ending) (w' : World) : Prop :=
  Below w.heap.size w w' ∧ ∃ v, e = .returned (.tuple #[v, .int .i64 er]) ∧ OwnC w' w.heap.size v cs

theorem cells_three {w w' : World} (x y z : Value) (t : TypeId) (hw : w' = w.alloc (.cells #[x, y, z] t)) : ∀ j u, ([x, y, z] : List Value)[j]? = some u → w'.cell? ((⟨w.heap.size, 0, none⟩ : Addr).add j) = some u := by
  subst hw
  intro j u hu
  rw [addr_add]
  match j, hu with
  | 0, hu => simp at hu; subst hu; go_simp
  | 1, hu => simp at hu; subst hu; go_simp
  | 2, hu => simp at hu; subst hu; go_simp

def redT (n : Nat) (l : List Int) (i t : Nat) : List Con := (List.range t).flatMap fun j => if kpB n l i j then [((i : Int), (j : Int), Zo.At n l i j)] else []

def redS (n : Nat) (l : List Int) (t : Nat) : List Con := (List.range t).flatMap fun i => redT n l i (n + 1)

def redL (n : Nat) (l : List Int) : List Con := redS n l (n + 1)

theorem redT_no {n i t : Nat} {l : List Int} (h : kpB n l i t = false) : redT n l i (t + 1) = redT n l i t := by
  unfold redT; rw [List.range_succ, List.flatMap_append]; simp [h]

theorem redT_yes {n i t : Nat} {l : List Int} (h : kpB n l i t = true) : redT n l i (t + 1) = redT n l i t ++ [((i : Int), (t : Int), Zo.At n l i t)] := by
  unfold redT; rw [List.range_succ, List.flatMap_append]; simp [h]

theorem redS_succ (n : Nat) (l : List Int) (t : Nat) : redS n l (t + 1) = redS n l t ++ redT n l t (n + 1) := by
  unfold redS; rw [List.range_succ, List.flatMap_append]; simp

theorem flat_le {α : Type} (f : Nat → List α) (b : Nat) (hf : ∀ i, (f i).length ≤ b) (t : Nat) : ((List.range t).flatMap f).length ≤ t * b := by
  induction t with
  | zero => simp
  | succ t ih =>
    rw [List.range_succ, List.flatMap_append, List.length_append]
    have := hf t
    simp only [List.flatMap_cons, List.flatMap_nil, List.append_nil]
    rw [Nat.add_mul]; omega

theorem redT_len (n : Nat) (l : List Int) (i t : Nat) : (redT n l i t).length ≤ t := by
  have := flat_le (fun j => if kpB n l i j then [((i : Int), (j : Int), Zo.At n l i j)] else []) 1 (fun j => by split <;> simp) t
  unfold redT; omega

theorem redS_len (n : Nat) (l : List Int) (t : Nat) : (redS n l t).length ≤ t * (n + 1) := flat_le _ _ (fun i => redT_len n l i (n + 1)) t

theorem redL_le {n : Nat} {l : List Int} (hn : n ≤ 10) : (redL n l).length ≤ 121 := by
  have := redS_len n l (n + 1)
  have : (n + 1) * (n + 1) ≤ 11 * 11 := Nat.mul_le_mul (by omega) (by omega)
  unfold redL; omega

theorem con_info : (Try.prog.info? 41).map (fun i => (i.zero, i.size, i.bytes)) = some (some (.agg #[.int .i64 0, .int .i64 0, .int .i64 0]), 3, 24) := by kernel_rfl
end Go.Proofs.Ytgdcclldgfcilaa

namespace Go.Proofs.Ytgdcclldgfcilaa
open Go.RowKit

theorem vldC_parts {n d : Int} (h : vldC (n, d) = true) : vldB n d = true ∧ 1 ≤ d ∧ d ≤ 2147483647 ∧ 0 ≤ n ∧ n ≤ 2147483647 := by
  unfold vldC at h
  simp only [Bool.and_eq_true, decide_eq_true_eq] at h
  have := vld_pos h.1
  exact ⟨h.1, by omega, by omega, h.2, by omega⟩

theorem fl_range {n d : Int} (h1 : 1 ≤ d) (h0 : 0 ≤ n) (h2 : n ≤ 2147483647) : 0 ≤ n / d ∧ n / d ≤ 2147483647 := by
  have a : 0 ≤ n / d := Int.ediv_nonneg h0 (by omega)
  have b : n / d ≤ n := Int.ediv_le_self d h0
  omega

theorem refFloor_as {n d f : Int} (w : World) (v : vldC (n, d) = true) (hf : n / d = f) :
    Calls Try.prog 8 #[.agg #[.int .i64 n, .int .i64 d]] w (Made (.tuple #[.int .i64 f, .int .i64 0]) w) := by
  obtain ⟨v1, a, b, c, d'⟩ := vldC_parts v
  have h := refFloor_any n d w (by unfold I64; omega) (by unfold I64; omega)
  rw [v1, hf] at h
  exact h

theorem refFrac_any {n d f : Int} (w : World) (v : vldC (n, d) = true) (hf : n / d = f) :
    Calls Try.prog 15 #[.agg #[.int .i64 n, .int .i64 d], .agg #[.int .i64 f, .int .i64 1]] w (fun e w' => Below w.heap.size w w' ∧ ∃ x y, e = .returned (.tuple #[.agg #[.int .i64 x, .int .i64 y], .int .i64 0]) ∧ vldB x y = true ∧ x * d = n % d * y) := by
  obtain ⟨v1, a, b, c, d'⟩ := vldC_parts v
  have fr := fl_range a c d'
  rw [hf] at fr
  have v2 : vldB f 1 = true := by unfold vldB; simp; omega
  have h := refSub_any n d f 1 w (by unfold I64; omega) (by unfold I64; omega) (by unfold I64; omega) (by unfold I64; omega)
  have em := Int.mul_ediv_add_emod n d
  have m0 := Int.emod_nonneg n (show d ≠ 0 by omega)
  have m1 := Int.emod_lt_of_pos n (show 0 < d by omega)
  have ep : n * 1 - f * d = n % d := by rw [hf, Int.mul_comm d f] at em; omega
  rw [v1, v2, ep, Int.mul_one] at h
  have er : mkErr (n % d) d = 0 := by
    unfold mkErr
    rw [if_neg (by omega)]
    have t := top_le (n % d) d
    have u := bot_le (n % d) d
    have : fits (n % d) d = true := by unfold fits; simp; omega
    rw [this]; rfl
  obtain ⟨_, o1, o2⟩ := mk_ok er
  refine h.mono ?_
  rintro e w' ⟨rfl, hb⟩
  refine ⟨hb, mkNum (n % d) d, mkDen (n % d) d, ?_, o1, o2⟩
  simp [opNum, opDen, opErr, er]

theorem refCmp_of {x y p q c : Int} (w : World) (h1 : vldB x y = true) (h2 : vldB p q = true) (hc : sgn (x * q) (p * y) = c) :
    Calls Try.prog 21 #[.agg #[.int .i64 x, .int .i64 y], .agg #[.int .i64 p, .int .i64 q]] w (Made (.tuple #[.int .i64 c, .int .i64 0]) w) := by
  have a := vld_pos h1
  have b := vld_pos h2
  have h := refCmp_any x y p q w (by unfold I64; omega) (by unfold I64; omega) (by unfold I64; omega) (by unfold I64; omega)
  rw [h1, h2] at h
  simp only [Bool.and_self, if_true, hc] at h
  exact h

/-- What order leaves. -/
def OrRes (n : Nat) (k : List Int) (D : Int) (X : Nat → Int) (w : World) (e : Ending) (w' : World) : Prop :=
  Below w.heap.size w w' ∧ (e = .returned (.tuple #[.slice none 0 0, .bool false]) ∨ ∃ (a : Addr) (cs : List Con), e = .returned (.tuple #[.slice (some a) cs.length cs.length, .bool true]) ∧ cs.length = 2 ∧ (∀ t u, (conV cs)[t]? = some u → w'.cell? (a.add t) = some u) ∧ ∀ c ∈ cs, AlC n k D X c)

theorem crow {w w' : World} (vs : List Value) (t : TypeId) (hw : w' = w.alloc (.cells vs.toArray t)) : ∀ j u, vs[j]? = some u → w'.cell? ((⟨w.heap.size, 0, none⟩ : Addr).add j) = some u := by
  subst hw
  intro j u hu
  rw [addr_add, cell_of_row _ _ _ _ _ _ (heap_alloc_last w _)]
  simpa using hu

theorem sgn_zero (x y : Int) : sgn x y = 0 ↔ x = y := by unfold sgn; split <;> (try split) <;> omega

theorem sgn_less (x y : Int) : sgn x y < 0 ↔ x < y := by unfold sgn; split <;> (try split) <;> omega

theorem sgn_3 (x y : Int) : sgn x y = 0 ∨ sgn x y = -1 ∨ sgn x y = 1 := by unfold sgn; split <;> (try split) <;> simp

theorem frac_eq {r D n d x y : Int} (h : r * d = n % d * D) (e : x * d = n % d * y) (hd : 0 < d) : x * D = r * y := by
  have h1 : x * D * d = r * y * d := by rw [Int.mul_right_comm, e, Int.mul_right_comm r, h, Int.mul_right_comm]
  exact Int.eq_of_mul_eq_mul_right (by omega) h1

theorem orL_len (i j : Nat) (d c : Int) : (orL i j d c).length = 2 := by
  unfold orL
  split
  · rfl
  · split <;> rfl

set_option maxRecDepth 100000 in
set_option maxHeartbeats 4000000 in
theorem order_any (n : Nat) (ps : List Pq) (po : Option Addr) (pc : Nat) (k : List Int) (ko : Option Addr) (kc : Nat) (i j : Nat) (w : World) (D : Int) (X : Nat → Int) (hn : n ≤ 10) (hP : Arg2 w po ps) (hps : ps.length = n) (hv : ∀ t, t < n → vldC (gp ps t) = true)
    (hK : Arg w ko k) (kn : Kn n k) (hi : i < n) (hj : j < n) (ho : Ov D X ps) (hX : ∀ t, t ≤ n → 0 ≤ X t) (bi : Blw k D X (i + 1)) :
    Calls Try.prog 9 #[.slice po ps.length pc, .slice ko k.length kc, .int .i64 i, .int .i64 j] w (OrRes n k D X w) := by
  have CP := Lib.hid (show ∀ W, Below w.heap.size w W → ∀ t, t < n → ∃ b, po = some b ∧ W.cell? (b.add (t * 2)) = some (.int .i64 (gp ps t).1) ∧ W.cell? ⟨(b.add (t * 2)).block, (b.add (t * 2)).off + 1, none⟩ = some (.int .i64 (gp ps t).2) from fun W hb t ht => by
    obtain ⟨b, e, hr⟩ := hP (fun q => by rw [q] at hps; simp at hps; omega)
    exact ⟨b, e, kept hb (hr t (by omega)).1, kept hb (hr t (by omega)).2⟩)
  have CK := Lib.hid (show ∀ W, Below w.heap.size w W → ∃ b, ko = some b ∧ W.cell? (b.add j) = some (.int .i64 (Zo.gt k j)) from fun W hb => (hK.on hb).get (by rw [kn.1]; exact hj))
  have hD := ho.pos
  have ei := ho.val (i + 1) (by omega)
  have ej := ho.val (j + 1) (by omega)
  rw [show clk ps (i + 1) = gp ps i from by unfold clk; rw [if_neg (by omega)]; rfl] at ei
  rw [show clk ps (j + 1) = gp ps j from by unfold clk; rw [if_neg (by omega)]; rfl] at ej
  have vi := hv i hi
  have vj := hv j hj
  obtain ⟨b, hpo, p0, p1⟩ := CP.out w (Below.refl _ _) i hi
  obtain ⟨b', hpo', p2, p3⟩ := CP.out w (Below.refl _ _) j hj
  rw [hpo] at hpo'
  injection hpo' with hpo'
  subst hpo'
  obtain ⟨bk, hko, p4⟩ := CK.out w (Below.refl _ _)
  clear CP CK
  obtain ⟨ni, hni⟩ : ∃ z, z = (gp ps i).1 := ⟨_, rfl⟩
  obtain ⟨di, hdi⟩ : ∃ z, z = (gp ps i).2 := ⟨_, rfl⟩
  obtain ⟨nj, hnj⟩ : ∃ z, z = (gp ps j).1 := ⟨_, rfl⟩
  obtain ⟨dj, hdj⟩ : ∃ z, z = (gp ps j).2 := ⟨_, rfl⟩
  rw [show gp ps i = (ni, di) from by rw [hni, hdi]] at vi p0 p1 ei
  rw [show gp ps j = (nj, dj) from by rw [hnj, hdj]] at vj p2 p3 ej
  obtain ⟨kj, hkj⟩ : ∃ z, z = Zo.gt k j := ⟨_, rfl⟩
  rw [← hkj] at p4
  have kr := kn.2 j hj
  rw [← hkj] at kr
  obtain ⟨vi1, i1, i2, i3, i4⟩ := vldC_parts vi
  obtain ⟨vj1, j1, j2, j3, j4⟩ := vldC_parts vj
  have fi := fl_range i1 i3 i4
  have fj := fl_range j1 j3 j4
  have xi := fl_eq hD (show 0 < di by omega) ei
  have xj := fl_eq hD (show 0 < dj by omega) ej
  have ri := fr_eq hD (show 0 < di by omega) ei
  have rj := fr_eq hD (show 0 < dj by omega) ej
  have wj := whole_iff vj1 hD ej
  have bj := blw_iff (k := k) hD (hX (j + 1) (by omega))
  rw [xj, ← hkj, wj] at bj
  obtain ⟨a, ha⟩ : ∃ z, ni / di = z := ⟨_, rfl⟩
  obtain ⟨c, hc⟩ : ∃ z, nj / dj = z := ⟨_, rfl⟩
  rw [ha] at fi xi
  rw [hc] at fj xj bj
  have FI := Lib.hid (fun W => refFloor_as W vi ha)
  have FJ := Lib.hid (fun W => refFloor_as W vj hc)
  have SI := Lib.hid (fun W => refFrac_any W vi ha)
  have SJ := Lib.hid (fun W => refFrac_any W vj hc)
  have AL := Lib.hid (fun (s : Int) (h1 : Blw k D X (j + 1)) (h2 : s = 0 ↔ X (i + 1) % D = X (j + 1) % D) (h3 : s < 0 ↔ X (i + 1) % D < X (j + 1) % D) => orL_al (n := n) (k := k) hD hi hj bi h1 h2 h3)
  rw [xi, xj] at AL
  have RI := Lib.hid ri
  have RJ := Lib.hid rj
  have HD := Lib.hid hD
  have BJ := Lib.hid bj
  have KR := Lib.hid kr
  rw [hps, kn.1]
  subst hpo
  subst hko
  clear hP hK kn ho hX bi hv ei ej xi xj ri rj wj bj hni hdi hnj hdj hkj hD vi1 vj1 vi vj ha hc i3 i4 j3 j4 kr hps
  go_enter Try.func9, Try.ntmps9
  go_wp2_with fail
  refine (FI.out _).mono ?_
  rintro e w1 ⟨rfl, hb1⟩
  replace p0 := kept hb1 p0
  replace p1 := kept hb1 p1
  replace p2 := kept hb1 p2
  replace p3 := kept hb1 p3
  replace p4 := kept hb1 p4
  have B1 := Lib.hid hb1
  clear hb1
  go_wp2_with fail
  refine (FJ.out _).mono ?_
  rintro e w2 ⟨rfl, hb2⟩
  replace p0 := kept hb2 p0
  replace p1 := kept hb2 p1
  replace p2 := kept hb2 p2
  replace p3 := kept hb2 p3
  replace p4 := kept hb2 p4
  have B2 := Lib.hid (below_on B1.out hb2)
  clear hb2 B1
  have KR := Lib.hid (And.intro j1 j2)
  by_cases up : c > kj
  · have s0 : decide (kj < c) = true := by simpa using up
    clear up
    go_wp2_with fail
    go_ret2
    exact ⟨B2.out, Or.inl rfl⟩
  have s0 : decide (kj < c) = false := by simpa using up
  have BJ0 := Lib.hid up
  clear up
  by_cases eq : c = kj
  · by_cases d1 : dj = 1
    · have bj := Lib.hid (BJ.out.2 (fun h => by rcases h with h | ⟨_, h⟩; exact BJ0.out h; exact h d1))
      subst eq
      subst d1
      go_wp2_with fail
      refine (SI.out _).mono ?_
      rintro e w3 ⟨hb3, x, y, rfl, v1, e1⟩
      replace p2 := kept hb3 p2
      replace p3 := kept hb3 p3
      have B3 := Lib.hid (below_on B2.out hb3)
      clear hb3 p0 p1 p4
      go_upto_region 6 with (fail)
      obtain ⟨w4, hw4⟩ : ∃ w4, w4 = w3.alloc (.cells #[.int .i64 x, .int .i64 y] 38) := ⟨_, rfl⟩
      rw [← hw4]
      have T4 := Lib.hid (show Two w4 w3.heap.size (.int .i64 x) (.int .i64 y) by rw [hw4]; exact Two.made _ _ _ _)
      have b4 : Below w3.heap.size w3 w4 := by rw [hw4]; exact past_one (Below.refl _ _)
      replace p2 := kept b4 p2
      replace p3 := kept b4 p3
      have B4 := Lib.hid (below_on B3.out b4)
      clear hw4 b4
      generalize w3.heap.size = g1 at *
      clear B3
      go_wp2_with fail
      refine (SJ.out _).mono ?_
      rintro e w5 ⟨hb5, x', y', rfl, v2, e2⟩
      have T5 := Lib.hid (T4.out.kept hb5)
      have B5 := Lib.hid (below_on B4.out hb5)
      clear hb5 p2 p3 T4
      go_upto_region 7 with (fail)
      obtain ⟨w6, hw6⟩ : ∃ w6, w6 = w5.alloc (.cells #[.int .i64 x', .int .i64 y'] 38) := ⟨_, rfl⟩
      rw [← hw6]
      have U6 := Lib.hid (show Two w6 w5.heap.size (.int .i64 x') (.int .i64 y') by rw [hw6]; exact Two.made _ _ _ _)
      have b6 : Below w5.heap.size w5 w6 := by rw [hw6]; exact past_one (Below.refl _ _)
      have T6 := Lib.hid (T5.out.kept b6)
      have B6 := Lib.hid (below_on B5.out b6)
      clear hw6 b6
      generalize w5.heap.size = g2 at *
      clear B5 T5
      obtain ⟨x0, x1, x2, x3⟩ := T6.out.facts
      obtain ⟨x4, x5, x6, x7⟩ := U6.out.facts
      obtain ⟨s, hs⟩ : ∃ s, sgn (x * y') (x' * y) = s := ⟨_, rfl⟩
      have fc := fr_cmp HD.out (show 0 < y from by have := vld_pos v1; omega) (show 0 < y' from by have := vld_pos v2; omega) (frac_eq RI.out e1 (by omega)) (frac_eq RJ.out e2 (by have := KR.out; omega))
      have hs0 := Lib.hid (show s = 0 ↔ X (i + 1) % D = X (j + 1) % D from by rw [← fc.2, ← hs]; exact sgn_zero _ _)
      have hs1 := Lib.hid (show s < 0 ↔ X (i + 1) % D < X (j + 1) % D from by rw [← fc.1, ← hs]; exact sgn_less _ _)
      have s3 : s = 0 ∨ s = -1 ∨ s = 1 := by rw [← hs]; exact sgn_3 _ _
      have AL' := Lib.hid (AL.out s bj.out hs0.out hs1.out)
      go_wp2_with fail
      refine (refCmp_of _ v1 v2 hs).mono ?_
      rintro e w7 ⟨rfl, hb7⟩
      have B7 := Lib.hid (below_on B6.out hb7)
      clear hb7 x0 x1 x2 x3 x4 x5 x6 x7 T6 U6 B6 v1 v2 e1 e2 fc
      have lR := Lib.hid (orL_len i j (a - c) s)
      have q1 : wrap64 (a - c) = a - c := by unfold wrap64; omega
      have dr : -2147483647 ≤ a - c ∧ a - c ≤ 2147483647 := by omega
      clear hs hs0 hs1
      have q2 : wrap64 (2 * (a - c)) = 2 * (a - c) := by unfold wrap64; omega
      have q3 : wrap64 (2 * (a - c) + 1) = 2 * (a - c) + 1 := by unfold wrap64; omega
      have q4 : wrap64 (2 * (a - c) + 2) = 2 * (a - c) + 2 := by unfold wrap64; omega
      have q5 : wrap64 (-2 * (a - c)) = -2 * (a - c) := by unfold wrap64; omega
      have q6 : wrap64 (-2 * (a - c) + 1) = -2 * (a - c) + 1 := by unfold wrap64; omega
      have q7 : wrap64 (-2 * (a - c) + 2) = -2 * (a - c) + 2 := by unfold wrap64; omega
      rcases s3 with rfl | rfl | rfl
      · go_wp2_with fail
        go_ret2
        have el : orL i j (a - c) 0 = [(((i : Int) + 1), ((j : Int) + 1), (2 * (a - c) + 1)), (((j : Int) + 1), ((i : Int) + 1), (-2 * (a - c) + 1))] := by unfold orL; simp
        have cr := crow [.int .i64 ((i : Int) + 1), .int .i64 ((j : Int) + 1), .int .i64 (2 * (a - c) + 1), .int .i64 ((j : Int) + 1), .int .i64 ((i : Int) + 1), .int .i64 (-2 * (a - c) + 1)] 41 (w := w7) rfl
        refine ⟨below_on B7.out (past_one (Below.refl _ _)), Or.inr ⟨⟨w7.heap.size, 0, none⟩, orL i j (a - c) 0, by rw [lR.out]; rfl, lR.out, fun t u hu => ?_, AL'.out⟩⟩
        rw [el] at hu
        exact cr t u hu
      · go_wp2_with fail
        go_ret2
        have el : orL i j (a - c) (-1) = [(((i : Int) + 1), ((j : Int) + 1), (2 * (a - c))), (((j : Int) + 1), ((i : Int) + 1), (-2 * (a - c) + 2))] := by unfold orL; simp
        have cr := crow [.int .i64 ((i : Int) + 1), .int .i64 ((j : Int) + 1), .int .i64 (2 * (a - c)), .int .i64 ((j : Int) + 1), .int .i64 ((i : Int) + 1), .int .i64 (-2 * (a - c) + 2)] 41 (w := w7) rfl
        refine ⟨below_on B7.out (past_one (Below.refl _ _)), Or.inr ⟨⟨w7.heap.size, 0, none⟩, orL i j (a - c) (-1), by rw [lR.out]; rfl, lR.out, fun t u hu => ?_, AL'.out⟩⟩
        rw [el] at hu
        exact cr t u hu
      · go_wp2_with fail
        go_ret2
        have el : orL i j (a - c) 1 = [(((i : Int) + 1), ((j : Int) + 1), (2 * (a - c) + 2)), (((j : Int) + 1), ((i : Int) + 1), (-2 * (a - c)))] := by unfold orL; simp
        have cr := crow [.int .i64 ((i : Int) + 1), .int .i64 ((j : Int) + 1), .int .i64 (2 * (a - c) + 2), .int .i64 ((j : Int) + 1), .int .i64 ((i : Int) + 1), .int .i64 (-2 * (a - c))] 41 (w := w7) rfl
        refine ⟨below_on B7.out (past_one (Below.refl _ _)), Or.inr ⟨⟨w7.heap.size, 0, none⟩, orL i j (a - c) 1, by rw [lR.out]; rfl, lR.out, fun t u hu => ?_, AL'.out⟩⟩
        rw [el] at hu
        exact cr t u hu
    · have s1 : (dj == 1) = false := by simpa using d1
      have d1' := Lib.hid d1
      clear d1
      subst eq
      go_wp2_with fail
      go_ret2
      exact ⟨B2.out, Or.inl rfl⟩
  · have bj := Lib.hid (BJ.out.2 (fun h => by rcases h with h | ⟨h, _⟩; exact BJ0.out h; exact eq h))
    have s1 : (c == kj) = false := by simpa using eq
    clear eq
    go_wp2_with fail
    refine (SI.out _).mono ?_
    rintro e w3 ⟨hb3, x, y, rfl, v1, e1⟩
    replace p2 := kept hb3 p2
    replace p3 := kept hb3 p3
    have B3 := Lib.hid (below_on B2.out hb3)
    clear hb3 p0 p1 p4
    go_upto_region 6 with (fail)
    obtain ⟨w4, hw4⟩ : ∃ w4, w4 = w3.alloc (.cells #[.int .i64 x, .int .i64 y] 38) := ⟨_, rfl⟩
    rw [← hw4]
    have T4 := Lib.hid (show Two w4 w3.heap.size (.int .i64 x) (.int .i64 y) by rw [hw4]; exact Two.made _ _ _ _)
    have b4 : Below w3.heap.size w3 w4 := by rw [hw4]; exact past_one (Below.refl _ _)
    replace p2 := kept b4 p2
    replace p3 := kept b4 p3
    have B4 := Lib.hid (below_on B3.out b4)
    clear hw4 b4
    generalize w3.heap.size = g1 at *
    clear B3
    go_wp2_with fail
    refine (SJ.out _).mono ?_
    rintro e w5 ⟨hb5, x', y', rfl, v2, e2⟩
    have T5 := Lib.hid (T4.out.kept hb5)
    have B5 := Lib.hid (below_on B4.out hb5)
    clear hb5 p2 p3 T4
    go_upto_region 7 with (fail)
    obtain ⟨w6, hw6⟩ : ∃ w6, w6 = w5.alloc (.cells #[.int .i64 x', .int .i64 y'] 38) := ⟨_, rfl⟩
    rw [← hw6]
    have U6 := Lib.hid (show Two w6 w5.heap.size (.int .i64 x') (.int .i64 y') by rw [hw6]; exact Two.made _ _ _ _)
    have b6 : Below w5.heap.size w5 w6 := by rw [hw6]; exact past_one (Below.refl _ _)
    have T6 := Lib.hid (T5.out.kept b6)
    have B6 := Lib.hid (below_on B5.out b6)
    clear hw6 b6
    generalize w5.heap.size = g2 at *
    clear B5 T5
    obtain ⟨x0, x1, x2, x3⟩ := T6.out.facts
    obtain ⟨x4, x5, x6, x7⟩ := U6.out.facts
    obtain ⟨s, hs⟩ : ∃ s, sgn (x * y') (x' * y) = s := ⟨_, rfl⟩
    have fc := fr_cmp HD.out (show 0 < y from by have := vld_pos v1; omega) (show 0 < y' from by have := vld_pos v2; omega) (frac_eq RI.out e1 (by omega)) (frac_eq RJ.out e2 (by have := KR.out; omega))
    have hs0 := Lib.hid (show s = 0 ↔ X (i + 1) % D = X (j + 1) % D from by rw [← fc.2, ← hs]; exact sgn_zero _ _)
    have hs1 := Lib.hid (show s < 0 ↔ X (i + 1) % D < X (j + 1) % D from by rw [← fc.1, ← hs]; exact sgn_less _ _)
    have s3 : s = 0 ∨ s = -1 ∨ s = 1 := by rw [← hs]; exact sgn_3 _ _
    have AL' := Lib.hid (AL.out s bj.out hs0.out hs1.out)
    go_wp2_with fail
    refine (refCmp_of _ v1 v2 hs).mono ?_
    rintro e w7 ⟨rfl, hb7⟩
    have B7 := Lib.hid (below_on B6.out hb7)
    clear hb7 x0 x1 x2 x3 x4 x5 x6 x7 T6 U6 B6 v1 v2 e1 e2 fc
    have lR := Lib.hid (orL_len i j (a - c) s)
    have q1 : wrap64 (a - c) = a - c := by unfold wrap64; omega
    have dr : -2147483647 ≤ a - c ∧ a - c ≤ 2147483647 := by omega
    clear hs hs0 hs1
    have q2 : wrap64 (2 * (a - c)) = 2 * (a - c) := by unfold wrap64; omega
    have q3 : wrap64 (2 * (a - c) + 1) = 2 * (a - c) + 1 := by unfold wrap64; omega
    have q4 : wrap64 (2 * (a - c) + 2) = 2 * (a - c) + 2 := by unfold wrap64; omega
    have q5 : wrap64 (-2 * (a - c)) = -2 * (a - c) := by unfold wrap64; omega
    have q6 : wrap64 (-2 * (a - c) + 1) = -2 * (a - c) + 1 := by unfold wrap64; omega
    have q7 : wrap64 (-2 * (a - c) + 2) = -2 * (a - c) + 2 := by unfold wrap64; omega
    rcases s3 with rfl | rfl | rfl
    · go_wp2_with fail
      go_ret2
      have el : orL i j (a - c) 0 = [(((i : Int) + 1), ((j : Int) + 1), (2 * (a - c) + 1)), (((j : Int) + 1), ((i : Int) + 1), (-2 * (a - c) + 1))] := by unfold orL; simp
      have cr := crow [.int .i64 ((i : Int) + 1), .int .i64 ((j : Int) + 1), .int .i64 (2 * (a - c) + 1), .int .i64 ((j : Int) + 1), .int .i64 ((i : Int) + 1), .int .i64 (-2 * (a - c) + 1)] 41 (w := w7) rfl
      refine ⟨below_on B7.out (past_one (Below.refl _ _)), Or.inr ⟨⟨w7.heap.size, 0, none⟩, orL i j (a - c) 0, by rw [lR.out]; rfl, lR.out, fun t u hu => ?_, AL'.out⟩⟩
      rw [el] at hu
      exact cr t u hu
    · go_wp2_with fail
      go_ret2
      have el : orL i j (a - c) (-1) = [(((i : Int) + 1), ((j : Int) + 1), (2 * (a - c))), (((j : Int) + 1), ((i : Int) + 1), (-2 * (a - c) + 2))] := by unfold orL; simp
      have cr := crow [.int .i64 ((i : Int) + 1), .int .i64 ((j : Int) + 1), .int .i64 (2 * (a - c)), .int .i64 ((j : Int) + 1), .int .i64 ((i : Int) + 1), .int .i64 (-2 * (a - c) + 2)] 41 (w := w7) rfl
      refine ⟨below_on B7.out (past_one (Below.refl _ _)), Or.inr ⟨⟨w7.heap.size, 0, none⟩, orL i j (a - c) (-1), by rw [lR.out]; rfl, lR.out, fun t u hu => ?_, AL'.out⟩⟩
      rw [el] at hu
      exact cr t u hu
    · go_wp2_with fail
      go_ret2
      have el : orL i j (a - c) 1 = [(((i : Int) + 1), ((j : Int) + 1), (2 * (a - c) + 2)), (((j : Int) + 1), ((i : Int) + 1), (-2 * (a - c)))] := by unfold orL; simp
      have cr := crow [.int .i64 ((i : Int) + 1), .int .i64 ((j : Int) + 1), .int .i64 (2 * (a - c) + 2), .int .i64 ((j : Int) + 1), .int .i64 ((i : Int) + 1), .int .i64 (-2 * (a - c))] 41 (w := w7) rfl
      refine ⟨below_on B7.out (past_one (Below.refl _ _)), Or.inr ⟨⟨w7.heap.size, 0, none⟩, orL i j (a - c) 1, by rw [lR.out]; rfl, lR.out, fun t u hu => ?_, AL'.out⟩⟩
      rw [el] at hu
      exact cr t u hu
end Go.Proofs.Ytgdcclldgfcilaa

namespace Go.Proofs.Ytgdcclldgfcilaa

theorem ov_pos {D : Int} {X : Nat → Int} {ps : List Pq} (ho : Ov D X ps) (hv : ∀ t, t < ps.length → vldC (gp ps t) = true) {i : Nat} (hi : i ≤ ps.length) : 0 ≤ X i := by
  have e := ho.val i hi
  have v := clk_vld hv hi
  have d := vld_pos v.1
  have h : 0 ≤ (clk ps i).1 * D := Int.mul_nonneg v.2 (by have := ho.pos; omega)
  rw [← e] at h
  rcases Int.lt_or_le (X i) 0 with z | z
  · have := Int.mul_lt_mul_of_pos_right z (show 0 < (clk ps i).2 by omega)
    rw [Int.zero_mul] at this
    omega
  · exact z

theorem alike_ok {n : Nat} {l k : List Int} {ps : List Pq} (hc : chkE n l = 0) (kn : Kn n k) (hr : rdE n (Zo.clo n (wdM n k k l)) ps = 0) (hh : hsR n (Zo.clo n (wdM n k k l)) ps = true) :
    ps.length = n ∧ (∀ t, t < n → vldC (gp ps t) = true) ∧ ∃ (D : Int) (X : Nat → Int), Ov D X ps ∧ X 0 = 0 ∧ (∀ t, t ≤ n → 0 ≤ X t) ∧ ∀ cs : List Con, (∀ c ∈ cs, AlC n k D X c) → anG n cs l = 0 ∨ anG n cs l = 7 := by
  obtain ⟨hn, hl, hrl⟩ := chk_len hc
  obtain ⟨h1, h2, h3, h4⟩ := rd_parts hr
  have ov := ov_of h3
  obtain ⟨X, hX⟩ : ∃ X : Nat → Int, X = fun i => (clk ps i).1 * (dnP ps / (clk ps i).2) := ⟨_, rfl⟩
  rw [← hX] at ov
  have X0 : X 0 = 0 := by rw [hX]; simp [clk]
  have Xp : ∀ t, t ≤ n → 0 ≤ X t := fun t ht => ov_pos ov h3 (by omega)
  have wc := wd_closed hc kn kn
  have top : Zo.Top n (wdM n k k l) := ⟨wd_len hl, fun i j hi hj => by have := (wd_range hc kn kn hi hj).2; omega⟩
  have hIn := Zo.clo_complete ov.pos top ((has_in hr ov).1 hh)
  obtain ⟨E, Y, hE, hY0, hY, hYi, hYc⟩ := alike_point hc ov.pos kn X0 Xp hIn
  exact ⟨h2, fun t ht => h3 t (by omega), dnP ps, X, ov, X0, Xp, fun cs hcs => an_full hc hE hY0 hY hYi (fun c h => alC_ok kn ov.pos X0 Xp (hcs c h)) (fun c h => hYc c (hcs c h))⟩

theorem onL_len (i : Nat) (f k : Int) (wh : Bool) : (onL i f k wh).length ≤ 2 := by
  unfold onL
  split
  · split <;> simp
  · split <;> simp
end Go.Proofs.Ytgdcclldgfcilaa

namespace Go.Proofs.Ytgdcclldgfcilaa
open Go.RowKit

set_option maxRecDepth 100000 in
set_option maxHeartbeats 4000000 in
theorem wal_err (N : Int) (l k : List Int) (ao ko : Option Addr) (cap kc : Nat) (ps : List Pq) (po : Option Addr) (pc : Nat) (w : World) (h1 : b1B l.length k.length = false) (hp : ps.length ≤ 10) (GO : ∀ W, Below w.heap.size w W → Calls Try.prog 6 #[.agg #[.int .i64 N, .slice ao l.length cap], .slice ko k.length kc] W (fun e w' => e = .returned (.tuple #[.agg #[.int .i64 0, .slice none 0 0], .int .i64 2]) ∧ Below W.heap.size W w')) :
    Calls Try.prog 3 #[.agg #[.int .i64 N, .slice ao l.length cap], .slice ko k.length kc, .slice po ps.length pc] w (Made (.bool true) w) := by
  have SH := Lib.hid (fun W => shown6_any W)
  have D1 : decide ((10 : Int) < (ps.length : Int)) = false := by simp; omega
  obtain ⟨w0, hw0⟩ : ∃ w0, w0 = (w.alloc (.cells #[.int .i64 N, .slice ao l.length cap] 24)).alloc (.cells #[.slice ko k.length kc] 25) := ⟨_, rfl⟩
  have a0 : Al0 w w0 N ao ko l.length cap k.length kc := ⟨hw0⟩
  have E0 := Lib.hid a0.below
  have ZX := Lib.hid a0.two
  have BE := Lib.hid (show Calls Try.prog 4 #[.agg #[.int .i64 N, .slice ao l.length cap], .slice (some ⟨w.heap.size + 1, 0, none⟩) 1 1] w0 (Made (.bool false) w0) by
    have := beyond1_any N ao ko l.length cap k.length kc (w.heap.size + 1) w0 a0.row
    rwa [h1] at this)
  have HW0 := Lib.hid hw0
  have GO := Lib.hid GO
  clear hw0 a0 h1
  clear hp
  go_enter Try.func3, Try.ntmps3
  go_wp2_with fail
  rw [← HW0.out]
  refine BE.out.mono ?_
  rintro e w1 ⟨rfl, hb⟩
  have B1 := Lib.hid (below_on E0.out hb)
  have ZX := Lib.hid (ZX.out.kept hb)
  clear hb BE HW0
  obtain ⟨b0, b1, b2, b3⟩ := ZX.out.facts
  go_wp2_with fail
  refine (GO.out _ B1.out).mono ?_
  rintro e w2 ⟨rfl, hb⟩
  clear GO
  obtain ⟨v2, hv⟩ : ∃ v2, v2 = w2.alloc (.cells #[.int .i64 0, .slice none 0 0] 24) := ⟨_, rfl⟩
  have B2 := Lib.hid (show Below w.heap.size w v2 by rw [hv]; exact (below_on B1.out hb).alloc (below_on B1.out hb).size _)
  clear hb b0 b1 b2 b3
  go_upto_region 4 with (fail)
  rw [← hv]
  clear hv
  go_wp2_with fail
  refine (SH.out _).mono ?_
  rintro e ws ⟨rfl, hbs⟩
  have BS := Lib.hid (below_on B2.out hbs)
  clear hbs
  go_wp2_with fail
  go_ret
  exact ⟨rfl, BS.out⟩

set_option maxRecDepth 100000 in
set_option maxHeartbeats 4000000 in
theorem wal_len (N : Int) (l k : List Int) (ao ko : Option Addr) (cap kc : Nat) (ps : List Pq) (po : Option Addr) (pc : Nat) (w : World) (h1 : b1B l.length k.length = false) (hp : ps.length ≤ 10) (hne : (ps.length : Int) ≠ N) (A : List Int) (GO : ∀ W, Below w.heap.size w W → Calls Try.prog 6 #[.agg #[.int .i64 N, .slice ao l.length cap], .slice ko k.length kc] W (fun e w' => ∃ g c, e = .returned (.tuple #[.agg #[.int .i64 N, .slice (some ⟨g, 0, none⟩) A.length c], .int .i64 0]) ∧ W.heap.size ≤ g ∧ Own w' g c A ∧ Below W.heap.size W w')) :
    Calls Try.prog 3 #[.agg #[.int .i64 N, .slice ao l.length cap], .slice ko k.length kc, .slice po ps.length pc] w (Made (.bool true) w) := by
  have D4 : ((ps.length : Int) != N) = true := by simpa using hne
  have SH := Lib.hid (fun W => shown6_any W)
  have D1 : decide ((10 : Int) < (ps.length : Int)) = false := by simp; omega
  obtain ⟨w0, hw0⟩ : ∃ w0, w0 = (w.alloc (.cells #[.int .i64 N, .slice ao l.length cap] 24)).alloc (.cells #[.slice ko k.length kc] 25) := ⟨_, rfl⟩
  have a0 : Al0 w w0 N ao ko l.length cap k.length kc := ⟨hw0⟩
  have E0 := Lib.hid a0.below
  have ZX := Lib.hid a0.two
  have BE := Lib.hid (show Calls Try.prog 4 #[.agg #[.int .i64 N, .slice ao l.length cap], .slice (some ⟨w.heap.size + 1, 0, none⟩) 1 1] w0 (Made (.bool false) w0) by
    have := beyond1_any N ao ko l.length cap k.length kc (w.heap.size + 1) w0 a0.row
    rwa [h1] at this)
  have HW0 := Lib.hid hw0
  have GO := Lib.hid GO
  clear hw0 a0 h1
  clear hp hne
  go_enter Try.func3, Try.ntmps3
  go_wp2_with fail
  rw [← HW0.out]
  refine BE.out.mono ?_
  rintro e w1 ⟨rfl, hb⟩
  have B1 := Lib.hid (below_on E0.out hb)
  have ZX := Lib.hid (ZX.out.kept hb)
  clear hb BE HW0
  obtain ⟨b0, b1, b2, b3⟩ := ZX.out.facts
  go_wp2_with fail
  refine (GO.out _ B1.out).mono ?_
  rintro e w2 ⟨ga, ca, rfl, _, hO, hb⟩
  clear GO
  obtain ⟨v2, hv⟩ : ∃ v2, v2 = w2.alloc (.cells #[.int .i64 N, .slice (some ⟨ga, 0, none⟩) A.length ca] 24) := ⟨_, rfl⟩
  have X2 := Lib.hid (show Two v2 w2.heap.size (.int .i64 N) (.slice (some ⟨ga, 0, none⟩) A.length ca) by rw [hv]; exact Two.made _ _ _ _)
  have A2 := Lib.hid (show Own v2 ga ca A by rw [hv]; exact hO.alloc _)
  have H2 := Lib.hid (show Below w1.heap.size w1 v2 by rw [hv]; exact hb.alloc hb.size _)
  have B2 := Lib.hid (below_on B1.out H2.out)
  have ZX := Lib.hid (ZX.out.kept H2.out)
  clear hb hO b0 b1 b2 b3
  go_upto_region 4 with (fail)
  rw [← hv]
  clear hv
  obtain ⟨b0, b1, b2, b3⟩ := ZX.out.facts
  go_wp2_with fail
  refine (SH.out _).mono ?_
  rintro e ws ⟨rfl, hbs⟩
  have BS := Lib.hid (below_on B2.out hbs)
  clear hbs
  go_wp2_with fail
  go_ret
  exact ⟨rfl, BS.out⟩

set_option maxRecDepth 100000 in
set_option maxHeartbeats 4000000 in
theorem wal_no1 (N : Int) (l k : List Int) (ao ko : Option Addr) (cap kc : Nat) (ps : List Pq) (po : Option Addr) (pc : Nat) (w : World) (h1 : b1B l.length k.length = false) (hp : ps.length ≤ 10) (hpN : (ps.length : Int) = N) (hkN : (k.length : Int) = N) (A : List Int) (GO : ∀ W, Below w.heap.size w W → Calls Try.prog 6 #[.agg #[.int .i64 N, .slice ao l.length cap], .slice ko k.length kc] W (fun e w' => ∃ g c, e = .returned (.tuple #[.agg #[.int .i64 N, .slice (some ⟨g, 0, none⟩) A.length c], .int .i64 0]) ∧ W.heap.size ≤ g ∧ Own w' g c A ∧ Below W.heap.size W w')) (rd : Int) (hs : Bool) (hx : rd ≠ 0) (HA : ∀ W g c, Own W g c A → Below w.heap.size w W → Calls Try.prog 7 #[.agg #[.int .i64 N, .slice (some ⟨g, 0, none⟩) A.length c], .slice po ps.length pc] W (Made (.tuple #[.bool hs, .int .i64 rd]) W)) :
    Calls Try.prog 3 #[.agg #[.int .i64 N, .slice ao l.length cap], .slice ko k.length kc, .slice po ps.length pc] w (Made (.bool true) w) := by
  have D4 : ((ps.length : Int) != N) = false := by simpa using hpN
  have D5 : ((k.length : Int) != N) = false := by simpa using hkN
  have D7 : (rd != 0) = true := by simpa using hx
  clear hx
  have HA := Lib.hid HA
  have SH := Lib.hid (fun W => shown6_any W)
  have D1 : decide ((10 : Int) < (ps.length : Int)) = false := by simp; omega
  obtain ⟨w0, hw0⟩ : ∃ w0, w0 = (w.alloc (.cells #[.int .i64 N, .slice ao l.length cap] 24)).alloc (.cells #[.slice ko k.length kc] 25) := ⟨_, rfl⟩
  have a0 : Al0 w w0 N ao ko l.length cap k.length kc := ⟨hw0⟩
  have E0 := Lib.hid a0.below
  have ZX := Lib.hid a0.two
  have BE := Lib.hid (show Calls Try.prog 4 #[.agg #[.int .i64 N, .slice ao l.length cap], .slice (some ⟨w.heap.size + 1, 0, none⟩) 1 1] w0 (Made (.bool false) w0) by
    have := beyond1_any N ao ko l.length cap k.length kc (w.heap.size + 1) w0 a0.row
    rwa [h1] at this)
  have HW0 := Lib.hid hw0
  have GO := Lib.hid GO
  clear hw0 a0 h1
  clear hp hpN hkN
  go_enter Try.func3, Try.ntmps3
  go_wp2_with fail
  rw [← HW0.out]
  refine BE.out.mono ?_
  rintro e w1 ⟨rfl, hb⟩
  have B1 := Lib.hid (below_on E0.out hb)
  have ZX := Lib.hid (ZX.out.kept hb)
  clear hb BE HW0
  obtain ⟨b0, b1, b2, b3⟩ := ZX.out.facts
  go_wp2_with fail
  refine (GO.out _ B1.out).mono ?_
  rintro e w2 ⟨ga, ca, rfl, _, hO, hb⟩
  clear GO
  obtain ⟨v2, hv⟩ : ∃ v2, v2 = w2.alloc (.cells #[.int .i64 N, .slice (some ⟨ga, 0, none⟩) A.length ca] 24) := ⟨_, rfl⟩
  have X2 := Lib.hid (show Two v2 w2.heap.size (.int .i64 N) (.slice (some ⟨ga, 0, none⟩) A.length ca) by rw [hv]; exact Two.made _ _ _ _)
  have A2 := Lib.hid (show Own v2 ga ca A by rw [hv]; exact hO.alloc _)
  have H2 := Lib.hid (show Below w1.heap.size w1 v2 by rw [hv]; exact hb.alloc hb.size _)
  have B2 := Lib.hid (below_on B1.out H2.out)
  have ZX := Lib.hid (ZX.out.kept H2.out)
  clear hb hO b0 b1 b2 b3
  go_upto_region 4 with (fail)
  rw [← hv]
  clear hv
  obtain ⟨b0, b1, b2, b3⟩ := ZX.out.facts
  go_upto_region 6 with (fail)
  obtain ⟨x0, x1, x2, x3⟩ := X2.out.facts
  have HB := Lib.hid (HA.out v2 ga ca A2.out B2.out)
  clear HA b0 b1 b2 b3
  go_wp2_with fail
  refine HB.out.mono ?_
  rintro e w3 ⟨rfl, hb⟩
  have B3 := Lib.hid (below_on B2.out hb)
  clear hb HB x0 x1 x2 x3 X2 A2
  go_wp2_with fail
  refine (SH.out _).mono ?_
  rintro e ws ⟨rfl, hbs⟩
  have BS := Lib.hid (below_on B3.out hbs)
  clear hbs
  go_wp2_with fail
  go_ret
  exact ⟨rfl, BS.out⟩

set_option maxRecDepth 100000 in
set_option maxHeartbeats 4000000 in
theorem wal_no2 (N : Int) (l k : List Int) (ao ko : Option Addr) (cap kc : Nat) (ps : List Pq) (po : Option Addr) (pc : Nat) (w : World) (h1 : b1B l.length k.length = false) (hp : ps.length ≤ 10) (hpN : (ps.length : Int) = N) (hkN : (k.length : Int) = N) (A : List Int) (GO : ∀ W, Below w.heap.size w W → Calls Try.prog 6 #[.agg #[.int .i64 N, .slice ao l.length cap], .slice ko k.length kc] W (fun e w' => ∃ g c, e = .returned (.tuple #[.agg #[.int .i64 N, .slice (some ⟨g, 0, none⟩) A.length c], .int .i64 0]) ∧ W.heap.size ≤ g ∧ Own w' g c A ∧ Below W.heap.size W w')) (rd : Int) (hs : Bool) (hx : rd = 0 ∧ hs = false) (HA : ∀ W g c, Own W g c A → Below w.heap.size w W → Calls Try.prog 7 #[.agg #[.int .i64 N, .slice (some ⟨g, 0, none⟩) A.length c], .slice po ps.length pc] W (Made (.tuple #[.bool hs, .int .i64 rd]) W)) :
    Calls Try.prog 3 #[.agg #[.int .i64 N, .slice ao l.length cap], .slice ko k.length kc, .slice po ps.length pc] w (Made (.bool true) w) := by
  have D4 : ((ps.length : Int) != N) = false := by simpa using hpN
  have D5 : ((k.length : Int) != N) = false := by simpa using hkN
  obtain ⟨rfl, rfl⟩ := hx
  have HA := Lib.hid HA
  have SH := Lib.hid (fun W => shown6_any W)
  have D1 : decide ((10 : Int) < (ps.length : Int)) = false := by simp; omega
  obtain ⟨w0, hw0⟩ : ∃ w0, w0 = (w.alloc (.cells #[.int .i64 N, .slice ao l.length cap] 24)).alloc (.cells #[.slice ko k.length kc] 25) := ⟨_, rfl⟩
  have a0 : Al0 w w0 N ao ko l.length cap k.length kc := ⟨hw0⟩
  have E0 := Lib.hid a0.below
  have ZX := Lib.hid a0.two
  have BE := Lib.hid (show Calls Try.prog 4 #[.agg #[.int .i64 N, .slice ao l.length cap], .slice (some ⟨w.heap.size + 1, 0, none⟩) 1 1] w0 (Made (.bool false) w0) by
    have := beyond1_any N ao ko l.length cap k.length kc (w.heap.size + 1) w0 a0.row
    rwa [h1] at this)
  have HW0 := Lib.hid hw0
  have GO := Lib.hid GO
  clear hw0 a0 h1
  clear hp hpN hkN
  go_enter Try.func3, Try.ntmps3
  go_wp2_with fail
  rw [← HW0.out]
  refine BE.out.mono ?_
  rintro e w1 ⟨rfl, hb⟩
  have B1 := Lib.hid (below_on E0.out hb)
  have ZX := Lib.hid (ZX.out.kept hb)
  clear hb BE HW0
  obtain ⟨b0, b1, b2, b3⟩ := ZX.out.facts
  go_wp2_with fail
  refine (GO.out _ B1.out).mono ?_
  rintro e w2 ⟨ga, ca, rfl, _, hO, hb⟩
  clear GO
  obtain ⟨v2, hv⟩ : ∃ v2, v2 = w2.alloc (.cells #[.int .i64 N, .slice (some ⟨ga, 0, none⟩) A.length ca] 24) := ⟨_, rfl⟩
  have X2 := Lib.hid (show Two v2 w2.heap.size (.int .i64 N) (.slice (some ⟨ga, 0, none⟩) A.length ca) by rw [hv]; exact Two.made _ _ _ _)
  have A2 := Lib.hid (show Own v2 ga ca A by rw [hv]; exact hO.alloc _)
  have H2 := Lib.hid (show Below w1.heap.size w1 v2 by rw [hv]; exact hb.alloc hb.size _)
  have B2 := Lib.hid (below_on B1.out H2.out)
  have ZX := Lib.hid (ZX.out.kept H2.out)
  clear hb hO b0 b1 b2 b3
  go_upto_region 4 with (fail)
  rw [← hv]
  clear hv
  obtain ⟨b0, b1, b2, b3⟩ := ZX.out.facts
  go_upto_region 6 with (fail)
  obtain ⟨x0, x1, x2, x3⟩ := X2.out.facts
  have HB := Lib.hid (HA.out v2 ga ca A2.out B2.out)
  clear HA b0 b1 b2 b3
  go_wp2_with fail
  refine HB.out.mono ?_
  rintro e w3 ⟨rfl, hb⟩
  have B3 := Lib.hid (below_on B2.out hb)
  clear hb HB x0 x1 x2 x3 X2 A2
  go_wp2_with fail
  refine (SH.out _).mono ?_
  rintro e ws ⟨rfl, hbs⟩
  have BS := Lib.hid (below_on B3.out hbs)
  clear hbs
  go_wp2_with fail
  go_ret
  exact ⟨rfl, BS.out⟩
end Go.Proofs.Ytgdcclldgfcilaa

namespace Go.Proofs.Ytgdcclldgfcilaa
open Go.RowKit

theorem conV_appd (a b : List Con) : conV (a ++ b) = conV a ++ conV b := by unfold conV; rw [List.flatMap_append]

theorem conV_one (a : List Con) : ∀ u ∈ conV a, u.oneCell' = true := by
  unfold conV
  intro u hu
  obtain ⟨x, _, hx⟩ := List.mem_flatMap.1 hu
  simp only [List.mem_cons, List.not_mem_nil, or_false] at hx
  rcases hx with rfl | rfl | rfl <;> rfl

set_option maxRecDepth 100000 in
set_option maxHeartbeats 16000000 in
theorem wal_yes (n : Nat) (N : Int) (l k : List Int) (ao ko : Option Addr) (cap kc : Nat) (ps : List Pq) (po : Option Addr) (pc : Nat) (w : World) (hNn : N = n) (h1 : b1B l.length k.length = false) (hp : ps.length ≤ 10) (hpn : ps.length = n) (kn : Kn n k) (hS : Src w ao l cap) (hK : Src w ko k kc) (hP : Arg2 w po ps) (A : List Int) (GO : ∀ W, Below w.heap.size w W → Calls Try.prog 6 #[.agg #[.int .i64 N, .slice ao l.length cap], .slice ko k.length kc] W (fun e w' => ∃ g c, e = .returned (.tuple #[.agg #[.int .i64 N, .slice (some ⟨g, 0, none⟩) A.length c], .int .i64 0]) ∧ W.heap.size ≤ g ∧ Own w' g c A ∧ Below W.heap.size W w')) (HA : ∀ W g c, Own W g c A → Below w.heap.size w W → Calls Try.prog 7 #[.agg #[.int .i64 N, .slice (some ⟨g, 0, none⟩) A.length c], .slice po ps.length pc] W (Made (.tuple #[.bool true, .int .i64 0]) W))
    (hv : ∀ t, t < n → vldC (gp ps t) = true) (D : Int) (X : Nat → Int) (ov : Ov D X ps) (X0 : X 0 = 0) (Xp : ∀ t, t ≤ n → 0 ≤ X t) (hcs : ∀ cs : List Con, (∀ c ∈ cs, AlC n k D X c) → anG n cs l = 0 ∨ anG n cs l = 7) :
    Calls Try.prog 3 #[.agg #[.int .i64 N, .slice ao l.length cap], .slice ko k.length kc, .slice po ps.length pc] w (Made (.bool true) w) := by
  obtain ⟨i0, hi, hz0, hz1, hz2⟩ := info_parts con_info
  have D4 : ((ps.length : Int) != N) = false := by simp; omega
  have D5 : ((k.length : Int) != N) = false := by have := kn.1; simp; omega
  have hl : k.length ≤ 50 ∧ l.length ≤ 200 := by unfold b1B at h1; simp at h1; omega
  have HA := Lib.hid HA
  have AN := Lib.hid (fun W (cs : List Con) dao dc (hb : Below w.heap.size w W) (hD : Arg3 W dao cs) (hl : cs.length ≤ 1000) => (an_gen N l ao cap cs dao dc W (hS.on hb).1 hD hl).mono fun e w' h => h.zv2)
  have GD := Lib.hid (show ∀ cs : List Con, (∀ c ∈ cs, AlC n k D X c) → anG N cs l = 0 ∨ anG N cs l = 7 from by rw [hNn]; exact hcs)
  have CP := Lib.hid (show ∀ W, Below w.heap.size w W → ∀ t, t < n → ∃ b, po = some b ∧ W.cell? (b.add (t * 2)) = some (.int .i64 (gp ps t).1) ∧ W.cell? ⟨(b.add (t * 2)).block, (b.add (t * 2)).off + 1, none⟩ = some (.int .i64 (gp ps t).2) from fun W hb t ht => by
    obtain ⟨b, e, hr⟩ := hP (fun q => by rw [q] at hpn; simp at hpn; omega)
    exact ⟨b, e, kept hb (hr t (by omega)).1, kept hb (hr t (by omega)).2⟩)
  have CK := Lib.hid (show ∀ W, Below w.heap.size w W → ∀ t, t < n → ∃ b, ko = some b ∧ W.cell? (b.add t) = some (.int .i64 (Zo.gt k t)) from fun W hb t ht => (hK.on hb).1.get (by rw [kn.1]; exact ht))
  have OR := Lib.hid (fun W (hb : Below w.heap.size w W) i j (hi : i < n) (hj : j < n) (bi : Blw k D X (i + 1)) => order_any n ps po pc k ko kc i j W D X (by omega) (hP.on hb) hpn hv (hK.on hb).1 kn hi hj ov Xp bi)
  have RB := Lib.hid (show ∀ t, t < n → ∃ (nm dn kt f : Int) (wh : Bool), nm = (gp ps t).1 ∧ dn = (gp ps t).2 ∧ kt = Zo.gt k t ∧ nm / dn = f ∧ vldC (nm, dn) = true ∧ 0 ≤ f ∧ f ≤ 2147483647 ∧ -1 ≤ kt ∧ kt ≤ 1048576 ∧ wh = decide (dn = 1) ∧ (∀ c ∈ onL t f kt wh, AlC n k D X c) ∧ (¬ (f > kt ∨ (f = kt ∧ wh = false)) → Blw k D X (t + 1)) from fun t ht => by
    have vi := hv t ht
    have ei := ov.val (t + 1) (by omega)
    rw [show clk ps (t + 1) = gp ps t from by unfold clk; rw [if_neg (by omega)]; rfl] at ei
    obtain ⟨nm, hnm⟩ : ∃ z, z = (gp ps t).1 := ⟨_, rfl⟩
    obtain ⟨dn, hdn⟩ : ∃ z, z = (gp ps t).2 := ⟨_, rfl⟩
    rw [show gp ps t = (nm, dn) from by rw [hnm, hdn]] at vi ei
    obtain ⟨v1, i1, i2, i3, i4⟩ := vldC_parts vi
    have fi := fl_range i1 i3 i4
    have xi := fl_eq ov.pos (show 0 < dn by omega) ei
    have wi := whole_iff v1 ov.pos ei
    have bi := blw_iff (k := k) ov.pos (Xp (t + 1) (by omega))
    have al := onL_al (n := n) (k := k) (wh := decide (dn = 1)) ov.pos X0 ht (Xp (t + 1) (by omega)) (by rw [wi]; simp)
    rw [xi, wi] at bi
    rw [xi] at al
    refine ⟨nm, dn, Zo.gt k t, nm / dn, decide (dn = 1), hnm, hdn, rfl, rfl, vi, fi.1, fi.2, (kn.2 t ht).1, (kn.2 t ht).2, rfl, al, fun h => bi.2 (fun h' => h ?_)⟩
    rcases h' with q | ⟨q, q'⟩
    · exact Or.inl q
    · exact Or.inr ⟨q, by simpa using q'⟩)
  have PN := Lib.hid hpn
  have KL := Lib.hid kn.1
  clear hpn
  have SH := Lib.hid (fun W => shown6_any W)
  have D1 : decide ((10 : Int) < (ps.length : Int)) = false := by simp; omega
  obtain ⟨w0, hw0⟩ : ∃ w0, w0 = (w.alloc (.cells #[.int .i64 N, .slice ao l.length cap] 24)).alloc (.cells #[.slice ko k.length kc] 25) := ⟨_, rfl⟩
  have a0 : Al0 w w0 N ao ko l.length cap k.length kc := ⟨hw0⟩
  have E0 := Lib.hid a0.below
  have ZX := Lib.hid a0.two
  have BE := Lib.hid (show Calls Try.prog 4 #[.agg #[.int .i64 N, .slice ao l.length cap], .slice (some ⟨w.heap.size + 1, 0, none⟩) 1 1] w0 (Made (.bool false) w0) by
    have := beyond1_any N ao ko l.length cap k.length kc (w.heap.size + 1) w0 a0.row
    rwa [h1] at this)
  have HW0 := Lib.hid hw0
  have GO := Lib.hid GO
  clear hw0 a0 h1
  have NN := Lib.hid hNn
  clear hS hK hP kn hv ov X0 Xp hcs hl hNn
  go_enter Try.func3, Try.ntmps3
  go_wp2_with fail
  rw [← HW0.out]
  refine BE.out.mono ?_
  rintro e w1 ⟨rfl, hb⟩
  have B1 := Lib.hid (below_on E0.out hb)
  have ZX := Lib.hid (ZX.out.kept hb)
  clear hb BE HW0
  obtain ⟨b0, b1, b2, b3⟩ := ZX.out.facts
  go_wp2_with fail
  refine (GO.out _ B1.out).mono ?_
  rintro e w2 ⟨ga, ca, rfl, _, hO, hb⟩
  clear GO
  obtain ⟨v2, hv⟩ : ∃ v2, v2 = w2.alloc (.cells #[.int .i64 N, .slice (some ⟨ga, 0, none⟩) A.length ca] 24) := ⟨_, rfl⟩
  have X2 := Lib.hid (show Two v2 w2.heap.size (.int .i64 N) (.slice (some ⟨ga, 0, none⟩) A.length ca) by rw [hv]; exact Two.made _ _ _ _)
  have A2 := Lib.hid (show Own v2 ga ca A by rw [hv]; exact hO.alloc _)
  have H2 := Lib.hid (show Below w1.heap.size w1 v2 by rw [hv]; exact hb.alloc hb.size _)
  have B2 := Lib.hid (below_on B1.out H2.out)
  have ZX := Lib.hid (ZX.out.kept H2.out)
  clear hb hO b0 b1 b2 b3
  go_upto_region 4 with (fail)
  rw [← hv]
  clear hv
  obtain ⟨b0, b1, b2, b3⟩ := ZX.out.facts
  go_upto_region 6 with (fail)
  obtain ⟨x0, x1, x2, x3⟩ := X2.out.facts
  have HB := Lib.hid (HA.out v2 ga ca A2.out B2.out)
  clear HA b0 b1 b2 b3
  go_wp2_with fail
  refine HB.out.mono ?_
  rintro e w3 ⟨rfl, hb⟩
  have B3 := Lib.hid (below_on B2.out hb)
  have H3 := Lib.hid hb
  clear hb HB x0 x1 x2 x3 X2 A2 D4 D5 D1
  go_wp2_with fail
  go_loopw [11, 12] (fun v s wr => ∃ (t : Nat) (cs : List Con), s = .int .i64 t ∧ t ≤ ps.length ∧ Hid (OwnC wr v2.heap.size v cs ∧ Below v2.heap.size v2 wr) ∧ Hid (cs.length ≤ 22 * t) ∧ Hid (∀ c ∈ cs, AlC n k D X c)) (fun _ s _ => ps.length - (intOf s).toNat)
  case atStart => exact ⟨0, [], rfl, by omega, Lib.hid ⟨OwnC.nil _ _, H3.out⟩, Lib.hid (by simp), Lib.hid (fun c hc => by simp at hc)⟩
  case round =>
    generalize wr = wo at *
    obtain ⟨t, cs, rfl, ht, HO, HLn, HAL⟩ := hrel
    by_cases htl : t < ps.length
    · have htn : t < n := by have := PN.out; omega
      have HTN := Lib.hid htn
      have htk : t < k.length := by have := KL.out; omega
      obtain ⟨pa, hpo, e0, e1⟩ := CP.out _ (below_on B2.out HO.out.2) t htn
      obtain ⟨ka, hko, e2⟩ := CK.out _ (below_on B2.out HO.out.2) t htn
      obtain ⟨nm, dn, kt, f, wh, hnm, hdn, hkt, hf, vi, f0, f1, k0, k1, hwh, on, bi⟩ := RB.out t htn
      rw [← hnm] at e0
      rw [← hdn] at e1
      rw [← hkt] at e2
      have ON := Lib.hid on
      have BI := Lib.hid bi
      have FI := Lib.hid (fun W => refFloor_as W vi hf)
      have HPO := Lib.hid hpo
      have HKO := Lib.hid hko
      have d1 : (dn == 1) = wh := by rw [hwh]; simp [BEq.beq]
      have fk1 : kt < f ∨ f = kt ∨ f < kt := by omega
      have w1 : wrap64 ((t : Int) + 1) = (t : Int) + 1 := by have := PN.out; unfold wrap64; omega
      have w2 : wrap64 (2 * f) = 2 * f := by unfold wrap64; omega
      have w3' : wrap64 (2 * f + 1) = 2 * f + 1 := by unfold wrap64; omega
      have w4 : wrap64 (-2 * f) = -2 * f := by unfold wrap64; omega
      have w5' : wrap64 (-2 * f + 1) = -2 * f + 1 := by unfold wrap64; omega
      have w6' : wrap64 (2 * f + 2) = 2 * f + 2 := by unfold wrap64; omega
      have w7 : wrap64 (-2 * kt) = -2 * kt := by unfold wrap64; omega
      clear hnm hdn hkt hf vi on bi hwh htn
      subst hpo
      subst hko
      go_wp2_with fail
      refine (FI.out _).mono ?_
      rintro e w4 ⟨rfl, hb4⟩
      replace HO := Lib.hid (And.intro (HO.out.1.on hb4) (below_on HO.out.2 hb4))
      replace e0 := kept hb4 e0
      replace e1 := kept hb4 e1
      replace e2 := kept hb4 e2
      clear hb4
      go_upto_region 17 with (fail)
      clear e0 e1 d1
      rcases fk1 with h | h | h
      · have s0 : decide (kt < f) = true := by simpa using h
        by_cases hk : 0 ≤ kt
        · have s1 : decide (0 ≤ kt) = true := by simpa using hk
          have EQ := Lib.hid (show onL t f kt wh = [(0, (t : Int) + 1, -2 * kt)] by unfold onL; rw [if_pos (Or.inl h), if_pos hk])
          clear h hk
          go_wp2_with (at_builtin; refine wpList_append_own _ rfl _ _ 34 rfl v2.heap.size 41 i0 (.agg #[.int .i64 0, .int .i64 0, .int .i64 0]) 3 24 Try.underlying34 hi hz0 hz1 hz2 rfl (by decide) _ _ _ rfl (World.ownsRow.alloc HO.out.1 _) ⟨w4.heap.size, 0, none⟩ 1 1 [.int .i64 0, .int .i64 ((t : Int) + 1), .int .i64 (-2 * kt)] rfl rfl ?_ (by simp [Value.oneCell']) (by have := HLn.out; unfold maxLen; omega) (by have := HLn.out; omega) (by have := HO.out.2.size; simp; omega) ?_)
          · exact crow [.int .i64 0, .int .i64 ((t : Int) + 1), .int .i64 (-2 * kt)] 41 rfl
          intro v' w5 hown5 hgrow _
          have B5 := Lib.hid (show Below v2.heap.size v2 w5 from Below.grown (HO.out.2.alloc HO.out.2.size _) hgrow (by have := HO.out.2.size; simp; omega) (fun k hk => (World.ownsRow.lt HO.out.1 k hk).1))
          have O5 := Lib.hid (show OwnC w5 v2.heap.size v' (cs ++ onL t f kt wh) by rw [EQ.out]; unfold OwnC; rw [conV_appd, List.length_append]; exact hown5)
          clear hown5 hgrow
          go_wp2_with fail
          go_roundw
          case rel =>
            refine ⟨t + 1, cs ++ onL t f kt wh, by go_num, by omega, Lib.hid ⟨O5.out, B5.out⟩, Lib.hid ?_, Lib.hid (fun c hc => ?_)⟩
            · have h1 := HLn.out
              have h2 := onL_len t f kt wh
              rw [List.length_append]; omega
            · rcases List.mem_append.1 hc with q | q
              · exact HAL.out c q
              · exact ON.out c q
          case measure => simp [intOf]; omega
        · have s1 : decide (0 ≤ kt) = false := by simpa using hk
          clear h hk
          have EQ := Lib.hid (show True from trivial)
          go_wp2_with fail
          go_roundw
          case rel => exact ⟨t + 1, cs, by go_num, by omega, Lib.hid ⟨HO.out.1, HO.out.2⟩, Lib.hid (by have := HLn.out; omega), HAL⟩
          case measure => simp [intOf]; omega
      · have s0 : decide (kt < f) = false := by simp; omega
        have s1 : (f == kt) = true := by simpa using h
        cases hw : wh
        · have s2 : decide (0 ≤ kt) = true := by simp; omega
          rw [hw] at ON
          have EQ := Lib.hid (show onL t f kt false = [(0, (t : Int) + 1, -2 * kt)] by unfold onL; rw [if_pos (Or.inr ⟨h, rfl⟩), if_pos (by omega)])
          clear h hw BI
          go_wp2_with (at_builtin; refine wpList_append_own _ rfl _ _ 34 rfl v2.heap.size 41 i0 (.agg #[.int .i64 0, .int .i64 0, .int .i64 0]) 3 24 Try.underlying34 hi hz0 hz1 hz2 rfl (by decide) _ _ _ rfl (World.ownsRow.alloc HO.out.1 _) ⟨w4.heap.size, 0, none⟩ 1 1 [.int .i64 0, .int .i64 ((t : Int) + 1), .int .i64 (-2 * kt)] rfl rfl ?_ (by simp [Value.oneCell']) (by have := HLn.out; unfold maxLen; omega) (by have := HLn.out; omega) (by have := HO.out.2.size; simp; omega) ?_)
          · exact crow [.int .i64 0, .int .i64 ((t : Int) + 1), .int .i64 (-2 * kt)] 41 rfl
          intro v' w5 hown5 hgrow _
          have B5 := Lib.hid (show Below v2.heap.size v2 w5 from Below.grown (HO.out.2.alloc HO.out.2.size _) hgrow (by have := HO.out.2.size; simp; omega) (fun k hk => (World.ownsRow.lt HO.out.1 k hk).1))
          have O5 := Lib.hid (show OwnC w5 v2.heap.size v' (cs ++ onL t f kt false) by rw [EQ.out]; unfold OwnC; rw [conV_appd, List.length_append]; exact hown5)
          clear hown5 hgrow
          go_wp2_with fail
          go_roundw
          case rel =>
            refine ⟨t + 1, cs ++ onL t f kt false, by go_num, by omega, Lib.hid ⟨O5.out, B5.out⟩, Lib.hid ?_, Lib.hid (fun c hc => ?_)⟩
            · have h1 := HLn.out
              have h2 := onL_len t f kt false
              rw [List.length_append]; omega
            · rcases List.mem_append.1 hc with q | q
              · exact HAL.out c q
              · exact ON.out c q
          case measure => simp [intOf]; omega
        · rw [hw] at ON BI
          have EQ := Lib.hid (show onL t f kt true = [((t : Int) + 1, 0, 2 * f + 1), (0, (t : Int) + 1, -2 * f + 1)] by unfold onL; rw [if_neg (by intro q; rcases q with q | ⟨_, q⟩ <;> first | omega | cases q), if_pos rfl])
          have BL := Lib.hid (BI.out (by intro q; rcases q with q | ⟨_, q⟩ <;> first | omega | cases q))
          clear h hw BI
          go_wp2_with (at_builtin; refine wpList_append_own _ rfl _ _ 34 rfl v2.heap.size 41 i0 (.agg #[.int .i64 0, .int .i64 0, .int .i64 0]) 3 24 Try.underlying34 hi hz0 hz1 hz2 rfl (by decide) _ _ _ rfl (World.ownsRow.alloc HO.out.1 _) ⟨w4.heap.size, 0, none⟩ 2 2 [.int .i64 ((t : Int) + 1), .int .i64 0, .int .i64 (2 * f + 1), .int .i64 0, .int .i64 ((t : Int) + 1), .int .i64 (-2 * f + 1)] rfl rfl ?_ (by simp [Value.oneCell']) (by have := HLn.out; unfold maxLen; omega) (by have := HLn.out; omega) (by have := HO.out.2.size; simp; omega) ?_)
          · exact crow [.int .i64 ((t : Int) + 1), .int .i64 0, .int .i64 (2 * f + 1), .int .i64 0, .int .i64 ((t : Int) + 1), .int .i64 (-2 * f + 1)] 41 rfl
          intro v' w5 hown5 hgrow _
          have B5 := Lib.hid (show Below v2.heap.size v2 w5 from Below.grown (HO.out.2.alloc HO.out.2.size _) hgrow (by have := HO.out.2.size; simp; omega) (fun k hk => (World.ownsRow.lt HO.out.1 k hk).1))
          have O5 := Lib.hid (show OwnC w5 v2.heap.size v' (cs ++ onL t f kt true) by rw [EQ.out]; unfold OwnC; rw [conV_appd, List.length_append]; exact hown5)
          clear hown5 hgrow
          go_wp2_with fail
          go_loopw [11, 16] (fun v s wr => ∃ (j : Nat) (cs : List Con), s = .int .i64 j ∧ j ≤ t ∧ Hid (OwnC wr v2.heap.size v cs ∧ Below v2.heap.size v2 wr) ∧ Hid (cs.length ≤ 22 * t + 2 + 2 * j) ∧ Hid (∀ c ∈ cs, AlC n k D X c)) (fun _ s _ => t - (intOf s).toNat)
          case atStart =>
            refine ⟨0, cs ++ onL t f kt true, rfl, by omega, Lib.hid ⟨O5.out, B5.out⟩, Lib.hid ?_, Lib.hid (fun c hc => ?_)⟩
            · have h1 := HLn.out
              have h2 := onL_len t f kt true
              rw [List.length_append]; omega
            · rcases List.mem_append.1 hc with q | q
              · exact HAL.out c q
              · exact ON.out c q
          case round =>
            obtain ⟨j, cs2, rfl, hj, HO2, HLn2, HAL2⟩ := hrel
            by_cases hjt : j < t
            · have QR := Lib.hid (OR.out wr (below_on B2.out HO2.out.2) t j HTN.out (by have := HTN.out; omega) BL.out)
              go_wp2_with fail
              refine QR.out.mono ?_
              rintro e w6 ⟨hb6, (rfl | ⟨qa, q2, rfl, ql, qc, qal⟩)⟩
              · have O6 := Lib.hid (HO2.out.1.on hb6)
                have B6 := Lib.hid (below_on HO2.out.2 hb6)
                clear hb6
                go_wp2_with fail
                go_roundw
                case rel => exact ⟨j + 1, cs2, by go_num, by omega, Lib.hid ⟨O6.out, B6.out⟩, Lib.hid (by have := HLn2.out; omega), HAL2⟩
                case measure => simp [intOf]; omega
              · have O6 := Lib.hid (HO2.out.1.on hb6)
                have B6 := Lib.hid (below_on HO2.out.2 hb6)
                have QL := Lib.hid ql
                have QA := Lib.hid qal
                clear hb6 ql qal
                go_wp2_with (at_builtin; refine wpList_append_own _ rfl _ _ 34 rfl v2.heap.size 41 i0 (.agg #[.int .i64 0, .int .i64 0, .int .i64 0]) 3 24 Try.underlying34 hi hz0 hz1 hz2 rfl (by decide) _ _ _ rfl O6.out qa q2.length q2.length (conV q2) rfl (conV_len q2) qc (conV_one q2) (by have := HLn2.out; have := QL.out; unfold maxLen; omega) (by have := HLn2.out; have := QL.out; omega) B6.out.size ?_)
                intro v' w7 hown7 hgrow _
                have B7 := Lib.hid (show Below v2.heap.size v2 w7 from Below.grown B6.out hgrow B6.out.size (fun k hk => (World.ownsRow.lt O6.out k hk).1))
                have O7 := Lib.hid (show OwnC w7 v2.heap.size v' (cs2 ++ q2) by unfold OwnC; rw [conV_appd, List.length_append]; exact hown7)
                clear hown7 hgrow qc
                go_wp2_with fail
                go_roundw
                case rel =>
                  refine ⟨j + 1, cs2 ++ q2, by go_num, by omega, Lib.hid ⟨O7.out, B7.out⟩, Lib.hid ?_, Lib.hid (fun c hc => ?_)⟩
                  · have h1 := HLn2.out
                    have h2 := QL.out
                    rw [List.length_append]; omega
                  · rcases List.mem_append.1 hc with q | q
                    · exact HAL2.out c q
                    · exact QA.out c q
                case measure => simp [intOf]; omega
            · have hjt' : j = t := by omega
              clear hj hjt
              go_wp2_with fail
              go_roundw
              case rel => exact ⟨t + 1, cs2, by go_num, by omega, Lib.hid ⟨HO2.out.1, HO2.out.2⟩, Lib.hid (by have := HLn2.out; omega), HAL2⟩
              case measure => simp [intOf]; omega
      · have s0 : decide (kt < f) = false := by simp; omega
        have s1 : (f == kt) = false := by simp; omega
        have BL := Lib.hid (BI.out (by intro q; rcases q with q | ⟨q, _⟩ <;> omega))
        cases hw : wh
        · rw [hw] at ON
          have EQ := Lib.hid (show onL t f kt false = [((t : Int) + 1, 0, 2 * f + 2), (0, (t : Int) + 1, -2 * f)] by unfold onL; rw [if_neg (by intro q; rcases q with q | ⟨q, _⟩ <;> omega), if_neg (by simp)])
          clear h hw BI
          go_wp2_with (at_builtin; refine wpList_append_own _ rfl _ _ 34 rfl v2.heap.size 41 i0 (.agg #[.int .i64 0, .int .i64 0, .int .i64 0]) 3 24 Try.underlying34 hi hz0 hz1 hz2 rfl (by decide) _ _ _ rfl (World.ownsRow.alloc HO.out.1 _) ⟨w4.heap.size, 0, none⟩ 2 2 [.int .i64 ((t : Int) + 1), .int .i64 0, .int .i64 (2 * f + 2), .int .i64 0, .int .i64 ((t : Int) + 1), .int .i64 (-2 * f)] rfl rfl ?_ (by simp [Value.oneCell']) (by have := HLn.out; unfold maxLen; omega) (by have := HLn.out; omega) (by have := HO.out.2.size; simp; omega) ?_)
          · exact crow [.int .i64 ((t : Int) + 1), .int .i64 0, .int .i64 (2 * f + 2), .int .i64 0, .int .i64 ((t : Int) + 1), .int .i64 (-2 * f)] 41 rfl
          intro v' w5 hown5 hgrow _
          have B5 := Lib.hid (show Below v2.heap.size v2 w5 from Below.grown (HO.out.2.alloc HO.out.2.size _) hgrow (by have := HO.out.2.size; simp; omega) (fun k hk => (World.ownsRow.lt HO.out.1 k hk).1))
          have O5 := Lib.hid (show OwnC w5 v2.heap.size v' (cs ++ onL t f kt false) by rw [EQ.out]; unfold OwnC; rw [conV_appd, List.length_append]; exact hown5)
          clear hown5 hgrow
          go_wp2_with fail
          go_loopw [11, 16] (fun v s wr => ∃ (j : Nat) (cs : List Con), s = .int .i64 j ∧ j ≤ t ∧ Hid (OwnC wr v2.heap.size v cs ∧ Below v2.heap.size v2 wr) ∧ Hid (cs.length ≤ 22 * t + 2 + 2 * j) ∧ Hid (∀ c ∈ cs, AlC n k D X c)) (fun _ s _ => t - (intOf s).toNat)
          case atStart =>
            refine ⟨0, cs ++ onL t f kt false, rfl, by omega, Lib.hid ⟨O5.out, B5.out⟩, Lib.hid ?_, Lib.hid (fun c hc => ?_)⟩
            · have h1 := HLn.out
              have h2 := onL_len t f kt false
              rw [List.length_append]; omega
            · rcases List.mem_append.1 hc with q | q
              · exact HAL.out c q
              · exact ON.out c q
          case round =>
            obtain ⟨j, cs2, rfl, hj, HO2, HLn2, HAL2⟩ := hrel
            by_cases hjt : j < t
            · have QR := Lib.hid (OR.out wr (below_on B2.out HO2.out.2) t j HTN.out (by have := HTN.out; omega) BL.out)
              go_wp2_with fail
              refine QR.out.mono ?_
              rintro e w6 ⟨hb6, (rfl | ⟨qa, q2, rfl, ql, qc, qal⟩)⟩
              · have O6 := Lib.hid (HO2.out.1.on hb6)
                have B6 := Lib.hid (below_on HO2.out.2 hb6)
                clear hb6
                go_wp2_with fail
                go_roundw
                case rel => exact ⟨j + 1, cs2, by go_num, by omega, Lib.hid ⟨O6.out, B6.out⟩, Lib.hid (by have := HLn2.out; omega), HAL2⟩
                case measure => simp [intOf]; omega
              · have O6 := Lib.hid (HO2.out.1.on hb6)
                have B6 := Lib.hid (below_on HO2.out.2 hb6)
                have QL := Lib.hid ql
                have QA := Lib.hid qal
                clear hb6 ql qal
                go_wp2_with (at_builtin; refine wpList_append_own _ rfl _ _ 34 rfl v2.heap.size 41 i0 (.agg #[.int .i64 0, .int .i64 0, .int .i64 0]) 3 24 Try.underlying34 hi hz0 hz1 hz2 rfl (by decide) _ _ _ rfl O6.out qa q2.length q2.length (conV q2) rfl (conV_len q2) qc (conV_one q2) (by have := HLn2.out; have := QL.out; unfold maxLen; omega) (by have := HLn2.out; have := QL.out; omega) B6.out.size ?_)
                intro v' w7 hown7 hgrow _
                have B7 := Lib.hid (show Below v2.heap.size v2 w7 from Below.grown B6.out hgrow B6.out.size (fun k hk => (World.ownsRow.lt O6.out k hk).1))
                have O7 := Lib.hid (show OwnC w7 v2.heap.size v' (cs2 ++ q2) by unfold OwnC; rw [conV_appd, List.length_append]; exact hown7)
                clear hown7 hgrow qc
                go_wp2_with fail
                go_roundw
                case rel =>
                  refine ⟨j + 1, cs2 ++ q2, by go_num, by omega, Lib.hid ⟨O7.out, B7.out⟩, Lib.hid ?_, Lib.hid (fun c hc => ?_)⟩
                  · have h1 := HLn2.out
                    have h2 := QL.out
                    rw [List.length_append]; omega
                  · rcases List.mem_append.1 hc with q | q
                    · exact HAL2.out c q
                    · exact QA.out c q
                case measure => simp [intOf]; omega
            · have hjt' : j = t := by omega
              clear hj hjt
              go_wp2_with fail
              go_roundw
              case rel => exact ⟨t + 1, cs2, by go_num, by omega, Lib.hid ⟨HO2.out.1, HO2.out.2⟩, Lib.hid (by have := HLn2.out; omega), HAL2⟩
              case measure => simp [intOf]; omega
        · rw [hw] at ON
          have EQ := Lib.hid (show onL t f kt true = [((t : Int) + 1, 0, 2 * f + 1), (0, (t : Int) + 1, -2 * f + 1)] by unfold onL; rw [if_neg (by intro q; rcases q with q | ⟨q, _⟩ <;> omega), if_pos rfl])
          clear h hw BI
          go_wp2_with (at_builtin; refine wpList_append_own _ rfl _ _ 34 rfl v2.heap.size 41 i0 (.agg #[.int .i64 0, .int .i64 0, .int .i64 0]) 3 24 Try.underlying34 hi hz0 hz1 hz2 rfl (by decide) _ _ _ rfl (World.ownsRow.alloc HO.out.1 _) ⟨w4.heap.size, 0, none⟩ 2 2 [.int .i64 ((t : Int) + 1), .int .i64 0, .int .i64 (2 * f + 1), .int .i64 0, .int .i64 ((t : Int) + 1), .int .i64 (-2 * f + 1)] rfl rfl ?_ (by simp [Value.oneCell']) (by have := HLn.out; unfold maxLen; omega) (by have := HLn.out; omega) (by have := HO.out.2.size; simp; omega) ?_)
          · exact crow [.int .i64 ((t : Int) + 1), .int .i64 0, .int .i64 (2 * f + 1), .int .i64 0, .int .i64 ((t : Int) + 1), .int .i64 (-2 * f + 1)] 41 rfl
          intro v' w5 hown5 hgrow _
          have B5 := Lib.hid (show Below v2.heap.size v2 w5 from Below.grown (HO.out.2.alloc HO.out.2.size _) hgrow (by have := HO.out.2.size; simp; omega) (fun k hk => (World.ownsRow.lt HO.out.1 k hk).1))
          have O5 := Lib.hid (show OwnC w5 v2.heap.size v' (cs ++ onL t f kt true) by rw [EQ.out]; unfold OwnC; rw [conV_appd, List.length_append]; exact hown5)
          clear hown5 hgrow
          go_wp2_with fail
          go_loopw [11, 16] (fun v s wr => ∃ (j : Nat) (cs : List Con), s = .int .i64 j ∧ j ≤ t ∧ Hid (OwnC wr v2.heap.size v cs ∧ Below v2.heap.size v2 wr) ∧ Hid (cs.length ≤ 22 * t + 2 + 2 * j) ∧ Hid (∀ c ∈ cs, AlC n k D X c)) (fun _ s _ => t - (intOf s).toNat)
          case atStart =>
            refine ⟨0, cs ++ onL t f kt true, rfl, by omega, Lib.hid ⟨O5.out, B5.out⟩, Lib.hid ?_, Lib.hid (fun c hc => ?_)⟩
            · have h1 := HLn.out
              have h2 := onL_len t f kt true
              rw [List.length_append]; omega
            · rcases List.mem_append.1 hc with q | q
              · exact HAL.out c q
              · exact ON.out c q
          case round =>
            obtain ⟨j, cs2, rfl, hj, HO2, HLn2, HAL2⟩ := hrel
            by_cases hjt : j < t
            · have QR := Lib.hid (OR.out wr (below_on B2.out HO2.out.2) t j HTN.out (by have := HTN.out; omega) BL.out)
              go_wp2_with fail
              refine QR.out.mono ?_
              rintro e w6 ⟨hb6, (rfl | ⟨qa, q2, rfl, ql, qc, qal⟩)⟩
              · have O6 := Lib.hid (HO2.out.1.on hb6)
                have B6 := Lib.hid (below_on HO2.out.2 hb6)
                clear hb6
                go_wp2_with fail
                go_roundw
                case rel => exact ⟨j + 1, cs2, by go_num, by omega, Lib.hid ⟨O6.out, B6.out⟩, Lib.hid (by have := HLn2.out; omega), HAL2⟩
                case measure => simp [intOf]; omega
              · have O6 := Lib.hid (HO2.out.1.on hb6)
                have B6 := Lib.hid (below_on HO2.out.2 hb6)
                have QL := Lib.hid ql
                have QA := Lib.hid qal
                clear hb6 ql qal
                go_wp2_with (at_builtin; refine wpList_append_own _ rfl _ _ 34 rfl v2.heap.size 41 i0 (.agg #[.int .i64 0, .int .i64 0, .int .i64 0]) 3 24 Try.underlying34 hi hz0 hz1 hz2 rfl (by decide) _ _ _ rfl O6.out qa q2.length q2.length (conV q2) rfl (conV_len q2) qc (conV_one q2) (by have := HLn2.out; have := QL.out; unfold maxLen; omega) (by have := HLn2.out; have := QL.out; omega) B6.out.size ?_)
                intro v' w7 hown7 hgrow _
                have B7 := Lib.hid (show Below v2.heap.size v2 w7 from Below.grown B6.out hgrow B6.out.size (fun k hk => (World.ownsRow.lt O6.out k hk).1))
                have O7 := Lib.hid (show OwnC w7 v2.heap.size v' (cs2 ++ q2) by unfold OwnC; rw [conV_appd, List.length_append]; exact hown7)
                clear hown7 hgrow qc
                go_wp2_with fail
                go_roundw
                case rel =>
                  refine ⟨j + 1, cs2 ++ q2, by go_num, by omega, Lib.hid ⟨O7.out, B7.out⟩, Lib.hid ?_, Lib.hid (fun c hc => ?_)⟩
                  · have h1 := HLn2.out
                    have h2 := QL.out
                    rw [List.length_append]; omega
                  · rcases List.mem_append.1 hc with q | q
                    · exact HAL2.out c q
                    · exact QA.out c q
                case measure => simp [intOf]; omega
            · have hjt' : j = t := by omega
              clear hj hjt
              go_wp2_with fail
              go_roundw
              case rel => exact ⟨t + 1, cs2, by go_num, by omega, Lib.hid ⟨HO2.out.1, HO2.out.2⟩, Lib.hid (by have := HLn2.out; omega), HAL2⟩
              case measure => simp [intOf]; omega
    · have htt : t = ps.length := by omega
      obtain ⟨co, cc, rfl, hA3⟩ := HO.out.1.arg
      have HA3 := Lib.hid hA3
      have BW := Lib.hid (below_on B2.out HO.out.2)
      have LN := Lib.hid (show cs.length ≤ 1000 by have := HLn.out; omega)
      have GE0 := Lib.hid (GD.out cs HAL.out)
      obtain ⟨z0, z1, z2, z3⟩ := (ZX.out.kept HO.out.2).facts
      have AX := Lib.hid (AN.out wo cs co cc BW.out HA3.out LN.out)
      generalize zrN (anG N cs l) N = M1 at *
      generalize zrL (anG N cs l) (Zo.clo N.toNat (anL N.toNat cs l)) = m1 at *
      generalize anG N cs l = er at *
      clear hA3 htt
      go_wp2_with fail
      refine AX.out.mono ?_
      rintro e w6 ⟨a6, c6, rfl, _, _, _, _, hb⟩
      have B6 := Lib.hid (show Below w.heap.size w (w6.alloc (.cells #[.int .i64 M1, .slice a6 m1.length c6] 24)) from (below_on BW.out hb).alloc (below_on BW.out hb).size _)
      clear hb z0 z1 z2 z3
      by_cases he : er = 0
      · have DE : (er == 0) = true := by simpa using he
        go_wp2_with fail
        refine (SH.out _).mono ?_
        rintro e ws ⟨rfl, hbs⟩
        have BS := Lib.hid (below_on B6.out hbs)
        clear hbs
        go_wp2_with fail
        go_ret
        exact ⟨rfl, BS.out⟩
      · have DE : (er == 0) = false := by simpa using he
        have DE7 : (er == 7) = true := GE0.out.elim (fun q => absurd q he) (fun q => by simpa using q)
        clear he
        go_wp2_with fail
        refine (SH.out _).mono ?_
        rintro e ws ⟨rfl, hbs⟩
        have BS := Lib.hid (below_on B6.out hbs)
        clear hbs
        go_wp2_with fail
        go_ret
        exact ⟨rfl, BS.out⟩
end Go.Proofs.Ytgdcclldgfcilaa

namespace Go.Proofs.Ytgdcclldgfcilaa
open Go.RowKit

theorem widenalike_any (N : Int) (l k : List Int) (ao ko : Option Addr) (cap kc : Nat) (ps : List Pq) (po : Option Addr) (pc : Nat) (w : World) (hA : Arg w ao l) (hK : Arg w ko k) (n1 : ao = none → l = [] ∧ cap = 0) (n2 : ko = none → k = [] ∧ kc = 0) (hP : Arg2 w po ps) (hF : Fits ps) :
    Calls Try.prog 3 #[.agg #[.int .i64 N, .slice ao l.length cap], .slice ko k.length kc, .slice po ps.length pc] w (Made (.bool true) w) := by
  cases h1 : b1B l.length k.length
  case true => exact wal_long N l k ao ko cap kc ps po pc w (Or.inl h1)
  case false =>
    by_cases hp : ps.length ≤ 10
    case neg => exact wal_long N l k ao ko cap kc ps po pc w (Or.inr (by omega))
    case pos =>
      have hl : k.length ≤ 50 ∧ l.length ≤ 200 := by unfold b1B at h1; simp at h1; omega
      have hS : Src w ao l cap := ⟨hA, n1⟩
      have hKS : Src w ko k kc := ⟨hK, n2⟩
      by_cases he : wdE N k k l = 0
      case neg =>
        refine wal_err N l k ao ko cap kc ps po pc w h1 hp fun W hb => (wgreatest_gen N l ao cap k ko kc W (hS.on hb).1 (hKS.on hb).1 hKS.2 (by omega)).mono fun e w' q => ?_
        have := q.no he
        rwa [wdE_two he] at this
      case pos =>
        obtain ⟨c1, c2, _⟩ := wdE_ok he
        obtain ⟨n, rfl, _⟩ := chk_ok c1
        have kn := ksB_kn c2
        have GO : ∀ W, Below w.heap.size w W → Calls Try.prog 6 #[.agg #[.int .i64 n, .slice ao l.length cap], .slice ko k.length kc] W (fun e w' => ∃ g c, e = .returned (.tuple #[.agg #[.int .i64 n, .slice (some ⟨g, 0, none⟩) (Zo.clo n (wdM n k k l)).length c], .int .i64 0]) ∧ W.heap.size ≤ g ∧ Own w' g c (Zo.clo n (wdM n k k l)) ∧ Below W.heap.size W w') := fun W hb => (wgreatest_gen n l ao cap k ko kc W (hS.on hb).1 (hKS.on hb).1 hKS.2 (by omega)).mono fun e w' q => by
          have := q.ok he
          rw [show Zo.clo (n : Int).toNat (wdM (n : Int).toNat k k l) = Zo.clo n (wdM n k k l) by simp] at this
          exact this
        by_cases hpn : ps.length = n
        case neg => exact wal_len n l k ao ko cap kc ps po pc w h1 hp (by omega) _ GO
        case pos =>
          have HA := fun W g c (hO : Own W g c (Zo.clo n (wdM n k k l))) (hb : Below w.heap.size w W) => has_gen n (Zo.clo n (wdM n k k l)) (some ⟨g, 0, none⟩) c ps po pc W hO.arg (hP.on hb) hF
          have OK := alike_ok (ps := ps) c1 kn
          by_cases hr : rdE n (Zo.clo n (wdM n k k l)) ps = 0
          case neg => exact wal_no1 n l k ao ko cap kc ps po pc w h1 hp (by omega) (by have := kn.1; omega) _ GO _ _ hr HA
          case pos =>
            cases hh : hsR n (Zo.clo n (wdM n k k l)) ps
            case false => exact wal_no2 n l k ao ko cap kc ps po pc w h1 hp (by omega) (by have := kn.1; omega) _ GO _ _ ⟨hr, hh⟩ HA
            case true =>
              obtain ⟨_, hv, D, X, ov, X0, Xp, hcs⟩ := OK hr hh
              rw [hr, hh] at HA
              exact wal_yes n n l k ao ko cap kc ps po pc w rfl h1 hp hpn kn hS hKS hP _ GO HA hv D X ov X0 Xp hcs
end Go.Proofs.Ytgdcclldgfcilaa
