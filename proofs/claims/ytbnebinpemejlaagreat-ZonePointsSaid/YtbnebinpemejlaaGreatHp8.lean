/- Plain mathematics: intervals: what 'within' keeps, over one denominator.; Plain mathematics: the reference's choices are the project's; Stay.; Plain mathematics: the reference's Point is the project's.; The contract of the statements' SameRatios.; The contract of the statements' limits of layer 3.; The changes of layer 3's Reset and Copy.; Contracts of layer 3's Reset and Copy.; Contracts of Close, Zero and All of layer 3's reference.; The contract of layer 3's Close.; Contracts of Zero and All of layer 3's reference.; Contracts of slices.Repeat at one limit, and layer 3's Zero and All.; Contracts of layer 3's uniform, Zero and All.; What the examples of layer 3 are, but for Stay.; Equality of two intervals.; Contracts of slices.Equal at limits and layer 3's Same. -/
import Derived.Test.YtbnebinpemejlaaGreatHp7
import Derived.Test.YtbnebinpemejlaaGreatHp5
import Derived.Test.YtbnebinpemejlaaGreatHp2
import Derived.Shelf.Bits.Mul64
import Derived.Test.YtbnebinpemejlaaGreatHp3
import Derived.DeepKeys

namespace Go.Proofs.YtbnebinpemejlaaGreat

/-- The ratio n / d is N / D. -/
structure Sc (D n d N : Int) : Prop where
  vld : vldB n d = true
  val : N * d = n * D

theorem scale_cmp {A B N M D q : Int} (hD : 0 < D) (hq : 0 < q) (e1 : A * D = N * q) (e2 : B * D = M * q) : (A < B ↔ N < M) ∧ (A = B ↔ N = M) := by
  refine ⟨⟨fun h => ?_, fun h => ?_⟩, ⟨fun h => ?_, fun h => ?_⟩⟩
  · have := Int.mul_lt_mul_of_pos_right h hD
    rw [e1, e2] at this
    exact Int.lt_of_mul_lt_mul_right this (by omega)
  · have := Int.mul_lt_mul_of_pos_right h hq
    rw [← e1, ← e2] at this
    exact Int.lt_of_mul_lt_mul_right this (by omega)
  · subst h
    rw [e1] at e2
    exact Int.eq_of_mul_eq_mul_right (by omega) e2
  · subst h
    rw [← e1] at e2
    exact Int.eq_of_mul_eq_mul_right (by omega) e2.symm

theorem sc_cmp {D n d N m c M : Int} (hD : 0 < D) (h : Sc D n d N) (k : Sc D m c M) : (n * c < m * d ↔ N < M) ∧ (n * c = m * d ↔ N = M) := by
  have p1 := vld_pos h.vld
  have p2 := vld_pos k.vld
  refine scale_cmp hD (q := d * c) (Int.mul_pos (by omega) (by omega)) ?_ ?_
  · rw [Int.mul_right_comm, ← h.val, Int.mul_assoc]
  · rw [Int.mul_right_comm, ← k.val, Int.mul_assoc, Int.mul_comm c d]

theorem lsB_sc {D n d N m c M : Int} (hD : 0 < D) (h : Sc D n d N) (k : Sc D m c M) (e : Bool) : lsB n d m c e = (decide (N < M) || (decide (N = M) && e)) := by
  obtain ⟨h1, h2⟩ := sc_cmp hD h k
  unfold lsB
  rw [h.vld, k.vld]
  simp only [Bool.and_self, if_true]
  rw [decide_eq_decide.2 h1, decide_eq_decide.2 h2]

theorem sh_sc {D n d N c : Int} (h : Sc D n d N) (e : shE n d c = 0) : Sc D (shN n d c) (shD n d c) (N + c * D) := by
  have p1 := vld_pos h.vld
  unfold shE opErr at e
  rw [h.vld] at e
  simp only [if_true] at e
  obtain ⟨_, v, val⟩ := mk_ok e
  have en : shN n d c = mkNum (n * 1 + c * d) (d * 1) := by unfold shN opNum; rw [h.vld]; rfl
  have ed : shD n d c = mkDen (n * 1 + c * d) (d * 1) := by unfold shD opDen; rw [h.vld]; rfl
  rw [en, ed]
  refine ⟨v, ?_⟩
  generalize mkNum (n * 1 + c * d) (d * 1) = P at *
  generalize mkDen (n * 1 + c * d) (d * 1) = Q at *
  rw [Int.mul_one, Int.mul_one] at val
  have hv := h.val
  have key : (N + c * D) * Q * d = P * D * d := by
    rw [Int.mul_right_comm P D d, val]
    rw [Int.mul_right_comm (N + c * D) Q d, Int.add_mul N, hv]
    rw [Int.add_mul (n * D), Int.add_mul n, Int.add_mul (n * Q)]
    congr 1
    · rw [Int.mul_right_comm]
    · rw [Int.mul_right_comm c D d, Int.mul_right_comm (c * d) D Q]
  exact Int.eq_of_mul_eq_mul_right (by omega) key

def noL' (u : Int) : Prop := u = 1099511627776

/-- The greatest: the least of the upper bounds. -/
def HiInv (D : Int) (x : Dl) (H : Int) (t : Nat) (Nv U : Nat → Int) : Prop :=
  (x.nh = true → ∀ s, s < t → U s = 1099511627776) ∧
  (x.nh = false → Sc D x.hn x.hd H ∧ (∃ s, s < t ∧ U s ≠ 1099511627776 ∧ H = Nv s + U s / 2 * D ∧ x.ho = decide (U s % 2 = 0)) ∧
    ∀ s, s < t → U s ≠ 1099511627776 → (H < Nv s + U s / 2 * D ∨ (H = Nv s + U s / 2 * D ∧ (U s % 2 = 0 → x.ho = true))))

/-- The least: the greatest of the lower bounds, and of 0. -/
def LoInv (D : Int) (x : Dl) (L : Int) (t : Nat) (Nv W : Nat → Int) : Prop :=
  Sc D x.ln x.ld L ∧ 0 ≤ L ∧ ((L = 0 ∧ x.lo = false) ∨ ∃ s, s < t ∧ W s ≠ 1099511627776 ∧ L = Nv s - W s / 2 * D ∧ x.lo = decide (W s % 2 = 0)) ∧
    ∀ s, s < t → W s ≠ 1099511627776 → (Nv s - W s / 2 * D < L ∨ (Nv s - W s / 2 * D = L ∧ (W s % 2 = 0 → x.lo = true)))

theorem sp_some {u : Int} (hl : lvB u = true) (hn : u ≠ 1099511627776) : spE u = 0 ∧ spC u = u / 2 ∧ spS u = decide (u % 2 = 0) := by
  have : noB u = false := by simp [noB, hn]
  simp [spE, spC, spS, hl, this, evB]

theorem sp_none : spE 1099511627776 = 4 := by decide

theorem hi_step {D : Int} {x : Dl} {H n d N u : Int} {t : Nat} {Nv U : Nat → Int} (hD : 0 < D) (h : HiInv D x H t Nv U) (hs : Sc D n d N) (hN : Nv t = N) (hU : U t = u) (hl : lvB u = true) (e : wuE n d u = 0) :
    ∃ H', HiInv D (wuL x n d u) H' (t + 1) Nv U := by
  obtain ⟨h1, h2⟩ := h
  by_cases hn : u = 1099511627776
  · refine ⟨H, ?_⟩
    have : wuL x n d u = x := by unfold wuL; rw [hn, sp_none]; rfl
    rw [this]
    refine ⟨fun q s hst => ?_, fun q => ?_⟩
    · by_cases c : s = t
      · subst c; rw [hU, hn]
      · exact h1 q s (by omega)
    · obtain ⟨a, ⟨s, s1, s2⟩, b⟩ := h2 q
      refine ⟨a, ⟨s, by omega, s2⟩, fun s hst hne => ?_⟩
      by_cases c : s = t
      · subst c; exact absurd (hU.trans hn) hne
      · exact b s (by omega) hne
  · obtain ⟨p1, p2, p3⟩ := sp_some hl hn
    have es : shE n d (u / 2) = 0 := by unfold wuE at e; rw [if_pos p1, p2] at e; exact e
    have hB := sh_sc hs es
    have ew : wuL x n d u = if x.nh || lsB (shN n d (u / 2)) (shD n d (u / 2)) x.hn x.hd (decide (u % 2 = 0)) then { x with hn := shN n d (u / 2), hd := shD n d (u / 2), ho := decide (u % 2 = 0), nh := false } else x := by
      unfold wuL; rw [if_pos p1, p2, p3]
    rw [ew]
    cases hnh : x.nh
    · obtain ⟨a, ⟨s, s1, s2, s3, s4⟩, b⟩ := h2 hnh
      have hls := lsB_sc hD hB a (decide (u % 2 = 0))
      rw [hls]
      by_cases c : N + u / 2 * D < H ∨ (N + u / 2 * D = H ∧ u % 2 = 0)
      · have : (false || (decide (N + u / 2 * D < H) || (decide (N + u / 2 * D = H) && decide (u % 2 = 0)))) = true := by simpa using c
        rw [if_pos this]
        refine ⟨N + u / 2 * D, And.intro (fun q => by cases q) (fun _ => And.intro hB (And.intro ⟨t, by omega, by rw [hU]; exact hn, by rw [hN, hU], by rw [hU]⟩ (fun s hst hne => ?_)))⟩
        by_cases k : s = t
        · subst k; right; rw [hN, hU]; exact ⟨rfl, fun q => by simp [q]⟩
        · rcases b s (by omega) hne with g | ⟨g1, g2⟩
          · left; rcases c with c | c <;> omega
          · rcases c with c | ⟨c1, c2⟩
            · left; omega
            · right; exact ⟨by omega, fun _ => by simp [c2]⟩
      · have : ¬ (false || (decide (N + u / 2 * D < H) || (decide (N + u / 2 * D = H) && decide (u % 2 = 0)))) = true := by simpa using c
        rw [if_neg this]
        refine ⟨H, And.intro (fun q => by rw [hnh] at q; cases q) (fun _ => And.intro a (And.intro ⟨s, by omega, s2, s3, s4⟩ (fun s hst hne => ?_)))⟩
        by_cases k : s = t
        · subst k; rw [hN, hU]
          by_cases g : H < N + u / 2 * D
          · exact Or.inl g
          · right; exact ⟨by omega, fun q => by exfalso; omega⟩
        · exact b s (by omega) hne
    · simp only [Bool.true_or, if_true]
      refine ⟨N + u / 2 * D, And.intro (fun q => by cases q) (fun _ => And.intro hB (And.intro ⟨t, by omega, by rw [hU]; exact hn, by rw [hN, hU], by rw [hU]⟩ (fun s hst hne => ?_)))⟩
      by_cases k : s = t
      · subst k; right; rw [hN, hU]; exact ⟨rfl, fun q => by simp [q]⟩
      · exact absurd (h1 hnh s (by omega)) hne

theorem lo_step {D : Int} {x : Dl} {L n d N w : Int} {t : Nat} {Nv W : Nat → Int} (hD : 0 < D) (h : LoInv D x L t Nv W) (hs : Sc D n d N) (hN : Nv t = N) (hW : W t = w) (hl : lvB w = true) (e : wlE n d w = 0) :
    ∃ L', LoInv D (wlL x n d w) L' (t + 1) Nv W := by
  obtain ⟨a, z, h1, h2⟩ := h
  by_cases hn : w = 1099511627776
  · refine ⟨L, ?_⟩
    have : wlL x n d w = x := by unfold wlL; rw [hn, sp_none]; rfl
    rw [this]
    refine ⟨a, z, ?_, fun s hst hne => ?_⟩
    · rcases h1 with h1 | ⟨s, s1, s2⟩
      · exact Or.inl h1
      · exact Or.inr ⟨s, by omega, s2⟩
    · by_cases c : s = t
      · subst c; exact absurd (hW.trans hn) hne
      · exact h2 s (by omega) hne
  · obtain ⟨p1, p2, p3⟩ := sp_some hl hn
    have es : shE n d (-(w / 2)) = 0 := by unfold wlE at e; rw [if_pos p1, p2] at e; exact e
    have hB := sh_sc hs es
    rw [Int.neg_mul, ← Int.sub_eq_add_neg] at hB
    have ew : wlL x n d w = if lsB x.ln x.ld (shN n d (-(w / 2))) (shD n d (-(w / 2))) (decide (w % 2 = 0)) then { x with ln := shN n d (-(w / 2)), ld := shD n d (-(w / 2)), lo := decide (w % 2 = 0) } else x := by
      unfold wlL; rw [if_pos p1, p2, p3]
    rw [ew]
    have hls := lsB_sc hD a hB (decide (w % 2 = 0))
    rw [hls]
    by_cases c : L < N - w / 2 * D ∨ (L = N - w / 2 * D ∧ w % 2 = 0)
    · have : (decide (L < N - w / 2 * D) || (decide (L = N - w / 2 * D) && decide (w % 2 = 0))) = true := by simpa using c
      rw [if_pos this]
      refine ⟨N - w / 2 * D, hB, by omega, Or.inr ⟨t, by omega, by rw [hW]; exact hn, by rw [hN, hW], by rw [hW]⟩, fun s hst hne => ?_⟩
      by_cases k : s = t
      · subst k; right; rw [hN, hW]; exact ⟨rfl, fun q => by simp [q]⟩
      · rcases h2 s (by omega) hne with g | ⟨g1, g2⟩
        · left; rcases c with c | c <;> omega
        · rcases c with c | ⟨c1, c2⟩
          · left; omega
          · right; exact ⟨by omega, fun _ => by simp [c2]⟩
    · have : ¬ (decide (L < N - w / 2 * D) || (decide (L = N - w / 2 * D) && decide (w % 2 = 0))) = true := by simpa using c
      rw [if_neg this]
      refine ⟨L, a, z, ?_, fun s hst hne => ?_⟩
      · rcases h1 with h1 | ⟨s, s1, s2⟩
        · exact Or.inl h1
        · exact Or.inr ⟨s, by omega, s2⟩
      · by_cases k : s = t
        · subst k; rw [hN, hW]
          by_cases g : N - w / 2 * D < L
          · exact Or.inl g
          · right; exact ⟨by omega, fun q => by exfalso; omega⟩
        · exact h2 s (by omega) hne

theorem wl_hi {D : Int} {x : Dl} {H n d w : Int} {t : Nat} {Nv U : Nat → Int} (h : HiInv D x H t Nv U) : HiInv D (wlL x n d w) H t Nv U := by
  unfold wlL
  split
  · split
    · exact h
    · exact h
  · exact h

theorem wu_lo {D : Int} {x : Dl} {L n d u : Int} {t : Nat} {Nv W : Nat → Int} (h : LoInv D x L t Nv W) : LoInv D (wuL x n d u) L t Nv W := by
  unfold wuL
  split
  · split
    · exact h
    · exact h
  · exact h

/-- The invariant of a walk over bounds. -/
theorem iv_inv {D : Int} (hD : 0 < D) {T : Nat} (X : Nat → Dl × Int) (r : Nat → Pq) (U W Nv : Nat → Int) (h0 : X 0 = (Dl.one, 0))
    (hs : ∀ t, t < T → (X t).2 = 0 → X (t + 1) = (wiL (X t).1 (r t).1 (r t).2 (U t) (W t), wiE (r t).1 (r t).2 (U t) (W t))) (hst : ∀ t, (X t).2 ≠ 0 → X (t + 1) = X t)
    (hr : ∀ t, t < T → Sc D (r t).1 (r t).2 (Nv t)) (hU : ∀ t, t < T → lvB (U t) = true) (hW : ∀ t, t < T → lvB (W t) = true) :
    ∀ t, t ≤ T → (X t).2 = 0 → ∃ L H, HiInv D (X t).1 H t Nv U ∧ LoInv D (X t).1 L t Nv W := by
  intro t
  induction t with
  | zero =>
    intro _ _
    rw [h0]
    refine ⟨0, 0, ⟨fun _ s hs => absurd hs (by omega), fun q => by cases q⟩, ⟨by decide, by show 0 * (1 : Int) = 0 * D; omega⟩, by omega, Or.inl ⟨rfl, rfl⟩, fun s hs => absurd hs (by omega)⟩
  | succ t ih =>
    intro ht he
    by_cases c : (X t).2 = 0
    · obtain ⟨L, H, hi, lo⟩ := ih (by omega) c
      have hx := hs t (by omega) c
      rw [hx] at he ⊢
      show ∃ L H, HiInv D (wiL _ _ _ _ _) H (t + 1) Nv U ∧ LoInv D (wiL _ _ _ _ _) L (t + 1) Nv W
      have he : wiE (r t).1 (r t).2 (U t) (W t) = 0 := he
      have e1 : wuE (r t).1 (r t).2 (U t) = 0 := by
        unfold wiE at he
        by_cases k : wuE (r t).1 (r t).2 (U t) = 0
        · exact k
        · rw [if_pos k] at he; exact absurd he k
      have e2 : wlE (r t).1 (r t).2 (W t) = 0 := by unfold wiE at he; rw [if_neg (by omega)] at he; exact he
      have ew : ∀ x, wiL x (r t).1 (r t).2 (U t) (W t) = wlL (wuL x (r t).1 (r t).2 (U t)) (r t).1 (r t).2 (W t) := fun x => by unfold wiL; rw [if_pos he]
      rw [ew]
      obtain ⟨H', hi'⟩ := hi_step hD hi (hr t (by omega)) rfl rfl (hU t (by omega)) e1
      obtain ⟨L', lo'⟩ := lo_step hD (wu_lo lo (n := (r t).1) (d := (r t).2) (u := U t)) (hr t (by omega)) rfl rfl (hW t (by omega)) e2
      exact ⟨L', H', wl_hi hi', lo'⟩
    · rw [hst t c] at he; exact absurd he c

/-- Y is in the interval. -/
def InI (x : Dl) (L H Y : Int) : Prop := (L < Y ∨ (L = Y ∧ x.lo = false)) ∧ (x.nh = true ∨ Y < H ∨ (Y = H ∧ x.ho = false))

theorem iv_member {D : Int} {x : Dl} {L H Y : Int} {t : Nat} {Nv U W : Nat → Int} (hi : HiInv D x H t Nv U) (lo : LoInv D x L t Nv W) :
    InI x L H Y ↔ 0 ≤ Y ∧ ∀ s, s < t → Zo.mt D (Y - Nv s) (U s) ∧ Zo.mt D (Nv s - Y) (W s) := by
  obtain ⟨a, z, l1, l2⟩ := lo
  obtain ⟨h1, h2⟩ := hi
  constructor
  · rintro ⟨p, q⟩
    refine ⟨by rcases p with p | p <;> omega, fun s hs => ⟨?_, ?_⟩⟩
    · unfold Zo.mt
      by_cases hn : U s = 1099511627776
      · exact Or.inl hn
      · right
        cases hnh : x.nh
        · rw [hnh] at q
          obtain ⟨_, _, b⟩ := h2 hnh
          have := b s hs hn
          by_cases ev : U s % 2 = 0
          · left
            refine ⟨ev, ?_⟩
            rcases q with q | q | ⟨q1, q2⟩
            · cases q
            · rcases this with g | ⟨g, _⟩ <;> omega
            · rcases this with g | ⟨g, g2⟩
              · omega
              · rw [g2 ev] at q2; cases q2
          · right
            refine ⟨ev, ?_⟩
            rcases q with q | q | ⟨q1, q2⟩
            · cases q
            · rcases this with g | ⟨g, _⟩ <;> omega
            · rcases this with g | ⟨g, _⟩ <;> omega
        · exact absurd (h1 hnh s hs) hn
    · unfold Zo.mt
      by_cases hn : W s = 1099511627776
      · exact Or.inl hn
      · right
        have := l2 s hs hn
        by_cases ev : W s % 2 = 0
        · left
          refine ⟨ev, ?_⟩
          rcases p with p | ⟨p1, p2⟩
          · rcases this with g | ⟨g, _⟩ <;> omega
          · rcases this with g | ⟨g, g2⟩
            · omega
            · rw [g2 ev] at p2; cases p2
        · right
          refine ⟨ev, ?_⟩
          rcases p with p | ⟨p1, p2⟩
          · rcases this with g | ⟨g, _⟩ <;> omega
          · rcases this with g | ⟨g, _⟩ <;> omega
  · rintro ⟨y, h⟩
    constructor
    · rcases l1 with ⟨e, f⟩ | ⟨s, hs, hn, e, f⟩
      · by_cases c : L < Y
        · exact Or.inl c
        · exact Or.inr ⟨by omega, f⟩
      · have := (h s hs).2
        unfold Zo.mt at this
        rcases this with g | ⟨g, g2⟩ | ⟨g, g2⟩
        · exact absurd g hn
        · left; omega
        · by_cases c : L < Y
          · exact Or.inl c
          · exact Or.inr ⟨by omega, by rw [f]; simp; omega⟩
    · cases hnh : x.nh
      · right
        obtain ⟨_, ⟨s, hs, hn, e, f⟩, _⟩ := h2 hnh
        have := (h s hs).1
        unfold Zo.mt at this
        rcases this with g | ⟨g, g2⟩ | ⟨g, g2⟩
        · exact absurd g hn
        · left; omega
        · by_cases c : Y < H
          · exact Or.inl c
          · exact Or.inr ⟨by omega, by rw [f]; simp; omega⟩
      · exact Or.inl rfl

/-- The interval is not empty. -/
def Full (x : Dl) (L H : Int) : Prop := x.nh = true ∨ L < H ∨ (L = H ∧ x.lo = false ∧ x.ho = false)

theorem empty_sc {D : Int} {x : Dl} {L H : Int} (hD : 0 < D) (h1 : Sc D x.ln x.ld L) (h2 : x.nh = false → Sc D x.hn x.hd H) : x.empty = false ↔ Full x L H := by
  unfold Dl.empty Full
  cases hnh : x.nh
  · rw [lsB_sc hD (h2 hnh) h1]
    cases x.lo <;> cases x.ho <;> simp <;> omega
  · simp

theorem full_of {D : Int} {x : Dl} {L H : Int} {t : Nat} {Nv U W : Nat → Int} (hi : HiInv D x H t Nv U) (lo : LoInv D x L t Nv W)
    (hz : ∀ s, s < t → Zo.mt D (-Nv s) (U s)) (hp : ∀ s r, s < t → r < t → U s ≠ 1099511627776 → W r ≠ 1099511627776 → (Nv r - Nv s < (U s / 2 + W r / 2) * D ∨ (Nv r - Nv s = (U s / 2 + W r / 2) * D ∧ ¬ U s % 2 = 0 ∧ ¬ W r % 2 = 0))) : Full x L H := by
  unfold Full
  cases hnh : x.nh
  · right
    obtain ⟨_, ⟨s, hs, hn, e, f⟩, _⟩ := hi.2 hnh
    obtain ⟨_, z, l1, _⟩ := lo
    rcases l1 with ⟨e2, f2⟩ | ⟨r, hr, hrn, e2, f2⟩
    · have := hz s hs
      unfold Zo.mt at this
      rcases this with g | ⟨g, g2⟩ | ⟨g, g2⟩
      · exact absurd g hn
      · left; omega
      · by_cases c : L < H
        · exact Or.inl c
        · exact Or.inr ⟨by omega, f2, by rw [f]; simp; omega⟩
    · have := hp s r hs hr hn hrn
      rw [Int.add_mul] at this
      rcases this with g | ⟨g, g2, g3⟩
      · left; omega
      · by_cases c : L < H
        · exact Or.inl c
        · exact Or.inr ⟨by omega, by rw [f2]; simp; omega, by rw [f]; simp; omega⟩
  · exact Or.inl rfl

/-- The least upper bound is above 0. -/
theorem full_up {D : Int} {x : Dl} {L H : Int} {t : Nat} {Nv U W : Nat → Int} (hi : HiInv D x H t Nv U) (lo : LoInv D x L t Nv W) (hf : Full x L H) : ∀ s, s < t → Zo.mt D (-Nv s) (U s) := by
  intro s hs
  unfold Zo.mt
  by_cases hn : U s = 1099511627776
  · exact Or.inl hn
  · right
    have z := lo.2.1
    cases hnh : x.nh
    · obtain ⟨_, _, b⟩ := hi.2 hnh
      have := b s hs hn
      unfold Full at hf
      rw [hnh] at hf
      by_cases ev : U s % 2 = 0
      · left
        refine ⟨ev, ?_⟩
        rcases hf with q | q | ⟨q1, q2, q3⟩
        · cases q
        · rcases this with g | ⟨g, _⟩ <;> omega
        · rcases this with g | ⟨g, g2⟩
          · omega
          · rw [g2 ev] at q3; cases q3
      · right
        refine ⟨ev, ?_⟩
        rcases hf with q | q | ⟨q1, q2, q3⟩
        · cases q
        · rcases this with g | ⟨g, _⟩ <;> omega
        · rcases this with g | ⟨g, _⟩ <;> omega
    · exact absurd (hi.1 hnh s hs) hn

theorem in_full {x : Dl} {L H Y : Int} (h : InI x L H Y) : Full x L H := by
  obtain ⟨p, q⟩ := h
  unfold Full
  rcases q with q | q | ⟨q1, q2⟩
  · exact Or.inl q
  · right; left; rcases p with p | p <;> omega
  · right
    rcases p with p | ⟨p1, p2⟩
    · left; omega
    · right; exact ⟨by omega, p2, q2⟩

/-- A sum of limits that is met. -/
theorem mt_split {D q a b : Int} (ha : a ≠ 1099511627776) (hb : b ≠ 1099511627776) (la : lvB a = true) (lb : lvB b = true) (h : Zo.mt D q (Zo.smW a b)) : q < (a / 2 + b / 2) * D ∨ (q = (a / 2 + b / 2) * D ∧ ¬ a % 2 = 0 ∧ ¬ b % 2 = 0) := by
  have va := vl_of_lv la
  have vb := vl_of_lv lb
  unfold Zo.Vl at va vb
  unfold Zo.smW at h
  rw [if_neg (by omega)] at h
  by_cases e : a % 2 = 0 ∧ b % 2 = 0
  · rw [if_pos e, Zo.w64_in (by omega) (by omega)] at h
    unfold Zo.mt at h
    rw [show (a + b) / 2 = a / 2 + b / 2 by omega] at h
    rcases h with h | ⟨h, g⟩ | ⟨h, g⟩
    · omega
    · exact Or.inl g
    · omega
  · rw [if_neg e, Zo.w64_in (x := a + b) (by omega) (by omega), Zo.w64_in (by omega) (by omega)] at h
    unfold Zo.mt at h
    rw [show (a + b - 1) / 2 = a / 2 + b / 2 by omega] at h
    rcases h with h | ⟨h, g⟩ | ⟨h, g⟩
    · omega
    · exact Or.inl g
    · by_cases c : q < (a / 2 + b / 2) * D
      · exact Or.inl c
      · exact Or.inr ⟨by omega, by omega, by omega⟩
end Go.Proofs.YtbnebinpemejlaaGreat

namespace Go.Proofs.YtbnebinpemejlaaGreat
open Go.RowKit

/-- The ends of an interval are ratios. -/
def Gd (x : Dl) : Prop := vldB x.ln x.ld = true ∧ (x.nh = false → vldB x.hn x.hd = true)

theorem vld_eq {n d m c : Int} (h : vldB n d = true) (k : vldB m c = true) (e : n * c = m * d) : n = m ∧ d = c := by
  have q := vld_pos k
  have h1 := mk_is (a := m) (b := c) h (by omega) e
  have h2 := mk_self k
  exact ⟨h1.1.symm.trans h2.1, h1.2.1.symm.trans h2.2.1⟩

theorem sh_seven {n d c : Int} (h : vldB n d = true) (e : shE n d c ≠ 0) : shE n d c = 7 := by
  have p := vld_pos h
  unfold shE opErr at e ⊢
  rw [h] at e ⊢
  simp only [if_true] at e ⊢
  exact (mk_zero (by omega) e).2.2

theorem sh_vld {n d c : Int} (h : vldB n d = true) (e : shE n d c = 0) : vldB (shN n d c) (shD n d c) = true := (sh_sc (D := d) (N := n) ⟨h, rfl⟩ e).vld

theorem cmK_vld {n d m c : Int} (h : vldB n d = true) (k : vldB m c = true) : (cmK n d m c < 0 ↔ n * c < m * d) ∧ (cmK n d m c = 0 ↔ n * c = m * d) ∧ (0 < cmK n d m c ↔ m * d < n * c) := by
  unfold cmK
  rw [h, k]
  simp only [Bool.and_self, if_true]
  generalize n * c = x
  generalize m * d = y
  rcases sgn_three x y with ⟨a, b⟩ | ⟨a, b⟩ | ⟨a, b⟩ <;> rw [a] <;> omega

theorem lsB_vld {n d m c : Int} (h : vldB n d = true) (k : vldB m c = true) (e : Bool) : lsB n d m c e = (decide (n * c < m * d) || (decide (n * c = m * d) && e)) := by
  unfold lsB
  rw [h, k]
  rfl

theorem moL_same {x : Dl} {p q : Int} {o : Bool} (hx : Gd x) (v : vldB p q = true) : moL x p q o = (if x.nh || lsB p q x.hn x.hd o then { x with hn := p, hd := q, ho := o, nh := false } else x) ∧ Gd (if x.nh || lsB p q x.hn x.hd o then { x with hn := p, hd := q, ho := o, nh := false } else x) := by
  refine ⟨?_, ?_⟩
  · obtain ⟨ln, ld, hn, hd, lo, ho, nh⟩ := x
    cases nh
    · have hv : vldB hn hd = true := hx.2 rfl
      obtain ⟨c1, c2, c3⟩ := cmK_vld v hv
      have L := lsB_vld v hv o
      by_cases a : p * hd < hn * q
      · have A : cmK p q hn hd < 0 := c1.2 a
        have B : lsB p q hn hd o = true := by rw [L]; simp [a]
        simp [moL, A, B]
      · have A : ¬ cmK p q hn hd < 0 := fun y => a (c1.1 y)
        by_cases b : p * hd = hn * q
        · have Z : cmK p q hn hd = 0 := c2.2 b
          have B : lsB p q hn hd o = o := by rw [L]; simp [b]
          obtain ⟨rfl, rfl⟩ := vld_eq v hv b
          cases o <;> simp [moL, Z, B]
        · have Z : ¬ cmK p q hn hd = 0 := fun y => b (c2.1 y)
          have B : lsB p q hn hd o = false := by rw [L]; simp [a, b]
          simp [moL, A, Z, B]
    · simp [moL]
  · split
    · exact ⟨hx.1, fun _ => v⟩
    · exact hx

theorem leL_same {x : Dl} {p q : Int} {o : Bool} (hx : Gd x) (v : vldB p q = true) : leL x p q o = (if lsB x.ln x.ld p q o then { x with ln := p, ld := q, lo := o } else x) ∧ Gd (if lsB x.ln x.ld p q o then { x with ln := p, ld := q, lo := o } else x) := by
  refine ⟨?_, ?_⟩
  · obtain ⟨ln, ld, hn, hd, lo, ho, nh⟩ := x
    have hv : vldB ln ld = true := hx.1
    obtain ⟨c1, c2, c3⟩ := cmK_vld v hv
    have L := lsB_vld hv v o
    by_cases a : ln * q < p * ld
    · have A : 0 < cmK p q ln ld := c3.2 a
      have B : lsB ln ld p q o = true := by rw [L]; simp [a]
      simp [leL, A, B]
    · have A : ¬ 0 < cmK p q ln ld := fun y => a (c3.1 y)
      by_cases b : ln * q = p * ld
      · have Z : cmK p q ln ld = 0 := c2.2 b.symm
        have B : lsB ln ld p q o = o := by rw [L]; simp [b]
        obtain ⟨rfl, rfl⟩ := vld_eq hv v b
        cases o <;> simp [leL, Z, B]
      · have Z : ¬ cmK p q ln ld = 0 := fun y => b (c2.1 y).symm
        have B : lsB ln ld p q o = false := by rw [L]; simp [a, b]
        simp [leL, A, Z, B]
  · split
    · exact ⟨v, hx.2⟩
    · exact hx

theorem up_same {x : Dl} {n d : Int} (hx : Gd x) (h : vldB n d = true) (u : Int) : (wuE n d u = 0 → (∀ b, bwB b n d u = b) ∧ bwX x n d u = wuL x n d u ∧ Gd (wuL x n d u)) ∧ (wuE n d u ≠ 0 → wuE n d u = 7 ∧ ∀ b, bwB b n d u = true) := by
  by_cases hs : spE u = 0
  · have E : wuE n d u = shE n d (spC u) := by unfold wuE; rw [if_pos hs]
    rw [E]
    refine ⟨fun e => ?_, fun e => ⟨sh_seven h e, fun b => by unfold bwB; rw [if_pos hs, if_neg e]⟩⟩
    refine ⟨fun b => by unfold bwB; rw [if_pos hs, if_pos e], ?_⟩
    have m := moL_same (o := spS u) hx (sh_vld h e)
    unfold bwX wuL
    rw [if_pos hs, if_pos e, if_pos hs]
    exact m
  · have E : wuE n d u = 0 := by unfold wuE; rw [if_neg hs]
    rw [E]
    refine ⟨fun _ => ⟨fun b => by unfold bwB; rw [if_neg hs], ?_⟩, fun q => absurd rfl q⟩
    unfold bwX wuL
    rw [if_neg hs, if_neg hs]
    exact ⟨rfl, hx⟩

theorem lo_same {x : Dl} {n d : Int} (hx : Gd x) (h : vldB n d = true) (u : Int) : (wlE n d u = 0 → (∀ b, abB b n d u = b) ∧ abX x n d u = wlL x n d u ∧ Gd (wlL x n d u)) ∧ (wlE n d u ≠ 0 → wlE n d u = 7 ∧ ∀ b, abB b n d u = true) := by
  by_cases hs : spE u = 0
  · have E : wlE n d u = shE n d (-spC u) := by unfold wlE; rw [if_pos hs]
    rw [E]
    refine ⟨fun e => ?_, fun e => ⟨sh_seven h e, fun b => by unfold abB; rw [if_pos hs, if_neg e]⟩⟩
    refine ⟨fun b => by unfold abB; rw [if_pos hs, if_pos e], ?_⟩
    have m := leL_same (o := spS u) hx (sh_vld h e)
    unfold abX wlL
    rw [if_pos hs, if_pos e, if_pos hs]
    exact m
  · have E : wlE n d u = 0 := by unfold wlE; rw [if_neg hs]
    rw [E]
    refine ⟨fun _ => ⟨fun b => by unfold abB; rw [if_neg hs], ?_⟩, fun q => absurd rfl q⟩
    unfold abX wlL
    rw [if_neg hs, if_neg hs]
    exact ⟨rfl, hx⟩

theorem bwB_true (n d u : Int) : bwB true n d u = true := by unfold bwB; split <;> (try split) <;> rfl

theorem abB_true (n d u : Int) : abB true n d u = true := by unfold abB; split <;> (try split) <;> rfl

/-- Both walks over the bounds give the same. -/
theorem walk_same {T : Nat} (W : Nat → Dl × Int) (V : Nat → Dl × Bool) (r : Nat → Pq) (U L : Nat → Int) (w0 : W 0 = (Dl.one, 0)) (v0 : V 0 = (Dl.one, false))
    (ws : ∀ t, W (t + 1) = if (W t).2 = 0 then (wiL (W t).1 (r t).1 (r t).2 (U t) (L t), wiE (r t).1 (r t).2 (U t) (L t)) else W t)
    (vs : ∀ t, V (t + 1) = (abX (bwX (V t).1 (r t).1 (r t).2 (U t)) (r t).1 (r t).2 (L t), abB (bwB (V t).2 (r t).1 (r t).2 (U t)) (r t).1 (r t).2 (L t)))
    (hv : ∀ t, t < T → vldB (r t).1 (r t).2 = true) :
    ∀ t, t ≤ T → ((W t).2 = 0 → V t = ((W t).1, false) ∧ Gd (W t).1) ∧ ((W t).2 ≠ 0 → (W t).2 = 7 ∧ (V t).2 = true) := by
  intro t
  induction t with
  | zero =>
    intro _
    rw [w0, v0]
    exact ⟨fun _ => ⟨rfl, by decide, fun q => by cases q⟩, fun q => absurd rfl q⟩
  | succ t ih =>
    intro ht
    have ih := ih (by omega)
    have v := hv t (by omega)
    rw [ws, vs]
    by_cases c : (W t).2 = 0
    · obtain ⟨e, g⟩ := ih.1 c
      rw [if_pos c, e]
      dsimp only
      generalize (W t).1 = x at *
      generalize (r t).1 = n at *
      generalize (r t).2 = d at *
      generalize U t = u at *
      generalize L t = l at *
      obtain ⟨u1, u2⟩ := up_same g v u
      by_cases a : wuE n d u = 0
      · obtain ⟨b1, b2, b3⟩ := u1 a
        obtain ⟨l1, l2⟩ := lo_same b3 v l
        have ei : wiE n d u l = wlE n d l := by unfold wiE; rw [if_neg (by omega)]
        rw [b1, b2]
        by_cases b : wlE n d l = 0
        · obtain ⟨d1, d2, d3⟩ := l1 b
          refine ⟨fun _ => ?_, fun q => absurd (ei.trans b) q⟩
          have : wiL x n d u l = wlL (wuL x n d u) n d l := by unfold wiL; rw [ei, if_pos b]
          rw [this, d1, d2]
          exact ⟨rfl, d3⟩
        · refine ⟨fun q => absurd (ei.symm.trans q) b, fun _ => ?_⟩
          rw [ei]
          exact ⟨(l2 b).1, (l2 b).2 _⟩
      · have ei : wiE n d u l = wuE n d u := by unfold wiE; rw [if_pos a]
        refine ⟨fun q => absurd (ei.symm.trans q) a, fun _ => ?_⟩
        rw [ei, (u2 a).2]
        exact ⟨(u2 a).1, abB_true _ _ _⟩
    · obtain ⟨e, g⟩ := ih.2 c
      rw [if_neg c]
      refine ⟨fun q => absurd q c, fun _ => ⟨e, ?_⟩⟩
      show abB (bwB (V t).2 _ _ _) _ _ _ = true
      rw [g, bwB_true, abB_true]

theorem td_same {x : Dl} (g : Gd x) : tdB x = x.empty := by
  obtain ⟨ln, ld, hn, hd, lo, ho, nh⟩ := x
  cases nh
  · have hv : vldB hn hd = true := g.2 rfl
    have lv : vldB ln ld = true := g.1
    obtain ⟨c1, c2, c3⟩ := cmK_vld lv hv
    have L := lsB_vld hv lv (lo || ho)
    unfold tdB Dl.empty
    simp only
    rw [L, decide_eq_decide.2 c3, decide_eq_decide.2 (c2.trans eq_comm)]
  · rfl

theorem vld_negI {n d : Int} (v : vldB n d = true) : vldB (-n) d = true := by rw [← v]; unfold vldB; rw [Bool.eq_iff_iff]; simp; omega

theorem st_same {n : Nat} {l : List Int} {ps : List Pq} (hr : rdE n l ps = 0) : rsV n l ps = syV n l ps := by
  obtain ⟨hc, hp, hv, hs⟩ := rd_parts hr
  have h := walk_same (T := n) (syR n l ps) (ryX n l ps) (fun t => (-(gp ps t).1, (gp ps t).2)) (fun t => Zo.At n l (t + 1) 0) (fun t => Zo.At n l 0 (t + 1)) rfl rfl (fun _ => rfl) (fun _ => rfl)
    (fun t ht => by have := hv t (by omega); unfold vldC at this; simp at this; exact vld_negI this.1) n (Nat.le_refl _)
  have m : mtR n 1 l ps = (mtH n 1 l ps, 0) := by unfold mtR; rw [if_pos (mtA_iff.2 fun i _ hi j _ hj => hs i (by omega) j (by omega))]
  unfold rsV syV
  rw [m]
  simp only [ne_eq, not_true, if_false]
  by_cases c : (syR n l ps n).2 = 0
  · obtain ⟨e, g⟩ := h.1 c
    have t := td_same g
    clear g h m
    rw [e]
    clear e
    generalize syR n l ps n = y at *
    obtain ⟨x, k⟩ := y
    simp only at c t
    subst c
    unfold tdX tdE
    simp only [t]
    cases mtH n 1 l ps <;> cases x.empty <;> simp
  · obtain ⟨e, g⟩ := h.2 c
    rw [if_pos g, if_pos (by simpa using c), e]

theorem sb_first {ps : List Pq} (h : ∀ k, k < ps.length → vldC (gp ps k) = true) {i : Nat} (hi : i ≤ ps.length) : sbE ps i 0 = 0 ∧ sbE ps 0 i = 0 := by
  have v := (clk_vld h hi).1
  have e : clk ps 0 = (0, 1) := rfl
  unfold sbE
  rw [e]
  generalize (clk ps i).1 = n at *
  generalize (clk ps i).2 = d at *
  have e1 : n * 1 - 0 * d = n := by omega
  have e2 : d * 1 = d := by omega
  have e3 : 0 * d - n * 1 = -n := by omega
  have e4 : 1 * d = d := by omega
  simp only [e1, e2, e3, e4]
  exact ⟨(mk_self v).2.2, (mk_self (vld_negI v)).2.2⟩

/-- The reference's Stay returns what the project's does. -/
theorem stay_same (N : Int) (l : List Int) (ps : List Pq) : rsR N l ps = stR N l ps := by
  unfold rsR stR
  by_cases h0 : rdE N l ps = 0
  · obtain ⟨n, rfl, _⟩ := chk_ok (rd_yes (by rw [h0]; decide)).1
    rw [if_pos h0, if_neg (by rw [h0]; decide), Int.toNat_natCast]
    exact st_same h0
  · rw [if_neg h0]
    by_cases h2 : rdE N l ps = 2
    · rw [if_pos h2, h2]
    · rw [if_neg h2]
      obtain ⟨hc, hp, hv⟩ := rd_yes h2
      obtain ⟨n, rfl, _⟩ := chk_ok hc
      have hR : rdE n l ps = if rdR n ps then 0 else 7 := by unfold rdE; rw [if_pos ⟨hc, hp, hv⟩, Int.toNat_natCast]
      have hn : rdR n ps = false := by
        cases c : rdR n ps
        · rfl
        · rw [hR, c] at h0; exact absurd rfl h0
      have h7 : rdE n l ps = 7 := by rw [hR, hn]; rfl
      have hl : ps.length = n := by omega
      have hA : mtA n 1 ps = false := by
        cases c : mtA n 1 ps
        · rfl
        · have q := mtA_iff.1 c
          have : rdR n ps = true := rdR_of fun i hi j hj => by
            by_cases i0 : i = 0
            · subst i0; exact (sb_first (rd_all hv) (by omega)).2
            · by_cases j0 : j = 0
              · subst j0; exact (sb_first (rd_all hv) (by omega)).1
              · exact q i (by omega) hi j (by omega) hj
          rw [hn] at this; cases this
      have m : mtR n 1 l ps = (false, 7) := by unfold mtR; rw [hA]; rfl
      rw [h7, Int.toNat_natCast]
      unfold syV
      rw [m]
      rfl

/-- Stay of the reference: whatever comes in. -/
theorem rstay_gen (N : Int) (l : List Int) (ao : Option Addr) (cap : Nat) (ps : List Pq) (po : Option Addr) (pc : Nat) (w : World) (hA : Arg w ao l) (hP : Arg2 w po ps) (hI : Fits ps) :
    Calls Tryz.prog 9 #[.agg #[.int .i64 N, .slice ao l.length cap], .slice po ps.length pc] w (Made (.tuple #[.agg (stR N l ps).1.cs, .int .i64 (stR N l ps).2]) w) := by
  rw [← stay_same]
  unfold rsR
  by_cases h0 : rdE N l ps = 0
  · obtain ⟨n, rfl, hn, hl, hne⟩ := chk_ok (rd_yes (by rw [h0]; decide)).1
    obtain ⟨a, rfl, hR⟩ := hA hne
    rw [if_pos h0, Int.toNat_natCast]
    exact rstay_any n l a cap ps po pc w hn hl hR hP hI h0
  · rw [if_neg h0]
    exact rstay_bad N l ao cap ps po pc w hA hP hI h0
end Go.Proofs.YtbnebinpemejlaaGreat

namespace Go.Proofs.YtbnebinpemejlaaGreat
open Go.RowKit

theorem smW_le {a b : Int} (ha : lvB a = true) (hb : lvB b = true) : Zo.smW a b ≤ 1099511627776 := by
  have p := lv_two' ha
  have q := lv_two' hb
  unfold Zo.smW Zo.w64
  split
  · omega
  · split <;> omega

theorem mid_between {n d m c : Int} (he : mdE n d m c = 0) (h : midB n d m c = true) : vldB (mdN n d m c) (mdD n d m c) = true ∧ n * mdD n d m c < mdN n d m c * d ∧ mdN n d m c * c < m * mdD n d m c := by
  unfold mdE opErr at he
  unfold mdN mdD opNum opDen
  rw [h] at he ⊢
  simp only [if_true] at he ⊢
  obtain ⟨hA, hK⟩ := mid_args h
  have hbest : Best n d m c (midX n d m c) (midY n d m c) := smp_best _ n d m c hA.ends hK
  obtain ⟨hb, hv, hq⟩ := mk_ok he
  have hd := hA.ends.q1
  generalize midX n d m c = X at *
  generalize midY n d m c = Y at *
  obtain ⟨y1, b1, b2, mn⟩ := id hbest
  obtain ⟨Q1, _, _, _⟩ := vld_bd hv
  generalize mkNum X Y = P at *
  generalize mkDen X Y = Q at *
  have hc := hA.ends.s0
  refine ⟨hv, ?_, ?_⟩
  · rcases Int.lt_or_le (n * Q) (P * d) with h | h
    · exact h
    · exfalso
      have k1 : (P * d) * Y ≤ (n * Q) * Y := Int.mul_le_mul_of_nonneg_right h (by omega)
      have k2 : (n * Y) * Q < (X * d) * Q := Int.mul_lt_mul_of_pos_right b1 (by omega)
      have k3 : P * d * Y = X * d * Q := by rw [show P * d * Y = d * (P * Y) by ac_rfl, hq]; ac_rfl
      have k4 : n * Q * Y = n * Y * Q := by ac_rfl
      omega
  · rcases Int.lt_or_le (P * c) (m * Q) with h | h
    · exact h
    · exfalso
      have k1 : (m * Q) * Y ≤ (P * c) * Y := Int.mul_le_mul_of_nonneg_right h (by omega)
      have k2 : (X * c) * Q < (m * Y) * Q := Int.mul_lt_mul_of_pos_right b2 (by omega)
      have k3 : P * c * Y = X * c * Q := by rw [show P * c * Y = c * (P * Y) by ac_rfl, hq]; ac_rfl
      have k4 : m * Q * Y = m * Y * Q := by ac_rfl
      omega

theorem mid_B {n d m c : Int} (he : mdE n d m c = 0) : midB n d m c = true := by
  unfold mdE opErr at he
  cases h : midB n d m c
  · rw [h] at he; simp at he
  · rfl

theorem sc_one {D n d N M : Int} (h : Sc D n d N) (k : Sc D n d M) : N = M := by
  have p := vld_pos h.vld
  have := h.val.trans k.val.symm
  exact Int.eq_of_mul_eq_mul_right (by omega) this

theorem sc_nonneg {D n d N : Int} (hD : 0 < D) (h : Sc D n d N) : 0 ≤ N ↔ 0 ≤ n := by
  have p := vld_pos h.vld
  have v := h.val
  constructor
  · intro g
    have : 0 * D ≤ n * D := by rw [← v, Int.zero_mul]; exact Int.mul_nonneg g (by omega)
    exact Int.le_of_mul_le_mul_right this hD
  · intro g
    have : 0 * d ≤ N * d := by rw [v, Int.zero_mul]; exact Int.mul_nonneg g (by omega)
    exact Int.le_of_mul_le_mul_right this (by omega)

/-- What choose takes of an interval that is not empty lies in it. -/
theorem ch_in {D : Int} {x : Dl} {L H : Int} (hD : 0 < D) (h1 : Sc D x.ln x.ld L) (h0 : 0 ≤ L) (h2 : x.nh = false → Sc D x.hn x.hd H) (hf : Full x L H) (he : chE x = 0) :
    vldC (chN x, chD x) = true ∧ ∀ Y, Sc D (chN x) (chD x) Y → InI x L H Y := by
  unfold chE at he
  unfold chN chD
  unfold Full at hf
  have hln := (sc_nonneg hD h1).1 h0
  cases hlo : x.lo
  · simp only [Bool.false_eq_true, if_false]
    refine ⟨by unfold vldC; simp [h1.vld, hln], fun Y hY => ?_⟩
    have e := sc_one h1 hY
    subst e
    refine ⟨Or.inr ⟨rfl, hlo⟩, ?_⟩
    rcases hf with hf | hf | ⟨a, _, b⟩
    · exact Or.inl hf
    · exact Or.inr (Or.inl hf)
    · exact Or.inr (Or.inr ⟨a, b⟩)
  · rw [hlo] at he
    simp only [if_true] at he ⊢
    cases hnh : x.nh
    · rw [hnh] at he
      simp only [Bool.false_eq_true, if_false] at he ⊢
      obtain ⟨v, b1, b2⟩ := mid_between he (mid_B he)
      have p := vld_pos h1.vld
      have q := vld_pos v
      have hn0 : 0 ≤ mdN x.ln x.ld x.hn x.hd := by
        have : 0 ≤ x.ln * mdD x.ln x.ld x.hn x.hd := Int.mul_nonneg hln (by omega)
        have : 0 * x.ld ≤ mdN x.ln x.ld x.hn x.hd * x.ld := by omega
        exact Int.le_of_mul_le_mul_right this (by omega)
      refine ⟨by unfold vldC; simp [v, hn0], fun Y hY => ?_⟩
      exact ⟨Or.inl ((sc_cmp hD h1 hY).1.1 b1), Or.inr (Or.inl ((sc_cmp hD hY (h2 hnh)).1.1 b2))⟩
    · rw [hnh] at he
      simp only [if_true] at he ⊢
      have hs := sh_sc h1 he
      rw [Int.one_mul] at hs
      refine ⟨by unfold vldC; simp [hs.vld, (sc_nonneg hD hs).1 (by omega)], fun Y hY => ?_⟩
      have e := sc_one hs hY
      exact ⟨Or.inl (by omega), Or.inl hnh⟩

/-- Values over one denominator. -/
def Rp (D : Int) (X : Nat → Int) (P : List Pq) : Prop := 0 < D ∧ ∀ i, i < P.length → Sc D (gp P i).1 (gp P i).2 (X i)

theorem rp_of {P : List Pq} (hv : ∀ i, i < P.length → vldC (gp P i) = true) : ∃ D X, Rp D X P := by
  have h := ov_of hv
  refine ⟨_, fun i => (clk P (i + 1)).1 * (dnP P / (clk P (i + 1)).2), h.pos, fun i hi => ⟨?_, ?_⟩⟩
  · have := hv i hi; unfold vldC at this; simp at this; exact this.1
  · have : (clk P (i + 1)).1 * (dnP P / (clk P (i + 1)).2) * (clk P (i + 1)).2 = (clk P (i + 1)).1 * dnP P := h.val (i + 1) (by omega)
    have e : clk P (i + 1) = gp P i := by unfold clk; rw [if_neg (by omega)]; simp
    show (clk P (i + 1)).1 * (dnP P / (clk P (i + 1)).2) * (gp P i).2 = (gp P i).1 * dnP P
    rw [e] at this ⊢
    exact this

theorem gp_app {P : List Pq} {q : Pq} {i : Nat} : (i < P.length → gp (P ++ [q]) i = gp P i) ∧ (i = P.length → gp (P ++ [q]) i = q) := by
  constructor
  · intro h; simp [gp, List.getElem?_append, h]
  · intro h; subst h; simp [gp]

/-- The walk over the bounds of the clock k + 1, over any denominator. -/
theorem pt_core {n k : Nat} {l : List Int} {P : List Pq} (hc : chkE n l = 0) (hk : k + 1 ≤ n) (i1 : P.length = k + 1) (i2 : gp P 0 = (0, 1)) (i4 : ∀ D X, Rp D X P → ∀ i j, i ≤ k → j ≤ k → Zo.mt D (X i - X j) (Zo.At n l i j)) (c1 : (cxR n l P (k + 1) (k + 1)).2 = 0) :
    ∀ D X, Rp D X P → ∃ L H, HiInv D (cxR n l P (k + 1) (k + 1)).1 H (k + 1) X (fun t => Zo.At n l (k + 1) t) ∧ LoInv D (cxR n l P (k + 1) (k + 1)).1 L (k + 1) X (fun t => Zo.At n l t (k + 1)) ∧ Full (cxR n l P (k + 1) (k + 1)).1 L H := by
  obtain ⟨dg, rw0⟩ := chk_diag hc

  intro D X hR
  obtain ⟨L, H, hi, lo⟩ := iv_inv hR.1 (T := k + 1) (cxR n l P (k + 1)) (fun t => gp P t) (fun t => Zo.At n l (k + 1) t) (fun t => Zo.At n l t (k + 1)) X rfl
    (fun t _ h => by show (if (cxR n l P (k + 1) t).2 = 0 then _ else cxR n l P (k + 1) t) = _; rw [if_pos h])
    (fun t h => by show (if (cxR n l P (k + 1) t).2 = 0 then _ else cxR n l P (k + 1) t) = _; rw [if_neg h])
    (fun t ht => hR.2 t (by omega)) (fun t ht => chk_lvs hc (by omega) (by omega)) (fun t ht => chk_lvs hc (by omega) (by omega)) (k + 1) (Nat.le_refl _) c1
  refine ⟨L, H, hi, lo, ?_⟩
  have hp : ∀ s r, s < k + 1 → r < k + 1 → Zo.At n l (k + 1) s ≠ 1099511627776 → Zo.At n l r (k + 1) ≠ 1099511627776 → (X r - X s < (Zo.At n l (k + 1) s / 2 + Zo.At n l r (k + 1) / 2) * D ∨ (X r - X s = (Zo.At n l (k + 1) s / 2 + Zo.At n l r (k + 1) / 2) * D ∧ ¬ Zo.At n l (k + 1) s % 2 = 0 ∧ ¬ Zo.At n l r (k + 1) % 2 = 0)) := by
    intro s r hs' hr' hu hw
    have m := i4 D X hR r s (by omega) (by omega)
    have t := chk_tri hc r s (k + 1) (by omega) (by omega) hk
    have tp : Zo.smW (Zo.At n l r (k + 1)) (Zo.At n l (k + 1) s) ≤ 1099511627776 := smW_le (chk_lvs hc (by omega) (by omega)) (chk_lvs hc (by omega) (by omega))
    have m2 := mt_split hw hu (chk_lvs hc (by omega) (by omega)) (chk_lvs hc (by omega) (by omega)) (Zo.mt_mono hR.1 t tp m)
    rw [Int.add_comm (Zo.At n l (k + 1) s / 2)]
    rcases m2 with m2 | ⟨a, b, c⟩
    · exact Or.inl m2
    · exact Or.inr ⟨a, c, b⟩
  refine full_of hi lo (fun s hs' => ?_) (fun s r hs' hr' hu hw => hp s r hs' hr' hu hw)
  have x0 : X 0 = 0 := by
    have := (hR.2 0 (by omega)).val
    rw [i2] at this
    simpa using this
  show Zo.mt D (-X s) (Zo.At n l (k + 1) s)
  have w0 := rw0 (k + 1) hk
  by_cases hu : Zo.At n l (k + 1) s = 1099511627776
  · exact Or.inl hu
  · have := hp s 0 hs' (by omega) hu (by omega)
    rw [x0, Int.add_mul] at this
    have z : Zo.At n l 0 (k + 1) / 2 * D ≤ 0 * D := Int.mul_le_mul_of_nonneg_right (by omega) (by have := hR.1; omega)
    rw [Int.zero_mul] at z
    unfold Zo.mt
    by_cases ev : Zo.At n l (k + 1) s % 2 = 0
    · right; left; exact ⟨ev, by rcases this with g | ⟨g, g2, _⟩ <;> omega⟩
    · right; right; exact ⟨ev, by rcases this with g | ⟨g, _⟩ <;> omega⟩

theorem pt_math {n : Nat} {l : List Int} (hc : chkE n l = 0) : ∀ k, k ≤ n → (ptR n l k).2 = 0 → (ptR n l k).1.length = k + 1 ∧ gp (ptR n l k).1 0 = (0, 1) ∧ (∀ i, i < (ptR n l k).1.length → vldC (gp (ptR n l k).1 i) = true) ∧
    ∀ D X, Rp D X (ptR n l k).1 → ∀ i j, i ≤ k → j ≤ k → Zo.mt D (X i - X j) (Zo.At n l i j) := by
  intro k
  induction k with
  | zero =>
    intro _ _
    refine ⟨rfl, rfl, fun i hi => ?_, fun D X _ i j hi hj => ?_⟩
    · obtain rfl : i = 0 := by simp [ptR] at hi; omega
      show vldC (0, 1) = true
      decide
    · obtain rfl : i = 0 := by omega
      obtain rfl : j = 0 := by omega
      rw [Int.sub_self, (chk_diag hc).1 0 (by omega)]; exact Zo.mt_one.2 (Int.le_refl _)
  | succ k ih =>
    intro hk he
    have e0 : (ptR n l k).2 = 0 := by
      by_cases c : (ptR n l k).2 = 0
      · exact c
      · rw [pt_stay (t := k) (m := k + 1) (by omega) c] at he; exact absurd he c
    obtain ⟨i1, i2, i3, i4⟩ := ih (by omega) e0
    have hs := pt_succ e0
    generalize (ptR n l k).1 = P at *
    by_cases c1 : (cxR n l P (k + 1) (k + 1)).2 = 0
    · rw [if_pos c1] at hs
      by_cases c2 : chE (cxR n l P (k + 1) (k + 1)).1 = 0
      · rw [if_pos c2] at hs
        rw [hs]
        obtain ⟨dg, rw0⟩ := chk_diag hc
        have core := pt_core hc hk i1 i2 i4 c1
        have hvn : vldC (chN (cxR n l P (k + 1) (k + 1)).1, chD (cxR n l P (k + 1) (k + 1)).1) = true := by
          obtain ⟨D, X, hR⟩ := rp_of i3
          obtain ⟨L, H, hi, lo, hf⟩ := core D X hR
          exact (ch_in hR.1 lo.1 lo.2.1 (fun q => (hi.2 q).1) hf c2).1
        refine ⟨by simp [i1], ?_, fun i hi => ?_, fun D X hR i j hi hj => ?_⟩
        · rw [gp_app.1 (by omega)]; exact i2
        · simp at hi
          by_cases c : i < P.length
          · rw [gp_app.1 c]; exact i3 i c
          · rw [gp_app.2 (by omega)]; exact hvn
        · have hR0 : Rp D X P := ⟨hR.1, fun i hi => by have := hR.2 i (by simp; omega); rwa [gp_app.1 hi] at this⟩
          have hY : Sc D (chN (cxR n l P (k + 1) (k + 1)).1) (chD (cxR n l P (k + 1) (k + 1)).1) (X (k + 1)) := by
            have := hR.2 (k + 1) (by simp; omega)
            rwa [gp_app.2 (by omega)] at this
          obtain ⟨L, H, hi', lo, hf⟩ := core D X hR0
          have hin := (ch_in hR.1 lo.1 lo.2.1 (fun q => (hi'.2 q).1) hf c2).2 _ hY
          have mem := (iv_member hi' lo).1 hin
          by_cases a : i = k + 1
          · by_cases b : j = k + 1
            · subst a; subst b; rw [Int.sub_self, dg _ hk]; exact Zo.mt_one.2 (Int.le_refl _)
            · subst a; exact (mem.2 j (by omega)).1
          · by_cases b : j = k + 1
            · subst b; exact (mem.2 i (by omega)).2
            · exact i4 D X hR0 i j (by omega) (by omega)
      · rw [if_neg c2] at hs; rw [hs] at he; exact absurd he c2
    · rw [if_neg c1] at hs; rw [hs] at he; exact absurd he c1

theorem mid_seven {n d m c : Int} (h : midB n d m c = true) (e : mdE n d m c ≠ 0) : mdE n d m c = 7 := by
  obtain ⟨hA, hK⟩ := mid_args h
  have hbest : Best n d m c (midX n d m c) (midY n d m c) := smp_best _ n d m c hA.ends hK
  have y1 := hbest.1
  unfold mdE opErr at e ⊢
  rw [h] at e ⊢
  simp only [if_true] at e ⊢
  exact (mk_zero (by omega) e).2.2

theorem ch_seven {D : Int} {x : Dl} {L H : Int} (hD : 0 < D) (h1 : Sc D x.ln x.ld L) (h2 : x.nh = false → Sc D x.hn x.hd H) (hf : Full x L H) (e : chE x ≠ 0) : chE x = 7 := by
  unfold chE at e ⊢
  cases hlo : x.lo
  · rw [hlo] at e; exact absurd rfl e
  · rw [hlo] at e
    simp only [if_true] at e ⊢
    cases hnh : x.nh
    · rw [hnh] at e
      simp only [Bool.false_eq_true, if_false] at e ⊢
      refine mid_seven ?_ e
      have k := h2 hnh
      unfold midB
      rw [h1.vld, k.vld]
      unfold Full at hf
      rw [hnh, hlo] at hf
      rcases hf with q | q | ⟨_, q, _⟩
      · cases q
      · simpa using (sc_cmp hD h1 k).1.2 q
      · cases q
    · rw [hnh] at e
      simp only [if_true] at e ⊢
      exact sh_seven h1.vld e

/-- Point's values, both ways. -/
theorem pt_same {n : Nat} {l : List Int} (hc : chkE n l = 0) : ∀ k, k ≤ n → ((ptR n l k).2 = 0 → (rpR n l k).2 = false ∧ (ptR n l k).1 = (0, 1) :: (rpR n l k).1) ∧ ((ptR n l k).2 ≠ 0 → (ptR n l k).2 = 7 ∧ (rpR n l k).2 = true) := by
  intro k
  induction k with
  | zero => intro _; exact ⟨fun _ => ⟨rfl, rfl⟩, fun q => absurd rfl q⟩
  | succ k ih =>
    intro hk
    have ih := ih (by omega)
    by_cases e0 : (ptR n l k).2 = 0
    · obtain ⟨r0, rP⟩ := ih.1 e0
      obtain ⟨i1, i2, i3, i4⟩ := pt_math hc k (by omega) e0
      have hs := pt_succ e0
      have hr := rp_succ r0
      have hcl : ∀ t, clk (rpR n l k).1 t = gp (ptR n l k).1 t := fun t => by rw [rP, clk_gp]
      have W := walk_same (T := k + 1) (cxR n l (ptR n l k).1 (k + 1)) (rcX n l (rpR n l k).1 (k + 1)) (fun t => gp (ptR n l k).1 t) (fun t => Zo.At n l (k + 1) t) (fun t => Zo.At n l t (k + 1)) rfl rfl (fun _ => rfl) (fun t => by rw [← hcl t]; rfl)
        (fun t ht => by have := i3 t (by omega); unfold vldC at this; simp at this; exact this.1) (k + 1) (Nat.le_refl _)
      rw [hs, hr]
      by_cases c1 : (cxR n l (ptR n l k).1 (k + 1) (k + 1)).2 = 0
      · obtain ⟨w1, w2⟩ := W.1 c1
        rw [if_pos c1, w1]
        obtain ⟨D, X, hR⟩ := rp_of i3
        obtain ⟨L, H, hi, lo, hf⟩ := pt_core hc hk i1 i2 i4 c1 D X hR
        by_cases c2 : chE (cxR n l (ptR n l k).1 (k + 1) (k + 1)).1 = 0
        · rw [if_pos c2, if_neg (by simp [c2])]
          exact ⟨fun _ => ⟨rfl, by rw [rP]; rfl⟩, fun q => absurd rfl q⟩
        · rw [if_neg c2, if_pos (Or.inr c2)]
          exact ⟨fun q => absurd q c2, fun _ => ⟨ch_seven hR.1 lo.1 (fun q => (hi.2 q).1) hf c2, rfl⟩⟩
      · obtain ⟨w1, w2⟩ := W.2 c1
        rw [if_neg c1, if_pos (Or.inl w2)]
        exact ⟨fun q => absurd q c1, fun _ => ⟨w1, rfl⟩⟩
    · obtain ⟨r0, rP⟩ := ih.2 e0
      rw [pt_stay (Nat.le_succ k) e0, rp_stay (Nat.le_succ k) rP]
      exact ⟨fun q => absurd q e0, fun _ => ⟨r0, rP⟩⟩

/-- Point of the reference, whatever comes in. -/
theorem rpoint_same (N : Int) (l : List Int) (ao : Option Addr) (cap : Nat) (w : World) (hA : Arg w ao l) :
    Calls Tryz.prog 11 #[.agg #[.int .i64 N, .slice ao l.length cap]] w (QRes w (pnL N l) (pnE N l)) := by
  refine (rpoint_gen N l ao cap w hA).mono ?_
  rintro e w' ⟨hb, h⟩
  refine ⟨hb, ?_⟩
  unfold pnL pnE
  by_cases hc : chkE N l = 0
  · rw [if_pos hc] at h
    rw [if_pos hc] at h
    rw [if_pos hc, if_pos hc]
    obtain ⟨n, rfl, hn, hl, hne⟩ := chk_ok hc
    rw [Int.toNat_natCast] at h ⊢
    obtain ⟨p1, p2⟩ := pt_same hc n (Nat.le_refl _)
    by_cases e0 : (ptR n l n).2 = 0
    · obtain ⟨r0, rP⟩ := p1 e0
      rw [r0] at h
      rw [rP, e0]
      exact h
    · obtain ⟨r0, rP⟩ := p2 e0
      rw [rP] at h
      rcases h with ⟨q, _⟩ | ⟨_, rfl⟩
      · exact absurd q (by decide)
      · refine Or.inr ⟨e0, ?_⟩
        rw [r0]; rfl
  · rw [if_neg hc] at h
    rw [if_neg hc] at h
    rw [if_neg hc, if_neg hc]
    exact h
end Go.Proofs.YtbnebinpemejlaaGreat

namespace Go.Proofs.YtbnebinpemejlaaGreat
open Go.RowKit

theorem rat_ext {cs ds : List Pq} (hl : cs.length = ds.length) (h : ∀ k, k < cs.length → gp cs k = gp ds k) : cs = ds := by
  apply List.ext_getElem hl
  intro i h1 h2
  have := h i h1
  simpa [gp, h1, h2] using this

set_option maxRecDepth 100000 in
set_option maxHeartbeats 1600000 in
theorem srat_any (cs ds : List Pq) (ao bo : Option Addr) (ca cb : Nat) (w : World) (hA : Arg2 w ao cs) (hB : Arg2 w bo ds) (hl : cs.length ≤ 1000) :
    Calls Tryz.prog 12 #[.slice ao cs.length ca, .slice bo ds.length cb] w (Made (.bool (decide (cs = ds))) w) := by
  by_cases hlen : cs.length = ds.length
  case neg =>
    have HF := Lib.hid (show decide (cs = ds) = false from decide_eq_false (fun e => hlen (by rw [e])))
    have D : ((cs.length : Int) != (ds.length : Int)) = true := by simp; omega
    clear hA hB
    generalize cs.length = c at *
    generalize ds.length = d at *
    go_enter Tryz.func12, Tryz.ntmps12
    go_wp2_with fail
    go_ret
    exact ⟨ret_bool HF.out.symm, Below.refl _ _⟩
  case pos =>
    have D : ((cs.length : Int) != (ds.length : Int)) = false := by simp; omega
    obtain ⟨len, hc⟩ : ∃ len, len = cs.length := ⟨_, rfl⟩
    have hd : ds.length = len := by omega
    have HC := Lib.hid hc
    have HDD := Lib.hid hd
    have HA := Lib.hid hA
    have HB := Lib.hid hB
    rw [hd, ← hc] at D
    rw [hd, ← hc]
    have hl2 : len ≤ 1000 := by omega
    clear hlen hc hd hA hB hl
    go_enter Tryz.func12, Tryz.ntmps12
    go_wp2_with fail
    go_loopw [5] (fun s wr => ∃ t : Nat, t ≤ len ∧ s = .int .i64 t ∧ Hid (∀ k, k < t → gp cs k = gp ds k) ∧ Hid (Below w.heap.size w wr)) (fun s _ => len - (intOf s).toNat)
    case atStart => exact ⟨0, by omega, rfl, Lib.hid (fun k hk => by omega), Lib.hid (Below.refl _ _)⟩
    case round =>
      obtain ⟨t, ht, rfl, HT, HW⟩ := hrel
      by_cases htn : t < len
      case pos =>
        obtain ⟨a, rfl, hR⟩ := HA.out (fun e => by have := HC.out; rw [e] at this; simp at this; omega)
        obtain ⟨b, rfl, hS⟩ := HB.out (fun e => by have := HDD.out; rw [e] at this; simp at this; omega)
        obtain ⟨a0, a1⟩ := (hR.on HW.out) t (by rw [← HC.out]; exact htn)
        obtain ⟨b0, b1⟩ := (hS.on HW.out) t (by rw [HDD.out]; exact htn)
        clear hR hS
        obtain ⟨p, hp⟩ : ∃ p, p = gp cs t := ⟨_, rfl⟩
        obtain ⟨q, hq⟩ : ∃ q, q = gp ds t := ⟨_, rfl⟩
        rw [← hp] at a0 a1
        rw [← hq] at b0 b1
        have HP := Lib.hid hp
        have HQ := Lib.hid hq
        clear hp hq
        obtain ⟨i, j⟩ := p
        obtain ⟨i', j'⟩ := q
        simp only at a0 a1 b0 b1
        by_cases he : ((i, j) : Pq) = (i', j')
        case pos =>
          have HT2 := Lib.hid (show ∀ k, k < t + 1 → gp cs k = gp ds k from fun k hk => by
            by_cases e : k = t
            · rw [e, ← HP.out, ← HQ.out]; exact he
            · exact HT.out k (by omega))
          simp only [Prod.mk.injEq] at he
          obtain ⟨rfl, rfl⟩ := he
          go_wp2_with fail
          go_quiet (fail)
          go_wp2_with fail
          go_roundw
          case rel => exact ⟨t + 1, by omega, by go_num, HT2, Lib.hid (below_drewN HW.out _)⟩
          case measure => simp [intOf]; omega
        case neg =>
          have HF := Lib.hid (show decide (cs = ds) = false from decide_eq_false (fun e => he (by rw [HP.out, HQ.out, e])))
          by_cases c1 : i = i'
          case neg =>
            have D1 : (i == i') = false := by simpa using c1
            clear he c1
            go_wp2_with fail
            go_quiet (fail)
            go_wp2_with fail
            go_ret
            exact ⟨ret_bool HF.out.symm, below_drewN HW.out _⟩
          case pos =>
            have c2 : j ≠ j' := fun e => he (by rw [c1, e])
            have D1 : (j == j') = false := by simpa using c2
            subst c1
            clear he c2
            go_wp2_with fail
            go_quiet (fail)
            go_wp2_with fail
            go_ret
            exact ⟨ret_bool HF.out.symm, below_drewN HW.out _⟩
      case neg =>
        have HF := Lib.hid (show decide (cs = ds) = true from decide_eq_true (rat_ext (by rw [← HC.out, HDD.out]) (fun k hk => HT.out k (by rw [← HC.out] at hk; omega))))
        go_wp2_with fail
        go_ret
        exact ⟨ret_bool HF.out.symm, HW.out⟩
end Go.Proofs.YtbnebinpemejlaaGreat

namespace Go.Proofs.YtbnebinpemejlaaGreat
open Go.RowKit

theorem ownI_arg {w : World} {B : Nat} {v : Value} {l : List Int} (h : w.ownsRow B 46 1 v l.length (l.map (Value.int .i64))) : ∃ ao cap, v = .slice ao l.length cap ∧ Arg w ao l := by
  rcases h.2 with ⟨rfl, hn⟩ | ⟨g, cap, cur, rfl, hb, hg, hc, hm, hsz, htake⟩
  · exact ⟨none, 0, by rw [hn], fun hne => absurd (List.eq_nil_of_length_eq_zero hn) hne⟩
  · exact ⟨_, cap, rfl, fun _ => ⟨_, rfl, (own_of h rfl rfl).1.rd⟩⟩

theorem cells_one {w w' : World} (x : Value) (t : TypeId) (hw : w' = w.alloc (.cells #[x] t)) : ∀ j u, ([x] : List Value)[j]? = some u → w'.cell? ((⟨w.heap.size, 0, none⟩ : Addr).add j) = some u := by
  subst hw
  intro j u hu
  rw [addr_add]
  match j, hu with
  | 0, hu => simp at hu; subst hu; go_simp

set_option maxRecDepth 100000 in
set_option maxHeartbeats 4000000 in
theorem limits_any (l : List Int) (a : Addr) (cap : Nat) (w : World) (hR : Rd w a l) (hl : l.length ≤ 1000) :
    Calls Tryz.prog 18 #[.slice (some a) l.length cap] w (fun e w' => Below w.heap.size w w' ∧ ∃ ao c, e = .returned (.slice ao l.length c) ∧ Arg w' ao l) := by
  obtain ⟨i0, hi, hz0, hz1, hz2⟩ := info_parts Tryz.info46
  have HR := Lib.hid hR
  obtain ⟨len, hlen⟩ : ∃ len, len = l.length := ⟨_, rfl⟩
  have HL := Lib.hid hlen
  rw [← hlen] at hl ⊢
  clear hR hlen
  go_enter Tryz.func18, Tryz.ntmps18
  go_wp2_with fail
  go_loopw [4, 3] (fun s v wr => ∃ t : Nat, t ≤ len ∧ s = .int .i64 t ∧ Hid (wr.ownsRow w.heap.size 46 1 v t ((l.take t).map (Value.int .i64)) ∧ Below w.heap.size w wr)) (fun s _ _ => len - (intOf s).toNat)
  case atStart => exact ⟨0, by omega, rfl, Lib.hid ⟨World.ownsRow_nil _ _ _ _, Below.refl _ _⟩⟩
  case round =>
    obtain ⟨t, ht, rfl, HX⟩ := hrel
    by_cases htn : t < len
    case pos =>
      have hc := (HR.out.on HX.out.2) t (by rw [← HL.out]; exact htn)
      obtain ⟨x, hx⟩ : ∃ x, x = Zo.gt l t := ⟨_, rfl⟩
      rw [← hx] at hc
      have HXX := Lib.hid hx
      have hown := HX.out.1
      have hsz := HX.out.2.size
      clear hx
      go_wp2_with (at_builtin; refine wpList_append_own _ rfl _ _ 22 rfl w.heap.size 46 i0 (.int .i64 0) 1 8 Tryz.underlying22 hi hz0 hz1 hz2 rfl (by decide) _ _ _ rfl (World.ownsRow.alloc hown _) ⟨_, 0, none⟩ 1 1 [.int .i64 x] rfl rfl (cells_one _ _ rfl) (by simp [Value.oneCell']) (by unfold maxLen; omega) (by omega) (by simp; omega) ?_)
      intro v' w9 hown9 hgrow _
      have B9 := Lib.hid (show Below w.heap.size w w9 from Below.grown (HX.out.2.alloc HX.out.2.size _) hgrow (by simp; omega) (fun k hk => (World.ownsRow.lt hown k hk).1))
      have O9 := Lib.hid (show w9.ownsRow w.heap.size 46 1 v' (t + 1) ((l.take (t + 1)).map (Value.int .i64)) by
        have htl : t < l.length := by rw [← HL.out]; exact htn
        rw [show l.take (t + 1) = l.take t ++ [x] by
          rw [List.take_add_one, HXX.out]
          simp [Zo.gt, htl], List.map_append, List.map_take]
        exact hown9)
      clear hown9 hgrow hown hc hsz
      go_wp2_with fail
      go_roundw
      case rel => exact ⟨t + 1, by omega, by go_num, Lib.hid ⟨O9.out, B9.out⟩⟩
      case measure => simp [intOf]; omega
    case neg =>
      obtain rfl : t = len := by omega
      have HO := Lib.hid (show _ from by
        have := HX.out.1
        rw [List.take_of_length_le (by rw [← HL.out]; exact Nat.le_refl _)] at this
        rw [HL.out] at this
        exact ownI_arg this)
      go_wp2_with fail
      go_ret
      obtain ⟨ao, c, h1, h2⟩ := HO.out
      rw [← HL.out] at h1
      exact ⟨HX.out.2, ao, c, congrArg Ending.returned h1, h2⟩
end Go.Proofs.YtbnebinpemejlaaGreat

namespace Go.Proofs.YtbnebinpemejlaaGreat
open Go.RowKit

theorem weak_small {c : Int} (h0 : -1048576 ≤ c) (h1 : c ≤ 1048576) (w : World) : Calls Tryz.prog 85 #[.int .i64 c] w (Still (.tuple #[.int .i64 (2 * c + 1), .int .i64 0]) w) := by
  have := weak_any c w
  rwa [show jnL c false = 2 * c + 1 by unfold jnL; rw [if_pos (by omega)]; rfl, show jnE c = 0 by unfold jnE; rw [if_pos (by omega)]] at this

set_option maxHeartbeats 1000000 in
theorem equals_any {c : Int} (h0 : 0 ≤ c) (h1 : c ≤ 1048576) (w : World) : Calls Tryz.prog 56 #[.int .i64 c] w (Still (.tuple #[.int .i64 (2 * c + 1), .int .i64 (-2 * c + 1)]) w) := by
  have W1 := Lib.hid (fun W => weak_small (c := c) (by omega) h1 W)
  have W2 := Lib.hid (show ∀ W, Calls Tryz.prog 85 #[.int .i64 (-c)] W (Still (.tuple #[.int .i64 (-2 * c + 1), .int .i64 0]) W) from fun W => by
    have := weak_small (c := -c) (by omega) (by omega) W
    rwa [show 2 * -c + 1 = -2 * c + 1 by omega] at this)
  go_enter Tryz.func56, Tryz.ntmps56
  go_wp2_with fail
  refine (W1.out _).mono ?_
  rintro e w1 ⟨rfl, hw⟩
  rw [hw]; clear hw w1
  go_wp2_with fail
  refine (W2.out _).mono ?_
  rintro e w1 ⟨rfl, hw⟩
  rw [hw]; clear hw w1
  go_wp2_with fail
  go_ret2
  exact ⟨rfl, rfl⟩

set_option maxHeartbeats 1000000 in
theorem isConstant_any (c : Int) (w : World) : Calls Tryz.prog 54 #[.int .i64 c] w (Still (.bool (cnB c)) w) := by
  by_cases h : 0 ≤ c
  · by_cases g : c ≤ 1048576
    · have H := Lib.hid (show cnB c = true by unfold cnB; simp; omega)
      go_enter Tryz.func54, Tryz.ntmps54
      go_wp2_with fail
      go_ret
      exact ⟨ret_bool H.out.symm, rfl⟩
    · have H := Lib.hid (show cnB c = false by unfold cnB; simp; omega)
      have D : decide (c ≤ 1048576) = false := by simp; omega
      go_enter Tryz.func54, Tryz.ntmps54
      go_wp2_with fail
      go_ret
      exact ⟨ret_bool H.out.symm, rfl⟩
  · have H := Lib.hid (show cnB c = false by unfold cnB; simp; omega)
    have D : decide ((0 : Int) ≤ c) = false := by simp; omega
    go_enter Tryz.func54, Tryz.ntmps54
    go_wp2_with fail
    go_ret
    exact ⟨ret_bool H.out.symm, rfl⟩

theorem anL_two (n i j : Nat) (c : Int) (x : List Int) : anL n (isC i j c) x = (x.set (Zo.ix n i j) (imin (Zo.At n x i j) (2 * c + 1))).set (Zo.ix n j i) (imin (Zo.At n (x.set (Zo.ix n i j) (imin (Zo.At n x i j) (2 * c + 1))) j i) (-2 * c + 1)) := rfl

set_option maxRecDepth 100000 in
set_option maxHeartbeats 4000000 in
theorem re1_any (b n i : Nat) (c : Int) (p q : Addr) (l : List Int) (w0 w : World) (hn : n ≤ 10) (hi : i ≤ n) (h0 : 0 ≤ c) (h1 : c ≤ 1048576) (h : Mx w b n l) (hp : w0.cell? p = some (.int .i64 c)) (hq : w0.cell? q = some (.int .i64 i)) (hb : Below w0.heap.size w0 w) (hle : w0.heap.size ≤ b) :
    Calls Tryz.prog 55 #[.pointer (some ⟨b, 0, none⟩), .pointer (some p), .pointer (some q)] w (Chg w b n (anL n (isC i 0 c) (rlL n i l))) := by
  have KQ := Lib.hid (show ∀ x w', MSt w b n x w' → w'.cell? q = some (.int .i64 i) from fun x w' hx => hx.old hb hle hq)
  have RE := Lib.hid (release_any b n i l w hn hi h)
  have EQ := Lib.hid (fun W => equals_any h0 h1 W)
  have TT := Lib.hid (fun (x : List Int) (i j : Nat) (v : Int) (hi : i ≤ n) (hj : j ≤ n) (w' : World) (h : MSt w b n x w') => tighten_st (i := i) (j := j) v hn hi hj h)
  have c1 : w.cell? p = some (.int .i64 c) := kept hb hp
  have c2 : w.cell? q = some (.int .i64 i) := kept hb hq
  clear h hp hq hb hle
  go_enter Tryz.func55, Tryz.ntmps55
  go_wp2_with fail
  refine (EQ.out _).mono ?_
  rintro e w1 ⟨rfl, hw⟩
  rw [hw]; clear hw w1
  go_wp2_with fail
  refine RE.out.mono ?_
  rintro e w1 ⟨rfl, hm⟩
  have HM := Lib.hid hm
  clear c1 c2 hm
  have c2 := KQ.out _ _ HM.out
  go_wp2_with fail
  refine (TT.out _ i 0 _ hi (by omega) _ HM.out).mono ?_
  rintro e w2 ⟨rfl, hm⟩
  have HM2 := Lib.hid hm
  clear c2 hm
  have c2 := KQ.out _ _ HM2.out
  go_wp2_with fail
  refine (TT.out _ 0 i _ (by omega) hi _ HM2.out).mono ?_
  rintro e w3 ⟨rfl, hm⟩
  have HM3 := Lib.hid hm
  clear c2 hm
  go_wp2_with fail
  go_end0
  refine ⟨rfl, ?_⟩
  show MSt w b n (anL n (isC (i : Int) ((0 : Nat) : Int) c) (rlL n i l)) _
  rw [anL_two]; exact HM3.out
end Go.Proofs.YtbnebinpemejlaaGreat

namespace Go.Proofs.YtbnebinpemejlaaGreat
open Go.RowKit

theorem ZRes.swap {w : World} {N : Int} {l l' : List Int} {er : Int} {e : Ending} {w' : World} (h : ZRes w N l er e w') (he : er = 0 → l = l') : ZRes w N l' er e w' := by
  refine ⟨h.1, ?_⟩
  rcases h.2 with ⟨h0, h1⟩ | h1
  · rw [← he h0]; exact Or.inl ⟨h0, h1⟩
  · exact Or.inr h1

theorem enter_re (args : Array Value) (W : World) : (callFunc 55 args).run Tryz.prog W = .ok (.enter 55 args) W := by go_simp

theorem ch_re (N : Int) (l : List Int) (ao : Option Addr) (cap : Nat) (i c : Int) (p q : Addr) (w : World) (hA : Arg w ao l) (hp : w.cell? p = some (.int .i64 c)) (hq : w.cell? q = some (.int .i64 i)) (al : Bool) (hal : al = (ckB N i 1 && cnB c)) :
    Calls Tryz.prog 46 #[.agg #[.int .i64 N, .slice ao l.length cap], .bool al, .func (.func 55) #[] #[.pointer (some p), .pointer (some q)]] w (ZRes w N (reL N.toNat i.toNat c l) (reG N l i c)) := by
  by_cases hc : chkE N l = 0
  · cases al
    · refine (changed_bad N l ao cap false _ w hA (Or.inr rfl)).mono fun e w' h => h.bad ?_
      unfold reG; rw [if_neg]
      intro ⟨_, h1, h2, h3⟩
      rw [h3] at hal
      unfold ckB at hal; simp at hal; omega
    · obtain ⟨n, rfl, hn, hl, hne⟩ := chk_ok hc
      have hk : ckB n i 1 = true := by cases h : ckB n i 1 <;> simp_all
      have hcn : cnB c = true := by cases h : cnB c <;> simp_all
      obtain ⟨k, rfl, hkn, hk1⟩ := ck_nat hk (by omega)
      have hcc : 0 ≤ c ∧ c ≤ 1048576 := by unfold cnB at hcn; simpa using hcn
      have hok := isC_ok (n := n) (i := k) (j := 0) (c := c) hkn (by omega) hcc.1 hcc.2
      have := changed_ok n l (anL n (isC k 0 c) (rlL n k l)) ao cap 55 #[.pointer (some p), .pointer (some q)] w hA hn hl hc (anL_64 (rlL_64 (chk_64 hc).1) (okC_all hok)) enter_re (fun W b hb hle hM => re1_any b n k c p q l w W hn hkn hcc.1 hcc.2 hM hp hq hb hle)
      obtain ⟨f1, f2⟩ := free_and (cs := isC k 0 c) hn hl hc (by omega) hkn hok
      rw [show reG (n : Int) l k c = cloE n (anL n (isC k 0 c) (rlL n k l)) by unfold reG reE; rw [if_pos ⟨hc, by omega, by omega, hcn⟩]; exact f1]
      exact this.mono fun e w' h => h.swap fun h0 => (f2 h0).symm
  · refine (changed_bad N l ao cap _ _ w hA (Or.inl (by unfold okB; simpa using hc))).mono fun e w' h => h.bad ?_
    unfold reG; rw [if_neg (fun x => hc x.1)]

set_option maxRecDepth 100000 in
set_option maxHeartbeats 4000000 in
theorem zre_gen (N : Int) (l : List Int) (ao : Option Addr) (cap : Nat) (i c : Int) (w : World) (hA : Arg w ao l) :
    Calls Tryz.prog 17 #[.agg #[.int .i64 N, .slice ao l.length cap], .int .i64 i, .int .i64 c] w (ZRes w N (reL N.toNat i.toNat c l) (reG N l i c)) := by
  have CH := Lib.hid (show ∀ W p q al, Below w.heap.size w W → W.cell? p = some (.int .i64 c) → W.cell? q = some (.int .i64 i) → al = (ckB N i 1 && cnB c) → _ from fun W p q al h hp hq hal => ch_re N l ao cap i c p q W (hA.on h) hp hq al hal)
  have CK := Lib.hid (fun W => isClock_any N i 1 (.slice ao l.length cap) W)
  have C2 := Lib.hid (fun W => isConstant_any c W)
  generalize reL N.toNat i.toNat c l = r at *
  generalize reG N l i c = er at *
  generalize ckB N i 1 = k1 at *
  generalize cnB c = k2 at *
  generalize l.length = len at *
  obtain ⟨w0, hw0⟩ : ∃ w0, w0 = (((w.alloc (.cells #[.int .i64 N, .slice ao len cap] 24)).alloc (.cells #[.int .i64 i] 3)).alloc (.cells #[.int .i64 c] 2)).alloc (.cells #[.int .i64 0, .slice none 0 0] 24) := ⟨_, rfl⟩
  have b0 : w0.cell? ⟨w.heap.size, 0, none⟩ = some (.int .i64 N) := by rw [hw0]; go_simp
  have b1 : w0.cell? ⟨w.heap.size, 1, none⟩ = some (.slice ao len cap) := by rw [hw0]; go_simp
  have b2 : w0.cell? ⟨w.heap.size + 1, 0, none⟩ = some (.int .i64 i) := by rw [hw0]; go_simp
  have b3 : w0.cell? ⟨w.heap.size + 1 + 1, 0, none⟩ = some (.int .i64 c) := by rw [hw0]; go_simp
  have rs : Two w0 (w.heap.size + 1 + 1 + 1) (.int .i64 0) (.slice none 0 0) := by
    rw [hw0]
    have := Two.made (((w.alloc (.cells #[.int .i64 N, .slice ao len cap] 24)).alloc (.cells #[.int .i64 i] 3)).alloc (.cells #[.int .i64 c] 2)) (.int .i64 0) (.slice none 0 0) 24
    simpa using this
  have z0 : w0.heap.size = w.heap.size + 4 := by rw [hw0]; simp
  have E0 := Lib.hid (show Below w.heap.size w w0 by rw [hw0]; exact (past_three (Below.refl _ _)).alloc (by simp; omega) _)
  have KS := Lib.hid (show ∀ w' : World, Below w0.heap.size w0 w' → w'.cell? ⟨w.heap.size, 0, none⟩ = some (.int .i64 N) ∧ w'.cell? ⟨w.heap.size, 1, none⟩ = some (.slice ao len cap) ∧ w'.cell? ⟨w.heap.size + 1, 0, none⟩ = some (.int .i64 i) ∧ w'.cell? ⟨w.heap.size + 1 + 1, 0, none⟩ = some (.int .i64 c) from fun w' h => ⟨kept h b0, kept h b1, kept h b2, kept h b3⟩)
  have KP := Lib.hid (show ∀ (w' : World) (u v : Value), Below w0.heap.size w0 w' → (((w'.setCell ⟨w.heap.size + 1 + 1 + 1, 0, none⟩ u).setCell ⟨w.heap.size + 1 + 1 + 1, 1, none⟩ v).cell? ⟨w.heap.size, 0, none⟩ = some (.int .i64 N) ∧ ((w'.setCell ⟨w.heap.size + 1 + 1 + 1, 0, none⟩ u).setCell ⟨w.heap.size + 1 + 1 + 1, 1, none⟩ v).cell? ⟨w.heap.size, 1, none⟩ = some (.slice ao len cap) ∧ ((w'.setCell ⟨w.heap.size + 1 + 1 + 1, 0, none⟩ u).setCell ⟨w.heap.size + 1 + 1 + 1, 1, none⟩ v).cell? ⟨w.heap.size + 1, 0, none⟩ = some (.int .i64 i) ∧ ((w'.setCell ⟨w.heap.size + 1 + 1 + 1, 0, none⟩ u).setCell ⟨w.heap.size + 1 + 1 + 1, 1, none⟩ v).cell? ⟨w.heap.size + 1 + 1, 0, none⟩ = some (.int .i64 c)) from
    fun w' u v h => ⟨aside_two (kept h b0) (by show w.heap.size ≠ _; omega) u v, aside_two (kept h b1) (by show w.heap.size ≠ _; omega) u v, aside_two (kept h b2) (by show w.heap.size + 1 ≠ _; omega) u v, aside_two (kept h b3) (by show w.heap.size + 1 + 1 ≠ _; omega) u v⟩)
  have HRS := Lib.hid rs
  have BD := Lib.hid (show Below w0.heap.size w0 w0.drew from (Below.refl _ _).drew)
  clear hA b0 b1 b2 b3 rs
  cases k1
  · have HAL := Lib.hid (show false = (false && k2) from rfl)
    go_enter Tryz.func17, Tryz.ntmps17
    go_wp2_with fail
    rw [← hw0]
    clear hw0
    refine wp_region_held_drew (S := (fun w' => w'.cell? ⟨w.heap.size, 0, none⟩ = some (.int .i64 N) ∧ w'.cell? ⟨w.heap.size, 1, none⟩ = some (.slice ao len cap) ∧ w'.cell? ⟨w.heap.size + 1, 0, none⟩ = some (.int .i64 i) ∧ w'.cell? ⟨w.heap.size + 1 + 1, 0, none⟩ = some (.int .i64 c))) (by kernel_rfl) (KS.out _ BD.out) (fun h0 => ?_)
    refine wpAnyH_take (i := 0) (v := .agg #[.int .i64 N, .slice ao len cap]) rfl (by kernel_rfl) (by kernel_rfl) (by kernel_rfl) (fun _ _ _ h => h) (Or.inl ⟨by rfl, fun w' hS => by (obtain ⟨c0, c1, c2, c3⟩ := hS; go_simp)⟩) h0 ?_
    simp only [Act.put, List.getElem_toArray, List.getElem_cons_zero, List.setIfInBounds_toArray, List.set_cons_zero, List.set_cons_succ]
    refine wpAnyH_take (i := 1) (v := .agg #[.int .i64 N, .slice ao len cap]) rfl (by kernel_rfl) (by kernel_rfl) (by kernel_rfl) (fun _ _ _ h => h) (Or.inl ⟨by rfl, fun w' hS => by (obtain ⟨c0, c1, c2, c3⟩ := hS; go_simp)⟩) h0 ?_
    simp only [Act.put, List.getElem_toArray, List.getElem_cons_zero, List.getElem_cons_succ, List.setIfInBounds_toArray, List.set_cons_zero, List.set_cons_succ]
    refine wpAnyH_take (i := 2) (v := .int .i64 i) rfl (by kernel_rfl) (by kernel_rfl) (by kernel_rfl) (fun _ _ _ h => h) (Or.inl ⟨by rfl, fun w' hS => by (obtain ⟨c0, c1, c2, c3⟩ := hS; go_simp)⟩) h0 ?_
    simp only [Act.put, List.getElem_toArray, List.getElem_cons_zero, List.getElem_cons_succ, List.setIfInBounds_toArray, List.set_cons_zero, List.set_cons_succ]
    refine wpAnyH_take (i := 8) (v := .func (.func 55) #[] #[.pointer (some ⟨w.heap.size + 1 + 1, 0, none⟩), .pointer (some ⟨w.heap.size + 1, 0, none⟩)]) rfl (by kernel_rfl) (by kernel_rfl) (by kernel_rfl) (fun _ _ _ h => h) (Or.inl ⟨by rfl, fun w' hS => by go_simp⟩) h0 ?_
    simp only [Act.put, List.getElem_toArray, List.getElem_cons_zero, List.getElem_cons_succ, List.setIfInBounds_toArray, List.set_cons_zero, List.set_cons_succ]
    refine wpAnyH_ready (rs := [3]) (by kernel_rfl) (by simp) (AllReadyH.cons rfl (fun K hK => ?_) AllReadyH.nil)
    rw [if_pos (by rfl)]
    go_simp
    refine (CK.out _).mono ?_
    rintro e wa ⟨rfl, hba⟩
    have hb1 := below_on BD.out hba
    go_simp
    refine hK.out _ _ (KS.out _ hb1) (fun h1 => ?_)
    clear hK K h0
    refine wpAnyH_take (i := 4) (v := .bool false) rfl (by kernel_rfl) (by kernel_rfl) (by kernel_rfl) (fun _ _ _ h => h) (Or.inl ⟨by rfl, fun w' hS => by go_simp⟩) h1 ?_
    simp only [Act.put, List.getElem_toArray, List.getElem_cons_zero, List.getElem_cons_succ, List.setIfInBounds_toArray, List.set_cons_zero, List.set_cons_succ]
    refine wpAnyH_take (i := 5) (v := undef) rfl (by kernel_rfl) (by kernel_rfl) (by kernel_rfl) (fun _ _ _ h => h) (Or.inr ⟨by rfl, rfl⟩) h1 ?_
    simp only [Act.put, List.getElem_toArray, List.getElem_cons_zero, List.getElem_cons_succ, List.setIfInBounds_toArray, List.set_cons_zero, List.set_cons_succ]
    refine wpAnyH_take (i := 6) (v := undef) rfl (by kernel_rfl) (by kernel_rfl) (by kernel_rfl) (fun _ _ _ h => h) (Or.inr ⟨by rfl, rfl⟩) h1 ?_
    simp only [Act.put, List.getElem_toArray, List.getElem_cons_zero, List.getElem_cons_succ, List.setIfInBounds_toArray, List.set_cons_zero, List.set_cons_succ]
    refine wpAnyH_take (i := 7) (v := .bool false) rfl (by kernel_rfl) (by kernel_rfl) (by kernel_rfl) (fun _ _ _ h => h) (Or.inl ⟨by rfl, fun w' hS => by go_simp⟩) h1 ?_
    simp only [Act.put, List.getElem_toArray, List.getElem_cons_zero, List.getElem_cons_succ, List.setIfInBounds_toArray, List.set_cons_zero, List.set_cons_succ]
    refine wpAnyH_ready (rs := [9]) (by kernel_rfl) (by simp) (AllReadyH.cons rfl (fun K hK => ?_) AllReadyH.nil)
    rw [if_pos (by rfl)]
    go_simp
    refine (CH.out _ _ _ _ (below_on E0.out hb1) (KS.out _ hb1).2.2.2 (KS.out _ hb1).2.2.1 HAL.out).mono ?_
    intro e wb hz
    obtain ⟨hb4, hres⟩ := hz
    have hb2 := below_on hb1 hb4
    obtain ⟨q0, q1, q2, q3⟩ := (HRS.out.kept hb2).facts
    rcases hres with ⟨he, g, cc, rfl, hg, hO⟩ | ⟨he, rfl⟩
    · subst he
      go_simp
      refine hK.out _ _ (KS.out _ hb2) (fun h2 => ?_)
      clear hK K
      refine wpAnyH_take (i := 10) (v := .agg #[.int .i64 N, .slice (some ⟨g, 0, none⟩) r.length cc]) rfl (by kernel_rfl) (by kernel_rfl) (by kernel_rfl) (fun _ _ _ h => h) (Or.inl ⟨by rfl, fun w' hS => by go_simp⟩) h2 ?_
      simp only [Act.put, List.getElem_toArray, List.getElem_cons_zero, List.getElem_cons_succ, List.setIfInBounds_toArray, List.set_cons_zero, List.set_cons_succ]
      refine wpAnyH_take (i := 11) (v := .int .i64 0) rfl (by kernel_rfl) (by kernel_rfl) (by kernel_rfl) (fun _ _ _ h => h) (Or.inl ⟨by rfl, fun w' hS => by go_simp⟩) h2 ?_
      simp only [Act.put, List.getElem_toArray, List.getElem_cons_zero, List.getElem_cons_succ, List.setIfInBounds_toArray, List.set_cons_zero, List.set_cons_succ]
      refine wpAnyH_ready (rs := [12]) (by kernel_rfl) (by simp) (AllReadyH.cons rfl (fun K hK => ?_) AllReadyH.nil)
      rw [if_pos (by rfl)]
      go_simp
      refine hK.out _ _ (KP.out _ _ _ hb2) (fun h3 => ?_)
      clear hK K
      refine wpAnyH_take (i := 13) (v := .int .i64 0) rfl (by kernel_rfl) (by kernel_rfl) (by kernel_rfl) (fun _ _ _ h => h) (Or.inl ⟨by rfl, fun w' hS => by go_simp⟩) h3 ?_
      simp only [Act.put, List.getElem_toArray, List.getElem_cons_zero, List.getElem_cons_succ, List.setIfInBounds_toArray, List.set_cons_zero, List.set_cons_succ]
      refine wpAnyH_done (by kernel_rfl) ?_ _
      go_wp2_with fail
      refine bodyPost_ret (v := .tuple #[.agg #[.int .i64 N, .slice (some ⟨g, 0, none⟩) r.length cc], .int .i64 0]) (by simp [results, Tryz.results17, go_sem, q0, q1]) rfl (zres_over E0.out hb2 hO (Nat.le_trans hb1.size hg) (by omega) (by omega) _ _)
    · go_simp
      refine hK.out _ _ (KS.out _ hb2) (fun h2 => ?_)
      clear hK K
      refine wpAnyH_take (i := 10) (v := .agg #[.int .i64 0, .slice none 0 0]) rfl (by kernel_rfl) (by kernel_rfl) (by kernel_rfl) (fun _ _ _ h => h) (Or.inl ⟨by rfl, fun w' hS => by go_simp⟩) h2 ?_
      simp only [Act.put, List.getElem_toArray, List.getElem_cons_zero, List.getElem_cons_succ, List.setIfInBounds_toArray, List.set_cons_zero, List.set_cons_succ]
      refine wpAnyH_take (i := 11) (v := .int .i64 er) rfl (by kernel_rfl) (by kernel_rfl) (by kernel_rfl) (fun _ _ _ h => h) (Or.inl ⟨by rfl, fun w' hS => by go_simp⟩) h2 ?_
      simp only [Act.put, List.getElem_toArray, List.getElem_cons_zero, List.getElem_cons_succ, List.setIfInBounds_toArray, List.set_cons_zero, List.set_cons_succ]
      refine wpAnyH_ready (rs := [12]) (by kernel_rfl) (by simp) (AllReadyH.cons rfl (fun K hK => ?_) AllReadyH.nil)
      rw [if_pos (by rfl)]
      go_simp
      refine hK.out _ _ (KP.out _ _ _ hb2) (fun h3 => ?_)
      clear hK K
      refine wpAnyH_take (i := 13) (v := .int .i64 er) rfl (by kernel_rfl) (by kernel_rfl) (by kernel_rfl) (fun _ _ _ h => h) (Or.inl ⟨by rfl, fun w' hS => by go_simp⟩) h3 ?_
      simp only [Act.put, List.getElem_toArray, List.getElem_cons_zero, List.getElem_cons_succ, List.setIfInBounds_toArray, List.set_cons_zero, List.set_cons_succ]
      refine wpAnyH_done (by kernel_rfl) ?_ _
      go_wp2_with fail
      refine bodyPost_ret (v := .tuple #[.agg #[.int .i64 0, .slice none 0 0], .int .i64 er]) (by simp [results, Tryz.results17, go_sem, q0, q1]) rfl (zres_over0 E0.out hb2 he (by omega) _ _)
  · have HAL := Lib.hid (show k2 = (true && k2) from rfl)
    go_enter Tryz.func17, Tryz.ntmps17
    go_wp2_with fail
    rw [← hw0]
    clear hw0
    by_cases he : er = 0
    · subst he
      go_region_held3 (fun w' => w'.cell? ⟨w.heap.size, 0, none⟩ = some (.int .i64 N) ∧ w'.cell? ⟨w.heap.size, 1, none⟩ = some (.slice ao len cap) ∧ w'.cell? ⟨w.heap.size + 1, 0, none⟩ = some (.int .i64 i) ∧ w'.cell? ⟨w.heap.size + 1 + 1, 0, none⟩ = some (.int .i64 c)) (first | exact KS.out _ BD.out | exact KS.out _ (by assumption) | exact KP.out _ _ _ (by assumption))
        (first | (go_at_call 50; refine (CK.out _).mono ?_; rintro e wa ⟨rfl, hba⟩; have hb0 := below_on BD.out hba) | (go_at_call 54; refine (C2.out _).mono ?_; rintro e wc ⟨rfl, hw⟩; rw [hw]; have hb1 := hb0) | (go_at_call 46; refine (CH.out _ _ _ _ (below_on E0.out hb1) (KS.out _ hb1).2.2.2 (KS.out _ hb1).2.2.1 HAL.out).mono ?_; intro e wb hz; obtain ⟨g, cc, rfl, hg, hO⟩ := hz.ok rfl; have hb2 := below_on hb1 hz.1; obtain ⟨q0, q1, q2, q3⟩ := (HRS.out.kept hb2).facts))
      all_goals
        go_wp2_with fail
        refine bodyPost_ret (v := .tuple #[.agg #[.int .i64 N, .slice (some ⟨g, 0, none⟩) r.length cc], .int .i64 0]) (by simp [results, Tryz.results17, go_sem, q0, q1]) rfl (zres_over E0.out hb2 hO.1 (Nat.le_trans hb1.size hg) (by omega) (by omega) _ _)
    · go_region_held3 (fun w' => w'.cell? ⟨w.heap.size, 0, none⟩ = some (.int .i64 N) ∧ w'.cell? ⟨w.heap.size, 1, none⟩ = some (.slice ao len cap) ∧ w'.cell? ⟨w.heap.size + 1, 0, none⟩ = some (.int .i64 i) ∧ w'.cell? ⟨w.heap.size + 1 + 1, 0, none⟩ = some (.int .i64 c)) (first | exact KS.out _ BD.out | exact KS.out _ (by assumption) | exact KP.out _ _ _ (by assumption))
        (first | (go_at_call 50; refine (CK.out _).mono ?_; rintro e wa ⟨rfl, hba⟩; have hb0 := below_on BD.out hba) | (go_at_call 54; refine (C2.out _).mono ?_; rintro e wc ⟨rfl, hw⟩; rw [hw]; have hb1 := hb0) | (go_at_call 46; refine (CH.out _ _ _ _ (below_on E0.out hb1) (KS.out _ hb1).2.2.2 (KS.out _ hb1).2.2.1 HAL.out).mono ?_; intro e wb hz; obtain ⟨rfl, hzb⟩ := hz.no he; have hb2 := below_on hb1 hzb; obtain ⟨q0, q1, q2, q3⟩ := (HRS.out.kept hb2).facts))
      all_goals
        go_wp2_with fail
        refine bodyPost_ret (v := .tuple #[.agg #[.int .i64 0, .slice none 0 0], .int .i64 er]) (by simp [results, Tryz.results17, go_sem, q0, q1]) rfl (zres_over0 E0.out hb2 he (by omega) _ _)
end Go.Proofs.YtbnebinpemejlaaGreat

namespace Go.Proofs.YtbnebinpemejlaaGreat
open Go.RowKit

def closeB (N : Int) (l : List Int) : Bool := dimB N && decide (l.length = (N.toNat + 1) * (N.toNat + 1)) && l.all lvB

def closeE (N : Int) (l : List Int) : Int := if closeB N l then cloE N.toNat l else 2

theorem closeE_bad1 {N : Int} {l : List Int} (h : dimB N = false) : closeE N l = 2 := by simp [closeE, closeB, h]

theorem closeE_bad2 {N : Int} {l : List Int} (h : l.length ≠ (N.toNat + 1) * (N.toNat + 1)) : closeE N l = 2 := by simp [closeE, closeB, h]

theorem closeE_bad3 {N : Int} {l : List Int} {k : Nat} (hk : k < l.length) (h : lvB (Zo.gt l k) = false) : closeE N l = 2 := by
  have : l.all lvB = false := by
    rw [List.all_eq_false]
    exact ⟨l[k], List.getElem_mem hk, by rw [show l[k] = Zo.gt l k by simp [Zo.gt, hk], h]; simp⟩
  simp [closeE, closeB, this]

theorem closeE_ok {n : Nat} {l : List Int} (hn : n ≤ 10) (hl : l.length = (n + 1) * (n + 1)) (h : ∀ k, k < l.length → lvB (Zo.gt l k) = true) : closeE (n : Int) l = cloE n l := by
  have h1 : l.all lvB = true := by
    rw [List.all_eq_true]
    intro x hx
    obtain ⟨k, hk, rfl⟩ := List.getElem_of_mem hx
    have := h k hk
    simpa [Zo.gt, hk] using this
  have d : dimB (n : Int) = true := by unfold dimB; simp; omega
  simp [closeE, closeB, d, hl, h1]

theorem two_res (w : World) : Two (w.alloc (.cells #[.int .i64 0, .slice none 0 0] 24)) w.heap.size (.int .i64 0) (.slice none 0 0) := Two.made _ _ _ _
end Go.Proofs.YtbnebinpemejlaaGreat

namespace Go.Proofs.YtbnebinpemejlaaGreat
open Go.RowKit

theorem rd_close (N : Int) (l : List Int) : closeE N l = if rdB N l then cloE N.toNat l else 2 := rfl

set_option maxRecDepth 100000 in
set_option maxHeartbeats 4000000 in
theorem zclose_gen (N : Int) (l : List Int) (ao : Option Addr) (cap : Nat) (w : World) (hA : Arg w ao l) :
    Calls Tryz.prog 80 #[.int .i64 N, .slice ao l.length cap] w (ZRes w N (Zo.clo N.toNat l) (closeE N l)) := by
  have hz := mx_zero
  have sz := rdW_size N l
  have s1 := rdW_one N l
  have CR := Lib.hid (show ∀ W, Below w.heap.size w W → _ from fun W h => read_gen N l ao cap W (hA.on h))
  have HM := Lib.hid (show rdB N l = true → ∃ n : Nat, N = n ∧ ∀ (b : Nat) (W : World), Var W b (rdW N l) → Calls Tryz.prog 83 #[.pointer (some ⟨b, 0, none⟩)] W (GRes b W N (Zo.clo N.toNat l) (closeE N l)) from fun hr => by
    obtain ⟨n, rfl, hn, hl, hv⟩ := rdB_ok hr
    refine ⟨n, rfl, fun b W hV => ?_⟩
    have := mzone_any b n l W hn ⟨by have := hV.1; unfold rdW at this; rw [hr] at this; exact this, hl⟩ (a64_of hv)
    rw [rd_close, hr]
    exact this)
  have HE := Lib.hid (show rdB N l = false → closeE N l = 2 from fun h => by rw [rd_close, h]; rfl)
  generalize rdW N l = A at *
  generalize Zo.clo N.toNat l = r at *
  generalize closeE N l = er at *
  generalize rdB N l = ok at *
  generalize l.length = len at *
  obtain ⟨w0, hw0⟩ : ∃ w0, w0 = w.alloc (.cells #[.int .i64 0, .slice none 0 0] 24) := ⟨_, rfl⟩
  have rs : Two w0 w.heap.size (.int .i64 0) (.slice none 0 0) := by rw [hw0]; exact Two.made _ _ _ _
  have E0 := Lib.hid (show Below w.heap.size w w0 by rw [hw0]; exact one_more _)
  clear hA
  go_enter Tryz.func80, Tryz.ntmps80
  go_wp2_with fail
  rw [← hw0]
  clear hw0
  refine (CR.out _ E0.out).mono ?_
  rintro e w1 ⟨rfl, hb⟩
  have rs1 := rs.kept hb
  have HB := Lib.hid (below_on E0.out hb)
  have hlt := rs1.lt
  have hsz := HB.out.size
  obtain ⟨w2, hw2⟩ : ∃ w2, w2 = (w1.alloc (.cells (mcs 0 []) 54)).setRow w1.heap.size A := ⟨_, rfl⟩
  have rs3 : Two w2 w.heap.size (.int .i64 0) (.slice none 0 0) := by rw [hw2]; exact (rs1.alloc _).kept_row (by omega) _
  have V2 : Var w2 w1.heap.size A := by rw [hw2]; exact (Var.made w1).put A sz
  have h2s : w2.heap.size = w1.heap.size + 1 := by rw [hw2]; simp
  have HRS := Lib.hid rs3
  have HV := Lib.hid V2
  have HBE := Lib.hid (show Below w.heap.size w w2 by rw [hw2]; exact Below.setRow (HB.out.alloc hsz _) hsz _)
  clear rs rs1 rs3 V2 hb
  cases ok
  · obtain rfl := HE.out rfl
    obtain ⟨q0, q1, q2, q3⟩ := HRS.out.facts
    rw [hw2] at q0 q1 q2 q3
    rw [hw2] at HBE
    go_wp2_with (refine wpl_store rfl _ _ rfl _ _ rfl rfl _ (Var.made _) sz s1 ?_)
    refine bodyPost_ret (v := .tuple #[.agg #[.int .i64 0, .slice none 0 0], .int .i64 2]) (by simp [results, Tryz.results80, go_sem, q0, q1]) rfl ⟨(HBE.out.setCell (by show w.heap.size ≤ w.heap.size; omega) _).setCell (by show w.heap.size ≤ w.heap.size; omega) _, Or.inr ⟨by decide, rfl⟩⟩
  · obtain ⟨n, rfl, hmz⟩ := HM.out rfl
    have HMZ := Lib.hid hmz
    clear hmz
    go_wp2_with (refine wpl_store rfl _ _ rfl _ _ rfl rfl _ (Var.made _) sz s1 ?_)
    rw [← hw2]
    clear hw2
    refine (HMZ.out _ _ HV.out).mono ?_
    intro e w4 hG
    obtain ⟨hg4, hres⟩ := hG
    have E4 := Lib.hid (grown_over HBE.out hg4 hsz)
    obtain ⟨q0, q1, q2, q3⟩ := (HRS.out.grown hg4 (by omega)).facts
    rcases hres with ⟨he, g, c, rfl, hgl, hO⟩ | ⟨he, rfl⟩
    · have HO := Lib.hid hO
      subst he
      clear hO hg4
      go_wp2_with fail
      refine bodyPost_ret (v := .tuple #[.agg #[.int .i64 n, .slice (some ⟨g, 0, none⟩) r.length c], .int .i64 0]) (by simp [results, Tryz.results80, go_sem, q0, q1]) rfl ⟨?_, Or.inl ⟨rfl, g, c, rfl, by omega, put_far HO.out (by omega) _ _⟩⟩
      exact (E4.out.setCell (by show w.heap.size ≤ w.heap.size; omega) _).setCell (by show w.heap.size ≤ w.heap.size; omega) _
    · have HEE := Lib.hid he
      clear hg4 he
      go_wp2_with fail
      refine bodyPost_ret (v := .tuple #[.agg #[.int .i64 0, .slice none 0 0], .int .i64 er]) (by simp [results, Tryz.results80, go_sem, q0, q1]) rfl ⟨?_, Or.inr ⟨HEE.out, rfl⟩⟩
      exact (E4.out.setCell (by show w.heap.size ≤ w.heap.size; omega) _).setCell (by show w.heap.size ≤ w.heap.size; omega) _
end Go.Proofs.YtbnebinpemejlaaGreat

namespace Go.Proofs.YtbnebinpemejlaaGreat
open Go.RowKit

/-- 'make([]api.Limit, k)'. -/
theorem make_limits (w : World) (len : Nat) (hl : len ≤ 1000) (x : Int) (hx : x = len) : ∃ cur : Array Value, cur = (List.replicate len (Value.int .i64 0)).toArray ∧
    (Instr.makeSlice 22 (.int .i64 x) (.int .i64 x)).run Tryz.prog w = .ok (.slice (some ⟨w.heap.size, 0, none⟩) len len) (w.alloc (.cells cur 46)) := by
  subst hx
  obtain ⟨i0, hi, hz0, hz1, hz2⟩ := info_parts Tryz.info46
  have hr := run_make (P := Tryz.prog) w 22 46 i0 _ Tryz.underlying22 hi hz0 .i64 .i64 (len : Int) (len : Int) (by omega) (by omega) (by rw [hz2]; omega) (by omega)
  refine ⟨_, ?_, hr⟩
  rw [hz1]
  apply Array.toList_inj.1
  simp only [Int.toNat_natCast, Nat.mul_one]
  rw [show (Value.int IntKind.i64 0).cells = #[Value.int .i64 0] from rfl, toList_madeCells_one]

theorem own_new (w : World) (l : List Int) (hl : l.length ≤ 1000) : Own (w.alloc (.cells (l.map (Value.int .i64)).toArray 46)) w.heap.size l.length l := by
  have := World.ownsRow_lit (base := 0) (e := 46) (size := 1) w (l.map (Value.int .i64)).toArray l.length (Nat.zero_le _) (by unfold maxLen; omega) (by simp)
  simpa [Own] using this

def flE (N : Int) (v : Int) : Int := if dimB N then cloE N.toNat (List.replicate ((N.toNat + 1) * (N.toNat + 1)) v) else 2
end Go.Proofs.YtbnebinpemejlaaGreat

namespace Go.Proofs.YtbnebinpemejlaaGreat
open Go.RowKit

set_option maxHeartbeats 1000000 in
theorem mul64_one (c : Nat) (hc : c ≤ 121) (w : World) : Calls Tryz.prog 106 #[.int .u64 1, .int .u64 c] w (Still (.tuple #[.int .u64 0, .int .u64 c]) w) := by
  have m1 : bits .and .u64 1 4294967295 = 1 := by decide
  have m0 : bits .and .u64 0 4294967295 = 0 := by decide
  have m2 : bits .and .u64 (c : Int) 4294967295 = c := by rw [Mul64.maskN c (by omega), show c % 4294967296 = c by omega]
  have d2 : (c : Int) / 4294967296 = 0 := by omega
  have w2 : IntKind.u64.wrap (c : Int) = c := Mul64.wrapN c (by omega)
  have w0 : IntKind.u64.wrap 0 = 0 := by decide
  have z0 : (0 : Int) / 4294967296 = 0 := by decide
  go_enter Tryz.func106, Tryz.ntmps106
  go_wp2_with fail
  go_ret2
  exact ⟨rfl, rfl⟩

set_option maxHeartbeats 1000000 in
theorem mul_one_any (c : Nat) (hc : c ≤ 121) (w : World) : Calls Tryz.prog 99 #[.int .u64 1, .int .u64 c] w (Still (.tuple #[.int .u64 0, .int .u64 c]) w) := by
  have M := Lib.hid (fun W => mul64_one c hc W)
  go_enter Tryz.func99, Tryz.ntmps99
  go_wp2_with fail
  refine (M.out _).mono ?_
  rintro e w1 ⟨rfl, hw⟩
  rw [hw]; clear hw w1
  go_wp2_with fail
  go_ret2
  exact ⟨rfl, rfl⟩

/-- A row that is filled up to k. -/
def Fl (w : World) (g c k : Nat) (v : Int) : Prop := w.heap[g]? = some (.cells ((List.replicate k v ++ List.replicate (c - k) 0).map (Value.int .i64)).toArray 46 (0, 0))

theorem fill_vals {b : Nat} {t : TypeId} (v : Value) : ∀ (m k : Nat) (A : List Value) (w : World), w.heap[b]? = some (.cells A.toArray t (0, 0)) → k + m ≤ A.length →
    (w.setCells b k (List.replicate m v)).heap[b]? = some (.cells (A.take k ++ List.replicate m v ++ A.drop (k + m)).toArray t (0, 0)) := by
  intro m
  induction m with
  | zero => intro k A w h hk; simpa [World.setCells] using h
  | succ m ih =>
    intro k A w h hk
    have h1 : (w.setCell ⟨b, k, none⟩ v).heap[b]? = some (.cells (A.set k v).toArray t (0, 0)) := by
      rw [heap_setCell_same w b _ _ _ _ h]; simp
    have := ih (k + 1) (A.set k v) _ h1 (by simp; omega)
    rw [List.replicate_succ]
    show ((w.setCell ⟨b, k, none⟩ v).setCells b (k + 1) (List.replicate m v)).heap[b]? = _
    rw [this]
    congr 3
    have hk' : k < A.length := by omega
    have e1 : (A.set k v).take (k + 1) = A.take k ++ [v] := by
      rw [List.take_add_one, List.take_set, List.set_eq_of_length_le (by simp; omega), List.getElem?_set_self hk']
      rfl
    rw [e1, List.drop_set_of_lt (by omega), show k + 1 + m = k + (m + 1) by omega]
    simp

theorem Fl.step {w : World} {g c k m : Nat} {v : Int} (h : Fl w g c k v) (hk : k + m ≤ c) : Fl (w.setCells g k (List.replicate m (Value.int .i64 v))) g c (k + m) v := by
  unfold Fl at *
  rw [fill_vals (Value.int .i64 v) m k _ w h (by simp; omega)]
  congr 3
  simp only [List.map_append, List.map_replicate]
  rw [List.take_append_of_le_length (by simp), List.take_of_length_le (by simp), List.drop_append, List.drop_of_length_le (by simp)]
  simp
  omega

theorem Fl.at {w : World} {g c k : Nat} {v : Int} (h : Fl w g c k v) {j : Nat} (hj : j < k) : w.cell? ⟨g, j, none⟩ = some (.int .i64 v) := by
  rw [cell_of_row w g j _ _ _ h]; simp [List.getElem?_append, hj]

theorem Fl.some {w : World} {g c k : Nat} {v : Int} (h : Fl w g c k v) (hk : k ≤ c) {j : Nat} (hj : j < c) : (w.cell? ⟨g, j, none⟩).isSome = true := by
  rw [cell_of_row w g j _ _ _ h]
  have : j < (((List.replicate k v ++ List.replicate (c - k) 0).map (Value.int .i64)).toArray).size := by simp; omega
  rw [Array.getElem?_eq_getElem this]; rfl

theorem Fl.free {w : World} {g c k : Nat} {v : Int} (h : Fl w g c k v) (j : Nat) : w.frozen? ⟨g, j, none⟩ = false := frozen_of_row w g j _ _ h

theorem Fl.own {w : World} {g c : Nat} {v : Int} (h : Fl w g c c v) (hc : 0 < c) (hm : c ≤ 1000) : Own w g c (List.replicate c v) := by
  unfold Own
  unfold Fl at h
  refine ⟨by simp, Or.inr ⟨g, c, _, by simp, Nat.zero_le _, h, by simp, by unfold maxLen; omega, by simp, by simp⟩⟩

theorem run_cut_lo (w : World) (a : Addr) (c k : Nat) (hk : k < c) : (Instr.sliceAt 22 (.slice (some a) c c) (some (.int .i64 k)) none none).run Tryz.prog w = .ok (.slice (some (a.add k)) (c - k) (c - k)) w := by
  have he : Tryz.prog.elem 22 = 46 := by simp [Program.elem]
  rw [run_sliceAt_slice w _ _ _ _ _ (by rw [he]; exact Tryz.underlying22), run_slice_l w _ _ _ _ (by rw [he]; exact Tryz.underlying22) .i64 k (by omega) (by omega), he, limit_size]
  simp only [Result.andThen_ok, sliced, Int.toNat_natCast]
  rw [if_neg (by omega)]
  simp

theorem run_cut_hi (w : World) (a : Addr) (c k : Nat) (hk : k < c) : (Instr.sliceAt 22 (.slice (some a) c c) none (some (.int .i64 k)) none).run Tryz.prog w = .ok (.slice (some a) k c) w := by
  have he : Tryz.prog.elem 22 = 46 := by simp [Program.elem]
  rw [run_sliceAt_slice w _ _ _ _ _ (by rw [he]; exact Tryz.underlying22), run_slice_h w _ _ _ _ (by rw [he]; exact Tryz.underlying22) .i64 k (by omega) (by omega), he, limit_size]
  simp only [Result.andThen_ok, sliced, Int.toNat_natCast]
  rw [if_neg (by omega)]
  simp [Addr.add]

set_option maxRecDepth 100000 in
set_option maxHeartbeats 4000000 in
theorem repeat_any (v : Int) (c xb : Nat) (w : World) (hc0 : 0 < c) (hc : c ≤ 121) (hx : w.cell? ⟨xb, 0, none⟩ = some (.int .i64 v)) :
    Calls Tryz.prog 81 #[.slice (some ⟨xb, 0, none⟩) 1 1, .int .i64 c] w
      (fun e w' => e = .returned (.slice (some ⟨w.heap.size, 0, none⟩) c c) ∧ Own w' w.heap.size c (List.replicate c v) ∧ Below w.heap.size w w') := by
  have MU := Lib.hid (fun W => mul_one_any c hc W)
  obtain ⟨cur, hcur, hmk⟩ := make_limits w c (by omega) c rfl
  have F0 : Fl (w.alloc (.cells cur 46)) w.heap.size c 0 v := by
    unfold Fl; rw [heap_alloc_last]; rw [hcur]; simp
  obtain ⟨w1, hw1⟩ : ∃ w1, w1 = w.alloc (.cells cur 46) := ⟨_, rfl⟩
  rw [← hw1] at hmk F0
  have E1 : Below w.heap.size w w1 := by rw [hw1]; exact one_more _
  have hx1 : w1.cell? ⟨xb, 0, none⟩ = some (.int .i64 v) := by rw [hw1]; exact kept (one_more _) hx
  have hcp1 := fun ty => run_copy_cells (P := Tryz.prog) w1 22 22 ty 46 w.heap.size 0 c c ⟨xb, 0, none⟩ 1 1 (List.replicate 1 (Value.int .i64 v)) Tryz.underlying22
    (by rfl) (by rw [List.length_replicate]; exact (Nat.min_eq_left hc0).symm)
    (fun j u hj => by
      have : j = 0 := by
        have := List.getElem?_eq_some_iff.1 hj
        obtain ⟨h, _⟩ := this
        simp at h; exact h
      subst this
      simp at hj
      subst hj
      exact hx1)
    (fun j hj => F0.some (by omega) (by simp at hj; omega)) (fun j hj => F0.free _) (by simp [Value.oneCell'])
  have F1 := F0.step (m := 1) (by omega)
  have HF1 := Lib.hid F1
  have HE1 := Lib.hid (Below.setCells (B := w.heap.size) (b := w.heap.size) (Nat.le_refl _) (List.replicate 1 (Value.int .i64 v)) 0 w1 E1)
  have HW1 := Lib.hid hw1
  simp only [List.length_replicate] at hcp1
  clear hx hx1 F0 F1 E1 hcur hw1
  go_enter Tryz.func81, Tryz.ntmps81
  go_wp2_with fail
  refine (MU.out _).mono ?_
  rintro e w2 ⟨rfl, hw⟩
  rw [hw]; clear hw w2
  go_wp2_with fail
  clear hcp1 hmk
  go_loopw [8] (fun s wr => ∃ k : Nat, 0 < k ∧ k ≤ c ∧ s = .int .i64 k ∧ Hid (Fl wr w.heap.size c k v) ∧ Hid (Below w.heap.size w wr)) (fun s _ => c - (intOf s).toNat)
  case atStart => exact ⟨1, by omega, by omega, rfl, HF1, HE1⟩
  case round =>
    clear HF1 HE1
    obtain ⟨k, hk0, hkc, rfl, HF, HB⟩ := hrel
    by_cases hlt : k < c
    · obtain ⟨m, hm⟩ : ∃ m, m = Nat.min k (c - k) := ⟨_, rfl⟩
      have hm0 : 0 < m := by rw [hm]; exact Nat.lt_min.2 ⟨hk0, by omega⟩
      have hm1 : k + m ≤ c := by have : m ≤ c - k := by rw [hm]; exact Nat.min_le_right _ _
                                 omega
      have FD : Fl wr.drew w.heap.size c k v := HF.out
      have s1 := fun W => run_cut_lo W ⟨w.heap.size, 0, none⟩ c k hlt
      have s2 := fun W => run_cut_hi W ⟨w.heap.size, 0, none⟩ c k hlt
      rw [show (⟨w.heap.size, 0, none⟩ : Addr).add k = ⟨w.heap.size, k, none⟩ from addr_add _ _] at s1
      have hcp := fun ty => run_copy_cells (P := Tryz.prog) wr.drew 22 22 ty 46 w.heap.size k (c - k) (c - k) ⟨w.heap.size, 0, none⟩ k c (List.replicate m (Value.int .i64 v)) Tryz.underlying22
        (by rfl) (by rw [List.length_replicate]; exact hm)
        (fun j u hj => by
          have h2 := List.getElem?_eq_some_iff.1 hj
          obtain ⟨h, h3⟩ := h2
          simp at h h3
          subst h3
          rw [addr_add]
          exact FD.at (by have : m ≤ k := by rw [hm]; exact Nat.min_le_left _ _
                          omega))
        (fun j hj => FD.some hkc (by simp at hj; omega)) (fun j hj => FD.free _) (by simp [Value.oneCell'])
      simp only [List.length_replicate] at hcp
      have F2 := Lib.hid (FD.step hm1)
      have B2 := Lib.hid (Below.setCells (B := w.heap.size) (b := w.heap.size) (Nat.le_refl _) (List.replicate m (Value.int .i64 v)) k wr.drew HB.out.drew)
      clear hm FD
      go_wp2_with fail
      go_region
      clear hcp s1 s2
      go_wp2_with fail
      go_roundw
      case rel => exact ⟨k + m, by omega, hm1, by go_num, F2, B2⟩
      case measure => simp [intOf]; omega
    · have HO := Lib.hid (show Fl wr w.heap.size c c v by have := HF.out; rwa [show k = c by omega] at this)
      go_wp2_with fail
      go_ret
      exact ⟨rfl, HO.out.own hc0 (by omega), HB.out⟩
end Go.Proofs.YtbnebinpemejlaaGreat

namespace Go.Proofs.YtbnebinpemejlaaGreat
open Go.RowKit

theorem flE_close {n : Nat} {v : Int} (hn : n ≤ 10) (hv : lvB v = true) : closeE n (List.replicate ((n + 1) * (n + 1)) v) = flE n v := by
  have d : dimB (n : Int) = true := by unfold dimB; simp; omega
  rw [rd_close]
  unfold flE rdB
  rw [d]
  have : (List.replicate ((n + 1) * (n + 1)) v).all lvB = true := by
    rw [List.all_eq_true]; intro x hx; rw [(List.mem_replicate.1 hx).2]; exact hv
  simp only [Int.toNat_natCast, List.length_replicate, decide_true, Bool.true_and, this]

set_option maxRecDepth 100000 in
set_option maxHeartbeats 4000000 in
theorem zunif_bad (N v : Int) (w : World) (hd : dimB N = false) : Calls Tryz.prog 45 #[.int .i64 N, .int .i64 v] w (ZRes w 0 [] 2) := by
  have PD := fun W => isDimension_any N W
  rw [hd] at PD
  have HD := Lib.hid PD
  obtain ⟨b0, b1, b2, b3⟩ := (two_res w).facts
  have E0 := Lib.hid (one_more (w1 := w) (.cells #[.int .i64 0, .slice none 0 0] 24))
  have rs := two_res w
  clear hd PD
  go_enter Tryz.func45, Tryz.ntmps45
  go_wp2_with fail
  refine (HD.out _).mono ?_
  rintro e w1 ⟨rfl, hw⟩
  rw [hw]; clear hw w1
  go_wp2_with fail
  refine bodyPost_ret (v := .tuple #[.agg #[.int .i64 0, .slice none 0 0], .int .i64 2]) (by simp [results, Tryz.results45, go_sem, b0, b1]) rfl (zres_bad ?_)
  exact E0.out

set_option maxRecDepth 100000 in
set_option maxHeartbeats 4000000 in
theorem zunif_ok (n : Nat) (v : Int) (w : World) (hn : n ≤ 10) (hv : lvB v = true) : Calls Tryz.prog 45 #[.int .i64 n, .int .i64 v] w (ZRes w n (Zo.clo n (List.replicate ((n + 1) * (n + 1)) v)) (flE n v)) := by
  have PD := fun W => isDimension_any n W
  rw [show dimB (n : Int) = true by unfold dimB; simp; omega] at PD
  have HD := Lib.hid PD
  have HP := Lib.hid (fun W => places_any n W hn)
  have hle := dsq_le hn
  have hpos := dsq_pos n
  have CC := Lib.hid (show ∀ (W : World) (g c : Nat), Own W g c (List.replicate ((n + 1) * (n + 1)) v) → _ from fun W g c hO => zclose_gen n (List.replicate ((n + 1) * (n + 1)) v) (some ⟨g, 0, none⟩) c W hO.arg)
  rw [flE_close hn hv] at CC
  simp only [List.length_replicate, Int.toNat_natCast] at CC
  generalize Zo.clo n (List.replicate ((n + 1) * (n + 1)) v) = r at *
  generalize flE n v = er at *
  generalize (n + 1) * (n + 1) = sz at *
  have RP := Lib.hid (fun (xb : Nat) (W : World) (h : W.cell? ⟨xb, 0, none⟩ = some (.int .i64 v)) => repeat_any v sz xb W hpos hle h)
  obtain ⟨w0, hw0⟩ : ∃ w0, w0 = w.alloc (.cells #[.int .i64 0, .slice none 0 0] 24) := ⟨_, rfl⟩
  have rs : Two w0 w.heap.size (.int .i64 0) (.slice none 0 0) := by rw [hw0]; exact Two.made _ _ _ _
  have E0 := Lib.hid (show Below w.heap.size w w0 by rw [hw0]; exact one_more _)
  have z0 : w0.heap.size = w.heap.size + 1 := by rw [hw0]; simp
  clear hv PD
  go_enter Tryz.func45, Tryz.ntmps45
  go_wp2_with fail
  rw [← hw0]
  clear hw0
  refine (HD.out _).mono ?_
  rintro e w1 ⟨rfl, hw⟩
  rw [hw]; clear hw w1
  go_wp2_with fail
  refine (HP.out _).mono ?_
  rintro e w1 ⟨rfl, hw⟩
  rw [hw]; clear hw w1
  have hcx : (w0.alloc (.cells #[.int .i64 v] 46)).cell? ⟨w.heap.size + 1, 0, none⟩ = some (.int .i64 v) := by rw [← z0]; go_simp
  go_wp2_with fail
  refine (RP.out _ _ hcx).mono ?_
  rintro e w2 ⟨rfl, hO, hb⟩
  rw [show (w0.alloc (.cells #[.int .i64 v] 46)).heap.size = w.heap.size + 1 + 1 by simp [z0]] at hO
  have HO := Lib.hid hO
  have B2 := Lib.hid (show Below w0.heap.size w0 w2 from past_one hb)
  clear hcx hO hb
  go_wp2_with fail
  refine (CC.out _ _ _ HO.out).mono ?_
  intro e w4 hG
  obtain ⟨hb4, hres⟩ := hG
  have HB4 := Lib.hid (below_on B2.out hb4)
  obtain ⟨q0, q1, q2, q3⟩ := (rs.kept HB4.out).facts
  have h2s := B2.out.size
  rcases hres with ⟨he, g, c, rfl, hgl, hO⟩ | ⟨he, rfl⟩
  · have HOO := Lib.hid hO
    subst he
    clear hO hb4
    go_wp2_with fail
    refine bodyPost_ret (v := .tuple #[.agg #[.int .i64 n, .slice (some ⟨g, 0, none⟩) r.length c], .int .i64 0]) (by simp [results, Tryz.results45, go_sem, q0, q1]) rfl (zres_over E0.out HB4.out HOO.out (by omega) (by omega) (by omega) _ _)
  · have HEE := Lib.hid he
    clear he hb4
    go_wp2_with fail
    refine bodyPost_ret (v := .tuple #[.agg #[.int .i64 0, .slice none 0 0], .int .i64 er]) (by simp [results, Tryz.results45, go_sem, q0, q1]) rfl (zres_over0 E0.out HB4.out HEE.out (by omega) _ _)

theorem zunif_gen (N v : Int) (w : World) (hv : lvB v = true) : Calls Tryz.prog 45 #[.int .i64 N, .int .i64 v] w (ZRes w N (Zo.clo N.toNat (List.replicate ((N.toNat + 1) * (N.toNat + 1)) v)) (flE N v)) := by
  cases hd : dimB N
  · exact (zunif_bad N v w hd).mono fun e w' h => h.bad (by simp [flE, hd])
  · obtain ⟨n, rfl, hn⟩ := dim_nat hd
    exact zunif_ok n v w hn hv

set_option maxRecDepth 100000 in
set_option maxHeartbeats 1000000 in
theorem zzero_gen (N : Int) (w : World) : Calls Tryz.prog 14 #[.int .i64 N] w (ZRes w N (Zo.clo N.toNat (List.replicate ((N.toNat + 1) * (N.toNat + 1)) 1)) (flE N 1)) := by
  have P := Lib.hid (fun W => zunif_gen N 1 W (by decide))
  generalize Zo.clo N.toNat (List.replicate ((N.toNat + 1) * (N.toNat + 1)) 1) = r at *
  generalize flE N 1 = er at *
  obtain ⟨w0, hw0⟩ : ∃ w0, w0 = w.alloc (.cells #[.int .i64 0, .slice none 0 0] 24) := ⟨_, rfl⟩
  have rs : Two w0 w.heap.size (.int .i64 0) (.slice none 0 0) := by rw [hw0]; exact Two.made _ _ _ _
  have E0 := Lib.hid (show Below w.heap.size w w0 by rw [hw0]; exact one_more _)
  have z0 : w0.heap.size = w.heap.size + 1 := by rw [hw0]; simp
  go_enter Tryz.func14, Tryz.ntmps14
  go_wp2_with fail
  rw [← hw0]
  clear hw0
  refine (P.out _).mono ?_
  intro e w4 hG
  obtain ⟨hb4, hres⟩ := hG
  have HB4 := Lib.hid hb4
  obtain ⟨q0, q1, q2, q3⟩ := (rs.kept hb4).facts
  rcases hres with ⟨he, g, c, rfl, hgl, hO⟩ | ⟨he, rfl⟩
  · have HOO := Lib.hid hO
    subst he
    clear hO hb4
    go_wp2_with fail
    refine bodyPost_ret (v := .tuple #[.agg #[.int .i64 N, .slice (some ⟨g, 0, none⟩) r.length c], .int .i64 0]) (by simp [results, Tryz.results14, go_sem, q0, q1]) rfl (zres_over E0.out HB4.out HOO.out hgl (by omega) (by omega) _ _)
  · have HEE := Lib.hid he
    clear he hb4
    go_wp2_with fail
    refine bodyPost_ret (v := .tuple #[.agg #[.int .i64 0, .slice none 0 0], .int .i64 er]) (by simp [results, Tryz.results14, go_sem, q0, q1]) rfl (zres_over0 E0.out HB4.out HEE.out (by omega) _ _)
end Go.Proofs.YtbnebinpemejlaaGreat

namespace Go.Proofs.YtbnebinpemejlaaGreat
open Go.RowKit

def y2L : List Int := [1, 1, 1, 1, 1, 1, 1, 1, 1]

def y2U : List Int := [1, 1, 1, 1099511627776, 1, 1, 1099511627776, 1, 1]

def y2A : List Int := [1, -3, -3, 1099511627776, 1, 1, 1099511627776, 1, 1]

def y2R : List Int := [1, -3, 1, 1099511627776, 1, 1099511627776, 1, -3, 1]

theorem y2_zero : Zo.clo 2 (List.replicate 9 1) = y2L ∧ flE 2 1 = 0 := by decide +kernel

theorem y2_up : Zo.clo 2 (upL 2 y2L) = y2U ∧ upE 2 y2L = 0 := by decide +kernel

theorem y2_and : Zo.clo 2 (anL 2 [(0, 1, -3)] y2U) = y2A ∧ anG 2 [(0, 1, -3)] y2U = 0 := by decide +kernel

theorem y2_reset : reL 2 2 0 y2A = y2R ∧ reG 2 y2A 2 0 = 0 := by decide +kernel

theorem y2_point : pnL 2 y2R = [(2, 1), (0, 1)] ∧ pnE 2 y2R = 0 := by decide +kernel

theorem y2_none : anG 2 [(2, 0, 4)] y2A = 4 := by decide +kernel

theorem y2_stay : chkE 1 [1, -5, 11, 1] = 0 := by decide +kernel
end Go.Proofs.YtbnebinpemejlaaGreat

namespace Go.Proofs.YtbnebinpemejlaaGreat
open Go.RowKit

def Dl.ls (x : Dl) : List Lit := [.int .i64 x.ln, .int .i64 x.ld, .int .i64 x.hn, .int .i64 x.hd, .bool x.lo, .bool x.ho, .bool x.nh]

def Dl.eqB (x y : Dl) : Bool := x.ln == y.ln && x.ld == y.ld && x.hn == y.hn && x.hd == y.hd && x.lo == y.lo && x.ho == y.ho && x.nh == y.nh

theorem Dl.eqB_iff {x y : Dl} : x.eqB y = true ↔ x = y := by
  obtain ⟨a, b, c, d, e, f, g⟩ := x
  obtain ⟨a', b', c', d', e', f', g'⟩ := y
  simp only [Dl.eqB, Bool.and_eq_true, beq_iff_eq, Dl.mk.injEq, and_assoc]

theorem Dl.ls_inj {x y : Dl} : x.ls = y.ls ↔ x = y := by
  obtain ⟨a, b, c, d, e, f, g⟩ := x
  obtain ⟨a', b', c', d', e', f', g'⟩ := y
  simp [Dl.ls]

theorem Tryz.cellsR : Tryz.prog.cellsOf 32 = 2 := by kernel_rfl

theorem Tryz.cellsD : Tryz.prog.cellsOf 34 = 7 := by kernel_rfl

theorem Tryz.cellsB : Tryz.prog.cellsOf 4 = 1 := by kernel_rfl

theorem Tryz.cellsI : Tryz.prog.cellsOf 2 = 1 := by kernel_rfl

theorem wf_of {n : Int} (h : I64 n) : (Lit.int .i64 n).wf = true := by
  unfold I64 at h
  simp [Lit.wf, IntKind.min, IntKind.max, IntKind.signed, IntKind.bits]
  omega

theorem lits_rat {d : Nat} {a b : Int} (ha : I64 a) (hb : I64 b) : Tryz.prog.keyLits (d + 2) 32 [.int .i64 a, .int .i64 b] = some [.int .i64 a, .int .i64 b] := by
  have w1 := wf_of ha
  have w2 := wf_of hb
  simp [Program.keyLits, Tryz.underlying32, Tryz.underlying2, Tryz.cellsR, Tryz.cellsI, w1, w2]

theorem lits_bool {d : Nat} {b : Bool} : Tryz.prog.keyLits (d + 1) 4 [.bool b] = some [.bool b] := by
  simp [Program.keyLits, Tryz.underlying4]

theorem Dl.ls_lits {x : Dl} (hx : x.Ok) : Tryz.prog.keyLits 3 34 x.cs.toList = some x.ls := by
  obtain ⟨a, b, c, d, e, f, g⟩ := x
  obtain ⟨h1, h2, h3, h4⟩ := hx
  have l1 := lits_rat (d := 0) h1 h2
  have l2 := lits_rat (d := 0) h3 h4
  have b1 := lits_bool (d := 1) (b := e)
  have b2 := lits_bool (d := 1) (b := f)
  have b3 := lits_bool (d := 1) (b := g)
  simp only at l1 l2
  simp only [Dl.cs, Dl.ls]
  have ud := Tryz.underlying34
  show Tryz.prog.keyLits (2 + 1) _ _ = _
  unfold Program.keyLits
  simp only [ud]
  simp [Tryz.cellsD, Tryz.cellsR, Tryz.cellsB, l1, l2, b1, b2, b3]

theorem dl_form (x : Dl) : (Value.agg x.cs).formed Tryz.prog 34 = true := by
  obtain ⟨a, b, c, d, e, f, g⟩ := x
  kernel_rfl

/-- Two intervals, compared as values. -/
theorem run_dl_eq (x y : Dl) (w : World) (hx : x.Ok) (hy : y.Ok) : (binOp .eql 34 (.agg x.cs) (.agg y.cs)).run Tryz.prog w = .ok (.bool (x.eqB y)) w := by
  obtain ⟨r, h, hr⟩ := run_equalIn_deep 9997 3 34 (by kernel_rfl) w 3 3 (.agg x.cs) (.agg y.cs) x.ls y.ls (dl_form x) (dl_form y) (Dl.ls_lits hx) (Dl.ls_lits hy)
  rw [run_eql_struct]
  simp only [Nat.reduceAdd] at h
  rw [h]
  have : r = x.eqB y := by
    rw [Bool.eq_iff_iff, Dl.eqB_iff, hr, Dl.ls_inj]
  rw [this]
  rfl

theorem dl_guard (a b : Operand) (xs ys : Array Value) (w : World) : (eqGuard .eql 34 a b (.agg xs) (.agg ys)).run Tryz.prog w = .ok () w := run_eqGuard_agg (P := Tryz.prog) w .eql _ a b xs ys (by kernel_rfl)

theorem yld_dl {o : Oper} {a : Act} {w : World} (p q : Operand) (t : TypeId) (ho : o.op = .binOp .eql 34 p q t) (x y : Dl) (hx : a.eval p = .agg x.cs) (hy : a.eval q = .agg y.cs) (kx : x.Ok) (ky : y.Ok) :
    (execOp a.eval o).run Tryz.prog w = .ok (.value (.bool (x.eqB y))) w := by
  unfold execOp
  simp only [ho, hx, hy, Sem.run_bind, dl_guard, run_dl_eq x y w kx ky, Result.andThen_ok, Sem.run_pure]
end Go.Proofs.YtbnebinpemejlaaGreat

namespace Go.Proofs.YtbnebinpemejlaaGreat
open Go.RowKit

def eqL (l m : List Int) : Bool := decide (l = m)

set_option maxRecDepth 100000 in
set_option maxHeartbeats 4000000 in
theorem equal_any (l m : List Int) (ao bo : Option Addr) (ca cb : Nat) (w : World) (hA : Arg w ao l) (hB : Arg w bo m) (ll : l.length ≤ 9223372036854775807) :
    Calls Tryz.prog 58 #[.slice ao l.length ca, .slice bo m.length cb] w (Made (.bool (eqL l m)) w) := by
  by_cases hlm : l.length = m.length
  · have hz : ∀ t : Nat, t < l.length → (∃ a, ao = some a ∧ Rd w a l) ∧ ∃ b, bo = some b ∧ Rd w b m := fun t ht => ⟨hA (by intro e; rw [e] at ht; simp at ht), hB (by intro e; have h0 : m.length = 0 := (by rw [e]; rfl); omega)⟩
    have HZ := Lib.hid hz
    have HL := Lib.hid hlm
    rw [← hlm]
    clear hA hB hz hlm
    obtain ⟨len, hlen⟩ : ∃ len, len = l.length := ⟨_, rfl⟩
    have HLN := Lib.hid hlen
    rw [← hlen] at ll ⊢
    clear hlen
    go_enter Tryz.func58, Tryz.ntmps58
    go_wp2_with fail
    go_loopw [13] (fun s wr => ∃ t : Nat, t ≤ len ∧ s = .int .i64 t ∧ Hid (∀ i, i < t → Zo.gt l i = Zo.gt m i) ∧ Hid (Below w.heap.size w wr)) (fun s _ => len - (intOf s).toNat)
    case atStart => exact ⟨0, by omega, rfl, Lib.hid (fun i hi => by omega), Lib.hid (Below.refl _ _)⟩
    case round =>
      obtain ⟨t, ht, rfl, HT, HB⟩ := hrel
      by_cases htn : t < len
      · obtain ⟨⟨a, rfl, hR1⟩, ⟨b, rfl, hR2⟩⟩ := HZ.out t (by rw [← HLN.out]; exact htn)
        obtain ⟨x, hx⟩ : ∃ x, x = Zo.gt l t := ⟨_, rfl⟩
        obtain ⟨y, hy⟩ : ∃ y, y = Zo.gt m t := ⟨_, rfl⟩
        have c1 : wr.drew.cell? (a.add t) = some (.int .i64 x) := by rw [hx]; exact (hR1.on HB.out.drew) t (by rw [← HLN.out]; exact htn)
        have c2 : wr.drew.cell? (b.add t) = some (.int .i64 y) := by rw [hy]; exact (hR2.on HB.out.drew) t (by rw [← HL.out, ← HLN.out]; exact htn)
        have HX := Lib.hid hx
        have HY := Lib.hid hy
        have HBD := Lib.hid HB.out.drew
        clear hx hy hR1 hR2
        go_wp2_with fail
        refine wp_region_still_lit (by kernel_rfl) (by kernel_rfl) ?_
        repeat still_step
        refine wpStill_nil ?_
        change Exit.then _ _ _ _ (World.drew _)
        by_cases hxy : x = y
        · have D : (x != y) = false := by simpa using hxy
          have HXY := Lib.hid hxy
          clear hxy c1 c2
          go_wp2_with fail
          go_roundw
          case rel =>
            refine ⟨t + 1, by omega, by go_num, Lib.hid (fun i hi => ?_), HBD⟩
            by_cases e : i = t
            · rw [e, ← HX.out, ← HY.out]; exact HXY.out
            · exact HT.out i (by omega)
          case measure => simp [intOf]; omega
        · have D : (x != y) = true := by simpa using hxy
          have HE := Lib.hid (show eqL l m = false by
            unfold eqL
            rw [decide_eq_false_iff_not]
            intro e
            apply hxy
            rw [HX.out, HY.out, e])
          clear hxy c1 c2
          go_wp2_with fail
          go_ret
          exact ⟨ret_bool HE.out.symm, HBD.out⟩
      · have HE := Lib.hid (show eqL l m = true by
          unfold eqL
          rw [decide_eq_true_eq]
          exact list_ext_gt HL.out.symm fun i hi => HT.out i (by have := HLN.out; omega))
        go_wp2_with fail
        go_ret
        exact ⟨ret_bool HE.out.symm, HB.out⟩
  · have HE := Lib.hid (show eqL l m = false by
      unfold eqL
      rw [decide_eq_false_iff_not]
      intro e
      exact hlm (by rw [e]))
    clear hA hB
    generalize l.length = len at *
    generalize m.length = mlen at *
    have D : ((len : Int) != (mlen : Int)) = true := by simp; omega
    clear hlm
    go_enter Tryz.func58, Tryz.ntmps58
    go_wp2_with fail
    go_ret
    exact ⟨ret_bool HE.out.symm, Below.refl _ _⟩

set_option maxRecDepth 100000 in
set_option maxHeartbeats 4000000 in
theorem zsame_any (N M : Int) (l m : List Int) (ao bo : Option Addr) (ca cb : Nat) (w : World) (hA : Arg w ao l) (hB : Arg w bo m) (ll : l.length ≤ 9223372036854775807) :
    Calls Tryz.prog 19 #[.agg #[.int .i64 N, .slice ao l.length ca], .agg #[.int .i64 M, .slice bo m.length cb]] w (Made (.bool (smB N M l m)) w) := by
  have HS := Lib.hid (show smB N M l m = (decide (N = M) && eqL l m) from rfl)
  have CE := Lib.hid (show ∀ W, Below w.heap.size w W → _ from fun W h => equal_any l m ao bo ca cb W (hA.on h) (hB.on h) ll)
  have E0 := Lib.hid (show Below w.heap.size w ((w.alloc (.cells #[.int .i64 N, .slice ao l.length ca] 24)).alloc (.cells #[.int .i64 M, .slice bo m.length cb] 24)) from past_two (Below.refl _ _))
  generalize eqL l m = k at *
  generalize smB N M l m = r at *
  generalize l.length = len at *
  generalize m.length = mlen at *
  clear hA hB ll
  by_cases hNM : N = M
  · have D : (N == M) = true := by simpa using hNM
    have HR := Lib.hid (show r = k by rw [HS.out, hNM]; simp)
    clear hNM
    go_enter Tryz.func19, Tryz.ntmps19
    go_wp2_with fail
    refine (CE.out _ E0.out).mono ?_
    rintro e w1 ⟨rfl, hb⟩
    have HB := Lib.hid (below_on E0.out hb)
    clear hb
    go_wp2_with fail
    go_ret
    exact ⟨ret_bool HR.out.symm, HB.out⟩
  · have D : (N == M) = false := by simpa using hNM
    have HR := Lib.hid (show r = false by rw [HS.out]; simp [hNM])
    clear hNM
    go_enter Tryz.func19, Tryz.ntmps19
    go_wp2_with fail
    go_ret
    exact ⟨ret_bool HR.out.symm, E0.out⟩
end Go.Proofs.YtbnebinpemejlaaGreat
