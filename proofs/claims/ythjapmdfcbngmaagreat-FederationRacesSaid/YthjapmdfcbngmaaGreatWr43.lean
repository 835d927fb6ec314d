/- A part. -/
import Derived.Test.YthjapmdfcbngmaaGreatWr20
import Derived.Test.YthjapmdfcbngmaaGreatWr41
import Derived.Test.YthjapmdfcbngmaaGreatWr8
import Derived.Test.YthjapmdfcbngmaaGreatWr13
namespace Go.Proofs.YthjapmdfcbngmaaGreat
structure Sc (D n d N : Int) : Prop where
 vld : vldB n d = true
 val : N * d = n * D
theorem scale_cmp {A B N M D q : Int} (hD : 0 < D) (hq : 0 < q) (e1 : A * D = N * q) (e2 : B * D = M * q) : (A < B ↔ N < M) ∧ (A = B ↔ N = M) := by
 refine ⟨⟨fun h => ?_, fun h => ?_⟩, ⟨fun h => ?_, fun h => ?_⟩⟩
 · have := Int.mul_lt_mul_of_pos_right h hD
   rw [e1, e2] at this
   exact Int.lt_of_mul_lt_mul_right this (by omega)
 · have := Int.mul_lt_mul_of_pos_right h hq
   rw [← e1, ← e2] at this
   exact Int.lt_of_mul_lt_mul_right this (by omega)
 · subst h
   rw [e1] at e2
   exact Int.eq_of_mul_eq_mul_right (by omega) e2
 · subst h
   rw [← e1] at e2
   exact Int.eq_of_mul_eq_mul_right (by omega) e2.symm
theorem sc_cmp {D n d N m c M : Int} (hD : 0 < D) (h : Sc D n d N) (k : Sc D m c M) : (n * c < m * d ↔ N < M) ∧ (n * c = m * d ↔ N = M) := by
 have p1 := vld_pos h.vld
 have p2 := vld_pos k.vld
 refine scale_cmp hD (q := d * c) (Int.mul_pos (by omega) (by omega)) ?_ ?_
 · rw [Int.mul_right_comm, ← h.val, Int.mul_assoc]
 · rw [Int.mul_right_comm, ← k.val, Int.mul_assoc, Int.mul_comm c d]
theorem lsB_sc {D n d N m c M : Int} (hD : 0 < D) (h : Sc D n d N) (k : Sc D m c M) (e : Bool) : lsB n d m c e = (decide (N < M) || (decide (N = M) && e)) := by
 obtain ⟨h1, h2⟩ := sc_cmp hD h k
 unfold lsB
 rw [h.vld, k.vld]
 simp only [Bool.and_self, if_true]
 rw [decide_eq_decide.2 h1, decide_eq_decide.2 h2]
theorem sh_sc {D n d N c : Int} (h : Sc D n d N) (e : shE n d c = 0) : Sc D (shN n d c) (shD n d c) (N + c * D) := by
 have p1 := vld_pos h.vld
 unfold shE opErr at e
 rw [h.vld] at e
 simp only [if_true] at e
 obtain ⟨_, v, val⟩ := mk_ok e
 have en : shN n d c = mkNum (n * 1 + c * d) (d * 1) := by unfold shN opNum; rw [h.vld]; rfl
 have ed : shD n d c = mkDen (n * 1 + c * d) (d * 1) := by unfold shD opDen; rw [h.vld]; rfl
 rw [en, ed]
 refine ⟨v, ?_⟩
 generalize mkNum (n * 1 + c * d) (d * 1) = P at *
 generalize mkDen (n * 1 + c * d) (d * 1) = Q at *
 rw [Int.mul_one, Int.mul_one] at val
 have hv := h.val
 have key : (N + c * D) * Q * d = P * D * d := by
  rw [Int.mul_right_comm P D d, val]
  rw [Int.mul_right_comm (N + c * D) Q d, Int.add_mul N, hv]
  rw [Int.add_mul (n * D), Int.add_mul n, Int.add_mul (n * Q)]
  congr 1
  · rw [Int.mul_right_comm]
  · rw [Int.mul_right_comm c D d, Int.mul_right_comm (c * d) D Q]
 exact Int.eq_of_mul_eq_mul_right (by omega) key
def HiInv (D : Int) (x : Dl) (H : Int) (t : Nat) (Nv U : Nat → Int) : Prop :=
 (x.nh = true → ∀ s, s < t → U s = 1099511627776) ∧
 (x.nh = false → Sc D x.hn x.hd H ∧ (∃ s, s < t ∧ U s ≠ 1099511627776 ∧ H = Nv s + U s / 2 * D ∧ x.ho = decide (U s % 2 = 0)) ∧
  ∀ s, s < t → U s ≠ 1099511627776 → (H < Nv s + U s / 2 * D ∨ (H = Nv s + U s / 2 * D ∧ (U s % 2 = 0 → x.ho = true))))
def LoInv (D : Int) (x : Dl) (L : Int) (t : Nat) (Nv W : Nat → Int) : Prop :=
 Sc D x.ln x.ld L ∧ 0 ≤ L ∧ ((L = 0 ∧ x.lo = false) ∨ ∃ s, s < t ∧ W s ≠ 1099511627776 ∧ L = Nv s - W s / 2 * D ∧ x.lo = decide (W s % 2 = 0)) ∧
  ∀ s, s < t → W s ≠ 1099511627776 → (Nv s - W s / 2 * D < L ∨ (Nv s - W s / 2 * D = L ∧ (W s % 2 = 0 → x.lo = true)))
theorem sp_some {u : Int} (hl : lvB u = true) (hn : u ≠ 1099511627776) : spE u = 0 ∧ spC u = u / 2 ∧ spS u = decide (u % 2 = 0) := by
 have : noB u = false := by simp [noB, hn]
 simp [spE, spC, spS, hl, this, evB]
theorem sp_none : spE 1099511627776 = 4 := by decide
theorem hi_step {D : Int} {x : Dl} {H n d N u : Int} {t : Nat} {Nv U : Nat → Int} (hD : 0 < D) (h : HiInv D x H t Nv U) (hs : Sc D n d N) (hN : Nv t = N) (hU : U t = u) (hl : lvB u = true) (e : wuE n d u = 0) :
  ∃ H', HiInv D (wuL x n d u) H' (t + 1) Nv U := by
 obtain ⟨h1, h2⟩ := h
 by_cases hn : u = 1099511627776
 · refine ⟨H, ?_⟩
   have : wuL x n d u = x := by unfold wuL; rw [hn, sp_none]; rfl
   rw [this]
   refine ⟨fun q s hst => ?_, fun q => ?_⟩
   · by_cases c : s = t
     · subst c; rw [hU, hn]
     · exact h1 q s (by omega)
   · obtain ⟨a, ⟨s, s1, s2⟩, b⟩ := h2 q
     refine ⟨a, ⟨s, by omega, s2⟩, fun s hst hne => ?_⟩
     by_cases c : s = t
     · subst c; exact absurd (hU.trans hn) hne
     · exact b s (by omega) hne
 · obtain ⟨p1, p2, p3⟩ := sp_some hl hn
   have es : shE n d (u / 2) = 0 := by unfold wuE at e; rw [if_pos p1, p2] at e; exact e
   have hB := sh_sc hs es
   have ew : wuL x n d u = if x.nh || lsB (shN n d (u / 2)) (shD n d (u / 2)) x.hn x.hd (decide (u % 2 = 0)) then { x with hn := shN n d (u / 2), hd := shD n d (u / 2), ho := decide (u % 2 = 0), nh := false } else x := by
    unfold wuL; rw [if_pos p1, p2, p3]
   rw [ew]
   cases hnh : x.nh
   · obtain ⟨a, ⟨s, s1, s2, s3, s4⟩, b⟩ := h2 hnh
     have hls := lsB_sc hD hB a (decide (u % 2 = 0))
     rw [hls]
     by_cases c : N + u / 2 * D < H ∨ (N + u / 2 * D = H ∧ u % 2 = 0)
     · have : (false || (decide (N + u / 2 * D < H) || (decide (N + u / 2 * D = H) && decide (u % 2 = 0)))) = true := by simpa using c
       rw [if_pos this]
       refine ⟨N + u / 2 * D, And.intro (fun q => by cases q) (fun _ => And.intro hB (And.intro ⟨t, by omega, by rw [hU]; exact hn, by rw [hN, hU], by rw [hU]⟩ (fun s hst hne => ?_)))⟩
       by_cases k : s = t
       · subst k; right; rw [hN, hU]; exact ⟨rfl, fun q => by simp [q]⟩
       · rcases b s (by omega) hne with g | ⟨g1, g2⟩
         · left; rcases c with c | c <;> omega
         · rcases c with c | ⟨c1, c2⟩
           · left; omega
           · right; exact ⟨by omega, fun _ => by simp [c2]⟩
     · have : ¬ (false || (decide (N + u / 2 * D < H) || (decide (N + u / 2 * D = H) && decide (u % 2 = 0)))) = true := by simpa using c
       rw [if_neg this]
       refine ⟨H, And.intro (fun q => by rw [hnh] at q; cases q) (fun _ => And.intro a (And.intro ⟨s, by omega, s2, s3, s4⟩ (fun s hst hne => ?_)))⟩
       by_cases k : s = t
       · subst k; rw [hN, hU]
         by_cases g : H < N + u / 2 * D
         · exact Or.inl g
         · right; exact ⟨by omega, fun q => by exfalso; omega⟩
       · exact b s (by omega) hne
   · simp only [Bool.true_or, if_true]
     refine ⟨N + u / 2 * D, And.intro (fun q => by cases q) (fun _ => And.intro hB (And.intro ⟨t, by omega, by rw [hU]; exact hn, by rw [hN, hU], by rw [hU]⟩ (fun s hst hne => ?_)))⟩
     by_cases k : s = t
     · subst k; right; rw [hN, hU]; exact ⟨rfl, fun q => by simp [q]⟩
     · exact absurd (h1 hnh s (by omega)) hne
theorem lo_step {D : Int} {x : Dl} {L n d N w : Int} {t : Nat} {Nv W : Nat → Int} (hD : 0 < D) (h : LoInv D x L t Nv W) (hs : Sc D n d N) (hN : Nv t = N) (hW : W t = w) (hl : lvB w = true) (e : wlE n d w = 0) :
  ∃ L', LoInv D (wlL x n d w) L' (t + 1) Nv W := by
 obtain ⟨a, z, h1, h2⟩ := h
 by_cases hn : w = 1099511627776
 · refine ⟨L, ?_⟩
   have : wlL x n d w = x := by unfold wlL; rw [hn, sp_none]; rfl
   rw [this]
   refine ⟨a, z, ?_, fun s hst hne => ?_⟩
   · rcases h1 with h1 | ⟨s, s1, s2⟩
     · exact Or.inl h1
     · exact Or.inr ⟨s, by omega, s2⟩
   · by_cases c : s = t
     · subst c; exact absurd (hW.trans hn) hne
     · exact h2 s (by omega) hne
 · obtain ⟨p1, p2, p3⟩ := sp_some hl hn
   have es : shE n d (-(w / 2)) = 0 := by unfold wlE at e; rw [if_pos p1, p2] at e; exact e
   have hB := sh_sc hs es
   rw [Int.neg_mul, ← Int.sub_eq_add_neg] at hB
   have ew : wlL x n d w = if lsB x.ln x.ld (shN n d (-(w / 2))) (shD n d (-(w / 2))) (decide (w % 2 = 0)) then { x with ln := shN n d (-(w / 2)), ld := shD n d (-(w / 2)), lo := decide (w % 2 = 0) } else x := by
    unfold wlL; rw [if_pos p1, p2, p3]
   rw [ew]
   have hls := lsB_sc hD a hB (decide (w % 2 = 0))
   rw [hls]
   by_cases c : L < N - w / 2 * D ∨ (L = N - w / 2 * D ∧ w % 2 = 0)
   · have : (decide (L < N - w / 2 * D) || (decide (L = N - w / 2 * D) && decide (w % 2 = 0))) = true := by simpa using c
     rw [if_pos this]
     refine ⟨N - w / 2 * D, hB, by omega, Or.inr ⟨t, by omega, by rw [hW]; exact hn, by rw [hN, hW], by rw [hW]⟩, fun s hst hne => ?_⟩
     by_cases k : s = t
     · subst k; right; rw [hN, hW]; exact ⟨rfl, fun q => by simp [q]⟩
     · rcases h2 s (by omega) hne with g | ⟨g1, g2⟩
       · left; rcases c with c | c <;> omega
       · rcases c with c | ⟨c1, c2⟩
         · left; omega
         · right; exact ⟨by omega, fun _ => by simp [c2]⟩
   · have : ¬ (decide (L < N - w / 2 * D) || (decide (L = N - w / 2 * D) && decide (w % 2 = 0))) = true := by simpa using c
     rw [if_neg this]
     refine ⟨L, a, z, ?_, fun s hst hne => ?_⟩
     · rcases h1 with h1 | ⟨s, s1, s2⟩
       · exact Or.inl h1
       · exact Or.inr ⟨s, by omega, s2⟩
     · by_cases k : s = t
       · subst k; rw [hN, hW]
         by_cases g : N - w / 2 * D < L
         · exact Or.inl g
         · right; exact ⟨by omega, fun q => by exfalso; omega⟩
       · exact h2 s (by omega) hne
theorem wl_hi {D : Int} {x : Dl} {H n d w : Int} {t : Nat} {Nv U : Nat → Int} (h : HiInv D x H t Nv U) : HiInv D (wlL x n d w) H t Nv U := by
 unfold wlL
 split
 · split
   · exact h
   · exact h
 · exact h
theorem wu_lo {D : Int} {x : Dl} {L n d u : Int} {t : Nat} {Nv W : Nat → Int} (h : LoInv D x L t Nv W) : LoInv D (wuL x n d u) L t Nv W := by
 unfold wuL
 split
 · split
   · exact h
   · exact h
 · exact h
theorem iv_inv {D : Int} (hD : 0 < D) {T : Nat} (X : Nat → Dl × Int) (r : Nat → Pq) (U W Nv : Nat → Int) (h0 : X 0 = (Dl.one, 0))
  (hs : ∀ t, t < T → (X t).2 = 0 → X (t + 1) = (wiL (X t).1 (r t).1 (r t).2 (U t) (W t), wiE (r t).1 (r t).2 (U t) (W t))) (hst : ∀ t, (X t).2 ≠ 0 → X (t + 1) = X t)
  (hr : ∀ t, t < T → Sc D (r t).1 (r t).2 (Nv t)) (hU : ∀ t, t < T → lvB (U t) = true) (hW : ∀ t, t < T → lvB (W t) = true) :
  ∀ t, t ≤ T → (X t).2 = 0 → ∃ L H, HiInv D (X t).1 H t Nv U ∧ LoInv D (X t).1 L t Nv W := by
 intro t
 induction t with
 | zero =>
  intro _ _
  rw [h0]
  refine ⟨0, 0, ⟨fun _ s hs => absurd hs (by omega), fun q => by cases q⟩, ⟨by decide, by show 0 * (1 : Int) = 0 * D; omega⟩, by omega, Or.inl ⟨rfl, rfl⟩, fun s hs => absurd hs (by omega)⟩
 | succ t ih =>
  intro ht he
  by_cases c : (X t).2 = 0
  · obtain ⟨L, H, hi, lo⟩ := ih (by omega) c
    have hx := hs t (by omega) c
    rw [hx] at he ⊢
    show ∃ L H, HiInv D (wiL _ _ _ _ _) H (t + 1) Nv U ∧ LoInv D (wiL _ _ _ _ _) L (t + 1) Nv W
    have he : wiE (r t).1 (r t).2 (U t) (W t) = 0 := he
    have e1 : wuE (r t).1 (r t).2 (U t) = 0 := by
     unfold wiE at he
     by_cases k : wuE (r t).1 (r t).2 (U t) = 0
     · exact k
     · rw [if_pos k] at he; exact absurd he k
    have e2 : wlE (r t).1 (r t).2 (W t) = 0 := by unfold wiE at he; rw [if_neg (by omega)] at he; exact he
    have ew : ∀ x, wiL x (r t).1 (r t).2 (U t) (W t) = wlL (wuL x (r t).1 (r t).2 (U t)) (r t).1 (r t).2 (W t) := fun x => by unfold wiL; rw [if_pos he]
    rw [ew]
    obtain ⟨H', hi'⟩ := hi_step hD hi (hr t (by omega)) rfl rfl (hU t (by omega)) e1
    obtain ⟨L', lo'⟩ := lo_step hD (wu_lo lo (n := (r t).1) (d := (r t).2) (u := U t)) (hr t (by omega)) rfl rfl (hW t (by omega)) e2
    exact ⟨L', H', wl_hi hi', lo'⟩
  · rw [hst t c] at he; exact absurd he c
def InI (x : Dl) (L H Y : Int) : Prop := (L < Y ∨ (L = Y ∧ x.lo = false)) ∧ (x.nh = true ∨ Y < H ∨ (Y = H ∧ x.ho = false))
theorem iv_member {D : Int} {x : Dl} {L H Y : Int} {t : Nat} {Nv U W : Nat → Int} (hi : HiInv D x H t Nv U) (lo : LoInv D x L t Nv W) :
  InI x L H Y ↔ 0 ≤ Y ∧ ∀ s, s < t → Zo.mt D (Y - Nv s) (U s) ∧ Zo.mt D (Nv s - Y) (W s) := by
 obtain ⟨a, z, l1, l2⟩ := lo
 obtain ⟨h1, h2⟩ := hi
 constructor
 · rintro ⟨p, q⟩
   refine ⟨by rcases p with p | p <;> omega, fun s hs => ⟨?_, ?_⟩⟩
   · unfold Zo.mt
     by_cases hn : U s = 1099511627776
     · exact Or.inl hn
     · right
       cases hnh : x.nh
       · rw [hnh] at q
         obtain ⟨_, _, b⟩ := h2 hnh
         have := b s hs hn
         by_cases ev : U s % 2 = 0
         · left
           refine ⟨ev, ?_⟩
           rcases q with q | q | ⟨q1, q2⟩
           · cases q
           · rcases this with g | ⟨g, _⟩ <;> omega
           · rcases this with g | ⟨g, g2⟩
             · omega
             · rw [g2 ev] at q2; cases q2
         · right
           refine ⟨ev, ?_⟩
           rcases q with q | q | ⟨q1, q2⟩
           · cases q
           · rcases this with g | ⟨g, _⟩ <;> omega
           · rcases this with g | ⟨g, _⟩ <;> omega
       · exact absurd (h1 hnh s hs) hn
   · unfold Zo.mt
     by_cases hn : W s = 1099511627776
     · exact Or.inl hn
     · right
       have := l2 s hs hn
       by_cases ev : W s % 2 = 0
       · left
         refine ⟨ev, ?_⟩
         rcases p with p | ⟨p1, p2⟩
         · rcases this with g | ⟨g, _⟩ <;> omega
         · rcases this with g | ⟨g, g2⟩
           · omega
           · rw [g2 ev] at p2; cases p2
       · right
         refine ⟨ev, ?_⟩
         rcases p with p | ⟨p1, p2⟩
         · rcases this with g | ⟨g, _⟩ <;> omega
         · rcases this with g | ⟨g, _⟩ <;> omega
 · rintro ⟨y, h⟩
   constructor
   · rcases l1 with ⟨e, f⟩ | ⟨s, hs, hn, e, f⟩
     · by_cases c : L < Y
       · exact Or.inl c
       · exact Or.inr ⟨by omega, f⟩
     · have := (h s hs).2
       unfold Zo.mt at this
       rcases this with g | ⟨g, g2⟩ | ⟨g, g2⟩
       · exact absurd g hn
       · left; omega
       · by_cases c : L < Y
         · exact Or.inl c
         · exact Or.inr ⟨by omega, by rw [f]; simp; omega⟩
   · cases hnh : x.nh
     · right
       obtain ⟨_, ⟨s, hs, hn, e, f⟩, _⟩ := h2 hnh
       have := (h s hs).1
       unfold Zo.mt at this
       rcases this with g | ⟨g, g2⟩ | ⟨g, g2⟩
       · exact absurd g hn
       · left; omega
       · by_cases c : Y < H
         · exact Or.inl c
         · exact Or.inr ⟨by omega, by rw [f]; simp; omega⟩
     · exact Or.inl rfl
def Full (x : Dl) (L H : Int) : Prop := x.nh = true ∨ L < H ∨ (L = H ∧ x.lo = false ∧ x.ho = false)
theorem empty_sc {D : Int} {x : Dl} {L H : Int} (hD : 0 < D) (h1 : Sc D x.ln x.ld L) (h2 : x.nh = false → Sc D x.hn x.hd H) : x.empty = false ↔ Full x L H := by
 unfold Dl.empty Full
 cases hnh : x.nh
 · rw [lsB_sc hD (h2 hnh) h1]
   cases x.lo <;> cases x.ho <;> simp <;> omega
 · simp
theorem full_of {D : Int} {x : Dl} {L H : Int} {t : Nat} {Nv U W : Nat → Int} (hi : HiInv D x H t Nv U) (lo : LoInv D x L t Nv W)
  (hz : ∀ s, s < t → Zo.mt D (-Nv s) (U s)) (hp : ∀ s r, s < t → r < t → U s ≠ 1099511627776 → W r ≠ 1099511627776 → (Nv r - Nv s < (U s / 2 + W r / 2) * D ∨ (Nv r - Nv s = (U s / 2 + W r / 2) * D ∧ ¬ U s % 2 = 0 ∧ ¬ W r % 2 = 0))) : Full x L H := by
 unfold Full
 cases hnh : x.nh
 · right
   obtain ⟨_, ⟨s, hs, hn, e, f⟩, _⟩ := hi.2 hnh
   obtain ⟨_, z, l1, _⟩ := lo
   rcases l1 with ⟨e2, f2⟩ | ⟨r, hr, hrn, e2, f2⟩
   · have := hz s hs
     unfold Zo.mt at this
     rcases this with g | ⟨g, g2⟩ | ⟨g, g2⟩
     · exact absurd g hn
     · left; omega
     · by_cases c : L < H
       · exact Or.inl c
       · exact Or.inr ⟨by omega, f2, by rw [f]; simp; omega⟩
   · have := hp s r hs hr hn hrn
     rw [Int.add_mul] at this
     rcases this with g | ⟨g, g2, g3⟩
     · left; omega
     · by_cases c : L < H
       · exact Or.inl c
       · exact Or.inr ⟨by omega, by rw [f2]; simp; omega, by rw [f]; simp; omega⟩
 · exact Or.inl rfl
theorem full_up {D : Int} {x : Dl} {L H : Int} {t : Nat} {Nv U W : Nat → Int} (hi : HiInv D x H t Nv U) (lo : LoInv D x L t Nv W) (hf : Full x L H) : ∀ s, s < t → Zo.mt D (-Nv s) (U s) := by
 intro s hs
 unfold Zo.mt
 by_cases hn : U s = 1099511627776
 · exact Or.inl hn
 · right
   have z := lo.2.1
   cases hnh : x.nh
   · obtain ⟨_, _, b⟩ := hi.2 hnh
     have := b s hs hn
     unfold Full at hf
     rw [hnh] at hf
     by_cases ev : U s % 2 = 0
     · left
       refine ⟨ev, ?_⟩
       rcases hf with q | q | ⟨q1, q2, q3⟩
       · cases q
       · rcases this with g | ⟨g, _⟩ <;> omega
       · rcases this with g | ⟨g, g2⟩
         · omega
         · rw [g2 ev] at q3; cases q3
     · right
       refine ⟨ev, ?_⟩
       rcases hf with q | q | ⟨q1, q2, q3⟩
       · cases q
       · rcases this with g | ⟨g, _⟩ <;> omega
       · rcases this with g | ⟨g, _⟩ <;> omega
   · exact absurd (hi.1 hnh s hs) hn
theorem mt_split {D q a b : Int} (ha : a ≠ 1099511627776) (hb : b ≠ 1099511627776) (la : lvB a = true) (lb : lvB b = true) (h : Zo.mt D q (Zo.smW a b)) : q < (a / 2 + b / 2) * D ∨ (q = (a / 2 + b / 2) * D ∧ ¬ a % 2 = 0 ∧ ¬ b % 2 = 0) := by
 have va := vl_of_lv la
 have vb := vl_of_lv lb
 unfold Zo.Vl at va vb
 unfold Zo.smW at h
 rw [if_neg (by omega)] at h
 by_cases e : a % 2 = 0 ∧ b % 2 = 0
 · rw [if_pos e, Zo.w64_in (by omega) (by omega)] at h
   unfold Zo.mt at h
   rw [show (a + b) / 2 = a / 2 + b / 2 by omega] at h
   rcases h with h | ⟨h, g⟩ | ⟨h, g⟩
   · omega
   · exact Or.inl g
   · omega
 · rw [if_neg e, Zo.w64_in (x := a + b) (by omega) (by omega), Zo.w64_in (by omega) (by omega)] at h
   unfold Zo.mt at h
   rw [show (a + b - 1) / 2 = a / 2 + b / 2 by omega] at h
   rcases h with h | ⟨h, g⟩ | ⟨h, g⟩
   · omega
   · exact Or.inl g
   · by_cases c : q < (a / 2 + b / 2) * D
     · exact Or.inl c
     · exact Or.inr ⟨by omega, by omega, by omega⟩
theorem chk_of {n : Nat} {m : List Int} (hn : n ≤ 10) (hl : m.length = (n + 1) * (n + 1)) (hv : rdL m = true) (dg : ∀ a, a ≤ n → Zo.At n m a a = 1) (row : ∀ a, a ≤ n → Zo.At n m 0 a ≤ 1)
  (tri : ∀ i j k, i ≤ n → j ≤ n → k ≤ n → Zo.At n m i j ≤ Zo.smW (Zo.At n m i k) (Zo.At n m k j)) : chkE n m = 0 := by
 have e := clo_fix hl (fun a ha => by rw [dg a ha]; omega) row tri
 exact (chk_iff hn hl hv).2 ⟨cloB_iff.2 fun i hi => by rw [e, dg i hi]; omega, e⟩
theorem chk_clo {n : Nat} {m : List Int} (h : chkE n m = 0) : Zo.clo n m = m ∧ cloE n m = 0 := by
 obtain ⟨hn, hl, hr⟩ := chk_lenZ h
 obtain ⟨h1, h2⟩ := (chk_iff hn hl hr).1 h
 exact ⟨h2, cloE_zero.2 ⟨h1, by rw [h2]; exact hr⟩⟩
theorem inB_of {n : Nat} {l m : List Int} (hl : l.length = (n + 1) * (n + 1)) (h : Zo.Le n m l) : inB l m = true := by
 unfold inB
 rw [List.all_eq_true]
 intro k hk
 rw [List.mem_range, hl] at hk
 have e : Zo.ix n (k / (n + 1)) (k % (n + 1)) = k := by unfold Zo.ix; have := Nat.div_add_mod k (n + 1); rw [Nat.mul_comm] at this; exact this
 have a1 : k / (n + 1) ≤ n := by
  have : k / (n + 1) < n + 1 := Nat.div_lt_of_lt_mul hk
  omega
 have b1 : k % (n + 1) ≤ n := by have := Nat.mod_lt k (show 0 < n + 1 by omega); omega
 have := h _ _ a1 b1
 unfold Zo.At at this
 rw [e] at this
 simpa using this
section
variable {n : Nat} {l : List Int}
theorem up_chk (hc : chkE n l = 0) : chkE n (upL n l) = 0 := by
 obtain ⟨hn, hl, hr⟩ := chk_lenZ hc
 obtain ⟨dg, rw0⟩ := chk_diag hc
 have tr := chk_tri hc
 have top := (chk_top hc).2
 have lu : (upL n l).length = (n + 1) * (n + 1) := by rw [upL_len, hl]
 have hat := fun a b (ha : a ≤ n) (hb : b ≤ n) => upL_at hl ha hb
 refine chk_of hn lu (all_of_lv lu fun a b ha hb => ?_) (fun a ha => ?_) (fun a ha => ?_) (fun i j k hi hj hk => ?_)
 · rw [hat a b ha hb]
   split
   · decide
   · exact chk_lvs hc ha hb
 · rw [hat a a ha ha, if_neg (by omega)]; exact dg a ha
 · rw [hat 0 a (by omega) ha, if_neg (by omega)]; exact rw0 a ha
 · rw [hat i j hi hj, hat i k hi hk, hat k j hk hj]
   by_cases c1 : i ≠ 0 ∧ k = 0
   · rw [if_pos c1, no_smW]
     split
     · omega
     · exact top i j hi hj
   · rw [if_neg c1]
     by_cases c2 : k ≠ 0 ∧ j = 0
     · rw [if_pos c2, smW_no]
       split
       · omega
       · exact top i j hi hj
     · rw [if_neg c2]
       by_cases c3 : i ≠ 0 ∧ j = 0
       · exfalso; omega
       · rw [if_neg c3]; exact tr i j k hi hj hk
theorem up_math (hc : chkE n l = 0) : upE n l = 0 ∧ Zo.clo n (upL n l) = upL n l ∧ upE n (upL n l) = 0 ∧ Zo.clo n (upL n (upL n l)) = upL n l ∧ inR n n (upL n l) l = true := by
 obtain ⟨hn, hl, hr⟩ := chk_lenZ hc
 have h1 := up_chk hc
 have h2 := up_chk h1
 obtain ⟨c1, e1⟩ := chk_clo h1
 obtain ⟨c2, e2⟩ := chk_clo h2
 have lu : (upL n l).length = (n + 1) * (n + 1) := by rw [upL_len, hl]
 have same : upL n (upL n l) = upL n l := by
  refine Zo.At_ext (by rw [upL_len, lu]) lu fun a b ha hb => ?_
  rw [upL_at lu ha hb, upL_at hl ha hb]
  split <;> rfl
 refine ⟨?_, c1, ?_, by rw [c2, same], ?_⟩
 · unfold upE; rw [if_pos hc, Int.toNat_natCast]; exact e1
 · unfold upE; rw [if_pos h1, Int.toNat_natCast]; exact e2
 · unfold inR twB
   rw [inB_of lu (fun a b ha hb => by
    rw [upL_at hl ha hb]
    split
    · exact (chk_top hc).2 a b ha hb
    · omega)]
   simp [h1, hc]
theorem dn_over (hc : chkE n l = 0) : cloE n (dnL n l) = 0 ∧ Zo.Le n l (Zo.clo n (dnL n l)) ∧ (∀ a b, a ≤ n → b ≤ n → Zo.Wl (Zo.At n (dnL n l) a b)) := by
 obtain ⟨hn, hl, hr⟩ := chk_lenZ hc
 obtain ⟨dg, rw0⟩ := chk_diag hc
 obtain ⟨D, hD⟩ := chk_cl hn hl hc
 have ld : (dnL n l).length = (n + 1) * (n + 1) := by rw [dnL_len, hl]
 have hat := fun a b (ha : a ≤ n) (hb : b ≤ n) => dnL_at hl ha hb
 have hw : ∀ a b, a ≤ n → b ≤ n → Zo.Wl (Zo.At n (dnL n l) a b) := fun a b ha hb => by
  rw [hat a b ha hb]
  split
  · unfold Zo.Wl; omega
  · exact wl_of hl hr a b ha hb
 have hle : ∀ a b, a ≤ n → b ≤ n → Zo.At n l a b ≤ Zo.At n (dnL n l) a b := fun a b ha hb => by
  rw [hat a b ha hb]
  split
  · rename_i c; rw [c.1]; exact rw0 b hb
  · omega
 obtain ⟨o1, o2⟩ := Zo.clo_over hn ld hw hD hle
 refine ⟨cloE_zero.2 ⟨cloB_iff.2 o1, all_of_lv (by rw [Zo.clo_length, ld]) fun a b ha hb => ?_⟩, o2, hw⟩
 have x := o2 a b ha hb
 have y := Zo.le_clo ld a b ha hb
 rw [hat a b ha hb] at y
 have lv := chk_lvs hc ha hb
 split at y
 · unfold lvB at lv ⊢; simp at lv ⊢; omega
 · rw [show Zo.At n (Zo.clo n (dnL n l)) a b = Zo.At n l a b by omega]; exact lv
theorem dn_chk (hc : chkE n l = 0) : chkE n (Zo.clo n (dnL n l)) = 0 := by
 obtain ⟨hn, hl, hr⟩ := chk_lenZ hc
 obtain ⟨h1, _, h3⟩ := dn_over hc
 exact clo_chk hn (by rw [dnL_len, hl]) h3 h1
end
theorem vld_neg' {n d : Int} (v : vldB n d = true) : vldB (-n) d = true := by rw [← v]; unfold vldB; rw [Bool.eq_iff_iff]; simp; omega
theorem shE_four (n d c : Int) : shE n d c ≠ 4 := by
 unfold shE opErr mkErr
 split
 · split
   · omega
   · split <;> omega
 · omega
theorem wiE_four (n d u l : Int) : wiE n d u l ≠ 4 := by
 have h1 := shE_four n d (spC u)
 have h2 := shE_four n d (-spC l)
 have h3 : wuE n d u ≠ 4 := by unfold wuE; split <;> omega
 have h4 : wlE n d l ≠ 4 := by unfold wlE; split <;> omega
 unfold wiE
 split
 · exact h3
 · exact h4
theorem sy_four (n : Nat) (l : List Int) (ps : List Pq) (t : Nat) : (syR n l ps t).2 ≠ 4 := by
 induction t with
 | zero => show (0 : Int) ≠ 4; omega
 | succ t ih =>
  show (if (syR n l ps t).2 = 0 then _ else syR n l ps t).2 ≠ 4
  split
  · exact wiE_four _ _ _ _
  · exact ih
section
variable {n : Nat} {l : List Int} {ps : List Pq} {D : Int} {X : Nat → Int}
theorem st_inv (hr : rdE n l ps = 0) (ho : Ov D X ps) (e : (syR n l ps n).2 = 0) :
  ∃ L H, HiInv D (syR n l ps n).1 H n (fun t => -X (t + 1)) (fun t => Zo.At n l (t + 1) 0) ∧ LoInv D (syR n l ps n).1 L n (fun t => -X (t + 1)) (fun t => Zo.At n l 0 (t + 1)) := by
 obtain ⟨hc, hp, hv, _⟩ := rd_parts hr
 refine iv_inv ho.pos (T := n) (syR n l ps) (fun t => (-(gp ps t).1, (gp ps t).2)) _ _ _ rfl (fun t ht h => ?_) (fun t h => ?_) (fun t ht => ?_) (fun t ht => chk_lvs hc (by omega) (by omega)) (fun t ht => chk_lvs hc (by omega) (by omega)) n (Nat.le_refl _) e
 · show (if (syR n l ps t).2 = 0 then _ else syR n l ps t) = _
   rw [if_pos h]
 · show (if (syR n l ps t).2 = 0 then _ else syR n l ps t) = _
   rw [if_neg h]
 · have h1 := ho.val (t + 1) (by omega)
   have h2 := (clk_vld hv (i := t + 1) (by omega)).1
   have ec : clk ps (t + 1) = gp ps t := by unfold clk; rw [if_neg (by omega)]; simp
   rw [ec] at h1 h2
   refine ⟨vld_neg' h2, ?_⟩
   show -X (t + 1) * (gp ps t).2 = -(gp ps t).1 * D
   rw [Int.neg_mul, h1, Int.neg_mul]
theorem mt1_iff (hr : rdE n l ps = 0) (ho : Ov D X ps) : (omR n 1 l ps).2 = 0 ∧ ((omR n 1 l ps).1 = true ↔ ∀ i, 1 ≤ i → i ≤ n → ∀ j, 1 ≤ j → j ≤ n → Zo.mt D (X i - X j) (Zo.At n l i j)) := by
 obtain ⟨hc, hp, hv, hs⟩ := rd_parts hr
 have hA : mtA n 1 ps = true := mtA_iff.2 fun i _ hi j _ hj => hs i (by omega) j (by omega)
 have e : omR n 1 l ps = (mtH n 1 l ps, 0) := by unfold omR; rw [if_pos hA]
 rw [e]
 refine ⟨rfl, ?_⟩
 show mtH n 1 l ps = true ↔ _
 rw [mtH_iff]
 constructor
 · intro h i i1 hi j j1 hj
   exact (hs_mt hv ho (by omega) (by omega) (hs i hi j hj) (chk_lvs hc hi hj)).1 (h i i1 (by omega) j j1 (by omega))
 · intro h i i1 hi j j1 hj
   exact (hs_mt hv ho (by omega) (by omega) (hs i (by omega) j (by omega)) (chk_lvs hc (by omega) (by omega))).2 (h i i1 (by omega) j j1 (by omega))
theorem stay_in (hc : chkE n l = 0) {Q : Nat → Int} {Y : Int} (h0 : Q 0 = 0) (hQ : ∀ i, 1 ≤ i → i ≤ n → Q i = X i + Y) :
  Zo.In n l D Q ↔ (∀ i, 1 ≤ i → i ≤ n → ∀ j, 1 ≤ j → j ≤ n → Zo.mt D (X i - X j) (Zo.At n l i j)) ∧ ∀ s, s < n → Zo.mt D (Y - -X (s + 1)) (Zo.At n l (s + 1) 0) ∧ Zo.mt D (-X (s + 1) - Y) (Zo.At n l 0 (s + 1)) := by
 constructor
 · intro h
   refine ⟨fun i i1 hi j j1 hj => ?_, fun s hs => ⟨?_, ?_⟩⟩
   · have := h i j hi hj
     rw [hQ i i1 hi, hQ j j1 hj, show X i + Y - (X j + Y) = X i - X j by omega] at this
     exact this
   · have := h (s + 1) 0 (by omega) (by omega)
     rw [hQ (s + 1) (by omega) (by omega), h0, show X (s + 1) + Y - 0 = Y - -X (s + 1) by omega] at this
     exact this
   · have := h 0 (s + 1) (by omega) (by omega)
     rw [hQ (s + 1) (by omega) (by omega), h0, show 0 - (X (s + 1) + Y) = -X (s + 1) - Y by omega] at this
     exact this
 · rintro ⟨h1, h2⟩ i j hi hj
   by_cases i0 : i = 0
   · by_cases j0 : j = 0
     · subst i0; subst j0; rw [Int.sub_self, (chk_diag hc).1 0 (by omega)]; exact Zo.mt_one.2 (Int.le_refl _)
     · subst i0
       have := (h2 (j - 1) (by omega)).2
       rw [show j - 1 + 1 = j by omega] at this
       rw [h0, hQ j (by omega) hj, show 0 - (X j + Y) = -X j - Y by omega]
       exact this
   · by_cases j0 : j = 0
     · subst j0
       have := (h2 (i - 1) (by omega)).1
       rw [show i - 1 + 1 = i by omega] at this
       rw [h0, hQ i (by omega) hi, show X i + Y - 0 = Y - -X i by omega]
       exact this
     · rw [hQ i (by omega) hi, hQ j (by omega) hj, show X i + Y - (X j + Y) = X i - X j by omega]
       exact h1 i (by omega) hi j (by omega) hj
theorem dn_in (hc : chkE n l = 0) {C : Int} (hp : Zo.Pt n D X C) (hC : C ≤ 4611686018427387) : Zo.In n (Zo.clo n (dnL n l)) D X ↔ (∀ i, 1 ≤ i → i ≤ n → ∀ j, 1 ≤ j → j ≤ n → Zo.mt D (X i - X j) (Zo.At n l i j)) ∧ ∀ s, s < n → Zo.mt D (- -X (s + 1)) (Zo.At n l (s + 1) 0) := by
 obtain ⟨hn, hl, hr⟩ := chk_lenZ hc
 have ld : (dnL n l).length = (n + 1) * (n + 1) := by rw [dnL_len, hl]
 rw [clo_in hp (by omega) (wl_top' ld (dn_over hc).2.2)]
 constructor
 · intro h
   refine ⟨fun i i1 hi j j1 hj => ?_, fun s hs => ?_⟩
   · have := h i j hi hj
     rw [dnL_at hl hi hj, if_neg (by omega)] at this
     exact this
   · have := h (s + 1) 0 (by omega) (by omega)
     rw [dnL_at hl (by omega) (by omega), if_neg (by omega), hp.zero, show X (s + 1) - 0 = - -X (s + 1) by omega] at this
     exact this
 · rintro ⟨h1, h2⟩ i j hi hj
   rw [dnL_at hl hi hj]
   by_cases i0 : i = 0
   · by_cases j0 : j = 0
     · rw [if_neg (by omega)]
       subst i0; subst j0; rw [Int.sub_self, (chk_diag hc).1 0 (by omega)]; exact Zo.mt_one.2 (Int.le_refl _)
     · rw [if_pos ⟨i0, j0⟩]
       subst i0
       rw [hp.zero]
       have := hp.low j hj
       exact Zo.mt_one.2 (by omega)
   · rw [if_neg (by omega)]
     by_cases j0 : j = 0
     · subst j0
       have := h2 (i - 1) (by omega)
       rw [show i - 1 + 1 = i by omega] at this
       rw [hp.zero, show X i - 0 = - -X i by omega]
       exact this
     · exact h1 i (by omega) hi j (by omega) hj
where wl_top' {n : Nat} {l : List Int} (hl : l.length = (n + 1) * (n + 1)) (h : ∀ a b, a ≤ n → b ≤ n → Zo.Wl (Zo.At n l a b)) : Zo.Top n l :=
 ⟨hl, fun i j hi hj => by have := h i j hi hj; unfold Zo.Wl at this; omega⟩
theorem st_full (hr : rdE n l ps = 0) {x : Dl} {L H : Int} (hD : 0 < D) (hi : HiInv D x H n (fun t => -X (t + 1)) (fun t => Zo.At n l (t + 1) 0)) (lo : LoInv D x L n (fun t => -X (t + 1)) (fun t => Zo.At n l 0 (t + 1)))
  (h1 : ∀ i, 1 ≤ i → i ≤ n → ∀ j, 1 ≤ j → j ≤ n → Zo.mt D (X i - X j) (Zo.At n l i j)) : Full x L H ↔ ∀ s, s < n → Zo.mt D (- -X (s + 1)) (Zo.At n l (s + 1) 0) := by
 obtain ⟨hc, _, _, _⟩ := rd_parts hr
 refine ⟨fun h => full_up hi lo h, fun h => full_of hi lo h fun s r hs hr' hu hw => ?_⟩
 have t := chk_tri hc (s + 1) (r + 1) 0 (by omega) (by omega) (by omega)
 have m := h1 (s + 1) (by omega) (by omega) (r + 1) (by omega) (by omega)
 have tp : Zo.smW (Zo.At n l (s + 1) 0) (Zo.At n l 0 (r + 1)) ≤ 1099511627776 := Zo.smW_top (Bq.of (vl_of_lv (chk_lvs hc (by omega) (by omega)))) (Bq.of (vl_of_lv (chk_lvs hc (by omega) (by omega))))
 have m2 := mt_split hu hw (chk_lvs hc (by omega) (by omega)) (chk_lvs hc (by omega) (by omega)) (Zo.mt_mono hD t tp m)
 show -X (r + 1) - -X (s + 1) < _ ∨ _
 rw [show -X (r + 1) - -X (s + 1) = X (s + 1) - X (r + 1) by omega]
 exact m2
theorem stay_math (hr : rdE n l ps = 0) (hg : (stR n l ps).2 = 0 ∨ (stR n l ps).2 = 4) : rdE n (Zo.clo n (dnL n l)) ps = 0 ∧ hsR n (Zo.clo n (dnL n l)) ps = decide ((stR n l ps).2 = 0) := by
 obtain ⟨hc, hp, hv, _⟩ := rd_parts hr
 have hr2 : rdE n (Zo.clo n (dnL n l)) ps = 0 := by rw [rdE_other (dn_chk hc) hc]; exact hr
 refine ⟨hr2, ?_⟩
 have ho := ov_of hv
 generalize dnPt ps = D at ho
 generalize (fun i => (clk ps i).1 * (D / (clk ps i).2)) = X at ho
 have hpt := ho.pt hp hv
 obtain ⟨m0, m1⟩ := mt1_iff hr ho
 have es : stR n l ps = syV n l ps := by unfold stR; rw [if_neg (by rw [hr]; decide), Int.toNat_natCast]
 rw [es] at hg ⊢
 unfold syV at hg ⊢
 rw [if_neg (by rw [m0]; decide)] at hg ⊢
 by_cases e : (syR n l ps n).2 = 0
 · rw [if_neg (by omega)] at hg ⊢
   obtain ⟨L, H, hi, lo⟩ := st_inv hr ho e
   have he := empty_sc ho.pos lo.1 (fun q => (hi.2 q).1)
   rw [Bool.eq_iff_iff, has_in hr2 ho, dn_in hc hpt (by omega)]
   by_cases c : (omR n 1 l ps).1 = true
   · have h1 := m1.1 c
     have hf := st_full hr ho.pos hi lo h1
     cases k : (syR n l ps n).1.empty
     · rw [if_neg (by simp [c])]
       simp only [decide_true, iff_true]
       exact ⟨h1, hf.1 (he.1 k)⟩
     · rw [if_pos (Or.inr rfl)]
       constructor
       · intro h
         have := he.2 (hf.2 h.2)
         rw [k] at this; cases this
       · intro h; simp at h
   · rw [if_pos (Or.inl (by simpa using c))]
     constructor
     · intro h; exact absurd (m1.2 h.1) c
     · intro h; simp at h
 · exfalso
   rw [if_pos e] at hg
   rcases hg with hg | hg
   · exact e hg
   · exact sy_four n l ps n hg
end
end Go.Proofs.YthjapmdfcbngmaaGreat
