/- Plain mathematics: Before, as the project does it, is Before as the reference does it.; Plain mathematics: Before in one closing.; Plain mathematics: Before in one closing; the whole.; Before in one closing: the error and the zone.; The contract of Before of layer 3's reference.; Contract of layer 3's Before.; Plain mathematics of bounds: which points are in the set of a matrix, and that closing keeps them. A point is a list of integers over one common denominator. Nothing of the program is named here.; Plain mathematics: points as integers over one denominator; what Has says of a point is that it is in the set of the matrix; constraints and points.; Plain mathematics: a point is in what And makes exactly if it is in the zone and meets all constraints. -/
import Derived.Test.YtbnebinpemejlaaHm2
import Derived.Test.YtbnebinpemejlaaHc8
import Derived.Deep.RegionWith
import Derived.Test.YtbnebinpemejlaaHc2
import Derived.Test.YtbnebinpemejlaaHc4

namespace Go.Proofs.Ytbnebinpemejlaa
open Go.RowKit
open Zo (pl Bq)

theorem smW_odd {x k : Int} (hx : Bq x) (h0 : -2097152 ≤ k) (h1 : k ≤ 2097152) (he : k % 2 = 0) : Zo.smW x (k + 1) = pl x k := by
  rw [Zo.smW_big hx (by omega)]
  unfold Bq at hx
  unfold pl Zo.ps
  by_cases c : x = 1099511627776
  · rw [if_pos (Or.inl c), if_pos c]
  · rw [if_neg (by omega), if_neg c, if_neg (by omega)]; omega

def bfG (n i : Nat) (e : Int) (l : List Int) (a b : Nat) : Int := if b = 0 then (if a = 0 then imin (imin (Zo.At n l 0 0) (pl (Zo.At n l 0 i) e)) (pl (Zo.At n l i 0) (-e)) else imin (Zo.At n l a 0) (pl (Zo.At n l a i) e)) else if a = 0 then imin (Zo.At n l 0 b) (pl (Zo.At n l i b) (-e)) else Zo.At n l a b

theorem bfL_at {n i : Nat} {c : Int} {l : List Int} (hl : l.length = (n + 1) * (n + 1)) (h1 : 1 ≤ i) (hi : i ≤ n) (hv : ∀ a b, a ≤ n → b ≤ n → Bq (Zo.At n l a b)) (h0 : 0 ≤ c) (h2 : c ≤ 1048576) {a b : Nat} (ha : a ≤ n) (hb : b ≤ n) :
    Zo.At n (bfL n i c l) a b = bfG n i (2 * c) l a b := by
  have key : ∀ t, t ≤ n + 1 → ((List.range t).foldl (bfS n i (2 * c + 1) (-2 * c + 1)) l).length = (n + 1) * (n + 1) ∧ ∀ a b, a ≤ n → b ≤ n → Zo.At n ((List.range t).foldl (bfS n i (2 * c + 1) (-2 * c + 1)) l) a b = if (b = 0 ∧ a < t) ∨ (a = 0 ∧ b < t) then bfG n i (2 * c) l a b else Zo.At n l a b := by
    intro t
    induction t with
    | zero => intro _; exact ⟨hl, fun a b _ _ => by rw [if_neg (by omega)]; rfl⟩
    | succ t ih =>
      intro ht
      obtain ⟨hx, hxa⟩ := ih (by omega)
      rw [Zo.fold_succ]
      generalize (List.range t).foldl (bfS n i (2 * c + 1) (-2 * c + 1)) l = x at *
      refine ⟨by rw [bfS_len]; exact hx, fun a b ha hb => ?_⟩
      have r1 := hxa t 0 (by omega) (by omega)
      rw [if_neg (by omega)] at r1
      have r2 := hxa t i (by omega) hi
      rw [if_neg (by omega)] at r2
      have r3 := hxa 0 t (by omega) (by omega)
      rw [if_neg (by omega)] at r3
      have r4 := hxa i t hi (by omega)
      rw [if_neg (by omega)] at r4
      unfold bfS
      simp only []
      rw [r1, r2, smW_odd (hv t i (by omega) hi) (by omega) (by omega) (by omega)]
      generalize hy : x.set (Zo.ix n t 0) (imin (Zo.At n l t 0) (pl (Zo.At n l t i) (2 * c))) = y
      have ly : y.length = (n + 1) * (n + 1) := by rw [← hy, List.length_set]; exact hx
      have ya : ∀ a b, b ≤ n → Zo.At n y a b = if a = t ∧ b = 0 then imin (Zo.At n l t 0) (pl (Zo.At n l t i) (2 * c)) else Zo.At n x a b := fun a b hb => by
        rw [← hy]; exact Zo.At_set hx (by omega) (by omega) _ hb
      have yi : Zo.At n y i t = Zo.At n l i t := by rw [ya i t (by omega), if_neg (show ¬ (i = t ∧ t = 0) by omega), r4]
      have y0 := ya 0 t (by omega)
      rw [r3] at y0
      rw [Zo.At_set ly (by omega) (by omega) _ hb, yi, smW_odd (hv i t hi (by omega)) (by omega) (by omega) (by omega), y0, ya a b hb, hxa a b ha hb, show -2 * c = -(2 * c) by omega]
      unfold bfG
      by_cases ca : a = 0 <;> by_cases cb : b = 0
      · subst ca; subst cb
        by_cases c0 : t = 0
        · subst c0
          rw [if_pos ⟨rfl, rfl⟩, if_pos ⟨rfl, rfl⟩, if_pos (by omega), if_pos rfl, if_pos rfl] <;> try simp
        · rw [if_neg (by omega), if_neg (by omega), if_pos (by omega), if_pos (by omega)] <;> try simp
      · subst ca
        rw [if_neg cb]
        by_cases c0 : b = t
        · subst c0
          rw [if_pos ⟨rfl, rfl⟩, if_neg (by omega), if_pos (by omega), if_pos rfl] <;> try simp
        · rw [if_neg (by omega), if_neg (by omega)]
          by_cases c1 : b < t
          · rw [if_pos (by omega), if_pos (by omega)] <;> try (simp; intros; omega)
          · rw [if_neg (by omega), if_neg (by omega)] <;> try simp
      · subst cb
        rw [if_pos rfl, if_neg ca, if_neg (by omega)]
        by_cases c0 : a = t
        · subst c0
          rw [if_pos ⟨rfl, rfl⟩, if_pos (by omega)] <;> try simp
        · rw [if_neg (by omega)] <;> try simp
          by_cases c1 : a < t
          · rw [if_pos (by omega), if_pos (by omega)] <;> try simp
          · rw [if_neg (by omega), if_neg (by omega)] <;> try simp
      · rw [if_neg (by omega), if_neg (by omega), if_neg (by omega), if_neg (by omega)] <;> try simp
  have := (key (n + 1) (Nat.le_refl _)).2 a b ha hb
  show Zo.At n ((List.range (n + 1)).foldl _ l) a b = _
  rw [this]
  by_cases c1 : (b = 0 ∧ a < n + 1) ∨ (a = 0 ∧ b < n + 1)
  · rw [if_pos c1]
  · rw [if_neg c1]
    unfold bfG
    rw [if_neg (by omega), if_neg (by omega)]

theorem isC_at {n i : Nat} {c : Int} {l : List Int} (hl : l.length = (n + 1) * (n + 1)) (h1 : 1 ≤ i) (hi : i ≤ n) {a b : Nat} (hb : b ≤ n) :
    Zo.At n (anL n (isC i 0 c) l) a b = if a = 0 ∧ b = i then imin (Zo.At n l 0 i) (-2 * c + 1) else if a = i ∧ b = 0 then imin (Zo.At n l i 0) (2 * c + 1) else Zo.At n l a b := by
  show Zo.At n (anL n (isC (i : Int) ((0 : Nat) : Int) c) l) a b = _
  rw [anL_two]
  have h2 : (l.set (Zo.ix n i 0) (imin (Zo.At n l i 0) (2 * c + 1))).length = (n + 1) * (n + 1) := by rw [List.length_set]; exact hl
  rw [Zo.At_set h2 (by omega) hi _ hb, Zo.At_set hl hi (by omega) _ hi, if_neg (show ¬ (0 = i ∧ i = 0) by omega), Zo.At_set hl hi (by omega) _ hb]
end Go.Proofs.Ytbnebinpemejlaa

namespace Go.Proofs.Ytbnebinpemejlaa
open Go.RowKit
open Zo (pl Bq)

theorem imin_l (x y : Int) : imin x y ≤ x := by unfold imin; omega

theorem imin_r (x y : Int) : imin x y ≤ y := by unfold imin; omega

theorem le_imin {z x y : Int} (h1 : z ≤ x) (h2 : z ≤ y) : z ≤ imin x y := by unfold imin; omega

theorem Bq.of {x : Int} (h : Zo.Vl x) : Bq x := by unfold Zo.Vl at h; unfold Bq; omega

theorem pl_back {x y k : Int} (hx : Bq x) (hy : Bq y) (h0 : -2097152 ≤ k) (h1 : k ≤ 2097152) (h : x ≤ pl y k) : pl x (-k) ≤ y := by
  unfold Bq at hx hy
  unfold pl at *
  split at h <;> split <;> omega

theorem smW_mono {p q r s : Int} (hp : Bq p) (hq : Bq q) (hr : Bq r) (hs : Bq s) (h1 : p ≤ r) (h2 : q ≤ s) : Zo.smW p q ≤ Zo.smW r s := by
  rw [Zo.smW_big hp hq, Zo.smW_big hr hs]
  unfold Bq at *
  unfold Zo.ps
  by_cases c1 : p = 1099511627776 ∨ q = 1099511627776
  · rw [if_pos c1, if_pos (by omega)]; omega
  · rw [if_neg c1]
    split <;> split <;> (try split) <;> omega

/-- What Free makes of a closed matrix is closed. -/
theorem fr_cl {n i : Nat} {z : List Int} {D : Nat → Nat → Zo.Lm} (h : Zo.Cl n z D) (h1 : 1 ≤ i) : ∃ D, Zo.Cl n (mk n (frG n i z)) D := by
  have b1 : Bq 1 := Or.inr (by omega)
  have lm : ∀ a b, a ≤ n → b ≤ n → Bq (Zo.At n z a b) := fun a b ha hb => h.lim ha hb
  have top : ∀ x, Bq x → x ≤ 1099511627776 := fun x hx => by unfold Bq at hx; omega
  have one : ∀ x, Bq x → Zo.smW x 1 = x := fun x hx => Zo.smW_one (by unfold Bq at hx; omega) (by unfold Bq at hx; omega)
  refine ⟨_, Zo.Cl.at (mk_len _ _) (fun a b ha hb => ?_) (fun a ha => ?_) (fun a ha => ?_) (fun a b k ha hb hk => ?_)⟩
  · rw [mk_at _ ha hb]
    by_cases ca : a = i <;> by_cases cb : b = i
    · rw [frG_ii ca cb]; exact b1
    · rw [frG_ib ca cb]; exact Or.inl rfl
    · rw [frG_ai ca cb]; exact lm a 0 ha (by omega)
    · rw [frG_ab ca cb]; exact lm a b ha hb
  · rw [mk_at _ ha ha]
    by_cases ca : a = i
    · exact frG_ii ca ca
    · rw [frG_ab ca ca]; exact h.one ha
  · rw [mk_at _ (by omega) ha]
    by_cases ca : a = i
    · rw [frG_ai (by omega) ca, h.one (by omega)]; omega
    · rw [frG_ab (by omega) ca]; exact h.row a ha
  · rw [mk_at _ ha hb, mk_at _ ha hk, mk_at _ hk hb]
    by_cases ca : a = i
    · by_cases cb : b = i
      · rw [frG_ii ca cb]
        by_cases ck : k = i
        · rw [frG_ii ca ck, frG_ii ck cb]; decide
        · rw [frG_ib ca ck, no_smW]; omega
      · rw [frG_ib ca cb]
        by_cases ck : k = i
        · rw [frG_ii ca ck, frG_ib ck cb, smW_no]; omega
        · rw [frG_ib ca ck, no_smW]; omega
    · by_cases cb : b = i
      · rw [frG_ai ca cb]
        by_cases ck : k = i
        · rw [frG_ai ca ck, frG_ii ck cb, one _ (lm a 0 ha (by omega))]; omega
        · rw [frG_ab ca ck, frG_ai ck cb]
          exact h.sums ha (by omega) hk
      · rw [frG_ab ca cb]
        by_cases ck : k = i
        · rw [frG_ai ca ck, frG_ib ck cb, smW_no]; exact top _ (lm a b ha hb)
        · rw [frG_ab ca ck, frG_ab ck cb]
          exact h.sums ha hb hk

theorem bf_gl_at {n i : Nat} {c : Int} {l : List Int} (hl : l.length = (n + 1) * (n + 1)) (h1 : 1 ≤ i) (hi : i ≤ n) (hv : ∀ a b, a ≤ n → b ≤ n → Bq (Zo.At n l a b)) (h0 : 0 ≤ c) (h2 : c ≤ 1048576) {a b : Nat} (ha : a ≤ n) (hb : b ≤ n) :
    Zo.At n (rlL n i (bfL n i c l)) a b = if a = i ∨ b = i then 1099511627776 else bfG n i (2 * c) l a b := by
  rw [rlL_at (by rw [bfL_len]; exact hl) hi ha hb, bfL_at hl h1 hi hv h0 h2 ha hb]

/-- From the project's closing to the reference's. -/
theorem bf_back {n i : Nat} {c : Int} {l k : List Int} {D : Nat → Nat → Zo.Lm} (hl : l.length = (n + 1) * (n + 1)) (h1 : 1 ≤ i) (hi : i ≤ n) (hv : ∀ a b, a ≤ n → b ≤ n → Zo.Vl (Zo.At n l a b)) (hd : ∀ a, a ≤ n → Zo.At n l a a = 1) (h0 : 0 ≤ c) (h2 : c ≤ 1048576)
    (hk : Zo.Cl n k D) (hle : Zo.Le n k (rlL n i (bfL n i c l))) : Zo.Le n (mk n (Zo.bxG n i (2 * c) k)) (anL n (isC i 0 c) l) := by
  have bq : ∀ a b, a ≤ n → b ≤ n → Bq (Zo.At n l a b) := fun a b ha hb => Bq.of (hv a b ha hb)
  have kq : ∀ a b, a ≤ n → b ≤ n → Bq (Zo.At n k a b) := fun a b ha hb => hk.lim ha hb
  have hg : ∀ a b, a ≤ n → b ≤ n → a ≠ i → b ≠ i → Zo.At n k a b ≤ bfG n i (2 * c) l a b := fun a b ha hb ca cb => by
    have := hle a b ha hb
    rwa [bf_gl_at hl h1 hi bq h0 h2 ha hb, if_neg (by omega)] at this
  have g0 : ∀ a, a ≤ n → a ≠ i → Zo.At n k a 0 ≤ Zo.At n l a 0 ∧ Zo.At n k a 0 ≤ pl (Zo.At n l a i) (2 * c) := fun a ha ca => by
    have g := hg a 0 ha (by omega) ca (by omega)
    unfold bfG at g
    rw [if_pos rfl] at g
    by_cases c0 : a = 0
    · subst c0
      rw [if_pos rfl] at g
      have i1 := imin_l (imin (Zo.At n l 0 0) (pl (Zo.At n l 0 i) (2 * c))) (pl (Zo.At n l i 0) (-(2 * c)))
      have i2 := imin_l (Zo.At n l 0 0) (pl (Zo.At n l 0 i) (2 * c))
      have i3 := imin_r (Zo.At n l 0 0) (pl (Zo.At n l 0 i) (2 * c))
      omega
    · rw [if_neg c0] at g
      have i2 := imin_l (Zo.At n l a 0) (pl (Zo.At n l a i) (2 * c))
      have i3 := imin_r (Zo.At n l a 0) (pl (Zo.At n l a i) (2 * c))
      omega
  have g1 : ∀ b, b ≤ n → b ≠ i → Zo.At n k 0 b ≤ Zo.At n l 0 b ∧ Zo.At n k 0 b ≤ pl (Zo.At n l i b) (-(2 * c)) := fun b hb cb => by
    have g := hg 0 b (by omega) hb (by omega) cb
    unfold bfG at g
    by_cases c0 : b = 0
    · subst c0
      rw [if_pos rfl, if_pos rfl] at g
      have i1 := imin_l (imin (Zo.At n l 0 0) (pl (Zo.At n l 0 i) (2 * c))) (pl (Zo.At n l i 0) (-(2 * c)))
      have i4 := imin_r (imin (Zo.At n l 0 0) (pl (Zo.At n l 0 i) (2 * c))) (pl (Zo.At n l i 0) (-(2 * c)))
      have i2 := imin_l (Zo.At n l 0 0) (pl (Zo.At n l 0 i) (2 * c))
      omega
    · rw [if_neg c0, if_pos rfl] at g
      have i2 := imin_l (Zo.At n l 0 b) (pl (Zo.At n l i b) (-(2 * c)))
      have i3 := imin_r (Zo.At n l 0 b) (pl (Zo.At n l i b) (-(2 * c)))
      omega
  have k0 := hk.one (show 0 ≤ n by omega)
  intro a b ha hb
  rw [mk_at _ ha hb, isC_at hl h1 hi hb]
  have ai : ∀ a, a ≤ n → a ≠ i → pl (Zo.At n k a 0) (-(2 * c)) ≤ Zo.At n l a i := fun a ha ca => pl_back (kq a 0 ha (by omega)) (bq a i ha hi) (by omega) (by omega) (g0 a ha ca).2
  have ib : ∀ b, b ≤ n → b ≠ i → pl (Zo.At n k 0 b) (2 * c) ≤ Zo.At n l i b := fun b hb cb => by
    have := pl_back (kq 0 b (by omega) hb) (bq i b hi hb) (by omega) (by omega) (g1 b hb cb).2
    rwa [Int.neg_neg] at this
  unfold Zo.bxG
  by_cases ca : a = i <;> by_cases cb : b = i
  · rw [if_pos ca, if_pos cb, if_neg (by omega), if_neg (by omega), ca, cb, hd i hi]; omega
  · rw [if_pos ca, if_neg cb, if_neg (show ¬ (a = 0 ∧ b = i) by omega)]
    by_cases c0 : b = 0
    · subst c0
      rw [if_pos ⟨ca, rfl⟩]
      refine le_imin (ib 0 hb cb) ?_
      rw [k0]; unfold pl; rw [if_neg (by omega)]; omega
    · rw [if_neg (by omega), ca]; exact ib b hb cb
  · rw [if_neg ca, if_pos cb]
    by_cases c0 : a = 0
    · subst c0
      rw [if_pos ⟨rfl, cb⟩]
      refine le_imin (ai 0 ha ca) ?_
      rw [k0]; unfold pl; rw [if_neg (by omega)]; omega
    · rw [if_neg (by omega), if_neg (by omega), cb]; exact ai a ha ca
  · rw [if_neg ca, if_neg cb, if_neg (by omega), if_neg (by omega)]
    by_cases c0 : b = 0
    · subst c0; exact (g0 a ha ca).1
    · by_cases c1 : a = 0
      · subst c1; exact (g1 b hb cb).1
      · have g := hg a b ha hb ca cb
        unfold bfG at g
        rwa [if_neg c0, if_neg c1] at g
end Go.Proofs.Ytbnebinpemejlaa

namespace Go.Proofs.Ytbnebinpemejlaa
open Go.RowKit
open Zo (pl Bq)

theorem isC_le {n i : Nat} {c : Int} {l : List Int} (hl : l.length = (n + 1) * (n + 1)) (h1 : 1 ≤ i) (hi : i ≤ n) : Zo.Le n (anL n (isC i 0 c) l) l ∧ Zo.At n (anL n (isC i 0 c) l) i 0 ≤ 2 * c + 1 ∧ Zo.At n (anL n (isC i 0 c) l) 0 i ≤ -2 * c + 1 := by
  refine ⟨fun a b ha hb => ?_, ?_, ?_⟩
  · rw [isC_at hl h1 hi hb]
    by_cases c1 : a = 0 ∧ b = i
    · rw [if_pos c1, c1.1, c1.2]; exact imin_l _ _
    · rw [if_neg c1]
      by_cases c2 : a = i ∧ b = 0
      · rw [if_pos c2, c2.1, c2.2]; exact imin_l _ _
      · rw [if_neg c2]; omega
  · rw [isC_at hl h1 hi (by omega), if_neg (by omega), if_pos ⟨rfl, rfl⟩]; exact imin_r _ _
  · rw [isC_at hl h1 hi hi, if_pos ⟨rfl, rfl⟩]; exact imin_r _ _

/-- From the reference's closing to the project's. -/
theorem bf_fwd {n i : Nat} {c : Int} {l z : List Int} {D : Nat → Nat → Zo.Lm} (hl : l.length = (n + 1) * (n + 1)) (h1 : 1 ≤ i) (hi : i ≤ n) (hv : ∀ a b, a ≤ n → b ≤ n → Zo.Vl (Zo.At n l a b)) (h0 : 0 ≤ c) (h2 : c ≤ 1048576)
    (hz : Zo.Cl n z D) (hle : Zo.Le n z (anL n (isC i 0 c) l)) : Zo.Le n (mk n (frG n i z)) (rlL n i (bfL n i c l)) := by
  have bq : ∀ a b, a ≤ n → b ≤ n → Bq (Zo.At n l a b) := fun a b ha hb => Bq.of (hv a b ha hb)
  have zq : ∀ a b, a ≤ n → b ≤ n → Bq (Zo.At n z a b) := fun a b ha hb => hz.lim ha hb
  obtain ⟨m1, m2, m3⟩ := isC_le (c := c) hl h1 hi
  have zl := hle.trans m1
  have z1 := hle i 0 hi (by omega)
  have z2 := hle 0 i (by omega) hi
  have top : ∀ x, Bq x → x ≤ 1099511627776 := fun x hx => by unfold Bq at hx; omega
  have ga : ∀ a, a ≤ n → Zo.At n z a 0 ≤ pl (Zo.At n l a i) (2 * c) := fun a ha => by
    rw [← smW_odd (bq a i ha hi) (by omega) (by omega) (by omega)]
    exact Int.le_trans (hz.sums ha (by omega) hi) (smW_mono (zq a i ha hi) (zq i 0 hi (by omega)) (bq a i ha hi) (Or.inr (by omega)) (zl a i ha hi) (by omega))
  have gb : ∀ b, b ≤ n → Zo.At n z 0 b ≤ pl (Zo.At n l i b) (-(2 * c)) := fun b hb => by
    rw [← smW_odd (bq i b hi hb) (by omega) (by omega) (by omega), Zo.smW_comm]
    exact Int.le_trans (hz.sums (by omega) hb hi) (smW_mono (zq 0 i (by omega) hi) (zq i b hi hb) (Or.inr (by omega)) (bq i b hi hb) (by omega) (zl i b hi hb))
  intro a b ha hb
  rw [mk_at _ ha hb, bf_gl_at hl h1 hi bq h0 h2 ha hb]
  by_cases ca : a = i
  · rw [if_pos (Or.inl ca)]
    by_cases cb : b = i
    · rw [frG_ii ca cb]; omega
    · rw [frG_ib ca cb]; omega
  · by_cases cb : b = i
    · rw [if_pos (Or.inr cb), frG_ai ca cb]; exact top _ (zq a 0 ha (by omega))
    · rw [if_neg (by omega), frG_ab ca cb]
      unfold bfG
      by_cases c0 : b = 0
      · subst c0
        rw [if_pos rfl]
        by_cases c1 : a = 0
        · subst c1
          rw [if_pos rfl]
          exact le_imin (le_imin (zl 0 0 ha hb) (ga 0 ha)) (gb 0 hb)
        · rw [if_neg c1]
          exact le_imin (zl a 0 ha hb) (ga a ha)
      · rw [if_neg c0]
        by_cases c1 : a = 0
        · subst c1
          rw [if_pos rfl]
          exact le_imin (zl 0 b ha hb) (gb b hb)
        · rw [if_neg c1]; exact zl a b ha hb

/-- Row and column of a clock that is a constant. -/
theorem const_row {n i : Nat} {c : Int} {z : List Int} {D : Nat → Nat → Zo.Lm} (hi : i ≤ n) (h0 : 0 ≤ c) (h2 : c ≤ 1048576) (hz : Zo.Cl n z D) (z1 : Zo.At n z i 0 ≤ 2 * c + 1) (z2 : Zo.At n z 0 i ≤ -2 * c + 1) :
    (∀ a, a ≤ n → Zo.At n z a i = pl (Zo.At n z a 0) (-(2 * c))) ∧ ∀ b, b ≤ n → Zo.At n z i b = pl (Zo.At n z 0 b) (2 * c) := by
  have zq : ∀ a b, a ≤ n → b ≤ n → Bq (Zo.At n z a b) := fun a b ha hb => hz.lim ha hb
  have e : Zo.At n z 0 i = -(2 * c) + 1 ∧ Zo.At n z i 0 = 2 * c + 1 := by
    have t := hz.sums (show 0 ≤ n by omega) (show 0 ≤ n by omega) hi
    rw [hz.one (by omega), Zo.smW_big (zq _ _ (by omega) hi) (zq _ _ hi (by omega)), if_neg (by omega)] at t
    unfold Zo.ps at t
    split at t <;> omega
  constructor
  · intro a ha
    have t1 := hz.sums ha hi (show 0 ≤ n by omega)
    have t2 := hz.sums ha (show 0 ≤ n by omega) hi
    rw [e.1, smW_odd (zq a 0 ha (by omega)) (by omega) (by omega) (by omega)] at t1
    rw [e.2, smW_odd (zq a i ha hi) (by omega) (by omega) (by omega)] at t2
    have b1 := zq a 0 ha (by omega)
    have b2 := zq a i ha hi
    unfold Bq at b1 b2
    unfold pl at *
    split <;> split at t1 <;> split at t2 <;> omega
  · intro b hb
    have t1 := hz.sums hi hb (show 0 ≤ n by omega)
    have t2 := hz.sums (show 0 ≤ n by omega) hb hi
    rw [e.2, Zo.smW_comm, smW_odd (zq 0 b (by omega) hb) (by omega) (by omega) (by omega)] at t1
    rw [e.1, Zo.smW_comm, smW_odd (zq i b hi hb) (by omega) (by omega) (by omega)] at t2
    have b1 := zq 0 b (by omega) hb
    have b2 := zq i b hi hb
    unfold Bq at b1 b2
    unfold pl at *
    split <;> split at t1 <;> split at t2 <;> omega
end Go.Proofs.Ytbnebinpemejlaa

namespace Go.Proofs.Ytbnebinpemejlaa
open Go.RowKit
open Zo (pl Bq)

theorem lv_low {x e : Int} (h : lvB x = true) (h1 : 1 ≤ x) (h0 : 0 ≤ e) (h2 : e ≤ 2097152) : lvB (pl x (-e)) = true := by
  unfold lvB at *
  unfold pl
  simp only [decide_eq_true_eq] at *
  split <;> omega

theorem lv_high {x e : Int} (h : lvB x = true) (h1 : x ≤ 1) (h0 : 0 ≤ e) (h2 : e ≤ 2097152) : lvB (pl x e) = true := by
  unfold lvB at *
  unfold pl
  simp only [decide_eq_true_eq] at *
  split <;> omega

theorem pl_wl {x k : Int} (h : Zo.Vl x) (h0 : -2097152 ≤ k) (h1 : k ≤ 2097152) : Zo.Wl (pl x k) := by
  unfold Zo.Vl at h
  unfold Zo.Wl pl
  split <;> omega

theorem imin_wl {x y : Int} (h : Zo.Wl x) (g : Zo.Wl y) : Zo.Wl (imin x y) := by
  unfold Zo.Wl imin at *
  omega

theorem be_math {n i : Nat} {c : Int} {l : List Int} (hn : n ≤ 10) (hl : l.length = (n + 1) * (n + 1)) (hc : chkE n l = 0) (h1 : 1 ≤ i) (hi : i ≤ n) (h0 : 0 ≤ c) (h2 : c ≤ 1048576) :
    cloE n (rlL n i (bfL n i c l)) = cloE n (anL n (isC i 0 c) l) ∧ (cloE n (anL n (isC i 0 c) l) = 0 → Zo.clo n (rlL n i (bfL n i c l)) = Zo.clo n (frL n i (Zo.clo n (anL n (isC i 0 c) l)))) := by
  have vl := vl_of hl (chk_64 hc).2
  have bq : ∀ a b, a ≤ n → b ≤ n → Bq (Zo.At n l a b) := fun a b ha hb => Bq.of (vl a b ha hb)
  obtain ⟨dg, _⟩ := chk_diag hc
  have hok := isC_ok (n := n) (i := i) (j := 0) (c := c) hi (by omega) h0 h2
  obtain ⟨m1, m2, m3⟩ := isC_le (c := c) hl h1 hi
  obtain ⟨m, hm⟩ : ∃ m, m = anL n (isC i 0 c) l := ⟨_, rfl⟩
  have lm : m.length = (n + 1) * (n + 1) := by rw [hm, anL_len]; exact hl
  have mv : ∀ a b, a ≤ n → b ≤ n → Zo.Wl (Zo.At n m a b) := by rw [hm]; exact an_wl hok hl fun a b ha hb => (vl a b ha hb).wl
  obtain ⟨g, hg⟩ : ∃ g, g = rlL n i (bfL n i c l) := ⟨_, rfl⟩
  have lg : g.length = (n + 1) * (n + 1) := by rw [hg, rlL_len, bfL_len]; exact hl
  have gv : ∀ a b, a ≤ n → b ≤ n → Zo.Wl (Zo.At n g a b) := by
    intro a b ha hb
    rw [hg, bf_gl_at hl h1 hi bq h0 h2 ha hb]
    split
    · exact Or.inl rfl
    · unfold bfG
      have w : ∀ a b, a ≤ n → b ≤ n → Zo.Wl (Zo.At n l a b) := fun a b ha hb => (vl a b ha hb).wl
      split
      · split
        · exact imin_wl (imin_wl (w 0 0 (by omega) (by omega)) (pl_wl (vl 0 i (by omega) hi) (by omega) (by omega))) (pl_wl (vl i 0 hi (by omega)) (by omega) (by omega))
        · exact imin_wl (w a 0 ha (by omega)) (pl_wl (vl a i ha hi) (by omega) (by omega))
      · split
        · exact imin_wl (w 0 b (by omega) hb) (pl_wl (vl i b hi hb) (by omega) (by omega))
        · exact w a b ha hb
  -- both ways
  have back : ∀ k, Zo.Le n k g → (∃ D, Zo.Cl n k D) → Zo.Le n (mk n (Zo.bxG n i (2 * c) k)) m := fun k hk ⟨D, hD⟩ => by
    rw [hm]; rw [hg] at hk; exact bf_back hl h1 hi vl dg h0 h2 hD hk
  have fwd : ∀ z, Zo.Le n z m → (∃ D, Zo.Cl n z D) → Zo.Le n (mk n (frG n i z)) g := fun z hz ⟨D, hD⟩ => by
    rw [hg]; rw [hm] at hz; exact bf_fwd hl h1 hi vl h0 h2 hD hz
  rw [← hm, ← hg]
  rw [← hm] at m2 m3
  clear hm hg
  have A : cloB n g = false → cloB n m = false ∧ Zo.Le n (mk n (Zo.bxG n i (2 * c) (Zo.clo n g))) (Zo.clo n m) := fun h => by
    have hD := Zo.Cl.of hn lg gv (cloB_iff.1 h)
    obtain ⟨D, hB⟩ := Zo.bx_cl (e := 2 * c) hD h1 (by omega) (by omega) (by omega)
    obtain ⟨o1, o2⟩ := Zo.clo_over hn lm mv hB (back _ (Zo.le_clo lg) ⟨_, hD⟩)
    exact ⟨cloB_iff.2 o1, o2⟩
  have B : cloB n m = false → cloB n g = false ∧ Zo.Le n (mk n (frG n i (Zo.clo n m))) (Zo.clo n g) := fun h => by
    have hD := Zo.Cl.of hn lm mv (cloB_iff.1 h)
    obtain ⟨D, hF⟩ := fr_cl hD h1
    obtain ⟨o1, o2⟩ := Zo.clo_over hn lg gv hF (fwd _ (Zo.le_clo lm) ⟨_, hD⟩)
    exact ⟨cloB_iff.2 o1, o2⟩
  cases hb : cloB n m
  · obtain ⟨gb, le1⟩ := B hb
    obtain ⟨_, le2⟩ := A gb
    have hZ := Zo.Cl.of hn lm mv (cloB_iff.1 hb)
    have hG := Zo.Cl.of hn lg gv (cloB_iff.1 gb)
    have lz : (Zo.clo n m).length = (n + 1) * (n + 1) := by rw [Zo.clo_length, lm]
    have gtop : ∀ a b, a ≤ n → b ≤ n → Zo.At n (Zo.clo n g) a b ≤ 1099511627776 := fun a b ha hb => hG.top ha hb
    have ab : ∀ a b, a ≤ n → b ≤ n → a ≠ i → b ≠ i → Zo.At n (Zo.clo n g) a b ≤ Zo.At n (Zo.clo n m) a b := fun a b ha hb ca cb => by
      have := le2 a b ha hb
      rw [mk_at _ ha hb] at this
      unfold Zo.bxG at this
      rwa [if_neg ca, if_neg cb] at this
    have e : Zo.clo n g = mk n (frG n i (Zo.clo n m)) := by
      refine Zo.Le.anti (by rw [Zo.clo_length, lg]) (mk_len _ _) (fun a b ha hb => ?_) le1
      rw [mk_at _ ha hb]
      by_cases ca : a = i
      · by_cases cb : b = i
        · rw [frG_ii ca cb, ca, cb, hG.one hi]; omega
        · rw [frG_ib ca cb]; exact gtop a b ha hb
      · by_cases cb : b = i
        · rw [frG_ai ca cb, cb]
          have t := hG.sums ha hi (show 0 ≤ n by omega)
          have lo := hG.row i hi
          have b1 : Bq (Zo.At n (Zo.clo n g) a 0) := hG.lim ha (by omega)
          have t2 := smW_mono b1 (hG.lim (show 0 ≤ n by omega) hi) b1 (Or.inr (by omega) : Bq 1) (Int.le_refl _) lo
          rw [Zo.smW_one (by unfold Bq at b1; omega) (by unfold Bq at b1; omega)] at t2
          have := ab a 0 ha (by omega) ca (by omega)
          omega
        · rw [frG_ab ca cb]; exact ab a b ha hb ca cb
    have cm2 := Int.le_trans (Zo.le_clo lm i 0 hi (by omega)) m2
    have cm3 := Int.le_trans (Zo.le_clo lm 0 i (by omega) hi) m3
    obtain ⟨cr1, cr2⟩ := const_row hi h0 h2 hZ cm2 cm3
    have rd : rdL (mk n (frG n i (Zo.clo n m))) = rdL (Zo.clo n m) := by
      rw [Bool.eq_iff_iff]
      constructor
      · intro h
        have lv := lv_of_all (mk_len _ _) h
        have lf : ∀ a b, a ≤ n → b ≤ n → a ≠ i → b ≠ i → lvB (Zo.At n (Zo.clo n m) a b) = true := fun a b ha hb ca cb => by
          have := lv a b ha hb
          rwa [mk_at _ ha hb, frG_ab ca cb] at this
        refine all_of_lv lz fun a b ha hb => ?_
        by_cases ca : a = i
        · by_cases cb : b = i
          · rw [ca, cb, hZ.one hi]; decide
          · rw [ca, cr2 b hb]
            exact lv_high (lf 0 b (by omega) hb (by omega) cb) (hZ.row b hb) (by omega) (by omega)
        · by_cases cb : b = i
          · rw [cb, cr1 a ha]
            exact lv_low (lf a 0 ha (by omega) ca (by omega)) (hZ.low ha) (by omega) (by omega)
          · exact lf a b ha hb ca cb
      · intro h
        have lv := lv_of_all lz h
        refine all_of_lv (mk_len _ _) fun a b ha hb => ?_
        rw [mk_at _ ha hb]
        by_cases ca : a = i
        · by_cases cb : b = i
          · rw [frG_ii ca cb]; decide
          · rw [frG_ib ca cb]; decide
        · by_cases cb : b = i
          · rw [frG_ai ca cb]; exact lv a 0 ha (by omega)
          · rw [frG_ab ca cb]; exact lv a b ha hb
    constructor
    · unfold cloE
      rw [hb, gb, e]
      unfold rdL at rd
      rw [rd]
    · intro hz
      have ck := clo_chk hn lm mv hz
      rw [e, (fr_zone hn lz ck h1 hi).1]
  · have gb : cloB n g = true := by
      cases h : cloB n g
      · rw [(A h).1] at hb; cases hb
      · rfl
    constructor
    · unfold cloE; rw [hb, gb]; rfl
    · intro hz
      unfold cloE at hz
      rw [hb] at hz
      simp at hz
end Go.Proofs.Ytbnebinpemejlaa

namespace Go.Proofs.Ytbnebinpemejlaa
open Go.RowKit

/-- What Before returns: And, then Free. -/
def beM (n i : Nat) (c : Int) (l : List Int) : List Int := Zo.clo n (anL n (isC i 0 c) l)

def beL (n i : Nat) (c : Int) (l : List Int) : List Int := Zo.clo n (frL n i (beM n i c l))

def beE (n i : Nat) (c : Int) (l : List Int) : Int := if anE n (isC i 0 c) l = 0 then frE n (beM n i c l) i else anE n (isC i 0 c) l

set_option maxHeartbeats 400000 in
theorem be_bad (N : Int) (l : List Int) (ao : Option Addr) (cap : Nat) (i c : Int) (w : World) (hA : Arg w ao l) (hc : chkE N l = 2) :
    Calls Try.prog 35 #[.agg #[.int .i64 N, .slice ao l.length cap], .int .i64 i, .int .i64 c] w (ZRes w 0 [] 2) := by
  have CK := Lib.hid fun W (h : Below w.heap.size w W) => check_as (cap := cap) W (hA.on h) hc
  generalize l.length = len at *
  obtain ⟨w0, hw0⟩ : ∃ w0, w0 = (w.alloc (.cells #[.int .i64 N, .slice ao len cap] 25)).alloc (.cells #[.int .i64 0, .slice none 0 0] 25) := ⟨_, rfl⟩
  have bx : Two w0 w.heap.size (.int .i64 N) (.slice ao len cap) := by rw [hw0]; exact (Two.made _ _ _ _).alloc _
  have rs : Two w0 (w.heap.size + 1) (.int .i64 0) (.slice none 0 0) := by
    rw [hw0]
    have := Two.made (w.alloc (.cells #[.int .i64 N, .slice ao len cap] 25)) (.int .i64 0) (.slice none 0 0) 25
    simpa using this
  have e0 : Below w.heap.size w w0 := by rw [hw0]; exact past_two (Below.refl _ _)
  have E0 := Lib.hid e0
  clear e0 hA hc
  go_enter Try.func35, Try.ntmps35
  go_wp2_with fail
  rw [← hw0]
  clear hw0
  obtain ⟨b0, b1, b2, b3⟩ := bx.facts
  go_wp2_with fail
  refine (CK.out _ E0.out).mono ?_
  rintro e w1 ⟨rfl, hb1⟩
  clear b0 b1 b2 b3
  replace rs := rs.kept hb1
  replace E0 := Lib.hid (below_on E0.out hb1)
  clear hb1 bx
  obtain ⟨b0, b1, b2, b3⟩ := rs.facts
  go_wp2_with fail
  refine bodyPost_ret (v := .tuple #[.agg #[.int .i64 0, .slice none 0 0], .int .i64 2]) (by simp [results, Try.results35, go_sem, b0, b1]) rfl (zres_bad ?_)
  exact (E0.out.setCell (by show w.heap.size ≤ w.heap.size + 1; omega) _).setCell (by show w.heap.size ≤ w.heap.size + 1; omega) _

set_option maxHeartbeats 800000 in
theorem be_out0 (n : Nat) (l : List Int) (a : Addr) (cap : Nat) (i c : Int) (w : World) (hn : n ≤ 10) (hl : l.length = (n + 1) * (n + 1)) (hR : Rd w a l) (hc : chkE n l = 0) (hi : i < 1) :
    Calls Try.prog 35 #[.agg #[.int .i64 n, .slice (some a) l.length cap], .int .i64 i, .int .i64 c] w (ZRes w 0 [] 2) := by
  obtain ⟨len, hlen⟩ : ∃ len, len = l.length := ⟨_, rfl⟩
  obtain ⟨w0, hw0⟩ : ∃ w0, w0 = (w.alloc (.cells #[.int .i64 n, .slice (some a) len cap] 25)).alloc (.cells #[.int .i64 0, .slice none 0 0] 25) := ⟨_, rfl⟩
  have bx : Two w0 w.heap.size (.int .i64 n) (.slice (some a) len cap) := by rw [hw0]; exact (Two.made _ _ _ _).alloc _
  have rs : Two w0 (w.heap.size + 1) (.int .i64 0) (.slice none 0 0) := by
    rw [hw0]
    have := Two.made (w.alloc (.cells #[.int .i64 n, .slice (some a) len cap] 25)) (.int .i64 0) (.slice none 0 0) 25
    simpa using this
  have z0 : w0.heap.size = w.heap.size + 2 := by rw [hw0]; simp
  have e0 : Below w.heap.size w w0 := by rw [hw0]; exact past_two (Below.refl _ _)
  have R0 := hR.on e0
  have CK : Hid (∀ W, Rd W a l → Calls Try.prog 18 #[.agg #[.int .i64 n, .slice (some a) len cap]] W (Made (.int .i64 0) W)) := Lib.hid fun W h => by have := check_any n l a cap W hn hl h; rw [hc, ← hlen] at this; exact this
  have CP : Hid (∀ W, Rd W a l → Calls Try.prog 66 #[.agg #[.int .i64 n, .slice (some a) len cap]] W (fun e w' => ∃ g c, e = .returned (.agg #[.int .i64 n, .slice (some ⟨g, 0, none⟩) len c]) ∧ W.heap.size ≤ g ∧ Own w' g c l ∧ Below W.heap.size W w')) := Lib.hid fun W h => by have := copied_any n l a cap W (by rw [hl]; exact dsq_pos n) (by rw [hl]; have := dsq_le hn; omega) h; rw [← hlen] at this; exact this
  have HR := Lib.hid R0
  have HL := Lib.hid hl
  have HLn := Lib.hid hlen
  have E0 := Lib.hid e0
  rw [← hlen]
  clear hR R0 hl hlen hc e0
  go_enter Try.func35, Try.ntmps35
  go_wp2_with fail
  rw [← hw0]
  clear hw0
  obtain ⟨b0, b1, b2, b3⟩ := bx.facts
  go_wp2_with fail
  refine (CK.out _ HR.out).mono ?_
  rintro e w1 ⟨rfl, hb1⟩
  clear b0 b1 b2 b3
  replace bx := bx.kept hb1
  replace rs := rs.kept hb1
  have HR1 := Lib.hid (HR.out.on hb1)
  have E1 := Lib.hid (below_on E0.out hb1)
  have z1 := hb1.size
  clear hb1 HR E0
  obtain ⟨b0, b1, b2, b3⟩ := bx.facts
  clear b0 b1 b2 b3
  obtain ⟨b0, b1, b2, b3⟩ := rs.facts
  obtain ⟨c0, c1, _, _⟩ := bx.facts
  go_wp2_with fail
  refine bodyPost_ret (v := .tuple #[.agg #[.int .i64 0, .slice none 0 0], .int .i64 2]) (by simp [results, Try.results35, go_sem, b0, b1]) rfl (zres_bad ?_)
  exact (E1.out.setCell (by show w.heap.size ≤ w.heap.size + 1; omega) _).setCell (by show w.heap.size ≤ w.heap.size + 1; omega) _

set_option maxHeartbeats 800000 in
theorem be_out1 (n : Nat) (l : List Int) (a : Addr) (cap : Nat) (i c : Int) (w : World) (hn : n ≤ 10) (hl : l.length = (n + 1) * (n + 1)) (hR : Rd w a l) (hc : chkE n l = 0) (h1 : ¬ i < 1) (h2 : (n : Int) < i) :
    Calls Try.prog 35 #[.agg #[.int .i64 n, .slice (some a) l.length cap], .int .i64 i, .int .i64 c] w (ZRes w 0 [] 2) := by
  obtain ⟨len, hlen⟩ : ∃ len, len = l.length := ⟨_, rfl⟩
  obtain ⟨w0, hw0⟩ : ∃ w0, w0 = (w.alloc (.cells #[.int .i64 n, .slice (some a) len cap] 25)).alloc (.cells #[.int .i64 0, .slice none 0 0] 25) := ⟨_, rfl⟩
  have bx : Two w0 w.heap.size (.int .i64 n) (.slice (some a) len cap) := by rw [hw0]; exact (Two.made _ _ _ _).alloc _
  have rs : Two w0 (w.heap.size + 1) (.int .i64 0) (.slice none 0 0) := by
    rw [hw0]
    have := Two.made (w.alloc (.cells #[.int .i64 n, .slice (some a) len cap] 25)) (.int .i64 0) (.slice none 0 0) 25
    simpa using this
  have z0 : w0.heap.size = w.heap.size + 2 := by rw [hw0]; simp
  have e0 : Below w.heap.size w w0 := by rw [hw0]; exact past_two (Below.refl _ _)
  have R0 := hR.on e0
  have CK : Hid (∀ W, Rd W a l → Calls Try.prog 18 #[.agg #[.int .i64 n, .slice (some a) len cap]] W (Made (.int .i64 0) W)) := Lib.hid fun W h => by have := check_any n l a cap W hn hl h; rw [hc, ← hlen] at this; exact this
  have CP : Hid (∀ W, Rd W a l → Calls Try.prog 66 #[.agg #[.int .i64 n, .slice (some a) len cap]] W (fun e w' => ∃ g c, e = .returned (.agg #[.int .i64 n, .slice (some ⟨g, 0, none⟩) len c]) ∧ W.heap.size ≤ g ∧ Own w' g c l ∧ Below W.heap.size W w')) := Lib.hid fun W h => by have := copied_any n l a cap W (by rw [hl]; exact dsq_pos n) (by rw [hl]; have := dsq_le hn; omega) h; rw [← hlen] at this; exact this
  have HR := Lib.hid R0
  have HL := Lib.hid hl
  have HLn := Lib.hid hlen
  have E0 := Lib.hid e0
  rw [← hlen]
  clear hR R0 hl hlen hc e0
  go_enter Try.func35, Try.ntmps35
  go_wp2_with fail
  rw [← hw0]
  clear hw0
  obtain ⟨b0, b1, b2, b3⟩ := bx.facts
  go_wp2_with fail
  refine (CK.out _ HR.out).mono ?_
  rintro e w1 ⟨rfl, hb1⟩
  clear b0 b1 b2 b3
  replace bx := bx.kept hb1
  replace rs := rs.kept hb1
  have HR1 := Lib.hid (HR.out.on hb1)
  have E1 := Lib.hid (below_on E0.out hb1)
  have z1 := hb1.size
  clear hb1 HR E0
  obtain ⟨b0, b1, b2, b3⟩ := bx.facts
  clear b0 b1 b2 b3
  obtain ⟨b0, b1, b2, b3⟩ := rs.facts
  obtain ⟨c0, c1, _, _⟩ := bx.facts
  go_wp2_with fail
  refine bodyPost_ret (v := .tuple #[.agg #[.int .i64 0, .slice none 0 0], .int .i64 2]) (by simp [results, Try.results35, go_sem, b0, b1]) rfl (zres_bad ?_)
  exact (E1.out.setCell (by show w.heap.size ≤ w.heap.size + 1; omega) _).setCell (by show w.heap.size ≤ w.heap.size + 1; omega) _

set_option maxHeartbeats 800000 in
theorem be_out2 (n : Nat) (l : List Int) (a : Addr) (cap : Nat) (i c : Int) (w : World) (hn : n ≤ 10) (hl : l.length = (n + 1) * (n + 1)) (hR : Rd w a l) (hc : chkE n l = 0) (h1 : ¬ i < 1) (h2 : ¬ (n : Int) < i) (h3 : cnB c = false) :
    Calls Try.prog 35 #[.agg #[.int .i64 n, .slice (some a) l.length cap], .int .i64 i, .int .i64 c] w (ZRes w 0 [] 2) := by
  have p := fun W => constant_any c W
  rw [h3] at p
  have CN := Lib.hid p
  clear p h3
  obtain ⟨len, hlen⟩ : ∃ len, len = l.length := ⟨_, rfl⟩
  obtain ⟨w0, hw0⟩ : ∃ w0, w0 = (w.alloc (.cells #[.int .i64 n, .slice (some a) len cap] 25)).alloc (.cells #[.int .i64 0, .slice none 0 0] 25) := ⟨_, rfl⟩
  have bx : Two w0 w.heap.size (.int .i64 n) (.slice (some a) len cap) := by rw [hw0]; exact (Two.made _ _ _ _).alloc _
  have rs : Two w0 (w.heap.size + 1) (.int .i64 0) (.slice none 0 0) := by
    rw [hw0]
    have := Two.made (w.alloc (.cells #[.int .i64 n, .slice (some a) len cap] 25)) (.int .i64 0) (.slice none 0 0) 25
    simpa using this
  have z0 : w0.heap.size = w.heap.size + 2 := by rw [hw0]; simp
  have e0 : Below w.heap.size w w0 := by rw [hw0]; exact past_two (Below.refl _ _)
  have R0 := hR.on e0
  have CK : Hid (∀ W, Rd W a l → Calls Try.prog 18 #[.agg #[.int .i64 n, .slice (some a) len cap]] W (Made (.int .i64 0) W)) := Lib.hid fun W h => by have := check_any n l a cap W hn hl h; rw [hc, ← hlen] at this; exact this
  have CP : Hid (∀ W, Rd W a l → Calls Try.prog 66 #[.agg #[.int .i64 n, .slice (some a) len cap]] W (fun e w' => ∃ g c, e = .returned (.agg #[.int .i64 n, .slice (some ⟨g, 0, none⟩) len c]) ∧ W.heap.size ≤ g ∧ Own w' g c l ∧ Below W.heap.size W w')) := Lib.hid fun W h => by have := copied_any n l a cap W (by rw [hl]; exact dsq_pos n) (by rw [hl]; have := dsq_le hn; omega) h; rw [← hlen] at this; exact this
  have HR := Lib.hid R0
  have HL := Lib.hid hl
  have HLn := Lib.hid hlen
  have E0 := Lib.hid e0
  rw [← hlen]
  clear hR R0 hl hlen hc e0
  go_enter Try.func35, Try.ntmps35
  go_wp2_with fail
  rw [← hw0]
  clear hw0
  obtain ⟨b0, b1, b2, b3⟩ := bx.facts
  go_wp2_with fail
  refine (CK.out _ HR.out).mono ?_
  rintro e w1 ⟨rfl, hb1⟩
  clear b0 b1 b2 b3
  replace bx := bx.kept hb1
  replace rs := rs.kept hb1
  have HR1 := Lib.hid (HR.out.on hb1)
  have E1 := Lib.hid (below_on E0.out hb1)
  have z1 := hb1.size
  clear hb1 HR E0
  obtain ⟨b0, b1, b2, b3⟩ := bx.facts
  go_wp2_with fail
  refine (CN.out _).mono ?_
  rintro e w2 ⟨rfl, rfl⟩
  clear b0 b1 b2 b3
  obtain ⟨b0, b1, b2, b3⟩ := rs.facts
  obtain ⟨c0, c1, _, _⟩ := bx.facts
  go_wp2_with fail
  refine bodyPost_ret (v := .tuple #[.agg #[.int .i64 0, .slice none 0 0], .int .i64 2]) (by simp [results, Try.results35, go_sem, b0, b1]) rfl (zres_bad ?_)
  exact (E1.out.setCell (by show w.heap.size ≤ w.heap.size + 1; omega) _).setCell (by show w.heap.size ≤ w.heap.size + 1; omega) _

set_option maxHeartbeats 4000000 in
theorem be_any (n : Nat) (l : List Int) (a : Addr) (cap : Nat) (i : Nat) (c : Int) (w : World) (hn : n ≤ 10) (hl : l.length = (n + 1) * (n + 1)) (hR : Rd w a l) (hc : chkE n l = 0) (hi1 : 1 ≤ i) (hi2 : i ≤ n) (hcn : cnB c = true) :
    Calls Try.prog 35 #[.agg #[.int .i64 n, .slice (some a) l.length cap], .int .i64 i, .int .i64 c] w (ZRes w n (beL n i c l) (beE n i c l)) := by
  have p := fun W => constant_any c W
  rw [hcn] at p
  have CN := Lib.hid p
  have c0 : 0 ≤ c ∧ c ≤ 1048576 := by unfold cnB at hcn; simpa using hcn
  have IS := Lib.hid fun W => is_any (i : Int) 0 c W c0.1 c0.2
  have AN0 : Hid (∀ (W : World) (q : Nat), Rd W a l → Rd3 W ⟨q, 0, none⟩ (isC i 0 c) → Calls Try.prog 25 #[.agg #[.int .i64 n, .slice (some a) l.length cap], .slice (some ⟨q, 0, none⟩) (isC i 0 c).length 2] W (ZRes W n (beM n i c l) (anE n (isC i 0 c) l))) := Lib.hid fun W q h hd => an_any n l a cap (isC i 0 c) (some ⟨q, 0, none⟩) ⟨q, 0, none⟩ 2 W hn hl h hc hd (by simp [isC]) (fun _ => rfl)
  clear p hcn c0
  obtain ⟨len, hlen⟩ : ∃ len, len = l.length := ⟨_, rfl⟩
  obtain ⟨w0, hw0⟩ : ∃ w0, w0 = (w.alloc (.cells #[.int .i64 n, .slice (some a) len cap] 25)).alloc (.cells #[.int .i64 0, .slice none 0 0] 25) := ⟨_, rfl⟩
  have bx : Two w0 w.heap.size (.int .i64 n) (.slice (some a) len cap) := by rw [hw0]; exact (Two.made _ _ _ _).alloc _
  have rs : Two w0 (w.heap.size + 1) (.int .i64 0) (.slice none 0 0) := by
    rw [hw0]
    have := Two.made (w.alloc (.cells #[.int .i64 n, .slice (some a) len cap] 25)) (.int .i64 0) (.slice none 0 0) 25
    simpa using this
  have z0 : w0.heap.size = w.heap.size + 2 := by rw [hw0]; simp
  have e0 : Below w.heap.size w w0 := by rw [hw0]; exact past_two (Below.refl _ _)
  have R0 := hR.on e0
  have CK : Hid (∀ W, Rd W a l → Calls Try.prog 18 #[.agg #[.int .i64 n, .slice (some a) len cap]] W (Made (.int .i64 0) W)) := Lib.hid fun W h => by have := check_any n l a cap W hn hl h; rw [hc, ← hlen] at this; exact this
  have CP : Hid (∀ W, Rd W a l → Calls Try.prog 66 #[.agg #[.int .i64 n, .slice (some a) len cap]] W (fun e w' => ∃ g c, e = .returned (.agg #[.int .i64 n, .slice (some ⟨g, 0, none⟩) len c]) ∧ W.heap.size ≤ g ∧ Own w' g c l ∧ Below W.heap.size W w')) := Lib.hid fun W h => by have := copied_any n l a cap W (by rw [hl]; exact dsq_pos n) (by rw [hl]; have := dsq_le hn; omega) h; rw [← hlen] at this; exact this
  have HR := Lib.hid R0
  have HL := Lib.hid hl
  have HLn := Lib.hid hlen
  have E0 := Lib.hid e0
  have AN : Hid (∀ (W : World) (q : Nat), Rd W a l → Rd3 W ⟨q, 0, none⟩ (isC i 0 c) → Calls Try.prog 25 #[.agg #[.int .i64 n, .slice (some a) len cap], .slice (some ⟨q, 0, none⟩) (isC i 0 c).length 2] W (ZRes W n (beM n i c l) (anE n (isC i 0 c) l))) := by rw [hlen]; exact AN0
  clear AN0
  rw [← hlen]
  clear hR R0 hl hlen hc e0
  by_cases h1 : anE n (isC i 0 c) l = 0
  · by_cases h2 : frE n (beM n i c l) i = 0
    · have HBE := Lib.hid (show beE n i c l = frE n (beM n i c l) i by unfold beE; rw [if_pos h1])
      have H1 := Lib.hid h1
      have H2 := Lib.hid h2
      have FR := Lib.hid fun (W : World) (g c5 : Nat) (hA : Own W g c5 (beM n i c l)) => fr_gen n (beM n i c l) (some ⟨g, 0, none⟩) c5 i W hA.arg
      have HBL := Lib.hid (show beL n i c l = Zo.clo n (frL n i (beM n i c l)) from rfl)
      generalize beL n i c l = BL at *
      generalize (isC (i : Int) 0 c) = cs at *
      generalize beM n i c l = M at *
      clear h1 h2
      go_enter Try.func35, Try.ntmps35
      go_wp2_with fail
      rw [← hw0]
      clear hw0
      obtain ⟨b0, b1, b2, b3⟩ := bx.facts
      go_wp2_with fail
      refine (CK.out _ HR.out).mono ?_
      rintro e w1 ⟨rfl, hb1⟩
      clear b0 b1 b2 b3
      replace bx := bx.kept hb1
      replace rs := rs.kept hb1
      have HR1 := Lib.hid (HR.out.on hb1)
      have E1 := Lib.hid (below_on E0.out hb1)
      have z1 := hb1.size
      clear hb1 HR E0
      obtain ⟨b0, b1, b2, b3⟩ := bx.facts
      go_wp2_with fail
      refine (CN.out _).mono ?_
      rintro e w2' ⟨rfl, rfl⟩
      go_wp2_with fail
      have s1 : Below w2'.heap.size w2' w2'.drew := (Below.refl _ _).drew
      go_region_with (first | (go_at_call 88; refine (IS.out _).mono ?_; rintro e w6 ⟨q, rfl, hd, hb6⟩; have s6 := below_on s1 hb6; obtain ⟨b0, b1, b2, b3⟩ := (bx.kept s6).facts) | (go_at_call 25; refine (AN.out _ _ (HR1.out.on s6) hd).mono ?_; intro e w7 hz; obtain ⟨g, c5, rfl, hg, ho, hb7⟩ := hz.ok H1.out; have s7 := below_on s6 hb7; obtain ⟨b0, b1, b2, b3⟩ := (bx.kept s7).facts))
      all_goals
        have rs7 := rs.kept s7
        have bx7 := bx.kept s7
        have E7 := Lib.hid (below_on E1.out s7)
        have z6 := s6.size
        have z8 := rs.lt
        obtain ⟨w8, hw8⟩ : ∃ w8, w8 = (w7.setCell ⟨w.heap.size, 0, none⟩ (.int .i64 n)).setCell ⟨w.heap.size, 1, none⟩ (.slice (some ⟨g, 0, none⟩) M.length c5) := ⟨_, rfl⟩
        have bx8 : Two w8 w.heap.size (.int .i64 n) (.slice (some ⟨g, 0, none⟩) M.length c5) := by rw [hw8]; exact bx7.put _ _
        have rs8 : Two w8 (w.heap.size + 1) (.int .i64 0) (.slice none 0 0) := by rw [hw8]; exact rs7.aside (by omega) _ _
        have O8 := Lib.hid (show Own w8 g c5 M by rw [hw8]; exact put_far ho (by omega) _ _)
        have E8 := Lib.hid (show Below w.heap.size w w8 by rw [hw8]; exact (E7.out.setCell (by show w.heap.size ≤ w.heap.size; omega) _).setCell (by show w.heap.size ≤ w.heap.size; omega) _)
        have HW8 := Lib.hid hw8
        clear hw8 ho hd hb6 hb7 b0 b1 b2 b3 hz
        obtain ⟨b0, b1, b2, b3⟩ := bx7.facts
        go_wp2_with fail
        rw [← HW8.out]
        clear b0 b1 b2 b3
        obtain ⟨b0, b1, b2, b3⟩ := bx8.facts
        go_wp2_with fail
        refine (FR.out _ _ _ O8.out).mono ?_
        intro e w9 hz9
        obtain ⟨g9, c9, rfl, hg9, ho9, hb9⟩ := hz9.ok H2.out
        have rs9 := rs8.kept hb9
        obtain ⟨r0, r1, r2, r3⟩ := rs9.facts
        have E9 := Lib.hid (below_on E8.out hb9)
        have z9 := rs8.lt
        clear b0 b1 b2 b3
        go_wp2_with fail
        refine bodyPost_ret (v := .tuple #[.agg #[.int .i64 n, .slice (some ⟨g9, 0, none⟩) (Zo.clo n (frL n i M)).length c9], .int .i64 0]) (by simp [results, Try.results35, go_sem, r0, r1]) rfl ⟨(E9.out.setCell (by show w.heap.size ≤ w.heap.size + 1; omega) _).setCell (by show w.heap.size ≤ w.heap.size + 1; omega) _, Or.inl ⟨by rw [HBE.out]; exact H2.out, g9, c9, by rw [HBL.out], by omega, ?_⟩⟩
        rw [HBL.out]
        exact put_far ho9 (by omega) _ _
    · have HBE := Lib.hid (show beE n i c l = frE n (beM n i c l) i by unfold beE; rw [if_pos h1])
      have H1 := Lib.hid h1
      have H2 := Lib.hid h2
      have FR := Lib.hid fun (W : World) (g c5 : Nat) (hA : Own W g c5 (beM n i c l)) => fr_gen n (beM n i c l) (some ⟨g, 0, none⟩) c5 i W hA.arg
      have HBL := Lib.hid (show beL n i c l = Zo.clo n (frL n i (beM n i c l)) from rfl)
      generalize beL n i c l = BL at *
      generalize (isC (i : Int) 0 c) = cs at *
      generalize beM n i c l = M at *
      generalize frE n M i = er at *
      clear h1 h2
      go_enter Try.func35, Try.ntmps35
      go_wp2_with fail
      rw [← hw0]
      clear hw0
      obtain ⟨b0, b1, b2, b3⟩ := bx.facts
      go_wp2_with fail
      refine (CK.out _ HR.out).mono ?_
      rintro e w1 ⟨rfl, hb1⟩
      clear b0 b1 b2 b3
      replace bx := bx.kept hb1
      replace rs := rs.kept hb1
      have HR1 := Lib.hid (HR.out.on hb1)
      have E1 := Lib.hid (below_on E0.out hb1)
      have z1 := hb1.size
      clear hb1 HR E0
      obtain ⟨b0, b1, b2, b3⟩ := bx.facts
      go_wp2_with fail
      refine (CN.out _).mono ?_
      rintro e w2' ⟨rfl, rfl⟩
      go_wp2_with fail
      have s1 : Below w2'.heap.size w2' w2'.drew := (Below.refl _ _).drew
      go_region_with (first | (go_at_call 88; refine (IS.out _).mono ?_; rintro e w6 ⟨q, rfl, hd, hb6⟩; have s6 := below_on s1 hb6; obtain ⟨b0, b1, b2, b3⟩ := (bx.kept s6).facts) | (go_at_call 25; refine (AN.out _ _ (HR1.out.on s6) hd).mono ?_; intro e w7 hz; obtain ⟨g, c5, rfl, hg, ho, hb7⟩ := hz.ok H1.out; have s7 := below_on s6 hb7; obtain ⟨b0, b1, b2, b3⟩ := (bx.kept s7).facts))
      all_goals
        have rs7 := rs.kept s7
        have bx7 := bx.kept s7
        have E7 := Lib.hid (below_on E1.out s7)
        have z6 := s6.size
        have z8 := rs.lt
        obtain ⟨w8, hw8⟩ : ∃ w8, w8 = (w7.setCell ⟨w.heap.size, 0, none⟩ (.int .i64 n)).setCell ⟨w.heap.size, 1, none⟩ (.slice (some ⟨g, 0, none⟩) M.length c5) := ⟨_, rfl⟩
        have bx8 : Two w8 w.heap.size (.int .i64 n) (.slice (some ⟨g, 0, none⟩) M.length c5) := by rw [hw8]; exact bx7.put _ _
        have rs8 : Two w8 (w.heap.size + 1) (.int .i64 0) (.slice none 0 0) := by rw [hw8]; exact rs7.aside (by omega) _ _
        have O8 := Lib.hid (show Own w8 g c5 M by rw [hw8]; exact put_far ho (by omega) _ _)
        have E8 := Lib.hid (show Below w.heap.size w w8 by rw [hw8]; exact (E7.out.setCell (by show w.heap.size ≤ w.heap.size; omega) _).setCell (by show w.heap.size ≤ w.heap.size; omega) _)
        have HW8 := Lib.hid hw8
        clear hw8 ho hd hb6 hb7 b0 b1 b2 b3 hz
        obtain ⟨b0, b1, b2, b3⟩ := bx7.facts
        go_wp2_with fail
        rw [← HW8.out]
        clear b0 b1 b2 b3
        obtain ⟨b0, b1, b2, b3⟩ := bx8.facts
        go_wp2_with fail
        refine (FR.out _ _ _ O8.out).mono ?_
        intro e w9 hz9
        obtain ⟨rfl, hb9⟩ := hz9.no H2.out
        have rs9 := rs8.kept hb9
        obtain ⟨r0, r1, r2, r3⟩ := rs9.facts
        have E9 := Lib.hid (below_on E8.out hb9)
        have z9 := rs8.lt
        clear b0 b1 b2 b3
        go_wp2_with fail
        refine bodyPost_ret (v := .tuple #[.agg #[.int .i64 0, .slice none 0 0], .int .i64 er]) (by simp [results, Try.results35, go_sem, r0, r1]) rfl ⟨(E9.out.setCell (by show w.heap.size ≤ w.heap.size + 1; omega) _).setCell (by show w.heap.size ≤ w.heap.size + 1; omega) _, Or.inr ⟨by rw [HBE.out]; exact H2.out, by rw [HBE.out]⟩⟩
  · have HBE := Lib.hid (show beE n i c l = anE n (isC i 0 c) l by unfold beE; rw [if_neg h1])
    have H1 := Lib.hid h1
    generalize anE n (isC i 0 c) l = er at *
    have E1B : (er != 0) = true := by simpa using h1
    generalize (isC (i : Int) 0 c) = cs at *
    clear h1
    go_enter Try.func35, Try.ntmps35
    go_wp2_with fail
    rw [← hw0]
    clear hw0
    obtain ⟨b0, b1, b2, b3⟩ := bx.facts
    go_wp2_with fail
    refine (CK.out _ HR.out).mono ?_
    rintro e w1 ⟨rfl, hb1⟩
    clear b0 b1 b2 b3
    replace bx := bx.kept hb1
    replace rs := rs.kept hb1
    have HR1 := Lib.hid (HR.out.on hb1)
    have E1 := Lib.hid (below_on E0.out hb1)
    have z1 := hb1.size
    clear hb1 HR E0
    obtain ⟨b0, b1, b2, b3⟩ := bx.facts
    go_wp2_with fail
    refine (CN.out _).mono ?_
    rintro e w2' ⟨rfl, rfl⟩
    go_wp2_with fail
    have s1 : Below w2'.heap.size w2' w2'.drew := (Below.refl _ _).drew
    go_region_with (first | (go_at_call 88; refine (IS.out _).mono ?_; rintro e w6 ⟨q, rfl, hd, hb6⟩; have s6 := below_on s1 hb6; obtain ⟨b0, b1, b2, b3⟩ := (bx.kept s6).facts) | (go_at_call 25; refine (AN.out _ _ (HR1.out.on s6) hd).mono ?_; intro e w7 hz; obtain ⟨rfl, hb7⟩ := hz.no H1.out; have s7 := below_on s6 hb7; obtain ⟨b0, b1, b2, b3⟩ := (bx.kept s7).facts))
    all_goals
      have rs7 := rs.kept s7
      obtain ⟨r0, r1, r2, r3⟩ := rs7.facts
      have E7 := Lib.hid (below_on E1.out s7)
      go_wp2_with fail
      refine bodyPost_ret (v := .tuple #[.agg #[.int .i64 0, .slice none 0 0], .int .i64 er]) (by simp [results, Try.results35, go_sem, r0, r1]) rfl ⟨?_, Or.inr ⟨by rw [HBE.out]; exact H1.out, by rw [HBE.out]⟩⟩
      exact (((E7.out.setCell (by show w.heap.size ≤ w.heap.size; omega) _).setCell (by show w.heap.size ≤ w.heap.size; omega) _).setCell (by show w.heap.size ≤ w.heap.size + 1; omega) _).setCell (by show w.heap.size ≤ w.heap.size + 1; omega) _

def beG (N : Int) (l : List Int) (i c : Int) : Int := if chkE N l = 0 ∧ 1 ≤ i ∧ i ≤ N ∧ cnB c = true then beE N.toNat i.toNat c l else 2

theorem be_gen (N : Int) (l : List Int) (ao : Option Addr) (cap : Nat) (i c : Int) (w : World) (hA : Arg w ao l) :
    Calls Try.prog 35 #[.agg #[.int .i64 N, .slice ao l.length cap], .int .i64 i, .int .i64 c] w (ZRes w N (beL N.toNat i.toNat c l) (beG N l i c)) := by
  by_cases hc : chkE N l = 0
  · obtain ⟨n, rfl, hn, hl, hne⟩ := chk_ok hc
    obtain ⟨a, rfl, hR⟩ := hA hne
    by_cases h1 : i < 1
    · exact (be_out0 n l a cap i c w hn hl hR hc h1).mono fun e w' h => h.bad (by unfold beG; rw [if_neg (by omega)])
    by_cases h2 : (n : Int) < i
    · exact (be_out1 n l a cap i c w hn hl hR hc h1 h2).mono fun e w' h => h.bad (by unfold beG; rw [if_neg (by omega)])
    cases h3 : cnB c
    · exact (be_out2 n l a cap i c w hn hl hR hc h1 h2 h3).mono fun e w' h => h.bad (by unfold beG; rw [h3, if_neg (by simp)])
    obtain ⟨k, rfl⟩ : ∃ k : Nat, i = k := ⟨i.toNat, by omega⟩
    have := be_any n l a cap k c w hn hl hR hc (by omega) (by omega) h3
    rw [show beG (n : Int) l (k : Int) c = beE n k c l by unfold beG; rw [if_pos ⟨hc, by omega, by omega, h3⟩]; rfl]
    exact this
  · exact (be_bad N l ao cap i c w hA (chk_two hc)).mono fun e w' h => h.bad (by unfold beG; rw [if_neg (fun x => hc x.1)])
end Go.Proofs.Ytbnebinpemejlaa

namespace Go.Proofs.Ytbnebinpemejlaa
open Go.RowKit

theorem bfL_64 {n i : Nat} {c : Int} {l : List Int} (h : Zo.A64 l) : Zo.A64 (bfL n i c l) :=
  fold_64 (fun _ _ h => Zo.A64.min_ (Zo.A64.min_ h _ _ _ _ (Zo.smW_in _ _) _) _ _ _ _ (Zo.smW_in _ _) _) h _

theorem enter_be (args : Array Value) (W : World) : (callFunc 90 args).run Try.prog W = .ok (.enter 90 args) W := by go_simp

theorem be_one {n i : Nat} {c : Int} {l : List Int} (hn : n ≤ 10) (hl : l.length = (n + 1) * (n + 1)) (hc : chkE n l = 0) (h1 : 1 ≤ i) (hi : i ≤ n) (h0 : 0 ≤ c) (h2 : c ≤ 1048576) :
    beE n i c l = cloE n (rlL n i (bfL n i c l)) ∧ (beE n i c l = 0 → beL n i c l = Zo.clo n (rlL n i (bfL n i c l))) := by
  obtain ⟨e1, e2⟩ := be_math hn hl hc h1 hi h0 h2
  have hok := isC_ok (n := n) (i := i) (j := 0) (c := c) hi (by omega) h0 h2
  have lm : (anL n (isC i 0 c) l).length = (n + 1) * (n + 1) := by rw [anL_len]; exact hl
  have mv : ∀ a b, a ≤ n → b ≤ n → Zo.Wl (Zo.At n (anL n (isC i 0 c) l) a b) := an_wl hok hl (wl_of hl (chk_64 hc).2)
  have ha : anE n (isC i 0 c) l = cloE n (anL n (isC i 0 c) l) := anE_ok hok
  by_cases hz : cloE n (anL n (isC i 0 c) l) = 0
  · have hk := clo_chk hn lm mv hz
    have lz : (Zo.clo n (anL n (isC i 0 c) l)).length = (n + 1) * (n + 1) := by rw [Zo.clo_length, lm]
    have hf := (fr_zone hn lz hk h1 hi).2
    have hE : beE n i c l = 0 := by
      unfold beE beM
      rw [ha, if_pos hz]
      unfold frE
      rw [if_pos ⟨hk, by omega, by omega⟩]
      exact hf
    exact ⟨by rw [hE, e1, hz], fun _ => by unfold beL beM; exact (e2 hz).symm⟩
  · have hE : beE n i c l = cloE n (anL n (isC i 0 c) l) := by
      unfold beE; rw [ha, if_neg hz]
    exact ⟨by rw [hE, e1], fun h => absurd (hE ▸ h) hz⟩

theorem ch_be (N : Int) (l : List Int) (ao : Option Addr) (cap : Nat) (i c : Int) (p q : Addr) (w : World) (hA : Arg w ao l) (hp : w.cell? p = some (.int .i64 c)) (hq : w.cell? q = some (.int .i64 i)) (al : Bool) (hal : al = (ckB N i 1 && cnB c)) :
    Calls Try.prog 76 #[.agg #[.int .i64 N, .slice ao l.length cap], .bool al, .func (.func 90) #[] #[.pointer (some p), .pointer (some q)]] w (ZRes w N (beL N.toNat i.toNat c l) (beG N l i c)) := by
  by_cases hc : chkE N l = 0
  · cases al
    · refine (changed_bad N l ao cap false _ w hA (Or.inr rfl)).mono fun e w' h => h.bad ?_
      unfold beG; rw [if_neg]
      intro ⟨_, h1, h2, h3⟩
      rw [h3] at hal
      unfold ckB at hal; simp at hal; omega
    · obtain ⟨n, rfl, hn, hl, hne⟩ := chk_ok hc
      have hk : ckB n i 1 = true := by cases h : ckB n i 1 <;> simp_all
      have hcn : cnB c = true := by cases h : cnB c <;> simp_all
      obtain ⟨k, rfl, hkn, hk1⟩ := ck_nat hk (by omega)
      have hcc : 0 ≤ c ∧ c ≤ 1048576 := by unfold cnB at hcn; simpa using hcn
      have := changed_ok n l (rlL n k (bfL n k c l)) ao cap 90 #[.pointer (some p), .pointer (some q)] w hA hn hl hc (rlL_64 (bfL_64 (chk_64 hc).1)) enter_be (fun W b hb hle hM => be1_any b n k c p q l w W hn hkn hcc.1 hcc.2 hM hp hq hb hle)
      obtain ⟨f1, f2⟩ := be_one hn hl hc (i := k) (c := c) (by omega) hkn hcc.1 hcc.2
      rw [← f1] at this
      rw [show beG (n : Int) l k c = beE n k c l by unfold beG; rw [if_pos ⟨hc, by omega, by omega, hcn⟩]; rfl]
      exact this.mono fun e w' h => h.swap fun h0 => (f2 h0).symm
  · refine (changed_bad N l ao cap _ _ w hA (Or.inl (by unfold okB; simpa using hc))).mono fun e w' h => h.bad ?_
    unfold beG; rw [if_neg (fun x => hc x.1)]

set_option maxRecDepth 100000 in
set_option maxHeartbeats 4000000 in
theorem zbe_gen (N : Int) (l : List Int) (ao : Option Addr) (cap : Nat) (i c : Int) (w : World) (hA : Arg w ao l) :
    Calls Try.prog 34 #[.agg #[.int .i64 N, .slice ao l.length cap], .int .i64 i, .int .i64 c] w (ZRes w N (beL N.toNat i.toNat c l) (beG N l i c)) := by
  have CH := Lib.hid (show ∀ W p q al, Below w.heap.size w W → W.cell? p = some (.int .i64 c) → W.cell? q = some (.int .i64 i) → al = (ckB N i 1 && cnB c) → _ from fun W p q al h hp hq hal => ch_be N l ao cap i c p q W (hA.on h) hp hq al hal)
  have CK := Lib.hid (fun W => isClock_any N i 1 (.slice ao l.length cap) W)
  have C2 := Lib.hid (fun W => isConstant_any c W)
  generalize beL N.toNat i.toNat c l = r at *
  generalize beG N l i c = er at *
  generalize ckB N i 1 = k1 at *
  generalize cnB c = k2 at *
  generalize l.length = len at *
  obtain ⟨w0, hw0⟩ : ∃ w0, w0 = (((w.alloc (.cells #[.int .i64 N, .slice ao len cap] 25)).alloc (.cells #[.int .i64 i] 3)).alloc (.cells #[.int .i64 c] 2)).alloc (.cells #[.int .i64 0, .slice none 0 0] 25) := ⟨_, rfl⟩
  have b0 : w0.cell? ⟨w.heap.size, 0, none⟩ = some (.int .i64 N) := by rw [hw0]; go_simp
  have b1 : w0.cell? ⟨w.heap.size, 1, none⟩ = some (.slice ao len cap) := by rw [hw0]; go_simp
  have b2 : w0.cell? ⟨w.heap.size + 1, 0, none⟩ = some (.int .i64 i) := by rw [hw0]; go_simp
  have b3 : w0.cell? ⟨w.heap.size + 1 + 1, 0, none⟩ = some (.int .i64 c) := by rw [hw0]; go_simp
  have rs : Two w0 (w.heap.size + 1 + 1 + 1) (.int .i64 0) (.slice none 0 0) := by
    rw [hw0]
    have := Two.made (((w.alloc (.cells #[.int .i64 N, .slice ao len cap] 25)).alloc (.cells #[.int .i64 i] 3)).alloc (.cells #[.int .i64 c] 2)) (.int .i64 0) (.slice none 0 0) 25
    simpa using this
  have z0 : w0.heap.size = w.heap.size + 4 := by rw [hw0]; simp
  have E0 := Lib.hid (show Below w.heap.size w w0 by rw [hw0]; exact (past_three (Below.refl _ _)).alloc (by simp; omega) _)
  have KS := Lib.hid (show ∀ w' : World, Below w0.heap.size w0 w' → w'.cell? ⟨w.heap.size, 0, none⟩ = some (.int .i64 N) ∧ w'.cell? ⟨w.heap.size, 1, none⟩ = some (.slice ao len cap) ∧ w'.cell? ⟨w.heap.size + 1, 0, none⟩ = some (.int .i64 i) ∧ w'.cell? ⟨w.heap.size + 1 + 1, 0, none⟩ = some (.int .i64 c) from fun w' h => ⟨kept h b0, kept h b1, kept h b2, kept h b3⟩)
  have KP := Lib.hid (show ∀ (w' : World) (u v : Value), Below w0.heap.size w0 w' → (((w'.setCell ⟨w.heap.size + 1 + 1 + 1, 0, none⟩ u).setCell ⟨w.heap.size + 1 + 1 + 1, 1, none⟩ v).cell? ⟨w.heap.size, 0, none⟩ = some (.int .i64 N) ∧ ((w'.setCell ⟨w.heap.size + 1 + 1 + 1, 0, none⟩ u).setCell ⟨w.heap.size + 1 + 1 + 1, 1, none⟩ v).cell? ⟨w.heap.size, 1, none⟩ = some (.slice ao len cap) ∧ ((w'.setCell ⟨w.heap.size + 1 + 1 + 1, 0, none⟩ u).setCell ⟨w.heap.size + 1 + 1 + 1, 1, none⟩ v).cell? ⟨w.heap.size + 1, 0, none⟩ = some (.int .i64 i) ∧ ((w'.setCell ⟨w.heap.size + 1 + 1 + 1, 0, none⟩ u).setCell ⟨w.heap.size + 1 + 1 + 1, 1, none⟩ v).cell? ⟨w.heap.size + 1 + 1, 0, none⟩ = some (.int .i64 c)) from
    fun w' u v h => ⟨aside_two (kept h b0) (by show w.heap.size ≠ _; omega) u v, aside_two (kept h b1) (by show w.heap.size ≠ _; omega) u v, aside_two (kept h b2) (by show w.heap.size + 1 ≠ _; omega) u v, aside_two (kept h b3) (by show w.heap.size + 1 + 1 ≠ _; omega) u v⟩)
  have HRS := Lib.hid rs
  have BD := Lib.hid (show Below w0.heap.size w0 w0.drew from (Below.refl _ _).drew)
  clear hA b0 b1 b2 b3 rs
  cases k1
  · have HAL := Lib.hid (show false = (false && k2) from rfl)
    go_enter Try.func34, Try.ntmps34
    go_wp2_with fail
    rw [← hw0]
    clear hw0
    refine wp_region_held_drew (S := (fun w' => w'.cell? ⟨w.heap.size, 0, none⟩ = some (.int .i64 N) ∧ w'.cell? ⟨w.heap.size, 1, none⟩ = some (.slice ao len cap) ∧ w'.cell? ⟨w.heap.size + 1, 0, none⟩ = some (.int .i64 i) ∧ w'.cell? ⟨w.heap.size + 1 + 1, 0, none⟩ = some (.int .i64 c))) (by kernel_rfl) (KS.out _ BD.out) (fun h0 => ?_)
    refine wpAnyH_take (i := 0) (v := .agg #[.int .i64 N, .slice ao len cap]) rfl (by kernel_rfl) (by kernel_rfl) (by kernel_rfl) (fun _ _ _ h => h) (Or.inl ⟨by rfl, fun w' hS => by (obtain ⟨c0, c1, c2, c3⟩ := hS; go_simp)⟩) h0 ?_
    simp only [Act.put, List.getElem_toArray, List.getElem_cons_zero, List.setIfInBounds_toArray, List.set_cons_zero, List.set_cons_succ]
    refine wpAnyH_take (i := 1) (v := .agg #[.int .i64 N, .slice ao len cap]) rfl (by kernel_rfl) (by kernel_rfl) (by kernel_rfl) (fun _ _ _ h => h) (Or.inl ⟨by rfl, fun w' hS => by (obtain ⟨c0, c1, c2, c3⟩ := hS; go_simp)⟩) h0 ?_
    simp only [Act.put, List.getElem_toArray, List.getElem_cons_zero, List.getElem_cons_succ, List.setIfInBounds_toArray, List.set_cons_zero, List.set_cons_succ]
    refine wpAnyH_take (i := 2) (v := .int .i64 i) rfl (by kernel_rfl) (by kernel_rfl) (by kernel_rfl) (fun _ _ _ h => h) (Or.inl ⟨by rfl, fun w' hS => by (obtain ⟨c0, c1, c2, c3⟩ := hS; go_simp)⟩) h0 ?_
    simp only [Act.put, List.getElem_toArray, List.getElem_cons_zero, List.getElem_cons_succ, List.setIfInBounds_toArray, List.set_cons_zero, List.set_cons_succ]
    refine wpAnyH_take (i := 8) (v := .func (.func 90) #[] #[.pointer (some ⟨w.heap.size + 1 + 1, 0, none⟩), .pointer (some ⟨w.heap.size + 1, 0, none⟩)]) rfl (by kernel_rfl) (by kernel_rfl) (by kernel_rfl) (fun _ _ _ h => h) (Or.inl ⟨by rfl, fun w' hS => by go_simp⟩) h0 ?_
    simp only [Act.put, List.getElem_toArray, List.getElem_cons_zero, List.getElem_cons_succ, List.setIfInBounds_toArray, List.set_cons_zero, List.set_cons_succ]
    refine wpAnyH_ready (rs := [3]) (by kernel_rfl) (by simp) (AllReadyH.cons rfl (fun K hK => ?_) AllReadyH.nil)
    rw [if_pos (by rfl)]
    go_simp
    refine (CK.out _).mono ?_
    rintro e wa ⟨rfl, hba⟩
    have hb1 := below_on BD.out hba
    go_simp
    refine hK.out _ _ (KS.out _ hb1) (fun h1 => ?_)
    clear hK K h0
    refine wpAnyH_take (i := 4) (v := .bool false) rfl (by kernel_rfl) (by kernel_rfl) (by kernel_rfl) (fun _ _ _ h => h) (Or.inl ⟨by rfl, fun w' hS => by go_simp⟩) h1 ?_
    simp only [Act.put, List.getElem_toArray, List.getElem_cons_zero, List.getElem_cons_succ, List.setIfInBounds_toArray, List.set_cons_zero, List.set_cons_succ]
    refine wpAnyH_take (i := 5) (v := undef) rfl (by kernel_rfl) (by kernel_rfl) (by kernel_rfl) (fun _ _ _ h => h) (Or.inr ⟨by rfl, rfl⟩) h1 ?_
    simp only [Act.put, List.getElem_toArray, List.getElem_cons_zero, List.getElem_cons_succ, List.setIfInBounds_toArray, List.set_cons_zero, List.set_cons_succ]
    refine wpAnyH_take (i := 6) (v := undef) rfl (by kernel_rfl) (by kernel_rfl) (by kernel_rfl) (fun _ _ _ h => h) (Or.inr ⟨by rfl, rfl⟩) h1 ?_
    simp only [Act.put, List.getElem_toArray, List.getElem_cons_zero, List.getElem_cons_succ, List.setIfInBounds_toArray, List.set_cons_zero, List.set_cons_succ]
    refine wpAnyH_take (i := 7) (v := .bool false) rfl (by kernel_rfl) (by kernel_rfl) (by kernel_rfl) (fun _ _ _ h => h) (Or.inl ⟨by rfl, fun w' hS => by go_simp⟩) h1 ?_
    simp only [Act.put, List.getElem_toArray, List.getElem_cons_zero, List.getElem_cons_succ, List.setIfInBounds_toArray, List.set_cons_zero, List.set_cons_succ]
    refine wpAnyH_ready (rs := [9]) (by kernel_rfl) (by simp) (AllReadyH.cons rfl (fun K hK => ?_) AllReadyH.nil)
    rw [if_pos (by rfl)]
    go_simp
    refine (CH.out _ _ _ _ (below_on E0.out hb1) (KS.out _ hb1).2.2.2 (KS.out _ hb1).2.2.1 HAL.out).mono ?_
    intro e wb hz
    obtain ⟨hb4, hres⟩ := hz
    have hb2 := below_on hb1 hb4
    obtain ⟨q0, q1, q2, q3⟩ := (HRS.out.kept hb2).facts
    rcases hres with ⟨he, g, cc, rfl, hg, hO⟩ | ⟨he, rfl⟩
    · subst he
      go_simp
      refine hK.out _ _ (KS.out _ hb2) (fun h2 => ?_)
      clear hK K
      refine wpAnyH_take (i := 10) (v := .agg #[.int .i64 N, .slice (some ⟨g, 0, none⟩) r.length cc]) rfl (by kernel_rfl) (by kernel_rfl) (by kernel_rfl) (fun _ _ _ h => h) (Or.inl ⟨by rfl, fun w' hS => by go_simp⟩) h2 ?_
      simp only [Act.put, List.getElem_toArray, List.getElem_cons_zero, List.getElem_cons_succ, List.setIfInBounds_toArray, List.set_cons_zero, List.set_cons_succ]
      refine wpAnyH_take (i := 11) (v := .int .i64 0) rfl (by kernel_rfl) (by kernel_rfl) (by kernel_rfl) (fun _ _ _ h => h) (Or.inl ⟨by rfl, fun w' hS => by go_simp⟩) h2 ?_
      simp only [Act.put, List.getElem_toArray, List.getElem_cons_zero, List.getElem_cons_succ, List.setIfInBounds_toArray, List.set_cons_zero, List.set_cons_succ]
      refine wpAnyH_ready (rs := [12]) (by kernel_rfl) (by simp) (AllReadyH.cons rfl (fun K hK => ?_) AllReadyH.nil)
      rw [if_pos (by rfl)]
      go_simp
      refine hK.out _ _ (KP.out _ _ _ hb2) (fun h3 => ?_)
      clear hK K
      refine wpAnyH_take (i := 13) (v := .int .i64 0) rfl (by kernel_rfl) (by kernel_rfl) (by kernel_rfl) (fun _ _ _ h => h) (Or.inl ⟨by rfl, fun w' hS => by go_simp⟩) h3 ?_
      simp only [Act.put, List.getElem_toArray, List.getElem_cons_zero, List.getElem_cons_succ, List.setIfInBounds_toArray, List.set_cons_zero, List.set_cons_succ]
      refine wpAnyH_done (by kernel_rfl) ?_ _
      go_wp2_with fail
      refine bodyPost_ret (v := .tuple #[.agg #[.int .i64 N, .slice (some ⟨g, 0, none⟩) r.length cc], .int .i64 0]) (by simp [results, Try.results34, go_sem, q0, q1]) rfl (zres_over E0.out hb2 hO (Nat.le_trans hb1.size hg) (by omega) (by omega) _ _)
    · go_simp
      refine hK.out _ _ (KS.out _ hb2) (fun h2 => ?_)
      clear hK K
      refine wpAnyH_take (i := 10) (v := .agg #[.int .i64 0, .slice none 0 0]) rfl (by kernel_rfl) (by kernel_rfl) (by kernel_rfl) (fun _ _ _ h => h) (Or.inl ⟨by rfl, fun w' hS => by go_simp⟩) h2 ?_
      simp only [Act.put, List.getElem_toArray, List.getElem_cons_zero, List.getElem_cons_succ, List.setIfInBounds_toArray, List.set_cons_zero, List.set_cons_succ]
      refine wpAnyH_take (i := 11) (v := .int .i64 er) rfl (by kernel_rfl) (by kernel_rfl) (by kernel_rfl) (fun _ _ _ h => h) (Or.inl ⟨by rfl, fun w' hS => by go_simp⟩) h2 ?_
      simp only [Act.put, List.getElem_toArray, List.getElem_cons_zero, List.getElem_cons_succ, List.setIfInBounds_toArray, List.set_cons_zero, List.set_cons_succ]
      refine wpAnyH_ready (rs := [12]) (by kernel_rfl) (by simp) (AllReadyH.cons rfl (fun K hK => ?_) AllReadyH.nil)
      rw [if_pos (by rfl)]
      go_simp
      refine hK.out _ _ (KP.out _ _ _ hb2) (fun h3 => ?_)
      clear hK K
      refine wpAnyH_take (i := 13) (v := .int .i64 er) rfl (by kernel_rfl) (by kernel_rfl) (by kernel_rfl) (fun _ _ _ h => h) (Or.inl ⟨by rfl, fun w' hS => by go_simp⟩) h3 ?_
      simp only [Act.put, List.getElem_toArray, List.getElem_cons_zero, List.getElem_cons_succ, List.setIfInBounds_toArray, List.set_cons_zero, List.set_cons_succ]
      refine wpAnyH_done (by kernel_rfl) ?_ _
      go_wp2_with fail
      refine bodyPost_ret (v := .tuple #[.agg #[.int .i64 0, .slice none 0 0], .int .i64 er]) (by simp [results, Try.results34, go_sem, q0, q1]) rfl (zres_over0 E0.out hb2 he (by omega) _ _)
  · have HAL := Lib.hid (show k2 = (true && k2) from rfl)
    go_enter Try.func34, Try.ntmps34
    go_wp2_with fail
    rw [← hw0]
    clear hw0
    by_cases he : er = 0
    · subst he
      go_region_held3 (fun w' => w'.cell? ⟨w.heap.size, 0, none⟩ = some (.int .i64 N) ∧ w'.cell? ⟨w.heap.size, 1, none⟩ = some (.slice ao len cap) ∧ w'.cell? ⟨w.heap.size + 1, 0, none⟩ = some (.int .i64 i) ∧ w'.cell? ⟨w.heap.size + 1 + 1, 0, none⟩ = some (.int .i64 c)) (first | exact KS.out _ BD.out | exact KS.out _ (by assumption) | exact KP.out _ _ _ (by assumption))
        (first | (go_at_call 74; refine (CK.out _).mono ?_; rintro e wa ⟨rfl, hba⟩; have hb0 := below_on BD.out hba) | (go_at_call 83; refine (C2.out _).mono ?_; rintro e wc ⟨rfl, hw⟩; rw [hw]; have hb1 := hb0) | (go_at_call 76; refine (CH.out _ _ _ _ (below_on E0.out hb1) (KS.out _ hb1).2.2.2 (KS.out _ hb1).2.2.1 HAL.out).mono ?_; intro e wb hz; obtain ⟨g, cc, rfl, hg, hO⟩ := hz.ok rfl; have hb2 := below_on hb1 hz.1; obtain ⟨q0, q1, q2, q3⟩ := (HRS.out.kept hb2).facts))
      all_goals
        go_wp2_with fail
        refine bodyPost_ret (v := .tuple #[.agg #[.int .i64 N, .slice (some ⟨g, 0, none⟩) r.length cc], .int .i64 0]) (by simp [results, Try.results34, go_sem, q0, q1]) rfl (zres_over E0.out hb2 hO.1 (Nat.le_trans hb1.size hg) (by omega) (by omega) _ _)
    · go_region_held3 (fun w' => w'.cell? ⟨w.heap.size, 0, none⟩ = some (.int .i64 N) ∧ w'.cell? ⟨w.heap.size, 1, none⟩ = some (.slice ao len cap) ∧ w'.cell? ⟨w.heap.size + 1, 0, none⟩ = some (.int .i64 i) ∧ w'.cell? ⟨w.heap.size + 1 + 1, 0, none⟩ = some (.int .i64 c)) (first | exact KS.out _ BD.out | exact KS.out _ (by assumption) | exact KP.out _ _ _ (by assumption))
        (first | (go_at_call 74; refine (CK.out _).mono ?_; rintro e wa ⟨rfl, hba⟩; have hb0 := below_on BD.out hba) | (go_at_call 83; refine (C2.out _).mono ?_; rintro e wc ⟨rfl, hw⟩; rw [hw]; have hb1 := hb0) | (go_at_call 76; refine (CH.out _ _ _ _ (below_on E0.out hb1) (KS.out _ hb1).2.2.2 (KS.out _ hb1).2.2.1 HAL.out).mono ?_; intro e wb hz; obtain ⟨rfl, hzb⟩ := hz.no he; have hb2 := below_on hb1 hzb; obtain ⟨q0, q1, q2, q3⟩ := (HRS.out.kept hb2).facts))
      all_goals
        go_wp2_with fail
        refine bodyPost_ret (v := .tuple #[.agg #[.int .i64 0, .slice none 0 0], .int .i64 er]) (by simp [results, Try.results34, go_sem, q0, q1]) rfl (zres_over0 E0.out hb2 he (by omega) _ _)
end Go.Proofs.Ytbnebinpemejlaa

namespace Go.Proofs.Ytbnebinpemejlaa.Zo

/-- The number q / D meets the limit l. -/
def mt (D q l : Int) : Prop := l = 1099511627776 ∨ (l % 2 = 0 ∧ q < l / 2 * D) ∨ (¬ l % 2 = 0 ∧ q ≤ l / 2 * D)

theorem mt_none (D q : Int) : mt D q 1099511627776 := Or.inl rfl

theorem mt_one {D q : Int} : mt D q 1 ↔ q ≤ 0 := by
  unfold mt
  have : (1 : Int) / 2 * D = 0 := by rw [show (1 : Int) / 2 = 0 by decide]; omega
  rw [this]; omega

theorem mt_mono {D q a b : Int} (hD : 0 < D) (hab : a ≤ b) (hb : b ≤ 1099511627776) (h : mt D q a) : mt D q b := by
  unfold mt at h ⊢
  by_cases e : b = 1099511627776
  · exact Or.inl e
  · right
    have hl : a / 2 * D ≤ b / 2 * D := Int.mul_le_mul_of_nonneg_right (by omega) (by omega)
    rcases h with h | ⟨h1, h2⟩ | ⟨h1, h2⟩
    · omega
    · by_cases p : b % 2 = 0
      · exact Or.inl ⟨p, by omega⟩
      · exact Or.inr ⟨p, by omega⟩
    · by_cases p : b % 2 = 0
      · have : (a / 2 + 1) * D ≤ b / 2 * D := Int.mul_le_mul_of_nonneg_right (by omega) (by omega)
        rw [Int.add_mul] at this
        exact Or.inl ⟨p, by omega⟩
      · exact Or.inr ⟨p, by omega⟩

theorem mt_min {D q a b : Int} (h : mt D q a) (k : mt D q b) : mt D q (min a b) := by
  rcases Int.le_total a b with c | c
  · rwa [Int.min_eq_left c]
  · rwa [Int.min_eq_right c]

/-- What is met is not far below. -/
theorem mt_low {D q a M : Int} (hD : 0 < D) (hq : -(M * D) ≤ q) (h : mt D q a) (hM : 0 ≤ M) : -(2 * M) ≤ a := by
  unfold mt at h
  by_cases e : a < -(2 * M)
  · exfalso
    have hl : (a / 2 + M) * D ≤ -1 * D := Int.mul_le_mul_of_nonneg_right (by omega) (by omega)
    rw [Int.add_mul] at hl
    omega
  · omega

theorem mt_sum {D p q a b : Int} (ha : -1152921504606846976 ≤ a) (ha' : a ≤ 1152921504606846976) (hb : -1152921504606846976 ≤ b) (hb' : b ≤ 1152921504606846976) (h : mt D p a) (k : mt D q b) : mt D (p + q) (smW a b) := by
  unfold smW
  by_cases na : a = 1099511627776
  · rw [if_pos (Or.inl na)]; exact mt_none _ _
  by_cases nb : b = 1099511627776
  · rw [if_pos (Or.inr nb)]; exact mt_none _ _
  rw [if_neg (by omega)]
  unfold mt at h k
  have s : ∀ c, c = a / 2 + b / 2 → c * D = a / 2 * D + b / 2 * D := by intro c hc; rw [hc, Int.add_mul]
  by_cases ea : a % 2 = 0
  · by_cases eb : b % 2 = 0
    · rw [if_pos ⟨ea, eb⟩, w64_in (by omega) (by omega)]
      have := s ((a + b) / 2) (by omega)
      unfold mt; omega
    · rw [if_neg (by omega), w64_in (x := a + b) (by omega) (by omega), w64_in (by omega) (by omega)]
      have := s ((a + b - 1) / 2) (by omega)
      unfold mt; omega
  · rw [if_neg (by omega), w64_in (x := a + b) (by omega) (by omega), w64_in (by omega) (by omega)]
    have := s ((a + b - 1) / 2) (by omega)
    unfold mt; omega

/-- The point X / D is in the set of the matrix. -/
def In (n : Nat) (l : List Int) (D : Int) (X : Nat → Int) : Prop := ∀ i j, i ≤ n → j ≤ n → mt D (X i - X j) (At n l i j)

/-- A point: from 0 on, the clock 0 is 0, and no value is above M. -/
structure Pt (n : Nat) (D : Int) (X : Nat → Int) (M : Int) : Prop where
  pos : 0 < D
  zero : X 0 = 0
  low : ∀ i, i ≤ n → 0 ≤ X i
  high : ∀ i, i ≤ n → X i ≤ M * D

theorem Pt.diff {n : Nat} {D : Int} {X : Nat → Int} {M : Int} (h : Pt n D X M) {i j : Nat} (hi : i ≤ n) (hj : j ≤ n) : -(M * D) ≤ X i - X j := by
  have := h.low i hi
  have := h.high j hj
  omega

theorem Pt.le {n : Nat} {D : Int} {X : Nat → Int} {M : Int} (h : Pt n D X M) : 0 ≤ M := by
  have a := h.low 0 (by omega)
  have b := h.high 0 (by omega)
  rcases Int.lt_or_le M 0 with c | c
  · have : M * D < 0 * D := Int.mul_lt_mul_of_pos_right c h.pos
    omega
  · exact c

def Top (n : Nat) (l : List Int) : Prop := l.length = (n + 1) * (n + 1) ∧ ∀ i j, i ≤ n → j ≤ n → At n l i j ≤ 1099511627776

theorem Top.put {n : Nat} {l : List Int} (h : Top n l) {i j : Nat} (hi : i ≤ n) (hj : j ≤ n) (y : Int) : Top n (l.set (ix n i j) (min (At n l i j) y)) :=
  ⟨by simpa using h.1, fun _ _ ha hb => Int.le_trans (set_le h.1 hi hj y hb) (h.2 _ _ ha hb)⟩

/-- A point of the matrix is one of what is closed. -/
theorem clo_sound {n : Nat} {l : List Int} {D M : Int} {X : Nat → Int} (hp : Pt n D X M) (hM : M ≤ 4611686018427387) (ht : Top n l) (h : In n l D X) : In n (clo n l) D X := by
  have r : Top n (clo n l) ∧ In n (clo n l) D X := by
    refine clo_keeps (R := fun l => Top n l ∧ In n l D X) (fun l i j hij hi hj hl => ⟨hl.1.put hi hj 1, fun a b ha hb => ?_⟩) (fun l k i j hk hi hj hl => ⟨hl.1.put hi hj _, fun a b ha hb => ?_⟩) ⟨ht, h⟩
    · rw [At_set hl.1.1 hi hj _ hb]
      split
      · rename_i e
        rw [e.1, e.2]
        refine mt_min (hl.2 i j hi hj) (mt_one.2 ?_)
        rcases hij with z | z
        · subst z; have := hp.low j hj; rw [hp.zero]; omega
        · subst z; omega
      · exact hl.2 a b ha hb
    · unfold rlx
      rw [At_set hl.1.1 hi hj _ hb]
      split
      · rename_i e
        rw [e.1, e.2]
        have h1 := hl.2 i k hi hk
        have h2 := hl.2 k j hk hj
        have l1 := mt_low hp.pos (hp.diff hi hk) h1 hp.le
        have l2 := mt_low hp.pos (hp.diff hk hj) h2 hp.le
        have u1 := hl.1.2 i k hi hk
        have u2 := hl.1.2 k j hk hj
        refine mt_min (hl.2 i j hi hj) ?_
        have := mt_sum (by omega) (by omega) (by omega) (by omega) h1 h2
        rwa [show X i - X k + (X k - X j) = X i - X j by omega] at this
      · exact hl.2 a b ha hb
  exact r.2

theorem clo_le {n : Nat} {l : List Int} (hl : l.length = (n + 1) * (n + 1)) : ∀ a b, a ≤ n → b ≤ n → At n (clo n l) a b ≤ At n l a b := by
  intro a b ha hb
  exact (clo_keeps (R := fun x : List Int => x.length = (n + 1) * (n + 1) ∧ At n x a b ≤ At n l a b)
    (fun x i j _ hi hj hx => ⟨by simpa using hx.1, Int.le_trans (set_le hx.1 hi hj _ hb) hx.2⟩)
    (fun x k i j _ hi hj hx => ⟨by simpa [rlx] using hx.1, Int.le_trans (set_le hx.1 hi hj _ hb) hx.2⟩) ⟨hl, Int.le_refl _⟩).2

/-- And the other way round. -/
theorem clo_complete {n : Nat} {l : List Int} {D : Int} {X : Nat → Int} (hD : 0 < D) (ht : Top n l) (h : In n (clo n l) D X) : In n l D X :=
  fun i j hi hj => mt_mono hD (clo_le ht.1 i j hi hj) (ht.2 i j hi hj) (h i j hi hj)

/-- A set with a point is not told to be empty. -/
theorem In.diag {n : Nat} {l : List Int} {D : Int} {X : Nat → Int} (hD : 0 < D) (h : In n l D X) {i : Nat} (hi : i ≤ n) : 1 ≤ At n l i i := by
  have := h i i hi hi
  rw [Int.sub_self] at this
  unfold mt at this
  rcases this with e | ⟨e, g⟩ | ⟨e, g⟩
  · omega
  · by_cases c : At n l i i / 2 ≤ 0
    · have : At n l i i / 2 * D ≤ 0 * D := Int.mul_le_mul_of_nonneg_right c (by omega)
      omega
    · omega
  · by_cases c : At n l i i / 2 ≤ -1
    · have : At n l i i / 2 * D ≤ -1 * D := Int.mul_le_mul_of_nonneg_right c (by omega)
      omega
    · omega
end Go.Proofs.Ytbnebinpemejlaa.Zo

namespace Go.Proofs.Ytbnebinpemejlaa

/-- The point ps, over the denominator D. -/
structure Ov (D : Int) (X : Nat → Int) (ps : List Pq) : Prop where
  pos : 0 < D
  val : ∀ i, i ≤ ps.length → X i * (clk ps i).2 = (clk ps i).1 * D

theorem lt_scale {x y d D q : Int} (hD : 0 < D) (hd : 0 < d) (e : x * D = q * d) {c : Int} (hy : y = c * d) : x < y ↔ q < c * D := by
  subst hy
  constructor
  · intro h
    have h1 : x * D < c * d * D := Int.mul_lt_mul_of_pos_right h hD
    rw [e, Int.mul_right_comm] at h1
    exact Int.lt_of_mul_lt_mul_right h1 (by omega)
  · intro h
    have h1 : q * d < c * D * d := Int.mul_lt_mul_of_pos_right h hd
    rw [← e, Int.mul_right_comm] at h1
    exact Int.lt_of_mul_lt_mul_right h1 (by omega)

theorem le_scale {x y d D q : Int} (hD : 0 < D) (hd : 0 < d) (e : x * D = q * d) {c : Int} (hy : y = c * d) : x ≤ y ↔ q ≤ c * D := by
  subst hy
  constructor
  · intro h
    have h1 : x * D ≤ c * d * D := Int.mul_le_mul_of_nonneg_right h (by omega)
    rw [e, Int.mul_right_comm] at h1
    exact Int.le_of_mul_le_mul_right h1 hd
  · intro h
    have h1 : q * d ≤ c * D * d := Int.mul_le_mul_of_nonneg_right h (by omega)
    rw [← e, Int.mul_right_comm] at h1
    exact Int.le_of_mul_le_mul_right h1 hD

theorem vld_pos {n d : Int} (v : vldB n d = true) : 1 ≤ d ∧ d ≤ 2147483647 ∧ -2147483647 ≤ n ∧ n ≤ 2147483647 := by
  unfold vldB at v; simp at v; omega

/-- What meeting a limit says, over another denominator. -/
theorem me_mt {n d a b D q l : Int} (v : vldB n d = true) (vl : lvB l = true) (hb : 0 < b) (hD : 0 < D) (e : n * b = a * d) (e2 : q * b = a * D) : meB n d l = true ↔ Zo.mt D q l := by
  have hd := vld_pos v
  have key : n * D = q * d := by
    have h1 : n * D * b = q * d * b := by
      rw [Int.mul_right_comm n D b, e, Int.mul_right_comm q d b, e2, Int.mul_right_comm a d D]
    exact Int.eq_of_mul_eq_mul_right (by omega) h1
  unfold meB mtB Zo.mt
  rw [v, vl]
  by_cases nl : l = 1099511627776
  · simp [noB, nl]
  · have nb : noB l = false := by simp [noB, nl]
    rw [nb]
    by_cases ev : l % 2 = 0
    · have eb : evB l = true := by simp [evB, ev]
      rw [eb]
      have := lt_scale hD (show 0 < d by omega) key (c := l / 2) rfl
      simp [nl, ev, this]
    · have eb : evB l = false := by simp [evB, ev]
      rw [eb]
      have := le_scale hD (show 0 < d by omega) key (c := l / 2) rfl
      simp [nl, ev, this]

theorem rd_parts {n : Nat} {l : List Int} {ps : List Pq} (h : rdE n l ps = 0) : chkE n l = 0 ∧ ps.length = n ∧ (∀ k, k < ps.length → vldC (gp ps k) = true) ∧ (∀ i, i ≤ n → ∀ j, j ≤ n → sbE ps i j = 0) := by
  obtain ⟨h1, h2, h3, h4⟩ := rd_ok h
  exact ⟨h1, by omega, h3, fun i hi j hj => rdR_at h4 (by simpa using Nat.lt_succ_of_le hi) (by simpa using Nat.lt_succ_of_le hj)⟩

theorem clk_vld {ps : List Pq} (h : ∀ k, k < ps.length → vldC (gp ps k) = true) {i : Nat} (hi : i ≤ ps.length) : vldB (clk ps i).1 (clk ps i).2 = true ∧ 0 ≤ (clk ps i).1 := by
  refine ⟨clk_ok h hi, ?_⟩
  unfold clk
  split
  · simp
  · have := h (i - 1) (by omega)
    unfold vldC at this
    simp at this
    exact this.2

theorem Ov.sub {D : Int} {X : Nat → Int} {ps : List Pq} (h : Ov D X ps) {i j : Nat} (hi : i ≤ ps.length) (hj : j ≤ ps.length) :
    (X i - X j) * ((clk ps i).2 * (clk ps j).2) = ((clk ps i).1 * (clk ps j).2 - (clk ps j).1 * (clk ps i).2) * D := by
  have a := h.val i hi
  have b := h.val j hj
  rw [Int.sub_mul, Int.sub_mul, ← Int.mul_assoc, a, Int.mul_comm (clk ps i).2 (clk ps j).2, ← Int.mul_assoc, b]
  rw [Int.mul_right_comm, Int.mul_right_comm (clk ps j).1]

/-- One element, over one denominator. -/
theorem hs_mt {n : Nat} {l : List Int} {ps : List Pq} {D : Int} {X : Nat → Int} (hv : ∀ k, k < ps.length → vldC (gp ps k) = true) (ho : Ov D X ps) {i j : Nat} (hi : i ≤ ps.length) (hj : j ≤ ps.length) (hs : sbE ps i j = 0) (hl : lvB (Zo.At n l i j) = true) :
    hsM n l ps i j = true ↔ Zo.mt D (X i - X j) (Zo.At n l i j) := by
  obtain ⟨_, h2, h3⟩ := mk_ok hs
  have p1 := vld_pos (clk_vld hv hi).1
  have p2 := vld_pos (clk_vld hv hj).1
  have hb : 0 < (clk ps i).2 * (clk ps j).2 := Int.mul_pos (by omega) (by omega)
  exact me_mt h2 hl hb ho.pos h3 (ho.sub hi hj)

theorem chk_len {n : Nat} {l : List Int} (h : chkE n l = 0) : n ≤ 10 ∧ l.length = (n + 1) * (n + 1) ∧ rdL l = true := by
  have hb : rdB (n : Int) l = true := by
    cases c : rdB (n : Int) l
    · rw [chk_read c] at h; cases h
    · rfl
  unfold rdB at hb
  rw [Bool.and_eq_true, Bool.and_eq_true] at hb
  obtain ⟨⟨h1, h2⟩, h3⟩ := hb
  simp [dimB] at h1
  simp at h2
  exact ⟨by omega, h2, h3⟩

theorem chk_lvs {n : Nat} {l : List Int} (h : chkE n l = 0) {i j : Nat} (hi : i ≤ n) (hj : j ≤ n) : lvB (Zo.At n l i j) = true := by
  obtain ⟨_, h2, h3⟩ := chk_len h
  exact lv_of_all h2 h3 i j hi hj

theorem chk_top {n : Nat} {l : List Int} (h : chkE n l = 0) : Zo.Top n l := by
  obtain ⟨_, h2, h3⟩ := chk_len h
  exact ⟨h2, fun i j hi hj => vl_top (vl_of h2 h3 i j hi hj)⟩

/-- What Has says of a point. -/
theorem has_in {n : Nat} {l : List Int} {ps : List Pq} {D : Int} {X : Nat → Int} (hr : rdE n l ps = 0) (ho : Ov D X ps) : hsR n l ps = true ↔ Zo.In n l D X := by
  obtain ⟨h1, h2, h3, h4⟩ := rd_parts hr
  unfold hsR
  rw [hr]
  simp only [decide_true, Bool.true_and, Int.toNat_natCast]
  rw [hsB_iff]
  constructor
  · intro h i j hi hj
    exact (hs_mt h3 ho (by omega) (by omega) (h4 i hi j hj) (chk_lvs h1 hi hj)).1 (h i (by omega) j (by omega))
  · intro h i hi j hj
    exact (hs_mt h3 ho (by omega) (by omega) (h4 i (by omega) j (by omega)) (chk_lvs h1 (by omega) (by omega))).2 (h i j (by omega) (by omega))

theorem rdE_other {n : Nat} {l m : List Int} {ps : List Pq} (h1 : chkE n l = 0) (h2 : chkE n m = 0) : rdE n l ps = rdE n m ps := by
  unfold rdE; rw [h1, h2]

theorem Ov.pt {n : Nat} {D : Int} {X : Nat → Int} {ps : List Pq} (h : Ov D X ps) (hp : ps.length = n) (hv : ∀ k, k < ps.length → vldC (gp ps k) = true) : Zo.Pt n D X 2147483647 := by
  have key : ∀ i, i ≤ n → 0 ≤ X i ∧ X i ≤ 2147483647 * D := by
    intro i hi
    have e := h.val i (by omega)
    obtain ⟨v, z⟩ := clk_vld hv (i := i) (by omega)
    have q := vld_pos v
    have hD := h.pos
    generalize (clk ps i).1 = a at *
    generalize (clk ps i).2 = d at *
    constructor
    · have : 0 * d ≤ X i * d := by rw [e, Int.zero_mul]; exact Int.mul_nonneg z (by omega)
      exact Int.le_of_mul_le_mul_right this (by omega)
    · have h1 : a * D ≤ 2147483647 * D := Int.mul_le_mul_of_nonneg_right (by omega) (by omega)
      have h0 : 0 ≤ 2147483647 * D := by omega
      have h2 : 2147483647 * D * 1 ≤ 2147483647 * D * d := Int.mul_le_mul_of_nonneg_left (by omega) h0
      have : X i * d ≤ 2147483647 * D * d := by rw [e]; omega
      exact Int.le_of_mul_le_mul_right this (by omega)
  refine ⟨h.pos, ?_, fun i hi => (key i hi).1, fun i hi => (key i hi).2⟩
  have e := h.val 0 (by omega)
  simp [clk] at e
  exact e

/-- Every point has a denominator. -/
def dnP (ps : List Pq) : Int := ps.foldr (fun p r => p.2 * r) 1

theorem dnP_pos {ps : List Pq} (h : ∀ p ∈ ps, 1 ≤ p.2) : 1 ≤ dnP ps := by
  induction ps with
  | nil => simp [dnP]
  | cons p ps ih =>
    have h1 := h p (by simp)
    have h2 := ih (fun q hq => h q (by simp [hq]))
    show 1 ≤ p.2 * dnP ps
    have : 0 < p.2 * dnP ps := Int.mul_pos (by omega) (by omega)
    omega

theorem dnP_dvd {ps : List Pq} {p : Pq} (h : p ∈ ps) : p.2 ∣ dnP ps := by
  induction ps with
  | nil => cases h
  | cons q ps ih =>
    show p.2 ∣ q.2 * dnP ps
    rcases List.mem_cons.1 h with rfl | h
    · exact Int.dvd_mul_right _ _
    · exact Int.dvd_trans (ih h) (Int.dvd_mul_left _ _)

theorem gp_mem {ps : List Pq} {k : Nat} (h : k < ps.length) : gp ps k ∈ ps := by
  unfold gp
  rw [List.getD_eq_getElem?_getD, List.getElem?_eq_getElem h]
  exact List.getElem_mem h

theorem ov_of {ps : List Pq} (hv : ∀ k, k < ps.length → vldC (gp ps k) = true) : Ov (dnP ps) (fun i => (clk ps i).1 * (dnP ps / (clk ps i).2)) ps := by
  have h2 : ∀ p ∈ ps, 1 ≤ p.2 := by
    intro p hp
    obtain ⟨k, hk, rfl⟩ := List.getElem_of_mem hp
    have := hv k hk
    unfold gp at this
    rw [List.getD_eq_getElem?_getD, List.getElem?_eq_getElem hk] at this
    simp [vldC] at this
    exact (vld_pos this.1).1
  refine ⟨by have := dnP_pos h2; omega, fun i hi => ?_⟩
  show (clk ps i).1 * (dnP ps / (clk ps i).2) * (clk ps i).2 = _
  rw [Int.mul_assoc]
  congr 1
  refine Int.ediv_mul_cancel ?_
  unfold clk
  split
  · exact Int.one_dvd _
  · exact dnP_dvd (gp_mem (by omega))

/-- Constraints. -/
theorem an_in {n : Nat} {cs : List Con} {l : List Int} {D : Int} {X : Nat → Int} (hD : 0 < D) (hl : Zo.Top n l) (hok : ∀ t, t < cs.length → okC n (gc cs t) = true) :
    Zo.In n (anL n cs l) D X ↔ Zo.In n l D X ∧ ∀ t, t < cs.length → Zo.mt D (X (gc cs t).1.toNat - X (gc cs t).2.1.toNat) (gc cs t).2.2 := by
  have hl1 := hl.1
  have step : ∀ s, s ≤ cs.length → (Zo.In n ((List.range s).foldl (anS n cs) l) D X ↔ Zo.In n l D X ∧ ∀ t, t < s → Zo.mt D (X (gc cs t).1.toNat - X (gc cs t).2.1.toNat) (gc cs t).2.2) ∧ Zo.Top n ((List.range s).foldl (anS n cs) l) := by
    intro s
    induction s with
    | zero => intro _; exact ⟨⟨fun h => ⟨h, fun t ht => absurd ht (by omega)⟩, fun h => h.1⟩, hl⟩
    | succ s ih =>
      intro hs
      obtain ⟨i1, i2⟩ := ih (by omega)
      obtain ⟨p1, p2, p3⟩ := okC_parts (hok s (by omega))
      rw [Zo.fold_succ]
      generalize hu : (List.range s).foldl (anS n cs) l = u at *
      have hat : ∀ a b, b ≤ n → Zo.At n (anS n cs u s) a b = if a = (gc cs s).1.toNat ∧ b = (gc cs s).2.1.toNat then imin (Zo.At n u (gc cs s).1.toNat (gc cs s).2.1.toNat) (gc cs s).2.2 else Zo.At n u a b := fun a b hb => anS_at i2.1 (hok s (by omega)) hb
      have ht : Zo.Top n (anS n cs u s) := by
        refine ⟨by rw [anS_len]; exact i2.1, fun a b ha hb => ?_⟩
        rw [hat a b hb]
        split
        · have := i2.2 _ _ p1 p2
          unfold imin
          omega
        · exact i2.2 a b ha hb
      refine ⟨?_, ht⟩
      constructor
      · intro h
        have hu2 : Zo.In n u D X := by
          intro a b ha hb
          have := h a b ha hb
          rw [hat a b hb] at this
          split at this
          · rename_i e
            rw [e.1, e.2] at *
            exact Zo.mt_mono hD (by unfold imin; omega) (i2.2 _ _ p1 p2) this
          · exact this
        refine ⟨(i1.1 hu2).1, fun t htt => ?_⟩
        by_cases c : t = s
        · subst c
          have := h _ _ p1 p2
          rw [hat _ _ p2, if_pos ⟨rfl, rfl⟩] at this
          exact Zo.mt_mono hD (by unfold imin; omega) (vl_top p3) this
        · exact (i1.1 hu2).2 t (by omega)
      · intro h a b ha hb
        have hu2 := i1.2 ⟨h.1, fun t htt => h.2 t (by omega)⟩
        rw [hat a b hb]
        split
        · rename_i e
          rw [e.1, e.2]
          exact Zo.mt_min (hu2 _ _ p1 p2) (h.2 s (by omega))
        · exact hu2 a b ha hb
  exact (step cs.length (Nat.le_refl _)).1

/-- Closing: the points stay, and a set with a point is not empty. -/
theorem clo_in {n : Nat} {l : List Int} {D M : Int} {X : Nat → Int} (hp : Zo.Pt n D X M) (hM : M ≤ 4611686018427387) (ht : Zo.Top n l) : Zo.In n (Zo.clo n l) D X ↔ Zo.In n l D X :=
  ⟨Zo.clo_complete hp.pos ht, Zo.clo_sound hp hM ht⟩

theorem clo_full {n : Nat} {l : List Int} {D M : Int} {X : Nat → Int} (hp : Zo.Pt n D X M) (hM : M ≤ 4611686018427387) (ht : Zo.Top n l) (h : Zo.In n l D X) : cloB n l = false :=
  cloB_iff.2 fun _ hi => Zo.In.diag hp.pos (Zo.clo_sound hp hM ht h) hi

theorem cloE_full {n : Nat} {l : List Int} (h : cloB n l = false) : cloE n l ≠ 4 := by
  unfold cloE
  rw [h]
  simp
  split <;> simp
end Go.Proofs.Ytbnebinpemejlaa

namespace Go.Proofs.Ytbnebinpemejlaa

/-- The point meets the constraint. -/
def anM (ps : List Pq) (c : Con) : Bool := meB (sbN ps c.1.toNat c.2.1.toNat) (sbD ps c.1.toNat c.2.1.toNat) c.2.2

def anB (ps : List Pq) (cs : List Con) (t : Nat) : Bool := (List.range t).all fun s => anM ps (gc cs s)

theorem anB_succ (ps : List Pq) (cs : List Con) (t : Nat) : anB ps cs (t + 1) = (anB ps cs t && anM ps (gc cs t)) := by
  unfold anB
  rw [List.range_succ, List.all_append]
  simp

theorem anB_iff {ps : List Pq} {cs : List Con} {t : Nat} : anB ps cs t = true ↔ ∀ s, s < t → anM ps (gc cs s) = true := by simp [anB]

theorem anB_less {ps : List Pq} {cs : List Con} {t : Nat} (ht : t ≤ cs.length) (h : anB ps cs t = false) : anB ps cs cs.length = false := by
  cases c : anB ps cs cs.length
  · rfl
  · have : anB ps cs t = true := anB_iff.2 fun s hs => anB_iff.1 c s (by omega)
    rw [this] at h; cases h

theorem anM_mt {n : Nat} {ps : List Pq} {D : Int} {X : Nat → Int} {c : Con} (hp : ps.length = n) (hv : ∀ k, k < ps.length → vldC (gp ps k) = true) (hs : ∀ i, i ≤ n → ∀ j, j ≤ n → sbE ps i j = 0) (ho : Ov D X ps) (hc : okC n c = true) :
    anM ps c = true ↔ Zo.mt D (X c.1.toNat - X c.2.1.toNat) c.2.2 := by
  obtain ⟨h1, h2, _⟩ := okC_parts hc
  have hl : lvB c.2.2 = true := by unfold okC at hc; rw [Bool.and_eq_true] at hc; exact hc.2
  obtain ⟨_, k2, k3⟩ := mk_ok (hs _ h1 _ h2)
  have p1 := vld_pos (clk_vld hv (i := c.1.toNat) (by omega)).1
  have p2 := vld_pos (clk_vld hv (i := c.2.1.toNat) (by omega)).1
  have hb : 0 < (clk ps c.1.toNat).2 * (clk ps c.2.1.toNat).2 := Int.mul_pos (by omega) (by omega)
  exact me_mt k2 hl hb ho.pos k3 (ho.sub (by omega) (by omega))

theorem anG_ok {n : Nat} {cs : List Con} {l : List Int} (hc : chkE n l = 0) (h : anG n cs l ≠ 2) : (∀ t, t < cs.length → okC n (gc cs t) = true) ∧ anG n cs l = cloE n (anL n cs l) := by
  unfold anG at h ⊢
  rw [if_pos hc] at h ⊢
  rw [Int.toNat_natCast] at h ⊢
  unfold anE at h ⊢
  by_cases c : cs.all (okC n) = true
  · rw [if_pos c]
    refine ⟨fun t ht => ?_, rfl⟩
    rw [List.all_eq_true] at c
    have : gc cs t ∈ cs := by
      unfold gc
      rw [List.getD_eq_getElem?_getD, List.getElem?_eq_getElem ht]
      exact List.getElem_mem ht
    exact c _ this
  · rw [if_neg c] at h
    exact absurd rfl h

theorem wl_top {n : Nat} {l : List Int} (hl : l.length = (n + 1) * (n + 1)) (h : ∀ a b, a ≤ n → b ≤ n → Zo.Wl (Zo.At n l a b)) : Zo.Top n l :=
  ⟨hl, fun i j hi hj => by have := h i j hi hj; unfold Zo.Wl at this; omega⟩

/-- What the law asks. -/
theorem ands_math {n : Nat} {l : List Int} {ps : List Pq} {cs : List Con} (hr : rdE n l ps = 0) (he : anG n cs l = 0 ∨ anG n cs l = 4) :
    (∀ t, t < cs.length → okC n (gc cs t) = true) ∧
    (anG n cs l = 0 → rdE n (Zo.clo n (anL n cs l)) ps = 0 ∧ hsR n (Zo.clo n (anL n cs l)) ps = (hsR n l ps && anB ps cs cs.length)) ∧
    (anG n cs l = 4 → (hsR n l ps && anB ps cs cs.length) = false) := by
  obtain ⟨h1, h2, h3, h4⟩ := rd_parts hr
  obtain ⟨hok, hE⟩ := anG_ok h1 (show anG n cs l ≠ 2 by omega)
  obtain ⟨hn, hl, hrd⟩ := chk_len h1
  have hwl := wl_of hl hrd
  have hw2 := an_wl hok hl hwl
  have hl2 : (anL n cs l).length = (n + 1) * (n + 1) := by rw [anL_len, hl]
  have ht := chk_top h1
  have ht2 := wl_top hl2 hw2
  have ho := ov_of h3
  generalize dnP ps = D at ho
  generalize (fun i => (clk ps i).1 * (D / (clk ps i).2)) = X at ho
  have hp := ho.pt h2 h3
  have key : (hsR n l ps && anB ps cs cs.length) = true ↔ Zo.In n (anL n cs l) D X := by
    rw [an_in ho.pos ht hok, Bool.and_eq_true, has_in hr ho, anB_iff]
    constructor
    · intro h; exact ⟨h.1, fun t htt => (anM_mt h2 h3 h4 ho (hok t htt)).1 (h.2 t htt)⟩
    · intro h; exact ⟨h.1, fun t htt => (anM_mt h2 h3 h4 ho (hok t htt)).2 (h.2 t htt)⟩
  refine ⟨hok, fun e0 => ?_, fun e4 => ?_⟩
  · have hc : chkE n (Zo.clo n (anL n cs l)) = 0 := clo_chk hn hl2 hw2 (by rw [← hE]; exact e0)
    have hr2 : rdE n (Zo.clo n (anL n cs l)) ps = 0 := by rw [rdE_other hc h1]; exact hr
    refine ⟨hr2, ?_⟩
    rw [Bool.eq_iff_iff, key, has_in hr2 ho]
    exact clo_in hp (by omega) ht2
  · cases c : (hsR n l ps && anB ps cs cs.length)
    · rfl
    · have := cloE_full (clo_full hp (by omega) ht2 (key.1 c))
      rw [← hE] at this
      exact absurd e4 this
end Go.Proofs.Ytbnebinpemejlaa
