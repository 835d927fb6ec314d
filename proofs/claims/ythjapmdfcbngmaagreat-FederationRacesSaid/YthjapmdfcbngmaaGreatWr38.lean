/- A part. -/
import Derived.Test.YthjapmdfcbngmaaGreatWr21
import Derived.Test.YthjapmdfcbngmaaGreatWr20
import Derived.Test.YthjapmdfcbngmaaGreatWr23
namespace Go.Proofs.YthjapmdfcbngmaaGreat
open Go.RowKit
def Fn (x : Int) : Prop := -2147483648 ≤ x ∧ x ≤ 2147483649
theorem Vz.two {n : Nat} {l : List Int} (h : Vz n l) {i j : Nat} (hi : i ≤ n) (hj : j ≤ n) : Zo.At n l i j = 1099511627776 ∨ Fn (Zo.At n l i j) := lv_two (h.lv hi hj).1
theorem bd_row {n : Nat} {l : List Int} (h : Vz n l) {u i x : Nat} (hu : u ≤ n) (hi : i ≤ n) (hx : x ≤ n) (hb : bdB n l u i = true) :
  (Zo.At n l u x = 1099511627776 ∧ Zo.At n l i x = 1099511627776) ∨ (Fn (Zo.At n l u x) ∧ Fn (Zo.At n l i x) ∧ Zo.At n l u x = Zo.At n l i x + Zo.At n l u i - 1) := by
 obtain ⟨a1, a2, a3, a4⟩ := bd_fin h hu hi hb
 have e1 := h.tri hu hx hi
 have e2 := h.tri hi hx hu
 rcases h.two hu hx with c | c <;> rcases h.two hi hx with d | d
 · exact Or.inl ⟨c, d⟩
 · rw [smW_fin a1 d, if_neg (by omega)] at e1
   unfold Fn at d; omega
 · rw [smW_fin a2 c, if_neg (by omega)] at e2
   unfold Fn at c; omega
 · rw [smW_fin a1 d, if_neg (by omega)] at e1
   rw [smW_fin a2 c, if_neg (by omega)] at e2
   exact Or.inr ⟨c, d, by omega⟩
theorem bd_col {n : Nat} {l : List Int} (h : Vz n l) {x j v : Nat} (hx : x ≤ n) (hj : j ≤ n) (hv : v ≤ n) (hb : bdB n l j v = true) :
  (Zo.At n l x v = 1099511627776 ∧ Zo.At n l x j = 1099511627776) ∨ (Fn (Zo.At n l x v) ∧ Fn (Zo.At n l x j) ∧ Zo.At n l x v = Zo.At n l x j + Zo.At n l j v - 1) := by
 obtain ⟨a1, a2, a3, a4⟩ := bd_fin h hj hv hb
 have e1 := h.tri hx hv hj
 have e2 := h.tri hx hj hv
 rcases h.two hx hv with c | c <;> rcases h.two hx hj with d | d
 · exact Or.inl ⟨c, d⟩
 · rw [smW_fin d a1, if_neg (by omega)] at e1
   unfold Fn at d; omega
 · rw [smW_fin c a2, if_neg (by omega)] at e2
   unfold Fn at c; omega
 · rw [smW_fin d a1, if_neg (by omega)] at e1
   rw [smW_fin c a2, if_neg (by omega)] at e2
   exact Or.inr ⟨c, d, by omega⟩
theorem row_sum {n : Nat} {l : List Int} (h : Vz n l) {u i x : Nat} (hu : u ≤ n) (hi : i ≤ n) (hx : x ≤ n) (hb : bdB n l u i = true) : Zo.smW (Zo.At n l u i) (Zo.At n l i x) = Zo.At n l u x := by
 obtain ⟨a1, a2, a3, a4⟩ := bd_fin h hu hi hb
 rcases bd_row h hu hi hx hb with ⟨c, d⟩ | ⟨c, d, e⟩
 · rw [c, d, smW_no]
 · rw [smW_fin a1 d, if_neg (by omega)]; omega
theorem col_sum {n : Nat} {l : List Int} (h : Vz n l) {x j v : Nat} (hx : x ≤ n) (hj : j ≤ n) (hv : v ≤ n) (hb : bdB n l j v = true) : Zo.smW (Zo.At n l x j) (Zo.At n l j v) = Zo.At n l x v := by
 obtain ⟨a1, a2, a3, a4⟩ := bd_fin h hj hv hb
 rcases bd_col h hx hj hv hb with ⟨c, d⟩ | ⟨c, d, e⟩
 · rw [c, d, no_smW]
 · rw [smW_fin d a1, if_neg (by omega)]; omega
structure Mkz (n : Nat) (z c : List Int) : Prop where
 vz : Vz n z
 lo : ∀ a b, a ≤ n → b ≤ n → Zo.At n z a b ≤ Zo.At n c a b
 top : ∀ a b, a ≤ n → b ≤ n → Zo.At n c a b ≤ 1099511627776
 tri : ∀ a b k, a ≤ n → b ≤ n → k ≤ n → Zo.At n c a b ≤ Zo.smW (Zo.At n c a k) (Zo.At n c k b)
 low : ∀ a, a ≤ n → Zo.At n c a a ≤ 1 ∧ Zo.At n c 0 a ≤ 1
 kp : ∀ a b, a ≤ n → b ≤ n → kpB n z a b = true → Zo.At n c a b ≤ Zo.At n z a b
theorem Mkz.by {n : Nat} {z c : List Int} (m : Mkz n z c) {a b k : Nat} (ha : a ≤ n) (hb : b ≤ n) (hk : k ≤ n) (h1 : Zo.At n c a k = Zo.At n z a k) (h2 : Zo.At n c k b = Zo.At n z k b)
  (e : Zo.smW (Zo.At n z a k) (Zo.At n z k b) = Zo.At n z a b) : Zo.At n c a b = Zo.At n z a b := by
 have := m.tri a b k ha hb hk
 rw [h1, h2, e] at this
 exact Int.le_antisymm this (m.lo a b ha hb)
theorem kp_in {n : Nat} {z : List Int} (h : Vz n z) {i j : Nat} (hi : i ≤ n) (hj : j ≤ n) (hij : i ≠ j) (hb : bdB n z i j = true) (hx : nxB n z i j = true) (h0 : ¬ (i = 0 ∧ Zo.At n z i j = 1)) : kpB n z i j = true := by
 obtain ⟨a1, a2, a3, a4⟩ := bd_fin h hi hj hb
 unfold kpB kpN
 rw [if_pos hb, hx, decide_eq_false hij, decide_eq_false (show ¬ Zo.At n z i j = 1099511627776 by omega)]
 simp only [Bool.not_false, Bool.true_and, Bool.or_eq_true, Bool.not_eq_true', decide_eq_false_iff_not]
 omega
theorem Mkz.next {n : Nat} {z c : List Int} (m : Mkz n z c) {i j : Nat} (hi : i ≤ n) (hj : j ≤ n) (hij : i ≠ j) (hb : bdB n z i j = true) (hx : nxB n z i j = true) : Zo.At n c i j = Zo.At n z i j := by
 refine Int.le_antisymm ?_ (m.lo i j hi hj)
 by_cases h0 : i = 0 ∧ Zo.At n z i j = 1
 · obtain ⟨rfl, e⟩ := h0
   rw [e]; exact (m.low j hj).2
 · exact m.kp i j hi hj (kp_in m.vz hi hj hij hb hx h0)
theorem nx_of {n : Nat} {z : List Int} (h : Vz n z) {i j : Nat} (hi : i ≤ n) (hno : ∀ k, k ≤ n → k ≠ i → k ≠ j → btB i j k = true → bdB n z i k = false) : nxB n z i j = true := by
 refine nxB_yes fun k hk => ?_
 cases hbt : btB i j k
 · simp
 · by_cases c : k = i
   · simp [skB, c]
   by_cases d : k = j
   · simp [skB, d]
   have := hno k (by omega) c d hbt
   rw [bd_comm h hi (by omega)] at this
   simp [skB, this]
theorem Mkz.up {n : Nat} {z c : List Int} (m : Mkz n z c) : ∀ d i j, j ≤ n → i < j → j - i ≤ d → bdB n z i j = true → Zo.At n c i j = Zo.At n z i j := by
 intro d
 induction d with
 | zero => intro i j _ h1 h2; omega
 | succ d ih =>
  intro i j hj hij hd hb
  by_cases hk : ∃ k, i < k ∧ k < j ∧ bdB n z i k = true
  · obtain ⟨k, k1, k2, k3⟩ := hk
    have k4 := bd_trans m.vz (i := k) (j := i) (k := j) (by omega) (by omega) hj (bd_symm m.vz (by omega) (by omega) k3) hb
    exact m.by (by omega) hj (by omega) (ih i k (by omega) k1 (by omega) k3) (ih k j hj k2 (by omega) k4) (row_sum m.vz (by omega) (by omega) hj k3)
  · refine m.next (by omega) hj (by omega) hb (nx_of m.vz (by omega) fun k h1 h2 h3 h4 => ?_)
    cases e : bdB n z i k
    · rfl
    · exfalso
      unfold btB at h4
      simp only [Bool.or_eq_true, Bool.and_eq_true, decide_eq_true_eq] at h4
      exact hk ⟨k, by omega, by omega, e⟩
theorem Mkz.down {n : Nat} {z c : List Int} (m : Mkz n z c) : ∀ d i j, i ≤ n → j < i → (n - i) + j < d → bdB n z i j = true → Zo.At n c i j = Zo.At n z i j := by
 intro d
 induction d with
 | zero => intro i j _ h1 h2; omega
 | succ d ih =>
  intro i j hi hij hd hb
  have tr : ∀ k, k ≤ n → bdB n z i k = true → bdB n z k j = true := fun k hk e => bd_trans m.vz hk hi (by omega) (bd_symm m.vz hi hk e) hb
  by_cases hk : ∃ k, k ≤ n ∧ bdB n z i k = true ∧ i < k
  · obtain ⟨k, k1, k2, k3⟩ := hk
    exact m.by hi (by omega) k1 (m.up _ i k k1 k3 (Nat.le_refl _) k2) (ih k j k1 (by omega) (by omega) (tr k k1 k2)) (row_sum m.vz hi k1 (by omega) k2)
  by_cases hk' : ∃ k, k < j ∧ bdB n z i k = true
  · obtain ⟨k, k1, k2⟩ := hk'
    exact m.by hi (by omega) (by omega) (ih i k hi (by omega) (by omega) k2) (m.up _ k j (by omega) k1 (Nat.le_refl _) (tr k (by omega) k2)) (row_sum m.vz hi (by omega) (by omega) k2)
  refine m.next hi (by omega) (by omega) hb (nx_of m.vz hi fun k h1 h2 h3 h4 => ?_)
  cases e : bdB n z i k
  · rfl
  · exfalso
    unfold btB at h4
    simp only [Bool.or_eq_true, Bool.and_eq_true, decide_eq_true_eq] at h4
    by_cases g : i < k
    · exact hk ⟨k, h1, e, g⟩
    · exact hk' ⟨k, by omega, e⟩
theorem Mkz.cls {n : Nat} {z c : List Int} (m : Mkz n z c) {i j : Nat} (hi : i ≤ n) (hj : j ≤ n) (hb : bdB n z i j = true) : Zo.At n c i j = Zo.At n z i j := by
 by_cases c1 : i < j
 · exact m.up _ i j hj c1 (Nat.le_refl _) hb
 by_cases c2 : j < i
 · exact m.down _ i j hi c2 (Nat.lt_succ_self _) hb
 obtain rfl : i = j := by omega
 have := (m.low i hi).1
 have := m.lo i i hi hi
 have := (m.vz.lv hi hi).2.1 rfl
 omega
theorem cnt_mono {S T : Nat → Bool} : ∀ N, (∀ v, v < N → S v = true → T v = true) → Zo.cnt S N ≤ Zo.cnt T N := by
 intro N
 induction N with
 | zero => intro _; exact Nat.le_refl _
 | succ N ih =>
  intro h
  rw [Zo.cnt_succ, Zo.cnt_succ]
  have := ih fun v hv => h v (by omega)
  have := h N (by omega)
  cases e : S N <;> cases g : T N <;> simp_all <;> omega
theorem cnt_lt {S T : Nat → Bool} {k : Nat} : ∀ N, (∀ v, v < N → S v = true → T v = true) → k < N → T k = true → S k = false → Zo.cnt S N < Zo.cnt T N := by
 intro N
 induction N with
 | zero => intro _ hk; omega
 | succ N ih =>
  intro h hk h1 h2
  rw [Zo.cnt_succ, Zo.cnt_succ]
  by_cases c : k = N
  · subst c
    have := cnt_mono k fun v hv => h v (by omega)
    rw [h1, h2]; simp; omega
  · have := ih (fun v hv => h v (by omega)) (by omega) h1 h2
    have := h N (by omega)
    cases e : S N <;> cases g : T N <;> simp_all <;> omega
theorem first_two {n : Nat} {z : List Int} (h : Vz n z) {i j : Nat} (hi : i ≤ n) (hj : j ≤ n) (fi : fiB n z i = true) (fj : fiB n z j = true) (hij : i ≠ j) : bdB n z i j = false := by
 by_cases c : i < j
 · exact fiB_iff.1 fj i c
 · rw [bd_comm h hi hj]; exact fiB_iff.1 fi j (by omega)
theorem back_two {n : Nat} {z : List Int} (h : Vz n z) {i j : Nat} (hi : i ≤ n) (hj : j ≤ n) (hb : bdB n z i j = false) : 2 ≤ Zo.smW (Zo.At n z i j) (Zo.At n z j i) := by
 have e := h.tri hi hi hj
 rw [(h.lv hi hi).2.1 rfl] at e
 unfold bdB at hb
 rw [decide_eq_false_iff_not] at hb
 omega
theorem kpC_iff {n : Nat} {z : List Int} {i j k : Nat} : kpC n z i j k = true ↔ fiB n z k = true ∧ k ≠ i ∧ k ≠ j ∧ Zo.At n z i j = Zo.smW (Zo.At n z i k) (Zo.At n z k j) := by
 unfold kpC kpS
 simp only [Bool.and_eq_true, Bool.not_eq_true', decide_eq_false_iff_not, decide_eq_true_eq]
 constructor
 · rintro ⟨⟨⟨a, b⟩, c⟩, d⟩; exact ⟨a, b, c, d⟩
 · rintro ⟨a, b, c, d⟩; exact ⟨⟨⟨a, b⟩, c⟩, d⟩
theorem sm_fin {x y s : Int} (hx : x = 1099511627776 ∨ Fn x) (hy : y = 1099511627776 ∨ Fn y) (hs : Fn s) (e : s = Zo.smW x y) : Fn x ∧ Fn y := by
 rcases hx with rfl | hx
 · rw [no_smW] at e; unfold Fn at hs; omega
 rcases hy with rfl | hy
 · rw [smW_no] at e; unfold Fn at hs; omega
 exact ⟨hx, hy⟩
theorem sub_left {n : Nat} {z : List Int} (h : Vz n z) {i j k t : Nat} (hi : i ≤ n) (hj : j ≤ n) (hk : k ≤ n) (ht : t ≤ n) (fj : fiB n z j = true) (hf : Fn (Zo.At n z i j))
  (hc : kpC n z i j k = true) (hs : kpC n z i k t = true) : kpC n z i j t = true := by
 obtain ⟨c1, c2, c3, c4⟩ := kpC_iff.1 hc
 obtain ⟨s1, s2, s3, s4⟩ := kpC_iff.1 hs
 obtain ⟨f1, f2⟩ := sm_fin (h.two hi hk) (h.two hk hj) hf c4
 obtain ⟨f3, f4⟩ := sm_fin (h.two hi ht) (h.two ht hk) f1 s4
 have e1 := h.tri ht hj hk
 have e2 := h.tri hi hj ht
 have f5 : Fn (Zo.At n z t j) := by
  rcases h.two ht hj with q | q
  · rw [smW_fin f4 f2] at e1
    unfold Fn at *
    split at e1 <;> omega
  · exact q
 refine kpC_iff.2 ⟨s1, s2, ?_, ?_⟩
 · rintro rfl
   have b := back_two h ht hk (first_two h ht hk s1 c1 s3)
   rw [smW_fin f4 f2] at b
   rw [smW_fin f3 f4] at s4
   rw [smW_fin f1 f2] at c4
   split at b <;> split at s4 <;> split at c4 <;> omega
 · rw [smW_fin f3 f5] at e2 ⊢
   rw [smW_fin f4 f2] at e1
   rw [smW_fin f3 f4] at s4
   rw [smW_fin f1 f2] at c4
   split at e1 <;> split at s4 <;> split at c4 <;> split at e2 <;> split <;> omega
theorem sub_right {n : Nat} {z : List Int} (h : Vz n z) {i j k t : Nat} (hi : i ≤ n) (hj : j ≤ n) (hk : k ≤ n) (ht : t ≤ n) (fi : fiB n z i = true) (hf : Fn (Zo.At n z i j))
  (hc : kpC n z i j k = true) (hs : kpC n z k j t = true) : kpC n z i j t = true := by
 obtain ⟨c1, c2, c3, c4⟩ := kpC_iff.1 hc
 obtain ⟨s1, s2, s3, s4⟩ := kpC_iff.1 hs
 obtain ⟨f1, f2⟩ := sm_fin (h.two hi hk) (h.two hk hj) hf c4
 obtain ⟨f3, f4⟩ := sm_fin (h.two hk ht) (h.two ht hj) f2 s4
 have e1 := h.tri hi ht hk
 have e2 := h.tri hi hj ht
 have f5 : Fn (Zo.At n z i t) := by
  rcases h.two hi ht with q | q
  · rw [smW_fin f1 f3] at e1
    unfold Fn at *
    split at e1 <;> omega
  · exact q
 refine kpC_iff.2 ⟨s1, ?_, s3, ?_⟩
 · rintro rfl
   have b := back_two h ht hk (first_two h ht hk s1 c1 s2)
   rw [smW_fin f1 f3] at b
   rw [smW_fin f3 f4] at s4
   rw [smW_fin f1 f2] at c4
   split at b <;> split at s4 <;> split at c4 <;> omega
 · rw [smW_fin f5 f4] at e2 ⊢
   rw [smW_fin f1 f3] at e1
   rw [smW_fin f3 f4] at s4
   rw [smW_fin f1 f2] at c4
   split at e1 <;> split at s4 <;> split at c4 <;> split at e2 <;> split <;> omega
theorem kpA_iff {n : Nat} {z : List Int} {i j k : Nat} : kpA n z i j k = true ↔ i = 0 ∧ bdB n z k j = true ∧ Zo.At n z 0 k = 1 := by
 unfold kpA
 simp only [Bool.and_eq_true, decide_eq_true_eq]
 exact ⟨fun ⟨⟨a, b⟩, c⟩ => ⟨a, b, c⟩, fun ⟨a, b, c⟩ => ⟨⟨a, b⟩, c⟩⟩
theorem Mkz.first {n : Nat} {z c : List Int} (m : Mkz n z c) : ∀ d i j, i ≤ n → j ≤ n → fiB n z i = true → fiB n z j = true → i ≠ j → Zo.cnt (kpC n z i j) (n + 1) < d → Zo.At n c i j = Zo.At n z i j := by
 intro d
 induction d with
 | zero => intro i j _ _ _ _ _ h; omega
 | succ d ih =>
  intro i j hi hj fi fj hij hd
  rcases m.vz.two hi hj with q | hf
  · have := m.top i j hi hj
    have := m.lo i j hi hj
    omega
  by_cases hA : ∃ k, k ≤ n ∧ kpA n z i j k = true
  · obtain ⟨k, hk, hA⟩ := hA
    obtain ⟨rfl, hb, h0⟩ := kpA_iff.1 hA
    have h1 : Zo.At n c 0 k = Zo.At n z 0 k := by
     have := (m.low k hk).2
     have := m.lo 0 k hi hk
     omega
    exact m.by hi hj hk h1 (m.cls hk hj hb) (col_sum m.vz hi hk hj hb)
  by_cases hC : ∃ k, k ≤ n ∧ kpC n z i j k = true
  · obtain ⟨k, hk, hC⟩ := hC
    obtain ⟨c1, c2, c3, c4⟩ := kpC_iff.1 hC
    have n1 : kpC n z i k k = false := by
     cases e : kpC n z i k k
     · rfl
     · exact absurd rfl (kpC_iff.1 e).2.2.1
    have n2 : kpC n z k j k = false := by
     cases e : kpC n z k j k
     · rfl
     · exact absurd rfl (kpC_iff.1 e).2.1
    have l1 := cnt_lt (S := kpC n z i k) (T := kpC n z i j) (n + 1) (fun t ht hs => sub_left m.vz hi hj hk (by omega) fj hf hC hs) (show k < n + 1 by omega) hC n1
    have l2 := cnt_lt (S := kpC n z k j) (T := kpC n z i j) (n + 1) (fun t ht hs => sub_right m.vz hi hj hk (by omega) fi hf hC hs) (show k < n + 1 by omega) hC n2
    exact m.by hi hj hk (ih i k hi hk fi c1 (fun q => c2 q.symm) (by omega)) (ih k j hk hj c1 fj c3 (by omega)) c4.symm
  · refine Int.le_antisymm (m.kp i j hi hj ?_) (m.lo i j hi hj)
    have hb := first_two m.vz hi hj fi fj hij
    have hM : kpM n z i j = true := kpM_yes fi fj fun k hk => by
     cases e : kpA n z i j k
     · cases g : kpC n z i j k
       · rfl
       · exact absurd ⟨k, by omega, g⟩ hC
     · exact absurd ⟨k, by omega, e⟩ hA
    unfold kpB
    rw [hb, if_neg (by simp), hM, decide_eq_false hij, decide_eq_false (show ¬ Zo.At n z i j = 1099511627776 by unfold Fn at hf; omega)]
    rfl
theorem Mkz.all {n : Nat} {z c : List Int} (m : Mkz n z c) {i j : Nat} (hi : i ≤ n) (hj : j ≤ n) : Zo.At n c i j = Zo.At n z i j := by
 by_cases hb : bdB n z i j = true
 · exact m.cls hi hj hb
 obtain ⟨i1, i2, i3⟩ := cls_is m.vz hi
 obtain ⟨j1, j2, j3⟩ := cls_is m.vz hj
 have i2' := bd_symm m.vz hi (by omega) i2
 have j2' := bd_symm m.vz hj (by omega) j2
 have fi : fiB n z (clsF n z i) = true := (cls_first m.vz (by omega)).1 ((cls_eq m.vz (by omega) hi).2 i2')
 have fj : fiB n z (clsF n z j) = true := (cls_first m.vz (by omega)).1 ((cls_eq m.vz (by omega) hj).2 j2')
 have hne : clsF n z i ≠ clsF n z j := fun e => hb ((cls_eq m.vz hi hj).1 e)
 have h1 := m.first _ _ _ (by omega) (by omega) fi fj hne (Nat.lt_succ_self _)
 have h2 := m.by hi (show clsF n z j ≤ n by omega) (show clsF n z i ≤ n by omega) (m.cls hi (by omega) i2) h1 (row_sum m.vz hi (by omega) (by omega) i2)
 exact m.by hi hj (show clsF n z j ≤ n by omega) h2 (m.cls (by omega) hj j2') (col_sum m.vz hi (by omega) hj j2')
theorem sm_mono {a b x y : Int} (ha : a = 1099511627776 ∨ Fn a) (hb : b = 1099511627776 ∨ Fn b) (h1 : a ≤ x) (h2 : b ≤ y) (hx : x ≤ 1099511627776) (hy : y ≤ 1099511627776) : Zo.smW a b ≤ Zo.smW x y := by
 by_cases cx : x = 1099511627776
 · subst cx
   rw [no_smW]
   rcases ha with rfl | ha
   · rw [no_smW]; omega
   rcases hb with rfl | hb
   · rw [smW_no]; omega
   rw [smW_fin ha hb]
   unfold Fn at *
   split <;> omega
 by_cases cy : y = 1099511627776
 · subst cy
   rw [smW_no]
   rcases ha with rfl | ha
   · rw [no_smW]; omega
   rcases hb with rfl | hb
   · rw [smW_no]; omega
   rw [smW_fin ha hb]
   unfold Fn at *
   split <;> omega
 rcases ha with rfl | ha
 · omega
 rcases hb with rfl | hb
 · omega
 rw [smW_fin ha hb]
 unfold Fn at *
 have e : Zo.smW x y = if x % 2 = 0 ∧ y % 2 = 0 then Zo.w64 (x + y) else Zo.w64 (Zo.w64 (x + y) - 1) := by
  unfold Zo.smW; rw [if_neg (by omega)]
 rw [e]
 unfold Zo.w64
 split <;> split <;> omega
theorem sm_less1 {a b x y : Int} (ha : Fn a) (ho : a % 2 = 1) (hb : Fn b) (h1 : a ≤ x) (h2 : b < y) (hx : x ≤ 1099511627776) (hy : y ≤ 1099511627776) : a + b - 1 < Zo.smW x y := by
 unfold Fn at *
 by_cases cx : x = 1099511627776
 · subst cx
   rw [no_smW]; omega
 by_cases cy : y = 1099511627776
 · subst cy
   rw [smW_no]; omega
 unfold Zo.smW Zo.w64
 rw [if_neg (by omega)]
 split <;> omega
theorem sm_less2 {a b x y : Int} (ha : Fn a) (ho : b % 2 = 1) (hb : Fn b) (h1 : a < x) (h2 : b ≤ y) (hx : x ≤ 1099511627776) (hy : y ≤ 1099511627776) : a + b - 1 < Zo.smW x y := by
 unfold Fn at *
 by_cases cx : x = 1099511627776
 · subst cx
   rw [no_smW]; omega
 by_cases cy : y = 1099511627776
 · subst cy
   rw [smW_no]; omega
 unfold Zo.smW Zo.w64
 rw [if_neg (by omega)]
 split <;> omega
structure Cut (n : Nat) (z : List Int) (A B : Nat → Prop) : Prop where
 fin : ∀ u v, u ≤ n → v ≤ n → A u → B v → Fn (Zo.At n z u v)
 low : ∀ u v, u ≤ n → v ≤ n → A u → B v → (u = 0 ∨ u = v) → Zo.At n z u v < 1
 way : ∀ u v k, u ≤ n → v ≤ n → k ≤ n → A u → B v → (A k ∧ bdB n z u k = true) ∨ (B k ∧ bdB n z k v = true) ∨ Zo.At n z u v < Zo.smW (Zo.At n z u k) (Zo.At n z k v)
def Ovk (n : Nat) (z : List Int) (A B : Nat → Prop) (x : List Int) : Prop :=
 x.length = (n + 1) * (n + 1) ∧ ∀ a b, a ≤ n → b ≤ n → Zo.At n z a b ≤ Zo.At n x a b ∧ Zo.At n x a b ≤ 1099511627776 ∧ (A a → B b → Zo.At n z a b < Zo.At n x a b)
theorem cut_clo {n : Nat} {z x : List Int} {A B : Nat → Prop} (h : Vz n z) (hc : Cut n z A B) (hx : Ovk n z A B x) : Ovk n z A B (Zo.clo n x) := by
 refine Zo.clo_keeps (R := Ovk n z A B) ?_ ?_ hx
 · intro l i j hij hi hj ⟨hl, hr⟩
   refine ⟨by simpa using hl, fun a b ha hb => ?_⟩
   rw [Zo.At_set hl hi hj _ hb]
   obtain ⟨r1, r2, r3⟩ := hr a b ha hb
   split
   · rename_i e
     obtain ⟨rfl, rfl⟩ := e
     have q : Zo.At n z a b ≤ 1 := by
      rcases hij with e | e
      · exact (h.lv ha hb).2.2 e
      · have := (h.lv ha hb).2.1 e; omega
     refine ⟨by omega, by omega, fun hA hB => ?_⟩
     have := hc.low a b ha hb hA hB hij
     have := r3 hA hB
     omega
   · exact ⟨r1, r2, r3⟩
 · intro l k i j hk hi hj ⟨hl, hr⟩
   refine ⟨by simpa [Zo.rlx] using hl, fun a b ha hb => ?_⟩
   unfold Zo.rlx
   rw [Zo.At_set hl hi hj _ hb]
   obtain ⟨r1, r2, r3⟩ := hr a b ha hb
   split
   · rename_i e
     obtain ⟨rfl, rfl⟩ := e
     obtain ⟨p1, p2, p3⟩ := hr a k ha hk
     obtain ⟨q1, q2, q3⟩ := hr k b hk hb
     have mono := sm_mono (h.two ha hk) (h.two hk hb) p1 q1 p2 q2
     have tr := h.tri ha hb hk
     refine ⟨by omega, by omega, fun hA hB => ?_⟩
     have := r3 hA hB
     have key : Zo.At n z a b < Zo.smW (Zo.At n l a k) (Zo.At n l k b) := by
      have hf := hc.fin a b ha hb hA hB
      rcases hc.way a b k ha hb hk hA hB with ⟨hAk, hbd⟩ | ⟨hBk, hbd⟩ | hw
      · obtain ⟨a1, a2, a3, a4⟩ := bd_fin h ha hk hbd
        rcases bd_row h ha hk hb hbd with ⟨c, _⟩ | ⟨c, d, e⟩
        · rw [c] at hf; unfold Fn at hf; omega
        · have := sm_less1 a1 a4 d p1 (q3 hAk hB) p2 q2
          omega
      · obtain ⟨a1, a2, a3, a4⟩ := bd_fin h hk hb hbd
        rcases bd_col h ha hk hb hbd with ⟨c, _⟩ | ⟨c, d, e⟩
        · rw [c] at hf; unfold Fn at hf; omega
        · have := sm_less2 d a4 a1 (p3 hA hBk) q1 p2 q2
          omega
      · omega
     omega
   · exact ⟨r1, r2, r3⟩
set_option maxRecDepth 100000 in
theorem bum_facts : ∀ n : Nat, n < 11 → flE (n : Int) 1099511627776 = 0 ∧ chkE (n : Int) (buM (n : Int)) = 0 ∧ ∀ a, a < n + 1 → ∀ b, b < n + 1 → Zo.At n (buM (n : Int)) a b = if a = b ∨ a = 0 then 1 else 1099511627776 := by
 decide +kernel
def Fr (n : Nat) (z : List Int) (c : Con) : Prop := ∃ i j : Nat, i ≤ n ∧ j ≤ n ∧ kpB n z i j = true ∧ c = ((i : Int), (j : Int), Zo.At n z i j)
theorem fr_ok {n : Nat} {z : List Int} (h : Vz n z) {c : Con} (hc : Fr n z c) : okC n c = true := by
 obtain ⟨i, j, hi, hj, _, rfl⟩ := hc
 unfold okC
 rw [(h.lv hi hj).1]
 simp; omega
theorem red_mem {n : Nat} {z : List Int} {c : Con} : c ∈ redL n z ↔ Fr n z c := by
 unfold redL redS redT Fr
 simp only [List.mem_flatMap, List.mem_range]
 constructor
 · rintro ⟨i, hi, j, hj, hm⟩
   by_cases e : kpB n z i j = true
   · rw [if_pos e] at hm
     exact ⟨i, j, by omega, by omega, e, by simpa using hm⟩
   · rw [if_neg e] at hm; simp at hm
 · rintro ⟨i, j, hi, hj, e, rfl⟩
   exact ⟨i, by omega, j, by omega, by rw [if_pos e]; simp⟩
theorem gc_mem {cs : List Con} {t : Nat} (h : t < cs.length) : gc cs t ∈ cs := by
 rw [show gc cs t = cs[t] by simp [gc, h]]; exact List.getElem_mem h
theorem an_exact {n : Nat} {cs : List Con} (hok : ∀ t, t < cs.length → okC n (gc cs t) = true) {u : List Int} (hu : u.length = (n + 1) * (n + 1)) : ∀ s, s ≤ cs.length → ∀ a b, a ≤ n → b ≤ n →
  Zo.At n ((List.range s).foldl (anS n cs) u) a b = Zo.At n u a b ∨ ∃ t, t < s ∧ (gc cs t).1.toNat = a ∧ (gc cs t).2.1.toNat = b ∧ Zo.At n ((List.range s).foldl (anS n cs) u) a b = (gc cs t).2.2 := by
 intro s
 induction s with
 | zero => intro _ a b _ _; exact Or.inl rfl
 | succ s ih =>
  intro hs a b ha hb
  rw [Zo.fold_succ, anS_at (by rw [an_len, hu]) (hok s (by omega)) hb]
  split
  · rename_i e
    obtain ⟨rfl, rfl⟩ := e
    unfold imin
    by_cases c : Zo.At n ((List.range s).foldl (anS n cs) u) (gc cs s).1.toNat (gc cs s).2.1.toNat ≤ (gc cs s).2.2
    · rw [Int.min_eq_left c]
      rcases ih (by omega) _ _ ha hb with q | ⟨t, h1, h2, h3, h4⟩
      · exact Or.inl q
      · exact Or.inr ⟨t, by omega, h2, h3, h4⟩
    · rw [Int.min_eq_right (by omega)]
      exact Or.inr ⟨s, by omega, rfl, rfl, rfl⟩
  · rcases ih (by omega) a b ha hb with q | ⟨t, h1, h2, h3, h4⟩
    · exact Or.inl q
    · exact Or.inr ⟨t, by omega, h2, h3, h4⟩
structure Bu (n : Nat) (z : List Int) (cs : List Con) (x : List Int) : Prop where
 len : x.length = (n + 1) * (n + 1)
 lo : ∀ a b, a ≤ n → b ≤ n → Zo.At n z a b ≤ Zo.At n x a b
 top : ∀ a b, a ≤ n → b ≤ n → Zo.At n x a b ≤ 1099511627776
 wl : ∀ a b, a ≤ n → b ≤ n → Zo.Wl (Zo.At n x a b)
 of : ∀ a b, a ≤ n → b ≤ n → (Zo.At n x a b = if a = b ∨ a = 0 then 1 else 1099511627776) ∨ ∃ c, c ∈ cs ∧ c.1.toNat = a ∧ c.2.1.toNat = b
 le : ∀ c, c ∈ cs → Zo.At n x c.1.toNat c.2.1.toNat ≤ c.2.2
theorem bu_of {n : Nat} {z : List Int} {cs : List Con} (h : Vz n z) (hc : ∀ c, c ∈ cs → Fr n z c) : Bu n z cs (anL n cs (buM (n : Int))) ∧ buE (n : Int) cs = cloE n (anL n cs (buM (n : Int))) := by
 obtain ⟨f1, f2, f3⟩ := bum_facts n (by have := h.hn; omega)
 have hok : ∀ t, t < cs.length → okC n (gc cs t) = true := fun t ht => fr_ok h (hc _ (gc_mem ht))
 have hml : (buM (n : Int)).length = (n + 1) * (n + 1) := by unfold buM; rw [Zo.clo_length]; simp
 have hv : Vz n (buM (n : Int)) := ⟨h.hn, hml, f2⟩
 have f3' : ∀ a b, a ≤ n → b ≤ n → Zo.At n (buM (n : Int)) a b = if a = b ∨ a = 0 then 1 else 1099511627776 := fun a b ha hb => f3 a (by omega) b (by omega)
 have lo : ∀ a b, a ≤ n → b ≤ n → Zo.At n z a b ≤ Zo.At n (buM (n : Int)) a b := by
  intro a b ha hb
  rw [f3' a b ha hb]
  have l1 := h.lv ha hb
  split
  · rename_i e
    rcases e with e | e
    · have := l1.2.1 e; omega
    · exact l1.2.2 e
  · rcases h.two ha hb with q | q
    · omega
    · unfold Fn at q; omega
 have ex := an_exact hok hml cs.length (Nat.le_refl _)
 have le1 := an_le hok hml cs.length (Nat.le_refl _)
 refine ⟨⟨by rw [anL_len, hml], ?_, ?_, ?_, ?_, ?_⟩, ?_⟩
 · intro a b ha hb
   rcases ex a b ha hb with q | ⟨t, h1, h2, h3, h4⟩
   · show _ ≤ Zo.At n (anL n cs (buM (n : Int))) a b
     unfold anL; rw [q]; exact lo a b ha hb
   · show _ ≤ Zo.At n (anL n cs (buM (n : Int))) a b
     unfold anL; rw [h4]
     obtain ⟨i, j, hi, hj, _, e⟩ := hc _ (gc_mem h1)
     rw [e] at h2 h3 ⊢
     simp at h2 h3
     subst h2; subst h3
     exact Int.le_refl _
 · intro a b ha hb
   have := le1 a b ha hb
   unfold anL
   have t := f3' a b ha hb
   split at t <;> omega
 · refine an_wl hok hml fun a b ha hb => ?_
   have t := f3' a b ha hb
   rw [t]
   unfold Zo.Wl
   split <;> omega
 · intro a b ha hb
   rcases ex a b ha hb with q | ⟨t, h1, h2, h3, h4⟩
   · left
     unfold anL; rw [q]; exact f3' a b ha hb
   · exact Or.inr ⟨_, gc_mem h1, h2, h3⟩
 · intro c hcm
   obtain ⟨t, ht, rfl⟩ := List.getElem_of_mem hcm
   have := an_at hok hml cs.length (Nat.le_refl _) t ht
   rw [show gc cs t = cs[t] by simp [gc, ht]] at this
   exact this
 · unfold buE
   rw [if_pos f1]
   unfold anG
   rw [if_pos f2]
   exact anE_ok hok
theorem ovk_of {n : Nat} {z x : List Int} {cs : List Con} (b : Bu n z cs x) : Ovk n z (fun _ => False) (fun _ => False) x :=
 ⟨b.len, fun a c ha hc => ⟨b.lo a c ha hc, b.top a c ha hc, fun q => q.elim⟩⟩
theorem cut_none (n : Nat) (z : List Int) : Cut n z (fun _ => False) (fun _ => False) := ⟨fun _ _ _ _ q => q.elim, fun _ _ _ _ q => q.elim, fun _ _ _ _ _ _ q => q.elim⟩
theorem back_all {n : Nat} {z : List Int} (h : Vz n z) : buE (n : Int) (redL n z) = 0 ∧ buL (n : Int) (redL n z) = z := by
 obtain ⟨b, e⟩ := bu_of h (cs := redL n z) fun c hc => red_mem.1 hc
 obtain ⟨hl, ho⟩ := cut_clo h (cut_none n z) (ovk_of b)
 have hd : ∀ i, i ≤ n → 1 ≤ Zo.At n (Zo.clo n (anL n (redL n z) (buM (n : Int)))) i i := fun i hi => by
  have := (ho i i hi hi).1
  rw [(h.lv hi hi).2.1 rfl] at this; exact this
 have mk : Mkz n z (Zo.clo n (anL n (redL n z) (buM (n : Int)))) := by
  refine ⟨h, fun a b ha hb => (ho a b ha hb).1, fun a b ha hb => (ho a b ha hb).2.1, fun a c k ha hc hk => Zo.clo_sums h.hn b.len b.wl hd a c k ha hc hk, fun a ha => Zo.clo_lows b.len a ha, fun i j hi hj hk => ?_⟩
  refine Int.le_trans (Zo.le_clo b.len i j hi hj) ?_
  have := b.le ((i : Int), (j : Int), Zo.At n z i j) (red_mem.2 ⟨i, j, hi, hj, hk, rfl⟩)
  simpa using this
 have eq : Zo.clo n (anL n (redL n z) (buM (n : Int))) = z := Zo.At_ext hl h.hl fun a b ha hb => mk.all ha hb
 refine ⟨?_, eq⟩
 rw [e, cloE_zero]
 refine ⟨cloB_iff.2 hd, ?_⟩
 rw [eq]
 exact all_of_lv h.hl fun a b ha hb => (h.lv ha hb).1
end Go.Proofs.YthjapmdfcbngmaaGreat
