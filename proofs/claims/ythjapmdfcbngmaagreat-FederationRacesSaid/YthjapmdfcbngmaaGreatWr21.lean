/- A part. -/
import Derived.Test.YthjapmdfcbngmaaGreatWr15
import Derived.Test.YthjapmdfcbngmaaGreatWr20
import Derived.Test.YthjapmdfcbngmaaGreatWr18
namespace Go.Proofs.YthjapmdfcbngmaaGreat
set_option maxHeartbeats 3200000
open Go.RowKit
theorem smW_fin {a b : Int} (ha : -2147483648 ≤ a ∧ a ≤ 2147483649) (hb : -2147483648 ≤ b ∧ b ≤ 2147483649) : Zo.smW a b = if a % 2 = 0 ∧ b % 2 = 0 then a + b else a + b - 1 := by
 unfold Zo.smW Zo.w64
 rw [if_neg (by omega)]
 split <;> omega
theorem lv_two {a : Int} (h : lvB a = true) : a = 1099511627776 ∨ (-2147483648 ≤ a ∧ a ≤ 2147483649) := by unfold lvB at h; simpa using h
theorem su_eq {x y z : Int} (hx : lvB x = true) (hy : lvB y = true) (hz : lvB z = true) : suB x y z = decide (z = Zo.smW x y) := by
 rw [Bool.eq_iff_iff]
 unfold suB adE adL
 rw [hx, hy]
 simp only [Bool.and_true, if_true, Bool.and_eq_true, decide_eq_true_eq]
 have hz2 := lv_two hz
 rcases lv_two hx with rfl | fx
 · have n1 : noB 1099511627776 = true := rfl
   rw [n1, no_smW]; simp; omega
 rcases lv_two hy with rfl | fy
 · have n1 : noB 1099511627776 = true := rfl
   rw [n1, smW_no]; simp; omega
 have nx : noB x = false := by unfold noB; simp; omega
 have ny : noB y = false := by unfold noB; simp; omega
 rw [nx, ny, smW_fin fx fy]
 simp only [Bool.or_self, Bool.false_eq_true, if_false]
 unfold jnE jnL evB
 constructor
 · intro ⟨h1, h2⟩
   split at h1
   · rename_i c
     rw [if_pos c] at h2
     split at h2
     · rename_i d
       simp at d
       split <;> omega
     · rename_i d
       simp at d
       split <;> omega
   · omega
 · intro h
   have c : -1073741824 ≤ x / 2 + y / 2 ∧ x / 2 + y / 2 ≤ 1073741824 := by
    split at h <;> omega
   rw [if_pos c, if_pos c]
   refine ⟨rfl, ?_⟩
   split at h
   · rename_i d
     rw [if_pos (by simp; omega)]; omega
   · rename_i d
     split
     · rename_i e
       simp at e; omega
     · rename_i e
       simp at e; omega
structure Vz (n : Nat) (l : List Int) : Prop where
 hn : n ≤ 10
 hl : l.length = (n + 1) * (n + 1)
 hc : chkE n l = 0
theorem Vz.lv {n : Nat} {l : List Int} (h : Vz n l) {i j : Nat} (hi : i ≤ n) (hj : j ≤ n) : lvB (Zo.At n l i j) = true ∧ (i = j → Zo.At n l i j = 1) ∧ (i = 0 → Zo.At n l i j ≤ 1) := by
 have hc : chkB n l = true := by
  have := h.hc
  unfold chkE at this
  cases e : chkB n l
  · rw [e] at this; simp at this
  · rfl
 unfold chkB at hc
 simp only [Bool.and_eq_true, Int.toNat_natCast] at hc
 have := chk1_iff.1 hc.1.2 i (by omega) j (by omega)
 unfold okI at this
 simp only [Bool.and_eq_true, Bool.or_eq_true, decide_eq_true_eq] at this
 obtain ⟨⟨h1, h2⟩, h3⟩ := this
 exact ⟨h1, fun e => by rcases h2 with c | c <;> simp_all, fun e => by rcases h3 with c | c <;> simp_all⟩
theorem Vz.tri {n : Nat} {l : List Int} (h : Vz n l) {i j k : Nat} (hi : i ≤ n) (hj : j ≤ n) (hk : k ≤ n) : Zo.At n l i j ≤ Zo.smW (Zo.At n l i k) (Zo.At n l k j) := chk_tri h.hc i j k hi hj hk
theorem bd_fin {n : Nat} {l : List Int} (h : Vz n l) {i j : Nat} (hi : i ≤ n) (hj : j ≤ n) (hb : bdB n l i j = true) :
  (-2147483648 ≤ Zo.At n l i j ∧ Zo.At n l i j ≤ 2147483649) ∧ (-2147483648 ≤ Zo.At n l j i ∧ Zo.At n l j i ≤ 2147483649) ∧ Zo.At n l i j + Zo.At n l j i = 2 ∧ Zo.At n l i j % 2 = 1 := by
 unfold bdB at hb
 simp only [decide_eq_true_eq] at hb
 have a := lv_two (h.lv hi hj).1
 have b := lv_two (h.lv hj hi).1
 generalize Zo.At n l i j = x at *
 generalize Zo.At n l j i = y at *
 rcases a with rfl | fa
 · rw [no_smW] at hb; omega
 rcases b with rfl | fb
 · rw [smW_no] at hb; omega
 rw [smW_fin fa fb] at hb
 split at hb <;> omega
theorem bd_of {n : Nat} {l : List Int} {i j : Nat} (ha : -2147483648 ≤ Zo.At n l i j ∧ Zo.At n l i j ≤ 2147483649) (hb : -2147483648 ≤ Zo.At n l j i ∧ Zo.At n l j i ≤ 2147483649) (h : Zo.At n l i j + Zo.At n l j i = 2) (ho : Zo.At n l i j % 2 = 1) : bdB n l i j = true := by
 unfold bdB
 rw [smW_fin ha hb, if_neg (by omega)]
 simp; omega
theorem bd_self {n : Nat} {l : List Int} (h : Vz n l) {i : Nat} (hi : i ≤ n) : bdB n l i i = true := by
 have := (h.lv hi hi).2.1 rfl
 exact bd_of (by omega) (by omega) (by omega) (by omega)
theorem bd_symm {n : Nat} {l : List Int} (h : Vz n l) {i j : Nat} (hi : i ≤ n) (hj : j ≤ n) (hb : bdB n l i j = true) : bdB n l j i = true := by
 obtain ⟨h1, h2, h3, h4⟩ := bd_fin h hi hj hb
 exact bd_of h2 h1 (by omega) (by omega)
theorem bd_trans {n : Nat} {l : List Int} (h : Vz n l) {i j k : Nat} (hi : i ≤ n) (hj : j ≤ n) (hk : k ≤ n) (h1 : bdB n l i j = true) (h2 : bdB n l j k = true) : bdB n l i k = true := by
 obtain ⟨a1, a2, a3, a4⟩ := bd_fin h hi hj h1
 obtain ⟨b1, b2, b3, b4⟩ := bd_fin h hj hk h2
 have e := h.tri hi hk hj
 have f := h.tri hk hi hj
 have g := h.tri hi hi hk
 rw [(h.lv hi hi).2.1 rfl] at g
 have le := lv_two (h.lv hi hk).1
 have lf := lv_two (h.lv hk hi).1
 rw [smW_fin a1 b1] at e
 rw [smW_fin b2 a2] at f
 rw [if_neg (by omega)] at e f
 generalize Zo.At n l i j = a at *
 generalize Zo.At n l j i = b at *
 generalize Zo.At n l j k = c at *
 generalize Zo.At n l k j = d at *
 have fe : -2147483648 ≤ Zo.At n l i k ∧ Zo.At n l i k ≤ 2147483649 := by
  rcases le with q | q
  · omega
  · exact q
 have ff : -2147483648 ≤ Zo.At n l k i ∧ Zo.At n l k i ≤ 2147483649 := by
  rcases lf with q | q
  · omega
  · exact q
 rw [smW_fin fe ff] at g
 split at g
 · exfalso; omega
 · exact bd_of fe ff (by omega) (by omega)
theorem bd_comm {n : Nat} {l : List Int} (h : Vz n l) {i j : Nat} (hi : i ≤ n) (hj : j ≤ n) : bdB n l i j = bdB n l j i := by
 rw [Bool.eq_iff_iff]; exact ⟨bd_symm h hi hj, bd_symm h hj hi⟩
def clsF (n : Nat) (l : List Int) (i : Nat) : Nat := ((List.range i).find? fun c => bdB n l i c).getD i
theorem cls_of {n i t : Nat} {l : List Int} (h1 : t ≤ i) (h2 : t < i → bdB n l i t = true) (h3 : ∀ k, k < t → bdB n l i k = false) : clsF n l i = t := by
 unfold clsF
 by_cases c : t < i
 · have : (List.range i).find? (fun c => bdB n l i c) = some t := by
    rw [List.find?_range_eq_some]
    exact ⟨h2 c, by simpa using c, fun j hj => by simp [h3 j hj]⟩
   rw [this]; rfl
 · have : (List.range i).find? (fun c => bdB n l i c) = none := by
    rw [List.find?_range_eq_none]
    intro j hj
    simp [h3 j (by omega)]
   rw [this]; show i = t; omega
theorem cls_is {n i : Nat} {l : List Int} (h : Vz n l) (hi : i ≤ n) : clsF n l i ≤ i ∧ bdB n l i (clsF n l i) = true ∧ ∀ k, k < clsF n l i → bdB n l i k = false := by
 have key : ∀ m, m ≤ i → (∀ k, k < m → bdB n l i k = false) ∨ ∃ t, t < m ∧ bdB n l i t = true ∧ ∀ k, k < t → bdB n l i k = false := by
  intro m
  induction m with
  | zero => intro _; exact Or.inl fun k hk => by omega
  | succ m ih =>
   intro hm
   rcases ih (by omega) with c | ⟨t, ht, h1, h2⟩
   · cases e : bdB n l i m
     · exact Or.inl fun k hk => by
        by_cases g : k = m
        · rw [g]; exact e
        · exact c k (by omega)
     · exact Or.inr ⟨m, by omega, e, c⟩
   · exact Or.inr ⟨t, by omega, h1, h2⟩
 rcases key i (Nat.le_refl _) with c | ⟨t, ht, h1, h2⟩
 · rw [cls_of (Nat.le_refl i) (fun q => by omega) c]
   exact ⟨Nat.le_refl _, bd_self h hi, c⟩
 · rw [cls_of (by omega) (fun _ => h1) h2]
   exact ⟨by omega, h1, h2⟩
theorem cls_eq {n i j : Nat} {l : List Int} (h : Vz n l) (hi : i ≤ n) (hj : j ≤ n) : clsF n l i = clsF n l j ↔ bdB n l i j = true := by
 obtain ⟨i1, i2, i3⟩ := cls_is h hi
 obtain ⟨j1, j2, j3⟩ := cls_is h hj
 constructor
 · intro e
   rw [← e] at j2
   exact bd_trans h hi (by omega) hj i2 (bd_symm h hj (by omega) j2)
 · intro e
   have h1 : bdB n l j (clsF n l i) = true := bd_trans h hj hi (by omega) (bd_symm h hi hj e) i2
   have h2 : bdB n l i (clsF n l j) = true := bd_trans h hi hj (by omega) e j2
   by_cases c : clsF n l i < clsF n l j
   · rw [j3 _ c] at h1; cases h1
   · by_cases d : clsF n l j < clsF n l i
     · rw [i3 _ d] at h2; cases h2
     · omega
theorem cls_first {n i : Nat} {l : List Int} (h : Vz n l) (hi : i ≤ n) : clsF n l i = i ↔ fiB n l i = true := by
 obtain ⟨i1, i2, i3⟩ := cls_is h hi
 rw [fiB_iff]
 constructor
 · intro e k hk
   rw [bd_comm h (by omega) hi]
   exact i3 k (by omega)
 · intro e
   by_cases c : clsF n l i < i
   · have := e _ c
     rw [bd_comm h (by omega) hi, i2] at this; cases this
   · omega
theorem nx_eq {n i j : Nat} {l : List Int} (h : Vz n l) (hi : i ≤ n) (hj : j ≤ n) (hij : i ≠ j) (hb : bdB n l i j = true) : decide (j = nxN n (clsF n l) i) = nxB n l i j := by
 have key : ∀ k, k ≤ n → (clsF n l k = clsF n l i ↔ bdB n l k i = true) := fun k hk => cls_eq h hk hi
 rw [Bool.eq_iff_iff, decide_eq_true_eq]
 constructor
 · intro e
   refine nxB_yes fun k hk => ?_
   cases hbt : btB i j k
   · simp
   · simp only [Bool.not_true, Bool.or_false]
     cases hsk : skB n l i j k
     · exfalso
       unfold skB at hsk
       simp only [Bool.or_eq_false_iff, decide_eq_false_iff_not, Bool.not_eq_false'] at hsk
       obtain ⟨⟨s1, s2⟩, s3⟩ := hsk
       have s4 := (key k (by omega)).2 s3
       unfold btB at hbt
       simp only [Bool.or_eq_true, Bool.and_eq_true, decide_eq_true_eq] at hbt
       rcases (show (∃ t, i < t ∧ t ≤ n ∧ clsF n l t = clsF n l i ∧ (∀ k, i < k → k < t → clsF n l k ≠ clsF n l i)) ∨ (∀ k, i < k → k ≤ n → clsF n l k ≠ clsF n l i) from by
        have : ∀ m, m ≤ n + 1 → (∃ t, i < t ∧ t < m ∧ clsF n l t = clsF n l i ∧ (∀ k, i < k → k < t → clsF n l k ≠ clsF n l i)) ∨ (∀ k, i < k → k < m → clsF n l k ≠ clsF n l i) := by
         intro m
         induction m with
         | zero => intro _; exact Or.inr fun k _ hk => by omega
         | succ m ih =>
          intro hm
          rcases ih (by omega) with ⟨t, a, b, c, d⟩ | d
          · exact Or.inl ⟨t, a, by omega, c, d⟩
          · by_cases g : i < m ∧ clsF n l m = clsF n l i
            · exact Or.inl ⟨m, g.1, by omega, g.2, fun k q r => d k q r⟩
            · refine Or.inr fun k q r => ?_
              by_cases x : k = m
              · subst x; exact fun y => g ⟨q, y⟩
              · exact d k q (by omega)
        rcases this (n + 1) (Nat.le_refl _) with ⟨t, a, b, c, d⟩ | d
        · exact Or.inl ⟨t, a, by omega, c, d⟩
        · exact Or.inr fun k q r => d k q (by omega)) with ⟨t, a, b, c, d⟩ | d
       · rw [nx_found a b c d] at e
         subst e
         rcases hbt with ⟨⟨p, q⟩, r⟩ | ⟨p, _⟩
         · exact d k q r s4
         · omega
       · rw [nx_none d] at e
         obtain ⟨i1, i2, i3⟩ := cls_is h hi
         rcases hbt with ⟨⟨p, q⟩, r⟩ | ⟨p, q⟩
         · exact d k q (by omega) s4
         · rcases q with q | q
           · exact d k q (by omega) s4
           · rw [e] at q
             have := i3 k q
             rw [bd_comm h hi (by omega), s3] at this; cases this
     · rfl
 · intro e
   unfold nxB at e
   rw [List.all_eq_true] at e
   have hno : ∀ k, k ≤ n → k ≠ i → k ≠ j → clsF n l k = clsF n l i → btB i j k = false := fun k hk q r s => by
    have := e k (List.mem_range.2 (by omega))
    have s3 := (key k hk).1 s
    cases g : btB i j k
    · rfl
    · rw [g] at this
      simp [skB, q, r, s3] at this
   have hj2 : clsF n l j = clsF n l i := (key j hj).2 (bd_symm h hi hj hb)
   by_cases c : i < j
   · rw [nx_found c hj hj2 fun k q r s => by
      have := hno k (by omega) (by omega) (by omega) s
      unfold btB at this; simp at this; omega]
   · rw [nx_none fun k q r s => by
      by_cases x : k = j
      · omega
      · have := hno k r (by omega) x s
        unfold btB at this; simp at this; omega]
     obtain ⟨i1, i2, i3⟩ := cls_is h hi
     by_cases x : clsF n l i < j
     · exfalso
       have hk : clsF n l (clsF n l i) = clsF n l i := (key _ (by omega)).2 (bd_symm h hi (by omega) i2)
       have := hno (clsF n l i) (by omega) (by omega) (by omega) hk
       unfold btB at this; simp at this; omega
     · by_cases y : j < clsF n l i
       · have := i3 j y
         rw [hb] at this; cases this
       · omega
theorem ks_kp {n i j : Nat} {l : List Int} (h : Vz n l) (hi : i ≤ n) (hj : j ≤ n) : ksB n l (clsF n l) i j = kpB n l i j := by
 unfold ksB kpB
 by_cases hij : i = j
 · simp [hij]
 by_cases hno : Zo.At n l i j = 1099511627776
 · simp [hno]
 simp only [decide_eq_false hij, decide_eq_false hno, Bool.not_false, Bool.true_and]
 by_cases hb : bdB n l i j = true
 · rw [if_pos ((cls_eq h hi hj).2 hb), if_pos hb]
   unfold kwB kpN
   rw [nx_eq h hi hj hij hb]
   unfold plB
   rw [Bool.not_and]
 · rw [if_neg (fun e => hb ((cls_eq h hi hj).1 e)), if_neg hb]
   unfold kbB kpM
   have ei : decide (clsF n l i = i) = fiB n l i := by rw [Bool.eq_iff_iff, decide_eq_true_eq]; exact cls_first h hi
   have ej : decide (clsF n l j = j) = fiB n l j := by rw [Bool.eq_iff_iff, decide_eq_true_eq]; exact cls_first h hj
   rw [ei, ej]
   cases hfj : fiB n l j
   · simp
   have hj1 := (cls_first h hj).2 hfj
   congr 1
   rw [Bool.eq_iff_iff, List.all_eq_true, List.all_eq_true]
   have : ∀ k, k ∈ List.range (n + 1) → (kbX n l (clsF n l) i j k || kbY n l (clsF n l) i j k) = (kpA n l i j k || kpC n l i j k) := fun k hk => by
    have hk : k ≤ n := by have := List.mem_range.1 hk; omega
    have e1 : kbX n l (clsF n l) i j k = kpA n l i j k := by
     unfold kbX kpA plB
     rw [show decide (clsF n l k = j) = bdB n l k j by
      rw [Bool.eq_iff_iff, decide_eq_true_eq, ← cls_eq h hk hj, hj1]]
     by_cases i0 : i = 0
     · subst i0
       cases bdB n l k j <;> simp
     · simp [i0]
    have e2 : kbY n l (clsF n l) i j k = kpC n l i j k := by
     unfold kbY kpC kpS
     rw [show decide (clsF n l k = k) = fiB n l k by rw [Bool.eq_iff_iff, decide_eq_true_eq]; exact cls_first h hk]
     rw [su_eq (h.lv hi hk).1 (h.lv hk hj).1 (h.lv hi hj).1]
    rw [e1, e2]
   constructor
   · intro q k hk
     rw [← this k hk]; exact q k hk
   · intro q k hk
     rw [this k hk]; exact q k hk
def arrF (f : Nat → Nat) : Array Value := ((List.range 11).map fun k => Value.int .i64 (f k)).toArray
theorem arrF_size (f : Nat → Nat) : (arrF f).size = 11 := by simp [arrF]
theorem arrF_one (f : Nat → Nat) : (arrF f).all (·.oneCell') = true := by
 rw [Array.all_eq_true_iff_forall_mem]
 intro v hv
 simp [arrF] at hv
 obtain ⟨x, _, rfl⟩ := hv
 rfl
theorem arrF_at (f : Nat → Nat) {k : Nat} (hk : k < 11) : (arrF f)[k]? = some (.int .i64 (f k)) := by
 simp [arrF, hk]
theorem arrF_set (f : Nat → Nat) (k x : Nat) : (arrF f).setIfInBounds k (.int .i64 x) = arrF (fun j => if j = k then x else f j) := by
 apply Array.ext_getElem?
 intro j
 rw [Array.getElem?_setIfInBounds]
 by_cases hj : j < 11
 · rw [arrF_at _ hj, arrF_at _ hj]
   by_cases e : k = j
   · subst e; simp [arrF_size]; omega
   · rw [if_neg e, if_neg (fun h => e h.symm)]
 · have h1 : ∀ g : Nat → Nat, (arrF g)[j]? = none := fun g => by rw [Array.getElem?_eq_none]; rw [arrF_size]; omega
   rw [h1, h1]
   split
   · rw [if_neg (by rw [arrF_size]; omega)]
   · rfl
theorem arrF_eq {f g : Nat → Nat} (h : ∀ k, k < 11 → f k = g k) : arrF f = arrF g := by
 unfold arrF
 congr 1
 apply List.map_congr_left
 intro k hk
 rw [h k (List.mem_range.1 hk)]
def CSt (w0 : World) (b : Nat) (f : Nat → Nat) (w : World) : Prop := Crow w b (arrF f) ∧ w0.grownBy w (some b)
theorem Crow.put {w : World} {b : Nat} {f : Nat → Nat} (h : Crow w b (arrF f)) (k x : Nat) : Crow (w.setCell ⟨b, k, none⟩ (.int .i64 x)) b (arrF (fun j => if j = k then x else f j)) := by
 refine ⟨?_, arrF_size _⟩
 rw [heap_setCell_same w b _ _ _ _ h.1, ← arrF_set]
theorem CSt.put {w0 w : World} {b : Nat} {f g : Nat → Nat} (h : CSt w0 b f w) (k x : Nat) (hg : ∀ j, j < 11 → (if j = k then x else f j) = g j) : CSt w0 b g (w.setCell ⟨b, k, none⟩ (.int .i64 x)) :=
 ⟨by rw [← arrF_eq hg]; exact h.1.put k x, grown_trans h.2 (grown_put _ _ _ _)⟩
theorem CSt.on {w0 w w' : World} {b : Nat} {f : Nat → Nat} (h : CSt w0 b f w) (hb : Below w.heap.size w w') : CSt w0 b f w' :=
 ⟨h.1.kept hb, grown_trans h.2 ⟨hb.os, hb.tape, hb.output, hb.size, fun k hk _ => hb.block k hk⟩⟩
theorem CSt.cell {w0 w : World} {b : Nat} {f : Nat → Nat} (h : CSt w0 b f w) {k : Nat} (hk : k < 11) : w.cell? ⟨b, k, none⟩ = some (.int .i64 (f k)) := by
 rw [cell_of_row _ _ k _ _ _ h.1.1]; exact arrF_at f hk
theorem CSt.free {w0 w : World} {b : Nat} {f : Nat → Nat} (h : CSt w0 b f w) (k : Nat) : w.frozen? ⟨b, k, none⟩ = false := frozen_of_row w b k _ _ h.1.1
theorem CSt.like {w0 w : World} {b : Nat} {f g : Nat → Nat} (h : CSt w0 b f w) (hg : ∀ j, j < 11 → f j = g j) : CSt w0 b g w := ⟨by rw [← arrF_eq hg]; exact h.1, h.2⟩
theorem Crow.store {w : World} {b : Nat} {old : Array Value} (h : Crow w b old) (cs : Array Value) (hs : cs.size = 11) : Crow (w.setRow b cs) b cs := ⟨setRow_heap w b old _ _ _ h.1, hs⟩
theorem wplc_store {ops : Array Oper} {rest : List Oper} {o : Oper} {a : Act} {w : World} {Q : Exit → Act → World → Prop} (hgd : o.guard = none) (x y : Operand) (ho : o.op = .store 160 x y)
  (b : Nat) (cs : Array Value) (hx : a.eval x = .pointer (some ⟨b, 0, none⟩)) (hy : a.eval y = .agg cs) (old : Array Value) (hv : Crow w b old) (hs : cs.size = 11) (h1 : cs.all (·.oneCell') = true)
  (h : wpList Tryz.prog ops Q rest (a.put o.dst undef) (w.setRow b cs)) : wpList Tryz.prog ops Q (o :: rest) a w :=
 wpList_store_row hgd _ x y ho b cs hx hy _ old hv.1 (by rw [hs]; exact cls_size) (by rw [hv.2, hs]) h1 h
theorem cls_loadC {w : World} {b : Nat} {cs : Array Value} (h : Crow w b cs) : (loadVar 160 ⟨b, 0, none⟩).run Tryz.prog w = .ok (.agg cs) w :=
 run_loadVar_row w b _ _ cs (0, 0) _ h.1 Tryz.underlying160 rfl (by rw [h.2]; exact cls_size)
theorem results_cls {fn : Func} {p : Tmp} (h : fn.results = #[.cell p 160]) (tmps : Array Value) {w : World} {b : Nat} {cs : Array Value}
  (hp : tmps.getD p undef = .pointer (some ⟨b, 0, none⟩)) (hv : Crow w b cs) : (results fn tmps).run Tryz.prog w = .ok (.agg cs) w := by
 have hp' : tmps[p]?.getD undef = .pointer (some ⟨b, 0, none⟩) := by simpa using hp
 simp [results, h, hp', asAddr, cls_loadC hv]
theorem cls_zero (w : World) : (zeroValue 160).run Tryz.prog w = .ok (.agg (arrF fun _ => 0)) w := by
 have h : (Tryz.prog.info? 160).map (fun i => (i.zero, i.size)) = some (some (.agg (arrF fun _ => 0)), 11) := by kernel_rfl
 exact (zero_of_info h).1 w
theorem areb_len {n : Nat} {l : List Int} {a : Addr} {cap len : Nat} {w : World} (hz : Vz n l) (h : Rd w a l) (hlen : len = l.length) :
  ∀ (i j : Nat) (W : World), i ≤ n → j ≤ n → Below w.heap.size w W → Calls Tryz.prog 178 #[.agg #[.int .i64 n, .slice (some a) len cap], .int .i64 i, .int .i64 j] W (Made (.bool (bdB n l i j)) W) := by
 intro i j W hi hj h'
 have i64 : ∀ i j, i ≤ n → j ≤ n → I64 (Zo.At n l i j) := fun i j hi hj => by
  have := lv_two (hz.lv hi hj).1
  unfold I64; omega
 have := areb_any n i j l a cap W hz.hn hi hj hz.hl i64 (h.on h')
 rw [← hlen, su_eq (hz.lv hi hj).1 (hz.lv hj hi).1 (show lvB 1 = true by decide)] at this
 have e : decide (1 = Zo.smW (Zo.At n l i j) (Zo.At n l j i)) = bdB n l i j := by
  unfold bdB; rw [Bool.eq_iff_iff, decide_eq_true_eq, decide_eq_true_eq]; exact eq_comm
 rw [e] at this
 exact this
theorem mdivide_any (n : Nat) (l : List Int) (a : Addr) (cap : Nat) (w : World) (hz : Vz n l) (h : Rd w a l) :
  Calls Tryz.prog 156 #[.agg #[.int .i64 n, .slice (some a) l.length cap]] w (Made (.agg (arrF fun k => if k ≤ n then clsF n l k else 0)) w) := by
 obtain ⟨len, hlen⟩ : ∃ len, len = l.length := ⟨_, rfl⟩
 have AB := Lib.hid (areb_len (cap := cap) hz h hlen)
 have HZ := Lib.hid hz
 have hn := hz.hn
 have z0 := cls_zero
 rw [← hlen]
 obtain ⟨w0, hw0⟩ : ∃ w0, w0 = ((w.alloc (.cells #[.int .i64 n, .slice (some a) len cap] 36)).alloc (.cells (arrF fun _ => 0) 160)).alloc (.cells (arrF fun _ => 0) 160) := ⟨_, rfl⟩
 have bx : Two w0 w.heap.size (.int .i64 n) (.slice (some a) len cap) := by rw [hw0]; exact ((Two.made _ _ _ _).alloc _).alloc _
 have r1 : Crow w0 (w.heap.size + 1) (arrF fun _ => 0) := by
  rw [hw0]
  have := (Crow.made (w.alloc (.cells #[.int .i64 n, .slice (some a) len cap] 36)) (arrF_size fun _ => 0)).alloc (.cells (arrF fun _ => 0) 160)
  simpa using this
 have r2 : Crow w0 (w.heap.size + 1 + 1) (arrF fun _ => 0) := by
  rw [hw0]
  have := Crow.made ((w.alloc (.cells #[.int .i64 n, .slice (some a) len cap] 36)).alloc (.cells (arrF fun _ => 0) 160)) (arrF_size fun _ => 0)
  simpa using this
 have E0 := Lib.hid (show Below w.heap.size w w0 by rw [hw0]; exact past_three (Below.refl _ _))
 have R1 := Lib.hid r1
 have CB := Lib.hid (show CSt w0 (w.heap.size + 1 + 1) (fun k => if k < 0 then clsF n l k else 0) w0 from CSt.like ⟨r2, World.grownBy.refl _ _⟩ (fun j _ => by simp))
 have KB := Lib.hid (show ∀ f W, CSt w0 (w.heap.size + 1 + 1) f W → W.cell? ⟨w.heap.size, 0, none⟩ = some (.int .i64 n) ∧ W.cell? ⟨w.heap.size, 1, none⟩ = some (.slice (some a) len cap) from
  fun f W h => ⟨h.2.cell bx.1.1 (by simp; omega), h.2.cell bx.2.1 (by simp; omega)⟩)
 have KE := Lib.hid (show ∀ f W, CSt w0 (w.heap.size + 1 + 1) f W → Below w.heap.size w W from fun f W h => grown_over E0.out h.2 (by omega))
 have HW0 := Lib.hid hw0
 clear hlen h hz bx r1 r2 hw0
 go_enter Tryz.func156, Tryz.ntmps156
 go_wp2_with fail
 rw [← HW0.out]
 go_loopw [8] (fun s wr => ∃ t : Nat, t ≤ n + 1 ∧ s = .int .i64 t ∧ Hid (CSt w0 (w.heap.size + 1 + 1) (fun k => if k < t then clsF n l k else 0) wr)) (fun s _ => n + 1 - (intOf s).toNat)
 case atStart => exact ⟨0, by omega, rfl, CB⟩
 case round =>
  obtain ⟨t, ht, rfl, HX⟩ := hrel
  by_cases htn : t ≤ n
  case pos =>
   obtain ⟨b0, b1⟩ := KB.out _ _ HX.out
   have D9 : decide ((t : Int) < (n : Int) + 1) = true := by simp; omega
   have k1 : (0 : Int) ≤ (t : Int) := by omega
   have k2 : (t : Int) < 11 := by omega
   have k3 : (t : Int) < (11 : Nat) := by omega
   go_wp2_with fail
   clear b0 b1
   go_loopw [] (fun wx => ∃ s : Nat, s ≤ t ∧ Hid ((∀ k, k < s → bdB n l t k = false) ∧ CSt w0 (w.heap.size + 1 + 1) (fun k => if k < t then clsF n l k else if k = t then s else 0) wx)) (fun wx => t - (intOf ((wx.cell? ⟨w.heap.size + 1 + 1, t, none⟩).getD undef)).toNat)
   case atStart => exact ⟨0, by omega, Lib.hid ⟨fun k hk => by omega, HX.out.like fun j hj => by split <;> simp⟩⟩
   case round =>
    obtain ⟨s, hs, HY⟩ := hrel
    have FS := Lib.hid (show CSt w0 (w.heap.size + 1 + 1) (fun k => if k < t then clsF n l k else if k = t then s else 0) wr from HY.out.2)
    have cs : wr.cell? ⟨w.heap.size + 1 + 1, t, none⟩ = some (.int .i64 s) := by
     have := FS.out.cell (k := t) (by omega)
     simpa using this
    have fz : wr.frozen? ⟨w.heap.size + 1 + 1, t, none⟩ = false := FS.out.free t
    have KS := Lib.hid (show ∀ W, Below wr.heap.size wr W → (W.cell? ⟨w.heap.size, 0, none⟩ = some (.int .i64 n) ∧ W.cell? ⟨w.heap.size, 1, none⟩ = some (.slice (some a) len cap)) ∧ W.cell? ⟨w.heap.size + 1 + 1, t, none⟩ = some (.int .i64 s) from
     fun W h => ⟨KB.out _ _ (FS.out.on h), kept h cs⟩)
    have KF := Lib.hid (show ∀ W, Below wr.heap.size wr W → W.frozen? ⟨w.heap.size + 1 + 1, t, none⟩ = false from fun W h => (FS.out.on h).free t)
    have HMS := Lib.hid (show (intOf ((wr.cell? ⟨w.heap.size + 1 + 1, t, none⟩).getD undef)).toNat = s by rw [cs]; simp [intOf])
    clear cs fz
    have s1 : Below wr.heap.size wr wr.drew := (Below.refl _ _).drew
    cases hb : bdB n l t s
    case false =>
     have hst : s < t := by
      by_cases e : s = t
      · subst e; rw [bd_self HZ.out htn] at hb; cases hb
      · omega
     have HBF := Lib.hid hb
     clear hb
     go_wp2_with fail
     go_region_held3 (fun w' => (w'.cell? ⟨w.heap.size, 0, none⟩ = some (.int .i64 n) ∧ w'.cell? ⟨w.heap.size, 1, none⟩ = some (.slice (some a) len cap)) ∧ w'.cell? ⟨w.heap.size + 1 + 1, t, none⟩ = some (.int .i64 s)) (first | exact KS.out _ s1 | exact KS.out _ s2)
      (first | (go_at_call 178; refine (made_as (AB.out t s _ htn (by omega) (KE.out _ _ (FS.out.on s1))) HBF.out).mono ?_; rintro e wa ⟨rfl, hba⟩; have s2 := below_on s1 hba))
     have Q := Lib.hid s2
     clear s1 s2 hba
     obtain ⟨⟨b0, b1⟩, cs⟩ := KS.out _ Q.out
     have fz := KF.out _ Q.out
     have HN := Lib.hid (show (∀ k, k < s + 1 → bdB n l t k = false) ∧ CSt w0 (w.heap.size + 1 + 1) (fun k => if k < t then clsF n l k else if k = t then s + 1 else 0) (wa.setCell ⟨w.heap.size + 1 + 1, t, none⟩ (.int .i64 ((s + 1 : Nat) : Int))) from
      ⟨fun k hk => by
       by_cases e : k = s
       · rw [e]; exact HBF.out
       · exact HY.out.1 k (by omega), (FS.out.on Q.out).put t (s + 1) (fun j hj => by
         by_cases e : j = t
         · subst e; simp
         · simp [e])⟩)
     have HM2 := Lib.hid (show (((wa.setCell ⟨w.heap.size + 1 + 1, t, none⟩ (.int .i64 ((s + 1 : Nat) : Int))).cell? ⟨w.heap.size + 1 + 1, t, none⟩).getD undef) = .int .i64 ((s + 1 : Nat) : Int) by
      rw [World.cell?_setCell_same _ _ _ cs]; rfl)
     go_wp2_with fail
     go_roundw
     case rel => exact ⟨s + 1, by omega, HN⟩
     case measure =>
      rw [HMS.out]
      have := HM2.out
      push_cast at this
      rw [this]; simp [intOf]; omega
    case true =>
     have HBT := Lib.hid hb
     have HCL := Lib.hid (show clsF n l t = s from cls_of hs (fun _ => hb) HY.out.1)
     clear hb
     go_wp2_with fail
     go_region_held3 (fun w' => (w'.cell? ⟨w.heap.size, 0, none⟩ = some (.int .i64 n) ∧ w'.cell? ⟨w.heap.size, 1, none⟩ = some (.slice (some a) len cap)) ∧ w'.cell? ⟨w.heap.size + 1 + 1, t, none⟩ = some (.int .i64 s)) (first | exact KS.out _ s1 | exact KS.out _ s2)
      (first | (go_at_call 178; refine (made_as (AB.out t s _ htn (by omega) (KE.out _ _ (FS.out.on s1))) HBT.out).mono ?_; rintro e wa ⟨rfl, hba⟩; have s2 := below_on s1 hba))
     have Q := Lib.hid s2
     clear s1 s2 hba
     have HN := Lib.hid (show CSt w0 (w.heap.size + 1 + 1) (fun k => if k < t + 1 then clsF n l k else 0) wa from (FS.out.on Q.out).like fun j hj => by
      by_cases e : j < t
      · rw [if_pos e, if_pos (by omega)]
      · rw [if_neg e]
        by_cases g : j = t
        · subst g; rw [if_pos rfl, if_pos (by omega), HCL.out]
        · rw [if_neg g, if_neg (by omega)])
     go_wp2_with fail
     go_roundw
     case rel => exact ⟨t + 1, by omega, by go_num, HN⟩
     case measure => simp [intOf]; omega
  case neg =>
   have HF := Lib.hid (show CSt w0 (w.heap.size + 1 + 1) (fun k => if k ≤ n then clsF n l k else 0) wr from HX.out.like fun j hj => by
    have e : t = n + 1 := by omega
    subst e
    by_cases g : j ≤ n
    · rw [if_pos g, if_pos (by omega)]
    · rw [if_neg g, if_neg (by omega)])
   obtain ⟨b0, b1⟩ := KB.out _ _ HF.out
   have q1 : Crow wr (w.heap.size + 1) (arrF fun _ => 0) := by
    refine ⟨(HF.out.2.block _ R1.out.lt (by simp)).trans R1.out.1, R1.out.2⟩
   have HQ := Lib.hid q1
   clear q1
   go_wp2_with (first | (refine wplc_load rfl _ rfl _ rfl _ HF.out.1 ?_) | (refine wplc_store rfl _ _ rfl _ _ rfl rfl _ HQ.out (arrF_size _) (arrF_one _) ?_))
   refine bodyPost_ret (results_cls Tryz.results156 _ rfl (HQ.out.store _ (arrF_size _))) rfl ⟨rfl, ?_⟩
   exact Below.setRow (KE.out _ _ HF.out) (by omega) _
end Go.Proofs.YthjapmdfcbngmaaGreat
