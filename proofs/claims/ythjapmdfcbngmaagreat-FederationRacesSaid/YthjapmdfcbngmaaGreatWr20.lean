/- A part. -/
import Derived.Test.YthjapmdfcbngmaaGreatWr14
import Derived.Test.YthjapmdfcbngmaaGreatWr11
import Derived.Test.YthjapmdfcbngmaaGreatWr13
import Derived.Test.YthjapmdfcbngmaaGreatWr19
import Derived.Test.YthjapmdfcbngmaaGreatWr4
import Derived.Test.YthjapmdfcbngmaaGreatWr9
import Derived.Test.YthjapmdfcbngmaaGreatWr5
import Derived.StillTailTactics
namespace Go.Proofs.YthjapmdfcbngmaaGreat
open Go.RowKit
theorem wl_of {n : Nat} {l : List Int} (hl : l.length = (n + 1) * (n + 1)) (hv : rdL l = true) : ∀ a b, a ≤ n → b ≤ n → Zo.Wl (Zo.At n l a b) := fun a b ha hb => (vl_of hl hv a b ha hb).wl
theorem cloB_iff {n : Nat} {l : List Int} : cloB n l = false ↔ ∀ i, i ≤ n → 1 ≤ Zo.At n (Zo.clo n l) i i :=
 ⟨diag_of, fun h => cloB_no fun i hi => by have := h i (by omega); omega⟩
theorem cloE_zero {n : Nat} {l : List Int} : cloE n l = 0 ↔ cloB n l = false ∧ rdL (Zo.clo n l) = true := by
 unfold cloE rdL
 cases cloB n l <;> cases (Zo.clo n l).all lvB <;> simp
theorem clo_chk {n : Nat} {l : List Int} (hn : n ≤ 10) (hl : l.length = (n + 1) * (n + 1)) (hv : ∀ a b, a ≤ n → b ≤ n → Zo.Wl (Zo.At n l a b)) (h : cloE n l = 0) : chkE n (Zo.clo n l) = 0 := by
 obtain ⟨hB, hr⟩ := cloE_zero.1 h
 have hd := diag_of hB
 have lo := Zo.clo_lows hl
 have hcl : (Zo.clo n l).length = (n + 1) * (n + 1) := by rw [Zo.clo_length, hl]
 have tr := Zo.clo_sums hn hl hv hd
 refine chkE_ok hn hcl (fun i hi j hj => ?_) (fun i hi j hj k hk => ?_)
 · unfold okI
   rw [lv_of_all hcl hr i j (by omega) (by omega)]
   simp only [Bool.true_and, Bool.and_eq_true, Bool.or_eq_true, decide_eq_true_eq]
   constructor
   · by_cases c : i = j
     · right
       subst c
       have := hd i (by omega)
       have := (lo i (by omega)).1
       omega
     · exact Or.inl c
   · by_cases c : i = 0
     · right
       subst c
       exact (lo j (by omega)).2
     · exact Or.inl c
 · unfold okT
   simpa using tr i j k (by omega) (by omega) (by omega)
theorem chk_tri {n : Nat} {l : List Int} (h : chkE n l = 0) : ∀ i j k, i ≤ n → j ≤ n → k ≤ n → Zo.At n l i j ≤ Zo.smW (Zo.At n l i k) (Zo.At n l k j) := by
 have hc : chkB n l = true := by
  unfold chkE at h
  cases e : chkB n l
  · rw [e] at h; simp at h
  · rfl
 unfold chkB at hc
 simp only [Bool.and_eq_true, Int.toNat_natCast] at hc
 have h2 := chk2_iff.1 hc.2
 intro i j k hi hj hk
 have := h2 i (by omega) j (by omega) k (by omega)
 unfold okT at this
 simpa using this
theorem chk_cl {n : Nat} {l : List Int} (hn : n ≤ 10) (hl : l.length = (n + 1) * (n + 1)) (h : chkE n l = 0) : ∃ D, Zo.Cl n l D := by
 have hv := (chk_64 h).2
 obtain ⟨hB, e⟩ := (chk_iff hn hl hv).1 h
 have := Zo.Cl.of hn hl (wl_of hl hv) (diag_of hB)
 rw [e] at this
 exact ⟨_, this⟩
def mk (n : Nat) (G : Nat → Nat → Int) : List Int := (List.range ((n + 1) * (n + 1))).map fun k => G (k / (n + 1)) (k % (n + 1))
theorem smW_no (a : Int) : Zo.smW a 1099511627776 = 1099511627776 := by unfold Zo.smW; rw [if_pos (Or.inr rfl)]
theorem no_smW (a : Int) : Zo.smW 1099511627776 a = 1099511627776 := by unfold Zo.smW; rw [if_pos (Or.inl rfl)]
theorem vl_top {x : Int} (h : Zo.Vl x) : x ≤ 1099511627776 := by unfold Zo.Vl at h; omega
theorem okC_parts {n : Nat} {c : Con} (h : okC n c = true) : c.1.toNat ≤ n ∧ c.2.1.toNat ≤ n ∧ Zo.Vl c.2.2 := by
 unfold okC at h
 simp only [Bool.and_eq_true, decide_eq_true_eq] at h
 exact ⟨by omega, by omega, vl_of_lv h.2⟩
theorem anS_len (n : Nat) (cs : List Con) (x : List Int) (t : Nat) : (anS n cs x t).length = x.length := by simp [anS]
theorem anS_at {n : Nat} {cs : List Con} {x : List Int} {t : Nat} (hx : x.length = (n + 1) * (n + 1)) (h : okC n (gc cs t) = true) {a b : Nat} (hb : b ≤ n) :
  Zo.At n (anS n cs x t) a b = if a = (gc cs t).1.toNat ∧ b = (gc cs t).2.1.toNat then imin (Zo.At n x (gc cs t).1.toNat (gc cs t).2.1.toNat) (gc cs t).2.2 else Zo.At n x a b := by
 obtain ⟨p1, p2, _⟩ := okC_parts h
 unfold anS
 rw [Zo.At_set hx p1 p2 _ hb]
theorem an_len (n : Nat) (cs : List Con) (u : List Int) (s : Nat) : ((List.range s).foldl (anS n cs) u).length = u.length := fold_len (anS_len n cs) u s
theorem an_le {n : Nat} {cs : List Con} (hok : ∀ t, t < cs.length → okC n (gc cs t) = true) {u : List Int} (hu : u.length = (n + 1) * (n + 1)) : ∀ s, s ≤ cs.length → Zo.Le n ((List.range s).foldl (anS n cs) u) u := by
 intro s
 induction s with
 | zero => intro _ a b _ _; exact Int.le_refl _
 | succ s ih =>
  intro hs a b ha hb
  obtain ⟨p1, p2, _⟩ := okC_parts (hok s (by omega))
  rw [Zo.fold_succ]
  exact Int.le_trans (Zo.set_le (by rw [an_len, hu]) p1 p2 _ hb) (ih (by omega) a b ha hb)
theorem an_at {n : Nat} {cs : List Con} (hok : ∀ t, t < cs.length → okC n (gc cs t) = true) {u : List Int} (hu : u.length = (n + 1) * (n + 1)) : ∀ s, s ≤ cs.length → ∀ t, t < s → Zo.At n ((List.range s).foldl (anS n cs) u) (gc cs t).1.toNat (gc cs t).2.1.toNat ≤ (gc cs t).2.2 := by
 intro s
 induction s with
 | zero => intro _ t ht; omega
 | succ s ih =>
  intro hs t ht
  obtain ⟨p1, p2, _⟩ := okC_parts (hok s (by omega))
  obtain ⟨q1, q2, _⟩ := okC_parts (hok t (by omega))
  rw [Zo.fold_succ]
  by_cases e : t = s
  · subst e
    rw [anS_at (by rw [an_len, hu]) (hok t (by omega)) p2, if_pos ⟨rfl, rfl⟩]
    unfold imin; omega
  · exact Int.le_trans (Zo.set_le (by rw [an_len, hu]) p1 p2 _ q2) (ih (by omega) t (by omega))
theorem an_wl {n : Nat} {cs : List Con} (hok : ∀ t, t < cs.length → okC n (gc cs t) = true) {u : List Int} (hu : u.length = (n + 1) * (n + 1)) (h : ∀ a b, a ≤ n → b ≤ n → Zo.Wl (Zo.At n u a b)) : ∀ a b, a ≤ n → b ≤ n → Zo.Wl (Zo.At n (anL n cs u) a b) := by
 have : ∀ s, s ≤ cs.length → ∀ a b, a ≤ n → b ≤ n → Zo.Wl (Zo.At n ((List.range s).foldl (anS n cs) u) a b) := by
  intro s
  induction s with
  | zero => intro _; exact h
  | succ s ih =>
   intro hs a b ha hb
   obtain ⟨p1, p2, p3⟩ := okC_parts (hok s (by omega))
   rw [Zo.fold_succ]
   rw [anS_at (by rw [an_len, hu]) (hok s (by omega)) hb]
   split
   · have := ih (by omega) _ _ p1 p2
     unfold imin
     unfold Zo.Vl at p3
     unfold Zo.Wl at *
     omega
   · exact ih (by omega) a b ha hb
 exact this cs.length (Nat.le_refl _)
end Go.Proofs.YthjapmdfcbngmaaGreat
namespace Go.Proofs.YthjapmdfcbngmaaGreat
structure Ov (D : Int) (X : Nat → Int) (ps : List Pq) : Prop where
 pos : 0 < D
 val : ∀ i, i ≤ ps.length → X i * (clk ps i).2 = (clk ps i).1 * D
theorem lt_scale {x y d D q : Int} (hD : 0 < D) (hd : 0 < d) (e : x * D = q * d) {c : Int} (hy : y = c * d) : x < y ↔ q < c * D := by
 subst hy
 constructor
 · intro h
   have h1 : x * D < c * d * D := Int.mul_lt_mul_of_pos_right h hD
   rw [e, Int.mul_right_comm] at h1
   exact Int.lt_of_mul_lt_mul_right h1 (by omega)
 · intro h
   have h1 : q * d < c * D * d := Int.mul_lt_mul_of_pos_right h hd
   rw [← e, Int.mul_right_comm] at h1
   exact Int.lt_of_mul_lt_mul_right h1 (by omega)
theorem le_scale {x y d D q : Int} (hD : 0 < D) (hd : 0 < d) (e : x * D = q * d) {c : Int} (hy : y = c * d) : x ≤ y ↔ q ≤ c * D := by
 subst hy
 constructor
 · intro h
   have h1 : x * D ≤ c * d * D := Int.mul_le_mul_of_nonneg_right h (by omega)
   rw [e, Int.mul_right_comm] at h1
   exact Int.le_of_mul_le_mul_right h1 hd
 · intro h
   have h1 : q * d ≤ c * D * d := Int.mul_le_mul_of_nonneg_right h (by omega)
   rw [← e, Int.mul_right_comm] at h1
   exact Int.le_of_mul_le_mul_right h1 hD
theorem vld_pos {n d : Int} (v : vldB n d = true) : 1 ≤ d ∧ d ≤ 2147483647 ∧ -2147483647 ≤ n ∧ n ≤ 2147483647 := by
 unfold vldB at v; simp at v; omega
theorem me_mt {n d a b D q l : Int} (v : vldB n d = true) (vl : lvB l = true) (hb : 0 < b) (hD : 0 < D) (e : n * b = a * d) (e2 : q * b = a * D) : meB n d l = true ↔ Zo.mt D q l := by
 have hd := vld_pos v
 have key : n * D = q * d := by
  have h1 : n * D * b = q * d * b := by
   rw [Int.mul_right_comm n D b, e, Int.mul_right_comm q d b, e2, Int.mul_right_comm a d D]
  exact Int.eq_of_mul_eq_mul_right (by omega) h1
 unfold meB mtB Zo.mt
 rw [v, vl]
 by_cases nl : l = 1099511627776
 · simp [noB, nl]
 · have nb : noB l = false := by simp [noB, nl]
   rw [nb]
   by_cases ev : l % 2 = 0
   · have eb : evB l = true := by simp [evB, ev]
     rw [eb]
     have := lt_scale hD (show 0 < d by omega) key (c := l / 2) rfl
     simp [nl, ev, this]
   · have eb : evB l = false := by simp [evB, ev]
     rw [eb]
     have := le_scale hD (show 0 < d by omega) key (c := l / 2) rfl
     simp [nl, ev, this]
theorem rd_parts {n : Nat} {l : List Int} {ps : List Pq} (h : rdE n l ps = 0) : chkE n l = 0 ∧ ps.length = n ∧ (∀ k, k < ps.length → vldC (gp ps k) = true) ∧ (∀ i, i ≤ n → ∀ j, j ≤ n → sbE ps i j = 0) := by
 obtain ⟨h1, h2, h3, h4⟩ := rd_ok h
 exact ⟨h1, by omega, h3, fun i hi j hj => rdR_at h4 (by simpa using Nat.lt_succ_of_le hi) (by simpa using Nat.lt_succ_of_le hj)⟩
theorem clk_vld {ps : List Pq} (h : ∀ k, k < ps.length → vldC (gp ps k) = true) {i : Nat} (hi : i ≤ ps.length) : vldB (clk ps i).1 (clk ps i).2 = true ∧ 0 ≤ (clk ps i).1 := by
 refine ⟨clk_ok h hi, ?_⟩
 unfold clk
 split
 · simp
 · have := h (i - 1) (by omega)
   unfold vldC at this
   simp at this
   exact this.2
theorem Ov.sub {D : Int} {X : Nat → Int} {ps : List Pq} (h : Ov D X ps) {i j : Nat} (hi : i ≤ ps.length) (hj : j ≤ ps.length) :
  (X i - X j) * ((clk ps i).2 * (clk ps j).2) = ((clk ps i).1 * (clk ps j).2 - (clk ps j).1 * (clk ps i).2) * D := by
 have a := h.val i hi
 have b := h.val j hj
 rw [Int.sub_mul, Int.sub_mul, ← Int.mul_assoc, a, Int.mul_comm (clk ps i).2 (clk ps j).2, ← Int.mul_assoc, b]
 rw [Int.mul_right_comm, Int.mul_right_comm (clk ps j).1]
theorem hs_mt {n : Nat} {l : List Int} {ps : List Pq} {D : Int} {X : Nat → Int} (hv : ∀ k, k < ps.length → vldC (gp ps k) = true) (ho : Ov D X ps) {i j : Nat} (hi : i ≤ ps.length) (hj : j ≤ ps.length) (hs : sbE ps i j = 0) (hl : lvB (Zo.At n l i j) = true) :
  hsM n l ps i j = true ↔ Zo.mt D (X i - X j) (Zo.At n l i j) := by
 obtain ⟨_, h2, h3⟩ := mk_ok hs
 have p1 := vld_pos (clk_vld hv hi).1
 have p2 := vld_pos (clk_vld hv hj).1
 have hb : 0 < (clk ps i).2 * (clk ps j).2 := Int.mul_pos (by omega) (by omega)
 exact me_mt h2 hl hb ho.pos h3 (ho.sub hi hj)
theorem chk_lenZ {n : Nat} {l : List Int} (h : chkE n l = 0) : n ≤ 10 ∧ l.length = (n + 1) * (n + 1) ∧ rdL l = true := by
 have hb : rdB (n : Int) l = true := by
  cases c : rdB (n : Int) l
  · rw [chk_read c] at h; cases h
  · rfl
 unfold rdB at hb
 rw [Bool.and_eq_true, Bool.and_eq_true] at hb
 obtain ⟨⟨h1, h2⟩, h3⟩ := hb
 simp [dimB] at h1
 simp at h2
 exact ⟨by omega, h2, h3⟩
theorem chk_lvs {n : Nat} {l : List Int} (h : chkE n l = 0) {i j : Nat} (hi : i ≤ n) (hj : j ≤ n) : lvB (Zo.At n l i j) = true := by
 obtain ⟨_, h2, h3⟩ := chk_lenZ h
 exact lv_of_all h2 h3 i j hi hj
theorem chk_top {n : Nat} {l : List Int} (h : chkE n l = 0) : Zo.Top n l := by
 obtain ⟨_, h2, h3⟩ := chk_lenZ h
 exact ⟨h2, fun i j hi hj => vl_top (vl_of h2 h3 i j hi hj)⟩
theorem has_in {n : Nat} {l : List Int} {ps : List Pq} {D : Int} {X : Nat → Int} (hr : rdE n l ps = 0) (ho : Ov D X ps) : hsR n l ps = true ↔ Zo.In n l D X := by
 obtain ⟨h1, h2, h3, h4⟩ := rd_parts hr
 unfold hsR
 rw [hr]
 simp only [decide_true, Bool.true_and, Int.toNat_natCast]
 rw [hsB_iff]
 constructor
 · intro h i j hi hj
   exact (hs_mt h3 ho (by omega) (by omega) (h4 i hi j hj) (chk_lvs h1 hi hj)).1 (h i (by omega) j (by omega))
 · intro h i hi j hj
   exact (hs_mt h3 ho (by omega) (by omega) (h4 i (by omega) j (by omega)) (chk_lvs h1 (by omega) (by omega))).2 (h i j (by omega) (by omega))
theorem rdE_other {n : Nat} {l m : List Int} {ps : List Pq} (h1 : chkE n l = 0) (h2 : chkE n m = 0) : rdE n l ps = rdE n m ps := by
 unfold rdE; rw [h1, h2]
theorem Ov.pt {n : Nat} {D : Int} {X : Nat → Int} {ps : List Pq} (h : Ov D X ps) (hp : ps.length = n) (hv : ∀ k, k < ps.length → vldC (gp ps k) = true) : Zo.Pt n D X 2147483647 := by
 have key : ∀ i, i ≤ n → 0 ≤ X i ∧ X i ≤ 2147483647 * D := by
  intro i hi
  have e := h.val i (by omega)
  obtain ⟨v, z⟩ := clk_vld hv (i := i) (by omega)
  have q := vld_pos v
  have hD := h.pos
  generalize (clk ps i).1 = a at *
  generalize (clk ps i).2 = d at *
  constructor
  · have : 0 * d ≤ X i * d := by rw [e, Int.zero_mul]; exact Int.mul_nonneg z (by omega)
    exact Int.le_of_mul_le_mul_right this (by omega)
  · have h1 : a * D ≤ 2147483647 * D := Int.mul_le_mul_of_nonneg_right (by omega) (by omega)
    have h0 : 0 ≤ 2147483647 * D := by omega
    have h2 : 2147483647 * D * 1 ≤ 2147483647 * D * d := Int.mul_le_mul_of_nonneg_left (by omega) h0
    have : X i * d ≤ 2147483647 * D * d := by rw [e]; omega
    exact Int.le_of_mul_le_mul_right this (by omega)
 refine ⟨h.pos, ?_, fun i hi => (key i hi).1, fun i hi => (key i hi).2⟩
 have e := h.val 0 (by omega)
 simp [clk] at e
 exact e
def dnPt (ps : List Pq) : Int := ps.foldr (fun p r => p.2 * r) 1
theorem dnP_pos {ps : List Pq} (h : ∀ p ∈ ps, 1 ≤ p.2) : 1 ≤ dnPt ps := by
 induction ps with
 | nil => simp [dnPt]
 | cons p ps ih =>
  have h1 := h p (by simp)
  have h2 := ih (fun q hq => h q (by simp [hq]))
  show 1 ≤ p.2 * dnPt ps
  have : 0 < p.2 * dnPt ps := Int.mul_pos (by omega) (by omega)
  omega
theorem dnP_dvd {ps : List Pq} {p : Pq} (h : p ∈ ps) : p.2 ∣ dnPt ps := by
 induction ps with
 | nil => cases h
 | cons q ps ih =>
  show p.2 ∣ q.2 * dnPt ps
  rcases List.mem_cons.1 h with rfl | h
  · exact Int.dvd_mul_right _ _
  · exact Int.dvd_trans (ih h) (Int.dvd_mul_left _ _)
theorem gp_mem {ps : List Pq} {k : Nat} (h : k < ps.length) : gp ps k ∈ ps := by
 unfold gp
 rw [List.getD_eq_getElem?_getD, List.getElem?_eq_getElem h]
 exact List.getElem_mem h
theorem ov_of {ps : List Pq} (hv : ∀ k, k < ps.length → vldC (gp ps k) = true) : Ov (dnPt ps) (fun i => (clk ps i).1 * (dnPt ps / (clk ps i).2)) ps := by
 have h2 : ∀ p ∈ ps, 1 ≤ p.2 := by
  intro p hp
  obtain ⟨k, hk, rfl⟩ := List.getElem_of_mem hp
  have := hv k hk
  unfold gp at this
  rw [List.getD_eq_getElem?_getD, List.getElem?_eq_getElem hk] at this
  simp [vldC] at this
  exact (vld_pos this.1).1
 refine ⟨by have := dnP_pos h2; omega, fun i hi => ?_⟩
 show (clk ps i).1 * (dnPt ps / (clk ps i).2) * (clk ps i).2 = _
 rw [Int.mul_assoc]
 congr 1
 refine Int.ediv_mul_cancel ?_
 unfold clk
 split
 · exact Int.one_dvd _
 · exact dnP_dvd (gp_mem (by omega))
theorem an_in {n : Nat} {cs : List Con} {l : List Int} {D : Int} {X : Nat → Int} (hD : 0 < D) (hl : Zo.Top n l) (hok : ∀ t, t < cs.length → okC n (gc cs t) = true) :
  Zo.In n (anL n cs l) D X ↔ Zo.In n l D X ∧ ∀ t, t < cs.length → Zo.mt D (X (gc cs t).1.toNat - X (gc cs t).2.1.toNat) (gc cs t).2.2 := by
 have hl1 := hl.1
 have step : ∀ s, s ≤ cs.length → (Zo.In n ((List.range s).foldl (anS n cs) l) D X ↔ Zo.In n l D X ∧ ∀ t, t < s → Zo.mt D (X (gc cs t).1.toNat - X (gc cs t).2.1.toNat) (gc cs t).2.2) ∧ Zo.Top n ((List.range s).foldl (anS n cs) l) := by
  intro s
  induction s with
  | zero => intro _; exact ⟨⟨fun h => ⟨h, fun t ht => absurd ht (by omega)⟩, fun h => h.1⟩, hl⟩
  | succ s ih =>
   intro hs
   obtain ⟨i1, i2⟩ := ih (by omega)
   obtain ⟨p1, p2, p3⟩ := okC_parts (hok s (by omega))
   rw [Zo.fold_succ]
   generalize hu : (List.range s).foldl (anS n cs) l = u at *
   have hat : ∀ a b, b ≤ n → Zo.At n (anS n cs u s) a b = if a = (gc cs s).1.toNat ∧ b = (gc cs s).2.1.toNat then imin (Zo.At n u (gc cs s).1.toNat (gc cs s).2.1.toNat) (gc cs s).2.2 else Zo.At n u a b := fun a b hb => anS_at i2.1 (hok s (by omega)) hb
   have ht : Zo.Top n (anS n cs u s) := by
    refine ⟨by rw [anS_len]; exact i2.1, fun a b ha hb => ?_⟩
    rw [hat a b hb]
    split
    · have := i2.2 _ _ p1 p2
      unfold imin
      omega
    · exact i2.2 a b ha hb
   refine ⟨?_, ht⟩
   constructor
   · intro h
     have hu2 : Zo.In n u D X := by
      intro a b ha hb
      have := h a b ha hb
      rw [hat a b hb] at this
      split at this
      · rename_i e
        rw [e.1, e.2] at *
        exact Zo.mt_mono hD (by unfold imin; omega) (i2.2 _ _ p1 p2) this
      · exact this
     refine ⟨(i1.1 hu2).1, fun t htt => ?_⟩
     by_cases c : t = s
     · subst c
       have := h _ _ p1 p2
       rw [hat _ _ p2, if_pos ⟨rfl, rfl⟩] at this
       exact Zo.mt_mono hD (by unfold imin; omega) (vl_top p3) this
     · exact (i1.1 hu2).2 t (by omega)
   · intro h a b ha hb
     have hu2 := i1.2 ⟨h.1, fun t htt => h.2 t (by omega)⟩
     rw [hat a b hb]
     split
     · rename_i e
       rw [e.1, e.2]
       exact Zo.mt_min (hu2 _ _ p1 p2) (h.2 s (by omega))
     · exact hu2 a b ha hb
 exact (step cs.length (Nat.le_refl _)).1
theorem clo_in {n : Nat} {l : List Int} {D M : Int} {X : Nat → Int} (hp : Zo.Pt n D X M) (hM : M ≤ 4611686018427387) (ht : Zo.Top n l) : Zo.In n (Zo.clo n l) D X ↔ Zo.In n l D X :=
 ⟨Zo.clo_complete hp.pos ht, Zo.clo_sound hp hM ht⟩
theorem clo_full {n : Nat} {l : List Int} {D M : Int} {X : Nat → Int} (hp : Zo.Pt n D X M) (hM : M ≤ 4611686018427387) (ht : Zo.Top n l) (h : Zo.In n l D X) : cloB n l = false :=
 cloB_iff.2 fun _ hi => Zo.In.diag hp.pos (Zo.clo_sound hp hM ht h) hi
theorem cloE_full {n : Nat} {l : List Int} (h : cloB n l = false) : cloE n l ≠ 4 := by
 unfold cloE
 rw [h]
 simp
 split <;> simp
open Go.RowKit
def Dl.one : Dl := ⟨0, 1, 0, 0, false, false, true⟩
def Dl.empty (x : Dl) : Bool := !x.nh && lsB x.hn x.hd x.ln x.ld (x.lo || x.ho)
theorem wiL_ok {x : Dl} (hx : x.Ok) (n d u l : Int) : (wiL x n d u l).Ok := by
 unfold wiL
 split
 · exact wlL_ok (wuL_ok hx _ _ _) _ _ _
 · exact ⟨by unfold Dl.zero I64; simp, by unfold Dl.zero I64; simp, by unfold Dl.zero I64; simp, by unfold Dl.zero I64; simp⟩
def qV (ps : List Pq) : List Value := ps.flatMap fun p => [.int .i64 p.1, .int .i64 p.2]
theorem qV_len (ps : List Pq) : (qV ps).length = ps.length * 2 := by
 unfold qV; rw [List.length_flatMap]
 induction ps with
 | nil => rfl
 | cons c cs ih => simp only [List.map_cons, List.sum_cons, List.length_cons] at ih ⊢; rw [ih]; simp; omega
theorem qV_app (ps : List Pq) (x y : Int) : qV (ps ++ [(x, y)]) = qV ps ++ [.int .i64 x, .int .i64 y] := by unfold qV; rw [List.flatMap_append]; rfl
theorem qV_at (ps : List Pq) (k : Nat) (hk : k < ps.length) : (qV ps)[k * 2]? = some (.int .i64 (gp ps k).1) ∧ (qV ps)[k * 2 + 1]? = some (.int .i64 (gp ps k).2) := by
 induction ps generalizing k with
 | nil => simp at hk
 | cons c cs ih =>
  cases k with
  | zero => exact ⟨rfl, rfl⟩
  | succ k =>
   have := ih k (by simp at hk; omega)
   have e : qV (c :: cs) = [.int .i64 c.1, .int .i64 c.2] ++ qV cs := rfl
   have g : gp (c :: cs) (k + 1) = gp cs k := by simp [gp]
   rw [e, g, show (k + 1) * 2 = k * 2 + 2 by omega]
   refine ⟨?_, ?_⟩
   · rw [List.getElem?_append_right (by simp)]; exact this.1
   · rw [List.getElem?_append_right (by simp)]; simpa using this.2
def OwnQ (w : World) (B : Nat) (v : Value) (ps : List Pq) : Prop := w.ownsRow B 45 2 v ps.length (qV ps)
theorem OwnQ.on {w w' : World} {B : Nat} {v : Value} {cs : List Pq} (h : OwnQ w B v cs) (hb : Below w.heap.size w w') : OwnQ w' B v cs := by
 have hg : w.grownBy w' none := ⟨hb.os, hb.tape, hb.output, hb.size, fun k hk _ => hb.block k hk⟩
 exact World.ownsRow.kept h hg (by cases v.ownBlock <;> simp)
theorem OwnQ.rd {w : World} {B g cap : Nat} {ps : List Pq} (h : OwnQ w B (.slice (some ⟨g, 0, none⟩) ps.length cap) ps) : Rd2 w ⟨g, 0, none⟩ ps := by
 intro j hj
 have hc := World.ownsRow.cellAt (g := g) (cap := cap) h
 obtain ⟨c0, c1⟩ := qV_at ps j hj
 rw [addr_add]
 exact ⟨(hc (j * 2) (by omega)).trans c0, (hc (j * 2 + 1) (by omega)).trans c1⟩
theorem rat_info : (Tryz.prog.info? 45).map (fun i => (i.zero, i.size, i.bytes)) = some (some (.agg #[.int .i64 0, .int .i64 0]), 2, 16) := by kernel_rfl
theorem cells_two {w w' : World} (x y : Value) (t : TypeId) (hw : w' = w.alloc (.cells #[x, y] t)) : ∀ j u, ([x, y] : List Value)[j]? = some u → w'.cell? ((⟨w.heap.size, 0, none⟩ : Addr).add j) = some u := by
 subst hw
 intro j u hu
 rw [addr_add]
 match j, hu with
 | 0, hu => simp at hu; subst hu; go_simp
 | 1, hu => simp at hu; subst hu; go_simp
end Go.Proofs.YthjapmdfcbngmaaGreat
namespace Go.Proofs.YthjapmdfcbngmaaGreat.Zo
theorem smW_big {a b : Int} (ha : a = 1099511627776 ∨ (-1125899906842624 ≤ a ∧ a ≤ 274877906944)) (hb : b = 1099511627776 ∨ (-1125899906842624 ≤ b ∧ b ≤ 274877906944)) :
  smW a b = if a = 1099511627776 ∨ b = 1099511627776 then 1099511627776 else ps a b := by
 unfold smW
 by_cases c : a = 1099511627776 ∨ b = 1099511627776
 · rw [if_pos c, if_pos c]
 · rw [if_neg c, if_neg c]
   unfold ps w64
   split <;> omega
def Bq (x : Int) : Prop := x = 1099511627776 ∨ (-1125899906842624 ≤ x ∧ x ≤ 274877906944)
theorem smW_top {p q : Int} (hp : Bq p) (hq : Bq q) : smW p q ≤ 1099511627776 := by
 rw [smW_big hp hq]
 unfold Bq at hp hq
 unfold ps
 split
 · omega
 · split <;> omega
end Go.Proofs.YthjapmdfcbngmaaGreat.Zo
namespace Go.Proofs.YthjapmdfcbngmaaGreat
open Go.RowKit
open Zo (Bq)
theorem Bq.of {x : Int} (h : Zo.Vl x) : Bq x := by unfold Zo.Vl at h; unfold Bq; omega
end Go.Proofs.YthjapmdfcbngmaaGreat
