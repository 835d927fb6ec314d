/- Plain mathematics: what widening makes of a canonical matrix.; WidenGrows, for whatever arguments.; Contracts of Meets of package limit and of its reference.; Plain mathematics of ratios: what Make returns stands for the quotient.; The contract of Has of layer 3's reference.; WidenCovers, for whatever arguments.; WidenAlike: one row of constants in front; the branches that end early.; Plain mathematics of bounds: which points are in the set of a matrix, and that closing keeps them. A point is a list of integers over one common denominator. Nothing of the program is named here.; Plain mathematics: a matrix that keeps to the inequality of triangles has a point; two of them that agree along all cycles have one together.; Plain mathematics: a zone and a region that agree wherever the region says something have a point together.; Plain mathematics: points as integers over one denominator; what Has says of a point is that it is in the set of the matrix; constraints and points.; Plain mathematics: widening by lower and upper constants is sound.; Plain mathematics: a point of a widened zone is covered by one of the zone.; Plain mathematics: numbers by their digits to the base 3. -/
import Derived.Test.YtgdcclldgfcilaaHw4
import Derived.Test.YtgdcclldgfcilaaHw5
import Derived.Test.YtgdcclldgfcilaaHw1
import Derived.Test.YtgdcclldgfcilaaHw2

namespace Go.Proofs.Ytgdcclldgfcilaa

theorem spC_of' {x : Int} (hv : lvB x = true) (hn : x ≠ 1099511627776) : spC x = x / 2 ∧ spE x = 0 := by
  have : noB x = false := by unfold noB; simpa using hn
  simp [spC, spE, hv, this]

theorem lv_num {x : Int} (hv : lvB x = true) : x = 1099511627776 ∨ (-2147483648 ≤ x ∧ x ≤ 2147483649) := by
  unfold lvB at hv; simpa using hv

theorem wdn_no (i j : Nat) (low high : List Int) : wdn 1099511627776 i j low high = 1099511627776 := by unfold wdn; rw [if_pos (by decide)]

theorem wdn_num {x : Int} (hv : lvB x = true) (hn : x ≠ 1099511627776) (i j : Nat) (low high : List Int) : wdn x i j low high =
    if 1 ≤ i ∧ (Zo.gt low (i - 1) = -1 ∨ Zo.gt low (i - 1) < x / 2) then 1099511627776
    else if 1 ≤ j ∧ Zo.gt high (j - 1) = -1 then (if i = 0 then 1 else 1099511627776)
    else if 1 ≤ j ∧ x / 2 < -Zo.gt high (j - 1) then -2 * Zo.gt high (j - 1)
    else x := by
  obtain ⟨e1, e2⟩ := spC_of' hv hn
  unfold wdn
  rw [e1, e2, if_neg (show ¬ ((0 : Int) ≠ 0) by simp)]

theorem wdn_ge {x : Int} {i j : Nat} {low high : List Int} (hv : lvB x = true) (h0 : i = 0 → x ≤ 1) : x ≤ wdn x i j low high := by
  by_cases hn : x = 1099511627776
  · subst hn; rw [wdn_no]; omega
  · rw [wdn_num hv hn]
    have := lv_num hv
    repeat' split
    all_goals first | omega | (have := h0 (by assumption); omega)

theorem wdn_up {n : Nat} {x : Int} {i j : Nat} {low high : List Int} (hv : lvB x = true) (h0 : i = 0 → x ≤ 1) (hi : i ≤ n) (hj : j ≤ n) (hl : Kn n low) (hh : Kn n high) : wdn x i j low high = 1099511627776 ∨ (-2147483648 ≤ wdn x i j low high ∧ wdn x i j low high ≤ 2097153) := by
  have ge := wdn_ge (low := low) (high := high) (j := j) hv h0
  by_cases hn : x = 1099511627776
  · subst hn; left; rw [wdn_no]
  · have nv := lv_num hv
    have e := wdn_num hv hn i j low high
    generalize wdn x i j low high = y at *
    by_cases c1 : 1 ≤ i ∧ (Zo.gt low (i - 1) = -1 ∨ Zo.gt low (i - 1) < x / 2)
    · rw [if_pos c1] at e; left; exact e
    rw [if_neg c1] at e
    by_cases c2 : 1 ≤ j ∧ Zo.gt high (j - 1) = -1
    · rw [if_pos c2] at e
      by_cases c3 : i = 0
      · rw [if_pos c3] at e; right; omega
      · rw [if_neg c3] at e; left; exact e
    rw [if_neg c2] at e
    by_cases c4 : 1 ≤ j ∧ x / 2 < -Zo.gt high (j - 1)
    · rw [if_pos c4] at e
      have := hh.2 (j - 1) (by omega)
      right; omega
    rw [if_neg c4] at e
    subst e
    right
    by_cases ci : i = 0
    · have := h0 ci; omega
    · have := hl.2 (i - 1) (by omega)
      omega

theorem wdn_mono {n : Nat} {x : Int} {i j : Nat} {low high low' high' : List Int} (hv : lvB x = true) (h0 : i = 0 → x ≤ 1) (hi : i ≤ n) (hj : j ≤ n) (hl : Kn n low) (hh : Kn n high) (hl' : Kn n low') (hh' : Kn n high')
    (a : ∀ k, k < n → Zo.gt low' k ≤ Zo.gt low k) (b : ∀ k, k < n → Zo.gt high' k ≤ Zo.gt high k) : wdn x i j low high ≤ wdn x i j low' high' := by
  by_cases hn : x = 1099511627776
  · subst hn; rw [wdn_no, wdn_no]; omega
  · rw [wdn_num hv hn, wdn_num hv hn]
    have nv := lv_num hv
    have a1 : 1 ≤ i → Zo.gt low' (i - 1) ≤ Zo.gt low (i - 1) ∧ -1 ≤ Zo.gt low' (i - 1) ∧ Zo.gt low (i - 1) ≤ 1048576 := fun h => ⟨a _ (by omega), (hl'.2 _ (by omega)).1, (hl.2 _ (by omega)).2⟩
    have b1 : 1 ≤ j → Zo.gt high' (j - 1) ≤ Zo.gt high (j - 1) ∧ -1 ≤ Zo.gt high' (j - 1) ∧ Zo.gt high (j - 1) ≤ 1048576 := fun h => ⟨b _ (by omega), (hh'.2 _ (by omega)).1, (hh.2 _ (by omega)).2⟩
    generalize Zo.gt low (i - 1) = p at *
    generalize Zo.gt low' (i - 1) = p' at *
    generalize Zo.gt high (j - 1) = q at *
    generalize Zo.gt high' (j - 1) = q' at *
    repeat' split
    all_goals omega

section
variable {n : Nat} {l low high : List Int}

theorem wd_len (hl : l.length = (n + 1) * (n + 1)) : (wdM n low high l).length = (n + 1) * (n + 1) := by rw [wdM_len, hl]

theorem wd_at (hl : l.length = (n + 1) * (n + 1)) {a b : Nat} (ha : a ≤ n) (hb : b ≤ n) : Zo.At n (wdM n low high l) a b = if a = b then Zo.At n l a b else wdn (Zo.At n l a b) a b low high := Zo.elL_at _ hl ha hb

theorem wd_range (hc : chkE n l = 0) (hlo : Kn n low) (hhi : Kn n high) {a b : Nat} (ha : a ≤ n) (hb : b ≤ n) : Zo.At n l a b ≤ Zo.At n (wdM n low high l) a b ∧ (Zo.At n (wdM n low high l) a b = 1099511627776 ∨ (-2147483648 ≤ Zo.At n (wdM n low high l) a b ∧ Zo.At n (wdM n low high l) a b ≤ 2097153)) := by
  obtain ⟨_, hl, hr⟩ : n ≤ 10 ∧ l.length = (n + 1) * (n + 1) ∧ rdL l = true := by
    obtain ⟨m, e, h1, h2, _⟩ := chk_ok hc
    obtain rfl : n = m := by omega
    exact ⟨h1, h2, (chk_64 hc).2⟩
  have d := chk_diag hc
  rw [wd_at hl ha hb]
  have lv := lv_of_all hl hr a b ha hb
  by_cases c : a = b
  · rw [if_pos c]; subst c; rw [d.1 a ha]; omega
  · rw [if_neg c]
    have h0 : a = 0 → Zo.At n l a b ≤ 1 := fun e => by rw [e]; exact d.2 b hb
    exact ⟨wdn_ge lv h0, wdn_up lv h0 ha hb hlo hhi⟩

/-- The closing of what widening makes has an answer; it lies above the zone. -/
theorem wd_closed (hc : chkE n l = 0) (hlo : Kn n low) (hhi : Kn n high) : closeE n (wdM n low high l) = 0 ∧ Zo.Le n l (Zo.clo n (wdM n low high l)) ∧ chkE n (Zo.clo n (wdM n low high l)) = 0 ∧ (∀ a b, a ≤ n → b ≤ n → Zo.Wl (Zo.At n (wdM n low high l) a b)) ∧ (∀ i, i ≤ n → 1 ≤ Zo.At n (Zo.clo n (wdM n low high l)) i i) := by
  obtain ⟨hn, hl, hr⟩ : n ≤ 10 ∧ l.length = (n + 1) * (n + 1) ∧ rdL l = true := by
    obtain ⟨m, e, h1, h2, _⟩ := chk_ok hc
    obtain rfl : n = m := by omega
    exact ⟨h1, h2, (chk_64 hc).2⟩
  obtain ⟨D, hD⟩ := chk_cl hn hl hc
  have ld := wd_len (low := low) (high := high) hl
  have rg := fun a b (ha : a ≤ n) (hb : b ≤ n) => wd_range hc hlo hhi ha hb
  have hw : ∀ a b, a ≤ n → b ≤ n → Zo.Wl (Zo.At n (wdM n low high l) a b) := fun a b ha hb => by
    have := (rg a b ha hb).2
    unfold Zo.Wl; omega
  obtain ⟨o1, o2⟩ := Zo.clo_over hn ld hw hD (fun a b ha hb => (rg a b ha hb).1)
  have hB : cloB n (wdM n low high l) = false := cloB_iff.2 o1
  have lvw : ∀ k, k < (wdM n low high l).length → lvB (Zo.gt (wdM n low high l) k) = true := fun k hk => by
    rw [ld] at hk
    have e : Zo.ix n (k / (n + 1)) (k % (n + 1)) = k := by unfold Zo.ix; have := Nat.div_add_mod k (n + 1); rw [Nat.mul_comm] at this; exact this
    have a1 : k / (n + 1) ≤ n := by
      have : k / (n + 1) < n + 1 := Nat.div_lt_of_lt_mul hk
      omega
    have b1 : k % (n + 1) ≤ n := by have := Nat.mod_lt k (show 0 < n + 1 by omega); omega
    have := (rg _ _ a1 b1).2
    unfold Zo.At at this
    rw [e] at this
    unfold lvB; simp; omega
  obtain ⟨hrep, hdg⟩ := Zo.clo_repW hn ld hw o1 (n + 1) (Nat.le_refl _)
  have pv : ∀ i j x, Zo.mat n (wdM n low high l) i j = some x → x ≤ 2097153 := by
    intro i j x h
    unfold Zo.mat at h
    split at h
    · rename_i c
      have r := (rg i j c.1 c.2).2
      obtain ⟨v, hv⟩ : ∃ v, v = Zo.At n (Zo.pre n (wdM n low high l)) i j := ⟨_, rfl⟩
      rw [← hv] at h
      rw [Zo.pre_at ld c.1 c.2] at hv
      have hb : v = 1099511627776 ∨ v ≤ 2097153 := by
        split at hv <;> omega
      unfold Zo.dec at h
      split at h
      · simp at h
      · simp at h; omega
    · cases h
  have hlv : ∀ a b, a ≤ n → b ≤ n → lvB (Zo.At n (Zo.clo n (wdM n low high l)) a b) = true := fun a b ha hb => by
    have x := o2 a b ha hb
    have lv := lv_num (lv_of_all hl hr a b ha hb)
    have y : Zo.At n (Zo.clo n (wdM n low high l)) a b = Zo.enc (Zo.fw (Zo.mat n (wdM n low high l)) (n + 1) a b) := hrep.2 a b ha hb
    rw [y] at x ⊢
    cases e : Zo.fw (Zo.mat n (wdM n low high l)) (n + 1) a b with
    | none => unfold Zo.enc; decide
    | some z =>
      obtain ⟨S, _, hx⟩ := Zo.fw_bound (U := 2097153) pv (n + 1) hdg a b z e
      have := Zo.cnt_le S (n + 1)
      rw [e] at x
      simp only [Zo.enc] at x ⊢
      unfold lvB; simp; omega
  have hz : cloE n (wdM n low high l) = 0 := cloE_zero.2 ⟨hB, all_of_lv (by rw [Zo.clo_length, ld]) hlv⟩
  exact ⟨by rw [closeE_ok hn ld lvw]; exact hz, o2, clo_chk hn ld hw hz, hw, o1⟩

/-- With lesser constants it is not smaller. -/
theorem wd_mono {low' high' : List Int} (hc : chkE n l = 0) (hlo : Kn n low) (hhi : Kn n high) (hlo' : Kn n low') (hhi' : Kn n high') (a : ∀ k, k < n → Zo.gt low' k ≤ Zo.gt low k) (b : ∀ k, k < n → Zo.gt high' k ≤ Zo.gt high k) :
    Zo.Le n (Zo.clo n (wdM n low high l)) (Zo.clo n (wdM n low' high' l)) := by
  obtain ⟨hn, hl, hr⟩ : n ≤ 10 ∧ l.length = (n + 1) * (n + 1) ∧ rdL l = true := by
    obtain ⟨m, e, h1, h2, _⟩ := chk_ok hc
    obtain rfl : n = m := by omega
    exact ⟨h1, h2, (chk_64 hc).2⟩
  have d := chk_diag hc
  obtain ⟨_, _, _, w1, o1⟩ := wd_closed hc hlo hhi
  obtain ⟨_, _, _, w2, _⟩ := wd_closed hc hlo' hhi'
  have l1 := wd_len (low := low) (high := high) hl
  have l2 := wd_len (low := low') (high := high') hl
  refine (Zo.clo_over hn l2 w2 (Zo.Cl.of hn l1 w1 o1) fun p q hp hq => Int.le_trans (Zo.le_clo l1 p q hp hq) ?_).2
  rw [wd_at hl hp hq, wd_at hl hp hq]
  by_cases c : p = q
  · rw [if_pos c, if_pos c]; omega
  · rw [if_neg c, if_neg c]
    exact wdn_mono (lv_of_all hl hr p q hp hq) (fun e => by rw [e]; exact d.2 q hq) hp hq hlo hhi hlo' hhi' a b
end
end Go.Proofs.Ytgdcclldgfcilaa

namespace Go.Proofs.Ytgdcclldgfcilaa
open Go.RowKit

theorem wdE_two {N : Int} {low high l : List Int} (h : wdE N low high l ≠ 0) : wdE N low high l = 2 := by
  unfold wdE at h ⊢
  by_cases c : (decide (chkE N l = 0) && ksB N low && ksB N high) = true
  · exfalso
    rw [if_pos c] at h
    simp only [Bool.and_eq_true, decide_eq_true_eq] at c
    obtain ⟨n, rfl, hn, hl, _⟩ := chk_ok c.1.1
    exact h (wd_closed c.1.1 (ksB_kn c.1.2) (ksB_kn c.2)).1
  · rw [if_neg c]

theorem wdE_ok {N : Int} {low high l : List Int} (h : wdE N low high l = 0) : chkE N l = 0 ∧ ksB N low = true ∧ ksB N high = true := by
  unfold wdE at h
  by_cases c : (decide (chkE N l = 0) && ksB N low && ksB N high) = true
  · simp only [Bool.and_eq_true, decide_eq_true_eq] at c
    exact ⟨c.1.1, c.1.2, c.2⟩
  · rw [if_neg c] at h; cases h

theorem ksB_of {n : Nat} {k : List Int} (h : Kn n k) : ksB (n : Int) k = true := by
  unfold ksB
  rw [csB_yes (fun j hj => by have := h.2 j (by rw [← h.1]; exact hj); unfold kcB; simpa using this)]
  simp [h.1]

theorem tw_of {n : Nat} {l m : List Int} (h1 : chkE n l = 0) (h2 : chkE n m = 0) : twB n n l m = true := by unfold twB; simp [h1, h2]

theorem in_of {n : Nat} {l m : List Int} (hl : l.length = (n + 1) * (n + 1)) (h : Zo.Le n m l) : inB l m = true := by
  unfold inB
  rw [List.all_eq_true]
  intro k hk
  rw [List.mem_range, hl] at hk
  have e : Zo.ix n (k / (n + 1)) (k % (n + 1)) = k := by unfold Zo.ix; have := Nat.div_add_mod k (n + 1); rw [Nat.mul_comm] at this; exact this
  have a1 : k / (n + 1) ≤ n := by
    have : k / (n + 1) < n + 1 := Nat.div_lt_of_lt_mul hk
    omega
  have b1 : k % (n + 1) ≤ n := by have := Nat.mod_lt k (show 0 < n + 1 by omega); omega
  have := h _ _ a1 b1
  unfold Zo.At at this
  rw [e] at this
  simpa using this
end Go.Proofs.Ytgdcclldgfcilaa

namespace Go.Proofs.Ytgdcclldgfcilaa
open Go.RowKit

/-- Whether the number n / d meets the limit l. -/
def mtB (n d l : Int) : Bool := noB l || (if evB l then decide (n < l / 2 * d) else decide (n ≤ l / 2 * d))

def meB (n d l : Int) : Bool := vldB n d && lvB l && mtB n d l

def meE (n d l : Int) : Int := if vldB n d && lvB l then 0 else 2

theorem ret_be {a b : Bool} {c d : Int} (h : a = b) (g : c = d) : Ending.returned (.tuple #[.bool a, .int .i64 c]) = .returned (.tuple #[.bool b, .int .i64 d]) := by rw [h, g]

theorem of_small {c : Int} (h1 : -2147483647 ≤ c) (h2 : c ≤ 2147483647) : mkNum c 1 = c ∧ mkDen c 1 = 1 ∧ mkErr c 1 = 0 := by
  have ht : top c 1 = c.natAbs := by unfold top; simp
  have hb : bot c 1 = 1 := by unfold bot; simp
  have hf : fits c 1 = true := by unfold fits; rw [ht, hb]; simp; omega
  unfold mkNum mkDen mkErr
  have h0 : ¬ ((1 : Int) = 0) := by decide
  simp only [if_neg h0, hf, if_true, ht, hb]
  refine ⟨?_, by simp⟩
  by_cases hc : c < 0
  · simp [hc]; omega
  · simp [hc]; omega

theorem vld_small {c : Int} (h1 : -2147483647 ≤ c) (h2 : c ≤ 2147483647) : vldB c 1 = true := by unfold vldB; simp; omega

theorem sgn_three (x y : Int) : (sgn x y = -1 ∧ x < y) ∨ (sgn x y = 0 ∧ x = y) ∨ (sgn x y = 1 ∧ y < x) := by
  unfold sgn
  by_cases h : x < y
  · simp [h]
  · by_cases g : y < x
    · simp [h, g]
    · right; left; rw [if_neg h, if_neg g]; omega

set_option maxHeartbeats 400000 in
theorem refLimMeets_some (n d l : Int) (w : World) (v : vldB n d = true) (hl : I64 l) (vl : lvB l = true) (nl : noB l = false) (l1 : -2147483648 ≤ l) (l2 : l ≤ 2147483649) :
    Calls Try.prog 17 #[.agg #[.int .i64 n, .int .i64 d], .int .i64 l] w (Made (.tuple #[.bool (meB n d l), .int .i64 (meE n d l)]) w) := by
  obtain ⟨x1, x2, x3, x4⟩ := vld_bd v
  have L0 : (l == 1099511627776) = false := by simpa [noB] using nl
  have hS := fun W => refSplit_some W hl vl nl
  have HM := Lib.hid (show meB n d l = (if evB l then decide (n < l / 2 * d) else decide (n ≤ l / 2 * d)) ∧ meE n d l = 0 by simp [meB, mtB, meE, v, vl, nl])
  obtain ⟨c, hc⟩ : ∃ c, c = l / 2 := ⟨_, rfl⟩
  have c1 : -2147483647 ≤ c := by omega
  have c2 : c ≤ 2147483647 := by omega
  obtain ⟨p1a, p1b⟩ := mul_bd c1 c2 (show -2147483647 ≤ d by omega) x2
  have e1 := wrap_in (c * d) (by omega) (by omega)
  obtain ⟨s, hs⟩ : ∃ s, s = evB l := ⟨_, rfl⟩
  rw [← hc, ← hs] at hS HM
  clear hc hs
  have V := Lib.hid v
  have VL := Lib.hid vl
  have HS := Lib.hid hS
  clear v vl nl hS
  cases s
  all_goals
    go_enter Try.func17, Try.ntmps17
    go_wp2_with fail
    refine (refValid_as _ ⟨by omega, by omega⟩ ⟨by omega, by omega⟩ V.out).mono ?_
    rintro e w1 ⟨rfl, hb⟩
    have hB := past_one hb
    have pA := (Pair.made w n d 38).kept hb
    clear hb
    obtain ⟨fA0, fA1, fA2, fA3⟩ := pA.facts
    have gA := pA.lt
    go_wp2_with fail
    refine (refLimValid_as _ hl VL.out).mono ?_
    rintro e w' ⟨rfl, rfl⟩
    go_wp2_with fail
    refine (HS.out _).mono ?_
    rintro e w' ⟨rfl, rfl⟩
    go_wp2_with fail
    go_ret2
    exact ⟨ret_be (by rw [HM.out.1]; simp) HM.out.2.symm, hB⟩

set_option maxHeartbeats 400000 in
theorem refLimMeets_bad1 (n d l : Int) (w : World) (hn : I64 n) (hd : I64 d) (v : vldB n d = false) :
    Calls Try.prog 17 #[.agg #[.int .i64 n, .int .i64 d], .int .i64 l] w (Made (.tuple #[.bool (meB n d l), .int .i64 (meE n d l)]) w) := by
  have HM := Lib.hid (show meB n d l = false ∧ meE n d l = 2 by simp [meB, meE, v])
  have V := Lib.hid v
  clear v
  go_enter Try.func17, Try.ntmps17
  go_wp2_with fail
  refine (refValid_as _ hn hd V.out).mono ?_
  rintro e w1 ⟨rfl, hb⟩
  go_wp2_with fail
  go_ret2
  exact ⟨ret_be HM.out.1.symm HM.out.2.symm, past_one hb⟩

set_option maxHeartbeats 400000 in
theorem refLimMeets_bad2 (n d l : Int) (w : World) (hn : I64 n) (hd : I64 d) (hl : I64 l) (v : vldB n d = true) (vl : lvB l = false) :
    Calls Try.prog 17 #[.agg #[.int .i64 n, .int .i64 d], .int .i64 l] w (Made (.tuple #[.bool (meB n d l), .int .i64 (meE n d l)]) w) := by
  have HM := Lib.hid (show meB n d l = false ∧ meE n d l = 2 by simp [meB, meE, vl])
  have V := Lib.hid v
  have VL := Lib.hid vl
  clear v vl
  go_enter Try.func17, Try.ntmps17
  go_wp2_with fail
  refine (refValid_as _ hn hd V.out).mono ?_
  rintro e w1 ⟨rfl, hb⟩
  go_wp2_with fail
  refine (refLimValid_as _ hl VL.out).mono ?_
  rintro e w' ⟨rfl, rfl⟩
  go_wp2_with fail
  go_ret2
  exact ⟨ret_be HM.out.1.symm HM.out.2.symm, past_one hb⟩

set_option maxHeartbeats 400000 in
theorem refLimMeets_none (n d l : Int) (w : World) (hn : I64 n) (hd : I64 d) (hl : I64 l) (v : vldB n d = true) (vl : lvB l = true) (nl : noB l = true) :
    Calls Try.prog 17 #[.agg #[.int .i64 n, .int .i64 d], .int .i64 l] w (Made (.tuple #[.bool (meB n d l), .int .i64 (meE n d l)]) w) := by
  have HM := Lib.hid (show meB n d l = true ∧ meE n d l = 0 by simp [meB, mtB, meE, v, vl, nl])
  have L0 : (l == 1099511627776) = true := by simpa [noB] using nl
  have V := Lib.hid v
  have VL := Lib.hid vl
  have NL := Lib.hid nl
  clear v vl nl
  go_enter Try.func17, Try.ntmps17
  go_wp2_with fail
  refine (refValid_as _ hn hd V.out).mono ?_
  rintro e w1 ⟨rfl, hb⟩
  go_wp2_with fail
  refine (refLimValid_as _ hl VL.out).mono ?_
  rintro e w' ⟨rfl, rfl⟩
  go_wp2_with fail
  refine (refSplit_none _ hl VL.out NL.out).mono ?_
  rintro e w' ⟨rfl, rfl⟩
  go_wp2_with fail
  go_ret2
  exact ⟨ret_be HM.out.1.symm HM.out.2.symm, past_one hb⟩

theorem refLimMeets_any (n d l : Int) (w : World) (hn : I64 n) (hd : I64 d) (hl : I64 l) :
    Calls Try.prog 17 #[.agg #[.int .i64 n, .int .i64 d], .int .i64 l] w (Made (.tuple #[.bool (meB n d l), .int .i64 (meE n d l)]) w) := by
  cases v : vldB n d
  · exact refLimMeets_bad1 n d l w hn hd v
  · rcases lvB_cases l with ⟨vl, nl, l0, lr⟩ | ⟨l0, vl, nl⟩ | ⟨vl, nl, l0, l1, l2⟩
    · exact refLimMeets_bad2 n d l w hn hd hl v vl
    · exact refLimMeets_none n d l w hn hd hl v vl nl
    · exact refLimMeets_some n d l w v hl vl nl l1 l2
end Go.Proofs.Ytgdcclldgfcilaa

namespace Go.Proofs.Ytgdcclldgfcilaa

theorem gcd_pos (a b : Int) (h : b ≠ 0) : 0 < Nat.gcd a.natAbs b.natAbs := Nat.gcd_pos_of_pos_right _ (by omega)

theorem top_mul (a b : Int) : top a b * Nat.gcd a.natAbs b.natAbs = a.natAbs := Nat.div_mul_cancel (Nat.gcd_dvd_left _ _)

theorem bot_mul (a b : Int) : bot a b * Nat.gcd a.natAbs b.natAbs = b.natAbs := Nat.div_mul_cancel (Nat.gcd_dvd_right _ _)

theorem tb_cop (a b : Int) (h : b ≠ 0) : Nat.gcd (top a b) (bot a b) = 1 := by
  unfold top bot
  exact Nat.Coprime.gcd_eq_one (Nat.coprime_div_gcd_div_gcd (gcd_pos a b h))

theorem bot_pos (a b : Int) (h : b ≠ 0) : 1 ≤ bot a b := by
  have h1 := bot_mul a b
  rcases Nat.eq_zero_or_pos (bot a b) with e | e
  · rw [e] at h1; omega
  · exact e

/-- Parts without a common divisor are those of the number. -/
theorem cop_unique {t u t' u' : Nat} (h : Nat.gcd t u = 1) (h' : Nat.gcd t' u' = 1) (e : t * u' = t' * u) : t = t' ∧ u = u' := by
  have d1 : t ∣ t' := Nat.Coprime.dvd_of_dvd_mul_right (show Nat.Coprime t u from h) (e ▸ Nat.dvd_mul_right t u')
  have d2 : t' ∣ t := Nat.Coprime.dvd_of_dvd_mul_right (show Nat.Coprime t' u' from h') (e ▸ Nat.dvd_mul_right t' u)
  have d3 : u ∣ u' := Nat.Coprime.dvd_of_dvd_mul_left (show Nat.Coprime u t from by rw [Nat.coprime_comm]; exact h) (e ▸ Nat.dvd_mul_left u t')
  have d4 : u' ∣ u := Nat.Coprime.dvd_of_dvd_mul_left (show Nat.Coprime u' t' from by rw [Nat.coprime_comm]; exact h') (e ▸ Nat.dvd_mul_left u' t)
  exact ⟨Nat.dvd_antisymm d1 d2, Nat.dvd_antisymm d3 d4⟩

theorem tb_congr {a b a' b' : Int} (hb : b ≠ 0) (hb' : b' ≠ 0) (e : a * b' = a' * b) : top a b = top a' b' ∧ bot a b = bot a' b' := by
  apply cop_unique (tb_cop a b hb) (tb_cop a' b' hb')
  have e1 : a.natAbs * b'.natAbs = a'.natAbs * b.natAbs := by rw [← Int.natAbs_mul, ← Int.natAbs_mul, e]
  have t1 := top_mul a b
  have t2 := bot_mul a b
  have t3 := top_mul a' b'
  have t4 := bot_mul a' b'
  have p := gcd_pos a b hb
  have p' := gcd_pos a' b' hb'
  have e2 : (Nat.gcd a.natAbs b.natAbs * Nat.gcd a'.natAbs b'.natAbs) * (top a b * bot a' b') = (Nat.gcd a.natAbs b.natAbs * Nat.gcd a'.natAbs b'.natAbs) * (top a' b' * bot a b) := by
    calc _ = top a b * Nat.gcd a.natAbs b.natAbs * (bot a' b' * Nat.gcd a'.natAbs b'.natAbs) := by ac_rfl
      _ = a.natAbs * b'.natAbs := by rw [t1, t4]
      _ = a'.natAbs * b.natAbs := e1
      _ = top a' b' * Nat.gcd a'.natAbs b'.natAbs * (bot a b * Nat.gcd a.natAbs b.natAbs) := by rw [t2, t3]
      _ = _ := by ac_rfl
  exact Nat.eq_of_mul_eq_mul_left (Nat.mul_pos p p') e2

theorem neg_iff {a b : Int} (ha : a ≠ 0) (hb : b ≠ 0) : (decide (a < 0) != decide (b < 0)) = decide (a * b < 0) := by
  rcases Int.lt_or_lt_of_ne ha with x | x <;> rcases Int.lt_or_lt_of_ne hb with y | y
  · have u : 0 < a * b := Int.mul_pos_of_neg_of_neg x y
    rw [Bool.eq_iff_iff]; simp; omega
  · have u : a * b < 0 := Int.mul_neg_of_neg_of_pos x y
    rw [Bool.eq_iff_iff]; simp; omega
  · have u : a * b < 0 := Int.mul_neg_of_pos_of_neg x y
    rw [Bool.eq_iff_iff]; simp; omega
  · have u : 0 < a * b := Int.mul_pos x y
    rw [Bool.eq_iff_iff]; simp; omega

theorem neg_scale {x y p q : Int} (hp : 0 < p) (hq : 0 < q) (e : x * p = y * q) (h : x < 0) : y < 0 := by
  have u : x * p < 0 := Int.mul_neg_of_neg_of_pos h hp
  rcases Int.lt_or_le y 0 with k | k
  · exact k
  · have : 0 ≤ y * q := Int.mul_nonneg k (by omega)
    omega

theorem sq_pos {b : Int} (hb : b ≠ 0) : 0 < b * b := by
  rcases Int.lt_or_lt_of_ne hb with x | x
  · exact Int.mul_pos_of_neg_of_neg x x
  · exact Int.mul_pos x x

theorem neg_congr {a b a' b' : Int} (hb : b ≠ 0) (hb' : b' ≠ 0) (e : a * b' = a' * b) (h0 : a ≠ 0) : (decide (a < 0) != decide (b < 0)) = (decide (a' < 0) != decide (b' < 0)) := by
  have h1 : a' ≠ 0 := by
    intro h
    rw [h, Int.zero_mul] at e
    rcases Int.mul_eq_zero.1 e with h | h
    · exact h0 h
    · exact hb' h
  rw [neg_iff h0 hb, neg_iff h1 hb']
  have k : (a * b) * (b' * b') = (a' * b') * (b * b) := by
    calc (a * b) * (b' * b') = (a * b') * (b * b') := by ac_rfl
      _ = (a' * b) * (b * b') := by rw [e]
      _ = _ := by ac_rfl
  rw [decide_eq_decide]
  exact ⟨neg_scale (sq_pos hb') (sq_pos hb) k, neg_scale (sq_pos hb) (sq_pos hb') k.symm⟩

/-- Equal numbers are made the same. -/
theorem mk_congr {a b a' b' : Int} (hb : b ≠ 0) (hb' : b' ≠ 0) (e : a * b' = a' * b) : mkNum a b = mkNum a' b' ∧ mkDen a b = mkDen a' b' ∧ mkErr a b = mkErr a' b' := by
  obtain ⟨e1, e2⟩ := tb_congr hb hb' e
  have ef : fits a b = fits a' b' := by unfold fits; rw [e1, e2]
  refine ⟨?_, ?_, ?_⟩
  · unfold mkNum
    rw [if_neg hb, if_neg hb', ef, e1]
    by_cases h0 : a = 0
    · have t0 : top a' b' = 0 := by rw [← e1, h0]; simp [top]
      rw [t0]; simp
    · rw [neg_congr hb hb' e h0]
  · unfold mkDen
    rw [if_neg hb, if_neg hb', ef, e2]
  · unfold mkErr
    rw [if_neg hb, if_neg hb', ef]

/-- A valid ratio is made of itself. -/
theorem mk_self {n d : Int} (h : vldB n d = true) : mkNum n d = n ∧ mkDen n d = d ∧ mkErr n d = 0 := by
  obtain ⟨h1, h2, h3, h4⟩ := vld_bd h
  have hg : Nat.gcd n.natAbs d.natAbs = 1 := by unfold vldB at h; simp at h; exact h.2.2.2.2
  have t1 : top n d = n.natAbs := by unfold top; rw [hg]; simp
  have t2 : bot n d = d.natAbs := by unfold bot; rw [hg]; simp
  have hf : fits n d = true := by unfold fits; rw [t1, t2]; simp; omega
  have hd : ¬ d = 0 := by omega
  refine ⟨?_, ?_, ?_⟩
  · unfold mkNum; rw [if_neg hd, hf, t1]
    have : decide (d < 0) = false := by simp; omega
    rw [this]
    by_cases hn : n < 0
    · simp [hn]; omega
    · simp [hn]; omega
  · unfold mkDen; rw [if_neg hd, hf, t2]; simp; omega
  · unfold mkErr; rw [if_neg hd, hf]; rfl

/-- The ratio of a number: what stands for it is what is made. -/
theorem mk_is {a b P Q : Int} (hv : vldB P Q = true) (hb : b ≠ 0) (e : P * b = a * Q) : mkNum a b = P ∧ mkDen a b = Q ∧ mkErr a b = 0 := by
  have hQ := (vld_bd hv).1
  obtain ⟨s1, s2, s3⟩ := mk_self hv
  obtain ⟨c1, c2, c3⟩ := mk_congr (a := a) (b := b) (a' := P) (b' := Q) hb (by omega) e.symm
  rw [s1] at c1; rw [s2] at c2; rw [s3] at c3
  exact ⟨c1, c2, c3⟩

/-- What is made without an error is a ratio that stands for the number. -/
theorem mk_ok {a b : Int} (h : mkErr a b = 0) : b ≠ 0 ∧ vldB (mkNum a b) (mkDen a b) = true ∧ mkNum a b * b = a * mkDen a b := by
  have hb : b ≠ 0 := by intro e; unfold mkErr at h; rw [if_pos e] at h; omega
  have hf : fits a b = true := by
    unfold mkErr at h; rw [if_neg hb] at h
    cases hc : fits a b
    · rw [hc] at h; simp at h
    · rfl
  have hn : mkNum a b = (if (decide (a < 0) != decide (b < 0)) then -(top a b : Int) else top a b) := by unfold mkNum; rw [if_neg hb, hf]; rfl
  have hd : mkDen a b = bot a b := by unfold mkDen; rw [if_neg hb, hf]; rfl
  have c := tb_cop a b hb
  have p := bot_pos a b hb
  have f2 : top a b ≤ 2147483647 ∧ bot a b ≤ 2147483647 := by unfold fits at hf; simpa using hf
  have ab : (mkNum a b).natAbs = top a b := by rw [hn]; split <;> simp
  refine ⟨hb, ?_, ?_⟩
  · unfold vldB
    rw [ab, hd]
    simp
    refine ⟨by omega, by omega, ?_, ?_, c⟩ <;> omega
  · have t := top_mul a b
    have u := bot_mul a b
    generalize hg : Nat.gcd a.natAbs b.natAbs = g at *
    have t' : ((top a b : Nat) : Int) * (g : Int) = (a.natAbs : Int) := by exact_mod_cast t
    have u' : ((bot a b : Nat) : Int) * (g : Int) = (b.natAbs : Int) := by exact_mod_cast u
    rw [hn, hd]
    generalize ((top a b : Nat) : Int) = T at *
    generalize ((bot a b : Nat) : Int) = U at *
    by_cases ha : a < 0 <;> by_cases hb2 : b < 0
    · have ea : a = -(T * g) := by omega
      have eb : b = -(U * g) := by omega
      simp only [ha, hb2, decide_true, bne_self_eq_false, Bool.false_eq_true, if_false]
      rw [eb, ea]; grind
    · have ea : a = -(T * g) := by omega
      have eb : b = U * g := by omega
      simp only [ha, hb2, decide_true, decide_false]
      simp
      rw [eb, ea]; grind
    · have ea : a = T * g := by omega
      have eb : b = -(U * g) := by omega
      simp only [ha, hb2, decide_true, decide_false]
      simp
      rw [eb, ea]; grind
    · have ea : a = T * g := by omega
      have eb : b = U * g := by omega
      simp only [ha, hb2, decide_false, bne_self_eq_false, Bool.false_eq_true, if_false]
      rw [eb, ea]; grind

theorem mk_zero {a b : Int} (hb : b ≠ 0) (h : mkErr a b ≠ 0) : mkNum a b = 0 ∧ mkDen a b = 0 ∧ mkErr a b = 7 := by
  unfold mkErr at h; rw [if_neg hb] at h
  have hf : fits a b = false := by
    cases hc : fits a b
    · rfl
    · rw [hc] at h; simp at h
  unfold mkNum mkDen mkErr
  rw [if_neg hb, if_neg hb, if_neg hb, hf]
  simp
end Go.Proofs.Ytgdcclldgfcilaa

namespace Go.Proofs.Ytgdcclldgfcilaa
open Go.RowKit

def Fits (ps : List Pq) : Prop := ∀ k, k < ps.length → I64 (gp ps k).1 ∧ I64 (gp ps k).2

theorem ready_gen (N : Int) (l : List Int) (ao : Option Addr) (cap : Nat) (ps : List Pq) (po : Option Addr) (pc : Nat) (w : World) (hA : Arg w ao l) (hP : Arg2 w po ps) (hI : Fits ps) :
    Calls Try.prog 14 #[.agg #[.int .i64 N, .slice ao l.length cap], .slice po ps.length pc] w (Made (.int .i64 (rdE N l ps)) w) := by
  by_cases hc : chkE N l = 0
  · by_cases hp : (ps.length : Int) = N
    · obtain ⟨n, rfl, hn, hl, hne⟩ := chk_ok hc
      obtain ⟨a, rfl, hR⟩ := hA hne
      exact ready_any n l a cap ps po pc w hn hl hR hc (by omega) hP hI
    · exact ready_bad2 N l ao cap ps po pc w hA hc hp
  · exact ready_bad1 N l ao cap ps po pc w hA hc

/-- The elements of a zone that passes Check are limits. -/
theorem chk_i64 {n : Nat} {l : List Int} (h : chkE (n : Int) l = 0) {i j : Nat} (hi : i ≤ n) (hj : j ≤ n) : I64 (Zo.At n l i j) := by
  unfold chkE at h
  split at h
  · rename_i c
    unfold chkB at c
    simp only [Bool.and_eq_true] at c
    have := chk1_iff.1 c.1.2 i (by simp; omega) j (by simp; omega)
    simp only [Int.toNat_natCast] at this
    unfold okI at this
    simp only [Bool.and_eq_true] at this
    have lv := this.1.1
    unfold lvB at lv
    simp at lv
    unfold I64; omega
  · omega

def hsM (n : Nat) (l : List Int) (ps : List Pq) (i j : Nat) : Bool := meB (sbN ps i j) (sbD ps i j) (Zo.At n l i j)

def hsB (n : Nat) (l : List Int) (ps : List Pq) : Bool := (List.range (n + 1)).all fun i => (List.range (n + 1)).all fun j => hsM n l ps i j

def hsR (N : Int) (l : List Int) (ps : List Pq) : Bool := decide (rdE N l ps = 0) && hsB N.toNat l ps

theorem hsB_iff {n : Nat} {l : List Int} {ps : List Pq} : hsB n l ps = true ↔ ∀ i, i < n + 1 → ∀ j, j < n + 1 → hsM n l ps i j = true := by simp [hsB]

theorem hsB_no {n : Nat} {l : List Int} {ps : List Pq} {i j : Nat} (hi : i < n + 1) (hj : j < n + 1) (h : hsM n l ps i j = false) : hsB n l ps = false := by
  cases e : hsB n l ps
  · rfl
  · have := hsB_iff.1 e i hi j hj
    rw [h] at this; simp at this

/-- What it means to be ready. -/
theorem rd_ok {N : Int} {l : List Int} {ps : List Pq} (h : rdE N l ps = 0) : chkE N l = 0 ∧ (ps.length : Int) = N ∧ (∀ k, k < ps.length → vldC (gp ps k) = true) ∧ rdR N.toNat ps = true := by
  unfold rdE at h
  split at h
  · rename_i c
    split at h
    · rename_i d; exact ⟨c.1, c.2.1, fun k hk => rd_all c.2.2 k hk, d⟩
    · omega
  · omega

set_option maxHeartbeats 400000 in
theorem has_bad (N : Int) (l : List Int) (ao : Option Addr) (cap : Nat) (ps : List Pq) (po : Option Addr) (pc : Nat) (w : World) (hA : Arg w ao l) (hP : Arg2 w po ps) (hI : Fits ps) (hr : rdE N l ps ≠ 0) :
    Calls Try.prog 7 #[.agg #[.int .i64 N, .slice ao l.length cap], .slice po ps.length pc] w (Made (.tuple #[.bool (hsR N l ps), .int .i64 (rdE N l ps)]) w) := by
  have H := Lib.hid (show hsR N l ps = false by simp [hsR, hr])
  have RD := Lib.hid fun W (h : Below w.heap.size w W) => ready_gen N l ao cap ps po pc W (hA.on h) (hP.on h) hI
  have D : (rdE N l ps != 0) = true := by simpa using hr
  have e0 := Lib.hid (one_more (w1 := w))
  clear hA hP hI hr
  generalize l.length = len at *
  generalize ps.length = plen at *
  generalize rdE N l ps = er at *
  go_enter Try.func7, Try.ntmps7
  go_wp2_with fail
  refine (RD.out _ (e0.out _)).mono ?_
  rintro e w1 ⟨rfl, hb⟩
  go_wp2_with fail
  go_ret2
  exact ⟨by rw [H.out]; rfl, past_one hb⟩

set_option maxHeartbeats 1600000 in
theorem has_any (n : Nat) (l : List Int) (a : Addr) (cap : Nat) (ps : List Pq) (po : Option Addr) (pc : Nat) (w : World) (hn : n ≤ 10) (hl : l.length = (n + 1) * (n + 1)) (hR : Rd w a l) (hP : Arg2 w po ps) (hI : Fits ps) (hr : rdE n l ps = 0) (hL : ∀ i j, i ≤ n → j ≤ n → I64 (Zo.At n l i j)) :
    Calls Try.prog 7 #[.agg #[.int .i64 n, .slice (some a) l.length cap], .slice po ps.length pc] w (Made (.tuple #[.bool (hsR n l ps), .int .i64 (rdE n l ps)]) w) := by
  obtain ⟨hc, hp, hv, hR0⟩ := rd_ok hr
  replace hp : ps.length = n := by omega
  obtain ⟨len, hlen⟩ : ∃ len, len = l.length := ⟨_, rfl⟩
  obtain ⟨w0, hw0⟩ : ∃ w0, w0 = w.alloc (.cells #[.int .i64 n, .slice (some a) len cap] 24) := ⟨_, rfl⟩
  have bx : Two w0 w.heap.size (.int .i64 n) (.slice (some a) len cap) := by rw [hw0]; exact Two.made _ _ _ _
  have e0 : Below w.heap.size w w0 := by rw [hw0]; exact one_more _
  have RD : Hid (∀ W, Below w.heap.size w W → Calls Try.prog 14 #[.agg #[.int .i64 n, .slice (some a) len cap], .slice po n pc] W (Made (.int .i64 0) W)) := Lib.hid fun W h => by have := ready_gen n l (some a) cap ps po pc W (fun _ => ⟨_, rfl, hR.on h⟩) (hP.on h) hI; rw [hr, hp, ← hlen] at this; exact this
  have CL : Hid (∀ (i : Nat) (W : World), i ≤ n → Below w.heap.size w W → Calls Try.prog 16 #[.slice po n pc, .int .i64 i] W (Made (.agg #[.int .i64 (clk ps i).1, .int .i64 (clk ps i).2]) W)) := Lib.hid fun i W hi h => by have := clock_any ps po pc i W (hP.on h) (by omega) (by omega); rw [hp] at this; exact this
  have SB := Lib.hid fun (i j : Nat) (W : World) (hi : i ≤ n) (hj : j ≤ n) => by have := sub_clk (ps := ps) W hv (i := i) (j := j) (by rw [hp]; exact hi) (by rw [hp]; exact hj); rw [rdR_at hR0 (i := i) (j := j) (by simp; omega) (by simp; omega)] at this; exact this
  have AT : Hid (∀ (i j : Nat) (W : World), i ≤ n → j ≤ n → Below w.heap.size w W → Calls Try.prog 18 #[.agg #[.int .i64 n, .slice (some a) len cap], .int .i64 i, .int .i64 j] W (Made (.int .i64 (Zo.At n l i j)) W)) := Lib.hid fun i j W hi hj h => by have := at_any n i j l a cap W hn hi hj hl (hR.on h); rw [← hlen] at this; exact this
  have MT := Lib.hid fun (i j : Nat) (W : World) (hi : i ≤ n) (hj : j ≤ n) => refLimMeets_any (sbN ps i j) (sbD ps i j) (Zo.At n l i j) W (by have := mkNum_bd ((clk ps i).1 * (clk ps j).2 - (clk ps j).1 * (clk ps i).2) ((clk ps i).2 * (clk ps j).2); unfold sbN I64; omega) (by have := mkDen_bd ((clk ps i).1 * (clk ps j).2 - (clk ps j).1 * (clk ps i).2) ((clk ps i).2 * (clk ps j).2); unfold sbD I64; omega) (hL i j hi hj)
  have HRE := Lib.hid hr
  have HH := Lib.hid (show hsR n l ps = hsB n l ps by simp [hsR, hr])
  have E0 := Lib.hid e0
  have HW0 := Lib.hid hw0
  rw [hp, ← hlen]
  clear hR hc hp hP hI e0 hw0 hl hlen hv hR0 hr hL
  go_enter Try.func7, Try.ntmps7
  go_wp2_with fail
  rw [← HW0.out]
  obtain ⟨b0, b1, b2, b3⟩ := bx.facts
  go_wp2_with fail
  refine (RD.out _ E0.out).mono ?_
  rintro e w1 ⟨rfl, hb1⟩
  clear b0 b1 b2 b3
  replace bx := bx.kept hb1
  have E1 := Lib.hid (below_on E0.out hb1)
  clear hb1 E0
  go_wp2_with fail
  go_loopw [7] (fun s wx => ∃ t : Nat, t ≤ n + 1 ∧ s = .int .i64 t ∧ Hid (∀ i, i < t → ∀ j, j < n + 1 → hsM n l ps i j = true) ∧ Hid (Below w1.heap.size w1 wx)) (fun s _ => n + 1 - (intOf s).toNat)
  case atStart => exact ⟨0, by omega, rfl, Lib.hid (fun k hk => by omega), Lib.hid (Below.refl _ _)⟩
  case round =>
    obtain ⟨i, hi, rfl, HS, HB⟩ := hrel
    obtain ⟨b0, b1, b2, b3⟩ := (bx.kept HB.out).facts
    by_cases hin : i ≤ n
    · go_wp2_with fail
      clear b0 b1 b2 b3
      go_loopw [8] (fun s wx => ∃ t : Nat, t ≤ n + 1 ∧ s = .int .i64 t ∧ Hid (∀ j, j < t → hsM n l ps i j = true) ∧ Hid (Below w1.heap.size w1 wx)) (fun s _ => n + 1 - (intOf s).toNat)
      case atStart => exact ⟨0, by omega, rfl, Lib.hid (fun k hk => by omega), HB⟩
      case round =>
        obtain ⟨j, hj, rfl, HJ, HBj⟩ := hrel
        obtain ⟨b0, b1, b2, b3⟩ := (bx.kept HBj.out).facts
        by_cases hjn : j ≤ n
        · have mt := fun W => MT.out i j W hin hjn
          have sb := fun W => SB.out i j W hin hjn
          have a9 := fun W h => AT.out i j W hin hjn h
          have hM : hsM n l ps i j = meB (sbN ps i j) (sbD ps i j) (Zo.At n l i j) := rfl
          generalize meB (sbN ps i j) (sbD ps i j) (Zo.At n l i j) = mb at mt hM
          generalize meE (sbN ps i j) (sbD ps i j) (Zo.At n l i j) = me at mt
          generalize sbN ps i j = sn at *
          generalize sbD ps i j = sd at *
          generalize Zo.At n l i j = lv at *
          have MT2 := Lib.hid mt
          have SB2 := Lib.hid sb
          have AT2 := Lib.hid a9
          have HM := Lib.hid hM
          clear mt sb a9 hM
          cases mb
          · have HE := Lib.hid (hsB_no (n := n) (l := l) (ps := ps) (i := i) (j := j) (by omega) (by omega) HM.out)
            go_wp2_with fail
            refine (CL.out i _ hin (below_on E1.out HBj.out)).mono ?_
            rintro e w3 ⟨rfl, hb3⟩
            have q3 := below_on HBj.out hb3
            clear hb3 b0 b1 b2 b3
            go_wp2_with fail
            refine (CL.out j _ hjn (below_on E1.out q3)).mono ?_
            rintro e w4 ⟨rfl, hb4⟩
            have q4 := below_on q3 hb4
            clear hb4 q3
            go_wp2_with fail
            refine (SB2.out _).mono ?_
            rintro e w5 ⟨rfl, hb5⟩
            have q5 := below_on q4 hb5
            clear hb5 q4
            obtain ⟨w6, hw6⟩ : ∃ w6, w6 = w5.alloc (.cells #[.int .i64 sn, .int .i64 sd] 38) := ⟨_, rfl⟩
            have pD : Pair w6 w5.heap.size sn sd := by rw [hw6]; exact Pair.made _ _ _ _
            have q6 : Below w1.heap.size w1 w6 := by rw [hw6]; exact q5.alloc q5.size _
            have bx6 := bx.kept q6
            have HW6 := Lib.hid hw6
            have KS := Lib.hid (show ∀ W : World, Below w6.heap.size w6 W → (W.cell? ⟨w5.heap.size, 0, none⟩ = some (.int .i64 sn) ∧ W.cell? ⟨w5.heap.size, 1, none⟩ = some (.int .i64 sd)) ∧ (W.cell? ⟨w.heap.size, 0, none⟩ = some (.int .i64 n) ∧ W.cell? ⟨w.heap.size, 1, none⟩ = some (.slice (some a) len cap)) from
              fun W h => ⟨⟨(pD.kept h).facts.1, (pD.kept h).facts.2.1⟩, (bx6.kept h).facts.1, (bx6.kept h).facts.2.1⟩)
            have Q6 := Lib.hid q6
            clear hw6 q5 q6 pD bx6
            go_wp2_with fail
            rw [← HW6.out]
            have s1 : Below w6.heap.size w6 w6.drew := (Below.refl _ _).drew
            go_region_held3 (fun w' => (w'.cell? ⟨w5.heap.size, 0, none⟩ = some (.int .i64 sn) ∧ w'.cell? ⟨w5.heap.size, 1, none⟩ = some (.int .i64 sd)) ∧ (w'.cell? ⟨w.heap.size, 0, none⟩ = some (.int .i64 n) ∧ w'.cell? ⟨w.heap.size, 1, none⟩ = some (.slice (some a) len cap))) (first | exact KS.out _ s1 | exact KS.out _ s7 | exact KS.out _ s8)
              (first | (go_at_call 18; refine (AT2.out _ (below_on E1.out (below_on Q6.out s1))).mono ?_; rintro e w7 ⟨rfl, hb7⟩; have s7 := below_on s1 hb7) | (go_at_call 17; refine (MT2.out _).mono ?_; rintro e w8 ⟨rfl, hb8⟩; have s8 := below_on s7 hb8))
            have Q8 := Lib.hid (below_on Q6.out s8)
            clear s1 s7 s8 hb7 hb8
            go_wp2_with fail
            go_ret2
            exact ⟨by rw [HRE.out, HH.out, HE.out]; rfl, below_on E1.out Q8.out⟩
          · go_wp2_with fail
            refine (CL.out i _ hin (below_on E1.out HBj.out)).mono ?_
            rintro e w3 ⟨rfl, hb3⟩
            have q3 := below_on HBj.out hb3
            clear hb3 b0 b1 b2 b3
            go_wp2_with fail
            refine (CL.out j _ hjn (below_on E1.out q3)).mono ?_
            rintro e w4 ⟨rfl, hb4⟩
            have q4 := below_on q3 hb4
            clear hb4 q3
            go_wp2_with fail
            refine (SB2.out _).mono ?_
            rintro e w5 ⟨rfl, hb5⟩
            have q5 := below_on q4 hb5
            clear hb5 q4
            obtain ⟨w6, hw6⟩ : ∃ w6, w6 = w5.alloc (.cells #[.int .i64 sn, .int .i64 sd] 38) := ⟨_, rfl⟩
            have pD : Pair w6 w5.heap.size sn sd := by rw [hw6]; exact Pair.made _ _ _ _
            have q6 : Below w1.heap.size w1 w6 := by rw [hw6]; exact q5.alloc q5.size _
            have bx6 := bx.kept q6
            have HW6 := Lib.hid hw6
            have KS := Lib.hid (show ∀ W : World, Below w6.heap.size w6 W → (W.cell? ⟨w5.heap.size, 0, none⟩ = some (.int .i64 sn) ∧ W.cell? ⟨w5.heap.size, 1, none⟩ = some (.int .i64 sd)) ∧ (W.cell? ⟨w.heap.size, 0, none⟩ = some (.int .i64 n) ∧ W.cell? ⟨w.heap.size, 1, none⟩ = some (.slice (some a) len cap)) from
              fun W h => ⟨⟨(pD.kept h).facts.1, (pD.kept h).facts.2.1⟩, (bx6.kept h).facts.1, (bx6.kept h).facts.2.1⟩)
            have Q6 := Lib.hid q6
            clear hw6 q5 q6 pD bx6
            go_wp2_with fail
            rw [← HW6.out]
            have s1 : Below w6.heap.size w6 w6.drew := (Below.refl _ _).drew
            go_region_held3 (fun w' => (w'.cell? ⟨w5.heap.size, 0, none⟩ = some (.int .i64 sn) ∧ w'.cell? ⟨w5.heap.size, 1, none⟩ = some (.int .i64 sd)) ∧ (w'.cell? ⟨w.heap.size, 0, none⟩ = some (.int .i64 n) ∧ w'.cell? ⟨w.heap.size, 1, none⟩ = some (.slice (some a) len cap))) (first | exact KS.out _ s1 | exact KS.out _ s7 | exact KS.out _ s8)
              (first | (go_at_call 18; refine (AT2.out _ (below_on E1.out (below_on Q6.out s1))).mono ?_; rintro e w7 ⟨rfl, hb7⟩; have s7 := below_on s1 hb7) | (go_at_call 17; refine (MT2.out _).mono ?_; rintro e w8 ⟨rfl, hb8⟩; have s8 := below_on s7 hb8))
            have Q8 := Lib.hid (below_on Q6.out s8)
            clear s1 s7 s8 hb7 hb8
            go_wp2_with fail
            go_roundw
            case rel =>
              refine ⟨j + 1, by omega, by go_num, Lib.hid (fun k hk => ?_), Q8⟩
              by_cases e : k = j
              · rw [e]; exact HM.out
              · exact HJ.out k (by omega)
            case measure => simp [intOf]; omega
        · have HS3 := Lib.hid (show ∀ x, x < i + 1 → ∀ j, j < n + 1 → hsM n l ps x j = true from fun x hx y hy => by
            by_cases e : x = i
            · rw [e]; exact HJ.out y (by omega)
            · exact HS.out x (by omega) y hy)
          go_wp2_with fail
          go_roundw
          case rel => exact ⟨i + 1, by omega, by go_num, HS3, HBj⟩
          case measure => simp [intOf]; omega
    · have HE := Lib.hid (show hsB n l ps = true from hsB_iff.2 (fun i hi j hj => HS.out i (by omega) j hj))
      go_wp2_with fail
      go_ret2
      exact ⟨by rw [HRE.out, HH.out, HE.out]; rfl, below_on E1.out HB.out⟩

theorem has_gen (N : Int) (l : List Int) (ao : Option Addr) (cap : Nat) (ps : List Pq) (po : Option Addr) (pc : Nat) (w : World) (hA : Arg w ao l) (hP : Arg2 w po ps) (hI : Fits ps) :
    Calls Try.prog 7 #[.agg #[.int .i64 N, .slice ao l.length cap], .slice po ps.length pc] w (Made (.tuple #[.bool (hsR N l ps), .int .i64 (rdE N l ps)]) w) := by
  by_cases hr : rdE N l ps = 0
  · obtain ⟨n, rfl, hn, hl, hne⟩ := chk_ok (rd_ok hr).1
    obtain ⟨a, rfl, hR⟩ := hA hne
    exact has_any n l a cap ps po pc w hn hl hR hP hI hr (fun i j hi hj => chk_i64 (rd_ok hr).1 hi hj)
  · exact has_bad N l ao cap ps po pc w hA hP hI hr
end Go.Proofs.Ytgdcclldgfcilaa

namespace Go.Proofs.Ytgdcclldgfcilaa
open Go.RowKit

end Go.Proofs.Ytgdcclldgfcilaa

namespace Go.Proofs.Ytgdcclldgfcilaa
open Go.RowKit

set_option maxRecDepth 20000 in
set_option maxHeartbeats 1000000 in
theorem beyond1_any (N : Int) (mo ao : Option Addr) (len cap j ca h : Nat) (w : World) (h0 : w.cell? ⟨h, 0, none⟩ = some (.slice ao j ca)) :
    Calls Try.prog 4 #[.agg #[.int .i64 N, .slice mo len cap], .slice (some ⟨h, 0, none⟩) 1 1] w (Made (.bool (b1B len j)) w) := by
  obtain ⟨w0, hw0⟩ : ∃ w0, w0 = w.alloc (.cells #[.int .i64 N, .slice mo len cap] 24) := ⟨_, rfl⟩
  have bx : Two w0 w.heap.size (.int .i64 N) (.slice mo len cap) := by rw [hw0]; exact Two.made _ _ _ _
  have E0 := Lib.hid (show Below w.heap.size w w0 by rw [hw0]; exact one_more _)
  have c0 := kept E0.out h0
  have HR := Lib.hid (show b1B len j = (decide ((50 : Int) < (j : Int)) || decide ((200 : Int) < (len : Int))) by unfold b1B; rw [Bool.eq_iff_iff]; simp; omega)
  obtain ⟨b0, b1, b2, b3⟩ := bx.facts
  generalize b1B len j = R at *
  clear bx h0
  go_enter Try.func4, Try.ntmps4
  go_wp2_with fail
  rw [← hw0]
  clear hw0
  go_wp2_with fail
  go_loopw [5] (fun s wr => ∃ t : Nat, t ≤ 1 ∧ s = .int .i64 t ∧ Hid (1 ≤ t → decide ((50 : Int) < (j : Int)) = false) ∧ wr = w0) (fun s _ => 1 - (intOf s).toNat)
  case atStart => exact ⟨0, by omega, rfl, Lib.hid (fun h => by omega), rfl⟩
  case round =>
    obtain ⟨t, ht, rfl, HK, hw⟩ := hrel
    rw [hw]
    clear hw
    have htt : t = 0 ∨ t = 1 := by omega
    clear ht
    rcases htt with rfl | rfl
    · cases hj : decide ((50 : Int) < (j : Int))
      · have HJ := Lib.hid hj
        go_wp2_with fail
        go_roundw
        case rel => exact ⟨1, by omega, by go_num, Lib.hid (fun _ => by first | exact HJ.out | trivial), trivial⟩
        case measure => simp [intOf]
      · have HJ := Lib.hid hj
        go_wp2_with fail
        go_ret
        exact ⟨ret_bool (by rw [HR.out, HJ.out]; simp), E0.out⟩
    · have HJ := Lib.hid (show R = decide ((200 : Int) < (len : Int)) by rw [HR.out, HK.out (by omega)]; simp)
      go_wp2_with fail
      go_ret
      exact ⟨ret_bool HJ.out.symm, E0.out⟩

/-- The zone's box and the list of one row. -/
structure Al0 (w w0 : World) (N : Int) (ao ko : Option Addr) (len cap kl kc : Nat) : Prop where
  eq : w0 = (w.alloc (.cells #[.int .i64 N, .slice ao len cap] 24)).alloc (.cells #[.slice ko kl kc] 25)

theorem Al0.below {w w0 : World} {N : Int} {ao ko : Option Addr} {len cap kl kc : Nat} (h : Al0 w w0 N ao ko len cap kl kc) : Below w.heap.size w w0 := by rw [h.eq]; exact past_two (Below.refl _ _)

theorem Al0.two {w w0 : World} {N : Int} {ao ko : Option Addr} {len cap kl kc : Nat} (h : Al0 w w0 N ao ko len cap kl kc) : Two w0 w.heap.size (.int .i64 N) (.slice ao len cap) := by rw [h.eq]; exact (Two.made _ _ _ _).alloc _

theorem Al0.row {w w0 : World} {N : Int} {ao ko : Option Addr} {len cap kl kc : Nat} (h : Al0 w w0 N ao ko len cap kl kc) : w0.cell? ⟨w.heap.size + 1, 0, none⟩ = some (.slice ko kl kc) := by rw [h.eq]; go_simp

set_option maxRecDepth 20000 in
set_option maxHeartbeats 1000000 in
theorem wal_long (N : Int) (l k : List Int) (ao ko : Option Addr) (cap kc : Nat) (ps : List Pq) (po : Option Addr) (pc : Nat) (w : World) (hb1 : b1B l.length k.length = true ∨ 10 < ps.length) :
    Calls Try.prog 3 #[.agg #[.int .i64 N, .slice ao l.length cap], .slice ko k.length kc, .slice po ps.length pc] w (Made (.bool true) w) := by
  have SH := Lib.hid (fun W => shown6_any W)
  obtain ⟨w0, hw0⟩ : ∃ w0, w0 = (w.alloc (.cells #[.int .i64 N, .slice ao l.length cap] 24)).alloc (.cells #[.slice ko k.length kc] 25) := ⟨_, rfl⟩
  have a0 : Al0 w w0 N ao ko l.length cap k.length kc := ⟨hw0⟩
  have E0 := Lib.hid a0.below
  have BE := Lib.hid (beyond1_any N ao ko l.length cap k.length kc (w.heap.size + 1) w0 a0.row)
  obtain ⟨R, hR⟩ : ∃ R, R = b1B l.length k.length := ⟨_, rfl⟩
  rw [← hR] at BE hb1
  have HW0 := Lib.hid hw0
  clear hw0 a0 hR
  go_enter Try.func3, Try.ntmps3
  go_wp2_with fail
  rw [← HW0.out]
  refine BE.out.mono ?_
  rintro e w1 ⟨rfl, hb⟩
  have B1 := Lib.hid (below_on E0.out hb)
  clear hb BE HW0
  cases R
  · have D1 : decide ((10 : Int) < (ps.length : Int)) = true := by
      rcases hb1 with h | h
      · cases h
      · simp; omega
    clear hb1
    go_wp2_with fail
    refine (SH.out _).mono ?_
    rintro e ws ⟨rfl, hbs⟩
    have BS := Lib.hid (below_on B1.out hbs)
    clear hbs
    go_wp2_with fail
    go_ret
    exact ⟨rfl, BS.out⟩
  · clear hb1
    go_wp2_with fail
    refine (SH.out _).mono ?_
    rintro e ws ⟨rfl, hbs⟩
    have BS := Lib.hid (below_on B1.out hbs)
    clear hbs
    go_wp2_with fail
    go_ret
    exact ⟨rfl, BS.out⟩
end Go.Proofs.Ytgdcclldgfcilaa

namespace Go.Proofs.Ytgdcclldgfcilaa.Zo

/-- The number q / D meets the limit l. -/
def mt (D q l : Int) : Prop := l = 1099511627776 ∨ (l % 2 = 0 ∧ q < l / 2 * D) ∨ (¬ l % 2 = 0 ∧ q ≤ l / 2 * D)

theorem mt_none (D q : Int) : mt D q 1099511627776 := Or.inl rfl

theorem mt_one {D q : Int} : mt D q 1 ↔ q ≤ 0 := by
  unfold mt
  have : (1 : Int) / 2 * D = 0 := by rw [show (1 : Int) / 2 = 0 by decide]; omega
  rw [this]; omega

theorem mt_mono {D q a b : Int} (hD : 0 < D) (hab : a ≤ b) (hb : b ≤ 1099511627776) (h : mt D q a) : mt D q b := by
  unfold mt at h ⊢
  by_cases e : b = 1099511627776
  · exact Or.inl e
  · right
    have hl : a / 2 * D ≤ b / 2 * D := Int.mul_le_mul_of_nonneg_right (by omega) (by omega)
    rcases h with h | ⟨h1, h2⟩ | ⟨h1, h2⟩
    · omega
    · by_cases p : b % 2 = 0
      · exact Or.inl ⟨p, by omega⟩
      · exact Or.inr ⟨p, by omega⟩
    · by_cases p : b % 2 = 0
      · have : (a / 2 + 1) * D ≤ b / 2 * D := Int.mul_le_mul_of_nonneg_right (by omega) (by omega)
        rw [Int.add_mul] at this
        exact Or.inl ⟨p, by omega⟩
      · exact Or.inr ⟨p, by omega⟩

theorem mt_min {D q a b : Int} (h : mt D q a) (k : mt D q b) : mt D q (min a b) := by
  rcases Int.le_total a b with c | c
  · rwa [Int.min_eq_left c]
  · rwa [Int.min_eq_right c]

/-- What is met is not far below. -/
theorem mt_low {D q a M : Int} (hD : 0 < D) (hq : -(M * D) ≤ q) (h : mt D q a) (hM : 0 ≤ M) : -(2 * M) ≤ a := by
  unfold mt at h
  by_cases e : a < -(2 * M)
  · exfalso
    have hl : (a / 2 + M) * D ≤ -1 * D := Int.mul_le_mul_of_nonneg_right (by omega) (by omega)
    rw [Int.add_mul] at hl
    omega
  · omega

theorem mt_sum {D p q a b : Int} (ha : -1152921504606846976 ≤ a) (ha' : a ≤ 1152921504606846976) (hb : -1152921504606846976 ≤ b) (hb' : b ≤ 1152921504606846976) (h : mt D p a) (k : mt D q b) : mt D (p + q) (smW a b) := by
  unfold smW
  by_cases na : a = 1099511627776
  · rw [if_pos (Or.inl na)]; exact mt_none _ _
  by_cases nb : b = 1099511627776
  · rw [if_pos (Or.inr nb)]; exact mt_none _ _
  rw [if_neg (by omega)]
  unfold mt at h k
  have s : ∀ c, c = a / 2 + b / 2 → c * D = a / 2 * D + b / 2 * D := by intro c hc; rw [hc, Int.add_mul]
  by_cases ea : a % 2 = 0
  · by_cases eb : b % 2 = 0
    · rw [if_pos ⟨ea, eb⟩, w64_in (by omega) (by omega)]
      have := s ((a + b) / 2) (by omega)
      unfold mt; omega
    · rw [if_neg (by omega), w64_in (x := a + b) (by omega) (by omega), w64_in (by omega) (by omega)]
      have := s ((a + b - 1) / 2) (by omega)
      unfold mt; omega
  · rw [if_neg (by omega), w64_in (x := a + b) (by omega) (by omega), w64_in (by omega) (by omega)]
    have := s ((a + b - 1) / 2) (by omega)
    unfold mt; omega

/-- The point X / D is in the set of the matrix. -/
def In (n : Nat) (l : List Int) (D : Int) (X : Nat → Int) : Prop := ∀ i j, i ≤ n → j ≤ n → mt D (X i - X j) (At n l i j)

/-- A point: from 0 on, the clock 0 is 0, and no value is above M. -/
structure Pt (n : Nat) (D : Int) (X : Nat → Int) (M : Int) : Prop where
  pos : 0 < D
  zero : X 0 = 0
  low : ∀ i, i ≤ n → 0 ≤ X i
  high : ∀ i, i ≤ n → X i ≤ M * D

theorem Pt.diff {n : Nat} {D : Int} {X : Nat → Int} {M : Int} (h : Pt n D X M) {i j : Nat} (hi : i ≤ n) (hj : j ≤ n) : -(M * D) ≤ X i - X j := by
  have := h.low i hi
  have := h.high j hj
  omega

theorem Pt.le {n : Nat} {D : Int} {X : Nat → Int} {M : Int} (h : Pt n D X M) : 0 ≤ M := by
  have a := h.low 0 (by omega)
  have b := h.high 0 (by omega)
  rcases Int.lt_or_le M 0 with c | c
  · have : M * D < 0 * D := Int.mul_lt_mul_of_pos_right c h.pos
    omega
  · exact c

def Top (n : Nat) (l : List Int) : Prop := l.length = (n + 1) * (n + 1) ∧ ∀ i j, i ≤ n → j ≤ n → At n l i j ≤ 1099511627776

theorem Top.put {n : Nat} {l : List Int} (h : Top n l) {i j : Nat} (hi : i ≤ n) (hj : j ≤ n) (y : Int) : Top n (l.set (ix n i j) (min (At n l i j) y)) :=
  ⟨by simpa using h.1, fun _ _ ha hb => Int.le_trans (set_le h.1 hi hj y hb) (h.2 _ _ ha hb)⟩

/-- A point of the matrix is one of what is closed. -/
theorem clo_sound {n : Nat} {l : List Int} {D M : Int} {X : Nat → Int} (hp : Pt n D X M) (hM : M ≤ 4611686018427387) (ht : Top n l) (h : In n l D X) : In n (clo n l) D X := by
  have r : Top n (clo n l) ∧ In n (clo n l) D X := by
    refine clo_keeps (R := fun l => Top n l ∧ In n l D X) (fun l i j hij hi hj hl => ⟨hl.1.put hi hj 1, fun a b ha hb => ?_⟩) (fun l k i j hk hi hj hl => ⟨hl.1.put hi hj _, fun a b ha hb => ?_⟩) ⟨ht, h⟩
    · rw [At_set hl.1.1 hi hj _ hb]
      split
      · rename_i e
        rw [e.1, e.2]
        refine mt_min (hl.2 i j hi hj) (mt_one.2 ?_)
        rcases hij with z | z
        · subst z; have := hp.low j hj; rw [hp.zero]; omega
        · subst z; omega
      · exact hl.2 a b ha hb
    · unfold rlx
      rw [At_set hl.1.1 hi hj _ hb]
      split
      · rename_i e
        rw [e.1, e.2]
        have h1 := hl.2 i k hi hk
        have h2 := hl.2 k j hk hj
        have l1 := mt_low hp.pos (hp.diff hi hk) h1 hp.le
        have l2 := mt_low hp.pos (hp.diff hk hj) h2 hp.le
        have u1 := hl.1.2 i k hi hk
        have u2 := hl.1.2 k j hk hj
        refine mt_min (hl.2 i j hi hj) ?_
        have := mt_sum (by omega) (by omega) (by omega) (by omega) h1 h2
        rwa [show X i - X k + (X k - X j) = X i - X j by omega] at this
      · exact hl.2 a b ha hb
  exact r.2

theorem clo_le {n : Nat} {l : List Int} (hl : l.length = (n + 1) * (n + 1)) : ∀ a b, a ≤ n → b ≤ n → At n (clo n l) a b ≤ At n l a b := by
  intro a b ha hb
  exact (clo_keeps (R := fun x : List Int => x.length = (n + 1) * (n + 1) ∧ At n x a b ≤ At n l a b)
    (fun x i j _ hi hj hx => ⟨by simpa using hx.1, Int.le_trans (set_le hx.1 hi hj _ hb) hx.2⟩)
    (fun x k i j _ hi hj hx => ⟨by simpa [rlx] using hx.1, Int.le_trans (set_le hx.1 hi hj _ hb) hx.2⟩) ⟨hl, Int.le_refl _⟩).2

/-- And the other way round. -/
theorem clo_complete {n : Nat} {l : List Int} {D : Int} {X : Nat → Int} (hD : 0 < D) (ht : Top n l) (h : In n (clo n l) D X) : In n l D X :=
  fun i j hi hj => mt_mono hD (clo_le ht.1 i j hi hj) (ht.2 i j hi hj) (h i j hi hj)

/-- A set with a point is not told to be empty. -/
theorem In.diag {n : Nat} {l : List Int} {D : Int} {X : Nat → Int} (hD : 0 < D) (h : In n l D X) {i : Nat} (hi : i ≤ n) : 1 ≤ At n l i i := by
  have := h i i hi hi
  rw [Int.sub_self] at this
  unfold mt at this
  rcases this with e | ⟨e, g⟩ | ⟨e, g⟩
  · omega
  · by_cases c : At n l i i / 2 ≤ 0
    · have : At n l i i / 2 * D ≤ 0 * D := Int.mul_le_mul_of_nonneg_right c (by omega)
      omega
    · omega
  · by_cases c : At n l i i / 2 ≤ -1
    · have : At n l i i / 2 * D ≤ -1 * D := Int.mul_le_mul_of_nonneg_right c (by omega)
      omega
    · omega
end Go.Proofs.Ytgdcclldgfcilaa.Zo

namespace Go.Proofs.Ytgdcclldgfcilaa.Zo

/-- A number q / D meets a limit. -/
def ml (D q : Int) : Lm → Prop
  | none => True
  | some x => (x % 2 = 0 ∧ q < x / 2 * D) ∨ (¬ x % 2 = 0 ∧ q ≤ x / 2 * D)

theorem ml_some {D q x : Int} : ml D q (some x) ↔ (x % 2 = 0 ∧ q < x / 2 * D) ∨ (¬ x % 2 = 0 ∧ q ≤ x / 2 * D) := Iff.rfl

theorem ml_mono {D q : Int} (hD : 0 < D) {a b : Lm} (h : le a b) (k : ml D q a) : ml D q b := by
  cases b with
  | none => trivial
  | some y =>
    cases a with
    | none => exact absurd h (by simp [le])
    | some x =>
      have hxy : x ≤ y := h
      unfold ml at k ⊢
      have hm : x / 2 ≤ y / 2 := by omega
      have hp : x / 2 * D ≤ y / 2 * D := Int.mul_le_mul_of_nonneg_right hm (by omega)
      rcases k with ⟨k1, k2⟩ | ⟨k1, k2⟩
      · by_cases c : y % 2 = 0
        · left; exact ⟨c, by omega⟩
        · right; exact ⟨c, by omega⟩
      · by_cases c : y % 2 = 0
        · left
          refine ⟨c, ?_⟩
          have : x / 2 + 1 ≤ y / 2 := by omega
          have := Int.mul_le_mul_of_nonneg_right this (show 0 ≤ D by omega)
          rw [Int.add_mul, Int.one_mul] at this
          omega
        · right; exact ⟨c, by omega⟩

theorem ml_twice {D q : Int} {a : Lm} (k : ml D q a) : ml (2 * D) (2 * q) a := by
  cases a with
  | none => trivial
  | some x =>
    rw [ml_some] at k ⊢
    have e : x / 2 * (2 * D) = 2 * (x / 2 * D) := by rw [Int.mul_left_comm]
    rw [e]
    omega

theorem ml_add {D p q : Int} {a b : Lm} (h : ml D p a) (k : ml D q b) : ml D (p + q) (add a b) := by
  cases a with
  | none => cases b <;> trivial
  | some x =>
    cases b with
    | none => trivial
    | some y =>
      show ml D (p + q) (some (ps x y))
      rw [ml_some] at h k ⊢
      unfold ps
      by_cases c : x % 2 = 0 ∧ y % 2 = 0
      · rw [if_pos c, show (x + y) / 2 = x / 2 + y / 2 by omega, Int.add_mul]; omega
      · rw [if_neg c]
        by_cases d : x % 2 = 0
        · rw [show (x + y - 1) / 2 = x / 2 + y / 2 by omega, Int.add_mul]; omega
        · by_cases e : y % 2 = 0
          · rw [show (x + y - 1) / 2 = x / 2 + y / 2 by omega, Int.add_mul]; omega
          · rw [show (x + y - 1) / 2 = x / 2 + y / 2 by omega, Int.add_mul]; omega

/-- The greatest of some numbers, of which there may be none. -/
theorem greatest (f : Nat → Option Int) : ∀ m : Nat, (∀ j, j < m → f j = none) ∨ ∃ j v, j < m ∧ f j = some v ∧ ∀ k u, k < m → f k = some u → u ≤ v := by
  intro m
  induction m with
  | zero => left; intro j hj; omega
  | succ m ih =>
    cases e : f m with
    | none =>
      rcases ih with h | ⟨j, v, h1, h2, h3⟩
      · left
        intro j hj
        by_cases c : j = m
        · rw [c, e]
        · exact h j (by omega)
      · right
        refine ⟨j, v, by omega, h2, fun k u hk hu => ?_⟩
        by_cases c : k = m
        · rw [c, e] at hu; cases hu
        · exact h3 k u (by omega) hu
    | some x =>
      right
      rcases ih with h | ⟨j, v, h1, h2, h3⟩
      · refine ⟨m, x, by omega, e, fun k u hk hu => ?_⟩
        by_cases c : k = m
        · rw [c, e] at hu; injection hu with hu; omega
        · rw [h k (by omega)] at hu; cases hu
      · by_cases c : v ≤ x
        · refine ⟨m, x, by omega, e, fun k u hk hu => ?_⟩
          by_cases d : k = m
          · rw [d, e] at hu; injection hu with hu; omega
          · have := h3 k u (by omega) hu; omega
        · refine ⟨j, v, by omega, h2, fun k u hk hu => ?_⟩
          by_cases d : k = m
          · rw [d, e] at hu; injection hu with hu; omega
          · exact h3 k u (by omega) hu

/-- The bound itself, with D in it. -/
def bv (D : Int) : Lm → Option Int
  | none => none
  | some x => some (x / 2 * D)

theorem point_step {n m : Nat} {d : Nat → Nat → Lm} (ht : Tri (n + 1) d) (hm : m ≤ n) {D : Int} (hD : 0 < D) {X : Nat → Int} (h : ∀ i j, i < m → j < m → ml D (X i - X j) (d i j)) :
    ∃ v : Int, ∀ j, j < m → ml (2 * D) (v - 2 * X j) (d m j) ∧ ml (2 * D) (2 * X j - v) (d j m) := by
  -- lower bounds: X j - bound of d j m; upper bounds: X j + bound of d m j
  have G := greatest (fun j => (bv D (d j m)).map (fun c => X j - c)) m
  have L := greatest (fun j => (bv D (d m j)).map (fun c => -(X j + c))) m
  have lowOf : ∀ j x, d j m = some x → (bv D (d j m)).map (fun c => X j - c) = some (X j - x / 2 * D) := fun j x e => by rw [e]; rfl
  have upOf : ∀ j x, d m j = some x → (bv D (d m j)).map (fun c => -(X j + c)) = some (-(X j + x / 2 * D)) := fun j x e => by rw [e]; rfl
  -- what both together say
  have pair : ∀ j k x y, j < m → k < m → d j m = some x → d m k = some y → X j - x / 2 * D ≤ X k + y / 2 * D ∧ ((x % 2 = 0 ∨ y % 2 = 0) → X j - x / 2 * D < X k + y / 2 * D) := by
    intro j k x y hj hk e1 e2
    have t := ht m (by omega) j k
    rw [e1, e2] at t
    have := ml_mono hD t (h j k hj hk)
    unfold add at this
    simp only [ml] at this
    unfold ps at this
    by_cases c : x % 2 = 0 ∧ y % 2 = 0
    · rw [if_pos c, show (x + y) / 2 = x / 2 + y / 2 by omega, Int.add_mul] at this; omega
    · rw [if_neg c] at this
      by_cases p : x % 2 = 0
      · rw [show (x + y - 1) / 2 = x / 2 + y / 2 by omega, Int.add_mul] at this; omega
      · by_cases q : y % 2 = 0
        · rw [show (x + y - 1) / 2 = x / 2 + y / 2 by omega, Int.add_mul] at this; omega
        · rw [show (x + y - 1) / 2 = x / 2 + y / 2 by omega, Int.add_mul] at this; omega
  have two : ∀ c : Int, c * (2 * D) = 2 * (c * D) := fun c => by rw [Int.mul_left_comm]
  -- v: below each upper bound, above each lower one
  have fin : ∀ v : Int, (∀ j x, j < m → d j m = some x → (2 * (X j - x / 2 * D) < v ∨ (¬ x % 2 = 0 ∧ 2 * (X j - x / 2 * D) ≤ v))) → (∀ j x, j < m → d m j = some x → (v < 2 * (X j + x / 2 * D) ∨ (¬ x % 2 = 0 ∧ v ≤ 2 * (X j + x / 2 * D)))) →
      ∀ j, j < m → ml (2 * D) (v - 2 * X j) (d m j) ∧ ml (2 * D) (2 * X j - v) (d j m) := by
    intro v h1 h2 j hj
    constructor
    · cases e : d m j with
      | none => trivial
      | some x =>
        have := h2 j x hj e
        rw [ml_some, two]
        omega
    · cases e : d j m with
      | none => trivial
      | some x =>
        have := h1 j x hj e
        rw [ml_some, two]
        omega
  rcases G with g | ⟨gj, gv, g1, g2, g3⟩
  · rcases L with l | ⟨lj, lv, l1, l2, l3⟩
    · refine ⟨0, fin 0 (fun j x hj e => ?_) (fun j x hj e => ?_)⟩
      · have := g j hj; rw [lowOf j x e] at this; cases this
      · have := l j hj; rw [upOf j x e] at this; cases this
    · refine ⟨-2 * lv - 1, fin _ (fun j x hj e => ?_) (fun j x hj e => ?_)⟩
      · have := g j hj; rw [lowOf j x e] at this; cases this
      · have := l3 j _ hj (upOf j x e); omega
  · rcases L with l | ⟨lj, lv, l1, l2, l3⟩
    · refine ⟨2 * gv + 1, fin _ (fun j x hj e => ?_) (fun j x hj e => ?_)⟩
      · have := g3 j _ hj (lowOf j x e); omega
      · have := l j hj; rw [upOf j x e] at this; cases this
    · obtain ⟨x0, e0, v0⟩ : ∃ x, d gj m = some x ∧ X gj - x / 2 * D = gv := by
        cases e : d gj m with
        | none => rw [e] at g2; simp [bv] at g2
        | some x => rw [lowOf gj x e] at g2; injection g2 with g2; exact ⟨x, rfl, g2⟩
      obtain ⟨y0, f0, u0⟩ : ∃ y, d m lj = some y ∧ X lj + y / 2 * D = -lv := by
        cases e : d m lj with
        | none => rw [e] at l2; simp [bv] at l2
        | some y => rw [upOf lj y e] at l2; injection l2 with l2; exact ⟨y, rfl, by omega⟩
      have p0 := pair gj lj x0 y0 g1 l1 e0 f0
      rw [v0, u0] at p0
      refine ⟨gv - lv, fin _ (fun j x hj e => ?_) (fun j x hj e => ?_)⟩
      · have a := g3 j _ hj (lowOf j x e)
        have b := pair j lj x y0 hj l1 e f0
        rw [u0] at b
        by_cases c : x % 2 = 0
        · left; have := b.2 (Or.inl c); omega
        · right; exact ⟨c, by omega⟩
      · have a := l3 j _ hj (upOf j x e)
        have b := pair gj j x0 x g1 hj e0 e
        rw [v0] at b
        by_cases c : x % 2 = 0
        · left; have := b.2 (Or.inr c); omega
        · right; exact ⟨c, by omega⟩

/-- A point of a matrix that keeps to the inequality of triangles. -/
theorem point_of {n : Nat} {d : Nat → Nat → Lm} (ht : Tri (n + 1) d) (hd : ∀ i, i ≤ n → d i i = some 1) : ∃ (D : Int) (X : Nat → Int), 0 < D ∧ X 0 = 0 ∧ ∀ i j, i ≤ n → j ≤ n → ml D (X i - X j) (d i j) := by
  have key : ∀ m, m ≤ n + 1 → ∃ (D : Int) (X : Nat → Int), 0 < D ∧ ∀ i j, i < m → j < m → ml D (X i - X j) (d i j) := by
    intro m
    induction m with
    | zero => intro _; exact ⟨1, fun _ => 0, by omega, fun i j hi _ => by omega⟩
    | succ m ih =>
      intro hm
      obtain ⟨D, X, hD, h⟩ := ih (by omega)
      obtain ⟨v, hv⟩ := point_step ht (show m ≤ n by omega) hD h
      refine ⟨2 * D, fun i => if i = m then v else 2 * X i, by omega, fun i j hi hj => ?_⟩
      by_cases ci : i = m
      · by_cases cj : j = m
        · subst ci; subst cj
          rw [hd j (by omega)]
          simp only [if_true, Int.sub_self]
          unfold ml; right; simp
        · subst ci
          simp only [if_true, if_neg cj]
          exact (hv j (by omega)).1
      · by_cases cj : j = m
        · subst cj
          simp only [if_true, if_neg ci]
          exact (hv i (by omega)).2
        · simp only [if_neg ci, if_neg cj]
          have := ml_twice (h i j (by omega) (by omega))
          rwa [Int.mul_sub] at this
  obtain ⟨D, X, hD, h⟩ := key (n + 1) (Nat.le_refl _)
  refine ⟨D, fun i => X i - X 0, hD, by simp, fun i j hi hj => ?_⟩
  have := h i j (by omega) (by omega)
  rwa [show X i - X 0 - (X j - X 0) = X i - X j by omega]

/-- The least of some limits. -/
def inf (f : Nat → Lm) : Nat → Lm
  | 0 => none
  | m + 1 => mn (inf f m) (f m)

theorem inf_le (f : Nat → Lm) {m k : Nat} (hk : k < m) : le (inf f m) (f k) := by
  induction m with
  | zero => omega
  | succ m ih =>
    by_cases c : k = m
    · subst c; exact mn_right _ _
    · exact le_trans (mn_left _ _) (ih (by omega))

theorem inf_get (f : Nat → Lm) (m : Nat) : inf f m = none ∨ ∃ k, k < m ∧ inf f m = f k := by
  induction m with
  | zero => left; rfl
  | succ m ih =>
    rcases mn_cases (inf f m) (f m) with h | h
    · have e : inf f (m + 1) = inf f m := h
      rcases ih with i | ⟨k, hk, i⟩
      · left; rw [e, i]
      · right; exact ⟨k, by omega, by rw [e, i]⟩
    · right; exact ⟨m, by omega, h⟩

def thr (n : Nat) (Z R : Nat → Nat → Lm) (i j : Nat) : Lm := inf (fun s => inf (fun t => add (add (Z i s) (R s t)) (Z t j)) (n + 1)) (n + 1)

def both (n : Nat) (Z R : Nat → Nat → Lm) : Nat → Nat → Lm := fun i j => mn (Z i j) (thr n Z R i j)

theorem thr_le {n : Nat} {Z R : Nat → Nat → Lm} (i j : Nat) {s t : Nat} (hs : s ≤ n) (ht : t ≤ n) : le (thr n Z R i j) (add (add (Z i s) (R s t)) (Z t j)) :=
  le_trans (inf_le (fun s => inf (fun t => add (add (Z i s) (R s t)) (Z t j)) (n + 1)) (show s < n + 1 by omega)) (inf_le (fun t => add (add (Z i s) (R s t)) (Z t j)) (show t < n + 1 by omega))

theorem thr_get {n : Nat} {Z R : Nat → Nat → Lm} (i j : Nat) : thr n Z R i j = none ∨ ∃ s t, s ≤ n ∧ t ≤ n ∧ thr n Z R i j = add (add (Z i s) (R s t)) (Z t j) := by
  rcases inf_get (fun s => inf (fun t => add (add (Z i s) (R s t)) (Z t j)) (n + 1)) (n + 1) with h | ⟨s, hs, h⟩
  · left; exact h
  · rcases inf_get (fun t => add (add (Z i s) (R s t)) (Z t j)) (n + 1) with g | ⟨t, ht, g⟩
    · left; rw [show thr n Z R i j = _ from h]; exact g
    · right; exact ⟨s, t, by omega, by omega, by rw [show thr n Z R i j = _ from h]; exact g⟩

theorem both_get {n : Nat} {Z R : Nat → Nat → Lm} (i j : Nat) : both n Z R i j = none ∨ both n Z R i j = Z i j ∨ ∃ s t, s ≤ n ∧ t ≤ n ∧ both n Z R i j = add (add (Z i s) (R s t)) (Z t j) := by
  rcases mn_cases (Z i j) (thr n Z R i j) with h | h
  · right; left; exact h
  · rcases thr_get (n := n) (Z := Z) (R := R) i j with g | ⟨s, t, a, b, g⟩
    · left; rw [show both n Z R i j = _ from h, g]
    · right; right; exact ⟨s, t, a, b, by rw [show both n Z R i j = _ from h, g]⟩

theorem add_none_r (a : Lm) : add a none = none := by cases a <;> rfl

theorem add_none_l (a : Lm) : add none a = none := by cases a <;> rfl

theorem both_tri {n : Nat} {Z R : Nat → Nat → Lm} (hZ : Tri (n + 1) Z) (hR : ∀ s t s' t', s ≤ n → t ≤ n → s' ≤ n → t' ≤ n → le (R s t') (add (add (R s t) (Z t s')) (R s' t'))) : Tri (n + 1) (both n Z R) := by
  intro k hk i j
  rcases both_get (n := n) (Z := Z) (R := R) i k with a | a | ⟨s, t, hs, ht, a⟩
  · rw [a, add_none_l]; exact le_none _
  · rcases both_get (n := n) (Z := Z) (R := R) k j with b | b | ⟨s', t', hs', ht', b⟩
    · rw [b, add_none_r]; exact le_none _
    · rw [a, b]; exact le_trans (mn_left _ _) (hZ k hk i j)
    · rw [a, b]
      refine le_trans (mn_right _ _) (le_trans (thr_le i j hs' ht') ?_)
      rw [← add_assoc, ← add_assoc]
      exact add_mono (add_mono (hZ k hk i s') (le_refl _)) (le_refl _)
  · rcases both_get (n := n) (Z := Z) (R := R) k j with b | b | ⟨s', t', hs', ht', b⟩
    · rw [b, add_none_r]; exact le_none _
    · rw [a, b]
      refine le_trans (mn_right _ _) (le_trans (thr_le i j hs ht) ?_)
      rw [add_assoc (add (Z i s) (R s t)) (Z t k) (Z k j)]
      exact add_mono (le_refl _) (hZ k hk t j)
    · rw [a, b]
      refine le_trans (mn_right _ _) (le_trans (thr_le i j hs ht') ?_)
      have e : add (add (add (Z i s) (R s t)) (Z t k)) (add (add (Z k s') (R s' t')) (Z t' j)) = add (add (Z i s) (add (add (R s t) (add (Z t k) (Z k s'))) (R s' t'))) (Z t' j) := by
        simp only [add_assoc]
      rw [e]
      refine add_mono (add_mono (le_refl _) (le_trans (hR s t s' t' hs ht hs' ht') ?_)) (le_refl _)
      exact add_mono (add_mono (le_refl _) (hZ k hk t s')) (le_refl _)

theorem both_diag {n : Nat} {Z R : Nat → Nat → Lm} (hZ : Tri (n + 1) Z) (hd : ∀ i, i ≤ n → Z i i = some 1) (hR : ∀ s t, s ≤ n → t ≤ n → le (some 1) (add (R s t) (Z t s))) {i : Nat} (hi : i ≤ n) : both n Z R i i = some 1 := by
  refine le_antisymm (by show le (mn (Z i i) (thr n Z R i i)) (some 1); rw [hd i hi]; exact mn_left _ _) ?_
  rcases both_get (n := n) (Z := Z) (R := R) i i with a | a | ⟨s, t, hs, ht, a⟩
  · rw [a]; exact le_none _
  · rw [a, hd i hi]; exact le_refl _
  · rw [a]
    refine le_trans (hR s t hs ht) ?_
    rw [add_assoc, add_comm (Z i s), add_assoc]
    exact add_mono (le_refl _) (hZ i (by omega) t s)

/-- Two matrices that agree along all cycles have a point together. -/
theorem point_both {n : Nat} {Z R : Nat → Nat → Lm} (hZ : Tri (n + 1) Z) (hd : ∀ i, i ≤ n → Z i i = some 1)
    (h1 : ∀ s t s' t', s ≤ n → t ≤ n → s' ≤ n → t' ≤ n → le (R s t') (add (add (R s t) (Z t s')) (R s' t'))) (h2 : ∀ s t, s ≤ n → t ≤ n → le (some 1) (add (R s t) (Z t s))) :
    ∃ (D : Int) (X : Nat → Int), 0 < D ∧ X 0 = 0 ∧ ∀ i j, i ≤ n → j ≤ n → ml D (X i - X j) (Z i j) ∧ ml D (X i - X j) (R i j) := by
  obtain ⟨D, X, hD, h0, h⟩ := point_of (both_tri hZ h1) (fun i hi => both_diag hZ hd h2 hi)
  refine ⟨D, X, hD, h0, fun i j hi hj => ⟨ml_mono hD (mn_left _ _) (h i j hi hj), ml_mono hD (le_trans (mn_right _ _) ?_) (h i j hi hj)⟩⟩
  have := thr_le (n := n) (Z := Z) (R := R) i j hi hj
  rwa [hd i hi, hd j hj, one_add, add_one] at this

/-- A box: each clock has a lower and an upper bound. -/
theorem point_box {n : Nat} {Z : Nat → Nat → Lm} {A B : Nat → Lm} (hZ : Tri (n + 1) Z) (hd : ∀ i, i ≤ n → Z i i = some 1) (hA : A 0 = some 1) (hB : B 0 = some 1) (hE : ∀ t s, t ≤ n → s ≤ n → le (some 1) (add (add (A t) (Z t s)) (B s))) :
    ∃ (D : Int) (X : Nat → Int), 0 < D ∧ X 0 = 0 ∧ (∀ i j, i ≤ n → j ≤ n → ml D (X i - X j) (Z i j)) ∧ ∀ i, i ≤ n → ml D (X i) (B i) ∧ ml D (-X i) (A i) := by
  obtain ⟨D, X, h0, hx, h⟩ := point_both (R := fun s t => add (B s) (A t)) hZ hd (fun s t s' t' _ ht hs' _ => by
      have e : add (add (add (B s) (A t)) (Z t s')) (add (B s') (A t')) = add (add (B s) (add (add (A t) (Z t s')) (B s'))) (A t') := by simp only [add_assoc]
      rw [e]
      refine add_mono ?_ (le_refl _)
      have := add_mono (le_refl (B s)) (hE t s' ht hs')
      rwa [add_one] at this) (fun s t hs ht => by
      have := hE t s ht hs
      rw [add_assoc, add_comm]
      exact this)
  refine ⟨D, X, h0, hx, fun i j hi hj => (h i j hi hj).1, fun i hi => ?_⟩
  have a := (h i 0 hi (Nat.zero_le _)).2
  have b := (h 0 i (Nat.zero_le _) hi).2
  simp only [hA, hB, hx, add_one, one_add] at a b
  exact ⟨by simpa using a, by simpa using b⟩
end Go.Proofs.Ytgdcclldgfcilaa.Zo

namespace Go.Proofs.Ytgdcclldgfcilaa.Zo

/-- The region: between clocks that lie below their constants C, else an upper bound and a lower one. -/
def rgn (B : Nat → Prop) [DecidablePred B] (U L : Nat → Lm) (C : Nat → Nat → Lm) (s t : Nat) : Lm := if B s ∧ B t then C s t else add (U s) (L t)

theorem rgn_in {B : Nat → Prop} [DecidablePred B] {U L : Nat → Lm} {C : Nat → Nat → Lm} {s t : Nat} (hs : B s) (ht : B t) : rgn B U L C s t = C s t := by unfold rgn; rw [if_pos ⟨hs, ht⟩]

theorem rgn_l {B : Nat → Prop} [DecidablePred B] {U L : Nat → Lm} {C : Nat → Nat → Lm} {s t : Nat} (hs : ¬ B s) : rgn B U L C s t = add (U s) (L t) := by unfold rgn; rw [if_neg (fun h => hs h.1)]

theorem rgn_r {B : Nat → Prop} [DecidablePred B] {U L : Nat → Lm} {C : Nat → Nat → Lm} {s t : Nat} (ht : ¬ B t) : rgn B U L C s t = add (U s) (L t) := by unfold rgn; rw [if_neg (fun h => ht h.2)]

theorem rgn_point {n : Nat} {Z : Nat → Nat → Lm} {B : Nat → Prop} [DecidablePred B] {U L : Nat → Lm} {C : Nat → Nat → Lm} (hZ : Tri (n + 1) Z) (hd : ∀ i, i ≤ n → Z i i = some 1)
    (ha : ∀ s t, s ≤ n → t ≤ n → B s → B t → le (C s t) (add (U s) (L t)))
    (hb : ∀ s t u, s ≤ n → t ≤ n → u ≤ n → B s → B t → B u → le (C s u) (add (C s t) (C t u)))
    (hdg : ∀ s, s ≤ n → B s → le (some 1) (C s s))
    (hc : ∀ s t, s ≤ n → t ≤ n → B s → B t → le (C s t) (Z s t))
    (hu : ∀ s t, s ≤ n → t ≤ n → B s → B t → le (U s) (add (C s t) (U t)))
    (hl : ∀ s t, s ≤ n → t ≤ n → B s → B t → le (L t) (add (L s) (C s t)))
    (hf : ∀ s, s ≤ n → B s → le (some 1) (add (L s) (U s)))
    (g1 : ∀ t s, t ≤ n → s ≤ n → ¬ B t → B s → le (L s) (add (L t) (Z t s)))
    (g2 : ∀ t s, t ≤ n → s ≤ n → B t → ¬ B s → le (U t) (add (Z t s) (U s)))
    (g3 : ∀ t s, t ≤ n → s ≤ n → ¬ B t → ¬ B s → le (some 1) (add (add (L t) (Z t s)) (U s))) :
    ∃ (D : Int) (X : Nat → Int), 0 < D ∧ X 0 = 0 ∧ ∀ i j, i ≤ n → j ≤ n → ml D (X i - X j) (Z i j) ∧ ml D (X i - X j) (rgn B U L C i j) := by
  have up : ∀ s t, s ≤ n → t ≤ n → le (rgn B U L C s t) (add (U s) (L t)) := fun s t hs ht => by
    by_cases c : B s ∧ B t
    · rw [rgn_in c.1 c.2]; exact ha s t hs ht c.1 c.2
    · unfold rgn; rw [if_neg c]; exact le_refl _
  -- behind a clock below
  have mid : ∀ s m t, s ≤ n → m ≤ n → t ≤ n → B m → le (rgn B U L C s t) (add (rgn B U L C s m) (rgn B U L C m t)) := by
    intro s m t hs hm ht b
    by_cases cs : B s
    · by_cases ct : B t
      · rw [rgn_in cs ct, rgn_in cs b, rgn_in b ct]; exact hb s m t hs hm ht cs b ct
      · rw [rgn_r ct, rgn_in cs b, rgn_r ct, ← add_assoc]
        exact add_mono (hu s m hs hm cs b) (le_refl _)
    · rw [rgn_l cs, rgn_l cs]
      by_cases ct : B t
      · rw [rgn_in b ct, add_assoc]
        exact add_mono (le_refl _) (hl m t hm ht b ct)
      · rw [rgn_r ct, add_assoc, ← add_assoc (L m)]
        refine add_mono (le_refl _) ?_
        have := add_mono (hf m hm b) (le_refl (L t))
        rwa [one_add] at this
  refine point_both (R := rgn B U L C) hZ hd ?_ ?_
  · intro s t s' t' hs ht hs' ht'
    by_cases bt : B t
    · by_cases bs : B s'
      · refine le_trans (mid s s' t' hs hs' ht' bs) (add_mono ?_ (le_refl _))
        refine le_trans (mid s t s' hs ht hs' bt) (add_mono (le_refl _) ?_)
        rw [rgn_in bt bs]
        exact hc t s' ht hs' bt bs
      · rw [rgn_l bs, add_assoc, ← add_assoc (Z t s')]
        refine le_trans (mid s t t' hs ht ht' bt) (add_mono (le_refl _) ?_)
        exact le_trans (up t t' ht ht') (add_mono (g2 t s' ht hs' bt bs) (le_refl _))
    · rw [show rgn B U L C s t = add (U s) (L t) from rgn_r bt]
      by_cases bs : B s'
      · refine le_trans (mid s s' t' hs hs' ht' bs) (add_mono ?_ (le_refl _))
        rw [add_assoc]
        exact le_trans (up s s' hs hs') (add_mono (le_refl _) (g1 t s' ht hs' bt bs))
      · rw [rgn_l bs]
        have e : add (add (add (U s) (L t)) (Z t s')) (add (U s') (L t')) = add (U s) (add (add (add (L t) (Z t s')) (U s')) (L t')) := by simp only [add_assoc]
        rw [e]
        refine le_trans (up s t' hs ht') (add_mono (le_refl _) ?_)
        have := add_mono (g3 t s' ht hs' bt bs) (le_refl (L t'))
        rwa [one_add] at this
  · intro s t hs ht
    by_cases bt : B t
    · by_cases bs : B s
      · rw [rgn_in bs bt]
        refine le_trans (hdg s hs bs) (le_trans (hb s t s hs ht hs bs bt bs) (add_mono (le_refl _) (hc t s ht hs bt bs)))
      · rw [rgn_l bs, add_comm (U s), add_assoc, add_comm (U s)]
        exact le_trans (hf t ht bt) (add_mono (le_refl _) (g2 t s ht hs bt bs))
    · rw [rgn_r bt]
      by_cases bs : B s
      · rw [add_assoc, add_comm (U s)]
        exact le_trans (hf s hs bs) (add_mono (g1 t s ht hs bt bs) (le_refl _))
      · rw [add_assoc, add_comm (U s)]
        exact g3 t s ht hs bt bs
end Go.Proofs.Ytgdcclldgfcilaa.Zo

namespace Go.Proofs.Ytgdcclldgfcilaa

/-- The point ps, over the denominator D. -/
structure Ov (D : Int) (X : Nat → Int) (ps : List Pq) : Prop where
  pos : 0 < D
  val : ∀ i, i ≤ ps.length → X i * (clk ps i).2 = (clk ps i).1 * D

theorem lt_scale {x y d D q : Int} (hD : 0 < D) (hd : 0 < d) (e : x * D = q * d) {c : Int} (hy : y = c * d) : x < y ↔ q < c * D := by
  subst hy
  constructor
  · intro h
    have h1 : x * D < c * d * D := Int.mul_lt_mul_of_pos_right h hD
    rw [e, Int.mul_right_comm] at h1
    exact Int.lt_of_mul_lt_mul_right h1 (by omega)
  · intro h
    have h1 : q * d < c * D * d := Int.mul_lt_mul_of_pos_right h hd
    rw [← e, Int.mul_right_comm] at h1
    exact Int.lt_of_mul_lt_mul_right h1 (by omega)

theorem le_scale {x y d D q : Int} (hD : 0 < D) (hd : 0 < d) (e : x * D = q * d) {c : Int} (hy : y = c * d) : x ≤ y ↔ q ≤ c * D := by
  subst hy
  constructor
  · intro h
    have h1 : x * D ≤ c * d * D := Int.mul_le_mul_of_nonneg_right h (by omega)
    rw [e, Int.mul_right_comm] at h1
    exact Int.le_of_mul_le_mul_right h1 hd
  · intro h
    have h1 : q * d ≤ c * D * d := Int.mul_le_mul_of_nonneg_right h (by omega)
    rw [← e, Int.mul_right_comm] at h1
    exact Int.le_of_mul_le_mul_right h1 hD

theorem vld_pos {n d : Int} (v : vldB n d = true) : 1 ≤ d ∧ d ≤ 2147483647 ∧ -2147483647 ≤ n ∧ n ≤ 2147483647 := by
  unfold vldB at v; simp at v; omega

/-- What meeting a limit says, over another denominator. -/
theorem me_mt {n d a b D q l : Int} (v : vldB n d = true) (vl : lvB l = true) (hb : 0 < b) (hD : 0 < D) (e : n * b = a * d) (e2 : q * b = a * D) : meB n d l = true ↔ Zo.mt D q l := by
  have hd := vld_pos v
  have key : n * D = q * d := by
    have h1 : n * D * b = q * d * b := by
      rw [Int.mul_right_comm n D b, e, Int.mul_right_comm q d b, e2, Int.mul_right_comm a d D]
    exact Int.eq_of_mul_eq_mul_right (by omega) h1
  unfold meB mtB Zo.mt
  rw [v, vl]
  by_cases nl : l = 1099511627776
  · simp [noB, nl]
  · have nb : noB l = false := by simp [noB, nl]
    rw [nb]
    by_cases ev : l % 2 = 0
    · have eb : evB l = true := by simp [evB, ev]
      rw [eb]
      have := lt_scale hD (show 0 < d by omega) key (c := l / 2) rfl
      simp [nl, ev, this]
    · have eb : evB l = false := by simp [evB, ev]
      rw [eb]
      have := le_scale hD (show 0 < d by omega) key (c := l / 2) rfl
      simp [nl, ev, this]

theorem rd_parts {n : Nat} {l : List Int} {ps : List Pq} (h : rdE n l ps = 0) : chkE n l = 0 ∧ ps.length = n ∧ (∀ k, k < ps.length → vldC (gp ps k) = true) ∧ (∀ i, i ≤ n → ∀ j, j ≤ n → sbE ps i j = 0) := by
  obtain ⟨h1, h2, h3, h4⟩ := rd_ok h
  exact ⟨h1, by omega, h3, fun i hi j hj => rdR_at h4 (by simpa using Nat.lt_succ_of_le hi) (by simpa using Nat.lt_succ_of_le hj)⟩

theorem clk_vld {ps : List Pq} (h : ∀ k, k < ps.length → vldC (gp ps k) = true) {i : Nat} (hi : i ≤ ps.length) : vldB (clk ps i).1 (clk ps i).2 = true ∧ 0 ≤ (clk ps i).1 := by
  refine ⟨clk_ok h hi, ?_⟩
  unfold clk
  split
  · simp
  · have := h (i - 1) (by omega)
    unfold vldC at this
    simp at this
    exact this.2

theorem Ov.sub {D : Int} {X : Nat → Int} {ps : List Pq} (h : Ov D X ps) {i j : Nat} (hi : i ≤ ps.length) (hj : j ≤ ps.length) :
    (X i - X j) * ((clk ps i).2 * (clk ps j).2) = ((clk ps i).1 * (clk ps j).2 - (clk ps j).1 * (clk ps i).2) * D := by
  have a := h.val i hi
  have b := h.val j hj
  rw [Int.sub_mul, Int.sub_mul, ← Int.mul_assoc, a, Int.mul_comm (clk ps i).2 (clk ps j).2, ← Int.mul_assoc, b]
  rw [Int.mul_right_comm, Int.mul_right_comm (clk ps j).1]

/-- One element, over one denominator. -/
theorem hs_mt {n : Nat} {l : List Int} {ps : List Pq} {D : Int} {X : Nat → Int} (hv : ∀ k, k < ps.length → vldC (gp ps k) = true) (ho : Ov D X ps) {i j : Nat} (hi : i ≤ ps.length) (hj : j ≤ ps.length) (hs : sbE ps i j = 0) (hl : lvB (Zo.At n l i j) = true) :
    hsM n l ps i j = true ↔ Zo.mt D (X i - X j) (Zo.At n l i j) := by
  obtain ⟨_, h2, h3⟩ := mk_ok hs
  have p1 := vld_pos (clk_vld hv hi).1
  have p2 := vld_pos (clk_vld hv hj).1
  have hb : 0 < (clk ps i).2 * (clk ps j).2 := Int.mul_pos (by omega) (by omega)
  exact me_mt h2 hl hb ho.pos h3 (ho.sub hi hj)

theorem chk_len {n : Nat} {l : List Int} (h : chkE n l = 0) : n ≤ 10 ∧ l.length = (n + 1) * (n + 1) ∧ rdL l = true := by
  have hb : rdB (n : Int) l = true := by
    cases c : rdB (n : Int) l
    · rw [chk_read c] at h; cases h
    · rfl
  unfold rdB at hb
  rw [Bool.and_eq_true, Bool.and_eq_true] at hb
  obtain ⟨⟨h1, h2⟩, h3⟩ := hb
  simp [dimB] at h1
  simp at h2
  exact ⟨by omega, h2, h3⟩

theorem chk_lvs {n : Nat} {l : List Int} (h : chkE n l = 0) {i j : Nat} (hi : i ≤ n) (hj : j ≤ n) : lvB (Zo.At n l i j) = true := by
  obtain ⟨_, h2, h3⟩ := chk_len h
  exact lv_of_all h2 h3 i j hi hj

theorem chk_top {n : Nat} {l : List Int} (h : chkE n l = 0) : Zo.Top n l := by
  obtain ⟨_, h2, h3⟩ := chk_len h
  exact ⟨h2, fun i j hi hj => vl_top (vl_of h2 h3 i j hi hj)⟩

/-- What Has says of a point. -/
theorem has_in {n : Nat} {l : List Int} {ps : List Pq} {D : Int} {X : Nat → Int} (hr : rdE n l ps = 0) (ho : Ov D X ps) : hsR n l ps = true ↔ Zo.In n l D X := by
  obtain ⟨h1, h2, h3, h4⟩ := rd_parts hr
  unfold hsR
  rw [hr]
  simp only [decide_true, Bool.true_and, Int.toNat_natCast]
  rw [hsB_iff]
  constructor
  · intro h i j hi hj
    exact (hs_mt h3 ho (by omega) (by omega) (h4 i hi j hj) (chk_lvs h1 hi hj)).1 (h i (by omega) j (by omega))
  · intro h i hi j hj
    exact (hs_mt h3 ho (by omega) (by omega) (h4 i (by omega) j (by omega)) (chk_lvs h1 (by omega) (by omega))).2 (h i j (by omega) (by omega))

theorem rdE_other {n : Nat} {l m : List Int} {ps : List Pq} (h1 : chkE n l = 0) (h2 : chkE n m = 0) : rdE n l ps = rdE n m ps := by
  unfold rdE; rw [h1, h2]

theorem Ov.pt {n : Nat} {D : Int} {X : Nat → Int} {ps : List Pq} (h : Ov D X ps) (hp : ps.length = n) (hv : ∀ k, k < ps.length → vldC (gp ps k) = true) : Zo.Pt n D X 2147483647 := by
  have key : ∀ i, i ≤ n → 0 ≤ X i ∧ X i ≤ 2147483647 * D := by
    intro i hi
    have e := h.val i (by omega)
    obtain ⟨v, z⟩ := clk_vld hv (i := i) (by omega)
    have q := vld_pos v
    have hD := h.pos
    generalize (clk ps i).1 = a at *
    generalize (clk ps i).2 = d at *
    constructor
    · have : 0 * d ≤ X i * d := by rw [e, Int.zero_mul]; exact Int.mul_nonneg z (by omega)
      exact Int.le_of_mul_le_mul_right this (by omega)
    · have h1 : a * D ≤ 2147483647 * D := Int.mul_le_mul_of_nonneg_right (by omega) (by omega)
      have h0 : 0 ≤ 2147483647 * D := by omega
      have h2 : 2147483647 * D * 1 ≤ 2147483647 * D * d := Int.mul_le_mul_of_nonneg_left (by omega) h0
      have : X i * d ≤ 2147483647 * D * d := by rw [e]; omega
      exact Int.le_of_mul_le_mul_right this (by omega)
  refine ⟨h.pos, ?_, fun i hi => (key i hi).1, fun i hi => (key i hi).2⟩
  have e := h.val 0 (by omega)
  simp [clk] at e
  exact e

/-- Every point has a denominator. -/
def dnP (ps : List Pq) : Int := ps.foldr (fun p r => p.2 * r) 1

theorem dnP_pos {ps : List Pq} (h : ∀ p ∈ ps, 1 ≤ p.2) : 1 ≤ dnP ps := by
  induction ps with
  | nil => simp [dnP]
  | cons p ps ih =>
    have h1 := h p (by simp)
    have h2 := ih (fun q hq => h q (by simp [hq]))
    show 1 ≤ p.2 * dnP ps
    have : 0 < p.2 * dnP ps := Int.mul_pos (by omega) (by omega)
    omega

theorem dnP_dvd {ps : List Pq} {p : Pq} (h : p ∈ ps) : p.2 ∣ dnP ps := by
  induction ps with
  | nil => cases h
  | cons q ps ih =>
    show p.2 ∣ q.2 * dnP ps
    rcases List.mem_cons.1 h with rfl | h
    · exact Int.dvd_mul_right _ _
    · exact Int.dvd_trans (ih h) (Int.dvd_mul_left _ _)

theorem gp_mem {ps : List Pq} {k : Nat} (h : k < ps.length) : gp ps k ∈ ps := by
  unfold gp
  rw [List.getD_eq_getElem?_getD, List.getElem?_eq_getElem h]
  exact List.getElem_mem h

theorem ov_of {ps : List Pq} (hv : ∀ k, k < ps.length → vldC (gp ps k) = true) : Ov (dnP ps) (fun i => (clk ps i).1 * (dnP ps / (clk ps i).2)) ps := by
  have h2 : ∀ p ∈ ps, 1 ≤ p.2 := by
    intro p hp
    obtain ⟨k, hk, rfl⟩ := List.getElem_of_mem hp
    have := hv k hk
    unfold gp at this
    rw [List.getD_eq_getElem?_getD, List.getElem?_eq_getElem hk] at this
    simp [vldC] at this
    exact (vld_pos this.1).1
  refine ⟨by have := dnP_pos h2; omega, fun i hi => ?_⟩
  show (clk ps i).1 * (dnP ps / (clk ps i).2) * (clk ps i).2 = _
  rw [Int.mul_assoc]
  congr 1
  refine Int.ediv_mul_cancel ?_
  unfold clk
  split
  · exact Int.one_dvd _
  · exact dnP_dvd (gp_mem (by omega))

/-- Constraints. -/
theorem an_in {n : Nat} {cs : List Con} {l : List Int} {D : Int} {X : Nat → Int} (hD : 0 < D) (hl : Zo.Top n l) (hok : ∀ t, t < cs.length → okC n (gc cs t) = true) :
    Zo.In n (anL n cs l) D X ↔ Zo.In n l D X ∧ ∀ t, t < cs.length → Zo.mt D (X (gc cs t).1.toNat - X (gc cs t).2.1.toNat) (gc cs t).2.2 := by
  have hl1 := hl.1
  have step : ∀ s, s ≤ cs.length → (Zo.In n ((List.range s).foldl (anS n cs) l) D X ↔ Zo.In n l D X ∧ ∀ t, t < s → Zo.mt D (X (gc cs t).1.toNat - X (gc cs t).2.1.toNat) (gc cs t).2.2) ∧ Zo.Top n ((List.range s).foldl (anS n cs) l) := by
    intro s
    induction s with
    | zero => intro _; exact ⟨⟨fun h => ⟨h, fun t ht => absurd ht (by omega)⟩, fun h => h.1⟩, hl⟩
    | succ s ih =>
      intro hs
      obtain ⟨i1, i2⟩ := ih (by omega)
      obtain ⟨p1, p2, p3⟩ := okC_parts (hok s (by omega))
      rw [Zo.fold_succ]
      generalize hu : (List.range s).foldl (anS n cs) l = u at *
      have hat : ∀ a b, b ≤ n → Zo.At n (anS n cs u s) a b = if a = (gc cs s).1.toNat ∧ b = (gc cs s).2.1.toNat then imin (Zo.At n u (gc cs s).1.toNat (gc cs s).2.1.toNat) (gc cs s).2.2 else Zo.At n u a b := fun a b hb => anS_at i2.1 (hok s (by omega)) hb
      have ht : Zo.Top n (anS n cs u s) := by
        refine ⟨by rw [anS_len]; exact i2.1, fun a b ha hb => ?_⟩
        rw [hat a b hb]
        split
        · have := i2.2 _ _ p1 p2
          unfold imin
          omega
        · exact i2.2 a b ha hb
      refine ⟨?_, ht⟩
      constructor
      · intro h
        have hu2 : Zo.In n u D X := by
          intro a b ha hb
          have := h a b ha hb
          rw [hat a b hb] at this
          split at this
          · rename_i e
            rw [e.1, e.2] at *
            exact Zo.mt_mono hD (by unfold imin; omega) (i2.2 _ _ p1 p2) this
          · exact this
        refine ⟨(i1.1 hu2).1, fun t htt => ?_⟩
        by_cases c : t = s
        · subst c
          have := h _ _ p1 p2
          rw [hat _ _ p2, if_pos ⟨rfl, rfl⟩] at this
          exact Zo.mt_mono hD (by unfold imin; omega) (vl_top p3) this
        · exact (i1.1 hu2).2 t (by omega)
      · intro h a b ha hb
        have hu2 := i1.2 ⟨h.1, fun t htt => h.2 t (by omega)⟩
        rw [hat a b hb]
        split
        · rename_i e
          rw [e.1, e.2]
          exact Zo.mt_min (hu2 _ _ p1 p2) (h.2 s (by omega))
        · exact hu2 a b ha hb
  exact (step cs.length (Nat.le_refl _)).1

/-- Closing: the points stay, and a set with a point is not empty. -/
theorem clo_in {n : Nat} {l : List Int} {D M : Int} {X : Nat → Int} (hp : Zo.Pt n D X M) (hM : M ≤ 4611686018427387) (ht : Zo.Top n l) : Zo.In n (Zo.clo n l) D X ↔ Zo.In n l D X :=
  ⟨Zo.clo_complete hp.pos ht, Zo.clo_sound hp hM ht⟩

theorem clo_full {n : Nat} {l : List Int} {D M : Int} {X : Nat → Int} (hp : Zo.Pt n D X M) (hM : M ≤ 4611686018427387) (ht : Zo.Top n l) (h : Zo.In n l D X) : cloB n l = false :=
  cloB_iff.2 fun _ hi => Zo.In.diag hp.pos (Zo.clo_sound hp hM ht h) hi

theorem cloE_full {n : Nat} {l : List Int} (h : cloB n l = false) : cloE n l ≠ 4 := by
  unfold cloE
  rw [h]
  simp
  split <;> simp
end Go.Proofs.Ytgdcclldgfcilaa

namespace Go.Proofs.Ytgdcclldgfcilaa

/-- An element times D. -/
def scE (D x : Int) : Int := if x = 1099511627776 then 1099511627776 else 2 * (x / 2) * D + x % 2

def scL (D : Int) (l : List Int) : List Int := l.map (scE D)

theorem scL_len (D : Int) (l : List Int) : (scL D l).length = l.length := by simp [scL]

theorem scL_at {n : Nat} {D : Int} {l : List Int} (hl : l.length = (n + 1) * (n + 1)) {a b : Nat} (ha : a ≤ n) (hb : b ≤ n) : Zo.At n (scL D l) a b = scE D (Zo.At n l a b) := by
  have := Zo.ix_lt ha hb
  unfold Zo.At Zo.gt scL
  simp [show Zo.ix n a b < l.length by omega]

theorem scE_no (D : Int) : scE D 1099511627776 = 1099511627776 := by unfold scE; rw [if_pos rfl]

theorem scE_num {D x : Int} (h : x ≠ 1099511627776) : scE D x = 2 * (x / 2) * D + x % 2 := by unfold scE; rw [if_neg h]

/-- The constants of a zone are small. -/
def Sm (n : Nat) (l : List Int) : Prop := ∀ a b, a ≤ n → b ≤ n → Zo.At n l a b = 1099511627776 ∨ (-1048576 ≤ Zo.At n l a b / 2 ∧ Zo.At n l a b / 2 ≤ 1048576)

theorem mul_le' {a b D : Int} (h : a ≤ b) (hD : 0 < D) : a * D ≤ b * D := Int.mul_le_mul_of_nonneg_right h (by omega)

theorem of_mul_le {a b D : Int} (h : a * D ≤ b * D) (hD : 0 < D) : a ≤ b := Int.le_of_mul_le_mul_right h hD

theorem scE_range {D x : Int} (h1 : 1 ≤ D) (h2 : D ≤ 500) (hx : x = 1099511627776 ∨ (-1048576 ≤ x / 2 ∧ x / 2 ≤ 1048576)) : scE D x = 1099511627776 ∨ (-1048576000 ≤ scE D x ∧ scE D x ≤ 1048576001) := by
  by_cases c : x = 1099511627776
  · left; rw [c, scE_no]
  · right
    rw [scE_num c]
    have a1 := Int.mul_le_mul_of_nonneg_left h2 (show (0 : Int) ≤ 1048576 by omega)
    have hh := hx.resolve_left c
    have a2 := mul_le' hh.1 (show 0 < D by omega)
    have a3 := mul_le' hh.2 (show 0 < D by omega)
    rw [Int.mul_assoc]
    omega

theorem sc_tri {D x y z : Int} (hD : 1 ≤ D) (hd : D ≤ 500) (hx : x = 1099511627776 ∨ (-1048576 ≤ x / 2 ∧ x / 2 ≤ 1048576)) (hy : y = 1099511627776 ∨ (-1048576 ≤ y / 2 ∧ y / 2 ≤ 1048576)) (hz : z = 1099511627776 ∨ (-1048576 ≤ z / 2 ∧ z / 2 ≤ 1048576)) (h : x ≤ Zo.smW y z) :
    scE D x ≤ Zo.smW (scE D y) (scE D z) := by
  have rx := scE_range hD hd hx
  have ry := scE_range hD hd hy
  have rz := scE_range hD hd hz
  by_cases cy : y = 1099511627776
  · rw [cy, scE_no]; unfold Zo.smW; rw [if_pos (Or.inl rfl)]; omega
  by_cases cz : z = 1099511627776
  · rw [cz, scE_no]; unfold Zo.smW; rw [if_pos (Or.inr rfl)]; omega
  have ny := ry.resolve_left (by rw [scE_num cy]; have := hy.resolve_left cy; have b1 := scE_range hD hd hy; rw [scE_num cy] at b1; intro q; have a2 := mul_le' this.2 (show 0 < D by omega); have a1 := Int.mul_le_mul_of_nonneg_left hd (show (0 : Int) ≤ 1048576 by omega); rw [Int.mul_assoc] at q; omega)
  have nz := rz.resolve_left (by rw [scE_num cz]; have := hz.resolve_left cz; intro q; have a2 := mul_le' this.2 (show 0 < D by omega); have a1 := Int.mul_le_mul_of_nonneg_left hd (show (0 : Int) ≤ 1048576 by omega); rw [Int.mul_assoc] at q; omega)
  have hyy := hy.resolve_left cy
  have hzz := hz.resolve_left cz
  have w1 : Zo.w64 (y + z) = y + z := Zo.w64_in (by omega) (by omega)
  have w2 : Zo.w64 (y + z - 1) = y + z - 1 := Zo.w64_in (by omega) (by omega)
  unfold Zo.smW at h
  rw [if_neg (by omega), w1, w2] at h
  have cx : x ≠ 1099511627776 := by intro c; split at h <;> omega
  unfold Zo.smW
  rw [if_neg (by omega)]
  generalize hY : scE D y = Y at *
  generalize hZ : scE D z = Z at *
  rw [Zo.w64_in (x := Y + Z) (by omega) (by omega), Zo.w64_in (x := Y + Z - 1) (by omega) (by omega)]
  rw [scE_num cx, Int.mul_assoc]
  rw [scE_num cy, Int.mul_assoc] at hY
  rw [scE_num cz, Int.mul_assoc] at hZ
  have k0 : x / 2 ≤ y / 2 + z / 2 → x / 2 * D ≤ y / 2 * D + z / 2 * D := fun q => by rw [← Int.add_mul]; exact mul_le' q (by omega)
  have k1 : x / 2 ≤ y / 2 + z / 2 - 1 → x / 2 * D ≤ y / 2 * D + z / 2 * D - D := fun q => by
    have := mul_le' q (show 0 < D by omega)
    rw [Int.sub_mul, Int.one_mul, Int.add_mul] at this
    exact this
  generalize x / 2 * D = xd at *
  generalize y / 2 * D = yd at *
  generalize z / 2 * D = zd at *
  have : x / 2 ≤ y / 2 + z / 2 := by split at h <;> omega
  have k0' := k0 this
  by_cases c : x / 2 ≤ y / 2 + z / 2 - 1
  · have k1' := k1 c
    split <;> omega
  · split at h
    · rw [if_pos (by omega)]; omega
    · rw [if_neg (by omega)]; omega

/-- A canonical matrix times D is canonical. -/
theorem sc_chk {n : Nat} {D : Int} {l : List Int} (hc : chkE n l = 0) (hS : Sm n l) (hD : 1 ≤ D) (hd : D ≤ 500) : chkE n (scL D l) = 0 := by
  obtain ⟨hn, hl, hr⟩ := chk_len hc
  have d := chk_diag hc
  have lg : (scL D l).length = (n + 1) * (n + 1) := by rw [scL_len, hl]
  have at' := fun a b (ha : a ≤ n) (hb : b ≤ n) => scL_at (D := D) hl ha hb
  have hv : rdL (scL D l) = true := all_of_lv lg fun a b ha hb => by
    rw [at' a b ha hb]
    have := scE_range hD hd (hS a b ha hb)
    unfold lvB; simp; omega
  have dg : ∀ a, a ≤ n → Zo.At n (scL D l) a a = 1 := fun a ha => by
    rw [at' a a ha ha, d.1 a ha, scE_num (by omega)]; omega
  have e := clo_fix lg (fun a ha => by rw [dg a ha]; omega) (fun a ha => by
      rw [at' 0 a (by omega) ha]
      have r := d.2 a ha
      rw [scE_num (by omega), Int.mul_assoc]
      have := mul_le' (show Zo.At n l 0 a / 2 ≤ 0 by omega) (show 0 < D by omega)
      rw [Int.zero_mul] at this
      by_cases q : Zo.At n l 0 a / 2 = 0
      · rw [q]; omega
      · have := mul_le' (show Zo.At n l 0 a / 2 ≤ -1 by omega) (show 0 < D by omega)
        omega) (fun i j k hi hj hk => by
      rw [at' i j hi hj, at' i k hi hk, at' k j hk hj]
      exact sc_tri hD hd (hS i j hi hj) (hS i k hi hk) (hS k j hk hj) (chk_tri hc i j k hi hj hk))
  exact (chk_iff hn lg hv).2 ⟨cloB_iff.2 fun i hi => by rw [e, dg i hi]; omega, e⟩

/-- Constants that are -1 stay so. -/
def cnV (k D : Int) : Int := if k < 0 then -1 else k * D

theorem cov_two {D c xt xs : Int} {t s : Nat} {low high : List Int} (hD : 0 < D) (lv : lvB c = true) (hn : c ≠ 1099511627776) (hm : Zo.mt D (xt - xs) (wdn c t s low high)) (pt : 0 ≤ xt)
    (ht : 1 ≤ t → 0 ≤ Zo.gt low (t - 1) ∧ xt ≤ Zo.gt low (t - 1) * D) (hs : 1 ≤ s → 0 ≤ Zo.gt high (s - 1) ∧ xs ≤ Zo.gt high (s - 1) * D) (p0 : 0 ≤ xs) : Zo.mt D (xt - xs) c := by
  rcases Classical.em (Zo.mt D (xt - xs) c) with h | h
  · exact h
  · exfalso
    have hk : c / 2 * D ≤ xt - xs := by
      unfold Zo.mt at h
      by_cases q : c % 2 = 0
      · rcases Int.lt_or_le (xt - xs) (c / 2 * D) with z | z
        · exact absurd (Or.inr (Or.inl ⟨q, z⟩)) h
        · exact z
      · rcases Int.lt_or_le (c / 2 * D) (xt - xs) with z | z
        · omega
        · exact absurd (Or.inr (Or.inr ⟨q, z⟩)) h
    rw [wdn_num lv hn] at hm
    have r1 : ¬ (1 ≤ t ∧ (Zo.gt low (t - 1) = -1 ∨ Zo.gt low (t - 1) < c / 2)) := by
      rintro ⟨q, r⟩
      have := ht q
      have : c / 2 ≤ Zo.gt low (t - 1) := of_mul_le (D := D) (by omega) hD
      omega
    rw [if_neg r1] at hm
    have r2 : ¬ (1 ≤ s ∧ Zo.gt high (s - 1) = -1) := by
      rintro ⟨q, r⟩
      have := hs q
      omega
    rw [if_neg r2] at hm
    by_cases r3 : 1 ≤ s ∧ c / 2 < -Zo.gt high (s - 1)
    · rw [if_pos r3] at hm
      have := hs r3.1
      unfold Zo.mt at hm
      rw [show -2 * Zo.gt high (s - 1) / 2 = -Zo.gt high (s - 1) by omega, show -Zo.gt high (s - 1) * D = -(Zo.gt high (s - 1) * D) from Int.neg_mul _ _] at hm
      omega
    · rw [if_neg r3] at hm
      exact h hm

theorem cov_one {D c xt xs : Int} {t s : Nat} {low high : List Int} (hD : 0 < D) (lv : lvB c = true) (hn : c ≠ 1099511627776) (hm : Zo.mt D (xt - xs) (wdn c t s low high)) (pt : 0 ≤ xt)
    (ht : 0 ≤ Zo.gt low (t - 1) ∧ Zo.gt low (t - 1) * D < xt) (hs : 1 ≤ s → 0 ≤ Zo.gt high (s - 1) ∧ xs ≤ Zo.gt high (s - 1) * D) (p0 : 0 ≤ xs) : Zo.gt low (t - 1) * D - xs < c / 2 * D := by
  rcases Int.lt_or_le (Zo.gt low (t - 1) * D - xs) (c / 2 * D) with h | h
  · exact h
  · exfalso
    rw [wdn_num lv hn] at hm
    have kl : c / 2 ≤ Zo.gt low (t - 1) := of_mul_le (D := D) (by omega) hD
    rw [if_neg (by omega)] at hm
    have r2 : ¬ (1 ≤ s ∧ Zo.gt high (s - 1) = -1) := by
      rintro ⟨q, r⟩
      have := hs q
      omega
    rw [if_neg r2] at hm
    by_cases r3 : 1 ≤ s ∧ c / 2 < -Zo.gt high (s - 1)
    · rw [if_pos r3] at hm
      have := hs r3.1
      unfold Zo.mt at hm
      rw [show -2 * Zo.gt high (s - 1) / 2 = -Zo.gt high (s - 1) by omega, show -Zo.gt high (s - 1) * D = -(Zo.gt high (s - 1) * D) from Int.neg_mul _ _] at hm
      omega
    · rw [if_neg r3] at hm
      unfold Zo.mt at hm
      omega
end Go.Proofs.Ytgdcclldgfcilaa

namespace Go.Proofs.Ytgdcclldgfcilaa

def hugeC : Int := 17179869185

/-- The box of the valuations that cover a point. -/
def bxA (D : Int) (X : Nat → Int) (low : List Int) (t : Nat) : Int := if t = 0 then 1 else if cnV (Zo.gt low (t - 1)) D < X t then -2 * cnV (Zo.gt low (t - 1)) D else -2 * X t + 1

def bxB (D : Int) (X : Nat → Int) (high : List Int) (s : Nat) : Int := if s = 0 then 1 else if cnV (Zo.gt high (s - 1)) D < X s then hugeC else 2 * X s + 1

/-- Along the cycles through a lower bound, an element and an upper bound the sum is not below 0. -/
theorem cov_sum {n : Nat} {D : Int} {l low high : List Int} {X : Nat → Int} (hc : chkE n l = 0) (hS : Sm n l) (h1 : 1 ≤ D) (h2 : D ≤ 500) (hlo : Kn n low) (_ : Kn n high) (hX0 : X 0 = 0) (hX : ∀ i, i ≤ n → 0 ≤ X i ∧ X i ≤ 524288000)
    (hIn : Zo.In n (wdM n low high l) D X) {t s : Nat} (ht : t ≤ n) (hs : s ≤ n) : Zo.le (some 1) (Zo.add (Zo.add (some (bxA D X low t)) (Zo.dec (scE D (Zo.At n l t s)))) (some (bxB D X high s))) := by
  obtain ⟨hn, hl, hr⟩ := chk_len hc
  have hD : 0 < D := by omega
  have lv := fun a b (ha : a ≤ n) (hb : b ≤ n) => chk_lvs hc ha hb
  have d := chk_diag hc
  by_cases cn : Zo.At n l t s = 1099511627776
  · rw [cn, scE_no]
    show Zo.le _ (Zo.add (Zo.add _ (Zo.dec 1099511627776)) _)
    rw [show Zo.dec 1099511627776 = none from by unfold Zo.dec; rw [if_pos rfl]]
    exact Zo.le_none _
  have rg := scE_range h1 h2 (hS t s ht hs)
  have rgn : -1048576000 ≤ scE D (Zo.At n l t s) ∧ scE D (Zo.At n l t s) ≤ 1048576001 := by
    refine rg.resolve_left ?_
    rw [scE_num cn, Int.mul_assoc]
    intro q
    have a1 := Int.mul_le_mul_of_nonneg_left h2 (show (0 : Int) ≤ 1048576 by omega)
    have a2 := mul_le' ((hS t s ht hs).resolve_left cn).2 hD
    omega
  rw [show Zo.dec (scE D (Zo.At n l t s)) = some (scE D (Zo.At n l t s)) from by unfold Zo.dec; rw [if_neg (by omega)]]
  show (1 : Int) ≤ Zo.ps (Zo.ps (bxA D X low t) (scE D (Zo.At n l t s))) (bxB D X high s)
  -- the elements are met by the point, widened
  have hm : ∀ a b, a ≤ n → b ≤ n → a ≠ b → Zo.mt D (X a - X b) (wdn (Zo.At n l a b) a b low high) := fun a b ha hb hne => by
    have := hIn a b ha hb
    rw [wd_at hl ha hb, if_neg hne] at this
    exact this
  have cv : ∀ k, -1 ≤ k → k ≤ 1048576 → -1 ≤ cnV k D ∧ cnV k D ≤ 524288000 := fun k a b => by
    unfold cnV
    split
    · omega
    · have a1 := Int.mul_le_mul_of_nonneg_left h2 (show (0 : Int) ≤ 1048576 by omega)
      have a2 := mul_le' b hD
      have a3 := mul_le' (show 0 ≤ k by omega) hD
      rw [Int.zero_mul] at a3
      omega
  have hXt := hX t ht
  have hXs := hX s hs
  have e2 : scE D (Zo.At n l t s) = 2 * (Zo.At n l t s / 2 * D) + Zo.At n l t s % 2 := by rw [scE_num cn, Int.mul_assoc]
  have bA : -1048576000 ≤ bxA D X low t := by
    unfold bxA
    split
    · omega
    · have := hlo.2 (t - 1) (by omega)
      have := cv _ this.1 this.2
      split <;> omega
  -- the upper bound is out of reach
  by_cases hB : s ≠ 0 ∧ cnV (Zo.gt high (s - 1)) D < X s
  · rw [show bxB D X high s = hugeC by unfold bxB; rw [if_neg hB.1, if_pos hB.2]]
    unfold hugeC Zo.ps
    split <;> split <;> omega
  have eB : bxB D X high s = 2 * X s + 1 := by
    unfold bxB
    by_cases q : s = 0
    · rw [if_pos q, q, hX0]; rfl
    · rw [if_neg q, if_neg (fun r => hB ⟨q, r⟩)]
  rw [eB]
  have hsb : 1 ≤ s → 0 ≤ Zo.gt high (s - 1) ∧ X s ≤ Zo.gt high (s - 1) * D := fun q => by
    have h : ¬ cnV (Zo.gt high (s - 1)) D < X s := fun r => hB ⟨by omega, r⟩
    unfold cnV at h
    by_cases r : Zo.gt high (s - 1) < 0
    · rw [if_pos r] at h; exact absurd (by omega) h
    · rw [if_neg r] at h; omega
  -- what the pair (t, s) gives, where the lower bound is the point itself
  have two : ∀ t, t ≤ n → Zo.At n l t s ≠ 1099511627776 → (1 ≤ t → 0 ≤ Zo.gt low (t - 1) ∧ X t ≤ Zo.gt low (t - 1) * D) → Zo.mt D (X t - X s) (Zo.At n l t s) := fun t ht cn h => by
    by_cases q : t = s
    · subst q
      rw [d.1 t ht, show X t - X t = 0 by omega]
      unfold Zo.mt; omega
    · exact cov_two hD (lv t s ht hs) cn (hm t s ht hs q) (hX t ht).1 h hsb hXs.1
  by_cases hA : t ≠ 0 ∧ cnV (Zo.gt low (t - 1)) D < X t
  · rw [show bxA D X low t = -2 * cnV (Zo.gt low (t - 1)) D by unfold bxA; rw [if_neg hA.1, if_pos hA.2]]
    have key : cnV (Zo.gt low (t - 1)) D - X s < Zo.At n l t s / 2 * D := by
      by_cases q : t = s
      · subst q
        rw [d.1 t ht]
        omega
      have hlt := hlo.2 (t - 1) (by omega)
      by_cases neg : Zo.gt low (t - 1) < 0
      · rw [show cnV (Zo.gt low (t - 1)) D = -1 by unfold cnV; rw [if_pos neg]]
        rcases Int.lt_or_le (-1 - X s) (Zo.At n l t s / 2 * D) with z | z
        · exact z
        · exfalso
          have kn : Zo.At n l t s / 2 ≤ -1 := by
            rcases Int.lt_or_le (-1) (Zo.At n l t s / 2) with y | y
            · have := mul_le' (show 0 ≤ Zo.At n l t s / 2 by omega) hD
              rw [Int.zero_mul] at this
              omega
            · exact y
          -- the lower bound of the clock s
          have tr := chk_tri hc 0 s t (Nat.zero_le _) hs ht
          have r0 := d.2 t ht
          have n0 := lv_num (lv 0 t (Nat.zero_le _) ht)
          have n1 := lv_num (lv t s ht hs)
          have n2 := lv_num (lv 0 s (Nat.zero_le _) hs)
          have low0 : Zo.At n l 0 s / 2 ≤ Zo.At n l t s / 2 ∧ Zo.At n l 0 s ≠ 1099511627776 := by
            unfold Zo.smW at tr
            rw [if_neg (by omega), Zo.w64_in (x := Zo.At n l 0 t + Zo.At n l t s) (by omega) (by omega), Zo.w64_in (x := Zo.At n l 0 t + Zo.At n l t s - 1) (by omega) (by omega)] at tr
            split at tr <;> omega
          have m := two 0 (Nat.zero_le _) low0.2 (fun q => by omega)
          have le2 := mul_le' low0.1 hD
          unfold Zo.mt at m
          rw [hX0] at m
          have := low0.2
          omega
      · rw [show cnV (Zo.gt low (t - 1)) D = Zo.gt low (t - 1) * D by unfold cnV; rw [if_neg neg]]
        have h := hA.2
        unfold cnV at h
        rw [if_neg neg] at h
        exact cov_one hD (lv t s ht hs) cn (hm t s ht hs q) hXt.1 ⟨by omega, h⟩ hsb hXs.1
    rw [e2]
    generalize cnV (Zo.gt low (t - 1)) D = lo at *
    generalize Zo.At n l t s / 2 * D = kd at *
    unfold Zo.ps
    split <;> split <;> omega
  · have eA : bxA D X low t = -2 * X t + 1 := by
      unfold bxA
      by_cases q : t = 0
      · rw [if_pos q, q, hX0]; rfl
      · rw [if_neg q, if_neg (fun r => hA ⟨q, r⟩)]
    rw [eA]
    have m := two t ht cn (fun q => by
      have h : ¬ cnV (Zo.gt low (t - 1)) D < X t := fun r => hA ⟨by omega, r⟩
      unfold cnV at h
      by_cases r : Zo.gt low (t - 1) < 0
      · rw [if_pos r] at h; exact absurd (by omega) h
      · rw [if_neg r] at h; omega)
    unfold Zo.mt at m
    rw [e2]
    generalize hkd : Zo.At n l t s / 2 * D = kd at *
    generalize Zo.At n l t s = c at *
    unfold Zo.ps
    split <;> split <;> omega

/-- The point that covers. -/
theorem cov_point {n : Nat} {D : Int} {l low high : List Int} {X : Nat → Int} (hc : chkE n l = 0) (hS : Sm n l) (h1 : 1 ≤ D) (h2 : D ≤ 500) (hlo : Kn n low) (hhi : Kn n high) (hX0 : X 0 = 0) (hX : ∀ i, i ≤ n → 0 ≤ X i ∧ X i ≤ 524288000)
    (hIn : Zo.In n (wdM n low high l) D X) : ∃ (E : Int) (Y : Nat → Int), 0 < E ∧ Y 0 = 0 ∧ Zo.In n (scL D l) E Y ∧ ∀ i, 1 ≤ i → i ≤ n → Y i ≤ 8589934592 * E ∧ (Y i = X i * E ∨ (cnV (Zo.gt low (i - 1)) D * E < Y i ∧ Y i < X i * E) ∨ (cnV (Zo.gt high (i - 1)) D < X i ∧ X i * E < Y i)) := by
  obtain ⟨hn, hl, hr⟩ := chk_len hc
  have hg := sc_chk hc hS h1 h2
  obtain ⟨hn', hlg, hrg⟩ := chk_len hg
  obtain ⟨Z, hZ⟩ := chk_cl hn hlg hg
  have ez := fun a b (ha : a ≤ n) (hb : b ≤ n) => hZ.dec ha hb
  obtain ⟨E, Y, hE, hY0, hY, hB⟩ := Zo.point_box (n := n) (Z := Z) (A := fun t => some (bxA D X low t)) (B := fun s => some (bxB D X high s)) hZ.tri hZ.dg rfl rfl (fun t s ht hs => by
    show Zo.le _ (Zo.add (Zo.add _ (Z t s)) _)
    rw [ez t s ht hs, scL_at hl ht hs]
    exact cov_sum hc hS h1 h2 hlo hhi hX0 hX hIn ht hs)
  refine ⟨E, Y, hE, hY0, fun i j hi hj => ?_, fun i hi1 hi => ?_⟩
  · have := hY i j hi hj
    rw [ez i j hi hj] at this
    generalize Zo.At n (scL D l) i j = c at *
    unfold Zo.dec at this
    by_cases q : c = 1099511627776
    · exact Or.inl q
    · rw [if_neg q, Zo.ml_some] at this
      exact Or.inr this
  · obtain ⟨b, a⟩ := hB i hi
    simp only [Zo.ml_some] at a b
    unfold bxB at b
    unfold bxA at a
    rw [if_neg (show ¬ i = 0 by omega)] at a b
    have hx := hX i hi
    have xe : X i * E ≤ 8589934592 * E := mul_le' (by omega) hE
    by_cases c1 : cnV (Zo.gt low (i - 1)) D < X i
    · rw [if_pos c1, show -2 * cnV (Zo.gt low (i - 1)) D / 2 = -cnV (Zo.gt low (i - 1)) D by omega, show -cnV (Zo.gt low (i - 1)) D * E = -(cnV (Zo.gt low (i - 1)) D * E) from Int.neg_mul _ _] at a
      by_cases c2 : cnV (Zo.gt high (i - 1)) D < X i
      · rw [if_pos c2] at b
        unfold hugeC at b
        rw [show (17179869185 : Int) / 2 = 8589934592 by decide] at b
        refine ⟨by omega, ?_⟩
        by_cases e : Y i = X i * E
        · left; exact e
        · by_cases f : Y i < X i * E
          · right; left; exact ⟨by omega, f⟩
          · right; right; exact ⟨c2, by omega⟩
      · rw [if_neg c2, show (2 * X i + 1) / 2 = X i by omega] at b
        refine ⟨by omega, ?_⟩
        by_cases e : Y i = X i * E
        · left; exact e
        · right; left; exact ⟨by omega, by omega⟩
    · rw [if_neg c1, show (-2 * X i + 1) / 2 = -X i by omega, show -X i * E = -(X i * E) from Int.neg_mul _ _] at a
      by_cases c2 : cnV (Zo.gt high (i - 1)) D < X i
      · rw [if_pos c2] at b
        unfold hugeC at b
        rw [show (17179869185 : Int) / 2 = 8589934592 by decide] at b
        refine ⟨by omega, ?_⟩
        by_cases e : Y i = X i * E
        · left; exact e
        · right; right; exact ⟨c2, by omega⟩
      · rw [if_neg c2, show (2 * X i + 1) / 2 = X i by omega] at b
        refine ⟨by omega, ?_⟩
        left; omega
end Go.Proofs.Ytgdcclldgfcilaa

namespace Go.Proofs.Ytgdcclldgfcilaa

def num3 : Nat → (Nat → Nat) → Nat
  | 0, _ => 0
  | k + 1, f => f 0 + 3 * num3 k (fun i => f (i + 1))

theorem num3_lt : ∀ (k : Nat) (f : Nat → Nat), (∀ i, i < k → f i < 3) → num3 k f < 3 ^ k
  | 0, _, _ => by simp [num3]
  | k + 1, f, h => by
    have a := num3_lt k (fun i => f (i + 1)) (fun i hi => h (i + 1) (by omega))
    have b := h 0 (by omega)
    simp only [num3, Nat.pow_succ]
    omega

theorem num3_mod {k : Nat} {f : Nat → Nat} (hk : 0 < k) (h : f 0 < 3) : num3 k f % 3 = f 0 ∧ num3 k f / 3 = num3 (k - 1) (fun i => f (i + 1)) := by
  cases k with
  | zero => omega
  | succ k => simp only [num3, Nat.add_sub_cancel]; omega

/-- A number of a point over the common denominator. -/
def xV (ps : List Pq) (D : Int) (i : Nat) : Int := (gp ps i).1 * (D / (gp ps i).2)

theorem xV_range {ps : List Pq} {n : Nat} {D : Int} (h : CoOk ps n D) {i : Nat} (hi : i < n) : 0 ≤ xV ps D i ∧ xV ps D i ≤ 524288000 ∧ 1 ≤ D / (gp ps i).2 ∧ D / (gp ps i).2 ≤ 500 ∧ (gp ps i).1 * D = xV ps D i * (gp ps i).2 := by
  obtain ⟨d1, d5, hk⟩ := h
  obtain ⟨a, b, c, d, e⟩ := hk i hi
  obtain ⟨u, hu⟩ := e
  have eu : D / (gp ps i).2 = u := by rw [hu]; exact Int.mul_ediv_cancel_left _ (by omega)
  unfold xV
  rw [eu]
  have up : 1 ≤ u := by
    rcases Int.lt_or_le 0 u with z | z
    · omega
    · have := Int.mul_le_mul_of_nonneg_left z (show 0 ≤ (gp ps i).2 by omega)
      rw [Int.mul_zero] at this
      omega
  have uu : u ≤ 500 := by
    have := Int.mul_le_mul_of_nonneg_right a (show 0 ≤ u by omega)
    rw [Int.one_mul] at this
    omega
  have m1 := Int.mul_le_mul_of_nonneg_right d (show 0 ≤ u by omega)
  have m0 := Int.mul_nonneg c (show 0 ≤ u by omega)
  refine ⟨m0, by omega, up, uu, ?_⟩
  rw [hu, Int.mul_assoc, Int.mul_comm u]
end Go.Proofs.Ytgdcclldgfcilaa
