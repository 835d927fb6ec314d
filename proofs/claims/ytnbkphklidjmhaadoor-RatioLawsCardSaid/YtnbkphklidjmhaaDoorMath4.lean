/- Plain mathematics: the text of a ratio is read back. -/
import Derived.Test.YtnbkphklidjmhaaDoorMath3
import Derived.Test.YtnbkphklidjmhaaDoorS4
namespace Go.Proofs.YtnbkphklidjmhaaDoor

theorem dig_toNat (u : Nat) (h : u < 10) : (UInt8.ofNat (48 + u)).toNat = 48 + u := by simp; omega
theorem dec_facts (u : Nat) : allDig (Lib.decDigits u) = true ∧ valOf (Lib.decDigits u) = (u : Int) ∧ Lib.decDigits u ≠ [] ∧ (0 < u → (Lib.decDigits u).head? ≠ some 48) := by
  induction u using Nat.strongRecOn with
  | _ u ih =>
    rw [Lib.decDigits]
    by_cases h : u < 10
    · rw [dif_pos h]
      have e := dig_toNat u h
      refine ⟨?_, ?_, by simp, ?_⟩
      · simp only [allDig, List.all_cons, List.all_nil, isDig, e]; simp; omega
      · simp only [valOf, List.foldl_cons, List.foldl_nil, e]; omega
      · intro h0 hx
        simp only [List.head?_cons, Option.some.injEq] at hx
        have := congrArg UInt8.toNat hx
        rw [e] at this
        have h48 : (48 : UInt8).toNat = 48 := rfl
        omega
    · rw [dif_neg h]
      obtain ⟨i1, i2, i3, i4⟩ := ih (u / 10) (by omega)
      have e := dig_toNat (u % 10) (by omega)
      refine ⟨?_, ?_, by simp, ?_⟩
      · rw [allDig_append, i1]; simp only [allDig, List.all_cons, List.all_nil, isDig, e]; simp; omega
      · rw [valOf_snoc, i2, e]; omega
      · intro h0
        obtain ⟨c, r, hc⟩ := List.exists_cons_of_ne_nil i3
        have := i4 (by omega)
        rw [hc] at this ⊢
        simpa using this

theorem slash_all {l : List UInt8} (h : ∀ c ∈ l, c ≠ 47) : slash l = l.length := by
  induction l with
  | nil => rfl
  | cons c r ih =>
    rw [show slash (c :: r) = if c = 47 then 0 else slash r + 1 from rfl, if_neg (h c (by simp)), ih (fun x hx => h x (by simp [hx]))]; rfl
theorem slash_app {l : List UInt8} (h : ∀ c ∈ l, c ≠ 47) (r : List UInt8) : slash (l ++ 47 :: r) = l.length := by
  induction l with
  | nil => rfl
  | cons c t ih =>
    rw [List.cons_append, show slash (c :: (t ++ 47 :: r)) = if c = 47 then 0 else slash (t ++ 47 :: r) + 1 from rfl, if_neg (h c (by simp)), ih (fun x hx => h x (by simp [hx]))]; rfl
theorem dig_no {l : List UInt8} (h : allDig l = true) : ∀ c ∈ l, c ≠ 47 := by
  intro c hc e
  unfold allDig at h
  rw [List.all_eq_true] at h
  have := h c hc
  subst e
  simp [isDig] at this
theorem itoa_no (n : Int) : ∀ c ∈ Lib.itoa n, c ≠ 47 := by
  intro c hc
  by_cases h : n < 0
  · rw [itoa_min h] at hc
    rcases List.mem_cons.1 hc with e | hc
    · subst e; decide
    · exact dig_no (dec_facts _).1 c hc
  · rw [itoa_pos (by omega)] at hc
    exact dig_no (dec_facts _).1 c hc
theorem dec_isDec (u : Nat) : isDec (Lib.decDigits u) = true := by
  obtain ⟨h1, h2, h3, h4⟩ := dec_facts u
  unfold isDec
  rw [h1]
  by_cases h0 : 0 < u
  · have := h4 h0
    have hh : ((Lib.decDigits u).head? == some 48) = false := by simpa using this
    rw [hh]; simpa using h3
  · obtain rfl : u = 0 := by omega
    simp [Lib.decDigits]
theorem dec_ne (u : Nat) (h : 0 < u) : (Lib.decDigits u == [48]) = false := by
  have := (dec_facts u).2.1
  cases hx : (Lib.decDigits u == [48])
  · rfl
  · rw [beq_iff_eq.1 hx] at this
    simp [valOf] at this
    omega
theorem dec_val (u : Nat) (h : u ≤ 9223372036854775807) : valB (Lib.decDigits u) = true ∧ valI (Lib.decDigits u) = (u : Int) := by
  have := (dec_facts u).2.1
  have hb : valB (Lib.decDigits u) = true := by unfold valB; rw [this]; simp; omega
  exact ⟨hb, by unfold valI; rw [hb, this]; rfl⟩
theorem itoa_cut (n : Int) : Lib.hasPrefix (Lib.itoa n) [45] = decide (n < 0) ∧ Lib.trimPrefix (Lib.itoa n) [45] = Lib.decDigits n.natAbs := by
  by_cases h : n < 0
  · have e : Lib.hasPrefix (Lib.itoa n) [45] = true := by rw [itoa_min h]; simp [Lib.hasPrefix, List.isPrefixOf]
    refine ⟨by rw [e]; simpa using h, ?_⟩
    unfold Lib.trimPrefix; rw [e, itoa_min h]; rfl
  · have e : Lib.hasPrefix (Lib.itoa n) [45] = false := by
      rw [itoa_pos (by omega)]
      obtain ⟨h1, _, h3, _⟩ := dec_facts n.natAbs
      obtain ⟨c, r, hc⟩ := List.exists_cons_of_ne_nil h3
      rw [hc] at h1 ⊢
      obtain ⟨d1, _, _⟩ := allDig_cons h1
      unfold Lib.hasPrefix
      simp only [List.isPrefixOf, Bool.and_true]
      rw [beq_eq_false_iff_ne]
      intro x
      rw [← x] at d1
      simp at d1
    refine ⟨by rw [e]; simpa using h, ?_⟩
    unfold Lib.trimPrefix; rw [e, itoa_pos (by omega)]; rfl

/-- Both parts of a ratio's text, read. -/
theorem parts_read {n d : Int} (hv : vldB n d = true) : fNum (decide (n < 0)) (Lib.decDigits n.natAbs) (Lib.decDigits d.natAbs) = n ∧ fDen (decide (n < 0)) (Lib.decDigits n.natAbs) (Lib.decDigits d.natAbs) = d ∧ fErr (decide (n < 0)) (Lib.decDigits n.natAbs) (Lib.decDigits d.natAbs) = 0 := by
  obtain ⟨b1, b2, b3, b4⟩ := vld_bd hv
  obtain ⟨x1, x2⟩ := dec_val n.natAbs (by omega)
  obtain ⟨y1, y2⟩ := dec_val d.natAbs (by omega)
  obtain ⟨s1, s2, s3⟩ := mk_self hv
  have hf : fForm (decide (n < 0)) (Lib.decDigits n.natAbs) (Lib.decDigits d.natAbs) = true := by
    unfold fForm
    rw [dec_isDec, dec_isDec, dec_ne d.natAbs (by omega)]
    by_cases h : n < 0
    · rw [dec_ne n.natAbs (by omega)]; simp
    · simp [h]
  have ha : fA (decide (n < 0)) (Lib.decDigits n.natAbs) = n := by
    unfold fA; rw [x2]
    by_cases h : n < 0 <;> simp [h] <;> omega
  have hd : ((d.natAbs : Nat) : Int) = d := by omega
  unfold fNum fDen fErr
  rw [hf, x1, y1, ha, y2, hd]
  simp [s1, s2, s3]
theorem text_read {n d : Int} (hv : vldB n d = true) : rdNum (txt n d) = n ∧ rdDen (txt n d) = d ∧ rdErr (txt n d) = 0 := by
  obtain ⟨b1, b2, b3, b4⟩ := vld_bd hv
  obtain ⟨c1, c2⟩ := itoa_cut n
  have hp := parts_read hv
  unfold txt
  rw [hv]
  by_cases h1 : d = 1
  · rw [if_pos rfl, if_pos h1]
    have hcut : Lib.cut (Lib.itoa n) [47] = (Lib.itoa n, [], false) := by
      rw [cut_slash, if_neg]; rw [slash_all (itoa_no n)]; omega
    have e1 : rdNeg (Lib.itoa n) = decide (n < 0) := by unfold rdNeg rdTop; rw [hcut]; exact c1
    have e2 : rdDig (Lib.itoa n) = Lib.decDigits n.natAbs := by unfold rdDig rdTop; rw [hcut]; exact c2
    have e3 : rdBot (Lib.itoa n) = Lib.decDigits d.natAbs := by unfold rdBot; rw [hcut, h1]; simp [Lib.decDigits]
    unfold rdNum rdDen rdErr
    rw [e1, e2, e3]; exact hp
  · rw [if_pos rfl, if_neg h1]
    have hs := slash_app (itoa_no n) (Lib.itoa d)
    have hcut : Lib.cut (Lib.itoa n ++ 47 :: Lib.itoa d) [47] = (Lib.itoa n, Lib.itoa d, true) := by
      rw [cut_slash, hs, if_pos (by simp)]
      simp
    have e1 : rdNeg (Lib.itoa n ++ 47 :: Lib.itoa d) = decide (n < 0) := by unfold rdNeg rdTop; rw [hcut]; exact c1
    have e2 : rdDig (Lib.itoa n ++ 47 :: Lib.itoa d) = Lib.decDigits n.natAbs := by unfold rdDig rdTop; rw [hcut]; exact c2
    have e3 : rdBot (Lib.itoa n ++ 47 :: Lib.itoa d) = Lib.decDigits d.natAbs := by unfold rdBot; rw [hcut]; exact itoa_pos (by omega)
    unfold rdNum rdDen rdErr
    rw [e1, e2, e3]; exact hp
theorem txt_len (n d : Int) (hn : -9223372036854775808 ≤ n ∧ n ≤ 9223372036854775807) (hd : -9223372036854775808 ≤ d ∧ d ≤ 9223372036854775807) : (txt n d).length ≤ 50 := by
  have h1 := Lib.itoa_length_le n hn.1 hn.2
  have h2 := Lib.itoa_length_le d hd.1 hd.2
  unfold txt
  split
  · split
    · omega
    · simp; omega
  · simp
end Go.Proofs.YtnbkphklidjmhaaDoor
