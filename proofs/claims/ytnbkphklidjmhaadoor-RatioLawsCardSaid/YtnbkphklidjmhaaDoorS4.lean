/- Plain mathematics of texts: how the reference cuts and reads a text is how the program does. -/
import Derived.Test.YtnbkphklidjmhaaDoorS3
namespace Go.Proofs.YtnbkphklidjmhaaDoor

/-- The place of the first slash, or the length. -/
def slash : List UInt8 → Nat
  | [] => 0
  | c :: r => if c = 47 then 0 else slash r + 1
theorem slash_le (l : List UInt8) : slash l ≤ l.length := by
  induction l with
  | nil => exact Nat.le_refl _
  | cons c r ih => unfold slash; split <;> simp; omega
theorem index_slash (l : List UInt8) : Lib.index l [47] = if slash l < l.length then (slash l : Int) else -1 := by
  induction l with
  | nil => rfl
  | cons c r ih =>
    unfold Lib.index slash
    by_cases h : c = 47
    · subst h; simp [List.isPrefixOf]
    · have hp : ([47] : List UInt8).isPrefixOf (c :: r) = false := by
        simp only [List.isPrefixOf, Bool.and_true]; simpa using fun e : 47 = c => h e.symm
      rw [hp, if_neg (by simp), if_neg h, ih]
      by_cases k : slash r < r.length
      · have k2 : slash r + 1 < (c :: r).length := by simp; omega
        rw [if_pos k, if_pos k2, if_neg (show ¬ (((slash r : Int) == -1) = true) by simp)]; simp
      · have k2 : ¬ slash r + 1 < (c :: r).length := by simp; omega
        rw [if_neg k, if_neg k2, if_pos (show (((-1 : Int) == -1) = true) from rfl)]
theorem cut_slash (l : List UInt8) : Lib.cut l [47] = if slash l < l.length then (l.take (slash l), l.drop (slash l + 1), true) else (l, [], false) := by
  unfold Lib.cut
  rw [index_slash]
  by_cases k : slash l < l.length
  · rw [if_pos k, if_pos k, if_pos (by omega)]; simp
  · rw [if_neg k, if_neg k, if_neg (by omega)]

theorem isDec_cons {c : UInt8} {r : List UInt8} (h : isDec (c :: r) = true) : allDig (c :: r) = true ∧ (c = 48 → r = []) := by
  refine ⟨isDec_all h, fun hc => ?_⟩
  unfold isDec at h
  subst hc
  simp at h
  cases r with
  | nil => rfl
  | cons => simp at h
theorem isDec_ne {D : List UInt8} (h : isDec D = true) : D ≠ [] := by intro e; subst e; simp [isDec] at h

/-- The lower number: as a text of a number from 1 on. -/
theorem bottom_is (B : List UInt8) : (isDec B && !(B == [48])) = (nmB (Lib.hasPrefix B [45]) (Lib.trimPrefix B [45]) && decide (1 ≤ nmI (Lib.hasPrefix B [45]) (Lib.trimPrefix B [45]))) := by
  cases hp : Lib.hasPrefix B [45]
  · have ht : Lib.trimPrefix B [45] = B := by unfold Lib.trimPrefix; rw [hp]; rfl
    rw [ht]
    have hb : nmB false B = isDec B := by simp [nmB]
    rw [hb]
    cases hd : isDec B
    · simp
    · have hi : nmI false B = (numF B).1 := by unfold nmI; rw [hb, hd]; rfl
      rw [hi]
      match B, hd with
      | [], hd => exact absurd rfl (isDec_ne hd)
      | c :: r, hd =>
        obtain ⟨ha, h48⟩ := isDec_cons hd
        by_cases hc : c = 48
        · have hr := h48 hc
          subst hc; subst hr
          decide +kernel
        · have := numF_pos c r ha hc
          have hne : ((c :: r) == [48]) = false := by simp; intro e; exact absurd e hc
          rw [hne]; simp; exact this
  · have hne : isDec B = false := by
      cases B with
      | nil => rfl
      | cons c r =>
        unfold Lib.hasPrefix at hp
        simp only [List.isPrefixOf, Bool.and_true] at hp
        have : c = 45 := by simpa using (beq_iff_eq.1 hp).symm
        subst this
        simp [isDec, allDig, isDig]
    rw [hne]
    have : ¬ 1 ≤ nmI true (Lib.trimPrefix B [45]) := by
      unfold nmI
      split
      · rename_i h
        have hd : isDec (Lib.trimPrefix B [45]) = true := by unfold nmB at h; simp at h; exact h.1
        have := numF_val _ (isDec_all hd)
        simp; omega
      · omega
    simp [this]

theorem nm_val {G : Bool} {D : List UInt8} (h : nmB G D = true) : allDig D = true ∧ nmG G D = !valB D ∧ (valB D = true → nmI G D = fA G D) := by
  have hd : isDec D = true := by unfold nmB at h; simp at h; exact h.1
  obtain ⟨h1, h2, _, _⟩ := numF_val D (isDec_all hd)
  refine ⟨isDec_all hd, by unfold nmG; rw [h, h1]; simp, fun hv => ?_⟩
  unfold nmI fA valI
  rw [h, h2 hv, hv]; simp

/-- How the reference reads: by the numbers of both parts. -/
theorem ref_form {G H : Bool} {D B E : List UInt8} (hH : H = Lib.hasPrefix B [45]) (hE : E = Lib.trimPrefix B [45]) : fForm G D B = (nmB G D && (nmB H E && decide (1 ≤ nmI H E))) := by
  rw [hH, hE, ← bottom_is B]
  unfold fForm nmB
  cases isDec D <;> cases isDec B <;> cases (B == [48]) <;> cases (G && (D == [48])) <;> rfl
theorem bot_val {H : Bool} {B E : List UInt8} (hH : H = Lib.hasPrefix B [45]) (hE : E = Lib.trimPrefix B [45]) (h1 : nmB H E = true) (h2 : 1 ≤ nmI H E) : H = false ∧ E = B := by
  have hb := bottom_is B
  rw [← hH, ← hE, h1, show decide (1 ≤ nmI H E) = true by simpa using h2] at hb
  simp at hb
  cases hp : Lib.hasPrefix B [45]
  · exact ⟨by rw [hH, hp], by rw [hE]; unfold Lib.trimPrefix; rw [hp]; rfl⟩
  · exfalso
    have ha := isDec_all hb.1
    cases B with
    | nil => exact absurd rfl (isDec_ne hb.1)
    | cons c r =>
      unfold Lib.hasPrefix at hp
      simp only [List.isPrefixOf, Bool.and_true] at hp
      have : c = 45 := by simpa using (beq_iff_eq.1 hp).symm
      subst this
      simp [allDig, isDig] at ha
theorem ref_six {G H : Bool} {D B E : List UInt8} (hH : H = Lib.hasPrefix B [45]) (hE : E = Lib.trimPrefix B [45]) (h : ¬ (nmB G D = true ∧ nmB H E = true ∧ 1 ≤ nmI H E)) : fNum G D B = 0 ∧ fDen G D B = 0 ∧ fErr G D B = 6 := by
  have hf : fForm G D B = false := by
    rw [ref_form hH hE]
    cases hx : (nmB G D && (nmB H E && decide (1 ≤ nmI H E)))
    · rfl
    · simp at hx; exact absurd hx h
  simp [fNum, fDen, fErr, hf]
theorem ref_seven {G H : Bool} {D B E : List UInt8} (hH : H = Lib.hasPrefix B [45]) (hE : E = Lib.trimPrefix B [45]) (h1 : nmB G D = true) (h2 : nmB H E = true) (h3 : 1 ≤ nmI H E) (h : (nmG G D || nmG H E) = true) : fNum G D B = 0 ∧ fDen G D B = 0 ∧ fErr G D B = 7 := by
  have hf : fForm G D B = true := by rw [ref_form hH hE, h1, h2]; simpa using h3
  obtain ⟨e1, e2⟩ := bot_val hH hE h2 h3
  obtain ⟨_, g1, _⟩ := nm_val h1
  obtain ⟨_, g2, _⟩ := nm_val h2
  have hv : (valB D && valB B) = false := by
    rw [g1, g2, e2] at h
    revert h
    generalize valB D = p
    generalize valB B = q
    cases p <;> cases q <;> decide
  simp [fNum, fDen, fErr, hf, hv]
theorem ref_ok {G H : Bool} {D B E : List UInt8} (hH : H = Lib.hasPrefix B [45]) (hE : E = Lib.trimPrefix B [45]) (h1 : nmB G D = true) (h2 : nmB H E = true) (h3 : 1 ≤ nmI H E) (h : (nmG G D || nmG H E) = false) :
    fNum G D B = mkNum (nmI G D) (nmI H E) ∧ fDen G D B = mkDen (nmI G D) (nmI H E) ∧ fErr G D B = mkErr (nmI G D) (nmI H E) := by
  have hf : fForm G D B = true := by rw [ref_form hH hE, h1, h2]; simpa using h3
  obtain ⟨e1, e2⟩ := bot_val hH hE h2 h3
  obtain ⟨_, g1, i1⟩ := nm_val h1
  obtain ⟨_, g2, i2⟩ := nm_val h2
  have hv12 : valB D = true ∧ valB B = true := by
    rw [g1, g2, e2] at h
    revert h
    generalize valB D = p
    generalize valB B = q
    cases p <;> cases q <;> decide
  obtain ⟨hv1, hv2⟩ := hv12
  have j1 := i1 hv1
  have j2 : nmI H E = valI B := by rw [i2 (by rw [e2]; exact hv2), e1, e2]; rfl
  simp [fNum, fDen, fErr, hf, hv1, hv2, j1, j2]
end Go.Proofs.YtnbkphklidjmhaaDoor
