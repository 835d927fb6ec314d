/- Contracts of Middle, of package ratio and of the reference. -/
import Derived.Test.YtnbkphklidjmhaaDoorF
namespace Go.Proofs.YtnbkphklidjmhaaDoor
open Go.RowKit

def midB (n d m c : Int) : Bool := vldB n d && vldB m c && decide (n * c < m * d)
def midX (n d m c : Int) : Int := (smp (d + c).toNat n d m c).1
def midY (n d m c : Int) : Int := (smp (d + c).toNat n d m c).2

theorem mid_args {n d m c : Int} (h : midB n d m c = true) : Args n d m c ∧ d + c ≤ ((d + c).toNat : Int) := by
  unfold midB at h
  simp at h
  obtain ⟨⟨h1, h2⟩, h3⟩ := h
  obtain ⟨x1, x2, x3, x4⟩ := vld_bd h1
  obtain ⟨y1, y2, y3, y4⟩ := vld_bd h2
  exact ⟨⟨x3, x4, y3, y4, x2, y2, x1, by omega, h3⟩, by omega⟩

theorem cmp_as {n d m c k e : Int} (w : World) (hn : I64 n) (hd : I64 d) (hm : I64 m) (hc : I64 c) (h1 : (if (vldB n d && vldB m c) then sgn (n * c) (m * d) else 0) = k) (h2 : (if (vldB n d && vldB m c) then (0 : Int) else 2) = e) :
    Calls Tryd.prog 30 #[.agg #[.int .i64 n, .int .i64 d], .agg #[.int .i64 m, .int .i64 c]] w (Made (.tuple #[.int .i64 k, .int .i64 e]) w) := by
  have h := cmp_any n d m c w hn hd hm hc
  rw [h1, h2] at h
  exact h

set_option maxHeartbeats 400000 in
theorem middle_any (n d m c : Int) (w : World) (hn : I64 n) (hd : I64 d) (hm : I64 m) (hc : I64 c) :
    Calls Tryd.prog 32 #[.agg #[.int .i64 n, .int .i64 d], .agg #[.int .i64 m, .int .i64 c]] w
      (Made (.tuple #[.agg #[.int .i64 (opNum (midB n d m c) (midX n d m c) (midY n d m c)), .int .i64 (opDen (midB n d m c) (midX n d m c) (midY n d m c))], .int .i64 (opErr (midB n d m c) (midX n d m c) (midY n d m c))]) w) := by
  cases hM : midB n d m c
  · have HV := Lib.hid (show ∀ x y : Int, opNum false x y = 0 ∧ opDen false x y = 0 ∧ opErr false x y = 2 by simp [opNum, opDen, opErr])
    cases hV : (vldB n d && vldB m c)
    · have H1 := Lib.hid (show (if (vldB n d && vldB m c) then sgn (n * c) (m * d) else 0) = 0 by simp [hV])
      have H2 := Lib.hid (show (if (vldB n d && vldB m c) then (0 : Int) else 2) = 2 by simp [hV])
      clear hV hM
      go_enter Tryd.func32, Tryd.ntmps32
      go_wp2_with fail
      refine (cmp_as _ hn hd hm hc H1.out H2.out).mono ?_
      rintro e w1 ⟨rfl, hb⟩
      obtain ⟨hx, hf⟩ := bcell hb
      go_wp2_with fail
      refine bodyPost_ret (v := .tuple #[.agg #[.int .i64 0, .int .i64 0], .int .i64 2]) (by simp [results, Tryd.results32, go_sem, hx]) rfl ⟨by rw [(HV.out _ _).1, (HV.out _ _).2.1, (HV.out _ _).2.2], ?_⟩
      exact ((past_three hb).setCell (by simp; omega) _).setCell (by simp; omega) _
    · have h3 : ¬ n * c < m * d := by unfold midB at hM; rw [hV] at hM; simpa using hM
      have H1 : 0 ≤ (if (vldB n d && vldB m c) then sgn (n * c) (m * d) else 0) := by rw [hV]; unfold sgn; simp; split <;> omega
      obtain ⟨k, hk⟩ : ∃ k : Int, (if (vldB n d && vldB m c) then sgn (n * c) (m * d) else 0) = k := ⟨_, rfl⟩
      rw [hk] at H1
      have HK := Lib.hid hk
      have H2 := Lib.hid (show (if (vldB n d && vldB m c) then (0 : Int) else 2) = 0 by simp [hV])
      clear hk hV hM h3
      go_enter Tryd.func32, Tryd.ntmps32
      go_wp2_with fail
      refine (cmp_as _ hn hd hm hc HK.out H2.out).mono ?_
      rintro e w1 ⟨rfl, hb⟩
      obtain ⟨hx, hf⟩ := bcell hb
      go_wp2_with fail
      refine bodyPost_ret (v := .tuple #[.agg #[.int .i64 0, .int .i64 0], .int .i64 2]) (by simp [results, Tryd.results32, go_sem, hx]) rfl ⟨by rw [(HV.out _ _).1, (HV.out _ _).2.1, (HV.out _ _).2.2], ?_⟩
      exact ((past_three hb).setCell (by simp; omega) _).setCell (by simp; omega) _
  · obtain ⟨hA, hK⟩ := mid_args hM
    have hR := smp_rng _ hA hK
    obtain ⟨⟨g1, g2⟩, g3, g4⟩ := hR
    have HV := Lib.hid (show ∀ x y : Int, opNum true x y = mkNum x y ∧ opDen true x y = mkDen x y ∧ opErr true x y = mkErr x y by simp [opNum, opDen, opErr])
    have hV : (vldB n d && vldB m c) = true := by unfold midB at hM; simp at hM; simp [hM]
    have h3 : n * c < m * d := by unfold midB at hM; simp at hM; exact hM.2
    have H1 := Lib.hid (show (if (vldB n d && vldB m c) then sgn (n * c) (m * d) else 0) = -1 by rw [hV]; simp [sgn, h3])
    have H2 := Lib.hid (show (if (vldB n d && vldB m c) then (0 : Int) else 2) = 0 by simp [hV])
    clear hV hM h3
    unfold midX midY
    go_enter Tryd.func32, Tryd.ntmps32
    go_wp2_with fail
    refine (cmp_as _ hn hd hm hc H1.out H2.out).mono ?_
    rintro e w1 ⟨rfl, hb⟩
    obtain ⟨hx, hf⟩ := bcell hb
    go_wp2_with fail
    refine (simplest_any _ _ _ _ _ _ hA hK).mono ?_
    rintro e w2 ⟨rfl, rfl⟩
    generalize (smp (d + c).toNat n d m c).1 = X at *
    generalize (smp (d + c).toNat n d m c).2 = Y at *
    go_wp2_with fail
    refine (make_any _ _ _ (by omega) (by omega) (by omega) (by omega)).mono ?_
    rintro e w3 ⟨rfl, hb3⟩
    replace hb3 := below_on hb hb3
    clear hb hx hf
    obtain ⟨hx, hf⟩ := bcell hb3
    go_wp2_with fail
    refine bodyPost_ret (v := .tuple #[.agg #[.int .i64 (mkNum X Y), .int .i64 (mkDen X Y)], .int .i64 (mkErr X Y)]) (by simp [results, Tryd.results32, go_sem, hx]) rfl ⟨by rw [(HV.out _ _).1, (HV.out _ _).2.1, (HV.out _ _).2.2], ?_⟩
    exact ((past_three hb3).setCell (by simp; omega) _).setCell (by simp; omega) _

theorem refCmp_as {n d m c k e : Int} (w : World) (hn : I64 n) (hd : I64 d) (hm : I64 m) (hc : I64 c) (h1 : (if (vldB n d && vldB m c) then sgn (n * c) (m * d) else 0) = k) (h2 : (if (vldB n d && vldB m c) then (0 : Int) else 2) = e) :
    Calls Tryd.prog 31 #[.agg #[.int .i64 n, .int .i64 d], .agg #[.int .i64 m, .int .i64 c]] w (Made (.tuple #[.int .i64 k, .int .i64 e]) w) := by
  have h := refCmp_any n d m c w hn hd hm hc
  rw [h1, h2] at h
  exact h

set_option maxHeartbeats 400000 in
theorem refMiddle_any (n d m c : Int) (w : World) (hn : I64 n) (hd : I64 d) (hm : I64 m) (hc : I64 c) :
    Calls Tryd.prog 33 #[.agg #[.int .i64 n, .int .i64 d], .agg #[.int .i64 m, .int .i64 c]] w
      (Made (.tuple #[.agg #[.int .i64 (opNum (midB n d m c) (midX n d m c) (midY n d m c)), .int .i64 (opDen (midB n d m c) (midX n d m c) (midY n d m c))], .int .i64 (opErr (midB n d m c) (midX n d m c) (midY n d m c))]) w) := by
  cases hM : midB n d m c
  · have HV := Lib.hid (show ∀ x y : Int, opNum false x y = 0 ∧ opDen false x y = 0 ∧ opErr false x y = 2 by simp [opNum, opDen, opErr])
    cases hV : (vldB n d && vldB m c)
    · have H1 := Lib.hid (show (if (vldB n d && vldB m c) then sgn (n * c) (m * d) else 0) = 0 by simp [hV])
      have H2 := Lib.hid (show (if (vldB n d && vldB m c) then (0 : Int) else 2) = 2 by simp [hV])
      clear hV hM
      go_enter Tryd.func33, Tryd.ntmps33
      go_wp2_with fail
      refine (refCmp_as _ hn hd hm hc H1.out H2.out).mono ?_
      rintro e w1 ⟨rfl, hb⟩
      obtain ⟨hx, hf⟩ := bcell hb
      go_wp2_with fail
      refine bodyPost_ret (v := .tuple #[.agg #[.int .i64 0, .int .i64 0], .int .i64 2]) (by simp [results, Tryd.results33, go_sem, hx]) rfl ⟨by rw [(HV.out _ _).1, (HV.out _ _).2.1, (HV.out _ _).2.2], ?_⟩
      exact ((past_three hb).setCell (by simp; omega) _).setCell (by simp; omega) _
    · have h3 : ¬ n * c < m * d := by unfold midB at hM; rw [hV] at hM; simpa using hM
      have H1 : 0 ≤ (if (vldB n d && vldB m c) then sgn (n * c) (m * d) else 0) := by rw [hV]; unfold sgn; simp; split <;> omega
      obtain ⟨k, hk⟩ : ∃ k : Int, (if (vldB n d && vldB m c) then sgn (n * c) (m * d) else 0) = k := ⟨_, rfl⟩
      rw [hk] at H1
      have HK := Lib.hid hk
      have H2 := Lib.hid (show (if (vldB n d && vldB m c) then (0 : Int) else 2) = 0 by simp [hV])
      clear hk hV hM h3
      go_enter Tryd.func33, Tryd.ntmps33
      go_wp2_with fail
      refine (refCmp_as _ hn hd hm hc HK.out H2.out).mono ?_
      rintro e w1 ⟨rfl, hb⟩
      obtain ⟨hx, hf⟩ := bcell hb
      go_wp2_with fail
      refine bodyPost_ret (v := .tuple #[.agg #[.int .i64 0, .int .i64 0], .int .i64 2]) (by simp [results, Tryd.results33, go_sem, hx]) rfl ⟨by rw [(HV.out _ _).1, (HV.out _ _).2.1, (HV.out _ _).2.2], ?_⟩
      exact ((past_three hb).setCell (by simp; omega) _).setCell (by simp; omega) _
  · obtain ⟨hA, hK⟩ := mid_args hM
    have hR := smp_rng _ hA hK
    obtain ⟨⟨g1, g2⟩, g3, g4⟩ := hR
    have HV := Lib.hid (show ∀ x y : Int, opNum true x y = mkNum x y ∧ opDen true x y = mkDen x y ∧ opErr true x y = mkErr x y by simp [opNum, opDen, opErr])
    have hV : (vldB n d && vldB m c) = true := by unfold midB at hM; simp at hM; simp [hM]
    have h3 : n * c < m * d := by unfold midB at hM; simp at hM; exact hM.2
    have H1 := Lib.hid (show (if (vldB n d && vldB m c) then sgn (n * c) (m * d) else 0) = -1 by rw [hV]; simp [sgn, h3])
    have H2 := Lib.hid (show (if (vldB n d && vldB m c) then (0 : Int) else 2) = 0 by simp [hV])
    clear hV hM h3
    unfold midX midY
    go_enter Tryd.func33, Tryd.ntmps33
    go_wp2_with fail
    refine (refCmp_as _ hn hd hm hc H1.out H2.out).mono ?_
    rintro e w1 ⟨rfl, hb⟩
    obtain ⟨hx, hf⟩ := bcell hb
    go_wp2_with fail
    refine (refSimplest_any _ _ _ _ _ _ hA hK).mono ?_
    rintro e w2 ⟨rfl, rfl⟩
    generalize (smp (d + c).toNat n d m c).1 = X at *
    generalize (smp (d + c).toNat n d m c).2 = Y at *
    go_wp2_with fail
    refine (refMake_any _ _ _ (by omega) (by omega) (by omega) (by omega)).mono ?_
    rintro e w3 ⟨rfl, hb3⟩
    replace hb3 := below_on hb hb3
    clear hb hx hf
    obtain ⟨hx, hf⟩ := bcell hb3
    go_wp2_with fail
    refine bodyPost_ret (v := .tuple #[.agg #[.int .i64 (mkNum X Y), .int .i64 (mkDen X Y)], .int .i64 (mkErr X Y)]) (by simp [results, Tryd.results33, go_sem, hx]) rfl ⟨by rw [(HV.out _ _).1, (HV.out _ _).2.1, (HV.out _ _).2.2], ?_⟩
    exact ((past_three hb3).setCell (by simp; omega) _).setCell (by simp; omega) _

end Go.Proofs.YtnbkphklidjmhaaDoor
