/- Contracts of package poly: times, plus, lowest, opposite. -/
import Derived.Test.YtbhaoaobhgilkaaGreatVi1

namespace Go.Proofs.YtbhaoaobhgilkaaGreat
open Go.RowKit

/-- The first t elements are changed. -/
def mapN (f : Int → Int) (t : Nat) (l : List Int) : List Int := (l.take t).map f ++ l.drop t

theorem mapN_all (f : Int → Int) (l : List Int) {t : Nat} (h : l.length ≤ t) : mapN f t l = l.map f := by simp [mapN, List.take_of_length_le h, List.drop_of_length_le h]

theorem mapN_get (f : Int → Int) {t : Nat} {l : List Int} (h : t < l.length) : gA (mapN f t l) t = gA l t := by
  simp [mapN, gA, List.getElem?_append, Nat.min_eq_left (Nat.le_of_lt h)]

theorem mapN_step (f : Int → Int) {t : Nat} {l : List Int} (h : t < l.length) : (mapN f t l).set t (f (gA l t)) = mapN f (t + 1) l := by
  apply List.ext_getElem?
  intro i
  simp only [mapN, gA]
  rw [List.getElem?_set]
  by_cases e : t = i
  · subst e
    simp [h, List.getElem?_append, List.getD_eq_getElem?_getD, show t < min t l.length + (l.length - t) by omega, show t < min (t + 1) l.length by omega]
  · by_cases hi : i < t
    · simp [e, List.getElem?_append, hi, Nat.min_eq_left (Nat.le_of_lt h), show i < min (t + 1) l.length by omega]
    · simp [e, List.getElem?_append, hi, Nat.min_eq_left (Nat.le_of_lt h), Nat.min_eq_left (show t + 1 ≤ l.length by omega), show ¬ i < t + 1 by omega, show t + (i - t) = i by omega, show t + 1 + (i - (t + 1)) = i by omega]

def Ln.times (x : Ln) (c : Int) : Ln := ⟨x.a.map (· * c), x.b * c, x.s⟩

set_option maxRecDepth 20000 in
set_option maxHeartbeats 1000000 in
theorem times_any (x : Ln) (c : Int) (w : World) (hx : x.a.length = 6) (h1 : ∀ v ∈ x.a, I64 (v * c)) (h2 : I64 (x.b * c)) :
    Calls Tryz.prog 118 #[.agg x.cs, .int .i64 c] w (Made (.agg (x.times c).cs) w) := by
  have hz := ln_zero
  obtain ⟨w0, hw0⟩ : ∃ w0, w0 = (w.alloc (.cells x.cs 82)).alloc (.cells ln0.cs 82) := ⟨_, rfl⟩
  have K0 := Lib.hid (show Bk w0 w.heap.size x by rw [hw0]; exact (Bk.made w x hx).alloc _)
  have K1 := Lib.hid (show Bk w0 (w.heap.size + 1) ln0 by rw [hw0]; have := Bk.made (w.alloc (.cells x.cs 82)) ln0 rfl; simpa using this)
  have E0 := Lib.hid (show Below w.heap.size w w0 by rw [hw0]; exact past_two (Below.refl _ _))
  have H1 := Lib.hid (show ∀ t, t < 6 → wrap64 (gA x.a t * c) = gA x.a t * c from fun t ht => by
    have := h1 (gA x.a t) (by unfold gA; rw [List.getD_eq_getElem?_getD, List.getElem?_eq_getElem (by omega)]; exact List.getElem_mem _)
    unfold I64 at this; unfold wrap64; omega)
  have q2 : wrap64 (x.b * c) = x.b * c := by unfold I64 at h2; unfold wrap64; omega
  have HL := Lib.hid hx
  clear h1 h2 hx
  go_enter Tryz.func118, Tryz.ntmps118
  go_wp2_with fail
  rw [← hw0]
  clear hw0
  go_loopw [6] (fun s wr => ∃ t : Nat, s = .int .i64 t ∧ t ≤ 6 ∧ Hid (Bk wr w.heap.size ⟨mapN (· * c) t x.a, x.b, x.s⟩) ∧ Hid (Bk wr (w.heap.size + 1) ln0) ∧ Hid (Below w.heap.size w wr)) (fun s _ => 6 - (intOf s).toNat)
  case atStart => exact ⟨0, rfl, by omega, Lib.hid (by have := K0.out; simpa [mapN] using this), K1, E0⟩
  case round =>
    obtain ⟨t, rfl, ht, HB, HR, HW⟩ := hrel
    by_cases h6 : t < 6
    · have c0 : wr.cell? ⟨w.heap.size, t, none⟩ = some (.int .i64 (gA x.a t)) := by have := HB.out.at h6; rwa [mapN_get _ (by rw [HL.out]; exact h6)] at this
      have f0 := HB.out.free t
      have q1 := H1.out t h6
      have HB' := Lib.hid (HB.out.put h6 (gA x.a t * c))
      go_wp2_with fail
      go_roundw
      case rel =>
        refine ⟨t + 1, by go_num, by omega, Lib.hid ?_, Lib.hid (HR.out.aside (by omega) _), Lib.hid (HW.out.setCell (p := ⟨w.heap.size, t, none⟩) (Nat.le_refl _) _)⟩
        have := HB'.out
        rwa [mapN_step (· * c) (by rw [HL.out]; exact h6)] at this
      case measure => simp [intOf]; omega
    · have HB' := Lib.hid (show Bk wr w.heap.size ⟨x.a.map (· * c), x.b, x.s⟩ by have := HB.out; rwa [mapN_all _ _ (by rw [HL.out]; omega)] at this)
      have c6 := HB'.out.num
      have f6 := HB'.out.free 6
      have HC := Lib.hid (show Bk (wr.setCell ⟨w.heap.size, 6, none⟩ (.int .i64 (x.b * c))) w.heap.size (x.times c) from HB'.out.putb (x.b * c))
      have HD := Lib.hid (HR.out.aside (y := w.heap.size) (j := 6) (by omega) (.int .i64 (x.b * c)))
      have HE := Lib.hid (HW.out.setCell (p := ⟨w.heap.size, 6, none⟩) (Nat.le_refl _) (.int .i64 (x.b * c)))
      have HZ := Lib.hid HC.out.2
      clear HB HR HW
      go_wp2_with (first | refine wpl_load rfl _ rfl _ rfl _ HC.out ?_ | refine wpl_store rfl _ _ rfl _ _ rfl rfl _ HD.out HZ.out ?_)
      exact bodyPost_ret (results_ln Tryz.results118 _ rfl (HD.out.setRow HZ.out)) rfl ⟨rfl, Below.setRow HE.out (by omega) _⟩

/-- Two lists, added up element by element: the first t elements. -/
def addN (t : Nat) (l m : List Int) : List Int := List.zipWith (· + ·) (l.take t) (m.take t) ++ l.drop t

theorem addN_get {t : Nat} {l m : List Int} (hl : m.length = l.length) (h : t < l.length) : gA (addN t l m) t = gA l t := by
  simp [addN, gA, List.getElem?_append, hl, Nat.min_eq_left (Nat.le_of_lt h)]

theorem addN_all (l m : List Int) (hl : m.length = l.length) {t : Nat} (h : l.length ≤ t) : addN t l m = List.zipWith (· + ·) l m := by
  simp [addN, List.take_of_length_le h, List.take_of_length_le (show m.length ≤ t by omega), List.drop_of_length_le h]

theorem addN_step {t : Nat} {l m : List Int} (hl : m.length = l.length) (h : t < l.length) : (addN t l m).set t (gA l t + gA m t) = addN (t + 1) l m := by
  apply List.ext_getElem?
  intro i
  rw [List.getElem?_set]
  by_cases e : t = i
  · subst e
    simp [addN, gA, h, hl, List.getElem?_append, show t < min t l.length + (l.length - t) by omega, show t < min (t + 1) l.length by omega]
  · by_cases hi : i < t
    · simp [addN, e, List.getElem?_append, hl, hi, Nat.min_eq_left (Nat.le_of_lt h), show i < min (t + 1) l.length by omega]
    · simp [addN, e, List.getElem?_append, hl, hi, Nat.min_eq_left (Nat.le_of_lt h), Nat.min_eq_left (show t + 1 ≤ l.length by omega), show ¬ i < t + 1 by omega, show t + (i - t) = i by omega, show t + 1 + (i - (t + 1)) = i by omega]

def Ln.plus (x y : Ln) : Ln := ⟨List.zipWith (· + ·) x.a y.a, x.b + y.b, x.s || y.s⟩

set_option maxRecDepth 20000 in
set_option maxHeartbeats 1000000 in
theorem plus_any (x y : Ln) (w : World) (hx : x.a.length = 6) (hy : y.a.length = 6) (h1 : ∀ t, t < 6 → I64 (gA x.a t + gA y.a t)) (h2 : I64 (x.b + y.b)) :
    Calls Tryz.prog 121 #[.agg x.cs, .agg y.cs] w (Made (.agg (x.plus y).cs) w) := by
  have hz := ln_zero
  obtain ⟨w0, hw0⟩ : ∃ w0, w0 = ((w.alloc (.cells x.cs 82)).alloc (.cells y.cs 82)).alloc (.cells ln0.cs 82) := ⟨_, rfl⟩
  have K0 := Lib.hid (show Bk w0 w.heap.size x by rw [hw0]; exact ((Bk.made w x hx).alloc _).alloc _)
  have K1 := Lib.hid (show Bk w0 (w.heap.size + 1) y by rw [hw0]; have := (Bk.made (w.alloc (.cells x.cs 82)) y hy).alloc (.cells ln0.cs 82); simpa using this)
  have K2 := Lib.hid (show Bk w0 (w.heap.size + 2) ln0 by rw [hw0]; have := Bk.made ((w.alloc (.cells x.cs 82)).alloc (.cells y.cs 82)) ln0 rfl; simpa using this)
  have E0 := Lib.hid (show Below w.heap.size w w0 by rw [hw0]; exact past_three (Below.refl _ _))
  have H1 := Lib.hid (show ∀ t, t < 6 → wrap64 (gA x.a t + gA y.a t) = gA x.a t + gA y.a t from fun t ht => by
    have := h1 t ht
    unfold I64 at this; unfold wrap64; omega)
  have q2 : wrap64 (x.b + y.b) = x.b + y.b := by unfold I64 at h2; unfold wrap64; omega
  have HL := Lib.hid hx
  have HM := Lib.hid hy
  clear h1 h2 hx hy
  go_enter Tryz.func121, Tryz.ntmps121
  go_wp2_with fail
  rw [← hw0]
  clear hw0
  go_loopw [6] (fun s wr => ∃ t : Nat, s = .int .i64 t ∧ t ≤ 6 ∧ Hid (Bk wr w.heap.size ⟨addN t x.a y.a, x.b, x.s⟩) ∧ Hid (Bk wr (w.heap.size + 1) y) ∧ Hid (Bk wr (w.heap.size + 2) ln0) ∧ Hid (Below w.heap.size w wr)) (fun s _ => 6 - (intOf s).toNat)
  case atStart => exact ⟨0, rfl, by omega, Lib.hid (by have := K0.out; simpa [addN] using this), K1, K2, E0⟩
  case round =>
    obtain ⟨t, rfl, ht, HB, HY, HR, HW⟩ := hrel
    by_cases h6 : t < 6
    · have c0 : wr.cell? ⟨w.heap.size, t, none⟩ = some (.int .i64 (gA x.a t)) := by have := HB.out.at h6; rwa [addN_get (by rw [HL.out, HM.out]) (by rw [HL.out]; exact h6)] at this
      have c1 := HY.out.at h6
      have f0 := HB.out.free t
      have q1 := H1.out t h6
      have HB' := Lib.hid (show Bk _ _ _ from HB.out.put h6 (gA x.a t + gA y.a t))
      go_wp2_with fail
      go_region
      all_goals
        go_wp2_with fail
        go_roundw
        case rel =>
          refine ⟨t + 1, by go_num, by omega, Lib.hid ?_, Lib.hid ?_, Lib.hid ?_, Lib.hid ?_⟩
          · have := (HB'.out)
            rw [addN_step (by rw [HL.out, HM.out]) (by rw [HL.out]; exact h6)] at this
            exact this.of_block rfl
          · exact (HY.out.aside (y := w.heap.size) (j := t) (by omega) _).of_block rfl
          · exact (HR.out.aside (y := w.heap.size) (j := t) (by omega) _).of_block rfl
          · exact below_drewN (HW.out.setCell (p := ⟨w.heap.size, t, none⟩) (Nat.le_refl _) _) 1
        case measure => simp [intOf]; omega
    · have HB' := Lib.hid (show Bk wr w.heap.size ⟨List.zipWith (· + ·) x.a y.a, x.b, x.s⟩ by have := HB.out; rwa [addN_all _ _ (by rw [HL.out, HM.out]) (by rw [HL.out]; omega)] at this)
      have c6 := HB'.out.num
      have f6 := HB'.out.free 6
      have d6 := HY.out.num
      have B1 := Lib.hid (HB'.out.putb (x.b + y.b))
      have Y1 := Lib.hid (HY.out.aside (y := w.heap.size) (j := 6) (by omega) (.int .i64 (x.b + y.b)))
      have R1 := Lib.hid (HR.out.aside (y := w.heap.size) (j := 6) (by omega) (.int .i64 (x.b + y.b)))
      have W1 := Lib.hid (HW.out.setCell (p := ⟨w.heap.size, 6, none⟩) (Nat.le_refl _) (.int .i64 (x.b + y.b)))
      have g7 := B1.out.free 7
      have c7 := B1.out.str
      have d7 := Y1.out.str
      have C2 := Lib.hid (show Bk _ w.heap.size (x.plus y) from B1.out.puts (x.s || y.s))
      have R2 := Lib.hid (R1.out.aside (y := w.heap.size) (j := 7) (by omega) (.bool (x.s || y.s)))
      have W2 := Lib.hid (W1.out.setCell (p := ⟨w.heap.size, 7, none⟩) (Nat.le_refl _) (.bool (x.s || y.s)))
      have HZ := Lib.hid C2.out.2
      clear HB HR HW HY HB' B1 Y1 R1 W1
      cases hs : x.s
      · rw [hs] at c7 C2 R2 W2
        simp only [Bool.false_or] at C2 R2 W2
        go_wp2_with (first | refine wpl_load rfl _ rfl _ rfl _ C2.out ?_ | refine wpl_store rfl _ _ rfl _ _ rfl rfl _ R2.out HZ.out ?_)
        exact bodyPost_ret (results_ln Tryz.results121 _ rfl (R2.out.setRow HZ.out)) rfl ⟨rfl, Below.setRow W2.out (by omega) _⟩
      · rw [hs] at c7 C2 R2 W2
        simp only [Bool.true_or] at C2 R2 W2
        go_wp2_with (first | refine wpl_load rfl _ rfl _ rfl _ C2.out ?_ | refine wpl_store rfl _ _ rfl _ _ rfl rfl _ R2.out HZ.out ?_)
        exact bodyPost_ret (results_ln Tryz.results121 _ rfl (R2.out.setRow HZ.out)) rfl ⟨rfl, Below.setRow W2.out (by omega) _⟩
end Go.Proofs.YtbhaoaobhgilkaaGreat
