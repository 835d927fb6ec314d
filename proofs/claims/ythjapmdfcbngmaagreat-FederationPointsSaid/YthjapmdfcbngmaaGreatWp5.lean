/- A part. -/
import Derived.Test.YthjapmdfcbngmaaGreatWp3
import Derived.Test.YthjapmdfcbngmaaGreatWp4
import Derived.Deep.DeepCutAuto

namespace Go.Proofs.YthjapmdfcbngmaaGreat
open Go.RowKit

def St (w0 : World) (g cap : Nat) (l : List Int) (w : World) : Prop := Own w g cap l ∧ w0.grownBy w (some g)

theorem St.drew {w0 w : World} {g cap : Nat} {l : List Int} (h : St w0 g cap l w) : St w0 g cap l w.drew :=
  ⟨h.1.kept (row := none) ⟨rfl, rfl, rfl, Nat.le_refl _, fun _ _ _ => rfl⟩ (by simp), grown_trans h.2 ⟨rfl, rfl, rfl, Nat.le_refl _, fun _ _ _ => rfl⟩⟩

theorem St.cell {w0 w : World} {g cap : Nat} {l : List Int} (h : St w0 g cap l w) {p : Addr} {v : Value} (hc : w0.cell? p = some v) (hne : p.block ≠ g) : w.cell? p = some v := h.2.cell hc (by simpa using hne)

theorem St.frozen {w0 w : World} {g cap : Nat} {l : List Int} (h : St w0 g cap l w) {p : Addr} (hl : p.block < w0.heap.size) (hne : p.block ≠ g) : w.frozen? p = w0.frozen? p := World.frozen?_of_block (h.2.block _ hl (by simpa using hne))

theorem at_st {w0 : World} {g cap n i j : Nat} {l : List Int} {w : World} (hn : n ≤ 10) (hi : i ≤ n) (hj : j ≤ n) (hl : l.length = (n + 1) * (n + 1)) (h : St w0 g cap l w) :
    Calls Tryz.prog 85 #[.agg #[.int .i64 n, .slice (some ⟨g, 0, none⟩) l.length cap], .int .i64 i, .int .i64 j] w
      (fun e w' => e = .returned (.int .i64 (Zo.At n l i j)) ∧ St w0 g cap l w') := by
  refine (at_any n i j l ⟨g, 0, none⟩ cap w hn hi hj hl h.1.rd).mono ?_
  rintro e w' ⟨rfl, hb⟩
  have hg : w.grownBy w' none := ⟨hb.os, hb.tape, hb.output, hb.size, fun k hk _ => hb.block k hk⟩
  exact ⟨rfl, h.1.kept hg (by simp), grown_trans h.2 ⟨hg.os, hg.tape, hg.output, hg.size, fun k hk _ => hg.block k hk (by simp)⟩⟩

theorem set_st {w0 : World} {g cap n i j : Nat} {l : List Int} {w : World} (x : Int) (hn : n ≤ 10) (hi : i ≤ n) (hj : j ≤ n) (hl : l.length = (n + 1) * (n + 1)) (h : St w0 g cap l w) :
    Calls Tryz.prog 111 #[.agg #[.int .i64 n, .slice (some ⟨g, 0, none⟩) l.length cap], .int .i64 i, .int .i64 j, .int .i64 x] w
      (fun e w' => e = .returned (.tuple #[]) ∧ St w0 g cap (l.set (Zo.ix n i j) x) w') := by
  refine (set_any n i j x l g cap w hn hi hj hl h.1).mono ?_
  rintro e w' ⟨rfl, hg, hO⟩
  exact ⟨rfl, hO, grown_trans h.2 hg⟩

theorem sum_st {w0 : World} {g cap : Nat} {l : List Int} {w : World} (a b : Int) (h : St w0 g cap l w) :
    Calls Tryz.prog 87 #[.int .i64 a, .int .i64 b] w (fun e w' => e = .returned (.int .i64 (Zo.smW a b)) ∧ St w0 g cap l w') := by
  refine (sum2_any a b w).mono ?_
  rintro e w' ⟨rfl, rfl⟩
  exact ⟨rfl, h⟩

def imin (x y : Int) : Int := min x y

theorem run_imin (x y : Int) (ts : Array TypeId) (t : TypeId) (W : World) : (Builtin.min_ ts t #[.int .i64 x, .int .i64 y]).run Tryz.prog W = .ok (.int .i64 (imin x y)) W := by
  rw [run_min_int2]; unfold imin
  congr 2
  split
  · rw [Int.min_eq_right (by omega)]
  · rw [Int.min_eq_left (by omega)]

def cloB (n : Nat) (l : List Int) : Bool := (List.range (n + 1)).any fun i => decide (Zo.At n (Zo.clo n l) i i < 1)

def cloE (n : Nat) (l : List Int) : Int := if cloB n l then 4 else if (Zo.clo n l).all lvB then 0 else 7

def zres (e : Int) (n g len cap : Nat) : Value := if e = 0 then .agg #[.int .i64 n, .slice (some ⟨g, 0, none⟩) len cap] else .agg #[.int .i64 0, .slice none 0 0]

theorem cloE_four {n : Nat} {l : List Int} {i : Nat} (hi : i ≤ n) (h : Zo.At n (Zo.clo n l) i i < 1) (g len cap : Nat) : cloE n l = 4 ∧ zres (cloE n l) n g len cap = .agg #[.int .i64 0, .slice none 0 0] := by
  have : cloB n l = true := by unfold cloB; rw [List.any_eq_true]; exact ⟨i, by simp; omega, by simpa using h⟩
  have e : cloE n l = 4 := by unfold cloE; rw [this]; rfl
  exact ⟨e, by rw [e]; rfl⟩

theorem cloB_no {n : Nat} {l : List Int} (h : ∀ i, i < n + 1 → ¬ Zo.At n (Zo.clo n l) i i < 1) : cloB n l = false := by
  unfold cloB; rw [List.any_eq_false]; intro i hi; simp at hi; simpa using h i hi

theorem cloE_seven {n : Nat} {l : List Int} (h : cloB n l = false) {i : Nat} (hi : i < (Zo.clo n l).length) (hv : lvB (Zo.gt (Zo.clo n l) i) = false) (g len cap : Nat) : cloE n l = 7 ∧ zres (cloE n l) n g len cap = .agg #[.int .i64 0, .slice none 0 0] := by
  have : (Zo.clo n l).all lvB = false := by
    rw [List.all_eq_false]
    refine ⟨(Zo.clo n l)[i], List.getElem_mem hi, ?_⟩
    rw [show (Zo.clo n l)[i] = Zo.gt (Zo.clo n l) i by simp [Zo.gt, hi], hv]; simp
  have e : cloE n l = 7 := by unfold cloE; rw [h, this]; rfl
  exact ⟨e, by rw [e]; rfl⟩

theorem cloE_ok {n : Nat} {l : List Int} (h : cloB n l = false) (hv : ∀ i, i < (Zo.clo n l).length → lvB (Zo.gt (Zo.clo n l) i) = true) (g len cap : Nat) : cloE n l = 0 ∧ zres (cloE n l) n g len cap = .agg #[.int .i64 n, .slice (some ⟨g, 0, none⟩) len cap] := by
  have : (Zo.clo n l).all lvB = true := by
    rw [List.all_eq_true]
    intro x hx
    obtain ⟨i, hi, rfl⟩ := List.getElem_of_mem hx
    have := hv i hi
    simpa [Zo.gt, hi] using this
  have e : cloE n l = 0 := by unfold cloE; rw [h, this]; rfl
  exact ⟨e, by rw [e]; rfl⟩

theorem ret_z {a b : Value} {c d : Int} (h : a = b) (g : c = d) : Ending.returned (.tuple #[a, .int .i64 c]) = .returned (.tuple #[b, .int .i64 d]) := by rw [h, g]

theorem put_aside {w w0 w' : World} {g cap b : Nat} {l : List Int} {u v : Value} (hb : b ≠ g) (hgr : w.grownBy w0 (some g)) (hlt : w.heap.size ≤ b) (h : St w0 g cap l w') :
    Own ((w'.setCell ⟨b, 0, none⟩ u).setCell ⟨b, 1, none⟩ v) g cap l ∧ w.grownBy ((w'.setCell ⟨b, 0, none⟩ u).setCell ⟨b, 1, none⟩ v) (some g) := by
  have e1 : w'.grownBy (w'.setCell ⟨b, 0, none⟩ u) (some b) := ⟨rfl, rfl, rfl, by simp, fun k _ hk => heap_setCell_other w' ⟨b, 0, none⟩ k u (fun e => hk (by simp [e]))⟩
  have e2 : (w'.setCell ⟨b, 0, none⟩ u).grownBy ((w'.setCell ⟨b, 0, none⟩ u).setCell ⟨b, 1, none⟩ v) (some b) := ⟨rfl, rfl, rfl, by simp, fun k _ hk => heap_setCell_other _ ⟨b, 1, none⟩ k v (fun e => hk (by simp [e]))⟩
  have e3 := grown_trans e1 e2
  have e4 := grown_trans hgr h.2
  refine ⟨h.1.kept e3 (by simp; omega), e3.os.trans e4.os, e3.tape.trans e4.tape, e3.output.trans e4.output, Nat.le_trans e4.size e3.size, fun k hk hne => ?_⟩
  exact (e3.block k (Nat.lt_of_lt_of_le hk e4.size) (by simp; omega)).trans (e4.block k hk hne)

set_option maxHeartbeats 4000000 in
theorem closed_any (n : Nat) (l : List Int) (g cap : Nat) (w : World) (hn : n ≤ 10) (hl : l.length = (n + 1) * (n + 1)) (hO : Own w g cap l) :
    Calls Tryz.prog 94 #[.agg #[.int .i64 n, .slice (some ⟨g, 0, none⟩) l.length cap]] w (fun e w' => e = .returned (.tuple #[zres (cloE n l) n g l.length cap, .int .i64 (cloE n l)]) ∧ Own w' g cap (Zo.clo n l) ∧ w.grownBy w' (some g)) := by
  have hg := hO.lt
  obtain ⟨len, hlen⟩ : ∃ len, len = l.length := ⟨_, rfl⟩
  obtain ⟨w0, hw0⟩ : ∃ w0, w0 = (w.alloc (.cells #[.int .i64 n, .slice (some ⟨g, 0, none⟩) len cap] 36)).alloc (.cells #[.int .i64 0, .slice none 0 0] 36) := ⟨_, rfl⟩
  have b0 : w0.cell? ⟨w.heap.size, 0, none⟩ = some (.int .i64 n) := by rw [hw0]; go_simp
  have b1 : w0.cell? ⟨w.heap.size, 1, none⟩ = some (.slice (some ⟨g, 0, none⟩) len cap) := by rw [hw0]; go_simp
  have r0 : w0.cell? ⟨w.heap.size + 1, 0, none⟩ = some (.int .i64 0) := by rw [hw0]; go_simp
  have r1 : w0.cell? ⟨w.heap.size + 1, 1, none⟩ = some (.slice none 0 0) := by rw [hw0]; go_simp
  have f0 : w0.frozen? ⟨w.heap.size + 1, 0, none⟩ = false := by rw [hw0]; go_simp
  have f1 : w0.frozen? ⟨w.heap.size + 1, 1, none⟩ = false := by rw [hw0]; go_simp
  have z0 : w0.heap.size = w.heap.size + 2 := by rw [hw0]; simp
  have s0 : St w0 g cap l w0 := by rw [hw0]; exact ⟨(hO.alloc _).alloc _, World.grownBy.refl _ _⟩
  have hgr : w.grownBy w0 (some g) := by rw [hw0]; exact grown_trans (World.grownBy_alloc _ _ _) (World.grownBy_alloc _ _ _)
  have KS := Lib.hid (show ∀ (y : List Int) (w' : World), St w0 g cap y w' → w'.cell? ⟨w.heap.size, 0, none⟩ = some (.int .i64 n) ∧ w'.cell? ⟨w.heap.size, 1, none⟩ = some (.slice (some ⟨g, 0, none⟩) len cap) from
    fun y w' h => ⟨h.cell b0 (by simp; omega), h.cell b1 (by simp; omega)⟩)
  have KR := Lib.hid (show ∀ (y : List Int) (w' : World), St w0 g cap y w' → (w'.cell? ⟨w.heap.size + 1, 0, none⟩ = some (.int .i64 0) ∧ w'.cell? ⟨w.heap.size + 1, 1, none⟩ = some (.slice none 0 0)) ∧ (w'.frozen? ⟨w.heap.size + 1, 0, none⟩ = false ∧ w'.frozen? ⟨w.heap.size + 1, 1, none⟩ = false) from
    fun y w' h => ⟨⟨h.cell r0 (by simp; omega), h.cell r1 (by simp; omega)⟩, (h.frozen (by simp; omega) (by simp; omega)).trans f0, (h.frozen (by simp; omega) (by simp; omega)).trans f1⟩)
  have KE := Lib.hid (show ∀ (y : List Int) (w' : World) (u v : Value), St w0 g cap y w' → Own ((w'.setCell ⟨w.heap.size + 1, 0, none⟩ u).setCell ⟨w.heap.size + 1, 1, none⟩ v) g cap y ∧ w.grownBy ((w'.setCell ⟨w.heap.size + 1, 0, none⟩ u).setCell ⟨w.heap.size + 1, 1, none⟩ v) (some g) from
    fun y w' u v h => put_aside (by omega) hgr (by omega) h)
  have HO := Lib.hid hO
  have HS := Lib.hid s0
  have HL := Lib.hid hl
  have HLn := Lib.hid hlen
  rw [← hlen]
  clear hO s0 hl hlen b0 b1 r0 r1 f0 f1 hgr
  go_enter Tryz.func94, Tryz.ntmps94
  go_wp2_with fail
  rw [← hw0]
  go_loopw [4] (fun s wr => ∃ (t : Nat) (x : List Int), t ≤ n + 1 ∧ s = .int .i64 t ∧ x.length = len ∧ Hid (x = (List.range t).foldl (Zo.st1 n) l) ∧ Hid (St w0 g cap x wr)) (fun s _ => n + 1 - (intOf s).toNat)
  case atStart => exact ⟨0, l, by omega, rfl, HLn.out.symm, Lib.hid rfl, HS⟩
  case round =>
    obtain ⟨t, x, ht, rfl, hx_x, HX, HT⟩ := hrel
    obtain ⟨c0, c1⟩ := KS.out _ _ HT.out
    by_cases htn : t ≤ n
    · have l_x : x.length = (n + 1) * (n + 1) := by rw [hx_x, HLn.out, HL.out]
      have AT_x : Hid (∀ w' : World, St w0 g cap x w' → Calls Tryz.prog 85 #[.agg #[.int .i64 n, .slice (some ⟨g, 0, none⟩) len cap], .int .i64 0, .int .i64 t] w' (fun e w' => e = .returned (.int .i64 (Zo.At n x 0 t)) ∧ St w0 g cap x w')) :=
        Lib.hid fun w' h => by have := at_st (i := 0) (j := t) hn (by omega) htn l_x h; rw [hx_x] at this; exact this
      have SE_x : Hid (∀ (val : Int) (w' : World), St w0 g cap x w' → Calls Tryz.prog 111 #[.agg #[.int .i64 n, .slice (some ⟨g, 0, none⟩) len cap], .int .i64 0, .int .i64 t, .int .i64 val] w' (fun e w' => e = .returned (.tuple #[]) ∧ St w0 g cap (x.set (Zo.ix n 0 t) val) w')) :=
        Lib.hid fun val w' h => by have := set_st (i := 0) (j := t) val hn (by omega) htn l_x h; rw [hx_x] at this; exact this
      have hm := run_imin (Zo.At n x 0 t) 1
      go_wp2_with fail
      have s1 := HT.out.drew
      go_region_held3 (fun w' => w'.cell? ⟨w.heap.size, 0, none⟩ = some (.int .i64 n) ∧ w'.cell? ⟨w.heap.size, 1, none⟩ = some (.slice (some ⟨g, 0, none⟩) len cap)) (first | exact KS.out _ _ s1 | exact KS.out _ _ s2 | exact KS.out _ _ s3)
        (first | (go_at_call 85; refine (AT_x.out _ s1).mono ?_; rintro e w2 ⟨rfl, s2⟩) | (go_at_call 111; refine (SE_x.out _ _ s2).mono ?_; rintro e wa ⟨rfl, s3⟩))
      obtain ⟨wax, h_wax⟩ : ∃ q, q = x.set (Zo.ix n 0 t) (imin (Zo.At n x 0 t) 1) := ⟨_, rfl⟩
      have hx_wax : wax.length = len := by rw [h_wax]; simpa using hx_x
      rw [← h_wax] at s3
      have H_wax := Lib.hid h_wax
      have S_wax := Lib.hid s3
      clear h_wax hm AT_x SE_x s1 s2 s3 c0 c1
      obtain ⟨c0, c1⟩ := KS.out _ _ S_wax.out
      have l_wax : wax.length = (n + 1) * (n + 1) := by rw [hx_wax, HLn.out, HL.out]
      have AT_wax : Hid (∀ w' : World, St w0 g cap wax w' → Calls Tryz.prog 85 #[.agg #[.int .i64 n, .slice (some ⟨g, 0, none⟩) len cap], .int .i64 t, .int .i64 t] w' (fun e w' => e = .returned (.int .i64 (Zo.At n wax t t)) ∧ St w0 g cap wax w')) :=
        Lib.hid fun w' h => by have := at_st (i := t) (j := t) hn htn htn l_wax h; rw [hx_wax] at this; exact this
      have SE_wax : Hid (∀ (val : Int) (w' : World), St w0 g cap wax w' → Calls Tryz.prog 111 #[.agg #[.int .i64 n, .slice (some ⟨g, 0, none⟩) len cap], .int .i64 t, .int .i64 t, .int .i64 val] w' (fun e w' => e = .returned (.tuple #[]) ∧ St w0 g cap (wax.set (Zo.ix n t t) val) w')) :=
        Lib.hid fun val w' h => by have := set_st (i := t) (j := t) val hn htn htn l_wax h; rw [hx_wax] at this; exact this
      have hm := run_imin (Zo.At n wax t t) 1
      go_wp2_with fail
      have s1 := S_wax.out.drew
      go_region_held3 (fun w' => w'.cell? ⟨w.heap.size, 0, none⟩ = some (.int .i64 n) ∧ w'.cell? ⟨w.heap.size, 1, none⟩ = some (.slice (some ⟨g, 0, none⟩) len cap)) (first | exact KS.out _ _ s1 | exact KS.out _ _ s2 | exact KS.out _ _ s3)
        (first | (go_at_call 85; refine (AT_wax.out _ s1).mono ?_; rintro e w2 ⟨rfl, s2⟩) | (go_at_call 111; refine (SE_wax.out _ _ s2).mono ?_; rintro e wb ⟨rfl, s3⟩))
      obtain ⟨wbx, h_wbx⟩ : ∃ q, q = wax.set (Zo.ix n t t) (imin (Zo.At n wax t t) 1) := ⟨_, rfl⟩
      have hx_wbx : wbx.length = len := by rw [h_wbx]; simpa using hx_wax
      rw [← h_wbx] at s3
      have H_wbx := Lib.hid h_wbx
      have S_wbx := Lib.hid s3
      clear h_wbx hm AT_wax SE_wax s1 s2 s3 c0 c1
      obtain ⟨c0, c1⟩ := KS.out _ _ S_wbx.out
      go_wp2_with fail
      go_roundw
      case rel => exact ⟨t + 1, wbx, by omega, by go_num, hx_wbx, Lib.hid (by rw [Zo.fold_succ, ← HX.out, H_wbx.out, H_wax.out]; rfl), S_wbx⟩
      case measure => simp [intOf]; omega
    · have HX2 := Lib.hid (show x = Zo.pre n l by rw [HX.out, show t = n + 1 by omega]; rfl)
      go_wp2_with fail
      clear c0 c1
      go_loopw [5] (fun s wr => ∃ (t : Nat) (x : List Int), t ≤ n + 1 ∧ s = .int .i64 t ∧ x.length = len ∧ Hid (x = (List.range t).foldl (Zo.rlxI n) (Zo.pre n l)) ∧ Hid (St w0 g cap x wr)) (fun s _ => n + 1 - (intOf s).toNat)
      case atStart => exact ⟨0, x, by omega, rfl, hx_x, HX2, HT⟩
      case round =>
        clear HX HX2 HT hx_x
        clear x
        obtain ⟨k, xk, hk, rfl, hx_xk, HXk, HTk⟩ := hrel
        obtain ⟨c0, c1⟩ := KS.out _ _ HTk.out
        by_cases hkn : k ≤ n
        · go_wp2_with fail
          clear c0 c1
          go_loopw [6] (fun s wr => ∃ (t : Nat) (x : List Int), t ≤ n + 1 ∧ s = .int .i64 t ∧ x.length = len ∧ Hid (x = (List.range t).foldl (Zo.rlxJ n k) xk) ∧ Hid (St w0 g cap x wr)) (fun s _ => n + 1 - (intOf s).toNat)
          case atStart => exact ⟨0, xk, by omega, rfl, hx_xk, Lib.hid rfl, HTk⟩
          case round =>
            obtain ⟨i, xi, hi, rfl, hx_xi, HXi, HTi⟩ := hrel
            obtain ⟨c0, c1⟩ := KS.out _ _ HTi.out
            by_cases hin : i ≤ n
            · go_wp2_with fail
              clear c0 c1
              go_loopw [7] (fun s wr => ∃ (t : Nat) (x : List Int), t ≤ n + 1 ∧ s = .int .i64 t ∧ x.length = len ∧ Hid (x = (List.range t).foldl (Zo.rlx n k i) xi) ∧ Hid (St w0 g cap x wr)) (fun s _ => n + 1 - (intOf s).toNat)
              case atStart => exact ⟨0, xi, by omega, rfl, hx_xi, Lib.hid rfl, HTi⟩
              case round =>
                obtain ⟨j, xj, hj, rfl, hx_xj, HXj, HTj⟩ := hrel
                obtain ⟨c0, c1⟩ := KS.out _ _ HTj.out
                by_cases hjn : j ≤ n
                · have l_xj : xj.length = (n + 1) * (n + 1) := by rw [hx_xj, HLn.out, HL.out]
                  have A9 : Hid (∀ a b : Nat, a ≤ n → b ≤ n → ∀ w' : World, St w0 g cap xj w' → Calls Tryz.prog 85 #[.agg #[.int .i64 n, .slice (some ⟨g, 0, none⟩) len cap], .int .i64 a, .int .i64 b] w' (fun e w' => e = .returned (.int .i64 (Zo.At n xj a b)) ∧ St w0 g cap xj w')) :=
                    Lib.hid fun a b ha hb w' h => by have := at_st (i := a) (j := b) hn ha hb l_xj h; rw [hx_xj] at this; exact this
                  have E9 : Hid (∀ (val : Int) (w' : World), St w0 g cap xj w' → Calls Tryz.prog 111 #[.agg #[.int .i64 n, .slice (some ⟨g, 0, none⟩) len cap], .int .i64 i, .int .i64 j, .int .i64 val] w' (fun e w' => e = .returned (.tuple #[]) ∧ St w0 g cap (xj.set (Zo.ix n i j) val) w')) :=
                    Lib.hid fun val w' h => by have := set_st (i := i) (j := j) val hn hin hjn l_xj h; rw [hx_xj] at this; exact this
                  have M9 := Lib.hid fun (a b : Int) (w' : World) (h : St w0 g cap xj w') => sum_st a b h
                  have hm := run_imin (Zo.At n xj i j) (Zo.smW (Zo.At n xj i k) (Zo.At n xj k j))
                  go_wp2_with fail
                  have s1 := HTj.out.drew
                  go_region_held3 (fun w' => w'.cell? ⟨w.heap.size, 0, none⟩ = some (.int .i64 n) ∧ w'.cell? ⟨w.heap.size, 1, none⟩ = some (.slice (some ⟨g, 0, none⟩) len cap)) (first | exact KS.out _ _ (by assumption))
                    (first | (go_at_call 85; refine (A9.out _ _ (by assumption) (by assumption) _ (by assumption)).mono ?_; rintro e w2 ⟨rfl, s2⟩) | (go_at_call 87; refine (M9.out _ _ _ (by assumption)).mono ?_; rintro e w3 ⟨rfl, s3⟩) | (go_at_call 111; refine (E9.out _ _ (by assumption)).mono ?_; rintro e w4 ⟨rfl, s4⟩))
                  all_goals
                    have S4 := Lib.hid s4
                    clear s4
                    go_wp2_with fail
                    go_roundw
                    case rel => exact ⟨j + 1, _, by omega, by go_num, by simpa using hx_xj, Lib.hid (by rw [Zo.fold_succ, ← HXj.out]; rfl), S4⟩
                    case measure => simp [intOf]; omega
                · have HX3 := Lib.hid (show xj = Zo.rlxJ n k xi i by rw [HXj.out, show j = n + 1 by omega]; rfl)
                  go_wp2_with fail
                  go_roundw
                  case rel => exact ⟨i + 1, xj, by omega, by go_num, hx_xj, Lib.hid (by rw [Zo.fold_succ, ← HXi.out]; exact HX3.out), HTj⟩
                  case measure => simp [intOf]; omega
            · have HX3 := Lib.hid (show xi = Zo.rlxI n xk k by rw [HXi.out, show i = n + 1 by omega]; rfl)
              go_wp2_with fail
              go_roundw
              case rel => exact ⟨k + 1, xi, by omega, by go_num, hx_xi, Lib.hid (by rw [Zo.fold_succ, ← HXk.out]; exact HX3.out), HTi⟩
              case measure => simp [intOf]; omega
        · have HX3 := Lib.hid (show xk = Zo.clo n l by rw [HXk.out, show k = n + 1 by omega]; rfl)
          have l_xk : xk.length = (n + 1) * (n + 1) := by rw [hx_xk, HLn.out, HL.out]
          have A9 : Hid (∀ a : Nat, a ≤ n → ∀ w' : World, St w0 g cap xk w' → Calls Tryz.prog 85 #[.agg #[.int .i64 n, .slice (some ⟨g, 0, none⟩) len cap], .int .i64 a, .int .i64 a] w' (fun e w' => e = .returned (.int .i64 (Zo.At n xk a a)) ∧ St w0 g cap xk w')) :=
            Lib.hid fun a ha w' h => by have := at_st (i := a) (j := a) hn ha ha l_xk h; rw [hx_xk] at this; exact this
          have HC := Lib.hid (show ∀ (q : Nat) (w' : World), q < len → St w0 g cap xk w' → w'.cell? ⟨g, q, none⟩ = some (.int .i64 (Zo.gt xk q)) from fun q w' hq h => by
            have := h.1.rd q (by omega)
            rwa [addr_add] at this)
          go_wp2_with fail
          clear c0 c1 l_xk
          go_loopw [8] (fun s wr => ∃ t : Nat, t ≤ n + 1 ∧ s = .int .i64 t ∧ Hid (∀ i, i < t → 1 ≤ Zo.At n xk i i) ∧ Hid (St w0 g cap xk wr)) (fun s _ => n + 1 - (intOf s).toNat)
          case atStart => exact ⟨0, by omega, rfl, Lib.hid (fun i hi => by omega), HTk⟩
          case round =>
            obtain ⟨q, hq, rfl, HD, HTq⟩ := hrel
            obtain ⟨c0, c1⟩ := KS.out _ _ HTq.out
            by_cases hqn : q ≤ n
            · by_cases hlt : Zo.At n xk q q < 1
              · have HE := Lib.hid (cloE_four hqn (by rw [← HX3.out]; exact hlt) g len cap)
                go_wp2_with fail
                refine (A9.out _ hqn _ HTq.out).mono ?_
                rintro e w2 ⟨rfl, s2⟩
                obtain ⟨⟨r0, r1⟩, f0, f1⟩ := KR.out _ _ s2
                go_wp2_with fail
                refine bodyPost_ret (v := .tuple #[.agg #[.int .i64 0, .slice none 0 0], .int .i64 4]) (by simp [results, Tryz.results94, go_sem, r0, r1]) rfl ⟨ret_z HE.out.2.symm HE.out.1.symm, ?_⟩
                rw [← HX3.out]
                exact KE.out _ _ _ _ s2
              · go_wp2_with fail
                refine (A9.out _ hqn _ HTq.out).mono ?_
                rintro e w2 ⟨rfl, s2⟩
                have S2 := Lib.hid s2
                clear s2
                go_wp2_with fail
                go_roundw
                case rel =>
                  refine ⟨q + 1, by omega, by go_num, Lib.hid (fun i hi => ?_), S2⟩
                  by_cases e : i = q
                  · rw [e]; omega
                  · exact HD.out i (by omega)
                case measure => simp [intOf]; omega
            · have HB := Lib.hid (cloB_no (l := l) (n := n) (fun i hi => by rw [← HX3.out]; have := HD.out i (by omega); omega))
              go_wp2_with fail
              clear c0 c1
              go_loopw [9] (fun s wr => ∃ t : Nat, t ≤ len ∧ s = .int .i64 t ∧ Hid (∀ i, i < t → lvB (Zo.gt xk i) = true) ∧ Hid (St w0 g cap xk wr)) (fun s _ => len - (intOf s).toNat)
              case atStart => exact ⟨0, by omega, rfl, Lib.hid (fun i hi => by omega), HTq⟩
              case round =>
                obtain ⟨p, hp, rfl, HV, HTp⟩ := hrel
                obtain ⟨c0, c1⟩ := KS.out _ _ HTp.out
                have lb : (len : Int) ≤ 121 := by
                  rw [HLn.out, HL.out]
                  have : (n + 1) * (n + 1) ≤ 11 * 11 := Nat.mul_le_mul (by omega) (by omega)
                  exact_mod_cast this
                by_cases hpl : p < len
                · have cg := HC.out p _ hpl HTp.out
                  have pv := fun W => refLimValid_free (Zo.gt xk p) W
                  cases hv : lvB (Zo.gt xk p)
                  · rw [hv] at pv
                    have PV := Lib.hid pv
                    have HE := Lib.hid (cloE_seven HB.out (i := p) (by rw [← HX3.out]; omega) (by rw [← HX3.out]; exact hv) g len cap)
                    obtain ⟨⟨r0, r1⟩, f0, f1⟩ := KR.out _ _ HTp.out
                    clear pv hv
                    go_wp2_with fail
                    refine (PV.out _).mono ?_
                    rintro e w2 ⟨rfl, rfl⟩
                    go_wp2_with fail
                    refine bodyPost_ret (v := .tuple #[.agg #[.int .i64 0, .slice none 0 0], .int .i64 7]) (by simp [results, Tryz.results94, go_sem, r0, r1]) rfl ⟨ret_z HE.out.2.symm HE.out.1.symm, ?_⟩
                    rw [← HX3.out]
                    exact KE.out _ _ _ _ HTp.out
                  · rw [hv] at pv
                    have PV := Lib.hid pv
                    have HV2 := Lib.hid hv
                    clear pv hv
                    go_wp2_with fail
                    refine (PV.out _).mono ?_
                    rintro e w2 ⟨rfl, rfl⟩
                    go_wp2_with fail
                    go_roundw
                    case rel =>
                      refine ⟨p + 1, by omega, by go_num, Lib.hid (fun i hi => ?_), HTp⟩
                      by_cases e : i = p
                      · rw [e]; exact HV2.out
                      · exact HV.out i (by omega)
                    case measure => simp [intOf]; omega
                · have HE := Lib.hid (cloE_ok HB.out (fun i hi => by rw [← HX3.out] at hi ⊢; exact HV.out i (by omega)) g len cap)
                  obtain ⟨⟨r0, r1⟩, f0, f1⟩ := KR.out _ _ HTp.out
                  go_wp2_with fail
                  refine bodyPost_ret (v := .tuple #[.agg #[.int .i64 n, .slice (some ⟨g, 0, none⟩) len cap], .int .i64 0]) (by simp [results, Tryz.results94, go_sem, r0, r1]) rfl ⟨ret_z HE.out.2.symm HE.out.1.symm, ?_⟩
                  rw [← HX3.out]
                  exact KE.out _ _ _ _ HTp.out
end Go.Proofs.YthjapmdfcbngmaaGreat
