/- A part. -/
import Derived.Test.YthjapmdfcbngmaaGreatWr3
import Derived.Test.YthjapmdfcbngmaaGreatWr4
import Derived.Deep.DeepCutAuto
import Derived.Deep.MidRow
import Derived.StillTailTactics
namespace Go.Proofs.YthjapmdfcbngmaaGreat
set_option maxHeartbeats 4000000
open Go.RowKit
def St (w0 : World) (g cap : Nat) (l : List Int) (w : World) : Prop := Own w g cap l ∧ w0.grownBy w (some g)
theorem St.drew {w0 w : World} {g cap : Nat} {l : List Int} (h : St w0 g cap l w) : St w0 g cap l w.drew :=
 ⟨h.1.kept (row := none) ⟨rfl, rfl, rfl, Nat.le_refl _, fun _ _ _ => rfl⟩ (by simp), grown_trans h.2 ⟨rfl, rfl, rfl, Nat.le_refl _, fun _ _ _ => rfl⟩⟩
theorem St.cell {w0 w : World} {g cap : Nat} {l : List Int} (h : St w0 g cap l w) {p : Addr} {v : Value} (hc : w0.cell? p = some v) (hne : p.block ≠ g) : w.cell? p = some v := h.2.cell hc (by simpa using hne)
theorem St.frozen {w0 w : World} {g cap : Nat} {l : List Int} (h : St w0 g cap l w) {p : Addr} (hl : p.block < w0.heap.size) (hne : p.block ≠ g) : w.frozen? p = w0.frozen? p := World.frozen?_of_block (h.2.block _ hl (by simpa using hne))
theorem at_st {w0 : World} {g cap n i j : Nat} {l : List Int} {w : World} (hn : n ≤ 10) (hi : i ≤ n) (hj : j ≤ n) (hl : l.length = (n + 1) * (n + 1)) (h : St w0 g cap l w) :
  Calls Tryz.prog 85 #[.agg #[.int .i64 n, .slice (some ⟨g, 0, none⟩) l.length cap], .int .i64 i, .int .i64 j] w
   (fun e w' => e = .returned (.int .i64 (Zo.At n l i j)) ∧ St w0 g cap l w') := by
 refine (at_any n i j l ⟨g, 0, none⟩ cap w hn hi hj hl h.1.rd).mono ?_
 rintro e w' ⟨rfl, hb⟩
 have hg : w.grownBy w' none := ⟨hb.os, hb.tape, hb.output, hb.size, fun k hk _ => hb.block k hk⟩
 exact ⟨rfl, h.1.kept hg (by simp), grown_trans h.2 ⟨hg.os, hg.tape, hg.output, hg.size, fun k hk _ => hg.block k hk (by simp)⟩⟩
theorem set_st {w0 : World} {g cap n i j : Nat} {l : List Int} {w : World} (x : Int) (hn : n ≤ 10) (hi : i ≤ n) (hj : j ≤ n) (hl : l.length = (n + 1) * (n + 1)) (h : St w0 g cap l w) :
  Calls Tryz.prog 111 #[.agg #[.int .i64 n, .slice (some ⟨g, 0, none⟩) l.length cap], .int .i64 i, .int .i64 j, .int .i64 x] w
   (fun e w' => e = .returned (.tuple #[]) ∧ St w0 g cap (l.set (Zo.ix n i j) x) w') := by
 refine (set_any n i j x l g cap w hn hi hj hl h.1).mono ?_
 rintro e w' ⟨rfl, hg, hO⟩
 exact ⟨rfl, hO, grown_trans h.2 hg⟩
theorem sum_st {w0 : World} {g cap : Nat} {l : List Int} {w : World} (a b : Int) (h : St w0 g cap l w) :
  Calls Tryz.prog 87 #[.int .i64 a, .int .i64 b] w (fun e w' => e = .returned (.int .i64 (Zo.smW a b)) ∧ St w0 g cap l w') := by
 refine (sum2_any a b w).mono ?_
 rintro e w' ⟨rfl, rfl⟩
 exact ⟨rfl, h⟩
def imin (x y : Int) : Int := min x y
theorem run_imin (x y : Int) (ts : Array TypeId) (t : TypeId) (W : World) : (Builtin.min_ ts t #[.int .i64 x, .int .i64 y]).run Tryz.prog W = .ok (.int .i64 (imin x y)) W := by
 rw [run_min_int2]; unfold imin
 congr 2
 split
 · rw [Int.min_eq_right (by omega)]
 · rw [Int.min_eq_left (by omega)]
def cloB (n : Nat) (l : List Int) : Bool := (List.range (n + 1)).any fun i => decide (Zo.At n (Zo.clo n l) i i < 1)
def cloE (n : Nat) (l : List Int) : Int := if cloB n l then 4 else if (Zo.clo n l).all lvB then 0 else 7
def zres (e : Int) (n g len cap : Nat) : Value := if e = 0 then .agg #[.int .i64 n, .slice (some ⟨g, 0, none⟩) len cap] else .agg #[.int .i64 0, .slice none 0 0]
theorem cloE_four {n : Nat} {l : List Int} {i : Nat} (hi : i ≤ n) (h : Zo.At n (Zo.clo n l) i i < 1) (g len cap : Nat) : cloE n l = 4 ∧ zres (cloE n l) n g len cap = .agg #[.int .i64 0, .slice none 0 0] := by
 have : cloB n l = true := by unfold cloB; rw [List.any_eq_true]; exact ⟨i, by simp; omega, by simpa using h⟩
 have e : cloE n l = 4 := by unfold cloE; rw [this]; rfl
 exact ⟨e, by rw [e]; rfl⟩
theorem cloB_no {n : Nat} {l : List Int} (h : ∀ i, i < n + 1 → ¬ Zo.At n (Zo.clo n l) i i < 1) : cloB n l = false := by
 unfold cloB; rw [List.any_eq_false]; intro i hi; simp at hi; simpa using h i hi
theorem cloE_seven {n : Nat} {l : List Int} (h : cloB n l = false) {i : Nat} (hi : i < (Zo.clo n l).length) (hv : lvB (Zo.gt (Zo.clo n l) i) = false) (g len cap : Nat) : cloE n l = 7 ∧ zres (cloE n l) n g len cap = .agg #[.int .i64 0, .slice none 0 0] := by
 have : (Zo.clo n l).all lvB = false := by
  rw [List.all_eq_false]
  refine ⟨(Zo.clo n l)[i], List.getElem_mem hi, ?_⟩
  rw [show (Zo.clo n l)[i] = Zo.gt (Zo.clo n l) i by simp [Zo.gt, hi], hv]; simp
 have e : cloE n l = 7 := by unfold cloE; rw [h, this]; rfl
 exact ⟨e, by rw [e]; rfl⟩
theorem cloE_ok {n : Nat} {l : List Int} (h : cloB n l = false) (hv : ∀ i, i < (Zo.clo n l).length → lvB (Zo.gt (Zo.clo n l) i) = true) (g len cap : Nat) : cloE n l = 0 ∧ zres (cloE n l) n g len cap = .agg #[.int .i64 n, .slice (some ⟨g, 0, none⟩) len cap] := by
 have : (Zo.clo n l).all lvB = true := by
  rw [List.all_eq_true]
  intro x hx
  obtain ⟨i, hi, rfl⟩ := List.getElem_of_mem hx
  have := hv i hi
  simpa [Zo.gt, hi] using this
 have e : cloE n l = 0 := by unfold cloE; rw [h, this]; rfl
 exact ⟨e, by rw [e]; rfl⟩
theorem ret_z {a b : Value} {c d : Int} (h : a = b) (g : c = d) : Ending.returned (.tuple #[a, .int .i64 c]) = .returned (.tuple #[b, .int .i64 d]) := by rw [h, g]
theorem put_aside {w w0 w' : World} {g cap b : Nat} {l : List Int} {u v : Value} (hb : b ≠ g) (hgr : w.grownBy w0 (some g)) (hlt : w.heap.size ≤ b) (h : St w0 g cap l w') :
  Own ((w'.setCell ⟨b, 0, none⟩ u).setCell ⟨b, 1, none⟩ v) g cap l ∧ w.grownBy ((w'.setCell ⟨b, 0, none⟩ u).setCell ⟨b, 1, none⟩ v) (some g) := by
 have e1 : w'.grownBy (w'.setCell ⟨b, 0, none⟩ u) (some b) := ⟨rfl, rfl, rfl, by simp, fun k _ hk => heap_setCell_other w' ⟨b, 0, none⟩ k u (fun e => hk (by simp [e]))⟩
 have e2 : (w'.setCell ⟨b, 0, none⟩ u).grownBy ((w'.setCell ⟨b, 0, none⟩ u).setCell ⟨b, 1, none⟩ v) (some b) := ⟨rfl, rfl, rfl, by simp, fun k _ hk => heap_setCell_other _ ⟨b, 1, none⟩ k v (fun e => hk (by simp [e]))⟩
 have e3 := grown_trans e1 e2
 have e4 := grown_trans hgr h.2
 refine ⟨h.1.kept e3 (by simp; omega), e3.os.trans e4.os, e3.tape.trans e4.tape, e3.output.trans e4.output, Nat.le_trans e4.size e3.size, fun k hk hne => ?_⟩
 exact (e3.block k (Nat.lt_of_lt_of_le hk e4.size) (by simp; omega)).trans (e4.block k hk hne)
theorem closed_any (n : Nat) (l : List Int) (g cap : Nat) (w : World) (hn : n ≤ 10) (hl : l.length = (n + 1) * (n + 1)) (hO : Own w g cap l) :
  Calls Tryz.prog 94 #[.agg #[.int .i64 n, .slice (some ⟨g, 0, none⟩) l.length cap]] w (fun e w' => e = .returned (.tuple #[zres (cloE n l) n g l.length cap, .int .i64 (cloE n l)]) ∧ Own w' g cap (Zo.clo n l) ∧ w.grownBy w' (some g)) := by
 have hg := hO.lt
 obtain ⟨len, hlen⟩ : ∃ len, len = l.length := ⟨_, rfl⟩
 obtain ⟨w0, hw0⟩ : ∃ w0, w0 = (w.alloc (.cells #[.int .i64 n, .slice (some ⟨g, 0, none⟩) len cap] 36)).alloc (.cells #[.int .i64 0, .slice none 0 0] 36) := ⟨_, rfl⟩
 have b0 : w0.cell? ⟨w.heap.size, 0, none⟩ = some (.int .i64 n) := by rw [hw0]; go_simp
 have b1 : w0.cell? ⟨w.heap.size, 1, none⟩ = some (.slice (some ⟨g, 0, none⟩) len cap) := by rw [hw0]; go_simp
 have r0 : w0.cell? ⟨w.heap.size + 1, 0, none⟩ = some (.int .i64 0) := by rw [hw0]; go_simp
 have r1 : w0.cell? ⟨w.heap.size + 1, 1, none⟩ = some (.slice none 0 0) := by rw [hw0]; go_simp
 have f0 : w0.frozen? ⟨w.heap.size + 1, 0, none⟩ = false := by rw [hw0]; go_simp
 have f1 : w0.frozen? ⟨w.heap.size + 1, 1, none⟩ = false := by rw [hw0]; go_simp
 have z0 : w0.heap.size = w.heap.size + 2 := by rw [hw0]; simp
 have s0 : St w0 g cap l w0 := by rw [hw0]; exact ⟨(hO.alloc _).alloc _, World.grownBy.refl _ _⟩
 have hgr : w.grownBy w0 (some g) := by rw [hw0]; exact grown_trans (World.grownBy_alloc _ _ _) (World.grownBy_alloc _ _ _)
 have KS := Lib.hid (show ∀ (y : List Int) (w' : World), St w0 g cap y w' → w'.cell? ⟨w.heap.size, 0, none⟩ = some (.int .i64 n) ∧ w'.cell? ⟨w.heap.size, 1, none⟩ = some (.slice (some ⟨g, 0, none⟩) len cap) from
  fun y w' h => ⟨h.cell b0 (by simp; omega), h.cell b1 (by simp; omega)⟩)
 have KR := Lib.hid (show ∀ (y : List Int) (w' : World), St w0 g cap y w' → (w'.cell? ⟨w.heap.size + 1, 0, none⟩ = some (.int .i64 0) ∧ w'.cell? ⟨w.heap.size + 1, 1, none⟩ = some (.slice none 0 0)) ∧ (w'.frozen? ⟨w.heap.size + 1, 0, none⟩ = false ∧ w'.frozen? ⟨w.heap.size + 1, 1, none⟩ = false) from
  fun y w' h => ⟨⟨h.cell r0 (by simp; omega), h.cell r1 (by simp; omega)⟩, (h.frozen (by simp; omega) (by simp; omega)).trans f0, (h.frozen (by simp; omega) (by simp; omega)).trans f1⟩)
 have KE := Lib.hid (show ∀ (y : List Int) (w' : World) (u v : Value), St w0 g cap y w' → Own ((w'.setCell ⟨w.heap.size + 1, 0, none⟩ u).setCell ⟨w.heap.size + 1, 1, none⟩ v) g cap y ∧ w.grownBy ((w'.setCell ⟨w.heap.size + 1, 0, none⟩ u).setCell ⟨w.heap.size + 1, 1, none⟩ v) (some g) from
  fun y w' u v h => put_aside (by omega) hgr (by omega) h)
 have HO := Lib.hid hO
 have HS := Lib.hid s0
 have HL := Lib.hid hl
 have HLn := Lib.hid hlen
 rw [← hlen]
 clear hO s0 hl hlen b0 b1 r0 r1 f0 f1 hgr
 go_enter Tryz.func94, Tryz.ntmps94
 go_wp2_with fail
 rw [← hw0]
 go_loopw [4] (fun s wr => ∃ (t : Nat) (x : List Int), t ≤ n + 1 ∧ s = .int .i64 t ∧ x.length = len ∧ Hid (x = (List.range t).foldl (Zo.st1 n) l) ∧ Hid (St w0 g cap x wr)) (fun s _ => n + 1 - (intOf s).toNat)
 case atStart => exact ⟨0, l, by omega, rfl, HLn.out.symm, Lib.hid rfl, HS⟩
 case round =>
  obtain ⟨t, x, ht, rfl, hx_x, HX, HT⟩ := hrel
  obtain ⟨c0, c1⟩ := KS.out _ _ HT.out
  by_cases htn : t ≤ n
  · have l_x : x.length = (n + 1) * (n + 1) := by rw [hx_x, HLn.out, HL.out]
    have AT_x : Hid (∀ w' : World, St w0 g cap x w' → Calls Tryz.prog 85 #[.agg #[.int .i64 n, .slice (some ⟨g, 0, none⟩) len cap], .int .i64 0, .int .i64 t] w' (fun e w' => e = .returned (.int .i64 (Zo.At n x 0 t)) ∧ St w0 g cap x w')) :=
     Lib.hid fun w' h => by have := at_st (i := 0) (j := t) hn (by omega) htn l_x h; rw [hx_x] at this; exact this
    have SE_x : Hid (∀ (val : Int) (w' : World), St w0 g cap x w' → Calls Tryz.prog 111 #[.agg #[.int .i64 n, .slice (some ⟨g, 0, none⟩) len cap], .int .i64 0, .int .i64 t, .int .i64 val] w' (fun e w' => e = .returned (.tuple #[]) ∧ St w0 g cap (x.set (Zo.ix n 0 t) val) w')) :=
     Lib.hid fun val w' h => by have := set_st (i := 0) (j := t) val hn (by omega) htn l_x h; rw [hx_x] at this; exact this
    have hm := run_imin (Zo.At n x 0 t) 1
    go_wp2_with fail
    have s1 := HT.out.drew
    go_region_held3 (fun w' => w'.cell? ⟨w.heap.size, 0, none⟩ = some (.int .i64 n) ∧ w'.cell? ⟨w.heap.size, 1, none⟩ = some (.slice (some ⟨g, 0, none⟩) len cap)) (first | exact KS.out _ _ s1 | exact KS.out _ _ s2 | exact KS.out _ _ s3)
     (first | (go_at_call 85; refine (AT_x.out _ s1).mono ?_; rintro e w2 ⟨rfl, s2⟩) | (go_at_call 111; refine (SE_x.out _ _ s2).mono ?_; rintro e wa ⟨rfl, s3⟩))
    obtain ⟨wax, h_wax⟩ : ∃ q, q = x.set (Zo.ix n 0 t) (imin (Zo.At n x 0 t) 1) := ⟨_, rfl⟩
    have hx_wax : wax.length = len := by rw [h_wax]; simpa using hx_x
    rw [← h_wax] at s3
    have H_wax := Lib.hid h_wax
    have S_wax := Lib.hid s3
    clear h_wax hm AT_x SE_x s1 s2 s3 c0 c1
    obtain ⟨c0, c1⟩ := KS.out _ _ S_wax.out
    have l_wax : wax.length = (n + 1) * (n + 1) := by rw [hx_wax, HLn.out, HL.out]
    have AT_wax : Hid (∀ w' : World, St w0 g cap wax w' → Calls Tryz.prog 85 #[.agg #[.int .i64 n, .slice (some ⟨g, 0, none⟩) len cap], .int .i64 t, .int .i64 t] w' (fun e w' => e = .returned (.int .i64 (Zo.At n wax t t)) ∧ St w0 g cap wax w')) :=
     Lib.hid fun w' h => by have := at_st (i := t) (j := t) hn htn htn l_wax h; rw [hx_wax] at this; exact this
    have SE_wax : Hid (∀ (val : Int) (w' : World), St w0 g cap wax w' → Calls Tryz.prog 111 #[.agg #[.int .i64 n, .slice (some ⟨g, 0, none⟩) len cap], .int .i64 t, .int .i64 t, .int .i64 val] w' (fun e w' => e = .returned (.tuple #[]) ∧ St w0 g cap (wax.set (Zo.ix n t t) val) w')) :=
     Lib.hid fun val w' h => by have := set_st (i := t) (j := t) val hn htn htn l_wax h; rw [hx_wax] at this; exact this
    have hm := run_imin (Zo.At n wax t t) 1
    go_wp2_with fail
    have s1 := S_wax.out.drew
    go_region_held3 (fun w' => w'.cell? ⟨w.heap.size, 0, none⟩ = some (.int .i64 n) ∧ w'.cell? ⟨w.heap.size, 1, none⟩ = some (.slice (some ⟨g, 0, none⟩) len cap)) (first | exact KS.out _ _ s1 | exact KS.out _ _ s2 | exact KS.out _ _ s3)
     (first | (go_at_call 85; refine (AT_wax.out _ s1).mono ?_; rintro e w2 ⟨rfl, s2⟩) | (go_at_call 111; refine (SE_wax.out _ _ s2).mono ?_; rintro e wb ⟨rfl, s3⟩))
    obtain ⟨wbx, h_wbx⟩ : ∃ q, q = wax.set (Zo.ix n t t) (imin (Zo.At n wax t t) 1) := ⟨_, rfl⟩
    have hx_wbx : wbx.length = len := by rw [h_wbx]; simpa using hx_wax
    rw [← h_wbx] at s3
    have H_wbx := Lib.hid h_wbx
    have S_wbx := Lib.hid s3
    clear h_wbx hm AT_wax SE_wax s1 s2 s3 c0 c1
    obtain ⟨c0, c1⟩ := KS.out _ _ S_wbx.out
    go_wp2_with fail
    go_roundw
    case rel => exact ⟨t + 1, wbx, by omega, by go_num, hx_wbx, Lib.hid (by rw [Zo.fold_succ, ← HX.out, H_wbx.out, H_wax.out]; rfl), S_wbx⟩
    case measure => simp [intOf]; omega
  · have HX2 := Lib.hid (show x = Zo.pre n l by rw [HX.out, show t = n + 1 by omega]; rfl)
    go_wp2_with fail
    clear c0 c1
    go_loopw [5] (fun s wr => ∃ (t : Nat) (x : List Int), t ≤ n + 1 ∧ s = .int .i64 t ∧ x.length = len ∧ Hid (x = (List.range t).foldl (Zo.rlxI n) (Zo.pre n l)) ∧ Hid (St w0 g cap x wr)) (fun s _ => n + 1 - (intOf s).toNat)
    case atStart => exact ⟨0, x, by omega, rfl, hx_x, HX2, HT⟩
    case round =>
     clear HX HX2 HT hx_x
     clear x
     obtain ⟨k, xk, hk, rfl, hx_xk, HXk, HTk⟩ := hrel
     obtain ⟨c0, c1⟩ := KS.out _ _ HTk.out
     by_cases hkn : k ≤ n
     · go_wp2_with fail
       clear c0 c1
       go_loopw [6] (fun s wr => ∃ (t : Nat) (x : List Int), t ≤ n + 1 ∧ s = .int .i64 t ∧ x.length = len ∧ Hid (x = (List.range t).foldl (Zo.rlxJ n k) xk) ∧ Hid (St w0 g cap x wr)) (fun s _ => n + 1 - (intOf s).toNat)
       case atStart => exact ⟨0, xk, by omega, rfl, hx_xk, Lib.hid rfl, HTk⟩
       case round =>
        obtain ⟨i, xi, hi, rfl, hx_xi, HXi, HTi⟩ := hrel
        obtain ⟨c0, c1⟩ := KS.out _ _ HTi.out
        by_cases hin : i ≤ n
        · go_wp2_with fail
          clear c0 c1
          go_loopw [7] (fun s wr => ∃ (t : Nat) (x : List Int), t ≤ n + 1 ∧ s = .int .i64 t ∧ x.length = len ∧ Hid (x = (List.range t).foldl (Zo.rlx n k i) xi) ∧ Hid (St w0 g cap x wr)) (fun s _ => n + 1 - (intOf s).toNat)
          case atStart => exact ⟨0, xi, by omega, rfl, hx_xi, Lib.hid rfl, HTi⟩
          case round =>
           obtain ⟨j, xj, hj, rfl, hx_xj, HXj, HTj⟩ := hrel
           obtain ⟨c0, c1⟩ := KS.out _ _ HTj.out
           by_cases hjn : j ≤ n
           · have l_xj : xj.length = (n + 1) * (n + 1) := by rw [hx_xj, HLn.out, HL.out]
             have A9 : Hid (∀ a b : Nat, a ≤ n → b ≤ n → ∀ w' : World, St w0 g cap xj w' → Calls Tryz.prog 85 #[.agg #[.int .i64 n, .slice (some ⟨g, 0, none⟩) len cap], .int .i64 a, .int .i64 b] w' (fun e w' => e = .returned (.int .i64 (Zo.At n xj a b)) ∧ St w0 g cap xj w')) :=
              Lib.hid fun a b ha hb w' h => by have := at_st (i := a) (j := b) hn ha hb l_xj h; rw [hx_xj] at this; exact this
             have E9 : Hid (∀ (val : Int) (w' : World), St w0 g cap xj w' → Calls Tryz.prog 111 #[.agg #[.int .i64 n, .slice (some ⟨g, 0, none⟩) len cap], .int .i64 i, .int .i64 j, .int .i64 val] w' (fun e w' => e = .returned (.tuple #[]) ∧ St w0 g cap (xj.set (Zo.ix n i j) val) w')) :=
              Lib.hid fun val w' h => by have := set_st (i := i) (j := j) val hn hin hjn l_xj h; rw [hx_xj] at this; exact this
             have M9 := Lib.hid fun (a b : Int) (w' : World) (h : St w0 g cap xj w') => sum_st a b h
             have hm := run_imin (Zo.At n xj i j) (Zo.smW (Zo.At n xj i k) (Zo.At n xj k j))
             go_wp2_with fail
             have s1 := HTj.out.drew
             go_region_held3 (fun w' => w'.cell? ⟨w.heap.size, 0, none⟩ = some (.int .i64 n) ∧ w'.cell? ⟨w.heap.size, 1, none⟩ = some (.slice (some ⟨g, 0, none⟩) len cap)) (first | exact KS.out _ _ (by assumption))
              (first | (go_at_call 85; refine (A9.out _ _ (by assumption) (by assumption) _ (by assumption)).mono ?_; rintro e w2 ⟨rfl, s2⟩) | (go_at_call 87; refine (M9.out _ _ _ (by assumption)).mono ?_; rintro e w3 ⟨rfl, s3⟩) | (go_at_call 111; refine (E9.out _ _ (by assumption)).mono ?_; rintro e w4 ⟨rfl, s4⟩))
             all_goals
              have S4 := Lib.hid s4
              clear s4
              go_wp2_with fail
              go_roundw
              case rel => exact ⟨j + 1, _, by omega, by go_num, by simpa using hx_xj, Lib.hid (by rw [Zo.fold_succ, ← HXj.out]; rfl), S4⟩
              case measure => simp [intOf]; omega
           · have HX3 := Lib.hid (show xj = Zo.rlxJ n k xi i by rw [HXj.out, show j = n + 1 by omega]; rfl)
             go_wp2_with fail
             go_roundw
             case rel => exact ⟨i + 1, xj, by omega, by go_num, hx_xj, Lib.hid (by rw [Zo.fold_succ, ← HXi.out]; exact HX3.out), HTj⟩
             case measure => simp [intOf]; omega
        · have HX3 := Lib.hid (show xi = Zo.rlxI n xk k by rw [HXi.out, show i = n + 1 by omega]; rfl)
          go_wp2_with fail
          go_roundw
          case rel => exact ⟨k + 1, xi, by omega, by go_num, hx_xi, Lib.hid (by rw [Zo.fold_succ, ← HXk.out]; exact HX3.out), HTi⟩
          case measure => simp [intOf]; omega
     · have HX3 := Lib.hid (show xk = Zo.clo n l by rw [HXk.out, show k = n + 1 by omega]; rfl)
       have l_xk : xk.length = (n + 1) * (n + 1) := by rw [hx_xk, HLn.out, HL.out]
       have A9 : Hid (∀ a : Nat, a ≤ n → ∀ w' : World, St w0 g cap xk w' → Calls Tryz.prog 85 #[.agg #[.int .i64 n, .slice (some ⟨g, 0, none⟩) len cap], .int .i64 a, .int .i64 a] w' (fun e w' => e = .returned (.int .i64 (Zo.At n xk a a)) ∧ St w0 g cap xk w')) :=
        Lib.hid fun a ha w' h => by have := at_st (i := a) (j := a) hn ha ha l_xk h; rw [hx_xk] at this; exact this
       have HC := Lib.hid (show ∀ (q : Nat) (w' : World), q < len → St w0 g cap xk w' → w'.cell? ⟨g, q, none⟩ = some (.int .i64 (Zo.gt xk q)) from fun q w' hq h => by
        have := h.1.rd q (by omega)
        rwa [addr_add] at this)
       go_wp2_with fail
       clear c0 c1 l_xk
       go_loopw [8] (fun s wr => ∃ t : Nat, t ≤ n + 1 ∧ s = .int .i64 t ∧ Hid (∀ i, i < t → 1 ≤ Zo.At n xk i i) ∧ Hid (St w0 g cap xk wr)) (fun s _ => n + 1 - (intOf s).toNat)
       case atStart => exact ⟨0, by omega, rfl, Lib.hid (fun i hi => by omega), HTk⟩
       case round =>
        obtain ⟨q, hq, rfl, HD, HTq⟩ := hrel
        obtain ⟨c0, c1⟩ := KS.out _ _ HTq.out
        by_cases hqn : q ≤ n
        · by_cases hlt : Zo.At n xk q q < 1
          · have HE := Lib.hid (cloE_four hqn (by rw [← HX3.out]; exact hlt) g len cap)
            go_wp2_with fail
            refine (A9.out _ hqn _ HTq.out).mono ?_
            rintro e w2 ⟨rfl, s2⟩
            obtain ⟨⟨r0, r1⟩, f0, f1⟩ := KR.out _ _ s2
            go_wp2_with fail
            refine bodyPost_ret (v := .tuple #[.agg #[.int .i64 0, .slice none 0 0], .int .i64 4]) (by simp [results, Tryz.results94, go_sem, r0, r1]) rfl ⟨ret_z HE.out.2.symm HE.out.1.symm, ?_⟩
            rw [← HX3.out]
            exact KE.out _ _ _ _ s2
          · go_wp2_with fail
            refine (A9.out _ hqn _ HTq.out).mono ?_
            rintro e w2 ⟨rfl, s2⟩
            have S2 := Lib.hid s2
            clear s2
            go_wp2_with fail
            go_roundw
            case rel =>
             refine ⟨q + 1, by omega, by go_num, Lib.hid (fun i hi => ?_), S2⟩
             by_cases e : i = q
             · rw [e]; omega
             · exact HD.out i (by omega)
            case measure => simp [intOf]; omega
        · have HB := Lib.hid (cloB_no (l := l) (n := n) (fun i hi => by rw [← HX3.out]; have := HD.out i (by omega); omega))
          go_wp2_with fail
          clear c0 c1
          go_loopw [9] (fun s wr => ∃ t : Nat, t ≤ len ∧ s = .int .i64 t ∧ Hid (∀ i, i < t → lvB (Zo.gt xk i) = true) ∧ Hid (St w0 g cap xk wr)) (fun s _ => len - (intOf s).toNat)
          case atStart => exact ⟨0, by omega, rfl, Lib.hid (fun i hi => by omega), HTq⟩
          case round =>
           obtain ⟨p, hp, rfl, HV, HTp⟩ := hrel
           obtain ⟨c0, c1⟩ := KS.out _ _ HTp.out
           have lb : (len : Int) ≤ 121 := by
            rw [HLn.out, HL.out]
            have : (n + 1) * (n + 1) ≤ 11 * 11 := Nat.mul_le_mul (by omega) (by omega)
            exact_mod_cast this
           by_cases hpl : p < len
           · have cg := HC.out p _ hpl HTp.out
             have pv := fun W => refLimValid_free (Zo.gt xk p) W
             cases hv : lvB (Zo.gt xk p)
             · rw [hv] at pv
               have PV := Lib.hid pv
               have HE := Lib.hid (cloE_seven HB.out (i := p) (by rw [← HX3.out]; omega) (by rw [← HX3.out]; exact hv) g len cap)
               obtain ⟨⟨r0, r1⟩, f0, f1⟩ := KR.out _ _ HTp.out
               clear pv hv
               go_wp2_with fail
               refine (PV.out _).mono ?_
               rintro e w2 ⟨rfl, rfl⟩
               go_wp2_with fail
               refine bodyPost_ret (v := .tuple #[.agg #[.int .i64 0, .slice none 0 0], .int .i64 7]) (by simp [results, Tryz.results94, go_sem, r0, r1]) rfl ⟨ret_z HE.out.2.symm HE.out.1.symm, ?_⟩
               rw [← HX3.out]
               exact KE.out _ _ _ _ HTp.out
             · rw [hv] at pv
               have PV := Lib.hid pv
               have HV2 := Lib.hid hv
               clear pv hv
               go_wp2_with fail
               refine (PV.out _).mono ?_
               rintro e w2 ⟨rfl, rfl⟩
               go_wp2_with fail
               go_roundw
               case rel =>
                refine ⟨p + 1, by omega, by go_num, Lib.hid (fun i hi => ?_), HTp⟩
                by_cases e : i = p
                · rw [e]; exact HV2.out
                · exact HV.out i (by omega)
               case measure => simp [intOf]; omega
           · have HE := Lib.hid (cloE_ok HB.out (fun i hi => by rw [← HX3.out] at hi ⊢; exact HV.out i (by omega)) g len cap)
             obtain ⟨⟨r0, r1⟩, f0, f1⟩ := KR.out _ _ HTp.out
             go_wp2_with fail
             refine bodyPost_ret (v := .tuple #[.agg #[.int .i64 n, .slice (some ⟨g, 0, none⟩) len cap], .int .i64 0]) (by simp [results, Tryz.results94, go_sem, r0, r1]) rfl ⟨ret_z HE.out.2.symm HE.out.1.symm, ?_⟩
             rw [← HX3.out]
             exact KE.out _ _ _ _ HTp.out
def pad (l : List Int) : List Int := l ++ List.replicate (121 - l.length) 0
def mcs (n : Nat) (l : List Int) : Array Value := ⟨.int .i64 n :: (pad l).map (Value.int .i64)⟩
def Mx (w : World) (b n : Nat) (l : List Int) : Prop := w.heap[b]? = some (.cells (mcs n l) 120 (0, 0)) ∧ l.length = (n + 1) * (n + 1)
theorem Mx.lt {w : World} {b n : Nat} {l : List Int} (h : Mx w b n l) : b < w.heap.size := by
 by_cases e : b < w.heap.size
 · exact e
 · have := h.1; rw [Array.getElem?_eq_none (by omega)] at this; cases this
theorem Mx.cell {w : World} {b n : Nat} {l : List Int} (h : Mx w b n l) (j : Nat) : w.cell? ⟨b, j, none⟩ = (mcs n l)[j]? := cell_of_row w b j _ _ _ h.1
theorem Mx.dim {w : World} {b n : Nat} {l : List Int} (h : Mx w b n l) : w.cell? ⟨b, 0, none⟩ = some (.int .i64 n) := by rw [h.cell]; rfl
theorem Mx.at {w : World} {b n : Nat} {l : List Int} (h : Mx w b n l) {j : Nat} (hj : j < l.length) : w.cell? ⟨b, 1 + j, none⟩ = some (.int .i64 (Zo.gt l j)) := by
 rw [h.cell, Nat.add_comm]
 simp [mcs, pad, Zo.gt, hj, List.getElem?_append]
theorem Mx.free {w : World} {b n : Nat} {l : List Int} (h : Mx w b n l) (j : Nat) : w.frozen? ⟨b, j, none⟩ = false := frozen_of_row w b j _ _ h.1
theorem pad_set (l : List Int) (j : Nat) (x : Int) (hj : j < l.length) : (pad l).set j x = pad (l.set j x) := by
 unfold pad; rw [List.set_append_left _ _ hj, List.length_set]
theorem Mx.put {w : World} {b n : Nat} {l : List Int} (h : Mx w b n l) (j : Nat) (x : Int) (hj : j < l.length) : Mx (w.setCell ⟨b, 1 + j, none⟩ (.int .i64 x)) b n (l.set j x) := by
 refine ⟨?_, by simpa using h.2⟩
 rw [heap_setCell_same w b _ _ _ _ h.1]
 congr 2
 rw [Nat.add_comm]
 simp [mcs, ← pad_set l j x hj, List.map_set]
theorem Mx.of_block {w w' : World} {b n : Nat} {l : List Int} (h : Mx w b n l) (e : w'.heap[b]? = w.heap[b]?) : Mx w' b n l := ⟨e.trans h.1, h.2⟩
theorem Mx.alloc {w : World} {b n : Nat} {l : List Int} (h : Mx w b n l) (o : Obj) : Mx (w.alloc o) b n l := h.of_block (heap_alloc_old w o h.lt)
theorem Mx.drew {w : World} {b n : Nat} {l : List Int} (h : Mx w b n l) : Mx w.drew b n l := h.of_block rfl
theorem grown_put (w : World) (b j : Nat) (v : Value) : w.grownBy (w.setCell ⟨b, j, none⟩ v) (some b) :=
 ⟨rfl, rfl, rfl, by simp, fun k _ hk => heap_setCell_other w ⟨b, j, none⟩ k v (fun e => hk (by simp [e]))⟩
theorem cells_ty : Tryz.prog.underlying 118 = some (.array 121 37) := by kernel_rfl
theorem limit_size (w : World) : (sizeOf 37).run Tryz.prog w = .ok 1 w := by
 have h : (Tryz.prog.info? 37).map (fun i => (i.zero, i.size)) = some (some (.int .i64 0), 1) := by kernel_rfl
 cases hq : Tryz.prog.info? 37 with
 | none => simp [hq] at h
 | some i => simp [hq] at h; simp [sizeOf, typeInfo, hq, h.2]
theorem run_part (b : Nat) (x y : Int) (lo k : Nat) (hx : x = lo) (hy : y = ((lo + k : Nat) : Int)) (hk : 0 < k) (hm : lo + k ≤ 121) (w : World) :
  (Instr.sliceAt 118 (.pointer (some ⟨b, 1, none⟩)) (some (.int .i64 x)) (some (.int .i64 y)) (some (.int .i64 y))).run Tryz.prog w = .ok (.slice (some ⟨b, 1 + lo, none⟩) k k) w := by
 subst hx; subst hy
 have ha : Tryz.prog.arrayLen 118 = 121 := by simp [Program.arrayLen]
 have he : Tryz.prog.elem 118 = 37 := by simp [Program.elem]
 rw [run_sliceAt_array_lhm w 118 ⟨b, 1, none⟩ (by rw [ha, he]; exact cells_ty) .i64 .i64 .i64 lo (lo + k : Nat) (lo + k : Nat) (by omega) (by omega) (by omega) (by rw [ha]; omega)]
 rw [he, limit_size]
 simp only [Result.andThen_ok, slicedAt, Int.toNat_natCast]
 rw [if_neg (by omega), Addr.add_mid, Nat.mul_one, show lo + k - lo = k by omega]
set_option maxRecDepth 100000 in
theorem row_any (b n i : Nat) (w : World) (hn : n ≤ 10) (hi : i ≤ n) (h : w.cell? ⟨b, 0, none⟩ = some (.int .i64 n)) :
  Calls Tryz.prog 110 #[.pointer (some ⟨b, 0, none⟩), .int .i64 i] w (Still (.slice (some ⟨b, 1 + i * (n + 1), none⟩) (n + 1) (n + 1)) w) := by
 have t1 : ((i : Int) + 1) * ((n : Int) + 1) = (i : Int) * ((n : Int) + 1) + ((n : Int) + 1) := by rw [Int.add_mul, Int.one_mul]
 have t0 : i * (n + 1) ≤ 10 * 11 := Nat.mul_le_mul (by omega) (by omega)
 have t3 : (i : Int) * ((n : Int) + 1) ≤ 110 ∧ 0 ≤ (i : Int) * ((n : Int) + 1) := by
  constructor
  · exact_mod_cast t0
  · exact_mod_cast Nat.zero_le _
 have hs := run_part b ((i : Int) * ((n : Int) + 1)) ((i : Int) * ((n : Int) + 1) + ((n : Int) + 1)) (i * (n + 1)) (n + 1) (by push_cast; rfl) (by push_cast; rfl) (by omega) (by omega)
 clear t0
 go_enter Tryz.func110, Tryz.ntmps110
 go_wp2_with fail
 go_ret
 exact ⟨rfl, rfl⟩
set_option maxRecDepth 100000 in
theorem tighten_any (b n i j : Nat) (x : Int) (l : List Int) (w : World) (hn : n ≤ 10) (hi : i ≤ n) (hj : j ≤ n) (h : Mx w b n l) :
  Calls Tryz.prog 175 #[.pointer (some ⟨b, 0, none⟩), .int .i64 i, .int .i64 j, .int .i64 x] w
   (fun e w' => e = .returned (.tuple #[]) ∧ w.grownBy w' (some b) ∧ Mx w' b n (l.set (Zo.ix n i j) (imin (Zo.At n l i j) x))) := by
 have t1 := Zo.ix_lt hi hj
 have t0 : i * (n + 1) ≤ 10 * 11 := Nat.mul_le_mul (by omega) (by omega)
 have hl := h.2
 have t2 : Zo.ix n i j < l.length := by rw [hl]; exact t1
 have hc : w.cell? ⟨b, 1 + i * (n + 1) + j, none⟩ = some (.int .i64 (Zo.At n l i j)) := by rw [Nat.add_assoc]; exact h.at t2
 have hf := h.free (1 + i * (n + 1) + j)
 have PR := Lib.hid (row_any b n i w hn hi h.dim)
 have HM := Lib.hid (h.put (Zo.ix n i j) (imin (Zo.At n l i j) x) t2)
 have hm := run_imin (Zo.At n l i j) x
 clear t1 t0 h hl t2
 go_enter Tryz.func175, Tryz.ntmps175
 go_wp2_with fail
 refine PR.out.mono ?_
 rintro e w1 ⟨rfl, rfl⟩
 go_wp2_with fail
 go_end0
 refine ⟨rfl, ?_, ?_⟩
 · exact grown_put _ _ _ _
 · have := HM.out
   rwa [show 1 + Zo.ix n i j = 1 + i * (n + 1) + j by unfold Zo.ix; omega] at this
theorem or1_i64 (a b : Int) : bits .and .i64 (bits .or .i64 a b) 1 = if a % 2 = 0 ∧ b % 2 = 0 then 0 else 1 := by
 rw [and1_i64]
 show (IntKind.i64.wrap (((BitVec.ofInt 64 a ||| BitVec.ofInt 64 b).toNat : Nat) : Int)) % 2 = _
 have hw : ∀ m : Nat, (IntKind.i64.wrap (m : Int)) % 2 = ((m % 2 : Nat) : Int) := by
  intro m; simp [IntKind.wrap, IntKind.bits, IntKind.signed]; omega
 rw [hw, BitVec.toNat_or]
 have ho : ∀ x y : Nat, (x ||| y) % 2 = if x % 2 = 0 ∧ y % 2 = 0 then 0 else 1 := by
  intro x y
  have := Nat.or_mod_two_pow (a := x) (b := y) (n := 1)
  simp only [Nat.pow_one] at this
  rw [this]
  rcases Nat.mod_two_eq_zero_or_one x with hx | hx <;> rcases Nat.mod_two_eq_zero_or_one y with hy | hy <;> rw [hx, hy] <;> rfl
 rw [ho]
 have e : ∀ x : Int, (BitVec.ofInt 64 x).toNat % 2 = 0 ↔ x % 2 = 0 := by
  intro x
  rw [BitVec.toNat_ofInt]
  have : ((2 ^ 64 : Nat) : Int) = 18446744073709551616 := by decide
  rw [this]; omega
 simp only [e]
 split <;> rfl
theorem zsum_any (a b : Int) (w : World) : Calls Tryz.prog 176 #[.int .i64 a, .int .i64 b] w (Still (.int .i64 (Zo.smW a b)) w) := by
 by_cases na : a = 1099511627776
 · have A0 : (a == 1099511627776) = true := by simpa using na
   have H := Lib.hid (show Zo.smW a b = 1099511627776 by unfold Zo.smW; rw [if_pos (Or.inl na)])
   clear na
   go_enter Tryz.func176, Tryz.ntmps176
   go_wp2_with fail
   go_ret
   exact ⟨ret_int H.out.symm, rfl⟩
 have A0 : (a == 1099511627776) = false := by simpa using na
 by_cases nb : b = 1099511627776
 · have B0 : (b == 1099511627776) = true := by simpa using nb
   have H := Lib.hid (show Zo.smW a b = 1099511627776 by unfold Zo.smW; rw [if_pos (Or.inr nb)])
   clear na nb
   go_enter Tryz.func176, Tryz.ntmps176
   go_wp2_with fail
   go_ret
   exact ⟨ret_int H.out.symm, rfl⟩
 have B0 : (b == 1099511627776) = false := by simpa using nb
 have h0 : ¬ (a = 1099511627776 ∨ b = 1099511627776) := by omega
 go_enter Tryz.func176, Tryz.ntmps176
 go_wp2_with fail
 go_ret
 refine ⟨ret_int ?_, rfl⟩
 rw [or1_i64, w64_eq, w64_eq]
 unfold Zo.smW
 rw [if_neg h0]
 split
 · rw [Int.sub_zero]; unfold Zo.w64; omega
 · rfl
theorem isDimension_any (n : Int) (w : World) : Calls Tryz.prog 174 #[.int .i64 n] w (Still (.bool (dimB n)) w) := by
 by_cases h : 0 ≤ n
 · by_cases g : n ≤ 10
   · have H := Lib.hid (show dimB n = true by unfold dimB; simp; omega)
     go_enter Tryz.func174, Tryz.ntmps174
     go_wp2_with fail
     go_ret
     exact ⟨ret_bool H.out.symm, rfl⟩
   · have H := Lib.hid (show dimB n = false by unfold dimB; simp; omega)
     have D : decide (n ≤ (10 : Int)) = false := by simp; omega
     go_enter Tryz.func174, Tryz.ntmps174
     go_wp2_with fail
     go_ret
     exact ⟨ret_bool H.out.symm, rfl⟩
 · have H := Lib.hid (show dimB n = false by unfold dimB; simp; omega)
   have D : decide ((0 : Int) ≤ n) = false := by simp; omega
   go_enter Tryz.func174, Tryz.ntmps174
   go_wp2_with fail
   go_ret
   exact ⟨ret_bool H.out.symm, rfl⟩
theorem places_any (n : Nat) (w : World) (hn : n ≤ 10) : Calls Tryz.prog 165 #[.int .i64 n] w (Still (.int .i64 ((n + 1) * (n + 1) : Nat)) w) := by
 have t3 : ((n : Int) + 1) * ((n : Int) + 1) ≤ 121 ∧ 0 ≤ ((n : Int) + 1) * ((n : Int) + 1) := by
  have : (n + 1) * (n + 1) ≤ 11 * 11 := Nat.mul_le_mul (by omega) (by omega)
  constructor
  · exact_mod_cast this
  · exact_mod_cast Nat.zero_le _
 have H := Lib.hid (show (((n + 1) * (n + 1) : Nat) : Int) = ((n : Int) + 1) * ((n : Int) + 1) by push_cast; rfl)
 go_enter Tryz.func165, Tryz.ntmps165
 go_wp2_with fail
 go_ret
 exact ⟨ret_int H.out.symm, rfl⟩
def MSt (w0 : World) (b n : Nat) (l : List Int) (w : World) : Prop := Mx w b n l ∧ w0.grownBy w (some b)
theorem MSt.drew {w0 w : World} {b n : Nat} {l : List Int} (h : MSt w0 b n l w) : MSt w0 b n l w.drew :=
 ⟨h.1.drew, grown_trans h.2 ⟨rfl, rfl, rfl, Nat.le_refl _, fun _ _ _ => rfl⟩⟩
theorem MSt.put {w0 w : World} {b n : Nat} {l : List Int} (h : MSt w0 b n l w) (j : Nat) (x : Int) (hj : j < l.length) : MSt w0 b n (l.set j x) (w.setCell ⟨b, 1 + j, none⟩ (.int .i64 x)) :=
 ⟨h.1.put j x hj, grown_trans h.2 (grown_put _ _ _ _)⟩
theorem tighten_st {w0 : World} {b n i j : Nat} {l : List Int} {w : World} (x : Int) (hn : n ≤ 10) (hi : i ≤ n) (hj : j ≤ n) (h : MSt w0 b n l w) :
  Calls Tryz.prog 175 #[.pointer (some ⟨b, 0, none⟩), .int .i64 i, .int .i64 j, .int .i64 x] w
   (fun e w' => e = .returned (.tuple #[]) ∧ MSt w0 b n (l.set (Zo.ix n i j) (imin (Zo.At n l i j) x)) w') := by
 refine (tighten_any b n i j x l w hn hi hj h.1).mono ?_
 rintro e w' ⟨rfl, hg, hM⟩
 exact ⟨rfl, hM, grown_trans h.2 hg⟩
theorem st1_code {n : Nat} {l : List Int} (hl : l.length = (n + 1) * (n + 1)) {j : Nat} (hj : j ≤ n) :
  (l.set (Zo.ix n j j) (imin (Zo.At n l j j) 1)).set (Zo.ix n 0 j) (imin (Zo.At n (l.set (Zo.ix n j j) (imin (Zo.At n l j j) 1)) 0 j) 1) = Zo.st1 n l j := Zo.st1_eq hl hj
theorem st1_len {n : Nat} {l : List Int} (hl : l.length = (n + 1) * (n + 1)) (j : Nat) : (Zo.st1 n l j).length = (n + 1) * (n + 1) := by simpa [Zo.st1] using hl
set_option maxRecDepth 100000 in
theorem shorten_any (b n : Nat) (l : List Int) (w : World) (hn : n ≤ 10) (h : Mx w b n l) (h64 : Zo.A64 l) :
  Calls Tryz.prog 154 #[.pointer (some ⟨b, 0, none⟩)] w
   (fun e w' => e = .returned (.bool (!cloB n l)) ∧ ∃ l', MSt w b n l' w' ∧ (cloB n l = false → l' = Zo.clo n l)) := by
 have hl := h.2
 have HM := Lib.hid (show MSt w b n l w from ⟨h, World.grownBy.refl _ _⟩)
 have H64 := Lib.hid h64
 have hb := h.lt
 have KD := Lib.hid (show ∀ (x : List Int) (w' : World), MSt w b n x w' → w'.cell? ⟨b, 0, none⟩ = some (.int .i64 n) from fun x w' h => h.1.dim)
 have TT := Lib.hid (fun (x : List Int) (i j : Nat) (hi : i ≤ n) (hj : j ≤ n) (w' : World) (h : MSt w b n x w') => tighten_st (i := i) (j := j) 1 hn hi hj h)
 have TR := Lib.hid (fun (x : List Int) (i : Nat) (hi : i ≤ n) (w' : World) (h : MSt w b n x w') => row_any b n i w' hn hi h.1.dim)
 have c0 := h.dim
 clear h h64
 go_enter Tryz.func154, Tryz.ntmps154
 go_wp2_with fail
 clear c0
 go_loopw [15] (fun s wr => ∃ (t : Nat) (x : List Int), t ≤ n + 1 ∧ s = .int .i64 t ∧ Hid (x.length = (n + 1) * (n + 1) ∧ x = (List.range t).foldl (Zo.st1 n) l ∧ MSt w b n x wr)) (fun s _ => n + 1 - (intOf s).toNat)
 case atStart => exact ⟨0, l, by omega, rfl, Lib.hid ⟨hl, rfl, HM.out⟩⟩
 case round =>
  obtain ⟨t, x, ht, rfl, HX⟩ := hrel
  have c0 := KD.out _ _ HX.out.2.2
  by_cases htn : t ≤ n
  · go_wp2_with fail
    refine (TT.out _ _ _ htn htn _ HX.out.2.2).mono ?_
    rintro e w1 ⟨rfl, hm1⟩
    have H1 := Lib.hid hm1
    clear hm1 c0
    go_wp2_with fail
    refine (TT.out _ 0 t (by omega) htn _ H1.out).mono ?_
    rintro e w2 ⟨rfl, hm2⟩
    have H2 := Lib.hid hm2
    clear hm2
    go_wp2_with fail
    go_roundw
    case rel => exact ⟨t + 1, _, by omega, by go_num, Lib.hid ⟨st1_len HX.out.1 t, by rw [Zo.fold_succ, ← HX.out.2.1], by have := H2.out; rwa [st1_code HX.out.1 htn] at this⟩⟩
    case measure => simp [intOf]; omega
  · have HS := Lib.hid (show x.length = (n + 1) * (n + 1) ∧ Zo.Mid n l 0 0 x ∧ MSt w b n x _ from ⟨HX.out.1, by have := Zo.Mid.start hl H64.out; rwa [show Zo.pre n l = x by rw [HX.out.2.1, show t = n + 1 by omega]; rfl] at this, HX.out.2.2⟩)
    go_wp2_with fail
    clear c0
    go_loopw [31] (fun s wr => ∃ (t : Nat) (x : List Int), t ≤ n + 1 ∧ s = .int .i64 t ∧ Hid (x.length = (n + 1) * (n + 1) ∧ Zo.Mid n l t 0 x ∧ MSt w b n x wr)) (fun s _ => n + 1 - (intOf s).toNat)
    case atStart => exact ⟨0, x, by omega, rfl, HS⟩
    case round =>
     clear HS HX
     clear x
     obtain ⟨k, xk, hk, rfl, HK⟩ := hrel
     by_cases hkn : k ≤ n
     · go_wp2_with fail
       refine (TR.out _ _ hkn _ HK.out.2.2).mono ?_
       rintro e w1 ⟨rfl, rfl⟩
       have c0 := KD.out _ _ HK.out.2.2
       go_wp2_with fail
       clear c0
       go_loopw [42] (fun s wr => ∃ (t : Nat) (x : List Int), t ≤ n + 1 ∧ s = .int .i64 t ∧ Hid (x.length = (n + 1) * (n + 1) ∧ Zo.Mid n l k t x ∧ MSt w b n x wr)) (fun s _ => n + 1 - (intOf s).toNat)
       case atStart => exact ⟨0, xk, by omega, rfl, HK⟩
       case round =>
        obtain ⟨i, xi, hi, rfl, HI⟩ := hrel
        by_cases hin : i ≤ n
        · go_wp2_with fail
          refine (TR.out _ _ hin _ HI.out.2.2).mono ?_
          rintro e w1 ⟨rfl, rfl⟩
          have c0 := KD.out _ _ HI.out.2.2
          obtain ⟨c, hc⟩ : ∃ c, c = Zo.At n xi i k := ⟨_, rfl⟩
          have HC := Lib.hid hc
          have tik := Zo.ix_lt hin hkn
          have c1 : w1.cell? ⟨b, 1 + i * (n + 1) + k, none⟩ = some (.int .i64 c) := by
           rw [hc, Nat.add_assoc]; exact HI.out.2.2.1.at (by rw [HI.out.1]; exact tik)
          clear hc tik
          go_wp2_with fail
          clear c0 c1
          go_loopw [57] (fun s wr => ∃ (t : Nat) (x : List Int), t ≤ n + 1 ∧ s = .int .i64 t ∧ Hid (x.length = (n + 1) * (n + 1) ∧ x = (List.range t).foldl (Zo.prw n k i c) xi ∧ MSt w b n x wr)) (fun s _ => n + 1 - (intOf s).toNat)
          case atStart => exact ⟨0, xi, by omega, rfl, Lib.hid ⟨HI.out.1, rfl, HI.out.2.2⟩⟩
          case round =>
           obtain ⟨j, xj, hj, rfl, HJ⟩ := hrel
           by_cases hjn : j ≤ n
           · have tij := Zo.ix_lt hin hjn
             have tkj := Zo.ix_lt hkn hjn
             have c1 : ∀ w', MSt w b n xj w' → w'.cell? ⟨b, 1 + i * (n + 1) + j, none⟩ = some (.int .i64 (Zo.At n xj i j)) := fun w' h => by
              rw [Nat.add_assoc]; exact h.1.at (by rw [HJ.out.1]; exact tij)
             have c2 : ∀ w', MSt w b n xj w' → w'.cell? ⟨b, 1 + k * (n + 1) + j, none⟩ = some (.int .i64 (Zo.At n xj k j)) := fun w' h => by
              rw [Nat.add_assoc]; exact h.1.at (by rw [HJ.out.1]; exact tkj)
             have f1 : ∀ w', MSt w b n xj w' → w'.frozen? ⟨b, 1 + i * (n + 1) + j, none⟩ = false := fun w' h => h.1.free _
             have ST := Lib.hid (show ∀ w' x, MSt w b n xj w' → MSt w b n (xj.set (Zo.ix n i j) x) (w'.setCell ⟨b, 1 + i * (n + 1) + j, none⟩ (.int .i64 x)) from fun w' x h => by
              have := h.put (Zo.ix n i j) x (by rw [HJ.out.1]; exact tij)
              rwa [show 1 + Zo.ix n i j = 1 + i * (n + 1) + j by unfold Zo.ix; omega] at this)
             have hm := run_imin (Zo.At n xj i j) (Zo.smW c (Zo.At n xj k j))
             have PS := zsum_any c (Zo.At n xj k j)
             have d1 := c1 _ HJ.out.2.2
             have d2 := c2 _ HJ.out.2.2
             have d3 := f1 _ HJ.out.2.2
             go_wp2_with fail
             go_still_tail 14, (by kernel_rfl)
             still_call (PS _)
             repeat still_step
             refine wpStill_nil ?_
             clear d1 d2 d3
             have HD := Lib.hid HJ.out.2.2.drew
             have d1 := c1 _ HD.out
             have d3 := f1 _ HD.out
             change wpList _ _ _ _ _ (World.drew _)
             go_wp2_with fail
             have S4 := Lib.hid (ST.out _ (imin (Zo.At n xj i j) (Zo.smW c (Zo.At n xj k j))) HD.out)
             clear hm PS c1 c2 f1 ST d1 d3 HD
             go_roundw
             case rel => exact ⟨j + 1, _, by omega, by go_num, Lib.hid ⟨by simpa using HJ.out.1, by rw [Zo.fold_succ, ← HJ.out.2.1]; rfl, S4.out⟩⟩
             case measure => simp [intOf]; omega
           · have HR := Lib.hid (show xj = (List.range (n + 1)).foldl (Zo.prw n k i (Zo.At n xi i k)) xi by rw [← HC.out, show n + 1 = j by omega]; exact HJ.out.2.1)
             have HL := Lib.hid HJ.out.1
             have HW := Lib.hid HJ.out.2.2
             have tii := Zo.ix_lt hin hin
             obtain ⟨d, hd⟩ : ∃ d, d = Zo.At n xj i i := ⟨_, rfl⟩
             have c1 : ∀ w', MSt w b n xj w' → w'.cell? ⟨b, 1 + i * (n + 1) + i, none⟩ = some (.int .i64 d) := fun w' h => by
              rw [hd, Nat.add_assoc]; exact h.1.at (by rw [HL.out]; exact tii)
             have d1 := c1 _ HW.out
             have HDd := Lib.hid hd
             clear hd tii
             by_cases hneg : d < 1
             · have HB := Lib.hid (show cloB n l = true by
                unfold cloB; rw [List.any_eq_true]
                refine ⟨i, by simp; omega, ?_⟩
                simpa using Zo.Mid.bad hl hkn hin HI.out.2.1 HR.out (by rw [← HDd.out]; exact hneg))
               have D : decide (d < 1) = true := by simpa using hneg
               clear c1
               go_wp2_with fail
               go_ret
               exact ⟨ret_bool (by rw [HB.out]; rfl), _, HW.out, fun h => by rw [HB.out] at h; cases h⟩
             · have HN := Lib.hid (Zo.Mid.row hkn hin HI.out.2.1 HR.out (by rw [← HDd.out]; omega))
               have D : decide (d < 1) = false := by simpa using hneg
               clear c1
               go_wp2_with fail
               clear d1 D
               go_roundw
               case rel => exact ⟨i + 1, xj, by omega, by go_num, Lib.hid ⟨HL.out, HN.out, HW.out⟩⟩
               case measure => simp [intOf]; omega
        · have HN := Lib.hid (show Zo.Mid n l (k + 1) 0 xi from Zo.Mid.round (by have := HI.out.2.1; rwa [show i = n + 1 by omega] at this))
          go_wp2_with fail
          go_roundw
          case rel => exact ⟨k + 1, xi, by omega, by go_num, Lib.hid ⟨HI.out.1, HN.out, HI.out.2.2⟩⟩
          case measure => simp [intOf]; omega
     · have HN := Lib.hid (show Zo.Mid n l (n + 1) 0 xk by have := HK.out.2.1; rwa [show k = n + 1 by omega] at this)
       have HB := Lib.hid (show cloB n l = false from cloB_no fun i hi => by have := HN.out.done.2 i (by omega); omega)
       go_wp2_with fail
       go_ret
       exact ⟨ret_bool (by rw [HB.out]; rfl), _, HK.out.2.2, fun _ => HN.out.done.1⟩
end Go.Proofs.YthjapmdfcbngmaaGreat
