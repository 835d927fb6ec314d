/- Layer 6: decide, which takes the first rule that applies.; Layer 6: cases: the rules.; Contracts of layer 3's matrices: a matrix in memory, row, tighten.; Contracts of layer 3's small functions: sum, isDimension, places.; The contract of layer 3's closing of a matrix: shorten.; Contracts of slices.Clone at limits, and of the method zone of layer 3's matrices.; Layer 6: changed: the matrix of a zone, with what its elements become.; Layer 6: changed: the matrix of a zone, with what its elements become.; Contracts of Close, Zero and All of layer 3's reference.; Contracts of layer 3's read and open.; Equality of two matrices; when closing leaves a matrix as it is.; Plain mathematics: closing leaves a matrix as it is exactly if it passes the reference's Check. -/
import Derived.Test.YtgdcclldgfcilaaHw2
import Derived.Deep.RegionHeld3
import Derived.BigQuiet
import Derived.Test.YtgdcclldgfcilaaHw1
import Derived.Deep.MidRow
import Derived.StillTailTactics
import Derived.Lib.SliceRun
import Derived.Deep.WholeRow
import Derived.Deep.Upon
import Derived.DeepKeys

namespace Go.Proofs.Ytgdcclldgfcilaa
open Go.RowKit

/-- What the project makes of an element; lists of constants from the clock 0 on. -/
def dcV (i j : Nat) (x c : Int) (low high : List Int) : Int :=
  if (decide (x = 1099511627776) || (decide (Zo.gt low i = -1) || decide (Zo.gt low i < c))) = true then 1099511627776
  else if decide (Zo.gt high j = -1) = true then (if i = 0 then 1 else 1099511627776)
  else if decide (c < -Zo.gt high j) = true then -2 * Zo.gt high j
  else x

def rulesV (p q : Nat) : Value := .agg #[.func (.func 48) #[] #[.pointer (some ⟨p, 0, none⟩)], .func (.func 49) #[] #[.pointer (some ⟨q, 0, none⟩)], .func (.func 50) #[] #[.pointer (some ⟨q, 0, none⟩)], .func (.func 52) #[] #[]]

theorem enter_case1 (args : Array Value) (W : World) : (callFunc 48 args).run Try.prog W = .ok (.enter 48 args) W := by go_simp

theorem enter_case2 (args : Array Value) (W : World) : (callFunc 49 args).run Try.prog W = .ok (.enter 49 args) W := by go_simp

theorem enter_case3 (args : Array Value) (W : World) : (callFunc 50 args).run Try.prog W = .ok (.enter 50 args) W := by go_simp

theorem enter_case4 (args : Array Value) (W : World) : (callFunc 52 args).run Try.prog W = .ok (.enter 52 args) W := by go_simp

set_option maxRecDepth 100000 in
set_option maxHeartbeats 4000000 in
theorem decide_any (i j : Nat) (x c : Int) (low high : List Int) (p q : Nat) (a b : Addr) (ca cb : Nat) (w : World) (hi : i < low.length) (hj : j < high.length)
    (hp : w.cell? ⟨p, 0, none⟩ = some (.slice (some a) low.length ca)) (hq : w.cell? ⟨q, 0, none⟩ = some (.slice (some b) high.length cb)) (hR : Rd w a low) (hQ : Rd w b high) (hb : -1 ≤ Zo.gt high j ∧ Zo.gt high j ≤ 1048576) :
    Calls Try.prog 46 #[rulesV p q, elV i j x c] w (Made (.int .i64 (dcV i j x c low high)) w) := by
  have HF1 := enter_case1
  have HF2 := enter_case2
  have HF3 := enter_case3
  have HF4 := enter_case4
  have C1 := Lib.hid (fun W (h : Below w.heap.size w W) => case1_any i j x c low p a ca W hi (kept h hp) (hR.on h))
  have C2 := Lib.hid (fun W (h : Below w.heap.size w W) => case2_any i j x c high q b cb W hj (kept h hq) (hQ.on h))
  have C3 := Lib.hid (fun W (h : Below w.heap.size w W) => case3_any i j x c high q b cb W hj (kept h hq) (hQ.on h) hb)
  have C4 := Lib.hid (fun W => case4_any i j x c W)
  have DC := Lib.hid (show dcV i j x c low high = if (decide (x = 1099511627776) || (decide (Zo.gt low i = -1) || decide (Zo.gt low i < c))) = true then 1099511627776
    else if decide (Zo.gt high j = -1) = true then (if i = 0 then 1 else 1099511627776)
    else if decide (c < -Zo.gt high j) = true then -2 * Zo.gt high j
    else x from rfl)
  generalize (decide (x = 1099511627776) || (decide (Zo.gt low i = -1) || decide (Zo.gt low i < c))) = r1 at *
  generalize decide (Zo.gt high j = -1) = r2 at *
  generalize decide (c < -Zo.gt high j) = r3 at *
  generalize (if i = 0 then (1 : Int) else 1099511627776) = v2 at *
  generalize -2 * Zo.gt high j = v3 at *
  generalize dcV i j x c low high = R at *
  unfold mdT at C1 C2 C3 C4
  clear hi hj hp hq hR hQ hb
  obtain ⟨w0, hw0⟩ : ∃ w0, w0 = (w.alloc (.cells #[.func (.func 48) #[] #[.pointer (some ⟨p, 0, none⟩)], .func (.func 49) #[] #[.pointer (some ⟨q, 0, none⟩)], .func (.func 50) #[] #[.pointer (some ⟨q, 0, none⟩)], .func (.func 52) #[] #[]] 70)).alloc (.cells #[.int .i64 i, .int .i64 j, .int .i64 x, .int .i64 c] 92) := ⟨_, rfl⟩
  have e0 : Below w.heap.size w w0 := by rw [hw0]; exact past_two (Below.refl _ _)
  have KS := Lib.hid (show ∀ W, Below w0.heap.size w0 W → (W.cell? ⟨w.heap.size + 1, 0, none⟩ = some (.int .i64 i) ∧ W.cell? ⟨w.heap.size + 1, 1, none⟩ = some (.int .i64 j) ∧ W.cell? ⟨w.heap.size + 1, 2, none⟩ = some (.int .i64 x) ∧ W.cell? ⟨w.heap.size + 1, 3, none⟩ = some (.int .i64 c)) from fun W h => by
    have := four_made (w.alloc (.cells #[.func (.func 48) #[] #[.pointer (some ⟨p, 0, none⟩)], .func (.func 49) #[] #[.pointer (some ⟨q, 0, none⟩)], .func (.func 50) #[] #[.pointer (some ⟨q, 0, none⟩)], .func (.func 52) #[] #[]] 70)) (.int .i64 i) (.int .i64 j) (.int .i64 x) (.int .i64 c) 92
    rw [← hw0] at this
    rw [show ∀ o, (w.alloc o).heap.size = w.heap.size + 1 from fun o => by simp] at this
    exact ⟨kept h this.1, kept h this.2.1, kept h this.2.2.1, kept h this.2.2.2⟩)
  have KR := Lib.hid (show ∀ W, Below w0.heap.size w0 W → (W.cell? ⟨w.heap.size, 0, none⟩ = some (.func (.func 48) #[] #[.pointer (some ⟨p, 0, none⟩)]) ∧ W.cell? ⟨w.heap.size, 1, none⟩ = some (.func (.func 49) #[] #[.pointer (some ⟨q, 0, none⟩)]) ∧ W.cell? ⟨w.heap.size, 2, none⟩ = some (.func (.func 50) #[] #[.pointer (some ⟨q, 0, none⟩)]) ∧ W.cell? ⟨w.heap.size, 3, none⟩ = some (.func (.func 52) #[] #[])) from fun W h => by
    have := four_made w (.func (.func 48) #[] #[.pointer (some ⟨p, 0, none⟩)]) (.func (.func 49) #[] #[.pointer (some ⟨q, 0, none⟩)]) (.func (.func 50) #[] #[.pointer (some ⟨q, 0, none⟩)]) (.func (.func 52) #[] #[]) 70
    have g : ∀ {k : Nat} {v : Value}, (w.alloc (.cells #[.func (.func 48) #[] #[.pointer (some ⟨p, 0, none⟩)], .func (.func 49) #[] #[.pointer (some ⟨q, 0, none⟩)], .func (.func 50) #[] #[.pointer (some ⟨q, 0, none⟩)], .func (.func 52) #[] #[]] 70)).cell? ⟨w.heap.size, k, none⟩ = some v → W.cell? ⟨w.heap.size, k, none⟩ = some v := fun q => kept h (by rw [hw0]; exact kept (one_more _) q)
    exact ⟨g this.1, g this.2.1, g this.2.2.1, g this.2.2.2⟩)
  have E0 := Lib.hid e0
  have HW0 := Lib.hid hw0
  clear e0 hw0
  unfold elV rulesV
  go_enter Try.func46, Try.ntmps46
  go_wp2_with fail
  rw [← HW0.out]
  clear HW0
  go_wp2_with fail
  go_loopw [7, 5, 6] (fun s t u wr => ∃ (k : Nat) (v : Int) (ap : Bool), s = .int .i64 k ∧ t = .int .i64 v ∧ u = .bool ap ∧ k ≤ 4 ∧ Hid (ap = true → v = R) ∧ Hid (ap = false → k ≤ 3 ∧ (1 ≤ k → r1 = false) ∧ (2 ≤ k → r2 = false) ∧ (3 ≤ k → r3 = false)) ∧ Hid (Below w0.heap.size w0 wr)) (fun s _ _ _ => 5 - (intOf s).toNat)
  case atStart => exact ⟨0, 1099511627776, false, rfl, rfl, rfl, by omega, Lib.hid (fun h => by cases h), Lib.hid (fun _ => ⟨by omega, fun h => by omega, fun h => by omega, fun h => by omega⟩), Lib.hid (Below.refl _ _)⟩
  case round =>
    obtain ⟨k, v, ap, rfl, rfl, rfl, hk, HV, HK, HB⟩ := hrel
    cases ap
    · obtain ⟨hk3, h1, h2, h3⟩ := HK.out rfl
      have s1 : Below w0.heap.size w0 wr.drew := HB.out.drew
      have hkk : k = 0 ∨ k = 1 ∨ k = 2 ∨ k = 3 := by omega
      rcases hkk with rfl | rfl | rfl | rfl
      · clear HK
        clear h1 h2 h3
        go_wp2_with fail
        go_region_held3 (fun W => (W.cell? ⟨w.heap.size + 1, 0, none⟩ = some (.int .i64 i) ∧ W.cell? ⟨w.heap.size + 1, 1, none⟩ = some (.int .i64 j) ∧ W.cell? ⟨w.heap.size + 1, 2, none⟩ = some (.int .i64 x) ∧ W.cell? ⟨w.heap.size + 1, 3, none⟩ = some (.int .i64 c)) ∧ (W.cell? ⟨w.heap.size, 0, none⟩ = some (.func (.func 48) #[] #[.pointer (some ⟨p, 0, none⟩)]))) (first | exact ⟨KS.out _ s1, (KR.out _ s1).1⟩ | exact ⟨KS.out _ s2, (KR.out _ s2).1⟩)
          (first | (go_at_call 48; refine (C1.out _ (below_on E0.out s1)).mono ?_; rintro e w2 ⟨rfl, hb2⟩; have s2 := below_on s1 hb2))
        have Q := Lib.hid s2
        clear s1 s2 hb2
        go_wp2_with fail
        go_roundw
        case rel =>
          refine ⟨1, 1099511627776, r1, by go_num, rfl, rfl, by omega, Lib.hid (fun h => ?_), Lib.hid (fun h => ?_), Q⟩
          · rw [DC.out, h]; simp
          · exact ⟨by omega, fun _ => h, fun h => by omega, fun h => by omega⟩
        case measure => simp [intOf]
      · clear HK
        have g1 := h1 (by omega)
        subst g1
        clear h1 h2 h3
        go_wp2_with fail
        go_region_held3 (fun W => (W.cell? ⟨w.heap.size + 1, 0, none⟩ = some (.int .i64 i) ∧ W.cell? ⟨w.heap.size + 1, 1, none⟩ = some (.int .i64 j) ∧ W.cell? ⟨w.heap.size + 1, 2, none⟩ = some (.int .i64 x) ∧ W.cell? ⟨w.heap.size + 1, 3, none⟩ = some (.int .i64 c)) ∧ (W.cell? ⟨w.heap.size, 1, none⟩ = some (.func (.func 49) #[] #[.pointer (some ⟨q, 0, none⟩)]))) (first | exact ⟨KS.out _ s1, (KR.out _ s1).2.1⟩ | exact ⟨KS.out _ s2, (KR.out _ s2).2.1⟩)
          (first | (go_at_call 49; refine (C2.out _ (below_on E0.out s1)).mono ?_; rintro e w2 ⟨rfl, hb2⟩; have s2 := below_on s1 hb2))
        have Q := Lib.hid s2
        clear s1 s2 hb2
        go_wp2_with fail
        go_roundw
        case rel =>
          refine ⟨2, v2, r2, by go_num, rfl, rfl, by omega, Lib.hid (fun h => ?_), Lib.hid (fun h => ?_), Q⟩
          · rw [DC.out, h]; simp
          · exact ⟨by omega, fun _ => by first | rfl | trivial, fun _ => h, fun h => by omega⟩
        case measure => simp [intOf]
      · clear HK
        have g1 := h1 (by omega)
        have g2 := h2 (by omega)
        subst g1 g2
        clear h1 h2 h3
        go_wp2_with fail
        go_region_held3 (fun W => (W.cell? ⟨w.heap.size + 1, 0, none⟩ = some (.int .i64 i) ∧ W.cell? ⟨w.heap.size + 1, 1, none⟩ = some (.int .i64 j) ∧ W.cell? ⟨w.heap.size + 1, 2, none⟩ = some (.int .i64 x) ∧ W.cell? ⟨w.heap.size + 1, 3, none⟩ = some (.int .i64 c)) ∧ (W.cell? ⟨w.heap.size, 2, none⟩ = some (.func (.func 50) #[] #[.pointer (some ⟨q, 0, none⟩)]))) (first | exact ⟨KS.out _ s1, (KR.out _ s1).2.2.1⟩ | exact ⟨KS.out _ s2, (KR.out _ s2).2.2.1⟩)
          (first | (go_at_call 50; refine (C3.out _ (below_on E0.out s1)).mono ?_; rintro e w2 ⟨rfl, hb2⟩; have s2 := below_on s1 hb2))
        have Q := Lib.hid s2
        clear s1 s2 hb2
        go_wp2_with fail
        go_roundw
        case rel =>
          refine ⟨3, v3, r3, by go_num, rfl, rfl, by omega, Lib.hid (fun h => ?_), Lib.hid (fun h => ?_), Q⟩
          · rw [DC.out, h]; simp
          · exact ⟨by omega, fun _ => by first | rfl | trivial, fun _ => by first | rfl | trivial, fun _ => h⟩
        case measure => simp [intOf]
      · clear HK
        have g1 := h1 (by omega)
        have g2 := h2 (by omega)
        have g3 := h3 (by omega)
        subst g1 g2 g3
        clear h1 h2 h3
        go_wp2_with fail
        go_region_held3 (fun W => (W.cell? ⟨w.heap.size + 1, 0, none⟩ = some (.int .i64 i) ∧ W.cell? ⟨w.heap.size + 1, 1, none⟩ = some (.int .i64 j) ∧ W.cell? ⟨w.heap.size + 1, 2, none⟩ = some (.int .i64 x) ∧ W.cell? ⟨w.heap.size + 1, 3, none⟩ = some (.int .i64 c)) ∧ (W.cell? ⟨w.heap.size, 3, none⟩ = some (.func (.func 52) #[] #[]))) (first | exact ⟨KS.out _ s1, (KR.out _ s1).2.2.2⟩ | exact ⟨KS.out _ s2, (KR.out _ s2).2.2.2⟩)
          (first | (go_at_call 52; refine (C4.out _).mono ?_; rintro e w2 ⟨rfl, hb2⟩; have s2 := below_on s1 hb2))
        have Q := Lib.hid s2
        clear s1 s2 hb2
        go_wp2_with fail
        go_roundw
        case rel =>
          refine ⟨4, x, true, by go_num, rfl, rfl, by omega, Lib.hid (fun h => ?_), Lib.hid (fun h => ?_), Q⟩
          · rw [DC.out]; simp
          · cases h
        case measure => simp [intOf]
    · go_wp2_with fail
      go_ret
      exact ⟨ret_int (by simpa using HV.out), below_on E0.out HB.out⟩
end Go.Proofs.Ytgdcclldgfcilaa

namespace Go.Proofs.Ytgdcclldgfcilaa
open Go.RowKit

theorem rules_size (w : World) (p q : Nat) : (w.alloc (.cells #[.func (.func 48) #[] #[.pointer (some ⟨p, 0, none⟩)], .func (.func 49) #[] #[.pointer (some ⟨q, 0, none⟩)], .func (.func 50) #[] #[.pointer (some ⟨q, 0, none⟩)], .func (.func 52) #[] #[]] 70)).heap.size = w.heap.size + 1 := by simp

set_option maxRecDepth 100000 in
set_option maxHeartbeats 1000000 in
theorem cases_any (lo ho : Option Addr) (ll hl lc hc : Nat) (w : World) :
    Calls Try.prog 32 #[.slice lo ll lc, .slice ho hl hc] w (fun e w' => Below w.heap.size w w' ∧ e = .returned (rulesV w.heap.size (w.heap.size + 1)) ∧ w'.cell? ⟨w.heap.size, 0, none⟩ = some (.slice lo ll lc) ∧ w'.cell? ⟨w.heap.size + 1, 0, none⟩ = some (.slice ho hl hc)) := by
  have hmf : ∀ (fn : Fn) (first cap : Array Value) (W : World), (Instr.makeFunc fn first cap).run Try.prog W = .ok (.func fn first cap) W := fun _ _ _ _ => rfl
  have B1 := Lib.hid (fun o : Obj => one_more (w1 := w) o)
  have B2 := Lib.hid (fun o p : Obj => show Below w.heap.size w ((w.alloc o).alloc p) from past_two (Below.refl _ _))
  have B3 := Lib.hid (fun o p q : Obj => show Below w.heap.size w (((w.alloc o).alloc p).alloc q) from past_three (Below.refl _ _))
  have c0 := Lib.hid (show ∀ o p : Obj, (((w.alloc (.cells #[.slice lo ll lc] 25)).alloc o).alloc p).cell? ⟨w.heap.size, 0, none⟩ = some (.slice lo ll lc) from fun o p => by
    have : (w.alloc (.cells #[.slice lo ll lc] 25)).cell? ⟨w.heap.size, 0, none⟩ = some (.slice lo ll lc) := by go_simp
    exact kept (past_two (Below.refl _ _)) this)
  have c1 := Lib.hid (show ∀ o p : Obj, (((w.alloc o).alloc (.cells #[.slice ho hl hc] 25)).alloc p).cell? ⟨w.heap.size + 1, 0, none⟩ = some (.slice ho hl hc) from fun o p => by
    have : ((w.alloc o).alloc (.cells #[.slice ho hl hc] 25)).cell? ⟨w.heap.size + 1, 0, none⟩ = some (.slice ho hl hc) := by go_simp
    exact kept (one_more _) this)
  go_enter Try.func32, Try.ntmps32
  go_wp2_with fail
  refine bodyPost_ret (v := rulesV w.heap.size (w.heap.size + 1)) (by simp [results, Try.results32, go_sem, rulesV]) rfl ⟨B3.out _ _ _, rfl, c0.out _ _, c1.out _ _⟩
end Go.Proofs.Ytgdcclldgfcilaa

namespace Go.Proofs.Ytgdcclldgfcilaa
open Go.RowKit

/-- A matrix's limits as the array of 121 has them. -/
def pad (l : List Int) : List Int := l ++ List.replicate (121 - l.length) 0

/-- The cells of a matrix. -/
def mcs (n : Nat) (l : List Int) : Array Value := ⟨.int .i64 n :: (pad l).map (Value.int .i64)⟩

/-- Block b holds a matrix: its dimension and its limits. -/
def Mx (w : World) (b n : Nat) (l : List Int) : Prop := w.heap[b]? = some (.cells (mcs n l) 82 (0, 0)) ∧ l.length = (n + 1) * (n + 1)

theorem Mx.lt {w : World} {b n : Nat} {l : List Int} (h : Mx w b n l) : b < w.heap.size := by
  by_cases e : b < w.heap.size
  · exact e
  · have := h.1; rw [Array.getElem?_eq_none (by omega)] at this; cases this

theorem Mx.cell {w : World} {b n : Nat} {l : List Int} (h : Mx w b n l) (j : Nat) : w.cell? ⟨b, j, none⟩ = (mcs n l)[j]? := cell_of_row w b j _ _ _ h.1

theorem Mx.dim {w : World} {b n : Nat} {l : List Int} (h : Mx w b n l) : w.cell? ⟨b, 0, none⟩ = some (.int .i64 n) := by rw [h.cell]; rfl

theorem Mx.at {w : World} {b n : Nat} {l : List Int} (h : Mx w b n l) {j : Nat} (hj : j < l.length) : w.cell? ⟨b, 1 + j, none⟩ = some (.int .i64 (Zo.gt l j)) := by
  rw [h.cell, Nat.add_comm]
  simp [mcs, pad, Zo.gt, hj, List.getElem?_append]

theorem Mx.free {w : World} {b n : Nat} {l : List Int} (h : Mx w b n l) (j : Nat) : w.frozen? ⟨b, j, none⟩ = false := frozen_of_row w b j _ _ h.1

theorem pad_set (l : List Int) (j : Nat) (x : Int) (hj : j < l.length) : (pad l).set j x = pad (l.set j x) := by
  unfold pad; rw [List.set_append_left _ _ hj, List.length_set]

theorem Mx.put {w : World} {b n : Nat} {l : List Int} (h : Mx w b n l) (j : Nat) (x : Int) (hj : j < l.length) : Mx (w.setCell ⟨b, 1 + j, none⟩ (.int .i64 x)) b n (l.set j x) := by
  refine ⟨?_, by simpa using h.2⟩
  rw [heap_setCell_same w b _ _ _ _ h.1]
  congr 2
  rw [Nat.add_comm]
  simp [mcs, ← pad_set l j x hj, List.map_set]

theorem Mx.of_block {w w' : World} {b n : Nat} {l : List Int} (h : Mx w b n l) (e : w'.heap[b]? = w.heap[b]?) : Mx w' b n l := ⟨e.trans h.1, h.2⟩

theorem Mx.kept {w w' : World} {b n : Nat} {l : List Int} {r : Option Nat} (h : Mx w b n l) (hg : w.grownBy w' r) (hne : some b ≠ r) : Mx w' b n l := h.of_block (hg.block b h.lt hne)

theorem Mx.alloc {w : World} {b n : Nat} {l : List Int} (h : Mx w b n l) (o : Obj) : Mx (w.alloc o) b n l := h.of_block (heap_alloc_old w o h.lt)

theorem Mx.drew {w : World} {b n : Nat} {l : List Int} (h : Mx w b n l) : Mx w.drew b n l := h.of_block rfl

theorem grown_put (w : World) (b j : Nat) (v : Value) : w.grownBy (w.setCell ⟨b, j, none⟩ v) (some b) :=
  ⟨rfl, rfl, rfl, by simp, fun k _ hk => heap_setCell_other w ⟨b, j, none⟩ k v (fun e => hk (by simp [e]))⟩

theorem cells_ty : Try.prog.underlying 80 = some (.array 121 39) := by kernel_rfl

theorem limit_size (w : World) : (sizeOf 39).run Try.prog w = .ok 1 w := by
  have h : (Try.prog.info? 39).map (fun i => (i.zero, i.size)) = some (some (.int .i64 0), 1) := by kernel_rfl
  cases hq : Try.prog.info? 39 with
  | none => simp [hq] at h
  | some i => simp [hq] at h; simp [sizeOf, typeInfo, hq, h.2]

/-- A part of the cells of a matrix, as a slice. -/
theorem run_part (b : Nat) (x y : Int) (lo k : Nat) (hx : x = lo) (hy : y = ((lo + k : Nat) : Int)) (hk : 0 < k) (hm : lo + k ≤ 121) (w : World) :
    (Instr.sliceAt 80 (.pointer (some ⟨b, 1, none⟩)) (some (.int .i64 x)) (some (.int .i64 y)) (some (.int .i64 y))).run Try.prog w = .ok (.slice (some ⟨b, 1 + lo, none⟩) k k) w := by
  subst hx; subst hy
  have ha : Try.prog.arrayLen 80 = 121 := by simp [Program.arrayLen]
  have he : Try.prog.elem 80 = 39 := by simp [Program.elem]
  rw [run_sliceAt_array_lhm w 80 ⟨b, 1, none⟩ (by rw [ha, he]; exact cells_ty) .i64 .i64 .i64 lo (lo + k : Nat) (lo + k : Nat) (by omega) (by omega) (by omega) (by rw [ha]; omega)]
  rw [he, limit_size]
  simp only [Result.andThen_ok, slicedAt, Int.toNat_natCast]
  rw [if_neg (by omega), Addr.add_mid, Nat.mul_one, show lo + k - lo = k by omega]

set_option maxRecDepth 100000 in
set_option maxHeartbeats 400000 in
theorem row_any (b n i : Nat) (w : World) (hn : n ≤ 10) (hi : i ≤ n) (h : w.cell? ⟨b, 0, none⟩ = some (.int .i64 n)) :
    Calls Try.prog 64 #[.pointer (some ⟨b, 0, none⟩), .int .i64 i] w (Still (.slice (some ⟨b, 1 + i * (n + 1), none⟩) (n + 1) (n + 1)) w) := by
  have t1 : ((i : Int) + 1) * ((n : Int) + 1) = (i : Int) * ((n : Int) + 1) + ((n : Int) + 1) := by rw [Int.add_mul, Int.one_mul]
  have t0 : i * (n + 1) ≤ 10 * 11 := Nat.mul_le_mul (by omega) (by omega)
  have t3 : (i : Int) * ((n : Int) + 1) ≤ 110 ∧ 0 ≤ (i : Int) * ((n : Int) + 1) := by
    constructor
    · exact_mod_cast t0
    · exact_mod_cast Nat.zero_le _
  have hs := run_part b ((i : Int) * ((n : Int) + 1)) ((i : Int) * ((n : Int) + 1) + ((n : Int) + 1)) (i * (n + 1)) (n + 1) (by push_cast; rfl) (by push_cast; rfl) (by omega) (by omega)
  clear t0
  go_enter Try.func64, Try.ntmps64
  go_wp2_with fail
  go_ret
  exact ⟨rfl, rfl⟩

set_option maxRecDepth 100000 in
set_option maxHeartbeats 400000 in
/-- tighten: the element at a place becomes the lesser of itself and another limit. -/
theorem tighten_any (b n i j : Nat) (x : Int) (l : List Int) (w : World) (hn : n ≤ 10) (hi : i ≤ n) (hj : j ≤ n) (h : Mx w b n l) :
    Calls Try.prog 63 #[.pointer (some ⟨b, 0, none⟩), .int .i64 i, .int .i64 j, .int .i64 x] w
      (fun e w' => e = .returned (.tuple #[]) ∧ w.grownBy w' (some b) ∧ Mx w' b n (l.set (Zo.ix n i j) (imin (Zo.At n l i j) x))) := by
  have t1 := Zo.ix_lt hi hj
  have t0 : i * (n + 1) ≤ 10 * 11 := Nat.mul_le_mul (by omega) (by omega)
  have hl := h.2
  have t2 : Zo.ix n i j < l.length := by rw [hl]; exact t1
  have hc : w.cell? ⟨b, 1 + i * (n + 1) + j, none⟩ = some (.int .i64 (Zo.At n l i j)) := by rw [Nat.add_assoc]; exact h.at t2
  have hf := h.free (1 + i * (n + 1) + j)
  have PR := Lib.hid (row_any b n i w hn hi h.dim)
  have HM := Lib.hid (h.put (Zo.ix n i j) (imin (Zo.At n l i j) x) t2)
  have hm := run_imin (Zo.At n l i j) x
  clear t1 t0 h hl t2
  go_enter Try.func63, Try.ntmps63
  go_wp2_with fail
  refine PR.out.mono ?_
  rintro e w1 ⟨rfl, rfl⟩
  go_wp2_with fail
  go_end0
  refine ⟨rfl, ?_, ?_⟩
  · exact grown_put _ _ _ _
  · have := HM.out
    rwa [show 1 + Zo.ix n i j = 1 + i * (n + 1) + j by unfold Zo.ix; omega] at this
end Go.Proofs.Ytgdcclldgfcilaa

namespace Go.Proofs.Ytgdcclldgfcilaa
open Go.RowKit

theorem or1_i64 (a b : Int) : bits .and .i64 (bits .or .i64 a b) 1 = if a % 2 = 0 ∧ b % 2 = 0 then 0 else 1 := by
  rw [and1_i64]
  show (IntKind.i64.wrap (((BitVec.ofInt 64 a ||| BitVec.ofInt 64 b).toNat : Nat) : Int)) % 2 = _
  have hw : ∀ m : Nat, (IntKind.i64.wrap (m : Int)) % 2 = ((m % 2 : Nat) : Int) := by
    intro m; simp [IntKind.wrap, IntKind.bits, IntKind.signed]; omega
  rw [hw, BitVec.toNat_or]
  have ho : ∀ x y : Nat, (x ||| y) % 2 = if x % 2 = 0 ∧ y % 2 = 0 then 0 else 1 := by
    intro x y
    have := Nat.or_mod_two_pow (a := x) (b := y) (n := 1)
    simp only [Nat.pow_one] at this
    rw [this]
    rcases Nat.mod_two_eq_zero_or_one x with hx | hx <;> rcases Nat.mod_two_eq_zero_or_one y with hy | hy <;> rw [hx, hy] <;> rfl
  rw [ho]
  have e : ∀ x : Int, (BitVec.ofInt 64 x).toNat % 2 = 0 ↔ x % 2 = 0 := by
    intro x
    rw [BitVec.toNat_ofInt]
    have : ((2 ^ 64 : Nat) : Int) = 18446744073709551616 := by decide
    rw [this]; omega
  simp only [e]
  split <;> rfl

set_option maxHeartbeats 400000 in
theorem zsum_any (a b : Int) (w : World) : Calls Try.prog 65 #[.int .i64 a, .int .i64 b] w (Still (.int .i64 (Zo.smW a b)) w) := by
  by_cases na : a = 1099511627776
  · have A0 : (a == 1099511627776) = true := by simpa using na
    have H := Lib.hid (show Zo.smW a b = 1099511627776 by unfold Zo.smW; rw [if_pos (Or.inl na)])
    clear na
    go_enter Try.func65, Try.ntmps65
    go_wp2_with fail
    go_ret
    exact ⟨ret_int H.out.symm, rfl⟩
  have A0 : (a == 1099511627776) = false := by simpa using na
  by_cases nb : b = 1099511627776
  · have B0 : (b == 1099511627776) = true := by simpa using nb
    have H := Lib.hid (show Zo.smW a b = 1099511627776 by unfold Zo.smW; rw [if_pos (Or.inr nb)])
    clear na nb
    go_enter Try.func65, Try.ntmps65
    go_wp2_with fail
    go_ret
    exact ⟨ret_int H.out.symm, rfl⟩
  have B0 : (b == 1099511627776) = false := by simpa using nb
  have h0 : ¬ (a = 1099511627776 ∨ b = 1099511627776) := by omega
  go_enter Try.func65, Try.ntmps65
  go_wp2_with fail
  go_ret
  refine ⟨ret_int ?_, rfl⟩
  rw [or1_i64, w64_eq, w64_eq]
  unfold Zo.smW
  rw [if_neg h0]
  split
  · rw [Int.sub_zero]; unfold Zo.w64; omega
  · rfl

set_option maxHeartbeats 400000 in
theorem isDimension_any (n : Int) (w : World) : Calls Try.prog 57 #[.int .i64 n] w (Still (.bool (dimB n)) w) := by
  by_cases h : 0 ≤ n
  · by_cases g : n ≤ 10
    · have H := Lib.hid (show dimB n = true by unfold dimB; simp; omega)
      go_enter Try.func57, Try.ntmps57
      go_wp2_with fail
      go_ret
      exact ⟨ret_bool H.out.symm, rfl⟩
    · have H := Lib.hid (show dimB n = false by unfold dimB; simp; omega)
      have D : decide (n ≤ (10 : Int)) = false := by simp; omega
      go_enter Try.func57, Try.ntmps57
      go_wp2_with fail
      go_ret
      exact ⟨ret_bool H.out.symm, rfl⟩
  · have H := Lib.hid (show dimB n = false by unfold dimB; simp; omega)
    have D : decide ((0 : Int) ≤ n) = false := by simp; omega
    go_enter Try.func57, Try.ntmps57
    go_wp2_with fail
    go_ret
    exact ⟨ret_bool H.out.symm, rfl⟩

theorem places_any (n : Nat) (w : World) (hn : n ≤ 10) : Calls Try.prog 58 #[.int .i64 n] w (Still (.int .i64 ((n + 1) * (n + 1) : Nat)) w) := by
  have t3 : ((n : Int) + 1) * ((n : Int) + 1) ≤ 121 ∧ 0 ≤ ((n : Int) + 1) * ((n : Int) + 1) := by
    have : (n + 1) * (n + 1) ≤ 11 * 11 := Nat.mul_le_mul (by omega) (by omega)
    constructor
    · exact_mod_cast this
    · exact_mod_cast Nat.zero_le _
  have H := Lib.hid (show (((n + 1) * (n + 1) : Nat) : Int) = ((n : Int) + 1) * ((n : Int) + 1) by push_cast; rfl)
  go_enter Try.func58, Try.ntmps58
  go_wp2_with fail
  go_ret
  exact ⟨ret_int H.out.symm, rfl⟩
end Go.Proofs.Ytgdcclldgfcilaa

namespace Go.Proofs.Ytgdcclldgfcilaa
open Go.RowKit

/-- The matrix at b has become l; else nothing from before has turned. -/
def MSt (w0 : World) (b n : Nat) (l : List Int) (w : World) : Prop := Mx w b n l ∧ w0.grownBy w (some b)

theorem MSt.drew {w0 w : World} {b n : Nat} {l : List Int} (h : MSt w0 b n l w) : MSt w0 b n l w.drew :=
  ⟨h.1.drew, grown_trans h.2 ⟨rfl, rfl, rfl, Nat.le_refl _, fun _ _ _ => rfl⟩⟩

theorem MSt.put {w0 w : World} {b n : Nat} {l : List Int} (h : MSt w0 b n l w) (j : Nat) (x : Int) (hj : j < l.length) : MSt w0 b n (l.set j x) (w.setCell ⟨b, 1 + j, none⟩ (.int .i64 x)) :=
  ⟨h.1.put j x hj, grown_trans h.2 (grown_put _ _ _ _)⟩

theorem tighten_st {w0 : World} {b n i j : Nat} {l : List Int} {w : World} (x : Int) (hn : n ≤ 10) (hi : i ≤ n) (hj : j ≤ n) (h : MSt w0 b n l w) :
    Calls Try.prog 63 #[.pointer (some ⟨b, 0, none⟩), .int .i64 i, .int .i64 j, .int .i64 x] w
      (fun e w' => e = .returned (.tuple #[]) ∧ MSt w0 b n (l.set (Zo.ix n i j) (imin (Zo.At n l i j) x)) w') := by
  refine (tighten_any b n i j x l w hn hi hj h.1).mono ?_
  rintro e w' ⟨rfl, hg, hM⟩
  exact ⟨rfl, hM, grown_trans h.2 hg⟩

theorem st1_code {n : Nat} {l : List Int} (hl : l.length = (n + 1) * (n + 1)) {j : Nat} (hj : j ≤ n) :
    (l.set (Zo.ix n j j) (imin (Zo.At n l j j) 1)).set (Zo.ix n 0 j) (imin (Zo.At n (l.set (Zo.ix n j j) (imin (Zo.At n l j j) 1)) 0 j) 1) = Zo.st1 n l j := Zo.st1_eq hl hj

theorem st1_len {n : Nat} {l : List Int} (hl : l.length = (n + 1) * (n + 1)) (j : Nat) : (Zo.st1 n l j).length = (n + 1) * (n + 1) := by simpa [Zo.st1] using hl

set_option maxRecDepth 100000 in
set_option maxHeartbeats 4000000 in
theorem shorten_any (b n : Nat) (l : List Int) (w : World) (hn : n ≤ 10) (h : Mx w b n l) (h64 : Zo.A64 l) :
    Calls Try.prog 55 #[.pointer (some ⟨b, 0, none⟩)] w
      (fun e w' => e = .returned (.bool (!cloB n l)) ∧ ∃ l', MSt w b n l' w' ∧ (cloB n l = false → l' = Zo.clo n l)) := by
  have hl := h.2
  have HM := Lib.hid (show MSt w b n l w from ⟨h, World.grownBy.refl _ _⟩)
  have H64 := Lib.hid h64
  have hb := h.lt
  have KD := Lib.hid (show ∀ (x : List Int) (w' : World), MSt w b n x w' → w'.cell? ⟨b, 0, none⟩ = some (.int .i64 n) from fun x w' h => h.1.dim)
  have TT := Lib.hid (fun (x : List Int) (i j : Nat) (hi : i ≤ n) (hj : j ≤ n) (w' : World) (h : MSt w b n x w') => tighten_st (i := i) (j := j) 1 hn hi hj h)
  have TR := Lib.hid (fun (x : List Int) (i : Nat) (hi : i ≤ n) (w' : World) (h : MSt w b n x w') => row_any b n i w' hn hi h.1.dim)
  have c0 := h.dim
  clear h h64
  go_enter Try.func55, Try.ntmps55
  go_wp2_with fail
  clear c0
  go_loopw [15] (fun s wr => ∃ (t : Nat) (x : List Int), t ≤ n + 1 ∧ s = .int .i64 t ∧ Hid (x.length = (n + 1) * (n + 1) ∧ x = (List.range t).foldl (Zo.st1 n) l ∧ MSt w b n x wr)) (fun s _ => n + 1 - (intOf s).toNat)
  case atStart => exact ⟨0, l, by omega, rfl, Lib.hid ⟨hl, rfl, HM.out⟩⟩
  case round =>
    obtain ⟨t, x, ht, rfl, HX⟩ := hrel
    have c0 := KD.out _ _ HX.out.2.2
    by_cases htn : t ≤ n
    · go_wp2_with fail
      refine (TT.out _ _ _ htn htn _ HX.out.2.2).mono ?_
      rintro e w1 ⟨rfl, hm1⟩
      have H1 := Lib.hid hm1
      clear hm1 c0
      go_wp2_with fail
      refine (TT.out _ 0 t (by omega) htn _ H1.out).mono ?_
      rintro e w2 ⟨rfl, hm2⟩
      have H2 := Lib.hid hm2
      clear hm2
      go_wp2_with fail
      go_roundw
      case rel => exact ⟨t + 1, _, by omega, by go_num, Lib.hid ⟨st1_len HX.out.1 t, by rw [Zo.fold_succ, ← HX.out.2.1], by have := H2.out; rwa [st1_code HX.out.1 htn] at this⟩⟩
      case measure => simp [intOf]; omega
    · have HS := Lib.hid (show x.length = (n + 1) * (n + 1) ∧ Zo.Mid n l 0 0 x ∧ MSt w b n x _ from ⟨HX.out.1, by have := Zo.Mid.start hl H64.out; rwa [show Zo.pre n l = x by rw [HX.out.2.1, show t = n + 1 by omega]; rfl] at this, HX.out.2.2⟩)
      go_wp2_with fail
      clear c0
      go_loopw [31] (fun s wr => ∃ (t : Nat) (x : List Int), t ≤ n + 1 ∧ s = .int .i64 t ∧ Hid (x.length = (n + 1) * (n + 1) ∧ Zo.Mid n l t 0 x ∧ MSt w b n x wr)) (fun s _ => n + 1 - (intOf s).toNat)
      case atStart => exact ⟨0, x, by omega, rfl, HS⟩
      case round =>
        clear HS HX
        clear x
        obtain ⟨k, xk, hk, rfl, HK⟩ := hrel
        by_cases hkn : k ≤ n
        · go_wp2_with fail
          refine (TR.out _ _ hkn _ HK.out.2.2).mono ?_
          rintro e w1 ⟨rfl, rfl⟩
          have c0 := KD.out _ _ HK.out.2.2
          go_wp2_with fail
          clear c0
          go_loopw [42] (fun s wr => ∃ (t : Nat) (x : List Int), t ≤ n + 1 ∧ s = .int .i64 t ∧ Hid (x.length = (n + 1) * (n + 1) ∧ Zo.Mid n l k t x ∧ MSt w b n x wr)) (fun s _ => n + 1 - (intOf s).toNat)
          case atStart => exact ⟨0, xk, by omega, rfl, HK⟩
          case round =>
            obtain ⟨i, xi, hi, rfl, HI⟩ := hrel
            by_cases hin : i ≤ n
            · go_wp2_with fail
              refine (TR.out _ _ hin _ HI.out.2.2).mono ?_
              rintro e w1 ⟨rfl, rfl⟩
              have c0 := KD.out _ _ HI.out.2.2
              obtain ⟨c, hc⟩ : ∃ c, c = Zo.At n xi i k := ⟨_, rfl⟩
              have HC := Lib.hid hc
              have tik := Zo.ix_lt hin hkn
              have c1 : w1.cell? ⟨b, 1 + i * (n + 1) + k, none⟩ = some (.int .i64 c) := by
                rw [hc, Nat.add_assoc]; exact HI.out.2.2.1.at (by rw [HI.out.1]; exact tik)
              clear hc tik
              go_wp2_with fail
              clear c0 c1
              go_loopw [57] (fun s wr => ∃ (t : Nat) (x : List Int), t ≤ n + 1 ∧ s = .int .i64 t ∧ Hid (x.length = (n + 1) * (n + 1) ∧ x = (List.range t).foldl (Zo.prw n k i c) xi ∧ MSt w b n x wr)) (fun s _ => n + 1 - (intOf s).toNat)
              case atStart => exact ⟨0, xi, by omega, rfl, Lib.hid ⟨HI.out.1, rfl, HI.out.2.2⟩⟩
              case round =>
                obtain ⟨j, xj, hj, rfl, HJ⟩ := hrel
                by_cases hjn : j ≤ n
                · have tij := Zo.ix_lt hin hjn
                  have tkj := Zo.ix_lt hkn hjn
                  have c1 : ∀ w', MSt w b n xj w' → w'.cell? ⟨b, 1 + i * (n + 1) + j, none⟩ = some (.int .i64 (Zo.At n xj i j)) := fun w' h => by
                    rw [Nat.add_assoc]; exact h.1.at (by rw [HJ.out.1]; exact tij)
                  have c2 : ∀ w', MSt w b n xj w' → w'.cell? ⟨b, 1 + k * (n + 1) + j, none⟩ = some (.int .i64 (Zo.At n xj k j)) := fun w' h => by
                    rw [Nat.add_assoc]; exact h.1.at (by rw [HJ.out.1]; exact tkj)
                  have f1 : ∀ w', MSt w b n xj w' → w'.frozen? ⟨b, 1 + i * (n + 1) + j, none⟩ = false := fun w' h => h.1.free _
                  have ST := Lib.hid (show ∀ w' x, MSt w b n xj w' → MSt w b n (xj.set (Zo.ix n i j) x) (w'.setCell ⟨b, 1 + i * (n + 1) + j, none⟩ (.int .i64 x)) from fun w' x h => by
                    have := h.put (Zo.ix n i j) x (by rw [HJ.out.1]; exact tij)
                    rwa [show 1 + Zo.ix n i j = 1 + i * (n + 1) + j by unfold Zo.ix; omega] at this)
                  have hm := run_imin (Zo.At n xj i j) (Zo.smW c (Zo.At n xj k j))
                  have PS := zsum_any c (Zo.At n xj k j)
                  have d1 := c1 _ HJ.out.2.2
                  have d2 := c2 _ HJ.out.2.2
                  have d3 := f1 _ HJ.out.2.2
                  go_wp2_with fail
                  go_still_tail 14, (by kernel_rfl)
                  still_call (PS _)
                  repeat still_step
                  refine wpStill_nil ?_
                  clear d1 d2 d3
                  have HD := Lib.hid HJ.out.2.2.drew
                  have d1 := c1 _ HD.out
                  have d3 := f1 _ HD.out
                  change wpList _ _ _ _ _ (World.drew _)
                  go_wp2_with fail
                  have S4 := Lib.hid (ST.out _ (imin (Zo.At n xj i j) (Zo.smW c (Zo.At n xj k j))) HD.out)
                  clear hm PS c1 c2 f1 ST d1 d3 HD
                  go_roundw
                  case rel => exact ⟨j + 1, _, by omega, by go_num, Lib.hid ⟨by simpa using HJ.out.1, by rw [Zo.fold_succ, ← HJ.out.2.1]; rfl, S4.out⟩⟩
                  case measure => simp [intOf]; omega
                · have HR := Lib.hid (show xj = (List.range (n + 1)).foldl (Zo.prw n k i (Zo.At n xi i k)) xi by rw [← HC.out, show n + 1 = j by omega]; exact HJ.out.2.1)
                  have HL := Lib.hid HJ.out.1
                  have HW := Lib.hid HJ.out.2.2
                  have tii := Zo.ix_lt hin hin
                  obtain ⟨d, hd⟩ : ∃ d, d = Zo.At n xj i i := ⟨_, rfl⟩
                  have c1 : ∀ w', MSt w b n xj w' → w'.cell? ⟨b, 1 + i * (n + 1) + i, none⟩ = some (.int .i64 d) := fun w' h => by
                    rw [hd, Nat.add_assoc]; exact h.1.at (by rw [HL.out]; exact tii)
                  have d1 := c1 _ HW.out
                  have HDd := Lib.hid hd
                  clear hd tii
                  by_cases hneg : d < 1
                  · have HB := Lib.hid (show cloB n l = true by
                      unfold cloB; rw [List.any_eq_true]
                      refine ⟨i, by simp; omega, ?_⟩
                      simpa using Zo.Mid.bad hl hkn hin HI.out.2.1 HR.out (by rw [← HDd.out]; exact hneg))
                    have D : decide (d < 1) = true := by simpa using hneg
                    clear c1
                    go_wp2_with fail
                    go_ret
                    exact ⟨ret_bool (by rw [HB.out]; rfl), _, HW.out, fun h => by rw [HB.out] at h; cases h⟩
                  · have HN := Lib.hid (Zo.Mid.row hkn hin HI.out.2.1 HR.out (by rw [← HDd.out]; omega))
                    have D : decide (d < 1) = false := by simpa using hneg
                    clear c1
                    go_wp2_with fail
                    clear d1 D
                    go_roundw
                    case rel => exact ⟨i + 1, xj, by omega, by go_num, Lib.hid ⟨HL.out, HN.out, HW.out⟩⟩
                    case measure => simp [intOf]; omega
            · have HN := Lib.hid (show Zo.Mid n l (k + 1) 0 xi from Zo.Mid.round (by have := HI.out.2.1; rwa [show i = n + 1 by omega] at this))
              go_wp2_with fail
              go_roundw
              case rel => exact ⟨k + 1, xi, by omega, by go_num, Lib.hid ⟨HI.out.1, HN.out, HI.out.2.2⟩⟩
              case measure => simp [intOf]; omega
        · have HN := Lib.hid (show Zo.Mid n l (n + 1) 0 xk by have := HK.out.2.1; rwa [show k = n + 1 by omega] at this)
          have HB := Lib.hid (show cloB n l = false from cloB_no fun i hi => by have := HN.out.done.2 i (by omega); omega)
          go_wp2_with fail
          go_ret
          exact ⟨ret_bool (by rw [HB.out]; rfl), _, HK.out.2.2, fun _ => HN.out.done.1⟩
end Go.Proofs.Ytgdcclldgfcilaa

namespace Go.Proofs.Ytgdcclldgfcilaa
open Go.RowKit

theorem run_nil_cmp (w : World) (a : Option Addr) (n c : Nat) : (binOp .eql 22 (.slice a n c) (.slice none 0 0)).run Try.prog w = .ok (.bool a.isNone) w := Lib.run_eql_slice_nil w _ _ a n c 0 0 Try.underlying22

set_option maxRecDepth 100000 in
set_option maxHeartbeats 2000000 in
theorem clone_any (l : List Int) (b off : Nat) (cap : Nat) (w : World) (h0 : 0 < l.length) (h1 : l.length ≤ 1000) (hR : Rd w ⟨b, off, none⟩ l) :
    Calls Try.prog 45 #[.slice (some ⟨b, off, none⟩) l.length cap] w
      (fun e w' => ∃ g c, e = .returned (.slice (some ⟨g, 0, none⟩) l.length c) ∧ w.heap.size ≤ g ∧ Own w' g c l ∧ Below w.heap.size w w') := by
  obtain ⟨i0, hi, hz0, hz1, hz2⟩ := info_parts Try.info39
  have q := run_nil_cmp
  have A := Lib.hid (show ∀ (w' : World), Below w.heap.size w w' → ∀ j u, (l.map (Value.int .i64))[j]? = some u → w'.cell? ((⟨b, off, none⟩ : Addr).add j) = some u from fun w' h => (hR.on h).map)
  have l1 : (l.map (Value.int .i64)).length = l.length * 1 := by simp
  have o1 : ∀ u ∈ l.map (Value.int .i64), u.oneCell' = true := by simp [Value.oneCell']
  generalize hxs : l.map (Value.int .i64) = xs at *
  have HXS := Lib.hid hxs
  clear hxs hR
  generalize hlen : l.length = len at *
  have HLEN := Lib.hid hlen
  clear hlen
  go_enter Try.func45, Try.ntmps45
  go_wp2_with (at_builtin; refine wpList_append_own _ rfl _ _ 22 rfl w.heap.size 39 i0 (.int .i64 0) 1 8 Try.underlying22 hi hz0 hz1 hz2 rfl (by decide) _ _ _ rfl (World.ownsRow_made w #[] 0 (Nat.le_refl _) (Nat.zero_le _) (by simp)) ⟨b, off, none⟩ len cap xs rfl ?qc1 ?qc2 ?qc3 ?qc4 ?qc5 ?qc6 ?_)
  case qc1 => exact l1
  case qc2 =>
    intro j u hj
    exact A.out _ (one_more (.cells #[] 39)) j u hj
  case qc3 => exact o1
  case qc4 => unfold maxLen; omega
  case qc5 => omega
  case qc6 => simp
  intro v' w1 hown hgrow hnil
  have hown' : w1.ownsRow w.heap.size 39 1 v' len xs := by simpa using hown
  obtain ⟨g, c, rfl⟩ := Joins.ownsRow_form hown' (by omega)
  go_wp2
  go_ret
  obtain ⟨ho, hg⟩ := own_of hown' HXS.out.symm HLEN.out.symm
  exact ⟨g, c, rfl, hg, ho, ((Below.refl _ w).alloc (Nat.le_refl _) _).grown hgrow (by simp) (by intro k hk; simp [Value.ownBlock] at hk; omega)⟩

/-- The first elements of a matrix, as a slice. -/
theorem run_head (b : Nat) (y : Int) (k : Nat) (hy : y = (k : Int)) (hm : k ≤ 121) (w : World) :
    (Instr.sliceAt 80 (.pointer (some ⟨b, 1, none⟩)) none (some (.int .i64 y)) none).run Try.prog w = .ok (.slice (some ⟨b, 1, none⟩) k 121) w := by
  subst hy
  have ha : Try.prog.arrayLen 80 = 121 := by simp [Program.arrayLen]
  have he : Try.prog.elem 80 = 39 := by simp [Program.elem]
  rw [run_sliceAt_array_h w 80 ⟨b, 1, none⟩ (by rw [ha, he]; exact cells_ty) .i64 k (by omega) (by rw [ha]; omega)]
  rw [he, limit_size]
  simp only [Result.andThen_ok, slicedAt, Int.toNat_natCast, ha]
  rw [if_neg (by omega), Addr.add_mid]
  rfl

/-- What the method zone leaves: with no error a new row, else the zero zone; of what was there only block b has turned. -/
def GRes (b : Nat) (w : World) (N : Int) (l : List Int) (er : Int) (e : Ending) (w' : World) : Prop :=
  w.grownBy w' (some b) ∧ ((er = 0 ∧ ∃ g c, e = .returned (.tuple #[.agg #[.int .i64 N, .slice (some ⟨g, 0, none⟩) l.length c], .int .i64 0]) ∧ w.heap.size ≤ g ∧ Own w' g c l) ∨
    (er ≠ 0 ∧ e = .returned (.tuple #[.agg #[.int .i64 0, .slice none 0 0], .int .i64 er])))

theorem GRes.below {b : Nat} {w0 w : World} {N : Int} {l : List Int} {er : Int} {e : Ending} {w' : World} (h : GRes b w N l er e w') (hb : Below w0.heap.size w0 w) (hle : w0.heap.size ≤ b) : ZRes w0 N l er e w' := by
  obtain ⟨hg, h⟩ := h
  refine ⟨grown_over hb hg hle, ?_⟩
  rcases h with ⟨h0, g, c, h1, h2, h3⟩ | h
  · exact Or.inl ⟨h0, g, c, h1, Nat.le_trans hb.size h2, h3⟩
  · exact Or.inr h

theorem grown_two {w w' : World} {b x : Nat} (h : w.grownBy w' (some b)) (hx : w.heap.size ≤ x) (u v : Value) : w.grownBy ((w'.setCell ⟨x, 0, none⟩ u).setCell ⟨x, 1, none⟩ v) (some b) := by
  have e1 : w'.grownBy (w'.setCell ⟨x, 0, none⟩ u) (some x) := grown_put _ _ _ _
  have e2 : (w'.setCell ⟨x, 0, none⟩ u).grownBy ((w'.setCell ⟨x, 0, none⟩ u).setCell ⟨x, 1, none⟩ v) (some x) := grown_put _ _ _ _
  have e3 := grown_trans e1 e2
  exact ⟨e3.os.trans h.os, e3.tape.trans h.tape, e3.output.trans h.output, Nat.le_trans h.size e3.size, fun k hk hne => (e3.block k (Nat.lt_of_lt_of_le hk h.size) (by simp; omega)).trans (h.block k hk hne)⟩

theorem Mx.rd {w : World} {b n : Nat} {l : List Int} (h : Mx w b n l) : Rd w ⟨b, 1, none⟩ l := fun j hj => by rw [Addr.add_mid]; exact h.at hj

theorem grown_of_below {w w' : World} {r : Option Nat} (h : Below w.heap.size w w') : w.grownBy w' r := ⟨h.os, h.tape, h.output, h.size, fun k hk _ => h.block k hk⟩

theorem aside_two {w : World} {p : Addr} {x : Value} (h : w.cell? p = some x) {y : Nat} (hne : p.block ≠ y) (u v : Value) : ((w.setCell ⟨y, 0, none⟩ u).setCell ⟨y, 1, none⟩ v).cell? p = some x := by
  rw [World.cell?_setCell_other _ _ _ _ (fun e => hne (congrArg Addr.block e).symm), World.cell?_setCell_other _ _ _ _ (fun e => hne (congrArg Addr.block e).symm)]
  exact h

set_option maxRecDepth 100000 in
set_option maxHeartbeats 4000000 in
theorem mzone_any (b n : Nat) (l : List Int) (w : World) (hn : n ≤ 10) (h : Mx w b n l) (h64 : Zo.A64 l) :
    Calls Try.prog 44 #[.pointer (some ⟨b, 0, none⟩)] w (GRes b w n (Zo.clo n l) (cloE n l)) := by
  have hl := h.2
  have hb := h.lt
  obtain ⟨w0, hw0⟩ : ∃ w0, w0 = w.alloc (.cells #[.int .i64 0, .slice none 0 0] 24) := ⟨_, rfl⟩
  have M0 : Mx w0 b n l := by rw [hw0]; exact h.alloc _
  have rs : Two w0 w.heap.size (.int .i64 0) (.slice none 0 0) := by rw [hw0]; exact Two.made _ _ _ _
  have g0 : w.grownBy w0 (some b) := by rw [hw0]; exact World.grownBy_alloc _ _ _
  have z0 : w0.heap.size = w.heap.size + 1 := by rw [hw0]; simp
  have SH := Lib.hid (shorten_any b n l w0 hn M0 h64)
  have GB := Lib.hid g0
  have RS := Lib.hid rs
  clear h h64 M0 g0 rs
  go_enter Try.func44, Try.ntmps44
  go_wp2_with fail
  rw [← hw0]
  clear hw0
  go_wp2_with fail
  cases hB : cloB n l
  · have S0 := SH.out
    rw [hB] at S0
    refine S0.mono ?_
    rintro e w1 ⟨rfl, l', hM, hc⟩
    obtain rfl := hc rfl
    have hcl : (Zo.clo n l).length = (n + 1) * (n + 1) := by rw [Zo.clo_length, hl]
    have HCE := Lib.hid (show cloE n l = if (Zo.clo n l).all lvB then 0 else 7 by unfold cloE; rw [hB]; rfl)
    have c0 := hM.1.dim
    have KD := Lib.hid (show ∀ (w' : World), MSt w0 b n (Zo.clo n l) w' → w'.cell? ⟨b, 0, none⟩ = some (.int .i64 n) from fun w' h => h.1.dim)
    generalize hcc : Zo.clo n l = c at *
    have HM := Lib.hid hM
    have HL := Lib.hid hcl
    have HB := Lib.hid hB
    have HC := Lib.hid hcc
    clear hM S0 hB hcc SH
    have d2 := dsq_le hn
    have d1 := dsq_pos n
    have hr := run_head b ((((n + 1) * (n + 1) : Nat)) : Int) ((n + 1) * (n + 1)) rfl (dsq_le hn)
    have HP := Lib.hid (fun W => places_any n W hn)
    generalize hsz : (n + 1) * (n + 1) = sz at *
    have HSZ := Lib.hid hsz
    clear hsz hcl hl
    go_wp2_with fail
    refine wp_region_still_lit (by kernel_rfl) (by kernel_rfl) ?_
    repeat still_step
    still_call (HP.out _)
    repeat still_step
    refine wpStill_nil ?_
    clear c0 hr
    have HD := Lib.hid HM.out.drew
    change Exit.then _ _ _ _ (World.drew _)
    generalize w1.drew = w2 at *
    clear HM
    go_wp2_with fail
    go_loopw [22] (fun s wr => ∃ t : Nat, t ≤ sz ∧ s = .int .i64 t ∧ Hid (∀ i, i < t → lvB (Zo.gt c i) = true) ∧ Hid (MSt w0 b n c wr)) (fun s _ => sz - (intOf s).toNat)
    case atStart => exact ⟨0, by omega, rfl, Lib.hid (fun i hi => by omega), HD⟩
    case round =>
      clear HD
      obtain ⟨t, ht, rfl, HV, HT⟩ := hrel
      by_cases htn : t < sz
      · obtain ⟨v, hv⟩ : ∃ v, v = Zo.gt c t := ⟨_, rfl⟩
        have c1 : wr.cell? ⟨b, 1 + t, none⟩ = some (.int .i64 v) := by rw [hv]; exact HT.out.1.at (by rw [HL.out]; exact htn)
        have HVV := Lib.hid hv
        clear hv
        have PV := fun W => limValid_free v W
        cases lv : lvB v
        · rw [lv] at PV
          have HE := Lib.hid (show cloE n l = 7 by
            rw [HCE.out, if_neg]
            rw [List.all_eq_true]
            intro hall
            have := hall (c[t]'(by rw [HL.out]; exact htn)) (List.getElem_mem _)
            rw [show c[t]'(by rw [HL.out]; exact htn) = v by rw [HVV.out]; simp [Zo.gt, show t < c.length by rw [HL.out]; exact htn], lv] at this
            cases this)
          have PW := Lib.hid PV
          have rs1 := RS.out.grown HT.out.2 (by omega)
          obtain ⟨q0, q1, q2, q3⟩ := rs1.facts
          have HG := Lib.hid (grown_trans GB.out HT.out.2)
          clear PV
          go_wp2_with fail
          refine (PW.out _).mono ?_
          rintro e w3 ⟨rfl, rfl⟩
          go_wp2_with fail
          refine bodyPost_ret (v := .tuple #[.agg #[.int .i64 0, .slice none 0 0], .int .i64 7]) (by simp [results, Try.results44, go_sem, q0, q1]) rfl ⟨grown_two HG.out (Nat.le_refl _) _ _, Or.inr ⟨by rw [HE.out]; decide, by rw [HE.out]⟩⟩
        · rw [lv] at PV
          have PW := Lib.hid PV
          have HLV := Lib.hid lv
          clear PV lv
          go_wp2_with fail
          refine (PW.out _).mono ?_
          rintro e w3 ⟨rfl, rfl⟩
          clear c1
          go_wp2_with fail
          go_roundw
          case rel =>
            refine ⟨t + 1, by omega, by go_num, Lib.hid (fun i hi => ?_), HT⟩
            by_cases e : i = t
            · rw [e, ← HVV.out]; exact HLV.out
            · exact HV.out i (by omega)
          case measure => simp [intOf]; omega
      · have HE := Lib.hid (show cloE n l = 0 by
          rw [HCE.out, if_pos]
          rw [List.all_eq_true]
          intro x hx
          obtain ⟨i, hi, rfl⟩ := List.getElem_of_mem hx
          have := HV.out i (by have := HL.out; omega)
          simpa [Zo.gt, hi] using this)
        have rs1 := RS.out.grown HT.out.2 (by omega)
        have CL := Lib.hid (show ∀ w', MSt w0 b n c w' → Calls Try.prog 45 #[.slice (some ⟨b, 1, none⟩) sz 121] w' (fun e w'' => ∃ g cc, e = .returned (.slice (some ⟨g, 0, none⟩) sz cc) ∧ w'.heap.size ≤ g ∧ Own w'' g cc c ∧ Below w'.heap.size w' w'') from fun w' h => by
          have := clone_any c b 1 121 w' (by rw [HL.out]; exact d1) (by rw [HL.out]; omega) h.1.rd
          rwa [HL.out] at this)
        go_wp2_with fail
        have HDR := Lib.hid HT.out.drew
        have RSD := Lib.hid (show Two wr.drew w.heap.size (.int .i64 0) (.slice none 0 0) from rs1)
        clear rs1
        have c1 := KD.out _ HDR.out
        go_region_held3 (fun w' => w'.cell? ⟨b, 0, none⟩ = some (.int .i64 n)) (first | exact c1 | exact KD.out _ (by assumption) | exact c3 | exact c4 _ _)
          (first | (go_at_call 45; refine (CL.out _ HDR.out).mono ?_; rintro e w5 ⟨g, cc, rfl, hg, ho, hbe⟩; have c3 : w5.cell? ⟨b, 0, none⟩ = some (.int .i64 n) := kept hbe c1; have c4 : ∀ u v, ((w5.setCell ⟨w.heap.size, 0, none⟩ u).setCell ⟨w.heap.size, 1, none⟩ v).cell? ⟨b, 0, none⟩ = some (.int .i64 n) := (fun u v => aside_two c3 (by show b ≠ w.heap.size; omega) u v); obtain ⟨q0, q1, q2, q3⟩ := (RSD.out.kept hbe).facts))
        go_wp2_with fail
        have HG : w.grownBy w5 (some b) := grown_trans GB.out (grown_trans HDR.out.2 (grown_of_below hbe))
        have hg2 : w0.heap.size ≤ g := Nat.le_trans HDR.out.2.size hg
        refine bodyPost_ret (v := .tuple #[.agg #[.int .i64 n, .slice (some ⟨g, 0, none⟩) sz cc], .int .i64 0]) (by simp [results, Try.results44, go_sem, q0, q1]) rfl ⟨grown_two HG (Nat.le_refl _) _ _, Or.inl ⟨HE.out, g, cc, by rw [← HL.out], by omega, put_far ho (by omega) _ _⟩⟩
  · have S0 := SH.out
    rw [hB] at S0
    refine S0.mono ?_
    rintro e w1 ⟨rfl, l', hM, -⟩
    have HE := Lib.hid (show cloE n l = 4 by unfold cloE; rw [hB]; rfl)
    have rs1 := RS.out.grown hM.2 (by omega)
    obtain ⟨q0, q1, q2, q3⟩ := rs1.facts
    have HG := Lib.hid (grown_trans GB.out hM.2)
    clear hM S0 hB SH
    go_wp2_with fail
    refine bodyPost_ret (v := .tuple #[.agg #[.int .i64 0, .slice none 0 0], .int .i64 4]) (by simp [results, Try.results44, go_sem, q0, q1]) rfl ⟨grown_two HG.out (Nat.le_refl _) _ _, Or.inr ⟨by rw [HE.out]; decide, by rw [HE.out]⟩⟩
end Go.Proofs.Ytgdcclldgfcilaa

namespace Go.Proofs.Ytgdcclldgfcilaa
open Go.RowKit

set_option maxRecDepth 100000 in
set_option maxHeartbeats 2000000 in
theorem clone_arg (l : List Int) (a : Addr) (cap : Nat) (w : World) (h0 : 0 < l.length) (h1 : l.length ≤ 1000) (hR : Rd w a l) :
    Calls Try.prog 45 #[.slice (some a) l.length cap] w
      (fun e w' => ∃ g c, e = .returned (.slice (some ⟨g, 0, none⟩) l.length c) ∧ w.heap.size ≤ g ∧ Own w' g c l ∧ Below w.heap.size w w') := by
  obtain ⟨i0, hi, hz0, hz1, hz2⟩ := info_parts Try.info39
  have q := run_nil_cmp
  have A := Lib.hid (show ∀ (w' : World), Below w.heap.size w w' → ∀ j u, (l.map (Value.int .i64))[j]? = some u → w'.cell? (a.add j) = some u from fun w' h => (hR.on h).map)
  have l1 : (l.map (Value.int .i64)).length = l.length * 1 := by simp
  have o1 : ∀ u ∈ l.map (Value.int .i64), u.oneCell' = true := by simp [Value.oneCell']
  generalize hxs : l.map (Value.int .i64) = xs at *
  have HXS := Lib.hid hxs
  clear hxs hR
  generalize hlen : l.length = len at *
  have HLEN := Lib.hid hlen
  clear hlen
  go_enter Try.func45, Try.ntmps45
  go_wp2_with (at_builtin; refine wpList_append_own _ rfl _ _ 22 rfl w.heap.size 39 i0 (.int .i64 0) 1 8 Try.underlying22 hi hz0 hz1 hz2 rfl (by decide) _ _ _ rfl (World.ownsRow_made w #[] 0 (Nat.le_refl _) (Nat.zero_le _) (by simp)) a len cap xs rfl ?qc1 ?qc2 ?qc3 ?qc4 ?qc5 ?qc6 ?_)
  case qc1 => exact l1
  case qc2 =>
    intro j u hj
    exact A.out _ (one_more (.cells #[] 39)) j u hj
  case qc3 => exact o1
  case qc4 => unfold maxLen; omega
  case qc5 => omega
  case qc6 => simp
  intro v' w1 hown hgrow hnil
  have hown' : w1.ownsRow w.heap.size 39 1 v' len xs := by simpa using hown
  obtain ⟨g, c, rfl⟩ := Joins.ownsRow_form hown' (by omega)
  go_wp2
  go_ret
  obtain ⟨ho, hg⟩ := own_of hown' HXS.out.symm HLEN.out.symm
  exact ⟨g, c, rfl, hg, ho, ((Below.refl _ w).alloc (Nat.le_refl _) _).grown hgrow (by simp) (by intro k hk; simp [Value.ownBlock] at hk; omega)⟩

/-- Four cells of a block. -/
def Four (w : World) (b : Nat) (u v x y : Value) : Prop := w.cell? ⟨b, 0, none⟩ = some u ∧ w.cell? ⟨b, 1, none⟩ = some v ∧ w.cell? ⟨b, 2, none⟩ = some x ∧ w.cell? ⟨b, 3, none⟩ = some y

theorem Four.kept {w w' : World} {b : Nat} {u v x y : Value} (h : Four w b u v x y) (hb : Below w.heap.size w w') : Four w' b u v x y :=
  ⟨Proofs.Ytgdcclldgfcilaa.kept hb h.1, Proofs.Ytgdcclldgfcilaa.kept hb h.2.1, Proofs.Ytgdcclldgfcilaa.kept hb h.2.2.1, Proofs.Ytgdcclldgfcilaa.kept hb h.2.2.2⟩

theorem Four.grown {w w' : World} {b g : Nat} {u v x y : Value} (h : Four w b u v x y) (hg : w.grownBy w' (some g)) (hne : b ≠ g) : Four w' b u v x y :=
  ⟨hg.cell h.1 (by simpa using hne), hg.cell h.2.1 (by simpa using hne), hg.cell h.2.2.1 (by simpa using hne), hg.cell h.2.2.2 (by simpa using hne)⟩

theorem grown_st {w w' : World} {b g : Nat} {k : Nat} {v : Value} (h : w.cell? ⟨b, k, none⟩ = some v) (hg : w.grownBy w' (some g)) (hne : b ≠ g) : w'.cell? ⟨b, k, none⟩ = some v := hg.cell h (by simpa using hne)

theorem Rd.grown {w w' : World} {a : Addr} {l : List Int} {g : Nat} (h : Rd w a l) (hg : w.grownBy w' (some g)) (hne : l ≠ [] → a.block ≠ g) : Rd w' a l := fun j hj => by
  refine hg.cell (h j hj) ?_
  have := hne (fun e => by rw [e] at hj; simp at hj)
  rw [show (a.add j).block = a.block by unfold Addr.add; split <;> rfl]
  simpa using this
end Go.Proofs.Ytgdcclldgfcilaa

namespace Go.Proofs.Ytgdcclldgfcilaa
open Go.RowKit

/-- What a rule makes of an element, lists of constants from the clock 0 on. -/
def dcF (lo hi : List Int) : Nat → Nat → Int → Int := fun i j x => dcV i j x (spC x) lo hi

def A6 (l : List Int) : Prop := ∀ k, k < l.length → I64 (Zo.gt l k)

theorem A6.put {l : List Int} (h : A6 l) (k : Nat) {x : Int} (hx : I64 x) : A6 (l.set k x) := fun j hj => by
  rw [List.length_set] at hj
  by_cases c : k < l.length
  · rw [Zo.gt_set _ c]
    by_cases d : j = k
    · rw [if_pos d]; exact hx
    · rw [if_neg d]; exact h j hj
  · rw [List.set_eq_of_length_le (by omega)]; exact h j hj

theorem dcV_i64 {i j : Nat} {x c : Int} {lo hi : List Int} (hx : I64 x) (hb : -1 ≤ Zo.gt hi j ∧ Zo.gt hi j ≤ 1048576) : I64 (dcV i j x c lo hi) := by
  unfold dcV
  have t1 : I64 1099511627776 := i64lit _ (by omega) (by omega)
  split
  · exact t1
  · split
    · split
      · exact i64lit _ (by omega) (by omega)
      · exact t1
    · split
      · exact i64lit _ (by omega) (by omega)
      · exact hx

theorem St.on {w0 w w' : World} {g c : Nat} {l : List Int} (h : St w0 g c l w) (hb : Below w.heap.size w w') : St w0 g c l w' :=
  ⟨h.1.kept (grown_of_below (r := none) hb) (by simp), grown_trans h.2 (grown_of_below hb)⟩

theorem St.put {w0 w : World} {g c : Nat} {l : List Int} (h : St w0 g c l w) (k : Nat) (x : Int) : St w0 g c (l.set k x) (w.setCell ⟨g, k, none⟩ (.int .i64 x)) :=
  ⟨(h.1.put k x).1, grown_trans h.2 (h.1.put k x).2⟩

theorem St.get {w0 w : World} {g c : Nat} {l : List Int} (h : St w0 g c l w) {k : Nat} (hk : k < l.length) : w.cell? ⟨g, k, none⟩ = some (.int .i64 (Zo.gt l k)) ∧ w.frozen? ⟨g, k, none⟩ = false := by
  refine ⟨?_, World.ownsRow.frozenAt h.1 k⟩
  have := h.1.rd k hk
  rwa [addr_add] at this

set_option maxRecDepth 100000 in
set_option maxHeartbeats 8000000 in
theorem wchanged_any (n : Nat) (l : List Int) (a : Addr) (cap p q : Nat) (lo hi : List Int) (a1 a2 : Addr) (c1 c2 : Nat) (w : World) (hn : n ≤ 10) (hl : l.length = (n + 1) * (n + 1)) (hv : A6 l) (hR : Rd w a l)
    (hp : w.cell? ⟨p, 0, none⟩ = some (.slice (some a1) lo.length c1)) (hq : w.cell? ⟨q, 0, none⟩ = some (.slice (some a2) hi.length c2)) (hlo : lo.length = n + 1) (hhi : hi.length = n + 1) (hR1 : Rd w a1 lo) (hR2 : Rd w a2 hi)
    (hb : ∀ j, j ≤ n → -1 ≤ Zo.gt hi j ∧ Zo.gt hi j ≤ 1048576) :
    Calls Try.prog 31 #[.agg #[.int .i64 n, .slice (some a) l.length cap], rulesV p q] w
      (fun e w' => ∃ g c, e = .returned (.slice (some ⟨g, 0, none⟩) l.length c) ∧ w.heap.size ≤ g ∧ Own w' g c (Zo.elL n (dcF lo hi) l) ∧ Below w.heap.size w w') := by
  have l0 : 0 < l.length := by rw [hl]; exact dsq_pos n
  have l1 : l.length ≤ 121 := by rw [hl]; exact dsq_le hn
  obtain ⟨len, hlen⟩ : ∃ len, len = l.length := ⟨_, rfl⟩
  have HLen := Lib.hid hlen
  have CL := Lib.hid (show ∀ W, Below w.heap.size w W → Calls Try.prog 45 #[.slice (some a) len cap] W (fun e w' => ∃ g c, e = .returned (.slice (some ⟨g, 0, none⟩) len c) ∧ W.heap.size ≤ g ∧ Own w' g c l ∧ Below W.heap.size W w') from fun W h => by rw [hlen]; exact clone_arg l a cap W l0 (by omega) (hR.on h))
  have bp : p < w.heap.size := World.block_lt_of_cell? w _ hp
  have bq : q < w.heap.size := World.block_lt_of_cell? w _ hq
  have DE := Lib.hid (show ∀ (i j : Nat) (x c : Int) (g cc : Nat) (y : List Int) (w1 W : World), i ≤ n → j ≤ n → Below w.heap.size w w1 → w.heap.size ≤ g → St w1 g cc y W → Calls Try.prog 46 #[rulesV p q, elV i j x c] W (Made (.int .i64 (dcV i j x c lo hi)) W) from fun i j x c g cc y w1 W h1 h2 hw1 hg hS =>
    decide_any i j x c lo hi p q a1 a2 c1 c2 W (by omega) (by omega) (grown_st (kept hw1 hp) hS.2 (by omega)) (grown_st (kept hw1 hq) hS.2 (by omega))
      ((hR1.on hw1).grown hS.2 (fun e => by have := World.block_lt_of_cell? w _ (hR1 0 (by omega)); rw [show (a1.add 0).block = a1.block by unfold Addr.add; split <;> rfl] at this; omega))
      ((hR2.on hw1).grown hS.2 (fun e => by have := World.block_lt_of_cell? w _ (hR2 0 (by omega)); rw [show (a2.add 0).block = a2.block by unfold Addr.add; split <;> rfl] at this; omega)) (hb j h2))
  have HB := Lib.hid hb
  have HL := Lib.hid hl
  have HV := Lib.hid hv
  rw [← hlen]
  have ln : len ≤ 121 := by omega
  have lp : 0 < len := by omega
  clear hR hp hq hlo hhi hR1 hR2 hb hl hlen l0 l1 bp bq hv
  unfold rulesV at DE ⊢
  generalize hf1 : Value.func (.func 48) #[] #[.pointer (some ⟨p, 0, none⟩)] = f1 at *
  generalize hf2 : Value.func (.func 49) #[] #[.pointer (some ⟨q, 0, none⟩)] = f2 at *
  generalize hf3 : Value.func (.func 50) #[] #[.pointer (some ⟨q, 0, none⟩)] = f3 at *
  generalize hf4 : Value.func (.func 52) #[] #[] = f4 at *
  obtain ⟨w0, hw0⟩ : ∃ w0, w0 = (w.alloc (.cells #[.int .i64 n, .slice (some a) len cap] 24)).alloc (.cells #[f1, f2, f3, f4] 70) := ⟨_, rfl⟩
  have bx : Two w0 w.heap.size (.int .i64 n) (.slice (some a) len cap) := by rw [hw0]; exact (Two.made _ _ _ _).alloc _
  have br : Four w0 (w.heap.size + 1) f1 f2 f3 f4 := by
    rw [hw0]
    have := four_made (w.alloc (.cells #[.int .i64 n, .slice (some a) len cap] 24)) f1 f2 f3 f4 70
    rw [show ∀ o, (w.alloc o).heap.size = w.heap.size + 1 from fun o => by simp] at this
    exact this
  have E0 := Lib.hid (show Below w.heap.size w w0 by rw [hw0]; exact past_two (Below.refl _ _))
  have z0 : w0.heap.size = w.heap.size + 2 := by rw [hw0]; simp
  subst hf1 hf2 hf3 hf4
  go_enter Try.func31, Try.ntmps31
  go_wp2_with fail
  rw [← hw0]
  clear hw0
  obtain ⟨b0, b1, b2, b3⟩ := bx.facts
  go_wp2_with fail
  refine (CL.out _ E0.out).mono ?_
  rintro e w1 ⟨g, c, rfl, hg, ho, hb1⟩
  clear b0 b1 b2 b3 CL
  replace bx := bx.kept hb1
  replace br := br.kept hb1
  have E1 := Lib.hid (below_on E0.out hb1)
  have S1 := Lib.hid (show St w1 g c l w1 from ⟨ho, World.grownBy.refl _ _⟩)
  clear hb1 E0 ho
  obtain ⟨b0, b1, b2, b3⟩ := bx.facts
  go_wp2_with fail
  clear b0 b1 b2 b3
  go_loopw [15] (fun s wr => ∃ (t : Nat) (x : List Int), t ≤ n + 1 ∧ s = .int .i64 t ∧ Hid (x.length = len ∧ A6 x) ∧ Hid (x = (List.range t).foldl (Zo.elJ n (dcF lo hi)) l) ∧ Hid (St w1 g c x wr)) (fun s _ => n + 1 - (intOf s).toNat)
  case atStart => exact ⟨0, l, by omega, rfl, Lib.hid ⟨HLen.out.symm, HV.out⟩, Lib.hid rfl, S1⟩
  case round =>
    obtain ⟨t, x, ht, rfl, HXL, HX, HT⟩ := hrel
    obtain ⟨b0, b1, b2, b3⟩ := (bx.grown HT.out.2 (by omega)).facts
    by_cases htn : t ≤ n
    · have D1 : decide ((t : Int) < (n : Int) + 1) = true := by simp; omega
      go_wp2_with fail
      clear b0 b1 b2 b3
      go_loopw [21] (fun s wr => ∃ (u : Nat) (y : List Int), u ≤ n + 1 ∧ s = .int .i64 u ∧ Hid (y.length = len ∧ A6 y) ∧ Hid (y = (List.range u).foldl (Zo.elS n (dcF lo hi) t) x) ∧ Hid (St w1 g c y wr)) (fun s _ => n + 1 - (intOf s).toNat)
      case atStart => exact ⟨0, x, by omega, rfl, HXL, Lib.hid rfl, HT⟩
      case round =>
        obtain ⟨u, y, hu, rfl, HYL, HY, HU⟩ := hrel
        obtain ⟨b0, b1, b2, b3⟩ := (bx.grown HU.out.2 (by omega)).facts
        by_cases hun : u ≤ n
        · have D2 : decide ((u : Int) < (n : Int) + 1) = true := by simp; omega
          have t1 := Zo.ix_lt htn hun
          have t2 : (t : Int) * ((n : Int) + 1) + (u : Int) < (len : Int) := by rw [HLen.out, HL.out]; exact_mod_cast t1
          have t3 : (t : Int) * ((n : Int) + 1) ≤ 110 ∧ 0 ≤ (t : Int) * ((n : Int) + 1) := by
            have : t * (n + 1) ≤ 10 * 11 := Nat.mul_le_mul (by omega) (by omega)
            constructor
            · exact_mod_cast this
            · exact_mod_cast Nat.zero_le _
          by_cases htu : t = u
          · have D3 : ((t : Int) != (u : Int)) = false := by simp; omega
            have HE := Lib.hid htu
            clear htu
            go_wp2_with fail
            go_roundw
            case rel => exact ⟨u + 1, y, by omega, by go_num, HYL, Lib.hid (by rw [Zo.fold_succ, ← HY.out]; unfold Zo.elS; rw [if_pos HE.out]), HU⟩
            case measure => simp [intOf]; omega
          · have D3 : ((t : Int) != (u : Int)) = true := by simp; omega
            have HE := Lib.hid htu
            clear htu
            obtain ⟨r0, r1, r2, r3⟩ := br.grown HU.out.2 (by omega)
            obtain ⟨z, hz⟩ : ∃ z, z = Zo.At n y t u := ⟨_, rfl⟩
            have iz : I64 z := by rw [hz]; exact HYL.out.2 _ (by rw [HYL.out.1, HLen.out, HL.out]; exact t1)
            have HZ := Lib.hid hz
            have CF := Lib.hid (show ∀ W, St w1 g c y W → W.cell? ⟨g, t * (n + 1) + u, none⟩ = some (.int .i64 z) ∧ W.frozen? ⟨g, t * (n + 1) + u, none⟩ = false from fun W h => by
              rw [hz]; exact h.get (k := Zo.ix n t u) (by rw [HYL.out.1, HLen.out, HL.out]; exact t1))
            have EL := Lib.hid (fun W => element_any t u z W iz)
            have DX := Lib.hid (show ∀ W, St w1 g c y W → _ from fun W h => DE.out t u z (spC z) g c y w1 W htn hun E1.out (by have := E1.out.size; omega) h)
            have s1 : St w1 g c y wr.drew := HU.out.drew
            obtain ⟨q0, q1⟩ := CF.out _ s1
            clear hz t1
            unfold elV at EL DX
            obtain ⟨zv, hzv⟩ : ∃ zv, zv = dcV t u z (spC z) lo hi := ⟨_, rfl⟩
            have HZV := Lib.hid hzv
            rw [← hzv] at DX
            have HIZ := Lib.hid (show I64 zv by rw [hzv]; exact dcV_i64 iz (HB.out u hun))
            clear hzv iz
            have KS := Lib.hid (show ∀ z W, St w1 g c z W → (W.cell? ⟨w.heap.size + 1, 0, none⟩ = some (.func (.func 48) #[] #[.pointer (some ⟨p, 0, none⟩)]) ∧ W.cell? ⟨w.heap.size + 1, 1, none⟩ = some (.func (.func 49) #[] #[.pointer (some ⟨q, 0, none⟩)]) ∧ W.cell? ⟨w.heap.size + 1, 2, none⟩ = some (.func (.func 50) #[] #[.pointer (some ⟨q, 0, none⟩)]) ∧ W.cell? ⟨w.heap.size + 1, 3, none⟩ = some (.func (.func 52) #[] #[])) from fun z W h => br.grown h.2 (by omega))
            clear r0 r1 r2 r3
            have t4 : 0 ≤ (t : Int) * ((n : Int) + 1) + (u : Int) := by omega
            have t5 : ((t : Int) * ((n : Int) + 1) + (u : Int)).toNat = t * (n + 1) + u := by
              rw [show (t : Int) * ((n : Int) + 1) + (u : Int) = ((t * (n + 1) + u : Nat) : Int) by push_cast; rfl]; exact Int.toNat_natCast _
            go_wp2_with fail
            refine wp_region_held_drew (S := (fun W => W.cell? ⟨w.heap.size + 1, 0, none⟩ = some (.func (.func 48) #[] #[.pointer (some ⟨p, 0, none⟩)]) ∧ W.cell? ⟨w.heap.size + 1, 1, none⟩ = some (.func (.func 49) #[] #[.pointer (some ⟨q, 0, none⟩)]) ∧ W.cell? ⟨w.heap.size + 1, 2, none⟩ = some (.func (.func 50) #[] #[.pointer (some ⟨q, 0, none⟩)]) ∧ W.cell? ⟨w.heap.size + 1, 3, none⟩ = some (.func (.func 52) #[] #[]))) (by kernel_rfl) (KS.out _ _ s1) (fun h0 => ?_)
            refine wpAnyH_take (i := 0) (v := ?v1) rfl (by kernel_rfl) (by kernel_rfl) (by kernel_rfl) (fun _ _ _ h => h) (Or.inl ⟨by rfl, ?hy1⟩) h0 ?rest1
            case hy1 => (intro w' hS; (try dsimp only at hS); go_simp; try (with_reducible rfl))
            simp only [Act.put, List.getElem_toArray, List.getElem_cons_zero, List.setIfInBounds_toArray, List.set_cons_zero, List.set_cons_succ]
            refine wpAnyH_take (i := 1) (v := ?v2) rfl (by kernel_rfl) (by kernel_rfl) (by kernel_rfl) (fun _ _ _ h => h) (Or.inl ⟨by rfl, ?hy2⟩) h0 ?rest2
            case hy2 => (intro w' hS; (try dsimp only at hS); go_simp; try (with_reducible rfl))
            simp only [Act.put, List.getElem_toArray, List.getElem_cons_zero, List.getElem_cons_succ, List.setIfInBounds_toArray, List.set_cons_zero, List.set_cons_succ]
            refine wpAnyH_take (i := 2) (v := ?v3) rfl (by kernel_rfl) (by kernel_rfl) (by kernel_rfl) (fun _ _ _ h => h) (Or.inl ⟨by rfl, ?hy3⟩) h0 ?rest3
            case hy3 => (intro w' hS; (try dsimp only at hS); go_simp; try (with_reducible rfl))
            simp only [Act.put, List.getElem_toArray, List.getElem_cons_zero, List.getElem_cons_succ, List.setIfInBounds_toArray, List.set_cons_zero, List.set_cons_succ]
            refine wpAnyH_take (i := 3) (v := ?v4) rfl (by kernel_rfl) (by kernel_rfl) (by kernel_rfl) (fun _ _ _ h => h) (Or.inl ⟨by rfl, ?hy4⟩) h0 ?rest4
            case hy4 => (intro w' hS; (try dsimp only at hS); go_simp; try (with_reducible rfl))
            simp only [Act.put, List.getElem_toArray, List.getElem_cons_zero, List.getElem_cons_succ, List.setIfInBounds_toArray, List.set_cons_zero, List.set_cons_succ]
            refine wpAnyH_take (i := 4) (v := ?v5) rfl (by kernel_rfl) (by kernel_rfl) (by kernel_rfl) (fun _ _ _ h => h) (Or.inl ⟨by rfl, ?hy5⟩) h0 ?rest5
            case hy5 => (intro w' hS; (try dsimp only at hS); go_simp; try (with_reducible rfl))
            simp only [Act.put, List.getElem_toArray, List.getElem_cons_zero, List.getElem_cons_succ, List.setIfInBounds_toArray, List.set_cons_zero, List.set_cons_succ]
            refine wpAnyH_take (i := 5) (v := ?v6) rfl (by kernel_rfl) (by kernel_rfl) (by kernel_rfl) (fun _ _ _ h => h) (Or.inl ⟨by rfl, ?hy6⟩) h0 ?rest6
            case hy6 => (intro w' hS; (try dsimp only at hS); go_simp; try (with_reducible rfl))
            simp only [Act.put, List.getElem_toArray, List.getElem_cons_zero, List.getElem_cons_succ, List.setIfInBounds_toArray, List.set_cons_zero, List.set_cons_succ]
            refine wpAnyH_take (i := 6) (v := ?v7) rfl (by kernel_rfl) (by kernel_rfl) (by kernel_rfl) (fun _ _ _ h => h) (Or.inl ⟨by rfl, ?hy7⟩) h0 ?rest7
            case hy7 => (intro w' hS; (try dsimp only at hS); go_simp; try (with_reducible rfl))
            simp only [Act.put, List.getElem_toArray, List.getElem_cons_zero, List.getElem_cons_succ, List.setIfInBounds_toArray, List.set_cons_zero, List.set_cons_succ]
            refine wpAnyH_take (i := 7) (v := ?v8) rfl (by kernel_rfl) (by kernel_rfl) (by kernel_rfl) (fun _ _ _ h => h) (Or.inl ⟨by rfl, ?hy8⟩) h0 ?rest8
            case hy8 => (intro w' hS; (try dsimp only at hS); go_simp; try (with_reducible rfl))
            simp only [Act.put, List.getElem_toArray, List.getElem_cons_zero, List.getElem_cons_succ, List.setIfInBounds_toArray, List.set_cons_zero, List.set_cons_succ]
            refine wpAnyH_ready (rs := [8]) (by kernel_rfl) (by simp) (AllReadyH.cons rfl (fun K hK => ?_) AllReadyH.nil)
            rw [if_pos (by rfl)]
            go_simp
            refine hK.out _ _ (KS.out _ _ s1) (fun h0_1 => ?_)
            clear hK K h0
            refine wpAnyH_ready (rs := [9]) (by kernel_rfl) (by simp) (AllReadyH.cons rfl (fun K hK => ?_) AllReadyH.nil)
            rw [if_pos (by rfl)]
            go_simp
            refine (EL.out _).mono ?_
            rintro e w2 ⟨rfl, hb2⟩
            have s2 := s1.on hb2
            clear hb2
            go_simp
            refine hK.out _ _ (KS.out _ _ s2) (fun h0_2 => ?_)
            clear hK K h0_1
            refine wpAnyH_ready (rs := [10]) (by kernel_rfl) (by simp) (AllReadyH.cons rfl (fun K hK => ?_) AllReadyH.nil)
            rw [if_pos (by rfl)]
            go_simp
            refine (DX.out _ s2).mono ?_
            rintro e w3 ⟨rfl, hb3⟩
            have s3 := s2.on hb3
            obtain ⟨p0, p1⟩ := CF.out _ s3
            clear hb3
            go_simp
            refine hK.out _ _ (KS.out _ _ s3) (fun h0_3 => ?_)
            clear hK K h0_2
            refine wpAnyH_ready (rs := [11]) (by kernel_rfl) (by simp) (AllReadyH.cons rfl (fun K hK => ?_) AllReadyH.nil)
            rw [if_pos (by rfl)]
            go_simp
            refine hK.out _ _ (KS.out _ _ s3) (fun h0_4 => ?_)
            clear hK K h0_3
            refine wpAnyH_ready (rs := [12]) (by kernel_rfl) (by simp) (AllReadyH.cons rfl (fun K hK => ?_) AllReadyH.nil)
            rw [if_pos (by rfl)]
            go_simp
            refine hK.out _ _ (KS.out _ _ (s3.put _ zv)) (fun h0_5 => ?_)
            clear hK K h0_4
            refine wpAnyH_done (by kernel_rfl) ?_ _
            have S4 := Lib.hid (s3.put (t * (n + 1) + u) zv)
            go_wp2_with fail
            go_roundw
            case rel => exact ⟨u + 1, y.set (t * (n + 1) + u) zv, by omega, by go_num, Lib.hid ⟨by rw [List.length_set]; exact HYL.out.1, HYL.out.2.put _ HIZ.out⟩, Lib.hid (by rw [Zo.fold_succ, ← HY.out]; unfold Zo.elS; rw [if_neg HE.out, ← HZ.out, HZV.out]; rfl), S4⟩
            case measure => simp [intOf]; omega
        · have D2 : decide ((u : Int) < (n : Int) + 1) = false := by simp; omega
          have HE := Lib.hid (show y = Zo.elJ n (dcF lo hi) x t by rw [HY.out, show u = n + 1 by omega]; rfl)
          go_wp2_with fail
          go_roundw
          case rel => exact ⟨t + 1, y, by omega, by go_num, HYL, Lib.hid (by rw [Zo.fold_succ, ← HX.out]; exact HE.out), HU⟩
          case measure => simp [intOf]; omega
    · have D1 : decide ((t : Int) < (n : Int) + 1) = false := by simp; omega
      have HE := Lib.hid (show x = Zo.elL n (dcF lo hi) l by rw [HX.out, show t = n + 1 by omega]; rfl)
      clear b0 b1 b2 b3
      go_wp2_with fail
      go_ret
      exact ⟨g, c, rfl, by have := E1.out.size; omega, by rw [← HE.out]; exact HT.out.1, grown_over E1.out HT.out.2 (by omega)⟩
end Go.Proofs.Ytgdcclldgfcilaa

namespace Go.Proofs.Ytgdcclldgfcilaa
open Go.RowKit

def closeB (N : Int) (l : List Int) : Bool := dimB N && decide (l.length = (N.toNat + 1) * (N.toNat + 1)) && l.all lvB

def closeE (N : Int) (l : List Int) : Int := if closeB N l then cloE N.toNat l else 2

theorem closeE_bad1 {N : Int} {l : List Int} (h : dimB N = false) : closeE N l = 2 := by simp [closeE, closeB, h]

theorem closeE_bad2 {N : Int} {l : List Int} (h : l.length ≠ (N.toNat + 1) * (N.toNat + 1)) : closeE N l = 2 := by simp [closeE, closeB, h]

theorem closeE_bad3 {N : Int} {l : List Int} {k : Nat} (hk : k < l.length) (h : lvB (Zo.gt l k) = false) : closeE N l = 2 := by
  have : l.all lvB = false := by
    rw [List.all_eq_false]
    exact ⟨l[k], List.getElem_mem hk, by rw [show l[k] = Zo.gt l k by simp [Zo.gt, hk], h]; simp⟩
  simp [closeE, closeB, this]

theorem closeE_ok {n : Nat} {l : List Int} (hn : n ≤ 10) (hl : l.length = (n + 1) * (n + 1)) (h : ∀ k, k < l.length → lvB (Zo.gt l k) = true) : closeE (n : Int) l = cloE n l := by
  have h1 : l.all lvB = true := by
    rw [List.all_eq_true]
    intro x hx
    obtain ⟨k, hk, rfl⟩ := List.getElem_of_mem hx
    have := h k hk
    simpa [Zo.gt, hk] using this
  have d : dimB (n : Int) = true := by unfold dimB; simp; omega
  simp [closeE, closeB, d, hl, h1]

theorem two_res (w : World) : Two (w.alloc (.cells #[.int .i64 0, .slice none 0 0] 24)) w.heap.size (.int .i64 0) (.slice none 0 0) := Two.made _ _ _ _

set_option maxHeartbeats 400000 in
theorem close_bad1 (N : Int) (l : List Int) (ao : Option Addr) (cap : Nat) (w : World) (h : dimB N = false) :
    Calls Try.prog 27 #[.int .i64 N, .slice ao l.length cap] w (ZRes w 0 [] 2) := by
  have p := fun W => dimension_any N W
  rw [h] at p
  have PD := Lib.hid p
  obtain ⟨b0, b1, b2, b3⟩ := (two_res w).facts
  clear p h
  go_enter Try.func27, Try.ntmps27
  go_wp2_with fail
  refine (PD.out _).mono ?_
  rintro e w1 ⟨rfl, rfl⟩
  go_wp2_with fail
  refine bodyPost_ret (v := .tuple #[.agg #[.int .i64 0, .slice none 0 0], .int .i64 2]) (by simp [results, Try.results27, go_sem]) rfl (zres_bad ?_)
  exact one_more _

set_option maxHeartbeats 400000 in
theorem close_bad2 (n : Nat) (l : List Int) (ao : Option Addr) (cap : Nat) (w : World) (hn : n ≤ 10) (h : l.length ≠ (n + 1) * (n + 1)) :
    Calls Try.prog 27 #[.int .i64 n, .slice ao l.length cap] w (ZRes w 0 [] 2) := by
  have p := fun W => dimension_any n W
  rw [show dimB n = true by unfold dimB; simp; omega] at p
  have PD := Lib.hid p
  have t3 : ((n : Int) + 1) * ((n : Int) + 1) ≤ 121 ∧ 0 ≤ ((n : Int) + 1) * ((n : Int) + 1) := by
    have : (n + 1) * (n + 1) ≤ 11 * 11 := Nat.mul_le_mul (by omega) (by omega)
    constructor
    · exact_mod_cast this
    · exact_mod_cast Nat.zero_le _
  have h2 : ((l.length : Int) != ((n : Int) + 1) * ((n : Int) + 1)) = true := by
    simp; intro e; apply h; exact_mod_cast e
  generalize l.length = len at *
  obtain ⟨b0, b1, b2, b3⟩ := (two_res w).facts
  clear p h
  go_enter Try.func27, Try.ntmps27
  go_wp2_with fail
  refine (PD.out _).mono ?_
  rintro e w1 ⟨rfl, rfl⟩
  go_wp2_with fail
  refine bodyPost_ret (v := .tuple #[.agg #[.int .i64 0, .slice none 0 0], .int .i64 2]) (by simp [results, Try.results27, go_sem]) rfl (zres_bad ?_)
  exact one_more _

set_option maxHeartbeats 1600000 in
theorem close_any (n : Nat) (l : List Int) (a : Addr) (cap : Nat) (w : World) (hn : n ≤ 10) (hl : l.length = (n + 1) * (n + 1)) (hR : Rd w a l) :
    Calls Try.prog 27 #[.int .i64 n, .slice (some a) l.length cap] w (ZRes w n (Zo.clo n l) (closeE n l)) := by
  obtain ⟨len, hlen⟩ : ∃ len, len = l.length := ⟨_, rfl⟩
  obtain ⟨w0, hw0⟩ : ∃ w0, w0 = w.alloc (.cells #[.int .i64 0, .slice none 0 0] 24) := ⟨_, rfl⟩
  have rs : Two w0 w.heap.size (.int .i64 0) (.slice none 0 0) := by rw [hw0]; exact two_res w
  have e0 : Below w.heap.size w w0 := by rw [hw0]; exact one_more _
  have z0 : w0.heap.size = w.heap.size + 1 := by rw [hw0]; simp
  have HR := Lib.hid (hR.on e0)
  have CP : Hid (∀ W, Rd W a l → Calls Try.prog 24 #[.agg #[.int .i64 n, .slice (some a) len cap]] W (fun e w' => ∃ g c, e = .returned (.agg #[.int .i64 n, .slice (some ⟨g, 0, none⟩) len c]) ∧ W.heap.size ≤ g ∧ Own w' g c l ∧ Below W.heap.size W w')) := Lib.hid fun W h => by have := copied_any n l a cap W (by rw [hl]; exact dsq_pos n) (by rw [hl]; have := dsq_le hn; omega) h; rw [← hlen] at this; exact this
  have p := fun W => dimension_any n W
  rw [show dimB n = true by unfold dimB; simp; omega] at p
  have PD := Lib.hid p
  have t3 : ((n : Int) + 1) * ((n : Int) + 1) ≤ 121 ∧ 0 ≤ ((n : Int) + 1) * ((n : Int) + 1) := by
    have : (n + 1) * (n + 1) ≤ 11 * 11 := Nat.mul_le_mul (by omega) (by omega)
    constructor
    · exact_mod_cast this
    · exact_mod_cast Nat.zero_le _
  have h2 : ((len : Int) != ((n : Int) + 1) * ((n : Int) + 1)) = false := by
    rw [hlen, hl]; simp
  have lb : len ≤ 121 := by rw [hlen, hl]; exact dsq_le hn
  have lx : l.length = (n + 1) * (n + 1) := hl
  have HL := Lib.hid hl
  have HLn := Lib.hid hlen
  have E0 := Lib.hid e0
  rw [← hlen]
  clear p hl hlen hR e0 lx
  go_enter Try.func27, Try.ntmps27
  go_wp2_with fail
  rw [← hw0]
  clear hw0
  refine (PD.out _).mono ?_
  rintro e w1 ⟨rfl, rfl⟩
  go_wp2_with fail
  clear t3 h2
  go_loopw [6] (fun s wr => ∃ t : Nat, t ≤ len ∧ s = .int .i64 t ∧ Hid (∀ k, k < t → lvB (Zo.gt l k) = true) ∧ Hid (wr = w1)) (fun s _ => len - (intOf s).toNat)
  case atStart => exact ⟨0, by omega, rfl, Lib.hid (fun k hk => by omega), Lib.hid rfl⟩
  case round =>
    obtain ⟨t, ht, rfl, HK, HW⟩ := hrel
    have hwr := HW.out
    subst hwr
    clear HW
    by_cases htn : t < len
    · have d1 := HR.out t (by rw [← HLn.out]; exact htn)
      obtain ⟨x, hx⟩ : ∃ x, x = Zo.gt l t := ⟨_, rfl⟩
      rw [← hx] at d1
      have HXE := Lib.hid hx
      have v9 := fun W => refLimValid_free x W
      clear hx
      cases lv : lvB x
      · have HE := Lib.hid (closeE_bad3 (N := n) (l := l) (k := t) (by rw [← HLn.out]; exact htn) (by rw [← HXE.out]; exact lv))
        rw [lv] at v9
        have V9 := Lib.hid v9
        clear v9 lv
        obtain ⟨b0, b1, b2, b3⟩ := rs.facts
        go_wp2_with fail
        refine (V9.out _).mono ?_
        rintro e w2 ⟨rfl, rfl⟩
        go_wp2_with fail
        refine bodyPost_ret (v := .tuple #[.agg #[.int .i64 0, .slice none 0 0], .int .i64 2]) (by simp [results, Try.results27, go_sem, b0, b1]) rfl (ZRes.bad (zres_bad (N := 0) (l := []) ?_) HE.out)
        exact (E0.out.setCell (by show w.heap.size ≤ w.heap.size; omega) _).setCell (by show w.heap.size ≤ w.heap.size; omega) _
      · have HK2 := Lib.hid (show lvB (Zo.gt l t) = true by rw [← HXE.out]; exact lv)
        rw [lv] at v9
        have V9 := Lib.hid v9
        clear v9 lv
        go_wp2_with fail
        refine (V9.out _).mono ?_
        rintro e w2 ⟨rfl, rfl⟩
        go_wp2_with fail
        go_roundw
        case rel =>
          refine ⟨t + 1, by omega, by go_num, Lib.hid (fun k hk => ?_), by first | exact Lib.hid rfl | exact Lib.hid trivial⟩
          by_cases e : k = t
          · rw [e]; exact HK2.out
          · exact HK.out k (by omega)
        case measure => simp [intOf]; omega
    · have HAE := Lib.hid (closeE_ok hn HL.out (fun k hk => HK.out k (by rw [← HLn.out] at hk; omega)))
      go_wp2_with fail
      refine (CP.out _ HR.out).mono ?_
      rintro e w2 ⟨g, c, rfl, hg, ho, hb2⟩
      have rs2 := rs.kept hb2
      have E2 := Lib.hid (below_on E0.out hb2)
      have HO := Lib.hid ho
      have z2 := hb2.size
      clear hb2 ho
      go_wp2_with fail
      by_cases hE : cloE n l = 0
      · have CL : Hid (∀ W, Own W g c l → Calls Try.prog 26 #[.agg #[.int .i64 n, .slice (some ⟨g, 0, none⟩) len c]] W (fun e w' => e = .returned (.tuple #[.agg #[.int .i64 n, .slice (some ⟨g, 0, none⟩) len c], .int .i64 0]) ∧ Own w' g c (Zo.clo n l) ∧ W.grownBy w' (some g))) := Lib.hid fun W h => by have := closed_ok W hn HL.out h hE; rw [← HLn.out] at this; exact this
        have HEE := Lib.hid hE
        clear hE
        refine (CL.out _ HO.out).mono ?_
        rintro e w5 ⟨rfl, ho5, hg5⟩
        have rs5 := rs2.grown hg5 (by omega)
        obtain ⟨q0, q1, q2, q3⟩ := rs5.facts
        have E5 := Lib.hid (grown_over E2.out hg5 (by omega))
        have HO5 := Lib.hid ho5
        clear ho5 hg5
        go_wp2_with fail
        refine bodyPost_ret (v := .tuple #[.agg #[.int .i64 n, .slice (some ⟨g, 0, none⟩) len c], .int .i64 0]) (by simp [results, Try.results27, go_sem, q0, q1]) rfl ⟨(E5.out.setCell (by show w.heap.size ≤ w.heap.size; omega) _).setCell (by show w.heap.size ≤ w.heap.size; omega) _, Or.inl ⟨by rw [HAE.out]; exact HEE.out, g, c, ?_, by omega, ?_⟩⟩
        · rw [Zo.clo_length, ← HLn.out]
        · exact put_far HO5.out (by omega) _ _
      · have CL : Hid (∀ W, Own W g c l → Calls Try.prog 26 #[.agg #[.int .i64 n, .slice (some ⟨g, 0, none⟩) len c]] W (fun e w' => e = .returned (.tuple #[.agg #[.int .i64 0, .slice none 0 0], .int .i64 (cloE n l)]) ∧ Own w' g c (Zo.clo n l) ∧ W.grownBy w' (some g))) := Lib.hid fun W h => by have := closed_no W hn HL.out h hE; rw [← HLn.out] at this; exact this
        have HEE := Lib.hid hE
        clear hE
        refine (CL.out _ HO.out).mono ?_
        rintro e w5 ⟨rfl, ho5, hg5⟩
        have rs5 := rs2.grown hg5 (by omega)
        obtain ⟨q0, q1, q2, q3⟩ := rs5.facts
        have E5 := Lib.hid (grown_over E2.out hg5 (by omega))
        have HO5 := Lib.hid ho5
        clear ho5 hg5
        go_wp2_with fail
        refine bodyPost_ret (v := .tuple #[.agg #[.int .i64 0, .slice none 0 0], .int .i64 (cloE n l)]) (by simp [results, Try.results27, go_sem, q0, q1]) rfl ⟨(E5.out.setCell (by show w.heap.size ≤ w.heap.size; omega) _).setCell (by show w.heap.size ≤ w.heap.size; omega) _, Or.inr ⟨by rw [HAE.out]; exact HEE.out, ?_⟩⟩
        rw [HAE.out]

theorem close_gen (N : Int) (l : List Int) (ao : Option Addr) (cap : Nat) (w : World) (hA : Arg w ao l) :
    Calls Try.prog 27 #[.int .i64 N, .slice ao l.length cap] w (ZRes w N (Zo.clo N.toNat l) (closeE N l)) := by
  cases hd : dimB N
  · exact (close_bad1 N l ao cap w hd).mono fun e w' h => h.bad (closeE_bad1 hd)
  · obtain ⟨n, rfl, hn⟩ := dim_nat hd
    by_cases hl : l.length = (n + 1) * (n + 1)
    · obtain ⟨a, rfl, hR⟩ := hA (fun e => by have := dsq_pos n; rw [e] at hl; simp at hl)
      exact close_any n l a cap w hn hl hR
    · exact (close_bad2 n l ao cap w hn hl).mono fun e w' h => h.bad (closeE_bad2 (by simpa using hl))
end Go.Proofs.Ytgdcclldgfcilaa

namespace Go.Proofs.Ytgdcclldgfcilaa
open Go.RowKit

theorem mx_info : (Try.prog.info? 82).map (fun i => (i.zero, i.size)) = some (some (.agg (mcs 0 [])), 122) := by kernel_rfl

theorem mx_zero (w : World) : (zeroValue 82).run Try.prog w = .ok (.agg (mcs 0 [])) w := (zero_of_info mx_info).1 w

theorem mx_size : (Try.prog.info? 82).map (·.size) = some 122 := (zero_of_info mx_info).2

theorem mcs_size {n : Nat} {l : List Int} (hl : l.length ≤ 121) : (mcs n l).size = 122 := by
  simp [mcs, pad]; omega

theorem mcs_one (n : Nat) (l : List Int) : (mcs n l).all (·.oneCell') = true := by
  rw [Array.all_eq_true_iff_forall_mem]
  intro v hv
  simp [mcs] at hv
  rcases hv with rfl | ⟨x, _, rfl⟩ <;> rfl

theorem mx_build0 (w : World) : (Instr.build 82 #[]).run Try.prog w = .ok (.agg (mcs 0 [])) w := run_build w _ _ _ (by kernel_rfl)

theorem mx_load {w : World} {b : Nat} {cs : Array Value} (h : w.heap[b]? = some (.cells cs 82 (0, 0))) (hs : cs.size = 122) : (loadVar 82 ⟨b, 0, none⟩).run Try.prog w = .ok (.agg cs) w :=
  run_loadVar_row w b _ _ cs (0, 0) _ h Try.underlying82 rfl (by rw [hs]; exact mx_size)

theorem mx_loadAt {w : World} {b : Nat} {cs : Array Value} (h : w.heap[b]? = some (.cells cs 82 (0, 0))) (hs : cs.size = 122) : (Instr.loadAt 82 (.pointer (some ⟨b, 0, none⟩))).run Try.prog w = .ok (.agg cs) w := by
  simp only [Instr.loadAt, Instr.sureAddr, Sem.run_bind, Sem.run_pure, Result.andThen_ok, mx_load h hs]

theorem mx_store {w : World} {b : Nat} {old cs : Array Value} (h : w.heap[b]? = some (.cells old 82 (0, 0))) (ho : old.size = 122) (hs : cs.size = 122) (h1 : cs.all (·.oneCell') = true) :
    (Instr.storeAt 82 (.pointer (some ⟨b, 0, none⟩)) (.agg cs)).run Try.prog w = .ok () (w.setRow b cs) := by
  simp only [Instr.storeAt, Instr.sureAddr, Sem.run_bind, Sem.run_pure, Result.andThen_ok]
  exact run_storeVar_row w b _ _ old cs h (by rw [hs]; exact mx_size) (by rw [ho, hs]) h1

theorem mx_storeC {w : World} {b : Nat} {old cs : Array Value} (h : w.heap[b]? = some (.cells old 82 (0, 0))) (ho : old.size = 122) (hs : cs.size = 122) (h1 : cs.all (·.oneCell') = true) :
    (storeCells ⟨b, 0, none⟩ cs.toList).run Try.prog w = .ok () (w.setRow b cs) := by
  have := mx_store h ho hs h1
  simp only [Instr.storeAt, Instr.sureAddr, Sem.run_bind, Sem.run_pure, Result.andThen_ok] at this
  cases hq : Try.prog.info? 82 with
  | none => have := mx_size; simp [hq] at this
  | some i =>
    have hi := mx_size
    rw [hq] at hi
    have hs' : cs.size = i.size := by simp at hi; omega
    simpa [storeVar, sizeOf, typeInfo, hq, Value.cells, hs'] using this

theorem mx_loadC {w : World} {b : Nat} {cs : Array Value} (h : w.heap[b]? = some (.cells cs 82 (0, 0))) (hs : cs.size = 122) :
    (loadCellsFrom ⟨b, 0, none⟩ 0 122 #[]).run Try.prog w = .ok cs w := by
  have := run_loadCells_list (P := Try.prog) w ⟨b, 0, none⟩ cs.toList (fun j v hv => by
    rw [addr_add, cell_of_row _ _ j cs _ _ h]
    simpa using hv)
  rw [show cs.toList.length = 122 by simpa using hs] at this
  simpa [loadCells] using this

/-- Block b is a variable for a matrix. -/
def Var (w : World) (b : Nat) (cs : Array Value) : Prop := w.heap[b]? = some (.cells cs 82 (0, 0)) ∧ cs.size = 122

theorem Var.made (w : World) : Var (w.alloc (.cells (mcs 0 []) 82)) w.heap.size (mcs 0 []) := ⟨heap_alloc_last w _, mcs_size (by simp)⟩

theorem Var.lt {w : World} {b : Nat} {cs : Array Value} (h : Var w b cs) : b < w.heap.size := by
  by_cases e : b < w.heap.size
  · exact e
  · have := h.1; rw [Array.getElem?_eq_none (by omega)] at this; cases this

theorem Var.kept {w w' : World} {b : Nat} {cs : Array Value} (h : Var w b cs) (hb : Below w.heap.size w w') : Var w' b cs := ⟨(hb.block b h.lt).trans h.1, h.2⟩

theorem Var.put {w : World} {b : Nat} {old : Array Value} (h : Var w b old) (cs : Array Value) (hs : cs.size = 122) : Var (w.setRow b cs) b cs := ⟨setRow_heap w b old _ _ _ h.1, hs⟩

theorem Below.setRow {B : Nat} {w w' : World} (h : Below B w w') {b : Nat} (hle : B ≤ b) (cs : Array Value) : Below B w (w'.setRow b cs) :=
  ⟨h.os, h.tape, h.output, by simpa using h.size, fun k hk => (setRow_other w' b k cs (by omega)).trans (h.block k hk)⟩

theorem wpl_load {ops : Array Oper} {rest : List Oper} {o : Oper} {a : Act} {w : World} {Q : Exit → Act → World → Prop} (hgd : o.guard = none) (x : Operand) (ho : o.op = .load 82 x)
    (b : Nat) (hx : a.eval x = .pointer (some ⟨b, 0, none⟩)) (cs : Array Value) (hv : Var w b cs) (h : wpList Try.prog ops Q rest (a.put o.dst (.agg cs)) w) : wpList Try.prog ops Q (o :: rest) a w :=
  wpList_load_row hgd _ x ho b hx _ cs (0, 0) _ hv.1 Try.underlying82 rfl (by rw [hv.2]; exact mx_size) h

theorem wpl_store {ops : Array Oper} {rest : List Oper} {o : Oper} {a : Act} {w : World} {Q : Exit → Act → World → Prop} (hgd : o.guard = none) (x y : Operand) (ho : o.op = .store 82 x y)
    (b : Nat) (cs : Array Value) (hx : a.eval x = .pointer (some ⟨b, 0, none⟩)) (hy : a.eval y = .agg cs) (old : Array Value) (hv : Var w b old) (hs : cs.size = 122) (h1 : cs.all (·.oneCell') = true)
    (h : wpList Try.prog ops Q rest (a.put o.dst undef) (w.setRow b cs)) : wpList Try.prog ops Q (o :: rest) a w :=
  wpList_store_row hgd _ x y ho b cs hx hy _ old hv.1 (by rw [hs]; exact mx_size) (by rw [hv.2, hs]) h1 h

theorem results_mx {fn : Func} {p t : Tmp} (h : fn.results = #[.cell p 82, .tmp t]) (tmps : Array Value) {w : World} {b : Nat} {cs : Array Value} {v : Value}
    (hp : tmps.getD p undef = .pointer (some ⟨b, 0, none⟩)) (ht : tmps.getD t undef = v) (hv : Var w b cs) : (results fn tmps).run Try.prog w = .ok (.tuple #[.agg cs, v]) w := by
  have hp' : tmps[p]?.getD undef = .pointer (some ⟨b, 0, none⟩) := by simpa using hp
  have ht' : tmps[t]?.getD undef = v := by simpa using ht
  simp [results, h, hp', ht', asAddr, mx_load hv.1 hv.2]

set_option maxRecDepth 100000 in
set_option maxHeartbeats 4000000 in
theorem read_bad1 (N : Int) (l : List Int) (ao : Option Addr) (cap : Nat) (w : World) (hd : dimB N = false) :
    Calls Try.prog 43 #[.int .i64 N, .slice ao l.length cap] w (fun e w' => e = .returned (.tuple #[.agg (mcs 0 []), .bool false]) ∧ Below w.heap.size w w') := by
  have hz := mx_zero
  have h0 := mx_build0
  have PD := fun W => isDimension_any N W
  rw [hd] at PD
  have HD := Lib.hid PD
  have V0 := Var.made w
  have HV := Lib.hid V0
  have E0 := Lib.hid (one_more (w1 := w) (.cells (mcs 0 []) 82))
  have hs0 := mx_storeC V0.1 V0.2 (mcs_size (n := 0) (l := []) (by simp)) (mcs_one _ _)
  generalize l.length = len at *
  clear hd PD V0
  go_enter Try.func43, Try.ntmps43
  go_wp2_with fail
  refine (HD.out _).mono ?_
  rintro e w1 ⟨rfl, rfl⟩
  go_wp2_with fail
  refine bodyPost_ret (results_mx Try.results43 _ rfl rfl (HV.out.put (mcs 0 []) (mcs_size (by simp)))) rfl ⟨rfl, ?_⟩
  exact Below.setRow E0.out (Nat.le_refl _) _

/-- Which arguments of read are a matrix of a dimension. -/
def rdB (N : Int) (l : List Int) : Bool := dimB N && decide (l.length = (N.toNat + 1) * (N.toNat + 1)) && l.all lvB

def rdL (l : List Int) : Bool := l.all lvB

def rdV (n : Nat) (l : List Int) : Array Value := if rdL l then mcs n l else mcs 0 []

set_option maxRecDepth 100000 in
set_option maxHeartbeats 4000000 in
theorem read_bad2 (n : Nat) (l : List Int) (ao : Option Addr) (cap : Nat) (w : World) (hn : n ≤ 10) (hne : l.length ≠ (n + 1) * (n + 1)) :
    Calls Try.prog 43 #[.int .i64 n, .slice ao l.length cap] w (fun e w' => e = .returned (.tuple #[.agg (mcs 0 []), .bool false]) ∧ Below w.heap.size w w') := by
  have hz := mx_zero
  have h0 := mx_build0
  have PD := fun W => isDimension_any n W
  rw [show dimB (n : Int) = true by unfold dimB; simp; omega] at PD
  have HD := Lib.hid PD
  have HP := Lib.hid (fun W => places_any n W hn)
  have V0 := Var.made w
  have HV := Lib.hid V0
  have E0 := Lib.hid (one_more (w1 := w) (.cells (mcs 0 []) 82))
  have hs0 := mx_storeC V0.1 V0.2 (mcs_size (n := 0) (l := []) (by simp)) (mcs_one _ _)
  generalize l.length = len at *
  generalize (n + 1) * (n + 1) = sz at *
  have D : ((len : Int) != (sz : Int)) = true := by simp; omega
  clear PD V0 hne
  go_enter Try.func43, Try.ntmps43
  go_wp2_with fail
  refine (HD.out _).mono ?_
  rintro e w1 ⟨rfl, rfl⟩
  go_wp2_with fail
  refine (HP.out _).mono ?_
  rintro e w1 ⟨rfl, rfl⟩
  go_wp2_with fail
  refine bodyPost_ret (results_mx Try.results43 _ rfl rfl (HV.out.put (mcs 0 []) (mcs_size (by simp)))) rfl ⟨rfl, ?_⟩
  exact Below.setRow E0.out (Nat.le_refl _) _

theorem mx_buildN (n : Nat) (w : World) : (Instr.build 82 #[(0, .int .i64 n)]).run Try.prog w = .ok (.agg (mcs n [])) w := run_build w _ _ _ (by kernel_rfl)

theorem pad_next (d : List Int) (x : Int) (h : d.length < 121) : (pad d).set d.length x = pad (d ++ [x]) := by
  unfold pad
  rw [List.set_append_right _ _ (Nat.le_refl _), Nat.sub_self, List.length_append, show 121 - d.length = (121 - (d.length + 1)) + 1 by omega, List.replicate_succ]
  simp

theorem fill_row {b n : Nat} : ∀ (rest d : List Int) (w : World), w.heap[b]? = some (.cells (mcs n d) 82 (0, 0)) → (d ++ rest).length ≤ 121 →
    (w.setCells b (1 + d.length) (rest.map (Value.int .i64))).heap[b]? = some (.cells (mcs n (d ++ rest)) 82 (0, 0)) := by
  intro rest
  induction rest with
  | nil => intro d w h _; simpa [World.setCells] using h
  | cons x rest ih =>
    intro d w h hl
    have hl2 : d.length < 121 := by simp at hl; omega
    have h1 : (w.setCell ⟨b, 1 + d.length, none⟩ (.int .i64 x)).heap[b]? = some (.cells (mcs n (d ++ [x])) 82 (0, 0)) := by
      rw [heap_setCell_same w b _ _ _ _ h, Nat.add_comm]
      congr 2
      simp [mcs, ← pad_next d x hl2, List.map_set]
    have := ih (d ++ [x]) _ h1 (by simpa using hl)
    simpa [World.setCells, Nat.add_assoc] using this

theorem run_whole (b : Nat) (w : World) :
    (Instr.sliceAt 80 (.pointer (some ⟨b, 1, none⟩)) none none none).run Try.prog w = .ok (.slice (some ⟨b, 1, none⟩) 121 121) w := by
  have ha : Try.prog.arrayLen 80 = 121 := by simp [Program.arrayLen]
  have he : Try.prog.elem 80 = 39 := by simp [Program.elem]
  rw [run_sliceAt_array_all w 80 ⟨b, 1, none⟩ (by rw [ha, he]; exact cells_ty)]
  rw [he, limit_size]
  simp only [Result.andThen_ok, slicedAt, ha]
  rw [if_neg (by omega), Addr.add_mid]

theorem Below.setCells {B : Nat} {w : World} {b : Nat} (hle : B ≤ b) : ∀ (vs : List Value) (o : Nat) (w' : World), Below B w w' → Below B w (w'.setCells b o vs) := by
  intro vs
  induction vs with
  | nil => intro o w' h; exact h
  | cons v vs ih => intro o w' h; exact ih _ _ (h.setCell hle v)

set_option maxRecDepth 100000 in
set_option maxHeartbeats 4000000 in
theorem read_loop (n : Nat) (l : List Int) (a : Addr) (cap : Nat) (w : World) (hn : n ≤ 10) (hl : l.length = (n + 1) * (n + 1)) (hR : Rd w a l) :
    Calls Try.prog 43 #[.int .i64 n, .slice (some a) l.length cap] w
      (fun e w' => e = .returned (.tuple #[.agg (rdV n l), .bool (rdL l)]) ∧ Below w.heap.size w w') := by
  have hz := mx_zero
  have h0 := mx_build0
  have hbn := mx_buildN n
  have PD := fun W => isDimension_any n W
  rw [show dimB (n : Int) = true by unfold dimB; simp; omega] at PD
  have HD := Lib.hid PD
  have HP := Lib.hid (fun W => places_any n W hn)
  obtain ⟨w0, hw0⟩ : ∃ w0, w0 = w.alloc (.cells (mcs 0 []) 82) := ⟨_, rfl⟩
  have V0 : Var w0 w.heap.size (mcs 0 []) := by rw [hw0]; exact Var.made w
  have HV := Lib.hid V0
  have E0 := Lib.hid (show Below w.heap.size w w0 by rw [hw0]; exact one_more _)
  have hs0 := mx_storeC V0.1 V0.2 (mcs_size (n := 0) (l := []) (by simp)) (mcs_one _ _)
  have HR := Lib.hid (hR.on E0.out)
  have d2 := dsq_le hn
  have d1 := dsq_pos n
  have HLEN := Lib.hid hl
  clear hR PD V0
  generalize hsz : (n + 1) * (n + 1) = sz at *
  rw [hl]
  clear hl hsz
  have D : ((sz : Int) != (sz : Int)) = false := by simp
  go_enter Try.func43, Try.ntmps43
  go_wp2_with fail
  rw [← hw0]
  clear hw0
  refine (HD.out _).mono ?_
  rintro e w1 ⟨rfl, hw⟩
  rw [hw]; clear hw w1
  go_wp2_with fail
  refine (HP.out _).mono ?_
  rintro e w1 ⟨rfl, hw⟩
  rw [hw]; clear hw w1
  go_wp2_with fail
  go_loopw [22] (fun s wr => ∃ t : Nat, t ≤ sz ∧ s = .int .i64 t ∧ Hid (wr = w0) ∧ Hid (∀ i, i < t → lvB (Zo.gt l i) = true)) (fun s _ => sz - (intOf s).toNat)
  case atStart => exact ⟨0, by omega, rfl, Lib.hid rfl, Lib.hid (fun i hi => by omega)⟩
  case round =>
    obtain ⟨t, ht, rfl, HW, HT⟩ := hrel
    obtain rfl := HW.out
    clear HW
    by_cases htn : t < sz
    · obtain ⟨v, hv⟩ : ∃ v, v = Zo.gt l t := ⟨_, rfl⟩
      have c1 : wr.cell? (a.add t) = some (.int .i64 v) := by rw [hv]; exact HR.out t (by rw [HLEN.out]; exact htn)
      have HVV := Lib.hid hv
      clear hv
      have PV := fun W => limValid_free v W
      cases lv : lvB v
      · rw [lv] at PV
        have HE := Lib.hid (show rdL l = false by
          unfold rdL
          rw [List.all_eq_false]
          refine ⟨l[t]'(by rw [HLEN.out]; exact htn), List.getElem_mem _, ?_⟩
          rw [show l[t]'(by rw [HLEN.out]; exact htn) = v by rw [HVV.out]; simp [Zo.gt, show t < l.length by rw [HLEN.out]; exact htn], lv]
          decide)
        have PW := Lib.hid PV
        clear PV
        go_wp2_with fail
        refine (PW.out _).mono ?_
        rintro e w3 ⟨rfl, rfl⟩
        go_wp2_with fail
        refine bodyPost_ret (results_mx Try.results43 _ rfl rfl (HV.out.put (mcs 0 []) (mcs_size (by simp)))) rfl ⟨by unfold rdV; rw [HE.out]; rfl, ?_⟩
        exact Below.setRow E0.out (Nat.le_refl _) _
      · rw [lv] at PV
        have PW := Lib.hid PV
        have HLV := Lib.hid lv
        clear PV lv
        go_wp2_with fail
        refine (PW.out _).mono ?_
        rintro e w3 ⟨rfl, rfl⟩
        clear c1
        go_wp2_with fail
        go_roundw
        case rel =>
          refine ⟨t + 1, by omega, by go_num, Lib.hid (by first | rfl | trivial), Lib.hid (fun i hi => ?_)⟩
          by_cases e : i = t
          · rw [e, ← HVV.out]; exact HLV.out
          · exact HT.out i (by omega)
        case measure => simp [intOf]; omega
    · have HE := Lib.hid (show rdL l = true by
        unfold rdL
        rw [List.all_eq_true]
        intro x hx
        obtain ⟨i, hi, rfl⟩ := List.getElem_of_mem hx
        have := HT.out i (by have := HLEN.out; omega)
        simpa [Zo.gt, hi] using this)
      clear hs0
      have V1 : Var (wr.alloc (.cells (mcs 0 []) 82)) wr.heap.size (mcs 0 []) := Var.made wr
      have hs1 := mx_storeC V1.1 V1.2 (mcs_size (n := n) (l := []) (by simp)) (mcs_one _ _)
      rw [World.setRow_alloc_new, show (mcs n []).toList = (mcs 0 []).toList.set 0 (.int .i64 n) from rfl] at hs1
      have hr := run_whole wr.heap.size
      obtain ⟨w2, hw2⟩ : ∃ w2, w2 = wr.alloc (.cells (mcs n []) 82) := ⟨_, rfl⟩
      have V2 : w2.heap[wr.heap.size]? = some (.cells (mcs n []) 82 (0, 0)) := by rw [hw2]; exact heap_alloc_last wr _
      have L1 : l.length ≤ 121 := by rw [HLEN.out]; exact d2
      have hcp := fun ty => run_copy_cells (P := Try.prog) w2 22 22 ty 39 wr.heap.size 1 121 121 a sz cap (l.map (Value.int .i64)) Try.underlying22
        (by rfl) (by rw [List.length_map, HLEN.out]; exact (Nat.min_eq_left d2).symm) (fun j v hj => by rw [hw2]; exact kept (one_more _) (HR.out.map j v hj))
        (fun j hj => by
          rw [cell_of_row w2 _ _ _ _ _ V2]
          have : 1 + j < (mcs n []).size := by rw [mcs_size (by simp)]; simp at hj; omega
          rw [Array.getElem?_eq_getElem this]; rfl)
        (fun j hj => frozen_of_row w2 _ _ _ _ V2) (by simp [Value.oneCell'])
      have V3 := fill_row (b := wr.heap.size) (n := n) l [] w2 V2 (by simpa using L1)
      have e3 : Below w.heap.size w (w2.setCells wr.heap.size 1 (l.map (Value.int .i64))) := by
        refine Below.setCells (Nat.le_of_lt HV.out.lt) _ _ _ ?_
        rw [hw2]; exact E0.out.alloc (Nat.le_of_lt HV.out.lt) _
      have k3 : (w2.setCells wr.heap.size 1 (l.map (Value.int .i64))).heap[w.heap.size]? = some (.cells (mcs 0 []) 82 (0, 0)) := by
        rw [World.heap_setCells_other _ _ _ _ (by rw [hw2]; simp; have := HV.out.lt; omega) (by have := HV.out.lt; omega), hw2, heap_alloc_old wr _ HV.out.lt]
        exact HV.out.1
      simp only [List.length_nil, List.nil_append, Nat.add_zero] at V3
      rw [hw2] at hcp
      simp only [List.length_map, HLEN.out] at hcp
      have VL : Var (w2.setCells wr.heap.size 1 (l.map (Value.int .i64))) wr.heap.size (mcs n l) := ⟨V3, mcs_size L1⟩
      rw [hw2] at VL
      have H3 := Lib.hid e3
      have K3 := Lib.hid (show Var (w2.setCells wr.heap.size 1 (l.map (Value.int .i64))) w.heap.size (mcs 0 []) from ⟨k3, mcs_size (by simp)⟩)
      rw [hw2] at H3 K3
      have S3 := Lib.hid (mcs_size (n := n) L1)
      clear e3 k3 V3 V2 V1 L1
      go_wp2_with (first | refine wpl_load rfl _ rfl _ rfl _ VL ?_ | refine wpl_store rfl _ _ rfl _ _ rfl rfl _ K3.out S3.out (mcs_one _ _) ?_)
      refine bodyPost_ret (results_mx Try.results43 _ rfl rfl (K3.out.put (mcs n l) S3.out)) rfl ⟨by unfold rdV; rw [HE.out]; rfl, ?_⟩
      exact Below.setRow H3.out (Nat.le_refl _) _
end Go.Proofs.Ytgdcclldgfcilaa

namespace Go.Proofs.Ytgdcclldgfcilaa
open Go.RowKit

theorem items_run (d : Nat) (l m : List Int) (w : World) : ∀ is : List Nat, (∀ i ∈ is, i < l.length ∧ i < m.length) →
    (Op.eqItems (d + 1) 39 1 ⟨l.map (Value.int .i64)⟩ ⟨m.map (Value.int .i64)⟩ is).run Try.prog w = .ok (is.all fun i => Zo.gt l i == Zo.gt m i) w := by
  intro is
  have hp : Try.prog.plainKey 39 = true := by kernel_rfl
  induction is with
  | nil => intro _; simp [Op.eqItems]
  | cons i is ih =>
    intro h
    obtain ⟨h1, h2⟩ := h i (by simp)
    have p1 : (part 39 ⟨l.map (Value.int .i64)⟩ (i * 1)).run Try.prog w = .ok (.int .i64 (Zo.gt l i)) w := run_part_plain w hp (by simp [Zo.gt, h1])
    have p2 : (part 39 ⟨m.map (Value.int .i64)⟩ (i * 1)).run Try.prog w = .ok (.int .i64 (Zo.gt m i)) w := run_part_plain w hp (by simp [Zo.gt, h2])
    have p3 := run_equalIn_int (P := Try.prog) (w := w) d 39 .i64 .i64 (Zo.gt l i) (Zo.gt m i) Try.underlying39
    simp only [Op.eqItems, Sem.run_bind, p1, p2, p3, Result.andThen_ok, List.all_cons]
    cases Zo.gt l i == Zo.gt m i
    · simp
    · simpa using ih (fun j hj => h j (by simp [hj]))

theorem pad_len {l : List Int} (hl : l.length ≤ 121) : (pad l).length = 121 := by simp [pad]; omega

theorem pad_inj {l m : List Int} (hm : m.length = l.length) (h : pad l = pad m) : l = m := by
  unfold pad at h
  exact (List.append_inj h hm.symm).1

theorem list_ext_gt {l m : List Int} (hm : m.length = l.length) (h : ∀ i, i < l.length → Zo.gt l i = Zo.gt m i) : l = m := by
  refine List.ext_getElem hm.symm fun i h1 h2 => ?_
  have := h i h1
  simpa [Zo.gt, h1, h2] using this

theorem mx_fields : ∃ f g, (Try.prog.fieldsOf 82).toList = [f, g] ∧ (f.name ≠ "_" ∧ f.type = 3 ∧ f.offset = 0) ∧ (g.name ≠ "_" ∧ g.type = 80 ∧ g.offset = 1) := by
  have hf : (Try.prog.fieldsOf 82).toList.map (fun f => (f.name != "_", f.type, f.offset)) = [(true, 3, 0), (true, 80, 1)] := by kernel_rfl
  revert hf
  generalize (Try.prog.fieldsOf 82).toList = fs
  intro hf
  cases fs with
  | nil => simp at hf
  | cons f r =>
    cases r with
    | nil => simp at hf
    | cons g r =>
      cases r with
      | cons _ _ => simp at hf
      | nil =>
        simp only [List.map_cons, List.map_nil, List.cons.injEq, Prod.mk.injEq, bne_iff_ne, and_true] at hf
        obtain ⟨⟨a1, a2, a3⟩, b1, b2, b3⟩ := hf
        exact ⟨f, g, rfl, ⟨a1, a2, a3⟩, b1, b2, b3⟩

theorem cells_size (w : World) : (sizeOf 80).run Try.prog w = .ok 121 w := by
  have h : (Try.prog.info? 80).map (·.size) = some 121 := by kernel_rfl
  cases hq : Try.prog.info? 80 with
  | none => simp [hq] at h
  | some i => simp [hq] at h; simp [sizeOf, typeInfo, hq, h]

theorem cells_part (n : Nat) (k : List Int) (hk : k.length ≤ 121) (w : World) : (part 80 (mcs n k) 1).run Try.prog w = .ok (.agg ⟨(pad k).map (Value.int .i64)⟩) w := by
  have ha : (isAgg 80).run Try.prog w = .ok true w := by
    unfold isAgg; rw [Sem.run_bind, run_underlying cells_ty w]; simp
  have hz := cells_size w
  have hx : (mcs n k).extract 1 (1 + 121) = ⟨(pad k).map (Value.int .i64)⟩ := by
    have := pad_len hk
    apply Array.toList_inj.1
    rw [Array.toList_extract]
    simp only [mcs, List.extract_eq_take_drop, List.drop_succ_cons, List.drop_zero]
    rw [List.take_of_length_le (by simp; omega)]
  unfold part
  rw [Sem.run_bind, ha, Result.andThen_ok, if_pos rfl, Sem.run_bind, hz, Result.andThen_ok, hx]
  rfl

theorem all_eq (N : Nat) (a b : List Int) (ha : a.length = N) (hb : b.length = N) : ((List.range N).all fun i => Zo.gt a i == Zo.gt b i) = decide (a = b) := by
  rw [Bool.eq_iff_iff, List.all_eq_true, decide_eq_true_eq]
  constructor
  · intro h
    exact list_ext_gt (by omega) fun i hi => by
      have := h i (List.mem_range.2 (by omega))
      simpa using this
  · intro h i _
    rw [h]; simp

theorem cells_eq (d : Nat) (l m : List Int) (hl : l.length ≤ 121) (hm : m.length = l.length) (w : World) :
    (Op.equalIn (d + 1 + 1) 80 (.agg ⟨(pad l).map (Value.int .i64)⟩) (.agg ⟨(pad m).map (Value.int .i64)⟩)).run Try.prog w = .ok (decide (l = m)) w := by
  obtain ⟨ie, hie⟩ : ∃ i, Try.prog.info? 39 = some i := by
    obtain ⟨i, hi, _⟩ := info_parts Try.info39
    exact ⟨i, hi⟩
  have hc : Try.prog.cellsOf 39 = 1 := by kernel_rfl
  rw [run_equalIn_array (P := Try.prog) w (d + 1) (⟨(pad l).map (Value.int .i64)⟩ : Array Value) ⟨(pad m).map (Value.int .i64)⟩ cells_ty hie]
  rw [hc, items_run d (pad l) (pad m) w (List.range 121) (fun i hi => by rw [pad_len hl, pad_len (by omega)]; exact ⟨List.mem_range.1 hi, List.mem_range.1 hi⟩)]
  rw [all_eq 121 (pad l) (pad m) (pad_len hl) (pad_len (by omega))]
  rw [show decide (pad l = pad m) = decide (l = m) from decide_eq_decide.2 ⟨fun h => pad_inj hm h, fun h => by rw [h]⟩]

theorem mx_eqIn (d : Nat) (n : Nat) (l m : List Int) (hl : l.length ≤ 121) (hm : m.length = l.length) (w : World) :
    (Op.equalIn (d + 1 + 1 + 1) 82 (.agg (mcs n l)) (.agg (mcs n m))).run Try.prog w = .ok (decide (l = m)) w := by
  have ht : Try.prog.underlying 82 = some (.struct (Try.prog.fieldsOf 82)) := by kernel_rfl
  have hs : Try.prog.stoodInHeld 82 = false := by kernel_rfl
  rw [run_equalIn_struct w (d + 1 + 1) _ _ _ ht hs]
  obtain ⟨f, g, e, h1, h2⟩ := mx_fields
  rw [e]
  have hpi : Try.prog.plainKey 3 = true := by kernel_rfl
  have q1 : (part 3 (mcs n l) 0).run Try.prog w = .ok (.int .i64 n) w := run_part_plain w hpi rfl
  have q2 : (part 3 (mcs n m) 0).run Try.prog w = .ok (.int .i64 n) w := run_part_plain w hpi rfl
  have q3 := run_equalIn_int (P := Try.prog) (w := w) (d + 1) 3 .i64 .i64 n n Try.underlying3
  have q4 := cells_part n l hl w
  have q5 := cells_part n m (by omega) w
  have q6 := cells_eq d l m hl hm w
  generalize mcs n l = A at *
  generalize mcs n m = B at *
  generalize (⟨(pad l).map (Value.int .i64)⟩ : Array Value) = A' at *
  generalize (⟨(pad m).map (Value.int .i64)⟩ : Array Value) = B' at *
  obtain ⟨h11, h12, h13⟩ := h1
  obtain ⟨h21, h22, h23⟩ := h2
  simp only [Op.eqFields, h12, h13, h22, h23]
  rw [if_pos h11, Sem.run_bind, q1, Result.andThen_ok, Sem.run_bind, q2, Result.andThen_ok, Sem.run_bind, q3, Result.andThen_ok, if_neg (by rw [beq_self_eq_true]; decide), if_pos h21,
    Sem.run_bind, q4, Result.andThen_ok, Sem.run_bind, q5, Result.andThen_ok, Sem.run_bind, q6, Result.andThen_ok]
  generalize decide (l = m) = r
  cases r
  · rfl
  · rfl

/-- Two matrices of one dimension, compared as values. -/
theorem run_mx_eq (n : Nat) (l m : List Int) (hl : l.length ≤ 121) (hm : m.length = l.length) (w : World) :
    (binOp .eql 82 (.agg (mcs n l)) (.agg (mcs n m))).run Try.prog w = .ok (.bool (decide (l = m))) w := by
  have h := mx_eqIn 9997 n l m hl hm w
  generalize mcs n l = A at *
  generalize mcs n m = B at *
  rw [run_eql_struct]
  simp only [Nat.reduceAdd] at h
  rw [h]
  rfl
end Go.Proofs.Ytgdcclldgfcilaa

namespace Go.Proofs.Ytgdcclldgfcilaa
open Go.RowKit

theorem vl_of_lv {x : Int} (h : lvB x = true) : Zo.Vl x := by
  unfold lvB at h; simp at h; exact h

theorem lv_of_all {n : Nat} {l : List Int} (hl : l.length = (n + 1) * (n + 1)) (hv : rdL l = true) : ∀ a b, a ≤ n → b ≤ n → lvB (Zo.At n l a b) = true := by
  intro a b ha hb
  have hi := Zo.ix_lt ha hb
  rw [← hl] at hi
  unfold rdL at hv
  rw [List.all_eq_true] at hv
  have := hv _ (List.getElem_mem hi)
  have e : l[Zo.ix n a b] = Zo.At n l a b := by simp [Zo.At, Zo.gt, hi]
  rwa [e] at this

theorem vl_of {n : Nat} {l : List Int} (hl : l.length = (n + 1) * (n + 1)) (hv : rdL l = true) : ∀ a b, a ≤ n → b ≤ n → Zo.Vl (Zo.At n l a b) :=
  fun a b ha hb => vl_of_lv (lv_of_all hl hv a b ha hb)

theorem all_of_lv {n : Nat} {l : List Int} (hl : l.length = (n + 1) * (n + 1)) (hv : ∀ a b, a ≤ n → b ≤ n → lvB (Zo.At n l a b) = true) : rdL l = true := by
  unfold rdL
  rw [List.all_eq_true]
  intro x hx
  obtain ⟨i, hi, rfl⟩ := List.getElem_of_mem hx
  have h1 : i / (n + 1) ≤ n := by
    have : i < (n + 1) * (n + 1) := by omega
    have := Nat.div_lt_of_lt_mul this
    omega
  have h2 : i % (n + 1) ≤ n := by have := Nat.mod_lt i (show 0 < n + 1 by omega); omega
  have := hv _ _ h1 h2
  rwa [show Zo.At n l (i / (n + 1)) (i % (n + 1)) = l[i] by
    unfold Zo.At Zo.ix Zo.gt
    rw [show i / (n + 1) * (n + 1) + i % (n + 1) = i by rw [Nat.mul_comm]; exact Nat.div_add_mod i (n + 1)]
    simp [hi]] at this

theorem a64_of {l : List Int} (hv : rdL l = true) : Zo.A64 l := by
  intro j
  by_cases hj : j < l.length
  · unfold rdL at hv
    rw [List.all_eq_true] at hv
    have := vl_of_lv (hv _ (List.getElem_mem hj))
    rw [show l[j] = Zo.gt l j by simp [Zo.gt, hj]] at this
    unfold Zo.Vl at this
    omega
  · have : Zo.gt l j = 0 := by unfold Zo.gt; rw [List.getD_eq_getElem?_getD, List.getElem?_eq_none (by omega)]; rfl
    omega

/-- A matrix that is closed already stays as it is. -/
theorem clo_fix {n : Nat} {l : List Int} (hl : l.length = (n + 1) * (n + 1)) (h1 : ∀ a, a ≤ n → Zo.At n l a a ≤ 1) (h2 : ∀ a, a ≤ n → Zo.At n l 0 a ≤ 1)
    (h3 : ∀ i j k, i ≤ n → j ≤ n → k ≤ n → Zo.At n l i j ≤ Zo.smW (Zo.At n l i k) (Zo.At n l k j)) : Zo.clo n l = l := by
  have same : ∀ i j (y : Int), i ≤ n → j ≤ n → Zo.At n l i j ≤ y → l.set (Zo.ix n i j) (min (Zo.At n l i j) y) = l := by
    intro i j y hi hj hy
    have hlt := Zo.ix_lt hi hj
    rw [← hl] at hlt
    rw [Int.min_eq_left hy]
    have : Zo.At n l i j = l[Zo.ix n i j] := by simp [Zo.At, Zo.gt, hlt]
    rw [this, List.set_getElem_self]
  refine Zo.clo_keeps (R := fun x => x = l) (fun x i j hij hi hj hx => ?_) (fun x k i j hk hi hj hx => ?_) rfl
  · subst hx
    refine same i j 1 hi hj ?_
    rcases hij with rfl | rfl
    · exact h2 j hj
    · exact h1 i hi
  · subst hx
    exact same i j _ hi hj (h3 i j k hi hj hk)

theorem diag_of {n : Nat} {l : List Int} (h : cloB n l = false) : ∀ a, a ≤ n → 1 ≤ Zo.At n (Zo.clo n l) a a := by
  intro a ha
  unfold cloB at h
  rw [List.any_eq_false] at h
  have := h a (List.mem_range.2 (by omega))
  simp at this
  exact this

theorem clo_low {n : Nat} {l : List Int} (hl : l.length = (n + 1) * (n + 1)) : ∀ a, a ≤ n → Zo.At n (Zo.clo n l) a a ≤ 1 ∧ Zo.At n (Zo.clo n l) 0 a ≤ 1 := by
  intro a ha
  have h := Zo.pre_low hl a ha
  have b1 := Zo.clo_below hl (k := 0) (i := 0) (by omega) (by omega) ha ha
  have b2 := Zo.clo_below hl (k := 0) (i := 0) (by omega) (by omega) (show 0 ≤ n by omega) ha
  have e : (List.range 0).foldl (Zo.rlxJ n 0) (Zo.rnd n l 0) = Zo.pre n l := rfl
  rw [e] at b1 b2
  exact ⟨Int.le_trans b1 h.1, Int.le_trans b2 h.2⟩

/-- The rule of Floyd and Warshall keeps to the inequality of triangles, in the code's own sums. -/
theorem clo_tri_int {n : Nat} {l : List Int} (hn : n ≤ 10) (hl : l.length = (n + 1) * (n + 1)) (hv : rdL l = true) (hB : cloB n l = false) :
    ∀ i j k, i ≤ n → j ≤ n → k ≤ n → Zo.At n (Zo.clo n l) i j ≤ Zo.smW (Zo.At n (Zo.clo n l) i k) (Zo.At n (Zo.clo n l) k j) := by
  exact Zo.clo_sums hn hl (fun a b ha hb => (vl_of hl hv a b ha hb).wl) (diag_of hB)

theorem chk_iff {n : Nat} {l : List Int} (hn : n ≤ 10) (hl : l.length = (n + 1) * (n + 1)) (hv : rdL l = true) : chkE n l = 0 ↔ (cloB n l = false ∧ Zo.clo n l = l) := by
  have d : dimB (n : Int) = true := by unfold dimB; simp; omega
  constructor
  · intro h
    have hc : chkB n l = true := by
      unfold chkE at h
      cases e : chkB n l
      · rw [e] at h; simp at h
      · rfl
    unfold chkB at hc
    simp only [Bool.and_eq_true, Int.toNat_natCast] at hc
    have h1 := chk1_iff.1 hc.1.2
    have h2 := chk2_iff.1 hc.2
    have dg : ∀ a, a ≤ n → Zo.At n l a a = 1 := by
      intro a ha
      have := h1 a (by omega) a (by omega)
      unfold okI at this
      simp at this
      exact this.1.2
    have r0 : ∀ a, a ≤ n → Zo.At n l 0 a ≤ 1 := by
      intro a ha
      have := h1 0 (by omega) a (by omega)
      unfold okI at this
      simp at this
      exact this.2
    have tr : ∀ i j k, i ≤ n → j ≤ n → k ≤ n → Zo.At n l i j ≤ Zo.smW (Zo.At n l i k) (Zo.At n l k j) := by
      intro i j k hi hj hk
      have := h2 i (by omega) j (by omega) k (by omega)
      unfold okT at this
      simpa using this
    have e := clo_fix hl (fun a ha => by rw [dg a ha]; omega) r0 tr
    refine ⟨cloB_no fun i hi => ?_, e⟩
    rw [e, dg i (by omega)]
    omega
  · intro ⟨hB, e⟩
    have dg := diag_of hB
    have lo := clo_low hl
    have tr := clo_tri_int hn hl hv hB
    rw [e] at dg lo tr
    refine chkE_ok hn hl (fun i hi j hj => ?_) (fun i hi j hj k hk => ?_)
    · unfold okI
      rw [lv_of_all hl hv i j (by omega) (by omega)]
      simp only [Bool.true_and, Bool.and_eq_true, Bool.or_eq_true, decide_eq_true_eq]
      constructor
      · by_cases c : i = j
        · right
          subst c
          have := dg i (by omega)
          have := (lo i (by omega)).1
          omega
        · exact Or.inl c
      · by_cases c : i = 0
        · right
          subst c
          exact (lo j (by omega)).2
        · exact Or.inl c
    · unfold okT
      simpa using tr i j k (by omega) (by omega) (by omega)

/-- What open tells. -/
theorem chk_read {N : Int} {l : List Int} (h : rdB N l = false) : chkE N l = 2 := by
  unfold rdB at h
  cases hd : dimB N
  · exact chkE_bad1 hd
  · by_cases hl : l.length = (N.toNat + 1) * (N.toNat + 1)
    · rw [hd] at h
      simp only [hl, decide_true, Bool.true_and] at h
      obtain ⟨n, rfl, hn⟩ := dim_nat hd
      simp only [Int.toNat_natCast] at hl
      by_cases hc : chkE n l = 0
      · have hc2 : chkB n l = true := by
          unfold chkE at hc
          cases e : chkB n l
          · rw [e] at hc; simp at hc
          · rfl
        unfold chkB at hc2
        simp only [Bool.and_eq_true, Int.toNat_natCast] at hc2
        have h1 := chk1_iff.1 hc2.1.2
        have : rdL l = true := all_of_lv hl fun a b ha hb => by
          have := h1 a (by omega) b (by omega)
          unfold okI at this
          simp at this
          exact this.1.1
        unfold rdL at this
        rw [this] at h; cases h
      · exact chk_two hc
    · exact chkE_bad2 hl
end Go.Proofs.Ytgdcclldgfcilaa
