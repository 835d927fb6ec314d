/- A part. -/
import Derived.Test.YthjapmdfcbngmaaGreatWp5
import Derived.Deep.MidRow
import Derived.Test.YthjapmdfcbngmaaGreatWp4
import Derived.StillTailTactics
import Derived.Test.YthjapmdfcbngmaaGreatWp7
import Derived.Lib.SliceRun

namespace Go.Proofs.YthjapmdfcbngmaaGreat
open Go.RowKit

def pad (l : List Int) : List Int := l ++ List.replicate (121 - l.length) 0

def mcs (n : Nat) (l : List Int) : Array Value := ⟨.int .i64 n :: (pad l).map (Value.int .i64)⟩

def Mx (w : World) (b n : Nat) (l : List Int) : Prop := w.heap[b]? = some (.cells (mcs n l) 120 (0, 0)) ∧ l.length = (n + 1) * (n + 1)

theorem Mx.lt {w : World} {b n : Nat} {l : List Int} (h : Mx w b n l) : b < w.heap.size := by
  by_cases e : b < w.heap.size
  · exact e
  · have := h.1; rw [Array.getElem?_eq_none (by omega)] at this; cases this

theorem Mx.cell {w : World} {b n : Nat} {l : List Int} (h : Mx w b n l) (j : Nat) : w.cell? ⟨b, j, none⟩ = (mcs n l)[j]? := cell_of_row w b j _ _ _ h.1

theorem Mx.dim {w : World} {b n : Nat} {l : List Int} (h : Mx w b n l) : w.cell? ⟨b, 0, none⟩ = some (.int .i64 n) := by rw [h.cell]; rfl

theorem Mx.at {w : World} {b n : Nat} {l : List Int} (h : Mx w b n l) {j : Nat} (hj : j < l.length) : w.cell? ⟨b, 1 + j, none⟩ = some (.int .i64 (Zo.gt l j)) := by
  rw [h.cell, Nat.add_comm]
  simp [mcs, pad, Zo.gt, hj, List.getElem?_append]

theorem Mx.free {w : World} {b n : Nat} {l : List Int} (h : Mx w b n l) (j : Nat) : w.frozen? ⟨b, j, none⟩ = false := frozen_of_row w b j _ _ h.1

theorem pad_set (l : List Int) (j : Nat) (x : Int) (hj : j < l.length) : (pad l).set j x = pad (l.set j x) := by
  unfold pad; rw [List.set_append_left _ _ hj, List.length_set]

theorem Mx.put {w : World} {b n : Nat} {l : List Int} (h : Mx w b n l) (j : Nat) (x : Int) (hj : j < l.length) : Mx (w.setCell ⟨b, 1 + j, none⟩ (.int .i64 x)) b n (l.set j x) := by
  refine ⟨?_, by simpa using h.2⟩
  rw [heap_setCell_same w b _ _ _ _ h.1]
  congr 2
  rw [Nat.add_comm]
  simp [mcs, ← pad_set l j x hj, List.map_set]

theorem Mx.of_block {w w' : World} {b n : Nat} {l : List Int} (h : Mx w b n l) (e : w'.heap[b]? = w.heap[b]?) : Mx w' b n l := ⟨e.trans h.1, h.2⟩

theorem Mx.alloc {w : World} {b n : Nat} {l : List Int} (h : Mx w b n l) (o : Obj) : Mx (w.alloc o) b n l := h.of_block (heap_alloc_old w o h.lt)

theorem Mx.drew {w : World} {b n : Nat} {l : List Int} (h : Mx w b n l) : Mx w.drew b n l := h.of_block rfl

theorem grown_put (w : World) (b j : Nat) (v : Value) : w.grownBy (w.setCell ⟨b, j, none⟩ v) (some b) :=
  ⟨rfl, rfl, rfl, by simp, fun k _ hk => heap_setCell_other w ⟨b, j, none⟩ k v (fun e => hk (by simp [e]))⟩

theorem cells_ty : Tryz.prog.underlying 118 = some (.array 121 37) := by kernel_rfl

theorem limit_size (w : World) : (sizeOf 37).run Tryz.prog w = .ok 1 w := by
  have h : (Tryz.prog.info? 37).map (fun i => (i.zero, i.size)) = some (some (.int .i64 0), 1) := by kernel_rfl
  cases hq : Tryz.prog.info? 37 with
  | none => simp [hq] at h
  | some i => simp [hq] at h; simp [sizeOf, typeInfo, hq, h.2]

theorem run_part (b : Nat) (x y : Int) (lo k : Nat) (hx : x = lo) (hy : y = ((lo + k : Nat) : Int)) (hk : 0 < k) (hm : lo + k ≤ 121) (w : World) :
    (Instr.sliceAt 118 (.pointer (some ⟨b, 1, none⟩)) (some (.int .i64 x)) (some (.int .i64 y)) (some (.int .i64 y))).run Tryz.prog w = .ok (.slice (some ⟨b, 1 + lo, none⟩) k k) w := by
  subst hx; subst hy
  have ha : Tryz.prog.arrayLen 118 = 121 := by simp [Program.arrayLen]
  have he : Tryz.prog.elem 118 = 37 := by simp [Program.elem]
  rw [run_sliceAt_array_lhm w 118 ⟨b, 1, none⟩ (by rw [ha, he]; exact cells_ty) .i64 .i64 .i64 lo (lo + k : Nat) (lo + k : Nat) (by omega) (by omega) (by omega) (by rw [ha]; omega)]
  rw [he, limit_size]
  simp only [Result.andThen_ok, slicedAt, Int.toNat_natCast]
  rw [if_neg (by omega), Addr.add_mid, Nat.mul_one, show lo + k - lo = k by omega]

set_option maxRecDepth 100000 in
set_option maxHeartbeats 400000 in
theorem row_any (b n i : Nat) (w : World) (hn : n ≤ 10) (hi : i ≤ n) (h : w.cell? ⟨b, 0, none⟩ = some (.int .i64 n)) :
    Calls Tryz.prog 110 #[.pointer (some ⟨b, 0, none⟩), .int .i64 i] w (Still (.slice (some ⟨b, 1 + i * (n + 1), none⟩) (n + 1) (n + 1)) w) := by
  have t1 : ((i : Int) + 1) * ((n : Int) + 1) = (i : Int) * ((n : Int) + 1) + ((n : Int) + 1) := by rw [Int.add_mul, Int.one_mul]
  have t0 : i * (n + 1) ≤ 10 * 11 := Nat.mul_le_mul (by omega) (by omega)
  have t3 : (i : Int) * ((n : Int) + 1) ≤ 110 ∧ 0 ≤ (i : Int) * ((n : Int) + 1) := by
    constructor
    · exact_mod_cast t0
    · exact_mod_cast Nat.zero_le _
  have hs := run_part b ((i : Int) * ((n : Int) + 1)) ((i : Int) * ((n : Int) + 1) + ((n : Int) + 1)) (i * (n + 1)) (n + 1) (by push_cast; rfl) (by push_cast; rfl) (by omega) (by omega)
  clear t0
  go_enter Tryz.func110, Tryz.ntmps110
  go_wp2_with fail
  go_ret
  exact ⟨rfl, rfl⟩

set_option maxRecDepth 100000 in
set_option maxHeartbeats 400000 in
theorem tighten_any (b n i j : Nat) (x : Int) (l : List Int) (w : World) (hn : n ≤ 10) (hi : i ≤ n) (hj : j ≤ n) (h : Mx w b n l) :
    Calls Tryz.prog 175 #[.pointer (some ⟨b, 0, none⟩), .int .i64 i, .int .i64 j, .int .i64 x] w
      (fun e w' => e = .returned (.tuple #[]) ∧ w.grownBy w' (some b) ∧ Mx w' b n (l.set (Zo.ix n i j) (imin (Zo.At n l i j) x))) := by
  have t1 := Zo.ix_lt hi hj
  have t0 : i * (n + 1) ≤ 10 * 11 := Nat.mul_le_mul (by omega) (by omega)
  have hl := h.2
  have t2 : Zo.ix n i j < l.length := by rw [hl]; exact t1
  have hc : w.cell? ⟨b, 1 + i * (n + 1) + j, none⟩ = some (.int .i64 (Zo.At n l i j)) := by rw [Nat.add_assoc]; exact h.at t2
  have hf := h.free (1 + i * (n + 1) + j)
  have PR := Lib.hid (row_any b n i w hn hi h.dim)
  have HM := Lib.hid (h.put (Zo.ix n i j) (imin (Zo.At n l i j) x) t2)
  have hm := run_imin (Zo.At n l i j) x
  clear t1 t0 h hl t2
  go_enter Tryz.func175, Tryz.ntmps175
  go_wp2_with fail
  refine PR.out.mono ?_
  rintro e w1 ⟨rfl, rfl⟩
  go_wp2_with fail
  go_end0
  refine ⟨rfl, ?_, ?_⟩
  · exact grown_put _ _ _ _
  · have := HM.out
    rwa [show 1 + Zo.ix n i j = 1 + i * (n + 1) + j by unfold Zo.ix; omega] at this
end Go.Proofs.YthjapmdfcbngmaaGreat

namespace Go.Proofs.YthjapmdfcbngmaaGreat
open Go.RowKit

theorem or1_i64 (a b : Int) : bits .and .i64 (bits .or .i64 a b) 1 = if a % 2 = 0 ∧ b % 2 = 0 then 0 else 1 := by
  rw [and1_i64]
  show (IntKind.i64.wrap (((BitVec.ofInt 64 a ||| BitVec.ofInt 64 b).toNat : Nat) : Int)) % 2 = _
  have hw : ∀ m : Nat, (IntKind.i64.wrap (m : Int)) % 2 = ((m % 2 : Nat) : Int) := by
    intro m; simp [IntKind.wrap, IntKind.bits, IntKind.signed]; omega
  rw [hw, BitVec.toNat_or]
  have ho : ∀ x y : Nat, (x ||| y) % 2 = if x % 2 = 0 ∧ y % 2 = 0 then 0 else 1 := by
    intro x y
    have := Nat.or_mod_two_pow (a := x) (b := y) (n := 1)
    simp only [Nat.pow_one] at this
    rw [this]
    rcases Nat.mod_two_eq_zero_or_one x with hx | hx <;> rcases Nat.mod_two_eq_zero_or_one y with hy | hy <;> rw [hx, hy] <;> rfl
  rw [ho]
  have e : ∀ x : Int, (BitVec.ofInt 64 x).toNat % 2 = 0 ↔ x % 2 = 0 := by
    intro x
    rw [BitVec.toNat_ofInt]
    have : ((2 ^ 64 : Nat) : Int) = 18446744073709551616 := by decide
    rw [this]; omega
  simp only [e]
  split <;> rfl

set_option maxHeartbeats 400000 in
theorem zsum_any (a b : Int) (w : World) : Calls Tryz.prog 176 #[.int .i64 a, .int .i64 b] w (Still (.int .i64 (Zo.smW a b)) w) := by
  by_cases na : a = 1099511627776
  · have A0 : (a == 1099511627776) = true := by simpa using na
    have H := Lib.hid (show Zo.smW a b = 1099511627776 by unfold Zo.smW; rw [if_pos (Or.inl na)])
    clear na
    go_enter Tryz.func176, Tryz.ntmps176
    go_wp2_with fail
    go_ret
    exact ⟨ret_int H.out.symm, rfl⟩
  have A0 : (a == 1099511627776) = false := by simpa using na
  by_cases nb : b = 1099511627776
  · have B0 : (b == 1099511627776) = true := by simpa using nb
    have H := Lib.hid (show Zo.smW a b = 1099511627776 by unfold Zo.smW; rw [if_pos (Or.inr nb)])
    clear na nb
    go_enter Tryz.func176, Tryz.ntmps176
    go_wp2_with fail
    go_ret
    exact ⟨ret_int H.out.symm, rfl⟩
  have B0 : (b == 1099511627776) = false := by simpa using nb
  have h0 : ¬ (a = 1099511627776 ∨ b = 1099511627776) := by omega
  go_enter Tryz.func176, Tryz.ntmps176
  go_wp2_with fail
  go_ret
  refine ⟨ret_int ?_, rfl⟩
  rw [or1_i64, w64_eq, w64_eq]
  unfold Zo.smW
  rw [if_neg h0]
  split
  · rw [Int.sub_zero]; unfold Zo.w64; omega
  · rfl

set_option maxHeartbeats 400000 in
theorem isDimension_any (n : Int) (w : World) : Calls Tryz.prog 174 #[.int .i64 n] w (Still (.bool (dimB n)) w) := by
  by_cases h : 0 ≤ n
  · by_cases g : n ≤ 10
    · have H := Lib.hid (show dimB n = true by unfold dimB; simp; omega)
      go_enter Tryz.func174, Tryz.ntmps174
      go_wp2_with fail
      go_ret
      exact ⟨ret_bool H.out.symm, rfl⟩
    · have H := Lib.hid (show dimB n = false by unfold dimB; simp; omega)
      have D : decide (n ≤ (10 : Int)) = false := by simp; omega
      go_enter Tryz.func174, Tryz.ntmps174
      go_wp2_with fail
      go_ret
      exact ⟨ret_bool H.out.symm, rfl⟩
  · have H := Lib.hid (show dimB n = false by unfold dimB; simp; omega)
    have D : decide ((0 : Int) ≤ n) = false := by simp; omega
    go_enter Tryz.func174, Tryz.ntmps174
    go_wp2_with fail
    go_ret
    exact ⟨ret_bool H.out.symm, rfl⟩

theorem places_any (n : Nat) (w : World) (hn : n ≤ 10) : Calls Tryz.prog 165 #[.int .i64 n] w (Still (.int .i64 ((n + 1) * (n + 1) : Nat)) w) := by
  have t3 : ((n : Int) + 1) * ((n : Int) + 1) ≤ 121 ∧ 0 ≤ ((n : Int) + 1) * ((n : Int) + 1) := by
    have : (n + 1) * (n + 1) ≤ 11 * 11 := Nat.mul_le_mul (by omega) (by omega)
    constructor
    · exact_mod_cast this
    · exact_mod_cast Nat.zero_le _
  have H := Lib.hid (show (((n + 1) * (n + 1) : Nat) : Int) = ((n : Int) + 1) * ((n : Int) + 1) by push_cast; rfl)
  go_enter Tryz.func165, Tryz.ntmps165
  go_wp2_with fail
  go_ret
  exact ⟨ret_int H.out.symm, rfl⟩
end Go.Proofs.YthjapmdfcbngmaaGreat

namespace Go.Proofs.YthjapmdfcbngmaaGreat
open Go.RowKit

def MSt (w0 : World) (b n : Nat) (l : List Int) (w : World) : Prop := Mx w b n l ∧ w0.grownBy w (some b)

theorem MSt.drew {w0 w : World} {b n : Nat} {l : List Int} (h : MSt w0 b n l w) : MSt w0 b n l w.drew :=
  ⟨h.1.drew, grown_trans h.2 ⟨rfl, rfl, rfl, Nat.le_refl _, fun _ _ _ => rfl⟩⟩

theorem MSt.put {w0 w : World} {b n : Nat} {l : List Int} (h : MSt w0 b n l w) (j : Nat) (x : Int) (hj : j < l.length) : MSt w0 b n (l.set j x) (w.setCell ⟨b, 1 + j, none⟩ (.int .i64 x)) :=
  ⟨h.1.put j x hj, grown_trans h.2 (grown_put _ _ _ _)⟩

theorem tighten_st {w0 : World} {b n i j : Nat} {l : List Int} {w : World} (x : Int) (hn : n ≤ 10) (hi : i ≤ n) (hj : j ≤ n) (h : MSt w0 b n l w) :
    Calls Tryz.prog 175 #[.pointer (some ⟨b, 0, none⟩), .int .i64 i, .int .i64 j, .int .i64 x] w
      (fun e w' => e = .returned (.tuple #[]) ∧ MSt w0 b n (l.set (Zo.ix n i j) (imin (Zo.At n l i j) x)) w') := by
  refine (tighten_any b n i j x l w hn hi hj h.1).mono ?_
  rintro e w' ⟨rfl, hg, hM⟩
  exact ⟨rfl, hM, grown_trans h.2 hg⟩

theorem st1_code {n : Nat} {l : List Int} (hl : l.length = (n + 1) * (n + 1)) {j : Nat} (hj : j ≤ n) :
    (l.set (Zo.ix n j j) (imin (Zo.At n l j j) 1)).set (Zo.ix n 0 j) (imin (Zo.At n (l.set (Zo.ix n j j) (imin (Zo.At n l j j) 1)) 0 j) 1) = Zo.st1 n l j := Zo.st1_eq hl hj

theorem st1_len {n : Nat} {l : List Int} (hl : l.length = (n + 1) * (n + 1)) (j : Nat) : (Zo.st1 n l j).length = (n + 1) * (n + 1) := by simpa [Zo.st1] using hl

set_option maxRecDepth 100000 in
set_option maxHeartbeats 4000000 in
theorem shorten_any (b n : Nat) (l : List Int) (w : World) (hn : n ≤ 10) (h : Mx w b n l) (h64 : Zo.A64 l) :
    Calls Tryz.prog 154 #[.pointer (some ⟨b, 0, none⟩)] w
      (fun e w' => e = .returned (.bool (!cloB n l)) ∧ ∃ l', MSt w b n l' w' ∧ (cloB n l = false → l' = Zo.clo n l)) := by
  have hl := h.2
  have HM := Lib.hid (show MSt w b n l w from ⟨h, World.grownBy.refl _ _⟩)
  have H64 := Lib.hid h64
  have hb := h.lt
  have KD := Lib.hid (show ∀ (x : List Int) (w' : World), MSt w b n x w' → w'.cell? ⟨b, 0, none⟩ = some (.int .i64 n) from fun x w' h => h.1.dim)
  have TT := Lib.hid (fun (x : List Int) (i j : Nat) (hi : i ≤ n) (hj : j ≤ n) (w' : World) (h : MSt w b n x w') => tighten_st (i := i) (j := j) 1 hn hi hj h)
  have TR := Lib.hid (fun (x : List Int) (i : Nat) (hi : i ≤ n) (w' : World) (h : MSt w b n x w') => row_any b n i w' hn hi h.1.dim)
  have c0 := h.dim
  clear h h64
  go_enter Tryz.func154, Tryz.ntmps154
  go_wp2_with fail
  clear c0
  go_loopw [15] (fun s wr => ∃ (t : Nat) (x : List Int), t ≤ n + 1 ∧ s = .int .i64 t ∧ Hid (x.length = (n + 1) * (n + 1) ∧ x = (List.range t).foldl (Zo.st1 n) l ∧ MSt w b n x wr)) (fun s _ => n + 1 - (intOf s).toNat)
  case atStart => exact ⟨0, l, by omega, rfl, Lib.hid ⟨hl, rfl, HM.out⟩⟩
  case round =>
    obtain ⟨t, x, ht, rfl, HX⟩ := hrel
    have c0 := KD.out _ _ HX.out.2.2
    by_cases htn : t ≤ n
    · go_wp2_with fail
      refine (TT.out _ _ _ htn htn _ HX.out.2.2).mono ?_
      rintro e w1 ⟨rfl, hm1⟩
      have H1 := Lib.hid hm1
      clear hm1 c0
      go_wp2_with fail
      refine (TT.out _ 0 t (by omega) htn _ H1.out).mono ?_
      rintro e w2 ⟨rfl, hm2⟩
      have H2 := Lib.hid hm2
      clear hm2
      go_wp2_with fail
      go_roundw
      case rel => exact ⟨t + 1, _, by omega, by go_num, Lib.hid ⟨st1_len HX.out.1 t, by rw [Zo.fold_succ, ← HX.out.2.1], by have := H2.out; rwa [st1_code HX.out.1 htn] at this⟩⟩
      case measure => simp [intOf]; omega
    · have HS := Lib.hid (show x.length = (n + 1) * (n + 1) ∧ Zo.Mid n l 0 0 x ∧ MSt w b n x _ from ⟨HX.out.1, by have := Zo.Mid.start hl H64.out; rwa [show Zo.pre n l = x by rw [HX.out.2.1, show t = n + 1 by omega]; rfl] at this, HX.out.2.2⟩)
      go_wp2_with fail
      clear c0
      go_loopw [31] (fun s wr => ∃ (t : Nat) (x : List Int), t ≤ n + 1 ∧ s = .int .i64 t ∧ Hid (x.length = (n + 1) * (n + 1) ∧ Zo.Mid n l t 0 x ∧ MSt w b n x wr)) (fun s _ => n + 1 - (intOf s).toNat)
      case atStart => exact ⟨0, x, by omega, rfl, HS⟩
      case round =>
        clear HS HX
        clear x
        obtain ⟨k, xk, hk, rfl, HK⟩ := hrel
        by_cases hkn : k ≤ n
        · go_wp2_with fail
          refine (TR.out _ _ hkn _ HK.out.2.2).mono ?_
          rintro e w1 ⟨rfl, rfl⟩
          have c0 := KD.out _ _ HK.out.2.2
          go_wp2_with fail
          clear c0
          go_loopw [42] (fun s wr => ∃ (t : Nat) (x : List Int), t ≤ n + 1 ∧ s = .int .i64 t ∧ Hid (x.length = (n + 1) * (n + 1) ∧ Zo.Mid n l k t x ∧ MSt w b n x wr)) (fun s _ => n + 1 - (intOf s).toNat)
          case atStart => exact ⟨0, xk, by omega, rfl, HK⟩
          case round =>
            obtain ⟨i, xi, hi, rfl, HI⟩ := hrel
            by_cases hin : i ≤ n
            · go_wp2_with fail
              refine (TR.out _ _ hin _ HI.out.2.2).mono ?_
              rintro e w1 ⟨rfl, rfl⟩
              have c0 := KD.out _ _ HI.out.2.2
              obtain ⟨c, hc⟩ : ∃ c, c = Zo.At n xi i k := ⟨_, rfl⟩
              have HC := Lib.hid hc
              have tik := Zo.ix_lt hin hkn
              have c1 : w1.cell? ⟨b, 1 + i * (n + 1) + k, none⟩ = some (.int .i64 c) := by
                rw [hc, Nat.add_assoc]; exact HI.out.2.2.1.at (by rw [HI.out.1]; exact tik)
              clear hc tik
              go_wp2_with fail
              clear c0 c1
              go_loopw [57] (fun s wr => ∃ (t : Nat) (x : List Int), t ≤ n + 1 ∧ s = .int .i64 t ∧ Hid (x.length = (n + 1) * (n + 1) ∧ x = (List.range t).foldl (Zo.prw n k i c) xi ∧ MSt w b n x wr)) (fun s _ => n + 1 - (intOf s).toNat)
              case atStart => exact ⟨0, xi, by omega, rfl, Lib.hid ⟨HI.out.1, rfl, HI.out.2.2⟩⟩
              case round =>
                obtain ⟨j, xj, hj, rfl, HJ⟩ := hrel
                by_cases hjn : j ≤ n
                · have tij := Zo.ix_lt hin hjn
                  have tkj := Zo.ix_lt hkn hjn
                  have c1 : ∀ w', MSt w b n xj w' → w'.cell? ⟨b, 1 + i * (n + 1) + j, none⟩ = some (.int .i64 (Zo.At n xj i j)) := fun w' h => by
                    rw [Nat.add_assoc]; exact h.1.at (by rw [HJ.out.1]; exact tij)
                  have c2 : ∀ w', MSt w b n xj w' → w'.cell? ⟨b, 1 + k * (n + 1) + j, none⟩ = some (.int .i64 (Zo.At n xj k j)) := fun w' h => by
                    rw [Nat.add_assoc]; exact h.1.at (by rw [HJ.out.1]; exact tkj)
                  have f1 : ∀ w', MSt w b n xj w' → w'.frozen? ⟨b, 1 + i * (n + 1) + j, none⟩ = false := fun w' h => h.1.free _
                  have ST := Lib.hid (show ∀ w' x, MSt w b n xj w' → MSt w b n (xj.set (Zo.ix n i j) x) (w'.setCell ⟨b, 1 + i * (n + 1) + j, none⟩ (.int .i64 x)) from fun w' x h => by
                    have := h.put (Zo.ix n i j) x (by rw [HJ.out.1]; exact tij)
                    rwa [show 1 + Zo.ix n i j = 1 + i * (n + 1) + j by unfold Zo.ix; omega] at this)
                  have hm := run_imin (Zo.At n xj i j) (Zo.smW c (Zo.At n xj k j))
                  have PS := zsum_any c (Zo.At n xj k j)
                  have d1 := c1 _ HJ.out.2.2
                  have d2 := c2 _ HJ.out.2.2
                  have d3 := f1 _ HJ.out.2.2
                  go_wp2_with fail
                  go_still_tail 14, (by kernel_rfl)
                  still_call (PS _)
                  repeat still_step
                  refine wpStill_nil ?_
                  clear d1 d2 d3
                  have HD := Lib.hid HJ.out.2.2.drew
                  have d1 := c1 _ HD.out
                  have d3 := f1 _ HD.out
                  change wpList _ _ _ _ _ (World.drew _)
                  go_wp2_with fail
                  have S4 := Lib.hid (ST.out _ (imin (Zo.At n xj i j) (Zo.smW c (Zo.At n xj k j))) HD.out)
                  clear hm PS c1 c2 f1 ST d1 d3 HD
                  go_roundw
                  case rel => exact ⟨j + 1, _, by omega, by go_num, Lib.hid ⟨by simpa using HJ.out.1, by rw [Zo.fold_succ, ← HJ.out.2.1]; rfl, S4.out⟩⟩
                  case measure => simp [intOf]; omega
                · have HR := Lib.hid (show xj = (List.range (n + 1)).foldl (Zo.prw n k i (Zo.At n xi i k)) xi by rw [← HC.out, show n + 1 = j by omega]; exact HJ.out.2.1)
                  have HL := Lib.hid HJ.out.1
                  have HW := Lib.hid HJ.out.2.2
                  have tii := Zo.ix_lt hin hin
                  obtain ⟨d, hd⟩ : ∃ d, d = Zo.At n xj i i := ⟨_, rfl⟩
                  have c1 : ∀ w', MSt w b n xj w' → w'.cell? ⟨b, 1 + i * (n + 1) + i, none⟩ = some (.int .i64 d) := fun w' h => by
                    rw [hd, Nat.add_assoc]; exact h.1.at (by rw [HL.out]; exact tii)
                  have d1 := c1 _ HW.out
                  have HDd := Lib.hid hd
                  clear hd tii
                  by_cases hneg : d < 1
                  · have HB := Lib.hid (show cloB n l = true by
                      unfold cloB; rw [List.any_eq_true]
                      refine ⟨i, by simp; omega, ?_⟩
                      simpa using Zo.Mid.bad hl hkn hin HI.out.2.1 HR.out (by rw [← HDd.out]; exact hneg))
                    have D : decide (d < 1) = true := by simpa using hneg
                    clear c1
                    go_wp2_with fail
                    go_ret
                    exact ⟨ret_bool (by rw [HB.out]; rfl), _, HW.out, fun h => by rw [HB.out] at h; cases h⟩
                  · have HN := Lib.hid (Zo.Mid.row hkn hin HI.out.2.1 HR.out (by rw [← HDd.out]; omega))
                    have D : decide (d < 1) = false := by simpa using hneg
                    clear c1
                    go_wp2_with fail
                    clear d1 D
                    go_roundw
                    case rel => exact ⟨i + 1, xj, by omega, by go_num, Lib.hid ⟨HL.out, HN.out, HW.out⟩⟩
                    case measure => simp [intOf]; omega
            · have HN := Lib.hid (show Zo.Mid n l (k + 1) 0 xi from Zo.Mid.round (by have := HI.out.2.1; rwa [show i = n + 1 by omega] at this))
              go_wp2_with fail
              go_roundw
              case rel => exact ⟨k + 1, xi, by omega, by go_num, Lib.hid ⟨HI.out.1, HN.out, HI.out.2.2⟩⟩
              case measure => simp [intOf]; omega
        · have HN := Lib.hid (show Zo.Mid n l (n + 1) 0 xk by have := HK.out.2.1; rwa [show k = n + 1 by omega] at this)
          have HB := Lib.hid (show cloB n l = false from cloB_no fun i hi => by have := HN.out.done.2 i (by omega); omega)
          go_wp2_with fail
          go_ret
          exact ⟨ret_bool (by rw [HB.out]; rfl), _, HK.out.2.2, fun _ => HN.out.done.1⟩
end Go.Proofs.YthjapmdfcbngmaaGreat

namespace Go.Proofs.YthjapmdfcbngmaaGreat
open Go.RowKit

theorem run_nil_cmp (w : World) (a : Option Addr) (n c : Nat) : (binOp .eql 34 (.slice a n c) (.slice none 0 0)).run Tryz.prog w = .ok (.bool a.isNone) w := Lib.run_eql_slice_nil w _ _ a n c 0 0 Tryz.underlying34

set_option maxRecDepth 100000 in
set_option maxHeartbeats 2000000 in
theorem clone_any (l : List Int) (b off : Nat) (cap : Nat) (w : World) (h0 : 0 < l.length) (h1 : l.length ≤ 1000) (hR : Rd w ⟨b, off, none⟩ l) :
    Calls Tryz.prog 98 #[.slice (some ⟨b, off, none⟩) l.length cap] w
      (fun e w' => ∃ g c, e = .returned (.slice (some ⟨g, 0, none⟩) l.length c) ∧ w.heap.size ≤ g ∧ Own w' g c l ∧ Below w.heap.size w w') := by
  obtain ⟨i0, hi, hz0, hz1, hz2⟩ := info_parts Tryz.info37
  have q := run_nil_cmp
  have A := Lib.hid (show ∀ (w' : World), Below w.heap.size w w' → ∀ j u, (l.map (Value.int .i64))[j]? = some u → w'.cell? ((⟨b, off, none⟩ : Addr).add j) = some u from fun w' h => (hR.on h).map)
  have l1 : (l.map (Value.int .i64)).length = l.length * 1 := by simp
  have o1 : ∀ u ∈ l.map (Value.int .i64), u.oneCell' = true := by simp [Value.oneCell']
  generalize hxs : l.map (Value.int .i64) = xs at *
  have HXS := Lib.hid hxs
  clear hxs hR
  generalize hlen : l.length = len at *
  have HLEN := Lib.hid hlen
  clear hlen
  go_enter Tryz.func98, Tryz.ntmps98
  go_wp2_with (at_builtin; refine wpList_append_own _ rfl _ _ 34 rfl w.heap.size 37 i0 (.int .i64 0) 1 8 Tryz.underlying34 hi hz0 hz1 hz2 rfl (by decide) _ _ _ rfl (World.ownsRow_made w #[] 0 (Nat.le_refl _) (Nat.zero_le _) (by simp)) ⟨b, off, none⟩ len cap xs rfl ?qc1 ?qc2 ?qc3 ?qc4 ?qc5 ?qc6 ?_)
  case qc1 => exact l1
  case qc2 =>
    intro j u hj
    exact A.out _ (one_more (.cells #[] 37)) j u hj
  case qc3 => exact o1
  case qc4 => unfold maxLen; omega
  case qc5 => omega
  case qc6 => simp
  intro v' w1 hown hgrow hnil
  have hown' : w1.ownsRow w.heap.size 37 1 v' len xs := by simpa using hown
  obtain ⟨g, c, rfl⟩ := Joins.ownsRow_form hown' (by omega)
  go_wp2
  go_ret
  obtain ⟨ho, hg⟩ := own_of hown' HXS.out.symm HLEN.out.symm
  exact ⟨g, c, rfl, hg, ho, ((Below.refl _ w).alloc (Nat.le_refl _) _).grown hgrow (by simp) (by intro k hk; simp [Value.ownBlock] at hk; omega)⟩

theorem run_head (b : Nat) (y : Int) (k : Nat) (hy : y = (k : Int)) (hm : k ≤ 121) (w : World) :
    (Instr.sliceAt 118 (.pointer (some ⟨b, 1, none⟩)) none (some (.int .i64 y)) none).run Tryz.prog w = .ok (.slice (some ⟨b, 1, none⟩) k 121) w := by
  subst hy
  have ha : Tryz.prog.arrayLen 118 = 121 := by simp [Program.arrayLen]
  have he : Tryz.prog.elem 118 = 37 := by simp [Program.elem]
  rw [run_sliceAt_array_h w 118 ⟨b, 1, none⟩ (by rw [ha, he]; exact cells_ty) .i64 k (by omega) (by rw [ha]; omega)]
  rw [he, limit_size]
  simp only [Result.andThen_ok, slicedAt, Int.toNat_natCast, ha]
  rw [if_neg (by omega), Addr.add_mid]
  rfl

def GRes (b : Nat) (w : World) (N : Int) (l : List Int) (er : Int) (e : Ending) (w' : World) : Prop :=
  w.grownBy w' (some b) ∧ ((er = 0 ∧ ∃ g c, e = .returned (.tuple #[.agg #[.int .i64 N, .slice (some ⟨g, 0, none⟩) l.length c], .int .i64 0]) ∧ w.heap.size ≤ g ∧ Own w' g c l) ∨
    (er ≠ 0 ∧ e = .returned (.tuple #[.agg #[.int .i64 0, .slice none 0 0], .int .i64 er])))

theorem grown_two {w w' : World} {b x : Nat} (h : w.grownBy w' (some b)) (hx : w.heap.size ≤ x) (u v : Value) : w.grownBy ((w'.setCell ⟨x, 0, none⟩ u).setCell ⟨x, 1, none⟩ v) (some b) := by
  have e1 : w'.grownBy (w'.setCell ⟨x, 0, none⟩ u) (some x) := grown_put _ _ _ _
  have e2 : (w'.setCell ⟨x, 0, none⟩ u).grownBy ((w'.setCell ⟨x, 0, none⟩ u).setCell ⟨x, 1, none⟩ v) (some x) := grown_put _ _ _ _
  have e3 := grown_trans e1 e2
  exact ⟨e3.os.trans h.os, e3.tape.trans h.tape, e3.output.trans h.output, Nat.le_trans h.size e3.size, fun k hk hne => (e3.block k (Nat.lt_of_lt_of_le hk h.size) (by simp; omega)).trans (h.block k hk hne)⟩

theorem Mx.rd {w : World} {b n : Nat} {l : List Int} (h : Mx w b n l) : Rd w ⟨b, 1, none⟩ l := fun j hj => by rw [Addr.add_mid]; exact h.at hj

theorem grown_of_below {w w' : World} {r : Option Nat} (h : Below w.heap.size w w') : w.grownBy w' r := ⟨h.os, h.tape, h.output, h.size, fun k hk _ => h.block k hk⟩

theorem aside_two {w : World} {p : Addr} {x : Value} (h : w.cell? p = some x) {y : Nat} (hne : p.block ≠ y) (u v : Value) : ((w.setCell ⟨y, 0, none⟩ u).setCell ⟨y, 1, none⟩ v).cell? p = some x := by
  rw [World.cell?_setCell_other _ _ _ _ (fun e => hne (congrArg Addr.block e).symm), World.cell?_setCell_other _ _ _ _ (fun e => hne (congrArg Addr.block e).symm)]
  exact h

set_option maxRecDepth 100000 in
set_option maxHeartbeats 4000000 in
theorem mzone_any (b n : Nat) (l : List Int) (w : World) (hn : n ≤ 10) (h : Mx w b n l) (h64 : Zo.A64 l) :
    Calls Tryz.prog 144 #[.pointer (some ⟨b, 0, none⟩)] w (GRes b w n (Zo.clo n l) (cloE n l)) := by
  have hl := h.2
  have hb := h.lt
  obtain ⟨w0, hw0⟩ : ∃ w0, w0 = w.alloc (.cells #[.int .i64 0, .slice none 0 0] 36) := ⟨_, rfl⟩
  have M0 : Mx w0 b n l := by rw [hw0]; exact h.alloc _
  have rs : Two w0 w.heap.size (.int .i64 0) (.slice none 0 0) := by rw [hw0]; exact Two.made _ _ _ _
  have g0 : w.grownBy w0 (some b) := by rw [hw0]; exact World.grownBy_alloc _ _ _
  have z0 : w0.heap.size = w.heap.size + 1 := by rw [hw0]; simp
  have SH := Lib.hid (shorten_any b n l w0 hn M0 h64)
  have GB := Lib.hid g0
  have RS := Lib.hid rs
  clear h h64 M0 g0 rs
  go_enter Tryz.func144, Tryz.ntmps144
  go_wp2_with fail
  rw [← hw0]
  clear hw0
  go_wp2_with fail
  cases hB : cloB n l
  · have S0 := SH.out
    rw [hB] at S0
    refine S0.mono ?_
    rintro e w1 ⟨rfl, l', hM, hc⟩
    obtain rfl := hc rfl
    have hcl : (Zo.clo n l).length = (n + 1) * (n + 1) := by rw [Zo.clo_length, hl]
    have HCE := Lib.hid (show cloE n l = if (Zo.clo n l).all lvB then 0 else 7 by unfold cloE; rw [hB]; rfl)
    have c0 := hM.1.dim
    have KD := Lib.hid (show ∀ (w' : World), MSt w0 b n (Zo.clo n l) w' → w'.cell? ⟨b, 0, none⟩ = some (.int .i64 n) from fun w' h => h.1.dim)
    generalize hcc : Zo.clo n l = c at *
    have HM := Lib.hid hM
    have HL := Lib.hid hcl
    have HB := Lib.hid hB
    have HC := Lib.hid hcc
    clear hM S0 hB hcc SH
    have d2 := dsq_le hn
    have d1 := dsq_pos n
    have hr := run_head b ((((n + 1) * (n + 1) : Nat)) : Int) ((n + 1) * (n + 1)) rfl (dsq_le hn)
    have HP := Lib.hid (fun W => places_any n W hn)
    generalize hsz : (n + 1) * (n + 1) = sz at *
    have HSZ := Lib.hid hsz
    clear hsz hcl hl
    go_wp2_with fail
    refine wp_region_still_lit (by kernel_rfl) (by kernel_rfl) ?_
    repeat still_step
    still_call (HP.out _)
    repeat still_step
    refine wpStill_nil ?_
    clear c0 hr
    have HD := Lib.hid HM.out.drew
    change Exit.then _ _ _ _ (World.drew _)
    generalize w1.drew = w2 at *
    clear HM
    go_wp2_with fail
    go_loopw [22] (fun s wr => ∃ t : Nat, t ≤ sz ∧ s = .int .i64 t ∧ Hid (∀ i, i < t → lvB (Zo.gt c i) = true) ∧ Hid (MSt w0 b n c wr)) (fun s _ => sz - (intOf s).toNat)
    case atStart => exact ⟨0, by omega, rfl, Lib.hid (fun i hi => by omega), HD⟩
    case round =>
      clear HD
      obtain ⟨t, ht, rfl, HV, HT⟩ := hrel
      by_cases htn : t < sz
      · obtain ⟨v, hv⟩ : ∃ v, v = Zo.gt c t := ⟨_, rfl⟩
        have c1 : wr.cell? ⟨b, 1 + t, none⟩ = some (.int .i64 v) := by rw [hv]; exact HT.out.1.at (by rw [HL.out]; exact htn)
        have HVV := Lib.hid hv
        clear hv
        have PV := fun W => limValid_free v W
        cases lv : lvB v
        · rw [lv] at PV
          have HE := Lib.hid (show cloE n l = 7 by
            rw [HCE.out, if_neg]
            rw [List.all_eq_true]
            intro hall
            have := hall (c[t]'(by rw [HL.out]; exact htn)) (List.getElem_mem _)
            rw [show c[t]'(by rw [HL.out]; exact htn) = v by rw [HVV.out]; simp [Zo.gt, show t < c.length by rw [HL.out]; exact htn], lv] at this
            cases this)
          have PW := Lib.hid PV
          have rs1 := RS.out.grown HT.out.2 (by omega)
          obtain ⟨q0, q1, q2, q3⟩ := rs1.facts
          have HG := Lib.hid (grown_trans GB.out HT.out.2)
          clear PV
          go_wp2_with fail
          refine (PW.out _).mono ?_
          rintro e w3 ⟨rfl, rfl⟩
          go_wp2_with fail
          refine bodyPost_ret (v := .tuple #[.agg #[.int .i64 0, .slice none 0 0], .int .i64 7]) (by simp [results, Tryz.results144, go_sem, q0, q1]) rfl ⟨grown_two HG.out (Nat.le_refl _) _ _, Or.inr ⟨by rw [HE.out]; decide, by rw [HE.out]⟩⟩
        · rw [lv] at PV
          have PW := Lib.hid PV
          have HLV := Lib.hid lv
          clear PV lv
          go_wp2_with fail
          refine (PW.out _).mono ?_
          rintro e w3 ⟨rfl, rfl⟩
          clear c1
          go_wp2_with fail
          go_roundw
          case rel =>
            refine ⟨t + 1, by omega, by go_num, Lib.hid (fun i hi => ?_), HT⟩
            by_cases e : i = t
            · rw [e, ← HVV.out]; exact HLV.out
            · exact HV.out i (by omega)
          case measure => simp [intOf]; omega
      · have HE := Lib.hid (show cloE n l = 0 by
          rw [HCE.out, if_pos]
          rw [List.all_eq_true]
          intro x hx
          obtain ⟨i, hi, rfl⟩ := List.getElem_of_mem hx
          have := HV.out i (by have := HL.out; omega)
          simpa [Zo.gt, hi] using this)
        have rs1 := RS.out.grown HT.out.2 (by omega)
        have CL := Lib.hid (show ∀ w', MSt w0 b n c w' → Calls Tryz.prog 98 #[.slice (some ⟨b, 1, none⟩) sz 121] w' (fun e w'' => ∃ g cc, e = .returned (.slice (some ⟨g, 0, none⟩) sz cc) ∧ w'.heap.size ≤ g ∧ Own w'' g cc c ∧ Below w'.heap.size w' w'') from fun w' h => by
          have := clone_any c b 1 121 w' (by rw [HL.out]; exact d1) (by rw [HL.out]; omega) h.1.rd
          rwa [HL.out] at this)
        go_wp2_with fail
        have HDR := Lib.hid HT.out.drew
        have RSD := Lib.hid (show Two wr.drew w.heap.size (.int .i64 0) (.slice none 0 0) from rs1)
        clear rs1
        have c1 := KD.out _ HDR.out
        go_region_held3 (fun w' => w'.cell? ⟨b, 0, none⟩ = some (.int .i64 n)) (first | exact c1 | exact KD.out _ (by assumption) | exact c3 | exact c4 _ _)
          (first | (go_at_call 98; refine (CL.out _ HDR.out).mono ?_; rintro e w5 ⟨g, cc, rfl, hg, ho, hbe⟩; have c3 : w5.cell? ⟨b, 0, none⟩ = some (.int .i64 n) := kept hbe c1; have c4 : ∀ u v, ((w5.setCell ⟨w.heap.size, 0, none⟩ u).setCell ⟨w.heap.size, 1, none⟩ v).cell? ⟨b, 0, none⟩ = some (.int .i64 n) := (fun u v => aside_two c3 (by show b ≠ w.heap.size; omega) u v); obtain ⟨q0, q1, q2, q3⟩ := (RSD.out.kept hbe).facts))
        go_wp2_with fail
        have HG : w.grownBy w5 (some b) := grown_trans GB.out (grown_trans HDR.out.2 (grown_of_below hbe))
        have hg2 : w0.heap.size ≤ g := Nat.le_trans HDR.out.2.size hg
        refine bodyPost_ret (v := .tuple #[.agg #[.int .i64 n, .slice (some ⟨g, 0, none⟩) sz cc], .int .i64 0]) (by simp [results, Tryz.results144, go_sem, q0, q1]) rfl ⟨grown_two HG (Nat.le_refl _) _ _, Or.inl ⟨HE.out, g, cc, by rw [← HL.out], by omega, put_far ho (by omega) _ _⟩⟩
  · have S0 := SH.out
    rw [hB] at S0
    refine S0.mono ?_
    rintro e w1 ⟨rfl, l', hM, -⟩
    have HE := Lib.hid (show cloE n l = 4 by unfold cloE; rw [hB]; rfl)
    have rs1 := RS.out.grown hM.2 (by omega)
    obtain ⟨q0, q1, q2, q3⟩ := rs1.facts
    have HG := Lib.hid (grown_trans GB.out hM.2)
    clear hM S0 hB SH
    go_wp2_with fail
    refine bodyPost_ret (v := .tuple #[.agg #[.int .i64 0, .slice none 0 0], .int .i64 4]) (by simp [results, Tryz.results144, go_sem, q0, q1]) rfl ⟨grown_two HG.out (Nat.le_refl _) _ _, Or.inr ⟨by rw [HE.out]; decide, by rw [HE.out]⟩⟩
end Go.Proofs.YthjapmdfcbngmaaGreat
