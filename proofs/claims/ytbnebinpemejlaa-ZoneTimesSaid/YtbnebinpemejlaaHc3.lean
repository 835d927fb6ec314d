/- The contract of layer 3's closing of a matrix: shorten.; The contract of Check of layer 3's reference.; Contracts of copied of layer 3's reference, and of what is built on it.; The frame of the functions of layer 3's reference that copy a zone, set elements and close it.; Contracts of Check, Up, Down and Free of layer 3's reference, for any zone, valid or not.; Contracts of slices.Clone at limits, and of the method zone of layer 3's matrices. -/
import Derived.Test.YtbnebinpemejlaaHc2
import Derived.StillTailTactics
import Derived.Deep.RegionLawGrows
import Derived.Lib.SmallJoins
import Derived.Lib.SliceRun

namespace Go.Proofs.Ytbnebinpemejlaa
open Go.RowKit

/-- The matrix at b has become l; else nothing from before has turned. -/
def MSt (w0 : World) (b n : Nat) (l : List Int) (w : World) : Prop := Mx w b n l ∧ w0.grownBy w (some b)

theorem MSt.drew {w0 w : World} {b n : Nat} {l : List Int} (h : MSt w0 b n l w) : MSt w0 b n l w.drew :=
  ⟨h.1.drew, grown_trans h.2 ⟨rfl, rfl, rfl, Nat.le_refl _, fun _ _ _ => rfl⟩⟩

theorem MSt.put {w0 w : World} {b n : Nat} {l : List Int} (h : MSt w0 b n l w) (j : Nat) (x : Int) (hj : j < l.length) : MSt w0 b n (l.set j x) (w.setCell ⟨b, 1 + j, none⟩ (.int .i64 x)) :=
  ⟨h.1.put j x hj, grown_trans h.2 (grown_put _ _ _ _)⟩

theorem tighten_st {w0 : World} {b n i j : Nat} {l : List Int} {w : World} (x : Int) (hn : n ≤ 10) (hi : i ≤ n) (hj : j ≤ n) (h : MSt w0 b n l w) :
    Calls Try.prog 78 #[.pointer (some ⟨b, 0, none⟩), .int .i64 i, .int .i64 j, .int .i64 x] w
      (fun e w' => e = .returned (.tuple #[]) ∧ MSt w0 b n (l.set (Zo.ix n i j) (imin (Zo.At n l i j) x)) w') := by
  refine (tighten_any b n i j x l w hn hi hj h.1).mono ?_
  rintro e w' ⟨rfl, hg, hM⟩
  exact ⟨rfl, hM, grown_trans h.2 hg⟩

theorem st1_code {n : Nat} {l : List Int} (hl : l.length = (n + 1) * (n + 1)) {j : Nat} (hj : j ≤ n) :
    (l.set (Zo.ix n j j) (imin (Zo.At n l j j) 1)).set (Zo.ix n 0 j) (imin (Zo.At n (l.set (Zo.ix n j j) (imin (Zo.At n l j j) 1)) 0 j) 1) = Zo.st1 n l j := Zo.st1_eq hl hj

theorem st1_len {n : Nat} {l : List Int} (hl : l.length = (n + 1) * (n + 1)) (j : Nat) : (Zo.st1 n l j).length = (n + 1) * (n + 1) := by simpa [Zo.st1] using hl

set_option maxRecDepth 100000 in
set_option maxHeartbeats 4000000 in
theorem shorten_any (b n : Nat) (l : List Int) (w : World) (hn : n ≤ 10) (h : Mx w b n l) (h64 : Zo.A64 l) :
    Calls Try.prog 116 #[.pointer (some ⟨b, 0, none⟩)] w
      (fun e w' => e = .returned (.bool (!cloB n l)) ∧ ∃ l', MSt w b n l' w' ∧ (cloB n l = false → l' = Zo.clo n l)) := by
  have hl := h.2
  have HM := Lib.hid (show MSt w b n l w from ⟨h, World.grownBy.refl _ _⟩)
  have H64 := Lib.hid h64
  have hb := h.lt
  have KD := Lib.hid (show ∀ (x : List Int) (w' : World), MSt w b n x w' → w'.cell? ⟨b, 0, none⟩ = some (.int .i64 n) from fun x w' h => h.1.dim)
  have TT := Lib.hid (fun (x : List Int) (i j : Nat) (hi : i ≤ n) (hj : j ≤ n) (w' : World) (h : MSt w b n x w') => tighten_st (i := i) (j := j) 1 hn hi hj h)
  have TR := Lib.hid (fun (x : List Int) (i : Nat) (hi : i ≤ n) (w' : World) (h : MSt w b n x w') => row_any b n i w' hn hi h.1.dim)
  have c0 := h.dim
  clear h h64
  go_enter Try.func116, Try.ntmps116
  go_wp2_with fail
  clear c0
  go_loopw [15] (fun s wr => ∃ (t : Nat) (x : List Int), t ≤ n + 1 ∧ s = .int .i64 t ∧ Hid (x.length = (n + 1) * (n + 1) ∧ x = (List.range t).foldl (Zo.st1 n) l ∧ MSt w b n x wr)) (fun s _ => n + 1 - (intOf s).toNat)
  case atStart => exact ⟨0, l, by omega, rfl, Lib.hid ⟨hl, rfl, HM.out⟩⟩
  case round =>
    obtain ⟨t, x, ht, rfl, HX⟩ := hrel
    have c0 := KD.out _ _ HX.out.2.2
    by_cases htn : t ≤ n
    · go_wp2_with fail
      refine (TT.out _ _ _ htn htn _ HX.out.2.2).mono ?_
      rintro e w1 ⟨rfl, hm1⟩
      have H1 := Lib.hid hm1
      clear hm1 c0
      go_wp2_with fail
      refine (TT.out _ 0 t (by omega) htn _ H1.out).mono ?_
      rintro e w2 ⟨rfl, hm2⟩
      have H2 := Lib.hid hm2
      clear hm2
      go_wp2_with fail
      go_roundw
      case rel => exact ⟨t + 1, _, by omega, by go_num, Lib.hid ⟨st1_len HX.out.1 t, by rw [Zo.fold_succ, ← HX.out.2.1], by have := H2.out; rwa [st1_code HX.out.1 htn] at this⟩⟩
      case measure => simp [intOf]; omega
    · have HS := Lib.hid (show x.length = (n + 1) * (n + 1) ∧ Zo.Mid n l 0 0 x ∧ MSt w b n x _ from ⟨HX.out.1, by have := Zo.Mid.start hl H64.out; rwa [show Zo.pre n l = x by rw [HX.out.2.1, show t = n + 1 by omega]; rfl] at this, HX.out.2.2⟩)
      go_wp2_with fail
      clear c0
      go_loopw [31] (fun s wr => ∃ (t : Nat) (x : List Int), t ≤ n + 1 ∧ s = .int .i64 t ∧ Hid (x.length = (n + 1) * (n + 1) ∧ Zo.Mid n l t 0 x ∧ MSt w b n x wr)) (fun s _ => n + 1 - (intOf s).toNat)
      case atStart => exact ⟨0, x, by omega, rfl, HS⟩
      case round =>
        clear HS HX
        clear x
        obtain ⟨k, xk, hk, rfl, HK⟩ := hrel
        by_cases hkn : k ≤ n
        · go_wp2_with fail
          refine (TR.out _ _ hkn _ HK.out.2.2).mono ?_
          rintro e w1 ⟨rfl, rfl⟩
          have c0 := KD.out _ _ HK.out.2.2
          go_wp2_with fail
          clear c0
          go_loopw [42] (fun s wr => ∃ (t : Nat) (x : List Int), t ≤ n + 1 ∧ s = .int .i64 t ∧ Hid (x.length = (n + 1) * (n + 1) ∧ Zo.Mid n l k t x ∧ MSt w b n x wr)) (fun s _ => n + 1 - (intOf s).toNat)
          case atStart => exact ⟨0, xk, by omega, rfl, HK⟩
          case round =>
            obtain ⟨i, xi, hi, rfl, HI⟩ := hrel
            by_cases hin : i ≤ n
            · go_wp2_with fail
              refine (TR.out _ _ hin _ HI.out.2.2).mono ?_
              rintro e w1 ⟨rfl, rfl⟩
              have c0 := KD.out _ _ HI.out.2.2
              obtain ⟨c, hc⟩ : ∃ c, c = Zo.At n xi i k := ⟨_, rfl⟩
              have HC := Lib.hid hc
              have tik := Zo.ix_lt hin hkn
              have c1 : w1.cell? ⟨b, 1 + i * (n + 1) + k, none⟩ = some (.int .i64 c) := by
                rw [hc, Nat.add_assoc]; exact HI.out.2.2.1.at (by rw [HI.out.1]; exact tik)
              clear hc tik
              go_wp2_with fail
              clear c0 c1
              go_loopw [57] (fun s wr => ∃ (t : Nat) (x : List Int), t ≤ n + 1 ∧ s = .int .i64 t ∧ Hid (x.length = (n + 1) * (n + 1) ∧ x = (List.range t).foldl (Zo.prw n k i c) xi ∧ MSt w b n x wr)) (fun s _ => n + 1 - (intOf s).toNat)
              case atStart => exact ⟨0, xi, by omega, rfl, Lib.hid ⟨HI.out.1, rfl, HI.out.2.2⟩⟩
              case round =>
                obtain ⟨j, xj, hj, rfl, HJ⟩ := hrel
                by_cases hjn : j ≤ n
                · have tij := Zo.ix_lt hin hjn
                  have tkj := Zo.ix_lt hkn hjn
                  have c1 : ∀ w', MSt w b n xj w' → w'.cell? ⟨b, 1 + i * (n + 1) + j, none⟩ = some (.int .i64 (Zo.At n xj i j)) := fun w' h => by
                    rw [Nat.add_assoc]; exact h.1.at (by rw [HJ.out.1]; exact tij)
                  have c2 : ∀ w', MSt w b n xj w' → w'.cell? ⟨b, 1 + k * (n + 1) + j, none⟩ = some (.int .i64 (Zo.At n xj k j)) := fun w' h => by
                    rw [Nat.add_assoc]; exact h.1.at (by rw [HJ.out.1]; exact tkj)
                  have f1 : ∀ w', MSt w b n xj w' → w'.frozen? ⟨b, 1 + i * (n + 1) + j, none⟩ = false := fun w' h => h.1.free _
                  have ST := Lib.hid (show ∀ w' x, MSt w b n xj w' → MSt w b n (xj.set (Zo.ix n i j) x) (w'.setCell ⟨b, 1 + i * (n + 1) + j, none⟩ (.int .i64 x)) from fun w' x h => by
                    have := h.put (Zo.ix n i j) x (by rw [HJ.out.1]; exact tij)
                    rwa [show 1 + Zo.ix n i j = 1 + i * (n + 1) + j by unfold Zo.ix; omega] at this)
                  have hm := run_imin (Zo.At n xj i j) (Zo.smW c (Zo.At n xj k j))
                  have PS := zsum_any c (Zo.At n xj k j)
                  have d1 := c1 _ HJ.out.2.2
                  have d2 := c2 _ HJ.out.2.2
                  have d3 := f1 _ HJ.out.2.2
                  go_wp2_with fail
                  go_still_tail 14, (by kernel_rfl)
                  still_call (PS _)
                  repeat still_step
                  refine wpStill_nil ?_
                  clear d1 d2 d3
                  have HD := Lib.hid HJ.out.2.2.drew
                  have d1 := c1 _ HD.out
                  have d3 := f1 _ HD.out
                  change wpList _ _ _ _ _ (World.drew _)
                  go_wp2_with fail
                  have S4 := Lib.hid (ST.out _ (imin (Zo.At n xj i j) (Zo.smW c (Zo.At n xj k j))) HD.out)
                  clear hm PS c1 c2 f1 ST d1 d3 HD
                  go_roundw
                  case rel => exact ⟨j + 1, _, by omega, by go_num, Lib.hid ⟨by simpa using HJ.out.1, by rw [Zo.fold_succ, ← HJ.out.2.1]; rfl, S4.out⟩⟩
                  case measure => simp [intOf]; omega
                · have HR := Lib.hid (show xj = (List.range (n + 1)).foldl (Zo.prw n k i (Zo.At n xi i k)) xi by rw [← HC.out, show n + 1 = j by omega]; exact HJ.out.2.1)
                  have HL := Lib.hid HJ.out.1
                  have HW := Lib.hid HJ.out.2.2
                  have tii := Zo.ix_lt hin hin
                  obtain ⟨d, hd⟩ : ∃ d, d = Zo.At n xj i i := ⟨_, rfl⟩
                  have c1 : ∀ w', MSt w b n xj w' → w'.cell? ⟨b, 1 + i * (n + 1) + i, none⟩ = some (.int .i64 d) := fun w' h => by
                    rw [hd, Nat.add_assoc]; exact h.1.at (by rw [HL.out]; exact tii)
                  have d1 := c1 _ HW.out
                  have HDd := Lib.hid hd
                  clear hd tii
                  by_cases hneg : d < 1
                  · have HB := Lib.hid (show cloB n l = true by
                      unfold cloB; rw [List.any_eq_true]
                      refine ⟨i, by simp; omega, ?_⟩
                      simpa using Zo.Mid.bad hl hkn hin HI.out.2.1 HR.out (by rw [← HDd.out]; exact hneg))
                    have D : decide (d < 1) = true := by simpa using hneg
                    clear c1
                    go_wp2_with fail
                    go_ret
                    exact ⟨ret_bool (by rw [HB.out]; rfl), _, HW.out, fun h => by rw [HB.out] at h; cases h⟩
                  · have HN := Lib.hid (Zo.Mid.row hkn hin HI.out.2.1 HR.out (by rw [← HDd.out]; omega))
                    have D : decide (d < 1) = false := by simpa using hneg
                    clear c1
                    go_wp2_with fail
                    clear d1 D
                    go_roundw
                    case rel => exact ⟨i + 1, xj, by omega, by go_num, Lib.hid ⟨HL.out, HN.out, HW.out⟩⟩
                    case measure => simp [intOf]; omega
            · have HN := Lib.hid (show Zo.Mid n l (k + 1) 0 xi from Zo.Mid.round (by have := HI.out.2.1; rwa [show i = n + 1 by omega] at this))
              go_wp2_with fail
              go_roundw
              case rel => exact ⟨k + 1, xi, by omega, by go_num, Lib.hid ⟨HI.out.1, HN.out, HI.out.2.2⟩⟩
              case measure => simp [intOf]; omega
        · have HN := Lib.hid (show Zo.Mid n l (n + 1) 0 xk by have := HK.out.2.1; rwa [show k = n + 1 by omega] at this)
          have HB := Lib.hid (show cloB n l = false from cloB_no fun i hi => by have := HN.out.done.2 i (by omega); omega)
          go_wp2_with fail
          go_ret
          exact ⟨ret_bool (by rw [HB.out]; rfl), _, HK.out.2.2, fun _ => HN.out.done.1⟩
end Go.Proofs.Ytbnebinpemejlaa

namespace Go.Proofs.Ytbnebinpemejlaa
open Go.RowKit

theorem Rd.on {w w' : World} {a : Addr} {l : List Int} (h : Rd w a l) (hb : Below w.heap.size w w') : Rd w' a l := fun j hj => kept hb (h j hj)

/-- What Check asks of each element, and of each three. -/
def okI (n : Nat) (l : List Int) (i j : Nat) : Bool := lvB (Zo.At n l i j) && (decide (i ≠ j) || decide (Zo.At n l i j = 1)) && (decide (i ≠ 0) || decide (Zo.At n l i j ≤ 1))

def okT (n : Nat) (l : List Int) (i j k : Nat) : Bool := decide (Zo.At n l i j ≤ Zo.smW (Zo.At n l i k) (Zo.At n l k j))

def chk1 (n : Nat) (l : List Int) : Bool := (List.range (n + 1)).all fun i => (List.range (n + 1)).all fun j => okI n l i j

def chk2 (n : Nat) (l : List Int) : Bool := (List.range (n + 1)).all fun i => (List.range (n + 1)).all fun j => (List.range (n + 1)).all fun k => okT n l i j k

def chkB (N : Int) (l : List Int) : Bool := dimB N && decide (l.length = (N.toNat + 1) * (N.toNat + 1)) && chk1 N.toNat l && chk2 N.toNat l

def chkE (N : Int) (l : List Int) : Int := if chkB N l then 0 else 2

theorem chk1_iff {n : Nat} {l : List Int} : chk1 n l = true ↔ ∀ i, i < n + 1 → ∀ j, j < n + 1 → okI n l i j = true := by simp [chk1]

theorem chk2_iff {n : Nat} {l : List Int} : chk2 n l = true ↔ ∀ i, i < n + 1 → ∀ j, j < n + 1 → ∀ k, k < n + 1 → okT n l i j k = true := by simp [chk2]

theorem chkE_bad1 {N : Int} {l : List Int} (h : dimB N = false) : chkE N l = 2 := by simp [chkE, chkB, h]

theorem chkE_bad2 {N : Int} {l : List Int} (h : l.length ≠ (N.toNat + 1) * (N.toNat + 1)) : chkE N l = 2 := by simp [chkE, chkB, h]

theorem chkE_bad3 {n : Nat} {l : List Int} {i j : Nat} (hi : i < n + 1) (hj : j < n + 1) (h : okI n l i j = false) : chkE (n : Int) l = 2 := by
  have : chk1 n l = false := by
    cases e : chk1 n l
    · rfl
    · have := chk1_iff.1 e i hi j hj
      rw [h] at this; simp at this
  simp [chkE, chkB, this]

theorem chkE_bad4 {n : Nat} {l : List Int} {i j k : Nat} (hi : i < n + 1) (hj : j < n + 1) (hk : k < n + 1) (h : okT n l i j k = false) : chkE (n : Int) l = 2 := by
  have : chk2 n l = false := by
    cases e : chk2 n l
    · rfl
    · have := chk2_iff.1 e i hi j hj k hk
      rw [h] at this; simp at this
  simp [chkE, chkB, this]

theorem chkE_ok {n : Nat} {l : List Int} (hn : n ≤ 10) (hl : l.length = (n + 1) * (n + 1)) (h1 : ∀ i, i < n + 1 → ∀ j, j < n + 1 → okI n l i j = true) (h2 : ∀ i, i < n + 1 → ∀ j, j < n + 1 → ∀ k, k < n + 1 → okT n l i j k = true) : chkE (n : Int) l = 0 := by
  have d : dimB (n : Int) = true := by unfold dimB; simp; omega
  simp [chkE, chkB, d, hl, chk1_iff.2 h1, chk2_iff.2 h2]

/-- A call that reads: at, in a world behind w0. -/
theorem at_b {w0 : World} {a : Addr} {cap n i j : Nat} {l : List Int} {w : World} (hn : n ≤ 10) (hi : i ≤ n) (hj : j ≤ n) (hl : l.length = (n + 1) * (n + 1)) (hR : Rd w0 a l) (h : Below w0.heap.size w0 w) :
    Calls Try.prog 68 #[.agg #[.int .i64 n, .slice (some a) l.length cap], .int .i64 i, .int .i64 j] w
      (fun e w' => e = .returned (.int .i64 (Zo.At n l i j)) ∧ Below w0.heap.size w0 w') := by
  refine (at_any n i j l a cap w hn hi hj hl (hR.on h)).mono ?_
  rintro e w' ⟨rfl, hb⟩
  exact ⟨rfl, below_on h hb⟩

theorem sum_b {w0 w : World} (a b : Int) (h : Below w0.heap.size w0 w) :
    Calls Try.prog 69 #[.int .i64 a, .int .i64 b] w (fun e w' => e = .returned (.int .i64 (Zo.smW a b)) ∧ Below w0.heap.size w0 w') := by
  refine (sum2_any a b w).mono ?_
  rintro e w' ⟨rfl, rfl⟩
  exact ⟨rfl, h⟩

set_option maxHeartbeats 400000 in
theorem check_bad1 (N : Int) (l : List Int) (ao : Option Addr) (cap : Nat) (w : World) (h : dimB N = false) :
    Calls Try.prog 18 #[.agg #[.int .i64 N, .slice ao l.length cap]] w (Made (.int .i64 (chkE N l)) w) := by
  have H := Lib.hid (chkE_bad1 (l := l) h)
  have p := fun W => dimension_any N W
  rw [h] at p
  have PD := Lib.hid p
  clear p h
  go_enter Try.func18, Try.ntmps18
  go_wp2_with fail
  refine (PD.out _).mono ?_
  rintro e w1 ⟨rfl, rfl⟩
  go_wp2_with fail
  go_ret
  exact ⟨ret_int H.out.symm, one_more _⟩

set_option maxHeartbeats 400000 in
theorem check_bad2 (n : Nat) (l : List Int) (ao : Option Addr) (cap : Nat) (w : World) (hn : n ≤ 10) (h : l.length ≠ (n + 1) * (n + 1)) :
    Calls Try.prog 18 #[.agg #[.int .i64 n, .slice ao l.length cap]] w (Made (.int .i64 (chkE n l)) w) := by
  have H := Lib.hid (chkE_bad2 (N := n) (l := l) (by simpa using h))
  have p := fun W => dimension_any n W
  rw [show dimB n = true by unfold dimB; simp; omega] at p
  have PD := Lib.hid p
  have t3 : ((n : Int) + 1) * ((n : Int) + 1) ≤ 121 ∧ 0 ≤ ((n : Int) + 1) * ((n : Int) + 1) := by
    have : (n + 1) * (n + 1) ≤ 11 * 11 := Nat.mul_le_mul (by omega) (by omega)
    constructor
    · exact_mod_cast this
    · exact_mod_cast Nat.zero_le _
  have h2 : ((l.length : Int) != ((n : Int) + 1) * ((n : Int) + 1)) = true := by
    simp; intro e; apply h; exact_mod_cast e
  generalize l.length = len at *
  clear p h
  go_enter Try.func18, Try.ntmps18
  go_wp2_with fail
  refine (PD.out _).mono ?_
  rintro e w1 ⟨rfl, rfl⟩
  go_wp2_with fail
  go_ret
  exact ⟨ret_int H.out.symm, one_more _⟩

set_option maxHeartbeats 4000000 in
theorem check_any (n : Nat) (l : List Int) (a : Addr) (cap : Nat) (w : World) (hn : n ≤ 10) (hl : l.length = (n + 1) * (n + 1)) (hR : Rd w a l) :
    Calls Try.prog 18 #[.agg #[.int .i64 n, .slice (some a) l.length cap]] w (Made (.int .i64 (chkE n l)) w) := by
  obtain ⟨len, hlen⟩ : ∃ len, len = l.length := ⟨_, rfl⟩
  obtain ⟨w0, hw0⟩ : ∃ w0, w0 = w.alloc (.cells #[.int .i64 n, .slice (some a) len cap] 25) := ⟨_, rfl⟩
  have b0 : w0.cell? ⟨w.heap.size, 0, none⟩ = some (.int .i64 n) := by rw [hw0]; go_simp
  have b1 : w0.cell? ⟨w.heap.size, 1, none⟩ = some (.slice (some a) len cap) := by rw [hw0]; go_simp
  have R0 : Rd w0 a l := by rw [hw0]; exact hR.on (one_more _)
  have e0 : Below w.heap.size w w0 := by rw [hw0]; exact one_more _
  have KS := Lib.hid (show ∀ w' : World, Below w0.heap.size w0 w' → w'.cell? ⟨w.heap.size, 0, none⟩ = some (.int .i64 n) ∧ w'.cell? ⟨w.heap.size, 1, none⟩ = some (.slice (some a) len cap) from
    fun w' h => ⟨kept h b0, kept h b1⟩)
  have p := fun W => dimension_any n W
  rw [show dimB n = true by unfold dimB; simp; omega] at p
  have PD := Lib.hid p
  have t3 : ((n : Int) + 1) * ((n : Int) + 1) ≤ 121 ∧ 0 ≤ ((n : Int) + 1) * ((n : Int) + 1) := by
    have : (n + 1) * (n + 1) ≤ 11 * 11 := Nat.mul_le_mul (by omega) (by omega)
    constructor
    · exact_mod_cast this
    · exact_mod_cast Nat.zero_le _
  have h2 : ((len : Int) != ((n : Int) + 1) * ((n : Int) + 1)) = false := by
    rw [hlen, hl]; simp
  have A9 : Hid (∀ x y : Nat, x ≤ n → y ≤ n → ∀ w' : World, Below w0.heap.size w0 w' → Calls Try.prog 68 #[.agg #[.int .i64 n, .slice (some a) len cap], .int .i64 x, .int .i64 y] w' (fun e w' => e = .returned (.int .i64 (Zo.At n l x y)) ∧ Below w0.heap.size w0 w')) :=
    Lib.hid fun x y hx hy w' h => by have := at_b (cap := cap) (i := x) (j := y) hn hx hy hl R0 h; rw [← hlen] at this; exact this
  have M9 := Lib.hid fun (x y : Int) (w' : World) (h : Below w0.heap.size w0 w') => sum_b x y h
  have HL := Lib.hid hl
  have E0 := Lib.hid e0
  rw [← hlen]
  clear p hl hlen R0 hR b0 b1 e0
  go_enter Try.func18, Try.ntmps18
  go_wp2_with fail
  refine (PD.out _).mono ?_
  rintro e w1 ⟨rfl, rfl⟩
  go_wp2_with fail
  rw [← hw0]
  clear t3 h2
  go_loopw [3] (fun s wr => ∃ t : Nat, t ≤ n + 1 ∧ s = .int .i64 t ∧ Hid (∀ i, i < t → ∀ j, j < n + 1 → okI n l i j = true) ∧ Hid (Below w0.heap.size w0 wr)) (fun s _ => n + 1 - (intOf s).toNat)
  case atStart => exact ⟨0, by omega, rfl, Lib.hid (fun i hi => by omega), Lib.hid (Below.refl _ _)⟩
  case round =>
    obtain ⟨i, hi, rfl, HI, HB⟩ := hrel
    obtain ⟨c0, c1⟩ := KS.out _ HB.out
    by_cases hin : i ≤ n
    · go_wp2_with fail
      clear c0 c1
      go_loopw [4] (fun s wr => ∃ t : Nat, t ≤ n + 1 ∧ s = .int .i64 t ∧ Hid (∀ j, j < t → okI n l i j = true) ∧ Hid (Below w0.heap.size w0 wr)) (fun s _ => n + 1 - (intOf s).toNat)
      case atStart => exact ⟨0, by omega, rfl, Lib.hid (fun j hj => by omega), HB⟩
      case round =>
        obtain ⟨j, hj, rfl, HJ, HBj⟩ := hrel
        obtain ⟨c0, c1⟩ := KS.out _ HBj.out
        by_cases hjn : j ≤ n
        · obtain ⟨v, hv⟩ : ∃ v, v = Zo.At n l i j := ⟨_, rfl⟩
          have a9 := A9.out i j hin hjn
          rw [← hv] at a9
          have A8 := Lib.hid a9
          have v9 := fun W => refLimValid_free v W
          have hok : okI n l i j = (lvB v && (decide (i ≠ j) || decide (v = 1)) && (decide (i ≠ 0) || decide (v ≤ 1))) := by rw [hv]; rfl
          clear a9 hv
          cases lv : lvB v
          · rw [lv] at v9
            have V9 := Lib.hid v9
            have HE := Lib.hid (chkE_bad3 (l := l) (n := n) (i := i) (j := j) (by omega) (by omega) (by rw [hok, lv]; simp))
            clear hok v9 lv
            go_wp2_with fail
            refine (A8.out _ HBj.out).mono ?_
            rintro e w2 ⟨rfl, hb⟩
            obtain ⟨c0, c1⟩ := KS.out _ hb
            go_wp2_with fail
            refine (V9.out _).mono ?_
            rintro e w3 ⟨rfl, rfl⟩
            go_wp2_with fail
            go_ret
            exact ⟨ret_int HE.out.symm, below_on E0.out hb⟩
          · by_cases ij : i = j
            · by_cases v1 : v = 1
              · by_cases i0 : i = 0
                · have IJ : ((i : Int) == (j : Int)) = true := by simp; omega
                  have IZ : ((i : Int) == 0) = true := by simp; omega
                  have V1 : (v != 1) = false := by simp; omega
                  have V2 : decide ((1 : Int) < v) = false := by simp; omega
                  rw [lv] at v9
                  have V9 := Lib.hid v9
                  have HE := Lib.hid (show okI n l i j = true by rw [hok, lv]; simp; omega)
                  clear hok v9 lv ij v1 i0
                  go_wp2_with fail
                  refine (A8.out _ HBj.out).mono ?_
                  rintro e w2 ⟨rfl, hb⟩
                  obtain ⟨c0, c1⟩ := KS.out _ hb
                  go_wp2_with fail
                  refine (V9.out _).mono ?_
                  rintro e w3 ⟨rfl, rfl⟩
                  have HB2 := Lib.hid hb
                  clear hb
                  go_wp2_with fail
                  go_roundw
                  case rel =>
                    refine ⟨j + 1, by omega, by go_num, Lib.hid (fun x hx => ?_), HB2⟩
                    by_cases e : x = j
                    · rw [e]; exact HE.out
                    · exact HJ.out x (by omega)
                  case measure => simp [intOf]; omega
                · have IJ : ((i : Int) == (j : Int)) = true := by simp; omega
                  have IZ : ((i : Int) == 0) = false := by simp; omega
                  have V1 : (v != 1) = false := by simp; omega
                  rw [lv] at v9
                  have V9 := Lib.hid v9
                  have HE := Lib.hid (show okI n l i j = true by rw [hok, lv]; simp; omega)
                  clear hok v9 lv ij v1 i0
                  go_wp2_with fail
                  refine (A8.out _ HBj.out).mono ?_
                  rintro e w2 ⟨rfl, hb⟩
                  obtain ⟨c0, c1⟩ := KS.out _ hb
                  go_wp2_with fail
                  refine (V9.out _).mono ?_
                  rintro e w3 ⟨rfl, rfl⟩
                  have HB2 := Lib.hid hb
                  clear hb
                  go_wp2_with fail
                  go_roundw
                  case rel =>
                    refine ⟨j + 1, by omega, by go_num, Lib.hid (fun x hx => ?_), HB2⟩
                    by_cases e : x = j
                    · rw [e]; exact HE.out
                    · exact HJ.out x (by omega)
                  case measure => simp [intOf]; omega
              · have IJ : ((i : Int) == (j : Int)) = true := by simp; omega
                have V1 : (v != 1) = true := by simp; omega
                rw [lv] at v9
                have V9 := Lib.hid v9
                have HE := Lib.hid (chkE_bad3 (l := l) (n := n) (i := i) (j := j) (by omega) (by omega) (by rw [hok, lv]; simp; omega))
                clear hok v9 lv ij v1
                go_wp2_with fail
                refine (A8.out _ HBj.out).mono ?_
                rintro e w2 ⟨rfl, hb⟩
                obtain ⟨c0, c1⟩ := KS.out _ hb
                go_wp2_with fail
                refine (V9.out _).mono ?_
                rintro e w3 ⟨rfl, rfl⟩
                go_wp2_with fail
                go_ret
                exact ⟨ret_int HE.out.symm, below_on E0.out hb⟩
            · by_cases i0 : i = 0
              · by_cases v1 : v ≤ 1
                · have IJ : ((i : Int) == (j : Int)) = false := by simp; omega
                  have IZ : ((i : Int) == 0) = true := by simp; omega
                  have V2 : decide ((1 : Int) < v) = false := by simp; omega
                  rw [lv] at v9
                  have V9 := Lib.hid v9
                  have HE := Lib.hid (show okI n l i j = true by rw [hok, lv]; simp; omega)
                  clear hok v9 lv ij v1 i0
                  go_wp2_with fail
                  refine (A8.out _ HBj.out).mono ?_
                  rintro e w2 ⟨rfl, hb⟩
                  obtain ⟨c0, c1⟩ := KS.out _ hb
                  go_wp2_with fail
                  refine (V9.out _).mono ?_
                  rintro e w3 ⟨rfl, rfl⟩
                  have HB2 := Lib.hid hb
                  clear hb
                  go_wp2_with fail
                  go_roundw
                  case rel =>
                    refine ⟨j + 1, by omega, by go_num, Lib.hid (fun x hx => ?_), HB2⟩
                    by_cases e : x = j
                    · rw [e]; exact HE.out
                    · exact HJ.out x (by omega)
                  case measure => simp [intOf]; omega
                · have IJ : ((i : Int) == (j : Int)) = false := by simp; omega
                  have IZ : ((i : Int) == 0) = true := by simp; omega
                  have V2 : decide ((1 : Int) < v) = true := by simp; omega
                  rw [lv] at v9
                  have V9 := Lib.hid v9
                  have HE := Lib.hid (chkE_bad3 (l := l) (n := n) (i := i) (j := j) (by omega) (by omega) (by rw [hok, lv]; simp; omega))
                  clear hok v9 lv ij v1 i0
                  go_wp2_with fail
                  refine (A8.out _ HBj.out).mono ?_
                  rintro e w2 ⟨rfl, hb⟩
                  obtain ⟨c0, c1⟩ := KS.out _ hb
                  go_wp2_with fail
                  refine (V9.out _).mono ?_
                  rintro e w3 ⟨rfl, rfl⟩
                  go_wp2_with fail
                  go_ret
                  exact ⟨ret_int HE.out.symm, below_on E0.out hb⟩
              · have IJ : ((i : Int) == (j : Int)) = false := by simp; omega
                have IZ : ((i : Int) == 0) = false := by simp; omega
                rw [lv] at v9
                have V9 := Lib.hid v9
                have HE := Lib.hid (show okI n l i j = true by rw [hok, lv]; simp; omega)
                clear hok v9 lv ij i0
                go_wp2_with fail
                refine (A8.out _ HBj.out).mono ?_
                rintro e w2 ⟨rfl, hb⟩
                obtain ⟨c0, c1⟩ := KS.out _ hb
                go_wp2_with fail
                refine (V9.out _).mono ?_
                rintro e w3 ⟨rfl, rfl⟩
                have HB2 := Lib.hid hb
                clear hb
                go_wp2_with fail
                go_roundw
                case rel =>
                  refine ⟨j + 1, by omega, by go_num, Lib.hid (fun x hx => ?_), HB2⟩
                  by_cases e : x = j
                  · rw [e]; exact HE.out
                  · exact HJ.out x (by omega)
                case measure => simp [intOf]; omega
        · have HI2 := Lib.hid (show ∀ x, x < i + 1 → ∀ j, j < n + 1 → okI n l x j = true from fun x hx y hy => by
            by_cases e : x = i
            · rw [e]; exact HJ.out y (by omega)
            · exact HI.out x (by omega) y hy)
          go_wp2_with fail
          go_roundw
          case rel => exact ⟨i + 1, by omega, by go_num, HI2, HBj⟩
          case measure => simp [intOf]; omega
    · have HI2 := Lib.hid (show ∀ x, x < n + 1 → ∀ j, j < n + 1 → okI n l x j = true from fun x hx y hy => HI.out x (by omega) y hy)
      go_wp2_with fail
      clear c0 c1
      go_loopw [6] (fun s wr => ∃ t : Nat, t ≤ n + 1 ∧ s = .int .i64 t ∧ Hid (∀ i, i < t → ∀ j, j < n + 1 → ∀ k, k < n + 1 → okT n l i j k = true) ∧ Hid (Below w0.heap.size w0 wr)) (fun s _ => n + 1 - (intOf s).toNat)
      case atStart => exact ⟨0, by omega, rfl, Lib.hid (fun i hi => by omega), HB⟩
      case round =>
        obtain ⟨x, hx, rfl, HX, HBx⟩ := hrel
        obtain ⟨c0, c1⟩ := KS.out _ HBx.out
        by_cases hxn : x ≤ n
        · go_wp2_with fail
          clear c0 c1
          go_loopw [7] (fun s wr => ∃ t : Nat, t ≤ n + 1 ∧ s = .int .i64 t ∧ Hid (∀ j, j < t → ∀ k, k < n + 1 → okT n l x j k = true) ∧ Hid (Below w0.heap.size w0 wr)) (fun s _ => n + 1 - (intOf s).toNat)
          case atStart => exact ⟨0, by omega, rfl, Lib.hid (fun j hj => by omega), HBx⟩
          case round =>
            obtain ⟨y, hy, rfl, HY, HBy⟩ := hrel
            obtain ⟨c0, c1⟩ := KS.out _ HBy.out
            by_cases hyn : y ≤ n
            · go_wp2_with fail
              clear c0 c1
              go_loopw [8] (fun s wr => ∃ t : Nat, t ≤ n + 1 ∧ s = .int .i64 t ∧ Hid (∀ k, k < t → okT n l x y k = true) ∧ Hid (Below w0.heap.size w0 wr)) (fun s _ => n + 1 - (intOf s).toNat)
              case atStart => exact ⟨0, by omega, rfl, Lib.hid (fun k hk => by omega), HBy⟩
              case round =>
                obtain ⟨z, hz, rfl, HZ, HBz⟩ := hrel
                obtain ⟨c0, c1⟩ := KS.out _ HBz.out
                by_cases hzn : z ≤ n
                · have HT := Lib.hid (show okT n l x y z = decide (Zo.At n l x y ≤ Zo.smW (Zo.At n l x z) (Zo.At n l z y)) from rfl)
                  go_wp2_with fail
                  have s1 := HBz.out.drew
                  go_region_held3 (fun w' => w'.cell? ⟨w.heap.size, 0, none⟩ = some (.int .i64 n) ∧ w'.cell? ⟨w.heap.size, 1, none⟩ = some (.slice (some a) len cap)) (first | exact KS.out _ (by assumption))
                    (first | (go_at_call 68; refine (A9.out _ _ (by assumption) (by assumption) _ (by assumption)).mono ?_; rintro e w2 ⟨rfl, s2⟩) | (go_at_call 69; refine (M9.out _ _ _ (by assumption)).mono ?_; rintro e w3 ⟨rfl, s3⟩))
                  all_goals
                    have S3 := Lib.hid s3
                    clear s3
                    generalize Zo.At n l x y = p at *
                    generalize Zo.smW (Zo.At n l x z) (Zo.At n l z y) = q at *
                    by_cases hpq : p ≤ q
                    · have HT2 := Lib.hid (show okT n l x y z = true by rw [HT.out]; simpa using hpq)
                      have D : decide (q < p) = false := by simp; omega
                      go_wp2_with fail
                      go_roundw
                      case rel =>
                        refine ⟨z + 1, by omega, by go_num, Lib.hid (fun k hk => ?_), S3⟩
                        by_cases e : k = z
                        · rw [e]; exact HT2.out
                        · exact HZ.out k (by omega)
                      case measure => simp [intOf]; omega
                    · have HE := Lib.hid (chkE_bad4 (l := l) (n := n) (i := x) (j := y) (k := z) (by omega) (by omega) (by omega) (by rw [HT.out]; simpa using hpq))
                      have D : decide (q < p) = true := by simp; omega
                      go_wp2_with fail
                      go_ret
                      exact ⟨ret_int HE.out.symm, below_on E0.out S3.out⟩
                · have HY2 := Lib.hid (show ∀ j, j < y + 1 → ∀ k, k < n + 1 → okT n l x j k = true from fun j hj k hk => by
                    by_cases e : j = y
                    · rw [e]; exact HZ.out k (by omega)
                    · exact HY.out j (by omega) k hk)
                  go_wp2_with fail
                  go_roundw
                  case rel => exact ⟨y + 1, by omega, by go_num, HY2, HBz⟩
                  case measure => simp [intOf]; omega
            · have HX2 := Lib.hid (show ∀ i, i < x + 1 → ∀ j, j < n + 1 → ∀ k, k < n + 1 → okT n l i j k = true from fun i hi j hj k hk => by
                by_cases e : i = x
                · rw [e]; exact HY.out j (by omega) k hk
                · exact HX.out i (by omega) j hj k hk)
              go_wp2_with fail
              go_roundw
              case rel => exact ⟨x + 1, by omega, by go_num, HX2, HBy⟩
              case measure => simp [intOf]; omega
        · have HE := Lib.hid (chkE_ok hn HL.out HI2.out (fun i hi j hj k hk => HX.out i (by omega) j hj k hk))
          go_wp2_with fail
          go_ret
          exact ⟨ret_int HE.out.symm, below_on E0.out HBx.out⟩
end Go.Proofs.Ytbnebinpemejlaa

namespace Go.Proofs.Ytbnebinpemejlaa
open Go.RowKit

theorem Try.info43 : (Try.prog.info? 43).map (fun i => (i.zero, i.size, i.bytes)) = some (some (.int .i64 0), 1, 8) := by kernel_rfl

theorem Rd.map {w : World} {a : Addr} {l : List Int} (h : Rd w a l) : ∀ j u, (l.map (Value.int .i64))[j]? = some u → w.cell? (a.add j) = some u := by
  intro j u hj
  have hl : j < l.length := by
    rcases Nat.lt_or_ge j l.length with c | c
    · exact c
    · simp [c] at hj
  rw [h j hl]
  simp [hl] at hj
  rw [← hj]; simp [Zo.gt, hl]

theorem grown_below {X w w' : World} (hb : Below X.heap.size X w) (hg : w.grownBy w' none) : Below X.heap.size X w' :=
  hb.trans ⟨hg.os, hg.tape, hg.output, hg.size, fun k hk => hg.block k (Nat.lt_of_lt_of_le hk hb.size) (by simp)⟩

theorem own_of {w : World} {base g c len : Nat} {xs : List Value} {l : List Int} (h : w.ownsRow base 43 1 (.slice (some ⟨g, 0, none⟩) len c) len xs) (hx : xs = l.map (Value.int .i64)) (hl : len = l.length) : Own w g c l ∧ base ≤ g := by
  subst hl hx
  refine ⟨?_, (World.ownsRow.lt h g rfl).1⟩
  obtain ⟨h1, h2⟩ := h
  refine ⟨h1, ?_⟩
  rcases h2 with h2 | ⟨g', cap', cur, a1, _, a3⟩
  · exact Or.inl h2
  · exact Or.inr ⟨g', cap', cur, a1, Nat.zero_le _, a3⟩

theorem put_far {w : World} {g c b : Nat} {l : List Int} (h : Own w g c l) (hb : b ≠ g) (u v : Value) : Own ((w.setCell ⟨b, 0, none⟩ u).setCell ⟨b, 1, none⟩ v) g c l := by
  have e1 : w.grownBy (w.setCell ⟨b, 0, none⟩ u) (some b) := ⟨rfl, rfl, rfl, by simp, fun k _ hk => heap_setCell_other w ⟨b, 0, none⟩ k u (fun e => hk (by simp [e]))⟩
  have e2 : (w.setCell ⟨b, 0, none⟩ u).grownBy ((w.setCell ⟨b, 0, none⟩ u).setCell ⟨b, 1, none⟩ v) (some b) := ⟨rfl, rfl, rfl, by simp, fun k _ hk => heap_setCell_other _ ⟨b, 1, none⟩ k v (fun e => hk (by simp [e]))⟩
  exact h.kept (grown_trans e1 e2) (by simp; omega)

set_option maxRecDepth 20000 in
set_option maxHeartbeats 800000 in
theorem copied_any (N : Int) (l : List Int) (a : Addr) (cap : Nat) (w : World) (h0 : 0 < l.length) (h1 : l.length ≤ 1000) (hR : Rd w a l) :
    Calls Try.prog 66 #[.agg #[.int .i64 N, .slice (some a) l.length cap]] w
      (fun e w' => ∃ g c, e = .returned (.agg #[.int .i64 N, .slice (some ⟨g, 0, none⟩) l.length c]) ∧ w.heap.size ≤ g ∧ Own w' g c l ∧ Below w.heap.size w w') := by
  obtain ⟨len, hlen⟩ : ∃ len, len = l.length := ⟨_, rfl⟩
  obtain ⟨xs, hxs⟩ : ∃ xs, xs = l.map (Value.int .i64) := ⟨_, rfl⟩
  obtain ⟨i0, hi, hz0, hz1, hz2⟩ := info_parts Try.info43
  obtain ⟨w0, hw0⟩ : ∃ w0, w0 = (w.alloc (.cells #[.int .i64 N, .slice (some a) len cap] 25)).alloc (.cells #[.int .i64 0, .slice none 0 0] 25) := ⟨_, rfl⟩
  have b0 : w0.cell? ⟨w.heap.size, 0, none⟩ = some (.int .i64 N) := by rw [hw0]; go_simp
  have b1 : w0.cell? ⟨w.heap.size, 1, none⟩ = some (.slice (some a) len cap) := by rw [hw0]; go_simp
  have r0 : w0.cell? ⟨w.heap.size + 1, 0, none⟩ = some (.int .i64 0) := by rw [hw0]; go_simp
  have r1 : w0.cell? ⟨w.heap.size + 1, 1, none⟩ = some (.slice none 0 0) := by rw [hw0]; go_simp
  have f0 : w0.frozen? ⟨w.heap.size + 1, 0, none⟩ = false := by rw [hw0]; go_simp
  have f1 : w0.frozen? ⟨w.heap.size + 1, 1, none⟩ = false := by rw [hw0]; go_simp
  have z0 : w0.heap.size = w.heap.size + 2 := by rw [hw0]; simp
  have e0 : Below w.heap.size w w0 := by rw [hw0]; exact past_two (Below.refl _ _)
  have RN := Lib.hid (show ∀ w' : World, Below w0.heap.size w0 w' → ∀ j u, xs[j]? = some u → w'.cell? (a.add j) = some u from fun w' h => by rw [hxs]; exact ((hR.on e0).on h).map)
  have KS := Lib.hid (show ∀ w' : World, Below w0.heap.size w0 w' → w'.cell? ⟨w.heap.size, 0, none⟩ = some (.int .i64 N) ∧ w'.cell? ⟨w.heap.size, 1, none⟩ = some (.slice (some a) len cap) from fun w' h => ⟨kept h b0, kept h b1⟩)
  have l1 : xs.length = len * 1 := by rw [hxs, hlen]; simp
  have o1 : ∀ u ∈ xs, u.oneCell' = true := by rw [hxs]; simp [Value.oneCell']
  have l2 : 0 < len := by omega
  have l3 : len ≤ 1000 := by omega
  have B1 : Below w0.heap.size w0 w0.drew := (Below.refl _ _).drew
  have B2 : ∀ o : Obj, Below w0.heap.size w0 (w0.drew.alloc o) := fun o => B1.alloc (Nat.le_refl _) o
  have HX := Lib.hid hxs
  have HL := Lib.hid hlen
  have HO1 := Lib.hid o1
  have HB2 := Lib.hid B2
  have HB1 := Lib.hid B1
  have E0 := Lib.hid e0
  rw [← hlen]
  clear hR hlen hxs o1 B1 B2 b0 b1 h0 h1 e0
  go_enter Try.func66, Try.ntmps66
  go_wp2_with fail
  rw [← hw0]
  clear hw0
  go_region_held3 (fun w' => w'.cell? ⟨w.heap.size, 0, none⟩ = some (.int .i64 N) ∧ w'.cell? ⟨w.heap.size, 1, none⟩ = some (.slice (some a) len cap)) (first | exact KS.out _ HB1.out | exact KS.out _ (HB2.out _) | exact KS.out _ (by assumption) | go_keep)
    (first | (refine step_append_grows rfl (.tmp 5) (.tmp 7) 22 rfl 43 i0 (.int .i64 0) 1 8 Try.underlying22 hi hz0 hz1 hz2 rfl (by decide) (some ⟨w.heap.size + 2, 0, none⟩) 0 0 [] (by simp [Act.eval]) (by simp) rfl (by simp) a len cap xs (by simp [Act.eval]) l1 (RN.out _ (HB2.out _)) HO1.out (by omega) (by unfold maxLen; omega) (by omega) ?_; intro v' w5 hown hgrow; obtain ⟨g, c, rfl⟩ := Joins.ownsRow_form hown (by omega); have B5 : Below w0.heap.size w0 w5 := grown_below (HB2.out _) hgrow; have q0 := kept B5 r0; have q1 := kept B5 r1; have q2 := (B5.frozen (p := ⟨w.heap.size + 1, 0, none⟩) (by show w.heap.size + 1 < w0.heap.size; omega)).trans f0; have q3 := (B5.frozen (p := ⟨w.heap.size + 1, 1, none⟩) (by show w.heap.size + 1 < w0.heap.size; omega)).trans f1))
  go_wp2_with fail
  have hown' : w5.ownsRow (w0.drew.alloc (.cells #[] 43)).heap.size 43 1 (.slice (some ⟨g, 0, none⟩) len c) len xs := by simpa using hown
  obtain ⟨ho, hg⟩ := own_of hown' HX.out HL.out
  have hg2 : w0.heap.size ≤ g := Nat.le_trans (by simp) hg
  refine bodyPost_ret (v := .agg #[.int .i64 N, .slice (some ⟨g, 0, none⟩) len c]) (by simp [results, Try.results66, go_sem, q0, q1]) rfl ⟨g, c, rfl, by omega, put_far ho (by omega) _ _, ?_⟩
  exact ((below_on E0.out B5).setCell (by show w.heap.size ≤ w.heap.size + 1; omega) _).setCell (by show w.heap.size ≤ w.heap.size + 1; omega) _
end Go.Proofs.Ytbnebinpemejlaa

namespace Go.Proofs.Ytbnebinpemejlaa
open Go.RowKit

/-- A block of two cells. -/
def Two (w : World) (b : Nat) (u v : Value) : Prop := Cell w ⟨b, 0, none⟩ u ∧ Cell w ⟨b, 1, none⟩ v

theorem Two.lt {w : World} {b : Nat} {u v : Value} (h : Two w b u v) : b < w.heap.size := h.1.lt

theorem Two.kept {w w' : World} {b : Nat} {u v : Value} (h : Two w b u v) (hb : Below w.heap.size w w') : Two w' b u v := ⟨h.1.kept hb, h.2.kept hb⟩

theorem Two.made (w : World) (u v : Value) (t : TypeId) : Two (w.alloc (.cells #[u, v] t)) w.heap.size u v := ⟨⟨by go_simp, by go_simp⟩, ⟨by go_simp, by go_simp⟩⟩

theorem Two.alloc {w : World} {b : Nat} {u v : Value} (h : Two w b u v) (o : Obj) : Two (w.alloc o) b u v := h.kept (one_more o)

theorem Two.put {w : World} {b : Nat} {u v : Value} (h : Two w b u v) (u' v' : Value) : Two ((w.setCell ⟨b, 0, none⟩ u').setCell ⟨b, 1, none⟩ v') b u' v' :=
  ⟨((h.1.same _).other (by simp) _), ((h.2.other (by simp) _).same _)⟩

theorem Two.aside {w : World} {b b' : Nat} {u v : Value} (h : Two w b u v) (hne : b' ≠ b) (u' v' : Value) : Two ((w.setCell ⟨b', 0, none⟩ u').setCell ⟨b', 1, none⟩ v') b u v :=
  ⟨((h.1.other (fun e => hne (congrArg Addr.block e)) _).other (fun e => hne (congrArg Addr.block e)) _), ((h.2.other (fun e => hne (congrArg Addr.block e)) _).other (fun e => hne (congrArg Addr.block e)) _)⟩

theorem Two.facts {w : World} {b : Nat} {u v : Value} (h : Two w b u v) : w.cell? ⟨b, 0, none⟩ = some u ∧ w.cell? ⟨b, 1, none⟩ = some v ∧ w.frozen? ⟨b, 0, none⟩ = false ∧ w.frozen? ⟨b, 1, none⟩ = false :=
  ⟨h.1.1, h.2.1, h.1.2, h.2.2⟩

theorem Two.grown {w w' : World} {b g : Nat} {u v : Value} (h : Two w b u v) (hg : w.grownBy w' (some g)) (hne : b ≠ g) : Two w' b u v :=
  ⟨⟨hg.cell h.1.1 (by simpa using hne), (World.frozen?_of_block (hg.block _ h.1.lt (by simpa using hne))).trans h.1.2⟩, ⟨hg.cell h.2.1 (by simpa using hne), (World.frozen?_of_block (hg.block _ h.2.lt (by simpa using hne))).trans h.2.2⟩⟩

/-- What a function that returns a zone leaves: with no error a new row, else the zero zone. -/
def ZRes (w : World) (N : Int) (l : List Int) (er : Int) (e : Ending) (w' : World) : Prop :=
  Below w.heap.size w w' ∧ ((er = 0 ∧ ∃ g c, e = .returned (.tuple #[.agg #[.int .i64 N, .slice (some ⟨g, 0, none⟩) l.length c], .int .i64 0]) ∧ w.heap.size ≤ g ∧ Own w' g c l) ∨
    (er ≠ 0 ∧ e = .returned (.tuple #[.agg #[.int .i64 0, .slice none 0 0], .int .i64 er])))

theorem closed_ok {n : Nat} {l : List Int} {g cap : Nat} (w : World) (hn : n ≤ 10) (hl : l.length = (n + 1) * (n + 1)) (hO : Own w g cap l) (h : cloE n l = 0) :
    Calls Try.prog 65 #[.agg #[.int .i64 n, .slice (some ⟨g, 0, none⟩) l.length cap]] w (fun e w' => e = .returned (.tuple #[.agg #[.int .i64 n, .slice (some ⟨g, 0, none⟩) l.length cap], .int .i64 0]) ∧ Own w' g cap (Zo.clo n l) ∧ w.grownBy w' (some g)) := by
  have := closed_any n l g cap w hn hl hO
  rwa [h] at this

theorem closed_no {n : Nat} {l : List Int} {g cap : Nat} (w : World) (hn : n ≤ 10) (hl : l.length = (n + 1) * (n + 1)) (hO : Own w g cap l) (h : cloE n l ≠ 0) :
    Calls Try.prog 65 #[.agg #[.int .i64 n, .slice (some ⟨g, 0, none⟩) l.length cap]] w (fun e w' => e = .returned (.tuple #[.agg #[.int .i64 0, .slice none 0 0], .int .i64 (cloE n l)]) ∧ Own w' g cap (Zo.clo n l) ∧ w.grownBy w' (some g)) := by
  have := closed_any n l g cap w hn hl hO
  rwa [show zres (cloE n l) n g l.length cap = .agg #[.int .i64 0, .slice none 0 0] by unfold zres; rw [if_neg h]] at this

theorem dsq_pos (n : Nat) : 0 < (n + 1) * (n + 1) := Nat.mul_pos (by omega) (by omega)

theorem dsq_le {n : Nat} (hn : n ≤ 10) : (n + 1) * (n + 1) ≤ 121 := by
  have : (n + 1) * (n + 1) ≤ 11 * 11 := Nat.mul_le_mul (by omega) (by omega)
  omega

/-- From a row that the function itself has made to what it leaves. -/
theorem grown_over {w w1 w2 : World} {g : Nat} (hb : Below w.heap.size w w1) (hg : w1.grownBy w2 (some g)) (hle : w.heap.size ≤ g) : Below w.heap.size w w2 :=
  hb.trans ⟨hg.os, hg.tape, hg.output, hg.size, fun k hk => hg.block k (Nat.lt_of_lt_of_le hk hb.size) (by simp; omega)⟩

/-- Steps that each keep the length. -/
theorem fold_len {f : List Int → Nat → List Int} (hf : ∀ x t, (f x t).length = x.length) (l : List Int) (t : Nat) : ((List.range t).foldl f l).length = l.length := by
  induction t with
  | zero => rfl
  | succ t ih => rw [Zo.fold_succ, hf, ih]

/-- Up: the elements that are set. -/
def upS (n : Nat) (x : List Int) (t : Nat) : List Int := x.set (Zo.ix n (t + 1) 0) 1099511627776

def upL (n : Nat) (l : List Int) : List Int := (List.range n).foldl (upS n) l

theorem upL_len (n : Nat) (l : List Int) : (upL n l).length = l.length := fold_len (fun x t => by simp [upS]) l n

set_option maxHeartbeats 1600000 in
theorem up_any (n : Nat) (l : List Int) (a : Addr) (cap : Nat) (w : World) (hn : n ≤ 10) (hl : l.length = (n + 1) * (n + 1)) (hR : Rd w a l) (hc : chkE n l = 0) :
    Calls Try.prog 27 #[.agg #[.int .i64 n, .slice (some a) l.length cap]] w (ZRes w n (Zo.clo n (upL n l)) (cloE n (upL n l))) := by
  obtain ⟨len, hlen⟩ : ∃ len, len = l.length := ⟨_, rfl⟩
  obtain ⟨w0, hw0⟩ : ∃ w0, w0 = (w.alloc (.cells #[.int .i64 n, .slice (some a) len cap] 25)).alloc (.cells #[.int .i64 0, .slice none 0 0] 25) := ⟨_, rfl⟩
  have bx : Two w0 w.heap.size (.int .i64 n) (.slice (some a) len cap) := by rw [hw0]; exact (Two.made _ _ _ _).alloc _
  have rs : Two w0 (w.heap.size + 1) (.int .i64 0) (.slice none 0 0) := by
    rw [hw0]
    have := Two.made (w.alloc (.cells #[.int .i64 n, .slice (some a) len cap] 25)) (.int .i64 0) (.slice none 0 0) 25
    simpa using this
  have z0 : w0.heap.size = w.heap.size + 2 := by rw [hw0]; simp
  have e0 : Below w.heap.size w w0 := by rw [hw0]; exact past_two (Below.refl _ _)
  have R0 := hR.on e0
  have CK : Hid (∀ W, Rd W a l → Calls Try.prog 18 #[.agg #[.int .i64 n, .slice (some a) len cap]] W (Made (.int .i64 0) W)) := Lib.hid fun W h => by have := check_any n l a cap W hn hl h; rw [hc, ← hlen] at this; exact this
  have CP : Hid (∀ W, Rd W a l → Calls Try.prog 66 #[.agg #[.int .i64 n, .slice (some a) len cap]] W (fun e w' => ∃ g c, e = .returned (.agg #[.int .i64 n, .slice (some ⟨g, 0, none⟩) len c]) ∧ W.heap.size ≤ g ∧ Own w' g c l ∧ Below W.heap.size W w')) := Lib.hid fun W h => by have := copied_any n l a cap W (by rw [hl]; exact dsq_pos n) (by rw [hl]; have := dsq_le hn; omega) h; rw [← hlen] at this; exact this
  have HR := Lib.hid R0
  have HL := Lib.hid hl
  have HLn := Lib.hid hlen
  have E0 := Lib.hid e0
  rw [← hlen]
  clear hR R0 hl hlen hc e0
  go_enter Try.func27, Try.ntmps27
  go_wp2_with fail
  rw [← hw0]
  clear hw0
  obtain ⟨b0, b1, b2, b3⟩ := bx.facts
  go_wp2_with fail
  refine (CK.out _ HR.out).mono ?_
  rintro e w1 ⟨rfl, hb1⟩
  clear b0 b1 b2 b3
  replace bx := bx.kept hb1
  replace rs := rs.kept hb1
  have HR1 := Lib.hid (HR.out.on hb1)
  have E1 := Lib.hid (below_on E0.out hb1)
  have z1 := hb1.size
  clear hb1 HR E0
  obtain ⟨b0, b1, b2, b3⟩ := bx.facts
  go_wp2_with fail
  refine (CP.out _ HR1.out).mono ?_
  rintro e w2 ⟨g, c, rfl, hg, ho, hb2⟩
  clear b0 b1 b2 b3
  replace bx := bx.kept hb2
  replace rs := rs.kept hb2
  have E2 := Lib.hid (below_on E1.out hb2)
  have z2 := hb2.size
  clear hb2 E1 HR1
  obtain ⟨b0, b1, b2, b3⟩ := bx.facts
  obtain ⟨w3, hw3⟩ : ∃ w3, w3 = (w2.setCell ⟨w.heap.size, 0, none⟩ (.int .i64 n)).setCell ⟨w.heap.size, 1, none⟩ (.slice (some ⟨g, 0, none⟩) len c) := ⟨_, rfl⟩
  have bx3 : Two w3 w.heap.size (.int .i64 n) (.slice (some ⟨g, 0, none⟩) len c) := by rw [hw3]; exact bx.put _ _
  have rs3 : Two w3 (w.heap.size + 1) (.int .i64 0) (.slice none 0 0) := by rw [hw3]; exact rs.aside (by omega) _ _
  have O3 : Own w3 g c l := by rw [hw3]; exact put_far ho (by omega) _ _
  have E3 : Below w.heap.size w w3 := by rw [hw3]; exact (E2.out.setCell (by show w.heap.size ≤ w.heap.size; omega) _).setCell (by show w.heap.size ≤ w.heap.size; omega) _
  have S3 := Lib.hid (show St w3 g c l w3 from ⟨O3, World.grownBy.refl _ _⟩)
  have HE3 := Lib.hid E3
  clear ho O3 E3 E2 rs bx
  go_wp2_with fail
  rw [← hw3]
  clear hw3 b0 b1 b2 b3
  go_loopw [4] (fun s wr => ∃ (t : Nat) (x : List Int), t ≤ n ∧ s = .int .i64 ((t : Int) + 1) ∧ x.length = len ∧ Hid (x = (List.range t).foldl (upS n) l) ∧ Hid (St w3 g c x wr)) (fun s _ => n + 1 - (intOf s).toNat)
  case atStart => exact ⟨0, l, by omega, rfl, HLn.out.symm, Lib.hid rfl, S3⟩
  case round =>
    obtain ⟨t, x, ht, rfl, hx, HX, HT⟩ := hrel
    have bx4 := bx3.grown HT.out.2 (by omega)
    obtain ⟨b0, b1, b2, b3⟩ := bx4.facts
    by_cases htn : t + 1 ≤ n
    · have lx : x.length = (n + 1) * (n + 1) := by rw [hx, HLn.out, HL.out]
      have SE : Hid (∀ w' : World, St w3 g c x w' → Calls Try.prog 79 #[.agg #[.int .i64 n, .slice (some ⟨g, 0, none⟩) len c], .int .i64 ((t : Int) + 1), .int .i64 0, .int .i64 1099511627776] w' (fun e w' => e = .returned (.tuple #[]) ∧ St w3 g c (upS n x t) w')) :=
        Lib.hid fun w' h => by have := set_st (i := t + 1) (j := 0) 1099511627776 hn htn (by omega) lx h; rw [hx] at this; exact this
      go_wp2_with fail
      refine (SE.out _ HT.out).mono ?_
      rintro e w4 ⟨rfl, s4⟩
      have S4 := Lib.hid s4
      clear s4
      go_wp2_with fail
      go_roundw
      case rel => exact ⟨t + 1, _, htn, by go_num, by simpa [upS] using hx, Lib.hid (by rw [Zo.fold_succ, ← HX.out]), S4⟩
      case measure => simp [intOf]; omega
    · have HX2 := Lib.hid (show x = upL n l by rw [HX.out, show t = n by omega]; rfl)
      have lx : x.length = (n + 1) * (n + 1) := by rw [hx, HLn.out, HL.out]
      by_cases hE : cloE n x = 0
      · have CL : Hid (∀ W, Own W g c x → Calls Try.prog 65 #[.agg #[.int .i64 n, .slice (some ⟨g, 0, none⟩) len c]] W (fun e w' => e = .returned (.tuple #[.agg #[.int .i64 n, .slice (some ⟨g, 0, none⟩) len c], .int .i64 0]) ∧ Own w' g c (Zo.clo n x) ∧ W.grownBy w' (some g))) := Lib.hid fun W h => by have := closed_ok W hn lx h hE; rw [hx] at this; exact this
        have HEE := Lib.hid hE
        clear hE
        go_wp2_with fail
        refine (CL.out _ HT.out.1).mono ?_
        rintro e w5 ⟨rfl, ho5, hg5⟩
        have rs5 := (rs3.grown HT.out.2 (by omega)).grown hg5 (by omega)
        obtain ⟨q0, q1, q2, q3⟩ := rs5.facts
        have E5 := Lib.hid (grown_over (grown_over HE3.out HT.out.2 (by omega)) hg5 (by omega))
        have HO5 := Lib.hid ho5
        clear ho5 hg5
        go_wp2_with fail
        refine bodyPost_ret (v := .tuple #[.agg #[.int .i64 n, .slice (some ⟨g, 0, none⟩) len c], .int .i64 0]) (by simp [results, Try.results27, go_sem, q0, q1]) rfl ⟨(E5.out.setCell (by show w.heap.size ≤ w.heap.size + 1; omega) _).setCell (by show w.heap.size ≤ w.heap.size + 1; omega) _, Or.inl ⟨by rw [← HX2.out]; exact HEE.out, g, c, ?_, by omega, ?_⟩⟩
        · rw [Zo.clo_length, upL_len, ← HLn.out]
        · rw [← HX2.out]; exact put_far HO5.out (by omega) _ _
      · have CL : Hid (∀ W, Own W g c x → Calls Try.prog 65 #[.agg #[.int .i64 n, .slice (some ⟨g, 0, none⟩) len c]] W (fun e w' => e = .returned (.tuple #[.agg #[.int .i64 0, .slice none 0 0], .int .i64 (cloE n x)]) ∧ Own w' g c (Zo.clo n x) ∧ W.grownBy w' (some g))) := Lib.hid fun W h => by have := closed_no W hn lx h hE; rw [hx] at this; exact this
        have HEE := Lib.hid hE
        clear hE
        go_wp2_with fail
        refine (CL.out _ HT.out.1).mono ?_
        rintro e w5 ⟨rfl, ho5, hg5⟩
        have rs5 := (rs3.grown HT.out.2 (by omega)).grown hg5 (by omega)
        obtain ⟨q0, q1, q2, q3⟩ := rs5.facts
        have E5 := Lib.hid (grown_over (grown_over HE3.out HT.out.2 (by omega)) hg5 (by omega))
        clear ho5 hg5
        go_wp2_with fail
        refine bodyPost_ret (v := .tuple #[.agg #[.int .i64 0, .slice none 0 0], .int .i64 (cloE n x)]) (by simp [results, Try.results27, go_sem, q0, q1]) rfl ⟨(E5.out.setCell (by show w.heap.size ≤ w.heap.size + 1; omega) _).setCell (by show w.heap.size ≤ w.heap.size + 1; omega) _, Or.inr ⟨by rw [← HX2.out]; exact HEE.out, ?_⟩⟩
        rw [HX2.out]

/-- Down: the elements that are set. -/
def dnS (n : Nat) (x : List Int) (t : Nat) : List Int := x.set (Zo.ix n 0 (t + 1)) 1

def dnL (n : Nat) (l : List Int) : List Int := (List.range n).foldl (dnS n) l

theorem dnL_len (n : Nat) (l : List Int) : (dnL n l).length = l.length := fold_len (fun x t => by simp [dnS]) l n

set_option maxHeartbeats 1600000 in
theorem dn_any (n : Nat) (l : List Int) (a : Addr) (cap : Nat) (w : World) (hn : n ≤ 10) (hl : l.length = (n + 1) * (n + 1)) (hR : Rd w a l) (hc : chkE n l = 0) :
    Calls Try.prog 29 #[.agg #[.int .i64 n, .slice (some a) l.length cap]] w (ZRes w n (Zo.clo n (dnL n l)) (cloE n (dnL n l))) := by
  obtain ⟨len, hlen⟩ : ∃ len, len = l.length := ⟨_, rfl⟩
  obtain ⟨w0, hw0⟩ : ∃ w0, w0 = (w.alloc (.cells #[.int .i64 n, .slice (some a) len cap] 25)).alloc (.cells #[.int .i64 0, .slice none 0 0] 25) := ⟨_, rfl⟩
  have bx : Two w0 w.heap.size (.int .i64 n) (.slice (some a) len cap) := by rw [hw0]; exact (Two.made _ _ _ _).alloc _
  have rs : Two w0 (w.heap.size + 1) (.int .i64 0) (.slice none 0 0) := by
    rw [hw0]
    have := Two.made (w.alloc (.cells #[.int .i64 n, .slice (some a) len cap] 25)) (.int .i64 0) (.slice none 0 0) 25
    simpa using this
  have z0 : w0.heap.size = w.heap.size + 2 := by rw [hw0]; simp
  have e0 : Below w.heap.size w w0 := by rw [hw0]; exact past_two (Below.refl _ _)
  have R0 := hR.on e0
  have CK : Hid (∀ W, Rd W a l → Calls Try.prog 18 #[.agg #[.int .i64 n, .slice (some a) len cap]] W (Made (.int .i64 0) W)) := Lib.hid fun W h => by have := check_any n l a cap W hn hl h; rw [hc, ← hlen] at this; exact this
  have CP : Hid (∀ W, Rd W a l → Calls Try.prog 66 #[.agg #[.int .i64 n, .slice (some a) len cap]] W (fun e w' => ∃ g c, e = .returned (.agg #[.int .i64 n, .slice (some ⟨g, 0, none⟩) len c]) ∧ W.heap.size ≤ g ∧ Own w' g c l ∧ Below W.heap.size W w')) := Lib.hid fun W h => by have := copied_any n l a cap W (by rw [hl]; exact dsq_pos n) (by rw [hl]; have := dsq_le hn; omega) h; rw [← hlen] at this; exact this
  have HR := Lib.hid R0
  have HL := Lib.hid hl
  have HLn := Lib.hid hlen
  have E0 := Lib.hid e0
  rw [← hlen]
  clear hR R0 hl hlen hc e0
  go_enter Try.func29, Try.ntmps29
  go_wp2_with fail
  rw [← hw0]
  clear hw0
  obtain ⟨b0, b1, b2, b3⟩ := bx.facts
  go_wp2_with fail
  refine (CK.out _ HR.out).mono ?_
  rintro e w1 ⟨rfl, hb1⟩
  clear b0 b1 b2 b3
  replace bx := bx.kept hb1
  replace rs := rs.kept hb1
  have HR1 := Lib.hid (HR.out.on hb1)
  have E1 := Lib.hid (below_on E0.out hb1)
  have z1 := hb1.size
  clear hb1 HR E0
  obtain ⟨b0, b1, b2, b3⟩ := bx.facts
  go_wp2_with fail
  refine (CP.out _ HR1.out).mono ?_
  rintro e w2 ⟨g, c, rfl, hg, ho, hb2⟩
  clear b0 b1 b2 b3
  replace bx := bx.kept hb2
  replace rs := rs.kept hb2
  have E2 := Lib.hid (below_on E1.out hb2)
  have z2 := hb2.size
  clear hb2 E1 HR1
  obtain ⟨b0, b1, b2, b3⟩ := bx.facts
  obtain ⟨w3, hw3⟩ : ∃ w3, w3 = (w2.setCell ⟨w.heap.size, 0, none⟩ (.int .i64 n)).setCell ⟨w.heap.size, 1, none⟩ (.slice (some ⟨g, 0, none⟩) len c) := ⟨_, rfl⟩
  have bx3 : Two w3 w.heap.size (.int .i64 n) (.slice (some ⟨g, 0, none⟩) len c) := by rw [hw3]; exact bx.put _ _
  have rs3 : Two w3 (w.heap.size + 1) (.int .i64 0) (.slice none 0 0) := by rw [hw3]; exact rs.aside (by omega) _ _
  have O3 : Own w3 g c l := by rw [hw3]; exact put_far ho (by omega) _ _
  have E3 : Below w.heap.size w w3 := by rw [hw3]; exact (E2.out.setCell (by show w.heap.size ≤ w.heap.size; omega) _).setCell (by show w.heap.size ≤ w.heap.size; omega) _
  have S3 := Lib.hid (show St w3 g c l w3 from ⟨O3, World.grownBy.refl _ _⟩)
  have HE3 := Lib.hid E3
  clear ho O3 E3 E2 rs bx
  go_wp2_with fail
  rw [← hw3]
  clear hw3 b0 b1 b2 b3
  go_loopw [4] (fun s wr => ∃ (t : Nat) (x : List Int), t ≤ n ∧ s = .int .i64 ((t : Int) + 1) ∧ x.length = len ∧ Hid (x = (List.range t).foldl (dnS n) l) ∧ Hid (St w3 g c x wr)) (fun s _ => n + 1 - (intOf s).toNat)
  case atStart => exact ⟨0, l, by omega, rfl, HLn.out.symm, Lib.hid rfl, S3⟩
  case round =>
    obtain ⟨t, x, ht, rfl, hx, HX, HT⟩ := hrel
    have bx4 := bx3.grown HT.out.2 (by omega)
    obtain ⟨b0, b1, b2, b3⟩ := bx4.facts
    by_cases htn : t + 1 ≤ n
    · have lx : x.length = (n + 1) * (n + 1) := by rw [hx, HLn.out, HL.out]
      have SE : Hid (∀ w' : World, St w3 g c x w' → Calls Try.prog 79 #[.agg #[.int .i64 n, .slice (some ⟨g, 0, none⟩) len c], .int .i64 0, .int .i64 ((t : Int) + 1), .int .i64 1] w' (fun e w' => e = .returned (.tuple #[]) ∧ St w3 g c (dnS n x t) w')) :=
        Lib.hid fun w' h => by have := set_st (i := 0) (j := t + 1) 1 hn (by omega) htn lx h; rw [hx] at this; exact this
      go_wp2_with fail
      refine (SE.out _ HT.out).mono ?_
      rintro e w4 ⟨rfl, s4⟩
      have S4 := Lib.hid s4
      clear s4
      go_wp2_with fail
      go_roundw
      case rel => exact ⟨t + 1, _, htn, by go_num, by simpa [dnS] using hx, Lib.hid (by rw [Zo.fold_succ, ← HX.out]), S4⟩
      case measure => simp [intOf]; omega
    · have HX2 := Lib.hid (show x = dnL n l by rw [HX.out, show t = n by omega]; rfl)
      have lx : x.length = (n + 1) * (n + 1) := by rw [hx, HLn.out, HL.out]
      by_cases hE : cloE n x = 0
      · have CL : Hid (∀ W, Own W g c x → Calls Try.prog 65 #[.agg #[.int .i64 n, .slice (some ⟨g, 0, none⟩) len c]] W (fun e w' => e = .returned (.tuple #[.agg #[.int .i64 n, .slice (some ⟨g, 0, none⟩) len c], .int .i64 0]) ∧ Own w' g c (Zo.clo n x) ∧ W.grownBy w' (some g))) := Lib.hid fun W h => by have := closed_ok W hn lx h hE; rw [hx] at this; exact this
        have HEE := Lib.hid hE
        clear hE
        go_wp2_with fail
        refine (CL.out _ HT.out.1).mono ?_
        rintro e w5 ⟨rfl, ho5, hg5⟩
        have rs5 := (rs3.grown HT.out.2 (by omega)).grown hg5 (by omega)
        obtain ⟨q0, q1, q2, q3⟩ := rs5.facts
        have E5 := Lib.hid (grown_over (grown_over HE3.out HT.out.2 (by omega)) hg5 (by omega))
        have HO5 := Lib.hid ho5
        clear ho5 hg5
        go_wp2_with fail
        refine bodyPost_ret (v := .tuple #[.agg #[.int .i64 n, .slice (some ⟨g, 0, none⟩) len c], .int .i64 0]) (by simp [results, Try.results29, go_sem, q0, q1]) rfl ⟨(E5.out.setCell (by show w.heap.size ≤ w.heap.size + 1; omega) _).setCell (by show w.heap.size ≤ w.heap.size + 1; omega) _, Or.inl ⟨by rw [← HX2.out]; exact HEE.out, g, c, ?_, by omega, ?_⟩⟩
        · rw [Zo.clo_length, dnL_len, ← HLn.out]
        · rw [← HX2.out]; exact put_far HO5.out (by omega) _ _
      · have CL : Hid (∀ W, Own W g c x → Calls Try.prog 65 #[.agg #[.int .i64 n, .slice (some ⟨g, 0, none⟩) len c]] W (fun e w' => e = .returned (.tuple #[.agg #[.int .i64 0, .slice none 0 0], .int .i64 (cloE n x)]) ∧ Own w' g c (Zo.clo n x) ∧ W.grownBy w' (some g))) := Lib.hid fun W h => by have := closed_no W hn lx h hE; rw [hx] at this; exact this
        have HEE := Lib.hid hE
        clear hE
        go_wp2_with fail
        refine (CL.out _ HT.out.1).mono ?_
        rintro e w5 ⟨rfl, ho5, hg5⟩
        have rs5 := (rs3.grown HT.out.2 (by omega)).grown hg5 (by omega)
        obtain ⟨q0, q1, q2, q3⟩ := rs5.facts
        have E5 := Lib.hid (grown_over (grown_over HE3.out HT.out.2 (by omega)) hg5 (by omega))
        clear ho5 hg5
        go_wp2_with fail
        refine bodyPost_ret (v := .tuple #[.agg #[.int .i64 0, .slice none 0 0], .int .i64 (cloE n x)]) (by simp [results, Try.results29, go_sem, q0, q1]) rfl ⟨(E5.out.setCell (by show w.heap.size ≤ w.heap.size + 1; omega) _).setCell (by show w.heap.size ≤ w.heap.size + 1; omega) _, Or.inr ⟨by rw [← HX2.out]; exact HEE.out, ?_⟩⟩
        rw [HX2.out]
end Go.Proofs.Ytbnebinpemejlaa

namespace Go.Proofs.Ytbnebinpemejlaa
open Go.RowKit

/-- A slice that came in: what it holds can be read. -/
def Arg (w : World) (ao : Option Addr) (l : List Int) : Prop := l ≠ [] → ∃ a, ao = some a ∧ Rd w a l

theorem Arg.on {w w' : World} {ao : Option Addr} {l : List Int} (h : Arg w ao l) (hb : Below w.heap.size w w') : Arg w' ao l := fun hl => by
  obtain ⟨a, h1, h2⟩ := h hl
  exact ⟨a, h1, h2.on hb⟩

theorem dim_nat {N : Int} (h : dimB N = true) : ∃ n : Nat, N = n ∧ n ≤ 10 := by
  unfold dimB at h; simp at h
  exact ⟨N.toNat, by omega, by omega⟩

/-- What a zone is that passes Check. -/
theorem chk_ok {N : Int} {l : List Int} (h : chkE N l = 0) : ∃ n : Nat, N = n ∧ n ≤ 10 ∧ l.length = (n + 1) * (n + 1) ∧ l ≠ [] := by
  unfold chkE at h
  split at h
  · rename_i c
    unfold chkB at c
    simp only [Bool.and_eq_true, decide_eq_true_eq] at c
    obtain ⟨n, rfl, hn⟩ := dim_nat c.1.1.1
    have hl := c.1.1.2
    simp at hl
    refine ⟨n, rfl, hn, hl, fun e => ?_⟩
    have := dsq_pos n
    rw [e] at hl; simp at hl
  · omega

theorem chk_two {N : Int} {l : List Int} (h : chkE N l ≠ 0) : chkE N l = 2 := by
  unfold chkE at h ⊢; split <;> simp_all

theorem check_gen (N : Int) (l : List Int) (ao : Option Addr) (cap : Nat) (w : World) (hA : Arg w ao l) :
    Calls Try.prog 18 #[.agg #[.int .i64 N, .slice ao l.length cap]] w (Made (.int .i64 (chkE N l)) w) := by
  cases hd : dimB N
  · exact check_bad1 N l ao cap w hd
  · obtain ⟨n, rfl, hn⟩ := dim_nat hd
    by_cases hl : l.length = (n + 1) * (n + 1)
    · obtain ⟨a, rfl, hR⟩ := hA (fun e => by have := dsq_pos n; rw [e] at hl; simp at hl)
      exact check_any n l a cap w hn hl hR
    · exact check_bad2 n l ao cap w hn hl

theorem check_as {N : Int} {l : List Int} {ao : Option Addr} {cap : Nat} {e : Int} (w : World) (hA : Arg w ao l) (h : chkE N l = e) :
    Calls Try.prog 18 #[.agg #[.int .i64 N, .slice ao l.length cap]] w (Made (.int .i64 e) w) := by rw [← h]; exact check_gen N l ao cap w hA

theorem zres_bad {w w' : World} {N : Int} {l : List Int} (hb : Below w.heap.size w w') : ZRes w N l 2 (.returned (.tuple #[.agg #[.int .i64 0, .slice none 0 0], .int .i64 2])) w' := ⟨hb, Or.inr ⟨by decide, rfl⟩⟩

theorem ZRes.bad {w w' : World} {N : Int} {l l' : List Int} {er : Int} {N' : Int} {e : Ending} (h : ZRes w N l 2 e w') (he : er = 2) : ZRes w N' l' er e w' := by
  subst he
  refine ⟨h.1, ?_⟩
  rcases h.2 with ⟨c, _⟩ | c
  · omega
  · exact Or.inr c

set_option maxHeartbeats 400000 in
theorem up_bad (N : Int) (l : List Int) (ao : Option Addr) (cap : Nat) (w : World) (hA : Arg w ao l) (hc : chkE N l = 2) :
    Calls Try.prog 27 #[.agg #[.int .i64 N, .slice ao l.length cap]] w (ZRes w 0 [] 2) := by
  have CK := Lib.hid fun W (h : Below w.heap.size w W) => check_as (cap := cap) W (hA.on h) hc
  generalize l.length = len at *
  obtain ⟨w0, hw0⟩ : ∃ w0, w0 = (w.alloc (.cells #[.int .i64 N, .slice ao len cap] 25)).alloc (.cells #[.int .i64 0, .slice none 0 0] 25) := ⟨_, rfl⟩
  have bx : Two w0 w.heap.size (.int .i64 N) (.slice ao len cap) := by rw [hw0]; exact (Two.made _ _ _ _).alloc _
  have rs : Two w0 (w.heap.size + 1) (.int .i64 0) (.slice none 0 0) := by
    rw [hw0]
    have := Two.made (w.alloc (.cells #[.int .i64 N, .slice ao len cap] 25)) (.int .i64 0) (.slice none 0 0) 25
    simpa using this
  have e0 : Below w.heap.size w w0 := by rw [hw0]; exact past_two (Below.refl _ _)
  have E0 := Lib.hid e0
  clear e0 hA hc
  go_enter Try.func27, Try.ntmps27
  go_wp2_with fail
  rw [← hw0]
  clear hw0
  obtain ⟨b0, b1, b2, b3⟩ := bx.facts
  go_wp2_with fail
  refine (CK.out _ E0.out).mono ?_
  rintro e w1 ⟨rfl, hb1⟩
  clear b0 b1 b2 b3
  replace rs := rs.kept hb1
  replace E0 := Lib.hid (below_on E0.out hb1)
  clear hb1 bx
  obtain ⟨b0, b1, b2, b3⟩ := rs.facts
  go_wp2_with fail
  refine bodyPost_ret (v := .tuple #[.agg #[.int .i64 0, .slice none 0 0], .int .i64 2]) (by simp [results, Try.results27, go_sem, b0, b1]) rfl (zres_bad ?_)
  exact (E0.out.setCell (by show w.heap.size ≤ w.heap.size + 1; omega) _).setCell (by show w.heap.size ≤ w.heap.size + 1; omega) _

def upE (N : Int) (l : List Int) : Int := if chkE N l = 0 then cloE N.toNat (upL N.toNat l) else 2

theorem up_gen (N : Int) (l : List Int) (ao : Option Addr) (cap : Nat) (w : World) (hA : Arg w ao l) :
    Calls Try.prog 27 #[.agg #[.int .i64 N, .slice ao l.length cap]] w (ZRes w N (Zo.clo N.toNat (upL N.toNat l)) (upE N l)) := by
  by_cases hc : chkE N l = 0
  · obtain ⟨n, rfl, hn, hl, hne⟩ := chk_ok hc
    obtain ⟨a, rfl, hR⟩ := hA hne
    have := up_any n l a cap w hn hl hR hc
    rw [show upE (n : Int) l = cloE n (upL n l) by unfold upE; rw [if_pos hc]; rfl]
    exact this
  · exact (up_bad N l ao cap w hA (chk_two hc)).mono fun e w' h => h.bad (by unfold upE; rw [if_neg hc])

set_option maxHeartbeats 400000 in
theorem dn_bad (N : Int) (l : List Int) (ao : Option Addr) (cap : Nat) (w : World) (hA : Arg w ao l) (hc : chkE N l = 2) :
    Calls Try.prog 29 #[.agg #[.int .i64 N, .slice ao l.length cap]] w (ZRes w 0 [] 2) := by
  have CK := Lib.hid fun W (h : Below w.heap.size w W) => check_as (cap := cap) W (hA.on h) hc
  generalize l.length = len at *
  obtain ⟨w0, hw0⟩ : ∃ w0, w0 = (w.alloc (.cells #[.int .i64 N, .slice ao len cap] 25)).alloc (.cells #[.int .i64 0, .slice none 0 0] 25) := ⟨_, rfl⟩
  have bx : Two w0 w.heap.size (.int .i64 N) (.slice ao len cap) := by rw [hw0]; exact (Two.made _ _ _ _).alloc _
  have rs : Two w0 (w.heap.size + 1) (.int .i64 0) (.slice none 0 0) := by
    rw [hw0]
    have := Two.made (w.alloc (.cells #[.int .i64 N, .slice ao len cap] 25)) (.int .i64 0) (.slice none 0 0) 25
    simpa using this
  have e0 : Below w.heap.size w w0 := by rw [hw0]; exact past_two (Below.refl _ _)
  have E0 := Lib.hid e0
  clear e0 hA hc
  go_enter Try.func29, Try.ntmps29
  go_wp2_with fail
  rw [← hw0]
  clear hw0
  obtain ⟨b0, b1, b2, b3⟩ := bx.facts
  go_wp2_with fail
  refine (CK.out _ E0.out).mono ?_
  rintro e w1 ⟨rfl, hb1⟩
  clear b0 b1 b2 b3
  replace rs := rs.kept hb1
  replace E0 := Lib.hid (below_on E0.out hb1)
  clear hb1 bx
  obtain ⟨b0, b1, b2, b3⟩ := rs.facts
  go_wp2_with fail
  refine bodyPost_ret (v := .tuple #[.agg #[.int .i64 0, .slice none 0 0], .int .i64 2]) (by simp [results, Try.results29, go_sem, b0, b1]) rfl (zres_bad ?_)
  exact (E0.out.setCell (by show w.heap.size ≤ w.heap.size + 1; omega) _).setCell (by show w.heap.size ≤ w.heap.size + 1; omega) _

def dnE (N : Int) (l : List Int) : Int := if chkE N l = 0 then cloE N.toNat (dnL N.toNat l) else 2

theorem dn_gen (N : Int) (l : List Int) (ao : Option Addr) (cap : Nat) (w : World) (hA : Arg w ao l) :
    Calls Try.prog 29 #[.agg #[.int .i64 N, .slice ao l.length cap]] w (ZRes w N (Zo.clo N.toNat (dnL N.toNat l)) (dnE N l)) := by
  by_cases hc : chkE N l = 0
  · obtain ⟨n, rfl, hn, hl, hne⟩ := chk_ok hc
    obtain ⟨a, rfl, hR⟩ := hA hne
    have := dn_any n l a cap w hn hl hR hc
    rw [show dnE (n : Int) l = cloE n (dnL n l) by unfold dnE; rw [if_pos hc]; rfl]
    exact this
  · exact (dn_bad N l ao cap w hA (chk_two hc)).mono fun e w' h => h.bad (by unfold dnE; rw [if_neg hc])

set_option maxHeartbeats 400000 in
theorem fr_bad (N : Int) (l : List Int) (ao : Option Addr) (cap : Nat) (i : Int) (w : World) (hA : Arg w ao l) (hc : chkE N l = 2) :
    Calls Try.prog 33 #[.agg #[.int .i64 N, .slice ao l.length cap], .int .i64 i] w (ZRes w 0 [] 2) := by
  have CK := Lib.hid fun W (h : Below w.heap.size w W) => check_as (cap := cap) W (hA.on h) hc
  generalize l.length = len at *
  obtain ⟨w0, hw0⟩ : ∃ w0, w0 = (w.alloc (.cells #[.int .i64 N, .slice ao len cap] 25)).alloc (.cells #[.int .i64 0, .slice none 0 0] 25) := ⟨_, rfl⟩
  have bx : Two w0 w.heap.size (.int .i64 N) (.slice ao len cap) := by rw [hw0]; exact (Two.made _ _ _ _).alloc _
  have rs : Two w0 (w.heap.size + 1) (.int .i64 0) (.slice none 0 0) := by
    rw [hw0]
    have := Two.made (w.alloc (.cells #[.int .i64 N, .slice ao len cap] 25)) (.int .i64 0) (.slice none 0 0) 25
    simpa using this
  have e0 : Below w.heap.size w w0 := by rw [hw0]; exact past_two (Below.refl _ _)
  have E0 := Lib.hid e0
  clear e0 hA hc
  go_enter Try.func33, Try.ntmps33
  go_wp2_with fail
  rw [← hw0]
  clear hw0
  obtain ⟨b0, b1, b2, b3⟩ := bx.facts
  go_wp2_with fail
  refine (CK.out _ E0.out).mono ?_
  rintro e w1 ⟨rfl, hb1⟩
  clear b0 b1 b2 b3
  replace rs := rs.kept hb1
  replace E0 := Lib.hid (below_on E0.out hb1)
  clear hb1 bx
  obtain ⟨b0, b1, b2, b3⟩ := rs.facts
  go_wp2_with fail
  refine bodyPost_ret (v := .tuple #[.agg #[.int .i64 0, .slice none 0 0], .int .i64 2]) (by simp [results, Try.results33, go_sem, b0, b1]) rfl (zres_bad ?_)
  exact (E0.out.setCell (by show w.heap.size ≤ w.heap.size + 1; omega) _).setCell (by show w.heap.size ≤ w.heap.size + 1; omega) _
end Go.Proofs.Ytbnebinpemejlaa

namespace Go.Proofs.Ytbnebinpemejlaa
open Go.RowKit

theorem run_nil_cmp (w : World) (a : Option Addr) (n c : Nat) : (binOp .eql 22 (.slice a n c) (.slice none 0 0)).run Try.prog w = .ok (.bool a.isNone) w := Lib.run_eql_slice_nil w _ _ a n c 0 0 Try.underlying22

set_option maxRecDepth 100000 in
set_option maxHeartbeats 2000000 in
theorem clone_any (l : List Int) (b off : Nat) (cap : Nat) (w : World) (h0 : 0 < l.length) (h1 : l.length ≤ 1000) (hR : Rd w ⟨b, off, none⟩ l) :
    Calls Try.prog 117 #[.slice (some ⟨b, off, none⟩) l.length cap] w
      (fun e w' => ∃ g c, e = .returned (.slice (some ⟨g, 0, none⟩) l.length c) ∧ w.heap.size ≤ g ∧ Own w' g c l ∧ Below w.heap.size w w') := by
  obtain ⟨i0, hi, hz0, hz1, hz2⟩ := info_parts Try.info43
  have q := run_nil_cmp
  have A := Lib.hid (show ∀ (w' : World), Below w.heap.size w w' → ∀ j u, (l.map (Value.int .i64))[j]? = some u → w'.cell? ((⟨b, off, none⟩ : Addr).add j) = some u from fun w' h => (hR.on h).map)
  have l1 : (l.map (Value.int .i64)).length = l.length * 1 := by simp
  have o1 : ∀ u ∈ l.map (Value.int .i64), u.oneCell' = true := by simp [Value.oneCell']
  generalize hxs : l.map (Value.int .i64) = xs at *
  have HXS := Lib.hid hxs
  clear hxs hR
  generalize hlen : l.length = len at *
  have HLEN := Lib.hid hlen
  clear hlen
  go_enter Try.func117, Try.ntmps117
  go_wp2_with (at_builtin; refine wpList_append_own _ rfl _ _ 22 rfl w.heap.size 43 i0 (.int .i64 0) 1 8 Try.underlying22 hi hz0 hz1 hz2 rfl (by decide) _ _ _ rfl (World.ownsRow_made w #[] 0 (Nat.le_refl _) (Nat.zero_le _) (by simp)) ⟨b, off, none⟩ len cap xs rfl ?qc1 ?qc2 ?qc3 ?qc4 ?qc5 ?qc6 ?_)
  case qc1 => exact l1
  case qc2 =>
    intro j u hj
    exact A.out _ (one_more (.cells #[] 43)) j u hj
  case qc3 => exact o1
  case qc4 => unfold maxLen; omega
  case qc5 => omega
  case qc6 => simp
  intro v' w1 hown hgrow hnil
  have hown' : w1.ownsRow w.heap.size 43 1 v' len xs := by simpa using hown
  obtain ⟨g, c, rfl⟩ := Joins.ownsRow_form hown' (by omega)
  go_wp2
  go_ret
  obtain ⟨ho, hg⟩ := own_of hown' HXS.out.symm HLEN.out.symm
  exact ⟨g, c, rfl, hg, ho, ((Below.refl _ w).alloc (Nat.le_refl _) _).grown hgrow (by simp) (by intro k hk; simp [Value.ownBlock] at hk; omega)⟩

/-- The first elements of a matrix, as a slice. -/
theorem run_head (b : Nat) (y : Int) (k : Nat) (hy : y = (k : Int)) (hm : k ≤ 121) (w : World) :
    (Instr.sliceAt 78 (.pointer (some ⟨b, 1, none⟩)) none (some (.int .i64 y)) none).run Try.prog w = .ok (.slice (some ⟨b, 1, none⟩) k 121) w := by
  subst hy
  have ha : Try.prog.arrayLen 78 = 121 := by simp [Program.arrayLen]
  have he : Try.prog.elem 78 = 43 := by simp [Program.elem]
  rw [run_sliceAt_array_h w 78 ⟨b, 1, none⟩ (by rw [ha, he]; exact cells_ty) .i64 k (by omega) (by rw [ha]; omega)]
  rw [he, limit_size]
  simp only [Result.andThen_ok, slicedAt, Int.toNat_natCast, ha]
  rw [if_neg (by omega), Addr.add_mid]
  rfl

/-- What the method zone leaves: with no error a new row, else the zero zone; of what was there only block b has turned. -/
def GRes (b : Nat) (w : World) (N : Int) (l : List Int) (er : Int) (e : Ending) (w' : World) : Prop :=
  w.grownBy w' (some b) ∧ ((er = 0 ∧ ∃ g c, e = .returned (.tuple #[.agg #[.int .i64 N, .slice (some ⟨g, 0, none⟩) l.length c], .int .i64 0]) ∧ w.heap.size ≤ g ∧ Own w' g c l) ∨
    (er ≠ 0 ∧ e = .returned (.tuple #[.agg #[.int .i64 0, .slice none 0 0], .int .i64 er])))

theorem GRes.below {b : Nat} {w0 w : World} {N : Int} {l : List Int} {er : Int} {e : Ending} {w' : World} (h : GRes b w N l er e w') (hb : Below w0.heap.size w0 w) (hle : w0.heap.size ≤ b) : ZRes w0 N l er e w' := by
  obtain ⟨hg, h⟩ := h
  refine ⟨grown_over hb hg hle, ?_⟩
  rcases h with ⟨h0, g, c, h1, h2, h3⟩ | h
  · exact Or.inl ⟨h0, g, c, h1, Nat.le_trans hb.size h2, h3⟩
  · exact Or.inr h

theorem grown_two {w w' : World} {b x : Nat} (h : w.grownBy w' (some b)) (hx : w.heap.size ≤ x) (u v : Value) : w.grownBy ((w'.setCell ⟨x, 0, none⟩ u).setCell ⟨x, 1, none⟩ v) (some b) := by
  have e1 : w'.grownBy (w'.setCell ⟨x, 0, none⟩ u) (some x) := grown_put _ _ _ _
  have e2 : (w'.setCell ⟨x, 0, none⟩ u).grownBy ((w'.setCell ⟨x, 0, none⟩ u).setCell ⟨x, 1, none⟩ v) (some x) := grown_put _ _ _ _
  have e3 := grown_trans e1 e2
  exact ⟨e3.os.trans h.os, e3.tape.trans h.tape, e3.output.trans h.output, Nat.le_trans h.size e3.size, fun k hk hne => (e3.block k (Nat.lt_of_lt_of_le hk h.size) (by simp; omega)).trans (h.block k hk hne)⟩

theorem Mx.rd {w : World} {b n : Nat} {l : List Int} (h : Mx w b n l) : Rd w ⟨b, 1, none⟩ l := fun j hj => by rw [Addr.add_mid]; exact h.at hj

theorem grown_of_below {w w' : World} {r : Option Nat} (h : Below w.heap.size w w') : w.grownBy w' r := ⟨h.os, h.tape, h.output, h.size, fun k hk _ => h.block k hk⟩

theorem aside_two {w : World} {p : Addr} {x : Value} (h : w.cell? p = some x) {y : Nat} (hne : p.block ≠ y) (u v : Value) : ((w.setCell ⟨y, 0, none⟩ u).setCell ⟨y, 1, none⟩ v).cell? p = some x := by
  rw [World.cell?_setCell_other _ _ _ _ (fun e => hne (congrArg Addr.block e).symm), World.cell?_setCell_other _ _ _ _ (fun e => hne (congrArg Addr.block e).symm)]
  exact h

set_option maxRecDepth 100000 in
set_option maxHeartbeats 4000000 in
theorem mzone_any (b n : Nat) (l : List Int) (w : World) (hn : n ≤ 10) (h : Mx w b n l) (h64 : Zo.A64 l) :
    Calls Try.prog 62 #[.pointer (some ⟨b, 0, none⟩)] w (GRes b w n (Zo.clo n l) (cloE n l)) := by
  have hl := h.2
  have hb := h.lt
  obtain ⟨w0, hw0⟩ : ∃ w0, w0 = w.alloc (.cells #[.int .i64 0, .slice none 0 0] 25) := ⟨_, rfl⟩
  have M0 : Mx w0 b n l := by rw [hw0]; exact h.alloc _
  have rs : Two w0 w.heap.size (.int .i64 0) (.slice none 0 0) := by rw [hw0]; exact Two.made _ _ _ _
  have g0 : w.grownBy w0 (some b) := by rw [hw0]; exact World.grownBy_alloc _ _ _
  have z0 : w0.heap.size = w.heap.size + 1 := by rw [hw0]; simp
  have SH := Lib.hid (shorten_any b n l w0 hn M0 h64)
  have GB := Lib.hid g0
  have RS := Lib.hid rs
  clear h h64 M0 g0 rs
  go_enter Try.func62, Try.ntmps62
  go_wp2_with fail
  rw [← hw0]
  clear hw0
  go_wp2_with fail
  cases hB : cloB n l
  · have S0 := SH.out
    rw [hB] at S0
    refine S0.mono ?_
    rintro e w1 ⟨rfl, l', hM, hc⟩
    obtain rfl := hc rfl
    have hcl : (Zo.clo n l).length = (n + 1) * (n + 1) := by rw [Zo.clo_length, hl]
    have HCE := Lib.hid (show cloE n l = if (Zo.clo n l).all lvB then 0 else 7 by unfold cloE; rw [hB]; rfl)
    have c0 := hM.1.dim
    have KD := Lib.hid (show ∀ (w' : World), MSt w0 b n (Zo.clo n l) w' → w'.cell? ⟨b, 0, none⟩ = some (.int .i64 n) from fun w' h => h.1.dim)
    generalize hcc : Zo.clo n l = c at *
    have HM := Lib.hid hM
    have HL := Lib.hid hcl
    have HB := Lib.hid hB
    have HC := Lib.hid hcc
    clear hM S0 hB hcc SH
    have d2 := dsq_le hn
    have d1 := dsq_pos n
    have hr := run_head b ((((n + 1) * (n + 1) : Nat)) : Int) ((n + 1) * (n + 1)) rfl (dsq_le hn)
    have HP := Lib.hid (fun W => places_any n W hn)
    generalize hsz : (n + 1) * (n + 1) = sz at *
    have HSZ := Lib.hid hsz
    clear hsz hcl hl
    go_wp2_with fail
    refine wp_region_still_lit (by kernel_rfl) (by kernel_rfl) ?_
    repeat still_step
    still_call (HP.out _)
    repeat still_step
    refine wpStill_nil ?_
    clear c0 hr
    have HD := Lib.hid HM.out.drew
    change Exit.then _ _ _ _ (World.drew _)
    generalize w1.drew = w2 at *
    clear HM
    go_wp2_with fail
    go_loopw [22] (fun s wr => ∃ t : Nat, t ≤ sz ∧ s = .int .i64 t ∧ Hid (∀ i, i < t → lvB (Zo.gt c i) = true) ∧ Hid (MSt w0 b n c wr)) (fun s _ => sz - (intOf s).toNat)
    case atStart => exact ⟨0, by omega, rfl, Lib.hid (fun i hi => by omega), HD⟩
    case round =>
      clear HD
      obtain ⟨t, ht, rfl, HV, HT⟩ := hrel
      by_cases htn : t < sz
      · obtain ⟨v, hv⟩ : ∃ v, v = Zo.gt c t := ⟨_, rfl⟩
        have c1 : wr.cell? ⟨b, 1 + t, none⟩ = some (.int .i64 v) := by rw [hv]; exact HT.out.1.at (by rw [HL.out]; exact htn)
        have HVV := Lib.hid hv
        clear hv
        have PV := fun W => limValid_free v W
        cases lv : lvB v
        · rw [lv] at PV
          have HE := Lib.hid (show cloE n l = 7 by
            rw [HCE.out, if_neg]
            rw [List.all_eq_true]
            intro hall
            have := hall (c[t]'(by rw [HL.out]; exact htn)) (List.getElem_mem _)
            rw [show c[t]'(by rw [HL.out]; exact htn) = v by rw [HVV.out]; simp [Zo.gt, show t < c.length by rw [HL.out]; exact htn], lv] at this
            cases this)
          have PW := Lib.hid PV
          have rs1 := RS.out.grown HT.out.2 (by omega)
          obtain ⟨q0, q1, q2, q3⟩ := rs1.facts
          have HG := Lib.hid (grown_trans GB.out HT.out.2)
          clear PV
          go_wp2_with fail
          refine (PW.out _).mono ?_
          rintro e w3 ⟨rfl, rfl⟩
          go_wp2_with fail
          refine bodyPost_ret (v := .tuple #[.agg #[.int .i64 0, .slice none 0 0], .int .i64 7]) (by simp [results, Try.results62, go_sem, q0, q1]) rfl ⟨grown_two HG.out (Nat.le_refl _) _ _, Or.inr ⟨by rw [HE.out]; decide, by rw [HE.out]⟩⟩
        · rw [lv] at PV
          have PW := Lib.hid PV
          have HLV := Lib.hid lv
          clear PV lv
          go_wp2_with fail
          refine (PW.out _).mono ?_
          rintro e w3 ⟨rfl, rfl⟩
          clear c1
          go_wp2_with fail
          go_roundw
          case rel =>
            refine ⟨t + 1, by omega, by go_num, Lib.hid (fun i hi => ?_), HT⟩
            by_cases e : i = t
            · rw [e, ← HVV.out]; exact HLV.out
            · exact HV.out i (by omega)
          case measure => simp [intOf]; omega
      · have HE := Lib.hid (show cloE n l = 0 by
          rw [HCE.out, if_pos]
          rw [List.all_eq_true]
          intro x hx
          obtain ⟨i, hi, rfl⟩ := List.getElem_of_mem hx
          have := HV.out i (by have := HL.out; omega)
          simpa [Zo.gt, hi] using this)
        have rs1 := RS.out.grown HT.out.2 (by omega)
        have CL := Lib.hid (show ∀ w', MSt w0 b n c w' → Calls Try.prog 117 #[.slice (some ⟨b, 1, none⟩) sz 121] w' (fun e w'' => ∃ g cc, e = .returned (.slice (some ⟨g, 0, none⟩) sz cc) ∧ w'.heap.size ≤ g ∧ Own w'' g cc c ∧ Below w'.heap.size w' w'') from fun w' h => by
          have := clone_any c b 1 121 w' (by rw [HL.out]; exact d1) (by rw [HL.out]; omega) h.1.rd
          rwa [HL.out] at this)
        go_wp2_with fail
        have HDR := Lib.hid HT.out.drew
        have RSD := Lib.hid (show Two wr.drew w.heap.size (.int .i64 0) (.slice none 0 0) from rs1)
        clear rs1
        have c1 := KD.out _ HDR.out
        go_region_held3 (fun w' => w'.cell? ⟨b, 0, none⟩ = some (.int .i64 n)) (first | exact c1 | exact KD.out _ (by assumption) | exact c3 | exact c4 _ _)
          (first | (go_at_call 117; refine (CL.out _ HDR.out).mono ?_; rintro e w5 ⟨g, cc, rfl, hg, ho, hbe⟩; have c3 : w5.cell? ⟨b, 0, none⟩ = some (.int .i64 n) := kept hbe c1; have c4 : ∀ u v, ((w5.setCell ⟨w.heap.size, 0, none⟩ u).setCell ⟨w.heap.size, 1, none⟩ v).cell? ⟨b, 0, none⟩ = some (.int .i64 n) := (fun u v => aside_two c3 (by show b ≠ w.heap.size; omega) u v); obtain ⟨q0, q1, q2, q3⟩ := (RSD.out.kept hbe).facts))
        go_wp2_with fail
        have HG : w.grownBy w5 (some b) := grown_trans GB.out (grown_trans HDR.out.2 (grown_of_below hbe))
        have hg2 : w0.heap.size ≤ g := Nat.le_trans HDR.out.2.size hg
        refine bodyPost_ret (v := .tuple #[.agg #[.int .i64 n, .slice (some ⟨g, 0, none⟩) sz cc], .int .i64 0]) (by simp [results, Try.results62, go_sem, q0, q1]) rfl ⟨grown_two HG (Nat.le_refl _) _ _, Or.inl ⟨HE.out, g, cc, by rw [← HL.out], by omega, put_far ho (by omega) _ _⟩⟩
  · have S0 := SH.out
    rw [hB] at S0
    refine S0.mono ?_
    rintro e w1 ⟨rfl, l', hM, -⟩
    have HE := Lib.hid (show cloE n l = 4 by unfold cloE; rw [hB]; rfl)
    have rs1 := RS.out.grown hM.2 (by omega)
    obtain ⟨q0, q1, q2, q3⟩ := rs1.facts
    have HG := Lib.hid (grown_trans GB.out hM.2)
    clear hM S0 hB SH
    go_wp2_with fail
    refine bodyPost_ret (v := .tuple #[.agg #[.int .i64 0, .slice none 0 0], .int .i64 4]) (by simp [results, Try.results62, go_sem, q0, q1]) rfl ⟨grown_two HG.out (Nat.le_refl _) _ _, Or.inr ⟨by rw [HE.out]; decide, by rw [HE.out]⟩⟩
end Go.Proofs.Ytbnebinpemejlaa
