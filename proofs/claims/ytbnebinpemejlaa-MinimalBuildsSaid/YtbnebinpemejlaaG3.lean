/- The contract of Check of layer 3's reference.; Contracts of copied of layer 3's reference, and of what is built on it.; The frame of the functions of layer 3's reference that copy a zone, set elements and close it. -/
import Derived.Test.YtbnebinpemejlaaG2
import Derived.Deep.RegionLawGrows
import Derived.Lib.SmallJoins

namespace Go.Proofs.Ytbnebinpemejlaa
open Go.RowKit

theorem Rd.on {w w' : World} {a : Addr} {l : List Int} (h : Rd w a l) (hb : Below w.heap.size w w') : Rd w' a l := fun j hj => kept hb (h j hj)

/-- What Check asks of each element, and of each three. -/
def okI (n : Nat) (l : List Int) (i j : Nat) : Bool := lvB (Zo.At n l i j) && (decide (i ≠ j) || decide (Zo.At n l i j = 1)) && (decide (i ≠ 0) || decide (Zo.At n l i j ≤ 1))

def okT (n : Nat) (l : List Int) (i j k : Nat) : Bool := decide (Zo.At n l i j ≤ Zo.smW (Zo.At n l i k) (Zo.At n l k j))

def chk1 (n : Nat) (l : List Int) : Bool := (List.range (n + 1)).all fun i => (List.range (n + 1)).all fun j => okI n l i j

def chk2 (n : Nat) (l : List Int) : Bool := (List.range (n + 1)).all fun i => (List.range (n + 1)).all fun j => (List.range (n + 1)).all fun k => okT n l i j k

def chkB (N : Int) (l : List Int) : Bool := dimB N && decide (l.length = (N.toNat + 1) * (N.toNat + 1)) && chk1 N.toNat l && chk2 N.toNat l

def chkE (N : Int) (l : List Int) : Int := if chkB N l then 0 else 2

theorem chk1_iff {n : Nat} {l : List Int} : chk1 n l = true ↔ ∀ i, i < n + 1 → ∀ j, j < n + 1 → okI n l i j = true := by simp [chk1]

theorem chk2_iff {n : Nat} {l : List Int} : chk2 n l = true ↔ ∀ i, i < n + 1 → ∀ j, j < n + 1 → ∀ k, k < n + 1 → okT n l i j k = true := by simp [chk2]

theorem chkE_bad1 {N : Int} {l : List Int} (h : dimB N = false) : chkE N l = 2 := by simp [chkE, chkB, h]

theorem chkE_bad2 {N : Int} {l : List Int} (h : l.length ≠ (N.toNat + 1) * (N.toNat + 1)) : chkE N l = 2 := by simp [chkE, chkB, h]

theorem chkE_bad3 {n : Nat} {l : List Int} {i j : Nat} (hi : i < n + 1) (hj : j < n + 1) (h : okI n l i j = false) : chkE (n : Int) l = 2 := by
  have : chk1 n l = false := by
    cases e : chk1 n l
    · rfl
    · have := chk1_iff.1 e i hi j hj
      rw [h] at this; simp at this
  simp [chkE, chkB, this]

theorem chkE_bad4 {n : Nat} {l : List Int} {i j k : Nat} (hi : i < n + 1) (hj : j < n + 1) (hk : k < n + 1) (h : okT n l i j k = false) : chkE (n : Int) l = 2 := by
  have : chk2 n l = false := by
    cases e : chk2 n l
    · rfl
    · have := chk2_iff.1 e i hi j hj k hk
      rw [h] at this; simp at this
  simp [chkE, chkB, this]

theorem chkE_ok {n : Nat} {l : List Int} (hn : n ≤ 10) (hl : l.length = (n + 1) * (n + 1)) (h1 : ∀ i, i < n + 1 → ∀ j, j < n + 1 → okI n l i j = true) (h2 : ∀ i, i < n + 1 → ∀ j, j < n + 1 → ∀ k, k < n + 1 → okT n l i j k = true) : chkE (n : Int) l = 0 := by
  have d : dimB (n : Int) = true := by unfold dimB; simp; omega
  simp [chkE, chkB, d, hl, chk1_iff.2 h1, chk2_iff.2 h2]

/-- A call that reads: at, in a world behind w0. -/
theorem at_b {w0 : World} {a : Addr} {cap n i j : Nat} {l : List Int} {w : World} (hn : n ≤ 10) (hi : i ≤ n) (hj : j ≤ n) (hl : l.length = (n + 1) * (n + 1)) (hR : Rd w0 a l) (h : Below w0.heap.size w0 w) :
    Calls Try.prog 68 #[.agg #[.int .i64 n, .slice (some a) l.length cap], .int .i64 i, .int .i64 j] w
      (fun e w' => e = .returned (.int .i64 (Zo.At n l i j)) ∧ Below w0.heap.size w0 w') := by
  refine (at_any n i j l a cap w hn hi hj hl (hR.on h)).mono ?_
  rintro e w' ⟨rfl, hb⟩
  exact ⟨rfl, below_on h hb⟩

theorem sum_b {w0 w : World} (a b : Int) (h : Below w0.heap.size w0 w) :
    Calls Try.prog 69 #[.int .i64 a, .int .i64 b] w (fun e w' => e = .returned (.int .i64 (Zo.smW a b)) ∧ Below w0.heap.size w0 w') := by
  refine (sum2_any a b w).mono ?_
  rintro e w' ⟨rfl, rfl⟩
  exact ⟨rfl, h⟩

set_option maxHeartbeats 400000 in
theorem check_bad1 (N : Int) (l : List Int) (ao : Option Addr) (cap : Nat) (w : World) (h : dimB N = false) :
    Calls Try.prog 18 #[.agg #[.int .i64 N, .slice ao l.length cap]] w (Made (.int .i64 (chkE N l)) w) := by
  have H := Lib.hid (chkE_bad1 (l := l) h)
  have p := fun W => dimension_any N W
  rw [h] at p
  have PD := Lib.hid p
  clear p h
  go_enter Try.func18, Try.ntmps18
  go_wp2_with fail
  refine (PD.out _).mono ?_
  rintro e w1 ⟨rfl, rfl⟩
  go_wp2_with fail
  go_ret
  exact ⟨ret_int H.out.symm, one_more _⟩

set_option maxHeartbeats 400000 in
theorem check_bad2 (n : Nat) (l : List Int) (ao : Option Addr) (cap : Nat) (w : World) (hn : n ≤ 10) (h : l.length ≠ (n + 1) * (n + 1)) :
    Calls Try.prog 18 #[.agg #[.int .i64 n, .slice ao l.length cap]] w (Made (.int .i64 (chkE n l)) w) := by
  have H := Lib.hid (chkE_bad2 (N := n) (l := l) (by simpa using h))
  have p := fun W => dimension_any n W
  rw [show dimB n = true by unfold dimB; simp; omega] at p
  have PD := Lib.hid p
  have t3 : ((n : Int) + 1) * ((n : Int) + 1) ≤ 121 ∧ 0 ≤ ((n : Int) + 1) * ((n : Int) + 1) := by
    have : (n + 1) * (n + 1) ≤ 11 * 11 := Nat.mul_le_mul (by omega) (by omega)
    constructor
    · exact_mod_cast this
    · exact_mod_cast Nat.zero_le _
  have h2 : ((l.length : Int) != ((n : Int) + 1) * ((n : Int) + 1)) = true := by
    simp; intro e; apply h; exact_mod_cast e
  generalize l.length = len at *
  clear p h
  go_enter Try.func18, Try.ntmps18
  go_wp2_with fail
  refine (PD.out _).mono ?_
  rintro e w1 ⟨rfl, rfl⟩
  go_wp2_with fail
  go_ret
  exact ⟨ret_int H.out.symm, one_more _⟩

set_option maxHeartbeats 4000000 in
theorem check_any (n : Nat) (l : List Int) (a : Addr) (cap : Nat) (w : World) (hn : n ≤ 10) (hl : l.length = (n + 1) * (n + 1)) (hR : Rd w a l) :
    Calls Try.prog 18 #[.agg #[.int .i64 n, .slice (some a) l.length cap]] w (Made (.int .i64 (chkE n l)) w) := by
  obtain ⟨len, hlen⟩ : ∃ len, len = l.length := ⟨_, rfl⟩
  obtain ⟨w0, hw0⟩ : ∃ w0, w0 = w.alloc (.cells #[.int .i64 n, .slice (some a) len cap] 25) := ⟨_, rfl⟩
  have b0 : w0.cell? ⟨w.heap.size, 0, none⟩ = some (.int .i64 n) := by rw [hw0]; go_simp
  have b1 : w0.cell? ⟨w.heap.size, 1, none⟩ = some (.slice (some a) len cap) := by rw [hw0]; go_simp
  have R0 : Rd w0 a l := by rw [hw0]; exact hR.on (one_more _)
  have e0 : Below w.heap.size w w0 := by rw [hw0]; exact one_more _
  have KS := Lib.hid (show ∀ w' : World, Below w0.heap.size w0 w' → w'.cell? ⟨w.heap.size, 0, none⟩ = some (.int .i64 n) ∧ w'.cell? ⟨w.heap.size, 1, none⟩ = some (.slice (some a) len cap) from
    fun w' h => ⟨kept h b0, kept h b1⟩)
  have p := fun W => dimension_any n W
  rw [show dimB n = true by unfold dimB; simp; omega] at p
  have PD := Lib.hid p
  have t3 : ((n : Int) + 1) * ((n : Int) + 1) ≤ 121 ∧ 0 ≤ ((n : Int) + 1) * ((n : Int) + 1) := by
    have : (n + 1) * (n + 1) ≤ 11 * 11 := Nat.mul_le_mul (by omega) (by omega)
    constructor
    · exact_mod_cast this
    · exact_mod_cast Nat.zero_le _
  have h2 : ((len : Int) != ((n : Int) + 1) * ((n : Int) + 1)) = false := by
    rw [hlen, hl]; simp
  have A9 : Hid (∀ x y : Nat, x ≤ n → y ≤ n → ∀ w' : World, Below w0.heap.size w0 w' → Calls Try.prog 68 #[.agg #[.int .i64 n, .slice (some a) len cap], .int .i64 x, .int .i64 y] w' (fun e w' => e = .returned (.int .i64 (Zo.At n l x y)) ∧ Below w0.heap.size w0 w')) :=
    Lib.hid fun x y hx hy w' h => by have := at_b (cap := cap) (i := x) (j := y) hn hx hy hl R0 h; rw [← hlen] at this; exact this
  have M9 := Lib.hid fun (x y : Int) (w' : World) (h : Below w0.heap.size w0 w') => sum_b x y h
  have HL := Lib.hid hl
  have E0 := Lib.hid e0
  rw [← hlen]
  clear p hl hlen R0 hR b0 b1 e0
  go_enter Try.func18, Try.ntmps18
  go_wp2_with fail
  refine (PD.out _).mono ?_
  rintro e w1 ⟨rfl, rfl⟩
  go_wp2_with fail
  rw [← hw0]
  clear t3 h2
  go_loopw [3] (fun s wr => ∃ t : Nat, t ≤ n + 1 ∧ s = .int .i64 t ∧ Hid (∀ i, i < t → ∀ j, j < n + 1 → okI n l i j = true) ∧ Hid (Below w0.heap.size w0 wr)) (fun s _ => n + 1 - (intOf s).toNat)
  case atStart => exact ⟨0, by omega, rfl, Lib.hid (fun i hi => by omega), Lib.hid (Below.refl _ _)⟩
  case round =>
    obtain ⟨i, hi, rfl, HI, HB⟩ := hrel
    obtain ⟨c0, c1⟩ := KS.out _ HB.out
    by_cases hin : i ≤ n
    · go_wp2_with fail
      clear c0 c1
      go_loopw [4] (fun s wr => ∃ t : Nat, t ≤ n + 1 ∧ s = .int .i64 t ∧ Hid (∀ j, j < t → okI n l i j = true) ∧ Hid (Below w0.heap.size w0 wr)) (fun s _ => n + 1 - (intOf s).toNat)
      case atStart => exact ⟨0, by omega, rfl, Lib.hid (fun j hj => by omega), HB⟩
      case round =>
        obtain ⟨j, hj, rfl, HJ, HBj⟩ := hrel
        obtain ⟨c0, c1⟩ := KS.out _ HBj.out
        by_cases hjn : j ≤ n
        · obtain ⟨v, hv⟩ : ∃ v, v = Zo.At n l i j := ⟨_, rfl⟩
          have a9 := A9.out i j hin hjn
          rw [← hv] at a9
          have A8 := Lib.hid a9
          have v9 := fun W => refLimValid_free v W
          have hok : okI n l i j = (lvB v && (decide (i ≠ j) || decide (v = 1)) && (decide (i ≠ 0) || decide (v ≤ 1))) := by rw [hv]; rfl
          clear a9 hv
          cases lv : lvB v
          · rw [lv] at v9
            have V9 := Lib.hid v9
            have HE := Lib.hid (chkE_bad3 (l := l) (n := n) (i := i) (j := j) (by omega) (by omega) (by rw [hok, lv]; simp))
            clear hok v9 lv
            go_wp2_with fail
            refine (A8.out _ HBj.out).mono ?_
            rintro e w2 ⟨rfl, hb⟩
            obtain ⟨c0, c1⟩ := KS.out _ hb
            go_wp2_with fail
            refine (V9.out _).mono ?_
            rintro e w3 ⟨rfl, rfl⟩
            go_wp2_with fail
            go_ret
            exact ⟨ret_int HE.out.symm, below_on E0.out hb⟩
          · by_cases ij : i = j
            · by_cases v1 : v = 1
              · by_cases i0 : i = 0
                · have IJ : ((i : Int) == (j : Int)) = true := by simp; omega
                  have IZ : ((i : Int) == 0) = true := by simp; omega
                  have V1 : (v != 1) = false := by simp; omega
                  have V2 : decide ((1 : Int) < v) = false := by simp; omega
                  rw [lv] at v9
                  have V9 := Lib.hid v9
                  have HE := Lib.hid (show okI n l i j = true by rw [hok, lv]; simp; omega)
                  clear hok v9 lv ij v1 i0
                  go_wp2_with fail
                  refine (A8.out _ HBj.out).mono ?_
                  rintro e w2 ⟨rfl, hb⟩
                  obtain ⟨c0, c1⟩ := KS.out _ hb
                  go_wp2_with fail
                  refine (V9.out _).mono ?_
                  rintro e w3 ⟨rfl, rfl⟩
                  have HB2 := Lib.hid hb
                  clear hb
                  go_wp2_with fail
                  go_roundw
                  case rel =>
                    refine ⟨j + 1, by omega, by go_num, Lib.hid (fun x hx => ?_), HB2⟩
                    by_cases e : x = j
                    · rw [e]; exact HE.out
                    · exact HJ.out x (by omega)
                  case measure => simp [intOf]; omega
                · have IJ : ((i : Int) == (j : Int)) = true := by simp; omega
                  have IZ : ((i : Int) == 0) = false := by simp; omega
                  have V1 : (v != 1) = false := by simp; omega
                  rw [lv] at v9
                  have V9 := Lib.hid v9
                  have HE := Lib.hid (show okI n l i j = true by rw [hok, lv]; simp; omega)
                  clear hok v9 lv ij v1 i0
                  go_wp2_with fail
                  refine (A8.out _ HBj.out).mono ?_
                  rintro e w2 ⟨rfl, hb⟩
                  obtain ⟨c0, c1⟩ := KS.out _ hb
                  go_wp2_with fail
                  refine (V9.out _).mono ?_
                  rintro e w3 ⟨rfl, rfl⟩
                  have HB2 := Lib.hid hb
                  clear hb
                  go_wp2_with fail
                  go_roundw
                  case rel =>
                    refine ⟨j + 1, by omega, by go_num, Lib.hid (fun x hx => ?_), HB2⟩
                    by_cases e : x = j
                    · rw [e]; exact HE.out
                    · exact HJ.out x (by omega)
                  case measure => simp [intOf]; omega
              · have IJ : ((i : Int) == (j : Int)) = true := by simp; omega
                have V1 : (v != 1) = true := by simp; omega
                rw [lv] at v9
                have V9 := Lib.hid v9
                have HE := Lib.hid (chkE_bad3 (l := l) (n := n) (i := i) (j := j) (by omega) (by omega) (by rw [hok, lv]; simp; omega))
                clear hok v9 lv ij v1
                go_wp2_with fail
                refine (A8.out _ HBj.out).mono ?_
                rintro e w2 ⟨rfl, hb⟩
                obtain ⟨c0, c1⟩ := KS.out _ hb
                go_wp2_with fail
                refine (V9.out _).mono ?_
                rintro e w3 ⟨rfl, rfl⟩
                go_wp2_with fail
                go_ret
                exact ⟨ret_int HE.out.symm, below_on E0.out hb⟩
            · by_cases i0 : i = 0
              · by_cases v1 : v ≤ 1
                · have IJ : ((i : Int) == (j : Int)) = false := by simp; omega
                  have IZ : ((i : Int) == 0) = true := by simp; omega
                  have V2 : decide ((1 : Int) < v) = false := by simp; omega
                  rw [lv] at v9
                  have V9 := Lib.hid v9
                  have HE := Lib.hid (show okI n l i j = true by rw [hok, lv]; simp; omega)
                  clear hok v9 lv ij v1 i0
                  go_wp2_with fail
                  refine (A8.out _ HBj.out).mono ?_
                  rintro e w2 ⟨rfl, hb⟩
                  obtain ⟨c0, c1⟩ := KS.out _ hb
                  go_wp2_with fail
                  refine (V9.out _).mono ?_
                  rintro e w3 ⟨rfl, rfl⟩
                  have HB2 := Lib.hid hb
                  clear hb
                  go_wp2_with fail
                  go_roundw
                  case rel =>
                    refine ⟨j + 1, by omega, by go_num, Lib.hid (fun x hx => ?_), HB2⟩
                    by_cases e : x = j
                    · rw [e]; exact HE.out
                    · exact HJ.out x (by omega)
                  case measure => simp [intOf]; omega
                · have IJ : ((i : Int) == (j : Int)) = false := by simp; omega
                  have IZ : ((i : Int) == 0) = true := by simp; omega
                  have V2 : decide ((1 : Int) < v) = true := by simp; omega
                  rw [lv] at v9
                  have V9 := Lib.hid v9
                  have HE := Lib.hid (chkE_bad3 (l := l) (n := n) (i := i) (j := j) (by omega) (by omega) (by rw [hok, lv]; simp; omega))
                  clear hok v9 lv ij v1 i0
                  go_wp2_with fail
                  refine (A8.out _ HBj.out).mono ?_
                  rintro e w2 ⟨rfl, hb⟩
                  obtain ⟨c0, c1⟩ := KS.out _ hb
                  go_wp2_with fail
                  refine (V9.out _).mono ?_
                  rintro e w3 ⟨rfl, rfl⟩
                  go_wp2_with fail
                  go_ret
                  exact ⟨ret_int HE.out.symm, below_on E0.out hb⟩
              · have IJ : ((i : Int) == (j : Int)) = false := by simp; omega
                have IZ : ((i : Int) == 0) = false := by simp; omega
                rw [lv] at v9
                have V9 := Lib.hid v9
                have HE := Lib.hid (show okI n l i j = true by rw [hok, lv]; simp; omega)
                clear hok v9 lv ij i0
                go_wp2_with fail
                refine (A8.out _ HBj.out).mono ?_
                rintro e w2 ⟨rfl, hb⟩
                obtain ⟨c0, c1⟩ := KS.out _ hb
                go_wp2_with fail
                refine (V9.out _).mono ?_
                rintro e w3 ⟨rfl, rfl⟩
                have HB2 := Lib.hid hb
                clear hb
                go_wp2_with fail
                go_roundw
                case rel =>
                  refine ⟨j + 1, by omega, by go_num, Lib.hid (fun x hx => ?_), HB2⟩
                  by_cases e : x = j
                  · rw [e]; exact HE.out
                  · exact HJ.out x (by omega)
                case measure => simp [intOf]; omega
        · have HI2 := Lib.hid (show ∀ x, x < i + 1 → ∀ j, j < n + 1 → okI n l x j = true from fun x hx y hy => by
            by_cases e : x = i
            · rw [e]; exact HJ.out y (by omega)
            · exact HI.out x (by omega) y hy)
          go_wp2_with fail
          go_roundw
          case rel => exact ⟨i + 1, by omega, by go_num, HI2, HBj⟩
          case measure => simp [intOf]; omega
    · have HI2 := Lib.hid (show ∀ x, x < n + 1 → ∀ j, j < n + 1 → okI n l x j = true from fun x hx y hy => HI.out x (by omega) y hy)
      go_wp2_with fail
      clear c0 c1
      go_loopw [6] (fun s wr => ∃ t : Nat, t ≤ n + 1 ∧ s = .int .i64 t ∧ Hid (∀ i, i < t → ∀ j, j < n + 1 → ∀ k, k < n + 1 → okT n l i j k = true) ∧ Hid (Below w0.heap.size w0 wr)) (fun s _ => n + 1 - (intOf s).toNat)
      case atStart => exact ⟨0, by omega, rfl, Lib.hid (fun i hi => by omega), HB⟩
      case round =>
        obtain ⟨x, hx, rfl, HX, HBx⟩ := hrel
        obtain ⟨c0, c1⟩ := KS.out _ HBx.out
        by_cases hxn : x ≤ n
        · go_wp2_with fail
          clear c0 c1
          go_loopw [7] (fun s wr => ∃ t : Nat, t ≤ n + 1 ∧ s = .int .i64 t ∧ Hid (∀ j, j < t → ∀ k, k < n + 1 → okT n l x j k = true) ∧ Hid (Below w0.heap.size w0 wr)) (fun s _ => n + 1 - (intOf s).toNat)
          case atStart => exact ⟨0, by omega, rfl, Lib.hid (fun j hj => by omega), HBx⟩
          case round =>
            obtain ⟨y, hy, rfl, HY, HBy⟩ := hrel
            obtain ⟨c0, c1⟩ := KS.out _ HBy.out
            by_cases hyn : y ≤ n
            · go_wp2_with fail
              clear c0 c1
              go_loopw [8] (fun s wr => ∃ t : Nat, t ≤ n + 1 ∧ s = .int .i64 t ∧ Hid (∀ k, k < t → okT n l x y k = true) ∧ Hid (Below w0.heap.size w0 wr)) (fun s _ => n + 1 - (intOf s).toNat)
              case atStart => exact ⟨0, by omega, rfl, Lib.hid (fun k hk => by omega), HBy⟩
              case round =>
                obtain ⟨z, hz, rfl, HZ, HBz⟩ := hrel
                obtain ⟨c0, c1⟩ := KS.out _ HBz.out
                by_cases hzn : z ≤ n
                · have HT := Lib.hid (show okT n l x y z = decide (Zo.At n l x y ≤ Zo.smW (Zo.At n l x z) (Zo.At n l z y)) from rfl)
                  go_wp2_with fail
                  have s1 := HBz.out.drew
                  go_region_held3 (fun w' => w'.cell? ⟨w.heap.size, 0, none⟩ = some (.int .i64 n) ∧ w'.cell? ⟨w.heap.size, 1, none⟩ = some (.slice (some a) len cap)) (first | exact KS.out _ (by assumption))
                    (first | (go_at_call 68; refine (A9.out _ _ (by assumption) (by assumption) _ (by assumption)).mono ?_; rintro e w2 ⟨rfl, s2⟩) | (go_at_call 69; refine (M9.out _ _ _ (by assumption)).mono ?_; rintro e w3 ⟨rfl, s3⟩))
                  all_goals
                    have S3 := Lib.hid s3
                    clear s3
                    generalize Zo.At n l x y = p at *
                    generalize Zo.smW (Zo.At n l x z) (Zo.At n l z y) = q at *
                    by_cases hpq : p ≤ q
                    · have HT2 := Lib.hid (show okT n l x y z = true by rw [HT.out]; simpa using hpq)
                      have D : decide (q < p) = false := by simp; omega
                      go_wp2_with fail
                      go_roundw
                      case rel =>
                        refine ⟨z + 1, by omega, by go_num, Lib.hid (fun k hk => ?_), S3⟩
                        by_cases e : k = z
                        · rw [e]; exact HT2.out
                        · exact HZ.out k (by omega)
                      case measure => simp [intOf]; omega
                    · have HE := Lib.hid (chkE_bad4 (l := l) (n := n) (i := x) (j := y) (k := z) (by omega) (by omega) (by omega) (by rw [HT.out]; simpa using hpq))
                      have D : decide (q < p) = true := by simp; omega
                      go_wp2_with fail
                      go_ret
                      exact ⟨ret_int HE.out.symm, below_on E0.out S3.out⟩
                · have HY2 := Lib.hid (show ∀ j, j < y + 1 → ∀ k, k < n + 1 → okT n l x j k = true from fun j hj k hk => by
                    by_cases e : j = y
                    · rw [e]; exact HZ.out k (by omega)
                    · exact HY.out j (by omega) k hk)
                  go_wp2_with fail
                  go_roundw
                  case rel => exact ⟨y + 1, by omega, by go_num, HY2, HBz⟩
                  case measure => simp [intOf]; omega
            · have HX2 := Lib.hid (show ∀ i, i < x + 1 → ∀ j, j < n + 1 → ∀ k, k < n + 1 → okT n l i j k = true from fun i hi j hj k hk => by
                by_cases e : i = x
                · rw [e]; exact HY.out j (by omega) k hk
                · exact HX.out i (by omega) j hj k hk)
              go_wp2_with fail
              go_roundw
              case rel => exact ⟨x + 1, by omega, by go_num, HX2, HBy⟩
              case measure => simp [intOf]; omega
        · have HE := Lib.hid (chkE_ok hn HL.out HI2.out (fun i hi j hj k hk => HX.out i (by omega) j hj k hk))
          go_wp2_with fail
          go_ret
          exact ⟨ret_int HE.out.symm, below_on E0.out HBx.out⟩
end Go.Proofs.Ytbnebinpemejlaa

namespace Go.Proofs.Ytbnebinpemejlaa
open Go.RowKit

theorem Try.info43 : (Try.prog.info? 43).map (fun i => (i.zero, i.size, i.bytes)) = some (some (.int .i64 0), 1, 8) := by kernel_rfl

theorem Rd.map {w : World} {a : Addr} {l : List Int} (h : Rd w a l) : ∀ j u, (l.map (Value.int .i64))[j]? = some u → w.cell? (a.add j) = some u := by
  intro j u hj
  have hl : j < l.length := by
    rcases Nat.lt_or_ge j l.length with c | c
    · exact c
    · simp [c] at hj
  rw [h j hl]
  simp [hl] at hj
  rw [← hj]; simp [Zo.gt, hl]

theorem grown_below {X w w' : World} (hb : Below X.heap.size X w) (hg : w.grownBy w' none) : Below X.heap.size X w' :=
  hb.trans ⟨hg.os, hg.tape, hg.output, hg.size, fun k hk => hg.block k (Nat.lt_of_lt_of_le hk hb.size) (by simp)⟩

theorem own_of {w : World} {base g c len : Nat} {xs : List Value} {l : List Int} (h : w.ownsRow base 43 1 (.slice (some ⟨g, 0, none⟩) len c) len xs) (hx : xs = l.map (Value.int .i64)) (hl : len = l.length) : Own w g c l ∧ base ≤ g := by
  subst hl hx
  refine ⟨?_, (World.ownsRow.lt h g rfl).1⟩
  obtain ⟨h1, h2⟩ := h
  refine ⟨h1, ?_⟩
  rcases h2 with h2 | ⟨g', cap', cur, a1, _, a3⟩
  · exact Or.inl h2
  · exact Or.inr ⟨g', cap', cur, a1, Nat.zero_le _, a3⟩

theorem put_far {w : World} {g c b : Nat} {l : List Int} (h : Own w g c l) (hb : b ≠ g) (u v : Value) : Own ((w.setCell ⟨b, 0, none⟩ u).setCell ⟨b, 1, none⟩ v) g c l := by
  have e1 : w.grownBy (w.setCell ⟨b, 0, none⟩ u) (some b) := ⟨rfl, rfl, rfl, by simp, fun k _ hk => heap_setCell_other w ⟨b, 0, none⟩ k u (fun e => hk (by simp [e]))⟩
  have e2 : (w.setCell ⟨b, 0, none⟩ u).grownBy ((w.setCell ⟨b, 0, none⟩ u).setCell ⟨b, 1, none⟩ v) (some b) := ⟨rfl, rfl, rfl, by simp, fun k _ hk => heap_setCell_other _ ⟨b, 1, none⟩ k v (fun e => hk (by simp [e]))⟩
  exact h.kept (grown_trans e1 e2) (by simp; omega)

set_option maxRecDepth 20000 in
set_option maxHeartbeats 800000 in
theorem copied_any (N : Int) (l : List Int) (a : Addr) (cap : Nat) (w : World) (h0 : 0 < l.length) (h1 : l.length ≤ 1000) (hR : Rd w a l) :
    Calls Try.prog 66 #[.agg #[.int .i64 N, .slice (some a) l.length cap]] w
      (fun e w' => ∃ g c, e = .returned (.agg #[.int .i64 N, .slice (some ⟨g, 0, none⟩) l.length c]) ∧ w.heap.size ≤ g ∧ Own w' g c l ∧ Below w.heap.size w w') := by
  obtain ⟨len, hlen⟩ : ∃ len, len = l.length := ⟨_, rfl⟩
  obtain ⟨xs, hxs⟩ : ∃ xs, xs = l.map (Value.int .i64) := ⟨_, rfl⟩
  obtain ⟨i0, hi, hz0, hz1, hz2⟩ := info_parts Try.info43
  obtain ⟨w0, hw0⟩ : ∃ w0, w0 = (w.alloc (.cells #[.int .i64 N, .slice (some a) len cap] 25)).alloc (.cells #[.int .i64 0, .slice none 0 0] 25) := ⟨_, rfl⟩
  have b0 : w0.cell? ⟨w.heap.size, 0, none⟩ = some (.int .i64 N) := by rw [hw0]; go_simp
  have b1 : w0.cell? ⟨w.heap.size, 1, none⟩ = some (.slice (some a) len cap) := by rw [hw0]; go_simp
  have r0 : w0.cell? ⟨w.heap.size + 1, 0, none⟩ = some (.int .i64 0) := by rw [hw0]; go_simp
  have r1 : w0.cell? ⟨w.heap.size + 1, 1, none⟩ = some (.slice none 0 0) := by rw [hw0]; go_simp
  have f0 : w0.frozen? ⟨w.heap.size + 1, 0, none⟩ = false := by rw [hw0]; go_simp
  have f1 : w0.frozen? ⟨w.heap.size + 1, 1, none⟩ = false := by rw [hw0]; go_simp
  have z0 : w0.heap.size = w.heap.size + 2 := by rw [hw0]; simp
  have e0 : Below w.heap.size w w0 := by rw [hw0]; exact past_two (Below.refl _ _)
  have RN := Lib.hid (show ∀ w' : World, Below w0.heap.size w0 w' → ∀ j u, xs[j]? = some u → w'.cell? (a.add j) = some u from fun w' h => by rw [hxs]; exact ((hR.on e0).on h).map)
  have KS := Lib.hid (show ∀ w' : World, Below w0.heap.size w0 w' → w'.cell? ⟨w.heap.size, 0, none⟩ = some (.int .i64 N) ∧ w'.cell? ⟨w.heap.size, 1, none⟩ = some (.slice (some a) len cap) from fun w' h => ⟨kept h b0, kept h b1⟩)
  have l1 : xs.length = len * 1 := by rw [hxs, hlen]; simp
  have o1 : ∀ u ∈ xs, u.oneCell' = true := by rw [hxs]; simp [Value.oneCell']
  have l2 : 0 < len := by omega
  have l3 : len ≤ 1000 := by omega
  have B1 : Below w0.heap.size w0 w0.drew := (Below.refl _ _).drew
  have B2 : ∀ o : Obj, Below w0.heap.size w0 (w0.drew.alloc o) := fun o => B1.alloc (Nat.le_refl _) o
  have HX := Lib.hid hxs
  have HL := Lib.hid hlen
  have HO1 := Lib.hid o1
  have HB2 := Lib.hid B2
  have HB1 := Lib.hid B1
  have E0 := Lib.hid e0
  rw [← hlen]
  clear hR hlen hxs o1 B1 B2 b0 b1 h0 h1 e0
  go_enter Try.func66, Try.ntmps66
  go_wp2_with fail
  rw [← hw0]
  clear hw0
  go_region_held3 (fun w' => w'.cell? ⟨w.heap.size, 0, none⟩ = some (.int .i64 N) ∧ w'.cell? ⟨w.heap.size, 1, none⟩ = some (.slice (some a) len cap)) (first | exact KS.out _ HB1.out | exact KS.out _ (HB2.out _) | exact KS.out _ (by assumption) | go_keep)
    (first | (refine step_append_grows rfl (.tmp 5) (.tmp 7) 22 rfl 43 i0 (.int .i64 0) 1 8 Try.underlying22 hi hz0 hz1 hz2 rfl (by decide) (some ⟨w.heap.size + 2, 0, none⟩) 0 0 [] (by simp [Act.eval]) (by simp) rfl (by simp) a len cap xs (by simp [Act.eval]) l1 (RN.out _ (HB2.out _)) HO1.out (by omega) (by unfold maxLen; omega) (by omega) ?_; intro v' w5 hown hgrow; obtain ⟨g, c, rfl⟩ := Joins.ownsRow_form hown (by omega); have B5 : Below w0.heap.size w0 w5 := grown_below (HB2.out _) hgrow; have q0 := kept B5 r0; have q1 := kept B5 r1; have q2 := (B5.frozen (p := ⟨w.heap.size + 1, 0, none⟩) (by show w.heap.size + 1 < w0.heap.size; omega)).trans f0; have q3 := (B5.frozen (p := ⟨w.heap.size + 1, 1, none⟩) (by show w.heap.size + 1 < w0.heap.size; omega)).trans f1))
  go_wp2_with fail
  have hown' : w5.ownsRow (w0.drew.alloc (.cells #[] 43)).heap.size 43 1 (.slice (some ⟨g, 0, none⟩) len c) len xs := by simpa using hown
  obtain ⟨ho, hg⟩ := own_of hown' HX.out HL.out
  have hg2 : w0.heap.size ≤ g := Nat.le_trans (by simp) hg
  refine bodyPost_ret (v := .agg #[.int .i64 N, .slice (some ⟨g, 0, none⟩) len c]) (by simp [results, Try.results66, go_sem, q0, q1]) rfl ⟨g, c, rfl, by omega, put_far ho (by omega) _ _, ?_⟩
  exact ((below_on E0.out B5).setCell (by show w.heap.size ≤ w.heap.size + 1; omega) _).setCell (by show w.heap.size ≤ w.heap.size + 1; omega) _
end Go.Proofs.Ytbnebinpemejlaa

namespace Go.Proofs.Ytbnebinpemejlaa
open Go.RowKit

/-- A block of two cells. -/
def Two (w : World) (b : Nat) (u v : Value) : Prop := Cell w ⟨b, 0, none⟩ u ∧ Cell w ⟨b, 1, none⟩ v

theorem Two.lt {w : World} {b : Nat} {u v : Value} (h : Two w b u v) : b < w.heap.size := h.1.lt

theorem Two.kept {w w' : World} {b : Nat} {u v : Value} (h : Two w b u v) (hb : Below w.heap.size w w') : Two w' b u v := ⟨h.1.kept hb, h.2.kept hb⟩

theorem Two.made (w : World) (u v : Value) (t : TypeId) : Two (w.alloc (.cells #[u, v] t)) w.heap.size u v := ⟨⟨by go_simp, by go_simp⟩, ⟨by go_simp, by go_simp⟩⟩

theorem Two.alloc {w : World} {b : Nat} {u v : Value} (h : Two w b u v) (o : Obj) : Two (w.alloc o) b u v := h.kept (one_more o)

theorem Two.put {w : World} {b : Nat} {u v : Value} (h : Two w b u v) (u' v' : Value) : Two ((w.setCell ⟨b, 0, none⟩ u').setCell ⟨b, 1, none⟩ v') b u' v' :=
  ⟨((h.1.same _).other (by simp) _), ((h.2.other (by simp) _).same _)⟩

theorem Two.aside {w : World} {b b' : Nat} {u v : Value} (h : Two w b u v) (hne : b' ≠ b) (u' v' : Value) : Two ((w.setCell ⟨b', 0, none⟩ u').setCell ⟨b', 1, none⟩ v') b u v :=
  ⟨((h.1.other (fun e => hne (congrArg Addr.block e)) _).other (fun e => hne (congrArg Addr.block e)) _), ((h.2.other (fun e => hne (congrArg Addr.block e)) _).other (fun e => hne (congrArg Addr.block e)) _)⟩

theorem Two.facts {w : World} {b : Nat} {u v : Value} (h : Two w b u v) : w.cell? ⟨b, 0, none⟩ = some u ∧ w.cell? ⟨b, 1, none⟩ = some v ∧ w.frozen? ⟨b, 0, none⟩ = false ∧ w.frozen? ⟨b, 1, none⟩ = false :=
  ⟨h.1.1, h.2.1, h.1.2, h.2.2⟩

theorem Two.grown {w w' : World} {b g : Nat} {u v : Value} (h : Two w b u v) (hg : w.grownBy w' (some g)) (hne : b ≠ g) : Two w' b u v :=
  ⟨⟨hg.cell h.1.1 (by simpa using hne), (World.frozen?_of_block (hg.block _ h.1.lt (by simpa using hne))).trans h.1.2⟩, ⟨hg.cell h.2.1 (by simpa using hne), (World.frozen?_of_block (hg.block _ h.2.lt (by simpa using hne))).trans h.2.2⟩⟩

/-- What a function that returns a zone leaves: with no error a new row, else the zero zone. -/
def ZRes (w : World) (N : Int) (l : List Int) (er : Int) (e : Ending) (w' : World) : Prop :=
  Below w.heap.size w w' ∧ ((er = 0 ∧ ∃ g c, e = .returned (.tuple #[.agg #[.int .i64 N, .slice (some ⟨g, 0, none⟩) l.length c], .int .i64 0]) ∧ w.heap.size ≤ g ∧ Own w' g c l) ∨
    (er ≠ 0 ∧ e = .returned (.tuple #[.agg #[.int .i64 0, .slice none 0 0], .int .i64 er])))

theorem closed_ok {n : Nat} {l : List Int} {g cap : Nat} (w : World) (hn : n ≤ 10) (hl : l.length = (n + 1) * (n + 1)) (hO : Own w g cap l) (h : cloE n l = 0) :
    Calls Try.prog 65 #[.agg #[.int .i64 n, .slice (some ⟨g, 0, none⟩) l.length cap]] w (fun e w' => e = .returned (.tuple #[.agg #[.int .i64 n, .slice (some ⟨g, 0, none⟩) l.length cap], .int .i64 0]) ∧ Own w' g cap (Zo.clo n l) ∧ w.grownBy w' (some g)) := by
  have := closed_any n l g cap w hn hl hO
  rwa [h] at this

theorem closed_no {n : Nat} {l : List Int} {g cap : Nat} (w : World) (hn : n ≤ 10) (hl : l.length = (n + 1) * (n + 1)) (hO : Own w g cap l) (h : cloE n l ≠ 0) :
    Calls Try.prog 65 #[.agg #[.int .i64 n, .slice (some ⟨g, 0, none⟩) l.length cap]] w (fun e w' => e = .returned (.tuple #[.agg #[.int .i64 0, .slice none 0 0], .int .i64 (cloE n l)]) ∧ Own w' g cap (Zo.clo n l) ∧ w.grownBy w' (some g)) := by
  have := closed_any n l g cap w hn hl hO
  rwa [show zres (cloE n l) n g l.length cap = .agg #[.int .i64 0, .slice none 0 0] by unfold zres; rw [if_neg h]] at this

theorem dsq_pos (n : Nat) : 0 < (n + 1) * (n + 1) := Nat.mul_pos (by omega) (by omega)

theorem dsq_le {n : Nat} (hn : n ≤ 10) : (n + 1) * (n + 1) ≤ 121 := by
  have : (n + 1) * (n + 1) ≤ 11 * 11 := Nat.mul_le_mul (by omega) (by omega)
  omega

/-- From a row that the function itself has made to what it leaves. -/
theorem grown_over {w w1 w2 : World} {g : Nat} (hb : Below w.heap.size w w1) (hg : w1.grownBy w2 (some g)) (hle : w.heap.size ≤ g) : Below w.heap.size w w2 :=
  hb.trans ⟨hg.os, hg.tape, hg.output, hg.size, fun k hk => hg.block k (Nat.lt_of_lt_of_le hk hb.size) (by simp; omega)⟩

/-- Steps that each keep the length. -/
theorem fold_len {f : List Int → Nat → List Int} (hf : ∀ x t, (f x t).length = x.length) (l : List Int) (t : Nat) : ((List.range t).foldl f l).length = l.length := by
  induction t with
  | zero => rfl
  | succ t ih => rw [Zo.fold_succ, hf, ih]

/-- Up: the elements that are set. -/
def upS (n : Nat) (x : List Int) (t : Nat) : List Int := x.set (Zo.ix n (t + 1) 0) 1099511627776

def upL (n : Nat) (l : List Int) : List Int := (List.range n).foldl (upS n) l

theorem upL_len (n : Nat) (l : List Int) : (upL n l).length = l.length := fold_len (fun x t => by simp [upS]) l n

set_option maxHeartbeats 1600000 in
theorem up_any (n : Nat) (l : List Int) (a : Addr) (cap : Nat) (w : World) (hn : n ≤ 10) (hl : l.length = (n + 1) * (n + 1)) (hR : Rd w a l) (hc : chkE n l = 0) :
    Calls Try.prog 27 #[.agg #[.int .i64 n, .slice (some a) l.length cap]] w (ZRes w n (Zo.clo n (upL n l)) (cloE n (upL n l))) := by
  obtain ⟨len, hlen⟩ : ∃ len, len = l.length := ⟨_, rfl⟩
  obtain ⟨w0, hw0⟩ : ∃ w0, w0 = (w.alloc (.cells #[.int .i64 n, .slice (some a) len cap] 25)).alloc (.cells #[.int .i64 0, .slice none 0 0] 25) := ⟨_, rfl⟩
  have bx : Two w0 w.heap.size (.int .i64 n) (.slice (some a) len cap) := by rw [hw0]; exact (Two.made _ _ _ _).alloc _
  have rs : Two w0 (w.heap.size + 1) (.int .i64 0) (.slice none 0 0) := by
    rw [hw0]
    have := Two.made (w.alloc (.cells #[.int .i64 n, .slice (some a) len cap] 25)) (.int .i64 0) (.slice none 0 0) 25
    simpa using this
  have z0 : w0.heap.size = w.heap.size + 2 := by rw [hw0]; simp
  have e0 : Below w.heap.size w w0 := by rw [hw0]; exact past_two (Below.refl _ _)
  have R0 := hR.on e0
  have CK : Hid (∀ W, Rd W a l → Calls Try.prog 18 #[.agg #[.int .i64 n, .slice (some a) len cap]] W (Made (.int .i64 0) W)) := Lib.hid fun W h => by have := check_any n l a cap W hn hl h; rw [hc, ← hlen] at this; exact this
  have CP : Hid (∀ W, Rd W a l → Calls Try.prog 66 #[.agg #[.int .i64 n, .slice (some a) len cap]] W (fun e w' => ∃ g c, e = .returned (.agg #[.int .i64 n, .slice (some ⟨g, 0, none⟩) len c]) ∧ W.heap.size ≤ g ∧ Own w' g c l ∧ Below W.heap.size W w')) := Lib.hid fun W h => by have := copied_any n l a cap W (by rw [hl]; exact dsq_pos n) (by rw [hl]; have := dsq_le hn; omega) h; rw [← hlen] at this; exact this
  have HR := Lib.hid R0
  have HL := Lib.hid hl
  have HLn := Lib.hid hlen
  have E0 := Lib.hid e0
  rw [← hlen]
  clear hR R0 hl hlen hc e0
  go_enter Try.func27, Try.ntmps27
  go_wp2_with fail
  rw [← hw0]
  clear hw0
  obtain ⟨b0, b1, b2, b3⟩ := bx.facts
  go_wp2_with fail
  refine (CK.out _ HR.out).mono ?_
  rintro e w1 ⟨rfl, hb1⟩
  clear b0 b1 b2 b3
  replace bx := bx.kept hb1
  replace rs := rs.kept hb1
  have HR1 := Lib.hid (HR.out.on hb1)
  have E1 := Lib.hid (below_on E0.out hb1)
  have z1 := hb1.size
  clear hb1 HR E0
  obtain ⟨b0, b1, b2, b3⟩ := bx.facts
  go_wp2_with fail
  refine (CP.out _ HR1.out).mono ?_
  rintro e w2 ⟨g, c, rfl, hg, ho, hb2⟩
  clear b0 b1 b2 b3
  replace bx := bx.kept hb2
  replace rs := rs.kept hb2
  have E2 := Lib.hid (below_on E1.out hb2)
  have z2 := hb2.size
  clear hb2 E1 HR1
  obtain ⟨b0, b1, b2, b3⟩ := bx.facts
  obtain ⟨w3, hw3⟩ : ∃ w3, w3 = (w2.setCell ⟨w.heap.size, 0, none⟩ (.int .i64 n)).setCell ⟨w.heap.size, 1, none⟩ (.slice (some ⟨g, 0, none⟩) len c) := ⟨_, rfl⟩
  have bx3 : Two w3 w.heap.size (.int .i64 n) (.slice (some ⟨g, 0, none⟩) len c) := by rw [hw3]; exact bx.put _ _
  have rs3 : Two w3 (w.heap.size + 1) (.int .i64 0) (.slice none 0 0) := by rw [hw3]; exact rs.aside (by omega) _ _
  have O3 : Own w3 g c l := by rw [hw3]; exact put_far ho (by omega) _ _
  have E3 : Below w.heap.size w w3 := by rw [hw3]; exact (E2.out.setCell (by show w.heap.size ≤ w.heap.size; omega) _).setCell (by show w.heap.size ≤ w.heap.size; omega) _
  have S3 := Lib.hid (show St w3 g c l w3 from ⟨O3, World.grownBy.refl _ _⟩)
  have HE3 := Lib.hid E3
  clear ho O3 E3 E2 rs bx
  go_wp2_with fail
  rw [← hw3]
  clear hw3 b0 b1 b2 b3
  go_loopw [4] (fun s wr => ∃ (t : Nat) (x : List Int), t ≤ n ∧ s = .int .i64 ((t : Int) + 1) ∧ x.length = len ∧ Hid (x = (List.range t).foldl (upS n) l) ∧ Hid (St w3 g c x wr)) (fun s _ => n + 1 - (intOf s).toNat)
  case atStart => exact ⟨0, l, by omega, rfl, HLn.out.symm, Lib.hid rfl, S3⟩
  case round =>
    obtain ⟨t, x, ht, rfl, hx, HX, HT⟩ := hrel
    have bx4 := bx3.grown HT.out.2 (by omega)
    obtain ⟨b0, b1, b2, b3⟩ := bx4.facts
    by_cases htn : t + 1 ≤ n
    · have lx : x.length = (n + 1) * (n + 1) := by rw [hx, HLn.out, HL.out]
      have SE : Hid (∀ w' : World, St w3 g c x w' → Calls Try.prog 79 #[.agg #[.int .i64 n, .slice (some ⟨g, 0, none⟩) len c], .int .i64 ((t : Int) + 1), .int .i64 0, .int .i64 1099511627776] w' (fun e w' => e = .returned (.tuple #[]) ∧ St w3 g c (upS n x t) w')) :=
        Lib.hid fun w' h => by have := set_st (i := t + 1) (j := 0) 1099511627776 hn htn (by omega) lx h; rw [hx] at this; exact this
      go_wp2_with fail
      refine (SE.out _ HT.out).mono ?_
      rintro e w4 ⟨rfl, s4⟩
      have S4 := Lib.hid s4
      clear s4
      go_wp2_with fail
      go_roundw
      case rel => exact ⟨t + 1, _, htn, by go_num, by simpa [upS] using hx, Lib.hid (by rw [Zo.fold_succ, ← HX.out]), S4⟩
      case measure => simp [intOf]; omega
    · have HX2 := Lib.hid (show x = upL n l by rw [HX.out, show t = n by omega]; rfl)
      have lx : x.length = (n + 1) * (n + 1) := by rw [hx, HLn.out, HL.out]
      by_cases hE : cloE n x = 0
      · have CL : Hid (∀ W, Own W g c x → Calls Try.prog 65 #[.agg #[.int .i64 n, .slice (some ⟨g, 0, none⟩) len c]] W (fun e w' => e = .returned (.tuple #[.agg #[.int .i64 n, .slice (some ⟨g, 0, none⟩) len c], .int .i64 0]) ∧ Own w' g c (Zo.clo n x) ∧ W.grownBy w' (some g))) := Lib.hid fun W h => by have := closed_ok W hn lx h hE; rw [hx] at this; exact this
        have HEE := Lib.hid hE
        clear hE
        go_wp2_with fail
        refine (CL.out _ HT.out.1).mono ?_
        rintro e w5 ⟨rfl, ho5, hg5⟩
        have rs5 := (rs3.grown HT.out.2 (by omega)).grown hg5 (by omega)
        obtain ⟨q0, q1, q2, q3⟩ := rs5.facts
        have E5 := Lib.hid (grown_over (grown_over HE3.out HT.out.2 (by omega)) hg5 (by omega))
        have HO5 := Lib.hid ho5
        clear ho5 hg5
        go_wp2_with fail
        refine bodyPost_ret (v := .tuple #[.agg #[.int .i64 n, .slice (some ⟨g, 0, none⟩) len c], .int .i64 0]) (by simp [results, Try.results27, go_sem, q0, q1]) rfl ⟨(E5.out.setCell (by show w.heap.size ≤ w.heap.size + 1; omega) _).setCell (by show w.heap.size ≤ w.heap.size + 1; omega) _, Or.inl ⟨by rw [← HX2.out]; exact HEE.out, g, c, ?_, by omega, ?_⟩⟩
        · rw [Zo.clo_length, upL_len, ← HLn.out]
        · rw [← HX2.out]; exact put_far HO5.out (by omega) _ _
      · have CL : Hid (∀ W, Own W g c x → Calls Try.prog 65 #[.agg #[.int .i64 n, .slice (some ⟨g, 0, none⟩) len c]] W (fun e w' => e = .returned (.tuple #[.agg #[.int .i64 0, .slice none 0 0], .int .i64 (cloE n x)]) ∧ Own w' g c (Zo.clo n x) ∧ W.grownBy w' (some g))) := Lib.hid fun W h => by have := closed_no W hn lx h hE; rw [hx] at this; exact this
        have HEE := Lib.hid hE
        clear hE
        go_wp2_with fail
        refine (CL.out _ HT.out.1).mono ?_
        rintro e w5 ⟨rfl, ho5, hg5⟩
        have rs5 := (rs3.grown HT.out.2 (by omega)).grown hg5 (by omega)
        obtain ⟨q0, q1, q2, q3⟩ := rs5.facts
        have E5 := Lib.hid (grown_over (grown_over HE3.out HT.out.2 (by omega)) hg5 (by omega))
        clear ho5 hg5
        go_wp2_with fail
        refine bodyPost_ret (v := .tuple #[.agg #[.int .i64 0, .slice none 0 0], .int .i64 (cloE n x)]) (by simp [results, Try.results27, go_sem, q0, q1]) rfl ⟨(E5.out.setCell (by show w.heap.size ≤ w.heap.size + 1; omega) _).setCell (by show w.heap.size ≤ w.heap.size + 1; omega) _, Or.inr ⟨by rw [← HX2.out]; exact HEE.out, ?_⟩⟩
        rw [HX2.out]

/-- Down: the elements that are set. -/
def dnS (n : Nat) (x : List Int) (t : Nat) : List Int := x.set (Zo.ix n 0 (t + 1)) 1

def dnL (n : Nat) (l : List Int) : List Int := (List.range n).foldl (dnS n) l

theorem dnL_len (n : Nat) (l : List Int) : (dnL n l).length = l.length := fold_len (fun x t => by simp [dnS]) l n

set_option maxHeartbeats 1600000 in
theorem dn_any (n : Nat) (l : List Int) (a : Addr) (cap : Nat) (w : World) (hn : n ≤ 10) (hl : l.length = (n + 1) * (n + 1)) (hR : Rd w a l) (hc : chkE n l = 0) :
    Calls Try.prog 29 #[.agg #[.int .i64 n, .slice (some a) l.length cap]] w (ZRes w n (Zo.clo n (dnL n l)) (cloE n (dnL n l))) := by
  obtain ⟨len, hlen⟩ : ∃ len, len = l.length := ⟨_, rfl⟩
  obtain ⟨w0, hw0⟩ : ∃ w0, w0 = (w.alloc (.cells #[.int .i64 n, .slice (some a) len cap] 25)).alloc (.cells #[.int .i64 0, .slice none 0 0] 25) := ⟨_, rfl⟩
  have bx : Two w0 w.heap.size (.int .i64 n) (.slice (some a) len cap) := by rw [hw0]; exact (Two.made _ _ _ _).alloc _
  have rs : Two w0 (w.heap.size + 1) (.int .i64 0) (.slice none 0 0) := by
    rw [hw0]
    have := Two.made (w.alloc (.cells #[.int .i64 n, .slice (some a) len cap] 25)) (.int .i64 0) (.slice none 0 0) 25
    simpa using this
  have z0 : w0.heap.size = w.heap.size + 2 := by rw [hw0]; simp
  have e0 : Below w.heap.size w w0 := by rw [hw0]; exact past_two (Below.refl _ _)
  have R0 := hR.on e0
  have CK : Hid (∀ W, Rd W a l → Calls Try.prog 18 #[.agg #[.int .i64 n, .slice (some a) len cap]] W (Made (.int .i64 0) W)) := Lib.hid fun W h => by have := check_any n l a cap W hn hl h; rw [hc, ← hlen] at this; exact this
  have CP : Hid (∀ W, Rd W a l → Calls Try.prog 66 #[.agg #[.int .i64 n, .slice (some a) len cap]] W (fun e w' => ∃ g c, e = .returned (.agg #[.int .i64 n, .slice (some ⟨g, 0, none⟩) len c]) ∧ W.heap.size ≤ g ∧ Own w' g c l ∧ Below W.heap.size W w')) := Lib.hid fun W h => by have := copied_any n l a cap W (by rw [hl]; exact dsq_pos n) (by rw [hl]; have := dsq_le hn; omega) h; rw [← hlen] at this; exact this
  have HR := Lib.hid R0
  have HL := Lib.hid hl
  have HLn := Lib.hid hlen
  have E0 := Lib.hid e0
  rw [← hlen]
  clear hR R0 hl hlen hc e0
  go_enter Try.func29, Try.ntmps29
  go_wp2_with fail
  rw [← hw0]
  clear hw0
  obtain ⟨b0, b1, b2, b3⟩ := bx.facts
  go_wp2_with fail
  refine (CK.out _ HR.out).mono ?_
  rintro e w1 ⟨rfl, hb1⟩
  clear b0 b1 b2 b3
  replace bx := bx.kept hb1
  replace rs := rs.kept hb1
  have HR1 := Lib.hid (HR.out.on hb1)
  have E1 := Lib.hid (below_on E0.out hb1)
  have z1 := hb1.size
  clear hb1 HR E0
  obtain ⟨b0, b1, b2, b3⟩ := bx.facts
  go_wp2_with fail
  refine (CP.out _ HR1.out).mono ?_
  rintro e w2 ⟨g, c, rfl, hg, ho, hb2⟩
  clear b0 b1 b2 b3
  replace bx := bx.kept hb2
  replace rs := rs.kept hb2
  have E2 := Lib.hid (below_on E1.out hb2)
  have z2 := hb2.size
  clear hb2 E1 HR1
  obtain ⟨b0, b1, b2, b3⟩ := bx.facts
  obtain ⟨w3, hw3⟩ : ∃ w3, w3 = (w2.setCell ⟨w.heap.size, 0, none⟩ (.int .i64 n)).setCell ⟨w.heap.size, 1, none⟩ (.slice (some ⟨g, 0, none⟩) len c) := ⟨_, rfl⟩
  have bx3 : Two w3 w.heap.size (.int .i64 n) (.slice (some ⟨g, 0, none⟩) len c) := by rw [hw3]; exact bx.put _ _
  have rs3 : Two w3 (w.heap.size + 1) (.int .i64 0) (.slice none 0 0) := by rw [hw3]; exact rs.aside (by omega) _ _
  have O3 : Own w3 g c l := by rw [hw3]; exact put_far ho (by omega) _ _
  have E3 : Below w.heap.size w w3 := by rw [hw3]; exact (E2.out.setCell (by show w.heap.size ≤ w.heap.size; omega) _).setCell (by show w.heap.size ≤ w.heap.size; omega) _
  have S3 := Lib.hid (show St w3 g c l w3 from ⟨O3, World.grownBy.refl _ _⟩)
  have HE3 := Lib.hid E3
  clear ho O3 E3 E2 rs bx
  go_wp2_with fail
  rw [← hw3]
  clear hw3 b0 b1 b2 b3
  go_loopw [4] (fun s wr => ∃ (t : Nat) (x : List Int), t ≤ n ∧ s = .int .i64 ((t : Int) + 1) ∧ x.length = len ∧ Hid (x = (List.range t).foldl (dnS n) l) ∧ Hid (St w3 g c x wr)) (fun s _ => n + 1 - (intOf s).toNat)
  case atStart => exact ⟨0, l, by omega, rfl, HLn.out.symm, Lib.hid rfl, S3⟩
  case round =>
    obtain ⟨t, x, ht, rfl, hx, HX, HT⟩ := hrel
    have bx4 := bx3.grown HT.out.2 (by omega)
    obtain ⟨b0, b1, b2, b3⟩ := bx4.facts
    by_cases htn : t + 1 ≤ n
    · have lx : x.length = (n + 1) * (n + 1) := by rw [hx, HLn.out, HL.out]
      have SE : Hid (∀ w' : World, St w3 g c x w' → Calls Try.prog 79 #[.agg #[.int .i64 n, .slice (some ⟨g, 0, none⟩) len c], .int .i64 0, .int .i64 ((t : Int) + 1), .int .i64 1] w' (fun e w' => e = .returned (.tuple #[]) ∧ St w3 g c (dnS n x t) w')) :=
        Lib.hid fun w' h => by have := set_st (i := 0) (j := t + 1) 1 hn (by omega) htn lx h; rw [hx] at this; exact this
      go_wp2_with fail
      refine (SE.out _ HT.out).mono ?_
      rintro e w4 ⟨rfl, s4⟩
      have S4 := Lib.hid s4
      clear s4
      go_wp2_with fail
      go_roundw
      case rel => exact ⟨t + 1, _, htn, by go_num, by simpa [dnS] using hx, Lib.hid (by rw [Zo.fold_succ, ← HX.out]), S4⟩
      case measure => simp [intOf]; omega
    · have HX2 := Lib.hid (show x = dnL n l by rw [HX.out, show t = n by omega]; rfl)
      have lx : x.length = (n + 1) * (n + 1) := by rw [hx, HLn.out, HL.out]
      by_cases hE : cloE n x = 0
      · have CL : Hid (∀ W, Own W g c x → Calls Try.prog 65 #[.agg #[.int .i64 n, .slice (some ⟨g, 0, none⟩) len c]] W (fun e w' => e = .returned (.tuple #[.agg #[.int .i64 n, .slice (some ⟨g, 0, none⟩) len c], .int .i64 0]) ∧ Own w' g c (Zo.clo n x) ∧ W.grownBy w' (some g))) := Lib.hid fun W h => by have := closed_ok W hn lx h hE; rw [hx] at this; exact this
        have HEE := Lib.hid hE
        clear hE
        go_wp2_with fail
        refine (CL.out _ HT.out.1).mono ?_
        rintro e w5 ⟨rfl, ho5, hg5⟩
        have rs5 := (rs3.grown HT.out.2 (by omega)).grown hg5 (by omega)
        obtain ⟨q0, q1, q2, q3⟩ := rs5.facts
        have E5 := Lib.hid (grown_over (grown_over HE3.out HT.out.2 (by omega)) hg5 (by omega))
        have HO5 := Lib.hid ho5
        clear ho5 hg5
        go_wp2_with fail
        refine bodyPost_ret (v := .tuple #[.agg #[.int .i64 n, .slice (some ⟨g, 0, none⟩) len c], .int .i64 0]) (by simp [results, Try.results29, go_sem, q0, q1]) rfl ⟨(E5.out.setCell (by show w.heap.size ≤ w.heap.size + 1; omega) _).setCell (by show w.heap.size ≤ w.heap.size + 1; omega) _, Or.inl ⟨by rw [← HX2.out]; exact HEE.out, g, c, ?_, by omega, ?_⟩⟩
        · rw [Zo.clo_length, dnL_len, ← HLn.out]
        · rw [← HX2.out]; exact put_far HO5.out (by omega) _ _
      · have CL : Hid (∀ W, Own W g c x → Calls Try.prog 65 #[.agg #[.int .i64 n, .slice (some ⟨g, 0, none⟩) len c]] W (fun e w' => e = .returned (.tuple #[.agg #[.int .i64 0, .slice none 0 0], .int .i64 (cloE n x)]) ∧ Own w' g c (Zo.clo n x) ∧ W.grownBy w' (some g))) := Lib.hid fun W h => by have := closed_no W hn lx h hE; rw [hx] at this; exact this
        have HEE := Lib.hid hE
        clear hE
        go_wp2_with fail
        refine (CL.out _ HT.out.1).mono ?_
        rintro e w5 ⟨rfl, ho5, hg5⟩
        have rs5 := (rs3.grown HT.out.2 (by omega)).grown hg5 (by omega)
        obtain ⟨q0, q1, q2, q3⟩ := rs5.facts
        have E5 := Lib.hid (grown_over (grown_over HE3.out HT.out.2 (by omega)) hg5 (by omega))
        clear ho5 hg5
        go_wp2_with fail
        refine bodyPost_ret (v := .tuple #[.agg #[.int .i64 0, .slice none 0 0], .int .i64 (cloE n x)]) (by simp [results, Try.results29, go_sem, q0, q1]) rfl ⟨(E5.out.setCell (by show w.heap.size ≤ w.heap.size + 1; omega) _).setCell (by show w.heap.size ≤ w.heap.size + 1; omega) _, Or.inr ⟨by rw [← HX2.out]; exact HEE.out, ?_⟩⟩
        rw [HX2.out]
end Go.Proofs.Ytbnebinpemejlaa
