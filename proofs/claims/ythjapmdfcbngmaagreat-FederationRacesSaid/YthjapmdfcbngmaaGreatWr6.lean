/- A part. -/
import Derived.Test.YthjapmdfcbngmaaGreatWr3
namespace Go.Proofs.YthjapmdfcbngmaaGreat
set_option maxHeartbeats 4000000
open Go.RowKit
theorem Rd.on {w w' : World} {a : Addr} {l : List Int} (h : Rd w a l) (hb : Below w.heap.size w w') : Rd w' a l := fun j hj => kept hb (h j hj)
def okI (n : Nat) (l : List Int) (i j : Nat) : Bool := lvB (Zo.At n l i j) && (decide (i ≠ j) || decide (Zo.At n l i j = 1)) && (decide (i ≠ 0) || decide (Zo.At n l i j ≤ 1))
def okT (n : Nat) (l : List Int) (i j k : Nat) : Bool := decide (Zo.At n l i j ≤ Zo.smW (Zo.At n l i k) (Zo.At n l k j))
def chk1 (n : Nat) (l : List Int) : Bool := (List.range (n + 1)).all fun i => (List.range (n + 1)).all fun j => okI n l i j
def chk2 (n : Nat) (l : List Int) : Bool := (List.range (n + 1)).all fun i => (List.range (n + 1)).all fun j => (List.range (n + 1)).all fun k => okT n l i j k
def chkB (N : Int) (l : List Int) : Bool := dimB N && decide (l.length = (N.toNat + 1) * (N.toNat + 1)) && chk1 N.toNat l && chk2 N.toNat l
def chkE (N : Int) (l : List Int) : Int := if chkB N l then 0 else 2
theorem chk1_iff {n : Nat} {l : List Int} : chk1 n l = true ↔ ∀ i, i < n + 1 → ∀ j, j < n + 1 → okI n l i j = true := by simp [chk1]
theorem chk2_iff {n : Nat} {l : List Int} : chk2 n l = true ↔ ∀ i, i < n + 1 → ∀ j, j < n + 1 → ∀ k, k < n + 1 → okT n l i j k = true := by simp [chk2]
theorem chkE_bad1 {N : Int} {l : List Int} (h : dimB N = false) : chkE N l = 2 := by simp [chkE, chkB, h]
theorem chkE_bad2 {N : Int} {l : List Int} (h : l.length ≠ (N.toNat + 1) * (N.toNat + 1)) : chkE N l = 2 := by simp [chkE, chkB, h]
theorem chkE_bad3 {n : Nat} {l : List Int} {i j : Nat} (hi : i < n + 1) (hj : j < n + 1) (h : okI n l i j = false) : chkE (n : Int) l = 2 := by
 have : chk1 n l = false := by
  cases e : chk1 n l
  · rfl
  · have := chk1_iff.1 e i hi j hj
    rw [h] at this; simp at this
 simp [chkE, chkB, this]
theorem chkE_bad4 {n : Nat} {l : List Int} {i j k : Nat} (hi : i < n + 1) (hj : j < n + 1) (hk : k < n + 1) (h : okT n l i j k = false) : chkE (n : Int) l = 2 := by
 have : chk2 n l = false := by
  cases e : chk2 n l
  · rfl
  · have := chk2_iff.1 e i hi j hj k hk
    rw [h] at this; simp at this
 simp [chkE, chkB, this]
theorem chkE_ok {n : Nat} {l : List Int} (hn : n ≤ 10) (hl : l.length = (n + 1) * (n + 1)) (h1 : ∀ i, i < n + 1 → ∀ j, j < n + 1 → okI n l i j = true) (h2 : ∀ i, i < n + 1 → ∀ j, j < n + 1 → ∀ k, k < n + 1 → okT n l i j k = true) : chkE (n : Int) l = 0 := by
 have d : dimB (n : Int) = true := by unfold dimB; simp; omega
 simp [chkE, chkB, d, hl, chk1_iff.2 h1, chk2_iff.2 h2]
theorem at_b {w0 : World} {a : Addr} {cap n i j : Nat} {l : List Int} {w : World} (hn : n ≤ 10) (hi : i ≤ n) (hj : j ≤ n) (hl : l.length = (n + 1) * (n + 1)) (hR : Rd w0 a l) (h : Below w0.heap.size w0 w) :
  Calls Tryz.prog 85 #[.agg #[.int .i64 n, .slice (some a) l.length cap], .int .i64 i, .int .i64 j] w
   (fun e w' => e = .returned (.int .i64 (Zo.At n l i j)) ∧ Below w0.heap.size w0 w') := by
 refine (at_any n i j l a cap w hn hi hj hl (hR.on h)).mono ?_
 rintro e w' ⟨rfl, hb⟩
 exact ⟨rfl, below_on h hb⟩
theorem sum_b {w0 w : World} (a b : Int) (h : Below w0.heap.size w0 w) :
  Calls Tryz.prog 87 #[.int .i64 a, .int .i64 b] w (fun e w' => e = .returned (.int .i64 (Zo.smW a b)) ∧ Below w0.heap.size w0 w') := by
 refine (sum2_any a b w).mono ?_
 rintro e w' ⟨rfl, rfl⟩
 exact ⟨rfl, h⟩
theorem check_bad1 (N : Int) (l : List Int) (ao : Option Addr) (cap : Nat) (w : World) (h : dimB N = false) :
  Calls Tryz.prog 39 #[.agg #[.int .i64 N, .slice ao l.length cap]] w (Made (.int .i64 (chkE N l)) w) := by
 have H := Lib.hid (chkE_bad1 (l := l) h)
 have p := fun W => dimension_any N W
 rw [h] at p
 have PD := Lib.hid p
 clear p h
 go_enter Tryz.func39, Tryz.ntmps39
 go_wp2_with fail
 refine (PD.out _).mono ?_
 rintro e w1 ⟨rfl, rfl⟩
 go_wp2_with fail
 go_ret
 exact ⟨ret_int H.out.symm, one_more _⟩
theorem check_bad2 (n : Nat) (l : List Int) (ao : Option Addr) (cap : Nat) (w : World) (hn : n ≤ 10) (h : l.length ≠ (n + 1) * (n + 1)) :
  Calls Tryz.prog 39 #[.agg #[.int .i64 n, .slice ao l.length cap]] w (Made (.int .i64 (chkE n l)) w) := by
 have H := Lib.hid (chkE_bad2 (N := n) (l := l) (by simpa using h))
 have p := fun W => dimension_any n W
 rw [show dimB n = true by unfold dimB; simp; omega] at p
 have PD := Lib.hid p
 have t3 : ((n : Int) + 1) * ((n : Int) + 1) ≤ 121 ∧ 0 ≤ ((n : Int) + 1) * ((n : Int) + 1) := by
  have : (n + 1) * (n + 1) ≤ 11 * 11 := Nat.mul_le_mul (by omega) (by omega)
  constructor
  · exact_mod_cast this
  · exact_mod_cast Nat.zero_le _
 have h2 : ((l.length : Int) != ((n : Int) + 1) * ((n : Int) + 1)) = true := by
  simp; intro e; apply h; exact_mod_cast e
 generalize l.length = len at *
 clear p h
 go_enter Tryz.func39, Tryz.ntmps39
 go_wp2_with fail
 refine (PD.out _).mono ?_
 rintro e w1 ⟨rfl, rfl⟩
 go_wp2_with fail
 go_ret
 exact ⟨ret_int H.out.symm, one_more _⟩
theorem check_any (n : Nat) (l : List Int) (a : Addr) (cap : Nat) (w : World) (hn : n ≤ 10) (hl : l.length = (n + 1) * (n + 1)) (hR : Rd w a l) :
  Calls Tryz.prog 39 #[.agg #[.int .i64 n, .slice (some a) l.length cap]] w (Made (.int .i64 (chkE n l)) w) := by
 obtain ⟨len, hlen⟩ : ∃ len, len = l.length := ⟨_, rfl⟩
 obtain ⟨w0, hw0⟩ : ∃ w0, w0 = w.alloc (.cells #[.int .i64 n, .slice (some a) len cap] 36) := ⟨_, rfl⟩
 have b0 : w0.cell? ⟨w.heap.size, 0, none⟩ = some (.int .i64 n) := by rw [hw0]; go_simp
 have b1 : w0.cell? ⟨w.heap.size, 1, none⟩ = some (.slice (some a) len cap) := by rw [hw0]; go_simp
 have R0 : Rd w0 a l := by rw [hw0]; exact hR.on (one_more _)
 have e0 : Below w.heap.size w w0 := by rw [hw0]; exact one_more _
 have KS := Lib.hid (show ∀ w' : World, Below w0.heap.size w0 w' → w'.cell? ⟨w.heap.size, 0, none⟩ = some (.int .i64 n) ∧ w'.cell? ⟨w.heap.size, 1, none⟩ = some (.slice (some a) len cap) from
  fun w' h => ⟨kept h b0, kept h b1⟩)
 have p := fun W => dimension_any n W
 rw [show dimB n = true by unfold dimB; simp; omega] at p
 have PD := Lib.hid p
 have t3 : ((n : Int) + 1) * ((n : Int) + 1) ≤ 121 ∧ 0 ≤ ((n : Int) + 1) * ((n : Int) + 1) := by
  have : (n + 1) * (n + 1) ≤ 11 * 11 := Nat.mul_le_mul (by omega) (by omega)
  constructor
  · exact_mod_cast this
  · exact_mod_cast Nat.zero_le _
 have h2 : ((len : Int) != ((n : Int) + 1) * ((n : Int) + 1)) = false := by
  rw [hlen, hl]; simp
 have A9 : Hid (∀ x y : Nat, x ≤ n → y ≤ n → ∀ w' : World, Below w0.heap.size w0 w' → Calls Tryz.prog 85 #[.agg #[.int .i64 n, .slice (some a) len cap], .int .i64 x, .int .i64 y] w' (fun e w' => e = .returned (.int .i64 (Zo.At n l x y)) ∧ Below w0.heap.size w0 w')) :=
  Lib.hid fun x y hx hy w' h => by have := at_b (cap := cap) (i := x) (j := y) hn hx hy hl R0 h; rw [← hlen] at this; exact this
 have M9 := Lib.hid fun (x y : Int) (w' : World) (h : Below w0.heap.size w0 w') => sum_b x y h
 have HL := Lib.hid hl
 have E0 := Lib.hid e0
 rw [← hlen]
 clear p hl hlen R0 hR b0 b1 e0
 go_enter Tryz.func39, Tryz.ntmps39
 go_wp2_with fail
 refine (PD.out _).mono ?_
 rintro e w1 ⟨rfl, rfl⟩
 go_wp2_with fail
 rw [← hw0]
 clear t3 h2
 go_loopw [3] (fun s wr => ∃ t : Nat, t ≤ n + 1 ∧ s = .int .i64 t ∧ Hid (∀ i, i < t → ∀ j, j < n + 1 → okI n l i j = true) ∧ Hid (Below w0.heap.size w0 wr)) (fun s _ => n + 1 - (intOf s).toNat)
 case atStart => exact ⟨0, by omega, rfl, Lib.hid (fun i hi => by omega), Lib.hid (Below.refl _ _)⟩
 case round =>
  obtain ⟨i, hi, rfl, HI, HB⟩ := hrel
  obtain ⟨c0, c1⟩ := KS.out _ HB.out
  by_cases hin : i ≤ n
  · go_wp2_with fail
    clear c0 c1
    go_loopw [4] (fun s wr => ∃ t : Nat, t ≤ n + 1 ∧ s = .int .i64 t ∧ Hid (∀ j, j < t → okI n l i j = true) ∧ Hid (Below w0.heap.size w0 wr)) (fun s _ => n + 1 - (intOf s).toNat)
    case atStart => exact ⟨0, by omega, rfl, Lib.hid (fun j hj => by omega), HB⟩
    case round =>
     obtain ⟨j, hj, rfl, HJ, HBj⟩ := hrel
     obtain ⟨c0, c1⟩ := KS.out _ HBj.out
     by_cases hjn : j ≤ n
     · obtain ⟨v, hv⟩ : ∃ v, v = Zo.At n l i j := ⟨_, rfl⟩
       have a9 := A9.out i j hin hjn
       rw [← hv] at a9
       have A8 := Lib.hid a9
       have v9 := fun W => refLimValid_free v W
       have hok : okI n l i j = (lvB v && (decide (i ≠ j) || decide (v = 1)) && (decide (i ≠ 0) || decide (v ≤ 1))) := by rw [hv]; rfl
       clear a9 hv
       cases lv : lvB v
       · rw [lv] at v9
         have V9 := Lib.hid v9
         have HE := Lib.hid (chkE_bad3 (l := l) (n := n) (i := i) (j := j) (by omega) (by omega) (by rw [hok, lv]; simp))
         clear hok v9 lv
         go_wp2_with fail
         refine (A8.out _ HBj.out).mono ?_
         rintro e w2 ⟨rfl, hb⟩
         obtain ⟨c0, c1⟩ := KS.out _ hb
         go_wp2_with fail
         refine (V9.out _).mono ?_
         rintro e w3 ⟨rfl, rfl⟩
         go_wp2_with fail
         go_ret
         exact ⟨ret_int HE.out.symm, below_on E0.out hb⟩
       · by_cases ij : i = j
         · by_cases v1 : v = 1
           · by_cases i0 : i = 0
             · have IJ : ((i : Int) == (j : Int)) = true := by simp; omega
               have IZ : ((i : Int) == 0) = true := by simp; omega
               have V1 : (v != 1) = false := by simp; omega
               have V2 : decide ((1 : Int) < v) = false := by simp; omega
               rw [lv] at v9
               have V9 := Lib.hid v9
               have HE := Lib.hid (show okI n l i j = true by rw [hok, lv]; simp; omega)
               clear hok v9 lv ij v1 i0
               go_wp2_with fail
               refine (A8.out _ HBj.out).mono ?_
               rintro e w2 ⟨rfl, hb⟩
               obtain ⟨c0, c1⟩ := KS.out _ hb
               go_wp2_with fail
               refine (V9.out _).mono ?_
               rintro e w3 ⟨rfl, rfl⟩
               have HB2 := Lib.hid hb
               clear hb
               go_wp2_with fail
               go_roundw
               case rel =>
                refine ⟨j + 1, by omega, by go_num, Lib.hid (fun x hx => ?_), HB2⟩
                by_cases e : x = j
                · rw [e]; exact HE.out
                · exact HJ.out x (by omega)
               case measure => simp [intOf]; omega
             · have IJ : ((i : Int) == (j : Int)) = true := by simp; omega
               have IZ : ((i : Int) == 0) = false := by simp; omega
               have V1 : (v != 1) = false := by simp; omega
               rw [lv] at v9
               have V9 := Lib.hid v9
               have HE := Lib.hid (show okI n l i j = true by rw [hok, lv]; simp; omega)
               clear hok v9 lv ij v1 i0
               go_wp2_with fail
               refine (A8.out _ HBj.out).mono ?_
               rintro e w2 ⟨rfl, hb⟩
               obtain ⟨c0, c1⟩ := KS.out _ hb
               go_wp2_with fail
               refine (V9.out _).mono ?_
               rintro e w3 ⟨rfl, rfl⟩
               have HB2 := Lib.hid hb
               clear hb
               go_wp2_with fail
               go_roundw
               case rel =>
                refine ⟨j + 1, by omega, by go_num, Lib.hid (fun x hx => ?_), HB2⟩
                by_cases e : x = j
                · rw [e]; exact HE.out
                · exact HJ.out x (by omega)
               case measure => simp [intOf]; omega
           · have IJ : ((i : Int) == (j : Int)) = true := by simp; omega
             have V1 : (v != 1) = true := by simp; omega
             rw [lv] at v9
             have V9 := Lib.hid v9
             have HE := Lib.hid (chkE_bad3 (l := l) (n := n) (i := i) (j := j) (by omega) (by omega) (by rw [hok, lv]; simp; omega))
             clear hok v9 lv ij v1
             go_wp2_with fail
             refine (A8.out _ HBj.out).mono ?_
             rintro e w2 ⟨rfl, hb⟩
             obtain ⟨c0, c1⟩ := KS.out _ hb
             go_wp2_with fail
             refine (V9.out _).mono ?_
             rintro e w3 ⟨rfl, rfl⟩
             go_wp2_with fail
             go_ret
             exact ⟨ret_int HE.out.symm, below_on E0.out hb⟩
         · by_cases i0 : i = 0
           · by_cases v1 : v ≤ 1
             · have IJ : ((i : Int) == (j : Int)) = false := by simp; omega
               have IZ : ((i : Int) == 0) = true := by simp; omega
               have V2 : decide ((1 : Int) < v) = false := by simp; omega
               rw [lv] at v9
               have V9 := Lib.hid v9
               have HE := Lib.hid (show okI n l i j = true by rw [hok, lv]; simp; omega)
               clear hok v9 lv ij v1 i0
               go_wp2_with fail
               refine (A8.out _ HBj.out).mono ?_
               rintro e w2 ⟨rfl, hb⟩
               obtain ⟨c0, c1⟩ := KS.out _ hb
               go_wp2_with fail
               refine (V9.out _).mono ?_
               rintro e w3 ⟨rfl, rfl⟩
               have HB2 := Lib.hid hb
               clear hb
               go_wp2_with fail
               go_roundw
               case rel =>
                refine ⟨j + 1, by omega, by go_num, Lib.hid (fun x hx => ?_), HB2⟩
                by_cases e : x = j
                · rw [e]; exact HE.out
                · exact HJ.out x (by omega)
               case measure => simp [intOf]; omega
             · have IJ : ((i : Int) == (j : Int)) = false := by simp; omega
               have IZ : ((i : Int) == 0) = true := by simp; omega
               have V2 : decide ((1 : Int) < v) = true := by simp; omega
               rw [lv] at v9
               have V9 := Lib.hid v9
               have HE := Lib.hid (chkE_bad3 (l := l) (n := n) (i := i) (j := j) (by omega) (by omega) (by rw [hok, lv]; simp; omega))
               clear hok v9 lv ij v1 i0
               go_wp2_with fail
               refine (A8.out _ HBj.out).mono ?_
               rintro e w2 ⟨rfl, hb⟩
               obtain ⟨c0, c1⟩ := KS.out _ hb
               go_wp2_with fail
               refine (V9.out _).mono ?_
               rintro e w3 ⟨rfl, rfl⟩
               go_wp2_with fail
               go_ret
               exact ⟨ret_int HE.out.symm, below_on E0.out hb⟩
           · have IJ : ((i : Int) == (j : Int)) = false := by simp; omega
             have IZ : ((i : Int) == 0) = false := by simp; omega
             rw [lv] at v9
             have V9 := Lib.hid v9
             have HE := Lib.hid (show okI n l i j = true by rw [hok, lv]; simp; omega)
             clear hok v9 lv ij i0
             go_wp2_with fail
             refine (A8.out _ HBj.out).mono ?_
             rintro e w2 ⟨rfl, hb⟩
             obtain ⟨c0, c1⟩ := KS.out _ hb
             go_wp2_with fail
             refine (V9.out _).mono ?_
             rintro e w3 ⟨rfl, rfl⟩
             have HB2 := Lib.hid hb
             clear hb
             go_wp2_with fail
             go_roundw
             case rel =>
              refine ⟨j + 1, by omega, by go_num, Lib.hid (fun x hx => ?_), HB2⟩
              by_cases e : x = j
              · rw [e]; exact HE.out
              · exact HJ.out x (by omega)
             case measure => simp [intOf]; omega
     · have HI2 := Lib.hid (show ∀ x, x < i + 1 → ∀ j, j < n + 1 → okI n l x j = true from fun x hx y hy => by
        by_cases e : x = i
        · rw [e]; exact HJ.out y (by omega)
        · exact HI.out x (by omega) y hy)
       go_wp2_with fail
       go_roundw
       case rel => exact ⟨i + 1, by omega, by go_num, HI2, HBj⟩
       case measure => simp [intOf]; omega
  · have HI2 := Lib.hid (show ∀ x, x < n + 1 → ∀ j, j < n + 1 → okI n l x j = true from fun x hx y hy => HI.out x (by omega) y hy)
    go_wp2_with fail
    clear c0 c1
    go_loopw [6] (fun s wr => ∃ t : Nat, t ≤ n + 1 ∧ s = .int .i64 t ∧ Hid (∀ i, i < t → ∀ j, j < n + 1 → ∀ k, k < n + 1 → okT n l i j k = true) ∧ Hid (Below w0.heap.size w0 wr)) (fun s _ => n + 1 - (intOf s).toNat)
    case atStart => exact ⟨0, by omega, rfl, Lib.hid (fun i hi => by omega), HB⟩
    case round =>
     obtain ⟨x, hx, rfl, HX, HBx⟩ := hrel
     obtain ⟨c0, c1⟩ := KS.out _ HBx.out
     by_cases hxn : x ≤ n
     · go_wp2_with fail
       clear c0 c1
       go_loopw [7] (fun s wr => ∃ t : Nat, t ≤ n + 1 ∧ s = .int .i64 t ∧ Hid (∀ j, j < t → ∀ k, k < n + 1 → okT n l x j k = true) ∧ Hid (Below w0.heap.size w0 wr)) (fun s _ => n + 1 - (intOf s).toNat)
       case atStart => exact ⟨0, by omega, rfl, Lib.hid (fun j hj => by omega), HBx⟩
       case round =>
        obtain ⟨y, hy, rfl, HY, HBy⟩ := hrel
        obtain ⟨c0, c1⟩ := KS.out _ HBy.out
        by_cases hyn : y ≤ n
        · go_wp2_with fail
          clear c0 c1
          go_loopw [8] (fun s wr => ∃ t : Nat, t ≤ n + 1 ∧ s = .int .i64 t ∧ Hid (∀ k, k < t → okT n l x y k = true) ∧ Hid (Below w0.heap.size w0 wr)) (fun s _ => n + 1 - (intOf s).toNat)
          case atStart => exact ⟨0, by omega, rfl, Lib.hid (fun k hk => by omega), HBy⟩
          case round =>
           obtain ⟨z, hz, rfl, HZ, HBz⟩ := hrel
           obtain ⟨c0, c1⟩ := KS.out _ HBz.out
           by_cases hzn : z ≤ n
           · have HT := Lib.hid (show okT n l x y z = decide (Zo.At n l x y ≤ Zo.smW (Zo.At n l x z) (Zo.At n l z y)) from rfl)
             go_wp2_with fail
             have s1 := HBz.out.drew
             go_region_held3 (fun w' => w'.cell? ⟨w.heap.size, 0, none⟩ = some (.int .i64 n) ∧ w'.cell? ⟨w.heap.size, 1, none⟩ = some (.slice (some a) len cap)) (first | exact KS.out _ (by assumption))
              (first | (go_at_call 85; refine (A9.out _ _ (by assumption) (by assumption) _ (by assumption)).mono ?_; rintro e w2 ⟨rfl, s2⟩) | (go_at_call 87; refine (M9.out _ _ _ (by assumption)).mono ?_; rintro e w3 ⟨rfl, s3⟩))
             all_goals
              have S3 := Lib.hid s3
              clear s3
              generalize Zo.At n l x y = p at *
              generalize Zo.smW (Zo.At n l x z) (Zo.At n l z y) = q at *
              by_cases hpq : p ≤ q
              · have HT2 := Lib.hid (show okT n l x y z = true by rw [HT.out]; simpa using hpq)
                have D : decide (q < p) = false := by simp; omega
                go_wp2_with fail
                go_roundw
                case rel =>
                 refine ⟨z + 1, by omega, by go_num, Lib.hid (fun k hk => ?_), S3⟩
                 by_cases e : k = z
                 · rw [e]; exact HT2.out
                 · exact HZ.out k (by omega)
                case measure => simp [intOf]; omega
              · have HE := Lib.hid (chkE_bad4 (l := l) (n := n) (i := x) (j := y) (k := z) (by omega) (by omega) (by omega) (by rw [HT.out]; simpa using hpq))
                have D : decide (q < p) = true := by simp; omega
                go_wp2_with fail
                go_ret
                exact ⟨ret_int HE.out.symm, below_on E0.out S3.out⟩
           · have HY2 := Lib.hid (show ∀ j, j < y + 1 → ∀ k, k < n + 1 → okT n l x j k = true from fun j hj k hk => by
              by_cases e : j = y
              · rw [e]; exact HZ.out k (by omega)
              · exact HY.out j (by omega) k hk)
             go_wp2_with fail
             go_roundw
             case rel => exact ⟨y + 1, by omega, by go_num, HY2, HBz⟩
             case measure => simp [intOf]; omega
        · have HX2 := Lib.hid (show ∀ i, i < x + 1 → ∀ j, j < n + 1 → ∀ k, k < n + 1 → okT n l i j k = true from fun i hi j hj k hk => by
           by_cases e : i = x
           · rw [e]; exact HY.out j (by omega) k hk
           · exact HX.out i (by omega) j hj k hk)
          go_wp2_with fail
          go_roundw
          case rel => exact ⟨x + 1, by omega, by go_num, HX2, HBy⟩
          case measure => simp [intOf]; omega
     · have HE := Lib.hid (chkE_ok hn HL.out HI2.out (fun i hi j hj k hk => HX.out i (by omega) j hj k hk))
       go_wp2_with fail
       go_ret
       exact ⟨ret_int HE.out.symm, below_on E0.out HBx.out⟩
end Go.Proofs.YthjapmdfcbngmaaGreat
