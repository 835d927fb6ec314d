/- A part. -/
import Derived.Test.YtaegiihkgicdnaaGreatWt8

namespace Go.Proofs.YtaegiihkgicdnaaGreat
open Go.RowKit

set_option maxHeartbeats 400000 in
theorem miat_any (n i j : Nat) (l : List Int) (a : Addr) (cap : Nat) (w : World) (hn : n ≤ 10) (hi : i ≤ n) (hj : j ≤ n) (hl : l.length = (n + 1) * (n + 1)) (h : Rd w a l) :
    Calls Tryz.prog 177 #[.agg #[.int .i64 n, .slice (some a) l.length cap], .int .i64 i, .int .i64 j] w (Made (.int .i64 (Zo.At n l i j)) w) := by
  have t1 := Zo.ix_lt hi hj
  have t2 : (i : Int) * ((n : Int) + 1) + (j : Int) < (l.length : Int) := by rw [hl]; exact_mod_cast t1
  have t3 : (i : Int) * ((n : Int) + 1) ≤ 110 ∧ 0 ≤ (i : Int) * ((n : Int) + 1) := by
    have : i * (n + 1) ≤ 10 * 11 := Nat.mul_le_mul (by omega) (by omega)
    constructor
    · exact_mod_cast this
    · exact_mod_cast Nat.zero_le _
  have hc : ∀ o : Obj, (w.alloc o).cell? (a.add (i * (n + 1) + j)) = some (.int .i64 (Zo.At n l i j)) := fun o => kept (one_more o) (h _ (by rw [hl]; exact t1))
  clear h t1 hl
  go_enter Tryz.func177, Tryz.ntmps177
  go_wp2_with fail
  go_ret
  exact ⟨rfl, one_more _⟩

set_option maxHeartbeats 400000 in
theorem mrat_any (n i j : Nat) (l : List Int) (a : Addr) (cap : Nat) (w : World) (hn : n ≤ 10) (hi : i ≤ n) (hj : j ≤ n) (hl : l.length = (n + 1) * (n + 1)) (h : Rd w a l) :
    Calls Tryz.prog 138 #[.agg #[.int .i64 n, .slice (some a) l.length cap], .int .i64 i, .int .i64 j] w (Made (.int .i64 (Zo.At n l i j)) w) := by
  have t1 := Zo.ix_lt hi hj
  have t2 : (i : Int) * ((n : Int) + 1) + (j : Int) < (l.length : Int) := by rw [hl]; exact_mod_cast t1
  have t3 : (i : Int) * ((n : Int) + 1) ≤ 110 ∧ 0 ≤ (i : Int) * ((n : Int) + 1) := by
    have : i * (n + 1) ≤ 10 * 11 := Nat.mul_le_mul (by omega) (by omega)
    constructor
    · exact_mod_cast this
    · exact_mod_cast Nat.zero_le _
  have hc : ∀ o : Obj, (w.alloc o).cell? (a.add (i * (n + 1) + j)) = some (.int .i64 (Zo.At n l i j)) := fun o => kept (one_more o) (h _ (by rw [hl]; exact t1))
  clear h t1 hl
  go_enter Tryz.func138, Tryz.ntmps138
  go_wp2_with fail
  go_ret
  exact ⟨rfl, one_more _⟩

def bdB (n : Nat) (l : List Int) (i j : Nat) : Bool := decide (Zo.smW (Zo.At n l i j) (Zo.At n l j i) = 1)

set_option maxHeartbeats 1600000 in
theorem rbound_any (n i j : Nat) (l : List Int) (a : Addr) (cap : Nat) (w : World) (hn : n ≤ 10) (hi : i ≤ n) (hj : j ≤ n) (hl : l.length = (n + 1) * (n + 1)) (h : Rd w a l) :
    Calls Tryz.prog 161 #[.agg #[.int .i64 n, .slice (some a) l.length cap], .int .i64 i, .int .i64 j] w (Made (.bool (bdB n l i j)) w) := by
  obtain ⟨len, hlen⟩ : ∃ len, len = l.length := ⟨_, rfl⟩
  obtain ⟨w0, hw0⟩ : ∃ w0, w0 = w.alloc (.cells #[.int .i64 n, .slice (some a) len cap] 36) := ⟨_, rfl⟩
  have bx : Two w0 w.heap.size (.int .i64 n) (.slice (some a) len cap) := by rw [hw0]; exact Two.made _ _ _ _
  have e0 : Below w.heap.size w w0 := by rw [hw0]; exact one_more _
  have AT := Lib.hid (show ∀ (i j : Nat) (W : World), i ≤ n → j ≤ n → Below w.heap.size w W → Calls Tryz.prog 138 #[.agg #[.int .i64 n, .slice (some a) len cap], .int .i64 i, .int .i64 j] W (Made (.int .i64 (Zo.At n l i j)) W) from fun i j W hi hj h' => by have := mrat_any n i j l a cap W hn hi hj hl (h.on h'); rw [← hlen] at this; exact this)
  have KS := Lib.hid (show ∀ W : World, Below w0.heap.size w0 W → (W.cell? ⟨w.heap.size, 0, none⟩ = some (.int .i64 n) ∧ W.cell? ⟨w.heap.size, 1, none⟩ = some (.slice (some a) len cap)) from
    fun W h => ⟨(bx.kept h).facts.1, (bx.kept h).facts.2.1⟩)
  have A1 := Lib.hid (fun W h => AT.out i j W hi hj h)
  have A2 := Lib.hid (fun W h => AT.out j i W hj hi h)
  have HB := Lib.hid (show bdB n l i j = decide (Zo.smW (Zo.At n l i j) (Zo.At n l j i) = 1) from rfl)
  have E0 := Lib.hid e0
  have HW0 := Lib.hid hw0
  rw [← hlen]
  clear AT
  generalize bdB n l i j = bb at *
  generalize Zo.At n l i j = x at *
  generalize Zo.At n l j i = y at *
  have SM := Lib.hid (fun W => sum2_any x y W)
  generalize Zo.smW x y = s at *
  clear hlen hl h bx e0 hw0
  go_enter Tryz.func161, Tryz.ntmps161
  go_wp2_with fail
  rw [← HW0.out]
  have s1 : Below w0.heap.size w0 w0.drew := (Below.refl _ _).drew
  go_region_held3 (fun w' => (w'.cell? ⟨w.heap.size, 0, none⟩ = some (.int .i64 n) ∧ w'.cell? ⟨w.heap.size, 1, none⟩ = some (.slice (some a) len cap))) (first | exact KS.out _ s1 | exact KS.out _ s7 | exact KS.out _ s8)
    (first | (go_at_call 138; ((with_reducible refine (A1.out _ (below_on E0.out s1)).mono ?_)); rintro e w7 ⟨rfl, hb7⟩; have s7 := below_on s1 hb7) | (go_at_call 138; ((with_reducible refine (A2.out _ (below_on E0.out s7)).mono ?_)); rintro e w8 ⟨rfl, hb8⟩; have s8 := below_on s7 hb8) | (go_at_call 87; refine (SM.out _).mono ?_; rintro e w9 ⟨rfl, rfl⟩))
  have Q8 := Lib.hid s8
  clear s1 s7 s8 hb7 hb8
  go_wp2_with fail
  go_ret
  exact ⟨ret_bool (HB.out.trans rfl).symm, below_on E0.out Q8.out⟩

def suB (a b c : Int) : Bool := decide (adE a b = 0) && decide (adL a b = c)

set_option maxHeartbeats 1600000 in
theorem areb_any (n i j : Nat) (l : List Int) (a : Addr) (cap : Nat) (w : World) (hn : n ≤ 10) (hi : i ≤ n) (hj : j ≤ n) (hl : l.length = (n + 1) * (n + 1)) (hv : ∀ i j, i ≤ n → j ≤ n → I64 (Zo.At n l i j)) (h : Rd w a l) :
    Calls Tryz.prog 178 #[.agg #[.int .i64 n, .slice (some a) l.length cap], .int .i64 i, .int .i64 j] w (Made (.bool (suB (Zo.At n l i j) (Zo.At n l j i) 1)) w) := by
  obtain ⟨len, hlen⟩ : ∃ len, len = l.length := ⟨_, rfl⟩
  obtain ⟨w0, hw0⟩ : ∃ w0, w0 = w.alloc (.cells #[.int .i64 n, .slice (some a) len cap] 36) := ⟨_, rfl⟩
  have bx : Two w0 w.heap.size (.int .i64 n) (.slice (some a) len cap) := by rw [hw0]; exact Two.made _ _ _ _
  have e0 : Below w.heap.size w w0 := by rw [hw0]; exact one_more _
  have AT := Lib.hid (show ∀ (i j : Nat) (W : World), i ≤ n → j ≤ n → Below w.heap.size w W → Calls Tryz.prog 177 #[.agg #[.int .i64 n, .slice (some a) len cap], .int .i64 i, .int .i64 j] W (Made (.int .i64 (Zo.At n l i j)) W) from fun i j W hi hj h' => by have := miat_any n i j l a cap W hn hi hj hl (h.on h'); rw [← hlen] at this; exact this)
  have KS := Lib.hid (show ∀ W : World, Below w0.heap.size w0 W → (W.cell? ⟨w.heap.size, 0, none⟩ = some (.int .i64 n) ∧ W.cell? ⟨w.heap.size, 1, none⟩ = some (.slice (some a) len cap)) from
    fun W h => ⟨(bx.kept h).facts.1, (bx.kept h).facts.2.1⟩)
  have A1 := Lib.hid (fun W h => AT.out i j W hi hj h)
  have A2 := Lib.hid (fun W h => AT.out j i W hj hi h)
  have HB := Lib.hid (show suB (Zo.At n l i j) (Zo.At n l j i) 1 = (decide (adE (Zo.At n l i j) (Zo.At n l j i) = 0) && decide (adL (Zo.At n l i j) (Zo.At n l j i) = 1)) from rfl)
  have E0 := Lib.hid e0
  have HW0 := Lib.hid hw0
  have V1 := hv i j hi hj
  have V2 := hv j i hj hi
  rw [← hlen]
  clear AT hv
  generalize suB (Zo.At n l i j) (Zo.At n l j i) 1 = bb at *
  generalize Zo.At n l i j = x at *
  generalize Zo.At n l j i = y at *
  have SM := Lib.hid (fun W => limAdd_any x y W V1 V2)
  generalize adL x y = s at *
  generalize adE x y = er at *
  clear hlen hl h bx e0 hw0 V1 V2
  go_enter Tryz.func178, Tryz.ntmps178
  go_wp2_with fail
  rw [← HW0.out]
  have s1 : Below w0.heap.size w0 w0.drew := (Below.refl _ _).drew
  go_region_held3 (fun w' => (w'.cell? ⟨w.heap.size, 0, none⟩ = some (.int .i64 n) ∧ w'.cell? ⟨w.heap.size, 1, none⟩ = some (.slice (some a) len cap))) (first | exact KS.out _ s1 | exact KS.out _ s7 | exact KS.out _ s8)
    (first | (go_at_call 177; ((with_reducible refine (A1.out _ (below_on E0.out s1)).mono ?_)); rintro e w7 ⟨rfl, hb7⟩; have s7 := below_on s1 hb7) | (go_at_call 177; ((with_reducible refine (A2.out _ (below_on E0.out s7)).mono ?_)); rintro e w8 ⟨rfl, hb8⟩; have s8 := below_on s7 hb8) | (go_at_call 190; refine (SM.out _).mono ?_; rintro e w9 ⟨rfl, rfl⟩))
  have Q8 := Lib.hid s8
  clear s1 s7 s8 hb7 hb8
  by_cases he : er = 0
  · have HBB := Lib.hid (show bb = decide (s = 1) by rw [HB.out, he]; rfl)
    subst he
    go_wp2_with fail
    go_ret
    exact ⟨ret_bool (HBB.out.trans rfl).symm, below_on E0.out Q8.out⟩
  · have HBB := Lib.hid (show bb = false by rw [HB.out]; simp [he])
    have D : (er == 0) = false := by simpa using he
    clear he
    go_wp2_with fail
    go_ret
    exact ⟨ret_bool HBB.out.symm, below_on E0.out Q8.out⟩
end Go.Proofs.YtaegiihkgicdnaaGreat

namespace Go.Proofs.YtaegiihkgicdnaaGreat
open Go.RowKit

def plB (n : Nat) (l : List Int) (i j : Nat) : Bool := decide (i = 0) && decide (Zo.At n l i j = 1)

set_option maxHeartbeats 1600000 in
theorem plain_any (n i j : Nat) (l : List Int) (a : Addr) (cap : Nat) (w : World) (hn : n ≤ 10) (hi : i ≤ n) (hj : j ≤ n) (hl : l.length = (n + 1) * (n + 1)) (h : Rd w a l) :
    Calls Tryz.prog 192 #[.agg #[.int .i64 n, .slice (some a) l.length cap], .int .i64 i, .int .i64 j] w (Made (.bool (plB n l i j)) w) := by
  obtain ⟨len, hlen⟩ : ∃ len, len = l.length := ⟨_, rfl⟩
  obtain ⟨w0, hw0⟩ : ∃ w0, w0 = w.alloc (.cells #[.int .i64 n, .slice (some a) len cap] 36) := ⟨_, rfl⟩
  have bx : Two w0 w.heap.size (.int .i64 n) (.slice (some a) len cap) := by rw [hw0]; exact Two.made _ _ _ _
  have E0 := Lib.hid (show Below w.heap.size w w0 by rw [hw0]; exact one_more _)
  have A1 := Lib.hid (show ∀ W, Below w.heap.size w W → Calls Tryz.prog 177 #[.agg #[.int .i64 n, .slice (some a) len cap], .int .i64 i, .int .i64 j] W (Made (.int .i64 (Zo.At n l i j)) W) from fun W h' => by have := miat_any n i j l a cap W hn hi hj hl (h.on h'); rw [← hlen] at this; exact this)
  have HW0 := Lib.hid hw0
  rw [← hlen]
  by_cases h0 : i = 0
  · have H := Lib.hid (show plB n l i j = decide (Zo.At n l i j = 1) by unfold plB; simp [h0])
    have D : ((i : Int) == 0) = true := by simp; omega
    generalize plB n l i j = bb at *
    generalize Zo.At n l i j = x at *
    clear hlen hl h hw0 h0
    obtain ⟨b0, b1, b2, b3⟩ := bx.facts
    clear bx
    go_enter Tryz.func192, Tryz.ntmps192
    go_wp2_with fail
    rw [← HW0.out]
    go_wp2_with fail
    refine (A1.out _ E0.out).mono ?_
    rintro e w1 ⟨rfl, hb1⟩
    have B1 := Lib.hid (below_on E0.out hb1)
    clear hb1 b0 b1 b2 b3
    go_wp2_with fail
    go_ret
    exact ⟨ret_bool (H.out.trans rfl).symm, B1.out⟩
  · have H := Lib.hid (show plB n l i j = false by unfold plB; simp [h0])
    have D : ((i : Int) == 0) = false := by simp; omega
    generalize plB n l i j = bb at *
    clear hlen hl h hw0 h0 A1
    go_enter Tryz.func192, Tryz.ntmps192
    go_wp2_with fail
    rw [← HW0.out]
    go_ret
    exact ⟨ret_bool H.out.symm, E0.out⟩

set_option maxHeartbeats 1600000 in
theorem issum_any (n i k j : Nat) (l : List Int) (a : Addr) (cap : Nat) (w : World) (hn : n ≤ 10) (hi : i ≤ n) (hk : k ≤ n) (hj : j ≤ n) (hl : l.length = (n + 1) * (n + 1)) (hv : ∀ i j, i ≤ n → j ≤ n → I64 (Zo.At n l i j)) (h : Rd w a l) :
    Calls Tryz.prog 193 #[.agg #[.int .i64 n, .slice (some a) l.length cap], .int .i64 i, .int .i64 k, .int .i64 j] w (Made (.bool (suB (Zo.At n l i k) (Zo.At n l k j) (Zo.At n l i j))) w) := by
  obtain ⟨len, hlen⟩ : ∃ len, len = l.length := ⟨_, rfl⟩
  obtain ⟨w0, hw0⟩ : ∃ w0, w0 = w.alloc (.cells #[.int .i64 n, .slice (some a) len cap] 36) := ⟨_, rfl⟩
  have bx : Two w0 w.heap.size (.int .i64 n) (.slice (some a) len cap) := by rw [hw0]; exact Two.made _ _ _ _
  have e0 : Below w.heap.size w w0 := by rw [hw0]; exact one_more _
  have AT := Lib.hid (show ∀ (i j : Nat) (W : World), i ≤ n → j ≤ n → Below w.heap.size w W → Calls Tryz.prog 177 #[.agg #[.int .i64 n, .slice (some a) len cap], .int .i64 i, .int .i64 j] W (Made (.int .i64 (Zo.At n l i j)) W) from fun i j W hi hj h' => by have := miat_any n i j l a cap W hn hi hj hl (h.on h'); rw [← hlen] at this; exact this)
  have KS := Lib.hid (show ∀ W : World, Below w0.heap.size w0 W → (W.cell? ⟨w.heap.size, 0, none⟩ = some (.int .i64 n) ∧ W.cell? ⟨w.heap.size, 1, none⟩ = some (.slice (some a) len cap)) from
    fun W h => ⟨(bx.kept h).facts.1, (bx.kept h).facts.2.1⟩)
  have A1 := Lib.hid (fun W h => AT.out i k W hi hk h)
  have A2 := Lib.hid (fun W h => AT.out k j W hk hj h)
  have A3 := Lib.hid (fun W h => AT.out i j W hi hj h)
  have HB := Lib.hid (show suB (Zo.At n l i k) (Zo.At n l k j) (Zo.At n l i j) = (decide (adE (Zo.At n l i k) (Zo.At n l k j) = 0) && decide (adL (Zo.At n l i k) (Zo.At n l k j) = (Zo.At n l i j))) from rfl)
  have E0 := Lib.hid e0
  have HW0 := Lib.hid hw0
  have V1 := hv i k hi hk
  have V2 := hv k j hk hj
  rw [← hlen]
  clear AT hv
  generalize suB (Zo.At n l i k) (Zo.At n l k j) (Zo.At n l i j) = bb at *
  generalize Zo.At n l i k = x at *
  generalize Zo.At n l k j = y at *
  generalize Zo.At n l i j = z at *
  have SM := Lib.hid (fun W => limAdd_any x y W V1 V2)
  generalize adL x y = s at *
  generalize adE x y = er at *
  clear hlen hl h bx e0 hw0 V1 V2
  go_enter Tryz.func193, Tryz.ntmps193
  go_wp2_with fail
  rw [← HW0.out]
  have s1 : Below w0.heap.size w0 w0.drew := (Below.refl _ _).drew
  go_region_held3 (fun w' => (w'.cell? ⟨w.heap.size, 0, none⟩ = some (.int .i64 n) ∧ w'.cell? ⟨w.heap.size, 1, none⟩ = some (.slice (some a) len cap))) (first | exact KS.out _ s1 | exact KS.out _ s7 | exact KS.out _ s8)
    (first | (go_at_call 177; ((with_reducible refine (A1.out _ (below_on E0.out s1)).mono ?_)); rintro e w7 ⟨rfl, hb7⟩; have s7 := below_on s1 hb7) | (go_at_call 177; ((with_reducible refine (A2.out _ (below_on E0.out s7)).mono ?_)); rintro e w8 ⟨rfl, hb8⟩; have s8 := below_on s7 hb8) | (go_at_call 190; refine (SM.out _).mono ?_; rintro e w9 ⟨rfl, rfl⟩))
  have Q8 := Lib.hid s8
  clear s1 s7 s8 hb7 hb8
  obtain ⟨b0, b1⟩ := KS.out _ Q8.out
  by_cases he : er = 0
  · have HBB := Lib.hid (show bb = decide (s = z) by rw [HB.out, he]; rfl)
    subst he
    go_wp2_with fail
    refine (A3.out _ (below_on E0.out Q8.out)).mono ?_
    rintro e w1 ⟨rfl, hb1⟩
    have B1 := Lib.hid (below_on (below_on E0.out Q8.out) hb1)
    clear hb1 b0 b1
    go_wp2_with fail
    go_ret
    exact ⟨ret_bool (HBB.out.trans rfl).symm, B1.out⟩
  · have HBB := Lib.hid (show bb = false by rw [HB.out]; simp [he])
    have D : (er == 0) = false := by simpa using he
    clear he
    go_wp2_with fail
    go_ret
    exact ⟨ret_bool HBB.out.symm, below_on E0.out Q8.out⟩
end Go.Proofs.YtaegiihkgicdnaaGreat

namespace Go.Proofs.YtaegiihkgicdnaaGreat
open Go.RowKit

def fiB (n : Nat) (l : List Int) (i : Nat) : Bool := (List.range i).all fun k => !bdB n l k i

theorem fiB_yes {n i : Nat} {l : List Int} (h : ∀ k, k < i → bdB n l k i = false) : fiB n l i = true := by
  unfold fiB; rw [List.all_eq_true]; intro k hk; rw [h k (List.mem_range.1 hk)]; rfl

theorem fiB_no {n i k : Nat} {l : List Int} (hk : k < i) (h : bdB n l k i = true) : fiB n l i = false := by
  unfold fiB; rw [List.all_eq_false]; exact ⟨k, List.mem_range.2 hk, by rw [h]; simp⟩

theorem fiB_iff {n i : Nat} {l : List Int} : fiB n l i = true ↔ ∀ k, k < i → bdB n l k i = false := by
  unfold fiB; simp

def btB (i j k : Nat) : Bool := (decide (i < j) && decide (i < k) && decide (k < j)) || (decide (j < i) && (decide (i < k) || decide (k < j)))

def skB (n : Nat) (l : List Int) (i j k : Nat) : Bool := decide (k = i) || decide (k = j) || !bdB n l k i

def nxB (n : Nat) (l : List Int) (i j : Nat) : Bool := (List.range (n + 1)).all fun k => skB n l i j k || !btB i j k

theorem nxB_yes {n i j : Nat} {l : List Int} (h : ∀ k, k < n + 1 → (skB n l i j k || !btB i j k) = true) : nxB n l i j = true := by
  unfold nxB; rw [List.all_eq_true]; intro k hk; exact h k (List.mem_range.1 hk)

theorem nxB_no {n i j k : Nat} {l : List Int} (hk : k < n + 1) (h1 : skB n l i j k = false) (h2 : btB i j k = true) : nxB n l i j = false := by
  unfold nxB; rw [List.all_eq_false]; exact ⟨k, List.mem_range.2 hk, by rw [h1, h2]; simp⟩

theorem zbox (n : Nat) (a : Addr) (len cap : Nat) (w : World) : ∃ w0, w0 = w.alloc (.cells #[.int .i64 n, .slice (some a) len cap] 36) ∧ Below w.heap.size w w0 ∧
    (∀ W : World, Below w0.heap.size w0 W → (W.cell? ⟨w.heap.size, 0, none⟩ = some (.int .i64 n) ∧ W.cell? ⟨w.heap.size, 1, none⟩ = some (.slice (some a) len cap))) := by
  refine ⟨_, rfl, one_more _, fun W h => ?_⟩
  have bx := (Two.made w (.int .i64 n) (.slice (some a) len cap) 36).kept h
  exact ⟨bx.facts.1, bx.facts.2.1⟩

theorem rbound_len {n : Nat} {l : List Int} {a : Addr} {cap len : Nat} {w : World} (hn : n ≤ 10) (hl : l.length = (n + 1) * (n + 1)) (h : Rd w a l) (hlen : len = l.length) :
    ∀ (i j : Nat) (W : World), i ≤ n → j ≤ n → Below w.heap.size w W → Calls Tryz.prog 161 #[.agg #[.int .i64 n, .slice (some a) len cap], .int .i64 i, .int .i64 j] W (Made (.bool (bdB n l i j)) W) := by
  intro i j W hi hj h'
  have := rbound_any n i j l a cap W hn hi hj hl (h.on h')
  rw [← hlen] at this; exact this

theorem bound_as {b c : Bool} {n i j : Nat} {a : Addr} {len cap : Nat} {W : World} (h : Calls Tryz.prog 161 #[.agg #[.int .i64 n, .slice (some a) len cap], .int .i64 i, .int .i64 j] W (Made (.bool b) W)) (e : b = c) :
    Calls Tryz.prog 161 #[.agg #[.int .i64 n, .slice (some a) len cap], .int .i64 i, .int .i64 j] W (Made (.bool c) W) := by rw [← e]; exact h

set_option maxHeartbeats 1600000 in
theorem first_any (n i : Nat) (l : List Int) (a : Addr) (cap : Nat) (w : World) (hn : n ≤ 10) (hi : i ≤ n) (hl : l.length = (n + 1) * (n + 1)) (h : Rd w a l) :
    Calls Tryz.prog 163 #[.agg #[.int .i64 n, .slice (some a) l.length cap], .int .i64 i] w (Made (.bool (fiB n l i)) w) := by
  obtain ⟨len, hlen⟩ : ∃ len, len = l.length := ⟨_, rfl⟩
  have BD := Lib.hid (rbound_len (cap := cap) hn hl h hlen)
  rw [← hlen]
  obtain ⟨w0, hw0, e0, ks⟩ := zbox n a len cap w
  have KS := Lib.hid ks
  have E0 := Lib.hid e0
  have HW0 := Lib.hid hw0
  have HN := Lib.hid hn
  clear ks e0 hw0 hlen hl h

  go_enter Tryz.func163, Tryz.ntmps163
  go_wp2_with fail
  rw [← HW0.out]
  go_loopw [5] (fun s wr => ∃ t : Nat, t ≤ i ∧ s = .int .i64 t ∧ Hid (∀ k, k < t → bdB n l k i = false) ∧ Hid (Below w0.heap.size w0 wr)) (fun s _ => i - (intOf s).toNat)
  case atStart => exact ⟨0, by omega, rfl, Lib.hid (fun k hk => by omega), Lib.hid (Below.refl _ _)⟩
  case round =>
    obtain ⟨t, ht, rfl, HK, HB⟩ := hrel
    obtain ⟨b0, b1⟩ := KS.out _ HB.out
    by_cases htn : t < i
    · cases hb : bdB n l t i
      · have HE := Lib.hid hb
        clear hb
        go_wp2_with fail
        refine (bound_as (BD.out t i _ (by omega) hi (below_on E0.out HB.out)) HE.out).mono ?_
        rintro e w1 ⟨rfl, hb1⟩
        have B1 := Lib.hid (below_on HB.out hb1)
        clear hb1 b0 b1
        go_wp2_with fail
        go_roundw
        case rel =>
          refine ⟨t + 1, by omega, by go_num, Lib.hid (fun k hk => ?_), B1⟩
          by_cases e : k = t
          · rw [e]; exact HE.out
          · exact HK.out k (by omega)
        case measure => simp [intOf]; omega
      · have HE := Lib.hid hb
        have HF := Lib.hid (fiB_no htn hb)
        clear hb
        go_wp2_with fail
        refine (bound_as (BD.out t i _ (by omega) hi (below_on E0.out HB.out)) HE.out).mono ?_
        rintro e w1 ⟨rfl, hb1⟩
        have B1 := Lib.hid (below_on HB.out hb1)
        clear hb1 b0 b1
        go_wp2_with fail
        go_ret
        exact ⟨ret_bool HF.out.symm, below_on E0.out B1.out⟩
    · have HF := Lib.hid (fiB_yes (n := n) (l := l) (i := i) (fun k hk => HK.out k (by omega)))
      go_wp2_with fail
      go_ret
      exact ⟨ret_bool HF.out.symm, below_on E0.out HB.out⟩

set_option maxHeartbeats 3200000 in
theorem rnext_any (n i j : Nat) (l : List Int) (a : Addr) (cap : Nat) (w : World) (hn : n ≤ 10) (hi : i ≤ n) (hj : j ≤ n) (hl : l.length = (n + 1) * (n + 1)) (h : Rd w a l) :
    Calls Tryz.prog 162 #[.agg #[.int .i64 n, .slice (some a) l.length cap], .int .i64 i, .int .i64 j] w (Made (.bool (nxB n l i j)) w) := by
  obtain ⟨len, hlen⟩ : ∃ len, len = l.length := ⟨_, rfl⟩
  have BD := Lib.hid (rbound_len (cap := cap) hn hl h hlen)
  rw [← hlen]
  obtain ⟨w0, hw0, e0, ks⟩ := zbox n a len cap w
  have KS := Lib.hid ks
  have E0 := Lib.hid e0
  have HW0 := Lib.hid hw0
  have HN := Lib.hid hn
  clear ks e0 hw0 hlen hl h

  go_enter Tryz.func162, Tryz.ntmps162
  go_wp2_with fail
  rw [← HW0.out]
  go_loopw [7] (fun s wr => ∃ t : Nat, t ≤ n + 1 ∧ s = .int .i64 t ∧ Hid (∀ k, k < t → (skB n l i j k || !btB i j k) = true) ∧ Hid (Below w0.heap.size w0 wr)) (fun s _ => n + 1 - (intOf s).toNat)
  case atStart => exact ⟨0, by omega, rfl, Lib.hid (fun k hk => by omega), Lib.hid (Below.refl _ _)⟩
  case round =>
    obtain ⟨t, ht, rfl, HK, HB⟩ := hrel
    obtain ⟨b0, b1⟩ := KS.out _ HB.out
    by_cases htn : t ≤ n
    · have HS := Lib.hid (show (skB n l i j t || !btB i j t) = true → ∀ k, k < t + 1 → (skB n l i j k || !btB i j k) = true from fun h k hk => by
        by_cases e : k = t
        · rw [e]; exact h
        · exact HK.out k (by omega))
      by_cases ei : t = i
      · have D : ((t : Int) == (i : Int)) = true := by simp; omega
        have HT := Lib.hid (HS.out (by unfold skB; simp [ei]))
        clear ei
        go_wp2_with fail
        go_roundw
        case rel => exact ⟨t + 1, by omega, by go_num, HT, HB⟩
        case measure => simp [intOf]; omega
      have D : ((t : Int) == (i : Int)) = false := by simp; omega
      by_cases ej : t = j
      · have D2 : ((t : Int) == (j : Int)) = true := by simp; omega
        have HT := Lib.hid (HS.out (by unfold skB; simp [ej]))
        clear ei ej
        go_wp2_with fail
        go_roundw
        case rel => exact ⟨t + 1, by omega, by go_num, HT, HB⟩
        case measure => simp [intOf]; omega
      have D2 : ((t : Int) == (j : Int)) = false := by simp; omega
      cases hb : bdB n l t i
      · have HE := Lib.hid hb
        have HT := Lib.hid (HS.out (by unfold skB; simp [hb]))
        clear hb ei ej
        go_wp2_with fail
        refine (bound_as (BD.out t i _ (by omega) hi (below_on E0.out HB.out)) HE.out).mono ?_
        rintro e w1 ⟨rfl, hb1⟩
        have B1 := Lib.hid (below_on HB.out hb1)
        clear hb1 b0 b1
        go_wp2_with fail
        go_roundw
        case rel => exact ⟨t + 1, by omega, by go_num, HT, B1⟩
        case measure => simp [intOf]; omega
      · have HE := Lib.hid hb
        have HSK := Lib.hid (show skB n l i j t = false by unfold skB; simp [hb, ei, ej])
        clear hb ei ej
        go_wp2_with fail
        refine (bound_as (BD.out t i _ (by omega) hi (below_on E0.out HB.out)) HE.out).mono ?_
        rintro e w1 ⟨rfl, hb1⟩
        have B1 := Lib.hid (below_on HB.out hb1)
        clear hb1 b0 b1
        have HBT := Lib.hid (show btB i j t = ((decide (i < j) && decide (i < t) && decide (t < j)) || (decide (j < i) && (decide (i < t) || decide (t < j)))) from rfl)
        by_cases c1 : i < j <;> by_cases c2 : j < i <;> by_cases c3 : i < t <;> by_cases c4 : t < j
        all_goals first | (exfalso; omega) | skip
        all_goals
          cases hbt : btB i j t
          · have HT := Lib.hid (HS.out (by rw [hbt]; simp))
            first
            | (exfalso; rw [HBT.out] at hbt; simp [c1, c2, c3, c4] at hbt; done)
            | (clear hbt
               go_wp2_with fail
               go_roundw
               case rel => exact ⟨t + 1, by omega, by go_num, HT, B1⟩
               case measure => simp [intOf]; omega)
          · have HF := Lib.hid (nxB_no (by omega) HSK.out hbt)
            first
            | (exfalso; rw [HBT.out] at hbt; simp [c1, c2, c3, c4] at hbt; done)
            | (clear hbt
               go_wp2_with fail
               go_ret
               exact ⟨ret_bool HF.out.symm, below_on E0.out B1.out⟩)
    · have HF := Lib.hid (nxB_yes (n := n) (l := l) (i := i) (j := j) (fun k hk => HK.out k (by omega)))
      go_wp2_with fail
      go_ret
      exact ⟨ret_bool HF.out.symm, below_on E0.out HB.out⟩
end Go.Proofs.YtaegiihkgicdnaaGreat
