/- The contract of Copy of layer 3's reference; and of Reset of any zone.; Plain mathematics: constraints on what is closed; Reset and Copy in one closing.; Plain mathematics of layer 4: what keeps the reduced constraints and is closed is the zone.; Plain mathematics of layer 4: a cut that stays when a matrix is closed; without one of the reduced constraints there is such a cut.; Plain mathematics of layer 4: Build of the reduced constraints is the zone; Build without one of them is another one, or out of range.; Contracts of two, Includes, Meet and Hull of layer 3's reference.; MinimalBack: what its walk needs: a list without one of its elements.; MinimalBack: the walk, of long lists and of bad zones.; MinimalBack: the walk, of good zones. -/
import Derived.Test.YtbnebinpemejlaaG10
import Derived.Test.YtbnebinpemejlaaG12
import Derived.Test.YtbnebinpemejlaaG14
import Derived.Test.YtbnebinpemejlaaG9
import Derived.Test.YtbnebinpemejlaaRed1

namespace Go.Proofs.Ytbnebinpemejlaa
open Go.RowKit

def reG (N : Int) (l : List Int) (i c : Int) : Int := if chkE N l = 0 ∧ 1 ≤ i ∧ i ≤ N ∧ cnB c = true then reE N.toNat i.toNat c l else 2

theorem re_gen (N : Int) (l : List Int) (ao : Option Addr) (cap : Nat) (i c : Int) (w : World) (hA : Arg w ao l) :
    Calls Try.prog 31 #[.agg #[.int .i64 N, .slice ao l.length cap], .int .i64 i, .int .i64 c] w (ZRes w N (reL N.toNat i.toNat c l) (reG N l i c)) := by
  by_cases hc : chkE N l = 0
  · obtain ⟨n, rfl, hn, hl, hne⟩ := chk_ok hc
    obtain ⟨a, rfl, hR⟩ := hA hne
    by_cases h1 : i < 1
    · exact (re_out0 n l a cap i c w hn hl hR hc h1).mono fun e w' h => h.bad (by unfold reG; rw [if_neg (by omega)])
    by_cases h2 : (n : Int) < i
    · exact (re_out1 n l a cap i c w hn hl hR hc h1 h2).mono fun e w' h => h.bad (by unfold reG; rw [if_neg (by omega)])
    cases h3 : cnB c
    · exact (re_out2 n l a cap i c w hn hl hR hc h1 h2 h3).mono fun e w' h => h.bad (by unfold reG; rw [h3, if_neg (by simp)])
    obtain ⟨k, rfl⟩ : ∃ k : Nat, i = k := ⟨i.toNat, by omega⟩
    have := re_any n l a cap k c w hn hl hR hc (by omega) (by omega) h3
    rw [show reG (n : Int) l (k : Int) c = reE n k c l by unfold reG; rw [if_pos ⟨hc, by omega, by omega, h3⟩]; rfl]
    exact this
  · exact (re_bad N l ao cap i c w hA (chk_two hc)).mono fun e w' h => h.bad (by unfold reG; rw [if_neg (fun x => hc x.1)])

def cyL (n i j : Nat) (l : List Int) : List Int := Zo.clo n (anL n (isC i j 0) (reM n i l))

def cyE (n i j : Nat) (l : List Int) : Int := if cloE n (frL n i l) = 0 then anG n (isC i j 0) (reM n i l) else cloE n (frL n i l)

set_option maxHeartbeats 400000 in
theorem cy_bad (N : Int) (l : List Int) (ao : Option Addr) (cap : Nat) (i j : Int) (w : World) (hA : Arg w ao l) (hc : chkE N l = 2) :
    Calls Try.prog 37 #[.agg #[.int .i64 N, .slice ao l.length cap], .int .i64 i, .int .i64 j] w (ZRes w 0 [] 2) := by
  have CK := Lib.hid fun W (h : Below w.heap.size w W) => check_as (cap := cap) W (hA.on h) hc
  generalize l.length = len at *
  obtain ⟨w0, hw0⟩ : ∃ w0, w0 = (w.alloc (.cells #[.int .i64 N, .slice ao len cap] 25)).alloc (.cells #[.int .i64 0, .slice none 0 0] 25) := ⟨_, rfl⟩
  have bx : Two w0 w.heap.size (.int .i64 N) (.slice ao len cap) := by rw [hw0]; exact (Two.made _ _ _ _).alloc _
  have rs : Two w0 (w.heap.size + 1) (.int .i64 0) (.slice none 0 0) := by
    rw [hw0]
    have := Two.made (w.alloc (.cells #[.int .i64 N, .slice ao len cap] 25)) (.int .i64 0) (.slice none 0 0) 25
    simpa using this
  have e0 : Below w.heap.size w w0 := by rw [hw0]; exact past_two (Below.refl _ _)
  have E0 := Lib.hid e0
  clear e0 hA hc
  go_enter Try.func37, Try.ntmps37
  go_wp2_with fail
  rw [← hw0]
  clear hw0
  obtain ⟨b0, b1, b2, b3⟩ := bx.facts
  go_wp2_with fail
  refine (CK.out _ E0.out).mono ?_
  rintro e w1 ⟨rfl, hb1⟩
  clear b0 b1 b2 b3
  replace rs := rs.kept hb1
  replace E0 := Lib.hid (below_on E0.out hb1)
  clear hb1 bx
  obtain ⟨b0, b1, b2, b3⟩ := rs.facts
  go_wp2_with fail
  refine bodyPost_ret (v := .tuple #[.agg #[.int .i64 0, .slice none 0 0], .int .i64 2]) (by simp [results, Try.results37, go_sem, b0, b1]) rfl (zres_bad ?_)
  exact (E0.out.setCell (by show w.heap.size ≤ w.heap.size + 1; omega) _).setCell (by show w.heap.size ≤ w.heap.size + 1; omega) _

set_option maxHeartbeats 800000 in
theorem cy_out0 (n : Nat) (l : List Int) (a : Addr) (cap : Nat) (i j : Int) (w : World) (hn : n ≤ 10) (hl : l.length = (n + 1) * (n + 1)) (hR : Rd w a l) (hc : chkE n l = 0) (hi : i < 1) :
    Calls Try.prog 37 #[.agg #[.int .i64 n, .slice (some a) l.length cap], .int .i64 i, .int .i64 j] w (ZRes w 0 [] 2) := by
  obtain ⟨len, hlen⟩ : ∃ len, len = l.length := ⟨_, rfl⟩
  obtain ⟨w0, hw0⟩ : ∃ w0, w0 = (w.alloc (.cells #[.int .i64 n, .slice (some a) len cap] 25)).alloc (.cells #[.int .i64 0, .slice none 0 0] 25) := ⟨_, rfl⟩
  have bx : Two w0 w.heap.size (.int .i64 n) (.slice (some a) len cap) := by rw [hw0]; exact (Two.made _ _ _ _).alloc _
  have rs : Two w0 (w.heap.size + 1) (.int .i64 0) (.slice none 0 0) := by
    rw [hw0]
    have := Two.made (w.alloc (.cells #[.int .i64 n, .slice (some a) len cap] 25)) (.int .i64 0) (.slice none 0 0) 25
    simpa using this
  have z0 : w0.heap.size = w.heap.size + 2 := by rw [hw0]; simp
  have e0 : Below w.heap.size w w0 := by rw [hw0]; exact past_two (Below.refl _ _)
  have R0 := hR.on e0
  have CK : Hid (∀ W, Rd W a l → Calls Try.prog 18 #[.agg #[.int .i64 n, .slice (some a) len cap]] W (Made (.int .i64 0) W)) := Lib.hid fun W h => by have := check_any n l a cap W hn hl h; rw [hc, ← hlen] at this; exact this
  have CP : Hid (∀ W, Rd W a l → Calls Try.prog 66 #[.agg #[.int .i64 n, .slice (some a) len cap]] W (fun e w' => ∃ g c, e = .returned (.agg #[.int .i64 n, .slice (some ⟨g, 0, none⟩) len c]) ∧ W.heap.size ≤ g ∧ Own w' g c l ∧ Below W.heap.size W w')) := Lib.hid fun W h => by have := copied_any n l a cap W (by rw [hl]; exact dsq_pos n) (by rw [hl]; have := dsq_le hn; omega) h; rw [← hlen] at this; exact this
  have HR := Lib.hid R0
  have HL := Lib.hid hl
  have HLn := Lib.hid hlen
  have E0 := Lib.hid e0
  rw [← hlen]
  clear hR R0 hl hlen hc e0
  go_enter Try.func37, Try.ntmps37
  go_wp2_with fail
  rw [← hw0]
  clear hw0
  obtain ⟨b0, b1, b2, b3⟩ := bx.facts
  go_wp2_with fail
  refine (CK.out _ HR.out).mono ?_
  rintro e w1 ⟨rfl, hb1⟩
  clear b0 b1 b2 b3
  replace bx := bx.kept hb1
  replace rs := rs.kept hb1
  have HR1 := Lib.hid (HR.out.on hb1)
  have E1 := Lib.hid (below_on E0.out hb1)
  have z1 := hb1.size
  clear hb1 HR E0
  obtain ⟨b0, b1, b2, b3⟩ := bx.facts
  clear b0 b1 b2 b3
  obtain ⟨b0, b1, b2, b3⟩ := rs.facts
  obtain ⟨c0, c1, _, _⟩ := bx.facts
  go_wp2_with fail
  refine bodyPost_ret (v := .tuple #[.agg #[.int .i64 0, .slice none 0 0], .int .i64 2]) (by simp [results, Try.results37, go_sem, b0, b1]) rfl (zres_bad ?_)
  exact (E1.out.setCell (by show w.heap.size ≤ w.heap.size + 1; omega) _).setCell (by show w.heap.size ≤ w.heap.size + 1; omega) _

set_option maxHeartbeats 800000 in
theorem cy_out1 (n : Nat) (l : List Int) (a : Addr) (cap : Nat) (i j : Int) (w : World) (hn : n ≤ 10) (hl : l.length = (n + 1) * (n + 1)) (hR : Rd w a l) (hc : chkE n l = 0) (h1 : ¬ i < 1) (h2 : (n : Int) < i) :
    Calls Try.prog 37 #[.agg #[.int .i64 n, .slice (some a) l.length cap], .int .i64 i, .int .i64 j] w (ZRes w 0 [] 2) := by
  obtain ⟨len, hlen⟩ : ∃ len, len = l.length := ⟨_, rfl⟩
  obtain ⟨w0, hw0⟩ : ∃ w0, w0 = (w.alloc (.cells #[.int .i64 n, .slice (some a) len cap] 25)).alloc (.cells #[.int .i64 0, .slice none 0 0] 25) := ⟨_, rfl⟩
  have bx : Two w0 w.heap.size (.int .i64 n) (.slice (some a) len cap) := by rw [hw0]; exact (Two.made _ _ _ _).alloc _
  have rs : Two w0 (w.heap.size + 1) (.int .i64 0) (.slice none 0 0) := by
    rw [hw0]
    have := Two.made (w.alloc (.cells #[.int .i64 n, .slice (some a) len cap] 25)) (.int .i64 0) (.slice none 0 0) 25
    simpa using this
  have z0 : w0.heap.size = w.heap.size + 2 := by rw [hw0]; simp
  have e0 : Below w.heap.size w w0 := by rw [hw0]; exact past_two (Below.refl _ _)
  have R0 := hR.on e0
  have CK : Hid (∀ W, Rd W a l → Calls Try.prog 18 #[.agg #[.int .i64 n, .slice (some a) len cap]] W (Made (.int .i64 0) W)) := Lib.hid fun W h => by have := check_any n l a cap W hn hl h; rw [hc, ← hlen] at this; exact this
  have CP : Hid (∀ W, Rd W a l → Calls Try.prog 66 #[.agg #[.int .i64 n, .slice (some a) len cap]] W (fun e w' => ∃ g c, e = .returned (.agg #[.int .i64 n, .slice (some ⟨g, 0, none⟩) len c]) ∧ W.heap.size ≤ g ∧ Own w' g c l ∧ Below W.heap.size W w')) := Lib.hid fun W h => by have := copied_any n l a cap W (by rw [hl]; exact dsq_pos n) (by rw [hl]; have := dsq_le hn; omega) h; rw [← hlen] at this; exact this
  have HR := Lib.hid R0
  have HL := Lib.hid hl
  have HLn := Lib.hid hlen
  have E0 := Lib.hid e0
  rw [← hlen]
  clear hR R0 hl hlen hc e0
  go_enter Try.func37, Try.ntmps37
  go_wp2_with fail
  rw [← hw0]
  clear hw0
  obtain ⟨b0, b1, b2, b3⟩ := bx.facts
  go_wp2_with fail
  refine (CK.out _ HR.out).mono ?_
  rintro e w1 ⟨rfl, hb1⟩
  clear b0 b1 b2 b3
  replace bx := bx.kept hb1
  replace rs := rs.kept hb1
  have HR1 := Lib.hid (HR.out.on hb1)
  have E1 := Lib.hid (below_on E0.out hb1)
  have z1 := hb1.size
  clear hb1 HR E0
  obtain ⟨b0, b1, b2, b3⟩ := bx.facts
  clear b0 b1 b2 b3
  obtain ⟨b0, b1, b2, b3⟩ := rs.facts
  obtain ⟨c0, c1, _, _⟩ := bx.facts
  go_wp2_with fail
  refine bodyPost_ret (v := .tuple #[.agg #[.int .i64 0, .slice none 0 0], .int .i64 2]) (by simp [results, Try.results37, go_sem, b0, b1]) rfl (zres_bad ?_)
  exact (E1.out.setCell (by show w.heap.size ≤ w.heap.size + 1; omega) _).setCell (by show w.heap.size ≤ w.heap.size + 1; omega) _

set_option maxHeartbeats 800000 in
theorem cy_out2 (n : Nat) (l : List Int) (a : Addr) (cap : Nat) (i j : Int) (w : World) (hn : n ≤ 10) (hl : l.length = (n + 1) * (n + 1)) (hR : Rd w a l) (hc : chkE n l = 0) (h1 : ¬ i < 1) (h2 : ¬ (n : Int) < i) (h3 : j < 0) :
    Calls Try.prog 37 #[.agg #[.int .i64 n, .slice (some a) l.length cap], .int .i64 i, .int .i64 j] w (ZRes w 0 [] 2) := by
  obtain ⟨len, hlen⟩ : ∃ len, len = l.length := ⟨_, rfl⟩
  obtain ⟨w0, hw0⟩ : ∃ w0, w0 = (w.alloc (.cells #[.int .i64 n, .slice (some a) len cap] 25)).alloc (.cells #[.int .i64 0, .slice none 0 0] 25) := ⟨_, rfl⟩
  have bx : Two w0 w.heap.size (.int .i64 n) (.slice (some a) len cap) := by rw [hw0]; exact (Two.made _ _ _ _).alloc _
  have rs : Two w0 (w.heap.size + 1) (.int .i64 0) (.slice none 0 0) := by
    rw [hw0]
    have := Two.made (w.alloc (.cells #[.int .i64 n, .slice (some a) len cap] 25)) (.int .i64 0) (.slice none 0 0) 25
    simpa using this
  have z0 : w0.heap.size = w.heap.size + 2 := by rw [hw0]; simp
  have e0 : Below w.heap.size w w0 := by rw [hw0]; exact past_two (Below.refl _ _)
  have R0 := hR.on e0
  have CK : Hid (∀ W, Rd W a l → Calls Try.prog 18 #[.agg #[.int .i64 n, .slice (some a) len cap]] W (Made (.int .i64 0) W)) := Lib.hid fun W h => by have := check_any n l a cap W hn hl h; rw [hc, ← hlen] at this; exact this
  have CP : Hid (∀ W, Rd W a l → Calls Try.prog 66 #[.agg #[.int .i64 n, .slice (some a) len cap]] W (fun e w' => ∃ g c, e = .returned (.agg #[.int .i64 n, .slice (some ⟨g, 0, none⟩) len c]) ∧ W.heap.size ≤ g ∧ Own w' g c l ∧ Below W.heap.size W w')) := Lib.hid fun W h => by have := copied_any n l a cap W (by rw [hl]; exact dsq_pos n) (by rw [hl]; have := dsq_le hn; omega) h; rw [← hlen] at this; exact this
  have HR := Lib.hid R0
  have HL := Lib.hid hl
  have HLn := Lib.hid hlen
  have E0 := Lib.hid e0
  rw [← hlen]
  clear hR R0 hl hlen hc e0
  go_enter Try.func37, Try.ntmps37
  go_wp2_with fail
  rw [← hw0]
  clear hw0
  obtain ⟨b0, b1, b2, b3⟩ := bx.facts
  go_wp2_with fail
  refine (CK.out _ HR.out).mono ?_
  rintro e w1 ⟨rfl, hb1⟩
  clear b0 b1 b2 b3
  replace bx := bx.kept hb1
  replace rs := rs.kept hb1
  have HR1 := Lib.hid (HR.out.on hb1)
  have E1 := Lib.hid (below_on E0.out hb1)
  have z1 := hb1.size
  clear hb1 HR E0
  obtain ⟨b0, b1, b2, b3⟩ := bx.facts
  clear b0 b1 b2 b3
  obtain ⟨b0, b1, b2, b3⟩ := rs.facts
  obtain ⟨c0, c1, _, _⟩ := bx.facts
  go_wp2_with fail
  refine bodyPost_ret (v := .tuple #[.agg #[.int .i64 0, .slice none 0 0], .int .i64 2]) (by simp [results, Try.results37, go_sem, b0, b1]) rfl (zres_bad ?_)
  exact (E1.out.setCell (by show w.heap.size ≤ w.heap.size + 1; omega) _).setCell (by show w.heap.size ≤ w.heap.size + 1; omega) _

set_option maxHeartbeats 800000 in
theorem cy_out3 (n : Nat) (l : List Int) (a : Addr) (cap : Nat) (i j : Int) (w : World) (hn : n ≤ 10) (hl : l.length = (n + 1) * (n + 1)) (hR : Rd w a l) (hc : chkE n l = 0) (h1 : ¬ i < 1) (h2 : ¬ (n : Int) < i) (h3 : ¬ j < 0) (h4 : (n : Int) < j) :
    Calls Try.prog 37 #[.agg #[.int .i64 n, .slice (some a) l.length cap], .int .i64 i, .int .i64 j] w (ZRes w 0 [] 2) := by
  obtain ⟨len, hlen⟩ : ∃ len, len = l.length := ⟨_, rfl⟩
  obtain ⟨w0, hw0⟩ : ∃ w0, w0 = (w.alloc (.cells #[.int .i64 n, .slice (some a) len cap] 25)).alloc (.cells #[.int .i64 0, .slice none 0 0] 25) := ⟨_, rfl⟩
  have bx : Two w0 w.heap.size (.int .i64 n) (.slice (some a) len cap) := by rw [hw0]; exact (Two.made _ _ _ _).alloc _
  have rs : Two w0 (w.heap.size + 1) (.int .i64 0) (.slice none 0 0) := by
    rw [hw0]
    have := Two.made (w.alloc (.cells #[.int .i64 n, .slice (some a) len cap] 25)) (.int .i64 0) (.slice none 0 0) 25
    simpa using this
  have z0 : w0.heap.size = w.heap.size + 2 := by rw [hw0]; simp
  have e0 : Below w.heap.size w w0 := by rw [hw0]; exact past_two (Below.refl _ _)
  have R0 := hR.on e0
  have CK : Hid (∀ W, Rd W a l → Calls Try.prog 18 #[.agg #[.int .i64 n, .slice (some a) len cap]] W (Made (.int .i64 0) W)) := Lib.hid fun W h => by have := check_any n l a cap W hn hl h; rw [hc, ← hlen] at this; exact this
  have CP : Hid (∀ W, Rd W a l → Calls Try.prog 66 #[.agg #[.int .i64 n, .slice (some a) len cap]] W (fun e w' => ∃ g c, e = .returned (.agg #[.int .i64 n, .slice (some ⟨g, 0, none⟩) len c]) ∧ W.heap.size ≤ g ∧ Own w' g c l ∧ Below W.heap.size W w')) := Lib.hid fun W h => by have := copied_any n l a cap W (by rw [hl]; exact dsq_pos n) (by rw [hl]; have := dsq_le hn; omega) h; rw [← hlen] at this; exact this
  have HR := Lib.hid R0
  have HL := Lib.hid hl
  have HLn := Lib.hid hlen
  have E0 := Lib.hid e0
  rw [← hlen]
  clear hR R0 hl hlen hc e0
  go_enter Try.func37, Try.ntmps37
  go_wp2_with fail
  rw [← hw0]
  clear hw0
  obtain ⟨b0, b1, b2, b3⟩ := bx.facts
  go_wp2_with fail
  refine (CK.out _ HR.out).mono ?_
  rintro e w1 ⟨rfl, hb1⟩
  clear b0 b1 b2 b3
  replace bx := bx.kept hb1
  replace rs := rs.kept hb1
  have HR1 := Lib.hid (HR.out.on hb1)
  have E1 := Lib.hid (below_on E0.out hb1)
  have z1 := hb1.size
  clear hb1 HR E0
  obtain ⟨b0, b1, b2, b3⟩ := bx.facts
  clear b0 b1 b2 b3
  obtain ⟨b0, b1, b2, b3⟩ := rs.facts
  obtain ⟨c0, c1, _, _⟩ := bx.facts
  go_wp2_with fail
  refine bodyPost_ret (v := .tuple #[.agg #[.int .i64 0, .slice none 0 0], .int .i64 2]) (by simp [results, Try.results37, go_sem, b0, b1]) rfl (zres_bad ?_)
  exact (E1.out.setCell (by show w.heap.size ≤ w.heap.size + 1; omega) _).setCell (by show w.heap.size ≤ w.heap.size + 1; omega) _

set_option maxHeartbeats 1600000 in
theorem cy_any (n : Nat) (l : List Int) (a : Addr) (cap : Nat) (i j : Nat) (w : World) (hn : n ≤ 10) (hl : l.length = (n + 1) * (n + 1)) (hR : Rd w a l) (hc : chkE n l = 0) (hi1 : 1 ≤ i) (hi2 : i ≤ n) (hj : j ≤ n) (hij : i ≠ j) :
    Calls Try.prog 37 #[.agg #[.int .i64 n, .slice (some a) l.length cap], .int .i64 i, .int .i64 j] w (ZRes w n (cyL n i j l) (cyE n i j l)) := by
  have IJ : ((i : Int) == (j : Int)) = false := by simp; omega
  have IS := Lib.hid fun W => is_any (i : Int) (j : Int) 0 W (by omega) (by omega)
  have FR : Hid (∀ W, Rd W a l → Calls Try.prog 33 #[.agg #[.int .i64 n, .slice (some a) l.length cap], .int .i64 i] W (ZRes W n (reM n i l) (cloE n (frL n i l)))) := Lib.hid fun W h => fr_any n l a cap i W hn hl h hc hi1 hi2
  clear hij
  rw [show l.length = l.length from rfl] at FR
  obtain ⟨len, hlen⟩ : ∃ len, len = l.length := ⟨_, rfl⟩
  obtain ⟨w0, hw0⟩ : ∃ w0, w0 = (w.alloc (.cells #[.int .i64 n, .slice (some a) len cap] 25)).alloc (.cells #[.int .i64 0, .slice none 0 0] 25) := ⟨_, rfl⟩
  have bx : Two w0 w.heap.size (.int .i64 n) (.slice (some a) len cap) := by rw [hw0]; exact (Two.made _ _ _ _).alloc _
  have rs : Two w0 (w.heap.size + 1) (.int .i64 0) (.slice none 0 0) := by
    rw [hw0]
    have := Two.made (w.alloc (.cells #[.int .i64 n, .slice (some a) len cap] 25)) (.int .i64 0) (.slice none 0 0) 25
    simpa using this
  have z0 : w0.heap.size = w.heap.size + 2 := by rw [hw0]; simp
  have e0 : Below w.heap.size w w0 := by rw [hw0]; exact past_two (Below.refl _ _)
  have R0 := hR.on e0
  have CK : Hid (∀ W, Rd W a l → Calls Try.prog 18 #[.agg #[.int .i64 n, .slice (some a) len cap]] W (Made (.int .i64 0) W)) := Lib.hid fun W h => by have := check_any n l a cap W hn hl h; rw [hc, ← hlen] at this; exact this
  have CP : Hid (∀ W, Rd W a l → Calls Try.prog 66 #[.agg #[.int .i64 n, .slice (some a) len cap]] W (fun e w' => ∃ g c, e = .returned (.agg #[.int .i64 n, .slice (some ⟨g, 0, none⟩) len c]) ∧ W.heap.size ≤ g ∧ Own w' g c l ∧ Below W.heap.size W w')) := Lib.hid fun W h => by have := copied_any n l a cap W (by rw [hl]; exact dsq_pos n) (by rw [hl]; have := dsq_le hn; omega) h; rw [← hlen] at this; exact this
  have HR := Lib.hid R0
  have HL := Lib.hid hl
  have HLn := Lib.hid hlen
  have E0 := Lib.hid e0
  have FR2 : Hid (∀ W, Rd W a l → Calls Try.prog 33 #[.agg #[.int .i64 n, .slice (some a) len cap], .int .i64 i] W (ZRes W n (reM n i l) (cloE n (frL n i l)))) := by rw [hlen]; exact FR
  clear FR
  rw [← hlen]
  clear hR R0 hl hlen hc e0
  by_cases h1 : cloE n (frL n i l) = 0
  · by_cases h2 : anG n (isC i j 0) (reM n i l) = 0
    · have HLM0 := Lib.hid (show cyL n i j l = Zo.clo n (anL n (isC i j 0) (reM n i l)) from rfl)
      have HRE := Lib.hid (show cyE n i j l = anG n (isC i j 0) (reM n i l) by unfold cyE; rw [if_pos h1])
      have H1 := Lib.hid h1
      have AN := Lib.hid fun (W : World) (g c5 q : Nat) (hA : Own W g c5 (reM n i l)) (hD : Rd3 W ⟨q, 0, none⟩ (isC i j 0)) => an_gen n (reM n i l) (some ⟨g, 0, none⟩) c5 (isC i j 0) (some ⟨q, 0, none⟩) 2 W hA.arg (fun _ => ⟨_, rfl, hD⟩) (by simp [isC])
      have H2 := Lib.hid h2
      generalize (isC (i : Int) (j : Int) 0) = cs at *
      generalize hM : reM n i l = M at *
      clear h1 h2
      have HLM := Lib.hid (show cyL n i j l = Zo.clo n (anL n cs M) from HLM0.out)
      have HLL := Lib.hid (show ∀ (g7 c7 : Nat), Ending.returned (.tuple #[.agg #[.int .i64 n, .slice (some ⟨g7, 0, none⟩) (Zo.clo n (anL n cs M)).length c7], .int .i64 0]) = Ending.returned (.tuple #[.agg #[.int .i64 n, .slice (some ⟨g7, 0, none⟩) (cyL n i j l).length c7], .int .i64 0]) from fun g7 c7 => by rw [HLM.out])
      go_enter Try.func37, Try.ntmps37
      go_wp2_with fail
      rw [← hw0]
      clear hw0
      obtain ⟨b0, b1, b2, b3⟩ := bx.facts
      go_wp2_with fail
      refine (CK.out _ HR.out).mono ?_
      rintro e w1 ⟨rfl, hb1⟩
      clear b0 b1 b2 b3
      replace bx := bx.kept hb1
      replace rs := rs.kept hb1
      have HR1 := Lib.hid (HR.out.on hb1)
      have E1 := Lib.hid (below_on E0.out hb1)
      have z1 := hb1.size
      clear hb1 HR E0
      obtain ⟨b0, b1, b2, b3⟩ := bx.facts
      go_wp2_with fail
      refine (FR2.out _ HR1.out).mono ?_
      intro e w3 hz
      obtain ⟨g, c5, rfl, hg, ho, hb3⟩ := hz.ok H1.out
      clear b0 b1 b2 b3 hz
      replace bx := bx.kept hb3
      replace rs := rs.kept hb3
      have E3 := Lib.hid (below_on E1.out hb3)
      have z3 := hb3.size
      clear hb3
      obtain ⟨w5, hw5⟩ : ∃ w5, w5 = (w3.setCell ⟨w.heap.size, 0, none⟩ (.int .i64 n)).setCell ⟨w.heap.size, 1, none⟩ (.slice (some ⟨g, 0, none⟩) M.length c5) := ⟨_, rfl⟩
      have bx5 : Two w5 w.heap.size (.int .i64 n) (.slice (some ⟨g, 0, none⟩) M.length c5) := by rw [hw5]; exact bx.put _ _
      have rs5 : Two w5 (w.heap.size + 1) (.int .i64 0) (.slice none 0 0) := by rw [hw5]; exact rs.aside (by omega) _ _
      have O5 := Lib.hid (show Own w5 g c5 M by rw [hw5]; exact put_far ho (by omega) _ _)
      have E5 := Lib.hid (show Below w.heap.size w w5 by rw [hw5]; exact (E3.out.setCell (by show w.heap.size ≤ w.heap.size; omega) _).setCell (by show w.heap.size ≤ w.heap.size; omega) _)
      have z5 : w.heap.size + 2 ≤ w5.heap.size := by have := rs5.lt; omega
      have KS := Lib.hid (show ∀ W : World, Below w5.heap.size w5 W → W.cell? ⟨w.heap.size, 0, none⟩ = some (.int .i64 n) ∧ W.cell? ⟨w.heap.size, 1, none⟩ = some (.slice (some ⟨g, 0, none⟩) M.length c5) from fun W h => ⟨kept h bx5.facts.1, kept h bx5.facts.2.1⟩)
      have KT := Lib.hid (show ∀ (W : World) (u v : Value), Below w5.heap.size w5 W → ((W.setCell ⟨w.heap.size + 1, 0, none⟩ u).setCell ⟨w.heap.size + 1, 1, none⟩ v).cell? ⟨w.heap.size, 0, none⟩ = some (.int .i64 n) ∧ ((W.setCell ⟨w.heap.size + 1, 0, none⟩ u).setCell ⟨w.heap.size + 1, 1, none⟩ v).cell? ⟨w.heap.size, 1, none⟩ = some (.slice (some ⟨g, 0, none⟩) M.length c5) from fun W u v h => by have t := (bx5.kept h).aside (show w.heap.size + 1 ≠ w.heap.size by omega) u v; exact ⟨t.facts.1, t.facts.2.1⟩)
      have KR := Lib.hid (show ∀ W : World, Below w5.heap.size w5 W → Two W (w.heap.size + 1) (.int .i64 0) (.slice none 0 0) from fun W h => rs5.kept h)
      have HO := Lib.hid ho
      obtain ⟨b0, b1, b2, b3⟩ := bx.facts
      clear ho bx rs E3
      go_wp2_with fail
      rw [← hw5]
      have HW5 := Lib.hid hw5
      clear hw5 b0 b1 b2 b3 bx5 rs5
      obtain ⟨b0, b1⟩ := KS.out _ (Below.refl _ _)
      go_wp2_with fail
      have s1 : Below w5.heap.size w5 w5.drew := (Below.refl _ _).drew
      go_region_held3 (fun w' => w'.cell? ⟨w.heap.size, 0, none⟩ = some (.int .i64 n) ∧ w'.cell? ⟨w.heap.size, 1, none⟩ = some (.slice (some ⟨g, 0, none⟩) M.length c5)) (first | exact KS.out _ s1 | exact KS.out _ s6 | exact KS.out _ s7 | exact KT.out _ _ _ s7)
        (first | (go_at_call 88; refine (IS.out _).mono ?_; rintro e w6 ⟨q, rfl, hd, hb6⟩; have s6 := below_on s1 hb6) | (go_at_call 25; refine (AN.out _ _ _ _ (own_below O5.out s6) hd).mono ?_; intro e w7 hz; obtain ⟨g7, c7, rfl, hg7, ho7, hb7⟩ := hz.ok H2.out; have s7 := below_on s6 hb7; obtain ⟨r0, r1, r2, r3⟩ := (KR.out _ s7).facts))
      go_wp2_with fail
      have z7 := s6.size
      refine bodyPost_ret (v := .tuple #[.agg #[.int .i64 n, .slice (some ⟨g7, 0, none⟩) (Zo.clo n (anL n cs M)).length c7], .int .i64 0]) (by simp [results, Try.results37, go_sem, r0, r1]) rfl ⟨((below_on E5.out s7).setCell (by show w.heap.size ≤ w.heap.size + 1; omega) _).setCell (by show w.heap.size ≤ w.heap.size + 1; omega) _, Or.inl ⟨by rw [HRE.out]; exact H2.out, g7, c7, HLL.out _ _, by omega, ?_⟩⟩
      rw [HLM.out]
      exact put_far ho7 (by omega) _ _
    · have HRE := Lib.hid (show cyE n i j l = anG n (isC i j 0) (reM n i l) by unfold cyE; rw [if_pos h1])
      have H1 := Lib.hid h1
      have AN := Lib.hid fun (W : World) (g c5 q : Nat) (hA : Own W g c5 (reM n i l)) (hD : Rd3 W ⟨q, 0, none⟩ (isC i j 0)) => an_gen n (reM n i l) (some ⟨g, 0, none⟩) c5 (isC i j 0) (some ⟨q, 0, none⟩) 2 W hA.arg (fun _ => ⟨_, rfl, hD⟩) (by simp [isC])
      have H2 := Lib.hid h2
      generalize anG n (isC i j 0) (reM n i l) = er at *
      generalize (isC (i : Int) (j : Int) 0) = cs at *
      generalize hM : reM n i l = M at *
      clear h1 h2
      go_enter Try.func37, Try.ntmps37
      go_wp2_with fail
      rw [← hw0]
      clear hw0
      obtain ⟨b0, b1, b2, b3⟩ := bx.facts
      go_wp2_with fail
      refine (CK.out _ HR.out).mono ?_
      rintro e w1 ⟨rfl, hb1⟩
      clear b0 b1 b2 b3
      replace bx := bx.kept hb1
      replace rs := rs.kept hb1
      have HR1 := Lib.hid (HR.out.on hb1)
      have E1 := Lib.hid (below_on E0.out hb1)
      have z1 := hb1.size
      clear hb1 HR E0
      obtain ⟨b0, b1, b2, b3⟩ := bx.facts
      go_wp2_with fail
      refine (FR2.out _ HR1.out).mono ?_
      intro e w3 hz
      obtain ⟨g, c5, rfl, hg, ho, hb3⟩ := hz.ok H1.out
      clear b0 b1 b2 b3 hz
      replace bx := bx.kept hb3
      replace rs := rs.kept hb3
      have E3 := Lib.hid (below_on E1.out hb3)
      have z3 := hb3.size
      clear hb3
      obtain ⟨w5, hw5⟩ : ∃ w5, w5 = (w3.setCell ⟨w.heap.size, 0, none⟩ (.int .i64 n)).setCell ⟨w.heap.size, 1, none⟩ (.slice (some ⟨g, 0, none⟩) M.length c5) := ⟨_, rfl⟩
      have bx5 : Two w5 w.heap.size (.int .i64 n) (.slice (some ⟨g, 0, none⟩) M.length c5) := by rw [hw5]; exact bx.put _ _
      have rs5 : Two w5 (w.heap.size + 1) (.int .i64 0) (.slice none 0 0) := by rw [hw5]; exact rs.aside (by omega) _ _
      have O5 := Lib.hid (show Own w5 g c5 M by rw [hw5]; exact put_far ho (by omega) _ _)
      have E5 := Lib.hid (show Below w.heap.size w w5 by rw [hw5]; exact (E3.out.setCell (by show w.heap.size ≤ w.heap.size; omega) _).setCell (by show w.heap.size ≤ w.heap.size; omega) _)
      have z5 : w.heap.size + 2 ≤ w5.heap.size := by have := rs5.lt; omega
      have KS := Lib.hid (show ∀ W : World, Below w5.heap.size w5 W → W.cell? ⟨w.heap.size, 0, none⟩ = some (.int .i64 n) ∧ W.cell? ⟨w.heap.size, 1, none⟩ = some (.slice (some ⟨g, 0, none⟩) M.length c5) from fun W h => ⟨kept h bx5.facts.1, kept h bx5.facts.2.1⟩)
      have KT := Lib.hid (show ∀ (W : World) (u v : Value), Below w5.heap.size w5 W → ((W.setCell ⟨w.heap.size + 1, 0, none⟩ u).setCell ⟨w.heap.size + 1, 1, none⟩ v).cell? ⟨w.heap.size, 0, none⟩ = some (.int .i64 n) ∧ ((W.setCell ⟨w.heap.size + 1, 0, none⟩ u).setCell ⟨w.heap.size + 1, 1, none⟩ v).cell? ⟨w.heap.size, 1, none⟩ = some (.slice (some ⟨g, 0, none⟩) M.length c5) from fun W u v h => by have t := (bx5.kept h).aside (show w.heap.size + 1 ≠ w.heap.size by omega) u v; exact ⟨t.facts.1, t.facts.2.1⟩)
      have KR := Lib.hid (show ∀ W : World, Below w5.heap.size w5 W → Two W (w.heap.size + 1) (.int .i64 0) (.slice none 0 0) from fun W h => rs5.kept h)
      have HO := Lib.hid ho
      obtain ⟨b0, b1, b2, b3⟩ := bx.facts
      clear ho bx rs E3
      go_wp2_with fail
      rw [← hw5]
      have HW5 := Lib.hid hw5
      clear hw5 b0 b1 b2 b3 bx5 rs5
      obtain ⟨b0, b1⟩ := KS.out _ (Below.refl _ _)
      go_wp2_with fail
      have s1 : Below w5.heap.size w5 w5.drew := (Below.refl _ _).drew
      go_region_held3 (fun w' => w'.cell? ⟨w.heap.size, 0, none⟩ = some (.int .i64 n) ∧ w'.cell? ⟨w.heap.size, 1, none⟩ = some (.slice (some ⟨g, 0, none⟩) M.length c5)) (first | exact KS.out _ s1 | exact KS.out _ s6 | exact KS.out _ s7 | exact KT.out _ _ _ s7)
        (first | (go_at_call 88; refine (IS.out _).mono ?_; rintro e w6 ⟨q, rfl, hd, hb6⟩; have s6 := below_on s1 hb6) | (go_at_call 25; refine (AN.out _ _ _ _ (own_below O5.out s6) hd).mono ?_; intro e w7 hz; obtain ⟨rfl, hb7⟩ := hz.no H2.out; have s7 := below_on s6 hb7; obtain ⟨r0, r1, r2, r3⟩ := (KR.out _ s7).facts))
      go_wp2_with fail
      refine bodyPost_ret (v := .tuple #[.agg #[.int .i64 0, .slice none 0 0], .int .i64 er]) (by simp [results, Try.results37, go_sem, r0, r1]) rfl ⟨((below_on E5.out s7).setCell (by show w.heap.size ≤ w.heap.size + 1; omega) _).setCell (by show w.heap.size ≤ w.heap.size + 1; omega) _, Or.inr ⟨by rw [HRE.out]; exact H2.out, by rw [HRE.out]⟩⟩
  · have HRE := Lib.hid (show cyE n i j l = cloE n (frL n i l) by unfold cyE; rw [if_neg h1])
    have H1 := Lib.hid h1
    generalize cloE n (frL n i l) = er at *
    have E1B : (er != 0) = true := by simpa using h1
    clear h1
    go_enter Try.func37, Try.ntmps37
    go_wp2_with fail
    rw [← hw0]
    clear hw0
    obtain ⟨b0, b1, b2, b3⟩ := bx.facts
    go_wp2_with fail
    refine (CK.out _ HR.out).mono ?_
    rintro e w1 ⟨rfl, hb1⟩
    clear b0 b1 b2 b3
    replace bx := bx.kept hb1
    replace rs := rs.kept hb1
    have HR1 := Lib.hid (HR.out.on hb1)
    have E1 := Lib.hid (below_on E0.out hb1)
    have z1 := hb1.size
    clear hb1 HR E0
    obtain ⟨b0, b1, b2, b3⟩ := bx.facts
    go_wp2_with fail
    refine (FR2.out _ HR1.out).mono ?_
    intro e w3 hz
    obtain ⟨rfl, hb3⟩ := hz.no H1.out
    clear b0 b1 b2 b3 hz
    replace bx := bx.kept hb3
    replace rs := rs.kept hb3
    have E3 := Lib.hid (below_on E1.out hb3)
    have z3 := hb3.size
    clear hb3
    obtain ⟨b0, b1, b2, b3⟩ := bx.facts
    obtain ⟨r0, r1, r2, r3⟩ := rs.facts
    go_wp2_with fail
    refine bodyPost_ret (v := .tuple #[.agg #[.int .i64 0, .slice none 0 0], .int .i64 er]) (by simp [results, Try.results37, go_sem, r0, r1]) rfl ⟨?_, Or.inr ⟨by rw [HRE.out]; exact H1.out, by rw [HRE.out]⟩⟩
    exact (((E3.out.setCell (by show w.heap.size ≤ w.heap.size; omega) _).setCell (by show w.heap.size ≤ w.heap.size; omega) _).setCell (by show w.heap.size ≤ w.heap.size + 1; omega) _).setCell (by show w.heap.size ≤ w.heap.size + 1; omega) _

set_option maxHeartbeats 1600000 in
theorem cy_same (n : Nat) (l : List Int) (a : Addr) (cap : Nat) (i : Nat) (w : World) (hn : n ≤ 10) (hl : l.length = (n + 1) * (n + 1)) (hR : Rd w a l) (hc : chkE n l = 0) (hi1 : 1 ≤ i) (hi2 : i ≤ n) :
    Calls Try.prog 37 #[.agg #[.int .i64 n, .slice (some a) l.length cap], .int .i64 i, .int .i64 i] w (ZRes w n l 0) := by
  obtain ⟨len, hlen⟩ : ∃ len, len = l.length := ⟨_, rfl⟩
  obtain ⟨w0, hw0⟩ : ∃ w0, w0 = (w.alloc (.cells #[.int .i64 n, .slice (some a) len cap] 25)).alloc (.cells #[.int .i64 0, .slice none 0 0] 25) := ⟨_, rfl⟩
  have bx : Two w0 w.heap.size (.int .i64 n) (.slice (some a) len cap) := by rw [hw0]; exact (Two.made _ _ _ _).alloc _
  have rs : Two w0 (w.heap.size + 1) (.int .i64 0) (.slice none 0 0) := by
    rw [hw0]
    have := Two.made (w.alloc (.cells #[.int .i64 n, .slice (some a) len cap] 25)) (.int .i64 0) (.slice none 0 0) 25
    simpa using this
  have z0 : w0.heap.size = w.heap.size + 2 := by rw [hw0]; simp
  have e0 : Below w.heap.size w w0 := by rw [hw0]; exact past_two (Below.refl _ _)
  have R0 := hR.on e0
  have CK : Hid (∀ W, Rd W a l → Calls Try.prog 18 #[.agg #[.int .i64 n, .slice (some a) len cap]] W (Made (.int .i64 0) W)) := Lib.hid fun W h => by have := check_any n l a cap W hn hl h; rw [hc, ← hlen] at this; exact this
  have CP : Hid (∀ W, Rd W a l → Calls Try.prog 66 #[.agg #[.int .i64 n, .slice (some a) len cap]] W (fun e w' => ∃ g c, e = .returned (.agg #[.int .i64 n, .slice (some ⟨g, 0, none⟩) len c]) ∧ W.heap.size ≤ g ∧ Own w' g c l ∧ Below W.heap.size W w')) := Lib.hid fun W h => by have := copied_any n l a cap W (by rw [hl]; exact dsq_pos n) (by rw [hl]; have := dsq_le hn; omega) h; rw [← hlen] at this; exact this
  have HR := Lib.hid R0
  have HL := Lib.hid hl
  have HLn := Lib.hid hlen
  have E0 := Lib.hid e0
  rw [← hlen]
  clear hR R0 hl hlen hc e0
  go_enter Try.func37, Try.ntmps37
  go_wp2_with fail
  rw [← hw0]
  clear hw0
  obtain ⟨b0, b1, b2, b3⟩ := bx.facts
  go_wp2_with fail
  refine (CK.out _ HR.out).mono ?_
  rintro e w1 ⟨rfl, hb1⟩
  clear b0 b1 b2 b3
  replace bx := bx.kept hb1
  replace rs := rs.kept hb1
  have HR1 := Lib.hid (HR.out.on hb1)
  have E1 := Lib.hid (below_on E0.out hb1)
  have z1 := hb1.size
  clear hb1 HR E0
  obtain ⟨b0, b1, b2, b3⟩ := bx.facts
  go_wp2_with fail
  refine (CP.out _ HR1.out).mono ?_
  rintro e w2 ⟨g, c, rfl, hg, ho, hb2⟩
  clear b0 b1 b2 b3
  replace rs := rs.kept hb2
  have E2 := Lib.hid (below_on E1.out hb2)
  have z2 := hb2.size
  have HO := Lib.hid ho
  clear hb2 ho
  obtain ⟨r0, r1, r2, r3⟩ := rs.facts
  go_wp2_with fail
  refine bodyPost_ret (v := .tuple #[.agg #[.int .i64 n, .slice (some ⟨g, 0, none⟩) len c], .int .i64 0]) (by simp [results, Try.results37, go_sem, r0, r1]) rfl ⟨(E2.out.setCell (by show w.heap.size ≤ w.heap.size + 1; omega) _).setCell (by show w.heap.size ≤ w.heap.size + 1; omega) _, Or.inl ⟨rfl, g, c, by rw [← HLn.out], by omega, put_far HO.out (by omega) _ _⟩⟩

def cyM (n i j : Nat) (l : List Int) : List Int := if i = j then l else cyL n i j l

def cyG (N : Int) (l : List Int) (i j : Int) : Int := if chkE N l = 0 ∧ 1 ≤ i ∧ i ≤ N ∧ 0 ≤ j ∧ j ≤ N then (if i = j then 0 else cyE N.toNat i.toNat j.toNat l) else 2

theorem cy_gen (N : Int) (l : List Int) (ao : Option Addr) (cap : Nat) (i j : Int) (w : World) (hA : Arg w ao l) :
    Calls Try.prog 37 #[.agg #[.int .i64 N, .slice ao l.length cap], .int .i64 i, .int .i64 j] w (ZRes w N (cyM N.toNat i.toNat j.toNat l) (cyG N l i j)) := by
  by_cases hc : chkE N l = 0
  · obtain ⟨n, rfl, hn, hl, hne⟩ := chk_ok hc
    obtain ⟨a, rfl, hR⟩ := hA hne
    by_cases h1 : i < 1
    · exact (cy_out0 n l a cap i j w hn hl hR hc h1).mono fun e w' h => h.bad (by unfold cyG; rw [if_neg (by omega)])
    by_cases h2 : (n : Int) < i
    · exact (cy_out1 n l a cap i j w hn hl hR hc h1 h2).mono fun e w' h => h.bad (by unfold cyG; rw [if_neg (by omega)])
    by_cases h3 : j < 0
    · exact (cy_out2 n l a cap i j w hn hl hR hc h1 h2 h3).mono fun e w' h => h.bad (by unfold cyG; rw [if_neg (by omega)])
    by_cases h4 : (n : Int) < j
    · exact (cy_out3 n l a cap i j w hn hl hR hc h1 h2 h3 h4).mono fun e w' h => h.bad (by unfold cyG; rw [if_neg (by omega)])
    obtain ⟨k, rfl⟩ : ∃ k : Nat, i = k := ⟨i.toNat, by omega⟩
    obtain ⟨m, rfl⟩ : ∃ m : Nat, j = m := ⟨j.toNat, by omega⟩
    have hG : cyG (n : Int) l (k : Int) (m : Int) = if (k : Int) = (m : Int) then 0 else cyE n k m l := by unfold cyG; rw [if_pos ⟨hc, by omega, by omega, by omega, by omega⟩]; rfl
    by_cases hkm : k = m
    · subst hkm
      have := cy_same n l a cap k w hn hl hR hc (by omega) (by omega)
      rw [hG, if_pos rfl]
      unfold cyM
      rw [if_pos rfl]
      exact this
    · have := cy_any n l a cap k m w hn hl hR hc (by omega) (by omega) (by omega) hkm
      rw [hG, if_neg (by omega)]
      unfold cyM
      rw [if_neg (by simpa using hkm)]
      exact this
  · exact (cy_bad N l ao cap i j w hA (chk_two hc)).mono fun e w' h => h.bad (by unfold cyG; rw [if_neg (fun x => hc x.1)])
end Go.Proofs.Ytbnebinpemejlaa

namespace Go.Proofs.Ytbnebinpemejlaa
open Go.RowKit

theorem okC_parts {n : Nat} {c : Con} (h : okC n c = true) : c.1.toNat ≤ n ∧ c.2.1.toNat ≤ n ∧ Zo.Vl c.2.2 := by
  unfold okC at h
  simp only [Bool.and_eq_true, decide_eq_true_eq] at h
  exact ⟨by omega, by omega, vl_of_lv h.2⟩

theorem anS_len (n : Nat) (cs : List Con) (x : List Int) (t : Nat) : (anS n cs x t).length = x.length := by simp [anS]

theorem anS_at {n : Nat} {cs : List Con} {x : List Int} {t : Nat} (hx : x.length = (n + 1) * (n + 1)) (h : okC n (gc cs t) = true) {a b : Nat} (hb : b ≤ n) :
    Zo.At n (anS n cs x t) a b = if a = (gc cs t).1.toNat ∧ b = (gc cs t).2.1.toNat then imin (Zo.At n x (gc cs t).1.toNat (gc cs t).2.1.toNat) (gc cs t).2.2 else Zo.At n x a b := by
  obtain ⟨p1, p2, _⟩ := okC_parts h
  unfold anS
  rw [Zo.At_set hx p1 p2 _ hb]

theorem an_len (n : Nat) (cs : List Con) (u : List Int) (s : Nat) : ((List.range s).foldl (anS n cs) u).length = u.length := fold_len (anS_len n cs) u s

theorem an_le {n : Nat} {cs : List Con} (hok : ∀ t, t < cs.length → okC n (gc cs t) = true) {u : List Int} (hu : u.length = (n + 1) * (n + 1)) : ∀ s, s ≤ cs.length → Zo.Le n ((List.range s).foldl (anS n cs) u) u := by
  intro s
  induction s with
  | zero => intro _ a b _ _; exact Int.le_refl _
  | succ s ih =>
    intro hs a b ha hb
    obtain ⟨p1, p2, _⟩ := okC_parts (hok s (by omega))
    rw [Zo.fold_succ]
    exact Int.le_trans (Zo.set_le (by rw [an_len, hu]) p1 p2 _ hb) (ih (by omega) a b ha hb)

theorem an_at {n : Nat} {cs : List Con} (hok : ∀ t, t < cs.length → okC n (gc cs t) = true) {u : List Int} (hu : u.length = (n + 1) * (n + 1)) : ∀ s, s ≤ cs.length → ∀ t, t < s → Zo.At n ((List.range s).foldl (anS n cs) u) (gc cs t).1.toNat (gc cs t).2.1.toNat ≤ (gc cs t).2.2 := by
  intro s
  induction s with
  | zero => intro _ t ht; omega
  | succ s ih =>
    intro hs t ht
    obtain ⟨p1, p2, _⟩ := okC_parts (hok s (by omega))
    obtain ⟨q1, q2, _⟩ := okC_parts (hok t (by omega))
    rw [Zo.fold_succ]
    by_cases e : t = s
    · subst e
      rw [anS_at (by rw [an_len, hu]) (hok t (by omega)) p2, if_pos ⟨rfl, rfl⟩]
      unfold imin; omega
    · exact Int.le_trans (Zo.set_le (by rw [an_len, hu]) p1 p2 _ q2) (ih (by omega) t (by omega))

theorem an_T {n : Nat} {cs : List Con} (hok : ∀ t, t < cs.length → okC n (gc cs t) = true) {u v c : List Int} (hu : u.length = (n + 1) * (n + 1)) (hv : v.length = (n + 1) * (n + 1)) (h1 : Zo.Le n c u) (h2 : Zo.Le n c (anL n cs v)) : Zo.Le n c (anL n cs u) := by
  have hL : ∀ t, t < cs.length → Zo.At n c (gc cs t).1.toNat (gc cs t).2.1.toNat ≤ (gc cs t).2.2 := fun t ht => by
    obtain ⟨q1, q2, _⟩ := okC_parts (hok t ht)
    exact Int.le_trans (h2 _ _ q1 q2) (an_at hok hv cs.length (Nat.le_refl _) t ht)
  have : ∀ s, s ≤ cs.length → Zo.Le n c ((List.range s).foldl (anS n cs) u) := by
    intro s
    induction s with
    | zero => intro _; exact h1
    | succ s ih =>
      intro hs a b ha hb
      obtain ⟨p1, p2, _⟩ := okC_parts (hok s (by omega))
      rw [Zo.fold_succ]
      rw [anS_at (by rw [an_len, hu]) (hok s (by omega)) hb]
      split
      · rename_i e
        have g1 := ih (by omega) a b ha hb
        have g2 := hL s (by omega)
        rw [← e.1, ← e.2] at g2 ⊢
        unfold imin
        omega
      · exact ih (by omega) a b ha hb
  exact this cs.length (Nat.le_refl _)

theorem an_wl {n : Nat} {cs : List Con} (hok : ∀ t, t < cs.length → okC n (gc cs t) = true) {u : List Int} (hu : u.length = (n + 1) * (n + 1)) (h : ∀ a b, a ≤ n → b ≤ n → Zo.Wl (Zo.At n u a b)) : ∀ a b, a ≤ n → b ≤ n → Zo.Wl (Zo.At n (anL n cs u) a b) := by
  have : ∀ s, s ≤ cs.length → ∀ a b, a ≤ n → b ≤ n → Zo.Wl (Zo.At n ((List.range s).foldl (anS n cs) u) a b) := by
    intro s
    induction s with
    | zero => intro _; exact h
    | succ s ih =>
      intro hs a b ha hb
      obtain ⟨p1, p2, p3⟩ := okC_parts (hok s (by omega))
      rw [Zo.fold_succ]
      rw [anS_at (by rw [an_len, hu]) (hok s (by omega)) hb]
      split
      · have := ih (by omega) _ _ p1 p2
        unfold imin
        unfold Zo.Vl at p3
        unfold Zo.Wl at *
        omega
      · exact ih (by omega) a b ha hb
  exact this cs.length (Nat.le_refl _)

/-- Closed, constrained and closed again. -/
theorem an_twice {n : Nat} {cs : List Con} {x : List Int} (hn : n ≤ 10) (hok : ∀ t, t < cs.length → okC n (gc cs t) = true) (hx : x.length = (n + 1) * (n + 1)) (hv : ∀ a b, a ≤ n → b ≤ n → Zo.Wl (Zo.At n x a b)) (hz : cloE n x = 0) :
    cloE n (anL n cs (Zo.clo n x)) = cloE n (anL n cs x) ∧ (cloE n (anL n cs x) = 0 → Zo.clo n (anL n cs (Zo.clo n x)) = Zo.clo n (anL n cs x)) := by
  obtain ⟨_, hr⟩ := cloE_zero.1 hz
  have lx : (Zo.clo n x).length = (n + 1) * (n + 1) := by rw [Zo.clo_length, hx]
  obtain ⟨t1, t2⟩ := Zo.clo_twice (T := anL n cs) hn hx hv (fun u => anL_len n cs u) (fun u hu => an_le hok hu cs.length (Nat.le_refl _)) (fun u v c hu hv => an_T hok hu hv) (an_wl hok hx hv) (an_wl hok lx (wl_of lx hr))
  rw [← cloB_iff, ← cloB_iff] at t1
  rw [← cloB_iff] at t2
  constructor
  · cases hb : cloB n (anL n cs x)
    · have e := t2 hb
      unfold cloE
      rw [hb, t1.1 hb, e]
    · have hb2 : cloB n (anL n cs (Zo.clo n x)) = true := by
        cases h : cloB n (anL n cs (Zo.clo n x))
        · rw [t1.2 h] at hb; cases hb
        · rfl
      unfold cloE
      rw [hb, hb2]; rfl
  · intro h
    exact (t2 (cloE_zero.1 h).1).symm

theorem isC_ok {n i j : Nat} {c : Int} (hi : i ≤ n) (hj : j ≤ n) (h0 : 0 ≤ c) (h1 : c ≤ 1048576) : ∀ t, t < (isC i j c).length → okC n (gc (isC i j c) t) = true := by
  intro t ht
  have : t = 0 ∨ t = 1 := by simp [isC] at ht; omega
  rcases this with rfl | rfl
  · simp [gc, isC, okC, lvB]; omega
  · simp [gc, isC, okC, lvB]; omega

theorem okC_all {n : Nat} {cs : List Con} (h : ∀ t, t < cs.length → okC n (gc cs t) = true) : cs.all (okC n) = true := by
  rw [List.all_eq_true]
  intro x hx
  obtain ⟨k, hk, rfl⟩ := List.getElem_of_mem hx
  have := h k hk
  simpa [gc, hk] using this

/-- Free and then constraints, in one closing. -/
theorem free_and {n i : Nat} {cs : List Con} {l : List Int} (hn : n ≤ 10) (hl : l.length = (n + 1) * (n + 1)) (hc : chkE n l = 0) (h1 : 1 ≤ i) (hi : i ≤ n) (hok : ∀ t, t < cs.length → okC n (gc cs t) = true) :
    (if cloE n (frL n i l) = 0 then anG n cs (reM n i l) else cloE n (frL n i l)) = cloE n (anL n cs (rlL n i l)) ∧
      (cloE n (anL n cs (rlL n i l)) = 0 → Zo.clo n (anL n cs (reM n i l)) = Zo.clo n (anL n cs (rlL n i l))) := by
  obtain ⟨e, hz⟩ := fr_zone hn hl hc h1 hi
  have lf : (frL n i l).length = (n + 1) * (n + 1) := by rw [frL_len, hl]
  have lr : (rlL n i l).length = (n + 1) * (n + 1) := by rw [rlL_len, hl]
  have vl := vl_of hl (chk_64 hc).2
  have rv : ∀ a b, a ≤ n → b ≤ n → Zo.Wl (Zo.At n (rlL n i l) a b) := by
    intro a b ha hb
    rw [rlL_at hl hi ha hb]
    split
    · exact Or.inl rfl
    · exact (vl a b ha hb).wl
  have hp := fr_pre hl hi hc
  have hz2 : cloE n (rlL n i l) = 0 := by rw [cloE_pre hp]; exact hz
  have hre : reM n i l = Zo.clo n (rlL n i l) := by unfold reM; rw [Zo.clo_pre hp]
  have hck : chkE n (reM n i l) = 0 := by rw [hre]; exact clo_chk hn lr rv hz2
  obtain ⟨t1, t2⟩ := an_twice hn hok lr rv hz2
  rw [if_pos hz]
  constructor
  · unfold anG anE
    rw [if_pos hck]
    simp only [Int.toNat_natCast]
    rw [okC_all hok, if_pos rfl, hre, t1]
  · intro h
    rw [hre]; exact t2 h
end Go.Proofs.Ytbnebinpemejlaa

namespace Go.Proofs.Ytbnebinpemejlaa
open Go.RowKit

def Fn (x : Int) : Prop := -2147483648 ≤ x ∧ x ≤ 2147483649

theorem Vz.two {n : Nat} {l : List Int} (h : Vz n l) {i j : Nat} (hi : i ≤ n) (hj : j ≤ n) : Zo.At n l i j = 1099511627776 ∨ Fn (Zo.At n l i j) := lv_two (h.lv hi hj).1

/-- Of bound clocks the elements of the one are those of the other, shifted. -/
theorem bd_row {n : Nat} {l : List Int} (h : Vz n l) {u i x : Nat} (hu : u ≤ n) (hi : i ≤ n) (hx : x ≤ n) (hb : bdB n l u i = true) :
    (Zo.At n l u x = 1099511627776 ∧ Zo.At n l i x = 1099511627776) ∨ (Fn (Zo.At n l u x) ∧ Fn (Zo.At n l i x) ∧ Zo.At n l u x = Zo.At n l i x + Zo.At n l u i - 1) := by
  obtain ⟨a1, a2, a3, a4⟩ := bd_fin h hu hi hb
  have e1 := h.tri hu hx hi
  have e2 := h.tri hi hx hu
  rcases h.two hu hx with c | c <;> rcases h.two hi hx with d | d
  · exact Or.inl ⟨c, d⟩
  · rw [smW_fin a1 d, if_neg (by omega)] at e1
    unfold Fn at d; omega
  · rw [smW_fin a2 c, if_neg (by omega)] at e2
    unfold Fn at c; omega
  · rw [smW_fin a1 d, if_neg (by omega)] at e1
    rw [smW_fin a2 c, if_neg (by omega)] at e2
    exact Or.inr ⟨c, d, by omega⟩

theorem bd_col {n : Nat} {l : List Int} (h : Vz n l) {x j v : Nat} (hx : x ≤ n) (hj : j ≤ n) (hv : v ≤ n) (hb : bdB n l j v = true) :
    (Zo.At n l x v = 1099511627776 ∧ Zo.At n l x j = 1099511627776) ∨ (Fn (Zo.At n l x v) ∧ Fn (Zo.At n l x j) ∧ Zo.At n l x v = Zo.At n l x j + Zo.At n l j v - 1) := by
  obtain ⟨a1, a2, a3, a4⟩ := bd_fin h hj hv hb
  have e1 := h.tri hx hv hj
  have e2 := h.tri hx hj hv
  rcases h.two hx hv with c | c <;> rcases h.two hx hj with d | d
  · exact Or.inl ⟨c, d⟩
  · rw [smW_fin d a1, if_neg (by omega)] at e1
    unfold Fn at d; omega
  · rw [smW_fin c a2, if_neg (by omega)] at e2
    unfold Fn at c; omega
  · rw [smW_fin d a1, if_neg (by omega)] at e1
    rw [smW_fin c a2, if_neg (by omega)] at e2
    exact Or.inr ⟨c, d, by omega⟩

theorem row_sum {n : Nat} {l : List Int} (h : Vz n l) {u i x : Nat} (hu : u ≤ n) (hi : i ≤ n) (hx : x ≤ n) (hb : bdB n l u i = true) : Zo.smW (Zo.At n l u i) (Zo.At n l i x) = Zo.At n l u x := by
  obtain ⟨a1, a2, a3, a4⟩ := bd_fin h hu hi hb
  rcases bd_row h hu hi hx hb with ⟨c, d⟩ | ⟨c, d, e⟩
  · rw [c, d, smW_no]
  · rw [smW_fin a1 d, if_neg (by omega)]; omega

theorem col_sum {n : Nat} {l : List Int} (h : Vz n l) {x j v : Nat} (hx : x ≤ n) (hj : j ≤ n) (hv : v ≤ n) (hb : bdB n l j v = true) : Zo.smW (Zo.At n l x j) (Zo.At n l j v) = Zo.At n l x v := by
  obtain ⟨a1, a2, a3, a4⟩ := bd_fin h hj hv hb
  rcases bd_col h hx hj hv hb with ⟨c, d⟩ | ⟨c, d, e⟩
  · rw [c, d, no_smW]
  · rw [smW_fin d a1, if_neg (by omega)]; omega

/-- The way by a clock is as long as that by a clock that is bound to it. -/
theorem mid_sum {n : Nat} {l : List Int} (h : Vz n l) {i j k f : Nat} (hi : i ≤ n) (hj : j ≤ n) (hk : k ≤ n) (hf : f ≤ n) (hb : bdB n l k f = true) :
    Zo.smW (Zo.At n l i k) (Zo.At n l k j) = Zo.smW (Zo.At n l i f) (Zo.At n l f j) := by
  obtain ⟨a1, a2, a3, a4⟩ := bd_fin h hk hf hb
  rcases bd_row h hk hf hj hb with ⟨c, d⟩ | ⟨c, d, e⟩
  · rw [c, d, smW_no, smW_no]
  rcases bd_col h hi hk hf hb with ⟨c', d'⟩ | ⟨c', d', e'⟩
  · rw [c', d', no_smW, no_smW]
  rw [smW_fin d' c, smW_fin c' d]
  split <;> split <;> omega

/-- A closed matrix above the zone that keeps the reduced constraints. -/
structure Mk (n : Nat) (z c : List Int) : Prop where
  vz : Vz n z
  lo : ∀ a b, a ≤ n → b ≤ n → Zo.At n z a b ≤ Zo.At n c a b
  top : ∀ a b, a ≤ n → b ≤ n → Zo.At n c a b ≤ 1099511627776
  tri : ∀ a b k, a ≤ n → b ≤ n → k ≤ n → Zo.At n c a b ≤ Zo.smW (Zo.At n c a k) (Zo.At n c k b)
  low : ∀ a, a ≤ n → Zo.At n c a a ≤ 1 ∧ Zo.At n c 0 a ≤ 1
  kp : ∀ a b, a ≤ n → b ≤ n → kpB n z a b = true → Zo.At n c a b ≤ Zo.At n z a b

theorem Mk.by {n : Nat} {z c : List Int} (m : Mk n z c) {a b k : Nat} (ha : a ≤ n) (hb : b ≤ n) (hk : k ≤ n) (h1 : Zo.At n c a k = Zo.At n z a k) (h2 : Zo.At n c k b = Zo.At n z k b)
    (e : Zo.smW (Zo.At n z a k) (Zo.At n z k b) = Zo.At n z a b) : Zo.At n c a b = Zo.At n z a b := by
  have := m.tri a b k ha hb hk
  rw [h1, h2, e] at this
  exact Int.le_antisymm this (m.lo a b ha hb)

theorem kp_in {n : Nat} {z : List Int} (h : Vz n z) {i j : Nat} (hi : i ≤ n) (hj : j ≤ n) (hij : i ≠ j) (hb : bdB n z i j = true) (hx : nxB n z i j = true) (h0 : ¬ (i = 0 ∧ Zo.At n z i j = 1)) : kpB n z i j = true := by
  obtain ⟨a1, a2, a3, a4⟩ := bd_fin h hi hj hb
  unfold kpB kpN
  rw [if_pos hb, hx, decide_eq_false hij, decide_eq_false (show ¬ Zo.At n z i j = 1099511627776 by omega)]
  simp only [Bool.not_false, Bool.true_and, Bool.or_eq_true, Bool.not_eq_true', decide_eq_false_iff_not]
  omega

theorem Mk.next {n : Nat} {z c : List Int} (m : Mk n z c) {i j : Nat} (hi : i ≤ n) (hj : j ≤ n) (hij : i ≠ j) (hb : bdB n z i j = true) (hx : nxB n z i j = true) : Zo.At n c i j = Zo.At n z i j := by
  refine Int.le_antisymm ?_ (m.lo i j hi hj)
  by_cases h0 : i = 0 ∧ Zo.At n z i j = 1
  · obtain ⟨rfl, e⟩ := h0
    rw [e]; exact (m.low j hj).2
  · exact m.kp i j hi hj (kp_in m.vz hi hj hij hb hx h0)

theorem nx_of {n : Nat} {z : List Int} (h : Vz n z) {i j : Nat} (hi : i ≤ n) (hno : ∀ k, k ≤ n → k ≠ i → k ≠ j → btB i j k = true → bdB n z i k = false) : nxB n z i j = true := by
  refine nxB_yes fun k hk => ?_
  cases hbt : btB i j k
  · simp
  · by_cases c : k = i
    · simp [skB, c]
    by_cases d : k = j
    · simp [skB, d]
    have := hno k (by omega) c d hbt
    rw [bd_comm h hi (by omega)] at this
    simp [skB, this]

theorem Mk.up {n : Nat} {z c : List Int} (m : Mk n z c) : ∀ d i j, j ≤ n → i < j → j - i ≤ d → bdB n z i j = true → Zo.At n c i j = Zo.At n z i j := by
  intro d
  induction d with
  | zero => intro i j _ h1 h2; omega
  | succ d ih =>
    intro i j hj hij hd hb
    by_cases hk : ∃ k, i < k ∧ k < j ∧ bdB n z i k = true
    · obtain ⟨k, k1, k2, k3⟩ := hk
      have k4 := bd_trans m.vz (i := k) (j := i) (k := j) (by omega) (by omega) hj (bd_symm m.vz (by omega) (by omega) k3) hb
      exact m.by (by omega) hj (by omega) (ih i k (by omega) k1 (by omega) k3) (ih k j hj k2 (by omega) k4) (row_sum m.vz (by omega) (by omega) hj k3)
    · refine m.next (by omega) hj (by omega) hb (nx_of m.vz (by omega) fun k h1 h2 h3 h4 => ?_)
      cases e : bdB n z i k
      · rfl
      · exfalso
        unfold btB at h4
        simp only [Bool.or_eq_true, Bool.and_eq_true, decide_eq_true_eq] at h4
        exact hk ⟨k, by omega, by omega, e⟩

theorem Mk.down {n : Nat} {z c : List Int} (m : Mk n z c) : ∀ d i j, i ≤ n → j < i → (n - i) + j < d → bdB n z i j = true → Zo.At n c i j = Zo.At n z i j := by
  intro d
  induction d with
  | zero => intro i j _ h1 h2; omega
  | succ d ih =>
    intro i j hi hij hd hb
    have tr : ∀ k, k ≤ n → bdB n z i k = true → bdB n z k j = true := fun k hk e => bd_trans m.vz hk hi (by omega) (bd_symm m.vz hi hk e) hb
    by_cases hk : ∃ k, k ≤ n ∧ bdB n z i k = true ∧ i < k
    · obtain ⟨k, k1, k2, k3⟩ := hk
      exact m.by hi (by omega) k1 (m.up _ i k k1 k3 (Nat.le_refl _) k2) (ih k j k1 (by omega) (by omega) (tr k k1 k2)) (row_sum m.vz hi k1 (by omega) k2)
    by_cases hk' : ∃ k, k < j ∧ bdB n z i k = true
    · obtain ⟨k, k1, k2⟩ := hk'
      exact m.by hi (by omega) (by omega) (ih i k hi (by omega) (by omega) k2) (m.up _ k j (by omega) k1 (Nat.le_refl _) (tr k (by omega) k2)) (row_sum m.vz hi (by omega) (by omega) k2)
    refine m.next hi (by omega) (by omega) hb (nx_of m.vz hi fun k h1 h2 h3 h4 => ?_)
    cases e : bdB n z i k
    · rfl
    · exfalso
      unfold btB at h4
      simp only [Bool.or_eq_true, Bool.and_eq_true, decide_eq_true_eq] at h4
      by_cases g : i < k
      · exact hk ⟨k, h1, e, g⟩
      · exact hk' ⟨k, by omega, e⟩

theorem Mk.cls {n : Nat} {z c : List Int} (m : Mk n z c) {i j : Nat} (hi : i ≤ n) (hj : j ≤ n) (hb : bdB n z i j = true) : Zo.At n c i j = Zo.At n z i j := by
  by_cases c1 : i < j
  · exact m.up _ i j hj c1 (Nat.le_refl _) hb
  by_cases c2 : j < i
  · exact m.down _ i j hi c2 (Nat.lt_succ_self _) hb
  obtain rfl : i = j := by omega
  have := (m.low i hi).1
  have := m.lo i i hi hi
  have := (m.vz.lv hi hi).2.1 rfl
  omega

theorem cnt_mono {S T : Nat → Bool} : ∀ N, (∀ v, v < N → S v = true → T v = true) → Zo.cnt S N ≤ Zo.cnt T N := by
  intro N
  induction N with
  | zero => intro _; exact Nat.le_refl _
  | succ N ih =>
    intro h
    rw [Zo.cnt_succ, Zo.cnt_succ]
    have := ih fun v hv => h v (by omega)
    have := h N (by omega)
    cases e : S N <;> cases g : T N <;> simp_all <;> omega

theorem cnt_lt {S T : Nat → Bool} {k : Nat} : ∀ N, (∀ v, v < N → S v = true → T v = true) → k < N → T k = true → S k = false → Zo.cnt S N < Zo.cnt T N := by
  intro N
  induction N with
  | zero => intro _ hk; omega
  | succ N ih =>
    intro h hk h1 h2
    rw [Zo.cnt_succ, Zo.cnt_succ]
    by_cases c : k = N
    · subst c
      have := cnt_mono k fun v hv => h v (by omega)
      rw [h1, h2]; simp; omega
    · have := ih (fun v hv => h v (by omega)) (by omega) h1 h2
      have := h N (by omega)
      cases e : S N <;> cases g : T N <;> simp_all <;> omega

theorem first_two {n : Nat} {z : List Int} (h : Vz n z) {i j : Nat} (hi : i ≤ n) (hj : j ≤ n) (fi : fiB n z i = true) (fj : fiB n z j = true) (hij : i ≠ j) : bdB n z i j = false := by
  by_cases c : i < j
  · exact fiB_iff.1 fj i c
  · rw [bd_comm h hi hj]; exact fiB_iff.1 fi j (by omega)

/-- The sum there and back between classes is more than 0. -/
theorem back_two {n : Nat} {z : List Int} (h : Vz n z) {i j : Nat} (hi : i ≤ n) (hj : j ≤ n) (hb : bdB n z i j = false) : 2 ≤ Zo.smW (Zo.At n z i j) (Zo.At n z j i) := by
  have e := h.tri hi hi hj
  rw [(h.lv hi hi).2.1 rfl] at e
  unfold bdB at hb
  rw [decide_eq_false_iff_not] at hb
  omega

theorem kpC_iff {n : Nat} {z : List Int} {i j k : Nat} : kpC n z i j k = true ↔ fiB n z k = true ∧ k ≠ i ∧ k ≠ j ∧ Zo.At n z i j = Zo.smW (Zo.At n z i k) (Zo.At n z k j) := by
  unfold kpC kpS
  simp only [Bool.and_eq_true, Bool.not_eq_true', decide_eq_false_iff_not, decide_eq_true_eq]
  constructor
  · rintro ⟨⟨⟨a, b⟩, c⟩, d⟩; exact ⟨a, b, c, d⟩
  · rintro ⟨a, b, c, d⟩; exact ⟨⟨⟨a, b⟩, c⟩, d⟩

theorem sm_fin {x y s : Int} (hx : x = 1099511627776 ∨ Fn x) (hy : y = 1099511627776 ∨ Fn y) (hs : Fn s) (e : s = Zo.smW x y) : Fn x ∧ Fn y := by
  rcases hx with rfl | hx
  · rw [no_smW] at e; unfold Fn at hs; omega
  rcases hy with rfl | hy
  · rw [smW_no] at e; unfold Fn at hs; omega
  exact ⟨hx, hy⟩

theorem sub_left {n : Nat} {z : List Int} (h : Vz n z) {i j k t : Nat} (hi : i ≤ n) (hj : j ≤ n) (hk : k ≤ n) (ht : t ≤ n) (fj : fiB n z j = true) (hf : Fn (Zo.At n z i j))
    (hc : kpC n z i j k = true) (hs : kpC n z i k t = true) : kpC n z i j t = true := by
  obtain ⟨c1, c2, c3, c4⟩ := kpC_iff.1 hc
  obtain ⟨s1, s2, s3, s4⟩ := kpC_iff.1 hs
  obtain ⟨f1, f2⟩ := sm_fin (h.two hi hk) (h.two hk hj) hf c4
  obtain ⟨f3, f4⟩ := sm_fin (h.two hi ht) (h.two ht hk) f1 s4
  have e1 := h.tri ht hj hk
  have e2 := h.tri hi hj ht
  have f5 : Fn (Zo.At n z t j) := by
    rcases h.two ht hj with q | q
    · rw [smW_fin f4 f2] at e1
      unfold Fn at *
      split at e1 <;> omega
    · exact q
  refine kpC_iff.2 ⟨s1, s2, ?_, ?_⟩
  · rintro rfl
    have b := back_two h ht hk (first_two h ht hk s1 c1 s3)
    rw [smW_fin f4 f2] at b
    rw [smW_fin f3 f4] at s4
    rw [smW_fin f1 f2] at c4
    split at b <;> split at s4 <;> split at c4 <;> omega
  · rw [smW_fin f3 f5] at e2 ⊢
    rw [smW_fin f4 f2] at e1
    rw [smW_fin f3 f4] at s4
    rw [smW_fin f1 f2] at c4
    split at e1 <;> split at s4 <;> split at c4 <;> split at e2 <;> split <;> omega

theorem sub_right {n : Nat} {z : List Int} (h : Vz n z) {i j k t : Nat} (hi : i ≤ n) (hj : j ≤ n) (hk : k ≤ n) (ht : t ≤ n) (fi : fiB n z i = true) (hf : Fn (Zo.At n z i j))
    (hc : kpC n z i j k = true) (hs : kpC n z k j t = true) : kpC n z i j t = true := by
  obtain ⟨c1, c2, c3, c4⟩ := kpC_iff.1 hc
  obtain ⟨s1, s2, s3, s4⟩ := kpC_iff.1 hs
  obtain ⟨f1, f2⟩ := sm_fin (h.two hi hk) (h.two hk hj) hf c4
  obtain ⟨f3, f4⟩ := sm_fin (h.two hk ht) (h.two ht hj) f2 s4
  have e1 := h.tri hi ht hk
  have e2 := h.tri hi hj ht
  have f5 : Fn (Zo.At n z i t) := by
    rcases h.two hi ht with q | q
    · rw [smW_fin f1 f3] at e1
      unfold Fn at *
      split at e1 <;> omega
    · exact q
  refine kpC_iff.2 ⟨s1, ?_, s3, ?_⟩
  · rintro rfl
    have b := back_two h ht hk (first_two h ht hk s1 c1 s2)
    rw [smW_fin f1 f3] at b
    rw [smW_fin f3 f4] at s4
    rw [smW_fin f1 f2] at c4
    split at b <;> split at s4 <;> split at c4 <;> omega
  · rw [smW_fin f5 f4] at e2 ⊢
    rw [smW_fin f1 f3] at e1
    rw [smW_fin f3 f4] at s4
    rw [smW_fin f1 f2] at c4
    split at e1 <;> split at s4 <;> split at c4 <;> split at e2 <;> split <;> omega

theorem kpA_iff {n : Nat} {z : List Int} {i j k : Nat} : kpA n z i j k = true ↔ i = 0 ∧ bdB n z k j = true ∧ Zo.At n z 0 k = 1 := by
  unfold kpA
  simp only [Bool.and_eq_true, decide_eq_true_eq]
  exact ⟨fun ⟨⟨a, b⟩, c⟩ => ⟨a, b, c⟩, fun ⟨a, b, c⟩ => ⟨⟨a, b⟩, c⟩⟩

theorem Mk.first {n : Nat} {z c : List Int} (m : Mk n z c) : ∀ d i j, i ≤ n → j ≤ n → fiB n z i = true → fiB n z j = true → i ≠ j → Zo.cnt (kpC n z i j) (n + 1) < d → Zo.At n c i j = Zo.At n z i j := by
  intro d
  induction d with
  | zero => intro i j _ _ _ _ _ h; omega
  | succ d ih =>
    intro i j hi hj fi fj hij hd
    rcases m.vz.two hi hj with q | hf
    · have := m.top i j hi hj
      have := m.lo i j hi hj
      omega
    by_cases hA : ∃ k, k ≤ n ∧ kpA n z i j k = true
    · obtain ⟨k, hk, hA⟩ := hA
      obtain ⟨rfl, hb, h0⟩ := kpA_iff.1 hA
      have h1 : Zo.At n c 0 k = Zo.At n z 0 k := by
        have := (m.low k hk).2
        have := m.lo 0 k hi hk
        omega
      exact m.by hi hj hk h1 (m.cls hk hj hb) (col_sum m.vz hi hk hj hb)
    by_cases hC : ∃ k, k ≤ n ∧ kpC n z i j k = true
    · obtain ⟨k, hk, hC⟩ := hC
      obtain ⟨c1, c2, c3, c4⟩ := kpC_iff.1 hC
      have n1 : kpC n z i k k = false := by
        cases e : kpC n z i k k
        · rfl
        · exact absurd rfl (kpC_iff.1 e).2.2.1
      have n2 : kpC n z k j k = false := by
        cases e : kpC n z k j k
        · rfl
        · exact absurd rfl (kpC_iff.1 e).2.1
      have l1 := cnt_lt (S := kpC n z i k) (T := kpC n z i j) (n + 1) (fun t ht hs => sub_left m.vz hi hj hk (by omega) fj hf hC hs) (show k < n + 1 by omega) hC n1
      have l2 := cnt_lt (S := kpC n z k j) (T := kpC n z i j) (n + 1) (fun t ht hs => sub_right m.vz hi hj hk (by omega) fi hf hC hs) (show k < n + 1 by omega) hC n2
      exact m.by hi hj hk (ih i k hi hk fi c1 (fun q => c2 q.symm) (by omega)) (ih k j hk hj c1 fj c3 (by omega)) c4.symm
    · refine Int.le_antisymm (m.kp i j hi hj ?_) (m.lo i j hi hj)
      have hb := first_two m.vz hi hj fi fj hij
      have hM : kpM n z i j = true := kpM_yes fi fj fun k hk => by
        cases e : kpA n z i j k
        · cases g : kpC n z i j k
          · rfl
          · exact absurd ⟨k, by omega, g⟩ hC
        · exact absurd ⟨k, by omega, e⟩ hA
      unfold kpB
      rw [hb, if_neg (by simp), hM, decide_eq_false hij, decide_eq_false (show ¬ Zo.At n z i j = 1099511627776 by unfold Fn at hf; omega)]
      rfl

theorem Mk.all {n : Nat} {z c : List Int} (m : Mk n z c) {i j : Nat} (hi : i ≤ n) (hj : j ≤ n) : Zo.At n c i j = Zo.At n z i j := by
  by_cases hb : bdB n z i j = true
  · exact m.cls hi hj hb
  obtain ⟨i1, i2, i3⟩ := cls_is m.vz hi
  obtain ⟨j1, j2, j3⟩ := cls_is m.vz hj
  have i2' := bd_symm m.vz hi (by omega) i2
  have j2' := bd_symm m.vz hj (by omega) j2
  have fi : fiB n z (clsF n z i) = true := (cls_first m.vz (by omega)).1 ((cls_eq m.vz (by omega) hi).2 i2')
  have fj : fiB n z (clsF n z j) = true := (cls_first m.vz (by omega)).1 ((cls_eq m.vz (by omega) hj).2 j2')
  have hne : clsF n z i ≠ clsF n z j := fun e => hb ((cls_eq m.vz hi hj).1 e)
  have h1 := m.first _ _ _ (by omega) (by omega) fi fj hne (Nat.lt_succ_self _)
  have h2 := m.by hi (show clsF n z j ≤ n by omega) (show clsF n z i ≤ n by omega) (m.cls hi (by omega) i2) h1 (row_sum m.vz hi (by omega) (by omega) i2)
  exact m.by hi hj (show clsF n z j ≤ n by omega) h2 (m.cls (by omega) hj j2') (col_sum m.vz hi (by omega) hj j2')
end Go.Proofs.Ytbnebinpemejlaa

namespace Go.Proofs.Ytbnebinpemejlaa
open Go.RowKit

theorem sm_mono {a b x y : Int} (ha : a = 1099511627776 ∨ Fn a) (hb : b = 1099511627776 ∨ Fn b) (h1 : a ≤ x) (h2 : b ≤ y) (hx : x ≤ 1099511627776) (hy : y ≤ 1099511627776) : Zo.smW a b ≤ Zo.smW x y := by
  by_cases cx : x = 1099511627776
  · subst cx
    rw [no_smW]
    rcases ha with rfl | ha
    · rw [no_smW]; omega
    rcases hb with rfl | hb
    · rw [smW_no]; omega
    rw [smW_fin ha hb]
    unfold Fn at *
    split <;> omega
  by_cases cy : y = 1099511627776
  · subst cy
    rw [smW_no]
    rcases ha with rfl | ha
    · rw [no_smW]; omega
    rcases hb with rfl | hb
    · rw [smW_no]; omega
    rw [smW_fin ha hb]
    unfold Fn at *
    split <;> omega
  rcases ha with rfl | ha
  · omega
  rcases hb with rfl | hb
  · omega
  rw [smW_fin ha hb]
  unfold Fn at *
  have e : Zo.smW x y = if x % 2 = 0 ∧ y % 2 = 0 then Zo.w64 (x + y) else Zo.w64 (Zo.w64 (x + y) - 1) := by
    unfold Zo.smW; rw [if_neg (by omega)]
  rw [e]
  unfold Zo.w64
  split <;> split <;> omega

theorem sm_less1 {a b x y : Int} (ha : Fn a) (ho : a % 2 = 1) (hb : Fn b) (h1 : a ≤ x) (h2 : b < y) (hx : x ≤ 1099511627776) (hy : y ≤ 1099511627776) : a + b - 1 < Zo.smW x y := by
  unfold Fn at *
  by_cases cx : x = 1099511627776
  · subst cx
    rw [no_smW]; omega
  by_cases cy : y = 1099511627776
  · subst cy
    rw [smW_no]; omega
  unfold Zo.smW Zo.w64
  rw [if_neg (by omega)]
  split <;> omega

theorem sm_less2 {a b x y : Int} (ha : Fn a) (ho : b % 2 = 1) (hb : Fn b) (h1 : a < x) (h2 : b ≤ y) (hx : x ≤ 1099511627776) (hy : y ≤ 1099511627776) : a + b - 1 < Zo.smW x y := by
  unfold Fn at *
  by_cases cx : x = 1099511627776
  · subst cx
    rw [no_smW]; omega
  by_cases cy : y = 1099511627776
  · subst cy
    rw [smW_no]; omega
  unfold Zo.smW Zo.w64
  rw [if_neg (by omega)]
  split <;> omega

/-- A cut: no way from A to B that is as short as the zone's leads around it. -/
structure Cut (n : Nat) (z : List Int) (A B : Nat → Prop) : Prop where
  fin : ∀ u v, u ≤ n → v ≤ n → A u → B v → Fn (Zo.At n z u v)
  low : ∀ u v, u ≤ n → v ≤ n → A u → B v → (u = 0 ∨ u = v) → Zo.At n z u v < 1
  way : ∀ u v k, u ≤ n → v ≤ n → k ≤ n → A u → B v → (A k ∧ bdB n z u k = true) ∨ (B k ∧ bdB n z k v = true) ∨ Zo.At n z u v < Zo.smW (Zo.At n z u k) (Zo.At n z k v)

def Ov (n : Nat) (z : List Int) (A B : Nat → Prop) (x : List Int) : Prop :=
  x.length = (n + 1) * (n + 1) ∧ ∀ a b, a ≤ n → b ≤ n → Zo.At n z a b ≤ Zo.At n x a b ∧ Zo.At n x a b ≤ 1099511627776 ∧ (A a → B b → Zo.At n z a b < Zo.At n x a b)

theorem cut_clo {n : Nat} {z x : List Int} {A B : Nat → Prop} (h : Vz n z) (hc : Cut n z A B) (hx : Ov n z A B x) : Ov n z A B (Zo.clo n x) := by
  refine Zo.clo_keeps (R := Ov n z A B) ?_ ?_ hx
  · intro l i j hij hi hj ⟨hl, hr⟩
    refine ⟨by simpa using hl, fun a b ha hb => ?_⟩
    rw [Zo.At_set hl hi hj _ hb]
    obtain ⟨r1, r2, r3⟩ := hr a b ha hb
    split
    · rename_i e
      obtain ⟨rfl, rfl⟩ := e
      have q : Zo.At n z a b ≤ 1 := by
        rcases hij with e | e
        · exact (h.lv ha hb).2.2 e
        · have := (h.lv ha hb).2.1 e; omega
      refine ⟨by omega, by omega, fun hA hB => ?_⟩
      have := hc.low a b ha hb hA hB hij
      have := r3 hA hB
      omega
    · exact ⟨r1, r2, r3⟩
  · intro l k i j hk hi hj ⟨hl, hr⟩
    refine ⟨by simpa [Zo.rlx] using hl, fun a b ha hb => ?_⟩
    unfold Zo.rlx
    rw [Zo.At_set hl hi hj _ hb]
    obtain ⟨r1, r2, r3⟩ := hr a b ha hb
    split
    · rename_i e
      obtain ⟨rfl, rfl⟩ := e
      obtain ⟨p1, p2, p3⟩ := hr a k ha hk
      obtain ⟨q1, q2, q3⟩ := hr k b hk hb
      have mono := sm_mono (h.two ha hk) (h.two hk hb) p1 q1 p2 q2
      have tr := h.tri ha hb hk
      refine ⟨by omega, by omega, fun hA hB => ?_⟩
      have := r3 hA hB
      have key : Zo.At n z a b < Zo.smW (Zo.At n l a k) (Zo.At n l k b) := by
        have hf := hc.fin a b ha hb hA hB
        rcases hc.way a b k ha hb hk hA hB with ⟨hAk, hbd⟩ | ⟨hBk, hbd⟩ | hw
        · obtain ⟨a1, a2, a3, a4⟩ := bd_fin h ha hk hbd
          rcases bd_row h ha hk hb hbd with ⟨c, _⟩ | ⟨c, d, e⟩
          · rw [c] at hf; unfold Fn at hf; omega
          · have := sm_less1 a1 a4 d p1 (q3 hAk hB) p2 q2
            omega
        · obtain ⟨a1, a2, a3, a4⟩ := bd_fin h hk hb hbd
          rcases bd_col h ha hk hb hbd with ⟨c, _⟩ | ⟨c, d, e⟩
          · rw [c] at hf; unfold Fn at hf; omega
          · have := sm_less2 d a4 a1 (p3 hA hBk) q1 p2 q2
            omega
        · omega
      omega
    · exact ⟨r1, r2, r3⟩

/-- Only clocks of the class lie on the ways within it. -/
theorem way_in {n : Nat} {z : List Int} (h : Vz n z) {u v k : Nat} (hu : u ≤ n) (hv : v ≤ n) (hk : k ≤ n) (hb : bdB n z u v = true) (hnk : bdB n z u k = false) : Zo.At n z u v < Zo.smW (Zo.At n z u k) (Zo.At n z k v) := by
  obtain ⟨a1, a2, a3, a4⟩ := bd_fin h hu hv hb
  have tr := h.tri hu hv hk
  by_cases e : Zo.At n z u v = Zo.smW (Zo.At n z u k) (Zo.At n z k v)
  · exfalso
    obtain ⟨f1, f2⟩ := sm_fin (h.two hu hk) (h.two hk hv) a1 e
    have b := back_two h hu hk hnk
    rcases h.two hk hu with q | f3
    · have := h.tri hk hu hv
      rw [q, smW_fin f2 a2] at this
      unfold Fn at f2
      split at this <;> omega
    have t2 := h.tri hk hu hv
    rw [smW_fin f2 a2] at t2
    rw [smW_fin f1 f3] at b
    rw [smW_fin f1 f2] at e
    split at t2 <;> split at b <;> split at e <;> omega
  · omega

theorem kp_parts {n : Nat} {z : List Int} {i j : Nat} (h : kpB n z i j = true) :
    i ≠ j ∧ Zo.At n z i j ≠ 1099511627776 ∧ ((bdB n z i j = true ∧ nxB n z i j = true ∧ ¬ (i = 0 ∧ Zo.At n z i j = 1)) ∨
      (bdB n z i j = false ∧ fiB n z i = true ∧ fiB n z j = true ∧ ∀ k, k ≤ n → kpA n z i j k = false ∧ kpC n z i j k = false)) := by
  unfold kpB at h
  simp only [Bool.and_eq_true, Bool.not_eq_true', decide_eq_false_iff_not] at h
  obtain ⟨⟨h1, h2⟩, h3⟩ := h
  refine ⟨h1, h2, ?_⟩
  by_cases hb : bdB n z i j = true
  · rw [if_pos hb] at h3
    unfold kpN at h3
    simp only [Bool.and_eq_true, Bool.or_eq_true, Bool.not_eq_true', decide_eq_false_iff_not] at h3
    exact Or.inl ⟨hb, h3.1, fun ⟨a, b⟩ => by rcases h3.2 with c | c <;> simp_all⟩
  · rw [if_neg hb] at h3
    unfold kpM at h3
    simp only [Bool.and_eq_true, List.all_eq_true] at h3
    obtain ⟨⟨f1, f2⟩, f3⟩ := h3
    refine Or.inr ⟨by simpa using hb, f1, f2, fun k hk => ?_⟩
    have := f3 k (List.mem_range.2 (by omega))
    simpa using this

theorem nx_no {n : Nat} {z : List Int} (h : Vz n z) {i j k : Nat} (hi : i ≤ n) (hk : k ≤ n) (hx : nxB n z i j = true) (k1 : k ≠ i) (k2 : k ≠ j) (hb : bdB n z i k = true) : btB i j k = false := by
  unfold nxB at hx
  rw [List.all_eq_true] at hx
  have := hx k (List.mem_range.2 (by omega))
  rw [bd_comm h hi hk] at hb
  simpa [skB, k1, k2, hb] using this

/-- For each of the reduced constraints there is a cut that none of the others crosses. -/
theorem cut_of {n : Nat} {z : List Int} (h : Vz n z) {i j : Nat} (hi : i ≤ n) (hj : j ≤ n) (hkij : kpB n z i j = true) :
    ∃ A B : Nat → Prop, Cut n z A B ∧ A i ∧ B j ∧ (∀ u v, u ≤ n → v ≤ n → A u → B v → kpB n z u v = true → u = i ∧ v = j) := by
  obtain ⟨hij, hno, hc⟩ := kp_parts hkij
  rcases hc with ⟨hb, hx, h0⟩ | ⟨hb, fi, fj, hr⟩
  · by_cases i0 : i = 0
    · subst i0
      have h0 : Zo.At n z 0 j ≠ 1 := fun e => h0 ⟨rfl, e⟩
      have cl : ∀ u, u ≤ n → bdB n z 0 u = true → bdB n z u j = true := fun u hu e => bd_trans h hu hi hj (bd_symm h hi hu e) hb
      refine ⟨fun u => bdB n z 0 u = true ∧ u ≠ j, fun v => v = j, ⟨?_, ?_, ?_⟩, ⟨bd_self h hi, hij⟩, rfl, ?_⟩
      · rintro u v hu hv ⟨p, q⟩ rfl
        exact (bd_fin h hu hv (cl u hu p)).1
      · rintro u v hu hv ⟨p, q⟩ rfl (rfl | e)
        · have := (h.lv hu hv).2.2 rfl
          omega
        · exact absurd e q
      · rintro u v k hu hv hk ⟨p, q⟩ rfl
        by_cases hbk : bdB n z u k = true
        · by_cases e : k = v
          · subst e
            exact Or.inr (Or.inl ⟨rfl, bd_self h hk⟩)
          · exact Or.inl ⟨⟨bd_trans h hi hu hk p hbk, e⟩, hbk⟩
        · exact Or.inr (Or.inr (way_in h hu hv hk (cl u hu p) (by simpa using hbk)))
      · rintro u v hu hv ⟨p, q⟩ rfl hkp
        refine ⟨?_, rfl⟩
        by_cases e : u = 0
        · exact e
        exfalso
        obtain ⟨_, _, hc'⟩ := kp_parts hkp
        rcases hc' with ⟨_, hx', _⟩ | ⟨hb', _⟩
        · have n1 := nx_no h hi hu hx e q p
          have n2 := nx_no h hu hi hx' (fun e' => e e'.symm) hij (bd_symm h hi hu p)
          unfold btB at n1 n2
          simp at n1 n2
          omega
        · rw [cl u hu p] at hb'; cases hb'
    · refine ⟨fun u => u = i, fun v => bdB n z i v = true ∧ v ≠ i, ⟨?_, ?_, ?_⟩, rfl, ⟨hb, fun e => hij e.symm⟩, ?_⟩
      · rintro u v hu hv rfl ⟨p, q⟩
        exact (bd_fin h hu hv p).1
      · rintro u v hu hv rfl ⟨p, q⟩ (e | e)
        · exact absurd e i0
        · exact absurd e.symm q
      · rintro u v k hu hv hk rfl ⟨p, q⟩
        by_cases hbk : bdB n z u k = true
        · by_cases e : k = u
          · subst e
            exact Or.inl ⟨rfl, bd_self h hk⟩
          · exact Or.inr (Or.inl ⟨⟨hbk, e⟩, bd_trans h hk hu hv (bd_symm h hu hk hbk) p⟩)
        · exact Or.inr (Or.inr (way_in h hu hv hk p (by simpa using hbk)))
      · rintro u v hu hv rfl ⟨p, q⟩ hkp
        refine ⟨rfl, ?_⟩
        by_cases e : v = j
        · exact e
        exfalso
        obtain ⟨_, _, hc'⟩ := kp_parts hkp
        rcases hc' with ⟨_, hx', _⟩ | ⟨hb', _⟩
        · have n1 := nx_no h hu hv hx q e p
          have n2 := nx_no h hu hj hx' (fun e' => hij e'.symm) (fun e' => e e'.symm) hb
          unfold btB at n1 n2
          simp at n1 n2
          omega
        · rw [p] at hb'; cases hb'
  · have hf : Fn (Zo.At n z i j) := by
      rcases h.two hi hj with q | q
      · exact absurd q hno
      · exact q
    have shift : ∀ u v, u ≤ n → v ≤ n → bdB n z i u = true → bdB n z j v = true → Fn (Zo.At n z u v) ∧ Fn (Zo.At n z u j) ∧ Fn (Zo.At n z i v) ∧ Zo.At n z u v = Zo.At n z i j + (Zo.At n z u i - 1) + (Zo.At n z j v - 1) := by
      intro u v hu hv p q
      have p' := bd_symm h hi hu p
      rcases bd_row h hu hi hj p' with ⟨c, d⟩ | ⟨c, d, e⟩
      · exact absurd d hno
      rcases bd_col h hu hj hv q with ⟨c', d'⟩ | ⟨c', d', e'⟩
      · rw [d'] at c; unfold Fn at c; omega
      rcases bd_row h hu hi hv p' with ⟨c2, d2⟩ | ⟨c2, d2, e2⟩
      · rw [c2] at c'; unfold Fn at c'; omega
      exact ⟨c', c, d2, by omega⟩
    refine ⟨fun u => bdB n z i u = true, fun v => bdB n z j v = true, ⟨?_, ?_, ?_⟩, bd_self h hi, bd_self h hj, ?_⟩
    · exact fun u v hu hv p q => (shift u v hu hv p q).1
    · rintro u v hu hv p q (rfl | rfl)
      · have i0 : i = 0 := by
          by_cases c : 0 < i
          · have := fiB_iff.1 fi 0 c
            rw [bd_comm h hu hi, p] at this; cases this
          · omega
        subst i0
        have hA := (hr v hv).1
        have := (h.lv hu hv).2.2 rfl
        by_cases e : Zo.At n z 0 v = 1
        · rw [kpA_iff.2 ⟨rfl, bd_symm h hj hv q, e⟩] at hA; cases hA
        · omega
      · have := bd_trans h hi hu hj p (bd_symm h hj hu q)
        rw [hb] at this; cases this
    · intro u v k hu hv hk p q
      by_cases c1 : bdB n z i k = true
      · exact Or.inl ⟨c1, bd_trans h hu hi hk (bd_symm h hi hu p) c1⟩
      by_cases c2 : bdB n z j k = true
      · exact Or.inr (Or.inl ⟨c2, bd_trans h hk hj hv (bd_symm h hj hk c2) q⟩)
      refine Or.inr (Or.inr ?_)
      obtain ⟨k1, k2, k3⟩ := cls_is h hk
      have k2' := bd_symm h hk (by omega) k2
      have ff : fiB n z (clsF n z k) = true := (cls_first h (by omega)).1 ((cls_eq h (by omega) hk).2 k2')
      have n1 : clsF n z k ≠ i := fun e => by rw [e] at k2'; exact c1 k2'
      have n2 : clsF n z k ≠ j := fun e => by rw [e] at k2'; exact c2 k2'
      have hC := (hr (clsF n z k) (by omega)).2
      have ne : Zo.At n z i j ≠ Zo.smW (Zo.At n z i k) (Zo.At n z k j) := fun e => by
        rw [mid_sum h hi hj hk (show clsF n z k ≤ n by omega) k2] at e
        rw [kpC_iff.2 ⟨ff, n1, n2, e⟩] at hC; cases hC
      have tr := h.tri hi hj hk
      have lt : Zo.At n z i j < Zo.smW (Zo.At n z i k) (Zo.At n z k j) := by omega
      obtain ⟨s1, s2, s3, s4⟩ := shift u v hu hv p q
      have p' := bd_symm h hi hu p
      obtain ⟨_, _, _, o1⟩ := bd_fin h hu hi p'
      obtain ⟨_, _, _, o2⟩ := bd_fin h hj hv q
      rcases bd_row h hu hi hk p' with ⟨c, d⟩ | ⟨c, d, e⟩
      · rw [c, no_smW]; unfold Fn at s1; omega
      rcases bd_col h hk hj hv q with ⟨c', d'⟩ | ⟨c', d', e'⟩
      · rw [c', smW_no]; unfold Fn at s1; omega
      rw [smW_fin d d'] at lt
      rw [smW_fin c c']
      split at lt <;> split <;> omega
    · intro u v hu hv p q hkp
      obtain ⟨_, _, hc'⟩ := kp_parts hkp
      rcases hc' with ⟨hb', _⟩ | ⟨_, fu, fv, _⟩
      · have := bd_trans h hi hu hj p (bd_trans h hu hv hj hb' (bd_symm h hj hv q))
        rw [hb] at this; cases this
      · constructor
        · by_cases e : u = i
          · exact e
          · have := first_two h hi hu fi fu (fun q => e q.symm)
            rw [p] at this; cases this
        · by_cases e : v = j
          · exact e
          · have := first_two h hj hv fj fv (fun q => e q.symm)
            rw [q] at this; cases this
end Go.Proofs.Ytbnebinpemejlaa

namespace Go.Proofs.Ytbnebinpemejlaa
open Go.RowKit

set_option maxRecDepth 100000 in
theorem bum_facts : ∀ n : Nat, n < 11 → flE (n : Int) 1099511627776 = 0 ∧ chkE (n : Int) (buM (n : Int)) = 0 ∧ ∀ a, a < n + 1 → ∀ b, b < n + 1 → Zo.At n (buM (n : Int)) a b = if a = b ∨ a = 0 then 1 else 1099511627776 := by
  decide +kernel

/-- Constraints out of a zone. -/
def Fr (n : Nat) (z : List Int) (c : Con) : Prop := ∃ i j : Nat, i ≤ n ∧ j ≤ n ∧ kpB n z i j = true ∧ c = ((i : Int), (j : Int), Zo.At n z i j)

theorem fr_ok {n : Nat} {z : List Int} (h : Vz n z) {c : Con} (hc : Fr n z c) : okC n c = true := by
  obtain ⟨i, j, hi, hj, _, rfl⟩ := hc
  unfold okC
  rw [(h.lv hi hj).1]
  simp; omega

theorem red_mem {n : Nat} {z : List Int} {c : Con} : c ∈ redL n z ↔ Fr n z c := by
  unfold redL redS redT Fr
  simp only [List.mem_flatMap, List.mem_range]
  constructor
  · rintro ⟨i, hi, j, hj, hm⟩
    by_cases e : kpB n z i j = true
    · rw [if_pos e] at hm
      exact ⟨i, j, by omega, by omega, e, by simpa using hm⟩
    · rw [if_neg e] at hm; simp at hm
  · rintro ⟨i, j, hi, hj, e, rfl⟩
    exact ⟨i, by omega, j, by omega, by rw [if_pos e]; simp⟩

def Ap (c d : Con) : Prop := ¬ (c.1 = d.1 ∧ c.2.1 = d.2.1)

theorem red_apart (n : Nat) (z : List Int) : (redL n z).Pairwise Ap := by
  unfold redL redS
  rw [List.pairwise_flatMap]
  refine ⟨fun i _ => ?_, ?_⟩
  · unfold redT
    rw [List.pairwise_flatMap]
    refine ⟨fun j _ => by split <;> simp, ?_⟩
    refine List.Pairwise.imp ?_ List.pairwise_lt_range
    intro a b hab x hx y hy
    split at hx <;> split at hy <;> simp at hx hy
    subst hx; subst hy
    unfold Ap; simp; omega
  · refine List.Pairwise.imp ?_ List.pairwise_lt_range
    intro a b hab x hx y hy
    unfold redT at hx hy
    simp only [List.mem_flatMap, List.mem_range] at hx hy
    obtain ⟨j, _, hx⟩ := hx
    obtain ⟨k, _, hy⟩ := hy
    split at hx <;> split at hy <;> simp at hx hy
    subst hx; subst hy
    unfold Ap; simp; omega

theorem gc_mem {cs : List Con} {t : Nat} (h : t < cs.length) : gc cs t ∈ cs := by
  rw [show gc cs t = cs[t] by simp [gc, h]]; exact List.getElem_mem h

/-- What constraints leave: an element is as it was, or one of them. -/
theorem an_exact {n : Nat} {cs : List Con} (hok : ∀ t, t < cs.length → okC n (gc cs t) = true) {u : List Int} (hu : u.length = (n + 1) * (n + 1)) : ∀ s, s ≤ cs.length → ∀ a b, a ≤ n → b ≤ n →
    Zo.At n ((List.range s).foldl (anS n cs) u) a b = Zo.At n u a b ∨ ∃ t, t < s ∧ (gc cs t).1.toNat = a ∧ (gc cs t).2.1.toNat = b ∧ Zo.At n ((List.range s).foldl (anS n cs) u) a b = (gc cs t).2.2 := by
  intro s
  induction s with
  | zero => intro _ a b _ _; exact Or.inl rfl
  | succ s ih =>
    intro hs a b ha hb
    rw [Zo.fold_succ, anS_at (by rw [an_len, hu]) (hok s (by omega)) hb]
    split
    · rename_i e
      obtain ⟨rfl, rfl⟩ := e
      unfold imin
      by_cases c : Zo.At n ((List.range s).foldl (anS n cs) u) (gc cs s).1.toNat (gc cs s).2.1.toNat ≤ (gc cs s).2.2
      · rw [Int.min_eq_left c]
        rcases ih (by omega) _ _ ha hb with q | ⟨t, h1, h2, h3, h4⟩
        · exact Or.inl q
        · exact Or.inr ⟨t, by omega, h2, h3, h4⟩
      · rw [Int.min_eq_right (by omega)]
        exact Or.inr ⟨s, by omega, rfl, rfl, rfl⟩
    · rcases ih (by omega) a b ha hb with q | ⟨t, h1, h2, h3, h4⟩
      · exact Or.inl q
      · exact Or.inr ⟨t, by omega, h2, h3, h4⟩

/-- What is true of the matrix that Build closes, for constraints out of the zone. -/
structure Bu (n : Nat) (z : List Int) (cs : List Con) (x : List Int) : Prop where
  len : x.length = (n + 1) * (n + 1)
  lo : ∀ a b, a ≤ n → b ≤ n → Zo.At n z a b ≤ Zo.At n x a b
  top : ∀ a b, a ≤ n → b ≤ n → Zo.At n x a b ≤ 1099511627776
  wl : ∀ a b, a ≤ n → b ≤ n → Zo.Wl (Zo.At n x a b)
  of : ∀ a b, a ≤ n → b ≤ n → (Zo.At n x a b = if a = b ∨ a = 0 then 1 else 1099511627776) ∨ ∃ c, c ∈ cs ∧ c.1.toNat = a ∧ c.2.1.toNat = b
  le : ∀ c, c ∈ cs → Zo.At n x c.1.toNat c.2.1.toNat ≤ c.2.2

theorem bu_of {n : Nat} {z : List Int} {cs : List Con} (h : Vz n z) (hc : ∀ c, c ∈ cs → Fr n z c) : Bu n z cs (anL n cs (buM (n : Int))) ∧ buE (n : Int) cs = cloE n (anL n cs (buM (n : Int))) := by
  obtain ⟨f1, f2, f3⟩ := bum_facts n (by have := h.hn; omega)
  have hok : ∀ t, t < cs.length → okC n (gc cs t) = true := fun t ht => fr_ok h (hc _ (gc_mem ht))
  have hml : (buM (n : Int)).length = (n + 1) * (n + 1) := by unfold buM; rw [Zo.clo_length]; simp
  have hv : Vz n (buM (n : Int)) := ⟨h.hn, hml, f2⟩
  have f3' : ∀ a b, a ≤ n → b ≤ n → Zo.At n (buM (n : Int)) a b = if a = b ∨ a = 0 then 1 else 1099511627776 := fun a b ha hb => f3 a (by omega) b (by omega)
  have lo : ∀ a b, a ≤ n → b ≤ n → Zo.At n z a b ≤ Zo.At n (buM (n : Int)) a b := by
    intro a b ha hb
    rw [f3' a b ha hb]
    have l1 := h.lv ha hb
    split
    · rename_i e
      rcases e with e | e
      · have := l1.2.1 e; omega
      · exact l1.2.2 e
    · rcases h.two ha hb with q | q
      · omega
      · unfold Fn at q; omega
  have ex := an_exact hok hml cs.length (Nat.le_refl _)
  have le1 := an_le hok hml cs.length (Nat.le_refl _)
  refine ⟨⟨by rw [anL_len, hml], ?_, ?_, ?_, ?_, ?_⟩, ?_⟩
  · intro a b ha hb
    rcases ex a b ha hb with q | ⟨t, h1, h2, h3, h4⟩
    · show _ ≤ Zo.At n (anL n cs (buM (n : Int))) a b
      unfold anL; rw [q]; exact lo a b ha hb
    · show _ ≤ Zo.At n (anL n cs (buM (n : Int))) a b
      unfold anL; rw [h4]
      obtain ⟨i, j, hi, hj, _, e⟩ := hc _ (gc_mem h1)
      rw [e] at h2 h3 ⊢
      simp at h2 h3
      subst h2; subst h3
      exact Int.le_refl _
  · intro a b ha hb
    have := le1 a b ha hb
    unfold anL
    have t := f3' a b ha hb
    split at t <;> omega
  · refine an_wl hok hml fun a b ha hb => ?_
    have t := f3' a b ha hb
    rw [t]
    unfold Zo.Wl
    split <;> omega
  · intro a b ha hb
    rcases ex a b ha hb with q | ⟨t, h1, h2, h3, h4⟩
    · left
      unfold anL; rw [q]; exact f3' a b ha hb
    · exact Or.inr ⟨_, gc_mem h1, h2, h3⟩
  · intro c hcm
    obtain ⟨t, ht, rfl⟩ := List.getElem_of_mem hcm
    have := an_at hok hml cs.length (Nat.le_refl _) t ht
    rw [show gc cs t = cs[t] by simp [gc, ht]] at this
    exact this
  · unfold buE
    rw [if_pos f1]
    unfold anG
    rw [if_pos f2]
    exact anE_ok hok

theorem ov_of {n : Nat} {z x : List Int} {cs : List Con} (b : Bu n z cs x) : Ov n z (fun _ => False) (fun _ => False) x :=
  ⟨b.len, fun a c ha hc => ⟨b.lo a c ha hc, b.top a c ha hc, fun q => q.elim⟩⟩

theorem cut_none (n : Nat) (z : List Int) : Cut n z (fun _ => False) (fun _ => False) := ⟨fun _ _ _ _ q => q.elim, fun _ _ _ _ q => q.elim, fun _ _ _ _ _ _ q => q.elim⟩

theorem back_all {n : Nat} {z : List Int} (h : Vz n z) : buE (n : Int) (redL n z) = 0 ∧ buL (n : Int) (redL n z) = z := by
  obtain ⟨b, e⟩ := bu_of h (cs := redL n z) fun c hc => red_mem.1 hc
  obtain ⟨hl, ho⟩ := cut_clo h (cut_none n z) (ov_of b)
  have hd : ∀ i, i ≤ n → 1 ≤ Zo.At n (Zo.clo n (anL n (redL n z) (buM (n : Int)))) i i := fun i hi => by
    have := (ho i i hi hi).1
    rw [(h.lv hi hi).2.1 rfl] at this; exact this
  have mk : Mk n z (Zo.clo n (anL n (redL n z) (buM (n : Int)))) := by
    refine ⟨h, fun a b ha hb => (ho a b ha hb).1, fun a b ha hb => (ho a b ha hb).2.1, fun a c k ha hc hk => Zo.clo_sums h.hn b.len b.wl hd a c k ha hc hk, fun a ha => Zo.clo_lows b.len a ha, fun i j hi hj hk => ?_⟩
    refine Int.le_trans (Zo.le_clo b.len i j hi hj) ?_
    have := b.le ((i : Int), (j : Int), Zo.At n z i j) (red_mem.2 ⟨i, j, hi, hj, hk, rfl⟩)
    simpa using this
  have eq : Zo.clo n (anL n (redL n z) (buM (n : Int))) = z := Zo.At_ext hl h.hl fun a b ha hb => mk.all ha hb
  refine ⟨?_, eq⟩
  rw [e, cloE_zero]
  refine ⟨cloB_iff.2 hd, ?_⟩
  rw [eq]
  exact all_of_lv h.hl fun a b ha hb => (h.lv ha hb).1

theorem back_less {n : Nat} {z : List Int} (h : Vz n z) {k : Nat} (hk : k < (redL n z).length) {cs : List Con} (hcs : cs = (redL n z).take k ++ (redL n z).drop (k + 1)) :
    buE (n : Int) cs = 7 ∨ (buE (n : Int) cs = 0 ∧ chkE (n : Int) (buL (n : Int) cs) = 0 ∧ (buL (n : Int) cs).length = (n + 1) * (n + 1) ∧ (∀ a b, a ≤ n → b ≤ n → Zo.At n z a b ≤ Zo.At n (buL (n : Int) cs) a b) ∧ buL (n : Int) cs ≠ z) := by
  have hsub : ∀ c, c ∈ cs → c ∈ redL n z := fun c hc => by
    rw [hcs, List.mem_append] at hc
    rcases hc with q | q
    · exact List.mem_of_mem_take q
    · exact List.mem_of_mem_drop q
  obtain ⟨i, j, hi, hj, hkp, hx⟩ := red_mem.1 (List.getElem_mem hk)
  have hap : ∀ c, c ∈ cs → ¬ (c.1 = (i : Int) ∧ c.2.1 = (j : Int)) := by
    intro c hc ⟨e1, e2⟩
    have hp := red_apart n z
    have hdrop : (redL n z).drop k = (redL n z)[k] :: (redL n z).drop (k + 1) := List.drop_eq_getElem_cons hk
    rw [← List.take_append_drop k (redL n z), hdrop, List.pairwise_append, List.pairwise_cons] at hp
    obtain ⟨_, ⟨p1, _⟩, p2⟩ := hp
    rw [hcs, List.mem_append] at hc
    rcases hc with q | q
    · exact p2 c q _ (List.mem_cons_self) ⟨by rw [hx]; exact e1, by rw [hx]; exact e2⟩
    · exact p1 c q ⟨by rw [hx]; exact e1.symm, by rw [hx]; exact e2.symm⟩
  obtain ⟨b, e⟩ := bu_of h (cs := cs) fun c hc => red_mem.1 (hsub c hc)
  obtain ⟨A, B, cut, hA, hB, only⟩ := cut_of h hi hj hkp
  have ov : Ov n z A B (anL n cs (buM (n : Int))) := by
    refine ⟨b.len, fun u v hu hv => ⟨b.lo u v hu hv, b.top u v hu hv, fun qA qB => ?_⟩⟩
    have l := b.lo u v hu hv
    rcases b.of u v hu hv with q | ⟨c, hc, c1, c2⟩
    · split at q
      · rename_i g
        have := cut.low u v hu hv qA qB (by rcases g with g | g; exact Or.inr g; exact Or.inl g)
        omega
      · have := cut.fin u v hu hv qA qB
        unfold Fn at this
        omega
    · exfalso
      obtain ⟨i', j', hi', hj', hk', rfl⟩ := red_mem.1 (hsub c hc)
      simp at c1 c2
      subst c1; subst c2
      obtain ⟨rfl, rfl⟩ := only _ _ hu hv qA qB hk'
      exact hap _ hc ⟨rfl, rfl⟩
  obtain ⟨hl, ho⟩ := cut_clo h cut ov
  have hd : ∀ i, i ≤ n → 1 ≤ Zo.At n (Zo.clo n (anL n cs (buM (n : Int)))) i i := fun i hi => by
    have := (ho i i hi hi).1
    rw [(h.lv hi hi).2.1 rfl] at this; exact this
  have hB0 := cloB_iff.2 hd
  by_cases hr : (Zo.clo n (anL n cs (buM (n : Int)))).all lvB = true
  · right
    have hz : cloE n (anL n cs (buM (n : Int))) = 0 := cloE_zero.2 ⟨hB0, hr⟩
    refine ⟨e.trans hz, clo_chk h.hn b.len b.wl hz, hl, fun a b ha hb => (ho a b ha hb).1, fun q => ?_⟩
    have := (ho i j hi hj).2.2 hA hB
    rw [show Zo.clo n (anL n cs (buM (n : Int))) = z from q] at this
    omega
  · left
    rw [e]
    unfold cloE
    rw [hB0, if_neg (by simp), if_neg hr]
end Go.Proofs.Ytbnebinpemejlaa

namespace Go.Proofs.Ytbnebinpemejlaa
open Go.RowKit

def twB (N M : Int) (l m : List Int) : Bool := decide (chkE N l = 0) && decide (chkE M m = 0) && decide (N = M)

/-- Two boxed zones. -/
theorem two_boxes (w : World) (u v x y : Value) (t : TypeId) : Two ((w.alloc (.cells #[u, v] t)).alloc (.cells #[x, y] t)) w.heap.size u v ∧ Two ((w.alloc (.cells #[u, v] t)).alloc (.cells #[x, y] t)) (w.heap.size + 1) x y := by
  refine ⟨(Two.made _ _ _ _).alloc _, ?_⟩
  have := Two.made (w.alloc (.cells #[u, v] t)) x y t
  simpa using this

set_option maxHeartbeats 800000 in
theorem two_any (N M : Int) (l m : List Int) (ao bo : Option Addr) (ca cb : Nat) (w : World) (hA : Arg w ao l) (hB : Arg w bo m) :
    Calls Try.prog 93 #[.agg #[.int .i64 N, .slice ao l.length ca], .agg #[.int .i64 M, .slice bo m.length cb]] w (Made (.bool (twB N M l m)) w) := by
  obtain ⟨e1, he1⟩ : ∃ e, e = chkE N l := ⟨_, rfl⟩
  obtain ⟨e2, he2⟩ : ∃ e, e = chkE M m := ⟨_, rfl⟩
  have CA := Lib.hid fun W (h : Below w.heap.size w W) => check_as (cap := ca) W (hA.on h) he1.symm
  have CB := Lib.hid fun W (h : Below w.heap.size w W) => check_as (cap := cb) W (hB.on h) he2.symm
  have HT := Lib.hid (show twB N M l m = (decide (e1 = 0) && decide (e2 = 0) && decide (N = M)) by rw [he1, he2]; rfl)
  clear hA hB he1 he2
  generalize l.length = len at *
  generalize m.length = mlen at *
  generalize twB N M l m = tb at *
  obtain ⟨w0, hw0⟩ : ∃ w0, w0 = (w.alloc (.cells #[.int .i64 N, .slice ao len ca] 25)).alloc (.cells #[.int .i64 M, .slice bo mlen cb] 25) := ⟨_, rfl⟩
  obtain ⟨bx, by'⟩ := two_boxes w (.int .i64 N) (.slice ao len ca) (.int .i64 M) (.slice bo mlen cb) 25
  rw [← hw0] at bx by'
  have E0 := Lib.hid (show Below w.heap.size w w0 by rw [hw0]; exact past_two (Below.refl _ _))
  have HW0 := Lib.hid hw0
  clear hw0
  by_cases c1 : e1 = 0
  · by_cases c2 : e2 = 0
    · by_cases c3 : N = M
      · have HE := Lib.hid (show tb = true by rw [HT.out]; simp [c1, c2, c3])
        have B1 : (e1 == 0) = true := by simpa using c1
        have B2 : (e2 == 0) = true := by simpa using c2
        have B3 : (N == M) = true := by simpa using c3
        clear c1 c2 c3 HT
        go_enter Try.func93, Try.ntmps93
        go_wp2_with fail
        rw [← HW0.out]
        obtain ⟨b0, b1, b2, b3⟩ := bx.facts
        go_wp2_with fail
        refine (CA.out _ E0.out).mono ?_
        rintro e w1 ⟨rfl, hb1⟩
        clear b0 b1 b2 b3
        replace bx := bx.kept hb1
        replace by' := by'.kept hb1
        replace E0 := Lib.hid (below_on E0.out hb1)
        clear hb1
        obtain ⟨b0, b1, b2, b3⟩ := bx.facts
        obtain ⟨d0, d1, d2, d3⟩ := by'.facts
        go_wp2_with fail
        refine (CB.out _ E0.out).mono ?_
        rintro e w2 ⟨rfl, hb2⟩
        clear b0 b1 b2 b3 d0 d1 d2 d3
        replace bx := bx.kept hb2
        replace by' := by'.kept hb2
        replace E0 := Lib.hid (below_on E0.out hb2)
        clear hb2
        obtain ⟨b0, b1, b2, b3⟩ := bx.facts
        obtain ⟨d0, d1, d2, d3⟩ := by'.facts
        go_wp2_with fail
        try (go_quiet (fail); go_wp2_with fail)
        go_ret
        exact ⟨ret_bool HE.out.symm, by first | exact E0.out | exact below_drewN E0.out _⟩
      · have HE := Lib.hid (show tb = false by rw [HT.out]; simp [c3])
        have B1 : (e1 == 0) = true := by simpa using c1
        have B2 : (e2 == 0) = true := by simpa using c2
        have B3 : (N == M) = false := by simpa using c3
        clear c1 c2 c3 HT
        go_enter Try.func93, Try.ntmps93
        go_wp2_with fail
        rw [← HW0.out]
        obtain ⟨b0, b1, b2, b3⟩ := bx.facts
        go_wp2_with fail
        refine (CA.out _ E0.out).mono ?_
        rintro e w1 ⟨rfl, hb1⟩
        clear b0 b1 b2 b3
        replace bx := bx.kept hb1
        replace by' := by'.kept hb1
        replace E0 := Lib.hid (below_on E0.out hb1)
        clear hb1
        obtain ⟨b0, b1, b2, b3⟩ := bx.facts
        obtain ⟨d0, d1, d2, d3⟩ := by'.facts
        go_wp2_with fail
        refine (CB.out _ E0.out).mono ?_
        rintro e w2 ⟨rfl, hb2⟩
        clear b0 b1 b2 b3 d0 d1 d2 d3
        replace bx := bx.kept hb2
        replace by' := by'.kept hb2
        replace E0 := Lib.hid (below_on E0.out hb2)
        clear hb2
        obtain ⟨b0, b1, b2, b3⟩ := bx.facts
        obtain ⟨d0, d1, d2, d3⟩ := by'.facts
        go_wp2_with fail
        try (go_quiet (fail); go_wp2_with fail)
        go_ret
        exact ⟨ret_bool HE.out.symm, by first | exact E0.out | exact below_drewN E0.out _⟩
    · have HE := Lib.hid (show tb = false by rw [HT.out]; simp [c2])
      have B1 : (e1 == 0) = true := by simpa using c1
      have B2 : (e2 == 0) = false := by simpa using c2
      clear c1 c2 HT
      go_enter Try.func93, Try.ntmps93
      go_wp2_with fail
      rw [← HW0.out]
      obtain ⟨b0, b1, b2, b3⟩ := bx.facts
      go_wp2_with fail
      refine (CA.out _ E0.out).mono ?_
      rintro e w1 ⟨rfl, hb1⟩
      clear b0 b1 b2 b3
      replace bx := bx.kept hb1
      replace by' := by'.kept hb1
      replace E0 := Lib.hid (below_on E0.out hb1)
      clear hb1
      obtain ⟨b0, b1, b2, b3⟩ := bx.facts
      obtain ⟨d0, d1, d2, d3⟩ := by'.facts
      go_wp2_with fail
      refine (CB.out _ E0.out).mono ?_
      rintro e w2 ⟨rfl, hb2⟩
      clear b0 b1 b2 b3 d0 d1 d2 d3
      replace bx := bx.kept hb2
      replace by' := by'.kept hb2
      replace E0 := Lib.hid (below_on E0.out hb2)
      clear hb2
      obtain ⟨b0, b1, b2, b3⟩ := bx.facts
      obtain ⟨d0, d1, d2, d3⟩ := by'.facts
      go_wp2_with fail
      try (go_quiet (fail); go_wp2_with fail)
      go_ret
      exact ⟨ret_bool HE.out.symm, by first | exact E0.out | exact below_drewN E0.out _⟩
  · have HE := Lib.hid (show tb = false by rw [HT.out]; simp [c1])
    have B1 : (e1 == 0) = false := by simpa using c1
    clear c1 HT
    go_enter Try.func93, Try.ntmps93
    go_wp2_with fail
    rw [← HW0.out]
    obtain ⟨b0, b1, b2, b3⟩ := bx.facts
    go_wp2_with fail
    refine (CA.out _ E0.out).mono ?_
    rintro e w1 ⟨rfl, hb1⟩
    clear b0 b1 b2 b3
    replace bx := bx.kept hb1
    replace by' := by'.kept hb1
    replace E0 := Lib.hid (below_on E0.out hb1)
    clear hb1
    obtain ⟨b0, b1, b2, b3⟩ := bx.facts
    obtain ⟨d0, d1, d2, d3⟩ := by'.facts
    go_wp2_with fail
    try (go_quiet (fail); go_wp2_with fail)
    go_ret
    exact ⟨ret_bool HE.out.symm, by first | exact E0.out | exact below_drewN E0.out _⟩

theorem tw_no {N M : Int} {l m : List Int} (h : twB N M l m = false) : ¬ (chkE N l = 0 ∧ chkE M m = 0 ∧ N = M) := by
  rintro ⟨a, b, c⟩
  subst c
  simp [twB, a, b] at h

theorem tw_yes {N M : Int} {l m : List Int} (h : twB N M l m = true) : chkE N l = 0 ∧ chkE M m = 0 ∧ N = M := by
  unfold twB at h; simp at h; exact ⟨h.1.1, h.1.2, h.2⟩

def inB (l m : List Int) : Bool := (List.range l.length).all fun k => decide (Zo.gt m k ≤ Zo.gt l k)

def inR (N M : Int) (l m : List Int) : Bool := twB N M l m && inB l m

def inE (N M : Int) (l m : List Int) : Int := if twB N M l m then 0 else 2

set_option maxHeartbeats 400000 in
theorem includes_bad (N M : Int) (l m : List Int) (ao bo : Option Addr) (ca cb : Nat) (w : World) (hA : Arg w ao l) (hB : Arg w bo m) (ht : twB N M l m = false) :
    Calls Try.prog 39 #[.agg #[.int .i64 N, .slice ao l.length ca], .agg #[.int .i64 M, .slice bo m.length cb]] w (Made (.tuple #[.bool (inR N M l m), .int .i64 (inE N M l m)]) w) := by
  have H := Lib.hid (show inR N M l m = false ∧ inE N M l m = 2 by simp [inR, inE, ht])
  have TW := Lib.hid fun W (h : Below w.heap.size w W) => by have := two_any N M l m ao bo ca cb W (hA.on h) (hB.on h); rw [ht] at this; exact this
  generalize l.length = len at *
  generalize m.length = mlen at *
  obtain ⟨w0, hw0⟩ : ∃ w0, w0 = (w.alloc (.cells #[.int .i64 N, .slice ao len ca] 25)).alloc (.cells #[.int .i64 M, .slice bo mlen cb] 25) := ⟨_, rfl⟩
  obtain ⟨bx, by'⟩ := two_boxes w (.int .i64 N) (.slice ao len ca) (.int .i64 M) (.slice bo mlen cb) 25
  rw [← hw0] at bx by'
  have E0 := Lib.hid (show Below w.heap.size w w0 by rw [hw0]; exact past_two (Below.refl _ _))
  have HW0 := Lib.hid hw0
  clear hw0
  clear hA hB ht
  go_enter Try.func39, Try.ntmps39
  go_wp2_with fail
  rw [← HW0.out]
  obtain ⟨b0, b1, b2, b3⟩ := bx.facts
  obtain ⟨d0, d1, d2, d3⟩ := by'.facts
  go_wp2_with fail
  refine (TW.out _ E0.out).mono ?_
  rintro e w1 ⟨rfl, hb1⟩
  go_wp2_with fail
  go_ret2
  exact ⟨by rw [H.out.1, H.out.2]; rfl, below_on E0.out hb1⟩

set_option maxHeartbeats 1600000 in
theorem includes_any (n : Nat) (l m : List Int) (a b : Addr) (ca cb : Nat) (w : World) (hn : n ≤ 10) (hl : l.length = (n + 1) * (n + 1)) (hm : m.length = (n + 1) * (n + 1)) (hR : Rd w a l) (hQ : Rd w b m) (ht : twB n n l m = true) :
    Calls Try.prog 39 #[.agg #[.int .i64 n, .slice (some a) l.length ca], .agg #[.int .i64 n, .slice (some b) m.length cb]] w (Made (.tuple #[.bool (inR n n l m), .int .i64 (inE n n l m)]) w) := by
  obtain ⟨len, hlen⟩ : ∃ len, len = l.length := ⟨_, rfl⟩
  have lb : len ≤ 121 := by rw [hlen, hl]; exact dsq_le hn
  have hml : m.length = len := by rw [hm, hlen, hl]
  have TW : Hid (∀ W, Below w.heap.size w W → Calls Try.prog 93 #[.agg #[.int .i64 n, .slice (some a) len ca], .agg #[.int .i64 n, .slice (some b) len cb]] W (Made (.bool true) W)) := Lib.hid fun W h => by have := two_any n n l m (some a) (some b) ca cb W (fun _ => ⟨_, rfl, hR.on h⟩) (fun _ => ⟨_, rfl, hQ.on h⟩); rw [ht, hml, ← hlen] at this; exact this
  have H0 := Lib.hid (show inR n n l m = inB l m ∧ inE n n l m = 0 by simp [inR, inE, ht])
  obtain ⟨w0, hw0⟩ : ∃ w0, w0 = (w.alloc (.cells #[.int .i64 n, .slice (some a) len ca] 25)).alloc (.cells #[.int .i64 n, .slice (some b) len cb] 25) := ⟨_, rfl⟩
  obtain ⟨bx, by'⟩ := two_boxes w (.int .i64 n) (.slice (some a) len ca) (.int .i64 n) (.slice (some b) len cb) 25
  rw [← hw0] at bx by'
  have E0 := Lib.hid (show Below w.heap.size w w0 by rw [hw0]; exact past_two (Below.refl _ _))
  have HW0 := Lib.hid hw0
  have HR := Lib.hid hR
  have HQ := Lib.hid hQ
  have HL := Lib.hid hlen
  have HM := Lib.hid hml
  rw [hml, ← hlen]
  clear hR hQ ht hl hm hlen hml hw0
  go_enter Try.func39, Try.ntmps39
  go_wp2_with fail
  rw [← HW0.out]
  obtain ⟨b0, b1, b2, b3⟩ := bx.facts
  obtain ⟨d0, d1, d2, d3⟩ := by'.facts
  go_wp2_with fail
  refine (TW.out _ E0.out).mono ?_
  rintro e w1 ⟨rfl, hb1⟩
  clear b0 b1 b2 b3 d0 d1 d2 d3
  replace bx := bx.kept hb1
  replace by' := by'.kept hb1
  replace E0 := Lib.hid (below_on E0.out hb1)
  clear hb1
  go_wp2_with fail
  go_loopw [6] (fun s wr => ∃ t : Nat, t ≤ len ∧ s = .int .i64 t ∧ Hid (∀ k, k < t → Zo.gt m k ≤ Zo.gt l k) ∧ Hid (Below w1.heap.size w1 wr)) (fun s _ => len - (intOf s).toNat)
  case atStart => exact ⟨0, by omega, rfl, Lib.hid (fun k hk => by omega), Lib.hid (Below.refl _ _)⟩
  case round =>
    obtain ⟨t, ht, rfl, HK, HBw⟩ := hrel
    obtain ⟨b0, b1, b2, b3⟩ := (bx.kept HBw.out).facts
    obtain ⟨d0, d1, d2, d3⟩ := (by'.kept HBw.out).facts
    by_cases htn : t < len
    · have x1 := (HR.out.on (below_on E0.out HBw.out)) t (by rw [← HL.out]; exact htn)
      have y1 := (HQ.out.on (below_on E0.out HBw.out)) t (by rw [HM.out]; exact htn)
      obtain ⟨x, hx⟩ : ∃ x, x = Zo.gt l t := ⟨_, rfl⟩
      obtain ⟨y, hy⟩ : ∃ y, y = Zo.gt m t := ⟨_, rfl⟩
      rw [← hx] at x1
      rw [← hy] at y1
      have HXE := Lib.hid hx
      have HYE := Lib.hid hy
      clear hx hy
      by_cases hxy : y ≤ x
      · have D : decide (x < y) = false := by simp; omega
        have HXY := Lib.hid hxy
        clear hxy
        go_wp2_with fail
        go_quiet (fail)
        clear b0 b1 b2 b3 d0 d1 d2 d3 x1 y1
        go_wp2_with fail
        go_roundw
        case rel =>
          refine ⟨t + 1, by omega, by go_num, Lib.hid (fun k hk => ?_), Lib.hid (below_drewN HBw.out _)⟩
          by_cases e : k = t
          · rw [e, ← HXE.out, ← HYE.out]; exact HXY.out
          · exact HK.out k (by omega)
        case measure => simp [intOf]; omega
      · have D : decide (x < y) = true := by simp; omega
        have HE := Lib.hid (show inB l m = false by
          unfold inB; rw [List.all_eq_false]
          exact ⟨t, by simp; rw [← HL.out]; exact htn, by rw [← HXE.out, ← HYE.out]; simpa using hxy⟩)
        clear hxy
        go_wp2_with fail
        go_quiet (fail)
        clear b0 b1 b2 b3 d0 d1 d2 d3 x1 y1
        go_wp2_with fail
        go_ret2
        exact ⟨by rw [H0.out.1, H0.out.2, HE.out]; rfl, below_drewN (below_on E0.out HBw.out) _⟩
    · have HE := Lib.hid (show inB l m = true by
        unfold inB; rw [List.all_eq_true]
        intro k hk
        simp at hk
        simpa using HK.out k (by rw [← HL.out] at hk; omega))
      go_wp2_with fail
      go_ret2
      exact ⟨by rw [H0.out.1, H0.out.2, HE.out]; rfl, below_on E0.out HBw.out⟩

theorem includes_gen (N M : Int) (l m : List Int) (ao bo : Option Addr) (ca cb : Nat) (w : World) (hA : Arg w ao l) (hB : Arg w bo m) :
    Calls Try.prog 39 #[.agg #[.int .i64 N, .slice ao l.length ca], .agg #[.int .i64 M, .slice bo m.length cb]] w (Made (.tuple #[.bool (inR N M l m), .int .i64 (inE N M l m)]) w) := by
  cases ht : twB N M l m
  · exact includes_bad N M l m ao bo ca cb w hA hB ht
  · obtain ⟨c1, c2, rfl⟩ := tw_yes ht
    obtain ⟨n, rfl, hn, hl, hne⟩ := chk_ok c1
    obtain ⟨n', e, hn', hm, hne'⟩ := chk_ok c2
    have : n = n' := by omega
    subst this
    obtain ⟨a, rfl, hR⟩ := hA hne
    obtain ⟨b, rfl, hQ⟩ := hB hne'
    exact includes_any n l m a b ca cb w hn hl hm hR hQ ht
end Go.Proofs.Ytbnebinpemejlaa

namespace Go.Proofs.Ytbnebinpemejlaa
open Go.RowKit

theorem conV_appd (a b : List Con) : conV (a ++ b) = conV a ++ conV b := by unfold conV; rw [List.flatMap_append]

theorem OwnC.shape {w : World} {B : Nat} {v : Value} {cs : List Con} (h : OwnC w B v cs) (hne : cs ≠ []) :
    ∃ g cap, v = .slice (some ⟨g, 0, none⟩) cs.length cap ∧ Rd3 w ⟨g, 0, none⟩ cs ∧ cs.length ≤ cap ∧ cap ≤ maxLen := by
  obtain ⟨ao, c, hv, hA⟩ := OwnC.arg h
  obtain ⟨d, hd, hR⟩ := hA hne
  rcases h.2 with ⟨rfl, hn⟩ | ⟨g, cap, cur, rfl, hb, hg, hc, hm, _⟩
  · exact absurd (List.eq_nil_of_length_eq_zero hn) hne
  · injection hv with h1 h2 h3
    rw [hd] at h1
    injection h1 with h1
    subst h1
    exact ⟨_, _, rfl, hR, hc, hm⟩

theorem rd3_take {w : World} {a : Addr} {cs : List Con} (h : Rd3 w a cs) (k : Nat) : Rd3 w a (cs.take k) := by
  intro j hj
  have hj' : j < k ∧ j < cs.length := by simp at hj; omega
  have e : gc (cs.take k) j = gc cs j := by simp [gc, hj'.1]
  rw [e]; exact h j hj'.2

theorem rd3_drop {w : World} {g : Nat} {cs : List Con} (h : Rd3 w ⟨g, 0, none⟩ cs) (k : Nat) : Rd3 w ((⟨g, 0, none⟩ : Addr).add (k * 3)) (cs.drop k) := by
  intro j hj
  have e : gc (cs.drop k) j = gc cs (k + j) := by simp [gc]
  have e2 : ((⟨g, 0, none⟩ : Addr).add (k * 3)).add (j * 3) = (⟨g, 0, none⟩ : Addr).add ((k + j) * 3) := by
    rw [addr_add, addr_add]
    simp [Addr.add, Nat.add_mul]
  rw [e, e2]
  exact h (k + j) (by simp at hj; omega)

theorem sl_el : Try.prog.elem 35 = 56 := by kernel_rfl

theorem sl_ht : Try.prog.underlying 35 = some (.slice (Try.prog.elem 35)) := by rw [sl_el]; exact Try.underlying35

theorem sl_low (g len cap k : Nat) (h : k ≤ cap) (W : World) :
    (Instr.slice 35 (.slice (some ⟨g, 0, none⟩) len cap) none (some (.int .i64 k)) none).run Try.prog W = .ok (.slice (some ⟨g, 0, none⟩) k cap) W := by
  obtain ⟨i0, hi, hz0, hz1, hz2⟩ := info_parts con_info
  rw [run_slice_h (w := W) (ht := sl_ht) (kh := .i64) (h := k) (h0 := by omega) (h2 := by omega)]
  simp [sizeOf, typeInfo, sl_el, hi, hz1, sliced, Result.andThen, addr_add]

theorem sl_high (g len cap k : Nat) (h : k ≤ len) (W : World) :
    (Instr.slice 35 (.slice (some ⟨g, 0, none⟩) len cap) (some (.int .i64 k)) none none).run Try.prog W = .ok (.slice (some (if cap = k then ⟨g, 0, none⟩ else (⟨g, 0, none⟩ : Addr).add (k * 3))) (len - k) (cap - k)) W := by
  obtain ⟨i0, hi, hz0, hz1, hz2⟩ := info_parts con_info
  rw [run_slice_l (w := W) (ht := sl_ht) (kl := .i64) (l := k) (h0 := by omega) (h1 := by omega)]
  simp [sizeOf, typeInfo, sl_el, hi, hz1, sliced, Result.andThen, addr_add]
  split <;> simp_all

/-- 'append' of a row to an own slice, as one step of a region that draws its order. -/
theorem step_append_own {P : Program} {ops : Array Oper} {o : Oper} {a : Act} {w : World} {K : Act → World → Prop} {Q : Exit → Act → World → Prop} {E : Prop}
    (hg : o.guard = none) (s x : Operand) (t : TypeId) (hop : o.op = Op.call { callee := Callee.builtin Builtin.append, args := #[s, x], argTypes := #[t, t] })
    (base : Nat) (e : TypeId) (i : TypeInfo) (z : Value) (size bytes : Nat) (h1 : P.underlying t = some (.slice e)) (h2 : P.info? e = some i) (h3 : i.zero = some z) (h4 : i.size = size) (h5 : i.bytes = bytes) (h6 : z.cells.size = size) (h7 : 0 < size)
    (v : Value) (n : Nat) (xs : List Value) (hs : a.eval s = v) (hown : w.ownsRow base e size v n xs)
    (ad : Addr) (m c : Nat) (news : List Value) (hx : a.eval x = .slice (some ad) m c) (hn : news.length = m * size) (hc : ∀ j u, news[j]? = some u → w.cell? (ad.add j) = some u) (h1c : ∀ u ∈ news, u.oneCell' = true)
    (b1 : n + m ≤ maxLen) (b2 : (n + m) * bytes ≤ 140737488355328) (b3 : base ≤ w.heap.size)
    (hK : ∀ v' w', w'.ownsRow base e size v' (n + m) (xs ++ news) → w.grownBy w' v.ownBlock → K (a.put o.dst v') w') :
    if Region.wanted o (yielded ops a.tmps) = true then Oper.wp P o a w K Q else E := by
  have hw : Region.wanted o (yielded ops a.tmps) = true := by simp [Region.wanted, hg]
  rw [if_pos hw]
  obtain ⟨v', w', hrun, r1, r2, _⟩ := run_append_own (P := P) (w := w) base t o.type e i z size bytes h1 h2 h3 h4 h5 h6 h7 v n xs hown ad m c news hn hc h1c b1 b2 b3
  unfold Oper.wp
  simp [execOp, hop, resolve, invoke, builtin, hs, hx, hrun, Result.andThen]
  exact hK _ _ r1 r2

/-- k modulo a length. -/
theorem mod_fits (k : Int) (len : Nat) (h : 0 < len) (h2 : len ≤ 1000) : ∃ t : Nat, t < len ∧ Int.tmod (wrap64 (Int.tmod k len + len)) len = t := by
  have l1 : (0 : Int) < (len : Int) := by omega
  have a1 := Int.tmod_lt_of_pos k l1
  have a2 : -(len : Int) < Int.tmod k len := by
    have := Int.lt_tmod_of_pos k l1
    omega
  have e : wrap64 (Int.tmod k len + len) = Int.tmod k len + len := by unfold wrap64; omega
  rw [e]
  have b1 := Int.tmod_lt_of_pos (Int.tmod k len + len) l1
  have b2 := Int.tmod_nonneg (len : Int) (show 0 ≤ Int.tmod k len + len by omega)
  exact ⟨(Int.tmod (Int.tmod k len + len) len).toNat, by omega, by omega⟩

theorem inb_of {n : Nat} {x z : List Int} (hx : x.length = (n + 1) * (n + 1)) (h : ∀ a b, a ≤ n → b ≤ n → Zo.At n z a b ≤ Zo.At n x a b) : inB x z = true := by
  unfold inB
  rw [List.all_eq_true]
  intro i hi
  have hi := List.mem_range.1 hi
  have c1 : i / (n + 1) ≤ n := by
    have : i < (n + 1) * (n + 1) := by omega
    have := Nat.div_lt_of_lt_mul this
    omega
  have c2 : i % (n + 1) ≤ n := by have := Nat.mod_lt i (show 0 < n + 1 by omega); omega
  have := h _ _ c1 c2
  unfold Zo.At Zo.ix at this
  rw [show i / (n + 1) * (n + 1) + i % (n + 1) = i by rw [Nat.mul_comm]; exact Nat.div_add_mod i (n + 1)] at this
  simpa using this
end Go.Proofs.Ytbnebinpemejlaa

namespace Go.Proofs.Ytbnebinpemejlaa
open Go.RowKit

set_option maxRecDepth 100000 in
set_option maxHeartbeats 4000000 in
theorem back_long (N k : Int) (ao : Option Addr) (len cap : Nat) (w : World) (h : 200 < len) :
    Calls Try.prog 11 #[.agg #[.int .i64 N, .slice ao len cap], .int .i64 k] w (Made (.bool true) w) := by
  have SH := Lib.hid (fun W => shown4_any W)
  have D : decide ((200 : Int) < (len : Int)) = true := by simp; omega
  go_enter Try.func11, Try.ntmps11
  go_wp2_with fail
  refine (SH.out _).mono ?_
  rintro e w8 ⟨rfl, hb8⟩
  have B8 := Lib.hid (past_one hb8)
  clear hb8
  go_wp2_with fail
  go_ret
  exact ⟨rfl, B8.out⟩

set_option maxRecDepth 100000 in
set_option maxHeartbeats 4000000 in
theorem back_bad (N k : Int) (l : List Int) (ao : Option Addr) (cap : Nat) (w : World) (hA : Arg w ao l) (hl : l.length ≤ 200) (hc : chkE N l ≠ 0) :
    Calls Try.prog 11 #[.agg #[.int .i64 N, .slice ao l.length cap], .int .i64 k] w (Made (.bool true) w) := by
  have SH := Lib.hid (fun W => shown4_any W)
  have RD := Lib.hid (show ∀ W, Below w.heap.size w W → Calls Try.prog 54 #[.agg #[.int .i64 N, .slice ao l.length cap]] W (CVal W [] 2) from fun W h => by
    have := (zreduce_gen N l ao cap W (hA.on h)).mono fun e w' h => h.cval
    rw [show rdcL N l = [] by unfold rdcL; rw [if_neg hc], show rdcE N l = 2 by unfold rdcE; rw [if_neg hc]] at this
    exact this)
  generalize l.length = len at *
  obtain ⟨w0, hw0, e0, ks⟩ := zboxN N ao len cap w
  have KS := Lib.hid ks
  have E0 := Lib.hid e0
  have D2 : decide ((200 : Int) < ((len : Nat) : Int)) = false := by simp; omega
  have HW0 := Lib.hid hw0
  obtain ⟨b0, b1⟩ := ks w0 (Below.refl _ _)
  clear ks e0 hw0 hA hl hc
  go_enter Try.func11, Try.ntmps11
  go_upto_region 1 with (fail)
  rw [← HW0.out]
  go_wp2_with fail
  refine (RD.out _ E0.out).mono ?_
  rintro e w2 ⟨co, cc, rfl, _, hb2⟩
  have B2 := Lib.hid (below_on E0.out hb2)
  clear hb2 b0 b1
  go_wp2_with fail
  refine (SH.out _).mono ?_
  rintro e w3 ⟨rfl, hb3⟩
  have B3 := Lib.hid (below_on B2.out hb3)
  clear hb3
  go_wp2_with fail
  go_ret
  exact ⟨rfl, B3.out⟩
end Go.Proofs.Ytbnebinpemejlaa

namespace Go.Proofs.Ytbnebinpemejlaa
open Go.RowKit

theorem smB_self (N : Int) (l : List Int) : smB N N l l = true := by simp [smB]

set_option maxRecDepth 100000 in
set_option maxHeartbeats 8000000 in
theorem back_good (n : Nat) (k : Int) (l : List Int) (a : Addr) (cap : Nat) (w : World) (hV : Vz n l) (hR : Rd w a l) :
    Calls Try.prog 11 #[.agg #[.int .i64 n, .slice (some a) l.length cap], .int .i64 k] w (Made (.bool true) w) := by
  obtain ⟨i0, hi, hz0, hz1, hz2⟩ := info_parts con_info
  have hl121 : l.length ≤ 121 := by rw [hV.hl]; exact dsq_le hV.hn
  have hA : Arg w (some a) l := fun _ => ⟨a, rfl, hR⟩
  have SH := Lib.hid (fun W => shown4_any W)
  have RD := Lib.hid (show ∀ W, Below w.heap.size w W → Calls Try.prog 54 #[.agg #[.int .i64 n, .slice (some a) l.length cap]] W (CRes W (redL n l) 0) from fun W h => by
    have := zreduce_gen n l (some a) cap W (hA.on h)
    rw [show rdcL n l = redL n l by unfold rdcL; rw [if_pos hV.hc]; rfl, show rdcE n l = 0 by unfold rdcE; rw [if_pos hV.hc]] at this
    exact this)
  have hRL := redL_le (l := l) hV.hn
  have BU := Lib.hid (show ∀ W ao c, Arg3 W ao (redL n l) → Calls Try.prog 57 #[.int .i64 n, .slice ao (redL n l).length c] W (ZVal W n l 0) from fun W ao c h => by
    have := (zbuild_gen n (redL n l) ao c W h (by omega)).mono fun e w' h => h.zval
    rw [(back_all hV).1, (back_all hV).2] at this
    exact this)
  have SM := Lib.hid (show ∀ W bo cb, Arg W bo l → Below w.heap.size w W → Calls Try.prog 41 #[.agg #[.int .i64 n, .slice bo l.length cb], .agg #[.int .i64 n, .slice (some a) l.length cap]] W (Made (.bool true) W) from fun W bo cb h1 h => by
    have := same_any n n l l bo (some a) cb cap W h1 (hA.on h) (by omega)
    rw [smB_self] at this
    exact this)
  unfold ZVal at BU
  by_cases hne : redL n l = []
  · rw [hne] at RD BU
    generalize l.length = len at *
    clear hRL
    obtain ⟨w0, hw0, e0, ks⟩ := zboxN n (some a) len cap w
    have KS := Lib.hid ks
    have E0 := Lib.hid e0
    have D2 : decide ((200 : Int) < ((len : Nat) : Int)) = false := by simp; omega
    have HW0 := Lib.hid hw0
    obtain ⟨b0, b1⟩ := ks w0 (Below.refl _ _)
    clear ks e0 hw0 hA hl121 hV hR hne
    go_enter Try.func11, Try.ntmps11
    go_upto_region 1 with (fail)
    rw [← HW0.out]
    go_wp2_with fail
    refine (RD.out _ E0.out).mono ?_
    intro e w2 hz
    obtain ⟨co, cc, rfl, hA2, hb2⟩ := hz.cval
    have A2 := Lib.hid hA2
    have B2 := Lib.hid hb2
    clear hb2 b0 b1 hA2 hz
    obtain ⟨b0, b1⟩ := KS.out _ B2.out
    go_wp2_with fail
    refine (BU.out _ _ _ A2.out).mono ?_
    rintro e w3 ⟨mo, mc, rfl, hA3, _, hb3⟩
    obtain ⟨w4, hw4⟩ : ∃ w4, w4 = w3.alloc (.cells #[.int .i64 n, .slice mo len mc] 25) := ⟨_, rfl⟩
    have x4 : Two w4 w3.heap.size (.int .i64 n) (.slice mo len mc) := by rw [hw4]; exact Two.made _ _ _ _
    have B4 := Lib.hid (show Below w0.heap.size w0 w4 by rw [hw4]; exact (below_on B2.out hb3).alloc (below_on B2.out hb3).size _)
    have A4 := Lib.hid (show Arg w4 mo l by rw [hw4]; exact hA3.on (one_more _))
    clear hA3 hb3 b0 b1
    obtain ⟨b0, b1⟩ := KS.out _ B4.out
    obtain ⟨d0, d1, d2, d3⟩ := x4.facts
    clear x4
    go_upto_region 7 with (fail)
    rw [← hw4]
    clear hw4
    go_wp2_with fail
    refine (SM.out _ _ _ A4.out (below_on E0.out B4.out)).mono ?_
    rintro e w5 ⟨rfl, hb5⟩
    have B5 := Lib.hid (below_on B4.out hb5)
    clear hb5 b0 b1 d0 d1 d2 d3
    go_wp2_with fail
    refine (SH.out _).mono ?_
    rintro e w6 ⟨rfl, hb6⟩
    have B6 := Lib.hid (below_on B5.out hb6)
    clear hb6
    go_wp2_with fail
    go_ret
    exact ⟨rfl, below_on E0.out B6.out⟩
  · have hpos : 0 < (redL n l).length := List.length_pos_iff.2 hne
    obtain ⟨t, ht, hmod⟩ := mod_fits k _ hpos (by omega)
    obtain ⟨cs, hcs⟩ : ∃ cs, cs = (redL n l).take t ++ (redL n l).drop (t + 1) := ⟨_, rfl⟩
    have hcl : cs.length = t + ((redL n l).length - (t + 1)) := by rw [hcs]; simp; omega
    have BL := Lib.hid (show ∀ W ao c, Arg3 W ao cs → Calls Try.prog 57 #[.int .i64 n, .slice ao cs.length c] W (ZVal W (zrN (buE n cs) n) (zrL (buE n cs) (buL n cs)) (buE n cs)) from fun W ao c h => 
      (zbuild_gen n cs ao c W h (by omega)).mono fun e w' h => h.zval)
    have key : buE n cs = 7 ∨ (buE n cs = 0 ∧ zrN (buE n cs) n = n ∧ Hid (∀ W bo cb, Arg W bo (zrL (buE n cs) (buL n cs)) → Below w.heap.size w W → Calls Try.prog 39 #[.agg #[.int .i64 n, .slice bo (zrL (buE n cs) (buL n cs)).length cb], .agg #[.int .i64 n, .slice (some a) l.length cap]] W (Made (.tuple #[.bool true, .int .i64 0]) W))
        ∧ Hid (∀ W bo cb, Arg W bo (zrL (buE n cs) (buL n cs)) → Below w.heap.size w W → Calls Try.prog 41 #[.agg #[.int .i64 n, .slice bo (zrL (buE n cs) (buL n cs)).length cb], .agg #[.int .i64 n, .slice (some a) l.length cap]] W (Made (.bool false) W))) := by
      rcases back_less hV ht hcs with e7 | ⟨e0, q1, q2, q3, q4⟩
      · exact Or.inl e7
      · refine Or.inr ⟨e0, by rw [e0]; rfl, ?_, ?_⟩
        · rw [e0, show zrL 0 (buL n cs) = buL n cs from rfl]
          refine Lib.hid fun W bo cb h1 h => ?_
          have := includes_gen n n (buL n cs) l bo (some a) cb cap W h1 (hA.on h)
          have tw : twB n n (buL n cs) l = true := by unfold twB; rw [q1, hV.hc]; simp
          rw [show inR n n (buL n cs) l = true by unfold inR; rw [tw, inb_of q2 q3]; rfl, show inE n n (buL n cs) l = 0 by unfold inE; rw [tw]; rfl] at this
          exact this
        · rw [e0, show zrL 0 (buL n cs) = buL n cs from rfl]
          refine Lib.hid fun W bo cb h1 h => ?_
          have := same_any n n (buL n cs) l bo (some a) cb cap W h1 (hA.on h) (by rw [q2, ← hV.hl]; omega)
          rw [show smB n n (buL n cs) l = false by simp [smB, q4]] at this
          exact this
    have C1 := Lib.hid (show ∀ W g, Rd3 W ⟨g, 0, none⟩ (redL n l) → ∀ j u, (conV ((redL n l).take t))[j]? = some u → W.cell? ((⟨g, 0, none⟩ : Addr).add j) = some u from fun W g h => conV_cells (rd3_take h t))
    have C2 := Lib.hid (show ∀ W g (b : Addr), Rd3 W ⟨g, 0, none⟩ (redL n l) → (b = (⟨g, 0, none⟩ : Addr).add ((t + 1) * 3) ∨ (redL n l).length = t + 1) → ∀ j u, (conV ((redL n l).drop (t + 1)))[j]? = some u → W.cell? (b.add j) = some u from fun W g b h hb => by
      rcases hb with rfl | hb
      · exact conV_cells (rd3_drop h (t + 1))
      · have e : (redL n l).drop (t + 1) = [] := List.drop_eq_nil_of_le (by omega)
        rw [e]; intro j u q; simp [conV] at q)
    have l1 : (conV ((redL n l).take t)).length = t * 3 := by rw [conV_len]; simp; omega
    have l2 : (conV ((redL n l).drop (t + 1))).length = ((redL n l).length - (t + 1)) * 3 := by rw [conV_len]; simp
    have o1 := conV_one ((redL n l).take t)
    have o2 := conV_one ((redL n l).drop (t + 1))
    have OW := Lib.hid (show ∀ W B v, W.ownsRow B 56 3 v (0 + t + ((redL n l).length - (t + 1))) ([] ++ conV ((redL n l).take t) ++ conV ((redL n l).drop (t + 1))) → ∃ ao c, v = .slice ao cs.length c ∧ Arg3 W ao cs from fun W B v h => by
      have : OwnC W B v cs := by
        unfold OwnC
        rw [hcl, hcs, conV_appd]
        simpa using h
      exact this.arg)
    have SL1 := Lib.hid (fun g len cap h W => sl_low g len cap t h W)
    have SL2 := Lib.hid (fun g len cap h W => sl_high g len cap (t + 1) h W)
    have SHP := Lib.hid (show ∀ W W' v, CRes W (redL n l) 0 v W' → ∃ g c, v = .returned (.tuple #[.slice (some ⟨g, 0, none⟩) (redL n l).length c, .int .i64 0]) ∧ Hid (Rd3 W' ⟨g, 0, none⟩ (redL n l) ∧ (redL n l).length ≤ c ∧ c ≤ maxLen) ∧ Arg3 W' (some ⟨g, 0, none⟩) (redL n l) ∧ Below W.heap.size W W' from fun W W' v ⟨hb, u, e, h⟩ => by
      obtain ⟨g, c, rfl, h1, h2, h3⟩ := OwnC.shape h hne
      exact ⟨g, c, e, Lib.hid ⟨h1, h2, h3⟩, fun _ => ⟨_, rfl, h1⟩, hb⟩)
    unfold ZVal at BL
    generalize conV ((redL n l).take t) = xs1 at *
    generalize conV ((redL n l).drop (t + 1)) = xs2 at *
    generalize zrL (buE n cs) (buL n cs) = m at *
    generalize zrN (buE n cs) n = M at *
    generalize buE n cs = er at *
    clear hcs
    generalize redL n l = R at *
    generalize cs.length = clen at *
    generalize R.length = rlen at *
    generalize l.length = len at *
    obtain ⟨w0, hw0, e0, ks⟩ := zboxN n (some a) len cap w
    have KS := Lib.hid ks
    have E0 := Lib.hid e0
    have D2 : decide ((200 : Int) < ((len : Nat) : Int)) = false := by simp; omega
    have HW0 := Lib.hid hw0
    obtain ⟨b0, b1⟩ := ks w0 (Below.refl _ _)
    have HM := Lib.hid hmod
    clear ks e0 hw0 hA hl121 hV hR hne hmod
    go_enter Try.func11, Try.ntmps11
    go_upto_region 1 with (fail)
    rw [← HW0.out]
    go_wp2_with fail
    refine (RD.out _ E0.out).mono ?_
    intro e w2 hz
    obtain ⟨g, cc, rfl, R2, hA2, hb2⟩ := SHP.out _ _ _ hz
    have A2 := Lib.hid hA2
    have B2 := Lib.hid hb2
    clear hb2 b0 b1 hA2 hz
    obtain ⟨b0, b1⟩ := KS.out _ B2.out
    have D3 : ((rlen : Int) == 0) = false := by simp; omega
    go_wp2_with fail
    refine (BU.out _ _ _ A2.out).mono ?_
    rintro e w3 ⟨mo, mc, rfl, hA3, _, hb3⟩
    obtain ⟨w4, hw4⟩ : ∃ w4, w4 = w3.alloc (.cells #[.int .i64 n, .slice mo len mc] 25) := ⟨_, rfl⟩
    have x4 : Two w4 w3.heap.size (.int .i64 n) (.slice mo len mc) := by rw [hw4]; exact Two.made _ _ _ _
    have H4 := Lib.hid (show Below w2.heap.size w2 w4 by rw [hw4]; exact hb3.alloc hb3.size _)
    have B4 := Lib.hid (below_on B2.out H4.out)
    have A4 := Lib.hid (show Arg w4 mo l by rw [hw4]; exact hA3.on (one_more _))
    clear hA3 hb3 b0 b1
    obtain ⟨b0, b1⟩ := KS.out _ B4.out
    obtain ⟨d0, d1, d2, d3⟩ := x4.facts
    clear x4
    go_upto_region 7 with (fail)
    rw [← hw4]
    clear hw4
    go_wp2_with fail
    refine (SM.out _ _ _ A4.out (below_on E0.out B4.out)).mono ?_
    rintro e w5 ⟨rfl, hb5⟩
    have H5 := Lib.hid (below_on H4.out hb5)
    have B5 := Lib.hid (below_on B4.out hb5)
    clear hb5 b0 b1 d0 d1 d2 d3
    go_upto_region 11 with (fail)
    go_cut [1] (fun s wx => s = .int .i64 (t : Int) ∧ wx = w5)
    case first =>
      go_wp2_with fail
      go_meet
      case rel => exact ⟨by rw [HM.out], rfl⟩
    case rest =>
      obtain ⟨rfl, hwx⟩ := hcut
      rw [hwx]
      clear hwx
      have R5 := Lib.hid (show ∀ W, Below w5.heap.size w5 W → Rd3 W ⟨g, 0, none⟩ R from fun W h => (R2.out.1.on H5.out).on h)
      have HB1 := Lib.hid (show Below w5.heap.size w5 w5.drew from (Below.refl _ _).drew)
      have HB2 := Lib.hid (fun o : Obj => show Below w5.heap.size w5 (w5.drew.alloc o) from HB1.out.alloc (Nat.le_refl _) o)
      have OWA := Lib.hid (show (w5.drew.alloc (.cells #[] 56)).ownsRow w5.heap.size 56 3 (.slice (some ⟨w5.heap.size, 0, none⟩) 0 0) 0 [] by
        have := World.ownsRow_made (base := w5.heap.size) (e := 56) (size := 3) w5.drew #[] 0 (Nat.le_refl _) (Nat.zero_le _) (by simp)
        exact this)
      have S1 := SL1.out g rlen cc (by have := R2.out.2.1; omega)
      obtain ⟨b2, hb2, hS2⟩ : ∃ b2 : Addr, (b2 = (⟨g, 0, none⟩ : Addr).add ((t + 1) * 3) ∨ rlen = t + 1) ∧ ∀ W, (Instr.slice 35 (.slice (some ⟨g, 0, none⟩) rlen cc) (some (.int .i64 ((t : Int) + 1))) none none).run Try.prog W = .ok (.slice (some b2) (rlen - (t + 1)) (cc - (t + 1))) W := by
        refine ⟨_, ?_, fun W => SL2.out g rlen cc (by omega) W⟩
        have := R2.out.2.1
        by_cases c : cc = t + 1
        · right; omega
        · left; rw [if_neg c]
      have HB := Lib.hid hb2
      clear hb2
      have HWR : IntKind.i64.wrap ((t : Int) + 1) = (t : Int) + 1 := wrap_in _ (by omega) (by omega)
      go_upto_region 12 with (fail)
      go_cut [9] (fun s wx => ∃ (ao : Option Addr) (c : Nat), s = .slice ao clen c ∧ Hid (Arg3 wx ao cs ∧ Below w5.heap.size w5 wx))
      case first =>
        go_region_held3 (fun w' => Below w5.heap.size w5 w') (first | exact HB1.out | exact HB2.out _ | assumption)
          (first | (refine step_append_own rfl (.tmp 65) (.tmp 68) 35 rfl w5.heap.size 56 i0 (.agg #[.int .i64 0, .int .i64 0, .int .i64 0]) 3 24 Try.underlying35 hi hz0 hz1 hz2 rfl (by decide) (.slice (some ⟨w5.heap.size, 0, none⟩) 0 0) 0 [] (by simp [Act.eval]) OWA.out ⟨g, 0, none⟩ t cc xs1 (by simp [Act.eval]) l1 (C1.out _ _ (R5.out _ (HB2.out _))) o1 (by unfold maxLen; omega) (by omega) (HB2.out _).size ?_; intro v6 w6 hown6 hgrow6; have QB : Below w5.heap.size w5 w6 := Below.grown (HB2.out _) hgrow6 (by simp) (by intro k hk; simp [Value.ownBlock] at hk; omega)) | (refine step_append_own rfl (.tmp 69) (.tmp 73) 35 rfl w5.heap.size 56 i0 (.agg #[.int .i64 0, .int .i64 0, .int .i64 0]) 3 24 Try.underlying35 hi hz0 hz1 hz2 rfl (by decide) v6 (0 + t) ([] ++ xs1) (by simp [Act.eval]) hown6 b2 (rlen - (t + 1)) (cc - (t + 1)) xs2 (by simp [Act.eval]) l2 (C2.out _ _ _ (R5.out _ QB) HB.out) o2 (by unfold maxLen; omega) (by omega) QB.size ?_; intro v7 w7 hown7 hgrow7; have QB7 : Below w5.heap.size w5 w7 := Below.grown QB hgrow7 QB.size (fun k hk => (World.ownsRow.lt hown6 k hk).1)))
        go_wp2_with fail
        go_meet
        case rel =>
          obtain ⟨ao, c, rfl, hA7⟩ := OW.out _ _ _ hown7
          exact ⟨ao, c, rfl, Lib.hid ⟨hA7, QB7⟩⟩
      case rest =>
        obtain ⟨ao, c9, rfl, HX⟩ := hcut
        have A7 := Lib.hid HX.out.1
        have B7 := Lib.hid (below_on B5.out HX.out.2)
        obtain ⟨b0, b1⟩ := KS.out _ B7.out
        clear HWR S1 hS2 HB OWA HB1 HB2 R5 l1 l2 o1 o2 hi hz0 hz1 hz2 i0 hcl ht hpos hRL
        go_wp2_with fail
        refine (BL.out _ _ _ A7.out).mono ?_
        rintro e w8 ⟨po, pc, rfl, hA8, _, hb8⟩
        rcases key with rfl | ⟨rfl, rfl, IN, SN⟩
        · have B8 := Lib.hid (below_on B7.out hb8)
          clear hb8 hA8 b0 b1
          obtain ⟨w9, hw9⟩ : ∃ w9, w9 = w8.alloc (.cells #[.int .i64 M, .slice po m.length pc] 25) := ⟨_, rfl⟩
          have B9 := Lib.hid (show Below w0.heap.size w0 w9 by rw [hw9]; exact B8.out.alloc B8.out.size _)
          go_upto_region 14 with (fail)
          rw [← hw9]
          clear hw9
          go_wp2_with fail
          refine (SH.out _).mono ?_
          rintro e w10 ⟨rfl, hb10⟩
          have B10 := Lib.hid (below_on B9.out hb10)
          clear hb10
          go_wp2_with fail
          go_ret
          exact ⟨rfl, below_on E0.out B10.out⟩
        · obtain ⟨w9, hw9⟩ : ∃ w9, w9 = w8.alloc (.cells #[.int .i64 n, .slice po m.length pc] 25) := ⟨_, rfl⟩
          have x9 : Two w9 w8.heap.size (.int .i64 n) (.slice po m.length pc) := by rw [hw9]; exact Two.made _ _ _ _
          have X9 := Lib.hid x9
          have B9 := Lib.hid (show Below w0.heap.size w0 w9 by rw [hw9]; exact (below_on B7.out hb8).alloc (below_on B7.out hb8).size _)
          have A9 := Lib.hid (show Arg w9 po m by rw [hw9]; exact hA8.on (one_more _))
          clear hA8 hb8 b0 b1
          obtain ⟨b0, b1⟩ := KS.out _ B9.out
          obtain ⟨d0, d1, d2, d3⟩ := x9.facts
          clear x9
          go_upto_region 14 with (fail)
          rw [← hw9]
          clear hw9
          go_wp2_with fail
          refine (IN.out _ _ _ A9.out (below_on E0.out B9.out)).mono ?_
          rintro e w10 ⟨rfl, hb10⟩
          have H10 := Lib.hid hb10
          have B10 := Lib.hid (below_on B9.out hb10)
          clear hb10 b0 b1 d0 d1 d2 d3
          obtain ⟨b0, b1⟩ := KS.out _ B10.out
          obtain ⟨d0, d1, d2, d3⟩ := (X9.out.kept H10.out).facts
          go_wp2_with fail
          refine (SN.out _ _ _ (A9.out.on H10.out) (below_on E0.out B10.out)).mono ?_
          rintro e w11 ⟨rfl, hb11⟩
          have B11 := Lib.hid (below_on B10.out hb11)
          clear hb11 b0 b1 d0 d1 d2 d3
          go_wp2_with fail
          refine (SH.out _).mono ?_
          rintro e w12 ⟨rfl, hb12⟩
          have B12 := Lib.hid (below_on B11.out hb12)
          clear hb12
          go_wp2_with fail
          go_ret
          exact ⟨rfl, below_on E0.out B12.out⟩
end Go.Proofs.Ytbnebinpemejlaa
