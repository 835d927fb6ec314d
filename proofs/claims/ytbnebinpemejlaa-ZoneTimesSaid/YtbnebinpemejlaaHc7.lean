/- The contract of Reset of layer 3's reference.; The contract of layer 3's Free.; Contracts for layer 3's And: which constraints are wrong.; The contract of layer 3's And.; Plain mathematics: what is closed, tightened and closed again is what is tightened and closed once.; Plain mathematics: constraints tighten; what Free makes is a zone.; The contract of layer 3's Point.; The contract of the statements' SameRatios.; The contract of the statements' limits of layer 3. -/
import Derived.Test.YtbnebinpemejlaaHc6
import Derived.Test.YtbnebinpemejlaaHc5

namespace Go.Proofs.Ytbnebinpemejlaa
open Go.RowKit

theorem ZRes.ok {w : World} {N : Int} {l : List Int} {er : Int} {e : Ending} {w' : World} (h : ZRes w N l er e w') (he : er = 0) : ∃ g c, e = .returned (.tuple #[.agg #[.int .i64 N, .slice (some ⟨g, 0, none⟩) l.length c], .int .i64 0]) ∧ w.heap.size ≤ g ∧ Own w' g c l ∧ Below w.heap.size w w' := by
  rcases h.2 with ⟨_, g, c, h1, h2, h3⟩ | ⟨h1, _⟩
  · exact ⟨g, c, h1, h2, h3, h.1⟩
  · exact absurd he h1

theorem ZRes.no {w : World} {N : Int} {l : List Int} {er : Int} {e : Ending} {w' : World} (h : ZRes w N l er e w') (he : er ≠ 0) : e = .returned (.tuple #[.agg #[.int .i64 0, .slice none 0 0], .int .i64 er]) ∧ Below w.heap.size w w' := by
  rcases h.2 with ⟨h1, _⟩ | ⟨_, h1⟩
  · exact absurd h1 he
  · exact ⟨h1, h.1⟩

theorem Own.arg {w : World} {g c : Nat} {l : List Int} (h : Own w g c l) : Arg w (some ⟨g, 0, none⟩) l := fun _ => ⟨_, rfl, h.rd⟩

/-- What Reset returns: Free, then And. -/
def reM (n i : Nat) (l : List Int) : List Int := Zo.clo n (frL n i l)

def reL (n i : Nat) (c : Int) (l : List Int) : List Int := Zo.clo n (anL n (isC i 0 c) (reM n i l))

def reE (n i : Nat) (c : Int) (l : List Int) : Int := if cloE n (frL n i l) = 0 then anG n (isC i 0 c) (reM n i l) else cloE n (frL n i l)

set_option maxHeartbeats 400000 in
theorem re_bad (N : Int) (l : List Int) (ao : Option Addr) (cap : Nat) (i c : Int) (w : World) (hA : Arg w ao l) (hc : chkE N l = 2) :
    Calls Try.prog 31 #[.agg #[.int .i64 N, .slice ao l.length cap], .int .i64 i, .int .i64 c] w (ZRes w 0 [] 2) := by
  have CK := Lib.hid fun W (h : Below w.heap.size w W) => check_as (cap := cap) W (hA.on h) hc
  generalize l.length = len at *
  obtain ⟨w0, hw0⟩ : ∃ w0, w0 = (w.alloc (.cells #[.int .i64 N, .slice ao len cap] 25)).alloc (.cells #[.int .i64 0, .slice none 0 0] 25) := ⟨_, rfl⟩
  have bx : Two w0 w.heap.size (.int .i64 N) (.slice ao len cap) := by rw [hw0]; exact (Two.made _ _ _ _).alloc _
  have rs : Two w0 (w.heap.size + 1) (.int .i64 0) (.slice none 0 0) := by
    rw [hw0]
    have := Two.made (w.alloc (.cells #[.int .i64 N, .slice ao len cap] 25)) (.int .i64 0) (.slice none 0 0) 25
    simpa using this
  have e0 : Below w.heap.size w w0 := by rw [hw0]; exact past_two (Below.refl _ _)
  have E0 := Lib.hid e0
  clear e0 hA hc
  go_enter Try.func31, Try.ntmps31
  go_wp2_with fail
  rw [← hw0]
  clear hw0
  obtain ⟨b0, b1, b2, b3⟩ := bx.facts
  go_wp2_with fail
  refine (CK.out _ E0.out).mono ?_
  rintro e w1 ⟨rfl, hb1⟩
  clear b0 b1 b2 b3
  replace rs := rs.kept hb1
  replace E0 := Lib.hid (below_on E0.out hb1)
  clear hb1 bx
  obtain ⟨b0, b1, b2, b3⟩ := rs.facts
  go_wp2_with fail
  refine bodyPost_ret (v := .tuple #[.agg #[.int .i64 0, .slice none 0 0], .int .i64 2]) (by simp [results, Try.results31, go_sem, b0, b1]) rfl (zres_bad ?_)
  exact (E0.out.setCell (by show w.heap.size ≤ w.heap.size + 1; omega) _).setCell (by show w.heap.size ≤ w.heap.size + 1; omega) _

set_option maxHeartbeats 800000 in
theorem re_out0 (n : Nat) (l : List Int) (a : Addr) (cap : Nat) (i c : Int) (w : World) (hn : n ≤ 10) (hl : l.length = (n + 1) * (n + 1)) (hR : Rd w a l) (hc : chkE n l = 0) (hi : i < 1) :
    Calls Try.prog 31 #[.agg #[.int .i64 n, .slice (some a) l.length cap], .int .i64 i, .int .i64 c] w (ZRes w 0 [] 2) := by
  obtain ⟨len, hlen⟩ : ∃ len, len = l.length := ⟨_, rfl⟩
  obtain ⟨w0, hw0⟩ : ∃ w0, w0 = (w.alloc (.cells #[.int .i64 n, .slice (some a) len cap] 25)).alloc (.cells #[.int .i64 0, .slice none 0 0] 25) := ⟨_, rfl⟩
  have bx : Two w0 w.heap.size (.int .i64 n) (.slice (some a) len cap) := by rw [hw0]; exact (Two.made _ _ _ _).alloc _
  have rs : Two w0 (w.heap.size + 1) (.int .i64 0) (.slice none 0 0) := by
    rw [hw0]
    have := Two.made (w.alloc (.cells #[.int .i64 n, .slice (some a) len cap] 25)) (.int .i64 0) (.slice none 0 0) 25
    simpa using this
  have z0 : w0.heap.size = w.heap.size + 2 := by rw [hw0]; simp
  have e0 : Below w.heap.size w w0 := by rw [hw0]; exact past_two (Below.refl _ _)
  have R0 := hR.on e0
  have CK : Hid (∀ W, Rd W a l → Calls Try.prog 18 #[.agg #[.int .i64 n, .slice (some a) len cap]] W (Made (.int .i64 0) W)) := Lib.hid fun W h => by have := check_any n l a cap W hn hl h; rw [hc, ← hlen] at this; exact this
  have CP : Hid (∀ W, Rd W a l → Calls Try.prog 66 #[.agg #[.int .i64 n, .slice (some a) len cap]] W (fun e w' => ∃ g c, e = .returned (.agg #[.int .i64 n, .slice (some ⟨g, 0, none⟩) len c]) ∧ W.heap.size ≤ g ∧ Own w' g c l ∧ Below W.heap.size W w')) := Lib.hid fun W h => by have := copied_any n l a cap W (by rw [hl]; exact dsq_pos n) (by rw [hl]; have := dsq_le hn; omega) h; rw [← hlen] at this; exact this
  have HR := Lib.hid R0
  have HL := Lib.hid hl
  have HLn := Lib.hid hlen
  have E0 := Lib.hid e0
  rw [← hlen]
  clear hR R0 hl hlen hc e0
  go_enter Try.func31, Try.ntmps31
  go_wp2_with fail
  rw [← hw0]
  clear hw0
  obtain ⟨b0, b1, b2, b3⟩ := bx.facts
  go_wp2_with fail
  refine (CK.out _ HR.out).mono ?_
  rintro e w1 ⟨rfl, hb1⟩
  clear b0 b1 b2 b3
  replace bx := bx.kept hb1
  replace rs := rs.kept hb1
  have HR1 := Lib.hid (HR.out.on hb1)
  have E1 := Lib.hid (below_on E0.out hb1)
  have z1 := hb1.size
  clear hb1 HR E0
  obtain ⟨b0, b1, b2, b3⟩ := bx.facts
  clear b0 b1 b2 b3
  obtain ⟨b0, b1, b2, b3⟩ := rs.facts
  obtain ⟨c0, c1, _, _⟩ := bx.facts
  go_wp2_with fail
  refine bodyPost_ret (v := .tuple #[.agg #[.int .i64 0, .slice none 0 0], .int .i64 2]) (by simp [results, Try.results31, go_sem, b0, b1]) rfl (zres_bad ?_)
  exact (E1.out.setCell (by show w.heap.size ≤ w.heap.size + 1; omega) _).setCell (by show w.heap.size ≤ w.heap.size + 1; omega) _

set_option maxHeartbeats 800000 in
theorem re_out1 (n : Nat) (l : List Int) (a : Addr) (cap : Nat) (i c : Int) (w : World) (hn : n ≤ 10) (hl : l.length = (n + 1) * (n + 1)) (hR : Rd w a l) (hc : chkE n l = 0) (h1 : ¬ i < 1) (h2 : (n : Int) < i) :
    Calls Try.prog 31 #[.agg #[.int .i64 n, .slice (some a) l.length cap], .int .i64 i, .int .i64 c] w (ZRes w 0 [] 2) := by
  obtain ⟨len, hlen⟩ : ∃ len, len = l.length := ⟨_, rfl⟩
  obtain ⟨w0, hw0⟩ : ∃ w0, w0 = (w.alloc (.cells #[.int .i64 n, .slice (some a) len cap] 25)).alloc (.cells #[.int .i64 0, .slice none 0 0] 25) := ⟨_, rfl⟩
  have bx : Two w0 w.heap.size (.int .i64 n) (.slice (some a) len cap) := by rw [hw0]; exact (Two.made _ _ _ _).alloc _
  have rs : Two w0 (w.heap.size + 1) (.int .i64 0) (.slice none 0 0) := by
    rw [hw0]
    have := Two.made (w.alloc (.cells #[.int .i64 n, .slice (some a) len cap] 25)) (.int .i64 0) (.slice none 0 0) 25
    simpa using this
  have z0 : w0.heap.size = w.heap.size + 2 := by rw [hw0]; simp
  have e0 : Below w.heap.size w w0 := by rw [hw0]; exact past_two (Below.refl _ _)
  have R0 := hR.on e0
  have CK : Hid (∀ W, Rd W a l → Calls Try.prog 18 #[.agg #[.int .i64 n, .slice (some a) len cap]] W (Made (.int .i64 0) W)) := Lib.hid fun W h => by have := check_any n l a cap W hn hl h; rw [hc, ← hlen] at this; exact this
  have CP : Hid (∀ W, Rd W a l → Calls Try.prog 66 #[.agg #[.int .i64 n, .slice (some a) len cap]] W (fun e w' => ∃ g c, e = .returned (.agg #[.int .i64 n, .slice (some ⟨g, 0, none⟩) len c]) ∧ W.heap.size ≤ g ∧ Own w' g c l ∧ Below W.heap.size W w')) := Lib.hid fun W h => by have := copied_any n l a cap W (by rw [hl]; exact dsq_pos n) (by rw [hl]; have := dsq_le hn; omega) h; rw [← hlen] at this; exact this
  have HR := Lib.hid R0
  have HL := Lib.hid hl
  have HLn := Lib.hid hlen
  have E0 := Lib.hid e0
  rw [← hlen]
  clear hR R0 hl hlen hc e0
  go_enter Try.func31, Try.ntmps31
  go_wp2_with fail
  rw [← hw0]
  clear hw0
  obtain ⟨b0, b1, b2, b3⟩ := bx.facts
  go_wp2_with fail
  refine (CK.out _ HR.out).mono ?_
  rintro e w1 ⟨rfl, hb1⟩
  clear b0 b1 b2 b3
  replace bx := bx.kept hb1
  replace rs := rs.kept hb1
  have HR1 := Lib.hid (HR.out.on hb1)
  have E1 := Lib.hid (below_on E0.out hb1)
  have z1 := hb1.size
  clear hb1 HR E0
  obtain ⟨b0, b1, b2, b3⟩ := bx.facts
  clear b0 b1 b2 b3
  obtain ⟨b0, b1, b2, b3⟩ := rs.facts
  obtain ⟨c0, c1, _, _⟩ := bx.facts
  go_wp2_with fail
  refine bodyPost_ret (v := .tuple #[.agg #[.int .i64 0, .slice none 0 0], .int .i64 2]) (by simp [results, Try.results31, go_sem, b0, b1]) rfl (zres_bad ?_)
  exact (E1.out.setCell (by show w.heap.size ≤ w.heap.size + 1; omega) _).setCell (by show w.heap.size ≤ w.heap.size + 1; omega) _

set_option maxHeartbeats 800000 in
theorem re_out2 (n : Nat) (l : List Int) (a : Addr) (cap : Nat) (i c : Int) (w : World) (hn : n ≤ 10) (hl : l.length = (n + 1) * (n + 1)) (hR : Rd w a l) (hc : chkE n l = 0) (h1 : ¬ i < 1) (h2 : ¬ (n : Int) < i) (h3 : cnB c = false) :
    Calls Try.prog 31 #[.agg #[.int .i64 n, .slice (some a) l.length cap], .int .i64 i, .int .i64 c] w (ZRes w 0 [] 2) := by
  have p := fun W => constant_any c W
  rw [h3] at p
  have CN := Lib.hid p
  clear p h3
  obtain ⟨len, hlen⟩ : ∃ len, len = l.length := ⟨_, rfl⟩
  obtain ⟨w0, hw0⟩ : ∃ w0, w0 = (w.alloc (.cells #[.int .i64 n, .slice (some a) len cap] 25)).alloc (.cells #[.int .i64 0, .slice none 0 0] 25) := ⟨_, rfl⟩
  have bx : Two w0 w.heap.size (.int .i64 n) (.slice (some a) len cap) := by rw [hw0]; exact (Two.made _ _ _ _).alloc _
  have rs : Two w0 (w.heap.size + 1) (.int .i64 0) (.slice none 0 0) := by
    rw [hw0]
    have := Two.made (w.alloc (.cells #[.int .i64 n, .slice (some a) len cap] 25)) (.int .i64 0) (.slice none 0 0) 25
    simpa using this
  have z0 : w0.heap.size = w.heap.size + 2 := by rw [hw0]; simp
  have e0 : Below w.heap.size w w0 := by rw [hw0]; exact past_two (Below.refl _ _)
  have R0 := hR.on e0
  have CK : Hid (∀ W, Rd W a l → Calls Try.prog 18 #[.agg #[.int .i64 n, .slice (some a) len cap]] W (Made (.int .i64 0) W)) := Lib.hid fun W h => by have := check_any n l a cap W hn hl h; rw [hc, ← hlen] at this; exact this
  have CP : Hid (∀ W, Rd W a l → Calls Try.prog 66 #[.agg #[.int .i64 n, .slice (some a) len cap]] W (fun e w' => ∃ g c, e = .returned (.agg #[.int .i64 n, .slice (some ⟨g, 0, none⟩) len c]) ∧ W.heap.size ≤ g ∧ Own w' g c l ∧ Below W.heap.size W w')) := Lib.hid fun W h => by have := copied_any n l a cap W (by rw [hl]; exact dsq_pos n) (by rw [hl]; have := dsq_le hn; omega) h; rw [← hlen] at this; exact this
  have HR := Lib.hid R0
  have HL := Lib.hid hl
  have HLn := Lib.hid hlen
  have E0 := Lib.hid e0
  rw [← hlen]
  clear hR R0 hl hlen hc e0
  go_enter Try.func31, Try.ntmps31
  go_wp2_with fail
  rw [← hw0]
  clear hw0
  obtain ⟨b0, b1, b2, b3⟩ := bx.facts
  go_wp2_with fail
  refine (CK.out _ HR.out).mono ?_
  rintro e w1 ⟨rfl, hb1⟩
  clear b0 b1 b2 b3
  replace bx := bx.kept hb1
  replace rs := rs.kept hb1
  have HR1 := Lib.hid (HR.out.on hb1)
  have E1 := Lib.hid (below_on E0.out hb1)
  have z1 := hb1.size
  clear hb1 HR E0
  obtain ⟨b0, b1, b2, b3⟩ := bx.facts
  go_wp2_with fail
  refine (CN.out _).mono ?_
  rintro e w2 ⟨rfl, rfl⟩
  clear b0 b1 b2 b3
  obtain ⟨b0, b1, b2, b3⟩ := rs.facts
  obtain ⟨c0, c1, _, _⟩ := bx.facts
  go_wp2_with fail
  refine bodyPost_ret (v := .tuple #[.agg #[.int .i64 0, .slice none 0 0], .int .i64 2]) (by simp [results, Try.results31, go_sem, b0, b1]) rfl (zres_bad ?_)
  exact (E1.out.setCell (by show w.heap.size ≤ w.heap.size + 1; omega) _).setCell (by show w.heap.size ≤ w.heap.size + 1; omega) _

theorem own_below {w w' : World} {g c : Nat} {l : List Int} (h : Own w g c l) (hb : Below w.heap.size w w') : Own w' g c l :=
  h.kept (row := none) ⟨hb.os, hb.tape, hb.output, hb.size, fun k hk _ => hb.block k hk⟩ (by simp)

set_option maxHeartbeats 1600000 in
theorem re_any (n : Nat) (l : List Int) (a : Addr) (cap : Nat) (i : Nat) (c : Int) (w : World) (hn : n ≤ 10) (hl : l.length = (n + 1) * (n + 1)) (hR : Rd w a l) (hc : chkE n l = 0) (hi1 : 1 ≤ i) (hi2 : i ≤ n) (hcn : cnB c = true) :
    Calls Try.prog 31 #[.agg #[.int .i64 n, .slice (some a) l.length cap], .int .i64 i, .int .i64 c] w (ZRes w n (reL n i c l) (reE n i c l)) := by
  have p := fun W => constant_any c W
  rw [hcn] at p
  have CN := Lib.hid p
  have c0 : 0 ≤ c ∧ c ≤ 1048576 := by unfold cnB at hcn; simpa using hcn
  have IS := Lib.hid fun W => is_any (i : Int) 0 c W c0.1 c0.2
  have FR : Hid (∀ W, Rd W a l → Calls Try.prog 33 #[.agg #[.int .i64 n, .slice (some a) l.length cap], .int .i64 i] W (ZRes W n (reM n i l) (cloE n (frL n i l)))) := Lib.hid fun W h => fr_any n l a cap i W hn hl h hc hi1 hi2
  clear p hcn c0
  rw [show l.length = l.length from rfl] at FR
  obtain ⟨len, hlen⟩ : ∃ len, len = l.length := ⟨_, rfl⟩
  obtain ⟨w0, hw0⟩ : ∃ w0, w0 = (w.alloc (.cells #[.int .i64 n, .slice (some a) len cap] 25)).alloc (.cells #[.int .i64 0, .slice none 0 0] 25) := ⟨_, rfl⟩
  have bx : Two w0 w.heap.size (.int .i64 n) (.slice (some a) len cap) := by rw [hw0]; exact (Two.made _ _ _ _).alloc _
  have rs : Two w0 (w.heap.size + 1) (.int .i64 0) (.slice none 0 0) := by
    rw [hw0]
    have := Two.made (w.alloc (.cells #[.int .i64 n, .slice (some a) len cap] 25)) (.int .i64 0) (.slice none 0 0) 25
    simpa using this
  have z0 : w0.heap.size = w.heap.size + 2 := by rw [hw0]; simp
  have e0 : Below w.heap.size w w0 := by rw [hw0]; exact past_two (Below.refl _ _)
  have R0 := hR.on e0
  have CK : Hid (∀ W, Rd W a l → Calls Try.prog 18 #[.agg #[.int .i64 n, .slice (some a) len cap]] W (Made (.int .i64 0) W)) := Lib.hid fun W h => by have := check_any n l a cap W hn hl h; rw [hc, ← hlen] at this; exact this
  have CP : Hid (∀ W, Rd W a l → Calls Try.prog 66 #[.agg #[.int .i64 n, .slice (some a) len cap]] W (fun e w' => ∃ g c, e = .returned (.agg #[.int .i64 n, .slice (some ⟨g, 0, none⟩) len c]) ∧ W.heap.size ≤ g ∧ Own w' g c l ∧ Below W.heap.size W w')) := Lib.hid fun W h => by have := copied_any n l a cap W (by rw [hl]; exact dsq_pos n) (by rw [hl]; have := dsq_le hn; omega) h; rw [← hlen] at this; exact this
  have HR := Lib.hid R0
  have HL := Lib.hid hl
  have HLn := Lib.hid hlen
  have E0 := Lib.hid e0
  have FR2 : Hid (∀ W, Rd W a l → Calls Try.prog 33 #[.agg #[.int .i64 n, .slice (some a) len cap], .int .i64 i] W (ZRes W n (reM n i l) (cloE n (frL n i l)))) := by rw [hlen]; exact FR
  clear FR
  rw [← hlen]
  clear hR R0 hl hlen hc e0
  by_cases h1 : cloE n (frL n i l) = 0
  · by_cases h2 : anG n (isC i 0 c) (reM n i l) = 0
    · have HLM0 := Lib.hid (show reL n i c l = Zo.clo n (anL n (isC i 0 c) (reM n i l)) from rfl)
      have HRE := Lib.hid (show reE n i c l = anG n (isC i 0 c) (reM n i l) by unfold reE; rw [if_pos h1])
      have H1 := Lib.hid h1
      have AN := Lib.hid fun (W : World) (g c5 q : Nat) (hA : Own W g c5 (reM n i l)) (hD : Rd3 W ⟨q, 0, none⟩ (isC i 0 c)) => an_gen n (reM n i l) (some ⟨g, 0, none⟩) c5 (isC i 0 c) (some ⟨q, 0, none⟩) 2 W hA.arg (fun _ => ⟨_, rfl, hD⟩) (by simp [isC])
      have H2 := Lib.hid h2
      generalize (isC (i : Int) 0 c) = cs at *
      generalize hM : reM n i l = M at *
      clear h1 h2
      have HLM := Lib.hid (show reL n i c l = Zo.clo n (anL n cs M) from HLM0.out)
      have HLL := Lib.hid (show ∀ (g7 c7 : Nat), Ending.returned (.tuple #[.agg #[.int .i64 n, .slice (some ⟨g7, 0, none⟩) (Zo.clo n (anL n cs M)).length c7], .int .i64 0]) = Ending.returned (.tuple #[.agg #[.int .i64 n, .slice (some ⟨g7, 0, none⟩) (reL n i c l).length c7], .int .i64 0]) from fun g7 c7 => by rw [HLM.out])
      go_enter Try.func31, Try.ntmps31
      go_wp2_with fail
      rw [← hw0]
      clear hw0
      obtain ⟨b0, b1, b2, b3⟩ := bx.facts
      go_wp2_with fail
      refine (CK.out _ HR.out).mono ?_
      rintro e w1 ⟨rfl, hb1⟩
      clear b0 b1 b2 b3
      replace bx := bx.kept hb1
      replace rs := rs.kept hb1
      have HR1 := Lib.hid (HR.out.on hb1)
      have E1 := Lib.hid (below_on E0.out hb1)
      have z1 := hb1.size
      clear hb1 HR E0
      obtain ⟨b0, b1, b2, b3⟩ := bx.facts
      go_wp2_with fail
      refine (CN.out _).mono ?_
      rintro e w2' ⟨rfl, rfl⟩
      go_wp2_with fail
      refine (FR2.out _ HR1.out).mono ?_
      intro e w3 hz
      obtain ⟨g, c5, rfl, hg, ho, hb3⟩ := hz.ok H1.out
      clear b0 b1 b2 b3 hz
      replace bx := bx.kept hb3
      replace rs := rs.kept hb3
      have E3 := Lib.hid (below_on E1.out hb3)
      have z3 := hb3.size
      clear hb3
      obtain ⟨w5, hw5⟩ : ∃ w5, w5 = (w3.setCell ⟨w.heap.size, 0, none⟩ (.int .i64 n)).setCell ⟨w.heap.size, 1, none⟩ (.slice (some ⟨g, 0, none⟩) M.length c5) := ⟨_, rfl⟩
      have bx5 : Two w5 w.heap.size (.int .i64 n) (.slice (some ⟨g, 0, none⟩) M.length c5) := by rw [hw5]; exact bx.put _ _
      have rs5 : Two w5 (w.heap.size + 1) (.int .i64 0) (.slice none 0 0) := by rw [hw5]; exact rs.aside (by omega) _ _
      have O5 := Lib.hid (show Own w5 g c5 M by rw [hw5]; exact put_far ho (by omega) _ _)
      have E5 := Lib.hid (show Below w.heap.size w w5 by rw [hw5]; exact (E3.out.setCell (by show w.heap.size ≤ w.heap.size; omega) _).setCell (by show w.heap.size ≤ w.heap.size; omega) _)
      have z5 : w.heap.size + 2 ≤ w5.heap.size := by have := rs5.lt; omega
      have KS := Lib.hid (show ∀ W : World, Below w5.heap.size w5 W → W.cell? ⟨w.heap.size, 0, none⟩ = some (.int .i64 n) ∧ W.cell? ⟨w.heap.size, 1, none⟩ = some (.slice (some ⟨g, 0, none⟩) M.length c5) from fun W h => ⟨kept h bx5.facts.1, kept h bx5.facts.2.1⟩)
      have KT := Lib.hid (show ∀ (W : World) (u v : Value), Below w5.heap.size w5 W → ((W.setCell ⟨w.heap.size + 1, 0, none⟩ u).setCell ⟨w.heap.size + 1, 1, none⟩ v).cell? ⟨w.heap.size, 0, none⟩ = some (.int .i64 n) ∧ ((W.setCell ⟨w.heap.size + 1, 0, none⟩ u).setCell ⟨w.heap.size + 1, 1, none⟩ v).cell? ⟨w.heap.size, 1, none⟩ = some (.slice (some ⟨g, 0, none⟩) M.length c5) from fun W u v h => by have t := (bx5.kept h).aside (show w.heap.size + 1 ≠ w.heap.size by omega) u v; exact ⟨t.facts.1, t.facts.2.1⟩)
      have KR := Lib.hid (show ∀ W : World, Below w5.heap.size w5 W → Two W (w.heap.size + 1) (.int .i64 0) (.slice none 0 0) from fun W h => rs5.kept h)
      have HO := Lib.hid ho
      obtain ⟨b0, b1, b2, b3⟩ := bx.facts
      clear ho bx rs E3
      go_wp2_with fail
      rw [← hw5]
      have HW5 := Lib.hid hw5
      clear hw5 b0 b1 b2 b3 bx5 rs5
      obtain ⟨b0, b1⟩ := KS.out _ (Below.refl _ _)
      go_wp2_with fail
      have s1 : Below w5.heap.size w5 w5.drew := (Below.refl _ _).drew
      go_region_held3 (fun w' => w'.cell? ⟨w.heap.size, 0, none⟩ = some (.int .i64 n) ∧ w'.cell? ⟨w.heap.size, 1, none⟩ = some (.slice (some ⟨g, 0, none⟩) M.length c5)) (first | exact KS.out _ s1 | exact KS.out _ s6 | exact KS.out _ s7 | exact KT.out _ _ _ s7)
        (first | (go_at_call 88; refine (IS.out _).mono ?_; rintro e w6 ⟨q, rfl, hd, hb6⟩; have s6 := below_on s1 hb6) | (go_at_call 25; refine (AN.out _ _ _ _ (own_below O5.out s6) hd).mono ?_; intro e w7 hz; obtain ⟨g7, c7, rfl, hg7, ho7, hb7⟩ := hz.ok H2.out; have s7 := below_on s6 hb7; obtain ⟨r0, r1, r2, r3⟩ := (KR.out _ s7).facts))
      go_wp2_with fail
      have z7 := s6.size
      refine bodyPost_ret (v := .tuple #[.agg #[.int .i64 n, .slice (some ⟨g7, 0, none⟩) (Zo.clo n (anL n cs M)).length c7], .int .i64 0]) (by simp [results, Try.results31, go_sem, r0, r1]) rfl ⟨((below_on E5.out s7).setCell (by show w.heap.size ≤ w.heap.size + 1; omega) _).setCell (by show w.heap.size ≤ w.heap.size + 1; omega) _, Or.inl ⟨by rw [HRE.out]; exact H2.out, g7, c7, HLL.out _ _, by omega, ?_⟩⟩
      rw [HLM.out]
      exact put_far ho7 (by omega) _ _
    · have HRE := Lib.hid (show reE n i c l = anG n (isC i 0 c) (reM n i l) by unfold reE; rw [if_pos h1])
      have H1 := Lib.hid h1
      have AN := Lib.hid fun (W : World) (g c5 q : Nat) (hA : Own W g c5 (reM n i l)) (hD : Rd3 W ⟨q, 0, none⟩ (isC i 0 c)) => an_gen n (reM n i l) (some ⟨g, 0, none⟩) c5 (isC i 0 c) (some ⟨q, 0, none⟩) 2 W hA.arg (fun _ => ⟨_, rfl, hD⟩) (by simp [isC])
      have H2 := Lib.hid h2
      generalize anG n (isC i 0 c) (reM n i l) = er at *
      generalize (isC (i : Int) 0 c) = cs at *
      generalize hM : reM n i l = M at *
      clear h1 h2
      go_enter Try.func31, Try.ntmps31
      go_wp2_with fail
      rw [← hw0]
      clear hw0
      obtain ⟨b0, b1, b2, b3⟩ := bx.facts
      go_wp2_with fail
      refine (CK.out _ HR.out).mono ?_
      rintro e w1 ⟨rfl, hb1⟩
      clear b0 b1 b2 b3
      replace bx := bx.kept hb1
      replace rs := rs.kept hb1
      have HR1 := Lib.hid (HR.out.on hb1)
      have E1 := Lib.hid (below_on E0.out hb1)
      have z1 := hb1.size
      clear hb1 HR E0
      obtain ⟨b0, b1, b2, b3⟩ := bx.facts
      go_wp2_with fail
      refine (CN.out _).mono ?_
      rintro e w2' ⟨rfl, rfl⟩
      go_wp2_with fail
      refine (FR2.out _ HR1.out).mono ?_
      intro e w3 hz
      obtain ⟨g, c5, rfl, hg, ho, hb3⟩ := hz.ok H1.out
      clear b0 b1 b2 b3 hz
      replace bx := bx.kept hb3
      replace rs := rs.kept hb3
      have E3 := Lib.hid (below_on E1.out hb3)
      have z3 := hb3.size
      clear hb3
      obtain ⟨w5, hw5⟩ : ∃ w5, w5 = (w3.setCell ⟨w.heap.size, 0, none⟩ (.int .i64 n)).setCell ⟨w.heap.size, 1, none⟩ (.slice (some ⟨g, 0, none⟩) M.length c5) := ⟨_, rfl⟩
      have bx5 : Two w5 w.heap.size (.int .i64 n) (.slice (some ⟨g, 0, none⟩) M.length c5) := by rw [hw5]; exact bx.put _ _
      have rs5 : Two w5 (w.heap.size + 1) (.int .i64 0) (.slice none 0 0) := by rw [hw5]; exact rs.aside (by omega) _ _
      have O5 := Lib.hid (show Own w5 g c5 M by rw [hw5]; exact put_far ho (by omega) _ _)
      have E5 := Lib.hid (show Below w.heap.size w w5 by rw [hw5]; exact (E3.out.setCell (by show w.heap.size ≤ w.heap.size; omega) _).setCell (by show w.heap.size ≤ w.heap.size; omega) _)
      have z5 : w.heap.size + 2 ≤ w5.heap.size := by have := rs5.lt; omega
      have KS := Lib.hid (show ∀ W : World, Below w5.heap.size w5 W → W.cell? ⟨w.heap.size, 0, none⟩ = some (.int .i64 n) ∧ W.cell? ⟨w.heap.size, 1, none⟩ = some (.slice (some ⟨g, 0, none⟩) M.length c5) from fun W h => ⟨kept h bx5.facts.1, kept h bx5.facts.2.1⟩)
      have KT := Lib.hid (show ∀ (W : World) (u v : Value), Below w5.heap.size w5 W → ((W.setCell ⟨w.heap.size + 1, 0, none⟩ u).setCell ⟨w.heap.size + 1, 1, none⟩ v).cell? ⟨w.heap.size, 0, none⟩ = some (.int .i64 n) ∧ ((W.setCell ⟨w.heap.size + 1, 0, none⟩ u).setCell ⟨w.heap.size + 1, 1, none⟩ v).cell? ⟨w.heap.size, 1, none⟩ = some (.slice (some ⟨g, 0, none⟩) M.length c5) from fun W u v h => by have t := (bx5.kept h).aside (show w.heap.size + 1 ≠ w.heap.size by omega) u v; exact ⟨t.facts.1, t.facts.2.1⟩)
      have KR := Lib.hid (show ∀ W : World, Below w5.heap.size w5 W → Two W (w.heap.size + 1) (.int .i64 0) (.slice none 0 0) from fun W h => rs5.kept h)
      have HO := Lib.hid ho
      obtain ⟨b0, b1, b2, b3⟩ := bx.facts
      clear ho bx rs E3
      go_wp2_with fail
      rw [← hw5]
      have HW5 := Lib.hid hw5
      clear hw5 b0 b1 b2 b3 bx5 rs5
      obtain ⟨b0, b1⟩ := KS.out _ (Below.refl _ _)
      go_wp2_with fail
      have s1 : Below w5.heap.size w5 w5.drew := (Below.refl _ _).drew
      go_region_held3 (fun w' => w'.cell? ⟨w.heap.size, 0, none⟩ = some (.int .i64 n) ∧ w'.cell? ⟨w.heap.size, 1, none⟩ = some (.slice (some ⟨g, 0, none⟩) M.length c5)) (first | exact KS.out _ s1 | exact KS.out _ s6 | exact KS.out _ s7 | exact KT.out _ _ _ s7)
        (first | (go_at_call 88; refine (IS.out _).mono ?_; rintro e w6 ⟨q, rfl, hd, hb6⟩; have s6 := below_on s1 hb6) | (go_at_call 25; refine (AN.out _ _ _ _ (own_below O5.out s6) hd).mono ?_; intro e w7 hz; obtain ⟨rfl, hb7⟩ := hz.no H2.out; have s7 := below_on s6 hb7; obtain ⟨r0, r1, r2, r3⟩ := (KR.out _ s7).facts))
      go_wp2_with fail
      refine bodyPost_ret (v := .tuple #[.agg #[.int .i64 0, .slice none 0 0], .int .i64 er]) (by simp [results, Try.results31, go_sem, r0, r1]) rfl ⟨((below_on E5.out s7).setCell (by show w.heap.size ≤ w.heap.size + 1; omega) _).setCell (by show w.heap.size ≤ w.heap.size + 1; omega) _, Or.inr ⟨by rw [HRE.out]; exact H2.out, by rw [HRE.out]⟩⟩
  · have HRE := Lib.hid (show reE n i c l = cloE n (frL n i l) by unfold reE; rw [if_neg h1])
    have H1 := Lib.hid h1
    generalize cloE n (frL n i l) = er at *
    have E1B : (er != 0) = true := by simpa using h1
    clear h1
    go_enter Try.func31, Try.ntmps31
    go_wp2_with fail
    rw [← hw0]
    clear hw0
    obtain ⟨b0, b1, b2, b3⟩ := bx.facts
    go_wp2_with fail
    refine (CK.out _ HR.out).mono ?_
    rintro e w1 ⟨rfl, hb1⟩
    clear b0 b1 b2 b3
    replace bx := bx.kept hb1
    replace rs := rs.kept hb1
    have HR1 := Lib.hid (HR.out.on hb1)
    have E1 := Lib.hid (below_on E0.out hb1)
    have z1 := hb1.size
    clear hb1 HR E0
    obtain ⟨b0, b1, b2, b3⟩ := bx.facts
    go_wp2_with fail
    refine (CN.out _).mono ?_
    rintro e w2' ⟨rfl, rfl⟩
    go_wp2_with fail
    refine (FR2.out _ HR1.out).mono ?_
    intro e w3 hz
    obtain ⟨rfl, hb3⟩ := hz.no H1.out
    clear b0 b1 b2 b3 hz
    replace bx := bx.kept hb3
    replace rs := rs.kept hb3
    have E3 := Lib.hid (below_on E1.out hb3)
    have z3 := hb3.size
    clear hb3
    obtain ⟨b0, b1, b2, b3⟩ := bx.facts
    obtain ⟨r0, r1, r2, r3⟩ := rs.facts
    go_wp2_with fail
    refine bodyPost_ret (v := .tuple #[.agg #[.int .i64 0, .slice none 0 0], .int .i64 er]) (by simp [results, Try.results31, go_sem, r0, r1]) rfl ⟨?_, Or.inr ⟨by rw [HRE.out]; exact H1.out, by rw [HRE.out]⟩⟩
    exact (((E3.out.setCell (by show w.heap.size ≤ w.heap.size; omega) _).setCell (by show w.heap.size ≤ w.heap.size; omega) _).setCell (by show w.heap.size ≤ w.heap.size + 1; omega) _).setCell (by show w.heap.size ≤ w.heap.size + 1; omega) _
end Go.Proofs.Ytbnebinpemejlaa

namespace Go.Proofs.Ytbnebinpemejlaa
open Go.RowKit

theorem rlL_at {n i : Nat} {l : List Int} (hl : l.length = (n + 1) * (n + 1)) (hi : i ≤ n) {a b : Nat} (ha : a ≤ n) (hb : b ≤ n) : Zo.At n (rlL n i l) a b = if a = i ∨ b = i then 1099511627776 else Zo.At n l a b := by
  have := (Zo.fold_at (N := n + 1) (f := rlS n i) (p := fun t a b => decide ((a = t ∧ b = i) ∨ (a = i ∧ b = t))) (v := 1099511627776) (fun x t ht hx => ⟨by simpa [rlS] using hx, fun a b _ hb => by
    unfold rlS
    rw [Zo.At_set (by simpa using hx) (by omega) hi _ hb, Zo.At_set hx hi (by omega) _ hb]
    by_cases c1 : a = t ∧ b = i
    · simp [c1]
    · by_cases c2 : a = i ∧ b = t
      · simp [c2]
      · rw [if_neg c1, if_neg c2, if_neg (by simp; omega)]⟩) hl (n + 1) (Nat.le_refl _)).2 a b ha hb
  rw [show rlL n i l = (List.range (n + 1)).foldl (rlS n i) l from rfl, this]
  by_cases c : a = i ∨ b = i
  · rw [if_pos c, if_pos]
    rw [List.any_eq_true]
    by_cases ca : a = i
    · exact ⟨b, List.mem_range.2 (by omega), by simp [ca]⟩
    · exact ⟨a, List.mem_range.2 (by omega), by simp; omega⟩
  · rw [if_neg c, if_neg]
    intro h
    rw [List.any_eq_true] at h
    obtain ⟨s, _, hs⟩ := h
    simp at hs
    omega

theorem frL_at {n i : Nat} {l : List Int} (hl : l.length = (n + 1) * (n + 1)) (hi : i ≤ n) {a b : Nat} (ha : a ≤ n) (hb : b ≤ n) : Zo.At n (frL n i l) a b = if (a = i ∨ b = i) ∧ a ≠ b then 1099511627776 else Zo.At n l a b := by
  have := (Zo.fold_at (N := n + 1) (f := frS n i) (p := fun t a b => decide (t ≠ i ∧ ((a = t ∧ b = i) ∨ (a = i ∧ b = t)))) (v := 1099511627776) (fun x t ht hx => ⟨by rw [frS_len]; exact hx, fun a b _ hb => by
    unfold frS
    by_cases ct : t = i
    · rw [if_pos ct, if_neg (by simp; omega)]
    · rw [if_neg ct, Zo.At_set (by simpa using hx) (by omega) hi _ hb, Zo.At_set hx hi (by omega) _ hb]
      by_cases c1 : a = t ∧ b = i
      · simp [c1, ct]
      · by_cases c2 : a = i ∧ b = t
        · simp [c2, ct]
        · rw [if_neg c1, if_neg c2, if_neg (by simp; omega)]⟩) hl (n + 1) (Nat.le_refl _)).2 a b ha hb
  rw [show frL n i l = (List.range (n + 1)).foldl (frS n i) l from rfl, this]
  by_cases c : (a = i ∨ b = i) ∧ a ≠ b
  · rw [if_pos c, if_pos]
    rw [List.any_eq_true]
    by_cases ca : a = i
    · exact ⟨b, List.mem_range.2 (by omega), by simp [ca]; omega⟩
    · exact ⟨a, List.mem_range.2 (by omega), by simp; omega⟩
  · rw [if_neg c, if_neg]
    intro h
    rw [List.any_eq_true] at h
    obtain ⟨s, _, hs⟩ := h
    simp at hs
    omega

theorem fr_pre {n i : Nat} {l : List Int} (hl : l.length = (n + 1) * (n + 1)) (hi : i ≤ n) (hc : chkE n l = 0) : Zo.pre n (rlL n i l) = Zo.pre n (frL n i l) := by
  obtain ⟨dg, _⟩ := chk_diag hc
  refine Zo.pre_eq (by rw [rlL_len, hl]) (by rw [frL_len, hl]) fun a b ha hb => ⟨fun h => ?_, fun h => ?_⟩
  · rw [rlL_at hl hi ha hb, frL_at hl hi ha hb]
    by_cases c : a = i ∨ b = i
    · rw [if_pos c, if_pos ⟨c, h.2⟩]
    · rw [if_neg c, if_neg (by omega)]
  · rw [rlL_at hl hi ha hb, frL_at hl hi ha hb]
    by_cases c : a = i ∨ b = i
    · rw [if_pos c]
      by_cases e : a = b
      · rw [if_neg (by omega)]
        subst e
        rw [dg a ha]; decide
      · rw [if_pos ⟨c, e⟩]
    · rw [if_neg c, if_neg (by omega)]

theorem rlL_64 {n i : Nat} {l : List Int} (h : Zo.A64 l) : Zo.A64 (rlL n i l) := fold_64 (fun _ _ h => Zo.gt_range _ _ _ (Zo.gt_range _ _ _ h no_in) no_in) h _

theorem enter_fr (args : Array Value) (W : World) : (callFunc 89 args).run Try.prog W = .ok (.enter 89 args) W := by go_simp

theorem ck_nat {n : Nat} {i first : Int} (h : ckB n i first = true) (h0 : 0 ≤ first) : ∃ k : Nat, i = k ∧ k ≤ n ∧ first ≤ k := by
  unfold ckB at h; simp at h; exact ⟨i.toNat, by omega, by omega, by omega⟩

theorem ch_fr (N : Int) (l : List Int) (ao : Option Addr) (cap : Nat) (i : Int) (p : Addr) (w : World) (hA : Arg w ao l) (hp : w.cell? p = some (.int .i64 i)) :
    Calls Try.prog 76 #[.agg #[.int .i64 N, .slice ao l.length cap], .bool (ckB N i 1), .func (.func 89) #[] #[.pointer (some p)]] w (ZRes w N (Zo.clo N.toNat (frL N.toNat i.toNat l)) (frE N l i)) := by
  by_cases hc : chkE N l = 0
  · cases hk : ckB N i 1
    · refine (changed_bad N l ao cap false _ w hA (Or.inr rfl)).mono fun e w' h => h.bad ?_
      unfold frE; rw [if_neg]
      unfold ckB at hk; simp at hk; omega
    · obtain ⟨n, rfl, hn, hl, hne⟩ := chk_ok hc
      obtain ⟨k, rfl, hkn, hk1⟩ := ck_nat hk (by omega)
      have := changed_ok n l (rlL n k l) ao cap 89 #[.pointer (some p)] w hA hn hl hc (rlL_64 (chk_64 hc).1) enter_fr (fun W b hb _ hM => fr1_any b n k p l W hn hkn hM (kept hb hp))
      rw [show frE (n : Int) l k = cloE n (rlL n k l) by unfold frE; rw [if_pos ⟨hc, by omega, by omega⟩, cloE_pre (fr_pre hl hkn hc)]; rfl]
      rw [Zo.clo_pre (fr_pre hl hkn hc)] at this
      exact this
  · refine (changed_bad N l ao cap _ _ w hA (Or.inl (by unfold okB; simpa using hc))).mono fun e w' h => h.bad ?_
    unfold frE; rw [if_neg (by omega)]

set_option maxRecDepth 100000 in
set_option maxHeartbeats 4000000 in
theorem zfr_gen (N : Int) (l : List Int) (ao : Option Addr) (cap : Nat) (i : Int) (w : World) (hA : Arg w ao l) :
    Calls Try.prog 32 #[.agg #[.int .i64 N, .slice ao l.length cap], .int .i64 i] w (ZRes w N (Zo.clo N.toNat (frL N.toNat i.toNat l)) (frE N l i)) := by
  have CH := Lib.hid (show ∀ W p, Below w.heap.size w W → W.cell? p = some (.int .i64 i) → _ from fun W p h hp => ch_fr N l ao cap i p W (hA.on h) hp)
  have CK := Lib.hid (fun W => isClock_any N i 1 (.slice ao l.length cap) W)
  generalize Zo.clo N.toNat (frL N.toNat i.toNat l) = r at *
  generalize frE N l i = er at *
  generalize ckB N i 1 = ck at *
  generalize l.length = len at *
  obtain ⟨w0, hw0⟩ : ∃ w0, w0 = ((w.alloc (.cells #[.int .i64 N, .slice ao len cap] 25)).alloc (.cells #[.int .i64 i] 3)).alloc (.cells #[.int .i64 0, .slice none 0 0] 25) := ⟨_, rfl⟩
  have b0 : w0.cell? ⟨w.heap.size, 0, none⟩ = some (.int .i64 N) := by rw [hw0]; go_simp
  have b1 : w0.cell? ⟨w.heap.size, 1, none⟩ = some (.slice ao len cap) := by rw [hw0]; go_simp
  have b2 : w0.cell? ⟨w.heap.size + 1, 0, none⟩ = some (.int .i64 i) := by rw [hw0]; go_simp
  have rs : Two w0 (w.heap.size + 1 + 1) (.int .i64 0) (.slice none 0 0) := by
    rw [hw0]
    have := Two.made ((w.alloc (.cells #[.int .i64 N, .slice ao len cap] 25)).alloc (.cells #[.int .i64 i] 3)) (.int .i64 0) (.slice none 0 0) 25
    simpa using this
  have z0 : w0.heap.size = w.heap.size + 3 := by rw [hw0]; simp
  have E0 := Lib.hid (show Below w.heap.size w w0 by rw [hw0]; exact past_three (Below.refl _ _))
  have KS := Lib.hid (show ∀ w' : World, Below w0.heap.size w0 w' → w'.cell? ⟨w.heap.size, 0, none⟩ = some (.int .i64 N) ∧ w'.cell? ⟨w.heap.size, 1, none⟩ = some (.slice ao len cap) ∧ w'.cell? ⟨w.heap.size + 1, 0, none⟩ = some (.int .i64 i) from fun w' h => ⟨kept h b0, kept h b1, kept h b2⟩)
  have KP := Lib.hid (show ∀ (w' : World) (u v : Value), Below w0.heap.size w0 w' → (((w'.setCell ⟨w.heap.size + 1 + 1, 0, none⟩ u).setCell ⟨w.heap.size + 1 + 1, 1, none⟩ v).cell? ⟨w.heap.size, 0, none⟩ = some (.int .i64 N) ∧ ((w'.setCell ⟨w.heap.size + 1 + 1, 0, none⟩ u).setCell ⟨w.heap.size + 1 + 1, 1, none⟩ v).cell? ⟨w.heap.size, 1, none⟩ = some (.slice ao len cap) ∧ ((w'.setCell ⟨w.heap.size + 1 + 1, 0, none⟩ u).setCell ⟨w.heap.size + 1 + 1, 1, none⟩ v).cell? ⟨w.heap.size + 1, 0, none⟩ = some (.int .i64 i)) from
    fun w' u v h => ⟨aside_two (kept h b0) (by show w.heap.size ≠ _; omega) u v, aside_two (kept h b1) (by show w.heap.size ≠ _; omega) u v, aside_two (kept h b2) (by show w.heap.size + 1 ≠ _; omega) u v⟩)
  have HRS := Lib.hid rs
  have BD := Lib.hid (show Below w0.heap.size w0 w0.drew from (Below.refl _ _).drew)
  clear hA b0 b1 b2 rs
  go_enter Try.func32, Try.ntmps32
  go_wp2_with fail
  rw [← hw0]
  clear hw0
  by_cases he : er = 0
  · subst he
    go_region_held3 (fun w' => w'.cell? ⟨w.heap.size, 0, none⟩ = some (.int .i64 N) ∧ w'.cell? ⟨w.heap.size, 1, none⟩ = some (.slice ao len cap) ∧ w'.cell? ⟨w.heap.size + 1, 0, none⟩ = some (.int .i64 i)) (first | exact KS.out _ BD.out | exact KS.out _ (by assumption) | exact KP.out _ _ _ (by assumption))
      (first | (go_at_call 74; refine (CK.out _).mono ?_; rintro e wa ⟨rfl, hba⟩; have hb1 := below_on BD.out hba) | (go_at_call 76; refine (CH.out _ _ (below_on E0.out hb1) (KS.out _ hb1).2.2).mono ?_; intro e wb hz; obtain ⟨g, c, rfl, hg, hO⟩ := hz.ok rfl; have hb2 := below_on hb1 hz.1; obtain ⟨q0, q1, q2, q3⟩ := (HRS.out.kept hb2).facts))
    all_goals
      go_wp2_with fail
      refine bodyPost_ret (v := .tuple #[.agg #[.int .i64 N, .slice (some ⟨g, 0, none⟩) r.length c], .int .i64 0]) (by simp [results, Try.results32, go_sem, q0, q1]) rfl (zres_over E0.out hb2 hO.1 (Nat.le_trans hb1.size hg) (by omega) (by omega) _ _)
  · go_region_held3 (fun w' => w'.cell? ⟨w.heap.size, 0, none⟩ = some (.int .i64 N) ∧ w'.cell? ⟨w.heap.size, 1, none⟩ = some (.slice ao len cap) ∧ w'.cell? ⟨w.heap.size + 1, 0, none⟩ = some (.int .i64 i)) (first | exact KS.out _ BD.out | exact KS.out _ (by assumption) | exact KP.out _ _ _ (by assumption))
      (first | (go_at_call 74; refine (CK.out _).mono ?_; rintro e wa ⟨rfl, hba⟩; have hb1 := below_on BD.out hba) | (go_at_call 76; refine (CH.out _ _ (below_on E0.out hb1) (KS.out _ hb1).2.2).mono ?_; intro e wb hz; obtain ⟨rfl, hzb⟩ := hz.no he; have hb2 := below_on hb1 hzb; obtain ⟨q0, q1, q2, q3⟩ := (HRS.out.kept hb2).facts))
    all_goals
      go_wp2_with fail
      refine bodyPost_ret (v := .tuple #[.agg #[.int .i64 0, .slice none 0 0], .int .i64 er]) (by simp [results, Try.results32, go_sem, q0, q1]) rfl (zres_over0 E0.out hb2 he (by omega) _ _)
end Go.Proofs.Ytbnebinpemejlaa

namespace Go.Proofs.Ytbnebinpemejlaa
open Go.RowKit

def okZ (N : Int) (c : Con) : Bool := ckB N c.1 0 && (ckB N c.2.1 0 && lvB c.2.2)

theorem okZ_nat (n : Nat) (c : Con) : okZ n c = okC n c := by
  unfold okZ okC ckB
  cases lvB c.2.2
  · simp
  · rw [Bool.eq_iff_iff]; simp; omega

set_option maxRecDepth 100000 in
set_option maxHeartbeats 1000000 in
theorem and1_any (N I J L : Int) (v : Value) (pb : Nat) (w : World) (h0 : w.cell? ⟨pb, 0, none⟩ = some (.int .i64 N)) (h1 : w.cell? ⟨pb, 1, none⟩ = some v) :
    Calls Try.prog 73 #[.agg #[.int .i64 I, .int .i64 J, .int .i64 L], .pointer (some ⟨pb, 0, none⟩)] w (Made (.bool (!okZ N (I, J, L))) w) := by
  have C1 := Lib.hid (fun W => isClock_any N I 0 v W)
  have C2 := Lib.hid (fun W => isClock_any N J 0 v W)
  have C3 := Lib.hid (fun W => limValid_free L W)
  have HO := Lib.hid (show okZ N (I, J, L) = (ckB N I 0 && (ckB N J 0 && lvB L)) from rfl)
  generalize okZ N (I, J, L) = ok at *
  generalize ckB N I 0 = k1 at *
  generalize ckB N J 0 = k2 at *
  generalize lvB L = k3 at *
  obtain ⟨w0, hw0⟩ : ∃ w0, w0 = w.alloc (.cells #[.int .i64 I, .int .i64 J, .int .i64 L] 56) := ⟨_, rfl⟩
  have a0 : w0.cell? ⟨pb, 0, none⟩ = some (.int .i64 N) := by rw [hw0]; exact kept (one_more _) h0
  have a1 : w0.cell? ⟨pb, 1, none⟩ = some v := by rw [hw0]; exact kept (one_more _) h1
  have x0 : w0.cell? ⟨w.heap.size, 0, none⟩ = some (.int .i64 I) := by rw [hw0]; go_simp
  have x1 : w0.cell? ⟨w.heap.size, 1, none⟩ = some (.int .i64 J) := by rw [hw0]; go_simp
  have x2 : w0.cell? ⟨w.heap.size, 2, none⟩ = some (.int .i64 L) := by rw [hw0]; go_simp
  have E0 := Lib.hid (show Below w.heap.size w w0 by rw [hw0]; exact one_more _)
  have KS := Lib.hid (show ∀ w' : World, Below w0.heap.size w0 w' → (w'.cell? ⟨pb, 0, none⟩ = some (.int .i64 N) ∧ w'.cell? ⟨pb, 1, none⟩ = some v) ∧ w'.cell? ⟨w.heap.size, 0, none⟩ = some (.int .i64 I) ∧ w'.cell? ⟨w.heap.size, 1, none⟩ = some (.int .i64 J) ∧ w'.cell? ⟨w.heap.size, 2, none⟩ = some (.int .i64 L) from
    fun w' h => ⟨⟨kept h a0, kept h a1⟩, kept h x0, kept h x1, kept h x2⟩)
  have y0 : (w.alloc (.cells #[.int .i64 I, .int .i64 J, .int .i64 L] 56)).cell? ⟨pb, 0, none⟩ = some (.int .i64 N) := kept (one_more _) h0
  have y1 : (w.alloc (.cells #[.int .i64 I, .int .i64 J, .int .i64 L] 56)).cell? ⟨pb, 1, none⟩ = some v := kept (one_more _) h1
  clear h0 h1
  go_enter Try.func73, Try.ntmps73
  go_wp2_with fail
  rw [← hw0]
  clear hw0 y0 y1
  refine (C1.out _).mono ?_
  rintro e w1 ⟨rfl, hb1⟩
  clear a0 a1 x0 x1 x2
  obtain ⟨⟨a0, a1⟩, x0, x1, x2⟩ := KS.out _ hb1
  have B1 := Lib.hid hb1
  clear hb1
  cases k1
  · have HR := Lib.hid (show ok = false by rw [HO.out]; rfl)
    go_wp2_with fail
    go_ret
    exact ⟨ret_bool (by rw [HR.out]; rfl), below_on E0.out B1.out⟩
  · go_wp2_with fail
    refine (C2.out _).mono ?_
    rintro e w2 ⟨rfl, hb2⟩
    have B2 := Lib.hid (below_on B1.out hb2)
    clear hb2 a0 a1 x0 x1 x2
    obtain ⟨⟨a0, a1⟩, x0, x1, x2⟩ := KS.out _ B2.out
    cases k2
    · have HR := Lib.hid (show ok = false by rw [HO.out]; rfl)
      go_wp2_with fail
      go_ret
      exact ⟨ret_bool (by rw [HR.out]; rfl), below_on E0.out B2.out⟩
    · go_wp2_with fail
      refine (C3.out _).mono ?_
      rintro e w3 ⟨rfl, hw⟩
      rw [hw]; clear hw w3
      have HR := Lib.hid (show ok = k3 by rw [HO.out]; rfl)
      go_wp2_with fail
      go_ret
      exact ⟨ret_bool (by rw [HR.out]), below_on E0.out B2.out⟩

def aokB (N : Int) (cs : List Con) : Bool := cs.all (okZ N)

/-- The number of the first wrong constraint, or -1. -/
def Idx (N : Int) (cs : List Con) (w : World) (e : Ending) (w' : World) : Prop := ∃ r : Int, e = .returned (.int .i64 r) ∧ (decide (0 ≤ r) = !aokB N cs) ∧ Below w.heap.size w w'

set_option maxRecDepth 100000 in
set_option maxHeartbeats 4000000 in
theorem index_any (N : Int) (v : Value) (pb : Nat) (cs : List Con) (dao : Option Addr) (dc : Nat) (w : World) (hD : Arg3 w dao cs) (hdl : cs.length ≤ 1000) (h0 : w.cell? ⟨pb, 0, none⟩ = some (.int .i64 N)) (h1 : w.cell? ⟨pb, 1, none⟩ = some v) :
    Calls Try.prog 119 #[.slice dao cs.length dc, .func (.func 73) #[] #[.pointer (some ⟨pb, 0, none⟩)]] w (Idx N cs w) := by
  have hd : ∃ d, (cs ≠ [] → dao = some d) ∧ Rd3 w d cs := by
    by_cases he : cs = []
    · exact ⟨⟨0, 0, none⟩, fun h => absurd he h, by rw [he]; intro j hj; simp at hj⟩
    · obtain ⟨d, h2, h3⟩ := hD he
      exact ⟨d, fun _ => h2, h3⟩
  obtain ⟨d, hdo, hR⟩ := hd
  have HR := Lib.hid hR
  have C1 := Lib.hid (show ∀ (W : World) (c : Con), Below w.heap.size w W → Calls Try.prog 73 #[.agg #[.int .i64 c.1, .int .i64 c.2.1, .int .i64 c.2.2], .pointer (some ⟨pb, 0, none⟩)] W (Made (.bool (!okZ N c)) W) from fun W c h => and1_any N c.1 c.2.1 c.2.2 v pb W (kept h h0) (kept h h1))
  obtain ⟨len, hlen⟩ : ∃ len, len = cs.length := ⟨_, rfl⟩
  have HL := Lib.hid hlen
  have hz : ∀ t : Nat, t < len → dao = some d := fun t ht => hdo (by intro e; rw [e] at hlen; simp at hlen; omega)
  have hl2 : len ≤ 1000 := by omega
  rw [← hlen]
  clear hlen hR hD h0 h1 hdl hdo
  go_enter Try.func119, Try.ntmps119
  go_wp2_with fail
  go_loopw [8] (fun s wr => ∃ t : Nat, t ≤ len ∧ s = .int .i64 t ∧ Hid (∀ i, i < t → okZ N (gc cs i) = true) ∧ Hid (Below w.heap.size w wr)) (fun s _ => len - (intOf s).toNat)
  case atStart => exact ⟨0, by omega, rfl, Lib.hid (fun i hi => by omega), Lib.hid (Below.refl _ _)⟩
  case round =>
    obtain ⟨t, ht, rfl, HT, HB⟩ := hrel
    by_cases htn : t < len
    · obtain rfl := hz t htn
      obtain ⟨c0, c1, c2⟩ := (HR.out.on HB.out) t (by rw [← HL.out]; exact htn)
      obtain ⟨c, hc⟩ : ∃ c, c = gc cs t := ⟨_, rfl⟩
      rw [← hc] at c0 c1 c2
      have HC := Lib.hid hc
      have CC := C1.out
      have C2 := Lib.hid (fun W h => CC W c h)
      clear hc CC
      cases ho : okZ N c
      · rw [ho] at C2
        have HE := Lib.hid (show aokB N cs = false by
          unfold aokB
          rw [List.all_eq_false]
          have hlt : t < cs.length := by rw [← HL.out]; exact htn
          exact ⟨cs[t], List.getElem_mem hlt, by rw [show cs[t] = c by rw [HC.out]; simp [gc, hlt], ho]; simp⟩)
        clear ho
        go_wp2_with fail
        refine (C2.out _ HB.out).mono ?_
        rintro e w1 ⟨rfl, hb⟩
        have HB1 := Lib.hid (below_on HB.out hb)
        clear hb c0 c1 c2
        go_wp2_with fail
        go_ret
        exact ⟨t, rfl, by rw [HE.out]; simp, HB1.out⟩
      · rw [ho] at C2
        have HO := Lib.hid ho
        clear ho
        go_wp2_with fail
        refine (C2.out _ HB.out).mono ?_
        rintro e w1 ⟨rfl, hb⟩
        have HB1 := Lib.hid (below_on HB.out hb)
        clear hb c0 c1 c2
        go_wp2_with fail
        go_roundw
        case rel =>
          refine ⟨t + 1, by omega, by go_num, Lib.hid (fun i hi => ?_), HB1⟩
          by_cases e : i = t
          · rw [e, ← HC.out]; exact HO.out
          · exact HT.out i (by omega)
        case measure => simp [intOf]; omega
    · have HE := Lib.hid (show aokB N cs = true by
        unfold aokB
        rw [List.all_eq_true]
        intro x hx
        obtain ⟨i, hi, rfl⟩ := List.getElem_of_mem hx
        have := HT.out i (by have := HL.out; omega)
        simpa [gc, hi] using this)
      go_wp2_with fail
      go_ret
      exact ⟨-1, rfl, by rw [HE.out]; rfl, HB.out⟩

set_option maxRecDepth 100000 in
theorem contains_any (N : Int) (v : Value) (pb : Nat) (cs : List Con) (dao : Option Addr) (dc : Nat) (w : World) (hD : Arg3 w dao cs) (hdl : cs.length ≤ 1000) (h0 : w.cell? ⟨pb, 0, none⟩ = some (.int .i64 N)) (h1 : w.cell? ⟨pb, 1, none⟩ = some v) :
    Calls Try.prog 72 #[.slice dao cs.length dc, .func (.func 73) #[] #[.pointer (some ⟨pb, 0, none⟩)]] w (Made (.bool (!aokB N cs)) w) := by
  have CI := Lib.hid (index_any N v pb cs dao dc w hD hdl h0 h1)
  generalize cs.length = len at *
  clear hD h0 h1
  go_enter Try.func72, Try.ntmps72
  go_wp2_with fail
  refine CI.out.mono ?_
  rintro e w1 ⟨r, rfl, hr, hb⟩
  have HB := Lib.hid hb
  have HRR := Lib.hid hr
  clear hb hr
  go_wp2_with fail
  go_ret
  exact ⟨ret_bool HRR.out, HB.out⟩
end Go.Proofs.Ytbnebinpemejlaa

namespace Go.Proofs.Ytbnebinpemejlaa
open Go.RowKit

theorem MSt.alloc {w0 w : World} {b n : Nat} {l : List Int} (h : MSt w0 b n l w) (o : Obj) : MSt w0 b n l (w.alloc o) := ⟨h.1.alloc o, grown_trans h.2 (World.grownBy_alloc w o _)⟩

/-- What lay there ahead of the call of changed is there while its matrix turns. -/
theorem MSt.old {w0 w w' : World} {b n : Nat} {x : List Int} (hb : Below w0.heap.size w0 w) (hle : w0.heap.size ≤ b) (h : MSt w b n x w') {p : Addr} {v : Value} (hp : w0.cell? p = some v) : w'.cell? p = some v := by
  have hlt := World.block_lt_of_cell? w0 _ hp
  exact h.2.cell (kept hb hp) (by simp; omega)

theorem Rd3.mst {w0 w w' : World} {b n : Nat} {x : List Int} {d : Addr} {cs : List Con} (hR : Rd3 w0 d cs) (hb : Below w0.heap.size w0 w) (hle : w0.heap.size ≤ b) (h : MSt w b n x w') : Rd3 w' d cs :=
  fun j hj => ⟨h.old hb hle (hR j hj).1, h.old hb hle (hR j hj).2.1, h.old hb hle (hR j hj).2.2⟩

set_option maxRecDepth 100000 in
set_option maxHeartbeats 4000000 in
theorem and2_any (b n : Nat) (l : List Int) (cs : List Con) (dao : Option Addr) (dc : Nat) (lb : Addr) (w0 w : World) (hn : n ≤ 10) (hD : Arg3 w0 dao cs) (hdl : cs.length ≤ 1000) (hok : ∀ k, k < cs.length → okC n (gc cs k) = true)
    (hlb : w0.cell? lb = some (.slice dao cs.length dc)) (hb : Below w0.heap.size w0 w) (hle : w0.heap.size ≤ b) (h : Mx w b n l) :
    Calls Try.prog 77 #[.pointer (some ⟨b, 0, none⟩), .pointer (some lb)] w (Chg w b n (anL n cs l)) := by
  have hd : ∃ d, (cs ≠ [] → dao = some d) ∧ Rd3 w0 d cs := by
    by_cases he : cs = []
    · exact ⟨⟨0, 0, none⟩, fun h => absurd he h, by rw [he]; intro j hj; simp at hj⟩
    · obtain ⟨d, h2, h3⟩ := hD he
      exact ⟨d, fun _ => h2, h3⟩
  obtain ⟨d, hdo, hR⟩ := hd
  have KR := Lib.hid (show ∀ x w', MSt w b n x w' → Rd3 w' d cs from fun x w' hm => hR.mst hb hle hm)
  have HM := Lib.hid (show MSt w b n l w from ⟨h, World.grownBy.refl _ _⟩)
  have c0 : w.cell? lb = some (.slice dao cs.length dc) := kept hb hlb
  have HLL := Lib.hid h.2
  have OK := Lib.hid hok
  obtain ⟨len, hlen⟩ : ∃ len, len = cs.length := ⟨_, rfl⟩
  have HL := Lib.hid hlen
  have hz : ∀ t : Nat, t < len → dao = some d := fun t ht => hdo (by intro e; rw [e] at hlen; simp at hlen; omega)
  have hl2 : len ≤ 1000 := by omega
  rw [← hlen] at c0
  clear hlen hR hD hdl hdo hok hlb hb hle h
  go_enter Try.func77, Try.ntmps77
  go_wp2_with fail
  clear c0
  go_loopw [7] (fun s wr => ∃ (t : Nat) (x : List Int), t ≤ len ∧ s = .int .i64 t ∧ Hid (x.length = (n + 1) * (n + 1) ∧ x = (List.range t).foldl (anS n cs) l ∧ MSt w b n x wr)) (fun s _ => len - (intOf s).toNat)
  case atStart => exact ⟨0, l, by omega, rfl, Lib.hid ⟨HLL.out, rfl, HM.out⟩⟩
  case round =>
    obtain ⟨t, x, ht, rfl, HX⟩ := hrel
    by_cases htn : t < len
    · obtain rfl := hz t htn
      obtain ⟨c0, c1, c2⟩ := (KR.out _ _ HX.out.2.2) t (by rw [← HL.out]; exact htn)
      obtain ⟨c, hc⟩ : ∃ c, c = gc cs t := ⟨_, rfl⟩
      have hok := OK.out t (by rw [← HL.out]; exact htn)
      rw [← hc] at c0 c1 c2 hok
      have HC := Lib.hid hc
      unfold okC at hok
      simp only [Bool.and_eq_true, decide_eq_true_eq] at hok
      obtain ⟨⟨i1, i2, j1, j2⟩, _⟩ := hok
      obtain ⟨ci, cj, cl⟩ := c
      simp only at i1 i2 j1 j2 c0 c1 c2
      obtain ⟨i, rfl⟩ := Int.eq_ofNat_of_zero_le i1
      obtain ⟨j, rfl⟩ := Int.eq_ofNat_of_zero_le j1
      have TT := Lib.hid (fun (w' : World) (h : MSt w b n x w') => tighten_st (i := i) (j := j) cl hn (by omega) (by omega) h)
      have HS := Lib.hid (show anS n cs x t = x.set (Zo.ix n i j) (imin (Zo.At n x i j) cl) by unfold anS; rw [← HC.out]; rfl)
      clear hc
      go_wp2_with fail
      refine (TT.out _ (HX.out.2.2.alloc _)).mono ?_
      rintro e w1 ⟨rfl, hm⟩
      have HM1 := Lib.hid hm
      clear hm c0 c1 c2
      go_wp2_with fail
      go_roundw
      case rel => exact ⟨t + 1, _, by omega, by go_num, Lib.hid ⟨by simpa using HX.out.1, by rw [Zo.fold_succ, ← HX.out.2.1, HS.out], HM1.out⟩⟩
      case measure => simp [intOf]; omega
    · have HE := Lib.hid (show x = anL n cs l by rw [HX.out.2.1]; unfold anL; rw [← HL.out, show t = len by omega])
      go_wp2_with fail
      go_end0
      exact ⟨rfl, by rw [← HE.out]; exact HX.out.2.2⟩

theorem enter_an (args : Array Value) (W : World) : (callFunc 77 args).run Try.prog W = .ok (.enter 77 args) W := by go_simp

theorem aok_nat {n : Nat} {cs : List Con} : aokB n cs = cs.all (okC n) := by
  unfold aokB; congr 1; funext c; exact okZ_nat n c

theorem anL_64 {n : Nat} {cs : List Con} {l : List Int} (h : Zo.A64 l) (hok : cs.all (okC n) = true) : Zo.A64 (anL n cs l) := by
  unfold anL
  refine Zo.fold_keeps (R := Zo.A64) cs.length (fun x t ht hx => ?_) l h _ (Nat.le_refl _)
  unfold anS imin
  refine hx.min_ _ _ _ _ ?_ _
  rw [List.all_eq_true] at hok
  have := hok _ (List.getElem_mem ht)
  rw [show cs[t] = gc cs t by simp [gc, ht]] at this
  unfold okC at this
  simp only [Bool.and_eq_true] at this
  have := vl_of_lv this.2
  unfold Zo.Vl at this
  omega

theorem ch_an (N : Int) (l : List Int) (ao : Option Addr) (cap : Nat) (cs : List Con) (dao : Option Addr) (dc : Nat) (lb : Addr) (w : World) (hA : Arg w ao l) (hD : Arg3 w dao cs) (hdl : cs.length ≤ 1000) (hlb : w.cell? lb = some (.slice dao cs.length dc)) :
    Calls Try.prog 76 #[.agg #[.int .i64 N, .slice ao l.length cap], .bool (aokB N cs), .func (.func 77) #[] #[.pointer (some lb)]] w (ZRes w N (Zo.clo N.toNat (anL N.toNat cs l)) (anG N cs l)) := by
  by_cases hc : chkE N l = 0
  · obtain ⟨n, rfl, hn, hl, hne⟩ := chk_ok hc
    cases hk : aokB n cs
    · refine (changed_bad n l ao cap false _ w hA (Or.inr rfl)).mono fun e w' h => h.bad ?_
      unfold anG anE; rw [if_pos hc]
      rw [aok_nat] at hk
      simp only [Int.toNat_natCast]
      rw [hk]; rfl
    · have hk2 := hk
      rw [aok_nat] at hk2
      have := changed_ok n l (anL n cs l) ao cap 77 #[.pointer (some lb)] w hA hn hl hc (anL_64 (chk_64 hc).1 hk2) enter_an (fun W b hb hle hM => and2_any b n l cs dao dc lb w W hn hD hdl (fun k hk' => by
        rw [List.all_eq_true] at hk2
        have := hk2 _ (List.getElem_mem hk')
        rwa [show cs[k] = gc cs k by simp [gc, hk']] at this) hlb hb hle hM)
      rw [show anG (n : Int) cs l = cloE n (anL n cs l) by unfold anG anE; rw [if_pos hc]; simp only [Int.toNat_natCast]; rw [hk2]; rfl]
      exact this
  · refine (changed_bad N l ao cap _ _ w hA (Or.inl (by unfold okB; simpa using hc))).mono fun e w' h => h.bad ?_
    unfold anG; rw [if_neg hc]

set_option maxRecDepth 100000 in
set_option maxHeartbeats 4000000 in
theorem zan_gen (N : Int) (l : List Int) (ao : Option Addr) (cap : Nat) (cs : List Con) (dao : Option Addr) (dc : Nat) (w : World) (hA : Arg w ao l) (hD : Arg3 w dao cs) (hdl : cs.length ≤ 1000) :
    Calls Try.prog 24 #[.agg #[.int .i64 N, .slice ao l.length cap], .slice dao cs.length dc] w (ZRes w N (Zo.clo N.toNat (anL N.toNat cs l)) (anG N cs l)) := by
  have CH := Lib.hid (show ∀ W lb, Below w.heap.size w W → W.cell? lb = some (.slice dao cs.length dc) → _ from fun W lb h hp => ch_an N l ao cap cs dao dc lb W (hA.on h) (hD.on h) hdl hp)
  have CT := Lib.hid (show ∀ W pb, Below w.heap.size w W → W.cell? ⟨pb, 0, none⟩ = some (.int .i64 N) → W.cell? ⟨pb, 1, none⟩ = some (.slice ao l.length cap) → _ from fun W pb h hp hq => contains_any N (.slice ao l.length cap) pb cs dao dc W (hD.on h) hdl hp hq)
  generalize Zo.clo N.toNat (anL N.toNat cs l) = r at *
  generalize anG N cs l = er at *
  generalize aokB N cs = ck at *
  generalize l.length = len at *
  generalize cs.length = clen at *
  obtain ⟨w0, hw0⟩ : ∃ w0, w0 = ((w.alloc (.cells #[.int .i64 N, .slice ao len cap] 25)).alloc (.cells #[.slice dao clen dc] 35)).alloc (.cells #[.int .i64 0, .slice none 0 0] 25) := ⟨_, rfl⟩
  have b0 : w0.cell? ⟨w.heap.size, 0, none⟩ = some (.int .i64 N) := by rw [hw0]; go_simp
  have b1 : w0.cell? ⟨w.heap.size, 1, none⟩ = some (.slice ao len cap) := by rw [hw0]; go_simp
  have b2 : w0.cell? ⟨w.heap.size + 1, 0, none⟩ = some (.slice dao clen dc) := by rw [hw0]; go_simp
  have rs : Two w0 (w.heap.size + 1 + 1) (.int .i64 0) (.slice none 0 0) := by
    rw [hw0]
    have := Two.made ((w.alloc (.cells #[.int .i64 N, .slice ao len cap] 25)).alloc (.cells #[.slice dao clen dc] 35)) (.int .i64 0) (.slice none 0 0) 25
    simpa using this
  have z0 : w0.heap.size = w.heap.size + 3 := by rw [hw0]; simp
  have E0 := Lib.hid (show Below w.heap.size w w0 by rw [hw0]; exact past_three (Below.refl _ _))
  have KS := Lib.hid (show ∀ w' : World, Below w0.heap.size w0 w' → w'.cell? ⟨w.heap.size, 0, none⟩ = some (.int .i64 N) ∧ w'.cell? ⟨w.heap.size, 1, none⟩ = some (.slice ao len cap) ∧ w'.cell? ⟨w.heap.size + 1, 0, none⟩ = some (.slice dao clen dc) from fun w' h => ⟨kept h b0, kept h b1, kept h b2⟩)
  have HRS := Lib.hid rs
  clear hA hD hdl rs
  go_enter Try.func24, Try.ntmps24
  go_wp2_with fail
  rw [← hw0]
  clear hw0
  refine (CT.out _ _ E0.out b0 b1).mono ?_
  rintro e w1 ⟨rfl, hb1⟩
  clear b0 b1 b2
  obtain ⟨b0, b1, b2⟩ := KS.out _ hb1
  have B1 := Lib.hid hb1
  clear hb1
  go_wp2_with fail
  refine (CH.out _ _ (below_on E0.out B1.out) b2).mono ?_
  intro e w4 hG
  obtain ⟨hb4, hres⟩ := hG
  have HB4 := Lib.hid (below_on B1.out hb4)
  obtain ⟨q0, q1, q2, q3⟩ := (HRS.out.kept HB4.out).facts
  have h1s := B1.out.size
  clear b0 b1 b2
  rcases hres with ⟨he, g, c, rfl, hgl, hO⟩ | ⟨he, rfl⟩
  · have HO := Lib.hid hO
    subst he
    clear hO hb4
    go_wp2_with fail
    refine bodyPost_ret (v := .tuple #[.agg #[.int .i64 N, .slice (some ⟨g, 0, none⟩) r.length c], .int .i64 0]) (by simp [results, Try.results24, go_sem, q0, q1]) rfl (zres_over E0.out HB4.out HO.out (by omega) (by omega) (by omega) _ _)
  · have HEE := Lib.hid he
    clear he hb4
    go_wp2_with fail
    refine bodyPost_ret (v := .tuple #[.agg #[.int .i64 0, .slice none 0 0], .int .i64 er]) (by simp [results, Try.results24, go_sem, q0, q1]) rfl (zres_over0 E0.out HB4.out HEE.out (by omega) _ _)
end Go.Proofs.Ytbnebinpemejlaa

namespace Go.Proofs.Ytbnebinpemejlaa.Zo

theorem le_dec {a b : Int} (ha : a ≤ 1099511627776) (hb : b ≤ 1099511627776) : le (dec a) (dec b) ↔ a ≤ b := by
  unfold dec
  by_cases h1 : a = 1099511627776
  · by_cases h2 : b = 1099511627776
    · simp [h1, h2, le]
    · rw [if_pos h1, if_neg h2]; simp [le]; omega
  · by_cases h2 : b = 1099511627776
    · rw [if_neg h1, if_pos h2]; simp [le]; omega
    · rw [if_neg h1, if_neg h2]; simp [le]

/-- A closed matrix: it keeps to the inequality of triangles, and its diagonal is 'at most 0'. -/
structure Cl (n : Nat) (c : List Int) (D : Nat → Nat → Lm) : Prop where
  rep : Rep n c D
  tri : Tri (n + 1) D
  bd : Bd D
  dg : ∀ k, k ≤ n → D k k = some 1
  row : ∀ a, a ≤ n → At n c 0 a ≤ 1

theorem Cl.top {n : Nat} {c : List Int} {D : Nat → Nat → Lm} (h : Cl n c D) {a b : Nat} (ha : a ≤ n) (hb : b ≤ n) : At n c a b ≤ 1099511627776 := by
  rw [h.rep.2 a b ha hb]
  cases e : D a b with
  | none => simp [enc]
  | some x => have := h.bd a b x e; simp [enc]; omega

theorem Cl.dec {n : Nat} {c : List Int} {D : Nat → Nat → Lm} (h : Cl n c D) {a b : Nat} (ha : a ≤ n) (hb : b ≤ n) : D a b = dec (At n c a b) := by
  rw [h.rep.2 a b ha hb]
  cases e : D a b with
  | none => simp [enc, Zo.dec]
  | some x =>
    have := h.bd a b x e
    show some x = Zo.dec x
    unfold Zo.dec
    rw [if_neg (by omega)]

theorem Cl.one {n : Nat} {c : List Int} {D : Nat → Nat → Lm} (h : Cl n c D) {a : Nat} (ha : a ≤ n) : At n c a a = 1 := by
  rw [h.rep.2 a a ha ha, h.dg a ha]; rfl

theorem clo_lows {n : Nat} {l : List Int} (hl : l.length = (n + 1) * (n + 1)) : ∀ a, a ≤ n → At n (clo n l) a a ≤ 1 ∧ At n (clo n l) 0 a ≤ 1 := by
  intro a ha
  have h := pre_low hl a ha
  have b1 := clo_below hl (k := 0) (i := 0) (by omega) (by omega) ha ha
  have b2 := clo_below hl (k := 0) (i := 0) (by omega) (by omega) (show 0 ≤ n by omega) ha
  have e : (List.range 0).foldl (rlxJ n 0) (rnd n l 0) = pre n l := rfl
  rw [e] at b1 b2
  exact ⟨Int.le_trans b1 h.1, Int.le_trans b2 h.2⟩

theorem Cl.of {n : Nat} {l : List Int} (hn : n ≤ 10) (hl : l.length = (n + 1) * (n + 1)) (hv : ∀ a b, a ≤ n → b ≤ n → Wl (At n l a b)) (hd : ∀ i, i ≤ n → 1 ≤ At n (clo n l) i i) : Cl n (clo n l) (fw (mat n l) (n + 1)) := by
  obtain ⟨h1, h2, h3, h4⟩ := fw_bd hn hl hv hd
  exact ⟨h1, h2, h3, h4, fun a ha => (clo_lows hl a ha).2⟩

/-- What lies below a matrix and is closed lies below its closing, which has no short cycle. -/
theorem clo_over {n : Nat} {l c : List Int} {C : Nat → Nat → Lm} (hn : n ≤ 10) (hl : l.length = (n + 1) * (n + 1)) (hv : ∀ a b, a ≤ n → b ≤ n → Wl (At n l a b)) (hC : Cl n c C) (h : ∀ a b, a ≤ n → b ≤ n → At n c a b ≤ At n l a b) :
    (∀ i, i ≤ n → 1 ≤ At n (clo n l) i i) ∧ ∀ a b, a ≤ n → b ≤ n → At n c a b ≤ At n (clo n l) a b := by
  have pv := pre_wl hl hv
  have hp : ∀ a b, a ≤ n → b ≤ n → At n c a b ≤ At n (pre n l) a b := by
    intro a b ha hb
    rw [pre_at hl ha hb]
    have := h a b ha hb
    by_cases e : a = 0 ∨ a = b
    · rw [if_pos e]
      have h1 : At n c a b ≤ 1 := by
        rcases e with rfl | rfl
        · exact hC.row b hb
        · rw [hC.one ha]; omega
      omega
    · rw [if_neg e]; exact this
  have hle : ∀ a b, le (C a b) (mat n l a b) := by
    intro a b
    unfold mat
    by_cases e : a ≤ n ∧ b ≤ n
    · rw [if_pos e, hC.dec e.1 e.2, le_dec (hC.top e.1 e.2) (by have := pv a b e.1 e.2; unfold Wl at this; omega)]
      exact hp a b e.1 e.2
    · rw [if_neg e]; exact le_none _
  have below := below_fw hC.tri hle
  have hm : ∀ i j x, mat n l i j = some x → x ≤ 4294967297 ∧ -4294967297 + 1 ≤ x := by
    intro i j x h
    unfold mat at h
    split at h
    · rename_i c
      have := pv i j c.1 c.2
      unfold Zo.dec at h
      unfold Wl at this
      split at h
      · simp at h
      · simp at h; omega
    · simp at h
  have dg : ∀ t, t ≤ n + 1 → ∀ k, k ≤ n → fw (mat n l) t k k = some 1 := by
    intro t ht k hk
    have h1 := below t ht k k
    rw [hC.dg k hk] at h1
    have h2 := fw_le_m (mat n l) t k k
    have h3 : le (mat n l k k) (some 1) := by
      unfold mat
      rw [if_pos ⟨hk, hk⟩, show (some (1 : Int) : Lm) = Zo.dec 1 from rfl, le_dec (by have := pv k k hk hk; unfold Wl at this; omega) (by omega)]
      exact (pre_low hl k hk).1
    exact le_antisymm (le_trans h2 h3) h1
  have rep : ∀ t, t ≤ n + 1 → Rep n (rnd n l t) (fw (mat n l) t) := by
    intro t
    induction t with
    | zero =>
      intro _
      refine ⟨rnd_length hl 0 (by omega), fun a b ha hb => ?_⟩
      show At n (pre n l) a b = enc (mat n l a b)
      unfold mat
      rw [if_pos ⟨ha, hb⟩, enc_dec]
    | succ t ih =>
      intro ht
      have hr := ih (by omega)
      have hdg : ∀ k, k < t → fw (mat n l) k k k = some 1 := fun k hk => dg k (by omega) k (by omega)
      have hB : Bd (fw (mat n l) t) := by
        intro i j x h
        constructor
        · have := fw_low (c := 4294967297) (by omega) (fun i j x h => (hm i j x h).2) t i j x h
          have p : (2 : Int) ^ t ≤ 2 ^ 11 := by
            have : (2 : Nat) ^ t ≤ 2 ^ 11 := Nat.pow_le_pow_right (by omega) (by omega)
            exact_mod_cast this
          omega
        · obtain ⟨S, _, hx⟩ := fw_bound (U := 4294967297) (fun i j x h => (hm i j x h).1) t hdg i j x h
          have := cnt_le S t
          omega
      rw [rnd_succ]
      exact round_rep hB (dg t (by omega) t (by omega)) (by omega) hr
  have hr := rep (n + 1) (Nat.le_refl _)
  have hd : ∀ i, i ≤ n → 1 ≤ At n (clo n l) i i := by
    intro i hi
    rw [show clo n l = rnd n l (n + 1) from rfl, hr.2 i i hi hi, dg (n + 1) (Nat.le_refl _) i hi]
    simp [enc]
  refine ⟨hd, fun a b ha hb => ?_⟩
  have hc2 := Cl.of hn hl hv hd
  have h1 := below (n + 1) (Nat.le_refl _) a b
  rw [hC.dec ha hb, hc2.dec ha hb, le_dec (hC.top ha hb) (hc2.top ha hb)] at h1
  exact h1

/-- One matrix is below another one. -/
def Le (n : Nat) (c l : List Int) : Prop := ∀ a b, a ≤ n → b ≤ n → At n c a b ≤ At n l a b

theorem Le.trans {n : Nat} {a b c : List Int} (h : Le n a b) (g : Le n b c) : Le n a c := fun i j hi hj => Int.le_trans (h i j hi hj) (g i j hi hj)

theorem Le.anti {n : Nat} {x y : List Int} (hx : x.length = (n + 1) * (n + 1)) (hy : y.length = (n + 1) * (n + 1)) (h : Le n x y) (g : Le n y x) : x = y :=
  At_ext hx hy fun a b ha hb => Int.le_antisymm (h a b ha hb) (g a b ha hb)

theorem le_clo {n : Nat} {l : List Int} (hl : l.length = (n + 1) * (n + 1)) : Le n (clo n l) l := by
  intro a b ha hb
  have b1 := clo_below hl (k := 0) (i := 0) (by omega) (by omega) ha hb
  have e : (List.range 0).foldl (rlxJ n 0) (rnd n l 0) = pre n l := rfl
  rw [e, pre_at hl ha hb] at b1
  split at b1 <;> omega

/-- Closed, tightened and closed again: the same as tightened and closed. T: what tightens. -/
theorem clo_twice {n : Nat} {x : List Int} {T : List Int → List Int} (hn : n ≤ 10) (hx : x.length = (n + 1) * (n + 1)) (hvx : ∀ a b, a ≤ n → b ≤ n → Wl (At n x a b)) (hTl : ∀ u : List Int, (T u).length = u.length)
    (hTle : ∀ u : List Int, u.length = (n + 1) * (n + 1) → Le n (T u) u) (hT : ∀ u v c : List Int, u.length = (n + 1) * (n + 1) → v.length = (n + 1) * (n + 1) → Le n c u → Le n c (T v) → Le n c (T u))
    (hv1 : ∀ a b, a ≤ n → b ≤ n → Wl (At n (T x) a b)) (hv2 : ∀ a b, a ≤ n → b ≤ n → Wl (At n (T (clo n x)) a b)) :
    ((∀ i, i ≤ n → 1 ≤ At n (clo n (T x)) i i) ↔ ∀ i, i ≤ n → 1 ≤ At n (clo n (T (clo n x))) i i) ∧ ((∀ i, i ≤ n → 1 ≤ At n (clo n (T x)) i i) → clo n (T x) = clo n (T (clo n x))) := by
  have lx : (clo n x).length = (n + 1) * (n + 1) := by rw [clo_length, hx]
  have l1 : (T x).length = (n + 1) * (n + 1) := by rw [hTl, hx]
  have l2 : (T (clo n x)).length = (n + 1) * (n + 1) := by rw [hTl, lx]
  -- from the tightened one to the one that was closed first
  have A : (∀ i, i ≤ n → 1 ≤ At n (clo n (T x)) i i) → (∀ i, i ≤ n → 1 ≤ At n (clo n (T (clo n x))) i i) ∧ Le n (clo n (T x)) (clo n (T (clo n x))) := by
    intro hd
    have c := Cl.of hn l1 hv1 hd
    have g1 : Le n (clo n (T x)) x := (le_clo l1).trans (hTle x hx)
    have g2 : Le n (clo n (T x)) (clo n x) := (clo_over hn hx hvx c g1).2
    exact clo_over hn l2 hv2 c (hT _ x _ lx hx g2 (le_clo l1))
  have B : (∀ i, i ≤ n → 1 ≤ At n (clo n (T (clo n x))) i i) → (∀ i, i ≤ n → 1 ≤ At n (clo n (T x)) i i) ∧ Le n (clo n (T (clo n x))) (clo n (T x)) := by
    intro hd
    have c := Cl.of hn l2 hv2 hd
    have g1 : Le n (clo n (T (clo n x))) x := ((le_clo l2).trans (hTle _ lx)).trans (le_clo hx)
    exact clo_over hn l1 hv1 c (hT x _ _ hx lx g1 (le_clo l2))
  refine ⟨⟨fun h => (A h).1, fun h => (B h).1⟩, fun h => ?_⟩
  obtain ⟨h1, h2⟩ := A h
  exact Le.anti (by rw [clo_length, l1]) (by rw [clo_length, l2]) h2 (B h1).2
end Go.Proofs.Ytbnebinpemejlaa.Zo

namespace Go.Proofs.Ytbnebinpemejlaa
open Go.RowKit

theorem wl_of {n : Nat} {l : List Int} (hl : l.length = (n + 1) * (n + 1)) (hv : rdL l = true) : ∀ a b, a ≤ n → b ≤ n → Zo.Wl (Zo.At n l a b) := fun a b ha hb => (vl_of hl hv a b ha hb).wl

theorem cloB_iff {n : Nat} {l : List Int} : cloB n l = false ↔ ∀ i, i ≤ n → 1 ≤ Zo.At n (Zo.clo n l) i i :=
  ⟨diag_of, fun h => cloB_no fun i hi => by have := h i (by omega); omega⟩

theorem cloE_zero {n : Nat} {l : List Int} : cloE n l = 0 ↔ cloB n l = false ∧ rdL (Zo.clo n l) = true := by
  unfold cloE rdL
  cases cloB n l <;> cases (Zo.clo n l).all lvB <;> simp

/-- What is closed without an error is a valid zone. -/
theorem clo_chk {n : Nat} {l : List Int} (hn : n ≤ 10) (hl : l.length = (n + 1) * (n + 1)) (hv : ∀ a b, a ≤ n → b ≤ n → Zo.Wl (Zo.At n l a b)) (h : cloE n l = 0) : chkE n (Zo.clo n l) = 0 := by
  obtain ⟨hB, hr⟩ := cloE_zero.1 h
  have hd := diag_of hB
  have lo := Zo.clo_lows hl
  have hcl : (Zo.clo n l).length = (n + 1) * (n + 1) := by rw [Zo.clo_length, hl]
  have tr := Zo.clo_sums hn hl hv hd
  refine chkE_ok hn hcl (fun i hi j hj => ?_) (fun i hi j hj k hk => ?_)
  · unfold okI
    rw [lv_of_all hcl hr i j (by omega) (by omega)]
    simp only [Bool.true_and, Bool.and_eq_true, Bool.or_eq_true, decide_eq_true_eq]
    constructor
    · by_cases c : i = j
      · right
        subst c
        have := hd i (by omega)
        have := (lo i (by omega)).1
        omega
      · exact Or.inl c
    · by_cases c : i = 0
      · right
        subst c
        exact (lo j (by omega)).2
      · exact Or.inl c
  · unfold okT
    simpa using tr i j k (by omega) (by omega) (by omega)

theorem chk_tri {n : Nat} {l : List Int} (h : chkE n l = 0) : ∀ i j k, i ≤ n → j ≤ n → k ≤ n → Zo.At n l i j ≤ Zo.smW (Zo.At n l i k) (Zo.At n l k j) := by
  have hc : chkB n l = true := by
    unfold chkE at h
    cases e : chkB n l
    · rw [e] at h; simp at h
    · rfl
  unfold chkB at hc
  simp only [Bool.and_eq_true, Int.toNat_natCast] at hc
  have h2 := chk2_iff.1 hc.2
  intro i j k hi hj hk
  have := h2 i (by omega) j (by omega) k (by omega)
  unfold okT at this
  simpa using this

theorem chk_cl {n : Nat} {l : List Int} (hn : n ≤ 10) (hl : l.length = (n + 1) * (n + 1)) (h : chkE n l = 0) : ∃ D, Zo.Cl n l D := by
  have hv := (chk_64 h).2
  obtain ⟨hB, e⟩ := (chk_iff hn hl hv).1 h
  have := Zo.Cl.of hn hl (wl_of hl hv) (diag_of hB)
  rw [e] at this
  exact ⟨_, this⟩

/-- A matrix from its elements. -/
def mk (n : Nat) (G : Nat → Nat → Int) : List Int := (List.range ((n + 1) * (n + 1))).map fun k => G (k / (n + 1)) (k % (n + 1))

theorem mk_len (n : Nat) (G : Nat → Nat → Int) : (mk n G).length = (n + 1) * (n + 1) := by simp [mk]

theorem mk_at {n : Nat} (G : Nat → Nat → Int) {a b : Nat} (ha : a ≤ n) (hb : b ≤ n) : Zo.At n (mk n G) a b = G a b := by
  have h := Zo.ix_lt ha hb
  unfold Zo.At Zo.gt mk
  simp only [List.getD_eq_getElem?_getD, List.getElem?_map, List.getElem?_range h, Option.map_some, Option.getD_some]
  unfold Zo.ix
  have h1 : (a * (n + 1) + b) / (n + 1) = a := by
    rw [Nat.mul_comm, Nat.mul_add_div (by omega), Nat.div_eq_of_lt (by omega)]; rfl
  have h2 : (a * (n + 1) + b) % (n + 1) = b := by
    rw [Nat.mul_comm, Nat.mul_add_mod, Nat.mod_eq_of_lt (by omega)]
  rw [h1, h2]

theorem smW_no (a : Int) : Zo.smW a 1099511627776 = 1099511627776 := by unfold Zo.smW; rw [if_pos (Or.inr rfl)]

theorem no_smW (a : Int) : Zo.smW 1099511627776 a = 1099511627776 := by unfold Zo.smW; rw [if_pos (Or.inl rfl)]

def frG (n i : Nat) (l : List Int) (a b : Nat) : Int := if b = i then (if a = i then 1 else Zo.At n l a 0) else if a = i then 1099511627776 else Zo.At n l a b

theorem vl_top {x : Int} (h : Zo.Vl x) : x ≤ 1099511627776 := by unfold Zo.Vl at h; omega

theorem vl_one {x : Int} (h : Zo.Vl x) : Zo.smW x 1 = x := Zo.smW_one (by unfold Zo.Vl at h; omega) (by unfold Zo.Vl at h; omega)

theorem frG_ii {n i a b : Nat} {l : List Int} (ha : a = i) (hb : b = i) : frG n i l a b = 1 := by unfold frG; rw [if_pos hb, if_pos ha]

theorem frG_ai {n i a b : Nat} {l : List Int} (ha : ¬ a = i) (hb : b = i) : frG n i l a b = Zo.At n l a 0 := by unfold frG; rw [if_pos hb, if_neg ha]

theorem frG_ib {n i a b : Nat} {l : List Int} (ha : a = i) (hb : ¬ b = i) : frG n i l a b = 1099511627776 := by unfold frG; rw [if_neg hb, if_pos ha]

theorem frG_ab {n i a b : Nat} {l : List Int} (ha : ¬ a = i) (hb : ¬ b = i) : frG n i l a b = Zo.At n l a b := by unfold frG; rw [if_neg hb, if_neg ha]

theorem frG_chk {n i : Nat} {l : List Int} (hn : n ≤ 10) (hl : l.length = (n + 1) * (n + 1)) (hc : chkE n l = 0) (h1 : 1 ≤ i) : chkE n (mk n (frG n i l)) = 0 := by
  have hv := (chk_64 hc).2
  have vl := vl_of hl hv
  have lv := lv_of_all hl hv
  obtain ⟨dg, r0⟩ := chk_diag hc
  have tr := chk_tri hc
  refine chkE_ok hn (mk_len _ _) (fun a ha b hb => ?_) (fun a ha b hb k hk => ?_)
  · unfold okI
    rw [mk_at _ (by omega) (by omega)]
    unfold frG
    simp only [Bool.and_eq_true, Bool.or_eq_true, decide_eq_true_eq]
    by_cases cb : b = i
    · rw [if_pos cb]
      by_cases ca : a = i
      · rw [if_pos ca]; exact ⟨⟨by decide, Or.inr rfl⟩, Or.inr (by omega)⟩
      · rw [if_neg ca]
        refine ⟨⟨lv a 0 (by omega) (by omega), Or.inl (by omega)⟩, ?_⟩
        by_cases c : a = 0
        · right; subst c; rw [dg 0 (by omega)]; omega
        · exact Or.inl c
    · rw [if_neg cb]
      by_cases ca : a = i
      · rw [if_pos ca]; exact ⟨⟨by decide, Or.inl (by omega)⟩, Or.inl (by omega)⟩
      · rw [if_neg ca]
        refine ⟨⟨lv a b (by omega) (by omega), ?_⟩, ?_⟩
        · by_cases c : a = b
          · right; subst c; exact dg a (by omega)
          · exact Or.inl c
        · by_cases c : a = 0
          · right; subst c; exact r0 b (by omega)
          · exact Or.inl c
  · unfold okT
    rw [mk_at _ (by omega) (by omega), mk_at _ (by omega) (by omega), mk_at _ (by omega) (by omega), decide_eq_true_eq]
    by_cases ca : a = i
    · by_cases cb : b = i
      · rw [frG_ii ca cb]
        by_cases ck : k = i
        · rw [frG_ii ca ck, frG_ii ck cb]; decide
        · rw [frG_ib ca ck, no_smW]; omega
      · rw [frG_ib ca cb]
        by_cases ck : k = i
        · rw [frG_ii ca ck, frG_ib ck cb, smW_no]; omega
        · rw [frG_ib ca ck, no_smW]; omega
    · by_cases cb : b = i
      · rw [frG_ai ca cb]
        by_cases ck : k = i
        · rw [frG_ai ca ck, frG_ii ck cb, vl_one (vl a 0 (by omega) (by omega))]; omega
        · rw [frG_ab ca ck, frG_ai ck cb]
          exact tr a 0 k (by omega) (by omega) (by omega)
      · rw [frG_ab ca cb]
        by_cases ck : k = i
        · rw [frG_ai ca ck, frG_ib ck cb, smW_no]; exact vl_top (vl a b (by omega) (by omega))
        · rw [frG_ab ca ck, frG_ab ck cb]
          exact tr a b k (by omega) (by omega) (by omega)

/-- What Free makes of a zone: never an error. -/
theorem fr_zone {n i : Nat} {l : List Int} (hn : n ≤ 10) (hl : l.length = (n + 1) * (n + 1)) (hc : chkE n l = 0) (h1 : 1 ≤ i) (hi : i ≤ n) :
    Zo.clo n (frL n i l) = mk n (frG n i l) ∧ cloE n (frL n i l) = 0 := by
  have hv := (chk_64 hc).2
  have vl := vl_of hl hv
  obtain ⟨dg, r0⟩ := chk_diag hc
  have hg := frG_chk hn hl hc h1
  obtain ⟨D, hD⟩ := chk_cl hn (mk_len _ _) hg
  have lf : (frL n i l).length = (n + 1) * (n + 1) := by rw [frL_len, hl]
  have fv : ∀ a b, a ≤ n → b ≤ n → Zo.Wl (Zo.At n (frL n i l) a b) := by
    intro a b ha hb
    rw [frL_at hl hi ha hb]
    split
    · exact Or.inl rfl
    · exact (vl a b ha hb).wl
  have hle : Zo.Le n (mk n (frG n i l)) (frL n i l) := by
    intro a b ha hb
    rw [mk_at _ ha hb, frL_at hl hi ha hb]
    by_cases ca : a = i
    · by_cases cb : b = i
      · rw [frG_ii ca cb, if_neg (by omega), ca, cb, dg i hi]; omega
      · rw [frG_ib ca cb, if_pos (by omega)]; omega
    · by_cases cb : b = i
      · rw [frG_ai ca cb, if_pos (by omega)]; exact vl_top (vl a 0 ha (by omega))
      · rw [frG_ab ca cb, if_neg (by omega)]; omega
  obtain ⟨hd, hov⟩ := Zo.clo_over hn lf fv hD hle
  have hcl := Zo.le_clo lf
  have tr := Zo.clo_sums hn lf fv hd
  have lo := Zo.clo_lows lf
  have same : ∀ a b, a ≤ n → b ≤ n → a ≠ i → b ≠ i → Zo.At n (Zo.clo n (frL n i l)) a b = Zo.At n l a b := by
    intro a b ha hb ca cb
    have h2 := hov a b ha hb
    have h3 := hcl a b ha hb
    rw [mk_at _ ha hb, frG_ab ca cb] at h2
    rw [frL_at hl hi ha hb, if_neg (by omega)] at h3
    omega
  have e : Zo.clo n (frL n i l) = mk n (frG n i l) := by
    refine Zo.Le.anti (by rw [Zo.clo_length, lf]) (mk_len _ _) ?_ hov
    intro a b ha hb
    rw [mk_at _ ha hb]
    by_cases ca : a = i
    · by_cases cb : b = i
      · rw [frG_ii ca cb, ca, cb]; exact (lo i hi).1
      · rw [frG_ib ca cb]
        have := hcl a b ha hb
        rw [frL_at hl hi ha hb, if_pos (by omega)] at this
        exact this
    · by_cases cb : b = i
      · rw [frG_ai ca cb, cb]
        have h2 := tr a i 0 ha hi (by omega)
        have h4 := hov 0 i (by omega) hi
        rw [mk_at _ (by omega) hi, frG_ai (by omega) rfl, dg 0 (by omega)] at h4
        have h5 := (lo i hi).2
        rw [show Zo.At n (Zo.clo n (frL n i l)) 0 i = 1 by omega, same a 0 ha (by omega) ca (by omega), vl_one (vl a 0 ha (by omega))] at h2
        exact h2
      · rw [frG_ab ca cb, same a b ha hb ca cb]; omega
  refine ⟨e, cloE_zero.2 ⟨cloB_iff.2 hd, ?_⟩⟩
  rw [e]
  exact (chk_64 hg).2
end Go.Proofs.Ytbnebinpemejlaa

namespace Go.Proofs.Ytbnebinpemejlaa
open Go.RowKit

/-- The cells of ratios. -/
def qV (ps : List Pq) : List Value := ps.flatMap fun p => [.int .i64 p.1, .int .i64 p.2]

theorem qV_len (ps : List Pq) : (qV ps).length = ps.length * 2 := by
  unfold qV; rw [List.length_flatMap]
  induction ps with
  | nil => rfl
  | cons c cs ih => simp only [List.map_cons, List.sum_cons, List.length_cons] at ih ⊢; rw [ih]; simp; omega

theorem qV_app (ps : List Pq) (x y : Int) : qV (ps ++ [(x, y)]) = qV ps ++ [.int .i64 x, .int .i64 y] := by unfold qV; rw [List.flatMap_append]; rfl

theorem qV_at (ps : List Pq) (k : Nat) (hk : k < ps.length) : (qV ps)[k * 2]? = some (.int .i64 (gp ps k).1) ∧ (qV ps)[k * 2 + 1]? = some (.int .i64 (gp ps k).2) := by
  induction ps generalizing k with
  | nil => simp at hk
  | cons c cs ih =>
    cases k with
    | zero => exact ⟨rfl, rfl⟩
    | succ k =>
      have := ih k (by simp at hk; omega)
      have e : qV (c :: cs) = [.int .i64 c.1, .int .i64 c.2] ++ qV cs := rfl
      have g : gp (c :: cs) (k + 1) = gp cs k := by simp [gp]
      rw [e, g, show (k + 1) * 2 = k * 2 + 2 by omega]
      refine ⟨?_, ?_⟩
      · rw [List.getElem?_append_right (by simp)]; exact this.1
      · rw [List.getElem?_append_right (by simp)]; simpa using this.2

def OwnQ (w : World) (B : Nat) (v : Value) (ps : List Pq) : Prop := w.ownsRow B 52 2 v ps.length (qV ps)

theorem OwnQ.on {w w' : World} {B : Nat} {v : Value} {cs : List Pq} (h : OwnQ w B v cs) (hb : Below w.heap.size w w') : OwnQ w' B v cs := by
  have hg : w.grownBy w' none := ⟨hb.os, hb.tape, hb.output, hb.size, fun k hk _ => hb.block k hk⟩
  exact World.ownsRow.kept h hg (by cases v.ownBlock <;> simp)

theorem OwnQ.rd {w : World} {B g cap : Nat} {ps : List Pq} (h : OwnQ w B (.slice (some ⟨g, 0, none⟩) ps.length cap) ps) : Rd2 w ⟨g, 0, none⟩ ps := by
  intro j hj
  have hc := World.ownsRow.cellAt (g := g) (cap := cap) h
  obtain ⟨c0, c1⟩ := qV_at ps j hj
  rw [addr_add]
  exact ⟨(hc (j * 2) (by omega)).trans c0, (hc (j * 2 + 1) (by omega)).trans c1⟩

/-- The same from the element 1 on. -/
theorem OwnQ.rd1 {w : World} {B g cap : Nat} {ps : List Pq} (h : OwnQ w B (.slice (some ⟨g, 0, none⟩) ps.length cap) ps) : Rd2 w ⟨g, 2, none⟩ (ps.drop 1) := by
  intro j hj
  have hc := World.ownsRow.cellAt (g := g) (cap := cap) h
  simp at hj
  obtain ⟨c0, c1⟩ := qV_at ps (j + 1) (by omega)
  have e : gp (ps.drop 1) j = gp ps (j + 1) := by simp [gp]
  have ha : (⟨g, 2, none⟩ : Addr).add (j * 2) = ⟨g, (j + 1) * 2, none⟩ := by unfold Addr.add; split <;> simp_all; omega
  rw [e, ha]
  exact ⟨(hc ((j + 1) * 2) (by omega)).trans c0, (hc ((j + 1) * 2 + 1) (by omega)).trans c1⟩

theorem rat_info : (Try.prog.info? 52).map (fun i => (i.zero, i.size, i.bytes)) = some (some (.agg #[.int .i64 0, .int .i64 0]), 2, 16) := by kernel_rfl

theorem cells_two {w w' : World} (x y : Value) (t : TypeId) (hw : w' = w.alloc (.cells #[x, y] t)) : ∀ j u, ([x, y] : List Value)[j]? = some u → w'.cell? ((⟨w.heap.size, 0, none⟩ : Addr).add j) = some u := by
  subst hw
  intro j u hu
  rw [addr_add]
  match j, hu with
  | 0, hu => simp at hu; subst hu; go_simp
  | 1, hu => simp at hu; subst hu; go_simp

/-- The values that Point chooses, from the clock 0 on, up to the first error. -/
def ptR (n : Nat) (l : List Int) : Nat → List Pq × Int
  | 0 => ([(0, 1)], 0)
  | t + 1 =>
    if (ptR n l t).2 = 0 then
      (if (cxR n l (ptR n l t).1 (t + 1) (t + 1)).2 = 0 then
        (if chE (cxR n l (ptR n l t).1 (t + 1) (t + 1)).1 = 0 then ((ptR n l t).1 ++ [(chN (cxR n l (ptR n l t).1 (t + 1) (t + 1)).1, chD (cxR n l (ptR n l t).1 (t + 1) (t + 1)).1)], 0)
        else ((ptR n l t).1, chE (cxR n l (ptR n l t).1 (t + 1) (t + 1)).1))
      else ((ptR n l t).1, (cxR n l (ptR n l t).1 (t + 1) (t + 1)).2))
    else ptR n l t

theorem pt_stay {n : Nat} {l : List Int} {t m : Nat} (h : t ≤ m) (he : (ptR n l t).2 ≠ 0) : ptR n l m = ptR n l t := by
  induction m with
  | zero => rw [show t = 0 by omega]
  | succ m ih =>
    by_cases e : t = m + 1
    · rw [e]
    · have := ih (by omega)
      show (if (ptR n l m).2 = 0 then _ else ptR n l m) = _
      rw [if_neg (by rw [this]; exact he), this]

theorem pt_succ {n : Nat} {l : List Int} {t : Nat} (h : (ptR n l t).2 = 0) : ptR n l (t + 1) =
    (if (cxR n l (ptR n l t).1 (t + 1) (t + 1)).2 = 0 then
      (if chE (cxR n l (ptR n l t).1 (t + 1) (t + 1)).1 = 0 then ((ptR n l t).1 ++ [(chN (cxR n l (ptR n l t).1 (t + 1) (t + 1)).1, chD (cxR n l (ptR n l t).1 (t + 1) (t + 1)).1)], 0)
      else ((ptR n l t).1, chE (cxR n l (ptR n l t).1 (t + 1) (t + 1)).1))
    else ((ptR n l t).1, (cxR n l (ptR n l t).1 (t + 1) (t + 1)).2)) := by
  show (if (ptR n l t).2 = 0 then _ else ptR n l t) = _
  rw [if_pos h]

theorem pt_fits {n : Nat} {l : List Int} (t : Nat) : Fits (ptR n l t).1 ∧ ((ptR n l t).2 = 0 → (ptR n l t).1.length = t + 1) := by
  induction t with
  | zero =>
    refine ⟨fun k hk => ?_, fun _ => rfl⟩
    obtain rfl : k = 0 := by simp [ptR] at hk; omega
    exact ⟨by show I64 0; unfold I64; omega, by show I64 1; unfold I64; omega⟩
  | succ t ih =>
    by_cases h : (ptR n l t).2 = 0
    · rw [pt_succ h]
      split
      · split
        · refine ⟨fun k hk => ?_, fun _ => by simp [ih.2 h]⟩
          by_cases e : k < (ptR n l t).1.length
          · have := ih.1 k e
            simpa [gp, List.getElem?_append, e] using this
          · have hk2 : k = (ptR n l t).1.length := by simp at hk; omega
            have := ch_64 (cx_ok n l (ptR n l t).1 (t + 1) (t + 1))
            simpa [gp, hk2] using this
        · exact ⟨ih.1, fun q => by rename_i h2; exact absurd q h2⟩
      · exact ⟨ih.1, fun q => by rename_i h2; exact absurd q h2⟩
    · have e : ptR n l (t + 1) = ptR n l t := pt_stay (by omega) h
      rw [e]
      exact ⟨ih.1, fun q => absurd q h⟩

/-- What Point leaves. -/
def QRes (w : World) (qs : List Pq) (er : Int) (e : Ending) (w' : World) : Prop :=
  Below w.heap.size w w' ∧ ((er = 0 ∧ ∃ ao cap, e = .returned (.tuple #[.slice ao qs.length cap, .int .i64 0]) ∧ Arg2 w' ao qs) ∨ (er ≠ 0 ∧ e = .returned (.tuple #[.slice none 0 0, .int .i64 er])))
end Go.Proofs.Ytbnebinpemejlaa

namespace Go.Proofs.Ytbnebinpemejlaa
open Go.RowKit

theorem rat_ext {cs ds : List Pq} (hl : cs.length = ds.length) (h : ∀ k, k < cs.length → gp cs k = gp ds k) : cs = ds := by
  apply List.ext_getElem hl
  intro i h1 h2
  have := h i h1
  simpa [gp, h1, h2] using this

set_option maxRecDepth 100000 in
set_option maxHeartbeats 1600000 in
theorem srat_any (cs ds : List Pq) (ao bo : Option Addr) (ca cb : Nat) (w : World) (hA : Arg2 w ao cs) (hB : Arg2 w bo ds) (hl : cs.length ≤ 1000) :
    Calls Try.prog 60 #[.slice ao cs.length ca, .slice bo ds.length cb] w (Made (.bool (decide (cs = ds))) w) := by
  by_cases hlen : cs.length = ds.length
  case neg =>
    have HF := Lib.hid (show decide (cs = ds) = false from decide_eq_false (fun e => hlen (by rw [e])))
    have D : ((cs.length : Int) != (ds.length : Int)) = true := by simp; omega
    clear hA hB
    generalize cs.length = c at *
    generalize ds.length = d at *
    go_enter Try.func60, Try.ntmps60
    go_wp2_with fail
    go_ret
    exact ⟨ret_bool HF.out.symm, Below.refl _ _⟩
  case pos =>
    have D : ((cs.length : Int) != (ds.length : Int)) = false := by simp; omega
    obtain ⟨len, hc⟩ : ∃ len, len = cs.length := ⟨_, rfl⟩
    have hd : ds.length = len := by omega
    have HC := Lib.hid hc
    have HDD := Lib.hid hd
    have HA := Lib.hid hA
    have HB := Lib.hid hB
    rw [hd, ← hc] at D
    rw [hd, ← hc]
    have hl2 : len ≤ 1000 := by omega
    clear hlen hc hd hA hB hl
    go_enter Try.func60, Try.ntmps60
    go_wp2_with fail
    go_loopw [5] (fun s wr => ∃ t : Nat, t ≤ len ∧ s = .int .i64 t ∧ Hid (∀ k, k < t → gp cs k = gp ds k) ∧ Hid (Below w.heap.size w wr)) (fun s _ => len - (intOf s).toNat)
    case atStart => exact ⟨0, by omega, rfl, Lib.hid (fun k hk => by omega), Lib.hid (Below.refl _ _)⟩
    case round =>
      obtain ⟨t, ht, rfl, HT, HW⟩ := hrel
      by_cases htn : t < len
      case pos =>
        obtain ⟨a, rfl, hR⟩ := HA.out (fun e => by have := HC.out; rw [e] at this; simp at this; omega)
        obtain ⟨b, rfl, hS⟩ := HB.out (fun e => by have := HDD.out; rw [e] at this; simp at this; omega)
        obtain ⟨a0, a1⟩ := (hR.on HW.out) t (by rw [← HC.out]; exact htn)
        obtain ⟨b0, b1⟩ := (hS.on HW.out) t (by rw [HDD.out]; exact htn)
        clear hR hS
        obtain ⟨p, hp⟩ : ∃ p, p = gp cs t := ⟨_, rfl⟩
        obtain ⟨q, hq⟩ : ∃ q, q = gp ds t := ⟨_, rfl⟩
        rw [← hp] at a0 a1
        rw [← hq] at b0 b1
        have HP := Lib.hid hp
        have HQ := Lib.hid hq
        clear hp hq
        obtain ⟨i, j⟩ := p
        obtain ⟨i', j'⟩ := q
        simp only at a0 a1 b0 b1
        by_cases he : ((i, j) : Pq) = (i', j')
        case pos =>
          have HT2 := Lib.hid (show ∀ k, k < t + 1 → gp cs k = gp ds k from fun k hk => by
            by_cases e : k = t
            · rw [e, ← HP.out, ← HQ.out]; exact he
            · exact HT.out k (by omega))
          simp only [Prod.mk.injEq] at he
          obtain ⟨rfl, rfl⟩ := he
          go_wp2_with fail
          go_quiet (fail)
          go_wp2_with fail
          go_roundw
          case rel => exact ⟨t + 1, by omega, by go_num, HT2, Lib.hid (below_drewN HW.out _)⟩
          case measure => simp [intOf]; omega
        case neg =>
          have HF := Lib.hid (show decide (cs = ds) = false from decide_eq_false (fun e => he (by rw [HP.out, HQ.out, e])))
          by_cases c1 : i = i'
          case neg =>
            have D1 : (i == i') = false := by simpa using c1
            clear he c1
            go_wp2_with fail
            go_quiet (fail)
            go_wp2_with fail
            go_ret
            exact ⟨ret_bool HF.out.symm, below_drewN HW.out _⟩
          case pos =>
            have c2 : j ≠ j' := fun e => he (by rw [c1, e])
            have D1 : (j == j') = false := by simpa using c2
            subst c1
            clear he c2
            go_wp2_with fail
            go_quiet (fail)
            go_wp2_with fail
            go_ret
            exact ⟨ret_bool HF.out.symm, below_drewN HW.out _⟩
      case neg =>
        have HF := Lib.hid (show decide (cs = ds) = true from decide_eq_true (rat_ext (by rw [← HC.out, HDD.out]) (fun k hk => HT.out k (by rw [← HC.out] at hk; omega))))
        go_wp2_with fail
        go_ret
        exact ⟨ret_bool HF.out.symm, HW.out⟩
end Go.Proofs.Ytbnebinpemejlaa

namespace Go.Proofs.Ytbnebinpemejlaa
open Go.RowKit

theorem ownI_arg {w : World} {B : Nat} {v : Value} {l : List Int} (h : w.ownsRow B 43 1 v l.length (l.map (Value.int .i64))) : ∃ ao cap, v = .slice ao l.length cap ∧ Arg w ao l := by
  rcases h.2 with ⟨rfl, hn⟩ | ⟨g, cap, cur, rfl, hb, hg, hc, hm, hsz, htake⟩
  · exact ⟨none, 0, by rw [hn], fun hne => absurd (List.eq_nil_of_length_eq_zero hn) hne⟩
  · exact ⟨_, cap, rfl, fun _ => ⟨_, rfl, (own_of h rfl rfl).1.rd⟩⟩

theorem cells_one {w w' : World} (x : Value) (t : TypeId) (hw : w' = w.alloc (.cells #[x] t)) : ∀ j u, ([x] : List Value)[j]? = some u → w'.cell? ((⟨w.heap.size, 0, none⟩ : Addr).add j) = some u := by
  subst hw
  intro j u hu
  rw [addr_add]
  match j, hu with
  | 0, hu => simp at hu; subst hu; go_simp

set_option maxRecDepth 100000 in
set_option maxHeartbeats 4000000 in
theorem limits_any (l : List Int) (a : Addr) (cap : Nat) (w : World) (hR : Rd w a l) (hl : l.length ≤ 1000) :
    Calls Try.prog 59 #[.slice (some a) l.length cap] w (fun e w' => Below w.heap.size w w' ∧ ∃ ao c, e = .returned (.slice ao l.length c) ∧ Arg w' ao l) := by
  obtain ⟨i0, hi, hz0, hz1, hz2⟩ := info_parts Try.info43
  have HR := Lib.hid hR
  obtain ⟨len, hlen⟩ : ∃ len, len = l.length := ⟨_, rfl⟩
  have HL := Lib.hid hlen
  rw [← hlen] at hl ⊢
  clear hR hlen
  go_enter Try.func59, Try.ntmps59
  go_wp2_with fail
  go_loopw [4, 3] (fun s v wr => ∃ t : Nat, t ≤ len ∧ s = .int .i64 t ∧ Hid (wr.ownsRow w.heap.size 43 1 v t ((l.take t).map (Value.int .i64)) ∧ Below w.heap.size w wr)) (fun s _ _ => len - (intOf s).toNat)
  case atStart => exact ⟨0, by omega, rfl, Lib.hid ⟨World.ownsRow_nil _ _ _ _, Below.refl _ _⟩⟩
  case round =>
    obtain ⟨t, ht, rfl, HX⟩ := hrel
    by_cases htn : t < len
    case pos =>
      have hc := (HR.out.on HX.out.2) t (by rw [← HL.out]; exact htn)
      obtain ⟨x, hx⟩ : ∃ x, x = Zo.gt l t := ⟨_, rfl⟩
      rw [← hx] at hc
      have HXX := Lib.hid hx
      have hown := HX.out.1
      have hsz := HX.out.2.size
      clear hx
      go_wp2_with (at_builtin; refine wpList_append_own _ rfl _ _ 22 rfl w.heap.size 43 i0 (.int .i64 0) 1 8 Try.underlying22 hi hz0 hz1 hz2 rfl (by decide) _ _ _ rfl (World.ownsRow.alloc hown _) ⟨_, 0, none⟩ 1 1 [.int .i64 x] rfl rfl (cells_one _ _ rfl) (by simp [Value.oneCell']) (by unfold maxLen; omega) (by omega) (by simp; omega) ?_)
      intro v' w9 hown9 hgrow _
      have B9 := Lib.hid (show Below w.heap.size w w9 from Below.grown (HX.out.2.alloc HX.out.2.size _) hgrow (by simp; omega) (fun k hk => (World.ownsRow.lt hown k hk).1))
      have O9 := Lib.hid (show w9.ownsRow w.heap.size 43 1 v' (t + 1) ((l.take (t + 1)).map (Value.int .i64)) by
        have htl : t < l.length := by rw [← HL.out]; exact htn
        rw [show l.take (t + 1) = l.take t ++ [x] by
          rw [List.take_add_one, HXX.out]
          simp [Zo.gt, htl], List.map_append, List.map_take]
        exact hown9)
      clear hown9 hgrow hown hc hsz
      go_wp2_with fail
      go_roundw
      case rel => exact ⟨t + 1, by omega, by go_num, Lib.hid ⟨O9.out, B9.out⟩⟩
      case measure => simp [intOf]; omega
    case neg =>
      obtain rfl : t = len := by omega
      have HO := Lib.hid (show _ from by
        have := HX.out.1
        rw [List.take_of_length_le (by rw [← HL.out]; exact Nat.le_refl _)] at this
        rw [HL.out] at this
        exact ownI_arg this)
      go_wp2_with fail
      go_ret
      obtain ⟨ao, c, h1, h2⟩ := HO.out
      rw [← HL.out] at h1
      exact ⟨HX.out.2, ao, c, congrArg Ending.returned h1, h2⟩
end Go.Proofs.Ytbnebinpemejlaa
