/- The contract of Reset of layer 3's reference.; The contract of layer 3's Free.; Contracts for layer 3's And: which constraints are wrong.; The contract of layer 3's And. -/
import Derived.Test.YtbnebinpemejlaaG9

namespace Go.Proofs.Ytbnebinpemejlaa
open Go.RowKit

theorem ZRes.ok {w : World} {N : Int} {l : List Int} {er : Int} {e : Ending} {w' : World} (h : ZRes w N l er e w') (he : er = 0) : ∃ g c, e = .returned (.tuple #[.agg #[.int .i64 N, .slice (some ⟨g, 0, none⟩) l.length c], .int .i64 0]) ∧ w.heap.size ≤ g ∧ Own w' g c l ∧ Below w.heap.size w w' := by
  rcases h.2 with ⟨_, g, c, h1, h2, h3⟩ | ⟨h1, _⟩
  · exact ⟨g, c, h1, h2, h3, h.1⟩
  · exact absurd he h1

theorem ZRes.no {w : World} {N : Int} {l : List Int} {er : Int} {e : Ending} {w' : World} (h : ZRes w N l er e w') (he : er ≠ 0) : e = .returned (.tuple #[.agg #[.int .i64 0, .slice none 0 0], .int .i64 er]) ∧ Below w.heap.size w w' := by
  rcases h.2 with ⟨h1, _⟩ | ⟨_, h1⟩
  · exact absurd h1 he
  · exact ⟨h1, h.1⟩

theorem Own.arg {w : World} {g c : Nat} {l : List Int} (h : Own w g c l) : Arg w (some ⟨g, 0, none⟩) l := fun _ => ⟨_, rfl, h.rd⟩

/-- What Reset returns: Free, then And. -/
def reM (n i : Nat) (l : List Int) : List Int := Zo.clo n (frL n i l)

def reL (n i : Nat) (c : Int) (l : List Int) : List Int := Zo.clo n (anL n (isC i 0 c) (reM n i l))

def reE (n i : Nat) (c : Int) (l : List Int) : Int := if cloE n (frL n i l) = 0 then anG n (isC i 0 c) (reM n i l) else cloE n (frL n i l)

set_option maxHeartbeats 400000 in
theorem re_bad (N : Int) (l : List Int) (ao : Option Addr) (cap : Nat) (i c : Int) (w : World) (hA : Arg w ao l) (hc : chkE N l = 2) :
    Calls Try.prog 31 #[.agg #[.int .i64 N, .slice ao l.length cap], .int .i64 i, .int .i64 c] w (ZRes w 0 [] 2) := by
  have CK := Lib.hid fun W (h : Below w.heap.size w W) => check_as (cap := cap) W (hA.on h) hc
  generalize l.length = len at *
  obtain ⟨w0, hw0⟩ : ∃ w0, w0 = (w.alloc (.cells #[.int .i64 N, .slice ao len cap] 25)).alloc (.cells #[.int .i64 0, .slice none 0 0] 25) := ⟨_, rfl⟩
  have bx : Two w0 w.heap.size (.int .i64 N) (.slice ao len cap) := by rw [hw0]; exact (Two.made _ _ _ _).alloc _
  have rs : Two w0 (w.heap.size + 1) (.int .i64 0) (.slice none 0 0) := by
    rw [hw0]
    have := Two.made (w.alloc (.cells #[.int .i64 N, .slice ao len cap] 25)) (.int .i64 0) (.slice none 0 0) 25
    simpa using this
  have e0 : Below w.heap.size w w0 := by rw [hw0]; exact past_two (Below.refl _ _)
  have E0 := Lib.hid e0
  clear e0 hA hc
  go_enter Try.func31, Try.ntmps31
  go_wp2_with fail
  rw [← hw0]
  clear hw0
  obtain ⟨b0, b1, b2, b3⟩ := bx.facts
  go_wp2_with fail
  refine (CK.out _ E0.out).mono ?_
  rintro e w1 ⟨rfl, hb1⟩
  clear b0 b1 b2 b3
  replace rs := rs.kept hb1
  replace E0 := Lib.hid (below_on E0.out hb1)
  clear hb1 bx
  obtain ⟨b0, b1, b2, b3⟩ := rs.facts
  go_wp2_with fail
  refine bodyPost_ret (v := .tuple #[.agg #[.int .i64 0, .slice none 0 0], .int .i64 2]) (by simp [results, Try.results31, go_sem, b0, b1]) rfl (zres_bad ?_)
  exact (E0.out.setCell (by show w.heap.size ≤ w.heap.size + 1; omega) _).setCell (by show w.heap.size ≤ w.heap.size + 1; omega) _

set_option maxHeartbeats 800000 in
theorem re_out0 (n : Nat) (l : List Int) (a : Addr) (cap : Nat) (i c : Int) (w : World) (hn : n ≤ 10) (hl : l.length = (n + 1) * (n + 1)) (hR : Rd w a l) (hc : chkE n l = 0) (hi : i < 1) :
    Calls Try.prog 31 #[.agg #[.int .i64 n, .slice (some a) l.length cap], .int .i64 i, .int .i64 c] w (ZRes w 0 [] 2) := by
  obtain ⟨len, hlen⟩ : ∃ len, len = l.length := ⟨_, rfl⟩
  obtain ⟨w0, hw0⟩ : ∃ w0, w0 = (w.alloc (.cells #[.int .i64 n, .slice (some a) len cap] 25)).alloc (.cells #[.int .i64 0, .slice none 0 0] 25) := ⟨_, rfl⟩
  have bx : Two w0 w.heap.size (.int .i64 n) (.slice (some a) len cap) := by rw [hw0]; exact (Two.made _ _ _ _).alloc _
  have rs : Two w0 (w.heap.size + 1) (.int .i64 0) (.slice none 0 0) := by
    rw [hw0]
    have := Two.made (w.alloc (.cells #[.int .i64 n, .slice (some a) len cap] 25)) (.int .i64 0) (.slice none 0 0) 25
    simpa using this
  have z0 : w0.heap.size = w.heap.size + 2 := by rw [hw0]; simp
  have e0 : Below w.heap.size w w0 := by rw [hw0]; exact past_two (Below.refl _ _)
  have R0 := hR.on e0
  have CK : Hid (∀ W, Rd W a l → Calls Try.prog 18 #[.agg #[.int .i64 n, .slice (some a) len cap]] W (Made (.int .i64 0) W)) := Lib.hid fun W h => by have := check_any n l a cap W hn hl h; rw [hc, ← hlen] at this; exact this
  have CP : Hid (∀ W, Rd W a l → Calls Try.prog 66 #[.agg #[.int .i64 n, .slice (some a) len cap]] W (fun e w' => ∃ g c, e = .returned (.agg #[.int .i64 n, .slice (some ⟨g, 0, none⟩) len c]) ∧ W.heap.size ≤ g ∧ Own w' g c l ∧ Below W.heap.size W w')) := Lib.hid fun W h => by have := copied_any n l a cap W (by rw [hl]; exact dsq_pos n) (by rw [hl]; have := dsq_le hn; omega) h; rw [← hlen] at this; exact this
  have HR := Lib.hid R0
  have HL := Lib.hid hl
  have HLn := Lib.hid hlen
  have E0 := Lib.hid e0
  rw [← hlen]
  clear hR R0 hl hlen hc e0
  go_enter Try.func31, Try.ntmps31
  go_wp2_with fail
  rw [← hw0]
  clear hw0
  obtain ⟨b0, b1, b2, b3⟩ := bx.facts
  go_wp2_with fail
  refine (CK.out _ HR.out).mono ?_
  rintro e w1 ⟨rfl, hb1⟩
  clear b0 b1 b2 b3
  replace bx := bx.kept hb1
  replace rs := rs.kept hb1
  have HR1 := Lib.hid (HR.out.on hb1)
  have E1 := Lib.hid (below_on E0.out hb1)
  have z1 := hb1.size
  clear hb1 HR E0
  obtain ⟨b0, b1, b2, b3⟩ := bx.facts
  clear b0 b1 b2 b3
  obtain ⟨b0, b1, b2, b3⟩ := rs.facts
  obtain ⟨c0, c1, _, _⟩ := bx.facts
  go_wp2_with fail
  refine bodyPost_ret (v := .tuple #[.agg #[.int .i64 0, .slice none 0 0], .int .i64 2]) (by simp [results, Try.results31, go_sem, b0, b1]) rfl (zres_bad ?_)
  exact (E1.out.setCell (by show w.heap.size ≤ w.heap.size + 1; omega) _).setCell (by show w.heap.size ≤ w.heap.size + 1; omega) _

set_option maxHeartbeats 800000 in
theorem re_out1 (n : Nat) (l : List Int) (a : Addr) (cap : Nat) (i c : Int) (w : World) (hn : n ≤ 10) (hl : l.length = (n + 1) * (n + 1)) (hR : Rd w a l) (hc : chkE n l = 0) (h1 : ¬ i < 1) (h2 : (n : Int) < i) :
    Calls Try.prog 31 #[.agg #[.int .i64 n, .slice (some a) l.length cap], .int .i64 i, .int .i64 c] w (ZRes w 0 [] 2) := by
  obtain ⟨len, hlen⟩ : ∃ len, len = l.length := ⟨_, rfl⟩
  obtain ⟨w0, hw0⟩ : ∃ w0, w0 = (w.alloc (.cells #[.int .i64 n, .slice (some a) len cap] 25)).alloc (.cells #[.int .i64 0, .slice none 0 0] 25) := ⟨_, rfl⟩
  have bx : Two w0 w.heap.size (.int .i64 n) (.slice (some a) len cap) := by rw [hw0]; exact (Two.made _ _ _ _).alloc _
  have rs : Two w0 (w.heap.size + 1) (.int .i64 0) (.slice none 0 0) := by
    rw [hw0]
    have := Two.made (w.alloc (.cells #[.int .i64 n, .slice (some a) len cap] 25)) (.int .i64 0) (.slice none 0 0) 25
    simpa using this
  have z0 : w0.heap.size = w.heap.size + 2 := by rw [hw0]; simp
  have e0 : Below w.heap.size w w0 := by rw [hw0]; exact past_two (Below.refl _ _)
  have R0 := hR.on e0
  have CK : Hid (∀ W, Rd W a l → Calls Try.prog 18 #[.agg #[.int .i64 n, .slice (some a) len cap]] W (Made (.int .i64 0) W)) := Lib.hid fun W h => by have := check_any n l a cap W hn hl h; rw [hc, ← hlen] at this; exact this
  have CP : Hid (∀ W, Rd W a l → Calls Try.prog 66 #[.agg #[.int .i64 n, .slice (some a) len cap]] W (fun e w' => ∃ g c, e = .returned (.agg #[.int .i64 n, .slice (some ⟨g, 0, none⟩) len c]) ∧ W.heap.size ≤ g ∧ Own w' g c l ∧ Below W.heap.size W w')) := Lib.hid fun W h => by have := copied_any n l a cap W (by rw [hl]; exact dsq_pos n) (by rw [hl]; have := dsq_le hn; omega) h; rw [← hlen] at this; exact this
  have HR := Lib.hid R0
  have HL := Lib.hid hl
  have HLn := Lib.hid hlen
  have E0 := Lib.hid e0
  rw [← hlen]
  clear hR R0 hl hlen hc e0
  go_enter Try.func31, Try.ntmps31
  go_wp2_with fail
  rw [← hw0]
  clear hw0
  obtain ⟨b0, b1, b2, b3⟩ := bx.facts
  go_wp2_with fail
  refine (CK.out _ HR.out).mono ?_
  rintro e w1 ⟨rfl, hb1⟩
  clear b0 b1 b2 b3
  replace bx := bx.kept hb1
  replace rs := rs.kept hb1
  have HR1 := Lib.hid (HR.out.on hb1)
  have E1 := Lib.hid (below_on E0.out hb1)
  have z1 := hb1.size
  clear hb1 HR E0
  obtain ⟨b0, b1, b2, b3⟩ := bx.facts
  clear b0 b1 b2 b3
  obtain ⟨b0, b1, b2, b3⟩ := rs.facts
  obtain ⟨c0, c1, _, _⟩ := bx.facts
  go_wp2_with fail
  refine bodyPost_ret (v := .tuple #[.agg #[.int .i64 0, .slice none 0 0], .int .i64 2]) (by simp [results, Try.results31, go_sem, b0, b1]) rfl (zres_bad ?_)
  exact (E1.out.setCell (by show w.heap.size ≤ w.heap.size + 1; omega) _).setCell (by show w.heap.size ≤ w.heap.size + 1; omega) _

set_option maxHeartbeats 800000 in
theorem re_out2 (n : Nat) (l : List Int) (a : Addr) (cap : Nat) (i c : Int) (w : World) (hn : n ≤ 10) (hl : l.length = (n + 1) * (n + 1)) (hR : Rd w a l) (hc : chkE n l = 0) (h1 : ¬ i < 1) (h2 : ¬ (n : Int) < i) (h3 : cnB c = false) :
    Calls Try.prog 31 #[.agg #[.int .i64 n, .slice (some a) l.length cap], .int .i64 i, .int .i64 c] w (ZRes w 0 [] 2) := by
  have p := fun W => constant_any c W
  rw [h3] at p
  have CN := Lib.hid p
  clear p h3
  obtain ⟨len, hlen⟩ : ∃ len, len = l.length := ⟨_, rfl⟩
  obtain ⟨w0, hw0⟩ : ∃ w0, w0 = (w.alloc (.cells #[.int .i64 n, .slice (some a) len cap] 25)).alloc (.cells #[.int .i64 0, .slice none 0 0] 25) := ⟨_, rfl⟩
  have bx : Two w0 w.heap.size (.int .i64 n) (.slice (some a) len cap) := by rw [hw0]; exact (Two.made _ _ _ _).alloc _
  have rs : Two w0 (w.heap.size + 1) (.int .i64 0) (.slice none 0 0) := by
    rw [hw0]
    have := Two.made (w.alloc (.cells #[.int .i64 n, .slice (some a) len cap] 25)) (.int .i64 0) (.slice none 0 0) 25
    simpa using this
  have z0 : w0.heap.size = w.heap.size + 2 := by rw [hw0]; simp
  have e0 : Below w.heap.size w w0 := by rw [hw0]; exact past_two (Below.refl _ _)
  have R0 := hR.on e0
  have CK : Hid (∀ W, Rd W a l → Calls Try.prog 18 #[.agg #[.int .i64 n, .slice (some a) len cap]] W (Made (.int .i64 0) W)) := Lib.hid fun W h => by have := check_any n l a cap W hn hl h; rw [hc, ← hlen] at this; exact this
  have CP : Hid (∀ W, Rd W a l → Calls Try.prog 66 #[.agg #[.int .i64 n, .slice (some a) len cap]] W (fun e w' => ∃ g c, e = .returned (.agg #[.int .i64 n, .slice (some ⟨g, 0, none⟩) len c]) ∧ W.heap.size ≤ g ∧ Own w' g c l ∧ Below W.heap.size W w')) := Lib.hid fun W h => by have := copied_any n l a cap W (by rw [hl]; exact dsq_pos n) (by rw [hl]; have := dsq_le hn; omega) h; rw [← hlen] at this; exact this
  have HR := Lib.hid R0
  have HL := Lib.hid hl
  have HLn := Lib.hid hlen
  have E0 := Lib.hid e0
  rw [← hlen]
  clear hR R0 hl hlen hc e0
  go_enter Try.func31, Try.ntmps31
  go_wp2_with fail
  rw [← hw0]
  clear hw0
  obtain ⟨b0, b1, b2, b3⟩ := bx.facts
  go_wp2_with fail
  refine (CK.out _ HR.out).mono ?_
  rintro e w1 ⟨rfl, hb1⟩
  clear b0 b1 b2 b3
  replace bx := bx.kept hb1
  replace rs := rs.kept hb1
  have HR1 := Lib.hid (HR.out.on hb1)
  have E1 := Lib.hid (below_on E0.out hb1)
  have z1 := hb1.size
  clear hb1 HR E0
  obtain ⟨b0, b1, b2, b3⟩ := bx.facts
  go_wp2_with fail
  refine (CN.out _).mono ?_
  rintro e w2 ⟨rfl, rfl⟩
  clear b0 b1 b2 b3
  obtain ⟨b0, b1, b2, b3⟩ := rs.facts
  obtain ⟨c0, c1, _, _⟩ := bx.facts
  go_wp2_with fail
  refine bodyPost_ret (v := .tuple #[.agg #[.int .i64 0, .slice none 0 0], .int .i64 2]) (by simp [results, Try.results31, go_sem, b0, b1]) rfl (zres_bad ?_)
  exact (E1.out.setCell (by show w.heap.size ≤ w.heap.size + 1; omega) _).setCell (by show w.heap.size ≤ w.heap.size + 1; omega) _

theorem own_below {w w' : World} {g c : Nat} {l : List Int} (h : Own w g c l) (hb : Below w.heap.size w w') : Own w' g c l :=
  h.kept (row := none) ⟨hb.os, hb.tape, hb.output, hb.size, fun k hk _ => hb.block k hk⟩ (by simp)

set_option maxHeartbeats 1600000 in
theorem re_any (n : Nat) (l : List Int) (a : Addr) (cap : Nat) (i : Nat) (c : Int) (w : World) (hn : n ≤ 10) (hl : l.length = (n + 1) * (n + 1)) (hR : Rd w a l) (hc : chkE n l = 0) (hi1 : 1 ≤ i) (hi2 : i ≤ n) (hcn : cnB c = true) :
    Calls Try.prog 31 #[.agg #[.int .i64 n, .slice (some a) l.length cap], .int .i64 i, .int .i64 c] w (ZRes w n (reL n i c l) (reE n i c l)) := by
  have p := fun W => constant_any c W
  rw [hcn] at p
  have CN := Lib.hid p
  have c0 : 0 ≤ c ∧ c ≤ 1048576 := by unfold cnB at hcn; simpa using hcn
  have IS := Lib.hid fun W => is_any (i : Int) 0 c W c0.1 c0.2
  have FR : Hid (∀ W, Rd W a l → Calls Try.prog 33 #[.agg #[.int .i64 n, .slice (some a) l.length cap], .int .i64 i] W (ZRes W n (reM n i l) (cloE n (frL n i l)))) := Lib.hid fun W h => fr_any n l a cap i W hn hl h hc hi1 hi2
  clear p hcn c0
  rw [show l.length = l.length from rfl] at FR
  obtain ⟨len, hlen⟩ : ∃ len, len = l.length := ⟨_, rfl⟩
  obtain ⟨w0, hw0⟩ : ∃ w0, w0 = (w.alloc (.cells #[.int .i64 n, .slice (some a) len cap] 25)).alloc (.cells #[.int .i64 0, .slice none 0 0] 25) := ⟨_, rfl⟩
  have bx : Two w0 w.heap.size (.int .i64 n) (.slice (some a) len cap) := by rw [hw0]; exact (Two.made _ _ _ _).alloc _
  have rs : Two w0 (w.heap.size + 1) (.int .i64 0) (.slice none 0 0) := by
    rw [hw0]
    have := Two.made (w.alloc (.cells #[.int .i64 n, .slice (some a) len cap] 25)) (.int .i64 0) (.slice none 0 0) 25
    simpa using this
  have z0 : w0.heap.size = w.heap.size + 2 := by rw [hw0]; simp
  have e0 : Below w.heap.size w w0 := by rw [hw0]; exact past_two (Below.refl _ _)
  have R0 := hR.on e0
  have CK : Hid (∀ W, Rd W a l → Calls Try.prog 18 #[.agg #[.int .i64 n, .slice (some a) len cap]] W (Made (.int .i64 0) W)) := Lib.hid fun W h => by have := check_any n l a cap W hn hl h; rw [hc, ← hlen] at this; exact this
  have CP : Hid (∀ W, Rd W a l → Calls Try.prog 66 #[.agg #[.int .i64 n, .slice (some a) len cap]] W (fun e w' => ∃ g c, e = .returned (.agg #[.int .i64 n, .slice (some ⟨g, 0, none⟩) len c]) ∧ W.heap.size ≤ g ∧ Own w' g c l ∧ Below W.heap.size W w')) := Lib.hid fun W h => by have := copied_any n l a cap W (by rw [hl]; exact dsq_pos n) (by rw [hl]; have := dsq_le hn; omega) h; rw [← hlen] at this; exact this
  have HR := Lib.hid R0
  have HL := Lib.hid hl
  have HLn := Lib.hid hlen
  have E0 := Lib.hid e0
  have FR2 : Hid (∀ W, Rd W a l → Calls Try.prog 33 #[.agg #[.int .i64 n, .slice (some a) len cap], .int .i64 i] W (ZRes W n (reM n i l) (cloE n (frL n i l)))) := by rw [hlen]; exact FR
  clear FR
  rw [← hlen]
  clear hR R0 hl hlen hc e0
  by_cases h1 : cloE n (frL n i l) = 0
  · by_cases h2 : anG n (isC i 0 c) (reM n i l) = 0
    · have HLM0 := Lib.hid (show reL n i c l = Zo.clo n (anL n (isC i 0 c) (reM n i l)) from rfl)
      have HRE := Lib.hid (show reE n i c l = anG n (isC i 0 c) (reM n i l) by unfold reE; rw [if_pos h1])
      have H1 := Lib.hid h1
      have AN := Lib.hid fun (W : World) (g c5 q : Nat) (hA : Own W g c5 (reM n i l)) (hD : Rd3 W ⟨q, 0, none⟩ (isC i 0 c)) => an_gen n (reM n i l) (some ⟨g, 0, none⟩) c5 (isC i 0 c) (some ⟨q, 0, none⟩) 2 W hA.arg (fun _ => ⟨_, rfl, hD⟩) (by simp [isC])
      have H2 := Lib.hid h2
      generalize (isC (i : Int) 0 c) = cs at *
      generalize hM : reM n i l = M at *
      clear h1 h2
      have HLM := Lib.hid (show reL n i c l = Zo.clo n (anL n cs M) from HLM0.out)
      have HLL := Lib.hid (show ∀ (g7 c7 : Nat), Ending.returned (.tuple #[.agg #[.int .i64 n, .slice (some ⟨g7, 0, none⟩) (Zo.clo n (anL n cs M)).length c7], .int .i64 0]) = Ending.returned (.tuple #[.agg #[.int .i64 n, .slice (some ⟨g7, 0, none⟩) (reL n i c l).length c7], .int .i64 0]) from fun g7 c7 => by rw [HLM.out])
      go_enter Try.func31, Try.ntmps31
      go_wp2_with fail
      rw [← hw0]
      clear hw0
      obtain ⟨b0, b1, b2, b3⟩ := bx.facts
      go_wp2_with fail
      refine (CK.out _ HR.out).mono ?_
      rintro e w1 ⟨rfl, hb1⟩
      clear b0 b1 b2 b3
      replace bx := bx.kept hb1
      replace rs := rs.kept hb1
      have HR1 := Lib.hid (HR.out.on hb1)
      have E1 := Lib.hid (below_on E0.out hb1)
      have z1 := hb1.size
      clear hb1 HR E0
      obtain ⟨b0, b1, b2, b3⟩ := bx.facts
      go_wp2_with fail
      refine (CN.out _).mono ?_
      rintro e w2' ⟨rfl, rfl⟩
      go_wp2_with fail
      refine (FR2.out _ HR1.out).mono ?_
      intro e w3 hz
      obtain ⟨g, c5, rfl, hg, ho, hb3⟩ := hz.ok H1.out
      clear b0 b1 b2 b3 hz
      replace bx := bx.kept hb3
      replace rs := rs.kept hb3
      have E3 := Lib.hid (below_on E1.out hb3)
      have z3 := hb3.size
      clear hb3
      obtain ⟨w5, hw5⟩ : ∃ w5, w5 = (w3.setCell ⟨w.heap.size, 0, none⟩ (.int .i64 n)).setCell ⟨w.heap.size, 1, none⟩ (.slice (some ⟨g, 0, none⟩) M.length c5) := ⟨_, rfl⟩
      have bx5 : Two w5 w.heap.size (.int .i64 n) (.slice (some ⟨g, 0, none⟩) M.length c5) := by rw [hw5]; exact bx.put _ _
      have rs5 : Two w5 (w.heap.size + 1) (.int .i64 0) (.slice none 0 0) := by rw [hw5]; exact rs.aside (by omega) _ _
      have O5 := Lib.hid (show Own w5 g c5 M by rw [hw5]; exact put_far ho (by omega) _ _)
      have E5 := Lib.hid (show Below w.heap.size w w5 by rw [hw5]; exact (E3.out.setCell (by show w.heap.size ≤ w.heap.size; omega) _).setCell (by show w.heap.size ≤ w.heap.size; omega) _)
      have z5 : w.heap.size + 2 ≤ w5.heap.size := by have := rs5.lt; omega
      have KS := Lib.hid (show ∀ W : World, Below w5.heap.size w5 W → W.cell? ⟨w.heap.size, 0, none⟩ = some (.int .i64 n) ∧ W.cell? ⟨w.heap.size, 1, none⟩ = some (.slice (some ⟨g, 0, none⟩) M.length c5) from fun W h => ⟨kept h bx5.facts.1, kept h bx5.facts.2.1⟩)
      have KT := Lib.hid (show ∀ (W : World) (u v : Value), Below w5.heap.size w5 W → ((W.setCell ⟨w.heap.size + 1, 0, none⟩ u).setCell ⟨w.heap.size + 1, 1, none⟩ v).cell? ⟨w.heap.size, 0, none⟩ = some (.int .i64 n) ∧ ((W.setCell ⟨w.heap.size + 1, 0, none⟩ u).setCell ⟨w.heap.size + 1, 1, none⟩ v).cell? ⟨w.heap.size, 1, none⟩ = some (.slice (some ⟨g, 0, none⟩) M.length c5) from fun W u v h => by have t := (bx5.kept h).aside (show w.heap.size + 1 ≠ w.heap.size by omega) u v; exact ⟨t.facts.1, t.facts.2.1⟩)
      have KR := Lib.hid (show ∀ W : World, Below w5.heap.size w5 W → Two W (w.heap.size + 1) (.int .i64 0) (.slice none 0 0) from fun W h => rs5.kept h)
      have HO := Lib.hid ho
      obtain ⟨b0, b1, b2, b3⟩ := bx.facts
      clear ho bx rs E3
      go_wp2_with fail
      rw [← hw5]
      have HW5 := Lib.hid hw5
      clear hw5 b0 b1 b2 b3 bx5 rs5
      obtain ⟨b0, b1⟩ := KS.out _ (Below.refl _ _)
      go_wp2_with fail
      have s1 : Below w5.heap.size w5 w5.drew := (Below.refl _ _).drew
      go_region_held3 (fun w' => w'.cell? ⟨w.heap.size, 0, none⟩ = some (.int .i64 n) ∧ w'.cell? ⟨w.heap.size, 1, none⟩ = some (.slice (some ⟨g, 0, none⟩) M.length c5)) (first | exact KS.out _ s1 | exact KS.out _ s6 | exact KS.out _ s7 | exact KT.out _ _ _ s7)
        (first | (go_at_call 88; refine (IS.out _).mono ?_; rintro e w6 ⟨q, rfl, hd, hb6⟩; have s6 := below_on s1 hb6) | (go_at_call 25; refine (AN.out _ _ _ _ (own_below O5.out s6) hd).mono ?_; intro e w7 hz; obtain ⟨g7, c7, rfl, hg7, ho7, hb7⟩ := hz.ok H2.out; have s7 := below_on s6 hb7; obtain ⟨r0, r1, r2, r3⟩ := (KR.out _ s7).facts))
      go_wp2_with fail
      have z7 := s6.size
      refine bodyPost_ret (v := .tuple #[.agg #[.int .i64 n, .slice (some ⟨g7, 0, none⟩) (Zo.clo n (anL n cs M)).length c7], .int .i64 0]) (by simp [results, Try.results31, go_sem, r0, r1]) rfl ⟨((below_on E5.out s7).setCell (by show w.heap.size ≤ w.heap.size + 1; omega) _).setCell (by show w.heap.size ≤ w.heap.size + 1; omega) _, Or.inl ⟨by rw [HRE.out]; exact H2.out, g7, c7, HLL.out _ _, by omega, ?_⟩⟩
      rw [HLM.out]
      exact put_far ho7 (by omega) _ _
    · have HRE := Lib.hid (show reE n i c l = anG n (isC i 0 c) (reM n i l) by unfold reE; rw [if_pos h1])
      have H1 := Lib.hid h1
      have AN := Lib.hid fun (W : World) (g c5 q : Nat) (hA : Own W g c5 (reM n i l)) (hD : Rd3 W ⟨q, 0, none⟩ (isC i 0 c)) => an_gen n (reM n i l) (some ⟨g, 0, none⟩) c5 (isC i 0 c) (some ⟨q, 0, none⟩) 2 W hA.arg (fun _ => ⟨_, rfl, hD⟩) (by simp [isC])
      have H2 := Lib.hid h2
      generalize anG n (isC i 0 c) (reM n i l) = er at *
      generalize (isC (i : Int) 0 c) = cs at *
      generalize hM : reM n i l = M at *
      clear h1 h2
      go_enter Try.func31, Try.ntmps31
      go_wp2_with fail
      rw [← hw0]
      clear hw0
      obtain ⟨b0, b1, b2, b3⟩ := bx.facts
      go_wp2_with fail
      refine (CK.out _ HR.out).mono ?_
      rintro e w1 ⟨rfl, hb1⟩
      clear b0 b1 b2 b3
      replace bx := bx.kept hb1
      replace rs := rs.kept hb1
      have HR1 := Lib.hid (HR.out.on hb1)
      have E1 := Lib.hid (below_on E0.out hb1)
      have z1 := hb1.size
      clear hb1 HR E0
      obtain ⟨b0, b1, b2, b3⟩ := bx.facts
      go_wp2_with fail
      refine (CN.out _).mono ?_
      rintro e w2' ⟨rfl, rfl⟩
      go_wp2_with fail
      refine (FR2.out _ HR1.out).mono ?_
      intro e w3 hz
      obtain ⟨g, c5, rfl, hg, ho, hb3⟩ := hz.ok H1.out
      clear b0 b1 b2 b3 hz
      replace bx := bx.kept hb3
      replace rs := rs.kept hb3
      have E3 := Lib.hid (below_on E1.out hb3)
      have z3 := hb3.size
      clear hb3
      obtain ⟨w5, hw5⟩ : ∃ w5, w5 = (w3.setCell ⟨w.heap.size, 0, none⟩ (.int .i64 n)).setCell ⟨w.heap.size, 1, none⟩ (.slice (some ⟨g, 0, none⟩) M.length c5) := ⟨_, rfl⟩
      have bx5 : Two w5 w.heap.size (.int .i64 n) (.slice (some ⟨g, 0, none⟩) M.length c5) := by rw [hw5]; exact bx.put _ _
      have rs5 : Two w5 (w.heap.size + 1) (.int .i64 0) (.slice none 0 0) := by rw [hw5]; exact rs.aside (by omega) _ _
      have O5 := Lib.hid (show Own w5 g c5 M by rw [hw5]; exact put_far ho (by omega) _ _)
      have E5 := Lib.hid (show Below w.heap.size w w5 by rw [hw5]; exact (E3.out.setCell (by show w.heap.size ≤ w.heap.size; omega) _).setCell (by show w.heap.size ≤ w.heap.size; omega) _)
      have z5 : w.heap.size + 2 ≤ w5.heap.size := by have := rs5.lt; omega
      have KS := Lib.hid (show ∀ W : World, Below w5.heap.size w5 W → W.cell? ⟨w.heap.size, 0, none⟩ = some (.int .i64 n) ∧ W.cell? ⟨w.heap.size, 1, none⟩ = some (.slice (some ⟨g, 0, none⟩) M.length c5) from fun W h => ⟨kept h bx5.facts.1, kept h bx5.facts.2.1⟩)
      have KT := Lib.hid (show ∀ (W : World) (u v : Value), Below w5.heap.size w5 W → ((W.setCell ⟨w.heap.size + 1, 0, none⟩ u).setCell ⟨w.heap.size + 1, 1, none⟩ v).cell? ⟨w.heap.size, 0, none⟩ = some (.int .i64 n) ∧ ((W.setCell ⟨w.heap.size + 1, 0, none⟩ u).setCell ⟨w.heap.size + 1, 1, none⟩ v).cell? ⟨w.heap.size, 1, none⟩ = some (.slice (some ⟨g, 0, none⟩) M.length c5) from fun W u v h => by have t := (bx5.kept h).aside (show w.heap.size + 1 ≠ w.heap.size by omega) u v; exact ⟨t.facts.1, t.facts.2.1⟩)
      have KR := Lib.hid (show ∀ W : World, Below w5.heap.size w5 W → Two W (w.heap.size + 1) (.int .i64 0) (.slice none 0 0) from fun W h => rs5.kept h)
      have HO := Lib.hid ho
      obtain ⟨b0, b1, b2, b3⟩ := bx.facts
      clear ho bx rs E3
      go_wp2_with fail
      rw [← hw5]
      have HW5 := Lib.hid hw5
      clear hw5 b0 b1 b2 b3 bx5 rs5
      obtain ⟨b0, b1⟩ := KS.out _ (Below.refl _ _)
      go_wp2_with fail
      have s1 : Below w5.heap.size w5 w5.drew := (Below.refl _ _).drew
      go_region_held3 (fun w' => w'.cell? ⟨w.heap.size, 0, none⟩ = some (.int .i64 n) ∧ w'.cell? ⟨w.heap.size, 1, none⟩ = some (.slice (some ⟨g, 0, none⟩) M.length c5)) (first | exact KS.out _ s1 | exact KS.out _ s6 | exact KS.out _ s7 | exact KT.out _ _ _ s7)
        (first | (go_at_call 88; refine (IS.out _).mono ?_; rintro e w6 ⟨q, rfl, hd, hb6⟩; have s6 := below_on s1 hb6) | (go_at_call 25; refine (AN.out _ _ _ _ (own_below O5.out s6) hd).mono ?_; intro e w7 hz; obtain ⟨rfl, hb7⟩ := hz.no H2.out; have s7 := below_on s6 hb7; obtain ⟨r0, r1, r2, r3⟩ := (KR.out _ s7).facts))
      go_wp2_with fail
      refine bodyPost_ret (v := .tuple #[.agg #[.int .i64 0, .slice none 0 0], .int .i64 er]) (by simp [results, Try.results31, go_sem, r0, r1]) rfl ⟨((below_on E5.out s7).setCell (by show w.heap.size ≤ w.heap.size + 1; omega) _).setCell (by show w.heap.size ≤ w.heap.size + 1; omega) _, Or.inr ⟨by rw [HRE.out]; exact H2.out, by rw [HRE.out]⟩⟩
  · have HRE := Lib.hid (show reE n i c l = cloE n (frL n i l) by unfold reE; rw [if_neg h1])
    have H1 := Lib.hid h1
    generalize cloE n (frL n i l) = er at *
    have E1B : (er != 0) = true := by simpa using h1
    clear h1
    go_enter Try.func31, Try.ntmps31
    go_wp2_with fail
    rw [← hw0]
    clear hw0
    obtain ⟨b0, b1, b2, b3⟩ := bx.facts
    go_wp2_with fail
    refine (CK.out _ HR.out).mono ?_
    rintro e w1 ⟨rfl, hb1⟩
    clear b0 b1 b2 b3
    replace bx := bx.kept hb1
    replace rs := rs.kept hb1
    have HR1 := Lib.hid (HR.out.on hb1)
    have E1 := Lib.hid (below_on E0.out hb1)
    have z1 := hb1.size
    clear hb1 HR E0
    obtain ⟨b0, b1, b2, b3⟩ := bx.facts
    go_wp2_with fail
    refine (CN.out _).mono ?_
    rintro e w2' ⟨rfl, rfl⟩
    go_wp2_with fail
    refine (FR2.out _ HR1.out).mono ?_
    intro e w3 hz
    obtain ⟨rfl, hb3⟩ := hz.no H1.out
    clear b0 b1 b2 b3 hz
    replace bx := bx.kept hb3
    replace rs := rs.kept hb3
    have E3 := Lib.hid (below_on E1.out hb3)
    have z3 := hb3.size
    clear hb3
    obtain ⟨b0, b1, b2, b3⟩ := bx.facts
    obtain ⟨r0, r1, r2, r3⟩ := rs.facts
    go_wp2_with fail
    refine bodyPost_ret (v := .tuple #[.agg #[.int .i64 0, .slice none 0 0], .int .i64 er]) (by simp [results, Try.results31, go_sem, r0, r1]) rfl ⟨?_, Or.inr ⟨by rw [HRE.out]; exact H1.out, by rw [HRE.out]⟩⟩
    exact (((E3.out.setCell (by show w.heap.size ≤ w.heap.size; omega) _).setCell (by show w.heap.size ≤ w.heap.size; omega) _).setCell (by show w.heap.size ≤ w.heap.size + 1; omega) _).setCell (by show w.heap.size ≤ w.heap.size + 1; omega) _
end Go.Proofs.Ytbnebinpemejlaa

namespace Go.Proofs.Ytbnebinpemejlaa
open Go.RowKit

theorem rlL_at {n i : Nat} {l : List Int} (hl : l.length = (n + 1) * (n + 1)) (hi : i ≤ n) {a b : Nat} (ha : a ≤ n) (hb : b ≤ n) : Zo.At n (rlL n i l) a b = if a = i ∨ b = i then 1099511627776 else Zo.At n l a b := by
  have := (Zo.fold_at (N := n + 1) (f := rlS n i) (p := fun t a b => decide ((a = t ∧ b = i) ∨ (a = i ∧ b = t))) (v := 1099511627776) (fun x t ht hx => ⟨by simpa [rlS] using hx, fun a b _ hb => by
    unfold rlS
    rw [Zo.At_set (by simpa using hx) (by omega) hi _ hb, Zo.At_set hx hi (by omega) _ hb]
    by_cases c1 : a = t ∧ b = i
    · simp [c1]
    · by_cases c2 : a = i ∧ b = t
      · simp [c2]
      · rw [if_neg c1, if_neg c2, if_neg (by simp; omega)]⟩) hl (n + 1) (Nat.le_refl _)).2 a b ha hb
  rw [show rlL n i l = (List.range (n + 1)).foldl (rlS n i) l from rfl, this]
  by_cases c : a = i ∨ b = i
  · rw [if_pos c, if_pos]
    rw [List.any_eq_true]
    by_cases ca : a = i
    · exact ⟨b, List.mem_range.2 (by omega), by simp [ca]⟩
    · exact ⟨a, List.mem_range.2 (by omega), by simp; omega⟩
  · rw [if_neg c, if_neg]
    intro h
    rw [List.any_eq_true] at h
    obtain ⟨s, _, hs⟩ := h
    simp at hs
    omega

theorem frL_at {n i : Nat} {l : List Int} (hl : l.length = (n + 1) * (n + 1)) (hi : i ≤ n) {a b : Nat} (ha : a ≤ n) (hb : b ≤ n) : Zo.At n (frL n i l) a b = if (a = i ∨ b = i) ∧ a ≠ b then 1099511627776 else Zo.At n l a b := by
  have := (Zo.fold_at (N := n + 1) (f := frS n i) (p := fun t a b => decide (t ≠ i ∧ ((a = t ∧ b = i) ∨ (a = i ∧ b = t)))) (v := 1099511627776) (fun x t ht hx => ⟨by rw [frS_len]; exact hx, fun a b _ hb => by
    unfold frS
    by_cases ct : t = i
    · rw [if_pos ct, if_neg (by simp; omega)]
    · rw [if_neg ct, Zo.At_set (by simpa using hx) (by omega) hi _ hb, Zo.At_set hx hi (by omega) _ hb]
      by_cases c1 : a = t ∧ b = i
      · simp [c1, ct]
      · by_cases c2 : a = i ∧ b = t
        · simp [c2, ct]
        · rw [if_neg c1, if_neg c2, if_neg (by simp; omega)]⟩) hl (n + 1) (Nat.le_refl _)).2 a b ha hb
  rw [show frL n i l = (List.range (n + 1)).foldl (frS n i) l from rfl, this]
  by_cases c : (a = i ∨ b = i) ∧ a ≠ b
  · rw [if_pos c, if_pos]
    rw [List.any_eq_true]
    by_cases ca : a = i
    · exact ⟨b, List.mem_range.2 (by omega), by simp [ca]; omega⟩
    · exact ⟨a, List.mem_range.2 (by omega), by simp; omega⟩
  · rw [if_neg c, if_neg]
    intro h
    rw [List.any_eq_true] at h
    obtain ⟨s, _, hs⟩ := h
    simp at hs
    omega

theorem fr_pre {n i : Nat} {l : List Int} (hl : l.length = (n + 1) * (n + 1)) (hi : i ≤ n) (hc : chkE n l = 0) : Zo.pre n (rlL n i l) = Zo.pre n (frL n i l) := by
  obtain ⟨dg, _⟩ := chk_diag hc
  refine Zo.pre_eq (by rw [rlL_len, hl]) (by rw [frL_len, hl]) fun a b ha hb => ⟨fun h => ?_, fun h => ?_⟩
  · rw [rlL_at hl hi ha hb, frL_at hl hi ha hb]
    by_cases c : a = i ∨ b = i
    · rw [if_pos c, if_pos ⟨c, h.2⟩]
    · rw [if_neg c, if_neg (by omega)]
  · rw [rlL_at hl hi ha hb, frL_at hl hi ha hb]
    by_cases c : a = i ∨ b = i
    · rw [if_pos c]
      by_cases e : a = b
      · rw [if_neg (by omega)]
        subst e
        rw [dg a ha]; decide
      · rw [if_pos ⟨c, e⟩]
    · rw [if_neg c, if_neg (by omega)]

theorem rlL_64 {n i : Nat} {l : List Int} (h : Zo.A64 l) : Zo.A64 (rlL n i l) := fold_64 (fun _ _ h => Zo.gt_range _ _ _ (Zo.gt_range _ _ _ h no_in) no_in) h _

theorem enter_fr (args : Array Value) (W : World) : (callFunc 89 args).run Try.prog W = .ok (.enter 89 args) W := by go_simp

theorem ck_nat {n : Nat} {i first : Int} (h : ckB n i first = true) (h0 : 0 ≤ first) : ∃ k : Nat, i = k ∧ k ≤ n ∧ first ≤ k := by
  unfold ckB at h; simp at h; exact ⟨i.toNat, by omega, by omega, by omega⟩

theorem ch_fr (N : Int) (l : List Int) (ao : Option Addr) (cap : Nat) (i : Int) (p : Addr) (w : World) (hA : Arg w ao l) (hp : w.cell? p = some (.int .i64 i)) :
    Calls Try.prog 76 #[.agg #[.int .i64 N, .slice ao l.length cap], .bool (ckB N i 1), .func (.func 89) #[] #[.pointer (some p)]] w (ZRes w N (Zo.clo N.toNat (frL N.toNat i.toNat l)) (frE N l i)) := by
  by_cases hc : chkE N l = 0
  · cases hk : ckB N i 1
    · refine (changed_bad N l ao cap false _ w hA (Or.inr rfl)).mono fun e w' h => h.bad ?_
      unfold frE; rw [if_neg]
      unfold ckB at hk; simp at hk; omega
    · obtain ⟨n, rfl, hn, hl, hne⟩ := chk_ok hc
      obtain ⟨k, rfl, hkn, hk1⟩ := ck_nat hk (by omega)
      have := changed_ok n l (rlL n k l) ao cap 89 #[.pointer (some p)] w hA hn hl hc (rlL_64 (chk_64 hc).1) enter_fr (fun W b hb _ hM => fr1_any b n k p l W hn hkn hM (kept hb hp))
      rw [show frE (n : Int) l k = cloE n (rlL n k l) by unfold frE; rw [if_pos ⟨hc, by omega, by omega⟩, cloE_pre (fr_pre hl hkn hc)]; rfl]
      rw [Zo.clo_pre (fr_pre hl hkn hc)] at this
      exact this
  · refine (changed_bad N l ao cap _ _ w hA (Or.inl (by unfold okB; simpa using hc))).mono fun e w' h => h.bad ?_
    unfold frE; rw [if_neg (by omega)]

set_option maxRecDepth 100000 in
set_option maxHeartbeats 4000000 in
theorem zfr_gen (N : Int) (l : List Int) (ao : Option Addr) (cap : Nat) (i : Int) (w : World) (hA : Arg w ao l) :
    Calls Try.prog 32 #[.agg #[.int .i64 N, .slice ao l.length cap], .int .i64 i] w (ZRes w N (Zo.clo N.toNat (frL N.toNat i.toNat l)) (frE N l i)) := by
  have CH := Lib.hid (show ∀ W p, Below w.heap.size w W → W.cell? p = some (.int .i64 i) → _ from fun W p h hp => ch_fr N l ao cap i p W (hA.on h) hp)
  have CK := Lib.hid (fun W => isClock_any N i 1 (.slice ao l.length cap) W)
  generalize Zo.clo N.toNat (frL N.toNat i.toNat l) = r at *
  generalize frE N l i = er at *
  generalize ckB N i 1 = ck at *
  generalize l.length = len at *
  obtain ⟨w0, hw0⟩ : ∃ w0, w0 = ((w.alloc (.cells #[.int .i64 N, .slice ao len cap] 25)).alloc (.cells #[.int .i64 i] 3)).alloc (.cells #[.int .i64 0, .slice none 0 0] 25) := ⟨_, rfl⟩
  have b0 : w0.cell? ⟨w.heap.size, 0, none⟩ = some (.int .i64 N) := by rw [hw0]; go_simp
  have b1 : w0.cell? ⟨w.heap.size, 1, none⟩ = some (.slice ao len cap) := by rw [hw0]; go_simp
  have b2 : w0.cell? ⟨w.heap.size + 1, 0, none⟩ = some (.int .i64 i) := by rw [hw0]; go_simp
  have rs : Two w0 (w.heap.size + 1 + 1) (.int .i64 0) (.slice none 0 0) := by
    rw [hw0]
    have := Two.made ((w.alloc (.cells #[.int .i64 N, .slice ao len cap] 25)).alloc (.cells #[.int .i64 i] 3)) (.int .i64 0) (.slice none 0 0) 25
    simpa using this
  have z0 : w0.heap.size = w.heap.size + 3 := by rw [hw0]; simp
  have E0 := Lib.hid (show Below w.heap.size w w0 by rw [hw0]; exact past_three (Below.refl _ _))
  have KS := Lib.hid (show ∀ w' : World, Below w0.heap.size w0 w' → w'.cell? ⟨w.heap.size, 0, none⟩ = some (.int .i64 N) ∧ w'.cell? ⟨w.heap.size, 1, none⟩ = some (.slice ao len cap) ∧ w'.cell? ⟨w.heap.size + 1, 0, none⟩ = some (.int .i64 i) from fun w' h => ⟨kept h b0, kept h b1, kept h b2⟩)
  have KP := Lib.hid (show ∀ (w' : World) (u v : Value), Below w0.heap.size w0 w' → (((w'.setCell ⟨w.heap.size + 1 + 1, 0, none⟩ u).setCell ⟨w.heap.size + 1 + 1, 1, none⟩ v).cell? ⟨w.heap.size, 0, none⟩ = some (.int .i64 N) ∧ ((w'.setCell ⟨w.heap.size + 1 + 1, 0, none⟩ u).setCell ⟨w.heap.size + 1 + 1, 1, none⟩ v).cell? ⟨w.heap.size, 1, none⟩ = some (.slice ao len cap) ∧ ((w'.setCell ⟨w.heap.size + 1 + 1, 0, none⟩ u).setCell ⟨w.heap.size + 1 + 1, 1, none⟩ v).cell? ⟨w.heap.size + 1, 0, none⟩ = some (.int .i64 i)) from
    fun w' u v h => ⟨aside_two (kept h b0) (by show w.heap.size ≠ _; omega) u v, aside_two (kept h b1) (by show w.heap.size ≠ _; omega) u v, aside_two (kept h b2) (by show w.heap.size + 1 ≠ _; omega) u v⟩)
  have HRS := Lib.hid rs
  have BD := Lib.hid (show Below w0.heap.size w0 w0.drew from (Below.refl _ _).drew)
  clear hA b0 b1 b2 rs
  go_enter Try.func32, Try.ntmps32
  go_wp2_with fail
  rw [← hw0]
  clear hw0
  by_cases he : er = 0
  · subst he
    go_region_held3 (fun w' => w'.cell? ⟨w.heap.size, 0, none⟩ = some (.int .i64 N) ∧ w'.cell? ⟨w.heap.size, 1, none⟩ = some (.slice ao len cap) ∧ w'.cell? ⟨w.heap.size + 1, 0, none⟩ = some (.int .i64 i)) (first | exact KS.out _ BD.out | exact KS.out _ (by assumption) | exact KP.out _ _ _ (by assumption))
      (first | (go_at_call 74; refine (CK.out _).mono ?_; rintro e wa ⟨rfl, hba⟩; have hb1 := below_on BD.out hba) | (go_at_call 76; refine (CH.out _ _ (below_on E0.out hb1) (KS.out _ hb1).2.2).mono ?_; intro e wb hz; obtain ⟨g, c, rfl, hg, hO⟩ := hz.ok rfl; have hb2 := below_on hb1 hz.1; obtain ⟨q0, q1, q2, q3⟩ := (HRS.out.kept hb2).facts))
    all_goals
      go_wp2_with fail
      refine bodyPost_ret (v := .tuple #[.agg #[.int .i64 N, .slice (some ⟨g, 0, none⟩) r.length c], .int .i64 0]) (by simp [results, Try.results32, go_sem, q0, q1]) rfl (zres_over E0.out hb2 hO.1 (Nat.le_trans hb1.size hg) (by omega) (by omega) _ _)
  · go_region_held3 (fun w' => w'.cell? ⟨w.heap.size, 0, none⟩ = some (.int .i64 N) ∧ w'.cell? ⟨w.heap.size, 1, none⟩ = some (.slice ao len cap) ∧ w'.cell? ⟨w.heap.size + 1, 0, none⟩ = some (.int .i64 i)) (first | exact KS.out _ BD.out | exact KS.out _ (by assumption) | exact KP.out _ _ _ (by assumption))
      (first | (go_at_call 74; refine (CK.out _).mono ?_; rintro e wa ⟨rfl, hba⟩; have hb1 := below_on BD.out hba) | (go_at_call 76; refine (CH.out _ _ (below_on E0.out hb1) (KS.out _ hb1).2.2).mono ?_; intro e wb hz; obtain ⟨rfl, hzb⟩ := hz.no he; have hb2 := below_on hb1 hzb; obtain ⟨q0, q1, q2, q3⟩ := (HRS.out.kept hb2).facts))
    all_goals
      go_wp2_with fail
      refine bodyPost_ret (v := .tuple #[.agg #[.int .i64 0, .slice none 0 0], .int .i64 er]) (by simp [results, Try.results32, go_sem, q0, q1]) rfl (zres_over0 E0.out hb2 he (by omega) _ _)
end Go.Proofs.Ytbnebinpemejlaa

namespace Go.Proofs.Ytbnebinpemejlaa
open Go.RowKit

def okZ (N : Int) (c : Con) : Bool := ckB N c.1 0 && (ckB N c.2.1 0 && lvB c.2.2)

theorem okZ_nat (n : Nat) (c : Con) : okZ n c = okC n c := by
  unfold okZ okC ckB
  cases lvB c.2.2
  · simp
  · rw [Bool.eq_iff_iff]; simp; omega

set_option maxRecDepth 100000 in
set_option maxHeartbeats 1000000 in
theorem and1_any (N I J L : Int) (v : Value) (pb : Nat) (w : World) (h0 : w.cell? ⟨pb, 0, none⟩ = some (.int .i64 N)) (h1 : w.cell? ⟨pb, 1, none⟩ = some v) :
    Calls Try.prog 73 #[.agg #[.int .i64 I, .int .i64 J, .int .i64 L], .pointer (some ⟨pb, 0, none⟩)] w (Made (.bool (!okZ N (I, J, L))) w) := by
  have C1 := Lib.hid (fun W => isClock_any N I 0 v W)
  have C2 := Lib.hid (fun W => isClock_any N J 0 v W)
  have C3 := Lib.hid (fun W => limValid_free L W)
  have HO := Lib.hid (show okZ N (I, J, L) = (ckB N I 0 && (ckB N J 0 && lvB L)) from rfl)
  generalize okZ N (I, J, L) = ok at *
  generalize ckB N I 0 = k1 at *
  generalize ckB N J 0 = k2 at *
  generalize lvB L = k3 at *
  obtain ⟨w0, hw0⟩ : ∃ w0, w0 = w.alloc (.cells #[.int .i64 I, .int .i64 J, .int .i64 L] 56) := ⟨_, rfl⟩
  have a0 : w0.cell? ⟨pb, 0, none⟩ = some (.int .i64 N) := by rw [hw0]; exact kept (one_more _) h0
  have a1 : w0.cell? ⟨pb, 1, none⟩ = some v := by rw [hw0]; exact kept (one_more _) h1
  have x0 : w0.cell? ⟨w.heap.size, 0, none⟩ = some (.int .i64 I) := by rw [hw0]; go_simp
  have x1 : w0.cell? ⟨w.heap.size, 1, none⟩ = some (.int .i64 J) := by rw [hw0]; go_simp
  have x2 : w0.cell? ⟨w.heap.size, 2, none⟩ = some (.int .i64 L) := by rw [hw0]; go_simp
  have E0 := Lib.hid (show Below w.heap.size w w0 by rw [hw0]; exact one_more _)
  have KS := Lib.hid (show ∀ w' : World, Below w0.heap.size w0 w' → (w'.cell? ⟨pb, 0, none⟩ = some (.int .i64 N) ∧ w'.cell? ⟨pb, 1, none⟩ = some v) ∧ w'.cell? ⟨w.heap.size, 0, none⟩ = some (.int .i64 I) ∧ w'.cell? ⟨w.heap.size, 1, none⟩ = some (.int .i64 J) ∧ w'.cell? ⟨w.heap.size, 2, none⟩ = some (.int .i64 L) from
    fun w' h => ⟨⟨kept h a0, kept h a1⟩, kept h x0, kept h x1, kept h x2⟩)
  have y0 : (w.alloc (.cells #[.int .i64 I, .int .i64 J, .int .i64 L] 56)).cell? ⟨pb, 0, none⟩ = some (.int .i64 N) := kept (one_more _) h0
  have y1 : (w.alloc (.cells #[.int .i64 I, .int .i64 J, .int .i64 L] 56)).cell? ⟨pb, 1, none⟩ = some v := kept (one_more _) h1
  clear h0 h1
  go_enter Try.func73, Try.ntmps73
  go_wp2_with fail
  rw [← hw0]
  clear hw0 y0 y1
  refine (C1.out _).mono ?_
  rintro e w1 ⟨rfl, hb1⟩
  clear a0 a1 x0 x1 x2
  obtain ⟨⟨a0, a1⟩, x0, x1, x2⟩ := KS.out _ hb1
  have B1 := Lib.hid hb1
  clear hb1
  cases k1
  · have HR := Lib.hid (show ok = false by rw [HO.out]; rfl)
    go_wp2_with fail
    go_ret
    exact ⟨ret_bool (by rw [HR.out]; rfl), below_on E0.out B1.out⟩
  · go_wp2_with fail
    refine (C2.out _).mono ?_
    rintro e w2 ⟨rfl, hb2⟩
    have B2 := Lib.hid (below_on B1.out hb2)
    clear hb2 a0 a1 x0 x1 x2
    obtain ⟨⟨a0, a1⟩, x0, x1, x2⟩ := KS.out _ B2.out
    cases k2
    · have HR := Lib.hid (show ok = false by rw [HO.out]; rfl)
      go_wp2_with fail
      go_ret
      exact ⟨ret_bool (by rw [HR.out]; rfl), below_on E0.out B2.out⟩
    · go_wp2_with fail
      refine (C3.out _).mono ?_
      rintro e w3 ⟨rfl, hw⟩
      rw [hw]; clear hw w3
      have HR := Lib.hid (show ok = k3 by rw [HO.out]; rfl)
      go_wp2_with fail
      go_ret
      exact ⟨ret_bool (by rw [HR.out]), below_on E0.out B2.out⟩

def aokB (N : Int) (cs : List Con) : Bool := cs.all (okZ N)

/-- The number of the first wrong constraint, or -1. -/
def Idx (N : Int) (cs : List Con) (w : World) (e : Ending) (w' : World) : Prop := ∃ r : Int, e = .returned (.int .i64 r) ∧ (decide (0 ≤ r) = !aokB N cs) ∧ Below w.heap.size w w'

set_option maxRecDepth 100000 in
set_option maxHeartbeats 4000000 in
theorem index_any (N : Int) (v : Value) (pb : Nat) (cs : List Con) (dao : Option Addr) (dc : Nat) (w : World) (hD : Arg3 w dao cs) (hdl : cs.length ≤ 1000) (h0 : w.cell? ⟨pb, 0, none⟩ = some (.int .i64 N)) (h1 : w.cell? ⟨pb, 1, none⟩ = some v) :
    Calls Try.prog 119 #[.slice dao cs.length dc, .func (.func 73) #[] #[.pointer (some ⟨pb, 0, none⟩)]] w (Idx N cs w) := by
  have hd : ∃ d, (cs ≠ [] → dao = some d) ∧ Rd3 w d cs := by
    by_cases he : cs = []
    · exact ⟨⟨0, 0, none⟩, fun h => absurd he h, by rw [he]; intro j hj; simp at hj⟩
    · obtain ⟨d, h2, h3⟩ := hD he
      exact ⟨d, fun _ => h2, h3⟩
  obtain ⟨d, hdo, hR⟩ := hd
  have HR := Lib.hid hR
  have C1 := Lib.hid (show ∀ (W : World) (c : Con), Below w.heap.size w W → Calls Try.prog 73 #[.agg #[.int .i64 c.1, .int .i64 c.2.1, .int .i64 c.2.2], .pointer (some ⟨pb, 0, none⟩)] W (Made (.bool (!okZ N c)) W) from fun W c h => and1_any N c.1 c.2.1 c.2.2 v pb W (kept h h0) (kept h h1))
  obtain ⟨len, hlen⟩ : ∃ len, len = cs.length := ⟨_, rfl⟩
  have HL := Lib.hid hlen
  have hz : ∀ t : Nat, t < len → dao = some d := fun t ht => hdo (by intro e; rw [e] at hlen; simp at hlen; omega)
  have hl2 : len ≤ 1000 := by omega
  rw [← hlen]
  clear hlen hR hD h0 h1 hdl hdo
  go_enter Try.func119, Try.ntmps119
  go_wp2_with fail
  go_loopw [8] (fun s wr => ∃ t : Nat, t ≤ len ∧ s = .int .i64 t ∧ Hid (∀ i, i < t → okZ N (gc cs i) = true) ∧ Hid (Below w.heap.size w wr)) (fun s _ => len - (intOf s).toNat)
  case atStart => exact ⟨0, by omega, rfl, Lib.hid (fun i hi => by omega), Lib.hid (Below.refl _ _)⟩
  case round =>
    obtain ⟨t, ht, rfl, HT, HB⟩ := hrel
    by_cases htn : t < len
    · obtain rfl := hz t htn
      obtain ⟨c0, c1, c2⟩ := (HR.out.on HB.out) t (by rw [← HL.out]; exact htn)
      obtain ⟨c, hc⟩ : ∃ c, c = gc cs t := ⟨_, rfl⟩
      rw [← hc] at c0 c1 c2
      have HC := Lib.hid hc
      have CC := C1.out
      have C2 := Lib.hid (fun W h => CC W c h)
      clear hc CC
      cases ho : okZ N c
      · rw [ho] at C2
        have HE := Lib.hid (show aokB N cs = false by
          unfold aokB
          rw [List.all_eq_false]
          have hlt : t < cs.length := by rw [← HL.out]; exact htn
          exact ⟨cs[t], List.getElem_mem hlt, by rw [show cs[t] = c by rw [HC.out]; simp [gc, hlt], ho]; simp⟩)
        clear ho
        go_wp2_with fail
        refine (C2.out _ HB.out).mono ?_
        rintro e w1 ⟨rfl, hb⟩
        have HB1 := Lib.hid (below_on HB.out hb)
        clear hb c0 c1 c2
        go_wp2_with fail
        go_ret
        exact ⟨t, rfl, by rw [HE.out]; simp, HB1.out⟩
      · rw [ho] at C2
        have HO := Lib.hid ho
        clear ho
        go_wp2_with fail
        refine (C2.out _ HB.out).mono ?_
        rintro e w1 ⟨rfl, hb⟩
        have HB1 := Lib.hid (below_on HB.out hb)
        clear hb c0 c1 c2
        go_wp2_with fail
        go_roundw
        case rel =>
          refine ⟨t + 1, by omega, by go_num, Lib.hid (fun i hi => ?_), HB1⟩
          by_cases e : i = t
          · rw [e, ← HC.out]; exact HO.out
          · exact HT.out i (by omega)
        case measure => simp [intOf]; omega
    · have HE := Lib.hid (show aokB N cs = true by
        unfold aokB
        rw [List.all_eq_true]
        intro x hx
        obtain ⟨i, hi, rfl⟩ := List.getElem_of_mem hx
        have := HT.out i (by have := HL.out; omega)
        simpa [gc, hi] using this)
      go_wp2_with fail
      go_ret
      exact ⟨-1, rfl, by rw [HE.out]; rfl, HB.out⟩

set_option maxRecDepth 100000 in
theorem contains_any (N : Int) (v : Value) (pb : Nat) (cs : List Con) (dao : Option Addr) (dc : Nat) (w : World) (hD : Arg3 w dao cs) (hdl : cs.length ≤ 1000) (h0 : w.cell? ⟨pb, 0, none⟩ = some (.int .i64 N)) (h1 : w.cell? ⟨pb, 1, none⟩ = some v) :
    Calls Try.prog 72 #[.slice dao cs.length dc, .func (.func 73) #[] #[.pointer (some ⟨pb, 0, none⟩)]] w (Made (.bool (!aokB N cs)) w) := by
  have CI := Lib.hid (index_any N v pb cs dao dc w hD hdl h0 h1)
  generalize cs.length = len at *
  clear hD h0 h1
  go_enter Try.func72, Try.ntmps72
  go_wp2_with fail
  refine CI.out.mono ?_
  rintro e w1 ⟨r, rfl, hr, hb⟩
  have HB := Lib.hid hb
  have HRR := Lib.hid hr
  clear hb hr
  go_wp2_with fail
  go_ret
  exact ⟨ret_bool HRR.out, HB.out⟩
end Go.Proofs.Ytbnebinpemejlaa

namespace Go.Proofs.Ytbnebinpemejlaa
open Go.RowKit

theorem MSt.alloc {w0 w : World} {b n : Nat} {l : List Int} (h : MSt w0 b n l w) (o : Obj) : MSt w0 b n l (w.alloc o) := ⟨h.1.alloc o, grown_trans h.2 (World.grownBy_alloc w o _)⟩

/-- What lay there ahead of the call of changed is there while its matrix turns. -/
theorem MSt.old {w0 w w' : World} {b n : Nat} {x : List Int} (hb : Below w0.heap.size w0 w) (hle : w0.heap.size ≤ b) (h : MSt w b n x w') {p : Addr} {v : Value} (hp : w0.cell? p = some v) : w'.cell? p = some v := by
  have hlt := World.block_lt_of_cell? w0 _ hp
  exact h.2.cell (kept hb hp) (by simp; omega)

theorem Rd3.mst {w0 w w' : World} {b n : Nat} {x : List Int} {d : Addr} {cs : List Con} (hR : Rd3 w0 d cs) (hb : Below w0.heap.size w0 w) (hle : w0.heap.size ≤ b) (h : MSt w b n x w') : Rd3 w' d cs :=
  fun j hj => ⟨h.old hb hle (hR j hj).1, h.old hb hle (hR j hj).2.1, h.old hb hle (hR j hj).2.2⟩

set_option maxRecDepth 100000 in
set_option maxHeartbeats 4000000 in
theorem and2_any (b n : Nat) (l : List Int) (cs : List Con) (dao : Option Addr) (dc : Nat) (lb : Addr) (w0 w : World) (hn : n ≤ 10) (hD : Arg3 w0 dao cs) (hdl : cs.length ≤ 1000) (hok : ∀ k, k < cs.length → okC n (gc cs k) = true)
    (hlb : w0.cell? lb = some (.slice dao cs.length dc)) (hb : Below w0.heap.size w0 w) (hle : w0.heap.size ≤ b) (h : Mx w b n l) :
    Calls Try.prog 77 #[.pointer (some ⟨b, 0, none⟩), .pointer (some lb)] w (Chg w b n (anL n cs l)) := by
  have hd : ∃ d, (cs ≠ [] → dao = some d) ∧ Rd3 w0 d cs := by
    by_cases he : cs = []
    · exact ⟨⟨0, 0, none⟩, fun h => absurd he h, by rw [he]; intro j hj; simp at hj⟩
    · obtain ⟨d, h2, h3⟩ := hD he
      exact ⟨d, fun _ => h2, h3⟩
  obtain ⟨d, hdo, hR⟩ := hd
  have KR := Lib.hid (show ∀ x w', MSt w b n x w' → Rd3 w' d cs from fun x w' hm => hR.mst hb hle hm)
  have HM := Lib.hid (show MSt w b n l w from ⟨h, World.grownBy.refl _ _⟩)
  have c0 : w.cell? lb = some (.slice dao cs.length dc) := kept hb hlb
  have HLL := Lib.hid h.2
  have OK := Lib.hid hok
  obtain ⟨len, hlen⟩ : ∃ len, len = cs.length := ⟨_, rfl⟩
  have HL := Lib.hid hlen
  have hz : ∀ t : Nat, t < len → dao = some d := fun t ht => hdo (by intro e; rw [e] at hlen; simp at hlen; omega)
  have hl2 : len ≤ 1000 := by omega
  rw [← hlen] at c0
  clear hlen hR hD hdl hdo hok hlb hb hle h
  go_enter Try.func77, Try.ntmps77
  go_wp2_with fail
  clear c0
  go_loopw [7] (fun s wr => ∃ (t : Nat) (x : List Int), t ≤ len ∧ s = .int .i64 t ∧ Hid (x.length = (n + 1) * (n + 1) ∧ x = (List.range t).foldl (anS n cs) l ∧ MSt w b n x wr)) (fun s _ => len - (intOf s).toNat)
  case atStart => exact ⟨0, l, by omega, rfl, Lib.hid ⟨HLL.out, rfl, HM.out⟩⟩
  case round =>
    obtain ⟨t, x, ht, rfl, HX⟩ := hrel
    by_cases htn : t < len
    · obtain rfl := hz t htn
      obtain ⟨c0, c1, c2⟩ := (KR.out _ _ HX.out.2.2) t (by rw [← HL.out]; exact htn)
      obtain ⟨c, hc⟩ : ∃ c, c = gc cs t := ⟨_, rfl⟩
      have hok := OK.out t (by rw [← HL.out]; exact htn)
      rw [← hc] at c0 c1 c2 hok
      have HC := Lib.hid hc
      unfold okC at hok
      simp only [Bool.and_eq_true, decide_eq_true_eq] at hok
      obtain ⟨⟨i1, i2, j1, j2⟩, _⟩ := hok
      obtain ⟨ci, cj, cl⟩ := c
      simp only at i1 i2 j1 j2 c0 c1 c2
      obtain ⟨i, rfl⟩ := Int.eq_ofNat_of_zero_le i1
      obtain ⟨j, rfl⟩ := Int.eq_ofNat_of_zero_le j1
      have TT := Lib.hid (fun (w' : World) (h : MSt w b n x w') => tighten_st (i := i) (j := j) cl hn (by omega) (by omega) h)
      have HS := Lib.hid (show anS n cs x t = x.set (Zo.ix n i j) (imin (Zo.At n x i j) cl) by unfold anS; rw [← HC.out]; rfl)
      clear hc
      go_wp2_with fail
      refine (TT.out _ (HX.out.2.2.alloc _)).mono ?_
      rintro e w1 ⟨rfl, hm⟩
      have HM1 := Lib.hid hm
      clear hm c0 c1 c2
      go_wp2_with fail
      go_roundw
      case rel => exact ⟨t + 1, _, by omega, by go_num, Lib.hid ⟨by simpa using HX.out.1, by rw [Zo.fold_succ, ← HX.out.2.1, HS.out], HM1.out⟩⟩
      case measure => simp [intOf]; omega
    · have HE := Lib.hid (show x = anL n cs l by rw [HX.out.2.1]; unfold anL; rw [← HL.out, show t = len by omega])
      go_wp2_with fail
      go_end0
      exact ⟨rfl, by rw [← HE.out]; exact HX.out.2.2⟩

theorem enter_an (args : Array Value) (W : World) : (callFunc 77 args).run Try.prog W = .ok (.enter 77 args) W := by go_simp

theorem aok_nat {n : Nat} {cs : List Con} : aokB n cs = cs.all (okC n) := by
  unfold aokB; congr 1; funext c; exact okZ_nat n c

theorem anL_64 {n : Nat} {cs : List Con} {l : List Int} (h : Zo.A64 l) (hok : cs.all (okC n) = true) : Zo.A64 (anL n cs l) := by
  unfold anL
  refine Zo.fold_keeps (R := Zo.A64) cs.length (fun x t ht hx => ?_) l h _ (Nat.le_refl _)
  unfold anS imin
  refine hx.min_ _ _ _ _ ?_ _
  rw [List.all_eq_true] at hok
  have := hok _ (List.getElem_mem ht)
  rw [show cs[t] = gc cs t by simp [gc, ht]] at this
  unfold okC at this
  simp only [Bool.and_eq_true] at this
  have := vl_of_lv this.2
  unfold Zo.Vl at this
  omega

theorem ch_an (N : Int) (l : List Int) (ao : Option Addr) (cap : Nat) (cs : List Con) (dao : Option Addr) (dc : Nat) (lb : Addr) (w : World) (hA : Arg w ao l) (hD : Arg3 w dao cs) (hdl : cs.length ≤ 1000) (hlb : w.cell? lb = some (.slice dao cs.length dc)) :
    Calls Try.prog 76 #[.agg #[.int .i64 N, .slice ao l.length cap], .bool (aokB N cs), .func (.func 77) #[] #[.pointer (some lb)]] w (ZRes w N (Zo.clo N.toNat (anL N.toNat cs l)) (anG N cs l)) := by
  by_cases hc : chkE N l = 0
  · obtain ⟨n, rfl, hn, hl, hne⟩ := chk_ok hc
    cases hk : aokB n cs
    · refine (changed_bad n l ao cap false _ w hA (Or.inr rfl)).mono fun e w' h => h.bad ?_
      unfold anG anE; rw [if_pos hc]
      rw [aok_nat] at hk
      simp only [Int.toNat_natCast]
      rw [hk]; rfl
    · have hk2 := hk
      rw [aok_nat] at hk2
      have := changed_ok n l (anL n cs l) ao cap 77 #[.pointer (some lb)] w hA hn hl hc (anL_64 (chk_64 hc).1 hk2) enter_an (fun W b hb hle hM => and2_any b n l cs dao dc lb w W hn hD hdl (fun k hk' => by
        rw [List.all_eq_true] at hk2
        have := hk2 _ (List.getElem_mem hk')
        rwa [show cs[k] = gc cs k by simp [gc, hk']] at this) hlb hb hle hM)
      rw [show anG (n : Int) cs l = cloE n (anL n cs l) by unfold anG anE; rw [if_pos hc]; simp only [Int.toNat_natCast]; rw [hk2]; rfl]
      exact this
  · refine (changed_bad N l ao cap _ _ w hA (Or.inl (by unfold okB; simpa using hc))).mono fun e w' h => h.bad ?_
    unfold anG; rw [if_neg hc]

set_option maxRecDepth 100000 in
set_option maxHeartbeats 4000000 in
theorem zan_gen (N : Int) (l : List Int) (ao : Option Addr) (cap : Nat) (cs : List Con) (dao : Option Addr) (dc : Nat) (w : World) (hA : Arg w ao l) (hD : Arg3 w dao cs) (hdl : cs.length ≤ 1000) :
    Calls Try.prog 24 #[.agg #[.int .i64 N, .slice ao l.length cap], .slice dao cs.length dc] w (ZRes w N (Zo.clo N.toNat (anL N.toNat cs l)) (anG N cs l)) := by
  have CH := Lib.hid (show ∀ W lb, Below w.heap.size w W → W.cell? lb = some (.slice dao cs.length dc) → _ from fun W lb h hp => ch_an N l ao cap cs dao dc lb W (hA.on h) (hD.on h) hdl hp)
  have CT := Lib.hid (show ∀ W pb, Below w.heap.size w W → W.cell? ⟨pb, 0, none⟩ = some (.int .i64 N) → W.cell? ⟨pb, 1, none⟩ = some (.slice ao l.length cap) → _ from fun W pb h hp hq => contains_any N (.slice ao l.length cap) pb cs dao dc W (hD.on h) hdl hp hq)
  generalize Zo.clo N.toNat (anL N.toNat cs l) = r at *
  generalize anG N cs l = er at *
  generalize aokB N cs = ck at *
  generalize l.length = len at *
  generalize cs.length = clen at *
  obtain ⟨w0, hw0⟩ : ∃ w0, w0 = ((w.alloc (.cells #[.int .i64 N, .slice ao len cap] 25)).alloc (.cells #[.slice dao clen dc] 35)).alloc (.cells #[.int .i64 0, .slice none 0 0] 25) := ⟨_, rfl⟩
  have b0 : w0.cell? ⟨w.heap.size, 0, none⟩ = some (.int .i64 N) := by rw [hw0]; go_simp
  have b1 : w0.cell? ⟨w.heap.size, 1, none⟩ = some (.slice ao len cap) := by rw [hw0]; go_simp
  have b2 : w0.cell? ⟨w.heap.size + 1, 0, none⟩ = some (.slice dao clen dc) := by rw [hw0]; go_simp
  have rs : Two w0 (w.heap.size + 1 + 1) (.int .i64 0) (.slice none 0 0) := by
    rw [hw0]
    have := Two.made ((w.alloc (.cells #[.int .i64 N, .slice ao len cap] 25)).alloc (.cells #[.slice dao clen dc] 35)) (.int .i64 0) (.slice none 0 0) 25
    simpa using this
  have z0 : w0.heap.size = w.heap.size + 3 := by rw [hw0]; simp
  have E0 := Lib.hid (show Below w.heap.size w w0 by rw [hw0]; exact past_three (Below.refl _ _))
  have KS := Lib.hid (show ∀ w' : World, Below w0.heap.size w0 w' → w'.cell? ⟨w.heap.size, 0, none⟩ = some (.int .i64 N) ∧ w'.cell? ⟨w.heap.size, 1, none⟩ = some (.slice ao len cap) ∧ w'.cell? ⟨w.heap.size + 1, 0, none⟩ = some (.slice dao clen dc) from fun w' h => ⟨kept h b0, kept h b1, kept h b2⟩)
  have HRS := Lib.hid rs
  clear hA hD hdl rs
  go_enter Try.func24, Try.ntmps24
  go_wp2_with fail
  rw [← hw0]
  clear hw0
  refine (CT.out _ _ E0.out b0 b1).mono ?_
  rintro e w1 ⟨rfl, hb1⟩
  clear b0 b1 b2
  obtain ⟨b0, b1, b2⟩ := KS.out _ hb1
  have B1 := Lib.hid hb1
  clear hb1
  go_wp2_with fail
  refine (CH.out _ _ (below_on E0.out B1.out) b2).mono ?_
  intro e w4 hG
  obtain ⟨hb4, hres⟩ := hG
  have HB4 := Lib.hid (below_on B1.out hb4)
  obtain ⟨q0, q1, q2, q3⟩ := (HRS.out.kept HB4.out).facts
  have h1s := B1.out.size
  clear b0 b1 b2
  rcases hres with ⟨he, g, c, rfl, hgl, hO⟩ | ⟨he, rfl⟩
  · have HO := Lib.hid hO
    subst he
    clear hO hb4
    go_wp2_with fail
    refine bodyPost_ret (v := .tuple #[.agg #[.int .i64 N, .slice (some ⟨g, 0, none⟩) r.length c], .int .i64 0]) (by simp [results, Try.results24, go_sem, q0, q1]) rfl (zres_over E0.out HB4.out HO.out (by omega) (by omega) (by omega) _ _)
  · have HEE := Lib.hid he
    clear he hb4
    go_wp2_with fail
    refine bodyPost_ret (v := .tuple #[.agg #[.int .i64 0, .slice none 0 0], .int .i64 er]) (by simp [results, Try.results24, go_sem, q0, q1]) rfl (zres_over0 E0.out HB4.out HEE.out (by omega) _ _)
end Go.Proofs.Ytbnebinpemejlaa
