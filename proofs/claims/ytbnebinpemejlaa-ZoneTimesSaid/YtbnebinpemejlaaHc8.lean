/- The contract of layer 3's Point: the walk.; The contract of layer 3's Point, for whatever zone.; The contract of Copy of layer 3's reference; and of Reset of any zone.; Plain mathematics: constraints on what is closed; Reset and Copy in one closing.; The changes of layer 3's Reset and Copy.; Contracts of layer 3's Reset and Copy. -/
import Derived.Test.YtbnebinpemejlaaHc7
import Derived.Test.YtbnebinpemejlaaHc6

namespace Go.Proofs.Ytbnebinpemejlaa
open Go.RowKit

theorem OwnQ.ne {w : World} {B g c b m n : Nat} {l : List Int} {xs : List Value} (h : w.ownsRow B 52 2 (.slice (some ⟨g, 0, none⟩) m c) m xs) (hM : Mx w b n l) : b ≠ g := by
  rcases h.2 with ⟨q, _⟩ | ⟨g', cap, cur, q, _, hh, _⟩
  · cases q
  · injection q with q1 _ _
    injection q1 with q1
    injection q1 with q1 _ _
    subst q1
    rintro rfl
    have := hM.1
    rw [hh] at this
    injection this with this
    injection this with _ ht _
    exact absurd ht (by decide)

theorem OwnQ.cap {w : World} {B g c m : Nat} {xs : List Value} (h : w.ownsRow B 52 2 (.slice (some ⟨g, 0, none⟩) m c) m xs) : m ≤ c ∧ c ≤ maxLen := by
  rcases h.2 with ⟨q, _⟩ | ⟨g', cap, cur, q, _, hh, h1, h2, _⟩
  · cases q
  · injection q with _ _ q3
    omega

/-- The frame: a zone that is a parameter, boxed. -/
theorem qbox (N : Int) (ao : Option Addr) (len cap : Nat) (w : World) : ∃ w0, w0 = w.alloc (.cells #[.int .i64 N, .slice ao len cap] 25) ∧ Below w.heap.size w w0 ∧
    (∀ W : World, Below w0.heap.size w0 W → (W.cell? ⟨w.heap.size, 0, none⟩ = some (.int .i64 N) ∧ W.cell? ⟨w.heap.size, 1, none⟩ = some (.slice ao len cap))) := by
  refine ⟨_, rfl, one_more _, fun W h => ?_⟩
  have bx := (Two.made w (.int .i64 N) (.slice ao len cap) 25).kept h
  exact ⟨bx.facts.1, bx.facts.2.1⟩

set_option maxRecDepth 100000 in
set_option maxHeartbeats 8000000 in
theorem point_ok (n : Nat) (l : List Int) (a : Addr) (cap : Nat) (w : World) (hn : n ≤ 10) (hl : l.length = (n + 1) * (n + 1)) (hc : chkE n l = 0) (hR : Rd w a l) :
    Calls Try.prog 50 #[.agg #[.int .i64 n, .slice (some a) l.length cap]] w (QRes w ((ptR n l n).1.drop 1) (ptR n l n).2) := by
  have hz := mx_zero
  have sz : (mcs n l).size = 122 := mcs_size (by rw [hl]; exact dsq_le hn)
  have s1 := mcs_one n l
  obtain ⟨i0, hi, hz0, hz1, hz2⟩ := info_parts rat_info
  have CO := Lib.hid (show ∀ W, Below w.heap.size w W → Calls Try.prog 67 #[.agg #[.int .i64 n, .slice (some a) l.length cap]] W (fun e w' => e = .returned (.tuple #[.agg (mcs n l), .bool true]) ∧ Below W.heap.size W w') from fun W h => by
    have := open_gen n l (some a) cap W (fun _ => ⟨a, rfl, hR.on h⟩)
    rwa [rdW_ok hc, show okB n l = true by unfold okB; rw [hc]; rfl] at this)
  have i64 : ∀ i j, i ≤ n → j ≤ n → I64 (Zo.At n l i j) := fun i j hi hj => chk_i64 hc hi hj
  have CH := Lib.hid (show ∀ (t : Nat) (b0 : Nat) (g c : Nat) (W : World), t < n → (ptR n l t).2 = 0 → Mx W b0 n l → Rd2 W ⟨g, 0, none⟩ (ptR n l t).1 → Calls Try.prog 101 #[.pointer (some ⟨b0, 0, none⟩), .slice (some ⟨g, 0, none⟩) (t + 1) c] W (Made (.tuple #[.agg (cxR n l (ptR n l t).1 (t + 1) (t + 1)).1.cs, .int .i64 (cxR n l (ptR n l t).1 (t + 1) (t + 1)).2]) W) from fun t b0 g c W ht he hM hP =>
    choices_any n (t + 1) l (ptR n l t).1 b0 ⟨g, 0, none⟩ c W hn ((pt_fits t).2 he) (by omega) (by omega) hM hP (pt_fits t).1 i64)
  have HLE := Lib.hid hl
  have PS := Lib.hid (fun t h => pt_succ (n := n) (l := l) (t := t) h)
  have PY := Lib.hid (fun t m h he => pt_stay (n := n) (l := l) (t := t) (m := m) h he)
  have PL := Lib.hid (fun t h => (pt_fits (n := n) (l := l) t).2 h)
  have PX := Lib.hid (fun t => cx_ok n l (ptR n l t).1 (t + 1) (t + 1))
  generalize l.length = len at CO ⊢
  obtain ⟨w0, hw0, e0, ks⟩ := qbox n (some a) len cap w
  have E0 := Lib.hid e0
  have HW0 := Lib.hid hw0
  obtain ⟨b0, b1⟩ := ks w0 (Below.refl _ _)
  clear ks e0 hw0 hl hc hR i64
  go_enter Try.func50, Try.ntmps50
  go_upto_region 1 with (fail)
  rw [← HW0.out]
  go_wp2_with fail
  refine (CO.out _ E0.out).mono ?_
  rintro e w1 ⟨rfl, hb1⟩
  obtain ⟨w2, hw2⟩ : ∃ w2, w2 = (w1.alloc (.cells (mcs 0 []) 80)).setRow w1.heap.size (mcs n l) := ⟨_, rfl⟩
  have M2 := Lib.hid (show Mx w2 w1.heap.size n l by rw [hw2]; exact ⟨((Var.made w1).put (mcs n l) sz).1, HLE.out⟩)
  have B2 := Lib.hid (show Below w0.heap.size w0 w2 by rw [hw2]; exact Below.setRow (hb1.alloc hb1.size _) hb1.size _)
  clear b0 b1 hb1
  go_wp2_with (refine wpl_store rfl _ _ rfl _ _ rfl rfl _ (Var.made _) sz s1 ?_)
  rw [← hw2]
  clear hw2
  refine (qzero_any _).mono ?_
  rintro e w3 ⟨rfl, hb3⟩
  have M3 := Lib.hid (M2.out.kept (r := none) ⟨hb3.os, hb3.tape, hb3.output, hb3.size, fun k hk _ => hb3.block k hk⟩ (by simp))
  have B3 := Lib.hid (below_on B2.out hb3)
  clear hb3
  obtain ⟨w4, hw4⟩ : ∃ w4, w4 = w3.alloc (.cells #[.int .i64 0, .int .i64 1] 52) := ⟨_, rfl⟩
  have M4 := Lib.hid (show Mx w4 w1.heap.size n l by rw [hw4]; exact M3.out.alloc _)
  have B4 := Lib.hid (show Below w0.heap.size w0 w4 by rw [hw4]; exact B3.out.alloc B3.out.size _)
  have O4 := Lib.hid (show OwnQ w4 w0.heap.size (.slice (some ⟨w3.heap.size, 0, none⟩) 1 1) (ptR n l 0).1 by
    rw [hw4]
    have := World.ownsRow_lit (base := w0.heap.size) (e := 52) (size := 2) w3 #[.int .i64 0, .int .i64 1] 1 B3.out.size (by unfold maxLen; omega) (by simp)
    exact this)
  have d4 := M4.out.dim
  go_upto_region 5 with (fail)
  rw [← hw4]
  clear hw4
  go_wp2_with fail
  clear d4
  go_loopw [6, 21] (fun v s wr => ∃ t : Nat, t ≤ n ∧ s = .int .i64 t ∧ Hid ((ptR n l t).2 = 0 ∧ OwnQ wr w0.heap.size v (ptR n l t).1 ∧ Mx wr w1.heap.size n l ∧ Below w0.heap.size w0 wr)) (fun _ s _ => n - (intOf s).toNat)
  case atStart => exact ⟨0, by omega, rfl, Lib.hid ⟨rfl, O4.out, M4.out, B4.out⟩⟩
  case round =>
    obtain ⟨t, ht, rfl, HX⟩ := hrel
    obtain ⟨hx1, hx2, hx3, hx4⟩ := HX.out
    have hlen := PL.out t hx1
    unfold OwnQ at hx2
    rw [hlen] at hx2
    obtain ⟨g, c, rfl⟩ := Joins.ownsRow_form hx2 (by omega)
    have OQ := Lib.hid (show OwnQ wr w0.heap.size (.slice (some ⟨g, 0, none⟩) (ptR n l t).1.length c) (ptR n l t).1 by unfold OwnQ; rw [hlen]; exact hx2)
    have X1 := Lib.hid hx1
    have X3 := Lib.hid hx3
    have X4 := Lib.hid hx4
    have XL := Lib.hid hlen
    clear hx1 hx2 hx3 hx4 hlen HX
    by_cases htn : t < n
    case pos =>
      have D9 : decide ((t : Int) < (n : Int)) = true := by simp; omega
      have CX := Lib.hid (CH.out t w1.heap.size g c _ htn X1.out X3.out OQ.out.rd)
      have PS1 := Lib.hid (PS.out t X1.out)
      have PX1 := Lib.hid (PX.out t)
      obtain ⟨y, hy⟩ : ∃ y, y = cxR n l (ptR n l t).1 (t + 1) (t + 1) := ⟨_, rfl⟩
      rw [← hy] at CX PS1 PX1
      unfold Dl.cs at CX
      have HY := Lib.hid hy
      clear hy
      obtain ⟨y, ye⟩ := y
      simp only at CX PS1 PX1
      go_wp2_with fail
      refine CX.out.mono ?_
      rintro e w5 ⟨rfl, hb5⟩
      obtain ⟨w6, hw6⟩ : ∃ w6, w6 = w5.alloc (.cells y.cs 64) := ⟨_, rfl⟩
      have D6 := Lib.hid (show Dbx w6 w5.heap.size y by rw [hw6]; exact Drow.made _ _)
      have B56 := Lib.hid (show Below _ _ w6 by rw [hw6]; exact hb5.alloc hb5.size _)
      unfold Dl.cs at hw6
      clear hb5
      go_upto_region 8 with (fail)
      rw [← hw6]
      clear hw6
      by_cases hye : ye = 0
      case neg =>
        have DE : (ye != 0) = true := by simpa using hye
        have HN := Lib.hid (show (ptR n l n).2 = ye from by
          have h1 : (ptR n l (t + 1)).2 = ye := by rw [PS1.out, if_neg hye]
          rw [PY.out (t + 1) n (by omega) (by rw [h1]; exact hye), h1])
        have HNE := Lib.hid hye
        clear hye
        go_wp2_with fail
        go_ret2
        rw [HN.out]
        exact ⟨below_on E0.out (below_on X4.out B56.out), Or.inr ⟨HNE.out, rfl⟩⟩
      case pos =>
        have CC := Lib.hid (fun W => choose_any y W PX1.out)
        have PS2 := Lib.hid (show ptR n l (t + 1) = if chE y = 0 then ((ptR n l t).1 ++ [(chN y, chD y)], 0) else ((ptR n l t).1, chE y) by rw [PS1.out, if_pos hye])
        subst hye
        unfold Dl.cs at CC
        generalize chN y = cn at *
        generalize chD y = cd at *
        generalize chE y = ce at *
        obtain ⟨q0, q1, q2, q3, q4, q5, q6⟩ := D6.out.facts
        go_wp2_with fail
        refine (CC.out _).mono ?_
        rintro e w7 ⟨rfl, hb7⟩
        clear q0 q1 q2 q3 q4 q5 q6
        obtain ⟨w8, hw8⟩ : ∃ w8, w8 = w7.alloc (.cells #[.int .i64 cn, .int .i64 cd] 52) := ⟨_, rfl⟩
        have P8 := Lib.hid (show Pair w8 w7.heap.size cn cd by rw [hw8]; exact Pair.made _ _ _ _)
        have B8 := Lib.hid (show Below _ _ w8 by rw [hw8]; exact (below_on B56.out hb7).alloc (below_on B56.out hb7).size _)
        clear hb7
        go_upto_region 11 with (fail)
        rw [← hw8]
        clear hw8
        by_cases hce : ce = 0
        case neg =>
          have DE : (ce != 0) = true := by simpa using hce
          have HN := Lib.hid (show (ptR n l n).2 = ce from by
            have h1 : (ptR n l (t + 1)).2 = ce := by rw [PS2.out, if_neg hce]
            rw [PY.out (t + 1) n (by omega) (by rw [h1]; exact hce), h1])
          have HNE := Lib.hid hce
          clear hce
          go_wp2_with fail
          go_ret2
          rw [HN.out]
          exact ⟨below_on E0.out (below_on X4.out B8.out), Or.inr ⟨HNE.out, rfl⟩⟩
        case pos =>
          have PS3 := Lib.hid (show ptR n l (t + 1) = ((ptR n l t).1 ++ [(cn, cd)], 0) by rw [PS2.out, if_pos hce])
          subst hce
          obtain ⟨p0, p1, p2, p3⟩ := P8.out.facts
          have Q8 := Lib.hid (below_on X4.out B8.out)
          have hsz := Q8.out.size
          have hown := OQ.out.on B8.out
          unfold OwnQ at hown
          rw [XL.out] at hown
          have A9 := Lib.hid (cells_two (w := w8) (.int .i64 cn) (.int .i64 cd) 52 rfl)
          go_wp2_with (at_builtin; refine wpList_append_own _ rfl _ _ 48 rfl w0.heap.size 52 i0 (.agg #[.int .i64 0, .int .i64 0]) 2 16 Try.underlying48 hi hz0 hz1 hz2 rfl (by decide) _ _ _ rfl (World.ownsRow.alloc hown _) ⟨w8.heap.size, 0, none⟩ 1 1 [.int .i64 cn, .int .i64 cd] rfl rfl A9.out (by simp [Value.oneCell']) (by unfold maxLen; omega) (by omega) (by simp; omega) ?_)
          intro v' w9 hown9 hgrow _
          have B9 := Lib.hid (show Below w0.heap.size w0 w9 from Below.grown (Q8.out.alloc Q8.out.size _) hgrow (by simp; omega) (fun k hk => (World.ownsRow.lt hown k hk).1))
          have M9 := Lib.hid (show Mx w9 w1.heap.size n l from ((X3.out.of_block ((B8.out).block _ X3.out.lt)).alloc _).kept hgrow (by
            have hne := OwnQ.ne hown (X3.out.of_block ((B8.out).block _ X3.out.lt))
            simpa [Value.ownBlock] using hne))
          have HN := Lib.hid (show (ptR n l (t + 1)).2 = 0 ∧ OwnQ w9 w0.heap.size v' (ptR n l (t + 1)).1 ∧ Mx w9 w1.heap.size n l ∧ Below w0.heap.size w0 w9 from by
            rw [PS3.out]
            refine ⟨rfl, ?_, M9.out, B9.out⟩
            unfold OwnQ
            rw [qV_app, List.length_append, XL.out]
            exact hown9)
          clear hown9 hgrow hown hsz p0 p1 p2 p3
          go_wp2_with fail
          go_roundw
          case rel => exact ⟨t + 1, by omega, by go_num, HN⟩
          case measure => simp [intOf]; omega
    case neg =>
      obtain rfl : t = n := by omega
      have D9 : decide ((t : Int) < (t : Int)) = false := by simp
      have hcap : t + 1 ≤ c ∧ c ≤ maxLen := by
        have := OQ.out
        unfold OwnQ at this
        rw [XL.out] at this
        exact OwnQ.cap this
      obtain ⟨hc1, hc2⟩ := hcap
      unfold maxLen at hc2
      have HT := Lib.hid (show ((ptR t l t).1.drop 1).length = t by simp [XL.out])
      by_cases hcc : c = 1
      case pos =>
        subst hcc
        obtain rfl : t = 0 := by omega
        go_wp2_with fail
        go_ret2
        refine ⟨below_on E0.out X4.out, Or.inl ⟨X1.out, some ⟨g, 0, none⟩, 0, ?_, fun q => absurd (List.eq_nil_of_length_eq_zero (by simpa using HT.out)) q⟩⟩
        show Ending.returned (.tuple #[.slice (some ⟨g, 0, none⟩) 0 0, .int .i64 0]) = _
        rw [HT.out]
      case neg =>
        have hc3 : (c == 1) = false := by simpa using hcc
        go_wp2_with fail
        go_ret2
        refine ⟨below_on E0.out X4.out, Or.inl ⟨X1.out, some ⟨g, 2, none⟩, c - 1, ?_, fun _ => ⟨_, rfl, ?_⟩⟩⟩
        · show Ending.returned (.tuple #[.slice (some ⟨g, 2, none⟩) t (c - 1), .int .i64 0]) = _
          rw [HT.out]
        · exact OQ.out.rd1
end Go.Proofs.Ytbnebinpemejlaa

namespace Go.Proofs.Ytbnebinpemejlaa
open Go.RowKit

set_option maxRecDepth 100000 in
set_option maxHeartbeats 4000000 in
theorem point_bad (N : Int) (l : List Int) (ao : Option Addr) (cap : Nat) (w : World) (hA : Arg w ao l) (hc : chkE N l ≠ 0) :
    Calls Try.prog 50 #[.agg #[.int .i64 N, .slice ao l.length cap]] w (QRes w [] 2) := by
  have hz := mx_zero
  have sz := rdW_size N l
  have s1 := rdW_one N l
  have CO := Lib.hid (show ∀ W, Below w.heap.size w W → Calls Try.prog 67 #[.agg #[.int .i64 N, .slice ao l.length cap]] W (fun e w' => e = .returned (.tuple #[.agg (rdW N l), .bool false]) ∧ Below W.heap.size W w') from fun W h => by
    have := open_gen N l ao cap W (hA.on h)
    rwa [show okB N l = false by unfold okB; simp [hc]] at this)
  generalize rdW N l = A at *
  generalize l.length = len at CO ⊢
  obtain ⟨w0, hw0, e0, ks⟩ := qbox N ao len cap w
  have E0 := Lib.hid e0
  have HW0 := Lib.hid hw0
  obtain ⟨b0, b1⟩ := ks w0 (Below.refl _ _)
  clear ks e0 hw0 hA hc
  go_enter Try.func50, Try.ntmps50
  go_upto_region 1 with (fail)
  rw [← HW0.out]
  go_wp2_with fail
  refine (CO.out _ E0.out).mono ?_
  rintro e w1 ⟨rfl, hb1⟩
  obtain ⟨w2, hw2⟩ : ∃ w2, w2 = (w1.alloc (.cells (mcs 0 []) 80)).setRow w1.heap.size A := ⟨_, rfl⟩
  have B2 := Lib.hid (show Below w0.heap.size w0 w2 by rw [hw2]; exact Below.setRow (hb1.alloc hb1.size _) hb1.size _)
  clear b0 b1 hb1
  go_wp2_with (refine wpl_store rfl _ _ rfl _ _ rfl rfl _ (Var.made _) sz s1 ?_)
  rw [← hw2]
  clear hw2
  go_ret2
  exact ⟨below_on E0.out B2.out, Or.inr ⟨by decide, rfl⟩⟩

/-- What Point returns: the values, and the error. -/
def pnL (N : Int) (l : List Int) : List Pq := if chkE N l = 0 then (ptR N.toNat l N.toNat).1.drop 1 else []

def pnE (N : Int) (l : List Int) : Int := if chkE N l = 0 then (ptR N.toNat l N.toNat).2 else 2

theorem zpoint_gen (N : Int) (l : List Int) (ao : Option Addr) (cap : Nat) (w : World) (hA : Arg w ao l) :
    Calls Try.prog 50 #[.agg #[.int .i64 N, .slice ao l.length cap]] w (QRes w (pnL N l) (pnE N l)) := by
  unfold pnL pnE
  by_cases hc : chkE N l = 0
  · rw [if_pos hc, if_pos hc]
    obtain ⟨n, rfl, hn, hl, hne⟩ := chk_ok hc
    obtain ⟨a, rfl, hR⟩ := hA hne
    exact point_ok n l a cap w hn hl hc hR
  · rw [if_neg hc, if_neg hc]
    exact point_bad N l ao cap w hA hc
end Go.Proofs.Ytbnebinpemejlaa

namespace Go.Proofs.Ytbnebinpemejlaa
open Go.RowKit

def reG (N : Int) (l : List Int) (i c : Int) : Int := if chkE N l = 0 ∧ 1 ≤ i ∧ i ≤ N ∧ cnB c = true then reE N.toNat i.toNat c l else 2

theorem re_gen (N : Int) (l : List Int) (ao : Option Addr) (cap : Nat) (i c : Int) (w : World) (hA : Arg w ao l) :
    Calls Try.prog 31 #[.agg #[.int .i64 N, .slice ao l.length cap], .int .i64 i, .int .i64 c] w (ZRes w N (reL N.toNat i.toNat c l) (reG N l i c)) := by
  by_cases hc : chkE N l = 0
  · obtain ⟨n, rfl, hn, hl, hne⟩ := chk_ok hc
    obtain ⟨a, rfl, hR⟩ := hA hne
    by_cases h1 : i < 1
    · exact (re_out0 n l a cap i c w hn hl hR hc h1).mono fun e w' h => h.bad (by unfold reG; rw [if_neg (by omega)])
    by_cases h2 : (n : Int) < i
    · exact (re_out1 n l a cap i c w hn hl hR hc h1 h2).mono fun e w' h => h.bad (by unfold reG; rw [if_neg (by omega)])
    cases h3 : cnB c
    · exact (re_out2 n l a cap i c w hn hl hR hc h1 h2 h3).mono fun e w' h => h.bad (by unfold reG; rw [h3, if_neg (by simp)])
    obtain ⟨k, rfl⟩ : ∃ k : Nat, i = k := ⟨i.toNat, by omega⟩
    have := re_any n l a cap k c w hn hl hR hc (by omega) (by omega) h3
    rw [show reG (n : Int) l (k : Int) c = reE n k c l by unfold reG; rw [if_pos ⟨hc, by omega, by omega, h3⟩]; rfl]
    exact this
  · exact (re_bad N l ao cap i c w hA (chk_two hc)).mono fun e w' h => h.bad (by unfold reG; rw [if_neg (fun x => hc x.1)])

def cyL (n i j : Nat) (l : List Int) : List Int := Zo.clo n (anL n (isC i j 0) (reM n i l))

def cyE (n i j : Nat) (l : List Int) : Int := if cloE n (frL n i l) = 0 then anG n (isC i j 0) (reM n i l) else cloE n (frL n i l)

set_option maxHeartbeats 400000 in
theorem cy_bad (N : Int) (l : List Int) (ao : Option Addr) (cap : Nat) (i j : Int) (w : World) (hA : Arg w ao l) (hc : chkE N l = 2) :
    Calls Try.prog 37 #[.agg #[.int .i64 N, .slice ao l.length cap], .int .i64 i, .int .i64 j] w (ZRes w 0 [] 2) := by
  have CK := Lib.hid fun W (h : Below w.heap.size w W) => check_as (cap := cap) W (hA.on h) hc
  generalize l.length = len at *
  obtain ⟨w0, hw0⟩ : ∃ w0, w0 = (w.alloc (.cells #[.int .i64 N, .slice ao len cap] 25)).alloc (.cells #[.int .i64 0, .slice none 0 0] 25) := ⟨_, rfl⟩
  have bx : Two w0 w.heap.size (.int .i64 N) (.slice ao len cap) := by rw [hw0]; exact (Two.made _ _ _ _).alloc _
  have rs : Two w0 (w.heap.size + 1) (.int .i64 0) (.slice none 0 0) := by
    rw [hw0]
    have := Two.made (w.alloc (.cells #[.int .i64 N, .slice ao len cap] 25)) (.int .i64 0) (.slice none 0 0) 25
    simpa using this
  have e0 : Below w.heap.size w w0 := by rw [hw0]; exact past_two (Below.refl _ _)
  have E0 := Lib.hid e0
  clear e0 hA hc
  go_enter Try.func37, Try.ntmps37
  go_wp2_with fail
  rw [← hw0]
  clear hw0
  obtain ⟨b0, b1, b2, b3⟩ := bx.facts
  go_wp2_with fail
  refine (CK.out _ E0.out).mono ?_
  rintro e w1 ⟨rfl, hb1⟩
  clear b0 b1 b2 b3
  replace rs := rs.kept hb1
  replace E0 := Lib.hid (below_on E0.out hb1)
  clear hb1 bx
  obtain ⟨b0, b1, b2, b3⟩ := rs.facts
  go_wp2_with fail
  refine bodyPost_ret (v := .tuple #[.agg #[.int .i64 0, .slice none 0 0], .int .i64 2]) (by simp [results, Try.results37, go_sem, b0, b1]) rfl (zres_bad ?_)
  exact (E0.out.setCell (by show w.heap.size ≤ w.heap.size + 1; omega) _).setCell (by show w.heap.size ≤ w.heap.size + 1; omega) _

set_option maxHeartbeats 800000 in
theorem cy_out0 (n : Nat) (l : List Int) (a : Addr) (cap : Nat) (i j : Int) (w : World) (hn : n ≤ 10) (hl : l.length = (n + 1) * (n + 1)) (hR : Rd w a l) (hc : chkE n l = 0) (hi : i < 1) :
    Calls Try.prog 37 #[.agg #[.int .i64 n, .slice (some a) l.length cap], .int .i64 i, .int .i64 j] w (ZRes w 0 [] 2) := by
  obtain ⟨len, hlen⟩ : ∃ len, len = l.length := ⟨_, rfl⟩
  obtain ⟨w0, hw0⟩ : ∃ w0, w0 = (w.alloc (.cells #[.int .i64 n, .slice (some a) len cap] 25)).alloc (.cells #[.int .i64 0, .slice none 0 0] 25) := ⟨_, rfl⟩
  have bx : Two w0 w.heap.size (.int .i64 n) (.slice (some a) len cap) := by rw [hw0]; exact (Two.made _ _ _ _).alloc _
  have rs : Two w0 (w.heap.size + 1) (.int .i64 0) (.slice none 0 0) := by
    rw [hw0]
    have := Two.made (w.alloc (.cells #[.int .i64 n, .slice (some a) len cap] 25)) (.int .i64 0) (.slice none 0 0) 25
    simpa using this
  have z0 : w0.heap.size = w.heap.size + 2 := by rw [hw0]; simp
  have e0 : Below w.heap.size w w0 := by rw [hw0]; exact past_two (Below.refl _ _)
  have R0 := hR.on e0
  have CK : Hid (∀ W, Rd W a l → Calls Try.prog 18 #[.agg #[.int .i64 n, .slice (some a) len cap]] W (Made (.int .i64 0) W)) := Lib.hid fun W h => by have := check_any n l a cap W hn hl h; rw [hc, ← hlen] at this; exact this
  have CP : Hid (∀ W, Rd W a l → Calls Try.prog 66 #[.agg #[.int .i64 n, .slice (some a) len cap]] W (fun e w' => ∃ g c, e = .returned (.agg #[.int .i64 n, .slice (some ⟨g, 0, none⟩) len c]) ∧ W.heap.size ≤ g ∧ Own w' g c l ∧ Below W.heap.size W w')) := Lib.hid fun W h => by have := copied_any n l a cap W (by rw [hl]; exact dsq_pos n) (by rw [hl]; have := dsq_le hn; omega) h; rw [← hlen] at this; exact this
  have HR := Lib.hid R0
  have HL := Lib.hid hl
  have HLn := Lib.hid hlen
  have E0 := Lib.hid e0
  rw [← hlen]
  clear hR R0 hl hlen hc e0
  go_enter Try.func37, Try.ntmps37
  go_wp2_with fail
  rw [← hw0]
  clear hw0
  obtain ⟨b0, b1, b2, b3⟩ := bx.facts
  go_wp2_with fail
  refine (CK.out _ HR.out).mono ?_
  rintro e w1 ⟨rfl, hb1⟩
  clear b0 b1 b2 b3
  replace bx := bx.kept hb1
  replace rs := rs.kept hb1
  have HR1 := Lib.hid (HR.out.on hb1)
  have E1 := Lib.hid (below_on E0.out hb1)
  have z1 := hb1.size
  clear hb1 HR E0
  obtain ⟨b0, b1, b2, b3⟩ := bx.facts
  clear b0 b1 b2 b3
  obtain ⟨b0, b1, b2, b3⟩ := rs.facts
  obtain ⟨c0, c1, _, _⟩ := bx.facts
  go_wp2_with fail
  refine bodyPost_ret (v := .tuple #[.agg #[.int .i64 0, .slice none 0 0], .int .i64 2]) (by simp [results, Try.results37, go_sem, b0, b1]) rfl (zres_bad ?_)
  exact (E1.out.setCell (by show w.heap.size ≤ w.heap.size + 1; omega) _).setCell (by show w.heap.size ≤ w.heap.size + 1; omega) _

set_option maxHeartbeats 800000 in
theorem cy_out1 (n : Nat) (l : List Int) (a : Addr) (cap : Nat) (i j : Int) (w : World) (hn : n ≤ 10) (hl : l.length = (n + 1) * (n + 1)) (hR : Rd w a l) (hc : chkE n l = 0) (h1 : ¬ i < 1) (h2 : (n : Int) < i) :
    Calls Try.prog 37 #[.agg #[.int .i64 n, .slice (some a) l.length cap], .int .i64 i, .int .i64 j] w (ZRes w 0 [] 2) := by
  obtain ⟨len, hlen⟩ : ∃ len, len = l.length := ⟨_, rfl⟩
  obtain ⟨w0, hw0⟩ : ∃ w0, w0 = (w.alloc (.cells #[.int .i64 n, .slice (some a) len cap] 25)).alloc (.cells #[.int .i64 0, .slice none 0 0] 25) := ⟨_, rfl⟩
  have bx : Two w0 w.heap.size (.int .i64 n) (.slice (some a) len cap) := by rw [hw0]; exact (Two.made _ _ _ _).alloc _
  have rs : Two w0 (w.heap.size + 1) (.int .i64 0) (.slice none 0 0) := by
    rw [hw0]
    have := Two.made (w.alloc (.cells #[.int .i64 n, .slice (some a) len cap] 25)) (.int .i64 0) (.slice none 0 0) 25
    simpa using this
  have z0 : w0.heap.size = w.heap.size + 2 := by rw [hw0]; simp
  have e0 : Below w.heap.size w w0 := by rw [hw0]; exact past_two (Below.refl _ _)
  have R0 := hR.on e0
  have CK : Hid (∀ W, Rd W a l → Calls Try.prog 18 #[.agg #[.int .i64 n, .slice (some a) len cap]] W (Made (.int .i64 0) W)) := Lib.hid fun W h => by have := check_any n l a cap W hn hl h; rw [hc, ← hlen] at this; exact this
  have CP : Hid (∀ W, Rd W a l → Calls Try.prog 66 #[.agg #[.int .i64 n, .slice (some a) len cap]] W (fun e w' => ∃ g c, e = .returned (.agg #[.int .i64 n, .slice (some ⟨g, 0, none⟩) len c]) ∧ W.heap.size ≤ g ∧ Own w' g c l ∧ Below W.heap.size W w')) := Lib.hid fun W h => by have := copied_any n l a cap W (by rw [hl]; exact dsq_pos n) (by rw [hl]; have := dsq_le hn; omega) h; rw [← hlen] at this; exact this
  have HR := Lib.hid R0
  have HL := Lib.hid hl
  have HLn := Lib.hid hlen
  have E0 := Lib.hid e0
  rw [← hlen]
  clear hR R0 hl hlen hc e0
  go_enter Try.func37, Try.ntmps37
  go_wp2_with fail
  rw [← hw0]
  clear hw0
  obtain ⟨b0, b1, b2, b3⟩ := bx.facts
  go_wp2_with fail
  refine (CK.out _ HR.out).mono ?_
  rintro e w1 ⟨rfl, hb1⟩
  clear b0 b1 b2 b3
  replace bx := bx.kept hb1
  replace rs := rs.kept hb1
  have HR1 := Lib.hid (HR.out.on hb1)
  have E1 := Lib.hid (below_on E0.out hb1)
  have z1 := hb1.size
  clear hb1 HR E0
  obtain ⟨b0, b1, b2, b3⟩ := bx.facts
  clear b0 b1 b2 b3
  obtain ⟨b0, b1, b2, b3⟩ := rs.facts
  obtain ⟨c0, c1, _, _⟩ := bx.facts
  go_wp2_with fail
  refine bodyPost_ret (v := .tuple #[.agg #[.int .i64 0, .slice none 0 0], .int .i64 2]) (by simp [results, Try.results37, go_sem, b0, b1]) rfl (zres_bad ?_)
  exact (E1.out.setCell (by show w.heap.size ≤ w.heap.size + 1; omega) _).setCell (by show w.heap.size ≤ w.heap.size + 1; omega) _

set_option maxHeartbeats 800000 in
theorem cy_out2 (n : Nat) (l : List Int) (a : Addr) (cap : Nat) (i j : Int) (w : World) (hn : n ≤ 10) (hl : l.length = (n + 1) * (n + 1)) (hR : Rd w a l) (hc : chkE n l = 0) (h1 : ¬ i < 1) (h2 : ¬ (n : Int) < i) (h3 : j < 0) :
    Calls Try.prog 37 #[.agg #[.int .i64 n, .slice (some a) l.length cap], .int .i64 i, .int .i64 j] w (ZRes w 0 [] 2) := by
  obtain ⟨len, hlen⟩ : ∃ len, len = l.length := ⟨_, rfl⟩
  obtain ⟨w0, hw0⟩ : ∃ w0, w0 = (w.alloc (.cells #[.int .i64 n, .slice (some a) len cap] 25)).alloc (.cells #[.int .i64 0, .slice none 0 0] 25) := ⟨_, rfl⟩
  have bx : Two w0 w.heap.size (.int .i64 n) (.slice (some a) len cap) := by rw [hw0]; exact (Two.made _ _ _ _).alloc _
  have rs : Two w0 (w.heap.size + 1) (.int .i64 0) (.slice none 0 0) := by
    rw [hw0]
    have := Two.made (w.alloc (.cells #[.int .i64 n, .slice (some a) len cap] 25)) (.int .i64 0) (.slice none 0 0) 25
    simpa using this
  have z0 : w0.heap.size = w.heap.size + 2 := by rw [hw0]; simp
  have e0 : Below w.heap.size w w0 := by rw [hw0]; exact past_two (Below.refl _ _)
  have R0 := hR.on e0
  have CK : Hid (∀ W, Rd W a l → Calls Try.prog 18 #[.agg #[.int .i64 n, .slice (some a) len cap]] W (Made (.int .i64 0) W)) := Lib.hid fun W h => by have := check_any n l a cap W hn hl h; rw [hc, ← hlen] at this; exact this
  have CP : Hid (∀ W, Rd W a l → Calls Try.prog 66 #[.agg #[.int .i64 n, .slice (some a) len cap]] W (fun e w' => ∃ g c, e = .returned (.agg #[.int .i64 n, .slice (some ⟨g, 0, none⟩) len c]) ∧ W.heap.size ≤ g ∧ Own w' g c l ∧ Below W.heap.size W w')) := Lib.hid fun W h => by have := copied_any n l a cap W (by rw [hl]; exact dsq_pos n) (by rw [hl]; have := dsq_le hn; omega) h; rw [← hlen] at this; exact this
  have HR := Lib.hid R0
  have HL := Lib.hid hl
  have HLn := Lib.hid hlen
  have E0 := Lib.hid e0
  rw [← hlen]
  clear hR R0 hl hlen hc e0
  go_enter Try.func37, Try.ntmps37
  go_wp2_with fail
  rw [← hw0]
  clear hw0
  obtain ⟨b0, b1, b2, b3⟩ := bx.facts
  go_wp2_with fail
  refine (CK.out _ HR.out).mono ?_
  rintro e w1 ⟨rfl, hb1⟩
  clear b0 b1 b2 b3
  replace bx := bx.kept hb1
  replace rs := rs.kept hb1
  have HR1 := Lib.hid (HR.out.on hb1)
  have E1 := Lib.hid (below_on E0.out hb1)
  have z1 := hb1.size
  clear hb1 HR E0
  obtain ⟨b0, b1, b2, b3⟩ := bx.facts
  clear b0 b1 b2 b3
  obtain ⟨b0, b1, b2, b3⟩ := rs.facts
  obtain ⟨c0, c1, _, _⟩ := bx.facts
  go_wp2_with fail
  refine bodyPost_ret (v := .tuple #[.agg #[.int .i64 0, .slice none 0 0], .int .i64 2]) (by simp [results, Try.results37, go_sem, b0, b1]) rfl (zres_bad ?_)
  exact (E1.out.setCell (by show w.heap.size ≤ w.heap.size + 1; omega) _).setCell (by show w.heap.size ≤ w.heap.size + 1; omega) _

set_option maxHeartbeats 800000 in
theorem cy_out3 (n : Nat) (l : List Int) (a : Addr) (cap : Nat) (i j : Int) (w : World) (hn : n ≤ 10) (hl : l.length = (n + 1) * (n + 1)) (hR : Rd w a l) (hc : chkE n l = 0) (h1 : ¬ i < 1) (h2 : ¬ (n : Int) < i) (h3 : ¬ j < 0) (h4 : (n : Int) < j) :
    Calls Try.prog 37 #[.agg #[.int .i64 n, .slice (some a) l.length cap], .int .i64 i, .int .i64 j] w (ZRes w 0 [] 2) := by
  obtain ⟨len, hlen⟩ : ∃ len, len = l.length := ⟨_, rfl⟩
  obtain ⟨w0, hw0⟩ : ∃ w0, w0 = (w.alloc (.cells #[.int .i64 n, .slice (some a) len cap] 25)).alloc (.cells #[.int .i64 0, .slice none 0 0] 25) := ⟨_, rfl⟩
  have bx : Two w0 w.heap.size (.int .i64 n) (.slice (some a) len cap) := by rw [hw0]; exact (Two.made _ _ _ _).alloc _
  have rs : Two w0 (w.heap.size + 1) (.int .i64 0) (.slice none 0 0) := by
    rw [hw0]
    have := Two.made (w.alloc (.cells #[.int .i64 n, .slice (some a) len cap] 25)) (.int .i64 0) (.slice none 0 0) 25
    simpa using this
  have z0 : w0.heap.size = w.heap.size + 2 := by rw [hw0]; simp
  have e0 : Below w.heap.size w w0 := by rw [hw0]; exact past_two (Below.refl _ _)
  have R0 := hR.on e0
  have CK : Hid (∀ W, Rd W a l → Calls Try.prog 18 #[.agg #[.int .i64 n, .slice (some a) len cap]] W (Made (.int .i64 0) W)) := Lib.hid fun W h => by have := check_any n l a cap W hn hl h; rw [hc, ← hlen] at this; exact this
  have CP : Hid (∀ W, Rd W a l → Calls Try.prog 66 #[.agg #[.int .i64 n, .slice (some a) len cap]] W (fun e w' => ∃ g c, e = .returned (.agg #[.int .i64 n, .slice (some ⟨g, 0, none⟩) len c]) ∧ W.heap.size ≤ g ∧ Own w' g c l ∧ Below W.heap.size W w')) := Lib.hid fun W h => by have := copied_any n l a cap W (by rw [hl]; exact dsq_pos n) (by rw [hl]; have := dsq_le hn; omega) h; rw [← hlen] at this; exact this
  have HR := Lib.hid R0
  have HL := Lib.hid hl
  have HLn := Lib.hid hlen
  have E0 := Lib.hid e0
  rw [← hlen]
  clear hR R0 hl hlen hc e0
  go_enter Try.func37, Try.ntmps37
  go_wp2_with fail
  rw [← hw0]
  clear hw0
  obtain ⟨b0, b1, b2, b3⟩ := bx.facts
  go_wp2_with fail
  refine (CK.out _ HR.out).mono ?_
  rintro e w1 ⟨rfl, hb1⟩
  clear b0 b1 b2 b3
  replace bx := bx.kept hb1
  replace rs := rs.kept hb1
  have HR1 := Lib.hid (HR.out.on hb1)
  have E1 := Lib.hid (below_on E0.out hb1)
  have z1 := hb1.size
  clear hb1 HR E0
  obtain ⟨b0, b1, b2, b3⟩ := bx.facts
  clear b0 b1 b2 b3
  obtain ⟨b0, b1, b2, b3⟩ := rs.facts
  obtain ⟨c0, c1, _, _⟩ := bx.facts
  go_wp2_with fail
  refine bodyPost_ret (v := .tuple #[.agg #[.int .i64 0, .slice none 0 0], .int .i64 2]) (by simp [results, Try.results37, go_sem, b0, b1]) rfl (zres_bad ?_)
  exact (E1.out.setCell (by show w.heap.size ≤ w.heap.size + 1; omega) _).setCell (by show w.heap.size ≤ w.heap.size + 1; omega) _

set_option maxHeartbeats 1600000 in
theorem cy_any (n : Nat) (l : List Int) (a : Addr) (cap : Nat) (i j : Nat) (w : World) (hn : n ≤ 10) (hl : l.length = (n + 1) * (n + 1)) (hR : Rd w a l) (hc : chkE n l = 0) (hi1 : 1 ≤ i) (hi2 : i ≤ n) (hj : j ≤ n) (hij : i ≠ j) :
    Calls Try.prog 37 #[.agg #[.int .i64 n, .slice (some a) l.length cap], .int .i64 i, .int .i64 j] w (ZRes w n (cyL n i j l) (cyE n i j l)) := by
  have IJ : ((i : Int) == (j : Int)) = false := by simp; omega
  have IS := Lib.hid fun W => is_any (i : Int) (j : Int) 0 W (by omega) (by omega)
  have FR : Hid (∀ W, Rd W a l → Calls Try.prog 33 #[.agg #[.int .i64 n, .slice (some a) l.length cap], .int .i64 i] W (ZRes W n (reM n i l) (cloE n (frL n i l)))) := Lib.hid fun W h => fr_any n l a cap i W hn hl h hc hi1 hi2
  clear hij
  rw [show l.length = l.length from rfl] at FR
  obtain ⟨len, hlen⟩ : ∃ len, len = l.length := ⟨_, rfl⟩
  obtain ⟨w0, hw0⟩ : ∃ w0, w0 = (w.alloc (.cells #[.int .i64 n, .slice (some a) len cap] 25)).alloc (.cells #[.int .i64 0, .slice none 0 0] 25) := ⟨_, rfl⟩
  have bx : Two w0 w.heap.size (.int .i64 n) (.slice (some a) len cap) := by rw [hw0]; exact (Two.made _ _ _ _).alloc _
  have rs : Two w0 (w.heap.size + 1) (.int .i64 0) (.slice none 0 0) := by
    rw [hw0]
    have := Two.made (w.alloc (.cells #[.int .i64 n, .slice (some a) len cap] 25)) (.int .i64 0) (.slice none 0 0) 25
    simpa using this
  have z0 : w0.heap.size = w.heap.size + 2 := by rw [hw0]; simp
  have e0 : Below w.heap.size w w0 := by rw [hw0]; exact past_two (Below.refl _ _)
  have R0 := hR.on e0
  have CK : Hid (∀ W, Rd W a l → Calls Try.prog 18 #[.agg #[.int .i64 n, .slice (some a) len cap]] W (Made (.int .i64 0) W)) := Lib.hid fun W h => by have := check_any n l a cap W hn hl h; rw [hc, ← hlen] at this; exact this
  have CP : Hid (∀ W, Rd W a l → Calls Try.prog 66 #[.agg #[.int .i64 n, .slice (some a) len cap]] W (fun e w' => ∃ g c, e = .returned (.agg #[.int .i64 n, .slice (some ⟨g, 0, none⟩) len c]) ∧ W.heap.size ≤ g ∧ Own w' g c l ∧ Below W.heap.size W w')) := Lib.hid fun W h => by have := copied_any n l a cap W (by rw [hl]; exact dsq_pos n) (by rw [hl]; have := dsq_le hn; omega) h; rw [← hlen] at this; exact this
  have HR := Lib.hid R0
  have HL := Lib.hid hl
  have HLn := Lib.hid hlen
  have E0 := Lib.hid e0
  have FR2 : Hid (∀ W, Rd W a l → Calls Try.prog 33 #[.agg #[.int .i64 n, .slice (some a) len cap], .int .i64 i] W (ZRes W n (reM n i l) (cloE n (frL n i l)))) := by rw [hlen]; exact FR
  clear FR
  rw [← hlen]
  clear hR R0 hl hlen hc e0
  by_cases h1 : cloE n (frL n i l) = 0
  · by_cases h2 : anG n (isC i j 0) (reM n i l) = 0
    · have HLM0 := Lib.hid (show cyL n i j l = Zo.clo n (anL n (isC i j 0) (reM n i l)) from rfl)
      have HRE := Lib.hid (show cyE n i j l = anG n (isC i j 0) (reM n i l) by unfold cyE; rw [if_pos h1])
      have H1 := Lib.hid h1
      have AN := Lib.hid fun (W : World) (g c5 q : Nat) (hA : Own W g c5 (reM n i l)) (hD : Rd3 W ⟨q, 0, none⟩ (isC i j 0)) => an_gen n (reM n i l) (some ⟨g, 0, none⟩) c5 (isC i j 0) (some ⟨q, 0, none⟩) 2 W hA.arg (fun _ => ⟨_, rfl, hD⟩) (by simp [isC])
      have H2 := Lib.hid h2
      generalize (isC (i : Int) (j : Int) 0) = cs at *
      generalize hM : reM n i l = M at *
      clear h1 h2
      have HLM := Lib.hid (show cyL n i j l = Zo.clo n (anL n cs M) from HLM0.out)
      have HLL := Lib.hid (show ∀ (g7 c7 : Nat), Ending.returned (.tuple #[.agg #[.int .i64 n, .slice (some ⟨g7, 0, none⟩) (Zo.clo n (anL n cs M)).length c7], .int .i64 0]) = Ending.returned (.tuple #[.agg #[.int .i64 n, .slice (some ⟨g7, 0, none⟩) (cyL n i j l).length c7], .int .i64 0]) from fun g7 c7 => by rw [HLM.out])
      go_enter Try.func37, Try.ntmps37
      go_wp2_with fail
      rw [← hw0]
      clear hw0
      obtain ⟨b0, b1, b2, b3⟩ := bx.facts
      go_wp2_with fail
      refine (CK.out _ HR.out).mono ?_
      rintro e w1 ⟨rfl, hb1⟩
      clear b0 b1 b2 b3
      replace bx := bx.kept hb1
      replace rs := rs.kept hb1
      have HR1 := Lib.hid (HR.out.on hb1)
      have E1 := Lib.hid (below_on E0.out hb1)
      have z1 := hb1.size
      clear hb1 HR E0
      obtain ⟨b0, b1, b2, b3⟩ := bx.facts
      go_wp2_with fail
      refine (FR2.out _ HR1.out).mono ?_
      intro e w3 hz
      obtain ⟨g, c5, rfl, hg, ho, hb3⟩ := hz.ok H1.out
      clear b0 b1 b2 b3 hz
      replace bx := bx.kept hb3
      replace rs := rs.kept hb3
      have E3 := Lib.hid (below_on E1.out hb3)
      have z3 := hb3.size
      clear hb3
      obtain ⟨w5, hw5⟩ : ∃ w5, w5 = (w3.setCell ⟨w.heap.size, 0, none⟩ (.int .i64 n)).setCell ⟨w.heap.size, 1, none⟩ (.slice (some ⟨g, 0, none⟩) M.length c5) := ⟨_, rfl⟩
      have bx5 : Two w5 w.heap.size (.int .i64 n) (.slice (some ⟨g, 0, none⟩) M.length c5) := by rw [hw5]; exact bx.put _ _
      have rs5 : Two w5 (w.heap.size + 1) (.int .i64 0) (.slice none 0 0) := by rw [hw5]; exact rs.aside (by omega) _ _
      have O5 := Lib.hid (show Own w5 g c5 M by rw [hw5]; exact put_far ho (by omega) _ _)
      have E5 := Lib.hid (show Below w.heap.size w w5 by rw [hw5]; exact (E3.out.setCell (by show w.heap.size ≤ w.heap.size; omega) _).setCell (by show w.heap.size ≤ w.heap.size; omega) _)
      have z5 : w.heap.size + 2 ≤ w5.heap.size := by have := rs5.lt; omega
      have KS := Lib.hid (show ∀ W : World, Below w5.heap.size w5 W → W.cell? ⟨w.heap.size, 0, none⟩ = some (.int .i64 n) ∧ W.cell? ⟨w.heap.size, 1, none⟩ = some (.slice (some ⟨g, 0, none⟩) M.length c5) from fun W h => ⟨kept h bx5.facts.1, kept h bx5.facts.2.1⟩)
      have KT := Lib.hid (show ∀ (W : World) (u v : Value), Below w5.heap.size w5 W → ((W.setCell ⟨w.heap.size + 1, 0, none⟩ u).setCell ⟨w.heap.size + 1, 1, none⟩ v).cell? ⟨w.heap.size, 0, none⟩ = some (.int .i64 n) ∧ ((W.setCell ⟨w.heap.size + 1, 0, none⟩ u).setCell ⟨w.heap.size + 1, 1, none⟩ v).cell? ⟨w.heap.size, 1, none⟩ = some (.slice (some ⟨g, 0, none⟩) M.length c5) from fun W u v h => by have t := (bx5.kept h).aside (show w.heap.size + 1 ≠ w.heap.size by omega) u v; exact ⟨t.facts.1, t.facts.2.1⟩)
      have KR := Lib.hid (show ∀ W : World, Below w5.heap.size w5 W → Two W (w.heap.size + 1) (.int .i64 0) (.slice none 0 0) from fun W h => rs5.kept h)
      have HO := Lib.hid ho
      obtain ⟨b0, b1, b2, b3⟩ := bx.facts
      clear ho bx rs E3
      go_wp2_with fail
      rw [← hw5]
      have HW5 := Lib.hid hw5
      clear hw5 b0 b1 b2 b3 bx5 rs5
      obtain ⟨b0, b1⟩ := KS.out _ (Below.refl _ _)
      go_wp2_with fail
      have s1 : Below w5.heap.size w5 w5.drew := (Below.refl _ _).drew
      go_region_held3 (fun w' => w'.cell? ⟨w.heap.size, 0, none⟩ = some (.int .i64 n) ∧ w'.cell? ⟨w.heap.size, 1, none⟩ = some (.slice (some ⟨g, 0, none⟩) M.length c5)) (first | exact KS.out _ s1 | exact KS.out _ s6 | exact KS.out _ s7 | exact KT.out _ _ _ s7)
        (first | (go_at_call 88; refine (IS.out _).mono ?_; rintro e w6 ⟨q, rfl, hd, hb6⟩; have s6 := below_on s1 hb6) | (go_at_call 25; refine (AN.out _ _ _ _ (own_below O5.out s6) hd).mono ?_; intro e w7 hz; obtain ⟨g7, c7, rfl, hg7, ho7, hb7⟩ := hz.ok H2.out; have s7 := below_on s6 hb7; obtain ⟨r0, r1, r2, r3⟩ := (KR.out _ s7).facts))
      go_wp2_with fail
      have z7 := s6.size
      refine bodyPost_ret (v := .tuple #[.agg #[.int .i64 n, .slice (some ⟨g7, 0, none⟩) (Zo.clo n (anL n cs M)).length c7], .int .i64 0]) (by simp [results, Try.results37, go_sem, r0, r1]) rfl ⟨((below_on E5.out s7).setCell (by show w.heap.size ≤ w.heap.size + 1; omega) _).setCell (by show w.heap.size ≤ w.heap.size + 1; omega) _, Or.inl ⟨by rw [HRE.out]; exact H2.out, g7, c7, HLL.out _ _, by omega, ?_⟩⟩
      rw [HLM.out]
      exact put_far ho7 (by omega) _ _
    · have HRE := Lib.hid (show cyE n i j l = anG n (isC i j 0) (reM n i l) by unfold cyE; rw [if_pos h1])
      have H1 := Lib.hid h1
      have AN := Lib.hid fun (W : World) (g c5 q : Nat) (hA : Own W g c5 (reM n i l)) (hD : Rd3 W ⟨q, 0, none⟩ (isC i j 0)) => an_gen n (reM n i l) (some ⟨g, 0, none⟩) c5 (isC i j 0) (some ⟨q, 0, none⟩) 2 W hA.arg (fun _ => ⟨_, rfl, hD⟩) (by simp [isC])
      have H2 := Lib.hid h2
      generalize anG n (isC i j 0) (reM n i l) = er at *
      generalize (isC (i : Int) (j : Int) 0) = cs at *
      generalize hM : reM n i l = M at *
      clear h1 h2
      go_enter Try.func37, Try.ntmps37
      go_wp2_with fail
      rw [← hw0]
      clear hw0
      obtain ⟨b0, b1, b2, b3⟩ := bx.facts
      go_wp2_with fail
      refine (CK.out _ HR.out).mono ?_
      rintro e w1 ⟨rfl, hb1⟩
      clear b0 b1 b2 b3
      replace bx := bx.kept hb1
      replace rs := rs.kept hb1
      have HR1 := Lib.hid (HR.out.on hb1)
      have E1 := Lib.hid (below_on E0.out hb1)
      have z1 := hb1.size
      clear hb1 HR E0
      obtain ⟨b0, b1, b2, b3⟩ := bx.facts
      go_wp2_with fail
      refine (FR2.out _ HR1.out).mono ?_
      intro e w3 hz
      obtain ⟨g, c5, rfl, hg, ho, hb3⟩ := hz.ok H1.out
      clear b0 b1 b2 b3 hz
      replace bx := bx.kept hb3
      replace rs := rs.kept hb3
      have E3 := Lib.hid (below_on E1.out hb3)
      have z3 := hb3.size
      clear hb3
      obtain ⟨w5, hw5⟩ : ∃ w5, w5 = (w3.setCell ⟨w.heap.size, 0, none⟩ (.int .i64 n)).setCell ⟨w.heap.size, 1, none⟩ (.slice (some ⟨g, 0, none⟩) M.length c5) := ⟨_, rfl⟩
      have bx5 : Two w5 w.heap.size (.int .i64 n) (.slice (some ⟨g, 0, none⟩) M.length c5) := by rw [hw5]; exact bx.put _ _
      have rs5 : Two w5 (w.heap.size + 1) (.int .i64 0) (.slice none 0 0) := by rw [hw5]; exact rs.aside (by omega) _ _
      have O5 := Lib.hid (show Own w5 g c5 M by rw [hw5]; exact put_far ho (by omega) _ _)
      have E5 := Lib.hid (show Below w.heap.size w w5 by rw [hw5]; exact (E3.out.setCell (by show w.heap.size ≤ w.heap.size; omega) _).setCell (by show w.heap.size ≤ w.heap.size; omega) _)
      have z5 : w.heap.size + 2 ≤ w5.heap.size := by have := rs5.lt; omega
      have KS := Lib.hid (show ∀ W : World, Below w5.heap.size w5 W → W.cell? ⟨w.heap.size, 0, none⟩ = some (.int .i64 n) ∧ W.cell? ⟨w.heap.size, 1, none⟩ = some (.slice (some ⟨g, 0, none⟩) M.length c5) from fun W h => ⟨kept h bx5.facts.1, kept h bx5.facts.2.1⟩)
      have KT := Lib.hid (show ∀ (W : World) (u v : Value), Below w5.heap.size w5 W → ((W.setCell ⟨w.heap.size + 1, 0, none⟩ u).setCell ⟨w.heap.size + 1, 1, none⟩ v).cell? ⟨w.heap.size, 0, none⟩ = some (.int .i64 n) ∧ ((W.setCell ⟨w.heap.size + 1, 0, none⟩ u).setCell ⟨w.heap.size + 1, 1, none⟩ v).cell? ⟨w.heap.size, 1, none⟩ = some (.slice (some ⟨g, 0, none⟩) M.length c5) from fun W u v h => by have t := (bx5.kept h).aside (show w.heap.size + 1 ≠ w.heap.size by omega) u v; exact ⟨t.facts.1, t.facts.2.1⟩)
      have KR := Lib.hid (show ∀ W : World, Below w5.heap.size w5 W → Two W (w.heap.size + 1) (.int .i64 0) (.slice none 0 0) from fun W h => rs5.kept h)
      have HO := Lib.hid ho
      obtain ⟨b0, b1, b2, b3⟩ := bx.facts
      clear ho bx rs E3
      go_wp2_with fail
      rw [← hw5]
      have HW5 := Lib.hid hw5
      clear hw5 b0 b1 b2 b3 bx5 rs5
      obtain ⟨b0, b1⟩ := KS.out _ (Below.refl _ _)
      go_wp2_with fail
      have s1 : Below w5.heap.size w5 w5.drew := (Below.refl _ _).drew
      go_region_held3 (fun w' => w'.cell? ⟨w.heap.size, 0, none⟩ = some (.int .i64 n) ∧ w'.cell? ⟨w.heap.size, 1, none⟩ = some (.slice (some ⟨g, 0, none⟩) M.length c5)) (first | exact KS.out _ s1 | exact KS.out _ s6 | exact KS.out _ s7 | exact KT.out _ _ _ s7)
        (first | (go_at_call 88; refine (IS.out _).mono ?_; rintro e w6 ⟨q, rfl, hd, hb6⟩; have s6 := below_on s1 hb6) | (go_at_call 25; refine (AN.out _ _ _ _ (own_below O5.out s6) hd).mono ?_; intro e w7 hz; obtain ⟨rfl, hb7⟩ := hz.no H2.out; have s7 := below_on s6 hb7; obtain ⟨r0, r1, r2, r3⟩ := (KR.out _ s7).facts))
      go_wp2_with fail
      refine bodyPost_ret (v := .tuple #[.agg #[.int .i64 0, .slice none 0 0], .int .i64 er]) (by simp [results, Try.results37, go_sem, r0, r1]) rfl ⟨((below_on E5.out s7).setCell (by show w.heap.size ≤ w.heap.size + 1; omega) _).setCell (by show w.heap.size ≤ w.heap.size + 1; omega) _, Or.inr ⟨by rw [HRE.out]; exact H2.out, by rw [HRE.out]⟩⟩
  · have HRE := Lib.hid (show cyE n i j l = cloE n (frL n i l) by unfold cyE; rw [if_neg h1])
    have H1 := Lib.hid h1
    generalize cloE n (frL n i l) = er at *
    have E1B : (er != 0) = true := by simpa using h1
    clear h1
    go_enter Try.func37, Try.ntmps37
    go_wp2_with fail
    rw [← hw0]
    clear hw0
    obtain ⟨b0, b1, b2, b3⟩ := bx.facts
    go_wp2_with fail
    refine (CK.out _ HR.out).mono ?_
    rintro e w1 ⟨rfl, hb1⟩
    clear b0 b1 b2 b3
    replace bx := bx.kept hb1
    replace rs := rs.kept hb1
    have HR1 := Lib.hid (HR.out.on hb1)
    have E1 := Lib.hid (below_on E0.out hb1)
    have z1 := hb1.size
    clear hb1 HR E0
    obtain ⟨b0, b1, b2, b3⟩ := bx.facts
    go_wp2_with fail
    refine (FR2.out _ HR1.out).mono ?_
    intro e w3 hz
    obtain ⟨rfl, hb3⟩ := hz.no H1.out
    clear b0 b1 b2 b3 hz
    replace bx := bx.kept hb3
    replace rs := rs.kept hb3
    have E3 := Lib.hid (below_on E1.out hb3)
    have z3 := hb3.size
    clear hb3
    obtain ⟨b0, b1, b2, b3⟩ := bx.facts
    obtain ⟨r0, r1, r2, r3⟩ := rs.facts
    go_wp2_with fail
    refine bodyPost_ret (v := .tuple #[.agg #[.int .i64 0, .slice none 0 0], .int .i64 er]) (by simp [results, Try.results37, go_sem, r0, r1]) rfl ⟨?_, Or.inr ⟨by rw [HRE.out]; exact H1.out, by rw [HRE.out]⟩⟩
    exact (((E3.out.setCell (by show w.heap.size ≤ w.heap.size; omega) _).setCell (by show w.heap.size ≤ w.heap.size; omega) _).setCell (by show w.heap.size ≤ w.heap.size + 1; omega) _).setCell (by show w.heap.size ≤ w.heap.size + 1; omega) _

set_option maxHeartbeats 1600000 in
theorem cy_same (n : Nat) (l : List Int) (a : Addr) (cap : Nat) (i : Nat) (w : World) (hn : n ≤ 10) (hl : l.length = (n + 1) * (n + 1)) (hR : Rd w a l) (hc : chkE n l = 0) (hi1 : 1 ≤ i) (hi2 : i ≤ n) :
    Calls Try.prog 37 #[.agg #[.int .i64 n, .slice (some a) l.length cap], .int .i64 i, .int .i64 i] w (ZRes w n l 0) := by
  obtain ⟨len, hlen⟩ : ∃ len, len = l.length := ⟨_, rfl⟩
  obtain ⟨w0, hw0⟩ : ∃ w0, w0 = (w.alloc (.cells #[.int .i64 n, .slice (some a) len cap] 25)).alloc (.cells #[.int .i64 0, .slice none 0 0] 25) := ⟨_, rfl⟩
  have bx : Two w0 w.heap.size (.int .i64 n) (.slice (some a) len cap) := by rw [hw0]; exact (Two.made _ _ _ _).alloc _
  have rs : Two w0 (w.heap.size + 1) (.int .i64 0) (.slice none 0 0) := by
    rw [hw0]
    have := Two.made (w.alloc (.cells #[.int .i64 n, .slice (some a) len cap] 25)) (.int .i64 0) (.slice none 0 0) 25
    simpa using this
  have z0 : w0.heap.size = w.heap.size + 2 := by rw [hw0]; simp
  have e0 : Below w.heap.size w w0 := by rw [hw0]; exact past_two (Below.refl _ _)
  have R0 := hR.on e0
  have CK : Hid (∀ W, Rd W a l → Calls Try.prog 18 #[.agg #[.int .i64 n, .slice (some a) len cap]] W (Made (.int .i64 0) W)) := Lib.hid fun W h => by have := check_any n l a cap W hn hl h; rw [hc, ← hlen] at this; exact this
  have CP : Hid (∀ W, Rd W a l → Calls Try.prog 66 #[.agg #[.int .i64 n, .slice (some a) len cap]] W (fun e w' => ∃ g c, e = .returned (.agg #[.int .i64 n, .slice (some ⟨g, 0, none⟩) len c]) ∧ W.heap.size ≤ g ∧ Own w' g c l ∧ Below W.heap.size W w')) := Lib.hid fun W h => by have := copied_any n l a cap W (by rw [hl]; exact dsq_pos n) (by rw [hl]; have := dsq_le hn; omega) h; rw [← hlen] at this; exact this
  have HR := Lib.hid R0
  have HL := Lib.hid hl
  have HLn := Lib.hid hlen
  have E0 := Lib.hid e0
  rw [← hlen]
  clear hR R0 hl hlen hc e0
  go_enter Try.func37, Try.ntmps37
  go_wp2_with fail
  rw [← hw0]
  clear hw0
  obtain ⟨b0, b1, b2, b3⟩ := bx.facts
  go_wp2_with fail
  refine (CK.out _ HR.out).mono ?_
  rintro e w1 ⟨rfl, hb1⟩
  clear b0 b1 b2 b3
  replace bx := bx.kept hb1
  replace rs := rs.kept hb1
  have HR1 := Lib.hid (HR.out.on hb1)
  have E1 := Lib.hid (below_on E0.out hb1)
  have z1 := hb1.size
  clear hb1 HR E0
  obtain ⟨b0, b1, b2, b3⟩ := bx.facts
  go_wp2_with fail
  refine (CP.out _ HR1.out).mono ?_
  rintro e w2 ⟨g, c, rfl, hg, ho, hb2⟩
  clear b0 b1 b2 b3
  replace rs := rs.kept hb2
  have E2 := Lib.hid (below_on E1.out hb2)
  have z2 := hb2.size
  have HO := Lib.hid ho
  clear hb2 ho
  obtain ⟨r0, r1, r2, r3⟩ := rs.facts
  go_wp2_with fail
  refine bodyPost_ret (v := .tuple #[.agg #[.int .i64 n, .slice (some ⟨g, 0, none⟩) len c], .int .i64 0]) (by simp [results, Try.results37, go_sem, r0, r1]) rfl ⟨(E2.out.setCell (by show w.heap.size ≤ w.heap.size + 1; omega) _).setCell (by show w.heap.size ≤ w.heap.size + 1; omega) _, Or.inl ⟨rfl, g, c, by rw [← HLn.out], by omega, put_far HO.out (by omega) _ _⟩⟩

def cyM (n i j : Nat) (l : List Int) : List Int := if i = j then l else cyL n i j l

def cyG (N : Int) (l : List Int) (i j : Int) : Int := if chkE N l = 0 ∧ 1 ≤ i ∧ i ≤ N ∧ 0 ≤ j ∧ j ≤ N then (if i = j then 0 else cyE N.toNat i.toNat j.toNat l) else 2

theorem cy_gen (N : Int) (l : List Int) (ao : Option Addr) (cap : Nat) (i j : Int) (w : World) (hA : Arg w ao l) :
    Calls Try.prog 37 #[.agg #[.int .i64 N, .slice ao l.length cap], .int .i64 i, .int .i64 j] w (ZRes w N (cyM N.toNat i.toNat j.toNat l) (cyG N l i j)) := by
  by_cases hc : chkE N l = 0
  · obtain ⟨n, rfl, hn, hl, hne⟩ := chk_ok hc
    obtain ⟨a, rfl, hR⟩ := hA hne
    by_cases h1 : i < 1
    · exact (cy_out0 n l a cap i j w hn hl hR hc h1).mono fun e w' h => h.bad (by unfold cyG; rw [if_neg (by omega)])
    by_cases h2 : (n : Int) < i
    · exact (cy_out1 n l a cap i j w hn hl hR hc h1 h2).mono fun e w' h => h.bad (by unfold cyG; rw [if_neg (by omega)])
    by_cases h3 : j < 0
    · exact (cy_out2 n l a cap i j w hn hl hR hc h1 h2 h3).mono fun e w' h => h.bad (by unfold cyG; rw [if_neg (by omega)])
    by_cases h4 : (n : Int) < j
    · exact (cy_out3 n l a cap i j w hn hl hR hc h1 h2 h3 h4).mono fun e w' h => h.bad (by unfold cyG; rw [if_neg (by omega)])
    obtain ⟨k, rfl⟩ : ∃ k : Nat, i = k := ⟨i.toNat, by omega⟩
    obtain ⟨m, rfl⟩ : ∃ m : Nat, j = m := ⟨j.toNat, by omega⟩
    have hG : cyG (n : Int) l (k : Int) (m : Int) = if (k : Int) = (m : Int) then 0 else cyE n k m l := by unfold cyG; rw [if_pos ⟨hc, by omega, by omega, by omega, by omega⟩]; rfl
    by_cases hkm : k = m
    · subst hkm
      have := cy_same n l a cap k w hn hl hR hc (by omega) (by omega)
      rw [hG, if_pos rfl]
      unfold cyM
      rw [if_pos rfl]
      exact this
    · have := cy_any n l a cap k m w hn hl hR hc (by omega) (by omega) (by omega) hkm
      rw [hG, if_neg (by omega)]
      unfold cyM
      rw [if_neg (by simpa using hkm)]
      exact this
  · exact (cy_bad N l ao cap i j w hA (chk_two hc)).mono fun e w' h => h.bad (by unfold cyG; rw [if_neg (fun x => hc x.1)])
end Go.Proofs.Ytbnebinpemejlaa

namespace Go.Proofs.Ytbnebinpemejlaa
open Go.RowKit

theorem okC_parts {n : Nat} {c : Con} (h : okC n c = true) : c.1.toNat ≤ n ∧ c.2.1.toNat ≤ n ∧ Zo.Vl c.2.2 := by
  unfold okC at h
  simp only [Bool.and_eq_true, decide_eq_true_eq] at h
  exact ⟨by omega, by omega, vl_of_lv h.2⟩

theorem anS_len (n : Nat) (cs : List Con) (x : List Int) (t : Nat) : (anS n cs x t).length = x.length := by simp [anS]

theorem anS_at {n : Nat} {cs : List Con} {x : List Int} {t : Nat} (hx : x.length = (n + 1) * (n + 1)) (h : okC n (gc cs t) = true) {a b : Nat} (hb : b ≤ n) :
    Zo.At n (anS n cs x t) a b = if a = (gc cs t).1.toNat ∧ b = (gc cs t).2.1.toNat then imin (Zo.At n x (gc cs t).1.toNat (gc cs t).2.1.toNat) (gc cs t).2.2 else Zo.At n x a b := by
  obtain ⟨p1, p2, _⟩ := okC_parts h
  unfold anS
  rw [Zo.At_set hx p1 p2 _ hb]

theorem an_len (n : Nat) (cs : List Con) (u : List Int) (s : Nat) : ((List.range s).foldl (anS n cs) u).length = u.length := fold_len (anS_len n cs) u s

theorem an_le {n : Nat} {cs : List Con} (hok : ∀ t, t < cs.length → okC n (gc cs t) = true) {u : List Int} (hu : u.length = (n + 1) * (n + 1)) : ∀ s, s ≤ cs.length → Zo.Le n ((List.range s).foldl (anS n cs) u) u := by
  intro s
  induction s with
  | zero => intro _ a b _ _; exact Int.le_refl _
  | succ s ih =>
    intro hs a b ha hb
    obtain ⟨p1, p2, _⟩ := okC_parts (hok s (by omega))
    rw [Zo.fold_succ]
    exact Int.le_trans (Zo.set_le (by rw [an_len, hu]) p1 p2 _ hb) (ih (by omega) a b ha hb)

theorem an_at {n : Nat} {cs : List Con} (hok : ∀ t, t < cs.length → okC n (gc cs t) = true) {u : List Int} (hu : u.length = (n + 1) * (n + 1)) : ∀ s, s ≤ cs.length → ∀ t, t < s → Zo.At n ((List.range s).foldl (anS n cs) u) (gc cs t).1.toNat (gc cs t).2.1.toNat ≤ (gc cs t).2.2 := by
  intro s
  induction s with
  | zero => intro _ t ht; omega
  | succ s ih =>
    intro hs t ht
    obtain ⟨p1, p2, _⟩ := okC_parts (hok s (by omega))
    obtain ⟨q1, q2, _⟩ := okC_parts (hok t (by omega))
    rw [Zo.fold_succ]
    by_cases e : t = s
    · subst e
      rw [anS_at (by rw [an_len, hu]) (hok t (by omega)) p2, if_pos ⟨rfl, rfl⟩]
      unfold imin; omega
    · exact Int.le_trans (Zo.set_le (by rw [an_len, hu]) p1 p2 _ q2) (ih (by omega) t (by omega))

theorem an_T {n : Nat} {cs : List Con} (hok : ∀ t, t < cs.length → okC n (gc cs t) = true) {u v c : List Int} (hu : u.length = (n + 1) * (n + 1)) (hv : v.length = (n + 1) * (n + 1)) (h1 : Zo.Le n c u) (h2 : Zo.Le n c (anL n cs v)) : Zo.Le n c (anL n cs u) := by
  have hL : ∀ t, t < cs.length → Zo.At n c (gc cs t).1.toNat (gc cs t).2.1.toNat ≤ (gc cs t).2.2 := fun t ht => by
    obtain ⟨q1, q2, _⟩ := okC_parts (hok t ht)
    exact Int.le_trans (h2 _ _ q1 q2) (an_at hok hv cs.length (Nat.le_refl _) t ht)
  have : ∀ s, s ≤ cs.length → Zo.Le n c ((List.range s).foldl (anS n cs) u) := by
    intro s
    induction s with
    | zero => intro _; exact h1
    | succ s ih =>
      intro hs a b ha hb
      obtain ⟨p1, p2, _⟩ := okC_parts (hok s (by omega))
      rw [Zo.fold_succ]
      rw [anS_at (by rw [an_len, hu]) (hok s (by omega)) hb]
      split
      · rename_i e
        have g1 := ih (by omega) a b ha hb
        have g2 := hL s (by omega)
        rw [← e.1, ← e.2] at g2 ⊢
        unfold imin
        omega
      · exact ih (by omega) a b ha hb
  exact this cs.length (Nat.le_refl _)

theorem an_wl {n : Nat} {cs : List Con} (hok : ∀ t, t < cs.length → okC n (gc cs t) = true) {u : List Int} (hu : u.length = (n + 1) * (n + 1)) (h : ∀ a b, a ≤ n → b ≤ n → Zo.Wl (Zo.At n u a b)) : ∀ a b, a ≤ n → b ≤ n → Zo.Wl (Zo.At n (anL n cs u) a b) := by
  have : ∀ s, s ≤ cs.length → ∀ a b, a ≤ n → b ≤ n → Zo.Wl (Zo.At n ((List.range s).foldl (anS n cs) u) a b) := by
    intro s
    induction s with
    | zero => intro _; exact h
    | succ s ih =>
      intro hs a b ha hb
      obtain ⟨p1, p2, p3⟩ := okC_parts (hok s (by omega))
      rw [Zo.fold_succ]
      rw [anS_at (by rw [an_len, hu]) (hok s (by omega)) hb]
      split
      · have := ih (by omega) _ _ p1 p2
        unfold imin
        unfold Zo.Vl at p3
        unfold Zo.Wl at *
        omega
      · exact ih (by omega) a b ha hb
  exact this cs.length (Nat.le_refl _)

/-- Closed, constrained and closed again. -/
theorem an_twice {n : Nat} {cs : List Con} {x : List Int} (hn : n ≤ 10) (hok : ∀ t, t < cs.length → okC n (gc cs t) = true) (hx : x.length = (n + 1) * (n + 1)) (hv : ∀ a b, a ≤ n → b ≤ n → Zo.Wl (Zo.At n x a b)) (hz : cloE n x = 0) :
    cloE n (anL n cs (Zo.clo n x)) = cloE n (anL n cs x) ∧ (cloE n (anL n cs x) = 0 → Zo.clo n (anL n cs (Zo.clo n x)) = Zo.clo n (anL n cs x)) := by
  obtain ⟨_, hr⟩ := cloE_zero.1 hz
  have lx : (Zo.clo n x).length = (n + 1) * (n + 1) := by rw [Zo.clo_length, hx]
  obtain ⟨t1, t2⟩ := Zo.clo_twice (T := anL n cs) hn hx hv (fun u => anL_len n cs u) (fun u hu => an_le hok hu cs.length (Nat.le_refl _)) (fun u v c hu hv => an_T hok hu hv) (an_wl hok hx hv) (an_wl hok lx (wl_of lx hr))
  rw [← cloB_iff, ← cloB_iff] at t1
  rw [← cloB_iff] at t2
  constructor
  · cases hb : cloB n (anL n cs x)
    · have e := t2 hb
      unfold cloE
      rw [hb, t1.1 hb, e]
    · have hb2 : cloB n (anL n cs (Zo.clo n x)) = true := by
        cases h : cloB n (anL n cs (Zo.clo n x))
        · rw [t1.2 h] at hb; cases hb
        · rfl
      unfold cloE
      rw [hb, hb2]; rfl
  · intro h
    exact (t2 (cloE_zero.1 h).1).symm

theorem isC_ok {n i j : Nat} {c : Int} (hi : i ≤ n) (hj : j ≤ n) (h0 : 0 ≤ c) (h1 : c ≤ 1048576) : ∀ t, t < (isC i j c).length → okC n (gc (isC i j c) t) = true := by
  intro t ht
  have : t = 0 ∨ t = 1 := by simp [isC] at ht; omega
  rcases this with rfl | rfl
  · simp [gc, isC, okC, lvB]; omega
  · simp [gc, isC, okC, lvB]; omega

theorem okC_all {n : Nat} {cs : List Con} (h : ∀ t, t < cs.length → okC n (gc cs t) = true) : cs.all (okC n) = true := by
  rw [List.all_eq_true]
  intro x hx
  obtain ⟨k, hk, rfl⟩ := List.getElem_of_mem hx
  have := h k hk
  simpa [gc, hk] using this

/-- Free and then constraints, in one closing. -/
theorem free_and {n i : Nat} {cs : List Con} {l : List Int} (hn : n ≤ 10) (hl : l.length = (n + 1) * (n + 1)) (hc : chkE n l = 0) (h1 : 1 ≤ i) (hi : i ≤ n) (hok : ∀ t, t < cs.length → okC n (gc cs t) = true) :
    (if cloE n (frL n i l) = 0 then anG n cs (reM n i l) else cloE n (frL n i l)) = cloE n (anL n cs (rlL n i l)) ∧
      (cloE n (anL n cs (rlL n i l)) = 0 → Zo.clo n (anL n cs (reM n i l)) = Zo.clo n (anL n cs (rlL n i l))) := by
  obtain ⟨e, hz⟩ := fr_zone hn hl hc h1 hi
  have lf : (frL n i l).length = (n + 1) * (n + 1) := by rw [frL_len, hl]
  have lr : (rlL n i l).length = (n + 1) * (n + 1) := by rw [rlL_len, hl]
  have vl := vl_of hl (chk_64 hc).2
  have rv : ∀ a b, a ≤ n → b ≤ n → Zo.Wl (Zo.At n (rlL n i l) a b) := by
    intro a b ha hb
    rw [rlL_at hl hi ha hb]
    split
    · exact Or.inl rfl
    · exact (vl a b ha hb).wl
  have hp := fr_pre hl hi hc
  have hz2 : cloE n (rlL n i l) = 0 := by rw [cloE_pre hp]; exact hz
  have hre : reM n i l = Zo.clo n (rlL n i l) := by unfold reM; rw [Zo.clo_pre hp]
  have hck : chkE n (reM n i l) = 0 := by rw [hre]; exact clo_chk hn lr rv hz2
  obtain ⟨t1, t2⟩ := an_twice hn hok lr rv hz2
  rw [if_pos hz]
  constructor
  · unfold anG anE
    rw [if_pos hck]
    simp only [Int.toNat_natCast]
    rw [okC_all hok, if_pos rfl, hre, t1]
  · intro h
    rw [hre]; exact t2 h
end Go.Proofs.Ytbnebinpemejlaa

namespace Go.Proofs.Ytbnebinpemejlaa
open Go.RowKit

theorem weak_small {c : Int} (h0 : -1048576 ≤ c) (h1 : c ≤ 1048576) (w : World) : Calls Try.prog 120 #[.int .i64 c] w (Still (.tuple #[.int .i64 (2 * c + 1), .int .i64 0]) w) := by
  have := weak_any c w
  rwa [show jnL c false = 2 * c + 1 by unfold jnL; rw [if_pos (by omega)]; rfl, show jnE c = 0 by unfold jnE; rw [if_pos (by omega)]] at this

set_option maxHeartbeats 1000000 in
theorem equals_any {c : Int} (h0 : 0 ≤ c) (h1 : c ≤ 1048576) (w : World) : Calls Try.prog 85 #[.int .i64 c] w (Still (.tuple #[.int .i64 (2 * c + 1), .int .i64 (-2 * c + 1)]) w) := by
  have W1 := Lib.hid (fun W => weak_small (c := c) (by omega) h1 W)
  have W2 := Lib.hid (show ∀ W, Calls Try.prog 120 #[.int .i64 (-c)] W (Still (.tuple #[.int .i64 (-2 * c + 1), .int .i64 0]) W) from fun W => by
    have := weak_small (c := -c) (by omega) (by omega) W
    rwa [show 2 * -c + 1 = -2 * c + 1 by omega] at this)
  go_enter Try.func85, Try.ntmps85
  go_wp2_with fail
  refine (W1.out _).mono ?_
  rintro e w1 ⟨rfl, hw⟩
  rw [hw]; clear hw w1
  go_wp2_with fail
  refine (W2.out _).mono ?_
  rintro e w1 ⟨rfl, hw⟩
  rw [hw]; clear hw w1
  go_wp2_with fail
  go_ret2
  exact ⟨rfl, rfl⟩

set_option maxHeartbeats 1000000 in
theorem isConstant_any (c : Int) (w : World) : Calls Try.prog 83 #[.int .i64 c] w (Still (.bool (cnB c)) w) := by
  by_cases h : 0 ≤ c
  · by_cases g : c ≤ 1048576
    · have H := Lib.hid (show cnB c = true by unfold cnB; simp; omega)
      go_enter Try.func83, Try.ntmps83
      go_wp2_with fail
      go_ret
      exact ⟨ret_bool H.out.symm, rfl⟩
    · have H := Lib.hid (show cnB c = false by unfold cnB; simp; omega)
      have D : decide (c ≤ 1048576) = false := by simp; omega
      go_enter Try.func83, Try.ntmps83
      go_wp2_with fail
      go_ret
      exact ⟨ret_bool H.out.symm, rfl⟩
  · have H := Lib.hid (show cnB c = false by unfold cnB; simp; omega)
    have D : decide ((0 : Int) ≤ c) = false := by simp; omega
    go_enter Try.func83, Try.ntmps83
    go_wp2_with fail
    go_ret
    exact ⟨ret_bool H.out.symm, rfl⟩

theorem anL_two (n i j : Nat) (c : Int) (x : List Int) : anL n (isC i j c) x = (x.set (Zo.ix n i j) (imin (Zo.At n x i j) (2 * c + 1))).set (Zo.ix n j i) (imin (Zo.At n (x.set (Zo.ix n i j) (imin (Zo.At n x i j) (2 * c + 1))) j i) (-2 * c + 1)) := rfl

set_option maxRecDepth 100000 in
set_option maxHeartbeats 4000000 in
theorem re1_any (b n i : Nat) (c : Int) (p q : Addr) (l : List Int) (w0 w : World) (hn : n ≤ 10) (hi : i ≤ n) (h0 : 0 ≤ c) (h1 : c ≤ 1048576) (h : Mx w b n l) (hp : w0.cell? p = some (.int .i64 c)) (hq : w0.cell? q = some (.int .i64 i)) (hb : Below w0.heap.size w0 w) (hle : w0.heap.size ≤ b) :
    Calls Try.prog 84 #[.pointer (some ⟨b, 0, none⟩), .pointer (some p), .pointer (some q)] w (Chg w b n (anL n (isC i 0 c) (rlL n i l))) := by
  have KQ := Lib.hid (show ∀ x w', MSt w b n x w' → w'.cell? q = some (.int .i64 i) from fun x w' hx => hx.old hb hle hq)
  have RE := Lib.hid (release_any b n i l w hn hi h)
  have EQ := Lib.hid (fun W => equals_any h0 h1 W)
  have TT := Lib.hid (fun (x : List Int) (i j : Nat) (v : Int) (hi : i ≤ n) (hj : j ≤ n) (w' : World) (h : MSt w b n x w') => tighten_st (i := i) (j := j) v hn hi hj h)
  have c1 : w.cell? p = some (.int .i64 c) := kept hb hp
  have c2 : w.cell? q = some (.int .i64 i) := kept hb hq
  clear h hp hq hb hle
  go_enter Try.func84, Try.ntmps84
  go_wp2_with fail
  refine (EQ.out _).mono ?_
  rintro e w1 ⟨rfl, hw⟩
  rw [hw]; clear hw w1
  go_wp2_with fail
  refine RE.out.mono ?_
  rintro e w1 ⟨rfl, hm⟩
  have HM := Lib.hid hm
  clear c1 c2 hm
  have c2 := KQ.out _ _ HM.out
  go_wp2_with fail
  refine (TT.out _ i 0 _ hi (by omega) _ HM.out).mono ?_
  rintro e w2 ⟨rfl, hm⟩
  have HM2 := Lib.hid hm
  clear c2 hm
  have c2 := KQ.out _ _ HM2.out
  go_wp2_with fail
  refine (TT.out _ 0 i _ (by omega) hi _ HM2.out).mono ?_
  rintro e w3 ⟨rfl, hm⟩
  have HM3 := Lib.hid hm
  clear c2 hm
  go_wp2_with fail
  go_end0
  refine ⟨rfl, ?_⟩
  show MSt w b n (anL n (isC (i : Int) ((0 : Nat) : Int) c) (rlL n i l)) _
  rw [anL_two]; exact HM3.out

set_option maxRecDepth 100000 in
set_option maxHeartbeats 4000000 in
theorem cy1_any (b n i j : Nat) (p q : Addr) (l : List Int) (w0 w : World) (hn : n ≤ 10) (hi : i ≤ n) (hj : j ≤ n) (hij : i ≠ j) (h : Mx w b n l) (hp : w0.cell? p = some (.int .i64 i)) (hq : w0.cell? q = some (.int .i64 j)) (hb : Below w0.heap.size w0 w) (hle : w0.heap.size ≤ b) :
    Calls Try.prog 92 #[.pointer (some ⟨b, 0, none⟩), .pointer (some p), .pointer (some q)] w (Chg w b n (anL n (isC i j 0) (rlL n i l))) := by
  have KP := Lib.hid (show ∀ x w', MSt w b n x w' → w'.cell? p = some (.int .i64 i) from fun x w' hx => hx.old hb hle hp)
  have KQ := Lib.hid (show ∀ x w', MSt w b n x w' → w'.cell? q = some (.int .i64 j) from fun x w' hx => hx.old hb hle hq)
  have RE := Lib.hid (release_any b n i l w hn hi h)
  have TT := Lib.hid (fun (x : List Int) (i j : Nat) (v : Int) (hi : i ≤ n) (hj : j ≤ n) (w' : World) (h : MSt w b n x w') => tighten_st (i := i) (j := j) v hn hi hj h)
  have c1 : w.cell? p = some (.int .i64 i) := kept hb hp
  have c2 : w.cell? q = some (.int .i64 j) := kept hb hq
  have D : ((i : Int) == (j : Int)) = false := by simp; omega
  clear h hp hq hb hle
  go_enter Try.func92, Try.ntmps92
  go_wp2_with fail
  refine RE.out.mono ?_
  rintro e w1 ⟨rfl, hm⟩
  have HM := Lib.hid hm
  clear c1 c2 hm
  have c1 := KP.out _ _ HM.out
  have c2 := KQ.out _ _ HM.out
  go_wp2_with fail
  refine (TT.out _ i j 1 hi hj _ HM.out).mono ?_
  rintro e w2 ⟨rfl, hm⟩
  have HM2 := Lib.hid hm
  clear c1 c2 hm
  have c1 := KP.out _ _ HM2.out
  have c2 := KQ.out _ _ HM2.out
  go_wp2_with fail
  refine (TT.out _ j i 1 hj hi _ HM2.out).mono ?_
  rintro e w3 ⟨rfl, hm⟩
  have HM3 := Lib.hid hm
  clear c1 c2 hm
  go_wp2_with fail
  go_end0
  exact ⟨rfl, by rw [anL_two]; exact HM3.out⟩

set_option maxRecDepth 100000 in
set_option maxHeartbeats 4000000 in
theorem cy1_same (b n i : Nat) (p q : Addr) (l : List Int) (w0 w : World) (h : Mx w b n l) (hp : w0.cell? p = some (.int .i64 i)) (hq : w0.cell? q = some (.int .i64 i)) (hb : Below w0.heap.size w0 w) :
    Calls Try.prog 92 #[.pointer (some ⟨b, 0, none⟩), .pointer (some p), .pointer (some q)] w (Chg w b n l) := by
  have c1 : w.cell? p = some (.int .i64 i) := kept hb hp
  have c2 : w.cell? q = some (.int .i64 i) := kept hb hq
  have HM := Lib.hid (show MSt w b n l w from ⟨h, World.grownBy.refl _ _⟩)
  clear h hp hq hb
  go_enter Try.func92, Try.ntmps92
  go_wp2_with fail
  go_end0
  exact ⟨rfl, HM.out⟩
end Go.Proofs.Ytbnebinpemejlaa

namespace Go.Proofs.Ytbnebinpemejlaa
open Go.RowKit

theorem ZRes.swap {w : World} {N : Int} {l l' : List Int} {er : Int} {e : Ending} {w' : World} (h : ZRes w N l er e w') (he : er = 0 → l = l') : ZRes w N l' er e w' := by
  refine ⟨h.1, ?_⟩
  rcases h.2 with ⟨h0, h1⟩ | h1
  · rw [← he h0]; exact Or.inl ⟨h0, h1⟩
  · exact Or.inr h1

theorem enter_re (args : Array Value) (W : World) : (callFunc 84 args).run Try.prog W = .ok (.enter 84 args) W := by go_simp

theorem enter_cy (args : Array Value) (W : World) : (callFunc 92 args).run Try.prog W = .ok (.enter 92 args) W := by go_simp

theorem ch_re (N : Int) (l : List Int) (ao : Option Addr) (cap : Nat) (i c : Int) (p q : Addr) (w : World) (hA : Arg w ao l) (hp : w.cell? p = some (.int .i64 c)) (hq : w.cell? q = some (.int .i64 i)) (al : Bool) (hal : al = (ckB N i 1 && cnB c)) :
    Calls Try.prog 76 #[.agg #[.int .i64 N, .slice ao l.length cap], .bool al, .func (.func 84) #[] #[.pointer (some p), .pointer (some q)]] w (ZRes w N (reL N.toNat i.toNat c l) (reG N l i c)) := by
  by_cases hc : chkE N l = 0
  · cases al
    · refine (changed_bad N l ao cap false _ w hA (Or.inr rfl)).mono fun e w' h => h.bad ?_
      unfold reG; rw [if_neg]
      intro ⟨_, h1, h2, h3⟩
      rw [h3] at hal
      unfold ckB at hal; simp at hal; omega
    · obtain ⟨n, rfl, hn, hl, hne⟩ := chk_ok hc
      have hk : ckB n i 1 = true := by cases h : ckB n i 1 <;> simp_all
      have hcn : cnB c = true := by cases h : cnB c <;> simp_all
      obtain ⟨k, rfl, hkn, hk1⟩ := ck_nat hk (by omega)
      have hcc : 0 ≤ c ∧ c ≤ 1048576 := by unfold cnB at hcn; simpa using hcn
      have hok := isC_ok (n := n) (i := k) (j := 0) (c := c) hkn (by omega) hcc.1 hcc.2
      have := changed_ok n l (anL n (isC k 0 c) (rlL n k l)) ao cap 84 #[.pointer (some p), .pointer (some q)] w hA hn hl hc (anL_64 (rlL_64 (chk_64 hc).1) (okC_all hok)) enter_re (fun W b hb hle hM => re1_any b n k c p q l w W hn hkn hcc.1 hcc.2 hM hp hq hb hle)
      obtain ⟨f1, f2⟩ := free_and (cs := isC k 0 c) hn hl hc (by omega) hkn hok
      rw [show reG (n : Int) l k c = cloE n (anL n (isC k 0 c) (rlL n k l)) by unfold reG reE; rw [if_pos ⟨hc, by omega, by omega, hcn⟩]; exact f1]
      exact this.mono fun e w' h => h.swap fun h0 => (f2 h0).symm
  · refine (changed_bad N l ao cap _ _ w hA (Or.inl (by unfold okB; simpa using hc))).mono fun e w' h => h.bad ?_
    unfold reG; rw [if_neg (fun x => hc x.1)]

theorem ch_cy (N : Int) (l : List Int) (ao : Option Addr) (cap : Nat) (i j : Int) (p q : Addr) (w : World) (hA : Arg w ao l) (hp : w.cell? p = some (.int .i64 i)) (hq : w.cell? q = some (.int .i64 j)) (al : Bool) (hal : al = (ckB N i 1 && ckB N j 0)) :
    Calls Try.prog 76 #[.agg #[.int .i64 N, .slice ao l.length cap], .bool al, .func (.func 92) #[] #[.pointer (some p), .pointer (some q)]] w (ZRes w N (cyM N.toNat i.toNat j.toNat l) (cyG N l i j)) := by
  by_cases hc : chkE N l = 0
  · cases al
    · refine (changed_bad N l ao cap false _ w hA (Or.inr rfl)).mono fun e w' h => h.bad ?_
      unfold cyG; rw [if_neg]
      intro ⟨_, h1, h2, h3, h4⟩
      unfold ckB at hal; simp at hal; omega
    · obtain ⟨n, rfl, hn, hl, hne⟩ := chk_ok hc
      have hk : ckB n i 1 = true := by cases h : ckB n i 1 <;> simp_all
      have hkj : ckB n j 0 = true := by cases h : ckB n j 0 <;> simp_all
      obtain ⟨k, rfl, hkn, hk1⟩ := ck_nat hk (by omega)
      obtain ⟨m, rfl, hmn, _⟩ := ck_nat hkj (by omega)
      by_cases hkm : k = m
      · subst hkm
        obtain ⟨hB, e⟩ := (chk_iff hn hl (chk_64 hc).2).1 hc
        have := changed_ok n l l ao cap 92 #[.pointer (some p), .pointer (some q)] w hA hn hl hc (chk_64 hc).1 enter_cy (fun W b hb hle hM => cy1_same b n k p q l w W hM hp hq hb)
        rw [e, show cloE n l = 0 by rw [cloE_zero]; exact ⟨hB, by rw [e]; exact (chk_64 hc).2⟩] at this
        rw [show cyG (n : Int) l k k = 0 by unfold cyG; rw [if_pos ⟨hc, by omega, by omega, by omega, by omega⟩, if_pos rfl]]
        exact this.mono fun e w' h => h.swap fun _ => by unfold cyM; rw [if_pos rfl]
      · have hok := isC_ok (n := n) (i := k) (j := m) (c := 0) hkn hmn (by omega) (by omega)
        have := changed_ok n l (anL n (isC k m 0) (rlL n k l)) ao cap 92 #[.pointer (some p), .pointer (some q)] w hA hn hl hc (anL_64 (rlL_64 (chk_64 hc).1) (okC_all hok)) enter_cy (fun W b hb hle hM => cy1_any b n k m p q l w W hn hkn hmn hkm hM hp hq hb hle)
        obtain ⟨f1, f2⟩ := free_and (cs := isC k m 0) hn hl hc (by omega) hkn hok
        rw [show cyG (n : Int) l k m = cloE n (anL n (isC k m 0) (rlL n k l)) by unfold cyG cyE; rw [if_pos ⟨hc, by omega, by omega, by omega, by omega⟩, if_neg (by omega)]; exact f1]
        exact this.mono fun e w' h => h.swap fun h0 => by unfold cyM cyL; rw [if_neg (by simpa using hkm)]; exact (f2 h0).symm
  · refine (changed_bad N l ao cap _ _ w hA (Or.inl (by unfold okB; simpa using hc))).mono fun e w' h => h.bad ?_
    unfold cyG; rw [if_neg (fun x => hc x.1)]

set_option maxRecDepth 100000 in
set_option maxHeartbeats 4000000 in
theorem zre_gen (N : Int) (l : List Int) (ao : Option Addr) (cap : Nat) (i c : Int) (w : World) (hA : Arg w ao l) :
    Calls Try.prog 30 #[.agg #[.int .i64 N, .slice ao l.length cap], .int .i64 i, .int .i64 c] w (ZRes w N (reL N.toNat i.toNat c l) (reG N l i c)) := by
  have CH := Lib.hid (show ∀ W p q al, Below w.heap.size w W → W.cell? p = some (.int .i64 c) → W.cell? q = some (.int .i64 i) → al = (ckB N i 1 && cnB c) → _ from fun W p q al h hp hq hal => ch_re N l ao cap i c p q W (hA.on h) hp hq al hal)
  have CK := Lib.hid (fun W => isClock_any N i 1 (.slice ao l.length cap) W)
  have C2 := Lib.hid (fun W => isConstant_any c W)
  generalize reL N.toNat i.toNat c l = r at *
  generalize reG N l i c = er at *
  generalize ckB N i 1 = k1 at *
  generalize cnB c = k2 at *
  generalize l.length = len at *
  obtain ⟨w0, hw0⟩ : ∃ w0, w0 = (((w.alloc (.cells #[.int .i64 N, .slice ao len cap] 25)).alloc (.cells #[.int .i64 i] 3)).alloc (.cells #[.int .i64 c] 2)).alloc (.cells #[.int .i64 0, .slice none 0 0] 25) := ⟨_, rfl⟩
  have b0 : w0.cell? ⟨w.heap.size, 0, none⟩ = some (.int .i64 N) := by rw [hw0]; go_simp
  have b1 : w0.cell? ⟨w.heap.size, 1, none⟩ = some (.slice ao len cap) := by rw [hw0]; go_simp
  have b2 : w0.cell? ⟨w.heap.size + 1, 0, none⟩ = some (.int .i64 i) := by rw [hw0]; go_simp
  have b3 : w0.cell? ⟨w.heap.size + 1 + 1, 0, none⟩ = some (.int .i64 c) := by rw [hw0]; go_simp
  have rs : Two w0 (w.heap.size + 1 + 1 + 1) (.int .i64 0) (.slice none 0 0) := by
    rw [hw0]
    have := Two.made (((w.alloc (.cells #[.int .i64 N, .slice ao len cap] 25)).alloc (.cells #[.int .i64 i] 3)).alloc (.cells #[.int .i64 c] 2)) (.int .i64 0) (.slice none 0 0) 25
    simpa using this
  have z0 : w0.heap.size = w.heap.size + 4 := by rw [hw0]; simp
  have E0 := Lib.hid (show Below w.heap.size w w0 by rw [hw0]; exact (past_three (Below.refl _ _)).alloc (by simp; omega) _)
  have KS := Lib.hid (show ∀ w' : World, Below w0.heap.size w0 w' → w'.cell? ⟨w.heap.size, 0, none⟩ = some (.int .i64 N) ∧ w'.cell? ⟨w.heap.size, 1, none⟩ = some (.slice ao len cap) ∧ w'.cell? ⟨w.heap.size + 1, 0, none⟩ = some (.int .i64 i) ∧ w'.cell? ⟨w.heap.size + 1 + 1, 0, none⟩ = some (.int .i64 c) from fun w' h => ⟨kept h b0, kept h b1, kept h b2, kept h b3⟩)
  have KP := Lib.hid (show ∀ (w' : World) (u v : Value), Below w0.heap.size w0 w' → (((w'.setCell ⟨w.heap.size + 1 + 1 + 1, 0, none⟩ u).setCell ⟨w.heap.size + 1 + 1 + 1, 1, none⟩ v).cell? ⟨w.heap.size, 0, none⟩ = some (.int .i64 N) ∧ ((w'.setCell ⟨w.heap.size + 1 + 1 + 1, 0, none⟩ u).setCell ⟨w.heap.size + 1 + 1 + 1, 1, none⟩ v).cell? ⟨w.heap.size, 1, none⟩ = some (.slice ao len cap) ∧ ((w'.setCell ⟨w.heap.size + 1 + 1 + 1, 0, none⟩ u).setCell ⟨w.heap.size + 1 + 1 + 1, 1, none⟩ v).cell? ⟨w.heap.size + 1, 0, none⟩ = some (.int .i64 i) ∧ ((w'.setCell ⟨w.heap.size + 1 + 1 + 1, 0, none⟩ u).setCell ⟨w.heap.size + 1 + 1 + 1, 1, none⟩ v).cell? ⟨w.heap.size + 1 + 1, 0, none⟩ = some (.int .i64 c)) from
    fun w' u v h => ⟨aside_two (kept h b0) (by show w.heap.size ≠ _; omega) u v, aside_two (kept h b1) (by show w.heap.size ≠ _; omega) u v, aside_two (kept h b2) (by show w.heap.size + 1 ≠ _; omega) u v, aside_two (kept h b3) (by show w.heap.size + 1 + 1 ≠ _; omega) u v⟩)
  have HRS := Lib.hid rs
  have BD := Lib.hid (show Below w0.heap.size w0 w0.drew from (Below.refl _ _).drew)
  clear hA b0 b1 b2 b3 rs
  cases k1
  · have HAL := Lib.hid (show false = (false && k2) from rfl)
    go_enter Try.func30, Try.ntmps30
    go_wp2_with fail
    rw [← hw0]
    clear hw0
    refine wp_region_held_drew (S := (fun w' => w'.cell? ⟨w.heap.size, 0, none⟩ = some (.int .i64 N) ∧ w'.cell? ⟨w.heap.size, 1, none⟩ = some (.slice ao len cap) ∧ w'.cell? ⟨w.heap.size + 1, 0, none⟩ = some (.int .i64 i) ∧ w'.cell? ⟨w.heap.size + 1 + 1, 0, none⟩ = some (.int .i64 c))) (by kernel_rfl) (KS.out _ BD.out) (fun h0 => ?_)
    refine wpAnyH_take (i := 0) (v := .agg #[.int .i64 N, .slice ao len cap]) rfl (by kernel_rfl) (by kernel_rfl) (by kernel_rfl) (fun _ _ _ h => h) (Or.inl ⟨by rfl, fun w' hS => by (obtain ⟨c0, c1, c2, c3⟩ := hS; go_simp)⟩) h0 ?_
    simp only [Act.put, List.getElem_toArray, List.getElem_cons_zero, List.setIfInBounds_toArray, List.set_cons_zero, List.set_cons_succ]
    refine wpAnyH_take (i := 1) (v := .agg #[.int .i64 N, .slice ao len cap]) rfl (by kernel_rfl) (by kernel_rfl) (by kernel_rfl) (fun _ _ _ h => h) (Or.inl ⟨by rfl, fun w' hS => by (obtain ⟨c0, c1, c2, c3⟩ := hS; go_simp)⟩) h0 ?_
    simp only [Act.put, List.getElem_toArray, List.getElem_cons_zero, List.getElem_cons_succ, List.setIfInBounds_toArray, List.set_cons_zero, List.set_cons_succ]
    refine wpAnyH_take (i := 2) (v := .int .i64 i) rfl (by kernel_rfl) (by kernel_rfl) (by kernel_rfl) (fun _ _ _ h => h) (Or.inl ⟨by rfl, fun w' hS => by (obtain ⟨c0, c1, c2, c3⟩ := hS; go_simp)⟩) h0 ?_
    simp only [Act.put, List.getElem_toArray, List.getElem_cons_zero, List.getElem_cons_succ, List.setIfInBounds_toArray, List.set_cons_zero, List.set_cons_succ]
    refine wpAnyH_take (i := 8) (v := .func (.func 84) #[] #[.pointer (some ⟨w.heap.size + 1 + 1, 0, none⟩), .pointer (some ⟨w.heap.size + 1, 0, none⟩)]) rfl (by kernel_rfl) (by kernel_rfl) (by kernel_rfl) (fun _ _ _ h => h) (Or.inl ⟨by rfl, fun w' hS => by go_simp⟩) h0 ?_
    simp only [Act.put, List.getElem_toArray, List.getElem_cons_zero, List.getElem_cons_succ, List.setIfInBounds_toArray, List.set_cons_zero, List.set_cons_succ]
    refine wpAnyH_ready (rs := [3]) (by kernel_rfl) (by simp) (AllReadyH.cons rfl (fun K hK => ?_) AllReadyH.nil)
    rw [if_pos (by rfl)]
    go_simp
    refine (CK.out _).mono ?_
    rintro e wa ⟨rfl, hba⟩
    have hb1 := below_on BD.out hba
    go_simp
    refine hK.out _ _ (KS.out _ hb1) (fun h1 => ?_)
    clear hK K h0
    refine wpAnyH_take (i := 4) (v := .bool false) rfl (by kernel_rfl) (by kernel_rfl) (by kernel_rfl) (fun _ _ _ h => h) (Or.inl ⟨by rfl, fun w' hS => by go_simp⟩) h1 ?_
    simp only [Act.put, List.getElem_toArray, List.getElem_cons_zero, List.getElem_cons_succ, List.setIfInBounds_toArray, List.set_cons_zero, List.set_cons_succ]
    refine wpAnyH_take (i := 5) (v := undef) rfl (by kernel_rfl) (by kernel_rfl) (by kernel_rfl) (fun _ _ _ h => h) (Or.inr ⟨by rfl, rfl⟩) h1 ?_
    simp only [Act.put, List.getElem_toArray, List.getElem_cons_zero, List.getElem_cons_succ, List.setIfInBounds_toArray, List.set_cons_zero, List.set_cons_succ]
    refine wpAnyH_take (i := 6) (v := undef) rfl (by kernel_rfl) (by kernel_rfl) (by kernel_rfl) (fun _ _ _ h => h) (Or.inr ⟨by rfl, rfl⟩) h1 ?_
    simp only [Act.put, List.getElem_toArray, List.getElem_cons_zero, List.getElem_cons_succ, List.setIfInBounds_toArray, List.set_cons_zero, List.set_cons_succ]
    refine wpAnyH_take (i := 7) (v := .bool false) rfl (by kernel_rfl) (by kernel_rfl) (by kernel_rfl) (fun _ _ _ h => h) (Or.inl ⟨by rfl, fun w' hS => by go_simp⟩) h1 ?_
    simp only [Act.put, List.getElem_toArray, List.getElem_cons_zero, List.getElem_cons_succ, List.setIfInBounds_toArray, List.set_cons_zero, List.set_cons_succ]
    refine wpAnyH_ready (rs := [9]) (by kernel_rfl) (by simp) (AllReadyH.cons rfl (fun K hK => ?_) AllReadyH.nil)
    rw [if_pos (by rfl)]
    go_simp
    refine (CH.out _ _ _ _ (below_on E0.out hb1) (KS.out _ hb1).2.2.2 (KS.out _ hb1).2.2.1 HAL.out).mono ?_
    intro e wb hz
    obtain ⟨hb4, hres⟩ := hz
    have hb2 := below_on hb1 hb4
    obtain ⟨q0, q1, q2, q3⟩ := (HRS.out.kept hb2).facts
    rcases hres with ⟨he, g, cc, rfl, hg, hO⟩ | ⟨he, rfl⟩
    · subst he
      go_simp
      refine hK.out _ _ (KS.out _ hb2) (fun h2 => ?_)
      clear hK K
      refine wpAnyH_take (i := 10) (v := .agg #[.int .i64 N, .slice (some ⟨g, 0, none⟩) r.length cc]) rfl (by kernel_rfl) (by kernel_rfl) (by kernel_rfl) (fun _ _ _ h => h) (Or.inl ⟨by rfl, fun w' hS => by go_simp⟩) h2 ?_
      simp only [Act.put, List.getElem_toArray, List.getElem_cons_zero, List.getElem_cons_succ, List.setIfInBounds_toArray, List.set_cons_zero, List.set_cons_succ]
      refine wpAnyH_take (i := 11) (v := .int .i64 0) rfl (by kernel_rfl) (by kernel_rfl) (by kernel_rfl) (fun _ _ _ h => h) (Or.inl ⟨by rfl, fun w' hS => by go_simp⟩) h2 ?_
      simp only [Act.put, List.getElem_toArray, List.getElem_cons_zero, List.getElem_cons_succ, List.setIfInBounds_toArray, List.set_cons_zero, List.set_cons_succ]
      refine wpAnyH_ready (rs := [12]) (by kernel_rfl) (by simp) (AllReadyH.cons rfl (fun K hK => ?_) AllReadyH.nil)
      rw [if_pos (by rfl)]
      go_simp
      refine hK.out _ _ (KP.out _ _ _ hb2) (fun h3 => ?_)
      clear hK K
      refine wpAnyH_take (i := 13) (v := .int .i64 0) rfl (by kernel_rfl) (by kernel_rfl) (by kernel_rfl) (fun _ _ _ h => h) (Or.inl ⟨by rfl, fun w' hS => by go_simp⟩) h3 ?_
      simp only [Act.put, List.getElem_toArray, List.getElem_cons_zero, List.getElem_cons_succ, List.setIfInBounds_toArray, List.set_cons_zero, List.set_cons_succ]
      refine wpAnyH_done (by kernel_rfl) ?_ _
      go_wp2_with fail
      refine bodyPost_ret (v := .tuple #[.agg #[.int .i64 N, .slice (some ⟨g, 0, none⟩) r.length cc], .int .i64 0]) (by simp [results, Try.results30, go_sem, q0, q1]) rfl (zres_over E0.out hb2 hO (Nat.le_trans hb1.size hg) (by omega) (by omega) _ _)
    · go_simp
      refine hK.out _ _ (KS.out _ hb2) (fun h2 => ?_)
      clear hK K
      refine wpAnyH_take (i := 10) (v := .agg #[.int .i64 0, .slice none 0 0]) rfl (by kernel_rfl) (by kernel_rfl) (by kernel_rfl) (fun _ _ _ h => h) (Or.inl ⟨by rfl, fun w' hS => by go_simp⟩) h2 ?_
      simp only [Act.put, List.getElem_toArray, List.getElem_cons_zero, List.getElem_cons_succ, List.setIfInBounds_toArray, List.set_cons_zero, List.set_cons_succ]
      refine wpAnyH_take (i := 11) (v := .int .i64 er) rfl (by kernel_rfl) (by kernel_rfl) (by kernel_rfl) (fun _ _ _ h => h) (Or.inl ⟨by rfl, fun w' hS => by go_simp⟩) h2 ?_
      simp only [Act.put, List.getElem_toArray, List.getElem_cons_zero, List.getElem_cons_succ, List.setIfInBounds_toArray, List.set_cons_zero, List.set_cons_succ]
      refine wpAnyH_ready (rs := [12]) (by kernel_rfl) (by simp) (AllReadyH.cons rfl (fun K hK => ?_) AllReadyH.nil)
      rw [if_pos (by rfl)]
      go_simp
      refine hK.out _ _ (KP.out _ _ _ hb2) (fun h3 => ?_)
      clear hK K
      refine wpAnyH_take (i := 13) (v := .int .i64 er) rfl (by kernel_rfl) (by kernel_rfl) (by kernel_rfl) (fun _ _ _ h => h) (Or.inl ⟨by rfl, fun w' hS => by go_simp⟩) h3 ?_
      simp only [Act.put, List.getElem_toArray, List.getElem_cons_zero, List.getElem_cons_succ, List.setIfInBounds_toArray, List.set_cons_zero, List.set_cons_succ]
      refine wpAnyH_done (by kernel_rfl) ?_ _
      go_wp2_with fail
      refine bodyPost_ret (v := .tuple #[.agg #[.int .i64 0, .slice none 0 0], .int .i64 er]) (by simp [results, Try.results30, go_sem, q0, q1]) rfl (zres_over0 E0.out hb2 he (by omega) _ _)
  · have HAL := Lib.hid (show k2 = (true && k2) from rfl)
    go_enter Try.func30, Try.ntmps30
    go_wp2_with fail
    rw [← hw0]
    clear hw0
    by_cases he : er = 0
    · subst he
      go_region_held3 (fun w' => w'.cell? ⟨w.heap.size, 0, none⟩ = some (.int .i64 N) ∧ w'.cell? ⟨w.heap.size, 1, none⟩ = some (.slice ao len cap) ∧ w'.cell? ⟨w.heap.size + 1, 0, none⟩ = some (.int .i64 i) ∧ w'.cell? ⟨w.heap.size + 1 + 1, 0, none⟩ = some (.int .i64 c)) (first | exact KS.out _ BD.out | exact KS.out _ (by assumption) | exact KP.out _ _ _ (by assumption))
        (first | (go_at_call 74; refine (CK.out _).mono ?_; rintro e wa ⟨rfl, hba⟩; have hb0 := below_on BD.out hba) | (go_at_call 83; refine (C2.out _).mono ?_; rintro e wc ⟨rfl, hw⟩; rw [hw]; have hb1 := hb0) | (go_at_call 76; refine (CH.out _ _ _ _ (below_on E0.out hb1) (KS.out _ hb1).2.2.2 (KS.out _ hb1).2.2.1 HAL.out).mono ?_; intro e wb hz; obtain ⟨g, cc, rfl, hg, hO⟩ := hz.ok rfl; have hb2 := below_on hb1 hz.1; obtain ⟨q0, q1, q2, q3⟩ := (HRS.out.kept hb2).facts))
      all_goals
        go_wp2_with fail
        refine bodyPost_ret (v := .tuple #[.agg #[.int .i64 N, .slice (some ⟨g, 0, none⟩) r.length cc], .int .i64 0]) (by simp [results, Try.results30, go_sem, q0, q1]) rfl (zres_over E0.out hb2 hO.1 (Nat.le_trans hb1.size hg) (by omega) (by omega) _ _)
    · go_region_held3 (fun w' => w'.cell? ⟨w.heap.size, 0, none⟩ = some (.int .i64 N) ∧ w'.cell? ⟨w.heap.size, 1, none⟩ = some (.slice ao len cap) ∧ w'.cell? ⟨w.heap.size + 1, 0, none⟩ = some (.int .i64 i) ∧ w'.cell? ⟨w.heap.size + 1 + 1, 0, none⟩ = some (.int .i64 c)) (first | exact KS.out _ BD.out | exact KS.out _ (by assumption) | exact KP.out _ _ _ (by assumption))
        (first | (go_at_call 74; refine (CK.out _).mono ?_; rintro e wa ⟨rfl, hba⟩; have hb0 := below_on BD.out hba) | (go_at_call 83; refine (C2.out _).mono ?_; rintro e wc ⟨rfl, hw⟩; rw [hw]; have hb1 := hb0) | (go_at_call 76; refine (CH.out _ _ _ _ (below_on E0.out hb1) (KS.out _ hb1).2.2.2 (KS.out _ hb1).2.2.1 HAL.out).mono ?_; intro e wb hz; obtain ⟨rfl, hzb⟩ := hz.no he; have hb2 := below_on hb1 hzb; obtain ⟨q0, q1, q2, q3⟩ := (HRS.out.kept hb2).facts))
      all_goals
        go_wp2_with fail
        refine bodyPost_ret (v := .tuple #[.agg #[.int .i64 0, .slice none 0 0], .int .i64 er]) (by simp [results, Try.results30, go_sem, q0, q1]) rfl (zres_over0 E0.out hb2 he (by omega) _ _)
end Go.Proofs.Ytbnebinpemejlaa
