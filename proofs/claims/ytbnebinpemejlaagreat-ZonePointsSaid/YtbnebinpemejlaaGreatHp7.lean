/- The reference's Point.; Plain mathematics of bounds: which points are in the set of a matrix, and that closing keeps them. A point is a list of integers over one common denominator. Nothing of the program is named here.; The contract of Copy of layer 3's reference; and of Reset of any zone.; Plain mathematics: constraints on what is closed; Reset and Copy in one closing.; Plain mathematics: points as integers over one denominator; what Has says of a point is that it is in the set of the matrix; constraints and points.; The contract of layer 3's Stay. -/
import Derived.Test.YtbnebinpemejlaaGreatHp6
import Derived.Test.YtbnebinpemejlaaGreatHp5
import Derived.Test.YtbnebinpemejlaaGreatHp3
import Derived.Test.YtbnebinpemejlaaGreatHp2

namespace Go.Proofs.YtbnebinpemejlaaGreat
open Go.RowKit

/-- The choices of the clock k by the clocks before t. -/
def rcX (n : Nat) (l : List Int) (ps : List Pq) (k : Nat) : Nat → Dl × Bool
  | 0 => (Dl.one, false)
  | t + 1 => (abX (bwX (rcX n l ps k t).1 (clk ps t).1 (clk ps t).2 (Zo.At n l k t)) (clk ps t).1 (clk ps t).2 (Zo.At n l t k), abB (bwB (rcX n l ps k t).2 (clk ps t).1 (clk ps t).2 (Zo.At n l k t)) (clk ps t).1 (clk ps t).2 (Zo.At n l t k))

/-- The values of the clocks from 1 on; and whether a number was out of range. -/
def rpR (n : Nat) (l : List Int) : Nat → List Pq × Bool
  | 0 => ([], false)
  | t + 1 => if (rpR n l t).2 = true then rpR n l t else
      if (rcX n l (rpR n l t).1 (t + 1) (t + 1)).2 = true ∨ chE (rcX n l (rpR n l t).1 (t + 1) (t + 1)).1 ≠ 0 then ((rpR n l t).1, true)
      else ((rpR n l t).1 ++ [(chN (rcX n l (rpR n l t).1 (t + 1) (t + 1)).1, chD (rcX n l (rpR n l t).1 (t + 1) (t + 1)).1)], false)

theorem rc_ok (n : Nat) (l : List Int) (ps : List Pq) (k t : Nat) : (rcX n l ps k t).1.Ok := by
  induction t with
  | zero => exact one_ok
  | succ t ih => exact abX_ok (bwX_ok ih _ _ _) _ _ _

theorem rp_stay {n : Nat} {l : List Int} {t m : Nat} (h : t ≤ m) (he : (rpR n l t).2 = true) : rpR n l m = rpR n l t := by
  induction m with
  | zero => rw [show t = 0 by omega]
  | succ m ih =>
    by_cases e : t = m + 1
    · rw [e]
    · have := ih (by omega)
      show (if (rpR n l m).2 = true then rpR n l m else _) = _
      rw [if_pos (by rw [this]; exact he), this]

theorem rp_succ {n : Nat} {l : List Int} {t : Nat} (h : (rpR n l t).2 = false) : rpR n l (t + 1) =
      if (rcX n l (rpR n l t).1 (t + 1) (t + 1)).2 = true ∨ chE (rcX n l (rpR n l t).1 (t + 1) (t + 1)).1 ≠ 0 then ((rpR n l t).1, true)
      else ((rpR n l t).1 ++ [(chN (rcX n l (rpR n l t).1 (t + 1) (t + 1)).1, chD (rcX n l (rpR n l t).1 (t + 1) (t + 1)).1)], false) := by
  show (if (rpR n l t).2 = true then rpR n l t else _) = _
  rw [if_neg (by rw [h]; decide)]

theorem fits_app {ps : List Pq} {x y : Int} (h : Fits ps) (hx : I64 x) (hy : I64 y) : Fits (ps ++ [(x, y)]) := by
  intro k hk
  by_cases e : k < ps.length
  · have := h k e
    simpa [gp, List.getElem?_append, e] using this
  · have hk2 : k = ps.length := by simp at hk; omega
    simpa [gp, hk2] using ⟨hx, hy⟩

theorem rp_fits {n : Nat} {l : List Int} (t : Nat) : Fits (rpR n l t).1 ∧ ((rpR n l t).2 = false → (rpR n l t).1.length = t) := by
  induction t with
  | zero => exact ⟨fun k hk => absurd hk (by simp [rpR]), fun _ => rfl⟩
  | succ t ih =>
    by_cases h : (rpR n l t).2 = true
    · rw [rp_stay (Nat.le_succ t) h]
      exact ⟨ih.1, fun q => by rw [h] at q; cases q⟩
    · have h : (rpR n l t).2 = false := by simpa using h
      rw [rp_succ h]
      split
      · exact ⟨ih.1, fun q => by cases q⟩
      · have := ch_64 (rc_ok n l (rpR n l t).1 (t + 1) (t + 1))
        exact ⟨fits_app ih.1 this.1 this.2, fun _ => by simp [ih.2 h]⟩

theorem clk_64 {ps : List Pq} (h : Fits ps) {i : Nat} (hi : i ≤ ps.length) : I64 (clk ps i).1 ∧ I64 (clk ps i).2 := by
  unfold clk
  split
  · exact ⟨by unfold I64; simp, by unfold I64; simp⟩
  · exact h _ (by omega)

theorem ownq_form {w : World} {B : Nat} {v : Value} {ps : List Pq} (h : OwnQ w B v ps) : ∃ po pc, v = .slice po ps.length pc ∧ Arg2 w po ps := by
  by_cases e : ps = []
  · subst e
    unfold OwnQ World.ownsRow at h
    rcases h.2 with ⟨h1, _⟩ | ⟨g, cap, cur, h1, _⟩
    · exact ⟨none, 0, h1, fun q => absurd rfl q⟩
    · exact ⟨_, _, h1, fun q => absurd rfl q⟩
  · have hp : 0 < ps.length := List.length_pos_iff.2 e
    have h' := h
    unfold OwnQ at h'
    obtain ⟨g, c, rfl⟩ := Joins.ownsRow_form h' hp
    exact ⟨_, _, rfl, fun _ => ⟨_, rfl, h.rd⟩⟩

set_option maxRecDepth 100000 in
set_option maxHeartbeats 2000000 in
theorem rpoint_bad (N : Int) (l : List Int) (ao : Option Addr) (cap : Nat) (w : World) (hA : Arg w ao l) (hc : chkE N l ≠ 0) :
    Calls Tryz.prog 11 #[.agg #[.int .i64 N, .slice ao l.length cap]] w (QRes w [] 2) := by
  have CK := Lib.hid fun W (h : Below w.heap.size w W) => check_gen N l ao cap W (hA.on h)
  have E1 : (chkE N l != 0) = true := by simpa using hc
  clear hA hc
  generalize l.length = len at *
  generalize chkE N l = er at *
  obtain ⟨w0, hw0⟩ : ∃ w0, w0 = w.alloc (.cells #[.int .i64 N, .slice ao len cap] 24) := ⟨_, rfl⟩
  have PZ := Lib.hid (show Two w0 w.heap.size (.int .i64 N) (.slice ao len cap) by rw [hw0]; exact Two.made _ _ _ _)
  have B0 := Lib.hid (show Below w.heap.size w w0 by rw [hw0]; exact one_more _)
  go_enter Tryz.func11, Tryz.ntmps11
  go_upto_region 1 with (fail)
  rw [← hw0]
  clear hw0
  obtain ⟨z0, z1, _, _⟩ := PZ.out.facts
  go_wp2_with fail
  refine (CK.out _ B0.out).mono ?_
  rintro e w1 ⟨rfl, hb⟩
  have Q0 := Lib.hid (below_on B0.out hb)
  clear hb z0 z1
  go_wp2_with fail
  go_ret2
  exact ⟨Q0.out, Or.inr ⟨by decide, rfl⟩⟩

set_option maxRecDepth 100000 in
set_option maxHeartbeats 8000000 in
theorem rpoint_ok (n : Nat) (l : List Int) (a : Addr) (cap : Nat) (w : World) (hn : n ≤ 10) (hl : l.length = (n + 1) * (n + 1)) (hc : chkE n l = 0) (hR : Rd w a l) :
    Calls Tryz.prog 11 #[.agg #[.int .i64 n, .slice (some a) l.length cap]] w (QRes w (rpR n l n).1 (if (rpR n l n).2 then 7 else 0)) := by
  obtain ⟨i0, hi, hz0, hz1, hz2⟩ := info_parts rat_info
  have hL : ∀ i j, i ≤ n → j ≤ n → I64 (Zo.At n l i j) := fun i j hi hj => chk_i64 hc hi hj
  have CK : Hid (∀ W, Below w.heap.size w W → Calls Tryz.prog 41 #[.agg #[.int .i64 n, .slice (some a) l.length cap]] W (Made (.int .i64 0) W)) := Lib.hid fun W h => by have := check_gen n l (some a) cap W (fun _ => ⟨a, rfl, hR.on h⟩); rwa [hc] at this
  have AT : Hid (∀ (i j : Nat) (W : World), i ≤ n → j ≤ n → Below w.heap.size w W → Calls Tryz.prog 26 #[.agg #[.int .i64 n, .slice (some a) l.length cap], .int .i64 i, .int .i64 j] W (Made (.int .i64 (Zo.At n l i j)) W)) := Lib.hid fun i j W hi hj h => at_any n i j l a cap W hn hi hj hl (hR.on h)
  have BWc := Lib.hid (fun (P : List Pq) (hP : Fits P) (k u : Nat) (hk : k ≤ n) (hu : u ≤ n) (hu2 : u ≤ P.length) (bd : Bool) (c : Nat) (W : World) (hb : Bx W c (chC (rcX n l P k u).1 bd)) =>
    below_any (rcX n l P k u).1 (clk P u).1 (clk P u).2 (Zo.At n l k u) bd c W (clk_64 hP hu2).1 (clk_64 hP hu2).2 (hL _ _ hk hu) (rc_ok _ _ _ _ _) hb)
  have ABc := Lib.hid (fun (P : List Pq) (hP : Fits P) (k u : Nat) (hk : k ≤ n) (hu : u ≤ n) (hu2 : u ≤ P.length) (bd : Bool) (c : Nat) (W : World) (hb : Bx W c (chC (bwX (rcX n l P k u).1 (clk P u).1 (clk P u).2 (Zo.At n l k u)) bd)) =>
    above_any (bwX (rcX n l P k u).1 (clk P u).1 (clk P u).2 (Zo.At n l k u)) (clk P u).1 (clk P u).2 (Zo.At n l u k) bd c W (clk_64 hP hu2).1 (clk_64 hP hu2).2 (hL _ _ hu hk) (bwX_ok (rc_ok _ _ _ _ _) _ _ _) hb)
  have HSU := Lib.hid (show ∀ P k t, rcX n l P k (t + 1) = (abX (bwX (rcX n l P k t).1 (clk P t).1 (clk P t).2 (Zo.At n l k t)) (clk P t).1 (clk P t).2 (Zo.At n l t k), abB (bwB (rcX n l P k t).2 (clk P t).1 (clk P t).2 (Zo.At n l k t)) (clk P t).1 (clk P t).2 (Zo.At n l t k)) from fun P k t => rfl)
  have HZ0 := Lib.hid (show ∀ P k, rcX n l P k 0 = (Dl.one, false) from fun _ _ => rfl)
  have HOK := Lib.hid (rc_ok n l)
  have PS := Lib.hid (fun t h => rp_succ (n := n) (l := l) (t := t) h)
  have PY := Lib.hid (fun t m h he => rp_stay (n := n) (l := l) (t := t) (m := m) h he)
  have PF := Lib.hid (fun t => (rp_fits (n := n) (l := l) t))
  have PZ0 := Lib.hid (show rpR n l 0 = ([], false) from rfl)
  generalize l.length = len at *
  clear hL hl hc hR
  obtain ⟨er, her⟩ : ∃ er : Int, er = (if (rpR n l n).2 then (7 : Int) else 0) := ⟨_, rfl⟩
  rw [← her]
  have HER := Lib.hid her
  clear her
  obtain ⟨w0, hw0⟩ : ∃ w0, w0 = w.alloc (.cells #[.int .i64 n, .slice (some a) len cap] 24) := ⟨_, rfl⟩
  have PZ := Lib.hid (show Two w0 w.heap.size (.int .i64 n) (.slice (some a) len cap) by rw [hw0]; exact Two.made _ _ _ _)
  have B0 := Lib.hid (show Below w.heap.size w w0 by rw [hw0]; exact one_more _)
  go_enter Tryz.func11, Tryz.ntmps11
  go_upto_region 1 with (fail)
  rw [← hw0]
  clear hw0
  obtain ⟨z0, z1, _, _⟩ := PZ.out.facts
  go_wp2_with fail
  refine (CK.out _ B0.out).mono ?_
  rintro e w1 ⟨rfl, hb⟩
  have PZ := Lib.hid (PZ.out.kept hb)
  have E1 := Lib.hid (below_on B0.out hb)
  clear hb z0 z1 CK
  go_wp2_with fail
  go_loopw [4, 5] (fun v s wr => ∃ t : Nat, t ≤ n ∧ s = .int .i64 ((t : Int) + 1) ∧ Hid ((rpR n l t).2 = false ∧ OwnQ wr w1.heap.size v (rpR n l t).1 ∧ Below w1.heap.size w1 wr)) (fun _ s _ => n + 1 - (intOf s).toNat)
  case atStart => exact ⟨0, by omega, rfl, Lib.hid ⟨by rw [PZ0.out], by rw [PZ0.out]; exact World.ownsRow_nil _ _ _ _, Below.refl _ _⟩⟩
  case round =>
    generalize wr = wo at *
    obtain ⟨t, ht, rfl, HX⟩ := hrel
    obtain ⟨hx1, hx2, hx3⟩ := HX.out
    have hlen := (PF.out t).2 hx1
    obtain ⟨po, pc, rfl, hpa⟩ := ownq_form hx2
    rw [hlen]
    have OQ := Lib.hid hx2
    have X1 := Lib.hid hx1
    have X3 := Lib.hid hx3
    have XL := Lib.hid hlen
    have XP := Lib.hid hpa
    have XF := Lib.hid (PF.out t).1
    have PW := Lib.hid (PZ.out.kept hx3)
    have QW := Lib.hid (below_on E1.out hx3)
    have HTS := Lib.hid (E1.out.size)
    clear hx1 hx2 hx3 hlen hpa HX
    obtain ⟨z0, z1, _, _⟩ := PW.out.facts
    by_cases htn : t < n
    case pos =>
      have TB : decide ((t : Int) + 1 ≤ (n : Int)) = true := by simp; omega
      have tb : (t : Int) < 10 := by omega
      have t0 : 0 ≤ (t : Int) + 1 := by omega
      have PS1 := Lib.hid (PS.out t X1.out)
      obtain ⟨P, hP⟩ : ∃ P, P = (rpR n l t).1 := ⟨_, rfl⟩
      rw [← hP] at OQ XL XP XF PS1
      have HPP := Lib.hid hP
      clear hP
      have CL : Hid (∀ (u : Nat) (W : World), u ≤ t → Below wo.heap.size wo W → Calls Tryz.prog 24 #[.slice po t pc, .int .i64 u] W (Made (.agg #[.int .i64 (clk P u).1, .int .i64 (clk P u).2]) W)) := Lib.hid fun u W hu h => by have := clock_any P po pc u W (XP.out.on h) (by rw [XL.out]; exact hu) (by rw [XL.out]; omega); rwa [XL.out] at this
      go_wp2_with fail
      refine (start_any _).mono ?_
      rintro e w2 ⟨c, rfl, hcge, hCX, hb2⟩
      have CX := Lib.hid hCX
      have PW := Lib.hid (PW.out.kept hb2)
      have B2 := Lib.hid hb2
      have HC := Lib.hid hcge
      clear hb2 hCX hcge z0 z1
      go_wp2_with fail
      go_loopw [7] (fun s wr => ∃ u : Nat, u ≤ t + 1 ∧ s = .int .i64 (u : Int) ∧ Hid (w2.grownBy wr (some c) ∧ Bx wr c (chC (rcX n l P (t + 1) u).1 (rcX n l P (t + 1) u).2))) (fun s _ => t + 1 - (intOf s).toNat)
      case atStart => exact ⟨0, by omega, rfl, Lib.hid ⟨World.grownBy.refl _ _, by rw [HZ0.out]; exact CX.out⟩⟩
      case round =>
        obtain ⟨u, hu, rfl, HX⟩ := hrel
        have hcc := HC.out
        have PX := Lib.hid (PW.out.grown HX.out.1 (by have := PZ.out.lt; have := X3.out.size; omega))
        have GX := Lib.hid HX.out.1
        have CX := Lib.hid HX.out.2
        clear HX
        by_cases hut : u < t + 1
        case pos =>
          have TU : decide ((u : Int) < (t : Int) + 1) = true := by simp; omega
          have tu : (u : Int) < 10 := by omega
          have CLT := Lib.hid (show ∀ W, Below wo.heap.size wo W → Calls Tryz.prog 24 #[.slice po t pc, .int .i64 u] W (Made (.agg #[.int .i64 (clk P u).1, .int .i64 (clk P u).2]) W) from fun W h => CL.out u W (by omega) h)
          have AT1 := Lib.hid (show ∀ W, Below w.heap.size w W → Calls Tryz.prog 26 #[.agg #[.int .i64 n, .slice (some a) len cap], .int .i64 ((t : Int) + 1), .int .i64 u] W (Made (.int .i64 (Zo.At n l (t + 1) u)) W) from fun W h => AT.out (t + 1) u W (by omega) (by omega) h)
          have AT2 := Lib.hid (show ∀ W, Below w.heap.size w W → Calls Tryz.prog 26 #[.agg #[.int .i64 n, .slice (some a) len cap], .int .i64 u, .int .i64 ((t : Int) + 1)] W (Made (.int .i64 (Zo.At n l u (t + 1))) W) from fun W h => AT.out u (t + 1) W (by omega) (by omega) h)
          have BWT := Lib.hid (fun W h => BWc.out P XF.out (t + 1) u (by omega) (by omega) (by rw [XL.out]; omega) (rcX n l P (t + 1) u).2 c W h)
          have ABT := Lib.hid (fun W h => ABc.out P XF.out (t + 1) u (by omega) (by omega) (by rw [XL.out]; omega) (bwB (rcX n l P (t + 1) u).2 (clk P u).1 (clk P u).2 (Zo.At n l (t + 1) u)) c W h)
          have HST := Lib.hid (HSU.out P (t + 1) u)
          generalize clk P u = ck at *
          obtain ⟨cn, cd⟩ := ck
          obtain ⟨ry1, hry1⟩ : ∃ y, y = rcX n l P (t + 1) (u + 1) := ⟨_, rfl⟩
          rw [← hry1] at HST
          have HRY := Lib.hid hry1
          clear hry1
          generalize rcX n l P (t + 1) u = ry0 at *
          generalize Zo.At n l (t + 1) u = u1 at *
          generalize Zo.At n l u (t + 1) = u2 at *
          go_upto_region 11 with (fail)
          have KS := Lib.hid (show ∀ W, wr.grownBy W (some c) → (W.cell? ⟨w.heap.size, 0, none⟩ = some (.int .i64 n) ∧ W.cell? ⟨w.heap.size, 1, none⟩ = some (.slice (some a) len cap)) from fun W h => by
            have q := (PX.out.grown h (by have := PZ.out.lt; have := X3.out.size; omega)).facts
            exact ⟨q.1, q.2.1⟩)
          have QX := Lib.hid (grown_over B2.out GX.out (by omega))
          obtain ⟨wc, hwc⟩ : ∃ wc, wc = wr.drew := ⟨_, rfl⟩
          have Gc := Lib.hid (show wr.grownBy wc (some c) by rw [hwc]; exact grown_of (Below.refl _ _).drew)
          have CX := Lib.hid (show Bx wc c (chC ry0.1 ry0.2) by rw [hwc]; exact CX.out.kept (Below.refl _ _).drew)
          refine wp_region_held_drew (S := (fun W => (W.cell? ⟨w.heap.size, 0, none⟩ = some (.int .i64 n) ∧ W.cell? ⟨w.heap.size, 1, none⟩ = some (.slice (some a) len cap)))) (by kernel_rfl) (by rw [← hwc]; exact KS.out _ Gc.out) (fun h0 => ?_)
          rw [← hwc] at h0 ⊢
          clear hwc
          refine wpAnyH_take (i := 0) (v := ?v1) rfl (by kernel_rfl) (by kernel_rfl) (by kernel_rfl) (fun _ _ _ h => h) (Or.inl ⟨by rfl, ?hy1⟩) h0 ?rest1
          case hy1 => (intro w' hS; (try dsimp only at hS); go_simp; try (with_reducible rfl))
          simp only [Act.put, List.getElem_toArray, List.getElem_cons_zero, List.setIfInBounds_toArray, List.set_cons_zero, List.set_cons_succ]
          refine wpAnyH_take (i := 1) (v := ?v2) rfl (by kernel_rfl) (by kernel_rfl) (by kernel_rfl) (fun _ _ _ h => h) (Or.inl ⟨by rfl, ?hy2⟩) h0 ?rest2
          case hy2 => (intro w' hS; (try dsimp only at hS); go_simp; try (with_reducible rfl))
          simp only [Act.put, List.getElem_toArray, List.getElem_cons_zero, List.getElem_cons_succ, List.setIfInBounds_toArray, List.set_cons_zero, List.set_cons_succ]
          refine wpAnyH_take (i := 2) (v := ?v3) rfl (by kernel_rfl) (by kernel_rfl) (by kernel_rfl) (fun _ _ _ h => h) (Or.inl ⟨by rfl, ?hy3⟩) h0 ?rest3
          case hy3 => (intro w' hS; (try dsimp only at hS); go_simp; try (with_reducible rfl))
          simp only [Act.put, List.getElem_toArray, List.getElem_cons_zero, List.getElem_cons_succ, List.setIfInBounds_toArray, List.set_cons_zero, List.set_cons_succ]
          refine wpAnyH_take (i := 4) (v := ?v4) rfl (by kernel_rfl) (by kernel_rfl) (by kernel_rfl) (fun _ _ _ h => h) (Or.inl ⟨by rfl, ?hy4⟩) h0 ?rest4
          case hy4 => (intro w' hS; (try dsimp only at hS); go_simp; try (with_reducible rfl))
          simp only [Act.put, List.getElem_toArray, List.getElem_cons_zero, List.getElem_cons_succ, List.setIfInBounds_toArray, List.set_cons_zero, List.set_cons_succ]
          refine wpAnyH_take (i := 5) (v := ?v5) rfl (by kernel_rfl) (by kernel_rfl) (by kernel_rfl) (fun _ _ _ h => h) (Or.inl ⟨by rfl, ?hy5⟩) h0 ?rest5
          case hy5 => (intro w' hS; (try dsimp only at hS); go_simp; try (with_reducible rfl))
          simp only [Act.put, List.getElem_toArray, List.getElem_cons_zero, List.getElem_cons_succ, List.setIfInBounds_toArray, List.set_cons_zero, List.set_cons_succ]
          refine wpAnyH_take (i := 6) (v := ?v6) rfl (by kernel_rfl) (by kernel_rfl) (by kernel_rfl) (fun _ _ _ h => h) (Or.inl ⟨by rfl, ?hy6⟩) h0 ?rest6
          case hy6 => (intro w' hS; (try dsimp only at hS); go_simp; try (with_reducible rfl))
          simp only [Act.put, List.getElem_toArray, List.getElem_cons_zero, List.getElem_cons_succ, List.setIfInBounds_toArray, List.set_cons_zero, List.set_cons_succ]
          refine wpAnyH_ready (rs := [3]) (by kernel_rfl) (by simp) (AllReadyH.cons rfl (fun K hK => ?_) AllReadyH.nil)
          rw [if_pos (by rfl)]
          go_simp
          refine (CLT.out _ (grown_over QX.out Gc.out (by omega))).mono ?_
          rintro e wc ⟨rfl, hb⟩
          have Gc := Lib.hid (grown_trans Gc.out (grown_of (c := c) hb))
          have CX := Lib.hid (CX.out.kept hb)
          clear hb
          go_simp
          refine hK.out _ _ (KS.out _ Gc.out) (fun h0_1 => ?_)
          clear hK K h0
          refine wpAnyH_ready (rs := [7]) (by kernel_rfl) (by simp) (AllReadyH.cons rfl (fun K hK => ?_) AllReadyH.nil)
          rw [if_pos (by rfl)]
          go_simp
          refine (AT1.out _ (below_on QW.out (grown_over QX.out Gc.out (by omega)))).mono ?_
          rintro e wc ⟨rfl, hb⟩
          have Gc := Lib.hid (grown_trans Gc.out (grown_of (c := c) hb))
          have CX := Lib.hid (CX.out.kept hb)
          clear hb
          go_simp
          refine hK.out _ _ (KS.out _ Gc.out) (fun h0_2 => ?_)
          clear hK K h0_1
          refine wpAnyH_ready (rs := [8]) (by kernel_rfl) (by simp) (AllReadyH.cons rfl (fun K hK => ?_) AllReadyH.nil)
          rw [if_pos (by rfl)]
          go_simp
          refine (BWT.out _ CX.out).mono ?_
          rintro e wc ⟨rfl, hg, hx⟩
          have Gc := Lib.hid (grown_trans Gc.out hg)
          have CX := Lib.hid hx
          clear hg hx
          go_simp
          refine hK.out _ _ (KS.out _ Gc.out) (fun h0_3 => ?_)
          clear hK K h0_2
          try simp only [List.set_cons_succ]
          try simp only [List.set_cons_zero]
          refine wpAnyH_done (by kernel_rfl) ?_ _
          go_upto_region 12 with (fail)
          generalize wc = w7 at *
          obtain ⟨wc, hwc⟩ : ∃ wc, wc = w7.drew := ⟨_, rfl⟩
          have CX := Lib.hid (show Bx wc c _ by rw [hwc]; exact CX.out.kept (Below.refl _ _).drew)
          have Gc := Lib.hid (show wr.grownBy wc (some c) by rw [hwc]; exact grown_trans Gc.out (grown_of (Below.refl _ _).drew))
          refine wp_region_held_drew (S := (fun W => (W.cell? ⟨w.heap.size, 0, none⟩ = some (.int .i64 n) ∧ W.cell? ⟨w.heap.size, 1, none⟩ = some (.slice (some a) len cap)))) (by kernel_rfl) (by rw [← hwc]; exact KS.out _ Gc.out) (fun h0 => ?_)
          rw [← hwc] at h0 ⊢
          clear hwc
          refine wpAnyH_take (i := 0) (v := ?v7) rfl (by kernel_rfl) (by kernel_rfl) (by kernel_rfl) (fun _ _ _ h => h) (Or.inl ⟨by rfl, ?hy7⟩) h0 ?rest7
          case hy7 => (intro w' hS; (try dsimp only at hS); go_simp; try (with_reducible rfl))
          simp only [Act.put, List.getElem_toArray, List.getElem_cons_zero, List.setIfInBounds_toArray, List.set_cons_zero, List.set_cons_succ]
          refine wpAnyH_take (i := 1) (v := ?v8) rfl (by kernel_rfl) (by kernel_rfl) (by kernel_rfl) (fun _ _ _ h => h) (Or.inl ⟨by rfl, ?hy8⟩) h0 ?rest8
          case hy8 => (intro w' hS; (try dsimp only at hS); go_simp; try (with_reducible rfl))
          simp only [Act.put, List.getElem_toArray, List.getElem_cons_zero, List.getElem_cons_succ, List.setIfInBounds_toArray, List.set_cons_zero, List.set_cons_succ]
          refine wpAnyH_take (i := 2) (v := ?v9) rfl (by kernel_rfl) (by kernel_rfl) (by kernel_rfl) (fun _ _ _ h => h) (Or.inl ⟨by rfl, ?hy9⟩) h0 ?rest9
          case hy9 => (intro w' hS; (try dsimp only at hS); go_simp; try (with_reducible rfl))
          simp only [Act.put, List.getElem_toArray, List.getElem_cons_zero, List.getElem_cons_succ, List.setIfInBounds_toArray, List.set_cons_zero, List.set_cons_succ]
          refine wpAnyH_take (i := 4) (v := ?v10) rfl (by kernel_rfl) (by kernel_rfl) (by kernel_rfl) (fun _ _ _ h => h) (Or.inl ⟨by rfl, ?hy10⟩) h0 ?rest10
          case hy10 => (intro w' hS; (try dsimp only at hS); go_simp; try (with_reducible rfl))
          simp only [Act.put, List.getElem_toArray, List.getElem_cons_zero, List.getElem_cons_succ, List.setIfInBounds_toArray, List.set_cons_zero, List.set_cons_succ]
          refine wpAnyH_take (i := 5) (v := ?v11) rfl (by kernel_rfl) (by kernel_rfl) (by kernel_rfl) (fun _ _ _ h => h) (Or.inl ⟨by rfl, ?hy11⟩) h0 ?rest11
          case hy11 => (intro w' hS; (try dsimp only at hS); go_simp; try (with_reducible rfl))
          simp only [Act.put, List.getElem_toArray, List.getElem_cons_zero, List.getElem_cons_succ, List.setIfInBounds_toArray, List.set_cons_zero, List.set_cons_succ]
          refine wpAnyH_take (i := 6) (v := ?v12) rfl (by kernel_rfl) (by kernel_rfl) (by kernel_rfl) (fun _ _ _ h => h) (Or.inl ⟨by rfl, ?hy12⟩) h0 ?rest12
          case hy12 => (intro w' hS; (try dsimp only at hS); go_simp; try (with_reducible rfl))
          simp only [Act.put, List.getElem_toArray, List.getElem_cons_zero, List.getElem_cons_succ, List.setIfInBounds_toArray, List.set_cons_zero, List.set_cons_succ]
          refine wpAnyH_ready (rs := [3]) (by kernel_rfl) (by simp) (AllReadyH.cons rfl (fun K hK => ?_) AllReadyH.nil)
          rw [if_pos (by rfl)]
          go_simp
          refine (CLT.out _ (grown_over QX.out Gc.out (by omega))).mono ?_
          rintro e wc ⟨rfl, hb⟩
          have Gc := Lib.hid (grown_trans Gc.out (grown_of (c := c) hb))
          have CX := Lib.hid (CX.out.kept hb)
          clear hb
          go_simp
          refine hK.out _ _ (KS.out _ Gc.out) (fun h0_1 => ?_)
          clear hK K h0
          refine wpAnyH_ready (rs := [7]) (by kernel_rfl) (by simp) (AllReadyH.cons rfl (fun K hK => ?_) AllReadyH.nil)
          rw [if_pos (by rfl)]
          go_simp
          refine (AT2.out _ (below_on QW.out (grown_over QX.out Gc.out (by omega)))).mono ?_
          rintro e wc ⟨rfl, hb⟩
          have Gc := Lib.hid (grown_trans Gc.out (grown_of (c := c) hb))
          have CX := Lib.hid (CX.out.kept hb)
          clear hb
          go_simp
          refine hK.out _ _ (KS.out _ Gc.out) (fun h0_2 => ?_)
          clear hK K h0_1
          refine wpAnyH_ready (rs := [8]) (by kernel_rfl) (by simp) (AllReadyH.cons rfl (fun K hK => ?_) AllReadyH.nil)
          rw [if_pos (by rfl)]
          go_simp
          refine (ABT.out _ CX.out).mono ?_
          rintro e wc ⟨rfl, hg, hx⟩
          have Gc := Lib.hid (grown_trans Gc.out hg)
          have CX := Lib.hid hx
          clear hg hx
          go_simp
          refine hK.out _ _ (KS.out _ Gc.out) (fun h0_3 => ?_)
          clear hK K h0_2
          try simp only [List.set_cons_succ]
          try simp only [List.set_cons_zero]
          refine wpAnyH_done (by kernel_rfl) ?_ _
          have HN := Lib.hid (show w2.grownBy wc (some c) ∧ Bx wc c (chC ry1.1 ry1.2) from ⟨grown_trans GX.out Gc.out, by rw [HST.out]; exact CX.out⟩)
          go_wp2_with fail
          go_roundw
          case rel => exact ⟨u + 1, by omega, by go_num, by rw [← HRY.out]; exact HN⟩
          case measure => simp [intOf]; omega
        case neg =>
          obtain rfl : u = t + 1 := by omega
          have TU : decide (((t + 1 : Nat) : Int) < (t : Int) + 1) = false := by simp
          have TU2 : decide ((t : Int) + 1 < (t : Int) + 1) = false := by simp
          have HOKt := Lib.hid (HOK.out P (t + 1) (t + 1))
          have MD := Lib.hid (fun W => refMiddle_any (rcX n l P (t + 1) (t + 1)).1.ln (rcX n l P (t + 1) (t + 1)).1.ld (rcX n l P (t + 1) (t + 1)).1.hn (rcX n l P (t + 1) (t + 1)).1.hd W HOKt.out.1 HOKt.out.2.1 HOKt.out.2.2.1 HOKt.out.2.2.2)
          have AD := Lib.hid (show ∀ W, Calls Tryz.prog 42 #[.agg #[.int .i64 (rcX n l P (t + 1) (t + 1)).1.ln, .int .i64 (rcX n l P (t + 1) (t + 1)).1.ld], .agg #[.int .i64 1, .int .i64 1]] W (Made (.tuple #[.agg #[.int .i64 (shN (rcX n l P (t + 1) (t + 1)).1.ln (rcX n l P (t + 1) (t + 1)).1.ld 1), .int .i64 (shD (rcX n l P (t + 1) (t + 1)).1.ln (rcX n l P (t + 1) (t + 1)).1.ld 1)], .int .i64 (shE (rcX n l P (t + 1) (t + 1)).1.ln (rcX n l P (t + 1) (t + 1)).1.ld 1)]) W) from fun W => by
            have := refAdd_any (rcX n l P (t + 1) (t + 1)).1.ln (rcX n l P (t + 1) (t + 1)).1.ld 1 1 W HOKt.out.1 HOKt.out.2.1 (by unfold I64; omega) (by unfold I64; omega)
            rw [vld_one (by omega) (by omega), Bool.and_true] at this
            unfold shN shD shE
            exact this)
          have QX := Lib.hid (grown_over B2.out GX.out (by omega))
          clear HOKt BWc ABc HSU HZ0
          generalize rcX n l P (t + 1) (t + 1) = ry at *
          obtain ⟨x, bd⟩ := ry
          have HCH := Lib.hid (show chN x = (if x.lo then (if x.nh then shN x.ln x.ld 1 else mdN x.ln x.ld x.hn x.hd) else x.ln) ∧ chD x = (if x.lo then (if x.nh then shD x.ln x.ld 1 else mdD x.ln x.ld x.hn x.hd) else x.ld) ∧ chE x = (if x.lo then (if x.nh then shE x.ln x.ld 1 else mdE x.ln x.ld x.hn x.hd) else 0) from ⟨rfl, rfl, rfl⟩)
          generalize chN x = cn at *
          generalize chD x = cd at *
          generalize chE x = ce at *
          have MD2 := Lib.hid (show ∀ W, Calls Tryz.prog 43 #[.agg #[.int .i64 x.ln, .int .i64 x.ld], .agg #[.int .i64 x.hn, .int .i64 x.hd]] W (Made (.tuple #[.agg #[.int .i64 (mdN x.ln x.ld x.hn x.hd), .int .i64 (mdD x.ln x.ld x.hn x.hd)], .int .i64 (mdE x.ln x.ld x.hn x.hd)]) W) from MD.out)
          clear MD
          obtain ⟨ln, ld, hn', hd', lo, ho, nh⟩ := x
          simp only at HCH AD MD2 CX PS1
          generalize shN ln ld 1 = an at *
          generalize shD ln ld 1 = ad at *
          generalize shE ln ld 1 = ae at *
          generalize mdN ln ld hn' hd' = mn at *
          generalize mdD ln ld hn' hd' = md at *
          generalize mdE ln ld hn' hd' = me at *
          obtain ⟨w3, hw3⟩ : ∃ w3, w3 = wr.alloc (.cells #[.int .i64 ln, .int .i64 ld] 32) := ⟨_, rfl⟩
          have P3 := Lib.hid (show Pair w3 wr.heap.size ln ld by rw [hw3]; exact Pair.made _ _ _ _)
          have C3 := Lib.hid (show Bx w3 c _ by rw [hw3]; exact CX.out.kept (one_more _))
          have Q3 := Lib.hid (show Below wo.heap.size wo w3 by rw [hw3]; exact below_on QX.out (one_more _))
          have HXS := Lib.hid (show c < wr.heap.size from CX.out.lt)
          have HXW := Lib.hid (show wo.heap.size ≤ wr.heap.size from QX.out.size)
          have c0 := CX.out.cell 0
          have c1 := CX.out.cell 1
          simp [chC] at c0 c1
          go_upto_region 14 with (fail)
          rw [← hw3]
          clear hw3 c0 c1 QX CX GX PX
          have c0 := C3.out.cell 0
          have c1 := C3.out.cell 1
          have c2 := C3.out.cell 2
          have c3 := C3.out.cell 3
          have c4 := C3.out.cell 4
          have c6 := C3.out.cell 6
          have c7 := C3.out.cell 7
          simp [chC] at c0 c1 c2 c3 c4 c6 c7
          cases lo
          case false =>
            have HCH := Lib.hid (show cn = ln ∧ cd = ld ∧ ce = 0 from HCH.out)
            obtain ⟨rfl, rfl, rfl⟩ := HCH.out
            clear HCH
            cases bd
            case true =>
              have HN := Lib.hid (show (rpR n l n).2 = true from by
                have h1 : (rpR n l (t + 1)).2 = true := by rw [PS1.out, if_pos (Or.inl rfl)]
                rw [PY.out (t + 1) n (by omega) h1, h1])
              have HE := Lib.hid (show er = 7 by rw [HER.out, HN.out]; rfl)
              go_wp2_with fail
              go_ret2
              rw [HE.out]
              exact ⟨below_on QW.out Q3.out, Or.inr ⟨by decide, rfl⟩⟩
            case false =>
              have PS3 := Lib.hid (show rpR n l (t + 1) = (P ++ [(cn, cd)], false) by rw [PS1.out, if_neg (by simp)])
              have BT := Lib.hid (below_on X3.out Q3.out)
              have hsz := BT.out.size
              have hown := OQ.out.on Q3.out
              unfold OwnQ at hown
              rw [XL.out] at hown
              obtain ⟨p0, p1, p2, p3⟩ := P3.out.facts
              have A9 := Lib.hid (cells_two (w := w3) (.int .i64 cn) (.int .i64 cd) 32 rfl)
              go_wp2_with (at_builtin; refine wpList_append_own _ rfl _ _ 25 rfl w1.heap.size 32 i0 (.agg #[.int .i64 0, .int .i64 0]) 2 16 Tryz.underlying25 hi hz0 hz1 hz2 rfl (by decide) _ _ _ rfl (World.ownsRow.alloc hown _) ⟨w3.heap.size, 0, none⟩ 1 1 [.int .i64 cn, .int .i64 cd] rfl rfl A9.out (by simp [Value.oneCell']) (by unfold maxLen; omega) (by omega) (by simp; omega) ?_)
              intro v' w9 hown9 hgrow _
              have B9 := Lib.hid (show Below w1.heap.size w1 w9 from Below.grown (BT.out.alloc BT.out.size _) hgrow (by simp; omega) (fun k hk => (World.ownsRow.lt hown k hk).1))
              have HN := Lib.hid (show (rpR n l (t + 1)).2 = false ∧ OwnQ w9 w1.heap.size v' (rpR n l (t + 1)).1 ∧ Below w1.heap.size w1 w9 from by
                rw [PS3.out]
                refine ⟨rfl, ?_, B9.out⟩
                unfold OwnQ
                rw [qV_app, List.length_append, XL.out]
                exact hown9)
              clear hown9 hgrow hown hsz p0 p1 p2 p3
              go_wp2_with fail
              go_roundw
              case rel => exact ⟨t + 1, by omega, by go_num, HN⟩
              case measure => simp [intOf]; omega
          case true =>
            cases nh
            case true =>
              have HCH := Lib.hid (show cn = an ∧ cd = ad ∧ ce = ae from HCH.out)
              obtain ⟨rfl, rfl, rfl⟩ := HCH.out
              clear HCH
              obtain ⟨p0, p1, p2, p3⟩ := P3.out.facts
              go_wp2_with fail
              refine (AD.out _).mono ?_
              rintro e w4 ⟨rfl, hb4⟩
              have PB := P3.out.kept hb4
              have CB := C3.out.kept hb4
              have QB := below_on Q3.out hb4
              obtain ⟨w5, hw5⟩ : ∃ w5, w5 = (w4.setCell ⟨wr.heap.size, 0, none⟩ (.int .i64 cn)).setCell ⟨wr.heap.size, 1, none⟩ (.int .i64 cd) := ⟨_, rfl⟩
              have P5 := Lib.hid (show Pair w5 wr.heap.size cn cd by rw [hw5]; exact PB.put _ _)
              have C5 := Lib.hid (show Bx w5 c _ by rw [hw5]; exact CB.aside (by have := HXS.out; omega) _ _)
              have Q5 := Lib.hid (show Below wo.heap.size wo w5 by rw [hw5]; exact (QB.setCell HXW.out _).setCell HXW.out _)
              obtain ⟨q0, q1, q2, q3⟩ := PB.facts
              clear hb4 PB CB QB p0 p1 p2 p3 c0 c1 c2 c3 c4 c6 c7
              go_upto_region 18 with (fail)
              rw [← hw5]
              clear hw5 q0 q1 q2 q3
              have c0 := C5.out.cell 0
              have c1 := C5.out.cell 1
              have c2 := C5.out.cell 2
              have c3 := C5.out.cell 3
              have c4 := C5.out.cell 4
              have c6 := C5.out.cell 6
              have c7 := C5.out.cell 7
              simp [chC] at c0 c1 c2 c3 c4 c6 c7
              cases bd
              case true =>
                have HN := Lib.hid (show (rpR n l n).2 = true from by
                  have h1 : (rpR n l (t + 1)).2 = true := by rw [PS1.out, if_pos (Or.inl rfl)]
                  rw [PY.out (t + 1) n (by omega) h1, h1])
                have HE := Lib.hid (show er = 7 by rw [HER.out, HN.out]; rfl)
                go_wp2_with fail
                go_ret2
                rw [HE.out]
                exact ⟨below_on QW.out Q5.out, Or.inr ⟨by decide, rfl⟩⟩
              case false =>
                by_cases hce : ce = 0
                case neg =>
                  have DE : (ce != 0) = true := by simpa using hce
                  have HN := Lib.hid (show (rpR n l n).2 = true from by
                    have h1 : (rpR n l (t + 1)).2 = true := by rw [PS1.out, if_pos (Or.inr hce)]
                    rw [PY.out (t + 1) n (by omega) h1, h1])
                  have HE := Lib.hid (show er = 7 by rw [HER.out, HN.out]; rfl)
                  clear hce
                  go_wp2_with fail
                  go_ret2
                  rw [HE.out]
                  exact ⟨below_on QW.out Q5.out, Or.inr ⟨by decide, rfl⟩⟩
                case pos =>
                  subst hce
                  have PS3 := Lib.hid (show rpR n l (t + 1) = (P ++ [(cn, cd)], false) by rw [PS1.out, if_neg (by simp)])
                  have BT := Lib.hid (below_on X3.out Q5.out)
                  have hsz := BT.out.size
                  have hown := OQ.out.on Q5.out
                  unfold OwnQ at hown
                  rw [XL.out] at hown
                  obtain ⟨p0, p1, p2, p3⟩ := P5.out.facts
                  have A9 := Lib.hid (cells_two (w := w5) (.int .i64 cn) (.int .i64 cd) 32 rfl)
                  go_wp2_with (at_builtin; refine wpList_append_own _ rfl _ _ 25 rfl w1.heap.size 32 i0 (.agg #[.int .i64 0, .int .i64 0]) 2 16 Tryz.underlying25 hi hz0 hz1 hz2 rfl (by decide) _ _ _ rfl (World.ownsRow.alloc hown _) ⟨w5.heap.size, 0, none⟩ 1 1 [.int .i64 cn, .int .i64 cd] rfl rfl A9.out (by simp [Value.oneCell']) (by unfold maxLen; omega) (by omega) (by simp; omega) ?_)
                  intro v' w9 hown9 hgrow _
                  have B9 := Lib.hid (show Below w1.heap.size w1 w9 from Below.grown (BT.out.alloc BT.out.size _) hgrow (by simp; omega) (fun k hk => (World.ownsRow.lt hown k hk).1))
                  have HN := Lib.hid (show (rpR n l (t + 1)).2 = false ∧ OwnQ w9 w1.heap.size v' (rpR n l (t + 1)).1 ∧ Below w1.heap.size w1 w9 from by
                    rw [PS3.out]
                    refine ⟨rfl, ?_, B9.out⟩
                    unfold OwnQ
                    rw [qV_app, List.length_append, XL.out]
                    exact hown9)
                  clear hown9 hgrow hown hsz p0 p1 p2 p3
                  go_wp2_with fail
                  go_roundw
                  case rel => exact ⟨t + 1, by omega, by go_num, HN⟩
                  case measure => simp [intOf]; omega
            case false =>
              have HCH := Lib.hid (show cn = mn ∧ cd = md ∧ ce = me from HCH.out)
              obtain ⟨rfl, rfl, rfl⟩ := HCH.out
              clear HCH
              go_upto_region 17 with (fail)
              have KS := Lib.hid (show ∀ W, w3.grownBy W (some wr.heap.size) → (W.cell? ⟨c, 2, none⟩ = some (.int .i64 hn') ∧ W.cell? ⟨c, 3, none⟩ = some (.int .i64 hd')) from fun W h => by
                have q := C3.out.grown h (by have := HXS.out; omega)
                have c2 := q.cell 2
                have c3 := q.cell 3
                simp [chC] at c2 c3
                exact ⟨c2, c3⟩)
              obtain ⟨wc, hwc⟩ : ∃ wc, wc = w3.drew := ⟨_, rfl⟩
              have Gc := Lib.hid (show w3.grownBy wc (some wr.heap.size) by rw [hwc]; exact grown_of (Below.refl _ _).drew)
              have Pc := Lib.hid (show Pair wc wr.heap.size ln ld by rw [hwc]; exact P3.out.kept (Below.refl _ _).drew)
              clear c0 c1 c2 c3 c4 c6 c7
              obtain ⟨p0, p1, p2, p3⟩ := Pc.out.facts
              refine wp_region_held_drew (S := (fun W => (W.cell? ⟨c, 2, none⟩ = some (.int .i64 hn') ∧ W.cell? ⟨c, 3, none⟩ = some (.int .i64 hd')))) (by kernel_rfl) (by rw [← hwc]; exact KS.out _ Gc.out) (fun h0 => ?_)
              rw [← hwc] at h0 ⊢
              clear hwc
              refine wpAnyH_take (i := 1) (v := ?v13) rfl (by kernel_rfl) (by kernel_rfl) (by kernel_rfl) (fun _ _ _ h => h) (Or.inl ⟨by rfl, ?hy13⟩) h0 ?rest13
              case hy13 => (intro w' hS; (try dsimp only at hS); go_simp; try (with_reducible rfl))
              simp only [Act.put, List.getElem_toArray, List.getElem_cons_zero, List.getElem_cons_succ, List.setIfInBounds_toArray, List.set_cons_zero, List.set_cons_succ]
              refine wpAnyH_take (i := 2) (v := ?v14) rfl (by kernel_rfl) (by kernel_rfl) (by kernel_rfl) (fun _ _ _ h => h) (Or.inl ⟨by rfl, ?hy14⟩) h0 ?rest14
              case hy14 => (intro w' hS; (try dsimp only at hS); go_simp; try (with_reducible rfl))
              simp only [Act.put, List.getElem_toArray, List.getElem_cons_zero, List.getElem_cons_succ, List.setIfInBounds_toArray, List.set_cons_zero, List.set_cons_succ]
              refine wpAnyH_take (i := 3) (v := ?v15) rfl (by kernel_rfl) (by kernel_rfl) (by kernel_rfl) (fun _ _ _ h => h) (Or.inl ⟨by rfl, ?hy15⟩) h0 ?rest15
              case hy15 => (intro w' hS; (try dsimp only at hS); go_simp; try (with_reducible rfl))
              simp only [Act.put, List.getElem_toArray, List.getElem_cons_zero, List.getElem_cons_succ, List.setIfInBounds_toArray, List.set_cons_zero, List.set_cons_succ]
              refine wpAnyH_take (i := 4) (v := ?v16) rfl (by kernel_rfl) (by kernel_rfl) (by kernel_rfl) (fun _ _ _ h => h) (Or.inl ⟨by rfl, ?hy16⟩) h0 ?rest16
              case hy16 => (intro w' hS; (try dsimp only at hS); go_simp; try (with_reducible rfl))
              simp only [Act.put, List.getElem_toArray, List.getElem_cons_zero, List.getElem_cons_succ, List.setIfInBounds_toArray, List.set_cons_zero, List.set_cons_succ]
              refine wpAnyH_take (i := 5) (v := ?v17) rfl (by kernel_rfl) (by kernel_rfl) (by kernel_rfl) (fun _ _ _ h => h) (Or.inl ⟨by rfl, ?hy17⟩) h0 ?rest17
              case hy17 => (intro w' hS; (try dsimp only at hS); go_simp; try (with_reducible rfl))
              simp only [Act.put, List.getElem_toArray, List.getElem_cons_zero, List.getElem_cons_succ, List.setIfInBounds_toArray, List.set_cons_zero, List.set_cons_succ]
              refine wpAnyH_ready (rs := [0]) (by kernel_rfl) (by simp) (AllReadyH.cons rfl (fun K hK => ?_) AllReadyH.nil)
              rw [if_pos (by rfl)]
              go_simp
              refine hK.out _ _ (KS.out _ Gc.out) (fun h0_1 => ?_)
              clear hK K h0
              refine wpAnyH_ready (rs := [6]) (by kernel_rfl) (by simp) (AllReadyH.cons rfl (fun K hK => ?_) AllReadyH.nil)
              rw [if_pos (by rfl)]
              go_simp
              refine (MD2.out _).mono ?_
              rintro e wc ⟨rfl, hb⟩
              have Gc := Lib.hid (grown_trans Gc.out (grown_of (c := wr.heap.size) hb))
              have Pc := Lib.hid (Pc.out.kept hb)
              clear hb p0 p1 p2 p3
              obtain ⟨p0, p1, p2, p3⟩ := Pc.out.facts
              go_simp
              refine hK.out _ _ (KS.out _ Gc.out) (fun h0_2 => ?_)
              clear hK K h0_1
              refine wpAnyH_take (i := 7) (v := ?v18) rfl (by kernel_rfl) (by kernel_rfl) (by kernel_rfl) (fun _ _ _ h => h) (Or.inl ⟨by rfl, ?hy18⟩) h0_2 ?rest18
              case hy18 => (intro w' hS; (try dsimp only at hS); go_simp; try (with_reducible rfl))
              simp only [Act.put, List.getElem_toArray, List.getElem_cons_zero, List.getElem_cons_succ, List.setIfInBounds_toArray, List.set_cons_zero, List.set_cons_succ]
              refine wpAnyH_take (i := 8) (v := ?v19) rfl (by kernel_rfl) (by kernel_rfl) (by kernel_rfl) (fun _ _ _ h => h) (Or.inl ⟨by rfl, ?hy19⟩) h0_2 ?rest19
              case hy19 => (intro w' hS; (try dsimp only at hS); go_simp; try (with_reducible rfl))
              simp only [Act.put, List.getElem_toArray, List.getElem_cons_zero, List.getElem_cons_succ, List.setIfInBounds_toArray, List.set_cons_zero, List.set_cons_succ]
              refine wpAnyH_take (i := 9) (v := ?v20) rfl (by kernel_rfl) (by kernel_rfl) (by kernel_rfl) (fun _ _ _ h => h) (Or.inl ⟨by rfl, ?hy20⟩) h0_2 ?rest20
              case hy20 => (intro w' hS; (try dsimp only at hS); go_simp; try (with_reducible rfl))
              simp only [Act.put, List.getElem_toArray, List.getElem_cons_zero, List.getElem_cons_succ, List.setIfInBounds_toArray, List.set_cons_zero, List.set_cons_succ]
              refine wpAnyH_ready (rs := [10]) (by kernel_rfl) (by simp) (AllReadyH.cons rfl (fun K hK => ?_) AllReadyH.nil)
              rw [if_pos (by rfl)]
              go_simp
              refine hK.out _ _ (KS.out _ (grown_trans Gc.out (grown_trans (grown_put _ _ _ _) (grown_put _ _ _ _)))) (fun h0_3 => ?_)
              clear hK K h0_2
              refine wpAnyH_take (i := 11) (v := ?v21) rfl (by kernel_rfl) (by kernel_rfl) (by kernel_rfl) (fun _ _ _ h => h) (Or.inl ⟨by rfl, ?hy21⟩) h0_3 ?rest21
              case hy21 => (intro w' hS; (try dsimp only at hS); go_simp; try (with_reducible rfl))
              simp only [Act.put, List.getElem_toArray, List.getElem_cons_zero, List.getElem_cons_succ, List.setIfInBounds_toArray]
              try simp only [List.set_cons_succ]
              try simp only [List.set_cons_zero]
              refine wpAnyH_done (by kernel_rfl) ?_ _
              obtain ⟨w5, hw5⟩ : ∃ w5, w5 = (wc.setCell ⟨wr.heap.size, 0, none⟩ (.int .i64 cn)).setCell ⟨wr.heap.size, 1, none⟩ (.int .i64 cd) := ⟨_, rfl⟩
              have P5 := Lib.hid (show Pair w5 wr.heap.size cn cd by rw [hw5]; exact Pc.out.put _ _)
              have G5 := Lib.hid (show w3.grownBy w5 (some wr.heap.size) by rw [hw5]; exact grown_trans Gc.out (grown_trans (grown_put _ _ _ _) (grown_put _ _ _ _)))
              have C5 := Lib.hid (C3.out.grown G5.out (by have := HXS.out; omega))
              have Q5 := Lib.hid (grown_over Q3.out G5.out HXW.out)
              go_upto_region 18 with (fail)
              rw [← hw5]
              clear hw5 p0 p1 p2 p3
              have c7 := C5.out.cell 7
              simp [chC] at c7
              cases bd
              case true =>
                have HN := Lib.hid (show (rpR n l n).2 = true from by
                  have h1 : (rpR n l (t + 1)).2 = true := by rw [PS1.out, if_pos (Or.inl rfl)]
                  rw [PY.out (t + 1) n (by omega) h1, h1])
                have HE := Lib.hid (show er = 7 by rw [HER.out, HN.out]; rfl)
                go_wp2_with fail
                go_ret2
                rw [HE.out]
                exact ⟨below_on QW.out Q5.out, Or.inr ⟨by decide, rfl⟩⟩
              case false =>
                by_cases hce : ce = 0
                case neg =>
                  have DE : (ce != 0) = true := by simpa using hce
                  have HN := Lib.hid (show (rpR n l n).2 = true from by
                    have h1 : (rpR n l (t + 1)).2 = true := by rw [PS1.out, if_pos (Or.inr hce)]
                    rw [PY.out (t + 1) n (by omega) h1, h1])
                  have HE := Lib.hid (show er = 7 by rw [HER.out, HN.out]; rfl)
                  clear hce
                  go_wp2_with fail
                  go_ret2
                  rw [HE.out]
                  exact ⟨below_on QW.out Q5.out, Or.inr ⟨by decide, rfl⟩⟩
                case pos =>
                  subst hce
                  have PS3 := Lib.hid (show rpR n l (t + 1) = (P ++ [(cn, cd)], false) by rw [PS1.out, if_neg (by simp)])
                  have BT := Lib.hid (below_on X3.out Q5.out)
                  have hsz := BT.out.size
                  have hown := OQ.out.on Q5.out
                  unfold OwnQ at hown
                  rw [XL.out] at hown
                  obtain ⟨p0, p1, p2, p3⟩ := P5.out.facts
                  have A9 := Lib.hid (cells_two (w := w5) (.int .i64 cn) (.int .i64 cd) 32 rfl)
                  go_wp2_with (at_builtin; refine wpList_append_own _ rfl _ _ 25 rfl w1.heap.size 32 i0 (.agg #[.int .i64 0, .int .i64 0]) 2 16 Tryz.underlying25 hi hz0 hz1 hz2 rfl (by decide) _ _ _ rfl (World.ownsRow.alloc hown _) ⟨w5.heap.size, 0, none⟩ 1 1 [.int .i64 cn, .int .i64 cd] rfl rfl A9.out (by simp [Value.oneCell']) (by unfold maxLen; omega) (by omega) (by simp; omega) ?_)
                  intro v' w9 hown9 hgrow _
                  have B9 := Lib.hid (show Below w1.heap.size w1 w9 from Below.grown (BT.out.alloc BT.out.size _) hgrow (by simp; omega) (fun k hk => (World.ownsRow.lt hown k hk).1))
                  have HN := Lib.hid (show (rpR n l (t + 1)).2 = false ∧ OwnQ w9 w1.heap.size v' (rpR n l (t + 1)).1 ∧ Below w1.heap.size w1 w9 from by
                    rw [PS3.out]
                    refine ⟨rfl, ?_, B9.out⟩
                    unfold OwnQ
                    rw [qV_app, List.length_append, XL.out]
                    exact hown9)
                  clear hown9 hgrow hown hsz p0 p1 p2 p3
                  go_wp2_with fail
                  go_roundw
                  case rel => exact ⟨t + 1, by omega, by go_num, HN⟩
                  case measure => simp [intOf]; omega
    case neg =>
      obtain rfl : t = n := by omega
      have TB : decide ((t : Int) + 1 ≤ (t : Int)) = false := by simp; omega
      have HE := Lib.hid (show er = 0 by rw [HER.out, X1.out]; rfl)
      go_wp2_with fail
      go_ret2
      rw [HE.out]
      exact ⟨QW.out, Or.inl ⟨rfl, po, pc, by rw [XL.out]; rfl, XP.out⟩⟩

theorem rpoint_gen (N : Int) (l : List Int) (ao : Option Addr) (cap : Nat) (w : World) (hA : Arg w ao l) :
    Calls Tryz.prog 11 #[.agg #[.int .i64 N, .slice ao l.length cap]] w (QRes w (if chkE N l = 0 then (rpR N.toNat l N.toNat).1 else []) (if chkE N l = 0 then (if (rpR N.toNat l N.toNat).2 then 7 else 0) else 2)) := by
  by_cases hc : chkE N l = 0
  · rw [if_pos hc, if_pos hc]
    obtain ⟨n, rfl, hn, hl, hne⟩ := chk_ok hc
    obtain ⟨a, rfl, hR⟩ := hA hne
    exact rpoint_ok n l a cap w hn hl hc hR
  · rw [if_neg hc, if_neg hc]
    exact rpoint_bad N l ao cap w hA hc
end Go.Proofs.YtbnebinpemejlaaGreat

namespace Go.Proofs.YtbnebinpemejlaaGreat.Zo

/-- The number q / D meets the limit l. -/
def mt (D q l : Int) : Prop := l = 1099511627776 ∨ (l % 2 = 0 ∧ q < l / 2 * D) ∨ (¬ l % 2 = 0 ∧ q ≤ l / 2 * D)

theorem mt_none (D q : Int) : mt D q 1099511627776 := Or.inl rfl

theorem mt_one {D q : Int} : mt D q 1 ↔ q ≤ 0 := by
  unfold mt
  have : (1 : Int) / 2 * D = 0 := by rw [show (1 : Int) / 2 = 0 by decide]; omega
  rw [this]; omega

theorem mt_mono {D q a b : Int} (hD : 0 < D) (hab : a ≤ b) (hb : b ≤ 1099511627776) (h : mt D q a) : mt D q b := by
  unfold mt at h ⊢
  by_cases e : b = 1099511627776
  · exact Or.inl e
  · right
    have hl : a / 2 * D ≤ b / 2 * D := Int.mul_le_mul_of_nonneg_right (by omega) (by omega)
    rcases h with h | ⟨h1, h2⟩ | ⟨h1, h2⟩
    · omega
    · by_cases p : b % 2 = 0
      · exact Or.inl ⟨p, by omega⟩
      · exact Or.inr ⟨p, by omega⟩
    · by_cases p : b % 2 = 0
      · have : (a / 2 + 1) * D ≤ b / 2 * D := Int.mul_le_mul_of_nonneg_right (by omega) (by omega)
        rw [Int.add_mul] at this
        exact Or.inl ⟨p, by omega⟩
      · exact Or.inr ⟨p, by omega⟩

theorem mt_min {D q a b : Int} (h : mt D q a) (k : mt D q b) : mt D q (min a b) := by
  rcases Int.le_total a b with c | c
  · rwa [Int.min_eq_left c]
  · rwa [Int.min_eq_right c]

/-- What is met is not far below. -/
theorem mt_low {D q a M : Int} (hD : 0 < D) (hq : -(M * D) ≤ q) (h : mt D q a) (hM : 0 ≤ M) : -(2 * M) ≤ a := by
  unfold mt at h
  by_cases e : a < -(2 * M)
  · exfalso
    have hl : (a / 2 + M) * D ≤ -1 * D := Int.mul_le_mul_of_nonneg_right (by omega) (by omega)
    rw [Int.add_mul] at hl
    omega
  · omega

theorem mt_sum {D p q a b : Int} (ha : -1152921504606846976 ≤ a) (ha' : a ≤ 1152921504606846976) (hb : -1152921504606846976 ≤ b) (hb' : b ≤ 1152921504606846976) (h : mt D p a) (k : mt D q b) : mt D (p + q) (smW a b) := by
  unfold smW
  by_cases na : a = 1099511627776
  · rw [if_pos (Or.inl na)]; exact mt_none _ _
  by_cases nb : b = 1099511627776
  · rw [if_pos (Or.inr nb)]; exact mt_none _ _
  rw [if_neg (by omega)]
  unfold mt at h k
  have s : ∀ c, c = a / 2 + b / 2 → c * D = a / 2 * D + b / 2 * D := by intro c hc; rw [hc, Int.add_mul]
  by_cases ea : a % 2 = 0
  · by_cases eb : b % 2 = 0
    · rw [if_pos ⟨ea, eb⟩, w64_in (by omega) (by omega)]
      have := s ((a + b) / 2) (by omega)
      unfold mt; omega
    · rw [if_neg (by omega), w64_in (x := a + b) (by omega) (by omega), w64_in (by omega) (by omega)]
      have := s ((a + b - 1) / 2) (by omega)
      unfold mt; omega
  · rw [if_neg (by omega), w64_in (x := a + b) (by omega) (by omega), w64_in (by omega) (by omega)]
    have := s ((a + b - 1) / 2) (by omega)
    unfold mt; omega

/-- The point X / D is in the set of the matrix. -/
def In (n : Nat) (l : List Int) (D : Int) (X : Nat → Int) : Prop := ∀ i j, i ≤ n → j ≤ n → mt D (X i - X j) (At n l i j)

/-- A point: from 0 on, the clock 0 is 0, and no value is above M. -/
structure Pt (n : Nat) (D : Int) (X : Nat → Int) (M : Int) : Prop where
  pos : 0 < D
  zero : X 0 = 0
  low : ∀ i, i ≤ n → 0 ≤ X i
  high : ∀ i, i ≤ n → X i ≤ M * D

theorem Pt.diff {n : Nat} {D : Int} {X : Nat → Int} {M : Int} (h : Pt n D X M) {i j : Nat} (hi : i ≤ n) (hj : j ≤ n) : -(M * D) ≤ X i - X j := by
  have := h.low i hi
  have := h.high j hj
  omega

theorem Pt.le {n : Nat} {D : Int} {X : Nat → Int} {M : Int} (h : Pt n D X M) : 0 ≤ M := by
  have a := h.low 0 (by omega)
  have b := h.high 0 (by omega)
  rcases Int.lt_or_le M 0 with c | c
  · have : M * D < 0 * D := Int.mul_lt_mul_of_pos_right c h.pos
    omega
  · exact c

def Top (n : Nat) (l : List Int) : Prop := l.length = (n + 1) * (n + 1) ∧ ∀ i j, i ≤ n → j ≤ n → At n l i j ≤ 1099511627776

theorem Top.put {n : Nat} {l : List Int} (h : Top n l) {i j : Nat} (hi : i ≤ n) (hj : j ≤ n) (y : Int) : Top n (l.set (ix n i j) (min (At n l i j) y)) :=
  ⟨by simpa using h.1, fun _ _ ha hb => Int.le_trans (set_le h.1 hi hj y hb) (h.2 _ _ ha hb)⟩

/-- A point of the matrix is one of what is closed. -/
theorem clo_sound {n : Nat} {l : List Int} {D M : Int} {X : Nat → Int} (hp : Pt n D X M) (hM : M ≤ 4611686018427387) (ht : Top n l) (h : In n l D X) : In n (clo n l) D X := by
  have r : Top n (clo n l) ∧ In n (clo n l) D X := by
    refine clo_keeps (R := fun l => Top n l ∧ In n l D X) (fun l i j hij hi hj hl => ⟨hl.1.put hi hj 1, fun a b ha hb => ?_⟩) (fun l k i j hk hi hj hl => ⟨hl.1.put hi hj _, fun a b ha hb => ?_⟩) ⟨ht, h⟩
    · rw [At_set hl.1.1 hi hj _ hb]
      split
      · rename_i e
        rw [e.1, e.2]
        refine mt_min (hl.2 i j hi hj) (mt_one.2 ?_)
        rcases hij with z | z
        · subst z; have := hp.low j hj; rw [hp.zero]; omega
        · subst z; omega
      · exact hl.2 a b ha hb
    · unfold rlx
      rw [At_set hl.1.1 hi hj _ hb]
      split
      · rename_i e
        rw [e.1, e.2]
        have h1 := hl.2 i k hi hk
        have h2 := hl.2 k j hk hj
        have l1 := mt_low hp.pos (hp.diff hi hk) h1 hp.le
        have l2 := mt_low hp.pos (hp.diff hk hj) h2 hp.le
        have u1 := hl.1.2 i k hi hk
        have u2 := hl.1.2 k j hk hj
        refine mt_min (hl.2 i j hi hj) ?_
        have := mt_sum (by omega) (by omega) (by omega) (by omega) h1 h2
        rwa [show X i - X k + (X k - X j) = X i - X j by omega] at this
      · exact hl.2 a b ha hb
  exact r.2

theorem clo_le {n : Nat} {l : List Int} (hl : l.length = (n + 1) * (n + 1)) : ∀ a b, a ≤ n → b ≤ n → At n (clo n l) a b ≤ At n l a b := by
  intro a b ha hb
  exact (clo_keeps (R := fun x : List Int => x.length = (n + 1) * (n + 1) ∧ At n x a b ≤ At n l a b)
    (fun x i j _ hi hj hx => ⟨by simpa using hx.1, Int.le_trans (set_le hx.1 hi hj _ hb) hx.2⟩)
    (fun x k i j _ hi hj hx => ⟨by simpa [rlx] using hx.1, Int.le_trans (set_le hx.1 hi hj _ hb) hx.2⟩) ⟨hl, Int.le_refl _⟩).2

/-- And the other way round. -/
theorem clo_complete {n : Nat} {l : List Int} {D : Int} {X : Nat → Int} (hD : 0 < D) (ht : Top n l) (h : In n (clo n l) D X) : In n l D X :=
  fun i j hi hj => mt_mono hD (clo_le ht.1 i j hi hj) (ht.2 i j hi hj) (h i j hi hj)

/-- A set with a point is not told to be empty. -/
theorem In.diag {n : Nat} {l : List Int} {D : Int} {X : Nat → Int} (hD : 0 < D) (h : In n l D X) {i : Nat} (hi : i ≤ n) : 1 ≤ At n l i i := by
  have := h i i hi hi
  rw [Int.sub_self] at this
  unfold mt at this
  rcases this with e | ⟨e, g⟩ | ⟨e, g⟩
  · omega
  · by_cases c : At n l i i / 2 ≤ 0
    · have : At n l i i / 2 * D ≤ 0 * D := Int.mul_le_mul_of_nonneg_right c (by omega)
      omega
    · omega
  · by_cases c : At n l i i / 2 ≤ -1
    · have : At n l i i / 2 * D ≤ -1 * D := Int.mul_le_mul_of_nonneg_right c (by omega)
      omega
    · omega
end Go.Proofs.YtbnebinpemejlaaGreat.Zo

namespace Go.Proofs.YtbnebinpemejlaaGreat
open Go.RowKit

def reG (N : Int) (l : List Int) (i c : Int) : Int := if chkE N l = 0 ∧ 1 ≤ i ∧ i ≤ N ∧ cnB c = true then reE N.toNat i.toNat c l else 2

def cyL (n i j : Nat) (l : List Int) : List Int := Zo.clo n (anL n (isC i j 0) (reM n i l))

def cyE (n i j : Nat) (l : List Int) : Int := if cloE n (frL n i l) = 0 then anG n (isC i j 0) (reM n i l) else cloE n (frL n i l)

def cyM (n i j : Nat) (l : List Int) : List Int := if i = j then l else cyL n i j l

def cyG (N : Int) (l : List Int) (i j : Int) : Int := if chkE N l = 0 ∧ 1 ≤ i ∧ i ≤ N ∧ 0 ≤ j ∧ j ≤ N then (if i = j then 0 else cyE N.toNat i.toNat j.toNat l) else 2
end Go.Proofs.YtbnebinpemejlaaGreat

namespace Go.Proofs.YtbnebinpemejlaaGreat
open Go.RowKit

theorem okC_parts {n : Nat} {c : Con} (h : okC n c = true) : c.1.toNat ≤ n ∧ c.2.1.toNat ≤ n ∧ Zo.Vl c.2.2 := by
  unfold okC at h
  simp only [Bool.and_eq_true, decide_eq_true_eq] at h
  exact ⟨by omega, by omega, vl_of_lv h.2⟩

theorem anS_len (n : Nat) (cs : List Con) (x : List Int) (t : Nat) : (anS n cs x t).length = x.length := by simp [anS]

theorem anS_at {n : Nat} {cs : List Con} {x : List Int} {t : Nat} (hx : x.length = (n + 1) * (n + 1)) (h : okC n (gc cs t) = true) {a b : Nat} (hb : b ≤ n) :
    Zo.At n (anS n cs x t) a b = if a = (gc cs t).1.toNat ∧ b = (gc cs t).2.1.toNat then imin (Zo.At n x (gc cs t).1.toNat (gc cs t).2.1.toNat) (gc cs t).2.2 else Zo.At n x a b := by
  obtain ⟨p1, p2, _⟩ := okC_parts h
  unfold anS
  rw [Zo.At_set hx p1 p2 _ hb]

theorem an_len (n : Nat) (cs : List Con) (u : List Int) (s : Nat) : ((List.range s).foldl (anS n cs) u).length = u.length := fold_len (anS_len n cs) u s

theorem an_le {n : Nat} {cs : List Con} (hok : ∀ t, t < cs.length → okC n (gc cs t) = true) {u : List Int} (hu : u.length = (n + 1) * (n + 1)) : ∀ s, s ≤ cs.length → Zo.Le n ((List.range s).foldl (anS n cs) u) u := by
  intro s
  induction s with
  | zero => intro _ a b _ _; exact Int.le_refl _
  | succ s ih =>
    intro hs a b ha hb
    obtain ⟨p1, p2, _⟩ := okC_parts (hok s (by omega))
    rw [Zo.fold_succ]
    exact Int.le_trans (Zo.set_le (by rw [an_len, hu]) p1 p2 _ hb) (ih (by omega) a b ha hb)

theorem an_at {n : Nat} {cs : List Con} (hok : ∀ t, t < cs.length → okC n (gc cs t) = true) {u : List Int} (hu : u.length = (n + 1) * (n + 1)) : ∀ s, s ≤ cs.length → ∀ t, t < s → Zo.At n ((List.range s).foldl (anS n cs) u) (gc cs t).1.toNat (gc cs t).2.1.toNat ≤ (gc cs t).2.2 := by
  intro s
  induction s with
  | zero => intro _ t ht; omega
  | succ s ih =>
    intro hs t ht
    obtain ⟨p1, p2, _⟩ := okC_parts (hok s (by omega))
    obtain ⟨q1, q2, _⟩ := okC_parts (hok t (by omega))
    rw [Zo.fold_succ]
    by_cases e : t = s
    · subst e
      rw [anS_at (by rw [an_len, hu]) (hok t (by omega)) p2, if_pos ⟨rfl, rfl⟩]
      unfold imin; omega
    · exact Int.le_trans (Zo.set_le (by rw [an_len, hu]) p1 p2 _ q2) (ih (by omega) t (by omega))

theorem an_T {n : Nat} {cs : List Con} (hok : ∀ t, t < cs.length → okC n (gc cs t) = true) {u v c : List Int} (hu : u.length = (n + 1) * (n + 1)) (hv : v.length = (n + 1) * (n + 1)) (h1 : Zo.Le n c u) (h2 : Zo.Le n c (anL n cs v)) : Zo.Le n c (anL n cs u) := by
  have hL : ∀ t, t < cs.length → Zo.At n c (gc cs t).1.toNat (gc cs t).2.1.toNat ≤ (gc cs t).2.2 := fun t ht => by
    obtain ⟨q1, q2, _⟩ := okC_parts (hok t ht)
    exact Int.le_trans (h2 _ _ q1 q2) (an_at hok hv cs.length (Nat.le_refl _) t ht)
  have : ∀ s, s ≤ cs.length → Zo.Le n c ((List.range s).foldl (anS n cs) u) := by
    intro s
    induction s with
    | zero => intro _; exact h1
    | succ s ih =>
      intro hs a b ha hb
      obtain ⟨p1, p2, _⟩ := okC_parts (hok s (by omega))
      rw [Zo.fold_succ]
      rw [anS_at (by rw [an_len, hu]) (hok s (by omega)) hb]
      split
      · rename_i e
        have g1 := ih (by omega) a b ha hb
        have g2 := hL s (by omega)
        rw [← e.1, ← e.2] at g2 ⊢
        unfold imin
        omega
      · exact ih (by omega) a b ha hb
  exact this cs.length (Nat.le_refl _)

theorem an_wl {n : Nat} {cs : List Con} (hok : ∀ t, t < cs.length → okC n (gc cs t) = true) {u : List Int} (hu : u.length = (n + 1) * (n + 1)) (h : ∀ a b, a ≤ n → b ≤ n → Zo.Wl (Zo.At n u a b)) : ∀ a b, a ≤ n → b ≤ n → Zo.Wl (Zo.At n (anL n cs u) a b) := by
  have : ∀ s, s ≤ cs.length → ∀ a b, a ≤ n → b ≤ n → Zo.Wl (Zo.At n ((List.range s).foldl (anS n cs) u) a b) := by
    intro s
    induction s with
    | zero => intro _; exact h
    | succ s ih =>
      intro hs a b ha hb
      obtain ⟨p1, p2, p3⟩ := okC_parts (hok s (by omega))
      rw [Zo.fold_succ]
      rw [anS_at (by rw [an_len, hu]) (hok s (by omega)) hb]
      split
      · have := ih (by omega) _ _ p1 p2
        unfold imin
        unfold Zo.Vl at p3
        unfold Zo.Wl at *
        omega
      · exact ih (by omega) a b ha hb
  exact this cs.length (Nat.le_refl _)

/-- Closed, constrained and closed again. -/
theorem an_twice {n : Nat} {cs : List Con} {x : List Int} (hn : n ≤ 10) (hok : ∀ t, t < cs.length → okC n (gc cs t) = true) (hx : x.length = (n + 1) * (n + 1)) (hv : ∀ a b, a ≤ n → b ≤ n → Zo.Wl (Zo.At n x a b)) (hz : cloE n x = 0) :
    cloE n (anL n cs (Zo.clo n x)) = cloE n (anL n cs x) ∧ (cloE n (anL n cs x) = 0 → Zo.clo n (anL n cs (Zo.clo n x)) = Zo.clo n (anL n cs x)) := by
  obtain ⟨_, hr⟩ := cloE_zero.1 hz
  have lx : (Zo.clo n x).length = (n + 1) * (n + 1) := by rw [Zo.clo_length, hx]
  obtain ⟨t1, t2⟩ := Zo.clo_twice (T := anL n cs) hn hx hv (fun u => anL_len n cs u) (fun u hu => an_le hok hu cs.length (Nat.le_refl _)) (fun u v c hu hv => an_T hok hu hv) (an_wl hok hx hv) (an_wl hok lx (wl_of lx hr))
  rw [← cloB_iff, ← cloB_iff] at t1
  rw [← cloB_iff] at t2
  constructor
  · cases hb : cloB n (anL n cs x)
    · have e := t2 hb
      unfold cloE
      rw [hb, t1.1 hb, e]
    · have hb2 : cloB n (anL n cs (Zo.clo n x)) = true := by
        cases h : cloB n (anL n cs (Zo.clo n x))
        · rw [t1.2 h] at hb; cases hb
        · rfl
      unfold cloE
      rw [hb, hb2]; rfl
  · intro h
    exact (t2 (cloE_zero.1 h).1).symm

theorem isC_ok {n i j : Nat} {c : Int} (hi : i ≤ n) (hj : j ≤ n) (h0 : 0 ≤ c) (h1 : c ≤ 1048576) : ∀ t, t < (isC i j c).length → okC n (gc (isC i j c) t) = true := by
  intro t ht
  have : t = 0 ∨ t = 1 := by simp [isC] at ht; omega
  rcases this with rfl | rfl
  · simp [gc, isC, okC, lvB]; omega
  · simp [gc, isC, okC, lvB]; omega

theorem okC_all {n : Nat} {cs : List Con} (h : ∀ t, t < cs.length → okC n (gc cs t) = true) : cs.all (okC n) = true := by
  rw [List.all_eq_true]
  intro x hx
  obtain ⟨k, hk, rfl⟩ := List.getElem_of_mem hx
  have := h k hk
  simpa [gc, hk] using this

/-- Free and then constraints, in one closing. -/
theorem free_and {n i : Nat} {cs : List Con} {l : List Int} (hn : n ≤ 10) (hl : l.length = (n + 1) * (n + 1)) (hc : chkE n l = 0) (h1 : 1 ≤ i) (hi : i ≤ n) (hok : ∀ t, t < cs.length → okC n (gc cs t) = true) :
    (if cloE n (frL n i l) = 0 then anG n cs (reM n i l) else cloE n (frL n i l)) = cloE n (anL n cs (rlL n i l)) ∧
      (cloE n (anL n cs (rlL n i l)) = 0 → Zo.clo n (anL n cs (reM n i l)) = Zo.clo n (anL n cs (rlL n i l))) := by
  obtain ⟨e, hz⟩ := fr_zone hn hl hc h1 hi
  have lf : (frL n i l).length = (n + 1) * (n + 1) := by rw [frL_len, hl]
  have lr : (rlL n i l).length = (n + 1) * (n + 1) := by rw [rlL_len, hl]
  have vl := vl_of hl (chk_64 hc).2
  have rv : ∀ a b, a ≤ n → b ≤ n → Zo.Wl (Zo.At n (rlL n i l) a b) := by
    intro a b ha hb
    rw [rlL_at hl hi ha hb]
    split
    · exact Or.inl rfl
    · exact (vl a b ha hb).wl
  have hp := fr_pre hl hi hc
  have hz2 : cloE n (rlL n i l) = 0 := by rw [cloE_pre hp]; exact hz
  have hre : reM n i l = Zo.clo n (rlL n i l) := by unfold reM; rw [Zo.clo_pre hp]
  have hck : chkE n (reM n i l) = 0 := by rw [hre]; exact clo_chk hn lr rv hz2
  obtain ⟨t1, t2⟩ := an_twice hn hok lr rv hz2
  rw [if_pos hz]
  constructor
  · unfold anG anE
    rw [if_pos hck]
    simp only [Int.toNat_natCast]
    rw [okC_all hok, if_pos rfl, hre, t1]
  · intro h
    rw [hre]; exact t2 h
end Go.Proofs.YtbnebinpemejlaaGreat

namespace Go.Proofs.YtbnebinpemejlaaGreat

/-- The point ps, over the denominator D. -/
structure Ov (D : Int) (X : Nat → Int) (ps : List Pq) : Prop where
  pos : 0 < D
  val : ∀ i, i ≤ ps.length → X i * (clk ps i).2 = (clk ps i).1 * D

theorem lt_scale {x y d D q : Int} (hD : 0 < D) (hd : 0 < d) (e : x * D = q * d) {c : Int} (hy : y = c * d) : x < y ↔ q < c * D := by
  subst hy
  constructor
  · intro h
    have h1 : x * D < c * d * D := Int.mul_lt_mul_of_pos_right h hD
    rw [e, Int.mul_right_comm] at h1
    exact Int.lt_of_mul_lt_mul_right h1 (by omega)
  · intro h
    have h1 : q * d < c * D * d := Int.mul_lt_mul_of_pos_right h hd
    rw [← e, Int.mul_right_comm] at h1
    exact Int.lt_of_mul_lt_mul_right h1 (by omega)

theorem le_scale {x y d D q : Int} (hD : 0 < D) (hd : 0 < d) (e : x * D = q * d) {c : Int} (hy : y = c * d) : x ≤ y ↔ q ≤ c * D := by
  subst hy
  constructor
  · intro h
    have h1 : x * D ≤ c * d * D := Int.mul_le_mul_of_nonneg_right h (by omega)
    rw [e, Int.mul_right_comm] at h1
    exact Int.le_of_mul_le_mul_right h1 hd
  · intro h
    have h1 : q * d ≤ c * D * d := Int.mul_le_mul_of_nonneg_right h (by omega)
    rw [← e, Int.mul_right_comm] at h1
    exact Int.le_of_mul_le_mul_right h1 hD

theorem vld_pos {n d : Int} (v : vldB n d = true) : 1 ≤ d ∧ d ≤ 2147483647 ∧ -2147483647 ≤ n ∧ n ≤ 2147483647 := by
  unfold vldB at v; simp at v; omega

/-- What meeting a limit says, over another denominator. -/
theorem me_mt {n d a b D q l : Int} (v : vldB n d = true) (vl : lvB l = true) (hb : 0 < b) (hD : 0 < D) (e : n * b = a * d) (e2 : q * b = a * D) : meB n d l = true ↔ Zo.mt D q l := by
  have hd := vld_pos v
  have key : n * D = q * d := by
    have h1 : n * D * b = q * d * b := by
      rw [Int.mul_right_comm n D b, e, Int.mul_right_comm q d b, e2, Int.mul_right_comm a d D]
    exact Int.eq_of_mul_eq_mul_right (by omega) h1
  unfold meB mtB Zo.mt
  rw [v, vl]
  by_cases nl : l = 1099511627776
  · simp [noB, nl]
  · have nb : noB l = false := by simp [noB, nl]
    rw [nb]
    by_cases ev : l % 2 = 0
    · have eb : evB l = true := by simp [evB, ev]
      rw [eb]
      have := lt_scale hD (show 0 < d by omega) key (c := l / 2) rfl
      simp [nl, ev, this]
    · have eb : evB l = false := by simp [evB, ev]
      rw [eb]
      have := le_scale hD (show 0 < d by omega) key (c := l / 2) rfl
      simp [nl, ev, this]

theorem rd_parts {n : Nat} {l : List Int} {ps : List Pq} (h : rdE n l ps = 0) : chkE n l = 0 ∧ ps.length = n ∧ (∀ k, k < ps.length → vldC (gp ps k) = true) ∧ (∀ i, i ≤ n → ∀ j, j ≤ n → sbE ps i j = 0) := by
  obtain ⟨h1, h2, h3, h4⟩ := rd_ok h
  exact ⟨h1, by omega, h3, fun i hi j hj => rdR_at h4 (by simpa using Nat.lt_succ_of_le hi) (by simpa using Nat.lt_succ_of_le hj)⟩

theorem clk_vld {ps : List Pq} (h : ∀ k, k < ps.length → vldC (gp ps k) = true) {i : Nat} (hi : i ≤ ps.length) : vldB (clk ps i).1 (clk ps i).2 = true ∧ 0 ≤ (clk ps i).1 := by
  refine ⟨clk_ok h hi, ?_⟩
  unfold clk
  split
  · simp
  · have := h (i - 1) (by omega)
    unfold vldC at this
    simp at this
    exact this.2

theorem Ov.sub {D : Int} {X : Nat → Int} {ps : List Pq} (h : Ov D X ps) {i j : Nat} (hi : i ≤ ps.length) (hj : j ≤ ps.length) :
    (X i - X j) * ((clk ps i).2 * (clk ps j).2) = ((clk ps i).1 * (clk ps j).2 - (clk ps j).1 * (clk ps i).2) * D := by
  have a := h.val i hi
  have b := h.val j hj
  rw [Int.sub_mul, Int.sub_mul, ← Int.mul_assoc, a, Int.mul_comm (clk ps i).2 (clk ps j).2, ← Int.mul_assoc, b]
  rw [Int.mul_right_comm, Int.mul_right_comm (clk ps j).1]

/-- One element, over one denominator. -/
theorem hs_mt {n : Nat} {l : List Int} {ps : List Pq} {D : Int} {X : Nat → Int} (hv : ∀ k, k < ps.length → vldC (gp ps k) = true) (ho : Ov D X ps) {i j : Nat} (hi : i ≤ ps.length) (hj : j ≤ ps.length) (hs : sbE ps i j = 0) (hl : lvB (Zo.At n l i j) = true) :
    hsM n l ps i j = true ↔ Zo.mt D (X i - X j) (Zo.At n l i j) := by
  obtain ⟨_, h2, h3⟩ := mk_ok hs
  have p1 := vld_pos (clk_vld hv hi).1
  have p2 := vld_pos (clk_vld hv hj).1
  have hb : 0 < (clk ps i).2 * (clk ps j).2 := Int.mul_pos (by omega) (by omega)
  exact me_mt h2 hl hb ho.pos h3 (ho.sub hi hj)

theorem chk_len {n : Nat} {l : List Int} (h : chkE n l = 0) : n ≤ 10 ∧ l.length = (n + 1) * (n + 1) ∧ rdL l = true := by
  have hb : rdB (n : Int) l = true := by
    cases c : rdB (n : Int) l
    · rw [chk_read c] at h; cases h
    · rfl
  unfold rdB at hb
  rw [Bool.and_eq_true, Bool.and_eq_true] at hb
  obtain ⟨⟨h1, h2⟩, h3⟩ := hb
  simp [dimB] at h1
  simp at h2
  exact ⟨by omega, h2, h3⟩

theorem chk_lvs {n : Nat} {l : List Int} (h : chkE n l = 0) {i j : Nat} (hi : i ≤ n) (hj : j ≤ n) : lvB (Zo.At n l i j) = true := by
  obtain ⟨_, h2, h3⟩ := chk_len h
  exact lv_of_all h2 h3 i j hi hj

theorem chk_top {n : Nat} {l : List Int} (h : chkE n l = 0) : Zo.Top n l := by
  obtain ⟨_, h2, h3⟩ := chk_len h
  exact ⟨h2, fun i j hi hj => vl_top (vl_of h2 h3 i j hi hj)⟩

/-- What Has says of a point. -/
theorem has_in {n : Nat} {l : List Int} {ps : List Pq} {D : Int} {X : Nat → Int} (hr : rdE n l ps = 0) (ho : Ov D X ps) : hsR n l ps = true ↔ Zo.In n l D X := by
  obtain ⟨h1, h2, h3, h4⟩ := rd_parts hr
  unfold hsR
  rw [hr]
  simp only [decide_true, Bool.true_and, Int.toNat_natCast]
  rw [hsB_iff]
  constructor
  · intro h i j hi hj
    exact (hs_mt h3 ho (by omega) (by omega) (h4 i hi j hj) (chk_lvs h1 hi hj)).1 (h i (by omega) j (by omega))
  · intro h i hi j hj
    exact (hs_mt h3 ho (by omega) (by omega) (h4 i (by omega) j (by omega)) (chk_lvs h1 (by omega) (by omega))).2 (h i j (by omega) (by omega))

theorem rdE_other {n : Nat} {l m : List Int} {ps : List Pq} (h1 : chkE n l = 0) (h2 : chkE n m = 0) : rdE n l ps = rdE n m ps := by
  unfold rdE; rw [h1, h2]

theorem Ov.pt {n : Nat} {D : Int} {X : Nat → Int} {ps : List Pq} (h : Ov D X ps) (hp : ps.length = n) (hv : ∀ k, k < ps.length → vldC (gp ps k) = true) : Zo.Pt n D X 2147483647 := by
  have key : ∀ i, i ≤ n → 0 ≤ X i ∧ X i ≤ 2147483647 * D := by
    intro i hi
    have e := h.val i (by omega)
    obtain ⟨v, z⟩ := clk_vld hv (i := i) (by omega)
    have q := vld_pos v
    have hD := h.pos
    generalize (clk ps i).1 = a at *
    generalize (clk ps i).2 = d at *
    constructor
    · have : 0 * d ≤ X i * d := by rw [e, Int.zero_mul]; exact Int.mul_nonneg z (by omega)
      exact Int.le_of_mul_le_mul_right this (by omega)
    · have h1 : a * D ≤ 2147483647 * D := Int.mul_le_mul_of_nonneg_right (by omega) (by omega)
      have h0 : 0 ≤ 2147483647 * D := by omega
      have h2 : 2147483647 * D * 1 ≤ 2147483647 * D * d := Int.mul_le_mul_of_nonneg_left (by omega) h0
      have : X i * d ≤ 2147483647 * D * d := by rw [e]; omega
      exact Int.le_of_mul_le_mul_right this (by omega)
  refine ⟨h.pos, ?_, fun i hi => (key i hi).1, fun i hi => (key i hi).2⟩
  have e := h.val 0 (by omega)
  simp [clk] at e
  exact e

/-- Every point has a denominator. -/
def dnP (ps : List Pq) : Int := ps.foldr (fun p r => p.2 * r) 1

theorem dnP_pos {ps : List Pq} (h : ∀ p ∈ ps, 1 ≤ p.2) : 1 ≤ dnP ps := by
  induction ps with
  | nil => simp [dnP]
  | cons p ps ih =>
    have h1 := h p (by simp)
    have h2 := ih (fun q hq => h q (by simp [hq]))
    show 1 ≤ p.2 * dnP ps
    have : 0 < p.2 * dnP ps := Int.mul_pos (by omega) (by omega)
    omega

theorem dnP_dvd {ps : List Pq} {p : Pq} (h : p ∈ ps) : p.2 ∣ dnP ps := by
  induction ps with
  | nil => cases h
  | cons q ps ih =>
    show p.2 ∣ q.2 * dnP ps
    rcases List.mem_cons.1 h with rfl | h
    · exact Int.dvd_mul_right _ _
    · exact Int.dvd_trans (ih h) (Int.dvd_mul_left _ _)

theorem gp_mem {ps : List Pq} {k : Nat} (h : k < ps.length) : gp ps k ∈ ps := by
  unfold gp
  rw [List.getD_eq_getElem?_getD, List.getElem?_eq_getElem h]
  exact List.getElem_mem h

theorem ov_of {ps : List Pq} (hv : ∀ k, k < ps.length → vldC (gp ps k) = true) : Ov (dnP ps) (fun i => (clk ps i).1 * (dnP ps / (clk ps i).2)) ps := by
  have h2 : ∀ p ∈ ps, 1 ≤ p.2 := by
    intro p hp
    obtain ⟨k, hk, rfl⟩ := List.getElem_of_mem hp
    have := hv k hk
    unfold gp at this
    rw [List.getD_eq_getElem?_getD, List.getElem?_eq_getElem hk] at this
    simp [vldC] at this
    exact (vld_pos this.1).1
  refine ⟨by have := dnP_pos h2; omega, fun i hi => ?_⟩
  show (clk ps i).1 * (dnP ps / (clk ps i).2) * (clk ps i).2 = _
  rw [Int.mul_assoc]
  congr 1
  refine Int.ediv_mul_cancel ?_
  unfold clk
  split
  · exact Int.one_dvd _
  · exact dnP_dvd (gp_mem (by omega))

/-- Constraints. -/
theorem an_in {n : Nat} {cs : List Con} {l : List Int} {D : Int} {X : Nat → Int} (hD : 0 < D) (hl : Zo.Top n l) (hok : ∀ t, t < cs.length → okC n (gc cs t) = true) :
    Zo.In n (anL n cs l) D X ↔ Zo.In n l D X ∧ ∀ t, t < cs.length → Zo.mt D (X (gc cs t).1.toNat - X (gc cs t).2.1.toNat) (gc cs t).2.2 := by
  have hl1 := hl.1
  have step : ∀ s, s ≤ cs.length → (Zo.In n ((List.range s).foldl (anS n cs) l) D X ↔ Zo.In n l D X ∧ ∀ t, t < s → Zo.mt D (X (gc cs t).1.toNat - X (gc cs t).2.1.toNat) (gc cs t).2.2) ∧ Zo.Top n ((List.range s).foldl (anS n cs) l) := by
    intro s
    induction s with
    | zero => intro _; exact ⟨⟨fun h => ⟨h, fun t ht => absurd ht (by omega)⟩, fun h => h.1⟩, hl⟩
    | succ s ih =>
      intro hs
      obtain ⟨i1, i2⟩ := ih (by omega)
      obtain ⟨p1, p2, p3⟩ := okC_parts (hok s (by omega))
      rw [Zo.fold_succ]
      generalize hu : (List.range s).foldl (anS n cs) l = u at *
      have hat : ∀ a b, b ≤ n → Zo.At n (anS n cs u s) a b = if a = (gc cs s).1.toNat ∧ b = (gc cs s).2.1.toNat then imin (Zo.At n u (gc cs s).1.toNat (gc cs s).2.1.toNat) (gc cs s).2.2 else Zo.At n u a b := fun a b hb => anS_at i2.1 (hok s (by omega)) hb
      have ht : Zo.Top n (anS n cs u s) := by
        refine ⟨by rw [anS_len]; exact i2.1, fun a b ha hb => ?_⟩
        rw [hat a b hb]
        split
        · have := i2.2 _ _ p1 p2
          unfold imin
          omega
        · exact i2.2 a b ha hb
      refine ⟨?_, ht⟩
      constructor
      · intro h
        have hu2 : Zo.In n u D X := by
          intro a b ha hb
          have := h a b ha hb
          rw [hat a b hb] at this
          split at this
          · rename_i e
            rw [e.1, e.2] at *
            exact Zo.mt_mono hD (by unfold imin; omega) (i2.2 _ _ p1 p2) this
          · exact this
        refine ⟨(i1.1 hu2).1, fun t htt => ?_⟩
        by_cases c : t = s
        · subst c
          have := h _ _ p1 p2
          rw [hat _ _ p2, if_pos ⟨rfl, rfl⟩] at this
          exact Zo.mt_mono hD (by unfold imin; omega) (vl_top p3) this
        · exact (i1.1 hu2).2 t (by omega)
      · intro h a b ha hb
        have hu2 := i1.2 ⟨h.1, fun t htt => h.2 t (by omega)⟩
        rw [hat a b hb]
        split
        · rename_i e
          rw [e.1, e.2]
          exact Zo.mt_min (hu2 _ _ p1 p2) (h.2 s (by omega))
        · exact hu2 a b ha hb
  exact (step cs.length (Nat.le_refl _)).1

/-- Closing: the points stay, and a set with a point is not empty. -/
theorem clo_in {n : Nat} {l : List Int} {D M : Int} {X : Nat → Int} (hp : Zo.Pt n D X M) (hM : M ≤ 4611686018427387) (ht : Zo.Top n l) : Zo.In n (Zo.clo n l) D X ↔ Zo.In n l D X :=
  ⟨Zo.clo_complete hp.pos ht, Zo.clo_sound hp hM ht⟩

theorem clo_full {n : Nat} {l : List Int} {D M : Int} {X : Nat → Int} (hp : Zo.Pt n D X M) (hM : M ≤ 4611686018427387) (ht : Zo.Top n l) (h : Zo.In n l D X) : cloB n l = false :=
  cloB_iff.2 fun _ hi => Zo.In.diag hp.pos (Zo.clo_sound hp hM ht h) hi

theorem cloE_full {n : Nat} {l : List Int} (h : cloB n l = false) : cloE n l ≠ 4 := by
  unfold cloE
  rw [h]
  simp
  split <;> simp
end Go.Proofs.YtbnebinpemejlaaGreat

namespace Go.Proofs.YtbnebinpemejlaaGreat
open Go.RowKit

/-- The delays by the clocks up to t: up to the first error. -/
def syR (n : Nat) (l : List Int) (ps : List Pq) : Nat → Dl × Int
  | 0 => (Dl.one, 0)
  | t + 1 => if (syR n l ps t).2 = 0 then (wiL (syR n l ps t).1 (-(gp ps t).1) (gp ps t).2 (Zo.At n l (t + 1) 0) (Zo.At n l 0 (t + 1)), wiE (-(gp ps t).1) (gp ps t).2 (Zo.At n l (t + 1) 0) (Zo.At n l 0 (t + 1))) else syR n l ps t

theorem sy_stay {n : Nat} {l : List Int} {ps : List Pq} {t m : Nat} (h : t ≤ m) (he : (syR n l ps t).2 ≠ 0) : syR n l ps m = syR n l ps t := by
  induction m with
  | zero => rw [show t = 0 by omega]
  | succ m ih =>
    by_cases e : t = m + 1
    · rw [e]
    · have := ih (by omega)
      show (if (syR n l ps m).2 = 0 then _ else syR n l ps m) = _
      rw [if_neg (by rw [this]; exact he), this]

theorem sy_ok (n : Nat) (l : List Int) (ps : List Pq) (t : Nat) : (syR n l ps t).1.Ok := by
  induction t with
  | zero => exact ⟨by unfold syR Dl.one I64; simp, by unfold syR Dl.one I64; simp, by unfold syR Dl.one I64; simp, by unfold syR Dl.one I64; simp⟩
  | succ t ih =>
    show (if (syR n l ps t).2 = 0 then _ else syR n l ps t).1.Ok
    split
    · exact wiL_ok ih _ _ _ _
    · exact ih

/-- What Stay returns of a good zone and a good point. -/
def syV (n : Nat) (l : List Int) (ps : List Pq) : Dl × Int :=
  if (mtR n 1 l ps).2 ≠ 0 then (Dl.zero, (mtR n 1 l ps).2) else if (syR n l ps n).2 ≠ 0 then (Dl.zero, (syR n l ps n).2) else if (mtR n 1 l ps).1 = false ∨ (syR n l ps n).1.empty = true then (Dl.zero, 4) else ((syR n l ps n).1, 0)

def stR (N : Int) (l : List Int) (ps : List Pq) : Dl × Int := if rdE N l ps = 2 then (Dl.zero, 2) else syV N.toNat l ps

theorem openat_good (n : Nat) (l : List Int) (ao : Option Addr) (cap : Nat) (ps : List Pq) (po : Option Addr) (pc : Nat) (w : World) (hA : Arg w ao l) (hP : Arg2 w po ps) (hI : Fits ps) (hN : po = none → pc = 0) (hr : rdE n l ps ≠ 2) :
    Calls Tryz.prog 20 #[.agg #[.int .i64 n, .slice ao l.length cap], .slice po ps.length pc] w (fun e w' => Below w.heap.size w w' ∧ ∃ g c, e = .returned (.tuple #[.agg (mcs n l), .slice (some ⟨g, 0, none⟩) (n + 1) c, .int .i64 0]) ∧ OwnQ w' w.heap.size (.slice (some ⟨g, 0, none⟩) ((0, 1) :: ps).length c) ((0, 1) :: ps)) := by
  refine (openat_gen n l ao cap ps po pc w hA hP hI hN).mono ?_
  rintro e w' ⟨hb, h⟩
  refine ⟨hb, ?_⟩
  rcases h with ⟨h, _⟩ | ⟨_, v, rfl, hv⟩
  · exact absurd h hr
  · have hpl : ((0, 1) :: ps).length = n + 1 := by have := (rd_yes hr).2.1; simp; omega
    have hov := hv
    unfold OwnQ at hv
    rw [hpl] at hv
    obtain ⟨g, c, rfl⟩ := Joins.ownsRow_form hv (by omega)
    refine ⟨g, c, by rw [Int.toNat_natCast], ?_⟩
    rw [hpl]; exact hov

theorem sbox (N : Int) (ao : Option Addr) (len cap : Nat) (w : World) : ∃ w0, w0 = (w.alloc (.cells #[.int .i64 N, .slice ao len cap] 24)).alloc (.cells Dl.zero.cs 34) ∧ Below w.heap.size w w0 ∧ w0.heap.size = w.heap.size + 2 ∧ Dbx w0 (w.heap.size + 1) Dl.zero ∧
    (∀ W : World, Below w0.heap.size w0 W → (W.cell? ⟨w.heap.size, 0, none⟩ = some (.int .i64 N) ∧ W.cell? ⟨w.heap.size, 1, none⟩ = some (.slice ao len cap))) := by
  refine ⟨_, rfl, past_two (Below.refl _ _), by simp, ?_, fun W h => ?_⟩
  · have := Drow.made (w.alloc (.cells #[.int .i64 N, .slice ao len cap] 24)) Dl.zero.cs
    simpa [Dbx] using this
  · have bx := ((Two.made w (.int .i64 N) (.slice ao len cap) 24).alloc (.cells Dl.zero.cs 34)).kept h
    exact ⟨bx.facts.1, bx.facts.2.1⟩

set_option maxRecDepth 100000 in
set_option maxHeartbeats 4000000 in
theorem stay_bad (N : Int) (l : List Int) (ao : Option Addr) (cap : Nat) (ps : List Pq) (po : Option Addr) (pc : Nat) (w : World) (hA : Arg w ao l) (hP : Arg2 w po ps) (hI : Fits ps) (hN : po = none → pc = 0) (hr : rdE N l ps = 2) :
    Calls Tryz.prog 8 #[.agg #[.int .i64 N, .slice ao l.length cap], .slice po ps.length pc] w (Made (.tuple #[.agg Dl.zero.cs, .int .i64 2]) w) := by
  have hz := mx_zero
  have sz0 := mcs_size (n := 0) (l := []) (by simp)
  have OA := Lib.hid (show ∀ W, Below w.heap.size w W → Calls Tryz.prog 20 #[.agg #[.int .i64 N, .slice ao l.length cap], .slice po ps.length pc] W (fun e w' => e = .returned (.tuple #[.agg (mcs 0 []), .slice none 0 0, .int .i64 2]) ∧ Below W.heap.size W w') from fun W h => by
    refine (openat_gen N l ao cap ps po pc W (hA.on h) (hP.on h) hI hN).mono ?_
    rintro e w' ⟨hb, h⟩
    rcases h with ⟨_, h⟩ | ⟨h, _⟩
    · exact ⟨h, hb⟩
    · exact absurd hr h)
  generalize ps.length = plen at OA ⊢
  generalize l.length = len at OA ⊢
  obtain ⟨w0, hw0, e0, z0, dr, ks⟩ := sbox N ao len cap w
  have E0 := Lib.hid e0
  have DR := Lib.hid dr
  simp only [Dl.cs, Dl.zero] at hw0
  have HW0 := Lib.hid hw0
  obtain ⟨b0, b1⟩ := ks w0 (Below.refl _ _)
  clear ks e0 hw0 hA hP hI hN hr dr
  go_enter Tryz.func8, Tryz.ntmps8
  go_upto_region 1 with (fail)
  rw [← HW0.out]
  go_wp2_with fail
  refine (OA.out _ E0.out).mono ?_
  rintro e w1 ⟨rfl, hb1⟩
  clear b0 b1
  obtain ⟨w2, hw2⟩ : ∃ w2, w2 = (w1.alloc (.cells (mcs 0 []) 54)).setRow w1.heap.size (mcs 0 []) := ⟨_, rfl⟩
  have B2 := Lib.hid (show Below w0.heap.size w0 w2 by rw [hw2]; exact Below.setRow (hb1.alloc hb1.size _) hb1.size _)
  obtain ⟨r0, r1, r2, r3, r4, r5, r6⟩ := (DR.out.kept B2.out).facts
  obtain ⟨f0, f1, f2, f3, f4, f5, f6⟩ := (DR.out.kept B2.out).frees
  clear hb1
  go_upto_region 2 with (refine wpl_store rfl _ _ rfl _ _ rfl rfl _ (Var.made _) sz0 (mcs_one _ _) ?_)
  rw [← hw2]
  clear hw2
  go_wp2_with fail
  refine bodyPost_ret (v := .tuple #[.agg Dl.zero.cs, .int .i64 2]) (by simp [results, Tryz.results8, go_sem, Dl.cs, Dl.zero, r0, r1, r2, r3, r4, r5, r6]) rfl ⟨rfl, ?_⟩
  exact below_seven (below_on E0.out B2.out) (by omega) _ _ _ _ _ _ _

set_option maxRecDepth 100000 in
set_option maxHeartbeats 2000000 in
theorem stay_ok (n : Nat) (l : List Int) (ao : Option Addr) (cap : Nat) (ps : List Pq) (po : Option Addr) (pc : Nat) (w : World) (hA : Arg w ao l) (hP : Arg2 w po ps) (hI : Fits ps) (hN : po = none → pc = 0) (hr : rdE n l ps ≠ 2) :
    Calls Tryz.prog 8 #[.agg #[.int .i64 n, .slice ao l.length cap], .slice po ps.length pc] w (Made (.tuple #[.agg (syV n l ps).1.cs, .int .i64 (syV n l ps).2]) w) := by
  have hz := mx_zero
  obtain ⟨hc, hpl, hvl⟩ := rd_yes hr
  obtain ⟨n', en, hn, hl, _⟩ := chk_ok hc
  obtain rfl : n = n' := by omega
  clear en
  have sz : (mcs n l).size = 122 := mcs_size (by rw [hl]; exact dsq_le hn)
  have s1 := mcs_one n l
  have hpl' : ps.length = n := by omega
  have OA := Lib.hid (fun W (h : Below w.heap.size w W) => openat_good n l ao cap ps po pc W (hA.on h) (hP.on h) hI hN hr)
  have MT := Lib.hid (fun (b0 : Nat) (a : Addr) (c : Nat) (W : World) (hM : Mx W b0 n l) (hR : Rd2 W a ((0, 1) :: ps)) => meets_any n 1 l ps b0 a c W hc (by omega) hpl' hM hR hvl)
  have HL := Lib.hid (fun i j (hi : i ≤ n) (hj : j ≤ n) => chk_i64 hc hi hj)
  have HF := Lib.hid hI
  have HPL := Lib.hid hpl'
  have HLL := Lib.hid hl
  have HVC := Lib.hid (rd_all hvl)
  have ST := Lib.hid (fun t m h he => sy_stay (n := n) (l := l) (ps := ps) (t := t) (m := m) h he)
  have SU := Lib.hid (show ∀ t, (syR n l ps t).2 = 0 → syR n l ps (t + 1) = (wiL (syR n l ps t).1 (-(gp ps t).1) (gp ps t).2 (Zo.At n l (t + 1) 0) (Zo.At n l 0 (t + 1)), wiE (-(gp ps t).1) (gp ps t).2 (Zo.At n l (t + 1) 0) (Zo.At n l 0 (t + 1))) from fun t h => by
    show (if (syR n l ps t).2 = 0 then _ else syR n l ps t) = _
    rw [if_pos h])
  have HV := Lib.hid (show syV n l ps = if (mtR n 1 l ps).2 ≠ 0 then (Dl.zero, (mtR n 1 l ps).2) else if (syR n l ps n).2 ≠ 0 then (Dl.zero, (syR n l ps n).2) else if (mtR n 1 l ps).1 = false ∨ (syR n l ps n).1.empty = true then (Dl.zero, 4) else ((syR n l ps n).1, 0) from rfl)
  generalize syV n l ps = vv at *
  generalize mtR n 1 l ps = mm at *
  obtain ⟨mb, me⟩ := mm
  simp only at HV MT
  rw [hpl'] at OA ⊢
  generalize l.length = len at OA ⊢
  obtain ⟨w0, hw0, e0, z0, dr, ks⟩ := sbox n ao len cap w
  have E0 := Lib.hid e0
  have DR := Lib.hid dr
  simp only [Dl.cs, Dl.zero] at hw0
  have HW0 := Lib.hid hw0
  obtain ⟨b0, b1⟩ := ks w0 (Below.refl _ _)
  have FZ := Lib.hid (show ∀ W, Calls Tryz.prog 27 #[] W (Made (.agg #[.int .i64 0, .int .i64 1, .int .i64 0, .int .i64 0, .bool false, .bool false, .bool true]) W) from fun W => fromzero_any W)
  clear ks e0 hw0 hA hP hI hN hr dr hc hpl hpl' hvl hl
  go_enter Tryz.func8, Tryz.ntmps8
  go_upto_region 1 with (fail)
  rw [← HW0.out]
  go_wp2_with fail
  refine (OA.out _ E0.out).mono ?_
  rintro e w1 ⟨hb1, g, c, rfl, hv⟩
  clear b0 b1
  obtain ⟨w2, hw2⟩ : ∃ w2, w2 = (w1.alloc (.cells (mcs 0 []) 54)).setRow w1.heap.size (mcs n l) := ⟨_, rfl⟩
  have M2 := Lib.hid (show Mx w2 w1.heap.size n l by rw [hw2]; exact ⟨((Var.made w1).put (mcs n l) sz).1, HLL.out⟩)
  have B2 := Lib.hid (show Below w0.heap.size w0 w2 by rw [hw2]; exact Below.setRow (hb1.alloc hb1.size _) hb1.size _)
  have O2 := Lib.hid (show OwnQ w2 w0.heap.size (.slice (some ⟨g, 0, none⟩) ((0, 1) :: ps).length c) ((0, 1) :: ps) by
    rw [hw2]
    have h1 := OwnQ.on hv (one_more (.cells (mcs 0 []) 54))
    have hlt := (World.ownsRow.lt hv g rfl).2
    refine World.ownsRow.kept (row := some w1.heap.size) h1 (grown_row _ _ _) ?_
    right
    simp only [Value.ownBlock]
    intro e; injection e with e; omega)
  have hle1 := hb1.size
  have MC := Lib.hid (MT.out w1.heap.size ⟨g, 0, none⟩ c w2 M2.out O2.out.rd)
  have hcap : n + 1 ≤ c ∧ c ≤ maxLen := by
    have := O2.out
    unfold OwnQ at this
    rw [show ((0, 1) :: ps).length = n + 1 by simp [HPL.out]] at this
    exact OwnQ.cap this
  clear hv hb1
  go_upto_region 2 with (refine wpl_store rfl _ _ rfl _ _ rfl rfl _ (Var.made _) sz s1 ?_)
  rw [← hw2]
  clear hw2
  generalize w1.heap.size = b0 at *
  go_wp2_with fail
  refine MC.out.mono ?_
  rintro e w3 ⟨rfl, hb3⟩
  have B3 := Lib.hid (below_on B2.out hb3)
  have M3 := Lib.hid (M2.out.of_block (hb3.block _ M2.out.lt))
  have O3 := Lib.hid (O2.out.on hb3)
  clear hb3
  by_cases hme : me = 0
  case neg =>
    have DE : (me != 0) = true := by simpa using hme
    have HE := Lib.hid (show vv = (Dl.zero, me) by rw [HV.out, if_pos hme])
    clear hme
    obtain ⟨r0, r1, r2, r3, r4, r5, r6⟩ := (DR.out.kept B3.out).facts
    obtain ⟨f0, f1, f2, f3, f4, f5, f6⟩ := (DR.out.kept B3.out).frees
    go_wp2_with fail
    refine bodyPost_ret (v := .tuple #[.agg Dl.zero.cs, .int .i64 me]) (by simp [results, Tryz.results8, go_sem, Dl.cs, Dl.zero, r0, r1, r2, r3, r4, r5, r6]) rfl ⟨by rw [HE.out], ?_⟩
    exact below_seven (below_on E0.out B3.out) (by omega) _ _ _ _ _ _ _
  case pos =>
  have HV1 := Lib.hid (show vv = if (syR n l ps n).2 ≠ 0 then (Dl.zero, (syR n l ps n).2) else if mb = false ∨ (syR n l ps n).1.empty = true then (Dl.zero, 4) else ((syR n l ps n).1, 0) by rw [HV.out, if_neg (by omega)])
  subst hme
  clear HV
  go_wp2_with fail
  refine (FZ.out _).mono ?_
  rintro e w4 ⟨rfl, hb4⟩
  obtain ⟨w6, hw6⟩ : ∃ w6, w6 = w4.alloc (.cells Dl.one.cs 34) := ⟨_, rfl⟩
  have DX := Lib.hid (show WSt w6 w4.heap.size Dl.one w6 from ⟨by rw [hw6]; exact Drow.made _ _, World.grownBy.refl _ _⟩)
  have B6 := Lib.hid (show Below w0.heap.size w0 w6 by rw [hw6]; exact (below_on B3.out hb4).alloc (below_on B3.out hb4).size _)
  have M6 := Lib.hid (show Mx w6 b0 n l by rw [hw6]; exact (M3.out.of_block (hb4.block _ M3.out.lt)).alloc _)
  have O6 := Lib.hid (show OwnQ w6 w0.heap.size (.slice (some ⟨g, 0, none⟩) ((0, 1) :: ps).length c) ((0, 1) :: ps) by rw [hw6]; exact (O3.out.on hb4).on (one_more _))
  have hs4 := (below_on B3.out hb4).size
  have hb0 : b0 < w4.heap.size := (M3.out.of_block (hb4.block _ M3.out.lt)).lt
  have hgl : g < w4.heap.size := (World.ownsRow.lt (O3.out.on hb4) g rfl).2
  have z6 : w6.heap.size = w4.heap.size + 1 := by rw [hw6]; simp
  simp only [Dl.cs, Dl.one] at hw6
  have HW6 := Lib.hid hw6
  clear hb4 hw6
  go_upto_region 8 with (fail)
  rw [← HW6.out]
  obtain ⟨hc1, hc2⟩ := hcap
  unfold maxLen at hc2
  go_cut [37, 38, 39] (fun s u v wx => ∃ (d : Addr) (cc : Nat), s = .slice (some d) n cc ∧ u = .int .i64 n ∧ v = .int .i64 0 ∧ Hid ((n ≠ 0 → Rd2 w6 d ps ∧ d.block = g) ∧ wx = w6))
  case first =>
    by_cases hcc : c = 1
    case pos =>
      subst hcc
      have hn0 : n = 0 := by omega
      have HN0 := Lib.hid hn0
      clear hn0
      go_wp2_with fail
      go_meet
      case rel => exact ⟨⟨g, 0, none⟩, 0, by have := HN0.out; subst this; rfl, by have := HN0.out; subst this; rfl, rfl, Lib.hid ⟨fun h => absurd HN0.out h, rfl⟩⟩
    case neg =>
      have hc3 : (c == 1) = false := by simpa using hcc
      go_wp2_with fail
      go_meet
      case rel => exact ⟨⟨g, 2, none⟩, c - 1, rfl, rfl, rfl, Lib.hid ⟨fun _ => ⟨O6.out.rd1, rfl⟩, rfl⟩⟩
  case rest =>
  obtain ⟨d, cc, rfl, rfl, rfl, HCW⟩ := hcut
  have hwx := HCW.out.2
  rw [hwx]
  have RP := Lib.hid HCW.out.1
  clear hwx HCW hc1 hc2
  have KE := Lib.hid (show ∀ x W, WSt w6 w4.heap.size x W → Below w0.heap.size w0 W from fun x W h => grown_over B6.out h.2 hs4)
  have MR := Lib.hid (show ∀ x W, WSt w6 w4.heap.size x W → Mx W b0 n l from fun x W h => M6.out.kept h.2 (by simp; omega))
  go_wp2_with fail
  go_loopw [39] (fun s wr => ∃ t : Nat, t ≤ n ∧ s = .int .i64 t ∧ Hid ((syR n l ps t).2 = 0 ∧ WSt w6 w4.heap.size (syR n l ps t).1 wr)) (fun s _ => n - (intOf s).toNat)
  case atStart => exact ⟨0, by omega, rfl, Lib.hid ⟨rfl, DX.out⟩⟩
  case round =>
    obtain ⟨t, ht, rfl, HX⟩ := hrel
    by_cases htk : t < n
    case pos =>
      obtain ⟨rp, rg⟩ := RP.out (by omega)
      have RPg := Lib.hid (show ∀ x W, WSt w6 w4.heap.size x W → Rd2 W d ps from fun x W h j hj => by
        obtain ⟨h1, h2⟩ := rp j hj
        have eb : (d.add (j * 2)).block = g := by rw [← rg]; unfold Addr.add; split <;> rfl
        exact ⟨(World.cell?_of_block (h.2.block _ (by rw [eb]; omega) (by rw [eb]; simp; omega))).trans h1, (World.cell?_of_block (h.2.block _ (by show (d.add (j * 2)).block < _; rw [eb]; omega) (by show some (d.add (j * 2)).block ≠ _; rw [eb]; simp; omega))).trans h2⟩)
      clear rp rg
      obtain ⟨n0, d0⟩ := RPg.out _ _ HX.out.2 t (by rw [HPL.out]; exact htk)
      obtain ⟨fn, fd⟩ := HF.out t (by rw [HPL.out]; exact htk)
      have D9 : decide ((t : Int) < (n : Int)) = true := by simp; omega
      have SU1 := Lib.hid (SU.out t HX.out.1)
      have hxo := sy_ok n l ps t
      have vb := HVC.out t (by rw [HPL.out]; exact htk)
      have vbb := (show vldB (gp ps t).1 (gp ps t).2 = true by unfold vldC at vb; simp at vb; exact vb.1)
      have NG := Lib.hid (show ∀ W, Calls Tryz.prog 28 #[.agg #[.int .i64 (gp ps t).1, .int .i64 (gp ps t).2]] W (Made (.tuple #[.agg #[.int .i64 (-(gp ps t).1), .int .i64 (gp ps t).2], .int .i64 0]) W) from fun W => by
        have := neg_any (gp ps t).1 (gp ps t).2 W fn fd
        simpa [vbb] using this)
      have vbd := vld_bd vbb
      have WI := Lib.hid (fun W => within_gen (syR n l ps t).1 (-(gp ps t).1) (gp ps t).2 (Zo.At n l (t + 1) 0) (Zo.At n l 0 (t + 1)) W hxo (by unfold I64; omega) fd (HL.out (t + 1) 0 (by omega) (by omega)) (HL.out 0 (t + 1) (by omega) (by omega)))
      obtain ⟨y, hy⟩ : ∃ y, y = wiL (syR n l ps t).1 (-(gp ps t).1) (gp ps t).2 (Zo.At n l (t + 1) 0) (Zo.At n l 0 (t + 1)) := ⟨_, rfl⟩
      obtain ⟨er, her⟩ : ∃ er, er = wiE (-(gp ps t).1) (gp ps t).2 (Zo.At n l (t + 1) 0) (Zo.At n l 0 (t + 1)) := ⟨_, rfl⟩
      have HYZ := Lib.hid (show er ≠ 0 → y = Dl.zero from fun h => by rw [hy]; exact wi_zero (by rw [← her]; exact h))
      rw [← hy, ← her] at WI SU1
      unfold Dl.cs at WI
      have HX2 := Lib.hid HX.out.2
      obtain ⟨x, hx⟩ : ∃ x, x = (syR n l ps t).1 := ⟨_, rfl⟩
      rw [← hx] at WI HX2 hxo
      clear vb vbb vbd fn fd hxo
      obtain ⟨pn, hpn⟩ : ∃ z, z = -(gp ps t).1 := ⟨_, rfl⟩
      obtain ⟨qn, hqn⟩ : ∃ z, z = (gp ps t).1 := ⟨_, rfl⟩
      obtain ⟨pd, hpd⟩ : ∃ z, z = (gp ps t).2 := ⟨_, rfl⟩
      rw [← hpn, ← hpd] at WI
      rw [← hpn, ← hpd, ← hqn] at NG
      rw [← hqn] at n0
      rw [← hpd] at d0
      have i1 := Zo.ix_lt (show t + 1 ≤ n by omega) (show 0 ≤ n by omega)
      have i2 := Zo.ix_lt (show 0 ≤ n by omega) (show t + 1 ≤ n by omega)
      obtain ⟨mu, hmu⟩ : ∃ z, z = Zo.At n l (t + 1) 0 := ⟨_, rfl⟩
      obtain ⟨ml, hml⟩ : ∃ z, z = Zo.At n l 0 (t + 1) := ⟨_, rfl⟩
      rw [← hmu, ← hml] at WI
      have e1 := Lib.hid (show ∀ W, Mx W b0 n l → W.cell? ⟨b0, 1 + (t + 1) * (n + 1), none⟩ = some (.int .i64 mu) from fun W h => by rw [hmu]; exact h.at (by rw [h.2]; have := i1; unfold Zo.ix at this; omega))
      have e2 := Lib.hid (show ∀ W, Mx W b0 n l → W.cell? ⟨b0, 1 + (t + 1), none⟩ = some (.int .i64 ml) from fun W h => by
        rw [hml]
        unfold Zo.At
        rw [show Zo.ix n 0 (t + 1) = t + 1 by unfold Zo.ix; omega]
        exact h.at (by rw [h.2]; have := i2; unfold Zo.ix at this; omega))
      clear hy her hpn hqn hpd hmu hml i1 i2 hx
      obtain ⟨w7, hw7⟩ : ∃ w7, w7 = wr.alloc (.cells #[.int .i64 qn, .int .i64 pd] 32) := ⟨_, rfl⟩
      have S7 := Lib.hid (show WSt w6 w4.heap.size x w7 by rw [hw7]; exact HX2.out.on (one_more _))
      have P7 := Lib.hid (show Pair w7 wr.heap.size qn pd by rw [hw7]; exact Pair.made _ _ _ _)
      go_upto_region 11 with (fail)
      rw [← hw7]
      clear hw7 n0 d0
      obtain ⟨p0, p1, p2, p3⟩ := P7.out.facts
      go_wp2_with fail
      refine (NG.out _).mono ?_
      rintro e w5 ⟨rfl, hb5⟩
      clear p0 p1 p2 p3
      obtain ⟨w3', hw3⟩ : ∃ w3', w3' = w5.alloc (.cells #[.int .i64 pn, .int .i64 pd] 32) := ⟨_, rfl⟩
      have S3 := Lib.hid (show WSt w6 w4.heap.size x w3' by rw [hw3]; exact (S7.out.on hb5).on (one_more _))
      have P3 := Lib.hid (show Pair w3' w5.heap.size pn pd by rw [hw3]; exact Pair.made _ _ _ _)
      have hsz5 : w6.heap.size ≤ w5.heap.size := (S7.out.on hb5).2.size
      have M3' := Lib.hid (MR.out _ _ S3.out)
      have R1 := Lib.hid (show Calls Tryz.prog 30 #[.pointer (some ⟨b0, 0, none⟩), .int .i64 ((t : Int) + 1)] w3'.drew (Still (.slice (some ⟨b0, 1 + (t + 1) * (n + 1), none⟩) (n + 1) (n + 1)) w3'.drew) from by
        have := row_any b0 n (t + 1) w3'.drew hn (by omega) M3'.out.drew.dim
        rw [show ((t + 1 : Nat) : Int) = (t : Int) + 1 from rfl] at this
        exact this)
      have R2 := Lib.hid (show Calls Tryz.prog 30 #[.pointer (some ⟨b0, 0, none⟩), .int .i64 0] w3'.drew (Still (.slice (some ⟨b0, 1, none⟩) (n + 1) (n + 1)) w3'.drew) from by
        have := row_any b0 n 0 w3'.drew hn (by omega) M3'.out.drew.dim
        rw [show 1 + 0 * (n + 1) = 1 by omega] at this
        exact this)
      have S3d := (show WSt w3' w4.heap.size x w3' from ⟨S3.out.1, World.grownBy.refl _ _⟩).on ((Below.refl _ _).drew)
      have KS := Lib.hid (show ∀ z W, WSt w3' w4.heap.size z W → ((W.cell? ⟨w5.heap.size, 0, none⟩ = some (.int .i64 pn) ∧ W.cell? ⟨w5.heap.size, 1, none⟩ = some (.int .i64 pd)) ∧ W.cell? ⟨b0, 1 + (t + 1) * (n + 1), none⟩ = some (.int .i64 mu) ∧ W.cell? ⟨b0, 1 + (t + 1), none⟩ = some (.int .i64 ml)) from fun z W h =>
        ⟨⟨(P3.out.grown h.2 (by omega)).facts.1, (P3.out.grown h.2 (by omega)).facts.2.1⟩, e1.out _ (M3'.out.kept h.2 (by simp; omega)), e2.out _ (M3'.out.kept h.2 (by simp; omega))⟩)
      have t1 : (t : Int) + 1 < (n : Int) + 1 := by omega
      have t0 : (0 : Int) ≤ (t : Int) + 1 := by omega
      have wrp : IntKind.i64.wrap ((t : Int) + 1) = (t : Int) + 1 := wrap_in _ (by omega) (by omega)
      clear hb5
      go_upto_region 12 with (fail)
      rw [← hw3]
      clear hw3
      go_cut [8] (fun s8 wx => s8 = .int .i64 er ∧ Hid (WSt w6 w4.heap.size y wx))
      case first =>
        obtain ⟨q0, q1, q2, q3, q4, q5, q6⟩ := S3d.1.facts
        refine wp_region_held_drew (S := (fun w' => (w'.cell? ⟨w5.heap.size, 0, none⟩ = some (.int .i64 pn) ∧ w'.cell? ⟨w5.heap.size, 1, none⟩ = some (.int .i64 pd)) ∧ w'.cell? ⟨b0, 1 + (t + 1) * (n + 1), none⟩ = some (.int .i64 mu) ∧ w'.cell? ⟨b0, 1 + (t + 1), none⟩ = some (.int .i64 ml))) (by kernel_rfl) (KS.out _ _ S3d) (fun h0 => ?_)
        refine wpAnyH_take (i := 1) (v := ?v1) rfl (by kernel_rfl) (by kernel_rfl) (by kernel_rfl) (fun _ _ _ h => h) (Or.inl ⟨by rfl, ?hy1⟩) h0 ?rest1
        case hy1 => (intro w' hS; (try dsimp only at hS); go_simp; try (with_reducible rfl))
        simp only [Act.put, List.getElem_toArray, List.getElem_cons_zero, List.getElem_cons_succ, List.setIfInBounds_toArray, List.set_cons_zero, List.set_cons_succ]
        refine wpAnyH_take (i := 2) (v := ?v2) rfl (by kernel_rfl) (by kernel_rfl) (by kernel_rfl) (fun _ _ _ h => h) (Or.inl ⟨by rfl, ?hy2⟩) h0 ?rest2
        case hy2 => (intro w' hS; (try dsimp only at hS); go_simp; try (with_reducible rfl))
        simp only [Act.put, List.getElem_toArray, List.getElem_cons_zero, List.getElem_cons_succ, List.setIfInBounds_toArray, List.set_cons_zero, List.set_cons_succ]
        refine wpAnyH_take (i := 3) (v := ?v3) rfl (by kernel_rfl) (by kernel_rfl) (by kernel_rfl) (fun _ _ _ h => h) (Or.inl ⟨by rfl, ?hy3⟩) h0 ?rest3
        case hy3 => (intro w' hS; (try dsimp only at hS); go_simp; try (with_reducible rfl))
        simp only [Act.put, List.getElem_toArray, List.getElem_cons_zero, List.getElem_cons_succ, List.setIfInBounds_toArray, List.set_cons_zero, List.set_cons_succ]
        refine wpAnyH_take (i := 8) (v := ?v4) rfl (by kernel_rfl) (by kernel_rfl) (by kernel_rfl) (fun _ _ _ h => h) (Or.inl ⟨by rfl, ?hy4⟩) h0 ?rest4
        case hy4 => (intro w' hS; (try dsimp only at hS); go_simp; try (with_reducible rfl))
        simp only [Act.put, List.getElem_toArray, List.getElem_cons_zero, List.getElem_cons_succ, List.setIfInBounds_toArray, List.set_cons_zero, List.set_cons_succ]
        refine wpAnyH_take (i := 9) (v := ?v5) rfl (by kernel_rfl) (by kernel_rfl) (by kernel_rfl) (fun _ _ _ h => h) (Or.inl ⟨by rfl, ?hy5⟩) h0 ?rest5
        case hy5 => (intro w' hS; (try dsimp only at hS); go_simp; try (with_reducible rfl))
        simp only [Act.put, List.getElem_toArray, List.getElem_cons_zero, List.getElem_cons_succ, List.setIfInBounds_toArray, List.set_cons_zero, List.set_cons_succ]
        refine wpAnyH_ready (rs := [0, 4]) (by kernel_rfl) (by simp) (AllReadyH.cons rfl (fun K hK => ?_) (AllReadyH.cons rfl (fun K hK => ?_) AllReadyH.nil))
        · rw [if_pos (by rfl)]
          go_simp
          refine hK.out _ _ (KS.out _ _ S3d) (fun h0_1 => ?_)
          clear hK K h0
          refine wpAnyH_ready (rs := [4]) (by kernel_rfl) (by simp) (AllReadyH.cons rfl (fun K hK => ?_) AllReadyH.nil)
          rw [if_pos (by rfl)]
          go_simp
          refine (R1.out).mono ?_
          rintro e wa ⟨rfl, hwa⟩
          rw [hwa]; clear hwa wa
          go_simp
          refine hK.out _ _ (KS.out _ _ S3d) (fun h0_2 => ?_)
          clear hK K h0_1
          refine wpAnyH_take (i := 5) (v := ?v6) rfl (by kernel_rfl) (by kernel_rfl) (by kernel_rfl) (fun _ _ _ h => h) (Or.inl ⟨by rfl, ?hy6⟩) h0_2 ?rest6
          case hy6 => (intro w' hS; (try dsimp only at hS); go_simp; try (with_reducible rfl))
          simp only [Act.put, List.getElem_toArray, List.getElem_cons_zero, List.getElem_cons_succ, List.setIfInBounds_toArray, List.set_cons_zero, List.set_cons_succ]
          refine wpAnyH_take (i := 6) (v := ?v7) rfl (by kernel_rfl) (by kernel_rfl) (by kernel_rfl) (fun _ _ _ h => h) (Or.inl ⟨by rfl, ?hy7⟩) h0_2 ?rest7
          case hy7 => (intro w' hS; (try dsimp only at hS); go_simp; try (with_reducible rfl))
          simp only [Act.put, List.getElem_toArray, List.getElem_cons_zero, List.getElem_cons_succ, List.setIfInBounds_toArray, List.set_cons_zero, List.set_cons_succ]
          refine wpAnyH_ready (rs := [7]) (by kernel_rfl) (by simp) (AllReadyH.cons rfl (fun K hK => ?_) AllReadyH.nil)
          rw [if_pos (by rfl)]
          go_simp
          refine (R2.out).mono ?_
          rintro e wa ⟨rfl, hwa⟩
          rw [hwa]; clear hwa wa
          go_simp
          refine hK.out _ _ (KS.out _ _ S3d) (fun h0_3 => ?_)
          clear hK K h0_2
          refine wpAnyH_take (i := 10) (v := ?v8) rfl (by kernel_rfl) (by kernel_rfl) (by kernel_rfl) (fun _ _ _ h => h) (Or.inl ⟨by rfl, ?hy8⟩) h0_3 ?rest8
          case hy8 => (intro w' hS; (try dsimp only at hS); go_simp; try (with_reducible rfl))
          simp only [Act.put, List.getElem_toArray, List.getElem_cons_zero, List.getElem_cons_succ, List.setIfInBounds_toArray, List.set_cons_zero, List.set_cons_succ]
          refine wpAnyH_take (i := 11) (v := ?v9) rfl (by kernel_rfl) (by kernel_rfl) (by kernel_rfl) (fun _ _ _ h => h) (Or.inl ⟨by rfl, ?hy9⟩) h0_3 ?rest9
          case hy9 => (intro w' hS; (try dsimp only at hS); go_simp; try (with_reducible rfl))
          simp only [Act.put, List.getElem_toArray, List.getElem_cons_zero, List.getElem_cons_succ, List.setIfInBounds_toArray, List.set_cons_zero, List.set_cons_succ]
          refine wpAnyH_ready (rs := [12]) (by kernel_rfl) (by simp) (AllReadyH.cons rfl (fun K hK => ?_) AllReadyH.nil)
          rw [if_pos (by rfl)]
          go_simp
          refine (WI.out _).mono ?_
          rintro e w7 ⟨rfl, hb7⟩
          have S4 := S3d.on hb7
          clear hb7
          go_simp
          refine hK.out _ _ (KS.out _ _ S4) (fun h0_4 => ?_)
          clear hK K h0_3
          have g9 := S4.1.frees
          have g9' := S4.1.facts
          obtain ⟨g0, g1, g2, g3, g4, g5, g6⟩ := g9
          obtain ⟨h0, h1, h2, h3, h4, h5, h6⟩ := g9'
          refine wpAnyH_take (i := 13) (v := ?v10) rfl (by kernel_rfl) (by kernel_rfl) (by kernel_rfl) (fun _ _ _ h => h) (Or.inl ⟨by rfl, ?hy10⟩) h0_4 ?rest10
          case hy10 => (intro w' hS; (try dsimp only at hS); go_simp; try (with_reducible rfl))
          simp only [Act.put, List.getElem_toArray, List.getElem_cons_zero, List.getElem_cons_succ, List.setIfInBounds_toArray, List.set_cons_zero, List.set_cons_succ]
          refine wpAnyH_take (i := 14) (v := ?v11) rfl (by kernel_rfl) (by kernel_rfl) (by kernel_rfl) (fun _ _ _ h => h) (Or.inl ⟨by rfl, ?hy11⟩) h0_4 ?rest11
          case hy11 => (intro w' hS; (try dsimp only at hS); go_simp; try (with_reducible rfl))
          simp only [Act.put, List.getElem_toArray, List.getElem_cons_zero, List.getElem_cons_succ, List.setIfInBounds_toArray, List.set_cons_zero, List.set_cons_succ]
          refine wpAnyH_take (i := 15) (v := ?v12) rfl (by kernel_rfl) (by kernel_rfl) (by kernel_rfl) (fun _ _ _ h => h) (Or.inl ⟨by rfl, ?hy12⟩) h0_4 ?rest12
          case hy12 => (intro w' hS; (try dsimp only at hS); go_simp; try (with_reducible rfl))
          simp only [Act.put, List.getElem_toArray, List.getElem_cons_zero, List.getElem_cons_succ, List.setIfInBounds_toArray, List.set_cons_zero, List.set_cons_succ]
          refine wpAnyH_ready (rs := [16]) (by kernel_rfl) (by simp) (AllReadyH.cons rfl (fun K hK => ?_) AllReadyH.nil)
          rw [if_pos (by rfl)]
          go_simp
          refine hK.out _ _ (KS.out _ _ (S4.all y)) (fun h0_5 => ?_)
          clear hK K h0_4
          refine wpAnyH_take (i := 17) (v := ?v13) rfl (by kernel_rfl) (by kernel_rfl) (by kernel_rfl) (fun _ _ _ h => h) (Or.inl ⟨by rfl, ?hy13⟩) h0_5 ?rest13
          case hy13 => (intro w' hS; (try dsimp only at hS); go_simp; try (with_reducible rfl))
          simp only [Act.put, List.getElem_toArray, List.getElem_cons_zero, List.getElem_cons_succ, List.setIfInBounds_toArray, List.set_cons_zero, List.set_cons_succ]
          refine wpAnyH_done (by kernel_rfl) ?_ _
          go_wp2_with fail
          go_meet
          case rel => exact ⟨rfl, Lib.hid ⟨(S4.all y).1, grown_trans S3.out.2 (S4.all y).2⟩⟩
        · rw [if_pos (by rfl)]
          go_simp
          refine (R1.out).mono ?_
          rintro e wa ⟨rfl, hwa⟩
          rw [hwa]; clear hwa wa
          go_simp
          refine hK.out _ _ (KS.out _ _ S3d) (fun h0_1 => ?_)
          clear hK K h0
          refine wpAnyH_take (i := 5) (v := ?v14) rfl (by kernel_rfl) (by kernel_rfl) (by kernel_rfl) (fun _ _ _ h => h) (Or.inl ⟨by rfl, ?hy14⟩) h0_1 ?rest14
          case hy14 => (intro w' hS; (try dsimp only at hS); go_simp; try (with_reducible rfl))
          simp only [Act.put, List.getElem_toArray, List.getElem_cons_zero, List.getElem_cons_succ, List.setIfInBounds_toArray, List.set_cons_zero, List.set_cons_succ]
          refine wpAnyH_take (i := 6) (v := ?v15) rfl (by kernel_rfl) (by kernel_rfl) (by kernel_rfl) (fun _ _ _ h => h) (Or.inl ⟨by rfl, ?hy15⟩) h0_1 ?rest15
          case hy15 => (intro w' hS; (try dsimp only at hS); go_simp; try (with_reducible rfl))
          simp only [Act.put, List.getElem_toArray, List.getElem_cons_zero, List.getElem_cons_succ, List.setIfInBounds_toArray, List.set_cons_zero, List.set_cons_succ]
          refine wpAnyH_ready (rs := [0, 7]) (by kernel_rfl) (by simp) (AllReadyH.cons rfl (fun K hK => ?_) (AllReadyH.cons rfl (fun K hK => ?_) AllReadyH.nil))
          · rw [if_pos (by rfl)]
            go_simp
            refine hK.out _ _ (KS.out _ _ S3d) (fun h0_6 => ?_)
            clear hK K h0_1
            refine wpAnyH_ready (rs := [7]) (by kernel_rfl) (by simp) (AllReadyH.cons rfl (fun K hK => ?_) AllReadyH.nil)
            rw [if_pos (by rfl)]
            go_simp
            refine (R2.out).mono ?_
            rintro e wa ⟨rfl, hwa⟩
            rw [hwa]; clear hwa wa
            go_simp
            refine hK.out _ _ (KS.out _ _ S3d) (fun h0_7 => ?_)
            clear hK K h0_6
            refine wpAnyH_take (i := 10) (v := ?v16) rfl (by kernel_rfl) (by kernel_rfl) (by kernel_rfl) (fun _ _ _ h => h) (Or.inl ⟨by rfl, ?hy16⟩) h0_7 ?rest16
            case hy16 => (intro w' hS; (try dsimp only at hS); go_simp; try (with_reducible rfl))
            simp only [Act.put, List.getElem_toArray, List.getElem_cons_zero, List.getElem_cons_succ, List.setIfInBounds_toArray, List.set_cons_zero, List.set_cons_succ]
            refine wpAnyH_take (i := 11) (v := ?v17) rfl (by kernel_rfl) (by kernel_rfl) (by kernel_rfl) (fun _ _ _ h => h) (Or.inl ⟨by rfl, ?hy17⟩) h0_7 ?rest17
            case hy17 => (intro w' hS; (try dsimp only at hS); go_simp; try (with_reducible rfl))
            simp only [Act.put, List.getElem_toArray, List.getElem_cons_zero, List.getElem_cons_succ, List.setIfInBounds_toArray, List.set_cons_zero, List.set_cons_succ]
            refine wpAnyH_ready (rs := [12]) (by kernel_rfl) (by simp) (AllReadyH.cons rfl (fun K hK => ?_) AllReadyH.nil)
            rw [if_pos (by rfl)]
            go_simp
            refine (WI.out _).mono ?_
            rintro e w7 ⟨rfl, hb7⟩
            have S4 := S3d.on hb7
            clear hb7
            go_simp
            refine hK.out _ _ (KS.out _ _ S4) (fun h0_8 => ?_)
            clear hK K h0_7
            have g9 := S4.1.frees
            have g9' := S4.1.facts
            obtain ⟨g0, g1, g2, g3, g4, g5, g6⟩ := g9
            obtain ⟨h0, h1, h2, h3, h4, h5, h6⟩ := g9'
            refine wpAnyH_take (i := 13) (v := ?v18) rfl (by kernel_rfl) (by kernel_rfl) (by kernel_rfl) (fun _ _ _ h => h) (Or.inl ⟨by rfl, ?hy18⟩) h0_8 ?rest18
            case hy18 => (intro w' hS; (try dsimp only at hS); go_simp; try (with_reducible rfl))
            simp only [Act.put, List.getElem_toArray, List.getElem_cons_zero, List.getElem_cons_succ, List.setIfInBounds_toArray, List.set_cons_zero, List.set_cons_succ]
            refine wpAnyH_take (i := 14) (v := ?v19) rfl (by kernel_rfl) (by kernel_rfl) (by kernel_rfl) (fun _ _ _ h => h) (Or.inl ⟨by rfl, ?hy19⟩) h0_8 ?rest19
            case hy19 => (intro w' hS; (try dsimp only at hS); go_simp; try (with_reducible rfl))
            simp only [Act.put, List.getElem_toArray, List.getElem_cons_zero, List.getElem_cons_succ, List.setIfInBounds_toArray, List.set_cons_zero, List.set_cons_succ]
            refine wpAnyH_take (i := 15) (v := ?v20) rfl (by kernel_rfl) (by kernel_rfl) (by kernel_rfl) (fun _ _ _ h => h) (Or.inl ⟨by rfl, ?hy20⟩) h0_8 ?rest20
            case hy20 => (intro w' hS; (try dsimp only at hS); go_simp; try (with_reducible rfl))
            simp only [Act.put, List.getElem_toArray, List.getElem_cons_zero, List.getElem_cons_succ, List.setIfInBounds_toArray, List.set_cons_zero, List.set_cons_succ]
            refine wpAnyH_ready (rs := [16]) (by kernel_rfl) (by simp) (AllReadyH.cons rfl (fun K hK => ?_) AllReadyH.nil)
            rw [if_pos (by rfl)]
            go_simp
            refine hK.out _ _ (KS.out _ _ (S4.all y)) (fun h0_9 => ?_)
            clear hK K h0_8
            refine wpAnyH_take (i := 17) (v := ?v21) rfl (by kernel_rfl) (by kernel_rfl) (by kernel_rfl) (fun _ _ _ h => h) (Or.inl ⟨by rfl, ?hy21⟩) h0_9 ?rest21
            case hy21 => (intro w' hS; (try dsimp only at hS); go_simp; try (with_reducible rfl))
            simp only [Act.put, List.getElem_toArray, List.getElem_cons_zero, List.getElem_cons_succ, List.setIfInBounds_toArray, List.set_cons_zero, List.set_cons_succ]
            refine wpAnyH_done (by kernel_rfl) ?_ _
            go_wp2_with fail
            go_meet
            case rel => exact ⟨rfl, Lib.hid ⟨(S4.all y).1, grown_trans S3.out.2 (S4.all y).2⟩⟩
          · rw [if_pos (by rfl)]
            go_simp
            refine (R2.out).mono ?_
            rintro e wa ⟨rfl, hwa⟩
            rw [hwa]; clear hwa wa
            go_simp
            refine hK.out _ _ (KS.out _ _ S3d) (fun h0_6 => ?_)
            clear hK K h0_1
            refine wpAnyH_take (i := 10) (v := ?v22) rfl (by kernel_rfl) (by kernel_rfl) (by kernel_rfl) (fun _ _ _ h => h) (Or.inl ⟨by rfl, ?hy22⟩) h0_6 ?rest22
            case hy22 => (intro w' hS; (try dsimp only at hS); go_simp; try (with_reducible rfl))
            simp only [Act.put, List.getElem_toArray, List.getElem_cons_zero, List.getElem_cons_succ, List.setIfInBounds_toArray, List.set_cons_zero, List.set_cons_succ]
            refine wpAnyH_take (i := 11) (v := ?v23) rfl (by kernel_rfl) (by kernel_rfl) (by kernel_rfl) (fun _ _ _ h => h) (Or.inl ⟨by rfl, ?hy23⟩) h0_6 ?rest23
            case hy23 => (intro w' hS; (try dsimp only at hS); go_simp; try (with_reducible rfl))
            simp only [Act.put, List.getElem_toArray, List.getElem_cons_zero, List.getElem_cons_succ, List.setIfInBounds_toArray, List.set_cons_zero, List.set_cons_succ]
            refine wpAnyH_ready (rs := [0]) (by kernel_rfl) (by simp) (AllReadyH.cons rfl (fun K hK => ?_) AllReadyH.nil)
            rw [if_pos (by rfl)]
            go_simp
            refine hK.out _ _ (KS.out _ _ S3d) (fun h0_10 => ?_)
            clear hK K h0_6
            refine wpAnyH_ready (rs := [12]) (by kernel_rfl) (by simp) (AllReadyH.cons rfl (fun K hK => ?_) AllReadyH.nil)
            rw [if_pos (by rfl)]
            go_simp
            refine (WI.out _).mono ?_
            rintro e w7 ⟨rfl, hb7⟩
            have S4 := S3d.on hb7
            clear hb7
            go_simp
            refine hK.out _ _ (KS.out _ _ S4) (fun h0_11 => ?_)
            clear hK K h0_10
            have g9 := S4.1.frees
            have g9' := S4.1.facts
            obtain ⟨g0, g1, g2, g3, g4, g5, g6⟩ := g9
            obtain ⟨h0, h1, h2, h3, h4, h5, h6⟩ := g9'
            refine wpAnyH_take (i := 13) (v := ?v24) rfl (by kernel_rfl) (by kernel_rfl) (by kernel_rfl) (fun _ _ _ h => h) (Or.inl ⟨by rfl, ?hy24⟩) h0_11 ?rest24
            case hy24 => (intro w' hS; (try dsimp only at hS); go_simp; try (with_reducible rfl))
            simp only [Act.put, List.getElem_toArray, List.getElem_cons_zero, List.getElem_cons_succ, List.setIfInBounds_toArray, List.set_cons_zero, List.set_cons_succ]
            refine wpAnyH_take (i := 14) (v := ?v25) rfl (by kernel_rfl) (by kernel_rfl) (by kernel_rfl) (fun _ _ _ h => h) (Or.inl ⟨by rfl, ?hy25⟩) h0_11 ?rest25
            case hy25 => (intro w' hS; (try dsimp only at hS); go_simp; try (with_reducible rfl))
            simp only [Act.put, List.getElem_toArray, List.getElem_cons_zero, List.getElem_cons_succ, List.setIfInBounds_toArray, List.set_cons_zero, List.set_cons_succ]
            refine wpAnyH_take (i := 15) (v := ?v26) rfl (by kernel_rfl) (by kernel_rfl) (by kernel_rfl) (fun _ _ _ h => h) (Or.inl ⟨by rfl, ?hy26⟩) h0_11 ?rest26
            case hy26 => (intro w' hS; (try dsimp only at hS); go_simp; try (with_reducible rfl))
            simp only [Act.put, List.getElem_toArray, List.getElem_cons_zero, List.getElem_cons_succ, List.setIfInBounds_toArray, List.set_cons_zero, List.set_cons_succ]
            refine wpAnyH_ready (rs := [16]) (by kernel_rfl) (by simp) (AllReadyH.cons rfl (fun K hK => ?_) AllReadyH.nil)
            rw [if_pos (by rfl)]
            go_simp
            refine hK.out _ _ (KS.out _ _ (S4.all y)) (fun h0_12 => ?_)
            clear hK K h0_11
            refine wpAnyH_take (i := 17) (v := ?v27) rfl (by kernel_rfl) (by kernel_rfl) (by kernel_rfl) (fun _ _ _ h => h) (Or.inl ⟨by rfl, ?hy27⟩) h0_12 ?rest27
            case hy27 => (intro w' hS; (try dsimp only at hS); go_simp; try (with_reducible rfl))
            simp only [Act.put, List.getElem_toArray, List.getElem_cons_zero, List.getElem_cons_succ, List.setIfInBounds_toArray, List.set_cons_zero, List.set_cons_succ]
            refine wpAnyH_done (by kernel_rfl) ?_ _
            go_wp2_with fail
            go_meet
            case rel => exact ⟨rfl, Lib.hid ⟨(S4.all y).1, grown_trans S3.out.2 (S4.all y).2⟩⟩
      case rest =>
        obtain ⟨rfl, HC⟩ := hcut
        clear S3d wrp t1 t0
        by_cases he : er = 0
        case pos =>
          have HN := Lib.hid (show (syR n l ps (t + 1)).2 = 0 ∧ WSt w6 w4.heap.size (syR n l ps (t + 1)).1 wc from by
            rw [SU1.out]; exact ⟨he, HC.out⟩)
          subst he
          go_wp2_with fail
          go_roundw
          case rel => exact ⟨t + 1, by omega, by go_num, HN⟩
          case measure => simp [intOf]; omega
        case neg =>
          have DE : (er != 0) = true := by simpa using he
          have HN := Lib.hid (show vv = (Dl.zero, er) from by
            have h1 : (syR n l ps (t + 1)).2 = er := by rw [SU1.out]
            have h2 : (syR n l ps n).2 = er := by rw [ST.out (t + 1) n (by omega) (by rw [h1]; exact he), h1]
            rw [HV1.out, h2, if_pos he])
          clear he
          obtain ⟨r0, r1, r2, r3, r4, r5, r6⟩ := (DR.out.kept (KE.out _ _ HC.out)).facts
          obtain ⟨f0, f1, f2, f3, f4, f5, f6⟩ := (DR.out.kept (KE.out _ _ HC.out)).frees
          go_wp2_with fail
          refine bodyPost_ret (v := .tuple #[.agg Dl.zero.cs, .int .i64 er]) (by simp [results, Tryz.results8, go_sem, Dl.cs, Dl.zero, r0, r1, r2, r3, r4, r5, r6]) rfl ⟨by rw [HN.out], ?_⟩
          exact below_seven (below_on E0.out (KE.out _ _ HC.out)) (by omega) _ _ _ _ _ _ _
    case neg =>
      obtain rfl : t = n := by omega
      have D9 : decide ((t : Int) < (t : Int)) = false := by simp
      have hyo := sy_ok t l ps t
      obtain ⟨y, hy⟩ : ∃ y, y = syR t l ps t := ⟨_, rfl⟩
      have HX3 := Lib.hid (show y.2 = 0 ∧ WSt w6 w4.heap.size y.1 wr by rw [hy]; exact HX.out)
      have HV2 := Lib.hid (show vv = if mb = false ∨ y.1.empty = true then (Dl.zero, 4) else (y.1, 0) by
        rw [HV1.out, ← hy, if_neg (by have := HX3.out.1; omega)])
      rw [← hy] at hyo
      clear hy
      obtain ⟨y, ye⟩ := y
      simp only at hyo HV2 HX3
      have EM := Lib.hid (fun W => isempty_any y W hyo)
      obtain ⟨r0, r1, r2, r3, r4, r5, r6⟩ := (DR.out.kept (KE.out _ _ HX3.out.2)).facts
      obtain ⟨f0, f1, f2, f3, f4, f5, f6⟩ := (DR.out.kept (KE.out _ _ HX3.out.2)).frees
      clear hyo
      by_cases hmb : mb = true
      case neg =>
        have hmf : mb = false := by simpa using hmb
        have HF2 := Lib.hid (show vv = (Dl.zero, 4) by rw [HV2.out, if_pos (Or.inl hmf)])
        clear hmb
        go_wp2_with fail
        refine bodyPost_ret (v := .tuple #[.agg Dl.zero.cs, .int .i64 4]) (by simp [results, Tryz.results8, go_sem, Dl.cs, Dl.zero, r0, r1, r2, r3, r4, r5, r6]) rfl ⟨by rw [HF2.out], ?_⟩
        exact below_seven (below_on E0.out (KE.out _ _ HX3.out.2)) (by omega) _ _ _ _ _ _ _
      case pos =>
        obtain ⟨em, hem⟩ : ∃ z, z = y.empty := ⟨_, rfl⟩
        rw [← hem] at EM
        have HEM := Lib.hid hem
        clear hem
        have HX4 := Lib.hid HX3.out.2
        have HV3 := HV2
        obtain ⟨yln, yld, yhn, yhd, ylo, yho, ynh⟩ := y
        obtain ⟨q0, q1, q2, q3, q4, q5, q6⟩ := HX4.out.1.facts
        simp only at q0 q1 q2 q3 q4 q5 q6
        simp only [Dl.cs] at EM
        by_cases hq : em = true
        case pos =>
          have HF2 := Lib.hid (show vv = (Dl.zero, 4) by rw [HV3.out, if_pos (Or.inr (by rw [← HEM.out]; exact hq))])
          go_wp2_with fail
          refine (EM.out _).mono ?_
          rintro e w8 ⟨rfl, hb8⟩
          have B8 := Lib.hid (below_on (KE.out _ _ HX4.out) hb8)
          clear hb8 q0 q1 q2 q3 q4 q5 q6 r0 r1 r2 r3 r4 r5 r6 f0 f1 f2 f3 f4 f5 f6
          obtain ⟨r0, r1, r2, r3, r4, r5, r6⟩ := (DR.out.kept B8.out).facts
          obtain ⟨f0, f1, f2, f3, f4, f5, f6⟩ := (DR.out.kept B8.out).frees
          go_wp2_with fail
          refine bodyPost_ret (v := .tuple #[.agg Dl.zero.cs, .int .i64 4]) (by simp [results, Tryz.results8, go_sem, Dl.cs, Dl.zero, r0, r1, r2, r3, r4, r5, r6]) rfl ⟨by rw [HF2.out], ?_⟩
          exact below_seven (below_on E0.out B8.out) (by omega) _ _ _ _ _ _ _
        case neg =>
          have hqf : em = false := by simpa using hq
          have HF2 := Lib.hid (show vv = (⟨yln, yld, yhn, yhd, ylo, yho, ynh⟩, 0) by rw [HV3.out, if_neg (by rw [← HEM.out, hmb, hqf]; simp)])
          clear hq
          go_wp2_with fail
          refine (EM.out _).mono ?_
          rintro e w8 ⟨rfl, hb8⟩
          have B8 := Lib.hid (below_on (KE.out _ _ HX4.out) hb8)
          have X8 := Lib.hid (HX4.out.on hb8)
          clear hb8 q0 q1 q2 q3 q4 q5 q6 r0 r1 r2 r3 r4 r5 r6 f0 f1 f2 f3 f4 f5 f6
          obtain ⟨q0, q1, q2, q3, q4, q5, q6⟩ := X8.out.1.facts
          simp only at q0 q1 q2 q3 q4 q5 q6
          obtain ⟨r0, r1, r2, r3, r4, r5, r6⟩ := (DR.out.kept B8.out).facts
          obtain ⟨f0, f1, f2, f3, f4, f5, f6⟩ := (DR.out.kept B8.out).frees
          go_wp2_with fail
          refine bodyPost_ret (v := .tuple #[.agg #[.int .i64 yln, .int .i64 yld, .int .i64 yhn, .int .i64 yhd, .bool ylo, .bool yho, .bool ynh], .int .i64 0]) (by simp [results, Tryz.results8, go_sem, r0, r1, r2, r3, r4, r5, r6]) rfl ⟨by rw [HF2.out]; rfl, ?_⟩
          exact below_seven (below_on E0.out B8.out) (by omega) _ _ _ _ _ _ _

theorem zstay_gen (N : Int) (l : List Int) (ao : Option Addr) (cap : Nat) (ps : List Pq) (po : Option Addr) (pc : Nat) (w : World) (hA : Arg w ao l) (hP : Arg2 w po ps) (hI : Fits ps) (hN : po = none → pc = 0) :
    Calls Tryz.prog 8 #[.agg #[.int .i64 N, .slice ao l.length cap], .slice po ps.length pc] w (Made (.tuple #[.agg (stR N l ps).1.cs, .int .i64 (stR N l ps).2]) w) := by
  unfold stR
  by_cases hr : rdE N l ps = 2
  · rw [if_pos hr]
    exact stay_bad N l ao cap ps po pc w hA hP hI hN hr
  · rw [if_neg hr]
    obtain ⟨n, rfl, _⟩ := chk_ok (rd_yes hr).1
    exact stay_ok n l ao cap ps po pc w hA hP hI hN hr
end Go.Proofs.YtbnebinpemejlaaGreat
