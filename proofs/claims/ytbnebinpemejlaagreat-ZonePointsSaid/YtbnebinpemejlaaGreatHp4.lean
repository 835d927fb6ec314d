/- The reference's choices: told.; The contract of layer 3's choose.; The contract of layer 3's choices.; Contracts of layer 3's read and open.; Equality of two matrices; when closing leaves a matrix as it is.; Plain mathematics: what is closed keeps to the inequality of triangles, also of limits somewhat out of range.; Plain mathematics: closing leaves a matrix as it is exactly if it passes the reference's Check.; Contracts of layer 3's read, of whatever arguments, and open.; Contracts of layer 3's open, of whatever zone, Check, and changed.; Plain mathematics: matrices whose closing begins alike.; The contract of Free of layer 3's reference. -/
import Derived.Test.YtbnebinpemejlaaGreatHp3
import Derived.Test.YtbnebinpemejlaaGreatHp2
import Derived.StillTailTactics
import Derived.Deep.WholeRow
import Derived.Deep.Upon
import Derived.DeepKeys
import Derived.Deep.RegionHeld

namespace Go.Proofs.YtbnebinpemejlaaGreat
open Go.RowKit

set_option maxRecDepth 100000 in
set_option maxHeartbeats 2000000 in
theorem told_any (x : Dl) (bd : Bool) (c : Nat) (w : World) (hx : x.Ok) (hc : Bx w c (chC x bd)) :
    Calls Tryz.prog 36 #[.pointer (some ⟨c, 0, none⟩)] w (Made (.tuple #[.agg (tdX x).cs, .int .i64 (tdE x)]) w) := by
  obtain ⟨k, hk⟩ : ∃ k, k = cmK x.ln x.ld x.hn x.hd := ⟨_, rfl⟩
  obtain ⟨er, her⟩ : ∃ er : Int, er = (if (vldB x.ln x.ld && vldB x.hn x.hd) then 0 else 2) := ⟨_, rfl⟩
  have CM := Lib.hid (show ∀ W, Calls Tryz.prog 71 #[.agg #[.int .i64 x.ln, .int .i64 x.ld], .agg #[.int .i64 x.hn, .int .i64 x.hd]] W (Made (.tuple #[.int .i64 k, .int .i64 er]) W) from fun W => by
    rw [hk, her]; exact refCmp_any x.ln x.ld x.hn x.hd W hx.1 hx.2.1 hx.2.2.1 hx.2.2.2)
  obtain ⟨tb, htb⟩ : ∃ tb, tb = tdB x := ⟨_, rfl⟩
  have HTB := Lib.hid (show tb = (!x.nh && (decide (0 < k) || (decide (k = 0) && (x.lo || x.ho)))) by rw [htb, hk]; rfl)
  have HTX := Lib.hid (show tdX x = (if tb then Dl.zero else x) ∧ tdE x = (if tb then 4 else 0) by unfold tdX tdE; rw [htb]; exact ⟨rfl, rfl⟩)
  obtain ⟨w0, hw0⟩ : ∃ w0, w0 = w.alloc (.cells Dl.zero.cs 34) := ⟨_, rfl⟩
  have RB := Lib.hid (show Dbx w0 w.heap.size Dl.zero by rw [hw0]; exact Drow.made _ _)
  have BC := Lib.hid (show Bx w0 c (chC x bd) by rw [hw0]; exact hc.kept (one_more _))
  have B0 := Lib.hid (show Below w.heap.size w w0 by rw [hw0]; exact one_more _)
  clear hk her htb hc
  go_enter Tryz.func36, Tryz.ntmps36
  go_upto_region 1 with (fail)
  change Code.wp _ _ _ _ (w.alloc (.cells Dl.zero.cs 34)) at *
  rw [← hw0]
  clear hw0
  have KS := Lib.hid (show ∀ W, Below w0.heap.size w0 W → (W.cell? ⟨c, 0, none⟩ = some (.int .i64 x.ln) ∧ W.cell? ⟨c, 1, none⟩ = some (.int .i64 x.ld) ∧ W.cell? ⟨c, 2, none⟩ = some (.int .i64 x.hn) ∧ W.cell? ⟨c, 3, none⟩ = some (.int .i64 x.hd)) from fun W h => ⟨(BC.out.kept h).cell 0, (BC.out.kept h).cell 1, (BC.out.kept h).cell 2, (BC.out.kept h).cell 3⟩)
  obtain ⟨wc, hwc⟩ : ∃ wc, wc = w0.drew := ⟨_, rfl⟩
  have Bc := Lib.hid (show Below w0.heap.size w0 wc by rw [hwc]; exact (Below.refl _ _).drew)
  refine wp_region_held_drew (S := (fun W => (W.cell? ⟨c, 0, none⟩ = some (.int .i64 x.ln) ∧ W.cell? ⟨c, 1, none⟩ = some (.int .i64 x.ld) ∧ W.cell? ⟨c, 2, none⟩ = some (.int .i64 x.hn) ∧ W.cell? ⟨c, 3, none⟩ = some (.int .i64 x.hd)))) (by kernel_rfl) (by rw [← hwc]; exact KS.out _ Bc.out) (fun h0 => ?_)
  rw [← hwc] at h0 ⊢
  clear hwc
  refine wpAnyH_take (i := 0) (v := ?v1) rfl (by kernel_rfl) (by kernel_rfl) (by kernel_rfl) (fun _ _ _ h => h) (Or.inl ⟨by rfl, ?hy1⟩) h0 ?rest1
  case hy1 => (intro w' hS; (try dsimp only at hS); go_simp; try (with_reducible rfl))
  simp only [Act.put, List.getElem_toArray, List.getElem_cons_zero, List.setIfInBounds_toArray, List.set_cons_zero, List.set_cons_succ]
  refine wpAnyH_take (i := 1) (v := ?v2) rfl (by kernel_rfl) (by kernel_rfl) (by kernel_rfl) (fun _ _ _ h => h) (Or.inl ⟨by rfl, ?hy2⟩) h0 ?rest2
  case hy2 => (intro w' hS; (try dsimp only at hS); go_simp; try (with_reducible rfl))
  simp only [Act.put, List.getElem_toArray, List.getElem_cons_zero, List.getElem_cons_succ, List.setIfInBounds_toArray, List.set_cons_zero, List.set_cons_succ]
  refine wpAnyH_take (i := 2) (v := ?v3) rfl (by kernel_rfl) (by kernel_rfl) (by kernel_rfl) (fun _ _ _ h => h) (Or.inl ⟨by rfl, ?hy3⟩) h0 ?rest3
  case hy3 => (intro w' hS; (try dsimp only at hS); go_simp; try (with_reducible rfl))
  simp only [Act.put, List.getElem_toArray, List.getElem_cons_zero, List.getElem_cons_succ, List.setIfInBounds_toArray, List.set_cons_zero, List.set_cons_succ]
  refine wpAnyH_take (i := 3) (v := ?v4) rfl (by kernel_rfl) (by kernel_rfl) (by kernel_rfl) (fun _ _ _ h => h) (Or.inl ⟨by rfl, ?hy4⟩) h0 ?rest4
  case hy4 => (intro w' hS; (try dsimp only at hS); go_simp; try (with_reducible rfl))
  simp only [Act.put, List.getElem_toArray, List.getElem_cons_zero, List.getElem_cons_succ, List.setIfInBounds_toArray, List.set_cons_zero, List.set_cons_succ]
  refine wpAnyH_take (i := 4) (v := ?v5) rfl (by kernel_rfl) (by kernel_rfl) (by kernel_rfl) (fun _ _ _ h => h) (Or.inl ⟨by rfl, ?hy5⟩) h0 ?rest5
  case hy5 => (intro w' hS; (try dsimp only at hS); go_simp; try (with_reducible rfl))
  simp only [Act.put, List.getElem_toArray, List.getElem_cons_zero, List.getElem_cons_succ, List.setIfInBounds_toArray, List.set_cons_zero, List.set_cons_succ]
  refine wpAnyH_take (i := 5) (v := ?v6) rfl (by kernel_rfl) (by kernel_rfl) (by kernel_rfl) (fun _ _ _ h => h) (Or.inl ⟨by rfl, ?hy6⟩) h0 ?rest6
  case hy6 => (intro w' hS; (try dsimp only at hS); go_simp; try (with_reducible rfl))
  simp only [Act.put, List.getElem_toArray, List.getElem_cons_zero, List.getElem_cons_succ, List.setIfInBounds_toArray, List.set_cons_zero, List.set_cons_succ]
  refine wpAnyH_take (i := 6) (v := ?v7) rfl (by kernel_rfl) (by kernel_rfl) (by kernel_rfl) (fun _ _ _ h => h) (Or.inl ⟨by rfl, ?hy7⟩) h0 ?rest7
  case hy7 => (intro w' hS; (try dsimp only at hS); go_simp; try (with_reducible rfl))
  simp only [Act.put, List.getElem_toArray, List.getElem_cons_zero, List.getElem_cons_succ, List.setIfInBounds_toArray, List.set_cons_zero, List.set_cons_succ]
  refine wpAnyH_take (i := 7) (v := ?v8) rfl (by kernel_rfl) (by kernel_rfl) (by kernel_rfl) (fun _ _ _ h => h) (Or.inl ⟨by rfl, ?hy8⟩) h0 ?rest8
  case hy8 => (intro w' hS; (try dsimp only at hS); go_simp; try (with_reducible rfl))
  simp only [Act.put, List.getElem_toArray, List.getElem_cons_zero, List.getElem_cons_succ, List.setIfInBounds_toArray, List.set_cons_zero, List.set_cons_succ]
  refine wpAnyH_take (i := 8) (v := ?v9) rfl (by kernel_rfl) (by kernel_rfl) (by kernel_rfl) (fun _ _ _ h => h) (Or.inl ⟨by rfl, ?hy9⟩) h0 ?rest9
  case hy9 => (intro w' hS; (try dsimp only at hS); go_simp; try (with_reducible rfl))
  simp only [Act.put, List.getElem_toArray, List.getElem_cons_zero, List.getElem_cons_succ, List.setIfInBounds_toArray, List.set_cons_zero, List.set_cons_succ]
  refine wpAnyH_take (i := 9) (v := ?v10) rfl (by kernel_rfl) (by kernel_rfl) (by kernel_rfl) (fun _ _ _ h => h) (Or.inl ⟨by rfl, ?hy10⟩) h0 ?rest10
  case hy10 => (intro w' hS; (try dsimp only at hS); go_simp; try (with_reducible rfl))
  simp only [Act.put, List.getElem_toArray, List.getElem_cons_zero, List.getElem_cons_succ, List.setIfInBounds_toArray, List.set_cons_zero, List.set_cons_succ]
  refine wpAnyH_ready (rs := [10]) (by kernel_rfl) (by simp) (AllReadyH.cons rfl (fun K hK => ?_) AllReadyH.nil)
  rw [if_pos (by rfl)]
  go_simp
  refine (CM.out _).mono ?_
  rintro e wc ⟨rfl, hb⟩
  have Bc := Lib.hid (below_on Bc.out hb)
  clear hb
  go_simp
  refine hK.out _ _ (KS.out _ Bc.out) (fun h0_1 => ?_)
  clear hK K h0
  refine wpAnyH_take (i := 11) (v := ?v11) rfl (by kernel_rfl) (by kernel_rfl) (by kernel_rfl) (fun _ _ _ h => h) (Or.inl ⟨by rfl, ?hy11⟩) h0_1 ?rest11
  case hy11 => (intro w' hS; (try dsimp only at hS); go_simp; try (with_reducible rfl))
  simp only [Act.put, List.getElem_toArray, List.getElem_cons_zero, List.getElem_cons_succ, List.setIfInBounds_toArray, List.set_cons_zero, List.set_cons_succ]
  refine wpAnyH_take (i := 12) (v := ?v12) rfl (by kernel_rfl) (by kernel_rfl) (by kernel_rfl) (fun _ _ _ h => h) (Or.inl ⟨by rfl, ?hy12⟩) h0_1 ?rest12
  case hy12 => (intro w' hS; (try dsimp only at hS); go_simp; try (with_reducible rfl))
  simp only [Act.put, List.getElem_toArray, List.getElem_cons_zero, List.getElem_cons_succ, List.setIfInBounds_toArray, List.set_cons_zero, List.set_cons_succ]
  refine wpAnyH_take (i := 13) (v := ?v13) rfl (by kernel_rfl) (by kernel_rfl) (by kernel_rfl) (fun _ _ _ h => h) (Or.inl ⟨by rfl, ?hy13⟩) h0_1 ?rest13
  case hy13 => (intro w' hS; (try dsimp only at hS); go_simp; try (with_reducible rfl))
  simp only [Act.put, List.getElem_toArray, List.getElem_cons_zero, List.getElem_cons_succ, List.setIfInBounds_toArray, List.set_cons_zero, List.set_cons_succ]
  refine wpAnyH_take (i := 14) (v := ?v14) rfl (by kernel_rfl) (by kernel_rfl) (by kernel_rfl) (fun _ _ _ h => h) (Or.inl ⟨by rfl, ?hy14⟩) h0_1 ?rest14
  case hy14 => (intro w' hS; (try dsimp only at hS); go_simp; try (with_reducible rfl))
  simp only [Act.put, List.getElem_toArray, List.getElem_cons_zero, List.getElem_cons_succ, List.setIfInBounds_toArray, List.set_cons_zero, List.set_cons_succ]
  refine wpAnyH_take (i := 15) (v := ?v15) rfl (by kernel_rfl) (by kernel_rfl) (by kernel_rfl) (fun _ _ _ h => h) (Or.inl ⟨by rfl, ?hy15⟩) h0_1 ?rest15
  case hy15 => (intro w' hS; (try dsimp only at hS); go_simp; try (with_reducible rfl))
  simp only [Act.put, List.getElem_toArray, List.getElem_cons_zero, List.getElem_cons_succ, List.setIfInBounds_toArray]
  try simp only [List.set_cons_succ]
  try simp only [List.set_cons_zero]
  refine wpAnyH_done (by kernel_rfl) ?_ _
  clear KS CM
  have BW := Lib.hid (BC.out.kept Bc.out)
  have RW := Lib.hid (RB.out.kept Bc.out)
  have Q0 := Lib.hid (below_on B0.out Bc.out)
  have c0 := BW.out.cell 0
  have c1 := BW.out.cell 1
  have c2 := BW.out.cell 2
  have c3 := BW.out.cell 3
  have c4 := BW.out.cell 4
  have c5 := BW.out.cell 5
  have c6 := BW.out.cell 6
  simp [chC] at c0 c1 c2 c3 c4 c5 c6
  go_upto_region 2 with (fail)
  generalize wc = w5 at *
  go_cut [47] (fun s wx => s = .bool tb ∧ wx = w5)
  case first =>
    cases hnh : x.nh
    · rw [hnh] at c6
      by_cases h1 : 0 < k
      · have K1 : decide (0 < k) = true := decide_eq_true h1
        clear h1
        have HR := Lib.hid (show tb = true by rw [HTB.out, hnh, K1]; rfl)
        go_wp2_with fail
        go_meet
        case rel => exact ⟨by rw [HR.out], rfl⟩
      · have K1 : decide (0 < k) = false := decide_eq_false h1
        clear h1
        by_cases h2 : k = 0
        · have K2 : (k == 0) = true := by simp [h2]
          have K3 : decide (k = 0) = true := decide_eq_true h2
          clear h2
          cases hlo : x.lo
          · rw [hlo] at c4
            cases hho : x.ho
            · rw [hho] at c5
              have HR := Lib.hid (show tb = false by rw [HTB.out, hnh, K1, K3, hlo, hho]; rfl)
              go_wp2_with fail
              go_meet
              case rel => exact ⟨by rw [HR.out], rfl⟩
            · rw [hho] at c5
              have HR := Lib.hid (show tb = true by rw [HTB.out, hnh, K1, K3, hlo, hho]; rfl)
              go_wp2_with fail
              go_meet
              case rel => exact ⟨by rw [HR.out], rfl⟩
          · rw [hlo] at c4
            have HR := Lib.hid (show tb = true by rw [HTB.out, hnh, K1, K3, hlo]; rfl)
            go_wp2_with fail
            go_meet
            case rel => exact ⟨by rw [HR.out], rfl⟩
        · have K2 : (k == 0) = false := by simp [h2]
          have K3 : decide (k = 0) = false := decide_eq_false h2
          clear h2
          have HR := Lib.hid (show tb = false by rw [HTB.out, hnh, K1, K3]; rfl)
          go_wp2_with fail
          go_meet
          case rel => exact ⟨by rw [HR.out], rfl⟩
    · rw [hnh] at c6
      have HR := Lib.hid (show tb = false by rw [HTB.out, hnh]; rfl)
      go_wp2_with fail
      go_meet
      case rel => exact ⟨by rw [HR.out], rfl⟩
  case rest =>
  obtain ⟨rfl, rfl⟩ := hcut
  generalize wc = w5 at *
  obtain ⟨r0, r1, r2, r3, r4, r5, r6⟩ := RW.out.facts
  obtain ⟨z0, z1, z2, z3, z4, z5, z6⟩ := RW.out.frees
  cases tb
  · go_wp2_with fail
    refine bodyPost_ret (v := .tuple #[.agg x.cs, .int .i64 0]) (by simp [results, Tryz.results36, go_sem, Dl.cs, r0, r1, r2, r3, r4, r5, r6]) rfl ⟨by rw [HTX.out.1, HTX.out.2]; rfl, ?_⟩
    exact below_seven Q0.out (Nat.le_refl _) _ _ _ _ _ _ _
  · go_wp2_with fail
    refine bodyPost_ret (v := .tuple #[.agg Dl.zero.cs, .int .i64 4]) (by simp [results, Tryz.results36, go_sem, Dl.cs, Dl.zero, r0, r1, r2, r3, r4, r5, r6]) rfl ⟨by rw [HTX.out.1, HTX.out.2]; rfl, ?_⟩
    exact below_seven Q0.out (Nat.le_refl _) _ _ _ _ _ _ _
end Go.Proofs.YtbnebinpemejlaaGreat

namespace Go.Proofs.YtbnebinpemejlaaGreat
open Go.RowKit

def mdN (n d m c : Int) : Int := opNum (midB n d m c) (midX n d m c) (midY n d m c)

def mdD (n d m c : Int) : Int := opDen (midB n d m c) (midX n d m c) (midY n d m c)

def mdE (n d m c : Int) : Int := opErr (midB n d m c) (midX n d m c) (midY n d m c)

/-- The value that Point takes of an interval. -/
def chN (x : Dl) : Int := if x.lo then (if x.nh then shN x.ln x.ld 1 else mdN x.ln x.ld x.hn x.hd) else x.ln

def chD (x : Dl) : Int := if x.lo then (if x.nh then shD x.ln x.ld 1 else mdD x.ln x.ld x.hn x.hd) else x.ld

def chE (x : Dl) : Int := if x.lo then (if x.nh then shE x.ln x.ld 1 else mdE x.ln x.ld x.hn x.hd) else 0

theorem ch_64 {x : Dl} (hx : x.Ok) : I64 (chN x) ∧ I64 (chD x) := by
  unfold chN chD
  split
  · split
    · exact ⟨opNum_64 _ _ _, opDen_64 _ _ _⟩
    · exact ⟨opNum_64 _ _ _, opDen_64 _ _ _⟩
  · exact ⟨hx.1, hx.2.1⟩

set_option maxRecDepth 100000 in
set_option maxHeartbeats 1600000 in
theorem choose_any (x : Dl) (w : World) (hx : x.Ok) : Calls Tryz.prog 40 #[.agg x.cs] w (Made (.tuple #[.agg #[.int .i64 (chN x), .int .i64 (chD x)], .int .i64 (chE x)]) w) := by
  have SH := Lib.hid (show ∀ W, Calls Tryz.prog 67 #[.agg #[.int .i64 x.ln, .int .i64 x.ld], .int .i64 1] W (Made (.tuple #[.agg #[.int .i64 (shN x.ln x.ld 1), .int .i64 (shD x.ln x.ld 1)], .int .i64 (shE x.ln x.ld 1)]) W) from fun W => shift_any x.ln x.ld 1 W hx.1 hx.2.1 (by omega) (by omega))
  have MD := Lib.hid (show ∀ W, Calls Tryz.prog 74 #[.agg #[.int .i64 x.ln, .int .i64 x.ld], .agg #[.int .i64 x.hn, .int .i64 x.hd]] W (Made (.tuple #[.agg #[.int .i64 (mdN x.ln x.ld x.hn x.hd), .int .i64 (mdD x.ln x.ld x.hn x.hd)], .int .i64 (mdE x.ln x.ld x.hn x.hd)]) W) from fun W => middle_any x.ln x.ld x.hn x.hd W hx.1 hx.2.1 hx.2.2.1 hx.2.2.2)
  obtain ⟨w0, hw0⟩ : ∃ w0, w0 = (w.alloc (.cells x.cs 34)).alloc (.cells #[.int .i64 0, .int .i64 0] 32) := ⟨_, rfl⟩
  have DX := Lib.hid (show Dbx w0 w.heap.size x by rw [hw0]; exact (Drow.made _ _).alloc _)
  have PR := Lib.hid (show Pair w0 (w.heap.size + 1) 0 0 by
    rw [hw0]
    have := Pair.made (w.alloc (.cells x.cs 34)) 0 0 32
    simpa using this)
  have E0 := Lib.hid (show Below w.heap.size w w0 by rw [hw0]; exact past_two (Below.refl _ _))
  simp only [Dl.cs] at hw0
  have HW0 := Lib.hid hw0
  have HN := Lib.hid (show chN x = (if x.lo then (if x.nh then shN x.ln x.ld 1 else mdN x.ln x.ld x.hn x.hd) else x.ln) ∧ chD x = (if x.lo then (if x.nh then shD x.ln x.ld 1 else mdD x.ln x.ld x.hn x.hd) else x.ld) ∧ chE x = (if x.lo then (if x.nh then shE x.ln x.ld 1 else mdE x.ln x.ld x.hn x.hd) else 0) from ⟨rfl, rfl, rfl⟩)
  clear hw0 hx
  generalize chN x = rn at *
  generalize chD x = rd at *
  generalize chE x = re at *
  obtain ⟨xln, xld, xhn, xhd, xlo, xho, xnh⟩ := x
  simp only at HW0 SH MD HN
  simp only [Dl.cs]
  generalize shN xln xld 1 = an at *
  generalize shD xln xld 1 = ad at *
  generalize shE xln xld 1 = ae at *
  generalize mdN xln xld xhn xhd = bn at *
  generalize mdD xln xld xhn xhd = bd at *
  generalize mdE xln xld xhn xhd = be at *
  obtain ⟨q0, q1, q2, q3, q4, q5, q6⟩ := DX.out.facts
  simp only at q0 q1 q2 q3 q4 q5 q6
  cases xlo
  case false =>
    have HF := Lib.hid (show rn = xln ∧ rd = xld ∧ re = 0 from HN.out)
    obtain ⟨p0, p1, p2, p3⟩ := PR.out.facts
    go_enter Tryz.func40, Tryz.ntmps40
    go_upto_region 1 with (fail)
    rw [← HW0.out]
    go_wp2_with fail
    rw [HF.out.1, HF.out.2.1, HF.out.2.2]
    refine bodyPost_ret (v := .tuple #[.agg #[.int .i64 xln, .int .i64 xld], .int .i64 0]) (by simp [results, Tryz.results40, go_sem, p0, p1]) rfl ⟨rfl, ?_⟩
    exact (E0.out.setCell (by show w.heap.size ≤ w.heap.size + 1; omega) _).setCell (by show w.heap.size ≤ w.heap.size + 1; omega) _
  case true =>
    cases xnh
    case true =>
      have HF := Lib.hid (show rn = an ∧ rd = ad ∧ re = ae from HN.out)
      go_enter Tryz.func40, Tryz.ntmps40
      go_upto_region 1 with (fail)
      rw [← HW0.out]
      go_wp2_with fail
      refine (SH.out _).mono ?_
      rintro e w1 ⟨rfl, hb1⟩
      have B1 := Lib.hid (below_on E0.out hb1)
      obtain ⟨p0, p1, p2, p3⟩ := (PR.out.kept hb1).facts
      clear hb1 q0 q1 q2 q3 q4 q5 q6
      go_wp2_with fail
      rw [HF.out.1, HF.out.2.1, HF.out.2.2]
      refine bodyPost_ret (v := .tuple #[.agg #[.int .i64 an, .int .i64 ad], .int .i64 ae]) (by simp [results, Tryz.results40, go_sem, p0, p1]) rfl ⟨rfl, ?_⟩
      exact (B1.out.setCell (by show w.heap.size ≤ w.heap.size + 1; omega) _).setCell (by show w.heap.size ≤ w.heap.size + 1; omega) _
    case false =>
      have HF := Lib.hid (show rn = bn ∧ rd = bd ∧ re = be from HN.out)
      go_enter Tryz.func40, Tryz.ntmps40
      go_upto_region 1 with (fail)
      rw [← HW0.out]
      go_wp2_with fail
      refine (MD.out _).mono ?_
      rintro e w1 ⟨rfl, hb1⟩
      have B1 := Lib.hid (below_on E0.out hb1)
      obtain ⟨p0, p1, p2, p3⟩ := (PR.out.kept hb1).facts
      clear hb1 q0 q1 q2 q3 q4 q5 q6
      go_wp2_with fail
      rw [HF.out.1, HF.out.2.1, HF.out.2.2]
      refine bodyPost_ret (v := .tuple #[.agg #[.int .i64 bn, .int .i64 bd], .int .i64 be]) (by simp [results, Tryz.results40, go_sem, p0, p1]) rfl ⟨rfl, ?_⟩
      exact (B1.out.setCell (by show w.heap.size ≤ w.heap.size + 1; omega) _).setCell (by show w.heap.size ≤ w.heap.size + 1; omega) _
end Go.Proofs.YtbnebinpemejlaaGreat

namespace Go.Proofs.YtbnebinpemejlaaGreat
open Go.RowKit

/-- The choices of the clock k, by the clocks before it that have values: up to the first error. -/
def cxR (n : Nat) (l : List Int) (ps : List Pq) (k : Nat) : Nat → Dl × Int
  | 0 => (Dl.one, 0)
  | t + 1 => if (cxR n l ps k t).2 = 0 then (wiL (cxR n l ps k t).1 (gp ps t).1 (gp ps t).2 (Zo.At n l k t) (Zo.At n l t k), wiE (gp ps t).1 (gp ps t).2 (Zo.At n l k t) (Zo.At n l t k)) else cxR n l ps k t

theorem cx_stay {n : Nat} {l : List Int} {ps : List Pq} {k t m : Nat} (h : t ≤ m) (he : (cxR n l ps k t).2 ≠ 0) : cxR n l ps k m = cxR n l ps k t := by
  induction m with
  | zero => rw [show t = 0 by omega]
  | succ m ih =>
    by_cases e : t = m + 1
    · rw [e]
    · have := ih (by omega)
      show (if (cxR n l ps k m).2 = 0 then _ else cxR n l ps k m) = _
      rw [if_neg (by rw [this]; exact he), this]

theorem wi_zero {x : Dl} {n d u l : Int} (h : wiE n d u l ≠ 0) : wiL x n d u l = Dl.zero := by unfold wiL; rw [if_neg h]

theorem wiL_ok {x : Dl} (hx : x.Ok) (n d u l : Int) : (wiL x n d u l).Ok := by
  unfold wiL
  split
  · exact wlL_ok (wuL_ok hx _ _ _) _ _ _
  · exact ⟨by unfold Dl.zero I64; simp, by unfold Dl.zero I64; simp, by unfold Dl.zero I64; simp, by unfold Dl.zero I64; simp⟩

theorem cx_ok (n : Nat) (l : List Int) (ps : List Pq) (k t : Nat) : (cxR n l ps k t).1.Ok := by
  induction t with
  | zero => exact ⟨by unfold cxR Dl.one I64; simp, by unfold cxR Dl.one I64; simp, by unfold cxR Dl.one I64; simp, by unfold cxR Dl.one I64; simp⟩
  | succ t ih =>
    show (if (cxR n l ps k t).2 = 0 then _ else cxR n l ps k t).1.Ok
    split
    · exact wiL_ok ih _ _ _ _
    · exact ih

theorem WSt.all {w0 w : World} {b : Nat} {x : Dl} (h : WSt w0 b x w) (y : Dl) : WSt w0 b y (((((((w.setCell ⟨b, 0, none⟩ (.int .i64 y.ln)).setCell ⟨b, 1, none⟩ (.int .i64 y.ld)).setCell ⟨b, 2, none⟩ (.int .i64 y.hn)).setCell ⟨b, 3, none⟩ (.int .i64 y.hd)).setCell ⟨b, 4, none⟩ (.bool y.lo)).setCell ⟨b, 5, none⟩ (.bool y.ho)).setCell ⟨b, 6, none⟩ (.bool y.nh)) :=
  ⟨h.1.all y, grown_trans h.2 (grown_trans (grown_put3 _ _ _ _ _ _ _ _) (grown_trans (grown_put3 _ _ _ _ _ _ _ _) (grown_put _ _ _ _)))⟩

set_option maxRecDepth 100000 in
set_option maxHeartbeats 8000000 in
theorem choices_any (n k : Nat) (l : List Int) (ps : List Pq) (b0 : Nat) (a : Addr) (cap : Nat) (w : World) (hn : n ≤ 10) (hk : ps.length = k) (hk1 : 1 ≤ k) (hkn : k ≤ n) (hM : Mx w b0 n l) (hP : Rd2 w a ps) (hF : Fits ps) (hL : ∀ i j, i ≤ n → j ≤ n → I64 (Zo.At n l i j)) :
    Calls Tryz.prog 39 #[.pointer (some ⟨b0, 0, none⟩), .slice (some a) k cap] w (Made (.tuple #[.agg (cxR n l ps k k).1.cs, .int .i64 (cxR n l ps k k).2]) w) := by
  have HL := Lib.hid hL
  have HF := Lib.hid hF
  have HPL := Lib.hid hk
  have ST := Lib.hid (fun t m h he => cx_stay (n := n) (l := l) (ps := ps) (k := k) (t := t) (m := m) h he)
  have SU := Lib.hid (show ∀ t, (cxR n l ps k t).2 = 0 → cxR n l ps k (t + 1) = (wiL (cxR n l ps k t).1 (gp ps t).1 (gp ps t).2 (Zo.At n l k t) (Zo.At n l t k), wiE (gp ps t).1 (gp ps t).2 (Zo.At n l k t) (Zo.At n l t k)) from fun t h => by
    show (if (cxR n l ps k t).2 = 0 then _ else cxR n l ps k t) = _
    rw [if_pos h])
  obtain ⟨w0, hw0⟩ : ∃ w0, w0 = w.alloc (.cells Dl.zero.cs 34) := ⟨_, rfl⟩
  have DR := Lib.hid (show Dbx w0 w.heap.size Dl.zero by rw [hw0]; exact Drow.made _ _)
  have E0 := Lib.hid (show Below w.heap.size w w0 by rw [hw0]; exact one_more _)
  have z0 : w0.heap.size = w.heap.size + 1 := by rw [hw0]; simp
  simp only [Dl.cs, Dl.zero] at hw0
  have HW0 := Lib.hid hw0
  have HM := Lib.hid hM
  have HP := Lib.hid hP
  have kb : k ≤ 10 := by omega
  have FZ := Lib.hid (show ∀ W, Calls Tryz.prog 27 #[] W (Made (.agg #[.int .i64 0, .int .i64 1, .int .i64 0, .int .i64 0, .bool false, .bool false, .bool true]) W) from fun W => fromzero_any W)
  clear hw0 hM hP hF hL hk
  go_enter Tryz.func39, Tryz.ntmps39
  go_upto_region 1 with (fail)
  rw [← HW0.out]
  go_wp2_with fail
  refine (FZ.out _).mono ?_
  rintro e w1 ⟨rfl, hb1⟩
  obtain ⟨w2, hw2⟩ : ∃ w2, w2 = w1.alloc (.cells Dl.one.cs 34) := ⟨_, rfl⟩
  have DX := Lib.hid (show WSt w2 w1.heap.size Dl.one w2 from ⟨by rw [hw2]; exact Drow.made _ _, World.grownBy.refl _ _⟩)
  have B2 := Lib.hid (show Below w0.heap.size w0 w2 by rw [hw2]; exact hb1.alloc hb1.size _)
  have hs1 := hb1.size
  have KE := Lib.hid (show ∀ x W, WSt w2 w1.heap.size x W → Below w0.heap.size w0 W from fun x W h => grown_over B2.out h.2 hs1)
  simp only [Dl.cs, Dl.one] at hw2
  have HW2 := Lib.hid hw2
  clear hb1 hw2
  go_upto_region 3 with (fail)
  rw [← HW2.out]
  go_wp2_with fail
  go_loopw [16] (fun s wr => ∃ t : Nat, t ≤ k ∧ s = .int .i64 t ∧ Hid ((cxR n l ps k t).2 = 0 ∧ WSt w2 w1.heap.size (cxR n l ps k t).1 wr)) (fun s _ => k - (intOf s).toNat)
  case atStart => exact ⟨0, by omega, rfl, Lib.hid ⟨rfl, DX.out⟩⟩
  case round =>
    obtain ⟨t, ht, rfl, HX⟩ := hrel
    by_cases htk : t < k
    case pos =>
      obtain ⟨n0, d0⟩ := (HP.out.on (below_on E0.out (KE.out _ _ HX.out.2))) t (by rw [HPL.out]; exact htk)
      obtain ⟨fn, fd⟩ := HF.out t (by rw [HPL.out]; exact htk)
      have D9 : decide ((t : Int) < (k : Int)) = true := by simp; omega
      have SU1 := Lib.hid (SU.out t HX.out.1)
      have hxo := cx_ok n l ps k t
      have WI := Lib.hid (fun W => within_gen (cxR n l ps k t).1 (gp ps t).1 (gp ps t).2 (Zo.At n l k t) (Zo.At n l t k) W hxo fn fd (HL.out k t hkn (by omega)) (HL.out t k (by omega) hkn))
      obtain ⟨y, hy⟩ : ∃ y, y = wiL (cxR n l ps k t).1 (gp ps t).1 (gp ps t).2 (Zo.At n l k t) (Zo.At n l t k) := ⟨_, rfl⟩
      obtain ⟨er, her⟩ : ∃ er, er = wiE (gp ps t).1 (gp ps t).2 (Zo.At n l k t) (Zo.At n l t k) := ⟨_, rfl⟩
      have HYZ := Lib.hid (show er ≠ 0 → y = Dl.zero from fun h => by rw [hy]; exact wi_zero (by rw [← her]; exact h))
      rw [← hy, ← her] at WI SU1
      unfold Dl.cs at WI
      have HX2 := Lib.hid HX.out.2
      generalize (cxR n l ps k t).1 = x at *
      have MR := Lib.hid (show ∀ W, WSt w2 w1.heap.size x W → Mx W b0 n l from fun W h => HM.out.of_block (((below_on E0.out (KE.out _ _ h)).block _ HM.out.lt)))
      obtain ⟨w3, hw3⟩ : ∃ w3, w3 = wr.alloc (.cells #[.int .i64 (gp ps t).1, .int .i64 (gp ps t).2] 32) := ⟨_, rfl⟩
      have S3 := Lib.hid (show WSt w2 w1.heap.size x w3 by rw [hw3]; exact HX2.out.on (one_more _))
      have P3 := Lib.hid (show Pair w3 wr.heap.size (gp ps t).1 (gp ps t).2 by rw [hw3]; exact Pair.made _ _ _ _)
      have HW3 := Lib.hid hw3
      generalize (gp ps t).1 = pn at *
      generalize (gp ps t).2 = pd at *
      have M3 := Lib.hid (MR.out _ S3.out)
      have R1 := Lib.hid (row_any b0 n k w3.drew hn hkn M3.out.drew.dim)
      have R2 := Lib.hid (row_any b0 n t w3.drew hn (by omega) M3.out.drew.dim)
      have i1 := Zo.ix_lt hkn (show t ≤ n by omega)
      have i2 := Zo.ix_lt (show t ≤ n by omega) hkn
      have e1 := Lib.hid (show ∀ W, Mx W b0 n l → W.cell? ⟨b0, 1 + k * (n + 1) + t, none⟩ = some (.int .i64 (Zo.At n l k t)) from fun W h => by rw [Nat.add_assoc]; exact h.at (by rw [h.2]; exact i1))
      have e2 := Lib.hid (show ∀ W, Mx W b0 n l → W.cell? ⟨b0, 1 + t * (n + 1) + k, none⟩ = some (.int .i64 (Zo.At n l t k)) from fun W h => by rw [Nat.add_assoc]; exact h.at (by rw [h.2]; exact i2))
      generalize Zo.At n l k t = mu at *
      generalize Zo.At n l t k = ml at *
      clear hy her hw3 i1 i2 hxo fn fd
      have hsz := HX2.out.2.size
      have hs2 : w2.heap.size = w1.heap.size + 1 := by rw [HW2.out]; simp
      have hbl := HM.out.lt
      have hew := E0.out.size
      have S3d := (show WSt w3 w1.heap.size x w3 from ⟨S3.out.1, World.grownBy.refl _ _⟩).on ((Below.refl _ _).drew)
      have KS := Lib.hid (show ∀ z W, WSt w3 w1.heap.size z W → ((W.cell? ⟨wr.heap.size, 0, none⟩ = some (.int .i64 pn) ∧ W.cell? ⟨wr.heap.size, 1, none⟩ = some (.int .i64 pd)) ∧ W.cell? ⟨b0, 1 + k * (n + 1) + t, none⟩ = some (.int .i64 mu) ∧ W.cell? ⟨b0, 1 + t * (n + 1) + k, none⟩ = some (.int .i64 ml)) from fun z W h =>
        ⟨⟨(P3.out.grown h.2 (by omega)).facts.1, (P3.out.grown h.2 (by omega)).facts.2.1⟩, e1.out _ (M3.out.kept h.2 (by simp; omega)), e2.out _ (M3.out.kept h.2 (by simp; omega))⟩)
      clear hs2 hsz hbl
      have t1 : (t : Int) < (n : Int) + 1 := by omega
      have t2 : (k : Int) < (n : Int) + 1 := by omega
      go_upto_region 6 with (fail)
      rw [← HW3.out]
      clear n0 d0
      go_cut [8] (fun s8 wx => s8 = .int .i64 er ∧ Hid (WSt w2 w1.heap.size y wx))
      case first =>
        obtain ⟨q0, q1, q2, q3, q4, q5, q6⟩ := S3d.1.facts
        refine wp_region_held_drew (S := (fun w' => (w'.cell? ⟨wr.heap.size, 0, none⟩ = some (.int .i64 pn) ∧ w'.cell? ⟨wr.heap.size, 1, none⟩ = some (.int .i64 pd)) ∧ w'.cell? ⟨b0, 1 + k * (n + 1) + t, none⟩ = some (.int .i64 mu) ∧ w'.cell? ⟨b0, 1 + t * (n + 1) + k, none⟩ = some (.int .i64 ml))) (by kernel_rfl) (KS.out _ _ S3d) (fun h0 => ?_)
        refine wpAnyH_take (i := 1) (v := ?v1) rfl (by kernel_rfl) (by kernel_rfl) (by kernel_rfl) (fun _ _ _ h => h) (Or.inl ⟨by rfl, ?hy1⟩) h0 ?rest1
        case hy1 => (intro w' hS; (try dsimp only at hS); go_simp; try (with_reducible rfl))
        simp only [Act.put, List.getElem_toArray, List.getElem_cons_zero, List.getElem_cons_succ, List.setIfInBounds_toArray, List.set_cons_zero, List.set_cons_succ]
        refine wpAnyH_take (i := 2) (v := ?v2) rfl (by kernel_rfl) (by kernel_rfl) (by kernel_rfl) (fun _ _ _ h => h) (Or.inl ⟨by rfl, ?hy2⟩) h0 ?rest2
        case hy2 => (intro w' hS; (try dsimp only at hS); go_simp; try (with_reducible rfl))
        simp only [Act.put, List.getElem_toArray, List.getElem_cons_zero, List.getElem_cons_succ, List.setIfInBounds_toArray, List.set_cons_zero, List.set_cons_succ]
        refine wpAnyH_take (i := 3) (v := ?v3) rfl (by kernel_rfl) (by kernel_rfl) (by kernel_rfl) (fun _ _ _ h => h) (Or.inl ⟨by rfl, ?hy3⟩) h0 ?rest3
        case hy3 => (intro w' hS; (try dsimp only at hS); go_simp; try (with_reducible rfl))
        simp only [Act.put, List.getElem_toArray, List.getElem_cons_zero, List.getElem_cons_succ, List.setIfInBounds_toArray, List.set_cons_zero, List.set_cons_succ]
        refine wpAnyH_take (i := 5) (v := ?v4) rfl (by kernel_rfl) (by kernel_rfl) (by kernel_rfl) (fun _ _ _ h => h) (Or.inl ⟨by rfl, ?hy4⟩) h0 ?rest4
        case hy4 => (intro w' hS; (try dsimp only at hS); go_simp; try (with_reducible rfl))
        simp only [Act.put, List.getElem_toArray, List.getElem_cons_zero, List.getElem_cons_succ, List.setIfInBounds_toArray, List.set_cons_zero, List.set_cons_succ]
        refine wpAnyH_take (i := 8) (v := ?v5) rfl (by kernel_rfl) (by kernel_rfl) (by kernel_rfl) (fun _ _ _ h => h) (Or.inl ⟨by rfl, ?hy5⟩) h0 ?rest5
        case hy5 => (intro w' hS; (try dsimp only at hS); go_simp; try (with_reducible rfl))
        simp only [Act.put, List.getElem_toArray, List.getElem_cons_zero, List.getElem_cons_succ, List.setIfInBounds_toArray, List.set_cons_zero, List.set_cons_succ]
        refine wpAnyH_take (i := 9) (v := ?v6) rfl (by kernel_rfl) (by kernel_rfl) (by kernel_rfl) (fun _ _ _ h => h) (Or.inl ⟨by rfl, ?hy6⟩) h0 ?rest6
        case hy6 => (intro w' hS; (try dsimp only at hS); go_simp; try (with_reducible rfl))
        simp only [Act.put, List.getElem_toArray, List.getElem_cons_zero, List.getElem_cons_succ, List.setIfInBounds_toArray, List.set_cons_zero, List.set_cons_succ]
        refine wpAnyH_take (i := 11) (v := ?v7) rfl (by kernel_rfl) (by kernel_rfl) (by kernel_rfl) (fun _ _ _ h => h) (Or.inl ⟨by rfl, ?hy7⟩) h0 ?rest7
        case hy7 => (intro w' hS; (try dsimp only at hS); go_simp; try (with_reducible rfl))
        simp only [Act.put, List.getElem_toArray, List.getElem_cons_zero, List.getElem_cons_succ, List.setIfInBounds_toArray, List.set_cons_zero, List.set_cons_succ]
        refine wpAnyH_ready (rs := [0, 4]) (by kernel_rfl) (by simp) (AllReadyH.cons rfl (fun K hK => ?_) (AllReadyH.cons rfl (fun K hK => ?_) AllReadyH.nil))
        · rw [if_pos (by rfl)]
          go_simp
          refine hK.out _ _ (KS.out _ _ S3d) (fun h0_1 => ?_)
          clear hK K h0
          refine wpAnyH_ready (rs := [4]) (by kernel_rfl) (by simp) (AllReadyH.cons rfl (fun K hK => ?_) AllReadyH.nil)
          rw [if_pos (by rfl)]
          go_simp
          refine (R1.out).mono ?_
          rintro e wa ⟨rfl, hwa⟩
          rw [hwa]; clear hwa wa
          go_simp
          refine hK.out _ _ (KS.out _ _ S3d) (fun h0_2 => ?_)
          clear hK K h0_1
          refine wpAnyH_take (i := 6) (v := ?v8) rfl (by kernel_rfl) (by kernel_rfl) (by kernel_rfl) (fun _ _ _ h => h) (Or.inl ⟨by rfl, ?hy8⟩) h0_2 ?rest8
          case hy8 => (intro w' hS; (try dsimp only at hS); go_simp; try (with_reducible rfl))
          simp only [Act.put, List.getElem_toArray, List.getElem_cons_zero, List.getElem_cons_succ, List.setIfInBounds_toArray, List.set_cons_zero, List.set_cons_succ]
          refine wpAnyH_take (i := 7) (v := ?v9) rfl (by kernel_rfl) (by kernel_rfl) (by kernel_rfl) (fun _ _ _ h => h) (Or.inl ⟨by rfl, ?hy9⟩) h0_2 ?rest9
          case hy9 => (intro w' hS; (try dsimp only at hS); go_simp; try (with_reducible rfl))
          simp only [Act.put, List.getElem_toArray, List.getElem_cons_zero, List.getElem_cons_succ, List.setIfInBounds_toArray, List.set_cons_zero, List.set_cons_succ]
          refine wpAnyH_ready (rs := [10]) (by kernel_rfl) (by simp) (AllReadyH.cons rfl (fun K hK => ?_) AllReadyH.nil)
          rw [if_pos (by rfl)]
          go_simp
          refine (R2.out).mono ?_
          rintro e wa ⟨rfl, hwa⟩
          rw [hwa]; clear hwa wa
          go_simp
          refine hK.out _ _ (KS.out _ _ S3d) (fun h0_3 => ?_)
          clear hK K h0_2
          refine wpAnyH_take (i := 12) (v := ?v10) rfl (by kernel_rfl) (by kernel_rfl) (by kernel_rfl) (fun _ _ _ h => h) (Or.inl ⟨by rfl, ?hy10⟩) h0_3 ?rest10
          case hy10 => (intro w' hS; (try dsimp only at hS); go_simp; try (with_reducible rfl))
          simp only [Act.put, List.getElem_toArray, List.getElem_cons_zero, List.getElem_cons_succ, List.setIfInBounds_toArray, List.set_cons_zero, List.set_cons_succ]
          refine wpAnyH_take (i := 13) (v := ?v11) rfl (by kernel_rfl) (by kernel_rfl) (by kernel_rfl) (fun _ _ _ h => h) (Or.inl ⟨by rfl, ?hy11⟩) h0_3 ?rest11
          case hy11 => (intro w' hS; (try dsimp only at hS); go_simp; try (with_reducible rfl))
          simp only [Act.put, List.getElem_toArray, List.getElem_cons_zero, List.getElem_cons_succ, List.setIfInBounds_toArray, List.set_cons_zero, List.set_cons_succ]
          refine wpAnyH_ready (rs := [14]) (by kernel_rfl) (by simp) (AllReadyH.cons rfl (fun K hK => ?_) AllReadyH.nil)
          rw [if_pos (by rfl)]
          go_simp
          refine (WI.out _).mono ?_
          rintro e w4 ⟨rfl, hb4⟩
          have S4 := S3d.on hb4
          clear hb4
          go_simp
          refine hK.out _ _ (KS.out _ _ S4) (fun h0_4 => ?_)
          clear hK K h0_3
          have g := S4.1.frees
          have g' := S4.1.facts
          obtain ⟨g0, g1, g2, g3, g4, g5, g6⟩ := g
          obtain ⟨h0, h1, h2, h3, h4, h5, h6⟩ := g'
          refine wpAnyH_take (i := 15) (v := ?v12) rfl (by kernel_rfl) (by kernel_rfl) (by kernel_rfl) (fun _ _ _ h => h) (Or.inl ⟨by rfl, ?hy12⟩) h0_4 ?rest12
          case hy12 => (intro w' hS; (try dsimp only at hS); go_simp; try (with_reducible rfl))
          simp only [Act.put, List.getElem_toArray, List.getElem_cons_zero, List.getElem_cons_succ, List.setIfInBounds_toArray, List.set_cons_zero, List.set_cons_succ]
          refine wpAnyH_take (i := 16) (v := ?v13) rfl (by kernel_rfl) (by kernel_rfl) (by kernel_rfl) (fun _ _ _ h => h) (Or.inl ⟨by rfl, ?hy13⟩) h0_4 ?rest13
          case hy13 => (intro w' hS; (try dsimp only at hS); go_simp; try (with_reducible rfl))
          simp only [Act.put, List.getElem_toArray, List.getElem_cons_zero, List.getElem_cons_succ, List.setIfInBounds_toArray, List.set_cons_zero, List.set_cons_succ]
          refine wpAnyH_take (i := 17) (v := ?v14) rfl (by kernel_rfl) (by kernel_rfl) (by kernel_rfl) (fun _ _ _ h => h) (Or.inl ⟨by rfl, ?hy14⟩) h0_4 ?rest14
          case hy14 => (intro w' hS; (try dsimp only at hS); go_simp; try (with_reducible rfl))
          simp only [Act.put, List.getElem_toArray, List.getElem_cons_zero, List.getElem_cons_succ, List.setIfInBounds_toArray, List.set_cons_zero, List.set_cons_succ]
          refine wpAnyH_ready (rs := [18]) (by kernel_rfl) (by simp) (AllReadyH.cons rfl (fun K hK => ?_) AllReadyH.nil)
          rw [if_pos (by rfl)]
          go_simp
          refine hK.out _ _ (KS.out _ _ (S4.all y)) (fun h0_5 => ?_)
          clear hK K h0_4
          refine wpAnyH_take (i := 19) (v := ?v15) rfl (by kernel_rfl) (by kernel_rfl) (by kernel_rfl) (fun _ _ _ h => h) (Or.inl ⟨by rfl, ?hy15⟩) h0_5 ?rest15
          case hy15 => (intro w' hS; (try dsimp only at hS); go_simp; try (with_reducible rfl))
          simp only [Act.put, List.getElem_toArray, List.getElem_cons_zero, List.getElem_cons_succ, List.setIfInBounds_toArray, List.set_cons_zero, List.set_cons_succ]
          refine wpAnyH_done (by kernel_rfl) ?_ _
          go_wp2_with fail
          go_meet
          case rel => exact ⟨rfl, Lib.hid ⟨(S4.all y).1, grown_trans S3.out.2 (S4.all y).2⟩⟩
        · rw [if_pos (by rfl)]
          go_simp
          refine (R1.out).mono ?_
          rintro e wa ⟨rfl, hwa⟩
          rw [hwa]; clear hwa wa
          go_simp
          refine hK.out _ _ (KS.out _ _ S3d) (fun h0_1 => ?_)
          clear hK K h0
          refine wpAnyH_take (i := 6) (v := ?v16) rfl (by kernel_rfl) (by kernel_rfl) (by kernel_rfl) (fun _ _ _ h => h) (Or.inl ⟨by rfl, ?hy16⟩) h0_1 ?rest16
          case hy16 => (intro w' hS; (try dsimp only at hS); go_simp; try (with_reducible rfl))
          simp only [Act.put, List.getElem_toArray, List.getElem_cons_zero, List.getElem_cons_succ, List.setIfInBounds_toArray, List.set_cons_zero, List.set_cons_succ]
          refine wpAnyH_take (i := 7) (v := ?v17) rfl (by kernel_rfl) (by kernel_rfl) (by kernel_rfl) (fun _ _ _ h => h) (Or.inl ⟨by rfl, ?hy17⟩) h0_1 ?rest17
          case hy17 => (intro w' hS; (try dsimp only at hS); go_simp; try (with_reducible rfl))
          simp only [Act.put, List.getElem_toArray, List.getElem_cons_zero, List.getElem_cons_succ, List.setIfInBounds_toArray, List.set_cons_zero, List.set_cons_succ]
          refine wpAnyH_ready (rs := [0, 10]) (by kernel_rfl) (by simp) (AllReadyH.cons rfl (fun K hK => ?_) (AllReadyH.cons rfl (fun K hK => ?_) AllReadyH.nil))
          · rw [if_pos (by rfl)]
            go_simp
            refine hK.out _ _ (KS.out _ _ S3d) (fun h0_6 => ?_)
            clear hK K h0_1
            refine wpAnyH_ready (rs := [10]) (by kernel_rfl) (by simp) (AllReadyH.cons rfl (fun K hK => ?_) AllReadyH.nil)
            rw [if_pos (by rfl)]
            go_simp
            refine (R2.out).mono ?_
            rintro e wa ⟨rfl, hwa⟩
            rw [hwa]; clear hwa wa
            go_simp
            refine hK.out _ _ (KS.out _ _ S3d) (fun h0_7 => ?_)
            clear hK K h0_6
            refine wpAnyH_take (i := 12) (v := ?v18) rfl (by kernel_rfl) (by kernel_rfl) (by kernel_rfl) (fun _ _ _ h => h) (Or.inl ⟨by rfl, ?hy18⟩) h0_7 ?rest18
            case hy18 => (intro w' hS; (try dsimp only at hS); go_simp; try (with_reducible rfl))
            simp only [Act.put, List.getElem_toArray, List.getElem_cons_zero, List.getElem_cons_succ, List.setIfInBounds_toArray, List.set_cons_zero, List.set_cons_succ]
            refine wpAnyH_take (i := 13) (v := ?v19) rfl (by kernel_rfl) (by kernel_rfl) (by kernel_rfl) (fun _ _ _ h => h) (Or.inl ⟨by rfl, ?hy19⟩) h0_7 ?rest19
            case hy19 => (intro w' hS; (try dsimp only at hS); go_simp; try (with_reducible rfl))
            simp only [Act.put, List.getElem_toArray, List.getElem_cons_zero, List.getElem_cons_succ, List.setIfInBounds_toArray, List.set_cons_zero, List.set_cons_succ]
            refine wpAnyH_ready (rs := [14]) (by kernel_rfl) (by simp) (AllReadyH.cons rfl (fun K hK => ?_) AllReadyH.nil)
            rw [if_pos (by rfl)]
            go_simp
            refine (WI.out _).mono ?_
            rintro e w4 ⟨rfl, hb4⟩
            have S4 := S3d.on hb4
            clear hb4
            go_simp
            refine hK.out _ _ (KS.out _ _ S4) (fun h0_8 => ?_)
            clear hK K h0_7
            have g := S4.1.frees
            have g' := S4.1.facts
            obtain ⟨g0, g1, g2, g3, g4, g5, g6⟩ := g
            obtain ⟨h0, h1, h2, h3, h4, h5, h6⟩ := g'
            refine wpAnyH_take (i := 15) (v := ?v20) rfl (by kernel_rfl) (by kernel_rfl) (by kernel_rfl) (fun _ _ _ h => h) (Or.inl ⟨by rfl, ?hy20⟩) h0_8 ?rest20
            case hy20 => (intro w' hS; (try dsimp only at hS); go_simp; try (with_reducible rfl))
            simp only [Act.put, List.getElem_toArray, List.getElem_cons_zero, List.getElem_cons_succ, List.setIfInBounds_toArray, List.set_cons_zero, List.set_cons_succ]
            refine wpAnyH_take (i := 16) (v := ?v21) rfl (by kernel_rfl) (by kernel_rfl) (by kernel_rfl) (fun _ _ _ h => h) (Or.inl ⟨by rfl, ?hy21⟩) h0_8 ?rest21
            case hy21 => (intro w' hS; (try dsimp only at hS); go_simp; try (with_reducible rfl))
            simp only [Act.put, List.getElem_toArray, List.getElem_cons_zero, List.getElem_cons_succ, List.setIfInBounds_toArray, List.set_cons_zero, List.set_cons_succ]
            refine wpAnyH_take (i := 17) (v := ?v22) rfl (by kernel_rfl) (by kernel_rfl) (by kernel_rfl) (fun _ _ _ h => h) (Or.inl ⟨by rfl, ?hy22⟩) h0_8 ?rest22
            case hy22 => (intro w' hS; (try dsimp only at hS); go_simp; try (with_reducible rfl))
            simp only [Act.put, List.getElem_toArray, List.getElem_cons_zero, List.getElem_cons_succ, List.setIfInBounds_toArray, List.set_cons_zero, List.set_cons_succ]
            refine wpAnyH_ready (rs := [18]) (by kernel_rfl) (by simp) (AllReadyH.cons rfl (fun K hK => ?_) AllReadyH.nil)
            rw [if_pos (by rfl)]
            go_simp
            refine hK.out _ _ (KS.out _ _ (S4.all y)) (fun h0_9 => ?_)
            clear hK K h0_8
            refine wpAnyH_take (i := 19) (v := ?v23) rfl (by kernel_rfl) (by kernel_rfl) (by kernel_rfl) (fun _ _ _ h => h) (Or.inl ⟨by rfl, ?hy23⟩) h0_9 ?rest23
            case hy23 => (intro w' hS; (try dsimp only at hS); go_simp; try (with_reducible rfl))
            simp only [Act.put, List.getElem_toArray, List.getElem_cons_zero, List.getElem_cons_succ, List.setIfInBounds_toArray, List.set_cons_zero, List.set_cons_succ]
            refine wpAnyH_done (by kernel_rfl) ?_ _
            go_wp2_with fail
            go_meet
            case rel => exact ⟨rfl, Lib.hid ⟨(S4.all y).1, grown_trans S3.out.2 (S4.all y).2⟩⟩
          · rw [if_pos (by rfl)]
            go_simp
            refine (R2.out).mono ?_
            rintro e wa ⟨rfl, hwa⟩
            rw [hwa]; clear hwa wa
            go_simp
            refine hK.out _ _ (KS.out _ _ S3d) (fun h0_6 => ?_)
            clear hK K h0_1
            refine wpAnyH_take (i := 12) (v := ?v24) rfl (by kernel_rfl) (by kernel_rfl) (by kernel_rfl) (fun _ _ _ h => h) (Or.inl ⟨by rfl, ?hy24⟩) h0_6 ?rest24
            case hy24 => (intro w' hS; (try dsimp only at hS); go_simp; try (with_reducible rfl))
            simp only [Act.put, List.getElem_toArray, List.getElem_cons_zero, List.getElem_cons_succ, List.setIfInBounds_toArray, List.set_cons_zero, List.set_cons_succ]
            refine wpAnyH_take (i := 13) (v := ?v25) rfl (by kernel_rfl) (by kernel_rfl) (by kernel_rfl) (fun _ _ _ h => h) (Or.inl ⟨by rfl, ?hy25⟩) h0_6 ?rest25
            case hy25 => (intro w' hS; (try dsimp only at hS); go_simp; try (with_reducible rfl))
            simp only [Act.put, List.getElem_toArray, List.getElem_cons_zero, List.getElem_cons_succ, List.setIfInBounds_toArray, List.set_cons_zero, List.set_cons_succ]
            refine wpAnyH_ready (rs := [0]) (by kernel_rfl) (by simp) (AllReadyH.cons rfl (fun K hK => ?_) AllReadyH.nil)
            rw [if_pos (by rfl)]
            go_simp
            refine hK.out _ _ (KS.out _ _ S3d) (fun h0_10 => ?_)
            clear hK K h0_6
            refine wpAnyH_ready (rs := [14]) (by kernel_rfl) (by simp) (AllReadyH.cons rfl (fun K hK => ?_) AllReadyH.nil)
            rw [if_pos (by rfl)]
            go_simp
            refine (WI.out _).mono ?_
            rintro e w4 ⟨rfl, hb4⟩
            have S4 := S3d.on hb4
            clear hb4
            go_simp
            refine hK.out _ _ (KS.out _ _ S4) (fun h0_11 => ?_)
            clear hK K h0_10
            have g := S4.1.frees
            have g' := S4.1.facts
            obtain ⟨g0, g1, g2, g3, g4, g5, g6⟩ := g
            obtain ⟨h0, h1, h2, h3, h4, h5, h6⟩ := g'
            refine wpAnyH_take (i := 15) (v := ?v26) rfl (by kernel_rfl) (by kernel_rfl) (by kernel_rfl) (fun _ _ _ h => h) (Or.inl ⟨by rfl, ?hy26⟩) h0_11 ?rest26
            case hy26 => (intro w' hS; (try dsimp only at hS); go_simp; try (with_reducible rfl))
            simp only [Act.put, List.getElem_toArray, List.getElem_cons_zero, List.getElem_cons_succ, List.setIfInBounds_toArray, List.set_cons_zero, List.set_cons_succ]
            refine wpAnyH_take (i := 16) (v := ?v27) rfl (by kernel_rfl) (by kernel_rfl) (by kernel_rfl) (fun _ _ _ h => h) (Or.inl ⟨by rfl, ?hy27⟩) h0_11 ?rest27
            case hy27 => (intro w' hS; (try dsimp only at hS); go_simp; try (with_reducible rfl))
            simp only [Act.put, List.getElem_toArray, List.getElem_cons_zero, List.getElem_cons_succ, List.setIfInBounds_toArray, List.set_cons_zero, List.set_cons_succ]
            refine wpAnyH_take (i := 17) (v := ?v28) rfl (by kernel_rfl) (by kernel_rfl) (by kernel_rfl) (fun _ _ _ h => h) (Or.inl ⟨by rfl, ?hy28⟩) h0_11 ?rest28
            case hy28 => (intro w' hS; (try dsimp only at hS); go_simp; try (with_reducible rfl))
            simp only [Act.put, List.getElem_toArray, List.getElem_cons_zero, List.getElem_cons_succ, List.setIfInBounds_toArray, List.set_cons_zero, List.set_cons_succ]
            refine wpAnyH_ready (rs := [18]) (by kernel_rfl) (by simp) (AllReadyH.cons rfl (fun K hK => ?_) AllReadyH.nil)
            rw [if_pos (by rfl)]
            go_simp
            refine hK.out _ _ (KS.out _ _ (S4.all y)) (fun h0_12 => ?_)
            clear hK K h0_11
            refine wpAnyH_take (i := 19) (v := ?v29) rfl (by kernel_rfl) (by kernel_rfl) (by kernel_rfl) (fun _ _ _ h => h) (Or.inl ⟨by rfl, ?hy29⟩) h0_12 ?rest29
            case hy29 => (intro w' hS; (try dsimp only at hS); go_simp; try (with_reducible rfl))
            simp only [Act.put, List.getElem_toArray, List.getElem_cons_zero, List.getElem_cons_succ, List.setIfInBounds_toArray, List.set_cons_zero, List.set_cons_succ]
            refine wpAnyH_done (by kernel_rfl) ?_ _
            go_wp2_with fail
            go_meet
            case rel => exact ⟨rfl, Lib.hid ⟨(S4.all y).1, grown_trans S3.out.2 (S4.all y).2⟩⟩
      case rest =>
        obtain ⟨rfl, HC⟩ := hcut
        clear S3d
        by_cases he : er = 0
        case pos =>
          have HN := Lib.hid (show (cxR n l ps k (t + 1)).2 = 0 ∧ WSt w2 w1.heap.size (cxR n l ps k (t + 1)).1 wc from by
            rw [SU1.out]; exact ⟨he, HC.out⟩)
          subst he
          go_wp2_with fail
          go_roundw
          case rel => exact ⟨t + 1, by omega, by go_num, HN⟩
          case measure => simp [intOf]; omega
        case neg =>
          have DE : (er != 0) = true := by simpa using he
          have HN := Lib.hid (show (cxR n l ps k k) = (Dl.zero, er) from by
            have h1 : (cxR n l ps k (t + 1)).2 ≠ 0 := by rw [SU1.out]; exact he
            rw [ST.out (t + 1) k (by omega) h1, SU1.out, HYZ.out he])
          clear he
          obtain ⟨r0, r1, r2, r3, r4, r5, r6⟩ := (DR.out.kept (KE.out _ _ HC.out)).facts
          obtain ⟨f0, f1, f2, f3, f4, f5, f6⟩ := (DR.out.kept (KE.out _ _ HC.out)).frees
          go_wp2_with fail
          rw [HN.out]
          refine bodyPost_ret (v := .tuple #[.agg Dl.zero.cs, .int .i64 er]) (by simp [results, Tryz.results39, go_sem, Dl.cs, Dl.zero, r0, r1, r2, r3, r4, r5, r6]) rfl ⟨rfl, ?_⟩
          exact below_seven (below_on E0.out (KE.out _ _ HC.out)) (Nat.le_refl _) _ _ _ _ _ _ _
    case neg =>
      obtain rfl : t = k := by omega
      have D9 : decide ((t : Int) < (t : Int)) = false := by simp
      obtain ⟨y, hy⟩ : ∃ y, y = cxR n l ps t t := ⟨_, rfl⟩
      have HX3 := Lib.hid (show y.2 = 0 ∧ WSt w2 w1.heap.size y.1 wr by rw [hy]; exact HX.out)
      have HY := Lib.hid hy
      clear hy
      obtain ⟨⟨yln, yld, yhn, yhd, ylo, yho, ynh⟩, ye⟩ := y
      obtain rfl : ye = 0 := HX3.out.1
      obtain ⟨q0, q1, q2, q3, q4, q5, q6⟩ := HX3.out.2.1.facts
      obtain ⟨r0, r1, r2, r3, r4, r5, r6⟩ := (DR.out.kept (KE.out _ _ HX3.out.2)).facts
      obtain ⟨f0, f1, f2, f3, f4, f5, f6⟩ := (DR.out.kept (KE.out _ _ HX3.out.2)).frees
      simp only at q0 q1 q2 q3 q4 q5 q6
      go_wp2_with fail
      refine bodyPost_ret (v := .tuple #[.agg #[.int .i64 yln, .int .i64 yld, .int .i64 yhn, .int .i64 yhd, .bool ylo, .bool yho, .bool ynh], .int .i64 0]) (by simp [results, Tryz.results39, go_sem, r0, r1, r2, r3, r4, r5, r6]) rfl ⟨by rw [← HY.out]; rfl, ?_⟩
      exact below_seven (below_on E0.out (KE.out _ _ HX3.out.2)) (Nat.le_refl _) _ _ _ _ _ _ _
end Go.Proofs.YtbnebinpemejlaaGreat

namespace Go.Proofs.YtbnebinpemejlaaGreat
open Go.RowKit

theorem mx_info : (Tryz.prog.info? 54).map (fun i => (i.zero, i.size)) = some (some (.agg (mcs 0 [])), 122) := by kernel_rfl

theorem mx_zero (w : World) : (zeroValue 54).run Tryz.prog w = .ok (.agg (mcs 0 [])) w := (zero_of_info mx_info).1 w

theorem mx_size : (Tryz.prog.info? 54).map (·.size) = some 122 := (zero_of_info mx_info).2

theorem mcs_size {n : Nat} {l : List Int} (hl : l.length ≤ 121) : (mcs n l).size = 122 := by
  simp [mcs, pad]; omega

theorem mcs_one (n : Nat) (l : List Int) : (mcs n l).all (·.oneCell') = true := by
  rw [Array.all_eq_true_iff_forall_mem]
  intro v hv
  simp [mcs] at hv
  rcases hv with rfl | ⟨x, _, rfl⟩ <;> rfl

theorem mx_build0 (w : World) : (Instr.build 54 #[]).run Tryz.prog w = .ok (.agg (mcs 0 [])) w := run_build w _ _ _ (by kernel_rfl)

theorem mx_load {w : World} {b : Nat} {cs : Array Value} (h : w.heap[b]? = some (.cells cs 54 (0, 0))) (hs : cs.size = 122) : (loadVar 54 ⟨b, 0, none⟩).run Tryz.prog w = .ok (.agg cs) w :=
  run_loadVar_row w b _ _ cs (0, 0) _ h Tryz.underlying54 rfl (by rw [hs]; exact mx_size)

theorem mx_loadAt {w : World} {b : Nat} {cs : Array Value} (h : w.heap[b]? = some (.cells cs 54 (0, 0))) (hs : cs.size = 122) : (Instr.loadAt 54 (.pointer (some ⟨b, 0, none⟩))).run Tryz.prog w = .ok (.agg cs) w := by
  simp only [Instr.loadAt, Instr.sureAddr, Sem.run_bind, Sem.run_pure, Result.andThen_ok, mx_load h hs]

theorem mx_store {w : World} {b : Nat} {old cs : Array Value} (h : w.heap[b]? = some (.cells old 54 (0, 0))) (ho : old.size = 122) (hs : cs.size = 122) (h1 : cs.all (·.oneCell') = true) :
    (Instr.storeAt 54 (.pointer (some ⟨b, 0, none⟩)) (.agg cs)).run Tryz.prog w = .ok () (w.setRow b cs) := by
  simp only [Instr.storeAt, Instr.sureAddr, Sem.run_bind, Sem.run_pure, Result.andThen_ok]
  exact run_storeVar_row w b _ _ old cs h (by rw [hs]; exact mx_size) (by rw [ho, hs]) h1

theorem mx_storeC {w : World} {b : Nat} {old cs : Array Value} (h : w.heap[b]? = some (.cells old 54 (0, 0))) (ho : old.size = 122) (hs : cs.size = 122) (h1 : cs.all (·.oneCell') = true) :
    (storeCells ⟨b, 0, none⟩ cs.toList).run Tryz.prog w = .ok () (w.setRow b cs) := by
  have := mx_store h ho hs h1
  simp only [Instr.storeAt, Instr.sureAddr, Sem.run_bind, Sem.run_pure, Result.andThen_ok] at this
  cases hq : Tryz.prog.info? 54 with
  | none => have := mx_size; simp [hq] at this
  | some i =>
    have hi := mx_size
    rw [hq] at hi
    have hs' : cs.size = i.size := by simp at hi; omega
    simpa [storeVar, sizeOf, typeInfo, hq, Value.cells, hs'] using this

theorem mx_loadC {w : World} {b : Nat} {cs : Array Value} (h : w.heap[b]? = some (.cells cs 54 (0, 0))) (hs : cs.size = 122) :
    (loadCellsFrom ⟨b, 0, none⟩ 0 122 #[]).run Tryz.prog w = .ok cs w := by
  have := run_loadCells_list (P := Tryz.prog) w ⟨b, 0, none⟩ cs.toList (fun j v hv => by
    rw [addr_add, cell_of_row _ _ j cs _ _ h]
    simpa using hv)
  rw [show cs.toList.length = 122 by simpa using hs] at this
  simpa [loadCells] using this

/-- Block b is a variable for a matrix. -/
def Var (w : World) (b : Nat) (cs : Array Value) : Prop := w.heap[b]? = some (.cells cs 54 (0, 0)) ∧ cs.size = 122

theorem Var.made (w : World) : Var (w.alloc (.cells (mcs 0 []) 54)) w.heap.size (mcs 0 []) := ⟨heap_alloc_last w _, mcs_size (by simp)⟩

theorem Var.lt {w : World} {b : Nat} {cs : Array Value} (h : Var w b cs) : b < w.heap.size := by
  by_cases e : b < w.heap.size
  · exact e
  · have := h.1; rw [Array.getElem?_eq_none (by omega)] at this; cases this

theorem Var.kept {w w' : World} {b : Nat} {cs : Array Value} (h : Var w b cs) (hb : Below w.heap.size w w') : Var w' b cs := ⟨(hb.block b h.lt).trans h.1, h.2⟩

theorem Var.put {w : World} {b : Nat} {old : Array Value} (h : Var w b old) (cs : Array Value) (hs : cs.size = 122) : Var (w.setRow b cs) b cs := ⟨setRow_heap w b old _ _ _ h.1, hs⟩

theorem Below.setRow {B : Nat} {w w' : World} (h : Below B w w') {b : Nat} (hle : B ≤ b) (cs : Array Value) : Below B w (w'.setRow b cs) :=
  ⟨h.os, h.tape, h.output, by simpa using h.size, fun k hk => (setRow_other w' b k cs (by omega)).trans (h.block k hk)⟩

theorem wpl_load {ops : Array Oper} {rest : List Oper} {o : Oper} {a : Act} {w : World} {Q : Exit → Act → World → Prop} (hgd : o.guard = none) (x : Operand) (ho : o.op = .load 54 x)
    (b : Nat) (hx : a.eval x = .pointer (some ⟨b, 0, none⟩)) (cs : Array Value) (hv : Var w b cs) (h : wpList Tryz.prog ops Q rest (a.put o.dst (.agg cs)) w) : wpList Tryz.prog ops Q (o :: rest) a w :=
  wpList_load_row hgd _ x ho b hx _ cs (0, 0) _ hv.1 Tryz.underlying54 rfl (by rw [hv.2]; exact mx_size) h

theorem wpl_store {ops : Array Oper} {rest : List Oper} {o : Oper} {a : Act} {w : World} {Q : Exit → Act → World → Prop} (hgd : o.guard = none) (x y : Operand) (ho : o.op = .store 54 x y)
    (b : Nat) (cs : Array Value) (hx : a.eval x = .pointer (some ⟨b, 0, none⟩)) (hy : a.eval y = .agg cs) (old : Array Value) (hv : Var w b old) (hs : cs.size = 122) (h1 : cs.all (·.oneCell') = true)
    (h : wpList Tryz.prog ops Q rest (a.put o.dst undef) (w.setRow b cs)) : wpList Tryz.prog ops Q (o :: rest) a w :=
  wpList_store_row hgd _ x y ho b cs hx hy _ old hv.1 (by rw [hs]; exact mx_size) (by rw [hv.2, hs]) h1 h

theorem results_mx {fn : Func} {p t : Tmp} (h : fn.results = #[.cell p 54, .tmp t]) (tmps : Array Value) {w : World} {b : Nat} {cs : Array Value} {v : Value}
    (hp : tmps.getD p undef = .pointer (some ⟨b, 0, none⟩)) (ht : tmps.getD t undef = v) (hv : Var w b cs) : (results fn tmps).run Tryz.prog w = .ok (.tuple #[.agg cs, v]) w := by
  have hp' : tmps[p]?.getD undef = .pointer (some ⟨b, 0, none⟩) := by simpa using hp
  have ht' : tmps[t]?.getD undef = v := by simpa using ht
  simp [results, h, hp', ht', asAddr, mx_load hv.1 hv.2]

set_option maxRecDepth 100000 in
set_option maxHeartbeats 4000000 in
theorem read_bad1 (N : Int) (l : List Int) (ao : Option Addr) (cap : Nat) (w : World) (hd : dimB N = false) :
    Calls Tryz.prog 72 #[.int .i64 N, .slice ao l.length cap] w (fun e w' => e = .returned (.tuple #[.agg (mcs 0 []), .bool false]) ∧ Below w.heap.size w w') := by
  have hz := mx_zero
  have h0 := mx_build0
  have PD := fun W => isDimension_any N W
  rw [hd] at PD
  have HD := Lib.hid PD
  have V0 := Var.made w
  have HV := Lib.hid V0
  have E0 := Lib.hid (one_more (w1 := w) (.cells (mcs 0 []) 54))
  have hs0 := mx_storeC V0.1 V0.2 (mcs_size (n := 0) (l := []) (by simp)) (mcs_one _ _)
  generalize l.length = len at *
  clear hd PD V0
  go_enter Tryz.func72, Tryz.ntmps72
  go_wp2_with fail
  refine (HD.out _).mono ?_
  rintro e w1 ⟨rfl, rfl⟩
  go_wp2_with fail
  refine bodyPost_ret (results_mx Tryz.results72 _ rfl rfl (HV.out.put (mcs 0 []) (mcs_size (by simp)))) rfl ⟨rfl, ?_⟩
  exact Below.setRow E0.out (Nat.le_refl _) _

/-- Which arguments of read are a matrix of a dimension. -/
def rdB (N : Int) (l : List Int) : Bool := dimB N && decide (l.length = (N.toNat + 1) * (N.toNat + 1)) && l.all lvB

def rdL (l : List Int) : Bool := l.all lvB

def rdV (n : Nat) (l : List Int) : Array Value := if rdL l then mcs n l else mcs 0 []

set_option maxRecDepth 100000 in
set_option maxHeartbeats 4000000 in
theorem read_bad2 (n : Nat) (l : List Int) (ao : Option Addr) (cap : Nat) (w : World) (hn : n ≤ 10) (hne : l.length ≠ (n + 1) * (n + 1)) :
    Calls Tryz.prog 72 #[.int .i64 n, .slice ao l.length cap] w (fun e w' => e = .returned (.tuple #[.agg (mcs 0 []), .bool false]) ∧ Below w.heap.size w w') := by
  have hz := mx_zero
  have h0 := mx_build0
  have PD := fun W => isDimension_any n W
  rw [show dimB (n : Int) = true by unfold dimB; simp; omega] at PD
  have HD := Lib.hid PD
  have HP := Lib.hid (fun W => places_any n W hn)
  have V0 := Var.made w
  have HV := Lib.hid V0
  have E0 := Lib.hid (one_more (w1 := w) (.cells (mcs 0 []) 54))
  have hs0 := mx_storeC V0.1 V0.2 (mcs_size (n := 0) (l := []) (by simp)) (mcs_one _ _)
  generalize l.length = len at *
  generalize (n + 1) * (n + 1) = sz at *
  have D : ((len : Int) != (sz : Int)) = true := by simp; omega
  clear PD V0 hne
  go_enter Tryz.func72, Tryz.ntmps72
  go_wp2_with fail
  refine (HD.out _).mono ?_
  rintro e w1 ⟨rfl, rfl⟩
  go_wp2_with fail
  refine (HP.out _).mono ?_
  rintro e w1 ⟨rfl, rfl⟩
  go_wp2_with fail
  refine bodyPost_ret (results_mx Tryz.results72 _ rfl rfl (HV.out.put (mcs 0 []) (mcs_size (by simp)))) rfl ⟨rfl, ?_⟩
  exact Below.setRow E0.out (Nat.le_refl _) _

theorem mx_buildN (n : Nat) (w : World) : (Instr.build 54 #[(0, .int .i64 n)]).run Tryz.prog w = .ok (.agg (mcs n [])) w := run_build w _ _ _ (by kernel_rfl)

theorem pad_next (d : List Int) (x : Int) (h : d.length < 121) : (pad d).set d.length x = pad (d ++ [x]) := by
  unfold pad
  rw [List.set_append_right _ _ (Nat.le_refl _), Nat.sub_self, List.length_append, show 121 - d.length = (121 - (d.length + 1)) + 1 by omega, List.replicate_succ]
  simp

theorem fill_row {b n : Nat} : ∀ (rest d : List Int) (w : World), w.heap[b]? = some (.cells (mcs n d) 54 (0, 0)) → (d ++ rest).length ≤ 121 →
    (w.setCells b (1 + d.length) (rest.map (Value.int .i64))).heap[b]? = some (.cells (mcs n (d ++ rest)) 54 (0, 0)) := by
  intro rest
  induction rest with
  | nil => intro d w h _; simpa [World.setCells] using h
  | cons x rest ih =>
    intro d w h hl
    have hl2 : d.length < 121 := by simp at hl; omega
    have h1 : (w.setCell ⟨b, 1 + d.length, none⟩ (.int .i64 x)).heap[b]? = some (.cells (mcs n (d ++ [x])) 54 (0, 0)) := by
      rw [heap_setCell_same w b _ _ _ _ h, Nat.add_comm]
      congr 2
      simp [mcs, ← pad_next d x hl2, List.map_set]
    have := ih (d ++ [x]) _ h1 (by simpa using hl)
    simpa [World.setCells, Nat.add_assoc] using this

theorem run_whole (b : Nat) (w : World) :
    (Instr.sliceAt 52 (.pointer (some ⟨b, 1, none⟩)) none none none).run Tryz.prog w = .ok (.slice (some ⟨b, 1, none⟩) 121 121) w := by
  have ha : Tryz.prog.arrayLen 52 = 121 := by simp [Program.arrayLen]
  have he : Tryz.prog.elem 52 = 46 := by simp [Program.elem]
  rw [run_sliceAt_array_all w 52 ⟨b, 1, none⟩ (by rw [ha, he]; exact cells_ty)]
  rw [he, limit_size]
  simp only [Result.andThen_ok, slicedAt, ha]
  rw [if_neg (by omega), Addr.add_mid]

theorem Below.setCells {B : Nat} {w : World} {b : Nat} (hle : B ≤ b) : ∀ (vs : List Value) (o : Nat) (w' : World), Below B w w' → Below B w (w'.setCells b o vs) := by
  intro vs
  induction vs with
  | nil => intro o w' h; exact h
  | cons v vs ih => intro o w' h; exact ih _ _ (h.setCell hle v)

set_option maxRecDepth 100000 in
set_option maxHeartbeats 4000000 in
theorem read_loop (n : Nat) (l : List Int) (a : Addr) (cap : Nat) (w : World) (hn : n ≤ 10) (hl : l.length = (n + 1) * (n + 1)) (hR : Rd w a l) :
    Calls Tryz.prog 72 #[.int .i64 n, .slice (some a) l.length cap] w
      (fun e w' => e = .returned (.tuple #[.agg (rdV n l), .bool (rdL l)]) ∧ Below w.heap.size w w') := by
  have hz := mx_zero
  have h0 := mx_build0
  have hbn := mx_buildN n
  have PD := fun W => isDimension_any n W
  rw [show dimB (n : Int) = true by unfold dimB; simp; omega] at PD
  have HD := Lib.hid PD
  have HP := Lib.hid (fun W => places_any n W hn)
  obtain ⟨w0, hw0⟩ : ∃ w0, w0 = w.alloc (.cells (mcs 0 []) 54) := ⟨_, rfl⟩
  have V0 : Var w0 w.heap.size (mcs 0 []) := by rw [hw0]; exact Var.made w
  have HV := Lib.hid V0
  have E0 := Lib.hid (show Below w.heap.size w w0 by rw [hw0]; exact one_more _)
  have hs0 := mx_storeC V0.1 V0.2 (mcs_size (n := 0) (l := []) (by simp)) (mcs_one _ _)
  have HR := Lib.hid (hR.on E0.out)
  have d2 := dsq_le hn
  have d1 := dsq_pos n
  have HLEN := Lib.hid hl
  clear hR PD V0
  generalize hsz : (n + 1) * (n + 1) = sz at *
  rw [hl]
  clear hl hsz
  have D : ((sz : Int) != (sz : Int)) = false := by simp
  go_enter Tryz.func72, Tryz.ntmps72
  go_wp2_with fail
  rw [← hw0]
  clear hw0
  refine (HD.out _).mono ?_
  rintro e w1 ⟨rfl, hw⟩
  rw [hw]; clear hw w1
  go_wp2_with fail
  refine (HP.out _).mono ?_
  rintro e w1 ⟨rfl, hw⟩
  rw [hw]; clear hw w1
  go_wp2_with fail
  go_loopw [22] (fun s wr => ∃ t : Nat, t ≤ sz ∧ s = .int .i64 t ∧ Hid (wr = w0) ∧ Hid (∀ i, i < t → lvB (Zo.gt l i) = true)) (fun s _ => sz - (intOf s).toNat)
  case atStart => exact ⟨0, by omega, rfl, Lib.hid rfl, Lib.hid (fun i hi => by omega)⟩
  case round =>
    obtain ⟨t, ht, rfl, HW, HT⟩ := hrel
    obtain rfl := HW.out
    clear HW
    by_cases htn : t < sz
    · obtain ⟨v, hv⟩ : ∃ v, v = Zo.gt l t := ⟨_, rfl⟩
      have c1 : wr.cell? (a.add t) = some (.int .i64 v) := by rw [hv]; exact HR.out t (by rw [HLEN.out]; exact htn)
      have HVV := Lib.hid hv
      clear hv
      have PV := fun W => limValid_free v W
      cases lv : lvB v
      · rw [lv] at PV
        have HE := Lib.hid (show rdL l = false by
          unfold rdL
          rw [List.all_eq_false]
          refine ⟨l[t]'(by rw [HLEN.out]; exact htn), List.getElem_mem _, ?_⟩
          rw [show l[t]'(by rw [HLEN.out]; exact htn) = v by rw [HVV.out]; simp [Zo.gt, show t < l.length by rw [HLEN.out]; exact htn], lv]
          decide)
        have PW := Lib.hid PV
        clear PV
        go_wp2_with fail
        refine (PW.out _).mono ?_
        rintro e w3 ⟨rfl, rfl⟩
        go_wp2_with fail
        refine bodyPost_ret (results_mx Tryz.results72 _ rfl rfl (HV.out.put (mcs 0 []) (mcs_size (by simp)))) rfl ⟨by unfold rdV; rw [HE.out]; rfl, ?_⟩
        exact Below.setRow E0.out (Nat.le_refl _) _
      · rw [lv] at PV
        have PW := Lib.hid PV
        have HLV := Lib.hid lv
        clear PV lv
        go_wp2_with fail
        refine (PW.out _).mono ?_
        rintro e w3 ⟨rfl, rfl⟩
        clear c1
        go_wp2_with fail
        go_roundw
        case rel =>
          refine ⟨t + 1, by omega, by go_num, Lib.hid (by first | rfl | trivial), Lib.hid (fun i hi => ?_)⟩
          by_cases e : i = t
          · rw [e, ← HVV.out]; exact HLV.out
          · exact HT.out i (by omega)
        case measure => simp [intOf]; omega
    · have HE := Lib.hid (show rdL l = true by
        unfold rdL
        rw [List.all_eq_true]
        intro x hx
        obtain ⟨i, hi, rfl⟩ := List.getElem_of_mem hx
        have := HT.out i (by have := HLEN.out; omega)
        simpa [Zo.gt, hi] using this)
      clear hs0
      have V1 : Var (wr.alloc (.cells (mcs 0 []) 54)) wr.heap.size (mcs 0 []) := Var.made wr
      have hs1 := mx_storeC V1.1 V1.2 (mcs_size (n := n) (l := []) (by simp)) (mcs_one _ _)
      rw [World.setRow_alloc_new, show (mcs n []).toList = (mcs 0 []).toList.set 0 (.int .i64 n) from rfl] at hs1
      have hr := run_whole wr.heap.size
      obtain ⟨w2, hw2⟩ : ∃ w2, w2 = wr.alloc (.cells (mcs n []) 54) := ⟨_, rfl⟩
      have V2 : w2.heap[wr.heap.size]? = some (.cells (mcs n []) 54 (0, 0)) := by rw [hw2]; exact heap_alloc_last wr _
      have L1 : l.length ≤ 121 := by rw [HLEN.out]; exact d2
      have hcp := fun ty => run_copy_cells (P := Tryz.prog) w2 22 22 ty 46 wr.heap.size 1 121 121 a sz cap (l.map (Value.int .i64)) Tryz.underlying22
        (by rfl) (by rw [List.length_map, HLEN.out]; exact (Nat.min_eq_left d2).symm) (fun j v hj => by rw [hw2]; exact kept (one_more _) (HR.out.map j v hj))
        (fun j hj => by
          rw [cell_of_row w2 _ _ _ _ _ V2]
          have : 1 + j < (mcs n []).size := by rw [mcs_size (by simp)]; simp at hj; omega
          rw [Array.getElem?_eq_getElem this]; rfl)
        (fun j hj => frozen_of_row w2 _ _ _ _ V2) (by simp [Value.oneCell'])
      have V3 := fill_row (b := wr.heap.size) (n := n) l [] w2 V2 (by simpa using L1)
      have e3 : Below w.heap.size w (w2.setCells wr.heap.size 1 (l.map (Value.int .i64))) := by
        refine Below.setCells (Nat.le_of_lt HV.out.lt) _ _ _ ?_
        rw [hw2]; exact E0.out.alloc (Nat.le_of_lt HV.out.lt) _
      have k3 : (w2.setCells wr.heap.size 1 (l.map (Value.int .i64))).heap[w.heap.size]? = some (.cells (mcs 0 []) 54 (0, 0)) := by
        rw [World.heap_setCells_other _ _ _ _ (by rw [hw2]; simp; have := HV.out.lt; omega) (by have := HV.out.lt; omega), hw2, heap_alloc_old wr _ HV.out.lt]
        exact HV.out.1
      simp only [List.length_nil, List.nil_append, Nat.add_zero] at V3
      rw [hw2] at hcp
      simp only [List.length_map, HLEN.out] at hcp
      have VL : Var (w2.setCells wr.heap.size 1 (l.map (Value.int .i64))) wr.heap.size (mcs n l) := ⟨V3, mcs_size L1⟩
      rw [hw2] at VL
      have H3 := Lib.hid e3
      have K3 := Lib.hid (show Var (w2.setCells wr.heap.size 1 (l.map (Value.int .i64))) w.heap.size (mcs 0 []) from ⟨k3, mcs_size (by simp)⟩)
      rw [hw2] at H3 K3
      have S3 := Lib.hid (mcs_size (n := n) L1)
      clear e3 k3 V3 V2 V1 L1
      go_wp2_with (first | refine wpl_load rfl _ rfl _ rfl _ VL ?_ | refine wpl_store rfl _ _ rfl _ _ rfl rfl _ K3.out S3.out (mcs_one _ _) ?_)
      refine bodyPost_ret (results_mx Tryz.results72 _ rfl rfl (K3.out.put (mcs n l) S3.out)) rfl ⟨by unfold rdV; rw [HE.out]; rfl, ?_⟩
      exact Below.setRow H3.out (Nat.le_refl _) _
end Go.Proofs.YtbnebinpemejlaaGreat

namespace Go.Proofs.YtbnebinpemejlaaGreat
open Go.RowKit

theorem items_run (d : Nat) (l m : List Int) (w : World) : ∀ is : List Nat, (∀ i ∈ is, i < l.length ∧ i < m.length) →
    (Op.eqItems (d + 1) 46 1 ⟨l.map (Value.int .i64)⟩ ⟨m.map (Value.int .i64)⟩ is).run Tryz.prog w = .ok (is.all fun i => Zo.gt l i == Zo.gt m i) w := by
  intro is
  have hp : Tryz.prog.plainKey 46 = true := by kernel_rfl
  induction is with
  | nil => intro _; simp [Op.eqItems]
  | cons i is ih =>
    intro h
    obtain ⟨h1, h2⟩ := h i (by simp)
    have p1 : (part 46 ⟨l.map (Value.int .i64)⟩ (i * 1)).run Tryz.prog w = .ok (.int .i64 (Zo.gt l i)) w := run_part_plain w hp (by simp [Zo.gt, h1])
    have p2 : (part 46 ⟨m.map (Value.int .i64)⟩ (i * 1)).run Tryz.prog w = .ok (.int .i64 (Zo.gt m i)) w := run_part_plain w hp (by simp [Zo.gt, h2])
    have p3 := run_equalIn_int (P := Tryz.prog) (w := w) d 46 .i64 .i64 (Zo.gt l i) (Zo.gt m i) Tryz.underlying46
    simp only [Op.eqItems, Sem.run_bind, p1, p2, p3, Result.andThen_ok, List.all_cons]
    cases Zo.gt l i == Zo.gt m i
    · simp
    · simpa using ih (fun j hj => h j (by simp [hj]))

theorem pad_len {l : List Int} (hl : l.length ≤ 121) : (pad l).length = 121 := by simp [pad]; omega

theorem pad_inj {l m : List Int} (hm : m.length = l.length) (h : pad l = pad m) : l = m := by
  unfold pad at h
  exact (List.append_inj h hm.symm).1

theorem list_ext_gt {l m : List Int} (hm : m.length = l.length) (h : ∀ i, i < l.length → Zo.gt l i = Zo.gt m i) : l = m := by
  refine List.ext_getElem hm.symm fun i h1 h2 => ?_
  have := h i h1
  simpa [Zo.gt, h1, h2] using this

theorem mx_fields : ∃ f g, (Tryz.prog.fieldsOf 54).toList = [f, g] ∧ (f.name ≠ "_" ∧ f.type = 3 ∧ f.offset = 0) ∧ (g.name ≠ "_" ∧ g.type = 52 ∧ g.offset = 1) := by
  have hf : (Tryz.prog.fieldsOf 54).toList.map (fun f => (f.name != "_", f.type, f.offset)) = [(true, 3, 0), (true, 52, 1)] := by kernel_rfl
  revert hf
  generalize (Tryz.prog.fieldsOf 54).toList = fs
  intro hf
  cases fs with
  | nil => simp at hf
  | cons f r =>
    cases r with
    | nil => simp at hf
    | cons g r =>
      cases r with
      | cons _ _ => simp at hf
      | nil =>
        simp only [List.map_cons, List.map_nil, List.cons.injEq, Prod.mk.injEq, bne_iff_ne, and_true] at hf
        obtain ⟨⟨a1, a2, a3⟩, b1, b2, b3⟩ := hf
        exact ⟨f, g, rfl, ⟨a1, a2, a3⟩, b1, b2, b3⟩

theorem cells_size (w : World) : (sizeOf 52).run Tryz.prog w = .ok 121 w := by
  have h : (Tryz.prog.info? 52).map (·.size) = some 121 := by kernel_rfl
  cases hq : Tryz.prog.info? 52 with
  | none => simp [hq] at h
  | some i => simp [hq] at h; simp [sizeOf, typeInfo, hq, h]

theorem cells_part (n : Nat) (k : List Int) (hk : k.length ≤ 121) (w : World) : (part 52 (mcs n k) 1).run Tryz.prog w = .ok (.agg ⟨(pad k).map (Value.int .i64)⟩) w := by
  have ha : (isAgg 52).run Tryz.prog w = .ok true w := by
    unfold isAgg; rw [Sem.run_bind, run_underlying cells_ty w]; simp
  have hz := cells_size w
  have hx : (mcs n k).extract 1 (1 + 121) = ⟨(pad k).map (Value.int .i64)⟩ := by
    have := pad_len hk
    apply Array.toList_inj.1
    rw [Array.toList_extract]
    simp only [mcs, List.extract_eq_take_drop, List.drop_succ_cons, List.drop_zero]
    rw [List.take_of_length_le (by simp; omega)]
  unfold part
  rw [Sem.run_bind, ha, Result.andThen_ok, if_pos rfl, Sem.run_bind, hz, Result.andThen_ok, hx]
  rfl

theorem all_eq (N : Nat) (a b : List Int) (ha : a.length = N) (hb : b.length = N) : ((List.range N).all fun i => Zo.gt a i == Zo.gt b i) = decide (a = b) := by
  rw [Bool.eq_iff_iff, List.all_eq_true, decide_eq_true_eq]
  constructor
  · intro h
    exact list_ext_gt (by omega) fun i hi => by
      have := h i (List.mem_range.2 (by omega))
      simpa using this
  · intro h i _
    rw [h]; simp

theorem cells_eq (d : Nat) (l m : List Int) (hl : l.length ≤ 121) (hm : m.length = l.length) (w : World) :
    (Op.equalIn (d + 1 + 1) 52 (.agg ⟨(pad l).map (Value.int .i64)⟩) (.agg ⟨(pad m).map (Value.int .i64)⟩)).run Tryz.prog w = .ok (decide (l = m)) w := by
  obtain ⟨ie, hie⟩ : ∃ i, Tryz.prog.info? 46 = some i := by
    obtain ⟨i, hi, _⟩ := info_parts Tryz.info46
    exact ⟨i, hi⟩
  have hc : Tryz.prog.cellsOf 46 = 1 := by kernel_rfl
  rw [run_equalIn_array (P := Tryz.prog) w (d + 1) (⟨(pad l).map (Value.int .i64)⟩ : Array Value) ⟨(pad m).map (Value.int .i64)⟩ cells_ty hie]
  rw [hc, items_run d (pad l) (pad m) w (List.range 121) (fun i hi => by rw [pad_len hl, pad_len (by omega)]; exact ⟨List.mem_range.1 hi, List.mem_range.1 hi⟩)]
  rw [all_eq 121 (pad l) (pad m) (pad_len hl) (pad_len (by omega))]
  rw [show decide (pad l = pad m) = decide (l = m) from decide_eq_decide.2 ⟨fun h => pad_inj hm h, fun h => by rw [h]⟩]

theorem mx_eqIn (d : Nat) (n : Nat) (l m : List Int) (hl : l.length ≤ 121) (hm : m.length = l.length) (w : World) :
    (Op.equalIn (d + 1 + 1 + 1) 54 (.agg (mcs n l)) (.agg (mcs n m))).run Tryz.prog w = .ok (decide (l = m)) w := by
  have ht : Tryz.prog.underlying 54 = some (.struct (Tryz.prog.fieldsOf 54)) := by kernel_rfl
  have hs : Tryz.prog.stoodInHeld 54 = false := by kernel_rfl
  rw [run_equalIn_struct w (d + 1 + 1) _ _ _ ht hs]
  obtain ⟨f, g, e, h1, h2⟩ := mx_fields
  rw [e]
  have hpi : Tryz.prog.plainKey 3 = true := by kernel_rfl
  have q1 : (part 3 (mcs n l) 0).run Tryz.prog w = .ok (.int .i64 n) w := run_part_plain w hpi rfl
  have q2 : (part 3 (mcs n m) 0).run Tryz.prog w = .ok (.int .i64 n) w := run_part_plain w hpi rfl
  have q3 := run_equalIn_int (P := Tryz.prog) (w := w) (d + 1) 3 .i64 .i64 n n Tryz.underlying3
  have q4 := cells_part n l hl w
  have q5 := cells_part n m (by omega) w
  have q6 := cells_eq d l m hl hm w
  generalize mcs n l = A at *
  generalize mcs n m = B at *
  generalize (⟨(pad l).map (Value.int .i64)⟩ : Array Value) = A' at *
  generalize (⟨(pad m).map (Value.int .i64)⟩ : Array Value) = B' at *
  obtain ⟨h11, h12, h13⟩ := h1
  obtain ⟨h21, h22, h23⟩ := h2
  simp only [Op.eqFields, h12, h13, h22, h23]
  rw [if_pos h11, Sem.run_bind, q1, Result.andThen_ok, Sem.run_bind, q2, Result.andThen_ok, Sem.run_bind, q3, Result.andThen_ok, if_neg (by rw [beq_self_eq_true]; decide), if_pos h21,
    Sem.run_bind, q4, Result.andThen_ok, Sem.run_bind, q5, Result.andThen_ok, Sem.run_bind, q6, Result.andThen_ok]
  generalize decide (l = m) = r
  cases r
  · rfl
  · rfl

/-- Two matrices of one dimension, compared as values. -/
theorem run_mx_eq (n : Nat) (l m : List Int) (hl : l.length ≤ 121) (hm : m.length = l.length) (w : World) :
    (binOp .eql 54 (.agg (mcs n l)) (.agg (mcs n m))).run Tryz.prog w = .ok (.bool (decide (l = m))) w := by
  have h := mx_eqIn 9997 n l m hl hm w
  generalize mcs n l = A at *
  generalize mcs n m = B at *
  rw [run_eql_struct]
  simp only [Nat.reduceAdd] at h
  rw [h]
  rfl
end Go.Proofs.YtbnebinpemejlaaGreat

namespace Go.Proofs.YtbnebinpemejlaaGreat.Zo

/-- A limit, perhaps somewhat out of range. -/
def Wl (x : Int) : Prop := x = 1099511627776 ∨ (-4294967296 ≤ x ∧ x ≤ 4294967297)

theorem Vl.wl {x : Int} (h : Vl x) : Wl x := by unfold Vl at h; unfold Wl; omega

theorem pre_wl {n : Nat} {l : List Int} (hl : l.length = (n + 1) * (n + 1)) (hv : ∀ a b, a ≤ n → b ≤ n → Wl (At n l a b)) : ∀ a b, a ≤ n → b ≤ n → Wl (At n (pre n l) a b) := by
  refine (pre_keeps (R := fun x : List Int => x.length = (n + 1) * (n + 1) ∧ ∀ a b, a ≤ n → b ≤ n → Wl (At n x a b)) (fun x i j _ hi hj hx => ⟨by simpa using hx.1, fun a b ha hb => ?_⟩) ⟨hl, hv⟩).2
  rw [At_set hx.1 hi hj _ hb]
  split
  · have := hx.2 i j hi hj
    unfold Wl at this ⊢
    omega
  · exact hx.2 a b ha hb

theorem clo_repW {n : Nat} {l : List Int} (hn : n ≤ 10) (hl : l.length = (n + 1) * (n + 1)) (hv : ∀ a b, a ≤ n → b ≤ n → Wl (At n l a b)) (hd : ∀ i, i ≤ n → 1 ≤ At n (clo n l) i i) :
    ∀ t, t ≤ n + 1 → Rep n (rnd n l t) (fw (mat n l) t) ∧ ∀ k, k < t → fw (mat n l) k k k = some 1 := by
  have pv := pre_wl hl hv
  have hm : ∀ i j x, mat n l i j = some x → x ≤ 4294967297 ∧ -4294967297 + 1 ≤ x := by
    intro i j x h
    unfold mat at h
    split at h
    · rename_i c
      have := pv i j c.1 c.2
      unfold dec at h
      unfold Wl at this
      split at h
      · simp at h
      · simp at h; omega
    · simp at h
  have dg : ∀ t, t ≤ n + 1 → ∀ i, i ≤ n → At n (rnd n l t) i i = 1 := by
    intro t ht i hi
    have h1 := rnd_le hl t (n + 1 - t) (by omega) i i hi hi
    rw [show t + (n + 1 - t) = n + 1 by omega] at h1
    have h2 := rnd_le hl 0 t (by omega) i i hi hi
    have h3 := (pre_low hl i hi).1
    have h4 := hd i hi
    have e : rnd n l (n + 1) = clo n l := rfl
    have e0 : rnd n l 0 = pre n l := rfl
    rw [e] at h1
    rw [e0, Nat.zero_add] at h2
    omega
  intro t
  induction t with
  | zero =>
    intro _
    refine ⟨⟨rnd_length hl 0 (by omega), fun a b ha hb => ?_⟩, fun k hk => by omega⟩
    show At n (pre n l) a b = enc (mat n l a b)
    unfold mat
    rw [if_pos ⟨ha, hb⟩, enc_dec]
  | succ t ih =>
    intro ht
    obtain ⟨hr, hdg⟩ := ih (by omega)
    have htt : fw (mat n l) t t t = some 1 := by
      have h1 := hr.2 t t (by omega) (by omega)
      rw [dg t (by omega) t (by omega)] at h1
      cases e : fw (mat n l) t t t with
      | none => rw [e] at h1; simp [enc] at h1
      | some x => rw [e] at h1; simp [enc] at h1; rw [h1]
    have all : ∀ k, k < t + 1 → fw (mat n l) k k k = some 1 := by
      intro k hk
      by_cases e : k = t
      · rw [e]; exact htt
      · exact hdg k (by omega)
    have hB : Bd (fw (mat n l) t) := by
      intro i j x h
      constructor
      · have := fw_low (c := 4294967297) (by omega) (fun i j x h => (hm i j x h).2) t i j x h
        have p : (2 : Int) ^ t ≤ 2 ^ 11 := by
          have : (2 : Nat) ^ t ≤ 2 ^ 11 := Nat.pow_le_pow_right (by omega) (by omega)
          exact_mod_cast this
        omega
      · obtain ⟨S, _, hx⟩ := fw_bound (U := 4294967297) (fun i j x h => (hm i j x h).1) t hdg i j x h
        have := cnt_le S t
        omega
    refine ⟨?_, all⟩
    rw [rnd_succ]
    exact round_rep hB htt (by omega) hr

theorem fw_bd {n : Nat} {l : List Int} (hn : n ≤ 10) (hl : l.length = (n + 1) * (n + 1)) (hv : ∀ a b, a ≤ n → b ≤ n → Wl (At n l a b)) (hd : ∀ i, i ≤ n → 1 ≤ At n (clo n l) i i) :
    Rep n (clo n l) (fw (mat n l) (n + 1)) ∧ Tri (n + 1) (fw (mat n l) (n + 1)) ∧ Bd (fw (mat n l) (n + 1)) ∧ ∀ k, k ≤ n → fw (mat n l) (n + 1) k k = some 1 := by
  obtain ⟨hr, hdg⟩ := clo_repW hn hl hv hd (n + 1) (Nat.le_refl _)
  have pv := pre_wl hl hv
  have hm : ∀ i j x, mat n l i j = some x → x ≤ 4294967297 ∧ -4294967297 + 1 ≤ x := by
    intro i j x h
    unfold mat at h
    split at h
    · rename_i c
      have := pv i j c.1 c.2
      unfold dec at h
      unfold Wl at this
      split at h
      · simp at h
      · simp at h; omega
    · simp at h
  refine ⟨hr, tri_fw (n + 1) hdg, ?_, ?_⟩
  · intro i j x h
    constructor
    · have := fw_low (c := 4294967297) (by omega) (fun i j x h => (hm i j x h).2) (n + 1) i j x h
      have p : (2 : Int) ^ (n + 1) ≤ 2 ^ 11 := by
        have : (2 : Nat) ^ (n + 1) ≤ 2 ^ 11 := Nat.pow_le_pow_right (by omega) (by omega)
        exact_mod_cast this
      omega
    · obtain ⟨S, _, hx⟩ := fw_bound (U := 4294967297) (fun i j x h => (hm i j x h).1) (n + 1) hdg i j x h
      have := cnt_le S (n + 1)
      omega
  · intro k hk
    have h1 := hr.2 k k hk hk
    have h2 := hd k hk
    have h3 := clo_below hl (k := 0) (i := 0) (by omega) (by omega) hk hk
    have h4 := (pre_low hl k hk).1
    have e : (List.range 0).foldl (rlxJ n 0) (rnd n l 0) = pre n l := rfl
    rw [e] at h3
    have e2 : At n (rnd n l (n + 1)) k k = 1 := by
      show At n (clo n l) k k = 1
      omega
    rw [e2] at h1
    cases e : fw (mat n l) (n + 1) k k with
    | none => rw [e] at h1; simp [enc] at h1
    | some x => rw [e] at h1; simp [enc] at h1; rw [h1]

/-- .. in the code's own sums. -/
theorem clo_sums {n : Nat} {l : List Int} (hn : n ≤ 10) (hl : l.length = (n + 1) * (n + 1)) (hv : ∀ a b, a ≤ n → b ≤ n → Wl (At n l a b)) (hd : ∀ i, i ≤ n → 1 ≤ At n (clo n l) i i) :
    ∀ i j k, i ≤ n → j ≤ n → k ≤ n → At n (clo n l) i j ≤ smW (At n (clo n l) i k) (At n (clo n l) k j) := by
  intro i j k hi hj hk
  obtain ⟨rep, tri, bd, _⟩ := fw_bd hn hl hv hd
  have t := tri k (by omega) i j
  rw [rep.2 i j hi hj, rep.2 i k hi hk, rep.2 k j hk hj]
  have st := enc_step (a := fw (mat n l) (n + 1) i j) (b := fw (mat n l) (n + 1) i k) (c := fw (mat n l) (n + 1) k j) (fun x h => (bd i j x h).2) (fun x h => bd i k x h) (fun x h => bd k j x h)
  rw [mn_eq_left t] at st
  rw [← st]
  exact Int.min_le_right _ _
end Go.Proofs.YtbnebinpemejlaaGreat.Zo

namespace Go.Proofs.YtbnebinpemejlaaGreat
open Go.RowKit

theorem vl_of_lv {x : Int} (h : lvB x = true) : Zo.Vl x := by
  unfold lvB at h; simp at h; exact h

theorem lv_of_all {n : Nat} {l : List Int} (hl : l.length = (n + 1) * (n + 1)) (hv : rdL l = true) : ∀ a b, a ≤ n → b ≤ n → lvB (Zo.At n l a b) = true := by
  intro a b ha hb
  have hi := Zo.ix_lt ha hb
  rw [← hl] at hi
  unfold rdL at hv
  rw [List.all_eq_true] at hv
  have := hv _ (List.getElem_mem hi)
  have e : l[Zo.ix n a b] = Zo.At n l a b := by simp [Zo.At, Zo.gt, hi]
  rwa [e] at this

theorem vl_of {n : Nat} {l : List Int} (hl : l.length = (n + 1) * (n + 1)) (hv : rdL l = true) : ∀ a b, a ≤ n → b ≤ n → Zo.Vl (Zo.At n l a b) :=
  fun a b ha hb => vl_of_lv (lv_of_all hl hv a b ha hb)

theorem all_of_lv {n : Nat} {l : List Int} (hl : l.length = (n + 1) * (n + 1)) (hv : ∀ a b, a ≤ n → b ≤ n → lvB (Zo.At n l a b) = true) : rdL l = true := by
  unfold rdL
  rw [List.all_eq_true]
  intro x hx
  obtain ⟨i, hi, rfl⟩ := List.getElem_of_mem hx
  have h1 : i / (n + 1) ≤ n := by
    have : i < (n + 1) * (n + 1) := by omega
    have := Nat.div_lt_of_lt_mul this
    omega
  have h2 : i % (n + 1) ≤ n := by have := Nat.mod_lt i (show 0 < n + 1 by omega); omega
  have := hv _ _ h1 h2
  rwa [show Zo.At n l (i / (n + 1)) (i % (n + 1)) = l[i] by
    unfold Zo.At Zo.ix Zo.gt
    rw [show i / (n + 1) * (n + 1) + i % (n + 1) = i by rw [Nat.mul_comm]; exact Nat.div_add_mod i (n + 1)]
    simp [hi]] at this

theorem a64_of {l : List Int} (hv : rdL l = true) : Zo.A64 l := by
  intro j
  by_cases hj : j < l.length
  · unfold rdL at hv
    rw [List.all_eq_true] at hv
    have := vl_of_lv (hv _ (List.getElem_mem hj))
    rw [show l[j] = Zo.gt l j by simp [Zo.gt, hj]] at this
    unfold Zo.Vl at this
    omega
  · have : Zo.gt l j = 0 := by unfold Zo.gt; rw [List.getD_eq_getElem?_getD, List.getElem?_eq_none (by omega)]; rfl
    omega

/-- A matrix that is closed already stays as it is. -/
theorem clo_fix {n : Nat} {l : List Int} (hl : l.length = (n + 1) * (n + 1)) (h1 : ∀ a, a ≤ n → Zo.At n l a a ≤ 1) (h2 : ∀ a, a ≤ n → Zo.At n l 0 a ≤ 1)
    (h3 : ∀ i j k, i ≤ n → j ≤ n → k ≤ n → Zo.At n l i j ≤ Zo.smW (Zo.At n l i k) (Zo.At n l k j)) : Zo.clo n l = l := by
  have same : ∀ i j (y : Int), i ≤ n → j ≤ n → Zo.At n l i j ≤ y → l.set (Zo.ix n i j) (min (Zo.At n l i j) y) = l := by
    intro i j y hi hj hy
    have hlt := Zo.ix_lt hi hj
    rw [← hl] at hlt
    rw [Int.min_eq_left hy]
    have : Zo.At n l i j = l[Zo.ix n i j] := by simp [Zo.At, Zo.gt, hlt]
    rw [this, List.set_getElem_self]
  refine Zo.clo_keeps (R := fun x => x = l) (fun x i j hij hi hj hx => ?_) (fun x k i j hk hi hj hx => ?_) rfl
  · subst hx
    refine same i j 1 hi hj ?_
    rcases hij with rfl | rfl
    · exact h2 j hj
    · exact h1 i hi
  · subst hx
    exact same i j _ hi hj (h3 i j k hi hj hk)

theorem diag_of {n : Nat} {l : List Int} (h : cloB n l = false) : ∀ a, a ≤ n → 1 ≤ Zo.At n (Zo.clo n l) a a := by
  intro a ha
  unfold cloB at h
  rw [List.any_eq_false] at h
  have := h a (List.mem_range.2 (by omega))
  simp at this
  exact this

theorem clo_low {n : Nat} {l : List Int} (hl : l.length = (n + 1) * (n + 1)) : ∀ a, a ≤ n → Zo.At n (Zo.clo n l) a a ≤ 1 ∧ Zo.At n (Zo.clo n l) 0 a ≤ 1 := by
  intro a ha
  have h := Zo.pre_low hl a ha
  have b1 := Zo.clo_below hl (k := 0) (i := 0) (by omega) (by omega) ha ha
  have b2 := Zo.clo_below hl (k := 0) (i := 0) (by omega) (by omega) (show 0 ≤ n by omega) ha
  have e : (List.range 0).foldl (Zo.rlxJ n 0) (Zo.rnd n l 0) = Zo.pre n l := rfl
  rw [e] at b1 b2
  exact ⟨Int.le_trans b1 h.1, Int.le_trans b2 h.2⟩

/-- The rule of Floyd and Warshall keeps to the inequality of triangles, in the code's own sums. -/
theorem clo_tri_int {n : Nat} {l : List Int} (hn : n ≤ 10) (hl : l.length = (n + 1) * (n + 1)) (hv : rdL l = true) (hB : cloB n l = false) :
    ∀ i j k, i ≤ n → j ≤ n → k ≤ n → Zo.At n (Zo.clo n l) i j ≤ Zo.smW (Zo.At n (Zo.clo n l) i k) (Zo.At n (Zo.clo n l) k j) := by
  exact Zo.clo_sums hn hl (fun a b ha hb => (vl_of hl hv a b ha hb).wl) (diag_of hB)

theorem chk_iff {n : Nat} {l : List Int} (hn : n ≤ 10) (hl : l.length = (n + 1) * (n + 1)) (hv : rdL l = true) : chkE n l = 0 ↔ (cloB n l = false ∧ Zo.clo n l = l) := by
  have d : dimB (n : Int) = true := by unfold dimB; simp; omega
  constructor
  · intro h
    have hc : chkB n l = true := by
      unfold chkE at h
      cases e : chkB n l
      · rw [e] at h; simp at h
      · rfl
    unfold chkB at hc
    simp only [Bool.and_eq_true, Int.toNat_natCast] at hc
    have h1 := chk1_iff.1 hc.1.2
    have h2 := chk2_iff.1 hc.2
    have dg : ∀ a, a ≤ n → Zo.At n l a a = 1 := by
      intro a ha
      have := h1 a (by omega) a (by omega)
      unfold okI at this
      simp at this
      exact this.1.2
    have r0 : ∀ a, a ≤ n → Zo.At n l 0 a ≤ 1 := by
      intro a ha
      have := h1 0 (by omega) a (by omega)
      unfold okI at this
      simp at this
      exact this.2
    have tr : ∀ i j k, i ≤ n → j ≤ n → k ≤ n → Zo.At n l i j ≤ Zo.smW (Zo.At n l i k) (Zo.At n l k j) := by
      intro i j k hi hj hk
      have := h2 i (by omega) j (by omega) k (by omega)
      unfold okT at this
      simpa using this
    have e := clo_fix hl (fun a ha => by rw [dg a ha]; omega) r0 tr
    refine ⟨cloB_no fun i hi => ?_, e⟩
    rw [e, dg i (by omega)]
    omega
  · intro ⟨hB, e⟩
    have dg := diag_of hB
    have lo := clo_low hl
    have tr := clo_tri_int hn hl hv hB
    rw [e] at dg lo tr
    refine chkE_ok hn hl (fun i hi j hj => ?_) (fun i hi j hj k hk => ?_)
    · unfold okI
      rw [lv_of_all hl hv i j (by omega) (by omega)]
      simp only [Bool.true_and, Bool.and_eq_true, Bool.or_eq_true, decide_eq_true_eq]
      constructor
      · by_cases c : i = j
        · right
          subst c
          have := dg i (by omega)
          have := (lo i (by omega)).1
          omega
        · exact Or.inl c
      · by_cases c : i = 0
        · right
          subst c
          exact (lo j (by omega)).2
        · exact Or.inl c
    · unfold okT
      simpa using tr i j k (by omega) (by omega) (by omega)

/-- What open tells. -/
theorem chk_read {N : Int} {l : List Int} (h : rdB N l = false) : chkE N l = 2 := by
  unfold rdB at h
  cases hd : dimB N
  · exact chkE_bad1 hd
  · by_cases hl : l.length = (N.toNat + 1) * (N.toNat + 1)
    · rw [hd] at h
      simp only [hl, decide_true, Bool.true_and] at h
      obtain ⟨n, rfl, hn⟩ := dim_nat hd
      simp only [Int.toNat_natCast] at hl
      by_cases hc : chkE n l = 0
      · have hc2 : chkB n l = true := by
          unfold chkE at hc
          cases e : chkB n l
          · rw [e] at hc; simp at hc
          · rfl
        unfold chkB at hc2
        simp only [Bool.and_eq_true, Int.toNat_natCast] at hc2
        have h1 := chk1_iff.1 hc2.1.2
        have : rdL l = true := all_of_lv hl fun a b ha hb => by
          have := h1 a (by omega) b (by omega)
          unfold okI at this
          simp at this
          exact this.1.1
        unfold rdL at this
        rw [this] at h; cases h
      · exact chk_two hc
    · exact chkE_bad2 hl
end Go.Proofs.YtbnebinpemejlaaGreat

namespace Go.Proofs.YtbnebinpemejlaaGreat
open Go.RowKit

def rdW (N : Int) (l : List Int) : Array Value := if rdB N l then mcs N.toNat l else mcs 0 []

theorem read_gen (N : Int) (l : List Int) (ao : Option Addr) (cap : Nat) (w : World) (hA : Arg w ao l) :
    Calls Tryz.prog 72 #[.int .i64 N, .slice ao l.length cap] w (fun e w' => e = .returned (.tuple #[.agg (rdW N l), .bool (rdB N l)]) ∧ Below w.heap.size w w') := by
  cases hd : dimB N
  · refine (read_bad1 N l ao cap w hd).mono ?_
    rintro e w' ⟨rfl, hb⟩
    have : rdB N l = false := by unfold rdB; rw [hd]; rfl
    exact ⟨by unfold rdW; rw [this]; rfl, hb⟩
  · obtain ⟨n, rfl, hn⟩ := dim_nat hd
    by_cases hl : l.length = (n + 1) * (n + 1)
    · have hne : l ≠ [] := by
        intro e; subst e
        have := dsq_pos n
        simp at hl
      obtain ⟨a, rfl, hR⟩ := hA hne
      refine (read_loop n l a cap w hn hl hR).mono ?_
      rintro e w' ⟨rfl, hb⟩
      have : rdB n l = rdL l := by unfold rdB rdL; rw [hd]; simp [hl]
      exact ⟨by unfold rdW rdV; rw [this]; rfl, hb⟩
    · refine (read_bad2 n l ao cap w hn hl).mono ?_
      rintro e w' ⟨rfl, hb⟩
      have : rdB n l = false := by unfold rdB; simp [hl]
      exact ⟨by unfold rdW; rw [this]; rfl, hb⟩

theorem rdB_ok {N : Int} {l : List Int} (h : rdB N l = true) : ∃ n : Nat, N = n ∧ n ≤ 10 ∧ l.length = (n + 1) * (n + 1) ∧ rdL l = true := by
  unfold rdB at h
  simp only [Bool.and_eq_true, decide_eq_true_eq] at h
  obtain ⟨n, rfl, hn⟩ := dim_nat h.1.1
  exact ⟨n, rfl, hn, by simpa using h.1.2, h.2⟩

theorem Var.far {w : World} {b b' : Nat} {cs : Array Value} (h : Var w b cs) (hne : b' ≠ b) (cs' : Array Value) : Var (w.setRow b' cs') b cs := ⟨(setRow_other w b' b cs' (by omega)).trans h.1, h.2⟩

set_option maxRecDepth 100000 in
set_option maxHeartbeats 4000000 in
theorem open_bad (N : Int) (l : List Int) (ao : Option Addr) (cap : Nat) (w : World) (hA : Arg w ao l) (hr : rdB N l = false) :
    Calls Tryz.prog 37 #[.agg #[.int .i64 N, .slice ao l.length cap]] w (fun e w' => e = .returned (.tuple #[.agg (mcs 0 []), .bool false]) ∧ Below w.heap.size w w') := by
  have hz := mx_zero
  have h0 := mx_build0
  have CR := Lib.hid (show ∀ W, Below w.heap.size w W → Calls Tryz.prog 72 #[.int .i64 N, .slice ao l.length cap] W (fun e w' => e = .returned (.tuple #[.agg (mcs 0 []), .bool false]) ∧ Below W.heap.size W w') from fun W h => by
    have := read_gen N l ao cap W (hA.on h)
    rwa [hr, show rdW N l = mcs 0 [] by unfold rdW; rw [hr]; rfl] at this)
  generalize l.length = len at *
  obtain ⟨w0, hw0⟩ : ∃ w0, w0 = (w.alloc (.cells #[.int .i64 N, .slice ao len cap] 24)).alloc (.cells (mcs 0 []) 54) := ⟨_, rfl⟩
  have b0 : w0.cell? ⟨w.heap.size, 0, none⟩ = some (.int .i64 N) := by rw [hw0]; go_simp
  have b1 : w0.cell? ⟨w.heap.size, 1, none⟩ = some (.slice ao len cap) := by rw [hw0]; go_simp
  have V0 : Var w0 (w.heap.size + 1) (mcs 0 []) := by
    rw [hw0]
    have := Var.made (w.alloc (.cells #[.int .i64 N, .slice ao len cap] 24))
    simpa using this
  have E0 := Lib.hid (show Below w.heap.size w w0 by rw [hw0]; exact past_two (Below.refl _ _))
  have HV := Lib.hid V0
  clear V0 hA
  go_enter Tryz.func37, Tryz.ntmps37
  go_wp2_with fail
  rw [← hw0]
  clear hw0
  refine (CR.out _ E0.out).mono ?_
  rintro e w1 ⟨rfl, hb⟩
  have V1 := HV.out.kept hb
  have E1 := below_on E0.out hb
  have hle := E1.size
  have V2 := (V1.kept (one_more (.cells (mcs 0 []) 54)))
  have V3 := V2.far (b' := w1.heap.size) (by have := V1.lt; omega) (mcs 0 [])
  have HV3 := Lib.hid V3
  have HE := Lib.hid E1
  have sz := mcs_size (n := 0) (l := []) (by simp)
  clear V1 V2 V3 E1 hb b0 b1
  go_wp2_with (first | refine wpl_store rfl _ _ rfl _ _ rfl rfl _ (Var.made _) sz (mcs_one _ _) ?_ | refine wpl_store rfl _ _ rfl _ _ rfl rfl _ HV3.out sz (mcs_one _ _) ?_)
  refine bodyPost_ret (results_mx Tryz.results37 _ rfl rfl (HV3.out.put (mcs 0 []) sz)) rfl ⟨rfl, ?_⟩
  exact Below.setRow (Below.setRow (HE.out.alloc hle _) hle _) (by omega) _

theorem Mx.var {w : World} {b n : Nat} {l : List Int} (hn : n ≤ 10) (h : Mx w b n l) : Var w b (mcs n l) := ⟨h.1, mcs_size (by rw [h.2]; exact dsq_le hn)⟩

theorem yld_load {o : Oper} {a : Act} {w : World} (x : Operand) (ho : o.op = .load 54 x) (b : Nat) (hx : a.eval x = .pointer (some ⟨b, 0, none⟩)) (cs : Array Value) (hv : Var w b cs) :
    (execOp a.eval o).run Tryz.prog w = .ok (.value (.agg cs)) w := by
  unfold execOp
  simp only [ho, hx, Sem.run_bind, mx_loadAt hv.1 hv.2, Result.andThen_ok, Sem.run_pure]

theorem mx_guard (x y : Operand) (xs ys : Array Value) (w : World) : (eqGuard .eql 54 x y (.agg xs) (.agg ys)).run Tryz.prog w = .ok () w := run_eqGuard_agg (P := Tryz.prog) w .eql _ x y xs ys (by kernel_rfl)

theorem yld_eql {o : Oper} {a : Act} {w : World} (x y : Operand) (t : TypeId) (ho : o.op = .binOp .eql 54 x y t) (n : Nat) (l m : List Int) (hl : l.length ≤ 121) (hm : m.length = l.length) (hx : a.eval x = .agg (mcs n l)) (hy : a.eval y = .agg (mcs n m)) :
    (execOp a.eval o).run Tryz.prog w = .ok (.value (.bool (decide (l = m)))) w := by
  unfold execOp
  simp only [ho, hx, hy, Sem.run_bind, mx_guard, run_mx_eq n l m hl hm, Result.andThen_ok, Sem.run_pure]

set_option maxRecDepth 100000 in
set_option maxHeartbeats 4000000 in
theorem open_ok (n : Nat) (l : List Int) (ao : Option Addr) (cap : Nat) (w : World) (hA : Arg w ao l) (hn : n ≤ 10) (hl : l.length = (n + 1) * (n + 1)) (hv : rdL l = true) :
    Calls Tryz.prog 37 #[.agg #[.int .i64 n, .slice ao l.length cap]] w (fun e w' => e = .returned (.tuple #[.agg (mcs n l), .bool (decide (chkE n l = 0))]) ∧ Below w.heap.size w w') := by
  have hz := mx_zero
  have hr : rdB n l = true := by unfold rdB; rw [show dimB (n : Int) = true by unfold dimB; simp; omega]; simp only [Int.toNat_natCast, hl, decide_true, Bool.true_and]; exact hv
  have CR := Lib.hid (show ∀ W, Below w.heap.size w W → Calls Tryz.prog 72 #[.int .i64 n, .slice ao l.length cap] W (fun e w' => e = .returned (.tuple #[.agg (mcs n l), .bool true]) ∧ Below W.heap.size W w') from fun W h => by
    have := read_gen n l ao cap W (hA.on h)
    rwa [hr, show rdW n l = mcs n l by unfold rdW; rw [hr]; rfl] at this)
  have sz : (mcs n l).size = 122 := mcs_size (by rw [hl]; exact dsq_le hn)
  have HC := Lib.hid (chk_iff hn hl hv)
  have HL := Lib.hid hl
  have H64 := Lib.hid (a64_of hv)
  clear hr hA hv
  generalize l.length = len at CR ⊢
  obtain ⟨w0, hw0⟩ : ∃ w0, w0 = (w.alloc (.cells #[.int .i64 n, .slice ao len cap] 24)).alloc (.cells (mcs 0 []) 54) := ⟨_, rfl⟩
  have b0 : w0.cell? ⟨w.heap.size, 0, none⟩ = some (.int .i64 n) := by rw [hw0]; go_simp
  have b1 : w0.cell? ⟨w.heap.size, 1, none⟩ = some (.slice ao len cap) := by rw [hw0]; go_simp
  have V0 : Var w0 (w.heap.size + 1) (mcs 0 []) := by
    rw [hw0]
    have := Var.made (w.alloc (.cells #[.int .i64 n, .slice ao len cap] 24))
    simpa using this
  have E0 := Lib.hid (show Below w.heap.size w w0 by rw [hw0]; exact past_two (Below.refl _ _))
  have HV := Lib.hid V0
  clear V0
  go_enter Tryz.func37, Tryz.ntmps37
  go_wp2_with fail
  rw [← hw0]
  clear hw0
  go_wp2_with fail
  refine (CR.out _ E0.out).mono ?_
  rintro e w1 ⟨rfl, hb⟩
  have V1 := HV.out.kept hb
  have E1 := below_on E0.out hb
  have hle := E1.size
  have V2 := (V1.kept (one_more (.cells (mcs 0 []) 54)))
  have V3 := V2.far (b' := w1.heap.size) (by have := V1.lt; omega) (mcs n l)
  have V4 := (Var.made w1).put (mcs n l) sz
  have HV3 := Lib.hid V3
  have HV4 := Lib.hid V4
  have HE := Lib.hid (show Below w.heap.size w ((w1.alloc (.cells (mcs 0 []) 54)).setRow w1.heap.size (mcs n l)) from Below.setRow (E1.alloc hle _) hle _)
  have hlt := V1.lt
  have V6 := Var.made ((w1.alloc (.cells (mcs 0 []) 54)).setRow w1.heap.size (mcs n l))
  rw [show ((w1.alloc (.cells (mcs 0 []) 54)).setRow w1.heap.size (mcs n l)).heap.size = w1.heap.size + 1 by simp] at V6
  have HV6 := Lib.hid V6
  clear V1 V2 V3 V4 V6 E1 hb b0 b1
  go_wp2_with (first | refine wpl_store rfl _ _ rfl _ _ rfl rfl _ (Var.made _) sz (mcs_one _ _) ?_ | refine wpl_load rfl _ rfl _ rfl _ HV4.out ?_ | refine wpl_store rfl _ _ rfl _ _ rfl rfl _ HV6.out sz (mcs_one _ _) ?_)
  obtain ⟨w6, hw6⟩ : ∃ w6, w6 = (((w1.alloc (.cells (mcs 0 []) 54)).setRow w1.heap.size (mcs n l)).alloc (.cells (mcs 0 []) 54)).setRow (w1.heap.size + 1) (mcs n l) := ⟨_, rfl⟩
  have R6 : Var w6 (w.heap.size + 1) (mcs 0 []) := by rw [hw6]; exact (HV3.out.kept (one_more _)).far (by omega) _
  have M6 : Var w6 w1.heap.size (mcs n l) := by rw [hw6]; exact (HV4.out.kept (one_more _)).far (by omega) _
  have C6 : Mx w6 (w1.heap.size + 1) n l := by rw [hw6]; exact ⟨(HV6.out.put (mcs n l) sz).1, HL.out⟩
  have E6 : Below w.heap.size w w6 := by rw [hw6]; exact Below.setRow (HE.out.alloc (by simp; omega) _) (by omega) _
  rw [← hw6]
  have HR6 := Lib.hid R6
  have HM6 := Lib.hid M6
  have HC6 := Lib.hid C6
  have HE6 := Lib.hid E6
  clear hw6 R6 M6 C6 E6 HV3 HV4 HV6 HE CR
  simp only [Act.put]
  refine wp_region_held_drew (S := fun w' => Var w' w1.heap.size (mcs n l)) (by kernel_rfl) HM6.out (fun h0 => ?_)
  refine wpAnyH_take (i := 0) (v := .agg (mcs n l)) rfl (by kernel_rfl) (by kernel_rfl) (by kernel_rfl) (fun _ _ _ h => h) (Or.inl ⟨by rfl, fun w' hS => yld_load _ rfl _ rfl _ hS⟩) h0 ?_
  simp only [Act.put, List.getElem_toArray, List.getElem_cons_zero, List.setIfInBounds_toArray, List.set_cons_zero, List.set_cons_succ]
  refine wpAnyH_ready (rs := [1]) (by kernel_rfl) (by simp) (AllReadyH.cons rfl (fun K hK => ?_) AllReadyH.nil)
  rw [if_pos (by rfl)]
  go_simp
  refine (shorten_any (w1.heap.size + 1) n l w6.drew hn HC6.out.drew H64.out).mono ?_
  rintro e w7 ⟨rfl, l', hM, hc⟩
  go_simp
  have M7 : Var w7 w1.heap.size (mcs n l) := ⟨(hM.2.block _ HM6.out.lt (by simp)).trans HM6.out.1, HM6.out.2⟩
  have R7 := Lib.hid (show Var w7 (w.heap.size + 1) (mcs 0 []) from ⟨(hM.2.block _ HR6.out.lt (by simp; omega)).trans HR6.out.1, HR6.out.2⟩)
  have E7 := Lib.hid (grown_over HE6.out.drew hM.2 (by omega))
  have HM7 := Lib.hid hM.1
  have HC7 := Lib.hid hc
  clear hM hc hz HE6 HR6 HM6 HC6
  refine hK.out _ _ M7 (fun h1 => ?_)
  clear hK K h0 M7
  cases hB : cloB n l
  · simp only [Bool.not_false]
    have hcl := HC7.out hB
    subst hcl
    have HE := Lib.hid (show decide (chkE n l = 0) = decide (Zo.clo n l = l) by
      rw [decide_eq_decide, HC.out, hB]; simp)
    refine wpAnyH_take (i := 2) (v := .bool true) rfl (by kernel_rfl) (by kernel_rfl) (by kernel_rfl) (fun _ _ _ h => h) (Or.inl ⟨by rfl, fun w' hS => by go_simp⟩) h1 ?_
    simp only [Act.put, List.getElem_toArray, List.getElem_cons_zero, List.getElem_cons_succ, List.setIfInBounds_toArray, List.set_cons_zero, List.set_cons_succ]
    refine wpAnyH_take (i := 4) (v := .agg (mcs n l)) rfl (by kernel_rfl) (by kernel_rfl) (by kernel_rfl) (fun _ _ _ h => h) (Or.inl ⟨by rfl, fun w' hS => yld_load _ rfl _ rfl _ hS⟩) h1 ?_
    simp only [Act.put, List.getElem_toArray, List.getElem_cons_zero, List.getElem_cons_succ, List.setIfInBounds_toArray, List.set_cons_zero, List.set_cons_succ]
    have szc : (mcs n (Zo.clo n l)).size = 122 := mcs_size (by rw [Zo.clo_length, hl]; exact dsq_le hn)
    refine wpAnyH_ready (rs := [3, 7]) (by kernel_rfl) (by simp) (AllReadyH.cons rfl (fun K hK => ?_) (AllReadyH.cons rfl (fun K hK => ?_) AllReadyH.nil))
    · rw [if_pos (by rfl)]
      refine wp_load_row _ _ rfl (w1.heap.size + 1) rfl _ (mcs n (Zo.clo n l)) (0, 0) _ HM7.out.1 Tryz.underlying54 rfl (by rw [szc]; exact mx_size) ?_
      refine hK.out _ _ h1 (fun h2 => ?_)
      clear hK K
      simp only [Act.put, List.getElem_toArray, List.getElem_cons_zero, List.getElem_cons_succ, List.setIfInBounds_toArray, List.set_cons_zero, List.set_cons_succ]
      refine wpAnyH_take (i := 5) (v := .bool (decide (Zo.clo n l = l))) rfl (by kernel_rfl) (by kernel_rfl) (by kernel_rfl) (fun _ _ _ h => h) (Or.inl ⟨by rfl, fun w' _ => yld_eql _ _ _ rfl n (Zo.clo n l) l (by rw [Zo.clo_length, hl]; exact dsq_le hn) (by rw [Zo.clo_length]) rfl rfl⟩) h2 ?_
      simp only [Act.put, List.getElem_toArray, List.getElem_cons_zero, List.getElem_cons_succ, List.setIfInBounds_toArray, List.set_cons_zero, List.set_cons_succ]
      refine wpAnyH_take (i := 6) (v := .bool (decide (Zo.clo n l = l))) rfl (by kernel_rfl) (by kernel_rfl) (by kernel_rfl) (fun _ _ _ h => h) (Or.inl ⟨by rfl, fun w' hS => by go_simp⟩) h2 ?_
      simp only [Act.put, List.getElem_toArray, List.getElem_cons_zero, List.getElem_cons_succ, List.setIfInBounds_toArray, List.set_cons_zero, List.set_cons_succ]
      refine wpAnyH_ready (rs := [7]) (by kernel_rfl) (by simp) (AllReadyH.cons rfl (fun K hK => ?_) AllReadyH.nil)
      rw [if_pos (by rfl)]
      refine wp_store_row _ _ _ rfl (w.heap.size + 1) (mcs n l) rfl rfl _ _ R7.out.1 (by rw [sz]; exact mx_size) (by rw [R7.out.2, sz]) (mcs_one _ _) ?_
      refine hK.out _ _ (h2.far (by omega) _) (fun h3 => ?_)
      clear hK K
      simp only [Act.put, List.getElem_toArray, List.getElem_cons_zero, List.getElem_cons_succ]
      refine wpAnyH_take (i := 8) (v := .bool (decide (Zo.clo n l = l))) rfl (by kernel_rfl) (by kernel_rfl) (by kernel_rfl) (fun _ _ _ h => h) (Or.inl ⟨by rfl, fun w' hS => by go_simp⟩) h3 ?_
      simp only [Act.put, List.getElem_toArray, List.getElem_cons_zero, List.getElem_cons_succ, List.setIfInBounds_toArray, List.set_cons_zero, List.set_cons_succ]
      refine wpAnyH_done (by kernel_rfl) ?_ _
      go_wp2_with fail
      refine bodyPost_ret (results_mx Tryz.results37 _ rfl rfl (R7.out.put (mcs n l) sz)) rfl ⟨by rw [HE.out]; rfl, ?_⟩
      exact Below.setRow E7.out (by omega) _
    · rw [if_pos (by rfl)]
      refine wp_store_row _ _ _ rfl (w.heap.size + 1) (mcs n l) rfl rfl _ _ R7.out.1 (by rw [sz]; exact mx_size) (by rw [R7.out.2, sz]) (mcs_one _ _) ?_
      refine hK.out _ _ (h1.far (by omega) _) (fun h2 => ?_)
      clear hK K
      simp only [Act.put, List.getElem_toArray, List.getElem_cons_zero, List.getElem_cons_succ]
      refine wpAnyH_ready (rs := [3]) (by kernel_rfl) (by simp) (AllReadyH.cons rfl (fun K hK => ?_) AllReadyH.nil)
      rw [if_pos (by rfl)]
      refine wp_load_row _ _ rfl (w1.heap.size + 1) rfl _ (mcs n (Zo.clo n l)) (0, 0) _ ((setRow_other w7 _ _ _ (by omega)).trans HM7.out.1) Tryz.underlying54 rfl (by rw [szc]; exact mx_size) ?_
      refine hK.out _ _ h2 (fun h3 => ?_)
      clear hK K
      simp only [Act.put, List.getElem_toArray, List.getElem_cons_zero, List.getElem_cons_succ, List.setIfInBounds_toArray, List.set_cons_zero, List.set_cons_succ]
      refine wpAnyH_take (i := 5) (v := .bool (decide (Zo.clo n l = l))) rfl (by kernel_rfl) (by kernel_rfl) (by kernel_rfl) (fun _ _ _ h => h) (Or.inl ⟨by rfl, fun w' _ => yld_eql _ _ _ rfl n (Zo.clo n l) l (by rw [Zo.clo_length, hl]; exact dsq_le hn) (by rw [Zo.clo_length]) rfl rfl⟩) h3 ?_
      simp only [Act.put, List.getElem_toArray, List.getElem_cons_zero, List.getElem_cons_succ, List.setIfInBounds_toArray, List.set_cons_zero, List.set_cons_succ]
      refine wpAnyH_take (i := 6) (v := .bool (decide (Zo.clo n l = l))) rfl (by kernel_rfl) (by kernel_rfl) (by kernel_rfl) (fun _ _ _ h => h) (Or.inl ⟨by rfl, fun w' hS => by go_simp⟩) h3 ?_
      simp only [Act.put, List.getElem_toArray, List.getElem_cons_zero, List.getElem_cons_succ, List.setIfInBounds_toArray, List.set_cons_zero, List.set_cons_succ]
      refine wpAnyH_take (i := 8) (v := .bool (decide (Zo.clo n l = l))) rfl (by kernel_rfl) (by kernel_rfl) (by kernel_rfl) (fun _ _ _ h => h) (Or.inl ⟨by rfl, fun w' hS => by go_simp⟩) h3 ?_
      simp only [Act.put, List.getElem_toArray, List.getElem_cons_zero, List.getElem_cons_succ, List.setIfInBounds_toArray, List.set_cons_zero, List.set_cons_succ]
      refine wpAnyH_done (by kernel_rfl) ?_ _
      go_wp2_with fail
      refine bodyPost_ret (results_mx Tryz.results37 _ rfl rfl (R7.out.put (mcs n l) sz)) rfl ⟨by rw [HE.out]; rfl, ?_⟩
      exact Below.setRow E7.out (by omega) _
  · simp only [Bool.not_true]
    have HE := Lib.hid (show decide (chkE n l = 0) = false by
      rw [decide_eq_false_iff_not, HC.out, hB]; simp)
    clear hB HC7 HM7
    refine wpAnyH_take (i := 2) (v := .bool false) rfl (by kernel_rfl) (by kernel_rfl) (by kernel_rfl) (fun _ _ _ h => h) (Or.inl ⟨by rfl, fun w' hS => by go_simp⟩) h1 ?_
    simp only [Act.put, List.getElem_toArray, List.getElem_cons_zero, List.getElem_cons_succ, List.setIfInBounds_toArray, List.set_cons_zero, List.set_cons_succ]
    refine wpAnyH_take (i := 3) (v := undef) rfl (by kernel_rfl) (by kernel_rfl) (by kernel_rfl) (fun _ _ _ h => h) (Or.inr ⟨by rfl, rfl⟩) h1 ?_
    simp only [Act.put, List.getElem_toArray, List.getElem_cons_zero, List.getElem_cons_succ, List.setIfInBounds_toArray, List.set_cons_zero, List.set_cons_succ]
    refine wpAnyH_take (i := 4) (v := undef) rfl (by kernel_rfl) (by kernel_rfl) (by kernel_rfl) (fun _ _ _ h => h) (Or.inr ⟨by rfl, rfl⟩) h1 ?_
    simp only [Act.put, List.getElem_toArray, List.getElem_cons_zero, List.getElem_cons_succ, List.setIfInBounds_toArray, List.set_cons_zero, List.set_cons_succ]
    refine wpAnyH_take (i := 5) (v := undef) rfl (by kernel_rfl) (by kernel_rfl) (by kernel_rfl) (fun _ _ _ h => h) (Or.inr ⟨by rfl, rfl⟩) h1 ?_
    simp only [Act.put, List.getElem_toArray, List.getElem_cons_zero, List.getElem_cons_succ, List.setIfInBounds_toArray, List.set_cons_zero, List.set_cons_succ]
    refine wpAnyH_take (i := 6) (v := .bool false) rfl (by kernel_rfl) (by kernel_rfl) (by kernel_rfl) (fun _ _ _ h => h) (Or.inl ⟨by rfl, fun w' hS => by go_simp⟩) h1 ?_
    simp only [Act.put, List.getElem_toArray, List.getElem_cons_zero, List.getElem_cons_succ, List.setIfInBounds_toArray, List.set_cons_zero, List.set_cons_succ]
    refine wpAnyH_ready (rs := [7]) (by kernel_rfl) (by simp) (AllReadyH.cons rfl (fun K hK => ?_) AllReadyH.nil)
    rw [if_pos (by rfl)]
    refine wp_store_row _ _ _ rfl (w.heap.size + 1) (mcs n l) rfl rfl _ _ R7.out.1 (by rw [sz]; exact mx_size) (by rw [R7.out.2, sz]) (mcs_one _ _) ?_
    refine hK.out _ _ (h1.far (by omega) _) (fun h2 => ?_)
    clear hK K
    simp only [Act.put, List.getElem_toArray, List.getElem_cons_zero, List.getElem_cons_succ]
    refine wpAnyH_take (i := 8) (v := .bool false) rfl (by kernel_rfl) (by kernel_rfl) (by kernel_rfl) (fun _ _ _ h => h) (Or.inl ⟨by rfl, fun w' hS => by go_simp⟩) h2 ?_
    simp only [Act.put, List.getElem_toArray, List.getElem_cons_zero, List.getElem_cons_succ, List.setIfInBounds_toArray, List.set_cons_zero, List.set_cons_succ]
    refine wpAnyH_done (by kernel_rfl) ?_ _
    go_wp2_with fail
    refine bodyPost_ret (results_mx Tryz.results37 _ rfl rfl (R7.out.put (mcs n l) sz)) rfl ⟨by rw [HE.out]; rfl, ?_⟩
    exact Below.setRow E7.out (by omega) _
end Go.Proofs.YtbnebinpemejlaaGreat

namespace Go.Proofs.YtbnebinpemejlaaGreat
open Go.RowKit

theorem Cell.kept_row {w : World} {p : Addr} {v : Value} (h : Cell w p v) {b : Nat} (hne : p.block ≠ b) (cs : Array Value) : Cell (w.setRow b cs) p v :=
  ⟨by rw [cell_setRow_other w b cs p hne]; exact h.1, by unfold World.frozen?; rw [setRow_other w b _ cs hne]; exact h.2⟩

theorem Two.kept_row {w : World} {x : Nat} {u v : Value} (h : Two w x u v) {b : Nat} (hne : x ≠ b) (cs : Array Value) : Two (w.setRow b cs) x u v := ⟨h.1.kept_row hne cs, h.2.kept_row hne cs⟩

def okB (N : Int) (l : List Int) : Bool := decide (chkE N l = 0)

theorem open_gen (N : Int) (l : List Int) (ao : Option Addr) (cap : Nat) (w : World) (hA : Arg w ao l) :
    Calls Tryz.prog 37 #[.agg #[.int .i64 N, .slice ao l.length cap]] w (fun e w' => e = .returned (.tuple #[.agg (rdW N l), .bool (okB N l)]) ∧ Below w.heap.size w w') := by
  cases hr : rdB N l
  · refine (open_bad N l ao cap w hA hr).mono ?_
    rintro e w' ⟨rfl, hb⟩
    exact ⟨by unfold rdW okB; rw [hr, chk_read hr]; rfl, hb⟩
  · obtain ⟨n, rfl, hn, hl, hv⟩ := rdB_ok hr
    refine (open_ok n l ao cap w hA hn hl hv).mono ?_
    rintro e w' ⟨rfl, hb⟩
    exact ⟨by unfold rdW okB; rw [hr]; rfl, hb⟩

theorem rdW_size (N : Int) (l : List Int) : (rdW N l).size = 122 := by
  unfold rdW
  cases hr : rdB N l
  · exact mcs_size (by simp)
  · obtain ⟨n, rfl, hn, hl, hv⟩ := rdB_ok hr
    exact mcs_size (by rw [hl]; exact dsq_le hn)

theorem rdW_one (N : Int) (l : List Int) : (rdW N l).all (·.oneCell') = true := by
  unfold rdW; split <;> exact mcs_one _ _

theorem rdW_ok {n : Nat} {l : List Int} (h : chkE n l = 0) : rdW n l = mcs n l := by
  cases hr : rdB n l
  · rw [chk_read hr] at h; cases h
  · unfold rdW; rw [hr]; rfl

theorem chk_64 {n : Nat} {l : List Int} (h : chkE n l = 0) : Zo.A64 l ∧ rdL l = true := by
  cases hr : rdB n l
  · rw [chk_read hr] at h; cases h
  · obtain ⟨_, _, _, _, hv⟩ := rdB_ok hr
    exact ⟨a64_of hv, hv⟩

set_option maxRecDepth 100000 in
set_option maxHeartbeats 4000000 in
/-- changed, where nothing is changed. -/
theorem changed_bad (N : Int) (l : List Int) (ao : Option Addr) (cap : Nat) (al : Bool) (fv : Value) (w : World) (hA : Arg w ao l) (h : okB N l = false ∨ al = false) :
    Calls Tryz.prog 46 #[.agg #[.int .i64 N, .slice ao l.length cap], .bool al, fv] w (ZRes w 0 [] 2) := by
  have hz := mx_zero
  have sz := rdW_size N l
  have s1 := rdW_one N l
  have CO := Lib.hid (show ∀ W, Below w.heap.size w W → Calls Tryz.prog 37 #[.agg #[.int .i64 N, .slice ao l.length cap]] W (fun e w' => e = .returned (.tuple #[.agg (rdW N l), .bool (okB N l)]) ∧ Below W.heap.size W w') from fun W h => open_gen N l ao cap W (hA.on h))
  generalize rdW N l = A at *
  generalize okB N l = ok at *
  generalize l.length = len at *
  obtain ⟨w0, hw0⟩ : ∃ w0, w0 = (w.alloc (.cells #[.int .i64 N, .slice ao len cap] 24)).alloc (.cells #[.int .i64 0, .slice none 0 0] 24) := ⟨_, rfl⟩
  have bx : Two w0 w.heap.size (.int .i64 N) (.slice ao len cap) := by rw [hw0]; exact (Two.made _ _ _ _).alloc _
  have rs : Two w0 (w.heap.size + 1) (.int .i64 0) (.slice none 0 0) := by
    rw [hw0]
    have := Two.made (w.alloc (.cells #[.int .i64 N, .slice ao len cap] 24)) (.int .i64 0) (.slice none 0 0) 24
    simpa using this
  have E0 := Lib.hid (show Below w.heap.size w w0 by rw [hw0]; exact past_two (Below.refl _ _))
  clear hA
  go_enter Tryz.func46, Tryz.ntmps46
  go_wp2_with fail
  rw [← hw0]
  clear hw0
  obtain ⟨b0, b1, b2, b3⟩ := bx.facts
  go_wp2_with fail
  refine (CO.out _ E0.out).mono ?_
  rintro e w1 ⟨rfl, hb⟩
  have rs1 := rs.kept hb
  have HB := Lib.hid (below_on E0.out hb)
  have hlt := rs1.lt
  have hsz := HB.out.size
  have rs2 := (rs1.alloc (.cells (mcs 0 []) 54))
  have rs3 : Two ((w1.alloc (.cells (mcs 0 []) 54)).setRow w1.heap.size A) (w.heap.size + 1) (.int .i64 0) (.slice none 0 0) :=
    rs2.kept_row (by omega) A
  obtain ⟨q0, q1, q2, q3⟩ := rs3.facts
  have HE := Lib.hid (show Below w.heap.size w ((w1.alloc (.cells (mcs 0 []) 54)).setRow w1.heap.size A) from Below.setRow (HB.out.alloc hsz _) hsz _)
  clear bx rs rs1 rs2 rs3 hb b0 b1 b2 b3
  cases ok
  · go_wp2_with (refine wpl_store rfl _ _ rfl _ _ rfl rfl _ (Var.made _) sz s1 ?_)
    refine bodyPost_ret (v := .tuple #[.agg #[.int .i64 0, .slice none 0 0], .int .i64 2]) (by simp [results, Tryz.results46, go_sem, q0, q1]) rfl (zres_bad ?_)
    exact (HE.out.setCell (by show w.heap.size ≤ w.heap.size + 1; omega) _).setCell (by show w.heap.size ≤ w.heap.size + 1; omega) _
  · have ha : al = false := by rcases h with h | h; cases h; exact h
    subst ha
    go_wp2_with (refine wpl_store rfl _ _ rfl _ _ rfl rfl _ (Var.made _) sz s1 ?_)
    refine bodyPost_ret (v := .tuple #[.agg #[.int .i64 0, .slice none 0 0], .int .i64 2]) (by simp [results, Tryz.results46, go_sem, q0, q1]) rfl (zres_bad ?_)
    exact (HE.out.setCell (by show w.heap.size ≤ w.heap.size + 1; omega) _).setCell (by show w.heap.size ≤ w.heap.size + 1; omega) _

set_option maxRecDepth 100000 in
set_option maxHeartbeats 4000000 in
/-- changed, where the change makes gl of the matrix. -/
theorem changed_ok (n : Nat) (l gl : List Int) (ao : Option Addr) (cap : Nat) (f : FuncId) (caps : Array Value) (w : World) (hA : Arg w ao l) (hn : n ≤ 10) (hl : l.length = (n + 1) * (n + 1)) (hc : chkE n l = 0) (h64 : Zo.A64 gl)
    (HF : ∀ (args : Array Value) (W : World), (callFunc f args).run Tryz.prog W = .ok (.enter f args) W)
    (CF : ∀ W b, Below w.heap.size w W → w.heap.size ≤ b → Mx W b n l → Calls Tryz.prog f (#[.pointer (some ⟨b, 0, none⟩)] ++ caps) W (fun e w' => e = .returned (.tuple #[]) ∧ MSt W b n gl w')) :
    Calls Tryz.prog 46 #[.agg #[.int .i64 n, .slice ao l.length cap], .bool true, .func (.func f) #[] caps] w (ZRes w n (Zo.clo n gl) (cloE n gl)) := by
  have hz := mx_zero
  have sz : (mcs n l).size = 122 := mcs_size (by rw [hl]; exact dsq_le hn)
  have s1 := mcs_one n l
  have CO := Lib.hid (show ∀ W, Below w.heap.size w W → Calls Tryz.prog 37 #[.agg #[.int .i64 n, .slice ao l.length cap]] W (fun e w' => e = .returned (.tuple #[.agg (mcs n l), .bool true]) ∧ Below W.heap.size W w') from fun W h => by
    have := open_gen n l ao cap W (hA.on h)
    rwa [rdW_ok hc, show okB n l = true by unfold okB; rw [hc]; rfl] at this)
  have HCF := Lib.hid CF
  have HMZ := Lib.hid (fun (b : Nat) (W : World) (h : Mx W b n gl) => mzone_any b n gl W hn h h64)
  have HLE := Lib.hid hl
  generalize l.length = len at CO ⊢
  obtain ⟨w0, hw0⟩ : ∃ w0, w0 = (w.alloc (.cells #[.int .i64 n, .slice ao len cap] 24)).alloc (.cells #[.int .i64 0, .slice none 0 0] 24) := ⟨_, rfl⟩
  have bx : Two w0 w.heap.size (.int .i64 n) (.slice ao len cap) := by rw [hw0]; exact (Two.made _ _ _ _).alloc _
  have rs : Two w0 (w.heap.size + 1) (.int .i64 0) (.slice none 0 0) := by
    rw [hw0]
    have := Two.made (w.alloc (.cells #[.int .i64 n, .slice ao len cap] 24)) (.int .i64 0) (.slice none 0 0) 24
    simpa using this
  have E0 := Lib.hid (show Below w.heap.size w w0 by rw [hw0]; exact past_two (Below.refl _ _))
  clear hA hl hc h64 CF
  go_enter Tryz.func46, Tryz.ntmps46
  go_wp2_with fail
  rw [← hw0]
  clear hw0
  obtain ⟨b0, b1, b2, b3⟩ := bx.facts
  go_wp2_with fail
  refine (CO.out _ E0.out).mono ?_
  rintro e w1 ⟨rfl, hb⟩
  have rs1 := rs.kept hb
  have HB := Lib.hid (below_on E0.out hb)
  have hlt := rs1.lt
  have hsz := HB.out.size
  have rs2 := (rs1.alloc (.cells (mcs 0 []) 54))
  obtain ⟨w2, hw2⟩ : ∃ w2, w2 = (w1.alloc (.cells (mcs 0 []) 54)).setRow w1.heap.size (mcs n l) := ⟨_, rfl⟩
  have rs3 : Two w2 (w.heap.size + 1) (.int .i64 0) (.slice none 0 0) := by rw [hw2]; exact rs2.kept_row (by omega) _
  have M2 : Mx w2 w1.heap.size n l := by rw [hw2]; exact ⟨((Var.made w1).put (mcs n l) sz).1, HLE.out⟩
  have HRS := Lib.hid rs3
  have HM2 := Lib.hid M2
  have HE := Lib.hid (show Below w.heap.size w w2 by rw [hw2]; exact Below.setRow (HB.out.alloc hsz _) hsz _)
  clear bx rs rs1 rs2 rs3 M2 hb b0 b1 b2 b3
  go_wp2_with (refine wpl_store rfl _ _ rfl _ _ rfl rfl _ (Var.made _) sz s1 ?_)
  rw [← hw2]
  clear hw2
  go_wp2_with fail
  refine (HCF.out _ _ HE.out hsz HM2.out).mono ?_
  rintro e w3 ⟨rfl, hM⟩
  have HM3 := Lib.hid hM.1
  have E3 := Lib.hid (grown_over HE.out hM.2 hsz)
  have rs3 := HRS.out.grown hM.2 (by omega)
  have HR3 := Lib.hid rs3
  clear hM rs3 HF HCF
  go_wp2_with fail
  refine (HMZ.out _ _ HM3.out).mono ?_
  intro e w4 hG
  obtain ⟨hg4, hres⟩ := hG
  have E4 := Lib.hid (grown_over E3.out hg4 hsz)
  obtain ⟨q0, q1, q2, q3⟩ := (HR3.out.grown hg4 (by omega)).facts
  have h34 := E3.out.size
  rcases hres with ⟨he, g, c, rfl, hgl, hO⟩ | ⟨he, rfl⟩
  · have HO := Lib.hid hO
    have HEE := Lib.hid he
    clear hO hg4 he
    go_wp2_with fail
    refine bodyPost_ret (v := .tuple #[.agg #[.int .i64 n, .slice (some ⟨g, 0, none⟩) (Zo.clo n gl).length c], .int .i64 0]) (by simp [results, Tryz.results46, go_sem, q0, q1]) rfl ⟨?_, Or.inl ⟨HEE.out, g, c, rfl, by omega, put_far HO.out (by have := HR3.out.lt; omega) _ _⟩⟩
    exact (E4.out.setCell (by show w.heap.size ≤ w.heap.size + 1; omega) _).setCell (by show w.heap.size ≤ w.heap.size + 1; omega) _
  · have HEE := Lib.hid he
    clear hg4 he
    go_wp2_with fail
    refine bodyPost_ret (v := .tuple #[.agg #[.int .i64 0, .slice none 0 0], .int .i64 (cloE n gl)]) (by simp [results, Tryz.results46, go_sem, q0, q1]) rfl ⟨?_, Or.inr ⟨HEE.out, rfl⟩⟩
    exact (E4.out.setCell (by show w.heap.size ≤ w.heap.size + 1; omega) _).setCell (by show w.heap.size ≤ w.heap.size + 1; omega) _
end Go.Proofs.YtbnebinpemejlaaGreat

namespace Go.Proofs.YtbnebinpemejlaaGreat.Zo

theorem At_ext {n : Nat} {x y : List Int} (hx : x.length = (n + 1) * (n + 1)) (hy : y.length = (n + 1) * (n + 1)) (h : ∀ a b, a ≤ n → b ≤ n → At n x a b = At n y a b) : x = y := by
  refine List.ext_getElem (by omega) fun i h1 h2 => ?_
  have c1 : i / (n + 1) ≤ n := by
    have : i < (n + 1) * (n + 1) := by omega
    have := Nat.div_lt_of_lt_mul this
    omega
  have c2 : i % (n + 1) ≤ n := by have := Nat.mod_lt i (show 0 < n + 1 by omega); omega
  have := h _ _ c1 c2
  unfold At ix gt at this
  rw [show i / (n + 1) * (n + 1) + i % (n + 1) = i by rw [Nat.mul_comm]; exact Nat.div_add_mod i (n + 1)] at this
  simpa [h1, h2] using this

theorem pre_at {n : Nat} {l : List Int} (hl : l.length = (n + 1) * (n + 1)) {a b : Nat} (ha : a ≤ n) (hb : b ≤ n) : At n (pre n l) a b = if a = 0 ∨ a = b then min (At n l a b) 1 else At n l a b := by
  have h : ∀ t, t ≤ n + 1 → ((List.range t).foldl (st1 n) l).length = (n + 1) * (n + 1) ∧ At n ((List.range t).foldl (st1 n) l) a b = if (a = 0 ∨ a = b) ∧ b < t then min (At n l a b) 1 else At n l a b := by
    intro t
    induction t with
    | zero => intro _; exact ⟨hl, by simp⟩
    | succ t ih =>
      intro ht
      obtain ⟨h1, h2⟩ := ih (by omega)
      rw [fold_succ]
      generalize (List.range t).foldl (st1 n) l = Y at *
      refine ⟨by simpa [st1] using h1, ?_⟩
      have e : st1 n Y t = (Y.set (ix n 0 t) (min (At n Y 0 t) 1)).set (ix n t t) (min (At n (Y.set (ix n 0 t) (min (At n Y 0 t) 1)) t t) 1) := rfl
      have l1 : (Y.set (ix n 0 t) (min (At n Y 0 t) 1)).length = (n + 1) * (n + 1) := by simpa using h1
      rw [e, At_set l1 (by omega) (by omega) _ hb, At_set h1 (by omega) (by omega) _ hb, At_set h1 (by omega) (by omega) _ (by omega)]
      by_cases c : b = t
      · subst c
        by_cases ca : a = 0
        · subst ca
          have e1 : At n Y 0 b = At n l 0 b := by rw [h2, if_neg (by omega)]
          by_cases cb : b = 0
          · subst cb; simp [e1]
          · rw [if_neg (by omega), if_pos ⟨rfl, rfl⟩, if_pos ⟨Or.inl rfl, by omega⟩, e1]
        · by_cases cb : a = b
          · subst cb
            have e1 : At n Y a a = At n l a a := by rw [h2, if_neg (by omega)]
            rw [if_pos ⟨rfl, rfl⟩, if_neg (by omega), if_pos ⟨Or.inr rfl, by omega⟩, e1]
          · rw [if_neg (by omega), if_neg (by omega), if_neg (by omega), h2, if_neg (by omega)]
      · rw [if_neg (by omega), if_neg (by omega), h2]
        by_cases ca : (a = 0 ∨ a = b) ∧ b < t
        · rw [if_pos ca, if_pos ⟨ca.1, by omega⟩]
        · rw [if_neg ca, if_neg (by omega)]
  have := (h (n + 1) (Nat.le_refl _)).2
  rw [show (List.range (n + 1)).foldl (st1 n) l = pre n l from rfl] at this
  rw [this]
  by_cases c : a = 0 ∨ a = b
  · rw [if_pos ⟨c, by omega⟩, if_pos c]
  · rw [if_neg (by omega), if_neg c]

theorem pre_len {n : Nat} {l : List Int} (hl : l.length = (n + 1) * (n + 1)) : (pre n l).length = (n + 1) * (n + 1) := rnd_length hl 0 (by omega)

theorem pre_eq {n : Nat} {x y : List Int} (hx : x.length = (n + 1) * (n + 1)) (hy : y.length = (n + 1) * (n + 1))
    (h : ∀ a b, a ≤ n → b ≤ n → (a ≠ 0 ∧ a ≠ b → At n x a b = At n y a b) ∧ (a = 0 ∨ a = b → min (At n x a b) 1 = min (At n y a b) 1)) : pre n x = pre n y := by
  refine At_ext (pre_len hx) (pre_len hy) fun a b ha hb => ?_
  rw [pre_at hx ha hb, pre_at hy ha hb]
  by_cases c : a = 0 ∨ a = b
  · rw [if_pos c, if_pos c]; exact (h a b ha hb).2 c
  · rw [if_neg c, if_neg c]; exact (h a b ha hb).1 (by omega)

theorem clo_pre {n : Nat} {x y : List Int} (h : pre n x = pre n y) : clo n x = clo n y := by unfold clo; rw [h]

/-- A fold of stores: each place gets its own value. -/
theorem fold_at {n : Nat} {N : Nat} {f : List Int → Nat → List Int} {p : Nat → Nat → Nat → Bool} {v : Int} (hf : ∀ (x : List Int) t, t < N → x.length = (n + 1) * (n + 1) → (f x t).length = (n + 1) * (n + 1) ∧ ∀ a b, a ≤ n → b ≤ n → At n (f x t) a b = if p t a b then v else At n x a b)
    {l : List Int} (hl : l.length = (n + 1) * (n + 1)) : ∀ t, t ≤ N → ((List.range t).foldl f l).length = (n + 1) * (n + 1) ∧ ∀ a b, a ≤ n → b ≤ n → At n ((List.range t).foldl f l) a b = if (List.range t).any (fun s => p s a b) then v else At n l a b := by
  intro t
  induction t with
  | zero => intro _; exact ⟨hl, fun a b _ _ => by simp⟩
  | succ t ih =>
    intro ht
    obtain ⟨h1, h2⟩ := ih (by omega)
    rw [fold_succ]
    obtain ⟨h3, h4⟩ := hf _ t (by omega) h1
    refine ⟨h3, fun a b ha hb => ?_⟩
    rw [h4 a b ha hb, h2 a b ha hb, List.range_succ, List.any_append]
    cases h5 : p t a b <;> cases h6 : (List.range t).any (fun s => p s a b) <;> simp [h5]
end Go.Proofs.YtbnebinpemejlaaGreat.Zo

namespace Go.Proofs.YtbnebinpemejlaaGreat
open Go.RowKit

def frS (n i : Nat) (x : List Int) (t : Nat) : List Int := if t = i then x else (x.set (Zo.ix n i t) 1099511627776).set (Zo.ix n t i) 1099511627776

def frL (n i : Nat) (l : List Int) : List Int := (List.range (n + 1)).foldl (frS n i) l

theorem frS_len (n i : Nat) (x : List Int) (t : Nat) : (frS n i x t).length = x.length := by unfold frS; split <;> simp

theorem frL_len (n i : Nat) (l : List Int) : (frL n i l).length = l.length := fold_len (frS_len n i) l (n + 1)

def frB (N i : Int) : Bool := decide (1 ≤ i ∧ i ≤ N)

def frE (N : Int) (l : List Int) (i : Int) : Int := if chkE N l = 0 ∧ 1 ≤ i ∧ i ≤ N then cloE N.toNat (frL N.toNat i.toNat l) else 2
end Go.Proofs.YtbnebinpemejlaaGreat
