/- later of the statements of layer 3.; Arguments opened: a Case, a point.; The contract of layer 3's Includes.; The contract of layer 3's Point, once more: its list has a block. -/
import Derived.Test.YtbnebinpemejlaaHx5
import Derived.Test.YtbnebinpemejlaaHx2
import Derived.Test.YtbnebinpemejlaaHc4
import Derived.Test.YtbnebinpemejlaaHc10
import Derived.Test.YtbnebinpemejlaaHx3
import Derived.Test.YtbnebinpemejlaaHc8

namespace Go.Proofs.Ytbnebinpemejlaa
open Go.RowKit

set_option maxRecDepth 100000 in
set_option maxHeartbeats 4000000 in
theorem later_is (N : Int) (ao : Option Addr) (len cap : Nat) (ps : List Pq) (pb : Addr) (pc : Nat) (dn dd : Int) (x : Dl) (qs : List Pq) (hq : Bool) (w : World) (hl : ps.length ≤ 50) (h0 : 0 ≤ dn)
    (VD : Hid (∀ W, Calls Try.prog 107 #[.agg #[.int .i64 dn, .int .i64 dd]] W (Made (.bool true) W)))
    (hP : Rd2 w pb ps) (ae : Nat → Int) (HQL : qs.length = ps.length)
    (AD : Hid (∀ W k, k < ps.length → Calls Try.prog 99 #[.agg #[.int .i64 (gp ps k).1, .int .i64 (gp ps k).2], .agg #[.int .i64 dn, .int .i64 dd]] W (Made (.tuple #[.agg #[.int .i64 (gp qs k).1, .int .i64 (gp qs k).2], .int .i64 (ae k)]) W)))
    (hae : ∀ k, k < ps.length → ae k = 0)
    (HQ : Hid (∀ W qo qc, Arg2 W qo qs → (qo = none → qc = 0) → Below w.heap.size w W → Calls Try.prog 46 #[.agg #[.int .i64 N, .slice ao len cap], .slice qo ps.length qc] W (Made (.tuple #[.bool hq, .int .i64 0]) W)))
    (k1 k2 : Int) (C1 : Hid (∀ W, Calls Try.prog 108 #[.agg #[.int .i64 x.ln, .int .i64 x.ld], .agg #[.int .i64 dn, .int .i64 dd]] W (Made (.tuple #[.int .i64 k1, .int .i64 0]) W)))
    (C2 : Hid (x.nh = false → ∀ W, Calls Try.prog 108 #[.agg #[.int .i64 dn, .int .i64 dd], .agg #[.int .i64 x.hn, .int .i64 x.hd]] W (Made (.tuple #[.int .i64 k2, .int .i64 0]) W)))
    (hin : hq = ((decide (k1 < 0) || (decide (k1 = 0) && !x.lo)) && (x.nh || (decide (k2 < 0) || (decide (k2 = 0) && !x.ho))))) :
    Calls Try.prog 52 #[.agg #[.int .i64 N, .slice ao len cap], .slice (some pb) ps.length pc, .agg #[.int .i64 dn, .int .i64 dd], .agg #[.int .i64 x.ln, .int .i64 x.ld, .int .i64 x.hn, .int .i64 x.hd, .bool x.lo, .bool x.ho, .bool x.nh], .int .i64 0] w (Made (.bool true) w) := by
  obtain ⟨i0, hi, hz0, hz1, hz2⟩ := info_parts rat_info
  have RP := Lib.hid (show ∀ W, Below w.heap.size w W → Rd2 W pb ps from fun W h => hP.on h)
  have HAE := Lib.hid hae
  have HQL2 := Lib.hid HQL
  have HTK := Lib.hid (show ∀ t, t < ps.length → qs.take (t + 1) = qs.take t ++ [gp qs t] from fun t ht => by
    rw [List.take_add_one]
    simp [gp, show t < qs.length by omega])
  clear hP hae HQL
  have HLEN := Lib.hid hl
  have G0 : decide (dn < 0) = false := decide_eq_false (by omega)
  obtain ⟨b1, hb1⟩ : ∃ b1, b1 = (decide (k1 < 0) || (decide (k1 = 0) && !x.lo)) := ⟨_, rfl⟩
  obtain ⟨b2, hb2⟩ : ∃ b2, b2 = (decide (k2 < 0) || (decide (k2 = 0) && !x.ho)) := ⟨_, rfl⟩
  rw [← hb1, ← hb2] at hin
  have HB1 := Lib.hid hb1
  have HB2 := Lib.hid hb2
  have HIN := Lib.hid hin
  clear hb1 hb2 hin
  clear h0
  obtain ⟨w0, hw0⟩ : ∃ w0, w0 = (((w.alloc (.cells #[.int .i64 N, .slice ao len cap] 25)).alloc (.cells #[.int .i64 dn, .int .i64 dd] 52)).alloc (.cells #[.int .i64 x.ln, .int .i64 x.ld, .int .i64 x.hn, .int .i64 x.hd, .bool x.lo, .bool x.ho, .bool x.nh] 64)) := ⟨_, rfl⟩
  have BZ := Lib.hid (show Bx w0 w.heap.size #[.int .i64 N, .slice ao len cap] by rw [hw0]; exact ((Bx.made _ _ _).kept (one_more _)).kept (one_more _))
  have BD := Lib.hid (show Bx w0 (w.heap.size + 1) #[.int .i64 dn, .int .i64 dd] by
    rw [hw0]
    have := (Bx.made (w.alloc (.cells #[.int .i64 N, .slice ao len cap] 25)) #[.int .i64 dn, .int .i64 dd] 52).kept (one_more (.cells #[.int .i64 x.ln, .int .i64 x.ld, .int .i64 x.hn, .int .i64 x.hd, .bool x.lo, .bool x.ho, .bool x.nh] 64))
    simpa using this)
  have BS := Lib.hid (show Bx w0 (w.heap.size + 2) #[.int .i64 x.ln, .int .i64 x.ld, .int .i64 x.hn, .int .i64 x.hd, .bool x.lo, .bool x.ho, .bool x.nh] by
    rw [hw0]
    have := Bx.made ((w.alloc (.cells #[.int .i64 N, .slice ao len cap] 25)).alloc (.cells #[.int .i64 dn, .int .i64 dd] 52)) #[.int .i64 x.ln, .int .i64 x.ld, .int .i64 x.hn, .int .i64 x.hd, .bool x.lo, .bool x.ho, .bool x.nh] 64
    simpa using this)
  have E0 := Lib.hid (show Below w.heap.size w w0 by rw [hw0]; exact past_three (Below.refl _ _))
  have KF := Lib.hid (show ∀ W, Below w0.heap.size w0 W → (W.cell? ⟨w.heap.size, 0, none⟩ = some (.int .i64 N) ∧ W.cell? ⟨w.heap.size, 1, none⟩ = some (.slice ao len cap) ∧ W.cell? ⟨w.heap.size + 1, 0, none⟩ = some (.int .i64 dn) ∧ W.cell? ⟨w.heap.size + 1, 1, none⟩ = some (.int .i64 dd) ∧ W.cell? ⟨w.heap.size + 2, 0, none⟩ = some (.int .i64 x.ln) ∧ W.cell? ⟨w.heap.size + 2, 1, none⟩ = some (.int .i64 x.ld) ∧ W.cell? ⟨w.heap.size + 2, 2, none⟩ = some (.int .i64 x.hn) ∧ W.cell? ⟨w.heap.size + 2, 3, none⟩ = some (.int .i64 x.hd) ∧ W.cell? ⟨w.heap.size + 2, 4, none⟩ = some (.bool x.lo) ∧ W.cell? ⟨w.heap.size + 2, 5, none⟩ = some (.bool x.ho) ∧ W.cell? ⟨w.heap.size + 2, 6, none⟩ = some (.bool x.nh)) from fun W h => ⟨(BZ.out.kept h).cell 0, (BZ.out.kept h).cell 1, (BD.out.kept h).cell 0, (BD.out.kept h).cell 1, (BS.out.kept h).cell 0, (BS.out.kept h).cell 1, (BS.out.kept h).cell 2, (BS.out.kept h).cell 3, (BS.out.kept h).cell 4, (BS.out.kept h).cell 5, (BS.out.kept h).cell 6⟩)
  clear BZ BD BS
  go_enter Try.func52, Try.ntmps52
  go_upto_region 1 with (fail)
  rw [← hw0]
  clear hw0
  obtain ⟨z0, z1, d0, d1, s0, s1, s2, s3, s4, s5, s6⟩ := KF.out _ (Below.refl _ _)
  go_wp2_with fail
  refine (VD.out _).mono ?_
  rintro e w1 ⟨rfl, hb⟩
  have B1 := Lib.hid hb
  clear hb z0 z1 d0 d1 s0 s1 s2 s3 s4 s5 s6 VD
  obtain ⟨z0, z1, d0, d1, s0, s1, s2, s3, s4, s5, s6⟩ := KF.out _ (B1.out)
  go_wp2_with fail
  clear z0 z1 d0 d1 s0 s1 s2 s3 s4 s5 s6
  go_loopw [11, 12] (fun v s wr => ∃ t : Nat, t ≤ ps.length ∧ s = .int .i64 (t : Int) ∧ Hid (wr.ownsRow w0.heap.size 52 2 v t (qV (qs.take t)) ∧ Below w0.heap.size w0 wr) ∧ Hid (∀ k, k < t → ae k = 0)) (fun _ s _ => ps.length - (intOf s).toNat)
  case atStart => exact ⟨0, by omega, rfl, Lib.hid ⟨World.ownsRow_nil _ _ _ _, B1.out⟩, Lib.hid (fun k hk => absurd hk (by omega))⟩
  case round =>
    obtain ⟨t, ht, rfl, HX, HAL⟩ := hrel
    by_cases htn : t < ps.length
    case pos =>
      have TB : decide ((t : Int) < (ps.length : Int)) = true := by simp; omega
      have tb : (t : Int) < 50 := by have := HLEN.out; omega
      have kl : (t : Int) < (ps.length : Int) := by omega
      have AT := Lib.hid (fun W => AD.out W t htn)
      have RT := Lib.hid (fun W h => RP.out W h t htn)
      have HTT := Lib.hid (HTK.out t htn)
      have HAT := Lib.hid (show ae t = ae t from rfl)
      generalize gp ps t = pq at *
      obtain ⟨pn, pd⟩ := pq
      generalize gp qs t = qq at *
      obtain ⟨an, ad⟩ := qq
      obtain ⟨ev, hev⟩ : ∃ ev, ev = ae t := ⟨_, rfl⟩
      rw [← hev] at AT
      have HEV := Lib.hid hev
      clear hev HAT
      go_upto_region 7 with (fail)
      go_cut [13, 14] (fun p s wx => ∃ b : Nat, p = .pointer (some ⟨b, 0, none⟩) ∧ s = .int .i64 ev ∧ Hid (Pair wx b an ad ∧ Below wr.heap.size wr wx))
      case first =>
        have KS := Lib.hid (show ∀ W, Below wr.heap.size wr W → ((W.cell? (pb.add (t * 2)) = some (.int .i64 pn) ∧ W.cell? ⟨(pb.add (t * 2)).block, (pb.add (t * 2)).off + 1, none⟩ = some (.int .i64 pd)) ∧ (W.cell? ⟨w.heap.size + 1, 0, none⟩ = some (.int .i64 dn) ∧ W.cell? ⟨w.heap.size + 1, 1, none⟩ = some (.int .i64 dd))) from fun W h => by
          have hB := below_on HX.out.2 h
          have k := KF.out _ hB
          exact ⟨RT.out _ (below_on E0.out hB), k.2.2.1, k.2.2.2.1⟩)
        obtain ⟨wc, hwc⟩ : ∃ wc, wc = wr.drew := ⟨_, rfl⟩
        have Bc := Lib.hid (show Below wr.heap.size wr wc by rw [hwc]; exact (Below.refl _ _).drew)
        refine wp_region_held_drew (S := (fun W => ((W.cell? (pb.add (t * 2)) = some (.int .i64 pn) ∧ W.cell? ⟨(pb.add (t * 2)).block, (pb.add (t * 2)).off + 1, none⟩ = some (.int .i64 pd)) ∧ (W.cell? ⟨w.heap.size + 1, 0, none⟩ = some (.int .i64 dn) ∧ W.cell? ⟨w.heap.size + 1, 1, none⟩ = some (.int .i64 dd))))) (by kernel_rfl) (by rw [← hwc]; exact KS.out _ Bc.out) (fun h0 => ?_)
        rw [← hwc] at h0 ⊢
        clear hwc
        refine wpAnyH_take (i := 0) (v := ?v40) rfl (by kernel_rfl) (by kernel_rfl) (by kernel_rfl) (fun _ _ _ h => h) (Or.inl ⟨by rfl, ?hy40⟩) h0 ?rest40
        case hy40 => (intro w' hS; (try dsimp only at hS); go_simp; try (with_reducible rfl))
        simp only [Act.put, List.getElem_toArray, List.getElem_cons_zero, List.setIfInBounds_toArray, List.set_cons_zero, List.set_cons_succ]
        refine wpAnyH_take (i := 1) (v := ?v41) rfl (by kernel_rfl) (by kernel_rfl) (by kernel_rfl) (fun _ _ _ h => h) (Or.inl ⟨by rfl, ?hy41⟩) h0 ?rest41
        case hy41 => (intro w' hS; (try dsimp only at hS); go_simp; try (with_reducible rfl))
        simp only [Act.put, List.getElem_toArray, List.getElem_cons_zero, List.getElem_cons_succ, List.setIfInBounds_toArray, List.set_cons_zero, List.set_cons_succ]
        refine wpAnyH_take (i := 2) (v := ?v42) rfl (by kernel_rfl) (by kernel_rfl) (by kernel_rfl) (fun _ _ _ h => h) (Or.inl ⟨by rfl, ?hy42⟩) h0 ?rest42
        case hy42 => (intro w' hS; (try dsimp only at hS); go_simp; try (with_reducible rfl))
        simp only [Act.put, List.getElem_toArray, List.getElem_cons_zero, List.getElem_cons_succ, List.setIfInBounds_toArray, List.set_cons_zero, List.set_cons_succ]
        refine wpAnyH_take (i := 3) (v := ?v43) rfl (by kernel_rfl) (by kernel_rfl) (by kernel_rfl) (fun _ _ _ h => h) (Or.inl ⟨by rfl, ?hy43⟩) h0 ?rest43
        case hy43 => (intro w' hS; (try dsimp only at hS); go_simp; try (with_reducible rfl))
        simp only [Act.put, List.getElem_toArray, List.getElem_cons_zero, List.getElem_cons_succ, List.setIfInBounds_toArray, List.set_cons_zero, List.set_cons_succ]
        refine wpAnyH_take (i := 4) (v := ?v44) rfl (by kernel_rfl) (by kernel_rfl) (by kernel_rfl) (fun _ _ _ h => h) (Or.inl ⟨by rfl, ?hy44⟩) h0 ?rest44
        case hy44 => (intro w' hS; (try dsimp only at hS); go_simp; try (with_reducible rfl))
        simp only [Act.put, List.getElem_toArray, List.getElem_cons_zero, List.getElem_cons_succ, List.setIfInBounds_toArray, List.set_cons_zero, List.set_cons_succ]
        refine wpAnyH_ready (rs := [5, 9]) (by kernel_rfl) (by simp) (AllReadyH.cons rfl (fun K hK => ?_) (AllReadyH.cons rfl (fun K hK => ?_) AllReadyH.nil))
        · rw [if_pos (by rfl)]
          go_simp
          refine (AT.out _).mono ?_
          rintro e wc ⟨rfl, hb⟩
          try (have PA := Lib.hid (PA.out.kept hb))
          have Bc := Lib.hid (below_on Bc.out hb)
          clear hb
          go_simp
          refine hK.out _ _ (KS.out _ Bc.out) (fun h0_1 => ?_)
          clear hK K h0
          refine wpAnyH_take (i := 6) (v := ?v45) rfl (by kernel_rfl) (by kernel_rfl) (by kernel_rfl) (fun _ _ _ h => h) (Or.inl ⟨by rfl, ?hy45⟩) h0_1 ?rest45
          case hy45 => (intro w' hS; (try dsimp only at hS); go_simp; try (with_reducible rfl))
          simp only [Act.put, List.getElem_toArray, List.getElem_cons_zero, List.getElem_cons_succ, List.setIfInBounds_toArray, List.set_cons_zero, List.set_cons_succ]
          refine wpAnyH_take (i := 7) (v := ?v46) rfl (by kernel_rfl) (by kernel_rfl) (by kernel_rfl) (fun _ _ _ h => h) (Or.inl ⟨by rfl, ?hy46⟩) h0_1 ?rest46
          case hy46 => (intro w' hS; (try dsimp only at hS); go_simp; try (with_reducible rfl))
          simp only [Act.put, List.getElem_toArray, List.getElem_cons_zero, List.getElem_cons_succ, List.setIfInBounds_toArray, List.set_cons_zero, List.set_cons_succ]
          refine wpAnyH_take (i := 8) (v := ?v47) rfl (by kernel_rfl) (by kernel_rfl) (by kernel_rfl) (fun _ _ _ h => h) (Or.inl ⟨by rfl, ?hy47⟩) h0_1 ?rest47
          case hy47 => (intro w' hS; (try dsimp only at hS); go_simp; try (with_reducible rfl))
          simp only [Act.put, List.getElem_toArray, List.getElem_cons_zero, List.getElem_cons_succ, List.setIfInBounds_toArray, List.set_cons_zero, List.set_cons_succ]
          refine wpAnyH_ready (rs := [9]) (by kernel_rfl) (by simp) (AllReadyH.cons rfl (fun K hK => ?_) AllReadyH.nil)
          rw [if_pos (by rfl)]
          go_simp
          obtain ⟨b9, hb9⟩ : ∃ b, b = wc.heap.size := ⟨_, rfl⟩
          rw [← hb9]
          have hmade := Pair.made wc 0 0 52
          rw [← hb9] at hmade
          have hone := one_more (w1 := wc) (.cells #[.int .i64 0, .int .i64 0] 52)
          have LB := Lib.hid (show wr.heap.size ≤ b9 by have := Bc.out.size; omega)
          have Bc := Lib.hid (below_on Bc.out hone)
          have PA := Lib.hid hmade
          clear hmade hone hb9
          generalize wc.alloc (.cells #[.int .i64 0, .int .i64 0] 52) = wc at *
          go_simp
          refine hK.out _ _ (KS.out _ Bc.out) (fun h0_2 => ?_)
          clear hK K h0_1
          refine wpAnyH_ready (rs := [10]) (by kernel_rfl) (by simp) (AllReadyH.cons rfl (fun K hK => ?_) AllReadyH.nil)
          rw [if_pos (by rfl)]
          obtain ⟨p0, p1, p2, p3⟩ := PA.out.facts
          go_simp
          have hput := PA.out.put an ad
          have hP := Lib.hid (far_below Bc.out (x := b9) LB.out (.int .i64 an) (.int .i64 ad))
          clear p0 p1 p2 p3
          generalize (wc.setCell ⟨b9, 0, none⟩ (.int .i64 an)).setCell ⟨b9, 1, none⟩ (.int .i64 ad) = wc at *
          have Bc := hP
          have PA := Lib.hid hput
          clear hP hput
          refine hK.out _ _ (KS.out _ Bc.out) (fun h0_3 => ?_)
          clear hK K h0_2
          refine wpAnyH_take (i := 11) (v := ?v48) rfl (by kernel_rfl) (by kernel_rfl) (by kernel_rfl) (fun _ _ _ h => h) (Or.inl ⟨by rfl, ?hy48⟩) h0_3 ?rest48
          case hy48 => (intro w' hS; (try dsimp only at hS); go_simp; try (with_reducible rfl))
          simp only [Act.put, List.getElem_toArray, List.getElem_cons_zero, List.getElem_cons_succ, List.setIfInBounds_toArray, List.set_cons_zero, List.set_cons_succ]
          refine wpAnyH_done (by kernel_rfl) ?_ _
          go_wp2_with fail
          go_meet
          case rel => exact ⟨b9, rfl, rfl, Lib.hid ⟨PA.out, Bc.out⟩⟩
        · rw [if_pos (by rfl)]
          go_simp
          obtain ⟨b9, hb9⟩ : ∃ b, b = wc.heap.size := ⟨_, rfl⟩
          rw [← hb9]
          have hmade := Pair.made wc 0 0 52
          rw [← hb9] at hmade
          have hone := one_more (w1 := wc) (.cells #[.int .i64 0, .int .i64 0] 52)
          have LB := Lib.hid (show wr.heap.size ≤ b9 by have := Bc.out.size; omega)
          have Bc := Lib.hid (below_on Bc.out hone)
          have PA := Lib.hid hmade
          clear hmade hone hb9
          generalize wc.alloc (.cells #[.int .i64 0, .int .i64 0] 52) = wc at *
          go_simp
          refine hK.out _ _ (KS.out _ Bc.out) (fun h0_1 => ?_)
          clear hK K h0
          refine wpAnyH_ready (rs := [5]) (by kernel_rfl) (by simp) (AllReadyH.cons rfl (fun K hK => ?_) AllReadyH.nil)
          rw [if_pos (by rfl)]
          go_simp
          refine (AT.out _).mono ?_
          rintro e wc ⟨rfl, hb⟩
          try (have PA := Lib.hid (PA.out.kept hb))
          have Bc := Lib.hid (below_on Bc.out hb)
          clear hb
          go_simp
          refine hK.out _ _ (KS.out _ Bc.out) (fun h0_4 => ?_)
          clear hK K h0_1
          refine wpAnyH_take (i := 6) (v := ?v49) rfl (by kernel_rfl) (by kernel_rfl) (by kernel_rfl) (fun _ _ _ h => h) (Or.inl ⟨by rfl, ?hy49⟩) h0_4 ?rest49
          case hy49 => (intro w' hS; (try dsimp only at hS); go_simp; try (with_reducible rfl))
          simp only [Act.put, List.getElem_toArray, List.getElem_cons_zero, List.getElem_cons_succ, List.setIfInBounds_toArray, List.set_cons_zero, List.set_cons_succ]
          refine wpAnyH_take (i := 7) (v := ?v50) rfl (by kernel_rfl) (by kernel_rfl) (by kernel_rfl) (fun _ _ _ h => h) (Or.inl ⟨by rfl, ?hy50⟩) h0_4 ?rest50
          case hy50 => (intro w' hS; (try dsimp only at hS); go_simp; try (with_reducible rfl))
          simp only [Act.put, List.getElem_toArray, List.getElem_cons_zero, List.getElem_cons_succ, List.setIfInBounds_toArray, List.set_cons_zero, List.set_cons_succ]
          refine wpAnyH_take (i := 8) (v := ?v51) rfl (by kernel_rfl) (by kernel_rfl) (by kernel_rfl) (fun _ _ _ h => h) (Or.inl ⟨by rfl, ?hy51⟩) h0_4 ?rest51
          case hy51 => (intro w' hS; (try dsimp only at hS); go_simp; try (with_reducible rfl))
          simp only [Act.put, List.getElem_toArray, List.getElem_cons_zero, List.getElem_cons_succ, List.setIfInBounds_toArray, List.set_cons_zero, List.set_cons_succ]
          refine wpAnyH_ready (rs := [10]) (by kernel_rfl) (by simp) (AllReadyH.cons rfl (fun K hK => ?_) AllReadyH.nil)
          rw [if_pos (by rfl)]
          obtain ⟨p0, p1, p2, p3⟩ := PA.out.facts
          go_simp
          have hput := PA.out.put an ad
          have hP := Lib.hid (far_below Bc.out (x := b9) LB.out (.int .i64 an) (.int .i64 ad))
          clear p0 p1 p2 p3
          generalize (wc.setCell ⟨b9, 0, none⟩ (.int .i64 an)).setCell ⟨b9, 1, none⟩ (.int .i64 ad) = wc at *
          have Bc := hP
          have PA := Lib.hid hput
          clear hP hput
          refine hK.out _ _ (KS.out _ Bc.out) (fun h0_5 => ?_)
          clear hK K h0_4
          refine wpAnyH_take (i := 11) (v := ?v52) rfl (by kernel_rfl) (by kernel_rfl) (by kernel_rfl) (fun _ _ _ h => h) (Or.inl ⟨by rfl, ?hy52⟩) h0_5 ?rest52
          case hy52 => (intro w' hS; (try dsimp only at hS); go_simp; try (with_reducible rfl))
          simp only [Act.put, List.getElem_toArray, List.getElem_cons_zero, List.getElem_cons_succ, List.setIfInBounds_toArray, List.set_cons_zero, List.set_cons_succ]
          refine wpAnyH_done (by kernel_rfl) ?_ _
          go_wp2_with fail
          go_meet
          case rel => exact ⟨b9, rfl, rfl, Lib.hid ⟨PA.out, Bc.out⟩⟩
      case rest =>
      obtain ⟨b, rfl, rfl, HC⟩ := hcut
      have PC := Lib.hid HC.out.1
      have H7 := Lib.hid HC.out.2
      clear HC AT RT
      generalize wc = w7 at *
      obtain rfl : ev = 0 := by rw [HEV.out]; exact HAE.out t htn
      have Q7 := Lib.hid (below_on HX.out.2 H7.out)
      have hown := ownsQ_on HX.out.1 H7.out
      have hsz := Q7.out.size
      obtain ⟨p0, p1, p2, p3⟩ := PC.out.facts
      have A9 := Lib.hid (cells_two (w := w7) (.int .i64 an) (.int .i64 ad) 52 rfl)
      go_wp2_with (at_builtin; refine wpList_append_own _ rfl _ _ 48 rfl w0.heap.size 52 i0 (.agg #[.int .i64 0, .int .i64 0]) 2 16 Try.underlying48 hi hz0 hz1 hz2 rfl (by decide) _ _ _ rfl (World.ownsRow.alloc hown _) ⟨w7.heap.size, 0, none⟩ 1 1 [.int .i64 an, .int .i64 ad] rfl rfl A9.out (by simp [Value.oneCell']) (by unfold maxLen; omega) (by omega) (by simp; omega) ?_)
      intro v' w9 hown9 hgrow _
      have B9 := Lib.hid (show Below w0.heap.size w0 w9 from Below.grown (Q7.out.alloc Q7.out.size _) hgrow (by simp; omega) (fun k hk => (World.ownsRow.lt hown k hk).1))
      have O9 := Lib.hid (show w9.ownsRow w0.heap.size 52 2 v' (t + 1) (qV (qs.take (t + 1))) by
        rw [HTT.out, qV_app]
        exact hown9)
      have HAL1 := Lib.hid (show ∀ k, k < t + 1 → ae k = 0 from fun k hk => by
        by_cases c : k = t
        · rw [c, ← HEV.out]
        · exact HAL.out k (by omega))
      clear hown9 hgrow hown hsz p0 p1 p2 p3
      go_wp2_with fail
      go_roundw
      case rel => exact ⟨t + 1, by omega, by go_num, Lib.hid ⟨O9.out, B9.out⟩, HAL1⟩
      case measure => simp [intOf]; omega
    case neg =>
      have hown := HX.out.1
      rw [List.take_of_length_le (by have := HQL2.out; omega)] at hown
      obtain ⟨qo, qc, rfl, hA, hN⟩ := ownQ_arg (by have := HQL2.out; omega) hown
      obtain rfl : t = ps.length := by omega
      have HA := Lib.hid hA
      have HN := Lib.hid hN
      have Q5 := Lib.hid HX.out.2
      clear hown hA hN HX ht htn
      have TB : decide ((ps.length : Int) < (ps.length : Int)) = false := by simp
      obtain ⟨z0, z1, d0, d1, s0, s1, s2, s3, s4, s5, s6⟩ := KF.out _ (Q5.out)
      go_wp2_with fail
      refine (HQ.out _ _ _ HA.out HN.out (below_on E0.out Q5.out)).mono ?_
      rintro e w6 ⟨rfl, hb⟩
      have Q6 := Lib.hid (below_on Q5.out hb)
      clear hb z0 z1 d0 d1 s0 s1 s2 s3 s4 s5 s6 HQ HA HN Q5
      obtain ⟨z0, z1, d0, d1, s0, s1, s2, s3, s4, s5, s6⟩ := KF.out _ (Q6.out)
      go_wp2_with fail
      refine (C1.out _).mono ?_
      rintro e w7 ⟨rfl, hb⟩
      have Q7 := Lib.hid (below_on Q6.out hb)
      clear hb z0 z1 d0 d1 s0 s1 s2 s3 s4 s5 s6 Q6 C1
      obtain ⟨z0, z1, d0, d1, s0, s1, s2, s3, s4, s5, s6⟩ := KF.out _ (Q7.out)
      go_upto_region 19 with (fail)
      go_cut [19] (fun s wx => s = .bool b1 ∧ wx = w7)
      case first =>
        by_cases c1 : k1 < 0
        · have K1 : decide (k1 < 0) = true := decide_eq_true c1
          have HR := Lib.hid (show b1 = true by rw [HB1.out, K1]; rfl)
          clear c1
          go_wp2_with fail
          go_meet
          case rel => exact ⟨by rw [HR.out], rfl⟩
        · have K1 : decide (k1 < 0) = false := decide_eq_false c1
          by_cases c2 : k1 = 0
          · have HR := Lib.hid (show b1 = !x.lo by rw [HB1.out, K1, decide_eq_true c2]; simp)
            subst c2
            go_wp2_with fail
            go_meet
            case rel => exact ⟨by rw [HR.out], rfl⟩
          · have K2 : (k1 == 0) = false := by simp [c2]
            have HR := Lib.hid (show b1 = false by rw [HB1.out, K1, decide_eq_false c2]; rfl)
            clear c1 c2
            go_wp2_with fail
            go_meet
            case rel => exact ⟨by rw [HR.out], rfl⟩
      case rest =>
      obtain ⟨rfl, rfl⟩ := hcut
      generalize wc = w7 at *
      cases hnh : x.nh
      · rw [hnh] at s6
        have C3 := Lib.hid (C2.out hnh)
        have HIN2 := Lib.hid (show hq = (b1 && b2) by rw [HIN.out, hnh]; rfl)
        clear hnh C2 HIN
        go_wp2_with fail
        refine (C3.out _).mono ?_
        rintro e w8 ⟨rfl, hb⟩
        have Q8 := Lib.hid (below_on Q7.out hb)
        clear hb z0 z1 d0 d1 s0 s1 s2 s3 s4 s5 s6 Q7
        obtain ⟨z0, z1, d0, d1, s0, s1, s2, s3, s4, s5, s6⟩ := KF.out _ (Q8.out)
        go_upto_region 24 with (fail)
        go_cut [19] (fun s wx => s = .bool (b1 && b2) ∧ wx = w8)
        case first =>
          cases b1
          · go_wp2_with fail
            go_meet
            case rel => exact ⟨rfl, rfl⟩
          · by_cases c1 : k2 < 0
            · have K1 : decide (k2 < 0) = true := decide_eq_true c1
              have HR := Lib.hid (show b2 = true by rw [HB2.out, K1]; rfl)
              clear c1
              go_wp2_with fail
              go_meet
              case rel => exact ⟨by rw [HR.out]; rfl, rfl⟩
            · have K1 : decide (k2 < 0) = false := decide_eq_false c1
              by_cases c2 : k2 = 0
              · have HR := Lib.hid (show b2 = !x.ho by rw [HB2.out, K1, decide_eq_true c2]; simp)
                subst c2
                go_wp2_with fail
                go_meet
                case rel => exact ⟨by rw [HR.out]; rfl, rfl⟩
              · have K2 : (k2 == 0) = false := by simp [c2]
                have HR := Lib.hid (show b2 = false by rw [HB2.out, K1, decide_eq_false c2]; rfl)
                clear c1 c2
                go_wp2_with fail
                go_meet
                case rel => exact ⟨by rw [HR.out]; rfl, rfl⟩
        case rest =>
        obtain ⟨rfl, rfl⟩ := hcut
        generalize wc = w8 at *
        have DEQ : (hq == (b1 && b2)) = true := by rw [HIN2.out]; simp
        clear z0 z1 d0 d1 s0 s1 s2 s3 s4 s5 s6
        generalize (b1 && b2) = b12 at *
        go_wp2_with fail
        go_ret
        exact ⟨rfl, below_on E0.out Q8.out⟩
      · rw [hnh] at s6
        have DEQ : (hq == b1) = true := by rw [HIN.out, hnh]; simp
        clear hnh C2 HIN
        go_wp2_with fail
        go_ret
        exact ⟨rfl, below_on E0.out Q7.out⟩

set_option maxRecDepth 100000 in
set_option maxHeartbeats 4000000 in
theorem later_in (N : Int) (ao : Option Addr) (len cap : Nat) (ps : List Pq) (pc : Nat) (dn dd : Int) (x : Dl) (qs : List Pq) (hq : Bool) (w : World) (hl : ps.length ≤ 50) (h0 : 0 ≤ dn)
    (VD : Hid (∀ W, Calls Try.prog 107 #[.agg #[.int .i64 dn, .int .i64 dd]] W (Made (.bool true) W)))
    (hnil : ps = []) (hqn : qs = [])
    (HQ : Hid (∀ W qo qc, Arg2 W qo qs → (qo = none → qc = 0) → Below w.heap.size w W → Calls Try.prog 46 #[.agg #[.int .i64 N, .slice ao len cap], .slice qo ps.length qc] W (Made (.tuple #[.bool hq, .int .i64 0]) W)))
    (k1 k2 : Int) (C1 : Hid (∀ W, Calls Try.prog 108 #[.agg #[.int .i64 x.ln, .int .i64 x.ld], .agg #[.int .i64 dn, .int .i64 dd]] W (Made (.tuple #[.int .i64 k1, .int .i64 0]) W)))
    (C2 : Hid (x.nh = false → ∀ W, Calls Try.prog 108 #[.agg #[.int .i64 dn, .int .i64 dd], .agg #[.int .i64 x.hn, .int .i64 x.hd]] W (Made (.tuple #[.int .i64 k2, .int .i64 0]) W)))
    (hin : hq = ((decide (k1 < 0) || (decide (k1 = 0) && !x.lo)) && (x.nh || (decide (k2 < 0) || (decide (k2 = 0) && !x.ho))))) :
    Calls Try.prog 52 #[.agg #[.int .i64 N, .slice ao len cap], .slice none ps.length pc, .agg #[.int .i64 dn, .int .i64 dd], .agg #[.int .i64 x.ln, .int .i64 x.ld, .int .i64 x.hn, .int .i64 x.hd, .bool x.lo, .bool x.ho, .bool x.nh], .int .i64 0] w (Made (.bool true) w) := by
  have HNIL := Lib.hid hnil
  have HQN := Lib.hid hqn
  clear hnil hqn
  have HLEN := Lib.hid hl
  have G0 : decide (dn < 0) = false := decide_eq_false (by omega)
  obtain ⟨b1, hb1⟩ : ∃ b1, b1 = (decide (k1 < 0) || (decide (k1 = 0) && !x.lo)) := ⟨_, rfl⟩
  obtain ⟨b2, hb2⟩ : ∃ b2, b2 = (decide (k2 < 0) || (decide (k2 = 0) && !x.ho)) := ⟨_, rfl⟩
  rw [← hb1, ← hb2] at hin
  have HB1 := Lib.hid hb1
  have HB2 := Lib.hid hb2
  have HIN := Lib.hid hin
  clear hb1 hb2 hin
  clear h0
  obtain ⟨w0, hw0⟩ : ∃ w0, w0 = (((w.alloc (.cells #[.int .i64 N, .slice ao len cap] 25)).alloc (.cells #[.int .i64 dn, .int .i64 dd] 52)).alloc (.cells #[.int .i64 x.ln, .int .i64 x.ld, .int .i64 x.hn, .int .i64 x.hd, .bool x.lo, .bool x.ho, .bool x.nh] 64)) := ⟨_, rfl⟩
  have BZ := Lib.hid (show Bx w0 w.heap.size #[.int .i64 N, .slice ao len cap] by rw [hw0]; exact ((Bx.made _ _ _).kept (one_more _)).kept (one_more _))
  have BD := Lib.hid (show Bx w0 (w.heap.size + 1) #[.int .i64 dn, .int .i64 dd] by
    rw [hw0]
    have := (Bx.made (w.alloc (.cells #[.int .i64 N, .slice ao len cap] 25)) #[.int .i64 dn, .int .i64 dd] 52).kept (one_more (.cells #[.int .i64 x.ln, .int .i64 x.ld, .int .i64 x.hn, .int .i64 x.hd, .bool x.lo, .bool x.ho, .bool x.nh] 64))
    simpa using this)
  have BS := Lib.hid (show Bx w0 (w.heap.size + 2) #[.int .i64 x.ln, .int .i64 x.ld, .int .i64 x.hn, .int .i64 x.hd, .bool x.lo, .bool x.ho, .bool x.nh] by
    rw [hw0]
    have := Bx.made ((w.alloc (.cells #[.int .i64 N, .slice ao len cap] 25)).alloc (.cells #[.int .i64 dn, .int .i64 dd] 52)) #[.int .i64 x.ln, .int .i64 x.ld, .int .i64 x.hn, .int .i64 x.hd, .bool x.lo, .bool x.ho, .bool x.nh] 64
    simpa using this)
  have E0 := Lib.hid (show Below w.heap.size w w0 by rw [hw0]; exact past_three (Below.refl _ _))
  have KF := Lib.hid (show ∀ W, Below w0.heap.size w0 W → (W.cell? ⟨w.heap.size, 0, none⟩ = some (.int .i64 N) ∧ W.cell? ⟨w.heap.size, 1, none⟩ = some (.slice ao len cap) ∧ W.cell? ⟨w.heap.size + 1, 0, none⟩ = some (.int .i64 dn) ∧ W.cell? ⟨w.heap.size + 1, 1, none⟩ = some (.int .i64 dd) ∧ W.cell? ⟨w.heap.size + 2, 0, none⟩ = some (.int .i64 x.ln) ∧ W.cell? ⟨w.heap.size + 2, 1, none⟩ = some (.int .i64 x.ld) ∧ W.cell? ⟨w.heap.size + 2, 2, none⟩ = some (.int .i64 x.hn) ∧ W.cell? ⟨w.heap.size + 2, 3, none⟩ = some (.int .i64 x.hd) ∧ W.cell? ⟨w.heap.size + 2, 4, none⟩ = some (.bool x.lo) ∧ W.cell? ⟨w.heap.size + 2, 5, none⟩ = some (.bool x.ho) ∧ W.cell? ⟨w.heap.size + 2, 6, none⟩ = some (.bool x.nh)) from fun W h => ⟨(BZ.out.kept h).cell 0, (BZ.out.kept h).cell 1, (BD.out.kept h).cell 0, (BD.out.kept h).cell 1, (BS.out.kept h).cell 0, (BS.out.kept h).cell 1, (BS.out.kept h).cell 2, (BS.out.kept h).cell 3, (BS.out.kept h).cell 4, (BS.out.kept h).cell 5, (BS.out.kept h).cell 6⟩)
  clear BZ BD BS
  go_enter Try.func52, Try.ntmps52
  go_upto_region 1 with (fail)
  rw [← hw0]
  clear hw0
  obtain ⟨z0, z1, d0, d1, s0, s1, s2, s3, s4, s5, s6⟩ := KF.out _ (Below.refl _ _)
  go_wp2_with fail
  refine (VD.out _).mono ?_
  rintro e w1 ⟨rfl, hb⟩
  have B1 := Lib.hid hb
  clear hb z0 z1 d0 d1 s0 s1 s2 s3 s4 s5 s6 VD
  obtain ⟨z0, z1, d0, d1, s0, s1, s2, s3, s4, s5, s6⟩ := KF.out _ (B1.out)
  go_wp2_with fail
  clear z0 z1 d0 d1 s0 s1 s2 s3 s4 s5 s6
  go_loopw [11, 12] (fun v s wr => ∃ t : Nat, t ≤ ps.length ∧ s = .int .i64 (t : Int) ∧ Hid (wr.ownsRow w0.heap.size 52 2 v t (qV (qs.take t)) ∧ Below w0.heap.size w0 wr)) (fun _ s _ => ps.length - (intOf s).toNat)
  case atStart => exact ⟨0, by omega, rfl, Lib.hid ⟨World.ownsRow_nil _ _ _ _, B1.out⟩⟩
  case round =>
    obtain ⟨t, ht, rfl, HX⟩ := hrel
    by_cases htn : t < ps.length
    case pos =>
      exact absurd htn (by rw [HNIL.out]; simp)
    case neg =>
      have hown := HX.out.1
      rw [HQN.out, List.take_nil] at hown
      obtain ⟨qo, qc, rfl, hA, hN⟩ := ownQ_arg (qs := []) (by have := congrArg List.length HNIL.out; rw [List.length_nil] at this; show t = 0; omega) hown
      rw [← HQN.out] at hA
      obtain rfl : t = ps.length := by omega
      have HA := Lib.hid hA
      have HN := Lib.hid hN
      have Q5 := Lib.hid HX.out.2
      clear hown hA hN HX ht htn
      have TB : decide ((ps.length : Int) < (ps.length : Int)) = false := by simp
      obtain ⟨z0, z1, d0, d1, s0, s1, s2, s3, s4, s5, s6⟩ := KF.out _ (Q5.out)
      go_wp2_with fail
      refine (HQ.out _ _ _ HA.out HN.out (below_on E0.out Q5.out)).mono ?_
      rintro e w6 ⟨rfl, hb⟩
      have Q6 := Lib.hid (below_on Q5.out hb)
      clear hb z0 z1 d0 d1 s0 s1 s2 s3 s4 s5 s6 HQ HA HN Q5
      obtain ⟨z0, z1, d0, d1, s0, s1, s2, s3, s4, s5, s6⟩ := KF.out _ (Q6.out)
      go_wp2_with fail
      refine (C1.out _).mono ?_
      rintro e w7 ⟨rfl, hb⟩
      have Q7 := Lib.hid (below_on Q6.out hb)
      clear hb z0 z1 d0 d1 s0 s1 s2 s3 s4 s5 s6 Q6 C1
      obtain ⟨z0, z1, d0, d1, s0, s1, s2, s3, s4, s5, s6⟩ := KF.out _ (Q7.out)
      go_upto_region 19 with (fail)
      go_cut [19] (fun s wx => s = .bool b1 ∧ wx = w7)
      case first =>
        by_cases c1 : k1 < 0
        · have K1 : decide (k1 < 0) = true := decide_eq_true c1
          have HR := Lib.hid (show b1 = true by rw [HB1.out, K1]; rfl)
          clear c1
          go_wp2_with fail
          go_meet
          case rel => exact ⟨by rw [HR.out], rfl⟩
        · have K1 : decide (k1 < 0) = false := decide_eq_false c1
          by_cases c2 : k1 = 0
          · have HR := Lib.hid (show b1 = !x.lo by rw [HB1.out, K1, decide_eq_true c2]; simp)
            subst c2
            go_wp2_with fail
            go_meet
            case rel => exact ⟨by rw [HR.out], rfl⟩
          · have K2 : (k1 == 0) = false := by simp [c2]
            have HR := Lib.hid (show b1 = false by rw [HB1.out, K1, decide_eq_false c2]; rfl)
            clear c1 c2
            go_wp2_with fail
            go_meet
            case rel => exact ⟨by rw [HR.out], rfl⟩
      case rest =>
      obtain ⟨rfl, rfl⟩ := hcut
      generalize wc = w7 at *
      cases hnh : x.nh
      · rw [hnh] at s6
        have C3 := Lib.hid (C2.out hnh)
        have HIN2 := Lib.hid (show hq = (b1 && b2) by rw [HIN.out, hnh]; rfl)
        clear hnh C2 HIN
        go_wp2_with fail
        refine (C3.out _).mono ?_
        rintro e w8 ⟨rfl, hb⟩
        have Q8 := Lib.hid (below_on Q7.out hb)
        clear hb z0 z1 d0 d1 s0 s1 s2 s3 s4 s5 s6 Q7
        obtain ⟨z0, z1, d0, d1, s0, s1, s2, s3, s4, s5, s6⟩ := KF.out _ (Q8.out)
        go_upto_region 24 with (fail)
        go_cut [19] (fun s wx => s = .bool (b1 && b2) ∧ wx = w8)
        case first =>
          cases b1
          · go_wp2_with fail
            go_meet
            case rel => exact ⟨rfl, rfl⟩
          · by_cases c1 : k2 < 0
            · have K1 : decide (k2 < 0) = true := decide_eq_true c1
              have HR := Lib.hid (show b2 = true by rw [HB2.out, K1]; rfl)
              clear c1
              go_wp2_with fail
              go_meet
              case rel => exact ⟨by rw [HR.out]; rfl, rfl⟩
            · have K1 : decide (k2 < 0) = false := decide_eq_false c1
              by_cases c2 : k2 = 0
              · have HR := Lib.hid (show b2 = !x.ho by rw [HB2.out, K1, decide_eq_true c2]; simp)
                subst c2
                go_wp2_with fail
                go_meet
                case rel => exact ⟨by rw [HR.out]; rfl, rfl⟩
              · have K2 : (k2 == 0) = false := by simp [c2]
                have HR := Lib.hid (show b2 = false by rw [HB2.out, K1, decide_eq_false c2]; rfl)
                clear c1 c2
                go_wp2_with fail
                go_meet
                case rel => exact ⟨by rw [HR.out]; rfl, rfl⟩
        case rest =>
        obtain ⟨rfl, rfl⟩ := hcut
        generalize wc = w8 at *
        have DEQ : (hq == (b1 && b2)) = true := by rw [HIN2.out]; simp
        clear z0 z1 d0 d1 s0 s1 s2 s3 s4 s5 s6
        generalize (b1 && b2) = b12 at *
        go_wp2_with fail
        go_ret
        exact ⟨rfl, below_on E0.out Q8.out⟩
      · rw [hnh] at s6
        have DEQ : (hq == b1) = true := by rw [HIN.out, hnh]; simp
        clear hnh C2 HIN
        go_wp2_with fail
        go_ret
        exact ⟨rfl, below_on E0.out Q7.out⟩
end Go.Proofs.Ytbnebinpemejlaa

namespace Go.Proofs.Ytbnebinpemejlaa
open Go.ChangeShapes Go.WideShapes Go.ChangeAt Go.RowKit Go.Joins Go.Deep

theorem Try.cells2 : Try.prog.cellsOf 2 = 1 := by kernel_rfl

theorem Try.cells35 : Try.prog.cellsOf 35 = 1 := by kernel_rfl

theorem Try.cells37 : Try.prog.cellsOf 37 = 6 := by kernel_rfl

theorem Try.cells52 : Try.prog.cellsOf 52 = 2 := by kernel_rfl

set_option maxRecDepth 100000 in
/-- A zone's two cells. -/
theorem trod_zone {H : Type} {enc : TypeId × Value → H} {W : World} {base fuel : Nat} {sp : Nat → Bool} {held : Bool} {c0 c1 : Value} {y : DataW H × List MemPlace}
    (h : DataW.trod enc Try.prog W base sp held fuel 25 [c0, c1] = some y) :
    ∃ (N : Int) (ao : Option Addr) (l : List Int) (cap : Nat), c0 = .int .i64 N ∧ c1 = .slice ao l.length cap ∧ I64 N ∧ Arg W ao l ∧ l.length ≤ maxLen ∧ (ao = none → l = [] ∧ cap = 0) := by
  obtain ⟨xs, n, _, _, hl, hx, hf⟩ := DataW.trod_struct Try.underlying25 h
  have g0 := hf 0 _ rfl
  have g1 := hf 1 _ rfl
  match xs, hx with
  | [y0, y1], _ =>
    simp [Try.cells3, Try.cells22] at g0 g1
    obtain ⟨N, e0, _, w0⟩ := DataW.trod_int Try.underlying3 g0
    simp at e0
    obtain ⟨ao, l, cap, e1, hA, hl2, hn⟩ := open_limits2 g1
    exact ⟨N, ao, l, cap, e0, e1, wf_i64 w0, hA, hl2, hn⟩

set_option maxRecDepth 100000 in
/-- A Case by value. -/
theorem open_case {H : Type} {enc : TypeId × Value → H} {W : World} {base : Nat} {sp : Nat → Bool} {held : Bool} {r : Reach} {b0 : Nat} {v : Value} {d : DataW H} {p : List MemPlace}
    (hv : Value.okWide Try.prog W r b0 37 v) (h : DataW.Trod enc Try.prog W base sp held 37 v d p) :
    ∃ (N : Int) (ao : Option Addr) (l : List Int) (cap : Nat) (i j c : Int) (dao : Option Addr) (cs : List Con) (dc : Nat),
      v = .agg #[.int .i64 N, .slice ao l.length cap, .int .i64 i, .int .i64 j, .int .i64 c, .slice dao cs.length dc] ∧ I64 N ∧ I64 i ∧ I64 j ∧ I64 c ∧ Arg W ao l ∧ l.length ≤ maxLen ∧ (ao = none → l = [] ∧ cap = 0) ∧
      Arg3 W dao cs ∧ cs.length ≤ maxLen ∧ (∀ k, k < cs.length → (I64 (gc cs k).1 ∧ I64 (gc cs k).2.1 ∧ I64 (gc cs k).2.2)) ∧ (dao = none → cs = [] ∧ dc = 0) := by
  obtain ⟨xs0, rfl, hsz⟩ := okWide_struct Try.underlying37 hv
  obtain ⟨fuel, hf0⟩ := h
  obtain ⟨xs, n, _, _, hl, hx, hf⟩ := DataW.trod_struct Try.underlying37 hf0
  rw [Try.cells37] at hsz
  match xs0, hsz with
  | ⟨[c0, c1, c2, c3, c4, c5]⟩, _ =>
    have g0 := hf 0 _ rfl
    have g1 := hf 1 _ rfl
    have g2 := hf 2 _ rfl
    have g3 := hf 3 _ rfl
    have g4 := hf 4 _ rfl
    match xs, hx with
    | [y0, y1, y2, y3, y4], _ =>
      simp [Value.cells, Try.cells3, Try.cells2, Try.cells25, Try.cells35] at g0 g1 g2 g3 g4
      obtain ⟨N, ao, l, cap, rfl, rfl, hN, hA, hl2, hn⟩ := trod_zone g0
      obtain ⟨i, e1, _, w1⟩ := DataW.trod_int Try.underlying3 g1
      obtain ⟨j, e2, _, w2⟩ := DataW.trod_int Try.underlying3 g2
      obtain ⟨c, e3, _, w3⟩ := DataW.trod_int Try.underlying2 g3
      simp at e1 e2 e3
      obtain ⟨dao, cs, dc, e4, hD, hdl, hdb, hdn⟩ := open_cons g4
      exact ⟨N, ao, l, cap, i, j, c, dao, cs, dc, by rw [e1, e2, e3, e4], hN, wf_i64 w1, wf_i64 w2, wf_i64 w3, hA, hl2, hn, hD, hdl, hdb, hdn⟩

set_option maxRecDepth 100000 in
/-- A struct of two integers. -/
theorem trod_rat {H : Type} {enc : TypeId × Value → H} {W : World} {base fuel : Nat} {sp : Nat → Bool} {held : Bool} {cs : List Value} {y : DataW H × List MemPlace}
    (h : DataW.trod enc Try.prog W base sp held fuel 52 cs = some y) : ∃ i j : Int, cs = [.int .i64 i, .int .i64 j] ∧ I64 i ∧ I64 j := by
  obtain ⟨xs, n, _, _, hl, hx, hf⟩ := DataW.trod_struct Try.underlying52 h
  rw [Try.cells52] at hl
  match cs, hl with
  | [a, b], _ =>
    have g0 := hf 0 _ rfl
    have g1 := hf 1 _ rfl
    match xs, hx with
    | [y0, y1], _ =>
      simp [Try.cells2] at g0 g1
      obtain ⟨i, e0, _, w0⟩ := DataW.trod_int Try.underlying2 g0
      obtain ⟨j, e1, _, w1⟩ := DataW.trod_int Try.underlying2 g1
      simp at e0 e1
      exact ⟨i, j, by rw [e0, e1], wf_i64 w0, wf_i64 w1⟩

/-- A slice of ratios. -/
theorem open_rats {H : Type} {enc : TypeId × Value → H} {W : World} {base fuel : Nat} {sp : Nat → Bool} {held : Bool} {c : Value} {y : DataW H × List MemPlace}
    (h : DataW.trod enc Try.prog W base sp held fuel 48 [c] = some y) :
    ∃ (ao : Option Addr) (ps : List Pq) (cap : Nat), c = .slice ao ps.length cap ∧ Arg2 W ao ps ∧ ps.length ≤ maxLen ∧ Fits ps ∧ (ao = none → ps = [] ∧ cap = 0) := by
  rcases open_slice Try.underlying48 h with ⟨e, _⟩ | ⟨a, len, cap, m, n, D, Pl, e, _, hl, hm, hmm, _, hi⟩
  · simp at e
    exact ⟨none, [], 0, by simpa using e, fun q => absurd rfl q, by simp, fun k hk => by simp at hk, fun _ => ⟨rfl, rfl⟩⟩
  · simp at e
    have hlen : len ≤ m := by rw [hmm]; split <;> omega
    have key : ∀ i, i < len → ∃ q : Pq, (W.cell? (a.add (i * 2)) = some (.int .i64 q.1) ∧ W.cell? ⟨(a.add (i * 2)).block, (a.add (i * 2)).off + 1, none⟩ = some (.int .i64 q.2)) ∧ I64 q.1 ∧ I64 q.2 := fun i hil => by
      obtain ⟨cs', hc, ht⟩ := hi i (by omega)
      rw [Try.cells52] at hc
      obtain ⟨x, y, rfl, w0, w1⟩ := trod_rat ht
      obtain ⟨_, hcl, hat⟩ := World.cells?_some hc
      have c0 := hat 0 (by simp)
      have c1 := hat 1 (by simp)
      rw [add_two _ _ _ (by omega)] at c1
      rw [show (a.add (i * 2)).add 0 = a.add (i * 2) by simp [Addr.add]] at c0
      exact ⟨(x, y), ⟨by simpa using c0, by simpa using c1⟩, w0, w1⟩
    obtain ⟨F, hF⟩ : ∃ F : Nat → Pq, ∀ i, i < len → (W.cell? (a.add (i * 2)) = some (.int .i64 (F i).1) ∧ W.cell? ⟨(a.add (i * 2)).block, (a.add (i * 2)).off + 1, none⟩ = some (.int .i64 (F i).2)) ∧ I64 (F i).1 ∧ I64 (F i).2 := by
      refine ⟨fun i => if h : i < len then (key i h).choose else (0, 0), fun i hil => ?_⟩
      simp only [dif_pos hil]
      exact (key i hil).choose_spec
    have hg : ∀ i, i < len → gp ((List.range len).map F) i = F i := fun i hil => by simp [gp, hil]
    refine ⟨some a, (List.range len).map F, cap, by rw [e]; simp, fun _ => ⟨a, rfl, fun j hj => ?_⟩, by simp; omega, fun k hk => ?_, fun q => by cases q⟩
    · simp at hj
      rw [hg j hj]
      exact (hF j hj).1
    · simp at hk
      rw [hg k hk]
      exact (hF k hk).2

set_option maxRecDepth 100000 in
theorem open_rats_arg {H : Type} {enc : TypeId × Value → H} {W : World} {base : Nat} {sp : Nat → Bool} {held : Bool} {r : Reach} {b0 : Nat} {v : Value} {d : DataW H} {p : List MemPlace}
    (hv : Value.okWide Try.prog W r b0 48 v) (h : DataW.Trod enc Try.prog W base sp held 48 v d p) :
    ∃ (ao : Option Addr) (ps : List Pq) (cap : Nat), v = .slice ao ps.length cap ∧ Arg2 W ao ps ∧ ps.length ≤ maxLen ∧ Fits ps ∧ (ao = none → ps = [] ∧ cap = 0) := by
  obtain ⟨n, hn⟩ := trod_slice1 Try.underlying48 hv h
  exact open_rats hn
end Go.Proofs.Ytbnebinpemejlaa

namespace Go.Proofs.Ytbnebinpemejlaa
open Go.RowKit

theorem ret_be2 {a b : Bool} {c d : Int} (h : a = b) (g : c = d) : Ending.returned (.tuple #[.bool a, .int .i64 c]) = .returned (.tuple #[.bool b, .int .i64 d]) := by rw [h, g]

theorem kept2 {w w0 wr : World} {a : Addr} {l : List Int} (h : Rd w a l) (h0 : Below w.heap.size w w0) (h1 : Below w0.heap.size w0 wr) : Rd wr a l := (h.on h0).on h1

set_option maxRecDepth 100000 in
set_option maxHeartbeats 4000000 in
theorem zinc_gen (N M : Int) (l m : List Int) (ao bo : Option Addr) (ca cb : Nat) (w : World) (hA : Arg w ao l) (hB : Arg w bo m) :
    Calls Try.prog 38 #[.agg #[.int .i64 N, .slice ao l.length ca], .agg #[.int .i64 M, .slice bo m.length cb]] w (Made (.tuple #[.bool (inR N M l m), .int .i64 (inE N M l m)]) w) := by
  have C1 := Lib.hid (show ∀ W, Below w.heap.size w W → _ from fun W h => zcheck_gen N l ao ca W (hA.on h))
  have C2 := Lib.hid (show ∀ W, Below w.heap.size w W → _ from fun W h => zcheck_gen M m bo cb W (hB.on h))
  obtain ⟨w0, hw0⟩ : ∃ w0, w0 = (w.alloc (.cells #[.int .i64 N, .slice ao l.length ca] 25)).alloc (.cells #[.int .i64 M, .slice bo m.length cb] 25) := ⟨_, rfl⟩
  have y0 : Two w0 w.heap.size (.int .i64 N) (.slice ao l.length ca) := by rw [hw0]; exact (Two.made _ _ _ _).alloc _
  have y1 : Two w0 (w.heap.size + 1) (.int .i64 M) (.slice bo m.length cb) := by
    rw [hw0]
    have := Two.made (w.alloc (.cells #[.int .i64 N, .slice ao l.length ca] 25)) (.int .i64 M) (.slice bo m.length cb) 25
    simpa using this
  have E0 := Lib.hid (show Below w.heap.size w w0 by rw [hw0]; exact past_two (Below.refl _ _))
  have KS := Lib.hid (show ∀ W, Below w0.heap.size w0 W → (W.cell? ⟨w.heap.size, 0, none⟩ = some (.int .i64 N) ∧ W.cell? ⟨w.heap.size, 1, none⟩ = some (.slice ao l.length ca)) ∧ W.cell? ⟨w.heap.size + 1, 0, none⟩ = some (.int .i64 M) ∧ W.cell? ⟨w.heap.size + 1, 1, none⟩ = some (.slice bo m.length cb) from
    fun W h => ⟨⟨kept h y0.1.1, kept h y0.2.1⟩, kept h y1.1.1, kept h y1.2.1⟩)
  have HZ := Lib.hid (show chkE N l = 0 → chkE M m = 0 → N = M → m.length = l.length ∧ m.length ≤ 121 ∧ ∃ a b, ao = some a ∧ bo = some b ∧ Rd w a l ∧ Rd w b m from fun h1 h2 h3 => by
    obtain ⟨n, rfl, hn, hl, hne⟩ := chk_ok h1
    obtain ⟨k, hk, hkn, hm, hme⟩ := chk_ok h2
    have : k = n := by omega
    subst this
    obtain ⟨a, ha, hR⟩ := hA hne
    obtain ⟨b, hb, hS⟩ := hB hme
    have := dsq_le hn
    exact ⟨by omega, by omega, a, b, ha, hb, hR, hS⟩)
  have HR := Lib.hid (show inR N M l m = (decide (chkE N l = 0) && decide (chkE M m = 0) && decide (N = M) && inB l m) ∧ inE N M l m = (if decide (chkE N l = 0) && decide (chkE M m = 0) && decide (N = M) then 0 else 2) from ⟨rfl, rfl⟩)
  have T1 := Lib.hid (show chkE N l ≠ 0 → chkE N l = 2 from chk_two)
  have T2 := Lib.hid (show chkE M m ≠ 0 → chkE M m = 2 from chk_two)
  have HBD := Lib.hid (show inB l m = (List.range l.length).all fun k => decide (Zo.gt m k ≤ Zo.gt l k) from rfl)
  generalize inR N M l m = rr at *
  generalize inE N M l m = re at *
  generalize chkE N l = c1 at *
  generalize chkE M m = c2 at *
  clear y0 y1
  generalize hlen : l.length = len at hw0 C1 KS ⊢
  have HLN := Lib.hid hlen
  clear hlen
  generalize hmlen : m.length = mlen at hw0 C2 KS ⊢
  have HMN := Lib.hid hmlen
  clear hA hB hmlen
  go_enter Try.func38, Try.ntmps38
  go_wp2_with fail
  rw [← hw0]
  clear hw0
  refine (C1.out _ E0.out).mono ?_
  rintro e w1 ⟨rfl, hb1⟩
  obtain ⟨⟨a0, a1⟩, a2, a3⟩ := KS.out _ hb1
  have B1 := Lib.hid hb1
  clear hb1
  by_cases h1 : c1 = 0
  · have HC1 := Lib.hid h1
    subst h1
    go_wp2_with fail
    refine (C2.out _ (below_on E0.out B1.out)).mono ?_
    rintro e w2 ⟨rfl, hb2⟩
    have B2 := Lib.hid (below_on B1.out hb2)
    clear hb2 a0 a1 a2 a3
    obtain ⟨⟨a0, a1⟩, a2, a3⟩ := KS.out _ B2.out
    by_cases h2 : c2 = 0
    · subst h2
      by_cases h3 : N = M
      · have D : (N != M) = false := by simpa using h3
        obtain ⟨z1, z2, a, b, rfl, rfl, R1, R2⟩ := HZ.out (by first | rfl | trivial) (by first | rfl | trivial) h3
        have HR1 := Lib.hid R1
        have HR2 := Lib.hid R2
        have HRR := Lib.hid (show rr = inB l m ∧ re = 0 by rw [HR.out.1, HR.out.2, h3]; simp)
        have HML := Lib.hid (show mlen = len by rw [← HMN.out, ← HLN.out]; exact z1)
        have hm121 : mlen ≤ 121 := by rw [← HMN.out]; exact z2
        clear h3 R1 R2 z1 z2
        go_wp2_with fail
        clear a0 a1 a2 a3
        go_loopw [26] (fun s wr => ∃ t : Nat, t ≤ mlen ∧ s = .int .i64 t ∧ Hid (∀ i, i < t → Zo.gt m i ≤ Zo.gt l i) ∧ Hid (Below w0.heap.size w0 wr)) (fun s _ => mlen - (intOf s).toNat)
        case atStart => exact ⟨0, by omega, rfl, Lib.hid (fun i hi => by omega), B2⟩
        case round =>
          obtain ⟨t, ht, rfl, HT, HB⟩ := hrel
          obtain ⟨⟨a0, a1⟩, a2, a3⟩ := KS.out _ HB.out
          by_cases htn : t < mlen
          · obtain ⟨x, hx⟩ : ∃ x, x = Zo.gt l t := ⟨_, rfl⟩
            obtain ⟨y, hy⟩ : ∃ y, y = Zo.gt m t := ⟨_, rfl⟩
            have htl : t < len := by rw [← HML.out]; exact htn
            have x1 : wr.cell? (a.add t) = some (.int .i64 x) := by rw [hx]; exact kept2 HR1.out E0.out HB.out t (by rw [HLN.out]; exact htl)
            have x2 : wr.cell? (b.add t) = some (.int .i64 y) := by rw [hy]; exact kept2 HR2.out E0.out HB.out t (by rw [HMN.out]; exact htn)
            have HX := Lib.hid hx
            have HY := Lib.hid hy
            clear hx hy
            by_cases hxy : y ≤ x
            · have HXY := Lib.hid hxy
              have D : decide (x < y) = false := by simp; omega
              clear hxy
              go_wp2_with fail
              clear a0 a1 a2 a3 x1 x2
              go_roundw
              case rel =>
                refine ⟨t + 1, by omega, by go_num, Lib.hid (fun i hi => ?_), HB⟩
                by_cases e : i = t
                · rw [e, ← HX.out, ← HY.out]; exact HXY.out
                · exact HT.out i (by omega)
              case measure => simp [intOf]; omega
            · have HE := Lib.hid (show inB l m = false by
                rw [HBD.out, List.all_eq_false]
                exact ⟨t, List.mem_range.2 (by rw [HLN.out]; exact htl), by rw [← HX.out, ← HY.out]; simpa using hxy⟩)
              have D : decide (x < y) = true := by simp; omega
              clear hxy
              go_wp2_with fail
              go_ret2
              exact ⟨ret_be2 (by rw [HRR.out.1, HE.out]) HRR.out.2.symm, below_on E0.out HB.out⟩
          · have HE := Lib.hid (show inB l m = true by
              rw [HBD.out, List.all_eq_true]
              intro i hi
              have := List.mem_range.1 hi
              have := HML.out
              have := HLN.out
              simpa using HT.out i (by omega))
            go_wp2_with fail
            go_ret2
            exact ⟨ret_be2 (by rw [HRR.out.1, HE.out]) HRR.out.2.symm, below_on E0.out HB.out⟩
      · have D : (N != M) = true := by simpa using h3
        have HRR := Lib.hid (show rr = false ∧ re = 2 by rw [HR.out.1, HR.out.2]; simp [h3])
        clear h3
        go_wp2_with fail
        go_ret2
        exact ⟨ret_be2 HRR.out.1.symm HRR.out.2.symm, below_on E0.out B2.out⟩
    · have HRR := Lib.hid (show rr = false ∧ re = 2 by rw [HR.out.1, HR.out.2]; simp [h2])
      obtain rfl := T2.out h2
      clear h2
      go_wp2_with fail
      go_ret2
      exact ⟨ret_be2 HRR.out.1.symm HRR.out.2.symm, below_on E0.out B2.out⟩
  · have HRR := Lib.hid (show rr = false ∧ re = 2 by rw [HR.out.1, HR.out.2]; simp [h1])
    obtain rfl := T1.out h1
    clear h1
    go_wp2_with fail
    go_ret2
    exact ⟨ret_be2 HRR.out.1.symm HRR.out.2.symm, below_on E0.out B1.out⟩
end Go.Proofs.Ytbnebinpemejlaa

namespace Go.Proofs.Ytbnebinpemejlaa
open Go.RowKit

def QRes2 (w : World) (qs : List Pq) (er : Int) (e : Ending) (w' : World) : Prop :=
  Below w.heap.size w w' ∧ ((er = 0 ∧ ∃ a cap, e = .returned (.tuple #[.slice (some a) qs.length cap, .int .i64 0]) ∧ Arg2 w' (some a) qs) ∨ (er ≠ 0 ∧ e = .returned (.tuple #[.slice none 0 0, .int .i64 er])))

set_option maxRecDepth 100000 in
set_option maxHeartbeats 8000000 in
theorem point_ok2 (n : Nat) (l : List Int) (a : Addr) (cap : Nat) (w : World) (hn : n ≤ 10) (hl : l.length = (n + 1) * (n + 1)) (hc : chkE n l = 0) (hR : Rd w a l) :
    Calls Try.prog 50 #[.agg #[.int .i64 n, .slice (some a) l.length cap]] w (QRes2 w ((ptR n l n).1.drop 1) (ptR n l n).2) := by
  have hz := mx_zero
  have sz : (mcs n l).size = 122 := mcs_size (by rw [hl]; exact dsq_le hn)
  have s1 := mcs_one n l
  obtain ⟨i0, hi, hz0, hz1, hz2⟩ := info_parts rat_info
  have CO := Lib.hid (show ∀ W, Below w.heap.size w W → Calls Try.prog 67 #[.agg #[.int .i64 n, .slice (some a) l.length cap]] W (fun e w' => e = .returned (.tuple #[.agg (mcs n l), .bool true]) ∧ Below W.heap.size W w') from fun W h => by
    have := open_gen n l (some a) cap W (fun _ => ⟨a, rfl, hR.on h⟩)
    rwa [rdW_ok hc, show okB n l = true by unfold okB; rw [hc]; rfl] at this)
  have i64 : ∀ i j, i ≤ n → j ≤ n → I64 (Zo.At n l i j) := fun i j hi hj => chk_i64 hc hi hj
  have CH := Lib.hid (show ∀ (t : Nat) (b0 : Nat) (g c : Nat) (W : World), t < n → (ptR n l t).2 = 0 → Mx W b0 n l → Rd2 W ⟨g, 0, none⟩ (ptR n l t).1 → Calls Try.prog 101 #[.pointer (some ⟨b0, 0, none⟩), .slice (some ⟨g, 0, none⟩) (t + 1) c] W (Made (.tuple #[.agg (cxR n l (ptR n l t).1 (t + 1) (t + 1)).1.cs, .int .i64 (cxR n l (ptR n l t).1 (t + 1) (t + 1)).2]) W) from fun t b0 g c W ht he hM hP =>
    choices_any n (t + 1) l (ptR n l t).1 b0 ⟨g, 0, none⟩ c W hn ((pt_fits t).2 he) (by omega) (by omega) hM hP (pt_fits t).1 i64)
  have HLE := Lib.hid hl
  have PS := Lib.hid (fun t h => pt_succ (n := n) (l := l) (t := t) h)
  have PY := Lib.hid (fun t m h he => pt_stay (n := n) (l := l) (t := t) (m := m) h he)
  have PL := Lib.hid (fun t h => (pt_fits (n := n) (l := l) t).2 h)
  have PX := Lib.hid (fun t => cx_ok n l (ptR n l t).1 (t + 1) (t + 1))
  generalize l.length = len at CO ⊢
  obtain ⟨w0, hw0, e0, ks⟩ := qbox n (some a) len cap w
  have E0 := Lib.hid e0
  have HW0 := Lib.hid hw0
  obtain ⟨b0, b1⟩ := ks w0 (Below.refl _ _)
  clear ks e0 hw0 hl hc hR i64
  go_enter Try.func50, Try.ntmps50
  go_upto_region 1 with (fail)
  rw [← HW0.out]
  go_wp2_with fail
  refine (CO.out _ E0.out).mono ?_
  rintro e w1 ⟨rfl, hb1⟩
  obtain ⟨w2, hw2⟩ : ∃ w2, w2 = (w1.alloc (.cells (mcs 0 []) 80)).setRow w1.heap.size (mcs n l) := ⟨_, rfl⟩
  have M2 := Lib.hid (show Mx w2 w1.heap.size n l by rw [hw2]; exact ⟨((Var.made w1).put (mcs n l) sz).1, HLE.out⟩)
  have B2 := Lib.hid (show Below w0.heap.size w0 w2 by rw [hw2]; exact Below.setRow (hb1.alloc hb1.size _) hb1.size _)
  clear b0 b1 hb1
  go_wp2_with (refine wpl_store rfl _ _ rfl _ _ rfl rfl _ (Var.made _) sz s1 ?_)
  rw [← hw2]
  clear hw2
  refine (qzero_any _).mono ?_
  rintro e w3 ⟨rfl, hb3⟩
  have M3 := Lib.hid (M2.out.kept (r := none) ⟨hb3.os, hb3.tape, hb3.output, hb3.size, fun k hk _ => hb3.block k hk⟩ (by simp))
  have B3 := Lib.hid (below_on B2.out hb3)
  clear hb3
  obtain ⟨w4, hw4⟩ : ∃ w4, w4 = w3.alloc (.cells #[.int .i64 0, .int .i64 1] 52) := ⟨_, rfl⟩
  have M4 := Lib.hid (show Mx w4 w1.heap.size n l by rw [hw4]; exact M3.out.alloc _)
  have B4 := Lib.hid (show Below w0.heap.size w0 w4 by rw [hw4]; exact B3.out.alloc B3.out.size _)
  have O4 := Lib.hid (show OwnQ w4 w0.heap.size (.slice (some ⟨w3.heap.size, 0, none⟩) 1 1) (ptR n l 0).1 by
    rw [hw4]
    have := World.ownsRow_lit (base := w0.heap.size) (e := 52) (size := 2) w3 #[.int .i64 0, .int .i64 1] 1 B3.out.size (by unfold maxLen; omega) (by simp)
    exact this)
  have d4 := M4.out.dim
  go_upto_region 5 with (fail)
  rw [← hw4]
  clear hw4
  go_wp2_with fail
  clear d4
  go_loopw [6, 21] (fun v s wr => ∃ t : Nat, t ≤ n ∧ s = .int .i64 t ∧ Hid ((ptR n l t).2 = 0 ∧ OwnQ wr w0.heap.size v (ptR n l t).1 ∧ Mx wr w1.heap.size n l ∧ Below w0.heap.size w0 wr)) (fun _ s _ => n - (intOf s).toNat)
  case atStart => exact ⟨0, by omega, rfl, Lib.hid ⟨rfl, O4.out, M4.out, B4.out⟩⟩
  case round =>
    obtain ⟨t, ht, rfl, HX⟩ := hrel
    obtain ⟨hx1, hx2, hx3, hx4⟩ := HX.out
    have hlen := PL.out t hx1
    unfold OwnQ at hx2
    rw [hlen] at hx2
    obtain ⟨g, c, rfl⟩ := Joins.ownsRow_form hx2 (by omega)
    have OQ := Lib.hid (show OwnQ wr w0.heap.size (.slice (some ⟨g, 0, none⟩) (ptR n l t).1.length c) (ptR n l t).1 by unfold OwnQ; rw [hlen]; exact hx2)
    have X1 := Lib.hid hx1
    have X3 := Lib.hid hx3
    have X4 := Lib.hid hx4
    have XL := Lib.hid hlen
    clear hx1 hx2 hx3 hx4 hlen HX
    by_cases htn : t < n
    case pos =>
      have D9 : decide ((t : Int) < (n : Int)) = true := by simp; omega
      have CX := Lib.hid (CH.out t w1.heap.size g c _ htn X1.out X3.out OQ.out.rd)
      have PS1 := Lib.hid (PS.out t X1.out)
      have PX1 := Lib.hid (PX.out t)
      obtain ⟨y, hy⟩ : ∃ y, y = cxR n l (ptR n l t).1 (t + 1) (t + 1) := ⟨_, rfl⟩
      rw [← hy] at CX PS1 PX1
      unfold Dl.cs at CX
      have HY := Lib.hid hy
      clear hy
      obtain ⟨y, ye⟩ := y
      simp only at CX PS1 PX1
      go_wp2_with fail
      refine CX.out.mono ?_
      rintro e w5 ⟨rfl, hb5⟩
      obtain ⟨w6, hw6⟩ : ∃ w6, w6 = w5.alloc (.cells y.cs 64) := ⟨_, rfl⟩
      have D6 := Lib.hid (show Dbx w6 w5.heap.size y by rw [hw6]; exact Drow.made _ _)
      have B56 := Lib.hid (show Below _ _ w6 by rw [hw6]; exact hb5.alloc hb5.size _)
      unfold Dl.cs at hw6
      clear hb5
      go_upto_region 8 with (fail)
      rw [← hw6]
      clear hw6
      by_cases hye : ye = 0
      case neg =>
        have DE : (ye != 0) = true := by simpa using hye
        have HN := Lib.hid (show (ptR n l n).2 = ye from by
          have h1 : (ptR n l (t + 1)).2 = ye := by rw [PS1.out, if_neg hye]
          rw [PY.out (t + 1) n (by omega) (by rw [h1]; exact hye), h1])
        have HNE := Lib.hid hye
        clear hye
        go_wp2_with fail
        go_ret2
        rw [HN.out]
        exact ⟨below_on E0.out (below_on X4.out B56.out), Or.inr ⟨HNE.out, rfl⟩⟩
      case pos =>
        have CC := Lib.hid (fun W => choose_any y W PX1.out)
        have PS2 := Lib.hid (show ptR n l (t + 1) = if chE y = 0 then ((ptR n l t).1 ++ [(chN y, chD y)], 0) else ((ptR n l t).1, chE y) by rw [PS1.out, if_pos hye])
        subst hye
        unfold Dl.cs at CC
        generalize chN y = cn at *
        generalize chD y = cd at *
        generalize chE y = ce at *
        obtain ⟨q0, q1, q2, q3, q4, q5, q6⟩ := D6.out.facts
        go_wp2_with fail
        refine (CC.out _).mono ?_
        rintro e w7 ⟨rfl, hb7⟩
        clear q0 q1 q2 q3 q4 q5 q6
        obtain ⟨w8, hw8⟩ : ∃ w8, w8 = w7.alloc (.cells #[.int .i64 cn, .int .i64 cd] 52) := ⟨_, rfl⟩
        have P8 := Lib.hid (show Pair w8 w7.heap.size cn cd by rw [hw8]; exact Pair.made _ _ _ _)
        have B8 := Lib.hid (show Below _ _ w8 by rw [hw8]; exact (below_on B56.out hb7).alloc (below_on B56.out hb7).size _)
        clear hb7
        go_upto_region 11 with (fail)
        rw [← hw8]
        clear hw8
        by_cases hce : ce = 0
        case neg =>
          have DE : (ce != 0) = true := by simpa using hce
          have HN := Lib.hid (show (ptR n l n).2 = ce from by
            have h1 : (ptR n l (t + 1)).2 = ce := by rw [PS2.out, if_neg hce]
            rw [PY.out (t + 1) n (by omega) (by rw [h1]; exact hce), h1])
          have HNE := Lib.hid hce
          clear hce
          go_wp2_with fail
          go_ret2
          rw [HN.out]
          exact ⟨below_on E0.out (below_on X4.out B8.out), Or.inr ⟨HNE.out, rfl⟩⟩
        case pos =>
          have PS3 := Lib.hid (show ptR n l (t + 1) = ((ptR n l t).1 ++ [(cn, cd)], 0) by rw [PS2.out, if_pos hce])
          subst hce
          obtain ⟨p0, p1, p2, p3⟩ := P8.out.facts
          have Q8 := Lib.hid (below_on X4.out B8.out)
          have hsz := Q8.out.size
          have hown := OQ.out.on B8.out
          unfold OwnQ at hown
          rw [XL.out] at hown
          have A9 := Lib.hid (cells_two (w := w8) (.int .i64 cn) (.int .i64 cd) 52 rfl)
          go_wp2_with (at_builtin; refine wpList_append_own _ rfl _ _ 48 rfl w0.heap.size 52 i0 (.agg #[.int .i64 0, .int .i64 0]) 2 16 Try.underlying48 hi hz0 hz1 hz2 rfl (by decide) _ _ _ rfl (World.ownsRow.alloc hown _) ⟨w8.heap.size, 0, none⟩ 1 1 [.int .i64 cn, .int .i64 cd] rfl rfl A9.out (by simp [Value.oneCell']) (by unfold maxLen; omega) (by omega) (by simp; omega) ?_)
          intro v' w9 hown9 hgrow _
          have B9 := Lib.hid (show Below w0.heap.size w0 w9 from Below.grown (Q8.out.alloc Q8.out.size _) hgrow (by simp; omega) (fun k hk => (World.ownsRow.lt hown k hk).1))
          have M9 := Lib.hid (show Mx w9 w1.heap.size n l from ((X3.out.of_block ((B8.out).block _ X3.out.lt)).alloc _).kept hgrow (by
            have hne := OwnQ.ne hown (X3.out.of_block ((B8.out).block _ X3.out.lt))
            simpa [Value.ownBlock] using hne))
          have HN := Lib.hid (show (ptR n l (t + 1)).2 = 0 ∧ OwnQ w9 w0.heap.size v' (ptR n l (t + 1)).1 ∧ Mx w9 w1.heap.size n l ∧ Below w0.heap.size w0 w9 from by
            rw [PS3.out]
            refine ⟨rfl, ?_, M9.out, B9.out⟩
            unfold OwnQ
            rw [qV_app, List.length_append, XL.out]
            exact hown9)
          clear hown9 hgrow hown hsz p0 p1 p2 p3
          go_wp2_with fail
          go_roundw
          case rel => exact ⟨t + 1, by omega, by go_num, HN⟩
          case measure => simp [intOf]; omega
    case neg =>
      obtain rfl : t = n := by omega
      have D9 : decide ((t : Int) < (t : Int)) = false := by simp
      have hcap : t + 1 ≤ c ∧ c ≤ maxLen := by
        have := OQ.out
        unfold OwnQ at this
        rw [XL.out] at this
        exact OwnQ.cap this
      obtain ⟨hc1, hc2⟩ := hcap
      unfold maxLen at hc2
      have HT := Lib.hid (show ((ptR t l t).1.drop 1).length = t by simp [XL.out])
      by_cases hcc : c = 1
      case pos =>
        subst hcc
        obtain rfl : t = 0 := by omega
        go_wp2_with fail
        go_ret2
        refine ⟨below_on E0.out X4.out, Or.inl ⟨X1.out, ⟨g, 0, none⟩, 0, ?_, fun q => absurd (List.eq_nil_of_length_eq_zero (by simpa using HT.out)) q⟩⟩
        show Ending.returned (.tuple #[.slice (some ⟨g, 0, none⟩) 0 0, .int .i64 0]) = _
        rw [HT.out]
      case neg =>
        have hc3 : (c == 1) = false := by simpa using hcc
        go_wp2_with fail
        go_ret2
        refine ⟨below_on E0.out X4.out, Or.inl ⟨X1.out, ⟨g, 2, none⟩, c - 1, ?_, fun _ => ⟨_, rfl, ?_⟩⟩⟩
        · show Ending.returned (.tuple #[.slice (some ⟨g, 2, none⟩) t (c - 1), .int .i64 0]) = _
          rw [HT.out]
        · exact OQ.out.rd1
end Go.Proofs.Ytbnebinpemejlaa
