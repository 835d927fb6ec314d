/- later of the statements of layer 3. -/
import Derived.Test.YtbnebinpemejlaaHx4

namespace Go.Proofs.Ytbnebinpemejlaa
open Go.RowKit

theorem grown_none' {w w' : World} (hb : Below w.heap.size w w') : w.grownBy w' none := ⟨hb.os, hb.tape, hb.output, hb.size, fun k hk _ => hb.block k hk⟩

theorem ownsQ_on {w w' : World} {B n : Nat} {v : Value} {xs : List Value} (h : w.ownsRow B 52 2 v n xs) (hb : Below w.heap.size w w') : w'.ownsRow B 52 2 v n xs := World.ownsRow.kept h (grown_none' hb) (by cases v.ownBlock <;> simp)

set_option maxRecDepth 100000 in
set_option maxHeartbeats 4000000 in
theorem later_early (N : Int) (ao : Option Addr) (len cap : Nat) (ps : List Pq) (pb : Addr) (pc : Nat) (dn dd : Int) (x : Dl) (g : Int) (qs : List Pq) (w : World) (hl : ps.length ≤ 50) (h0 : 0 ≤ dn)
    (VD : Hid (∀ W, Calls Try.prog 107 #[.agg #[.int .i64 dn, .int .i64 dd]] W (Made (.bool true) W)))
    (hP : Rd2 w pb ps) (ae : Nat → Int) (HQL : qs.length = ps.length)
    (AD : Hid (∀ W k, k < ps.length → Calls Try.prog 99 #[.agg #[.int .i64 (gp ps k).1, .int .i64 (gp ps k).2], .agg #[.int .i64 dn, .int .i64 dd]] W (Made (.tuple #[.agg #[.int .i64 (gp qs k).1, .int .i64 (gp qs k).2], .int .i64 (ae k)]) W)))
    (hae : ∃ k, k < ps.length ∧ ae k ≠ 0) :
    Calls Try.prog 52 #[.agg #[.int .i64 N, .slice ao len cap], .slice (some pb) ps.length pc, .agg #[.int .i64 dn, .int .i64 dd], .agg #[.int .i64 x.ln, .int .i64 x.ld, .int .i64 x.hn, .int .i64 x.hd, .bool x.lo, .bool x.ho, .bool x.nh], .int .i64 g] w (Made (.bool true) w) := by
  obtain ⟨i0, hi, hz0, hz1, hz2⟩ := info_parts rat_info
  have RP := Lib.hid (show ∀ W, Below w.heap.size w W → Rd2 W pb ps from fun W h => hP.on h)
  have HAE := Lib.hid hae
  have HQL2 := Lib.hid HQL
  have HTK := Lib.hid (show ∀ t, t < ps.length → qs.take (t + 1) = qs.take t ++ [gp qs t] from fun t ht => by
    rw [List.take_add_one]
    simp [gp, show t < qs.length by omega])
  clear hP hae HQL
  have HLEN := Lib.hid hl
  have G0 : decide (dn < 0) = false := decide_eq_false (by omega)
  clear h0
  obtain ⟨w0, hw0⟩ : ∃ w0, w0 = (((w.alloc (.cells #[.int .i64 N, .slice ao len cap] 25)).alloc (.cells #[.int .i64 dn, .int .i64 dd] 52)).alloc (.cells #[.int .i64 x.ln, .int .i64 x.ld, .int .i64 x.hn, .int .i64 x.hd, .bool x.lo, .bool x.ho, .bool x.nh] 64)) := ⟨_, rfl⟩
  have BZ := Lib.hid (show Bx w0 w.heap.size #[.int .i64 N, .slice ao len cap] by rw [hw0]; exact ((Bx.made _ _ _).kept (one_more _)).kept (one_more _))
  have BD := Lib.hid (show Bx w0 (w.heap.size + 1) #[.int .i64 dn, .int .i64 dd] by
    rw [hw0]
    have := (Bx.made (w.alloc (.cells #[.int .i64 N, .slice ao len cap] 25)) #[.int .i64 dn, .int .i64 dd] 52).kept (one_more (.cells #[.int .i64 x.ln, .int .i64 x.ld, .int .i64 x.hn, .int .i64 x.hd, .bool x.lo, .bool x.ho, .bool x.nh] 64))
    simpa using this)
  have BS := Lib.hid (show Bx w0 (w.heap.size + 2) #[.int .i64 x.ln, .int .i64 x.ld, .int .i64 x.hn, .int .i64 x.hd, .bool x.lo, .bool x.ho, .bool x.nh] by
    rw [hw0]
    have := Bx.made ((w.alloc (.cells #[.int .i64 N, .slice ao len cap] 25)).alloc (.cells #[.int .i64 dn, .int .i64 dd] 52)) #[.int .i64 x.ln, .int .i64 x.ld, .int .i64 x.hn, .int .i64 x.hd, .bool x.lo, .bool x.ho, .bool x.nh] 64
    simpa using this)
  have E0 := Lib.hid (show Below w.heap.size w w0 by rw [hw0]; exact past_three (Below.refl _ _))
  have KF := Lib.hid (show ∀ W, Below w0.heap.size w0 W → (W.cell? ⟨w.heap.size, 0, none⟩ = some (.int .i64 N) ∧ W.cell? ⟨w.heap.size, 1, none⟩ = some (.slice ao len cap) ∧ W.cell? ⟨w.heap.size + 1, 0, none⟩ = some (.int .i64 dn) ∧ W.cell? ⟨w.heap.size + 1, 1, none⟩ = some (.int .i64 dd) ∧ W.cell? ⟨w.heap.size + 2, 0, none⟩ = some (.int .i64 x.ln) ∧ W.cell? ⟨w.heap.size + 2, 1, none⟩ = some (.int .i64 x.ld) ∧ W.cell? ⟨w.heap.size + 2, 2, none⟩ = some (.int .i64 x.hn) ∧ W.cell? ⟨w.heap.size + 2, 3, none⟩ = some (.int .i64 x.hd) ∧ W.cell? ⟨w.heap.size + 2, 4, none⟩ = some (.bool x.lo) ∧ W.cell? ⟨w.heap.size + 2, 5, none⟩ = some (.bool x.ho) ∧ W.cell? ⟨w.heap.size + 2, 6, none⟩ = some (.bool x.nh)) from fun W h => ⟨(BZ.out.kept h).cell 0, (BZ.out.kept h).cell 1, (BD.out.kept h).cell 0, (BD.out.kept h).cell 1, (BS.out.kept h).cell 0, (BS.out.kept h).cell 1, (BS.out.kept h).cell 2, (BS.out.kept h).cell 3, (BS.out.kept h).cell 4, (BS.out.kept h).cell 5, (BS.out.kept h).cell 6⟩)
  clear BZ BD BS
  go_enter Try.func52, Try.ntmps52
  go_upto_region 1 with (fail)
  rw [← hw0]
  clear hw0
  obtain ⟨z0, z1, d0, d1, s0, s1, s2, s3, s4, s5, s6⟩ := KF.out _ (Below.refl _ _)
  go_wp2_with fail
  refine (VD.out _).mono ?_
  rintro e w1 ⟨rfl, hb⟩
  have B1 := Lib.hid hb
  clear hb z0 z1 d0 d1 s0 s1 s2 s3 s4 s5 s6 VD
  obtain ⟨z0, z1, d0, d1, s0, s1, s2, s3, s4, s5, s6⟩ := KF.out _ (B1.out)
  go_wp2_with fail
  clear z0 z1 d0 d1 s0 s1 s2 s3 s4 s5 s6
  go_loopw [11, 12] (fun v s wr => ∃ t : Nat, t ≤ ps.length ∧ s = .int .i64 (t : Int) ∧ Hid (wr.ownsRow w0.heap.size 52 2 v t (qV (qs.take t)) ∧ Below w0.heap.size w0 wr) ∧ Hid (∀ k, k < t → ae k = 0)) (fun _ s _ => ps.length - (intOf s).toNat)
  case atStart => exact ⟨0, by omega, rfl, Lib.hid ⟨World.ownsRow_nil _ _ _ _, B1.out⟩, Lib.hid (fun k hk => absurd hk (by omega))⟩
  case round =>
    obtain ⟨t, ht, rfl, HX, HAL⟩ := hrel
    by_cases htn : t < ps.length
    case pos =>
      have TB : decide ((t : Int) < (ps.length : Int)) = true := by simp; omega
      have tb : (t : Int) < 50 := by have := HLEN.out; omega
      have kl : (t : Int) < (ps.length : Int) := by omega
      have AT := Lib.hid (fun W => AD.out W t htn)
      have RT := Lib.hid (fun W h => RP.out W h t htn)
      have HTT := Lib.hid (HTK.out t htn)
      have HAT := Lib.hid (show ae t = ae t from rfl)
      generalize gp ps t = pq at *
      obtain ⟨pn, pd⟩ := pq
      generalize gp qs t = qq at *
      obtain ⟨an, ad⟩ := qq
      obtain ⟨ev, hev⟩ : ∃ ev, ev = ae t := ⟨_, rfl⟩
      rw [← hev] at AT
      have HEV := Lib.hid hev
      clear hev HAT
      go_upto_region 7 with (fail)
      go_cut [13, 14] (fun p s wx => ∃ b : Nat, p = .pointer (some ⟨b, 0, none⟩) ∧ s = .int .i64 ev ∧ Hid (Pair wx b an ad ∧ Below wr.heap.size wr wx))
      case first =>
        have KS := Lib.hid (show ∀ W, Below wr.heap.size wr W → ((W.cell? (pb.add (t * 2)) = some (.int .i64 pn) ∧ W.cell? ⟨(pb.add (t * 2)).block, (pb.add (t * 2)).off + 1, none⟩ = some (.int .i64 pd)) ∧ (W.cell? ⟨w.heap.size + 1, 0, none⟩ = some (.int .i64 dn) ∧ W.cell? ⟨w.heap.size + 1, 1, none⟩ = some (.int .i64 dd))) from fun W h => by
          have hB := below_on HX.out.2 h
          have k := KF.out _ hB
          exact ⟨RT.out _ (below_on E0.out hB), k.2.2.1, k.2.2.2.1⟩)
        obtain ⟨wc, hwc⟩ : ∃ wc, wc = wr.drew := ⟨_, rfl⟩
        have Bc := Lib.hid (show Below wr.heap.size wr wc by rw [hwc]; exact (Below.refl _ _).drew)
        refine wp_region_held_drew (S := (fun W => ((W.cell? (pb.add (t * 2)) = some (.int .i64 pn) ∧ W.cell? ⟨(pb.add (t * 2)).block, (pb.add (t * 2)).off + 1, none⟩ = some (.int .i64 pd)) ∧ (W.cell? ⟨w.heap.size + 1, 0, none⟩ = some (.int .i64 dn) ∧ W.cell? ⟨w.heap.size + 1, 1, none⟩ = some (.int .i64 dd))))) (by kernel_rfl) (by rw [← hwc]; exact KS.out _ Bc.out) (fun h0 => ?_)
        rw [← hwc] at h0 ⊢
        clear hwc
        refine wpAnyH_take (i := 0) (v := ?v1) rfl (by kernel_rfl) (by kernel_rfl) (by kernel_rfl) (fun _ _ _ h => h) (Or.inl ⟨by rfl, ?hy1⟩) h0 ?rest1
        case hy1 => (intro w' hS; (try dsimp only at hS); go_simp; try (with_reducible rfl))
        simp only [Act.put, List.getElem_toArray, List.getElem_cons_zero, List.setIfInBounds_toArray, List.set_cons_zero, List.set_cons_succ]
        refine wpAnyH_take (i := 1) (v := ?v2) rfl (by kernel_rfl) (by kernel_rfl) (by kernel_rfl) (fun _ _ _ h => h) (Or.inl ⟨by rfl, ?hy2⟩) h0 ?rest2
        case hy2 => (intro w' hS; (try dsimp only at hS); go_simp; try (with_reducible rfl))
        simp only [Act.put, List.getElem_toArray, List.getElem_cons_zero, List.getElem_cons_succ, List.setIfInBounds_toArray, List.set_cons_zero, List.set_cons_succ]
        refine wpAnyH_take (i := 2) (v := ?v3) rfl (by kernel_rfl) (by kernel_rfl) (by kernel_rfl) (fun _ _ _ h => h) (Or.inl ⟨by rfl, ?hy3⟩) h0 ?rest3
        case hy3 => (intro w' hS; (try dsimp only at hS); go_simp; try (with_reducible rfl))
        simp only [Act.put, List.getElem_toArray, List.getElem_cons_zero, List.getElem_cons_succ, List.setIfInBounds_toArray, List.set_cons_zero, List.set_cons_succ]
        refine wpAnyH_take (i := 3) (v := ?v4) rfl (by kernel_rfl) (by kernel_rfl) (by kernel_rfl) (fun _ _ _ h => h) (Or.inl ⟨by rfl, ?hy4⟩) h0 ?rest4
        case hy4 => (intro w' hS; (try dsimp only at hS); go_simp; try (with_reducible rfl))
        simp only [Act.put, List.getElem_toArray, List.getElem_cons_zero, List.getElem_cons_succ, List.setIfInBounds_toArray, List.set_cons_zero, List.set_cons_succ]
        refine wpAnyH_take (i := 4) (v := ?v5) rfl (by kernel_rfl) (by kernel_rfl) (by kernel_rfl) (fun _ _ _ h => h) (Or.inl ⟨by rfl, ?hy5⟩) h0 ?rest5
        case hy5 => (intro w' hS; (try dsimp only at hS); go_simp; try (with_reducible rfl))
        simp only [Act.put, List.getElem_toArray, List.getElem_cons_zero, List.getElem_cons_succ, List.setIfInBounds_toArray, List.set_cons_zero, List.set_cons_succ]
        refine wpAnyH_ready (rs := [5, 9]) (by kernel_rfl) (by simp) (AllReadyH.cons rfl (fun K hK => ?_) (AllReadyH.cons rfl (fun K hK => ?_) AllReadyH.nil))
        · rw [if_pos (by rfl)]
          go_simp
          refine (AT.out _).mono ?_
          rintro e wc ⟨rfl, hb⟩
          try (have PA := Lib.hid (PA.out.kept hb))
          have Bc := Lib.hid (below_on Bc.out hb)
          clear hb
          go_simp
          refine hK.out _ _ (KS.out _ Bc.out) (fun h0_1 => ?_)
          clear hK K h0
          refine wpAnyH_take (i := 6) (v := ?v6) rfl (by kernel_rfl) (by kernel_rfl) (by kernel_rfl) (fun _ _ _ h => h) (Or.inl ⟨by rfl, ?hy6⟩) h0_1 ?rest6
          case hy6 => (intro w' hS; (try dsimp only at hS); go_simp; try (with_reducible rfl))
          simp only [Act.put, List.getElem_toArray, List.getElem_cons_zero, List.getElem_cons_succ, List.setIfInBounds_toArray, List.set_cons_zero, List.set_cons_succ]
          refine wpAnyH_take (i := 7) (v := ?v7) rfl (by kernel_rfl) (by kernel_rfl) (by kernel_rfl) (fun _ _ _ h => h) (Or.inl ⟨by rfl, ?hy7⟩) h0_1 ?rest7
          case hy7 => (intro w' hS; (try dsimp only at hS); go_simp; try (with_reducible rfl))
          simp only [Act.put, List.getElem_toArray, List.getElem_cons_zero, List.getElem_cons_succ, List.setIfInBounds_toArray, List.set_cons_zero, List.set_cons_succ]
          refine wpAnyH_take (i := 8) (v := ?v8) rfl (by kernel_rfl) (by kernel_rfl) (by kernel_rfl) (fun _ _ _ h => h) (Or.inl ⟨by rfl, ?hy8⟩) h0_1 ?rest8
          case hy8 => (intro w' hS; (try dsimp only at hS); go_simp; try (with_reducible rfl))
          simp only [Act.put, List.getElem_toArray, List.getElem_cons_zero, List.getElem_cons_succ, List.setIfInBounds_toArray, List.set_cons_zero, List.set_cons_succ]
          refine wpAnyH_ready (rs := [9]) (by kernel_rfl) (by simp) (AllReadyH.cons rfl (fun K hK => ?_) AllReadyH.nil)
          rw [if_pos (by rfl)]
          go_simp
          obtain ⟨b9, hb9⟩ : ∃ b, b = wc.heap.size := ⟨_, rfl⟩
          rw [← hb9]
          have hmade := Pair.made wc 0 0 52
          rw [← hb9] at hmade
          have hone := one_more (w1 := wc) (.cells #[.int .i64 0, .int .i64 0] 52)
          have LB := Lib.hid (show wr.heap.size ≤ b9 by have := Bc.out.size; omega)
          have Bc := Lib.hid (below_on Bc.out hone)
          have PA := Lib.hid hmade
          clear hmade hone hb9
          generalize wc.alloc (.cells #[.int .i64 0, .int .i64 0] 52) = wc at *
          go_simp
          refine hK.out _ _ (KS.out _ Bc.out) (fun h0_2 => ?_)
          clear hK K h0_1
          refine wpAnyH_ready (rs := [10]) (by kernel_rfl) (by simp) (AllReadyH.cons rfl (fun K hK => ?_) AllReadyH.nil)
          rw [if_pos (by rfl)]
          obtain ⟨p0, p1, p2, p3⟩ := PA.out.facts
          go_simp
          have hput := PA.out.put an ad
          have hP := Lib.hid (far_below Bc.out (x := b9) LB.out (.int .i64 an) (.int .i64 ad))
          clear p0 p1 p2 p3
          generalize (wc.setCell ⟨b9, 0, none⟩ (.int .i64 an)).setCell ⟨b9, 1, none⟩ (.int .i64 ad) = wc at *
          have Bc := hP
          have PA := Lib.hid hput
          clear hP hput
          refine hK.out _ _ (KS.out _ Bc.out) (fun h0_3 => ?_)
          clear hK K h0_2
          refine wpAnyH_take (i := 11) (v := ?v9) rfl (by kernel_rfl) (by kernel_rfl) (by kernel_rfl) (fun _ _ _ h => h) (Or.inl ⟨by rfl, ?hy9⟩) h0_3 ?rest9
          case hy9 => (intro w' hS; (try dsimp only at hS); go_simp; try (with_reducible rfl))
          simp only [Act.put, List.getElem_toArray, List.getElem_cons_zero, List.getElem_cons_succ, List.setIfInBounds_toArray, List.set_cons_zero, List.set_cons_succ]
          refine wpAnyH_done (by kernel_rfl) ?_ _
          go_wp2_with fail
          go_meet
          case rel => exact ⟨b9, rfl, rfl, Lib.hid ⟨PA.out, Bc.out⟩⟩
        · rw [if_pos (by rfl)]
          go_simp
          obtain ⟨b9, hb9⟩ : ∃ b, b = wc.heap.size := ⟨_, rfl⟩
          rw [← hb9]
          have hmade := Pair.made wc 0 0 52
          rw [← hb9] at hmade
          have hone := one_more (w1 := wc) (.cells #[.int .i64 0, .int .i64 0] 52)
          have LB := Lib.hid (show wr.heap.size ≤ b9 by have := Bc.out.size; omega)
          have Bc := Lib.hid (below_on Bc.out hone)
          have PA := Lib.hid hmade
          clear hmade hone hb9
          generalize wc.alloc (.cells #[.int .i64 0, .int .i64 0] 52) = wc at *
          go_simp
          refine hK.out _ _ (KS.out _ Bc.out) (fun h0_1 => ?_)
          clear hK K h0
          refine wpAnyH_ready (rs := [5]) (by kernel_rfl) (by simp) (AllReadyH.cons rfl (fun K hK => ?_) AllReadyH.nil)
          rw [if_pos (by rfl)]
          go_simp
          refine (AT.out _).mono ?_
          rintro e wc ⟨rfl, hb⟩
          try (have PA := Lib.hid (PA.out.kept hb))
          have Bc := Lib.hid (below_on Bc.out hb)
          clear hb
          go_simp
          refine hK.out _ _ (KS.out _ Bc.out) (fun h0_4 => ?_)
          clear hK K h0_1
          refine wpAnyH_take (i := 6) (v := ?v10) rfl (by kernel_rfl) (by kernel_rfl) (by kernel_rfl) (fun _ _ _ h => h) (Or.inl ⟨by rfl, ?hy10⟩) h0_4 ?rest10
          case hy10 => (intro w' hS; (try dsimp only at hS); go_simp; try (with_reducible rfl))
          simp only [Act.put, List.getElem_toArray, List.getElem_cons_zero, List.getElem_cons_succ, List.setIfInBounds_toArray, List.set_cons_zero, List.set_cons_succ]
          refine wpAnyH_take (i := 7) (v := ?v11) rfl (by kernel_rfl) (by kernel_rfl) (by kernel_rfl) (fun _ _ _ h => h) (Or.inl ⟨by rfl, ?hy11⟩) h0_4 ?rest11
          case hy11 => (intro w' hS; (try dsimp only at hS); go_simp; try (with_reducible rfl))
          simp only [Act.put, List.getElem_toArray, List.getElem_cons_zero, List.getElem_cons_succ, List.setIfInBounds_toArray, List.set_cons_zero, List.set_cons_succ]
          refine wpAnyH_take (i := 8) (v := ?v12) rfl (by kernel_rfl) (by kernel_rfl) (by kernel_rfl) (fun _ _ _ h => h) (Or.inl ⟨by rfl, ?hy12⟩) h0_4 ?rest12
          case hy12 => (intro w' hS; (try dsimp only at hS); go_simp; try (with_reducible rfl))
          simp only [Act.put, List.getElem_toArray, List.getElem_cons_zero, List.getElem_cons_succ, List.setIfInBounds_toArray, List.set_cons_zero, List.set_cons_succ]
          refine wpAnyH_ready (rs := [10]) (by kernel_rfl) (by simp) (AllReadyH.cons rfl (fun K hK => ?_) AllReadyH.nil)
          rw [if_pos (by rfl)]
          obtain ⟨p0, p1, p2, p3⟩ := PA.out.facts
          go_simp
          have hput := PA.out.put an ad
          have hP := Lib.hid (far_below Bc.out (x := b9) LB.out (.int .i64 an) (.int .i64 ad))
          clear p0 p1 p2 p3
          generalize (wc.setCell ⟨b9, 0, none⟩ (.int .i64 an)).setCell ⟨b9, 1, none⟩ (.int .i64 ad) = wc at *
          have Bc := hP
          have PA := Lib.hid hput
          clear hP hput
          refine hK.out _ _ (KS.out _ Bc.out) (fun h0_5 => ?_)
          clear hK K h0_4
          refine wpAnyH_take (i := 11) (v := ?v13) rfl (by kernel_rfl) (by kernel_rfl) (by kernel_rfl) (fun _ _ _ h => h) (Or.inl ⟨by rfl, ?hy13⟩) h0_5 ?rest13
          case hy13 => (intro w' hS; (try dsimp only at hS); go_simp; try (with_reducible rfl))
          simp only [Act.put, List.getElem_toArray, List.getElem_cons_zero, List.getElem_cons_succ, List.setIfInBounds_toArray, List.set_cons_zero, List.set_cons_succ]
          refine wpAnyH_done (by kernel_rfl) ?_ _
          go_wp2_with fail
          go_meet
          case rel => exact ⟨b9, rfl, rfl, Lib.hid ⟨PA.out, Bc.out⟩⟩
      case rest =>
      obtain ⟨b, rfl, rfl, HC⟩ := hcut
      have PC := Lib.hid HC.out.1
      have H7 := Lib.hid HC.out.2
      clear HC AT RT
      generalize wc = w7 at *
      by_cases he : ev = 0
      case neg =>
        have E1 : (ev == 0) = false := by simp [he]
        have E2 : (ev != 0) = true := by simp [he]
        clear he
        go_wp2_with fail
        go_ret
        exact ⟨rfl, below_on E0.out (below_on HX.out.2 H7.out)⟩
      case pos =>
      subst he
      have Q7 := Lib.hid (below_on HX.out.2 H7.out)
      have hown := ownsQ_on HX.out.1 H7.out
      have hsz := Q7.out.size
      obtain ⟨p0, p1, p2, p3⟩ := PC.out.facts
      have A9 := Lib.hid (cells_two (w := w7) (.int .i64 an) (.int .i64 ad) 52 rfl)
      go_wp2_with (at_builtin; refine wpList_append_own _ rfl _ _ 48 rfl w0.heap.size 52 i0 (.agg #[.int .i64 0, .int .i64 0]) 2 16 Try.underlying48 hi hz0 hz1 hz2 rfl (by decide) _ _ _ rfl (World.ownsRow.alloc hown _) ⟨w7.heap.size, 0, none⟩ 1 1 [.int .i64 an, .int .i64 ad] rfl rfl A9.out (by simp [Value.oneCell']) (by unfold maxLen; omega) (by omega) (by simp; omega) ?_)
      intro v' w9 hown9 hgrow _
      have B9 := Lib.hid (show Below w0.heap.size w0 w9 from Below.grown (Q7.out.alloc Q7.out.size _) hgrow (by simp; omega) (fun k hk => (World.ownsRow.lt hown k hk).1))
      have O9 := Lib.hid (show w9.ownsRow w0.heap.size 52 2 v' (t + 1) (qV (qs.take (t + 1))) by
        rw [HTT.out, qV_app]
        exact hown9)
      have HAL1 := Lib.hid (show ∀ k, k < t + 1 → ae k = 0 from fun k hk => by
        by_cases c : k = t
        · rw [c, ← HEV.out]
        · exact HAL.out k (by omega))
      clear hown9 hgrow hown hsz p0 p1 p2 p3
      go_wp2_with fail
      go_roundw
      case rel => exact ⟨t + 1, by omega, by go_num, Lib.hid ⟨O9.out, B9.out⟩, HAL1⟩
      case measure => simp [intOf]; omega
    case neg =>
      exfalso
      obtain ⟨k, hk, hne⟩ := HAE.out
      exact hne (HAL.out k (by omega))

set_option maxRecDepth 100000 in
set_option maxHeartbeats 4000000 in
theorem later_7s (N : Int) (ao : Option Addr) (len cap : Nat) (ps : List Pq) (pb : Addr) (pc : Nat) (dn dd : Int) (x : Dl) (g : Int) (qs : List Pq) (hq : Bool) (w : World) (hl : ps.length ≤ 50) (h0 : 0 ≤ dn)
    (VD : Hid (∀ W, Calls Try.prog 107 #[.agg #[.int .i64 dn, .int .i64 dd]] W (Made (.bool true) W)))
    (hP : Rd2 w pb ps) (ae : Nat → Int) (HQL : qs.length = ps.length)
    (AD : Hid (∀ W k, k < ps.length → Calls Try.prog 99 #[.agg #[.int .i64 (gp ps k).1, .int .i64 (gp ps k).2], .agg #[.int .i64 dn, .int .i64 dd]] W (Made (.tuple #[.agg #[.int .i64 (gp qs k).1, .int .i64 (gp qs k).2], .int .i64 (ae k)]) W)))
    (hae : ∀ k, k < ps.length → ae k = 0)
    (HQ : Hid (∀ W qo qc, Arg2 W qo qs → (qo = none → qc = 0) → Below w.heap.size w W → Calls Try.prog 46 #[.agg #[.int .i64 N, .slice ao len cap], .slice qo ps.length qc] W (Made (.tuple #[.bool hq, .int .i64 7]) W))) :
    Calls Try.prog 52 #[.agg #[.int .i64 N, .slice ao len cap], .slice (some pb) ps.length pc, .agg #[.int .i64 dn, .int .i64 dd], .agg #[.int .i64 x.ln, .int .i64 x.ld, .int .i64 x.hn, .int .i64 x.hd, .bool x.lo, .bool x.ho, .bool x.nh], .int .i64 g] w (Made (.bool true) w) := by
  obtain ⟨i0, hi, hz0, hz1, hz2⟩ := info_parts rat_info
  have RP := Lib.hid (show ∀ W, Below w.heap.size w W → Rd2 W pb ps from fun W h => hP.on h)
  have HAE := Lib.hid hae
  have HQL2 := Lib.hid HQL
  have HTK := Lib.hid (show ∀ t, t < ps.length → qs.take (t + 1) = qs.take t ++ [gp qs t] from fun t ht => by
    rw [List.take_add_one]
    simp [gp, show t < qs.length by omega])
  clear hP hae HQL
  have HLEN := Lib.hid hl
  have G0 : decide (dn < 0) = false := decide_eq_false (by omega)
  clear h0
  obtain ⟨w0, hw0⟩ : ∃ w0, w0 = (((w.alloc (.cells #[.int .i64 N, .slice ao len cap] 25)).alloc (.cells #[.int .i64 dn, .int .i64 dd] 52)).alloc (.cells #[.int .i64 x.ln, .int .i64 x.ld, .int .i64 x.hn, .int .i64 x.hd, .bool x.lo, .bool x.ho, .bool x.nh] 64)) := ⟨_, rfl⟩
  have BZ := Lib.hid (show Bx w0 w.heap.size #[.int .i64 N, .slice ao len cap] by rw [hw0]; exact ((Bx.made _ _ _).kept (one_more _)).kept (one_more _))
  have BD := Lib.hid (show Bx w0 (w.heap.size + 1) #[.int .i64 dn, .int .i64 dd] by
    rw [hw0]
    have := (Bx.made (w.alloc (.cells #[.int .i64 N, .slice ao len cap] 25)) #[.int .i64 dn, .int .i64 dd] 52).kept (one_more (.cells #[.int .i64 x.ln, .int .i64 x.ld, .int .i64 x.hn, .int .i64 x.hd, .bool x.lo, .bool x.ho, .bool x.nh] 64))
    simpa using this)
  have BS := Lib.hid (show Bx w0 (w.heap.size + 2) #[.int .i64 x.ln, .int .i64 x.ld, .int .i64 x.hn, .int .i64 x.hd, .bool x.lo, .bool x.ho, .bool x.nh] by
    rw [hw0]
    have := Bx.made ((w.alloc (.cells #[.int .i64 N, .slice ao len cap] 25)).alloc (.cells #[.int .i64 dn, .int .i64 dd] 52)) #[.int .i64 x.ln, .int .i64 x.ld, .int .i64 x.hn, .int .i64 x.hd, .bool x.lo, .bool x.ho, .bool x.nh] 64
    simpa using this)
  have E0 := Lib.hid (show Below w.heap.size w w0 by rw [hw0]; exact past_three (Below.refl _ _))
  have KF := Lib.hid (show ∀ W, Below w0.heap.size w0 W → (W.cell? ⟨w.heap.size, 0, none⟩ = some (.int .i64 N) ∧ W.cell? ⟨w.heap.size, 1, none⟩ = some (.slice ao len cap) ∧ W.cell? ⟨w.heap.size + 1, 0, none⟩ = some (.int .i64 dn) ∧ W.cell? ⟨w.heap.size + 1, 1, none⟩ = some (.int .i64 dd) ∧ W.cell? ⟨w.heap.size + 2, 0, none⟩ = some (.int .i64 x.ln) ∧ W.cell? ⟨w.heap.size + 2, 1, none⟩ = some (.int .i64 x.ld) ∧ W.cell? ⟨w.heap.size + 2, 2, none⟩ = some (.int .i64 x.hn) ∧ W.cell? ⟨w.heap.size + 2, 3, none⟩ = some (.int .i64 x.hd) ∧ W.cell? ⟨w.heap.size + 2, 4, none⟩ = some (.bool x.lo) ∧ W.cell? ⟨w.heap.size + 2, 5, none⟩ = some (.bool x.ho) ∧ W.cell? ⟨w.heap.size + 2, 6, none⟩ = some (.bool x.nh)) from fun W h => ⟨(BZ.out.kept h).cell 0, (BZ.out.kept h).cell 1, (BD.out.kept h).cell 0, (BD.out.kept h).cell 1, (BS.out.kept h).cell 0, (BS.out.kept h).cell 1, (BS.out.kept h).cell 2, (BS.out.kept h).cell 3, (BS.out.kept h).cell 4, (BS.out.kept h).cell 5, (BS.out.kept h).cell 6⟩)
  clear BZ BD BS
  go_enter Try.func52, Try.ntmps52
  go_upto_region 1 with (fail)
  rw [← hw0]
  clear hw0
  obtain ⟨z0, z1, d0, d1, s0, s1, s2, s3, s4, s5, s6⟩ := KF.out _ (Below.refl _ _)
  go_wp2_with fail
  refine (VD.out _).mono ?_
  rintro e w1 ⟨rfl, hb⟩
  have B1 := Lib.hid hb
  clear hb z0 z1 d0 d1 s0 s1 s2 s3 s4 s5 s6 VD
  obtain ⟨z0, z1, d0, d1, s0, s1, s2, s3, s4, s5, s6⟩ := KF.out _ (B1.out)
  go_wp2_with fail
  clear z0 z1 d0 d1 s0 s1 s2 s3 s4 s5 s6
  go_loopw [11, 12] (fun v s wr => ∃ t : Nat, t ≤ ps.length ∧ s = .int .i64 (t : Int) ∧ Hid (wr.ownsRow w0.heap.size 52 2 v t (qV (qs.take t)) ∧ Below w0.heap.size w0 wr) ∧ Hid (∀ k, k < t → ae k = 0)) (fun _ s _ => ps.length - (intOf s).toNat)
  case atStart => exact ⟨0, by omega, rfl, Lib.hid ⟨World.ownsRow_nil _ _ _ _, B1.out⟩, Lib.hid (fun k hk => absurd hk (by omega))⟩
  case round =>
    obtain ⟨t, ht, rfl, HX, HAL⟩ := hrel
    by_cases htn : t < ps.length
    case pos =>
      have TB : decide ((t : Int) < (ps.length : Int)) = true := by simp; omega
      have tb : (t : Int) < 50 := by have := HLEN.out; omega
      have kl : (t : Int) < (ps.length : Int) := by omega
      have AT := Lib.hid (fun W => AD.out W t htn)
      have RT := Lib.hid (fun W h => RP.out W h t htn)
      have HTT := Lib.hid (HTK.out t htn)
      have HAT := Lib.hid (show ae t = ae t from rfl)
      generalize gp ps t = pq at *
      obtain ⟨pn, pd⟩ := pq
      generalize gp qs t = qq at *
      obtain ⟨an, ad⟩ := qq
      obtain ⟨ev, hev⟩ : ∃ ev, ev = ae t := ⟨_, rfl⟩
      rw [← hev] at AT
      have HEV := Lib.hid hev
      clear hev HAT
      go_upto_region 7 with (fail)
      go_cut [13, 14] (fun p s wx => ∃ b : Nat, p = .pointer (some ⟨b, 0, none⟩) ∧ s = .int .i64 ev ∧ Hid (Pair wx b an ad ∧ Below wr.heap.size wr wx))
      case first =>
        have KS := Lib.hid (show ∀ W, Below wr.heap.size wr W → ((W.cell? (pb.add (t * 2)) = some (.int .i64 pn) ∧ W.cell? ⟨(pb.add (t * 2)).block, (pb.add (t * 2)).off + 1, none⟩ = some (.int .i64 pd)) ∧ (W.cell? ⟨w.heap.size + 1, 0, none⟩ = some (.int .i64 dn) ∧ W.cell? ⟨w.heap.size + 1, 1, none⟩ = some (.int .i64 dd))) from fun W h => by
          have hB := below_on HX.out.2 h
          have k := KF.out _ hB
          exact ⟨RT.out _ (below_on E0.out hB), k.2.2.1, k.2.2.2.1⟩)
        obtain ⟨wc, hwc⟩ : ∃ wc, wc = wr.drew := ⟨_, rfl⟩
        have Bc := Lib.hid (show Below wr.heap.size wr wc by rw [hwc]; exact (Below.refl _ _).drew)
        refine wp_region_held_drew (S := (fun W => ((W.cell? (pb.add (t * 2)) = some (.int .i64 pn) ∧ W.cell? ⟨(pb.add (t * 2)).block, (pb.add (t * 2)).off + 1, none⟩ = some (.int .i64 pd)) ∧ (W.cell? ⟨w.heap.size + 1, 0, none⟩ = some (.int .i64 dn) ∧ W.cell? ⟨w.heap.size + 1, 1, none⟩ = some (.int .i64 dd))))) (by kernel_rfl) (by rw [← hwc]; exact KS.out _ Bc.out) (fun h0 => ?_)
        rw [← hwc] at h0 ⊢
        clear hwc
        refine wpAnyH_take (i := 0) (v := ?v14) rfl (by kernel_rfl) (by kernel_rfl) (by kernel_rfl) (fun _ _ _ h => h) (Or.inl ⟨by rfl, ?hy14⟩) h0 ?rest14
        case hy14 => (intro w' hS; (try dsimp only at hS); go_simp; try (with_reducible rfl))
        simp only [Act.put, List.getElem_toArray, List.getElem_cons_zero, List.setIfInBounds_toArray, List.set_cons_zero, List.set_cons_succ]
        refine wpAnyH_take (i := 1) (v := ?v15) rfl (by kernel_rfl) (by kernel_rfl) (by kernel_rfl) (fun _ _ _ h => h) (Or.inl ⟨by rfl, ?hy15⟩) h0 ?rest15
        case hy15 => (intro w' hS; (try dsimp only at hS); go_simp; try (with_reducible rfl))
        simp only [Act.put, List.getElem_toArray, List.getElem_cons_zero, List.getElem_cons_succ, List.setIfInBounds_toArray, List.set_cons_zero, List.set_cons_succ]
        refine wpAnyH_take (i := 2) (v := ?v16) rfl (by kernel_rfl) (by kernel_rfl) (by kernel_rfl) (fun _ _ _ h => h) (Or.inl ⟨by rfl, ?hy16⟩) h0 ?rest16
        case hy16 => (intro w' hS; (try dsimp only at hS); go_simp; try (with_reducible rfl))
        simp only [Act.put, List.getElem_toArray, List.getElem_cons_zero, List.getElem_cons_succ, List.setIfInBounds_toArray, List.set_cons_zero, List.set_cons_succ]
        refine wpAnyH_take (i := 3) (v := ?v17) rfl (by kernel_rfl) (by kernel_rfl) (by kernel_rfl) (fun _ _ _ h => h) (Or.inl ⟨by rfl, ?hy17⟩) h0 ?rest17
        case hy17 => (intro w' hS; (try dsimp only at hS); go_simp; try (with_reducible rfl))
        simp only [Act.put, List.getElem_toArray, List.getElem_cons_zero, List.getElem_cons_succ, List.setIfInBounds_toArray, List.set_cons_zero, List.set_cons_succ]
        refine wpAnyH_take (i := 4) (v := ?v18) rfl (by kernel_rfl) (by kernel_rfl) (by kernel_rfl) (fun _ _ _ h => h) (Or.inl ⟨by rfl, ?hy18⟩) h0 ?rest18
        case hy18 => (intro w' hS; (try dsimp only at hS); go_simp; try (with_reducible rfl))
        simp only [Act.put, List.getElem_toArray, List.getElem_cons_zero, List.getElem_cons_succ, List.setIfInBounds_toArray, List.set_cons_zero, List.set_cons_succ]
        refine wpAnyH_ready (rs := [5, 9]) (by kernel_rfl) (by simp) (AllReadyH.cons rfl (fun K hK => ?_) (AllReadyH.cons rfl (fun K hK => ?_) AllReadyH.nil))
        · rw [if_pos (by rfl)]
          go_simp
          refine (AT.out _).mono ?_
          rintro e wc ⟨rfl, hb⟩
          try (have PA := Lib.hid (PA.out.kept hb))
          have Bc := Lib.hid (below_on Bc.out hb)
          clear hb
          go_simp
          refine hK.out _ _ (KS.out _ Bc.out) (fun h0_1 => ?_)
          clear hK K h0
          refine wpAnyH_take (i := 6) (v := ?v19) rfl (by kernel_rfl) (by kernel_rfl) (by kernel_rfl) (fun _ _ _ h => h) (Or.inl ⟨by rfl, ?hy19⟩) h0_1 ?rest19
          case hy19 => (intro w' hS; (try dsimp only at hS); go_simp; try (with_reducible rfl))
          simp only [Act.put, List.getElem_toArray, List.getElem_cons_zero, List.getElem_cons_succ, List.setIfInBounds_toArray, List.set_cons_zero, List.set_cons_succ]
          refine wpAnyH_take (i := 7) (v := ?v20) rfl (by kernel_rfl) (by kernel_rfl) (by kernel_rfl) (fun _ _ _ h => h) (Or.inl ⟨by rfl, ?hy20⟩) h0_1 ?rest20
          case hy20 => (intro w' hS; (try dsimp only at hS); go_simp; try (with_reducible rfl))
          simp only [Act.put, List.getElem_toArray, List.getElem_cons_zero, List.getElem_cons_succ, List.setIfInBounds_toArray, List.set_cons_zero, List.set_cons_succ]
          refine wpAnyH_take (i := 8) (v := ?v21) rfl (by kernel_rfl) (by kernel_rfl) (by kernel_rfl) (fun _ _ _ h => h) (Or.inl ⟨by rfl, ?hy21⟩) h0_1 ?rest21
          case hy21 => (intro w' hS; (try dsimp only at hS); go_simp; try (with_reducible rfl))
          simp only [Act.put, List.getElem_toArray, List.getElem_cons_zero, List.getElem_cons_succ, List.setIfInBounds_toArray, List.set_cons_zero, List.set_cons_succ]
          refine wpAnyH_ready (rs := [9]) (by kernel_rfl) (by simp) (AllReadyH.cons rfl (fun K hK => ?_) AllReadyH.nil)
          rw [if_pos (by rfl)]
          go_simp
          obtain ⟨b9, hb9⟩ : ∃ b, b = wc.heap.size := ⟨_, rfl⟩
          rw [← hb9]
          have hmade := Pair.made wc 0 0 52
          rw [← hb9] at hmade
          have hone := one_more (w1 := wc) (.cells #[.int .i64 0, .int .i64 0] 52)
          have LB := Lib.hid (show wr.heap.size ≤ b9 by have := Bc.out.size; omega)
          have Bc := Lib.hid (below_on Bc.out hone)
          have PA := Lib.hid hmade
          clear hmade hone hb9
          generalize wc.alloc (.cells #[.int .i64 0, .int .i64 0] 52) = wc at *
          go_simp
          refine hK.out _ _ (KS.out _ Bc.out) (fun h0_2 => ?_)
          clear hK K h0_1
          refine wpAnyH_ready (rs := [10]) (by kernel_rfl) (by simp) (AllReadyH.cons rfl (fun K hK => ?_) AllReadyH.nil)
          rw [if_pos (by rfl)]
          obtain ⟨p0, p1, p2, p3⟩ := PA.out.facts
          go_simp
          have hput := PA.out.put an ad
          have hP := Lib.hid (far_below Bc.out (x := b9) LB.out (.int .i64 an) (.int .i64 ad))
          clear p0 p1 p2 p3
          generalize (wc.setCell ⟨b9, 0, none⟩ (.int .i64 an)).setCell ⟨b9, 1, none⟩ (.int .i64 ad) = wc at *
          have Bc := hP
          have PA := Lib.hid hput
          clear hP hput
          refine hK.out _ _ (KS.out _ Bc.out) (fun h0_3 => ?_)
          clear hK K h0_2
          refine wpAnyH_take (i := 11) (v := ?v22) rfl (by kernel_rfl) (by kernel_rfl) (by kernel_rfl) (fun _ _ _ h => h) (Or.inl ⟨by rfl, ?hy22⟩) h0_3 ?rest22
          case hy22 => (intro w' hS; (try dsimp only at hS); go_simp; try (with_reducible rfl))
          simp only [Act.put, List.getElem_toArray, List.getElem_cons_zero, List.getElem_cons_succ, List.setIfInBounds_toArray, List.set_cons_zero, List.set_cons_succ]
          refine wpAnyH_done (by kernel_rfl) ?_ _
          go_wp2_with fail
          go_meet
          case rel => exact ⟨b9, rfl, rfl, Lib.hid ⟨PA.out, Bc.out⟩⟩
        · rw [if_pos (by rfl)]
          go_simp
          obtain ⟨b9, hb9⟩ : ∃ b, b = wc.heap.size := ⟨_, rfl⟩
          rw [← hb9]
          have hmade := Pair.made wc 0 0 52
          rw [← hb9] at hmade
          have hone := one_more (w1 := wc) (.cells #[.int .i64 0, .int .i64 0] 52)
          have LB := Lib.hid (show wr.heap.size ≤ b9 by have := Bc.out.size; omega)
          have Bc := Lib.hid (below_on Bc.out hone)
          have PA := Lib.hid hmade
          clear hmade hone hb9
          generalize wc.alloc (.cells #[.int .i64 0, .int .i64 0] 52) = wc at *
          go_simp
          refine hK.out _ _ (KS.out _ Bc.out) (fun h0_1 => ?_)
          clear hK K h0
          refine wpAnyH_ready (rs := [5]) (by kernel_rfl) (by simp) (AllReadyH.cons rfl (fun K hK => ?_) AllReadyH.nil)
          rw [if_pos (by rfl)]
          go_simp
          refine (AT.out _).mono ?_
          rintro e wc ⟨rfl, hb⟩
          try (have PA := Lib.hid (PA.out.kept hb))
          have Bc := Lib.hid (below_on Bc.out hb)
          clear hb
          go_simp
          refine hK.out _ _ (KS.out _ Bc.out) (fun h0_4 => ?_)
          clear hK K h0_1
          refine wpAnyH_take (i := 6) (v := ?v23) rfl (by kernel_rfl) (by kernel_rfl) (by kernel_rfl) (fun _ _ _ h => h) (Or.inl ⟨by rfl, ?hy23⟩) h0_4 ?rest23
          case hy23 => (intro w' hS; (try dsimp only at hS); go_simp; try (with_reducible rfl))
          simp only [Act.put, List.getElem_toArray, List.getElem_cons_zero, List.getElem_cons_succ, List.setIfInBounds_toArray, List.set_cons_zero, List.set_cons_succ]
          refine wpAnyH_take (i := 7) (v := ?v24) rfl (by kernel_rfl) (by kernel_rfl) (by kernel_rfl) (fun _ _ _ h => h) (Or.inl ⟨by rfl, ?hy24⟩) h0_4 ?rest24
          case hy24 => (intro w' hS; (try dsimp only at hS); go_simp; try (with_reducible rfl))
          simp only [Act.put, List.getElem_toArray, List.getElem_cons_zero, List.getElem_cons_succ, List.setIfInBounds_toArray, List.set_cons_zero, List.set_cons_succ]
          refine wpAnyH_take (i := 8) (v := ?v25) rfl (by kernel_rfl) (by kernel_rfl) (by kernel_rfl) (fun _ _ _ h => h) (Or.inl ⟨by rfl, ?hy25⟩) h0_4 ?rest25
          case hy25 => (intro w' hS; (try dsimp only at hS); go_simp; try (with_reducible rfl))
          simp only [Act.put, List.getElem_toArray, List.getElem_cons_zero, List.getElem_cons_succ, List.setIfInBounds_toArray, List.set_cons_zero, List.set_cons_succ]
          refine wpAnyH_ready (rs := [10]) (by kernel_rfl) (by simp) (AllReadyH.cons rfl (fun K hK => ?_) AllReadyH.nil)
          rw [if_pos (by rfl)]
          obtain ⟨p0, p1, p2, p3⟩ := PA.out.facts
          go_simp
          have hput := PA.out.put an ad
          have hP := Lib.hid (far_below Bc.out (x := b9) LB.out (.int .i64 an) (.int .i64 ad))
          clear p0 p1 p2 p3
          generalize (wc.setCell ⟨b9, 0, none⟩ (.int .i64 an)).setCell ⟨b9, 1, none⟩ (.int .i64 ad) = wc at *
          have Bc := hP
          have PA := Lib.hid hput
          clear hP hput
          refine hK.out _ _ (KS.out _ Bc.out) (fun h0_5 => ?_)
          clear hK K h0_4
          refine wpAnyH_take (i := 11) (v := ?v26) rfl (by kernel_rfl) (by kernel_rfl) (by kernel_rfl) (fun _ _ _ h => h) (Or.inl ⟨by rfl, ?hy26⟩) h0_5 ?rest26
          case hy26 => (intro w' hS; (try dsimp only at hS); go_simp; try (with_reducible rfl))
          simp only [Act.put, List.getElem_toArray, List.getElem_cons_zero, List.getElem_cons_succ, List.setIfInBounds_toArray, List.set_cons_zero, List.set_cons_succ]
          refine wpAnyH_done (by kernel_rfl) ?_ _
          go_wp2_with fail
          go_meet
          case rel => exact ⟨b9, rfl, rfl, Lib.hid ⟨PA.out, Bc.out⟩⟩
      case rest =>
      obtain ⟨b, rfl, rfl, HC⟩ := hcut
      have PC := Lib.hid HC.out.1
      have H7 := Lib.hid HC.out.2
      clear HC AT RT
      generalize wc = w7 at *
      obtain rfl : ev = 0 := by rw [HEV.out]; exact HAE.out t htn
      have Q7 := Lib.hid (below_on HX.out.2 H7.out)
      have hown := ownsQ_on HX.out.1 H7.out
      have hsz := Q7.out.size
      obtain ⟨p0, p1, p2, p3⟩ := PC.out.facts
      have A9 := Lib.hid (cells_two (w := w7) (.int .i64 an) (.int .i64 ad) 52 rfl)
      go_wp2_with (at_builtin; refine wpList_append_own _ rfl _ _ 48 rfl w0.heap.size 52 i0 (.agg #[.int .i64 0, .int .i64 0]) 2 16 Try.underlying48 hi hz0 hz1 hz2 rfl (by decide) _ _ _ rfl (World.ownsRow.alloc hown _) ⟨w7.heap.size, 0, none⟩ 1 1 [.int .i64 an, .int .i64 ad] rfl rfl A9.out (by simp [Value.oneCell']) (by unfold maxLen; omega) (by omega) (by simp; omega) ?_)
      intro v' w9 hown9 hgrow _
      have B9 := Lib.hid (show Below w0.heap.size w0 w9 from Below.grown (Q7.out.alloc Q7.out.size _) hgrow (by simp; omega) (fun k hk => (World.ownsRow.lt hown k hk).1))
      have O9 := Lib.hid (show w9.ownsRow w0.heap.size 52 2 v' (t + 1) (qV (qs.take (t + 1))) by
        rw [HTT.out, qV_app]
        exact hown9)
      have HAL1 := Lib.hid (show ∀ k, k < t + 1 → ae k = 0 from fun k hk => by
        by_cases c : k = t
        · rw [c, ← HEV.out]
        · exact HAL.out k (by omega))
      clear hown9 hgrow hown hsz p0 p1 p2 p3
      go_wp2_with fail
      go_roundw
      case rel => exact ⟨t + 1, by omega, by go_num, Lib.hid ⟨O9.out, B9.out⟩, HAL1⟩
      case measure => simp [intOf]; omega
    case neg =>
      have hown := HX.out.1
      rw [List.take_of_length_le (by have := HQL2.out; omega)] at hown
      obtain ⟨qo, qc, rfl, hA, hN⟩ := ownQ_arg (by have := HQL2.out; omega) hown
      obtain rfl : t = ps.length := by omega
      have HA := Lib.hid hA
      have HN := Lib.hid hN
      have Q5 := Lib.hid HX.out.2
      clear hown hA hN HX ht htn
      have TB : decide ((ps.length : Int) < (ps.length : Int)) = false := by simp
      obtain ⟨z0, z1, d0, d1, s0, s1, s2, s3, s4, s5, s6⟩ := KF.out _ (Q5.out)
      go_wp2_with fail
      refine (HQ.out _ _ _ HA.out HN.out (below_on E0.out Q5.out)).mono ?_
      rintro e w6 ⟨rfl, hb⟩
      have Q6 := Lib.hid (below_on Q5.out hb)
      clear hb z0 z1 d0 d1 s0 s1 s2 s3 s4 s5 s6 HQ HA HN Q5
      go_wp2_with fail
      go_ret
      exact ⟨rfl, below_on E0.out Q6.out⟩
end Go.Proofs.Ytbnebinpemejlaa
