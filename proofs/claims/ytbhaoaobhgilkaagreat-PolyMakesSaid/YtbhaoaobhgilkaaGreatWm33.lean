/- The contract of total of layer 7's reference, in the words of the project's at. -/
import Derived.Test.YtbhaoaobhgilkaaGreatWm3
import Derived.Test.YtbhaoaobhgilkaaGreatWm21
import Derived.Test.YtbhaoaobhgilkaaGreatWm19

namespace Go.Proofs.YtbhaoaobhgilkaaGreat
open Go.RowKit Go.Sort Go.Shelf

section
variable (x y : Pq) (w : World) (hx : I2 x) (hy : I2 y)
include hx hy

theorem raddP_any : Calls Tryz.prog 34 #[.agg #[.int .i64 x.1, .int .i64 x.2], .agg #[.int .i64 y.1, .int .i64 y.2]] w (Made (.tuple #[.agg #[.int .i64 (adR x y).1, .int .i64 (adR x y).2], .int .i64 (adE x y)]) w) := refAdd_any _ _ _ _ w hx.1 hx.2 hy.1 hy.2

theorem rmulP_any : Calls Tryz.prog 33 #[.agg #[.int .i64 x.1, .int .i64 x.2], .agg #[.int .i64 y.1, .int .i64 y.2]] w (Made (.tuple #[.agg #[.int .i64 (muR x y).1, .int .i64 (muR x y).2], .int .i64 (muE x y)]) w) := refMul_any _ _ _ _ w hx.1 hx.2 hy.1 hy.2

theorem rcmpP_any : Calls Tryz.prog 35 #[.agg #[.int .i64 x.1, .int .i64 x.2], .agg #[.int .i64 y.1, .int .i64 y.2]] w (Made (.tuple #[.int .i64 (cmR x y), .int .i64 (cmE x y)]) w) := refCmp_any _ _ _ _ w hx.1 hx.2 hy.1 hy.2
end

def totR (a : List Int) (ps : List Pq) (n : Nat) : Pq := if (atN a ps n).2 = 0 then (atN a ps n).1 else (0, 0)

structure TotI (w wr : World) (y : AV) (s : Pq) : Prop where
  be : Below w.heap.size w wr
  bk : BkV wr w.heap.size y
  p4 : Pair wr (w.heap.size + 1) 0 0
  p6 : Pair wr (w.heap.size + 2) s.1 s.2

theorem TotI.on {w wr w' : World} {y : AV} {s : Pq} (h : TotI w wr y s) (hb : Below wr.heap.size wr w') : TotI w w' y s := ⟨below_on h.be hb, h.bk.kept hb, h.p4.kept hb, h.p6.kept hb⟩

theorem BkV.asideP {w : World} {b : Nat} {y : AV} (h : BkV w b y) {q : Nat} (hne : b ≠ q) (u v : Value) : BkV ((w.setCell ⟨q, 0, none⟩ u).setCell ⟨q, 1, none⟩ v) b y := by
  unfold BkV at *
  rw [heap_setCell_other _ ⟨q, 1, none⟩ b v hne, heap_setCell_other _ ⟨q, 0, none⟩ b u hne]; exact h

theorem TotI.put {w wr : World} {y : AV} {s : Pq} (h : TotI w wr y s) (x : Pq) : TotI w ((wr.setCell ⟨w.heap.size + 2, 0, none⟩ (.int .i64 x.1)).setCell ⟨w.heap.size + 2, 1, none⟩ (.int .i64 x.2)) y x :=
  ⟨below_put h.be (by omega) _ _, h.bk.asideP (by omega) _ _, h.p4.aside (by omega) _ _, h.p6.put _ _⟩

set_option maxRecDepth 100000 in
set_option maxHeartbeats 4000000 in
theorem rtotal_any (y : AV) (ps : List Pq) (po : Option Addr) (pc : Nat) (w : World) (hl : ps.length ≤ y.a.length) (hb : y.a.length ≤ 1000) (hR : Rd1 w y.q y.a) (hS : Rd2 w po ps) (hI : ∀ v ∈ y.a, I64 v) (hP : ∀ t, t < ps.length → I2 (gp ps t)) :
    Calls Tryz.prog 68 #[.agg y.cs, .slice po ps.length pc] w (Made (.tuple #[.agg #[.int .i64 (totR y.a ps ps.length).1, .int .i64 (totR y.a ps ps.length).2], .int .i64 (atN y.a ps ps.length).2]) w) := by
  obtain ⟨w0, hw0⟩ : ∃ w0, w0 = ((w.alloc (.cells y.cs 25)).alloc (.cells #[.int .i64 0, .int .i64 0] 50)).alloc (.cells #[.int .i64 0, .int .i64 1] 50) := ⟨_, rfl⟩
  have I0 := Lib.hid (show TotI w w0 y (0, 1) from by
    refine ⟨by rw [hw0]; exact past_three (Below.refl _ _), ?_, ?_, ?_⟩
    · rw [hw0]; exact ((BkV.made w y).kept (one_more _)).kept (one_more _)
    · rw [hw0]; have := (Pair.made (w.alloc (.cells y.cs 25)) 0 0 50).alloc (.cells #[.int .i64 0, .int .i64 1] 50); simpa using this
    · rw [hw0]; have := Pair.made ((w.alloc (.cells y.cs 25)).alloc (.cells #[.int .i64 0, .int .i64 0] 50)) 0 1 50; simpa using this)
  obtain ⟨n, hN⟩ : ∃ n, n = ps.length := ⟨_, rfl⟩
  obtain ⟨m, hM⟩ : ∃ m, m = y.a.length := ⟨_, rfl⟩
  have HM := Lib.hid hM
  have HR := Lib.hid hR
  have HI := Lib.hid hI
  have RD := Lib.hid (show ∀ W, Below w.heap.size w W → ∀ t, t < n → ∃ a, po = some a ∧ QAt W (a.add (t * 2)) (gp ps t) from fun W h t ht => (hS.on h) t (by omega))
  have IP := Lib.hid (show ∀ t, t < n → I2 (gp ps t) from fun t ht => hP t (by omega))
  have nm : n ≤ m := by omega
  have m1 : m ≤ 1000 := by omega
  rw [← hN]
  obtain ⟨T, hT⟩ : ∃ T, T = totR y.a ps n := ⟨_, rfl⟩
  obtain ⟨er, her⟩ : ∃ er, er = (atN y.a ps n).2 := ⟨_, rfl⟩
  have HT := Lib.hid hT
  have HE := Lib.hid her
  rw [← hT, ← her]
  have TB := Lib.hid (show er ≠ 0 → T = (0, 0) from fun h => by rw [hT]; unfold totR; rw [← her, if_neg h])
  have TG := Lib.hid (show er = 0 → T = (atN y.a ps n).1 from fun h => by rw [hT]; unfold totR; rw [← her, if_pos h])
  clear hR hS hI hP hN hM hl hb hT her
  go_enter Tryz.func68, Tryz.ntmps68
  go_upto_region 2 with (fail)
  rw [← hw0]
  clear hw0
  go_wp2_with fail
  go_loopw [7] (fun s wr => ∃ t : Nat, s = .int .i64 t ∧ t ≤ n ∧ Hid ((atN y.a ps t).2 = 0) ∧ Hid (TotI w wr y (atN y.a ps t).1)) (fun s _ => n - (intOf s).toNat)
  case atStart => exact ⟨0, rfl, by omega, Lib.hid rfl, I0⟩
  case round =>
    obtain ⟨t, rfl, ht, HZ, HI2⟩ := hrel
    by_cases htn : t < n
    · obtain ⟨p, hp, c0⟩ := RD.out wr HI2.out.be t htn
      have C0 := Lib.hid c0
      obtain ⟨qa, hqa, ca⟩ := (HR.out.on HI2.out.be) t (by have := HM.out; omega)
      obtain ⟨z, hz⟩ : ∃ z, z = gp ps t := ⟨_, rfl⟩
      have Z2 := Lib.hid (show I2 z by rw [hz]; exact IP.out t htn)
      rw [← hz] at C0
      obtain ⟨s, hs⟩ : ∃ s, s = (atN y.a ps t).1 := ⟨_, rfl⟩
      have S2 := Lib.hid (show I2 s by rw [hs]; exact atN_64 _ _ _)
      rw [← hs] at HI2
      obtain ⟨k, hk⟩ : ∃ k, k = gA y.a t := ⟨_, rfl⟩
      have K2 := Lib.hid (show I2 (k, 1) by rw [hk]; exact wh_64 (HI.out _ (gA_mem (by have := HM.out; omega))))
      rw [← hk] at ca
      have CA := Lib.hid ca
      have EM := Lib.hid (show ∀ h : muE (k, 1) z ≠ 0, er = muE (k, 1) z from fun h => by
        rw [HE.out]
        rw [hk, hz] at h ⊢
        have e := atN_mul HZ.out h
        rw [atN_end (t := t + 1) (by omega) (by rw [e]; exact h), e])
      have EA := Lib.hid (show ∀ h : muE (k, 1) z = 0, atN y.a ps (t + 1) = (adR s (muR (k, 1) z), adE s (muR (k, 1) z)) from fun h => by
        rw [hk, hz] at h ⊢
        rw [hs]
        exact atN_add HZ.out h)
      have ES := Lib.hid (show (atN y.a ps (t + 1)).2 ≠ 0 → er = (atN y.a ps (t + 1)).2 from fun h => by rw [HE.out]; exact atN_end (by omega) h)
      obtain ⟨mu, hmu⟩ : ∃ mu, mu = muR (k, 1) z := ⟨_, rfl⟩
      have M2 := Lib.hid (show I2 mu by rw [hmu]; exact muR_64 _ _)
      obtain ⟨me, hme⟩ : ∃ me, me = muE (k, 1) z := ⟨_, rfl⟩
      have MU := Lib.hid (fun W => rmulP_any (k, 1) z W K2.out Z2.out)
      rw [← hmu, ← hme] at MU
      rw [← hme] at EM EA
      rw [← hmu] at EA
      obtain ⟨ad, had⟩ : ∃ ad, ad = adR s mu := ⟨_, rfl⟩
      obtain ⟨ae, hae⟩ : ∃ ae, ae = adE s mu := ⟨_, rfl⟩
      have AD := Lib.hid (fun W => raddP_any s mu W S2.out M2.out)
      rw [← had, ← hae] at AD EA
      obtain ⟨yc, hyc⟩ : ∃ yc, yc = y.c := ⟨_, rfl⟩
      have B0 := Lib.hid (show ∀ W, BkV W w.heap.size y → W.cell? ⟨w.heap.size, 0, none⟩ = some (.slice (some qa) m yc) from fun W h => by rw [h.facts.1, hqa, ← HM.out, hyc])
      have tm : (t : Int) < m := by omega
      have tn2 : (t : Int) < n := by omega
      subst hp
      clear c0 hqa ca hz hs hk hmu hme had hae hyc
      go_upto_region 5 with (fail)
      go_cut [8, 9] (fun s8 s9 wx => ∃ q8 : Nat, s8 = .pointer (some ⟨q8, 0, none⟩) ∧ s9 = .int .i64 me ∧ Hid (Pair wx q8 mu.1 mu.2) ∧ Hid (Below wr.heap.size wr wx) ∧ Hid (wr.heap.size ≤ q8))
      case first =>
        have KS := Lib.hid (show ∀ W, Below wr.heap.size wr W → (W.cell? ⟨w.heap.size, 0, none⟩ = some (.slice (some qa) m yc) ∧ W.cell? (qa.add t) = some (.int .i64 k) ∧ QAt W (p.add (t * 2)) z) from fun W h => ⟨B0.out W (HI2.out.bk.kept h), kept h CA.out, C0.out.on h⟩)
        obtain ⟨wc, hwc⟩ : ∃ wc, wc = wr.drew := ⟨_, rfl⟩
        have Bc := Lib.hid (show Below wr.heap.size wr wc by rw [hwc]; exact (Below.refl _ _).drew)
        refine wp_region_held_drew (S := (fun W => (W.cell? ⟨w.heap.size, 0, none⟩ = some (.slice (some qa) m yc) ∧ W.cell? (qa.add t) = some (.int .i64 k) ∧ QAt W (p.add (t * 2)) z))) (by kernel_rfl) (by rw [← hwc]; exact KS.out _ Bc.out) (fun h0 => ?_)
        rw [← hwc] at h0 ⊢
        clear hwc
        refine tkH (i := 0) (v := ?v1) rfl (Or.inl ⟨by rfl, ?hy1⟩) h0 ?rest1
        case hy1 => (intro w' hS; (try dsimp only at hS); go_simp; try (with_reducible rfl))
        simp only [Act.put, sA, sB, sD, sE, sF]
        refine tkH (i := 1) (v := ?v2) rfl (Or.inl ⟨by rfl, ?hy2⟩) h0 ?rest2
        case hy2 => (intro w' hS; (try dsimp only at hS); go_simp; try (with_reducible rfl))
        simp only [Act.put, sZ]
        refine tkH (i := 2) (v := ?v3) rfl (Or.inl ⟨by rfl, ?hy3⟩) h0 ?rest3
        case hy3 => (intro w' hS; (try dsimp only at hS); go_simp; try (with_reducible rfl))
        simp only [Act.put, sZ]
        refine tkH (i := 3) (v := ?v4) rfl (Or.inl ⟨by rfl, ?hy4⟩) h0 ?rest4
        case hy4 => (intro w' hS; (try dsimp only at hS); go_simp; try (with_reducible rfl))
        simp only [Act.put, sZ]
        refine tkH (i := 4) (v := ?v5) rfl (Or.inl ⟨by rfl, ?hy5⟩) h0 ?rest5
        case hy5 => (intro w' hS; (try dsimp only at hS); go_simp; try (with_reducible rfl))
        simp only [Act.put, sZ]
        refine tkH (i := 5) (v := ?v6) rfl (Or.inl ⟨by rfl, ?hy6⟩) h0 ?rest6
        case hy6 => (intro w' hS; (try dsimp only at hS); go_simp; try (with_reducible rfl))
        simp only [Act.put, sZ]
        refine tkH (i := 6) (v := ?v7) rfl (Or.inl ⟨by rfl, ?hy7⟩) h0 ?rest7
        case hy7 => (intro w' hS; (try dsimp only at hS); go_simp; try (with_reducible rfl))
        simp only [Act.put, sZ]
        refine tkH (i := 7) (v := ?v8) rfl (Or.inl ⟨by rfl, ?hy8⟩) h0 ?rest8
        case hy8 => (intro w' hS; (try dsimp only at hS); go_simp; try (with_reducible rfl))
        simp only [Act.put, sZ]
        refine tkH (i := 8) (v := ?v9) rfl (Or.inl ⟨by rfl, ?hy9⟩) h0 ?rest9
        case hy9 => (intro w' hS; (try dsimp only at hS); go_simp; try (with_reducible rfl))
        simp only [Act.put, sZ]
        refine tkH (i := 9) (v := (.agg #[.int .i64 z.1, .int .i64 z.2])) rfl (Or.inl ⟨by rfl, fun w' hS => yld_loadQ _ rfl _ rfl hS.2.2⟩) h0 ?_
        simp only [Act.put, sZ]
        refine wpAnyH_ready (rs := [10, 14]) (by kernel_rfl) (by simp) (AllReadyH.cons rfl (fun K hK => ?_) (AllReadyH.cons rfl (fun K hK => ?_) AllReadyH.nil))
        · rw [if_pos (by rfl)]
          go_simp
          refine (MU.out wc).mono ?_
          rintro e wc ⟨rfl, hb⟩
          try (have P8 := Lib.hid (P8.out.kept hb))
          have Bc := Lib.hid (below_on Bc.out hb)
          clear hb
          go_simp
          refine hK.out _ _ (KS.out _ Bc.out) (fun h0_1 => ?_)
          clear hK K h0
          refine tkH (i := 11) (v := ?v11) rfl (Or.inl ⟨by rfl, ?hy11⟩) h0_1 ?rest11
          case hy11 => (intro w' hS; (try dsimp only at hS); go_simp; try (with_reducible rfl))
          simp only [Act.put, sZ]
          refine tkH (i := 12) (v := ?v12) rfl (Or.inl ⟨by rfl, ?hy12⟩) h0_1 ?rest12
          case hy12 => (intro w' hS; (try dsimp only at hS); go_simp; try (with_reducible rfl))
          simp only [Act.put, sZ]
          refine tkH (i := 13) (v := ?v13) rfl (Or.inl ⟨by rfl, ?hy13⟩) h0_1 ?rest13
          case hy13 => (intro w' hS; (try dsimp only at hS); go_simp; try (with_reducible rfl))
          simp only [Act.put, sZ]
          refine wpAnyH_ready (rs := [14]) (by kernel_rfl) (by simp) (AllReadyH.cons rfl (fun K hK => ?_) AllReadyH.nil)
          rw [if_pos (by rfl)]
          go_simp
          have hb := one_more (w1 := wc) (.cells #[.int .i64 0, .int .i64 0] 50)
          have hP := Pair.made wc 0 0 50
          have hz := Bc.out.size
          obtain ⟨q8, hbb⟩ : ∃ b, b = wc.heap.size := ⟨_, rfl⟩
          rw [← hbb] at hP hz
          obtain ⟨wn, hwn⟩ : ∃ wn, wn = wc.alloc (.cells #[.int .i64 0, .int .i64 0] 50) := ⟨_, rfl⟩
          rw [← hwn] at hb hP ⊢
          try rw [← hbb]
          have Bc := Lib.hid (below_on Bc.out hb)
          have P8 := Lib.hid hP
          have Zq8 := Lib.hid hz
          clear hb hP hz hbb hwn
          obtain ⟨wc, hwc⟩ : ∃ wc, wc = wn := ⟨_, rfl⟩
          rw [← hwc] at Bc P8 ⊢
          clear hwc
          go_simp
          refine hK.out _ _ (KS.out _ Bc.out) (fun h0_2 => ?_)
          clear hK K h0_1
          refine wpAnyH_ready (rs := [15]) (by kernel_rfl) (by simp) (AllReadyH.cons rfl (fun K hK => ?_) AllReadyH.nil)
          rw [if_pos (by rfl)]
          go_simp
          obtain ⟨f0, f1, f2, f3⟩ := P8.out.facts
          go_simp
          refine hK.out _ _ (KS.out _ (below_put Bc.out Zq8.out _ _)) (fun h0_3 => ?_)
          clear hK K h0_2
          clear f0 f1 f2 f3
          refine tkH (i := 16) (v := ?v14) rfl (Or.inl ⟨by rfl, ?hy14⟩) h0_3 ?rest14
          case hy14 => (intro w' hS; (try dsimp only at hS); go_simp; try (with_reducible rfl))
          simp only [Act.put, sA, sB, sC, sD]
          try simp only [sF]
          try simp only [sE]
          refine wpAnyH_done (by kernel_rfl) ?_ _
          have PE := P8.out.put mu.1 mu.2
          have BE := below_put Bc.out Zq8.out (.int .i64 mu.1) (.int .i64 mu.2)
          obtain ⟨we, hwe⟩ : ∃ we, we = (wc.setCell ⟨q8, 0, none⟩ (.int .i64 mu.1)).setCell ⟨q8, 1, none⟩ (.int .i64 mu.2) := ⟨_, rfl⟩
          rw [← hwe] at PE BE ⊢
          have PX := Lib.hid PE
          have BX := Lib.hid BE
          clear hwe PE BE
          go_wp2_with fail
          go_meet
          case rel => exact ⟨q8, rfl, rfl, PX, BX, Zq8⟩
        · rw [if_pos (by rfl)]
          go_simp
          have hb := one_more (w1 := wc) (.cells #[.int .i64 0, .int .i64 0] 50)
          have hP := Pair.made wc 0 0 50
          have hz := Bc.out.size
          obtain ⟨q8, hbb⟩ : ∃ b, b = wc.heap.size := ⟨_, rfl⟩
          rw [← hbb] at hP hz
          obtain ⟨wn, hwn⟩ : ∃ wn, wn = wc.alloc (.cells #[.int .i64 0, .int .i64 0] 50) := ⟨_, rfl⟩
          rw [← hwn] at hb hP ⊢
          try rw [← hbb]
          have Bc := Lib.hid (below_on Bc.out hb)
          have P8 := Lib.hid hP
          have Zq8 := Lib.hid hz
          clear hb hP hz hbb hwn
          obtain ⟨wc, hwc⟩ : ∃ wc, wc = wn := ⟨_, rfl⟩
          rw [← hwc] at Bc P8 ⊢
          clear hwc
          go_simp
          refine hK.out _ _ (KS.out _ Bc.out) (fun h0_1 => ?_)
          clear hK K h0
          refine wpAnyH_ready (rs := [10]) (by kernel_rfl) (by simp) (AllReadyH.cons rfl (fun K hK => ?_) AllReadyH.nil)
          rw [if_pos (by rfl)]
          go_simp
          refine (MU.out wc).mono ?_
          rintro e wc ⟨rfl, hb⟩
          try (have P8 := Lib.hid (P8.out.kept hb))
          have Bc := Lib.hid (below_on Bc.out hb)
          clear hb
          go_simp
          refine hK.out _ _ (KS.out _ Bc.out) (fun h0_4 => ?_)
          clear hK K h0_1
          refine tkH (i := 11) (v := ?v15) rfl (Or.inl ⟨by rfl, ?hy15⟩) h0_4 ?rest15
          case hy15 => (intro w' hS; (try dsimp only at hS); go_simp; try (with_reducible rfl))
          simp only [Act.put, sZ]
          refine tkH (i := 12) (v := ?v16) rfl (Or.inl ⟨by rfl, ?hy16⟩) h0_4 ?rest16
          case hy16 => (intro w' hS; (try dsimp only at hS); go_simp; try (with_reducible rfl))
          simp only [Act.put, sZ]
          refine tkH (i := 13) (v := ?v17) rfl (Or.inl ⟨by rfl, ?hy17⟩) h0_4 ?rest17
          case hy17 => (intro w' hS; (try dsimp only at hS); go_simp; try (with_reducible rfl))
          simp only [Act.put, sZ]
          refine wpAnyH_ready (rs := [15]) (by kernel_rfl) (by simp) (AllReadyH.cons rfl (fun K hK => ?_) AllReadyH.nil)
          rw [if_pos (by rfl)]
          go_simp
          obtain ⟨f0, f1, f2, f3⟩ := P8.out.facts
          go_simp
          refine hK.out _ _ (KS.out _ (below_put Bc.out Zq8.out _ _)) (fun h0_5 => ?_)
          clear hK K h0_4
          clear f0 f1 f2 f3
          refine tkH (i := 16) (v := ?v18) rfl (Or.inl ⟨by rfl, ?hy18⟩) h0_5 ?rest18
          case hy18 => (intro w' hS; (try dsimp only at hS); go_simp; try (with_reducible rfl))
          simp only [Act.put, sA, sB, sC, sD]
          try simp only [sF]
          try simp only [sE]
          refine wpAnyH_done (by kernel_rfl) ?_ _
          have PE := P8.out.put mu.1 mu.2
          have BE := below_put Bc.out Zq8.out (.int .i64 mu.1) (.int .i64 mu.2)
          obtain ⟨we, hwe⟩ : ∃ we, we = (wc.setCell ⟨q8, 0, none⟩ (.int .i64 mu.1)).setCell ⟨q8, 1, none⟩ (.int .i64 mu.2) := ⟨_, rfl⟩
          rw [← hwe] at PE BE ⊢
          have PX := Lib.hid PE
          have BX := Lib.hid BE
          clear hwe PE BE
          go_wp2_with fail
          go_meet
          case rel => exact ⟨q8, rfl, rfl, PX, BX, Zq8⟩
      case rest =>
      obtain ⟨q8, rfl, rfl, HP, HB, HQ⟩ := hcut
      obtain ⟨w4, hw4⟩ : ∃ w4, w4 = wc := ⟨_, rfl⟩
      rw [← hw4] at HP HB ⊢
      clear hw4 MU
      have I4 := Lib.hid (HI2.out.on HB.out)
      by_cases m0 : me = 0
      case neg =>
        have m0' : (me != 0) = true := by simpa using m0
        have EE := Lib.hid (EM.out m0)
        have TT := Lib.hid (TB.out (by rw [EE.out]; exact m0))
        obtain ⟨f0, f1, f2, f3⟩ := I4.out.p4.facts
        have PE := I4.out.p4.put 0 0
        have BE := Lib.hid (below_put I4.out.be (b := w.heap.size + 1) (by omega) (.int .i64 0) (.int .i64 0))
        obtain ⟨g0, g1, _, _⟩ := PE.facts
        clear m0 PE
        go_wp2_with fail
        refine bodyPost_ret (v := .tuple #[.agg #[.int .i64 T.1, .int .i64 T.2], .int .i64 er]) (by rw [TT.out, EE.out]; simp [results, Tryz.results68, go_sem, g0, g1]) rfl ⟨rfl, BE.out⟩
      have EN := Lib.hid (EA.out m0)
      clear EA EM
      subst m0
      have SE := Lib.hid (show (atN y.a ps (t + 1)).2 = ae from congrArg Prod.snd EN.out)
      obtain ⟨s0, s1, s2, s3⟩ := I4.out.p6.facts
      obtain ⟨p0, p1, p2, p3⟩ := HP.out.facts
      go_upto_region 8 with (fail)
      go_wp2_with fail
      refine (AD.out w4).mono ?_
      rintro e w5 ⟨rfl, hb⟩
      have I5 := Lib.hid (I4.out.on hb)
      have I6 := Lib.hid (I5.out.put ad)
      clear hb AD s0 s1 s2 s3 p0 p1 p2 p3 HP HQ
      obtain ⟨s0, s1, s2, s3⟩ := I5.out.p6.facts
      by_cases a0 : ae = 0
      case neg =>
        have a0' : (ae != 0) = true := by simpa using a0
        have EE := Lib.hid (show er = ae by rw [← SE.out]; exact ES.out (by rw [SE.out]; exact a0))
        have TT := Lib.hid (TB.out (by rw [EE.out]; exact a0))
        obtain ⟨f0, f1, f2, f3⟩ := I6.out.p4.facts
        have PE := I6.out.p4.put 0 0
        have BE := Lib.hid (below_put I6.out.be (b := w.heap.size + 1) (by omega) (.int .i64 0) (.int .i64 0))
        obtain ⟨g0, g1, _, _⟩ := PE.facts
        clear a0 PE
        go_wp2_with fail
        refine bodyPost_ret (v := .tuple #[.agg #[.int .i64 T.1, .int .i64 T.2], .int .i64 er]) (by rw [TT.out, EE.out]; simp [results, Tryz.results68, go_sem, g0, g1]) rfl ⟨rfl, BE.out⟩
      subst a0
      have EA1 := congrArg Prod.fst EN.out
      simp only at EA1
      have I7 := Lib.hid (show TotI w ((w5.setCell ⟨w.heap.size + 2, 0, none⟩ (.int .i64 ad.1)).setCell ⟨w.heap.size + 2, 1, none⟩ (.int .i64 ad.2)) y (atN y.a ps (t + 1)).1 from EA1.symm ▸ I6.out)
      clear EA1
      go_wp2_with fail
      go_roundw
      case rel => exact ⟨t + 1, by go_num, by omega, SE, I7⟩
      case measure => simp [intOf]; omega
    · have e : t = n := by omega
      have EE := Lib.hid (show er = 0 by rw [HE.out, ← e]; exact HZ.out)
      have TT := Lib.hid (show T = (atN y.a ps t).1 by rw [e]; exact TG.out EE.out)
      obtain ⟨s, hs⟩ : ∃ s, s = (atN y.a ps t).1 := ⟨_, rfl⟩
      rw [← hs] at HI2 TT
      obtain ⟨s0, s1, s2, s3⟩ := HI2.out.p6.facts
      obtain ⟨f0, f1, f2, f3⟩ := HI2.out.p4.facts
      have PE := HI2.out.p4.put s.1 s.2
      have BE := Lib.hid (below_put HI2.out.be (b := w.heap.size + 1) (by omega) (.int .i64 s.1) (.int .i64 s.2))
      obtain ⟨g0, g1, _, _⟩ := PE.facts
      clear e hs PE
      go_wp2_with fail
      refine bodyPost_ret (v := .tuple #[.agg #[.int .i64 T.1, .int .i64 T.2], .int .i64 er]) (by rw [TT.out, EE.out]; simp [results, Tryz.results68, go_sem, g0, g1]) rfl ⟨rfl, BE.out⟩
end Go.Proofs.YtbhaoaobhgilkaaGreat
