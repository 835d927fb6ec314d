/- A part. -/
import Derived.Test.YthjapmdfcbngmaaGreatWp11
import Derived.Test.YthjapmdfcbngmaaGreatWp43
import Derived.Test.YthjapmdfcbngmaaGreatWp41
import Derived.Test.YthjapmdfcbngmaaGreatWp48
import Derived.Test.YthjapmdfcbngmaaGreatWp39

namespace Go.Proofs.YthjapmdfcbngmaaGreat
open Go.RowKit

set_option maxRecDepth 100000 in
set_option maxHeartbeats 8000000 in
theorem lapart_any (L : List ZV) (go : Option Addr) (gc : Nat) (w : World) (hL : RdZ 0 w go L) (hl : L.length ≤ 1000000) (hap : ∀ i k, ∀ hi : i < (L.map ZV.p).length, ∀ hk : k < i, (mtP ((L.map ZV.p)[i]) ((L.map ZV.p)[k]'(by omega))).2 = 4) :
    Calls Tryz.prog 32 #[.slice go L.length gc] w (Made (.bool true) w) := by
  have RL := Lib.hid hL
  have AP := Lib.hid (show ∀ i k, ∀ hi : i < L.length, ∀ hk : k < i, (mtP (L[i]).p (L[k]'(by omega)).p).2 = 4 from fun i k hi hk => by
    have := hap i k (by simpa using hi) hk
    simpa using this)
  obtain ⟨n, hn⟩ : ∃ n, n = L.length := ⟨_, rfl⟩
  have HN := Lib.hid hn
  have nle : n ≤ 1000000 := by omega
  rw [← hn]
  clear hL hl hn hap
  go_enter Tryz.func32, Tryz.ntmps32
  go_wp2_with fail
  go_loopw [3] (fun s wr => ∃ i : Nat, s = .int .i64 i ∧ i ≤ n ∧ Hid (Below w.heap.size w wr)) (fun s _ => n - (intOf s).toNat)
  case atStart => exact ⟨0, rfl, by omega, Lib.hid (Below.refl _ _)⟩
  case round =>
    generalize wr = wq at *
    obtain ⟨i, rfl, hi, BQ⟩ := hrel
    by_cases hin : i < n
    · obtain ⟨x, hx⟩ : ∃ x, x = L[i]'(by have := HN.out; omega) := ⟨_, rfl⟩
      have XZ := Lib.hid (show ZAt 0 w x from RL.out.el x (by rw [hx]; exact List.getElem_mem _))
      obtain ⟨b, eb, h0, h1⟩ := RL.out.hd i (by have := HN.out; omega)
      rw [← hx] at h0 h1
      have A4 := Lib.hid (show ∀ k, ∀ hk : k < i, (mtP x.p (L[k]'(by have := HN.out; omega)).p).2 = 4 from fun k hk => by rw [hx]; exact AP.out i k (by have := HN.out; omega) hk)
      obtain ⟨xl, hxl⟩ : ∃ xl, xl = x.l.length := ⟨_, rfl⟩
      rw [← hxl] at h1
      have HXL := Lib.hid hxl
      have G0 := Lib.hid h0
      have G1 := Lib.hid h1
      clear hx h0 h1 hxl
      subst eb
      go_wp2_with fail
      go_loopw [4] (fun s wr => ∃ k : Nat, s = .int .i64 k ∧ k ≤ i ∧ Hid (Below w.heap.size w wr)) (fun s _ => i - (intOf s).toNat)
      case atStart => exact ⟨0, rfl, by omega, BQ⟩
      case round =>
        generalize wr = wo at *
        obtain ⟨k, rfl, hk, BE⟩ := hrel
        by_cases hki : k < i
        · have hkn : k < n := by omega
          obtain ⟨y, hy⟩ : ∃ y, y = L[k]'(by have := HN.out; omega) := ⟨_, rfl⟩
          obtain ⟨b2, eb2, h2, h3⟩ := RL.out.hd k (by have := HN.out; omega)
          have e2 : b2 = b := by injection eb2 with e; exact e.symm
          subst e2
          rw [← hy] at h2 h3
          have YZ := Lib.hid (show ZAt 0 w y from RL.out.el y (by rw [hy]; exact List.getElem_mem _))
          have M4 := Lib.hid (show (mtP x.p y.p).2 = 4 by rw [hy]; exact A4.out k hki)
          have HU := Lib.hid (show ∀ W, Below w.heap.size w W → Calls Tryz.prog 45 #[.agg #[.int .i64 x.N, .slice x.a x.l.length x.c], .agg #[.int .i64 y.N, .slice y.a y.l.length y.c]] W (ZOut W (mtP x.p y.p)) from fun W h => rmt_out x y W (XZ.out.on h) (YZ.out.on h))
          obtain ⟨yl, hyl⟩ : ∃ yl, yl = y.l.length := ⟨_, rfl⟩
          rw [← HXL.out, ← hyl] at HU
          rw [← hyl] at h3
          have G2 := Lib.hid h2
          have G3 := Lib.hid h3
          clear hy eb2 h2 h3 hyl
          go_upto_region 7 with (fail)
          go_cut [5, 6] from 32 (fun s5 s6 wx => ∃ q8 : Nat, s5 = .pointer (some ⟨q8, 0, none⟩) ∧ s6 = .int .i64 (mtP x.p y.p).2 ∧ Hid (Below wo.heap.size wo wx))
          case first =>
            rename_i J0 K0 hJ0 hK0
            have KS := Lib.hid (show ∀ W, Below wo.heap.size wo W → (W.cell? (b2.add (i * 2)) = some (.int .i64 x.N) ∧ W.cell? ⟨(b2.add (i * 2)).block, (b2.add (i * 2)).off + 1, none⟩ = some (.slice x.a xl x.c) ∧ W.cell? (b2.add (k * 2)) = some (.int .i64 y.N) ∧ W.cell? ⟨(b2.add (k * 2)).block, (b2.add (k * 2)).off + 1, none⟩ = some (.slice y.a yl y.c)) from fun W h => ⟨kept (below_on BE.out h) G0.out, kept (below_on BE.out h) G1.out, kept (below_on BE.out h) G2.out, kept (below_on BE.out h) G3.out⟩)
            obtain ⟨wc, hwc⟩ : ∃ wc, wc = wo.drew := ⟨_, rfl⟩
            have Bc := Lib.hid (show Below wo.heap.size wo wc by rw [hwc]; exact (Below.refl _ _).drew)
            refine wp_region_held_drew (S := (fun W => (W.cell? (b2.add (i * 2)) = some (.int .i64 x.N) ∧ W.cell? ⟨(b2.add (i * 2)).block, (b2.add (i * 2)).off + 1, none⟩ = some (.slice x.a xl x.c) ∧ W.cell? (b2.add (k * 2)) = some (.int .i64 y.N) ∧ W.cell? ⟨(b2.add (k * 2)).block, (b2.add (k * 2)).off + 1, none⟩ = some (.slice y.a yl y.c)))) (by kernel_rfl) (by rw [← hwc]; exact KS.out _ Bc.out) (fun h0 => ?_)
            rw [← hwc] at h0 ⊢
            clear hwc
            refine tkH (i := 0) (v := ?v1) rfl (Or.inl ⟨by rfl, ?hy1⟩) h0 ?rest1
            case hy1 => (intro w' hS; (try dsimp only at hS); go_simp; try (with_reducible rfl))
            simp only [Act.put, sA, sB, sD, sE, sF]
            refine tkH (i := 1) (v := ?v2) rfl (Or.inl ⟨by rfl, ?hy2⟩) h0 ?rest2
            case hy2 => (intro w' hS; (try dsimp only at hS); go_simp; try (with_reducible rfl))
            simp only [Act.put, sZ]
            refine tkH (i := 2) (v := ?v3) rfl (Or.inl ⟨by rfl, ?hy3⟩) h0 ?rest3
            case hy3 => (intro w' hS; (try dsimp only at hS); go_simp; try (with_reducible rfl))
            simp only [Act.put, sZ]
            refine tkH (i := 3) (v := ?v4) rfl (Or.inl ⟨by rfl, ?hy4⟩) h0 ?rest4
            case hy4 => (intro w' hS; (try dsimp only at hS); go_simp; try (with_reducible rfl))
            simp only [Act.put, sZ]
            refine tkH (i := 4) (v := ?v5) rfl (Or.inl ⟨by rfl, ?hy5⟩) h0 ?rest5
            case hy5 => (intro w' hS; (try dsimp only at hS); go_simp; try (with_reducible rfl))
            simp only [Act.put, sZ]
            refine tkH (i := 5) (v := ?v6) rfl (Or.inl ⟨by rfl, ?hy6⟩) h0 ?rest6
            case hy6 => (intro w' hS; (try dsimp only at hS); go_simp; try (with_reducible rfl))
            simp only [Act.put, sZ]
            refine tkH (i := 6) (v := ?v7) rfl (Or.inl ⟨by rfl, ?hy7⟩) h0 ?rest7
            case hy7 => (intro w' hS; (try dsimp only at hS); go_simp; try (with_reducible rfl))
            simp only [Act.put, sZ]
            refine tkH (i := 7) (v := ?v8) rfl (Or.inl ⟨by rfl, ?hy8⟩) h0 ?rest8
            case hy8 => (intro w' hS; (try dsimp only at hS); go_simp; try (with_reducible rfl))
            simp only [Act.put, sZ]
            refine wpAnyH_ready (rs := [8, 12]) (by kernel_rfl) (by simp) (AllReadyH.cons rfl (fun K hK => ?_) (AllReadyH.cons rfl (fun K hK => ?_) AllReadyH.nil))
            · rw [if_pos (by rfl)]
              go_simp
              refine (HU.out wc (below_on BE.out Bc.out)).mono ?_
              rintro e wd ⟨hb, z8, rfl, hz8, hp8⟩
              have P8 := Lib.hid hp8
              have A8 := Lib.hid (hz8.low (show 0 ≤ wc.heap.size from Nat.zero_le _))
              try (have NE := Lib.hid (show ∀ p, z8.a = some p → p.block ≠ q8 from fun p e => by have := N8.out.lt; have := (hz8.2 p e).1; omega))
              try (have N8 := Lib.hid (N8.out.kept hb))
              have Bc := Lib.hid (below_on Bc.out hb)
              clear hb hz8 hp8
              unfold ZV.val
              obtain ⟨zl, hzl⟩ : ∃ zl, zl = z8.l.length := ⟨_, rfl⟩
              rw [← hzl]
              have HZL := Lib.hid hzl
              clear hzl
              obtain ⟨wc, hwc⟩ : ∃ wc, wc = wd := ⟨_, rfl⟩
              rw [← hwc] at A8 Bc ⊢
              try rw [← hwc] at N8
              clear hwc
              go_simp
              refine hK.out _ _ (KS.out _ Bc.out) (fun h0_1 => ?_)
              clear hK K h0
              refine tkH (i := 9) (v := ?v9) rfl (Or.inl ⟨by rfl, ?hy9⟩) h0_1 ?rest9
              case hy9 => (intro w' hS; (try dsimp only at hS); go_simp; try (with_reducible rfl))
              simp only [Act.put, sZ]
              refine tkH (i := 10) (v := ?v10) rfl (Or.inl ⟨by rfl, ?hy10⟩) h0_1 ?rest10
              case hy10 => (intro w' hS; (try dsimp only at hS); go_simp; try (with_reducible rfl))
              simp only [Act.put, sZ]
              refine tkH (i := 11) (v := ?v11) rfl (Or.inl ⟨by rfl, ?hy11⟩) h0_1 ?rest11
              case hy11 => (intro w' hS; (try dsimp only at hS); go_simp; try (with_reducible rfl))
              simp only [Act.put, sZ]
              refine wpAnyH_ready (rs := [12]) (by kernel_rfl) (by simp) (AllReadyH.cons rfl (fun K hK => ?_) AllReadyH.nil)
              rw [if_pos (by rfl)]
              go_simp
              have hb := one_more (w1 := wc) (.cells #[.int .i64 0, .slice none 0 0] 36)
              have hP := Bx2.made wc (.int .i64 0) (.slice none 0 0) 36
              have hz := Bc.out.size
              obtain ⟨q8, hbb⟩ : ∃ b, b = wc.heap.size := ⟨_, rfl⟩
              rw [← hbb] at hP hz
              obtain ⟨wn, hwn⟩ : ∃ wn, wn = wc.alloc (.cells #[.int .i64 0, .slice none 0 0] 36) := ⟨_, rfl⟩
              rw [← hwn] at hb hP ⊢
              try rw [← hbb]
              try (have NE := Lib.hid (show ∀ p, z8.a = some p → p.block ≠ q8 from fun p e => by have := (A8.out.2 p e).2; omega))
              try (have A8 := Lib.hid (A8.out.on hb))
              have Bc := Lib.hid (below_on Bc.out hb)
              have N8 := Lib.hid hP
              have Zq8 := Lib.hid hz
              clear hb hP hz hbb hwn
              obtain ⟨wc, hwc⟩ : ∃ wc, wc = wn := ⟨_, rfl⟩
              rw [← hwc] at Bc N8 ⊢
              try rw [← hwc] at NE
              try rw [← hwc] at A8
              clear hwc
              go_simp
              refine hK.out _ _ (KS.out _ Bc.out) (fun h0_2 => ?_)
              clear hK K h0_1
              refine wpAnyH_ready (rs := [13]) (by kernel_rfl) (by simp) (AllReadyH.cons rfl (fun K hK => ?_) AllReadyH.nil)
              rw [if_pos (by rfl)]
              go_simp
              obtain ⟨s0, s1, s2, s3⟩ := N8.out.facts
              go_simp
              refine hK.out _ _ (KS.out _ (below_put2 Bc.out Zq8.out _ _)) (fun h0_3 => ?_)
              clear hK K h0_2
              clear s0 s1 s2 s3
              refine tkH (i := 14) (v := ?v12) rfl (Or.inl ⟨by rfl, ?hy12⟩) h0_3 ?rest12
              case hy12 => (intro w' hS; (try dsimp only at hS); go_simp; try (with_reducible rfl))
              simp only [Act.put, sA, sB, sC, sD]
              try simp only [sF]
              try simp only [sE]
              refine wpAnyH_done (by kernel_rfl) ?_ _
              have N9 := N8.out.put (.int .i64 z8.N) (.slice z8.a zl z8.c)
              have A9 := A8.out.grown (r := some q8) (grown_put2 wc q8 (.int .i64 z8.N) (.slice z8.a zl z8.c)) (fun p e q => by injection q with q; exact NE.out p e q.symm)
              have D9 := below_put2 Bc.out Zq8.out (.int .i64 z8.N) (.slice z8.a zl z8.c)
              simp only [Exit.then]
              refine hK0 _ _ (Met.intro (hJ0 _ _ ?_))
              (repeat apply Exists.intro)
              refine ⟨?rel, rfl⟩
              case rel => exact ⟨q8, rfl, rfl, Lib.hid D9⟩
            · rw [if_pos (by rfl)]
              go_simp
              have hb := one_more (w1 := wc) (.cells #[.int .i64 0, .slice none 0 0] 36)
              have hP := Bx2.made wc (.int .i64 0) (.slice none 0 0) 36
              have hz := Bc.out.size
              obtain ⟨q8, hbb⟩ : ∃ b, b = wc.heap.size := ⟨_, rfl⟩
              rw [← hbb] at hP hz
              obtain ⟨wn, hwn⟩ : ∃ wn, wn = wc.alloc (.cells #[.int .i64 0, .slice none 0 0] 36) := ⟨_, rfl⟩
              rw [← hwn] at hb hP ⊢
              try rw [← hbb]
              try (have NE := Lib.hid (show ∀ p, z8.a = some p → p.block ≠ q8 from fun p e => by have := (A8.out.2 p e).2; omega))
              try (have A8 := Lib.hid (A8.out.on hb))
              have Bc := Lib.hid (below_on Bc.out hb)
              have N8 := Lib.hid hP
              have Zq8 := Lib.hid hz
              clear hb hP hz hbb hwn
              obtain ⟨wc, hwc⟩ : ∃ wc, wc = wn := ⟨_, rfl⟩
              rw [← hwc] at Bc N8 ⊢
              try rw [← hwc] at NE
              try rw [← hwc] at A8
              clear hwc
              go_simp
              refine hK.out _ _ (KS.out _ Bc.out) (fun h0_1 => ?_)
              clear hK K h0
              refine wpAnyH_ready (rs := [8]) (by kernel_rfl) (by simp) (AllReadyH.cons rfl (fun K hK => ?_) AllReadyH.nil)
              rw [if_pos (by rfl)]
              go_simp
              refine (HU.out wc (below_on BE.out Bc.out)).mono ?_
              rintro e wd ⟨hb, z8, rfl, hz8, hp8⟩
              have P8 := Lib.hid hp8
              have A8 := Lib.hid (hz8.low (show 0 ≤ wc.heap.size from Nat.zero_le _))
              try (have NE := Lib.hid (show ∀ p, z8.a = some p → p.block ≠ q8 from fun p e => by have := N8.out.lt; have := (hz8.2 p e).1; omega))
              try (have N8 := Lib.hid (N8.out.kept hb))
              have Bc := Lib.hid (below_on Bc.out hb)
              clear hb hz8 hp8
              unfold ZV.val
              obtain ⟨zl, hzl⟩ : ∃ zl, zl = z8.l.length := ⟨_, rfl⟩
              rw [← hzl]
              have HZL := Lib.hid hzl
              clear hzl
              obtain ⟨wc, hwc⟩ : ∃ wc, wc = wd := ⟨_, rfl⟩
              rw [← hwc] at A8 Bc ⊢
              try rw [← hwc] at N8
              clear hwc
              go_simp
              refine hK.out _ _ (KS.out _ Bc.out) (fun h0_4 => ?_)
              clear hK K h0_1
              refine tkH (i := 9) (v := ?v13) rfl (Or.inl ⟨by rfl, ?hy13⟩) h0_4 ?rest13
              case hy13 => (intro w' hS; (try dsimp only at hS); go_simp; try (with_reducible rfl))
              simp only [Act.put, sZ]
              refine tkH (i := 10) (v := ?v14) rfl (Or.inl ⟨by rfl, ?hy14⟩) h0_4 ?rest14
              case hy14 => (intro w' hS; (try dsimp only at hS); go_simp; try (with_reducible rfl))
              simp only [Act.put, sZ]
              refine tkH (i := 11) (v := ?v15) rfl (Or.inl ⟨by rfl, ?hy15⟩) h0_4 ?rest15
              case hy15 => (intro w' hS; (try dsimp only at hS); go_simp; try (with_reducible rfl))
              simp only [Act.put, sZ]
              refine wpAnyH_ready (rs := [13]) (by kernel_rfl) (by simp) (AllReadyH.cons rfl (fun K hK => ?_) AllReadyH.nil)
              rw [if_pos (by rfl)]
              go_simp
              obtain ⟨s0, s1, s2, s3⟩ := N8.out.facts
              go_simp
              refine hK.out _ _ (KS.out _ (below_put2 Bc.out Zq8.out _ _)) (fun h0_5 => ?_)
              clear hK K h0_4
              clear s0 s1 s2 s3
              refine tkH (i := 14) (v := ?v16) rfl (Or.inl ⟨by rfl, ?hy16⟩) h0_5 ?rest16
              case hy16 => (intro w' hS; (try dsimp only at hS); go_simp; try (with_reducible rfl))
              simp only [Act.put, sA, sB, sC, sD]
              try simp only [sF]
              try simp only [sE]
              refine wpAnyH_done (by kernel_rfl) ?_ _
              have N9 := N8.out.put (.int .i64 z8.N) (.slice z8.a zl z8.c)
              have A9 := A8.out.grown (r := some q8) (grown_put2 wc q8 (.int .i64 z8.N) (.slice z8.a zl z8.c)) (fun p e q => by injection q with q; exact NE.out p e q.symm)
              have D9 := below_put2 Bc.out Zq8.out (.int .i64 z8.N) (.slice z8.a zl z8.c)
              simp only [Exit.then]
              refine hK0 _ _ (Met.intro (hJ0 _ _ ?_))
              (repeat apply Exists.intro)
              refine ⟨?rel, rfl⟩
              case rel => exact ⟨q8, rfl, rfl, Lib.hid D9⟩
          generalize wc = wd at *
          obtain ⟨q8, rfl, rfl, D5⟩ := hcut
          have B5 := Lib.hid (below_on BE.out D5.out)
          rw [M4.out]
          clear HU M4 D5
          go_wp2_with fail
          go_roundw
          case rel => exact ⟨k + 1, by go_num, by omega, B5⟩
          case measure => simp [intOf]; omega
        · go_wp2_with fail
          go_roundw
          case rel => exact ⟨i + 1, by go_num, by omega, BE⟩
          case measure => simp [intOf]; omega
    · go_wp2_with fail
      go_ret
      exact ⟨rfl, BQ.out⟩
end Go.Proofs.YthjapmdfcbngmaaGreat

namespace Go.Proofs.YthjapmdfcbngmaaGreat
open Go.RowKit

set_option maxRecDepth 100000 in
set_option maxHeartbeats 64000000 in
theorem points_any (L M : List ZV) (go ho : Option Addr) (gc hc : Nat) (ps : List Pq) (po : Option Addr) (pc : Nat) (w : World) (hL : RdW w go L) (hM : RdW w ho M) (hgo : go = none → gc = 0) (hho : ho = none → hc = 0)
    (hbl : L.length ≤ 9223372036854775807 ∧ ∀ z ∈ L, z.l.length ≤ 9223372036854775807) (hbm : M.length ≤ 9223372036854775807 ∧ ∀ z ∈ M, z.l.length ≤ 9223372036854775807) (hP : Arg2 w po ps) (hI : Fits ps) (hN : po = none → pc = 0) (hpl : ps.length ≤ 9223372036854775807) :
    Calls Tryz.prog 6 #[.slice go L.length gc, .slice ho M.length hc, .slice po ps.length pc] w (Made (.bool true) w) := by
  obtain ⟨n, hn⟩ : ∃ n, n = L.length := ⟨_, rfl⟩
  obtain ⟨m, hm⟩ : ∃ m, m = M.length := ⟨_, rfl⟩
  obtain ⟨pn, hpn⟩ : ∃ pn, pn = ps.length := ⟨_, rfl⟩
  have HN := Lib.hid hn
  have HMM := Lib.hid hm
  have HPN := Lib.hid hpn
  have RL := Lib.hid hL
  have RM := Lib.hid hM
  have GO := Lib.hid hgo
  have HO := Lib.hid hho
  have PP := Lib.hid hP
  have PI := Lib.hid hI
  have PN := Lib.hid hN
  have SH := Lib.hid (fun W => shown_any W)
  obtain ⟨w1, hw1⟩ : ∃ w1, w1 = w.alloc (.cells #[.slice go n gc, .slice ho m hc] 22) := ⟨_, rfl⟩
  have BE := Lib.hid (show Calls Tryz.prog 8 #[.int .i64 4, .slice (some ⟨w.heap.size, 0, none⟩) 2 2] w1 (BeRes [L, M] w1) from by
    rw [hw1, hn, hm]
    exact beyondW_any 4 [L, M] (some ⟨w.heap.size, 0, none⟩) 2 _ (two_w hL hM hgo hho) (by simp) (fun X hX => by
      simp at hX
      rcases hX with rfl | rfl
      · exact ⟨hbl.1, hbl.2⟩
      · exact ⟨hbm.1, hbm.2⟩))
  have B1 := Lib.hid (show Below w.heap.size w w1 by rw [hw1]; exact one_more _)
  have pnl : pn ≤ 9223372036854775807 := by omega
  rw [← hn, ← hm, ← hpn]
  clear hL hM hgo hho hbl hbm hn hm hP hI hN hpl hpn
  go_enter Tryz.func6, Tryz.ntmps6
  go_wp2_with fail
  rw [← hw1]
  clear hw1
  refine BE.out.mono ?_
  rintro e w2 ⟨hb, bb, rfl, hfine⟩
  have BW := Lib.hid (below_on B1.out hb)
  have FI := Lib.hid hfine
  clear hb hfine BE B1
  cases bb with
  | true =>
    go_wp2_with fail
    refine (SH.out _).mono ?_
    rintro e9 w9 ⟨rfl, hb⟩
    have B9 := Lib.hid (below_on BW.out hb)
    clear hb
    go_wp2_with fail
    go_ret
    exact ⟨rfl, B9.out⟩
  | false =>
    have FL := Lib.hid (FI.out rfl L (by simp))
    have FM := Lib.hid (FI.out rfl M (by simp))
    have nle : n ≤ 3000 := by have := FL.out.1; have := HN.out; omega
    have mle : m ≤ 3000 := by have := FM.out.1; have := HMM.out; omega
    clear FI
    by_cases h50 : 50 < pn
    · have q50 : (50 : Int) < pn := by omega
      clear h50
      go_wp2_with fail
      refine (SH.out _).mono ?_
      rintro e9 w9 ⟨rfl, hb⟩
      have B9 := Lib.hid (below_on BW.out hb)
      clear hb
      go_wp2_with fail
      go_ret
      exact ⟨rfl, B9.out⟩
    have q50 : ¬ (50 : Int) < pn := by omega
    clear h50
    obtain ⟨rx, hrx⟩ : ∃ rx, rx = hsF ps (L.map ZV.p) := ⟨_, rfl⟩
    obtain ⟨rz, hrz⟩ : ∃ rz, rz = hsF ps (M.map ZV.p) := ⟨_, rfl⟩
    obtain ⟨x, e⟩ := rx
    obtain ⟨z, g⟩ := rz
    have XE := Lib.hid hrx
    have ZG := Lib.hid hrz
    have FH := Lib.hid (show ∀ W, Below w.heap.size w W → Calls Tryz.prog 29 #[.slice go n gc, .slice po pn pc] W (Made (.tuple #[.bool x, .int .i64 e]) W) from fun W h => by
      have := fhasW_out L go gc ps po pc W (RL.out.on h) GO.out (by have := HN.out; omega) (PP.out.on h) PI.out PN.out
      rw [haR_eq, ← XE.out, ← HN.out, ← HPN.out] at this; exact this)
    have RH := Lib.hid (show ∀ W, Below w.heap.size w W → Calls Tryz.prog 30 #[.slice go n gc, .slice po pn pc] W (Made (.tuple #[.bool x, .int .i64 e]) W) from fun W h => by
      have := rhasW_any L go gc ps po pc W (RL.out.on h) (by have := HN.out; omega) (PP.out.on h) PI.out
      rw [← XE.out, ← HN.out, ← HPN.out] at this; exact this)
    have GH := Lib.hid (show ∀ W, Below w.heap.size w W → Calls Tryz.prog 29 #[.slice ho m hc, .slice po pn pc] W (Made (.tuple #[.bool z, .int .i64 g]) W) from fun W h => by
      have := fhasW_out M ho hc ps po pc W (RM.out.on h) HO.out (by have := HMM.out; omega) (PP.out.on h) PI.out PN.out
      rw [haR_eq, ← ZG.out, ← HMM.out, ← HPN.out] at this; exact this)
    clear hrx hrz
    have qx := bne_reflB x
    have qe := bne_refl e
    go_wp2_with fail
    refine (FH.out _ BW.out).mono ?_
    rintro e3 w3 ⟨rfl, hb⟩
    have BW := Lib.hid (below_on BW.out hb)
    clear hb FH
    go_wp2_with fail
    refine (RH.out _ BW.out).mono ?_
    rintro e3 w4 ⟨rfl, hb⟩
    have BW := Lib.hid (below_on BW.out hb)
    clear hb RH
    go_wp2_with fail
    refine (GH.out _ BW.out).mono ?_
    rintro e3 w5 ⟨rfl, hb⟩
    have BW := Lib.hid (below_on BW.out hb)
    clear hb GH qx qe
    by_cases he : e = 0
    rotate_left
    · have q1 : (e != 0) = true := by simpa using he
      clear he
      go_wp2_with fail
      refine (SH.out _).mono ?_
      rintro e9 w9 ⟨rfl, hb⟩
      have B9 := Lib.hid (below_on BW.out hb)
      clear hb
      go_wp2_with fail
      go_ret
      exact ⟨rfl, B9.out⟩
    subst he
    by_cases hg : g = 0
    rotate_left
    · have q1 : (g != 0) = true := by simpa using hg
      clear hg
      go_wp2_with fail
      refine (SH.out _).mono ?_
      rintro e9 w9 ⟨rfl, hb⟩
      have B9 := Lib.hid (below_on BW.out hb)
      clear hb
      go_wp2_with fail
      go_ret
      exact ⟨rfl, B9.out⟩
    subst hg
    by_cases h0 : n = 0
    · subst h0
      go_wp2_with fail
      refine (SH.out _).mono ?_
      rintro e9 w9 ⟨rfl, hb⟩
      have B9 := Lib.hid (below_on BW.out hb)
      clear hb
      go_wp2_with fail
      go_ret
      exact ⟨rfl, B9.out⟩
    have q0 : ((n : Int) == 0) = false := by simp; omega
    have n0 : 0 < n := by omega
    obtain ⟨a, ea, hd0, _⟩ := (RL.out.on BW.out).hd 0 (by have := HN.out; omega)
    rw [add_nil2] at hd0
    obtain ⟨N0, hN0⟩ : ∃ N0, N0 = (L[0]'(by have := HN.out; omega)).N := ⟨_, rfl⟩
    rw [← hN0] at hd0
    clear hN0 h0
    subst ea
    by_cases hl : (pn : Int) = N0
    rotate_left
    · have q1 : ((pn : Int) != N0) = true := by simpa using hl
      clear hl
      go_wp2_with fail
      refine (SH.out _).mono ?_
      rintro e9 w9 ⟨rfl, hb⟩
      have B9 := Lib.hid (below_on BW.out hb)
      clear hb
      go_wp2_with fail
      go_ret
      exact ⟨rfl, B9.out⟩
    have q1 : ((pn : Int) != N0) = false := by simpa using hl
    clear hl
    have PF := Lib.hid (pts_of (ps := ps) (L := L.map ZV.p) (M := M.map ZV.p) (by rw [← XE.out]) (by rw [← ZG.out]) (fun e => by
      have h : (L.map ZV.p).length = 0 := by rw [e]; rfl
      rw [List.length_map] at h
      have := HN.out
      omega))
    have SL := Lib.hid (show RdZ 0 w (some a) L from by
      obtain ⟨k, D, X, f⟩ := PF.out
      exact RL.out.strong (chk_ne fun z hz => (f.kl z.p (List.mem_map.2 ⟨z, hz, rfl⟩)).1))
    have SM := Lib.hid (show RdZ 0 w ho M from by
      obtain ⟨k, D, X, f⟩ := PF.out
      exact RM.out.strong (chk_ne fun z hz => (f.km z.p (List.mem_map.2 ⟨z, hz, rfl⟩)).1))
    have XE1 := Lib.hid (show (hsF ps (L.map ZV.p)).1 = x by rw [← XE.out])
    have ZG1 := Lib.hid (show (hsF ps (M.map ZV.p)).1 = z by rw [← ZG.out])
    have C1 := Lib.hid (show ∀ W, Below w.heap.size w W → Calls Tryz.prog 18 #[.slice (some a) n gc, .slice ho m hc] W (FLRes (minR (L.map ZV.p) (M.map ZV.p)) W) from fun W h => by rw [HN.out, HMM.out]; exact fminus_out L M (some a) ho gc hc W (SL.out.on h) (SM.out.on h) (fun e => by cases e) HO.out (by have := HN.out; omega) (by have := HMM.out; omega))
    have C2 := Lib.hid (show ∀ W, Below w.heap.size w W → Calls Tryz.prog 13 #[.slice (some a) n gc, .slice ho m hc] W (FLRes (meeR (L.map ZV.p) (M.map ZV.p)) W) from fun W h => by rw [HN.out, HMM.out]; exact fmeet_out L M (some a) ho gc hc W (SL.out.on h) (SM.out.on h) (fun e => by cases e) HO.out (by have := HN.out; omega) (by have := HMM.out; omega))
    have C3 := Lib.hid (show ∀ W, Below w.heap.size w W → Calls Tryz.prog 21 #[.slice (some a) n gc] W (FLRes (siR (L.map ZV.p)) W) from fun W h => by rw [HN.out]; exact fsimp_out L (some a) gc W (SL.out.on h) (fun e => by cases e) (by have := HN.out; omega))
    go_wp2_with fail
    refine (C1.out _ BW.out).mono ?_
    rintro e3 w6 ⟨hb, ao, cap, Z, rfl, hR, hp, hZl, -, hN⟩
    have B0 := Lib.hid (Below.refl w6.heap.size w6)
    have BW := Lib.hid (below_on BW.out hb)
    obtain ⟨zn, hzn⟩ : ∃ zn, zn = Z.length := ⟨_, rfl⟩
    obtain ⟨er, her⟩ : ∃ er, er = (minR (L.map ZV.p) (M.map ZV.p)).2 := ⟨_, rfl⟩
    have PR := Lib.hid (PF.out)
    have HR := Lib.hid hR
    have HZ := Lib.hid (show er = 0 → Z.map ZV.p = (minR (L.map ZV.p) (M.map ZV.p)).1 from fun h => by rw [hp, if_pos (by rw [← her]; exact h)])
    have HB3 := Lib.hid (show er = 0 → Z.length ≤ 3000 from fun h => by
      have q : Z.length = (Z.map ZV.p).length := by simp
      rw [q, HZ.out h]
      obtain ⟨k, D, X, f⟩ := PF.out
      exact Nat.le_trans (mnP_len2 (ansE_zero (her ▸ h)).2 f.nl) (by omega))
    have LH := Lib.hid (show er = 0 → ∀ W, Below w6.heap.size w6 W → Below w.heap.size w W → Calls Tryz.prog 31 #[.slice ao zn cap, .slice po pn pc, .bool (x && !z)] W (Made (.bool true) W) from fun h W hW hw => by
      have q := lhas_any Z ao cap ps po pc (x && !z) W (hR.weak.on hW) hN (by have := HB3.out h; omega) (PP.out.on hw) PI.out PN.out
      rw [HZ.out h, ← hzn, ← HPN.out] at q
      obtain ⟨k, D, X, f⟩ := PF.out
      have y := pts_minus f (her ▸ h)
      rw [XE1.out, ZG1.out] at y
      rw [y] at q
      exact q)
    have AP := Lib.hid (show er = 0 → n = 1 → ∀ W, Below w6.heap.size w6 W → Calls Tryz.prog 32 #[.slice ao zn cap] W (Made (.bool true) W) from fun h h1 W hW => by
      rw [hzn]
      refine lapart_any Z ao cap W ((hR.low (Nat.zero_le _)).on hW) (by have := HB3.out h; omega) ?_
      obtain ⟨k, D, X, f⟩ := PF.out
      have key : ∀ A : List Zp, A = (minR (L.map ZV.p) (M.map ZV.p)).1 → ∀ i k, ∀ hi : i < A.length, ∀ hk : k < i, (mtP (A[i]) (A[k]'(by omega))).2 = 4 := by
        rintro A rfl
        exact pts_apart f (by have := HN.out; simp; omega)
      exact key _ (HZ.out h))
    rw [← her, ← hzn]
    clear hb hR hp hZl hN hzn her C1 PR HR HZ HB3
    go_upto_region 11 with (fail)
    go_cut [102] (fun s wx => s = .bool false ∧ Hid (Below w.heap.size w wx))
    case first =>
      by_cases h0 : er = 0
      rotate_left
      · have f0 : (er == 0) = false := by simpa using h0
        clear h0
        go_wp2_with fail
        go_meet
        case rel => exact ⟨rfl, BW⟩
      have f0 : (er == 0) = true := by simpa using h0
      have LH := Lib.hid (LH.out h0)
      have AP := Lib.hid (AP.out h0)
      clear h0
      cases x with
      | false =>
        go_wp2_with fail
        refine (LH.out _ B0.out BW.out).mono ?_
        rintro e3 w7 ⟨rfl, hb⟩
        have B7 := Lib.hid (below_on B0.out hb)
        have BW := Lib.hid (below_on BW.out hb)
        clear hb LH
        by_cases h1 : n = 1
        · have f1 : ((n : Int) == 1) = true := by simp [h1]
          have AP := Lib.hid (AP.out h1)
          clear h1
          go_wp2_with fail
          refine (AP.out _ B7.out).mono ?_
          rintro e3 w8 ⟨rfl, hb⟩
          have BW := Lib.hid (below_on BW.out hb)
          clear hb AP
          go_wp2_with fail
          go_meet
          case rel => exact ⟨rfl, BW⟩
        · have f1 : ((n : Int) == 1) = false := by simp; omega
          clear h1
          go_wp2_with fail
          go_meet
          case rel => exact ⟨rfl, BW⟩
      | true =>
        cases z with
        | false =>
          go_wp2_with fail
          refine (LH.out _ B0.out BW.out).mono ?_
          rintro e3 w7 ⟨rfl, hb⟩
          have B7 := Lib.hid (below_on B0.out hb)
          have BW := Lib.hid (below_on BW.out hb)
          clear hb LH
          by_cases h1 : n = 1
          · have f1 : ((n : Int) == 1) = true := by simp [h1]
            have AP := Lib.hid (AP.out h1)
            clear h1
            go_wp2_with fail
            refine (AP.out _ B7.out).mono ?_
            rintro e3 w8 ⟨rfl, hb⟩
            have BW := Lib.hid (below_on BW.out hb)
            clear hb AP
            go_wp2_with fail
            go_meet
            case rel => exact ⟨rfl, BW⟩
          · have f1 : ((n : Int) == 1) = false := by simp; omega
            clear h1
            go_wp2_with fail
            go_meet
            case rel => exact ⟨rfl, BW⟩
        | true =>
          go_wp2_with fail
          refine (LH.out _ B0.out BW.out).mono ?_
          rintro e3 w7 ⟨rfl, hb⟩
          have B7 := Lib.hid (below_on B0.out hb)
          have BW := Lib.hid (below_on BW.out hb)
          clear hb LH
          by_cases h1 : n = 1
          · have f1 : ((n : Int) == 1) = true := by simp [h1]
            have AP := Lib.hid (AP.out h1)
            clear h1
            go_wp2_with fail
            refine (AP.out _ B7.out).mono ?_
            rintro e3 w8 ⟨rfl, hb⟩
            have BW := Lib.hid (below_on BW.out hb)
            clear hb AP
            go_wp2_with fail
            go_meet
            case rel => exact ⟨rfl, BW⟩
          · have f1 : ((n : Int) == 1) = false := by simp; omega
            clear h1
            go_wp2_with fail
            go_meet
            case rel => exact ⟨rfl, BW⟩
    case rest =>
    obtain ⟨rfl, BN⟩ := hcut
    clear LH AP BW B0
    have BW := BN
    clear BN
    generalize wc = w6 at *
    go_wp2_with fail
    refine (C2.out _ BW.out).mono ?_
    rintro e3 w9 ⟨hb, ao, cap, Z, rfl, hR, hp, hZl, -, hN⟩
    have B0 := Lib.hid (Below.refl w9.heap.size w9)
    have BW := Lib.hid (below_on BW.out hb)
    obtain ⟨zn, hzn⟩ : ∃ zn, zn = Z.length := ⟨_, rfl⟩
    obtain ⟨er, her⟩ : ∃ er, er = (meeR (L.map ZV.p) (M.map ZV.p)).2 := ⟨_, rfl⟩
    have PR := Lib.hid (PF.out)
    have HR := Lib.hid hR
    have HZ := Lib.hid (show er = 0 → Z.map ZV.p = (meeR (L.map ZV.p) (M.map ZV.p)).1 from fun h => by rw [hp, if_pos (by rw [← her]; exact h)])
    have HB3 := Lib.hid (show er = 0 → Z.length ≤ 3000 from fun h => by
      have q : Z.length = (Z.map ZV.p).length := by simp
      rw [q, HZ.out h]
      obtain ⟨k, D, X, f⟩ := PF.out
      exact Nat.le_trans (colE_zero (ansE_zero (her ▸ h)).2).1 (by omega))
    have LH := Lib.hid (show er = 0 → ∀ W, Below w9.heap.size w9 W → Below w.heap.size w W → Calls Tryz.prog 31 #[.slice ao zn cap, .slice po pn pc, .bool (x && z)] W (Made (.bool true) W) from fun h W hW hw => by
      have q := lhas_any Z ao cap ps po pc (x && z) W (hR.weak.on hW) hN (by have := HB3.out h; omega) (PP.out.on hw) PI.out PN.out
      rw [HZ.out h, ← hzn, ← HPN.out] at q
      obtain ⟨k, D, X, f⟩ := PF.out
      have y := pts_meet f (her ▸ h)
      rw [XE1.out, ZG1.out] at y
      rw [y] at q
      exact q)
    rw [← her, ← hzn]
    clear hb hR hp hZl hN hzn her C2 PR HR HZ HB3
    go_upto_region 14 with (fail)
    go_cut [120] (fun s wx => s = .bool false ∧ Hid (Below w.heap.size w wx))
    case first =>
      by_cases h0 : er = 0
      rotate_left
      · have f0 : (er == 0) = false := by simpa using h0
        clear h0
        go_wp2_with fail
        go_meet
        case rel => exact ⟨rfl, BW⟩
      have f0 : (er == 0) = true := by simpa using h0
      have LH := Lib.hid (LH.out h0)
      clear h0
      cases x with
      | false =>
        go_wp2_with fail
        refine (LH.out _ B0.out BW.out).mono ?_
        rintro e3 w7 ⟨rfl, hb⟩
        have BW := Lib.hid (below_on BW.out hb)
        clear hb LH
        go_wp2_with fail
        go_meet
        case rel => exact ⟨rfl, BW⟩
      | true =>
        go_wp2_with fail
        refine (LH.out _ B0.out BW.out).mono ?_
        rintro e3 w7 ⟨rfl, hb⟩
        have BW := Lib.hid (below_on BW.out hb)
        clear hb LH
        go_wp2_with fail
        go_meet
        case rel => exact ⟨rfl, BW⟩
    case rest =>
    obtain ⟨rfl, BN⟩ := hcut
    clear LH BW B0
    have BW := BN
    clear BN
    generalize wc = w9 at *
    go_wp2_with fail
    refine (C3.out _ BW.out).mono ?_
    rintro e3 w10 ⟨hb, ao, cap, Z, rfl, hR, hp, hZl, -, hN⟩
    have B0 := Lib.hid (Below.refl w10.heap.size w10)
    have BW := Lib.hid (below_on BW.out hb)
    obtain ⟨zn, hzn⟩ : ∃ zn, zn = Z.length := ⟨_, rfl⟩
    obtain ⟨er, her⟩ : ∃ er, er = (siR (L.map ZV.p)).2 := ⟨_, rfl⟩
    have PR := Lib.hid (PF.out)
    have HR := Lib.hid hR
    have HZ := Lib.hid (show er = 0 → Z.map ZV.p = (siR (L.map ZV.p)).1 from fun h => by rw [hp, if_pos (by rw [← her]; exact h)])
    have HB3 := Lib.hid (show er = 0 → Z.length ≤ 3000 from fun h => by
      have q : Z.length = (Z.map ZV.p).length := by simp
      rw [q, HZ.out h]
      obtain ⟨k, D, X, f⟩ := PF.out
      exact Nat.le_trans (Nat.le_trans (joP_len _ _ _ _) (Nat.le_trans (wpP_len _ _ _) f.nl)) (by omega))
    have LH := Lib.hid (show er = 0 → ∀ W, Below w10.heap.size w10 W → Below w.heap.size w W → Calls Tryz.prog 31 #[.slice ao zn cap, .slice po pn pc, .bool (x)] W (Made (.bool true) W) from fun h W hW hw => by
      have q := lhas_any Z ao cap ps po pc (x) W (hR.weak.on hW) hN (by have := HB3.out h; omega) (PP.out.on hw) PI.out PN.out
      rw [HZ.out h, ← hzn, ← HPN.out] at q
      obtain ⟨k, D, X, f⟩ := PF.out
      have y := (pts_simp f (her ▸ h)).1
      rw [XE1.out] at y
      rw [y] at q
      exact q)
    have AP := Lib.hid (show er = 0 → ∀ W, Below w10.heap.size w10 W → Calls Tryz.prog 33 #[.slice ao zn cap] W (Made (.bool true) W) from fun h W hW => by
      rw [hzn]
      refine lnone_any Z ao cap W ((hR.low (Nat.zero_le _)).on hW) (by have := HB3.out h; omega) ?_
      rw [HZ.out h]
      obtain ⟨k, D, X, f⟩ := PF.out
      exact (pts_simp f (her ▸ h)).2)
    rw [← her, ← hzn]
    clear hb hR hp hZl hN hzn her C3 PR HR HZ HB3
    by_cases h0 : er = 0
    rotate_left
    · have f0 : (er == 0) = false := by simpa using h0
      clear h0
      go_wp2_with fail
      refine (SH.out _).mono ?_
      rintro e9 w9 ⟨rfl, hb⟩
      have B9 := Lib.hid (below_on BW.out hb)
      clear hb
      go_wp2_with fail
      go_ret
      exact ⟨rfl, B9.out⟩
    have f0 : (er == 0) = true := by simpa using h0
    have LH := Lib.hid (LH.out h0)
    have AP := Lib.hid (AP.out h0)
    clear h0
    go_wp2_with fail
    refine (LH.out _ B0.out BW.out).mono ?_
    rintro e3 w11 ⟨rfl, hb⟩
    have B1 := Lib.hid (below_on B0.out hb)
    have BW := Lib.hid (below_on BW.out hb)
    clear hb LH
    go_wp2_with fail
    refine (AP.out _ B1.out).mono ?_
    rintro e3 w12 ⟨rfl, hb⟩
    have BW := Lib.hid (below_on BW.out hb)
    clear hb AP
    go_wp2_with fail
    refine (SH.out _).mono ?_
    rintro e9 w9 ⟨rfl, hb⟩
    have B9 := Lib.hid (below_on BW.out hb)
    clear hb
    go_wp2_with fail
    go_ret
    exact ⟨rfl, B9.out⟩
end Go.Proofs.YthjapmdfcbngmaaGreat
