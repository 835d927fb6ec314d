/- A part. -/
import Derived.Test.YtaegiihkgicdnaaGreatWl10
import Derived.Test.YtaegiihkgicdnaaGreatWl41

namespace Go.Proofs.YtaegiihkgicdnaaGreat
open Go.RowKit

def tryR (x y : Zp) : (Zp × Bool) × Int :=
  if (hlP x y).2 ≠ 0 then (((0, []), false), (hlP x y).2)
  else if (minR [(hlP x y).1] [x, y]).2 ≠ 0 then (((0, []), false), (minR [(hlP x y).1] [x, y]).2)
  else (((hlP x y).1, decide ((minR [(hlP x y).1] [x, y]).1.length = 0)), 0)

abbrev Pr := (Nat × Nat × Zp) × Int

def pr0 (e : Int) : Pr := ((0, 0, (0, [])), e)

def rpK (l : List Zp) (i : Nat) : Nat → Nat → Option Pr
  | 0, _ => none
  | n + 1, k => if k < l.length then
      (if (tryR (gz l i) (gz l k)).2 ≠ 0 then some (pr0 (tryR (gz l i) (gz l k)).2)
       else if (tryR (gz l i) (gz l k)).1.2 = true then some ((i, k, (tryR (gz l i) (gz l k)).1.1), 0) else rpK l i n (k + 1)) else none

def rpI (l : List Zp) : Nat → Nat → Pr
  | 0, _ => pr0 0
  | n + 1, i => if i < l.length then (rpK l i (l.length - (i + 1)) (i + 1)).getD (rpI l n (i + 1)) else pr0 0

theorem rpK_end {l : List Zp} {i n k : Nat} (h : ¬ k < l.length) : rpK l i n k = none := by
  cases n with
  | zero => rfl
  | succ n => rw [rpK, if_neg h]

theorem rpI_end {l : List Zp} {n i : Nat} (h : ¬ i < l.length) : rpI l n i = pr0 0 := by
  cases n with
  | zero => rfl
  | succ n => rw [rpI, if_neg h]

def PrRes (w : World) (r : Pr) (e : Ending) (w' : World) : Prop :=
  Below w.heap.size w w' ∧ ∃ z : ZV, e = .returned (.tuple #[.int .i64 r.1.1, .int .i64 r.1.2.1, z.val, .int .i64 r.2]) ∧ ZAt w.heap.size w' z ∧ z.p = r.1.2.2

set_option maxRecDepth 100000 in
set_option maxHeartbeats 16000000 in
theorem pair_any (L : List ZV) (go : Option Addr) (gc : Nat) (w : World) (hL : RdZ 0 w go L) (hl : L.length ≤ 1000000) :
    Calls Tryz.prog 58 #[.slice go L.length gc] w (PrRes w (rpI (L.map ZV.p) L.length 0)) := by
  obtain ⟨T, hT⟩ : ∃ T, T = rpI (L.map ZV.p) L.length 0 := ⟨_, rfl⟩
  rw [← hT]
  have RL := Lib.hid hL
  obtain ⟨n, hn⟩ : ∃ n, n = L.length := ⟨_, rfl⟩
  have HN := Lib.hid hn
  have HLM := Lib.hid (show (L.map ZV.p).length = n by rw [hn]; simp)
  have nle : n ≤ 1000000 := by omega
  rw [← hn] at hT ⊢
  have TT := Lib.hid hT
  obtain ⟨w1, hw1⟩ : ∃ w1, w1 = w.alloc (.cells #[.int .i64 0, .slice none 0 0] 36) := ⟨_, rfl⟩
  have B1 := Lib.hid (show Below w.heap.size w w1 by rw [hw1]; exact one_more _)
  have X4 := Lib.hid (show Bx2 w1 w.heap.size (.int .i64 0) (.slice none 0 0) 36 by rw [hw1]; exact Bx2.made w _ _ _)
  have Q4 := Lib.hid (show w1.heap.size = w.heap.size + 1 by rw [hw1]; simp)
  obtain ⟨q4, hq4⟩ : ∃ q4, q4 = w.heap.size := ⟨_, rfl⟩
  have HQ4 := Lib.hid hq4
  clear hT hn hL hl
  go_enter Tryz.func58, Tryz.ntmps58
  go_wp2_with fail
  rw [← hw1]
  rw [← hq4] at X4 ⊢
  clear hw1 hq4
  go_loopw [6] (fun s wr => ∃ i : Nat, s = .int .i64 i ∧ i ≤ n ∧ Hid (Below w1.heap.size w1 wr) ∧ Hid (∃ f, T = rpI (L.map ZV.p) f i ∧ n - i ≤ f)) (fun s _ => n - (intOf s).toNat)
  case atStart => exact ⟨0, rfl, by omega, Lib.hid (Below.refl _ _), Lib.hid ⟨n, TT.out, by omega⟩⟩
  case round =>
    generalize wr = wa at *
    obtain ⟨i, rfl, hi, BA, HI⟩ := hrel
    by_cases hin : i < n
    · obtain ⟨f, hf, hfn⟩ := HI.out
      obtain ⟨f2, rfl⟩ : ∃ f2, f = f2 + 1 := ⟨f - 1, by omega⟩
      have hfn2 : n - (i + 1) ≤ f2 := by omega
      rw [rpI, if_pos (by rw [HLM.out]; exact hin), HLM.out] at hf
      have T1 := Lib.hid (show ∃ g, T = (rpK (L.map ZV.p) i g (i + 1)).getD (rpI (L.map ZV.p) f2 (i + 1)) ∧ n - (i + 1) ≤ g from ⟨_, hf, Nat.le_refl _⟩)
      obtain ⟨x, hx⟩ : ∃ x, x = L[i]'(by have := HN.out; omega) := ⟨_, rfl⟩
      obtain ⟨b, eb, h0, h1⟩ := (RL.out.on B1.out).hd i (by have := HN.out; omega)
      rw [← hx] at h0 h1
      have XZ := Lib.hid (show ZAt 0 w1 x from (RL.out.on B1.out).el x (by rw [hx]; exact List.getElem_mem _))
      have XP := Lib.hid (show gz (L.map ZV.p) i = x.p by rw [gz_eq (by rw [HLM.out]; exact hin)]; simp [hx])
      obtain ⟨xl, hxl⟩ : ∃ xl, xl = x.l.length := ⟨_, rfl⟩
      rw [← hxl] at h1
      have HXL := Lib.hid hxl
      have G0 := Lib.hid h0
      have G1 := Lib.hid h1
      clear hf HI hx h0 h1 hxl TT
      subst eb
      go_wp2_with fail
      go_loopw [7] (fun s wr => ∃ k : Nat, s = .int .i64 k ∧ k ≤ n ∧ Hid (Below w1.heap.size w1 wr) ∧ Hid (∃ g, T = (rpK (L.map ZV.p) i g k).getD (rpI (L.map ZV.p) f2 (i + 1)) ∧ n - k ≤ g)) (fun s _ => n - (intOf s).toNat)
      case atStart => exact ⟨i + 1, by go_num, by omega, BA, T1⟩
      case round =>
        generalize wr = wo at *
        obtain ⟨k, rfl, hk, BE, HI⟩ := hrel
        by_cases hkn : k < n
        · obtain ⟨g, hg, hgn⟩ := HI.out
          obtain ⟨g2, rfl⟩ : ∃ g2, g = g2 + 1 := ⟨g - 1, by omega⟩
          have hgn2 : n - (k + 1) ≤ g2 := by omega
          obtain ⟨y, hy⟩ : ∃ y, y = L[k]'(by have := HN.out; omega) := ⟨_, rfl⟩
          obtain ⟨b2, eb2, h2, h3⟩ := (RL.out.on B1.out).hd k (by have := HN.out; omega)
          have e2 : b2 = b := by injection eb2 with e; exact e.symm
          subst e2
          rw [← hy] at h2 h3
          have YZ := Lib.hid (show ZAt 0 w1 y from (RL.out.on B1.out).el y (by rw [hy]; exact List.getElem_mem _))
          rw [rpK, if_pos (by rw [HLM.out]; exact hkn), XP.out, show gz (L.map ZV.p) k = y.p by rw [gz_eq (by rw [HLM.out]; exact hkn)]; simp [hy]] at hg
          have HK := Lib.hid hg
          have HU := Lib.hid (show ∀ W, Below w1.heap.size w1 W → Calls Tryz.prog 105 #[.agg #[.int .i64 x.N, .slice x.a x.l.length x.c], .agg #[.int .i64 y.N, .slice y.a y.l.length y.c]] W (ZOut W (hlP x.p y.p)) from fun W h => rhl_out x y W (XZ.out.on h) (YZ.out.on h))
          have T2 := Lib.hid (show ∀ W, ZAt 0 W x → ZAt 0 W y → OwnZ W.heap.size 0 (W.alloc (.cells #[.int .i64 x.N, .slice x.a x.l.length x.c, .int .i64 y.N, .slice y.a y.l.length y.c] 36)) (.slice (some ⟨W.heap.size, 0, none⟩) 2 2) [x, y] from fun W h k => two_lit x y W h k)
          obtain ⟨yl, hyl⟩ : ∃ yl, yl = y.l.length := ⟨_, rfl⟩
          rw [← HXL.out] at HU T2
          rw [← hyl] at h3 HU T2
          have G2 := Lib.hid h2
          have G3 := Lib.hid h3
          clear hg HI hy eb2 h2 h3 hyl
          go_upto_region 7 with (fail)
          go_cut [8, 9] from 67 (fun s8 s9 wx => ∃ (q8 : Nat) (h : ZV), s8 = .pointer (some ⟨q8, 0, none⟩) ∧ s9 = .int .i64 (hlP x.p y.p).2 ∧ Hid (Below wo.heap.size wo wx) ∧ Hid (Bx2 wx q8 (.int .i64 h.N) (.slice h.a h.l.length h.c) 36) ∧ Hid (ZAt (w.heap.size + 1) wx h) ∧ Hid ((hlP x.p y.p).2 = 0 → h.p = (hlP x.p y.p).1) ∧ Hid (q8 ≠ q4))
          case first =>
            rename_i J0 K0 hJ0 hK0
            have KS := Lib.hid (show ∀ W, Below wo.heap.size wo W → (W.cell? (b2.add (i * 2)) = some (.int .i64 x.N) ∧ W.cell? ⟨(b2.add (i * 2)).block, (b2.add (i * 2)).off + 1, none⟩ = some (.slice x.a xl x.c) ∧ W.cell? (b2.add (k * 2)) = some (.int .i64 y.N) ∧ W.cell? ⟨(b2.add (k * 2)).block, (b2.add (k * 2)).off + 1, none⟩ = some (.slice y.a yl y.c)) from fun W h => ⟨kept (below_on BE.out h) G0.out, kept (below_on BE.out h) G1.out, kept (below_on BE.out h) G2.out, kept (below_on BE.out h) G3.out⟩)
            obtain ⟨wc, hwc⟩ : ∃ wc, wc = wo.drew := ⟨_, rfl⟩
            have Bc := Lib.hid (show Below wo.heap.size wo wc by rw [hwc]; exact (Below.refl _ _).drew)
            refine wp_region_held_drew (S := (fun W => (W.cell? (b2.add (i * 2)) = some (.int .i64 x.N) ∧ W.cell? ⟨(b2.add (i * 2)).block, (b2.add (i * 2)).off + 1, none⟩ = some (.slice x.a xl x.c) ∧ W.cell? (b2.add (k * 2)) = some (.int .i64 y.N) ∧ W.cell? ⟨(b2.add (k * 2)).block, (b2.add (k * 2)).off + 1, none⟩ = some (.slice y.a yl y.c)))) (by kernel_rfl) (by rw [← hwc]; exact KS.out _ Bc.out) (fun h0 => ?_)
            rw [← hwc] at h0 ⊢
            clear hwc
            refine tkH (i := 0) (v := ?v1) rfl (Or.inl ⟨by rfl, ?hy1⟩) h0 ?rest1
            case hy1 => (intro w' hS; (try dsimp only at hS); go_simp; try (with_reducible rfl))
            simp only [Act.put, sA, sB, sD, sE, sF]
            refine tkH (i := 1) (v := ?v2) rfl (Or.inl ⟨by rfl, ?hy2⟩) h0 ?rest2
            case hy2 => (intro w' hS; (try dsimp only at hS); go_simp; try (with_reducible rfl))
            simp only [Act.put, sZ]
            refine tkH (i := 2) (v := ?v3) rfl (Or.inl ⟨by rfl, ?hy3⟩) h0 ?rest3
            case hy3 => (intro w' hS; (try dsimp only at hS); go_simp; try (with_reducible rfl))
            simp only [Act.put, sZ]
            refine tkH (i := 3) (v := ?v4) rfl (Or.inl ⟨by rfl, ?hy4⟩) h0 ?rest4
            case hy4 => (intro w' hS; (try dsimp only at hS); go_simp; try (with_reducible rfl))
            simp only [Act.put, sZ]
            refine tkH (i := 4) (v := ?v5) rfl (Or.inl ⟨by rfl, ?hy5⟩) h0 ?rest5
            case hy5 => (intro w' hS; (try dsimp only at hS); go_simp; try (with_reducible rfl))
            simp only [Act.put, sZ]
            refine tkH (i := 5) (v := ?v6) rfl (Or.inl ⟨by rfl, ?hy6⟩) h0 ?rest6
            case hy6 => (intro w' hS; (try dsimp only at hS); go_simp; try (with_reducible rfl))
            simp only [Act.put, sZ]
            refine tkH (i := 6) (v := ?v7) rfl (Or.inl ⟨by rfl, ?hy7⟩) h0 ?rest7
            case hy7 => (intro w' hS; (try dsimp only at hS); go_simp; try (with_reducible rfl))
            simp only [Act.put, sZ]
            refine tkH (i := 7) (v := ?v8) rfl (Or.inl ⟨by rfl, ?hy8⟩) h0 ?rest8
            case hy8 => (intro w' hS; (try dsimp only at hS); go_simp; try (with_reducible rfl))
            simp only [Act.put, sZ]
            refine wpAnyH_ready (rs := [8, 12]) (by kernel_rfl) (by simp) (AllReadyH.cons rfl (fun K hK => ?_) (AllReadyH.cons rfl (fun K hK => ?_) AllReadyH.nil))
            · rw [if_pos (by rfl)]
              go_simp
              refine (HU.out wc (below_on BE.out Bc.out)).mono ?_
              rintro e wd ⟨hb, z8, rfl, hz8, hp8⟩
              have P8 := Lib.hid hp8
              have A8 := Lib.hid (hz8.low (show w.heap.size + 1 ≤ wc.heap.size by have := (below_on BE.out Bc.out).size; have := Q4.out; omega))
              try (have NE := Lib.hid (show ∀ p, z8.a = some p → p.block ≠ q8 from fun p e => by have := N8.out.lt; have := (hz8.2 p e).1; omega))
              try (have N8 := Lib.hid (N8.out.kept hb))
              have Bc := Lib.hid (below_on Bc.out hb)
              clear hb hz8 hp8
              unfold ZV.val
              obtain ⟨zl, hzl⟩ : ∃ zl, zl = z8.l.length := ⟨_, rfl⟩
              rw [← hzl]
              have HZL := Lib.hid hzl
              clear hzl
              obtain ⟨wc, hwc⟩ : ∃ wc, wc = wd := ⟨_, rfl⟩
              rw [← hwc] at A8 Bc ⊢
              try rw [← hwc] at N8
              clear hwc
              go_simp
              refine hK.out _ _ (KS.out _ Bc.out) (fun h0_1 => ?_)
              clear hK K h0
              refine tkH (i := 9) (v := ?v9) rfl (Or.inl ⟨by rfl, ?hy9⟩) h0_1 ?rest9
              case hy9 => (intro w' hS; (try dsimp only at hS); go_simp; try (with_reducible rfl))
              simp only [Act.put, sZ]
              refine tkH (i := 10) (v := ?v10) rfl (Or.inl ⟨by rfl, ?hy10⟩) h0_1 ?rest10
              case hy10 => (intro w' hS; (try dsimp only at hS); go_simp; try (with_reducible rfl))
              simp only [Act.put, sZ]
              refine tkH (i := 11) (v := ?v11) rfl (Or.inl ⟨by rfl, ?hy11⟩) h0_1 ?rest11
              case hy11 => (intro w' hS; (try dsimp only at hS); go_simp; try (with_reducible rfl))
              simp only [Act.put, sZ]
              refine wpAnyH_ready (rs := [12]) (by kernel_rfl) (by simp) (AllReadyH.cons rfl (fun K hK => ?_) AllReadyH.nil)
              rw [if_pos (by rfl)]
              go_simp
              have hb := one_more (w1 := wc) (.cells #[.int .i64 0, .slice none 0 0] 36)
              have hP := Bx2.made wc (.int .i64 0) (.slice none 0 0) 36
              have hz := Bc.out.size
              obtain ⟨q8, hbb⟩ : ∃ b, b = wc.heap.size := ⟨_, rfl⟩
              rw [← hbb] at hP hz
              obtain ⟨wn, hwn⟩ : ∃ wn, wn = wc.alloc (.cells #[.int .i64 0, .slice none 0 0] 36) := ⟨_, rfl⟩
              rw [← hwn] at hb hP ⊢
              try rw [← hbb]
              try (have NE := Lib.hid (show ∀ p, z8.a = some p → p.block ≠ q8 from fun p e => by have := (A8.out.2 p e).2; omega))
              try (have A8 := Lib.hid (A8.out.on hb))
              have Bc := Lib.hid (below_on Bc.out hb)
              have N8 := Lib.hid hP
              have Zq8 := Lib.hid hz
              clear hb hP hz hbb hwn
              obtain ⟨wc, hwc⟩ : ∃ wc, wc = wn := ⟨_, rfl⟩
              rw [← hwc] at Bc N8 ⊢
              try rw [← hwc] at NE
              try rw [← hwc] at A8
              clear hwc
              go_simp
              refine hK.out _ _ (KS.out _ Bc.out) (fun h0_2 => ?_)
              clear hK K h0_1
              refine wpAnyH_ready (rs := [13]) (by kernel_rfl) (by simp) (AllReadyH.cons rfl (fun K hK => ?_) AllReadyH.nil)
              rw [if_pos (by rfl)]
              go_simp
              obtain ⟨s0, s1, s2, s3⟩ := N8.out.facts
              go_simp
              refine hK.out _ _ (KS.out _ (below_put2 Bc.out Zq8.out _ _)) (fun h0_3 => ?_)
              clear hK K h0_2
              clear s0 s1 s2 s3
              refine tkH (i := 14) (v := ?v12) rfl (Or.inl ⟨by rfl, ?hy12⟩) h0_3 ?rest12
              case hy12 => (intro w' hS; (try dsimp only at hS); go_simp; try (with_reducible rfl))
              simp only [Act.put, sA, sB, sC, sD]
              try simp only [sF]
              try simp only [sE]
              refine wpAnyH_done (by kernel_rfl) ?_ _
              have N9 := N8.out.put (.int .i64 z8.N) (.slice z8.a zl z8.c)
              have A9 := A8.out.grown (r := some q8) (grown_put2 wc q8 (.int .i64 z8.N) (.slice z8.a zl z8.c)) (fun p e q => by injection q with q; exact NE.out p e q.symm)
              have D9 := below_put2 Bc.out Zq8.out (.int .i64 z8.N) (.slice z8.a zl z8.c)
              simp only [Exit.then]
              refine hK0 _ _ (Met.intro (hJ0 _ _ ?_))
              (repeat apply Exists.intro)
              refine ⟨?rel, rfl⟩
              case rel => exact ⟨q8, z8, rfl, rfl, Lib.hid D9, Lib.hid (by rw [← HZL.out]; exact N9), Lib.hid A9, P8, Lib.hid (by have := Zq8.out; have := BE.out.size; have := Q4.out; have := HQ4.out; omega)⟩
            · rw [if_pos (by rfl)]
              go_simp
              have hb := one_more (w1 := wc) (.cells #[.int .i64 0, .slice none 0 0] 36)
              have hP := Bx2.made wc (.int .i64 0) (.slice none 0 0) 36
              have hz := Bc.out.size
              obtain ⟨q8, hbb⟩ : ∃ b, b = wc.heap.size := ⟨_, rfl⟩
              rw [← hbb] at hP hz
              obtain ⟨wn, hwn⟩ : ∃ wn, wn = wc.alloc (.cells #[.int .i64 0, .slice none 0 0] 36) := ⟨_, rfl⟩
              rw [← hwn] at hb hP ⊢
              try rw [← hbb]
              try (have NE := Lib.hid (show ∀ p, z8.a = some p → p.block ≠ q8 from fun p e => by have := (A8.out.2 p e).2; omega))
              try (have A8 := Lib.hid (A8.out.on hb))
              have Bc := Lib.hid (below_on Bc.out hb)
              have N8 := Lib.hid hP
              have Zq8 := Lib.hid hz
              clear hb hP hz hbb hwn
              obtain ⟨wc, hwc⟩ : ∃ wc, wc = wn := ⟨_, rfl⟩
              rw [← hwc] at Bc N8 ⊢
              try rw [← hwc] at NE
              try rw [← hwc] at A8
              clear hwc
              go_simp
              refine hK.out _ _ (KS.out _ Bc.out) (fun h0_1 => ?_)
              clear hK K h0
              refine wpAnyH_ready (rs := [8]) (by kernel_rfl) (by simp) (AllReadyH.cons rfl (fun K hK => ?_) AllReadyH.nil)
              rw [if_pos (by rfl)]
              go_simp
              refine (HU.out wc (below_on BE.out Bc.out)).mono ?_
              rintro e wd ⟨hb, z8, rfl, hz8, hp8⟩
              have P8 := Lib.hid hp8
              have A8 := Lib.hid (hz8.low (show w.heap.size + 1 ≤ wc.heap.size by have := (below_on BE.out Bc.out).size; have := Q4.out; omega))
              try (have NE := Lib.hid (show ∀ p, z8.a = some p → p.block ≠ q8 from fun p e => by have := N8.out.lt; have := (hz8.2 p e).1; omega))
              try (have N8 := Lib.hid (N8.out.kept hb))
              have Bc := Lib.hid (below_on Bc.out hb)
              clear hb hz8 hp8
              unfold ZV.val
              obtain ⟨zl, hzl⟩ : ∃ zl, zl = z8.l.length := ⟨_, rfl⟩
              rw [← hzl]
              have HZL := Lib.hid hzl
              clear hzl
              obtain ⟨wc, hwc⟩ : ∃ wc, wc = wd := ⟨_, rfl⟩
              rw [← hwc] at A8 Bc ⊢
              try rw [← hwc] at N8
              clear hwc
              go_simp
              refine hK.out _ _ (KS.out _ Bc.out) (fun h0_4 => ?_)
              clear hK K h0_1
              refine tkH (i := 9) (v := ?v13) rfl (Or.inl ⟨by rfl, ?hy13⟩) h0_4 ?rest13
              case hy13 => (intro w' hS; (try dsimp only at hS); go_simp; try (with_reducible rfl))
              simp only [Act.put, sZ]
              refine tkH (i := 10) (v := ?v14) rfl (Or.inl ⟨by rfl, ?hy14⟩) h0_4 ?rest14
              case hy14 => (intro w' hS; (try dsimp only at hS); go_simp; try (with_reducible rfl))
              simp only [Act.put, sZ]
              refine tkH (i := 11) (v := ?v15) rfl (Or.inl ⟨by rfl, ?hy15⟩) h0_4 ?rest15
              case hy15 => (intro w' hS; (try dsimp only at hS); go_simp; try (with_reducible rfl))
              simp only [Act.put, sZ]
              refine wpAnyH_ready (rs := [13]) (by kernel_rfl) (by simp) (AllReadyH.cons rfl (fun K hK => ?_) AllReadyH.nil)
              rw [if_pos (by rfl)]
              go_simp
              obtain ⟨s0, s1, s2, s3⟩ := N8.out.facts
              go_simp
              refine hK.out _ _ (KS.out _ (below_put2 Bc.out Zq8.out _ _)) (fun h0_5 => ?_)
              clear hK K h0_4
              clear s0 s1 s2 s3
              refine tkH (i := 14) (v := ?v16) rfl (Or.inl ⟨by rfl, ?hy16⟩) h0_5 ?rest16
              case hy16 => (intro w' hS; (try dsimp only at hS); go_simp; try (with_reducible rfl))
              simp only [Act.put, sA, sB, sC, sD]
              try simp only [sF]
              try simp only [sE]
              refine wpAnyH_done (by kernel_rfl) ?_ _
              have N9 := N8.out.put (.int .i64 z8.N) (.slice z8.a zl z8.c)
              have A9 := A8.out.grown (r := some q8) (grown_put2 wc q8 (.int .i64 z8.N) (.slice z8.a zl z8.c)) (fun p e q => by injection q with q; exact NE.out p e q.symm)
              have D9 := below_put2 Bc.out Zq8.out (.int .i64 z8.N) (.slice z8.a zl z8.c)
              simp only [Exit.then]
              refine hK0 _ _ (Met.intro (hJ0 _ _ ?_))
              (repeat apply Exists.intro)
              refine ⟨?rel, rfl⟩
              case rel => exact ⟨q8, z8, rfl, rfl, Lib.hid D9, Lib.hid (by rw [← HZL.out]; exact N9), Lib.hid A9, P8, Lib.hid (by have := Zq8.out; have := BE.out.size; have := Q4.out; have := HQ4.out; omega)⟩
          generalize wc = wd at *
          obtain ⟨q8, h, rfl, rfl, D5, N8, HZ, HP, NQ⟩ := hcut
          obtain ⟨e3, he3⟩ : ∃ e3, e3 = (hlP x.p y.p).2 := ⟨_, rfl⟩
          rw [← he3] at HP ⊢
          have E3 := Lib.hid he3
          clear he3
          have B5 := Lib.hid (below_on BE.out D5.out)
          by_cases hz3 : e3 = 0
          rotate_left
          · have q1 : (e3 != 0) = true := by simpa using hz3
            have TE := Lib.hid (show T = pr0 e3 by
              have e4 : (hlP x.p y.p).2 ≠ 0 := by rw [← E3.out]; exact hz3
              have : (tryR x.p y.p).2 = e3 := by unfold tryR; rw [if_pos e4, ← E3.out]
              rw [HK.out, if_pos (by rw [this]; exact hz3), this]; rfl)
            have X8 := Lib.hid (X4.out.kept B5.out)
            obtain ⟨f0, f1, f2, f3⟩ := X8.out.facts
            clear hz3
            go_wp2_with fail
            obtain ⟨r0, r1, _, _⟩ := (X8.out.put (.int .i64 0) (.slice none 0 0)).facts
            have BE9 := below_put2 (below_on B1.out B5.out) (b := q4) (by have := HQ4.out; omega) (.int .i64 0) (.slice none 0 0)
            refine bodyPost_ret (v := .tuple #[.int .i64 0, .int .i64 0, .agg #[.int .i64 0, .slice none 0 0], .int .i64 e3]) (by simp [results, Tryz.results58, go_sem, r0, r1]) rfl ?_
            exact ⟨BE9, ⟨0, none, 0, []⟩, by rw [TE.out]; rfl, ⟨fun h => absurd rfl h, fun p e => by cases e⟩, by rw [TE.out]; rfl⟩
          have q1 : (e3 != 0) = false := by simp [hz3]
          have HP := Lib.hid (HP.out hz3)
          have E0 := Lib.hid (show (hlP x.p y.p).2 = 0 by rw [← E3.out]; exact hz3)
          have T1h := Lib.hid (show ∀ W, ZAt 0 W h → OwnZ W.heap.size 0 (W.alloc (.cells #[.int .i64 h.N, .slice h.a h.l.length h.c] 36)) (.slice (some ⟨W.heap.size, 0, none⟩) 1 1) [h] from fun W k => one_lit h W k)
          have MI := Lib.hid (show ∀ W a2 c2, RdZ 0 W (some a2) [h] → ∀ b2 d2, RdZ 0 W (some b2) [x, y] → Calls Tryz.prog 20 #[.slice (some a2) 1 c2, .slice (some b2) 2 d2] W (RfRes (minR [(hlP x.p y.p).1] [x.p, y.p]) W) from fun W a2 c2 h1 b2 d2 h2 => by
            have := rminus_any [h] [x, y] (some a2) (some b2) c2 d2 W h1 h2 (by simp) (by simp) (by simp)
            simp only [List.map_cons, List.map_nil, HP.out] at this
            exact this)
          obtain ⟨hl, hhl⟩ : ∃ hl, hl = h.l.length := ⟨_, rfl⟩
          rw [← hhl] at N8 T1h
          have HHL := Lib.hid hhl
          clear hz3 hhl HU
          go_upto_region 10 with (fail)
          go_cut [9, 10] from 67 (fun s9 s10 wx => ∃ (zn : Nat) (ao : Option Addr) (cap : Nat), s10 = .slice ao zn cap ∧ s9 = .int .i64 (minR [(hlP x.p y.p).1] [x.p, y.p]).2 ∧ zn ≤ 3000 ∧ Hid (Below wd.heap.size wd wx) ∧ Hid ((minR [(hlP x.p y.p).1] [x.p, y.p]).2 = 0 → zn = (minR [(hlP x.p y.p).1] [x.p, y.p]).1.length))
          case first =>
            rename_i J0 K0 hJ0 hK0
            have KS := Lib.hid (show ∀ W, Below wd.heap.size wd W → (W.cell? ⟨q8, 0, none⟩ = some (.int .i64 h.N) ∧ W.cell? ⟨q8, 1, none⟩ = some (.slice h.a hl h.c) ∧ W.cell? (b2.add (i * 2)) = some (.int .i64 x.N) ∧ W.cell? ⟨(b2.add (i * 2)).block, (b2.add (i * 2)).off + 1, none⟩ = some (.slice x.a xl x.c) ∧ W.cell? (b2.add (k * 2)) = some (.int .i64 y.N) ∧ W.cell? ⟨(b2.add (k * 2)).block, (b2.add (k * 2)).off + 1, none⟩ = some (.slice y.a yl y.c)) from fun W h => ⟨(N8.out.kept h).facts.1, (N8.out.kept h).facts.2.1, kept (below_on B5.out h) G0.out, kept (below_on B5.out h) G1.out, kept (below_on B5.out h) G2.out, kept (below_on B5.out h) G3.out⟩)
            obtain ⟨wc, hwc⟩ : ∃ wc, wc = wd.drew := ⟨_, rfl⟩
            have Bc := Lib.hid (show Below wd.heap.size wd wc by rw [hwc]; exact (Below.refl _ _).drew)
            refine wp_region_held_drew (S := (fun W => (W.cell? ⟨q8, 0, none⟩ = some (.int .i64 h.N) ∧ W.cell? ⟨q8, 1, none⟩ = some (.slice h.a hl h.c) ∧ W.cell? (b2.add (i * 2)) = some (.int .i64 x.N) ∧ W.cell? ⟨(b2.add (i * 2)).block, (b2.add (i * 2)).off + 1, none⟩ = some (.slice x.a xl x.c) ∧ W.cell? (b2.add (k * 2)) = some (.int .i64 y.N) ∧ W.cell? ⟨(b2.add (k * 2)).block, (b2.add (k * 2)).off + 1, none⟩ = some (.slice y.a yl y.c)))) (by kernel_rfl) (by rw [← hwc]; exact KS.out _ Bc.out) (fun h0 => ?_)
            rw [← hwc] at h0 ⊢
            clear hwc
            refine tkH (i := 0) (v := ?v17) rfl (Or.inl ⟨by rfl, ?hy17⟩) h0 ?rest17
            case hy17 => (intro w' hS; (try dsimp only at hS); go_simp; try (with_reducible rfl))
            simp only [Act.put, sA, sB, sD, sE, sF]
            refine tkH (i := 2) (v := ?v18) rfl (Or.inl ⟨by rfl, ?hy18⟩) h0 ?rest18
            case hy18 => (intro w' hS; (try dsimp only at hS); go_simp; try (with_reducible rfl))
            simp only [Act.put, sZ]
            refine tkH (i := 3) (v := ?v19) rfl (Or.inl ⟨by rfl, ?hy19⟩) h0 ?rest19
            case hy19 => (intro w' hS; (try dsimp only at hS); go_simp; try (with_reducible rfl))
            simp only [Act.put, sZ]
            refine tkH (i := 4) (v := ?v20) rfl (Or.inl ⟨by rfl, ?hy20⟩) h0 ?rest20
            case hy20 => (intro w' hS; (try dsimp only at hS); go_simp; try (with_reducible rfl))
            simp only [Act.put, sZ]
            refine tkH (i := 5) (v := ?v21) rfl (Or.inl ⟨by rfl, ?hy21⟩) h0 ?rest21
            case hy21 => (intro w' hS; (try dsimp only at hS); go_simp; try (with_reducible rfl))
            simp only [Act.put, sZ]
            refine tkH (i := 6) (v := ?v22) rfl (Or.inl ⟨by rfl, ?hy22⟩) h0 ?rest22
            case hy22 => (intro w' hS; (try dsimp only at hS); go_simp; try (with_reducible rfl))
            simp only [Act.put, sZ]
            refine tkH (i := 7) (v := ?v23) rfl (Or.inl ⟨by rfl, ?hy23⟩) h0 ?rest23
            case hy23 => (intro w' hS; (try dsimp only at hS); go_simp; try (with_reducible rfl))
            simp only [Act.put, sZ]
            refine tkH (i := 8) (v := ?v24) rfl (Or.inl ⟨by rfl, ?hy24⟩) h0 ?rest24
            case hy24 => (intro w' hS; (try dsimp only at hS); go_simp; try (with_reducible rfl))
            simp only [Act.put, sZ]
            refine tkH (i := 9) (v := ?v25) rfl (Or.inl ⟨by rfl, ?hy25⟩) h0 ?rest25
            case hy25 => (intro w' hS; (try dsimp only at hS); go_simp; try (with_reducible rfl))
            simp only [Act.put, sZ]
            refine wpAnyH_ready (rs := [1, 10]) (by kernel_rfl) (by simp) (AllReadyH.cons rfl (fun K hK => ?_) (AllReadyH.cons rfl (fun K hK => ?_) AllReadyH.nil))
            · rw [if_pos (by rfl)]
              go_simp
              have hb := one_more (w1 := wc) (.cells #[.int .i64 h.N, .slice h.a hl h.c] 36)
              have hP := T1h.out wc ((HZ.out.on Bc.out).low (Nat.zero_le _))
              have hz := Bc.out.size
              obtain ⟨b1, hbb⟩ : ∃ b, b = wc.heap.size := ⟨_, rfl⟩
              rw [← hbb] at hP hz
              obtain ⟨wn, hwn⟩ : ∃ wn, wn = wc.alloc (.cells #[.int .i64 h.N, .slice h.a hl h.c] 36) := ⟨_, rfl⟩
              rw [← hwn] at hb hP ⊢
              try rw [← hbb]
              try (have OW2 := Lib.hid (OW2.out.on hb))
              have Bc := Lib.hid (below_on Bc.out hb)
              have OW1 := Lib.hid hP
              have Zb1 := Lib.hid hz
              clear hb hP hz hbb hwn
              obtain ⟨wc, hwc⟩ : ∃ wc, wc = wn := ⟨_, rfl⟩
              rw [← hwc] at Bc OW1 ⊢
              try rw [← hwc] at OW2
              clear hwc
              go_simp
              refine hK.out _ _ (KS.out _ Bc.out) (fun h0_1 => ?_)
              clear hK K h0
              refine wpAnyH_ready (rs := [10]) (by kernel_rfl) (by simp) (AllReadyH.cons rfl (fun K hK => ?_) AllReadyH.nil)
              rw [if_pos (by rfl)]
              go_simp
              have hb := one_more (w1 := wc) (.cells #[.int .i64 x.N, .slice x.a xl x.c, .int .i64 y.N, .slice y.a yl y.c] 36)
              have hP := T2.out wc (XZ.out.on (below_on B5.out Bc.out)) (YZ.out.on (below_on B5.out Bc.out))
              have hz := Bc.out.size
              obtain ⟨b3, hbb⟩ : ∃ b, b = wc.heap.size := ⟨_, rfl⟩
              rw [← hbb] at hP hz
              obtain ⟨wn, hwn⟩ : ∃ wn, wn = wc.alloc (.cells #[.int .i64 x.N, .slice x.a xl x.c, .int .i64 y.N, .slice y.a yl y.c] 36) := ⟨_, rfl⟩
              rw [← hwn] at hb hP ⊢
              try rw [← hbb]
              try (have OW1 := Lib.hid (OW1.out.on hb))
              have Bc := Lib.hid (below_on Bc.out hb)
              have OW2 := Lib.hid hP
              have Zb3 := Lib.hid hz
              clear hb hP hz hbb hwn
              obtain ⟨wc, hwc⟩ : ∃ wc, wc = wn := ⟨_, rfl⟩
              rw [← hwc] at Bc OW2 ⊢
              try rw [← hwc] at OW1
              clear hwc
              go_simp
              refine hK.out _ _ (KS.out _ Bc.out) (fun h0_2 => ?_)
              clear hK K h0_1
              refine wpAnyH_ready (rs := [11]) (by kernel_rfl) (by simp) (AllReadyH.cons rfl (fun K hK => ?_) AllReadyH.nil)
              rw [if_pos (by rfl)]
              go_simp
              refine (MI.out wc _ 1 (show RdZ 0 wc (some ⟨b1, 0, none⟩) [h] from (show OwnZ _ 0 wc (.slice (some ⟨b1, 0, none⟩) [h].length 1) [h] from OW1.out).rd.1) _ 2 (show RdZ 0 wc (some ⟨b3, 0, none⟩) [x, y] from (show OwnZ _ 0 wc (.slice (some ⟨b3, 0, none⟩) [x, y].length 2) [x, y] from OW2.out).rd.1)).mono ?_
              rintro e wd ⟨hb, ao, cap, Z, rfl, _, hmz, zle⟩
              have Bc := Lib.hid (below_on Bc.out hb)
              obtain ⟨zn, hzn⟩ : ∃ zn, zn = Z.length := ⟨_, rfl⟩
              rw [← hzn]
              have ML := Lib.hid (show (minR [(hlP x.p y.p).1] [x.p, y.p]).2 = 0 → zn = (minR [(hlP x.p y.p).1] [x.p, y.p]).1.length from fun e => by rw [if_pos e] at hmz; rw [← hmz, hzn]; simp)
              have zn_le : zn ≤ 3000 := by omega
              obtain ⟨em, hem⟩ : ∃ em, em = (minR [(hlP x.p y.p).1] [x.p, y.p]).2 := ⟨_, rfl⟩
              rw [← hem]
              have HEM := Lib.hid hem
              clear hb hmz hzn zle OW1 OW2 hem
              obtain ⟨wc, hwc⟩ : ∃ wc, wc = wd := ⟨_, rfl⟩
              rw [← hwc] at Bc ⊢
              clear hwc
              go_simp
              refine hK.out _ _ (KS.out _ Bc.out) (fun h0_3 => ?_)
              clear hK K h0_2
              refine tkH (i := 12) (v := ?v26) rfl (Or.inl ⟨by rfl, ?hy26⟩) h0_3 ?rest26
              case hy26 => (intro w' hS; (try dsimp only at hS); go_simp; try (with_reducible rfl))
              simp only [Act.put, sZ]
              refine tkH (i := 13) (v := ?v27) rfl (Or.inl ⟨by rfl, ?hy27⟩) h0_3 ?rest27
              case hy27 => (intro w' hS; (try dsimp only at hS); go_simp; try (with_reducible rfl))
              simp only [Act.put, sZ]
              refine tkH (i := 14) (v := ?v28) rfl (Or.inl ⟨by rfl, ?hy28⟩) h0_3 ?rest28
              case hy28 => (intro w' hS; (try dsimp only at hS); go_simp; try (with_reducible rfl))
              simp only [Act.put, sZ]
              refine tkH (i := 15) (v := ?v29) rfl (Or.inl ⟨by rfl, ?hy29⟩) h0_3 ?rest29
              case hy29 => (intro w' hS; (try dsimp only at hS); go_simp; try (with_reducible rfl))
              simp only [Act.put, sZ]
              refine tkH (i := 16) (v := ?v30) rfl (Or.inl ⟨by rfl, ?hy30⟩) h0_3 ?rest30
              case hy30 => (intro w' hS; (try dsimp only at hS); go_simp; try (with_reducible rfl))
              simp only [Act.put, sA, sB, sC, sD]
              try simp only [sF]
              try simp only [sE]
              refine wpAnyH_done (by kernel_rfl) ?_ _
              simp only [Exit.then]
              refine hK0 _ _ (Met.intro (hJ0 _ _ ?_))
              (repeat apply Exists.intro)
              refine ⟨?rel, rfl⟩
              case rel => exact ⟨zn, ao, cap, rfl, by rw [HEM.out], zn_le, Bc, ML⟩
            · rw [if_pos (by rfl)]
              go_simp
              have hb := one_more (w1 := wc) (.cells #[.int .i64 x.N, .slice x.a xl x.c, .int .i64 y.N, .slice y.a yl y.c] 36)
              have hP := T2.out wc (XZ.out.on (below_on B5.out Bc.out)) (YZ.out.on (below_on B5.out Bc.out))
              have hz := Bc.out.size
              obtain ⟨b3, hbb⟩ : ∃ b, b = wc.heap.size := ⟨_, rfl⟩
              rw [← hbb] at hP hz
              obtain ⟨wn, hwn⟩ : ∃ wn, wn = wc.alloc (.cells #[.int .i64 x.N, .slice x.a xl x.c, .int .i64 y.N, .slice y.a yl y.c] 36) := ⟨_, rfl⟩
              rw [← hwn] at hb hP ⊢
              try rw [← hbb]
              try (have OW1 := Lib.hid (OW1.out.on hb))
              have Bc := Lib.hid (below_on Bc.out hb)
              have OW2 := Lib.hid hP
              have Zb3 := Lib.hid hz
              clear hb hP hz hbb hwn
              obtain ⟨wc, hwc⟩ : ∃ wc, wc = wn := ⟨_, rfl⟩
              rw [← hwc] at Bc OW2 ⊢
              try rw [← hwc] at OW1
              clear hwc
              go_simp
              refine hK.out _ _ (KS.out _ Bc.out) (fun h0_1 => ?_)
              clear hK K h0
              refine wpAnyH_ready (rs := [1]) (by kernel_rfl) (by simp) (AllReadyH.cons rfl (fun K hK => ?_) AllReadyH.nil)
              rw [if_pos (by rfl)]
              go_simp
              have hb := one_more (w1 := wc) (.cells #[.int .i64 h.N, .slice h.a hl h.c] 36)
              have hP := T1h.out wc ((HZ.out.on Bc.out).low (Nat.zero_le _))
              have hz := Bc.out.size
              obtain ⟨b1, hbb⟩ : ∃ b, b = wc.heap.size := ⟨_, rfl⟩
              rw [← hbb] at hP hz
              obtain ⟨wn, hwn⟩ : ∃ wn, wn = wc.alloc (.cells #[.int .i64 h.N, .slice h.a hl h.c] 36) := ⟨_, rfl⟩
              rw [← hwn] at hb hP ⊢
              try rw [← hbb]
              try (have OW2 := Lib.hid (OW2.out.on hb))
              have Bc := Lib.hid (below_on Bc.out hb)
              have OW1 := Lib.hid hP
              have Zb1 := Lib.hid hz
              clear hb hP hz hbb hwn
              obtain ⟨wc, hwc⟩ : ∃ wc, wc = wn := ⟨_, rfl⟩
              rw [← hwc] at Bc OW1 ⊢
              try rw [← hwc] at OW2
              clear hwc
              go_simp
              refine hK.out _ _ (KS.out _ Bc.out) (fun h0_4 => ?_)
              clear hK K h0_1
              refine wpAnyH_ready (rs := [11]) (by kernel_rfl) (by simp) (AllReadyH.cons rfl (fun K hK => ?_) AllReadyH.nil)
              rw [if_pos (by rfl)]
              go_simp
              refine (MI.out wc _ 1 (show RdZ 0 wc (some ⟨b1, 0, none⟩) [h] from (show OwnZ _ 0 wc (.slice (some ⟨b1, 0, none⟩) [h].length 1) [h] from OW1.out).rd.1) _ 2 (show RdZ 0 wc (some ⟨b3, 0, none⟩) [x, y] from (show OwnZ _ 0 wc (.slice (some ⟨b3, 0, none⟩) [x, y].length 2) [x, y] from OW2.out).rd.1)).mono ?_
              rintro e wd ⟨hb, ao, cap, Z, rfl, _, hmz, zle⟩
              have Bc := Lib.hid (below_on Bc.out hb)
              obtain ⟨zn, hzn⟩ : ∃ zn, zn = Z.length := ⟨_, rfl⟩
              rw [← hzn]
              have ML := Lib.hid (show (minR [(hlP x.p y.p).1] [x.p, y.p]).2 = 0 → zn = (minR [(hlP x.p y.p).1] [x.p, y.p]).1.length from fun e => by rw [if_pos e] at hmz; rw [← hmz, hzn]; simp)
              have zn_le : zn ≤ 3000 := by omega
              obtain ⟨em, hem⟩ : ∃ em, em = (minR [(hlP x.p y.p).1] [x.p, y.p]).2 := ⟨_, rfl⟩
              rw [← hem]
              have HEM := Lib.hid hem
              clear hb hmz hzn zle OW1 OW2 hem
              obtain ⟨wc, hwc⟩ : ∃ wc, wc = wd := ⟨_, rfl⟩
              rw [← hwc] at Bc ⊢
              clear hwc
              go_simp
              refine hK.out _ _ (KS.out _ Bc.out) (fun h0_5 => ?_)
              clear hK K h0_4
              refine tkH (i := 12) (v := ?v31) rfl (Or.inl ⟨by rfl, ?hy31⟩) h0_5 ?rest31
              case hy31 => (intro w' hS; (try dsimp only at hS); go_simp; try (with_reducible rfl))
              simp only [Act.put, sZ]
              refine tkH (i := 13) (v := ?v32) rfl (Or.inl ⟨by rfl, ?hy32⟩) h0_5 ?rest32
              case hy32 => (intro w' hS; (try dsimp only at hS); go_simp; try (with_reducible rfl))
              simp only [Act.put, sZ]
              refine tkH (i := 14) (v := ?v33) rfl (Or.inl ⟨by rfl, ?hy33⟩) h0_5 ?rest33
              case hy33 => (intro w' hS; (try dsimp only at hS); go_simp; try (with_reducible rfl))
              simp only [Act.put, sZ]
              refine tkH (i := 15) (v := ?v34) rfl (Or.inl ⟨by rfl, ?hy34⟩) h0_5 ?rest34
              case hy34 => (intro w' hS; (try dsimp only at hS); go_simp; try (with_reducible rfl))
              simp only [Act.put, sZ]
              refine tkH (i := 16) (v := ?v35) rfl (Or.inl ⟨by rfl, ?hy35⟩) h0_5 ?rest35
              case hy35 => (intro w' hS; (try dsimp only at hS); go_simp; try (with_reducible rfl))
              simp only [Act.put, sA, sB, sC, sD]
              try simp only [sF]
              try simp only [sE]
              refine wpAnyH_done (by kernel_rfl) ?_ _
              simp only [Exit.then]
              refine hK0 _ _ (Met.intro (hJ0 _ _ ?_))
              (repeat apply Exists.intro)
              refine ⟨?rel, rfl⟩
              case rel => exact ⟨zn, ao, cap, rfl, by rw [HEM.out], zn_le, Bc, ML⟩
          generalize wc = we at *
          obtain ⟨zn, ao, cap, rfl, rfl, hzn, D9, ML⟩ := hcut
          obtain ⟨e4, he4⟩ : ∃ e4, e4 = (minR [(hlP x.p y.p).1] [x.p, y.p]).2 := ⟨_, rfl⟩
          rw [← he4] at ML ⊢
          have E4 := Lib.hid he4
          clear he4 q1 MI T1h T2
          have B6 := Lib.hid (below_on B5.out D9.out)
          have N8 := Lib.hid (N8.out.kept D9.out)
          have HZ := Lib.hid (HZ.out.on D9.out)
          have X8 := Lib.hid (X4.out.kept B6.out)
          by_cases hz4 : e4 = 0
          rotate_left
          · have q1 : (e4 != 0) = true := by simpa using hz4
            have TE := Lib.hid (show T = pr0 e4 by
              have e5 : (minR [(hlP x.p y.p).1] [x.p, y.p]).2 ≠ 0 := by rw [← E4.out]; exact hz4
              have : (tryR x.p y.p).2 = e4 := by unfold tryR; rw [if_neg (by rw [E0.out]; simp), if_pos e5, ← E4.out]
              rw [HK.out, if_pos (by rw [this]; exact hz4), this]; rfl)
            obtain ⟨f0, f1, f2, f3⟩ := X8.out.facts
            clear hz4
            go_wp2_with fail
            obtain ⟨r0, r1, _, _⟩ := (X8.out.put (.int .i64 0) (.slice none 0 0)).facts
            have BE9 := below_put2 (below_on B1.out B6.out) (b := q4) (by have := HQ4.out; omega) (.int .i64 0) (.slice none 0 0)
            refine bodyPost_ret (v := .tuple #[.int .i64 0, .int .i64 0, .agg #[.int .i64 0, .slice none 0 0], .int .i64 e4]) (by simp [results, Tryz.results58, go_sem, r0, r1]) rfl ?_
            exact ⟨BE9, ⟨0, none, 0, []⟩, by rw [TE.out]; rfl, ⟨fun h => absurd rfl h, fun p e => by cases e⟩, by rw [TE.out]; rfl⟩
          have q1 : (e4 != 0) = false := by simp [hz4]
          have TR := Lib.hid (show tryR x.p y.p = (((hlP x.p y.p).1, decide (zn = 0)), 0) by
            unfold tryR
            rw [if_neg (by rw [E0.out]; simp), if_neg (by rw [← E4.out, hz4]; simp), ML.out hz4])
          clear hz4
          by_cases hz0 : zn = 0
          · have q2 : ((zn : Int) == 0) = true := by simp [hz0]
            have TE := Lib.hid (show T = ((i, k, (hlP x.p y.p).1), 0) by rw [HK.out, TR.out]; simp [hz0])
            clear hz0
            go_upto_region 14 with (fail)
            have KS := Lib.hid (show ∀ W, Below we.heap.size we W → (W.cell? ⟨q8, 0, none⟩ = some (.int .i64 h.N) ∧ W.cell? ⟨q8, 1, none⟩ = some (.slice h.a hl h.c)) from fun W h => ⟨(N8.out.kept h).facts.1, (N8.out.kept h).facts.2.1⟩)
            obtain ⟨wc, hwc⟩ : ∃ wc, wc = we.drew := ⟨_, rfl⟩
            have Bc := Lib.hid (show Below we.heap.size we wc by rw [hwc]; exact (Below.refl _ _).drew)
            have NEQ := Lib.hid (show q8 ≠ q4 from NQ.out)
            refine wp_region_held_drew (S := (fun W => (W.cell? ⟨q8, 0, none⟩ = some (.int .i64 h.N) ∧ W.cell? ⟨q8, 1, none⟩ = some (.slice h.a hl h.c)))) (by kernel_rfl) (by rw [← hwc]; exact KS.out _ Bc.out) (fun h0 => ?_)
            rw [← hwc] at h0 ⊢
            clear hwc
            refine tkH (i := 0) (v := ?v36) rfl (Or.inl ⟨by rfl, ?hy36⟩) h0 ?rest36
            case hy36 => (intro w' hS; (try dsimp only at hS); go_simp; try (with_reducible rfl))
            simp only [Act.put, sA, sB, sD, sE, sF]
            refine tkH (i := 1) (v := ?v37) rfl (Or.inl ⟨by rfl, ?hy37⟩) h0 ?rest37
            case hy37 => (intro w' hS; (try dsimp only at hS); go_simp; try (with_reducible rfl))
            simp only [Act.put, sZ]
            refine tkH (i := 2) (v := ?v38) rfl (Or.inl ⟨by rfl, ?hy38⟩) h0 ?rest38
            case hy38 => (intro w' hS; (try dsimp only at hS); go_simp; try (with_reducible rfl))
            simp only [Act.put, sZ]
            refine tkH (i := 3) (v := ?v39) rfl (Or.inl ⟨by rfl, ?hy39⟩) h0 ?rest39
            case hy39 => (intro w' hS; (try dsimp only at hS); go_simp; try (with_reducible rfl))
            simp only [Act.put, sZ]
            refine tkH (i := 4) (v := ?v40) rfl (Or.inl ⟨by rfl, ?hy40⟩) h0 ?rest40
            case hy40 => (intro w' hS; (try dsimp only at hS); go_simp; try (with_reducible rfl))
            simp only [Act.put, sZ]
            refine wpAnyH_ready (rs := [5]) (by kernel_rfl) (by simp) (AllReadyH.cons rfl (fun K hK => ?_) AllReadyH.nil)
            rw [if_pos (by rfl)]
            obtain ⟨s0, s1, s2, s3⟩ := (X8.out.kept Bc.out).facts
            go_simp
            refine hK.out _ _ (by have := ((N8.out.kept Bc.out).aside (y := q4) NEQ.out (.int .i64 h.N) (.slice h.a hl h.c)).facts; exact ⟨this.1, this.2.1⟩) (fun h0_1 => ?_)
            clear hK K h0
            clear s0 s1 s2 s3
            refine tkH (i := 6) (v := ?v41) rfl (Or.inl ⟨by rfl, ?hy41⟩) h0_1 ?rest41
            case hy41 => (intro w' hS; (try dsimp only at hS); go_simp; try (with_reducible rfl))
            simp only [Act.put, sA, sB, sC, sD]
            try simp only [sF]
            try simp only [sE]
            refine wpAnyH_done (by kernel_rfl) ?_ _
            simp only [Exit.then]
            obtain ⟨r0, r1, _, _⟩ := ((X8.out.kept Bc.out).put (.int .i64 h.N) (.slice h.a hl h.c)).facts
            have BE8 := Lib.hid (below_put2 (below_on (below_on B1.out B6.out) Bc.out) (b := q4) (by have := HQ4.out; omega) (.int .i64 h.N) (.slice h.a hl h.c))
            have HZ8 := Lib.hid ((HZ.out.on Bc.out).grown (r := some q4) (grown_put2 wc q4 (.int .i64 h.N) (.slice h.a hl h.c)) (fun p e q => by injection q with q; have := (HZ.out.2 p e).1; have := HQ4.out; omega))
            obtain ⟨wz, hwz⟩ : ∃ wz, wz = (wc.setCell ⟨q4, 0, none⟩ (.int .i64 h.N)).setCell ⟨q4, 1, none⟩ (.slice h.a hl h.c) := ⟨_, rfl⟩
            rw [← hwz] at BE8 HZ8 r0 r1 ⊢
            clear hwz
            go_wp2_with fail
            refine bodyPost_ret (v := .tuple #[.int .i64 i, .int .i64 k, .agg #[.int .i64 h.N, .slice h.a hl h.c], .int .i64 0]) (by simp [results, Tryz.results58, go_sem, r0, r1]) rfl ?_
            exact ⟨BE8.out, h, by rw [TE.out, HHL.out]; rfl, HZ8.out.low (Nat.le_succ _), by rw [TE.out, HP.out]⟩
          · have q2 : ((zn : Int) == 0) = false := by simp [hz0]
            have TE := Lib.hid (show T = (rpK (L.map ZV.p) i g2 (k + 1)).getD (rpI (L.map ZV.p) f2 (i + 1)) by rw [HK.out, TR.out]; simp [hz0])
            clear hz0
            go_wp2_with fail
            go_roundw
            case rel => exact ⟨k + 1, by go_num, by omega, B6, Lib.hid ⟨g2, TE.out, hgn2⟩⟩
            case measure => simp [intOf]; omega
        · have TE := Lib.hid (show ∃ f, T = rpI (L.map ZV.p) f (i + 1) ∧ n - (i + 1) ≤ f from by
            obtain ⟨g, hg, _⟩ := HI.out
            rw [rpK_end (by rw [HLM.out]; exact hkn)] at hg
            exact ⟨f2, hg, hfn2⟩)
          clear HI
          go_wp2_with fail
          go_roundw
          case rel => exact ⟨i + 1, by go_num, by omega, BE, TE⟩
          case measure => simp [intOf]; omega
    · obtain ⟨f, hf, hfn⟩ := HI.out
      have TE := Lib.hid (show T = pr0 0 by rw [hf]; exact rpI_end (by rw [HLM.out]; exact hin))
      have X8 := Lib.hid (X4.out.kept BA.out)
      obtain ⟨f0, f1, f2, f3⟩ := X8.out.facts
      clear HI hf TT
      go_wp2_with fail
      obtain ⟨r0, r1, _, _⟩ := (X8.out.put (.int .i64 0) (.slice none 0 0)).facts
      have BE9 := below_put2 (below_on B1.out BA.out) (b := q4) (by have := HQ4.out; omega) (.int .i64 0) (.slice none 0 0)
      refine bodyPost_ret (v := .tuple #[.int .i64 0, .int .i64 0, .agg #[.int .i64 0, .slice none 0 0], .int .i64 0]) (by simp [results, Tryz.results58, go_sem, r0, r1]) rfl ?_
      exact ⟨BE9, ⟨0, none, 0, []⟩, by rw [TE.out]; rfl, ⟨fun h => absurd rfl h, fun p e => by cases e⟩, by rw [TE.out]; rfl⟩
end Go.Proofs.YtaegiihkgicdnaaGreat
