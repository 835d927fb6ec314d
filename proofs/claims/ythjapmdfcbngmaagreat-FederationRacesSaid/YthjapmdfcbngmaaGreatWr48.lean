/- A part. -/
import Derived.Test.YthjapmdfcbngmaaGreatWr11
import Derived.Test.YthjapmdfcbngmaaGreatWr46
import Derived.Test.YthjapmdfcbngmaaGreatWr30
import Derived.Test.YthjapmdfcbngmaaGreatWr9
import Derived.Test.YthjapmdfcbngmaaGreatWr47
import Derived.Test.YthjapmdfcbngmaaGreatWr42
namespace Go.Proofs.YthjapmdfcbngmaaGreat
set_option maxHeartbeats 8000000
open Go.RowKit
theorem zero_okR : Dl.zero.Ok := ⟨by unfold Dl.zero I64; simp, by unfold Dl.zero I64; simp, by unfold Dl.zero I64; simp, by unfold Dl.zero I64; simp⟩
theorem st_okR (N : Int) (l : List Int) (ps : List Pq) : (stR N l ps).1.Ok := by
 unfold stR
 split
 · exact zero_okR
 · unfold syV
   split
   · exact zero_okR
   · split
     · exact zero_okR
     · split
       · exact zero_okR
       · exact sy_ok _ _ _ _
theorem below_put7 {X w : World} {n b : Nat} (h : Below n X w) (hb : n ≤ b) (y : Dl) : Below n X (((((((w.setCell ⟨b, 0, none⟩ (.int .i64 y.ln)).setCell ⟨b, 1, none⟩ (.int .i64 y.ld)).setCell ⟨b, 2, none⟩ (.int .i64 y.hn)).setCell ⟨b, 3, none⟩ (.int .i64 y.hd)).setCell ⟨b, 4, none⟩ (.bool y.lo)).setCell ⟨b, 5, none⟩ (.bool y.ho)).setCell ⟨b, 6, none⟩ (.bool y.nh)) :=
 ((((((h.setCell (p := ⟨b, 0, none⟩) hb _).setCell (p := ⟨b, 1, none⟩) hb _).setCell (p := ⟨b, 2, none⟩) hb _).setCell (p := ⟨b, 3, none⟩) hb _).setCell (p := ⟨b, 4, none⟩) hb _).setCell (p := ⟨b, 5, none⟩) hb _).setCell (p := ⟨b, 6, none⟩) hb _
def ckE (n d m c : Int) : Int := if vldB n d && vldB m c then 0 else 2
def unS (s : Dl × Int) (dn dd : Int) (rest : Bool × Bool) : Bool × Bool :=
 if s.2 = 4 then rest else if s.2 ≠ 0 then (false, false) else if ckE dn dd s.1.ln s.1.ld ≠ 0 then (false, false)
 else if 0 < cmK dn dd s.1.ln s.1.ld ∨ (cmK dn dd s.1.ln s.1.ld = 0 ∧ s.1.lo = false) then (false, true) else rest
def unR (ps : List Pq) (dn dd : Int) : List Zp → Bool × Bool
 | [] => (true, true)
 | z :: r => unS (stR z.1 z.2 ps) dn dd (unR ps dn dd r)
theorem unR_drop {ps : List Pq} {dn dd : Int} {L : List Zp} {i : Nat} (h : i < L.length) : unR ps dn dd (L.drop i) = unS (stR L[i].1 L[i].2 ps) dn dd (unR ps dn dd (L.drop (i + 1))) := by
 rw [List.drop_eq_getElem_cons h]; rfl
theorem unR_end {ps : List Pq} {dn dd : Int} {L : List Zp} {i : Nat} (h : L.length ≤ i) : unR ps dn dd (L.drop i) = (true, true) := by
 rw [List.drop_eq_nil_of_le h]; rfl
theorem cmK_three (n d m c : Int) : cmK n d m c = -1 ∨ cmK n d m c = 0 ∨ cmK n d m c = 1 := by
 unfold cmK sgn
 split
 · split
   · exact Or.inl rfl
   · split
     · exact Or.inr (Or.inr rfl)
     · exact Or.inr (Or.inl rfl)
 · exact Or.inr (Or.inl rfl)
set_option maxRecDepth 100000 in
theorem luh_any (L : List ZV) (go : Option Addr) (gc : Nat) (ps : List Pq) (po : Option Addr) (pc : Nat) (dn dd : Int) (w : World) (hL : RdZ 0 w go L) (hl : L.length ≤ 1000000) (hP : Arg2 w po ps) (hI : Fits ps) (hdn : I64 dn) (hdd : I64 dd) :
  Calls Tryz.prog 34 #[.slice go L.length gc, .agg #[.slice po ps.length pc, .int .i64 dn, .int .i64 dd]] w (Made (.tuple #[.bool (unR ps dn dd (L.map ZV.p)).1, .bool (unR ps dn dd (L.map ZV.p)).2]) w) := by
 obtain ⟨T, hT⟩ : ∃ T, T = unR ps dn dd (L.map ZV.p) := ⟨_, rfl⟩
 rw [← hT]
 obtain ⟨n, hn⟩ : ∃ n, n = L.length := ⟨_, rfl⟩
 obtain ⟨pn, hpn⟩ : ∃ pn, pn = ps.length := ⟨_, rfl⟩
 have HN := Lib.hid hn
 have HPN := Lib.hid hpn
 have TT := Lib.hid hT
 have RL := Lib.hid hL
 have PP := Lib.hid hP
 have PI := Lib.hid hI
 have DN := Lib.hid hdn
 have DD := Lib.hid hdd
 have nle : n ≤ 1000000 := by omega
 rw [← hn, ← hpn]
 obtain ⟨w1, hw1⟩ : ∃ w1, w1 = w.alloc (.cells #[.slice po pn pc, .int .i64 dn, .int .i64 dd] 47) := ⟨_, rfl⟩
 have B1 := Lib.hid (show Below w.heap.size w w1 by rw [hw1]; exact one_more _)
 have X3 := Lib.hid (show Bx w1 w.heap.size #[.slice po pn pc, .int .i64 dn, .int .i64 dd] by rw [hw1]; exact Bx.made w _ _)
 obtain ⟨q3, hq3⟩ : ∃ q3, q3 = w.heap.size := ⟨_, rfl⟩
 clear hT hL hl hP hI hdn hdd hn hpn
 go_enter Tryz.func34, Tryz.ntmps34
 go_wp2_with fail
 rw [← hw1]
 rw [← hq3] at X3 ⊢
 clear hw1 hq3
 go_loopw [6] (fun s wr => ∃ i : Nat, s = .int .i64 i ∧ i ≤ n ∧ Hid (Below w1.heap.size w1 wr) ∧ Hid (T = unR ps dn dd ((L.map ZV.p).drop i))) (fun s _ => n - (intOf s).toNat)
 case atStart => exact ⟨0, rfl, by omega, Lib.hid (Below.refl _ _), TT⟩
 case round =>
  generalize wr = wo at *
  obtain ⟨i, rfl, hi, BE, HI⟩ := hrel
  by_cases hin : i < n
  · obtain ⟨x, hx⟩ : ∃ x, x = L[i]'(by have := HN.out; omega) := ⟨_, rfl⟩
    have XZ := Lib.hid (show ZAt 0 w1 x from (RL.out.on B1.out).el x (by rw [hx]; exact List.getElem_mem _))
    obtain ⟨b, eb, h0, h1⟩ := (RL.out.on B1.out).hd i (by have := HN.out; omega)
    rw [← hx] at h0 h1
    have HK := Lib.hid (show T = unS (stR x.N x.l ps) dn dd (unR ps dn dd ((L.map ZV.p).drop (i + 1))) by
     rw [HI.out, unR_drop (by have := HN.out; simp; omega), hx]
     simp [ZV.p])
    have ST := Lib.hid (show ∀ W, Below w1.heap.size w1 W → Calls Tryz.prog 77 #[.agg #[.int .i64 x.N, .slice x.a x.l.length x.c], .slice po pn pc] W (Made (.tuple #[.agg (stR x.N x.l ps).1.cs, .int .i64 (stR x.N x.l ps).2]) W) from fun W h => by
     rw [HPN.out]
     exact rstay_gen x.N x.l x.a x.c ps po pc W ((XZ.out.on h).1) ((PP.out.on B1.out).on h) PI.out)
    have OK := Lib.hid (st_okR x.N x.l ps)
    obtain ⟨xl, hxl⟩ : ∃ xl, xl = x.l.length := ⟨_, rfl⟩
    rw [← hxl] at h1 ST
    have G0 := Lib.hid h0
    have G1 := Lib.hid h1
    obtain ⟨d, hd⟩ : ∃ d, d = (stR x.N x.l ps).1 := ⟨_, rfl⟩
    obtain ⟨se, hse⟩ : ∃ se, se = (stR x.N x.l ps).2 := ⟨_, rfl⟩
    rw [← hd, ← hse] at ST
    rw [← hd] at OK
    have HK := Lib.hid (show T = unS (d, se) dn dd (unR ps dn dd ((L.map ZV.p).drop (i + 1))) by rw [hd, hse]; exact HK.out)
    clear hx h0 h1 hxl HI hd hse
    subst eb
    go_upto_region 4 with (fail)
    go_cut [7, 8] from 52 (fun s7 s8 wx => ∃ q7 : Nat, s7 = .pointer (some ⟨q7, 0, none⟩) ∧ s8 = .int .i64 se ∧ Hid (Below wo.heap.size wo wx) ∧ Hid (Dbx wx q7 d))
    case first =>
     rename_i J0 K0 hJ0 hK0
     have KS := Lib.hid (show ∀ W, Below wo.heap.size wo W → (W.cell? (b.add (i * 2)) = some (.int .i64 x.N) ∧ W.cell? ⟨(b.add (i * 2)).block, (b.add (i * 2)).off + 1, none⟩ = some (.slice x.a xl x.c) ∧ W.cell? ⟨q3, 0, none⟩ = some (.slice po pn pc)) from fun W h => ⟨kept (below_on BE.out h) G0.out, kept (below_on BE.out h) G1.out, (X3.out.kept (below_on BE.out h)).cell 0⟩)
     obtain ⟨wc, hwc⟩ : ∃ wc, wc = wo.drew := ⟨_, rfl⟩
     have Bc := Lib.hid (show Below wo.heap.size wo wc by rw [hwc]; exact (Below.refl _ _).drew)
     refine wp_region_held_drew (S := (fun W => (W.cell? (b.add (i * 2)) = some (.int .i64 x.N) ∧ W.cell? ⟨(b.add (i * 2)).block, (b.add (i * 2)).off + 1, none⟩ = some (.slice x.a xl x.c) ∧ W.cell? ⟨q3, 0, none⟩ = some (.slice po pn pc)))) (by kernel_rfl) (by rw [← hwc]; exact KS.out _ Bc.out) (fun h0 => ?_)
     rw [← hwc] at h0 ⊢
     clear hwc
     refine tkI (i := 0) rfl h0 ?_
     simp only [Act.put, sA, sB, sD, sE, sF]
     refine tkI (i := 1) rfl h0 ?_
     simp only [Act.put, sZ]
     refine tkI (i := 2) rfl h0 ?_
     simp only [Act.put, sZ]
     refine tkI (i := 3) rfl h0 ?_
     simp only [Act.put, sZ]
     refine tkI (i := 4) rfl h0 ?_
     simp only [Act.put, sZ]
     refine tkI (i := 5) rfl h0 ?_
     simp only [Act.put, sZ]
     refine wpAnyH_ready (rs := [6, 10]) (by kernel_rfl) (by simp) (AllReadyH.cons rfl (fun K hK => ?_) (AllReadyH.cons rfl (fun K hK => ?_) AllReadyH.nil))
     · rw [if_pos (by rfl)]
       go_simp
       refine (ST.out wc (below_on BE.out Bc.out)).mono ?_
       rintro e wd ⟨rfl, hb⟩
       try (have N8 := Lib.hid (N8.out.kept hb))
       have Bc := Lib.hid (below_on Bc.out hb)
       clear hb
       obtain ⟨wc, hwc⟩ : ∃ wc, wc = wd := ⟨_, rfl⟩
       rw [← hwc] at Bc ⊢
       try rw [← hwc] at N8
       clear hwc
       unfold Dl.cs
       go_simp
       refine hK.out _ _ (KS.out _ Bc.out) (fun h0_1 => ?_)
       clear hK K h0
       refine tkI (i := 7) rfl h0_1 ?_
       simp only [Act.put, sZ]
       refine tkI (i := 8) rfl h0_1 ?_
       simp only [Act.put, sZ]
       refine tkI (i := 9) rfl h0_1 ?_
       simp only [Act.put, sZ]
       refine wpAnyH_ready (rs := [10]) (by kernel_rfl) (by simp) (AllReadyH.cons rfl (fun K hK => ?_) AllReadyH.nil)
       rw [if_pos (by rfl)]
       go_simp
       have hb := one_more (w1 := wc) (.cells #[.int .i64 0, .int .i64 0, .int .i64 0, .int .i64 0, .bool false, .bool false, .bool false] 86)
       have hP := (show Dbx (wc.alloc (.cells #[.int .i64 0, .int .i64 0, .int .i64 0, .int .i64 0, .bool false, .bool false, .bool false] 86)) wc.heap.size Dl.zero from Drow.made wc Dl.zero.cs)
       have hz := Bc.out.size
       obtain ⟨q7, hbb⟩ : ∃ b, b = wc.heap.size := ⟨_, rfl⟩
       rw [← hbb] at hP hz
       obtain ⟨wn, hwn⟩ : ∃ wn, wn = wc.alloc (.cells #[.int .i64 0, .int .i64 0, .int .i64 0, .int .i64 0, .bool false, .bool false, .bool false] 86) := ⟨_, rfl⟩
       rw [← hwn] at hb hP ⊢
       try rw [← hbb]
       have Bc := Lib.hid (below_on Bc.out hb)
       have N8 := Lib.hid hP
       have Zq7 := Lib.hid hz
       clear hb hP hz hbb hwn
       obtain ⟨wc, hwc⟩ : ∃ wc, wc = wn := ⟨_, rfl⟩
       rw [← hwc] at Bc N8 ⊢
       clear hwc
       go_simp
       refine hK.out _ _ (KS.out _ Bc.out) (fun h0_2 => ?_)
       clear hK K h0_1
       refine wpAnyH_ready (rs := [11]) (by kernel_rfl) (by simp) (AllReadyH.cons rfl (fun K hK => ?_) AllReadyH.nil)
       rw [if_pos (by rfl)]
       go_simp
       obtain ⟨s0, s1, s2, s3, s4, s5, s6⟩ := N8.out.facts
       obtain ⟨r0, r1, r2, r3, r4, r5, r6⟩ := N8.out.frees
       go_simp
       refine hK.out _ _ (KS.out _ (below_put7 Bc.out Zq7.out d)) (fun h0_3 => ?_)
       clear hK K h0_2
       clear s0 s1 s2 s3 s4 s5 s6 r0 r1 r2 r3 r4 r5 r6
       refine tkI (i := 12) rfl h0_3 ?_
       simp only [Act.put, sA, sB, sC, sD]
       try simp only [sF]
       try simp only [sE]
       refine wpAnyH_done (by kernel_rfl) ?_ _
       have N9 := N8.out.all d
       have D9 := below_put7 Bc.out Zq7.out d
       simp only [Exit.then]
       refine hK0 _ _ (Met.intro (hJ0 _ _ ?_))
       (repeat apply Exists.intro)
       refine ⟨?rel, rfl⟩
       case rel => exact ⟨q7, rfl, rfl, Lib.hid D9, Lib.hid N9⟩
     · rw [if_pos (by rfl)]
       go_simp
       have hb := one_more (w1 := wc) (.cells #[.int .i64 0, .int .i64 0, .int .i64 0, .int .i64 0, .bool false, .bool false, .bool false] 86)
       have hP := (show Dbx (wc.alloc (.cells #[.int .i64 0, .int .i64 0, .int .i64 0, .int .i64 0, .bool false, .bool false, .bool false] 86)) wc.heap.size Dl.zero from Drow.made wc Dl.zero.cs)
       have hz := Bc.out.size
       obtain ⟨q7, hbb⟩ : ∃ b, b = wc.heap.size := ⟨_, rfl⟩
       rw [← hbb] at hP hz
       obtain ⟨wn, hwn⟩ : ∃ wn, wn = wc.alloc (.cells #[.int .i64 0, .int .i64 0, .int .i64 0, .int .i64 0, .bool false, .bool false, .bool false] 86) := ⟨_, rfl⟩
       rw [← hwn] at hb hP ⊢
       try rw [← hbb]
       have Bc := Lib.hid (below_on Bc.out hb)
       have N8 := Lib.hid hP
       have Zq7 := Lib.hid hz
       clear hb hP hz hbb hwn
       obtain ⟨wc, hwc⟩ : ∃ wc, wc = wn := ⟨_, rfl⟩
       rw [← hwc] at Bc N8 ⊢
       clear hwc
       go_simp
       refine hK.out _ _ (KS.out _ Bc.out) (fun h0_1 => ?_)
       clear hK K h0
       refine wpAnyH_ready (rs := [6]) (by kernel_rfl) (by simp) (AllReadyH.cons rfl (fun K hK => ?_) AllReadyH.nil)
       rw [if_pos (by rfl)]
       go_simp
       refine (ST.out wc (below_on BE.out Bc.out)).mono ?_
       rintro e wd ⟨rfl, hb⟩
       try (have N8 := Lib.hid (N8.out.kept hb))
       have Bc := Lib.hid (below_on Bc.out hb)
       clear hb
       obtain ⟨wc, hwc⟩ : ∃ wc, wc = wd := ⟨_, rfl⟩
       rw [← hwc] at Bc ⊢
       try rw [← hwc] at N8
       clear hwc
       unfold Dl.cs
       go_simp
       refine hK.out _ _ (KS.out _ Bc.out) (fun h0_4 => ?_)
       clear hK K h0_1
       refine tkI (i := 7) rfl h0_4 ?_
       simp only [Act.put, sZ]
       refine tkI (i := 8) rfl h0_4 ?_
       simp only [Act.put, sZ]
       refine tkI (i := 9) rfl h0_4 ?_
       simp only [Act.put, sZ]
       refine wpAnyH_ready (rs := [11]) (by kernel_rfl) (by simp) (AllReadyH.cons rfl (fun K hK => ?_) AllReadyH.nil)
       rw [if_pos (by rfl)]
       go_simp
       obtain ⟨s0, s1, s2, s3, s4, s5, s6⟩ := N8.out.facts
       obtain ⟨r0, r1, r2, r3, r4, r5, r6⟩ := N8.out.frees
       go_simp
       refine hK.out _ _ (KS.out _ (below_put7 Bc.out Zq7.out d)) (fun h0_5 => ?_)
       clear hK K h0_4
       clear s0 s1 s2 s3 s4 s5 s6 r0 r1 r2 r3 r4 r5 r6
       refine tkI (i := 12) rfl h0_5 ?_
       simp only [Act.put, sA, sB, sC, sD]
       try simp only [sF]
       try simp only [sE]
       refine wpAnyH_done (by kernel_rfl) ?_ _
       have N9 := N8.out.all d
       have D9 := below_put7 Bc.out Zq7.out d
       simp only [Exit.then]
       refine hK0 _ _ (Met.intro (hJ0 _ _ ?_))
       (repeat apply Exists.intro)
       refine ⟨?rel, rfl⟩
       case rel => exact ⟨q7, rfl, rfl, Lib.hid D9, Lib.hid N9⟩
    generalize wc = wd at *
    obtain ⟨q7, rfl, rfl, D5, N8⟩ := hcut
    have B5 := Lib.hid (below_on BE.out D5.out)
    by_cases s4 : se = 4
    · have TE := Lib.hid (show T = unR ps dn dd ((L.map ZV.p).drop (i + 1)) by rw [HK.out]; unfold unS; rw [if_pos s4])
      subst s4
      clear HK ST
      go_wp2_with fail
      go_roundw
      case rel => exact ⟨i + 1, by go_num, by omega, B5, TE⟩
      case measure => simp [intOf]; omega
    have f4 : (se == 4) = false := by simp [s4]
    by_cases s0 : se = 0
    rotate_left
    · have f0 : (se != 0) = true := by simp [s0]
      have TE := Lib.hid (show T = (false, false) by rw [HK.out]; unfold unS; rw [if_neg s4, if_pos s0])
      clear HK ST s4 s0
      go_wp2_with fail
      go_ret2
      exact ⟨by rw [TE.out]; rfl, below_on B1.out B5.out⟩
    have f0 : (se != 0) = false := by simp [s0]
    have HK := Lib.hid (show T = if ckE dn dd d.ln d.ld ≠ 0 then (false, false) else if 0 < cmK dn dd d.ln d.ld ∨ (cmK dn dd d.ln d.ld = 0 ∧ d.lo = false) then (false, true) else unR ps dn dd ((L.map ZV.p).drop (i + 1)) by
     rw [HK.out]; unfold unS; rw [if_neg s4, if_neg (by simp [s0])])
    clear s4 s0 ST
    have CP := Lib.hid (show ∀ W, Calls Tryz.prog 78 #[.agg #[.int .i64 dn, .int .i64 dd], .agg #[.int .i64 d.ln, .int .i64 d.ld]] W (Made (.tuple #[.int .i64 (cmK dn dd d.ln d.ld), .int .i64 (ckE dn dd d.ln d.ld)]) W) from fun W => refCmp_any dn dd d.ln d.ld W DN.out DD.out OK.out.1 OK.out.2.1)
    obtain ⟨K, hK⟩ : ∃ K, K = cmK dn dd d.ln d.ld := ⟨_, rfl⟩
    obtain ⟨E, hE⟩ : ∃ E, E = ckE dn dd d.ln d.ld := ⟨_, rfl⟩
    have K3 := cmK_three dn dd d.ln d.ld
    rw [← hK] at K3
    rw [← hK, ← hE] at CP HK
    clear hK hE
    obtain ⟨g0, g1, _, _, g4, _, _⟩ := N8.out.facts
    have x1 := (X3.out.kept B5.out).cell 1
    have x2 := (X3.out.kept B5.out).cell 2
    simp only [List.getElem?_toArray, List.getElem?_cons_succ, List.getElem?_cons_zero] at x1 x2
    go_wp2_with fail
    refine (CP.out wd).mono ?_
    rintro e w6 ⟨rfl, hb⟩
    have B6 := Lib.hid (below_on B5.out hb)
    have N8 := Lib.hid (N8.out.kept hb)
    clear hb CP x1 x2 g0 g1 g4
    by_cases e0 : E = 0
    rotate_left
    · have q0 : (E != 0) = true := by simp [e0]
      have TE := Lib.hid (show T = (false, false) by rw [HK.out, if_pos e0])
      clear HK e0
      go_wp2_with fail
      go_ret2
      exact ⟨by rw [TE.out]; rfl, below_on B1.out B6.out⟩
    have q0 : (E != 0) = false := by simp [e0]
    have HK := Lib.hid (show T = if 0 < K ∨ (K = 0 ∧ d.lo = false) then (false, true) else unR ps dn dd ((L.map ZV.p).drop (i + 1)) by rw [HK.out, if_neg (by simp [e0])])
    clear e0
    obtain ⟨_, _, _, _, g4, _, _⟩ := N8.out.facts
    obtain ⟨lo, hlo⟩ : ∃ lo, lo = d.lo := ⟨_, rfl⟩
    rw [← hlo] at g4 HK
    clear hlo
    rcases K3 with rfl | rfl | rfl
    · have TE := Lib.hid (show T = unR ps dn dd ((L.map ZV.p).drop (i + 1)) by rw [HK.out]; simp)
      clear HK
      go_wp2_with fail
      go_roundw
      case rel => exact ⟨i + 1, by go_num, by omega, B6, TE⟩
      case measure => simp [intOf]; omega
    · cases lo with
      | true =>
       have TE := Lib.hid (show T = unR ps dn dd ((L.map ZV.p).drop (i + 1)) by rw [HK.out]; simp)
       clear HK
       go_wp2_with fail
       go_roundw
       case rel => exact ⟨i + 1, by go_num, by omega, B6, TE⟩
       case measure => simp [intOf]; omega
      | false =>
       have TE := Lib.hid (show T = (false, true) by rw [HK.out]; simp)
       clear HK
       go_wp2_with fail
       go_ret2
       exact ⟨by rw [TE.out]; rfl, below_on B1.out B6.out⟩
    · have TE := Lib.hid (show T = (false, true) by rw [HK.out]; simp)
      clear HK
      go_wp2_with fail
      go_ret2
      exact ⟨by rw [TE.out]; rfl, below_on B1.out B6.out⟩
  · have TE := Lib.hid (show T = (true, true) by rw [HI.out]; exact unR_end (by have := HN.out; simp; omega))
    clear HI TT
    go_wp2_with fail
    go_ret2
    exact ⟨by rw [TE.out]; rfl, below_on B1.out BE.out⟩
theorem hs_ck {n : Nat} {ps : List Pq} {L : List Zp} (h : (hsF ps L).2 = 0) (hn : ps.length = n) : rchk L = 0 ∧ Ck (n : Int) L := by
 obtain ⟨c, f⟩ := hsF_chk h
 obtain ⟨_, k⟩ := rchk_ck c
 refine ⟨c, ?_⟩
 cases L with
 | nil => exact Ck.nil _
 | cons y s =>
  have ry := f y s rfl
  have : y.1 = (n : Int) := by
   unfold rdE at ry
   split at ry
   · rename_i q
     rw [← q.2.1, hn]
   · cases ry
  rw [← this]
  exact k
theorem eaS_cons {z : Zp} {r : List Zp} (q : (eaS dnP (z :: r)).2 = 0) : (dnP z).2 = 0 ∧ ∃ s, (eaS dnP (z :: r)).1 = (dnP z).1 :: s := by
 unfold eaS at q ⊢
 unfold flatS at q ⊢
 obtain ⟨q1, q2⟩ := seqA_ok q
 have e : (dnP z).2 = 0 := by
  unfold oneS at q1
  by_cases h : (dnP z).2 = 0
  · exact h
  · rw [if_neg h] at q1; exact absurd q1 h
 refine ⟨e, (flatS (fun x => oneS (dnP x)) r).1, ?_⟩
 rw [seqA_of q1]
 unfold oneS
 rw [if_pos e]
 rfl
structure RcM (n : Nat) (D : Int) (X : Nat → Int) (ps : List Pq) (L M : List Zp) : Prop where
 hn : ps.length = n
 hp : Zo.Pt n D X 2147483647
 ho : Ov D X ps
 hr : ∀ l, chkE n l = 0 → rdE n l ps = 0
 kl : Ck (n : Int) L
 km : Ck (n : Int) M
theorem rc_of {ps : List Pq} {L M : List Zp} (hg : chkG [L, M] = 0) (hne : L ≠ []) (q : (eaS dnP L).2 = 0) (e : (hsF ps (eaS dnP L).1).2 = 0) : ∃ n D X, RcM n D X ps L M := by
 have hl : ¬ (2000 < L.length ∨ 2000 < M.length) := fun q => by rw [chkG_long q] at hg; cases hg
 rw [chkG_short hl] at hg
 have k := ckL_iff.1 hg
 cases L with
 | nil => exact absurd rfl hne
 | cons z r =>
  have hN : ∀ y ∈ (z :: r) ++ M, Ok1 z.1 y := fun y hy => k y hy
  have hz := hN z (by simp)
  obtain ⟨n, e0, ez, vz⟩ := hz.vz
  obtain ⟨qz, s, es⟩ := eaS_cons q
  obtain ⟨_, f⟩ := hsF_chk e
  have rz := f _ _ es
  have oz := (dn_ok hz).2 qz
  have c1 : chkE (n : Int) (dnP z).1.2 = 0 := by rw [← e0, ← oz.2]; exact oz.1
  have rn : rdE n (dnP z).1.2 ps = 0 := by rw [oz.2, e0] at rz; exact rz
  obtain ⟨_, p2, p3, _⟩ := rd_parts rn
  rw [e0] at hN
  exact ⟨n, _, _, p2, (ov_of p3).pt p2 p3, ov_of p3, fun l h => by rw [rdE_other h c1]; exact rn, fun y hy => hN y (List.mem_append_left _ hy), fun y hy => hN y (List.mem_append_right _ hy)⟩
theorem bool_ofR {a : Bool} {P : Prop} (h : a = true ↔ P) (b : Bool) (k : b = true ↔ P) : a = b := by
 cases a <;> cases b <;> simp_all
section
variable {n : Nat} {D : Int} {X : Nat → Int} {ps : List Pq} {L M : List Zp}
theorem rc_in (h : RcM n D X ps L M) {A : List Zp} (e : (hsF ps A).2 = 0) : (hsF ps A).1 = true ↔ AnyZ n D X A := by
 obtain ⟨c, k⟩ := hs_ck e h.hn
 exact (hsF_in h.ho h.hr c k).2
theorem rc_not (h : RcM n D X ps L M) (qw : (wiS L M).2 = 0) (qd : (eaS dnP L).2 = 0) (eW : (hsF ps (wiS L M).1).2 = 0) (eD : (hsF ps (eaS dnP L).1).2 = 0) (eM : (hsF ps M).2 = 0) (i : (hsF ps (wiS L M).1).1 = true) : (hsF ps M).1 = false ∧ (hsF ps (eaS dnP L).1).1 = true := by
 obtain ⟨a, b⟩ := wi_not h.hp h.kl h.km qw ((rc_in h eW).1 i)
 refine ⟨?_, (rc_in h eD).2 ((any_dn h.hp (by omega) h.kl qd).2 a)⟩
 cases c : (hsF ps M).1
 · rfl
 · exact absurd ((rc_in h eM).1 c) b
theorem rc_none (h : RcM n D X ps L []) (qw : (wiS L []).2 = 0) (qd : (eaS dnP L).2 = 0) (eW : (hsF ps (wiS L []).1).2 = 0) (eD : (hsF ps (eaS dnP L).1).2 = 0) : (hsF ps (wiS L []).1).1 = (hsF ps (eaS dnP L).1).1 := by
 have hw : Zo.Pt n D X 1099511627776 := pt_more h.hp (by omega)
 refine bool_ofR ((rc_in h eW).trans ((wi_sem h.kl h.km qw).2 D X hw)) _ ((rc_in h eD).trans ((any_dn h.hp (by omega) h.kl qd).trans ?_))
 exact ⟨fun ⟨y, hy, d⟩ => ⟨y, hy, d, fun b hb => by simp at hb⟩, fun ⟨y, hy, d, _⟩ => ⟨y, hy, d⟩⟩
theorem unR_all {dn dd : Int} : ∀ {M : List Zp}, unR ps dn dd M = (true, true) → ∀ b ∈ M, Unh b ps dn dd
 | [], _, b, h => by simp at h
 | z :: r, q, b, h => by
  unfold unR unS at q
  have key : Unh z ps dn dd ∧ unR ps dn dd r = (true, true) := by
   by_cases h4 : (stR z.1 z.2 ps).2 = 4
   · rw [if_pos h4] at q
     exact ⟨Or.inl h4, q⟩
   · rw [if_neg h4] at q
     by_cases h0 : (stR z.1 z.2 ps).2 = 0
     · rw [if_neg (by simp [h0])] at q
       by_cases hk : ckE dn dd (stR z.1 z.2 ps).1.ln (stR z.1 z.2 ps).1.ld = 0
       · rw [if_neg (by simp [hk])] at q
         have hv : (vldB dn dd && vldB (stR z.1 z.2 ps).1.ln (stR z.1 z.2 ps).1.ld) = true := by
          unfold ckE at hk
          by_cases v : (vldB dn dd && vldB (stR z.1 z.2 ps).1.ln (stR z.1 z.2 ps).1.ld) = true
          · exact v
          · rw [if_neg v] at hk; cases hk
         split at q
         · cases q
         · rename_i g
           refine ⟨Or.inr ⟨h0, ?_⟩, q⟩
           unfold cmK at g
           rw [if_pos hv] at g
           unfold sgn at g
           by_cases a : dn * (stR z.1 z.2 ps).1.ld < (stR z.1 z.2 ps).1.ln * dd
           · exact Or.inl a
           · rw [if_neg a] at g
             by_cases c : (stR z.1 z.2 ps).1.ln * dd < dn * (stR z.1 z.2 ps).1.ld
             · rw [if_pos c] at g
               exact absurd (Or.inl (by omega)) g
             · rw [if_neg c] at g
               refine Or.inr ⟨by omega, ?_⟩
               cases lo : (stR z.1 z.2 ps).1.lo
               · exact absurd (Or.inr ⟨rfl, lo⟩) g
               · rfl
       · rw [if_pos hk] at q; cases q
     · rw [if_pos h0] at q; cases q
  rcases List.mem_cons.1 h with rfl | h
  · exact key.1
  · exact unR_all key.2 b h
theorem rc_yes (h : RcM n D X ps L M) (hne : L ≠ []) {dn dd : Int} (qw : (wiS L M).2 = 0) (eW : (hsF ps (wiS L M).1).2 = 0) (hu : unR ps dn dd M = (true, true)) (ha : ArOk ps dn dd L) : (hsF ps (wiS L M).1).1 = true := by
 obtain ⟨hd, h0, hx, hq⟩ := ha
 have pd := vld_pos hd
 obtain ⟨qs, hqs⟩ : ∃ qs, qs = ps.map (adV dn dd) := ⟨_, rfl⟩
 have ql : qs.length = ps.length := by rw [hqs, List.length_map]
 rw [← hqs] at hq
 have hq2 : (hsF qs L).2 = 0 := by rw [hq]
 have hq1 : (hsF qs L).1 = true := by rw [hq]
 obtain ⟨cl, _⟩ := hs_ck hq2 (ql.trans h.hn)
 obtain ⟨_, f⟩ := hsF_chk hq2
 have hz : ∃ z r, L = z :: r := by
  cases L with
  | nil => exact absurd rfl hne
  | cons z r => exact ⟨z, r, rfl⟩
 obtain ⟨z, r, rfl⟩ := hz
 have oz := h.kl z (List.mem_cons_self ..)
 have rz : rdE n z.2 qs = 0 := by have := f z r rfl; rw [oz.2] at this; exact this
 have cz : chkE n z.2 = 0 := by rw [← oz.2]; exact oz.1
 obtain ⟨_, q2, q3, _⟩ := rd_parts rz
 obtain ⟨_, _, hv, _⟩ := rd_parts (h.hr _ cz)
 have ho := h.ho.scale (show 0 < dd by omega)
 have hQ : Ov (D * dd) (dly (fun i => X i * dd) (dn * D)) qs := by
  refine ⟨ho.pos, fun i hi => ?_⟩
  show (if i = 0 then 0 else X i * dd + dn * D) * (clk qs i).2 = (clk qs i).1 * (D * dd)
  by_cases zi : i = 0
  · subst zi; simp [clk]
  · rw [if_neg zi]
    have e1 := h.ho.val i (by omega)
    have e2 : clk ps i = gp ps (i - 1) := by unfold clk; rw [if_neg zi]
    have e3 : clk qs i = gp qs (i - 1) := by unfold clk; rw [if_neg zi]
    have a1 : gp qs (i - 1) = adV dn dd (gp ps (i - 1)) := by rw [hqs]; exact adV_gp (by omega)
    have a2 := hx (i - 1) (by omega)
    have pv1 := (clk_vld hv (i := i) (by omega)).1
    have pv := vld_pos pv1
    rw [e2] at e1 pv pv1
    rw [e3, a1]
    unfold adX opErr at a2
    rw [pv1, hd] at a2
    simp only [Bool.and_self, if_true] at a2
    obtain ⟨_, _, a3⟩ := mk_ok a2
    unfold adV opNum opDen
    rw [pv1, hd]
    simp only [Bool.and_self, if_true]
    generalize mkDen ((gp ps (i - 1)).1 * dd + dn * (gp ps (i - 1)).2) ((gp ps (i - 1)).2 * dd) = qd at *
    generalize mkNum ((gp ps (i - 1)).1 * dd + dn * (gp ps (i - 1)).2) ((gp ps (i - 1)).2 * dd) = qn at *
    generalize (gp ps (i - 1)).1 = pn at *
    generalize (gp ps (i - 1)).2 = pd2 at *
    generalize X i = x at *
    have key : (x * dd + dn * D) * qd * pd2 = qn * (D * dd) * pd2 := by
     grind
    exact Int.eq_of_mul_eq_mul_right (by omega) key
 have hrq : ∀ l, chkE n l = 0 → rdE n l qs = 0 := fun l hl => by rw [rdE_other hl cz]; exact rz
 have pq := hQ.pt q2 q3
 have px := ho.pt h.hn hv
 have i1 := (hsF_in hQ hrq cl h.kl).2.1 hq1
 have key := wi_yes px pq (Int.mul_nonneg h0 (by have := h.hp.pos; omega)) h.kl h.km qw i1 (fun b hb k Z hk hZ hi => by
  have ob := h.km b hb
  have cb : chkE n b.2 = 0 := by rw [← ob.2]; exact ob.1
  exact safe_of ob (h.hr _ cb) h.ho hd (unR_all hu b hb) k Z hk hZ hi)
 obtain ⟨c, k⟩ := hs_ck eW h.hn
 exact (hsF_in ho h.hr c k).2.2 key
end
end Go.Proofs.YthjapmdfcbngmaaGreat
