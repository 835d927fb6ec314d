/- Meet of layer 5's reference. -/
import Derived.Test.YtaegiihkgicdnaaGreatWs9
import Derived.Test.YtaegiihkgicdnaaGreatWs34
import Derived.Test.YtaegiihkgicdnaaGreatWs32
import Derived.Test.YtaegiihkgicdnaaGreatWs30

namespace Go.Proofs.YtaegiihkgicdnaaGreat
open Go.RowKit

def RfRes (r : List Zp × Int) (w : World) (e : Ending) (w' : World) : Prop :=
  Below w.heap.size w w' ∧ ∃ ao cap L, e = .returned (.tuple #[.slice ao L.length cap, .int .i64 r.2]) ∧ OwnZ w.heap.size 0 w' (.slice ao L.length cap) L ∧ L.map ZV.p = (if r.2 = 0 then r.1 else []) ∧ L.length ≤ 2001

def RfNew (r : List Zp × Int) (w : World) (e : Ending) (w' : World) : Prop :=
  Below w.heap.size w w' ∧ ∃ ao cap L, e = .returned (.tuple #[.slice ao L.length cap, .int .i64 r.2]) ∧ OwnZ w.heap.size w.heap.size w' (.slice ao L.length cap) L ∧ L.map ZV.p = (if r.2 = 0 then r.1 else []) ∧ L.length ≤ 2001

theorem Mk.made (w : World) {N : Nat → Prop} : Mk w.heap.size w.heap.size (fun k => k < w.heap.size) N (w.alloc (.cells #[.slice none 0 0, .int .i64 0] 62)) ([], 0) :=
  ⟨.slice none 0 0, [], Bx2.made w _ _ _, OwnZ.nil _ _ _, fun _ => rfl, by simp, by simp [Value.ownBlock], by simp, fun k h => ⟨by omega, by simp [Value.ownBlock], by simp; omega⟩, by simp⟩

theorem Mk.add {R q : Nat} {P N : Nat → Prop} {A B : World} {s : Sq} (h : Mk R q P N A s) (hR : R ≤ q) (hN : ∀ j, N j → j < A.heap.size) (hb : Below A.heap.size A B) (z8 : ZV) (er : Int) (hz : ZAt A.heap.size B z8) :
    Calls Tryz.prog 44 #[.pointer (some ⟨q, 0, none⟩), z8.val, .int .i64 er] B (fun e C => e = .returned (.tuple #[]) ∧ Mk R q P N C (addS s (z8.p, er)) ∧ Kept P A C ∧ Below R A C) := by
  have hq := h.lt
  refine (radd_any R q (fun j => P j ∨ ∃ p, z8.a = some p ∧ p.block = j) N s z8 er B (h.more hb ?_ fun j r => Or.inl r) hR ?_).mono ?_
  · rintro j (r | ⟨p, e, rfl⟩)
    · exact Or.inl r
    · exact Or.inr (hz.2 p e)
  · intro _
    refine ⟨hz.low (Nat.zero_le _), fun p e => ⟨Or.inr ⟨p, e, rfl⟩, fun r => ?_⟩⟩
    have := (hz.2 p e).1
    have := hN _ r
    omega
  · rintro e C ⟨rfl, hm, hk, hB⟩
    exact ⟨rfl, hm.more (Below.refl _ _) (fun j r => Or.inl (Or.inl r)) (fun j r => Or.inl r), (Kept.of_below hb P).trans (hk.mono fun k _ r => Or.inl r), (hb.mono (by omega)).trans hB⟩

theorem meet_step {s T R : Sq} {x : Zp} {M : List Zp} {u : Nat} (hu : u < M.length) {z : Zp} {e : Int} (h : EqS (addQ s (seqA (mtR x (M.drop u)) R)) T) (he : e = (mtP x M[u]).2) (hz : e = 0 → z = (mtP x M[u]).1) : EqS (addQ (addS s (z, e)) (seqA (mtR x (M.drop (u + 1))) R)) T := by
  rw [addS_same he hz, addS_eq]
  refine (addQ_seq s _ _).trans ?_
  rw [← seqA_assoc]
  rw [List.drop_eq_getElem_cons hu] at h
  exact h

theorem meet_row {s T : Sq} {L M : List Zp} {t : Nat} (ht : t < L.length) (h : EqS (addQ s (mtS (L.drop t) M)) T) : EqS (addQ s (seqA (mtR L[t] (M.drop 0)) (mtS (L.drop (t + 1)) M))) T := by
  rw [List.drop_eq_getElem_cons ht] at h
  exact h

set_option maxRecDepth 100000 in
set_option maxHeartbeats 16000000 in
theorem rmeet_any (L M : List ZV) (go ho : Option Addr) (gc hc : Nat) (w : World) (hL : RdZ 0 w go L) (hM : RdZ 0 w ho M) (hl : L.length ≤ 1000000) (hm : M.length ≤ 1000000) :
    Calls Tryz.prog 14 #[.slice go L.length gc, .slice ho M.length hc] w (RfNew (meeR (L.map ZV.p) (M.map ZV.p)) w) := by
  have RL := Lib.hid hL
  have RM := Lib.hid hM
  obtain ⟨n, hn⟩ : ∃ n, n = L.length := ⟨_, rfl⟩
  obtain ⟨m, hm2⟩ : ∃ m, m = M.length := ⟨_, rfl⟩
  have HN := Lib.hid hn
  have HM := Lib.hid hm2
  have BO := Lib.hid (show ∀ W, Below w.heap.size w W → Calls Tryz.prog 43 #[.slice go n gc, .slice ho m hc] W (Made (.int .i64 (chkG [L.map ZV.p, M.map ZV.p])) W) from fun W h => by rw [hn, hm2]; exact both_any L M go ho gc hc W (hL.on h) (hM.on h) hl hm)
  have nle : n ≤ 1000000 := by omega
  have mle : m ≤ 1000000 := by omega
  rw [← hn, ← hm2]
  clear hL hM hl hm hn hm2
  obtain ⟨c, hc0⟩ : ∃ c, c = chkG [L.map ZV.p, M.map ZV.p] := ⟨_, rfl⟩
  have HC := Lib.hid hc0
  rw [← hc0] at BO
  clear hc0
  go_enter Tryz.func14, Tryz.ntmps14
  go_wp2_with fail
  refine (BO.out _ (Below.refl _ _)).mono ?_
  rintro e w1 ⟨rfl, hb⟩
  have B1 := Lib.hid hb
  clear hb
  by_cases h0 : c = 0
  · have h0b : (c != 0) = false := by simp [h0]
    have EV := Lib.hid (show (meeR (L.map ZV.p) (M.map ZV.p)).2 = colE (mtS (L.map ZV.p) (M.map ZV.p)).1 (mtS (L.map ZV.p) (M.map ZV.p)).2 from by unfold meeR ansE; rw [← HC.out, if_pos h0])
    clear h0
    obtain ⟨q, hq⟩ : ∃ q, q = w1.heap.size := ⟨_, rfl⟩
    obtain ⟨w2, hw2⟩ : ∃ w2, w2 = w1.alloc (.cells #[.slice none 0 0, .int .i64 0] 62) := ⟨_, rfl⟩
    have M0 := Lib.hid (show Mk q q (fun k => k < q) (fun j => j < w.heap.size) w2 ([], 0) by rw [hw2, hq]; exact Mk.made w1)
    have B2 := Lib.hid (show Below w.heap.size w w2 by rw [hw2]; exact below_on B1.out (one_more _))
    have WQ := Lib.hid (show w.heap.size ≤ q by rw [hq]; exact B1.out.size)
    go_upto_region 5 with (fail)
    rw [← hw2, ← hq]
    clear hw2 hq
    go_wp2_with fail
    go_loopw [8] (fun i wr => ∃ t : Nat, i = .int .i64 t ∧ t ≤ n ∧ Hid (∃ s, Mk q q (fun k => k < q) (fun j => j < w.heap.size) wr s ∧ Below w.heap.size w wr ∧ EqS (addQ s (mtS ((L.map ZV.p).drop t) (M.map ZV.p))) (mtS (L.map ZV.p) (M.map ZV.p)))) (fun i _ => n - (intOf i).toNat)
    case atStart => exact ⟨0, rfl, by omega, Lib.hid ⟨([], 0), M0.out, B2.out, by rw [addQ_ok rfl, nil_seqA]; exact EqS.refl _⟩⟩
    case round =>
      generalize wr = wo at *
      obtain ⟨t, rfl, ht, HI⟩ := hrel
      by_cases htn : t < n
      · obtain ⟨x, hx⟩ : ∃ x, x = L[t]'(by have := HN.out; omega) := ⟨_, rfl⟩
        have HLT := Lib.hid (show t < (L.map ZV.p).length by have := HN.out; simpa using (show t < L.length by omega))
        have XP := Lib.hid (show (L.map ZV.p)[t]'HLT.out = x.p by rw [hx]; simp)
        have HX := Lib.hid (show ZAt 0 w x from RL.out.el x (by rw [hx]; exact List.getElem_mem _))
        obtain ⟨a, ea, h0, h1⟩ := RL.out.hd t (by have := HN.out; omega)
        rw [← hx] at h0 h1
        obtain ⟨xl, hxl⟩ : ∃ xl, xl = x.l.length := ⟨_, rfl⟩
        rw [← hxl] at h1
        have HXL := Lib.hid hxl
        have GX := Lib.hid (And.intro h0 h1)
        clear hx h0 h1 hxl
        subst ea
        go_wp2_with fail
        go_loopw [9] (fun i wr => ∃ u : Nat, i = .int .i64 u ∧ u ≤ m ∧ Hid (∃ s, Mk q q (fun k => k < q) (fun j => j < w.heap.size) wr s ∧ Below w.heap.size w wr ∧ EqS (addQ s (seqA (mtR x.p ((M.map ZV.p).drop u)) (mtS ((L.map ZV.p).drop (t + 1)) (M.map ZV.p)))) (mtS (L.map ZV.p) (M.map ZV.p)))) (fun i _ => m - (intOf i).toNat)
        case atStart => exact ⟨0, rfl, by omega, Lib.hid (by
          obtain ⟨s, h1, h2, h3⟩ := HI.out
          refine ⟨s, h1, h2, ?_⟩
          have := meet_row HLT.out h3
          rwa [XP.out] at this)⟩
        case round =>
          generalize wr = wi at *
          obtain ⟨u, rfl, hu, HJ⟩ := hrel
          obtain ⟨s, mm, be, eq⟩ := HJ.out
          have MM := Lib.hid mm
          have BE := Lib.hid be
          have EQ := Lib.hid eq
          obtain ⟨bad, hbad⟩ : ∃ bad, bad = colE s.1 s.2 := ⟨_, rfl⟩
          have HBD := Lib.hid hbad
          obtain ⟨mv, mL, m1, _⟩ := mm
          rw [← hbad] at m1
          obtain ⟨f0, f1, f2, f3⟩ := m1.facts
          clear be eq hbad m1 f0 f2 f3 HJ
          by_cases hum : u < m
          · by_cases hb0 : bad = 0
            · have hb1 : (bad == 0) = true := by simp [hb0]
              obtain ⟨y, hy⟩ : ∃ y, y = M[u]'(by have := HM.out; omega) := ⟨_, rfl⟩
              have HUT := Lib.hid (show u < (M.map ZV.p).length by have := HM.out; simpa using (show u < M.length by omega))
              have YP := Lib.hid (show (M.map ZV.p)[u]'HUT.out = y.p by rw [hy]; simp)
              have HY := Lib.hid (show ZAt 0 w y from RM.out.el y (by rw [hy]; exact List.getElem_mem _))
              obtain ⟨b, eb, h0, h1⟩ := RM.out.hd u (by have := HM.out; omega)
              rw [← hy] at h0 h1
              obtain ⟨yl, hyl⟩ : ∃ yl, yl = y.l.length := ⟨_, rfl⟩
              rw [← hyl] at h1
              have GY := Lib.hid (And.intro h0 h1)
              have MT := Lib.hid (show ∀ W, Below w.heap.size w W → Calls Tryz.prog 45 #[.agg #[.int .i64 x.N, .slice x.a xl x.c], .agg #[.int .i64 y.N, .slice y.a yl y.c]] W (ZOut W (mtP x.p y.p)) from fun W h => by rw [HXL.out, hyl]; exact rmt_out x y W (HX.out.on h) (HY.out.on h))
              clear hy h0 h1 hyl
              subst eb
              go_upto_region 11 with (fail)
              have KS := Lib.hid (show ∀ W, Below wi.heap.size wi W → (W.cell? (a.add (t * 2)) = some (.int .i64 x.N) ∧ W.cell? ⟨(a.add (t * 2)).block, (a.add (t * 2)).off + 1, none⟩ = some (.slice x.a xl x.c) ∧ W.cell? (b.add (u * 2)) = some (.int .i64 y.N) ∧ W.cell? ⟨(b.add (u * 2)).block, (b.add (u * 2)).off + 1, none⟩ = some (.slice y.a yl y.c)) from fun W h => ⟨kept (below_on BE.out h) GX.out.1, kept (below_on BE.out h) GX.out.2, kept (below_on BE.out h) GY.out.1, kept (below_on BE.out h) GY.out.2⟩)
              obtain ⟨wc, hwc⟩ : ∃ wc, wc = wi.drew := ⟨_, rfl⟩
              have Bc := Lib.hid (show Below wi.heap.size wi wc by rw [hwc]; exact (Below.refl _ _).drew)
              refine wp_region_held_drew (S := (fun W => (W.cell? (a.add (t * 2)) = some (.int .i64 x.N) ∧ W.cell? ⟨(a.add (t * 2)).block, (a.add (t * 2)).off + 1, none⟩ = some (.slice x.a xl x.c) ∧ W.cell? (b.add (u * 2)) = some (.int .i64 y.N) ∧ W.cell? ⟨(b.add (u * 2)).block, (b.add (u * 2)).off + 1, none⟩ = some (.slice y.a yl y.c)))) (by kernel_rfl) (by rw [← hwc]; exact KS.out _ Bc.out) (fun h0 => ?_)
              rw [← hwc] at h0 ⊢
              clear hwc
              refine tkH (i := 0) (v := ?v1) rfl (Or.inl ⟨by rfl, ?hy1⟩) h0 ?rest1
              case hy1 => (intro w' hS; (try dsimp only at hS); go_simp; try (with_reducible rfl))
              simp only [Act.put, sA, sB, sD, sE, sF]
              refine tkH (i := 1) (v := ?v2) rfl (Or.inl ⟨by rfl, ?hy2⟩) h0 ?rest2
              case hy2 => (intro w' hS; (try dsimp only at hS); go_simp; try (with_reducible rfl))
              simp only [Act.put, sZ]
              refine tkH (i := 2) (v := ?v3) rfl (Or.inl ⟨by rfl, ?hy3⟩) h0 ?rest3
              case hy3 => (intro w' hS; (try dsimp only at hS); go_simp; try (with_reducible rfl))
              simp only [Act.put, sZ]
              refine tkH (i := 3) (v := ?v4) rfl (Or.inl ⟨by rfl, ?hy4⟩) h0 ?rest4
              case hy4 => (intro w' hS; (try dsimp only at hS); go_simp; try (with_reducible rfl))
              simp only [Act.put, sZ]
              refine tkH (i := 4) (v := ?v5) rfl (Or.inl ⟨by rfl, ?hy5⟩) h0 ?rest5
              case hy5 => (intro w' hS; (try dsimp only at hS); go_simp; try (with_reducible rfl))
              simp only [Act.put, sZ]
              refine tkH (i := 5) (v := ?v6) rfl (Or.inl ⟨by rfl, ?hy6⟩) h0 ?rest6
              case hy6 => (intro w' hS; (try dsimp only at hS); go_simp; try (with_reducible rfl))
              simp only [Act.put, sZ]
              refine tkH (i := 6) (v := ?v7) rfl (Or.inl ⟨by rfl, ?hy7⟩) h0 ?rest7
              case hy7 => (intro w' hS; (try dsimp only at hS); go_simp; try (with_reducible rfl))
              simp only [Act.put, sZ]
              refine tkH (i := 7) (v := ?v8) rfl (Or.inl ⟨by rfl, ?hy8⟩) h0 ?rest8
              case hy8 => (intro w' hS; (try dsimp only at hS); go_simp; try (with_reducible rfl))
              simp only [Act.put, sZ]
              refine tkH (i := 8) (v := ?v9) rfl (Or.inl ⟨by rfl, ?hy9⟩) h0 ?rest9
              case hy9 => (intro w' hS; (try dsimp only at hS); go_simp; try (with_reducible rfl))
              simp only [Act.put, sZ]
              refine wpAnyH_ready (rs := [9]) (by kernel_rfl) (by simp) (AllReadyH.cons rfl (fun K hK => ?_) AllReadyH.nil)
              rw [if_pos (by rfl)]
              go_simp
              refine (MT.out wc (below_on BE.out Bc.out)).mono ?_
              rintro e wd ⟨hb, z8, rfl, hz8, hp8⟩
              obtain ⟨e8, he8⟩ : ∃ e8, e8 = (mtP x.p y.p).2 := ⟨_, rfl⟩
              rw [← he8] at hp8 ⊢
              have HE8 := Lib.hid he8
              have P8 := Lib.hid hp8
              have A8 := Lib.hid (hz8.low Bc.out.size)
              have Bc := Lib.hid (below_on Bc.out hb)
              clear hb hz8 hp8 he8
              unfold ZV.val
              obtain ⟨zl, hzl⟩ : ∃ zl, zl = z8.l.length := ⟨_, rfl⟩
              rw [← hzl]
              have HZL := Lib.hid hzl
              clear hzl
              obtain ⟨wc, hwc⟩ : ∃ wc, wc = wd := ⟨_, rfl⟩
              rw [← hwc] at A8 Bc ⊢
              clear hwc
              go_simp
              refine hK.out _ _ (KS.out _ Bc.out) (fun h0_1 => ?_)
              clear hK K h0
              refine tkH (i := 10) (v := ?v10) rfl (Or.inl ⟨by rfl, ?hy10⟩) h0_1 ?rest10
              case hy10 => (intro w' hS; (try dsimp only at hS); go_simp; try (with_reducible rfl))
              simp only [Act.put, sZ]
              refine tkH (i := 11) (v := ?v11) rfl (Or.inl ⟨by rfl, ?hy11⟩) h0_1 ?rest11
              case hy11 => (intro w' hS; (try dsimp only at hS); go_simp; try (with_reducible rfl))
              simp only [Act.put, sZ]
              refine wpAnyH_ready (rs := [12]) (by kernel_rfl) (by simp) (AllReadyH.cons rfl (fun K hK => ?_) AllReadyH.nil)
              rw [if_pos (by rfl)]
              go_simp
              have AD := MM.out.add (Nat.le_refl _) (fun _ r => Nat.lt_of_lt_of_le r BE.out.size) Bc.out z8 e8 A8.out
              unfold ZV.val at AD
              rw [← HZL.out] at AD
              refine AD.mono ?_
              rintro e wx ⟨rfl, hmk, _, hbx⟩
              have MX := Lib.hid hmk
              have BX := Lib.hid (BE.out.trans (hbx.mono WQ.out))
              clear hmk hbx AD
              go_simp
              refine hK.out _ _ ⟨kept BX.out GX.out.1, kept BX.out GX.out.2, kept BX.out GY.out.1, kept BX.out GY.out.2⟩ (fun h0_2 => ?_)
              clear hK K h0_1
              try simp only [sF]
              try simp only [sE]
              refine wpAnyH_done (by kernel_rfl) ?_ _
              try simp only [Exit.then]
              have ES := Lib.hid (meet_step (e := e8) (z := z8.p) HUT.out EQ.out (by rw [YP.out]; exact HE8.out) (by rw [YP.out]; exact P8.out))
              clear Bc KS f1
              go_wp2_with fail
              go_roundw
              case rel => exact ⟨u + 1, by go_num, by omega, Lib.hid ⟨_, MX.out, BX.out, ES.out⟩⟩
              case measure => simp [intOf]; omega
            · have hb1 : (bad == 0) = false := by simpa using hb0
              have FIN := Lib.hid (show EqS (addQ s (mtS ((L.map ZV.p).drop (t + 1)) (M.map ZV.p))) (mtS (L.map ZV.p) (M.map ZV.p)) by have := EQ.out; rw [addQ_bad (by rw [← HBD.out]; exact hb0)] at this ⊢; exact this)
              clear hb0
              go_wp2_with fail
              go_roundw
              case rel => exact ⟨t + 1, by go_num, by omega, Lib.hid ⟨s, MM.out, BE.out, FIN.out⟩⟩
              case measure => simp [intOf]; omega
          · have e : (M.map ZV.p).drop u = [] := List.drop_eq_nil_of_le (by have := HM.out; simp; omega)
            have FIN := Lib.hid (show EqS (addQ s (mtS ((L.map ZV.p).drop (t + 1)) (M.map ZV.p))) (mtS (L.map ZV.p) (M.map ZV.p)) by have := EQ.out; rw [e, show mtR x.p [] = ([], 0) from rfl, nil_seqA] at this; exact this)
            clear e
            go_wp2_with fail
            repeat (first | (refine ⟨fun f h => (by cases h), ?_⟩; try go_wp2_with fail))
            go_roundw
            case rel => exact ⟨t + 1, by go_num, by omega, Lib.hid ⟨s, MM.out, BE.out, FIN.out⟩⟩
            case measure => simp [intOf]; omega
      · have e : (L.map ZV.p).drop t = [] := List.drop_eq_nil_of_le (by have := HN.out; simp; omega)
        obtain ⟨s, mm, be, eq⟩ := HI.out
        rw [e, show mtS [] (M.map ZV.p) = ([], 0) from rfl, addQ_nil] at eq
        have TD := Lib.hid (told_any q q _ _ s wo mm)
        have EQ := Lib.hid eq
        have BE := Lib.hid be
        clear e mm be eq HI
        go_wp2_with fail
        refine TD.out.mono ?_
        rintro e w9 ⟨hb, ao, cap, X, rfl, hx, hxp, hxl, hxn8⟩
        obtain ⟨xn, hxn⟩ : ∃ xn, xn = X.length := ⟨_, rfl⟩
        have HXN := Lib.hid hxn
        have FIN := Lib.hid (show RfNew (meeR (L.map ZV.p) (M.map ZV.p)) w (.returned (.tuple #[.slice ao X.length cap, .int .i64 (colE s.1 s.2)])) w9 from by
          refine ⟨below_on BE.out hb, ao, cap, X, by rw [EV.out, EQ.out.1], ⟨(hx.low WQ.out (Nat.le_refl 0)).row, fun y hy => ⟨(hx.el y hy).1, fun p e => ⟨Nat.le_of_not_lt (hxn8 y hy p e), ((hx.el y hy).2 p e).2⟩⟩, hx.far⟩, ?_, by omega⟩
          rw [EV.out, hxp, ← EQ.out.1]
          by_cases h : colE s.1 s.2 = 0
          · rw [if_pos h, if_pos h]; exact EQ.out.2 h
          · rw [if_neg h, if_neg h])
        rw [← hxn] at FIN ⊢
        clear hb hx hxp hxl hxn hxn8
        go_wp2_with fail
        go_ret2
        exact FIN.out
  · have h0b : (c != 0) = true := by simpa using h0
    have FIN := Lib.hid (show RfNew (meeR (L.map ZV.p) (M.map ZV.p)) w (.returned (.tuple #[.slice none 0 0, .int .i64 c])) w1 from by
      have e : (meeR (L.map ZV.p) (M.map ZV.p)).2 = c := by unfold meeR ansE; rw [← HC.out, if_neg h0]
      exact ⟨B1.out, none, 0, [], by rw [e]; rfl, OwnZ.nil _ _ _, by rw [e, if_neg h0]; rfl, by simp⟩)
    clear h0
    go_wp2_with fail
    go_ret2
    exact FIN.out
end Go.Proofs.YtaegiihkgicdnaaGreat
