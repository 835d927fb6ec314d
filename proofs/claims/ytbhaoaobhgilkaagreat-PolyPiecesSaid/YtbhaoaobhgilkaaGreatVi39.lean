/- The contract of Has of layer 7's reference, and of the statements' meets. -/
import Derived.Test.YtbhaoaobhgilkaaGreatVi38
import Derived.Test.YtbhaoaobhgilkaaGreatVi32

namespace Go.Proofs.YtbhaoaobhgilkaaGreat
open Go.RowKit Go.Sort Go.Shelf

/-- The first error of a sum. -/
def totE (P : List Pq) : List AV → Int
  | [] => 0
  | y :: r => if (atN y.a P P.length).2 ≠ 0 then (atN y.a P P.length).2 else totE P r

def lineB (P : List Pq) (y : AV) : Bool := decide (cmR (atN y.a P P.length).1 (y.b, 1) < 0) || (decide (cmR (atN y.a P P.length).1 (y.b, 1) = 0) && !y.s)

def hasE (n : Int) (L : List AV) (P : List Pq) : Int := if chkP n L ≠ 0 then chkP n L else if (P.length : Int) ≠ n then 2 else if P.all vR then totE P L else 2

def hasB (n : Int) (L : List AV) (P : List Pq) : Bool := decide (hasE n L P = 0) && L.all (lineB P)

theorem totE_at {P : List Pq} : ∀ {L : List AV} {t : Nat}, (ht : t < L.length) → (∀ k, ∀ h : k < L.length, k < t → (atN L[k].a P P.length).2 = 0) → (atN L[t].a P P.length).2 ≠ 0 → totE P L = (atN L[t].a P P.length).2
  | [], _, ht, _, _ => by simp at ht
  | y :: r, 0, _, _, h => by simp only [List.getElem_cons_zero] at h; unfold totE; rw [if_pos h]; rfl
  | y :: r, t + 1, ht, hz, h => by
    have h0 := hz 0 (by simp) (by omega)
    simp only [List.getElem_cons_zero] at h0
    unfold totE
    rw [if_neg (by simpa using h0)]
    exact totE_at (by simpa using ht) (fun k hk hkt => by have := hz (k + 1) (by simpa using hk) (by omega); simpa using this) (by simpa using h)

theorem totE_none {P : List Pq} : ∀ {L : List AV}, (∀ y ∈ L, (atN y.a P P.length).2 = 0) → totE P L = 0
  | [], _ => rfl
  | y :: r, h => by
    unfold totE
    rw [if_neg (by simpa using h y (by simp))]
    exact totE_none fun z hz => h z (by simp [hz])

theorem all_snoc {p : AV → Bool} {L : List AV} {t : Nat} (h : t < L.length) : (L.take (t + 1)).all p = ((L.take t).all p && p L[t]) := by
  rw [List.take_succ_eq_append_getElem h, List.all_append]; simp

set_option maxRecDepth 100000 in
set_option maxHeartbeats 4000000 in
theorem rhas_any (n : Int) (L : List AV) (P : List Pq) (la po : Option Addr) (lc pc : Nat) (w : World) (hR : RdV w la L) (hS : Rd2 w po P) (hL : ∀ y ∈ L, y.a.length ≤ 1000000 ∧ ∀ v ∈ y.a, I64 v) (hB : ∀ y ∈ L, I64 y.b) (hP : ∀ t, t < P.length → I2 (gp P t)) (hp : P.length ≤ 1000) :
    Calls Tryz.prog 24 #[.int .i64 n, .slice la L.length lc, .slice po P.length pc] w (Made (.tuple #[.bool (hasB n L P), .int .i64 (hasE n L P)]) w) := by
  obtain ⟨m, hm⟩ : ∃ m, m = L.length := ⟨_, rfl⟩
  obtain ⟨u, hu⟩ : ∃ u, u = P.length := ⟨_, rfl⟩
  have CK := Lib.hid (rcheck_any n L la lc w hR (fun y hy => (hL y hy).1))
  obtain ⟨E, hE⟩ : ∃ E, E = hasE n L P := ⟨_, rfl⟩
  obtain ⟨B, hBB⟩ : ∃ B, B = hasB n L P := ⟨_, rfl⟩
  have B0 := Lib.hid (show E ≠ 0 → B = false from fun h => by rw [hBB]; unfold hasB; rw [← hE, decide_eq_false h]; rfl)
  have B1 := Lib.hid (show E = 0 → B = L.all (lineB P) from fun h => by rw [hBB]; unfold hasB; rw [← hE, decide_eq_true h]; rfl)
  obtain ⟨c, hc⟩ : ∃ c, c = chkP n L := ⟨_, rfl⟩
  have EC := Lib.hid (show c ≠ 0 → E = c from fun h => by rw [hE]; unfold hasE; rw [← hc, if_pos h])
  have EN := Lib.hid (show c = 0 → (u : Int) ≠ n → E = 2 from fun h h2 => by rw [hE]; unfold hasE; rw [← hc, if_neg (fun q => q h), if_pos (by rw [← hu]; exact h2)])
  have EV := Lib.hid (show c = 0 → (u : Int) = n → E = if P.all vR then totE P L else 2 from fun h h2 => by rw [hE]; unfold hasE; rw [← hc, if_neg (fun q => q h), if_neg (by rw [← hu]; exact fun q => q h2)])
  have VL := Lib.hid (show c = 0 → ∀ y ∈ L, (y.a.length : Int) = n from fun h y hy => valid_len ((chk_valid (hc.symm.trans h)).2.2 y hy))
  have N5 := Lib.hid (show c = 0 → n ≤ 5 from fun h => (chk_valid (hc.symm.trans h)).1.2)
  have HM := Lib.hid hm
  have HU := Lib.hid hu
  have HR := Lib.hid hR
  have HS := Lib.hid hS
  have HL := Lib.hid hL
  have HB := Lib.hid hB
  have HP := Lib.hid hP
  rw [← hm, ← hc] at CK
  rw [← hm, ← hu, ← hE, ← hBB]
  have u1 : u ≤ 1000 := by omega
  have m1000 := Lib.hid (show c = 0 → m ≤ 1000 from fun h => by rw [hm]; exact (chk_valid (hc.symm.trans h)).2.1)
  clear hR hS hL hB hP hp hm hu hE hBB hc
  by_cases h0 : c = 0
  case neg =>
    have HE := Lib.hid (EC.out h0)
    have HF := Lib.hid (B0.out (by rw [HE.out]; exact h0))
    have h0' : (c != 0) = true := by simpa using h0
    clear h0
    go_enter Tryz.func24, Tryz.ntmps24
    go_wp2_with fail
    refine CK.out.mono ?_
    rintro e w1 ⟨rfl, hb⟩
    have B1 := Lib.hid hb
    clear hb
    go_wp2_with fail
    refine bodyPost_ret (v := .tuple #[.bool B, .int .i64 E]) (by rw [HE.out, HF.out]; simp [results, Tryz.results24, go_sem]) rfl ⟨rfl, B1.out⟩
  have VL2 := Lib.hid (VL.out h0)
  have M1 := Lib.hid (m1000.out h0)
  have N52 := Lib.hid (N5.out h0)
  clear VL N5 m1000
  by_cases h1 : (u : Int) = n
  case neg =>
    have HE := Lib.hid (EN.out h0 h1)
    have HF := Lib.hid (B0.out (by rw [HE.out]; decide))
    have h1' : ((u : Int) != n) = true := by simpa using h1
    subst h0
    clear h1
    go_enter Tryz.func24, Tryz.ntmps24
    go_wp2_with fail
    refine CK.out.mono ?_
    rintro e w1 ⟨rfl, hb⟩
    have B1 := Lib.hid hb
    clear hb
    go_wp2_with fail
    refine bodyPost_ret (v := .tuple #[.bool B, .int .i64 E]) (by rw [HE.out, HF.out]; simp [results, Tryz.results24, go_sem]) rfl ⟨rfl, B1.out⟩
  have EV2 := Lib.hid (EV.out h0 h1)
  clear EV
  have UN := Lib.hid h1
  have h1' : ((u : Int) != n) = false := by simpa using h1
  have m1 := M1.out
  subst h0
  clear EC EN h1 M1
  go_enter Tryz.func24, Tryz.ntmps24
  go_wp2_with fail
  refine CK.out.mono ?_
  rintro e w1 ⟨rfl, hb⟩
  have E1 := Lib.hid hb
  clear hb CK
  go_wp2_with fail
  go_loopw [9] (fun s wr => ∃ t : Nat, s = .int .i64 t ∧ t ≤ u ∧ Hid (∀ k, k < t → vR (gp P k) = true) ∧ Hid (Below w.heap.size w wr)) (fun s _ => u - (intOf s).toNat)
  case atStart => exact ⟨0, rfl, by omega, Lib.hid (fun k h => by omega), E1⟩
  case round =>
    clear E1
    obtain ⟨t, rfl, ht, HV, HW⟩ := hrel
    by_cases htu : t < u
    · obtain ⟨a, ha, c0⟩ := (HS.out.on HW.out) t (by have := HU.out; omega)
      have Z2 := Lib.hid (HP.out t (by have := HU.out; omega))
      have NX := Lib.hid (show vR (gp P t) = true → ∀ k, k < t + 1 → vR (gp P k) = true from fun h k hk => by
        by_cases e : k = t
        · subst e; exact h
        · exact HV.out k (by omega))
      have NO := Lib.hid (show vR (gp P t) = false → E = 2 from fun h => by
        rw [EV2.out, if_neg]
        intro q
        rw [List.all_eq_true] at q
        have hlt : t < P.length := by have := HU.out; omega
        have := q (gp P t) (by unfold gp; rw [List.getD_eq_getElem?_getD, List.getElem?_eq_getElem hlt]; exact List.getElem_mem _)
        rw [h] at this; cases this)
      generalize gp P t = z at *
      have C0 := Lib.hid c0
      have VA := Lib.hid (fun W => refValid_any z.1 z.2 W Z2.out.1.1 Z2.out.1.2 Z2.out.2.1 Z2.out.2.2)
      obtain ⟨b, hb⟩ : ∃ b, b = vR z := ⟨_, rfl⟩
      rw [show vldB z.1 z.2 = b from hb.symm] at VA
      rw [← hb] at NX NO
      subst ha
      clear c0 hb
      go_wp2_with (first | refine wpl_loadQ rfl _ rfl _ rfl z C0.out ?_)
      refine (VA.out wr).mono ?_
      rintro e w2 ⟨rfl, hb⟩
      have W2 := Lib.hid (below_on HW.out hb)
      clear hb VA
      cases b
      · have HE := Lib.hid (NO.out rfl)
        have HF := Lib.hid (B0.out (by rw [HE.out]; decide))
        go_wp2_with fail
        refine bodyPost_ret (v := .tuple #[.bool B, .int .i64 E]) (by rw [HE.out, HF.out]; simp [results, Tryz.results24, go_sem]) rfl ⟨rfl, W2.out⟩
      · have HV2 := Lib.hid (NX.out rfl)
        go_wp2_with fail
        go_roundw
        case rel => exact ⟨t + 1, by go_num, by omega, HV2, W2⟩
        case measure => simp [intOf]; omega
    · have ET := Lib.hid (show E = totE P L from by
        rw [EV2.out, if_pos]
        rw [List.all_eq_true]
        intro q hq
        obtain ⟨k, hk, rfl⟩ := List.getElem_of_mem hq
        have := HV.out k (by have := HU.out; omega)
        simpa [gp, hk] using this)
      clear HV EV2
      go_wp2_with fail
      go_loopw [10, 11] (fun a s wi => ∃ (t : Nat) (bb : Bool), a = .bool bb ∧ s = .int .i64 t ∧ t ≤ m ∧ Hid (bb = (L.take t).all (lineB P)) ∧ Hid (∀ k, ∀ h : k < L.length, k < t → (atN L[k].a P P.length).2 = 0) ∧ Hid (Below w.heap.size w wi)) (fun _ s _ => m - (intOf s).toNat)
      case atStart => exact ⟨0, true, rfl, rfl, by omega, Lib.hid (by simp), Lib.hid (fun k _ h => by omega), HW⟩
      case round =>
        clear HW
        obtain ⟨t, bb, rfl, rfl, ht, HA, HZ, HW⟩ := hrel
        by_cases htm : t < m
        · have hlt : t < L.length := by have := HM.out; omega
          obtain ⟨p, hp, cp⟩ := (HR.out.on HW.out).at_ t hlt
          have YN := Lib.hid ((HR.out.on HW.out).nums _ (List.getElem_mem hlt))
          have YL := Lib.hid (HL.out _ (List.getElem_mem hlt))
          have YB := Lib.hid (HB.out _ (List.getElem_mem hlt))
          have YV := Lib.hid (VL2.out _ (List.getElem_mem hlt))
          have AS := Lib.hid (show (L.take (t + 1)).all (lineB P) = (bb && lineB P L[t]) by rw [HA.out]; exact all_snoc hlt)
          have ZN := Lib.hid (show (atN L[t].a P P.length).2 = 0 → ∀ k, ∀ h : k < L.length, k < t + 1 → (atN L[k].a P P.length).2 = 0 from fun h k g hk => by
            by_cases e : k = t
            · subst e; exact h
            · exact HZ.out k g (by omega))
          have ZE := Lib.hid (show (atN L[t].a P P.length).2 ≠ 0 → E = (atN L[t].a P P.length).2 from fun h => by rw [ET.out]; exact totE_at hlt HZ.out h)
          generalize L[t] = y at *
          have CP := Lib.hid cp
          obtain ⟨_, c1, c2⟩ := cp.three
          have C1 := Lib.hid c1
          have C2 := Lib.hid c2
          obtain ⟨T, hT⟩ : ∃ T, T = (atN y.a P P.length).1 := ⟨_, rfl⟩
          have T2 := Lib.hid (show I2 T by rw [hT]; exact atN_64 _ _ _)
          have TO := Lib.hid (fun W (h : Below wr.heap.size wr W) => rtotal_any y P po pc W (by have := YV.out; have := HU.out; have := UN.out; omega) (by have := YV.out; have := N52.out; omega) (YN.out.on h) ((HS.out.on HW.out).on h) YL.out.2 HP.out)
          obtain ⟨er, her⟩ : ∃ er, er = (atN y.a P P.length).2 := ⟨_, rfl⟩
          obtain ⟨TT, hTT⟩ : ∃ TT, TT = totR y.a P P.length := ⟨_, rfl⟩
          have TE := Lib.hid (show er = 0 → TT = T from fun h => by rw [hTT]; unfold totR; rw [← her, if_pos h, hT])
          obtain ⟨k, hk⟩ : ∃ k, k = cmR T (y.b, 1) := ⟨_, rfl⟩
          have CM := Lib.hid (fun W => rcmpP_any T (y.b, 1) W T2.out (wh_64 YB.out))
          have LB := Lib.hid (show lineB P y = (decide (k < 0) || (decide (k = 0) && !y.s)) by unfold lineB; rw [← hT, ← hk])
          rw [← hk] at CM
          rw [← her] at ZN ZE
          rw [← hTT, ← her, ← HU.out] at TO
          rw [LB.out] at AS
          obtain ⟨yb, hyb⟩ : ∃ yb, yb = y.b := ⟨_, rfl⟩
          obtain ⟨ys, hys⟩ : ∃ ys, ys = y.s := ⟨_, rfl⟩
          rw [← hyb] at CM C1
          rw [← hys] at AS C2
          subst hp
          clear cp c1 c2 hT her hTT hk hyb hys LB hlt HZ HA
          go_wp2_with (first | refine wpl_loadV rfl _ rfl _ rfl y CP.out ?_)
          refine (TO.out wr (Below.refl _ _)).mono ?_
          rintro e w2 ⟨rfl, hb⟩
          have W2 := Lib.hid (show Below wr.heap.size wr w2 from hb)
          have F2 := Lib.hid (below_on HW.out hb)
          clear hb TO
          by_cases e0 : er = 0
          case neg =>
            have HE := Lib.hid (ZE.out e0)
            have HF := Lib.hid (B0.out (by rw [HE.out]; exact e0))
            have e0' : (er != 0) = true := by simpa using e0
            have BZ := Lib.hid (show Below w.heap.size w (w2.alloc (.cells #[.int .i64 TT.1, .int .i64 TT.2] 50)) from F2.out.alloc F2.out.size _)
            clear e0
            go_wp2_with fail
            refine bodyPost_ret (v := .tuple #[.bool B, .int .i64 E]) (by rw [HE.out, HF.out]; simp [results, Tryz.results24, go_sem]) rfl ⟨rfl, BZ.out⟩
          have TT2 := Lib.hid (TE.out e0)
          have ZN2 := Lib.hid (ZN.out e0)
          rw [TT2.out]
          obtain ⟨w3, hw3⟩ : ∃ w3, w3 = w2.alloc (.cells #[.int .i64 T.1, .int .i64 T.2] 50) := ⟨_, rfl⟩
          obtain ⟨q8, hq8⟩ : ∃ q8, q8 = w2.heap.size := ⟨_, rfl⟩
          have P8 := Lib.hid (show Pair w3 q8 T.1 T.2 by rw [hw3, hq8]; exact Pair.made _ _ _ _)
          have W3 := Lib.hid (show Below wr.heap.size wr w3 by rw [hw3]; exact W2.out.alloc W2.out.size _)
          have F3 := Lib.hid (below_on HW.out W3.out)
          subst e0
          clear ZE ZN TE F2 W2
          go_upto_region 18 with (fail)
          rw [← hw3, ← hq8]
          clear hw3 hq8 TT2
          have KS := Lib.hid (show ∀ W, Below w3.heap.size w3 W → (QAt W ⟨q8, 0, none⟩ T ∧ W.cell? ⟨(p.add (t * 3)).block, (p.add (t * 3)).off + 1, none⟩ = some (.int .i64 yb)) from fun W h => ⟨(P8.out.kept h).qAt, kept h (kept W3.out C1.out)⟩)
          obtain ⟨wc, hwc⟩ : ∃ wc, wc = w3.drew := ⟨_, rfl⟩
          have Bc := Lib.hid (show Below w3.heap.size w3 wc by rw [hwc]; exact (Below.refl _ _).drew)
          refine wp_region_held_drew (S := (fun W => (QAt W ⟨q8, 0, none⟩ T ∧ W.cell? ⟨(p.add (t * 3)).block, (p.add (t * 3)).off + 1, none⟩ = some (.int .i64 yb)))) (by kernel_rfl) (by rw [← hwc]; exact KS.out _ Bc.out) (fun h0 => ?_)
          rw [← hwc] at h0 ⊢
          clear hwc
          refine wpAnyH_take (i := 0) (v := (.agg #[.int .i64 T.1, .int .i64 T.2])) rfl (by kernel_rfl) (by kernel_rfl) (by kernel_rfl) (fun _ _ _ h => h) (Or.inl ⟨by rfl, fun w' hS => yld_loadQ _ rfl _ rfl hS.1⟩) h0 ?_
          simp only [Act.put, List.getElem_toArray, List.getElem_cons_zero, List.setIfInBounds_toArray, List.set_cons_zero, List.set_cons_succ]
          refine wpAnyH_take (i := 1) (v := ?v2) rfl (by kernel_rfl) (by kernel_rfl) (by kernel_rfl) (fun _ _ _ h => h) (Or.inl ⟨by rfl, ?hy2⟩) h0 ?rest2
          case hy2 => (intro w' hS; (try dsimp only at hS); go_simp; try (with_reducible rfl))
          simp only [Act.put, List.getElem_toArray, List.getElem_cons_zero, List.getElem_cons_succ, List.setIfInBounds_toArray, List.set_cons_zero, List.set_cons_succ]
          refine wpAnyH_take (i := 2) (v := ?v3) rfl (by kernel_rfl) (by kernel_rfl) (by kernel_rfl) (fun _ _ _ h => h) (Or.inl ⟨by rfl, ?hy3⟩) h0 ?rest3
          case hy3 => (intro w' hS; (try dsimp only at hS); go_simp; try (with_reducible rfl))
          simp only [Act.put, List.getElem_toArray, List.getElem_cons_zero, List.getElem_cons_succ, List.setIfInBounds_toArray, List.set_cons_zero, List.set_cons_succ]
          refine wpAnyH_take (i := 3) (v := ?v4) rfl (by kernel_rfl) (by kernel_rfl) (by kernel_rfl) (fun _ _ _ h => h) (Or.inl ⟨by rfl, ?hy4⟩) h0 ?rest4
          case hy4 => (intro w' hS; (try dsimp only at hS); go_simp; try (with_reducible rfl))
          simp only [Act.put, List.getElem_toArray, List.getElem_cons_zero, List.getElem_cons_succ, List.setIfInBounds_toArray, List.set_cons_zero, List.set_cons_succ]
          refine wpAnyH_take (i := 4) (v := ?v5) rfl (by kernel_rfl) (by kernel_rfl) (by kernel_rfl) (fun _ _ _ h => h) (Or.inl ⟨by rfl, ?hy5⟩) h0 ?rest5
          case hy5 => (intro w' hS; (try dsimp only at hS); go_simp; try (with_reducible rfl))
          simp only [Act.put, List.getElem_toArray, List.getElem_cons_zero, List.getElem_cons_succ, List.setIfInBounds_toArray, List.set_cons_zero, List.set_cons_succ]
          refine wpAnyH_take (i := 5) (v := ?v6) rfl (by kernel_rfl) (by kernel_rfl) (by kernel_rfl) (fun _ _ _ h => h) (Or.inl ⟨by rfl, ?hy6⟩) h0 ?rest6
          case hy6 => (intro w' hS; (try dsimp only at hS); go_simp; try (with_reducible rfl))
          simp only [Act.put, List.getElem_toArray, List.getElem_cons_zero, List.getElem_cons_succ, List.setIfInBounds_toArray, List.set_cons_zero, List.set_cons_succ]
          refine wpAnyH_take (i := 6) (v := ?v7) rfl (by kernel_rfl) (by kernel_rfl) (by kernel_rfl) (fun _ _ _ h => h) (Or.inl ⟨by rfl, ?hy7⟩) h0 ?rest7
          case hy7 => (intro w' hS; (try dsimp only at hS); go_simp; try (with_reducible rfl))
          simp only [Act.put, List.getElem_toArray, List.getElem_cons_zero, List.getElem_cons_succ, List.setIfInBounds_toArray, List.set_cons_zero, List.set_cons_succ]
          refine wpAnyH_ready (rs := [7]) (by kernel_rfl) (by simp) (AllReadyH.cons rfl (fun K hK => ?_) AllReadyH.nil)
          rw [if_pos (by rfl)]
          go_simp
          refine (CM.out wc).mono ?_
          rintro e wc ⟨rfl, hb⟩
          have Bc := Lib.hid (below_on Bc.out hb)
          clear hb
          go_simp
          refine hK.out _ _ (KS.out _ Bc.out) (fun h0_1 => ?_)
          clear hK K h0
          refine wpAnyH_take (i := 8) (v := ?v8) rfl (by kernel_rfl) (by kernel_rfl) (by kernel_rfl) (fun _ _ _ h => h) (Or.inl ⟨by rfl, ?hy8⟩) h0_1 ?rest8
          case hy8 => (intro w' hS; (try dsimp only at hS); go_simp; try (with_reducible rfl))
          simp only [Act.put, List.getElem_toArray, List.getElem_cons_zero, List.getElem_cons_succ, List.setIfInBounds_toArray, List.set_cons_zero, List.set_cons_succ]
          refine wpAnyH_take (i := 9) (v := ?v9) rfl (by kernel_rfl) (by kernel_rfl) (by kernel_rfl) (fun _ _ _ h => h) (Or.inl ⟨by rfl, ?hy9⟩) h0_1 ?rest9
          case hy9 => (intro w' hS; (try dsimp only at hS); go_simp; try (with_reducible rfl))
          simp only [Act.put, List.getElem_toArray, List.getElem_cons_zero, List.getElem_cons_succ, List.setIfInBounds_toArray, List.set_cons_zero, List.set_cons_succ]
          refine wpAnyH_take (i := 10) (v := ?v10) rfl (by kernel_rfl) (by kernel_rfl) (by kernel_rfl) (fun _ _ _ h => h) (Or.inl ⟨by rfl, ?hy10⟩) h0_1 ?rest10
          case hy10 => (intro w' hS; (try dsimp only at hS); go_simp; try (with_reducible rfl))
          simp only [Act.put, List.getElem_toArray, List.getElem_cons_zero, List.getElem_cons_succ, List.setIfInBounds_toArray, List.set_cons_zero, List.set_cons_succ]
          refine wpAnyH_take (i := 11) (v := ?v11) rfl (by kernel_rfl) (by kernel_rfl) (by kernel_rfl) (fun _ _ _ h => h) (Or.inl ⟨by rfl, ?hy11⟩) h0_1 ?rest11
          case hy11 => (intro w' hS; (try dsimp only at hS); go_simp; try (with_reducible rfl))
          simp only [Act.put, List.getElem_toArray, List.getElem_cons_zero, List.getElem_cons_succ, List.setIfInBounds_toArray, List.set_cons_zero, List.set_cons_succ]
          refine wpAnyH_take (i := 12) (v := ?v12) rfl (by kernel_rfl) (by kernel_rfl) (by kernel_rfl) (fun _ _ _ h => h) (Or.inl ⟨by rfl, ?hy12⟩) h0_1 ?rest12
          case hy12 => (intro w' hS; (try dsimp only at hS); go_simp; try (with_reducible rfl))
          simp only [Act.put, List.getElem_toArray, List.getElem_cons_zero, List.getElem_cons_succ, List.setIfInBounds_toArray]
          try simp only [List.set_cons_succ]
          try simp only [List.set_cons_zero]
          refine wpAnyH_done (by kernel_rfl) ?_ _
          have BF := Lib.hid (below_on F3.out Bc.out)
          have WB := Lib.hid (below_on W3.out Bc.out)
          have d2 := kept WB.out C2.out
          clear h0_1 KS P8 CM
          cases bb
          · have HA2 := Lib.hid (show false = (L.take (t + 1)).all (lineB P) by rw [AS.out]; simp)
            go_wp2_with fail
            go_roundw
            case rel => exact ⟨t + 1, false, rfl, by go_num, by omega, HA2, ZN2, BF⟩
            case measure => simp [intOf]; omega
          · by_cases k1 : k < 0
            · have HA2 := Lib.hid (show true = (L.take (t + 1)).all (lineB P) by rw [AS.out]; simp [k1])
              go_wp2_with fail
              go_roundw
              case rel => exact ⟨t + 1, true, rfl, by go_num, by omega, HA2, ZN2, BF⟩
              case measure => simp [intOf]; omega
            · by_cases k2 : k = 0
              · have HA2 := Lib.hid (show (!ys) = (L.take (t + 1)).all (lineB P) by rw [AS.out]; simp [k2])
                have k2' : (k == 0) = true := by simpa using k2
                clear k2
                go_wp2_with fail
                go_roundw
                case rel => exact ⟨t + 1, !ys, rfl, by go_num, by omega, HA2, ZN2, BF⟩
                case measure => simp [intOf]; omega
              · have HA2 := Lib.hid (show false = (L.take (t + 1)).all (lineB P) by rw [AS.out]; simp [k1, k2])
                have k2' : (k == 0) = false := by simpa using k2
                clear k2
                go_wp2_with fail
                go_roundw
                case rel => exact ⟨t + 1, false, rfl, by go_num, by omega, HA2, ZN2, BF⟩
                case measure => simp [intOf]; omega
        · have e : L.take t = L := List.take_of_length_le (by have := HM.out; omega)
          rw [e] at HA
          have HE := Lib.hid (show E = 0 by
            rw [ET.out]
            refine totE_none fun y hy => ?_
            obtain ⟨k, hk, rfl⟩ := List.getElem_of_mem hy
            exact HZ.out k hk (by have := HM.out; omega))
          have HF := Lib.hid (show B = bb by rw [B1.out HE.out, HA.out])
          clear e
          go_wp2_with fail
          refine bodyPost_ret (v := .tuple #[.bool B, .int .i64 E]) (by rw [HE.out, HF.out]; simp [results, Tryz.results24, go_sem]) rfl ⟨rfl, HW.out⟩

theorem meets_any (n : Int) (L : List AV) (P : List Pq) (la po : Option Addr) (lc pc : Nat) (w : World) (hR : RdV w la L) (hS : Rd2 w po P) (hL : ∀ y ∈ L, y.a.length ≤ 1000000 ∧ ∀ v ∈ y.a, I64 v) (hB : ∀ y ∈ L, I64 y.b) (hP : ∀ t, t < P.length → I2 (gp P t)) (hp : P.length ≤ 1000) :
    Calls Tryz.prog 32 #[.int .i64 n, .slice la L.length lc, .slice po P.length pc] w (Made (.tuple #[.bool (hasB n L P), .bool (decide (hasE n L P = 0))]) w) := by
  have HA := Lib.hid (rhas_any n L P la po lc pc w hR hS hL hB hP hp)
  obtain ⟨E, hE⟩ : ∃ E, E = hasE n L P := ⟨_, rfl⟩
  rw [← hE] at HA ⊢
  generalize hasB n L P = B at *
  clear hR hS hL hB hP hp hE
  generalize L.length = l1 at *
  generalize P.length = l2 at *
  go_enter Tryz.func32, Tryz.ntmps32
  go_wp2_with fail
  refine HA.out.mono ?_
  rintro e w1 ⟨rfl, hb⟩
  have B1 := Lib.hid hb
  clear hb
  by_cases e0 : E = 0
  · subst e0
    go_wp2_with fail
    refine bodyPost_ret (v := .tuple #[.bool B, .bool (decide ((0 : Int) = 0))]) (by simp [results, Tryz.results32, go_sem]) rfl ⟨rfl, B1.out⟩
  · have e1 : (E == 0) = false := by simpa using e0
    go_wp2_with fail
    refine bodyPost_ret (v := .tuple #[.bool B, .bool (decide (E = 0))]) (by simp [results, Tryz.results32, go_sem, e0]) rfl ⟨rfl, B1.out⟩
end Go.Proofs.YtbhaoaobhgilkaaGreat
