/- The contract of Point of layer 7's reference, in the words of the project's. -/
import Derived.Test.YtbhaoaobhgilkaaGreatVa44
import Derived.Test.YtbhaoaobhgilkaaGreatVa43

namespace Go.Proofs.YtbhaoaobhgilkaaGreat
open Go.RowKit Go.Sort Go.Shelf

theorem es_zero (w : World) : (zeroValue 98).run Tryz.prog w = .ok (.agg ⟨EsC en0 en0⟩) w := (zero_of_info (show (Tryz.prog.info? 98).map (fun i => (i.zero, i.size)) = some (some (.agg ⟨EsC en0 en0⟩), 8) by kernel_rfl)).1 w

/-- What Point leaves. -/
def PtO (n : Int) (L : List AV) (w : World) (e : Ending) (w' : World) : Prop :=
  Below w.heap.size w w' ∧ ((ponE n L = 0 ∧ ∃ po pc, e = .returned (.tuple #[.slice po (ptN (L.map ofV) n.toNat n.toNat).1.length pc, .int .i64 0]) ∧ Rd2 w' po (ptN (L.map ofV) n.toNat n.toNat).1) ∨ (ponE n L ≠ 0 ∧ e = .returned (.tuple #[.slice none 0 0, .int .i64 (ponE n L)])))

theorem point_out (n : Int) (L : List AV) (ao : Option Addr) (cap : Nat) (w : World) (hR : RdV w ao L) : Calls Tryz.prog 25 #[.int .i64 n, .slice ao L.length cap] w (PtO n L w) := by
  refine (pointP_any n L ao cap w hR).mono fun e w' ⟨hb, h⟩ => ⟨hb, ?_⟩
  rcases h with ⟨he, v, rfl, ao', cap', rfl, hr, _⟩ | ⟨he, rfl⟩
  · exact Or.inl ⟨he, ao', cap', rfl, hr⟩
  · exact Or.inr ⟨he, rfl⟩

theorem pon_of {n : Nat} {L : List AV} (hc : chkP n L = 0) (hs : shE (L.map ofV) n n = 0) (hem : empB (L.map ofV) n = false) : ponE n L = (ptN (L.map ofV) n n).2 := by
  unfold ponE
  rw [if_pos hc, Int.toNat_natCast]
  unfold poE
  rw [if_pos hs]
  unfold ptE
  rw [hem]; rfl

theorem e7_of {e : Int} (h : E7 e) (hn : e ≠ 0) : e = 7 := by rcases h with q | q <;> first | exact absurd q hn | exact q

set_option maxRecDepth 100000 in
set_option maxHeartbeats 8000000 in
theorem rpoint_any (n : Int) (L : List AV) (ao : Option Addr) (cap : Nat) (w : World) (hR : RdV w ao L) (hY : ∀ y ∈ L, y.a.length ≤ 1000000 ∧ NilOk y) :
    Calls Tryz.prog 26 #[.int .i64 n, .slice ao L.length cap] w (PtO n L w) := by
  have EM := Lib.hid (remptyP_any n L ao cap w hR hY)
  by_cases h0 : empE n L = 0
  case neg =>
    have HP := Lib.hid (show ponE n L = empE n L by
      unfold empE at h0 ⊢
      unfold ponE
      by_cases hc : chkP n L = 0
      · rw [if_pos hc] at h0 ⊢
        rw [if_pos hc]
        unfold poE
        rw [if_neg h0]
      · rw [if_neg hc, if_neg hc])
    have h0' : (empE n L != 0) = true := by simpa using h0
    have NE := Lib.hid h0
    have FIN := Lib.hid (show ∀ w', Below w.heap.size w w' → PtO n L w (.returned (.tuple #[.slice none 0 0, .int .i64 (empE n L)])) w' from fun w' hb => ⟨hb, Or.inr ⟨by rw [HP.out]; exact NE.out, by rw [HP.out]⟩⟩)
    rw [if_neg h0] at EM
    generalize empE n L = c at *
    generalize L.length = m at *
    clear hR hY h0 HP NE
    go_enter Tryz.func26, Tryz.ntmps26
    go_wp2_with fail
    refine EM.out.mono ?_
    rintro e w1 ⟨rfl, hb⟩
    have B1 := Lib.hid hb
    clear hb
    go_wp2_with fail
    refine bodyPost_ret (v := .tuple #[.slice none 0 0, .int .i64 c]) (by simp [results, Tryz.results26, go_sem]) rfl ?_
    exact FIN.out _ B1.out
  have hc : chkP n L = 0 := by
    unfold empE at h0
    by_cases hc : chkP n L = 0
    · exact hc
    · rw [if_neg hc] at h0; exact absurd h0 hc
  obtain ⟨⟨g1, g2⟩, g3, g4⟩ := chk_valid hc
  obtain ⟨n', rfl⟩ : ∃ n' : Nat, n = n' := ⟨n.toNat, by omega⟩
  have hs0 : shE (L.map ofV) n' n' = 0 := by
    unfold empE at h0
    rw [if_pos hc, Int.toNat_natCast] at h0
    exact h0
  rw [h0, if_pos rfl, Int.toNat_natCast] at EM
  have FV : ∀ z ∈ L, FitV n' z ∧ NilOk z := fun z hz => ⟨by simpa using valid_fitV (g4 z hz), (hY z hz).2⟩
  cases hem : empB (L.map ofV) n'
  case true =>
    have FIN := Lib.hid (show ∀ w', Below w.heap.size w w' → PtO n' L w (.returned (.tuple #[.slice none 0 0, .int .i64 4])) w' from fun w' hb => by
      have e : ponE n' L = 4 := by
        unfold ponE
        rw [if_pos hc, Int.toNat_natCast]
        unfold poE
        rw [if_pos hs0]
        unfold ptE
        rw [hem]; rfl
      exact ⟨hb, Or.inr ⟨by rw [e]; decide, by rw [e]⟩⟩)
    rw [hem] at EM
    generalize L.length = m at *
    clear hR hY h0 hc g1 g2 g3 g4 hs0 FV hem
    go_enter Tryz.func26, Tryz.ntmps26
    go_wp2_with fail
    refine EM.out.mono ?_
    rintro e w1 ⟨rfl, hb⟩
    have B1 := Lib.hid hb
    clear hb
    go_wp2_with fail
    refine bodyPost_ret (v := .tuple #[.slice none 0 0, .int .i64 4]) (by simp [results, Tryz.results26, go_sem]) rfl ?_
    exact FIN.out _ B1.out
  rw [hem] at EM
  have hpe := pon_of hc hs0 hem
  have zr := ofV_zr g4 (by omega)
  obtain ⟨d1, d2, d3⟩ := ofV_dom (n := n') (by omega) (fun y hy => (FV y hy).1)
  have hll : (L.map ofV).length ≤ 2000 := by rw [List.length_map]; omega
  have TD := Lib.hid (fun W (h : Below w.heap.size w W) => rtidy_any n' L ao cap W (by omega) (by omega) (hR.on h) (fun y hy => by
    obtain ⟨⟨h1, h2, h3⟩, h4⟩ := FV y hy
    exact ⟨h1, h4, fun v hv => by have := h2 v hv; unfold A63; omega, by unfold A63; omega⟩))
  rw [d3, tidy_tk (by omega) d1] at TD
  have rg := tidyL_rg (m := 2147483647) (by omega) d2
  have dm : ∀ x ∈ tidyL (L.map ofV), DomN n' x := fun x hx => by
    have := tidy_zr (J := fun j => n' ≤ j) (l := L.map ofV) (fun y hy => ⟨(d1 y hy).1, (d1 y hy).2⟩) x hx
    exact ⟨this.1, this.2⟩
  have RGT := Lib.hid rg
  have DN := Lib.hid (fun i (hi : i < n') W ao R cap (h : Shown W ao R n' (tidyL (L.map ofV))) => rdown_any n' (i + 1) R (tidyL (L.map ofV)) ao cap W (by omega) (by omega) (tidyL_len hll (by omega)) h dm rg)
  have DE := Lib.hid (show ∀ i, i < n' → dnE (tidyL (L.map ofV)) n' (n' - (i + 1)) = 0 ∧ dnL (tidyL (L.map ofV)) n' (n' - (i + 1)) = shL (L.map ofV) n' (n' - (i + 1)) from fun i hi => by
    refine ⟨?_, (dn_sh _ _ _).1⟩
    rw [(dn_sh (L.map ofV) n' (n' - (i + 1))).2]
    by_cases q : shE (L.map ofV) n' (n' - (i + 1)) = 0
    · exact q
    · have := shE_stop q (i + 1)
      rw [show n' - (i + 1) + (i + 1) = n' by omega] at this
      rw [this] at hs0; exact absurd hs0 q)
  have KN := Lib.hid (fun t (ht : t < n') h => pt_known (l := L.map ofV) (n := n') (by omega) zr d2 hll hs0 hem ht h)
  have SG := Lib.hid (show ∀ t, t < n' → ∀ x ∈ shL (L.map ofV) n' (n' - (t + 1)), Rg 2147483647 x from fun t ht => by
    refine (shL_ok hll d2 _ ?_).2
    have := (DE.out t ht).1
    rwa [(dn_sh (L.map ofV) n' (n' - (t + 1))).2] at this)
  have SLN := Lib.hid (show ∀ t, t < n' → (shL (L.map ofV) n' (n' - (t + 1))).length ≤ 2000 from fun t ht => by
    refine (shL_ok hll d2 _ ?_).1
    have := (DE.out t ht).1
    rwa [(dn_sh (L.map ofV) n' (n' - (t + 1))).2] at this)
  have N5 := Lib.hid (show n' ≤ 5 by omega)
  obtain ⟨l, hl⟩ : ∃ l, l = L.map ofV := ⟨_, rfl⟩
  have FBAD := Lib.hid (show ∀ t, t < n' → (ptN l n' t).2 = 0 → (ptN l n' (t + 1)).2 ≠ 0 → E7 (ptN l n' (t + 1)).2 → ∀ w', Below w.heap.size w w' → PtO n' L w (.returned (.tuple #[.slice none 0 0, .int .i64 7])) w' from fun t ht _ hn h7 w' hb => by
    have e : ponE n' L = 7 := by
      rw [hpe, ← hl, ptN_end (t := t + 1) (by omega) hn]
      exact e7_of h7 hn
    exact ⟨hb, Or.inr ⟨by rw [e]; decide, by rw [e]⟩⟩)
  have FGOOD := Lib.hid (show ∀ w' po pc, (ptN l n' n').2 = 0 → Below w.heap.size w w' → Rd2 w' po (ptN l n' n').1 → PtO n' L w (.returned (.tuple #[.slice po (ptN l n' n').1.length pc, .int .i64 0])) w' from fun w' po pc h hb hr => by
    refine ⟨hb, Or.inl ⟨by rw [hpe, ← hl]; exact h, po, pc, ?_, ?_⟩⟩
    · rw [Int.toNat_natCast, ← hl]
    · rw [Int.toNat_natCast, ← hl]; exact hr)
  rw [← hl] at TD DN DE KN SG RGT SLN
  obtain ⟨m, hm⟩ : ∃ m, m = L.length := ⟨_, rfl⟩
  rw [← hm] at EM TD ⊢
  clear hR hY h0 hc g1 g2 g3 g4 hs0 FV hem hpe zr d1 d2 d3 hll rg dm hl hm
  have hz := es_zero
  go_enter Tryz.func26, Tryz.ntmps26
  go_wp2_with fail
  refine EM.out.mono ?_
  rintro e w1 ⟨rfl, hb⟩
  have B1 := Lib.hid hb
  clear hb EM
  go_wp2_with fail
  go_loopw [8, 9, 10, 11, 12, 13, 14, 15] (fun p s _ _ _ _ _ _ wr => ∃ i : Nat, s = .int .i64 i ∧ i ≤ n' ∧ Hid ((ptN l n' i).2 = 0) ∧ Hid (OwnQ wr w.heap.size p (ptN l n' i).1) ∧ Hid (Below w.heap.size w wr)) (fun _ s _ _ _ _ _ _ _ => n' - (intOf s).toNat)
  case atStart => exact ⟨0, rfl, by omega, Lib.hid rfl, Lib.hid (OwnQ.nil _ _), B1⟩
  case round =>
    obtain ⟨i, rfl, hi, HZ, HO, HB⟩ := hrel
    generalize wr = wo at *
    by_cases hin : i < n'
    · obtain ⟨k1, k2, k3, k4, k5⟩ := KN.out i hin HZ.out
      have V1 := Lib.hid k1
      have V2 := Lib.hid k2
      have V3 := Lib.hid k3
      have V4 := Lib.hid k4
      have V5 := Lib.hid k5
      obtain ⟨ap, cp, hv, hrd, _⟩ := HO.out.read
      obtain ⟨P, hPP⟩ : ∃ P, P = (ptN l n' i).1 := ⟨_, rfl⟩
      have STEP := Lib.hid (ptN_step HZ.out (s := shL l n' (n' - (i + 1))) rfl (p := (ptN l n' i).1) rfl)
      obtain ⟨s, hs⟩ : ∃ s, s = shL l n' (n' - (i + 1)) := ⟨_, rfl⟩
      have SGi := Lib.hid (SG.out i hin)
      have SLi := Lib.hid (SLN.out i hin)
      have DEi := Lib.hid (DE.out i hin)
      have DNi := Lib.hid (DN.out i hin)
      rw [(DEi.out).1, (DEi.out).2] at DNi
      rw [← hPP] at V1 V2 V3 V4 V5 STEP HO hrd hv
      rw [← hs] at V3 V4 V5 STEP SGi DNi SLi
      have PI := Lib.hid (show ∀ t, t < P.length → I2 (gp P t) from fun t ht => by
        have := V1.out t (by have := V2.out; omega)
        unfold vR vldB at this
        simp at this
        unfold I2 I64; omega)
      have FB := Lib.hid (FBAD.out i hin HZ.out)
      have PL := Lib.hid (show P.length = i from V2.out)
      subst hv
      rw [PL.out]
      have PR := Lib.hid hrd
      have T1 := Lib.hid (TD.out wo HB.out)
      have HI := Lib.hid hin
      have hin2 : (i : Int) < (n' : Int) := by omega
      have n5 := N5.out
      have hw1 : wrap64 ((i : Int) + 1) = (i : Int) + 1 := by unfold wrap64; omega
      have hw2 : IntKind.i64.wrap ((i : Int) + 1) = (i : Int) + 1 := wrap_in _ (by omega) (by omega)
      clear k1 k2 k3 k4 k5 hPP hs DEi hrd hin
      go_wp2_with fail
      refine T1.out.mono ?_
      rintro e w2 ⟨v, R, rfl, hOv, hmap, hb⟩
      obtain ⟨ro, rc, hv2, hrv, _⟩ := hOv.read
      have SH := Lib.hid (show Shown w2 ro R n' (tidyL l) from ⟨hrv, fun y hy => ⟨fit_all (by omega) hmap RGT.out y hy, hOv.nil y hy⟩, hmap⟩)
      subst hv2
      have BW2 := Lib.hid hb
      have D2 := Lib.hid (DNi.out w2 ro R rc SH.out)
      have hn1 : ((i + 1 : Nat) : Int) = (i : Int) + 1 := by omega
      rw [hn1] at D2
      obtain ⟨rl, hrl⟩ : ∃ rl, rl = R.length := ⟨_, rfl⟩
      rw [← hrl] at D2 ⊢
      clear hOv hmap hb hrv T1 hn1 hrl DNi SH
      go_wp2_with fail
      refine D2.out.mono ?_
      rintro e w3 (⟨_, ro2, rc2, R2, rfl, hsh, hb⟩ | ⟨he, _⟩)
      rotate_left
      · exact absurd rfl he
      have BW3 := Lib.hid (below_on BW2.out hb)
      have S3 := Lib.hid hsh
      obtain ⟨m2, hm2⟩ : ∃ m2, m2 = R2.length := ⟨_, rfl⟩
      have M2 := Lib.hid hm2
      have LS := Lib.hid (show m2 = s.length by rw [hm2]; exact hsh.len)
      have m2000 : m2 ≤ 2000 := by rw [LS.out]; exact SLi.out
      rw [← hm2]
      obtain ⟨w4, hw4⟩ : ∃ w4, w4 = w3.alloc (.cells ⟨EsC en0 en0⟩ 98) := ⟨_, rfl⟩
      obtain ⟨q, hq⟩ : ∃ q, q = w3.heap.size := ⟨_, rfl⟩
      have R4 := Lib.hid (show RowC w4 q (EsC en0 en0) by rw [hw4, hq]; exact RowC.made _ _)
      have B34 := Lib.hid (show Below w3.heap.size w3 w4 by rw [hw4]; exact one_more _)
      have QE := Lib.hid hq
      clear hb hsh D2 hm2 hw1 hw2
      go_upto_region 14 with (fail)
      rw [← hw4, ← hq]
      clear hw4 hq
      go_wp2_with fail
      go_loopw [13, 14] (fun u _ wr => ∃ t : Nat, u = .int .i64 t ∧ t ≤ m2 ∧ Hid ((enN s i P t).2 = 0) ∧ Hid (RowC wr q (EsC (enN s i P t).1.1 (enN s i P t).1.2)) ∧ Hid (Below w3.heap.size w3 wr)) (fun u _ _ => m2 - (intOf u).toNat)
      case atStart => exact ⟨0, rfl, by omega, Lib.hid rfl, R4, B34⟩
      case round =>
        clear R4 B34
        obtain ⟨t, rfl, ht, HE, HR, HW⟩ := hrel
        generalize wr = wi at *
        have n64 := enN_64 s i P t
        by_cases htm : t < m2
        · have hlt : t < R2.length := by have := M2.out; omega
          have hls : t < s.length := by have := LS.out; omega
          obtain ⟨pa, hpa, hAv⟩ := (S3.out.rd.on HW.out).at_ t hlt
          have hmem := List.getElem_mem hlt
          have YOK := Lib.hid (S3.out.ok _ hmem)
          have YN := Lib.hid ((S3.out.rd.on HW.out).nums _ hmem)
          obtain ⟨x, hx⟩ : ∃ x, s.getD t ln0 = x := ⟨_, rfl⟩
          have XL := Lib.hid (show lnV R2[t] = tk (i + 1) x by
            have h1 : (R2.map lnV)[t]? = (s.map (tk (i + 1)))[t]? := by rw [S3.out.eq]
            rw [List.getElem?_map, List.getElem?_map, List.getElem?_eq_getElem hlt, List.getElem?_eq_getElem hls] at h1
            have h2 : s[t] = x := by rw [← hx, List.getD_eq_getElem?_getD, List.getElem?_eq_getElem hls]; rfl
            rw [← h2]
            simpa using h1)
          have XM := Lib.hid (show x ∈ s by rw [← hx, List.getD_eq_getElem?_getD, List.getElem?_eq_getElem hls]; exact List.getElem_mem hls)
          have XD := Lib.hid hx
          generalize R2[t] = y at *
          have yl : y.a.length = i + 1 := YOK.out.1.1
          obtain ⟨rb, ro3, hyq, hrb, hrc⟩ := line_at (i := i) (by omega) yl YOK.out.2 YN.out
          have c0 := hrc i (by omega)
          have c00 : wi.cell? (pa.add (t * 3)) = some (.slice (some ⟨rb, ro3, none⟩) (i + 1) y.c) := by
            have := hAv 0 _ rfl
            rw [show (pa.add (t * 3)).add 0 = pa.add (t * 3) by simp [Addr.add]] at this
            rw [this, ← hyq, yl]
          have AV0 := Lib.hid hAv
          obtain ⟨g, hg⟩ : ∃ g, g = gA y.a i := ⟨_, rfl⟩
          have GX := Lib.hid (show g = gA x.a i by rw [hg]; have := congrArg (fun z : Ln => gA z.a i) XL.out; exact this.trans (gA_tk (by omega) x))
          rw [← hg] at c0
          have tm : (t : Int) < (m2 : Int) := by omega
          have i1 : (i : Int) < ((i + 1 : Nat) : Int) := by omega
          subst hpa
          clear hlt hls hmem hx yl hyq hrb hrc hAv hg
          by_cases g0 : g = 0
          · have EN := Lib.hid (show enN s i P (t + 1) = enN s i P t from enN_none HE.out XD.out (by rw [← GX.out]; exact g0))
            have g1 : (g == 0) = true := by simpa using g0
            have HE2 := Lib.hid (show (enN s i P (t + 1)).2 = 0 by rw [EN.out]; exact HE.out)
            have HR2 := Lib.hid (show RowC wi q (EsC (enN s i P (t + 1)).1.1 (enN s i P (t + 1)).1.2) by rw [EN.out]; exact HR.out)
            clear g0
            go_wp2_with fail
            go_roundw
            case rel => exact ⟨t + 1, by go_num, by omega, HE2, HR2, HW⟩
            case measure => simp [intOf]; omega
          · obtain ⟨s1, s2⟩ := enN_step V3.out (by have := LS.out; omega) XD.out HE.out (by rw [← GX.out]; exact g0)
            obtain ⟨f1, f2, f3⟩ := fd_tk (x := x) PL.out
            have FY := Lib.hid (show fdE (lnV y) i P = fdE x i P ∧ rbS (lnV y) i P (enN s i P t).1 = rbS x i P (enN s i P t).1 by rw [XL.out]; exact ⟨f1, rbS_tk PL.out _⟩)
            have g1 : (g == 0) = false := by simpa using g0
            have BD := Lib.hid (rbounds_any y P (enN s i P t).1.1 (enN s i P t).1.2 q ap cp wi HR.out (by have := YOK.out.1.1; have := PL.out; omega) (by have := YOK.out.1.1; omega) YN.out ((PR.out.on BW3.out).on HW.out) (fun v hv => by have := YOK.out.1.2.1 v hv; unfold I64; omega) (by have := YOK.out.1.2.2; unfold I64; omega) PI.out n64.1 n64.2)
            rw [PL.out, FY.out.1] at BD
            have FY2 := FY.out.2
            have e2 : ((enN s i P t).1.1, (enN s i P t).1.2) = (enN s i P t).1 := rfl
            rw [e2, FY2] at BD
            obtain ⟨fe, hfe⟩ : ∃ fe, fe = fdE x i P := ⟨_, rfl⟩
            rw [← hfe] at BD s1 s2
            have S1 := Lib.hid s1
            have S2 := Lib.hid s2
            have QL := Lib.hid (show w3.heap.size ≤ q by rw [QE.out]; exact Nat.le_refl _)
            clear g0 s1 s2 f1 f2 f3 FY FY2 e2 hfe n64
            go_wp2_with (refine wpl_loadV rfl _ rfl _ rfl y AV0.out ?_)
            refine BD.out.mono ?_
            rintro e w5 (⟨he, rfl, hr5, hg5⟩ | ⟨he, rfl, hb5⟩)
            · have EN := S1.out he
              have HE2 := Lib.hid (show (enN s i P (t + 1)).2 = 0 by rw [EN])
              have HR2 := Lib.hid (show RowC w5 q (EsC (enN s i P (t + 1)).1.1 (enN s i P (t + 1)).1.2) by rw [EN]; exact hr5)
              have HW2 := Lib.hid (show Below w3.heap.size w3 w5 from HW.out.trans (GB.to_below hg5 QL.out HW.out.size))
              clear he hr5 hg5 EN BD c0 c00
              go_wp2_with fail
              go_roundw
              case rel => exact ⟨t + 1, by go_num, by omega, HE2, HR2, HW2⟩
              case measure => simp [intOf]; omega
            · have hne : (fe != 0) = true := by simpa using he
              have BX := Lib.hid (below_on HB.out (below_on BW3.out (below_on HW.out hb5)))
              have FIN := Lib.hid (FB.out (by
                rw [STEP.out]
                have h1 : (enN s i P (t + 1)).2 ≠ 0 := by rw [S2.out he]; exact he
                have h2 := enN_end (n := s.length) (show t + 1 ≤ s.length by have := LS.out; omega) h1
                rw [if_pos (by rw [h2]; exact h1)]
                show (enN s i P s.length).2 ≠ 0
                rw [h2]; exact h1) (by
                rw [STEP.out]
                have h1 : (enN s i P (t + 1)).2 ≠ 0 := by rw [S2.out he]; exact he
                have h2 := enN_end (n := s.length) (show t + 1 ≤ s.length by have := LS.out; omega) h1
                rw [if_pos (by rw [h2]; exact h1)]
                exact V4.out) _ BX.out)
              clear he hb5 BD c0 c00
              go_wp2_with fail
              refine bodyPost_ret (v := .tuple #[.slice none 0 0, .int .i64 7]) (by simp [results, Tryz.results26, go_sem]) rfl ?_
              exact FIN.out
        · have e9 : t = s.length := by have := LS.out; omega
          have HE9 := Lib.hid (show (enN s i P s.length).2 = 0 by rw [← e9]; exact HE.out)
          have V59 := Lib.hid (V5.out HE9.out)
          have CHO := Lib.hid (rchosen_any (enN s i P t).1.1 (enN s i P t).1.2 q wi HR.out n64.1 n64.2)
          rw [e9] at CHO
          have ST2 := Lib.hid STEP.out
          rw [if_neg (fun k => k HE9.out)] at ST2
          obtain ⟨bv, hbv⟩ : ∃ bv, bv = btV (enN s i P s.length).1.1 (enN s i P s.length).1.2 := ⟨_, rfl⟩
          obtain ⟨be, hbe⟩ : ∃ be, be = btE (enN s i P s.length).1.1 (enN s i P s.length).1.2 := ⟨_, rfl⟩
          rw [← hbv, ← hbe] at CHO ST2
          rw [← hbe] at V59
          have BWI := Lib.hid (below_on BW3.out HW.out)
          clear e9 hbv hbe n64 HE9 HE HR STEP V3 V4 V5
          go_wp2_with fail
          refine CHO.out.mono ?_
          rintro e w5 ⟨rfl, hb⟩
          have BW5 := Lib.hid (below_on BWI.out hb)
          obtain ⟨w6, hw6⟩ : ∃ w6, w6 = w5.alloc (.cells #[.int .i64 bv.1, .int .i64 bv.2] 50) := ⟨_, rfl⟩
          obtain ⟨b15, hb15⟩ : ∃ b, b = w5.heap.size := ⟨_, rfl⟩
          have P6 := Lib.hid (show Pair w6 b15 bv.1 bv.2 by rw [hw6, hb15]; exact Pair.made _ _ _ _)
          have BW6 := Lib.hid (show Below wo.heap.size wo w6 by rw [hw6]; exact BW5.out.alloc BW5.out.size _)
          clear hb CHO BWI
          go_upto_region 22 with (fail)
          rw [← hw6, ← hb15]
          clear hw6 hb15
          by_cases be0 : be = 0
          case neg =>
            have hne : (be != 0) = true := by simpa using be0
            have FIN := Lib.hid (FB.out (by rw [ST2.out, if_pos be0]; exact be0) (by rw [ST2.out, if_pos be0]; exact V59.out) _ (below_on HB.out BW6.out))
            clear be0
            go_wp2_with fail
            refine bodyPost_ret (v := .tuple #[.slice none 0 0, .int .i64 7]) (by simp [results, Tryz.results26, go_sem]) rfl ?_
            exact FIN.out
          have NX := Lib.hid (show ptN l n' (i + 1) = (P ++ [bv], 0) by rw [ST2.out, if_neg (fun k => k be0)])
          have hne : (be != 0) = false := by simpa using be0
          obtain ⟨f0, f1, _, _⟩ := P6.out.facts
          have B7 := Lib.hid (one_more (w1 := w6) (.cells #[.int .i64 bv.1, .int .i64 bv.2] 50))
          have Q7 := Lib.hid (show QAt (w6.alloc (.cells #[.int .i64 bv.1, .int .i64 bv.2] 50)) ⟨w6.heap.size, 0, none⟩ bv from (Pair.made w6 bv.1 bv.2 _).qAt)
          have HB7 := Lib.hid (below_on HB.out (below_on BW6.out B7.out))
          have HO7 := Lib.hid ((HO.out.on BW6.out).on B7.out)
          rw [PL.out] at HO7
          have z7 := HB7.out.size
          clear be0 ST2
          go_wp2_with (at_builtin; refine wpl_appQ rfl _ _ rfl w.heap.size _ P bv rfl HO7.out _ _ rfl Q7.out (by have := PL.out; have := N5.out; omega) z7 ?_)
          intro v' w8 o8 g8 _
          have BG := Lib.hid (Below.grown HB7.out g8 HB7.out.size (fun k hk => (World.ownsRow.lt HO7.out k hk).1))
          have OG := Lib.hid (show OwnQ w8 w.heap.size v' (ptN l n' (i + 1)).1 by rw [NX.out]; exact o8)
          have ZG := Lib.hid (show (ptN l n' (i + 1)).2 = 0 by rw [NX.out])
          have IN := HI.out
          clear o8 g8 z7 f0 f1
          go_wp2_with fail
          go_roundw
          case rel => exact ⟨i + 1, by go_num, by omega, ZG, OG, BG⟩
          case measure => simp [intOf]; omega
    · have e9 : i = n' := by omega
      rw [e9] at HZ HO
      obtain ⟨ap, cp, hv, hrd, _⟩ := HO.out.read
      subst hv
      have FIN := Lib.hid (FGOOD.out wo ap cp HZ.out HB.out hrd)
      obtain ⟨pl, hpl⟩ : ∃ pl, pl = (ptN l n' n').1.length := ⟨_, rfl⟩
      rw [← hpl] at FIN ⊢
      clear e9 hrd hpl
      go_wp2_with fail
      refine bodyPost_ret (v := .tuple #[.slice ap pl cp, .int .i64 0]) (by simp [results, Tryz.results26, go_sem]) rfl ?_
      exact FIN.out
end Go.Proofs.YtbhaoaobhgilkaaGreat
