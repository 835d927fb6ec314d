/- The law PolyProjects returns true. -/
import Derived.Test.YtefpaobboimakaaGreatHr49

namespace Go.Proofs.YtefpaobboimakaaGreat
open Go.RowKit Go.Sort Go.Shelf

theorem left_i {n I : Int} {L R : List AV} (hc : rwE n L I = 0) (hm : R.map lnV = leftL n I L) : ∀ y ∈ R, (y.a.length ≤ 1000000 ∧ ∀ v ∈ y.a, I64 v) ∧ I64 y.b := fun y hy => by
  obtain ⟨c1, c2, _⟩ := rwE_zero hc
  obtain ⟨⟨n0, n5⟩, _, hv⟩ := chk_valid c1
  have hw : leaveE (L.map ofV) I.toNat = 0 := by
    have := woE_rwE (n := n) (I := I) (L := L) (R := L) rfl
    rw [hc] at this
    unfold witE at this
    rw [if_pos c1] at this
    unfold woE at this
    rwa [if_pos c2] at this
  have rg := leaveL_rg (fun x hx => by
    obtain ⟨z, hz, rfl⟩ := List.mem_map.1 hx
    exact ofV_rg (by omega) (hv z hz)) hw
  have em : R.map lnV = (leaveL (L.map ofV) I.toNat).map (erL n.toNat I.toNat) := by
    rw [hm]
    unfold leftL
    rw [if_pos hc, woL_rwL rfl c1 c2]
  have hme : lnV y ∈ (leaveL (L.map ofV) I.toNat).map (erL n.toNat I.toNat) := by rw [← em]; exact List.mem_map.2 ⟨y, hy, rfl⟩
  obtain ⟨x, hx, e⟩ := List.mem_map.1 hme
  have r := rg x hx
  have ea : y.a = (x.a.take n.toNat).eraseIdx I.toNat := congrArg Ln.a e.symm
  have eb : y.b = x.b := congrArg Ln.b e.symm
  refine ⟨⟨?_, fun v hv => ?_⟩, ?_⟩
  · rw [ea]
    have := r.len
    have h2 := List.length_eraseIdx_le (x.a.take n.toNat) I.toNat
    rw [List.length_take] at h2
    omega
  · rw [ea] at hv
    have := r.a v (List.mem_of_mem_take (List.mem_of_mem_eraseIdx hv))
    exact ⟨by omega, by omega⟩
  · rw [eb]
    have := r.b
    exact ⟨by omega, by omega⟩

theorem addL_len (n i : Nat) (P : List Pq) : ∀ t, (addL n i P t).length ≤ 2 * t
  | 0 => by simp [addL]
  | t + 1 => by
    have := addL_len n i P t
    unfold addL
    rw [List.length_append]
    split <;> simp <;> omega

theorem addL_at {n i t : Nat} {P : List Pq} (h : t = i) : addL n i P (t + 1) = addL n i P t := by
  conv => lhs; unfold addL
  rw [if_pos h, List.append_nil]

theorem addL_add {n i t : Nat} {P : List Pq} (h : ¬ t = i) : addL n i P (t + 1) = addL n i P t ++ [⟨(List.replicate n 0).set t 1, (gp P t).1, false⟩, ⟨(List.replicate n 0).set t (-1), -(gp P t).1, false⟩] := by
  conv => lhs; unfold addL
  rw [if_neg h]

set_option maxRecDepth 100000 in
set_option maxHeartbeats 8000000 in
theorem projects_any (N I xb : Int) (xs : Bool) (L M : List AV) (xa aa : List Int) (P : List Pq) (la ma xq pa aq : Option Addr) (lc mc xc pc ac : Nat) (w : World) (hR : RdV w la L) (hS : RdV w ma M) (hL : ∀ y ∈ L, LineJ y) (hLN : ∀ y ∈ L, NilOk y) (hQ : Rd2 w pa P) (hQI : ∀ t, t < P.length → I2 (gp P t)) (hpc : P.length ≤ pc) :
    Calls Tryz.prog 6 #[.agg #[.int .i64 N, .slice la L.length lc, .slice ma M.length mc, .slice xq xa.length xc, .int .i64 xb, .bool xs, .int .i64 I, .slice pa P.length pc, .slice aq aa.length ac]] w (Made (.bool true) w) := by
  obtain ⟨l1, e1⟩ : ∃ n, n = L.length := ⟨_, rfl⟩
  obtain ⟨l2, e2⟩ : ∃ n, n = M.length := ⟨_, rfl⟩
  obtain ⟨l3, e3⟩ : ∃ n, n = xa.length := ⟨_, rfl⟩
  obtain ⟨n, e4⟩ : ∃ n, n = P.length := ⟨_, rfl⟩
  obtain ⟨l5, e5⟩ : ∃ n, n = aa.length := ⟨_, rfl⟩
  obtain ⟨w0, hw0⟩ : ∃ w0, w0 = w.alloc (.cells #[.int .i64 N, .slice la l1 lc, .slice ma l2 mc, .slice xq l3 xc, .int .i64 xb, .bool xs, .int .i64 I, .slice pa n pc, .slice aq l5 ac] 28) := ⟨_, rfl⟩
  have E0 := Lib.hid (show Below w.heap.size w w0 by rw [hw0]; exact one_more _)
  have hq := heap_alloc_last w (.cells #[.int .i64 N, .slice la l1 lc, .slice ma l2 mc, .slice xq l3 xc, .int .i64 xb, .bool xs, .int .i64 I, .slice pa n pc, .slice aq l5 ac] 28)
  rw [← hw0] at hq
  have D0 := Lib.hid (show w0.cell? ⟨w.heap.size, 0, none⟩ = some (.int .i64 N) by rw [cell_of_row w0 _ 0 _ _ _ hq]; rfl)
  have D1 := Lib.hid (show w0.cell? ⟨w.heap.size, 1, none⟩ = some (.slice la l1 lc) by rw [cell_of_row w0 _ 1 _ _ _ hq]; rfl)
  have D6 := Lib.hid (show w0.cell? ⟨w.heap.size, 6, none⟩ = some (.int .i64 I) by rw [cell_of_row w0 _ 6 _ _ _ hq]; rfl)
  have D7 := Lib.hid (show w0.cell? ⟨w.heap.size, 7, none⟩ = some (.slice pa n pc) by rw [cell_of_row w0 _ 7 _ _ _ hq]; rfl)
  have C0 := Lib.hid (show CsAt w0 ⟨w.heap.size, 0, none⟩ [.int .i64 N, .slice la l1 lc, .slice ma l2 mc, .slice xq l3 xc, .int .i64 xb, .bool xs, .int .i64 I, .slice pa n pc, .slice aq l5 ac] from fun j v hv => by
    rw [addr_add, Nat.zero_add, cell_of_row w0 _ j _ _ _ hq]; simpa using hv)
  have BY := Lib.hid (beyond_any N I 8 xb xs L M xa aa P la ma xq pa aq lc mc xc pc ac w0 (hR.on E0.out) (hS.on E0.out))
  rw [← e1, ← e2, ← e3, ← e4, ← e5] at BY
  rw [← e4] at hpc
  have HR := Lib.hid (hR.on E0.out)
  have HQ := Lib.hid (hQ.on E0.out)
  have HL := Lib.hid hL
  have HLN := Lib.hid hLN
  have HQI := Lib.hid hQI
  have L1 := Lib.hid e1
  have P4 := Lib.hid e4
  have HP := Lib.hid hpc
  rw [← e1, ← e2, ← e3, ← e4, ← e5]
  clear hR hS hL hLN hQ hQI hq e1 e2 e3 e4 e5
  go_enter Tryz.func6, Tryz.ntmps6
  go_upto_region 1 with (fail)
  rw [← hw0]
  clear hw0
  go_wp2_with (refine wpl_loadC case_agg (by exact case_size) rfl _ rfl _ rfl C0.out ?_)
  refine BY.out.mono ?_
  rintro e w1 ⟨b, rfl, hbl, hF⟩
  have B1 := Lib.hid hbl
  have FK := Lib.hid hF
  clear hbl hF BY C0
  cases b
  case true =>
    go_wp2_with fail
    refine (shown_any w1).mono ?_
    rintro e w99 ⟨rfl, hbl⟩
    have B99 := Lib.hid (below_on E0.out (below_on B1.out hbl))
    clear hbl
    go_wp2_with fail
    go_ret
    exact ⟨rfl, B99.out⟩
  obtain ⟨⟨q1, q2, _⟩, _⟩ := FK.out (by first | rfl | trivial)
  have Y20 := Lib.hid q2
  have l12 : l1 ≤ 2000 := by rw [L1.out]; exact q1
  have c0 := kept B1.out D0.out
  have c6 := kept B1.out D6.out
  have c7 := kept B1.out D7.out
  clear FK q1 q2
  by_cases g1 : N < 1
  · have t1 : True := trivial
    go_wp2_with fail
    refine (shown_any w1).mono ?_
    rintro e w99 ⟨rfl, hbl⟩
    have B99 := Lib.hid (below_on E0.out (below_on B1.out hbl))
    clear hbl
    go_wp2_with fail
    go_ret
    exact ⟨rfl, B99.out⟩
  by_cases g2 : 5 < N
  · have t1 : True := trivial
    go_wp2_with fail
    refine (shown_any w1).mono ?_
    rintro e w99 ⟨rfl, hbl⟩
    have B99 := Lib.hid (below_on E0.out (below_on B1.out hbl))
    clear hbl
    go_wp2_with fail
    go_ret
    exact ⟨rfl, B99.out⟩
  by_cases g3 : (n : Int) = N
  case neg =>
    have g3' : ((n : Int) != N) = true := by simpa using g3
    clear g3
    go_wp2_with fail
    refine (shown_any w1).mono ?_
    rintro e w99 ⟨rfl, hbl⟩
    have B99 := Lib.hid (below_on E0.out (below_on B1.out hbl))
    clear hbl
    go_wp2_with fail
    go_ret
    exact ⟨rfl, B99.out⟩
  obtain rfl : N = (n : Int) := g3.symm
  clear g3
  have g3' : ((n : Int) != (n : Int)) = false := by simp
  by_cases g4 : I < 0
  · have t1 : True := trivial
    go_wp2_with fail
    refine (shown_any w1).mono ?_
    rintro e w99 ⟨rfl, hbl⟩
    have B99 := Lib.hid (below_on E0.out (below_on B1.out hbl))
    clear hbl
    go_wp2_with fail
    go_ret
    exact ⟨rfl, B99.out⟩
  by_cases g5 : (n : Int) ≤ I
  · have t1 : True := trivial
    go_wp2_with fail
    refine (shown_any w1).mono ?_
    rintro e w99 ⟨rfl, hbl⟩
    have B99 := Lib.hid (below_on E0.out (below_on B1.out hbl))
    clear hbl
    go_wp2_with fail
    go_ret
    exact ⟨rfl, B99.out⟩
  obtain ⟨i, rfl⟩ : ∃ i : Nat, I = (i : Int) := ⟨I.toNat, by omega⟩
  have hin : i < n := by omega
  have hn5 : n ≤ 5 := by omega
  have c1 := kept B1.out D1.out
  obtain ⟨er, her⟩ : ∃ er, er = rwE (n : Int) L (i : Int) := ⟨_, rfl⟩
  have ER := Lib.hid her
  have WO := Lib.hid (without_res (n := (n : Int)) (I := (i : Int)) (L := L) la lc w1 (HR.out.on B1.out) rfl)
  rw [← her, ← L1.out] at WO
  clear her
  go_wp2_with fail
  refine WO.out.mono ?_
  rintro e w2 ⟨v3, rfl, hA, hbl⟩
  have RA := Lib.hid hA
  have B2 := Lib.hid (below_on B1.out hbl)
  clear hA hbl WO c0 c1 c6 c7
  obtain ⟨ao, R, rc, ev, hRd, hRm⟩ := RA.out.rd
  subst ev
  have RD := Lib.hid hRd
  have RM := Lib.hid hRm
  obtain ⟨nr, hnr⟩ : ∃ nr, nr = R.length := ⟨_, rfl⟩
  have NR := Lib.hid hnr
  rw [← hnr]
  clear hRd hRm hnr RA
  by_cases er0 : er = 0
  case neg =>
    have er0' : (er != 0) = true := by simpa using er0
    obtain rfl : nr = 0 := by
      rw [NR.out]
      have h1 := RM.out
      unfold leftL at h1
      rw [if_neg (by rw [← ER.out]; exact er0)] at h1
      have := congrArg List.length h1
      simpa using this
    clear er0
    go_wp2_with fail
    refine (shown_any w2).mono ?_
    rintro e w99 ⟨rfl, hbl⟩
    have B99 := Lib.hid (below_on E0.out (below_on B2.out hbl))
    clear hbl
    go_wp2_with fail
    go_ret
    exact ⟨rfl, B99.out⟩
  have RI := Lib.hid (left_i (ER.out.symm.trans er0) RM.out)
  have PRJ := Lib.hid (fun (h1 : hasE (n : Int) L P = 0) (h2 : hasE ((n : Int) - 1) R (P.eraseIdx i) = 0) => prj_of hin (ER.out.symm.trans er0) RM.out h1 h2)
  subst er0
  clear ER RM
  obtain ⟨p0, hp0, zq⟩ := HQ.out 0 (by have := P4.out; omega)
  clear zq
  subst hp0
  have Q2 := Lib.hid (HQ.out.on B2.out)
  obtain ⟨wq, hwq⟩ : ∃ wq, wq = w2.alloc (.cells #[] 50) := ⟨_, rfl⟩
  have Bq := Lib.hid (show Below w2.heap.size w2 wq by rw [hwq]; exact one_more _)
  have OQ := Lib.hid (show OwnQ wq w2.heap.size (.slice (some ⟨w2.heap.size, 0, none⟩) 0 0) [] by rw [hwq]; exact OwnQ.empty w2 w2.heap.size (Nat.le_refl _))
  have c6 := kept (below_on B2.out Bq.out) D6.out
  have c7 := kept (below_on B2.out Bq.out) D7.out
  have TL := Lib.hid (show i = (P.take i).length by rw [List.length_take]; have := P4.out; omega)
  have R1 := Lib.hid ((Q2.out.take i).on Bq.out)
  have zb := Bq.out.size
  have ipc : i ≤ pc := by omega
  subst hwq
  go_upto_region 6 with (fail)
  go_wp2_with (first | refine wpl_hiQ rfl _ _ rfl p0 n pc i (i : Int) rfl rfl rfl ipc ?_ | (at_builtin; refine wpl_appQm rfl _ _ rfl w2.heap.size (.slice (some ⟨w2.heap.size, 0, none⟩) 0 0) [] (P.take i) i TL.out rfl OQ.out p0 pc rfl R1.out (by have := TL.out; simp only [List.length_nil]; omega) zb ?_))
  intro v5 w3 o1 g1'
  have B23 := Lib.hid (show Below w2.heap.size w2 w3 from Below.grown Bq.out g1' zb (fun k hk => by (have e : w2.heap.size = k := (by simpa [Value.ownBlock] using hk)); omega))
  have O1 := Lib.hid (show OwnQ w3 w2.heap.size v5 (P.take i) from o1)
  have B3 := Lib.hid (below_on B2.out B23.out)
  clear o1 g1' c6 c7 zb R1 OQ Bq
  have c6 := kept B3.out D6.out
  have c7 := kept B3.out D7.out
  have zb := B23.out.size
  obtain ⟨PA, hPA⟩ : ∃ PA, (if pc = i + 1 then p0 else p0.add ((i + 1) * 2)) = PA := ⟨_, rfl⟩
  have R2 := Lib.hid (show Rd2 w3 (some PA) (P.drop (i + 1)) by rw [← hPA]; exact (Q2.out.on B23.out).drop (i + 1) pc (by omega) (by have := P4.out; omega))
  have DL := Lib.hid (show n - (i + 1) = (P.drop (i + 1)).length by rw [List.length_drop]; have := P4.out; omega)
  have hw1 : wrap64 ((i : Int) + 1) = (i : Int) + 1 := by unfold wrap64; omega
  have hw2 : IntKind.i64.wrap ((i : Int) + 1) = (i : Int) + 1 := wrap_in _ (by omega) (by omega)
  have PAH := Lib.hid hPA
  clear hPA
  go_upto_region 7 with (fail)
  go_wp2_with (first | refine wpl_loQ rfl _ _ rfl p0 n pc (i + 1) ((i : Int) + 1) rfl rfl (by omega) (by omega) (by omega) PA PAH.out ?_ | (at_builtin; refine wpl_appQm rfl _ _ rfl w2.heap.size v5 (P.take i) (P.drop (i + 1)) (n - (i + 1)) DL.out rfl O1.out PA (pc - (i + 1)) rfl R2.out (by have := TL.out; have := DL.out; omega) zb ?_))
  intro v5' w4 o2 g2'
  have B24 := Lib.hid (show Below w2.heap.size w2 w4 from Below.grown B23.out g2' zb (fun k hk => O1.out.lt k hk))
  have B4 := Lib.hid (below_on B2.out B24.out)
  have O2 := Lib.hid (show OwnQ w4 w2.heap.size v5' (P.eraseIdx i) by rw [List.eraseIdx_eq_take_drop_succ]; exact o2)
  clear o2 g2' c6 c7 zb R2 O1 DL TL PAH hw1 hw2
  obtain ⟨po, pcc, ev, hQ2, _⟩ := O2.out.read
  subst ev
  have QP := Lib.hid hQ2
  obtain ⟨np, hnp⟩ : ∃ np, np = (P.eraseIdx i).length := ⟨_, rfl⟩
  have NP := Lib.hid hnp
  rw [← hnp]
  have np5 : np ≤ 5 := by
    rw [hnp]
    have := List.length_eraseIdx_le P i
    have := P4.out
    omega
  have QPI := Lib.hid (show ∀ t, t < (P.eraseIdx i).length → I2 (gp (P.eraseIdx i) t) from fun t ht => by
    have hle := List.length_eraseIdx_of_lt (l := P) (i := i) (by have := P4.out; omega)
    rw [gp_erase]
    split
    · exact HQI.out t (by omega)
    · exact HQI.out (t + 1) (by omega))
  clear hQ2 hnp O2
  obtain ⟨he1, hh1⟩ : ∃ he, he = hasE (n : Int) L P := ⟨_, rfl⟩
  obtain ⟨hb1, hx1⟩ : ∃ hb, hb = hasB (n : Int) L P := ⟨_, rfl⟩
  obtain ⟨he2, hh2⟩ : ∃ he, he = hasE ((n : Int) - 1) R (P.eraseIdx i) := ⟨_, rfl⟩
  obtain ⟨hb2, hx2⟩ : ∃ hb, hb = hasB ((n : Int) - 1) R (P.eraseIdx i) := ⟨_, rfl⟩
  have ME1 := Lib.hid (meets_any (n : Int) L P la (some p0) lc pc w4 (HR.out.on B4.out) (Q2.out.on B24.out) (fun y hy => ⟨by have := Y20.out y hy; omega, (HL.out y hy).1⟩) (fun y hy => (HL.out y hy).2) HQI.out (by have := P4.out; omega))
  have ME2 := Lib.hid (fun W (h : Below w2.heap.size w2 W) (h4 : Below w4.heap.size w4 W) => meets_any ((n : Int) - 1) R (P.eraseIdx i) ao po rc pcc W (RD.out.on h) (QP.out.on h4) (fun y hy => (RI.out y hy).1) (fun y hy => (RI.out y hy).2) QPI.out (by have := NP.out; omega))
  rw [← hh1, ← hx1, ← L1.out, ← P4.out] at ME1
  rw [← hh2, ← hx2, ← NR.out, ← NP.out] at ME2
  rw [← hh1, ← hh2] at PRJ
  have X1 := Lib.hid hx1
  have X2 := Lib.hid hx2
  have c0 := kept B4.out D0.out
  have c1 := kept B4.out D1.out
  have c7 := kept B4.out D7.out
  clear hh1 hx1 hh2 hx2
  go_wp2_with fail
  refine ME1.out.mono ?_
  rintro e w5 ⟨rfl, hbl⟩
  have B45 := Lib.hid hbl
  have B5 := Lib.hid (below_on B4.out hbl)
  clear hbl ME1 c0 c1 c7
  have c0 := kept B5.out D0.out
  have hw1 : wrap64 ((n : Int) - 1) = (n : Int) - 1 := by unfold wrap64; omega
  have hw2 : IntKind.i64.wrap ((n : Int) - 1) = (n : Int) - 1 := wrap_in _ (by omega) (by omega)
  go_wp2_with fail
  refine (ME2.out w5 (below_on B24.out B45.out) B45.out).mono ?_
  rintro e w6 ⟨rfl, hbl⟩
  have B6 := Lib.hid (below_on B5.out hbl)
  clear hbl ME2 c0 hw1 hw2 RI RD QP QPI Q2
  by_cases h1 : he1 = 0
  case neg =>
    rw [decide_eq_false h1]
    clear h1
    go_wp2_with fail
    refine (shown_any w6).mono ?_
    rintro e w99 ⟨rfl, hbl⟩
    have B99 := Lib.hid (below_on E0.out (below_on B6.out hbl))
    clear hbl
    go_wp2_with fail
    go_ret
    exact ⟨rfl, B99.out⟩
  by_cases h2 : he2 = 0
  case neg =>
    rw [decide_eq_true h1, decide_eq_false h2]
    clear h1 h2
    go_wp2_with fail
    refine (shown_any w6).mono ?_
    rintro e w99 ⟨rfl, hbl⟩
    have B99 := Lib.hid (below_on E0.out (below_on B6.out hbl))
    clear hbl
    go_wp2_with fail
    go_ret
    exact ⟨rfl, B99.out⟩
  obtain ⟨D, X, hPJ⟩ := PRJ.out h1 h2
  have PJ := Lib.hid hPJ
  have dn := Lib.hid (show hb1 = true → hb2 = true from fun h => by rw [X1.out] at h; rw [X2.out]; exact prj_down hPJ h)
  rw [decide_eq_true h1, decide_eq_true h2]
  clear h1 h2 hPJ PRJ
  cases hb2
  case false =>
    have b1f : hb1 = false := by
      cases hb1
      · rfl
      · exact absurd (dn.out rfl) (by decide)
    subst b1f
    clear dn
    go_wp2_with fail
    refine (shown_any w6).mono ?_
    rintro e w99 ⟨rfl, hbl⟩
    have B99 := Lib.hid (below_on E0.out (below_on B6.out hbl))
    clear hbl
    go_wp2_with fail
    go_ret
    exact ⟨rfl, B99.out⟩
  have RS := Lib.hid X2.out.symm
  clear dn X2 X1
  have LT := Lib.hid (lent_any L la lc w6 (HR.out.on B6.out) (by have := L1.out; omega) (fun y hy => ⟨by have := Y20.out y hy; omega, HLN.out y hy⟩))
  rw [← L1.out] at LT
  have c1 := kept B6.out D1.out
  cases hb1
  case false =>
    go_wp2_with fail
    refine LT.out.mono ?_
    rintro e w7 ⟨v10, K0, rfl, hO, hm, _, hbl⟩
    have B7 := Lib.hid (below_on B6.out hbl)
    have Z6 := Lib.hid B6.out.size
    have INI := Lib.hid (show ∃ K, OwnV w7 w6.heap.size v10 K ∧ K.map lnV = L.map lnV ++ addL n i P 0 ∧ (∀ j, j < 0 → j ≠ i → (gp P j).2 = 1) ∧ Below w0.heap.size w0 w7 ∧ w6.heap.size ≤ w7.heap.size from ⟨K0, hO, by rw [hm]; unfold addL; rw [List.append_nil], fun j hj => by omega, B7.out, hbl.size⟩)
    clear hO hm hbl LT c1 B7
    go_wp2_with fail
    go_loopw [10, 11] (fun v s wr => ∃ t : Nat, s = .int .i64 t ∧ t ≤ n ∧ Hid (∃ K, OwnV wr w6.heap.size v K ∧ K.map lnV = L.map lnV ++ addL n i P t ∧ (∀ j, j < t → j ≠ i → (gp P j).2 = 1) ∧ Below w0.heap.size w0 wr ∧ w6.heap.size ≤ wr.heap.size)) (fun _ s _ => n - (intOf s).toNat)
    case atStart => exact ⟨0, rfl, by omega, INI⟩
    case round =>
      clear INI
      obtain ⟨t, rfl, ht, HT⟩ := hrel
      generalize wr = wo at *
      obtain ⟨K, hO, hK, hd, hB, hZ⟩ := HT.out
      have HZ := Lib.hid hZ
      have HO := Lib.hid hO
      have HK := Lib.hid hK
      have HD := Lib.hid hd
      have HB := Lib.hid hB
      have KL := Lib.hid (show K.length ≤ 2010 by
        have h1 := congrArg List.length hK
        rw [List.length_map, List.length_append, List.length_map] at h1
        have := addL_len n i P t
        have := L1.out
        omega)
      clear hO hK hd hB hZ HT
      have c0 := kept HB.out D0.out
      by_cases htn : t < n
      · have htn' : (t : Int) < (n : Int) := by omega
        have c6 := kept HB.out D6.out
        by_cases ti : t = i
        · have ST := Lib.hid (show ∃ K, OwnV wo w6.heap.size u10 K ∧ K.map lnV = L.map lnV ++ addL n i P (t + 1) ∧ (∀ j, j < t + 1 → j ≠ i → (gp P j).2 = 1) ∧ Below w0.heap.size w0 wo ∧ w6.heap.size ≤ wo.heap.size from
            ⟨K, HO.out, by rw [addL_at ti]; exact HK.out, fun j hj hne => HD.out j (by omega) hne, HB.out, HZ.out⟩)
          have ti' : (t : Int) = (i : Int) := by omega
          rw [← ti'] at c6
          clear ti ti'
          go_wp2_with fail
          go_roundw
          case rel => exact ⟨t + 1, by go_num, by omega, ST⟩
          case measure => simp [intOf]; omega
        · have ti' : ((t : Int) == (i : Int)) = false := by simp; omega
          have ti2 : ¬ (t : Int) = (i : Int) := by omega
          have c7 := kept HB.out D7.out
          obtain ⟨pz9, epz9, hz9⟩ := HQ.out t (by have := P4.out; omega)
          cases epz9
          have Z00 := Lib.hid hz9.two.1
          obtain ⟨pz, epz, hz⟩ := (HQ.out.on HB.out) t (by have := P4.out; omega)
          cases epz
          have ZQ := Lib.hid hz.two
          obtain ⟨z, hzz⟩ : ∃ z, z = gp P t := ⟨_, rfl⟩
          rw [← hzz] at ZQ Z00
          obtain ⟨z0, z1⟩ := ZQ.out
          have ZE := Lib.hid hzz
          clear hz hz9 hzz
          by_cases d1 : z.2 = 1
          case neg =>
            have d1' : (z.2 != 1) = true := by simpa using d1
            clear d1
            go_wp2_with fail
            refine (shown_any wo).mono ?_
            rintro e w99 ⟨rfl, hbl⟩
            have B99 := Lib.hid (below_on E0.out (below_on HB.out hbl))
            clear hbl
            go_wp2_with fail
            go_ret
            exact ⟨rfl, B99.out⟩
          have d1' : (z.2 != 1) = false := by simpa using d1
          by_cases d2 : 1000 < z.1
          · have t1 : True := trivial
            go_wp2_with fail
            refine (shown_any wo).mono ?_
            rintro e w99 ⟨rfl, hbl⟩
            have B99 := Lib.hid (below_on E0.out (below_on HB.out hbl))
            clear hbl
            go_wp2_with fail
            go_ret
            exact ⟨rfl, B99.out⟩
          by_cases d3 : z.1 < -1000
          · have t1 : True := trivial
            go_wp2_with fail
            refine (shown_any wo).mono ?_
            rintro e w99 ⟨rfl, hbl⟩
            have B99 := Lib.hid (below_on E0.out (below_on HB.out hbl))
            clear hbl
            go_wp2_with fail
            go_ret
            exact ⟨rfl, B99.out⟩
          have HD1 := Lib.hid (show ∀ j, j < t + 1 → j ≠ i → (gp P j).2 = 1 from fun j hj hne => by
            by_cases e : j = t
            · rw [e, ← ZE.out]; exact d1
            · exact HD.out j (by omega) hne)
          have AD := Lib.hid (show addL n i P (t + 1) = addL n i P t ++ [⟨(List.replicate n 0).set t 1, z.1, false⟩, ⟨(List.replicate n 0).set t (-1), -z.1, false⟩] by rw [addL_add ti, ZE.out])
          have D0r := Lib.hid c0
          have D7r := Lib.hid c7
          have hwn1 : wrap64 (-z.1) = -z.1 := by unfold wrap64; omega
          have hwn2 : IntKind.i64.wrap (-z.1) = -z.1 := wrap_in _ (by omega) (by omega)
          clear HD ZE
          go_upto_region 23 with (fail)
          clear c0 c6 c7 z0 z1
          go_cut [12, 13] (fun s12 s13 wx => ∃ b12 b13 : Nat, s12 = .slice (some ⟨b12, 0, none⟩) n n ∧ s13 = .slice (some ⟨b13, 0, none⟩) n n ∧ Hid (OwnI wx wo.heap.size b12 n (List.replicate n 0)) ∧ Hid (OwnI wx wo.heap.size b13 n (List.replicate n 0)) ∧ Hid (Below wo.heap.size wo wx) ∧ b12 ≠ b13)
          case first =>
            have KS := Lib.hid (show ∀ W, Below wo.heap.size wo W → (W.cell? ⟨w.heap.size, 0, none⟩ = some (.int .i64 n) ∧ True) from fun W h => ⟨kept h D0r.out, trivial⟩)
            obtain ⟨wc, hwc⟩ : ∃ wc, wc = wo.drew := ⟨_, rfl⟩
            have Bc := Lib.hid (show Below wo.heap.size wo wc by rw [hwc]; exact (Below.refl _ _).drew)
            refine wp_region_held_drew (S := (fun W => (W.cell? ⟨w.heap.size, 0, none⟩ = some (.int .i64 n) ∧ True))) (by kernel_rfl) (by rw [← hwc]; exact KS.out _ Bc.out) (fun h0 => ?_)
            rw [← hwc] at h0 ⊢
            clear hwc
            refine wpAnyH_take (i := 0) (v := ?v1) rfl (by kernel_rfl) (by kernel_rfl) (by kernel_rfl) (fun _ _ _ h => h) (Or.inl ⟨by rfl, ?hy1⟩) h0 ?rest1
            case hy1 => (intro w' hS; (try dsimp only at hS); go_simp; try (with_reducible rfl))
            simp only [Act.put, List.getElem_toArray, List.getElem_cons_zero, List.setIfInBounds_toArray, List.set_cons_zero, List.set_cons_succ]
            refine wpAnyH_take (i := 1) (v := ?v2) rfl (by kernel_rfl) (by kernel_rfl) (by kernel_rfl) (fun _ _ _ h => h) (Or.inl ⟨by rfl, ?hy2⟩) h0 ?rest2
            case hy2 => (intro w' hS; (try dsimp only at hS); go_simp; try (with_reducible rfl))
            simp only [Act.put, List.getElem_toArray, List.getElem_cons_zero, List.getElem_cons_succ, List.setIfInBounds_toArray, List.set_cons_zero, List.set_cons_succ]
            refine wpAnyH_take (i := 3) (v := ?v3) rfl (by kernel_rfl) (by kernel_rfl) (by kernel_rfl) (fun _ _ _ h => h) (Or.inl ⟨by rfl, ?hy3⟩) h0 ?rest3
            case hy3 => (intro w' hS; (try dsimp only at hS); go_simp; try (with_reducible rfl))
            simp only [Act.put, List.getElem_toArray, List.getElem_cons_zero, List.getElem_cons_succ, List.setIfInBounds_toArray, List.set_cons_zero, List.set_cons_succ]
            refine wpAnyH_take (i := 4) (v := ?v4) rfl (by kernel_rfl) (by kernel_rfl) (by kernel_rfl) (fun _ _ _ h => h) (Or.inl ⟨by rfl, ?hy4⟩) h0 ?rest4
            case hy4 => (intro w' hS; (try dsimp only at hS); go_simp; try (with_reducible rfl))
            simp only [Act.put, List.getElem_toArray, List.getElem_cons_zero, List.getElem_cons_succ, List.setIfInBounds_toArray, List.set_cons_zero, List.set_cons_succ]
            refine wpAnyH_ready (rs := [2, 5]) (by kernel_rfl) (by simp) (AllReadyH.cons rfl (fun K hK => ?_) (AllReadyH.cons rfl (fun K hK => ?_) AllReadyH.nil))
            · rw [if_pos (by rfl)]
              refine wp_ms _ _ rfl n (by omega) rfl rfl ?_
              have hb := one_more (w1 := wc) (.cells (List.replicate n (Value.int .i64 0)).toArray 2)
              have hP := own_zeros wc n wo.heap.size Bc.out.size (by omega)
              obtain ⟨b12, hbb⟩ : ∃ b, b = wc.heap.size := ⟨_, rfl⟩
              rw [← hbb] at hP
              obtain ⟨wn, hwn⟩ : ∃ wn, wn = wc.alloc (.cells (List.replicate n (Value.int .i64 0)).toArray 2) := ⟨_, rfl⟩
              rw [← hwn] at hb hP ⊢
              try rw [← hbb]
              try (have NE := Lib.hid (show b13 ≠ b12 by have := P13.out.lt; omega))
              try (have P13 := Lib.hid (P13.out.on hb))
              have Bc := Lib.hid (below_on Bc.out hb)
              have P12 := Lib.hid hP
              clear hb hP hbb hwn
              obtain ⟨wc, hwc⟩ : ∃ wc, wc = wn := ⟨_, rfl⟩
              rw [← hwc] at Bc P12 ⊢
              try rw [← hwc] at P13
              clear hwc
              try simp only [Act.put, List.getElem_toArray, List.getElem_cons_zero, List.getElem_cons_succ, List.setIfInBounds_toArray, List.set_cons_zero, List.set_cons_succ]
              refine hK.out _ _ (KS.out _ Bc.out) (fun h0_1 => ?_)
              clear hK K h0
              refine wpAnyH_take (i := 6) (v := ?v5) rfl (by kernel_rfl) (by kernel_rfl) (by kernel_rfl) (fun _ _ _ h => h) (Or.inl ⟨by rfl, ?hy5⟩) h0_1 ?rest5
              case hy5 => (intro w' hS; (try dsimp only at hS); go_simp; try (with_reducible rfl))
              simp only [Act.put, List.getElem_toArray, List.getElem_cons_zero, List.getElem_cons_succ, List.setIfInBounds_toArray, List.set_cons_zero, List.set_cons_succ]
              refine wpAnyH_ready (rs := [5]) (by kernel_rfl) (by simp) (AllReadyH.cons rfl (fun K hK => ?_) AllReadyH.nil)
              rw [if_pos (by rfl)]
              refine wp_ms _ _ rfl n (by omega) rfl rfl ?_
              have hb := one_more (w1 := wc) (.cells (List.replicate n (Value.int .i64 0)).toArray 2)
              have hP := own_zeros wc n wo.heap.size Bc.out.size (by omega)
              obtain ⟨b13, hbb⟩ : ∃ b, b = wc.heap.size := ⟨_, rfl⟩
              rw [← hbb] at hP
              obtain ⟨wn, hwn⟩ : ∃ wn, wn = wc.alloc (.cells (List.replicate n (Value.int .i64 0)).toArray 2) := ⟨_, rfl⟩
              rw [← hwn] at hb hP ⊢
              try rw [← hbb]
              try (have NE := Lib.hid (show b12 ≠ b13 by have := P12.out.lt; omega))
              try (have P12 := Lib.hid (P12.out.on hb))
              have Bc := Lib.hid (below_on Bc.out hb)
              have P13 := Lib.hid hP
              clear hb hP hbb hwn
              obtain ⟨wc, hwc⟩ : ∃ wc, wc = wn := ⟨_, rfl⟩
              rw [← hwc] at Bc P13 ⊢
              try rw [← hwc] at P12
              clear hwc
              try simp only [Act.put, List.getElem_toArray, List.getElem_cons_zero, List.getElem_cons_succ, List.setIfInBounds_toArray, List.set_cons_zero, List.set_cons_succ]
              refine hK.out _ _ (KS.out _ Bc.out) (fun h0_2 => ?_)
              clear hK K h0_1
              refine wpAnyH_take (i := 7) (v := ?v6) rfl (by kernel_rfl) (by kernel_rfl) (by kernel_rfl) (fun _ _ _ h => h) (Or.inl ⟨by rfl, ?hy6⟩) h0_2 ?rest6
              case hy6 => (intro w' hS; (try dsimp only at hS); go_simp; try (with_reducible rfl))
              simp only [Act.put, List.getElem_toArray, List.getElem_cons_zero, List.getElem_cons_succ, List.setIfInBounds_toArray]
              try simp only [List.set_cons_succ]
              try simp only [List.set_cons_zero]
              refine wpAnyH_done (by kernel_rfl) ?_ _
              go_wp2_with fail
              go_meet
              case rel => exact ⟨b12, b13, rfl, rfl, P12, P13, Bc, by have := NE.out; omega⟩
            · rw [if_pos (by rfl)]
              refine wp_ms _ _ rfl n (by omega) rfl rfl ?_
              have hb := one_more (w1 := wc) (.cells (List.replicate n (Value.int .i64 0)).toArray 2)
              have hP := own_zeros wc n wo.heap.size Bc.out.size (by omega)
              obtain ⟨b13, hbb⟩ : ∃ b, b = wc.heap.size := ⟨_, rfl⟩
              rw [← hbb] at hP
              obtain ⟨wn, hwn⟩ : ∃ wn, wn = wc.alloc (.cells (List.replicate n (Value.int .i64 0)).toArray 2) := ⟨_, rfl⟩
              rw [← hwn] at hb hP ⊢
              try rw [← hbb]
              try (have NE := Lib.hid (show b12 ≠ b13 by have := P12.out.lt; omega))
              try (have P12 := Lib.hid (P12.out.on hb))
              have Bc := Lib.hid (below_on Bc.out hb)
              have P13 := Lib.hid hP
              clear hb hP hbb hwn
              obtain ⟨wc, hwc⟩ : ∃ wc, wc = wn := ⟨_, rfl⟩
              rw [← hwc] at Bc P13 ⊢
              try rw [← hwc] at P12
              clear hwc
              try simp only [Act.put, List.getElem_toArray, List.getElem_cons_zero, List.getElem_cons_succ, List.setIfInBounds_toArray, List.set_cons_zero, List.set_cons_succ]
              refine hK.out _ _ (KS.out _ Bc.out) (fun h0_1 => ?_)
              clear hK K h0
              refine wpAnyH_ready (rs := [2]) (by kernel_rfl) (by simp) (AllReadyH.cons rfl (fun K hK => ?_) AllReadyH.nil)
              rw [if_pos (by rfl)]
              refine wp_ms _ _ rfl n (by omega) rfl rfl ?_
              have hb := one_more (w1 := wc) (.cells (List.replicate n (Value.int .i64 0)).toArray 2)
              have hP := own_zeros wc n wo.heap.size Bc.out.size (by omega)
              obtain ⟨b12, hbb⟩ : ∃ b, b = wc.heap.size := ⟨_, rfl⟩
              rw [← hbb] at hP
              obtain ⟨wn, hwn⟩ : ∃ wn, wn = wc.alloc (.cells (List.replicate n (Value.int .i64 0)).toArray 2) := ⟨_, rfl⟩
              rw [← hwn] at hb hP ⊢
              try rw [← hbb]
              try (have NE := Lib.hid (show b13 ≠ b12 by have := P13.out.lt; omega))
              try (have P13 := Lib.hid (P13.out.on hb))
              have Bc := Lib.hid (below_on Bc.out hb)
              have P12 := Lib.hid hP
              clear hb hP hbb hwn
              obtain ⟨wc, hwc⟩ : ∃ wc, wc = wn := ⟨_, rfl⟩
              rw [← hwc] at Bc P12 ⊢
              try rw [← hwc] at P13
              clear hwc
              try simp only [Act.put, List.getElem_toArray, List.getElem_cons_zero, List.getElem_cons_succ, List.setIfInBounds_toArray, List.set_cons_zero, List.set_cons_succ]
              refine hK.out _ _ (KS.out _ Bc.out) (fun h0_3 => ?_)
              clear hK K h0_1
              refine wpAnyH_take (i := 6) (v := ?v7) rfl (by kernel_rfl) (by kernel_rfl) (by kernel_rfl) (fun _ _ _ h => h) (Or.inl ⟨by rfl, ?hy7⟩) h0_3 ?rest7
              case hy7 => (intro w' hS; (try dsimp only at hS); go_simp; try (with_reducible rfl))
              simp only [Act.put, List.getElem_toArray, List.getElem_cons_zero, List.getElem_cons_succ, List.setIfInBounds_toArray, List.set_cons_zero, List.set_cons_succ]
              refine wpAnyH_take (i := 7) (v := ?v8) rfl (by kernel_rfl) (by kernel_rfl) (by kernel_rfl) (fun _ _ _ h => h) (Or.inl ⟨by rfl, ?hy8⟩) h0_3 ?rest8
              case hy8 => (intro w' hS; (try dsimp only at hS); go_simp; try (with_reducible rfl))
              simp only [Act.put, List.getElem_toArray, List.getElem_cons_zero, List.getElem_cons_succ, List.setIfInBounds_toArray]
              try simp only [List.set_cons_succ]
              try simp only [List.set_cons_zero]
              refine wpAnyH_done (by kernel_rfl) ?_ _
              go_wp2_with fail
              go_meet
              case rel => exact ⟨b12, b13, rfl, rfl, P12, P13, Bc, by have := NE.out; omega⟩
          case rest =>
            obtain ⟨b12, b13, rfl, rfl, H12, H13, HW, hne⟩ := hcut
            obtain ⟨w8, hw8⟩ : ∃ w8, w8 = wc := ⟨_, rfl⟩
            rw [← hw8] at H12 H13 HW ⊢
            clear hw8
            have u0 := H12.out.at (j := t) (by simp; omega)
            have u1 := H12.out.free t
            obtain ⟨w9, hw9⟩ : ∃ w9, w9 = w8.setCell ⟨b12, t, none⟩ (.int .i64 1) := ⟨_, rfl⟩
            have S1 := H12.out.put t 1
            rw [← hw9] at S1
            have G12 := Lib.hid S1.1
            have G13 := Lib.hid (H13.out.grown S1.2 (Ne.symm hne))
            have HW9 := Lib.hid (show Below wo.heap.size wo w9 from Below.grown HW.out S1.2 HW.out.size (fun k hk => by injection hk with hk; have := H12.out.lt; omega))
            have u2 := G13.out.at (j := t) (by simp; omega)
            have u3 := G13.out.free t
            obtain ⟨w10, hw10⟩ : ∃ w10, w10 = w9.setCell ⟨b13, t, none⟩ (.int .i64 (-1)) := ⟨_, rfl⟩
            have S2 := G13.out.put t (-1)
            rw [← hw10] at S2
            have K13 := Lib.hid S2.1
            have K12 := Lib.hid (G12.out.grown S2.2 hne)
            have HWA := Lib.hid (show Below wo.heap.size wo w10 from Below.grown HW9.out S2.2 HW9.out.size (fun k hk => by injection hk with hk; have := H13.out.lt; omega))
            have hw9' := hw9
            rw [hw9] at u2 u3
            have ln : (t : Int) < (n : Int) := by omega
            clear S1 S2
            go_wp2_with fail
            rw [← hw9, ← hw10]
            have HB2 := Lib.hid (below_on HB.out HWA.out)
            clear u0 u1 u2 u3 hw9 hw9' hw10 H12 H13 G12 G13 HW HW9
            have KS := Lib.hid (show ∀ W, Below w0.heap.size w0 W → (W.cell? ⟨w.heap.size, 7, none⟩ = some (.slice (some p0) n pc) ∧ W.cell? (p0.add (t * 2)) = some (.int .i64 z.1)) from fun W h => ⟨kept h D7.out, kept h Z00.out⟩)
            obtain ⟨wc, hwc⟩ : ∃ wc, wc = w10.drew := ⟨_, rfl⟩
            have Bc := Lib.hid (show Below w10.heap.size w10 wc by rw [hwc]; exact (Below.refl _ _).drew)
            refine wp_region_held_drew (S := (fun W => (W.cell? ⟨w.heap.size, 7, none⟩ = some (.slice (some p0) n pc) ∧ W.cell? (p0.add (t * 2)) = some (.int .i64 z.1)))) (by kernel_rfl) (by rw [← hwc]; exact KS.out _ (below_on HB2.out Bc.out)) (fun h0 => ?_)
            rw [← hwc] at h0 ⊢
            clear hwc
            refine wpAnyH_take (i := 0) (v := ?v9) rfl (by kernel_rfl) (by kernel_rfl) (by kernel_rfl) (fun _ _ _ h => h) (Or.inl ⟨by rfl, ?hy9⟩) h0 ?rest9
            case hy9 => (intro w' hS; (try dsimp only at hS); go_simp; try (with_reducible rfl))
            simp only [Act.put, List.getElem_toArray, List.getElem_cons_zero, List.setIfInBounds_toArray, List.set_cons_zero, List.set_cons_succ]
            refine wpAnyH_take (i := 1) (v := ?v10) rfl (by kernel_rfl) (by kernel_rfl) (by kernel_rfl) (fun _ _ _ h => h) (Or.inl ⟨by rfl, ?hy10⟩) h0 ?rest10
            case hy10 => (intro w' hS; (try dsimp only at hS); go_simp; try (with_reducible rfl))
            simp only [Act.put, List.getElem_toArray, List.getElem_cons_zero, List.getElem_cons_succ, List.setIfInBounds_toArray, List.set_cons_zero, List.set_cons_succ]
            refine wpAnyH_take (i := 2) (v := ?v11) rfl (by kernel_rfl) (by kernel_rfl) (by kernel_rfl) (fun _ _ _ h => h) (Or.inl ⟨by rfl, ?hy11⟩) h0 ?rest11
            case hy11 => (intro w' hS; (try dsimp only at hS); go_simp; try (with_reducible rfl))
            simp only [Act.put, List.getElem_toArray, List.getElem_cons_zero, List.getElem_cons_succ, List.setIfInBounds_toArray, List.set_cons_zero, List.set_cons_succ]
            refine wpAnyH_take (i := 3) (v := ?v12) rfl (by kernel_rfl) (by kernel_rfl) (by kernel_rfl) (fun _ _ _ h => h) (Or.inl ⟨by rfl, ?hy12⟩) h0 ?rest12
            case hy12 => (intro w' hS; (try dsimp only at hS); go_simp; try (with_reducible rfl))
            simp only [Act.put, List.getElem_toArray, List.getElem_cons_zero, List.getElem_cons_succ, List.setIfInBounds_toArray, List.set_cons_zero, List.set_cons_succ]
            refine wpAnyH_take (i := 4) (v := ?v13) rfl (by kernel_rfl) (by kernel_rfl) (by kernel_rfl) (fun _ _ _ h => h) (Or.inl ⟨by rfl, ?hy13⟩) h0 ?rest13
            case hy13 => (intro w' hS; (try dsimp only at hS); go_simp; try (with_reducible rfl))
            simp only [Act.put, List.getElem_toArray, List.getElem_cons_zero, List.getElem_cons_succ, List.setIfInBounds_toArray, List.set_cons_zero, List.set_cons_succ]
            refine wpAnyH_take (i := 5) (v := ?v14) rfl (by kernel_rfl) (by kernel_rfl) (by kernel_rfl) (fun _ _ _ h => h) (Or.inl ⟨by rfl, ?hy14⟩) h0 ?rest14
            case hy14 => (intro w' hS; (try dsimp only at hS); go_simp; try (with_reducible rfl))
            simp only [Act.put, List.getElem_toArray, List.getElem_cons_zero, List.getElem_cons_succ, List.setIfInBounds_toArray, List.set_cons_zero, List.set_cons_succ]
            refine wpAnyH_take (i := 6) (v := ?v15) rfl (by kernel_rfl) (by kernel_rfl) (by kernel_rfl) (fun _ _ _ h => h) (Or.inl ⟨by rfl, ?hy15⟩) h0 ?rest15
            case hy15 => (intro w' hS; (try dsimp only at hS); go_simp; try (with_reducible rfl))
            simp only [Act.put, List.getElem_toArray, List.getElem_cons_zero, List.getElem_cons_succ, List.setIfInBounds_toArray, List.set_cons_zero, List.set_cons_succ]
            refine wpAnyH_take (i := 7) (v := ?v16) rfl (by kernel_rfl) (by kernel_rfl) (by kernel_rfl) (fun _ _ _ h => h) (Or.inl ⟨by rfl, ?hy16⟩) h0 ?rest16
            case hy16 => (intro w' hS; (try dsimp only at hS); go_simp; try (with_reducible rfl))
            simp only [Act.put, List.getElem_toArray, List.getElem_cons_zero, List.getElem_cons_succ, List.setIfInBounds_toArray, List.set_cons_zero, List.set_cons_succ]
            refine wpAnyH_take (i := 8) (v := ?v17) rfl (by kernel_rfl) (by kernel_rfl) (by kernel_rfl) (fun _ _ _ h => h) (Or.inl ⟨by rfl, ?hy17⟩) h0 ?rest17
            case hy17 => (intro w' hS; (try dsimp only at hS); go_simp; try (with_reducible rfl))
            simp only [Act.put, List.getElem_toArray, List.getElem_cons_zero, List.getElem_cons_succ, List.setIfInBounds_toArray, List.set_cons_zero, List.set_cons_succ]
            refine wpAnyH_take (i := 9) (v := ?v18) rfl (by kernel_rfl) (by kernel_rfl) (by kernel_rfl) (fun _ _ _ h => h) (Or.inl ⟨by rfl, ?hy18⟩) h0 ?rest18
            case hy18 => (intro w' hS; (try dsimp only at hS); go_simp; try (with_reducible rfl))
            simp only [Act.put, List.getElem_toArray, List.getElem_cons_zero, List.getElem_cons_succ, List.setIfInBounds_toArray, List.set_cons_zero, List.set_cons_succ]
            refine wpAnyH_take (i := 10) (v := ?v19) rfl (by kernel_rfl) (by kernel_rfl) (by kernel_rfl) (fun _ _ _ h => h) (Or.inl ⟨by rfl, ?hy19⟩) h0 ?rest19
            case hy19 => (intro w' hS; (try dsimp only at hS); go_simp; try (with_reducible rfl))
            simp only [Act.put, List.getElem_toArray, List.getElem_cons_zero, List.getElem_cons_succ, List.setIfInBounds_toArray, List.set_cons_zero, List.set_cons_succ]
            refine wpAnyH_take (i := 11) (v := ?v20) rfl (by kernel_rfl) (by kernel_rfl) (by kernel_rfl) (fun _ _ _ h => h) (Or.inl ⟨by rfl, ?hy20⟩) h0 ?rest20
            case hy20 => (intro w' hS; (try dsimp only at hS); go_simp; try (with_reducible rfl))
            simp only [Act.put, List.getElem_toArray, List.getElem_cons_zero, List.getElem_cons_succ, List.setIfInBounds_toArray, List.set_cons_zero, List.set_cons_succ]
            refine wpAnyH_take (i := 12) (v := ?v21) rfl (by kernel_rfl) (by kernel_rfl) (by kernel_rfl) (fun _ _ _ h => h) (Or.inl ⟨by rfl, ?hy21⟩) h0 ?rest21
            case hy21 => (intro w' hS; (try dsimp only at hS); go_simp; try (with_reducible rfl))
            simp only [Act.put, List.getElem_toArray, List.getElem_cons_zero, List.getElem_cons_succ, List.setIfInBounds_toArray, List.set_cons_zero, List.set_cons_succ]
            refine wpAnyH_take (i := 13) (v := ?v22) rfl (by kernel_rfl) (by kernel_rfl) (by kernel_rfl) (fun _ _ _ h => h) (Or.inl ⟨by rfl, ?hy22⟩) h0 ?rest22
            case hy22 => (intro w' hS; (try dsimp only at hS); go_simp; try (with_reducible rfl))
            simp only [Act.put, List.getElem_toArray, List.getElem_cons_zero, List.getElem_cons_succ, List.setIfInBounds_toArray, List.set_cons_zero, List.set_cons_succ]
            refine wpAnyH_take (i := 14) (v := ?v23) rfl (by kernel_rfl) (by kernel_rfl) (by kernel_rfl) (fun _ _ _ h => h) (Or.inl ⟨by rfl, ?hy23⟩) h0 ?rest23
            case hy23 => (intro w' hS; (try dsimp only at hS); go_simp; try (with_reducible rfl))
            simp only [Act.put, List.getElem_toArray, List.getElem_cons_zero, List.getElem_cons_succ, List.setIfInBounds_toArray, List.set_cons_zero, List.set_cons_succ]
            refine wpAnyH_take (i := 15) (v := ?v24) rfl (by kernel_rfl) (by kernel_rfl) (by kernel_rfl) (fun _ _ _ h => h) (Or.inl ⟨by rfl, ?hy24⟩) h0 ?rest24
            case hy24 => (intro w' hS; (try dsimp only at hS); go_simp; try (with_reducible rfl))
            simp only [Act.put, List.getElem_toArray, List.getElem_cons_zero, List.getElem_cons_succ, List.setIfInBounds_toArray, List.set_cons_zero, List.set_cons_succ]
            refine wpAnyH_take (i := 16) (v := ?v25) rfl (by kernel_rfl) (by kernel_rfl) (by kernel_rfl) (fun _ _ _ h => h) (Or.inl ⟨by rfl, ?hy25⟩) h0 ?rest25
            case hy25 => (intro w' hS; (try dsimp only at hS); go_simp; try (with_reducible rfl))
            simp only [Act.put, List.getElem_toArray, List.getElem_cons_zero, List.getElem_cons_succ, List.setIfInBounds_toArray, List.set_cons_zero, List.set_cons_succ]
            refine wpAnyH_take (i := 17) (v := ?v26) rfl (by kernel_rfl) (by kernel_rfl) (by kernel_rfl) (fun _ _ _ h => h) (Or.inl ⟨by rfl, ?hy26⟩) h0 ?rest26
            case hy26 => (intro w' hS; (try dsimp only at hS); go_simp; try (with_reducible rfl))
            simp only [Act.put, List.getElem_toArray, List.getElem_cons_zero, List.getElem_cons_succ, List.setIfInBounds_toArray, List.set_cons_zero, List.set_cons_succ]
            refine wpAnyH_ready (rs := [18]) (by kernel_rfl) (by simp) (AllReadyH.cons rfl (fun K hK => ?_) AllReadyH.nil)
            rw [if_pos (by rfl)]
            refine wp_bv2 _ _ rfl (AV.mk (some ⟨b12, 0, none⟩) n ((List.replicate n 0).set t 1) z.1 false) (AV.mk (some ⟨b13, 0, none⟩) n ((List.replicate n 0).set t (-1)) (-z.1) false) (by simp [AV.cs, AV.cells, Act.eval]) (by simp [AV.cs, AV.cells, Act.eval]) ?_
            have hb := one_more (w1 := wc) (.cells (AV.cs (AV.mk (some ⟨b12, 0, none⟩) n ((List.replicate n 0).set t 1) z.1 false) ++ AV.cs (AV.mk (some ⟨b13, 0, none⟩) n ((List.replicate n 0).set t (-1)) (-z.1) false)) 25)
            have hC := two_av wc (AV.mk (some ⟨b12, 0, none⟩) n ((List.replicate n 0).set t 1) z.1 false) (AV.mk (some ⟨b13, 0, none⟩) n ((List.replicate n 0).set t (-1)) (-z.1) false)
            obtain ⟨b5, hbb⟩ : ∃ b5, b5 = wc.heap.size := ⟨_, rfl⟩
            rw [← hbb] at hC
            obtain ⟨wn, hwn⟩ : ∃ wn, wn = wc.alloc (.cells (AV.cs (AV.mk (some ⟨b12, 0, none⟩) n ((List.replicate n 0).set t 1) z.1 false) ++ AV.cs (AV.mk (some ⟨b13, 0, none⟩) n ((List.replicate n 0).set t (-1)) (-z.1) false)) 25) := ⟨_, rfl⟩
            rw [← hwn] at hb hC ⊢
            try rw [← hbb]
            have Bc := Lib.hid (below_on Bc.out hb)
            have CC := Lib.hid hC
            clear hb hC hbb hwn
            obtain ⟨wc, hwc⟩ : ∃ wc, wc = wn := ⟨_, rfl⟩
            rw [← hwc] at Bc CC ⊢
            clear hwc
            try simp only [Act.put, List.getElem_toArray, List.getElem_cons_zero, List.getElem_cons_succ, List.setIfInBounds_toArray, List.set_cons_zero, List.set_cons_succ]
            refine hK.out _ _ (KS.out _ (below_on HB2.out Bc.out)) (fun h0_1 => ?_)
            clear hK K h0
            refine wpAnyH_ready (rs := [19]) (by kernel_rfl) (by simp) (AllReadyH.cons rfl (fun K hK => ?_) AllReadyH.nil)
            rw [if_pos (by rfl)]
            obtain ⟨v9, we, hrun, ho, hg, hf⟩ := appendV2_run (HO.out.on (below_on HWA.out Bc.out)) (c := 2) CC.out (show GoodV wc (Value.ownBlock u10) (AV.mk (some ⟨b12, 0, none⟩) n ((List.replicate n 0).set t 1) z.1 false) from ⟨(K12.out.on Bc.out).rd, fun p e => by (cases e; exact ⟨fun k => (by have q : b12 < wo.heap.size := (HO.out.lt _ k).2; have := K12.out.lt; omega), (K12.out.on Bc.out).lt.2⟩), fun e => by (cases e), (K12.out.on Bc.out).capOk⟩) (show GoodV wc (Value.ownBlock u10) (AV.mk (some ⟨b13, 0, none⟩) n ((List.replicate n 0).set t (-1)) (-z.1) false) from ⟨(K13.out.on Bc.out).rd, fun p e => by (cases e; exact ⟨fun k => (by have q : b13 < wo.heap.size := (HO.out.lt _ k).2; have := K13.out.lt; omega), (K13.out.on Bc.out).lt.2⟩), fun e => by (cases e), (K13.out.on Bc.out).capOk⟩) (by have := KL.out; omega) (by have := HZ.out; have := (below_on HWA.out Bc.out).size; omega) 22
            refine Lib.wp_append_run _ _ _ 22 22 rfl _ (.slice (some ⟨b5, 0, none⟩) 2 2) rfl rfl _ _ hrun ?_
            have BW := Lib.hid (Below.grown (below_on HB2.out Bc.out) hg (below_on HB2.out Bc.out).size (fun k hk => by have := (HO.out.lt k hk).1; have := Z6.out; omega))
            have ZW := Lib.hid (show w6.heap.size ≤ we.heap.size by have := HZ.out; have := (below_on HWA.out Bc.out).size; have := hg.size; omega)
            have O9 := Lib.hid ho
            clear hrun ho hg hf
            try simp only [Act.put, List.getElem_toArray, List.getElem_cons_zero, List.getElem_cons_succ, List.setIfInBounds_toArray, List.set_cons_zero, List.set_cons_succ]
            refine hK.out _ _ (KS.out _ BW.out) (fun h0_2 => ?_)
            clear hK K h0_1
            refine wpAnyH_take (i := 20) (v := ?v27) rfl (by kernel_rfl) (by kernel_rfl) (by kernel_rfl) (fun _ _ _ h => h) (Or.inl ⟨by rfl, ?hy27⟩) h0_2 ?rest27
            case hy27 => (intro w' hS; (try dsimp only at hS); go_simp; try (with_reducible rfl))
            simp only [Act.put, List.getElem_toArray, List.getElem_cons_zero, List.getElem_cons_succ, List.setIfInBounds_toArray]
            try simp only [List.set_cons_succ]
            try simp only [List.set_cons_zero]
            refine wpAnyH_done (by kernel_rfl) ?_ _
            go_wp2_with fail
            go_roundw
            case rel => exact ⟨t + 1, by go_num, by omega, Lib.hid ⟨K ++ [(AV.mk (some ⟨b12, 0, none⟩) n ((List.replicate n 0).set t 1) z.1 false), (AV.mk (some ⟨b13, 0, none⟩) n ((List.replicate n 0).set t (-1)) (-z.1) false)], O9.out, by rw [List.map_append, HK.out, AD.out, List.append_assoc]; rfl, HD1.out, BW.out, ZW.out⟩⟩
            case measure => simp [intOf]; omega
      · have e9 : t = n := by omega
        obtain ⟨ao9, c9, ev, hrd, _⟩ := HO.out.read
        subst ev
        have EB := Lib.hid (show empB (K.map ofV) n = false from prj_back PJ.out RS.out (fun j hj hne => HD.out j (by omega) hne) (by rw [HK.out, e9]))
        have EM := Lib.hid (empty_any (n : Int) K ao9 c9 wo hrd)
        obtain ⟨k9, hk9⟩ : ∃ k, k = K.length := ⟨_, rfl⟩
        rw [← hk9] at EM ⊢
        obtain ⟨ee, hee⟩ : ∃ ee, ee = empE (n : Int) K := ⟨_, rfl⟩
        rw [← hee] at EM
        have hz : (if ee = 0 then empB (K.map ofV) ((n : Int)).toNat else false) = false := by
          split
          · exact EB.out
          · rfl
        rw [hz] at EM
        clear hrd hk9 hee hz EB
        go_wp2_with fail
        refine EM.out.mono ?_
        rintro e w11 ⟨hbl, rfl⟩
        have B11 := Lib.hid (below_on HB.out hbl)
        clear hbl EM c0
        by_cases ee0 : ee = 0
        · subst ee0
          go_wp2_with fail
          refine (shown_any w11).mono ?_
          rintro e w99 ⟨rfl, hbl⟩
          have B99 := Lib.hid (below_on E0.out (below_on B11.out hbl))
          clear hbl
          go_wp2_with fail
          go_ret
          exact ⟨rfl, B99.out⟩
        · have ee0' : (ee != 0) = true := by simpa using ee0
          go_wp2_with fail
          refine (shown_any w11).mono ?_
          rintro e w99 ⟨rfl, hbl⟩
          have B99 := Lib.hid (below_on E0.out (below_on B11.out hbl))
          clear hbl
          go_wp2_with fail
          go_ret
          exact ⟨rfl, B99.out⟩
  case true =>
    go_wp2_with fail
    refine LT.out.mono ?_
    rintro e w7 ⟨v10, K0, rfl, hO, hm, _, hbl⟩
    have B7 := Lib.hid (below_on B6.out hbl)
    have Z6 := Lib.hid B6.out.size
    have INI := Lib.hid (show ∃ K, OwnV w7 w6.heap.size v10 K ∧ K.map lnV = L.map lnV ++ addL n i P 0 ∧ (∀ j, j < 0 → j ≠ i → (gp P j).2 = 1) ∧ Below w0.heap.size w0 w7 ∧ w6.heap.size ≤ w7.heap.size from ⟨K0, hO, by rw [hm]; unfold addL; rw [List.append_nil], fun j hj => by omega, B7.out, hbl.size⟩)
    clear hO hm hbl LT c1 B7
    go_wp2_with fail
    go_loopw [10, 11] (fun v s wr => ∃ t : Nat, s = .int .i64 t ∧ t ≤ n ∧ Hid (∃ K, OwnV wr w6.heap.size v K ∧ K.map lnV = L.map lnV ++ addL n i P t ∧ (∀ j, j < t → j ≠ i → (gp P j).2 = 1) ∧ Below w0.heap.size w0 wr ∧ w6.heap.size ≤ wr.heap.size)) (fun _ s _ => n - (intOf s).toNat)
    case atStart => exact ⟨0, rfl, by omega, INI⟩
    case round =>
      clear INI
      obtain ⟨t, rfl, ht, HT⟩ := hrel
      generalize wr = wo at *
      obtain ⟨K, hO, hK, hd, hB, hZ⟩ := HT.out
      have HZ := Lib.hid hZ
      have HO := Lib.hid hO
      have HK := Lib.hid hK
      have HD := Lib.hid hd
      have HB := Lib.hid hB
      have KL := Lib.hid (show K.length ≤ 2010 by
        have h1 := congrArg List.length hK
        rw [List.length_map, List.length_append, List.length_map] at h1
        have := addL_len n i P t
        have := L1.out
        omega)
      clear hO hK hd hB hZ HT
      have c0 := kept HB.out D0.out
      by_cases htn : t < n
      · have htn' : (t : Int) < (n : Int) := by omega
        have c6 := kept HB.out D6.out
        by_cases ti : t = i
        · have ST := Lib.hid (show ∃ K, OwnV wo w6.heap.size u10 K ∧ K.map lnV = L.map lnV ++ addL n i P (t + 1) ∧ (∀ j, j < t + 1 → j ≠ i → (gp P j).2 = 1) ∧ Below w0.heap.size w0 wo ∧ w6.heap.size ≤ wo.heap.size from
            ⟨K, HO.out, by rw [addL_at ti]; exact HK.out, fun j hj hne => HD.out j (by omega) hne, HB.out, HZ.out⟩)
          have ti' : (t : Int) = (i : Int) := by omega
          rw [← ti'] at c6
          clear ti ti'
          go_wp2_with fail
          go_roundw
          case rel => exact ⟨t + 1, by go_num, by omega, ST⟩
          case measure => simp [intOf]; omega
        · have ti' : ((t : Int) == (i : Int)) = false := by simp; omega
          have ti2 : ¬ (t : Int) = (i : Int) := by omega
          have c7 := kept HB.out D7.out
          obtain ⟨pz9, epz9, hz9⟩ := HQ.out t (by have := P4.out; omega)
          cases epz9
          have Z00 := Lib.hid hz9.two.1
          obtain ⟨pz, epz, hz⟩ := (HQ.out.on HB.out) t (by have := P4.out; omega)
          cases epz
          have ZQ := Lib.hid hz.two
          obtain ⟨z, hzz⟩ : ∃ z, z = gp P t := ⟨_, rfl⟩
          rw [← hzz] at ZQ Z00
          obtain ⟨z0, z1⟩ := ZQ.out
          have ZE := Lib.hid hzz
          clear hz hz9 hzz
          by_cases d1 : z.2 = 1
          case neg =>
            have d1' : (z.2 != 1) = true := by simpa using d1
            clear d1
            go_wp2_with fail
            refine (shown_any wo).mono ?_
            rintro e w99 ⟨rfl, hbl⟩
            have B99 := Lib.hid (below_on E0.out (below_on HB.out hbl))
            clear hbl
            go_wp2_with fail
            go_ret
            exact ⟨rfl, B99.out⟩
          have d1' : (z.2 != 1) = false := by simpa using d1
          by_cases d2 : 1000 < z.1
          · have t1 : True := trivial
            go_wp2_with fail
            refine (shown_any wo).mono ?_
            rintro e w99 ⟨rfl, hbl⟩
            have B99 := Lib.hid (below_on E0.out (below_on HB.out hbl))
            clear hbl
            go_wp2_with fail
            go_ret
            exact ⟨rfl, B99.out⟩
          by_cases d3 : z.1 < -1000
          · have t1 : True := trivial
            go_wp2_with fail
            refine (shown_any wo).mono ?_
            rintro e w99 ⟨rfl, hbl⟩
            have B99 := Lib.hid (below_on E0.out (below_on HB.out hbl))
            clear hbl
            go_wp2_with fail
            go_ret
            exact ⟨rfl, B99.out⟩
          have HD1 := Lib.hid (show ∀ j, j < t + 1 → j ≠ i → (gp P j).2 = 1 from fun j hj hne => by
            by_cases e : j = t
            · rw [e, ← ZE.out]; exact d1
            · exact HD.out j (by omega) hne)
          have AD := Lib.hid (show addL n i P (t + 1) = addL n i P t ++ [⟨(List.replicate n 0).set t 1, z.1, false⟩, ⟨(List.replicate n 0).set t (-1), -z.1, false⟩] by rw [addL_add ti, ZE.out])
          have D0r := Lib.hid c0
          have D7r := Lib.hid c7
          have hwn1 : wrap64 (-z.1) = -z.1 := by unfold wrap64; omega
          have hwn2 : IntKind.i64.wrap (-z.1) = -z.1 := wrap_in _ (by omega) (by omega)
          clear HD ZE
          go_upto_region 23 with (fail)
          clear c0 c6 c7 z0 z1
          go_cut [12, 13] (fun s12 s13 wx => ∃ b12 b13 : Nat, s12 = .slice (some ⟨b12, 0, none⟩) n n ∧ s13 = .slice (some ⟨b13, 0, none⟩) n n ∧ Hid (OwnI wx wo.heap.size b12 n (List.replicate n 0)) ∧ Hid (OwnI wx wo.heap.size b13 n (List.replicate n 0)) ∧ Hid (Below wo.heap.size wo wx) ∧ b12 ≠ b13)
          case first =>
            have KS := Lib.hid (show ∀ W, Below wo.heap.size wo W → (W.cell? ⟨w.heap.size, 0, none⟩ = some (.int .i64 n) ∧ True) from fun W h => ⟨kept h D0r.out, trivial⟩)
            obtain ⟨wc, hwc⟩ : ∃ wc, wc = wo.drew := ⟨_, rfl⟩
            have Bc := Lib.hid (show Below wo.heap.size wo wc by rw [hwc]; exact (Below.refl _ _).drew)
            refine wp_region_held_drew (S := (fun W => (W.cell? ⟨w.heap.size, 0, none⟩ = some (.int .i64 n) ∧ True))) (by kernel_rfl) (by rw [← hwc]; exact KS.out _ Bc.out) (fun h0 => ?_)
            rw [← hwc] at h0 ⊢
            clear hwc
            refine wpAnyH_take (i := 0) (v := ?v28) rfl (by kernel_rfl) (by kernel_rfl) (by kernel_rfl) (fun _ _ _ h => h) (Or.inl ⟨by rfl, ?hy28⟩) h0 ?rest28
            case hy28 => (intro w' hS; (try dsimp only at hS); go_simp; try (with_reducible rfl))
            simp only [Act.put, List.getElem_toArray, List.getElem_cons_zero, List.setIfInBounds_toArray, List.set_cons_zero, List.set_cons_succ]
            refine wpAnyH_take (i := 1) (v := ?v29) rfl (by kernel_rfl) (by kernel_rfl) (by kernel_rfl) (fun _ _ _ h => h) (Or.inl ⟨by rfl, ?hy29⟩) h0 ?rest29
            case hy29 => (intro w' hS; (try dsimp only at hS); go_simp; try (with_reducible rfl))
            simp only [Act.put, List.getElem_toArray, List.getElem_cons_zero, List.getElem_cons_succ, List.setIfInBounds_toArray, List.set_cons_zero, List.set_cons_succ]
            refine wpAnyH_take (i := 3) (v := ?v30) rfl (by kernel_rfl) (by kernel_rfl) (by kernel_rfl) (fun _ _ _ h => h) (Or.inl ⟨by rfl, ?hy30⟩) h0 ?rest30
            case hy30 => (intro w' hS; (try dsimp only at hS); go_simp; try (with_reducible rfl))
            simp only [Act.put, List.getElem_toArray, List.getElem_cons_zero, List.getElem_cons_succ, List.setIfInBounds_toArray, List.set_cons_zero, List.set_cons_succ]
            refine wpAnyH_take (i := 4) (v := ?v31) rfl (by kernel_rfl) (by kernel_rfl) (by kernel_rfl) (fun _ _ _ h => h) (Or.inl ⟨by rfl, ?hy31⟩) h0 ?rest31
            case hy31 => (intro w' hS; (try dsimp only at hS); go_simp; try (with_reducible rfl))
            simp only [Act.put, List.getElem_toArray, List.getElem_cons_zero, List.getElem_cons_succ, List.setIfInBounds_toArray, List.set_cons_zero, List.set_cons_succ]
            refine wpAnyH_ready (rs := [2, 5]) (by kernel_rfl) (by simp) (AllReadyH.cons rfl (fun K hK => ?_) (AllReadyH.cons rfl (fun K hK => ?_) AllReadyH.nil))
            · rw [if_pos (by rfl)]
              refine wp_ms _ _ rfl n (by omega) rfl rfl ?_
              have hb := one_more (w1 := wc) (.cells (List.replicate n (Value.int .i64 0)).toArray 2)
              have hP := own_zeros wc n wo.heap.size Bc.out.size (by omega)
              obtain ⟨b12, hbb⟩ : ∃ b, b = wc.heap.size := ⟨_, rfl⟩
              rw [← hbb] at hP
              obtain ⟨wn, hwn⟩ : ∃ wn, wn = wc.alloc (.cells (List.replicate n (Value.int .i64 0)).toArray 2) := ⟨_, rfl⟩
              rw [← hwn] at hb hP ⊢
              try rw [← hbb]
              try (have NE := Lib.hid (show b13 ≠ b12 by have := P13.out.lt; omega))
              try (have P13 := Lib.hid (P13.out.on hb))
              have Bc := Lib.hid (below_on Bc.out hb)
              have P12 := Lib.hid hP
              clear hb hP hbb hwn
              obtain ⟨wc, hwc⟩ : ∃ wc, wc = wn := ⟨_, rfl⟩
              rw [← hwc] at Bc P12 ⊢
              try rw [← hwc] at P13
              clear hwc
              try simp only [Act.put, List.getElem_toArray, List.getElem_cons_zero, List.getElem_cons_succ, List.setIfInBounds_toArray, List.set_cons_zero, List.set_cons_succ]
              refine hK.out _ _ (KS.out _ Bc.out) (fun h0_1 => ?_)
              clear hK K h0
              refine wpAnyH_take (i := 6) (v := ?v32) rfl (by kernel_rfl) (by kernel_rfl) (by kernel_rfl) (fun _ _ _ h => h) (Or.inl ⟨by rfl, ?hy32⟩) h0_1 ?rest32
              case hy32 => (intro w' hS; (try dsimp only at hS); go_simp; try (with_reducible rfl))
              simp only [Act.put, List.getElem_toArray, List.getElem_cons_zero, List.getElem_cons_succ, List.setIfInBounds_toArray, List.set_cons_zero, List.set_cons_succ]
              refine wpAnyH_ready (rs := [5]) (by kernel_rfl) (by simp) (AllReadyH.cons rfl (fun K hK => ?_) AllReadyH.nil)
              rw [if_pos (by rfl)]
              refine wp_ms _ _ rfl n (by omega) rfl rfl ?_
              have hb := one_more (w1 := wc) (.cells (List.replicate n (Value.int .i64 0)).toArray 2)
              have hP := own_zeros wc n wo.heap.size Bc.out.size (by omega)
              obtain ⟨b13, hbb⟩ : ∃ b, b = wc.heap.size := ⟨_, rfl⟩
              rw [← hbb] at hP
              obtain ⟨wn, hwn⟩ : ∃ wn, wn = wc.alloc (.cells (List.replicate n (Value.int .i64 0)).toArray 2) := ⟨_, rfl⟩
              rw [← hwn] at hb hP ⊢
              try rw [← hbb]
              try (have NE := Lib.hid (show b12 ≠ b13 by have := P12.out.lt; omega))
              try (have P12 := Lib.hid (P12.out.on hb))
              have Bc := Lib.hid (below_on Bc.out hb)
              have P13 := Lib.hid hP
              clear hb hP hbb hwn
              obtain ⟨wc, hwc⟩ : ∃ wc, wc = wn := ⟨_, rfl⟩
              rw [← hwc] at Bc P13 ⊢
              try rw [← hwc] at P12
              clear hwc
              try simp only [Act.put, List.getElem_toArray, List.getElem_cons_zero, List.getElem_cons_succ, List.setIfInBounds_toArray, List.set_cons_zero, List.set_cons_succ]
              refine hK.out _ _ (KS.out _ Bc.out) (fun h0_2 => ?_)
              clear hK K h0_1
              refine wpAnyH_take (i := 7) (v := ?v33) rfl (by kernel_rfl) (by kernel_rfl) (by kernel_rfl) (fun _ _ _ h => h) (Or.inl ⟨by rfl, ?hy33⟩) h0_2 ?rest33
              case hy33 => (intro w' hS; (try dsimp only at hS); go_simp; try (with_reducible rfl))
              simp only [Act.put, List.getElem_toArray, List.getElem_cons_zero, List.getElem_cons_succ, List.setIfInBounds_toArray]
              try simp only [List.set_cons_succ]
              try simp only [List.set_cons_zero]
              refine wpAnyH_done (by kernel_rfl) ?_ _
              go_wp2_with fail
              go_meet
              case rel => exact ⟨b12, b13, rfl, rfl, P12, P13, Bc, by have := NE.out; omega⟩
            · rw [if_pos (by rfl)]
              refine wp_ms _ _ rfl n (by omega) rfl rfl ?_
              have hb := one_more (w1 := wc) (.cells (List.replicate n (Value.int .i64 0)).toArray 2)
              have hP := own_zeros wc n wo.heap.size Bc.out.size (by omega)
              obtain ⟨b13, hbb⟩ : ∃ b, b = wc.heap.size := ⟨_, rfl⟩
              rw [← hbb] at hP
              obtain ⟨wn, hwn⟩ : ∃ wn, wn = wc.alloc (.cells (List.replicate n (Value.int .i64 0)).toArray 2) := ⟨_, rfl⟩
              rw [← hwn] at hb hP ⊢
              try rw [← hbb]
              try (have NE := Lib.hid (show b12 ≠ b13 by have := P12.out.lt; omega))
              try (have P12 := Lib.hid (P12.out.on hb))
              have Bc := Lib.hid (below_on Bc.out hb)
              have P13 := Lib.hid hP
              clear hb hP hbb hwn
              obtain ⟨wc, hwc⟩ : ∃ wc, wc = wn := ⟨_, rfl⟩
              rw [← hwc] at Bc P13 ⊢
              try rw [← hwc] at P12
              clear hwc
              try simp only [Act.put, List.getElem_toArray, List.getElem_cons_zero, List.getElem_cons_succ, List.setIfInBounds_toArray, List.set_cons_zero, List.set_cons_succ]
              refine hK.out _ _ (KS.out _ Bc.out) (fun h0_1 => ?_)
              clear hK K h0
              refine wpAnyH_ready (rs := [2]) (by kernel_rfl) (by simp) (AllReadyH.cons rfl (fun K hK => ?_) AllReadyH.nil)
              rw [if_pos (by rfl)]
              refine wp_ms _ _ rfl n (by omega) rfl rfl ?_
              have hb := one_more (w1 := wc) (.cells (List.replicate n (Value.int .i64 0)).toArray 2)
              have hP := own_zeros wc n wo.heap.size Bc.out.size (by omega)
              obtain ⟨b12, hbb⟩ : ∃ b, b = wc.heap.size := ⟨_, rfl⟩
              rw [← hbb] at hP
              obtain ⟨wn, hwn⟩ : ∃ wn, wn = wc.alloc (.cells (List.replicate n (Value.int .i64 0)).toArray 2) := ⟨_, rfl⟩
              rw [← hwn] at hb hP ⊢
              try rw [← hbb]
              try (have NE := Lib.hid (show b13 ≠ b12 by have := P13.out.lt; omega))
              try (have P13 := Lib.hid (P13.out.on hb))
              have Bc := Lib.hid (below_on Bc.out hb)
              have P12 := Lib.hid hP
              clear hb hP hbb hwn
              obtain ⟨wc, hwc⟩ : ∃ wc, wc = wn := ⟨_, rfl⟩
              rw [← hwc] at Bc P12 ⊢
              try rw [← hwc] at P13
              clear hwc
              try simp only [Act.put, List.getElem_toArray, List.getElem_cons_zero, List.getElem_cons_succ, List.setIfInBounds_toArray, List.set_cons_zero, List.set_cons_succ]
              refine hK.out _ _ (KS.out _ Bc.out) (fun h0_3 => ?_)
              clear hK K h0_1
              refine wpAnyH_take (i := 6) (v := ?v34) rfl (by kernel_rfl) (by kernel_rfl) (by kernel_rfl) (fun _ _ _ h => h) (Or.inl ⟨by rfl, ?hy34⟩) h0_3 ?rest34
              case hy34 => (intro w' hS; (try dsimp only at hS); go_simp; try (with_reducible rfl))
              simp only [Act.put, List.getElem_toArray, List.getElem_cons_zero, List.getElem_cons_succ, List.setIfInBounds_toArray, List.set_cons_zero, List.set_cons_succ]
              refine wpAnyH_take (i := 7) (v := ?v35) rfl (by kernel_rfl) (by kernel_rfl) (by kernel_rfl) (fun _ _ _ h => h) (Or.inl ⟨by rfl, ?hy35⟩) h0_3 ?rest35
              case hy35 => (intro w' hS; (try dsimp only at hS); go_simp; try (with_reducible rfl))
              simp only [Act.put, List.getElem_toArray, List.getElem_cons_zero, List.getElem_cons_succ, List.setIfInBounds_toArray]
              try simp only [List.set_cons_succ]
              try simp only [List.set_cons_zero]
              refine wpAnyH_done (by kernel_rfl) ?_ _
              go_wp2_with fail
              go_meet
              case rel => exact ⟨b12, b13, rfl, rfl, P12, P13, Bc, by have := NE.out; omega⟩
          case rest =>
            obtain ⟨b12, b13, rfl, rfl, H12, H13, HW, hne⟩ := hcut
            obtain ⟨w8, hw8⟩ : ∃ w8, w8 = wc := ⟨_, rfl⟩
            rw [← hw8] at H12 H13 HW ⊢
            clear hw8
            have u0 := H12.out.at (j := t) (by simp; omega)
            have u1 := H12.out.free t
            obtain ⟨w9, hw9⟩ : ∃ w9, w9 = w8.setCell ⟨b12, t, none⟩ (.int .i64 1) := ⟨_, rfl⟩
            have S1 := H12.out.put t 1
            rw [← hw9] at S1
            have G12 := Lib.hid S1.1
            have G13 := Lib.hid (H13.out.grown S1.2 (Ne.symm hne))
            have HW9 := Lib.hid (show Below wo.heap.size wo w9 from Below.grown HW.out S1.2 HW.out.size (fun k hk => by injection hk with hk; have := H12.out.lt; omega))
            have u2 := G13.out.at (j := t) (by simp; omega)
            have u3 := G13.out.free t
            obtain ⟨w10, hw10⟩ : ∃ w10, w10 = w9.setCell ⟨b13, t, none⟩ (.int .i64 (-1)) := ⟨_, rfl⟩
            have S2 := G13.out.put t (-1)
            rw [← hw10] at S2
            have K13 := Lib.hid S2.1
            have K12 := Lib.hid (G12.out.grown S2.2 hne)
            have HWA := Lib.hid (show Below wo.heap.size wo w10 from Below.grown HW9.out S2.2 HW9.out.size (fun k hk => by injection hk with hk; have := H13.out.lt; omega))
            have hw9' := hw9
            rw [hw9] at u2 u3
            have ln : (t : Int) < (n : Int) := by omega
            clear S1 S2
            go_wp2_with fail
            rw [← hw9, ← hw10]
            have HB2 := Lib.hid (below_on HB.out HWA.out)
            clear u0 u1 u2 u3 hw9 hw9' hw10 H12 H13 G12 G13 HW HW9
            have KS := Lib.hid (show ∀ W, Below w0.heap.size w0 W → (W.cell? ⟨w.heap.size, 7, none⟩ = some (.slice (some p0) n pc) ∧ W.cell? (p0.add (t * 2)) = some (.int .i64 z.1)) from fun W h => ⟨kept h D7.out, kept h Z00.out⟩)
            obtain ⟨wc, hwc⟩ : ∃ wc, wc = w10.drew := ⟨_, rfl⟩
            have Bc := Lib.hid (show Below w10.heap.size w10 wc by rw [hwc]; exact (Below.refl _ _).drew)
            refine wp_region_held_drew (S := (fun W => (W.cell? ⟨w.heap.size, 7, none⟩ = some (.slice (some p0) n pc) ∧ W.cell? (p0.add (t * 2)) = some (.int .i64 z.1)))) (by kernel_rfl) (by rw [← hwc]; exact KS.out _ (below_on HB2.out Bc.out)) (fun h0 => ?_)
            rw [← hwc] at h0 ⊢
            clear hwc
            refine wpAnyH_take (i := 0) (v := ?v36) rfl (by kernel_rfl) (by kernel_rfl) (by kernel_rfl) (fun _ _ _ h => h) (Or.inl ⟨by rfl, ?hy36⟩) h0 ?rest36
            case hy36 => (intro w' hS; (try dsimp only at hS); go_simp; try (with_reducible rfl))
            simp only [Act.put, List.getElem_toArray, List.getElem_cons_zero, List.setIfInBounds_toArray, List.set_cons_zero, List.set_cons_succ]
            refine wpAnyH_take (i := 1) (v := ?v37) rfl (by kernel_rfl) (by kernel_rfl) (by kernel_rfl) (fun _ _ _ h => h) (Or.inl ⟨by rfl, ?hy37⟩) h0 ?rest37
            case hy37 => (intro w' hS; (try dsimp only at hS); go_simp; try (with_reducible rfl))
            simp only [Act.put, List.getElem_toArray, List.getElem_cons_zero, List.getElem_cons_succ, List.setIfInBounds_toArray, List.set_cons_zero, List.set_cons_succ]
            refine wpAnyH_take (i := 2) (v := ?v38) rfl (by kernel_rfl) (by kernel_rfl) (by kernel_rfl) (fun _ _ _ h => h) (Or.inl ⟨by rfl, ?hy38⟩) h0 ?rest38
            case hy38 => (intro w' hS; (try dsimp only at hS); go_simp; try (with_reducible rfl))
            simp only [Act.put, List.getElem_toArray, List.getElem_cons_zero, List.getElem_cons_succ, List.setIfInBounds_toArray, List.set_cons_zero, List.set_cons_succ]
            refine wpAnyH_take (i := 3) (v := ?v39) rfl (by kernel_rfl) (by kernel_rfl) (by kernel_rfl) (fun _ _ _ h => h) (Or.inl ⟨by rfl, ?hy39⟩) h0 ?rest39
            case hy39 => (intro w' hS; (try dsimp only at hS); go_simp; try (with_reducible rfl))
            simp only [Act.put, List.getElem_toArray, List.getElem_cons_zero, List.getElem_cons_succ, List.setIfInBounds_toArray, List.set_cons_zero, List.set_cons_succ]
            refine wpAnyH_take (i := 4) (v := ?v40) rfl (by kernel_rfl) (by kernel_rfl) (by kernel_rfl) (fun _ _ _ h => h) (Or.inl ⟨by rfl, ?hy40⟩) h0 ?rest40
            case hy40 => (intro w' hS; (try dsimp only at hS); go_simp; try (with_reducible rfl))
            simp only [Act.put, List.getElem_toArray, List.getElem_cons_zero, List.getElem_cons_succ, List.setIfInBounds_toArray, List.set_cons_zero, List.set_cons_succ]
            refine wpAnyH_take (i := 5) (v := ?v41) rfl (by kernel_rfl) (by kernel_rfl) (by kernel_rfl) (fun _ _ _ h => h) (Or.inl ⟨by rfl, ?hy41⟩) h0 ?rest41
            case hy41 => (intro w' hS; (try dsimp only at hS); go_simp; try (with_reducible rfl))
            simp only [Act.put, List.getElem_toArray, List.getElem_cons_zero, List.getElem_cons_succ, List.setIfInBounds_toArray, List.set_cons_zero, List.set_cons_succ]
            refine wpAnyH_take (i := 6) (v := ?v42) rfl (by kernel_rfl) (by kernel_rfl) (by kernel_rfl) (fun _ _ _ h => h) (Or.inl ⟨by rfl, ?hy42⟩) h0 ?rest42
            case hy42 => (intro w' hS; (try dsimp only at hS); go_simp; try (with_reducible rfl))
            simp only [Act.put, List.getElem_toArray, List.getElem_cons_zero, List.getElem_cons_succ, List.setIfInBounds_toArray, List.set_cons_zero, List.set_cons_succ]
            refine wpAnyH_take (i := 7) (v := ?v43) rfl (by kernel_rfl) (by kernel_rfl) (by kernel_rfl) (fun _ _ _ h => h) (Or.inl ⟨by rfl, ?hy43⟩) h0 ?rest43
            case hy43 => (intro w' hS; (try dsimp only at hS); go_simp; try (with_reducible rfl))
            simp only [Act.put, List.getElem_toArray, List.getElem_cons_zero, List.getElem_cons_succ, List.setIfInBounds_toArray, List.set_cons_zero, List.set_cons_succ]
            refine wpAnyH_take (i := 8) (v := ?v44) rfl (by kernel_rfl) (by kernel_rfl) (by kernel_rfl) (fun _ _ _ h => h) (Or.inl ⟨by rfl, ?hy44⟩) h0 ?rest44
            case hy44 => (intro w' hS; (try dsimp only at hS); go_simp; try (with_reducible rfl))
            simp only [Act.put, List.getElem_toArray, List.getElem_cons_zero, List.getElem_cons_succ, List.setIfInBounds_toArray, List.set_cons_zero, List.set_cons_succ]
            refine wpAnyH_take (i := 9) (v := ?v45) rfl (by kernel_rfl) (by kernel_rfl) (by kernel_rfl) (fun _ _ _ h => h) (Or.inl ⟨by rfl, ?hy45⟩) h0 ?rest45
            case hy45 => (intro w' hS; (try dsimp only at hS); go_simp; try (with_reducible rfl))
            simp only [Act.put, List.getElem_toArray, List.getElem_cons_zero, List.getElem_cons_succ, List.setIfInBounds_toArray, List.set_cons_zero, List.set_cons_succ]
            refine wpAnyH_take (i := 10) (v := ?v46) rfl (by kernel_rfl) (by kernel_rfl) (by kernel_rfl) (fun _ _ _ h => h) (Or.inl ⟨by rfl, ?hy46⟩) h0 ?rest46
            case hy46 => (intro w' hS; (try dsimp only at hS); go_simp; try (with_reducible rfl))
            simp only [Act.put, List.getElem_toArray, List.getElem_cons_zero, List.getElem_cons_succ, List.setIfInBounds_toArray, List.set_cons_zero, List.set_cons_succ]
            refine wpAnyH_take (i := 11) (v := ?v47) rfl (by kernel_rfl) (by kernel_rfl) (by kernel_rfl) (fun _ _ _ h => h) (Or.inl ⟨by rfl, ?hy47⟩) h0 ?rest47
            case hy47 => (intro w' hS; (try dsimp only at hS); go_simp; try (with_reducible rfl))
            simp only [Act.put, List.getElem_toArray, List.getElem_cons_zero, List.getElem_cons_succ, List.setIfInBounds_toArray, List.set_cons_zero, List.set_cons_succ]
            refine wpAnyH_take (i := 12) (v := ?v48) rfl (by kernel_rfl) (by kernel_rfl) (by kernel_rfl) (fun _ _ _ h => h) (Or.inl ⟨by rfl, ?hy48⟩) h0 ?rest48
            case hy48 => (intro w' hS; (try dsimp only at hS); go_simp; try (with_reducible rfl))
            simp only [Act.put, List.getElem_toArray, List.getElem_cons_zero, List.getElem_cons_succ, List.setIfInBounds_toArray, List.set_cons_zero, List.set_cons_succ]
            refine wpAnyH_take (i := 13) (v := ?v49) rfl (by kernel_rfl) (by kernel_rfl) (by kernel_rfl) (fun _ _ _ h => h) (Or.inl ⟨by rfl, ?hy49⟩) h0 ?rest49
            case hy49 => (intro w' hS; (try dsimp only at hS); go_simp; try (with_reducible rfl))
            simp only [Act.put, List.getElem_toArray, List.getElem_cons_zero, List.getElem_cons_succ, List.setIfInBounds_toArray, List.set_cons_zero, List.set_cons_succ]
            refine wpAnyH_take (i := 14) (v := ?v50) rfl (by kernel_rfl) (by kernel_rfl) (by kernel_rfl) (fun _ _ _ h => h) (Or.inl ⟨by rfl, ?hy50⟩) h0 ?rest50
            case hy50 => (intro w' hS; (try dsimp only at hS); go_simp; try (with_reducible rfl))
            simp only [Act.put, List.getElem_toArray, List.getElem_cons_zero, List.getElem_cons_succ, List.setIfInBounds_toArray, List.set_cons_zero, List.set_cons_succ]
            refine wpAnyH_take (i := 15) (v := ?v51) rfl (by kernel_rfl) (by kernel_rfl) (by kernel_rfl) (fun _ _ _ h => h) (Or.inl ⟨by rfl, ?hy51⟩) h0 ?rest51
            case hy51 => (intro w' hS; (try dsimp only at hS); go_simp; try (with_reducible rfl))
            simp only [Act.put, List.getElem_toArray, List.getElem_cons_zero, List.getElem_cons_succ, List.setIfInBounds_toArray, List.set_cons_zero, List.set_cons_succ]
            refine wpAnyH_take (i := 16) (v := ?v52) rfl (by kernel_rfl) (by kernel_rfl) (by kernel_rfl) (fun _ _ _ h => h) (Or.inl ⟨by rfl, ?hy52⟩) h0 ?rest52
            case hy52 => (intro w' hS; (try dsimp only at hS); go_simp; try (with_reducible rfl))
            simp only [Act.put, List.getElem_toArray, List.getElem_cons_zero, List.getElem_cons_succ, List.setIfInBounds_toArray, List.set_cons_zero, List.set_cons_succ]
            refine wpAnyH_take (i := 17) (v := ?v53) rfl (by kernel_rfl) (by kernel_rfl) (by kernel_rfl) (fun _ _ _ h => h) (Or.inl ⟨by rfl, ?hy53⟩) h0 ?rest53
            case hy53 => (intro w' hS; (try dsimp only at hS); go_simp; try (with_reducible rfl))
            simp only [Act.put, List.getElem_toArray, List.getElem_cons_zero, List.getElem_cons_succ, List.setIfInBounds_toArray, List.set_cons_zero, List.set_cons_succ]
            refine wpAnyH_ready (rs := [18]) (by kernel_rfl) (by simp) (AllReadyH.cons rfl (fun K hK => ?_) AllReadyH.nil)
            rw [if_pos (by rfl)]
            refine wp_bv2 _ _ rfl (AV.mk (some ⟨b12, 0, none⟩) n ((List.replicate n 0).set t 1) z.1 false) (AV.mk (some ⟨b13, 0, none⟩) n ((List.replicate n 0).set t (-1)) (-z.1) false) (by simp [AV.cs, AV.cells, Act.eval]) (by simp [AV.cs, AV.cells, Act.eval]) ?_
            have hb := one_more (w1 := wc) (.cells (AV.cs (AV.mk (some ⟨b12, 0, none⟩) n ((List.replicate n 0).set t 1) z.1 false) ++ AV.cs (AV.mk (some ⟨b13, 0, none⟩) n ((List.replicate n 0).set t (-1)) (-z.1) false)) 25)
            have hC := two_av wc (AV.mk (some ⟨b12, 0, none⟩) n ((List.replicate n 0).set t 1) z.1 false) (AV.mk (some ⟨b13, 0, none⟩) n ((List.replicate n 0).set t (-1)) (-z.1) false)
            obtain ⟨b5, hbb⟩ : ∃ b5, b5 = wc.heap.size := ⟨_, rfl⟩
            rw [← hbb] at hC
            obtain ⟨wn, hwn⟩ : ∃ wn, wn = wc.alloc (.cells (AV.cs (AV.mk (some ⟨b12, 0, none⟩) n ((List.replicate n 0).set t 1) z.1 false) ++ AV.cs (AV.mk (some ⟨b13, 0, none⟩) n ((List.replicate n 0).set t (-1)) (-z.1) false)) 25) := ⟨_, rfl⟩
            rw [← hwn] at hb hC ⊢
            try rw [← hbb]
            have Bc := Lib.hid (below_on Bc.out hb)
            have CC := Lib.hid hC
            clear hb hC hbb hwn
            obtain ⟨wc, hwc⟩ : ∃ wc, wc = wn := ⟨_, rfl⟩
            rw [← hwc] at Bc CC ⊢
            clear hwc
            try simp only [Act.put, List.getElem_toArray, List.getElem_cons_zero, List.getElem_cons_succ, List.setIfInBounds_toArray, List.set_cons_zero, List.set_cons_succ]
            refine hK.out _ _ (KS.out _ (below_on HB2.out Bc.out)) (fun h0_1 => ?_)
            clear hK K h0
            refine wpAnyH_ready (rs := [19]) (by kernel_rfl) (by simp) (AllReadyH.cons rfl (fun K hK => ?_) AllReadyH.nil)
            rw [if_pos (by rfl)]
            obtain ⟨v9, we, hrun, ho, hg, hf⟩ := appendV2_run (HO.out.on (below_on HWA.out Bc.out)) (c := 2) CC.out (show GoodV wc (Value.ownBlock u10) (AV.mk (some ⟨b12, 0, none⟩) n ((List.replicate n 0).set t 1) z.1 false) from ⟨(K12.out.on Bc.out).rd, fun p e => by (cases e; exact ⟨fun k => (by have q : b12 < wo.heap.size := (HO.out.lt _ k).2; have := K12.out.lt; omega), (K12.out.on Bc.out).lt.2⟩), fun e => by (cases e), (K12.out.on Bc.out).capOk⟩) (show GoodV wc (Value.ownBlock u10) (AV.mk (some ⟨b13, 0, none⟩) n ((List.replicate n 0).set t (-1)) (-z.1) false) from ⟨(K13.out.on Bc.out).rd, fun p e => by (cases e; exact ⟨fun k => (by have q : b13 < wo.heap.size := (HO.out.lt _ k).2; have := K13.out.lt; omega), (K13.out.on Bc.out).lt.2⟩), fun e => by (cases e), (K13.out.on Bc.out).capOk⟩) (by have := KL.out; omega) (by have := HZ.out; have := (below_on HWA.out Bc.out).size; omega) 22
            refine Lib.wp_append_run _ _ _ 22 22 rfl _ (.slice (some ⟨b5, 0, none⟩) 2 2) rfl rfl _ _ hrun ?_
            have BW := Lib.hid (Below.grown (below_on HB2.out Bc.out) hg (below_on HB2.out Bc.out).size (fun k hk => by have := (HO.out.lt k hk).1; have := Z6.out; omega))
            have ZW := Lib.hid (show w6.heap.size ≤ we.heap.size by have := HZ.out; have := (below_on HWA.out Bc.out).size; have := hg.size; omega)
            have O9 := Lib.hid ho
            clear hrun ho hg hf
            try simp only [Act.put, List.getElem_toArray, List.getElem_cons_zero, List.getElem_cons_succ, List.setIfInBounds_toArray, List.set_cons_zero, List.set_cons_succ]
            refine hK.out _ _ (KS.out _ BW.out) (fun h0_2 => ?_)
            clear hK K h0_1
            refine wpAnyH_take (i := 20) (v := ?v54) rfl (by kernel_rfl) (by kernel_rfl) (by kernel_rfl) (fun _ _ _ h => h) (Or.inl ⟨by rfl, ?hy54⟩) h0_2 ?rest54
            case hy54 => (intro w' hS; (try dsimp only at hS); go_simp; try (with_reducible rfl))
            simp only [Act.put, List.getElem_toArray, List.getElem_cons_zero, List.getElem_cons_succ, List.setIfInBounds_toArray]
            try simp only [List.set_cons_succ]
            try simp only [List.set_cons_zero]
            refine wpAnyH_done (by kernel_rfl) ?_ _
            go_wp2_with fail
            go_roundw
            case rel => exact ⟨t + 1, by go_num, by omega, Lib.hid ⟨K ++ [(AV.mk (some ⟨b12, 0, none⟩) n ((List.replicate n 0).set t 1) z.1 false), (AV.mk (some ⟨b13, 0, none⟩) n ((List.replicate n 0).set t (-1)) (-z.1) false)], O9.out, by rw [List.map_append, HK.out, AD.out, List.append_assoc]; rfl, HD1.out, BW.out, ZW.out⟩⟩
            case measure => simp [intOf]; omega
      · have e9 : t = n := by omega
        obtain ⟨ao9, c9, ev, hrd, _⟩ := HO.out.read
        subst ev
        have EB := Lib.hid (show empB (K.map ofV) n = false from prj_back PJ.out RS.out (fun j hj hne => HD.out j (by omega) hne) (by rw [HK.out, e9]))
        have EM := Lib.hid (empty_any (n : Int) K ao9 c9 wo hrd)
        obtain ⟨k9, hk9⟩ : ∃ k, k = K.length := ⟨_, rfl⟩
        rw [← hk9] at EM ⊢
        obtain ⟨ee, hee⟩ : ∃ ee, ee = empE (n : Int) K := ⟨_, rfl⟩
        rw [← hee] at EM
        have hz : (if ee = 0 then empB (K.map ofV) ((n : Int)).toNat else false) = false := by
          split
          · exact EB.out
          · rfl
        rw [hz] at EM
        clear hrd hk9 hee hz EB
        go_wp2_with fail
        refine EM.out.mono ?_
        rintro e w11 ⟨hbl, rfl⟩
        have B11 := Lib.hid (below_on HB.out hbl)
        clear hbl EM c0
        by_cases ee0 : ee = 0
        · subst ee0
          go_wp2_with fail
          refine (shown_any w11).mono ?_
          rintro e w99 ⟨rfl, hbl⟩
          have B99 := Lib.hid (below_on E0.out (below_on B11.out hbl))
          clear hbl
          go_wp2_with fail
          go_ret
          exact ⟨rfl, B99.out⟩
        · have ee0' : (ee != 0) = true := by simpa using ee0
          go_wp2_with fail
          refine (shown_any w11).mono ?_
          rintro e w99 ⟨rfl, hbl⟩
          have B99 := Lib.hid (below_on E0.out (below_on B11.out hbl))
          clear hbl
          go_wp2_with fail
          go_ret
          exact ⟨rfl, B99.out⟩
end Go.Proofs.YtefpaobboimakaaGreat
