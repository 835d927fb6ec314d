/- The law PolyPieces returns true. -/
import Derived.Test.YtbhaoaobhgilkaaGreatVi47
import Derived.Test.YtbhaoaobhgilkaaGreatVi42

namespace Go.Proofs.YtbhaoaobhgilkaaGreat
open Go.RowKit Go.Sort Go.Shelf

theorem ansE_zero {n : Int} {G : List (List AV)} {er : Int} (h : ansE n G er = 0) : (∀ L ∈ G, chkP n L = 0) ∧ er = 0 := by
  by_cases hc : ∀ L ∈ G, chkP n L = 0
  · exact ⟨hc, by rw [ansE_none hc] at h; exact h⟩
  · exfalso
    unfold ansE at h
    split at h
    · rename_i L e
      have := List.find?_some e
      simp only [decide_eq_true_eq] at this
      exact this h
    · rename_i e
      refine hc fun L hL => ?_
      have := List.find?_eq_none.1 e L hL
      simpa using this

theorem mn_len (n : Nat) (a b : List Ln) : ∀ t, (mnS n a b t).1.length ≤ t
  | 0 => by simp [mnS]
  | t + 1 => by
    have ih := mn_len n a b t
    unfold mnS
    split
    · omega
    · split
      · simp
      · split
        · simp
        · split
          · omega
          · simp; omega

/-- What is known of the pieces, for a dimension that is an integer. -/
theorem pieces_fin {N : Int} {L M : List AV} {Ls : List LsV} (h : minE N L M = 0) (hp : PcOk N.toNat Ls (mnS N.toNat (L.map ofV) (M.map ofV) M.length).1) : Ls.length ≤ 1000 ∧
    (∀ p ∈ Ls, ∀ y ∈ p.l, (y.a.length ≤ 1000000 ∧ ∀ v ∈ y.a, I64 v) ∧ I64 y.b) ∧
    ∀ P : List Pq, hasE N L P = 0 → hasE N M P = 0 → (∀ p ∈ Ls, hasE N p.l P = 0) → (Ls.countP fun p => hasB N p.l P) = if hasB N L P && !hasB N M P then 1 else 0 := by
  unfold minE at h
  obtain ⟨h1, h2⟩ := ansE_zero h
  have c1 := h1 L (by simp)
  have c2 := h1 M (by simp)
  obtain ⟨⟨g1, g2⟩, g3, _⟩ := chk_valid c2
  have hl : Ls.length ≤ M.length := by
    have e := congrArg List.length hp
    rw [List.length_map, List.length_map] at e
    rw [e]; exact mn_len _ _ _ _
  obtain ⟨n, rfl⟩ : ∃ n : Nat, N = n := ⟨N.toNat, by omega⟩
  rw [Int.toNat_natCast] at hp h2
  obtain ⟨k1, k2⟩ := pieces_of c1 c2 hp h2
  exact ⟨by omega, k1, k2⟩

/-- What Point leaves, in one form for both outcomes. -/
def PoR (n : Int) (L : List AV) (w : World) (e : Ending) (w' : World) : Prop :=
  ∃ po pl pc, ∃ ps : List Pq, e = .returned (.tuple #[.slice po pl pc, .int .i64 (ponE n L)]) ∧ pl = ps.length ∧ Rd2 w' po ps ∧ (∀ t, t < ps.length → I2 (gp ps t)) ∧ ps.length ≤ 5 ∧ (ponE n L = 0 → hasE n L ps = 0 → hasB n L ps = true) ∧ (ponE n L ≠ 0 → pl = 0) ∧ Below w.heap.size w w'

theorem point_one (n : Int) (L : List AV) (ao : Option Addr) (cap : Nat) (w : World) (hR : RdV w ao L) :
    Calls Tryz.prog 25 #[.int .i64 n, .slice ao L.length cap] w (PoR n L w) := by
  refine (pointP_any n L ao cap w hR).mono fun e w' ⟨hb, h⟩ => ?_
  rcases h with ⟨he, v, rfl, ao', cap', rfl, hr, _⟩ | ⟨he, rfl⟩
  · have h0 := he
    unfold ponE at h0
    by_cases hc : chkP n L = 0
    · rw [if_pos hc] at h0
      obtain ⟨⟨g1, g2⟩, _, _⟩ := chk_valid hc
      unfold poE at h0
      split at h0
      · unfold ptE at h0
        split at h0
        · simp at h0
        · obtain ⟨k1, k2⟩ := ptN_len _ h0
          exact ⟨ao', _, cap', _, by rw [he], rfl, hr, fun t ht => k2 t (by omega), by omega, fun _ h => pon_meets he h, fun h => absurd he h, hb⟩
      · rename_i q; exact absurd h0 q
    · rw [if_neg hc] at h0; exact absurd h0 hc
  · exact ⟨none, 0, 0, [], rfl, rfl, fun t ht => by simp at ht, fun t ht => by simp at ht, by simp, fun h => absurd h he, fun _ => rfl, hb⟩

/-- What Minus leaves, in one form. -/
def MnR (n : Int) (L M : List AV) (w : World) (e : Ending) (w' : World) : Prop :=
  ∃ v Ls, e = .returned (.tuple #[v, .int .i64 (minE n L M)]) ∧ (minE n L M = 0 → OwnP w' w.heap.size v none Ls ∧ PcOk n.toNat Ls (mnS n.toNat (L.map ofV) (M.map ofV) M.length).1) ∧ Below w.heap.size w w'

theorem minus_one (n : Int) (A B : List AV) (ao bo : Option Addr) (ac bc : Nat) (w : World) (hA : RdV w ao A) (hB : RdV w bo B) :
    Calls Tryz.prog 28 #[.int .i64 n, .slice ao A.length ac, .slice bo B.length bc] w (MnR n A B w) := by
  refine (minusP_any n A B ao bo ac bc w hA hB).mono fun e w' ⟨hb, h⟩ => ?_
  rcases h with ⟨he, v, rfl, Ls, h1, h2⟩ | ⟨he, rfl⟩
  · exact ⟨v, Ls, by rw [he], fun _ => ⟨h1, h2⟩, hb⟩
  · exact ⟨_, [], rfl, fun h => absurd h he, hb⟩

theorem countP_take {α : Type} (p : α → Bool) {l : List α} {t : Nat} (h : t < l.length) : (l.take (t + 1)).countP p = (l.take t).countP p + (if p l[t] then 1 else 0) := by
  rw [List.take_succ_eq_append_getElem h, List.countP_append]
  simp [List.countP_cons]

set_option maxRecDepth 100000 in
set_option maxHeartbeats 8000000 in
theorem piecesL_any (N I xb : Int) (xs : Bool) (L M : List AV) (xa aa : List Int) (P : List Pq) (la ma xq pa aq : Option Addr) (lc mc xc pc ac : Nat) (w : World) (hR : RdV w la L) (hS : RdV w ma M) (hL : ∀ y ∈ L, (∀ v ∈ y.a, I64 v) ∧ I64 y.b) (hM : ∀ y ∈ M, (∀ v ∈ y.a, I64 v) ∧ I64 y.b) (hQ : Rd2 w pa P) (hQI : ∀ t, t < P.length → I2 (gp P t)) :
    Calls Tryz.prog 7 #[.agg #[.int .i64 N, .slice la L.length lc, .slice ma M.length mc, .slice xq xa.length xc, .int .i64 xb, .bool xs, .int .i64 I, .slice pa P.length pc, .slice aq aa.length ac]] w (Made (.bool true) w) := by
  obtain ⟨l1, e1⟩ : ∃ n, n = L.length := ⟨_, rfl⟩
  obtain ⟨l2, e2⟩ : ∃ n, n = M.length := ⟨_, rfl⟩
  obtain ⟨l3, e3⟩ : ∃ n, n = xa.length := ⟨_, rfl⟩
  obtain ⟨l4, e4⟩ : ∃ n, n = P.length := ⟨_, rfl⟩
  obtain ⟨l5, e5⟩ : ∃ n, n = aa.length := ⟨_, rfl⟩
  obtain ⟨w0, hw0⟩ : ∃ w0, w0 = w.alloc (.cells #[.int .i64 N, .slice la l1 lc, .slice ma l2 mc, .slice xq l3 xc, .int .i64 xb, .bool xs, .int .i64 I, .slice pa l4 pc, .slice aq l5 ac] 28) := ⟨_, rfl⟩
  have E0 := Lib.hid (show Below w.heap.size w w0 by rw [hw0]; exact one_more _)
  have hq := heap_alloc_last w (.cells #[.int .i64 N, .slice la l1 lc, .slice ma l2 mc, .slice xq l3 xc, .int .i64 xb, .bool xs, .int .i64 I, .slice pa l4 pc, .slice aq l5 ac] 28)
  rw [← hw0] at hq
  have D0 := Lib.hid (show w0.cell? ⟨w.heap.size, 0, none⟩ = some (.int .i64 N) by rw [cell_of_row w0 _ 0 _ _ _ hq]; rfl)
  have D1 := Lib.hid (show w0.cell? ⟨w.heap.size, 1, none⟩ = some (.slice la l1 lc) by rw [cell_of_row w0 _ 1 _ _ _ hq]; rfl)
  have D2 := Lib.hid (show w0.cell? ⟨w.heap.size, 2, none⟩ = some (.slice ma l2 mc) by rw [cell_of_row w0 _ 2 _ _ _ hq]; rfl)
  have D7 := Lib.hid (show w0.cell? ⟨w.heap.size, 7, none⟩ = some (.slice pa l4 pc) by rw [cell_of_row w0 _ 7 _ _ _ hq]; rfl)
  have C0 := Lib.hid (show CsAt w0 ⟨w.heap.size, 0, none⟩ [.int .i64 N, .slice la l1 lc, .slice ma l2 mc, .slice xq l3 xc, .int .i64 xb, .bool xs, .int .i64 I, .slice pa l4 pc, .slice aq l5 ac] from fun j v hv => by
    rw [addr_add, Nat.zero_add, cell_of_row w0 _ j _ _ _ hq]; simpa using hv)
  have BY := Lib.hid (beyond_any N I 6 xb xs L M xa aa P la ma xq pa aq lc mc xc pc ac w0 (hR.on E0.out) (hS.on E0.out))
  rw [← e1, ← e2, ← e3, ← e4, ← e5] at BY
  have HR := Lib.hid (hR.on E0.out)
  have HS := Lib.hid (hS.on E0.out)
  have HQ := Lib.hid (hQ.on E0.out)
  have HL := Lib.hid hL
  have HM := Lib.hid hM
  have HQI := Lib.hid hQI
  have L1 := Lib.hid e1
  have L2 := Lib.hid e2
  have L4 := Lib.hid e4
  have PON := Lib.hid (fun h => pon_emp (n := N) (L := L) h)
  have FIN := Lib.hid (fun Ls h hp => pieces_fin (N := N) (L := L) (M := M) (Ls := Ls) h hp)
  obtain ⟨he, hhe⟩ : ∃ he, he = hasE N L P := ⟨_, rfl⟩
  obtain ⟨hb, hhb⟩ : ∃ hb, hb = hasB N L P := ⟨_, rfl⟩
  obtain ⟨te, hte⟩ : ∃ te, te = hasE N M P := ⟨_, rfl⟩
  obtain ⟨tb, htb⟩ : ∃ tb, tb = hasB N M P := ⟨_, rfl⟩
  have HE := Lib.hid hhe
  have HB0 := Lib.hid hhb
  have TE := Lib.hid hte
  have TB := Lib.hid htb
  rw [← e1, ← e2, ← e3, ← e4, ← e5]
  clear hR hS hL hM hQ hQI hq e1 e2 e3 e4 e5 hhe hhb hte htb
  go_enter Tryz.func7, Tryz.ntmps7
  go_upto_region 1 with (fail)
  rw [← hw0]
  clear hw0
  go_wp2_with (refine wpl_loadC case_agg (by exact case_size) rfl _ rfl _ rfl C0.out ?_)
  refine BY.out.mono ?_
  rintro e w1 ⟨b, rfl, hbl, hF⟩
  have B1 := Lib.hid hbl
  have FK := Lib.hid hF
  clear hbl hF BY C0
  cases b
  case true =>
    go_wp2_with fail
    refine (shown_any w1).mono ?_
    rintro e w99 ⟨rfl, hbl⟩
    have B99 := Lib.hid (below_on E0.out (below_on B1.out hbl))
    clear hbl
    go_wp2_with fail
    go_ret
    exact ⟨rfl, B99.out⟩
  obtain ⟨⟨_, q2, _⟩, ⟨_, q3, _⟩, _, q4, _⟩ := FK.out (by first | rfl | trivial)
  have Y1 := Lib.hid (show ∀ y ∈ L, y.a.length ≤ 1000000 ∧ ∀ v ∈ y.a, I64 v from fun y hy => ⟨by have := q2 y hy; omega, (HL.out y hy).1⟩)
  have Z1 := Lib.hid (show ∀ y ∈ L, I64 y.b from fun y hy => (HL.out y hy).2)
  have Y2 := Lib.hid (show ∀ y ∈ M, y.a.length ≤ 1000000 ∧ ∀ v ∈ y.a, I64 v from fun y hy => ⟨by have := q3 y hy; omega, (HM.out y hy).1⟩)
  have Z2 := Lib.hid (show ∀ y ∈ M, I64 y.b from fun y hy => (HM.out y hy).2)
  have P20 := Lib.hid (show P.length ≤ 1000 by omega)
  clear FK q2 q3 q4 HL HM
  have PT := Lib.hid (point_one N L la lc w1 (HR.out.on B1.out))
  rw [← L1.out] at PT
  have c0 := kept B1.out D0.out
  have c1 := kept B1.out D1.out
  go_wp2_with fail
  refine PT.out.mono ?_
  rintro e w2 ⟨po, pl, pcc, ps, rfl, hpl, hrd, hpi, hp5, hpm, hpe, hbl⟩
  have B2 := Lib.hid (below_on B1.out hbl)
  have PL := Lib.hid hpl
  have PRD := Lib.hid hrd
  have PI := Lib.hid hpi
  have P5 := Lib.hid hp5
  have PM := Lib.hid hpm
  have PE := Lib.hid hpe
  clear hbl hpl hrd hpi hp5 hpm hpe PT c0 c1
  obtain ⟨pe, hpe⟩ : ∃ pe, pe = ponE N L := ⟨_, rfl⟩
  rw [← hpe] at PM PE ⊢
  have PON := Lib.hid (fun h => hpe ▸ PON.out h)
  clear hpe
  obtain ⟨pz, hpz⟩ : ∃ pz, (pe == 0) = pz := ⟨_, rfl⟩
  go_upto_if 31 with (fail)
  go_cut [5, 6] (fun _ _ wx => Hid (Below w0.heap.size w0 wx))
  case first =>
    cases pz
    · clear hpz
      go_wp2_with fail
      go_meet
      case rel => exact B2
    · have PZ := Lib.hid (show pe = 0 by simpa using hpz)
      have ME := Lib.hid (meets_any N L ps la po lc pcc w2 (HR.out.on B2.out) PRD.out Y1.out Z1.out PI.out (by have := P5.out; omega))
      rw [← L1.out, ← PL.out] at ME
      have PM1 := Lib.hid (PM.out PZ.out)
      obtain ⟨qe, hqe⟩ : ∃ qe, qe = hasE N L ps := ⟨_, rfl⟩
      obtain ⟨qb, hqb⟩ : ∃ qb, qb = hasB N L ps := ⟨_, rfl⟩
      rw [← hqe, ← hqb] at ME PM1
      have c0 := kept B2.out D0.out
      have c1 := kept B2.out D1.out
      clear hqe hqb hpz
      go_wp2_with fail
      refine ME.out.mono ?_
      rintro e w3 ⟨rfl, hbl⟩
      have B3 := Lib.hid (below_on B2.out hbl)
      clear hbl ME c0 c1
      by_cases q0 : qe = 0
      · have d0 := decide_eq_true q0
        have d1 := PM1.out q0
        rw [d0, d1]
        clear q0 d0 d1
        go_wp2_with fail
        go_meet
        case rel => exact B3
      · have d0 := decide_eq_false q0
        rw [d0]
        clear q0 d0
        go_wp2_with fail
        go_meet
        case rel => exact B3
  case rest =>
  have B3 := hcut
  clear hcut hpz B2 PM PRD PI P5
  generalize wc = w3 at *
  have EM := Lib.hid (empty_any N L la lc w3 (HR.out.on B3.out))
  rw [← L1.out] at EM
  obtain ⟨ee, hee⟩ : ∃ ee, ee = empE N L := ⟨_, rfl⟩
  obtain ⟨eb, heb⟩ : ∃ eb, eb = (if ee = 0 then empB (L.map ofV) N.toNat else false) := ⟨_, rfl⟩
  rw [← hee, ← heb] at EM
  have PN := Lib.hid (show ee = 0 → decide (pe = 4) = eb from fun h => by rw [heb, if_pos h]; exact PON.out (hee ▸ h))
  have c0 := kept B3.out D0.out
  have c1 := kept B3.out D1.out
  clear hee heb PON
  go_wp2_with fail
  refine EM.out.mono ?_
  rintro e w4 ⟨hbl, rfl⟩
  have B4 := Lib.hid (below_on B3.out hbl)
  clear hbl EM c0 c1 B3
  go_upto_region 9 with (fail)
  go_cut [70] (fun s wx => s = .bool false ∧ wx = w4)
  case first =>
    have P0 : pe ≠ 0 → ((pl : Int) != 0) = false := fun h => by have := PE.out h; simp [this]
    by_cases h0 : ee = 0
    · have f0 : (ee == 0) = true := by simpa using h0
      have PN1 := PN.out h0
      clear h0
      cases eb
      · have h4 : ¬ pe = 4 := by simpa using PN1
        have f1 : (pe == 4) = false := by simpa using h4
        clear PN1
        by_cases h1 : pe = 0
        · have f2 : (pe != 0) = false := by simpa using h1
          clear h1 P0 h4
          go_wp2_with fail
          go_meet
          case rel => exact ⟨rfl, rfl⟩
        · have f2 : (pe != 0) = true := by simpa using h1
          have f3 := P0 h1
          clear h1 P0 h4
          go_wp2_with fail
          go_meet
          case rel => exact ⟨rfl, rfl⟩
      · have h4 : pe = 4 := by simpa using PN1
        have f1 : (pe == 4) = true := by simpa using h4
        have f2 : (pe != 0) = true := by rw [h4]; rfl
        have f3 := P0 (by rw [h4]; decide)
        clear PN1 P0 h4
        go_wp2_with fail
        go_meet
        case rel => exact ⟨rfl, rfl⟩
    · have f0 : (ee == 0) = false := by simpa using h0
      clear h0
      by_cases h1 : pe = 0
      · have f2 : (pe != 0) = false := by simpa using h1
        clear h1 P0
        go_wp2_with fail
        go_meet
        case rel => exact ⟨rfl, rfl⟩
      · have f2 : (pe != 0) = true := by simpa using h1
        have f3 := P0 h1
        clear h1 P0
        go_wp2_with fail
        go_meet
        case rel => exact ⟨rfl, rfl⟩
  case rest =>
  obtain ⟨rfl, rfl⟩ := hcut
  generalize wc = w4 at *
  clear PN PE PL
  have MI := Lib.hid (minus_one N L M la ma lc mc w4 (HR.out.on B4.out) (HS.out.on B4.out))
  rw [← L1.out, ← L2.out] at MI
  have c0 := kept B4.out D0.out
  have c1 := kept B4.out D1.out
  have c2 := kept B4.out D2.out
  go_wp2_with fail
  refine MI.out.mono ?_
  rintro e w5 ⟨vl, Ls, rfl, hmn, hbl⟩
  have B5 := Lib.hid (below_on B4.out hbl)
  have MN := Lib.hid hmn
  clear hbl hmn MI c0 c1 c2
  obtain ⟨ge, hge⟩ : ∃ ge, ge = minE N L M := ⟨_, rfl⟩
  have FN := Lib.hid (show ge = 0 → _ from fun h => FIN.out Ls (hge ▸ h) (MN.out (hge ▸ h)).2)
  have OP := Lib.hid (show ge = 0 → OwnP w5 w4.heap.size vl none Ls from fun h => (MN.out (hge ▸ h)).1)
  rw [← hge]
  clear hge MN FIN
  have ME1 := Lib.hid (fun W (h : Below w0.heap.size w0 W) => meets_any N L P la pa lc pc W (HR.out.on h) (HQ.out.on h) Y1.out Z1.out HQI.out P20.out)
  have ME2 := Lib.hid (fun W (h : Below w0.heap.size w0 W) => meets_any N M P ma pa mc pc W (HS.out.on h) (HQ.out.on h) Y2.out Z2.out HQI.out P20.out)
  rw [← HE.out, ← HB0.out, ← L1.out, ← L4.out] at ME1
  rw [← TE.out, ← TB.out, ← L2.out, ← L4.out] at ME2
  have c0 := kept B5.out D0.out
  have c1 := kept B5.out D1.out
  have c7 := kept B5.out D7.out
  go_wp2_with fail
  refine (ME1.out w5 B5.out).mono ?_
  rintro e w6 ⟨rfl, hbl⟩
  have W6 := Lib.hid hbl
  have B6 := Lib.hid (below_on B5.out hbl)
  clear hbl c0 c1 c7 ME1
  have c0 := kept B6.out D0.out
  have c2 := kept B6.out D2.out
  have c7 := kept B6.out D7.out
  go_wp2_with fail
  refine (ME2.out w6 B6.out).mono ?_
  rintro e w7 ⟨rfl, hbl⟩
  have W7 := Lib.hid (below_on W6.out hbl)
  have B7 := Lib.hid (below_on B6.out hbl)
  clear hbl c0 c2 c7 ME2 W6 Y1 Y2 Z1 Z2 HR HS
  by_cases g0 : ge = 0
  case neg =>
    have g1 : (ge != 0) = true := by simpa using g0
    clear g0
    go_wp2_with fail
    refine (shown_any w7).mono ?_
    rintro e w99 ⟨rfl, hbl⟩
    have B99 := Lib.hid (below_on E0.out (below_on B7.out hbl))
    clear hbl
    go_wp2_with fail
    go_ret
    exact ⟨rfl, B99.out⟩
  have g1 : (ge != 0) = false := by simpa using g0
  obtain ⟨k1, k2, k3⟩ := FN.out g0
  have OP1 := Lib.hid ((OP.out g0).on W7.out)
  have K1 := Lib.hid k1
  have K2 := Lib.hid k2
  have K3 := Lib.hid k3
  clear g0 k1 k2 k3 FN OP
  by_cases h0 : he = 0
  case neg =>
    rw [decide_eq_false h0]
    clear h0
    go_wp2_with fail
    refine (shown_any w7).mono ?_
    rintro e w99 ⟨rfl, hbl⟩
    have B99 := Lib.hid (below_on E0.out (below_on B7.out hbl))
    clear hbl
    go_wp2_with fail
    go_ret
    exact ⟨rfl, B99.out⟩
  by_cases t0 : te = 0
  case neg =>
    rw [decide_eq_true h0, decide_eq_false t0]
    clear h0 t0
    go_wp2_with fail
    refine (shown_any w7).mono ?_
    rintro e w99 ⟨rfl, hbl⟩
    have B99 := Lib.hid (below_on E0.out (below_on B7.out hbl))
    clear hbl
    go_wp2_with fail
    go_ret
    exact ⟨rfl, B99.out⟩
  rw [decide_eq_true h0, decide_eq_true t0]
  have K4 := Lib.hid (K3.out P (HE.out ▸ h0) (TE.out ▸ t0))
  clear h0 t0 K3
  obtain ⟨ao, cap, hv, hcl, hrd⟩ := OP1.out.read
  subst hv
  have LC := Lib.hid hcl
  have LR := Lib.hid hrd
  obtain ⟨K, hK⟩ : ∃ K, K = Ls.length := ⟨_, rfl⟩
  have KL := Lib.hid hK
  have k1000 : K ≤ 1000 := by rw [hK]; exact K1.out
  rw [← hK]
  clear hcl hrd hK OP1 K1
  have INI := Lib.hid (show (0 : Nat) = (Ls.take 0).countP (fun p => hasB N p.l P) ∧ (∀ k, ∀ h : k < Ls.length, k < 0 → hasE N Ls[k].l P = 0) from ⟨by simp, fun k _ h => by omega⟩)
  have W77 := Lib.hid (Below.refl w7.heap.size w7)
  go_wp2_with fail
  go_loopw [15, 16, 17, 18] (fun m s _ _ wr => ∃ t c : Nat, s = .int .i64 t ∧ m = .int .i64 c ∧ t ≤ K ∧ c ≤ t ∧ Hid (c = (Ls.take t).countP (fun p => hasB N p.l P) ∧ (∀ k, ∀ h : k < Ls.length, k < t → hasE N Ls[k].l P = 0)) ∧ Hid (Below w7.heap.size w7 wr)) (fun _ s _ _ _ => K - (intOf s).toNat)
  case atStart => exact ⟨0, 0, rfl, rfl, by omega, by omega, INI, W77⟩
  case round =>
    clear INI W77
    obtain ⟨t, c, rfl, rfl, ht, hct, HC, HW⟩ := hrel
    generalize wr = wo at *
    have BO := Lib.hid (below_on B7.out HW.out)
    by_cases htK : t < K
    · have htl : t < Ls.length := by have := KL.out; omega
      obtain ⟨a, ha, hcell⟩ := LC.out t htl
      obtain ⟨p, hp⟩ : ∃ p, p = Ls[t] := ⟨_, rfl⟩
      have hmem := List.getElem_mem htl
      rw [← hp] at hcell hmem
      have ME := Lib.hid (fun W (h : Below wo.heap.size wo W) => meets_any N p.l P p.q pa p.c pc W (((LR.out p hmem).on HW.out).on h) ((HQ.out.on BO.out).on h) (fun y hy => (K2.out p hmem y hy).1) (fun y hy => (K2.out p hmem y hy).2) HQI.out P20.out)
      rw [← L4.out] at ME
      have HCR := Lib.hid (show wo.cell? (a.add t) = some (.slice p.q p.l.length p.c) from kept HW.out hcell)
      have CT := Lib.hid (show (Ls.take (t + 1)).countP (fun p => hasB N p.l P) = c + (if hasB N p.l P then 1 else 0) by rw [countP_take _ htl, hp, ← HC.out.1])
      obtain ⟨qe, hqe⟩ : ∃ qe, qe = hasE N p.l P := ⟨_, rfl⟩
      obtain ⟨qb, hqb⟩ : ∃ qb, qb = hasB N p.l P := ⟨_, rfl⟩
      have QA := Lib.hid (show qe = 0 → ∀ k, ∀ h : k < Ls.length, k < t + 1 → hasE N Ls[k].l P = 0 from fun h k hk hkt => by
        by_cases e : k = t
        · subst e; rw [← hp, ← hqe]; exact h
        · exact HC.out.2 k hk (by omega))
      rw [← hqe, ← hqb] at ME
      rw [← hqb] at CT
      obtain ⟨pq, hpq⟩ : ∃ x, x = p.q := ⟨_, rfl⟩
      obtain ⟨pl2, hpl⟩ : ∃ x, x = p.l.length := ⟨_, rfl⟩
      obtain ⟨pc2, hpc⟩ : ∃ x, x = p.c := ⟨_, rfl⟩
      rw [← hpq, ← hpl, ← hpc] at HCR ME
      have D0r := Lib.hid (kept BO.out D0.out)
      have D7r := Lib.hid (kept BO.out D7.out)
      have tK : (t : Int) < (K : Int) := by omega
      subst ha
      clear hmem hcell hp hqe hqb hpq hpl hpc HC htl
      go_upto_region 20 with (fail)
      have KS := Lib.hid (show ∀ W, Below wo.heap.size wo W → (W.cell? ⟨w.heap.size, 0, none⟩ = some (.int .i64 N) ∧ W.cell? (a.add t) = some (.slice pq pl2 pc2) ∧ W.cell? ⟨w.heap.size, 7, none⟩ = some (.slice pa l4 pc)) from fun W h => ⟨kept h D0r.out, kept h HCR.out, kept h D7r.out⟩)
      obtain ⟨wc, hwc⟩ : ∃ wc, wc = wo.drew := ⟨_, rfl⟩
      have Bc := Lib.hid (show Below wo.heap.size wo wc by rw [hwc]; exact (Below.refl _ _).drew)
      refine wp_region_held_drew (S := (fun W => (W.cell? ⟨w.heap.size, 0, none⟩ = some (.int .i64 N) ∧ W.cell? (a.add t) = some (.slice pq pl2 pc2) ∧ W.cell? ⟨w.heap.size, 7, none⟩ = some (.slice pa l4 pc)))) (by kernel_rfl) (by rw [← hwc]; exact KS.out _ Bc.out) (fun h0 => ?_)
      rw [← hwc] at h0 ⊢
      clear hwc
      refine wpAnyH_take (i := 0) (v := ?v1) rfl (by kernel_rfl) (by kernel_rfl) (by kernel_rfl) (fun _ _ _ h => h) (Or.inl ⟨by rfl, ?hy1⟩) h0 ?rest1
      case hy1 => (intro w' hS; (try dsimp only at hS); go_simp; try (with_reducible rfl))
      simp only [Act.put, List.getElem_toArray, List.getElem_cons_zero, List.setIfInBounds_toArray, List.set_cons_zero, List.set_cons_succ]
      refine wpAnyH_take (i := 1) (v := ?v2) rfl (by kernel_rfl) (by kernel_rfl) (by kernel_rfl) (fun _ _ _ h => h) (Or.inl ⟨by rfl, ?hy2⟩) h0 ?rest2
      case hy2 => (intro w' hS; (try dsimp only at hS); go_simp; try (with_reducible rfl))
      simp only [Act.put, List.getElem_toArray, List.getElem_cons_zero, List.getElem_cons_succ, List.setIfInBounds_toArray, List.set_cons_zero, List.set_cons_succ]
      refine wpAnyH_take (i := 2) (v := ?v3) rfl (by kernel_rfl) (by kernel_rfl) (by kernel_rfl) (fun _ _ _ h => h) (Or.inl ⟨by rfl, ?hy3⟩) h0 ?rest3
      case hy3 => (intro w' hS; (try dsimp only at hS); go_simp; try (with_reducible rfl))
      simp only [Act.put, List.getElem_toArray, List.getElem_cons_zero, List.getElem_cons_succ, List.setIfInBounds_toArray, List.set_cons_zero, List.set_cons_succ]
      refine wpAnyH_take (i := 3) (v := ?v4) rfl (by kernel_rfl) (by kernel_rfl) (by kernel_rfl) (fun _ _ _ h => h) (Or.inl ⟨by rfl, ?hy4⟩) h0 ?rest4
      case hy4 => (intro w' hS; (try dsimp only at hS); go_simp; try (with_reducible rfl))
      simp only [Act.put, List.getElem_toArray, List.getElem_cons_zero, List.getElem_cons_succ, List.setIfInBounds_toArray, List.set_cons_zero, List.set_cons_succ]
      refine wpAnyH_take (i := 4) (v := ?v5) rfl (by kernel_rfl) (by kernel_rfl) (by kernel_rfl) (fun _ _ _ h => h) (Or.inl ⟨by rfl, ?hy5⟩) h0 ?rest5
      case hy5 => (intro w' hS; (try dsimp only at hS); go_simp; try (with_reducible rfl))
      simp only [Act.put, List.getElem_toArray, List.getElem_cons_zero, List.getElem_cons_succ, List.setIfInBounds_toArray, List.set_cons_zero, List.set_cons_succ]
      refine wpAnyH_take (i := 5) (v := ?v6) rfl (by kernel_rfl) (by kernel_rfl) (by kernel_rfl) (fun _ _ _ h => h) (Or.inl ⟨by rfl, ?hy6⟩) h0 ?rest6
      case hy6 => (intro w' hS; (try dsimp only at hS); go_simp; try (with_reducible rfl))
      simp only [Act.put, List.getElem_toArray, List.getElem_cons_zero, List.getElem_cons_succ, List.setIfInBounds_toArray, List.set_cons_zero, List.set_cons_succ]
      refine wpAnyH_take (i := 6) (v := ?v7) rfl (by kernel_rfl) (by kernel_rfl) (by kernel_rfl) (fun _ _ _ h => h) (Or.inl ⟨by rfl, ?hy7⟩) h0 ?rest7
      case hy7 => (intro w' hS; (try dsimp only at hS); go_simp; try (with_reducible rfl))
      simp only [Act.put, List.getElem_toArray, List.getElem_cons_zero, List.getElem_cons_succ, List.setIfInBounds_toArray, List.set_cons_zero, List.set_cons_succ]
      refine wpAnyH_take (i := 7) (v := ?v8) rfl (by kernel_rfl) (by kernel_rfl) (by kernel_rfl) (fun _ _ _ h => h) (Or.inl ⟨by rfl, ?hy8⟩) h0 ?rest8
      case hy8 => (intro w' hS; (try dsimp only at hS); go_simp; try (with_reducible rfl))
      simp only [Act.put, List.getElem_toArray, List.getElem_cons_zero, List.getElem_cons_succ, List.setIfInBounds_toArray, List.set_cons_zero, List.set_cons_succ]
      refine wpAnyH_ready (rs := [8]) (by kernel_rfl) (by simp) (AllReadyH.cons rfl (fun K hK => ?_) AllReadyH.nil)
      rw [if_pos (by rfl)]
      go_simp
      refine (ME.out wc Bc.out).mono ?_
      rintro e wc ⟨rfl, hb⟩
      have Bc := Lib.hid (below_on Bc.out hb)
      clear hb
      go_simp
      refine hK.out _ _ (KS.out _ Bc.out) (fun h0_1 => ?_)
      clear hK K h0
      refine wpAnyH_take (i := 9) (v := ?v9) rfl (by kernel_rfl) (by kernel_rfl) (by kernel_rfl) (fun _ _ _ h => h) (Or.inl ⟨by rfl, ?hy9⟩) h0_1 ?rest9
      case hy9 => (intro w' hS; (try dsimp only at hS); go_simp; try (with_reducible rfl))
      simp only [Act.put, List.getElem_toArray, List.getElem_cons_zero, List.getElem_cons_succ, List.setIfInBounds_toArray, List.set_cons_zero, List.set_cons_succ]
      refine wpAnyH_take (i := 10) (v := ?v10) rfl (by kernel_rfl) (by kernel_rfl) (by kernel_rfl) (fun _ _ _ h => h) (Or.inl ⟨by rfl, ?hy10⟩) h0_1 ?rest10
      case hy10 => (intro w' hS; (try dsimp only at hS); go_simp; try (with_reducible rfl))
      simp only [Act.put, List.getElem_toArray, List.getElem_cons_zero, List.getElem_cons_succ, List.setIfInBounds_toArray, List.set_cons_zero, List.set_cons_succ]
      refine wpAnyH_take (i := 11) (v := ?v11) rfl (by kernel_rfl) (by kernel_rfl) (by kernel_rfl) (fun _ _ _ h => h) (Or.inl ⟨by rfl, ?hy11⟩) h0_1 ?rest11
      case hy11 => (intro w' hS; (try dsimp only at hS); go_simp; try (with_reducible rfl))
      simp only [Act.put, List.getElem_toArray, List.getElem_cons_zero, List.getElem_cons_succ, List.setIfInBounds_toArray, List.set_cons_zero, List.set_cons_succ]
      refine wpAnyH_take (i := 12) (v := ?v12) rfl (by kernel_rfl) (by kernel_rfl) (by kernel_rfl) (fun _ _ _ h => h) (Or.inl ⟨by rfl, ?hy12⟩) h0_1 ?rest12
      case hy12 => (intro w' hS; (try dsimp only at hS); go_simp; try (with_reducible rfl))
      simp only [Act.put, List.getElem_toArray, List.getElem_cons_zero, List.getElem_cons_succ, List.setIfInBounds_toArray, List.set_cons_zero, List.set_cons_succ]
      refine wpAnyH_take (i := 13) (v := ?v13) rfl (by kernel_rfl) (by kernel_rfl) (by kernel_rfl) (fun _ _ _ h => h) (Or.inl ⟨by rfl, ?hy13⟩) h0_1 ?rest13
      case hy13 => (intro w' hS; (try dsimp only at hS); go_simp; try (with_reducible rfl))
      simp only [Act.put, List.getElem_toArray, List.getElem_cons_zero, List.getElem_cons_succ, List.setIfInBounds_toArray]
      try simp only [List.set_cons_succ]
      try simp only [List.set_cons_zero]
      refine wpAnyH_done (by kernel_rfl) ?_ _
      have BC := Lib.hid (below_on BO.out Bc.out)
      have WC := Lib.hid (below_on HW.out Bc.out)
      obtain ⟨w8, hw8⟩ : ∃ w8, w8 = wc := ⟨_, rfl⟩
      rw [← hw8] at BC WC ⊢
      clear hw8 ME Bc
      by_cases q0 : qe = 0
      case neg =>
        rw [decide_eq_false q0]
        clear q0
        go_wp2_with fail
        refine (shown_any w8).mono ?_
        rintro e w99 ⟨rfl, hbl⟩
        have B99 := Lib.hid (below_on E0.out (below_on BC.out hbl))
        clear hbl
        go_wp2_with fail
        go_ret
        exact ⟨rfl, B99.out⟩
      rw [decide_eq_true q0]
      have QA1 := Lib.hid (QA.out q0)
      clear q0 QA
      cases qb
      · have NX := Lib.hid (show c = (Ls.take (t + 1)).countP (fun p => hasB N p.l P) by rw [CT.out]; simp)
        go_wp2_with fail
        go_roundw
        case rel => exact ⟨t + 1, c, by go_num, rfl, by omega, by omega, Lib.hid ⟨NX.out, QA1.out⟩, WC⟩
        case measure => simp [intOf]; omega
      · have NX := Lib.hid (show c + 1 = (Ls.take (t + 1)).countP (fun p => hasB N p.l P) by rw [CT.out]; simp)
        go_wp2_with fail
        go_roundw
        case rel => exact ⟨t + 1, c + 1, by go_num, by go_num, by omega, by omega, Lib.hid ⟨NX.out, QA1.out⟩, WC⟩
        case measure => simp [intOf]; omega
    · have e9 : t = K := by omega
      have CE := Lib.hid (show c = if hb && !tb then 1 else 0 by
        have h1 := HC.out.1
        have e : t = Ls.length := by have := KL.out; omega
        rw [h1, e, List.take_length, K4.out (fun p hp => by
          obtain ⟨k, hk, rfl⟩ := List.getElem_of_mem hp
          exact HC.out.2 k hk (by omega)), ← HB0.out, ← TB.out])
      clear HC e9 K4
      cases hb
      · have c0 : c = 0 := by simpa using CE.out
        subst c0
        go_wp2_with fail
        refine (shown_any wo).mono ?_
        rintro e w99 ⟨rfl, hbl⟩
        have B99 := Lib.hid (below_on E0.out (below_on BO.out hbl))
        clear hbl
        go_wp2_with fail
        go_ret
        exact ⟨rfl, B99.out⟩
      · cases tb
        · have c0 : c = 1 := by simpa using CE.out
          subst c0
          go_wp2_with fail
          refine (shown_any wo).mono ?_
          rintro e w99 ⟨rfl, hbl⟩
          have B99 := Lib.hid (below_on E0.out (below_on BO.out hbl))
          clear hbl
          go_wp2_with fail
          go_ret
          exact ⟨rfl, B99.out⟩
        · have c0 : c = 0 := by simpa using CE.out
          subst c0
          go_wp2_with fail
          refine (shown_any wo).mono ?_
          rintro e w99 ⟨rfl, hbl⟩
          have B99 := Lib.hid (below_on E0.out (below_on BO.out hbl))
          clear hbl
          go_wp2_with fail
          go_ret
          exact ⟨rfl, B99.out⟩
end Go.Proofs.YtbhaoaobhgilkaaGreat
