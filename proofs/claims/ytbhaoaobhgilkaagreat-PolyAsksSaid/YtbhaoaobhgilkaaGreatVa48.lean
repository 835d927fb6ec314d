/- The law PolyAsks returns true. -/
import Derived.Test.YtbhaoaobhgilkaaGreatVa45
import Derived.Test.YtbhaoaobhgilkaaGreatVa47
import Derived.Test.YtbhaoaobhgilkaaGreatVa46
import Derived.Test.YtbhaoaobhgilkaaGreatVa39

namespace Go.Proofs.YtbhaoaobhgilkaaGreat
open Go.RowKit Go.Sort Go.Shelf

theorem gA_pad6 (a : List Int) (k j : Nat) (h : j < a.length) : gA (a ++ List.replicate k 0) j = gA a j := by
  unfold gA
  rw [List.getD_eq_getElem?_getD, List.getElem?_append_left h, ← List.getD_eq_getElem?_getD]

theorem at_ofV {y : AV} {P : List Pq} (h : P.length ≤ y.a.length) : atN (ofV y).a P P.length = atN y.a P P.length := atN_tk P.length fun j hj => gA_pad6 _ _ _ (by omega)

theorem met_line {n : Nat} {y : AV} {P : List Pq} (hv : validB n y = true) (hl : P.length = n) (hP : ∀ q ∈ P, vR q = true) : metE P (ofV y) = (atN y.a P P.length).2 ∧ metB P (ofV y) = lineB P y := by
  have hf := valid_fitV hv
  rw [Int.toNat_natCast] at hf
  have e := at_ofV (y := y) (P := P) (by have := hf.1; omega)
  have hb : (ofV y).b = y.b := rfl
  have hs : (ofV y).s = y.s := rfl
  have hg : ∀ j, j < P.length → vR (gp P j) = true := fun j hj => by
    unfold gp
    rw [List.getD_eq_getElem?_getD, List.getElem?_eq_getElem hj]
    exact hP _ (List.getElem_mem hj)
  have hA : ∀ j, j < P.length → -2147483647 ≤ gA y.a j ∧ gA y.a j ≤ 2147483647 := fun j hj => hf.2.1 _ (gA_mem (by have := hf.1; omega))
  obtain ⟨_, e2⟩ := at_7 (a := y.a) (P := P) P.length (fun j hj => ⟨hg j hj, hA j hj⟩)
  refine ⟨?_, ?_⟩
  · unfold metE
    rw [e, hb]
    by_cases h0 : (atN y.a P P.length).2 = 0
    · rw [if_neg (fun k => k h0), h0]
      exact cmE_ok (e2 h0) (vld_one hf.2.2)
    · rw [if_pos h0]
  · unfold metB lineB
    rw [e, hb, hs]

theorem hap_has {n : Int} {L R : List AV} {P : List Pq} (hm : R.map lnV = L.map lnV) : hapE n R P = hasE n L P ∧ (decide (hapE n R P = 0) && (R.map ofV).all (metB P)) = hasB n L P := by
  have key : hapE n R P = hasE n L P ∧ (hasE n L P = 0 → (L.map ofV).all (metB P) = L.all (lineB P)) := by
    unfold hapE hasE
    rw [chkP_map hm]
    by_cases hc : chkP n L = 0
    · rw [if_pos hc, if_neg (fun k => k hc)]
      obtain ⟨⟨g1, g2⟩, g9, hv⟩ := chk_valid hc
      obtain ⟨k, rfl⟩ : ∃ k : Nat, n = (k : Int) := ⟨n.toNat, by omega⟩
      rw [Int.toNat_natCast]
      unfold haE
      by_cases hl : (P.length : Int) = k
      · have hl' : ¬ (P.length : Int) ≠ k := fun q => q hl
        rw [if_neg hl', decide_eq_true hl, Bool.true_and]
        by_cases ha : P.all vR = true
        · rw [if_pos ha, if_pos ha, ofV_map hm]
          have hP : ∀ q ∈ P, vR q = true := List.all_eq_true.1 ha
          have hl2 : P.length = k := by omega
          refine ⟨?_, fun _ => ?_⟩
          · clear hc hm g9
            induction L with
            | nil => rfl
            | cons y r ih =>
              have hy := (met_line (hv y (by simp)) hl2 hP).1
              have ih := ih (fun z hz => hv z (by simp [hz]))
              show (if metE P (ofV y) ≠ 0 then metE P (ofV y) else alE P (r.map ofV)) = (if (atN y.a P P.length).2 ≠ 0 then (atN y.a P P.length).2 else totE P r)
              rw [hy, ih]
          · rw [List.all_map, Bool.eq_iff_iff, List.all_eq_true, List.all_eq_true]
            constructor <;> intro h y hy
            · have := h y hy
              rw [Function.comp, (met_line (hv y hy) hl2 hP).2] at this
              exact this
            · rw [Function.comp, (met_line (hv y hy) hl2 hP).2]
              exact h y hy
        · rw [if_neg ha, if_neg ha]
          exact ⟨rfl, fun h => by cases h⟩
      · rw [if_pos (show (P.length : Int) ≠ k from hl), decide_eq_false hl, Bool.false_and, if_neg (by decide)]
        exact ⟨rfl, fun h => by cases h⟩
    · rw [if_neg hc, if_pos hc]
      exact ⟨rfl, fun h => absurd h hc⟩
  refine ⟨key.1, ?_⟩
  unfold hasB
  rw [key.1, ofV_map hm]
  by_cases h : hasE n L P = 0
  · rw [key.2 h]
  · rw [decide_eq_false h]; rfl

theorem empE_map {n : Int} {L R : List AV} (hm : R.map lnV = L.map lnV) : empE n R = empE n L := by unfold empE; rw [chkP_map hm, ofV_map hm]

theorem impE_map {n : Int} {L R : List AV} {y : AV} (hm : R.map lnV = L.map lnV) : impEr n R y = impEr n L y := by unfold impEr impE; rw [chkP_map hm, ofV_map hm]

theorem inc_map {n : Int} {L R M : List AV} (hm : R.map lnV = L.map lnV) : incE n R M = incE n L M ∧ incB n R M = incB n L M := by
  have e1 : incS n.toNat R M = incS n.toNat L M := by unfold incS; rw [ofV_map hm]
  have e2 : incE n R M = incE n L M := by unfold incE; rw [ansE_two, ansE_two, chkP_map hm, e1]
  exact ⟨e2, by unfold incB; rw [e2, e1]⟩

theorem pon_map {n : Int} {L R : List AV} (hm : R.map lnV = L.map lnV) : ponE n R = ponE n L := by unfold ponE; rw [chkP_map hm, ofV_map hm]

/-- What Point leaves, in one form. -/
def PtF (er : Int) (ps : List Pq) (w : World) (e : Ending) (w' : World) : Prop := ∃ po pc, e = .returned (.tuple #[.slice po ps.length pc, .int .i64 er]) ∧ Rd2 w' po ps ∧ Below w.heap.size w w'

def ptP (n : Int) (L : List AV) : List Pq := if ponE n L = 0 then (ptN (L.map ofV) n.toNat n.toNat).1 else []

theorem PtO.form {n : Int} {L : List AV} {w : World} {e : Ending} {w' : World} (h : PtO n L w e w') : PtF (ponE n L) (ptP n L) w e w' := by
  obtain ⟨hb, h⟩ := h
  unfold ptP
  rcases h with ⟨he, po, pc, rfl, hr⟩ | ⟨he, rfl⟩
  · rw [if_pos he]
    exact ⟨po, pc, by rw [he], hr, hb⟩
  · rw [if_neg he]
    exact ⟨none, 0, rfl, fun t ht => by simp at ht, hb⟩

theorem ptP_len (n : Int) (L : List AV) : (ptP n L).length ≤ 1000 := by
  unfold ptP
  by_cases h : ponE n L = 0
  · rw [if_pos h]
    unfold ponE at h
    by_cases hc : chkP n L = 0
    · rw [if_pos hc] at h
      obtain ⟨⟨g1, g2⟩, _, _⟩ := chk_valid hc
      unfold poE at h
      split at h
      · unfold ptE at h
        split at h
        · simp at h
        · have := (ptN_len _ h).1; omega
      · rename_i q; exact absurd h q
    · rw [if_neg hc] at h; exact absurd h hc
  · rw [if_neg h]; simp

theorem ptP_map {n : Int} {L R : List AV} (hm : R.map lnV = L.map lnV) : ptP n R = ptP n L := by unfold ptP; rw [pon_map hm, ofV_map hm]

set_option maxRecDepth 100000 in
set_option maxHeartbeats 8000000 in
theorem asks_any (N I xb : Int) (xs : Bool) (L M : List AV) (xa aa : List Int) (P : List Pq) (la ma xq pa aq : Option Addr) (lc mc xc pc ac : Nat) (w : World) (hR : RdV w la L) (hS : RdV w ma M) (hL : ∀ y ∈ L, NilOk y ∧ (∀ v ∈ y.a, I64 v) ∧ I64 y.b) (hM : ∀ y ∈ M, NilOk y) (hLn : la = none → L = [] ∧ lc = 0) (hMn : ma = none → M = [] ∧ mc = 0) (hX : Rd1 w xq xa) (hQ : Rd2 w pa P) (hQI : ∀ q ∈ P, I2 q) :
    Calls Tryz.prog 4 #[.agg #[.int .i64 N, .slice la L.length lc, .slice ma M.length mc, .slice xq xa.length xc, .int .i64 xb, .bool xs, .int .i64 I, .slice pa P.length pc, .slice aq aa.length ac]] w (Made (.bool true) w) := by
  obtain ⟨l1, e1⟩ : ∃ n, n = L.length := ⟨_, rfl⟩
  obtain ⟨l2, e2⟩ : ∃ n, n = M.length := ⟨_, rfl⟩
  obtain ⟨l3, e3⟩ : ∃ n, n = xa.length := ⟨_, rfl⟩
  obtain ⟨l4, e4⟩ : ∃ n, n = P.length := ⟨_, rfl⟩
  obtain ⟨l5, e5⟩ : ∃ n, n = aa.length := ⟨_, rfl⟩
  obtain ⟨w0, hw0⟩ : ∃ w0, w0 = w.alloc (.cells #[.int .i64 N, .slice la l1 lc, .slice ma l2 mc, .slice xq l3 xc, .int .i64 xb, .bool xs, .int .i64 I, .slice pa l4 pc, .slice aq l5 ac] 28) := ⟨_, rfl⟩
  have E0 := Lib.hid (show Below w.heap.size w w0 by rw [hw0]; exact one_more _)
  have hq := heap_alloc_last w (.cells #[.int .i64 N, .slice la l1 lc, .slice ma l2 mc, .slice xq l3 xc, .int .i64 xb, .bool xs, .int .i64 I, .slice pa l4 pc, .slice aq l5 ac] 28)
  rw [← hw0] at hq
  obtain ⟨X, hXe⟩ : ∃ X, X = AV.mk xq xc xa xb xs := ⟨_, rfl⟩
  have D0 := Lib.hid (show w0.cell? ⟨w.heap.size, 0, none⟩ = some (.int .i64 N) by rw [cell_of_row w0 _ 0 _ _ _ hq]; rfl)
  have D1 := Lib.hid (show w0.cell? ⟨w.heap.size, 1, none⟩ = some (.slice la l1 lc) by rw [cell_of_row w0 _ 1 _ _ _ hq]; rfl)
  have D2 := Lib.hid (show w0.cell? ⟨w.heap.size, 2, none⟩ = some (.slice ma l2 mc) by rw [cell_of_row w0 _ 2 _ _ _ hq]; rfl)
  have D3 := Lib.hid (show AvAt w0 ⟨w.heap.size, 3, none⟩ X from fun j v hv => by
    have hj : j < 3 := by
      by_cases q : j < 3
      · exact q
      · rw [List.getElem?_eq_none (by rw [av_len]; omega)] at hv; cases hv
    rw [hXe] at hv
    rw [addr_add, cell_of_row w0 _ (3 + j) _ _ _ hq]
    match j, hj with
    | 0, _ => simpa [AV.cells, ← e3] using hv
    | 1, _ => simpa [AV.cells] using hv
    | 2, _ => simpa [AV.cells] using hv)
  have D7 := Lib.hid (show w0.cell? ⟨w.heap.size, 7, none⟩ = some (.slice pa l4 pc) by rw [cell_of_row w0 _ 7 _ _ _ hq]; rfl)
  have C0 := Lib.hid (show CsAt w0 ⟨w.heap.size, 0, none⟩ [.int .i64 N, .slice la l1 lc, .slice ma l2 mc, .slice xq l3 xc, .int .i64 xb, .bool xs, .int .i64 I, .slice pa l4 pc, .slice aq l5 ac] from fun j v hv => by
    rw [addr_add, Nat.zero_add, cell_of_row w0 _ j _ _ _ hq]; simpa using hv)
  have BY := Lib.hid (beyond_any N I 8 xb xs L M xa aa P la ma xq pa aq lc mc xc pc ac w0 (hR.on E0.out) (hS.on E0.out))
  rw [← e1, ← e2, ← e3, ← e4, ← e5] at BY
  have HR := Lib.hid (hR.on E0.out)
  have HS := Lib.hid (hS.on E0.out)
  have HQ := Lib.hid (hQ.on E0.out)
  have HL := Lib.hid hL
  have HM := Lib.hid hM
  have HLN := Lib.hid hLn
  have HMN := Lib.hid hMn
  have HX := Lib.hid (show Rd1 w0 X.q X.a by rw [hXe]; exact hX.on E0.out)
  have XL := Lib.hid (show X.a.length = xa.length by rw [hXe])
  have HQI := Lib.hid hQI
  have L1 := Lib.hid e1
  have L2 := Lib.hid e2
  have L4 := Lib.hid e4
  rw [← e1, ← e2, ← e3, ← e4, ← e5]
  clear hR hS hL hM hLn hMn hX hQ hQI hq e1 e2 e3 e4 e5 hXe
  go_enter Tryz.func4, Tryz.ntmps4
  go_upto_region 1 with (fail)
  rw [← hw0]
  clear hw0
  go_wp2_with (refine wpl_loadC case_agg (by exact case_size) rfl _ rfl _ rfl C0.out ?_)
  refine BY.out.mono ?_
  rintro e w1 ⟨b, rfl, hbl, hF⟩
  have B1 := Lib.hid hbl
  have FK := Lib.hid hF
  clear hbl hF BY C0
  cases b
  case true =>
    go_wp2_with fail
    refine (shown_any w1).mono ?_
    rintro e w99 ⟨rfl, hbl⟩
    have B99 := Lib.hid (below_on E0.out (below_on B1.out hbl))
    clear hbl
    go_wp2_with fail
    go_ret
    exact ⟨rfl, B99.out⟩
  obtain ⟨⟨q1, q2, _⟩, ⟨q6, q3, _⟩, q5, q4, _⟩ := FK.out (by first | rfl | trivial)
  have Y1 := Lib.hid (show ∀ y ∈ L, y.a.length ≤ 1000000 ∧ NilOk y from fun y hy => ⟨by have := q2 y hy; omega, (HL.out y hy).1⟩)
  have Y2 := Lib.hid (show ∀ y ∈ M, y.a.length ≤ 1000000 ∧ NilOk y from fun y hy => ⟨by have := q3 y hy; omega, HM.out y hy⟩)
  have Y20 := Lib.hid q2
  have P20 := Lib.hid (show P.length ≤ 20 by omega)
  have X20 := Lib.hid (show X.a.length ≤ 1000000 by rw [XL.out]; omega)
  have l2000 : l1 ≤ 2000 := by rw [L1.out]; exact q1
  have LT := Lib.hid (lent_any L la lc w1 (HR.out.on B1.out) (by omega) (fun y hy => ⟨by have := q2 y hy; omega, (HL.out y hy).1⟩))
  rw [← L1.out] at LT
  have c1 := kept B1.out D1.out
  clear FK q1 q2 q3 q4 q5 q6
  go_wp2_with fail
  refine LT.out.mono ?_
  rintro e w2 ⟨v, R, rfl, hO, hm, _, hb⟩
  obtain ⟨ro, rc, rfl, hr, _⟩ := hO.read
  obtain ⟨nr, hnr⟩ : ∃ nr, nr = R.length := ⟨_, rfl⟩
  have NR := Lib.hid hnr
  have NL := Lib.hid (show R.length = L.length by have := congrArg List.length hm; simpa using this)
  have RM := Lib.hid hm
  have B2 := Lib.hid (below_on B1.out hb)
  have RR := Lib.hid hr
  have RY := Lib.hid (show ∀ y ∈ R, y.a.length ≤ 20 from fun y hy => by
    have h1 : lnV y ∈ L.map lnV := by rw [← hm]; exact List.mem_map.2 ⟨y, hy, rfl⟩
    obtain ⟨z, hz, e⟩ := List.mem_map.1 h1
    have h2 := (lnV_eq.1 e).1
    rw [← h2]; exact Y20.out z hz)
  rw [← hnr]
  clear hO hr hb hm hnr c1 LT
  have T2 := Lib.hid (Below.refl w2.heap.size w2)
  obtain ⟨er1, her1⟩ : ∃ x, x = empE N L := ⟨_, rfl⟩
  obtain ⟨bv1, hbv1⟩ : ∃ x, x = (if empE N L = 0 then empB (L.map ofV) N.toNat else false) := ⟨_, rfl⟩
  have PJ := Lib.hid (show ∀ W, Below w2.heap.size w2 W → Below w0.heap.size w0 W → Calls Tryz.prog 17 #[.int .i64 N, .slice ro nr rc] W (EmRes W er1 bv1) from fun W h _ => (by rw [NR.out, her1, hbv1]; refine (empty_any N R ro rc W (RR.out.on h)).mono fun e w' ⟨h1, h2⟩ => ⟨?_, h1⟩; rw [h2, empE_map RM.out, ofV_map RM.out]))
  have RF := Lib.hid (show ∀ W, Below w0.heap.size w0 W → Calls Tryz.prog 18 #[.int .i64 N, .slice la l1 lc] W (EmRes W er1 bv1) from fun W h => (by rw [L1.out, her1, hbv1]; exact remptyP_any N L la lc W (HR.out.on h) Y1.out))
  clear her1 hbv1
  have c0 := kept B2.out D0.out
  go_wp2_with fail
  refine (PJ.out w2 T2.out B2.out).mono ?_
  rintro e w3 ⟨rfl, hbl⟩
  have B3 := Lib.hid (below_on B2.out hbl)
  have T3 := Lib.hid (below_on T2.out hbl)
  clear hbl PJ c0
  have c0 := kept B3.out D0.out
  have c1 := kept B3.out D1.out
  go_wp2_with fail
  refine (RF.out w3 B3.out).mono ?_
  rintro e w4 ⟨rfl, hbl⟩
  have B4 := Lib.hid (below_on B3.out hbl)
  have T4 := Lib.hid (below_on T3.out hbl)
  clear hbl RF c0 c1
  obtain ⟨er2, her2⟩ : ∃ x, x = impEr N L X := ⟨_, rfl⟩
  obtain ⟨bv2, hbv2⟩ : ∃ x, x = (if impEr N L X = 0 then empB (L.map ofV ++ [(ofV X).opp]) N.toNat else false) := ⟨_, rfl⟩
  have PJ := Lib.hid (show ∀ W, Below w2.heap.size w2 W → Below w0.heap.size w0 W → Calls Tryz.prog 19 #[.int .i64 N, .slice ro nr rc, .agg X.cs] W (EmRes W er2 bv2) from fun W h h0 => (by rw [NR.out, her2, hbv2]; refine (impliesP_any N R X ro rc W (RR.out.on h) (HX.out.on h0)).mono fun e w' ⟨h1, h2⟩ => ⟨?_, h1⟩; rw [h2, impE_map RM.out, ofV_map RM.out]))
  have RF := Lib.hid (show ∀ W, Below w0.heap.size w0 W → Calls Tryz.prog 20 #[.int .i64 N, .slice la l1 lc, .agg X.cs] W (EmRes W er2 bv2) from fun W h => (by rw [L1.out, her2, hbv2]; exact rimplies_any N L X la lc W (HR.out.on h) Y1.out HLN.out (HX.out.on h) X20.out))
  clear her2 hbv2
  have c0 := kept B4.out D0.out
  have X3 := Lib.hid (D3.out.on B4.out)
  go_wp2_with (refine wpl_loadV rfl _ rfl _ rfl X X3.out ?_)
  refine (PJ.out w4 T4.out B4.out).mono ?_
  rintro e w5 ⟨rfl, hbl⟩
  have B5 := Lib.hid (below_on B4.out hbl)
  have T5 := Lib.hid (below_on T4.out hbl)
  clear hbl PJ c0
  have c0 := kept B5.out D0.out
  have c1 := kept B5.out D1.out
  have X3 := Lib.hid (D3.out.on B5.out)
  go_wp2_with (refine wpl_loadV rfl _ rfl _ rfl X X3.out ?_)
  refine (RF.out w5 B5.out).mono ?_
  rintro e w6 ⟨rfl, hbl⟩
  have B6 := Lib.hid (below_on B5.out hbl)
  have T6 := Lib.hid (below_on T5.out hbl)
  clear hbl RF c0 c1
  obtain ⟨er3, her3⟩ : ∃ x, x = incE N L M := ⟨_, rfl⟩
  obtain ⟨bv3, hbv3⟩ : ∃ x, x = incB N L M := ⟨_, rfl⟩
  have PJ := Lib.hid (show ∀ W, Below w2.heap.size w2 W → Below w0.heap.size w0 W → Calls Tryz.prog 21 #[.int .i64 N, .slice ro nr rc, .slice ma l2 mc] W (EmRes W er3 bv3) from fun W h h0 => (by rw [NR.out, L2.out, her3, hbv3, ← (inc_map RM.out).1, ← (inc_map RM.out).2]; exact includesP_any N R M ro ma rc mc W (RR.out.on h) (HS.out.on h0)))
  have RF := Lib.hid (show ∀ W, Below w0.heap.size w0 W → Calls Tryz.prog 22 #[.int .i64 N, .slice la l1 lc, .slice ma l2 mc] W (EmRes W er3 bv3) from fun W h => (by rw [L1.out, L2.out, her3, hbv3]; exact rincludes_any N L M la ma lc mc W (HR.out.on h) (HS.out.on h) (fun y hy => (Y1.out y hy).1) Y2.out HMN.out))
  clear her3 hbv3
  have c0 := kept B6.out D0.out
  have c2 := kept B6.out D2.out
  go_wp2_with fail
  refine (PJ.out w6 T6.out B6.out).mono ?_
  rintro e w7 ⟨rfl, hbl⟩
  have B7 := Lib.hid (below_on B6.out hbl)
  have T7 := Lib.hid (below_on T6.out hbl)
  clear hbl PJ c0 c2
  have c0 := kept B7.out D0.out
  have c1 := kept B7.out D1.out
  have c2 := kept B7.out D2.out
  go_wp2_with fail
  refine (RF.out w7 B7.out).mono ?_
  rintro e w8 ⟨rfl, hbl⟩
  have B8 := Lib.hid (below_on B7.out hbl)
  have T8 := Lib.hid (below_on T7.out hbl)
  clear hbl RF c0 c1 c2
  obtain ⟨er4, her4⟩ : ∃ x, x = hasE N L P := ⟨_, rfl⟩
  obtain ⟨bv4, hbv4⟩ : ∃ x, x = hasB N L P := ⟨_, rfl⟩
  have PJ := Lib.hid (show ∀ W, Below w2.heap.size w2 W → Below w0.heap.size w0 W → Calls Tryz.prog 23 #[.int .i64 N, .slice ro nr rc, .slice pa l4 pc] W (EmRes W er4 bv4) from fun W h h0 => (by rw [NR.out, L4.out, her4, hbv4, ← (hap_has RM.out).1, ← (hap_has RM.out).2]; exact hasP_any N R P ro pa rc pc W (RR.out.on h) (HQ.out.on h0) HQI.out (by have := P20.out; omega)))
  have RF := Lib.hid (show ∀ W, Below w0.heap.size w0 W → Calls Tryz.prog 24 #[.int .i64 N, .slice la l1 lc, .slice pa l4 pc] W (EmRes W er4 bv4) from fun W h => (by rw [L1.out, L4.out, her4, hbv4]; refine (rhas_any N L P la pa lc pc W (HR.out.on h) (HQ.out.on h) (fun y hy => ⟨(Y1.out y hy).1, (HL.out y hy).2.1⟩) (fun y hy => (HL.out y hy).2.2) (fun t ht => by unfold gp; rw [List.getD_eq_getElem?_getD, List.getElem?_eq_getElem ht]; exact HQI.out _ (List.getElem_mem _)) (by have := P20.out; omega)).mono fun e w' h2 => ⟨h2.1, h2.2⟩))
  clear her4 hbv4
  have c0 := kept B8.out D0.out
  have c7 := kept B8.out D7.out
  go_wp2_with fail
  refine (PJ.out w8 T8.out B8.out).mono ?_
  rintro e w9 ⟨rfl, hbl⟩
  have B9 := Lib.hid (below_on B8.out hbl)
  have T9 := Lib.hid (below_on T8.out hbl)
  clear hbl PJ c0 c7
  have c0 := kept B9.out D0.out
  have c1 := kept B9.out D1.out
  have c7 := kept B9.out D7.out
  go_wp2_with fail
  refine (RF.out w9 B9.out).mono ?_
  rintro e w10 ⟨rfl, hbl⟩
  have B10 := Lib.hid (below_on B9.out hbl)
  have T10 := Lib.hid (below_on T9.out hbl)
  clear hbl RF c0 c1 c7
  obtain ⟨er5, her5⟩ : ∃ x, x = ponE N L := ⟨_, rfl⟩
  obtain ⟨ps, hps⟩ : ∃ x, x = ptP N L := ⟨_, rfl⟩
  have PL := Lib.hid (show ps.length ≤ 1000 by rw [hps]; exact ptP_len _ _)
  have PJ := Lib.hid (show Calls Tryz.prog 25 #[.int .i64 N, .slice ro nr rc] w10 (PtF er5 ps w10) by
    rw [NR.out, her5, hps, ← pon_map RM.out, ← ptP_map RM.out]
    exact (point_out N R ro rc w10 (RR.out.on T10.out)).mono fun e w' h => h.form)
  have RF := Lib.hid (show ∀ W, Below w0.heap.size w0 W → Calls Tryz.prog 26 #[.int .i64 N, .slice la l1 lc] W (PtF er5 ps W) from fun W h => by
    rw [L1.out, her5, hps]
    exact (rpoint_any N L la lc W (HR.out.on h) Y1.out).mono fun e w' h => h.form)
  clear her5 hps
  have c0 := kept B10.out D0.out
  go_wp2_with fail
  refine PJ.out.mono ?_
  rintro e w11 ⟨p1, k1, rfl, hr1, hbl⟩
  have B11 := Lib.hid (below_on B10.out hbl)
  have T11 := Lib.hid (below_on T10.out hbl)
  have Q1 := Lib.hid hr1
  clear hbl PJ c0 hr1
  have c0 := kept B11.out D0.out
  have c1 := kept B11.out D1.out
  go_wp2_with fail
  refine (RF.out w11 B11.out).mono ?_
  rintro e w12 ⟨p2, k2, rfl, hr2, hbl⟩
  have B12 := Lib.hid (below_on B11.out hbl)
  have T12 := Lib.hid (below_on T11.out hbl)
  have SR := Lib.hid (srat_any ps ps p1 p2 k1 k2 w12 (Q1.out.on hbl) hr2 PL.out)
  rw [decide_eq_true (show ps = ps from rfl)] at SR
  obtain ⟨pl, hpl⟩ : ∃ pl, pl = ps.length := ⟨_, rfl⟩
  rw [← hpl] at SR ⊢
  clear hbl RF c0 c1 hr2 hpl
  go_wp2_with fail
  refine SR.out.mono ?_
  rintro e w13 ⟨rfl, hbl⟩
  have B13 := Lib.hid (below_on B12.out hbl)
  have T13 := Lib.hid (below_on T12.out hbl)
  have SA := Lib.hid (same_any R L ro la rc lc w13 (RR.out.on T13.out) (HR.out.on B13.out) (by have := NL.out; have := L1.out; omega) (fun y hy => by have := RY.out y hy; omega))
  rw [decide_eq_true RM.out, ← NR.out, ← L1.out] at SA
  clear hbl SR
  have c1 := kept B13.out D1.out
  go_wp2_with fail
  refine SA.out.mono ?_
  rintro e w14 ⟨rfl, hbl⟩
  have B14 := Lib.hid (below_on B13.out hbl)
  clear hbl SA c1
  go_wp2_with fail
  refine (shown_any w14).mono ?_
  rintro e w99 ⟨rfl, hbl⟩
  have B99 := Lib.hid (below_on E0.out (below_on B14.out hbl))
  clear hbl
  go_wp2_with fail
  go_ret
  exact ⟨rfl, B99.out⟩
end Go.Proofs.YtbhaoaobhgilkaaGreat
