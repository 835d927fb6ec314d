/- The law PolyMakes returns true. -/
import Derived.Test.YtbhaoaobhgilkaaGreatWm3
import Derived.Test.YtbhaoaobhgilkaaGreatWm46
import Derived.Test.YtbhaoaobhgilkaaGreatWm47
import Derived.Test.YtbhaoaobhgilkaaGreatWm42
import Derived.Test.YtbhaoaobhgilkaaGreatWm45

namespace Go.Proofs.YtbhaoaobhgilkaaGreat
open Go.RowKit Go.Sort Go.Shelf

theorem mn_small {n : Nat} {a b : List Ln} (ha : a.length ≤ 1000) (hb : b.length ≤ 1000) : ∀ t, ∀ q ∈ (mnS n a b t).1, q.length ≤ 3000
  | 0, q, h => by simp [mnS] at h
  | t + 1, q, h => by
    have ih := mn_small (n := n) ha hb t
    unfold mnS at h
    split at h
    · exact ih q h
    · split at h
      · simp at h
      · split at h
        · simp at h
        · split at h
          · exact ih q h
          · simp only at h
            rcases List.mem_append.1 h with k | k
            · exact ih q k
            · rw [List.mem_singleton] at k
              rw [k]
              refine tidyL_len ?_ (by omega)
              unfold mnL
              simp only [List.length_append, List.length_take, List.length_cons, List.length_nil]
              omega

def mnP (n : Int) (L M : List AV) : List (List Ln) := if minE n L M = 0 then (mnS n.toNat (L.map ofV) (M.map ofV) M.length).1.map (List.map (tk n.toNat)) else []

def MnF (er : Int) (ls : List (List Ln)) (w : World) (e : Ending) (w' : World) : Prop :=
  ∃ mo mc, ∃ Ls : List LsV, e = .returned (.tuple #[.slice mo Ls.length mc, .int .i64 er]) ∧ (∀ t, ∀ ht : t < Ls.length, ∃ a, mo = some a ∧ w'.cell? (a.add t) = some Ls[t].val) ∧ (∀ p ∈ Ls, RdV w' p.q p.l) ∧ Ls.map (fun p => p.l.map lnV) = ls ∧ (∀ p ∈ Ls, p.l.length ≤ 100000 ∧ ∀ y ∈ p.l, y.a.length ≤ 1000000) ∧ Ls.length ≤ 1000 ∧ Below w.heap.size w w'

theorem MnO.form {n : Int} {L M : List AV} {w : World} {e : Ending} {w' : World} (h : MnO n L M w e w') : MnF (minE n L M) (mnP n L M) w e w' := by
  obtain ⟨hb, h⟩ := h
  unfold mnP
  rcases h with ⟨he, v, rfl, Ls, h1, h2⟩ | ⟨he, rfl⟩
  · rw [if_pos he]
    have hz := he
    unfold minE at hz
    obtain ⟨k1, _⟩ := ansE_zero hz
    obtain ⟨⟨a1, a2⟩, a3, _⟩ := chk_valid (k1 L (by simp))
    obtain ⟨_, b3, _⟩ := chk_valid (k1 M (by simp))
    have hl : Ls.length ≤ M.length := by
      have e := congrArg List.length h2
      rw [List.length_map, List.length_map] at e
      rw [e]; exact mn_len _ _ _ _
    obtain ⟨ao, cap, rfl, hcl, hrd⟩ := h1.read
    refine ⟨ao, cap, Ls, by rw [he], hcl, hrd, h2, fun p hp => ?_, by omega, hb⟩
    have hm : p.l.map lnV ∈ (mnS n.toNat (L.map ofV) (M.map ofV) M.length).1.map (List.map (tk n.toNat)) := by
      rw [← (show Ls.map (fun p => p.l.map lnV) = _ from h2)]
      exact List.mem_map.2 ⟨p, hp, rfl⟩
    obtain ⟨q, hq, e⟩ := List.mem_map.1 hm
    have hq3 := mn_small (n := n.toNat) (a := L.map ofV) (b := M.map ofV) (by rw [List.length_map]; exact a3) (by rw [List.length_map]; exact b3) _ q hq
    have hll := congrArg List.length e
    rw [List.length_map, List.length_map] at hll
    refine ⟨by omega, fun y hy => ?_⟩
    have hy2 : lnV y ∈ q.map (tk n.toNat) := by rw [e]; exact List.mem_map.2 ⟨y, hy, rfl⟩
    obtain ⟨x, _, ex⟩ := List.mem_map.1 hy2
    have ea : x.a.take n.toNat = y.a := congrArg Ln.a ex
    rw [← ea, List.length_take]
    omega
  · rw [if_neg he]
    exact ⟨none, 0, [], rfl, fun t ht => by simp at ht, fun p hp => by simp at hp, rfl, fun p hp => by simp at hp, by simp, hb⟩

theorem min_map {n : Int} {L R M : List AV} (hm : R.map lnV = L.map lnV) : minE n R M = minE n L M ∧ mnP n R M = mnP n L M := by
  have e : minE n R M = minE n L M := by unfold minE miE; rw [ansE_two, ansE_two, chkP_map hm, ofV_map hm]
  exact ⟨e, by unfold mnP; rw [e, ofV_map hm]⟩

theorem lea_map {n : Int} {L R : List AV} {a : List Int} (hm : R.map lnV = L.map lnV) : leaE n R a = leaE n L a ∧ leaX n R a = leaX n L a := by
  have e : leaE n R a = leaE n L a := by unfold leaE lsE; rw [chkP_map hm, ofV_map hm]
  exact ⟨e, by unfold leaX; rw [e, ofV_map hm]⟩

set_option maxRecDepth 100000 in
set_option maxHeartbeats 8000000 in
theorem makes_law (N I xb : Int) (xs : Bool) (L M : List AV) (xa aa : List Int) (P : List Pq) (la ma xq pa aq : Option Addr) (lc mc xc pc ac : Nat) (w : World) (hR : RdV w la L) (hS : RdV w ma M) (hL : ∀ y ∈ L, NilOk y) (hM : ∀ y ∈ M, NilOk y) (hLn : la = none → L = [] ∧ lc = 0) (hA : Rd1 w aq aa) (hAn : aq = none → aa = [] ∧ ac = 0) :
    Calls Tryz.prog 5 #[.agg #[.int .i64 N, .slice la L.length lc, .slice ma M.length mc, .slice xq xa.length xc, .int .i64 xb, .bool xs, .int .i64 I, .slice pa P.length pc, .slice aq aa.length ac]] w (Made (.bool true) w) := by
  obtain ⟨l1, e1⟩ : ∃ n, n = L.length := ⟨_, rfl⟩
  obtain ⟨l2, e2⟩ : ∃ n, n = M.length := ⟨_, rfl⟩
  obtain ⟨l3, e3⟩ : ∃ n, n = xa.length := ⟨_, rfl⟩
  obtain ⟨l4, e4⟩ : ∃ n, n = P.length := ⟨_, rfl⟩
  obtain ⟨l5, e5⟩ : ∃ n, n = aa.length := ⟨_, rfl⟩
  obtain ⟨w0, hw0⟩ : ∃ w0, w0 = w.alloc (.cells #[.int .i64 N, .slice la l1 lc, .slice ma l2 mc, .slice xq l3 xc, .int .i64 xb, .bool xs, .int .i64 I, .slice pa l4 pc, .slice aq l5 ac] 28) := ⟨_, rfl⟩
  have E0 := Lib.hid (show Below w.heap.size w w0 by rw [hw0]; exact one_more _)
  have hq := heap_alloc_last w (.cells #[.int .i64 N, .slice la l1 lc, .slice ma l2 mc, .slice xq l3 xc, .int .i64 xb, .bool xs, .int .i64 I, .slice pa l4 pc, .slice aq l5 ac] 28)
  rw [← hw0] at hq
  have D0 := Lib.hid (show w0.cell? ⟨w.heap.size, 0, none⟩ = some (.int .i64 N) by rw [cell_of_row w0 _ 0 _ _ _ hq]; rfl)
  have D1 := Lib.hid (show w0.cell? ⟨w.heap.size, 1, none⟩ = some (.slice la l1 lc) by rw [cell_of_row w0 _ 1 _ _ _ hq]; rfl)
  have D2 := Lib.hid (show w0.cell? ⟨w.heap.size, 2, none⟩ = some (.slice ma l2 mc) by rw [cell_of_row w0 _ 2 _ _ _ hq]; rfl)
  have D8 := Lib.hid (show w0.cell? ⟨w.heap.size, 8, none⟩ = some (.slice aq l5 ac) by rw [cell_of_row w0 _ 8 _ _ _ hq]; rfl)
  have C0 := Lib.hid (show CsAt w0 ⟨w.heap.size, 0, none⟩ [.int .i64 N, .slice la l1 lc, .slice ma l2 mc, .slice xq l3 xc, .int .i64 xb, .bool xs, .int .i64 I, .slice pa l4 pc, .slice aq l5 ac] from fun j v hv => by
    rw [addr_add, Nat.zero_add, cell_of_row w0 _ j _ _ _ hq]; simpa using hv)
  have BY := Lib.hid (beyond_any N I 8 xb xs L M xa aa P la ma xq pa aq lc mc xc pc ac w0 (hR.on E0.out) (hS.on E0.out))
  rw [← e1, ← e2, ← e3, ← e4, ← e5] at BY
  have HR := Lib.hid (hR.on E0.out)
  have HS := Lib.hid (hS.on E0.out)
  have HA := Lib.hid (hA.on E0.out)
  have HL := Lib.hid hL
  have HM := Lib.hid hM
  have HLN := Lib.hid hLn
  have HAN := Lib.hid hAn
  have L1 := Lib.hid e1
  have L2 := Lib.hid e2
  have L5 := Lib.hid e5
  rw [← e1, ← e2, ← e3, ← e4, ← e5]
  clear hR hS hL hM hLn hA hAn hq e1 e2 e3 e4 e5
  go_enter Tryz.func5, Tryz.ntmps5
  go_upto_region 1 with (fail)
  rw [← hw0]
  clear hw0
  go_wp2_with (refine wpl_loadC case_agg (by exact case_size) rfl _ rfl _ rfl C0.out ?_)
  refine BY.out.mono ?_
  rintro e w1 ⟨b, rfl, hbl, hF⟩
  have B1 := Lib.hid hbl
  have FK := Lib.hid hF
  clear hbl hF BY C0
  cases b
  case true =>
    go_wp2_with fail
    refine (shown_any w1).mono ?_
    rintro e w99 ⟨rfl, hbl⟩
    have B99 := Lib.hid (below_on E0.out (below_on B1.out hbl))
    clear hbl
    go_wp2_with fail
    go_ret
    exact ⟨rfl, B99.out⟩
  obtain ⟨⟨q1, q2, _⟩, ⟨q6, q3, _⟩, q5, q4, q7⟩ := FK.out (by first | rfl | trivial)
  have Y1 := Lib.hid (show ∀ y ∈ L, y.a.length ≤ 1000000 ∧ NilOk y from fun y hy => ⟨by have := q2 y hy; omega, HL.out y hy⟩)
  have Y2 := Lib.hid (show ∀ y ∈ M, y.a.length ≤ 1000000 ∧ NilOk y from fun y hy => ⟨by have := q3 y hy; omega, HM.out y hy⟩)
  have Y20 := Lib.hid q2
  have A20 := Lib.hid (show aa.length ≤ 20 by omega)
  have l2000 : l1 ≤ 2000 := by rw [L1.out]; exact q1
  have LT := Lib.hid (lent_any L la lc w1 (HR.out.on B1.out) (by omega) (fun y hy => ⟨by have := q2 y hy; omega, HL.out y hy⟩))
  rw [← L1.out] at LT
  have c1 := kept B1.out D1.out
  clear FK q1 q2 q3 q4 q5 q6 q7
  go_wp2_with fail
  refine LT.out.mono ?_
  rintro e w2 ⟨v, R, rfl, hO, hm, _, hb⟩
  obtain ⟨ro, rc, rfl, hr, _⟩ := hO.read
  obtain ⟨nr, hnr⟩ : ∃ nr, nr = R.length := ⟨_, rfl⟩
  have NR := Lib.hid hnr
  have NL := Lib.hid (show R.length = L.length by have := congrArg List.length hm; simpa using this)
  have RM := Lib.hid hm
  have B2 := Lib.hid (below_on B1.out hb)
  have RR := Lib.hid hr
  have RY := Lib.hid (show ∀ y ∈ R, y.a.length ≤ 20 from fun y hy => by
    have h1 : lnV y ∈ L.map lnV := by rw [← hm]; exact List.mem_map.2 ⟨y, hy, rfl⟩
    obtain ⟨z, hz, e⟩ := List.mem_map.1 h1
    have h2 := (lnV_eq.1 e).1
    rw [← h2]; exact Y20.out z hz)
  rw [← hnr]
  clear hO hr hb hm hnr c1 LT
  have T2 := Lib.hid (Below.refl w2.heap.size w2)
  obtain ⟨ge, hge⟩ : ∃ x, x = minE N L M := ⟨_, rfl⟩
  obtain ⟨gl, hgl⟩ : ∃ x, x = mnP N L M := ⟨_, rfl⟩
  have MP := Lib.hid (show Calls Tryz.prog 28 #[.int .i64 N, .slice ro nr rc, .slice ma l2 mc] w2 (MnF ge gl w2) by
    rw [NR.out, L2.out, hge, hgl, ← (min_map RM.out).1, ← (min_map RM.out).2]
    exact (minusP_any N R M ro ma rc mc w2 RR.out (HS.out.on B2.out)).mono fun e w' h => MnO.form h)
  have MR := Lib.hid (fun W (h : Below w0.heap.size w0 W) => (show Calls Tryz.prog 29 #[.int .i64 N, .slice la l1 lc, .slice ma l2 mc] W (MnF ge gl W) by
    rw [L1.out, L2.out, hge, hgl]
    exact (rminus_any N L M la ma lc mc W (HR.out.on h) (HS.out.on h) HLN.out Y1.out Y2.out).mono fun e w' h => MnO.form h))
  clear hge hgl
  have c0 := kept B2.out D0.out
  have c2 := kept B2.out D2.out
  go_wp2_with fail
  refine MP.out.mono ?_
  rintro e w3 ⟨mo, mc1, Ls, rfl, hc3, hr3, hm3, hl3, hk3, hbl⟩
  have B3 := Lib.hid (below_on B2.out hbl)
  have T3 := Lib.hid (below_on T2.out hbl)
  have CL := Lib.hid hc3
  have RL := Lib.hid hr3
  have ML := Lib.hid hm3
  have LL := Lib.hid hl3
  have K3 := Lib.hid hk3
  clear hc3 hr3 hm3 hl3 hk3 hbl MP c0 c2
  have c0 := kept B3.out D0.out
  have c1 := kept B3.out D1.out
  have c2 := kept B3.out D2.out
  obtain ⟨K, hK⟩ : ∃ K, K = Ls.length := ⟨_, rfl⟩
  have KL := Lib.hid hK
  rw [← hK]
  clear hK
  go_wp2_with fail
  refine (MR.out w3 B3.out).mono ?_
  rintro e w4 ⟨mo2, mc2, Ls2, rfl, hc3, hr3, hm3, _, _, hbl⟩
  have B4 := Lib.hid (below_on B3.out hbl)
  have B34 := Lib.hid hbl
  have T4 := Lib.hid (below_on T3.out hbl)
  have CL2 := Lib.hid hc3
  have RL2 := Lib.hid hr3
  have EQ := Lib.hid (show Ls.map (fun p => p.l.map lnV) = Ls2.map (fun p => p.l.map lnV) from ML.out.trans hm3.symm)
  have KL2 := Lib.hid (show Ls2.length = K by rw [KL.out]; have := congrArg List.length EQ.out; simpa using this.symm)
  rw [KL2.out]
  clear hc3 hr3 hm3 hbl MR c0 c1 c2 ML
  have k1000 : K ≤ 1000 := by rw [KL.out]; exact K3.out
  have W44 := Lib.hid (Below.refl w4.heap.size w4)
  go_wp2_with fail
  go_loopw [8] (fun s wr => ∃ t : Nat, s = .int .i64 t ∧ t ≤ K ∧ Hid (Below w4.heap.size w4 wr)) (fun s _ => K - (intOf s).toNat)
  case atStart => exact ⟨0, rfl, by omega, W44⟩
  case round =>
    clear W44
    obtain ⟨t, rfl, ht, HW⟩ := hrel
    generalize wr = wo at *
    by_cases htK : t < K
    · have htl : t < Ls.length := by have := KL.out; omega
      have htl2 : t < Ls2.length := by have := KL2.out; omega
      obtain ⟨a, ha, hcell⟩ := CL.out t htl
      obtain ⟨b, hb, hcell2⟩ := CL2.out t htl2
      obtain ⟨p, hp⟩ : ∃ p, p = Ls[t] := ⟨_, rfl⟩
      obtain ⟨p2, hp2⟩ : ∃ p, p = Ls2[t] := ⟨_, rfl⟩
      have hmem := List.getElem_mem htl
      have hmem2 := List.getElem_mem htl2
      have hEQ : p.l.map lnV = p2.l.map lnV := by
        have h := congrArg (fun l => l[t]?) EQ.out
        rw [hp, hp2]
        simpa [htl, htl2] using h
      rw [← hp] at hcell hmem
      rw [← hp2] at hcell2 hmem2
      have B4o := Lib.hid (below_on B34.out HW.out)
      have SM := Lib.hid (fun W (h : Below wo.heap.size wo W) => same_any p.l p2.l p.q p2.q p.c p2.c W (((RL.out p hmem).on B4o.out).on h) (((RL2.out p2 hmem2).on HW.out).on h) (LL.out p hmem).1 (LL.out p hmem).2)
      rw [decide_eq_true hEQ] at SM
      have HC1 := Lib.hid (show wo.cell? (a.add t) = some (.slice p.q p.l.length p.c) from kept B4o.out hcell)
      have HC2 := Lib.hid (show wo.cell? (b.add t) = some (.slice p2.q p2.l.length p2.c) from kept HW.out hcell2)
      obtain ⟨pq, hpq⟩ : ∃ x, x = p.q := ⟨_, rfl⟩
      obtain ⟨pl, hpl⟩ : ∃ x, x = p.l.length := ⟨_, rfl⟩
      obtain ⟨pc1, hpc⟩ : ∃ x, x = p.c := ⟨_, rfl⟩
      obtain ⟨rq, hrq⟩ : ∃ x, x = p2.q := ⟨_, rfl⟩
      obtain ⟨rl, hrl⟩ : ∃ x, x = p2.l.length := ⟨_, rfl⟩
      obtain ⟨rc1, hrc⟩ : ∃ x, x = p2.c := ⟨_, rfl⟩
      rw [← hpq, ← hpl, ← hpc] at HC1
      rw [← hrq, ← hrl, ← hrc] at HC2
      rw [← hpq, ← hpl, ← hpc, ← hrq, ← hrl, ← hrc] at SM
      have tK : (t : Int) < (K : Int) := by omega
      subst ha hb
      clear hmem hmem2 hcell hcell2 hp hp2 hpq hpl hpc hrq hrl hrc htl htl2 hEQ
      go_upto_region 11 with (fail)
      have KS := Lib.hid (show ∀ W, Below wo.heap.size wo W → (W.cell? (a.add t) = some (.slice pq pl pc1) ∧ W.cell? (b.add t) = some (.slice rq rl rc1)) from fun W h => ⟨kept h HC1.out, kept h HC2.out⟩)
      obtain ⟨wc, hwc⟩ : ∃ wc, wc = wo.drew := ⟨_, rfl⟩
      have Bc := Lib.hid (show Below wo.heap.size wo wc by rw [hwc]; exact (Below.refl _ _).drew)
      refine wp_region_held_drew (S := (fun W => (W.cell? (a.add t) = some (.slice pq pl pc1) ∧ W.cell? (b.add t) = some (.slice rq rl rc1)))) (by kernel_rfl) (by rw [← hwc]; exact KS.out _ Bc.out) (fun h0 => ?_)
      rw [← hwc] at h0 ⊢
      clear hwc
      refine tkH (i := 0) (v := ?v1) rfl (Or.inl ⟨by rfl, ?hy1⟩) h0 ?rest1
      case hy1 => (intro w' hS; (try dsimp only at hS); go_simp; try (with_reducible rfl))
      simp only [Act.put, sA, sB, sD, sE, sF]
      refine tkH (i := 1) (v := ?v2) rfl (Or.inl ⟨by rfl, ?hy2⟩) h0 ?rest2
      case hy2 => (intro w' hS; (try dsimp only at hS); go_simp; try (with_reducible rfl))
      simp only [Act.put, sZ]
      refine tkH (i := 2) (v := ?v3) rfl (Or.inl ⟨by rfl, ?hy3⟩) h0 ?rest3
      case hy3 => (intro w' hS; (try dsimp only at hS); go_simp; try (with_reducible rfl))
      simp only [Act.put, sZ]
      refine tkH (i := 3) (v := ?v4) rfl (Or.inl ⟨by rfl, ?hy4⟩) h0 ?rest4
      case hy4 => (intro w' hS; (try dsimp only at hS); go_simp; try (with_reducible rfl))
      simp only [Act.put, sZ]
      refine tkH (i := 4) (v := ?v5) rfl (Or.inl ⟨by rfl, ?hy5⟩) h0 ?rest5
      case hy5 => (intro w' hS; (try dsimp only at hS); go_simp; try (with_reducible rfl))
      simp only [Act.put, sZ]
      refine tkH (i := 5) (v := ?v6) rfl (Or.inl ⟨by rfl, ?hy6⟩) h0 ?rest6
      case hy6 => (intro w' hS; (try dsimp only at hS); go_simp; try (with_reducible rfl))
      simp only [Act.put, sZ]
      refine tkH (i := 6) (v := ?v7) rfl (Or.inl ⟨by rfl, ?hy7⟩) h0 ?rest7
      case hy7 => (intro w' hS; (try dsimp only at hS); go_simp; try (with_reducible rfl))
      simp only [Act.put, sZ]
      refine tkH (i := 7) (v := ?v8) rfl (Or.inl ⟨by rfl, ?hy8⟩) h0 ?rest8
      case hy8 => (intro w' hS; (try dsimp only at hS); go_simp; try (with_reducible rfl))
      simp only [Act.put, sZ]
      refine wpAnyH_ready (rs := [8]) (by kernel_rfl) (by simp) (AllReadyH.cons rfl (fun K hK => ?_) AllReadyH.nil)
      rw [if_pos (by rfl)]
      go_simp
      refine (SM.out wc Bc.out).mono ?_
      rintro e wc ⟨rfl, hb⟩
      have Bc := Lib.hid (below_on Bc.out hb)
      clear hb
      go_simp
      refine hK.out _ _ (KS.out _ Bc.out) (fun h0_1 => ?_)
      clear hK K h0
      refine tkH (i := 9) (v := ?v9) rfl (Or.inl ⟨by rfl, ?hy9⟩) h0_1 ?rest9
      case hy9 => (intro w' hS; (try dsimp only at hS); go_simp; try (with_reducible rfl))
      simp only [Act.put, sA, sB, sC, sD]
      try simp only [sF]
      try simp only [sE]
      refine wpAnyH_done (by kernel_rfl) ?_ _
      have WC := Lib.hid (below_on HW.out Bc.out)
      go_wp2_with fail
      go_roundw
      case rel => exact ⟨t + 1, by go_num, by omega, WC⟩
      case measure => simp [intOf]; omega
    · have B5 := Lib.hid (below_on B4.out HW.out)
      have T5 := Lib.hid (below_on T4.out HW.out)
      have w55 : wo = wo := rfl
      clear w55 CL CL2 RL RL2 EQ LL K3 KL KL2 HW
      obtain ⟨le, hle⟩ : ∃ x, x = leaE N L aa := ⟨_, rfl⟩
      obtain ⟨lv, hlv⟩ : ∃ x, x = (leaX N L aa).v := ⟨_, rfl⟩
      obtain ⟨lb, hlb⟩ : ∃ x, x = ((leaX N L aa).ex && !(leaX N L aa).op) := ⟨_, rfl⟩
      have LP := Lib.hid (show Calls Tryz.prog 30 #[.int .i64 N, .slice ro nr rc, .slice aq l5 ac] wo (fun e w' => Below wo.heap.size wo w' ∧ e = .returned (.tuple #[.agg #[.int .i64 lv.1, .int .i64 lv.2], .bool lb, .int .i64 le])) by
        rw [NR.out, L5.out, hle, hlv, hlb, ← (lea_map RM.out).1, ← (lea_map RM.out).2]
        exact least_any N R aa ro aq rc ac wo (RR.out.on T5.out) (HA.out.on B5.out) (by have := A20.out; omega))
      have LF := Lib.hid (fun W (h : Below w0.heap.size w0 W) => (show Calls Tryz.prog 31 #[.int .i64 N, .slice la l1 lc, .slice aq l5 ac] W (fun e w' => Below W.heap.size W w' ∧ e = .returned (.tuple #[.agg #[.int .i64 lv.1, .int .i64 lv.2], .bool lb, .int .i64 le])) by
        rw [L1.out, L5.out, hle, hlv, hlb]
        exact rleast_any N L aa la aq lc ac W (HR.out.on h) Y1.out (HA.out.on h) HAN.out (by have := A20.out; omega)))
      clear hle hlv hlb
      have c0 := kept B5.out D0.out
      have c8 := kept B5.out D8.out
      go_wp2_with fail
      refine LP.out.mono ?_
      rintro e w6 ⟨hbl, rfl⟩
      have B6 := Lib.hid (below_on B5.out hbl)
      have T6 := Lib.hid (below_on T5.out hbl)
      clear hbl LP c0 c8
      obtain ⟨w7, hw7⟩ : ∃ w7, w7 = w6.alloc (.cells #[.int .i64 lv.1, .int .i64 lv.2] 50) := ⟨_, rfl⟩
      obtain ⟨b9, hb9⟩ : ∃ b, b = w6.heap.size := ⟨_, rfl⟩
      have P7 := Lib.hid (show Pair w7 b9 lv.1 lv.2 by rw [hw7, hb9]; exact Pair.made _ _ _ _)
      have B67 := Lib.hid (show Below w6.heap.size w6 w7 by rw [hw7]; exact one_more _)
      have B7 := Lib.hid (below_on B6.out B67.out)
      have T7 := Lib.hid (below_on T6.out B67.out)
      go_upto_region 14 with (fail)
      rw [← hw7, ← hb9]
      clear hw7 hb9
      have c0 := kept B7.out D0.out
      have c1 := kept B7.out D1.out
      have c8 := kept B7.out D8.out
      go_wp2_with fail
      refine (LF.out w7 B7.out).mono ?_
      rintro e w8 ⟨hbl, rfl⟩
      have B8 := Lib.hid (below_on B7.out hbl)
      have T8 := Lib.hid (below_on T7.out hbl)
      have P8 := Lib.hid (P7.out.kept hbl)
      clear hbl LF c0 c1 c8
      obtain ⟨w9, hw9⟩ : ∃ w9, w9 = w8.alloc (.cells #[.int .i64 lv.1, .int .i64 lv.2] 50) := ⟨_, rfl⟩
      obtain ⟨b11, hb11⟩ : ∃ b, b = w8.heap.size := ⟨_, rfl⟩
      have B89 := Lib.hid (show Below w8.heap.size w8 w9 by rw [hw9]; exact one_more _)
      have P9 := Lib.hid (P8.out.kept B89.out)
      have Q9 := Lib.hid (show Pair w9 b11 lv.1 lv.2 by rw [hw9, hb11]; exact Pair.made _ _ _ _)
      have B9 := Lib.hid (below_on B8.out B89.out)
      have T9 := Lib.hid (below_on T8.out B89.out)
      go_upto_region 15 with (fail)
      rw [← hw9, ← hb11]
      clear hw9 hb11
      obtain ⟨f0, f1, _, _⟩ := P9.out.facts
      obtain ⟨g0, g1, _, _⟩ := Q9.out.facts
      have c1 := kept B9.out D1.out
      have SA := Lib.hid (same_any R L ro la rc lc w9 (RR.out.on T9.out) (HR.out.on B9.out) (by have := NL.out; have := L1.out; omega) (fun y hy => by have := RY.out y hy; omega))
      rw [decide_eq_true RM.out, ← NR.out, ← L1.out] at SA
      go_wp2_with fail
      refine SA.out.mono ?_
      rintro e w10 ⟨rfl, hbl⟩
      have B10 := Lib.hid (below_on B9.out hbl)
      clear hbl SA c1 f0 f1 g0 g1
      go_wp2_with fail
      refine (shown_any w10).mono ?_
      rintro e w99 ⟨rfl, hbl⟩
      have B99 := Lib.hid (below_on E0.out (below_on B10.out hbl))
      clear hbl
      go_wp2_with fail
      go_ret
      exact ⟨rfl, B99.out⟩
end Go.Proofs.YtbhaoaobhgilkaaGreat
