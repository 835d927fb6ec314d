/- The contract of Minus of layer 7's reference. -/
import Derived.Test.YtbhaoaobhgilkaaGreatWm44
import Derived.Test.YtbhaoaobhgilkaaGreatWm28
import Derived.Test.YtbhaoaobhgilkaaGreatWm42
import Derived.Test.YtbhaoaobhgilkaaGreatWm45

namespace Go.Proofs.YtbhaoaobhgilkaaGreat
open Go.RowKit Go.Sort Go.Shelf

def MnO (n : Int) (A B : List AV) (w : World) (e : Ending) (w' : World) : Prop :=
  Below w.heap.size w w' ∧ ((minE n A B = 0 ∧ ∃ v, e = .returned (.tuple #[v, .int .i64 0]) ∧ MiR n.toNat A B w v w') ∨ (minE n A B ≠ 0 ∧ e = .returned (.tuple #[.slice none 0 0, .int .i64 (minE n A B)])))

theorem mn_bad {n : Int} {A B : List AV} {c : Int} (h : minE n A B = c) (hc : c ≠ 0) {w w' : World} (hb : Below w.heap.size w w') : MnO n A B w (.returned (.tuple #[.slice none 0 0, .int .i64 c])) w' := ⟨hb, Or.inr ⟨by rw [h]; exact hc, by rw [h]⟩⟩

theorem min_first {n : Int} {A B : List AV} (h : chkP n A ≠ 0) : minE n A B = chkP n A := ansE_at (G := [A, B]) (t := 0) (by simp) (fun i _ h => by omega) h

theorem min_second {n : Int} {A B : List AV} (h0 : chkP n A = 0) (h : chkP n B ≠ 0) : minE n A B = chkP n B := ansE_at (G := [A, B]) (t := 1) (by simp) (fun i _ h => by
  obtain rfl : i = 0 := by omega
  exact h0) h

theorem min_both {n : Int} {A B : List AV} (h0 : chkP n A = 0) (h : chkP n B = 0) : minE n A B = miE n.toNat A B := ansE_none (fun L hL => by
  simp only [List.mem_cons, List.not_mem_nil, or_false] at hL
  rcases hL with rfl | rfl <;> assumption)

theorem rdv_grown {w w' : World} {r : Option Nat} {ro : Option Addr} {R : List AV} (h : RdV w ro R) (hg : w.grownBy w' r) (hp : ∀ p, ro = some p → r ≠ some p.block) (hn : ∀ y ∈ R, Rd1 w' y.q y.a) : RdV w' ro R :=
  ⟨fun t ht => by
    obtain ⟨p, e, c⟩ := h.at_ t ht
    refine ⟨p, e, fun j v hv => ?_⟩
    have c' := c j v hv
    rw [World.cell?_of_block (hg.block _ (World.block_lt_of_cell? w _ c') (by rw [add_block, add_block]; exact fun e2 => hp p e e2.symm))]
    exact c', hn⟩

theorem ownV_stays {B B0 : Nat} {w : World} {ro : Option Addr} {rc : Nat} {R : List AV} {r : Option Nat} (h : OwnV w B0 (.slice ro R.length rc) R) (hf : Fr B0 R) (hB : B ≤ B0) (hr : ∀ k, r = some k → k < B0) : Stays B w r none fun x => RdV x ro R := fun x hx => by
  obtain ⟨ao, cap, e2, hrd, hb⟩ := h.read
  have e3 : ro = ao := by injection e2
  subst e3
  have far : ∀ p : Addr, B0 ≤ p.block → ∀ u, w.cell? p = some u → x.cell? p = some u := fun p hp u hu => by
    rw [World.cell?_of_block (hx.block _ (Nat.le_trans hB hp) (World.block_lt_of_cell? w _ hu) (fun e => by have := hr _ e.symm; omega) (fun e => by cases e))]; exact hu
  refine ⟨fun t ht => ?_, fun y hy t ht => ?_⟩
  · obtain ⟨p, e, c⟩ := hrd.at_ t ht
    exact ⟨p, e, fun j u hu => far _ (by rw [add_block, add_block]; exact (hb p e).1) u (c j u hu)⟩
  · obtain ⟨p, e, c⟩ := hrd.nums y hy t ht
    exact ⟨p, e, far _ (by rw [add_block]; exact hf y hy p e) _ c⟩

theorem big_64 {z : Int} (h : 0 ≤ z ∧ z ≤ 10000) : wrap64 z = z ∧ IntKind.i64.wrap z = z := ⟨by unfold wrap64; omega, wrap_in _ (by omega) (by omega)⟩

theorem fit_opp {n : Nat} {y z : AV} (h : lnV z = (lnV y).opp) (hy : FitV n y) : FitV n z := by
  have ea : z.a = y.a.map (· * (-1)) := congrArg Ln.a h
  have eb : z.b = y.b * (-1) := congrArg Ln.b h
  obtain ⟨h1, h2, h3⟩ := hy
  refine ⟨by rw [ea, List.length_map]; exact h1, fun v hv => ?_, by rw [eb]; omega⟩
  rw [ea] at hv
  obtain ⟨u, hu, rfl⟩ := List.mem_map.1 hv
  have := h2 u hu
  omega

theorem emp_twice {l : List Ln} (h6 : ∀ x ∈ l, x.a.length = 6) (n : Nat) : empB (tidyL l) n = empB l n := by
  unfold empB
  rw [(sh_twice h6 n n).1]

set_option maxRecDepth 100000 in
set_option maxHeartbeats 8000000 in
theorem rminus_any (n : Int) (A B : List AV) (ao bo : Option Addr) (ac bc : Nat) (w : World) (hA : RdV w ao A) (hB : RdV w bo B) (hN : ao = none → A = [] ∧ ac = 0) (hYA : ∀ y ∈ A, y.a.length ≤ 1000000 ∧ NilOk y) (hYB : ∀ y ∈ B, y.a.length ≤ 1000000 ∧ NilOk y) :
    Calls Tryz.prog 29 #[.int .i64 n, .slice ao A.length ac, .slice bo B.length bc] w (MnO n A B w) := by
  have CA := Lib.hid (rcheck_any n A ao ac w hA (fun y hy => (hYA y hy).1))
  have CB := Lib.hid (fun W (h : Below w.heap.size w W) => rcheck_any n B bo bc W (hB.on h) (fun y hy => (hYB y hy).1))
  by_cases hc : chkP n A = 0
  case neg =>
    have FIN := Lib.hid (show ∀ w', Below w.heap.size w w' → MnO n A B w (.returned (.tuple #[.slice none 0 0, .int .i64 (chkP n A)])) w' from fun w' hb => mn_bad (min_first hc) hc hb)
    have h1 : (chkP n A == 0) = false := by simpa using hc
    have h2 : (chkP n A != 0) = true := by simpa using hc
    generalize chkP n A = c at *
    generalize A.length = k1 at *
    generalize B.length = k2 at *
    clear hA hB hN hYA hYB hc CB
    go_enter Tryz.func29, Tryz.ntmps29
    go_wp2_with fail
    refine CA.out.mono ?_
    rintro e w1 ⟨rfl, hb⟩
    have B1 := Lib.hid hb
    clear hb
    go_wp2_with fail
    refine bodyPost_ret (v := .tuple #[.slice none 0 0, .int .i64 c]) (by simp [results, Tryz.results29, go_sem]) rfl ?_
    exact FIN.out _ B1.out
  rw [hc] at CA
  by_cases hd : chkP n B = 0
  case neg =>
    have FIN := Lib.hid (show ∀ w', Below w.heap.size w w' → MnO n A B w (.returned (.tuple #[.slice none 0 0, .int .i64 (chkP n B)])) w' from fun w' hb => mn_bad (min_second hc hd) hd hb)
    have h2 : (chkP n B != 0) = true := by simpa using hd
    generalize chkP n B = c at *
    generalize A.length = k1 at *
    generalize B.length = k2 at *
    clear hA hB hN hYA hYB hc hd
    go_enter Tryz.func29, Tryz.ntmps29
    go_wp2_with fail
    refine CA.out.mono ?_
    rintro e w1 ⟨rfl, hb⟩
    have B1 := Lib.hid hb
    have C1 := Lib.hid (CB.out w1 hb)
    clear hb CB
    go_wp2_with fail
    refine C1.out.mono ?_
    rintro e w2 ⟨rfl, hb⟩
    have B2 := Lib.hid (below_on B1.out hb)
    clear hb
    go_wp2_with fail
    refine bodyPost_ret (v := .tuple #[.slice none 0 0, .int .i64 c]) (by simp [results, Tryz.results29, go_sem]) rfl ?_
    exact FIN.out _ B2.out
  rw [hd] at CB
  obtain ⟨⟨g1, g2⟩, g3, g4⟩ := chk_valid hc
  obtain ⟨_, e3, e4⟩ := chk_valid hd
  obtain ⟨n', rfl⟩ : ∃ n' : Nat, n = n' := ⟨n.toNat, by omega⟩
  have FA : ∀ z ∈ A, FitV n' z ∧ NilOk z := fun z hz => ⟨by simpa using valid_fitV (g4 z hz), (hYA z hz).2⟩
  have FB : ∀ z ∈ B, FitV n' z ∧ NilOk z := fun z hz => ⟨by simpa using valid_fitV (e4 z hz), (hYB z hz).2⟩
  have ME := Lib.hid (show minE n' A B = (mnS n' (A.map ofV) (B.map ofV) B.length).2 by rw [min_both hc hd, Int.toNat_natCast]; rfl)
  have FAB := Lib.hid (show ∀ t, ∀ y ∈ A ++ B.take t, FitV n' y ∧ NilOk y from fun t y hy => by
    rcases List.mem_append.1 hy with q | q
    · exact FA y q
    · exact FB y (List.mem_of_mem_take q))
  have NAB := Lib.hid (show ∀ W, Below w.heap.size w W → ∀ t, ∀ y ∈ A ++ B.take t, Rd1 W y.q y.a from fun W h t y hy => by
    rcases List.mem_append.1 hy with q | q
    · exact (hA.nums y q).on h
    · exact (hB.nums y (List.mem_of_mem_take q)).on h)
  have FBB := Lib.hid FB
  have RB := Lib.hid (fun W (h : Below w.heap.size w W) => hB.on h)
  have RA := Lib.hid (fun W (h : Below w.heap.size w W) => hA.on h)
  have N5 := Lib.hid (show n' ≤ 5 by omega)
  have HN := Lib.hid hN
  have FBAD := Lib.hid (show ∀ t, t < B.length → (mnS n' (A.map ofV) (B.map ofV) (t + 1)).2 ≠ 0 → ∀ w', Below w.heap.size w w' → MnO n' A B w (.returned (.tuple #[.slice none 0 0, .int .i64 (mnS n' (A.map ofV) (B.map ofV) (t + 1)).2])) w' from fun t ht h w' hb => mn_bad (by rw [ME.out, mnS_end (show t + 1 ≤ B.length by omega) h]) h hb)
  have FGOOD := Lib.hid (show (mnS n' (A.map ofV) (B.map ofV) B.length).2 = 0 → ∀ v w', (∃ L, OwnP w' w.heap.size v none L ∧ PcOk n' L (mnS n' (A.map ofV) (B.map ofV) B.length).1) → Below w.heap.size w w' → MnO n' A B w (.returned (.tuple #[v, .int .i64 0])) w' from fun h v w' ⟨L, h1, h2⟩ hb => ⟨hb, Or.inl ⟨by rw [ME.out]; exact h, v, rfl, L, h1, by rw [Int.toNat_natCast]; exact h2⟩⟩)
  obtain ⟨la, hla⟩ : ∃ k, k = A.length := ⟨_, rfl⟩
  obtain ⟨m, hm⟩ : ∃ k, k = B.length := ⟨_, rfl⟩
  have LA := Lib.hid hla
  have LM := Lib.hid hm
  have la1 : la ≤ 1000 := by omega
  have m1 : m ≤ 1000 := by omega
  rw [← hla] at CA ⊢
  rw [← hm] at CB ⊢
  clear hA hB hN hYA hYB hc hd g1 g2 g3 g4 e3 e4 FA FB hla hm
  go_enter Tryz.func29, Tryz.ntmps29
  go_wp2_with fail
  refine CA.out.mono ?_
  rintro e w1 ⟨rfl, hb⟩
  have B1 := Lib.hid hb
  have C1 := Lib.hid (CB.out w1 hb)
  clear hb CB CA
  go_wp2_with fail
  refine C1.out.mono ?_
  rintro e w2 ⟨rfl, hb⟩
  have B2 := Lib.hid (below_on B1.out hb)
  clear hb C1
  go_wp2_with fail
  have INI := Lib.hid (show ∃ ro rc, Value.slice ao la ac = .slice ro (A ++ B.take 0).length rc ∧ RdV w2 ro (A ++ B.take 0) ∧ (ro = none → (A ++ B.take 0) = [] ∧ rc = 0) ∧ (∀ p, ro = some p → (Value.slice none 0 0).ownBlock ≠ some p.block) from by
    have e : A ++ B.take 0 = A := by simp
    rw [e]
    exact ⟨ao, ac, by rw [LA.out], RA.out w2 B2.out, HN.out, fun p _ h => by cases h⟩)
  go_loopw [9, 10, 11, 12, 13, 14] (fun v9 v10 u _ _ _ wr => ∃ t : Nat, u = .int .i64 t ∧ t ≤ m ∧ la + t ≤ 1000 ∧ Hid (∃ L, OwnP wr w.heap.size v9 none L ∧ PcOk n' L (mnS n' (A.map ofV) (B.map ofV) t).1 ∧ L.length ≤ t) ∧ Hid (∃ ro rc, v10 = .slice ro (A ++ B.take t).length rc ∧ RdV wr ro (A ++ B.take t) ∧ (ro = none → (A ++ B.take t) = [] ∧ rc = 0) ∧ (∀ p, ro = some p → v9.ownBlock ≠ some p.block)) ∧ Hid ((mnS n' (A.map ofV) (B.map ofV) t).2 = 0) ∧ Hid (Below w.heap.size w wr)) (fun _ _ u _ _ _ _ => m - (intOf u).toNat)
  case atStart => exact ⟨0, rfl, by omega, by omega, Lib.hid ⟨[], OwnP.nil _ _ _, rfl, Nat.le_refl _⟩, INI, Lib.hid rfl, B2⟩
  case round =>
    clear INI B2
    obtain ⟨t, rfl, ht, hlt0, HP, HR, HE, HW⟩ := hrel
    generalize wr = wo at *
    by_cases htm : t < m
    · have hl1 : t < B.length := by have := LM.out; omega
      obtain ⟨pa, hpa, hAv⟩ := (RB.out wo HW.out).at_ t hl1
      have hmem := List.getElem_mem hl1
      have YF := Lib.hid (FBB.out _ hmem)
      have YN := Lib.hid (fun W (h : Below w.heap.size w W) => (RB.out W h).nums _ hmem)
      have YA := Lib.hid (fun W (h : Below w.heap.size w W) => (RB.out W h).at_ t hl1)
      have R2 := Lib.hid (show A ++ B.take (t + 1) = (A ++ B.take t) ++ [B[t]] by rw [List.take_succ_eq_append_getElem hl1, List.append_assoc])
      have FBt := Lib.hid (FBAD.out t hl1)
      obtain ⟨l2, hl2⟩ : ∃ l2, l2 = mnL (A.map ofV) (B.map ofV) t := ⟨_, rfl⟩
      have L2 := Lib.hid (show l2 = (A ++ B.take t).map ofV ++ [(ofV B[t]).opp] by
        rw [hl2]; unfold mnL
        rw [List.map_append, List.map_take, List.getD_eq_getElem?_getD, List.getElem?_map, List.getElem?_eq_getElem hl1]; rfl)
      have ST := Lib.hid (show mnS n' (A.map ofV) (B.map ofV) (t + 1) = if la + t = 1000 then ([], 3) else if shE l2 n' n' ≠ 0 then ([], shE l2 n' n') else if empB l2 n' then mnS n' (A.map ofV) (B.map ofV) t else ((mnS n' (A.map ofV) (B.map ofV) t).1 ++ [tidyL l2], 0) by
        conv => lhs; unfold mnS
        rw [if_neg (fun q => q HE.out), List.length_map, ← LA.out, ← hl2])
      obtain ⟨k, hk⟩ : ∃ k, k = (A ++ B.take t).length := ⟨_, rfl⟩
      have KL : k = la + t := by rw [hk, List.length_append, List.length_take, ← LA.out]; omega
      obtain ⟨ro, rc, hv10, hrd, hrn, hrb⟩ := HR.out
      have FR := Lib.hid (FAB.out t)
      have NR := Lib.hid (fun W (h : Below w.heap.size w W) => NAB.out W h t)
      rw [← hk] at hv10
      generalize B[t] = y at *
      generalize A ++ B.take t = R at *
      have RD := Lib.hid hrd
      have RN := Lib.hid hrn
      have RBk := Lib.hid hrb
      have HK := Lib.hid hk
      have AVY := Lib.hid hAv
      have HPW := Lib.hid (show ∀ k, u9.ownBlock = some k → w.heap.size ≤ k ∧ k < wo.heap.size from fun k hk => by obtain ⟨L7, h7, _⟩ := HP.out; exact h7.lt k hk)
      have tm : (t : Int) < (m : Int) := by omega
      obtain ⟨hw1, hw2⟩ := big_64 (z := (k : Int) + 1) ⟨by omega, by omega⟩
      subst hpa hv10
      clear hl1 hmem hl2 hk hrd hrn hrb hAv HR
      by_cases k1 : k = 1000
      · have E3 : (mnS n' (A.map ofV) (B.map ofV) (t + 1)).2 = 3 := by rw [ST.out, if_pos (by omega)]
        have FIN := Lib.hid (FBt.out (by rw [E3]; decide))
        rw [E3] at FIN
        have tt : (1000 : Int) < (k : Int) + 1 := by omega
        go_wp2_with fail
        refine bodyPost_ret (v := .tuple #[.slice none 0 0, .int .i64 3]) (by simp [results, Tryz.results29, go_sem]) rfl ?_
        exact FIN.out _ HW.out
      · have tt : ¬ (1000 : Int) < (k : Int) + 1 := by omega
        have ST2 := Lib.hid ST.out
        rw [if_neg (show ¬ la + t = 1000 by omega)] at ST2
        have OP := Lib.hid (ropp_any y wo (by have := YF.out.1.1; have := N5.out; omega) (YN.out wo HW.out) YF.out.1.2.1 YF.out.1.2.2)
        have KT := Lib.hid (show k ≤ 1000 ∧ la + (t + 1) ≤ 1000 by omega)
        clear ST hw1 hw2 KL
        go_wp2_with (refine wpl_loadV rfl _ rfl _ rfl y AVY.out ?_)
        refine OP.out.mono ?_
        rintro e w3 ⟨z, rfl, hz1, hz2, hz3, hz4, hb⟩
        have ZE := Lib.hid hz1
        have ZN := Lib.hid hz2
        have ZR := Lib.hid hz3
        have B3 := Lib.hid hb
        have W3 := Lib.hid (below_on HW.out hb)
        have BH := Lib.hid (rbehindB_any R ro rc z w3 (RD.out.on hb) RN.out (by have := KT.out; have := HK.out; omega) hz3)
        rw [← HK.out] at BH
        clear hz1 hz2 hz3 hz4 hb OP
        go_wp2_with fail
        refine BH.out.mono ?_
        rintro e w4 ⟨ro4, rc4, rfl, hrd4, hb, _⟩
        have B4 := Lib.hid (below_on B3.out hb)
        have W4 := Lib.hid (below_on HW.out B4.out)
        have FZ := Lib.hid (show ∀ x ∈ R ++ [z], FitV n' x ∧ NilOk x from fun x hx => by
          rcases List.mem_append.1 hx with q | q
          · exact FR.out x q
          · rw [List.mem_singleton] at q; subst q; exact ⟨fit_opp ZE.out YF.out.1, ZN.out⟩)
        have LZ : l2 = (R ++ [z]).map ofV := by rw [L2.out, List.map_append, List.map_cons, List.map_nil, ofV_opp ZE.out]
        obtain ⟨d1, d2, d3⟩ := ofV_dom (n := n') (by have := N5.out; omega) (fun x hx => (FZ.out x hx).1)
        have TD := Lib.hid (rtidyF_any n' (R ++ [z]) (some ro4) rc4 w4 (by have := N5.out; omega) (by simp; have := KT.out; have := HK.out; omega) hrd4 (fun x hx => by
          obtain ⟨⟨h1, h2, h3⟩, h4⟩ := FZ.out x hx
          exact ⟨h1, h4, fun v hv => by have := h2 v hv; unfold A63; omega, by unfold A63; omega⟩))
        rw [d3, tidy_tk (by have := N5.out; omega) d1, ← LZ] at TD
        rw [← LZ] at d1 d2
        have D1 := Lib.hid d1
        have D2 := Lib.hid d2
        have l2len : l2.length ≤ 2000 := by rw [LZ, List.length_map, List.length_append, ← HK.out]; have := KT.out; simp; omega
        have LL := Lib.hid l2len
        have ek : (R ++ [z]).length = R.length + 1 := by rw [List.length_append]; rfl
        rw [ek] at TD
        clear hrd4 hb LZ d1 d2 d3 l2len ek BH
        go_wp2_with fail
        refine TD.out.mono ?_
        rintro e w5 ⟨v5, R1, rfl, hO, hm1, hF, hb⟩
        obtain ⟨ro1, rc1, hv5, hrd1, _⟩ := hO.read
        have B45 := Lib.hid hb
        have B5 := Lib.hid (below_on B4.out hb)
        have OV := Lib.hid hO
        have FRR := Lib.hid hF
        have M1 := Lib.hid hm1
        have rg := tidyL_rg (m := 2147483647) (by omega) D2.out
        have dm : ∀ x ∈ tidyL l2, DomN n' x := fun x hx => by
          have := tidy_zr (J := fun j => n' ≤ j) (l := l2) (fun y hy => ⟨(D1.out y hy).1, (D1.out y hy).2⟩) x hx
          exact ⟨this.1, this.2⟩
        have EM := Lib.hid (rempty0_any n' R1 (tidyL l2) ro1 rc1 w5 (by have := N5.out; omega) (tidyL_len LL.out (by omega)) ⟨hrd1, fun y hy => ⟨fit_all (by have := N5.out; omega) hm1 rg y hy, hO.nil y hy⟩, hm1⟩ dm rg)
        rw [(sh_twice (fun x hx => (D1.out x hx).1) n' n').2, emp_twice (fun x hx => (D1.out x hx).1) n'] at EM
        obtain ⟨rl1, hrl1⟩ : ∃ r, r = R1.length := ⟨_, rfl⟩
        have RL1 := Lib.hid hrl1
        rw [← hrl1] at EM hv5
        subst hv5
        obtain ⟨se, hse⟩ : ∃ se, se = shE l2 n' n' := ⟨_, rfl⟩
        obtain ⟨eb, heb⟩ : ∃ eb, eb = empB l2 n' := ⟨_, rfl⟩
        obtain ⟨fb, hfb⟩ : ∃ fb, fb = (decide (se = 0) && eb) := ⟨_, rfl⟩
        rw [← hse, ← heb, ← hfb] at EM
        rw [← hse, ← heb] at ST2
        have FBE := Lib.hid hfb
        clear hO hF hm1 hb hrd1 rg dm hrl1 hse heb hfb TD
        go_wp2_with fail
        refine EM.out.mono ?_
        rintro e w6 ⟨rfl, hb⟩
        have B56 := Lib.hid hb
        have B6 := Lib.hid (below_on B5.out hb)
        have W6 := Lib.hid (below_on HW.out B6.out)
        clear hb EM
        by_cases se0 : se = 0
        case neg =>
          have E3 : (mnS n' (A.map ofV) (B.map ofV) (t + 1)).2 = se := by rw [ST2.out, if_pos se0]
          have FIN := Lib.hid (FBt.out (by rw [E3]; exact se0))
          rw [E3] at FIN
          have hne : (se != 0) = true := by simpa using se0
          clear se0 E3
          go_wp2_with fail
          refine bodyPost_ret (v := .tuple #[.slice none 0 0, .int .i64 se]) (by simp [results, Tryz.results29, go_sem]) rfl ?_
          exact FIN.out _ W6.out
        have FE2 := FBE.out
        subst se0
        rw [show (decide ((0 : Int) = 0) && eb) = eb by simp] at FE2
        subst FE2
        have ST3 := Lib.hid ST2.out
        rw [if_neg (fun k => k rfl)] at ST3
        cases fb
        case true =>
          have MS := Lib.hid (show mnS n' (A.map ofV) (B.map ofV) (t + 1) = mnS n' (A.map ofV) (B.map ofV) t by rw [ST3.out]; rfl)
          have HPX := Lib.hid (show ∃ L, OwnP w6 w.heap.size u9 none L ∧ PcOk n' L (mnS n' (A.map ofV) (B.map ofV) (t + 1)).1 ∧ L.length ≤ t + 1 from by
            obtain ⟨L7, h7, h8, h9⟩ := HP.out
            exact ⟨L7, h7.on B6.out, by rw [MS.out]; exact h8, by omega⟩)
          have HEX := Lib.hid (show (mnS n' (A.map ofV) (B.map ofV) (t + 1)).2 = 0 by rw [MS.out]; exact HE.out)
          clear ST2 ST3 HP HE
          have BH2 := Lib.hid (rbehindB_any R ro rc y w6 (RD.out.on B6.out) RN.out (by have := KT.out; have := HK.out; omega) (YN.out w6 W6.out))
          rw [← HK.out] at BH2
          obtain ⟨pa2, epa, hAv2⟩ := YA.out w6 W6.out
          cases epa
          have AV2 := Lib.hid hAv2
          clear hAv2
          go_wp2_with (refine wpl_loadV rfl _ rfl _ rfl y AV2.out ?_)
          refine BH2.out.mono ?_
          rintro e w9 ⟨ro9, rc9, rfl, hrd9, hb9, hk9⟩
          have HR9 := Lib.hid (show ∃ r c, Value.slice (some ro9) (R.length + 1) rc9 = .slice r (A ++ B.take (t + 1)).length c ∧ RdV w9 r (A ++ B.take (t + 1)) ∧ (r = none → (A ++ B.take (t + 1)) = [] ∧ c = 0) ∧ (∀ p, r = some p → u9.ownBlock ≠ some p.block) from by
            rw [R2.out]
            refine ⟨some ro9, rc9, by rw [List.length_append]; rfl, hrd9, fun e => by (cases e), fun p e k => ?_⟩
            cases e
            obtain ⟨L7, h7, _⟩ := HPX.out
            have := (h7.lt _ k).2
            omega)
          have HP9 := Lib.hid (show ∃ L, OwnP w9 w.heap.size u9 none L ∧ PcOk n' L (mnS n' (A.map ofV) (B.map ofV) (t + 1)).1 ∧ L.length ≤ t + 1 from by
            obtain ⟨L7, h7, h8, h9⟩ := HPX.out
            exact ⟨L7, h7.on hb9, h8, h9⟩)
          have W9 := Lib.hid (below_on W6.out hb9)
          clear hrd9 hb9 hk9 BH2
          go_wp2_with fail
          go_roundw
          case rel => exact ⟨t + 1, by go_num, by omega, KT.out.2, HP9, HR9, HEX, W9⟩
          case measure => simp [intOf]; omega
        case false =>
          have MS := Lib.hid (show mnS n' (A.map ofV) (B.map ofV) (t + 1) = ((mnS n' (A.map ofV) (B.map ofV) t).1 ++ [tidyL l2], 0) by rw [ST3.out]; rfl)
          obtain ⟨p, hp⟩ : ∃ p : LsV, p = ⟨ro1, rc1, R1⟩ := ⟨_, rfl⟩
          have PV := Lib.hid (show Value.slice ro1 rl1 rc1 = p.val by rw [hp, RL1.out]; rfl)
          have PL := Lib.hid (show p.l = R1 by rw [hp])
          obtain ⟨LL7, h7, h8, h9⟩ := HP.out
          obtain ⟨w7, hw7⟩ : ∃ w7, w7 = w6.alloc (.cells #[p.val] 22) := ⟨_, rfl⟩
          have B67 := Lib.hid (show Below w6.heap.size w6 w7 by rw [hw7]; exact one_more _)
          have HOP := Lib.hid ((h7.on B6.out).on B67.out)
          have CY := Lib.hid (show w7.cell? ⟨w6.heap.size, 0, none⟩ = some p.val by rw [hw7, cell_of_row _ _ 0 _ _ _ (heap_alloc_last w6 _)]; rfl)
          have STY := Lib.hid (show Stays w.heap.size w7 u9.ownBlock none fun x => RdV x p.q p.l from by
            have h := ownV_stays (B := w.heap.size) (r := u9.ownBlock) (by have h1 := OV.out; rw [RL1.out] at h1; exact h1) FRR.out W4.out.size (fun k hk => by have h1 := (HPW.out k hk).2; have h2 := B4.out.size; omega)
            have h' := (h.below B56.out).below B67.out
            rw [hp]; exact h')
          have LE7 := Lib.hid (show LL7.length ≤ 1000 by omega)
          have W7 := Lib.hid (below_on W6.out B67.out)
          have z7 := W7.out.size
          have PC8 := Lib.hid (show PcOk n' (LL7 ++ [p]) (mnS n' (A.map ofV) (B.map ofV) (t + 1)).1 from by
            unfold PcOk at h8 ⊢
            rw [MS.out, List.map_append, List.map_append, h8, List.map_cons, List.map_nil, List.map_cons, List.map_nil, PL.out, M1.out])
          have LE8 := Lib.hid (show (LL7 ++ [p]).length ≤ t + 1 by simp; omega)
          clear h7 h8 h9 ST2 ST3 HP HE hp
          go_wp2_with (first | (refine wp_bl1 rfl _ rfl p (by rw [← PV.out]; rfl) (run_bl1 _ _) ?_; rw [← hw7]) | (at_builtin; refine wpl_appP rfl _ _ rfl w.heap.size u9 none LL7 p rfl HOP.out _ _ rfl CY.out STY.out (by have := LE7.out; omega) z7 ?_))
          intro v8 w8 o8 g8 f8
          rw [← hw7] at g8
          have W8 := Lib.hid (show Below w.heap.size w w8 from Below.grown W7.out g8 z7 (fun k hk => (HPW.out k hk).1))
          have HPX := Lib.hid (show ∃ L, OwnP w8 w.heap.size v8 none L ∧ PcOk n' L (mnS n' (A.map ofV) (B.map ofV) (t + 1)).1 ∧ L.length ≤ t + 1 from ⟨LL7 ++ [p], o8, PC8.out, LE8.out⟩)
          have HEX := Lib.hid (show (mnS n' (A.map ofV) (B.map ofV) (t + 1)).2 = 0 by rw [MS.out])
          have RD8 := Lib.hid (rdv_grown ((RD.out.on B6.out).on B67.out) g8 RBk.out (NR.out w8 W8.out))
          clear o8 g8 f8 z7 hw7
          have BH2 := Lib.hid (rbehindB_any R ro rc y w8 RD8.out RN.out (by have := KT.out; have := HK.out; omega) (YN.out w8 W8.out))
          rw [← HK.out] at BH2
          obtain ⟨pa2, epa, hAv2⟩ := YA.out w8 W8.out
          cases epa
          have AV2 := Lib.hid hAv2
          clear hAv2
          go_wp2_with (refine wpl_loadV rfl _ rfl _ rfl y AV2.out ?_)
          refine BH2.out.mono ?_
          rintro e w9 ⟨ro9, rc9, rfl, hrd9, hb9, hk9⟩
          have HR9 := Lib.hid (show ∃ r c, Value.slice (some ro9) (R.length + 1) rc9 = .slice r (A ++ B.take (t + 1)).length c ∧ RdV w9 r (A ++ B.take (t + 1)) ∧ (r = none → (A ++ B.take (t + 1)) = [] ∧ c = 0) ∧ (∀ p, r = some p → v8.ownBlock ≠ some p.block) from by
            rw [R2.out]
            refine ⟨some ro9, rc9, by rw [List.length_append]; rfl, hrd9, fun e => by (cases e), fun p e k => ?_⟩
            cases e
            obtain ⟨L7, h7, _⟩ := HPX.out
            have := (h7.lt _ k).2
            omega)
          have HP9 := Lib.hid (show ∃ L, OwnP w9 w.heap.size v8 none L ∧ PcOk n' L (mnS n' (A.map ofV) (B.map ofV) (t + 1)).1 ∧ L.length ≤ t + 1 from by
            obtain ⟨L7, h7, h8, h9⟩ := HPX.out
            exact ⟨L7, h7.on hb9, h8, h9⟩)
          have W9 := Lib.hid (below_on W8.out hb9)
          clear hrd9 hb9 hk9 BH2
          go_wp2_with fail
          go_roundw
          case rel => exact ⟨t + 1, by go_num, by omega, KT.out.2, HP9, HR9, HEX, W9⟩
          case measure => simp [intOf]; omega
    · have e9 : t = m := by omega
      rw [e9, LM.out] at HP HE
      have FIN := Lib.hid (FGOOD.out HE.out u9 wo (by obtain ⟨L7, h7, h8, _⟩ := HP.out; exact ⟨L7, h7, h8⟩) HW.out)
      clear e9 HP HE HR
      go_wp2_with fail
      refine bodyPost_ret (v := .tuple #[u9, .int .i64 0]) (by simp [results, Tryz.results29, go_sem]) rfl ?_
      exact FIN.out
end Go.Proofs.YtbhaoaobhgilkaaGreat
