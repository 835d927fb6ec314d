/- The contract of package poly's minus. -/
import Derived.Test.YtbhaoaobhgilkaaGreatWm3
import Derived.Test.YtbhaoaobhgilkaaGreatWm38
import Derived.Test.YtbhaoaobhgilkaaGreatWm13
import Derived.Laws.Cover3

namespace Go.Proofs.YtbhaoaobhgilkaaGreat
open Go.RowKit Go.Sort Go.Shelf

theorem mnS_stop {n : Nat} {a b : List Ln} {t : Nat} (h : (mnS n a b t).2 ≠ 0) : ∀ j, mnS n a b (t + j) = mnS n a b t
  | 0 => rfl
  | j + 1 => by
    have ih := mnS_stop h j
    have e : mnS n a b (t + j + 1) = mnS n a b (t + j) := by
      conv => lhs; unfold mnS
      rw [if_pos (by rw [ih]; exact h)]
    exact e.trans ih

theorem mnS_end {n : Nat} {a b : List Ln} {t m : Nat} (ht : t ≤ m) (h : (mnS n a b t).2 ≠ 0) : mnS n a b m = mnS n a b t := by
  have := mnS_stop h (m - t)
  rwa [show t + (m - t) = m by omega] at this

def PcOk (n : Nat) (L : List LsV) (ls : List (List Ln)) : Prop := L.map (fun p => p.l.map lnV) = ls.map (List.map (tk n))

theorem tk_ch {n : Nat} {l : List Ln} {L : List AV} (h : IsCh (fun a => a.take n) l L) : L.map lnV = l.map (tk n) := by
  have := congrArg (List.map fun p : List Int × Int × Bool => Ln.mk p.1 p.2.1 p.2.2) h
  rw [List.map_map, List.map_map] at this
  exact this

set_option maxRecDepth 100000 in
theorem cloneO_any {w : World} {B : Nat} {v : Value} {l : List Ln} (h : OwnL w B v l) (hl : l.length ≤ 1000000) :
    Calls Tryz.prog 95 #[v] w (fun e w' => ∃ v', e = .returned v' ∧ OwnL w' w.heap.size v' l ∧ Below w.heap.size w w') := by
  rcases h.1.2 with ⟨e, h0⟩ | ⟨g, c, _, e, _⟩
  · have hl0 : l = [] := List.eq_nil_of_length_eq_zero h0
    subst e hl0
    clear h h0 hl
    have hbe : (binOp .eql 66 (.slice none 0 0) (.slice none 0 0)).run Tryz.prog w = .ok (.bool true) w := by
      simp [go_sem, binOp, run_equal_slice_nil w 66 82 none 0 0 Tryz.underlying66]
    go_enter Tryz.func95, Tryz.ntmps95
    go_wp2_with fail
    go_ret
    exact ⟨_, rfl, OwnL.nil _ _, Below.refl _ _⟩
  · subst e
    exact cloneL_any l g c w hl h.rw'

theorem wp_bl1 {w : World} {ops : Array Oper} {rest : List Oper} {o : Oper} {a : Act} {Q : Exit → Act → World → Prop} (hgd : o.guard = none) (s : Operand) (ho : o.op = .buildSlice 46 1 #[(0, s)]) (p : LsV) (hs : a.eval s = p.val)
    (hv : (Instr.buildSlice 46 1 #[(0, p.val)]).run Tryz.prog w = .ok (.slice (some ⟨w.heap.size, 0, none⟩) 1 1) (w.alloc (.cells #[p.val] 22)))
    (h : wpList Tryz.prog ops Q rest (a.put o.dst (.slice (some ⟨w.heap.size, 0, none⟩) 1 1)) (w.alloc (.cells #[p.val] 22))) : wpList Tryz.prog ops Q (o :: rest) a w := by
  refine wpList_plain hgd fun K hK => ?_
  generalize p.val = X at *
  unfold Oper.wp execOp
  simp only [ho]
  simp [hs, hv, Result.andThen]
  exact hK _ _ h

theorem wpl_appP {ops : Array Oper} {rest : List Oper} {o : Oper} {a : Act} {w : World} {Q : Exit → Act → World → Prop} (hgd : o.guard = none) (s x : Operand) (ho : o.op = .call { callee := .builtin .append, args := #[s, x], argTypes := #[46, 46] }) (B : Nat) (v : Value) (r : Option Nat) (L : List LsV) (p : LsV) (hs : a.eval s = v) (hown : OwnP w B v r L) (b c : Nat) (hx : a.eval x = .slice (some ⟨b, 0, none⟩) 1 c) (hy : w.cell? ⟨b, 0, none⟩ = some p.val)
    (hG : Stays B w v.ownBlock r fun x => RdV x p.q p.l) (hle : L.length + 1 ≤ 1000000) (hB : B ≤ w.heap.size) (h : ∀ v' w', OwnP w' B v' r (L ++ [p]) → w.grownBy w' v.ownBlock → (v'.ownBlock = v.ownBlock ∨ v'.ownBlock = some w.heap.size) → wpList Tryz.prog ops Q rest (a.put o.dst v') w') : wpList Tryz.prog ops Q (o :: rest) a w := by
  obtain ⟨v', w', hr, h1, h2, h3⟩ := appendP_run hown hy hG hle hB (c := c) o.type
  have hk := h v' w' h1 h2 h3
  refine wpList_plain hgd fun K hK => ?_
  unfold Oper.wp
  simp [execOp, ho, resolve, invoke, builtin, hs, hx, hr, Result.andThen]
  exact hK _ _ hk

theorem run_bl1 (p : LsV) (w : World) : (Instr.buildSlice 46 1 #[(0, p.val)]).run Tryz.prog w = .ok (.slice (some ⟨w.heap.size, 0, none⟩) 1 1) (w.alloc (.cells #[p.val] 22)) := by
  have hz : (zeroValue 22).run Tryz.prog w = .ok (.slice none 0 0) w := (zero_of_info (show (Tryz.prog.info? 22).map (fun i => (i.zero, i.size)) = some (some (.slice none 0 0), 1) by kernel_rfl)).1 w
  have hs := size_of (show (Tryz.prog.info? 22).map (·.size) = some 1 by kernel_rfl) w
  simp [go_sem, Instr.buildSlice, run_underlying Tryz.underlying46, hs, LsV.val, Instr.fill]

set_option maxRecDepth 100000 in
set_option maxHeartbeats 8000000 in
theorem minus_any (n : Nat) (a b : List Ln) (ga : Nat) (bo : Option Addr) (ca cb : Nat) (w : World) (hn : n ≤ 5) (ha : a.length ≤ 1000) (hb : b.length ≤ 1000) (hA : Rw w ga a) (hlt : ga < w.heap.size) (hB : RdL w bo b) (hga : ∀ x ∈ a, Rg 2147483647 x) (hgb : ∀ x ∈ b, Rg 2147483647 x) :
    Calls Tryz.prog 78 #[.int .i64 n, .slice (some ⟨ga, 0, none⟩) a.length ca, .slice bo b.length cb] w (fun e W' => Below w.heap.size w W' ∧ (((mnS n a b b.length).2 = 0 ∧ ∃ v L, e = .returned v ∧ OwnP W' w.heap.size v none L ∧ PcOk n L (mnS n a b b.length).1) ∨ ((mnS n a b b.length).2 ≠ 0 ∧ e = .panicked (pan (mnS n a b b.length).2)))) := by
  have hmf : ∀ (fn : Fn) (first cap : Array Value) (w : World), (Instr.makeFunc fn first cap).run Tryz.prog w = .ok (.func fn first cap) w := fun _ _ _ _ => rfl
  have hz := ln_zero
  obtain ⟨w0, hw0⟩ : ∃ w0, w0 = w.alloc (.cells #[.int .i64 n] 3) := ⟨_, rfl⟩
  have E0 := Lib.hid (show Below w.heap.size w w0 by rw [hw0]; exact one_more _)
  have X0 := Lib.hid (show Bx1 w0 w.heap.size (.int .i64 n) 3 by rw [hw0]; exact Bx1.made w _ _)
  have HB := Lib.hid (hB.on E0.out)
  have HGA := Lib.hid hga
  have HGB := Lib.hid hgb
  obtain ⟨la, hla⟩ : ∃ k, k = a.length := ⟨_, rfl⟩
  obtain ⟨m, hm⟩ : ∃ k, k = b.length := ⟨_, rfl⟩
  have CL := Lib.hid (cloneL_any a ga ca w0 (by omega) (hA.on E0.out hlt))
  rw [← hla] at CL ha
  rw [← hm] at hb
  have LA := Lib.hid hla
  have LM := Lib.hid hm
  rw [← hla, ← hm]
  clear hA hlt hB hga hgb hla hm
  go_enter Tryz.func78, Tryz.ntmps78
  go_upto_region 1 with (fail)
  rw [← hw0]
  clear hw0
  go_wp2_with fail
  refine CL.out.mono ?_
  rintro e w1 ⟨v8, rfl, ho, hbl⟩
  have B1 := Lib.hid hbl
  have O8 := Lib.hid (show OwnL w1 w0.heap.size v8 (a ++ b.take 0) by simpa using ho)
  clear ho hbl CL
  go_wp2_with fail
  go_loopw [7, 8, 16] (fun v7 v8 s wr => ∃ t : Nat, s = .int .i64 t ∧ t ≤ m ∧ Hid (∃ L, OwnP wr w0.heap.size v7 v8.ownBlock L ∧ PcOk n L (mnS n a b t).1 ∧ L.length ≤ t) ∧ Hid (OwnL wr w0.heap.size v8 (a ++ b.take t)) ∧ Hid ((mnS n a b t).2 = 0) ∧ Hid (Below w0.heap.size w0 wr) ∧ Hid (∀ k, v7.ownBlock = some k → v8.ownBlock ≠ some k)) (fun _ _ s _ => m - (intOf s).toNat)
  case atStart => exact ⟨0, rfl, by omega, Lib.hid ⟨[], OwnP.nil _ _ _, rfl, Nat.le_refl _⟩, O8, Lib.hid rfl, B1, Lib.hid (fun k h => by cases h)⟩
  case round =>
    clear O8 B1
    obtain ⟨t, rfl, ht, HP, HO, HE, HW, HD⟩ := hrel
    generalize wr = wo at *
    by_cases htm : t < m
    · have hl1 : t < b.length := by have := LM.out; omega
      obtain ⟨pa, ha9, hla⟩ := (HB.out.on HW.out) t hl1
      obtain ⟨x, hx⟩ : ∃ x, x = b[t] := ⟨_, rfl⟩
      rw [← hx] at hla
      have LX := Lib.hid hla
      have GX := Lib.hid (show Rg 2147483647 x by rw [hx]; exact HGB.out _ (List.getElem_mem _))
      obtain ⟨l2, hl2⟩ : ∃ l2, l2 = mnL a b t := ⟨_, rfl⟩
      have hbt : b.getD t ln0 = x := by rw [hx, List.getD_eq_getElem?_getD, List.getElem?_eq_getElem hl1]; rfl
      have L2 := Lib.hid (show l2 = (a ++ b.take t) ++ [x.opp] by rw [hl2]; unfold mnL; rw [hbt])
      have R2 := Lib.hid (show a ++ b.take (t + 1) = (a ++ b.take t) ++ [x] by rw [List.take_succ_eq_append_getElem hl1, ← hx, List.append_assoc])
      have ST := Lib.hid (show mnS n a b (t + 1) = if la + t = 1000 then ([], 3) else if shE l2 n n ≠ 0 then ([], shE l2 n n) else if empB l2 n then mnS n a b t else ((mnS n a b t).1 ++ [tidyL l2], 0) by
        conv => lhs; unfold mnS
        rw [if_neg (fun q => q HE.out), ← LA.out, ← hl2])
      have RG := Lib.hid (show ∀ y ∈ a ++ b.take t, Rg 2147483647 y from fun y hy => by
        rcases List.mem_append.1 hy with q | q
        · exact HGA.out y q
        · exact HGB.out y (List.mem_of_mem_take q))
      obtain ⟨k, hk⟩ : ∃ k, k = (a ++ b.take t).length := ⟨_, rfl⟩
      have KL := Lib.hid (show k = la + t by rw [hk, List.length_append, List.length_take, ← LA.out]; omega)
      have KK := Lib.hid hk
      have ENDE := Lib.hid (show (mnS n a b (t + 1)).2 ≠ 0 → (mnS n a b m).2 ≠ 0 ∧ pan (mnS n a b (t + 1)).2 = pan (mnS n a b m).2 from fun h => by
        rw [mnS_end (show t + 1 ≤ m by omega) h]; exact ⟨h, rfl⟩)
      obtain ⟨a8, c8, e8⟩ := HO.out.form
      rw [← hk] at e8
      generalize a ++ b.take t = rl at *
      have htm' : (t : Int) < (m : Int) := by omega
      subst ha9 e8
      clear hla hx hl1 hl2 hbt hk
      obtain ⟨q, hq⟩ : ∃ q, q = wo.heap.size := ⟨_, rfl⟩
      have N1 := Lib.hid (show Bk (wo.alloc (.cells ln0.cs 82)) wo.heap.size ln0 from Bk.made wo ln0 rfl)
      have N2 := Lib.hid (N1.out.setRow GX.out.len)
      have B2 := Lib.hid (Below.setRow ((Below.refl wo.heap.size wo).alloc (Nat.le_refl _) (.cells ln0.cs 82)) (b := wo.heap.size) (Nat.le_refl _) x.cs)
      go_upto_region 6 with (first | refine wpl_loadP rfl _ rfl _ rfl x LX.out ?_ | refine wpl_store rfl _ _ rfl _ _ rfl rfl _ N1.out GX.out.len ?_)
      generalize (wo.alloc (.cells ln0.cs 82)).setRow wo.heap.size x.cs = w2 at *
      rw [← hq] at N2 ⊢
      have HQW := Lib.hid (show wo.heap.size ≤ q by omega)
      have HPW := Lib.hid (show ∀ k, u7.ownBlock = some k → k < wo.heap.size from fun k hk => by obtain ⟨L7, h7, _⟩ := HP.out; exact (h7.lt k hk).2)
      have BW2 := Lib.hid (below_on HW.out B2.out)
      clear N1 hq LX
      by_cases k1 : (k : Int) = 1000
      · have E3 := Lib.hid (show (mnS n a b (t + 1)).2 = 3 by rw [ST.out, if_pos (by have := KL.out; omega)])
        obtain ⟨e1, e2⟩ := ENDE.out (by rw [E3.out]; decide)
        rw [E3.out] at e2
        have FIN := Lib.hid (And.intro e1 e2)
        clear e1 e2 ENDE
        have k1' : (k : Int) == 1000 := by simpa using k1
        obtain rfl : k = 1000 := by omega
        clear k1 k1'
        go_wp2_with fail
        exact And.intro rfl ⟨below_on E0.out BW2.out, Or.inr ⟨FIN.out.1, by rw [← FIN.out.2]; rfl⟩⟩
      · have k2 : ((k : Int) == 1000) = false := by simpa using k1
        have ST2 := Lib.hid (show mnS n a b (t + 1) = if shE l2 n n ≠ 0 then ([], shE l2 n n) else if empB l2 n then mnS n a b t else ((mnS n a b t).1 ++ [tidyL l2], 0) by rw [ST.out, if_neg (by have := KL.out; omega)])
        have O2 := Lib.hid (HO.out.on B2.out)
        have k20 : k ≤ 2000 := by have := KL.out; omega
        have RL := Lib.hid (show rl.length ≤ 2000 by rw [← KK.out]; exact k20)
        have O6 := Lib.hid ((GX.out.opp (by omega)).len)
        have RG2 := Lib.hid (show ∀ y ∈ l2, Rg 2147483647 y from fun y hy => by
          rw [L2.out] at hy
          rcases List.mem_append.1 hy with q | q
          · exact RG.out y q
          · rw [List.mem_singleton] at q; rw [q]; exact GX.out.opp (by omega))
        have L22 := Lib.hid (show l2.length ≤ 2001 by rw [L2.out, List.length_append]; have := RL.out; simp; omega)
        have OP := Lib.hid (fun W => opp_any x W (GX.out.mono (by omega)))
        have X2 := Lib.hid (X0.out.kept BW2.out)
        have NC := Lib.hid N2.out
        go_upto_region 8 with (fail)
        have B20 := B2
        clear ST HO B2 N2
        go_cut [11] (fun s11 wx => ∃ (b3 : Nat) (wS : World) (cs3 : Array Value), s11 = .slice (some ⟨b3, 0, none⟩) (n + 1) (n + 1) ∧ Hid (ShR wS wx b3 l2 n (n + 1) cs3) ∧ Hid (shE l2 n n = 0) ∧ Hid (Below w2.heap.size w2 wx))
        case first =>
          have KS := Lib.hid (show ∀ W, Below w2.heap.size w2 W → (W.cell? ⟨w.heap.size, 0, none⟩ = some (.int .i64 n) ∧ Bk W q x) from fun W h => ⟨kept h X2.out.cell, NC.out.kept h⟩)
          obtain ⟨wc, hwc⟩ : ∃ wc, wc = w2.drew := ⟨_, rfl⟩
          have Bc := Lib.hid (show Below w2.heap.size w2 wc by rw [hwc]; exact (Below.refl _ _).drew)
          refine wp_region_held_drew (S := (fun W => (W.cell? ⟨w.heap.size, 0, none⟩ = some (.int .i64 n) ∧ Bk W q x))) (by kernel_rfl) (by rw [← hwc]; exact KS.out _ Bc.out) (fun h0 => ?_)
          rw [← hwc] at h0 ⊢
          clear hwc
          refine tkH (i := 0) (v := ?v1) rfl (Or.inl ⟨by rfl, ?hy1⟩) h0 ?rest1
          case hy1 => (intro w' hS; (try dsimp only at hS); go_simp; try (with_reducible rfl))
          simp only [Act.put, sA, sB, sD, sE, sF]
          refine tkH (i := 1) (v := ?v2) rfl (Or.inl ⟨by rfl, ?hy2⟩) h0 ?rest2
          case hy2 => (intro w' hS; (try dsimp only at hS); go_simp; try (with_reducible rfl))
          simp only [Act.put, sZ]
          refine tkH (i := 3) (v := (.agg x.cs)) rfl (Or.inl ⟨by rfl, fun w' hS => yld_loadL _ rfl _ rfl hS.2⟩) h0 ?_
          simp only [Act.put, sZ]
          refine wpAnyH_ready (rs := [2]) (by kernel_rfl) (by simp) (AllReadyH.cons rfl (fun K hK => ?_) AllReadyH.nil)
          rw [if_pos (by rfl)]
          go_simp
          refine (cloneO_any (O2.out.on Bc.out) (by have := RL.out; omega)).mono ?_
          rintro e wc ⟨v1, rfl, ho, hb⟩
          have O1 := Lib.hid (ho.base Bc.out.size)
          have Bc := Lib.hid (below_on Bc.out hb)
          clear ho hb
          go_simp
          refine hK.out _ _ (KS.out _ Bc.out) (fun h0_1 => ?_)
          clear hK K h0
          refine wpAnyH_ready (rs := [4]) (by kernel_rfl) (by simp) (AllReadyH.cons rfl (fun K hK => ?_) AllReadyH.nil)
          rw [if_pos (by rfl)]
          go_simp
          refine (OP.out wc).mono ?_
          rintro e wc ⟨rfl, hb⟩
          try (have O1 := Lib.hid (O1.out.on hb))
          have Bc := Lib.hid (below_on Bc.out hb)
          clear hb
          go_simp
          refine hK.out _ _ (KS.out _ Bc.out) (fun h0_2 => ?_)
          clear hK K h0_1
          refine wpAnyH_ready (rs := [5]) (by kernel_rfl) (by simp) (AllReadyH.cons rfl (fun K hK => ?_) AllReadyH.nil)
          rw [if_pos (by rfl)]
          obtain ⟨wd, hwd⟩ : ∃ wd, wd = wc.alloc (.cells x.opp.cs 82) := ⟨_, rfl⟩
          refine wp_bs1 _ rfl x.opp rfl O6.out ?_
          rw [← hwd]
          have hb : Below wc.heap.size wc wd := by rw [hwd]; exact one_more _
          have YL := Lib.hid (show LnAt wd ⟨wc.heap.size, 0, none⟩ x.opp by rw [hwd]; exact (Bk.made wc x.opp O6.out).lnAt)
          have O1 := Lib.hid (O1.out.on hb)
          have Bc := Lib.hid (below_on Bc.out hb)
          clear hb hwd
          try simp only [Act.put, sZ]
          refine hK.out _ _ (KS.out _ Bc.out) (fun h0_3 => ?_)
          clear hK K h0_2
          refine wpAnyH_ready (rs := [6]) (by kernel_rfl) (by simp) (AllReadyH.cons rfl (fun K hK => ?_) AllReadyH.nil)
          rw [if_pos (by rfl)]
          obtain ⟨v2, we, hrun, ho2, hg2, _⟩ := append_run O1.out YL.out (by have := RL.out; omega) Bc.out.size (c := 1) 66
          refine Lib.wp_append_run _ _ _ 66 66 rfl v1 (.slice (some ⟨wc.heap.size, 0, none⟩) 1 1) rfl rfl _ _ hrun ?_
          have OO2 := Lib.hid (show OwnL we w2.heap.size v2 l2 by rw [L2.out]; exact ho2)
          have Bc := Lib.hid (Below.grown Bc.out hg2 Bc.out.size (fun k hk => (World.ownsRow.lt O1.out.1 k hk).1))
          obtain ⟨a2, c2, e2⟩ := OO2.out.form
          subst e2
          clear hrun ho2 hg2
          try simp only [Act.put, sZ]
          refine hK.out _ _ (KS.out _ Bc.out) (fun h0_4 => ?_)
          clear hK K h0_3
          refine wpAnyH_ready (rs := [7]) (by kernel_rfl) (by simp) (AllReadyH.cons rfl (fun K hK => ?_) AllReadyH.nil)
          rw [if_pos (by rfl)]
          go_simp
          refine (shadows_any l2 a2 c2 n we (by have := L22.out; have := KL.out; rw [L2.out, List.length_append]; rw [← KK.out]; simp; omega) (by omega) OO2.out.rd RG2.out).mono ?_
          rintro e wf (⟨he, b3, cs3, rfl, hs⟩ | ⟨he, rfl, hb⟩)
          rotate_left
          · obtain ⟨e1, e2⟩ := ENDE.out (by rw [ST2.out, if_pos he]; exact he)
            exact And.intro rfl ⟨below_on E0.out (below_on BW2.out (below_on Bc.out hb)), Or.inr ⟨e1, by rw [← e2, ST2.out, if_pos he]⟩⟩
          have HZ := Lib.hid he
          have HS := Lib.hid hs
          have Bc := Lib.hid (below_on Bc.out hs.be)
          clear hs he
          go_simp
          refine hK.out _ _ (KS.out _ Bc.out) (fun h0_5 => ?_)
          clear hK K h0_4
          refine tkH (i := 8) (v := ?v4) rfl (Or.inl ⟨by rfl, ?hy4⟩) h0_5 ?rest4
          case hy4 => (intro w' hS; (try dsimp only at hS); go_simp; try (with_reducible rfl))
          simp only [Act.put, sA, sB, sC, sD]
          try simp only [sF]
          try simp only [sE]
          refine wpAnyH_done (by kernel_rfl) ?_ _
          go_wp2_with fail
          go_meet
          case rel => exact ⟨b3, we, cs3, rfl, HS, HZ, Bc⟩
        case rest =>
          obtain ⟨b3, wS, cs3, rfl, HS, HZ, HW3⟩ := hcut
          obtain ⟨w3, hw3⟩ : ∃ w3, w3 = wc := ⟨_, rfl⟩
          rw [← hw3] at HS HW3 ⊢
          clear hw3 ENDE
          obtain ⟨a3, d3, e3, _⟩ := HS.out.hi 0 (by omega) (by omega)
          have g3 := Lib.hid ((HS.out.cell 0).trans e3)
          obtain ⟨an, dn, en, rn⟩ := HS.out.hi n (by omega) (by omega)
          have gn := Lib.hid ((HS.out.cell n).trans en)
          have RN := Lib.hid rn
          clear e3 en rn
          go_wp2_with fail
          refine (isEmpty_any b3 (n + 1) (n + 1) (shL l2 n (n - 0)).length d3 a3 w3 (by omega) g3.out).mono ?_
          rintro e w4 ⟨rfl, hbl⟩
          have W4 := Lib.hid (below_on HW3.out hbl)
          have W34 := Lib.hid hbl
          have B4 := Lib.hid (below_on BW2.out W4.out)
          have EM := Lib.hid (show decide (0 < (shL l2 n (n - 0)).length) = empB l2 n from rfl)
          rw [EM.out]
          obtain ⟨em, hem⟩ : ∃ em, em = empB l2 n := ⟨_, rfl⟩
          rw [← hem]
          rw [if_neg (fun q => q HZ.out), ← hem] at ST2
          obtain ⟨L7, hP7, hC7, hL7⟩ := HP.out
          have PP0 := Lib.hid (hP7.on (below_on B20.out W4.out))
          clear hbl EM hem g3 hP7 HP
          cases em
          case true =>
            have ST3 := Lib.hid (show mnS n a b (t + 1) = mnS n a b t by rw [ST2.out, if_pos rfl])
            have PC := Lib.hid (show PcOk n L7 (mnS n a b (t + 1)).1 by rw [ST3.out]; exact hC7)
            have NE0 := Lib.hid (show (mnS n a b (t + 1)).2 = 0 by rw [ST3.out]; exact HE.out)
            have LL := Lib.hid (show L7.length ≤ t + 1 by omega)
            have PP := PP0
            have HDV := HD
            obtain ⟨VV, hVV⟩ : ∃ VV, VV = u7 := ⟨_, rfl⟩
            rw [← hVV] at PP HDV ⊢
            clear hVV ST2 PP0
            have NX := Lib.hid ((NC.out.kept W4.out).lnAt)
            have O4 := Lib.hid (O2.out.on W4.out)
            have M3 := Lib.hid (Bk.made w4 x GX.out.len).lnAt
            have O5 := Lib.hid (O4.out.on (one_more (w1 := w4) (.cells x.cs 82)))
            have P5 := Lib.hid (PP.out.on (one_more (w1 := w4) (.cells x.cs 82)))
            have B5 := Lib.hid (below_on B4.out (one_more (w1 := w4) (.cells x.cs 82)))
            have z5 : w0.heap.size ≤ (w4.alloc (.cells x.cs 82)).heap.size := B5.out.size
            go_wp2_with (first | refine wpl_loadP rfl _ rfl _ rfl x NX.out ?_ | refine wpl_bs1 rfl _ rfl x rfl GX.out.len ?_ | (at_builtin; refine wpl_appL rfl _ _ rfl w0.heap.size _ _ x rfl O5.out _ _ rfl M3.out (by have := RL.out; omega) z5 ?_))
            intro v' w6 o6 g6 f6
            have O6' := Lib.hid (show OwnL w6 w0.heap.size v' (a ++ b.take (t + 1)) by rw [R2.out]; exact o6)
            have P6 := Lib.hid (P5.out.other g6 (fun k hk => HDV.out k hk) (by rw [World.size_alloc]; exact f6))
            have B6 := Lib.hid (Below.grown B5.out g6 z5 (fun k hk => (World.ownsRow.lt O5.out.1 k hk).1))
            have D6 := Lib.hid (show ∀ k, VV.ownBlock = some k → v'.ownBlock ≠ some k from fun k hk => by
              rcases f6 with e | e
              · rw [e]; exact HDV.out k hk
              · rw [e]; intro q; injection q with q; have := (PP.out.lt k hk).2; have : w4.heap.size < (w4.alloc (.cells x.cs 82)).heap.size := by simp
                omega)
            clear o6 g6 f6
            go_wp2_with fail
            go_roundw
            case rel => exact ⟨t + 1, by go_num, by omega, Lib.hid ⟨_, P6.out, PC.out, LL.out⟩, O6', NE0, B6, D6⟩
            case measure => simp [intOf]; omega
          case false =>
            have ST3 := Lib.hid (show mnS n a b (t + 1) = ((mnS n a b t).1 ++ [tidyL l2], 0) by rw [ST2.out, if_neg (by decide)])
            rw [Nat.sub_self] at gn RN
            have RT := Lib.hid (show RdL w4 an (tidyL l2) from RN.out.on W34.out)
            have c3 := X2.out.cell
            have c3 := kept W4.out c3
            have gt : w4.cell? ⟨b3, n, none⟩ = some (.slice an (tidyL l2).length dn) := kept W34.out gn.out
            have hn1 : (n : Int) < ((n + 1 : Nat) : Int) := by omega
            have hn2 : (n : Int) < (n : Int) + 1 := by omega
            have CHS := Lib.hid (show Chooses (.func (.func 114) #[] #[.pointer (some ⟨w.heap.size, 0, none⟩)]) w4 (fun a => a.take n) from
              ⟨_, _, rfl, chM_enters, fun W hW g cap a ha ho => chM_any n g cap w.heap.size a w4.heap.size W ha (by omega) ho (kept hW c3)⟩)
            have TR := Lib.hid (tidyL_rg (m := 2147483647) (by omega) RG2.out)
            have TLN := Lib.hid (tidyL_len L22.out (by omega))
            have LS := Lib.hid (lists_any (tidyL l2) an dn _ _ w4 (by have := TLN.out; omega) RT.out (fun y hy => (TR.out y hy).len) CHS.out)
            obtain ⟨kt, hkt⟩ : ∃ kt, kt = (tidyL l2).length := ⟨_, rfl⟩
            rw [← hkt] at LS gt
            have KT := Lib.hid hkt
            clear hkt CHS RT RN gn TR
            go_wp2_with fail
            refine LS.out.mono ?_
            rintro e w5 ⟨b9, L9, rfl, hic, hrv, hb9, hbl⟩
            have LEN : kt = L9.length := by
              have := congrArg List.length hic
              rw [List.length_map, List.length_map] at this
              rw [KT.out, this]
            rw [LEN]
            have W5 := Lib.hid (below_on W4.out hbl)
            have W45 := Lib.hid hbl
            have B5' := Lib.hid (below_on B4.out hbl)
            have RV := Lib.hid hrv
            have IC := Lib.hid (tk_ch hic)
            have HB9 := Lib.hid hb9
            obtain ⟨pp, hpp⟩ : ∃ pp : LsV, pp = ⟨some ⟨b9, 0, none⟩, L9.length, L9⟩ := ⟨_, rfl⟩
            have PV : pp.val = .slice (some ⟨b9, 0, none⟩) L9.length L9.length := by rw [hpp]; rfl
            have OB := one_more (w1 := w5) (.cells #[pp.val] 22)
            have CC := Lib.hid (show (w5.alloc (.cells #[pp.val] 22)).cell? ⟨w5.heap.size, 0, none⟩ = some pp.val by rw [cell_of_row _ _ 0 _ _ _ (heap_alloc_last w5 _)]; rfl)
            have PPa := Lib.hid ((PP0.out.on W45.out).on OB)
            have OA := Lib.hid (((O2.out.on W5.out)).on OB)
            have STY := Lib.hid (show Stays w0.heap.size (w5.alloc (.cells #[pp.val] 22)) u7.ownBlock (Value.ownBlock (.slice a8 k c8)) (fun x => RdV x pp.q pp.l) by
              rw [show pp.q = some ⟨b9, 0, none⟩ by rw [hpp], show pp.l = L9 by rw [hpp]]
              exact rowV_stays (RV.out.on OB) (fun k hk => by have := (PP0.out.lt k hk).2; have := HB9.out; omega) (fun k hk => by have := (O2.out.lt k hk); have := W4.out.size; have := HB9.out; omega) (by have := B4.out.size; have := HB9.out; omega))
            have z5 : w0.heap.size ≤ (w5.alloc (.cells #[pp.val] 22)).heap.size := (below_on B5'.out OB).size
            have NXa := Lib.hid ((NC.out.kept W5.out).kept OB)
            have RB := run_bl1 pp w5
            rw [← PV]
            have HPP := Lib.hid hpp
            clear hpp
            clear hic hrv hb9 hbl LS c3 gt PV
            go_wp2_with (first | refine wp_bl1 rfl _ rfl pp rfl RB ?_ | (at_builtin; refine wpl_appP rfl _ _ rfl w0.heap.size u7 (Value.ownBlock (.slice a8 k c8)) L7 pp rfl PPa.out _ _ rfl CC.out STY.out (by omega) z5 ?_))
            intro v7' w6 o6 g6 f6
            have HZ5 := Lib.hid (show ∀ k, u7.ownBlock = some k → k < w5.heap.size from fun k hk => (PP0.out.on W45.out |>.lt k hk).2)
            have OT := Lib.hid (OA.out.other g6 (fun k hk q => HD.out k q hk))
            have B6' := Lib.hid (Below.grown (below_on B5'.out OB) g6 z5 (fun k hk => (PPa.out.lt k hk).1))
            have QN := Lib.hid (show ∀ k, u7.ownBlock = some k → k ≠ q from fun k hk => by have := (HPW.out k hk); have := HQW.out; omega)
            have NX6 := Lib.hid (show Bk w6 q x from ⟨(g6.block q NXa.out.lt (fun e => QN.out q e.symm rfl)).trans NXa.out.1, NXa.out.2⟩)
            have D7 := Lib.hid (show ∀ kk, v7'.ownBlock = some kk → (Value.ownBlock (.slice a8 k c8)) ≠ some kk from fun kk hk => by
              rcases f6 with e | e
              · rw [e] at hk; exact HD.out kk hk
              · rw [e] at hk; intro q2; have := OA.out.lt kk q2; have hs9 : (w5.alloc (.cells #[pp.val] 22)).heap.size = w5.heap.size + 1 := by simp
                injection hk with hk; omega)
            have NX := Lib.hid NX6.out.lnAt
            have O4 := OT
            have PP := Lib.hid o6
            have NE0 := Lib.hid (show (mnS n a b (t + 1)).2 = 0 by rw [ST3.out])
            have PC := Lib.hid (show PcOk n (L7 ++ [pp]) (mnS n a b (t + 1)).1 by
              unfold PcOk at hC7 ⊢
              rw [ST3.out, List.map_append, List.map_append, hC7]
              show _ ++ [pp.l.map lnV] = _ ++ [(tidyL l2).map (tk n)]
              rw [show pp.l = L9 by rw [HPP.out], IC.out])
            have LL := Lib.hid (show (L7 ++ [pp]).length ≤ t + 1 by simp; omega)
            have HDV := D7
            obtain ⟨VV, hVV⟩ : ∃ VV, VV = v7' := ⟨_, rfl⟩
            rw [← hVV] at PP HDV ⊢
            clear hVV ST2 PP0 o6 g6 f6 RB
            have M3 := Lib.hid (Bk.made w6 x GX.out.len).lnAt
            have O5 := Lib.hid (O4.out.on (one_more (w1 := w6) (.cells x.cs 82)))
            have P5 := Lib.hid (PP.out.on (one_more (w1 := w6) (.cells x.cs 82)))
            have B5 := Lib.hid (below_on B6'.out (one_more (w1 := w6) (.cells x.cs 82)))
            have z5 : w0.heap.size ≤ (w6.alloc (.cells x.cs 82)).heap.size := B5.out.size
            go_wp2_with (first | refine wpl_loadP rfl _ rfl _ rfl x NX.out ?_ | refine wpl_bs1 rfl _ rfl x rfl GX.out.len ?_ | (at_builtin; refine wpl_appL rfl _ _ rfl w0.heap.size _ _ x rfl O5.out _ _ rfl M3.out (by have := RL.out; omega) z5 ?_))
            intro v' w9 o9 g9 f9
            have O9' := Lib.hid (show OwnL w9 w0.heap.size v' (a ++ b.take (t + 1)) by rw [R2.out]; exact o9)
            have P9 := Lib.hid (P5.out.other g9 (fun k hk => HDV.out k hk) (by rw [World.size_alloc]; exact f9))
            have B9 := Lib.hid (Below.grown B5.out g9 z5 (fun k hk => (World.ownsRow.lt O5.out.1 k hk).1))
            have D9 := Lib.hid (show ∀ k, VV.ownBlock = some k → v'.ownBlock ≠ some k from fun k hk => by
              rcases f9 with e | e
              · rw [e]; exact HDV.out k hk
              · rw [e]; intro q; injection q with q; have := (PP.out.lt k hk).2; have : w6.heap.size < (w6.alloc (.cells x.cs 82)).heap.size := by simp
                omega)
            clear o9 g9 f9
            go_wp2_with fail
            go_roundw
            case rel => exact ⟨t + 1, by go_num, by omega, Lib.hid ⟨_, P9.out, PC.out, LL.out⟩, O9', NE0, B9, D9⟩
            case measure => simp [intOf]; omega
    · have e9 : t = m := by omega
      obtain ⟨L7, hP7, hC7, _⟩ := HP.out
      have PF := Lib.hid (show OwnP wo w.heap.size u7 none L7 from ⟨⟨hP7.row.1, hP7.row.2.imp id fun ⟨g, cap, cur, h1, h2, h3⟩ => ⟨g, cap, cur, h1, Nat.le_trans E0.out.size h2, h3⟩⟩, fun p hp x hx => hP7.stay p hp x ⟨hx.os, hx.tape, hx.output, hx.size, fun k hb hk h1 _ => hx.block k (Nat.le_trans E0.out.size hb) hk h1 (by simp)⟩⟩)
      have PC := Lib.hid (show PcOk n L7 (mnS n a b m).1 by rw [← e9]; exact hC7)
      have NE := Lib.hid (show (mnS n a b m).2 = 0 by rw [← e9]; exact HE.out)
      clear hP7 hC7 e9
      go_wp2_with fail
      go_ret
      exact ⟨below_on E0.out HW.out, Or.inl ⟨NE.out, _, _, rfl, PF.out, PC.out⟩⟩
end Go.Proofs.YtbhaoaobhgilkaaGreat
