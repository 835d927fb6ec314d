/- The contract of package poly's Least. -/
import Derived.Test.YtbhaoaobhgilkaaGreatWm3
import Derived.Test.YtbhaoaobhgilkaaGreatWm25

namespace Go.Proofs.YtbhaoaobhgilkaaGreat
open Go.RowKit Go.Sort Go.Shelf

set_option maxRecDepth 20000 in
theorem catchE_panic (b : Nat) (er : Int) (x : Value) (w : World) (hc : Bx1 w b x 32) (hx : w.cell? ⟨b, 0, none⟩ = some x) :
    CallsD Tryz.prog 115 #[.pointer (some ⟨b, 0, none⟩)] (.panicking (pan er)) w fun e u' w' =>
      e = .returned (.tuple #[]) ∧ u' = .panicking [{ v := .iface 32 (.int .i64 er), recovered := true }] ∧ w' = w.setCell ⟨b, 0, none⟩ (.int .i64 er) := by
  have hz := hc.free
  have hta : ∀ w : World, (Instr.typeAssert (.iface 32 (.int .i64 er)) 20 32 false).run Tryz.prog w = .ok (.int .i64 er) w := fun _ => by kernel_rfl
  unfold pan
  refine callsD_of_wpS Tryz.func115 rfl fun c₀ cs hu => ?_
  apply wpS_seq
  apply wpS_region
  simp [wpOpsS, go_sem, recoverD, hu, Tryz.ntmps115, Exit.thenS]
  refine wpS_of_wp ?_
  show Code.wp _ _ _ { tmps := #[.pointer (some ⟨b, 0, none⟩), .iface 32 (.int .i64 er), .iface 32 (.int .i64 er), undef, undef, undef, undef], defers := [] } _
  go_wp2
  cases c₀
  simp_all [bodyPostS, results, Tryz.results115]

set_option maxRecDepth 20000 in
theorem catchE_idle (b : Nat) (w : World) :
    CallsD Tryz.prog 115 #[.pointer (some ⟨b, 0, none⟩)] .returning w fun e u' w' => e = .returned (.tuple #[]) ∧ u' = .returning ∧ w' = w := by
  refine callsD_of_wpS Tryz.func115 rfl fun c₀ cs hu => ?_
  apply wpS_seq
  apply wpS_region
  simp [wpOpsS, go_sem, recoverD, hu, Tryz.ntmps115, Exit.thenS]
  refine wpS_of_wp ?_
  show Code.wp _ _ _ { tmps := #[.pointer (some ⟨b, 0, none⟩), .nilIface, .nilIface, undef, undef, undef, undef], defers := [] } _
  go_wp2
  cases c₀
  simp_all [bodyPostS, results, Tryz.results115]

theorem results_ee {fn : Func} {p q : Tmp} (h : fn.results = #[.cell p 105, .cell q 32]) (tmps : Array Value) {w : World} {b c : Nat} {x : En} {er : Int}
    (hp : tmps.getD p undef = .pointer (some ⟨b, 0, none⟩)) (hq : tmps.getD q undef = .pointer (some ⟨c, 0, none⟩)) (hx : EnB w b x) (hy : w.cell? ⟨c, 0, none⟩ = some (.int .i64 er)) : (results fn tmps).run Tryz.prog w = .ok (.tuple #[.agg x.cs, .int .i64 er]) w := by
  have hp' : tmps[p]?.getD undef = .pointer (some ⟨b, 0, none⟩) := by simpa using hp
  have hq' : tmps[q]?.getD undef = .pointer (some ⟨c, 0, none⟩) := by simpa using hq
  obtain ⟨a0, a1, a2, a3⟩ := hx.facts
  simp [results, h, hp', hq', go_sem, a0, a1, a2, a3, hy, En.cs, En.cells]

set_option maxRecDepth 100000 in
set_option maxHeartbeats 4000000 in
theorem answerE_any (g : FuncId) (lb : Array Value) (n : Int) (go : Option Addr) (gc : Nat) (G : List (List AV)) (er : Int) (x : En) (w : World) (hgl : G.length ≤ 1000) (hG : RdG w go G)
    (eg : ∀ args w, (callFunc g args).run Tryz.prog w = .ok (.enter g args) w)
    (hw : (∀ L ∈ G, chkP n L = 0) → ∀ W, Below w.heap.size w W → Calls Tryz.prog g lb W fun e W' => (er = 0 ∧ e = .returned (.agg x.cs) ∧ Below W.heap.size W W') ∨ (er ≠ 0 ∧ e = .panicked (pan er) ∧ Below W.heap.size W W')) :
    Calls Tryz.prog 79 #[.func (.func g) #[] lb, .int .i64 n, .slice go G.length gc] w (fun e w' => Below w.heap.size w w' ∧ e = .returned (.tuple #[.agg (if ansE n G er = 0 then x else en0).cs, .int .i64 (ansE n G er)])) := by
  have hmf : ∀ (fn : Fn) (first cap : Array Value) (w : World), (Instr.makeFunc fn first cap).run Tryz.prog w = .ok (.func fn first cap) w := fun _ _ _ _ => rfl
  have HG := Lib.hid hG
  have HW := Lib.hid hw
  obtain ⟨Y, hY⟩ : ∃ Y, Y = (if ansE n G er = 0 then x else en0) := ⟨_, rfl⟩
  have YY := Lib.hid hY
  rw [← hY]
  clear hY
  obtain ⟨m, hm⟩ : ∃ m, m = G.length := ⟨_, rfl⟩
  have HM := Lib.hid hm
  have hle : m ≤ 1000 := by omega
  rw [← hm]
  obtain ⟨w0, hw0⟩ : ∃ w0, w0 = (w.alloc (.cells #[.int .i64 0, .int .i64 0, .bool false, .bool false] 105)).alloc (.cells #[.int .i64 0] 32) := ⟨_, rfl⟩
  have E0 := Lib.hid (show Below w.heap.size w w0 by rw [hw0]; exact past_two (Below.refl _ _))
  have Y0 := Lib.hid (show EnB w0 w.heap.size en0 by rw [hw0]; exact (EnB.made w en0).kept (one_more _))
  have X0 := Lib.hid (show Bx1 w0 (w.heap.size + 1) (.int .i64 0) 32 by rw [hw0]; have := Bx1.made (w.alloc (.cells #[.int .i64 0, .int .i64 0, .bool false, .bool false] 105)) (.int .i64 0) 32; simpa using this)
  obtain ⟨q, hq⟩ : ∃ q, q = w.heap.size := ⟨_, rfl⟩
  have HQ := Lib.hid hq
  clear hgl hG hw hm
  go_enter_defers Tryz.func79, Tryz.ntmps79
  go_upto_region 2 with (fail)
  rw [← hw0]
  rw [← hq] at X0 Y0 ⊢
  clear hw0 hq
  go_wp2_with fail
  go_loopw [14] (fun s wr => ∃ t : Nat, s = .int .i64 t ∧ t ≤ m ∧ Hid (∀ i, ∀ q : i < G.length, i < t → chkP n G[i] = 0) ∧ Hid (Below w.heap.size w wr) ∧ Hid (Bx1 wr (q + 1) (.int .i64 0) 32) ∧ Hid (EnB wr q en0)) (fun s _ => m - (intOf s).toNat)
  case atStart => exact ⟨0, rfl, by omega, Lib.hid (fun i q h => by omega), E0, X0, Y0⟩
  case round =>
    obtain ⟨t, rfl, ht, HF, HBB, HX, HY⟩ := hrel
    by_cases htm : t < m
    · have hlt : t < G.length := by have := HM.out; omega
      obtain ⟨p, a, c, e, f0, r0⟩ := (HG.out.on HBB.out) t hlt
      have HL := Lib.hid hlt
      obtain ⟨L, hL⟩ : ∃ L, L = G[t] := ⟨_, rfl⟩
      have f : wr.cell? (p.add t) = some (.slice a L.length c) := by rw [hL]; exact f0
      have r : RdV wr a L := by rw [hL]; exact r0
      have CK := Lib.hid (check_any n L a c wr r)
      obtain ⟨k, hk⟩ : ∃ k, k = L.length := ⟨_, rfl⟩
      obtain ⟨z, hz⟩ : ∃ z, z = chkP n L := ⟨_, rfl⟩
      have HZ := Lib.hid (show z = chkP n G[t] by rw [hz, hL])
      rw [← hk, ← hz] at CK
      rw [← hk] at f
      clear r hk hz f0 r0 hL hlt
      subst e
      go_wp2_with fail
      refine CK.out.mono ?_
      rintro e w1 ⟨rfl, hb1⟩
      have B1 := Lib.hid (below_on HBB.out hb1)
      have X1 := Lib.hid (HX.out.kept hb1)
      have Y1 := Lib.hid (HY.out.kept hb1)
      clear hb1 f
      by_cases hz0 : z = 0
      · have HF' := Lib.hid (show ∀ i, ∀ q : i < G.length, i < t + 1 → chkP n G[i] = 0 from fun i q h => by
          by_cases e : i = t
          · subst e; exact HZ.out.symm.trans hz0
          · exact HF.out i q (by omega))
        clear HZ
        subst hz0
        go_wp2_with fail
        go_roundw
        case rel => exact ⟨t + 1, by go_num, by omega, HF', B1, X1, Y1⟩
        case measure => simp [intOf]; omega
      · have AE := Lib.hid (show ansE n G er = z from (ansE_at HL.out HF.out (fun h => hz0 (HZ.out.trans h))).trans HZ.out.symm)
        have Y2 := Lib.hid (Y1.out.setRow (y := en0))
        have X2 := Lib.hid (show Bx1 (w1.setRow q en0.cs) (q + 1) (.int .i64 0) 32 from X1.out.of_block (setRow_other w1 q (q + 1) en0.cs (by omega)))
        have B2 := Lib.hid (Below.setRow B1.out (b := q) (by have := HQ.out; omega) en0.cs)
        have x1 := X2.out.cell
        have x2 := X2.out.free
        have X3 := Lib.hid (X2.out.put (.int .i64 z))
        have Y3 := Lib.hid (Y2.out.aside (y := q + 1) (j := 0) (by omega) (.int .i64 z))
        have B3 := Lib.hid (B2.out.setCell (p := ⟨q + 1, 0, none⟩) (by have := HQ.out; show w.heap.size ≤ q + 1; omega) (.int .i64 z))
        have HZ0 := Lib.hid hz0
        go_wp2_with (first | refine wpList_load_row rfl _ _ rfl q rfl _ en0.cs (0, 0) _ Y1.out Tryz.underlying105 rfl zero_en ?_ | refine wpList_store_row rfl _ _ _ rfl q en0.cs rfl rfl _ _ Y1.out zero_en rfl (En.one _) ?_)
        refine leaves_cons (f := 115) (args := #[.pointer (some ⟨q + 1, 0, none⟩)]) (by simp) (by simp [go_sem]) ?_
        refine (catchE_idle (q + 1) _).mono ?_
        rintro e u' w'' ⟨rfl, rfl, rfl⟩
        refine ⟨.tuple #[.agg en0.cs, .int .i64 z], results_ee Tryz.results79 _ rfl rfl Y3.out X3.out.cell, B3.out, by rw [YY.out, AE.out, if_neg HZ0.out]⟩
    · have HA := Lib.hid (show ∀ L ∈ G, chkP n L = 0 from fun L hL => by
        obtain ⟨i, hi, rfl⟩ := List.getElem_of_mem hL
        exact HF.out i hi (by have := HM.out; omega))
      have AE := Lib.hid (show ansE n G er = er from ansE_none HA.out)
      have WK := Lib.hid (HW.out HA.out wr HBB.out)
      go_wp2_with fail
      refine WK.out.mono ?_
      rintro e w2 (⟨he, rfl, hb2⟩ | ⟨he, rfl, hb2⟩)
      · have B1 := Lib.hid (below_on HBB.out hb2)
        have X1 := Lib.hid (HX.out.kept hb2)
        have Y1 := Lib.hid (HY.out.kept hb2)
        have Y2 := Lib.hid (Y1.out.setRow (y := x))
        have X2 := Lib.hid (show Bx1 (w2.setRow q x.cs) (q + 1) (.int .i64 0) 32 from X1.out.of_block (setRow_other w2 q (q + 1) x.cs (by omega)))
        have B2 := Lib.hid (Below.setRow B1.out (b := q) (by have := HQ.out; omega) x.cs)
        have x1 := X2.out.cell
        have x2 := X2.out.free
        have X3 := Lib.hid (X2.out.put (.int .i64 0))
        have Y3 := Lib.hid (Y2.out.aside (y := q + 1) (j := 0) (by omega) (.int .i64 0))
        have B3 := Lib.hid (B2.out.setCell (p := ⟨q + 1, 0, none⟩) (by have := HQ.out; show w.heap.size ≤ q + 1; omega) (.int .i64 0))
        have HE := Lib.hid he
        clear hb2 he
        go_wp2_with (first | refine wpList_load_row rfl _ _ rfl q rfl _ en0.cs (0, 0) _ Y1.out Tryz.underlying105 rfl zero_en ?_ | refine wpList_store_row rfl _ _ _ rfl q x.cs rfl rfl _ _ Y1.out zero_en rfl (En.one _) ?_)
        refine leaves_cons (f := 115) (args := #[.pointer (some ⟨q + 1, 0, none⟩)]) (by simp) (by simp [go_sem]) ?_
        refine (catchE_idle (q + 1) _).mono ?_
        rintro e u' w'' ⟨rfl, rfl, rfl⟩
        refine ⟨.tuple #[.agg x.cs, .int .i64 0], results_ee Tryz.results79 _ rfl rfl Y3.out X3.out.cell, B3.out, by rw [YY.out, AE.out, if_pos HE.out, HE.out]⟩
      · have B1 := Lib.hid (below_on HBB.out hb2)
        have X1 := Lib.hid (HX.out.kept hb2)
        have Y1 := Lib.hid (HY.out.kept hb2)
        have X3 := Lib.hid (X1.out.put (.int .i64 er))
        have Y3 := Lib.hid (Y1.out.aside (y := q + 1) (j := 0) (by omega) (.int .i64 er))
        have B3 := Lib.hid (B1.out.setCell (p := ⟨q + 1, 0, none⟩) (by have := HQ.out; show w.heap.size ≤ q + 1; omega) (.int .i64 er))
        have HE := Lib.hid he
        clear hb2 he
        go_wp2_with fail
        refine leaves_cons (f := 115) (args := #[.pointer (some ⟨q + 1, 0, none⟩)]) (by simp) (by simp [go_sem]) ?_
        refine (catchE_panic (q + 1) er _ _ X1.out X1.out.cell).mono ?_
        rintro e u' w'' ⟨rfl, rfl, rfl⟩
        refine ⟨.tuple #[.agg en0.cs, .int .i64 er], results_ee Tryz.results79 _ rfl rfl Y3.out X3.out.cell, B3.out, by rw [YY.out, AE.out, if_neg HE.out]⟩

def lsE (n : Nat) (L : List AV) (a : List Int) : Int := if a.length = n ∧ a.all fitB = true then infE (L.map ofV) n a else 2

set_option maxRecDepth 100000 in
set_option maxHeartbeats 4000000 in
theorem least1_any (n : Nat) (L : List AV) (a : List Int) (ao qo : Option Addr) (cap qc pa pn pl : Nat) (w : World) (hc : chkP n L = 0) (hR : RdV w ao L) (hA : Rd1 w qo a) (hal : a.length ≤ 1000000) (c0 : w.cell? ⟨pn, 0, none⟩ = some (.int .i64 n)) (c1 : w.cell? ⟨pl, 0, none⟩ = some (.slice ao L.length cap)) (c2 : w.cell? ⟨pa, 0, none⟩ = some (.slice qo a.length qc)) :
    Calls Tryz.prog 80 #[.pointer (some ⟨pa, 0, none⟩), .pointer (some ⟨pn, 0, none⟩), .pointer (some ⟨pl, 0, none⟩)] w fun e W' =>
      (lsE n L a = 0 ∧ e = .returned (.agg (infN (L.map ofV) n a).1.1.cs) ∧ Below w.heap.size w W') ∨ (lsE n L a ≠ 0 ∧ e = .panicked (pan (lsE n L a)) ∧ Below w.heap.size w W') := by
  obtain ⟨⟨_, hn⟩, hl, hv⟩ := chk_valid hc
  have FT := Lib.hid (fun W (h : Below w.heap.size w W) => fit_any a qo qc W hal (hA.on h))
  have FI := Lib.hid (fun W pb (h : Below w.heap.size w W) (ha : a.length ≤ 6) (haB : ∀ v ∈ a, -2147483647 ≤ v ∧ v ≤ 2147483647) (hR : RdL W (some ⟨pb, 0, none⟩) (L.map ofV)) => infimum_any (L.map ofV) pb n a qo qc W (by omega) ha haB (by simp; omega) (fun x hx => by
    obtain ⟨y, hy, rfl⟩ := List.mem_map.1 hx
    exact ofV_rg (n := n) (by omega) (hv y hy)) hR (hA.on h))
  have LI := Lib.hid (fun W (h : Below w.heap.size w W) => lines_row L ao cap W (by omega) (hR.on h) (fun y hy => by have := valid_len (hv y hy); omega))
  obtain ⟨k, hk⟩ : ∃ k, k = (L.map ofV).length := ⟨_, rfl⟩
  have hk2 : k = L.length := by rw [hk]; simp
  rw [← hk] at FI LI
  rw [← hk2] at LI c1
  obtain ⟨m, hm⟩ : ∃ m, m = a.length := ⟨_, rfl⟩
  have n5 := Lib.hid hn
  have ML := Lib.hid hm
  rw [← hm] at FT c2
  have LE := Lib.hid (show lsE n L a = if m = n ∧ a.all fitB = true then infE (L.map ofV) n a else 2 by unfold lsE; rw [hm])
  generalize lsE n L a = ER at *
  generalize L.map ofV = l at *
  have AB := Lib.hid (show a.all fitB = true → ∀ v ∈ a, -2147483647 ≤ v ∧ v ≤ 2147483647 from fun h v hv => by have := List.all_eq_true.1 h v hv; unfold fitB at this; simpa using this)
  have C0 := Lib.hid c0
  have C1 := Lib.hid c1
  have C2 := Lib.hid c2
  obtain ⟨w0, hw0⟩ : ∃ w0, w0 = w.alloc (.cells #[.int .i64 0, .int .i64 0, .bool false, .bool false] 105) := ⟨_, rfl⟩
  have E0 := Lib.hid (show Below w.heap.size w w0 by rw [hw0]; exact one_more _)
  have X0 := Lib.hid (show EnB w0 w.heap.size en0 by rw [hw0]; exact EnB.made w en0)
  have d0 := kept E0.out c0
  have d1 := kept E0.out c1
  have d2 := kept E0.out c2
  clear hc hR hA hal hl hv hk hk2 hm hn c0 c1 c2
  by_cases hmn : m = n
  · have mn : ((m : Int) == (n : Int)) = true := beq_iff_eq.2 (by omega)
    have MN := Lib.hid hmn
    clear hmn
    go_enter Tryz.func80, Tryz.ntmps80
    go_upto_region 1 with (fail)
    rw [← hw0]
    clear hw0
    go_wp2_with fail
    refine (FT.out w0 E0.out).mono ?_
    rintro e w1 ⟨rfl, hb⟩
    have B1 := Lib.hid (below_on E0.out hb)
    have X1 := Lib.hid (X0.out.kept hb)
    clear hb d0 d1 d2
    cases hfa : a.all fitB
    · have LF := Lib.hid (show ER = 2 by rw [LE.out, hfa]; simp)
      go_wp2_with fail
      refine (demand_any false w1).mono ?_
      rintro e w2 ⟨rfl, rfl⟩
      go_wp2_with fail
      exact And.intro rfl (Or.inr ⟨by rw [LF.out]; decide, by rw [LF.out], B1.out⟩)
    · have LF := Lib.hid (show ER = infE l n a by rw [LE.out, if_pos ⟨MN.out, hfa⟩])
      have AB2 := Lib.hid (AB.out hfa)
      clear hfa LE
      go_wp2_with fail
      refine (demand_any true w1).mono ?_
      rintro e w2 ⟨rfl, rfl⟩
      go_upto_region 2 with (fail)
      have KS := Lib.hid (show ∀ W, Below w2.heap.size w2 W → (W.cell? ⟨pn, 0, none⟩ = some (.int .i64 n) ∧ W.cell? ⟨pl, 0, none⟩ = some (.slice ao k cap) ∧ W.cell? ⟨pa, 0, none⟩ = some (.slice qo m qc)) from fun W h => ⟨kept h (kept B1.out C0.out), kept h (kept B1.out C1.out), kept h (kept B1.out C2.out)⟩)
      obtain ⟨wc, hwc⟩ : ∃ wc, wc = w2.drew := ⟨_, rfl⟩
      have Bc := Lib.hid (show Below w2.heap.size w2 wc by rw [hwc]; exact (Below.refl _ _).drew)
      have FI := Lib.hid (show _ from FI.out)
      rw [← ML.out] at FI
      refine wp_region_held_drew (S := (fun W => (W.cell? ⟨pn, 0, none⟩ = some (.int .i64 n) ∧ W.cell? ⟨pl, 0, none⟩ = some (.slice ao k cap) ∧ W.cell? ⟨pa, 0, none⟩ = some (.slice qo m qc)))) (by kernel_rfl) (by rw [← hwc]; exact KS.out _ Bc.out) (fun h0 => ?_)
      rw [← hwc] at h0 ⊢
      clear hwc
      refine tkH (i := 0) (v := ?v1) rfl (Or.inl ⟨by rfl, ?hy1⟩) h0 ?rest1
      case hy1 => (intro w' hS; (try dsimp only at hS); go_simp; try (with_reducible rfl))
      simp only [Act.put, sA, sB, sD, sE, sF]
      refine tkH (i := 1) (v := ?v2) rfl (Or.inl ⟨by rfl, ?hy2⟩) h0 ?rest2
      case hy2 => (intro w' hS; (try dsimp only at hS); go_simp; try (with_reducible rfl))
      simp only [Act.put, sZ]
      refine tkH (i := 3) (v := ?v3) rfl (Or.inl ⟨by rfl, ?hy3⟩) h0 ?rest3
      case hy3 => (intro w' hS; (try dsimp only at hS); go_simp; try (with_reducible rfl))
      simp only [Act.put, sZ]
      refine wpAnyH_ready (rs := [2]) (by kernel_rfl) (by simp) (AllReadyH.cons rfl (fun K hK => ?_) AllReadyH.nil)
      rw [if_pos (by rfl)]
      go_simp
      refine (LI.out wc (below_on B1.out Bc.out)).mono ?_
      rintro e wc ⟨b2, rfl, hr, _, hb⟩
      have R2 := Lib.hid hr.rd
      have Bc := Lib.hid (below_on Bc.out hb)
      clear hr hb
      go_simp
      refine hK.out _ _ (KS.out _ Bc.out) (fun h0_1 => ?_)
      clear hK K h0
      refine wpAnyH_ready (rs := [4]) (by kernel_rfl) (by simp) (AllReadyH.cons rfl (fun K hK => ?_) AllReadyH.nil)
      rw [if_pos (by rfl)]
      go_simp
      refine (FI.out wc b2 (below_on B1.out Bc.out) (by have := MN.out; have := n5.out; have := ML.out; omega) AB2.out R2.out).mono ?_
      rintro e wc ⟨hb, (⟨he, rfl⟩ | ⟨he, rfl⟩)⟩
      rotate_left
      · exact And.intro rfl (Or.inr ⟨by rw [LF.out]; exact he, by rw [LF.out], below_on B1.out (below_on Bc.out hb)⟩)
      have Bc := Lib.hid (below_on Bc.out hb)
      have HE := Lib.hid he
      clear hb he
      go_simp
      refine hK.out _ _ (KS.out _ Bc.out) (fun h0_2 => ?_)
      clear hK K h0_1
      refine wpAnyH_ready (rs := [5]) (by kernel_rfl) (by simp) (AllReadyH.cons rfl (fun K hK => ?_) AllReadyH.nil)
      rw [if_pos (by rfl)]
      have X2 := Lib.hid (X1.out.kept Bc.out)
      refine wp_store_row _ _ _ rfl w.heap.size (infN l n a).1.1.cs rfl rfl _ _ X2.out (by exact zero_en) rfl (En.one _) ?_
      refine hK.out _ _ (⟨row_aside (KS.out _ Bc.out).1 (by have := World.block_lt_of_cell? w _ C0.out; simp only at this; show pn ≠ w.heap.size; omega) _, row_aside (KS.out _ Bc.out).2.1 (by have := World.block_lt_of_cell? w _ C1.out; simp only at this; show pl ≠ w.heap.size; omega) _, row_aside (KS.out _ Bc.out).2.2 (by have := World.block_lt_of_cell? w _ C2.out; simp only at this; show pa ≠ w.heap.size; omega) _⟩) (fun h0_3 => ?_)
      clear hK K h0_2
      try simp only [sF]
      try simp only [sE]
      refine wpAnyH_done (by kernel_rfl) ?_ _
      go_wp2_with fail
      exact bodyPost_ret (results_en Tryz.results80 _ rfl (X2.out.setRow (y := (infN l n a).1.1))) rfl (Or.inl ⟨by rw [LF.out]; exact HE.out, rfl, Below.setRow (below_on B1.out Bc.out) (Nat.le_refl _) _⟩)
  · have mn : ((m : Int) == (n : Int)) = false := by rw [beq_eq_false_iff_ne]; omega
    have LF := Lib.hid (show ER = 2 by rw [LE.out, if_neg (fun h => hmn h.1)])
    clear hmn
    go_enter Tryz.func80, Tryz.ntmps80
    go_upto_region 1 with (fail)
    rw [← hw0]
    clear hw0
    go_wp2_with fail
    refine (demand_any false w0).mono ?_
    rintro e w2 ⟨rfl, rfl⟩
    go_wp2_with fail
    exact And.intro rfl (Or.inr ⟨by rw [LF.out]; decide, by rw [LF.out], E0.out⟩)
end Go.Proofs.YtbhaoaobhgilkaaGreat
