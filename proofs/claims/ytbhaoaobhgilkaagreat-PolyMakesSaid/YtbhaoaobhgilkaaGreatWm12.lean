/- Contracts of package poly: answer at lists. -/
import Derived.Test.YtbhaoaobhgilkaaGreatWm11

namespace Go.Proofs.YtbhaoaobhgilkaaGreat
open Go.RowKit Go.Sort Go.Shelf

set_option maxRecDepth 20000 in
theorem catchL_panic (b : Nat) (er : Int) (x : Value) (w : World) (hc : Bx1 w b x 32) (hx : w.cell? ⟨b, 0, none⟩ = some x) :
    CallsD Tryz.prog 85 #[.pointer (some ⟨b, 0, none⟩)] (.panicking (pan er)) w fun e u' w' =>
      e = .returned (.tuple #[]) ∧ u' = .panicking [{ v := .iface 32 (.int .i64 er), recovered := true }] ∧ w' = w.setCell ⟨b, 0, none⟩ (.int .i64 er) := by
  have hz := hc.free
  have hta : ∀ w : World, (Instr.typeAssert (.iface 32 (.int .i64 er)) 20 32 false).run Tryz.prog w = .ok (.int .i64 er) w := fun _ => by kernel_rfl
  unfold pan
  refine callsD_of_wpS Tryz.func85 rfl fun c₀ cs hu => ?_
  apply wpS_seq
  apply wpS_region
  simp [wpOpsS, go_sem, recoverD, hu, Tryz.ntmps85, Exit.thenS]
  refine wpS_of_wp ?_
  show Code.wp _ _ _ { tmps := #[.pointer (some ⟨b, 0, none⟩), .iface 32 (.int .i64 er), .iface 32 (.int .i64 er), undef, undef, undef, undef], defers := [] } _
  go_wp2
  cases c₀
  simp_all [bodyPostS, results, Tryz.results85]

set_option maxRecDepth 20000 in
theorem catchL_idle (b : Nat) (w : World) :
    CallsD Tryz.prog 85 #[.pointer (some ⟨b, 0, none⟩)] .returning w fun e u' w' => e = .returned (.tuple #[]) ∧ u' = .returning ∧ w' = w := by
  refine callsD_of_wpS Tryz.func85 rfl fun c₀ cs hu => ?_
  apply wpS_seq
  apply wpS_region
  simp [wpOpsS, go_sem, recoverD, hu, Tryz.ntmps85, Exit.thenS]
  refine wpS_of_wp ?_
  show Code.wp _ _ _ { tmps := #[.pointer (some ⟨b, 0, none⟩), .nilIface, .nilIface, undef, undef, undef, undef], defers := [] } _
  go_wp2
  cases c₀
  simp_all [bodyPostS, results, Tryz.results85]

set_option maxRecDepth 100000 in
set_option maxHeartbeats 4000000 in
theorem answerL_any (g : FuncId) (lb : Array Value) (n : Int) (go : Option Addr) (gc : Nat) (G : List (List AV)) (er : Int) (w : World) (hgl : G.length ≤ 1000) (hG : RdG w go G)
    (eg : ∀ args w, (callFunc g args).run Tryz.prog w = .ok (.enter g args) w) (R : World → Value → World → Prop) (hst : ∀ W v A b y, R W v A → b < W.heap.size → R W v (A.setCell ⟨b, 0, none⟩ y))
    (hw : (∀ L ∈ G, chkP n L = 0) → ∀ W, Below w.heap.size w W → Calls Tryz.prog g lb W fun e W' => (er = 0 ∧ ∃ v, e = .returned v ∧ R W v W' ∧ Below W.heap.size W W') ∨ (er ≠ 0 ∧ e = .panicked (pan er) ∧ Below W.heap.size W W')) :
    Calls Tryz.prog 40 #[.func (.func g) #[] lb, .int .i64 n, .slice go G.length gc] w (AnsRes w n G er (.slice none 0 0) R) := by
  have hmf : ∀ (fn : Fn) (first cap : Array Value) (w : World), (Instr.makeFunc fn first cap).run Tryz.prog w = .ok (.func fn first cap) w := fun _ _ _ _ => rfl
  have HG := Lib.hid hG
  have HST := Lib.hid hst
  have HW := Lib.hid hw
  obtain ⟨m, hm⟩ : ∃ m, m = G.length := ⟨_, rfl⟩
  have HM := Lib.hid hm
  have hle : m ≤ 1000 := by omega
  rw [← hm]
  obtain ⟨w0, hw0⟩ : ∃ w0, w0 = w.alloc (.cells #[.int .i64 0] 32) := ⟨_, rfl⟩
  have E0 := Lib.hid (show Below w.heap.size w w0 by rw [hw0]; exact one_more _)
  have X0 := Lib.hid (show Bx1 w0 w.heap.size (.int .i64 0) 32 by rw [hw0]; exact Bx1.made w _ _)
  obtain ⟨b, hb⟩ : ∃ b, b = w.heap.size := ⟨_, rfl⟩
  have HB := Lib.hid hb
  clear hgl hG hst hw hm
  go_enter_defers Tryz.func40, Tryz.ntmps40
  go_upto_region 2 with (fail)
  rw [← hw0]
  rw [← hb] at X0 ⊢
  clear hw0 hb
  go_wp2_with fail
  go_loopw [6, 14] (fun v6 s wr => ∃ t : Nat, v6 = .slice none 0 0 ∧ s = .int .i64 t ∧ t ≤ m ∧ Hid (∀ i, ∀ q : i < G.length, i < t → chkP n G[i] = 0) ∧ Hid (Below w.heap.size w wr) ∧ Hid (Bx1 wr b (.int .i64 0) 32)) (fun _ s _ => m - (intOf s).toNat)
  case atStart => exact ⟨0, rfl, rfl, by omega, Lib.hid (fun i q h => by omega), E0, X0⟩
  case round =>
    obtain ⟨t, rfl, rfl, ht, HF, HBB, HX⟩ := hrel
    by_cases htm : t < m
    · have hlt : t < G.length := by have := HM.out; omega
      obtain ⟨p, a, c, e, f0, r0⟩ := (HG.out.on HBB.out) t hlt
      have HL := Lib.hid hlt
      obtain ⟨L, hL⟩ : ∃ L, L = G[t] := ⟨_, rfl⟩
      have f : wr.cell? (p.add t) = some (.slice a L.length c) := by rw [hL]; exact f0
      have r : RdV wr a L := by rw [hL]; exact r0
      have CK := Lib.hid (check_any n L a c wr r)
      obtain ⟨k, hk⟩ : ∃ k, k = L.length := ⟨_, rfl⟩
      obtain ⟨z, hz⟩ : ∃ z, z = chkP n L := ⟨_, rfl⟩
      have HZ := Lib.hid (show z = chkP n G[t] by rw [hz, hL])
      rw [← hk, ← hz] at CK
      rw [← hk] at f
      clear r hk hz f0 r0 hL hlt
      subst e
      go_wp2_with fail
      refine CK.out.mono ?_
      rintro e w1 ⟨rfl, hb1⟩
      have B1 := Lib.hid (below_on HBB.out hb1)
      have X1 := Lib.hid (HX.out.kept hb1)
      clear hb1 f
      by_cases hz0 : z = 0
      · have HF' := Lib.hid (show ∀ i, ∀ q : i < G.length, i < t + 1 → chkP n G[i] = 0 from fun i q h => by
          by_cases e : i = t
          · subst e; exact HZ.out.symm.trans hz0
          · exact HF.out i q (by omega))
        clear HZ
        subst hz0
        go_wp2_with fail
        go_roundw
        case rel => exact ⟨t + 1, rfl, by go_num, by omega, HF', B1, X1⟩
        case measure => simp [intOf]; omega
      · have AE := Lib.hid (show ansE n G er = z from (ansE_at HL.out HF.out (fun h => hz0 (HZ.out.trans h))).trans HZ.out.symm)
        have x1 := X1.out.cell
        have x2 := X1.out.free
        have X2 := Lib.hid (X1.out.put (.int .i64 z))
        have B2 := Lib.hid (B1.out.setCell (p := ⟨b, 0, none⟩) (by have := HB.out; show w.heap.size ≤ b; omega) (.int .i64 z))
        go_wp2_with fail
        refine leaves_cons (f := 85) (args := #[.pointer (some ⟨b, 0, none⟩)]) (by simp) (by simp [go_sem]) ?_
        refine (catchL_idle b _).mono ?_
        rintro e u' w'' ⟨rfl, rfl, rfl⟩
        have y1 := X2.out.cell
        refine ⟨.tuple #[.slice none 0 0, .int .i64 z], ?_, B2.out, Or.inr ⟨by rw [AE.out]; exact hz0, by rw [AE.out]⟩⟩
        simp [results, Tryz.results40, go_sem, y1]
    · have HA := Lib.hid (show ∀ L ∈ G, chkP n L = 0 from fun L hL => by
        obtain ⟨i, hi, rfl⟩ := List.getElem_of_mem hL
        exact HF.out i hi (by have := HM.out; omega))
      have AE := Lib.hid (show ansE n G er = er from ansE_none HA.out)
      have WK := Lib.hid (HW.out HA.out wr HBB.out)
      go_wp2_with fail
      refine WK.out.mono ?_
      rintro e w2 (⟨he, v, rfl, hv, hb2⟩ | ⟨he, rfl, hb2⟩)
      · have B1 := Lib.hid (below_on HBB.out hb2)
        have X1 := Lib.hid (HX.out.kept hb2)
        have x1 := X1.out.cell
        have x2 := X1.out.free
        have X2 := Lib.hid (X1.out.put (.int .i64 0))
        have B2 := Lib.hid (B1.out.setCell (p := ⟨b, 0, none⟩) (by have := HB.out; show w.heap.size ≤ b; omega) (.int .i64 0))
        have R2 := Lib.hid (HST.out _ _ _ b (.int .i64 0) hv HX.out.lt)
        clear hv hb2
        go_wp2_with fail
        refine leaves_cons (f := 85) (args := #[.pointer (some ⟨b, 0, none⟩)]) (by simp) (by simp [go_sem]) ?_
        refine (catchL_idle b _).mono ?_
        rintro e u' w'' ⟨rfl, rfl, rfl⟩
        have y1 := X2.out.cell
        refine ⟨.tuple #[v, .int .i64 0], ?_, B2.out, Or.inl ⟨by rw [AE.out]; exact he, wr, v, HBB.out, rfl, R2.out⟩⟩
        simp [results, Tryz.results40, go_sem, y1]
      · have B1 := Lib.hid (below_on HBB.out hb2)
        have X1 := Lib.hid (HX.out.kept hb2)
        have X2 := Lib.hid (X1.out.put (.int .i64 er))
        have B2 := Lib.hid (B1.out.setCell (p := ⟨b, 0, none⟩) (by have := HB.out; show w.heap.size ≤ b; omega) (.int .i64 er))
        clear hb2
        go_wp2_with fail
        refine leaves_cons (f := 85) (args := #[.pointer (some ⟨b, 0, none⟩)]) (by simp) (by simp [go_sem]) ?_
        refine (catchL_panic b er _ _ X1.out X1.out.cell).mono ?_
        rintro e u' w'' ⟨rfl, rfl, rfl⟩
        have y1 := X2.out.cell
        refine ⟨.tuple #[.slice none 0 0, .int .i64 er], ?_, B2.out, Or.inr ⟨by rw [AE.out]; exact he, by rw [AE.out]⟩⟩
        simp [results, Tryz.results40, go_sem, y1]

set_option maxRecDepth 20000 in
theorem catchQ_panic (b : Nat) (er : Int) (x : Value) (w : World) (hc : Bx1 w b x 32) (hx : w.cell? ⟨b, 0, none⟩ = some x) :
    CallsD Tryz.prog 104 #[.pointer (some ⟨b, 0, none⟩)] (.panicking (pan er)) w fun e u' w' =>
      e = .returned (.tuple #[]) ∧ u' = .panicking [{ v := .iface 32 (.int .i64 er), recovered := true }] ∧ w' = w.setCell ⟨b, 0, none⟩ (.int .i64 er) := by
  have hz := hc.free
  have hta : ∀ w : World, (Instr.typeAssert (.iface 32 (.int .i64 er)) 20 32 false).run Tryz.prog w = .ok (.int .i64 er) w := fun _ => by kernel_rfl
  unfold pan
  refine callsD_of_wpS Tryz.func104 rfl fun c₀ cs hu => ?_
  apply wpS_seq
  apply wpS_region
  simp [wpOpsS, go_sem, recoverD, hu, Tryz.ntmps104, Exit.thenS]
  refine wpS_of_wp ?_
  show Code.wp _ _ _ { tmps := #[.pointer (some ⟨b, 0, none⟩), .iface 32 (.int .i64 er), .iface 32 (.int .i64 er), undef, undef, undef, undef], defers := [] } _
  go_wp2
  cases c₀
  simp_all [bodyPostS, results, Tryz.results104]

set_option maxRecDepth 20000 in
theorem catchQ_idle (b : Nat) (w : World) :
    CallsD Tryz.prog 104 #[.pointer (some ⟨b, 0, none⟩)] .returning w fun e u' w' => e = .returned (.tuple #[]) ∧ u' = .returning ∧ w' = w := by
  refine callsD_of_wpS Tryz.func104 rfl fun c₀ cs hu => ?_
  apply wpS_seq
  apply wpS_region
  simp [wpOpsS, go_sem, recoverD, hu, Tryz.ntmps104, Exit.thenS]
  refine wpS_of_wp ?_
  show Code.wp _ _ _ { tmps := #[.pointer (some ⟨b, 0, none⟩), .nilIface, .nilIface, undef, undef, undef, undef], defers := [] } _
  go_wp2
  cases c₀
  simp_all [bodyPostS, results, Tryz.results104]

set_option maxRecDepth 100000 in
set_option maxHeartbeats 4000000 in
theorem answerQ_any (g : FuncId) (lb : Array Value) (n : Int) (go : Option Addr) (gc : Nat) (G : List (List AV)) (er : Int) (w : World) (hgl : G.length ≤ 1000) (hG : RdG w go G)
    (eg : ∀ args w, (callFunc g args).run Tryz.prog w = .ok (.enter g args) w) (R : World → Value → World → Prop) (hst : ∀ W v A b y, R W v A → b < W.heap.size → R W v (A.setCell ⟨b, 0, none⟩ y))
    (hw : (∀ L ∈ G, chkP n L = 0) → ∀ W, Below w.heap.size w W → Calls Tryz.prog g lb W fun e W' => (er = 0 ∧ ∃ v, e = .returned v ∧ R W v W' ∧ Below W.heap.size W W') ∨ (er ≠ 0 ∧ e = .panicked (pan er) ∧ Below W.heap.size W W')) :
    Calls Tryz.prog 69 #[.func (.func g) #[] lb, .int .i64 n, .slice go G.length gc] w (AnsRes w n G er (.slice none 0 0) R) := by
  have hmf : ∀ (fn : Fn) (first cap : Array Value) (w : World), (Instr.makeFunc fn first cap).run Tryz.prog w = .ok (.func fn first cap) w := fun _ _ _ _ => rfl
  have HG := Lib.hid hG
  have HST := Lib.hid hst
  have HW := Lib.hid hw
  obtain ⟨m, hm⟩ : ∃ m, m = G.length := ⟨_, rfl⟩
  have HM := Lib.hid hm
  have hle : m ≤ 1000 := by omega
  rw [← hm]
  obtain ⟨w0, hw0⟩ : ∃ w0, w0 = w.alloc (.cells #[.int .i64 0] 32) := ⟨_, rfl⟩
  have E0 := Lib.hid (show Below w.heap.size w w0 by rw [hw0]; exact one_more _)
  have X0 := Lib.hid (show Bx1 w0 w.heap.size (.int .i64 0) 32 by rw [hw0]; exact Bx1.made w _ _)
  obtain ⟨b, hb⟩ : ∃ b, b = w.heap.size := ⟨_, rfl⟩
  have HB := Lib.hid hb
  clear hgl hG hst hw hm
  go_enter_defers Tryz.func69, Tryz.ntmps69
  go_upto_region 2 with (fail)
  rw [← hw0]
  rw [← hb] at X0 ⊢
  clear hw0 hb
  go_wp2_with fail
  go_loopw [6, 14] (fun v6 s wr => ∃ t : Nat, v6 = .slice none 0 0 ∧ s = .int .i64 t ∧ t ≤ m ∧ Hid (∀ i, ∀ q : i < G.length, i < t → chkP n G[i] = 0) ∧ Hid (Below w.heap.size w wr) ∧ Hid (Bx1 wr b (.int .i64 0) 32)) (fun _ s _ => m - (intOf s).toNat)
  case atStart => exact ⟨0, rfl, rfl, by omega, Lib.hid (fun i q h => by omega), E0, X0⟩
  case round =>
    obtain ⟨t, rfl, rfl, ht, HF, HBB, HX⟩ := hrel
    by_cases htm : t < m
    · have hlt : t < G.length := by have := HM.out; omega
      obtain ⟨p, a, c, e, f0, r0⟩ := (HG.out.on HBB.out) t hlt
      have HL := Lib.hid hlt
      obtain ⟨L, hL⟩ : ∃ L, L = G[t] := ⟨_, rfl⟩
      have f : wr.cell? (p.add t) = some (.slice a L.length c) := by rw [hL]; exact f0
      have r : RdV wr a L := by rw [hL]; exact r0
      have CK := Lib.hid (check_any n L a c wr r)
      obtain ⟨k, hk⟩ : ∃ k, k = L.length := ⟨_, rfl⟩
      obtain ⟨z, hz⟩ : ∃ z, z = chkP n L := ⟨_, rfl⟩
      have HZ := Lib.hid (show z = chkP n G[t] by rw [hz, hL])
      rw [← hk, ← hz] at CK
      rw [← hk] at f
      clear r hk hz f0 r0 hL hlt
      subst e
      go_wp2_with fail
      refine CK.out.mono ?_
      rintro e w1 ⟨rfl, hb1⟩
      have B1 := Lib.hid (below_on HBB.out hb1)
      have X1 := Lib.hid (HX.out.kept hb1)
      clear hb1 f
      by_cases hz0 : z = 0
      · have HF' := Lib.hid (show ∀ i, ∀ q : i < G.length, i < t + 1 → chkP n G[i] = 0 from fun i q h => by
          by_cases e : i = t
          · subst e; exact HZ.out.symm.trans hz0
          · exact HF.out i q (by omega))
        clear HZ
        subst hz0
        go_wp2_with fail
        go_roundw
        case rel => exact ⟨t + 1, rfl, by go_num, by omega, HF', B1, X1⟩
        case measure => simp [intOf]; omega
      · have AE := Lib.hid (show ansE n G er = z from (ansE_at HL.out HF.out (fun h => hz0 (HZ.out.trans h))).trans HZ.out.symm)
        have x1 := X1.out.cell
        have x2 := X1.out.free
        have X2 := Lib.hid (X1.out.put (.int .i64 z))
        have B2 := Lib.hid (B1.out.setCell (p := ⟨b, 0, none⟩) (by have := HB.out; show w.heap.size ≤ b; omega) (.int .i64 z))
        go_wp2_with fail
        refine leaves_cons (f := 104) (args := #[.pointer (some ⟨b, 0, none⟩)]) (by simp) (by simp [go_sem]) ?_
        refine (catchQ_idle b _).mono ?_
        rintro e u' w'' ⟨rfl, rfl, rfl⟩
        have y1 := X2.out.cell
        refine ⟨.tuple #[.slice none 0 0, .int .i64 z], ?_, B2.out, Or.inr ⟨by rw [AE.out]; exact hz0, by rw [AE.out]⟩⟩
        simp [results, Tryz.results69, go_sem, y1]
    · have HA := Lib.hid (show ∀ L ∈ G, chkP n L = 0 from fun L hL => by
        obtain ⟨i, hi, rfl⟩ := List.getElem_of_mem hL
        exact HF.out i hi (by have := HM.out; omega))
      have AE := Lib.hid (show ansE n G er = er from ansE_none HA.out)
      have WK := Lib.hid (HW.out HA.out wr HBB.out)
      go_wp2_with fail
      refine WK.out.mono ?_
      rintro e w2 (⟨he, v, rfl, hv, hb2⟩ | ⟨he, rfl, hb2⟩)
      · have B1 := Lib.hid (below_on HBB.out hb2)
        have X1 := Lib.hid (HX.out.kept hb2)
        have x1 := X1.out.cell
        have x2 := X1.out.free
        have X2 := Lib.hid (X1.out.put (.int .i64 0))
        have B2 := Lib.hid (B1.out.setCell (p := ⟨b, 0, none⟩) (by have := HB.out; show w.heap.size ≤ b; omega) (.int .i64 0))
        have R2 := Lib.hid (HST.out _ _ _ b (.int .i64 0) hv HX.out.lt)
        clear hv hb2
        go_wp2_with fail
        refine leaves_cons (f := 104) (args := #[.pointer (some ⟨b, 0, none⟩)]) (by simp) (by simp [go_sem]) ?_
        refine (catchQ_idle b _).mono ?_
        rintro e u' w'' ⟨rfl, rfl, rfl⟩
        have y1 := X2.out.cell
        refine ⟨.tuple #[v, .int .i64 0], ?_, B2.out, Or.inl ⟨by rw [AE.out]; exact he, wr, v, HBB.out, rfl, R2.out⟩⟩
        simp [results, Tryz.results69, go_sem, y1]
      · have B1 := Lib.hid (below_on HBB.out hb2)
        have X1 := Lib.hid (HX.out.kept hb2)
        have X2 := Lib.hid (X1.out.put (.int .i64 er))
        have B2 := Lib.hid (B1.out.setCell (p := ⟨b, 0, none⟩) (by have := HB.out; show w.heap.size ≤ b; omega) (.int .i64 er))
        clear hb2
        go_wp2_with fail
        refine leaves_cons (f := 104) (args := #[.pointer (some ⟨b, 0, none⟩)]) (by simp) (by simp [go_sem]) ?_
        refine (catchQ_panic b er _ _ X1.out X1.out.cell).mono ?_
        rintro e u' w'' ⟨rfl, rfl, rfl⟩
        have y1 := X2.out.cell
        refine ⟨.tuple #[.slice none 0 0, .int .i64 er], ?_, B2.out, Or.inr ⟨by rw [AE.out]; exact he, by rw [AE.out]⟩⟩
        simp [results, Tryz.results69, go_sem, y1]

set_option maxRecDepth 20000 in
theorem catchP_panic (b : Nat) (er : Int) (x : Value) (w : World) (hc : Bx1 w b x 32) (hx : w.cell? ⟨b, 0, none⟩ = some x) :
    CallsD Tryz.prog 113 #[.pointer (some ⟨b, 0, none⟩)] (.panicking (pan er)) w fun e u' w' =>
      e = .returned (.tuple #[]) ∧ u' = .panicking [{ v := .iface 32 (.int .i64 er), recovered := true }] ∧ w' = w.setCell ⟨b, 0, none⟩ (.int .i64 er) := by
  have hz := hc.free
  have hta : ∀ w : World, (Instr.typeAssert (.iface 32 (.int .i64 er)) 20 32 false).run Tryz.prog w = .ok (.int .i64 er) w := fun _ => by kernel_rfl
  unfold pan
  refine callsD_of_wpS Tryz.func113 rfl fun c₀ cs hu => ?_
  apply wpS_seq
  apply wpS_region
  simp [wpOpsS, go_sem, recoverD, hu, Tryz.ntmps113, Exit.thenS]
  refine wpS_of_wp ?_
  show Code.wp _ _ _ { tmps := #[.pointer (some ⟨b, 0, none⟩), .iface 32 (.int .i64 er), .iface 32 (.int .i64 er), undef, undef, undef, undef], defers := [] } _
  go_wp2
  cases c₀
  simp_all [bodyPostS, results, Tryz.results113]

set_option maxRecDepth 20000 in
theorem catchP_idle (b : Nat) (w : World) :
    CallsD Tryz.prog 113 #[.pointer (some ⟨b, 0, none⟩)] .returning w fun e u' w' => e = .returned (.tuple #[]) ∧ u' = .returning ∧ w' = w := by
  refine callsD_of_wpS Tryz.func113 rfl fun c₀ cs hu => ?_
  apply wpS_seq
  apply wpS_region
  simp [wpOpsS, go_sem, recoverD, hu, Tryz.ntmps113, Exit.thenS]
  refine wpS_of_wp ?_
  show Code.wp _ _ _ { tmps := #[.pointer (some ⟨b, 0, none⟩), .nilIface, .nilIface, undef, undef, undef, undef], defers := [] } _
  go_wp2
  cases c₀
  simp_all [bodyPostS, results, Tryz.results113]

set_option maxRecDepth 100000 in
set_option maxHeartbeats 4000000 in
theorem answerP_any (g : FuncId) (lb : Array Value) (n : Int) (go : Option Addr) (gc : Nat) (G : List (List AV)) (er : Int) (w : World) (hgl : G.length ≤ 1000) (hG : RdG w go G)
    (eg : ∀ args w, (callFunc g args).run Tryz.prog w = .ok (.enter g args) w) (R : World → Value → World → Prop) (hst : ∀ W v A b y, R W v A → b < W.heap.size → R W v (A.setCell ⟨b, 0, none⟩ y))
    (hw : (∀ L ∈ G, chkP n L = 0) → ∀ W, Below w.heap.size w W → Calls Tryz.prog g lb W fun e W' => (er = 0 ∧ ∃ v, e = .returned v ∧ R W v W' ∧ Below W.heap.size W W') ∨ (er ≠ 0 ∧ e = .panicked (pan er) ∧ Below W.heap.size W W')) :
    Calls Tryz.prog 76 #[.func (.func g) #[] lb, .int .i64 n, .slice go G.length gc] w (AnsRes w n G er (.slice none 0 0) R) := by
  have hmf : ∀ (fn : Fn) (first cap : Array Value) (w : World), (Instr.makeFunc fn first cap).run Tryz.prog w = .ok (.func fn first cap) w := fun _ _ _ _ => rfl
  have HG := Lib.hid hG
  have HST := Lib.hid hst
  have HW := Lib.hid hw
  obtain ⟨m, hm⟩ : ∃ m, m = G.length := ⟨_, rfl⟩
  have HM := Lib.hid hm
  have hle : m ≤ 1000 := by omega
  rw [← hm]
  obtain ⟨w0, hw0⟩ : ∃ w0, w0 = w.alloc (.cells #[.int .i64 0] 32) := ⟨_, rfl⟩
  have E0 := Lib.hid (show Below w.heap.size w w0 by rw [hw0]; exact one_more _)
  have X0 := Lib.hid (show Bx1 w0 w.heap.size (.int .i64 0) 32 by rw [hw0]; exact Bx1.made w _ _)
  obtain ⟨b, hb⟩ : ∃ b, b = w.heap.size := ⟨_, rfl⟩
  have HB := Lib.hid hb
  clear hgl hG hst hw hm
  go_enter_defers Tryz.func76, Tryz.ntmps76
  go_upto_region 2 with (fail)
  rw [← hw0]
  rw [← hb] at X0 ⊢
  clear hw0 hb
  go_wp2_with fail
  go_loopw [6, 14] (fun v6 s wr => ∃ t : Nat, v6 = .slice none 0 0 ∧ s = .int .i64 t ∧ t ≤ m ∧ Hid (∀ i, ∀ q : i < G.length, i < t → chkP n G[i] = 0) ∧ Hid (Below w.heap.size w wr) ∧ Hid (Bx1 wr b (.int .i64 0) 32)) (fun _ s _ => m - (intOf s).toNat)
  case atStart => exact ⟨0, rfl, rfl, by omega, Lib.hid (fun i q h => by omega), E0, X0⟩
  case round =>
    obtain ⟨t, rfl, rfl, ht, HF, HBB, HX⟩ := hrel
    by_cases htm : t < m
    · have hlt : t < G.length := by have := HM.out; omega
      obtain ⟨p, a, c, e, f0, r0⟩ := (HG.out.on HBB.out) t hlt
      have HL := Lib.hid hlt
      obtain ⟨L, hL⟩ : ∃ L, L = G[t] := ⟨_, rfl⟩
      have f : wr.cell? (p.add t) = some (.slice a L.length c) := by rw [hL]; exact f0
      have r : RdV wr a L := by rw [hL]; exact r0
      have CK := Lib.hid (check_any n L a c wr r)
      obtain ⟨k, hk⟩ : ∃ k, k = L.length := ⟨_, rfl⟩
      obtain ⟨z, hz⟩ : ∃ z, z = chkP n L := ⟨_, rfl⟩
      have HZ := Lib.hid (show z = chkP n G[t] by rw [hz, hL])
      rw [← hk, ← hz] at CK
      rw [← hk] at f
      clear r hk hz f0 r0 hL hlt
      subst e
      go_wp2_with fail
      refine CK.out.mono ?_
      rintro e w1 ⟨rfl, hb1⟩
      have B1 := Lib.hid (below_on HBB.out hb1)
      have X1 := Lib.hid (HX.out.kept hb1)
      clear hb1 f
      by_cases hz0 : z = 0
      · have HF' := Lib.hid (show ∀ i, ∀ q : i < G.length, i < t + 1 → chkP n G[i] = 0 from fun i q h => by
          by_cases e : i = t
          · subst e; exact HZ.out.symm.trans hz0
          · exact HF.out i q (by omega))
        clear HZ
        subst hz0
        go_wp2_with fail
        go_roundw
        case rel => exact ⟨t + 1, rfl, by go_num, by omega, HF', B1, X1⟩
        case measure => simp [intOf]; omega
      · have AE := Lib.hid (show ansE n G er = z from (ansE_at HL.out HF.out (fun h => hz0 (HZ.out.trans h))).trans HZ.out.symm)
        have x1 := X1.out.cell
        have x2 := X1.out.free
        have X2 := Lib.hid (X1.out.put (.int .i64 z))
        have B2 := Lib.hid (B1.out.setCell (p := ⟨b, 0, none⟩) (by have := HB.out; show w.heap.size ≤ b; omega) (.int .i64 z))
        go_wp2_with fail
        refine leaves_cons (f := 113) (args := #[.pointer (some ⟨b, 0, none⟩)]) (by simp) (by simp [go_sem]) ?_
        refine (catchP_idle b _).mono ?_
        rintro e u' w'' ⟨rfl, rfl, rfl⟩
        have y1 := X2.out.cell
        refine ⟨.tuple #[.slice none 0 0, .int .i64 z], ?_, B2.out, Or.inr ⟨by rw [AE.out]; exact hz0, by rw [AE.out]⟩⟩
        simp [results, Tryz.results76, go_sem, y1]
    · have HA := Lib.hid (show ∀ L ∈ G, chkP n L = 0 from fun L hL => by
        obtain ⟨i, hi, rfl⟩ := List.getElem_of_mem hL
        exact HF.out i hi (by have := HM.out; omega))
      have AE := Lib.hid (show ansE n G er = er from ansE_none HA.out)
      have WK := Lib.hid (HW.out HA.out wr HBB.out)
      go_wp2_with fail
      refine WK.out.mono ?_
      rintro e w2 (⟨he, v, rfl, hv, hb2⟩ | ⟨he, rfl, hb2⟩)
      · have B1 := Lib.hid (below_on HBB.out hb2)
        have X1 := Lib.hid (HX.out.kept hb2)
        have x1 := X1.out.cell
        have x2 := X1.out.free
        have X2 := Lib.hid (X1.out.put (.int .i64 0))
        have B2 := Lib.hid (B1.out.setCell (p := ⟨b, 0, none⟩) (by have := HB.out; show w.heap.size ≤ b; omega) (.int .i64 0))
        have R2 := Lib.hid (HST.out _ _ _ b (.int .i64 0) hv HX.out.lt)
        clear hv hb2
        go_wp2_with fail
        refine leaves_cons (f := 113) (args := #[.pointer (some ⟨b, 0, none⟩)]) (by simp) (by simp [go_sem]) ?_
        refine (catchP_idle b _).mono ?_
        rintro e u' w'' ⟨rfl, rfl, rfl⟩
        have y1 := X2.out.cell
        refine ⟨.tuple #[v, .int .i64 0], ?_, B2.out, Or.inl ⟨by rw [AE.out]; exact he, wr, v, HBB.out, rfl, R2.out⟩⟩
        simp [results, Tryz.results76, go_sem, y1]
      · have B1 := Lib.hid (below_on HBB.out hb2)
        have X1 := Lib.hid (HX.out.kept hb2)
        have X2 := Lib.hid (X1.out.put (.int .i64 er))
        have B2 := Lib.hid (B1.out.setCell (p := ⟨b, 0, none⟩) (by have := HB.out; show w.heap.size ≤ b; omega) (.int .i64 er))
        clear hb2
        go_wp2_with fail
        refine leaves_cons (f := 113) (args := #[.pointer (some ⟨b, 0, none⟩)]) (by simp) (by simp [go_sem]) ?_
        refine (catchP_panic b er _ _ X1.out X1.out.cell).mono ?_
        rintro e u' w'' ⟨rfl, rfl, rfl⟩
        have y1 := X2.out.cell
        refine ⟨.tuple #[.slice none 0 0, .int .i64 er], ?_, B2.out, Or.inr ⟨by rw [AE.out]; exact he, by rw [AE.out]⟩⟩
        simp [results, Tryz.results76, go_sem, y1]
end Go.Proofs.YtbhaoaobhgilkaaGreat
