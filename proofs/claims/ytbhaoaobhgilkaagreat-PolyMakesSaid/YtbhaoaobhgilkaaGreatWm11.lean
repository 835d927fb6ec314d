/- The contract of package poly's lines.; Contracts of package poly: answer at truth values, its deferred closure. -/
import Derived.Test.YtbhaoaobhgilkaaGreatWm10
import Derived.Defers
import Derived.Recover

namespace Go.Proofs.YtbhaoaobhgilkaaGreat
open Go.RowKit Go.Sort Go.Shelf

def av0 : AV := ⟨none, 0, [], 0, false⟩

def BkV (w : World) (b : Nat) (y : AV) : Prop := w.heap[b]? = some (.cells y.cs 25 (0, 0))

theorem BkV.made (w : World) (y : AV) : BkV (w.alloc (.cells y.cs 25)) w.heap.size y := heap_alloc_last w _

theorem BkV.lt {w : World} {b : Nat} {y : AV} (h : BkV w b y) : b < w.heap.size := by
  by_cases e : b < w.heap.size
  · exact e
  · unfold BkV at h; rw [Array.getElem?_eq_none (by omega)] at h; cases h

theorem BkV.kept {w w' : World} {b : Nat} {y : AV} (h : BkV w b y) (hb : Below w.heap.size w w') : BkV w' b y := (hb.block b h.lt).trans h

theorem BkV.setRow {w : World} {b : Nat} {y z : AV} (h : BkV w b y) : BkV (w.setRow b z.cs) b z := setRow_heap w b _ _ _ _ h

theorem BkV.avAt {w : World} {b : Nat} {y : AV} (h : BkV w b y) : AvAt w ⟨b, 0, none⟩ y := fun j v hv => by
  rw [addr_add, Nat.zero_add, cell_of_row w b j _ _ _ h]
  simpa [AV.cs] using hv

theorem av_zero (w : World) : (zeroValue 25).run Tryz.prog w = .ok (.agg av0.cs) w := (zero_of_info (show (Tryz.prog.info? 25).map (fun i => (i.zero, i.size)) = some (some (.agg av0.cs), 3) by kernel_rfl)).1 w

theorem wp_storeV {w : World} {o : Oper} {a : Act} {K : Act → World → Prop} {Q : Exit → Act → World → Prop} (s t : Operand) (ho : o.op = .store 25 s t) (b : Nat) (z : AV) (hs : a.eval s = .pointer (some ⟨b, 0, none⟩)) (ht : a.eval t = .agg z.cs) (old : AV) (hv : BkV w b old)
    (h : K (a.put o.dst undef) (w.setRow b z.cs)) : o.wp Tryz.prog a w K Q := by
  have hr := run_storeVar_row (P := Tryz.prog) w b 25 25 old.cs z.cs hv av_size rfl (by simp [AV.cs, AV.cells, Value.oneCell'])
  generalize z.cs = V at *
  unfold Oper.wp execOp
  simp only [ho, hs, ht, Instr.storeAt, Instr.sureAddr, Sem.run_bind, Sem.run_pure, Result.andThen_ok, hr]
  exact h

theorem wpl_storeV {w : World} {ops : Array Oper} {rest : List Oper} {o : Oper} {a : Act} {Q : Exit → Act → World → Prop} (hgd : o.guard = none) (s t : Operand) (ho : o.op = .store 25 s t) (b : Nat) (z : AV) (hs : a.eval s = .pointer (some ⟨b, 0, none⟩)) (ht : a.eval t = .agg z.cs) (old : AV) (hv : BkV w b old)
    (h : wpList Tryz.prog ops Q rest (a.put o.dst undef) (w.setRow b z.cs)) : wpList Tryz.prog ops Q (o :: rest) a w :=
  wpList_plain hgd fun _ hK => wp_storeV s t ho b z hs ht old hv (hK _ _ h)

theorem make_lines (w : World) (n : Nat) (hn : n ≤ 100000) : ∃ cur : Array Value, (Instr.makeSlice 66 (.int .i64 n) (.int .i64 n)).run Tryz.prog w = .ok (.slice (some ⟨w.heap.size, 0, none⟩) n n) (w.alloc (.cells cur 82))
    ∧ Rw (w.alloc (.cells cur 82)) w.heap.size (List.replicate n ln0) := by
  obtain ⟨i0, hi, hz0, hz1, hz2⟩ := info_parts ln_info3
  have hr := run_make (P := Tryz.prog) w 66 82 i0 _ Tryz.underlying66 hi hz0 .i64 .i64 (n : Int) (n : Int) (by omega) (by omega) (by rw [hz2]; omega) (by omega)
  simp only [Int.toNat_natCast] at hr
  rw [hz1] at hr
  have hb := heap_alloc_last w (.cells (madeCells ln0.cs (n * 8)) 82)
  refine ⟨_, hr, fun i hi => ?_, fun j hj => ?_⟩
  · rw [List.getElem_replicate]
    have hin : i < n := by simpa using hi
    refine ⟨rfl, fun j v hv => ?_⟩
    have hj : j < 8 := by
      by_cases q : j < 8
      · exact q
      · rw [List.getElem?_eq_none (by rw [Ln.cells_len rfl]; omega)] at hv; cases hv
    rw [addr_add]
    have e : (Value.agg ln0.cs).cells = ln0.cs := rfl
    show World.cell? (w.alloc (.cells (madeCells (Value.agg ln0.cs).cells (n * 8)) 82)) _ = _
    rw [e, cell_of_row _ _ _ _ _ _ hb]
    have hlt : i * 8 + j < n * 8 := by omega
    have hm : (i * 8 + j) % 8 = j := by omega
    have hs : ln0.cs.size = 8 := rfl
    rw [madeCells, Array.getElem?_map, Array.getElem?_range, if_pos hlt]
    simp only [Option.map_some, hs, hm]
    have hjl : j < ln0.cs.size := by rw [hs]; exact hj
    rw [getElem!_pos ln0.cs j hjl]
    have : ln0.cs[j]? = some v := by simpa [Ln.cs] using hv
    rw [Array.getElem?_eq_getElem hjl] at this
    exact this
  · have hj' : j < n * 8 := by simpa using hj
    have e : (Value.agg ln0.cs).cells = ln0.cs := rfl
    show (World.cell? (w.alloc (.cells (madeCells (Value.agg ln0.cs).cells (n * 8)) 82)) _).isSome = true ∧ World.frozen? (w.alloc (.cells (madeCells (Value.agg ln0.cs).cells (n * 8)) 82)) _ = false
    rw [e]
    refine ⟨?_, frozen_of_row _ _ _ _ _ hb⟩
    rw [cell_of_row _ _ _ _ _ _ hb, Array.getElem?_eq_getElem (by rw [size_madeCells]; exact hj')]
    rfl

def rowV (L : List AV) (t : Nat) : List Ln := (L.take t).map ofV ++ List.replicate (L.length - t) ln0

theorem rowV_len {L : List AV} {t : Nat} (ht : t ≤ L.length) : (rowV L t).length = L.length := by simp [rowV]; omega

theorem rowV_set {L : List AV} {t : Nat} (ht : t < L.length) : (rowV L t).set t (ofV L[t]) = rowV L (t + 1) := by
  unfold rowV
  rw [List.take_succ_eq_append_getElem ht, List.map_append, List.set_append_right _ _ (by simp; omega)]
  obtain ⟨k, hk⟩ : ∃ k, L.length - t = k + 1 := ⟨L.length - t - 1, by omega⟩
  rw [hk, show L.length - (t + 1) = k by omega, List.replicate_succ, show t - ((L.take t).map ofV).length = 0 by simp; omega]
  simp

set_option maxRecDepth 100000 in
set_option maxHeartbeats 4000000 in
theorem lines_row (L : List AV) (ao : Option Addr) (cap : Nat) (w : World) (hl : L.length ≤ 100000) (hR : RdV w ao L) (h6 : ∀ y ∈ L, y.a.length ≤ 6) :
    Calls Tryz.prog 45 #[.slice ao L.length cap] w (fun e w' => ∃ b, e = .returned (.slice (some ⟨b, 0, none⟩) (L.map ofV).length (L.map ofV).length) ∧ Rw w' b (L.map ofV) ∧ (w.heap.size ≤ b ∧ b < w'.heap.size) ∧ Below w.heap.size w w') := by
  have hz := av_zero
  have HR := Lib.hid hR
  have H6 := Lib.hid h6
  obtain ⟨cur, hmk, hrw⟩ := make_lines w L.length hl
  obtain ⟨n, hn⟩ : ∃ n, n = L.length := ⟨_, rfl⟩
  have HN := Lib.hid hn
  have hle : n ≤ 100000 := by omega
  obtain ⟨w0, hw0⟩ : ∃ w0, w0 = w.alloc (.cells cur 82) := ⟨_, rfl⟩
  rw [← hw0] at hmk hrw
  have W0 := Lib.hid (show Rw w0 w.heap.size (rowV L 0) by simpa [rowV] using hrw)
  have E0 := Lib.hid (show Below w.heap.size w w0 by rw [hw0]; exact one_more _)
  have Z0 := Lib.hid (show w.heap.size < w0.heap.size by rw [hw0]; simp)
  obtain ⟨b, hb⟩ : ∃ b, b = w.heap.size := ⟨_, rfl⟩
  have HB0 := Lib.hid hb
  rw [← hn] at hmk
  rw [← hn]
  rw [← hb] at hmk
  clear hl hR h6 hn hrw hw0 hb
  go_enter Tryz.func45, Tryz.ntmps45
  go_wp2_with (rw [hmk])
  go_loopw [11] (fun s wr => ∃ t : Nat, s = .int .i64 t ∧ t ≤ n ∧ Hid (Rw wr b (rowV L t)) ∧ Hid (Below w.heap.size w wr) ∧ Hid (b < wr.heap.size)) (fun s _ => n - (intOf s).toNat)
  case atStart => exact ⟨0, rfl, by omega, Lib.hid (by rw [HB0.out]; exact W0.out), E0, Lib.hid (by rw [HB0.out]; exact Z0.out)⟩
  case round =>
    clear hmk
    obtain ⟨t, rfl, ht, HW, HB, HZ⟩ := hrel
    by_cases htn : t < n
    · have hlt : t < L.length := by have := HN.out; omega
      obtain ⟨p, hp, c0⟩ := (HR.out.on HB.out).at_ t hlt
      obtain ⟨y, hy⟩ : ∃ y, y = L[t] := ⟨_, rfl⟩
      have hm := List.getElem_mem hlt
      rw [← hy] at c0 hm
      have C0 := Lib.hid c0
      have RS := Lib.hid (show (rowV L t).set t (ofV y) = rowV L (t + 1) by rw [hy]; exact rowV_set hlt)
      have RL := Lib.hid (rowV_len (L := L) (t := t) (by omega))
      have Y6 := Lib.hid (H6.out y hm)
      have YN := Lib.hid ((HR.out.on HB.out).nums y hm)
      have N1 := Lib.hid (BkV.made wr av0)
      have N2 := Lib.hid (N1.out.setRow (z := y))
      have B2 := Lib.hid (Below.setRow ((Below.refl wr.heap.size wr).alloc (Nat.le_refl _) (.cells av0.cs 25)) (b := wr.heap.size) (Nat.le_refl _) y.cs)
      clear c0 hy hm hlt
      subst hp
      go_upto_region 5 with (first | refine wpl_loadV rfl _ rfl _ rfl y C0.out ?_ | refine wpl_storeV rfl _ _ rfl _ _ rfl rfl _ N1.out ?_)
      generalize (wr.alloc (.cells av0.cs 25)).setRow wr.heap.size y.cs = w1 at *
      have YN1 := Lib.hid (YN.out.on B2.out)
      have W1 := Lib.hid (HW.out.on B2.out HZ.out)
      have B1 := Lib.hid (below_on HB.out B2.out)
      have Z1 := Lib.hid (show b < w1.heap.size from Nat.lt_of_lt_of_le HZ.out B2.out.size)
      obtain ⟨q, hq⟩ : ∃ q, q = wr.heap.size := ⟨_, rfl⟩
      rw [← hq] at N2 ⊢
      clear N1 B2 HW HB HZ C0 YN hq
      go_wp2_with (refine wpl_loadV rfl _ rfl _ rfl y N2.out.avAt ?_)
      refine (lineOf_any y w1 Y6.out YN1.out).mono ?_
      rintro e w2 ⟨rfl, hb⟩
      have W2 := Lib.hid (W1.out.on hb Z1.out)
      have B3 := Lib.hid (below_on B1.out hb)
      have Z2 := Lib.hid (show b < w2.heap.size from Nat.lt_of_lt_of_le Z1.out hb.size)
      have L6 := Lib.hid (show (ofV y).a.length = 6 by have := Y6.out; simp [ofV]; omega)
      have tn : t < (rowV L t).length := by rw [RL.out]; have := HN.out; omega
      have HT := Lib.hid (show w2.there b (t * 8) (ofV y).cs.size from fun j hj => by
        rw [Ln.size L6.out] at hj
        exact W2.out.2 (t * 8 + j) (by omega))
      have W3 := Lib.hid (show Rw (w2.setCells b (t * 8) (ofV y).cells) b (rowV L (t + 1)) by rw [← RS.out]; exact W2.out.set tn L6.out)
      have B4 := Lib.hid (show Below w.heap.size w (w2.setCells b (t * 8) (ofV y).cells) from Below.setCells (by have := HB0.out; omega) (ofV y).cells (t * 8) _ B3.out)
      have Z4 := Lib.hid (show b < (w2.setCells b (t * 8) (ofV y).cells).heap.size from
        Nat.lt_of_lt_of_le Z2.out ((Below.setCells (Nat.zero_le b) (ofV y).cells (t * 8) w2 (Below.refl 0 w2)).size))
      clear hb tn
      go_wp2_with (refine wpList_store_mid rfl _ _ _ rfl b (t * 8) (ofV y).cs rfl rfl HT.out (by rw [Ln.size L6.out]; exact ln_size) (Ln.one _) ?_)
      go_roundw
      case rel => exact ⟨t + 1, by go_num, by omega, W3, B4, Z4⟩
      case measure => simp [intOf]; omega
    · have e : rowV L t = L.map ofV := by
        have h1 := HN.out
        have h2 : t = L.length := by omega
        rw [h2]; simp [rowV]
      have HE := Lib.hid (show Rw wr b (L.map ofV) by rw [← e]; exact HW.out)
      clear e
      go_wp2_with fail
      go_ret
      exact ⟨b, by simp [← HN.out], HE.out, ⟨by rw [HB0.out]; exact Nat.le_refl _, HZ.out⟩, HB.out⟩

theorem lines_any (L : List AV) (ao : Option Addr) (cap : Nat) (w : World) (hl : L.length ≤ 100000) (hR : RdV w ao L) (h6 : ∀ y ∈ L, y.a.length ≤ 6) :
    Calls Tryz.prog 45 #[.slice ao L.length cap] w (LRes w (L.map ofV)) := by
  refine (lines_row L ao cap w hl hR h6).mono ?_
  rintro e w' ⟨b, rfl, h1, _, h3⟩
  exact ⟨_, _, rfl, h1.rd, h3⟩
end Go.Proofs.YtbhaoaobhgilkaaGreat

namespace Go.Proofs.YtbhaoaobhgilkaaGreat
open Go.RowKit Go.Sort Go.Shelf

set_option maxRecDepth 20000 in
theorem catchB_panic (b : Nat) (er : Int) (x : Value) (w : World) (hc : Bx1 w b x 32) (hx : w.cell? ⟨b, 0, none⟩ = some x) :
    CallsD Tryz.prog 94 #[.pointer (some ⟨b, 0, none⟩)] (.panicking (pan er)) w fun e u' w' =>
      e = .returned (.tuple #[]) ∧ u' = .panicking [{ v := .iface 32 (.int .i64 er), recovered := true }] ∧ w' = w.setCell ⟨b, 0, none⟩ (.int .i64 er) := by
  have hz := hc.free
  have hta : ∀ w : World, (Instr.typeAssert (.iface 32 (.int .i64 er)) 20 32 false).run Tryz.prog w = .ok (.int .i64 er) w := fun _ => by kernel_rfl
  unfold pan
  refine callsD_of_wpS Tryz.func94 rfl fun c₀ cs hu => ?_
  apply wpS_seq
  apply wpS_region
  simp [wpOpsS, go_sem, recoverD, hu, Tryz.ntmps94, Exit.thenS]
  refine wpS_of_wp ?_
  show Code.wp _ _ _ { tmps := #[.pointer (some ⟨b, 0, none⟩), .iface 32 (.int .i64 er), .iface 32 (.int .i64 er), undef, undef, undef, undef], defers := [] } _
  go_wp2
  cases c₀
  simp_all [bodyPostS, results, Tryz.results94]

set_option maxRecDepth 20000 in
theorem catchB_idle (b : Nat) (w : World) :
    CallsD Tryz.prog 94 #[.pointer (some ⟨b, 0, none⟩)] .returning w fun e u' w' => e = .returned (.tuple #[]) ∧ u' = .returning ∧ w' = w := by
  refine callsD_of_wpS Tryz.func94 rfl fun c₀ cs hu => ?_
  apply wpS_seq
  apply wpS_region
  simp [wpOpsS, go_sem, recoverD, hu, Tryz.ntmps94, Exit.thenS]
  refine wpS_of_wp ?_
  show Code.wp _ _ _ { tmps := #[.pointer (some ⟨b, 0, none⟩), .nilIface, .nilIface, undef, undef, undef, undef], defers := [] } _
  go_wp2
  cases c₀
  simp_all [bodyPostS, results, Tryz.results94]

def RdG (w : World) (go : Option Addr) (G : List (List AV)) : Prop := ∀ t, ∀ h : t < G.length, ∃ p a c, go = some p ∧ w.cell? (p.add t) = some (.slice a (G[t]).length c) ∧ RdV w a G[t]

theorem RdG.on {w w' : World} {go : Option Addr} {G : List (List AV)} (h : RdG w go G) (hb : Below w.heap.size w w') : RdG w' go G := fun t ht => by
  obtain ⟨p, a, c, e, f, r⟩ := h t ht
  exact ⟨p, a, c, e, kept hb f, r.on hb⟩

def ansE (n : Int) (G : List (List AV)) (er : Int) : Int := match G.find? (fun L => decide (chkP n L ≠ 0)) with
  | some L => chkP n L
  | none => er

theorem ansE_at {n : Int} {G : List (List AV)} {er : Int} {t : Nat} (ht : t < G.length) (h : ∀ i, ∀ q : i < G.length, i < t → chkP n G[i] = 0) (hp : chkP n G[t] ≠ 0) : ansE n G er = chkP n G[t] := by
  have : G.find? (fun L => decide (chkP n L ≠ 0)) = some G[t] := by
    rw [List.find?_eq_some_iff_getElem]
    exact ⟨by simpa using hp, t, ht, rfl, fun j hj => by simp [h j (by omega) hj]⟩
  unfold ansE; rw [this]

theorem ansE_none {n : Int} {G : List (List AV)} {er : Int} (h : ∀ L ∈ G, chkP n L = 0) : ansE n G er = er := by
  have : G.find? (fun L => decide (chkP n L ≠ 0)) = none := by
    rw [List.find?_eq_none]
    intro L hL; simp [h L hL]
  unfold ansE; rw [this]

def AnsRes (w : World) (n : Int) (G : List (List AV)) (er : Int) (z : Value) (R : World → Value → World → Prop) (e : Ending) (w' : World) : Prop :=
  Below w.heap.size w w' ∧ ((ansE n G er = 0 ∧ ∃ W v, Below w.heap.size w W ∧ e = .returned (.tuple #[v, .int .i64 0]) ∧ R W v w') ∨ (ansE n G er ≠ 0 ∧ e = .returned (.tuple #[z, .int .i64 (ansE n G er)])))

set_option maxRecDepth 100000 in
set_option maxHeartbeats 4000000 in
theorem answerB_any (g : FuncId) (lb : Array Value) (n : Int) (go : Option Addr) (gc : Nat) (G : List (List AV)) (er : Int) (w : World) (hgl : G.length ≤ 1000) (hG : RdG w go G)
    (eg : ∀ args w, (callFunc g args).run Tryz.prog w = .ok (.enter g args) w) (R : World → Value → World → Prop) (hst : ∀ W v A b y, R W v A → b < W.heap.size → R W v (A.setCell ⟨b, 0, none⟩ y))
    (hw : (∀ L ∈ G, chkP n L = 0) → ∀ W, Below w.heap.size w W → Calls Tryz.prog g lb W fun e W' => (er = 0 ∧ ∃ v, e = .returned v ∧ R W v W' ∧ Below W.heap.size W W') ∨ (er ≠ 0 ∧ e = .panicked (pan er) ∧ Below W.heap.size W W')) :
    Calls Tryz.prog 51 #[.func (.func g) #[] lb, .int .i64 n, .slice go G.length gc] w (AnsRes w n G er (.bool false) R) := by
  have hmf : ∀ (fn : Fn) (first cap : Array Value) (w : World), (Instr.makeFunc fn first cap).run Tryz.prog w = .ok (.func fn first cap) w := fun _ _ _ _ => rfl
  have HG := Lib.hid hG
  have HST := Lib.hid hst
  have HW := Lib.hid hw
  obtain ⟨m, hm⟩ : ∃ m, m = G.length := ⟨_, rfl⟩
  have HM := Lib.hid hm
  have hle : m ≤ 1000 := by omega
  rw [← hm]
  obtain ⟨w0, hw0⟩ : ∃ w0, w0 = w.alloc (.cells #[.int .i64 0] 32) := ⟨_, rfl⟩
  have E0 := Lib.hid (show Below w.heap.size w w0 by rw [hw0]; exact one_more _)
  have X0 := Lib.hid (show Bx1 w0 w.heap.size (.int .i64 0) 32 by rw [hw0]; exact Bx1.made w _ _)
  obtain ⟨b, hb⟩ : ∃ b, b = w.heap.size := ⟨_, rfl⟩
  have HB := Lib.hid hb
  clear hgl hG hst hw hm
  go_enter_defers Tryz.func51, Tryz.ntmps51
  go_upto_region 2 with (fail)
  rw [← hw0]
  rw [← hb] at X0 ⊢
  clear hw0 hb
  go_wp2_with fail
  go_loopw [6, 14] (fun v6 s wr => ∃ t : Nat, v6 = .bool false ∧ s = .int .i64 t ∧ t ≤ m ∧ Hid (∀ i, ∀ q : i < G.length, i < t → chkP n G[i] = 0) ∧ Hid (Below w.heap.size w wr) ∧ Hid (Bx1 wr b (.int .i64 0) 32)) (fun _ s _ => m - (intOf s).toNat)
  case atStart => exact ⟨0, rfl, rfl, by omega, Lib.hid (fun i q h => by omega), E0, X0⟩
  case round =>
    obtain ⟨t, rfl, rfl, ht, HF, HBB, HX⟩ := hrel
    by_cases htm : t < m
    · have hlt : t < G.length := by have := HM.out; omega
      obtain ⟨p, a, c, e, f0, r0⟩ := (HG.out.on HBB.out) t hlt
      have HL := Lib.hid hlt
      obtain ⟨L, hL⟩ : ∃ L, L = G[t] := ⟨_, rfl⟩
      have f : wr.cell? (p.add t) = some (.slice a L.length c) := by rw [hL]; exact f0
      have r : RdV wr a L := by rw [hL]; exact r0
      have CK := Lib.hid (check_any n L a c wr r)
      obtain ⟨k, hk⟩ : ∃ k, k = L.length := ⟨_, rfl⟩
      obtain ⟨z, hz⟩ : ∃ z, z = chkP n L := ⟨_, rfl⟩
      have HZ := Lib.hid (show z = chkP n G[t] by rw [hz, hL])
      rw [← hk, ← hz] at CK
      rw [← hk] at f
      clear r hk hz f0 r0 hL hlt
      subst e
      go_wp2_with fail
      refine CK.out.mono ?_
      rintro e w1 ⟨rfl, hb1⟩
      have B1 := Lib.hid (below_on HBB.out hb1)
      have X1 := Lib.hid (HX.out.kept hb1)
      clear hb1 f
      by_cases hz0 : z = 0
      · have HF' := Lib.hid (show ∀ i, ∀ q : i < G.length, i < t + 1 → chkP n G[i] = 0 from fun i q h => by
          by_cases e : i = t
          · subst e; exact HZ.out.symm.trans hz0
          · exact HF.out i q (by omega))
        clear HZ
        subst hz0
        go_wp2_with fail
        go_roundw
        case rel => exact ⟨t + 1, rfl, by go_num, by omega, HF', B1, X1⟩
        case measure => simp [intOf]; omega
      · have AE := Lib.hid (show ansE n G er = z from (ansE_at HL.out HF.out (fun h => hz0 (HZ.out.trans h))).trans HZ.out.symm)
        have x1 := X1.out.cell
        have x2 := X1.out.free
        have X2 := Lib.hid (X1.out.put (.int .i64 z))
        have B2 := Lib.hid (B1.out.setCell (p := ⟨b, 0, none⟩) (by have := HB.out; show w.heap.size ≤ b; omega) (.int .i64 z))
        go_wp2_with fail
        refine leaves_cons (f := 94) (args := #[.pointer (some ⟨b, 0, none⟩)]) (by simp) (by simp [go_sem]) ?_
        refine (catchB_idle b _).mono ?_
        rintro e u' w'' ⟨rfl, rfl, rfl⟩
        have y1 := X2.out.cell
        refine ⟨.tuple #[.bool false, .int .i64 z], ?_, B2.out, Or.inr ⟨by rw [AE.out]; exact hz0, by rw [AE.out]⟩⟩
        simp [results, Tryz.results51, go_sem, y1]
    · have HA := Lib.hid (show ∀ L ∈ G, chkP n L = 0 from fun L hL => by
        obtain ⟨i, hi, rfl⟩ := List.getElem_of_mem hL
        exact HF.out i hi (by have := HM.out; omega))
      have AE := Lib.hid (show ansE n G er = er from ansE_none HA.out)
      have WK := Lib.hid (HW.out HA.out wr HBB.out)
      go_wp2_with fail
      refine WK.out.mono ?_
      rintro e w2 (⟨he, v, rfl, hv, hb2⟩ | ⟨he, rfl, hb2⟩)
      · have B1 := Lib.hid (below_on HBB.out hb2)
        have X1 := Lib.hid (HX.out.kept hb2)
        have x1 := X1.out.cell
        have x2 := X1.out.free
        have X2 := Lib.hid (X1.out.put (.int .i64 0))
        have B2 := Lib.hid (B1.out.setCell (p := ⟨b, 0, none⟩) (by have := HB.out; show w.heap.size ≤ b; omega) (.int .i64 0))
        have R2 := Lib.hid (HST.out _ _ _ b (.int .i64 0) hv HX.out.lt)
        clear hv hb2
        go_wp2_with fail
        refine leaves_cons (f := 94) (args := #[.pointer (some ⟨b, 0, none⟩)]) (by simp) (by simp [go_sem]) ?_
        refine (catchB_idle b _).mono ?_
        rintro e u' w'' ⟨rfl, rfl, rfl⟩
        have y1 := X2.out.cell
        refine ⟨.tuple #[v, .int .i64 0], ?_, B2.out, Or.inl ⟨by rw [AE.out]; exact he, wr, v, HBB.out, rfl, R2.out⟩⟩
        simp [results, Tryz.results51, go_sem, y1]
      · have B1 := Lib.hid (below_on HBB.out hb2)
        have X1 := Lib.hid (HX.out.kept hb2)
        have X2 := Lib.hid (X1.out.put (.int .i64 er))
        have B2 := Lib.hid (B1.out.setCell (p := ⟨b, 0, none⟩) (by have := HB.out; show w.heap.size ≤ b; omega) (.int .i64 er))
        clear hb2
        go_wp2_with fail
        refine leaves_cons (f := 94) (args := #[.pointer (some ⟨b, 0, none⟩)]) (by simp) (by simp [go_sem]) ?_
        refine (catchB_panic b er _ _ X1.out X1.out.cell).mono ?_
        rintro e u' w'' ⟨rfl, rfl, rfl⟩
        have y1 := X2.out.cell
        refine ⟨.tuple #[.bool false, .int .i64 er], ?_, B2.out, Or.inr ⟨by rw [AE.out]; exact he, by rw [AE.out]⟩⟩
        simp [results, Tryz.results51, go_sem, y1]
end Go.Proofs.YtbhaoaobhgilkaaGreat
