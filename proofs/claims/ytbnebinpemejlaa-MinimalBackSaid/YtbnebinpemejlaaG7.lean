/- Contracts of layer 3's read and open.; Equality of two matrices; when closing leaves a matrix as it is.; Plain mathematics: what is closed keeps to the inequality of triangles, also of limits somewhat out of range.; Plain mathematics: closing leaves a matrix as it is exactly if it passes the reference's Check. -/
import Derived.Test.YtbnebinpemejlaaG6
import Derived.Deep.WholeRow
import Derived.Deep.Upon
import Derived.DeepKeys

namespace Go.Proofs.Ytbnebinpemejlaa
open Go.RowKit

theorem mx_info : (Try.prog.info? 80).map (fun i => (i.zero, i.size)) = some (some (.agg (mcs 0 [])), 122) := by kernel_rfl

theorem mx_zero (w : World) : (zeroValue 80).run Try.prog w = .ok (.agg (mcs 0 [])) w := (zero_of_info mx_info).1 w

theorem mx_size : (Try.prog.info? 80).map (·.size) = some 122 := (zero_of_info mx_info).2

theorem mcs_size {n : Nat} {l : List Int} (hl : l.length ≤ 121) : (mcs n l).size = 122 := by
  simp [mcs, pad]; omega

theorem mcs_one (n : Nat) (l : List Int) : (mcs n l).all (·.oneCell') = true := by
  rw [Array.all_eq_true_iff_forall_mem]
  intro v hv
  simp [mcs] at hv
  rcases hv with rfl | ⟨x, _, rfl⟩ <;> rfl

theorem mx_build0 (w : World) : (Instr.build 80 #[]).run Try.prog w = .ok (.agg (mcs 0 [])) w := run_build w _ _ _ (by kernel_rfl)

theorem mx_load {w : World} {b : Nat} {cs : Array Value} (h : w.heap[b]? = some (.cells cs 80 (0, 0))) (hs : cs.size = 122) : (loadVar 80 ⟨b, 0, none⟩).run Try.prog w = .ok (.agg cs) w :=
  run_loadVar_row w b _ _ cs (0, 0) _ h Try.underlying80 rfl (by rw [hs]; exact mx_size)

theorem mx_loadAt {w : World} {b : Nat} {cs : Array Value} (h : w.heap[b]? = some (.cells cs 80 (0, 0))) (hs : cs.size = 122) : (Instr.loadAt 80 (.pointer (some ⟨b, 0, none⟩))).run Try.prog w = .ok (.agg cs) w := by
  simp only [Instr.loadAt, Instr.sureAddr, Sem.run_bind, Sem.run_pure, Result.andThen_ok, mx_load h hs]

theorem mx_store {w : World} {b : Nat} {old cs : Array Value} (h : w.heap[b]? = some (.cells old 80 (0, 0))) (ho : old.size = 122) (hs : cs.size = 122) (h1 : cs.all (·.oneCell') = true) :
    (Instr.storeAt 80 (.pointer (some ⟨b, 0, none⟩)) (.agg cs)).run Try.prog w = .ok () (w.setRow b cs) := by
  simp only [Instr.storeAt, Instr.sureAddr, Sem.run_bind, Sem.run_pure, Result.andThen_ok]
  exact run_storeVar_row w b _ _ old cs h (by rw [hs]; exact mx_size) (by rw [ho, hs]) h1

theorem mx_storeC {w : World} {b : Nat} {old cs : Array Value} (h : w.heap[b]? = some (.cells old 80 (0, 0))) (ho : old.size = 122) (hs : cs.size = 122) (h1 : cs.all (·.oneCell') = true) :
    (storeCells ⟨b, 0, none⟩ cs.toList).run Try.prog w = .ok () (w.setRow b cs) := by
  have := mx_store h ho hs h1
  simp only [Instr.storeAt, Instr.sureAddr, Sem.run_bind, Sem.run_pure, Result.andThen_ok] at this
  cases hq : Try.prog.info? 80 with
  | none => have := mx_size; simp [hq] at this
  | some i =>
    have hi := mx_size
    rw [hq] at hi
    have hs' : cs.size = i.size := by simp at hi; omega
    simpa [storeVar, sizeOf, typeInfo, hq, Value.cells, hs'] using this

theorem mx_loadC {w : World} {b : Nat} {cs : Array Value} (h : w.heap[b]? = some (.cells cs 80 (0, 0))) (hs : cs.size = 122) :
    (loadCellsFrom ⟨b, 0, none⟩ 0 122 #[]).run Try.prog w = .ok cs w := by
  have := run_loadCells_list (P := Try.prog) w ⟨b, 0, none⟩ cs.toList (fun j v hv => by
    rw [addr_add, cell_of_row _ _ j cs _ _ h]
    simpa using hv)
  rw [show cs.toList.length = 122 by simpa using hs] at this
  simpa [loadCells] using this

/-- Block b is a variable for a matrix. -/
def Var (w : World) (b : Nat) (cs : Array Value) : Prop := w.heap[b]? = some (.cells cs 80 (0, 0)) ∧ cs.size = 122

theorem Var.made (w : World) : Var (w.alloc (.cells (mcs 0 []) 80)) w.heap.size (mcs 0 []) := ⟨heap_alloc_last w _, mcs_size (by simp)⟩

theorem Var.lt {w : World} {b : Nat} {cs : Array Value} (h : Var w b cs) : b < w.heap.size := by
  by_cases e : b < w.heap.size
  · exact e
  · have := h.1; rw [Array.getElem?_eq_none (by omega)] at this; cases this

theorem Var.kept {w w' : World} {b : Nat} {cs : Array Value} (h : Var w b cs) (hb : Below w.heap.size w w') : Var w' b cs := ⟨(hb.block b h.lt).trans h.1, h.2⟩

theorem Var.put {w : World} {b : Nat} {old : Array Value} (h : Var w b old) (cs : Array Value) (hs : cs.size = 122) : Var (w.setRow b cs) b cs := ⟨setRow_heap w b old _ _ _ h.1, hs⟩

theorem Below.setRow {B : Nat} {w w' : World} (h : Below B w w') {b : Nat} (hle : B ≤ b) (cs : Array Value) : Below B w (w'.setRow b cs) :=
  ⟨h.os, h.tape, h.output, by simpa using h.size, fun k hk => (setRow_other w' b k cs (by omega)).trans (h.block k hk)⟩

theorem wpl_load {ops : Array Oper} {rest : List Oper} {o : Oper} {a : Act} {w : World} {Q : Exit → Act → World → Prop} (hgd : o.guard = none) (x : Operand) (ho : o.op = .load 80 x)
    (b : Nat) (hx : a.eval x = .pointer (some ⟨b, 0, none⟩)) (cs : Array Value) (hv : Var w b cs) (h : wpList Try.prog ops Q rest (a.put o.dst (.agg cs)) w) : wpList Try.prog ops Q (o :: rest) a w :=
  wpList_load_row hgd _ x ho b hx _ cs (0, 0) _ hv.1 Try.underlying80 rfl (by rw [hv.2]; exact mx_size) h

theorem wpl_store {ops : Array Oper} {rest : List Oper} {o : Oper} {a : Act} {w : World} {Q : Exit → Act → World → Prop} (hgd : o.guard = none) (x y : Operand) (ho : o.op = .store 80 x y)
    (b : Nat) (cs : Array Value) (hx : a.eval x = .pointer (some ⟨b, 0, none⟩)) (hy : a.eval y = .agg cs) (old : Array Value) (hv : Var w b old) (hs : cs.size = 122) (h1 : cs.all (·.oneCell') = true)
    (h : wpList Try.prog ops Q rest (a.put o.dst undef) (w.setRow b cs)) : wpList Try.prog ops Q (o :: rest) a w :=
  wpList_store_row hgd _ x y ho b cs hx hy _ old hv.1 (by rw [hs]; exact mx_size) (by rw [hv.2, hs]) h1 h

theorem results_mx {fn : Func} {p t : Tmp} (h : fn.results = #[.cell p 80, .tmp t]) (tmps : Array Value) {w : World} {b : Nat} {cs : Array Value} {v : Value}
    (hp : tmps.getD p undef = .pointer (some ⟨b, 0, none⟩)) (ht : tmps.getD t undef = v) (hv : Var w b cs) : (results fn tmps).run Try.prog w = .ok (.tuple #[.agg cs, v]) w := by
  have hp' : tmps[p]?.getD undef = .pointer (some ⟨b, 0, none⟩) := by simpa using hp
  have ht' : tmps[t]?.getD undef = v := by simpa using ht
  simp [results, h, hp', ht', asAddr, mx_load hv.1 hv.2]

set_option maxRecDepth 100000 in
set_option maxHeartbeats 4000000 in
theorem read_bad1 (N : Int) (l : List Int) (ao : Option Addr) (cap : Nat) (w : World) (hd : dimB N = false) :
    Calls Try.prog 61 #[.int .i64 N, .slice ao l.length cap] w (fun e w' => e = .returned (.tuple #[.agg (mcs 0 []), .bool false]) ∧ Below w.heap.size w w') := by
  have hz := mx_zero
  have h0 := mx_build0
  have PD := fun W => isDimension_any N W
  rw [hd] at PD
  have HD := Lib.hid PD
  have V0 := Var.made w
  have HV := Lib.hid V0
  have E0 := Lib.hid (one_more (w1 := w) (.cells (mcs 0 []) 80))
  have hs0 := mx_storeC V0.1 V0.2 (mcs_size (n := 0) (l := []) (by simp)) (mcs_one _ _)
  generalize l.length = len at *
  clear hd PD V0
  go_enter Try.func61, Try.ntmps61
  go_wp2_with fail
  refine (HD.out _).mono ?_
  rintro e w1 ⟨rfl, rfl⟩
  go_wp2_with fail
  refine bodyPost_ret (results_mx Try.results61 _ rfl rfl (HV.out.put (mcs 0 []) (mcs_size (by simp)))) rfl ⟨rfl, ?_⟩
  exact Below.setRow E0.out (Nat.le_refl _) _

/-- Which arguments of read are a matrix of a dimension. -/
def rdB (N : Int) (l : List Int) : Bool := dimB N && decide (l.length = (N.toNat + 1) * (N.toNat + 1)) && l.all lvB

def rdL (l : List Int) : Bool := l.all lvB

def rdV (n : Nat) (l : List Int) : Array Value := if rdL l then mcs n l else mcs 0 []

set_option maxRecDepth 100000 in
set_option maxHeartbeats 4000000 in
theorem read_bad2 (n : Nat) (l : List Int) (ao : Option Addr) (cap : Nat) (w : World) (hn : n ≤ 10) (hne : l.length ≠ (n + 1) * (n + 1)) :
    Calls Try.prog 61 #[.int .i64 n, .slice ao l.length cap] w (fun e w' => e = .returned (.tuple #[.agg (mcs 0 []), .bool false]) ∧ Below w.heap.size w w') := by
  have hz := mx_zero
  have h0 := mx_build0
  have PD := fun W => isDimension_any n W
  rw [show dimB (n : Int) = true by unfold dimB; simp; omega] at PD
  have HD := Lib.hid PD
  have HP := Lib.hid (fun W => places_any n W hn)
  have V0 := Var.made w
  have HV := Lib.hid V0
  have E0 := Lib.hid (one_more (w1 := w) (.cells (mcs 0 []) 80))
  have hs0 := mx_storeC V0.1 V0.2 (mcs_size (n := 0) (l := []) (by simp)) (mcs_one _ _)
  generalize l.length = len at *
  generalize (n + 1) * (n + 1) = sz at *
  have D : ((len : Int) != (sz : Int)) = true := by simp; omega
  clear PD V0 hne
  go_enter Try.func61, Try.ntmps61
  go_wp2_with fail
  refine (HD.out _).mono ?_
  rintro e w1 ⟨rfl, rfl⟩
  go_wp2_with fail
  refine (HP.out _).mono ?_
  rintro e w1 ⟨rfl, rfl⟩
  go_wp2_with fail
  refine bodyPost_ret (results_mx Try.results61 _ rfl rfl (HV.out.put (mcs 0 []) (mcs_size (by simp)))) rfl ⟨rfl, ?_⟩
  exact Below.setRow E0.out (Nat.le_refl _) _

theorem mx_buildN (n : Nat) (w : World) : (Instr.build 80 #[(0, .int .i64 n)]).run Try.prog w = .ok (.agg (mcs n [])) w := run_build w _ _ _ (by kernel_rfl)

theorem pad_next (d : List Int) (x : Int) (h : d.length < 121) : (pad d).set d.length x = pad (d ++ [x]) := by
  unfold pad
  rw [List.set_append_right _ _ (Nat.le_refl _), Nat.sub_self, List.length_append, show 121 - d.length = (121 - (d.length + 1)) + 1 by omega, List.replicate_succ]
  simp

theorem fill_row {b n : Nat} : ∀ (rest d : List Int) (w : World), w.heap[b]? = some (.cells (mcs n d) 80 (0, 0)) → (d ++ rest).length ≤ 121 →
    (w.setCells b (1 + d.length) (rest.map (Value.int .i64))).heap[b]? = some (.cells (mcs n (d ++ rest)) 80 (0, 0)) := by
  intro rest
  induction rest with
  | nil => intro d w h _; simpa [World.setCells] using h
  | cons x rest ih =>
    intro d w h hl
    have hl2 : d.length < 121 := by simp at hl; omega
    have h1 : (w.setCell ⟨b, 1 + d.length, none⟩ (.int .i64 x)).heap[b]? = some (.cells (mcs n (d ++ [x])) 80 (0, 0)) := by
      rw [heap_setCell_same w b _ _ _ _ h, Nat.add_comm]
      congr 2
      simp [mcs, ← pad_next d x hl2, List.map_set]
    have := ih (d ++ [x]) _ h1 (by simpa using hl)
    simpa [World.setCells, Nat.add_assoc] using this

theorem run_whole (b : Nat) (w : World) :
    (Instr.sliceAt 78 (.pointer (some ⟨b, 1, none⟩)) none none none).run Try.prog w = .ok (.slice (some ⟨b, 1, none⟩) 121 121) w := by
  have ha : Try.prog.arrayLen 78 = 121 := by simp [Program.arrayLen]
  have he : Try.prog.elem 78 = 43 := by simp [Program.elem]
  rw [run_sliceAt_array_all w 78 ⟨b, 1, none⟩ (by rw [ha, he]; exact cells_ty)]
  rw [he, limit_size]
  simp only [Result.andThen_ok, slicedAt, ha]
  rw [if_neg (by omega), Addr.add_mid]

theorem Below.setCells {B : Nat} {w : World} {b : Nat} (hle : B ≤ b) : ∀ (vs : List Value) (o : Nat) (w' : World), Below B w w' → Below B w (w'.setCells b o vs) := by
  intro vs
  induction vs with
  | nil => intro o w' h; exact h
  | cons v vs ih => intro o w' h; exact ih _ _ (h.setCell hle v)

set_option maxRecDepth 100000 in
set_option maxHeartbeats 4000000 in
theorem read_loop (n : Nat) (l : List Int) (a : Addr) (cap : Nat) (w : World) (hn : n ≤ 10) (hl : l.length = (n + 1) * (n + 1)) (hR : Rd w a l) :
    Calls Try.prog 61 #[.int .i64 n, .slice (some a) l.length cap] w
      (fun e w' => e = .returned (.tuple #[.agg (rdV n l), .bool (rdL l)]) ∧ Below w.heap.size w w') := by
  have hz := mx_zero
  have h0 := mx_build0
  have hbn := mx_buildN n
  have PD := fun W => isDimension_any n W
  rw [show dimB (n : Int) = true by unfold dimB; simp; omega] at PD
  have HD := Lib.hid PD
  have HP := Lib.hid (fun W => places_any n W hn)
  obtain ⟨w0, hw0⟩ : ∃ w0, w0 = w.alloc (.cells (mcs 0 []) 80) := ⟨_, rfl⟩
  have V0 : Var w0 w.heap.size (mcs 0 []) := by rw [hw0]; exact Var.made w
  have HV := Lib.hid V0
  have E0 := Lib.hid (show Below w.heap.size w w0 by rw [hw0]; exact one_more _)
  have hs0 := mx_storeC V0.1 V0.2 (mcs_size (n := 0) (l := []) (by simp)) (mcs_one _ _)
  have HR := Lib.hid (hR.on E0.out)
  have d2 := dsq_le hn
  have d1 := dsq_pos n
  have HLEN := Lib.hid hl
  clear hR PD V0
  generalize hsz : (n + 1) * (n + 1) = sz at *
  rw [hl]
  clear hl hsz
  have D : ((sz : Int) != (sz : Int)) = false := by simp
  go_enter Try.func61, Try.ntmps61
  go_wp2_with fail
  rw [← hw0]
  clear hw0
  refine (HD.out _).mono ?_
  rintro e w1 ⟨rfl, hw⟩
  rw [hw]; clear hw w1
  go_wp2_with fail
  refine (HP.out _).mono ?_
  rintro e w1 ⟨rfl, hw⟩
  rw [hw]; clear hw w1
  go_wp2_with fail
  go_loopw [22] (fun s wr => ∃ t : Nat, t ≤ sz ∧ s = .int .i64 t ∧ Hid (wr = w0) ∧ Hid (∀ i, i < t → lvB (Zo.gt l i) = true)) (fun s _ => sz - (intOf s).toNat)
  case atStart => exact ⟨0, by omega, rfl, Lib.hid rfl, Lib.hid (fun i hi => by omega)⟩
  case round =>
    obtain ⟨t, ht, rfl, HW, HT⟩ := hrel
    obtain rfl := HW.out
    clear HW
    by_cases htn : t < sz
    · obtain ⟨v, hv⟩ : ∃ v, v = Zo.gt l t := ⟨_, rfl⟩
      have c1 : wr.cell? (a.add t) = some (.int .i64 v) := by rw [hv]; exact HR.out t (by rw [HLEN.out]; exact htn)
      have HVV := Lib.hid hv
      clear hv
      have PV := fun W => limValid_free v W
      cases lv : lvB v
      · rw [lv] at PV
        have HE := Lib.hid (show rdL l = false by
          unfold rdL
          rw [List.all_eq_false]
          refine ⟨l[t]'(by rw [HLEN.out]; exact htn), List.getElem_mem _, ?_⟩
          rw [show l[t]'(by rw [HLEN.out]; exact htn) = v by rw [HVV.out]; simp [Zo.gt, show t < l.length by rw [HLEN.out]; exact htn], lv]
          decide)
        have PW := Lib.hid PV
        clear PV
        go_wp2_with fail
        refine (PW.out _).mono ?_
        rintro e w3 ⟨rfl, rfl⟩
        go_wp2_with fail
        refine bodyPost_ret (results_mx Try.results61 _ rfl rfl (HV.out.put (mcs 0 []) (mcs_size (by simp)))) rfl ⟨by unfold rdV; rw [HE.out]; rfl, ?_⟩
        exact Below.setRow E0.out (Nat.le_refl _) _
      · rw [lv] at PV
        have PW := Lib.hid PV
        have HLV := Lib.hid lv
        clear PV lv
        go_wp2_with fail
        refine (PW.out _).mono ?_
        rintro e w3 ⟨rfl, rfl⟩
        clear c1
        go_wp2_with fail
        go_roundw
        case rel =>
          refine ⟨t + 1, by omega, by go_num, Lib.hid (by first | rfl | trivial), Lib.hid (fun i hi => ?_)⟩
          by_cases e : i = t
          · rw [e, ← HVV.out]; exact HLV.out
          · exact HT.out i (by omega)
        case measure => simp [intOf]; omega
    · have HE := Lib.hid (show rdL l = true by
        unfold rdL
        rw [List.all_eq_true]
        intro x hx
        obtain ⟨i, hi, rfl⟩ := List.getElem_of_mem hx
        have := HT.out i (by have := HLEN.out; omega)
        simpa [Zo.gt, hi] using this)
      clear hs0
      have V1 : Var (wr.alloc (.cells (mcs 0 []) 80)) wr.heap.size (mcs 0 []) := Var.made wr
      have hs1 := mx_storeC V1.1 V1.2 (mcs_size (n := n) (l := []) (by simp)) (mcs_one _ _)
      rw [World.setRow_alloc_new, show (mcs n []).toList = (mcs 0 []).toList.set 0 (.int .i64 n) from rfl] at hs1
      have hr := run_whole wr.heap.size
      obtain ⟨w2, hw2⟩ : ∃ w2, w2 = wr.alloc (.cells (mcs n []) 80) := ⟨_, rfl⟩
      have V2 : w2.heap[wr.heap.size]? = some (.cells (mcs n []) 80 (0, 0)) := by rw [hw2]; exact heap_alloc_last wr _
      have L1 : l.length ≤ 121 := by rw [HLEN.out]; exact d2
      have hcp := fun ty => run_copy_cells (P := Try.prog) w2 22 22 ty 43 wr.heap.size 1 121 121 a sz cap (l.map (Value.int .i64)) Try.underlying22
        (by rfl) (by rw [List.length_map, HLEN.out]; exact (Nat.min_eq_left d2).symm) (fun j v hj => by rw [hw2]; exact kept (one_more _) (HR.out.map j v hj))
        (fun j hj => by
          rw [cell_of_row w2 _ _ _ _ _ V2]
          have : 1 + j < (mcs n []).size := by rw [mcs_size (by simp)]; simp at hj; omega
          rw [Array.getElem?_eq_getElem this]; rfl)
        (fun j hj => frozen_of_row w2 _ _ _ _ V2) (by simp [Value.oneCell'])
      have V3 := fill_row (b := wr.heap.size) (n := n) l [] w2 V2 (by simpa using L1)
      have e3 : Below w.heap.size w (w2.setCells wr.heap.size 1 (l.map (Value.int .i64))) := by
        refine Below.setCells (Nat.le_of_lt HV.out.lt) _ _ _ ?_
        rw [hw2]; exact E0.out.alloc (Nat.le_of_lt HV.out.lt) _
      have k3 : (w2.setCells wr.heap.size 1 (l.map (Value.int .i64))).heap[w.heap.size]? = some (.cells (mcs 0 []) 80 (0, 0)) := by
        rw [World.heap_setCells_other _ _ _ _ (by rw [hw2]; simp; have := HV.out.lt; omega) (by have := HV.out.lt; omega), hw2, heap_alloc_old wr _ HV.out.lt]
        exact HV.out.1
      simp only [List.length_nil, List.nil_append, Nat.add_zero] at V3
      rw [hw2] at hcp
      simp only [List.length_map, HLEN.out] at hcp
      have VL : Var (w2.setCells wr.heap.size 1 (l.map (Value.int .i64))) wr.heap.size (mcs n l) := ⟨V3, mcs_size L1⟩
      rw [hw2] at VL
      have H3 := Lib.hid e3
      have K3 := Lib.hid (show Var (w2.setCells wr.heap.size 1 (l.map (Value.int .i64))) w.heap.size (mcs 0 []) from ⟨k3, mcs_size (by simp)⟩)
      rw [hw2] at H3 K3
      have S3 := Lib.hid (mcs_size (n := n) L1)
      clear e3 k3 V3 V2 V1 L1
      go_wp2_with (first | refine wpl_load rfl _ rfl _ rfl _ VL ?_ | refine wpl_store rfl _ _ rfl _ _ rfl rfl _ K3.out S3.out (mcs_one _ _) ?_)
      refine bodyPost_ret (results_mx Try.results61 _ rfl rfl (K3.out.put (mcs n l) S3.out)) rfl ⟨by unfold rdV; rw [HE.out]; rfl, ?_⟩
      exact Below.setRow H3.out (Nat.le_refl _) _
end Go.Proofs.Ytbnebinpemejlaa

namespace Go.Proofs.Ytbnebinpemejlaa
open Go.RowKit

theorem items_run (d : Nat) (l m : List Int) (w : World) : ∀ is : List Nat, (∀ i ∈ is, i < l.length ∧ i < m.length) →
    (Op.eqItems (d + 1) 43 1 ⟨l.map (Value.int .i64)⟩ ⟨m.map (Value.int .i64)⟩ is).run Try.prog w = .ok (is.all fun i => Zo.gt l i == Zo.gt m i) w := by
  intro is
  have hp : Try.prog.plainKey 43 = true := by kernel_rfl
  induction is with
  | nil => intro _; simp [Op.eqItems]
  | cons i is ih =>
    intro h
    obtain ⟨h1, h2⟩ := h i (by simp)
    have p1 : (part 43 ⟨l.map (Value.int .i64)⟩ (i * 1)).run Try.prog w = .ok (.int .i64 (Zo.gt l i)) w := run_part_plain w hp (by simp [Zo.gt, h1])
    have p2 : (part 43 ⟨m.map (Value.int .i64)⟩ (i * 1)).run Try.prog w = .ok (.int .i64 (Zo.gt m i)) w := run_part_plain w hp (by simp [Zo.gt, h2])
    have p3 := run_equalIn_int (P := Try.prog) (w := w) d 43 .i64 .i64 (Zo.gt l i) (Zo.gt m i) Try.underlying43
    simp only [Op.eqItems, Sem.run_bind, p1, p2, p3, Result.andThen_ok, List.all_cons]
    cases Zo.gt l i == Zo.gt m i
    · simp
    · simpa using ih (fun j hj => h j (by simp [hj]))

theorem pad_len {l : List Int} (hl : l.length ≤ 121) : (pad l).length = 121 := by simp [pad]; omega

theorem pad_inj {l m : List Int} (hm : m.length = l.length) (h : pad l = pad m) : l = m := by
  unfold pad at h
  exact (List.append_inj h hm.symm).1

theorem list_ext_gt {l m : List Int} (hm : m.length = l.length) (h : ∀ i, i < l.length → Zo.gt l i = Zo.gt m i) : l = m := by
  refine List.ext_getElem hm.symm fun i h1 h2 => ?_
  have := h i h1
  simpa [Zo.gt, h1, h2] using this

theorem mx_fields : ∃ f g, (Try.prog.fieldsOf 80).toList = [f, g] ∧ (f.name ≠ "_" ∧ f.type = 3 ∧ f.offset = 0) ∧ (g.name ≠ "_" ∧ g.type = 78 ∧ g.offset = 1) := by
  have hf : (Try.prog.fieldsOf 80).toList.map (fun f => (f.name != "_", f.type, f.offset)) = [(true, 3, 0), (true, 78, 1)] := by kernel_rfl
  revert hf
  generalize (Try.prog.fieldsOf 80).toList = fs
  intro hf
  cases fs with
  | nil => simp at hf
  | cons f r =>
    cases r with
    | nil => simp at hf
    | cons g r =>
      cases r with
      | cons _ _ => simp at hf
      | nil =>
        simp only [List.map_cons, List.map_nil, List.cons.injEq, Prod.mk.injEq, bne_iff_ne, and_true] at hf
        obtain ⟨⟨a1, a2, a3⟩, b1, b2, b3⟩ := hf
        exact ⟨f, g, rfl, ⟨a1, a2, a3⟩, b1, b2, b3⟩

theorem cells_size (w : World) : (sizeOf 78).run Try.prog w = .ok 121 w := by
  have h : (Try.prog.info? 78).map (·.size) = some 121 := by kernel_rfl
  cases hq : Try.prog.info? 78 with
  | none => simp [hq] at h
  | some i => simp [hq] at h; simp [sizeOf, typeInfo, hq, h]

theorem cells_part (n : Nat) (k : List Int) (hk : k.length ≤ 121) (w : World) : (part 78 (mcs n k) 1).run Try.prog w = .ok (.agg ⟨(pad k).map (Value.int .i64)⟩) w := by
  have ha : (isAgg 78).run Try.prog w = .ok true w := by
    unfold isAgg; rw [Sem.run_bind, run_underlying cells_ty w]; simp
  have hz := cells_size w
  have hx : (mcs n k).extract 1 (1 + 121) = ⟨(pad k).map (Value.int .i64)⟩ := by
    have := pad_len hk
    apply Array.toList_inj.1
    rw [Array.toList_extract]
    simp only [mcs, List.extract_eq_take_drop, List.drop_succ_cons, List.drop_zero]
    rw [List.take_of_length_le (by simp; omega)]
  unfold part
  rw [Sem.run_bind, ha, Result.andThen_ok, if_pos rfl, Sem.run_bind, hz, Result.andThen_ok, hx]
  rfl

theorem all_eq (N : Nat) (a b : List Int) (ha : a.length = N) (hb : b.length = N) : ((List.range N).all fun i => Zo.gt a i == Zo.gt b i) = decide (a = b) := by
  rw [Bool.eq_iff_iff, List.all_eq_true, decide_eq_true_eq]
  constructor
  · intro h
    exact list_ext_gt (by omega) fun i hi => by
      have := h i (List.mem_range.2 (by omega))
      simpa using this
  · intro h i _
    rw [h]; simp

theorem cells_eq (d : Nat) (l m : List Int) (hl : l.length ≤ 121) (hm : m.length = l.length) (w : World) :
    (Op.equalIn (d + 1 + 1) 78 (.agg ⟨(pad l).map (Value.int .i64)⟩) (.agg ⟨(pad m).map (Value.int .i64)⟩)).run Try.prog w = .ok (decide (l = m)) w := by
  obtain ⟨ie, hie⟩ : ∃ i, Try.prog.info? 43 = some i := by
    obtain ⟨i, hi, _⟩ := info_parts Try.info43
    exact ⟨i, hi⟩
  have hc : Try.prog.cellsOf 43 = 1 := by kernel_rfl
  rw [run_equalIn_array (P := Try.prog) w (d + 1) (⟨(pad l).map (Value.int .i64)⟩ : Array Value) ⟨(pad m).map (Value.int .i64)⟩ cells_ty hie]
  rw [hc, items_run d (pad l) (pad m) w (List.range 121) (fun i hi => by rw [pad_len hl, pad_len (by omega)]; exact ⟨List.mem_range.1 hi, List.mem_range.1 hi⟩)]
  rw [all_eq 121 (pad l) (pad m) (pad_len hl) (pad_len (by omega))]
  rw [show decide (pad l = pad m) = decide (l = m) from decide_eq_decide.2 ⟨fun h => pad_inj hm h, fun h => by rw [h]⟩]

theorem mx_eqIn (d : Nat) (n : Nat) (l m : List Int) (hl : l.length ≤ 121) (hm : m.length = l.length) (w : World) :
    (Op.equalIn (d + 1 + 1 + 1) 80 (.agg (mcs n l)) (.agg (mcs n m))).run Try.prog w = .ok (decide (l = m)) w := by
  have ht : Try.prog.underlying 80 = some (.struct (Try.prog.fieldsOf 80)) := by kernel_rfl
  have hs : Try.prog.stoodInHeld 80 = false := by kernel_rfl
  rw [run_equalIn_struct w (d + 1 + 1) _ _ _ ht hs]
  obtain ⟨f, g, e, h1, h2⟩ := mx_fields
  rw [e]
  have hpi : Try.prog.plainKey 3 = true := by kernel_rfl
  have q1 : (part 3 (mcs n l) 0).run Try.prog w = .ok (.int .i64 n) w := run_part_plain w hpi rfl
  have q2 : (part 3 (mcs n m) 0).run Try.prog w = .ok (.int .i64 n) w := run_part_plain w hpi rfl
  have q3 := run_equalIn_int (P := Try.prog) (w := w) (d + 1) 3 .i64 .i64 n n Try.underlying3
  have q4 := cells_part n l hl w
  have q5 := cells_part n m (by omega) w
  have q6 := cells_eq d l m hl hm w
  generalize mcs n l = A at *
  generalize mcs n m = B at *
  generalize (⟨(pad l).map (Value.int .i64)⟩ : Array Value) = A' at *
  generalize (⟨(pad m).map (Value.int .i64)⟩ : Array Value) = B' at *
  obtain ⟨h11, h12, h13⟩ := h1
  obtain ⟨h21, h22, h23⟩ := h2
  simp only [Op.eqFields, h12, h13, h22, h23]
  rw [if_pos h11, Sem.run_bind, q1, Result.andThen_ok, Sem.run_bind, q2, Result.andThen_ok, Sem.run_bind, q3, Result.andThen_ok, if_neg (by rw [beq_self_eq_true]; decide), if_pos h21,
    Sem.run_bind, q4, Result.andThen_ok, Sem.run_bind, q5, Result.andThen_ok, Sem.run_bind, q6, Result.andThen_ok]
  generalize decide (l = m) = r
  cases r
  · rfl
  · rfl

/-- Two matrices of one dimension, compared as values. -/
theorem run_mx_eq (n : Nat) (l m : List Int) (hl : l.length ≤ 121) (hm : m.length = l.length) (w : World) :
    (binOp .eql 80 (.agg (mcs n l)) (.agg (mcs n m))).run Try.prog w = .ok (.bool (decide (l = m))) w := by
  have h := mx_eqIn 9997 n l m hl hm w
  generalize mcs n l = A at *
  generalize mcs n m = B at *
  rw [run_eql_struct]
  simp only [Nat.reduceAdd] at h
  rw [h]
  rfl
end Go.Proofs.Ytbnebinpemejlaa

namespace Go.Proofs.Ytbnebinpemejlaa.Zo

/-- A limit, perhaps somewhat out of range. -/
def Wl (x : Int) : Prop := x = 1099511627776 ∨ (-4294967296 ≤ x ∧ x ≤ 4294967297)

theorem Vl.wl {x : Int} (h : Vl x) : Wl x := by unfold Vl at h; unfold Wl; omega

theorem pre_wl {n : Nat} {l : List Int} (hl : l.length = (n + 1) * (n + 1)) (hv : ∀ a b, a ≤ n → b ≤ n → Wl (At n l a b)) : ∀ a b, a ≤ n → b ≤ n → Wl (At n (pre n l) a b) := by
  refine (pre_keeps (R := fun x : List Int => x.length = (n + 1) * (n + 1) ∧ ∀ a b, a ≤ n → b ≤ n → Wl (At n x a b)) (fun x i j _ hi hj hx => ⟨by simpa using hx.1, fun a b ha hb => ?_⟩) ⟨hl, hv⟩).2
  rw [At_set hx.1 hi hj _ hb]
  split
  · have := hx.2 i j hi hj
    unfold Wl at this ⊢
    omega
  · exact hx.2 a b ha hb

theorem clo_repW {n : Nat} {l : List Int} (hn : n ≤ 10) (hl : l.length = (n + 1) * (n + 1)) (hv : ∀ a b, a ≤ n → b ≤ n → Wl (At n l a b)) (hd : ∀ i, i ≤ n → 1 ≤ At n (clo n l) i i) :
    ∀ t, t ≤ n + 1 → Rep n (rnd n l t) (fw (mat n l) t) ∧ ∀ k, k < t → fw (mat n l) k k k = some 1 := by
  have pv := pre_wl hl hv
  have hm : ∀ i j x, mat n l i j = some x → x ≤ 4294967297 ∧ -4294967297 + 1 ≤ x := by
    intro i j x h
    unfold mat at h
    split at h
    · rename_i c
      have := pv i j c.1 c.2
      unfold dec at h
      unfold Wl at this
      split at h
      · simp at h
      · simp at h; omega
    · simp at h
  have dg : ∀ t, t ≤ n + 1 → ∀ i, i ≤ n → At n (rnd n l t) i i = 1 := by
    intro t ht i hi
    have h1 := rnd_le hl t (n + 1 - t) (by omega) i i hi hi
    rw [show t + (n + 1 - t) = n + 1 by omega] at h1
    have h2 := rnd_le hl 0 t (by omega) i i hi hi
    have h3 := (pre_low hl i hi).1
    have h4 := hd i hi
    have e : rnd n l (n + 1) = clo n l := rfl
    have e0 : rnd n l 0 = pre n l := rfl
    rw [e] at h1
    rw [e0, Nat.zero_add] at h2
    omega
  intro t
  induction t with
  | zero =>
    intro _
    refine ⟨⟨rnd_length hl 0 (by omega), fun a b ha hb => ?_⟩, fun k hk => by omega⟩
    show At n (pre n l) a b = enc (mat n l a b)
    unfold mat
    rw [if_pos ⟨ha, hb⟩, enc_dec]
  | succ t ih =>
    intro ht
    obtain ⟨hr, hdg⟩ := ih (by omega)
    have htt : fw (mat n l) t t t = some 1 := by
      have h1 := hr.2 t t (by omega) (by omega)
      rw [dg t (by omega) t (by omega)] at h1
      cases e : fw (mat n l) t t t with
      | none => rw [e] at h1; simp [enc] at h1
      | some x => rw [e] at h1; simp [enc] at h1; rw [h1]
    have all : ∀ k, k < t + 1 → fw (mat n l) k k k = some 1 := by
      intro k hk
      by_cases e : k = t
      · rw [e]; exact htt
      · exact hdg k (by omega)
    have hB : Bd (fw (mat n l) t) := by
      intro i j x h
      constructor
      · have := fw_low (c := 4294967297) (by omega) (fun i j x h => (hm i j x h).2) t i j x h
        have p : (2 : Int) ^ t ≤ 2 ^ 11 := by
          have : (2 : Nat) ^ t ≤ 2 ^ 11 := Nat.pow_le_pow_right (by omega) (by omega)
          exact_mod_cast this
        omega
      · obtain ⟨S, _, hx⟩ := fw_bound (U := 4294967297) (fun i j x h => (hm i j x h).1) t hdg i j x h
        have := cnt_le S t
        omega
    refine ⟨?_, all⟩
    rw [rnd_succ]
    exact round_rep hB htt (by omega) hr

theorem fw_bd {n : Nat} {l : List Int} (hn : n ≤ 10) (hl : l.length = (n + 1) * (n + 1)) (hv : ∀ a b, a ≤ n → b ≤ n → Wl (At n l a b)) (hd : ∀ i, i ≤ n → 1 ≤ At n (clo n l) i i) :
    Rep n (clo n l) (fw (mat n l) (n + 1)) ∧ Tri (n + 1) (fw (mat n l) (n + 1)) ∧ Bd (fw (mat n l) (n + 1)) ∧ ∀ k, k ≤ n → fw (mat n l) (n + 1) k k = some 1 := by
  obtain ⟨hr, hdg⟩ := clo_repW hn hl hv hd (n + 1) (Nat.le_refl _)
  have pv := pre_wl hl hv
  have hm : ∀ i j x, mat n l i j = some x → x ≤ 4294967297 ∧ -4294967297 + 1 ≤ x := by
    intro i j x h
    unfold mat at h
    split at h
    · rename_i c
      have := pv i j c.1 c.2
      unfold dec at h
      unfold Wl at this
      split at h
      · simp at h
      · simp at h; omega
    · simp at h
  refine ⟨hr, tri_fw (n + 1) hdg, ?_, ?_⟩
  · intro i j x h
    constructor
    · have := fw_low (c := 4294967297) (by omega) (fun i j x h => (hm i j x h).2) (n + 1) i j x h
      have p : (2 : Int) ^ (n + 1) ≤ 2 ^ 11 := by
        have : (2 : Nat) ^ (n + 1) ≤ 2 ^ 11 := Nat.pow_le_pow_right (by omega) (by omega)
        exact_mod_cast this
      omega
    · obtain ⟨S, _, hx⟩ := fw_bound (U := 4294967297) (fun i j x h => (hm i j x h).1) (n + 1) hdg i j x h
      have := cnt_le S (n + 1)
      omega
  · intro k hk
    have h1 := hr.2 k k hk hk
    have h2 := hd k hk
    have h3 := clo_below hl (k := 0) (i := 0) (by omega) (by omega) hk hk
    have h4 := (pre_low hl k hk).1
    have e : (List.range 0).foldl (rlxJ n 0) (rnd n l 0) = pre n l := rfl
    rw [e] at h3
    have e2 : At n (rnd n l (n + 1)) k k = 1 := by
      show At n (clo n l) k k = 1
      omega
    rw [e2] at h1
    cases e : fw (mat n l) (n + 1) k k with
    | none => rw [e] at h1; simp [enc] at h1
    | some x => rw [e] at h1; simp [enc] at h1; rw [h1]

/-- .. in the code's own sums. -/
theorem clo_sums {n : Nat} {l : List Int} (hn : n ≤ 10) (hl : l.length = (n + 1) * (n + 1)) (hv : ∀ a b, a ≤ n → b ≤ n → Wl (At n l a b)) (hd : ∀ i, i ≤ n → 1 ≤ At n (clo n l) i i) :
    ∀ i j k, i ≤ n → j ≤ n → k ≤ n → At n (clo n l) i j ≤ smW (At n (clo n l) i k) (At n (clo n l) k j) := by
  intro i j k hi hj hk
  obtain ⟨rep, tri, bd, _⟩ := fw_bd hn hl hv hd
  have t := tri k (by omega) i j
  rw [rep.2 i j hi hj, rep.2 i k hi hk, rep.2 k j hk hj]
  have st := enc_step (a := fw (mat n l) (n + 1) i j) (b := fw (mat n l) (n + 1) i k) (c := fw (mat n l) (n + 1) k j) (fun x h => (bd i j x h).2) (fun x h => bd i k x h) (fun x h => bd k j x h)
  rw [mn_eq_left t] at st
  rw [← st]
  exact Int.min_le_right _ _
end Go.Proofs.Ytbnebinpemejlaa.Zo

namespace Go.Proofs.Ytbnebinpemejlaa
open Go.RowKit

theorem vl_of_lv {x : Int} (h : lvB x = true) : Zo.Vl x := by
  unfold lvB at h; simp at h; exact h

theorem lv_of_all {n : Nat} {l : List Int} (hl : l.length = (n + 1) * (n + 1)) (hv : rdL l = true) : ∀ a b, a ≤ n → b ≤ n → lvB (Zo.At n l a b) = true := by
  intro a b ha hb
  have hi := Zo.ix_lt ha hb
  rw [← hl] at hi
  unfold rdL at hv
  rw [List.all_eq_true] at hv
  have := hv _ (List.getElem_mem hi)
  have e : l[Zo.ix n a b] = Zo.At n l a b := by simp [Zo.At, Zo.gt, hi]
  rwa [e] at this

theorem vl_of {n : Nat} {l : List Int} (hl : l.length = (n + 1) * (n + 1)) (hv : rdL l = true) : ∀ a b, a ≤ n → b ≤ n → Zo.Vl (Zo.At n l a b) :=
  fun a b ha hb => vl_of_lv (lv_of_all hl hv a b ha hb)

theorem all_of_lv {n : Nat} {l : List Int} (hl : l.length = (n + 1) * (n + 1)) (hv : ∀ a b, a ≤ n → b ≤ n → lvB (Zo.At n l a b) = true) : rdL l = true := by
  unfold rdL
  rw [List.all_eq_true]
  intro x hx
  obtain ⟨i, hi, rfl⟩ := List.getElem_of_mem hx
  have h1 : i / (n + 1) ≤ n := by
    have : i < (n + 1) * (n + 1) := by omega
    have := Nat.div_lt_of_lt_mul this
    omega
  have h2 : i % (n + 1) ≤ n := by have := Nat.mod_lt i (show 0 < n + 1 by omega); omega
  have := hv _ _ h1 h2
  rwa [show Zo.At n l (i / (n + 1)) (i % (n + 1)) = l[i] by
    unfold Zo.At Zo.ix Zo.gt
    rw [show i / (n + 1) * (n + 1) + i % (n + 1) = i by rw [Nat.mul_comm]; exact Nat.div_add_mod i (n + 1)]
    simp [hi]] at this

theorem a64_of {l : List Int} (hv : rdL l = true) : Zo.A64 l := by
  intro j
  by_cases hj : j < l.length
  · unfold rdL at hv
    rw [List.all_eq_true] at hv
    have := vl_of_lv (hv _ (List.getElem_mem hj))
    rw [show l[j] = Zo.gt l j by simp [Zo.gt, hj]] at this
    unfold Zo.Vl at this
    omega
  · have : Zo.gt l j = 0 := by unfold Zo.gt; rw [List.getD_eq_getElem?_getD, List.getElem?_eq_none (by omega)]; rfl
    omega

/-- A matrix that is closed already stays as it is. -/
theorem clo_fix {n : Nat} {l : List Int} (hl : l.length = (n + 1) * (n + 1)) (h1 : ∀ a, a ≤ n → Zo.At n l a a ≤ 1) (h2 : ∀ a, a ≤ n → Zo.At n l 0 a ≤ 1)
    (h3 : ∀ i j k, i ≤ n → j ≤ n → k ≤ n → Zo.At n l i j ≤ Zo.smW (Zo.At n l i k) (Zo.At n l k j)) : Zo.clo n l = l := by
  have same : ∀ i j (y : Int), i ≤ n → j ≤ n → Zo.At n l i j ≤ y → l.set (Zo.ix n i j) (min (Zo.At n l i j) y) = l := by
    intro i j y hi hj hy
    have hlt := Zo.ix_lt hi hj
    rw [← hl] at hlt
    rw [Int.min_eq_left hy]
    have : Zo.At n l i j = l[Zo.ix n i j] := by simp [Zo.At, Zo.gt, hlt]
    rw [this, List.set_getElem_self]
  refine Zo.clo_keeps (R := fun x => x = l) (fun x i j hij hi hj hx => ?_) (fun x k i j hk hi hj hx => ?_) rfl
  · subst hx
    refine same i j 1 hi hj ?_
    rcases hij with rfl | rfl
    · exact h2 j hj
    · exact h1 i hi
  · subst hx
    exact same i j _ hi hj (h3 i j k hi hj hk)

theorem diag_of {n : Nat} {l : List Int} (h : cloB n l = false) : ∀ a, a ≤ n → 1 ≤ Zo.At n (Zo.clo n l) a a := by
  intro a ha
  unfold cloB at h
  rw [List.any_eq_false] at h
  have := h a (List.mem_range.2 (by omega))
  simp at this
  exact this

theorem clo_low {n : Nat} {l : List Int} (hl : l.length = (n + 1) * (n + 1)) : ∀ a, a ≤ n → Zo.At n (Zo.clo n l) a a ≤ 1 ∧ Zo.At n (Zo.clo n l) 0 a ≤ 1 := by
  intro a ha
  have h := Zo.pre_low hl a ha
  have b1 := Zo.clo_below hl (k := 0) (i := 0) (by omega) (by omega) ha ha
  have b2 := Zo.clo_below hl (k := 0) (i := 0) (by omega) (by omega) (show 0 ≤ n by omega) ha
  have e : (List.range 0).foldl (Zo.rlxJ n 0) (Zo.rnd n l 0) = Zo.pre n l := rfl
  rw [e] at b1 b2
  exact ⟨Int.le_trans b1 h.1, Int.le_trans b2 h.2⟩

/-- The rule of Floyd and Warshall keeps to the inequality of triangles, in the code's own sums. -/
theorem clo_tri_int {n : Nat} {l : List Int} (hn : n ≤ 10) (hl : l.length = (n + 1) * (n + 1)) (hv : rdL l = true) (hB : cloB n l = false) :
    ∀ i j k, i ≤ n → j ≤ n → k ≤ n → Zo.At n (Zo.clo n l) i j ≤ Zo.smW (Zo.At n (Zo.clo n l) i k) (Zo.At n (Zo.clo n l) k j) := by
  exact Zo.clo_sums hn hl (fun a b ha hb => (vl_of hl hv a b ha hb).wl) (diag_of hB)

theorem chk_iff {n : Nat} {l : List Int} (hn : n ≤ 10) (hl : l.length = (n + 1) * (n + 1)) (hv : rdL l = true) : chkE n l = 0 ↔ (cloB n l = false ∧ Zo.clo n l = l) := by
  have d : dimB (n : Int) = true := by unfold dimB; simp; omega
  constructor
  · intro h
    have hc : chkB n l = true := by
      unfold chkE at h
      cases e : chkB n l
      · rw [e] at h; simp at h
      · rfl
    unfold chkB at hc
    simp only [Bool.and_eq_true, Int.toNat_natCast] at hc
    have h1 := chk1_iff.1 hc.1.2
    have h2 := chk2_iff.1 hc.2
    have dg : ∀ a, a ≤ n → Zo.At n l a a = 1 := by
      intro a ha
      have := h1 a (by omega) a (by omega)
      unfold okI at this
      simp at this
      exact this.1.2
    have r0 : ∀ a, a ≤ n → Zo.At n l 0 a ≤ 1 := by
      intro a ha
      have := h1 0 (by omega) a (by omega)
      unfold okI at this
      simp at this
      exact this.2
    have tr : ∀ i j k, i ≤ n → j ≤ n → k ≤ n → Zo.At n l i j ≤ Zo.smW (Zo.At n l i k) (Zo.At n l k j) := by
      intro i j k hi hj hk
      have := h2 i (by omega) j (by omega) k (by omega)
      unfold okT at this
      simpa using this
    have e := clo_fix hl (fun a ha => by rw [dg a ha]; omega) r0 tr
    refine ⟨cloB_no fun i hi => ?_, e⟩
    rw [e, dg i (by omega)]
    omega
  · intro ⟨hB, e⟩
    have dg := diag_of hB
    have lo := clo_low hl
    have tr := clo_tri_int hn hl hv hB
    rw [e] at dg lo tr
    refine chkE_ok hn hl (fun i hi j hj => ?_) (fun i hi j hj k hk => ?_)
    · unfold okI
      rw [lv_of_all hl hv i j (by omega) (by omega)]
      simp only [Bool.true_and, Bool.and_eq_true, Bool.or_eq_true, decide_eq_true_eq]
      constructor
      · by_cases c : i = j
        · right
          subst c
          have := dg i (by omega)
          have := (lo i (by omega)).1
          omega
        · exact Or.inl c
      · by_cases c : i = 0
        · right
          subst c
          exact (lo j (by omega)).2
        · exact Or.inl c
    · unfold okT
      simpa using tr i j k (by omega) (by omega) (by omega)

/-- What open tells. -/
theorem chk_read {N : Int} {l : List Int} (h : rdB N l = false) : chkE N l = 2 := by
  unfold rdB at h
  cases hd : dimB N
  · exact chkE_bad1 hd
  · by_cases hl : l.length = (N.toNat + 1) * (N.toNat + 1)
    · rw [hd] at h
      simp only [hl, decide_true, Bool.true_and] at h
      obtain ⟨n, rfl, hn⟩ := dim_nat hd
      simp only [Int.toNat_natCast] at hl
      by_cases hc : chkE n l = 0
      · have hc2 : chkB n l = true := by
          unfold chkE at hc
          cases e : chkB n l
          · rw [e] at hc; simp at hc
          · rfl
        unfold chkB at hc2
        simp only [Bool.and_eq_true, Int.toNat_natCast] at hc2
        have h1 := chk1_iff.1 hc2.1.2
        have : rdL l = true := all_of_lv hl fun a b ha hb => by
          have := h1 a (by omega) b (by omega)
          unfold okI at this
          simp at this
          exact this.1.1
        unfold rdL at this
        rw [this] at h; cases h
      · exact chk_two hc
    · exact chkE_bad2 hl
end Go.Proofs.Ytbnebinpemejlaa
