/- Contracts of layer 3's read and open.; Equality of two matrices; when closing leaves a matrix as it is.; Plain mathematics: closing leaves a matrix as it is exactly if it passes the reference's Check.; Contracts of layer 3's read, of whatever arguments, and open.; Contracts of layer 3's open, of whatever zone, Check, and changed.; The contract of Free of layer 3's reference.; Contracts of layer 3's Up, Down and Free.; Contracts of layer 3's Up and Down, in the reference's words.; Contracts of layer 3's Up and Down.; The contract of And of layer 3's reference.; The contract of Same of layer 3's reference.; Contracts of And of any zone, and of is and Constant, of layer 3's reference.; The contract of Reset of layer 3's reference.; Layer 6: Bounds of the reference.; Layer 6: slices.Grow and slices.Concat at lists of int64; ofAllClocks.; The contract of layer 3's Close.; The contract of layer 3's Free.; Contracts for layer 3's And: which constraints are wrong. -/
import Derived.Test.YtjfhjckacfkpoaaHa2
import Derived.Deep.WholeRow
import Derived.Deep.Upon
import Derived.DeepKeys
import Derived.Deep.RegionHeld
import Derived.Test.YtjfhjckacfkpoaaHa1
import Derived.Lib.AppendZeros

namespace Go.Proofs.Ytjfhjckacfkpoaa
open Go.RowKit

theorem mx_info : (Try.prog.info? 85).map (fun i => (i.zero, i.size)) = some (some (.agg (mcs 0 [])), 122) := by kernel_rfl

theorem mx_zero (w : World) : (zeroValue 85).run Try.prog w = .ok (.agg (mcs 0 [])) w := (zero_of_info mx_info).1 w

theorem mx_size : (Try.prog.info? 85).map (·.size) = some 122 := (zero_of_info mx_info).2

theorem mcs_size {n : Nat} {l : List Int} (hl : l.length ≤ 121) : (mcs n l).size = 122 := by
  simp [mcs, pad]; omega

theorem mcs_one (n : Nat) (l : List Int) : (mcs n l).all (·.oneCell') = true := by
  rw [Array.all_eq_true_iff_forall_mem]
  intro v hv
  simp [mcs] at hv
  rcases hv with rfl | ⟨x, _, rfl⟩ <;> rfl

theorem mx_build0 (w : World) : (Instr.build 85 #[]).run Try.prog w = .ok (.agg (mcs 0 [])) w := run_build w _ _ _ (by kernel_rfl)

theorem mx_load {w : World} {b : Nat} {cs : Array Value} (h : w.heap[b]? = some (.cells cs 85 (0, 0))) (hs : cs.size = 122) : (loadVar 85 ⟨b, 0, none⟩).run Try.prog w = .ok (.agg cs) w :=
  run_loadVar_row w b _ _ cs (0, 0) _ h Try.underlying85 rfl (by rw [hs]; exact mx_size)

theorem mx_loadAt {w : World} {b : Nat} {cs : Array Value} (h : w.heap[b]? = some (.cells cs 85 (0, 0))) (hs : cs.size = 122) : (Instr.loadAt 85 (.pointer (some ⟨b, 0, none⟩))).run Try.prog w = .ok (.agg cs) w := by
  simp only [Instr.loadAt, Instr.sureAddr, Sem.run_bind, Sem.run_pure, Result.andThen_ok, mx_load h hs]

theorem mx_store {w : World} {b : Nat} {old cs : Array Value} (h : w.heap[b]? = some (.cells old 85 (0, 0))) (ho : old.size = 122) (hs : cs.size = 122) (h1 : cs.all (·.oneCell') = true) :
    (Instr.storeAt 85 (.pointer (some ⟨b, 0, none⟩)) (.agg cs)).run Try.prog w = .ok () (w.setRow b cs) := by
  simp only [Instr.storeAt, Instr.sureAddr, Sem.run_bind, Sem.run_pure, Result.andThen_ok]
  exact run_storeVar_row w b _ _ old cs h (by rw [hs]; exact mx_size) (by rw [ho, hs]) h1

theorem mx_storeC {w : World} {b : Nat} {old cs : Array Value} (h : w.heap[b]? = some (.cells old 85 (0, 0))) (ho : old.size = 122) (hs : cs.size = 122) (h1 : cs.all (·.oneCell') = true) :
    (storeCells ⟨b, 0, none⟩ cs.toList).run Try.prog w = .ok () (w.setRow b cs) := by
  have := mx_store h ho hs h1
  simp only [Instr.storeAt, Instr.sureAddr, Sem.run_bind, Sem.run_pure, Result.andThen_ok] at this
  cases hq : Try.prog.info? 85 with
  | none => have := mx_size; simp [hq] at this
  | some i =>
    have hi := mx_size
    rw [hq] at hi
    have hs' : cs.size = i.size := by simp at hi; omega
    simpa [storeVar, sizeOf, typeInfo, hq, Value.cells, hs'] using this

theorem mx_loadC {w : World} {b : Nat} {cs : Array Value} (h : w.heap[b]? = some (.cells cs 85 (0, 0))) (hs : cs.size = 122) :
    (loadCellsFrom ⟨b, 0, none⟩ 0 122 #[]).run Try.prog w = .ok cs w := by
  have := run_loadCells_list (P := Try.prog) w ⟨b, 0, none⟩ cs.toList (fun j v hv => by
    rw [addr_add, cell_of_row _ _ j cs _ _ h]
    simpa using hv)
  rw [show cs.toList.length = 122 by simpa using hs] at this
  simpa [loadCells] using this

/-- Block b is a variable for a matrix. -/
def Var (w : World) (b : Nat) (cs : Array Value) : Prop := w.heap[b]? = some (.cells cs 85 (0, 0)) ∧ cs.size = 122

theorem Var.made (w : World) : Var (w.alloc (.cells (mcs 0 []) 85)) w.heap.size (mcs 0 []) := ⟨heap_alloc_last w _, mcs_size (by simp)⟩

theorem Var.lt {w : World} {b : Nat} {cs : Array Value} (h : Var w b cs) : b < w.heap.size := by
  by_cases e : b < w.heap.size
  · exact e
  · have := h.1; rw [Array.getElem?_eq_none (by omega)] at this; cases this

theorem Var.kept {w w' : World} {b : Nat} {cs : Array Value} (h : Var w b cs) (hb : Below w.heap.size w w') : Var w' b cs := ⟨(hb.block b h.lt).trans h.1, h.2⟩

theorem Var.put {w : World} {b : Nat} {old : Array Value} (h : Var w b old) (cs : Array Value) (hs : cs.size = 122) : Var (w.setRow b cs) b cs := ⟨setRow_heap w b old _ _ _ h.1, hs⟩

theorem Below.setRow {B : Nat} {w w' : World} (h : Below B w w') {b : Nat} (hle : B ≤ b) (cs : Array Value) : Below B w (w'.setRow b cs) :=
  ⟨h.os, h.tape, h.output, by simpa using h.size, fun k hk => (setRow_other w' b k cs (by omega)).trans (h.block k hk)⟩

theorem wpl_load {ops : Array Oper} {rest : List Oper} {o : Oper} {a : Act} {w : World} {Q : Exit → Act → World → Prop} (hgd : o.guard = none) (x : Operand) (ho : o.op = .load 85 x)
    (b : Nat) (hx : a.eval x = .pointer (some ⟨b, 0, none⟩)) (cs : Array Value) (hv : Var w b cs) (h : wpList Try.prog ops Q rest (a.put o.dst (.agg cs)) w) : wpList Try.prog ops Q (o :: rest) a w :=
  wpList_load_row hgd _ x ho b hx _ cs (0, 0) _ hv.1 Try.underlying85 rfl (by rw [hv.2]; exact mx_size) h

theorem wpl_store {ops : Array Oper} {rest : List Oper} {o : Oper} {a : Act} {w : World} {Q : Exit → Act → World → Prop} (hgd : o.guard = none) (x y : Operand) (ho : o.op = .store 85 x y)
    (b : Nat) (cs : Array Value) (hx : a.eval x = .pointer (some ⟨b, 0, none⟩)) (hy : a.eval y = .agg cs) (old : Array Value) (hv : Var w b old) (hs : cs.size = 122) (h1 : cs.all (·.oneCell') = true)
    (h : wpList Try.prog ops Q rest (a.put o.dst undef) (w.setRow b cs)) : wpList Try.prog ops Q (o :: rest) a w :=
  wpList_store_row hgd _ x y ho b cs hx hy _ old hv.1 (by rw [hs]; exact mx_size) (by rw [hv.2, hs]) h1 h

theorem results_mx {fn : Func} {p t : Tmp} (h : fn.results = #[.cell p 85, .tmp t]) (tmps : Array Value) {w : World} {b : Nat} {cs : Array Value} {v : Value}
    (hp : tmps.getD p undef = .pointer (some ⟨b, 0, none⟩)) (ht : tmps.getD t undef = v) (hv : Var w b cs) : (results fn tmps).run Try.prog w = .ok (.tuple #[.agg cs, v]) w := by
  have hp' : tmps[p]?.getD undef = .pointer (some ⟨b, 0, none⟩) := by simpa using hp
  have ht' : tmps[t]?.getD undef = v := by simpa using ht
  simp [results, h, hp', ht', asAddr, mx_load hv.1 hv.2]

set_option maxRecDepth 100000 in
set_option maxHeartbeats 4000000 in
theorem read_bad1 (N : Int) (l : List Int) (ao : Option Addr) (cap : Nat) (w : World) (hd : dimB N = false) :
    Calls Try.prog 49 #[.int .i64 N, .slice ao l.length cap] w (fun e w' => e = .returned (.tuple #[.agg (mcs 0 []), .bool false]) ∧ Below w.heap.size w w') := by
  have hz := mx_zero
  have h0 := mx_build0
  have PD := fun W => isDimension_any N W
  rw [hd] at PD
  have HD := Lib.hid PD
  have V0 := Var.made w
  have HV := Lib.hid V0
  have E0 := Lib.hid (one_more (w1 := w) (.cells (mcs 0 []) 85))
  have hs0 := mx_storeC V0.1 V0.2 (mcs_size (n := 0) (l := []) (by simp)) (mcs_one _ _)
  generalize l.length = len at *
  clear hd PD V0
  go_enter Try.func49, Try.ntmps49
  go_wp2_with fail
  refine (HD.out _).mono ?_
  rintro e w1 ⟨rfl, rfl⟩
  go_wp2_with fail
  refine bodyPost_ret (results_mx Try.results49 _ rfl rfl (HV.out.put (mcs 0 []) (mcs_size (by simp)))) rfl ⟨rfl, ?_⟩
  exact Below.setRow E0.out (Nat.le_refl _) _

/-- Which arguments of read are a matrix of a dimension. -/
def rdB (N : Int) (l : List Int) : Bool := dimB N && decide (l.length = (N.toNat + 1) * (N.toNat + 1)) && l.all lvB

def rdL (l : List Int) : Bool := l.all lvB

def rdV (n : Nat) (l : List Int) : Array Value := if rdL l then mcs n l else mcs 0 []

set_option maxRecDepth 100000 in
set_option maxHeartbeats 4000000 in
theorem read_bad2 (n : Nat) (l : List Int) (ao : Option Addr) (cap : Nat) (w : World) (hn : n ≤ 10) (hne : l.length ≠ (n + 1) * (n + 1)) :
    Calls Try.prog 49 #[.int .i64 n, .slice ao l.length cap] w (fun e w' => e = .returned (.tuple #[.agg (mcs 0 []), .bool false]) ∧ Below w.heap.size w w') := by
  have hz := mx_zero
  have h0 := mx_build0
  have PD := fun W => isDimension_any n W
  rw [show dimB (n : Int) = true by unfold dimB; simp; omega] at PD
  have HD := Lib.hid PD
  have HP := Lib.hid (fun W => places_any n W hn)
  have V0 := Var.made w
  have HV := Lib.hid V0
  have E0 := Lib.hid (one_more (w1 := w) (.cells (mcs 0 []) 85))
  have hs0 := mx_storeC V0.1 V0.2 (mcs_size (n := 0) (l := []) (by simp)) (mcs_one _ _)
  generalize l.length = len at *
  generalize (n + 1) * (n + 1) = sz at *
  have D : ((len : Int) != (sz : Int)) = true := by simp; omega
  clear PD V0 hne
  go_enter Try.func49, Try.ntmps49
  go_wp2_with fail
  refine (HD.out _).mono ?_
  rintro e w1 ⟨rfl, rfl⟩
  go_wp2_with fail
  refine (HP.out _).mono ?_
  rintro e w1 ⟨rfl, rfl⟩
  go_wp2_with fail
  refine bodyPost_ret (results_mx Try.results49 _ rfl rfl (HV.out.put (mcs 0 []) (mcs_size (by simp)))) rfl ⟨rfl, ?_⟩
  exact Below.setRow E0.out (Nat.le_refl _) _

theorem mx_buildN (n : Nat) (w : World) : (Instr.build 85 #[(0, .int .i64 n)]).run Try.prog w = .ok (.agg (mcs n [])) w := run_build w _ _ _ (by kernel_rfl)

theorem pad_next (d : List Int) (x : Int) (h : d.length < 121) : (pad d).set d.length x = pad (d ++ [x]) := by
  unfold pad
  rw [List.set_append_right _ _ (Nat.le_refl _), Nat.sub_self, List.length_append, show 121 - d.length = (121 - (d.length + 1)) + 1 by omega, List.replicate_succ]
  simp

theorem fill_row {b n : Nat} : ∀ (rest d : List Int) (w : World), w.heap[b]? = some (.cells (mcs n d) 85 (0, 0)) → (d ++ rest).length ≤ 121 →
    (w.setCells b (1 + d.length) (rest.map (Value.int .i64))).heap[b]? = some (.cells (mcs n (d ++ rest)) 85 (0, 0)) := by
  intro rest
  induction rest with
  | nil => intro d w h _; simpa [World.setCells] using h
  | cons x rest ih =>
    intro d w h hl
    have hl2 : d.length < 121 := by simp at hl; omega
    have h1 : (w.setCell ⟨b, 1 + d.length, none⟩ (.int .i64 x)).heap[b]? = some (.cells (mcs n (d ++ [x])) 85 (0, 0)) := by
      rw [heap_setCell_same w b _ _ _ _ h, Nat.add_comm]
      congr 2
      simp [mcs, ← pad_next d x hl2, List.map_set]
    have := ih (d ++ [x]) _ h1 (by simpa using hl)
    simpa [World.setCells, Nat.add_assoc] using this

theorem run_whole (b : Nat) (w : World) :
    (Instr.sliceAt 83 (.pointer (some ⟨b, 1, none⟩)) none none none).run Try.prog w = .ok (.slice (some ⟨b, 1, none⟩) 121 121) w := by
  have ha : Try.prog.arrayLen 83 = 121 := by simp [Program.arrayLen]
  have he : Try.prog.elem 83 = 49 := by simp [Program.elem]
  rw [run_sliceAt_array_all w 83 ⟨b, 1, none⟩ (by rw [ha, he]; exact cells_ty)]
  rw [he, limit_size]
  simp only [Result.andThen_ok, slicedAt, ha]
  rw [if_neg (by omega), Addr.add_mid]

theorem Below.setCells {B : Nat} {w : World} {b : Nat} (hle : B ≤ b) : ∀ (vs : List Value) (o : Nat) (w' : World), Below B w w' → Below B w (w'.setCells b o vs) := by
  intro vs
  induction vs with
  | nil => intro o w' h; exact h
  | cons v vs ih => intro o w' h; exact ih _ _ (h.setCell hle v)

set_option maxRecDepth 100000 in
set_option maxHeartbeats 4000000 in
theorem read_loop (n : Nat) (l : List Int) (a : Addr) (cap : Nat) (w : World) (hn : n ≤ 10) (hl : l.length = (n + 1) * (n + 1)) (hR : Rd w a l) :
    Calls Try.prog 49 #[.int .i64 n, .slice (some a) l.length cap] w
      (fun e w' => e = .returned (.tuple #[.agg (rdV n l), .bool (rdL l)]) ∧ Below w.heap.size w w') := by
  have hz := mx_zero
  have h0 := mx_build0
  have hbn := mx_buildN n
  have PD := fun W => isDimension_any n W
  rw [show dimB (n : Int) = true by unfold dimB; simp; omega] at PD
  have HD := Lib.hid PD
  have HP := Lib.hid (fun W => places_any n W hn)
  obtain ⟨w0, hw0⟩ : ∃ w0, w0 = w.alloc (.cells (mcs 0 []) 85) := ⟨_, rfl⟩
  have V0 : Var w0 w.heap.size (mcs 0 []) := by rw [hw0]; exact Var.made w
  have HV := Lib.hid V0
  have E0 := Lib.hid (show Below w.heap.size w w0 by rw [hw0]; exact one_more _)
  have hs0 := mx_storeC V0.1 V0.2 (mcs_size (n := 0) (l := []) (by simp)) (mcs_one _ _)
  have HR := Lib.hid (hR.on E0.out)
  have d2 := dsq_le hn
  have d1 := dsq_pos n
  have HLEN := Lib.hid hl
  clear hR PD V0
  generalize hsz : (n + 1) * (n + 1) = sz at *
  rw [hl]
  clear hl hsz
  have D : ((sz : Int) != (sz : Int)) = false := by simp
  go_enter Try.func49, Try.ntmps49
  go_wp2_with fail
  rw [← hw0]
  clear hw0
  refine (HD.out _).mono ?_
  rintro e w1 ⟨rfl, hw⟩
  rw [hw]; clear hw w1
  go_wp2_with fail
  refine (HP.out _).mono ?_
  rintro e w1 ⟨rfl, hw⟩
  rw [hw]; clear hw w1
  go_wp2_with fail
  go_loopw [22] (fun s wr => ∃ t : Nat, t ≤ sz ∧ s = .int .i64 t ∧ Hid (wr = w0) ∧ Hid (∀ i, i < t → lvB (Zo.gt l i) = true)) (fun s _ => sz - (intOf s).toNat)
  case atStart => exact ⟨0, by omega, rfl, Lib.hid rfl, Lib.hid (fun i hi => by omega)⟩
  case round =>
    obtain ⟨t, ht, rfl, HW, HT⟩ := hrel
    obtain rfl := HW.out
    clear HW
    by_cases htn : t < sz
    · obtain ⟨v, hv⟩ : ∃ v, v = Zo.gt l t := ⟨_, rfl⟩
      have c1 : wr.cell? (a.add t) = some (.int .i64 v) := by rw [hv]; exact HR.out t (by rw [HLEN.out]; exact htn)
      have HVV := Lib.hid hv
      clear hv
      have PV := fun W => limValid_free v W
      cases lv : lvB v
      · rw [lv] at PV
        have HE := Lib.hid (show rdL l = false by
          unfold rdL
          rw [List.all_eq_false]
          refine ⟨l[t]'(by rw [HLEN.out]; exact htn), List.getElem_mem _, ?_⟩
          rw [show l[t]'(by rw [HLEN.out]; exact htn) = v by rw [HVV.out]; simp [Zo.gt, show t < l.length by rw [HLEN.out]; exact htn], lv]
          decide)
        have PW := Lib.hid PV
        clear PV
        go_wp2_with fail
        refine (PW.out _).mono ?_
        rintro e w3 ⟨rfl, rfl⟩
        go_wp2_with fail
        refine bodyPost_ret (results_mx Try.results49 _ rfl rfl (HV.out.put (mcs 0 []) (mcs_size (by simp)))) rfl ⟨by unfold rdV; rw [HE.out]; rfl, ?_⟩
        exact Below.setRow E0.out (Nat.le_refl _) _
      · rw [lv] at PV
        have PW := Lib.hid PV
        have HLV := Lib.hid lv
        clear PV lv
        go_wp2_with fail
        refine (PW.out _).mono ?_
        rintro e w3 ⟨rfl, rfl⟩
        clear c1
        go_wp2_with fail
        go_roundw
        case rel =>
          refine ⟨t + 1, by omega, by go_num, Lib.hid (by first | rfl | trivial), Lib.hid (fun i hi => ?_)⟩
          by_cases e : i = t
          · rw [e, ← HVV.out]; exact HLV.out
          · exact HT.out i (by omega)
        case measure => simp [intOf]; omega
    · have HE := Lib.hid (show rdL l = true by
        unfold rdL
        rw [List.all_eq_true]
        intro x hx
        obtain ⟨i, hi, rfl⟩ := List.getElem_of_mem hx
        have := HT.out i (by have := HLEN.out; omega)
        simpa [Zo.gt, hi] using this)
      clear hs0
      have V1 : Var (wr.alloc (.cells (mcs 0 []) 85)) wr.heap.size (mcs 0 []) := Var.made wr
      have hs1 := mx_storeC V1.1 V1.2 (mcs_size (n := n) (l := []) (by simp)) (mcs_one _ _)
      rw [World.setRow_alloc_new, show (mcs n []).toList = (mcs 0 []).toList.set 0 (.int .i64 n) from rfl] at hs1
      have hr := run_whole wr.heap.size
      obtain ⟨w2, hw2⟩ : ∃ w2, w2 = wr.alloc (.cells (mcs n []) 85) := ⟨_, rfl⟩
      have V2 : w2.heap[wr.heap.size]? = some (.cells (mcs n []) 85 (0, 0)) := by rw [hw2]; exact heap_alloc_last wr _
      have L1 : l.length ≤ 121 := by rw [HLEN.out]; exact d2
      have hcp := fun ty => run_copy_cells (P := Try.prog) w2 22 22 ty 49 wr.heap.size 1 121 121 a sz cap (l.map (Value.int .i64)) Try.underlying22
        (by rfl) (by rw [List.length_map, HLEN.out]; exact (Nat.min_eq_left d2).symm) (fun j v hj => by rw [hw2]; exact kept (one_more _) (HR.out.map j v hj))
        (fun j hj => by
          rw [cell_of_row w2 _ _ _ _ _ V2]
          have : 1 + j < (mcs n []).size := by rw [mcs_size (by simp)]; simp at hj; omega
          rw [Array.getElem?_eq_getElem this]; rfl)
        (fun j hj => frozen_of_row w2 _ _ _ _ V2) (by simp [Value.oneCell'])
      have V3 := fill_row (b := wr.heap.size) (n := n) l [] w2 V2 (by simpa using L1)
      have e3 : Below w.heap.size w (w2.setCells wr.heap.size 1 (l.map (Value.int .i64))) := by
        refine Below.setCells (Nat.le_of_lt HV.out.lt) _ _ _ ?_
        rw [hw2]; exact E0.out.alloc (Nat.le_of_lt HV.out.lt) _
      have k3 : (w2.setCells wr.heap.size 1 (l.map (Value.int .i64))).heap[w.heap.size]? = some (.cells (mcs 0 []) 85 (0, 0)) := by
        rw [World.heap_setCells_other _ _ _ _ (by rw [hw2]; simp; have := HV.out.lt; omega) (by have := HV.out.lt; omega), hw2, heap_alloc_old wr _ HV.out.lt]
        exact HV.out.1
      simp only [List.length_nil, List.nil_append, Nat.add_zero] at V3
      rw [hw2] at hcp
      simp only [List.length_map, HLEN.out] at hcp
      have VL : Var (w2.setCells wr.heap.size 1 (l.map (Value.int .i64))) wr.heap.size (mcs n l) := ⟨V3, mcs_size L1⟩
      rw [hw2] at VL
      have H3 := Lib.hid e3
      have K3 := Lib.hid (show Var (w2.setCells wr.heap.size 1 (l.map (Value.int .i64))) w.heap.size (mcs 0 []) from ⟨k3, mcs_size (by simp)⟩)
      rw [hw2] at H3 K3
      have S3 := Lib.hid (mcs_size (n := n) L1)
      clear e3 k3 V3 V2 V1 L1
      go_wp2_with (first | refine wpl_load rfl _ rfl _ rfl _ VL ?_ | refine wpl_store rfl _ _ rfl _ _ rfl rfl _ K3.out S3.out (mcs_one _ _) ?_)
      refine bodyPost_ret (results_mx Try.results49 _ rfl rfl (K3.out.put (mcs n l) S3.out)) rfl ⟨by unfold rdV; rw [HE.out]; rfl, ?_⟩
      exact Below.setRow H3.out (Nat.le_refl _) _
end Go.Proofs.Ytjfhjckacfkpoaa

namespace Go.Proofs.Ytjfhjckacfkpoaa
open Go.RowKit

theorem items_run (d : Nat) (l m : List Int) (w : World) : ∀ is : List Nat, (∀ i ∈ is, i < l.length ∧ i < m.length) →
    (Op.eqItems (d + 1) 49 1 ⟨l.map (Value.int .i64)⟩ ⟨m.map (Value.int .i64)⟩ is).run Try.prog w = .ok (is.all fun i => Zo.gt l i == Zo.gt m i) w := by
  intro is
  have hp : Try.prog.plainKey 49 = true := by kernel_rfl
  induction is with
  | nil => intro _; simp [Op.eqItems]
  | cons i is ih =>
    intro h
    obtain ⟨h1, h2⟩ := h i (by simp)
    have p1 : (part 49 ⟨l.map (Value.int .i64)⟩ (i * 1)).run Try.prog w = .ok (.int .i64 (Zo.gt l i)) w := run_part_plain w hp (by simp [Zo.gt, h1])
    have p2 : (part 49 ⟨m.map (Value.int .i64)⟩ (i * 1)).run Try.prog w = .ok (.int .i64 (Zo.gt m i)) w := run_part_plain w hp (by simp [Zo.gt, h2])
    have p3 := run_equalIn_int (P := Try.prog) (w := w) d 49 .i64 .i64 (Zo.gt l i) (Zo.gt m i) Try.underlying49
    simp only [Op.eqItems, Sem.run_bind, p1, p2, p3, Result.andThen_ok, List.all_cons]
    cases Zo.gt l i == Zo.gt m i
    · simp
    · simpa using ih (fun j hj => h j (by simp [hj]))

theorem pad_len {l : List Int} (hl : l.length ≤ 121) : (pad l).length = 121 := by simp [pad]; omega

theorem pad_inj {l m : List Int} (hm : m.length = l.length) (h : pad l = pad m) : l = m := by
  unfold pad at h
  exact (List.append_inj h hm.symm).1

theorem list_ext_gt {l m : List Int} (hm : m.length = l.length) (h : ∀ i, i < l.length → Zo.gt l i = Zo.gt m i) : l = m := by
  refine List.ext_getElem hm.symm fun i h1 h2 => ?_
  have := h i h1
  simpa [Zo.gt, h1, h2] using this

theorem mx_fields : ∃ f g, (Try.prog.fieldsOf 85).toList = [f, g] ∧ (f.name ≠ "_" ∧ f.type = 3 ∧ f.offset = 0) ∧ (g.name ≠ "_" ∧ g.type = 83 ∧ g.offset = 1) := by
  have hf : (Try.prog.fieldsOf 85).toList.map (fun f => (f.name != "_", f.type, f.offset)) = [(true, 3, 0), (true, 83, 1)] := by kernel_rfl
  revert hf
  generalize (Try.prog.fieldsOf 85).toList = fs
  intro hf
  cases fs with
  | nil => simp at hf
  | cons f r =>
    cases r with
    | nil => simp at hf
    | cons g r =>
      cases r with
      | cons _ _ => simp at hf
      | nil =>
        simp only [List.map_cons, List.map_nil, List.cons.injEq, Prod.mk.injEq, bne_iff_ne, and_true] at hf
        obtain ⟨⟨a1, a2, a3⟩, b1, b2, b3⟩ := hf
        exact ⟨f, g, rfl, ⟨a1, a2, a3⟩, b1, b2, b3⟩

theorem cells_size (w : World) : (sizeOf 83).run Try.prog w = .ok 121 w := by
  have h : (Try.prog.info? 83).map (·.size) = some 121 := by kernel_rfl
  cases hq : Try.prog.info? 83 with
  | none => simp [hq] at h
  | some i => simp [hq] at h; simp [sizeOf, typeInfo, hq, h]

theorem cells_part (n : Nat) (k : List Int) (hk : k.length ≤ 121) (w : World) : (part 83 (mcs n k) 1).run Try.prog w = .ok (.agg ⟨(pad k).map (Value.int .i64)⟩) w := by
  have ha : (isAgg 83).run Try.prog w = .ok true w := by
    unfold isAgg; rw [Sem.run_bind, run_underlying cells_ty w]; simp
  have hz := cells_size w
  have hx : (mcs n k).extract 1 (1 + 121) = ⟨(pad k).map (Value.int .i64)⟩ := by
    have := pad_len hk
    apply Array.toList_inj.1
    rw [Array.toList_extract]
    simp only [mcs, List.extract_eq_take_drop, List.drop_succ_cons, List.drop_zero]
    rw [List.take_of_length_le (by simp; omega)]
  unfold part
  rw [Sem.run_bind, ha, Result.andThen_ok, if_pos rfl, Sem.run_bind, hz, Result.andThen_ok, hx]
  rfl

theorem all_eq (N : Nat) (a b : List Int) (ha : a.length = N) (hb : b.length = N) : ((List.range N).all fun i => Zo.gt a i == Zo.gt b i) = decide (a = b) := by
  rw [Bool.eq_iff_iff, List.all_eq_true, decide_eq_true_eq]
  constructor
  · intro h
    exact list_ext_gt (by omega) fun i hi => by
      have := h i (List.mem_range.2 (by omega))
      simpa using this
  · intro h i _
    rw [h]; simp

theorem cells_eq (d : Nat) (l m : List Int) (hl : l.length ≤ 121) (hm : m.length = l.length) (w : World) :
    (Op.equalIn (d + 1 + 1) 83 (.agg ⟨(pad l).map (Value.int .i64)⟩) (.agg ⟨(pad m).map (Value.int .i64)⟩)).run Try.prog w = .ok (decide (l = m)) w := by
  obtain ⟨ie, hie⟩ : ∃ i, Try.prog.info? 49 = some i := by
    obtain ⟨i, hi, _⟩ := info_parts Try.info49
    exact ⟨i, hi⟩
  have hc : Try.prog.cellsOf 49 = 1 := by kernel_rfl
  rw [run_equalIn_array (P := Try.prog) w (d + 1) (⟨(pad l).map (Value.int .i64)⟩ : Array Value) ⟨(pad m).map (Value.int .i64)⟩ cells_ty hie]
  rw [hc, items_run d (pad l) (pad m) w (List.range 121) (fun i hi => by rw [pad_len hl, pad_len (by omega)]; exact ⟨List.mem_range.1 hi, List.mem_range.1 hi⟩)]
  rw [all_eq 121 (pad l) (pad m) (pad_len hl) (pad_len (by omega))]
  rw [show decide (pad l = pad m) = decide (l = m) from decide_eq_decide.2 ⟨fun h => pad_inj hm h, fun h => by rw [h]⟩]

theorem mx_eqIn (d : Nat) (n : Nat) (l m : List Int) (hl : l.length ≤ 121) (hm : m.length = l.length) (w : World) :
    (Op.equalIn (d + 1 + 1 + 1) 85 (.agg (mcs n l)) (.agg (mcs n m))).run Try.prog w = .ok (decide (l = m)) w := by
  have ht : Try.prog.underlying 85 = some (.struct (Try.prog.fieldsOf 85)) := by kernel_rfl
  have hs : Try.prog.stoodInHeld 85 = false := by kernel_rfl
  rw [run_equalIn_struct w (d + 1 + 1) _ _ _ ht hs]
  obtain ⟨f, g, e, h1, h2⟩ := mx_fields
  rw [e]
  have hpi : Try.prog.plainKey 3 = true := by kernel_rfl
  have q1 : (part 3 (mcs n l) 0).run Try.prog w = .ok (.int .i64 n) w := run_part_plain w hpi rfl
  have q2 : (part 3 (mcs n m) 0).run Try.prog w = .ok (.int .i64 n) w := run_part_plain w hpi rfl
  have q3 := run_equalIn_int (P := Try.prog) (w := w) (d + 1) 3 .i64 .i64 n n Try.underlying3
  have q4 := cells_part n l hl w
  have q5 := cells_part n m (by omega) w
  have q6 := cells_eq d l m hl hm w
  generalize mcs n l = A at *
  generalize mcs n m = B at *
  generalize (⟨(pad l).map (Value.int .i64)⟩ : Array Value) = A' at *
  generalize (⟨(pad m).map (Value.int .i64)⟩ : Array Value) = B' at *
  obtain ⟨h11, h12, h13⟩ := h1
  obtain ⟨h21, h22, h23⟩ := h2
  simp only [Op.eqFields, h12, h13, h22, h23]
  rw [if_pos h11, Sem.run_bind, q1, Result.andThen_ok, Sem.run_bind, q2, Result.andThen_ok, Sem.run_bind, q3, Result.andThen_ok, if_neg (by rw [beq_self_eq_true]; decide), if_pos h21,
    Sem.run_bind, q4, Result.andThen_ok, Sem.run_bind, q5, Result.andThen_ok, Sem.run_bind, q6, Result.andThen_ok]
  generalize decide (l = m) = r
  cases r
  · rfl
  · rfl

/-- Two matrices of one dimension, compared as values. -/
theorem run_mx_eq (n : Nat) (l m : List Int) (hl : l.length ≤ 121) (hm : m.length = l.length) (w : World) :
    (binOp .eql 85 (.agg (mcs n l)) (.agg (mcs n m))).run Try.prog w = .ok (.bool (decide (l = m))) w := by
  have h := mx_eqIn 9997 n l m hl hm w
  generalize mcs n l = A at *
  generalize mcs n m = B at *
  rw [run_eql_struct]
  simp only [Nat.reduceAdd] at h
  rw [h]
  rfl
end Go.Proofs.Ytjfhjckacfkpoaa

namespace Go.Proofs.Ytjfhjckacfkpoaa
open Go.RowKit

theorem vl_of_lv {x : Int} (h : lvB x = true) : Zo.Vl x := by
  unfold lvB at h; simp at h; exact h

theorem lv_of_all {n : Nat} {l : List Int} (hl : l.length = (n + 1) * (n + 1)) (hv : rdL l = true) : ∀ a b, a ≤ n → b ≤ n → lvB (Zo.At n l a b) = true := by
  intro a b ha hb
  have hi := Zo.ix_lt ha hb
  rw [← hl] at hi
  unfold rdL at hv
  rw [List.all_eq_true] at hv
  have := hv _ (List.getElem_mem hi)
  have e : l[Zo.ix n a b] = Zo.At n l a b := by simp [Zo.At, Zo.gt, hi]
  rwa [e] at this

theorem vl_of {n : Nat} {l : List Int} (hl : l.length = (n + 1) * (n + 1)) (hv : rdL l = true) : ∀ a b, a ≤ n → b ≤ n → Zo.Vl (Zo.At n l a b) :=
  fun a b ha hb => vl_of_lv (lv_of_all hl hv a b ha hb)

theorem all_of_lv {n : Nat} {l : List Int} (hl : l.length = (n + 1) * (n + 1)) (hv : ∀ a b, a ≤ n → b ≤ n → lvB (Zo.At n l a b) = true) : rdL l = true := by
  unfold rdL
  rw [List.all_eq_true]
  intro x hx
  obtain ⟨i, hi, rfl⟩ := List.getElem_of_mem hx
  have h1 : i / (n + 1) ≤ n := by
    have : i < (n + 1) * (n + 1) := by omega
    have := Nat.div_lt_of_lt_mul this
    omega
  have h2 : i % (n + 1) ≤ n := by have := Nat.mod_lt i (show 0 < n + 1 by omega); omega
  have := hv _ _ h1 h2
  rwa [show Zo.At n l (i / (n + 1)) (i % (n + 1)) = l[i] by
    unfold Zo.At Zo.ix Zo.gt
    rw [show i / (n + 1) * (n + 1) + i % (n + 1) = i by rw [Nat.mul_comm]; exact Nat.div_add_mod i (n + 1)]
    simp [hi]] at this

theorem a64_of {l : List Int} (hv : rdL l = true) : Zo.A64 l := by
  intro j
  by_cases hj : j < l.length
  · unfold rdL at hv
    rw [List.all_eq_true] at hv
    have := vl_of_lv (hv _ (List.getElem_mem hj))
    rw [show l[j] = Zo.gt l j by simp [Zo.gt, hj]] at this
    unfold Zo.Vl at this
    omega
  · have : Zo.gt l j = 0 := by unfold Zo.gt; rw [List.getD_eq_getElem?_getD, List.getElem?_eq_none (by omega)]; rfl
    omega

/-- A matrix that is closed already stays as it is. -/
theorem clo_fix {n : Nat} {l : List Int} (hl : l.length = (n + 1) * (n + 1)) (h1 : ∀ a, a ≤ n → Zo.At n l a a ≤ 1) (h2 : ∀ a, a ≤ n → Zo.At n l 0 a ≤ 1)
    (h3 : ∀ i j k, i ≤ n → j ≤ n → k ≤ n → Zo.At n l i j ≤ Zo.smW (Zo.At n l i k) (Zo.At n l k j)) : Zo.clo n l = l := by
  have same : ∀ i j (y : Int), i ≤ n → j ≤ n → Zo.At n l i j ≤ y → l.set (Zo.ix n i j) (min (Zo.At n l i j) y) = l := by
    intro i j y hi hj hy
    have hlt := Zo.ix_lt hi hj
    rw [← hl] at hlt
    rw [Int.min_eq_left hy]
    have : Zo.At n l i j = l[Zo.ix n i j] := by simp [Zo.At, Zo.gt, hlt]
    rw [this, List.set_getElem_self]
  refine Zo.clo_keeps (R := fun x => x = l) (fun x i j hij hi hj hx => ?_) (fun x k i j hk hi hj hx => ?_) rfl
  · subst hx
    refine same i j 1 hi hj ?_
    rcases hij with rfl | rfl
    · exact h2 j hj
    · exact h1 i hi
  · subst hx
    exact same i j _ hi hj (h3 i j k hi hj hk)

theorem diag_of {n : Nat} {l : List Int} (h : cloB n l = false) : ∀ a, a ≤ n → 1 ≤ Zo.At n (Zo.clo n l) a a := by
  intro a ha
  unfold cloB at h
  rw [List.any_eq_false] at h
  have := h a (List.mem_range.2 (by omega))
  simp at this
  exact this

theorem clo_low {n : Nat} {l : List Int} (hl : l.length = (n + 1) * (n + 1)) : ∀ a, a ≤ n → Zo.At n (Zo.clo n l) a a ≤ 1 ∧ Zo.At n (Zo.clo n l) 0 a ≤ 1 := by
  intro a ha
  have h := Zo.pre_low hl a ha
  have b1 := Zo.clo_below hl (k := 0) (i := 0) (by omega) (by omega) ha ha
  have b2 := Zo.clo_below hl (k := 0) (i := 0) (by omega) (by omega) (show 0 ≤ n by omega) ha
  have e : (List.range 0).foldl (Zo.rlxJ n 0) (Zo.rnd n l 0) = Zo.pre n l := rfl
  rw [e] at b1 b2
  exact ⟨Int.le_trans b1 h.1, Int.le_trans b2 h.2⟩

/-- The rule of Floyd and Warshall keeps to the inequality of triangles, in the code's own sums. -/
theorem clo_tri_int {n : Nat} {l : List Int} (hn : n ≤ 10) (hl : l.length = (n + 1) * (n + 1)) (hv : rdL l = true) (hB : cloB n l = false) :
    ∀ i j k, i ≤ n → j ≤ n → k ≤ n → Zo.At n (Zo.clo n l) i j ≤ Zo.smW (Zo.At n (Zo.clo n l) i k) (Zo.At n (Zo.clo n l) k j) := by
  exact Zo.clo_sums hn hl (fun a b ha hb => (vl_of hl hv a b ha hb).wl) (diag_of hB)

theorem chk_iff {n : Nat} {l : List Int} (hn : n ≤ 10) (hl : l.length = (n + 1) * (n + 1)) (hv : rdL l = true) : chkE n l = 0 ↔ (cloB n l = false ∧ Zo.clo n l = l) := by
  have d : dimB (n : Int) = true := by unfold dimB; simp; omega
  constructor
  · intro h
    have hc : chkB n l = true := by
      unfold chkE at h
      cases e : chkB n l
      · rw [e] at h; simp at h
      · rfl
    unfold chkB at hc
    simp only [Bool.and_eq_true, Int.toNat_natCast] at hc
    have h1 := chk1_iff.1 hc.1.2
    have h2 := chk2_iff.1 hc.2
    have dg : ∀ a, a ≤ n → Zo.At n l a a = 1 := by
      intro a ha
      have := h1 a (by omega) a (by omega)
      unfold okI at this
      simp at this
      exact this.1.2
    have r0 : ∀ a, a ≤ n → Zo.At n l 0 a ≤ 1 := by
      intro a ha
      have := h1 0 (by omega) a (by omega)
      unfold okI at this
      simp at this
      exact this.2
    have tr : ∀ i j k, i ≤ n → j ≤ n → k ≤ n → Zo.At n l i j ≤ Zo.smW (Zo.At n l i k) (Zo.At n l k j) := by
      intro i j k hi hj hk
      have := h2 i (by omega) j (by omega) k (by omega)
      unfold okT at this
      simpa using this
    have e := clo_fix hl (fun a ha => by rw [dg a ha]; omega) r0 tr
    refine ⟨cloB_no fun i hi => ?_, e⟩
    rw [e, dg i (by omega)]
    omega
  · intro ⟨hB, e⟩
    have dg := diag_of hB
    have lo := clo_low hl
    have tr := clo_tri_int hn hl hv hB
    rw [e] at dg lo tr
    refine chkE_ok hn hl (fun i hi j hj => ?_) (fun i hi j hj k hk => ?_)
    · unfold okI
      rw [lv_of_all hl hv i j (by omega) (by omega)]
      simp only [Bool.true_and, Bool.and_eq_true, Bool.or_eq_true, decide_eq_true_eq]
      constructor
      · by_cases c : i = j
        · right
          subst c
          have := dg i (by omega)
          have := (lo i (by omega)).1
          omega
        · exact Or.inl c
      · by_cases c : i = 0
        · right
          subst c
          exact (lo j (by omega)).2
        · exact Or.inl c
    · unfold okT
      simpa using tr i j k (by omega) (by omega) (by omega)

/-- What open tells. -/
theorem chk_read {N : Int} {l : List Int} (h : rdB N l = false) : chkE N l = 2 := by
  unfold rdB at h
  cases hd : dimB N
  · exact chkE_bad1 hd
  · by_cases hl : l.length = (N.toNat + 1) * (N.toNat + 1)
    · rw [hd] at h
      simp only [hl, decide_true, Bool.true_and] at h
      obtain ⟨n, rfl, hn⟩ := dim_nat hd
      simp only [Int.toNat_natCast] at hl
      by_cases hc : chkE n l = 0
      · have hc2 : chkB n l = true := by
          unfold chkE at hc
          cases e : chkB n l
          · rw [e] at hc; simp at hc
          · rfl
        unfold chkB at hc2
        simp only [Bool.and_eq_true, Int.toNat_natCast] at hc2
        have h1 := chk1_iff.1 hc2.1.2
        have : rdL l = true := all_of_lv hl fun a b ha hb => by
          have := h1 a (by omega) b (by omega)
          unfold okI at this
          simp at this
          exact this.1.1
        unfold rdL at this
        rw [this] at h; cases h
      · exact chk_two hc
    · exact chkE_bad2 hl
end Go.Proofs.Ytjfhjckacfkpoaa

namespace Go.Proofs.Ytjfhjckacfkpoaa
open Go.RowKit

def rdW (N : Int) (l : List Int) : Array Value := if rdB N l then mcs N.toNat l else mcs 0 []

theorem read_gen (N : Int) (l : List Int) (ao : Option Addr) (cap : Nat) (w : World) (hA : Arg w ao l) :
    Calls Try.prog 49 #[.int .i64 N, .slice ao l.length cap] w (fun e w' => e = .returned (.tuple #[.agg (rdW N l), .bool (rdB N l)]) ∧ Below w.heap.size w w') := by
  cases hd : dimB N
  · refine (read_bad1 N l ao cap w hd).mono ?_
    rintro e w' ⟨rfl, hb⟩
    have : rdB N l = false := by unfold rdB; rw [hd]; rfl
    exact ⟨by unfold rdW; rw [this]; rfl, hb⟩
  · obtain ⟨n, rfl, hn⟩ := dim_nat hd
    by_cases hl : l.length = (n + 1) * (n + 1)
    · have hne : l ≠ [] := by
        intro e; subst e
        have := dsq_pos n
        simp at hl
      obtain ⟨a, rfl, hR⟩ := hA hne
      refine (read_loop n l a cap w hn hl hR).mono ?_
      rintro e w' ⟨rfl, hb⟩
      have : rdB n l = rdL l := by unfold rdB rdL; rw [hd]; simp [hl]
      exact ⟨by unfold rdW rdV; rw [this]; rfl, hb⟩
    · refine (read_bad2 n l ao cap w hn hl).mono ?_
      rintro e w' ⟨rfl, hb⟩
      have : rdB n l = false := by unfold rdB; simp [hl]
      exact ⟨by unfold rdW; rw [this]; rfl, hb⟩

theorem rdB_ok {N : Int} {l : List Int} (h : rdB N l = true) : ∃ n : Nat, N = n ∧ n ≤ 10 ∧ l.length = (n + 1) * (n + 1) ∧ rdL l = true := by
  unfold rdB at h
  simp only [Bool.and_eq_true, decide_eq_true_eq] at h
  obtain ⟨n, rfl, hn⟩ := dim_nat h.1.1
  exact ⟨n, rfl, hn, by simpa using h.1.2, h.2⟩

theorem Var.far {w : World} {b b' : Nat} {cs : Array Value} (h : Var w b cs) (hne : b' ≠ b) (cs' : Array Value) : Var (w.setRow b' cs') b cs := ⟨(setRow_other w b' b cs' (by omega)).trans h.1, h.2⟩

set_option maxRecDepth 100000 in
set_option maxHeartbeats 4000000 in
theorem open_bad (N : Int) (l : List Int) (ao : Option Addr) (cap : Nat) (w : World) (hA : Arg w ao l) (hr : rdB N l = false) :
    Calls Try.prog 46 #[.agg #[.int .i64 N, .slice ao l.length cap]] w (fun e w' => e = .returned (.tuple #[.agg (mcs 0 []), .bool false]) ∧ Below w.heap.size w w') := by
  have hz := mx_zero
  have h0 := mx_build0
  have CR := Lib.hid (show ∀ W, Below w.heap.size w W → Calls Try.prog 49 #[.int .i64 N, .slice ao l.length cap] W (fun e w' => e = .returned (.tuple #[.agg (mcs 0 []), .bool false]) ∧ Below W.heap.size W w') from fun W h => by
    have := read_gen N l ao cap W (hA.on h)
    rwa [hr, show rdW N l = mcs 0 [] by unfold rdW; rw [hr]; rfl] at this)
  generalize l.length = len at *
  obtain ⟨w0, hw0⟩ : ∃ w0, w0 = (w.alloc (.cells #[.int .i64 N, .slice ao len cap] 24)).alloc (.cells (mcs 0 []) 85) := ⟨_, rfl⟩
  have b0 : w0.cell? ⟨w.heap.size, 0, none⟩ = some (.int .i64 N) := by rw [hw0]; go_simp
  have b1 : w0.cell? ⟨w.heap.size, 1, none⟩ = some (.slice ao len cap) := by rw [hw0]; go_simp
  have V0 : Var w0 (w.heap.size + 1) (mcs 0 []) := by
    rw [hw0]
    have := Var.made (w.alloc (.cells #[.int .i64 N, .slice ao len cap] 24))
    simpa using this
  have E0 := Lib.hid (show Below w.heap.size w w0 by rw [hw0]; exact past_two (Below.refl _ _))
  have HV := Lib.hid V0
  clear V0 hA
  go_enter Try.func46, Try.ntmps46
  go_wp2_with fail
  rw [← hw0]
  clear hw0
  refine (CR.out _ E0.out).mono ?_
  rintro e w1 ⟨rfl, hb⟩
  have V1 := HV.out.kept hb
  have E1 := below_on E0.out hb
  have hle := E1.size
  have V2 := (V1.kept (one_more (.cells (mcs 0 []) 85)))
  have V3 := V2.far (b' := w1.heap.size) (by have := V1.lt; omega) (mcs 0 [])
  have HV3 := Lib.hid V3
  have HE := Lib.hid E1
  have sz := mcs_size (n := 0) (l := []) (by simp)
  clear V1 V2 V3 E1 hb b0 b1
  go_wp2_with (first | refine wpl_store rfl _ _ rfl _ _ rfl rfl _ (Var.made _) sz (mcs_one _ _) ?_ | refine wpl_store rfl _ _ rfl _ _ rfl rfl _ HV3.out sz (mcs_one _ _) ?_)
  refine bodyPost_ret (results_mx Try.results46 _ rfl rfl (HV3.out.put (mcs 0 []) sz)) rfl ⟨rfl, ?_⟩
  exact Below.setRow (Below.setRow (HE.out.alloc hle _) hle _) (by omega) _

theorem Mx.var {w : World} {b n : Nat} {l : List Int} (hn : n ≤ 10) (h : Mx w b n l) : Var w b (mcs n l) := ⟨h.1, mcs_size (by rw [h.2]; exact dsq_le hn)⟩

theorem yld_load {o : Oper} {a : Act} {w : World} (x : Operand) (ho : o.op = .load 85 x) (b : Nat) (hx : a.eval x = .pointer (some ⟨b, 0, none⟩)) (cs : Array Value) (hv : Var w b cs) :
    (execOp a.eval o).run Try.prog w = .ok (.value (.agg cs)) w := by
  unfold execOp
  simp only [ho, hx, Sem.run_bind, mx_loadAt hv.1 hv.2, Result.andThen_ok, Sem.run_pure]

theorem mx_guard (x y : Operand) (xs ys : Array Value) (w : World) : (eqGuard .eql 85 x y (.agg xs) (.agg ys)).run Try.prog w = .ok () w := run_eqGuard_agg (P := Try.prog) w .eql _ x y xs ys (by kernel_rfl)

theorem yld_eql {o : Oper} {a : Act} {w : World} (x y : Operand) (t : TypeId) (ho : o.op = .binOp .eql 85 x y t) (n : Nat) (l m : List Int) (hl : l.length ≤ 121) (hm : m.length = l.length) (hx : a.eval x = .agg (mcs n l)) (hy : a.eval y = .agg (mcs n m)) :
    (execOp a.eval o).run Try.prog w = .ok (.value (.bool (decide (l = m)))) w := by
  unfold execOp
  simp only [ho, hx, hy, Sem.run_bind, mx_guard, run_mx_eq n l m hl hm, Result.andThen_ok, Sem.run_pure]

set_option maxRecDepth 100000 in
set_option maxHeartbeats 4000000 in
theorem open_ok (n : Nat) (l : List Int) (ao : Option Addr) (cap : Nat) (w : World) (hA : Arg w ao l) (hn : n ≤ 10) (hl : l.length = (n + 1) * (n + 1)) (hv : rdL l = true) :
    Calls Try.prog 46 #[.agg #[.int .i64 n, .slice ao l.length cap]] w (fun e w' => e = .returned (.tuple #[.agg (mcs n l), .bool (decide (chkE n l = 0))]) ∧ Below w.heap.size w w') := by
  have hz := mx_zero
  have hr : rdB n l = true := by unfold rdB; rw [show dimB (n : Int) = true by unfold dimB; simp; omega]; simp only [Int.toNat_natCast, hl, decide_true, Bool.true_and]; exact hv
  have CR := Lib.hid (show ∀ W, Below w.heap.size w W → Calls Try.prog 49 #[.int .i64 n, .slice ao l.length cap] W (fun e w' => e = .returned (.tuple #[.agg (mcs n l), .bool true]) ∧ Below W.heap.size W w') from fun W h => by
    have := read_gen n l ao cap W (hA.on h)
    rwa [hr, show rdW n l = mcs n l by unfold rdW; rw [hr]; rfl] at this)
  have sz : (mcs n l).size = 122 := mcs_size (by rw [hl]; exact dsq_le hn)
  have HC := Lib.hid (chk_iff hn hl hv)
  have HL := Lib.hid hl
  have H64 := Lib.hid (a64_of hv)
  clear hr hA hv
  generalize l.length = len at CR ⊢
  obtain ⟨w0, hw0⟩ : ∃ w0, w0 = (w.alloc (.cells #[.int .i64 n, .slice ao len cap] 24)).alloc (.cells (mcs 0 []) 85) := ⟨_, rfl⟩
  have b0 : w0.cell? ⟨w.heap.size, 0, none⟩ = some (.int .i64 n) := by rw [hw0]; go_simp
  have b1 : w0.cell? ⟨w.heap.size, 1, none⟩ = some (.slice ao len cap) := by rw [hw0]; go_simp
  have V0 : Var w0 (w.heap.size + 1) (mcs 0 []) := by
    rw [hw0]
    have := Var.made (w.alloc (.cells #[.int .i64 n, .slice ao len cap] 24))
    simpa using this
  have E0 := Lib.hid (show Below w.heap.size w w0 by rw [hw0]; exact past_two (Below.refl _ _))
  have HV := Lib.hid V0
  clear V0
  go_enter Try.func46, Try.ntmps46
  go_wp2_with fail
  rw [← hw0]
  clear hw0
  go_wp2_with fail
  refine (CR.out _ E0.out).mono ?_
  rintro e w1 ⟨rfl, hb⟩
  have V1 := HV.out.kept hb
  have E1 := below_on E0.out hb
  have hle := E1.size
  have V2 := (V1.kept (one_more (.cells (mcs 0 []) 85)))
  have V3 := V2.far (b' := w1.heap.size) (by have := V1.lt; omega) (mcs n l)
  have V4 := (Var.made w1).put (mcs n l) sz
  have HV3 := Lib.hid V3
  have HV4 := Lib.hid V4
  have HE := Lib.hid (show Below w.heap.size w ((w1.alloc (.cells (mcs 0 []) 85)).setRow w1.heap.size (mcs n l)) from Below.setRow (E1.alloc hle _) hle _)
  have hlt := V1.lt
  have V6 := Var.made ((w1.alloc (.cells (mcs 0 []) 85)).setRow w1.heap.size (mcs n l))
  rw [show ((w1.alloc (.cells (mcs 0 []) 85)).setRow w1.heap.size (mcs n l)).heap.size = w1.heap.size + 1 by simp] at V6
  have HV6 := Lib.hid V6
  clear V1 V2 V3 V4 V6 E1 hb b0 b1
  go_wp2_with (first | refine wpl_store rfl _ _ rfl _ _ rfl rfl _ (Var.made _) sz (mcs_one _ _) ?_ | refine wpl_load rfl _ rfl _ rfl _ HV4.out ?_ | refine wpl_store rfl _ _ rfl _ _ rfl rfl _ HV6.out sz (mcs_one _ _) ?_)
  obtain ⟨w6, hw6⟩ : ∃ w6, w6 = (((w1.alloc (.cells (mcs 0 []) 85)).setRow w1.heap.size (mcs n l)).alloc (.cells (mcs 0 []) 85)).setRow (w1.heap.size + 1) (mcs n l) := ⟨_, rfl⟩
  have R6 : Var w6 (w.heap.size + 1) (mcs 0 []) := by rw [hw6]; exact (HV3.out.kept (one_more _)).far (by omega) _
  have M6 : Var w6 w1.heap.size (mcs n l) := by rw [hw6]; exact (HV4.out.kept (one_more _)).far (by omega) _
  have C6 : Mx w6 (w1.heap.size + 1) n l := by rw [hw6]; exact ⟨(HV6.out.put (mcs n l) sz).1, HL.out⟩
  have E6 : Below w.heap.size w w6 := by rw [hw6]; exact Below.setRow (HE.out.alloc (by simp; omega) _) (by omega) _
  rw [← hw6]
  have HR6 := Lib.hid R6
  have HM6 := Lib.hid M6
  have HC6 := Lib.hid C6
  have HE6 := Lib.hid E6
  clear hw6 R6 M6 C6 E6 HV3 HV4 HV6 HE CR
  simp only [Act.put]
  refine wp_region_held_drew (S := fun w' => Var w' w1.heap.size (mcs n l)) (by kernel_rfl) HM6.out (fun h0 => ?_)
  refine wpAnyH_take (i := 0) (v := .agg (mcs n l)) rfl (by kernel_rfl) (by kernel_rfl) (by kernel_rfl) (fun _ _ _ h => h) (Or.inl ⟨by rfl, fun w' hS => yld_load _ rfl _ rfl _ hS⟩) h0 ?_
  simp only [Act.put, List.getElem_toArray, List.getElem_cons_zero, List.setIfInBounds_toArray, List.set_cons_zero, List.set_cons_succ]
  refine wpAnyH_ready (rs := [1]) (by kernel_rfl) (by simp) (AllReadyH.cons rfl (fun K hK => ?_) AllReadyH.nil)
  rw [if_pos (by rfl)]
  go_simp
  refine (shorten_any (w1.heap.size + 1) n l w6.drew hn HC6.out.drew H64.out).mono ?_
  rintro e w7 ⟨rfl, l', hM, hc⟩
  go_simp
  have M7 : Var w7 w1.heap.size (mcs n l) := ⟨(hM.2.block _ HM6.out.lt (by simp)).trans HM6.out.1, HM6.out.2⟩
  have R7 := Lib.hid (show Var w7 (w.heap.size + 1) (mcs 0 []) from ⟨(hM.2.block _ HR6.out.lt (by simp; omega)).trans HR6.out.1, HR6.out.2⟩)
  have E7 := Lib.hid (grown_over HE6.out.drew hM.2 (by omega))
  have HM7 := Lib.hid hM.1
  have HC7 := Lib.hid hc
  clear hM hc hz HE6 HR6 HM6 HC6
  refine hK.out _ _ M7 (fun h1 => ?_)
  clear hK K h0 M7
  cases hB : cloB n l
  · simp only [Bool.not_false]
    have hcl := HC7.out hB
    subst hcl
    have HE := Lib.hid (show decide (chkE n l = 0) = decide (Zo.clo n l = l) by
      rw [decide_eq_decide, HC.out, hB]; simp)
    refine wpAnyH_take (i := 2) (v := .bool true) rfl (by kernel_rfl) (by kernel_rfl) (by kernel_rfl) (fun _ _ _ h => h) (Or.inl ⟨by rfl, fun w' hS => by go_simp⟩) h1 ?_
    simp only [Act.put, List.getElem_toArray, List.getElem_cons_zero, List.getElem_cons_succ, List.setIfInBounds_toArray, List.set_cons_zero, List.set_cons_succ]
    refine wpAnyH_take (i := 4) (v := .agg (mcs n l)) rfl (by kernel_rfl) (by kernel_rfl) (by kernel_rfl) (fun _ _ _ h => h) (Or.inl ⟨by rfl, fun w' hS => yld_load _ rfl _ rfl _ hS⟩) h1 ?_
    simp only [Act.put, List.getElem_toArray, List.getElem_cons_zero, List.getElem_cons_succ, List.setIfInBounds_toArray, List.set_cons_zero, List.set_cons_succ]
    have szc : (mcs n (Zo.clo n l)).size = 122 := mcs_size (by rw [Zo.clo_length, hl]; exact dsq_le hn)
    refine wpAnyH_ready (rs := [3, 7]) (by kernel_rfl) (by simp) (AllReadyH.cons rfl (fun K hK => ?_) (AllReadyH.cons rfl (fun K hK => ?_) AllReadyH.nil))
    · rw [if_pos (by rfl)]
      refine wp_load_row _ _ rfl (w1.heap.size + 1) rfl _ (mcs n (Zo.clo n l)) (0, 0) _ HM7.out.1 Try.underlying85 rfl (by rw [szc]; exact mx_size) ?_
      refine hK.out _ _ h1 (fun h2 => ?_)
      clear hK K
      simp only [Act.put, List.getElem_toArray, List.getElem_cons_zero, List.getElem_cons_succ, List.setIfInBounds_toArray, List.set_cons_zero, List.set_cons_succ]
      refine wpAnyH_take (i := 5) (v := .bool (decide (Zo.clo n l = l))) rfl (by kernel_rfl) (by kernel_rfl) (by kernel_rfl) (fun _ _ _ h => h) (Or.inl ⟨by rfl, fun w' _ => yld_eql _ _ _ rfl n (Zo.clo n l) l (by rw [Zo.clo_length, hl]; exact dsq_le hn) (by rw [Zo.clo_length]) rfl rfl⟩) h2 ?_
      simp only [Act.put, List.getElem_toArray, List.getElem_cons_zero, List.getElem_cons_succ, List.setIfInBounds_toArray, List.set_cons_zero, List.set_cons_succ]
      refine wpAnyH_take (i := 6) (v := .bool (decide (Zo.clo n l = l))) rfl (by kernel_rfl) (by kernel_rfl) (by kernel_rfl) (fun _ _ _ h => h) (Or.inl ⟨by rfl, fun w' hS => by go_simp⟩) h2 ?_
      simp only [Act.put, List.getElem_toArray, List.getElem_cons_zero, List.getElem_cons_succ, List.setIfInBounds_toArray, List.set_cons_zero, List.set_cons_succ]
      refine wpAnyH_ready (rs := [7]) (by kernel_rfl) (by simp) (AllReadyH.cons rfl (fun K hK => ?_) AllReadyH.nil)
      rw [if_pos (by rfl)]
      refine wp_store_row _ _ _ rfl (w.heap.size + 1) (mcs n l) rfl rfl _ _ R7.out.1 (by rw [sz]; exact mx_size) (by rw [R7.out.2, sz]) (mcs_one _ _) ?_
      refine hK.out _ _ (h2.far (by omega) _) (fun h3 => ?_)
      clear hK K
      simp only [Act.put, List.getElem_toArray, List.getElem_cons_zero, List.getElem_cons_succ]
      refine wpAnyH_take (i := 8) (v := .bool (decide (Zo.clo n l = l))) rfl (by kernel_rfl) (by kernel_rfl) (by kernel_rfl) (fun _ _ _ h => h) (Or.inl ⟨by rfl, fun w' hS => by go_simp⟩) h3 ?_
      simp only [Act.put, List.getElem_toArray, List.getElem_cons_zero, List.getElem_cons_succ, List.setIfInBounds_toArray, List.set_cons_zero, List.set_cons_succ]
      refine wpAnyH_done (by kernel_rfl) ?_ _
      go_wp2_with fail
      refine bodyPost_ret (results_mx Try.results46 _ rfl rfl (R7.out.put (mcs n l) sz)) rfl ⟨by rw [HE.out]; rfl, ?_⟩
      exact Below.setRow E7.out (by omega) _
    · rw [if_pos (by rfl)]
      refine wp_store_row _ _ _ rfl (w.heap.size + 1) (mcs n l) rfl rfl _ _ R7.out.1 (by rw [sz]; exact mx_size) (by rw [R7.out.2, sz]) (mcs_one _ _) ?_
      refine hK.out _ _ (h1.far (by omega) _) (fun h2 => ?_)
      clear hK K
      simp only [Act.put, List.getElem_toArray, List.getElem_cons_zero, List.getElem_cons_succ]
      refine wpAnyH_ready (rs := [3]) (by kernel_rfl) (by simp) (AllReadyH.cons rfl (fun K hK => ?_) AllReadyH.nil)
      rw [if_pos (by rfl)]
      refine wp_load_row _ _ rfl (w1.heap.size + 1) rfl _ (mcs n (Zo.clo n l)) (0, 0) _ ((setRow_other w7 _ _ _ (by omega)).trans HM7.out.1) Try.underlying85 rfl (by rw [szc]; exact mx_size) ?_
      refine hK.out _ _ h2 (fun h3 => ?_)
      clear hK K
      simp only [Act.put, List.getElem_toArray, List.getElem_cons_zero, List.getElem_cons_succ, List.setIfInBounds_toArray, List.set_cons_zero, List.set_cons_succ]
      refine wpAnyH_take (i := 5) (v := .bool (decide (Zo.clo n l = l))) rfl (by kernel_rfl) (by kernel_rfl) (by kernel_rfl) (fun _ _ _ h => h) (Or.inl ⟨by rfl, fun w' _ => yld_eql _ _ _ rfl n (Zo.clo n l) l (by rw [Zo.clo_length, hl]; exact dsq_le hn) (by rw [Zo.clo_length]) rfl rfl⟩) h3 ?_
      simp only [Act.put, List.getElem_toArray, List.getElem_cons_zero, List.getElem_cons_succ, List.setIfInBounds_toArray, List.set_cons_zero, List.set_cons_succ]
      refine wpAnyH_take (i := 6) (v := .bool (decide (Zo.clo n l = l))) rfl (by kernel_rfl) (by kernel_rfl) (by kernel_rfl) (fun _ _ _ h => h) (Or.inl ⟨by rfl, fun w' hS => by go_simp⟩) h3 ?_
      simp only [Act.put, List.getElem_toArray, List.getElem_cons_zero, List.getElem_cons_succ, List.setIfInBounds_toArray, List.set_cons_zero, List.set_cons_succ]
      refine wpAnyH_take (i := 8) (v := .bool (decide (Zo.clo n l = l))) rfl (by kernel_rfl) (by kernel_rfl) (by kernel_rfl) (fun _ _ _ h => h) (Or.inl ⟨by rfl, fun w' hS => by go_simp⟩) h3 ?_
      simp only [Act.put, List.getElem_toArray, List.getElem_cons_zero, List.getElem_cons_succ, List.setIfInBounds_toArray, List.set_cons_zero, List.set_cons_succ]
      refine wpAnyH_done (by kernel_rfl) ?_ _
      go_wp2_with fail
      refine bodyPost_ret (results_mx Try.results46 _ rfl rfl (R7.out.put (mcs n l) sz)) rfl ⟨by rw [HE.out]; rfl, ?_⟩
      exact Below.setRow E7.out (by omega) _
  · simp only [Bool.not_true]
    have HE := Lib.hid (show decide (chkE n l = 0) = false by
      rw [decide_eq_false_iff_not, HC.out, hB]; simp)
    clear hB HC7 HM7
    refine wpAnyH_take (i := 2) (v := .bool false) rfl (by kernel_rfl) (by kernel_rfl) (by kernel_rfl) (fun _ _ _ h => h) (Or.inl ⟨by rfl, fun w' hS => by go_simp⟩) h1 ?_
    simp only [Act.put, List.getElem_toArray, List.getElem_cons_zero, List.getElem_cons_succ, List.setIfInBounds_toArray, List.set_cons_zero, List.set_cons_succ]
    refine wpAnyH_take (i := 3) (v := undef) rfl (by kernel_rfl) (by kernel_rfl) (by kernel_rfl) (fun _ _ _ h => h) (Or.inr ⟨by rfl, rfl⟩) h1 ?_
    simp only [Act.put, List.getElem_toArray, List.getElem_cons_zero, List.getElem_cons_succ, List.setIfInBounds_toArray, List.set_cons_zero, List.set_cons_succ]
    refine wpAnyH_take (i := 4) (v := undef) rfl (by kernel_rfl) (by kernel_rfl) (by kernel_rfl) (fun _ _ _ h => h) (Or.inr ⟨by rfl, rfl⟩) h1 ?_
    simp only [Act.put, List.getElem_toArray, List.getElem_cons_zero, List.getElem_cons_succ, List.setIfInBounds_toArray, List.set_cons_zero, List.set_cons_succ]
    refine wpAnyH_take (i := 5) (v := undef) rfl (by kernel_rfl) (by kernel_rfl) (by kernel_rfl) (fun _ _ _ h => h) (Or.inr ⟨by rfl, rfl⟩) h1 ?_
    simp only [Act.put, List.getElem_toArray, List.getElem_cons_zero, List.getElem_cons_succ, List.setIfInBounds_toArray, List.set_cons_zero, List.set_cons_succ]
    refine wpAnyH_take (i := 6) (v := .bool false) rfl (by kernel_rfl) (by kernel_rfl) (by kernel_rfl) (fun _ _ _ h => h) (Or.inl ⟨by rfl, fun w' hS => by go_simp⟩) h1 ?_
    simp only [Act.put, List.getElem_toArray, List.getElem_cons_zero, List.getElem_cons_succ, List.setIfInBounds_toArray, List.set_cons_zero, List.set_cons_succ]
    refine wpAnyH_ready (rs := [7]) (by kernel_rfl) (by simp) (AllReadyH.cons rfl (fun K hK => ?_) AllReadyH.nil)
    rw [if_pos (by rfl)]
    refine wp_store_row _ _ _ rfl (w.heap.size + 1) (mcs n l) rfl rfl _ _ R7.out.1 (by rw [sz]; exact mx_size) (by rw [R7.out.2, sz]) (mcs_one _ _) ?_
    refine hK.out _ _ (h1.far (by omega) _) (fun h2 => ?_)
    clear hK K
    simp only [Act.put, List.getElem_toArray, List.getElem_cons_zero, List.getElem_cons_succ]
    refine wpAnyH_take (i := 8) (v := .bool false) rfl (by kernel_rfl) (by kernel_rfl) (by kernel_rfl) (fun _ _ _ h => h) (Or.inl ⟨by rfl, fun w' hS => by go_simp⟩) h2 ?_
    simp only [Act.put, List.getElem_toArray, List.getElem_cons_zero, List.getElem_cons_succ, List.setIfInBounds_toArray, List.set_cons_zero, List.set_cons_succ]
    refine wpAnyH_done (by kernel_rfl) ?_ _
    go_wp2_with fail
    refine bodyPost_ret (results_mx Try.results46 _ rfl rfl (R7.out.put (mcs n l) sz)) rfl ⟨by rw [HE.out]; rfl, ?_⟩
    exact Below.setRow E7.out (by omega) _
end Go.Proofs.Ytjfhjckacfkpoaa

namespace Go.Proofs.Ytjfhjckacfkpoaa
open Go.RowKit

theorem Cell.kept_row {w : World} {p : Addr} {v : Value} (h : Cell w p v) {b : Nat} (hne : p.block ≠ b) (cs : Array Value) : Cell (w.setRow b cs) p v :=
  ⟨by rw [cell_setRow_other w b cs p hne]; exact h.1, by unfold World.frozen?; rw [setRow_other w b _ cs hne]; exact h.2⟩

theorem Two.kept_row {w : World} {x : Nat} {u v : Value} (h : Two w x u v) {b : Nat} (hne : x ≠ b) (cs : Array Value) : Two (w.setRow b cs) x u v := ⟨h.1.kept_row hne cs, h.2.kept_row hne cs⟩

def okB (N : Int) (l : List Int) : Bool := decide (chkE N l = 0)

theorem open_gen (N : Int) (l : List Int) (ao : Option Addr) (cap : Nat) (w : World) (hA : Arg w ao l) :
    Calls Try.prog 46 #[.agg #[.int .i64 N, .slice ao l.length cap]] w (fun e w' => e = .returned (.tuple #[.agg (rdW N l), .bool (okB N l)]) ∧ Below w.heap.size w w') := by
  cases hr : rdB N l
  · refine (open_bad N l ao cap w hA hr).mono ?_
    rintro e w' ⟨rfl, hb⟩
    exact ⟨by unfold rdW okB; rw [hr, chk_read hr]; rfl, hb⟩
  · obtain ⟨n, rfl, hn, hl, hv⟩ := rdB_ok hr
    refine (open_ok n l ao cap w hA hn hl hv).mono ?_
    rintro e w' ⟨rfl, hb⟩
    exact ⟨by unfold rdW okB; rw [hr]; rfl, hb⟩

theorem rdW_size (N : Int) (l : List Int) : (rdW N l).size = 122 := by
  unfold rdW
  cases hr : rdB N l
  · exact mcs_size (by simp)
  · obtain ⟨n, rfl, hn, hl, hv⟩ := rdB_ok hr
    exact mcs_size (by rw [hl]; exact dsq_le hn)

theorem rdW_one (N : Int) (l : List Int) : (rdW N l).all (·.oneCell') = true := by
  unfold rdW; split <;> exact mcs_one _ _

theorem rdW_ok {n : Nat} {l : List Int} (h : chkE n l = 0) : rdW n l = mcs n l := by
  cases hr : rdB n l
  · rw [chk_read hr] at h; cases h
  · unfold rdW; rw [hr]; rfl

theorem chk_64 {n : Nat} {l : List Int} (h : chkE n l = 0) : Zo.A64 l ∧ rdL l = true := by
  cases hr : rdB n l
  · rw [chk_read hr] at h; cases h
  · obtain ⟨_, _, _, _, hv⟩ := rdB_ok hr
    exact ⟨a64_of hv, hv⟩

set_option maxRecDepth 100000 in
set_option maxHeartbeats 4000000 in
theorem zcheck_gen (N : Int) (l : List Int) (ao : Option Addr) (cap : Nat) (w : World) (hA : Arg w ao l) :
    Calls Try.prog 23 #[.agg #[.int .i64 N, .slice ao l.length cap]] w (Made (.int .i64 (chkE N l)) w) := by
  have hz := mx_zero
  have sz := rdW_size N l
  have s1 := rdW_one N l
  have CO := Lib.hid (show ∀ W, Below w.heap.size w W → Calls Try.prog 46 #[.agg #[.int .i64 N, .slice ao l.length cap]] W (fun e w' => e = .returned (.tuple #[.agg (rdW N l), .bool (okB N l)]) ∧ Below W.heap.size W w') from fun W h => open_gen N l ao cap W (hA.on h))
  have HE := Lib.hid (show chkE N l = if okB N l then 0 else 2 by
    unfold okB
    by_cases h : chkE N l = 0
    · simp [h]
    · simp [chk_two h])
  generalize rdW N l = A at *
  generalize okB N l = ok at *
  generalize chkE N l = ce at *
  generalize l.length = len at *
  have E0 := Lib.hid (one_more (w1 := w) (.cells #[.int .i64 N, .slice ao len cap] 24))
  clear hA
  go_enter Try.func23, Try.ntmps23
  go_wp2_with fail
  refine (CO.out _ E0.out).mono ?_
  rintro e w1 ⟨rfl, hb⟩
  have HB := Lib.hid (below_on E0.out hb)
  clear hb
  cases ok
  · go_wp2_with (refine wpl_store rfl _ _ rfl _ _ rfl rfl _ (Var.made _) sz s1 ?_)
    go_ret
    exact ⟨ret_int (by rw [HE.out]; rfl), Below.setRow (HB.out.alloc HB.out.size _) HB.out.size _⟩
  · go_wp2_with (refine wpl_store rfl _ _ rfl _ _ rfl rfl _ (Var.made _) sz s1 ?_)
    go_ret
    exact ⟨ret_int (by rw [HE.out]; rfl), Below.setRow (HB.out.alloc HB.out.size _) HB.out.size _⟩
end Go.Proofs.Ytjfhjckacfkpoaa

namespace Go.Proofs.Ytjfhjckacfkpoaa
open Go.RowKit

def frS (n i : Nat) (x : List Int) (t : Nat) : List Int := if t = i then x else (x.set (Zo.ix n i t) 1099511627776).set (Zo.ix n t i) 1099511627776

def frL (n i : Nat) (l : List Int) : List Int := (List.range (n + 1)).foldl (frS n i) l

theorem frS_len (n i : Nat) (x : List Int) (t : Nat) : (frS n i x t).length = x.length := by unfold frS; split <;> simp

theorem frL_len (n i : Nat) (l : List Int) : (frL n i l).length = l.length := fold_len (frS_len n i) l (n + 1)

def frB (N i : Int) : Bool := decide (1 ≤ i ∧ i ≤ N)

def frE (N : Int) (l : List Int) (i : Int) : Int := if chkE N l = 0 ∧ 1 ≤ i ∧ i ≤ N then cloE N.toNat (frL N.toNat i.toNat l) else 2
end Go.Proofs.Ytjfhjckacfkpoaa

namespace Go.Proofs.Ytjfhjckacfkpoaa
open Go.RowKit

/-- Up: the first element of each row is set. -/
def umS (n : Nat) (x : List Int) (t : Nat) : List Int := x.set (Zo.ix n t 0) 1099511627776

def umL (n : Nat) (l : List Int) : List Int := (List.range (n + 1)).foldl (umS n) l

theorem umL_len (n : Nat) (l : List Int) : (umL n l).length = l.length := fold_len (fun x t => by simp [umS]) l _

/-- Down: the elements of the first row are set. -/
def dmS (n : Nat) (x : List Int) (t : Nat) : List Int := x.set (Zo.ix n 0 t) 1099511627776

def dmL (n : Nat) (l : List Int) : List Int := (List.range (n + 1)).foldl (dmS n) l

theorem dmL_len (n : Nat) (l : List Int) : (dmL n l).length = l.length := fold_len (fun x t => by simp [dmS]) l _

/-- release: row i and column i are set. -/
def rlS (n i : Nat) (x : List Int) (t : Nat) : List Int := (x.set (Zo.ix n i t) 1099511627776).set (Zo.ix n t i) 1099511627776

def rlL (n i : Nat) (l : List Int) : List Int := (List.range (n + 1)).foldl (rlS n i) l

theorem rlL_len (n i : Nat) (l : List Int) : (rlL n i l).length = l.length := fold_len (fun x t => by simp [rlS]) l _

/-- Returns nothing; the matrix at b is gl. -/
def Chg (w : World) (b n : Nat) (gl : List Int) (e : Ending) (w' : World) : Prop := e = .returned (.tuple #[]) ∧ MSt w b n gl w'

def ckB (N i first : Int) : Bool := decide (first ≤ i ∧ i ≤ N)
end Go.Proofs.Ytjfhjckacfkpoaa

namespace Go.Proofs.Ytjfhjckacfkpoaa
open Go.RowKit

theorem cloE_pre {n : Nat} {x y : List Int} (h : Zo.pre n x = Zo.pre n y) : cloE n x = cloE n y := by
  unfold cloE cloB; rw [Zo.clo_pre h]

theorem chk_diag {n : Nat} {l : List Int} (h : chkE n l = 0) : (∀ a, a ≤ n → Zo.At n l a a = 1) ∧ ∀ a, a ≤ n → Zo.At n l 0 a ≤ 1 := by
  have hc : chkB n l = true := by
    unfold chkE at h
    cases e : chkB n l
    · rw [e] at h; simp at h
    · rfl
  unfold chkB at hc
  simp only [Bool.and_eq_true, Int.toNat_natCast] at hc
  have h1 := chk1_iff.1 hc.1.2
  constructor
  · intro a ha
    have := h1 a (by omega) a (by omega)
    unfold okI at this
    simp at this
    exact this.1.2
  · intro a ha
    have := h1 0 (by omega) a (by omega)
    unfold okI at this
    simp at this
    exact this.2

theorem umL_at {n : Nat} {l : List Int} (hl : l.length = (n + 1) * (n + 1)) {a b : Nat} (ha : a ≤ n) (hb : b ≤ n) : Zo.At n (umL n l) a b = if b = 0 then 1099511627776 else Zo.At n l a b := by
  have := (Zo.fold_at (N := n + 1) (f := umS n) (p := fun t a b => decide (a = t ∧ b = 0)) (v := 1099511627776) (fun x t ht hx => ⟨by simpa [umS] using hx, fun a b _ hb => by
    unfold umS; rw [Zo.At_set hx (by omega) (by omega) _ hb]; simp⟩) hl (n + 1) (Nat.le_refl _)).2 a b ha hb
  rw [show umL n l = (List.range (n + 1)).foldl (umS n) l from rfl, this]
  by_cases c : b = 0
  · rw [if_pos c, if_pos]
    rw [List.any_eq_true]
    exact ⟨a, List.mem_range.2 (by omega), by simpa using c⟩
  · rw [if_neg c, if_neg]
    intro h
    rw [List.any_eq_true] at h
    obtain ⟨s, _, hs⟩ := h
    simp at hs
    exact c hs.2

theorem upL_at {n : Nat} {l : List Int} (hl : l.length = (n + 1) * (n + 1)) {a b : Nat} (ha : a ≤ n) (hb : b ≤ n) : Zo.At n (upL n l) a b = if a ≠ 0 ∧ b = 0 then 1099511627776 else Zo.At n l a b := by
  have := (Zo.fold_at (N := n) (f := upS n) (p := fun t a b => decide (a = t + 1 ∧ b = 0)) (v := 1099511627776) (fun x t ht hx => ⟨by simpa [upS] using hx, fun a b _ hb => by
    unfold upS; rw [Zo.At_set hx (by omega) (by omega) _ hb]; simp⟩) hl n (Nat.le_refl _)).2 a b ha hb
  rw [show upL n l = (List.range n).foldl (upS n) l from rfl, this]
  by_cases c : a ≠ 0 ∧ b = 0
  · rw [if_pos c, if_pos]
    rw [List.any_eq_true]
    exact ⟨a - 1, List.mem_range.2 (by omega), by simp; omega⟩
  · rw [if_neg c, if_neg]
    intro h
    rw [List.any_eq_true] at h
    obtain ⟨s, _, hs⟩ := h
    simp at hs
    omega

theorem dmL_at {n : Nat} {l : List Int} (hl : l.length = (n + 1) * (n + 1)) {a b : Nat} (ha : a ≤ n) (hb : b ≤ n) : Zo.At n (dmL n l) a b = if a = 0 then 1099511627776 else Zo.At n l a b := by
  have := (Zo.fold_at (N := n + 1) (f := dmS n) (p := fun t a b => decide (a = 0 ∧ b = t)) (v := 1099511627776) (fun x t ht hx => ⟨by simpa [dmS] using hx, fun a b _ hb => by
    unfold dmS; rw [Zo.At_set hx (by omega) (by omega) _ hb]; simp⟩) hl (n + 1) (Nat.le_refl _)).2 a b ha hb
  rw [show dmL n l = (List.range (n + 1)).foldl (dmS n) l from rfl, this]
  by_cases c : a = 0
  · rw [if_pos c, if_pos]
    rw [List.any_eq_true]
    exact ⟨b, List.mem_range.2 (by omega), by simpa using c⟩
  · rw [if_neg c, if_neg]
    intro h
    rw [List.any_eq_true] at h
    obtain ⟨s, _, hs⟩ := h
    simp at hs
    exact c hs.1

theorem dnL_at {n : Nat} {l : List Int} (hl : l.length = (n + 1) * (n + 1)) {a b : Nat} (ha : a ≤ n) (hb : b ≤ n) : Zo.At n (dnL n l) a b = if a = 0 ∧ b ≠ 0 then 1 else Zo.At n l a b := by
  have := (Zo.fold_at (N := n) (f := dnS n) (p := fun t a b => decide (a = 0 ∧ b = t + 1)) (v := 1) (fun x t ht hx => ⟨by simpa [dnS] using hx, fun a b _ hb => by
    unfold dnS; rw [Zo.At_set hx (by omega) (by omega) _ hb]; simp⟩) hl n (Nat.le_refl _)).2 a b ha hb
  rw [show dnL n l = (List.range n).foldl (dnS n) l from rfl, this]
  by_cases c : a = 0 ∧ b ≠ 0
  · rw [if_pos c, if_pos]
    rw [List.any_eq_true]
    exact ⟨b - 1, List.mem_range.2 (by omega), by simp; omega⟩
  · rw [if_neg c, if_neg]
    intro h
    rw [List.any_eq_true] at h
    obtain ⟨s, _, hs⟩ := h
    simp at hs
    omega

theorem up_pre {n : Nat} {l : List Int} (hl : l.length = (n + 1) * (n + 1)) (hc : chkE n l = 0) : Zo.pre n (umL n l) = Zo.pre n (upL n l) := by
  obtain ⟨dg, _⟩ := chk_diag hc
  refine Zo.pre_eq (by rw [umL_len, hl]) (by rw [upL_len, hl]) fun a b ha hb => ⟨fun h => ?_, fun h => ?_⟩
  · rw [umL_at hl ha hb, upL_at hl ha hb]
    by_cases c : b = 0
    · rw [if_pos c, if_pos ⟨h.1, c⟩]
    · rw [if_neg c, if_neg (by omega)]
  · rw [umL_at hl ha hb, upL_at hl ha hb]
    by_cases c : b = 0
    · rw [if_pos c, if_neg (by omega)]
      have : a = 0 := by omega
      subst this; subst c
      rw [dg 0 (by omega)]; decide
    · rw [if_neg c, if_neg (by omega)]

theorem dn_pre {n : Nat} {l : List Int} (hl : l.length = (n + 1) * (n + 1)) (hc : chkE n l = 0) : Zo.pre n (dmL n l) = Zo.pre n (dnL n l) := by
  obtain ⟨dg, _⟩ := chk_diag hc
  refine Zo.pre_eq (by rw [dmL_len, hl]) (by rw [dnL_len, hl]) fun a b ha hb => ⟨fun h => ?_, fun h => ?_⟩
  · rw [dmL_at hl ha hb, dnL_at hl ha hb, if_neg h.1, if_neg (by omega)]
  · rw [dmL_at hl ha hb, dnL_at hl ha hb]
    by_cases c : a = 0
    · rw [if_pos c]
      by_cases cb : b = 0
      · rw [if_neg (by omega)]
        subst c; subst cb
        rw [dg 0 (by omega)]; decide
      · rw [if_pos ⟨c, cb⟩]; decide
    · rw [if_neg c, if_neg (by omega)]

theorem fold_64 {f : List Int → Nat → List Int} (hf : ∀ x t, Zo.A64 x → Zo.A64 (f x t)) {l : List Int} (h : Zo.A64 l) (t : Nat) : Zo.A64 ((List.range t).foldl f l) :=
  Zo.fold_keeps (R := Zo.A64) t (fun a s _ ha => hf a s ha) l h t (Nat.le_refl _)

theorem no_in : -9223372036854775808 ≤ (1099511627776 : Int) ∧ (1099511627776 : Int) ≤ 9223372036854775807 := by omega
end Go.Proofs.Ytjfhjckacfkpoaa

namespace Go.Proofs.Ytjfhjckacfkpoaa
open Go.RowKit

/-- From what a call of changed leaves to what the function around it leaves, whose result lies at x. -/
theorem zres_over {w W w4 : World} {N : Int} {l : List Int} {g c x : Nat} (hb : Below w.heap.size w W) (h : Below W.heap.size W w4) (hO : Own w4 g c l) (hg : W.heap.size ≤ g) (hx : w.heap.size ≤ x) (hlt : x < W.heap.size) (u v : Value) :
    ZRes w N l 0 (.returned (.tuple #[.agg #[.int .i64 N, .slice (some ⟨g, 0, none⟩) l.length c], .int .i64 0])) ((w4.setCell ⟨x, 0, none⟩ u).setCell ⟨x, 1, none⟩ v) :=
  ⟨((below_on hb h).setCell hx _).setCell hx _, Or.inl ⟨rfl, g, c, rfl, by have := hb.size; omega, put_far hO (by omega) _ _⟩⟩

theorem zres_over0 {w W w4 : World} {N : Int} {l : List Int} {er : Int} {x : Nat} (hb : Below w.heap.size w W) (h : Below W.heap.size W w4) (he : er ≠ 0) (hx : w.heap.size ≤ x) (u v : Value) :
    ZRes w N l er (.returned (.tuple #[.agg #[.int .i64 0, .slice none 0 0], .int .i64 er])) ((w4.setCell ⟨x, 0, none⟩ u).setCell ⟨x, 1, none⟩ v) :=
  ⟨((below_on hb h).setCell hx _).setCell hx _, Or.inr ⟨he, rfl⟩⟩
end Go.Proofs.Ytjfhjckacfkpoaa

namespace Go.Proofs.Ytjfhjckacfkpoaa
open Go.RowKit

/-- Constraints: the clock I minus the clock J meets L. -/
abbrev Con := Int × Int × Int

def gc (cs : List Con) (k : Nat) : Con := cs.getD k (0, 0, 0)

def Rd3 (w : World) (a : Addr) (cs : List Con) : Prop := ∀ j, j < cs.length → w.cell? (a.add (j * 3)) = some (.int .i64 (gc cs j).1) ∧ w.cell? ⟨(a.add (j * 3)).block, (a.add (j * 3)).off + 1, none⟩ = some (.int .i64 (gc cs j).2.1) ∧ w.cell? ⟨(a.add (j * 3)).block, (a.add (j * 3)).off + 2, none⟩ = some (.int .i64 (gc cs j).2.2)

theorem Rd3.on {w w' : World} {a : Addr} {l : List Con} (h : Rd3 w a l) (hb : Below w.heap.size w w') : Rd3 w' a l := fun j hj => ⟨kept hb (h j hj).1, kept hb (h j hj).2.1, kept hb (h j hj).2.2⟩

/-- Behind writes to a row of the call's own. -/
theorem Rd3.st {w w3 w' : World} {a : Addr} {cs : List Con} {g c : Nat} {x : List Int} (h : Rd3 w a cs) (hb : Below w.heap.size w w3) (hg : w.heap.size ≤ g) (hs : St w3 g c x w') : Rd3 w' a cs := by
  intro j hj
  obtain ⟨h1, h2, h3⟩ := h j hj
  exact ⟨hs.cell (kept hb h1) (by have := World.block_lt_of_cell? w _ h1; omega), hs.cell (kept hb h2) (by have := World.block_lt_of_cell? w _ h2; omega), hs.cell (kept hb h3) (by have := World.block_lt_of_cell? w _ h3; omega)⟩

def okC (n : Nat) (c : Con) : Bool := decide (0 ≤ c.1 ∧ c.1 ≤ n ∧ 0 ≤ c.2.1 ∧ c.2.1 ≤ n) && lvB c.2.2

def anS (n : Nat) (cs : List Con) (x : List Int) (t : Nat) : List Int := x.set (Zo.ix n (gc cs t).1.toNat (gc cs t).2.1.toNat) (imin (Zo.At n x (gc cs t).1.toNat (gc cs t).2.1.toNat) (gc cs t).2.2)

def anL (n : Nat) (cs : List Con) (l : List Int) : List Int := (List.range cs.length).foldl (anS n cs) l

theorem anL_len (n : Nat) (cs : List Con) (l : List Int) : (anL n cs l).length = l.length := fold_len (fun x t => by simp [anS]) l _

def anE (n : Nat) (cs : List Con) (l : List Int) : Int := if cs.all (okC n) then cloE n (anL n cs l) else 2

theorem anE_bad {n : Nat} {cs : List Con} {l : List Int} {k : Nat} (hk : k < cs.length) (h : okC n (gc cs k) = false) : anE n cs l = 2 := by
  have : cs.all (okC n) = false := by
    rw [List.all_eq_false]
    exact ⟨cs[k], List.getElem_mem hk, by rw [show cs[k] = gc cs k by simp [gc, hk], h]; simp⟩
  unfold anE; rw [this]; rfl

theorem anE_ok {n : Nat} {cs : List Con} {l : List Int} (h : ∀ k, k < cs.length → okC n (gc cs k) = true) : anE n cs l = cloE n (anL n cs l) := by
  have : cs.all (okC n) = true := by
    rw [List.all_eq_true]
    intro x hx
    obtain ⟨k, hk, rfl⟩ := List.getElem_of_mem hx
    have := h k hk
    simpa [gc, hk] using this
  unfold anE; rw [this]; rfl

set_option maxRecDepth 20000 in
set_option maxHeartbeats 4000000 in
theorem an_any (n : Nat) (l : List Int) (a : Addr) (cap : Nat) (cs : List Con) (dao : Option Addr) (d : Addr) (dc : Nat) (w : World) (hn : n ≤ 10) (hl : l.length = (n + 1) * (n + 1)) (hR : Rd w a l) (hc : chkE n l = 0) (hD : Rd3 w d cs) (hdl : cs.length ≤ 1000) (hdo : cs ≠ [] → dao = some d) :
    Calls Try.prog 21 #[.agg #[.int .i64 n, .slice (some a) l.length cap], .slice dao cs.length dc] w (ZRes w n (Zo.clo n (anL n cs l)) (anE n cs l)) := by
  obtain ⟨cl, hcl⟩ : ∃ cl, cl = cs.length := ⟨_, rfl⟩
  have HCl := Lib.hid hcl
  rw [← hcl]
  have hcb : cl ≤ 1000 := by omega
  have HD := Lib.hid hD
  have HDO := Lib.hid (show 0 < cl → dao = some d from fun h => hdo (fun e => by rw [hcl, e] at h; simp at h))
  clear hD hcl hdl hdo
  obtain ⟨len, hlen⟩ : ∃ len, len = l.length := ⟨_, rfl⟩
  obtain ⟨w0, hw0⟩ : ∃ w0, w0 = (w.alloc (.cells #[.int .i64 n, .slice (some a) len cap] 24)).alloc (.cells #[.int .i64 0, .slice none 0 0] 24) := ⟨_, rfl⟩
  have bx : Two w0 w.heap.size (.int .i64 n) (.slice (some a) len cap) := by rw [hw0]; exact (Two.made _ _ _ _).alloc _
  have rs : Two w0 (w.heap.size + 1) (.int .i64 0) (.slice none 0 0) := by
    rw [hw0]
    have := Two.made (w.alloc (.cells #[.int .i64 n, .slice (some a) len cap] 24)) (.int .i64 0) (.slice none 0 0) 24
    simpa using this
  have z0 : w0.heap.size = w.heap.size + 2 := by rw [hw0]; simp
  have e0 : Below w.heap.size w w0 := by rw [hw0]; exact past_two (Below.refl _ _)
  have R0 := hR.on e0
  have CK : Hid (∀ W, Rd W a l → Calls Try.prog 29 #[.agg #[.int .i64 n, .slice (some a) len cap]] W (Made (.int .i64 0) W)) := Lib.hid fun W h => by have := check_any n l a cap W hn hl h; rw [hc, ← hlen] at this; exact this
  have CP : Hid (∀ W, Rd W a l → Calls Try.prog 43 #[.agg #[.int .i64 n, .slice (some a) len cap]] W (fun e w' => ∃ g c, e = .returned (.agg #[.int .i64 n, .slice (some ⟨g, 0, none⟩) len c]) ∧ W.heap.size ≤ g ∧ Own w' g c l ∧ Below W.heap.size W w')) := Lib.hid fun W h => by have := copied_any n l a cap W (by rw [hl]; exact dsq_pos n) (by rw [hl]; have := dsq_le hn; omega) h; rw [← hlen] at this; exact this
  have HR := Lib.hid R0
  have HL := Lib.hid hl
  have HLn := Lib.hid hlen
  have E0 := Lib.hid e0
  rw [← hlen]
  clear hR R0 hl hlen hc e0
  go_enter Try.func21, Try.ntmps21
  go_wp2_with fail
  rw [← hw0]
  clear hw0
  obtain ⟨b0, b1, b2, b3⟩ := bx.facts
  go_wp2_with fail
  refine (CK.out _ HR.out).mono ?_
  rintro e w1 ⟨rfl, hb1⟩
  clear b0 b1 b2 b3
  replace bx := bx.kept hb1
  replace rs := rs.kept hb1
  have HR1 := Lib.hid (HR.out.on hb1)
  have E1 := Lib.hid (below_on E0.out hb1)
  have z1 := hb1.size
  clear hb1 HR E0
  obtain ⟨b0, b1, b2, b3⟩ := bx.facts
  go_wp2_with fail
  clear b0 b1 b2 b3
  go_loopw [6] (fun s wr => ∃ t : Nat, t ≤ cl ∧ s = .int .i64 t ∧ Hid (∀ k, k < t → okC n (gc cs k) = true) ∧ Hid (Below w1.heap.size w1 wr)) (fun s _ => cl - (intOf s).toNat)
  case atStart => exact ⟨0, by omega, rfl, Lib.hid (fun k hk => by omega), Lib.hid (Below.refl _ _)⟩
  case round =>
    obtain ⟨t, ht, rfl, HK, HB⟩ := hrel
    obtain ⟨b0, b1, b2, b3⟩ := (bx.kept HB.out).facts
    by_cases htn : t < cl
    · have hdo := HDO.out (by omega)
      clear HDO
      subst hdo
      obtain ⟨d1, d2, d3⟩ := (HD.out.on (below_on E1.out HB.out)) t (by rw [← HCl.out]; exact htn)
      obtain ⟨q, hq⟩ : ∃ q, q = gc cs t := ⟨_, rfl⟩
      rw [← hq] at d1 d2 d3
      have HQ := Lib.hid hq
      clear hq
      obtain ⟨I, J, L⟩ := q
      simp only at d1 d2 d3
      have v9 := fun W => refLimValid_free L W
      by_cases i1 : I < 0
      · have D1 : decide (I < (0 : Int)) = true := by simpa using i1
        clear v9
        have HE := Lib.hid (anE_bad (n := n) (cs := cs) (l := l) (k := t) (by rw [← HCl.out]; exact htn) (by rw [← HQ.out]; unfold okC; simp; omega))
        go_wp2_with fail
        go_quiet (fail)
        clear d1 d2 d3 b0 b1 b2 b3
        obtain ⟨r0, r1, r2, r3⟩ := (rs.kept HB.out).facts
        go_wp2_with fail
        refine bodyPost_ret (v := .tuple #[.agg #[.int .i64 0, .slice none 0 0], .int .i64 2]) (by simp [results, Try.results21, go_sem, r0, r1]) rfl (ZRes.bad (zres_bad (N := 0) (l := []) ?_) HE.out)
        exact ((below_drewN (below_on E1.out HB.out) _).setCell (by show w.heap.size ≤ w.heap.size + 1; omega) _).setCell (by show w.heap.size ≤ w.heap.size + 1; omega) _
      have D1 : decide (I < (0 : Int)) = false := by simp; omega
      by_cases i2 : (n : Int) < I
      · have D2 : decide ((n : Int) < I) = true := by simpa using i2
        clear v9
        have HE := Lib.hid (anE_bad (n := n) (cs := cs) (l := l) (k := t) (by rw [← HCl.out]; exact htn) (by rw [← HQ.out]; unfold okC; simp; omega))
        go_wp2_with fail
        go_quiet (fail)
        clear d1 d2 d3 b0 b1 b2 b3
        obtain ⟨r0, r1, r2, r3⟩ := (rs.kept HB.out).facts
        go_wp2_with fail
        refine bodyPost_ret (v := .tuple #[.agg #[.int .i64 0, .slice none 0 0], .int .i64 2]) (by simp [results, Try.results21, go_sem, r0, r1]) rfl (ZRes.bad (zres_bad (N := 0) (l := []) ?_) HE.out)
        exact ((below_drewN (below_on E1.out HB.out) _).setCell (by show w.heap.size ≤ w.heap.size + 1; omega) _).setCell (by show w.heap.size ≤ w.heap.size + 1; omega) _
      have D2 : decide ((n : Int) < I) = false := by simp; omega
      by_cases j1 : J < 0
      · have D3 : decide (J < (0 : Int)) = true := by simpa using j1
        clear v9
        have HE := Lib.hid (anE_bad (n := n) (cs := cs) (l := l) (k := t) (by rw [← HCl.out]; exact htn) (by rw [← HQ.out]; unfold okC; simp; omega))
        go_wp2_with fail
        go_quiet (fail)
        clear d1 d2 d3 b0 b1 b2 b3
        obtain ⟨r0, r1, r2, r3⟩ := (rs.kept HB.out).facts
        go_wp2_with fail
        refine bodyPost_ret (v := .tuple #[.agg #[.int .i64 0, .slice none 0 0], .int .i64 2]) (by simp [results, Try.results21, go_sem, r0, r1]) rfl (ZRes.bad (zres_bad (N := 0) (l := []) ?_) HE.out)
        exact ((below_drewN (below_on E1.out HB.out) _).setCell (by show w.heap.size ≤ w.heap.size + 1; omega) _).setCell (by show w.heap.size ≤ w.heap.size + 1; omega) _
      have D3 : decide (J < (0 : Int)) = false := by simp; omega
      by_cases j2 : (n : Int) < J
      · have D4 : decide ((n : Int) < J) = true := by simpa using j2
        clear v9
        have HE := Lib.hid (anE_bad (n := n) (cs := cs) (l := l) (k := t) (by rw [← HCl.out]; exact htn) (by rw [← HQ.out]; unfold okC; simp; omega))
        go_wp2_with fail
        go_quiet (fail)
        clear d1 d2 d3 b0 b1 b2 b3
        obtain ⟨r0, r1, r2, r3⟩ := (rs.kept HB.out).facts
        go_wp2_with fail
        refine bodyPost_ret (v := .tuple #[.agg #[.int .i64 0, .slice none 0 0], .int .i64 2]) (by simp [results, Try.results21, go_sem, r0, r1]) rfl (ZRes.bad (zres_bad (N := 0) (l := []) ?_) HE.out)
        exact ((below_drewN (below_on E1.out HB.out) _).setCell (by show w.heap.size ≤ w.heap.size + 1; omega) _).setCell (by show w.heap.size ≤ w.heap.size + 1; omega) _
      have D4 : decide ((n : Int) < J) = false := by simp; omega
      cases lv : lvB L
      · have HLV := Lib.hid lv
        rw [lv] at v9
        have V9 := Lib.hid v9
        clear v9 lv
        have HE := Lib.hid (anE_bad (n := n) (cs := cs) (l := l) (k := t) (by rw [← HCl.out]; exact htn) (by rw [← HQ.out]; unfold okC; simp; intros; exact HLV.out))
        go_wp2_with fail
        go_quiet ((go_at_call 42; exact Calls.quiet_of_same (V9.out _)))
        clear d1 d2 d3 b0 b1 b2 b3
        obtain ⟨r0, r1, r2, r3⟩ := (rs.kept HB.out).facts
        go_wp2_with fail
        refine bodyPost_ret (v := .tuple #[.agg #[.int .i64 0, .slice none 0 0], .int .i64 2]) (by simp [results, Try.results21, go_sem, r0, r1]) rfl (ZRes.bad (zres_bad (N := 0) (l := []) ?_) HE.out)
        exact ((below_drewN (below_on E1.out HB.out) _).setCell (by show w.heap.size ≤ w.heap.size + 1; omega) _).setCell (by show w.heap.size ≤ w.heap.size + 1; omega) _
      · rw [lv] at v9
        have V9 := Lib.hid v9
        have HK2 := Lib.hid (show okC n (gc cs t) = true by rw [← HQ.out]; unfold okC; rw [lv]; simp; omega)
        clear v9 lv
        go_wp2_with fail
        go_quiet ((go_at_call 42; exact Calls.quiet_of_same (V9.out _)))
        clear d1 d2 d3 b0 b1 b2 b3
        go_wp2_with fail
        go_roundw
        case rel =>
          refine ⟨t + 1, by omega, by go_num, Lib.hid (fun k hk => ?_), Lib.hid (below_drewN HB.out _)⟩
          by_cases e : k = t
          · rw [e]; exact HK2.out
          · exact HK.out k (by omega)
        case measure => simp [intOf]; omega
    · have HAE := Lib.hid (anE_ok (n := n) (cs := cs) (l := l) (fun k hk => HK.out k (by rw [← HCl.out] at hk; omega)))
      have HOK := Lib.hid (show ∀ k, k < cl → okC n (gc cs k) = true from fun k hk => HK.out k (by omega))
      clear b0 b1 b2 b3
      replace bx := bx.kept HB.out
      replace rs := rs.kept HB.out
      replace HR1 := Lib.hid (HR1.out.on HB.out)
      replace E1 := Lib.hid (below_on E1.out HB.out)
      have z2' := HB.out.size
      clear HB HK
      obtain ⟨b0, b1, b2, b3⟩ := bx.facts
      go_wp2_with fail
      refine (CP.out _ HR1.out).mono ?_
      rintro e w2 ⟨g, c, rfl, hg, ho, hb2⟩
      clear b0 b1 b2 b3
      replace bx := bx.kept hb2
      replace rs := rs.kept hb2
      have E2 := Lib.hid (below_on E1.out hb2)
      have z2 := hb2.size
      clear hb2 E1 HR1
      obtain ⟨b0, b1, b2, b3⟩ := bx.facts
      obtain ⟨w3, hw3⟩ : ∃ w3, w3 = (w2.setCell ⟨w.heap.size, 0, none⟩ (.int .i64 n)).setCell ⟨w.heap.size, 1, none⟩ (.slice (some ⟨g, 0, none⟩) len c) := ⟨_, rfl⟩
      have bx3 : Two w3 w.heap.size (.int .i64 n) (.slice (some ⟨g, 0, none⟩) len c) := by rw [hw3]; exact bx.put _ _
      have rs3 : Two w3 (w.heap.size + 1) (.int .i64 0) (.slice none 0 0) := by rw [hw3]; exact rs.aside (by omega) _ _
      have O3 : Own w3 g c l := by rw [hw3]; exact put_far ho (by omega) _ _
      have E3 : Below w.heap.size w w3 := by rw [hw3]; exact (E2.out.setCell (by show w.heap.size ≤ w.heap.size; omega) _).setCell (by show w.heap.size ≤ w.heap.size; omega) _
      have S3 := Lib.hid (show St w3 g c l w3 from ⟨O3, World.grownBy.refl _ _⟩)
      have HE3 := Lib.hid E3
      clear ho O3 E3 E2 rs bx
      go_wp2_with fail
      rw [← hw3]
      clear hw3 b0 b1 b2 b3
      have KD := Lib.hid (show ∀ (t : Nat) (y : List Int) (w' : World), t < cl → St w3 g c y w' → w'.cell? (d.add (t * 3)) = some (.int .i64 (gc cs t).1) ∧ w'.cell? ⟨(d.add (t * 3)).block, (d.add (t * 3)).off + 1, none⟩ = some (.int .i64 (gc cs t).2.1) ∧ w'.cell? ⟨(d.add (t * 3)).block, (d.add (t * 3)).off + 2, none⟩ = some (.int .i64 (gc cs t).2.2) from
        fun t y w' h1 h2 => (HD.out.st HE3.out (by omega) h2) t (by rw [← HCl.out]; exact h1))
      have KS := Lib.hid (show ∀ (y : List Int) (w' : World), St w3 g c y w' → w'.cell? ⟨w.heap.size, 0, none⟩ = some (.int .i64 n) ∧ w'.cell? ⟨w.heap.size, 1, none⟩ = some (.slice (some ⟨g, 0, none⟩) len c) from
        fun y w' h => ⟨h.cell bx3.facts.1 (by simp; omega), h.cell bx3.facts.2.1 (by simp; omega)⟩)
      go_loopw [7] (fun s wr => ∃ (t : Nat) (x : List Int), t ≤ cl ∧ s = .int .i64 t ∧ x.length = len ∧ Hid (x = (List.range t).foldl (anS n cs) l) ∧ Hid (St w3 g c x wr)) (fun s _ => cl - (intOf s).toNat)
      case atStart => exact ⟨0, l, by omega, rfl, HLn.out.symm, Lib.hid rfl, S3⟩
      case round =>
        obtain ⟨t, x, ht, rfl, hx, HX, HT⟩ := hrel
        have bx4 := bx3.grown HT.out.2 (by omega)
        obtain ⟨b0, b1, b2, b3⟩ := bx4.facts
        have lx : x.length = (n + 1) * (n + 1) := by rw [hx, HLn.out, HL.out]
        by_cases htn : t < cl
        · have hdo := HDO.out (by omega)
          clear HDO
          subst hdo
          obtain ⟨d1, d2, d3⟩ := KD.out t _ _ htn HT.out
          obtain ⟨i, j, L, hq, hi, hj⟩ : ∃ (i j : Nat) (L : Int), gc cs t = ((i : Int), (j : Int), L) ∧ i ≤ n ∧ j ≤ n := by
            have := HOK.out t htn
            unfold okC at this
            simp only [Bool.and_eq_true, decide_eq_true_eq] at this
            obtain ⟨⟨p1, p2, p3, p4⟩, _⟩ := this
            refine ⟨(gc cs t).1.toNat, (gc cs t).2.1.toNat, (gc cs t).2.2, ?_, by omega, by omega⟩
            rw [Int.toNat_of_nonneg p1, Int.toNat_of_nonneg p3]
          have kd := fun (y : List Int) (w' : World) (h : St w3 g c y w') => KD.out t y w' htn h
          rw [hq] at d1 d2 d3 kd
          simp only at d1 d2 d3 kd
          have KD2 := Lib.hid kd
          have HS := Lib.hid (show anS n cs x t = x.set (Zo.ix n i j) (imin (Zo.At n x i j) L) by unfold anS; rw [hq]; simp)
          have AT : Hid (∀ w' : World, St w3 g c x w' → Calls Try.prog 38 #[.agg #[.int .i64 n, .slice (some ⟨g, 0, none⟩) len c], .int .i64 i, .int .i64 j] w' (fun e w' => e = .returned (.int .i64 (Zo.At n x i j)) ∧ St w3 g c x w')) :=
            Lib.hid fun w' h => by have := at_st (i := i) (j := j) hn hi hj lx h; rw [hx] at this; exact this
          have SE : Hid (∀ (val : Int) (w' : World), St w3 g c x w' → Calls Try.prog 44 #[.agg #[.int .i64 n, .slice (some ⟨g, 0, none⟩) len c], .int .i64 i, .int .i64 j, .int .i64 val] w' (fun e w' => e = .returned (.tuple #[]) ∧ St w3 g c (x.set (Zo.ix n i j) val) w')) :=
            Lib.hid fun val w' h => by have := set_st (i := i) (j := j) val hn hi hj lx h; rw [hx] at this; exact this
          have hm := run_imin (Zo.At n x i j) L
          clear hq kd
          go_wp2_with fail
          have s1 := HT.out.drew
          go_region_held3 (fun w' => (w'.cell? ⟨w.heap.size, 0, none⟩ = some (.int .i64 n) ∧ w'.cell? ⟨w.heap.size, 1, none⟩ = some (.slice (some ⟨g, 0, none⟩) len c)) ∧ (w'.cell? (d.add (t * 3)) = some (.int .i64 i) ∧ w'.cell? ⟨(d.add (t * 3)).block, (d.add (t * 3)).off + 1, none⟩ = some (.int .i64 j) ∧ w'.cell? ⟨(d.add (t * 3)).block, (d.add (t * 3)).off + 2, none⟩ = some (.int .i64 L))) (first | exact ⟨KS.out _ _ s1, KD2.out _ _ s1⟩ | exact ⟨KS.out _ _ s2, KD2.out _ _ s2⟩ | exact ⟨KS.out _ _ s3, KD2.out _ _ s3⟩)
            (first | (go_at_call 38; refine (AT.out _ s1).mono ?_; rintro e w5 ⟨rfl, s2⟩) | (go_at_call 44; refine (SE.out _ _ s2).mono ?_; rintro e w6 ⟨rfl, s3⟩))
          have S4 := Lib.hid s3
          clear s1 s2 s3
          go_wp2_with fail
          go_roundw
          case rel => exact ⟨t + 1, _, by omega, by go_num, by simpa using hx, Lib.hid (by rw [Zo.fold_succ, ← HX.out, HS.out]), S4⟩
          case measure => simp [intOf]; omega
        · have HX2 := Lib.hid (show x = anL n cs l by rw [HX.out, show t = cl by omega, HCl.out]; rfl)
          by_cases hE : cloE n x = 0
          · have CL : Hid (∀ W, Own W g c x → Calls Try.prog 45 #[.agg #[.int .i64 n, .slice (some ⟨g, 0, none⟩) len c]] W (fun e w' => e = .returned (.tuple #[.agg #[.int .i64 n, .slice (some ⟨g, 0, none⟩) len c], .int .i64 0]) ∧ Own w' g c (Zo.clo n x) ∧ W.grownBy w' (some g))) := Lib.hid fun W h => by have := closed_ok W hn lx h hE; rw [hx] at this; exact this
            have HEE := Lib.hid hE
            clear hE
            go_wp2_with fail
            refine (CL.out _ HT.out.1).mono ?_
            rintro e w5 ⟨rfl, ho5, hg5⟩
            have rs5 := (rs3.grown HT.out.2 (by omega)).grown hg5 (by omega)
            obtain ⟨q0, q1, q2, q3⟩ := rs5.facts
            have E5 := Lib.hid (grown_over (grown_over HE3.out HT.out.2 (by omega)) hg5 (by omega))
            have HO5 := Lib.hid ho5
            clear ho5 hg5
            go_wp2_with fail
            refine bodyPost_ret (v := .tuple #[.agg #[.int .i64 n, .slice (some ⟨g, 0, none⟩) len c], .int .i64 0]) (by simp [results, Try.results21, go_sem, q0, q1]) rfl ⟨(E5.out.setCell (by show w.heap.size ≤ w.heap.size + 1; omega) _).setCell (by show w.heap.size ≤ w.heap.size + 1; omega) _, Or.inl ⟨by rw [HAE.out, ← HX2.out]; exact HEE.out, g, c, ?_, by omega, ?_⟩⟩
            · rw [Zo.clo_length, anL_len, ← HLn.out]
            · rw [← HX2.out]; exact put_far HO5.out (by omega) _ _
          · have CL : Hid (∀ W, Own W g c x → Calls Try.prog 45 #[.agg #[.int .i64 n, .slice (some ⟨g, 0, none⟩) len c]] W (fun e w' => e = .returned (.tuple #[.agg #[.int .i64 0, .slice none 0 0], .int .i64 (cloE n x)]) ∧ Own w' g c (Zo.clo n x) ∧ W.grownBy w' (some g))) := Lib.hid fun W h => by have := closed_no W hn lx h hE; rw [hx] at this; exact this
            have HEE := Lib.hid hE
            clear hE
            go_wp2_with fail
            refine (CL.out _ HT.out.1).mono ?_
            rintro e w5 ⟨rfl, ho5, hg5⟩
            have rs5 := (rs3.grown HT.out.2 (by omega)).grown hg5 (by omega)
            obtain ⟨q0, q1, q2, q3⟩ := rs5.facts
            have E5 := Lib.hid (grown_over (grown_over HE3.out HT.out.2 (by omega)) hg5 (by omega))
            have HO5 := Lib.hid ho5
            clear ho5 hg5
            go_wp2_with fail
            refine bodyPost_ret (v := .tuple #[.agg #[.int .i64 0, .slice none 0 0], .int .i64 (cloE n x)]) (by simp [results, Try.results21, go_sem, q0, q1]) rfl ⟨(E5.out.setCell (by show w.heap.size ≤ w.heap.size + 1; omega) _).setCell (by show w.heap.size ≤ w.heap.size + 1; omega) _, Or.inr ⟨by rw [HAE.out, ← HX2.out]; exact HEE.out, ?_⟩⟩
            rw [HAE.out, HX2.out]
end Go.Proofs.Ytjfhjckacfkpoaa

namespace Go.Proofs.Ytjfhjckacfkpoaa
open Go.RowKit

def smB (N M : Int) (l m : List Int) : Bool := decide (N = M) && decide (l = m)

theorem smB_no1 {N M : Int} {l m : List Int} (h : N ≠ M) : smB N M l m = false := by simp [smB, h]

theorem smB_no2 {N M : Int} {l m : List Int} (h : l.length ≠ m.length) : smB N M l m = false := by
  have : l ≠ m := fun e => h (by rw [e])
  simp [smB, this]

theorem smB_no3 {N M : Int} {l m : List Int} {k : Nat} (h : Zo.gt l k ≠ Zo.gt m k) : smB N M l m = false := by
  have : l ≠ m := fun e => h (by rw [e])
  simp [smB, this]

theorem smB_yes {N M : Int} {l m : List Int} (h : N = M) (hl : l.length = m.length) (hk : ∀ k, k < l.length → Zo.gt l k = Zo.gt m k) : smB N M l m = true := by
  have : l = m := List.ext_getElem hl fun k h1 h2 => by
    have := hk k h1
    simpa [Zo.gt, h1, h2] using this
  simp [smB, h, this]

set_option maxHeartbeats 1600000 in
theorem same_any (N M : Int) (l m : List Int) (ao bo : Option Addr) (ca cb : Nat) (w : World) (hA : Arg w ao l) (hB : Arg w bo m) (ll : l.length ≤ 9223372036854775807) :
    Calls Try.prog 13 #[.agg #[.int .i64 N, .slice ao l.length ca], .agg #[.int .i64 M, .slice bo m.length cb]] w (Made (.bool (smB N M l m)) w) := by
  obtain ⟨len, hlen⟩ : ∃ len, len = l.length := ⟨_, rfl⟩
  obtain ⟨mlen, hmlen⟩ : ∃ mlen, mlen = m.length := ⟨_, rfl⟩
  obtain ⟨w0, hw0⟩ : ∃ w0, w0 = (w.alloc (.cells #[.int .i64 N, .slice ao len ca] 24)).alloc (.cells #[.int .i64 M, .slice bo mlen cb] 24) := ⟨_, rfl⟩
  have bx : Two w0 w.heap.size (.int .i64 N) (.slice ao len ca) := by rw [hw0]; exact (Two.made _ _ _ _).alloc _
  have by' : Two w0 (w.heap.size + 1) (.int .i64 M) (.slice bo mlen cb) := by
    rw [hw0]
    have := Two.made (w.alloc (.cells #[.int .i64 N, .slice ao len ca] 24)) (.int .i64 M) (.slice bo mlen cb) 24
    simpa using this
  have e0 : Below w.heap.size w w0 := by rw [hw0]; exact past_two (Below.refl _ _)
  have lb : (len : Int) ≤ 9223372036854775807 := by omega
  have HA := Lib.hid (hA.on e0)
  have HB := Lib.hid (hB.on e0)
  have HL := Lib.hid hlen
  have HM := Lib.hid hmlen
  have E0 := Lib.hid e0
  rw [← hlen, ← hmlen]
  clear hA hB hlen hmlen e0 ll
  by_cases hN : N = M
  · have N0 : (N != M) = false := by simpa using hN
    by_cases hS : len = mlen
    · have HS := Lib.hid hS
      have S0 : ((len : Int) != (mlen : Int)) = false := by simp; omega
      have HN := Lib.hid hN
      clear hN hS
      go_enter Try.func13, Try.ntmps13
      go_wp2_with fail
      rw [← hw0]
      clear hw0
      obtain ⟨b0, b1, b2, b3⟩ := bx.facts
      obtain ⟨c0, c1, c2, c3⟩ := by'.facts
      go_wp2_with fail
      try (go_quiet (fail); go_wp2_with fail)
      clear b0 b1 b2 b3 c0 c1 c2 c3
      go_loopw [5] (fun s wr => ∃ t : Nat, t ≤ len ∧ s = .int .i64 t ∧ Hid (∀ k, k < t → Zo.gt l k = Zo.gt m k) ∧ Hid (Below w0.heap.size w0 wr)) (fun s _ => len - (intOf s).toNat)
      case atStart => exact ⟨0, by omega, rfl, Lib.hid (fun k hk => by omega), Lib.hid (by first | exact Below.refl _ _ | exact below_drewN (Below.refl _ _) _)⟩
      case round =>
        obtain ⟨t, ht, rfl, HK, HBw⟩ := hrel
        obtain ⟨b0, b1, b2, b3⟩ := (bx.kept HBw.out).facts
        obtain ⟨c0, c1, c2, c3⟩ := (by'.kept HBw.out).facts
        by_cases htn : t < len
        · obtain ⟨a, hao, hR⟩ := HA.out (fun e => by have := HL.out; rw [e] at this; simp at this; omega)
          obtain ⟨b, hbo, hQ⟩ := HB.out (fun e => by have := HM.out; have := HS.out; rw [e] at *; simp at *; omega)
          subst hao hbo
          have d1 := kept HBw.out (hR t (by rw [← HL.out]; exact htn))
          have d2 := kept HBw.out (hQ t (by rw [← HM.out, ← HS.out]; exact htn))
          have t2 : (t : Int) < (mlen : Int) := by have := HS.out; omega
          obtain ⟨x, hx⟩ : ∃ x, x = Zo.gt l t := ⟨_, rfl⟩
          obtain ⟨y, hy⟩ : ∃ y, y = Zo.gt m t := ⟨_, rfl⟩
          rw [← hx] at d1
          rw [← hy] at d2
          have HXE := Lib.hid hx
          have HYE := Lib.hid hy
          clear hx hy hR hQ
          by_cases hxy : x = y
          · have D : (x != y) = false := by simpa using hxy
            have HXY := Lib.hid hxy
            clear hxy
            go_wp2_with fail
            go_quiet (fail)
            clear b0 b1 b2 b3 c0 c1 c2 c3 d1 d2
            go_wp2_with fail
            go_roundw
            case rel =>
              refine ⟨t + 1, by omega, by go_num, Lib.hid (fun k hk => ?_), Lib.hid (below_drewN HBw.out _)⟩
              by_cases e : k = t
              · rw [e, ← HXE.out, ← HYE.out]; exact HXY.out
              · exact HK.out k (by omega)
            case measure => simp [intOf]; omega
          · have D : (x != y) = true := by simpa using hxy
            have HE := Lib.hid (smB_no3 (N := N) (M := M) (l := l) (m := m) (k := t) (by rw [← HXE.out, ← HYE.out]; exact hxy))
            clear hxy
            go_wp2_with fail
            go_quiet (fail)
            clear b0 b1 b2 b3 c0 c1 c2 c3 d1 d2
            go_wp2_with fail
            go_ret
            exact ⟨ret_bool HE.out.symm, below_drewN (below_on E0.out HBw.out) _⟩
        · have HE := Lib.hid (smB_yes (l := l) (m := m) HN.out (by rw [← HL.out, ← HM.out]; exact HS.out) (fun k hk => HK.out k (by rw [← HL.out] at hk; omega)))
          go_wp2_with fail
          go_ret
          exact ⟨ret_bool HE.out.symm, below_on E0.out HBw.out⟩
    · have HE := Lib.hid (smB_no2 (N := N) (M := M) (l := l) (m := m) (by rw [← HL.out, ← HM.out]; exact hS))
      have S0 : ((len : Int) != (mlen : Int)) = true := by simp; omega
      clear hN
      go_enter Try.func13, Try.ntmps13
      go_wp2_with fail
      rw [← hw0]
      clear hw0
      obtain ⟨b0, b1, b2, b3⟩ := bx.facts
      obtain ⟨c0, c1, c2, c3⟩ := by'.facts
      go_wp2_with fail
      try (go_quiet (fail); go_wp2_with fail)
      go_ret
      exact ⟨ret_bool HE.out.symm, by first | exact E0.out | exact below_drewN E0.out _⟩
  · have HE := Lib.hid (smB_no1 (l := l) (m := m) hN)
    have N0 : (N != M) = true := by simpa using hN
    clear hN
    go_enter Try.func13, Try.ntmps13
    go_wp2_with fail
    rw [← hw0]
    clear hw0
    obtain ⟨b0, b1, b2, b3⟩ := bx.facts
    obtain ⟨c0, c1, c2, c3⟩ := by'.facts
    go_wp2_with fail
    try (go_quiet (fail); go_wp2_with fail)
    go_ret
    exact ⟨ret_bool HE.out.symm, by first | exact E0.out | exact below_drewN E0.out _⟩
end Go.Proofs.Ytjfhjckacfkpoaa

namespace Go.Proofs.Ytjfhjckacfkpoaa
open Go.RowKit

set_option maxHeartbeats 400000 in
theorem an_bad (N : Int) (l : List Int) (ao : Option Addr) (cap : Nat) (dao : Option Addr) (dl dc : Nat) (w : World) (hA : Arg w ao l) (hc : chkE N l = 2) :
    Calls Try.prog 21 #[.agg #[.int .i64 N, .slice ao l.length cap], .slice dao dl dc] w (ZRes w 0 [] 2) := by
  have CK := Lib.hid fun W (h : Below w.heap.size w W) => check_as (cap := cap) W (hA.on h) hc
  generalize l.length = len at *
  obtain ⟨w0, hw0⟩ : ∃ w0, w0 = (w.alloc (.cells #[.int .i64 N, .slice ao len cap] 24)).alloc (.cells #[.int .i64 0, .slice none 0 0] 24) := ⟨_, rfl⟩
  have bx : Two w0 w.heap.size (.int .i64 N) (.slice ao len cap) := by rw [hw0]; exact (Two.made _ _ _ _).alloc _
  have rs : Two w0 (w.heap.size + 1) (.int .i64 0) (.slice none 0 0) := by
    rw [hw0]
    have := Two.made (w.alloc (.cells #[.int .i64 N, .slice ao len cap] 24)) (.int .i64 0) (.slice none 0 0) 24
    simpa using this
  have e0 : Below w.heap.size w w0 := by rw [hw0]; exact past_two (Below.refl _ _)
  have E0 := Lib.hid e0
  clear e0 hA hc
  go_enter Try.func21, Try.ntmps21
  go_wp2_with fail
  rw [← hw0]
  clear hw0
  obtain ⟨b0, b1, b2, b3⟩ := bx.facts
  go_wp2_with fail
  refine (CK.out _ E0.out).mono ?_
  rintro e w1 ⟨rfl, hb1⟩
  clear b0 b1 b2 b3
  replace rs := rs.kept hb1
  replace E0 := Lib.hid (below_on E0.out hb1)
  clear hb1 bx
  obtain ⟨b0, b1, b2, b3⟩ := rs.facts
  go_wp2_with fail
  refine bodyPost_ret (v := .tuple #[.agg #[.int .i64 0, .slice none 0 0], .int .i64 2]) (by simp [results, Try.results21, go_sem, b0, b1]) rfl (zres_bad ?_)
  exact (E0.out.setCell (by show w.heap.size ≤ w.heap.size + 1; omega) _).setCell (by show w.heap.size ≤ w.heap.size + 1; omega) _

/-- A list of constraints that came in. -/
def Arg3 (w : World) (dao : Option Addr) (cs : List Con) : Prop := cs ≠ [] → ∃ d, dao = some d ∧ Rd3 w d cs

theorem Arg3.on {w w' : World} {ao : Option Addr} {l : List Con} (h : Arg3 w ao l) (hb : Below w.heap.size w w') : Arg3 w' ao l := fun hl => by
  obtain ⟨a, h1, h2⟩ := h hl
  exact ⟨a, h1, h2.on hb⟩

def anG (N : Int) (cs : List Con) (l : List Int) : Int := if chkE N l = 0 then anE N.toNat cs l else 2

theorem an_gen (N : Int) (l : List Int) (ao : Option Addr) (cap : Nat) (cs : List Con) (dao : Option Addr) (dc : Nat) (w : World) (hA : Arg w ao l) (hD : Arg3 w dao cs) (hdl : cs.length ≤ 1000) :
    Calls Try.prog 21 #[.agg #[.int .i64 N, .slice ao l.length cap], .slice dao cs.length dc] w (ZRes w N (Zo.clo N.toNat (anL N.toNat cs l)) (anG N cs l)) := by
  by_cases hc : chkE N l = 0
  · obtain ⟨n, rfl, hn, hl, hne⟩ := chk_ok hc
    obtain ⟨a, rfl, hR⟩ := hA hne
    rw [show anG (n : Int) cs l = anE n cs l by unfold anG; rw [if_pos hc]; rfl]
    by_cases he : cs = []
    · exact an_any n l a cap cs dao a dc w hn hl hR hc (by rw [he]; intro j hj; simp at hj) hdl (fun h => absurd he h)
    · obtain ⟨d, rfl, hd⟩ := hD he
      exact an_any n l a cap cs (some d) d dc w hn hl hR hc hd hdl (fun _ => rfl)
  · exact (an_bad N l ao cap dao cs.length dc w hA (chk_two hc)).mono fun e w' h => h.bad (by unfold anG; rw [if_neg hc])

def isC (i j c : Int) : List Con := [(i, j, 2 * c + 1), (j, i, -2 * c + 1)]

def cnB (c : Int) : Bool := decide (0 ≤ c ∧ c ≤ 1048576)
end Go.Proofs.Ytjfhjckacfkpoaa

namespace Go.Proofs.Ytjfhjckacfkpoaa
open Go.RowKit

theorem ZRes.ok {w : World} {N : Int} {l : List Int} {er : Int} {e : Ending} {w' : World} (h : ZRes w N l er e w') (he : er = 0) : ∃ g c, e = .returned (.tuple #[.agg #[.int .i64 N, .slice (some ⟨g, 0, none⟩) l.length c], .int .i64 0]) ∧ w.heap.size ≤ g ∧ Own w' g c l ∧ Below w.heap.size w w' := by
  rcases h.2 with ⟨_, g, c, h1, h2, h3⟩ | ⟨h1, _⟩
  · exact ⟨g, c, h1, h2, h3, h.1⟩
  · exact absurd he h1

theorem ZRes.no {w : World} {N : Int} {l : List Int} {er : Int} {e : Ending} {w' : World} (h : ZRes w N l er e w') (he : er ≠ 0) : e = .returned (.tuple #[.agg #[.int .i64 0, .slice none 0 0], .int .i64 er]) ∧ Below w.heap.size w w' := by
  rcases h.2 with ⟨h1, _⟩ | ⟨_, h1⟩
  · exact absurd h1 he
  · exact ⟨h1, h.1⟩

theorem Own.arg {w : World} {g c : Nat} {l : List Int} (h : Own w g c l) : Arg w (some ⟨g, 0, none⟩) l := fun _ => ⟨_, rfl, h.rd⟩

/-- What Reset returns: Free, then And. -/
def reM (n i : Nat) (l : List Int) : List Int := Zo.clo n (frL n i l)

def reL (n i : Nat) (c : Int) (l : List Int) : List Int := Zo.clo n (anL n (isC i 0 c) (reM n i l))

def reE (n i : Nat) (c : Int) (l : List Int) : Int := if cloE n (frL n i l) = 0 then anG n (isC i 0 c) (reM n i l) else cloE n (frL n i l)

theorem own_below {w w' : World} {g c : Nat} {l : List Int} (h : Own w g c l) (hb : Below w.heap.size w w') : Own w' g c l :=
  h.kept (row := none) ⟨hb.os, hb.tape, hb.output, hb.size, fun k hk _ => hb.block k hk⟩ (by simp)
end Go.Proofs.Ytjfhjckacfkpoaa

namespace Go.Proofs.Ytjfhjckacfkpoaa
open Go.RowKit

def wdF (low high : List Int) : Nat → Nat → Int → Int := fun i j x => wdn x i j low high

def wdM (n : Nat) (low high l : List Int) : List Int := Zo.elL n (wdF low high) l

def wdE (N : Int) (low high l : List Int) : Int := if (decide (chkE N l = 0) && ksB N low && ksB N high) = true then closeE N (wdM N.toNat low high l) else 2

theorem wdM_len (n : Nat) (low high l : List Int) : (wdM n low high l).length = l.length := Zo.elL_len _ _ _

theorem wdn_i64 {n : Nat} {x : Int} {i j : Nat} {low high : List Int} (hx : I64 x) (hh : Kn n high) (hj : j ≤ n) : I64 (wdn x i j low high) := by
  unfold wdn
  have t1 : I64 1099511627776 := i64lit _ (by omega) (by omega)
  split
  · exact t1
  split
  · exact t1
  split
  · split
    · exact i64lit _ (by omega) (by omega)
    · exact t1
  split
  · rename_i h
    have := hh.2 (j - 1) (by omega)
    exact i64lit _ (by omega) (by omega)
  · exact hx

set_option maxRecDepth 100000 in
set_option maxHeartbeats 2000000 in
theorem rbounds_bad (N : Int) (l : List Int) (ao : Option Addr) (cap : Nat) (low high : List Int) (lo ho : Option Addr) (lc hc : Nat) (w : World) (hA : Arg w ao l) (hL : Arg w lo low) (hH : Arg w ho high) (l1 : low.length ≤ 9223372036854775807) (l2 : high.length ≤ 9223372036854775807)
    (hbad : (decide (chkE N l = 0) && ksB N low && ksB N high) = false) :
    Calls Try.prog 10 #[.agg #[.int .i64 N, .slice ao l.length cap], .slice lo low.length lc, .slice ho high.length hc] w (ZRes w 0 [] 2) := by
  have CK := Lib.hid (fun (W : World) (h : Below w.heap.size w W) => check_gen N l ao cap W (hA.on h))
  have K1 := Lib.hid (fun (W : World) (h : Below w.heap.size w W) => constants_any N l low ao lo cap lc W (hL.on h) l1)
  have K2 := Lib.hid (fun (W : World) (h : Below w.heap.size w W) => constants_any N l high ao ho cap hc W (hH.on h) l2)
  generalize ksB N low = k1 at *
  generalize ksB N high = k2 at *
  generalize chkE N l = er at *
  generalize l.length = len at *
  generalize low.length = nl at *
  generalize high.length = nh at *
  obtain ⟨w0, hw0⟩ : ∃ w0, w0 = (w.alloc (.cells #[.int .i64 N, .slice ao len cap] 24)).alloc (.cells #[.int .i64 0, .slice none 0 0] 24) := ⟨_, rfl⟩
  have bx : Two w0 w.heap.size (.int .i64 N) (.slice ao len cap) := by rw [hw0]; exact (Two.made _ _ _ _).alloc _
  have rs : Two w0 (w.heap.size + 1) (.int .i64 0) (.slice none 0 0) := by
    rw [hw0]
    have := Two.made (w.alloc (.cells #[.int .i64 N, .slice ao len cap] 24)) (.int .i64 0) (.slice none 0 0) 24
    simpa using this
  have E0 := Lib.hid (show Below w.heap.size w w0 by rw [hw0]; exact past_two (Below.refl _ _))
  have HW0 := Lib.hid hw0
  clear hA hL hH hw0
  by_cases he : er = 0
  · have D : (er != 0) = false := by simpa using he
    subst he
    cases k1
    · go_enter Try.func10, Try.ntmps10
      go_wp2_with fail
      rw [← HW0.out]
      obtain ⟨b0, b1, b2, b3⟩ := bx.facts
      go_wp2_with fail
      refine (CK.out _ E0.out).mono ?_
      rintro e w1 ⟨rfl, hb1⟩
      have E1 := Lib.hid (below_on E0.out hb1)
      clear b0 b1 b2 b3
      replace bx := bx.kept hb1
      replace rs := rs.kept hb1
      clear hb1
      obtain ⟨b0, b1, b2, b3⟩ := bx.facts
      go_wp2_with fail
      refine (K1.out _ E1.out).mono ?_
      rintro e w2 ⟨rfl, hb1⟩
      have E2 := Lib.hid (below_on E1.out hb1)
      clear b0 b1 b2 b3
      replace bx := bx.kept hb1
      replace rs := rs.kept hb1
      clear hb1
      obtain ⟨b0, b1, b2, b3⟩ := bx.facts
      clear b0 b1 b2 b3
      obtain ⟨r0, r1, r2, r3⟩ := rs.facts
      go_wp2_with fail
      refine bodyPost_ret (v := .tuple #[.agg #[.int .i64 0, .slice none 0 0], .int .i64 2]) (by simp [results, Try.results10, go_sem, r0, r1]) rfl (zres_bad ?_)
      exact (E2.out.setCell (by show w.heap.size ≤ w.heap.size + 1; omega) _).setCell (by show w.heap.size ≤ w.heap.size + 1; omega) _
    · have hk2 : k2 = false := by simpa using hbad
      subst hk2
      go_enter Try.func10, Try.ntmps10
      go_wp2_with fail
      rw [← HW0.out]
      obtain ⟨b0, b1, b2, b3⟩ := bx.facts
      go_wp2_with fail
      refine (CK.out _ E0.out).mono ?_
      rintro e w1 ⟨rfl, hb1⟩
      have E1 := Lib.hid (below_on E0.out hb1)
      clear b0 b1 b2 b3
      replace bx := bx.kept hb1
      replace rs := rs.kept hb1
      clear hb1
      obtain ⟨b0, b1, b2, b3⟩ := bx.facts
      go_wp2_with fail
      refine (K1.out _ E1.out).mono ?_
      rintro e w2 ⟨rfl, hb1⟩
      have E2 := Lib.hid (below_on E1.out hb1)
      clear b0 b1 b2 b3
      replace bx := bx.kept hb1
      replace rs := rs.kept hb1
      clear hb1
      obtain ⟨b0, b1, b2, b3⟩ := bx.facts
      go_wp2_with fail
      refine (K2.out _ E2.out).mono ?_
      rintro e w3 ⟨rfl, hb1⟩
      have E3 := Lib.hid (below_on E2.out hb1)
      clear b0 b1 b2 b3
      replace bx := bx.kept hb1
      replace rs := rs.kept hb1
      clear hb1
      obtain ⟨b0, b1, b2, b3⟩ := bx.facts
      clear b0 b1 b2 b3
      obtain ⟨r0, r1, r2, r3⟩ := rs.facts
      go_wp2_with fail
      refine bodyPost_ret (v := .tuple #[.agg #[.int .i64 0, .slice none 0 0], .int .i64 2]) (by simp [results, Try.results10, go_sem, r0, r1]) rfl (zres_bad ?_)
      exact (E3.out.setCell (by show w.heap.size ≤ w.heap.size + 1; omega) _).setCell (by show w.heap.size ≤ w.heap.size + 1; omega) _
  · have D : (er != 0) = true := by simpa using he
    clear he hbad
    go_enter Try.func10, Try.ntmps10
    go_wp2_with fail
    rw [← HW0.out]
    obtain ⟨b0, b1, b2, b3⟩ := bx.facts
    go_wp2_with fail
    refine (CK.out _ E0.out).mono ?_
    rintro e w1 ⟨rfl, hb1⟩
    have E1 := Lib.hid (below_on E0.out hb1)
    clear b0 b1 b2 b3
    replace bx := bx.kept hb1
    replace rs := rs.kept hb1
    clear hb1
    obtain ⟨b0, b1, b2, b3⟩ := bx.facts
    clear b0 b1 b2 b3
    obtain ⟨r0, r1, r2, r3⟩ := rs.facts
    go_wp2_with fail
    refine bodyPost_ret (v := .tuple #[.agg #[.int .i64 0, .slice none 0 0], .int .i64 2]) (by simp [results, Try.results10, go_sem, r0, r1]) rfl (zres_bad ?_)
    exact (E1.out.setCell (by show w.heap.size ≤ w.heap.size + 1; omega) _).setCell (by show w.heap.size ≤ w.heap.size + 1; omega) _

set_option maxRecDepth 100000 in
set_option maxHeartbeats 8000000 in
theorem rbounds_ok (n : Nat) (l : List Int) (a : Addr) (cap : Nat) (low high : List Int) (lo ho : Option Addr) (lc hc : Nat) (w : World) (hn : n ≤ 10) (hl : l.length = (n + 1) * (n + 1)) (hv : A6 l) (hR : Rd w a l) (hL : Arg w lo low) (hH : Arg w ho high)
    (hck : chkE n l = 0) (hk1 : ksB n low = true) (hk2 : ksB n high = true) :
    Calls Try.prog 10 #[.agg #[.int .i64 n, .slice (some a) l.length cap], .slice lo low.length lc, .slice ho high.length hc] w (ZRes w n (Zo.clo n (wdM n low high l)) (closeE n (wdM n low high l))) := by
  obtain ⟨i0, hi, hz0, hz1, hz2⟩ := info_parts Try.info49
  have kn1 := ksB_kn hk1
  have kn2 := ksB_kn hk2
  have CK := Lib.hid (show ∀ (W : World), Below w.heap.size w W → Calls Try.prog 29 #[.agg #[.int .i64 n, .slice (some a) l.length cap]] W (Made (.int .i64 0) W) from fun W h => by have := check_gen n l (some a) cap W (fun _ => ⟨a, rfl, hR.on h⟩); rwa [hck] at this)
  have K1 := Lib.hid (show ∀ (W : World), Below w.heap.size w W → Calls Try.prog 30 #[.agg #[.int .i64 n, .slice (some a) l.length cap], .slice lo low.length lc] W (Made (.bool true) W) from fun W h => by have := constants_any n l low (some a) lo cap lc W (hL.on h) (by have := kn1.1; omega); rwa [hk1] at this)
  have K2 := Lib.hid (show ∀ (W : World), Below w.heap.size w W → Calls Try.prog 30 #[.agg #[.int .i64 n, .slice (some a) l.length cap], .slice ho high.length hc] W (Made (.bool true) W) from fun W h => by have := constants_any n l high (some a) ho cap hc W (hH.on h) (by have := kn2.1; omega); rwa [hk2] at this)
  have WD := Lib.hid (show ∀ (i j : Nat) (x : Int) (g cc : Nat) (y : List Int) (w1 W : World), i ≤ n → j ≤ n → I64 x → Below w.heap.size w w1 → w.heap.size ≤ g → St w1 g cc y W → Calls Try.prog 31 #[.int .i64 x, .int .i64 i, .int .i64 j, .slice lo low.length lc, .slice ho high.length hc] W (Still (.int .i64 (wdn x i j low high)) W) from fun i j x g cc y w1 W h1 h2 hx hw1 hg hS => by
    refine widened_any n i j x low high lo ho lc hc W hn h1 h2 hx kn1 kn2 ?_ ?_
    · intro he
      obtain ⟨d, hd, hr⟩ := hL he
      exact ⟨d, hd, (hr.on hw1).grown hS.2 (fun _ => by have := World.block_lt_of_cell? w _ (hr 0 (by cases low with | nil => exact absurd rfl he | cons _ _ => simp)); rw [show (d.add 0).block = d.block by unfold Addr.add; split <;> rfl] at this; omega)⟩
    · intro he
      obtain ⟨d, hd, hr⟩ := hH he
      exact ⟨d, hd, (hr.on hw1).grown hS.2 (fun _ => by have := World.block_lt_of_cell? w _ (hr 0 (by cases high with | nil => exact absurd rfl he | cons _ _ => simp)); rw [show (d.add 0).block = d.block by unfold Addr.add; split <;> rfl] at this; omega)⟩)
  have HI := Lib.hid (show ∀ (i j : Nat) (x : Int), j ≤ n → I64 x → I64 (wdn x i j low high) from fun i j x hj hx => wdn_i64 hx kn2 hj)
  have CC := Lib.hid (show ∀ (g c : Nat) (x : List Int) (W : World), Own W g c x → Calls Try.prog 32 #[.int .i64 n, .slice (some ⟨g, 0, none⟩) x.length c] W (ZRes W n (Zo.clo n x) (closeE n x)) from fun g c x W h => by have := close_gen n x (some ⟨g, 0, none⟩) c W h.arg; simpa using this)
  have hM : wdM n low high l = Zo.elL n (wdF low high) l := rfl
  rw [hM]
  have HF := Lib.hid (show ∀ (i j : Nat) (x : Int), wdF low high i j x = wdn x i j low high from fun _ _ _ => rfl)
  generalize wdF low high = f at *
  obtain ⟨len, hlen⟩ : ∃ len, len = l.length := ⟨_, rfl⟩
  obtain ⟨xs, hxs⟩ : ∃ xs, xs = l.map (Value.int .i64) := ⟨_, rfl⟩
  have RN := Lib.hid (show ∀ w' : World, Below w.heap.size w w' → ∀ j u, xs[j]? = some u → w'.cell? (a.add j) = some u from fun w' h => by rw [hxs]; exact (hR.on h).map)
  have m1 : xs.length = len * 1 := by rw [hxs, hlen]; simp
  have o1 : ∀ u ∈ xs, u.oneCell' = true := by rw [hxs]; simp [Value.oneCell']
  have ln : len ≤ 121 := by rw [hlen, hl]; exact dsq_le hn
  have lp : 0 < len := by rw [hlen, hl]; exact dsq_pos n
  have HX := Lib.hid hxs
  have HO1 := Lib.hid o1
  have HLen := Lib.hid hlen
  have HL := Lib.hid hl
  have HV := Lib.hid hv
  rw [← hlen] at CK K1 K2 ⊢
  clear hR hL hH hck hk1 hk2 kn1 kn2 hM hlen hxs o1 hl hv
  generalize low.length = nl at *
  generalize high.length = nh at *
  obtain ⟨w0, hw0⟩ : ∃ w0, w0 = (w.alloc (.cells #[.int .i64 n, .slice (some a) len cap] 24)).alloc (.cells #[.int .i64 0, .slice none 0 0] 24) := ⟨_, rfl⟩
  have bx : Two w0 w.heap.size (.int .i64 n) (.slice (some a) len cap) := by rw [hw0]; exact (Two.made _ _ _ _).alloc _
  have rs : Two w0 (w.heap.size + 1) (.int .i64 0) (.slice none 0 0) := by
    rw [hw0]
    have := Two.made (w.alloc (.cells #[.int .i64 n, .slice (some a) len cap] 24)) (.int .i64 0) (.slice none 0 0) 24
    simpa using this
  have E0 := Lib.hid (show Below w.heap.size w w0 by rw [hw0]; exact past_two (Below.refl _ _))
  have z0 : w0.heap.size = w.heap.size + 2 := by rw [hw0]; simp
  go_enter Try.func10, Try.ntmps10
  go_wp2_with fail
  rw [← hw0]
  clear hw0
  obtain ⟨b0, b1, b2, b3⟩ := bx.facts
  go_wp2_with fail
  refine (CK.out _ E0.out).mono ?_
  rintro e w1 ⟨rfl, hb1⟩
  have E1 := Lib.hid (below_on E0.out hb1)
  clear b0 b1 b2 b3
  replace bx := bx.kept hb1
  replace rs := rs.kept hb1
  have z1 := hb1.size
  clear hb1 CK E0
  obtain ⟨b0, b1, b2, b3⟩ := bx.facts
  go_wp2_with fail
  refine (K1.out _ E1.out).mono ?_
  rintro e w2 ⟨rfl, hb1⟩
  have E2 := Lib.hid (below_on E1.out hb1)
  clear b0 b1 b2 b3
  replace bx := bx.kept hb1
  replace rs := rs.kept hb1
  have z2 := hb1.size
  clear hb1 K1 E1
  obtain ⟨b0, b1, b2, b3⟩ := bx.facts
  go_wp2_with fail
  refine (K2.out _ E2.out).mono ?_
  rintro e w3 ⟨rfl, hb1⟩
  have E3 := Lib.hid (below_on E2.out hb1)
  clear b0 b1 b2 b3
  replace bx := bx.kept hb1
  replace rs := rs.kept hb1
  have z3 := hb1.size
  clear hb1 K2 E2
  obtain ⟨b0, b1, b2, b3⟩ := bx.facts
  have b0' := kept (one_more (w1 := w3) (.cells #[] 49)) b0
  have b1' := kept (one_more (w1 := w3) (.cells #[] 49)) b1
  have B4 := Lib.hid (show Below w.heap.size w (w3.alloc (.cells #[] 49)) from E3.out.alloc E3.out.size _)
  go_wp2_with (at_builtin; refine wpList_append_own _ rfl _ _ 22 rfl w3.heap.size 49 i0 (.int .i64 0) 1 8 Try.underlying22 hi hz0 hz1 hz2 rfl (by decide) _ _ _ rfl (World.ownsRow_made w3 #[] 0 (Nat.le_refl _) (Nat.zero_le _) (by simp)) a len cap xs rfl ?qc1 ?qc2 ?qc3 ?qc4 ?qc5 ?qc6 ?_)
  case qc1 => exact m1
  case qc2 =>
    intro j u hj
    exact RN.out _ B4.out j u hj
  case qc3 => exact HO1.out
  case qc4 => unfold maxLen; omega
  case qc5 => omega
  case qc6 => simp
  intro v' w4 hown hgrow hnil
  have hown' : w4.ownsRow w3.heap.size 49 1 v' len xs := by simpa using hown
  obtain ⟨g, c, rfl⟩ := Joins.ownsRow_form hown' (by omega)
  obtain ⟨ho4, hg4⟩ := own_of hown' HX.out HLen.out
  have G4 : Below w3.heap.size w3 w4 := (one_more _).grown hgrow (by simp) (by intro k hk; simp [Value.ownBlock] at hk; omega)
  have E4 := Lib.hid (below_on E3.out G4)
  clear b0 b1 b2 b3 b0' b1'
  replace bx := bx.kept G4
  replace rs := rs.kept G4
  have z4 := G4.size
  have S4 := Lib.hid (show St w4 g c l w4 from ⟨ho4, World.grownBy.refl _ _⟩)
  clear hown hgrow hnil hown' ho4 G4 B4
  go_wp2_with fail
  go_loopw [9, 10, 11] (fun s _ _ wr => ∃ (t : Nat) (x : List Int), t ≤ n + 1 ∧ s = .int .i64 t ∧ Hid (x.length = len ∧ A6 x) ∧ Hid (x = (List.range t).foldl (Zo.elJ n f) l) ∧ Hid (St w4 g c x wr)) (fun s _ _ _ => n + 1 - (intOf s).toNat)
  case atStart => exact ⟨0, l, by omega, rfl, Lib.hid ⟨HLen.out.symm, HV.out⟩, Lib.hid rfl, S4⟩
  case round =>
    obtain ⟨t, x, ht, rfl, HXL, HXX, HT⟩ := hrel
    obtain ⟨b0, b1, b2, b3⟩ := (bx.grown HT.out.2 (by omega)).facts
    by_cases htn : t ≤ n
    · have D1 : decide ((t : Int) ≤ (n : Int)) = true := by simp; omega
      go_wp2_with fail
      clear b0 b1 b2 b3
      go_loopw [10, 11] (fun s _ wr => ∃ (u : Nat) (y : List Int), u ≤ n + 1 ∧ s = .int .i64 u ∧ Hid (y.length = len ∧ A6 y) ∧ Hid (y = (List.range u).foldl (Zo.elS n f t) x) ∧ Hid (St w4 g c y wr)) (fun s _ _ => n + 1 - (intOf s).toNat)
      case atStart => exact ⟨0, x, by omega, rfl, HXL, Lib.hid rfl, HT⟩
      case round =>
        obtain ⟨u, y, hu, rfl, HYL, HY, HU⟩ := hrel
        obtain ⟨b0, b1, b2, b3⟩ := (bx.grown HU.out.2 (by omega)).facts
        by_cases hun : u ≤ n
        · have D2 : decide ((u : Int) ≤ (n : Int)) = true := by simp; omega
          have t1 := Zo.ix_lt htn hun
          have t2 : (t : Int) * ((n : Int) + 1) + (u : Int) < (len : Int) := by rw [HLen.out, HL.out]; exact_mod_cast t1
          have t3 : (t : Int) * ((n : Int) + 1) ≤ 110 ∧ 0 ≤ (t : Int) * ((n : Int) + 1) := by
            have : t * (n + 1) ≤ 10 * 11 := Nat.mul_le_mul (by omega) (by omega)
            constructor
            · exact_mod_cast this
            · exact_mod_cast Nat.zero_le _
          have t4 : 0 ≤ (t : Int) * ((n : Int) + 1) + (u : Int) := by omega
          have t5 : ((t : Int) * ((n : Int) + 1) + (u : Int)).toNat = t * (n + 1) + u := by
            rw [show (t : Int) * ((n : Int) + 1) + (u : Int) = ((t * (n + 1) + u : Nat) : Int) by push_cast; rfl]; exact Int.toNat_natCast _
          by_cases htu : t = u
          · have D3 : ((t : Int) != (u : Int)) = false := by simp; omega
            have HE := Lib.hid htu
            clear htu
            go_wp2_with fail
            go_roundw
            case rel => exact ⟨u + 1, y, by omega, by go_num, HYL, Lib.hid (by rw [Zo.fold_succ, ← HY.out]; unfold Zo.elS; rw [if_pos HE.out]), HU⟩
            case measure => simp [intOf]; omega
          · have D3 : ((t : Int) != (u : Int)) = true := by simp; omega
            have HE := Lib.hid htu
            clear htu
            obtain ⟨z, hz⟩ : ∃ z, z = Zo.At n y t u := ⟨_, rfl⟩
            have iz : I64 z := by rw [hz]; exact HYL.out.2 _ (by rw [HYL.out.1, HLen.out, HL.out]; exact t1)
            have HZ := Lib.hid hz
            have HIZ := Lib.hid (HI.out t u z hun iz)
            obtain ⟨q0, q1⟩ : wr.cell? ⟨g, t * (n + 1) + u, none⟩ = some (.int .i64 z) ∧ wr.frozen? ⟨g, t * (n + 1) + u, none⟩ = false := by
              rw [hz]; exact HU.out.get (k := Zo.ix n t u) (by rw [HYL.out.1, HLen.out, HL.out]; exact t1)
            have WX := Lib.hid (WD.out t u z g c y w4 wr htn hun iz E4.out (by have := E4.out.size; omega) HU.out)
            have HFZ := Lib.hid (HF.out t u z)
            obtain ⟨zv, hzv⟩ : ∃ zv, zv = wdn z t u low high := ⟨_, rfl⟩
            rw [← hzv] at WX HIZ HFZ
            have S5 := Lib.hid (HU.out.put (t * (n + 1) + u) zv)
            clear hz iz t1 hzv
            go_wp2_with fail
            refine WX.out.mono ?_
            rintro e w5 ⟨rfl, hw⟩
            rw [hw]
            clear hw w5
            go_wp2_with fail
            go_roundw
            case rel => exact ⟨u + 1, y.set (t * (n + 1) + u) zv, by omega, by go_num, Lib.hid ⟨by rw [List.length_set]; exact HYL.out.1, HYL.out.2.put _ HIZ.out⟩, Lib.hid (by rw [Zo.fold_succ, ← HY.out]; unfold Zo.elS; rw [if_neg HE.out, ← HZ.out, HFZ.out]; rfl), S5⟩
            case measure => simp [intOf]; omega
        · have D2 : decide ((u : Int) ≤ (n : Int)) = false := by simp; omega
          have HE := Lib.hid (show y = Zo.elJ n f x t by rw [HY.out, show u = n + 1 by omega]; rfl)
          go_wp2_with fail
          go_roundw
          case rel => exact ⟨t + 1, y, by omega, by go_num, HYL, Lib.hid (by rw [Zo.fold_succ, ← HXX.out]; exact HE.out), HU⟩
          case measure => simp [intOf]; omega
    · have D1 : decide ((t : Int) ≤ (n : Int)) = false := by simp; omega
      have HE := Lib.hid (show x = Zo.elL n f l by rw [HXX.out, show t = n + 1 by omega]; rfl)
      have CX := Lib.hid (show ∀ W, Own W g c x → Calls Try.prog 32 #[.int .i64 n, .slice (some ⟨g, 0, none⟩) len c] W (ZRes W n (Zo.clo n x) (closeE n x)) from fun W h => by have := CC.out g c x W h; rwa [HXL.out.1] at this)
      have rs5 := rs.grown HT.out.2 (by omega)
      have E5 := Lib.hid (grown_over E4.out HT.out.2 (by have := E4.out.size; omega))
      go_wp2_with fail
      refine (CX.out _ HT.out.1).mono ?_
      intro e w6 hz6
      have hlt := rs5.lt
      have rs6 := rs5.kept hz6.1
      obtain ⟨r0, r1, r2, r3⟩ := rs6.facts
      clear b0 b1 b2 b3
      have z5 := E5.out.size
      by_cases he : closeE (n : Int) x = 0
      · obtain ⟨g6, c6, rfl, hg6, ho6, hb6⟩ := hz6.ok he
        have HEE := Lib.hid he
        have E6 := Lib.hid (below_on E5.out hb6)
        have HO6 := Lib.hid ho6
        clear hz6 he hb6 ho6
        go_wp2_with fail
        refine bodyPost_ret (v := .tuple #[.agg #[.int .i64 n, .slice (some ⟨g6, 0, none⟩) (Zo.clo n x).length c6], .int .i64 0]) (by simp [results, Try.results10, go_sem, r0, r1]) rfl (by rw [← HE.out]; exact ⟨(E6.out.setCell (by show w.heap.size ≤ w.heap.size + 1; omega) _).setCell (by show w.heap.size ≤ w.heap.size + 1; omega) _, Or.inl ⟨HEE.out, g6, c6, rfl, by omega, put_far HO6.out (by omega) _ _⟩⟩)
      · obtain ⟨rfl, hb6⟩ := hz6.no he
        have E6 := Lib.hid (below_on E5.out hb6)
        have HEE := Lib.hid he
        clear hz6 he hb6
        go_wp2_with fail
        refine bodyPost_ret (v := .tuple #[.agg #[.int .i64 0, .slice none 0 0], .int .i64 (closeE n x)]) (by simp [results, Try.results10, go_sem, r0, r1]) rfl (by rw [← HE.out]; exact ⟨(E6.out.setCell (by show w.heap.size ≤ w.heap.size + 1; omega) _).setCell (by show w.heap.size ≤ w.heap.size + 1; omega) _, Or.inr ⟨HEE.out, rfl⟩⟩)

theorem chk_a6 {n : Nat} {l : List Int} (h : chkE (n : Int) l = 0) (_ : l.length = (n + 1) * (n + 1)) : A6 l := fun k hk => by
  exact (chk_64 h).1 k

theorem rbounds_gen (N : Int) (l : List Int) (ao : Option Addr) (cap : Nat) (low high : List Int) (lo ho : Option Addr) (lc hc : Nat) (w : World) (hA : Arg w ao l) (hL : Arg w lo low) (hH : Arg w ho high) (l1 : low.length ≤ 9223372036854775807) (l2 : high.length ≤ 9223372036854775807) :
    Calls Try.prog 10 #[.agg #[.int .i64 N, .slice ao l.length cap], .slice lo low.length lc, .slice ho high.length hc] w (ZRes w N (Zo.clo N.toNat (wdM N.toNat low high l)) (wdE N low high l)) := by
  cases hb : (decide (chkE N l = 0) && ksB N low && ksB N high)
  · exact (rbounds_bad N l ao cap low high lo ho lc hc w hA hL hH l1 l2 hb).mono fun e w' h => h.bad (by unfold wdE; rw [hb]; rfl)
  · have hh := hb
    simp only [Bool.and_eq_true, decide_eq_true_eq] at hh
    obtain ⟨⟨h0, h1⟩, h2⟩ := hh
    rw [show wdE N low high l = closeE N (wdM N.toNat low high l) by unfold wdE; rw [if_pos hb]]
    obtain ⟨n, rfl, hn, hl, hne⟩ := chk_ok h0
    obtain ⟨a, rfl, hR⟩ := hA hne
    exact rbounds_ok n l a cap low high lo ho lc hc w hn hl (chk_a6 h0 hl) hR hL hH h0 h1 h2
end Go.Proofs.Ytjfhjckacfkpoaa

namespace Go.Proofs.Ytjfhjckacfkpoaa
open Go.RowKit

theorem Try.info2 : (Try.prog.info? 2).map (fun i => (i.zero, i.size, i.bytes)) = some (some (.int .i64 0), 1, 8) := by kernel_rfl

def iV (l : List Int) : List Value := l.map (Value.int .i64)

theorem iV_len (l : List Int) : (iV l).length = l.length * 1 := by simp [iV]

theorem iV_one (l : List Int) : ∀ u ∈ iV l, u.oneCell' = true := by simp [iV, Value.oneCell']

theorem iV_appd (a b : List Int) : iV (a ++ b) = iV a ++ iV b := by simp [iV]

theorem iV_cells {w : World} {a : Addr} {cs : List Int} (h : Rd w a cs) : ∀ j u, (iV cs)[j]? = some u → w.cell? (a.add j) = some u := h.map

/-- A list of int64 of the call's own. -/
def OwnI (w : World) (B : Nat) (v : Value) (l : List Int) : Prop := w.ownsRow B 2 1 v l.length (iV l)

def icS (k : Nat) : Nat → Nat
  | 0 => 0
  | 1 => 1
  | _ => 1 + k

def icP (q : Int) (ps : List Int) : Nat → List Int
  | 0 => []
  | 1 => [q]
  | _ => q :: ps

set_option maxRecDepth 100000 in
set_option maxHeartbeats 4000000 in
theorem igrow_any (m : Nat) (w : World) (h0 : 0 < m) (h1 : m ≤ 1000) :
    Calls Try.prog 73 #[.slice none 0 0, .int .i64 m] w (fun e w' => Below w.heap.size w w' ∧ ∃ v, e = .returned v ∧ OwnI w' w.heap.size v []) := by
  obtain ⟨i0, hi, hz0, hz1, hz2⟩ := info_parts Try.info2
  have D : decide ((m : Int) < 0) = false := by simp
  have D2 : decide ((0 : Int) < (m : Int)) = true := by simp; omega
  have RUN := Lib.hid (Lib.run_append_nil_zeros (P := Try.prog) w 25 3 25 2 i0 (.int .i64 0) .i64 .i64 Try.underlying25 Try.underlying3 hi hz0 m h0 (by omega) (by omega) (by rw [hz2]; omega))
  have G1 := grownCap_ge w m 0 2
  have G2 := grownCap_le_maxLen w m 0 2 (by unfold maxLen; omega)
  generalize grownCap w m 0 2 = c at *
  obtain ⟨w5, hw5⟩ : ∃ w5, w5 = w.drew.alloc (.cells (Builtin.zeroCells (Value.int .i64 0).cells m ++ Builtin.zeroCells (Value.int .i64 0).cells (c - m)) 2) := ⟨_, rfl⟩
  rw [← hw5] at RUN
  have B5 := Lib.hid (show Below w.heap.size w w5 by rw [hw5]; exact (Below.refl _ _).drew.alloc (Nat.le_refl _) _)
  have O5 := Lib.hid (show OwnI w5 w.heap.size (.slice (some ⟨w.heap.size, 0, none⟩) 0 c) [] by
    refine ⟨rfl, .inr ⟨w.heap.size, c, _, rfl, Nat.le_refl _, by rw [hw5]; exact heap_alloc_new w.drew _, Nat.zero_le _, G2, ?_, rfl⟩⟩
    simp only [Array.size_append, size_zeroCells]
    show m * 1 + (c - m) * 1 = c * 1
    omega)
  have hc0 : (c = 0) = False := by simp; omega
  clear hw5
  go_enter Try.func73, Try.ntmps73
  go_wp2_with (at_builtin; refine Lib.wpList_append_run _ rfl _ _ _ _ rfl _ _ rfl rfl _ _ RUN.out ?_)
  go_ret
  exact ⟨B5.out, _, rfl, O5.out⟩

set_option maxRecDepth 100000 in
set_option maxHeartbeats 4000000 in
theorem iconcat_some (h b : Nat) (q : Int) (ps : List Int) (a : Addr) (cap : Nat) (w : World) (h0 : w.cell? ⟨h, 0, none⟩ = some (.slice (some ⟨b, 0, none⟩) 1 1)) (h1 : w.cell? ⟨h, 1, none⟩ = some (.slice (some a) ps.length cap))
    (hq : Rd w ⟨b, 0, none⟩ [q]) (hp : Arg w (some a) ps) (hl : ps.length ≤ 200) :
    Calls Try.prog 59 #[.slice (some ⟨h, 0, none⟩) 2 2] w (fun e w' => Below w.heap.size w w' ∧ ∃ v, e = .returned v ∧ OwnI w' w.heap.size v (q :: ps)) := by
  obtain ⟨i0, hi, hz0, hz1, hz2⟩ := info_parts Try.info2
  have GR := Lib.hid (igrow_any (1 + ps.length) w (by omega) (by omega))
  have CL := Lib.hid (show ∀ W, Below w.heap.size w W → W.cell? ⟨h, 0, none⟩ = some (.slice (some ⟨b, 0, none⟩) 1 1) ∧ W.cell? ⟨h, 1, none⟩ = some (.slice (some a) ps.length cap) from fun W hb => ⟨kept hb h0, kept hb h1⟩)
  have C0 := Lib.hid (show ∀ W, Below w.heap.size w W → ∀ j u, (iV [q])[j]? = some u → W.cell? ((⟨b, 0, none⟩ : Addr).add j) = some u from fun W hb => iV_cells (hq.on hb))
  have hlen := Lib.hid (iV_len [q])
  have C1 := Lib.hid (show ∀ W, Below w.heap.size w W → ∀ j u, (iV ps)[j]? = some u → W.cell? (a.add j) = some u from fun W hb => by
    by_cases c : ps = []
    · subst c; intro j u q; simp [iV] at q
    · obtain ⟨a', e', hr⟩ := hp c
      injection e' with e'
      subst e'
      exact iV_cells (hr.on hb))
  have L1 := Lib.hid (show (iV ps).length = ps.length * 1 from iV_len ps)
  generalize hk : ps.length = k at *
  clear hq hp
  go_enter Try.func59, Try.ntmps59
  go_wp2_with fail
  go_loopw [11, 3] (fun s t wr => ∃ j : Nat, j ≤ 2 ∧ s = .int .i64 j ∧ t = .int .i64 (icS k j) ∧ wr = w) (fun s _ _ => 2 - (intOf s).toNat)
  case atStart => exact ⟨0, by omega, rfl, rfl, rfl⟩
  case round =>
    obtain ⟨j, hj, rfl, rfl, hw⟩ := hrel
    rw [hw]
    clear hw
    obtain ⟨b0, b1⟩ := CL.out w (Below.refl _ _)
    have hjj : j = 0 ∨ j = 1 ∨ j = 2 := by omega
    clear hj
    rcases hjj with rfl | rfl | rfl
    · simp only [icS]
      go_wp2_with fail
      go_roundw
      case rel => exact ⟨1, by omega, by go_num, by go_num, trivial⟩
      case measure => simp [intOf]
    · simp only [icS]
      go_wp2_with fail
      go_roundw
      case rel => exact ⟨2, by omega, by go_num, by go_num, trivial⟩
      case measure => simp [intOf]
    · simp only [icS]
      clear b0 b1
      go_wp2_with fail
      refine GR.out.mono ?_
      rintro e w1 ⟨hb1, v1, rfl, hv1⟩
      have B1 := Lib.hid hb1
      have O1 := Lib.hid hv1
      clear hb1 hv1
      go_wp2_with fail
      go_loopw [27, 6] (fun s v wr => ∃ j : Nat, j ≤ 2 ∧ s = .int .i64 j ∧ Hid (OwnI wr w.heap.size v (icP q ps j) ∧ Below w.heap.size w wr)) (fun s _ _ => 2 - (intOf s).toNat)
      case atStart => exact ⟨0, by omega, rfl, Lib.hid ⟨O1.out, B1.out⟩⟩
      case round =>
        obtain ⟨j, hj, rfl, HX⟩ := hrel
        have hjj : j = 0 ∨ j = 1 ∨ j = 2 := by omega
        clear hj
        rcases hjj with rfl | rfl | rfl
        · obtain ⟨b0, b1⟩ := CL.out _ HX.out.2
          have hown := HX.out.1
          unfold OwnI at hown
          simp only [icP, List.length_nil] at hown
          go_wp2_with (at_builtin; refine wpList_append_own _ rfl _ _ 25 rfl w.heap.size 2 i0 (.int .i64 0) 1 8 Try.underlying25 hi hz0 hz1 hz2 rfl (by decide) _ _ _ rfl hown ⟨b, 0, none⟩ 1 1 (iV [q]) rfl hlen.out (C0.out _ HX.out.2) (iV_one _) (by unfold maxLen; omega) (by omega) HX.out.2.size ?_)
          intro v' w9 hown9 hgrow _
          have B9 := Lib.hid (show Below w.heap.size w w9 from Below.grown HX.out.2 hgrow HX.out.2.size (fun k hk => (World.ownsRow.lt hown k hk).1))
          have O9 := Lib.hid (show OwnI w9 w.heap.size v' (icP q ps 1) from hown9)
          clear hown9 hgrow hown b0 b1
          go_wp2_with fail
          go_roundw
          case rel => exact ⟨1, by omega, by go_num, Lib.hid ⟨O9.out, B9.out⟩⟩
          case measure => simp [intOf]
        · obtain ⟨b0, b1⟩ := CL.out _ HX.out.2
          have hown := HX.out.1
          unfold OwnI at hown
          simp only [icP, List.length_nil, List.length_cons] at hown
          go_wp2_with (at_builtin; refine wpList_append_own _ rfl _ _ 25 rfl w.heap.size 2 i0 (.int .i64 0) 1 8 Try.underlying25 hi hz0 hz1 hz2 rfl (by decide) _ _ _ rfl hown a k cap (iV ps) rfl L1.out (C1.out _ HX.out.2) (iV_one _) (by unfold maxLen; omega) (by omega) HX.out.2.size ?_)
          intro v' w9 hown9 hgrow _
          have B9 := Lib.hid (show Below w.heap.size w w9 from Below.grown HX.out.2 hgrow HX.out.2.size (fun k hk => (World.ownsRow.lt hown k hk).1))
          have O9 := Lib.hid (show OwnI w9 w.heap.size v' (icP q ps 2) by
            unfold OwnI
            simp only [icP]
            rw [show q :: ps = [q] ++ ps from rfl, iV_appd, List.length_append, hk]
            exact hown9)
          clear hown9 hgrow hown b0 b1
          go_wp2_with fail
          go_roundw
          case rel => exact ⟨2, by omega, by go_num, Lib.hid ⟨O9.out, B9.out⟩⟩
          case measure => simp [intOf]
        · go_wp2_with fail
          go_ret
          exact ⟨HX.out.2, _, rfl, HX.out.1⟩

set_option maxRecDepth 100000 in
set_option maxHeartbeats 4000000 in
theorem iconcat_nil (h b : Nat) (q : Int) (w : World) (h0 : w.cell? ⟨h, 0, none⟩ = some (.slice (some ⟨b, 0, none⟩) 1 1)) (h1 : w.cell? ⟨h, 1, none⟩ = some (.slice none 0 0))
    (hq : Rd w ⟨b, 0, none⟩ [q]) :
    Calls Try.prog 59 #[.slice (some ⟨h, 0, none⟩) 2 2] w (fun e w' => Below w.heap.size w w' ∧ ∃ v, e = .returned v ∧ OwnI w' w.heap.size v (q :: [])) := by
  obtain ⟨i0, hi, hz0, hz1, hz2⟩ := info_parts Try.info2
  have GR := Lib.hid (igrow_any 1 w (by omega) (by omega))
  have CL := Lib.hid (show ∀ W, Below w.heap.size w W → W.cell? ⟨h, 0, none⟩ = some (.slice (some ⟨b, 0, none⟩) 1 1) ∧ W.cell? ⟨h, 1, none⟩ = some (.slice none 0 0) from fun W hb => ⟨kept hb h0, kept hb h1⟩)
  have C0 := Lib.hid (show ∀ W, Below w.heap.size w W → ∀ j u, (iV [q])[j]? = some u → W.cell? ((⟨b, 0, none⟩ : Addr).add j) = some u from fun W hb => iV_cells (hq.on hb))
  have hlen := Lib.hid (iV_len [q])
  clear hq
  go_enter Try.func59, Try.ntmps59
  go_wp2_with fail
  go_loopw [11, 3] (fun s t wr => ∃ j : Nat, j ≤ 2 ∧ s = .int .i64 j ∧ t = .int .i64 (icS 0 j) ∧ wr = w) (fun s _ _ => 2 - (intOf s).toNat)
  case atStart => exact ⟨0, by omega, rfl, rfl, rfl⟩
  case round =>
    obtain ⟨j, hj, rfl, rfl, hw⟩ := hrel
    rw [hw]
    clear hw
    obtain ⟨b0, b1⟩ := CL.out w (Below.refl _ _)
    have hjj : j = 0 ∨ j = 1 ∨ j = 2 := by omega
    clear hj
    rcases hjj with rfl | rfl | rfl
    · simp only [icS]
      go_wp2_with fail
      go_roundw
      case rel => exact ⟨1, by omega, by go_num, by go_num, trivial⟩
      case measure => simp [intOf]
    · simp only [icS]
      go_wp2_with fail
      go_roundw
      case rel => exact ⟨2, by omega, by go_num, by go_num, trivial⟩
      case measure => simp [intOf]
    · simp only [icS]
      clear b0 b1
      go_wp2_with fail
      refine GR.out.mono ?_
      rintro e w1 ⟨hb1, v1, rfl, hv1⟩
      have B1 := Lib.hid hb1
      have O1 := Lib.hid hv1
      clear hb1 hv1
      go_wp2_with fail
      go_loopw [27, 6] (fun s v wr => ∃ j : Nat, j ≤ 2 ∧ s = .int .i64 j ∧ Hid (OwnI wr w.heap.size v (icP q [] j) ∧ Below w.heap.size w wr)) (fun s _ _ => 2 - (intOf s).toNat)
      case atStart => exact ⟨0, by omega, rfl, Lib.hid ⟨O1.out, B1.out⟩⟩
      case round =>
        obtain ⟨j, hj, rfl, HX⟩ := hrel
        have hjj : j = 0 ∨ j = 1 ∨ j = 2 := by omega
        clear hj
        rcases hjj with rfl | rfl | rfl
        · obtain ⟨b0, b1⟩ := CL.out _ HX.out.2
          have hown := HX.out.1
          unfold OwnI at hown
          simp only [icP, List.length_nil] at hown
          go_wp2_with (at_builtin; refine wpList_append_own _ rfl _ _ 25 rfl w.heap.size 2 i0 (.int .i64 0) 1 8 Try.underlying25 hi hz0 hz1 hz2 rfl (by decide) _ _ _ rfl hown ⟨b, 0, none⟩ 1 1 (iV [q]) rfl hlen.out (C0.out _ HX.out.2) (iV_one _) (by unfold maxLen; omega) (by omega) HX.out.2.size ?_)
          intro v' w9 hown9 hgrow _
          have B9 := Lib.hid (show Below w.heap.size w w9 from Below.grown HX.out.2 hgrow HX.out.2.size (fun k hk => (World.ownsRow.lt hown k hk).1))
          have O9 := Lib.hid (show OwnI w9 w.heap.size v' (icP q [] 1) from hown9)
          clear hown9 hgrow hown b0 b1
          go_wp2_with fail
          go_roundw
          case rel => exact ⟨1, by omega, by go_num, Lib.hid ⟨O9.out, B9.out⟩⟩
          case measure => simp [intOf]
        · obtain ⟨b0, b1⟩ := CL.out _ HX.out.2
          have hown := HX.out.1
          unfold OwnI at hown
          simp only [icP, List.length_nil, List.length_cons] at hown
          have HRUN := Lib.hid (run_append_owned_none (P := Try.prog) _ w.heap.size 25 25 2 i0 1 Try.underlying25 hi _ _ _ hown)
          go_wp2_with (at_builtin; (refine Lib.wpList_append_run _ rfl _ _ _ _ rfl _ _ rfl rfl _ _ HRUN.out ?_))
          have O9 := Lib.hid (show OwnI _ w.heap.size _ (icP q [] 2) from hown)
          clear hown b0 b1
          go_wp2_with fail
          go_roundw
          case rel => exact ⟨2, by omega, by go_num, Lib.hid ⟨O9.out, HX.out.2⟩⟩
          case measure => simp [intOf]
        · go_wp2_with fail
          go_ret
          exact ⟨HX.out.2, _, rfl, HX.out.1⟩

theorem OwnI.arg {w : World} {B : Nat} {v : Value} {l : List Int} (h : OwnI w B v l) (h0 : 0 < l.length) : ∃ g c, v = .slice (some ⟨g, 0, none⟩) l.length c ∧ B ≤ g ∧ Rd w ⟨g, 0, none⟩ l := by
  obtain ⟨g, c, rfl⟩ := Joins.ownsRow_form h (by simpa using h0)
  refine ⟨g, c, rfl, (World.ownsRow.lt h g rfl).1, fun j hj => ?_⟩
  have := World.ownsRow.cellAt h j (by simpa using hj)
  rw [addr_add]
  simpa [iV, Zo.gt, hj] using this

set_option maxRecDepth 100000 in
set_option maxHeartbeats 1000000 in
theorem allof_any (l : List Int) (ao : Option Addr) (cap : Nat) (w : World) (hA : Arg w ao l) (hn : ao = none → l = [] ∧ cap = 0) (hl : l.length ≤ 200) :
    Calls Try.prog 28 #[.slice ao l.length cap] w (fun e w' => Below w.heap.size w w' ∧ ∃ g c, e = .returned (.slice (some ⟨g, 0, none⟩) (l.length + 1) c) ∧ w.heap.size ≤ g ∧ Rd w' ⟨g, 0, none⟩ (0 :: l)) := by
  obtain ⟨w2, hw2⟩ : ∃ w2, w2 = (w.alloc (.cells #[.int .i64 0] 2)).alloc (.cells #[.slice (some ⟨w.heap.size, 0, none⟩) 1 1, .slice ao l.length cap] 25) := ⟨_, rfl⟩
  have B2 : Below w.heap.size w w2 := by rw [hw2]; exact past_two (Below.refl _ _)
  have z2 : w2.heap.size = w.heap.size + 2 := by rw [hw2]; simp
  have f0 : w2.cell? ⟨w.heap.size + 1, 0, none⟩ = some (.slice (some ⟨w.heap.size, 0, none⟩) 1 1) := by rw [hw2]; go_simp
  have f1 : w2.cell? ⟨w.heap.size + 1, 1, none⟩ = some (.slice ao l.length cap) := by rw [hw2]; go_simp
  have f2 : w2.cell? ⟨w.heap.size, 0, none⟩ = some (.int .i64 0) := by rw [hw2]; go_simp
  have hq : Rd w2 ⟨w.heap.size, 0, none⟩ [0] := fun j hj => by
    have : j = 0 := by simp at hj; omega
    subst this
    rw [addr_add]; exact f2
  have CC := Lib.hid (show Calls Try.prog 59 #[.slice (some ⟨w.heap.size + 1, 0, none⟩) 2 2] w2 (fun e w' => Below w.heap.size w w' ∧ ∃ g c, e = .returned (.slice (some ⟨g, 0, none⟩) (l.length + 1) c) ∧ w.heap.size ≤ g ∧ Rd w' ⟨g, 0, none⟩ (0 :: l)) by
    have done : ∀ (e : Ending) (w' : World), (Below w2.heap.size w2 w' ∧ ∃ v, e = .returned v ∧ OwnI w' w2.heap.size v (0 :: l)) → (Below w.heap.size w w' ∧ ∃ g c, e = .returned (.slice (some ⟨g, 0, none⟩) (l.length + 1) c) ∧ w.heap.size ≤ g ∧ Rd w' ⟨g, 0, none⟩ (0 :: l)) := by
      rintro e w' ⟨hb, v, rfl, hv⟩
      obtain ⟨g, c, rfl, hg, hr⟩ := hv.arg (by simp)
      exact ⟨below_on B2 hb, g, c, rfl, by omega, hr⟩
    cases ao with
    | none =>
      obtain ⟨rfl, rfl⟩ := hn rfl
      exact (iconcat_nil (w.heap.size + 1) w.heap.size 0 w2 f0 f1 hq).mono done
    | some d => exact (iconcat_some (w.heap.size + 1) w.heap.size 0 l d cap w2 f0 f1 hq (hA.on B2) hl).mono done)
  generalize l.length = len at *
  clear f0 f1 f2 hq B2 z2 hA hn hl
  go_enter Try.func28, Try.ntmps28
  go_wp2_with fail
  rw [← hw2]
  clear hw2
  refine CC.out.mono ?_
  rintro e w3 ⟨hb, g, c, rfl, hg, hr⟩
  have HB := Lib.hid hb
  have HR := Lib.hid hr
  clear hb hr
  go_wp2_with fail
  go_ret
  exact ⟨HB.out, g, c, rfl, hg, HR.out⟩
end Go.Proofs.Ytjfhjckacfkpoaa

namespace Go.Proofs.Ytjfhjckacfkpoaa
open Go.RowKit

theorem rd_close (N : Int) (l : List Int) : closeE N l = if rdB N l then cloE N.toNat l else 2 := rfl

set_option maxRecDepth 100000 in
set_option maxHeartbeats 4000000 in
theorem zclose_gen (N : Int) (l : List Int) (ao : Option Addr) (cap : Nat) (w : World) (hA : Arg w ao l) :
    Calls Try.prog 25 #[.int .i64 N, .slice ao l.length cap] w (ZRes w N (Zo.clo N.toNat l) (closeE N l)) := by
  have hz := mx_zero
  have sz := rdW_size N l
  have s1 := rdW_one N l
  have CR := Lib.hid (show ∀ W, Below w.heap.size w W → _ from fun W h => read_gen N l ao cap W (hA.on h))
  have HM := Lib.hid (show rdB N l = true → ∃ n : Nat, N = n ∧ ∀ (b : Nat) (W : World), Var W b (rdW N l) → Calls Try.prog 50 #[.pointer (some ⟨b, 0, none⟩)] W (GRes b W N (Zo.clo N.toNat l) (closeE N l)) from fun hr => by
    obtain ⟨n, rfl, hn, hl, hv⟩ := rdB_ok hr
    refine ⟨n, rfl, fun b W hV => ?_⟩
    have := mzone_any b n l W hn ⟨by have := hV.1; unfold rdW at this; rw [hr] at this; exact this, hl⟩ (a64_of hv)
    rw [rd_close, hr]
    exact this)
  have HE := Lib.hid (show rdB N l = false → closeE N l = 2 from fun h => by rw [rd_close, h]; rfl)
  generalize rdW N l = A at *
  generalize Zo.clo N.toNat l = r at *
  generalize closeE N l = er at *
  generalize rdB N l = ok at *
  generalize l.length = len at *
  obtain ⟨w0, hw0⟩ : ∃ w0, w0 = w.alloc (.cells #[.int .i64 0, .slice none 0 0] 24) := ⟨_, rfl⟩
  have rs : Two w0 w.heap.size (.int .i64 0) (.slice none 0 0) := by rw [hw0]; exact Two.made _ _ _ _
  have E0 := Lib.hid (show Below w.heap.size w w0 by rw [hw0]; exact one_more _)
  clear hA
  go_enter Try.func25, Try.ntmps25
  go_wp2_with fail
  rw [← hw0]
  clear hw0
  refine (CR.out _ E0.out).mono ?_
  rintro e w1 ⟨rfl, hb⟩
  have rs1 := rs.kept hb
  have HB := Lib.hid (below_on E0.out hb)
  have hlt := rs1.lt
  have hsz := HB.out.size
  obtain ⟨w2, hw2⟩ : ∃ w2, w2 = (w1.alloc (.cells (mcs 0 []) 85)).setRow w1.heap.size A := ⟨_, rfl⟩
  have rs3 : Two w2 w.heap.size (.int .i64 0) (.slice none 0 0) := by rw [hw2]; exact (rs1.alloc _).kept_row (by omega) _
  have V2 : Var w2 w1.heap.size A := by rw [hw2]; exact (Var.made w1).put A sz
  have h2s : w2.heap.size = w1.heap.size + 1 := by rw [hw2]; simp
  have HRS := Lib.hid rs3
  have HV := Lib.hid V2
  have HBE := Lib.hid (show Below w.heap.size w w2 by rw [hw2]; exact Below.setRow (HB.out.alloc hsz _) hsz _)
  clear rs rs1 rs3 V2 hb
  cases ok
  · obtain rfl := HE.out rfl
    obtain ⟨q0, q1, q2, q3⟩ := HRS.out.facts
    rw [hw2] at q0 q1 q2 q3
    rw [hw2] at HBE
    go_wp2_with (refine wpl_store rfl _ _ rfl _ _ rfl rfl _ (Var.made _) sz s1 ?_)
    refine bodyPost_ret (v := .tuple #[.agg #[.int .i64 0, .slice none 0 0], .int .i64 2]) (by simp [results, Try.results25, go_sem, q0, q1]) rfl ⟨(HBE.out.setCell (by show w.heap.size ≤ w.heap.size; omega) _).setCell (by show w.heap.size ≤ w.heap.size; omega) _, Or.inr ⟨by decide, rfl⟩⟩
  · obtain ⟨n, rfl, hmz⟩ := HM.out rfl
    have HMZ := Lib.hid hmz
    clear hmz
    go_wp2_with (refine wpl_store rfl _ _ rfl _ _ rfl rfl _ (Var.made _) sz s1 ?_)
    rw [← hw2]
    clear hw2
    refine (HMZ.out _ _ HV.out).mono ?_
    intro e w4 hG
    obtain ⟨hg4, hres⟩ := hG
    have E4 := Lib.hid (grown_over HBE.out hg4 hsz)
    obtain ⟨q0, q1, q2, q3⟩ := (HRS.out.grown hg4 (by omega)).facts
    rcases hres with ⟨he, g, c, rfl, hgl, hO⟩ | ⟨he, rfl⟩
    · have HO := Lib.hid hO
      subst he
      clear hO hg4
      go_wp2_with fail
      refine bodyPost_ret (v := .tuple #[.agg #[.int .i64 n, .slice (some ⟨g, 0, none⟩) r.length c], .int .i64 0]) (by simp [results, Try.results25, go_sem, q0, q1]) rfl ⟨?_, Or.inl ⟨rfl, g, c, rfl, by omega, put_far HO.out (by omega) _ _⟩⟩
      exact (E4.out.setCell (by show w.heap.size ≤ w.heap.size; omega) _).setCell (by show w.heap.size ≤ w.heap.size; omega) _
    · have HEE := Lib.hid he
      clear hg4 he
      go_wp2_with fail
      refine bodyPost_ret (v := .tuple #[.agg #[.int .i64 0, .slice none 0 0], .int .i64 er]) (by simp [results, Try.results25, go_sem, q0, q1]) rfl ⟨?_, Or.inr ⟨HEE.out, rfl⟩⟩
      exact (E4.out.setCell (by show w.heap.size ≤ w.heap.size; omega) _).setCell (by show w.heap.size ≤ w.heap.size; omega) _
end Go.Proofs.Ytjfhjckacfkpoaa

namespace Go.Proofs.Ytjfhjckacfkpoaa
open Go.RowKit

theorem rlL_at {n i : Nat} {l : List Int} (hl : l.length = (n + 1) * (n + 1)) (hi : i ≤ n) {a b : Nat} (ha : a ≤ n) (hb : b ≤ n) : Zo.At n (rlL n i l) a b = if a = i ∨ b = i then 1099511627776 else Zo.At n l a b := by
  have := (Zo.fold_at (N := n + 1) (f := rlS n i) (p := fun t a b => decide ((a = t ∧ b = i) ∨ (a = i ∧ b = t))) (v := 1099511627776) (fun x t ht hx => ⟨by simpa [rlS] using hx, fun a b _ hb => by
    unfold rlS
    rw [Zo.At_set (by simpa using hx) (by omega) hi _ hb, Zo.At_set hx hi (by omega) _ hb]
    by_cases c1 : a = t ∧ b = i
    · simp [c1]
    · by_cases c2 : a = i ∧ b = t
      · simp [c2]
      · rw [if_neg c1, if_neg c2, if_neg (by simp; omega)]⟩) hl (n + 1) (Nat.le_refl _)).2 a b ha hb
  rw [show rlL n i l = (List.range (n + 1)).foldl (rlS n i) l from rfl, this]
  by_cases c : a = i ∨ b = i
  · rw [if_pos c, if_pos]
    rw [List.any_eq_true]
    by_cases ca : a = i
    · exact ⟨b, List.mem_range.2 (by omega), by simp [ca]⟩
    · exact ⟨a, List.mem_range.2 (by omega), by simp; omega⟩
  · rw [if_neg c, if_neg]
    intro h
    rw [List.any_eq_true] at h
    obtain ⟨s, _, hs⟩ := h
    simp at hs
    omega

theorem frL_at {n i : Nat} {l : List Int} (hl : l.length = (n + 1) * (n + 1)) (hi : i ≤ n) {a b : Nat} (ha : a ≤ n) (hb : b ≤ n) : Zo.At n (frL n i l) a b = if (a = i ∨ b = i) ∧ a ≠ b then 1099511627776 else Zo.At n l a b := by
  have := (Zo.fold_at (N := n + 1) (f := frS n i) (p := fun t a b => decide (t ≠ i ∧ ((a = t ∧ b = i) ∨ (a = i ∧ b = t)))) (v := 1099511627776) (fun x t ht hx => ⟨by rw [frS_len]; exact hx, fun a b _ hb => by
    unfold frS
    by_cases ct : t = i
    · rw [if_pos ct, if_neg (by simp; omega)]
    · rw [if_neg ct, Zo.At_set (by simpa using hx) (by omega) hi _ hb, Zo.At_set hx hi (by omega) _ hb]
      by_cases c1 : a = t ∧ b = i
      · simp [c1, ct]
      · by_cases c2 : a = i ∧ b = t
        · simp [c2, ct]
        · rw [if_neg c1, if_neg c2, if_neg (by simp; omega)]⟩) hl (n + 1) (Nat.le_refl _)).2 a b ha hb
  rw [show frL n i l = (List.range (n + 1)).foldl (frS n i) l from rfl, this]
  by_cases c : (a = i ∨ b = i) ∧ a ≠ b
  · rw [if_pos c, if_pos]
    rw [List.any_eq_true]
    by_cases ca : a = i
    · exact ⟨b, List.mem_range.2 (by omega), by simp [ca]; omega⟩
    · exact ⟨a, List.mem_range.2 (by omega), by simp; omega⟩
  · rw [if_neg c, if_neg]
    intro h
    rw [List.any_eq_true] at h
    obtain ⟨s, _, hs⟩ := h
    simp at hs
    omega

theorem fr_pre {n i : Nat} {l : List Int} (hl : l.length = (n + 1) * (n + 1)) (hi : i ≤ n) (hc : chkE n l = 0) : Zo.pre n (rlL n i l) = Zo.pre n (frL n i l) := by
  obtain ⟨dg, _⟩ := chk_diag hc
  refine Zo.pre_eq (by rw [rlL_len, hl]) (by rw [frL_len, hl]) fun a b ha hb => ⟨fun h => ?_, fun h => ?_⟩
  · rw [rlL_at hl hi ha hb, frL_at hl hi ha hb]
    by_cases c : a = i ∨ b = i
    · rw [if_pos c, if_pos ⟨c, h.2⟩]
    · rw [if_neg c, if_neg (by omega)]
  · rw [rlL_at hl hi ha hb, frL_at hl hi ha hb]
    by_cases c : a = i ∨ b = i
    · rw [if_pos c]
      by_cases e : a = b
      · rw [if_neg (by omega)]
        subst e
        rw [dg a ha]; decide
      · rw [if_pos ⟨c, e⟩]
    · rw [if_neg c, if_neg (by omega)]

theorem rlL_64 {n i : Nat} {l : List Int} (h : Zo.A64 l) : Zo.A64 (rlL n i l) := fold_64 (fun _ _ h => Zo.gt_range _ _ _ (Zo.gt_range _ _ _ h no_in) no_in) h _

theorem ck_nat {n : Nat} {i first : Int} (h : ckB n i first = true) (h0 : 0 ≤ first) : ∃ k : Nat, i = k ∧ k ≤ n ∧ first ≤ k := by
  unfold ckB at h; simp at h; exact ⟨i.toNat, by omega, by omega, by omega⟩
end Go.Proofs.Ytjfhjckacfkpoaa

namespace Go.Proofs.Ytjfhjckacfkpoaa
open Go.RowKit

def okZ (N : Int) (c : Con) : Bool := ckB N c.1 0 && (ckB N c.2.1 0 && lvB c.2.2)

theorem okZ_nat (n : Nat) (c : Con) : okZ n c = okC n c := by
  unfold okZ okC ckB
  cases lvB c.2.2
  · simp
  · rw [Bool.eq_iff_iff]; simp; omega

def aokB (N : Int) (cs : List Con) : Bool := cs.all (okZ N)

/-- The number of the first wrong constraint, or -1. -/
def Idx (N : Int) (cs : List Con) (w : World) (e : Ending) (w' : World) : Prop := ∃ r : Int, e = .returned (.int .i64 r) ∧ (decide (0 ≤ r) = !aokB N cs) ∧ Below w.heap.size w w'
end Go.Proofs.Ytjfhjckacfkpoaa
