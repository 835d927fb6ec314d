/- A part. -/
import Derived.Test.YthjapmdfcbngmaaGreatWr9
import Derived.Deep.WholeRow
import Derived.Deep.Upon
import Derived.DeepKeys
namespace Go.Proofs.YthjapmdfcbngmaaGreat
set_option maxHeartbeats 4000000
open Go.RowKit
theorem mx_info : (Tryz.prog.info? 120).map (fun i => (i.zero, i.size)) = some (some (.agg (mcs 0 [])), 122) := by kernel_rfl
theorem mx_zero (w : World) : (zeroValue 120).run Tryz.prog w = .ok (.agg (mcs 0 [])) w := (zero_of_info mx_info).1 w
theorem mx_size : (Tryz.prog.info? 120).map (·.size) = some 122 := (zero_of_info mx_info).2
theorem mcs_size {n : Nat} {l : List Int} (hl : l.length ≤ 121) : (mcs n l).size = 122 := by
 simp [mcs, pad]; omega
theorem mcs_one (n : Nat) (l : List Int) : (mcs n l).all (·.oneCell') = true := by
 rw [Array.all_eq_true_iff_forall_mem]
 intro v hv
 simp [mcs] at hv
 rcases hv with rfl | ⟨x, _, rfl⟩ <;> rfl
theorem mx_build0 (w : World) : (Instr.build 120 #[]).run Tryz.prog w = .ok (.agg (mcs 0 [])) w := run_build w _ _ _ (by kernel_rfl)
theorem mx_load {w : World} {b : Nat} {cs : Array Value} (h : w.heap[b]? = some (.cells cs 120 (0, 0))) (hs : cs.size = 122) : (loadVar 120 ⟨b, 0, none⟩).run Tryz.prog w = .ok (.agg cs) w :=
 run_loadVar_row w b _ _ cs (0, 0) _ h Tryz.underlying120 rfl (by rw [hs]; exact mx_size)
theorem mx_loadAt {w : World} {b : Nat} {cs : Array Value} (h : w.heap[b]? = some (.cells cs 120 (0, 0))) (hs : cs.size = 122) : (Instr.loadAt 120 (.pointer (some ⟨b, 0, none⟩))).run Tryz.prog w = .ok (.agg cs) w := by
 simp only [Instr.loadAt, Instr.sureAddr, Sem.run_bind, Sem.run_pure, Result.andThen_ok, mx_load h hs]
theorem mx_store {w : World} {b : Nat} {old cs : Array Value} (h : w.heap[b]? = some (.cells old 120 (0, 0))) (ho : old.size = 122) (hs : cs.size = 122) (h1 : cs.all (·.oneCell') = true) :
  (Instr.storeAt 120 (.pointer (some ⟨b, 0, none⟩)) (.agg cs)).run Tryz.prog w = .ok () (w.setRow b cs) := by
 simp only [Instr.storeAt, Instr.sureAddr, Sem.run_bind, Sem.run_pure, Result.andThen_ok]
 exact run_storeVar_row w b _ _ old cs h (by rw [hs]; exact mx_size) (by rw [ho, hs]) h1
theorem mx_storeC {w : World} {b : Nat} {old cs : Array Value} (h : w.heap[b]? = some (.cells old 120 (0, 0))) (ho : old.size = 122) (hs : cs.size = 122) (h1 : cs.all (·.oneCell') = true) :
  (storeCells ⟨b, 0, none⟩ cs.toList).run Tryz.prog w = .ok () (w.setRow b cs) := by
 have := mx_store h ho hs h1
 simp only [Instr.storeAt, Instr.sureAddr, Sem.run_bind, Sem.run_pure, Result.andThen_ok] at this
 cases hq : Tryz.prog.info? 120 with
 | none => have := mx_size; simp [hq] at this
 | some i =>
  have hi := mx_size
  rw [hq] at hi
  have hs' : cs.size = i.size := by simp at hi; omega
  simpa [storeVar, sizeOf, typeInfo, hq, Value.cells, hs'] using this
def Var (w : World) (b : Nat) (cs : Array Value) : Prop := w.heap[b]? = some (.cells cs 120 (0, 0)) ∧ cs.size = 122
theorem Var.made (w : World) : Var (w.alloc (.cells (mcs 0 []) 120)) w.heap.size (mcs 0 []) := ⟨heap_alloc_last w _, mcs_size (by simp)⟩
theorem Var.lt {w : World} {b : Nat} {cs : Array Value} (h : Var w b cs) : b < w.heap.size := by
 by_cases e : b < w.heap.size
 · exact e
 · have := h.1; rw [Array.getElem?_eq_none (by omega)] at this; cases this
theorem Var.kept {w w' : World} {b : Nat} {cs : Array Value} (h : Var w b cs) (hb : Below w.heap.size w w') : Var w' b cs := ⟨(hb.block b h.lt).trans h.1, h.2⟩
theorem Var.put {w : World} {b : Nat} {old : Array Value} (h : Var w b old) (cs : Array Value) (hs : cs.size = 122) : Var (w.setRow b cs) b cs := ⟨setRow_heap w b old _ _ _ h.1, hs⟩
theorem Below.setRow {B : Nat} {w w' : World} (h : Below B w w') {b : Nat} (hle : B ≤ b) (cs : Array Value) : Below B w (w'.setRow b cs) :=
 ⟨h.os, h.tape, h.output, by simpa using h.size, fun k hk => (setRow_other w' b k cs (by omega)).trans (h.block k hk)⟩
theorem wpl_load {ops : Array Oper} {rest : List Oper} {o : Oper} {a : Act} {w : World} {Q : Exit → Act → World → Prop} (hgd : o.guard = none) (x : Operand) (ho : o.op = .load 120 x)
  (b : Nat) (hx : a.eval x = .pointer (some ⟨b, 0, none⟩)) (cs : Array Value) (hv : Var w b cs) (h : wpList Tryz.prog ops Q rest (a.put o.dst (.agg cs)) w) : wpList Tryz.prog ops Q (o :: rest) a w :=
 wpList_load_row hgd _ x ho b hx _ cs (0, 0) _ hv.1 Tryz.underlying120 rfl (by rw [hv.2]; exact mx_size) h
theorem wpl_store {ops : Array Oper} {rest : List Oper} {o : Oper} {a : Act} {w : World} {Q : Exit → Act → World → Prop} (hgd : o.guard = none) (x y : Operand) (ho : o.op = .store 120 x y)
  (b : Nat) (cs : Array Value) (hx : a.eval x = .pointer (some ⟨b, 0, none⟩)) (hy : a.eval y = .agg cs) (old : Array Value) (hv : Var w b old) (hs : cs.size = 122) (h1 : cs.all (·.oneCell') = true)
  (h : wpList Tryz.prog ops Q rest (a.put o.dst undef) (w.setRow b cs)) : wpList Tryz.prog ops Q (o :: rest) a w :=
 wpList_store_row hgd _ x y ho b cs hx hy _ old hv.1 (by rw [hs]; exact mx_size) (by rw [hv.2, hs]) h1 h
theorem results_mx {fn : Func} {p t : Tmp} (h : fn.results = #[.cell p 120, .tmp t]) (tmps : Array Value) {w : World} {b : Nat} {cs : Array Value} {v : Value}
  (hp : tmps.getD p undef = .pointer (some ⟨b, 0, none⟩)) (ht : tmps.getD t undef = v) (hv : Var w b cs) : (results fn tmps).run Tryz.prog w = .ok (.tuple #[.agg cs, v]) w := by
 have hp' : tmps[p]?.getD undef = .pointer (some ⟨b, 0, none⟩) := by simpa using hp
 have ht' : tmps[t]?.getD undef = v := by simpa using ht
 simp [results, h, hp', ht', asAddr, mx_load hv.1 hv.2]
set_option maxRecDepth 100000 in
theorem read_bad1 (N : Int) (l : List Int) (ao : Option Addr) (cap : Nat) (w : World) (hd : dimB N = false) :
  Calls Tryz.prog 153 #[.int .i64 N, .slice ao l.length cap] w (fun e w' => e = .returned (.tuple #[.agg (mcs 0 []), .bool false]) ∧ Below w.heap.size w w') := by
 have hz := mx_zero
 have h0 := mx_build0
 have PD := fun W => isDimension_any N W
 rw [hd] at PD
 have HD := Lib.hid PD
 have V0 := Var.made w
 have HV := Lib.hid V0
 have E0 := Lib.hid (one_more (w1 := w) (.cells (mcs 0 []) 120))
 have hs0 := mx_storeC V0.1 V0.2 (mcs_size (n := 0) (l := []) (by simp)) (mcs_one _ _)
 generalize l.length = len at *
 clear hd PD V0
 go_enter Tryz.func153, Tryz.ntmps153
 go_wp2_with fail
 refine (HD.out _).mono ?_
 rintro e w1 ⟨rfl, rfl⟩
 go_wp2_with fail
 refine bodyPost_ret (results_mx Tryz.results153 _ rfl rfl (HV.out.put (mcs 0 []) (mcs_size (by simp)))) rfl ⟨rfl, ?_⟩
 exact Below.setRow E0.out (Nat.le_refl _) _
def rdB (N : Int) (l : List Int) : Bool := dimB N && decide (l.length = (N.toNat + 1) * (N.toNat + 1)) && l.all lvB
def rdL (l : List Int) : Bool := l.all lvB
def rdV (n : Nat) (l : List Int) : Array Value := if rdL l then mcs n l else mcs 0 []
set_option maxRecDepth 100000 in
theorem read_bad2 (n : Nat) (l : List Int) (ao : Option Addr) (cap : Nat) (w : World) (hn : n ≤ 10) (hne : l.length ≠ (n + 1) * (n + 1)) :
  Calls Tryz.prog 153 #[.int .i64 n, .slice ao l.length cap] w (fun e w' => e = .returned (.tuple #[.agg (mcs 0 []), .bool false]) ∧ Below w.heap.size w w') := by
 have hz := mx_zero
 have h0 := mx_build0
 have PD := fun W => isDimension_any n W
 rw [show dimB (n : Int) = true by unfold dimB; simp; omega] at PD
 have HD := Lib.hid PD
 have HP := Lib.hid (fun W => places_any n W hn)
 have V0 := Var.made w
 have HV := Lib.hid V0
 have E0 := Lib.hid (one_more (w1 := w) (.cells (mcs 0 []) 120))
 have hs0 := mx_storeC V0.1 V0.2 (mcs_size (n := 0) (l := []) (by simp)) (mcs_one _ _)
 generalize l.length = len at *
 generalize (n + 1) * (n + 1) = sz at *
 have D : ((len : Int) != (sz : Int)) = true := by simp; omega
 clear PD V0 hne
 go_enter Tryz.func153, Tryz.ntmps153
 go_wp2_with fail
 refine (HD.out _).mono ?_
 rintro e w1 ⟨rfl, rfl⟩
 go_wp2_with fail
 refine (HP.out _).mono ?_
 rintro e w1 ⟨rfl, rfl⟩
 go_wp2_with fail
 refine bodyPost_ret (results_mx Tryz.results153 _ rfl rfl (HV.out.put (mcs 0 []) (mcs_size (by simp)))) rfl ⟨rfl, ?_⟩
 exact Below.setRow E0.out (Nat.le_refl _) _
theorem mx_buildN (n : Nat) (w : World) : (Instr.build 120 #[(0, .int .i64 n)]).run Tryz.prog w = .ok (.agg (mcs n [])) w := run_build w _ _ _ (by kernel_rfl)
theorem pad_next (d : List Int) (x : Int) (h : d.length < 121) : (pad d).set d.length x = pad (d ++ [x]) := by
 unfold pad
 rw [List.set_append_right _ _ (Nat.le_refl _), Nat.sub_self, List.length_append, show 121 - d.length = (121 - (d.length + 1)) + 1 by omega, List.replicate_succ]
 simp
theorem fill_row {b n : Nat} : ∀ (rest d : List Int) (w : World), w.heap[b]? = some (.cells (mcs n d) 120 (0, 0)) → (d ++ rest).length ≤ 121 →
  (w.setCells b (1 + d.length) (rest.map (Value.int .i64))).heap[b]? = some (.cells (mcs n (d ++ rest)) 120 (0, 0)) := by
 intro rest
 induction rest with
 | nil => intro d w h _; simpa [World.setCells] using h
 | cons x rest ih =>
  intro d w h hl
  have hl2 : d.length < 121 := by simp at hl; omega
  have h1 : (w.setCell ⟨b, 1 + d.length, none⟩ (.int .i64 x)).heap[b]? = some (.cells (mcs n (d ++ [x])) 120 (0, 0)) := by
   rw [heap_setCell_same w b _ _ _ _ h, Nat.add_comm]
   congr 2
   simp [mcs, ← pad_next d x hl2, List.map_set]
  have := ih (d ++ [x]) _ h1 (by simpa using hl)
  simpa [World.setCells, Nat.add_assoc] using this
theorem run_whole (b : Nat) (w : World) :
  (Instr.sliceAt 118 (.pointer (some ⟨b, 1, none⟩)) none none none).run Tryz.prog w = .ok (.slice (some ⟨b, 1, none⟩) 121 121) w := by
 have ha : Tryz.prog.arrayLen 118 = 121 := by simp [Program.arrayLen]
 have he : Tryz.prog.elem 118 = 37 := by simp [Program.elem]
 rw [run_sliceAt_array_all w 118 ⟨b, 1, none⟩ (by rw [ha, he]; exact cells_ty)]
 rw [he, limit_size]
 simp only [Result.andThen_ok, slicedAt, ha]
 rw [if_neg (by omega), Addr.add_mid]
theorem Below.setCells {B : Nat} {w : World} {b : Nat} (hle : B ≤ b) : ∀ (vs : List Value) (o : Nat) (w' : World), Below B w w' → Below B w (w'.setCells b o vs) := by
 intro vs
 induction vs with
 | nil => intro o w' h; exact h
 | cons v vs ih => intro o w' h; exact ih _ _ (h.setCell hle v)
set_option maxRecDepth 100000 in
theorem read_loop (n : Nat) (l : List Int) (a : Addr) (cap : Nat) (w : World) (hn : n ≤ 10) (hl : l.length = (n + 1) * (n + 1)) (hR : Rd w a l) :
  Calls Tryz.prog 153 #[.int .i64 n, .slice (some a) l.length cap] w
   (fun e w' => e = .returned (.tuple #[.agg (rdV n l), .bool (rdL l)]) ∧ Below w.heap.size w w') := by
 have hz := mx_zero
 have h0 := mx_build0
 have hbn := mx_buildN n
 have PD := fun W => isDimension_any n W
 rw [show dimB (n : Int) = true by unfold dimB; simp; omega] at PD
 have HD := Lib.hid PD
 have HP := Lib.hid (fun W => places_any n W hn)
 obtain ⟨w0, hw0⟩ : ∃ w0, w0 = w.alloc (.cells (mcs 0 []) 120) := ⟨_, rfl⟩
 have V0 : Var w0 w.heap.size (mcs 0 []) := by rw [hw0]; exact Var.made w
 have HV := Lib.hid V0
 have E0 := Lib.hid (show Below w.heap.size w w0 by rw [hw0]; exact one_more _)
 have hs0 := mx_storeC V0.1 V0.2 (mcs_size (n := 0) (l := []) (by simp)) (mcs_one _ _)
 have HR := Lib.hid (hR.on E0.out)
 have d2 := dsq_le hn
 have d1 := dsq_pos n
 have HLEN := Lib.hid hl
 clear hR PD V0
 generalize hsz : (n + 1) * (n + 1) = sz at *
 rw [hl]
 clear hl hsz
 have D : ((sz : Int) != (sz : Int)) = false := by simp
 go_enter Tryz.func153, Tryz.ntmps153
 go_wp2_with fail
 rw [← hw0]
 clear hw0
 refine (HD.out _).mono ?_
 rintro e w1 ⟨rfl, hw⟩
 rw [hw]; clear hw w1
 go_wp2_with fail
 refine (HP.out _).mono ?_
 rintro e w1 ⟨rfl, hw⟩
 rw [hw]; clear hw w1
 go_wp2_with fail
 go_loopw [22] (fun s wr => ∃ t : Nat, t ≤ sz ∧ s = .int .i64 t ∧ Hid (wr = w0) ∧ Hid (∀ i, i < t → lvB (Zo.gt l i) = true)) (fun s _ => sz - (intOf s).toNat)
 case atStart => exact ⟨0, by omega, rfl, Lib.hid rfl, Lib.hid (fun i hi => by omega)⟩
 case round =>
  obtain ⟨t, ht, rfl, HW, HT⟩ := hrel
  obtain rfl := HW.out
  clear HW
  by_cases htn : t < sz
  · obtain ⟨v, hv⟩ : ∃ v, v = Zo.gt l t := ⟨_, rfl⟩
    have c1 : wr.cell? (a.add t) = some (.int .i64 v) := by rw [hv]; exact HR.out t (by rw [HLEN.out]; exact htn)
    have HVV := Lib.hid hv
    clear hv
    have PV := fun W => limValid_free v W
    cases lv : lvB v
    · rw [lv] at PV
      have HE := Lib.hid (show rdL l = false by
       unfold rdL
       rw [List.all_eq_false]
       refine ⟨l[t]'(by rw [HLEN.out]; exact htn), List.getElem_mem _, ?_⟩
       rw [show l[t]'(by rw [HLEN.out]; exact htn) = v by rw [HVV.out]; simp [Zo.gt, show t < l.length by rw [HLEN.out]; exact htn], lv]
       decide)
      have PW := Lib.hid PV
      clear PV
      go_wp2_with fail
      refine (PW.out _).mono ?_
      rintro e w3 ⟨rfl, rfl⟩
      go_wp2_with fail
      refine bodyPost_ret (results_mx Tryz.results153 _ rfl rfl (HV.out.put (mcs 0 []) (mcs_size (by simp)))) rfl ⟨by unfold rdV; rw [HE.out]; rfl, ?_⟩
      exact Below.setRow E0.out (Nat.le_refl _) _
    · rw [lv] at PV
      have PW := Lib.hid PV
      have HLV := Lib.hid lv
      clear PV lv
      go_wp2_with fail
      refine (PW.out _).mono ?_
      rintro e w3 ⟨rfl, rfl⟩
      clear c1
      go_wp2_with fail
      go_roundw
      case rel =>
       refine ⟨t + 1, by omega, by go_num, Lib.hid (by first | rfl | trivial), Lib.hid (fun i hi => ?_)⟩
       by_cases e : i = t
       · rw [e, ← HVV.out]; exact HLV.out
       · exact HT.out i (by omega)
      case measure => simp [intOf]; omega
  · have HE := Lib.hid (show rdL l = true by
     unfold rdL
     rw [List.all_eq_true]
     intro x hx
     obtain ⟨i, hi, rfl⟩ := List.getElem_of_mem hx
     have := HT.out i (by have := HLEN.out; omega)
     simpa [Zo.gt, hi] using this)
    clear hs0
    have V1 : Var (wr.alloc (.cells (mcs 0 []) 120)) wr.heap.size (mcs 0 []) := Var.made wr
    have hs1 := mx_storeC V1.1 V1.2 (mcs_size (n := n) (l := []) (by simp)) (mcs_one _ _)
    rw [World.setRow_alloc_new, show (mcs n []).toList = (mcs 0 []).toList.set 0 (.int .i64 n) from rfl] at hs1
    have hr := run_whole wr.heap.size
    obtain ⟨w2, hw2⟩ : ∃ w2, w2 = wr.alloc (.cells (mcs n []) 120) := ⟨_, rfl⟩
    have V2 : w2.heap[wr.heap.size]? = some (.cells (mcs n []) 120 (0, 0)) := by rw [hw2]; exact heap_alloc_last wr _
    have L1 : l.length ≤ 121 := by rw [HLEN.out]; exact d2
    have hcp := fun ty => run_copy_cells (P := Tryz.prog) w2 34 34 ty 37 wr.heap.size 1 121 121 a sz cap (l.map (Value.int .i64)) Tryz.underlying34
     (by rfl) (by rw [List.length_map, HLEN.out]; exact (Nat.min_eq_left d2).symm) (fun j v hj => by rw [hw2]; exact kept (one_more _) (HR.out.map j v hj))
     (fun j hj => by
      rw [cell_of_row w2 _ _ _ _ _ V2]
      have : 1 + j < (mcs n []).size := by rw [mcs_size (by simp)]; simp at hj; omega
      rw [Array.getElem?_eq_getElem this]; rfl)
     (fun j hj => frozen_of_row w2 _ _ _ _ V2) (by simp [Value.oneCell'])
    have V3 := fill_row (b := wr.heap.size) (n := n) l [] w2 V2 (by simpa using L1)
    have e3 : Below w.heap.size w (w2.setCells wr.heap.size 1 (l.map (Value.int .i64))) := by
     refine Below.setCells (Nat.le_of_lt HV.out.lt) _ _ _ ?_
     rw [hw2]; exact E0.out.alloc (Nat.le_of_lt HV.out.lt) _
    have k3 : (w2.setCells wr.heap.size 1 (l.map (Value.int .i64))).heap[w.heap.size]? = some (.cells (mcs 0 []) 120 (0, 0)) := by
     rw [World.heap_setCells_other _ _ _ _ (by rw [hw2]; simp; have := HV.out.lt; omega) (by have := HV.out.lt; omega), hw2, heap_alloc_old wr _ HV.out.lt]
     exact HV.out.1
    simp only [List.length_nil, List.nil_append, Nat.add_zero] at V3
    rw [hw2] at hcp
    simp only [List.length_map, HLEN.out] at hcp
    have VL : Var (w2.setCells wr.heap.size 1 (l.map (Value.int .i64))) wr.heap.size (mcs n l) := ⟨V3, mcs_size L1⟩
    rw [hw2] at VL
    have H3 := Lib.hid e3
    have K3 := Lib.hid (show Var (w2.setCells wr.heap.size 1 (l.map (Value.int .i64))) w.heap.size (mcs 0 []) from ⟨k3, mcs_size (by simp)⟩)
    rw [hw2] at H3 K3
    have S3 := Lib.hid (mcs_size (n := n) L1)
    clear e3 k3 V3 V2 V1 L1
    go_wp2_with (first | refine wpl_load rfl _ rfl _ rfl _ VL ?_ | refine wpl_store rfl _ _ rfl _ _ rfl rfl _ K3.out S3.out (mcs_one _ _) ?_)
    refine bodyPost_ret (results_mx Tryz.results153 _ rfl rfl (K3.out.put (mcs n l) S3.out)) rfl ⟨by unfold rdV; rw [HE.out]; rfl, ?_⟩
    exact Below.setRow H3.out (Nat.le_refl _) _
theorem items_run (d : Nat) (l m : List Int) (w : World) : ∀ is : List Nat, (∀ i ∈ is, i < l.length ∧ i < m.length) →
  (Op.eqItems (d + 1) 37 1 ⟨l.map (Value.int .i64)⟩ ⟨m.map (Value.int .i64)⟩ is).run Tryz.prog w = .ok (is.all fun i => Zo.gt l i == Zo.gt m i) w := by
 intro is
 have hp : Tryz.prog.plainKey 37 = true := by kernel_rfl
 induction is with
 | nil => intro _; simp [Op.eqItems]
 | cons i is ih =>
  intro h
  obtain ⟨h1, h2⟩ := h i (by simp)
  have p1 : (part 37 ⟨l.map (Value.int .i64)⟩ (i * 1)).run Tryz.prog w = .ok (.int .i64 (Zo.gt l i)) w := run_part_plain w hp (by simp [Zo.gt, h1])
  have p2 : (part 37 ⟨m.map (Value.int .i64)⟩ (i * 1)).run Tryz.prog w = .ok (.int .i64 (Zo.gt m i)) w := run_part_plain w hp (by simp [Zo.gt, h2])
  have p3 := run_equalIn_int (P := Tryz.prog) (w := w) d 37 .i64 .i64 (Zo.gt l i) (Zo.gt m i) Tryz.underlying37
  simp only [Op.eqItems, Sem.run_bind, p1, p2, p3, Result.andThen_ok, List.all_cons]
  cases Zo.gt l i == Zo.gt m i
  · simp
  · simpa using ih (fun j hj => h j (by simp [hj]))
theorem pad_len {l : List Int} (hl : l.length ≤ 121) : (pad l).length = 121 := by simp [pad]; omega
theorem pad_inj {l m : List Int} (hm : m.length = l.length) (h : pad l = pad m) : l = m := by
 unfold pad at h
 exact (List.append_inj h hm.symm).1
theorem list_ext_gt {l m : List Int} (hm : m.length = l.length) (h : ∀ i, i < l.length → Zo.gt l i = Zo.gt m i) : l = m := by
 refine List.ext_getElem hm.symm fun i h1 h2 => ?_
 have := h i h1
 simpa [Zo.gt, h1, h2] using this
theorem mx_fields : ∃ f g, (Tryz.prog.fieldsOf 120).toList = [f, g] ∧ (f.name ≠ "_" ∧ f.type = 3 ∧ f.offset = 0) ∧ (g.name ≠ "_" ∧ g.type = 118 ∧ g.offset = 1) := by
 have hf : (Tryz.prog.fieldsOf 120).toList.map (fun f => (f.name != "_", f.type, f.offset)) = [(true, 3, 0), (true, 118, 1)] := by kernel_rfl
 revert hf
 generalize (Tryz.prog.fieldsOf 120).toList = fs
 intro hf
 cases fs with
 | nil => simp at hf
 | cons f r =>
  cases r with
  | nil => simp at hf
  | cons g r =>
   cases r with
   | cons _ _ => simp at hf
   | nil =>
    simp only [List.map_cons, List.map_nil, List.cons.injEq, Prod.mk.injEq, bne_iff_ne, and_true] at hf
    obtain ⟨⟨a1, a2, a3⟩, b1, b2, b3⟩ := hf
    exact ⟨f, g, rfl, ⟨a1, a2, a3⟩, b1, b2, b3⟩
theorem cells_size (w : World) : (sizeOf 118).run Tryz.prog w = .ok 121 w := by
 have h : (Tryz.prog.info? 118).map (·.size) = some 121 := by kernel_rfl
 cases hq : Tryz.prog.info? 118 with
 | none => simp [hq] at h
 | some i => simp [hq] at h; simp [sizeOf, typeInfo, hq, h]
theorem cells_part (n : Nat) (k : List Int) (hk : k.length ≤ 121) (w : World) : (part 118 (mcs n k) 1).run Tryz.prog w = .ok (.agg ⟨(pad k).map (Value.int .i64)⟩) w := by
 have ha : (isAgg 118).run Tryz.prog w = .ok true w := by
  unfold isAgg; rw [Sem.run_bind, run_underlying cells_ty w]; simp
 have hz := cells_size w
 have hx : (mcs n k).extract 1 (1 + 121) = ⟨(pad k).map (Value.int .i64)⟩ := by
  have := pad_len hk
  apply Array.toList_inj.1
  rw [Array.toList_extract]
  simp only [mcs, List.extract_eq_take_drop, List.drop_succ_cons, List.drop_zero]
  rw [List.take_of_length_le (by simp; omega)]
 unfold part
 rw [Sem.run_bind, ha, Result.andThen_ok, if_pos rfl, Sem.run_bind, hz, Result.andThen_ok, hx]
 rfl
theorem all_eq (N : Nat) (a b : List Int) (ha : a.length = N) (hb : b.length = N) : ((List.range N).all fun i => Zo.gt a i == Zo.gt b i) = decide (a = b) := by
 rw [Bool.eq_iff_iff, List.all_eq_true, decide_eq_true_eq]
 constructor
 · intro h
   exact list_ext_gt (by omega) fun i hi => by
    have := h i (List.mem_range.2 (by omega))
    simpa using this
 · intro h i _
   rw [h]; simp
theorem cells_eq (d : Nat) (l m : List Int) (hl : l.length ≤ 121) (hm : m.length = l.length) (w : World) :
  (Op.equalIn (d + 1 + 1) 118 (.agg ⟨(pad l).map (Value.int .i64)⟩) (.agg ⟨(pad m).map (Value.int .i64)⟩)).run Tryz.prog w = .ok (decide (l = m)) w := by
 obtain ⟨ie, hie⟩ : ∃ i, Tryz.prog.info? 37 = some i := by
  obtain ⟨i, hi, _⟩ := info_parts Tryz.info37
  exact ⟨i, hi⟩
 have hc : Tryz.prog.cellsOf 37 = 1 := by kernel_rfl
 rw [run_equalIn_array (P := Tryz.prog) w (d + 1) (⟨(pad l).map (Value.int .i64)⟩ : Array Value) ⟨(pad m).map (Value.int .i64)⟩ cells_ty hie]
 rw [hc, items_run d (pad l) (pad m) w (List.range 121) (fun i hi => by rw [pad_len hl, pad_len (by omega)]; exact ⟨List.mem_range.1 hi, List.mem_range.1 hi⟩)]
 rw [all_eq 121 (pad l) (pad m) (pad_len hl) (pad_len (by omega))]
 rw [show decide (pad l = pad m) = decide (l = m) from decide_eq_decide.2 ⟨fun h => pad_inj hm h, fun h => by rw [h]⟩]
theorem mx_eqIn (d : Nat) (n : Nat) (l m : List Int) (hl : l.length ≤ 121) (hm : m.length = l.length) (w : World) :
  (Op.equalIn (d + 1 + 1 + 1) 120 (.agg (mcs n l)) (.agg (mcs n m))).run Tryz.prog w = .ok (decide (l = m)) w := by
 have ht : Tryz.prog.underlying 120 = some (.struct (Tryz.prog.fieldsOf 120)) := by kernel_rfl
 have hs : Tryz.prog.stoodInHeld 120 = false := by kernel_rfl
 rw [run_equalIn_struct w (d + 1 + 1) _ _ _ ht hs]
 obtain ⟨f, g, e, h1, h2⟩ := mx_fields
 rw [e]
 have hpi : Tryz.prog.plainKey 3 = true := by kernel_rfl
 have q1 : (part 3 (mcs n l) 0).run Tryz.prog w = .ok (.int .i64 n) w := run_part_plain w hpi rfl
 have q2 : (part 3 (mcs n m) 0).run Tryz.prog w = .ok (.int .i64 n) w := run_part_plain w hpi rfl
 have q3 := run_equalIn_int (P := Tryz.prog) (w := w) (d + 1) 3 .i64 .i64 n n Tryz.underlying3
 have q4 := cells_part n l hl w
 have q5 := cells_part n m (by omega) w
 have q6 := cells_eq d l m hl hm w
 generalize mcs n l = A at *
 generalize mcs n m = B at *
 generalize (⟨(pad l).map (Value.int .i64)⟩ : Array Value) = A' at *
 generalize (⟨(pad m).map (Value.int .i64)⟩ : Array Value) = B' at *
 obtain ⟨h11, h12, h13⟩ := h1
 obtain ⟨h21, h22, h23⟩ := h2
 simp only [Op.eqFields, h12, h13, h22, h23]
 rw [if_pos h11, Sem.run_bind, q1, Result.andThen_ok, Sem.run_bind, q2, Result.andThen_ok, Sem.run_bind, q3, Result.andThen_ok, if_neg (by rw [beq_self_eq_true]; decide), if_pos h21,
  Sem.run_bind, q4, Result.andThen_ok, Sem.run_bind, q5, Result.andThen_ok, Sem.run_bind, q6, Result.andThen_ok]
 generalize decide (l = m) = r
 cases r
 · rfl
 · rfl
theorem run_mx_eq (n : Nat) (l m : List Int) (hl : l.length ≤ 121) (hm : m.length = l.length) (w : World) :
  (binOp .eql 120 (.agg (mcs n l)) (.agg (mcs n m))).run Tryz.prog w = .ok (.bool (decide (l = m))) w := by
 have h := mx_eqIn 9997 n l m hl hm w
 generalize mcs n l = A at *
 generalize mcs n m = B at *
 rw [run_eql_struct]
 simp only [Nat.reduceAdd] at h
 rw [h]
 rfl
end Go.Proofs.YthjapmdfcbngmaaGreat
