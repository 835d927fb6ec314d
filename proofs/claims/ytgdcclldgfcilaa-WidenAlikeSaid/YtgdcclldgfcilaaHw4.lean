/- Contracts of layer 3's read, of whatever arguments, and open.; Contracts of layer 3's open, of whatever zone, Check, and changed.; The contract of Free of layer 3's reference.; Contracts of layer 3's Up, Down and Free.; Contracts of layer 3's Up and Down, in the reference's words.; Contracts of layer 3's Up and Down.; The contract of And of layer 3's reference.; The contract of Same of layer 3's reference.; Contracts of And of any zone, and of is and Constant, of layer 3's reference.; The contract of Reset of layer 3's reference.; Layer 6: Bounds of the reference.; Layer 6: slices.Grow and slices.Concat at lists of int64; ofAllClocks.; The contract of layer 3's Close.; The contract of layer 3's Free.; Contracts for layer 3's And: which constraints are wrong.; The contract of layer 3's And.; Plain mathematics: what is closed, tightened and closed again is what is tightened and closed once.; Plain mathematics: constraints tighten; what Free makes is a zone. -/
import Derived.Test.YtgdcclldgfcilaaHw3
import Derived.Deep.RegionHeld
import Derived.Test.YtgdcclldgfcilaaHw2
import Derived.Lib.AppendZeros

namespace Go.Proofs.Ytgdcclldgfcilaa
open Go.RowKit

def rdW (N : Int) (l : List Int) : Array Value := if rdB N l then mcs N.toNat l else mcs 0 []

theorem read_gen (N : Int) (l : List Int) (ao : Option Addr) (cap : Nat) (w : World) (hA : Arg w ao l) :
    Calls Try.prog 43 #[.int .i64 N, .slice ao l.length cap] w (fun e w' => e = .returned (.tuple #[.agg (rdW N l), .bool (rdB N l)]) ∧ Below w.heap.size w w') := by
  cases hd : dimB N
  · refine (read_bad1 N l ao cap w hd).mono ?_
    rintro e w' ⟨rfl, hb⟩
    have : rdB N l = false := by unfold rdB; rw [hd]; rfl
    exact ⟨by unfold rdW; rw [this]; rfl, hb⟩
  · obtain ⟨n, rfl, hn⟩ := dim_nat hd
    by_cases hl : l.length = (n + 1) * (n + 1)
    · have hne : l ≠ [] := by
        intro e; subst e
        have := dsq_pos n
        simp at hl
      obtain ⟨a, rfl, hR⟩ := hA hne
      refine (read_loop n l a cap w hn hl hR).mono ?_
      rintro e w' ⟨rfl, hb⟩
      have : rdB n l = rdL l := by unfold rdB rdL; rw [hd]; simp [hl]
      exact ⟨by unfold rdW rdV; rw [this]; rfl, hb⟩
    · refine (read_bad2 n l ao cap w hn hl).mono ?_
      rintro e w' ⟨rfl, hb⟩
      have : rdB n l = false := by unfold rdB; simp [hl]
      exact ⟨by unfold rdW; rw [this]; rfl, hb⟩

theorem rdB_ok {N : Int} {l : List Int} (h : rdB N l = true) : ∃ n : Nat, N = n ∧ n ≤ 10 ∧ l.length = (n + 1) * (n + 1) ∧ rdL l = true := by
  unfold rdB at h
  simp only [Bool.and_eq_true, decide_eq_true_eq] at h
  obtain ⟨n, rfl, hn⟩ := dim_nat h.1.1
  exact ⟨n, rfl, hn, by simpa using h.1.2, h.2⟩

theorem Var.far {w : World} {b b' : Nat} {cs : Array Value} (h : Var w b cs) (hne : b' ≠ b) (cs' : Array Value) : Var (w.setRow b' cs') b cs := ⟨(setRow_other w b' b cs' (by omega)).trans h.1, h.2⟩

set_option maxRecDepth 100000 in
set_option maxHeartbeats 4000000 in
theorem open_bad (N : Int) (l : List Int) (ao : Option Addr) (cap : Nat) (w : World) (hA : Arg w ao l) (hr : rdB N l = false) :
    Calls Try.prog 40 #[.agg #[.int .i64 N, .slice ao l.length cap]] w (fun e w' => e = .returned (.tuple #[.agg (mcs 0 []), .bool false]) ∧ Below w.heap.size w w') := by
  have hz := mx_zero
  have h0 := mx_build0
  have CR := Lib.hid (show ∀ W, Below w.heap.size w W → Calls Try.prog 43 #[.int .i64 N, .slice ao l.length cap] W (fun e w' => e = .returned (.tuple #[.agg (mcs 0 []), .bool false]) ∧ Below W.heap.size W w') from fun W h => by
    have := read_gen N l ao cap W (hA.on h)
    rwa [hr, show rdW N l = mcs 0 [] by unfold rdW; rw [hr]; rfl] at this)
  generalize l.length = len at *
  obtain ⟨w0, hw0⟩ : ∃ w0, w0 = (w.alloc (.cells #[.int .i64 N, .slice ao len cap] 24)).alloc (.cells (mcs 0 []) 82) := ⟨_, rfl⟩
  have b0 : w0.cell? ⟨w.heap.size, 0, none⟩ = some (.int .i64 N) := by rw [hw0]; go_simp
  have b1 : w0.cell? ⟨w.heap.size, 1, none⟩ = some (.slice ao len cap) := by rw [hw0]; go_simp
  have V0 : Var w0 (w.heap.size + 1) (mcs 0 []) := by
    rw [hw0]
    have := Var.made (w.alloc (.cells #[.int .i64 N, .slice ao len cap] 24))
    simpa using this
  have E0 := Lib.hid (show Below w.heap.size w w0 by rw [hw0]; exact past_two (Below.refl _ _))
  have HV := Lib.hid V0
  clear V0 hA
  go_enter Try.func40, Try.ntmps40
  go_wp2_with fail
  rw [← hw0]
  clear hw0
  refine (CR.out _ E0.out).mono ?_
  rintro e w1 ⟨rfl, hb⟩
  have V1 := HV.out.kept hb
  have E1 := below_on E0.out hb
  have hle := E1.size
  have V2 := (V1.kept (one_more (.cells (mcs 0 []) 82)))
  have V3 := V2.far (b' := w1.heap.size) (by have := V1.lt; omega) (mcs 0 [])
  have HV3 := Lib.hid V3
  have HE := Lib.hid E1
  have sz := mcs_size (n := 0) (l := []) (by simp)
  clear V1 V2 V3 E1 hb b0 b1
  go_wp2_with (first | refine wpl_store rfl _ _ rfl _ _ rfl rfl _ (Var.made _) sz (mcs_one _ _) ?_ | refine wpl_store rfl _ _ rfl _ _ rfl rfl _ HV3.out sz (mcs_one _ _) ?_)
  refine bodyPost_ret (results_mx Try.results40 _ rfl rfl (HV3.out.put (mcs 0 []) sz)) rfl ⟨rfl, ?_⟩
  exact Below.setRow (Below.setRow (HE.out.alloc hle _) hle _) (by omega) _

theorem Mx.var {w : World} {b n : Nat} {l : List Int} (hn : n ≤ 10) (h : Mx w b n l) : Var w b (mcs n l) := ⟨h.1, mcs_size (by rw [h.2]; exact dsq_le hn)⟩

theorem yld_load {o : Oper} {a : Act} {w : World} (x : Operand) (ho : o.op = .load 82 x) (b : Nat) (hx : a.eval x = .pointer (some ⟨b, 0, none⟩)) (cs : Array Value) (hv : Var w b cs) :
    (execOp a.eval o).run Try.prog w = .ok (.value (.agg cs)) w := by
  unfold execOp
  simp only [ho, hx, Sem.run_bind, mx_loadAt hv.1 hv.2, Result.andThen_ok, Sem.run_pure]

theorem mx_guard (x y : Operand) (xs ys : Array Value) (w : World) : (eqGuard .eql 82 x y (.agg xs) (.agg ys)).run Try.prog w = .ok () w := run_eqGuard_agg (P := Try.prog) w .eql _ x y xs ys (by kernel_rfl)

theorem yld_eql {o : Oper} {a : Act} {w : World} (x y : Operand) (t : TypeId) (ho : o.op = .binOp .eql 82 x y t) (n : Nat) (l m : List Int) (hl : l.length ≤ 121) (hm : m.length = l.length) (hx : a.eval x = .agg (mcs n l)) (hy : a.eval y = .agg (mcs n m)) :
    (execOp a.eval o).run Try.prog w = .ok (.value (.bool (decide (l = m)))) w := by
  unfold execOp
  simp only [ho, hx, hy, Sem.run_bind, mx_guard, run_mx_eq n l m hl hm, Result.andThen_ok, Sem.run_pure]

set_option maxRecDepth 100000 in
set_option maxHeartbeats 4000000 in
theorem open_ok (n : Nat) (l : List Int) (ao : Option Addr) (cap : Nat) (w : World) (hA : Arg w ao l) (hn : n ≤ 10) (hl : l.length = (n + 1) * (n + 1)) (hv : rdL l = true) :
    Calls Try.prog 40 #[.agg #[.int .i64 n, .slice ao l.length cap]] w (fun e w' => e = .returned (.tuple #[.agg (mcs n l), .bool (decide (chkE n l = 0))]) ∧ Below w.heap.size w w') := by
  have hz := mx_zero
  have hr : rdB n l = true := by unfold rdB; rw [show dimB (n : Int) = true by unfold dimB; simp; omega]; simp only [Int.toNat_natCast, hl, decide_true, Bool.true_and]; exact hv
  have CR := Lib.hid (show ∀ W, Below w.heap.size w W → Calls Try.prog 43 #[.int .i64 n, .slice ao l.length cap] W (fun e w' => e = .returned (.tuple #[.agg (mcs n l), .bool true]) ∧ Below W.heap.size W w') from fun W h => by
    have := read_gen n l ao cap W (hA.on h)
    rwa [hr, show rdW n l = mcs n l by unfold rdW; rw [hr]; rfl] at this)
  have sz : (mcs n l).size = 122 := mcs_size (by rw [hl]; exact dsq_le hn)
  have HC := Lib.hid (chk_iff hn hl hv)
  have HL := Lib.hid hl
  have H64 := Lib.hid (a64_of hv)
  clear hr hA hv
  generalize l.length = len at CR ⊢
  obtain ⟨w0, hw0⟩ : ∃ w0, w0 = (w.alloc (.cells #[.int .i64 n, .slice ao len cap] 24)).alloc (.cells (mcs 0 []) 82) := ⟨_, rfl⟩
  have b0 : w0.cell? ⟨w.heap.size, 0, none⟩ = some (.int .i64 n) := by rw [hw0]; go_simp
  have b1 : w0.cell? ⟨w.heap.size, 1, none⟩ = some (.slice ao len cap) := by rw [hw0]; go_simp
  have V0 : Var w0 (w.heap.size + 1) (mcs 0 []) := by
    rw [hw0]
    have := Var.made (w.alloc (.cells #[.int .i64 n, .slice ao len cap] 24))
    simpa using this
  have E0 := Lib.hid (show Below w.heap.size w w0 by rw [hw0]; exact past_two (Below.refl _ _))
  have HV := Lib.hid V0
  clear V0
  go_enter Try.func40, Try.ntmps40
  go_wp2_with fail
  rw [← hw0]
  clear hw0
  go_wp2_with fail
  refine (CR.out _ E0.out).mono ?_
  rintro e w1 ⟨rfl, hb⟩
  have V1 := HV.out.kept hb
  have E1 := below_on E0.out hb
  have hle := E1.size
  have V2 := (V1.kept (one_more (.cells (mcs 0 []) 82)))
  have V3 := V2.far (b' := w1.heap.size) (by have := V1.lt; omega) (mcs n l)
  have V4 := (Var.made w1).put (mcs n l) sz
  have HV3 := Lib.hid V3
  have HV4 := Lib.hid V4
  have HE := Lib.hid (show Below w.heap.size w ((w1.alloc (.cells (mcs 0 []) 82)).setRow w1.heap.size (mcs n l)) from Below.setRow (E1.alloc hle _) hle _)
  have hlt := V1.lt
  have V6 := Var.made ((w1.alloc (.cells (mcs 0 []) 82)).setRow w1.heap.size (mcs n l))
  rw [show ((w1.alloc (.cells (mcs 0 []) 82)).setRow w1.heap.size (mcs n l)).heap.size = w1.heap.size + 1 by simp] at V6
  have HV6 := Lib.hid V6
  clear V1 V2 V3 V4 V6 E1 hb b0 b1
  go_wp2_with (first | refine wpl_store rfl _ _ rfl _ _ rfl rfl _ (Var.made _) sz (mcs_one _ _) ?_ | refine wpl_load rfl _ rfl _ rfl _ HV4.out ?_ | refine wpl_store rfl _ _ rfl _ _ rfl rfl _ HV6.out sz (mcs_one _ _) ?_)
  obtain ⟨w6, hw6⟩ : ∃ w6, w6 = (((w1.alloc (.cells (mcs 0 []) 82)).setRow w1.heap.size (mcs n l)).alloc (.cells (mcs 0 []) 82)).setRow (w1.heap.size + 1) (mcs n l) := ⟨_, rfl⟩
  have R6 : Var w6 (w.heap.size + 1) (mcs 0 []) := by rw [hw6]; exact (HV3.out.kept (one_more _)).far (by omega) _
  have M6 : Var w6 w1.heap.size (mcs n l) := by rw [hw6]; exact (HV4.out.kept (one_more _)).far (by omega) _
  have C6 : Mx w6 (w1.heap.size + 1) n l := by rw [hw6]; exact ⟨(HV6.out.put (mcs n l) sz).1, HL.out⟩
  have E6 : Below w.heap.size w w6 := by rw [hw6]; exact Below.setRow (HE.out.alloc (by simp; omega) _) (by omega) _
  rw [← hw6]
  have HR6 := Lib.hid R6
  have HM6 := Lib.hid M6
  have HC6 := Lib.hid C6
  have HE6 := Lib.hid E6
  clear hw6 R6 M6 C6 E6 HV3 HV4 HV6 HE CR
  simp only [Act.put]
  refine wp_region_held_drew (S := fun w' => Var w' w1.heap.size (mcs n l)) (by kernel_rfl) HM6.out (fun h0 => ?_)
  refine wpAnyH_take (i := 0) (v := .agg (mcs n l)) rfl (by kernel_rfl) (by kernel_rfl) (by kernel_rfl) (fun _ _ _ h => h) (Or.inl ⟨by rfl, fun w' hS => yld_load _ rfl _ rfl _ hS⟩) h0 ?_
  simp only [Act.put, List.getElem_toArray, List.getElem_cons_zero, List.setIfInBounds_toArray, List.set_cons_zero, List.set_cons_succ]
  refine wpAnyH_ready (rs := [1]) (by kernel_rfl) (by simp) (AllReadyH.cons rfl (fun K hK => ?_) AllReadyH.nil)
  rw [if_pos (by rfl)]
  go_simp
  refine (shorten_any (w1.heap.size + 1) n l w6.drew hn HC6.out.drew H64.out).mono ?_
  rintro e w7 ⟨rfl, l', hM, hc⟩
  go_simp
  have M7 : Var w7 w1.heap.size (mcs n l) := ⟨(hM.2.block _ HM6.out.lt (by simp)).trans HM6.out.1, HM6.out.2⟩
  have R7 := Lib.hid (show Var w7 (w.heap.size + 1) (mcs 0 []) from ⟨(hM.2.block _ HR6.out.lt (by simp; omega)).trans HR6.out.1, HR6.out.2⟩)
  have E7 := Lib.hid (grown_over HE6.out.drew hM.2 (by omega))
  have HM7 := Lib.hid hM.1
  have HC7 := Lib.hid hc
  clear hM hc hz HE6 HR6 HM6 HC6
  refine hK.out _ _ M7 (fun h1 => ?_)
  clear hK K h0 M7
  cases hB : cloB n l
  · simp only [Bool.not_false]
    have hcl := HC7.out hB
    subst hcl
    have HE := Lib.hid (show decide (chkE n l = 0) = decide (Zo.clo n l = l) by
      rw [decide_eq_decide, HC.out, hB]; simp)
    refine wpAnyH_take (i := 2) (v := .bool true) rfl (by kernel_rfl) (by kernel_rfl) (by kernel_rfl) (fun _ _ _ h => h) (Or.inl ⟨by rfl, fun w' hS => by go_simp⟩) h1 ?_
    simp only [Act.put, List.getElem_toArray, List.getElem_cons_zero, List.getElem_cons_succ, List.setIfInBounds_toArray, List.set_cons_zero, List.set_cons_succ]
    refine wpAnyH_take (i := 4) (v := .agg (mcs n l)) rfl (by kernel_rfl) (by kernel_rfl) (by kernel_rfl) (fun _ _ _ h => h) (Or.inl ⟨by rfl, fun w' hS => yld_load _ rfl _ rfl _ hS⟩) h1 ?_
    simp only [Act.put, List.getElem_toArray, List.getElem_cons_zero, List.getElem_cons_succ, List.setIfInBounds_toArray, List.set_cons_zero, List.set_cons_succ]
    have szc : (mcs n (Zo.clo n l)).size = 122 := mcs_size (by rw [Zo.clo_length, hl]; exact dsq_le hn)
    refine wpAnyH_ready (rs := [3, 7]) (by kernel_rfl) (by simp) (AllReadyH.cons rfl (fun K hK => ?_) (AllReadyH.cons rfl (fun K hK => ?_) AllReadyH.nil))
    · rw [if_pos (by rfl)]
      refine wp_load_row _ _ rfl (w1.heap.size + 1) rfl _ (mcs n (Zo.clo n l)) (0, 0) _ HM7.out.1 Try.underlying82 rfl (by rw [szc]; exact mx_size) ?_
      refine hK.out _ _ h1 (fun h2 => ?_)
      clear hK K
      simp only [Act.put, List.getElem_toArray, List.getElem_cons_zero, List.getElem_cons_succ, List.setIfInBounds_toArray, List.set_cons_zero, List.set_cons_succ]
      refine wpAnyH_take (i := 5) (v := .bool (decide (Zo.clo n l = l))) rfl (by kernel_rfl) (by kernel_rfl) (by kernel_rfl) (fun _ _ _ h => h) (Or.inl ⟨by rfl, fun w' _ => yld_eql _ _ _ rfl n (Zo.clo n l) l (by rw [Zo.clo_length, hl]; exact dsq_le hn) (by rw [Zo.clo_length]) rfl rfl⟩) h2 ?_
      simp only [Act.put, List.getElem_toArray, List.getElem_cons_zero, List.getElem_cons_succ, List.setIfInBounds_toArray, List.set_cons_zero, List.set_cons_succ]
      refine wpAnyH_take (i := 6) (v := .bool (decide (Zo.clo n l = l))) rfl (by kernel_rfl) (by kernel_rfl) (by kernel_rfl) (fun _ _ _ h => h) (Or.inl ⟨by rfl, fun w' hS => by go_simp⟩) h2 ?_
      simp only [Act.put, List.getElem_toArray, List.getElem_cons_zero, List.getElem_cons_succ, List.setIfInBounds_toArray, List.set_cons_zero, List.set_cons_succ]
      refine wpAnyH_ready (rs := [7]) (by kernel_rfl) (by simp) (AllReadyH.cons rfl (fun K hK => ?_) AllReadyH.nil)
      rw [if_pos (by rfl)]
      refine wp_store_row _ _ _ rfl (w.heap.size + 1) (mcs n l) rfl rfl _ _ R7.out.1 (by rw [sz]; exact mx_size) (by rw [R7.out.2, sz]) (mcs_one _ _) ?_
      refine hK.out _ _ (h2.far (by omega) _) (fun h3 => ?_)
      clear hK K
      simp only [Act.put, List.getElem_toArray, List.getElem_cons_zero, List.getElem_cons_succ]
      refine wpAnyH_take (i := 8) (v := .bool (decide (Zo.clo n l = l))) rfl (by kernel_rfl) (by kernel_rfl) (by kernel_rfl) (fun _ _ _ h => h) (Or.inl ⟨by rfl, fun w' hS => by go_simp⟩) h3 ?_
      simp only [Act.put, List.getElem_toArray, List.getElem_cons_zero, List.getElem_cons_succ, List.setIfInBounds_toArray, List.set_cons_zero, List.set_cons_succ]
      refine wpAnyH_done (by kernel_rfl) ?_ _
      go_wp2_with fail
      refine bodyPost_ret (results_mx Try.results40 _ rfl rfl (R7.out.put (mcs n l) sz)) rfl ⟨by rw [HE.out]; rfl, ?_⟩
      exact Below.setRow E7.out (by omega) _
    · rw [if_pos (by rfl)]
      refine wp_store_row _ _ _ rfl (w.heap.size + 1) (mcs n l) rfl rfl _ _ R7.out.1 (by rw [sz]; exact mx_size) (by rw [R7.out.2, sz]) (mcs_one _ _) ?_
      refine hK.out _ _ (h1.far (by omega) _) (fun h2 => ?_)
      clear hK K
      simp only [Act.put, List.getElem_toArray, List.getElem_cons_zero, List.getElem_cons_succ]
      refine wpAnyH_ready (rs := [3]) (by kernel_rfl) (by simp) (AllReadyH.cons rfl (fun K hK => ?_) AllReadyH.nil)
      rw [if_pos (by rfl)]
      refine wp_load_row _ _ rfl (w1.heap.size + 1) rfl _ (mcs n (Zo.clo n l)) (0, 0) _ ((setRow_other w7 _ _ _ (by omega)).trans HM7.out.1) Try.underlying82 rfl (by rw [szc]; exact mx_size) ?_
      refine hK.out _ _ h2 (fun h3 => ?_)
      clear hK K
      simp only [Act.put, List.getElem_toArray, List.getElem_cons_zero, List.getElem_cons_succ, List.setIfInBounds_toArray, List.set_cons_zero, List.set_cons_succ]
      refine wpAnyH_take (i := 5) (v := .bool (decide (Zo.clo n l = l))) rfl (by kernel_rfl) (by kernel_rfl) (by kernel_rfl) (fun _ _ _ h => h) (Or.inl ⟨by rfl, fun w' _ => yld_eql _ _ _ rfl n (Zo.clo n l) l (by rw [Zo.clo_length, hl]; exact dsq_le hn) (by rw [Zo.clo_length]) rfl rfl⟩) h3 ?_
      simp only [Act.put, List.getElem_toArray, List.getElem_cons_zero, List.getElem_cons_succ, List.setIfInBounds_toArray, List.set_cons_zero, List.set_cons_succ]
      refine wpAnyH_take (i := 6) (v := .bool (decide (Zo.clo n l = l))) rfl (by kernel_rfl) (by kernel_rfl) (by kernel_rfl) (fun _ _ _ h => h) (Or.inl ⟨by rfl, fun w' hS => by go_simp⟩) h3 ?_
      simp only [Act.put, List.getElem_toArray, List.getElem_cons_zero, List.getElem_cons_succ, List.setIfInBounds_toArray, List.set_cons_zero, List.set_cons_succ]
      refine wpAnyH_take (i := 8) (v := .bool (decide (Zo.clo n l = l))) rfl (by kernel_rfl) (by kernel_rfl) (by kernel_rfl) (fun _ _ _ h => h) (Or.inl ⟨by rfl, fun w' hS => by go_simp⟩) h3 ?_
      simp only [Act.put, List.getElem_toArray, List.getElem_cons_zero, List.getElem_cons_succ, List.setIfInBounds_toArray, List.set_cons_zero, List.set_cons_succ]
      refine wpAnyH_done (by kernel_rfl) ?_ _
      go_wp2_with fail
      refine bodyPost_ret (results_mx Try.results40 _ rfl rfl (R7.out.put (mcs n l) sz)) rfl ⟨by rw [HE.out]; rfl, ?_⟩
      exact Below.setRow E7.out (by omega) _
  · simp only [Bool.not_true]
    have HE := Lib.hid (show decide (chkE n l = 0) = false by
      rw [decide_eq_false_iff_not, HC.out, hB]; simp)
    clear hB HC7 HM7
    refine wpAnyH_take (i := 2) (v := .bool false) rfl (by kernel_rfl) (by kernel_rfl) (by kernel_rfl) (fun _ _ _ h => h) (Or.inl ⟨by rfl, fun w' hS => by go_simp⟩) h1 ?_
    simp only [Act.put, List.getElem_toArray, List.getElem_cons_zero, List.getElem_cons_succ, List.setIfInBounds_toArray, List.set_cons_zero, List.set_cons_succ]
    refine wpAnyH_take (i := 3) (v := undef) rfl (by kernel_rfl) (by kernel_rfl) (by kernel_rfl) (fun _ _ _ h => h) (Or.inr ⟨by rfl, rfl⟩) h1 ?_
    simp only [Act.put, List.getElem_toArray, List.getElem_cons_zero, List.getElem_cons_succ, List.setIfInBounds_toArray, List.set_cons_zero, List.set_cons_succ]
    refine wpAnyH_take (i := 4) (v := undef) rfl (by kernel_rfl) (by kernel_rfl) (by kernel_rfl) (fun _ _ _ h => h) (Or.inr ⟨by rfl, rfl⟩) h1 ?_
    simp only [Act.put, List.getElem_toArray, List.getElem_cons_zero, List.getElem_cons_succ, List.setIfInBounds_toArray, List.set_cons_zero, List.set_cons_succ]
    refine wpAnyH_take (i := 5) (v := undef) rfl (by kernel_rfl) (by kernel_rfl) (by kernel_rfl) (fun _ _ _ h => h) (Or.inr ⟨by rfl, rfl⟩) h1 ?_
    simp only [Act.put, List.getElem_toArray, List.getElem_cons_zero, List.getElem_cons_succ, List.setIfInBounds_toArray, List.set_cons_zero, List.set_cons_succ]
    refine wpAnyH_take (i := 6) (v := .bool false) rfl (by kernel_rfl) (by kernel_rfl) (by kernel_rfl) (fun _ _ _ h => h) (Or.inl ⟨by rfl, fun w' hS => by go_simp⟩) h1 ?_
    simp only [Act.put, List.getElem_toArray, List.getElem_cons_zero, List.getElem_cons_succ, List.setIfInBounds_toArray, List.set_cons_zero, List.set_cons_succ]
    refine wpAnyH_ready (rs := [7]) (by kernel_rfl) (by simp) (AllReadyH.cons rfl (fun K hK => ?_) AllReadyH.nil)
    rw [if_pos (by rfl)]
    refine wp_store_row _ _ _ rfl (w.heap.size + 1) (mcs n l) rfl rfl _ _ R7.out.1 (by rw [sz]; exact mx_size) (by rw [R7.out.2, sz]) (mcs_one _ _) ?_
    refine hK.out _ _ (h1.far (by omega) _) (fun h2 => ?_)
    clear hK K
    simp only [Act.put, List.getElem_toArray, List.getElem_cons_zero, List.getElem_cons_succ]
    refine wpAnyH_take (i := 8) (v := .bool false) rfl (by kernel_rfl) (by kernel_rfl) (by kernel_rfl) (fun _ _ _ h => h) (Or.inl ⟨by rfl, fun w' hS => by go_simp⟩) h2 ?_
    simp only [Act.put, List.getElem_toArray, List.getElem_cons_zero, List.getElem_cons_succ, List.setIfInBounds_toArray, List.set_cons_zero, List.set_cons_succ]
    refine wpAnyH_done (by kernel_rfl) ?_ _
    go_wp2_with fail
    refine bodyPost_ret (results_mx Try.results40 _ rfl rfl (R7.out.put (mcs n l) sz)) rfl ⟨by rw [HE.out]; rfl, ?_⟩
    exact Below.setRow E7.out (by omega) _
end Go.Proofs.Ytgdcclldgfcilaa

namespace Go.Proofs.Ytgdcclldgfcilaa
open Go.RowKit

theorem Cell.kept_row {w : World} {p : Addr} {v : Value} (h : Cell w p v) {b : Nat} (hne : p.block ≠ b) (cs : Array Value) : Cell (w.setRow b cs) p v :=
  ⟨by rw [cell_setRow_other w b cs p hne]; exact h.1, by unfold World.frozen?; rw [setRow_other w b _ cs hne]; exact h.2⟩

theorem Two.kept_row {w : World} {x : Nat} {u v : Value} (h : Two w x u v) {b : Nat} (hne : x ≠ b) (cs : Array Value) : Two (w.setRow b cs) x u v := ⟨h.1.kept_row hne cs, h.2.kept_row hne cs⟩

def okB (N : Int) (l : List Int) : Bool := decide (chkE N l = 0)

theorem open_gen (N : Int) (l : List Int) (ao : Option Addr) (cap : Nat) (w : World) (hA : Arg w ao l) :
    Calls Try.prog 40 #[.agg #[.int .i64 N, .slice ao l.length cap]] w (fun e w' => e = .returned (.tuple #[.agg (rdW N l), .bool (okB N l)]) ∧ Below w.heap.size w w') := by
  cases hr : rdB N l
  · refine (open_bad N l ao cap w hA hr).mono ?_
    rintro e w' ⟨rfl, hb⟩
    exact ⟨by unfold rdW okB; rw [hr, chk_read hr]; rfl, hb⟩
  · obtain ⟨n, rfl, hn, hl, hv⟩ := rdB_ok hr
    refine (open_ok n l ao cap w hA hn hl hv).mono ?_
    rintro e w' ⟨rfl, hb⟩
    exact ⟨by unfold rdW okB; rw [hr]; rfl, hb⟩

theorem rdW_size (N : Int) (l : List Int) : (rdW N l).size = 122 := by
  unfold rdW
  cases hr : rdB N l
  · exact mcs_size (by simp)
  · obtain ⟨n, rfl, hn, hl, hv⟩ := rdB_ok hr
    exact mcs_size (by rw [hl]; exact dsq_le hn)

theorem rdW_one (N : Int) (l : List Int) : (rdW N l).all (·.oneCell') = true := by
  unfold rdW; split <;> exact mcs_one _ _

theorem rdW_ok {n : Nat} {l : List Int} (h : chkE n l = 0) : rdW n l = mcs n l := by
  cases hr : rdB n l
  · rw [chk_read hr] at h; cases h
  · unfold rdW; rw [hr]; rfl

theorem chk_64 {n : Nat} {l : List Int} (h : chkE n l = 0) : Zo.A64 l ∧ rdL l = true := by
  cases hr : rdB n l
  · rw [chk_read hr] at h; cases h
  · obtain ⟨_, _, _, _, hv⟩ := rdB_ok hr
    exact ⟨a64_of hv, hv⟩

set_option maxRecDepth 100000 in
set_option maxHeartbeats 4000000 in
theorem zcheck_gen (N : Int) (l : List Int) (ao : Option Addr) (cap : Nat) (w : World) (hA : Arg w ao l) :
    Calls Try.prog 28 #[.agg #[.int .i64 N, .slice ao l.length cap]] w (Made (.int .i64 (chkE N l)) w) := by
  have hz := mx_zero
  have sz := rdW_size N l
  have s1 := rdW_one N l
  have CO := Lib.hid (show ∀ W, Below w.heap.size w W → Calls Try.prog 40 #[.agg #[.int .i64 N, .slice ao l.length cap]] W (fun e w' => e = .returned (.tuple #[.agg (rdW N l), .bool (okB N l)]) ∧ Below W.heap.size W w') from fun W h => open_gen N l ao cap W (hA.on h))
  have HE := Lib.hid (show chkE N l = if okB N l then 0 else 2 by
    unfold okB
    by_cases h : chkE N l = 0
    · simp [h]
    · simp [chk_two h])
  generalize rdW N l = A at *
  generalize okB N l = ok at *
  generalize chkE N l = ce at *
  generalize l.length = len at *
  have E0 := Lib.hid (one_more (w1 := w) (.cells #[.int .i64 N, .slice ao len cap] 24))
  clear hA
  go_enter Try.func28, Try.ntmps28
  go_wp2_with fail
  refine (CO.out _ E0.out).mono ?_
  rintro e w1 ⟨rfl, hb⟩
  have HB := Lib.hid (below_on E0.out hb)
  clear hb
  cases ok
  · go_wp2_with (refine wpl_store rfl _ _ rfl _ _ rfl rfl _ (Var.made _) sz s1 ?_)
    go_ret
    exact ⟨ret_int (by rw [HE.out]; rfl), Below.setRow (HB.out.alloc HB.out.size _) HB.out.size _⟩
  · go_wp2_with (refine wpl_store rfl _ _ rfl _ _ rfl rfl _ (Var.made _) sz s1 ?_)
    go_ret
    exact ⟨ret_int (by rw [HE.out]; rfl), Below.setRow (HB.out.alloc HB.out.size _) HB.out.size _⟩
end Go.Proofs.Ytgdcclldgfcilaa

namespace Go.Proofs.Ytgdcclldgfcilaa
open Go.RowKit

def frS (n i : Nat) (x : List Int) (t : Nat) : List Int := if t = i then x else (x.set (Zo.ix n i t) 1099511627776).set (Zo.ix n t i) 1099511627776

def frL (n i : Nat) (l : List Int) : List Int := (List.range (n + 1)).foldl (frS n i) l

theorem frS_len (n i : Nat) (x : List Int) (t : Nat) : (frS n i x t).length = x.length := by unfold frS; split <;> simp

theorem frL_len (n i : Nat) (l : List Int) : (frL n i l).length = l.length := fold_len (frS_len n i) l (n + 1)

def frB (N i : Int) : Bool := decide (1 ≤ i ∧ i ≤ N)

def frE (N : Int) (l : List Int) (i : Int) : Int := if chkE N l = 0 ∧ 1 ≤ i ∧ i ≤ N then cloE N.toNat (frL N.toNat i.toNat l) else 2
end Go.Proofs.Ytgdcclldgfcilaa

namespace Go.Proofs.Ytgdcclldgfcilaa
open Go.RowKit

/-- Up: the first element of each row is set. -/
def umS (n : Nat) (x : List Int) (t : Nat) : List Int := x.set (Zo.ix n t 0) 1099511627776

def umL (n : Nat) (l : List Int) : List Int := (List.range (n + 1)).foldl (umS n) l

theorem umL_len (n : Nat) (l : List Int) : (umL n l).length = l.length := fold_len (fun x t => by simp [umS]) l _

/-- Down: the elements of the first row are set. -/
def dmS (n : Nat) (x : List Int) (t : Nat) : List Int := x.set (Zo.ix n 0 t) 1099511627776

def dmL (n : Nat) (l : List Int) : List Int := (List.range (n + 1)).foldl (dmS n) l

theorem dmL_len (n : Nat) (l : List Int) : (dmL n l).length = l.length := fold_len (fun x t => by simp [dmS]) l _

/-- release: row i and column i are set. -/
def rlS (n i : Nat) (x : List Int) (t : Nat) : List Int := (x.set (Zo.ix n i t) 1099511627776).set (Zo.ix n t i) 1099511627776

def rlL (n i : Nat) (l : List Int) : List Int := (List.range (n + 1)).foldl (rlS n i) l

theorem rlL_len (n i : Nat) (l : List Int) : (rlL n i l).length = l.length := fold_len (fun x t => by simp [rlS]) l _

/-- Returns nothing; the matrix at b is gl. -/
def Chg (w : World) (b n : Nat) (gl : List Int) (e : Ending) (w' : World) : Prop := e = .returned (.tuple #[]) ∧ MSt w b n gl w'

def ckB (N i first : Int) : Bool := decide (first ≤ i ∧ i ≤ N)
end Go.Proofs.Ytgdcclldgfcilaa

namespace Go.Proofs.Ytgdcclldgfcilaa
open Go.RowKit

theorem cloE_pre {n : Nat} {x y : List Int} (h : Zo.pre n x = Zo.pre n y) : cloE n x = cloE n y := by
  unfold cloE cloB; rw [Zo.clo_pre h]

theorem chk_diag {n : Nat} {l : List Int} (h : chkE n l = 0) : (∀ a, a ≤ n → Zo.At n l a a = 1) ∧ ∀ a, a ≤ n → Zo.At n l 0 a ≤ 1 := by
  have hc : chkB n l = true := by
    unfold chkE at h
    cases e : chkB n l
    · rw [e] at h; simp at h
    · rfl
  unfold chkB at hc
  simp only [Bool.and_eq_true, Int.toNat_natCast] at hc
  have h1 := chk1_iff.1 hc.1.2
  constructor
  · intro a ha
    have := h1 a (by omega) a (by omega)
    unfold okI at this
    simp at this
    exact this.1.2
  · intro a ha
    have := h1 0 (by omega) a (by omega)
    unfold okI at this
    simp at this
    exact this.2

theorem umL_at {n : Nat} {l : List Int} (hl : l.length = (n + 1) * (n + 1)) {a b : Nat} (ha : a ≤ n) (hb : b ≤ n) : Zo.At n (umL n l) a b = if b = 0 then 1099511627776 else Zo.At n l a b := by
  have := (Zo.fold_at (N := n + 1) (f := umS n) (p := fun t a b => decide (a = t ∧ b = 0)) (v := 1099511627776) (fun x t ht hx => ⟨by simpa [umS] using hx, fun a b _ hb => by
    unfold umS; rw [Zo.At_set hx (by omega) (by omega) _ hb]; simp⟩) hl (n + 1) (Nat.le_refl _)).2 a b ha hb
  rw [show umL n l = (List.range (n + 1)).foldl (umS n) l from rfl, this]
  by_cases c : b = 0
  · rw [if_pos c, if_pos]
    rw [List.any_eq_true]
    exact ⟨a, List.mem_range.2 (by omega), by simpa using c⟩
  · rw [if_neg c, if_neg]
    intro h
    rw [List.any_eq_true] at h
    obtain ⟨s, _, hs⟩ := h
    simp at hs
    exact c hs.2

theorem upL_at {n : Nat} {l : List Int} (hl : l.length = (n + 1) * (n + 1)) {a b : Nat} (ha : a ≤ n) (hb : b ≤ n) : Zo.At n (upL n l) a b = if a ≠ 0 ∧ b = 0 then 1099511627776 else Zo.At n l a b := by
  have := (Zo.fold_at (N := n) (f := upS n) (p := fun t a b => decide (a = t + 1 ∧ b = 0)) (v := 1099511627776) (fun x t ht hx => ⟨by simpa [upS] using hx, fun a b _ hb => by
    unfold upS; rw [Zo.At_set hx (by omega) (by omega) _ hb]; simp⟩) hl n (Nat.le_refl _)).2 a b ha hb
  rw [show upL n l = (List.range n).foldl (upS n) l from rfl, this]
  by_cases c : a ≠ 0 ∧ b = 0
  · rw [if_pos c, if_pos]
    rw [List.any_eq_true]
    exact ⟨a - 1, List.mem_range.2 (by omega), by simp; omega⟩
  · rw [if_neg c, if_neg]
    intro h
    rw [List.any_eq_true] at h
    obtain ⟨s, _, hs⟩ := h
    simp at hs
    omega

theorem dmL_at {n : Nat} {l : List Int} (hl : l.length = (n + 1) * (n + 1)) {a b : Nat} (ha : a ≤ n) (hb : b ≤ n) : Zo.At n (dmL n l) a b = if a = 0 then 1099511627776 else Zo.At n l a b := by
  have := (Zo.fold_at (N := n + 1) (f := dmS n) (p := fun t a b => decide (a = 0 ∧ b = t)) (v := 1099511627776) (fun x t ht hx => ⟨by simpa [dmS] using hx, fun a b _ hb => by
    unfold dmS; rw [Zo.At_set hx (by omega) (by omega) _ hb]; simp⟩) hl (n + 1) (Nat.le_refl _)).2 a b ha hb
  rw [show dmL n l = (List.range (n + 1)).foldl (dmS n) l from rfl, this]
  by_cases c : a = 0
  · rw [if_pos c, if_pos]
    rw [List.any_eq_true]
    exact ⟨b, List.mem_range.2 (by omega), by simpa using c⟩
  · rw [if_neg c, if_neg]
    intro h
    rw [List.any_eq_true] at h
    obtain ⟨s, _, hs⟩ := h
    simp at hs
    exact c hs.1

theorem dnL_at {n : Nat} {l : List Int} (hl : l.length = (n + 1) * (n + 1)) {a b : Nat} (ha : a ≤ n) (hb : b ≤ n) : Zo.At n (dnL n l) a b = if a = 0 ∧ b ≠ 0 then 1 else Zo.At n l a b := by
  have := (Zo.fold_at (N := n) (f := dnS n) (p := fun t a b => decide (a = 0 ∧ b = t + 1)) (v := 1) (fun x t ht hx => ⟨by simpa [dnS] using hx, fun a b _ hb => by
    unfold dnS; rw [Zo.At_set hx (by omega) (by omega) _ hb]; simp⟩) hl n (Nat.le_refl _)).2 a b ha hb
  rw [show dnL n l = (List.range n).foldl (dnS n) l from rfl, this]
  by_cases c : a = 0 ∧ b ≠ 0
  · rw [if_pos c, if_pos]
    rw [List.any_eq_true]
    exact ⟨b - 1, List.mem_range.2 (by omega), by simp; omega⟩
  · rw [if_neg c, if_neg]
    intro h
    rw [List.any_eq_true] at h
    obtain ⟨s, _, hs⟩ := h
    simp at hs
    omega

theorem up_pre {n : Nat} {l : List Int} (hl : l.length = (n + 1) * (n + 1)) (hc : chkE n l = 0) : Zo.pre n (umL n l) = Zo.pre n (upL n l) := by
  obtain ⟨dg, _⟩ := chk_diag hc
  refine Zo.pre_eq (by rw [umL_len, hl]) (by rw [upL_len, hl]) fun a b ha hb => ⟨fun h => ?_, fun h => ?_⟩
  · rw [umL_at hl ha hb, upL_at hl ha hb]
    by_cases c : b = 0
    · rw [if_pos c, if_pos ⟨h.1, c⟩]
    · rw [if_neg c, if_neg (by omega)]
  · rw [umL_at hl ha hb, upL_at hl ha hb]
    by_cases c : b = 0
    · rw [if_pos c, if_neg (by omega)]
      have : a = 0 := by omega
      subst this; subst c
      rw [dg 0 (by omega)]; decide
    · rw [if_neg c, if_neg (by omega)]

theorem dn_pre {n : Nat} {l : List Int} (hl : l.length = (n + 1) * (n + 1)) (hc : chkE n l = 0) : Zo.pre n (dmL n l) = Zo.pre n (dnL n l) := by
  obtain ⟨dg, _⟩ := chk_diag hc
  refine Zo.pre_eq (by rw [dmL_len, hl]) (by rw [dnL_len, hl]) fun a b ha hb => ⟨fun h => ?_, fun h => ?_⟩
  · rw [dmL_at hl ha hb, dnL_at hl ha hb, if_neg h.1, if_neg (by omega)]
  · rw [dmL_at hl ha hb, dnL_at hl ha hb]
    by_cases c : a = 0
    · rw [if_pos c]
      by_cases cb : b = 0
      · rw [if_neg (by omega)]
        subst c; subst cb
        rw [dg 0 (by omega)]; decide
      · rw [if_pos ⟨c, cb⟩]; decide
    · rw [if_neg c, if_neg (by omega)]

theorem fold_64 {f : List Int → Nat → List Int} (hf : ∀ x t, Zo.A64 x → Zo.A64 (f x t)) {l : List Int} (h : Zo.A64 l) (t : Nat) : Zo.A64 ((List.range t).foldl f l) :=
  Zo.fold_keeps (R := Zo.A64) t (fun a s _ ha => hf a s ha) l h t (Nat.le_refl _)

theorem no_in : -9223372036854775808 ≤ (1099511627776 : Int) ∧ (1099511627776 : Int) ≤ 9223372036854775807 := by omega
end Go.Proofs.Ytgdcclldgfcilaa

namespace Go.Proofs.Ytgdcclldgfcilaa
open Go.RowKit

/-- From what a call of changed leaves to what the function around it leaves, whose result lies at x. -/
theorem zres_over {w W w4 : World} {N : Int} {l : List Int} {g c x : Nat} (hb : Below w.heap.size w W) (h : Below W.heap.size W w4) (hO : Own w4 g c l) (hg : W.heap.size ≤ g) (hx : w.heap.size ≤ x) (hlt : x < W.heap.size) (u v : Value) :
    ZRes w N l 0 (.returned (.tuple #[.agg #[.int .i64 N, .slice (some ⟨g, 0, none⟩) l.length c], .int .i64 0])) ((w4.setCell ⟨x, 0, none⟩ u).setCell ⟨x, 1, none⟩ v) :=
  ⟨((below_on hb h).setCell hx _).setCell hx _, Or.inl ⟨rfl, g, c, rfl, by have := hb.size; omega, put_far hO (by omega) _ _⟩⟩

theorem zres_over0 {w W w4 : World} {N : Int} {l : List Int} {er : Int} {x : Nat} (hb : Below w.heap.size w W) (h : Below W.heap.size W w4) (he : er ≠ 0) (hx : w.heap.size ≤ x) (u v : Value) :
    ZRes w N l er (.returned (.tuple #[.agg #[.int .i64 0, .slice none 0 0], .int .i64 er])) ((w4.setCell ⟨x, 0, none⟩ u).setCell ⟨x, 1, none⟩ v) :=
  ⟨((below_on hb h).setCell hx _).setCell hx _, Or.inr ⟨he, rfl⟩⟩
end Go.Proofs.Ytgdcclldgfcilaa

namespace Go.Proofs.Ytgdcclldgfcilaa
open Go.RowKit

/-- Constraints: the clock I minus the clock J meets L. -/
abbrev Con := Int × Int × Int

def gc (cs : List Con) (k : Nat) : Con := cs.getD k (0, 0, 0)

def Rd3 (w : World) (a : Addr) (cs : List Con) : Prop := ∀ j, j < cs.length → w.cell? (a.add (j * 3)) = some (.int .i64 (gc cs j).1) ∧ w.cell? ⟨(a.add (j * 3)).block, (a.add (j * 3)).off + 1, none⟩ = some (.int .i64 (gc cs j).2.1) ∧ w.cell? ⟨(a.add (j * 3)).block, (a.add (j * 3)).off + 2, none⟩ = some (.int .i64 (gc cs j).2.2)

theorem Rd3.on {w w' : World} {a : Addr} {l : List Con} (h : Rd3 w a l) (hb : Below w.heap.size w w') : Rd3 w' a l := fun j hj => ⟨kept hb (h j hj).1, kept hb (h j hj).2.1, kept hb (h j hj).2.2⟩

/-- Behind writes to a row of the call's own. -/
theorem Rd3.st {w w3 w' : World} {a : Addr} {cs : List Con} {g c : Nat} {x : List Int} (h : Rd3 w a cs) (hb : Below w.heap.size w w3) (hg : w.heap.size ≤ g) (hs : St w3 g c x w') : Rd3 w' a cs := by
  intro j hj
  obtain ⟨h1, h2, h3⟩ := h j hj
  exact ⟨hs.cell (kept hb h1) (by have := World.block_lt_of_cell? w _ h1; omega), hs.cell (kept hb h2) (by have := World.block_lt_of_cell? w _ h2; omega), hs.cell (kept hb h3) (by have := World.block_lt_of_cell? w _ h3; omega)⟩

def okC (n : Nat) (c : Con) : Bool := decide (0 ≤ c.1 ∧ c.1 ≤ n ∧ 0 ≤ c.2.1 ∧ c.2.1 ≤ n) && lvB c.2.2

def anS (n : Nat) (cs : List Con) (x : List Int) (t : Nat) : List Int := x.set (Zo.ix n (gc cs t).1.toNat (gc cs t).2.1.toNat) (imin (Zo.At n x (gc cs t).1.toNat (gc cs t).2.1.toNat) (gc cs t).2.2)

def anL (n : Nat) (cs : List Con) (l : List Int) : List Int := (List.range cs.length).foldl (anS n cs) l

theorem anL_len (n : Nat) (cs : List Con) (l : List Int) : (anL n cs l).length = l.length := fold_len (fun x t => by simp [anS]) l _

def anE (n : Nat) (cs : List Con) (l : List Int) : Int := if cs.all (okC n) then cloE n (anL n cs l) else 2

theorem anE_bad {n : Nat} {cs : List Con} {l : List Int} {k : Nat} (hk : k < cs.length) (h : okC n (gc cs k) = false) : anE n cs l = 2 := by
  have : cs.all (okC n) = false := by
    rw [List.all_eq_false]
    exact ⟨cs[k], List.getElem_mem hk, by rw [show cs[k] = gc cs k by simp [gc, hk], h]; simp⟩
  unfold anE; rw [this]; rfl

theorem anE_ok {n : Nat} {cs : List Con} {l : List Int} (h : ∀ k, k < cs.length → okC n (gc cs k) = true) : anE n cs l = cloE n (anL n cs l) := by
  have : cs.all (okC n) = true := by
    rw [List.all_eq_true]
    intro x hx
    obtain ⟨k, hk, rfl⟩ := List.getElem_of_mem hx
    have := h k hk
    simpa [gc, hk] using this
  unfold anE; rw [this]; rfl

set_option maxRecDepth 20000 in
set_option maxHeartbeats 4000000 in
theorem an_any (n : Nat) (l : List Int) (a : Addr) (cap : Nat) (cs : List Con) (dao : Option Addr) (d : Addr) (dc : Nat) (w : World) (hn : n ≤ 10) (hl : l.length = (n + 1) * (n + 1)) (hR : Rd w a l) (hc : chkE n l = 0) (hD : Rd3 w d cs) (hdl : cs.length ≤ 1000) (hdo : cs ≠ [] → dao = some d) :
    Calls Try.prog 10 #[.agg #[.int .i64 n, .slice (some a) l.length cap], .slice dao cs.length dc] w (ZRes w n (Zo.clo n (anL n cs l)) (anE n cs l)) := by
  obtain ⟨cl, hcl⟩ : ∃ cl, cl = cs.length := ⟨_, rfl⟩
  have HCl := Lib.hid hcl
  rw [← hcl]
  have hcb : cl ≤ 1000 := by omega
  have HD := Lib.hid hD
  have HDO := Lib.hid (show 0 < cl → dao = some d from fun h => hdo (fun e => by rw [hcl, e] at h; simp at h))
  clear hD hcl hdl hdo
  obtain ⟨len, hlen⟩ : ∃ len, len = l.length := ⟨_, rfl⟩
  obtain ⟨w0, hw0⟩ : ∃ w0, w0 = (w.alloc (.cells #[.int .i64 n, .slice (some a) len cap] 24)).alloc (.cells #[.int .i64 0, .slice none 0 0] 24) := ⟨_, rfl⟩
  have bx : Two w0 w.heap.size (.int .i64 n) (.slice (some a) len cap) := by rw [hw0]; exact (Two.made _ _ _ _).alloc _
  have rs : Two w0 (w.heap.size + 1) (.int .i64 0) (.slice none 0 0) := by
    rw [hw0]
    have := Two.made (w.alloc (.cells #[.int .i64 n, .slice (some a) len cap] 24)) (.int .i64 0) (.slice none 0 0) 24
    simpa using this
  have z0 : w0.heap.size = w.heap.size + 2 := by rw [hw0]; simp
  have e0 : Below w.heap.size w w0 := by rw [hw0]; exact past_two (Below.refl _ _)
  have R0 := hR.on e0
  have CK : Hid (∀ W, Rd W a l → Calls Try.prog 22 #[.agg #[.int .i64 n, .slice (some a) len cap]] W (Made (.int .i64 0) W)) := Lib.hid fun W h => by have := check_any n l a cap W hn hl h; rw [hc, ← hlen] at this; exact this
  have CP : Hid (∀ W, Rd W a l → Calls Try.prog 24 #[.agg #[.int .i64 n, .slice (some a) len cap]] W (fun e w' => ∃ g c, e = .returned (.agg #[.int .i64 n, .slice (some ⟨g, 0, none⟩) len c]) ∧ W.heap.size ≤ g ∧ Own w' g c l ∧ Below W.heap.size W w')) := Lib.hid fun W h => by have := copied_any n l a cap W (by rw [hl]; exact dsq_pos n) (by rw [hl]; have := dsq_le hn; omega) h; rw [← hlen] at this; exact this
  have HR := Lib.hid R0
  have HL := Lib.hid hl
  have HLn := Lib.hid hlen
  have E0 := Lib.hid e0
  rw [← hlen]
  clear hR R0 hl hlen hc e0
  go_enter Try.func10, Try.ntmps10
  go_wp2_with fail
  rw [← hw0]
  clear hw0
  obtain ⟨b0, b1, b2, b3⟩ := bx.facts
  go_wp2_with fail
  refine (CK.out _ HR.out).mono ?_
  rintro e w1 ⟨rfl, hb1⟩
  clear b0 b1 b2 b3
  replace bx := bx.kept hb1
  replace rs := rs.kept hb1
  have HR1 := Lib.hid (HR.out.on hb1)
  have E1 := Lib.hid (below_on E0.out hb1)
  have z1 := hb1.size
  clear hb1 HR E0
  obtain ⟨b0, b1, b2, b3⟩ := bx.facts
  go_wp2_with fail
  clear b0 b1 b2 b3
  go_loopw [6] (fun s wr => ∃ t : Nat, t ≤ cl ∧ s = .int .i64 t ∧ Hid (∀ k, k < t → okC n (gc cs k) = true) ∧ Hid (Below w1.heap.size w1 wr)) (fun s _ => cl - (intOf s).toNat)
  case atStart => exact ⟨0, by omega, rfl, Lib.hid (fun k hk => by omega), Lib.hid (Below.refl _ _)⟩
  case round =>
    obtain ⟨t, ht, rfl, HK, HB⟩ := hrel
    obtain ⟨b0, b1, b2, b3⟩ := (bx.kept HB.out).facts
    by_cases htn : t < cl
    · have hdo := HDO.out (by omega)
      clear HDO
      subst hdo
      obtain ⟨d1, d2, d3⟩ := (HD.out.on (below_on E1.out HB.out)) t (by rw [← HCl.out]; exact htn)
      obtain ⟨q, hq⟩ : ∃ q, q = gc cs t := ⟨_, rfl⟩
      rw [← hq] at d1 d2 d3
      have HQ := Lib.hid hq
      clear hq
      obtain ⟨I, J, L⟩ := q
      simp only at d1 d2 d3
      have v9 := fun W => refLimValid_free L W
      by_cases i1 : I < 0
      · have D1 : decide (I < (0 : Int)) = true := by simpa using i1
        clear v9
        have HE := Lib.hid (anE_bad (n := n) (cs := cs) (l := l) (k := t) (by rw [← HCl.out]; exact htn) (by rw [← HQ.out]; unfold okC; simp; omega))
        go_wp2_with fail
        go_quiet (fail)
        clear d1 d2 d3 b0 b1 b2 b3
        obtain ⟨r0, r1, r2, r3⟩ := (rs.kept HB.out).facts
        go_wp2_with fail
        refine bodyPost_ret (v := .tuple #[.agg #[.int .i64 0, .slice none 0 0], .int .i64 2]) (by simp [results, Try.results10, go_sem, r0, r1]) rfl (ZRes.bad (zres_bad (N := 0) (l := []) ?_) HE.out)
        exact ((below_drewN (below_on E1.out HB.out) _).setCell (by show w.heap.size ≤ w.heap.size + 1; omega) _).setCell (by show w.heap.size ≤ w.heap.size + 1; omega) _
      have D1 : decide (I < (0 : Int)) = false := by simp; omega
      by_cases i2 : (n : Int) < I
      · have D2 : decide ((n : Int) < I) = true := by simpa using i2
        clear v9
        have HE := Lib.hid (anE_bad (n := n) (cs := cs) (l := l) (k := t) (by rw [← HCl.out]; exact htn) (by rw [← HQ.out]; unfold okC; simp; omega))
        go_wp2_with fail
        go_quiet (fail)
        clear d1 d2 d3 b0 b1 b2 b3
        obtain ⟨r0, r1, r2, r3⟩ := (rs.kept HB.out).facts
        go_wp2_with fail
        refine bodyPost_ret (v := .tuple #[.agg #[.int .i64 0, .slice none 0 0], .int .i64 2]) (by simp [results, Try.results10, go_sem, r0, r1]) rfl (ZRes.bad (zres_bad (N := 0) (l := []) ?_) HE.out)
        exact ((below_drewN (below_on E1.out HB.out) _).setCell (by show w.heap.size ≤ w.heap.size + 1; omega) _).setCell (by show w.heap.size ≤ w.heap.size + 1; omega) _
      have D2 : decide ((n : Int) < I) = false := by simp; omega
      by_cases j1 : J < 0
      · have D3 : decide (J < (0 : Int)) = true := by simpa using j1
        clear v9
        have HE := Lib.hid (anE_bad (n := n) (cs := cs) (l := l) (k := t) (by rw [← HCl.out]; exact htn) (by rw [← HQ.out]; unfold okC; simp; omega))
        go_wp2_with fail
        go_quiet (fail)
        clear d1 d2 d3 b0 b1 b2 b3
        obtain ⟨r0, r1, r2, r3⟩ := (rs.kept HB.out).facts
        go_wp2_with fail
        refine bodyPost_ret (v := .tuple #[.agg #[.int .i64 0, .slice none 0 0], .int .i64 2]) (by simp [results, Try.results10, go_sem, r0, r1]) rfl (ZRes.bad (zres_bad (N := 0) (l := []) ?_) HE.out)
        exact ((below_drewN (below_on E1.out HB.out) _).setCell (by show w.heap.size ≤ w.heap.size + 1; omega) _).setCell (by show w.heap.size ≤ w.heap.size + 1; omega) _
      have D3 : decide (J < (0 : Int)) = false := by simp; omega
      by_cases j2 : (n : Int) < J
      · have D4 : decide ((n : Int) < J) = true := by simpa using j2
        clear v9
        have HE := Lib.hid (anE_bad (n := n) (cs := cs) (l := l) (k := t) (by rw [← HCl.out]; exact htn) (by rw [← HQ.out]; unfold okC; simp; omega))
        go_wp2_with fail
        go_quiet (fail)
        clear d1 d2 d3 b0 b1 b2 b3
        obtain ⟨r0, r1, r2, r3⟩ := (rs.kept HB.out).facts
        go_wp2_with fail
        refine bodyPost_ret (v := .tuple #[.agg #[.int .i64 0, .slice none 0 0], .int .i64 2]) (by simp [results, Try.results10, go_sem, r0, r1]) rfl (ZRes.bad (zres_bad (N := 0) (l := []) ?_) HE.out)
        exact ((below_drewN (below_on E1.out HB.out) _).setCell (by show w.heap.size ≤ w.heap.size + 1; omega) _).setCell (by show w.heap.size ≤ w.heap.size + 1; omega) _
      have D4 : decide ((n : Int) < J) = false := by simp; omega
      cases lv : lvB L
      · have HLV := Lib.hid lv
        rw [lv] at v9
        have V9 := Lib.hid v9
        clear v9 lv
        have HE := Lib.hid (anE_bad (n := n) (cs := cs) (l := l) (k := t) (by rw [← HCl.out]; exact htn) (by rw [← HQ.out]; unfold okC; simp; intros; exact HLV.out))
        go_wp2_with fail
        go_quiet ((go_at_call 23; exact Calls.quiet_of_same (V9.out _)))
        clear d1 d2 d3 b0 b1 b2 b3
        obtain ⟨r0, r1, r2, r3⟩ := (rs.kept HB.out).facts
        go_wp2_with fail
        refine bodyPost_ret (v := .tuple #[.agg #[.int .i64 0, .slice none 0 0], .int .i64 2]) (by simp [results, Try.results10, go_sem, r0, r1]) rfl (ZRes.bad (zres_bad (N := 0) (l := []) ?_) HE.out)
        exact ((below_drewN (below_on E1.out HB.out) _).setCell (by show w.heap.size ≤ w.heap.size + 1; omega) _).setCell (by show w.heap.size ≤ w.heap.size + 1; omega) _
      · rw [lv] at v9
        have V9 := Lib.hid v9
        have HK2 := Lib.hid (show okC n (gc cs t) = true by rw [← HQ.out]; unfold okC; rw [lv]; simp; omega)
        clear v9 lv
        go_wp2_with fail
        go_quiet ((go_at_call 23; exact Calls.quiet_of_same (V9.out _)))
        clear d1 d2 d3 b0 b1 b2 b3
        go_wp2_with fail
        go_roundw
        case rel =>
          refine ⟨t + 1, by omega, by go_num, Lib.hid (fun k hk => ?_), Lib.hid (below_drewN HB.out _)⟩
          by_cases e : k = t
          · rw [e]; exact HK2.out
          · exact HK.out k (by omega)
        case measure => simp [intOf]; omega
    · have HAE := Lib.hid (anE_ok (n := n) (cs := cs) (l := l) (fun k hk => HK.out k (by rw [← HCl.out] at hk; omega)))
      have HOK := Lib.hid (show ∀ k, k < cl → okC n (gc cs k) = true from fun k hk => HK.out k (by omega))
      clear b0 b1 b2 b3
      replace bx := bx.kept HB.out
      replace rs := rs.kept HB.out
      replace HR1 := Lib.hid (HR1.out.on HB.out)
      replace E1 := Lib.hid (below_on E1.out HB.out)
      have z2' := HB.out.size
      clear HB HK
      obtain ⟨b0, b1, b2, b3⟩ := bx.facts
      go_wp2_with fail
      refine (CP.out _ HR1.out).mono ?_
      rintro e w2 ⟨g, c, rfl, hg, ho, hb2⟩
      clear b0 b1 b2 b3
      replace bx := bx.kept hb2
      replace rs := rs.kept hb2
      have E2 := Lib.hid (below_on E1.out hb2)
      have z2 := hb2.size
      clear hb2 E1 HR1
      obtain ⟨b0, b1, b2, b3⟩ := bx.facts
      obtain ⟨w3, hw3⟩ : ∃ w3, w3 = (w2.setCell ⟨w.heap.size, 0, none⟩ (.int .i64 n)).setCell ⟨w.heap.size, 1, none⟩ (.slice (some ⟨g, 0, none⟩) len c) := ⟨_, rfl⟩
      have bx3 : Two w3 w.heap.size (.int .i64 n) (.slice (some ⟨g, 0, none⟩) len c) := by rw [hw3]; exact bx.put _ _
      have rs3 : Two w3 (w.heap.size + 1) (.int .i64 0) (.slice none 0 0) := by rw [hw3]; exact rs.aside (by omega) _ _
      have O3 : Own w3 g c l := by rw [hw3]; exact put_far ho (by omega) _ _
      have E3 : Below w.heap.size w w3 := by rw [hw3]; exact (E2.out.setCell (by show w.heap.size ≤ w.heap.size; omega) _).setCell (by show w.heap.size ≤ w.heap.size; omega) _
      have S3 := Lib.hid (show St w3 g c l w3 from ⟨O3, World.grownBy.refl _ _⟩)
      have HE3 := Lib.hid E3
      clear ho O3 E3 E2 rs bx
      go_wp2_with fail
      rw [← hw3]
      clear hw3 b0 b1 b2 b3
      have KD := Lib.hid (show ∀ (t : Nat) (y : List Int) (w' : World), t < cl → St w3 g c y w' → w'.cell? (d.add (t * 3)) = some (.int .i64 (gc cs t).1) ∧ w'.cell? ⟨(d.add (t * 3)).block, (d.add (t * 3)).off + 1, none⟩ = some (.int .i64 (gc cs t).2.1) ∧ w'.cell? ⟨(d.add (t * 3)).block, (d.add (t * 3)).off + 2, none⟩ = some (.int .i64 (gc cs t).2.2) from
        fun t y w' h1 h2 => (HD.out.st HE3.out (by omega) h2) t (by rw [← HCl.out]; exact h1))
      have KS := Lib.hid (show ∀ (y : List Int) (w' : World), St w3 g c y w' → w'.cell? ⟨w.heap.size, 0, none⟩ = some (.int .i64 n) ∧ w'.cell? ⟨w.heap.size, 1, none⟩ = some (.slice (some ⟨g, 0, none⟩) len c) from
        fun y w' h => ⟨h.cell bx3.facts.1 (by simp; omega), h.cell bx3.facts.2.1 (by simp; omega)⟩)
      go_loopw [7] (fun s wr => ∃ (t : Nat) (x : List Int), t ≤ cl ∧ s = .int .i64 t ∧ x.length = len ∧ Hid (x = (List.range t).foldl (anS n cs) l) ∧ Hid (St w3 g c x wr)) (fun s _ => cl - (intOf s).toNat)
      case atStart => exact ⟨0, l, by omega, rfl, HLn.out.symm, Lib.hid rfl, S3⟩
      case round =>
        obtain ⟨t, x, ht, rfl, hx, HX, HT⟩ := hrel
        have bx4 := bx3.grown HT.out.2 (by omega)
        obtain ⟨b0, b1, b2, b3⟩ := bx4.facts
        have lx : x.length = (n + 1) * (n + 1) := by rw [hx, HLn.out, HL.out]
        by_cases htn : t < cl
        · have hdo := HDO.out (by omega)
          clear HDO
          subst hdo
          obtain ⟨d1, d2, d3⟩ := KD.out t _ _ htn HT.out
          obtain ⟨i, j, L, hq, hi, hj⟩ : ∃ (i j : Nat) (L : Int), gc cs t = ((i : Int), (j : Int), L) ∧ i ≤ n ∧ j ≤ n := by
            have := HOK.out t htn
            unfold okC at this
            simp only [Bool.and_eq_true, decide_eq_true_eq] at this
            obtain ⟨⟨p1, p2, p3, p4⟩, _⟩ := this
            refine ⟨(gc cs t).1.toNat, (gc cs t).2.1.toNat, (gc cs t).2.2, ?_, by omega, by omega⟩
            rw [Int.toNat_of_nonneg p1, Int.toNat_of_nonneg p3]
          have kd := fun (y : List Int) (w' : World) (h : St w3 g c y w') => KD.out t y w' htn h
          rw [hq] at d1 d2 d3 kd
          simp only at d1 d2 d3 kd
          have KD2 := Lib.hid kd
          have HS := Lib.hid (show anS n cs x t = x.set (Zo.ix n i j) (imin (Zo.At n x i j) L) by unfold anS; rw [hq]; simp)
          have AT : Hid (∀ w' : World, St w3 g c x w' → Calls Try.prog 18 #[.agg #[.int .i64 n, .slice (some ⟨g, 0, none⟩) len c], .int .i64 i, .int .i64 j] w' (fun e w' => e = .returned (.int .i64 (Zo.At n x i j)) ∧ St w3 g c x w')) :=
            Lib.hid fun w' h => by have := at_st (i := i) (j := j) hn hi hj lx h; rw [hx] at this; exact this
          have SE : Hid (∀ (val : Int) (w' : World), St w3 g c x w' → Calls Try.prog 25 #[.agg #[.int .i64 n, .slice (some ⟨g, 0, none⟩) len c], .int .i64 i, .int .i64 j, .int .i64 val] w' (fun e w' => e = .returned (.tuple #[]) ∧ St w3 g c (x.set (Zo.ix n i j) val) w')) :=
            Lib.hid fun val w' h => by have := set_st (i := i) (j := j) val hn hi hj lx h; rw [hx] at this; exact this
          have hm := run_imin (Zo.At n x i j) L
          clear hq kd
          go_wp2_with fail
          have s1 := HT.out.drew
          go_region_held3 (fun w' => (w'.cell? ⟨w.heap.size, 0, none⟩ = some (.int .i64 n) ∧ w'.cell? ⟨w.heap.size, 1, none⟩ = some (.slice (some ⟨g, 0, none⟩) len c)) ∧ (w'.cell? (d.add (t * 3)) = some (.int .i64 i) ∧ w'.cell? ⟨(d.add (t * 3)).block, (d.add (t * 3)).off + 1, none⟩ = some (.int .i64 j) ∧ w'.cell? ⟨(d.add (t * 3)).block, (d.add (t * 3)).off + 2, none⟩ = some (.int .i64 L))) (first | exact ⟨KS.out _ _ s1, KD2.out _ _ s1⟩ | exact ⟨KS.out _ _ s2, KD2.out _ _ s2⟩ | exact ⟨KS.out _ _ s3, KD2.out _ _ s3⟩)
            (first | (go_at_call 18; refine (AT.out _ s1).mono ?_; rintro e w5 ⟨rfl, s2⟩) | (go_at_call 25; refine (SE.out _ _ s2).mono ?_; rintro e w6 ⟨rfl, s3⟩))
          have S4 := Lib.hid s3
          clear s1 s2 s3
          go_wp2_with fail
          go_roundw
          case rel => exact ⟨t + 1, _, by omega, by go_num, by simpa using hx, Lib.hid (by rw [Zo.fold_succ, ← HX.out, HS.out]), S4⟩
          case measure => simp [intOf]; omega
        · have HX2 := Lib.hid (show x = anL n cs l by rw [HX.out, show t = cl by omega, HCl.out]; rfl)
          by_cases hE : cloE n x = 0
          · have CL : Hid (∀ W, Own W g c x → Calls Try.prog 26 #[.agg #[.int .i64 n, .slice (some ⟨g, 0, none⟩) len c]] W (fun e w' => e = .returned (.tuple #[.agg #[.int .i64 n, .slice (some ⟨g, 0, none⟩) len c], .int .i64 0]) ∧ Own w' g c (Zo.clo n x) ∧ W.grownBy w' (some g))) := Lib.hid fun W h => by have := closed_ok W hn lx h hE; rw [hx] at this; exact this
            have HEE := Lib.hid hE
            clear hE
            go_wp2_with fail
            refine (CL.out _ HT.out.1).mono ?_
            rintro e w5 ⟨rfl, ho5, hg5⟩
            have rs5 := (rs3.grown HT.out.2 (by omega)).grown hg5 (by omega)
            obtain ⟨q0, q1, q2, q3⟩ := rs5.facts
            have E5 := Lib.hid (grown_over (grown_over HE3.out HT.out.2 (by omega)) hg5 (by omega))
            have HO5 := Lib.hid ho5
            clear ho5 hg5
            go_wp2_with fail
            refine bodyPost_ret (v := .tuple #[.agg #[.int .i64 n, .slice (some ⟨g, 0, none⟩) len c], .int .i64 0]) (by simp [results, Try.results10, go_sem, q0, q1]) rfl ⟨(E5.out.setCell (by show w.heap.size ≤ w.heap.size + 1; omega) _).setCell (by show w.heap.size ≤ w.heap.size + 1; omega) _, Or.inl ⟨by rw [HAE.out, ← HX2.out]; exact HEE.out, g, c, ?_, by omega, ?_⟩⟩
            · rw [Zo.clo_length, anL_len, ← HLn.out]
            · rw [← HX2.out]; exact put_far HO5.out (by omega) _ _
          · have CL : Hid (∀ W, Own W g c x → Calls Try.prog 26 #[.agg #[.int .i64 n, .slice (some ⟨g, 0, none⟩) len c]] W (fun e w' => e = .returned (.tuple #[.agg #[.int .i64 0, .slice none 0 0], .int .i64 (cloE n x)]) ∧ Own w' g c (Zo.clo n x) ∧ W.grownBy w' (some g))) := Lib.hid fun W h => by have := closed_no W hn lx h hE; rw [hx] at this; exact this
            have HEE := Lib.hid hE
            clear hE
            go_wp2_with fail
            refine (CL.out _ HT.out.1).mono ?_
            rintro e w5 ⟨rfl, ho5, hg5⟩
            have rs5 := (rs3.grown HT.out.2 (by omega)).grown hg5 (by omega)
            obtain ⟨q0, q1, q2, q3⟩ := rs5.facts
            have E5 := Lib.hid (grown_over (grown_over HE3.out HT.out.2 (by omega)) hg5 (by omega))
            have HO5 := Lib.hid ho5
            clear ho5 hg5
            go_wp2_with fail
            refine bodyPost_ret (v := .tuple #[.agg #[.int .i64 0, .slice none 0 0], .int .i64 (cloE n x)]) (by simp [results, Try.results10, go_sem, q0, q1]) rfl ⟨(E5.out.setCell (by show w.heap.size ≤ w.heap.size + 1; omega) _).setCell (by show w.heap.size ≤ w.heap.size + 1; omega) _, Or.inr ⟨by rw [HAE.out, ← HX2.out]; exact HEE.out, ?_⟩⟩
            rw [HAE.out, HX2.out]
end Go.Proofs.Ytgdcclldgfcilaa

namespace Go.Proofs.Ytgdcclldgfcilaa
open Go.RowKit

def smB (N M : Int) (l m : List Int) : Bool := decide (N = M) && decide (l = m)

theorem smB_no1 {N M : Int} {l m : List Int} (h : N ≠ M) : smB N M l m = false := by simp [smB, h]

theorem smB_no2 {N M : Int} {l m : List Int} (h : l.length ≠ m.length) : smB N M l m = false := by
  have : l ≠ m := fun e => h (by rw [e])
  simp [smB, this]

theorem smB_no3 {N M : Int} {l m : List Int} {k : Nat} (h : Zo.gt l k ≠ Zo.gt m k) : smB N M l m = false := by
  have : l ≠ m := fun e => h (by rw [e])
  simp [smB, this]

theorem smB_yes {N M : Int} {l m : List Int} (h : N = M) (hl : l.length = m.length) (hk : ∀ k, k < l.length → Zo.gt l k = Zo.gt m k) : smB N M l m = true := by
  have : l = m := List.ext_getElem hl fun k h1 h2 => by
    have := hk k h1
    simpa [Zo.gt, h1, h2] using this
  simp [smB, h, this]

set_option maxHeartbeats 1600000 in
theorem same_any (N M : Int) (l m : List Int) (ao bo : Option Addr) (ca cb : Nat) (w : World) (hA : Arg w ao l) (hB : Arg w bo m) (ll : l.length ≤ 9223372036854775807) :
    Calls Try.prog 13 #[.agg #[.int .i64 N, .slice ao l.length ca], .agg #[.int .i64 M, .slice bo m.length cb]] w (Made (.bool (smB N M l m)) w) := by
  obtain ⟨len, hlen⟩ : ∃ len, len = l.length := ⟨_, rfl⟩
  obtain ⟨mlen, hmlen⟩ : ∃ mlen, mlen = m.length := ⟨_, rfl⟩
  obtain ⟨w0, hw0⟩ : ∃ w0, w0 = (w.alloc (.cells #[.int .i64 N, .slice ao len ca] 24)).alloc (.cells #[.int .i64 M, .slice bo mlen cb] 24) := ⟨_, rfl⟩
  have bx : Two w0 w.heap.size (.int .i64 N) (.slice ao len ca) := by rw [hw0]; exact (Two.made _ _ _ _).alloc _
  have by' : Two w0 (w.heap.size + 1) (.int .i64 M) (.slice bo mlen cb) := by
    rw [hw0]
    have := Two.made (w.alloc (.cells #[.int .i64 N, .slice ao len ca] 24)) (.int .i64 M) (.slice bo mlen cb) 24
    simpa using this
  have e0 : Below w.heap.size w w0 := by rw [hw0]; exact past_two (Below.refl _ _)
  have lb : (len : Int) ≤ 9223372036854775807 := by omega
  have HA := Lib.hid (hA.on e0)
  have HB := Lib.hid (hB.on e0)
  have HL := Lib.hid hlen
  have HM := Lib.hid hmlen
  have E0 := Lib.hid e0
  rw [← hlen, ← hmlen]
  clear hA hB hlen hmlen e0 ll
  by_cases hN : N = M
  · have N0 : (N != M) = false := by simpa using hN
    by_cases hS : len = mlen
    · have HS := Lib.hid hS
      have S0 : ((len : Int) != (mlen : Int)) = false := by simp; omega
      have HN := Lib.hid hN
      clear hN hS
      go_enter Try.func13, Try.ntmps13
      go_wp2_with fail
      rw [← hw0]
      clear hw0
      obtain ⟨b0, b1, b2, b3⟩ := bx.facts
      obtain ⟨c0, c1, c2, c3⟩ := by'.facts
      go_wp2_with fail
      try (go_quiet (fail); go_wp2_with fail)
      clear b0 b1 b2 b3 c0 c1 c2 c3
      go_loopw [5] (fun s wr => ∃ t : Nat, t ≤ len ∧ s = .int .i64 t ∧ Hid (∀ k, k < t → Zo.gt l k = Zo.gt m k) ∧ Hid (Below w0.heap.size w0 wr)) (fun s _ => len - (intOf s).toNat)
      case atStart => exact ⟨0, by omega, rfl, Lib.hid (fun k hk => by omega), Lib.hid (by first | exact Below.refl _ _ | exact below_drewN (Below.refl _ _) _)⟩
      case round =>
        obtain ⟨t, ht, rfl, HK, HBw⟩ := hrel
        obtain ⟨b0, b1, b2, b3⟩ := (bx.kept HBw.out).facts
        obtain ⟨c0, c1, c2, c3⟩ := (by'.kept HBw.out).facts
        by_cases htn : t < len
        · obtain ⟨a, hao, hR⟩ := HA.out (fun e => by have := HL.out; rw [e] at this; simp at this; omega)
          obtain ⟨b, hbo, hQ⟩ := HB.out (fun e => by have := HM.out; have := HS.out; rw [e] at *; simp at *; omega)
          subst hao hbo
          have d1 := kept HBw.out (hR t (by rw [← HL.out]; exact htn))
          have d2 := kept HBw.out (hQ t (by rw [← HM.out, ← HS.out]; exact htn))
          have t2 : (t : Int) < (mlen : Int) := by have := HS.out; omega
          obtain ⟨x, hx⟩ : ∃ x, x = Zo.gt l t := ⟨_, rfl⟩
          obtain ⟨y, hy⟩ : ∃ y, y = Zo.gt m t := ⟨_, rfl⟩
          rw [← hx] at d1
          rw [← hy] at d2
          have HXE := Lib.hid hx
          have HYE := Lib.hid hy
          clear hx hy hR hQ
          by_cases hxy : x = y
          · have D : (x != y) = false := by simpa using hxy
            have HXY := Lib.hid hxy
            clear hxy
            go_wp2_with fail
            go_quiet (fail)
            clear b0 b1 b2 b3 c0 c1 c2 c3 d1 d2
            go_wp2_with fail
            go_roundw
            case rel =>
              refine ⟨t + 1, by omega, by go_num, Lib.hid (fun k hk => ?_), Lib.hid (below_drewN HBw.out _)⟩
              by_cases e : k = t
              · rw [e, ← HXE.out, ← HYE.out]; exact HXY.out
              · exact HK.out k (by omega)
            case measure => simp [intOf]; omega
          · have D : (x != y) = true := by simpa using hxy
            have HE := Lib.hid (smB_no3 (N := N) (M := M) (l := l) (m := m) (k := t) (by rw [← HXE.out, ← HYE.out]; exact hxy))
            clear hxy
            go_wp2_with fail
            go_quiet (fail)
            clear b0 b1 b2 b3 c0 c1 c2 c3 d1 d2
            go_wp2_with fail
            go_ret
            exact ⟨ret_bool HE.out.symm, below_drewN (below_on E0.out HBw.out) _⟩
        · have HE := Lib.hid (smB_yes (l := l) (m := m) HN.out (by rw [← HL.out, ← HM.out]; exact HS.out) (fun k hk => HK.out k (by rw [← HL.out] at hk; omega)))
          go_wp2_with fail
          go_ret
          exact ⟨ret_bool HE.out.symm, below_on E0.out HBw.out⟩
    · have HE := Lib.hid (smB_no2 (N := N) (M := M) (l := l) (m := m) (by rw [← HL.out, ← HM.out]; exact hS))
      have S0 : ((len : Int) != (mlen : Int)) = true := by simp; omega
      clear hN
      go_enter Try.func13, Try.ntmps13
      go_wp2_with fail
      rw [← hw0]
      clear hw0
      obtain ⟨b0, b1, b2, b3⟩ := bx.facts
      obtain ⟨c0, c1, c2, c3⟩ := by'.facts
      go_wp2_with fail
      try (go_quiet (fail); go_wp2_with fail)
      go_ret
      exact ⟨ret_bool HE.out.symm, by first | exact E0.out | exact below_drewN E0.out _⟩
  · have HE := Lib.hid (smB_no1 (l := l) (m := m) hN)
    have N0 : (N != M) = true := by simpa using hN
    clear hN
    go_enter Try.func13, Try.ntmps13
    go_wp2_with fail
    rw [← hw0]
    clear hw0
    obtain ⟨b0, b1, b2, b3⟩ := bx.facts
    obtain ⟨c0, c1, c2, c3⟩ := by'.facts
    go_wp2_with fail
    try (go_quiet (fail); go_wp2_with fail)
    go_ret
    exact ⟨ret_bool HE.out.symm, by first | exact E0.out | exact below_drewN E0.out _⟩
end Go.Proofs.Ytgdcclldgfcilaa

namespace Go.Proofs.Ytgdcclldgfcilaa
open Go.RowKit

set_option maxHeartbeats 400000 in
theorem an_bad (N : Int) (l : List Int) (ao : Option Addr) (cap : Nat) (dao : Option Addr) (dl dc : Nat) (w : World) (hA : Arg w ao l) (hc : chkE N l = 2) :
    Calls Try.prog 10 #[.agg #[.int .i64 N, .slice ao l.length cap], .slice dao dl dc] w (ZRes w 0 [] 2) := by
  have CK := Lib.hid fun W (h : Below w.heap.size w W) => check_as (cap := cap) W (hA.on h) hc
  generalize l.length = len at *
  obtain ⟨w0, hw0⟩ : ∃ w0, w0 = (w.alloc (.cells #[.int .i64 N, .slice ao len cap] 24)).alloc (.cells #[.int .i64 0, .slice none 0 0] 24) := ⟨_, rfl⟩
  have bx : Two w0 w.heap.size (.int .i64 N) (.slice ao len cap) := by rw [hw0]; exact (Two.made _ _ _ _).alloc _
  have rs : Two w0 (w.heap.size + 1) (.int .i64 0) (.slice none 0 0) := by
    rw [hw0]
    have := Two.made (w.alloc (.cells #[.int .i64 N, .slice ao len cap] 24)) (.int .i64 0) (.slice none 0 0) 24
    simpa using this
  have e0 : Below w.heap.size w w0 := by rw [hw0]; exact past_two (Below.refl _ _)
  have E0 := Lib.hid e0
  clear e0 hA hc
  go_enter Try.func10, Try.ntmps10
  go_wp2_with fail
  rw [← hw0]
  clear hw0
  obtain ⟨b0, b1, b2, b3⟩ := bx.facts
  go_wp2_with fail
  refine (CK.out _ E0.out).mono ?_
  rintro e w1 ⟨rfl, hb1⟩
  clear b0 b1 b2 b3
  replace rs := rs.kept hb1
  replace E0 := Lib.hid (below_on E0.out hb1)
  clear hb1 bx
  obtain ⟨b0, b1, b2, b3⟩ := rs.facts
  go_wp2_with fail
  refine bodyPost_ret (v := .tuple #[.agg #[.int .i64 0, .slice none 0 0], .int .i64 2]) (by simp [results, Try.results10, go_sem, b0, b1]) rfl (zres_bad ?_)
  exact (E0.out.setCell (by show w.heap.size ≤ w.heap.size + 1; omega) _).setCell (by show w.heap.size ≤ w.heap.size + 1; omega) _

/-- A list of constraints that came in. -/
def Arg3 (w : World) (dao : Option Addr) (cs : List Con) : Prop := cs ≠ [] → ∃ d, dao = some d ∧ Rd3 w d cs

theorem Arg3.on {w w' : World} {ao : Option Addr} {l : List Con} (h : Arg3 w ao l) (hb : Below w.heap.size w w') : Arg3 w' ao l := fun hl => by
  obtain ⟨a, h1, h2⟩ := h hl
  exact ⟨a, h1, h2.on hb⟩

def anG (N : Int) (cs : List Con) (l : List Int) : Int := if chkE N l = 0 then anE N.toNat cs l else 2

theorem an_gen (N : Int) (l : List Int) (ao : Option Addr) (cap : Nat) (cs : List Con) (dao : Option Addr) (dc : Nat) (w : World) (hA : Arg w ao l) (hD : Arg3 w dao cs) (hdl : cs.length ≤ 1000) :
    Calls Try.prog 10 #[.agg #[.int .i64 N, .slice ao l.length cap], .slice dao cs.length dc] w (ZRes w N (Zo.clo N.toNat (anL N.toNat cs l)) (anG N cs l)) := by
  by_cases hc : chkE N l = 0
  · obtain ⟨n, rfl, hn, hl, hne⟩ := chk_ok hc
    obtain ⟨a, rfl, hR⟩ := hA hne
    rw [show anG (n : Int) cs l = anE n cs l by unfold anG; rw [if_pos hc]; rfl]
    by_cases he : cs = []
    · exact an_any n l a cap cs dao a dc w hn hl hR hc (by rw [he]; intro j hj; simp at hj) hdl (fun h => absurd he h)
    · obtain ⟨d, rfl, hd⟩ := hD he
      exact an_any n l a cap cs (some d) d dc w hn hl hR hc hd hdl (fun _ => rfl)
  · exact (an_bad N l ao cap dao cs.length dc w hA (chk_two hc)).mono fun e w' h => h.bad (by unfold anG; rw [if_neg hc])

def isC (i j c : Int) : List Con := [(i, j, 2 * c + 1), (j, i, -2 * c + 1)]

def cnB (c : Int) : Bool := decide (0 ≤ c ∧ c ≤ 1048576)
end Go.Proofs.Ytgdcclldgfcilaa

namespace Go.Proofs.Ytgdcclldgfcilaa
open Go.RowKit

theorem ZRes.ok {w : World} {N : Int} {l : List Int} {er : Int} {e : Ending} {w' : World} (h : ZRes w N l er e w') (he : er = 0) : ∃ g c, e = .returned (.tuple #[.agg #[.int .i64 N, .slice (some ⟨g, 0, none⟩) l.length c], .int .i64 0]) ∧ w.heap.size ≤ g ∧ Own w' g c l ∧ Below w.heap.size w w' := by
  rcases h.2 with ⟨_, g, c, h1, h2, h3⟩ | ⟨h1, _⟩
  · exact ⟨g, c, h1, h2, h3, h.1⟩
  · exact absurd he h1

theorem ZRes.no {w : World} {N : Int} {l : List Int} {er : Int} {e : Ending} {w' : World} (h : ZRes w N l er e w') (he : er ≠ 0) : e = .returned (.tuple #[.agg #[.int .i64 0, .slice none 0 0], .int .i64 er]) ∧ Below w.heap.size w w' := by
  rcases h.2 with ⟨h1, _⟩ | ⟨_, h1⟩
  · exact absurd h1 he
  · exact ⟨h1, h.1⟩

theorem Own.arg {w : World} {g c : Nat} {l : List Int} (h : Own w g c l) : Arg w (some ⟨g, 0, none⟩) l := fun _ => ⟨_, rfl, h.rd⟩

/-- What Reset returns: Free, then And. -/
def reM (n i : Nat) (l : List Int) : List Int := Zo.clo n (frL n i l)

def reL (n i : Nat) (c : Int) (l : List Int) : List Int := Zo.clo n (anL n (isC i 0 c) (reM n i l))

def reE (n i : Nat) (c : Int) (l : List Int) : Int := if cloE n (frL n i l) = 0 then anG n (isC i 0 c) (reM n i l) else cloE n (frL n i l)

theorem own_below {w w' : World} {g c : Nat} {l : List Int} (h : Own w g c l) (hb : Below w.heap.size w w') : Own w' g c l :=
  h.kept (row := none) ⟨hb.os, hb.tape, hb.output, hb.size, fun k hk _ => hb.block k hk⟩ (by simp)
end Go.Proofs.Ytgdcclldgfcilaa

namespace Go.Proofs.Ytgdcclldgfcilaa
open Go.RowKit

def wdF (low high : List Int) : Nat → Nat → Int → Int := fun i j x => wdn x i j low high

def wdM (n : Nat) (low high l : List Int) : List Int := Zo.elL n (wdF low high) l

def wdE (N : Int) (low high l : List Int) : Int := if (decide (chkE N l = 0) && ksB N low && ksB N high) = true then closeE N (wdM N.toNat low high l) else 2

theorem wdM_len (n : Nat) (low high l : List Int) : (wdM n low high l).length = l.length := Zo.elL_len _ _ _

theorem wdn_i64 {n : Nat} {x : Int} {i j : Nat} {low high : List Int} (hx : I64 x) (hh : Kn n high) (hj : j ≤ n) : I64 (wdn x i j low high) := by
  unfold wdn
  have t1 : I64 1099511627776 := i64lit _ (by omega) (by omega)
  split
  · exact t1
  split
  · exact t1
  split
  · split
    · exact i64lit _ (by omega) (by omega)
    · exact t1
  split
  · rename_i h
    have := hh.2 (j - 1) (by omega)
    exact i64lit _ (by omega) (by omega)
  · exact hx

theorem chk_a6 {n : Nat} {l : List Int} (h : chkE (n : Int) l = 0) (_ : l.length = (n + 1) * (n + 1)) : A6 l := fun k hk => by
  exact (chk_64 h).1 k
end Go.Proofs.Ytgdcclldgfcilaa

namespace Go.Proofs.Ytgdcclldgfcilaa
open Go.RowKit

theorem Try.info2 : (Try.prog.info? 2).map (fun i => (i.zero, i.size, i.bytes)) = some (some (.int .i64 0), 1, 8) := by kernel_rfl

def iV (l : List Int) : List Value := l.map (Value.int .i64)

theorem iV_len (l : List Int) : (iV l).length = l.length * 1 := by simp [iV]

theorem iV_one (l : List Int) : ∀ u ∈ iV l, u.oneCell' = true := by simp [iV, Value.oneCell']

theorem iV_appd (a b : List Int) : iV (a ++ b) = iV a ++ iV b := by simp [iV]

theorem iV_cells {w : World} {a : Addr} {cs : List Int} (h : Rd w a cs) : ∀ j u, (iV cs)[j]? = some u → w.cell? (a.add j) = some u := h.map

/-- A list of int64 of the call's own. -/
def OwnI (w : World) (B : Nat) (v : Value) (l : List Int) : Prop := w.ownsRow B 2 1 v l.length (iV l)

def icS (k : Nat) : Nat → Nat
  | 0 => 0
  | 1 => 1
  | _ => 1 + k

def icP (q : Int) (ps : List Int) : Nat → List Int
  | 0 => []
  | 1 => [q]
  | _ => q :: ps

set_option maxRecDepth 100000 in
set_option maxHeartbeats 4000000 in
theorem igrow_any (m : Nat) (w : World) (h0 : 0 < m) (h1 : m ≤ 1000) :
    Calls Try.prog 62 #[.slice none 0 0, .int .i64 m] w (fun e w' => Below w.heap.size w w' ∧ ∃ v, e = .returned v ∧ OwnI w' w.heap.size v []) := by
  obtain ⟨i0, hi, hz0, hz1, hz2⟩ := info_parts Try.info2
  have D : decide ((m : Int) < 0) = false := by simp
  have D2 : decide ((0 : Int) < (m : Int)) = true := by simp; omega
  have RUN := Lib.hid (Lib.run_append_nil_zeros (P := Try.prog) w 25 3 25 2 i0 (.int .i64 0) .i64 .i64 Try.underlying25 Try.underlying3 hi hz0 m h0 (by omega) (by omega) (by rw [hz2]; omega))
  have G1 := grownCap_ge w m 0 2
  have G2 := grownCap_le_maxLen w m 0 2 (by unfold maxLen; omega)
  generalize grownCap w m 0 2 = c at *
  obtain ⟨w5, hw5⟩ : ∃ w5, w5 = w.drew.alloc (.cells (Builtin.zeroCells (Value.int .i64 0).cells m ++ Builtin.zeroCells (Value.int .i64 0).cells (c - m)) 2) := ⟨_, rfl⟩
  rw [← hw5] at RUN
  have B5 := Lib.hid (show Below w.heap.size w w5 by rw [hw5]; exact (Below.refl _ _).drew.alloc (Nat.le_refl _) _)
  have O5 := Lib.hid (show OwnI w5 w.heap.size (.slice (some ⟨w.heap.size, 0, none⟩) 0 c) [] by
    refine ⟨rfl, .inr ⟨w.heap.size, c, _, rfl, Nat.le_refl _, by rw [hw5]; exact heap_alloc_new w.drew _, Nat.zero_le _, G2, ?_, rfl⟩⟩
    simp only [Array.size_append, size_zeroCells]
    show m * 1 + (c - m) * 1 = c * 1
    omega)
  have hc0 : (c = 0) = False := by simp; omega
  clear hw5
  go_enter Try.func62, Try.ntmps62
  go_wp2_with (at_builtin; refine Lib.wpList_append_run _ rfl _ _ _ _ rfl _ _ rfl rfl _ _ RUN.out ?_)
  go_ret
  exact ⟨B5.out, _, rfl, O5.out⟩

set_option maxRecDepth 100000 in
set_option maxHeartbeats 4000000 in
theorem iconcat_some (h b : Nat) (q : Int) (ps : List Int) (a : Addr) (cap : Nat) (w : World) (h0 : w.cell? ⟨h, 0, none⟩ = some (.slice (some ⟨b, 0, none⟩) 1 1)) (h1 : w.cell? ⟨h, 1, none⟩ = some (.slice (some a) ps.length cap))
    (hq : Rd w ⟨b, 0, none⟩ [q]) (hp : Arg w (some a) ps) (hl : ps.length ≤ 200) :
    Calls Try.prog 53 #[.slice (some ⟨h, 0, none⟩) 2 2] w (fun e w' => Below w.heap.size w w' ∧ ∃ v, e = .returned v ∧ OwnI w' w.heap.size v (q :: ps)) := by
  obtain ⟨i0, hi, hz0, hz1, hz2⟩ := info_parts Try.info2
  have GR := Lib.hid (igrow_any (1 + ps.length) w (by omega) (by omega))
  have CL := Lib.hid (show ∀ W, Below w.heap.size w W → W.cell? ⟨h, 0, none⟩ = some (.slice (some ⟨b, 0, none⟩) 1 1) ∧ W.cell? ⟨h, 1, none⟩ = some (.slice (some a) ps.length cap) from fun W hb => ⟨kept hb h0, kept hb h1⟩)
  have C0 := Lib.hid (show ∀ W, Below w.heap.size w W → ∀ j u, (iV [q])[j]? = some u → W.cell? ((⟨b, 0, none⟩ : Addr).add j) = some u from fun W hb => iV_cells (hq.on hb))
  have hlen := Lib.hid (iV_len [q])
  have C1 := Lib.hid (show ∀ W, Below w.heap.size w W → ∀ j u, (iV ps)[j]? = some u → W.cell? (a.add j) = some u from fun W hb => by
    by_cases c : ps = []
    · subst c; intro j u q; simp [iV] at q
    · obtain ⟨a', e', hr⟩ := hp c
      injection e' with e'
      subst e'
      exact iV_cells (hr.on hb))
  have L1 := Lib.hid (show (iV ps).length = ps.length * 1 from iV_len ps)
  generalize hk : ps.length = k at *
  clear hq hp
  go_enter Try.func53, Try.ntmps53
  go_wp2_with fail
  go_loopw [11, 3] (fun s t wr => ∃ j : Nat, j ≤ 2 ∧ s = .int .i64 j ∧ t = .int .i64 (icS k j) ∧ wr = w) (fun s _ _ => 2 - (intOf s).toNat)
  case atStart => exact ⟨0, by omega, rfl, rfl, rfl⟩
  case round =>
    obtain ⟨j, hj, rfl, rfl, hw⟩ := hrel
    rw [hw]
    clear hw
    obtain ⟨b0, b1⟩ := CL.out w (Below.refl _ _)
    have hjj : j = 0 ∨ j = 1 ∨ j = 2 := by omega
    clear hj
    rcases hjj with rfl | rfl | rfl
    · simp only [icS]
      go_wp2_with fail
      go_roundw
      case rel => exact ⟨1, by omega, by go_num, by go_num, trivial⟩
      case measure => simp [intOf]
    · simp only [icS]
      go_wp2_with fail
      go_roundw
      case rel => exact ⟨2, by omega, by go_num, by go_num, trivial⟩
      case measure => simp [intOf]
    · simp only [icS]
      clear b0 b1
      go_wp2_with fail
      refine GR.out.mono ?_
      rintro e w1 ⟨hb1, v1, rfl, hv1⟩
      have B1 := Lib.hid hb1
      have O1 := Lib.hid hv1
      clear hb1 hv1
      go_wp2_with fail
      go_loopw [27, 6] (fun s v wr => ∃ j : Nat, j ≤ 2 ∧ s = .int .i64 j ∧ Hid (OwnI wr w.heap.size v (icP q ps j) ∧ Below w.heap.size w wr)) (fun s _ _ => 2 - (intOf s).toNat)
      case atStart => exact ⟨0, by omega, rfl, Lib.hid ⟨O1.out, B1.out⟩⟩
      case round =>
        obtain ⟨j, hj, rfl, HX⟩ := hrel
        have hjj : j = 0 ∨ j = 1 ∨ j = 2 := by omega
        clear hj
        rcases hjj with rfl | rfl | rfl
        · obtain ⟨b0, b1⟩ := CL.out _ HX.out.2
          have hown := HX.out.1
          unfold OwnI at hown
          simp only [icP, List.length_nil] at hown
          go_wp2_with (at_builtin; refine wpList_append_own _ rfl _ _ 25 rfl w.heap.size 2 i0 (.int .i64 0) 1 8 Try.underlying25 hi hz0 hz1 hz2 rfl (by decide) _ _ _ rfl hown ⟨b, 0, none⟩ 1 1 (iV [q]) rfl hlen.out (C0.out _ HX.out.2) (iV_one _) (by unfold maxLen; omega) (by omega) HX.out.2.size ?_)
          intro v' w9 hown9 hgrow _
          have B9 := Lib.hid (show Below w.heap.size w w9 from Below.grown HX.out.2 hgrow HX.out.2.size (fun k hk => (World.ownsRow.lt hown k hk).1))
          have O9 := Lib.hid (show OwnI w9 w.heap.size v' (icP q ps 1) from hown9)
          clear hown9 hgrow hown b0 b1
          go_wp2_with fail
          go_roundw
          case rel => exact ⟨1, by omega, by go_num, Lib.hid ⟨O9.out, B9.out⟩⟩
          case measure => simp [intOf]
        · obtain ⟨b0, b1⟩ := CL.out _ HX.out.2
          have hown := HX.out.1
          unfold OwnI at hown
          simp only [icP, List.length_nil, List.length_cons] at hown
          go_wp2_with (at_builtin; refine wpList_append_own _ rfl _ _ 25 rfl w.heap.size 2 i0 (.int .i64 0) 1 8 Try.underlying25 hi hz0 hz1 hz2 rfl (by decide) _ _ _ rfl hown a k cap (iV ps) rfl L1.out (C1.out _ HX.out.2) (iV_one _) (by unfold maxLen; omega) (by omega) HX.out.2.size ?_)
          intro v' w9 hown9 hgrow _
          have B9 := Lib.hid (show Below w.heap.size w w9 from Below.grown HX.out.2 hgrow HX.out.2.size (fun k hk => (World.ownsRow.lt hown k hk).1))
          have O9 := Lib.hid (show OwnI w9 w.heap.size v' (icP q ps 2) by
            unfold OwnI
            simp only [icP]
            rw [show q :: ps = [q] ++ ps from rfl, iV_appd, List.length_append, hk]
            exact hown9)
          clear hown9 hgrow hown b0 b1
          go_wp2_with fail
          go_roundw
          case rel => exact ⟨2, by omega, by go_num, Lib.hid ⟨O9.out, B9.out⟩⟩
          case measure => simp [intOf]
        · go_wp2_with fail
          go_ret
          exact ⟨HX.out.2, _, rfl, HX.out.1⟩

set_option maxRecDepth 100000 in
set_option maxHeartbeats 4000000 in
theorem iconcat_nil (h b : Nat) (q : Int) (w : World) (h0 : w.cell? ⟨h, 0, none⟩ = some (.slice (some ⟨b, 0, none⟩) 1 1)) (h1 : w.cell? ⟨h, 1, none⟩ = some (.slice none 0 0))
    (hq : Rd w ⟨b, 0, none⟩ [q]) :
    Calls Try.prog 53 #[.slice (some ⟨h, 0, none⟩) 2 2] w (fun e w' => Below w.heap.size w w' ∧ ∃ v, e = .returned v ∧ OwnI w' w.heap.size v (q :: [])) := by
  obtain ⟨i0, hi, hz0, hz1, hz2⟩ := info_parts Try.info2
  have GR := Lib.hid (igrow_any 1 w (by omega) (by omega))
  have CL := Lib.hid (show ∀ W, Below w.heap.size w W → W.cell? ⟨h, 0, none⟩ = some (.slice (some ⟨b, 0, none⟩) 1 1) ∧ W.cell? ⟨h, 1, none⟩ = some (.slice none 0 0) from fun W hb => ⟨kept hb h0, kept hb h1⟩)
  have C0 := Lib.hid (show ∀ W, Below w.heap.size w W → ∀ j u, (iV [q])[j]? = some u → W.cell? ((⟨b, 0, none⟩ : Addr).add j) = some u from fun W hb => iV_cells (hq.on hb))
  have hlen := Lib.hid (iV_len [q])
  clear hq
  go_enter Try.func53, Try.ntmps53
  go_wp2_with fail
  go_loopw [11, 3] (fun s t wr => ∃ j : Nat, j ≤ 2 ∧ s = .int .i64 j ∧ t = .int .i64 (icS 0 j) ∧ wr = w) (fun s _ _ => 2 - (intOf s).toNat)
  case atStart => exact ⟨0, by omega, rfl, rfl, rfl⟩
  case round =>
    obtain ⟨j, hj, rfl, rfl, hw⟩ := hrel
    rw [hw]
    clear hw
    obtain ⟨b0, b1⟩ := CL.out w (Below.refl _ _)
    have hjj : j = 0 ∨ j = 1 ∨ j = 2 := by omega
    clear hj
    rcases hjj with rfl | rfl | rfl
    · simp only [icS]
      go_wp2_with fail
      go_roundw
      case rel => exact ⟨1, by omega, by go_num, by go_num, trivial⟩
      case measure => simp [intOf]
    · simp only [icS]
      go_wp2_with fail
      go_roundw
      case rel => exact ⟨2, by omega, by go_num, by go_num, trivial⟩
      case measure => simp [intOf]
    · simp only [icS]
      clear b0 b1
      go_wp2_with fail
      refine GR.out.mono ?_
      rintro e w1 ⟨hb1, v1, rfl, hv1⟩
      have B1 := Lib.hid hb1
      have O1 := Lib.hid hv1
      clear hb1 hv1
      go_wp2_with fail
      go_loopw [27, 6] (fun s v wr => ∃ j : Nat, j ≤ 2 ∧ s = .int .i64 j ∧ Hid (OwnI wr w.heap.size v (icP q [] j) ∧ Below w.heap.size w wr)) (fun s _ _ => 2 - (intOf s).toNat)
      case atStart => exact ⟨0, by omega, rfl, Lib.hid ⟨O1.out, B1.out⟩⟩
      case round =>
        obtain ⟨j, hj, rfl, HX⟩ := hrel
        have hjj : j = 0 ∨ j = 1 ∨ j = 2 := by omega
        clear hj
        rcases hjj with rfl | rfl | rfl
        · obtain ⟨b0, b1⟩ := CL.out _ HX.out.2
          have hown := HX.out.1
          unfold OwnI at hown
          simp only [icP, List.length_nil] at hown
          go_wp2_with (at_builtin; refine wpList_append_own _ rfl _ _ 25 rfl w.heap.size 2 i0 (.int .i64 0) 1 8 Try.underlying25 hi hz0 hz1 hz2 rfl (by decide) _ _ _ rfl hown ⟨b, 0, none⟩ 1 1 (iV [q]) rfl hlen.out (C0.out _ HX.out.2) (iV_one _) (by unfold maxLen; omega) (by omega) HX.out.2.size ?_)
          intro v' w9 hown9 hgrow _
          have B9 := Lib.hid (show Below w.heap.size w w9 from Below.grown HX.out.2 hgrow HX.out.2.size (fun k hk => (World.ownsRow.lt hown k hk).1))
          have O9 := Lib.hid (show OwnI w9 w.heap.size v' (icP q [] 1) from hown9)
          clear hown9 hgrow hown b0 b1
          go_wp2_with fail
          go_roundw
          case rel => exact ⟨1, by omega, by go_num, Lib.hid ⟨O9.out, B9.out⟩⟩
          case measure => simp [intOf]
        · obtain ⟨b0, b1⟩ := CL.out _ HX.out.2
          have hown := HX.out.1
          unfold OwnI at hown
          simp only [icP, List.length_nil, List.length_cons] at hown
          have HRUN := Lib.hid (run_append_owned_none (P := Try.prog) _ w.heap.size 25 25 2 i0 1 Try.underlying25 hi _ _ _ hown)
          go_wp2_with (at_builtin; (refine Lib.wpList_append_run _ rfl _ _ _ _ rfl _ _ rfl rfl _ _ HRUN.out ?_))
          have O9 := Lib.hid (show OwnI _ w.heap.size _ (icP q [] 2) from hown)
          clear hown b0 b1
          go_wp2_with fail
          go_roundw
          case rel => exact ⟨2, by omega, by go_num, Lib.hid ⟨O9.out, HX.out.2⟩⟩
          case measure => simp [intOf]
        · go_wp2_with fail
          go_ret
          exact ⟨HX.out.2, _, rfl, HX.out.1⟩

theorem OwnI.arg {w : World} {B : Nat} {v : Value} {l : List Int} (h : OwnI w B v l) (h0 : 0 < l.length) : ∃ g c, v = .slice (some ⟨g, 0, none⟩) l.length c ∧ B ≤ g ∧ Rd w ⟨g, 0, none⟩ l := by
  obtain ⟨g, c, rfl⟩ := Joins.ownsRow_form h (by simpa using h0)
  refine ⟨g, c, rfl, (World.ownsRow.lt h g rfl).1, fun j hj => ?_⟩
  have := World.ownsRow.cellAt h j (by simpa using hj)
  rw [addr_add]
  simpa [iV, Zo.gt, hj] using this

set_option maxRecDepth 100000 in
set_option maxHeartbeats 1000000 in
theorem allof_any (l : List Int) (ao : Option Addr) (cap : Nat) (w : World) (hA : Arg w ao l) (hn : ao = none → l = [] ∧ cap = 0) (hl : l.length ≤ 200) :
    Calls Try.prog 33 #[.slice ao l.length cap] w (fun e w' => Below w.heap.size w w' ∧ ∃ g c, e = .returned (.slice (some ⟨g, 0, none⟩) (l.length + 1) c) ∧ w.heap.size ≤ g ∧ Rd w' ⟨g, 0, none⟩ (0 :: l)) := by
  obtain ⟨w2, hw2⟩ : ∃ w2, w2 = (w.alloc (.cells #[.int .i64 0] 2)).alloc (.cells #[.slice (some ⟨w.heap.size, 0, none⟩) 1 1, .slice ao l.length cap] 25) := ⟨_, rfl⟩
  have B2 : Below w.heap.size w w2 := by rw [hw2]; exact past_two (Below.refl _ _)
  have z2 : w2.heap.size = w.heap.size + 2 := by rw [hw2]; simp
  have f0 : w2.cell? ⟨w.heap.size + 1, 0, none⟩ = some (.slice (some ⟨w.heap.size, 0, none⟩) 1 1) := by rw [hw2]; go_simp
  have f1 : w2.cell? ⟨w.heap.size + 1, 1, none⟩ = some (.slice ao l.length cap) := by rw [hw2]; go_simp
  have f2 : w2.cell? ⟨w.heap.size, 0, none⟩ = some (.int .i64 0) := by rw [hw2]; go_simp
  have hq : Rd w2 ⟨w.heap.size, 0, none⟩ [0] := fun j hj => by
    have : j = 0 := by simp at hj; omega
    subst this
    rw [addr_add]; exact f2
  have CC := Lib.hid (show Calls Try.prog 53 #[.slice (some ⟨w.heap.size + 1, 0, none⟩) 2 2] w2 (fun e w' => Below w.heap.size w w' ∧ ∃ g c, e = .returned (.slice (some ⟨g, 0, none⟩) (l.length + 1) c) ∧ w.heap.size ≤ g ∧ Rd w' ⟨g, 0, none⟩ (0 :: l)) by
    have done : ∀ (e : Ending) (w' : World), (Below w2.heap.size w2 w' ∧ ∃ v, e = .returned v ∧ OwnI w' w2.heap.size v (0 :: l)) → (Below w.heap.size w w' ∧ ∃ g c, e = .returned (.slice (some ⟨g, 0, none⟩) (l.length + 1) c) ∧ w.heap.size ≤ g ∧ Rd w' ⟨g, 0, none⟩ (0 :: l)) := by
      rintro e w' ⟨hb, v, rfl, hv⟩
      obtain ⟨g, c, rfl, hg, hr⟩ := hv.arg (by simp)
      exact ⟨below_on B2 hb, g, c, rfl, by omega, hr⟩
    cases ao with
    | none =>
      obtain ⟨rfl, rfl⟩ := hn rfl
      exact (iconcat_nil (w.heap.size + 1) w.heap.size 0 w2 f0 f1 hq).mono done
    | some d => exact (iconcat_some (w.heap.size + 1) w.heap.size 0 l d cap w2 f0 f1 hq (hA.on B2) hl).mono done)
  generalize l.length = len at *
  clear f0 f1 f2 hq B2 z2 hA hn hl
  go_enter Try.func33, Try.ntmps33
  go_wp2_with fail
  rw [← hw2]
  clear hw2
  refine CC.out.mono ?_
  rintro e w3 ⟨hb, g, c, rfl, hg, hr⟩
  have HB := Lib.hid hb
  have HR := Lib.hid hr
  clear hb hr
  go_wp2_with fail
  go_ret
  exact ⟨HB.out, g, c, rfl, hg, HR.out⟩
end Go.Proofs.Ytgdcclldgfcilaa

namespace Go.Proofs.Ytgdcclldgfcilaa
open Go.RowKit

theorem rd_close (N : Int) (l : List Int) : closeE N l = if rdB N l then cloE N.toNat l else 2 := rfl

set_option maxRecDepth 100000 in
set_option maxHeartbeats 4000000 in
theorem zclose_gen (N : Int) (l : List Int) (ao : Option Addr) (cap : Nat) (w : World) (hA : Arg w ao l) :
    Calls Try.prog 30 #[.int .i64 N, .slice ao l.length cap] w (ZRes w N (Zo.clo N.toNat l) (closeE N l)) := by
  have hz := mx_zero
  have sz := rdW_size N l
  have s1 := rdW_one N l
  have CR := Lib.hid (show ∀ W, Below w.heap.size w W → _ from fun W h => read_gen N l ao cap W (hA.on h))
  have HM := Lib.hid (show rdB N l = true → ∃ n : Nat, N = n ∧ ∀ (b : Nat) (W : World), Var W b (rdW N l) → Calls Try.prog 44 #[.pointer (some ⟨b, 0, none⟩)] W (GRes b W N (Zo.clo N.toNat l) (closeE N l)) from fun hr => by
    obtain ⟨n, rfl, hn, hl, hv⟩ := rdB_ok hr
    refine ⟨n, rfl, fun b W hV => ?_⟩
    have := mzone_any b n l W hn ⟨by have := hV.1; unfold rdW at this; rw [hr] at this; exact this, hl⟩ (a64_of hv)
    rw [rd_close, hr]
    exact this)
  have HE := Lib.hid (show rdB N l = false → closeE N l = 2 from fun h => by rw [rd_close, h]; rfl)
  generalize rdW N l = A at *
  generalize Zo.clo N.toNat l = r at *
  generalize closeE N l = er at *
  generalize rdB N l = ok at *
  generalize l.length = len at *
  obtain ⟨w0, hw0⟩ : ∃ w0, w0 = w.alloc (.cells #[.int .i64 0, .slice none 0 0] 24) := ⟨_, rfl⟩
  have rs : Two w0 w.heap.size (.int .i64 0) (.slice none 0 0) := by rw [hw0]; exact Two.made _ _ _ _
  have E0 := Lib.hid (show Below w.heap.size w w0 by rw [hw0]; exact one_more _)
  clear hA
  go_enter Try.func30, Try.ntmps30
  go_wp2_with fail
  rw [← hw0]
  clear hw0
  refine (CR.out _ E0.out).mono ?_
  rintro e w1 ⟨rfl, hb⟩
  have rs1 := rs.kept hb
  have HB := Lib.hid (below_on E0.out hb)
  have hlt := rs1.lt
  have hsz := HB.out.size
  obtain ⟨w2, hw2⟩ : ∃ w2, w2 = (w1.alloc (.cells (mcs 0 []) 82)).setRow w1.heap.size A := ⟨_, rfl⟩
  have rs3 : Two w2 w.heap.size (.int .i64 0) (.slice none 0 0) := by rw [hw2]; exact (rs1.alloc _).kept_row (by omega) _
  have V2 : Var w2 w1.heap.size A := by rw [hw2]; exact (Var.made w1).put A sz
  have h2s : w2.heap.size = w1.heap.size + 1 := by rw [hw2]; simp
  have HRS := Lib.hid rs3
  have HV := Lib.hid V2
  have HBE := Lib.hid (show Below w.heap.size w w2 by rw [hw2]; exact Below.setRow (HB.out.alloc hsz _) hsz _)
  clear rs rs1 rs3 V2 hb
  cases ok
  · obtain rfl := HE.out rfl
    obtain ⟨q0, q1, q2, q3⟩ := HRS.out.facts
    rw [hw2] at q0 q1 q2 q3
    rw [hw2] at HBE
    go_wp2_with (refine wpl_store rfl _ _ rfl _ _ rfl rfl _ (Var.made _) sz s1 ?_)
    refine bodyPost_ret (v := .tuple #[.agg #[.int .i64 0, .slice none 0 0], .int .i64 2]) (by simp [results, Try.results30, go_sem, q0, q1]) rfl ⟨(HBE.out.setCell (by show w.heap.size ≤ w.heap.size; omega) _).setCell (by show w.heap.size ≤ w.heap.size; omega) _, Or.inr ⟨by decide, rfl⟩⟩
  · obtain ⟨n, rfl, hmz⟩ := HM.out rfl
    have HMZ := Lib.hid hmz
    clear hmz
    go_wp2_with (refine wpl_store rfl _ _ rfl _ _ rfl rfl _ (Var.made _) sz s1 ?_)
    rw [← hw2]
    clear hw2
    refine (HMZ.out _ _ HV.out).mono ?_
    intro e w4 hG
    obtain ⟨hg4, hres⟩ := hG
    have E4 := Lib.hid (grown_over HBE.out hg4 hsz)
    obtain ⟨q0, q1, q2, q3⟩ := (HRS.out.grown hg4 (by omega)).facts
    rcases hres with ⟨he, g, c, rfl, hgl, hO⟩ | ⟨he, rfl⟩
    · have HO := Lib.hid hO
      subst he
      clear hO hg4
      go_wp2_with fail
      refine bodyPost_ret (v := .tuple #[.agg #[.int .i64 n, .slice (some ⟨g, 0, none⟩) r.length c], .int .i64 0]) (by simp [results, Try.results30, go_sem, q0, q1]) rfl ⟨?_, Or.inl ⟨rfl, g, c, rfl, by omega, put_far HO.out (by omega) _ _⟩⟩
      exact (E4.out.setCell (by show w.heap.size ≤ w.heap.size; omega) _).setCell (by show w.heap.size ≤ w.heap.size; omega) _
    · have HEE := Lib.hid he
      clear hg4 he
      go_wp2_with fail
      refine bodyPost_ret (v := .tuple #[.agg #[.int .i64 0, .slice none 0 0], .int .i64 er]) (by simp [results, Try.results30, go_sem, q0, q1]) rfl ⟨?_, Or.inr ⟨HEE.out, rfl⟩⟩
      exact (E4.out.setCell (by show w.heap.size ≤ w.heap.size; omega) _).setCell (by show w.heap.size ≤ w.heap.size; omega) _
end Go.Proofs.Ytgdcclldgfcilaa

namespace Go.Proofs.Ytgdcclldgfcilaa
open Go.RowKit

theorem rlL_at {n i : Nat} {l : List Int} (hl : l.length = (n + 1) * (n + 1)) (hi : i ≤ n) {a b : Nat} (ha : a ≤ n) (hb : b ≤ n) : Zo.At n (rlL n i l) a b = if a = i ∨ b = i then 1099511627776 else Zo.At n l a b := by
  have := (Zo.fold_at (N := n + 1) (f := rlS n i) (p := fun t a b => decide ((a = t ∧ b = i) ∨ (a = i ∧ b = t))) (v := 1099511627776) (fun x t ht hx => ⟨by simpa [rlS] using hx, fun a b _ hb => by
    unfold rlS
    rw [Zo.At_set (by simpa using hx) (by omega) hi _ hb, Zo.At_set hx hi (by omega) _ hb]
    by_cases c1 : a = t ∧ b = i
    · simp [c1]
    · by_cases c2 : a = i ∧ b = t
      · simp [c2]
      · rw [if_neg c1, if_neg c2, if_neg (by simp; omega)]⟩) hl (n + 1) (Nat.le_refl _)).2 a b ha hb
  rw [show rlL n i l = (List.range (n + 1)).foldl (rlS n i) l from rfl, this]
  by_cases c : a = i ∨ b = i
  · rw [if_pos c, if_pos]
    rw [List.any_eq_true]
    by_cases ca : a = i
    · exact ⟨b, List.mem_range.2 (by omega), by simp [ca]⟩
    · exact ⟨a, List.mem_range.2 (by omega), by simp; omega⟩
  · rw [if_neg c, if_neg]
    intro h
    rw [List.any_eq_true] at h
    obtain ⟨s, _, hs⟩ := h
    simp at hs
    omega

theorem frL_at {n i : Nat} {l : List Int} (hl : l.length = (n + 1) * (n + 1)) (hi : i ≤ n) {a b : Nat} (ha : a ≤ n) (hb : b ≤ n) : Zo.At n (frL n i l) a b = if (a = i ∨ b = i) ∧ a ≠ b then 1099511627776 else Zo.At n l a b := by
  have := (Zo.fold_at (N := n + 1) (f := frS n i) (p := fun t a b => decide (t ≠ i ∧ ((a = t ∧ b = i) ∨ (a = i ∧ b = t)))) (v := 1099511627776) (fun x t ht hx => ⟨by rw [frS_len]; exact hx, fun a b _ hb => by
    unfold frS
    by_cases ct : t = i
    · rw [if_pos ct, if_neg (by simp; omega)]
    · rw [if_neg ct, Zo.At_set (by simpa using hx) (by omega) hi _ hb, Zo.At_set hx hi (by omega) _ hb]
      by_cases c1 : a = t ∧ b = i
      · simp [c1, ct]
      · by_cases c2 : a = i ∧ b = t
        · simp [c2, ct]
        · rw [if_neg c1, if_neg c2, if_neg (by simp; omega)]⟩) hl (n + 1) (Nat.le_refl _)).2 a b ha hb
  rw [show frL n i l = (List.range (n + 1)).foldl (frS n i) l from rfl, this]
  by_cases c : (a = i ∨ b = i) ∧ a ≠ b
  · rw [if_pos c, if_pos]
    rw [List.any_eq_true]
    by_cases ca : a = i
    · exact ⟨b, List.mem_range.2 (by omega), by simp [ca]; omega⟩
    · exact ⟨a, List.mem_range.2 (by omega), by simp; omega⟩
  · rw [if_neg c, if_neg]
    intro h
    rw [List.any_eq_true] at h
    obtain ⟨s, _, hs⟩ := h
    simp at hs
    omega

theorem fr_pre {n i : Nat} {l : List Int} (hl : l.length = (n + 1) * (n + 1)) (hi : i ≤ n) (hc : chkE n l = 0) : Zo.pre n (rlL n i l) = Zo.pre n (frL n i l) := by
  obtain ⟨dg, _⟩ := chk_diag hc
  refine Zo.pre_eq (by rw [rlL_len, hl]) (by rw [frL_len, hl]) fun a b ha hb => ⟨fun h => ?_, fun h => ?_⟩
  · rw [rlL_at hl hi ha hb, frL_at hl hi ha hb]
    by_cases c : a = i ∨ b = i
    · rw [if_pos c, if_pos ⟨c, h.2⟩]
    · rw [if_neg c, if_neg (by omega)]
  · rw [rlL_at hl hi ha hb, frL_at hl hi ha hb]
    by_cases c : a = i ∨ b = i
    · rw [if_pos c]
      by_cases e : a = b
      · rw [if_neg (by omega)]
        subst e
        rw [dg a ha]; decide
      · rw [if_pos ⟨c, e⟩]
    · rw [if_neg c, if_neg (by omega)]

theorem rlL_64 {n i : Nat} {l : List Int} (h : Zo.A64 l) : Zo.A64 (rlL n i l) := fold_64 (fun _ _ h => Zo.gt_range _ _ _ (Zo.gt_range _ _ _ h no_in) no_in) h _

theorem ck_nat {n : Nat} {i first : Int} (h : ckB n i first = true) (h0 : 0 ≤ first) : ∃ k : Nat, i = k ∧ k ≤ n ∧ first ≤ k := by
  unfold ckB at h; simp at h; exact ⟨i.toNat, by omega, by omega, by omega⟩
end Go.Proofs.Ytgdcclldgfcilaa

namespace Go.Proofs.Ytgdcclldgfcilaa
open Go.RowKit

def okZ (N : Int) (c : Con) : Bool := ckB N c.1 0 && (ckB N c.2.1 0 && lvB c.2.2)

theorem okZ_nat (n : Nat) (c : Con) : okZ n c = okC n c := by
  unfold okZ okC ckB
  cases lvB c.2.2
  · simp
  · rw [Bool.eq_iff_iff]; simp; omega

def aokB (N : Int) (cs : List Con) : Bool := cs.all (okZ N)

/-- The number of the first wrong constraint, or -1. -/
def Idx (N : Int) (cs : List Con) (w : World) (e : Ending) (w' : World) : Prop := ∃ r : Int, e = .returned (.int .i64 r) ∧ (decide (0 ≤ r) = !aokB N cs) ∧ Below w.heap.size w w'
end Go.Proofs.Ytgdcclldgfcilaa

namespace Go.Proofs.Ytgdcclldgfcilaa
open Go.RowKit

theorem MSt.alloc {w0 w : World} {b n : Nat} {l : List Int} (h : MSt w0 b n l w) (o : Obj) : MSt w0 b n l (w.alloc o) := ⟨h.1.alloc o, grown_trans h.2 (World.grownBy_alloc w o _)⟩

/-- What lay there ahead of the call of changed is there while its matrix turns. -/
theorem MSt.old {w0 w w' : World} {b n : Nat} {x : List Int} (hb : Below w0.heap.size w0 w) (hle : w0.heap.size ≤ b) (h : MSt w b n x w') {p : Addr} {v : Value} (hp : w0.cell? p = some v) : w'.cell? p = some v := by
  have hlt := World.block_lt_of_cell? w0 _ hp
  exact h.2.cell (kept hb hp) (by simp; omega)

theorem Rd3.mst {w0 w w' : World} {b n : Nat} {x : List Int} {d : Addr} {cs : List Con} (hR : Rd3 w0 d cs) (hb : Below w0.heap.size w0 w) (hle : w0.heap.size ≤ b) (h : MSt w b n x w') : Rd3 w' d cs :=
  fun j hj => ⟨h.old hb hle (hR j hj).1, h.old hb hle (hR j hj).2.1, h.old hb hle (hR j hj).2.2⟩

theorem aok_nat {n : Nat} {cs : List Con} : aokB n cs = cs.all (okC n) := by
  unfold aokB; congr 1; funext c; exact okZ_nat n c

theorem anL_64 {n : Nat} {cs : List Con} {l : List Int} (h : Zo.A64 l) (hok : cs.all (okC n) = true) : Zo.A64 (anL n cs l) := by
  unfold anL
  refine Zo.fold_keeps (R := Zo.A64) cs.length (fun x t ht hx => ?_) l h _ (Nat.le_refl _)
  unfold anS imin
  refine hx.min_ _ _ _ _ ?_ _
  rw [List.all_eq_true] at hok
  have := hok _ (List.getElem_mem ht)
  rw [show cs[t] = gc cs t by simp [gc, ht]] at this
  unfold okC at this
  simp only [Bool.and_eq_true] at this
  have := vl_of_lv this.2
  unfold Zo.Vl at this
  omega
end Go.Proofs.Ytgdcclldgfcilaa

namespace Go.Proofs.Ytgdcclldgfcilaa.Zo

theorem le_dec {a b : Int} (ha : a ≤ 1099511627776) (hb : b ≤ 1099511627776) : le (dec a) (dec b) ↔ a ≤ b := by
  unfold dec
  by_cases h1 : a = 1099511627776
  · by_cases h2 : b = 1099511627776
    · simp [h1, h2, le]
    · rw [if_pos h1, if_neg h2]; simp [le]; omega
  · by_cases h2 : b = 1099511627776
    · rw [if_neg h1, if_pos h2]; simp [le]; omega
    · rw [if_neg h1, if_neg h2]; simp [le]

/-- A closed matrix: it keeps to the inequality of triangles, and its diagonal is 'at most 0'. -/
structure Cl (n : Nat) (c : List Int) (D : Nat → Nat → Lm) : Prop where
  rep : Rep n c D
  tri : Tri (n + 1) D
  bd : Bd D
  dg : ∀ k, k ≤ n → D k k = some 1
  row : ∀ a, a ≤ n → At n c 0 a ≤ 1

theorem Cl.top {n : Nat} {c : List Int} {D : Nat → Nat → Lm} (h : Cl n c D) {a b : Nat} (ha : a ≤ n) (hb : b ≤ n) : At n c a b ≤ 1099511627776 := by
  rw [h.rep.2 a b ha hb]
  cases e : D a b with
  | none => simp [enc]
  | some x => have := h.bd a b x e; simp [enc]; omega

theorem Cl.dec {n : Nat} {c : List Int} {D : Nat → Nat → Lm} (h : Cl n c D) {a b : Nat} (ha : a ≤ n) (hb : b ≤ n) : D a b = dec (At n c a b) := by
  rw [h.rep.2 a b ha hb]
  cases e : D a b with
  | none => simp [enc, Zo.dec]
  | some x =>
    have := h.bd a b x e
    show some x = Zo.dec x
    unfold Zo.dec
    rw [if_neg (by omega)]

theorem Cl.one {n : Nat} {c : List Int} {D : Nat → Nat → Lm} (h : Cl n c D) {a : Nat} (ha : a ≤ n) : At n c a a = 1 := by
  rw [h.rep.2 a a ha ha, h.dg a ha]; rfl

theorem clo_lows {n : Nat} {l : List Int} (hl : l.length = (n + 1) * (n + 1)) : ∀ a, a ≤ n → At n (clo n l) a a ≤ 1 ∧ At n (clo n l) 0 a ≤ 1 := by
  intro a ha
  have h := pre_low hl a ha
  have b1 := clo_below hl (k := 0) (i := 0) (by omega) (by omega) ha ha
  have b2 := clo_below hl (k := 0) (i := 0) (by omega) (by omega) (show 0 ≤ n by omega) ha
  have e : (List.range 0).foldl (rlxJ n 0) (rnd n l 0) = pre n l := rfl
  rw [e] at b1 b2
  exact ⟨Int.le_trans b1 h.1, Int.le_trans b2 h.2⟩

theorem Cl.of {n : Nat} {l : List Int} (hn : n ≤ 10) (hl : l.length = (n + 1) * (n + 1)) (hv : ∀ a b, a ≤ n → b ≤ n → Wl (At n l a b)) (hd : ∀ i, i ≤ n → 1 ≤ At n (clo n l) i i) : Cl n (clo n l) (fw (mat n l) (n + 1)) := by
  obtain ⟨h1, h2, h3, h4⟩ := fw_bd hn hl hv hd
  exact ⟨h1, h2, h3, h4, fun a ha => (clo_lows hl a ha).2⟩

/-- What lies below a matrix and is closed lies below its closing, which has no short cycle. -/
theorem clo_over {n : Nat} {l c : List Int} {C : Nat → Nat → Lm} (hn : n ≤ 10) (hl : l.length = (n + 1) * (n + 1)) (hv : ∀ a b, a ≤ n → b ≤ n → Wl (At n l a b)) (hC : Cl n c C) (h : ∀ a b, a ≤ n → b ≤ n → At n c a b ≤ At n l a b) :
    (∀ i, i ≤ n → 1 ≤ At n (clo n l) i i) ∧ ∀ a b, a ≤ n → b ≤ n → At n c a b ≤ At n (clo n l) a b := by
  have pv := pre_wl hl hv
  have hp : ∀ a b, a ≤ n → b ≤ n → At n c a b ≤ At n (pre n l) a b := by
    intro a b ha hb
    rw [pre_at hl ha hb]
    have := h a b ha hb
    by_cases e : a = 0 ∨ a = b
    · rw [if_pos e]
      have h1 : At n c a b ≤ 1 := by
        rcases e with rfl | rfl
        · exact hC.row b hb
        · rw [hC.one ha]; omega
      omega
    · rw [if_neg e]; exact this
  have hle : ∀ a b, le (C a b) (mat n l a b) := by
    intro a b
    unfold mat
    by_cases e : a ≤ n ∧ b ≤ n
    · rw [if_pos e, hC.dec e.1 e.2, le_dec (hC.top e.1 e.2) (by have := pv a b e.1 e.2; unfold Wl at this; omega)]
      exact hp a b e.1 e.2
    · rw [if_neg e]; exact le_none _
  have below := below_fw hC.tri hle
  have hm : ∀ i j x, mat n l i j = some x → x ≤ 4294967297 ∧ -4294967297 + 1 ≤ x := by
    intro i j x h
    unfold mat at h
    split at h
    · rename_i c
      have := pv i j c.1 c.2
      unfold Zo.dec at h
      unfold Wl at this
      split at h
      · simp at h
      · simp at h; omega
    · simp at h
  have dg : ∀ t, t ≤ n + 1 → ∀ k, k ≤ n → fw (mat n l) t k k = some 1 := by
    intro t ht k hk
    have h1 := below t ht k k
    rw [hC.dg k hk] at h1
    have h2 := fw_le_m (mat n l) t k k
    have h3 : le (mat n l k k) (some 1) := by
      unfold mat
      rw [if_pos ⟨hk, hk⟩, show (some (1 : Int) : Lm) = Zo.dec 1 from rfl, le_dec (by have := pv k k hk hk; unfold Wl at this; omega) (by omega)]
      exact (pre_low hl k hk).1
    exact le_antisymm (le_trans h2 h3) h1
  have rep : ∀ t, t ≤ n + 1 → Rep n (rnd n l t) (fw (mat n l) t) := by
    intro t
    induction t with
    | zero =>
      intro _
      refine ⟨rnd_length hl 0 (by omega), fun a b ha hb => ?_⟩
      show At n (pre n l) a b = enc (mat n l a b)
      unfold mat
      rw [if_pos ⟨ha, hb⟩, enc_dec]
    | succ t ih =>
      intro ht
      have hr := ih (by omega)
      have hdg : ∀ k, k < t → fw (mat n l) k k k = some 1 := fun k hk => dg k (by omega) k (by omega)
      have hB : Bd (fw (mat n l) t) := by
        intro i j x h
        constructor
        · have := fw_low (c := 4294967297) (by omega) (fun i j x h => (hm i j x h).2) t i j x h
          have p : (2 : Int) ^ t ≤ 2 ^ 11 := by
            have : (2 : Nat) ^ t ≤ 2 ^ 11 := Nat.pow_le_pow_right (by omega) (by omega)
            exact_mod_cast this
          omega
        · obtain ⟨S, _, hx⟩ := fw_bound (U := 4294967297) (fun i j x h => (hm i j x h).1) t hdg i j x h
          have := cnt_le S t
          omega
      rw [rnd_succ]
      exact round_rep hB (dg t (by omega) t (by omega)) (by omega) hr
  have hr := rep (n + 1) (Nat.le_refl _)
  have hd : ∀ i, i ≤ n → 1 ≤ At n (clo n l) i i := by
    intro i hi
    rw [show clo n l = rnd n l (n + 1) from rfl, hr.2 i i hi hi, dg (n + 1) (Nat.le_refl _) i hi]
    simp [enc]
  refine ⟨hd, fun a b ha hb => ?_⟩
  have hc2 := Cl.of hn hl hv hd
  have h1 := below (n + 1) (Nat.le_refl _) a b
  rw [hC.dec ha hb, hc2.dec ha hb, le_dec (hC.top ha hb) (hc2.top ha hb)] at h1
  exact h1

/-- One matrix is below another one. -/
def Le (n : Nat) (c l : List Int) : Prop := ∀ a b, a ≤ n → b ≤ n → At n c a b ≤ At n l a b

theorem Le.trans {n : Nat} {a b c : List Int} (h : Le n a b) (g : Le n b c) : Le n a c := fun i j hi hj => Int.le_trans (h i j hi hj) (g i j hi hj)

theorem Le.anti {n : Nat} {x y : List Int} (hx : x.length = (n + 1) * (n + 1)) (hy : y.length = (n + 1) * (n + 1)) (h : Le n x y) (g : Le n y x) : x = y :=
  At_ext hx hy fun a b ha hb => Int.le_antisymm (h a b ha hb) (g a b ha hb)

theorem le_clo {n : Nat} {l : List Int} (hl : l.length = (n + 1) * (n + 1)) : Le n (clo n l) l := by
  intro a b ha hb
  have b1 := clo_below hl (k := 0) (i := 0) (by omega) (by omega) ha hb
  have e : (List.range 0).foldl (rlxJ n 0) (rnd n l 0) = pre n l := rfl
  rw [e, pre_at hl ha hb] at b1
  split at b1 <;> omega

/-- Closed, tightened and closed again: the same as tightened and closed. T: what tightens. -/
theorem clo_twice {n : Nat} {x : List Int} {T : List Int → List Int} (hn : n ≤ 10) (hx : x.length = (n + 1) * (n + 1)) (hvx : ∀ a b, a ≤ n → b ≤ n → Wl (At n x a b)) (hTl : ∀ u : List Int, (T u).length = u.length)
    (hTle : ∀ u : List Int, u.length = (n + 1) * (n + 1) → Le n (T u) u) (hT : ∀ u v c : List Int, u.length = (n + 1) * (n + 1) → v.length = (n + 1) * (n + 1) → Le n c u → Le n c (T v) → Le n c (T u))
    (hv1 : ∀ a b, a ≤ n → b ≤ n → Wl (At n (T x) a b)) (hv2 : ∀ a b, a ≤ n → b ≤ n → Wl (At n (T (clo n x)) a b)) :
    ((∀ i, i ≤ n → 1 ≤ At n (clo n (T x)) i i) ↔ ∀ i, i ≤ n → 1 ≤ At n (clo n (T (clo n x))) i i) ∧ ((∀ i, i ≤ n → 1 ≤ At n (clo n (T x)) i i) → clo n (T x) = clo n (T (clo n x))) := by
  have lx : (clo n x).length = (n + 1) * (n + 1) := by rw [clo_length, hx]
  have l1 : (T x).length = (n + 1) * (n + 1) := by rw [hTl, hx]
  have l2 : (T (clo n x)).length = (n + 1) * (n + 1) := by rw [hTl, lx]
  -- from the tightened one to the one that was closed first
  have A : (∀ i, i ≤ n → 1 ≤ At n (clo n (T x)) i i) → (∀ i, i ≤ n → 1 ≤ At n (clo n (T (clo n x))) i i) ∧ Le n (clo n (T x)) (clo n (T (clo n x))) := by
    intro hd
    have c := Cl.of hn l1 hv1 hd
    have g1 : Le n (clo n (T x)) x := (le_clo l1).trans (hTle x hx)
    have g2 : Le n (clo n (T x)) (clo n x) := (clo_over hn hx hvx c g1).2
    exact clo_over hn l2 hv2 c (hT _ x _ lx hx g2 (le_clo l1))
  have B : (∀ i, i ≤ n → 1 ≤ At n (clo n (T (clo n x))) i i) → (∀ i, i ≤ n → 1 ≤ At n (clo n (T x)) i i) ∧ Le n (clo n (T (clo n x))) (clo n (T x)) := by
    intro hd
    have c := Cl.of hn l2 hv2 hd
    have g1 : Le n (clo n (T (clo n x))) x := ((le_clo l2).trans (hTle _ lx)).trans (le_clo hx)
    exact clo_over hn l1 hv1 c (hT x _ _ hx lx g1 (le_clo l2))
  refine ⟨⟨fun h => (A h).1, fun h => (B h).1⟩, fun h => ?_⟩
  obtain ⟨h1, h2⟩ := A h
  exact Le.anti (by rw [clo_length, l1]) (by rw [clo_length, l2]) h2 (B h1).2
end Go.Proofs.Ytgdcclldgfcilaa.Zo

namespace Go.Proofs.Ytgdcclldgfcilaa
open Go.RowKit

theorem wl_of {n : Nat} {l : List Int} (hl : l.length = (n + 1) * (n + 1)) (hv : rdL l = true) : ∀ a b, a ≤ n → b ≤ n → Zo.Wl (Zo.At n l a b) := fun a b ha hb => (vl_of hl hv a b ha hb).wl

theorem cloB_iff {n : Nat} {l : List Int} : cloB n l = false ↔ ∀ i, i ≤ n → 1 ≤ Zo.At n (Zo.clo n l) i i :=
  ⟨diag_of, fun h => cloB_no fun i hi => by have := h i (by omega); omega⟩

theorem cloE_zero {n : Nat} {l : List Int} : cloE n l = 0 ↔ cloB n l = false ∧ rdL (Zo.clo n l) = true := by
  unfold cloE rdL
  cases cloB n l <;> cases (Zo.clo n l).all lvB <;> simp

/-- What is closed without an error is a valid zone. -/
theorem clo_chk {n : Nat} {l : List Int} (hn : n ≤ 10) (hl : l.length = (n + 1) * (n + 1)) (hv : ∀ a b, a ≤ n → b ≤ n → Zo.Wl (Zo.At n l a b)) (h : cloE n l = 0) : chkE n (Zo.clo n l) = 0 := by
  obtain ⟨hB, hr⟩ := cloE_zero.1 h
  have hd := diag_of hB
  have lo := Zo.clo_lows hl
  have hcl : (Zo.clo n l).length = (n + 1) * (n + 1) := by rw [Zo.clo_length, hl]
  have tr := Zo.clo_sums hn hl hv hd
  refine chkE_ok hn hcl (fun i hi j hj => ?_) (fun i hi j hj k hk => ?_)
  · unfold okI
    rw [lv_of_all hcl hr i j (by omega) (by omega)]
    simp only [Bool.true_and, Bool.and_eq_true, Bool.or_eq_true, decide_eq_true_eq]
    constructor
    · by_cases c : i = j
      · right
        subst c
        have := hd i (by omega)
        have := (lo i (by omega)).1
        omega
      · exact Or.inl c
    · by_cases c : i = 0
      · right
        subst c
        exact (lo j (by omega)).2
      · exact Or.inl c
  · unfold okT
    simpa using tr i j k (by omega) (by omega) (by omega)

theorem chk_tri {n : Nat} {l : List Int} (h : chkE n l = 0) : ∀ i j k, i ≤ n → j ≤ n → k ≤ n → Zo.At n l i j ≤ Zo.smW (Zo.At n l i k) (Zo.At n l k j) := by
  have hc : chkB n l = true := by
    unfold chkE at h
    cases e : chkB n l
    · rw [e] at h; simp at h
    · rfl
  unfold chkB at hc
  simp only [Bool.and_eq_true, Int.toNat_natCast] at hc
  have h2 := chk2_iff.1 hc.2
  intro i j k hi hj hk
  have := h2 i (by omega) j (by omega) k (by omega)
  unfold okT at this
  simpa using this

theorem chk_cl {n : Nat} {l : List Int} (hn : n ≤ 10) (hl : l.length = (n + 1) * (n + 1)) (h : chkE n l = 0) : ∃ D, Zo.Cl n l D := by
  have hv := (chk_64 h).2
  obtain ⟨hB, e⟩ := (chk_iff hn hl hv).1 h
  have := Zo.Cl.of hn hl (wl_of hl hv) (diag_of hB)
  rw [e] at this
  exact ⟨_, this⟩

/-- A matrix from its elements. -/
def mk (n : Nat) (G : Nat → Nat → Int) : List Int := (List.range ((n + 1) * (n + 1))).map fun k => G (k / (n + 1)) (k % (n + 1))

theorem mk_len (n : Nat) (G : Nat → Nat → Int) : (mk n G).length = (n + 1) * (n + 1) := by simp [mk]

theorem mk_at {n : Nat} (G : Nat → Nat → Int) {a b : Nat} (ha : a ≤ n) (hb : b ≤ n) : Zo.At n (mk n G) a b = G a b := by
  have h := Zo.ix_lt ha hb
  unfold Zo.At Zo.gt mk
  simp only [List.getD_eq_getElem?_getD, List.getElem?_map, List.getElem?_range h, Option.map_some, Option.getD_some]
  unfold Zo.ix
  have h1 : (a * (n + 1) + b) / (n + 1) = a := by
    rw [Nat.mul_comm, Nat.mul_add_div (by omega), Nat.div_eq_of_lt (by omega)]; rfl
  have h2 : (a * (n + 1) + b) % (n + 1) = b := by
    rw [Nat.mul_comm, Nat.mul_add_mod, Nat.mod_eq_of_lt (by omega)]
  rw [h1, h2]

theorem smW_no (a : Int) : Zo.smW a 1099511627776 = 1099511627776 := by unfold Zo.smW; rw [if_pos (Or.inr rfl)]

theorem no_smW (a : Int) : Zo.smW 1099511627776 a = 1099511627776 := by unfold Zo.smW; rw [if_pos (Or.inl rfl)]

def frG (n i : Nat) (l : List Int) (a b : Nat) : Int := if b = i then (if a = i then 1 else Zo.At n l a 0) else if a = i then 1099511627776 else Zo.At n l a b

theorem vl_top {x : Int} (h : Zo.Vl x) : x ≤ 1099511627776 := by unfold Zo.Vl at h; omega

theorem vl_one {x : Int} (h : Zo.Vl x) : Zo.smW x 1 = x := Zo.smW_one (by unfold Zo.Vl at h; omega) (by unfold Zo.Vl at h; omega)

theorem frG_ii {n i a b : Nat} {l : List Int} (ha : a = i) (hb : b = i) : frG n i l a b = 1 := by unfold frG; rw [if_pos hb, if_pos ha]

theorem frG_ai {n i a b : Nat} {l : List Int} (ha : ¬ a = i) (hb : b = i) : frG n i l a b = Zo.At n l a 0 := by unfold frG; rw [if_pos hb, if_neg ha]

theorem frG_ib {n i a b : Nat} {l : List Int} (ha : a = i) (hb : ¬ b = i) : frG n i l a b = 1099511627776 := by unfold frG; rw [if_neg hb, if_pos ha]

theorem frG_ab {n i a b : Nat} {l : List Int} (ha : ¬ a = i) (hb : ¬ b = i) : frG n i l a b = Zo.At n l a b := by unfold frG; rw [if_neg hb, if_neg ha]

theorem frG_chk {n i : Nat} {l : List Int} (hn : n ≤ 10) (hl : l.length = (n + 1) * (n + 1)) (hc : chkE n l = 0) (h1 : 1 ≤ i) : chkE n (mk n (frG n i l)) = 0 := by
  have hv := (chk_64 hc).2
  have vl := vl_of hl hv
  have lv := lv_of_all hl hv
  obtain ⟨dg, r0⟩ := chk_diag hc
  have tr := chk_tri hc
  refine chkE_ok hn (mk_len _ _) (fun a ha b hb => ?_) (fun a ha b hb k hk => ?_)
  · unfold okI
    rw [mk_at _ (by omega) (by omega)]
    unfold frG
    simp only [Bool.and_eq_true, Bool.or_eq_true, decide_eq_true_eq]
    by_cases cb : b = i
    · rw [if_pos cb]
      by_cases ca : a = i
      · rw [if_pos ca]; exact ⟨⟨by decide, Or.inr rfl⟩, Or.inr (by omega)⟩
      · rw [if_neg ca]
        refine ⟨⟨lv a 0 (by omega) (by omega), Or.inl (by omega)⟩, ?_⟩
        by_cases c : a = 0
        · right; subst c; rw [dg 0 (by omega)]; omega
        · exact Or.inl c
    · rw [if_neg cb]
      by_cases ca : a = i
      · rw [if_pos ca]; exact ⟨⟨by decide, Or.inl (by omega)⟩, Or.inl (by omega)⟩
      · rw [if_neg ca]
        refine ⟨⟨lv a b (by omega) (by omega), ?_⟩, ?_⟩
        · by_cases c : a = b
          · right; subst c; exact dg a (by omega)
          · exact Or.inl c
        · by_cases c : a = 0
          · right; subst c; exact r0 b (by omega)
          · exact Or.inl c
  · unfold okT
    rw [mk_at _ (by omega) (by omega), mk_at _ (by omega) (by omega), mk_at _ (by omega) (by omega), decide_eq_true_eq]
    by_cases ca : a = i
    · by_cases cb : b = i
      · rw [frG_ii ca cb]
        by_cases ck : k = i
        · rw [frG_ii ca ck, frG_ii ck cb]; decide
        · rw [frG_ib ca ck, no_smW]; omega
      · rw [frG_ib ca cb]
        by_cases ck : k = i
        · rw [frG_ii ca ck, frG_ib ck cb, smW_no]; omega
        · rw [frG_ib ca ck, no_smW]; omega
    · by_cases cb : b = i
      · rw [frG_ai ca cb]
        by_cases ck : k = i
        · rw [frG_ai ca ck, frG_ii ck cb, vl_one (vl a 0 (by omega) (by omega))]; omega
        · rw [frG_ab ca ck, frG_ai ck cb]
          exact tr a 0 k (by omega) (by omega) (by omega)
      · rw [frG_ab ca cb]
        by_cases ck : k = i
        · rw [frG_ai ca ck, frG_ib ck cb, smW_no]; exact vl_top (vl a b (by omega) (by omega))
        · rw [frG_ab ca ck, frG_ab ck cb]
          exact tr a b k (by omega) (by omega) (by omega)

/-- What Free makes of a zone: never an error. -/
theorem fr_zone {n i : Nat} {l : List Int} (hn : n ≤ 10) (hl : l.length = (n + 1) * (n + 1)) (hc : chkE n l = 0) (h1 : 1 ≤ i) (hi : i ≤ n) :
    Zo.clo n (frL n i l) = mk n (frG n i l) ∧ cloE n (frL n i l) = 0 := by
  have hv := (chk_64 hc).2
  have vl := vl_of hl hv
  obtain ⟨dg, r0⟩ := chk_diag hc
  have hg := frG_chk hn hl hc h1
  obtain ⟨D, hD⟩ := chk_cl hn (mk_len _ _) hg
  have lf : (frL n i l).length = (n + 1) * (n + 1) := by rw [frL_len, hl]
  have fv : ∀ a b, a ≤ n → b ≤ n → Zo.Wl (Zo.At n (frL n i l) a b) := by
    intro a b ha hb
    rw [frL_at hl hi ha hb]
    split
    · exact Or.inl rfl
    · exact (vl a b ha hb).wl
  have hle : Zo.Le n (mk n (frG n i l)) (frL n i l) := by
    intro a b ha hb
    rw [mk_at _ ha hb, frL_at hl hi ha hb]
    by_cases ca : a = i
    · by_cases cb : b = i
      · rw [frG_ii ca cb, if_neg (by omega), ca, cb, dg i hi]; omega
      · rw [frG_ib ca cb, if_pos (by omega)]; omega
    · by_cases cb : b = i
      · rw [frG_ai ca cb, if_pos (by omega)]; exact vl_top (vl a 0 ha (by omega))
      · rw [frG_ab ca cb, if_neg (by omega)]; omega
  obtain ⟨hd, hov⟩ := Zo.clo_over hn lf fv hD hle
  have hcl := Zo.le_clo lf
  have tr := Zo.clo_sums hn lf fv hd
  have lo := Zo.clo_lows lf
  have same : ∀ a b, a ≤ n → b ≤ n → a ≠ i → b ≠ i → Zo.At n (Zo.clo n (frL n i l)) a b = Zo.At n l a b := by
    intro a b ha hb ca cb
    have h2 := hov a b ha hb
    have h3 := hcl a b ha hb
    rw [mk_at _ ha hb, frG_ab ca cb] at h2
    rw [frL_at hl hi ha hb, if_neg (by omega)] at h3
    omega
  have e : Zo.clo n (frL n i l) = mk n (frG n i l) := by
    refine Zo.Le.anti (by rw [Zo.clo_length, lf]) (mk_len _ _) ?_ hov
    intro a b ha hb
    rw [mk_at _ ha hb]
    by_cases ca : a = i
    · by_cases cb : b = i
      · rw [frG_ii ca cb, ca, cb]; exact (lo i hi).1
      · rw [frG_ib ca cb]
        have := hcl a b ha hb
        rw [frL_at hl hi ha hb, if_pos (by omega)] at this
        exact this
    · by_cases cb : b = i
      · rw [frG_ai ca cb, cb]
        have h2 := tr a i 0 ha hi (by omega)
        have h4 := hov 0 i (by omega) hi
        rw [mk_at _ (by omega) hi, frG_ai (by omega) rfl, dg 0 (by omega)] at h4
        have h5 := (lo i hi).2
        rw [show Zo.At n (Zo.clo n (frL n i l)) 0 i = 1 by omega, same a 0 ha (by omega) ca (by omega), vl_one (vl a 0 ha (by omega))] at h2
        exact h2
      · rw [frG_ab ca cb, same a b ha hb ca cb]; omega
  refine ⟨e, cloE_zero.2 ⟨cloB_iff.2 hd, ?_⟩⟩
  rw [e]
  exact (chk_64 hg).2
end Go.Proofs.Ytgdcclldgfcilaa
