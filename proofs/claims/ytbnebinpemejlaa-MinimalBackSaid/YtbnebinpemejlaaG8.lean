/- Contracts of layer 3's read, of whatever arguments, and open.; Contracts of layer 3's open, of whatever zone, Check, and changed.; Plain mathematics: matrices whose closing begins alike.; The contract of Free of layer 3's reference. -/
import Derived.Test.YtbnebinpemejlaaG7
import Derived.Deep.RegionHeld
import Derived.Test.YtbnebinpemejlaaG4

namespace Go.Proofs.Ytbnebinpemejlaa
open Go.RowKit

def rdW (N : Int) (l : List Int) : Array Value := if rdB N l then mcs N.toNat l else mcs 0 []

theorem read_gen (N : Int) (l : List Int) (ao : Option Addr) (cap : Nat) (w : World) (hA : Arg w ao l) :
    Calls Try.prog 61 #[.int .i64 N, .slice ao l.length cap] w (fun e w' => e = .returned (.tuple #[.agg (rdW N l), .bool (rdB N l)]) ∧ Below w.heap.size w w') := by
  cases hd : dimB N
  · refine (read_bad1 N l ao cap w hd).mono ?_
    rintro e w' ⟨rfl, hb⟩
    have : rdB N l = false := by unfold rdB; rw [hd]; rfl
    exact ⟨by unfold rdW; rw [this]; rfl, hb⟩
  · obtain ⟨n, rfl, hn⟩ := dim_nat hd
    by_cases hl : l.length = (n + 1) * (n + 1)
    · have hne : l ≠ [] := by
        intro e; subst e
        have := dsq_pos n
        simp at hl
      obtain ⟨a, rfl, hR⟩ := hA hne
      refine (read_loop n l a cap w hn hl hR).mono ?_
      rintro e w' ⟨rfl, hb⟩
      have : rdB n l = rdL l := by unfold rdB rdL; rw [hd]; simp [hl]
      exact ⟨by unfold rdW rdV; rw [this]; rfl, hb⟩
    · refine (read_bad2 n l ao cap w hn hl).mono ?_
      rintro e w' ⟨rfl, hb⟩
      have : rdB n l = false := by unfold rdB; simp [hl]
      exact ⟨by unfold rdW; rw [this]; rfl, hb⟩

theorem rdB_ok {N : Int} {l : List Int} (h : rdB N l = true) : ∃ n : Nat, N = n ∧ n ≤ 10 ∧ l.length = (n + 1) * (n + 1) ∧ rdL l = true := by
  unfold rdB at h
  simp only [Bool.and_eq_true, decide_eq_true_eq] at h
  obtain ⟨n, rfl, hn⟩ := dim_nat h.1.1
  exact ⟨n, rfl, hn, by simpa using h.1.2, h.2⟩

theorem Var.far {w : World} {b b' : Nat} {cs : Array Value} (h : Var w b cs) (hne : b' ≠ b) (cs' : Array Value) : Var (w.setRow b' cs') b cs := ⟨(setRow_other w b' b cs' (by omega)).trans h.1, h.2⟩

set_option maxRecDepth 100000 in
set_option maxHeartbeats 4000000 in
theorem open_bad (N : Int) (l : List Int) (ao : Option Addr) (cap : Nat) (w : World) (hA : Arg w ao l) (hr : rdB N l = false) :
    Calls Try.prog 67 #[.agg #[.int .i64 N, .slice ao l.length cap]] w (fun e w' => e = .returned (.tuple #[.agg (mcs 0 []), .bool false]) ∧ Below w.heap.size w w') := by
  have hz := mx_zero
  have h0 := mx_build0
  have CR := Lib.hid (show ∀ W, Below w.heap.size w W → Calls Try.prog 61 #[.int .i64 N, .slice ao l.length cap] W (fun e w' => e = .returned (.tuple #[.agg (mcs 0 []), .bool false]) ∧ Below W.heap.size W w') from fun W h => by
    have := read_gen N l ao cap W (hA.on h)
    rwa [hr, show rdW N l = mcs 0 [] by unfold rdW; rw [hr]; rfl] at this)
  generalize l.length = len at *
  obtain ⟨w0, hw0⟩ : ∃ w0, w0 = (w.alloc (.cells #[.int .i64 N, .slice ao len cap] 25)).alloc (.cells (mcs 0 []) 80) := ⟨_, rfl⟩
  have b0 : w0.cell? ⟨w.heap.size, 0, none⟩ = some (.int .i64 N) := by rw [hw0]; go_simp
  have b1 : w0.cell? ⟨w.heap.size, 1, none⟩ = some (.slice ao len cap) := by rw [hw0]; go_simp
  have V0 : Var w0 (w.heap.size + 1) (mcs 0 []) := by
    rw [hw0]
    have := Var.made (w.alloc (.cells #[.int .i64 N, .slice ao len cap] 25))
    simpa using this
  have E0 := Lib.hid (show Below w.heap.size w w0 by rw [hw0]; exact past_two (Below.refl _ _))
  have HV := Lib.hid V0
  clear V0 hA
  go_enter Try.func67, Try.ntmps67
  go_wp2_with fail
  rw [← hw0]
  clear hw0
  refine (CR.out _ E0.out).mono ?_
  rintro e w1 ⟨rfl, hb⟩
  have V1 := HV.out.kept hb
  have E1 := below_on E0.out hb
  have hle := E1.size
  have V2 := (V1.kept (one_more (.cells (mcs 0 []) 80)))
  have V3 := V2.far (b' := w1.heap.size) (by have := V1.lt; omega) (mcs 0 [])
  have HV3 := Lib.hid V3
  have HE := Lib.hid E1
  have sz := mcs_size (n := 0) (l := []) (by simp)
  clear V1 V2 V3 E1 hb b0 b1
  go_wp2_with (first | refine wpl_store rfl _ _ rfl _ _ rfl rfl _ (Var.made _) sz (mcs_one _ _) ?_ | refine wpl_store rfl _ _ rfl _ _ rfl rfl _ HV3.out sz (mcs_one _ _) ?_)
  refine bodyPost_ret (results_mx Try.results67 _ rfl rfl (HV3.out.put (mcs 0 []) sz)) rfl ⟨rfl, ?_⟩
  exact Below.setRow (Below.setRow (HE.out.alloc hle _) hle _) (by omega) _

theorem Mx.var {w : World} {b n : Nat} {l : List Int} (hn : n ≤ 10) (h : Mx w b n l) : Var w b (mcs n l) := ⟨h.1, mcs_size (by rw [h.2]; exact dsq_le hn)⟩

theorem yld_load {o : Oper} {a : Act} {w : World} (x : Operand) (ho : o.op = .load 80 x) (b : Nat) (hx : a.eval x = .pointer (some ⟨b, 0, none⟩)) (cs : Array Value) (hv : Var w b cs) :
    (execOp a.eval o).run Try.prog w = .ok (.value (.agg cs)) w := by
  unfold execOp
  simp only [ho, hx, Sem.run_bind, mx_loadAt hv.1 hv.2, Result.andThen_ok, Sem.run_pure]

theorem mx_guard (x y : Operand) (xs ys : Array Value) (w : World) : (eqGuard .eql 80 x y (.agg xs) (.agg ys)).run Try.prog w = .ok () w := run_eqGuard_agg (P := Try.prog) w .eql _ x y xs ys (by kernel_rfl)

theorem yld_eql {o : Oper} {a : Act} {w : World} (x y : Operand) (t : TypeId) (ho : o.op = .binOp .eql 80 x y t) (n : Nat) (l m : List Int) (hl : l.length ≤ 121) (hm : m.length = l.length) (hx : a.eval x = .agg (mcs n l)) (hy : a.eval y = .agg (mcs n m)) :
    (execOp a.eval o).run Try.prog w = .ok (.value (.bool (decide (l = m)))) w := by
  unfold execOp
  simp only [ho, hx, hy, Sem.run_bind, mx_guard, run_mx_eq n l m hl hm, Result.andThen_ok, Sem.run_pure]

set_option maxRecDepth 100000 in
set_option maxHeartbeats 4000000 in
theorem open_ok (n : Nat) (l : List Int) (ao : Option Addr) (cap : Nat) (w : World) (hA : Arg w ao l) (hn : n ≤ 10) (hl : l.length = (n + 1) * (n + 1)) (hv : rdL l = true) :
    Calls Try.prog 67 #[.agg #[.int .i64 n, .slice ao l.length cap]] w (fun e w' => e = .returned (.tuple #[.agg (mcs n l), .bool (decide (chkE n l = 0))]) ∧ Below w.heap.size w w') := by
  have hz := mx_zero
  have hr : rdB n l = true := by unfold rdB; rw [show dimB (n : Int) = true by unfold dimB; simp; omega]; simp only [Int.toNat_natCast, hl, decide_true, Bool.true_and]; exact hv
  have CR := Lib.hid (show ∀ W, Below w.heap.size w W → Calls Try.prog 61 #[.int .i64 n, .slice ao l.length cap] W (fun e w' => e = .returned (.tuple #[.agg (mcs n l), .bool true]) ∧ Below W.heap.size W w') from fun W h => by
    have := read_gen n l ao cap W (hA.on h)
    rwa [hr, show rdW n l = mcs n l by unfold rdW; rw [hr]; rfl] at this)
  have sz : (mcs n l).size = 122 := mcs_size (by rw [hl]; exact dsq_le hn)
  have HC := Lib.hid (chk_iff hn hl hv)
  have HL := Lib.hid hl
  have H64 := Lib.hid (a64_of hv)
  clear hr hA hv
  generalize l.length = len at CR ⊢
  obtain ⟨w0, hw0⟩ : ∃ w0, w0 = (w.alloc (.cells #[.int .i64 n, .slice ao len cap] 25)).alloc (.cells (mcs 0 []) 80) := ⟨_, rfl⟩
  have b0 : w0.cell? ⟨w.heap.size, 0, none⟩ = some (.int .i64 n) := by rw [hw0]; go_simp
  have b1 : w0.cell? ⟨w.heap.size, 1, none⟩ = some (.slice ao len cap) := by rw [hw0]; go_simp
  have V0 : Var w0 (w.heap.size + 1) (mcs 0 []) := by
    rw [hw0]
    have := Var.made (w.alloc (.cells #[.int .i64 n, .slice ao len cap] 25))
    simpa using this
  have E0 := Lib.hid (show Below w.heap.size w w0 by rw [hw0]; exact past_two (Below.refl _ _))
  have HV := Lib.hid V0
  clear V0
  go_enter Try.func67, Try.ntmps67
  go_wp2_with fail
  rw [← hw0]
  clear hw0
  go_wp2_with fail
  refine (CR.out _ E0.out).mono ?_
  rintro e w1 ⟨rfl, hb⟩
  have V1 := HV.out.kept hb
  have E1 := below_on E0.out hb
  have hle := E1.size
  have V2 := (V1.kept (one_more (.cells (mcs 0 []) 80)))
  have V3 := V2.far (b' := w1.heap.size) (by have := V1.lt; omega) (mcs n l)
  have V4 := (Var.made w1).put (mcs n l) sz
  have HV3 := Lib.hid V3
  have HV4 := Lib.hid V4
  have HE := Lib.hid (show Below w.heap.size w ((w1.alloc (.cells (mcs 0 []) 80)).setRow w1.heap.size (mcs n l)) from Below.setRow (E1.alloc hle _) hle _)
  have hlt := V1.lt
  have V6 := Var.made ((w1.alloc (.cells (mcs 0 []) 80)).setRow w1.heap.size (mcs n l))
  rw [show ((w1.alloc (.cells (mcs 0 []) 80)).setRow w1.heap.size (mcs n l)).heap.size = w1.heap.size + 1 by simp] at V6
  have HV6 := Lib.hid V6
  clear V1 V2 V3 V4 V6 E1 hb b0 b1
  go_wp2_with (first | refine wpl_store rfl _ _ rfl _ _ rfl rfl _ (Var.made _) sz (mcs_one _ _) ?_ | refine wpl_load rfl _ rfl _ rfl _ HV4.out ?_ | refine wpl_store rfl _ _ rfl _ _ rfl rfl _ HV6.out sz (mcs_one _ _) ?_)
  obtain ⟨w6, hw6⟩ : ∃ w6, w6 = (((w1.alloc (.cells (mcs 0 []) 80)).setRow w1.heap.size (mcs n l)).alloc (.cells (mcs 0 []) 80)).setRow (w1.heap.size + 1) (mcs n l) := ⟨_, rfl⟩
  have R6 : Var w6 (w.heap.size + 1) (mcs 0 []) := by rw [hw6]; exact (HV3.out.kept (one_more _)).far (by omega) _
  have M6 : Var w6 w1.heap.size (mcs n l) := by rw [hw6]; exact (HV4.out.kept (one_more _)).far (by omega) _
  have C6 : Mx w6 (w1.heap.size + 1) n l := by rw [hw6]; exact ⟨(HV6.out.put (mcs n l) sz).1, HL.out⟩
  have E6 : Below w.heap.size w w6 := by rw [hw6]; exact Below.setRow (HE.out.alloc (by simp; omega) _) (by omega) _
  rw [← hw6]
  have HR6 := Lib.hid R6
  have HM6 := Lib.hid M6
  have HC6 := Lib.hid C6
  have HE6 := Lib.hid E6
  clear hw6 R6 M6 C6 E6 HV3 HV4 HV6 HE CR
  simp only [Act.put]
  refine wp_region_held_drew (S := fun w' => Var w' w1.heap.size (mcs n l)) (by kernel_rfl) HM6.out (fun h0 => ?_)
  refine wpAnyH_take (i := 0) (v := .agg (mcs n l)) rfl (by kernel_rfl) (by kernel_rfl) (by kernel_rfl) (fun _ _ _ h => h) (Or.inl ⟨by rfl, fun w' hS => yld_load _ rfl _ rfl _ hS⟩) h0 ?_
  simp only [Act.put, List.getElem_toArray, List.getElem_cons_zero, List.setIfInBounds_toArray, List.set_cons_zero, List.set_cons_succ]
  refine wpAnyH_ready (rs := [1]) (by kernel_rfl) (by simp) (AllReadyH.cons rfl (fun K hK => ?_) AllReadyH.nil)
  rw [if_pos (by rfl)]
  go_simp
  refine (shorten_any (w1.heap.size + 1) n l w6.drew hn HC6.out.drew H64.out).mono ?_
  rintro e w7 ⟨rfl, l', hM, hc⟩
  go_simp
  have M7 : Var w7 w1.heap.size (mcs n l) := ⟨(hM.2.block _ HM6.out.lt (by simp)).trans HM6.out.1, HM6.out.2⟩
  have R7 := Lib.hid (show Var w7 (w.heap.size + 1) (mcs 0 []) from ⟨(hM.2.block _ HR6.out.lt (by simp; omega)).trans HR6.out.1, HR6.out.2⟩)
  have E7 := Lib.hid (grown_over HE6.out.drew hM.2 (by omega))
  have HM7 := Lib.hid hM.1
  have HC7 := Lib.hid hc
  clear hM hc hz HE6 HR6 HM6 HC6
  refine hK.out _ _ M7 (fun h1 => ?_)
  clear hK K h0 M7
  cases hB : cloB n l
  · simp only [Bool.not_false]
    have hcl := HC7.out hB
    subst hcl
    have HE := Lib.hid (show decide (chkE n l = 0) = decide (Zo.clo n l = l) by
      rw [decide_eq_decide, HC.out, hB]; simp)
    refine wpAnyH_take (i := 2) (v := .bool true) rfl (by kernel_rfl) (by kernel_rfl) (by kernel_rfl) (fun _ _ _ h => h) (Or.inl ⟨by rfl, fun w' hS => by go_simp⟩) h1 ?_
    simp only [Act.put, List.getElem_toArray, List.getElem_cons_zero, List.getElem_cons_succ, List.setIfInBounds_toArray, List.set_cons_zero, List.set_cons_succ]
    refine wpAnyH_take (i := 4) (v := .agg (mcs n l)) rfl (by kernel_rfl) (by kernel_rfl) (by kernel_rfl) (fun _ _ _ h => h) (Or.inl ⟨by rfl, fun w' hS => yld_load _ rfl _ rfl _ hS⟩) h1 ?_
    simp only [Act.put, List.getElem_toArray, List.getElem_cons_zero, List.getElem_cons_succ, List.setIfInBounds_toArray, List.set_cons_zero, List.set_cons_succ]
    have szc : (mcs n (Zo.clo n l)).size = 122 := mcs_size (by rw [Zo.clo_length, hl]; exact dsq_le hn)
    refine wpAnyH_ready (rs := [3, 7]) (by kernel_rfl) (by simp) (AllReadyH.cons rfl (fun K hK => ?_) (AllReadyH.cons rfl (fun K hK => ?_) AllReadyH.nil))
    · rw [if_pos (by rfl)]
      refine wp_load_row _ _ rfl (w1.heap.size + 1) rfl _ (mcs n (Zo.clo n l)) (0, 0) _ HM7.out.1 Try.underlying80 rfl (by rw [szc]; exact mx_size) ?_
      refine hK.out _ _ h1 (fun h2 => ?_)
      clear hK K
      simp only [Act.put, List.getElem_toArray, List.getElem_cons_zero, List.getElem_cons_succ, List.setIfInBounds_toArray, List.set_cons_zero, List.set_cons_succ]
      refine wpAnyH_take (i := 5) (v := .bool (decide (Zo.clo n l = l))) rfl (by kernel_rfl) (by kernel_rfl) (by kernel_rfl) (fun _ _ _ h => h) (Or.inl ⟨by rfl, fun w' _ => yld_eql _ _ _ rfl n (Zo.clo n l) l (by rw [Zo.clo_length, hl]; exact dsq_le hn) (by rw [Zo.clo_length]) rfl rfl⟩) h2 ?_
      simp only [Act.put, List.getElem_toArray, List.getElem_cons_zero, List.getElem_cons_succ, List.setIfInBounds_toArray, List.set_cons_zero, List.set_cons_succ]
      refine wpAnyH_take (i := 6) (v := .bool (decide (Zo.clo n l = l))) rfl (by kernel_rfl) (by kernel_rfl) (by kernel_rfl) (fun _ _ _ h => h) (Or.inl ⟨by rfl, fun w' hS => by go_simp⟩) h2 ?_
      simp only [Act.put, List.getElem_toArray, List.getElem_cons_zero, List.getElem_cons_succ, List.setIfInBounds_toArray, List.set_cons_zero, List.set_cons_succ]
      refine wpAnyH_ready (rs := [7]) (by kernel_rfl) (by simp) (AllReadyH.cons rfl (fun K hK => ?_) AllReadyH.nil)
      rw [if_pos (by rfl)]
      refine wp_store_row _ _ _ rfl (w.heap.size + 1) (mcs n l) rfl rfl _ _ R7.out.1 (by rw [sz]; exact mx_size) (by rw [R7.out.2, sz]) (mcs_one _ _) ?_
      refine hK.out _ _ (h2.far (by omega) _) (fun h3 => ?_)
      clear hK K
      simp only [Act.put, List.getElem_toArray, List.getElem_cons_zero, List.getElem_cons_succ]
      refine wpAnyH_take (i := 8) (v := .bool (decide (Zo.clo n l = l))) rfl (by kernel_rfl) (by kernel_rfl) (by kernel_rfl) (fun _ _ _ h => h) (Or.inl ⟨by rfl, fun w' hS => by go_simp⟩) h3 ?_
      simp only [Act.put, List.getElem_toArray, List.getElem_cons_zero, List.getElem_cons_succ, List.setIfInBounds_toArray, List.set_cons_zero, List.set_cons_succ]
      refine wpAnyH_done (by kernel_rfl) ?_ _
      go_wp2_with fail
      refine bodyPost_ret (results_mx Try.results67 _ rfl rfl (R7.out.put (mcs n l) sz)) rfl ⟨by rw [HE.out]; rfl, ?_⟩
      exact Below.setRow E7.out (by omega) _
    · rw [if_pos (by rfl)]
      refine wp_store_row _ _ _ rfl (w.heap.size + 1) (mcs n l) rfl rfl _ _ R7.out.1 (by rw [sz]; exact mx_size) (by rw [R7.out.2, sz]) (mcs_one _ _) ?_
      refine hK.out _ _ (h1.far (by omega) _) (fun h2 => ?_)
      clear hK K
      simp only [Act.put, List.getElem_toArray, List.getElem_cons_zero, List.getElem_cons_succ]
      refine wpAnyH_ready (rs := [3]) (by kernel_rfl) (by simp) (AllReadyH.cons rfl (fun K hK => ?_) AllReadyH.nil)
      rw [if_pos (by rfl)]
      refine wp_load_row _ _ rfl (w1.heap.size + 1) rfl _ (mcs n (Zo.clo n l)) (0, 0) _ ((setRow_other w7 _ _ _ (by omega)).trans HM7.out.1) Try.underlying80 rfl (by rw [szc]; exact mx_size) ?_
      refine hK.out _ _ h2 (fun h3 => ?_)
      clear hK K
      simp only [Act.put, List.getElem_toArray, List.getElem_cons_zero, List.getElem_cons_succ, List.setIfInBounds_toArray, List.set_cons_zero, List.set_cons_succ]
      refine wpAnyH_take (i := 5) (v := .bool (decide (Zo.clo n l = l))) rfl (by kernel_rfl) (by kernel_rfl) (by kernel_rfl) (fun _ _ _ h => h) (Or.inl ⟨by rfl, fun w' _ => yld_eql _ _ _ rfl n (Zo.clo n l) l (by rw [Zo.clo_length, hl]; exact dsq_le hn) (by rw [Zo.clo_length]) rfl rfl⟩) h3 ?_
      simp only [Act.put, List.getElem_toArray, List.getElem_cons_zero, List.getElem_cons_succ, List.setIfInBounds_toArray, List.set_cons_zero, List.set_cons_succ]
      refine wpAnyH_take (i := 6) (v := .bool (decide (Zo.clo n l = l))) rfl (by kernel_rfl) (by kernel_rfl) (by kernel_rfl) (fun _ _ _ h => h) (Or.inl ⟨by rfl, fun w' hS => by go_simp⟩) h3 ?_
      simp only [Act.put, List.getElem_toArray, List.getElem_cons_zero, List.getElem_cons_succ, List.setIfInBounds_toArray, List.set_cons_zero, List.set_cons_succ]
      refine wpAnyH_take (i := 8) (v := .bool (decide (Zo.clo n l = l))) rfl (by kernel_rfl) (by kernel_rfl) (by kernel_rfl) (fun _ _ _ h => h) (Or.inl ⟨by rfl, fun w' hS => by go_simp⟩) h3 ?_
      simp only [Act.put, List.getElem_toArray, List.getElem_cons_zero, List.getElem_cons_succ, List.setIfInBounds_toArray, List.set_cons_zero, List.set_cons_succ]
      refine wpAnyH_done (by kernel_rfl) ?_ _
      go_wp2_with fail
      refine bodyPost_ret (results_mx Try.results67 _ rfl rfl (R7.out.put (mcs n l) sz)) rfl ⟨by rw [HE.out]; rfl, ?_⟩
      exact Below.setRow E7.out (by omega) _
  · simp only [Bool.not_true]
    have HE := Lib.hid (show decide (chkE n l = 0) = false by
      rw [decide_eq_false_iff_not, HC.out, hB]; simp)
    clear hB HC7 HM7
    refine wpAnyH_take (i := 2) (v := .bool false) rfl (by kernel_rfl) (by kernel_rfl) (by kernel_rfl) (fun _ _ _ h => h) (Or.inl ⟨by rfl, fun w' hS => by go_simp⟩) h1 ?_
    simp only [Act.put, List.getElem_toArray, List.getElem_cons_zero, List.getElem_cons_succ, List.setIfInBounds_toArray, List.set_cons_zero, List.set_cons_succ]
    refine wpAnyH_take (i := 3) (v := undef) rfl (by kernel_rfl) (by kernel_rfl) (by kernel_rfl) (fun _ _ _ h => h) (Or.inr ⟨by rfl, rfl⟩) h1 ?_
    simp only [Act.put, List.getElem_toArray, List.getElem_cons_zero, List.getElem_cons_succ, List.setIfInBounds_toArray, List.set_cons_zero, List.set_cons_succ]
    refine wpAnyH_take (i := 4) (v := undef) rfl (by kernel_rfl) (by kernel_rfl) (by kernel_rfl) (fun _ _ _ h => h) (Or.inr ⟨by rfl, rfl⟩) h1 ?_
    simp only [Act.put, List.getElem_toArray, List.getElem_cons_zero, List.getElem_cons_succ, List.setIfInBounds_toArray, List.set_cons_zero, List.set_cons_succ]
    refine wpAnyH_take (i := 5) (v := undef) rfl (by kernel_rfl) (by kernel_rfl) (by kernel_rfl) (fun _ _ _ h => h) (Or.inr ⟨by rfl, rfl⟩) h1 ?_
    simp only [Act.put, List.getElem_toArray, List.getElem_cons_zero, List.getElem_cons_succ, List.setIfInBounds_toArray, List.set_cons_zero, List.set_cons_succ]
    refine wpAnyH_take (i := 6) (v := .bool false) rfl (by kernel_rfl) (by kernel_rfl) (by kernel_rfl) (fun _ _ _ h => h) (Or.inl ⟨by rfl, fun w' hS => by go_simp⟩) h1 ?_
    simp only [Act.put, List.getElem_toArray, List.getElem_cons_zero, List.getElem_cons_succ, List.setIfInBounds_toArray, List.set_cons_zero, List.set_cons_succ]
    refine wpAnyH_ready (rs := [7]) (by kernel_rfl) (by simp) (AllReadyH.cons rfl (fun K hK => ?_) AllReadyH.nil)
    rw [if_pos (by rfl)]
    refine wp_store_row _ _ _ rfl (w.heap.size + 1) (mcs n l) rfl rfl _ _ R7.out.1 (by rw [sz]; exact mx_size) (by rw [R7.out.2, sz]) (mcs_one _ _) ?_
    refine hK.out _ _ (h1.far (by omega) _) (fun h2 => ?_)
    clear hK K
    simp only [Act.put, List.getElem_toArray, List.getElem_cons_zero, List.getElem_cons_succ]
    refine wpAnyH_take (i := 8) (v := .bool false) rfl (by kernel_rfl) (by kernel_rfl) (by kernel_rfl) (fun _ _ _ h => h) (Or.inl ⟨by rfl, fun w' hS => by go_simp⟩) h2 ?_
    simp only [Act.put, List.getElem_toArray, List.getElem_cons_zero, List.getElem_cons_succ, List.setIfInBounds_toArray, List.set_cons_zero, List.set_cons_succ]
    refine wpAnyH_done (by kernel_rfl) ?_ _
    go_wp2_with fail
    refine bodyPost_ret (results_mx Try.results67 _ rfl rfl (R7.out.put (mcs n l) sz)) rfl ⟨by rw [HE.out]; rfl, ?_⟩
    exact Below.setRow E7.out (by omega) _
end Go.Proofs.Ytbnebinpemejlaa

namespace Go.Proofs.Ytbnebinpemejlaa
open Go.RowKit

theorem Cell.kept_row {w : World} {p : Addr} {v : Value} (h : Cell w p v) {b : Nat} (hne : p.block ≠ b) (cs : Array Value) : Cell (w.setRow b cs) p v :=
  ⟨by rw [cell_setRow_other w b cs p hne]; exact h.1, by unfold World.frozen?; rw [setRow_other w b _ cs hne]; exact h.2⟩

theorem Two.kept_row {w : World} {x : Nat} {u v : Value} (h : Two w x u v) {b : Nat} (hne : x ≠ b) (cs : Array Value) : Two (w.setRow b cs) x u v := ⟨h.1.kept_row hne cs, h.2.kept_row hne cs⟩

def okB (N : Int) (l : List Int) : Bool := decide (chkE N l = 0)

theorem open_gen (N : Int) (l : List Int) (ao : Option Addr) (cap : Nat) (w : World) (hA : Arg w ao l) :
    Calls Try.prog 67 #[.agg #[.int .i64 N, .slice ao l.length cap]] w (fun e w' => e = .returned (.tuple #[.agg (rdW N l), .bool (okB N l)]) ∧ Below w.heap.size w w') := by
  cases hr : rdB N l
  · refine (open_bad N l ao cap w hA hr).mono ?_
    rintro e w' ⟨rfl, hb⟩
    exact ⟨by unfold rdW okB; rw [hr, chk_read hr]; rfl, hb⟩
  · obtain ⟨n, rfl, hn, hl, hv⟩ := rdB_ok hr
    refine (open_ok n l ao cap w hA hn hl hv).mono ?_
    rintro e w' ⟨rfl, hb⟩
    exact ⟨by unfold rdW okB; rw [hr]; rfl, hb⟩

theorem rdW_size (N : Int) (l : List Int) : (rdW N l).size = 122 := by
  unfold rdW
  cases hr : rdB N l
  · exact mcs_size (by simp)
  · obtain ⟨n, rfl, hn, hl, hv⟩ := rdB_ok hr
    exact mcs_size (by rw [hl]; exact dsq_le hn)

theorem rdW_one (N : Int) (l : List Int) : (rdW N l).all (·.oneCell') = true := by
  unfold rdW; split <;> exact mcs_one _ _

theorem rdW_ok {n : Nat} {l : List Int} (h : chkE n l = 0) : rdW n l = mcs n l := by
  cases hr : rdB n l
  · rw [chk_read hr] at h; cases h
  · unfold rdW; rw [hr]; rfl

theorem chk_64 {n : Nat} {l : List Int} (h : chkE n l = 0) : Zo.A64 l ∧ rdL l = true := by
  cases hr : rdB n l
  · rw [chk_read hr] at h; cases h
  · obtain ⟨_, _, _, _, hv⟩ := rdB_ok hr
    exact ⟨a64_of hv, hv⟩

set_option maxRecDepth 100000 in
set_option maxHeartbeats 4000000 in
theorem zcheck_gen (N : Int) (l : List Int) (ao : Option Addr) (cap : Nat) (w : World) (hA : Arg w ao l) :
    Calls Try.prog 17 #[.agg #[.int .i64 N, .slice ao l.length cap]] w (Made (.int .i64 (chkE N l)) w) := by
  have hz := mx_zero
  have sz := rdW_size N l
  have s1 := rdW_one N l
  have CO := Lib.hid (show ∀ W, Below w.heap.size w W → Calls Try.prog 67 #[.agg #[.int .i64 N, .slice ao l.length cap]] W (fun e w' => e = .returned (.tuple #[.agg (rdW N l), .bool (okB N l)]) ∧ Below W.heap.size W w') from fun W h => open_gen N l ao cap W (hA.on h))
  have HE := Lib.hid (show chkE N l = if okB N l then 0 else 2 by
    unfold okB
    by_cases h : chkE N l = 0
    · simp [h]
    · simp [chk_two h])
  generalize rdW N l = A at *
  generalize okB N l = ok at *
  generalize chkE N l = ce at *
  generalize l.length = len at *
  have E0 := Lib.hid (one_more (w1 := w) (.cells #[.int .i64 N, .slice ao len cap] 25))
  clear hA
  go_enter Try.func17, Try.ntmps17
  go_wp2_with fail
  refine (CO.out _ E0.out).mono ?_
  rintro e w1 ⟨rfl, hb⟩
  have HB := Lib.hid (below_on E0.out hb)
  clear hb
  cases ok
  · go_wp2_with (refine wpl_store rfl _ _ rfl _ _ rfl rfl _ (Var.made _) sz s1 ?_)
    go_ret
    exact ⟨ret_int (by rw [HE.out]; rfl), Below.setRow (HB.out.alloc HB.out.size _) HB.out.size _⟩
  · go_wp2_with (refine wpl_store rfl _ _ rfl _ _ rfl rfl _ (Var.made _) sz s1 ?_)
    go_ret
    exact ⟨ret_int (by rw [HE.out]; rfl), Below.setRow (HB.out.alloc HB.out.size _) HB.out.size _⟩

set_option maxRecDepth 100000 in
set_option maxHeartbeats 4000000 in
/-- changed, where nothing is changed. -/
theorem changed_bad (N : Int) (l : List Int) (ao : Option Addr) (cap : Nat) (al : Bool) (fv : Value) (w : World) (hA : Arg w ao l) (h : okB N l = false ∨ al = false) :
    Calls Try.prog 76 #[.agg #[.int .i64 N, .slice ao l.length cap], .bool al, fv] w (ZRes w 0 [] 2) := by
  have hz := mx_zero
  have sz := rdW_size N l
  have s1 := rdW_one N l
  have CO := Lib.hid (show ∀ W, Below w.heap.size w W → Calls Try.prog 67 #[.agg #[.int .i64 N, .slice ao l.length cap]] W (fun e w' => e = .returned (.tuple #[.agg (rdW N l), .bool (okB N l)]) ∧ Below W.heap.size W w') from fun W h => open_gen N l ao cap W (hA.on h))
  generalize rdW N l = A at *
  generalize okB N l = ok at *
  generalize l.length = len at *
  obtain ⟨w0, hw0⟩ : ∃ w0, w0 = (w.alloc (.cells #[.int .i64 N, .slice ao len cap] 25)).alloc (.cells #[.int .i64 0, .slice none 0 0] 25) := ⟨_, rfl⟩
  have bx : Two w0 w.heap.size (.int .i64 N) (.slice ao len cap) := by rw [hw0]; exact (Two.made _ _ _ _).alloc _
  have rs : Two w0 (w.heap.size + 1) (.int .i64 0) (.slice none 0 0) := by
    rw [hw0]
    have := Two.made (w.alloc (.cells #[.int .i64 N, .slice ao len cap] 25)) (.int .i64 0) (.slice none 0 0) 25
    simpa using this
  have E0 := Lib.hid (show Below w.heap.size w w0 by rw [hw0]; exact past_two (Below.refl _ _))
  clear hA
  go_enter Try.func76, Try.ntmps76
  go_wp2_with fail
  rw [← hw0]
  clear hw0
  obtain ⟨b0, b1, b2, b3⟩ := bx.facts
  go_wp2_with fail
  refine (CO.out _ E0.out).mono ?_
  rintro e w1 ⟨rfl, hb⟩
  have rs1 := rs.kept hb
  have HB := Lib.hid (below_on E0.out hb)
  have hlt := rs1.lt
  have hsz := HB.out.size
  have rs2 := (rs1.alloc (.cells (mcs 0 []) 80))
  have rs3 : Two ((w1.alloc (.cells (mcs 0 []) 80)).setRow w1.heap.size A) (w.heap.size + 1) (.int .i64 0) (.slice none 0 0) :=
    rs2.kept_row (by omega) A
  obtain ⟨q0, q1, q2, q3⟩ := rs3.facts
  have HE := Lib.hid (show Below w.heap.size w ((w1.alloc (.cells (mcs 0 []) 80)).setRow w1.heap.size A) from Below.setRow (HB.out.alloc hsz _) hsz _)
  clear bx rs rs1 rs2 rs3 hb b0 b1 b2 b3
  cases ok
  · go_wp2_with (refine wpl_store rfl _ _ rfl _ _ rfl rfl _ (Var.made _) sz s1 ?_)
    refine bodyPost_ret (v := .tuple #[.agg #[.int .i64 0, .slice none 0 0], .int .i64 2]) (by simp [results, Try.results76, go_sem, q0, q1]) rfl (zres_bad ?_)
    exact (HE.out.setCell (by show w.heap.size ≤ w.heap.size + 1; omega) _).setCell (by show w.heap.size ≤ w.heap.size + 1; omega) _
  · have ha : al = false := by rcases h with h | h; cases h; exact h
    subst ha
    go_wp2_with (refine wpl_store rfl _ _ rfl _ _ rfl rfl _ (Var.made _) sz s1 ?_)
    refine bodyPost_ret (v := .tuple #[.agg #[.int .i64 0, .slice none 0 0], .int .i64 2]) (by simp [results, Try.results76, go_sem, q0, q1]) rfl (zres_bad ?_)
    exact (HE.out.setCell (by show w.heap.size ≤ w.heap.size + 1; omega) _).setCell (by show w.heap.size ≤ w.heap.size + 1; omega) _

set_option maxRecDepth 100000 in
set_option maxHeartbeats 4000000 in
/-- changed, where the change makes gl of the matrix. -/
theorem changed_ok (n : Nat) (l gl : List Int) (ao : Option Addr) (cap : Nat) (f : FuncId) (caps : Array Value) (w : World) (hA : Arg w ao l) (hn : n ≤ 10) (hl : l.length = (n + 1) * (n + 1)) (hc : chkE n l = 0) (h64 : Zo.A64 gl)
    (HF : ∀ (args : Array Value) (W : World), (callFunc f args).run Try.prog W = .ok (.enter f args) W)
    (CF : ∀ W b, Below w.heap.size w W → w.heap.size ≤ b → Mx W b n l → Calls Try.prog f (#[.pointer (some ⟨b, 0, none⟩)] ++ caps) W (fun e w' => e = .returned (.tuple #[]) ∧ MSt W b n gl w')) :
    Calls Try.prog 76 #[.agg #[.int .i64 n, .slice ao l.length cap], .bool true, .func (.func f) #[] caps] w (ZRes w n (Zo.clo n gl) (cloE n gl)) := by
  have hz := mx_zero
  have sz : (mcs n l).size = 122 := mcs_size (by rw [hl]; exact dsq_le hn)
  have s1 := mcs_one n l
  have CO := Lib.hid (show ∀ W, Below w.heap.size w W → Calls Try.prog 67 #[.agg #[.int .i64 n, .slice ao l.length cap]] W (fun e w' => e = .returned (.tuple #[.agg (mcs n l), .bool true]) ∧ Below W.heap.size W w') from fun W h => by
    have := open_gen n l ao cap W (hA.on h)
    rwa [rdW_ok hc, show okB n l = true by unfold okB; rw [hc]; rfl] at this)
  have HCF := Lib.hid CF
  have HMZ := Lib.hid (fun (b : Nat) (W : World) (h : Mx W b n gl) => mzone_any b n gl W hn h h64)
  have HLE := Lib.hid hl
  generalize l.length = len at CO ⊢
  obtain ⟨w0, hw0⟩ : ∃ w0, w0 = (w.alloc (.cells #[.int .i64 n, .slice ao len cap] 25)).alloc (.cells #[.int .i64 0, .slice none 0 0] 25) := ⟨_, rfl⟩
  have bx : Two w0 w.heap.size (.int .i64 n) (.slice ao len cap) := by rw [hw0]; exact (Two.made _ _ _ _).alloc _
  have rs : Two w0 (w.heap.size + 1) (.int .i64 0) (.slice none 0 0) := by
    rw [hw0]
    have := Two.made (w.alloc (.cells #[.int .i64 n, .slice ao len cap] 25)) (.int .i64 0) (.slice none 0 0) 25
    simpa using this
  have E0 := Lib.hid (show Below w.heap.size w w0 by rw [hw0]; exact past_two (Below.refl _ _))
  clear hA hl hc h64 CF
  go_enter Try.func76, Try.ntmps76
  go_wp2_with fail
  rw [← hw0]
  clear hw0
  obtain ⟨b0, b1, b2, b3⟩ := bx.facts
  go_wp2_with fail
  refine (CO.out _ E0.out).mono ?_
  rintro e w1 ⟨rfl, hb⟩
  have rs1 := rs.kept hb
  have HB := Lib.hid (below_on E0.out hb)
  have hlt := rs1.lt
  have hsz := HB.out.size
  have rs2 := (rs1.alloc (.cells (mcs 0 []) 80))
  obtain ⟨w2, hw2⟩ : ∃ w2, w2 = (w1.alloc (.cells (mcs 0 []) 80)).setRow w1.heap.size (mcs n l) := ⟨_, rfl⟩
  have rs3 : Two w2 (w.heap.size + 1) (.int .i64 0) (.slice none 0 0) := by rw [hw2]; exact rs2.kept_row (by omega) _
  have M2 : Mx w2 w1.heap.size n l := by rw [hw2]; exact ⟨((Var.made w1).put (mcs n l) sz).1, HLE.out⟩
  have HRS := Lib.hid rs3
  have HM2 := Lib.hid M2
  have HE := Lib.hid (show Below w.heap.size w w2 by rw [hw2]; exact Below.setRow (HB.out.alloc hsz _) hsz _)
  clear bx rs rs1 rs2 rs3 M2 hb b0 b1 b2 b3
  go_wp2_with (refine wpl_store rfl _ _ rfl _ _ rfl rfl _ (Var.made _) sz s1 ?_)
  rw [← hw2]
  clear hw2
  go_wp2_with fail
  refine (HCF.out _ _ HE.out hsz HM2.out).mono ?_
  rintro e w3 ⟨rfl, hM⟩
  have HM3 := Lib.hid hM.1
  have E3 := Lib.hid (grown_over HE.out hM.2 hsz)
  have rs3 := HRS.out.grown hM.2 (by omega)
  have HR3 := Lib.hid rs3
  clear hM rs3 HF HCF
  go_wp2_with fail
  refine (HMZ.out _ _ HM3.out).mono ?_
  intro e w4 hG
  obtain ⟨hg4, hres⟩ := hG
  have E4 := Lib.hid (grown_over E3.out hg4 hsz)
  obtain ⟨q0, q1, q2, q3⟩ := (HR3.out.grown hg4 (by omega)).facts
  have h34 := E3.out.size
  rcases hres with ⟨he, g, c, rfl, hgl, hO⟩ | ⟨he, rfl⟩
  · have HO := Lib.hid hO
    have HEE := Lib.hid he
    clear hO hg4 he
    go_wp2_with fail
    refine bodyPost_ret (v := .tuple #[.agg #[.int .i64 n, .slice (some ⟨g, 0, none⟩) (Zo.clo n gl).length c], .int .i64 0]) (by simp [results, Try.results76, go_sem, q0, q1]) rfl ⟨?_, Or.inl ⟨HEE.out, g, c, rfl, by omega, put_far HO.out (by have := HR3.out.lt; omega) _ _⟩⟩
    exact (E4.out.setCell (by show w.heap.size ≤ w.heap.size + 1; omega) _).setCell (by show w.heap.size ≤ w.heap.size + 1; omega) _
  · have HEE := Lib.hid he
    clear hg4 he
    go_wp2_with fail
    refine bodyPost_ret (v := .tuple #[.agg #[.int .i64 0, .slice none 0 0], .int .i64 (cloE n gl)]) (by simp [results, Try.results76, go_sem, q0, q1]) rfl ⟨?_, Or.inr ⟨HEE.out, rfl⟩⟩
    exact (E4.out.setCell (by show w.heap.size ≤ w.heap.size + 1; omega) _).setCell (by show w.heap.size ≤ w.heap.size + 1; omega) _
end Go.Proofs.Ytbnebinpemejlaa

namespace Go.Proofs.Ytbnebinpemejlaa.Zo

theorem At_ext {n : Nat} {x y : List Int} (hx : x.length = (n + 1) * (n + 1)) (hy : y.length = (n + 1) * (n + 1)) (h : ∀ a b, a ≤ n → b ≤ n → At n x a b = At n y a b) : x = y := by
  refine List.ext_getElem (by omega) fun i h1 h2 => ?_
  have c1 : i / (n + 1) ≤ n := by
    have : i < (n + 1) * (n + 1) := by omega
    have := Nat.div_lt_of_lt_mul this
    omega
  have c2 : i % (n + 1) ≤ n := by have := Nat.mod_lt i (show 0 < n + 1 by omega); omega
  have := h _ _ c1 c2
  unfold At ix gt at this
  rw [show i / (n + 1) * (n + 1) + i % (n + 1) = i by rw [Nat.mul_comm]; exact Nat.div_add_mod i (n + 1)] at this
  simpa [h1, h2] using this

theorem pre_at {n : Nat} {l : List Int} (hl : l.length = (n + 1) * (n + 1)) {a b : Nat} (ha : a ≤ n) (hb : b ≤ n) : At n (pre n l) a b = if a = 0 ∨ a = b then min (At n l a b) 1 else At n l a b := by
  have h : ∀ t, t ≤ n + 1 → ((List.range t).foldl (st1 n) l).length = (n + 1) * (n + 1) ∧ At n ((List.range t).foldl (st1 n) l) a b = if (a = 0 ∨ a = b) ∧ b < t then min (At n l a b) 1 else At n l a b := by
    intro t
    induction t with
    | zero => intro _; exact ⟨hl, by simp⟩
    | succ t ih =>
      intro ht
      obtain ⟨h1, h2⟩ := ih (by omega)
      rw [fold_succ]
      generalize (List.range t).foldl (st1 n) l = Y at *
      refine ⟨by simpa [st1] using h1, ?_⟩
      have e : st1 n Y t = (Y.set (ix n 0 t) (min (At n Y 0 t) 1)).set (ix n t t) (min (At n (Y.set (ix n 0 t) (min (At n Y 0 t) 1)) t t) 1) := rfl
      have l1 : (Y.set (ix n 0 t) (min (At n Y 0 t) 1)).length = (n + 1) * (n + 1) := by simpa using h1
      rw [e, At_set l1 (by omega) (by omega) _ hb, At_set h1 (by omega) (by omega) _ hb, At_set h1 (by omega) (by omega) _ (by omega)]
      by_cases c : b = t
      · subst c
        by_cases ca : a = 0
        · subst ca
          have e1 : At n Y 0 b = At n l 0 b := by rw [h2, if_neg (by omega)]
          by_cases cb : b = 0
          · subst cb; simp [e1]
          · rw [if_neg (by omega), if_pos ⟨rfl, rfl⟩, if_pos ⟨Or.inl rfl, by omega⟩, e1]
        · by_cases cb : a = b
          · subst cb
            have e1 : At n Y a a = At n l a a := by rw [h2, if_neg (by omega)]
            rw [if_pos ⟨rfl, rfl⟩, if_neg (by omega), if_pos ⟨Or.inr rfl, by omega⟩, e1]
          · rw [if_neg (by omega), if_neg (by omega), if_neg (by omega), h2, if_neg (by omega)]
      · rw [if_neg (by omega), if_neg (by omega), h2]
        by_cases ca : (a = 0 ∨ a = b) ∧ b < t
        · rw [if_pos ca, if_pos ⟨ca.1, by omega⟩]
        · rw [if_neg ca, if_neg (by omega)]
  have := (h (n + 1) (Nat.le_refl _)).2
  rw [show (List.range (n + 1)).foldl (st1 n) l = pre n l from rfl] at this
  rw [this]
  by_cases c : a = 0 ∨ a = b
  · rw [if_pos ⟨c, by omega⟩, if_pos c]
  · rw [if_neg (by omega), if_neg c]

theorem pre_len {n : Nat} {l : List Int} (hl : l.length = (n + 1) * (n + 1)) : (pre n l).length = (n + 1) * (n + 1) := rnd_length hl 0 (by omega)

theorem pre_eq {n : Nat} {x y : List Int} (hx : x.length = (n + 1) * (n + 1)) (hy : y.length = (n + 1) * (n + 1))
    (h : ∀ a b, a ≤ n → b ≤ n → (a ≠ 0 ∧ a ≠ b → At n x a b = At n y a b) ∧ (a = 0 ∨ a = b → min (At n x a b) 1 = min (At n y a b) 1)) : pre n x = pre n y := by
  refine At_ext (pre_len hx) (pre_len hy) fun a b ha hb => ?_
  rw [pre_at hx ha hb, pre_at hy ha hb]
  by_cases c : a = 0 ∨ a = b
  · rw [if_pos c, if_pos c]; exact (h a b ha hb).2 c
  · rw [if_neg c, if_neg c]; exact (h a b ha hb).1 (by omega)

theorem clo_pre {n : Nat} {x y : List Int} (h : pre n x = pre n y) : clo n x = clo n y := by unfold clo; rw [h]

/-- A fold of stores: each place gets its own value. -/
theorem fold_at {n : Nat} {N : Nat} {f : List Int → Nat → List Int} {p : Nat → Nat → Nat → Bool} {v : Int} (hf : ∀ (x : List Int) t, t < N → x.length = (n + 1) * (n + 1) → (f x t).length = (n + 1) * (n + 1) ∧ ∀ a b, a ≤ n → b ≤ n → At n (f x t) a b = if p t a b then v else At n x a b)
    {l : List Int} (hl : l.length = (n + 1) * (n + 1)) : ∀ t, t ≤ N → ((List.range t).foldl f l).length = (n + 1) * (n + 1) ∧ ∀ a b, a ≤ n → b ≤ n → At n ((List.range t).foldl f l) a b = if (List.range t).any (fun s => p s a b) then v else At n l a b := by
  intro t
  induction t with
  | zero => intro _; exact ⟨hl, fun a b _ _ => by simp⟩
  | succ t ih =>
    intro ht
    obtain ⟨h1, h2⟩ := ih (by omega)
    rw [fold_succ]
    obtain ⟨h3, h4⟩ := hf _ t (by omega) h1
    refine ⟨h3, fun a b ha hb => ?_⟩
    rw [h4 a b ha hb, h2 a b ha hb, List.range_succ, List.any_append]
    cases h5 : p t a b <;> cases h6 : (List.range t).any (fun s => p s a b) <;> simp [h5]
end Go.Proofs.Ytbnebinpemejlaa.Zo

namespace Go.Proofs.Ytbnebinpemejlaa
open Go.RowKit

def frS (n i : Nat) (x : List Int) (t : Nat) : List Int := if t = i then x else (x.set (Zo.ix n i t) 1099511627776).set (Zo.ix n t i) 1099511627776

def frL (n i : Nat) (l : List Int) : List Int := (List.range (n + 1)).foldl (frS n i) l

theorem frS_len (n i : Nat) (x : List Int) (t : Nat) : (frS n i x t).length = x.length := by unfold frS; split <;> simp

theorem frL_len (n i : Nat) (l : List Int) : (frL n i l).length = l.length := fold_len (frS_len n i) l (n + 1)

set_option maxHeartbeats 800000 in
theorem fr_out0 (n : Nat) (l : List Int) (a : Addr) (cap : Nat) (i : Int) (w : World) (hn : n ≤ 10) (hl : l.length = (n + 1) * (n + 1)) (hR : Rd w a l) (hc : chkE n l = 0) (hi : i < 1) :
    Calls Try.prog 33 #[.agg #[.int .i64 n, .slice (some a) l.length cap], .int .i64 i] w (ZRes w 0 [] 2) := by
  obtain ⟨len, hlen⟩ : ∃ len, len = l.length := ⟨_, rfl⟩
  obtain ⟨w0, hw0⟩ : ∃ w0, w0 = (w.alloc (.cells #[.int .i64 n, .slice (some a) len cap] 25)).alloc (.cells #[.int .i64 0, .slice none 0 0] 25) := ⟨_, rfl⟩
  have bx : Two w0 w.heap.size (.int .i64 n) (.slice (some a) len cap) := by rw [hw0]; exact (Two.made _ _ _ _).alloc _
  have rs : Two w0 (w.heap.size + 1) (.int .i64 0) (.slice none 0 0) := by
    rw [hw0]
    have := Two.made (w.alloc (.cells #[.int .i64 n, .slice (some a) len cap] 25)) (.int .i64 0) (.slice none 0 0) 25
    simpa using this
  have z0 : w0.heap.size = w.heap.size + 2 := by rw [hw0]; simp
  have e0 : Below w.heap.size w w0 := by rw [hw0]; exact past_two (Below.refl _ _)
  have R0 := hR.on e0
  have CK : Hid (∀ W, Rd W a l → Calls Try.prog 18 #[.agg #[.int .i64 n, .slice (some a) len cap]] W (Made (.int .i64 0) W)) := Lib.hid fun W h => by have := check_any n l a cap W hn hl h; rw [hc, ← hlen] at this; exact this
  have CP : Hid (∀ W, Rd W a l → Calls Try.prog 66 #[.agg #[.int .i64 n, .slice (some a) len cap]] W (fun e w' => ∃ g c, e = .returned (.agg #[.int .i64 n, .slice (some ⟨g, 0, none⟩) len c]) ∧ W.heap.size ≤ g ∧ Own w' g c l ∧ Below W.heap.size W w')) := Lib.hid fun W h => by have := copied_any n l a cap W (by rw [hl]; exact dsq_pos n) (by rw [hl]; have := dsq_le hn; omega) h; rw [← hlen] at this; exact this
  have HR := Lib.hid R0
  have HL := Lib.hid hl
  have HLn := Lib.hid hlen
  have E0 := Lib.hid e0
  rw [← hlen]
  clear hR R0 hl hlen hc e0
  go_enter Try.func33, Try.ntmps33
  go_wp2_with fail
  rw [← hw0]
  clear hw0
  obtain ⟨b0, b1, b2, b3⟩ := bx.facts
  go_wp2_with fail
  refine (CK.out _ HR.out).mono ?_
  rintro e w1 ⟨rfl, hb1⟩
  clear b0 b1 b2 b3
  replace bx := bx.kept hb1
  replace rs := rs.kept hb1
  have HR1 := Lib.hid (HR.out.on hb1)
  have E1 := Lib.hid (below_on E0.out hb1)
  have z1 := hb1.size
  clear hb1 HR E0
  obtain ⟨b0, b1, b2, b3⟩ := bx.facts
  clear b0 b1 b2 b3
  obtain ⟨b0, b1, b2, b3⟩ := rs.facts
  obtain ⟨c0, c1, _, _⟩ := bx.facts
  go_wp2_with fail
  refine bodyPost_ret (v := .tuple #[.agg #[.int .i64 0, .slice none 0 0], .int .i64 2]) (by simp [results, Try.results33, go_sem, b0, b1]) rfl (zres_bad ?_)
  exact (E1.out.setCell (by show w.heap.size ≤ w.heap.size + 1; omega) _).setCell (by show w.heap.size ≤ w.heap.size + 1; omega) _

set_option maxHeartbeats 800000 in
theorem fr_out1 (n : Nat) (l : List Int) (a : Addr) (cap : Nat) (i : Int) (w : World) (hn : n ≤ 10) (hl : l.length = (n + 1) * (n + 1)) (hR : Rd w a l) (hc : chkE n l = 0) (hi : ¬ i < 1 ∧ (n : Int) < i) :
    Calls Try.prog 33 #[.agg #[.int .i64 n, .slice (some a) l.length cap], .int .i64 i] w (ZRes w 0 [] 2) := by
  obtain ⟨h1, h2⟩ := hi
  obtain ⟨len, hlen⟩ : ∃ len, len = l.length := ⟨_, rfl⟩
  obtain ⟨w0, hw0⟩ : ∃ w0, w0 = (w.alloc (.cells #[.int .i64 n, .slice (some a) len cap] 25)).alloc (.cells #[.int .i64 0, .slice none 0 0] 25) := ⟨_, rfl⟩
  have bx : Two w0 w.heap.size (.int .i64 n) (.slice (some a) len cap) := by rw [hw0]; exact (Two.made _ _ _ _).alloc _
  have rs : Two w0 (w.heap.size + 1) (.int .i64 0) (.slice none 0 0) := by
    rw [hw0]
    have := Two.made (w.alloc (.cells #[.int .i64 n, .slice (some a) len cap] 25)) (.int .i64 0) (.slice none 0 0) 25
    simpa using this
  have z0 : w0.heap.size = w.heap.size + 2 := by rw [hw0]; simp
  have e0 : Below w.heap.size w w0 := by rw [hw0]; exact past_two (Below.refl _ _)
  have R0 := hR.on e0
  have CK : Hid (∀ W, Rd W a l → Calls Try.prog 18 #[.agg #[.int .i64 n, .slice (some a) len cap]] W (Made (.int .i64 0) W)) := Lib.hid fun W h => by have := check_any n l a cap W hn hl h; rw [hc, ← hlen] at this; exact this
  have CP : Hid (∀ W, Rd W a l → Calls Try.prog 66 #[.agg #[.int .i64 n, .slice (some a) len cap]] W (fun e w' => ∃ g c, e = .returned (.agg #[.int .i64 n, .slice (some ⟨g, 0, none⟩) len c]) ∧ W.heap.size ≤ g ∧ Own w' g c l ∧ Below W.heap.size W w')) := Lib.hid fun W h => by have := copied_any n l a cap W (by rw [hl]; exact dsq_pos n) (by rw [hl]; have := dsq_le hn; omega) h; rw [← hlen] at this; exact this
  have HR := Lib.hid R0
  have HL := Lib.hid hl
  have HLn := Lib.hid hlen
  have E0 := Lib.hid e0
  rw [← hlen]
  clear hR R0 hl hlen hc e0
  go_enter Try.func33, Try.ntmps33
  go_wp2_with fail
  rw [← hw0]
  clear hw0
  obtain ⟨b0, b1, b2, b3⟩ := bx.facts
  go_wp2_with fail
  refine (CK.out _ HR.out).mono ?_
  rintro e w1 ⟨rfl, hb1⟩
  clear b0 b1 b2 b3
  replace bx := bx.kept hb1
  replace rs := rs.kept hb1
  have HR1 := Lib.hid (HR.out.on hb1)
  have E1 := Lib.hid (below_on E0.out hb1)
  have z1 := hb1.size
  clear hb1 HR E0
  obtain ⟨b0, b1, b2, b3⟩ := bx.facts
  clear b0 b1 b2 b3
  obtain ⟨b0, b1, b2, b3⟩ := rs.facts
  obtain ⟨c0, c1, _, _⟩ := bx.facts
  go_wp2_with fail
  refine bodyPost_ret (v := .tuple #[.agg #[.int .i64 0, .slice none 0 0], .int .i64 2]) (by simp [results, Try.results33, go_sem, b0, b1]) rfl (zres_bad ?_)
  exact (E1.out.setCell (by show w.heap.size ≤ w.heap.size + 1; omega) _).setCell (by show w.heap.size ≤ w.heap.size + 1; omega) _

set_option maxHeartbeats 1600000 in
theorem fr_any (n : Nat) (l : List Int) (a : Addr) (cap : Nat) (i : Nat) (w : World) (hn : n ≤ 10) (hl : l.length = (n + 1) * (n + 1)) (hR : Rd w a l) (hc : chkE n l = 0) (hi1 : 1 ≤ i) (hi2 : i ≤ n) :
    Calls Try.prog 33 #[.agg #[.int .i64 n, .slice (some a) l.length cap], .int .i64 i] w (ZRes w n (Zo.clo n (frL n i l)) (cloE n (frL n i l))) := by
  obtain ⟨len, hlen⟩ : ∃ len, len = l.length := ⟨_, rfl⟩
  obtain ⟨w0, hw0⟩ : ∃ w0, w0 = (w.alloc (.cells #[.int .i64 n, .slice (some a) len cap] 25)).alloc (.cells #[.int .i64 0, .slice none 0 0] 25) := ⟨_, rfl⟩
  have bx : Two w0 w.heap.size (.int .i64 n) (.slice (some a) len cap) := by rw [hw0]; exact (Two.made _ _ _ _).alloc _
  have rs : Two w0 (w.heap.size + 1) (.int .i64 0) (.slice none 0 0) := by
    rw [hw0]
    have := Two.made (w.alloc (.cells #[.int .i64 n, .slice (some a) len cap] 25)) (.int .i64 0) (.slice none 0 0) 25
    simpa using this
  have z0 : w0.heap.size = w.heap.size + 2 := by rw [hw0]; simp
  have e0 : Below w.heap.size w w0 := by rw [hw0]; exact past_two (Below.refl _ _)
  have R0 := hR.on e0
  have CK : Hid (∀ W, Rd W a l → Calls Try.prog 18 #[.agg #[.int .i64 n, .slice (some a) len cap]] W (Made (.int .i64 0) W)) := Lib.hid fun W h => by have := check_any n l a cap W hn hl h; rw [hc, ← hlen] at this; exact this
  have CP : Hid (∀ W, Rd W a l → Calls Try.prog 66 #[.agg #[.int .i64 n, .slice (some a) len cap]] W (fun e w' => ∃ g c, e = .returned (.agg #[.int .i64 n, .slice (some ⟨g, 0, none⟩) len c]) ∧ W.heap.size ≤ g ∧ Own w' g c l ∧ Below W.heap.size W w')) := Lib.hid fun W h => by have := copied_any n l a cap W (by rw [hl]; exact dsq_pos n) (by rw [hl]; have := dsq_le hn; omega) h; rw [← hlen] at this; exact this
  have HR := Lib.hid R0
  have HL := Lib.hid hl
  have HLn := Lib.hid hlen
  have E0 := Lib.hid e0
  rw [← hlen]
  clear hR R0 hl hlen hc e0
  go_enter Try.func33, Try.ntmps33
  go_wp2_with fail
  rw [← hw0]
  clear hw0
  obtain ⟨b0, b1, b2, b3⟩ := bx.facts
  go_wp2_with fail
  refine (CK.out _ HR.out).mono ?_
  rintro e w1 ⟨rfl, hb1⟩
  clear b0 b1 b2 b3
  replace bx := bx.kept hb1
  replace rs := rs.kept hb1
  have HR1 := Lib.hid (HR.out.on hb1)
  have E1 := Lib.hid (below_on E0.out hb1)
  have z1 := hb1.size
  clear hb1 HR E0
  obtain ⟨b0, b1, b2, b3⟩ := bx.facts
  go_wp2_with fail
  refine (CP.out _ HR1.out).mono ?_
  rintro e w2 ⟨g, c, rfl, hg, ho, hb2⟩
  clear b0 b1 b2 b3
  replace bx := bx.kept hb2
  replace rs := rs.kept hb2
  have E2 := Lib.hid (below_on E1.out hb2)
  have z2 := hb2.size
  clear hb2 E1 HR1
  obtain ⟨b0, b1, b2, b3⟩ := bx.facts
  obtain ⟨w3, hw3⟩ : ∃ w3, w3 = (w2.setCell ⟨w.heap.size, 0, none⟩ (.int .i64 n)).setCell ⟨w.heap.size, 1, none⟩ (.slice (some ⟨g, 0, none⟩) len c) := ⟨_, rfl⟩
  have bx3 : Two w3 w.heap.size (.int .i64 n) (.slice (some ⟨g, 0, none⟩) len c) := by rw [hw3]; exact bx.put _ _
  have rs3 : Two w3 (w.heap.size + 1) (.int .i64 0) (.slice none 0 0) := by rw [hw3]; exact rs.aside (by omega) _ _
  have O3 : Own w3 g c l := by rw [hw3]; exact put_far ho (by omega) _ _
  have E3 : Below w.heap.size w w3 := by rw [hw3]; exact (E2.out.setCell (by show w.heap.size ≤ w.heap.size; omega) _).setCell (by show w.heap.size ≤ w.heap.size; omega) _
  have S3 := Lib.hid (show St w3 g c l w3 from ⟨O3, World.grownBy.refl _ _⟩)
  have HE3 := Lib.hid E3
  clear ho O3 E3 E2 rs bx
  go_wp2_with fail
  rw [← hw3]
  clear hw3 b0 b1 b2 b3
  go_loopw [6] (fun s wr => ∃ (t : Nat) (x : List Int), t ≤ n + 1 ∧ s = .int .i64 t ∧ x.length = len ∧ Hid (x = (List.range t).foldl (frS n i) l) ∧ Hid (St w3 g c x wr)) (fun s _ => n + 1 - (intOf s).toNat)
  case atStart => exact ⟨0, l, by omega, rfl, HLn.out.symm, Lib.hid rfl, S3⟩
  case round =>
    obtain ⟨t, x, ht, rfl, hx, HX, HT⟩ := hrel
    have bx4 := bx3.grown HT.out.2 (by omega)
    obtain ⟨b0, b1, b2, b3⟩ := bx4.facts
    have lx : x.length = (n + 1) * (n + 1) := by rw [hx, HLn.out, HL.out]
    by_cases htn : t ≤ n
    · by_cases hti : t = i
      · have T0 : ((t : Int) != (i : Int)) = false := by simp; omega
        have HS := Lib.hid (show frS n i x t = x by unfold frS; rw [if_pos hti])
        clear hti
        go_wp2_with fail
        go_roundw
        case rel => exact ⟨t + 1, x, by omega, by go_num, hx, Lib.hid (by rw [Zo.fold_succ, ← HX.out, HS.out]), HT⟩
        case measure => simp [intOf]; omega
      · have T0 : ((t : Int) != (i : Int)) = true := by simp; omega
        have HS := Lib.hid (show frS n i x t = (x.set (Zo.ix n i t) 1099511627776).set (Zo.ix n t i) 1099511627776 by unfold frS; rw [if_neg hti])
        have SE : Hid (∀ w' : World, St w3 g c x w' → Calls Try.prog 79 #[.agg #[.int .i64 n, .slice (some ⟨g, 0, none⟩) len c], .int .i64 i, .int .i64 t, .int .i64 1099511627776] w' (fun e w' => e = .returned (.tuple #[]) ∧ St w3 g c (x.set (Zo.ix n i t) 1099511627776) w')) :=
          Lib.hid fun w' h => by have := set_st (i := i) (j := t) 1099511627776 hn hi2 htn lx h; rw [hx] at this; exact this
        have SE2 : Hid (∀ w' : World, St w3 g c (x.set (Zo.ix n i t) 1099511627776) w' → Calls Try.prog 79 #[.agg #[.int .i64 n, .slice (some ⟨g, 0, none⟩) len c], .int .i64 t, .int .i64 i, .int .i64 1099511627776] w' (fun e w' => e = .returned (.tuple #[]) ∧ St w3 g c ((x.set (Zo.ix n i t) 1099511627776).set (Zo.ix n t i) 1099511627776) w')) :=
          Lib.hid fun w' h => by have := set_st (i := t) (j := i) 1099511627776 hn htn hi2 (by simpa using lx) h; rw [List.length_set, hx] at this; exact this
        clear hti
        go_wp2_with fail
        refine (SE.out _ HT.out).mono ?_
        rintro e w4 ⟨rfl, s4⟩
        clear b0 b1 b2 b3
        have bx5 := bx3.grown s4.2 (by omega)
        obtain ⟨b0, b1, b2, b3⟩ := bx5.facts
        have S4 := Lib.hid s4
        clear s4
        go_wp2_with fail
        refine (SE2.out _ S4.out).mono ?_
        rintro e w5 ⟨rfl, s5⟩
        have S5 := Lib.hid s5
        clear s5
        go_wp2_with fail
        go_roundw
        case rel => exact ⟨t + 1, _, by omega, by go_num, by simpa using hx, Lib.hid (by rw [Zo.fold_succ, ← HX.out, HS.out]), S5⟩
        case measure => simp [intOf]; omega
    · have HX2 := Lib.hid (show x = frL n i l by rw [HX.out, show t = n + 1 by omega]; rfl)
      by_cases hE : cloE n x = 0
      · have CL : Hid (∀ W, Own W g c x → Calls Try.prog 65 #[.agg #[.int .i64 n, .slice (some ⟨g, 0, none⟩) len c]] W (fun e w' => e = .returned (.tuple #[.agg #[.int .i64 n, .slice (some ⟨g, 0, none⟩) len c], .int .i64 0]) ∧ Own w' g c (Zo.clo n x) ∧ W.grownBy w' (some g))) := Lib.hid fun W h => by have := closed_ok W hn lx h hE; rw [hx] at this; exact this
        have HEE := Lib.hid hE
        clear hE
        go_wp2_with fail
        refine (CL.out _ HT.out.1).mono ?_
        rintro e w5 ⟨rfl, ho5, hg5⟩
        have rs5 := (rs3.grown HT.out.2 (by omega)).grown hg5 (by omega)
        obtain ⟨q0, q1, q2, q3⟩ := rs5.facts
        have E5 := Lib.hid (grown_over (grown_over HE3.out HT.out.2 (by omega)) hg5 (by omega))
        have HO5 := Lib.hid ho5
        clear ho5 hg5
        go_wp2_with fail
        refine bodyPost_ret (v := .tuple #[.agg #[.int .i64 n, .slice (some ⟨g, 0, none⟩) len c], .int .i64 0]) (by simp [results, Try.results33, go_sem, q0, q1]) rfl ⟨(E5.out.setCell (by show w.heap.size ≤ w.heap.size + 1; omega) _).setCell (by show w.heap.size ≤ w.heap.size + 1; omega) _, Or.inl ⟨by rw [← HX2.out]; exact HEE.out, g, c, ?_, by omega, ?_⟩⟩
        · rw [Zo.clo_length, frL_len, ← HLn.out]
        · rw [← HX2.out]; exact put_far HO5.out (by omega) _ _
      · have CL : Hid (∀ W, Own W g c x → Calls Try.prog 65 #[.agg #[.int .i64 n, .slice (some ⟨g, 0, none⟩) len c]] W (fun e w' => e = .returned (.tuple #[.agg #[.int .i64 0, .slice none 0 0], .int .i64 (cloE n x)]) ∧ Own w' g c (Zo.clo n x) ∧ W.grownBy w' (some g))) := Lib.hid fun W h => by have := closed_no W hn lx h hE; rw [hx] at this; exact this
        have HEE := Lib.hid hE
        clear hE
        go_wp2_with fail
        refine (CL.out _ HT.out.1).mono ?_
        rintro e w5 ⟨rfl, ho5, hg5⟩
        have rs5 := (rs3.grown HT.out.2 (by omega)).grown hg5 (by omega)
        obtain ⟨q0, q1, q2, q3⟩ := rs5.facts
        have E5 := Lib.hid (grown_over (grown_over HE3.out HT.out.2 (by omega)) hg5 (by omega))
        have HO5 := Lib.hid ho5
        clear ho5 hg5
        go_wp2_with fail
        refine bodyPost_ret (v := .tuple #[.agg #[.int .i64 0, .slice none 0 0], .int .i64 (cloE n x)]) (by simp [results, Try.results33, go_sem, q0, q1]) rfl ⟨(E5.out.setCell (by show w.heap.size ≤ w.heap.size + 1; omega) _).setCell (by show w.heap.size ≤ w.heap.size + 1; omega) _, Or.inr ⟨by rw [← HX2.out]; exact HEE.out, ?_⟩⟩
        rw [HX2.out]

def frB (N i : Int) : Bool := decide (1 ≤ i ∧ i ≤ N)

def frE (N : Int) (l : List Int) (i : Int) : Int := if chkE N l = 0 ∧ 1 ≤ i ∧ i ≤ N then cloE N.toNat (frL N.toNat i.toNat l) else 2

theorem fr_gen (N : Int) (l : List Int) (ao : Option Addr) (cap : Nat) (i : Int) (w : World) (hA : Arg w ao l) :
    Calls Try.prog 33 #[.agg #[.int .i64 N, .slice ao l.length cap], .int .i64 i] w (ZRes w N (Zo.clo N.toNat (frL N.toNat i.toNat l)) (frE N l i)) := by
  by_cases hc : chkE N l = 0
  · obtain ⟨n, rfl, hn, hl, hne⟩ := chk_ok hc
    obtain ⟨a, rfl, hR⟩ := hA hne
    by_cases h1 : i < 1
    · exact (fr_out0 n l a cap i w hn hl hR hc h1).mono fun e w' h => h.bad (by unfold frE; rw [if_neg (by omega)])
    by_cases h2 : (n : Int) < i
    · exact (fr_out1 n l a cap i w hn hl hR hc ⟨h1, h2⟩).mono fun e w' h => h.bad (by unfold frE; rw [if_neg (by omega)])
    obtain ⟨k, rfl⟩ : ∃ k : Nat, i = k := ⟨i.toNat, by omega⟩
    have := fr_any n l a cap k w hn hl hR hc (by omega) (by omega)
    rw [show frE (n : Int) l (k : Int) = cloE n (frL n k l) by unfold frE; rw [if_pos ⟨hc, by omega, by omega⟩]; rfl]
    exact this
  · exact (fr_bad N l ao cap i w hA (chk_two hc)).mono fun e w' h => h.bad (by unfold frE; rw [if_neg (fun x => hc x.1)])
end Go.Proofs.Ytbnebinpemejlaa
