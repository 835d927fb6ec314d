/- A part. -/
import Derived.Deep.RegionHeld3
import Derived.KernelRfl
import Derived.Test.YthjapmdfcbngmaaGreatWp9
import Derived.Test.YthjapmdfcbngmaaGreatWp10
import Derived.Deep.RegionHeld

namespace Go.Proofs.YthjapmdfcbngmaaGreat

theorem tkH {P : Program} {md : Region.Mode} {ops : Array Oper} {Q : Exit → Act → World → Prop} {S : World → Prop} {i : Nat} {oi : Oper} {v : Value} {fuel : Nat} {listed : Array Bool} {a : Act} {w : World} (hi : ops[i]? = some oi) (hy : YieldsIf P ops S oi v a) (hS : S w)
    (h : wpAnyH P md ops Q S fuel (listed.setIfInBounds i true) (a.put oi.dst v) w) (hs : Region.noSelect ops = true := by kernel_rfl) (hf : Region.free md ops listed i = true := by kernel_rfl) (hr : (Region.ready md ops listed).contains i = true := by kernel_rfl)
    (hQ : ∀ c a w, Q (.panic c) (a.put oi.dst v) w → Q (.panic c) a w := by exact fun _ _ _ h => h) : wpAnyH P md ops Q S (fuel + 1) listed a w := wpAnyH_take hi hs hf hr hQ hy hS h

theorem sA {α : Type _} {xs : List α} {i : Nat} (h : i < xs.toArray.size) : xs.toArray[i] = xs[i]'(by simpa using h) := List.getElem_toArray h

theorem sB {α : Type _} (a : α) (l : List α) (h : 0 < (a :: l).length) : (a :: l)[0] = a := List.getElem_cons_zero a l h

theorem sC {α : Type _} (a : α) (l : List α) (i : Nat) (h : i + 1 < (a :: l).length) : (a :: l)[i + 1] = l[i]'(by simpa using h) := List.getElem_cons_succ a l i h

theorem sD {α : Type _} (l : List α) (i : Nat) (a : α) : l.toArray.setIfInBounds i a = (l.set i a).toArray := List.setIfInBounds_toArray l i a

theorem sE {α : Type _} {x a : α} {xs : List α} : (x :: xs).set 0 a = a :: xs := List.set_cons_zero

theorem sF {α : Type _} {x a : α} {xs : List α} {i : Nat} : (x :: xs).set (i + 1) a = x :: xs.set i a := List.set_cons_succ

/-- All of them at once. -/
theorem sZ : (∀ (α : Type) (xs : List α) (i : Nat) (h : i < xs.toArray.size), xs.toArray[i] = xs[i]'(by simpa using h)) ∧ (∀ (α : Type) (a : α) (l : List α) (h : 0 < (a :: l).length), (a :: l)[0] = a) ∧
    (∀ (α : Type) (a : α) (l : List α) (i : Nat) (h : i + 1 < (a :: l).length), (a :: l)[i + 1] = l[i]'(by simpa using h)) ∧ (∀ (α : Type) (l : List α) (i : Nat) (a : α), l.toArray.setIfInBounds i a = (l.set i a).toArray) ∧
    (∀ (α : Type) (x a : α) (xs : List α), (x :: xs).set 0 a = a :: xs) ∧ (∀ (α : Type) (x a : α) (xs : List α) (i : Nat), (x :: xs).set (i + 1) a = x :: xs.set i a) :=
  ⟨fun _ _ _ h => sA h, fun _ a l h => sB a l h, fun _ a l i h => sC a l i h, fun _ l i a => sD l i a, fun _ _ _ _ => sE, fun _ _ _ _ _ => sF⟩
end Go.Proofs.YthjapmdfcbngmaaGreat

namespace Go.Proofs.YthjapmdfcbngmaaGreat
open Go.RowKit

def rdW (N : Int) (l : List Int) : Array Value := if rdB N l then mcs N.toNat l else mcs 0 []

theorem read_gen (N : Int) (l : List Int) (ao : Option Addr) (cap : Nat) (w : World) (hA : Arg w ao l) :
    Calls Tryz.prog 153 #[.int .i64 N, .slice ao l.length cap] w (fun e w' => e = .returned (.tuple #[.agg (rdW N l), .bool (rdB N l)]) ∧ Below w.heap.size w w') := by
  cases hd : dimB N
  · refine (read_bad1 N l ao cap w hd).mono ?_
    rintro e w' ⟨rfl, hb⟩
    have : rdB N l = false := by unfold rdB; rw [hd]; rfl
    exact ⟨by unfold rdW; rw [this]; rfl, hb⟩
  · obtain ⟨n, rfl, hn⟩ := dim_nat hd
    by_cases hl : l.length = (n + 1) * (n + 1)
    · have hne : l ≠ [] := by
        intro e; subst e
        have := dsq_pos n
        simp at hl
      obtain ⟨a, rfl, hR⟩ := hA hne
      refine (read_loop n l a cap w hn hl hR).mono ?_
      rintro e w' ⟨rfl, hb⟩
      have : rdB n l = rdL l := by unfold rdB rdL; rw [hd]; simp [hl]
      exact ⟨by unfold rdW rdV; rw [this]; rfl, hb⟩
    · refine (read_bad2 n l ao cap w hn hl).mono ?_
      rintro e w' ⟨rfl, hb⟩
      have : rdB n l = false := by unfold rdB; simp [hl]
      exact ⟨by unfold rdW; rw [this]; rfl, hb⟩

theorem rdB_ok {N : Int} {l : List Int} (h : rdB N l = true) : ∃ n : Nat, N = n ∧ n ≤ 10 ∧ l.length = (n + 1) * (n + 1) ∧ rdL l = true := by
  unfold rdB at h
  simp only [Bool.and_eq_true, decide_eq_true_eq] at h
  obtain ⟨n, rfl, hn⟩ := dim_nat h.1.1
  exact ⟨n, rfl, hn, by simpa using h.1.2, h.2⟩

theorem Var.far {w : World} {b b' : Nat} {cs : Array Value} (h : Var w b cs) (hne : b' ≠ b) (cs' : Array Value) : Var (w.setRow b' cs') b cs := ⟨(setRow_other w b' b cs' (by omega)).trans h.1, h.2⟩

set_option maxRecDepth 100000 in
set_option maxHeartbeats 4000000 in
theorem open_bad (N : Int) (l : List Int) (ao : Option Addr) (cap : Nat) (w : World) (hA : Arg w ao l) (hr : rdB N l = false) :
    Calls Tryz.prog 131 #[.agg #[.int .i64 N, .slice ao l.length cap]] w (fun e w' => e = .returned (.tuple #[.agg (mcs 0 []), .bool false]) ∧ Below w.heap.size w w') := by
  have hz := mx_zero
  have h0 := mx_build0
  have CR := Lib.hid (show ∀ W, Below w.heap.size w W → Calls Tryz.prog 153 #[.int .i64 N, .slice ao l.length cap] W (fun e w' => e = .returned (.tuple #[.agg (mcs 0 []), .bool false]) ∧ Below W.heap.size W w') from fun W h => by
    have := read_gen N l ao cap W (hA.on h)
    rwa [hr, show rdW N l = mcs 0 [] by unfold rdW; rw [hr]; rfl] at this)
  generalize l.length = len at *
  obtain ⟨w0, hw0⟩ : ∃ w0, w0 = (w.alloc (.cells #[.int .i64 N, .slice ao len cap] 36)).alloc (.cells (mcs 0 []) 120) := ⟨_, rfl⟩
  have b0 : w0.cell? ⟨w.heap.size, 0, none⟩ = some (.int .i64 N) := by rw [hw0]; go_simp
  have b1 : w0.cell? ⟨w.heap.size, 1, none⟩ = some (.slice ao len cap) := by rw [hw0]; go_simp
  have V0 : Var w0 (w.heap.size + 1) (mcs 0 []) := by
    rw [hw0]
    have := Var.made (w.alloc (.cells #[.int .i64 N, .slice ao len cap] 36))
    simpa using this
  have E0 := Lib.hid (show Below w.heap.size w w0 by rw [hw0]; exact past_two (Below.refl _ _))
  have HV := Lib.hid V0
  clear V0 hA
  go_enter Tryz.func131, Tryz.ntmps131
  go_wp2_with fail
  rw [← hw0]
  clear hw0
  refine (CR.out _ E0.out).mono ?_
  rintro e w1 ⟨rfl, hb⟩
  have V1 := HV.out.kept hb
  have E1 := below_on E0.out hb
  have hle := E1.size
  have V2 := (V1.kept (one_more (.cells (mcs 0 []) 120)))
  have V3 := V2.far (b' := w1.heap.size) (by have := V1.lt; omega) (mcs 0 [])
  have HV3 := Lib.hid V3
  have HE := Lib.hid E1
  have sz := mcs_size (n := 0) (l := []) (by simp)
  clear V1 V2 V3 E1 hb b0 b1
  go_wp2_with (first | refine wpl_store rfl _ _ rfl _ _ rfl rfl _ (Var.made _) sz (mcs_one _ _) ?_ | refine wpl_store rfl _ _ rfl _ _ rfl rfl _ HV3.out sz (mcs_one _ _) ?_)
  refine bodyPost_ret (results_mx Tryz.results131 _ rfl rfl (HV3.out.put (mcs 0 []) sz)) rfl ⟨rfl, ?_⟩
  exact Below.setRow (Below.setRow (HE.out.alloc hle _) hle _) (by omega) _

theorem yld_load {o : Oper} {a : Act} {w : World} (x : Operand) (ho : o.op = .load 120 x) (b : Nat) (hx : a.eval x = .pointer (some ⟨b, 0, none⟩)) (cs : Array Value) (hv : Var w b cs) :
    (execOp a.eval o).run Tryz.prog w = .ok (.value (.agg cs)) w := by
  unfold execOp
  simp only [ho, hx, Sem.run_bind, mx_loadAt hv.1 hv.2, Result.andThen_ok, Sem.run_pure]

theorem mx_guard (x y : Operand) (xs ys : Array Value) (w : World) : (eqGuard .eql 120 x y (.agg xs) (.agg ys)).run Tryz.prog w = .ok () w := run_eqGuard_agg (P := Tryz.prog) w .eql _ x y xs ys (by kernel_rfl)

theorem yld_eql {o : Oper} {a : Act} {w : World} (x y : Operand) (t : TypeId) (ho : o.op = .binOp .eql 120 x y t) (n : Nat) (l m : List Int) (hl : l.length ≤ 121) (hm : m.length = l.length) (hx : a.eval x = .agg (mcs n l)) (hy : a.eval y = .agg (mcs n m)) :
    (execOp a.eval o).run Tryz.prog w = .ok (.value (.bool (decide (l = m)))) w := by
  unfold execOp
  simp only [ho, hx, hy, Sem.run_bind, mx_guard, run_mx_eq n l m hl hm, Result.andThen_ok, Sem.run_pure]

set_option maxRecDepth 100000 in
set_option maxHeartbeats 4000000 in
theorem open_ok (n : Nat) (l : List Int) (ao : Option Addr) (cap : Nat) (w : World) (hA : Arg w ao l) (hn : n ≤ 10) (hl : l.length = (n + 1) * (n + 1)) (hv : rdL l = true) :
    Calls Tryz.prog 131 #[.agg #[.int .i64 n, .slice ao l.length cap]] w (fun e w' => e = .returned (.tuple #[.agg (mcs n l), .bool (decide (chkE n l = 0))]) ∧ Below w.heap.size w w') := by
  have hz := mx_zero
  have hr : rdB n l = true := by unfold rdB; rw [show dimB (n : Int) = true by unfold dimB; simp; omega]; simp only [Int.toNat_natCast, hl, decide_true, Bool.true_and]; exact hv
  have CR := Lib.hid (show ∀ W, Below w.heap.size w W → Calls Tryz.prog 153 #[.int .i64 n, .slice ao l.length cap] W (fun e w' => e = .returned (.tuple #[.agg (mcs n l), .bool true]) ∧ Below W.heap.size W w') from fun W h => by
    have := read_gen n l ao cap W (hA.on h)
    rwa [hr, show rdW n l = mcs n l by unfold rdW; rw [hr]; rfl] at this)
  have sz : (mcs n l).size = 122 := mcs_size (by rw [hl]; exact dsq_le hn)
  have HC := Lib.hid (chk_iff hn hl hv)
  have HL := Lib.hid hl
  have H64 := Lib.hid (a64_of hv)
  clear hr hA hv
  generalize l.length = len at CR ⊢
  obtain ⟨w0, hw0⟩ : ∃ w0, w0 = (w.alloc (.cells #[.int .i64 n, .slice ao len cap] 36)).alloc (.cells (mcs 0 []) 120) := ⟨_, rfl⟩
  have b0 : w0.cell? ⟨w.heap.size, 0, none⟩ = some (.int .i64 n) := by rw [hw0]; go_simp
  have b1 : w0.cell? ⟨w.heap.size, 1, none⟩ = some (.slice ao len cap) := by rw [hw0]; go_simp
  have V0 : Var w0 (w.heap.size + 1) (mcs 0 []) := by
    rw [hw0]
    have := Var.made (w.alloc (.cells #[.int .i64 n, .slice ao len cap] 36))
    simpa using this
  have E0 := Lib.hid (show Below w.heap.size w w0 by rw [hw0]; exact past_two (Below.refl _ _))
  have HV := Lib.hid V0
  clear V0
  go_enter Tryz.func131, Tryz.ntmps131
  go_wp2_with fail
  rw [← hw0]
  clear hw0
  go_wp2_with fail
  refine (CR.out _ E0.out).mono ?_
  rintro e w1 ⟨rfl, hb⟩
  have V1 := HV.out.kept hb
  have E1 := below_on E0.out hb
  have hle := E1.size
  have V2 := (V1.kept (one_more (.cells (mcs 0 []) 120)))
  have V3 := V2.far (b' := w1.heap.size) (by have := V1.lt; omega) (mcs n l)
  have V4 := (Var.made w1).put (mcs n l) sz
  have HV3 := Lib.hid V3
  have HV4 := Lib.hid V4
  have HE := Lib.hid (show Below w.heap.size w ((w1.alloc (.cells (mcs 0 []) 120)).setRow w1.heap.size (mcs n l)) from Below.setRow (E1.alloc hle _) hle _)
  have hlt := V1.lt
  have V6 := Var.made ((w1.alloc (.cells (mcs 0 []) 120)).setRow w1.heap.size (mcs n l))
  rw [show ((w1.alloc (.cells (mcs 0 []) 120)).setRow w1.heap.size (mcs n l)).heap.size = w1.heap.size + 1 by simp] at V6
  have HV6 := Lib.hid V6
  clear V1 V2 V3 V4 V6 E1 hb b0 b1
  go_wp2_with (first | refine wpl_store rfl _ _ rfl _ _ rfl rfl _ (Var.made _) sz (mcs_one _ _) ?_ | refine wpl_load rfl _ rfl _ rfl _ HV4.out ?_ | refine wpl_store rfl _ _ rfl _ _ rfl rfl _ HV6.out sz (mcs_one _ _) ?_)
  obtain ⟨w6, hw6⟩ : ∃ w6, w6 = (((w1.alloc (.cells (mcs 0 []) 120)).setRow w1.heap.size (mcs n l)).alloc (.cells (mcs 0 []) 120)).setRow (w1.heap.size + 1) (mcs n l) := ⟨_, rfl⟩
  have R6 : Var w6 (w.heap.size + 1) (mcs 0 []) := by rw [hw6]; exact (HV3.out.kept (one_more _)).far (by omega) _
  have M6 : Var w6 w1.heap.size (mcs n l) := by rw [hw6]; exact (HV4.out.kept (one_more _)).far (by omega) _
  have C6 : Mx w6 (w1.heap.size + 1) n l := by rw [hw6]; exact ⟨(HV6.out.put (mcs n l) sz).1, HL.out⟩
  have E6 : Below w.heap.size w w6 := by rw [hw6]; exact Below.setRow (HE.out.alloc (by simp; omega) _) (by omega) _
  rw [← hw6]
  have HR6 := Lib.hid R6
  have HM6 := Lib.hid M6
  have HC6 := Lib.hid C6
  have HE6 := Lib.hid E6
  clear hw6 R6 M6 C6 E6 HV3 HV4 HV6 HE CR
  simp only [Act.put]
  refine wp_region_held_drew (S := fun w' => Var w' w1.heap.size (mcs n l)) (by kernel_rfl) HM6.out (fun h0 => ?_)
  refine tkH (i := 0) (v := .agg (mcs n l)) rfl (Or.inl ⟨by rfl, fun w' hS => yld_load _ rfl _ rfl _ hS⟩) h0 ?_
  simp only [Act.put, sA, sB, sD, sE, sF]
  refine wpAnyH_ready (rs := [1]) (by kernel_rfl) (by simp) (AllReadyH.cons rfl (fun K hK => ?_) AllReadyH.nil)
  rw [if_pos (by rfl)]
  go_simp
  refine (shorten_any (w1.heap.size + 1) n l w6.drew hn HC6.out.drew H64.out).mono ?_
  rintro e w7 ⟨rfl, l', hM, hc⟩
  go_simp
  have M7 : Var w7 w1.heap.size (mcs n l) := ⟨(hM.2.block _ HM6.out.lt (by simp)).trans HM6.out.1, HM6.out.2⟩
  have R7 := Lib.hid (show Var w7 (w.heap.size + 1) (mcs 0 []) from ⟨(hM.2.block _ HR6.out.lt (by simp; omega)).trans HR6.out.1, HR6.out.2⟩)
  have E7 := Lib.hid (grown_over HE6.out.drew hM.2 (by omega))
  have HM7 := Lib.hid hM.1
  have HC7 := Lib.hid hc
  clear hM hc hz HE6 HR6 HM6 HC6
  refine hK.out _ _ M7 (fun h1 => ?_)
  clear hK K h0 M7
  cases hB : cloB n l
  · simp only [Bool.not_false]
    have hcl := HC7.out hB
    subst hcl
    have HE := Lib.hid (show decide (chkE n l = 0) = decide (Zo.clo n l = l) by
      rw [decide_eq_decide, HC.out, hB]; simp)
    refine tkH (i := 2) (v := .bool true) rfl (Or.inl ⟨by rfl, fun w' hS => by go_simp⟩) h1 ?_
    simp only [Act.put, sZ]
    refine tkH (i := 4) (v := .agg (mcs n l)) rfl (Or.inl ⟨by rfl, fun w' hS => yld_load _ rfl _ rfl _ hS⟩) h1 ?_
    simp only [Act.put, sZ]
    have szc : (mcs n (Zo.clo n l)).size = 122 := mcs_size (by rw [Zo.clo_length, hl]; exact dsq_le hn)
    refine wpAnyH_ready (rs := [3, 7]) (by kernel_rfl) (by simp) (AllReadyH.cons rfl (fun K hK => ?_) (AllReadyH.cons rfl (fun K hK => ?_) AllReadyH.nil))
    · rw [if_pos (by rfl)]
      refine wp_load_row _ _ rfl (w1.heap.size + 1) rfl _ (mcs n (Zo.clo n l)) (0, 0) _ HM7.out.1 Tryz.underlying120 rfl (by rw [szc]; exact mx_size) ?_
      refine hK.out _ _ h1 (fun h2 => ?_)
      clear hK K
      simp only [Act.put, sZ]
      refine tkH (i := 5) (v := .bool (decide (Zo.clo n l = l))) rfl (Or.inl ⟨by rfl, fun w' _ => yld_eql _ _ _ rfl n (Zo.clo n l) l (by rw [Zo.clo_length, hl]; exact dsq_le hn) (by rw [Zo.clo_length]) rfl rfl⟩) h2 ?_
      simp only [Act.put, sZ]
      refine tkH (i := 6) (v := .bool (decide (Zo.clo n l = l))) rfl (Or.inl ⟨by rfl, fun w' hS => by go_simp⟩) h2 ?_
      simp only [Act.put, sZ]
      refine wpAnyH_ready (rs := [7]) (by kernel_rfl) (by simp) (AllReadyH.cons rfl (fun K hK => ?_) AllReadyH.nil)
      rw [if_pos (by rfl)]
      refine wp_store_row _ _ _ rfl (w.heap.size + 1) (mcs n l) rfl rfl _ _ R7.out.1 (by rw [sz]; exact mx_size) (by rw [R7.out.2, sz]) (mcs_one _ _) ?_
      refine hK.out _ _ (h2.far (by omega) _) (fun h3 => ?_)
      clear hK K
      simp only [Act.put, sA, sB, sC]
      refine tkH (i := 8) (v := .bool (decide (Zo.clo n l = l))) rfl (Or.inl ⟨by rfl, fun w' hS => by go_simp⟩) h3 ?_
      simp only [Act.put, sZ]
      refine wpAnyH_done (by kernel_rfl) ?_ _
      go_wp2_with fail
      refine bodyPost_ret (results_mx Tryz.results131 _ rfl rfl (R7.out.put (mcs n l) sz)) rfl ⟨by rw [HE.out]; rfl, ?_⟩
      exact Below.setRow E7.out (by omega) _
    · rw [if_pos (by rfl)]
      refine wp_store_row _ _ _ rfl (w.heap.size + 1) (mcs n l) rfl rfl _ _ R7.out.1 (by rw [sz]; exact mx_size) (by rw [R7.out.2, sz]) (mcs_one _ _) ?_
      refine hK.out _ _ (h1.far (by omega) _) (fun h2 => ?_)
      clear hK K
      simp only [Act.put, sA, sB, sC]
      refine wpAnyH_ready (rs := [3]) (by kernel_rfl) (by simp) (AllReadyH.cons rfl (fun K hK => ?_) AllReadyH.nil)
      rw [if_pos (by rfl)]
      refine wp_load_row _ _ rfl (w1.heap.size + 1) rfl _ (mcs n (Zo.clo n l)) (0, 0) _ ((setRow_other w7 _ _ _ (by omega)).trans HM7.out.1) Tryz.underlying120 rfl (by rw [szc]; exact mx_size) ?_
      refine hK.out _ _ h2 (fun h3 => ?_)
      clear hK K
      simp only [Act.put, sZ]
      refine tkH (i := 5) (v := .bool (decide (Zo.clo n l = l))) rfl (Or.inl ⟨by rfl, fun w' _ => yld_eql _ _ _ rfl n (Zo.clo n l) l (by rw [Zo.clo_length, hl]; exact dsq_le hn) (by rw [Zo.clo_length]) rfl rfl⟩) h3 ?_
      simp only [Act.put, sZ]
      refine tkH (i := 6) (v := .bool (decide (Zo.clo n l = l))) rfl (Or.inl ⟨by rfl, fun w' hS => by go_simp⟩) h3 ?_
      simp only [Act.put, sZ]
      refine tkH (i := 8) (v := .bool (decide (Zo.clo n l = l))) rfl (Or.inl ⟨by rfl, fun w' hS => by go_simp⟩) h3 ?_
      simp only [Act.put, sZ]
      refine wpAnyH_done (by kernel_rfl) ?_ _
      go_wp2_with fail
      refine bodyPost_ret (results_mx Tryz.results131 _ rfl rfl (R7.out.put (mcs n l) sz)) rfl ⟨by rw [HE.out]; rfl, ?_⟩
      exact Below.setRow E7.out (by omega) _
  · simp only [Bool.not_true]
    have HE := Lib.hid (show decide (chkE n l = 0) = false by
      rw [decide_eq_false_iff_not, HC.out, hB]; simp)
    clear hB HC7 HM7
    refine tkH (i := 2) (v := .bool false) rfl (Or.inl ⟨by rfl, fun w' hS => by go_simp⟩) h1 ?_
    simp only [Act.put, sZ]
    refine tkH (i := 3) (v := undef) rfl (Or.inr ⟨by rfl, rfl⟩) h1 ?_
    simp only [Act.put, sZ]
    refine tkH (i := 4) (v := undef) rfl (Or.inr ⟨by rfl, rfl⟩) h1 ?_
    simp only [Act.put, sZ]
    refine tkH (i := 5) (v := undef) rfl (Or.inr ⟨by rfl, rfl⟩) h1 ?_
    simp only [Act.put, sZ]
    refine tkH (i := 6) (v := .bool false) rfl (Or.inl ⟨by rfl, fun w' hS => by go_simp⟩) h1 ?_
    simp only [Act.put, sZ]
    refine wpAnyH_ready (rs := [7]) (by kernel_rfl) (by simp) (AllReadyH.cons rfl (fun K hK => ?_) AllReadyH.nil)
    rw [if_pos (by rfl)]
    refine wp_store_row _ _ _ rfl (w.heap.size + 1) (mcs n l) rfl rfl _ _ R7.out.1 (by rw [sz]; exact mx_size) (by rw [R7.out.2, sz]) (mcs_one _ _) ?_
    refine hK.out _ _ (h1.far (by omega) _) (fun h2 => ?_)
    clear hK K
    simp only [Act.put, sA, sB, sC]
    refine tkH (i := 8) (v := .bool false) rfl (Or.inl ⟨by rfl, fun w' hS => by go_simp⟩) h2 ?_
    simp only [Act.put, sZ]
    refine wpAnyH_done (by kernel_rfl) ?_ _
    go_wp2_with fail
    refine bodyPost_ret (results_mx Tryz.results131 _ rfl rfl (R7.out.put (mcs n l) sz)) rfl ⟨by rw [HE.out]; rfl, ?_⟩
    exact Below.setRow E7.out (by omega) _
end Go.Proofs.YthjapmdfcbngmaaGreat
