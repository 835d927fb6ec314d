/- Plain mathematics of Point: the point that is chosen meets the lines.; Which errors Point may tell; where Point tells that there is none.; The law PolyLeaves returns true.; Rows of ratios: cut and joined; 'append' of two lines of package api; new rows of integers.; The contract of package poly's Minus.; The contract of package poly's Minus, for whatever arguments.; Plain mathematics of PolyPieces: the pieces that Minus returns, as Has sees them.; The law PolyPieces returns true. -/
import Derived.Test.YtbhaoaobhgilkaaGreatWm38
import Derived.Test.YtbhaoaobhgilkaaGreatWm31
import Derived.Test.YtbhaoaobhgilkaaGreatWm13
import Derived.Test.YtbhaoaobhgilkaaGreatWm35
import Derived.Test.YtbhaoaobhgilkaaGreatWm24
import Derived.Test.YtbhaoaobhgilkaaGreatWm3
import Derived.Test.YtbhaoaobhgilkaaGreatWm41

namespace Go.Proofs.YtbhaoaobhgilkaaGreat
open Go.Sort

theorem set_zero {X : List Int} {t : Nat} (h : gA X t = 0) : X.set t 0 = X := by
  refine gA_ext (by simp) fun j hj => ?_
  unfold gA
  rw [List.getD_eq_getElem?_getD]
  by_cases e : j = t
  · subst e
    rw [List.getElem?_set_self (by simpa using hj)]
    unfold gA at h
    rw [h]; rfl
  · rw [List.getElem?_set_ne (fun q => e q.symm), ← List.getD_eq_getElem?_getD]

theorem dot_moreX {a X : List Int} {n : Nat} (h : ∀ j, n ≤ j → gA X j = 0) : ∀ k, dotN a X (n + k) = dotN a X n
  | 0 => rfl
  | k + 1 => by
    show dotN a X (n + k) + gA a (n + k) * gA X (n + k) = _
    rw [dot_moreX h k, h _ (by omega)]; simp

theorem sat_lo {x : Ln} {D S r1 r2 : Int} {f : Pq} {a : Int} (hD : 0 < D) (hf : vR f = true) (e : f.1 * (a * D) = (x.b * D - S) * f.2) (ha : a < 0) : (if x.s = true then S * r2 + a * (r1 * D) < x.b * (D * r2) else S * r2 + a * (r1 * D) ≤ x.b * (D * r2)) ↔ Over (r1, r2) f x.s := by
  have hp := vR_pos hf
  obtain ⟨c1, c2⟩ := side_core (r1 := r1) (r2 := r2) hD (show 0 < f.2 by omega) e
  obtain ⟨n1, n2⟩ := neg_side (u := r1 * f.2 - f.1 * r2) ha
  unfold Over
  cases x.s
  · simp only [Bool.false_eq_true, if_false, false_implies, and_true]
    rw [c1, n1]; show _ ↔ f.1 * r2 ≤ r1 * f.2; omega
  · simp only [if_true, true_implies]
    rw [c2, n2]; show _ ↔ f.1 * r2 ≤ r1 * f.2 ∧ f.1 * r2 < r1 * f.2; omega

theorem sat_up {x : Ln} {D S r1 r2 : Int} {f : Pq} {a : Int} (hD : 0 < D) (hf : vR f = true) (e : f.1 * (a * D) = (x.b * D - S) * f.2) (ha : 0 < a) : (if x.s = true then S * r2 + a * (r1 * D) < x.b * (D * r2) else S * r2 + a * (r1 * D) ≤ x.b * (D * r2)) ↔ Over f (r1, r2) x.s := by
  have hp := vR_pos hf
  obtain ⟨c1, c2⟩ := side_core (r1 := r1) (r2 := r2) hD (show 0 < f.2 by omega) e
  obtain ⟨n1, n2⟩ := pos_side (u := r1 * f.2 - f.1 * r2) ha
  unfold Over
  cases x.s
  · simp only [Bool.false_eq_true, if_false, false_implies, and_true]
    rw [c1, n1]; show _ ↔ r1 * f.2 ≤ f.1 * r2; omega
  · simp only [if_true, true_implies]
    rw [c2, n2]; show _ ↔ r1 * f.2 ≤ f.1 * r2 ∧ r1 * f.2 < f.1 * r2; omega

end Go.Proofs.YtbhaoaobhgilkaaGreat

namespace Go.Proofs.YtbhaoaobhgilkaaGreat
open Go.Sort

def E3 (e : Int) : Prop := e = 0 ∨ e = 2 ∨ e = 7

end Go.Proofs.YtbhaoaobhgilkaaGreat

namespace Go.Proofs.YtbhaoaobhgilkaaGreat
open Go.RowKit Go.Sort Go.Shelf

theorem case_agg (w : World) : (isAgg 28).run Tryz.prog w = .ok true w := by
  unfold isAgg; rw [Sem.run_bind, run_underlying Tryz.underlying28 w]; simp

theorem case_size : (Tryz.prog.info? 28).map (·.size) = some 9 := by kernel_rfl

theorem wpl_loadC {t : TypeId} {cs : List Value} (ha : ∀ w, (isAgg t).run Tryz.prog w = .ok true w) (hz : (Tryz.prog.info? t).map (·.size) = some cs.length) {w : World} {ops : Array Oper} {rest : List Oper} {o : Oper} {a : Act} {Q : Exit → Act → World → Prop} (hgd : o.guard = none) (s : Operand) (ho : o.op = .load t s) (p : Addr) (hs : a.eval s = .pointer (some p)) (hx : CsAt w p cs)
    (h : wpList Tryz.prog ops Q rest (a.put o.dst (.agg ⟨cs⟩)) w) : wpList Tryz.prog ops Q (o :: rest) a w :=
  wpList_plain hgd fun K hK => by
    have hv := cs_loadP (cs := cs) ha hz hx
    unfold Oper.wp execOp
    simp only [ho, hs, Instr.loadAt, Instr.sureAddr, Sem.run_bind, Sem.run_pure, Result.andThen_ok, hv]
    exact hK _ _ h

end Go.Proofs.YtbhaoaobhgilkaaGreat

namespace Go.Proofs.YtbhaoaobhgilkaaGreat
open Go.RowKit Go.Sort Go.Shelf

theorem rd2_cells {w : World} {p : Addr} {m : List Pq} (h : Rd2 w (some p) m) : ∀ j u, (qV m)[j]? = some u → w.cell? (p.add j) = some u := fun j u hu => by
  have hj : j < m.length * 2 := by
    have := (List.getElem?_eq_some_iff.1 hu).1
    rwa [qV_len] at this
  obtain ⟨p', e, c0, c1⟩ := h (j / 2) (by omega)
  cases e
  obtain ⟨q0, q1⟩ := qV_at m (j / 2) (by omega)
  have ad : ∀ t : Nat, (p.add t).add 1 = p.add (t + 1) := fun t => by
    cases t with
    | zero => rfl
    | succ t => simp [Addr.add, Nat.add_assoc]
  rcases Nat.mod_two_eq_zero_or_one j with e | e
  · have ej : j / 2 * 2 = j := by omega
    rw [ej] at c0 q0
    rw [q0] at hu
    cases hu
    simpa [Addr.add] using c0
  · have ej : j / 2 * 2 + 1 = j := by omega
    rw [ad, ej] at c1
    rw [ej] at q1
    rw [q1] at hu
    cases hu
    exact c1

theorem appQm_run {w : World} {B : Nat} {v : Value} {l m : List Pq} (hown : OwnQ w B v l) {p : Addr} {c : Nat} (hR : Rd2 w (some p) m) (hle : l.length + m.length ≤ 2000000) (hB : B ≤ w.heap.size) (ty : TypeId) :
    ∃ v' w', (Builtin.append_ #[26, 26] ty #[v, .slice (some p) m.length c]).run Tryz.prog w = .ok v' w' ∧ OwnQ w' B v' (l ++ m) ∧ w.grownBy w' v.ownBlock := by
  obtain ⟨i0, hi, hz0, hz1, hz2⟩ := info_parts rat_info
  obtain ⟨v', w', hr, h2, h3, _, _⟩ := run_append_own_at (P := Tryz.prog) w B 26 ty 50 i0 (.agg #[.int .i64 0, .int .i64 0]) 2 16 Tryz.underlying26 hi hz0 hz1 hz2 (by rfl) (by decide) v l.length _ hown p m.length c (qV m)
    (qV_len m) (rd2_cells hR) (fun u hu => by
      unfold qV at hu
      obtain ⟨y, _, h⟩ := List.mem_flatMap.1 hu
      simp only [List.mem_cons, List.not_mem_nil, or_false] at h
      rcases h with rfl | rfl <;> rfl) (by unfold maxLen; omega) (by omega) hB
  refine ⟨v', w', hr, ?_, h3⟩
  unfold OwnQ
  rw [qV_app, List.length_append]; exact h2

theorem appendV2_run {w : World} {B : Nat} {v : Value} {L : List AV} (hown : OwnV w B v L) {b c : Nat} {x y : AV} (hc : ∀ j u, (x.cells ++ y.cells)[j]? = some u → w.cell? ⟨b, j, none⟩ = some u) (hX : GoodV w v.ownBlock x) (hY : GoodV w v.ownBlock y) (hle : L.length + 2 ≤ 1000000) (hB : B ≤ w.heap.size) (ty : TypeId) :
    ∃ v' w', (Builtin.append_ #[22, 22] ty #[v, .slice (some ⟨b, 0, none⟩) 2 c]).run Tryz.prog w = .ok v' w' ∧ OwnV w' B v' (L ++ [x, y]) ∧ w.grownBy w' v.ownBlock ∧ (v'.ownBlock = v.ownBlock ∨ v'.ownBlock = some w.heap.size) := by
  obtain ⟨i0, hi, hz0, hz1, hz2⟩ := info_parts av_info3
  obtain ⟨v', w', hr, h2, h3, _, h5⟩ := run_append_own_at (P := Tryz.prog) w B 22 ty 25 i0 (.agg av0.cs) 3 40 Tryz.underlying22 hi hz0 hz1 hz2 (by rfl) (by decide) v L.length _ hown.row ⟨b, 0, none⟩ 2 c (x.cells ++ y.cells)
    (by rw [List.length_append, av_len, av_len]) (fun j u hu => by rw [addr_add, Nat.zero_add]; exact hc j u hu) (by simp [AV.cells, Value.oneCell']) (by unfold maxLen; omega) (by omega) hB
  have hA : ∀ z, z ∈ L ++ [x, y] → Rd1 w z.q z.a ∧ (∀ p, z.q = some p → v.ownBlock ≠ some p.block ∧ p.block < w.heap.size) ∧ NilOk z := fun z hz => by
    rcases List.mem_append.1 hz with q | q
    · exact ⟨hown.nums z q, hown.far z q, hown.nil z q⟩
    · simp only [List.mem_cons, List.not_mem_nil, or_false] at q
      rcases q with rfl | rfl
      · exact ⟨hX.nums, hX.far, hX.nil⟩
      · exact ⟨hY.nums, hY.far, hY.nil⟩
  refine ⟨v', w', hr, ⟨?_, fun z hz => ?_, fun z hz p e => ?_, fun z hz => (hA z hz).2.2⟩, h3, h5⟩
  · rw [List.flatMap_append, List.length_append]; simpa using h2
  · exact (hA z hz).1.grown h3 (fun p e => ((hA z hz).2.1 p e).1)
  · have := (hA z hz).2.1 p e
    refine ⟨?_, Nat.lt_of_lt_of_le this.2 h3.size⟩
    rcases h5 with h5 | h5
    · rw [h5]; exact this.1
    · rw [h5]; intro e2; injection e2 with e2; omega

theorem run_bv2 (x y : AV) (w : World) : (Instr.buildSlice 22 2 #[(0, .agg x.cs), (1, .agg y.cs)]).run Tryz.prog w = .ok (.slice (some ⟨w.heap.size, 0, none⟩) 2 2) (w.alloc (.cells (x.cs ++ y.cs) 25)) := by
  have hz := av_zero w
  have hs := size_of av_size w
  simp [go_sem, Instr.buildSlice, run_underlying Tryz.underlying22, hs, AV.cs, AV.cells, Instr.fill]

theorem wp_bv2 {w : World} {o : Oper} {a : Act} {K : Act → World → Prop} {Q : Exit → Act → World → Prop} (s t : Operand) (ho : o.op = .buildSlice 22 2 #[(0, s), (1, t)]) (x y : AV) (hs : a.eval s = .agg x.cs) (ht : a.eval t = .agg y.cs)
    (h : K (a.put o.dst (.slice (some ⟨w.heap.size, 0, none⟩) 2 2)) (w.alloc (.cells (x.cs ++ y.cs) 25))) : o.wp Tryz.prog a w K Q := by
  have hv := run_bv2 x y w
  generalize x.cs = X at *
  generalize y.cs = Y at *
  unfold Oper.wp execOp
  simp only [ho]
  simp [hs, ht, hv, Result.andThen]
  exact h

theorem two_av (w : World) (x y : AV) : ∀ j u, (x.cells ++ y.cells)[j]? = some u → (w.alloc (.cells (x.cs ++ y.cs) 25)).cell? ⟨w.heap.size, j, none⟩ = some u := fun j u hu => by
  rw [cell_of_row _ _ j _ _ _ (heap_alloc_last w _)]
  simpa [AV.cs] using hu

end Go.Proofs.YtbhaoaobhgilkaaGreat

namespace Go.Proofs.YtbhaoaobhgilkaaGreat
open Go.RowKit Go.Sort Go.Shelf

def miE (n : Nat) (A B : List AV) : Int := (mnS n (A.map ofV) (B.map ofV) B.length).2

def MiR (n : Nat) (A B : List AV) (w : World) (v : Value) (w' : World) : Prop := ∃ L, OwnP w' w.heap.size v none L ∧ PcOk n L (mnS n (A.map ofV) (B.map ofV) B.length).1

theorem OwnP.mono {w : World} {B B' : Nat} {v : Value} {L : List LsV} (h : OwnP w B v none L) (hb : B' ≤ B) : OwnP w B' v none L :=
  ⟨⟨h.row.1, h.row.2.imp id fun ⟨g, cap, cur, h1, h2, h3⟩ => ⟨g, cap, cur, h1, Nat.le_trans hb h2, h3⟩⟩, fun p hp x hx => h.stay p hp x ⟨hx.os, hx.tape, hx.output, hx.size, fun k hk => hx.block k (Nat.le_trans hb hk)⟩⟩

set_option maxRecDepth 100000 in
set_option maxHeartbeats 4000000 in
theorem minus1_any (n : Nat) (A B : List AV) (ao bo : Option Addr) (ac bc pn pa pb : Nat) (w : World) (hcA : chkP n A = 0) (hcB : chkP n B = 0) (hA : RdV w ao A) (hB : RdV w bo B) (c0 : w.cell? ⟨pn, 0, none⟩ = some (.int .i64 n)) (c1 : w.cell? ⟨pa, 0, none⟩ = some (.slice ao A.length ac)) (c2 : w.cell? ⟨pb, 0, none⟩ = some (.slice bo B.length bc)) :
    Calls Tryz.prog 77 #[.pointer (some ⟨pn, 0, none⟩), .pointer (some ⟨pa, 0, none⟩), .pointer (some ⟨pb, 0, none⟩)] w fun e W' =>
      (miE n A B = 0 ∧ ∃ v, e = .returned v ∧ MiR n A B w v W' ∧ Below w.heap.size w W') ∨ (miE n A B ≠ 0 ∧ e = .panicked (pan (miE n A B)) ∧ Below w.heap.size w W') := by
  obtain ⟨⟨_, hn⟩, hlA, hvA⟩ := chk_valid hcA
  obtain ⟨_, hlB, hvB⟩ := chk_valid hcB
  obtain ⟨k1, hk1⟩ : ∃ k, k = A.length := ⟨_, rfl⟩
  obtain ⟨k2, hk2⟩ : ∃ k, k = B.length := ⟨_, rfl⟩
  obtain ⟨l1, hl1⟩ : ∃ l, l = A.map ofV := ⟨_, rfl⟩
  obtain ⟨l2, hl2⟩ : ∃ l, l = B.map ofV := ⟨_, rfl⟩
  have e1 : k1 = l1.length := by rw [hl1, hk1]; simp
  have e2 : k2 = l2.length := by rw [hl2, hk2]; simp
  have LA := Lib.hid (fun W (h : Below w.heap.size w W) => lines_row A ao ac W (by omega) (hA.on h) (fun y hy => by have := valid_len (hvA y hy); omega))
  have LB := Lib.hid (fun W (h : Below w.heap.size w W) => lines_row B bo bc W (by omega) (hB.on h) (fun y hy => by have := valid_len (hvB y hy); omega))
  have MI := Lib.hid (fun W ga bo' (h1 : Rw W ga l1) (h2 : ga < W.heap.size) (h3 : RdL W bo' l2) => minus_any n l1 l2 ga bo' l1.length l2.length W (by omega) (by omega) (by omega) h1 h2 h3 (fun x hx => by
    rw [hl1] at hx
    obtain ⟨y, hy, rfl⟩ := List.mem_map.1 hx
    exact ofV_rg (by omega) (hvA y hy)) (fun x hx => by
    rw [hl2] at hx
    obtain ⟨y, hy, rfl⟩ := List.mem_map.1 hx
    exact ofV_rg (by omega) (hvB y hy)))
  rw [← hl1, ← hk1] at LA
  rw [← hl2, ← hk2] at LB
  have EE := Lib.hid (show miE n A B = (mnS n l1 l2 l2.length).2 by unfold miE; rw [← hl1, ← hl2, ← hk2, e2])
  have RR := Lib.hid (show ∀ (W : World) (v : Value) (W' : World), (∃ L, OwnP W' W.heap.size v none L ∧ PcOk n L (mnS n l1 l2 l2.length).1) → w.heap.size ≤ W.heap.size → MiR n A B w v W' from fun W v W' ⟨L, h1, h2⟩ h3 => ⟨L, h1.mono h3, by rw [← hl1, ← hl2, ← hk2, e2]; exact h2⟩)
  rw [← hk1] at c1
  rw [← hk2] at c2
  rw [EE.out]
  have C0 := Lib.hid c0
  have C1 := Lib.hid c1
  have C2 := Lib.hid c2
  clear hcA hcB hA hB c0 c1 c2 hlA hvA hlB hvB hk1 hk2 hl1 hl2 e1 e2 EE
  go_enter Tryz.func77, Tryz.ntmps77
  go_upto_region 1 with (fail)
  have KS := Lib.hid (show ∀ W, Below w.heap.size w W → (W.cell? ⟨pn, 0, none⟩ = some (.int .i64 n) ∧ W.cell? ⟨pa, 0, none⟩ = some (.slice ao k1 ac) ∧ W.cell? ⟨pb, 0, none⟩ = some (.slice bo k2 bc)) from fun W h => ⟨kept h C0.out, kept h C1.out, kept h C2.out⟩)
  obtain ⟨wc, hwc⟩ : ∃ wc, wc = w.drew := ⟨_, rfl⟩
  have Bc := Lib.hid (show Below w.heap.size w wc by rw [hwc]; exact (Below.refl _ _).drew)
  refine wp_region_held_drew (S := (fun W => (W.cell? ⟨pn, 0, none⟩ = some (.int .i64 n) ∧ W.cell? ⟨pa, 0, none⟩ = some (.slice ao k1 ac) ∧ W.cell? ⟨pb, 0, none⟩ = some (.slice bo k2 bc)))) (by kernel_rfl) (by rw [← hwc]; exact KS.out _ Bc.out) (fun h0 => ?_)
  rw [← hwc] at h0 ⊢
  clear hwc
  refine tkH (i := 0) (v := ?v1) rfl (Or.inl ⟨by rfl, ?hy1⟩) h0 ?rest1
  case hy1 => (intro w' hS; (try dsimp only at hS); go_simp; try (with_reducible rfl))
  simp only [Act.put, sA, sB, sD, sE, sF]
  refine tkH (i := 1) (v := ?v2) rfl (Or.inl ⟨by rfl, ?hy2⟩) h0 ?rest2
  case hy2 => (intro w' hS; (try dsimp only at hS); go_simp; try (with_reducible rfl))
  simp only [Act.put, sZ]
  refine tkH (i := 3) (v := ?v3) rfl (Or.inl ⟨by rfl, ?hy3⟩) h0 ?rest3
  case hy3 => (intro w' hS; (try dsimp only at hS); go_simp; try (with_reducible rfl))
  simp only [Act.put, sZ]
  refine wpAnyH_ready (rs := [2]) (by kernel_rfl) (by simp) (AllReadyH.cons rfl (fun K hK => ?_) AllReadyH.nil)
  rw [if_pos (by rfl)]
  go_simp
  refine (LA.out wc Bc.out).mono ?_
  rintro e wc ⟨b1, rfl, hr, hz, hb⟩
  have R1 := Lib.hid hr
  have Z1 := Lib.hid hz.2
  have Bc := Lib.hid (below_on Bc.out hb)
  clear hr hz hb
  go_simp
  refine hK.out _ _ (KS.out _ Bc.out) (fun h0_1 => ?_)
  clear hK K h0
  refine wpAnyH_ready (rs := [4]) (by kernel_rfl) (by simp) (AllReadyH.cons rfl (fun K hK => ?_) AllReadyH.nil)
  rw [if_pos (by rfl)]
  go_simp
  refine (LB.out wc Bc.out).mono ?_
  rintro e wc ⟨b2, rfl, hr, hz, hb⟩
  have R2 := Lib.hid hr.rd
  have R1 := Lib.hid (R1.out.on hb Z1.out)
  have Z1 := Lib.hid (Nat.lt_of_lt_of_le Z1.out hb.size)
  have Bc := Lib.hid (below_on Bc.out hb)
  clear hr hz hb
  go_simp
  refine hK.out _ _ (KS.out _ Bc.out) (fun h0_2 => ?_)
  clear hK K h0_1
  refine wpAnyH_ready (rs := [5]) (by kernel_rfl) (by simp) (AllReadyH.cons rfl (fun K hK => ?_) AllReadyH.nil)
  rw [if_pos (by rfl)]
  go_simp
  refine (MI.out wc b1 (some ⟨b2, 0, none⟩) R1.out Z1.out R2.out).mono ?_
  rintro e we ⟨hb, (⟨he, v9, L9, rfl, hp, hc⟩ | ⟨he, rfl⟩)⟩
  rotate_left
  · exact And.intro rfl (Or.inr ⟨he, rfl, below_on Bc.out hb⟩)
  have HE := Lib.hid he
  have HM := Lib.hid (RR.out wc v9 we ⟨L9, hp, hc⟩ Bc.out.size)
  have Bc := Lib.hid (below_on Bc.out hb)
  clear hb he hp hc
  go_simp
  refine hK.out _ _ (KS.out _ Bc.out) (fun h0_3 => ?_)
  clear hK K h0_2
  refine tkH (i := 6) (v := ?v4) rfl (Or.inl ⟨by rfl, ?hy4⟩) h0_3 ?rest4
  case hy4 => (intro w' hS; (try dsimp only at hS); go_simp; try (with_reducible rfl))
  simp only [Act.put, sA, sB, sC, sD]
  try simp only [sF]
  try simp only [sE]
  refine wpAnyH_done (by kernel_rfl) ?_ _
  go_wp2_with fail
  go_ret
  exact Or.inl ⟨HE.out, _, rfl, HM.out, Bc.out⟩

theorem minus1_enters : ∀ args w, (callFunc 77 args).run Tryz.prog w = .ok (.enter 77 args) w := enters_of Tryz.func77 (by kernel_rfl) rfl

theorem MiR.put {n : Nat} {A B : List AV} {w w' : World} {v : Value} (h : MiR n A B w v w') {b : Nat} (hb : b < w.heap.size) (y : Value) : MiR n A B w v (w'.setCell ⟨b, 0, none⟩ y) := by
  obtain ⟨L, h1, h2⟩ := h
  refine ⟨L, ⟨?_, fun p hp x hx => h1.stay p hp x ?_⟩, h2⟩
  · refine ⟨h1.row.1, h1.row.2.imp id fun ⟨g, cap, cur, e, hg, hc, r⟩ => ⟨g, cap, cur, e, hg, ?_, r⟩⟩
    rw [heap_setCell_other w' ⟨b, 0, none⟩ g y (by show g ≠ b; omega)]; exact hc
  · have hbb := (Below.refl 0 w').setCell (p := ⟨b, 0, none⟩) (Nat.zero_le _) y
    refine ⟨hx.os.trans hbb.os, hx.tape.trans hbb.tape, hx.output.trans hbb.output, Nat.le_trans hbb.size hx.size, fun k hk hl h3 h4 => (hx.block k hk (by simpa using hl) h3 h4).trans ?_⟩
    exact heap_setCell_other w' ⟨b, 0, none⟩ k y (by show k ≠ b; omega)
end Go.Proofs.YtbhaoaobhgilkaaGreat

namespace Go.Proofs.YtbhaoaobhgilkaaGreat
open Go.RowKit Go.Sort Go.Shelf

def minE (n : Int) (A B : List AV) : Int := ansE n [A, B] (miE n.toNat A B)

set_option maxRecDepth 100000 in
set_option maxHeartbeats 4000000 in
theorem minusP_any (n : Int) (A B : List AV) (ao bo : Option Addr) (ac bc : Nat) (w : World) (hA : RdV w ao A) (hB : RdV w bo B) :
    Calls Tryz.prog 28 #[.int .i64 n, .slice ao A.length ac, .slice bo B.length bc] w (fun e w' => Below w.heap.size w w' ∧ ((minE n A B = 0 ∧ ∃ v, e = .returned (.tuple #[v, .int .i64 0]) ∧ MiR n.toNat A B w v w') ∨ (minE n A B ≠ 0 ∧ e = .returned (.tuple #[.slice none 0 0, .int .i64 (minE n A B)])))) := by
  have hmf : ∀ (fn : Fn) (first cap : Array Value) (w : World), (Instr.makeFunc fn first cap).run Tryz.prog w = .ok (.func fn first cap) w := fun _ _ _ _ => rfl
  obtain ⟨k1, hk1⟩ : ∃ m, m = A.length := ⟨_, rfl⟩
  obtain ⟨k2, hk2⟩ : ∃ m, m = B.length := ⟨_, rfl⟩
  obtain ⟨w0, hw0⟩ : ∃ w0, w0 = ((w.alloc (.cells #[.int .i64 n] 3)).alloc (.cells #[.slice ao k1 ac] 22)).alloc (.cells #[.slice bo k2 bc] 22) := ⟨_, rfl⟩
  have E0 := Lib.hid (show Below w.heap.size w w0 by rw [hw0]; exact past_three (Below.refl _ _))
  have X0 := Lib.hid (show Bx1 w0 w.heap.size (.int .i64 n) 3 by rw [hw0]; exact ((Bx1.made w _ _).kept (one_more _)).kept (one_more _))
  have X1 := Lib.hid (show Bx1 w0 (w.heap.size + 1) (.slice ao k1 ac) 22 by rw [hw0]; have := Bx1.made (w.alloc (.cells #[.int .i64 n] 3)) (.slice ao k1 ac) 22; exact Bx1.kept (by simpa using this) (one_more _))
  have X2 := Lib.hid (show Bx1 w0 (w.heap.size + 2) (.slice bo k2 bc) 22 by rw [hw0]; have := Bx1.made ((w.alloc (.cells #[.int .i64 n] 3)).alloc (.cells #[.slice ao k1 ac] 22)) (.slice bo k2 bc) 22; simpa using this)
  have Z0 := Lib.hid (show w0.heap.size = w.heap.size + 3 by rw [hw0]; simp)
  have B1 := Lib.hid (one_more (w1 := w0) (.cells #[.slice ao k1 ac, .slice bo k2 bc] 22))
  have hG : RdG (w0.alloc (.cells #[.slice ao k1 ac, .slice bo k2 bc] 22)) (some ⟨w0.heap.size, 0, none⟩) [A, B] := by
    intro t ht
    have : t = 0 ∨ t = 1 := by simp at ht; omega
    rcases this with rfl | rfl
    · refine ⟨_, ao, ac, rfl, ?_, (hA.on E0.out).on B1.out⟩
      rw [addr_add, cell_of_row _ _ 0 _ _ _ (heap_alloc_last w0 _), hk1]; rfl
    · refine ⟨_, bo, bc, rfl, ?_, (hB.on E0.out).on B1.out⟩
      rw [addr_add, cell_of_row _ _ (0 + 1) _ _ _ (heap_alloc_last w0 _), hk2]; rfl
  have AN := Lib.hid (answerP_any 77 #[.pointer (some ⟨w.heap.size, 0, none⟩), .pointer (some ⟨w.heap.size + 1, 0, none⟩), .pointer (some ⟨w.heap.size + 2, 0, none⟩)] n (some ⟨w0.heap.size, 0, none⟩) 2 [A, B] (miE n.toNat A B) _ (by simp) hG minus1_enters
    (fun W v A' => MiR n.toNat A B W v A') (fun _ _ _ _ y h hb => h.put hb y) (fun hc W hW => by
      have hc0 := hc A (by simp)
      have hc1 := hc B (by simp)
      have hn := (chk_valid hc0).1
      have e : ((n.toNat : Nat) : Int) = n := by omega
      refine minus1_any n.toNat A B ao bo ac bc w.heap.size (w.heap.size + 1) (w.heap.size + 2) W (by rw [e]; exact hc0) (by rw [e]; exact hc1) (((hA.on E0.out).on B1.out).on hW) (((hB.on E0.out).on B1.out).on hW) ?_ ?_ ?_
      · rw [e]; exact kept hW (kept B1.out X0.out.cell)
      · rw [← hk1]; exact kept hW (kept B1.out X1.out.cell)
      · rw [← hk2]; exact kept hW (kept B1.out X2.out.cell)))
  have HE := Lib.hid (show ansE n [A, B] (miE n.toNat A B) = minE n A B from rfl)
  have c0 := X0.out.cell
  have c1 := X1.out.cell
  have c2 := X2.out.cell
  simp only [List.length_cons, List.length_nil, Nat.zero_add, Nat.reduceAdd] at AN
  rw [← hk1, ← hk2]
  clear hA hB hG hk1 hk2
  go_enter Tryz.func28, Tryz.ntmps28
  go_upto_region 1 with (fail)
  rw [← hw0]
  clear hw0
  go_wp2_with fail
  refine AN.out.mono ?_
  rintro e w2 ⟨hb, ⟨he, W, v, hW, rfl, hp⟩ | ⟨he, rfl⟩⟩
  · have B2 := Lib.hid (below_on E0.out (past_one hb))
    rw [HE.out] at he
    have HZ := Lib.hid he
    have HP := Lib.hid (show MiR n.toNat A B w v w2 from by
      obtain ⟨L, h1, h2⟩ := hp
      exact ⟨L, h1.mono (Nat.le_trans E0.out.size (Nat.le_trans (by simp) hW.size)), h2⟩)
    clear hb he hW hp
    go_wp2_with fail
    refine bodyPost_ret (v := .tuple #[v, .int .i64 0]) (by simp [results, Tryz.results28, go_sem]) rfl ?_
    exact ⟨B2.out, Or.inl ⟨HZ.out, _, rfl, HP.out⟩⟩
  · have B2 := Lib.hid (below_on E0.out (past_one hb))
    rw [HE.out] at he ⊢
    have HZ := Lib.hid he
    clear hb he
    go_wp2_with fail
    refine bodyPost_ret (v := .tuple #[.slice none 0 0, .int .i64 (minE n A B)]) (by simp [results, Tryz.results28, go_sem]) rfl ?_
    exact ⟨B2.out, Or.inr ⟨HZ.out, rfl⟩⟩
end Go.Proofs.YtbhaoaobhgilkaaGreat

namespace Go.Proofs.YtbhaoaobhgilkaaGreat
open Go.Sort

end Go.Proofs.YtbhaoaobhgilkaaGreat

namespace Go.Proofs.YtbhaoaobhgilkaaGreat
open Go.RowKit Go.Sort Go.Shelf

theorem ansE_zero {n : Int} {G : List (List AV)} {er : Int} (h : ansE n G er = 0) : (∀ L ∈ G, chkP n L = 0) ∧ er = 0 := by
  by_cases hc : ∀ L ∈ G, chkP n L = 0
  · exact ⟨hc, by rw [ansE_none hc] at h; exact h⟩
  · exfalso
    unfold ansE at h
    split at h
    · rename_i L e
      have := List.find?_some e
      simp only [decide_eq_true_eq] at this
      exact this h
    · rename_i e
      refine hc fun L hL => ?_
      have := List.find?_eq_none.1 e L hL
      simpa using this

theorem mn_len (n : Nat) (a b : List Ln) : ∀ t, (mnS n a b t).1.length ≤ t
  | 0 => by simp [mnS]
  | t + 1 => by
    have ih := mn_len n a b t
    unfold mnS
    split
    · omega
    · split
      · simp
      · split
        · simp
        · split
          · omega
          · simp; omega

end Go.Proofs.YtbhaoaobhgilkaaGreat
