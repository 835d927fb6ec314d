/- The contract of package poly's Minus.; The contract of package poly's Minus, for whatever arguments. -/
import Derived.Test.YtbhaoaobhgilkaaGreatVi44
import Derived.Test.YtbhaoaobhgilkaaGreatVi36

namespace Go.Proofs.YtbhaoaobhgilkaaGreat
open Go.RowKit Go.Sort Go.Shelf

/-- The error of Minus of lists that pass Check. -/
def miE (n : Nat) (A B : List AV) : Int := (mnS n (A.map ofV) (B.map ofV) B.length).2

def MiR (n : Nat) (A B : List AV) (w : World) (v : Value) (w' : World) : Prop := ∃ L, OwnP w' w.heap.size v none L ∧ PcOk n L (mnS n (A.map ofV) (B.map ofV) B.length).1

theorem OwnP.mono {w : World} {B B' : Nat} {v : Value} {L : List LsV} (h : OwnP w B v none L) (hb : B' ≤ B) : OwnP w B' v none L :=
  ⟨⟨h.row.1, h.row.2.imp id fun ⟨g, cap, cur, h1, h2, h3⟩ => ⟨g, cap, cur, h1, Nat.le_trans hb h2, h3⟩⟩, fun p hp x hx => h.stay p hp x ⟨hx.os, hx.tape, hx.output, hx.size, fun k hk => hx.block k (Nat.le_trans hb hk)⟩⟩

set_option maxRecDepth 100000 in
set_option maxHeartbeats 4000000 in
theorem minus1_any (n : Nat) (A B : List AV) (ao bo : Option Addr) (ac bc pn pa pb : Nat) (w : World) (hcA : chkP n A = 0) (hcB : chkP n B = 0) (hA : RdV w ao A) (hB : RdV w bo B) (c0 : w.cell? ⟨pn, 0, none⟩ = some (.int .i64 n)) (c1 : w.cell? ⟨pa, 0, none⟩ = some (.slice ao A.length ac)) (c2 : w.cell? ⟨pb, 0, none⟩ = some (.slice bo B.length bc)) :
    Calls Tryz.prog 77 #[.pointer (some ⟨pn, 0, none⟩), .pointer (some ⟨pa, 0, none⟩), .pointer (some ⟨pb, 0, none⟩)] w fun e W' =>
      (miE n A B = 0 ∧ ∃ v, e = .returned v ∧ MiR n A B w v W' ∧ Below w.heap.size w W') ∨ (miE n A B ≠ 0 ∧ e = .panicked (pan (miE n A B)) ∧ Below w.heap.size w W') := by
  obtain ⟨⟨_, hn⟩, hlA, hvA⟩ := chk_valid hcA
  obtain ⟨_, hlB, hvB⟩ := chk_valid hcB
  obtain ⟨k1, hk1⟩ : ∃ k, k = A.length := ⟨_, rfl⟩
  obtain ⟨k2, hk2⟩ : ∃ k, k = B.length := ⟨_, rfl⟩
  obtain ⟨l1, hl1⟩ : ∃ l, l = A.map ofV := ⟨_, rfl⟩
  obtain ⟨l2, hl2⟩ : ∃ l, l = B.map ofV := ⟨_, rfl⟩
  have e1 : k1 = l1.length := by rw [hl1, hk1]; simp
  have e2 : k2 = l2.length := by rw [hl2, hk2]; simp
  have LA := Lib.hid (fun W (h : Below w.heap.size w W) => lines_row A ao ac W (by omega) (hA.on h) (fun y hy => by have := valid_len (hvA y hy); omega))
  have LB := Lib.hid (fun W (h : Below w.heap.size w W) => lines_row B bo bc W (by omega) (hB.on h) (fun y hy => by have := valid_len (hvB y hy); omega))
  have MI := Lib.hid (fun W ga bo' (h1 : Rw W ga l1) (h2 : ga < W.heap.size) (h3 : RdL W bo' l2) => minus_any n l1 l2 ga bo' l1.length l2.length W (by omega) (by omega) (by omega) h1 h2 h3 (fun x hx => by
    rw [hl1] at hx
    obtain ⟨y, hy, rfl⟩ := List.mem_map.1 hx
    exact ofV_rg (by omega) (hvA y hy)) (fun x hx => by
    rw [hl2] at hx
    obtain ⟨y, hy, rfl⟩ := List.mem_map.1 hx
    exact ofV_rg (by omega) (hvB y hy)))
  rw [← hl1, ← hk1] at LA
  rw [← hl2, ← hk2] at LB
  have EE := Lib.hid (show miE n A B = (mnS n l1 l2 l2.length).2 by unfold miE; rw [← hl1, ← hl2, ← hk2, e2])
  have RR := Lib.hid (show ∀ (W : World) (v : Value) (W' : World), (∃ L, OwnP W' W.heap.size v none L ∧ PcOk n L (mnS n l1 l2 l2.length).1) → w.heap.size ≤ W.heap.size → MiR n A B w v W' from fun W v W' ⟨L, h1, h2⟩ h3 => ⟨L, h1.mono h3, by rw [← hl1, ← hl2, ← hk2, e2]; exact h2⟩)
  rw [← hk1] at c1
  rw [← hk2] at c2
  rw [EE.out]
  have C0 := Lib.hid c0
  have C1 := Lib.hid c1
  have C2 := Lib.hid c2
  clear hcA hcB hA hB c0 c1 c2 hlA hvA hlB hvB hk1 hk2 hl1 hl2 e1 e2 EE
  go_enter Tryz.func77, Tryz.ntmps77
  go_upto_region 1 with (fail)
  have KS := Lib.hid (show ∀ W, Below w.heap.size w W → (W.cell? ⟨pn, 0, none⟩ = some (.int .i64 n) ∧ W.cell? ⟨pa, 0, none⟩ = some (.slice ao k1 ac) ∧ W.cell? ⟨pb, 0, none⟩ = some (.slice bo k2 bc)) from fun W h => ⟨kept h C0.out, kept h C1.out, kept h C2.out⟩)
  obtain ⟨wc, hwc⟩ : ∃ wc, wc = w.drew := ⟨_, rfl⟩
  have Bc := Lib.hid (show Below w.heap.size w wc by rw [hwc]; exact (Below.refl _ _).drew)
  refine wp_region_held_drew (S := (fun W => (W.cell? ⟨pn, 0, none⟩ = some (.int .i64 n) ∧ W.cell? ⟨pa, 0, none⟩ = some (.slice ao k1 ac) ∧ W.cell? ⟨pb, 0, none⟩ = some (.slice bo k2 bc)))) (by kernel_rfl) (by rw [← hwc]; exact KS.out _ Bc.out) (fun h0 => ?_)
  rw [← hwc] at h0 ⊢
  clear hwc
  refine wpAnyH_take (i := 0) (v := ?v1) rfl (by kernel_rfl) (by kernel_rfl) (by kernel_rfl) (fun _ _ _ h => h) (Or.inl ⟨by rfl, ?hy1⟩) h0 ?rest1
  case hy1 => (intro w' hS; (try dsimp only at hS); go_simp; try (with_reducible rfl))
  simp only [Act.put, List.getElem_toArray, List.getElem_cons_zero, List.setIfInBounds_toArray, List.set_cons_zero, List.set_cons_succ]
  refine wpAnyH_take (i := 1) (v := ?v2) rfl (by kernel_rfl) (by kernel_rfl) (by kernel_rfl) (fun _ _ _ h => h) (Or.inl ⟨by rfl, ?hy2⟩) h0 ?rest2
  case hy2 => (intro w' hS; (try dsimp only at hS); go_simp; try (with_reducible rfl))
  simp only [Act.put, List.getElem_toArray, List.getElem_cons_zero, List.getElem_cons_succ, List.setIfInBounds_toArray, List.set_cons_zero, List.set_cons_succ]
  refine wpAnyH_take (i := 3) (v := ?v3) rfl (by kernel_rfl) (by kernel_rfl) (by kernel_rfl) (fun _ _ _ h => h) (Or.inl ⟨by rfl, ?hy3⟩) h0 ?rest3
  case hy3 => (intro w' hS; (try dsimp only at hS); go_simp; try (with_reducible rfl))
  simp only [Act.put, List.getElem_toArray, List.getElem_cons_zero, List.getElem_cons_succ, List.setIfInBounds_toArray, List.set_cons_zero, List.set_cons_succ]
  refine wpAnyH_ready (rs := [2]) (by kernel_rfl) (by simp) (AllReadyH.cons rfl (fun K hK => ?_) AllReadyH.nil)
  rw [if_pos (by rfl)]
  go_simp
  refine (LA.out wc Bc.out).mono ?_
  rintro e wc ⟨b1, rfl, hr, hz, hb⟩
  have R1 := Lib.hid hr
  have Z1 := Lib.hid hz.2
  have Bc := Lib.hid (below_on Bc.out hb)
  clear hr hz hb
  go_simp
  refine hK.out _ _ (KS.out _ Bc.out) (fun h0_1 => ?_)
  clear hK K h0
  refine wpAnyH_ready (rs := [4]) (by kernel_rfl) (by simp) (AllReadyH.cons rfl (fun K hK => ?_) AllReadyH.nil)
  rw [if_pos (by rfl)]
  go_simp
  refine (LB.out wc Bc.out).mono ?_
  rintro e wc ⟨b2, rfl, hr, hz, hb⟩
  have R2 := Lib.hid hr.rd
  have R1 := Lib.hid (R1.out.on hb Z1.out)
  have Z1 := Lib.hid (Nat.lt_of_lt_of_le Z1.out hb.size)
  have Bc := Lib.hid (below_on Bc.out hb)
  clear hr hz hb
  go_simp
  refine hK.out _ _ (KS.out _ Bc.out) (fun h0_2 => ?_)
  clear hK K h0_1
  refine wpAnyH_ready (rs := [5]) (by kernel_rfl) (by simp) (AllReadyH.cons rfl (fun K hK => ?_) AllReadyH.nil)
  rw [if_pos (by rfl)]
  go_simp
  refine (MI.out wc b1 (some ⟨b2, 0, none⟩) R1.out Z1.out R2.out).mono ?_
  rintro e we ⟨hb, (⟨he, v9, L9, rfl, hp, hc⟩ | ⟨he, rfl⟩)⟩
  rotate_left
  · exact And.intro rfl (Or.inr ⟨he, rfl, below_on Bc.out hb⟩)
  have HE := Lib.hid he
  have HM := Lib.hid (RR.out wc v9 we ⟨L9, hp, hc⟩ Bc.out.size)
  have Bc := Lib.hid (below_on Bc.out hb)
  clear hb he hp hc
  go_simp
  refine hK.out _ _ (KS.out _ Bc.out) (fun h0_3 => ?_)
  clear hK K h0_2
  refine wpAnyH_take (i := 6) (v := ?v4) rfl (by kernel_rfl) (by kernel_rfl) (by kernel_rfl) (fun _ _ _ h => h) (Or.inl ⟨by rfl, ?hy4⟩) h0_3 ?rest4
  case hy4 => (intro w' hS; (try dsimp only at hS); go_simp; try (with_reducible rfl))
  simp only [Act.put, List.getElem_toArray, List.getElem_cons_zero, List.getElem_cons_succ, List.setIfInBounds_toArray]
  try simp only [List.set_cons_succ]
  try simp only [List.set_cons_zero]
  refine wpAnyH_done (by kernel_rfl) ?_ _
  go_wp2_with fail
  go_ret
  exact Or.inl ⟨HE.out, _, rfl, HM.out, Bc.out⟩

theorem minus1_enters : ∀ args w, (callFunc 77 args).run Tryz.prog w = .ok (.enter 77 args) w := enters_of Tryz.func77 (by kernel_rfl) rfl

theorem MiR.put {n : Nat} {A B : List AV} {w w' : World} {v : Value} (h : MiR n A B w v w') {b : Nat} (hb : b < w.heap.size) (y : Value) : MiR n A B w v (w'.setCell ⟨b, 0, none⟩ y) := by
  obtain ⟨L, h1, h2⟩ := h
  refine ⟨L, ⟨?_, fun p hp x hx => h1.stay p hp x ?_⟩, h2⟩
  · refine ⟨h1.row.1, h1.row.2.imp id fun ⟨g, cap, cur, e, hg, hc, r⟩ => ⟨g, cap, cur, e, hg, ?_, r⟩⟩
    rw [heap_setCell_other w' ⟨b, 0, none⟩ g y (by show g ≠ b; omega)]; exact hc
  · have hbb := (Below.refl 0 w').setCell (p := ⟨b, 0, none⟩) (Nat.zero_le _) y
    refine ⟨hx.os.trans hbb.os, hx.tape.trans hbb.tape, hx.output.trans hbb.output, Nat.le_trans hbb.size hx.size, fun k hk hl h3 h4 => (hx.block k hk (by simpa using hl) h3 h4).trans ?_⟩
    exact heap_setCell_other w' ⟨b, 0, none⟩ k y (by show k ≠ b; omega)
end Go.Proofs.YtbhaoaobhgilkaaGreat

namespace Go.Proofs.YtbhaoaobhgilkaaGreat
open Go.RowKit Go.Sort Go.Shelf

/-- The error of Minus. -/
def minE (n : Int) (A B : List AV) : Int := ansE n [A, B] (miE n.toNat A B)

set_option maxRecDepth 100000 in
set_option maxHeartbeats 4000000 in
theorem minusP_any (n : Int) (A B : List AV) (ao bo : Option Addr) (ac bc : Nat) (w : World) (hA : RdV w ao A) (hB : RdV w bo B) :
    Calls Tryz.prog 28 #[.int .i64 n, .slice ao A.length ac, .slice bo B.length bc] w (fun e w' => Below w.heap.size w w' ∧ ((minE n A B = 0 ∧ ∃ v, e = .returned (.tuple #[v, .int .i64 0]) ∧ MiR n.toNat A B w v w') ∨ (minE n A B ≠ 0 ∧ e = .returned (.tuple #[.slice none 0 0, .int .i64 (minE n A B)])))) := by
  have hmf : ∀ (fn : Fn) (first cap : Array Value) (w : World), (Instr.makeFunc fn first cap).run Tryz.prog w = .ok (.func fn first cap) w := fun _ _ _ _ => rfl
  obtain ⟨k1, hk1⟩ : ∃ m, m = A.length := ⟨_, rfl⟩
  obtain ⟨k2, hk2⟩ : ∃ m, m = B.length := ⟨_, rfl⟩
  obtain ⟨w0, hw0⟩ : ∃ w0, w0 = ((w.alloc (.cells #[.int .i64 n] 3)).alloc (.cells #[.slice ao k1 ac] 22)).alloc (.cells #[.slice bo k2 bc] 22) := ⟨_, rfl⟩
  have E0 := Lib.hid (show Below w.heap.size w w0 by rw [hw0]; exact past_three (Below.refl _ _))
  have X0 := Lib.hid (show Bx1 w0 w.heap.size (.int .i64 n) 3 by rw [hw0]; exact ((Bx1.made w _ _).kept (one_more _)).kept (one_more _))
  have X1 := Lib.hid (show Bx1 w0 (w.heap.size + 1) (.slice ao k1 ac) 22 by rw [hw0]; have := Bx1.made (w.alloc (.cells #[.int .i64 n] 3)) (.slice ao k1 ac) 22; exact Bx1.kept (by simpa using this) (one_more _))
  have X2 := Lib.hid (show Bx1 w0 (w.heap.size + 2) (.slice bo k2 bc) 22 by rw [hw0]; have := Bx1.made ((w.alloc (.cells #[.int .i64 n] 3)).alloc (.cells #[.slice ao k1 ac] 22)) (.slice bo k2 bc) 22; simpa using this)
  have Z0 := Lib.hid (show w0.heap.size = w.heap.size + 3 by rw [hw0]; simp)
  have B1 := Lib.hid (one_more (w1 := w0) (.cells #[.slice ao k1 ac, .slice bo k2 bc] 22))
  have hG : RdG (w0.alloc (.cells #[.slice ao k1 ac, .slice bo k2 bc] 22)) (some ⟨w0.heap.size, 0, none⟩) [A, B] := by
    intro t ht
    have : t = 0 ∨ t = 1 := by simp at ht; omega
    rcases this with rfl | rfl
    · refine ⟨_, ao, ac, rfl, ?_, (hA.on E0.out).on B1.out⟩
      rw [addr_add, cell_of_row _ _ 0 _ _ _ (heap_alloc_last w0 _), hk1]; rfl
    · refine ⟨_, bo, bc, rfl, ?_, (hB.on E0.out).on B1.out⟩
      rw [addr_add, cell_of_row _ _ (0 + 1) _ _ _ (heap_alloc_last w0 _), hk2]; rfl
  have AN := Lib.hid (answerP_any 77 #[.pointer (some ⟨w.heap.size, 0, none⟩), .pointer (some ⟨w.heap.size + 1, 0, none⟩), .pointer (some ⟨w.heap.size + 2, 0, none⟩)] n (some ⟨w0.heap.size, 0, none⟩) 2 [A, B] (miE n.toNat A B) _ (by simp) hG minus1_enters
    (fun W v A' => MiR n.toNat A B W v A') (fun _ _ _ _ y h hb => h.put hb y) (fun hc W hW => by
      have hc0 := hc A (by simp)
      have hc1 := hc B (by simp)
      have hn := (chk_valid hc0).1
      have e : ((n.toNat : Nat) : Int) = n := by omega
      refine minus1_any n.toNat A B ao bo ac bc w.heap.size (w.heap.size + 1) (w.heap.size + 2) W (by rw [e]; exact hc0) (by rw [e]; exact hc1) (((hA.on E0.out).on B1.out).on hW) (((hB.on E0.out).on B1.out).on hW) ?_ ?_ ?_
      · rw [e]; exact kept hW (kept B1.out X0.out.cell)
      · rw [← hk1]; exact kept hW (kept B1.out X1.out.cell)
      · rw [← hk2]; exact kept hW (kept B1.out X2.out.cell)))
  have HE := Lib.hid (show ansE n [A, B] (miE n.toNat A B) = minE n A B from rfl)
  have c0 := X0.out.cell
  have c1 := X1.out.cell
  have c2 := X2.out.cell
  simp only [List.length_cons, List.length_nil, Nat.zero_add, Nat.reduceAdd] at AN
  rw [← hk1, ← hk2]
  clear hA hB hG hk1 hk2
  go_enter Tryz.func28, Tryz.ntmps28
  go_upto_region 1 with (fail)
  rw [← hw0]
  clear hw0
  go_wp2_with fail
  refine AN.out.mono ?_
  rintro e w2 ⟨hb, ⟨he, W, v, hW, rfl, hp⟩ | ⟨he, rfl⟩⟩
  · have B2 := Lib.hid (below_on E0.out (past_one hb))
    rw [HE.out] at he
    have HZ := Lib.hid he
    have HP := Lib.hid (show MiR n.toNat A B w v w2 from by
      obtain ⟨L, h1, h2⟩ := hp
      exact ⟨L, h1.mono (Nat.le_trans E0.out.size (Nat.le_trans (by simp) hW.size)), h2⟩)
    clear hb he hW hp
    go_wp2_with fail
    refine bodyPost_ret (v := .tuple #[v, .int .i64 0]) (by simp [results, Tryz.results28, go_sem]) rfl ?_
    exact ⟨B2.out, Or.inl ⟨HZ.out, _, rfl, HP.out⟩⟩
  · have B2 := Lib.hid (below_on E0.out (past_one hb))
    rw [HE.out] at he ⊢
    have HZ := Lib.hid he
    clear hb he
    go_wp2_with fail
    refine bodyPost_ret (v := .tuple #[.slice none 0 0, .int .i64 (minE n A B)]) (by simp [results, Tryz.results28, go_sem]) rfl ?_
    exact ⟨B2.out, Or.inr ⟨HZ.out, rfl⟩⟩
end Go.Proofs.YtbhaoaobhgilkaaGreat
