/- The closure of package poly's Without.; The contract of lowest of layer 7's reference.; Lists of lines of package api of a call's own; insertion at a place.; slices.Clone at lines.; The contract of package poly's implies.; Plain mathematics: lists of lines of fewer coordinates are as tidy as those of six.; The contract of Tidy of layer 7's reference.; Plain mathematics: lowest terms and tidy lists of lines of fewer coordinates.; The contract of short of layer 7's reference.; The contract of sum of layer 7's reference.; Plain mathematics: what the reference leaves of the shorter lines is what the project leaves of the long ones, shortened.; The contract of the statements' same.; What the reference's leave has between two lines; plain mathematics of its lists.; The closure of package poly's Implies.; The contract of leave of layer 7's reference. -/
import Derived.Test.YtbhaoaobhgilkaaGreatVi31
import Derived.Deep.RegionHeld3
import Derived.Test.YtbhaoaobhgilkaaGreatVi25
import Derived.ArgAppend
import Derived.Laws.OwnMore
import Derived.Deep.Onto
import Derived.Lib.AppendZeros
import Derived.Test.YtbhaoaobhgilkaaGreatVi22
import Derived.Test.YtbhaoaobhgilkaaGreatVi26
import Derived.Test.YtbhaoaobhgilkaaGreatVi17
import Derived.Test.YtbhaoaobhgilkaaGreatVi21
import Derived.Test.YtbhaoaobhgilkaaGreatVi14
import Derived.BigQuiet

namespace Go.Proofs.YtbhaoaobhgilkaaGreat
open Go.RowKit Go.Sort Go.Shelf

def woE (n : Int) (L : List AV) (I : Int) : Int := if 0 ≤ I ∧ I < n then leaveE (L.map ofV) I.toNat else 2

def WoR (n : Nat) (L : List AV) (I : Int) (W : World) (v : Value) (A : World) : Prop :=
  ∃ b Lr, v = .slice (some ⟨b, 0, none⟩) (leaveL (L.map ofV) I.toNat).length (leaveL (L.map ofV) I.toNat).length ∧ IsCh (chW n I.toNat) (leaveL (L.map ofV) I.toNat) Lr ∧ RowV A b (leaveL (L.map ofV) I.toNat).length Lr ∧ W.heap.size ≤ b

theorem RowV.aside {w : World} {b n : Nat} {L : List AV} (h : RowV w b n L) {k : Nat} (hk : k < b) (v : Value) : RowV (w.setCell ⟨k, 0, none⟩ v) b n L := by
  have far : ∀ p : Addr, p.block ≠ k → (w.setCell ⟨k, 0, none⟩ v).cell? p = w.cell? p := fun p hp => World.cell?_setCell_other w ⟨k, 0, none⟩ p v (fun e => hp (by rw [← e]))
  refine ⟨fun t ht j u hu => ?_, fun j hj => ?_, fun y hy => ?_, ?_⟩
  · have := h.at_ t ht j u hu
    rw [far _ (by rw [addr_add]; show b ≠ k; omega)]; exact this
  · rw [World.frozen?_setCell, far _ (by show b ≠ k; omega)]; exact h.there j hj
  · obtain ⟨g, e, hg, r⟩ := h.nums y hy
    refine ⟨g, e, hg, fun t ht => ?_⟩
    obtain ⟨p, e2, c⟩ := r t ht
    refine ⟨p, e2, ?_⟩
    have e3 : p = ⟨g, 0, none⟩ := by rw [e] at e2; injection e2 with e2; exact e2.symm
    rw [far _ (by rw [e3, addr_add]; show g ≠ k; omega)]; exact c
  · have := h.lt; simpa using this

theorem WoR.aside {n : Nat} {L : List AV} {I : Int} {W A : World} {v : Value} (h : WoR n L I W v A) {k : Nat} (hk : k < W.heap.size) (y : Value) : WoR n L I W v (A.setCell ⟨k, 0, none⟩ y) := by
  obtain ⟨b, Lr, e, h1, h2, h3⟩ := h
  exact ⟨b, Lr, e, h1, h2.aside (by omega) y, h3⟩

theorem chW_enters : ∀ args w, (callFunc 46 args).run Tryz.prog w = .ok (.enter 46 args) w := enters_of Tryz.func46 (by kernel_rfl) rfl

set_option maxRecDepth 100000 in
set_option maxHeartbeats 4000000 in
theorem without1_any (n : Nat) (I : Int) (L : List AV) (ao : Option Addr) (cap pi pn pl : Nat) (w : World) (hc : chkP n L = 0) (hR : RdV w ao L) (c0 : w.cell? ⟨pi, 0, none⟩ = some (.int .i64 I)) (c1 : w.cell? ⟨pn, 0, none⟩ = some (.int .i64 n)) (c2 : w.cell? ⟨pl, 0, none⟩ = some (.slice ao L.length cap)) :
    Calls Tryz.prog 41 #[.pointer (some ⟨pi, 0, none⟩), .pointer (some ⟨pn, 0, none⟩), .pointer (some ⟨pl, 0, none⟩)] w fun e W' =>
      (woE n L I = 0 ∧ ∃ v, e = .returned v ∧ WoR n L I w v W' ∧ Below w.heap.size w W') ∨ (woE n L I ≠ 0 ∧ e = .panicked (pan (woE n L I)) ∧ Below w.heap.size w W') := by
  have hmf : ∀ (fn : Fn) (first cap : Array Value) (w : World), (Instr.makeFunc fn first cap).run Tryz.prog w = .ok (.func fn first cap) w := fun _ _ _ _ => rfl
  obtain ⟨⟨_, hn⟩, hl, hv⟩ := chk_valid hc
  obtain ⟨k, hk⟩ : ∃ k, k = L.length := ⟨_, rfl⟩
  rw [← hk] at c2
  by_cases h1 : I < 0
  · have HE := Lib.hid (show woE n L I = 2 by unfold woE; rw [if_neg (by omega)])
    clear hc hR hl hv hk
    go_enter Tryz.func41, Tryz.ntmps41
    go_wp2_with fail
    refine (demand_any false w).mono ?_
    rintro e w2 ⟨rfl, rfl⟩
    go_wp2_with fail
    exact And.intro rfl (Or.inr ⟨by rw [HE.out]; decide, by rw [HE.out], Below.refl _ _⟩)
  · by_cases h2 : I < n
    · obtain ⟨i, rfl⟩ : ∃ i : Nat, I = i := ⟨I.toNat, by omega⟩
      have hi : i < n := by omega
      have HE := Lib.hid (show woE n L i = leaveE (L.map ofV) i by unfold woE; rw [if_pos ⟨by omega, by omega⟩, Int.toNat_natCast])
      have hkl : k = (L.map ofV).length := by rw [hk]; simp
      have LI := Lib.hid (fun W (h : Below w.heap.size w W) => lines_any L ao cap W (by omega) (hR.on h) (fun y hy => by have := valid_len (hv y hy); omega))
      have LV := Lib.hid (fun W a c (h : RdL W a (L.map ofV)) => leave_any (L.map ofV) a c i W (by simp; omega) (by omega) h (fun x hx => by
        obtain ⟨y, hy, rfl⟩ := List.mem_map.1 hx
        exact ofV_rg (by omega) (hv y hy)))
      have RG := Lib.hid (show leaveE (L.map ofV) i = 0 → (leaveL (L.map ofV) i).length ≤ 100000 ∧ ∀ x ∈ leaveL (L.map ofV) i, x.a.length = 6 from fun h => by
        refine ⟨?_, fun x hx => (leaveL_rg (fun x hx => by
          obtain ⟨y, hy, rfl⟩ := List.mem_map.1 hx
          exact ofV_rg (n := n) (by omega) (hv y hy)) h x hx).len⟩
        unfold leaveL
        exact tidyL_len (by have := leaveE_len h; omega) (by omega))
      rw [← hkl] at LV
      rw [← hk] at LI
      have KL := Lib.hid hkl
      have C0 := Lib.hid c0
      have C1 := Lib.hid c1
      have C2 := Lib.hid c2
      have CH := Lib.hid (show ∀ W, Below w.heap.size w W → Chooses (.func (.func 46) #[] #[.pointer (some ⟨pn, 0, none⟩), .pointer (some ⟨pi, 0, none⟩)]) W (chW n i) from fun W hW =>
        ⟨_, _, rfl, chW_enters, fun V hV g cg a ha ho => chW_any n i g cg pn pi a W.heap.size V ha (by omega) hi ho (kept hV (kept hW C1.out)) (kept hV (kept hW C0.out))
          (by have h3 := World.block_lt_of_cell? W _ (kept hW C1.out); have h4 := ho.lt; simp only at h3; omega) (by have h3 := World.block_lt_of_cell? W _ (kept hW C0.out); have h4 := ho.lt; simp only at h3; omega)⟩)
      have WR := Lib.hid (show ∀ (v : Value) (A : World) b Lr, v = .slice (some ⟨b, 0, none⟩) (leaveL (L.map ofV) i).length (leaveL (L.map ofV) i).length → IsCh (chW n i) (leaveL (L.map ofV) i) Lr → RowV A b (leaveL (L.map ofV) i).length Lr → w.heap.size ≤ b → WoR n L i w v A from fun v A b Lr e q1 q2 q3 => ⟨b, Lr, e, q1, q2, q3⟩)
      generalize L.map ofV = l at *
      clear hc hR hl hv hk hkl
      go_enter Tryz.func41, Tryz.ntmps41
      go_wp2_with fail
      refine (demand_any true w).mono ?_
      rintro e w2 ⟨rfl, rfl⟩
      go_upto_region 2 with (fail)
      have KS := Lib.hid (show ∀ W, Below w2.heap.size w2 W → (W.cell? ⟨pi, 0, none⟩ = some (.int .i64 i) ∧ W.cell? ⟨pn, 0, none⟩ = some (.int .i64 n) ∧ W.cell? ⟨pl, 0, none⟩ = some (.slice ao k cap)) from fun W h => ⟨kept h C0.out, kept h C1.out, kept h C2.out⟩)
      obtain ⟨wc, hwc⟩ : ∃ wc, wc = w2.drew := ⟨_, rfl⟩
      have Bc := Lib.hid (show Below w2.heap.size w2 wc by rw [hwc]; exact (Below.refl _ _).drew)
      refine wp_region_held_drew (S := (fun W => (W.cell? ⟨pi, 0, none⟩ = some (.int .i64 i) ∧ W.cell? ⟨pn, 0, none⟩ = some (.int .i64 n) ∧ W.cell? ⟨pl, 0, none⟩ = some (.slice ao k cap)))) (by kernel_rfl) (by rw [← hwc]; exact KS.out _ Bc.out) (fun h0 => ?_)
      rw [← hwc] at h0 ⊢
      clear hwc
      refine wpAnyH_take (i := 0) (v := ?v1) rfl (by kernel_rfl) (by kernel_rfl) (by kernel_rfl) (fun _ _ _ h => h) (Or.inl ⟨by rfl, ?hy1⟩) h0 ?rest1
      case hy1 => (intro w' hS; (try dsimp only at hS); go_simp; try (with_reducible rfl))
      simp only [Act.put, List.getElem_toArray, List.getElem_cons_zero, List.setIfInBounds_toArray, List.set_cons_zero, List.set_cons_succ]
      refine wpAnyH_take (i := 2) (v := ?v2) rfl (by kernel_rfl) (by kernel_rfl) (by kernel_rfl) (fun _ _ _ h => h) (Or.inl ⟨by rfl, ?hy2⟩) h0 ?rest2
      case hy2 => (intro w' hS; (try dsimp only at hS); go_simp; try (with_reducible rfl))
      simp only [Act.put, List.getElem_toArray, List.getElem_cons_zero, List.getElem_cons_succ, List.setIfInBounds_toArray, List.set_cons_zero, List.set_cons_succ]
      refine wpAnyH_take (i := 4) (v := ?v3) rfl (by kernel_rfl) (by kernel_rfl) (by kernel_rfl) (fun _ _ _ h => h) (Or.inl ⟨by rfl, ?hy3⟩) h0 ?rest3
      case hy3 => (intro w' hS; (try dsimp only at hS); go_simp; try (with_reducible rfl))
      simp only [Act.put, List.getElem_toArray, List.getElem_cons_zero, List.getElem_cons_succ, List.setIfInBounds_toArray, List.set_cons_zero, List.set_cons_succ]
      refine wpAnyH_ready (rs := [1]) (by kernel_rfl) (by simp) (AllReadyH.cons rfl (fun K hK => ?_) AllReadyH.nil)
      rw [if_pos (by rfl)]
      go_simp
      refine (LI.out wc Bc.out).mono ?_
      rintro e wc ⟨a1, d1, rfl, hr, hb⟩
      have R1 := Lib.hid hr
      clear hr
      rw [← KL.out]
      have Bc := Lib.hid (below_on Bc.out hb)
      clear hb
      go_simp
      refine hK.out _ _ (KS.out _ Bc.out) (fun h0_1 => ?_)
      clear hK K h0
      refine wpAnyH_ready (rs := [3]) (by kernel_rfl) (by simp) (AllReadyH.cons rfl (fun K hK => ?_) AllReadyH.nil)
      rw [if_pos (by rfl)]
      go_simp
      refine (LV.out wc a1 d1 R1.out).mono ?_
      rintro e wc (⟨he, a3, d3, rfl, hr, hb⟩ | ⟨he, rfl, hb⟩)
      rotate_left
      · exact And.intro rfl (Or.inr ⟨by rw [HE.out]; exact he, by rw [HE.out], below_on Bc.out hb⟩)
      have HZ := Lib.hid he
      have R3 := Lib.hid hr
      clear hr he
      have Bc := Lib.hid (below_on Bc.out hb)
      clear hb
      go_simp
      refine hK.out _ _ (KS.out _ Bc.out) (fun h0_2 => ?_)
      clear hK K h0_1
      refine wpAnyH_ready (rs := [5]) (by kernel_rfl) (by simp) (AllReadyH.cons rfl (fun K hK => ?_) AllReadyH.nil)
      rw [if_pos (by rfl)]
      go_simp
      refine (lists_any (leaveL l i) a3 d3 _ (chW n i) wc (RG.out HZ.out).1 R3.out (RG.out HZ.out).2 (CH.out wc Bc.out)).mono ?_
      have Z5 := Lib.hid Bc.out.size
      rintro e wc ⟨b5, L5, rfl, q1, q2, q3, hb⟩
      have W5 := Lib.hid (WR.out _ _ b5 L5 rfl q1 q2 (Nat.le_trans Z5.out q3))
      clear q1 q2 q3
      have Bc := Lib.hid (below_on Bc.out hb)
      clear hb
      go_simp
      refine hK.out _ _ (KS.out _ Bc.out) (fun h0_3 => ?_)
      clear hK K h0_2
      refine wpAnyH_take (i := 6) (v := ?v4) rfl (by kernel_rfl) (by kernel_rfl) (by kernel_rfl) (fun _ _ _ h => h) (Or.inl ⟨by rfl, ?hy4⟩) h0_3 ?rest4
      case hy4 => (intro w' hS; (try dsimp only at hS); go_simp; try (with_reducible rfl))
      simp only [Act.put, List.getElem_toArray, List.getElem_cons_zero, List.getElem_cons_succ, List.setIfInBounds_toArray]
      try simp only [List.set_cons_succ]
      try simp only [List.set_cons_zero]
      refine wpAnyH_done (by kernel_rfl) ?_ _
      go_wp2_with fail
      go_ret
      exact Or.inl ⟨by rw [HE.out]; exact HZ.out, _, rfl, W5.out, Bc.out⟩
    · have HE := Lib.hid (show woE n L I = 2 by unfold woE; rw [if_neg (by omega)])
      clear hc hR hl hv hk
      go_enter Tryz.func41, Tryz.ntmps41
      go_wp2_with fail
      refine (demand_any false w).mono ?_
      rintro e w2 ⟨rfl, rfl⟩
      go_wp2_with fail
      exact And.intro rfl (Or.inr ⟨by rw [HE.out]; decide, by rw [HE.out], Below.refl _ _⟩)
end Go.Proofs.YtbhaoaobhgilkaaGreat

namespace Go.Proofs.YtbhaoaobhgilkaaGreat
open Go.RowKit Go.Sort Go.Shelf

/-- A line of package api as a line. -/
def lnV (y : AV) : Ln := ⟨y.a, y.b, y.s⟩

/-- A list that is nil has no elements. -/
def NilOk (y : AV) : Prop := (y.q = none → y.a = [] ∧ y.c = 0) ∧ y.a.length ≤ y.c ∧ y.c ≤ maxLen

theorem gcdL_nn {b : Int} (hb : 0 ≤ b) : ∀ (a : List Int), 0 ≤ gcdL b a
  | [] => hb
  | v :: r => by show 0 ≤ gcdL (Int.gcd b v : Int) r; exact gcdL_nn (by omega) r

theorem BkV.facts {w : World} {b : Nat} {y : AV} (h : BkV w b y) : w.cell? ⟨b, 0, none⟩ = some (.slice y.q y.a.length y.c) ∧ w.cell? ⟨b, 1, none⟩ = some (.int .i64 y.b) ∧ w.cell? ⟨b, 2, none⟩ = some (.bool y.s) :=
  ⟨by rw [cell_of_row w _ 0 _ _ _ h]; rfl, by rw [cell_of_row w _ 1 _ _ _ h]; rfl, by rw [cell_of_row w _ 2 _ _ _ h]; rfl⟩

end Go.Proofs.YtbhaoaobhgilkaaGreat

namespace Go.Proofs.YtbhaoaobhgilkaaGreat
open Go.RowKit Go.Sort Go.Shelf

end Go.Proofs.YtbhaoaobhgilkaaGreat

namespace Go.Proofs.YtbhaoaobhgilkaaGreat
open Go.RowKit Go.Sort Go.Shelf

theorem cloneL_any (l : List Ln) (b c : Nat) (w : World) (hl : l.length ≤ 1000000) (h : Rw w b l) :
    Calls Tryz.prog 95 #[.slice (some ⟨b, 0, none⟩) l.length c] w (fun e w' => ∃ v', e = .returned v' ∧ OwnL w' w.heap.size v' l ∧ Below w.heap.size w w') := by
  obtain ⟨i0, hi, hz0, hz1, hz2⟩ := info_parts ln_info3
  have h6 : ∀ x ∈ l, x.a.length = 6 := fun x hx => by
    obtain ⟨i, hi, rfl⟩ := List.getElem_of_mem hx
    exact (h.1 i hi).1
  have hh := AnyE.slices_Clone Tryz.laysCloneL i0 (.agg ln0.cs) 8 64 hi hz0 hz1 hz2 rfl (by omega) (fun w => size_of ln_size w) b 0 l.length c (l.flatMap Ln.cells) w (flat_len h6) (by unfold maxLen; omega) (by omega)
    (fun j u hu => by
      have hj : j < l.length * 8 := by
        by_cases q : j < l.length * 8
        · exact q
        · rw [List.getElem?_eq_none (by rw [flat_len h6]; omega)] at hu; cases hu
      have ht : j / 8 < l.length := by omega
      have e : j = j / 8 * 8 + j % 8 := by omega
      rw [e, flat_at h6 ht (by omega)] at hu
      have := (h.1 (j / 8) ht).2 (j % 8) u hu
      rw [addr_add] at this
      rw [Nat.zero_add, e]
      exact this) (fun u hu => by
      obtain ⟨x, hx, hu⟩ := List.mem_flatMap.1 hu
      exact cells_one x u hu)
  change Calls Tryz.prog 95 _ _ _ at hh
  refine hh.mono ?_
  rintro e w' ⟨v', rfl, ho, _, hb⟩
  exact ⟨v', rfl, ⟨ho, h6⟩, hb⟩
end Go.Proofs.YtbhaoaobhgilkaaGreat

namespace Go.Proofs.YtbhaoaobhgilkaaGreat
open Go.RowKit Go.Sort Go.Shelf

theorem OwnL.base {w : World} {B B' : Nat} {v : Value} {l : List Ln} (h : OwnL w B v l) (hb : B' ≤ B) : OwnL w B' v l :=
  ⟨⟨h.1.1, h.1.2.imp id fun ⟨g, cap, cur, h1, h2, h3⟩ => ⟨g, cap, cur, h1, Nat.le_trans hb h2, h3⟩⟩, h.2⟩

end Go.Proofs.YtbhaoaobhgilkaaGreat

namespace Go.Proofs.YtbhaoaobhgilkaaGreat
open Go.Sort

/-- The coordinate i of n is left out. -/
def erL (n i : Nat) (x : Ln) : Ln := ⟨chW n i x.a, x.b, x.s⟩

end Go.Proofs.YtbhaoaobhgilkaaGreat

namespace Go.Proofs.YtbhaoaobhgilkaaGreat
open Go.RowKit Go.Sort Go.Shelf

end Go.Proofs.YtbhaoaobhgilkaaGreat

namespace Go.Proofs.YtbhaoaobhgilkaaGreat
open Go.Sort

end Go.Proofs.YtbhaoaobhgilkaaGreat

namespace Go.Proofs.YtbhaoaobhgilkaaGreat
open Go.RowKit Go.Sort Go.Shelf

end Go.Proofs.YtbhaoaobhgilkaaGreat

namespace Go.Proofs.YtbhaoaobhgilkaaGreat
open Go.RowKit Go.Sort Go.Shelf

/-- The numbers of a line of the reference fit. -/
def FitV (n : Nat) (y : AV) : Prop := y.a.length = n ∧ (∀ v ∈ y.a, -2147483647 ≤ v ∧ v ≤ 2147483647) ∧ (-2147483647 ≤ y.b ∧ y.b ≤ 2147483647)

end Go.Proofs.YtbhaoaobhgilkaaGreat

namespace Go.Proofs.YtbhaoaobhgilkaaGreat
open Go.Sort

/-- The first n coordinates alone. -/
def tk (n : Nat) (x : Ln) : Ln := ⟨x.a.take n, x.b, x.s⟩

theorem mem_prs {xs ys : List Ln} {p : Ln × Ln} (h : p ∈ prs xs ys) : p.1 ∈ xs ∧ p.2 ∈ ys := by
  unfold prs at h
  obtain ⟨x, hx, h⟩ := List.mem_flatMap.1 h
  obtain ⟨y, hy, rfl⟩ := List.mem_map.1 h
  exact ⟨hx, hy⟩

end Go.Proofs.YtbhaoaobhgilkaaGreat

namespace Go.Proofs.YtbhaoaobhgilkaaGreat
open Go.RowKit Go.Sort

theorem AvAt.three {w : World} {p : Addr} {t : Nat} {y : AV} (h : AvAt w (p.add (t * 3)) y) : w.cell? (p.add (t * 3)) = some (.slice y.q y.a.length y.c) ∧ w.cell? ⟨(p.add (t * 3)).block, (p.add (t * 3)).off + 1, none⟩ = some (.int .i64 y.b) ∧ w.cell? ⟨(p.add (t * 3)).block, (p.add (t * 3)).off + 2, none⟩ = some (.bool y.s) := by
  have h0 := h 0 _ rfl
  have h1 := h 1 _ rfl
  have h2 := h 2 _ rfl
  rw [show (p.add (t * 3)).add 0 = p.add (t * 3) by simp [Addr.add]] at h0
  generalize p.add (t * 3) = b at *
  unfold Addr.add at h1 h2
  rw [if_neg (by omega)] at h1 h2
  exact ⟨h0, h1, h2⟩

theorem lnV_eq {y z : AV} : lnV y = lnV z ↔ y.a = z.a ∧ y.b = z.b ∧ y.s = z.s := by
  unfold lnV; rw [Ln.mk.injEq]

theorem map_ne {A B : List AV} {t : Nat} (h1 : t < A.length) (h2 : t < B.length) (h : lnV A[t] ≠ lnV B[t]) : A.map lnV ≠ B.map lnV := fun e => h (by
  have h3 := congrArg (fun l => l[t]?) e
  simpa [h1, h2] using h3)

set_option maxRecDepth 100000 in
set_option maxHeartbeats 4000000 in
theorem same_any (A B : List AV) (ao bo : Option Addr) (ca cb : Nat) (w : World) (hA : RdV w ao A) (hB : RdV w bo B) (hl : A.length ≤ 100000) (ha : ∀ y ∈ A, y.a.length ≤ 1000000) :
    Calls Tryz.prog 14 #[.slice ao A.length ca, .slice bo B.length cb] w (Made (.bool (decide (A.map lnV = B.map lnV))) w) := by
  by_cases hlen : A.length = B.length
  case neg =>
    have HF := Lib.hid (show decide (A.map lnV = B.map lnV) = false from decide_eq_false (fun e => hlen (by have := congrArg List.length e; simpa using this)))
    have D : ((A.length : Int) != (B.length : Int)) = true := by simp; omega
    clear hA hB ha
    generalize A.length = c at *
    generalize B.length = d at *
    go_enter Tryz.func14, Tryz.ntmps14
    go_wp2_with fail
    go_ret
    exact ⟨ret_bool HF.out.symm, Below.refl _ _⟩
  have D : ((A.length : Int) != (B.length : Int)) = false := by simp; omega
  obtain ⟨len, hc⟩ : ∃ len, len = A.length := ⟨_, rfl⟩
  have hd : B.length = len := by omega
  have HC := Lib.hid hc
  have HDD := Lib.hid hd
  have HA := Lib.hid hA
  have HB := Lib.hid hB
  have HL := Lib.hid ha
  obtain ⟨R, hR⟩ : ∃ R, R = decide (A.map lnV = B.map lnV) := ⟨_, rfl⟩
  have HR := Lib.hid hR
  rw [hd, ← hc] at D
  rw [hd, ← hc, ← hR]
  have hl2 : len ≤ 100000 := by omega
  clear hlen hc hd hA hB hl ha hR
  go_enter Tryz.func14, Tryz.ntmps14
  go_wp2_with fail
  go_loopw [5] (fun s wr => ∃ t : Nat, t ≤ len ∧ s = .int .i64 t ∧ Hid (∀ k, ∀ h1 : k < A.length, ∀ h2 : k < B.length, k < t → lnV A[k] = lnV B[k]) ∧ Hid (Below w.heap.size w wr)) (fun s _ => len - (intOf s).toNat)
  case atStart => exact ⟨0, by omega, rfl, Lib.hid (fun k _ _ hk => by omega), Lib.hid (Below.refl _ _)⟩
  case round =>
    obtain ⟨t, ht, rfl, HT, HW⟩ := hrel
    by_cases htn : t < len
    case pos =>
      have h1 : t < A.length := by have := HC.out; omega
      have h2 : t < B.length := by have := HDD.out; omega
      obtain ⟨a, ea, hR⟩ := (HA.out.on HW.out).at_ t h1
      obtain ⟨b, eb, hS⟩ := (HB.out.on HW.out).at_ t h2
      have YN := Lib.hid ((HA.out.on HW.out).nums _ (List.getElem_mem h1))
      have ZN := Lib.hid ((HB.out.on HW.out).nums _ (List.getElem_mem h2))
      have YL := Lib.hid (HL.out _ (List.getElem_mem h1))
      have NE := Lib.hid (show lnV A[t] ≠ lnV B[t] → R = false from fun h => by rw [HR.out]; exact decide_eq_false (map_ne h1 h2 h))
      have EQ := Lib.hid (show lnV A[t] = lnV B[t] → ∀ k, ∀ h1 : k < A.length, ∀ h2 : k < B.length, k < t + 1 → lnV A[k] = lnV B[k] from fun h k g1 g2 hk => by
        by_cases e : k = t
        · subst e; exact h
        · exact HT.out k g1 g2 (by omega))
      generalize A[t] = y at *
      generalize B[t] = z at *
      obtain ⟨a0, a1, a2⟩ := hR.three
      obtain ⟨b0, b1, b2⟩ := hS.three
      subst ea eb
      clear hR hS h1 h2
      obtain ⟨yq, yc, ya, yb, ys⟩ := y
      obtain ⟨zq, zc, za, zb, zs⟩ := z
      simp only at a0 a1 a2 b0 b1 b2
      by_cases c1 : yb = zb
      · subst c1
        by_cases c2 : ys = zs
        · subst c2
          obtain ⟨q, hq⟩ : ∃ q, q = decide (ya = za) := ⟨_, rfl⟩
          have SL := Lib.hid (fun k => sameI_any ya za yq zq yc zc (wr.drewN k) YL.out (YN.out.on (below_drewN (Below.refl _ _) k)) (ZN.out.on (below_drewN (Below.refl _ _) k)))
          rw [← hq] at SL
          have HQ := Lib.hid hq
          obtain ⟨m1, hm1⟩ : ∃ m1, m1 = ya.length := ⟨_, rfl⟩
          obtain ⟨m2, hm2⟩ : ∃ m2, m2 = za.length := ⟨_, rfl⟩
          rw [← hm1, ← hm2] at SL
          rw [← hm1] at a0
          rw [← hm2] at b0
          clear hq hm1 hm2
          cases q
          · have HE := Lib.hid (NE.out (fun e => by have := (lnV_eq.1 e).1; simp only at this; have h := HQ.out; rw [decide_eq_true this] at h; cases h))
            go_wp2_with fail
            go_quiet ((go_at_call 48; exact Calls.quiet_of (SL.out _)))
            go_wp2_with fail
            go_ret
            exact ⟨ret_bool HE.out.symm, below_drewN HW.out _⟩
          · have HT2 := Lib.hid (EQ.out (lnV_eq.2 ⟨of_decide_eq_true HQ.out.symm, rfl, rfl⟩))
            go_wp2_with fail
            go_quiet ((go_at_call 48; exact Calls.quiet_of (SL.out _)))
            go_wp2_with fail
            go_roundw
            case rel => exact ⟨t + 1, by omega, by go_num, HT2, Lib.hid (below_drewN HW.out _)⟩
            case measure => simp [intOf]; omega
        · have D2 : (ys != zs) = true := by simpa using c2
          have HE := Lib.hid (NE.out (fun e => c2 (lnV_eq.1 e).2.2))
          clear D2
          cases ys <;> cases zs <;> first | exact absurd rfl c2 | skip
          all_goals
            clear c2
            go_wp2_with fail
            go_quiet (fail)
            go_wp2_with fail
            go_ret
            exact ⟨ret_bool HE.out.symm, below_drewN HW.out _⟩
      · have D1 : (yb != zb) = true := by simpa using c1
        have HE := Lib.hid (NE.out (fun e => c1 (lnV_eq.1 e).2.1))
        clear c1
        go_wp2_with fail
        go_quiet (fail)
        go_wp2_with fail
        go_ret
        exact ⟨ret_bool HE.out.symm, below_drewN HW.out _⟩
    case neg =>
      have HE := Lib.hid (show R = true by
        rw [HR.out]
        refine decide_eq_true (List.ext_getElem (by simp; have := HC.out; have := HDD.out; omega) fun k g1 g2 => ?_)
        simp only [List.length_map] at g1 g2
        simp only [List.getElem_map]
        exact HT.out k g1 g2 (by have := HC.out; omega))
      go_wp2_with fail
      go_ret
      exact ⟨ret_bool HE.out.symm, HW.out⟩
end Go.Proofs.YtbhaoaobhgilkaaGreat

namespace Go.Proofs.YtbhaoaobhgilkaaGreat
open Go.RowKit Go.Sort Go.Shelf

section
variable {w wr w' : World} {v1 v2 v3 v' : Value} {U D Z : List AV} {y : AV}

end

end Go.Proofs.YtbhaoaobhgilkaaGreat

namespace Go.Proofs.YtbhaoaobhgilkaaGreat
open Go.RowKit Go.Sort Go.Shelf

end Go.Proofs.YtbhaoaobhgilkaaGreat

namespace Go.Proofs.YtbhaoaobhgilkaaGreat
open Go.RowKit Go.Sort Go.Shelf

end Go.Proofs.YtbhaoaobhgilkaaGreat
