/- Contracts of package poly: Empty.; The contract of package poly's Empty.; DERIVED: THE SHELF's CONTRACTS AT THIS DUMP, IN PLAIN WORDS (tools/lay-plain.mjs out of 'TryzShelf.lean', which tools/lay-shelf.mjs wrote): THE SAME DECLARATIONS UNDER THE SAME NAMES: 'import', 'namespace', 'open', 'def', 'theorem' AND NOTHING ELSE: no command of the shelf's: FOR A HAND-IN. Each laying: the table of numbers ('.._ren') and one theorem, a field a fact of the dump's own or the kernel's comparison; each contract: ONE APPLICATION.; slices.Clone and slices.Delete at integers; the closure of Without.; The closures of package poly that choose coefficients.; slices.Clone at lines.; The contract of package poly's implies.; The closure of package poly's Implies.; The contract of package poly's Implies. -/
import Derived.Test.YtbhaoaobhgilkaaGreatWm3
import Derived.Test.YtbhaoaobhgilkaaGreatWm12
import Derived.Deep.RegionHeld3
import Derived.Shelf.SlicesG.Delete
import Derived.Ground.SlgnProg
import Derived.Test.YtbhaoaobhgilkaaGreatProg
import Derived.Test.YtbhaoaobhgilkaaGreatWm11
import Derived.Lib.AppendZeros

namespace Go.Proofs.YtbhaoaobhgilkaaGreat
open Go.RowKit Go.Sort Go.Shelf

theorem ofV_rg {n : Int} {y : AV} (hn : n ≤ 6) (h : validB n y = true) : Rg 2147483647 (ofV y) := by
  unfold validB at h
  simp only [Bool.and_eq_true, List.all_eq_true, decide_eq_true_eq] at h
  obtain ⟨⟨h1, h2⟩, h3⟩ := h
  refine ⟨by simp [ofV]; omega, fun v hv => ?_, ?_⟩
  · rcases List.mem_append.1 hv with q | q
    · have := h2 v q; unfold fitB at this; simpa using this
    · have := List.eq_of_mem_replicate q; omega
  · unfold fitB at h3; simpa [ofV] using h3

theorem chk_valid {n : Int} {L : List AV} (h : chkP n L = 0) : (0 ≤ n ∧ n ≤ 5) ∧ L.length ≤ 1000 ∧ ∀ y ∈ L, validB n y = true := by
  unfold chkP at h
  split at h
  · cases h
  · rename_i h1
    split at h
    · cases h
    · rename_i h2
      split at h
      · cases h
      · rename_i h3
        refine ⟨by omega, by omega, fun y hy => ?_⟩
        have : ¬ (!validB n y) = true := fun q => h3 (List.any_eq_true.2 ⟨y, hy, q⟩)
        simpa using this

theorem valid_len {n : Int} {y : AV} (h : validB n y = true) : (y.a.length : Int) = n := by
  unfold validB at h
  simp only [Bool.and_eq_true, decide_eq_true_eq] at h
  exact h.1.1

def empB (l : List Ln) (n : Nat) : Bool := decide (0 < (shL l n n).length)

set_option maxRecDepth 100000 in
set_option maxHeartbeats 4000000 in
theorem empty1_any (n : Nat) (L : List AV) (ao : Option Addr) (cap pn pl : Nat) (w : World) (hc : chkP n L = 0) (hR : RdV w ao L) (c0 : w.cell? ⟨pn, 0, none⟩ = some (.int .i64 n)) (c1 : w.cell? ⟨pl, 0, none⟩ = some (.slice ao L.length cap)) :
    Calls Tryz.prog 52 #[.pointer (some ⟨pn, 0, none⟩), .pointer (some ⟨pl, 0, none⟩)] w fun e W' =>
      (shE (L.map ofV) n n = 0 ∧ ∃ v, e = .returned v ∧ v = .bool (empB (L.map ofV) n) ∧ Below w.heap.size w W') ∨ (shE (L.map ofV) n n ≠ 0 ∧ e = .panicked (pan (shE (L.map ofV) n n)) ∧ Below w.heap.size w W') := by
  obtain ⟨⟨_, hn⟩, hl, hv⟩ := chk_valid hc
  have hn6 : n ≤ 6 := by omega
  obtain ⟨k, hk⟩ : ∃ k, k = (L.map ofV).length := ⟨_, rfl⟩
  have hk2 : k = L.length := by rw [hk]; simp
  have LI := Lib.hid (fun W (h : Below w.heap.size w W) => lines_any L ao cap W (by omega) (hR.on h) (fun y hy => by have := valid_len (hv y hy); omega))
  have SH := Lib.hid (fun W a c (h : RdL W a (L.map ofV)) => shadows_any (L.map ofV) a c n W (by simp; omega) hn6 h (fun x hx => by
    obtain ⟨y, hy, rfl⟩ := List.mem_map.1 hx
    exact ofV_rg (by omega) (hv y hy)))
  rw [← hk] at SH
  rw [← hk2] at LI c1
  have KL := Lib.hid hk
  have C0 := Lib.hid c0
  have C1 := Lib.hid c1
  generalize L.map ofV = l at *
  clear hc hR c0 c1 hl hv hk hk2 hn
  go_enter Tryz.func52, Tryz.ntmps52
  go_upto_region 1 with (fail)
  have KS := Lib.hid (show ∀ W, Below w.heap.size w W → (W.cell? ⟨pn, 0, none⟩ = some (.int .i64 n) ∧ W.cell? ⟨pl, 0, none⟩ = some (.slice ao k cap)) from fun W h => ⟨kept h C0.out, kept h C1.out⟩)
  obtain ⟨wc, hwc⟩ : ∃ wc, wc = w.drew := ⟨_, rfl⟩
  have Bc := Lib.hid (show Below w.heap.size w wc by rw [hwc]; exact (Below.refl _ _).drew)
  refine wp_region_held_drew (S := (fun W => (W.cell? ⟨pn, 0, none⟩ = some (.int .i64 n) ∧ W.cell? ⟨pl, 0, none⟩ = some (.slice ao k cap)))) (by kernel_rfl) (by rw [← hwc]; exact KS.out _ Bc.out) (fun h0 => ?_)
  rw [← hwc] at h0 ⊢
  clear hwc
  refine tkH (i := 0) (v := ?v1) rfl (Or.inl ⟨by rfl, ?hy1⟩) h0 ?rest1
  case hy1 => (intro w' hS; (try dsimp only at hS); go_simp; try (with_reducible rfl))
  simp only [Act.put, sA, sB, sD, sE, sF]
  refine tkH (i := 1) (v := ?v2) rfl (Or.inl ⟨by rfl, ?hy2⟩) h0 ?rest2
  case hy2 => (intro w' hS; (try dsimp only at hS); go_simp; try (with_reducible rfl))
  simp only [Act.put, sZ]
  refine wpAnyH_ready (rs := [2]) (by kernel_rfl) (by simp) (AllReadyH.cons rfl (fun K hK => ?_) AllReadyH.nil)
  rw [if_pos (by rfl)]
  go_simp
  refine (LI.out wc Bc.out).mono ?_
  rintro e wc ⟨a1, d1, rfl, hr, hb⟩
  have R1 := Lib.hid hr
  clear hr
  rw [← KL.out]
  have Bc := Lib.hid (below_on Bc.out hb)
  clear hb
  go_simp
  refine hK.out _ _ (KS.out _ Bc.out) (fun h0_1 => ?_)
  clear hK K h0
  refine wpAnyH_ready (rs := [3]) (by kernel_rfl) (by simp) (AllReadyH.cons rfl (fun K hK => ?_) AllReadyH.nil)
  rw [if_pos (by rfl)]
  go_simp
  refine (SH.out wc a1 d1 R1.out).mono ?_
  rintro e wc (⟨he, b2, cs2, rfl, hs⟩ | ⟨he, rfl, hb⟩)
  rotate_left
  · exact And.intro rfl (Or.inr ⟨he, rfl, below_on Bc.out hb⟩)
  have HE := Lib.hid he
  have hb := hs.be
  obtain ⟨a3, d3, e3, r3⟩ := hs.hi 0 (by omega) (by omega)
  have g3 := Lib.hid ((hs.cell 0).trans e3)
  clear hs e3 r3 he
  have Bc := Lib.hid (below_on Bc.out hb)
  clear hb
  go_simp
  refine hK.out _ _ (KS.out _ Bc.out) (fun h0_2 => ?_)
  clear hK K h0_1
  refine wpAnyH_ready (rs := [4]) (by kernel_rfl) (by simp) (AllReadyH.cons rfl (fun K hK => ?_) AllReadyH.nil)
  rw [if_pos (by rfl)]
  go_simp
  refine (isEmpty_any b2 (n + 1) (n + 1) (shL l n (n - 0)).length d3 a3 wc (by omega) g3.out).mono ?_
  rintro e wc ⟨rfl, hb⟩
  have Bc := Lib.hid (below_on Bc.out hb)
  clear hb
  go_simp
  refine hK.out _ _ (KS.out _ Bc.out) (fun h0_3 => ?_)
  clear hK K h0_2
  refine tkH (i := 5) (v := ?v3) rfl (Or.inl ⟨by rfl, ?hy3⟩) h0_3 ?rest3
  case hy3 => (intro w' hS; (try dsimp only at hS); go_simp; try (with_reducible rfl))
  simp only [Act.put, sA, sB, sC, sD]
  try simp only [sF]
  try simp only [sE]
  refine wpAnyH_done (by kernel_rfl) ?_ _
  go_wp2_with fail
  go_ret
  exact Or.inl ⟨HE.out, _, rfl, rfl, Bc.out⟩
end Go.Proofs.YtbhaoaobhgilkaaGreat

namespace Go.Proofs.YtbhaoaobhgilkaaGreat
open Go.RowKit Go.Sort Go.Shelf

theorem empty1_enters : ∀ args w, (callFunc 52 args).run Tryz.prog w = .ok (.enter 52 args) w := enters_of Tryz.func52 (by kernel_rfl) rfl

theorem ansE_one (n : Int) (L : List AV) (er : Int) : ansE n [L] er = if chkP n L = 0 then er else chkP n L := by
  unfold ansE
  by_cases h : chkP n L = 0
  · simp [h]
  · simp [h]

def empE (n : Int) (L : List AV) : Int := if chkP n L = 0 then shE (L.map ofV) n.toNat n.toNat else chkP n L

set_option maxRecDepth 100000 in
set_option maxHeartbeats 4000000 in
theorem empty_any (n : Int) (L : List AV) (ao : Option Addr) (cap : Nat) (w : World) (hR : RdV w ao L) :
    Calls Tryz.prog 17 #[.int .i64 n, .slice ao L.length cap] w (fun e w' => Below w.heap.size w w' ∧ e = .returned (.tuple #[.bool (if empE n L = 0 then empB (L.map ofV) n.toNat else false), .int .i64 (empE n L)])) := by
  have hmf : ∀ (fn : Fn) (first cap : Array Value) (w : World), (Instr.makeFunc fn first cap).run Tryz.prog w = .ok (.func fn first cap) w := fun _ _ _ _ => rfl
  obtain ⟨m, hm⟩ : ∃ m, m = L.length := ⟨_, rfl⟩
  obtain ⟨w0, hw0⟩ : ∃ w0, w0 = (w.alloc (.cells #[.int .i64 n] 3)).alloc (.cells #[.slice ao m cap] 22) := ⟨_, rfl⟩
  have E0 := Lib.hid (show Below w.heap.size w w0 by rw [hw0]; exact past_two (Below.refl _ _))
  have X0 := Lib.hid (show Bx1 w0 w.heap.size (.int .i64 n) 3 by rw [hw0]; exact (Bx1.made w _ _).kept (one_more _))
  have X1 := Lib.hid (show Bx1 w0 (w.heap.size + 1) (.slice ao m cap) 22 by rw [hw0]; have := Bx1.made (w.alloc (.cells #[.int .i64 n] 3)) (.slice ao m cap) 22; simpa using this)
  have Z0 := Lib.hid (show w0.heap.size = w.heap.size + 2 by rw [hw0]; simp)
  have B1 := Lib.hid (one_more (w1 := w0) (.cells #[.slice ao m cap] 22))
  have hG : RdG (w0.alloc (.cells #[.slice ao m cap] 22)) (some ⟨w0.heap.size, 0, none⟩) [L] := by
    intro t ht
    have : t = 0 := by simpa using ht
    subst this
    refine ⟨_, ao, cap, rfl, ?_, (hR.on E0.out).on B1.out⟩
    rw [addr_add]
    have := (Bx1.made w0 (.slice ao m cap) 22).cell
    rw [hm] at this ⊢
    exact this
  have AN := Lib.hid (answerB_any 52 #[.pointer (some ⟨w.heap.size, 0, none⟩), .pointer (some ⟨w.heap.size + 1, 0, none⟩)] n (some ⟨w0.heap.size, 0, none⟩) 1 [L] (shE (L.map ofV) n.toNat n.toNat) _ (by simp) hG empty1_enters
    (fun _ v _ => v = .bool (empB (L.map ofV) n.toNat)) (fun _ _ _ _ _ h _ => h) (fun hc W hW => by
      have hc0 := hc L (by simp)
      have hn := (chk_valid hc0).1
      have e : ((n.toNat : Nat) : Int) = n := by omega
      refine empty1_any n.toNat L ao cap w.heap.size (w.heap.size + 1) W (by rw [e]; exact hc0) (((hR.on E0.out).on B1.out).on hW) ?_ ?_
      · rw [e]; exact kept hW (kept B1.out X0.out.cell)
      · rw [← hm]; exact kept hW (kept B1.out X1.out.cell)))
  have HE := Lib.hid (show ansE n [L] (shE (L.map ofV) n.toNat n.toNat) = empE n L from ansE_one _ _ _)
  have c0 := X0.out.cell
  have c1 := X1.out.cell
  simp only [List.length_cons, List.length_nil, Nat.zero_add] at AN
  rw [← hm]
  clear hR hG hm
  go_enter Tryz.func17, Tryz.ntmps17
  go_upto_region 1 with (fail)
  rw [← hw0]
  clear hw0
  go_wp2_with fail
  refine AN.out.mono ?_
  rintro e w2 ⟨hb, ⟨he, W, v, hW, rfl, rfl⟩ | ⟨he, rfl⟩⟩
  · have B2 := Lib.hid (below_on E0.out (past_one hb))
    rw [HE.out] at he
    have HZ := Lib.hid he
    clear hb he hW
    go_wp2_with fail
    refine bodyPost_ret (v := .tuple #[.bool (empB (L.map ofV) n.toNat), .int .i64 0]) (by simp [results, Tryz.results17, go_sem]) rfl ?_
    exact ⟨B2.out, by first | rfl | rw [HZ.out, if_pos rfl]⟩
  · have B2 := Lib.hid (below_on E0.out (past_one hb))
    rw [HE.out] at he ⊢
    have HZ := Lib.hid he
    clear hb he
    go_wp2_with fail
    refine bodyPost_ret (v := .tuple #[.bool false, .int .i64 (empE n L)]) (by simp [results, Tryz.results17, go_sem]) rfl ?_
    exact ⟨B2.out, by first | rfl | rw [if_neg HZ.out]⟩
end Go.Proofs.YtbhaoaobhgilkaaGreat

namespace Go.Proofs
open Go.Shelf
def Tryz.laysDel_ren : Go.Shelf.Ren := ⟨fun | 45 => 47 | n => n, fun | 22 => 23 | 23 => 2 | 3 => 3 | 4 => 4 | 0 => 0 | n => n, fun | n => n⟩
theorem Tryz.laysDel : Go.Proofs.SlLaysN.n45 Tryz.prog Tryz.laysDel_ren := {
  mixed := by kernel_rfl
  f45 := ⟨Tryz.f47.name, by decide, Tryz.func47.trans (congrArg some (by kernel_rfl))⟩
  t0 := Tryz.underlying0
  a0 := Tryz.isAgg0
  z0 := Tryz.sizeOf0
  v0 := Tryz.zeroValue0
  t3 := Tryz.underlying3
  a3 := Tryz.isAgg3
  z3 := Tryz.sizeOf3
  v3 := Tryz.zeroValue3
  t4 := Tryz.underlying4
  a4 := Tryz.isAgg4
  z4 := Tryz.sizeOf4
  v4 := Tryz.zeroValue4
  t22 := Tryz.underlying23
  a22 := Tryz.isAgg23
  z22 := Tryz.sizeOf23
  v22 := Tryz.zeroValue23
  t23 := Tryz.underlying2
  a23 := Tryz.isAgg2
  z23 := Tryz.sizeOf2
  v23 := Tryz.zeroValue2
  i23 := by kernel_rfl }
end Go.Proofs

namespace Go.Proofs.YtbhaoaobhgilkaaGreat
open Go.RowKit Go.Sort Go.Shelf

def OwnI (w : World) (B g cap : Nat) (a : List Int) : Prop := w.ownsRow B 2 1 (.slice (some ⟨g, 0, none⟩) a.length cap) a.length (a.map (Value.int .i64))

theorem OwnI.at {w : World} {B g cap : Nat} {a : List Int} (h : OwnI w B g cap a) {j : Nat} (hj : j < a.length) : w.cell? ⟨g, j, none⟩ = some (.int .i64 (gA a j)) := by
  rw [World.ownsRow.cellAt h j (by omega), List.getElem?_map, List.getElem?_eq_getElem hj]
  simp [gA, hj]

theorem OwnI.lt {w : World} {B g cap : Nat} {a : List Int} (h : OwnI w B g cap a) : B ≤ g ∧ g < w.heap.size := World.ownsRow.lt h g rfl

theorem OwnI.capOk {w : World} {B g cap : Nat} {a : List Int} (h : OwnI w B g cap a) : a.length ≤ cap ∧ cap ≤ maxLen := by
  rcases h.2 with ⟨e, _⟩ | ⟨_, c, _, e, _, _, h1, h2, _⟩
  · cases e
  · injection e with _ _ e; subst e; exact ⟨h1, h2⟩

theorem i64_info : (Tryz.prog.info? 2).map (fun i => (i.zero, i.size, i.bytes)) = some (some (.int .i64 0), 1, 8) := by kernel_rfl

theorem cloneI_any (a : List Int) (b c : Nat) (w : World) (hl : a.length ≤ 1000000) (hc : ∀ j, j < a.length → w.cell? ⟨b, j, none⟩ = some (.int .i64 (gA a j))) :
    Calls Tryz.prog 86 #[.slice (some ⟨b, 0, none⟩) a.length c] w (fun e w' => ∃ g cap, e = .returned (.slice (some ⟨g, 0, none⟩) a.length cap) ∧ OwnI w' w.heap.size g cap a ∧ Below w.heap.size w w') := by
  obtain ⟨i0, hi, hz0, hz1, hz2⟩ := info_parts i64_info
  have h := AnyE.slices_Clone Tryz.laysCloneI i0 (.int .i64 0) 1 8 hi hz0 hz1 hz2 rfl (by omega) (fun w => size_of i64_size w) b 0 a.length c (a.map (Value.int .i64)) w (by simp) (by unfold maxLen; omega) (by omega)
    (fun j u hu => by
      rw [List.getElem?_map] at hu
      cases hj : a[j]? with
      | none => rw [hj] at hu; cases hu
      | some x =>
        rw [hj] at hu
        have hjl : j < a.length := (List.getElem?_eq_some_iff.1 hj).1
        rw [Nat.zero_add, hc j hjl, ← hu]
        simp [gA, hj]) (by simp [Value.oneCell'])
  change Calls Tryz.prog 86 _ _ _ at h
  refine h.mono ?_
  rintro e w' ⟨v', rfl, ho, hn, hb⟩
  rcases id ho.2 with ⟨e1, _⟩ | ⟨g, cap, cur, e1, _⟩
  · exact absurd e1 hn
  · subst e1
    exact ⟨g, cap, rfl, ho, hb⟩

theorem del_any (a : List Int) (g cap i : Nat) (w : World) (hl : a.length ≤ cap) (hcm : cap ≤ 9223372036854775807) (hi : i < a.length) (_hg : g < w.heap.size) (hc : ∀ j, j < a.length → w.cell? ⟨g, j, none⟩ = some (.int .i64 (gA a j)) ∧ w.frozen? ⟨g, j, none⟩ = false) :
    Calls Tryz.prog 47 #[.slice (some ⟨g, 0, none⟩) a.length cap, .int .i64 i, .int .i64 ((i : Int) + 1)] w (fun e w' => e = .returned (.slice (some ⟨g, 0, none⟩) (a.length - 1) cap)
      ∧ (∀ j, j < a.length - 1 → w'.cell? ⟨g, j, none⟩ = some (.int .i64 (gA (a.eraseIdx i) j))) ∧ w.grownBy w' (some g)) := by
  have hH : Holds (Value.int .i64) w g 0 a.toArray := fun j hj => by
    have hj' : j < a.length := by simpa using hj
    rw [Nat.zero_add]
    refine ⟨?_, (hc j hj').2⟩
    rw [(hc j hj').1]
    simp [gA, hj']
  have h := AnyG.slices_Delete_int Tryz.laysDel g 0 cap i (i + 1) a w hH hl hcm (by omega) (by omega)
  change Calls Tryz.prog 47 _ _ _ at h
  rw [show (((i + 1 : Nat)) : Int) = (i : Int) + 1 by omega, show i + 1 - i = 1 by omega] at h
  refine h.mono ?_
  rintro e w' ⟨rfl, q, rfl⟩
  have hs : (a.take i ++ a.drop (i + 1) ++ List.replicate 1 0).length = a.length := by simp; omega
  have H2 := holds_putRow (Value.int .i64) (Sort.ahead w q) g 0 a.toArray (a.take i ++ a.drop (i + 1) ++ List.replicate 1 0).toArray (fun j hj => hH j hj) (by rw [List.size_toArray, List.size_toArray, hs])
  refine ⟨rfl, fun j hj => ?_, ?_⟩
  · have h3 := (H2 j (by rw [List.size_toArray, hs]; omega)).1
    rw [Nat.zero_add] at h3
    rw [h3]
    have he : j < (a.eraseIdx i).length := by rw [List.length_eraseIdx_of_lt hi]; exact hj
    rw [List.eraseIdx_eq_take_drop_succ] at he ⊢
    have e1 : (a.take i ++ a.drop (i + 1) ++ List.replicate 1 0)[j]? = (a.take i ++ a.drop (i + 1))[j]? := List.getElem?_append_left he
    rw [List.getElem!_toArray, getElem!_def, e1]
    simp only [gA, List.getD_eq_getElem?_getD, List.getElem?_eq_getElem he, Option.getD_some]
  · unfold putRow mapBlock Sort.ahead
    refine ⟨rfl, rfl, rfl, by simp, fun k hk hne => ?_⟩
    simp only
    rw [Array.getElem?_modify, if_neg (fun e => hne (by rw [e]))]
end Go.Proofs.YtbhaoaobhgilkaaGreat

namespace Go.Proofs.YtbhaoaobhgilkaaGreat
open Go.RowKit Go.Sort Go.Shelf

def GB (g : Nat) (A B : World) : Prop := A.grownBy B (some g)

theorem GB.refl (g : Nat) (A : World) : GB g A A := ⟨rfl, rfl, rfl, Nat.le_refl _, fun _ _ _ => rfl⟩

theorem GB.drew {g : Nat} {A B : World} (h : GB g A B) : GB g A B.drew := ⟨h.os, h.tape, h.output, h.size, h.block⟩

theorem GB.trans {g : Nat} {A B C : World} (h : GB g A B) (k : GB g B C) : GB g A C :=
  ⟨k.os.trans h.os, k.tape.trans h.tape, k.output.trans h.output, Nat.le_trans h.size k.size, fun j hj hn => (k.block j (Nat.lt_of_lt_of_le hj h.size) hn).trans (h.block j hj hn)⟩

theorem GB.below {g : Nat} {A B : World} (h : Below A.heap.size A B) : GB g A B := ⟨h.os, h.tape, h.output, h.size, fun j hj _ => h.block j hj⟩

theorem GB.cell {g : Nat} {A B : World} (h : GB g A B) {p : Addr} {v : Value} (hne : p.block ≠ g) (hc : A.cell? p = some v) : B.cell? p = some v := by
  rw [World.cell?_of_block (h.block _ (World.block_lt_of_cell? A _ hc) (fun e => hne (by injection e)))]; exact hc

theorem GB.to_below {g n : Nat} {A B : World} (h : GB g A B) (hg : n ≤ g) (hn : n ≤ A.heap.size) : Below n A B := ⟨h.os, h.tape, h.output, h.size, fun j hj => h.block j (by omega) (fun e => by injection e; omega)⟩

def Chooses (fv : Value) (w : World) (ch : List Int → List Int) : Prop :=
  ∃ k lb, fv = .func (.func k) #[] lb ∧ (∀ args w, (callFunc k args).run Tryz.prog w = .ok (.enter k args) w) ∧ ∀ W, Below w.heap.size w W → ∀ g cap (a : List Int), a.length = 6 → OwnI W w.heap.size g cap a →
    Calls Tryz.prog k (#[.slice (some ⟨g, 0, none⟩) 6 cap] ++ lb) W (fun e W' => ∃ m c', e = .returned (.slice (some ⟨g, 0, none⟩) m c') ∧ m = (ch a).length ∧ (∀ j, j < (ch a).length → W'.cell? ⟨g, j, none⟩ = some (.int .i64 (gA (ch a) j))) ∧ GB g W W')

theorem OwnI.free {w : World} {B g cap : Nat} {a : List Int} (h : OwnI w B g cap a) (j : Nat) : w.frozen? ⟨g, j, none⟩ = false := World.ownsRow.frozenAt h j

theorem cell_heap {W w : World} (h : W.heap = w.heap) (p : Addr) : W.cell? p = w.cell? p := by unfold World.cell?; rw [h]

theorem frozen_heap {W w : World} (h : W.heap = w.heap) (p : Addr) : W.frozen? p = w.frozen? p := by unfold World.frozen?; rw [h]

def chW (n i : Nat) (a : List Int) : List Int := (a.take n).eraseIdx i

theorem cut_hiI (w : World) (a : Addr) (m c k : Nat) (hk : k ≤ c) : (Instr.sliceAt 23 (.slice (some a) m c) none (some (.int .i64 k)) none).run Tryz.prog w = .ok (.slice (some a) k c) w := by
  have he : Tryz.prog.elem 23 = 2 := by simp [Program.elem]
  rw [run_sliceAt_slice w _ _ _ _ _ (by rw [he]; exact Tryz.underlying23), run_slice_h w _ _ _ _ (by rw [he]; exact Tryz.underlying23) .i64 k (by omega) (by omega), he, size_of i64_size]
  simp only [Result.andThen_ok, sliced, Int.toNat_natCast]
  by_cases h : c - 0 = 0
  · simp [h]; try omega
  · rw [if_neg (by omega)]
    simp [Addr.add]

theorem yld_cut {o : Oper} {ac : Act} {w : World} (s k : Operand) (ho : o.op = .slice 23 s none (some k) none) (a : Addr) (m c kk : Nat) (hs : ac.eval s = .slice (some a) m c) (hk : ac.eval k = .int .i64 kk) (hle : kk ≤ c) :
    (execOp ac.eval o).run Tryz.prog w = .ok (.value (.slice (some a) kk c)) w := by
  have h := cut_hiI w a m c kk hle
  unfold execOp
  simp only [ho, hs, hk, Option.map_none, Option.map_some, Sem.run_bind, h, Result.andThen_ok, Sem.run_pure]

theorem gA_take {a : List Int} {n j : Nat} (h : j < n) : gA (a.take n) j = gA a j := by
  simp [gA, List.getD_eq_getElem?_getD, h]

set_option maxRecDepth 100000 in
set_option maxHeartbeats 4000000 in
theorem chW_any (n i g cap pn pi : Nat) (a : List Int) (B : Nat) (w : World) (ha : a.length = 6) (hn : n ≤ 6) (hi : i < n) (ho : OwnI w B g cap a) (c0 : w.cell? ⟨pn, 0, none⟩ = some (.int .i64 n)) (c1 : w.cell? ⟨pi, 0, none⟩ = some (.int .i64 i)) (h0 : pn ≠ g) (h1 : pi ≠ g) :
    Calls Tryz.prog 46 #[.slice (some ⟨g, 0, none⟩) 6 cap, .pointer (some ⟨pn, 0, none⟩), .pointer (some ⟨pi, 0, none⟩)] w (fun e W' => ∃ m c', e = .returned (.slice (some ⟨g, 0, none⟩) m c') ∧ m = (chW n i a).length ∧ (∀ j, j < (chW n i a).length → W'.cell? ⟨g, j, none⟩ = some (.int .i64 (gA (chW n i a) j))) ∧ GB g w W') := by
  have hcp := ho.capOk
  have hcn := Lib.hid (show n ≤ cap by have := hcp.1; omega)
  have hln : (a.take n).length = n := by simp; omega
  have hcm : cap ≤ 9223372036854775807 := by have := hcp.2; unfold maxLen at this; omega
  have hcc : n ≤ cap := by have := hcp.1; omega
  have hfa : ∀ W : World, W.heap = w.heap → ∀ j, j < (a.take n).length → W.cell? ⟨g, j, none⟩ = some (.int .i64 (gA (a.take n) j)) ∧ W.frozen? ⟨g, j, none⟩ = false := fun W hd j hj => by
    have hj' : j < a.length := by omega
    refine ⟨?_, ?_⟩
    · rw [cell_heap hd, ho.at hj', gA_take (by omega)]
    · rw [frozen_heap hd]; exact ho.free j
  have DE := Lib.hid (fun W (_ : GB g w W) (hd : W.heap = w.heap) => del_any (a.take n) g cap i W (by rw [hln]; exact hcc) hcm (by rw [hln]; exact hi) (by rw [hd]; exact ho.lt.2) (hfa W hd))
  rw [hln] at DE
  have CL := Lib.hid (show (chW n i a).length = n - 1 by unfold chW; rw [List.length_eraseIdx_of_lt (by omega), hln])
  have C0 := Lib.hid c0
  have C1 := Lib.hid c1
  have H0 := Lib.hid h0
  have H1 := Lib.hid h1
  have CE := Lib.hid (show (a.take n).eraseIdx i = chW n i a from rfl)
  rw [CE.out] at DE
  have HW1 := Lib.hid (show IntKind.i64.wrap ((i : Int) + 1) = (i : Int) + 1 by rw [IntKind.wrap_i64]; omega)
  generalize chW n i a = r at *
  clear ho c0 c1 h0 h1 hcp hln ha CE hfa hcm hcc
  go_enter Tryz.func46, Tryz.ntmps46
  go_upto_region 1 with (fail)
  have KS := Lib.hid (show ∀ W, GB g w W → (W.cell? ⟨pn, 0, none⟩ = some (.int .i64 n) ∧ W.cell? ⟨pi, 0, none⟩ = some (.int .i64 i)) from fun W h => ⟨h.cell H0.out C0.out, h.cell H1.out C1.out⟩)
  obtain ⟨wc, hwc⟩ : ∃ wc, wc = w.drew := ⟨_, rfl⟩
  have HH := Lib.hid (show wc.heap = w.heap by rw [hwc]; rfl)
  have Bc := Lib.hid (show GB g w wc by rw [hwc]; exact (GB.refl g _).drew)
  refine wp_region_held_drew (S := (fun W => (W.cell? ⟨pn, 0, none⟩ = some (.int .i64 n) ∧ W.cell? ⟨pi, 0, none⟩ = some (.int .i64 i)))) (by kernel_rfl) (by rw [← hwc]; exact KS.out _ Bc.out) (fun h0 => ?_)
  rw [← hwc] at h0 ⊢
  clear hwc
  refine tkH (i := 0) (v := ?v1) rfl (Or.inl ⟨by rfl, ?hy1⟩) h0 ?rest1
  case hy1 => (intro w' hS; (try dsimp only at hS); go_simp; try (with_reducible rfl))
  simp only [Act.put, sA, sB, sD, sE, sF]
  refine tkH (i := 1) (v := ?v2) rfl (Or.inl ⟨by rfl, ?hy2⟩) h0 ?rest2
  case hy2 => (intro w' hS; (try dsimp only at hS); go_simp; try (with_reducible rfl))
  simp only [Act.put, sZ]
  refine tkH (i := 2) (v := (.slice (some ⟨g, 0, none⟩) n cap)) rfl (Or.inl ⟨by rfl, (fun w' _ => yld_cut _ _ rfl ⟨g, 0, none⟩ 6 cap n rfl rfl hcn.out)⟩) h0 ?_
  simp only [Act.put, sZ]
  refine tkH (i := 3) (v := ?v4) rfl (Or.inl ⟨by rfl, ?hy4⟩) h0 ?rest4
  case hy4 => (intro w' hS; (try dsimp only at hS); go_simp; try (with_reducible rfl))
  simp only [Act.put, sZ]
  refine tkH (i := 4) (v := ?v5) rfl (Or.inl ⟨by rfl, ?hy5⟩) h0 ?rest5
  case hy5 => (intro w' hS; (try dsimp only at hS); go_simp; try (with_reducible rfl))
  simp only [Act.put, sZ]
  refine tkH (i := 5) (v := ?v6) rfl (Or.inl ⟨by rfl, ?hy6⟩) h0 ?rest6
  case hy6 => (intro w' hS; (try dsimp only at hS); go_simp; try (with_reducible rfl))
  simp only [Act.put, sZ]
  refine wpAnyH_ready (rs := [6]) (by kernel_rfl) (by simp) (AllReadyH.cons rfl (fun K hK => ?_) AllReadyH.nil)
  rw [if_pos (by rfl)]
  go_simp
  rw [HW1.out]
  refine (DE.out wc Bc.out HH.out).mono ?_
  rintro e wc ⟨rfl, hr, hb⟩
  have R1 := Lib.hid hr
  clear hr
  have Bc := Lib.hid (GB.trans Bc.out hb)
  clear hb
  go_simp
  refine hK.out _ _ (KS.out _ Bc.out) (fun h0_1 => ?_)
  clear hK K h0
  refine tkH (i := 7) (v := ?v7) rfl (Or.inl ⟨by rfl, ?hy7⟩) h0_1 ?rest7
  case hy7 => (intro w' hS; (try dsimp only at hS); go_simp; try (with_reducible rfl))
  simp only [Act.put, sA, sB, sC, sD]
  try simp only [sF]
  try simp only [sE]
  refine wpAnyH_done (by kernel_rfl) ?_ _
  go_wp2_with fail
  go_ret
  exact ⟨n - 1, cap, rfl, CL.out.symm, by rw [CL.out]; exact R1.out, Bc.out⟩
end Go.Proofs.YtbhaoaobhgilkaaGreat

namespace Go.Proofs.YtbhaoaobhgilkaaGreat
open Go.RowKit Go.Sort Go.Shelf

theorem cloneL_any (l : List Ln) (b c : Nat) (w : World) (hl : l.length ≤ 1000000) (h : Rw w b l) :
    Calls Tryz.prog 95 #[.slice (some ⟨b, 0, none⟩) l.length c] w (fun e w' => ∃ v', e = .returned v' ∧ OwnL w' w.heap.size v' l ∧ Below w.heap.size w w') := by
  obtain ⟨i0, hi, hz0, hz1, hz2⟩ := info_parts ln_info3
  have h6 : ∀ x ∈ l, x.a.length = 6 := fun x hx => by
    obtain ⟨i, hi, rfl⟩ := List.getElem_of_mem hx
    exact (h.1 i hi).1
  have hh := AnyE.slices_Clone Tryz.laysCloneL i0 (.agg ln0.cs) 8 64 hi hz0 hz1 hz2 rfl (by omega) (fun w => size_of ln_size w) b 0 l.length c (l.flatMap Ln.cells) w (flat_len h6) (by unfold maxLen; omega) (by omega)
    (fun j u hu => by
      have hj : j < l.length * 8 := by
        by_cases q : j < l.length * 8
        · exact q
        · rw [List.getElem?_eq_none (by rw [flat_len h6]; omega)] at hu; cases hu
      have ht : j / 8 < l.length := by omega
      have e : j = j / 8 * 8 + j % 8 := by omega
      rw [e, flat_at h6 ht (by omega)] at hu
      have := (h.1 (j / 8) ht).2 (j % 8) u hu
      rw [addr_add] at this
      rw [Nat.zero_add, e]
      exact this) (fun u hu => by
      obtain ⟨x, hx, hu⟩ := List.mem_flatMap.1 hu
      exact cells_one x u hu)
  change Calls Tryz.prog 95 _ _ _ at hh
  refine hh.mono ?_
  rintro e w' ⟨v', rfl, ho, _, hb⟩
  exact ⟨v', rfl, ⟨ho, h6⟩, hb⟩
end Go.Proofs.YtbhaoaobhgilkaaGreat

namespace Go.Proofs.YtbhaoaobhgilkaaGreat
open Go.RowKit Go.Sort Go.Shelf

theorem OwnL.base {w : World} {B B' : Nat} {v : Value} {l : List Ln} (h : OwnL w B v l) (hb : B' ≤ B) : OwnL w B' v l :=
  ⟨⟨h.1.1, h.1.2.imp id fun ⟨g, cap, cur, h1, h2, h3⟩ => ⟨g, cap, cur, h1, Nat.le_trans hb h2, h3⟩⟩, h.2⟩

end Go.Proofs.YtbhaoaobhgilkaaGreat

namespace Go.Proofs.YtbhaoaobhgilkaaGreat
open Go.RowKit Go.Sort Go.Shelf

theorem yld_loadV {o : Oper} {a : Act} {w : World} (s : Operand) (ho : o.op = .load 25 s) (p : Addr) (hs : a.eval s = .pointer (some p)) {y : AV} (hx : AvAt w p y) : (execOp a.eval o).run Tryz.prog w = .ok (.value (.agg y.cs)) w := by
  have hv := av_loadP hx
  have h : (Instr.loadAt 25 (.pointer (some p))).run Tryz.prog w = .ok (.agg y.cs) w := by
    simp only [Instr.loadAt, Instr.sureAddr, Sem.run_bind, Sem.run_pure, Result.andThen_ok, hv]
  generalize y.cs = V at *
  unfold execOp
  simp only [ho, hs, Sem.run_bind, Sem.run_pure, h, Result.andThen_ok]

end Go.Proofs.YtbhaoaobhgilkaaGreat

namespace Go.Proofs.YtbhaoaobhgilkaaGreat
open Go.RowKit Go.Sort Go.Shelf

end Go.Proofs.YtbhaoaobhgilkaaGreat
