/- Arguments opened: a Case, a point.; Blocks that stores elsewhere leave as they are.; Contracts of layer 3's Copy.; The change of layer 3's Before.; Plain mathematics: what Before makes.; Plain mathematics: Before, as the project does it, is Before as the reference does it.; Plain mathematics: Before in one closing.; Plain mathematics: Before in one closing; the whole.; Before in one closing: the error and the zone.; The contract of Before of layer 3's reference. -/
import Derived.Test.YtbnebinpemejlaaHc13
import Derived.Test.YtbnebinpemejlaaHc4
import Derived.Test.YtbnebinpemejlaaHc8
import Derived.Deep.RegionWith

namespace Go.Proofs.Ytbnebinpemejlaa
open Go.ChangeShapes Go.WideShapes Go.ChangeAt Go.RowKit Go.Joins Go.Deep

theorem Try.cells2 : Try.prog.cellsOf 2 = 1 := by kernel_rfl

theorem Try.cells35 : Try.prog.cellsOf 35 = 1 := by kernel_rfl

theorem Try.cells37 : Try.prog.cellsOf 37 = 6 := by kernel_rfl

theorem Try.cells52 : Try.prog.cellsOf 52 = 2 := by kernel_rfl

set_option maxRecDepth 100000 in
/-- A zone's two cells. -/
theorem trod_zone {H : Type} {enc : TypeId × Value → H} {W : World} {base fuel : Nat} {sp : Nat → Bool} {held : Bool} {c0 c1 : Value} {y : DataW H × List MemPlace}
    (h : DataW.trod enc Try.prog W base sp held fuel 25 [c0, c1] = some y) :
    ∃ (N : Int) (ao : Option Addr) (l : List Int) (cap : Nat), c0 = .int .i64 N ∧ c1 = .slice ao l.length cap ∧ I64 N ∧ Arg W ao l ∧ l.length ≤ maxLen ∧ (ao = none → l = [] ∧ cap = 0) := by
  obtain ⟨xs, n, _, _, hl, hx, hf⟩ := DataW.trod_struct Try.underlying25 h
  have g0 := hf 0 _ rfl
  have g1 := hf 1 _ rfl
  match xs, hx with
  | [y0, y1], _ =>
    simp [Try.cells3, Try.cells22] at g0 g1
    obtain ⟨N, e0, _, w0⟩ := DataW.trod_int Try.underlying3 g0
    simp at e0
    obtain ⟨ao, l, cap, e1, hA, hl2, hn⟩ := open_limits2 g1
    exact ⟨N, ao, l, cap, e0, e1, wf_i64 w0, hA, hl2, hn⟩

set_option maxRecDepth 100000 in
/-- A Case by value. -/
theorem open_case {H : Type} {enc : TypeId × Value → H} {W : World} {base : Nat} {sp : Nat → Bool} {held : Bool} {r : Reach} {b0 : Nat} {v : Value} {d : DataW H} {p : List MemPlace}
    (hv : Value.okWide Try.prog W r b0 37 v) (h : DataW.Trod enc Try.prog W base sp held 37 v d p) :
    ∃ (N : Int) (ao : Option Addr) (l : List Int) (cap : Nat) (i j c : Int) (dao : Option Addr) (cs : List Con) (dc : Nat),
      v = .agg #[.int .i64 N, .slice ao l.length cap, .int .i64 i, .int .i64 j, .int .i64 c, .slice dao cs.length dc] ∧ I64 N ∧ I64 i ∧ I64 j ∧ I64 c ∧ Arg W ao l ∧ l.length ≤ maxLen ∧ (ao = none → l = [] ∧ cap = 0) ∧
      Arg3 W dao cs ∧ cs.length ≤ maxLen ∧ (∀ k, k < cs.length → (I64 (gc cs k).1 ∧ I64 (gc cs k).2.1 ∧ I64 (gc cs k).2.2)) ∧ (dao = none → cs = [] ∧ dc = 0) := by
  obtain ⟨xs0, rfl, hsz⟩ := okWide_struct Try.underlying37 hv
  obtain ⟨fuel, hf0⟩ := h
  obtain ⟨xs, n, _, _, hl, hx, hf⟩ := DataW.trod_struct Try.underlying37 hf0
  rw [Try.cells37] at hsz
  match xs0, hsz with
  | ⟨[c0, c1, c2, c3, c4, c5]⟩, _ =>
    have g0 := hf 0 _ rfl
    have g1 := hf 1 _ rfl
    have g2 := hf 2 _ rfl
    have g3 := hf 3 _ rfl
    have g4 := hf 4 _ rfl
    match xs, hx with
    | [y0, y1, y2, y3, y4], _ =>
      simp [Value.cells, Try.cells3, Try.cells2, Try.cells25, Try.cells35] at g0 g1 g2 g3 g4
      obtain ⟨N, ao, l, cap, rfl, rfl, hN, hA, hl2, hn⟩ := trod_zone g0
      obtain ⟨i, e1, _, w1⟩ := DataW.trod_int Try.underlying3 g1
      obtain ⟨j, e2, _, w2⟩ := DataW.trod_int Try.underlying3 g2
      obtain ⟨c, e3, _, w3⟩ := DataW.trod_int Try.underlying2 g3
      simp at e1 e2 e3
      obtain ⟨dao, cs, dc, e4, hD, hdl, hdb, hdn⟩ := open_cons g4
      exact ⟨N, ao, l, cap, i, j, c, dao, cs, dc, by rw [e1, e2, e3, e4], hN, wf_i64 w1, wf_i64 w2, wf_i64 w3, hA, hl2, hn, hD, hdl, hdb, hdn⟩

set_option maxRecDepth 100000 in
/-- A struct of two integers. -/
theorem trod_rat {H : Type} {enc : TypeId × Value → H} {W : World} {base fuel : Nat} {sp : Nat → Bool} {held : Bool} {cs : List Value} {y : DataW H × List MemPlace}
    (h : DataW.trod enc Try.prog W base sp held fuel 52 cs = some y) : ∃ i j : Int, cs = [.int .i64 i, .int .i64 j] ∧ I64 i ∧ I64 j := by
  obtain ⟨xs, n, _, _, hl, hx, hf⟩ := DataW.trod_struct Try.underlying52 h
  rw [Try.cells52] at hl
  match cs, hl with
  | [a, b], _ =>
    have g0 := hf 0 _ rfl
    have g1 := hf 1 _ rfl
    match xs, hx with
    | [y0, y1], _ =>
      simp [Try.cells2] at g0 g1
      obtain ⟨i, e0, _, w0⟩ := DataW.trod_int Try.underlying2 g0
      obtain ⟨j, e1, _, w1⟩ := DataW.trod_int Try.underlying2 g1
      simp at e0 e1
      exact ⟨i, j, by rw [e0, e1], wf_i64 w0, wf_i64 w1⟩

/-- A slice of ratios. -/
theorem open_rats {H : Type} {enc : TypeId × Value → H} {W : World} {base fuel : Nat} {sp : Nat → Bool} {held : Bool} {c : Value} {y : DataW H × List MemPlace}
    (h : DataW.trod enc Try.prog W base sp held fuel 48 [c] = some y) :
    ∃ (ao : Option Addr) (ps : List Pq) (cap : Nat), c = .slice ao ps.length cap ∧ Arg2 W ao ps ∧ ps.length ≤ maxLen ∧ Fits ps ∧ (ao = none → ps = [] ∧ cap = 0) := by
  rcases open_slice Try.underlying48 h with ⟨e, _⟩ | ⟨a, len, cap, m, n, D, Pl, e, _, hl, hm, hmm, _, hi⟩
  · simp at e
    exact ⟨none, [], 0, by simpa using e, fun q => absurd rfl q, by simp, fun k hk => by simp at hk, fun _ => ⟨rfl, rfl⟩⟩
  · simp at e
    have hlen : len ≤ m := by rw [hmm]; split <;> omega
    have key : ∀ i, i < len → ∃ q : Pq, (W.cell? (a.add (i * 2)) = some (.int .i64 q.1) ∧ W.cell? ⟨(a.add (i * 2)).block, (a.add (i * 2)).off + 1, none⟩ = some (.int .i64 q.2)) ∧ I64 q.1 ∧ I64 q.2 := fun i hil => by
      obtain ⟨cs', hc, ht⟩ := hi i (by omega)
      rw [Try.cells52] at hc
      obtain ⟨x, y, rfl, w0, w1⟩ := trod_rat ht
      obtain ⟨_, hcl, hat⟩ := World.cells?_some hc
      have c0 := hat 0 (by simp)
      have c1 := hat 1 (by simp)
      rw [add_two _ _ _ (by omega)] at c1
      rw [show (a.add (i * 2)).add 0 = a.add (i * 2) by simp [Addr.add]] at c0
      exact ⟨(x, y), ⟨by simpa using c0, by simpa using c1⟩, w0, w1⟩
    obtain ⟨F, hF⟩ : ∃ F : Nat → Pq, ∀ i, i < len → (W.cell? (a.add (i * 2)) = some (.int .i64 (F i).1) ∧ W.cell? ⟨(a.add (i * 2)).block, (a.add (i * 2)).off + 1, none⟩ = some (.int .i64 (F i).2)) ∧ I64 (F i).1 ∧ I64 (F i).2 := by
      refine ⟨fun i => if h : i < len then (key i h).choose else (0, 0), fun i hil => ?_⟩
      simp only [dif_pos hil]
      exact (key i hil).choose_spec
    have hg : ∀ i, i < len → gp ((List.range len).map F) i = F i := fun i hil => by simp [gp, hil]
    refine ⟨some a, (List.range len).map F, cap, by rw [e]; simp, fun _ => ⟨a, rfl, fun j hj => ?_⟩, by simp; omega, fun k hk => ?_, fun q => by cases q⟩
    · simp at hj
      rw [hg j hj]
      exact (hF j hj).1
    · simp at hk
      rw [hg k hk]
      exact (hF k hk).2

set_option maxRecDepth 100000 in
theorem open_rats_arg {H : Type} {enc : TypeId × Value → H} {W : World} {base : Nat} {sp : Nat → Bool} {held : Bool} {r : Reach} {b0 : Nat} {v : Value} {d : DataW H} {p : List MemPlace}
    (hv : Value.okWide Try.prog W r b0 48 v) (h : DataW.Trod enc Try.prog W base sp held 48 v d p) :
    ∃ (ao : Option Addr) (ps : List Pq) (cap : Nat), v = .slice ao ps.length cap ∧ Arg2 W ao ps ∧ ps.length ≤ maxLen ∧ Fits ps ∧ (ao = none → ps = [] ∧ cap = 0) := by
  obtain ⟨n, hn⟩ := trod_slice1 Try.underlying48 hv h
  exact open_rats hn
end Go.Proofs.Ytbnebinpemejlaa

namespace Go.Proofs.Ytbnebinpemejlaa
open Go.RowKit

/-- A block of cells. -/
def Bx (w : World) (b : Nat) (A : Array Value) : Prop := ∃ t, w.heap[b]? = some (.cells A t (0, 0))

theorem Bx.lt {w : World} {b : Nat} {A : Array Value} (h : Bx w b A) : b < w.heap.size := by
  obtain ⟨t, h⟩ := h
  by_cases c : b < w.heap.size
  · exact c
  · rw [Array.getElem?_eq_none (by omega)] at h; cases h

theorem Bx.kept {w w' : World} {b : Nat} {A : Array Value} (h : Bx w b A) (hb : Below w.heap.size w w') : Bx w' b A := by
  have hl := h.lt
  obtain ⟨t, h⟩ := h
  exact ⟨t, (hb.block b hl).trans h⟩

theorem Bx.made (w : World) (A : Array Value) (t : TypeId) : Bx (w.alloc (.cells A t)) w.heap.size A := ⟨t, heap_alloc_last w _⟩

theorem Bx.cell {w : World} {b : Nat} {A : Array Value} (h : Bx w b A) (k : Nat) : w.cell? ⟨b, k, none⟩ = A[k]? := by
  obtain ⟨t, h⟩ := h
  exact cell_of_row _ _ k A _ _ h

theorem Bx.aside {w : World} {b b' : Nat} {A : Array Value} (h : Bx w b A) (hne : b' ≠ b) (u v : Value) : Bx ((w.setCell ⟨b', 0, none⟩ u).setCell ⟨b', 1, none⟩ v) b A := by
  obtain ⟨t, h⟩ := h
  exact ⟨t, ((heap_setCell_other _ ⟨b', 1, none⟩ b v (fun e => hne e.symm)).trans (heap_setCell_other _ ⟨b', 0, none⟩ b u (fun e => hne e.symm))).trans h⟩

theorem Bx.grown {w w' : World} {b g : Nat} {A : Array Value} (h : Bx w b A) (hg : w.grownBy w' (some g)) (hne : b ≠ g) : Bx w' b A := by
  have hl := h.lt
  obtain ⟨t, h⟩ := h
  exact ⟨t, (hg.block b hl (by simpa using hne)).trans h⟩

theorem own_aside {w : World} {g c b : Nat} {l : List Int} (h : Own w g c l) (hne : b ≠ g) (u v : Value) : Own ((w.setCell ⟨b, 0, none⟩ u).setCell ⟨b, 1, none⟩ v) g c l := put_far h hne u v

theorem arg_grown {w w' : World} {ao : Option Addr} {l : List Int} {g : Nat} (h : Arg w ao l) (hg : w.grownBy w' (some g)) (hne : ∀ a, ao = some a → a.block ≠ g) : Arg w' ao l := fun hl => by
  obtain ⟨a, e, hR⟩ := h hl
  refine ⟨a, e, fun j hj => ?_⟩
  have hb : (a.add j).block = a.block := by unfold Addr.add; split <;> rfl
  exact hg.cell (hR j hj) (by rw [hb]; simpa using hne a e)
end Go.Proofs.Ytbnebinpemejlaa

namespace Go.Proofs.Ytbnebinpemejlaa
open Go.RowKit

set_option maxRecDepth 100000 in
set_option maxHeartbeats 4000000 in
theorem zcy_gen (N : Int) (l : List Int) (ao : Option Addr) (cap : Nat) (i j : Int) (w : World) (hA : Arg w ao l) :
    Calls Try.prog 36 #[.agg #[.int .i64 N, .slice ao l.length cap], .int .i64 i, .int .i64 j] w (ZRes w N (cyM N.toNat i.toNat j.toNat l) (cyG N l i j)) := by
  have CH := Lib.hid (show ∀ W p q al, Below w.heap.size w W → W.cell? p = some (.int .i64 i) → W.cell? q = some (.int .i64 j) → al = (ckB N i 1 && ckB N j 0) → _ from fun W p q al h hp hq hal => ch_cy N l ao cap i j p q W (hA.on h) hp hq al hal)
  have CK := Lib.hid (fun W => isClock_any N i 1 (.slice ao l.length cap) W)
  have CKK := Lib.hid (show ∀ W (x f : Int) (b : Bool), (x = i ∧ f = 1 ∧ b = ckB N i 1) ∨ (x = j ∧ f = 0 ∧ b = ckB N j 0) → Calls Try.prog 74 #[.agg #[.int .i64 N, .slice ao l.length cap], .int .i64 x, .int .i64 f] W (Made (.bool b) W) from fun W x f b h => by
    rcases h with ⟨rfl, rfl, rfl⟩ | ⟨rfl, rfl, rfl⟩ <;> exact isClock_any N _ _ _ W)
  generalize cyM N.toNat i.toNat j.toNat l = r at *
  generalize cyG N l i j = er at *
  generalize ckB N i 1 = k1 at *
  generalize ckB N j 0 = k2 at *
  generalize l.length = len at *
  obtain ⟨w0, hw0⟩ : ∃ w0, w0 = (((w.alloc (.cells #[.int .i64 N, .slice ao len cap] 25)).alloc (.cells #[.int .i64 i] 3)).alloc (.cells #[.int .i64 j] 3)).alloc (.cells #[.int .i64 0, .slice none 0 0] 25) := ⟨_, rfl⟩
  have b0 : w0.cell? ⟨w.heap.size, 0, none⟩ = some (.int .i64 N) := by rw [hw0]; go_simp
  have b1 : w0.cell? ⟨w.heap.size, 1, none⟩ = some (.slice ao len cap) := by rw [hw0]; go_simp
  have b2 : w0.cell? ⟨w.heap.size + 1, 0, none⟩ = some (.int .i64 i) := by rw [hw0]; go_simp
  have b3 : w0.cell? ⟨w.heap.size + 1 + 1, 0, none⟩ = some (.int .i64 j) := by rw [hw0]; go_simp
  have rs : Two w0 (w.heap.size + 1 + 1 + 1) (.int .i64 0) (.slice none 0 0) := by
    rw [hw0]
    have := Two.made (((w.alloc (.cells #[.int .i64 N, .slice ao len cap] 25)).alloc (.cells #[.int .i64 i] 3)).alloc (.cells #[.int .i64 j] 3)) (.int .i64 0) (.slice none 0 0) 25
    simpa using this
  have z0 : w0.heap.size = w.heap.size + 4 := by rw [hw0]; simp
  have E0 := Lib.hid (show Below w.heap.size w w0 by rw [hw0]; exact (past_three (Below.refl _ _)).alloc (by simp; omega) _)
  have KS := Lib.hid (show ∀ w' : World, Below w0.heap.size w0 w' → w'.cell? ⟨w.heap.size, 0, none⟩ = some (.int .i64 N) ∧ w'.cell? ⟨w.heap.size, 1, none⟩ = some (.slice ao len cap) ∧ w'.cell? ⟨w.heap.size + 1, 0, none⟩ = some (.int .i64 i) ∧ w'.cell? ⟨w.heap.size + 1 + 1, 0, none⟩ = some (.int .i64 j) from fun w' h => ⟨kept h b0, kept h b1, kept h b2, kept h b3⟩)
  have KP := Lib.hid (show ∀ (w' : World) (u v : Value), Below w0.heap.size w0 w' → (((w'.setCell ⟨w.heap.size + 1 + 1 + 1, 0, none⟩ u).setCell ⟨w.heap.size + 1 + 1 + 1, 1, none⟩ v).cell? ⟨w.heap.size, 0, none⟩ = some (.int .i64 N) ∧ ((w'.setCell ⟨w.heap.size + 1 + 1 + 1, 0, none⟩ u).setCell ⟨w.heap.size + 1 + 1 + 1, 1, none⟩ v).cell? ⟨w.heap.size, 1, none⟩ = some (.slice ao len cap) ∧ ((w'.setCell ⟨w.heap.size + 1 + 1 + 1, 0, none⟩ u).setCell ⟨w.heap.size + 1 + 1 + 1, 1, none⟩ v).cell? ⟨w.heap.size + 1, 0, none⟩ = some (.int .i64 i) ∧ ((w'.setCell ⟨w.heap.size + 1 + 1 + 1, 0, none⟩ u).setCell ⟨w.heap.size + 1 + 1 + 1, 1, none⟩ v).cell? ⟨w.heap.size + 1 + 1, 0, none⟩ = some (.int .i64 j)) from
    fun w' u v h => ⟨aside_two (kept h b0) (by show w.heap.size ≠ _; omega) u v, aside_two (kept h b1) (by show w.heap.size ≠ _; omega) u v, aside_two (kept h b2) (by show w.heap.size + 1 ≠ _; omega) u v, aside_two (kept h b3) (by show w.heap.size + 1 + 1 ≠ _; omega) u v⟩)
  have HRS := Lib.hid rs
  have BD := Lib.hid (show Below w0.heap.size w0 w0.drew from (Below.refl _ _).drew)
  clear hA b0 b1 b2 b3 rs
  cases k1
  · have HAL := Lib.hid (show false = (false && k2) from rfl)
    go_enter Try.func36, Try.ntmps36
    go_wp2_with fail
    rw [← hw0]
    clear hw0
    refine wp_region_held_drew (S := (fun w' => w'.cell? ⟨w.heap.size, 0, none⟩ = some (.int .i64 N) ∧ w'.cell? ⟨w.heap.size, 1, none⟩ = some (.slice ao len cap) ∧ w'.cell? ⟨w.heap.size + 1, 0, none⟩ = some (.int .i64 i) ∧ w'.cell? ⟨w.heap.size + 1 + 1, 0, none⟩ = some (.int .i64 j))) (by kernel_rfl) (KS.out _ BD.out) (fun h0 => ?_)
    refine wpAnyH_take (i := 0) (v := .agg #[.int .i64 N, .slice ao len cap]) rfl (by kernel_rfl) (by kernel_rfl) (by kernel_rfl) (fun _ _ _ h => h) (Or.inl ⟨by rfl, fun w' hS => by (obtain ⟨c0, c1, c2, c3⟩ := hS; go_simp)⟩) h0 ?_
    simp only [Act.put, List.getElem_toArray, List.getElem_cons_zero, List.setIfInBounds_toArray, List.set_cons_zero, List.set_cons_succ]
    refine wpAnyH_take (i := 1) (v := .agg #[.int .i64 N, .slice ao len cap]) rfl (by kernel_rfl) (by kernel_rfl) (by kernel_rfl) (fun _ _ _ h => h) (Or.inl ⟨by rfl, fun w' hS => by (obtain ⟨c0, c1, c2, c3⟩ := hS; go_simp)⟩) h0 ?_
    simp only [Act.put, List.getElem_toArray, List.getElem_cons_zero, List.getElem_cons_succ, List.setIfInBounds_toArray, List.set_cons_zero, List.set_cons_succ]
    refine wpAnyH_take (i := 2) (v := .int .i64 i) rfl (by kernel_rfl) (by kernel_rfl) (by kernel_rfl) (fun _ _ _ h => h) (Or.inl ⟨by rfl, fun w' hS => by (obtain ⟨c0, c1, c2, c3⟩ := hS; go_simp)⟩) h0 ?_
    simp only [Act.put, List.getElem_toArray, List.getElem_cons_zero, List.getElem_cons_succ, List.setIfInBounds_toArray, List.set_cons_zero, List.set_cons_succ]
    refine wpAnyH_take (i := 9) (v := .func (.func 92) #[] #[.pointer (some ⟨w.heap.size + 1, 0, none⟩), .pointer (some ⟨w.heap.size + 1 + 1, 0, none⟩)]) rfl (by kernel_rfl) (by kernel_rfl) (by kernel_rfl) (fun _ _ _ h => h) (Or.inl ⟨by rfl, fun w' hS => by go_simp⟩) h0 ?_
    simp only [Act.put, List.getElem_toArray, List.getElem_cons_zero, List.getElem_cons_succ, List.setIfInBounds_toArray, List.set_cons_zero, List.set_cons_succ]
    refine wpAnyH_ready (rs := [3]) (by kernel_rfl) (by simp) (AllReadyH.cons rfl (fun K hK => ?_) AllReadyH.nil)
    rw [if_pos (by rfl)]
    go_simp
    refine (CK.out _).mono ?_
    rintro e wa ⟨rfl, hba⟩
    have hb1 := below_on BD.out hba
    go_simp
    refine hK.out _ _ (KS.out _ hb1) (fun h1 => ?_)
    clear hK K h0
    refine wpAnyH_take (i := 4) (v := .bool false) rfl (by kernel_rfl) (by kernel_rfl) (by kernel_rfl) (fun _ _ _ h => h) (Or.inl ⟨by rfl, fun w' hS => by go_simp⟩) h1 ?_
    simp only [Act.put, List.getElem_toArray, List.getElem_cons_zero, List.getElem_cons_succ, List.setIfInBounds_toArray, List.set_cons_zero, List.set_cons_succ]
    refine wpAnyH_take (i := 5) (v := undef) rfl (by kernel_rfl) (by kernel_rfl) (by kernel_rfl) (fun _ _ _ h => h) (Or.inr ⟨by rfl, rfl⟩) h1 ?_
    simp only [Act.put, List.getElem_toArray, List.getElem_cons_zero, List.getElem_cons_succ, List.setIfInBounds_toArray, List.set_cons_zero, List.set_cons_succ]
    refine wpAnyH_take (i := 6) (v := undef) rfl (by kernel_rfl) (by kernel_rfl) (by kernel_rfl) (fun _ _ _ h => h) (Or.inr ⟨by rfl, rfl⟩) h1 ?_
    simp only [Act.put, List.getElem_toArray, List.getElem_cons_zero, List.getElem_cons_succ, List.setIfInBounds_toArray, List.set_cons_zero, List.set_cons_succ]
    refine wpAnyH_take (i := 7) (v := undef) rfl (by kernel_rfl) (by kernel_rfl) (by kernel_rfl) (fun _ _ _ h => h) (Or.inr ⟨by rfl, rfl⟩) h1 ?_
    simp only [Act.put, List.getElem_toArray, List.getElem_cons_zero, List.getElem_cons_succ, List.setIfInBounds_toArray, List.set_cons_zero, List.set_cons_succ]
    refine wpAnyH_take (i := 8) (v := .bool false) rfl (by kernel_rfl) (by kernel_rfl) (by kernel_rfl) (fun _ _ _ h => h) (Or.inl ⟨by rfl, fun w' hS => by go_simp⟩) h1 ?_
    simp only [Act.put, List.getElem_toArray, List.getElem_cons_zero, List.getElem_cons_succ, List.setIfInBounds_toArray, List.set_cons_zero, List.set_cons_succ]
    refine wpAnyH_ready (rs := [10]) (by kernel_rfl) (by simp) (AllReadyH.cons rfl (fun K hK => ?_) AllReadyH.nil)
    rw [if_pos (by rfl)]
    go_simp
    refine (CH.out _ _ _ _ (below_on E0.out hb1) (KS.out _ hb1).2.2.1 (KS.out _ hb1).2.2.2 HAL.out).mono ?_
    intro e wb hz
    obtain ⟨hb4, hres⟩ := hz
    have hb2 := below_on hb1 hb4
    obtain ⟨q0, q1, q2, q3⟩ := (HRS.out.kept hb2).facts
    rcases hres with ⟨he, g, cc, rfl, hg, hO⟩ | ⟨he, rfl⟩
    · subst he
      go_simp
      refine hK.out _ _ (KS.out _ hb2) (fun h2 => ?_)
      clear hK K
      refine wpAnyH_take (i := 11) (v := .agg #[.int .i64 N, .slice (some ⟨g, 0, none⟩) r.length cc]) rfl (by kernel_rfl) (by kernel_rfl) (by kernel_rfl) (fun _ _ _ h => h) (Or.inl ⟨by rfl, fun w' hS => by go_simp⟩) h2 ?_
      simp only [Act.put, List.getElem_toArray, List.getElem_cons_zero, List.getElem_cons_succ, List.setIfInBounds_toArray, List.set_cons_zero, List.set_cons_succ]
      refine wpAnyH_take (i := 12) (v := .int .i64 0) rfl (by kernel_rfl) (by kernel_rfl) (by kernel_rfl) (fun _ _ _ h => h) (Or.inl ⟨by rfl, fun w' hS => by go_simp⟩) h2 ?_
      simp only [Act.put, List.getElem_toArray, List.getElem_cons_zero, List.getElem_cons_succ, List.setIfInBounds_toArray, List.set_cons_zero, List.set_cons_succ]
      refine wpAnyH_ready (rs := [13]) (by kernel_rfl) (by simp) (AllReadyH.cons rfl (fun K hK => ?_) AllReadyH.nil)
      rw [if_pos (by rfl)]
      go_simp
      refine hK.out _ _ (KP.out _ _ _ hb2) (fun h3 => ?_)
      clear hK K
      refine wpAnyH_take (i := 14) (v := .int .i64 0) rfl (by kernel_rfl) (by kernel_rfl) (by kernel_rfl) (fun _ _ _ h => h) (Or.inl ⟨by rfl, fun w' hS => by go_simp⟩) h3 ?_
      simp only [Act.put, List.getElem_toArray, List.getElem_cons_zero, List.getElem_cons_succ, List.setIfInBounds_toArray, List.set_cons_zero, List.set_cons_succ]
      refine wpAnyH_done (by kernel_rfl) ?_ _
      go_wp2_with fail
      refine bodyPost_ret (v := .tuple #[.agg #[.int .i64 N, .slice (some ⟨g, 0, none⟩) r.length cc], .int .i64 0]) (by simp [results, Try.results36, go_sem, q0, q1]) rfl (zres_over E0.out hb2 hO (Nat.le_trans hb1.size hg) (by omega) (by omega) _ _)
    · go_simp
      refine hK.out _ _ (KS.out _ hb2) (fun h2 => ?_)
      clear hK K
      refine wpAnyH_take (i := 11) (v := .agg #[.int .i64 0, .slice none 0 0]) rfl (by kernel_rfl) (by kernel_rfl) (by kernel_rfl) (fun _ _ _ h => h) (Or.inl ⟨by rfl, fun w' hS => by go_simp⟩) h2 ?_
      simp only [Act.put, List.getElem_toArray, List.getElem_cons_zero, List.getElem_cons_succ, List.setIfInBounds_toArray, List.set_cons_zero, List.set_cons_succ]
      refine wpAnyH_take (i := 12) (v := .int .i64 er) rfl (by kernel_rfl) (by kernel_rfl) (by kernel_rfl) (fun _ _ _ h => h) (Or.inl ⟨by rfl, fun w' hS => by go_simp⟩) h2 ?_
      simp only [Act.put, List.getElem_toArray, List.getElem_cons_zero, List.getElem_cons_succ, List.setIfInBounds_toArray, List.set_cons_zero, List.set_cons_succ]
      refine wpAnyH_ready (rs := [13]) (by kernel_rfl) (by simp) (AllReadyH.cons rfl (fun K hK => ?_) AllReadyH.nil)
      rw [if_pos (by rfl)]
      go_simp
      refine hK.out _ _ (KP.out _ _ _ hb2) (fun h3 => ?_)
      clear hK K
      refine wpAnyH_take (i := 14) (v := .int .i64 er) rfl (by kernel_rfl) (by kernel_rfl) (by kernel_rfl) (fun _ _ _ h => h) (Or.inl ⟨by rfl, fun w' hS => by go_simp⟩) h3 ?_
      simp only [Act.put, List.getElem_toArray, List.getElem_cons_zero, List.getElem_cons_succ, List.setIfInBounds_toArray, List.set_cons_zero, List.set_cons_succ]
      refine wpAnyH_done (by kernel_rfl) ?_ _
      go_wp2_with fail
      refine bodyPost_ret (v := .tuple #[.agg #[.int .i64 0, .slice none 0 0], .int .i64 er]) (by simp [results, Try.results36, go_sem, q0, q1]) rfl (zres_over0 E0.out hb2 he (by omega) _ _)
  · have HAL := Lib.hid (show k2 = (true && k2) from rfl)
    go_enter Try.func36, Try.ntmps36
    go_wp2_with fail
    rw [← hw0]
    clear hw0
    by_cases he : er = 0
    · subst he
      go_region_held3 (fun w' => w'.cell? ⟨w.heap.size, 0, none⟩ = some (.int .i64 N) ∧ w'.cell? ⟨w.heap.size, 1, none⟩ = some (.slice ao len cap) ∧ w'.cell? ⟨w.heap.size + 1, 0, none⟩ = some (.int .i64 i) ∧ w'.cell? ⟨w.heap.size + 1 + 1, 0, none⟩ = some (.int .i64 j)) (first | exact KS.out _ BD.out | exact KS.out _ (by assumption) | exact KP.out _ _ _ (by assumption))
        (first | (go_at_call 74; refine (CKK.out _ _ _ _ (by first | exact Or.inl ⟨rfl, rfl, rfl⟩ | exact Or.inr ⟨rfl, rfl, rfl⟩)).mono ?_; rintro e wa ⟨rfl, hba⟩; have hb1 := below_on (by first | exact hb1 | exact BD.out) hba) | (go_at_call 76; refine (CH.out _ _ _ _ (below_on E0.out hb1) (KS.out _ hb1).2.2.1 (KS.out _ hb1).2.2.2 HAL.out).mono ?_; intro e wb hz; obtain ⟨g, cc, rfl, hg, hO⟩ := hz.ok rfl; have hb2 := below_on hb1 hz.1; obtain ⟨q0, q1, q2, q3⟩ := (HRS.out.kept hb2).facts))
      all_goals
        go_wp2_with fail
        refine bodyPost_ret (v := .tuple #[.agg #[.int .i64 N, .slice (some ⟨g, 0, none⟩) r.length cc], .int .i64 0]) (by simp [results, Try.results36, go_sem, q0, q1]) rfl (zres_over E0.out hb2 hO.1 (Nat.le_trans hb1.size hg) (by omega) (by omega) _ _)
    · go_region_held3 (fun w' => w'.cell? ⟨w.heap.size, 0, none⟩ = some (.int .i64 N) ∧ w'.cell? ⟨w.heap.size, 1, none⟩ = some (.slice ao len cap) ∧ w'.cell? ⟨w.heap.size + 1, 0, none⟩ = some (.int .i64 i) ∧ w'.cell? ⟨w.heap.size + 1 + 1, 0, none⟩ = some (.int .i64 j)) (first | exact KS.out _ BD.out | exact KS.out _ (by assumption) | exact KP.out _ _ _ (by assumption))
        (first | (go_at_call 74; refine (CKK.out _ _ _ _ (by first | exact Or.inl ⟨rfl, rfl, rfl⟩ | exact Or.inr ⟨rfl, rfl, rfl⟩)).mono ?_; rintro e wa ⟨rfl, hba⟩; have hb1 := below_on (by first | exact hb1 | exact BD.out) hba) | (go_at_call 76; refine (CH.out _ _ _ _ (below_on E0.out hb1) (KS.out _ hb1).2.2.1 (KS.out _ hb1).2.2.2 HAL.out).mono ?_; intro e wb hz; obtain ⟨rfl, hzb⟩ := hz.no he; have hb2 := below_on hb1 hzb; obtain ⟨q0, q1, q2, q3⟩ := (HRS.out.kept hb2).facts))
      all_goals
        go_wp2_with fail
        refine bodyPost_ret (v := .tuple #[.agg #[.int .i64 0, .slice none 0 0], .int .i64 er]) (by simp [results, Try.results36, go_sem, q0, q1]) rfl (zres_over0 E0.out hb2 he (by omega) _ _)
end Go.Proofs.Ytbnebinpemejlaa

namespace Go.Proofs.Ytbnebinpemejlaa
open Go.RowKit

/-- Before: what the round j does. u, d: the limits of the constant. -/
def bfS (n i : Nat) (u d : Int) (x : List Int) (j : Nat) : List Int :=
  let y := x.set (Zo.ix n j 0) (imin (Zo.At n x j 0) (Zo.smW (Zo.At n x j i) u))
  y.set (Zo.ix n 0 j) (imin (Zo.At n y 0 j) (Zo.smW (Zo.At n y i j) d))

def bfL (n i : Nat) (c : Int) (l : List Int) : List Int := (List.range (n + 1)).foldl (bfS n i (2 * c + 1) (-2 * c + 1)) l

theorem bfS_len (n i : Nat) (u d : Int) (x : List Int) (t : Nat) : (bfS n i u d x t).length = x.length := by simp [bfS]

theorem bfL_len (n i : Nat) (c : Int) (l : List Int) : (bfL n i c l).length = l.length := fold_len (bfS_len n i _ _) l _

set_option maxRecDepth 100000 in
set_option maxHeartbeats 4000000 in
theorem be1_any (b n i : Nat) (c : Int) (p q : Addr) (l : List Int) (w0 w : World) (hn : n ≤ 10) (hi : i ≤ n) (h0 : 0 ≤ c) (h1 : c ≤ 1048576) (h : Mx w b n l) (hp : w0.cell? p = some (.int .i64 c)) (hq : w0.cell? q = some (.int .i64 i)) (hb : Below w0.heap.size w0 w) (hle : w0.heap.size ≤ b) :
    Calls Try.prog 90 #[.pointer (some ⟨b, 0, none⟩), .pointer (some p), .pointer (some q)] w (Chg w b n (rlL n i (bfL n i c l))) := by
  have KQ := Lib.hid (show ∀ x w', MSt w b n x w' → w'.cell? q = some (.int .i64 i) from fun x w' hx => hx.old hb hle hq)
  have RE := Lib.hid (fun (x : List Int) (w' : World) (h : Mx w' b n x) => release_any b n i x w' hn hi h)
  have EQ := Lib.hid (fun W => equals_any h0 h1 W)
  have TT := Lib.hid (fun (x : List Int) (i j : Nat) (v : Int) (hi : i ≤ n) (hj : j ≤ n) (w' : World) (h : MSt w b n x w') => tighten_st (i := i) (j := j) v hn hi hj h)
  have c1 : w.cell? p = some (.int .i64 c) := kept hb hp
  have c2 : w.cell? q = some (.int .i64 i) := kept hb hq
  have HM := Lib.hid (show MSt w b n l w from ⟨h, World.grownBy.refl _ _⟩)
  have TR := Lib.hid (fun (x : List Int) (i : Nat) (hi : i ≤ n) (w' : World) (h : MSt w b n x w') => row_any b n i w' hn hi h.1.dim)
  have HL := Lib.hid h.2
  have c0 := h.dim
  clear h hp hq hb hle
  go_enter Try.func90, Try.ntmps90
  go_wp2_with fail
  refine (EQ.out _).mono ?_
  rintro e w1 ⟨rfl, hw⟩
  rw [hw]; clear hw w1
  go_wp2_with fail
  clear c0 c1 c2
  go_loopw [17] (fun s wr => ∃ (t : Nat) (x : List Int), t ≤ n + 1 ∧ s = .int .i64 t ∧ Hid (x.length = (n + 1) * (n + 1) ∧ x = (List.range t).foldl (bfS n i (2 * c + 1) (-2 * c + 1)) l ∧ MSt w b n x wr)) (fun s _ => n + 1 - (intOf s).toNat)
  case atStart => exact ⟨0, l, by omega, rfl, Lib.hid ⟨HL.out, rfl, HM.out⟩⟩
  case round =>
    obtain ⟨t, x, ht, rfl, HX⟩ := hrel
    by_cases htn : t ≤ n
    · have tti := Zo.ix_lt htn hi
      have tit := Zo.ix_lt hi htn
      have HXL := Lib.hid HX.out.1
      have d0 := KQ.out _ _ HX.out.2.2
      have d1 : wr.cell? ⟨b, 1 + t * (n + 1) + i, none⟩ = some (.int .i64 (Zo.At n x t i)) := by
        rw [Nat.add_assoc]; exact HX.out.2.2.1.at (by rw [HX.out.1]; exact tti)
      have HD := Lib.hid HX.out.2.2.drew
      have PR := TR.out _ t htn _ HD.out
      have PS := zsum_any (Zo.At n x t i) (2 * c + 1) wr.drew
      go_wp2_with fail
      go_still_tail 10, (by kernel_rfl)
      still_call PR
      repeat still_step
      refine wpStill_step (fun K hK => ?_)
      go_simp
      rw [if_pos (show (i : Int) < (n : Int) + 1 by omega)]
      refine ⟨rfl, hK _ ?_⟩
      clear hK K
      repeat still_step
      still_call PS
      repeat still_step
      refine wpStill_nil ?_
      clear d0 d1 PR PS
      change wpList _ _ _ _ _ (World.drew _)
      go_wp2_with fail
      refine (TT.out _ t 0 _ htn (by omega) _ HD.out).mono ?_
      rintro e w1 ⟨rfl, hm⟩
      obtain ⟨y, hy⟩ : ∃ y, y = x.set (Zo.ix n t 0) (imin (Zo.At n x t 0) (Zo.smW (Zo.At n x t i) (2 * c + 1))) := ⟨_, rfl⟩
      rw [← hy] at hm
      have HY := Lib.hid hy
      have HYL := Lib.hid (show y.length = (n + 1) * (n + 1) by rw [hy, List.length_set]; exact HXL.out)
      have HM1 := Lib.hid hm
      have d0 := KQ.out _ _ hm
      have d1 : w1.cell? ⟨b, 1 + i * (n + 1) + t, none⟩ = some (.int .i64 (Zo.At n y i t)) := by
        rw [Nat.add_assoc]; exact hm.1.at (by rw [HYL.out]; exact tit)
      clear hm hy HD tit tti
      go_wp2_with fail
      refine (TR.out _ i hi _ HM1.out).mono ?_
      rintro e w2 ⟨rfl, hw⟩
      rw [hw]; clear hw w2
      go_wp2_with fail
      refine (zsum_any _ _ _).mono ?_
      rintro e w2 ⟨rfl, hw⟩
      rw [hw]; clear hw w2
      go_wp2_with fail
      refine (TT.out _ 0 t _ (by omega) htn _ HM1.out).mono ?_
      rintro e w2 ⟨rfl, hm⟩
      have HM2 := Lib.hid (show MSt w b n (bfS n i (2 * c + 1) (-2 * c + 1) x t) w2 by
        unfold bfS; rw [← HY.out]; exact hm)
      clear hm d0 d1
      go_wp2_with fail
      go_roundw
      case rel => exact ⟨t + 1, _, by omega, by go_num, Lib.hid ⟨by rw [bfS_len]; exact HX.out.1, by rw [Zo.fold_succ, ← HX.out.2.1], HM2.out⟩⟩
      case measure => simp [intOf]; omega
    · have HE := Lib.hid (show x = bfL n i c l by rw [HX.out.2.1, show t = n + 1 by omega]; rfl)
      have d0 := KQ.out _ _ HX.out.2.2
      go_wp2_with fail
      refine (RE.out x _ HX.out.2.2.1).mono ?_
      rintro e w1 ⟨rfl, hm⟩
      have HM3 := Lib.hid (show MSt w b n (rlL n i (bfL n i c l)) w1 from ⟨by rw [← HE.out]; exact hm.1, grown_trans HX.out.2.2.2 hm.2⟩)
      clear hm d0
      go_wp2_with fail
      go_end0
      exact ⟨rfl, HM3.out⟩
end Go.Proofs.Ytbnebinpemejlaa

namespace Go.Proofs.Ytbnebinpemejlaa.Zo

theorem smW_big {a b : Int} (ha : a = 1099511627776 ∨ (-1125899906842624 ≤ a ∧ a ≤ 274877906944)) (hb : b = 1099511627776 ∨ (-1125899906842624 ≤ b ∧ b ≤ 274877906944)) :
    smW a b = if a = 1099511627776 ∨ b = 1099511627776 then 1099511627776 else ps a b := by
  unfold smW
  by_cases c : a = 1099511627776 ∨ b = 1099511627776
  · rw [if_pos c, if_pos c]
  · rw [if_neg c, if_neg c]
    unfold ps w64
    split <;> omega

/-- Closed, from the elements. -/
theorem Cl.at {n : Nat} {c : List Int} (hl : c.length = (n + 1) * (n + 1)) (hb : ∀ a b, a ≤ n → b ≤ n → At n c a b = 1099511627776 ∨ (-1125899906842624 ≤ At n c a b ∧ At n c a b ≤ 274877906944))
    (hd : ∀ a, a ≤ n → At n c a a = 1) (hr : ∀ a, a ≤ n → At n c 0 a ≤ 1) (ht : ∀ i j k, i ≤ n → j ≤ n → k ≤ n → At n c i j ≤ smW (At n c i k) (At n c k j)) :
    Cl n c (fun a b => if a ≤ n ∧ b ≤ n then Zo.dec (At n c a b) else none) := by
  refine ⟨⟨hl, fun a b ha hb => ?_⟩, ?_, ?_, ?_, hr⟩
  · show _ = enc (if _ then _ else _)
    rw [if_pos ⟨ha, hb⟩, enc_dec]
  · intro v hv i j
    by_cases h : i ≤ n ∧ j ≤ n
    · have t := ht i j v h.1 h.2 (by omega)
      have b1 := hb i v h.1 (by omega)
      have b2 := hb v j (by omega) h.2
      rw [smW_big b1 b2] at t
      simp only [if_pos h, if_pos (show i ≤ n ∧ v ≤ n by omega), if_pos (show v ≤ n ∧ j ≤ n by omega)]
      unfold Zo.dec
      by_cases c1 : At n c i v = 1099511627776
      · rw [if_pos c1]; exact le_none _
      by_cases c2 : At n c v j = 1099511627776
      · rw [if_pos c2]
        rw [show add (if At n c i v = 1099511627776 then none else some (At n c i v)) none = none by split <;> rfl]
        exact le_none _
      rw [if_neg c1, if_neg c2]
      rw [if_neg (by omega)] at t
      have : ps (At n c i v) (At n c v j) < 1099511627776 := by unfold ps; split <;> omega
      rw [if_neg (by omega)]
      exact t
    · have : add (if i ≤ n ∧ v ≤ n then Zo.dec (At n c i v) else none) (if v ≤ n ∧ j ≤ n then Zo.dec (At n c v j) else none) = none := by
        by_cases hc : i ≤ n
        · rw [show (if v ≤ n ∧ j ≤ n then Zo.dec (At n c v j) else none) = none by rw [if_neg (by omega)]]
          generalize (if i ≤ n ∧ v ≤ n then Zo.dec (At n c i v) else none) = x
          cases x <;> rfl
        · rw [if_neg (by omega)]; rfl
      simp only [this]
      exact le_none _
  · intro i j x h
    simp only at h
    split at h
    · rename_i c
      have := hb i j c.1 c.2
      unfold Zo.dec at h
      split at h
      · simp at h
      · simp at h; omega
    · simp at h
  · intro k hk
    simp only [if_pos (show k ≤ n ∧ k ≤ n by omega), hd k hk]
    rfl

theorem Cl.lim {n : Nat} {c : List Int} {D : Nat → Nat → Lm} (h : Cl n c D) {a b : Nat} (ha : a ≤ n) (hb : b ≤ n) : At n c a b = 1099511627776 ∨ (-1125899906842624 ≤ At n c a b ∧ At n c a b ≤ 274877906944) := by
  rw [h.rep.2 a b ha hb]
  cases e : D a b with
  | none => exact Or.inl rfl
  | some x => exact Or.inr (h.bd a b x e)

theorem Cl.sums {n : Nat} {c : List Int} {D : Nat → Nat → Lm} (h : Cl n c D) {i j k : Nat} (hi : i ≤ n) (hj : j ≤ n) (hk : k ≤ n) : At n c i j ≤ smW (At n c i k) (At n c k j) := by
  have t := h.tri k (by omega) i j
  have b1 := h.lim hi hk
  have b2 := h.lim hk hj
  have b3 := h.lim hi hj
  rw [smW_big b1 b2]
  rw [h.dec hi hj, h.dec hi hk, h.dec hk hj] at t
  unfold Zo.dec at t
  by_cases c1 : At n c i k = 1099511627776
  · rw [if_pos (Or.inl c1)]; omega
  by_cases c2 : At n c k j = 1099511627776
  · rw [if_pos (Or.inr c2)]; omega
  rw [if_neg (by omega)]
  rw [if_neg c1, if_neg c2] at t
  by_cases c3 : At n c i j = 1099511627776
  · rw [if_pos c3] at t; exact t.elim
  · rw [if_neg c3] at t; exact t

/-- An even number is added. -/
def pl (x k : Int) : Int := if x = 1099511627776 then 1099511627776 else x + k

def Bq (x : Int) : Prop := x = 1099511627776 ∨ (-1125899906842624 ≤ x ∧ x ≤ 274877906944)

theorem pl_swap {p q e : Int} (hp : Bq p) (hq : Bq q) (hp1 : 1 ≤ p) (hq1 : q ≤ 1) (h0 : 0 ≤ e) (h1 : e ≤ 2097152) (he : e % 2 = 0) : smW (pl p (-e)) (pl q e) = smW p q := by
  unfold Bq at hp hq
  unfold pl
  by_cases c1 : p = 1099511627776
  · subst c1; rw [if_pos rfl]; unfold smW; rw [if_pos (Or.inl rfl), if_pos (Or.inl rfl)]
  by_cases c2 : q = 1099511627776
  · omega
  rw [if_neg c1, if_neg c2, smW_big (by omega) (by omega), smW_big (by omega) (by omega), if_neg (by omega), if_neg (by omega)]
  unfold ps
  split <;> split <;> omega

theorem pl_r {p q k : Int} (hp : Bq p) (hq : Bq q) (hk : Bq (pl q k)) (h0 : -2097152 ≤ k) (h1 : k ≤ 2097152) (he : k % 2 = 0) : smW p (pl q k) = pl (smW p q) k := by
  rw [smW_big hp hk, smW_big hp hq]
  unfold Bq at hp hq
  unfold pl
  by_cases c1 : p = 1099511627776
  · rw [if_pos (Or.inl c1), if_pos (Or.inl c1), if_pos rfl]
  by_cases c2 : q = 1099511627776
  · rw [if_pos c2, if_pos (Or.inr rfl), if_pos (Or.inr c2), if_pos rfl]
  have := hk
  unfold Bq pl at this
  rw [if_neg c2] at this
  rw [if_neg c2, if_neg (by omega), if_neg (show ¬ (p = 1099511627776 ∨ q = 1099511627776) by omega)]
  unfold ps
  split <;> split <;> split <;> omega

theorem smW_comm (a b : Int) : smW a b = smW b a := by
  unfold smW
  rw [Int.add_comm b a]
  by_cases c1 : a = 1099511627776 ∨ b = 1099511627776
  · rw [if_pos c1, if_pos c1.symm]
  · rw [if_neg c1, if_neg (show ¬ (b = 1099511627776 ∨ a = 1099511627776) from fun h => c1 h.symm)]
    by_cases c2 : a % 2 = 0 ∧ b % 2 = 0
    · rw [if_pos c2, if_pos c2.symm]
    · rw [if_neg c2, if_neg (show ¬ (b % 2 = 0 ∧ a % 2 = 0) from fun h => c2 h.symm)]

theorem pl_l {p q k : Int} (hp : Bq p) (hq : Bq q) (hk : Bq (pl p k)) (h0 : -2097152 ≤ k) (h1 : k ≤ 2097152) (he : k % 2 = 0) : smW (pl p k) q = pl (smW p q) k := by
  rw [smW_comm, pl_r hq hp hk h0 h1 he, smW_comm]

theorem pl_mono {x y k : Int} (hx : Bq x) (h : x ≤ y) (hy : y ≤ 1099511627776) (h0 : -2097152 ≤ k) (h1 : k ≤ 2097152) : pl x k ≤ pl y k := by
  unfold Bq at hx
  unfold pl
  split <;> split <;> omega

theorem smW_top {p q : Int} (hp : Bq p) (hq : Bq q) : smW p q ≤ 1099511627776 := by
  rw [smW_big hp hq]
  unfold Bq at hp hq
  unfold ps
  split
  · omega
  · split <;> omega

/-- A closed matrix k of the other clocks, with the clock i at a constant (e: twice it). -/
def bxG (n i : Nat) (e : Int) (k : List Int) (a b : Nat) : Int := if a = i then (if b = i then 1 else pl (At n k 0 b) e) else if b = i then pl (At n k a 0) (-e) else At n k a b

theorem Cl.low {n : Nat} {k : List Int} {D : Nat → Nat → Lm} (h : Cl n k D) {a : Nat} (ha : a ≤ n) : 1 ≤ At n k a 0 := by
  have t := h.sums (show 0 ≤ n by omega) (show 0 ≤ n by omega) ha
  rw [h.one (by omega), smW_big (h.lim (by omega) ha) (h.lim ha (by omega))] at t
  have := h.row a ha
  by_cases c : At n k a 0 = 1099511627776
  · omega
  · rw [if_neg (by omega)] at t
    unfold ps at t
    split at t <;> omega

theorem bx_cl {n i : Nat} {e : Int} {k : List Int} {D : Nat → Nat → Lm} (h : Cl n k D) (h1 : 1 ≤ i) (h0 : 0 ≤ e) (h2 : e ≤ 2097152) (he : e % 2 = 0) : ∃ D, Cl n (mk n (bxG n i e k)) D := by
  have bl : ∀ a, a ≤ n → Bq (pl (At n k a 0) (-e)) := fun a ha => by
    have := h.lim ha (show 0 ≤ n by omega)
    have := h.low ha
    unfold Bq pl; split <;> omega
  have br : ∀ b, b ≤ n → Bq (pl (At n k 0 b) e) := fun b hb => by
    have := h.lim (show 0 ≤ n by omega) hb
    have := h.row b hb
    unfold Bq pl; split <;> omega
  have lm : ∀ a b, a ≤ n → b ≤ n → Bq (At n k a b) := fun a b ha hb => h.lim ha hb
  have b1 : Bq 1 := Or.inr (by omega)
  have ea : ∀ x y, x = i → y = i → bxG n i e k x y = 1 := fun x y hx hy => by unfold bxG; rw [if_pos hx, if_pos hy]
  have eb : ∀ x y, x = i → y ≠ i → bxG n i e k x y = pl (At n k 0 y) e := fun x y hx hy => by unfold bxG; rw [if_pos hx, if_neg hy]
  have ec : ∀ x y, x ≠ i → y = i → bxG n i e k x y = pl (At n k x 0) (-e) := fun x y hx hy => by unfold bxG; rw [if_neg hx, if_pos hy]
  have ed : ∀ x y, x ≠ i → y ≠ i → bxG n i e k x y = At n k x y := fun x y hx hy => by unfold bxG; rw [if_neg hx, if_neg hy]
  have one : ∀ x, Bq x → smW x 1 = x := fun x hx => smW_one (by unfold Bq at hx; omega) (by unfold Bq at hx; omega)
  refine ⟨_, Cl.at (mk_len _ _) (fun a b ha hb => ?_) (fun a ha => ?_) (fun a ha => ?_) (fun a b v ha hb hv => ?_)⟩
  · rw [mk_at _ ha hb]
    by_cases ca : a = i <;> by_cases cb : b = i
    · rw [ea _ _ ca cb]; exact b1
    · rw [eb _ _ ca cb]; exact br b hb
    · rw [ec _ _ ca cb]; exact bl a ha
    · rw [ed _ _ ca cb]; exact lm a b ha hb
  · rw [mk_at _ ha ha]
    by_cases ca : a = i
    · exact ea _ _ ca ca
    · rw [ed _ _ ca ca]; exact h.one ha
  · rw [mk_at _ (by omega) ha]
    by_cases ca : a = i
    · rw [ec _ _ (by omega) ca, h.one (by omega)]
      unfold pl; rw [if_neg (by omega)]; omega
    · rw [ed _ _ (by omega) ca]; exact h.row a ha
  · rw [mk_at _ ha hb, mk_at _ ha hv, mk_at _ hv hb]
    by_cases ca : a = i <;> by_cases cb : b = i <;> by_cases cv : v = i
    · rw [ea _ _ ca cb, ea _ _ ca cv, ea _ _ cv cb, one 1 b1]; omega
    · rw [ea _ _ ca cb, eb _ _ ca cv, ec _ _ cv cb, smW_comm, pl_swap (lm _ _ hv (by omega)) (lm _ _ (by omega) hv) (h.low hv) (h.row v hv) h0 h2 he, smW_comm]
      have := h.sums (show 0 ≤ n by omega) (show 0 ≤ n by omega) hv
      rwa [h.one (by omega)] at this
    · rw [eb _ _ ca cb, ea _ _ ca cv, eb _ _ cv cb, smW_comm, one _ (br b hb)]; omega
    · rw [eb _ _ ca cb, eb _ _ ca cv, ed _ _ cv cb, pl_l (lm _ _ (by omega) hv) (lm _ _ hv hb) (br v hv) (by omega) h2 he]
      exact pl_mono (lm _ _ (by omega) hb) (h.sums (by omega) hb hv) (smW_top (lm _ _ (by omega) hv) (lm _ _ hv hb)) (by omega) h2
    · rw [ec _ _ ca cb, ec _ _ ca cv, ea _ _ cv cb, one _ (bl a ha)]; omega
    · rw [ec _ _ ca cb, ed _ _ ca cv, ec _ _ cv cb, pl_r (lm _ _ ha hv) (lm _ _ hv (by omega)) (bl v hv) (by omega) (by omega) (by omega)]
      exact pl_mono (lm _ _ ha (by omega)) (h.sums ha (by omega) hv) (smW_top (lm _ _ ha hv) (lm _ _ hv (by omega))) (by omega) (by omega)
    · rw [ed _ _ ca cb, ec _ _ ca cv, eb _ _ cv cb, pl_swap (lm _ _ ha (by omega)) (lm _ _ (by omega) hb) (h.low ha) (h.row b hb) h0 h2 he]
      exact h.sums ha hb (by omega)
    · rw [ed _ _ ca cb, ed _ _ ca cv, ed _ _ cv cb]
      exact h.sums ha hb hv
end Go.Proofs.Ytbnebinpemejlaa.Zo

namespace Go.Proofs.Ytbnebinpemejlaa
open Go.RowKit
open Zo (pl Bq)

theorem smW_odd {x k : Int} (hx : Bq x) (h0 : -2097152 ≤ k) (h1 : k ≤ 2097152) (he : k % 2 = 0) : Zo.smW x (k + 1) = pl x k := by
  rw [Zo.smW_big hx (by omega)]
  unfold Bq at hx
  unfold pl Zo.ps
  by_cases c : x = 1099511627776
  · rw [if_pos (Or.inl c), if_pos c]
  · rw [if_neg (by omega), if_neg c, if_neg (by omega)]; omega

def bfG (n i : Nat) (e : Int) (l : List Int) (a b : Nat) : Int := if b = 0 then (if a = 0 then imin (imin (Zo.At n l 0 0) (pl (Zo.At n l 0 i) e)) (pl (Zo.At n l i 0) (-e)) else imin (Zo.At n l a 0) (pl (Zo.At n l a i) e)) else if a = 0 then imin (Zo.At n l 0 b) (pl (Zo.At n l i b) (-e)) else Zo.At n l a b

theorem bfL_at {n i : Nat} {c : Int} {l : List Int} (hl : l.length = (n + 1) * (n + 1)) (h1 : 1 ≤ i) (hi : i ≤ n) (hv : ∀ a b, a ≤ n → b ≤ n → Bq (Zo.At n l a b)) (h0 : 0 ≤ c) (h2 : c ≤ 1048576) {a b : Nat} (ha : a ≤ n) (hb : b ≤ n) :
    Zo.At n (bfL n i c l) a b = bfG n i (2 * c) l a b := by
  have key : ∀ t, t ≤ n + 1 → ((List.range t).foldl (bfS n i (2 * c + 1) (-2 * c + 1)) l).length = (n + 1) * (n + 1) ∧ ∀ a b, a ≤ n → b ≤ n → Zo.At n ((List.range t).foldl (bfS n i (2 * c + 1) (-2 * c + 1)) l) a b = if (b = 0 ∧ a < t) ∨ (a = 0 ∧ b < t) then bfG n i (2 * c) l a b else Zo.At n l a b := by
    intro t
    induction t with
    | zero => intro _; exact ⟨hl, fun a b _ _ => by rw [if_neg (by omega)]; rfl⟩
    | succ t ih =>
      intro ht
      obtain ⟨hx, hxa⟩ := ih (by omega)
      rw [Zo.fold_succ]
      generalize (List.range t).foldl (bfS n i (2 * c + 1) (-2 * c + 1)) l = x at *
      refine ⟨by rw [bfS_len]; exact hx, fun a b ha hb => ?_⟩
      have r1 := hxa t 0 (by omega) (by omega)
      rw [if_neg (by omega)] at r1
      have r2 := hxa t i (by omega) hi
      rw [if_neg (by omega)] at r2
      have r3 := hxa 0 t (by omega) (by omega)
      rw [if_neg (by omega)] at r3
      have r4 := hxa i t hi (by omega)
      rw [if_neg (by omega)] at r4
      unfold bfS
      simp only []
      rw [r1, r2, smW_odd (hv t i (by omega) hi) (by omega) (by omega) (by omega)]
      generalize hy : x.set (Zo.ix n t 0) (imin (Zo.At n l t 0) (pl (Zo.At n l t i) (2 * c))) = y
      have ly : y.length = (n + 1) * (n + 1) := by rw [← hy, List.length_set]; exact hx
      have ya : ∀ a b, b ≤ n → Zo.At n y a b = if a = t ∧ b = 0 then imin (Zo.At n l t 0) (pl (Zo.At n l t i) (2 * c)) else Zo.At n x a b := fun a b hb => by
        rw [← hy]; exact Zo.At_set hx (by omega) (by omega) _ hb
      have yi : Zo.At n y i t = Zo.At n l i t := by rw [ya i t (by omega), if_neg (show ¬ (i = t ∧ t = 0) by omega), r4]
      have y0 := ya 0 t (by omega)
      rw [r3] at y0
      rw [Zo.At_set ly (by omega) (by omega) _ hb, yi, smW_odd (hv i t hi (by omega)) (by omega) (by omega) (by omega), y0, ya a b hb, hxa a b ha hb, show -2 * c = -(2 * c) by omega]
      unfold bfG
      by_cases ca : a = 0 <;> by_cases cb : b = 0
      · subst ca; subst cb
        by_cases c0 : t = 0
        · subst c0
          rw [if_pos ⟨rfl, rfl⟩, if_pos ⟨rfl, rfl⟩, if_pos (by omega), if_pos rfl, if_pos rfl] <;> try simp
        · rw [if_neg (by omega), if_neg (by omega), if_pos (by omega), if_pos (by omega)] <;> try simp
      · subst ca
        rw [if_neg cb]
        by_cases c0 : b = t
        · subst c0
          rw [if_pos ⟨rfl, rfl⟩, if_neg (by omega), if_pos (by omega), if_pos rfl] <;> try simp
        · rw [if_neg (by omega), if_neg (by omega)]
          by_cases c1 : b < t
          · rw [if_pos (by omega), if_pos (by omega)] <;> try (simp; intros; omega)
          · rw [if_neg (by omega), if_neg (by omega)] <;> try simp
      · subst cb
        rw [if_pos rfl, if_neg ca, if_neg (by omega)]
        by_cases c0 : a = t
        · subst c0
          rw [if_pos ⟨rfl, rfl⟩, if_pos (by omega)] <;> try simp
        · rw [if_neg (by omega)] <;> try simp
          by_cases c1 : a < t
          · rw [if_pos (by omega), if_pos (by omega)] <;> try simp
          · rw [if_neg (by omega), if_neg (by omega)] <;> try simp
      · rw [if_neg (by omega), if_neg (by omega), if_neg (by omega), if_neg (by omega)] <;> try simp
  have := (key (n + 1) (Nat.le_refl _)).2 a b ha hb
  show Zo.At n ((List.range (n + 1)).foldl _ l) a b = _
  rw [this]
  by_cases c1 : (b = 0 ∧ a < n + 1) ∨ (a = 0 ∧ b < n + 1)
  · rw [if_pos c1]
  · rw [if_neg c1]
    unfold bfG
    rw [if_neg (by omega), if_neg (by omega)]

theorem isC_at {n i : Nat} {c : Int} {l : List Int} (hl : l.length = (n + 1) * (n + 1)) (h1 : 1 ≤ i) (hi : i ≤ n) {a b : Nat} (hb : b ≤ n) :
    Zo.At n (anL n (isC i 0 c) l) a b = if a = 0 ∧ b = i then imin (Zo.At n l 0 i) (-2 * c + 1) else if a = i ∧ b = 0 then imin (Zo.At n l i 0) (2 * c + 1) else Zo.At n l a b := by
  show Zo.At n (anL n (isC (i : Int) ((0 : Nat) : Int) c) l) a b = _
  rw [anL_two]
  have h2 : (l.set (Zo.ix n i 0) (imin (Zo.At n l i 0) (2 * c + 1))).length = (n + 1) * (n + 1) := by rw [List.length_set]; exact hl
  rw [Zo.At_set h2 (by omega) hi _ hb, Zo.At_set hl hi (by omega) _ hi, if_neg (show ¬ (0 = i ∧ i = 0) by omega), Zo.At_set hl hi (by omega) _ hb]
end Go.Proofs.Ytbnebinpemejlaa

namespace Go.Proofs.Ytbnebinpemejlaa
open Go.RowKit
open Zo (pl Bq)

theorem imin_l (x y : Int) : imin x y ≤ x := by unfold imin; omega

theorem imin_r (x y : Int) : imin x y ≤ y := by unfold imin; omega

theorem le_imin {z x y : Int} (h1 : z ≤ x) (h2 : z ≤ y) : z ≤ imin x y := by unfold imin; omega

theorem Bq.of {x : Int} (h : Zo.Vl x) : Bq x := by unfold Zo.Vl at h; unfold Bq; omega

theorem pl_back {x y k : Int} (hx : Bq x) (hy : Bq y) (h0 : -2097152 ≤ k) (h1 : k ≤ 2097152) (h : x ≤ pl y k) : pl x (-k) ≤ y := by
  unfold Bq at hx hy
  unfold pl at *
  split at h <;> split <;> omega

theorem smW_mono {p q r s : Int} (hp : Bq p) (hq : Bq q) (hr : Bq r) (hs : Bq s) (h1 : p ≤ r) (h2 : q ≤ s) : Zo.smW p q ≤ Zo.smW r s := by
  rw [Zo.smW_big hp hq, Zo.smW_big hr hs]
  unfold Bq at *
  unfold Zo.ps
  by_cases c1 : p = 1099511627776 ∨ q = 1099511627776
  · rw [if_pos c1, if_pos (by omega)]; omega
  · rw [if_neg c1]
    split <;> split <;> (try split) <;> omega

/-- What Free makes of a closed matrix is closed. -/
theorem fr_cl {n i : Nat} {z : List Int} {D : Nat → Nat → Zo.Lm} (h : Zo.Cl n z D) (h1 : 1 ≤ i) : ∃ D, Zo.Cl n (mk n (frG n i z)) D := by
  have b1 : Bq 1 := Or.inr (by omega)
  have lm : ∀ a b, a ≤ n → b ≤ n → Bq (Zo.At n z a b) := fun a b ha hb => h.lim ha hb
  have top : ∀ x, Bq x → x ≤ 1099511627776 := fun x hx => by unfold Bq at hx; omega
  have one : ∀ x, Bq x → Zo.smW x 1 = x := fun x hx => Zo.smW_one (by unfold Bq at hx; omega) (by unfold Bq at hx; omega)
  refine ⟨_, Zo.Cl.at (mk_len _ _) (fun a b ha hb => ?_) (fun a ha => ?_) (fun a ha => ?_) (fun a b k ha hb hk => ?_)⟩
  · rw [mk_at _ ha hb]
    by_cases ca : a = i <;> by_cases cb : b = i
    · rw [frG_ii ca cb]; exact b1
    · rw [frG_ib ca cb]; exact Or.inl rfl
    · rw [frG_ai ca cb]; exact lm a 0 ha (by omega)
    · rw [frG_ab ca cb]; exact lm a b ha hb
  · rw [mk_at _ ha ha]
    by_cases ca : a = i
    · exact frG_ii ca ca
    · rw [frG_ab ca ca]; exact h.one ha
  · rw [mk_at _ (by omega) ha]
    by_cases ca : a = i
    · rw [frG_ai (by omega) ca, h.one (by omega)]; omega
    · rw [frG_ab (by omega) ca]; exact h.row a ha
  · rw [mk_at _ ha hb, mk_at _ ha hk, mk_at _ hk hb]
    by_cases ca : a = i
    · by_cases cb : b = i
      · rw [frG_ii ca cb]
        by_cases ck : k = i
        · rw [frG_ii ca ck, frG_ii ck cb]; decide
        · rw [frG_ib ca ck, no_smW]; omega
      · rw [frG_ib ca cb]
        by_cases ck : k = i
        · rw [frG_ii ca ck, frG_ib ck cb, smW_no]; omega
        · rw [frG_ib ca ck, no_smW]; omega
    · by_cases cb : b = i
      · rw [frG_ai ca cb]
        by_cases ck : k = i
        · rw [frG_ai ca ck, frG_ii ck cb, one _ (lm a 0 ha (by omega))]; omega
        · rw [frG_ab ca ck, frG_ai ck cb]
          exact h.sums ha (by omega) hk
      · rw [frG_ab ca cb]
        by_cases ck : k = i
        · rw [frG_ai ca ck, frG_ib ck cb, smW_no]; exact top _ (lm a b ha hb)
        · rw [frG_ab ca ck, frG_ab ck cb]
          exact h.sums ha hb hk

theorem bf_gl_at {n i : Nat} {c : Int} {l : List Int} (hl : l.length = (n + 1) * (n + 1)) (h1 : 1 ≤ i) (hi : i ≤ n) (hv : ∀ a b, a ≤ n → b ≤ n → Bq (Zo.At n l a b)) (h0 : 0 ≤ c) (h2 : c ≤ 1048576) {a b : Nat} (ha : a ≤ n) (hb : b ≤ n) :
    Zo.At n (rlL n i (bfL n i c l)) a b = if a = i ∨ b = i then 1099511627776 else bfG n i (2 * c) l a b := by
  rw [rlL_at (by rw [bfL_len]; exact hl) hi ha hb, bfL_at hl h1 hi hv h0 h2 ha hb]

/-- From the project's closing to the reference's. -/
theorem bf_back {n i : Nat} {c : Int} {l k : List Int} {D : Nat → Nat → Zo.Lm} (hl : l.length = (n + 1) * (n + 1)) (h1 : 1 ≤ i) (hi : i ≤ n) (hv : ∀ a b, a ≤ n → b ≤ n → Zo.Vl (Zo.At n l a b)) (hd : ∀ a, a ≤ n → Zo.At n l a a = 1) (h0 : 0 ≤ c) (h2 : c ≤ 1048576)
    (hk : Zo.Cl n k D) (hle : Zo.Le n k (rlL n i (bfL n i c l))) : Zo.Le n (mk n (Zo.bxG n i (2 * c) k)) (anL n (isC i 0 c) l) := by
  have bq : ∀ a b, a ≤ n → b ≤ n → Bq (Zo.At n l a b) := fun a b ha hb => Bq.of (hv a b ha hb)
  have kq : ∀ a b, a ≤ n → b ≤ n → Bq (Zo.At n k a b) := fun a b ha hb => hk.lim ha hb
  have hg : ∀ a b, a ≤ n → b ≤ n → a ≠ i → b ≠ i → Zo.At n k a b ≤ bfG n i (2 * c) l a b := fun a b ha hb ca cb => by
    have := hle a b ha hb
    rwa [bf_gl_at hl h1 hi bq h0 h2 ha hb, if_neg (by omega)] at this
  have g0 : ∀ a, a ≤ n → a ≠ i → Zo.At n k a 0 ≤ Zo.At n l a 0 ∧ Zo.At n k a 0 ≤ pl (Zo.At n l a i) (2 * c) := fun a ha ca => by
    have g := hg a 0 ha (by omega) ca (by omega)
    unfold bfG at g
    rw [if_pos rfl] at g
    by_cases c0 : a = 0
    · subst c0
      rw [if_pos rfl] at g
      have i1 := imin_l (imin (Zo.At n l 0 0) (pl (Zo.At n l 0 i) (2 * c))) (pl (Zo.At n l i 0) (-(2 * c)))
      have i2 := imin_l (Zo.At n l 0 0) (pl (Zo.At n l 0 i) (2 * c))
      have i3 := imin_r (Zo.At n l 0 0) (pl (Zo.At n l 0 i) (2 * c))
      omega
    · rw [if_neg c0] at g
      have i2 := imin_l (Zo.At n l a 0) (pl (Zo.At n l a i) (2 * c))
      have i3 := imin_r (Zo.At n l a 0) (pl (Zo.At n l a i) (2 * c))
      omega
  have g1 : ∀ b, b ≤ n → b ≠ i → Zo.At n k 0 b ≤ Zo.At n l 0 b ∧ Zo.At n k 0 b ≤ pl (Zo.At n l i b) (-(2 * c)) := fun b hb cb => by
    have g := hg 0 b (by omega) hb (by omega) cb
    unfold bfG at g
    by_cases c0 : b = 0
    · subst c0
      rw [if_pos rfl, if_pos rfl] at g
      have i1 := imin_l (imin (Zo.At n l 0 0) (pl (Zo.At n l 0 i) (2 * c))) (pl (Zo.At n l i 0) (-(2 * c)))
      have i4 := imin_r (imin (Zo.At n l 0 0) (pl (Zo.At n l 0 i) (2 * c))) (pl (Zo.At n l i 0) (-(2 * c)))
      have i2 := imin_l (Zo.At n l 0 0) (pl (Zo.At n l 0 i) (2 * c))
      omega
    · rw [if_neg c0, if_pos rfl] at g
      have i2 := imin_l (Zo.At n l 0 b) (pl (Zo.At n l i b) (-(2 * c)))
      have i3 := imin_r (Zo.At n l 0 b) (pl (Zo.At n l i b) (-(2 * c)))
      omega
  have k0 := hk.one (show 0 ≤ n by omega)
  intro a b ha hb
  rw [mk_at _ ha hb, isC_at hl h1 hi hb]
  have ai : ∀ a, a ≤ n → a ≠ i → pl (Zo.At n k a 0) (-(2 * c)) ≤ Zo.At n l a i := fun a ha ca => pl_back (kq a 0 ha (by omega)) (bq a i ha hi) (by omega) (by omega) (g0 a ha ca).2
  have ib : ∀ b, b ≤ n → b ≠ i → pl (Zo.At n k 0 b) (2 * c) ≤ Zo.At n l i b := fun b hb cb => by
    have := pl_back (kq 0 b (by omega) hb) (bq i b hi hb) (by omega) (by omega) (g1 b hb cb).2
    rwa [Int.neg_neg] at this
  unfold Zo.bxG
  by_cases ca : a = i <;> by_cases cb : b = i
  · rw [if_pos ca, if_pos cb, if_neg (by omega), if_neg (by omega), ca, cb, hd i hi]; omega
  · rw [if_pos ca, if_neg cb, if_neg (show ¬ (a = 0 ∧ b = i) by omega)]
    by_cases c0 : b = 0
    · subst c0
      rw [if_pos ⟨ca, rfl⟩]
      refine le_imin (ib 0 hb cb) ?_
      rw [k0]; unfold pl; rw [if_neg (by omega)]; omega
    · rw [if_neg (by omega), ca]; exact ib b hb cb
  · rw [if_neg ca, if_pos cb]
    by_cases c0 : a = 0
    · subst c0
      rw [if_pos ⟨rfl, cb⟩]
      refine le_imin (ai 0 ha ca) ?_
      rw [k0]; unfold pl; rw [if_neg (by omega)]; omega
    · rw [if_neg (by omega), if_neg (by omega), cb]; exact ai a ha ca
  · rw [if_neg ca, if_neg cb, if_neg (by omega), if_neg (by omega)]
    by_cases c0 : b = 0
    · subst c0; exact (g0 a ha ca).1
    · by_cases c1 : a = 0
      · subst c1; exact (g1 b hb cb).1
      · have g := hg a b ha hb ca cb
        unfold bfG at g
        rwa [if_neg c0, if_neg c1] at g
end Go.Proofs.Ytbnebinpemejlaa

namespace Go.Proofs.Ytbnebinpemejlaa
open Go.RowKit
open Zo (pl Bq)

theorem isC_le {n i : Nat} {c : Int} {l : List Int} (hl : l.length = (n + 1) * (n + 1)) (h1 : 1 ≤ i) (hi : i ≤ n) : Zo.Le n (anL n (isC i 0 c) l) l ∧ Zo.At n (anL n (isC i 0 c) l) i 0 ≤ 2 * c + 1 ∧ Zo.At n (anL n (isC i 0 c) l) 0 i ≤ -2 * c + 1 := by
  refine ⟨fun a b ha hb => ?_, ?_, ?_⟩
  · rw [isC_at hl h1 hi hb]
    by_cases c1 : a = 0 ∧ b = i
    · rw [if_pos c1, c1.1, c1.2]; exact imin_l _ _
    · rw [if_neg c1]
      by_cases c2 : a = i ∧ b = 0
      · rw [if_pos c2, c2.1, c2.2]; exact imin_l _ _
      · rw [if_neg c2]; omega
  · rw [isC_at hl h1 hi (by omega), if_neg (by omega), if_pos ⟨rfl, rfl⟩]; exact imin_r _ _
  · rw [isC_at hl h1 hi hi, if_pos ⟨rfl, rfl⟩]; exact imin_r _ _

/-- From the reference's closing to the project's. -/
theorem bf_fwd {n i : Nat} {c : Int} {l z : List Int} {D : Nat → Nat → Zo.Lm} (hl : l.length = (n + 1) * (n + 1)) (h1 : 1 ≤ i) (hi : i ≤ n) (hv : ∀ a b, a ≤ n → b ≤ n → Zo.Vl (Zo.At n l a b)) (h0 : 0 ≤ c) (h2 : c ≤ 1048576)
    (hz : Zo.Cl n z D) (hle : Zo.Le n z (anL n (isC i 0 c) l)) : Zo.Le n (mk n (frG n i z)) (rlL n i (bfL n i c l)) := by
  have bq : ∀ a b, a ≤ n → b ≤ n → Bq (Zo.At n l a b) := fun a b ha hb => Bq.of (hv a b ha hb)
  have zq : ∀ a b, a ≤ n → b ≤ n → Bq (Zo.At n z a b) := fun a b ha hb => hz.lim ha hb
  obtain ⟨m1, m2, m3⟩ := isC_le (c := c) hl h1 hi
  have zl := hle.trans m1
  have z1 := hle i 0 hi (by omega)
  have z2 := hle 0 i (by omega) hi
  have top : ∀ x, Bq x → x ≤ 1099511627776 := fun x hx => by unfold Bq at hx; omega
  have ga : ∀ a, a ≤ n → Zo.At n z a 0 ≤ pl (Zo.At n l a i) (2 * c) := fun a ha => by
    rw [← smW_odd (bq a i ha hi) (by omega) (by omega) (by omega)]
    exact Int.le_trans (hz.sums ha (by omega) hi) (smW_mono (zq a i ha hi) (zq i 0 hi (by omega)) (bq a i ha hi) (Or.inr (by omega)) (zl a i ha hi) (by omega))
  have gb : ∀ b, b ≤ n → Zo.At n z 0 b ≤ pl (Zo.At n l i b) (-(2 * c)) := fun b hb => by
    rw [← smW_odd (bq i b hi hb) (by omega) (by omega) (by omega), Zo.smW_comm]
    exact Int.le_trans (hz.sums (by omega) hb hi) (smW_mono (zq 0 i (by omega) hi) (zq i b hi hb) (Or.inr (by omega)) (bq i b hi hb) (by omega) (zl i b hi hb))
  intro a b ha hb
  rw [mk_at _ ha hb, bf_gl_at hl h1 hi bq h0 h2 ha hb]
  by_cases ca : a = i
  · rw [if_pos (Or.inl ca)]
    by_cases cb : b = i
    · rw [frG_ii ca cb]; omega
    · rw [frG_ib ca cb]; omega
  · by_cases cb : b = i
    · rw [if_pos (Or.inr cb), frG_ai ca cb]; exact top _ (zq a 0 ha (by omega))
    · rw [if_neg (by omega), frG_ab ca cb]
      unfold bfG
      by_cases c0 : b = 0
      · subst c0
        rw [if_pos rfl]
        by_cases c1 : a = 0
        · subst c1
          rw [if_pos rfl]
          exact le_imin (le_imin (zl 0 0 ha hb) (ga 0 ha)) (gb 0 hb)
        · rw [if_neg c1]
          exact le_imin (zl a 0 ha hb) (ga a ha)
      · rw [if_neg c0]
        by_cases c1 : a = 0
        · subst c1
          rw [if_pos rfl]
          exact le_imin (zl 0 b ha hb) (gb b hb)
        · rw [if_neg c1]; exact zl a b ha hb

/-- Row and column of a clock that is a constant. -/
theorem const_row {n i : Nat} {c : Int} {z : List Int} {D : Nat → Nat → Zo.Lm} (hi : i ≤ n) (h0 : 0 ≤ c) (h2 : c ≤ 1048576) (hz : Zo.Cl n z D) (z1 : Zo.At n z i 0 ≤ 2 * c + 1) (z2 : Zo.At n z 0 i ≤ -2 * c + 1) :
    (∀ a, a ≤ n → Zo.At n z a i = pl (Zo.At n z a 0) (-(2 * c))) ∧ ∀ b, b ≤ n → Zo.At n z i b = pl (Zo.At n z 0 b) (2 * c) := by
  have zq : ∀ a b, a ≤ n → b ≤ n → Bq (Zo.At n z a b) := fun a b ha hb => hz.lim ha hb
  have e : Zo.At n z 0 i = -(2 * c) + 1 ∧ Zo.At n z i 0 = 2 * c + 1 := by
    have t := hz.sums (show 0 ≤ n by omega) (show 0 ≤ n by omega) hi
    rw [hz.one (by omega), Zo.smW_big (zq _ _ (by omega) hi) (zq _ _ hi (by omega)), if_neg (by omega)] at t
    unfold Zo.ps at t
    split at t <;> omega
  constructor
  · intro a ha
    have t1 := hz.sums ha hi (show 0 ≤ n by omega)
    have t2 := hz.sums ha (show 0 ≤ n by omega) hi
    rw [e.1, smW_odd (zq a 0 ha (by omega)) (by omega) (by omega) (by omega)] at t1
    rw [e.2, smW_odd (zq a i ha hi) (by omega) (by omega) (by omega)] at t2
    have b1 := zq a 0 ha (by omega)
    have b2 := zq a i ha hi
    unfold Bq at b1 b2
    unfold pl at *
    split <;> split at t1 <;> split at t2 <;> omega
  · intro b hb
    have t1 := hz.sums hi hb (show 0 ≤ n by omega)
    have t2 := hz.sums (show 0 ≤ n by omega) hb hi
    rw [e.2, Zo.smW_comm, smW_odd (zq 0 b (by omega) hb) (by omega) (by omega) (by omega)] at t1
    rw [e.1, Zo.smW_comm, smW_odd (zq i b hi hb) (by omega) (by omega) (by omega)] at t2
    have b1 := zq 0 b (by omega) hb
    have b2 := zq i b hi hb
    unfold Bq at b1 b2
    unfold pl at *
    split <;> split at t1 <;> split at t2 <;> omega
end Go.Proofs.Ytbnebinpemejlaa

namespace Go.Proofs.Ytbnebinpemejlaa
open Go.RowKit
open Zo (pl Bq)

theorem lv_low {x e : Int} (h : lvB x = true) (h1 : 1 ≤ x) (h0 : 0 ≤ e) (h2 : e ≤ 2097152) : lvB (pl x (-e)) = true := by
  unfold lvB at *
  unfold pl
  simp only [decide_eq_true_eq] at *
  split <;> omega

theorem lv_high {x e : Int} (h : lvB x = true) (h1 : x ≤ 1) (h0 : 0 ≤ e) (h2 : e ≤ 2097152) : lvB (pl x e) = true := by
  unfold lvB at *
  unfold pl
  simp only [decide_eq_true_eq] at *
  split <;> omega

theorem pl_wl {x k : Int} (h : Zo.Vl x) (h0 : -2097152 ≤ k) (h1 : k ≤ 2097152) : Zo.Wl (pl x k) := by
  unfold Zo.Vl at h
  unfold Zo.Wl pl
  split <;> omega

theorem imin_wl {x y : Int} (h : Zo.Wl x) (g : Zo.Wl y) : Zo.Wl (imin x y) := by
  unfold Zo.Wl imin at *
  omega

theorem be_math {n i : Nat} {c : Int} {l : List Int} (hn : n ≤ 10) (hl : l.length = (n + 1) * (n + 1)) (hc : chkE n l = 0) (h1 : 1 ≤ i) (hi : i ≤ n) (h0 : 0 ≤ c) (h2 : c ≤ 1048576) :
    cloE n (rlL n i (bfL n i c l)) = cloE n (anL n (isC i 0 c) l) ∧ (cloE n (anL n (isC i 0 c) l) = 0 → Zo.clo n (rlL n i (bfL n i c l)) = Zo.clo n (frL n i (Zo.clo n (anL n (isC i 0 c) l)))) := by
  have vl := vl_of hl (chk_64 hc).2
  have bq : ∀ a b, a ≤ n → b ≤ n → Bq (Zo.At n l a b) := fun a b ha hb => Bq.of (vl a b ha hb)
  obtain ⟨dg, _⟩ := chk_diag hc
  have hok := isC_ok (n := n) (i := i) (j := 0) (c := c) hi (by omega) h0 h2
  obtain ⟨m1, m2, m3⟩ := isC_le (c := c) hl h1 hi
  obtain ⟨m, hm⟩ : ∃ m, m = anL n (isC i 0 c) l := ⟨_, rfl⟩
  have lm : m.length = (n + 1) * (n + 1) := by rw [hm, anL_len]; exact hl
  have mv : ∀ a b, a ≤ n → b ≤ n → Zo.Wl (Zo.At n m a b) := by rw [hm]; exact an_wl hok hl fun a b ha hb => (vl a b ha hb).wl
  obtain ⟨g, hg⟩ : ∃ g, g = rlL n i (bfL n i c l) := ⟨_, rfl⟩
  have lg : g.length = (n + 1) * (n + 1) := by rw [hg, rlL_len, bfL_len]; exact hl
  have gv : ∀ a b, a ≤ n → b ≤ n → Zo.Wl (Zo.At n g a b) := by
    intro a b ha hb
    rw [hg, bf_gl_at hl h1 hi bq h0 h2 ha hb]
    split
    · exact Or.inl rfl
    · unfold bfG
      have w : ∀ a b, a ≤ n → b ≤ n → Zo.Wl (Zo.At n l a b) := fun a b ha hb => (vl a b ha hb).wl
      split
      · split
        · exact imin_wl (imin_wl (w 0 0 (by omega) (by omega)) (pl_wl (vl 0 i (by omega) hi) (by omega) (by omega))) (pl_wl (vl i 0 hi (by omega)) (by omega) (by omega))
        · exact imin_wl (w a 0 ha (by omega)) (pl_wl (vl a i ha hi) (by omega) (by omega))
      · split
        · exact imin_wl (w 0 b (by omega) hb) (pl_wl (vl i b hi hb) (by omega) (by omega))
        · exact w a b ha hb
  -- both ways
  have back : ∀ k, Zo.Le n k g → (∃ D, Zo.Cl n k D) → Zo.Le n (mk n (Zo.bxG n i (2 * c) k)) m := fun k hk ⟨D, hD⟩ => by
    rw [hm]; rw [hg] at hk; exact bf_back hl h1 hi vl dg h0 h2 hD hk
  have fwd : ∀ z, Zo.Le n z m → (∃ D, Zo.Cl n z D) → Zo.Le n (mk n (frG n i z)) g := fun z hz ⟨D, hD⟩ => by
    rw [hg]; rw [hm] at hz; exact bf_fwd hl h1 hi vl h0 h2 hD hz
  rw [← hm, ← hg]
  rw [← hm] at m2 m3
  clear hm hg
  have A : cloB n g = false → cloB n m = false ∧ Zo.Le n (mk n (Zo.bxG n i (2 * c) (Zo.clo n g))) (Zo.clo n m) := fun h => by
    have hD := Zo.Cl.of hn lg gv (cloB_iff.1 h)
    obtain ⟨D, hB⟩ := Zo.bx_cl (e := 2 * c) hD h1 (by omega) (by omega) (by omega)
    obtain ⟨o1, o2⟩ := Zo.clo_over hn lm mv hB (back _ (Zo.le_clo lg) ⟨_, hD⟩)
    exact ⟨cloB_iff.2 o1, o2⟩
  have B : cloB n m = false → cloB n g = false ∧ Zo.Le n (mk n (frG n i (Zo.clo n m))) (Zo.clo n g) := fun h => by
    have hD := Zo.Cl.of hn lm mv (cloB_iff.1 h)
    obtain ⟨D, hF⟩ := fr_cl hD h1
    obtain ⟨o1, o2⟩ := Zo.clo_over hn lg gv hF (fwd _ (Zo.le_clo lm) ⟨_, hD⟩)
    exact ⟨cloB_iff.2 o1, o2⟩
  cases hb : cloB n m
  · obtain ⟨gb, le1⟩ := B hb
    obtain ⟨_, le2⟩ := A gb
    have hZ := Zo.Cl.of hn lm mv (cloB_iff.1 hb)
    have hG := Zo.Cl.of hn lg gv (cloB_iff.1 gb)
    have lz : (Zo.clo n m).length = (n + 1) * (n + 1) := by rw [Zo.clo_length, lm]
    have gtop : ∀ a b, a ≤ n → b ≤ n → Zo.At n (Zo.clo n g) a b ≤ 1099511627776 := fun a b ha hb => hG.top ha hb
    have ab : ∀ a b, a ≤ n → b ≤ n → a ≠ i → b ≠ i → Zo.At n (Zo.clo n g) a b ≤ Zo.At n (Zo.clo n m) a b := fun a b ha hb ca cb => by
      have := le2 a b ha hb
      rw [mk_at _ ha hb] at this
      unfold Zo.bxG at this
      rwa [if_neg ca, if_neg cb] at this
    have e : Zo.clo n g = mk n (frG n i (Zo.clo n m)) := by
      refine Zo.Le.anti (by rw [Zo.clo_length, lg]) (mk_len _ _) (fun a b ha hb => ?_) le1
      rw [mk_at _ ha hb]
      by_cases ca : a = i
      · by_cases cb : b = i
        · rw [frG_ii ca cb, ca, cb, hG.one hi]; omega
        · rw [frG_ib ca cb]; exact gtop a b ha hb
      · by_cases cb : b = i
        · rw [frG_ai ca cb, cb]
          have t := hG.sums ha hi (show 0 ≤ n by omega)
          have lo := hG.row i hi
          have b1 : Bq (Zo.At n (Zo.clo n g) a 0) := hG.lim ha (by omega)
          have t2 := smW_mono b1 (hG.lim (show 0 ≤ n by omega) hi) b1 (Or.inr (by omega) : Bq 1) (Int.le_refl _) lo
          rw [Zo.smW_one (by unfold Bq at b1; omega) (by unfold Bq at b1; omega)] at t2
          have := ab a 0 ha (by omega) ca (by omega)
          omega
        · rw [frG_ab ca cb]; exact ab a b ha hb ca cb
    have cm2 := Int.le_trans (Zo.le_clo lm i 0 hi (by omega)) m2
    have cm3 := Int.le_trans (Zo.le_clo lm 0 i (by omega) hi) m3
    obtain ⟨cr1, cr2⟩ := const_row hi h0 h2 hZ cm2 cm3
    have rd : rdL (mk n (frG n i (Zo.clo n m))) = rdL (Zo.clo n m) := by
      rw [Bool.eq_iff_iff]
      constructor
      · intro h
        have lv := lv_of_all (mk_len _ _) h
        have lf : ∀ a b, a ≤ n → b ≤ n → a ≠ i → b ≠ i → lvB (Zo.At n (Zo.clo n m) a b) = true := fun a b ha hb ca cb => by
          have := lv a b ha hb
          rwa [mk_at _ ha hb, frG_ab ca cb] at this
        refine all_of_lv lz fun a b ha hb => ?_
        by_cases ca : a = i
        · by_cases cb : b = i
          · rw [ca, cb, hZ.one hi]; decide
          · rw [ca, cr2 b hb]
            exact lv_high (lf 0 b (by omega) hb (by omega) cb) (hZ.row b hb) (by omega) (by omega)
        · by_cases cb : b = i
          · rw [cb, cr1 a ha]
            exact lv_low (lf a 0 ha (by omega) ca (by omega)) (hZ.low ha) (by omega) (by omega)
          · exact lf a b ha hb ca cb
      · intro h
        have lv := lv_of_all lz h
        refine all_of_lv (mk_len _ _) fun a b ha hb => ?_
        rw [mk_at _ ha hb]
        by_cases ca : a = i
        · by_cases cb : b = i
          · rw [frG_ii ca cb]; decide
          · rw [frG_ib ca cb]; decide
        · by_cases cb : b = i
          · rw [frG_ai ca cb]; exact lv a 0 ha (by omega)
          · rw [frG_ab ca cb]; exact lv a b ha hb
    constructor
    · unfold cloE
      rw [hb, gb, e]
      unfold rdL at rd
      rw [rd]
    · intro hz
      have ck := clo_chk hn lm mv hz
      rw [e, (fr_zone hn lz ck h1 hi).1]
  · have gb : cloB n g = true := by
      cases h : cloB n g
      · rw [(A h).1] at hb; cases hb
      · rfl
    constructor
    · unfold cloE; rw [hb, gb]; rfl
    · intro hz
      unfold cloE at hz
      rw [hb] at hz
      simp at hz
end Go.Proofs.Ytbnebinpemejlaa

namespace Go.Proofs.Ytbnebinpemejlaa
open Go.RowKit

/-- What Before returns: And, then Free. -/
def beM (n i : Nat) (c : Int) (l : List Int) : List Int := Zo.clo n (anL n (isC i 0 c) l)

def beL (n i : Nat) (c : Int) (l : List Int) : List Int := Zo.clo n (frL n i (beM n i c l))

def beE (n i : Nat) (c : Int) (l : List Int) : Int := if anE n (isC i 0 c) l = 0 then frE n (beM n i c l) i else anE n (isC i 0 c) l

set_option maxHeartbeats 400000 in
theorem be_bad (N : Int) (l : List Int) (ao : Option Addr) (cap : Nat) (i c : Int) (w : World) (hA : Arg w ao l) (hc : chkE N l = 2) :
    Calls Try.prog 35 #[.agg #[.int .i64 N, .slice ao l.length cap], .int .i64 i, .int .i64 c] w (ZRes w 0 [] 2) := by
  have CK := Lib.hid fun W (h : Below w.heap.size w W) => check_as (cap := cap) W (hA.on h) hc
  generalize l.length = len at *
  obtain ⟨w0, hw0⟩ : ∃ w0, w0 = (w.alloc (.cells #[.int .i64 N, .slice ao len cap] 25)).alloc (.cells #[.int .i64 0, .slice none 0 0] 25) := ⟨_, rfl⟩
  have bx : Two w0 w.heap.size (.int .i64 N) (.slice ao len cap) := by rw [hw0]; exact (Two.made _ _ _ _).alloc _
  have rs : Two w0 (w.heap.size + 1) (.int .i64 0) (.slice none 0 0) := by
    rw [hw0]
    have := Two.made (w.alloc (.cells #[.int .i64 N, .slice ao len cap] 25)) (.int .i64 0) (.slice none 0 0) 25
    simpa using this
  have e0 : Below w.heap.size w w0 := by rw [hw0]; exact past_two (Below.refl _ _)
  have E0 := Lib.hid e0
  clear e0 hA hc
  go_enter Try.func35, Try.ntmps35
  go_wp2_with fail
  rw [← hw0]
  clear hw0
  obtain ⟨b0, b1, b2, b3⟩ := bx.facts
  go_wp2_with fail
  refine (CK.out _ E0.out).mono ?_
  rintro e w1 ⟨rfl, hb1⟩
  clear b0 b1 b2 b3
  replace rs := rs.kept hb1
  replace E0 := Lib.hid (below_on E0.out hb1)
  clear hb1 bx
  obtain ⟨b0, b1, b2, b3⟩ := rs.facts
  go_wp2_with fail
  refine bodyPost_ret (v := .tuple #[.agg #[.int .i64 0, .slice none 0 0], .int .i64 2]) (by simp [results, Try.results35, go_sem, b0, b1]) rfl (zres_bad ?_)
  exact (E0.out.setCell (by show w.heap.size ≤ w.heap.size + 1; omega) _).setCell (by show w.heap.size ≤ w.heap.size + 1; omega) _

set_option maxHeartbeats 800000 in
theorem be_out0 (n : Nat) (l : List Int) (a : Addr) (cap : Nat) (i c : Int) (w : World) (hn : n ≤ 10) (hl : l.length = (n + 1) * (n + 1)) (hR : Rd w a l) (hc : chkE n l = 0) (hi : i < 1) :
    Calls Try.prog 35 #[.agg #[.int .i64 n, .slice (some a) l.length cap], .int .i64 i, .int .i64 c] w (ZRes w 0 [] 2) := by
  obtain ⟨len, hlen⟩ : ∃ len, len = l.length := ⟨_, rfl⟩
  obtain ⟨w0, hw0⟩ : ∃ w0, w0 = (w.alloc (.cells #[.int .i64 n, .slice (some a) len cap] 25)).alloc (.cells #[.int .i64 0, .slice none 0 0] 25) := ⟨_, rfl⟩
  have bx : Two w0 w.heap.size (.int .i64 n) (.slice (some a) len cap) := by rw [hw0]; exact (Two.made _ _ _ _).alloc _
  have rs : Two w0 (w.heap.size + 1) (.int .i64 0) (.slice none 0 0) := by
    rw [hw0]
    have := Two.made (w.alloc (.cells #[.int .i64 n, .slice (some a) len cap] 25)) (.int .i64 0) (.slice none 0 0) 25
    simpa using this
  have z0 : w0.heap.size = w.heap.size + 2 := by rw [hw0]; simp
  have e0 : Below w.heap.size w w0 := by rw [hw0]; exact past_two (Below.refl _ _)
  have R0 := hR.on e0
  have CK : Hid (∀ W, Rd W a l → Calls Try.prog 18 #[.agg #[.int .i64 n, .slice (some a) len cap]] W (Made (.int .i64 0) W)) := Lib.hid fun W h => by have := check_any n l a cap W hn hl h; rw [hc, ← hlen] at this; exact this
  have CP : Hid (∀ W, Rd W a l → Calls Try.prog 66 #[.agg #[.int .i64 n, .slice (some a) len cap]] W (fun e w' => ∃ g c, e = .returned (.agg #[.int .i64 n, .slice (some ⟨g, 0, none⟩) len c]) ∧ W.heap.size ≤ g ∧ Own w' g c l ∧ Below W.heap.size W w')) := Lib.hid fun W h => by have := copied_any n l a cap W (by rw [hl]; exact dsq_pos n) (by rw [hl]; have := dsq_le hn; omega) h; rw [← hlen] at this; exact this
  have HR := Lib.hid R0
  have HL := Lib.hid hl
  have HLn := Lib.hid hlen
  have E0 := Lib.hid e0
  rw [← hlen]
  clear hR R0 hl hlen hc e0
  go_enter Try.func35, Try.ntmps35
  go_wp2_with fail
  rw [← hw0]
  clear hw0
  obtain ⟨b0, b1, b2, b3⟩ := bx.facts
  go_wp2_with fail
  refine (CK.out _ HR.out).mono ?_
  rintro e w1 ⟨rfl, hb1⟩
  clear b0 b1 b2 b3
  replace bx := bx.kept hb1
  replace rs := rs.kept hb1
  have HR1 := Lib.hid (HR.out.on hb1)
  have E1 := Lib.hid (below_on E0.out hb1)
  have z1 := hb1.size
  clear hb1 HR E0
  obtain ⟨b0, b1, b2, b3⟩ := bx.facts
  clear b0 b1 b2 b3
  obtain ⟨b0, b1, b2, b3⟩ := rs.facts
  obtain ⟨c0, c1, _, _⟩ := bx.facts
  go_wp2_with fail
  refine bodyPost_ret (v := .tuple #[.agg #[.int .i64 0, .slice none 0 0], .int .i64 2]) (by simp [results, Try.results35, go_sem, b0, b1]) rfl (zres_bad ?_)
  exact (E1.out.setCell (by show w.heap.size ≤ w.heap.size + 1; omega) _).setCell (by show w.heap.size ≤ w.heap.size + 1; omega) _

set_option maxHeartbeats 800000 in
theorem be_out1 (n : Nat) (l : List Int) (a : Addr) (cap : Nat) (i c : Int) (w : World) (hn : n ≤ 10) (hl : l.length = (n + 1) * (n + 1)) (hR : Rd w a l) (hc : chkE n l = 0) (h1 : ¬ i < 1) (h2 : (n : Int) < i) :
    Calls Try.prog 35 #[.agg #[.int .i64 n, .slice (some a) l.length cap], .int .i64 i, .int .i64 c] w (ZRes w 0 [] 2) := by
  obtain ⟨len, hlen⟩ : ∃ len, len = l.length := ⟨_, rfl⟩
  obtain ⟨w0, hw0⟩ : ∃ w0, w0 = (w.alloc (.cells #[.int .i64 n, .slice (some a) len cap] 25)).alloc (.cells #[.int .i64 0, .slice none 0 0] 25) := ⟨_, rfl⟩
  have bx : Two w0 w.heap.size (.int .i64 n) (.slice (some a) len cap) := by rw [hw0]; exact (Two.made _ _ _ _).alloc _
  have rs : Two w0 (w.heap.size + 1) (.int .i64 0) (.slice none 0 0) := by
    rw [hw0]
    have := Two.made (w.alloc (.cells #[.int .i64 n, .slice (some a) len cap] 25)) (.int .i64 0) (.slice none 0 0) 25
    simpa using this
  have z0 : w0.heap.size = w.heap.size + 2 := by rw [hw0]; simp
  have e0 : Below w.heap.size w w0 := by rw [hw0]; exact past_two (Below.refl _ _)
  have R0 := hR.on e0
  have CK : Hid (∀ W, Rd W a l → Calls Try.prog 18 #[.agg #[.int .i64 n, .slice (some a) len cap]] W (Made (.int .i64 0) W)) := Lib.hid fun W h => by have := check_any n l a cap W hn hl h; rw [hc, ← hlen] at this; exact this
  have CP : Hid (∀ W, Rd W a l → Calls Try.prog 66 #[.agg #[.int .i64 n, .slice (some a) len cap]] W (fun e w' => ∃ g c, e = .returned (.agg #[.int .i64 n, .slice (some ⟨g, 0, none⟩) len c]) ∧ W.heap.size ≤ g ∧ Own w' g c l ∧ Below W.heap.size W w')) := Lib.hid fun W h => by have := copied_any n l a cap W (by rw [hl]; exact dsq_pos n) (by rw [hl]; have := dsq_le hn; omega) h; rw [← hlen] at this; exact this
  have HR := Lib.hid R0
  have HL := Lib.hid hl
  have HLn := Lib.hid hlen
  have E0 := Lib.hid e0
  rw [← hlen]
  clear hR R0 hl hlen hc e0
  go_enter Try.func35, Try.ntmps35
  go_wp2_with fail
  rw [← hw0]
  clear hw0
  obtain ⟨b0, b1, b2, b3⟩ := bx.facts
  go_wp2_with fail
  refine (CK.out _ HR.out).mono ?_
  rintro e w1 ⟨rfl, hb1⟩
  clear b0 b1 b2 b3
  replace bx := bx.kept hb1
  replace rs := rs.kept hb1
  have HR1 := Lib.hid (HR.out.on hb1)
  have E1 := Lib.hid (below_on E0.out hb1)
  have z1 := hb1.size
  clear hb1 HR E0
  obtain ⟨b0, b1, b2, b3⟩ := bx.facts
  clear b0 b1 b2 b3
  obtain ⟨b0, b1, b2, b3⟩ := rs.facts
  obtain ⟨c0, c1, _, _⟩ := bx.facts
  go_wp2_with fail
  refine bodyPost_ret (v := .tuple #[.agg #[.int .i64 0, .slice none 0 0], .int .i64 2]) (by simp [results, Try.results35, go_sem, b0, b1]) rfl (zres_bad ?_)
  exact (E1.out.setCell (by show w.heap.size ≤ w.heap.size + 1; omega) _).setCell (by show w.heap.size ≤ w.heap.size + 1; omega) _

set_option maxHeartbeats 800000 in
theorem be_out2 (n : Nat) (l : List Int) (a : Addr) (cap : Nat) (i c : Int) (w : World) (hn : n ≤ 10) (hl : l.length = (n + 1) * (n + 1)) (hR : Rd w a l) (hc : chkE n l = 0) (h1 : ¬ i < 1) (h2 : ¬ (n : Int) < i) (h3 : cnB c = false) :
    Calls Try.prog 35 #[.agg #[.int .i64 n, .slice (some a) l.length cap], .int .i64 i, .int .i64 c] w (ZRes w 0 [] 2) := by
  have p := fun W => constant_any c W
  rw [h3] at p
  have CN := Lib.hid p
  clear p h3
  obtain ⟨len, hlen⟩ : ∃ len, len = l.length := ⟨_, rfl⟩
  obtain ⟨w0, hw0⟩ : ∃ w0, w0 = (w.alloc (.cells #[.int .i64 n, .slice (some a) len cap] 25)).alloc (.cells #[.int .i64 0, .slice none 0 0] 25) := ⟨_, rfl⟩
  have bx : Two w0 w.heap.size (.int .i64 n) (.slice (some a) len cap) := by rw [hw0]; exact (Two.made _ _ _ _).alloc _
  have rs : Two w0 (w.heap.size + 1) (.int .i64 0) (.slice none 0 0) := by
    rw [hw0]
    have := Two.made (w.alloc (.cells #[.int .i64 n, .slice (some a) len cap] 25)) (.int .i64 0) (.slice none 0 0) 25
    simpa using this
  have z0 : w0.heap.size = w.heap.size + 2 := by rw [hw0]; simp
  have e0 : Below w.heap.size w w0 := by rw [hw0]; exact past_two (Below.refl _ _)
  have R0 := hR.on e0
  have CK : Hid (∀ W, Rd W a l → Calls Try.prog 18 #[.agg #[.int .i64 n, .slice (some a) len cap]] W (Made (.int .i64 0) W)) := Lib.hid fun W h => by have := check_any n l a cap W hn hl h; rw [hc, ← hlen] at this; exact this
  have CP : Hid (∀ W, Rd W a l → Calls Try.prog 66 #[.agg #[.int .i64 n, .slice (some a) len cap]] W (fun e w' => ∃ g c, e = .returned (.agg #[.int .i64 n, .slice (some ⟨g, 0, none⟩) len c]) ∧ W.heap.size ≤ g ∧ Own w' g c l ∧ Below W.heap.size W w')) := Lib.hid fun W h => by have := copied_any n l a cap W (by rw [hl]; exact dsq_pos n) (by rw [hl]; have := dsq_le hn; omega) h; rw [← hlen] at this; exact this
  have HR := Lib.hid R0
  have HL := Lib.hid hl
  have HLn := Lib.hid hlen
  have E0 := Lib.hid e0
  rw [← hlen]
  clear hR R0 hl hlen hc e0
  go_enter Try.func35, Try.ntmps35
  go_wp2_with fail
  rw [← hw0]
  clear hw0
  obtain ⟨b0, b1, b2, b3⟩ := bx.facts
  go_wp2_with fail
  refine (CK.out _ HR.out).mono ?_
  rintro e w1 ⟨rfl, hb1⟩
  clear b0 b1 b2 b3
  replace bx := bx.kept hb1
  replace rs := rs.kept hb1
  have HR1 := Lib.hid (HR.out.on hb1)
  have E1 := Lib.hid (below_on E0.out hb1)
  have z1 := hb1.size
  clear hb1 HR E0
  obtain ⟨b0, b1, b2, b3⟩ := bx.facts
  go_wp2_with fail
  refine (CN.out _).mono ?_
  rintro e w2 ⟨rfl, rfl⟩
  clear b0 b1 b2 b3
  obtain ⟨b0, b1, b2, b3⟩ := rs.facts
  obtain ⟨c0, c1, _, _⟩ := bx.facts
  go_wp2_with fail
  refine bodyPost_ret (v := .tuple #[.agg #[.int .i64 0, .slice none 0 0], .int .i64 2]) (by simp [results, Try.results35, go_sem, b0, b1]) rfl (zres_bad ?_)
  exact (E1.out.setCell (by show w.heap.size ≤ w.heap.size + 1; omega) _).setCell (by show w.heap.size ≤ w.heap.size + 1; omega) _

set_option maxHeartbeats 4000000 in
theorem be_any (n : Nat) (l : List Int) (a : Addr) (cap : Nat) (i : Nat) (c : Int) (w : World) (hn : n ≤ 10) (hl : l.length = (n + 1) * (n + 1)) (hR : Rd w a l) (hc : chkE n l = 0) (hi1 : 1 ≤ i) (hi2 : i ≤ n) (hcn : cnB c = true) :
    Calls Try.prog 35 #[.agg #[.int .i64 n, .slice (some a) l.length cap], .int .i64 i, .int .i64 c] w (ZRes w n (beL n i c l) (beE n i c l)) := by
  have p := fun W => constant_any c W
  rw [hcn] at p
  have CN := Lib.hid p
  have c0 : 0 ≤ c ∧ c ≤ 1048576 := by unfold cnB at hcn; simpa using hcn
  have IS := Lib.hid fun W => is_any (i : Int) 0 c W c0.1 c0.2
  have AN0 : Hid (∀ (W : World) (q : Nat), Rd W a l → Rd3 W ⟨q, 0, none⟩ (isC i 0 c) → Calls Try.prog 25 #[.agg #[.int .i64 n, .slice (some a) l.length cap], .slice (some ⟨q, 0, none⟩) (isC i 0 c).length 2] W (ZRes W n (beM n i c l) (anE n (isC i 0 c) l))) := Lib.hid fun W q h hd => an_any n l a cap (isC i 0 c) (some ⟨q, 0, none⟩) ⟨q, 0, none⟩ 2 W hn hl h hc hd (by simp [isC]) (fun _ => rfl)
  clear p hcn c0
  obtain ⟨len, hlen⟩ : ∃ len, len = l.length := ⟨_, rfl⟩
  obtain ⟨w0, hw0⟩ : ∃ w0, w0 = (w.alloc (.cells #[.int .i64 n, .slice (some a) len cap] 25)).alloc (.cells #[.int .i64 0, .slice none 0 0] 25) := ⟨_, rfl⟩
  have bx : Two w0 w.heap.size (.int .i64 n) (.slice (some a) len cap) := by rw [hw0]; exact (Two.made _ _ _ _).alloc _
  have rs : Two w0 (w.heap.size + 1) (.int .i64 0) (.slice none 0 0) := by
    rw [hw0]
    have := Two.made (w.alloc (.cells #[.int .i64 n, .slice (some a) len cap] 25)) (.int .i64 0) (.slice none 0 0) 25
    simpa using this
  have z0 : w0.heap.size = w.heap.size + 2 := by rw [hw0]; simp
  have e0 : Below w.heap.size w w0 := by rw [hw0]; exact past_two (Below.refl _ _)
  have R0 := hR.on e0
  have CK : Hid (∀ W, Rd W a l → Calls Try.prog 18 #[.agg #[.int .i64 n, .slice (some a) len cap]] W (Made (.int .i64 0) W)) := Lib.hid fun W h => by have := check_any n l a cap W hn hl h; rw [hc, ← hlen] at this; exact this
  have CP : Hid (∀ W, Rd W a l → Calls Try.prog 66 #[.agg #[.int .i64 n, .slice (some a) len cap]] W (fun e w' => ∃ g c, e = .returned (.agg #[.int .i64 n, .slice (some ⟨g, 0, none⟩) len c]) ∧ W.heap.size ≤ g ∧ Own w' g c l ∧ Below W.heap.size W w')) := Lib.hid fun W h => by have := copied_any n l a cap W (by rw [hl]; exact dsq_pos n) (by rw [hl]; have := dsq_le hn; omega) h; rw [← hlen] at this; exact this
  have HR := Lib.hid R0
  have HL := Lib.hid hl
  have HLn := Lib.hid hlen
  have E0 := Lib.hid e0
  have AN : Hid (∀ (W : World) (q : Nat), Rd W a l → Rd3 W ⟨q, 0, none⟩ (isC i 0 c) → Calls Try.prog 25 #[.agg #[.int .i64 n, .slice (some a) len cap], .slice (some ⟨q, 0, none⟩) (isC i 0 c).length 2] W (ZRes W n (beM n i c l) (anE n (isC i 0 c) l))) := by rw [hlen]; exact AN0
  clear AN0
  rw [← hlen]
  clear hR R0 hl hlen hc e0
  by_cases h1 : anE n (isC i 0 c) l = 0
  · by_cases h2 : frE n (beM n i c l) i = 0
    · have HBE := Lib.hid (show beE n i c l = frE n (beM n i c l) i by unfold beE; rw [if_pos h1])
      have H1 := Lib.hid h1
      have H2 := Lib.hid h2
      have FR := Lib.hid fun (W : World) (g c5 : Nat) (hA : Own W g c5 (beM n i c l)) => fr_gen n (beM n i c l) (some ⟨g, 0, none⟩) c5 i W hA.arg
      have HBL := Lib.hid (show beL n i c l = Zo.clo n (frL n i (beM n i c l)) from rfl)
      generalize beL n i c l = BL at *
      generalize (isC (i : Int) 0 c) = cs at *
      generalize beM n i c l = M at *
      clear h1 h2
      go_enter Try.func35, Try.ntmps35
      go_wp2_with fail
      rw [← hw0]
      clear hw0
      obtain ⟨b0, b1, b2, b3⟩ := bx.facts
      go_wp2_with fail
      refine (CK.out _ HR.out).mono ?_
      rintro e w1 ⟨rfl, hb1⟩
      clear b0 b1 b2 b3
      replace bx := bx.kept hb1
      replace rs := rs.kept hb1
      have HR1 := Lib.hid (HR.out.on hb1)
      have E1 := Lib.hid (below_on E0.out hb1)
      have z1 := hb1.size
      clear hb1 HR E0
      obtain ⟨b0, b1, b2, b3⟩ := bx.facts
      go_wp2_with fail
      refine (CN.out _).mono ?_
      rintro e w2' ⟨rfl, rfl⟩
      go_wp2_with fail
      have s1 : Below w2'.heap.size w2' w2'.drew := (Below.refl _ _).drew
      go_region_with (first | (go_at_call 88; refine (IS.out _).mono ?_; rintro e w6 ⟨q, rfl, hd, hb6⟩; have s6 := below_on s1 hb6; obtain ⟨b0, b1, b2, b3⟩ := (bx.kept s6).facts) | (go_at_call 25; refine (AN.out _ _ (HR1.out.on s6) hd).mono ?_; intro e w7 hz; obtain ⟨g, c5, rfl, hg, ho, hb7⟩ := hz.ok H1.out; have s7 := below_on s6 hb7; obtain ⟨b0, b1, b2, b3⟩ := (bx.kept s7).facts))
      all_goals
        have rs7 := rs.kept s7
        have bx7 := bx.kept s7
        have E7 := Lib.hid (below_on E1.out s7)
        have z6 := s6.size
        have z8 := rs.lt
        obtain ⟨w8, hw8⟩ : ∃ w8, w8 = (w7.setCell ⟨w.heap.size, 0, none⟩ (.int .i64 n)).setCell ⟨w.heap.size, 1, none⟩ (.slice (some ⟨g, 0, none⟩) M.length c5) := ⟨_, rfl⟩
        have bx8 : Two w8 w.heap.size (.int .i64 n) (.slice (some ⟨g, 0, none⟩) M.length c5) := by rw [hw8]; exact bx7.put _ _
        have rs8 : Two w8 (w.heap.size + 1) (.int .i64 0) (.slice none 0 0) := by rw [hw8]; exact rs7.aside (by omega) _ _
        have O8 := Lib.hid (show Own w8 g c5 M by rw [hw8]; exact put_far ho (by omega) _ _)
        have E8 := Lib.hid (show Below w.heap.size w w8 by rw [hw8]; exact (E7.out.setCell (by show w.heap.size ≤ w.heap.size; omega) _).setCell (by show w.heap.size ≤ w.heap.size; omega) _)
        have HW8 := Lib.hid hw8
        clear hw8 ho hd hb6 hb7 b0 b1 b2 b3 hz
        obtain ⟨b0, b1, b2, b3⟩ := bx7.facts
        go_wp2_with fail
        rw [← HW8.out]
        clear b0 b1 b2 b3
        obtain ⟨b0, b1, b2, b3⟩ := bx8.facts
        go_wp2_with fail
        refine (FR.out _ _ _ O8.out).mono ?_
        intro e w9 hz9
        obtain ⟨g9, c9, rfl, hg9, ho9, hb9⟩ := hz9.ok H2.out
        have rs9 := rs8.kept hb9
        obtain ⟨r0, r1, r2, r3⟩ := rs9.facts
        have E9 := Lib.hid (below_on E8.out hb9)
        have z9 := rs8.lt
        clear b0 b1 b2 b3
        go_wp2_with fail
        refine bodyPost_ret (v := .tuple #[.agg #[.int .i64 n, .slice (some ⟨g9, 0, none⟩) (Zo.clo n (frL n i M)).length c9], .int .i64 0]) (by simp [results, Try.results35, go_sem, r0, r1]) rfl ⟨(E9.out.setCell (by show w.heap.size ≤ w.heap.size + 1; omega) _).setCell (by show w.heap.size ≤ w.heap.size + 1; omega) _, Or.inl ⟨by rw [HBE.out]; exact H2.out, g9, c9, by rw [HBL.out], by omega, ?_⟩⟩
        rw [HBL.out]
        exact put_far ho9 (by omega) _ _
    · have HBE := Lib.hid (show beE n i c l = frE n (beM n i c l) i by unfold beE; rw [if_pos h1])
      have H1 := Lib.hid h1
      have H2 := Lib.hid h2
      have FR := Lib.hid fun (W : World) (g c5 : Nat) (hA : Own W g c5 (beM n i c l)) => fr_gen n (beM n i c l) (some ⟨g, 0, none⟩) c5 i W hA.arg
      have HBL := Lib.hid (show beL n i c l = Zo.clo n (frL n i (beM n i c l)) from rfl)
      generalize beL n i c l = BL at *
      generalize (isC (i : Int) 0 c) = cs at *
      generalize beM n i c l = M at *
      generalize frE n M i = er at *
      clear h1 h2
      go_enter Try.func35, Try.ntmps35
      go_wp2_with fail
      rw [← hw0]
      clear hw0
      obtain ⟨b0, b1, b2, b3⟩ := bx.facts
      go_wp2_with fail
      refine (CK.out _ HR.out).mono ?_
      rintro e w1 ⟨rfl, hb1⟩
      clear b0 b1 b2 b3
      replace bx := bx.kept hb1
      replace rs := rs.kept hb1
      have HR1 := Lib.hid (HR.out.on hb1)
      have E1 := Lib.hid (below_on E0.out hb1)
      have z1 := hb1.size
      clear hb1 HR E0
      obtain ⟨b0, b1, b2, b3⟩ := bx.facts
      go_wp2_with fail
      refine (CN.out _).mono ?_
      rintro e w2' ⟨rfl, rfl⟩
      go_wp2_with fail
      have s1 : Below w2'.heap.size w2' w2'.drew := (Below.refl _ _).drew
      go_region_with (first | (go_at_call 88; refine (IS.out _).mono ?_; rintro e w6 ⟨q, rfl, hd, hb6⟩; have s6 := below_on s1 hb6; obtain ⟨b0, b1, b2, b3⟩ := (bx.kept s6).facts) | (go_at_call 25; refine (AN.out _ _ (HR1.out.on s6) hd).mono ?_; intro e w7 hz; obtain ⟨g, c5, rfl, hg, ho, hb7⟩ := hz.ok H1.out; have s7 := below_on s6 hb7; obtain ⟨b0, b1, b2, b3⟩ := (bx.kept s7).facts))
      all_goals
        have rs7 := rs.kept s7
        have bx7 := bx.kept s7
        have E7 := Lib.hid (below_on E1.out s7)
        have z6 := s6.size
        have z8 := rs.lt
        obtain ⟨w8, hw8⟩ : ∃ w8, w8 = (w7.setCell ⟨w.heap.size, 0, none⟩ (.int .i64 n)).setCell ⟨w.heap.size, 1, none⟩ (.slice (some ⟨g, 0, none⟩) M.length c5) := ⟨_, rfl⟩
        have bx8 : Two w8 w.heap.size (.int .i64 n) (.slice (some ⟨g, 0, none⟩) M.length c5) := by rw [hw8]; exact bx7.put _ _
        have rs8 : Two w8 (w.heap.size + 1) (.int .i64 0) (.slice none 0 0) := by rw [hw8]; exact rs7.aside (by omega) _ _
        have O8 := Lib.hid (show Own w8 g c5 M by rw [hw8]; exact put_far ho (by omega) _ _)
        have E8 := Lib.hid (show Below w.heap.size w w8 by rw [hw8]; exact (E7.out.setCell (by show w.heap.size ≤ w.heap.size; omega) _).setCell (by show w.heap.size ≤ w.heap.size; omega) _)
        have HW8 := Lib.hid hw8
        clear hw8 ho hd hb6 hb7 b0 b1 b2 b3 hz
        obtain ⟨b0, b1, b2, b3⟩ := bx7.facts
        go_wp2_with fail
        rw [← HW8.out]
        clear b0 b1 b2 b3
        obtain ⟨b0, b1, b2, b3⟩ := bx8.facts
        go_wp2_with fail
        refine (FR.out _ _ _ O8.out).mono ?_
        intro e w9 hz9
        obtain ⟨rfl, hb9⟩ := hz9.no H2.out
        have rs9 := rs8.kept hb9
        obtain ⟨r0, r1, r2, r3⟩ := rs9.facts
        have E9 := Lib.hid (below_on E8.out hb9)
        have z9 := rs8.lt
        clear b0 b1 b2 b3
        go_wp2_with fail
        refine bodyPost_ret (v := .tuple #[.agg #[.int .i64 0, .slice none 0 0], .int .i64 er]) (by simp [results, Try.results35, go_sem, r0, r1]) rfl ⟨(E9.out.setCell (by show w.heap.size ≤ w.heap.size + 1; omega) _).setCell (by show w.heap.size ≤ w.heap.size + 1; omega) _, Or.inr ⟨by rw [HBE.out]; exact H2.out, by rw [HBE.out]⟩⟩
  · have HBE := Lib.hid (show beE n i c l = anE n (isC i 0 c) l by unfold beE; rw [if_neg h1])
    have H1 := Lib.hid h1
    generalize anE n (isC i 0 c) l = er at *
    have E1B : (er != 0) = true := by simpa using h1
    generalize (isC (i : Int) 0 c) = cs at *
    clear h1
    go_enter Try.func35, Try.ntmps35
    go_wp2_with fail
    rw [← hw0]
    clear hw0
    obtain ⟨b0, b1, b2, b3⟩ := bx.facts
    go_wp2_with fail
    refine (CK.out _ HR.out).mono ?_
    rintro e w1 ⟨rfl, hb1⟩
    clear b0 b1 b2 b3
    replace bx := bx.kept hb1
    replace rs := rs.kept hb1
    have HR1 := Lib.hid (HR.out.on hb1)
    have E1 := Lib.hid (below_on E0.out hb1)
    have z1 := hb1.size
    clear hb1 HR E0
    obtain ⟨b0, b1, b2, b3⟩ := bx.facts
    go_wp2_with fail
    refine (CN.out _).mono ?_
    rintro e w2' ⟨rfl, rfl⟩
    go_wp2_with fail
    have s1 : Below w2'.heap.size w2' w2'.drew := (Below.refl _ _).drew
    go_region_with (first | (go_at_call 88; refine (IS.out _).mono ?_; rintro e w6 ⟨q, rfl, hd, hb6⟩; have s6 := below_on s1 hb6; obtain ⟨b0, b1, b2, b3⟩ := (bx.kept s6).facts) | (go_at_call 25; refine (AN.out _ _ (HR1.out.on s6) hd).mono ?_; intro e w7 hz; obtain ⟨rfl, hb7⟩ := hz.no H1.out; have s7 := below_on s6 hb7; obtain ⟨b0, b1, b2, b3⟩ := (bx.kept s7).facts))
    all_goals
      have rs7 := rs.kept s7
      obtain ⟨r0, r1, r2, r3⟩ := rs7.facts
      have E7 := Lib.hid (below_on E1.out s7)
      go_wp2_with fail
      refine bodyPost_ret (v := .tuple #[.agg #[.int .i64 0, .slice none 0 0], .int .i64 er]) (by simp [results, Try.results35, go_sem, r0, r1]) rfl ⟨?_, Or.inr ⟨by rw [HBE.out]; exact H1.out, by rw [HBE.out]⟩⟩
      exact (((E7.out.setCell (by show w.heap.size ≤ w.heap.size; omega) _).setCell (by show w.heap.size ≤ w.heap.size; omega) _).setCell (by show w.heap.size ≤ w.heap.size + 1; omega) _).setCell (by show w.heap.size ≤ w.heap.size + 1; omega) _

def beG (N : Int) (l : List Int) (i c : Int) : Int := if chkE N l = 0 ∧ 1 ≤ i ∧ i ≤ N ∧ cnB c = true then beE N.toNat i.toNat c l else 2

theorem be_gen (N : Int) (l : List Int) (ao : Option Addr) (cap : Nat) (i c : Int) (w : World) (hA : Arg w ao l) :
    Calls Try.prog 35 #[.agg #[.int .i64 N, .slice ao l.length cap], .int .i64 i, .int .i64 c] w (ZRes w N (beL N.toNat i.toNat c l) (beG N l i c)) := by
  by_cases hc : chkE N l = 0
  · obtain ⟨n, rfl, hn, hl, hne⟩ := chk_ok hc
    obtain ⟨a, rfl, hR⟩ := hA hne
    by_cases h1 : i < 1
    · exact (be_out0 n l a cap i c w hn hl hR hc h1).mono fun e w' h => h.bad (by unfold beG; rw [if_neg (by omega)])
    by_cases h2 : (n : Int) < i
    · exact (be_out1 n l a cap i c w hn hl hR hc h1 h2).mono fun e w' h => h.bad (by unfold beG; rw [if_neg (by omega)])
    cases h3 : cnB c
    · exact (be_out2 n l a cap i c w hn hl hR hc h1 h2 h3).mono fun e w' h => h.bad (by unfold beG; rw [h3, if_neg (by simp)])
    obtain ⟨k, rfl⟩ : ∃ k : Nat, i = k := ⟨i.toNat, by omega⟩
    have := be_any n l a cap k c w hn hl hR hc (by omega) (by omega) h3
    rw [show beG (n : Int) l (k : Int) c = beE n k c l by unfold beG; rw [if_pos ⟨hc, by omega, by omega, h3⟩]; rfl]
    exact this
  · exact (be_bad N l ao cap i c w hA (chk_two hc)).mono fun e w' h => h.bad (by unfold beG; rw [if_neg (fun x => hc x.1)])
end Go.Proofs.Ytbnebinpemejlaa
