/- Plain mathematics of PolyProjects: a point and the point without a coordinate; lines that fix the others; lists that a point meets are not told to be empty.; Plain mathematics of Minus: a point of the first list that is not one of the second lies in just one piece, and pieces have no other points.; What package poly's minus hands to lists; a row of lists of lines of the call's own. -/
import Derived.Test.YtbhaoaobhgilkaaGreatVi42
import Derived.Test.YtbhaoaobhgilkaaGreatVi41
import Derived.Test.YtbhaoaobhgilkaaGreatVi32

namespace Go.Proofs.YtbhaoaobhgilkaaGreat
open Go.Sort

theorem gA_erase (a : List Int) (i j : Nat) : gA (a.eraseIdx i) j = if j < i then gA a j else gA a (j + 1) := by
  unfold gA
  rw [List.getD_eq_getElem?_getD, List.getElem?_eraseIdx]
  split <;> rw [← List.getD_eq_getElem?_getD]

theorem dot_erase (a X : List Int) (i : Nat) : ∀ t, dotN (a.eraseIdx i) (X.eraseIdx i) t = if t ≤ i then dotN a X t else dotN a X (t + 1) - gA a i * gA X i
  | 0 => by simp [dotN]
  | t + 1 => by
    show dotN (a.eraseIdx i) (X.eraseIdx i) t + gA (a.eraseIdx i) t * gA (X.eraseIdx i) t = _
    rw [dot_erase a X i t, gA_erase, gA_erase]
    have e2 : dotN a X (t + 1 + 1) = dotN a X (t + 1) + gA a (t + 1) * gA X (t + 1) := rfl
    have e1 : dotN a X (t + 1) = dotN a X t + gA a t * gA X t := rfl
    rcases Nat.lt_trichotomy t i with h | h | h
    · rw [if_pos (by omega), if_pos h, if_pos h, if_pos (by omega), e1]
    · subst h
      rw [if_pos (Nat.le_refl _), if_neg (by omega), if_neg (by omega), if_neg (by omega), e2, e1]; omega
    · rw [if_neg (by omega), if_neg (by omega), if_neg (by omega), if_neg (by omega), e2]; omega

theorem ofV_zr {n : Nat} {L : List AV} (hv : ∀ y ∈ L, validB n y = true) (hn : n ≤ 5) : ZrL (fun j => n ≤ j) (L.map ofV) := fun x hx => by
  obtain ⟨y, hy, rfl⟩ := List.mem_map.1 hx
  have hf := valid_fitV (hv y hy)
  have hl : y.a.length = n := by have := hf.1; simpa using this
  exact ⟨by unfold ofV; simp; omega, fun j hj => by unfold ofV; rw [gA_pad, gA_out (by omega)]⟩

theorem tidy_cases {l : List Ln} {x : Ln} (h : x ∈ tidyL l) : x = bad0 ∨ x.a ≠ z6 := by
  rw [tidyL_ins] at h
  split at h
  · rw [List.mem_singleton] at h; exact Or.inl h
  · have h2 := (((insL_ok (keepL l)).2 x).1 h).1
    unfold keepL at h2
    have := (List.mem_filter.1 h2).2
    exact Or.inr (by simpa using this)

theorem sh_tidy {l : List Ln} {n : Nat} : ∀ k, ∃ m, shL l n k = tidyL m
  | 0 => ⟨l, rfl⟩
  | _ + 1 => ⟨_, rfl⟩

theorem sh_far {l : List Ln} {n m : Nat} (h : ZrL (fun j => n ≤ j) l) : ∀ k, ZrL (fun j => n ≤ j) (shL l m k)
  | 0 => tidy_zr h
  | k + 1 => fun x hx => by
    have := leave_zr (sh_far h k) (m - 1 - k) x hx
    exact ⟨this.1, fun j hj => this.2 j (Or.inl hj)⟩

/-- A list that a point meets is not told to be empty. -/
theorem not_empty {D : Int} {X : List Int} {n : Nat} {l : List Ln} (hD : 0 < D) (hz : ZrL (fun j => n ≤ j) l) (hs : ∀ x ∈ l, sat D X x) : empB l n = false := by
  unfold empB
  refine decide_eq_false fun hpos => ?_
  obtain ⟨x, hx⟩ := List.exists_mem_of_length_pos hpos
  have h6 := fun x hx => (hz x hx).1
  have h1 := sh_zr h6 n n (Nat.le_refl _) x hx
  have h2 := sh_far hz n x hx
  have h3 := sh_sat hD h6 hs n n (Nat.le_refl _) x hx
  have ha : x.a = z6 := gA_ext (by rw [h1.1]; rfl) fun j hj => by
    rw [gA_z6]
    by_cases q : j < n
    · exact h1.2 j (by omega)
    · exact h2.2 j (by omega)
  obtain ⟨m, e⟩ := sh_tidy (l := l) (n := n) n
  rw [e] at hx
  rcases tidy_cases hx with rfl | h
  · unfold sat bad0 at h3
    simp only [if_true] at h3
    rw [dot_zero X gA_z6] at h3
    omega
  · exact absurd ha h

end Go.Proofs.YtbhaoaobhgilkaaGreat

namespace Go.Proofs.YtbhaoaobhgilkaaGreat
open Go.Sort

def satb (D : Int) (X : List Int) (x : Ln) : Bool := if x.s then decide (dotN x.a X 6 < x.b * D) else decide (dotN x.a X 6 ≤ x.b * D)

theorem satb_iff {D : Int} {X : List Int} {x : Ln} : satb D X x = true ↔ sat D X x := by
  unfold satb sat
  cases x.s <;> simp

def allS (D : Int) (X : List Int) (l : List Ln) : Bool := l.all (satb D X)

theorem allS_iff {D : Int} {X : List Int} {l : List Ln} : allS D X l = true ↔ ∀ x ∈ l, sat D X x := by
  unfold allS
  rw [List.all_eq_true]
  exact ⟨fun h x hx => satb_iff.1 (h x hx), fun h x hx => satb_iff.2 (h x hx)⟩

theorem satb_opp {D : Int} {X : List Int} {x : Ln} : satb D X x.opp = !satb D X x := by
  unfold satb Ln.opp Ln.times
  simp only
  rw [dot_scale]
  have e : x.b * -1 * D = -(x.b * D) := by grind
  rw [e]
  generalize dotN x.a X 6 = S
  generalize x.b * D = R
  cases x.s
  · simp only [Bool.not_false, if_true, Bool.false_eq_true, if_false]
    rw [← decide_not]
    exact decide_eq_decide.2 (by omega)
  · simp only [Bool.not_true, Bool.false_eq_true, if_false, if_true]
    rw [← decide_not]
    exact decide_eq_decide.2 (by omega)

/-- What Minus puts together for the line t. -/
def mnL (a b : List Ln) (t : Nat) : List Ln := a ++ b.take t ++ [(b.getD t ln0).opp]

/-- The pieces of the first t lines, and the error. -/
def mnS (n : Nat) (a b : List Ln) : Nat → List (List Ln) × Int
  | 0 => ([], 0)
  | t + 1 => if (mnS n a b t).2 ≠ 0 then mnS n a b t else if a.length + t = 1000 then ([], 3) else if shE (mnL a b t) n n ≠ 0 then ([], shE (mnL a b t) n n) else
    if empB (mnL a b t) n then mnS n a b t else ((mnS n a b t).1 ++ [tidyL (mnL a b t)], 0)

theorem mn_count {n : Nat} {a b : List Ln} {D : Int} {X : List Int} (hD : 0 < D) (ha : ZrL (fun j => n ≤ j) a) (hb : ZrL (fun j => n ≤ j) b) : ∀ t, t ≤ b.length → (mnS n a b t).2 = 0 →
    (mnS n a b t).1.countP (allS D X) = if allS D X a && !allS D X (b.take t) then 1 else 0
  | 0, _, _ => by simp [mnS, allS]
  | t + 1, ht, h => by
    have hlt : t < b.length := ht
    have hg : b.getD t ln0 = b[t] := by rw [List.getD_eq_getElem?_getD, List.getElem?_eq_getElem hlt]; rfl
    have htk : b.take (t + 1) = b.take t ++ [b[t]] := List.take_succ_eq_append_getElem hlt
    have hm : b[t] ∈ b := List.getElem_mem hlt
    unfold mnS at h ⊢
    by_cases h0 : (mnS n a b t).2 = 0
    · have ih := mn_count (X := X) hD ha hb t (by omega) h0
      rw [if_neg (fun q => q h0)] at h ⊢
      by_cases h1 : a.length + t = 1000
      · rw [if_pos h1] at h; cases h
      · rw [if_neg h1] at h ⊢
        by_cases h2 : shE (mnL a b t) n n = 0
        · rw [if_neg (fun q => q h2)] at h ⊢
          have hz : ZrL (fun j => n ≤ j) (mnL a b t) := fun x hx => by
            unfold mnL at hx
            rcases List.mem_append.1 hx with q | q
            · rcases List.mem_append.1 q with q | q
              · exact ha x q
              · exact hb x (List.mem_of_mem_take q)
            · rw [List.mem_singleton] at q
              subst q
              rw [hg]
              have := hb _ hm
              exact ⟨by simp [Ln.opp, Ln.times, this.1], fun j hj => by
                show gA (b[t].times (-1)).a j = 0
                unfold Ln.times
                rw [gA_scale, this.2 j hj, Int.zero_mul]⟩
          have hS : allS D X (mnL a b t) = (allS D X a && allS D X (b.take t) && !satb D X b[t]) := by
            unfold allS mnL
            rw [List.all_append, List.all_append, hg]
            simp [satb_opp]
          have hT : allS D X (b.take (t + 1)) = (allS D X (b.take t) && satb D X b[t]) := by
            unfold allS
            rw [htk, List.all_append]; simp
          rw [hT]
          by_cases h3 : empB (mnL a b t) n = true
          · rw [if_pos h3, ih]
            have : allS D X (mnL a b t) = false := by
              cases q : allS D X (mnL a b t)
              · rfl
              · have := not_empty hD hz (allS_iff.1 q)
                rw [h3] at this; cases this
            rw [hS] at this
            generalize allS D X a = u at *
            generalize allS D X (b.take t) = v at *
            generalize satb D X b[t] = z at *
            cases u <;> cases v <;> cases z <;> simp_all
          · rw [if_neg h3]
            have hp : allS D X (tidyL (mnL a b t)) = allS D X (mnL a b t) := by
              have e1 : allS D X (tidyL (mnL a b t)) = true ↔ allS D X (mnL a b t) = true := by
                rw [allS_iff, allS_iff]
                exact ⟨fun h => tidy_back hD (fun x hx => (hz x hx).1) h, fun h => tidy_sat hD (fun x hx => (hz x hx).1) h⟩
              cases q1 : allS D X (tidyL (mnL a b t)) <;> cases q2 : allS D X (mnL a b t) <;> simp_all
            show ((mnS n a b t).1 ++ [tidyL (mnL a b t)]).countP (allS D X) = _
            rw [List.countP_append, ih, List.countP_cons, List.countP_nil, hp, hS]
            generalize allS D X a = u at *
            generalize allS D X (b.take t) = v at *
            generalize satb D X b[t] = z at *
            cases u <;> cases v <;> cases z <;> simp
        · rw [if_pos h2] at h; exact absurd h h2
    · rw [if_pos h0] at h; exact absurd h h0
end Go.Proofs.YtbhaoaobhgilkaaGreat

namespace Go.Proofs.YtbhaoaobhgilkaaGreat
open Go.RowKit Go.Sort Go.Shelf

set_option maxRecDepth 20000 in
set_option maxHeartbeats 1000000 in
theorem chM_any (n g cap pn : Nat) (a : List Int) (B : Nat) (w : World) (ha : a.length = 6) (hn : n ≤ 6) (ho : OwnI w B g cap a) (c0 : w.cell? ⟨pn, 0, none⟩ = some (.int .i64 n)) :
    Calls Tryz.prog 114 #[.slice (some ⟨g, 0, none⟩) 6 cap, .pointer (some ⟨pn, 0, none⟩)] w (fun e W' => ∃ m c', e = .returned (.slice (some ⟨g, 0, none⟩) m c') ∧ m = (a.take n).length ∧ (∀ j, j < (a.take n).length → W'.cell? ⟨g, j, none⟩ = some (.int .i64 (gA (a.take n) j))) ∧ GB g w W') := by
  have hcp := ho.capOk
  have hcc : n ≤ cap := by have := hcp.1; omega
  have hcc2 : (n : Int) ≤ cap := by omega
  have FA := Lib.hid (show ∀ j, j < (a.take n).length → w.cell? ⟨g, j, none⟩ = some (.int .i64 (gA (a.take n) j)) from fun j hj => by
    rw [List.length_take] at hj
    rw [ho.at (show j < a.length by omega), gA_take (by omega)])
  have LN := Lib.hid (show n = (a.take n).length by rw [List.length_take]; omega)
  clear hcp ho ha
  go_enter Tryz.func114, Tryz.ntmps114
  go_wp2_with fail
  go_ret
  exact ⟨n, cap, rfl, LN.out, FA.out, GB.refl _ _⟩

theorem chM_enters : ∀ args w, (callFunc 114 args).run Tryz.prog w = .ok (.enter 114 args) w := enters_of Tryz.func114 (by kernel_rfl) rfl

/-- From the block B on nothing but the rows r and s is written to. -/
structure GrS (B : Nat) (w w' : World) (r s : Option Nat) : Prop where
  os : w'.os = w.os
  tape : w'.tape = w.tape
  output : w'.output = w.output
  size : w.heap.size ≤ w'.heap.size
  block : ∀ k, B ≤ k → k < w.heap.size → some k ≠ r → some k ≠ s → w'.heap[k]? = w.heap[k]?

theorem GrS.refl (B : Nat) (w : World) (r s : Option Nat) : GrS B w w r s := ⟨rfl, rfl, rfl, Nat.le_refl _, fun _ _ _ _ _ => rfl⟩

/-- A fact that stays while nothing but the rows r and s is written to. -/
def Stays (B : Nat) (w : World) (r s : Option Nat) (F : World → Prop) : Prop := ∀ w', GrS B w w' r s → F w'

theorem Stays.swap {B : Nat} {w : World} {r s : Option Nat} {F : World → Prop} (h : Stays B w r s F) : Stays B w s r F := fun x hx => h x ⟨hx.os, hx.tape, hx.output, hx.size, fun k hB hk h1 h2 => hx.block k hB hk h2 h1⟩

theorem Stays.below {B : Nat} {w w' : World} {r s : Option Nat} {F : World → Prop} (h : Stays B w r s F) (hb : Below w.heap.size w w') : Stays B w' r s F := fun x hx =>
  h x ⟨hx.os.trans hb.os, hx.tape.trans hb.tape, hx.output.trans hb.output, Nat.le_trans hb.size hx.size, fun j hB hj h1 h2 => (hx.block j hB (Nat.lt_of_lt_of_le hj hb.size) h1 h2).trans (hb.block j hj)⟩

/-- The row moves to a block that was not there. -/
theorem Stays.moved {B : Nat} {w w' : World} {r r' s : Option Nat} {F : World → Prop} (h : Stays B w r s F) (hg : w.grownBy w' r) (hr : r' = r ∨ r' = some w.heap.size) : Stays B w' r' s F := fun x hx => by
  refine h x ⟨hx.os.trans hg.os, hx.tape.trans hg.tape, hx.output.trans hg.output, Nat.le_trans hg.size hx.size, fun j hB hj h1 h2 => (hx.block j hB (Nat.lt_of_lt_of_le hj hg.size) ?_ h2).trans (hg.block j hj h1)⟩
  rcases hr with e | e
  · rw [e]; exact h1
  · rw [e]; intro e; injection e with e; omega

/-- A list of lines, by what its header says. -/
structure LsV where
  q : Option Addr
  c : Nat
  l : List AV

def LsV.val (p : LsV) : Value := .slice p.q p.l.length p.c

/-- The pieces: a row of headers of the call's own. -/
structure OwnP (w : World) (B : Nat) (v : Value) (s : Option Nat) (L : List LsV) : Prop where
  row : w.ownsRow B 22 1 v L.length (L.map LsV.val)
  stay : ∀ p ∈ L, Stays B w v.ownBlock s fun x => RdV x p.q p.l

theorem OwnP.nil (w : World) (B : Nat) (s : Option Nat) : OwnP w B (.slice none 0 0) s [] := ⟨World.ownsRow_nil w B _ _, fun p h => by simp at h⟩

theorem OwnP.other {w w' : World} {B : Nat} {v : Value} {s s' : Option Nat} {L : List LsV} (h : OwnP w B v s L) (hg : w.grownBy w' s) (hne : ∀ k, v.ownBlock = some k → s ≠ some k) (hs : s' = s ∨ s' = some w.heap.size) : OwnP w' B v s' L :=
  ⟨World.ownsRow.kept h.row hg (by
    cases e : v.ownBlock with
    | none => exact Or.inl rfl
    | some k => exact Or.inr (fun q => hne k e q.symm)), fun p hp => ((h.stay p hp).swap.moved hg hs).swap⟩

theorem OwnP.on {w w' : World} {B : Nat} {v : Value} {s : Option Nat} {L : List LsV} (h : OwnP w B v s L) (hb : Below w.heap.size w w') : OwnP w' B v s L :=
  ⟨World.ownsRow.kept h.row (show w.grownBy w' none from ⟨hb.os, hb.tape, hb.output, hb.size, fun k hk _ => hb.block k hk⟩) (by cases v.ownBlock <;> simp), fun p hp => (h.stay p hp).below hb⟩

theorem OwnP.lt {w : World} {B : Nat} {v : Value} {s : Option Nat} {L : List LsV} (h : OwnP w B v s L) : ∀ k, v.ownBlock = some k → B ≤ k ∧ k < w.heap.size := fun k hk => World.ownsRow.lt h.row k hk

theorem rowV_stays {B : Nat} {w : World} {b n : Nat} {L : List AV} {r s : Option Nat} (h : RowV w b n L) (hr : ∀ k, r = some k → k < b) (hs : ∀ k, s = some k → k < b) (hB : B ≤ b) : Stays B w r s fun x => RdV x (some ⟨b, 0, none⟩) L := fun x hx => by
  have far : ∀ p : Addr, b ≤ p.block → ∀ u, w.cell? p = some u → x.cell? p = some u := fun p hp u hu => by
    rw [World.cell?_of_block (hx.block _ (Nat.le_trans hB hp) (World.block_lt_of_cell? w _ hu) (fun e => by have := hr _ e.symm; omega) (fun e => by have := hs _ e.symm; omega))]; exact hu
  refine ⟨fun t ht => ⟨_, rfl, fun j u hu => ?_⟩, fun y hy => ?_⟩
  · rw [addr_add, Nat.zero_add]
    exact far _ (by rw [addr_add]; exact Nat.le_refl b) u (h.at_ t ht j u hu)
  · obtain ⟨g, e, hg, rd⟩ := h.nums y hy
    intro t ht
    obtain ⟨p, e2, c⟩ := rd t ht
    have e3 : p = ⟨g, 0, none⟩ := by rw [e] at e2; injection e2 with e2; exact e2.symm
    exact ⟨p, e2, far _ (by rw [e3, addr_add]; show b ≤ g; omega) _ c⟩

theorem sl_info : (Tryz.prog.info? 22).map (fun i => (i.zero, i.size, i.bytes)) = some (some (.slice none 0 0), 1, 24) := by kernel_rfl

theorem appendP_run {w : World} {B : Nat} {v : Value} {s : Option Nat} {L : List LsV} (hown : OwnP w B v s L) {b c : Nat} {p : LsV} (hy : w.cell? ⟨b, 0, none⟩ = some p.val) (hG : Stays B w v.ownBlock s fun x => RdV x p.q p.l) (hle : L.length + 1 ≤ 1000000) (hB : B ≤ w.heap.size) (ty : TypeId) :
    ∃ v' w', (Builtin.append_ #[46, 46] ty #[v, .slice (some ⟨b, 0, none⟩) 1 c]).run Tryz.prog w = .ok v' w' ∧ OwnP w' B v' s (L ++ [p]) ∧ w.grownBy w' v.ownBlock ∧ (v'.ownBlock = v.ownBlock ∨ v'.ownBlock = some w.heap.size) := by
  obtain ⟨i0, hi, hz0, hz1, hz2⟩ := info_parts sl_info
  obtain ⟨v', w', hr, h2, h3, _, h5⟩ := run_append_own_at (P := Tryz.prog) w B 46 ty 22 i0 (.slice none 0 0) 1 24 Tryz.underlying46 hi hz0 hz1 hz2 (by rfl) (by decide) v L.length _ hown.row ⟨b, 0, none⟩ 1 c [p.val]
    (by simp) (fun j u hu => by
      cases j with
      | zero => simp at hu; rw [addr_add, ← hu]; exact hy
      | succ j => simp at hu) (by intro u hu; rw [List.mem_singleton] at hu; rw [hu]; rfl) (by unfold maxLen; omega) (by omega) hB
  refine ⟨v', w', hr, ⟨?_, fun z hz => ?_⟩, h3, h5⟩
  · rw [List.length_append, List.map_append]; simpa using h2
  · rcases List.mem_append.1 hz with q | q
    · exact (hown.stay z q).moved h3 h5
    · rw [List.mem_singleton] at q
      subst q
      exact hG.moved h3 h5

theorem OwnP.read {w : World} {B : Nat} {v : Value} {s : Option Nat} {L : List LsV} (h : OwnP w B v s L) : ∃ ao cap, v = .slice ao L.length cap ∧ (∀ t, ∀ ht : t < L.length, ∃ a, ao = some a ∧ w.cell? (a.add t) = some L[t].val) ∧ (∀ p ∈ L, RdV w p.q p.l) := by
  have hs : ∀ p ∈ L, RdV w p.q p.l := fun p hp => h.stay p hp w (GrS.refl _ _ _ _)
  rcases h.row.2 with ⟨rfl, hn⟩ | ⟨g, cap, cur, rfl, _⟩
  · exact ⟨none, 0, by rw [hn], fun t ht => by omega, hs⟩
  · refine ⟨_, cap, rfl, fun t ht => ⟨_, rfl, ?_⟩, hs⟩
    have hc := World.ownsRow.cellAt (g := g) (cap := cap) h.row
    rw [addr_add, Nat.zero_add]
    rw [hc t (by simpa using ht)]
    simp [ht]
end Go.Proofs.YtbhaoaobhgilkaaGreat
