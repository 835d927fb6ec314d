/- A part. -/
import Derived.Test.YthjapmdfcbngmaaGreatWr12
import Derived.Test.YthjapmdfcbngmaaGreatWr15
import Derived.Deep.WholeRow
import Derived.Maps.OwnIn
namespace Go.Proofs.YthjapmdfcbngmaaGreat
set_option maxHeartbeats 8000000
open Go.RowKit
def pan (er : Int) : List PanicEntry := [{ v := .iface 26 (.int .i64 er), recovered := false }]
theorem cell_keptK {S : Nat → Prop} {A B : World} (h : Kept S A B) {p : Addr} {v : Value} (hc : A.cell? p = some v) (hs : S p.block) : B.cell? p = some v := by
 rw [World.cell?_of_block (h.block _ (World.block_lt_of_cell? A _ hc) hs)]; exact hc
theorem add_block (p : Addr) (j : Nat) : (p.add j).block = p.block := by unfold Addr.add; split <;> rfl
theorem ne_of_opt {o : Option Nat} {k : Nat} (h : ∀ j, o = some j → j ≠ k) : some k ≠ o := fun e => h k e.symm rfl
theorem grown_cell (w : World) (b : Nat) (v : Value) : w.grownBy (w.setCell ⟨b, 0, none⟩ v) (some b) := ⟨rfl, rfl, rfl, by simp, fun k _ hk => heap_setCell_other w ⟨b, 0, none⟩ k v (fun e => hk (by simp [e]))⟩
theorem grown_none {A B : World} (hb : Below A.heap.size A B) : A.grownBy B none := ⟨hb.os, hb.tape, hb.output, hb.size, fun k hk _ => hb.block k hk⟩
def Bx1 (w : World) (b : Nat) (v : Value) (t : TypeId) : Prop := w.heap[b]? = some (.cells #[v] t (0, 0))
theorem Bx1.made (w : World) (v : Value) (t : TypeId) : Bx1 (w.alloc (.cells #[v] t)) w.heap.size v t := heap_alloc_last w _
theorem Bx1.lt {w : World} {b : Nat} {v : Value} {t : TypeId} (h : Bx1 w b v t) : b < w.heap.size := by
 by_cases e : b < w.heap.size
 · exact e
 · unfold Bx1 at h; rw [Array.getElem?_eq_none (by omega)] at h; cases h
theorem Bx1.cell {w : World} {b : Nat} {v : Value} {t : TypeId} (h : Bx1 w b v t) : w.cell? ⟨b, 0, none⟩ = some v := by rw [cell_of_row w b 0 _ _ _ h]; rfl
theorem Bx1.free {w : World} {b : Nat} {v : Value} {t : TypeId} (h : Bx1 w b v t) : w.frozen? ⟨b, 0, none⟩ = false := frozen_of_row w b 0 _ _ h
theorem Bx1.put {w : World} {b : Nat} {v : Value} {t : TypeId} (h : Bx1 w b v t) (u : Value) : Bx1 (w.setCell ⟨b, 0, none⟩ u) b u t := by
 unfold Bx1
 rw [heap_setCell_same w b _ _ _ _ h]; rfl
theorem Bx1.of_block {w w' : World} {b : Nat} {v : Value} {t : TypeId} (h : Bx1 w b v t) (e : w'.heap[b]? = w.heap[b]?) : Bx1 w' b v t := e.trans h
theorem Bx1.kept {w w' : World} {b : Nat} {v : Value} {t : TypeId} (h : Bx1 w b v t) (hb : Below w.heap.size w w') : Bx1 w' b v t := h.of_block (hb.block b h.lt)
theorem Bx1.keptK {S : Nat → Prop} {A B : World} {b : Nat} {v : Value} {t : TypeId} (h : Bx1 A b v t) (k : Kept S A B) (hs : S b) : Bx1 B b v t := h.of_block (k.block b h.lt hs)
theorem Bx1.grown {w w' : World} {b : Nat} {v : Value} {t : TypeId} {r : Option Nat} (h : Bx1 w b v t) (hg : w.grownBy w' r) (hne : some b ≠ r) : Bx1 w' b v t := h.of_block (hg.block b h.lt hne)
theorem wpAt_block {f : FuncId} {F : Fence} {n : Nat} {P : Program} {id : Nat} {c : Code} {Q : Exit → Act → World → Prop} {a : Act} {w : World} (h : WpAt f F n P c (fun e a w => match e with | .normal => Q .normal a w | .panic ch => Q (.panic ch) a w | _ => False) a w) : WpAt f F n P (.block id c) Q a w := by
 intro b k cs hf hro hb hr
 have hFb : F.fn b.fn := by rw [hf]; exact hb
 have s0 : StepsIn (Machine.fenced P F) P (lone (b.atR a (.code (.block id c) :: k)) cs w) (lone (b.atR a (.code c :: .inBlock id :: k)) cs w) := .one (fenced_calm hFb hr rfl) stepR_block
 obtain ⟨e, a₁, w₁, hq, harr⟩ := h b (.inBlock id :: k) cs hf hro hb hr
 cases e
 case normal => exact ⟨.normal, a₁, w₁, hq, StepsIn.trans s0 (StepsIn.trans harr (.one (fenced_calm hFb hr rfl) stepR_inBlock))⟩
 case panic ch => exact ⟨.panic ch, a₁, w₁, hq, .of_steps s0 harr⟩
 all_goals exact hq.elim
structure ZV where
 N : Int
 a : Option Addr
 c : Nat
 l : List Int
abbrev Zp := Int × List Int
def ZV.p (z : ZV) : Zp := (z.N, z.l)
def ZV.cs (z : ZV) : List Value := [.int .i64 z.N, .slice z.a z.l.length z.c]
def ZV.val (z : ZV) : Value := .agg #[.int .i64 z.N, .slice z.a z.l.length z.c]
def zV (L : List ZV) : List Value := L.flatMap ZV.cs
theorem zV_len (L : List ZV) : (zV L).length = L.length * 2 := by
 unfold zV
 induction L with
 | nil => rfl
 | cons z L ih => rw [List.flatMap_cons, List.length_append, ih]; simp [ZV.cs]; omega
theorem zV_at {L : List ZV} {t : Nat} (ht : t < L.length) {j : Nat} (hj : j < 2) : (zV L)[t * 2 + j]? = (L[t]).cs[j]? := by
 unfold zV
 induction L generalizing t with
 | nil => simp at ht
 | cons y L ih =>
  rw [List.flatMap_cons]
  cases t with
  | zero => rw [List.getElem?_append_left (by simp [ZV.cs]; omega)]; simp
  | succ t =>
   rw [List.getElem?_append_right (by simp [ZV.cs]; omega), show (t + 1) * 2 + j - y.cs.length = t * 2 + j by simp [ZV.cs]; omega]
   simpa using ih (t := t) (by simpa using ht)
theorem zV_app (L : List ZV) (z : ZV) : zV (L ++ [z]) = zV L ++ z.cs := by unfold zV; rw [List.flatMap_append]; simp
def ZAt (B : Nat) (A : World) (z : ZV) : Prop := Arg A z.a z.l ∧ ∀ p, z.a = some p → B ≤ p.block ∧ p.block < A.heap.size
theorem ZAt.low {B B' : Nat} {A : World} {z : ZV} (h : ZAt B A z) (hb : B' ≤ B) : ZAt B' A z := ⟨h.1, fun p e => ⟨Nat.le_trans hb (h.2 p e).1, (h.2 p e).2⟩⟩
theorem ZAt.of {B : Nat} {A A' : World} {z : ZV} (h : ZAt B A z) (hs : A.heap.size ≤ A'.heap.size) (hc : ∀ p, z.a = some p → A'.heap[p.block]? = A.heap[p.block]?) : ZAt B A' z := by
 refine ⟨fun hl => ?_, fun p e => ⟨(h.2 p e).1, Nat.lt_of_lt_of_le (h.2 p e).2 hs⟩⟩
 obtain ⟨a, e, hR⟩ := h.1 hl
 refine ⟨a, e, fun j hj => ?_⟩
 rw [World.cell?_of_block (show A'.heap[(a.add j).block]? = A.heap[(a.add j).block]? by rw [add_block]; exact hc a e)]
 exact hR j hj
theorem ZAt.on {B : Nat} {A A' : World} {z : ZV} (h : ZAt B A z) (hb : Below A.heap.size A A') : ZAt B A' z := h.of hb.size fun p e => hb.block _ (h.2 p e).2
theorem ZAt.keptK {B : Nat} {S : Nat → Prop} {A A' : World} {z : ZV} (h : ZAt B A z) (k : Kept S A A') (hs : ∀ p, z.a = some p → S p.block) : ZAt B A' z := h.of k.size fun p e => k.block _ (h.2 p e).2 (hs p e)
theorem ZAt.grown {B : Nat} {r : Option Nat} {A A' : World} {z : ZV} (h : ZAt B A z) (hg : A.grownBy A' r) (hs : ∀ p, z.a = some p → r ≠ some p.block) : ZAt B A' z := h.of hg.size fun p e => hg.block _ (h.2 p e).2 (fun q => hs p e q.symm)
theorem ZRes.zv {w w' : World} {N : Int} {l : List Int} {er : Int} {e : Ending} (h : ZRes w N l er e w') : Below w.heap.size w w' ∧ ∃ z : ZV, e = .returned (.tuple #[z.val, .int .i64 er]) ∧ ZAt w.heap.size w' z ∧ (er = 0 → z.p = (N, l)) := by
 refine ⟨h.1, ?_⟩
 rcases h.2 with ⟨he, g, c, rfl, hg, hO⟩ | ⟨he, rfl⟩
 · refine ⟨⟨N, some ⟨g, 0, none⟩, c, l⟩, by rw [he]; rfl, ⟨fun _ => ⟨_, rfl, fun j hj => ?_⟩, fun p e => by cases e; exact ⟨hg, hO.lt⟩⟩, fun _ => rfl⟩
   have := World.ownsRow.cells hO (g := g) rfl j (.int .i64 (Zo.gt l j)) (by simp [Zo.gt, hj])
   exact this
 · exact ⟨⟨0, none, 0, []⟩, rfl, ⟨fun q => absurd rfl q, fun p e => by cases e⟩, fun q => absurd q he⟩
def HdAt (A : World) (a : Addr) (j : Nat) (z : ZV) : Prop := A.cell? (a.add (j * 2)) = some (.int .i64 z.N) ∧ A.cell? ⟨(a.add (j * 2)).block, (a.add (j * 2)).off + 1, none⟩ = some (.slice z.a z.l.length z.c)
structure RdZ (B : Nat) (A : World) (go : Option Addr) (L : List ZV) : Prop where
 hd : ∀ t, ∀ h : t < L.length, ∃ p, go = some p ∧ HdAt A p t L[t]
 el : ∀ z ∈ L, ZAt B A z
theorem RdZ.on {B : Nat} {A A' : World} {go : Option Addr} {L : List ZV} (h : RdZ B A go L) (hb : Below A.heap.size A A') : RdZ B A' go L :=
 ⟨fun t ht => by obtain ⟨p, e, c, d⟩ := h.hd t ht; exact ⟨p, e, kept hb c, kept hb d⟩, fun z hz => (h.el z hz).on hb⟩
theorem RdZ.low {B B' : Nat} {A : World} {go : Option Addr} {L : List ZV} (h : RdZ B A go L) (hb : B' ≤ B) : RdZ B' A go L := ⟨h.hd, fun z hz => (h.el z hz).low hb⟩
theorem RdZ.keptK {B : Nat} {S : Nat → Prop} {A A' : World} {go : Option Addr} {L : List ZV} (h : RdZ B A go L) (k : Kept S A A') (hg : ∀ p, go = some p → S p.block) (hs : ∀ z ∈ L, ∀ p, z.a = some p → S p.block) : RdZ B A' go L :=
 ⟨fun t ht => by
  obtain ⟨p, e, c, d⟩ := h.hd t ht
  have q := hg p e
  exact ⟨p, e, cell_keptK k c (by rw [add_block]; exact q), cell_keptK k d (by show S (p.add (t * 2)).block; rw [add_block]; exact q)⟩, fun z hz => (h.el z hz).keptK k (hs z hz)⟩
theorem RdZ.lt {B : Nat} {A : World} {go : Option Addr} {L : List ZV} (h : RdZ B A go L) (hl : 0 < L.length) : ∀ p, go = some p → p.block < A.heap.size := fun p e => by
 obtain ⟨p', e', c, _⟩ := h.hd 0 hl
 rw [e] at e'; cases e'
 have := World.block_lt_of_cell? A _ c
 rwa [add_block] at this
structure OwnZ (R B : Nat) (A : World) (v : Value) (L : List ZV) : Prop where
 row : A.ownsRow R 36 2 v L.length (zV L)
 el : ∀ z ∈ L, ZAt B A z
 far : ∀ z ∈ L, ∀ p, z.a = some p → v.ownBlock ≠ some p.block
theorem OwnZ.nil (R B : Nat) (A : World) : OwnZ R B A (.slice none 0 0) [] := ⟨World.ownsRow_nil A R _ _, fun z h => by simp at h, fun z h => by simp at h⟩
theorem OwnZ.read {R B : Nat} {A : World} {v : Value} {L : List ZV} (h : OwnZ R B A v L) : ∃ ao cap, v = .slice ao L.length cap ∧ RdZ B A ao L ∧ (∀ p, ao = some p → R ≤ p.block ∧ p.block < A.heap.size) := by
 rcases h.row.2 with ⟨rfl, hn⟩ | ⟨g, cap, cur, rfl, hb, hg, hc, hm, hsz, htake⟩
 · exact ⟨none, 0, by rw [hn], ⟨fun t ht => by omega, h.el⟩, fun a h => by cases h⟩
 · refine ⟨_, cap, rfl, ⟨fun t ht => ⟨_, rfl, ?_, ?_⟩, h.el⟩, fun a e => by cases e; exact ⟨hb, (World.ownsRow.lt h.row g rfl).2⟩⟩
   · have hc := World.ownsRow.cellAt (g := g) (cap := cap) h.row
     rw [addr_add]
     exact (hc (t * 2) (by omega)).trans (zV_at (j := 0) ht (by omega))
   · have hc := World.ownsRow.cellAt (g := g) (cap := cap) h.row
     rw [addr_add]
     exact (hc (t * 2 + 1) (by omega)).trans (zV_at (j := 1) ht (by omega))
theorem OwnZ.form {R B : Nat} {A : World} {v : Value} {L : List ZV} (h : OwnZ R B A v L) : ∃ ao cap, v = .slice ao L.length cap := by
 obtain ⟨ao, cap, e, _⟩ := h.read
 exact ⟨ao, cap, e⟩
theorem OwnZ.on {R B : Nat} {A A' : World} {v : Value} {L : List ZV} (h : OwnZ R B A v L) (hb : Below A.heap.size A A') : OwnZ R B A' v L :=
 ⟨World.ownsRow.kept h.row (grown_none hb) (by cases v.ownBlock <;> simp), fun z hz => (h.el z hz).on hb, h.far⟩
theorem OwnZ.low {R R' B B' : Nat} {A : World} {v : Value} {L : List ZV} (h : OwnZ R B A v L) (hr : R' ≤ R) (hb : B' ≤ B) : OwnZ R' B' A v L := by
 refine ⟨⟨h.row.1, ?_⟩, fun z hz => (h.el z hz).low hb, h.far⟩
 rcases h.row.2 with c | ⟨g, cap, cur, h1, h2, h3⟩
 · exact Or.inl c
 · exact Or.inr ⟨g, cap, cur, h1, by omega, h3⟩
theorem OwnZ.grown {R B : Nat} {r : Option Nat} {A A' : World} {v : Value} {L : List ZV} (h : OwnZ R B A v L) (hg : A.grownBy A' r) (hv : ∀ k, v.ownBlock = some k → r ≠ some k) (hs : ∀ z ∈ L, ∀ p, z.a = some p → r ≠ some p.block) : OwnZ R B A' v L :=
 ⟨World.ownsRow.kept h.row hg (by
  cases e : v.ownBlock with
  | none => exact Or.inl rfl
  | some k => exact Or.inr (fun q => hv k e q.symm)), fun z hz => (h.el z hz).grown hg (hs z hz), h.far⟩
theorem OwnZ.keptK {R B : Nat} {S : Nat → Prop} {A A' : World} {v : Value} {L : List ZV} (h : OwnZ R B A v L) (k : Kept S A A') (hv : ∀ j, v.ownBlock = some j → S j) (hs : ∀ z ∈ L, ∀ p, z.a = some p → S p.block) : OwnZ R B A' v L := by
 refine ⟨⟨h.row.1, ?_⟩, fun z hz => (h.el z hz).keptK k (hs z hz), h.far⟩
 rcases h.row.2 with q | ⟨g, cap, cur, rfl, hb, hg, hr⟩
 · exact Or.inl q
 · refine Or.inr ⟨g, cap, cur, rfl, hb, ?_, hr⟩
   have lt : g < A.heap.size := by
    by_cases e : g < A.heap.size
    · exact e
    · rw [Array.getElem?_eq_none (by omega)] at hg; cases hg
   rw [k.block g lt (hv g rfl)]; exact hg
theorem OwnZ.lt {R B : Nat} {A : World} {v : Value} {L : List ZV} (h : OwnZ R B A v L) : ∀ k, v.ownBlock = some k → R ≤ k ∧ k < A.heap.size := fun k hk => World.ownsRow.lt h.row k hk
theorem zone_info : (Tryz.prog.info? 36).map (fun i => (i.zero, i.size, i.bytes)) = some (some (.agg #[.int .i64 0, .slice none 0 0]), 2, 32) := by kernel_rfl
theorem appendZ_run {R B : Nat} {w : World} {v : Value} {L : List ZV} (hown : OwnZ R B w v L) {b c : Nat} {z : ZV} (h0 : w.cell? ⟨b, 0, none⟩ = some (.int .i64 z.N)) (h1 : w.cell? ⟨b, 1, none⟩ = some (.slice z.a z.l.length z.c)) (hG : ZAt B w z) (hF : ∀ p, z.a = some p → v.ownBlock ≠ some p.block)
  (hle : L.length + 1 ≤ 1000000) (hB : R ≤ w.heap.size) (ty : TypeId) :
  ∃ v' w', (Builtin.append_ #[22, 22] ty #[v, .slice (some ⟨b, 0, none⟩) 1 c]).run Tryz.prog w = .ok v' w' ∧ OwnZ R B w' v' (L ++ [z]) ∧ w.grownBy w' v.ownBlock ∧ (v'.ownBlock = v.ownBlock ∨ v'.ownBlock = some w.heap.size) := by
 obtain ⟨i0, hi, hz0, hz1, hz2⟩ := info_parts zone_info
 obtain ⟨v', w', hr, h2, h3, _, h5⟩ := run_append_own_at (P := Tryz.prog) w R 22 ty 36 i0 (.agg #[.int .i64 0, .slice none 0 0]) 2 32 Tryz.underlying22 hi hz0 hz1 hz2 (by rfl) (by decide) v L.length _ hown.row ⟨b, 0, none⟩ 1 c z.cs
  (by simp [ZV.cs]) (fun j u hu => by
   match j, hu with
   | 0, hu => simp [ZV.cs] at hu; rw [addr_add, ← hu]; exact h0
   | 1, hu => simp [ZV.cs] at hu; rw [addr_add, ← hu]; exact h1) (by intro u hu; simp [ZV.cs] at hu; rcases hu with rfl | rfl <;> rfl) (by unfold maxLen; omega) (by omega) hB
 have hA : ∀ x ∈ L ++ [z], ZAt B w x ∧ ∀ p, x.a = some p → v.ownBlock ≠ some p.block := fun x hx => by
  rcases List.mem_append.1 hx with q | q
  · exact ⟨hown.el x q, hown.far x q⟩
  · rw [List.mem_singleton] at q; subst q; exact ⟨hG, hF⟩
 refine ⟨v', w', hr, ⟨?_, fun x hx => (hA x hx).1.grown h3 (hA x hx).2, fun x hx p e => ?_⟩, h3, h5⟩
 · rw [zV_app, List.length_append]; simpa using h2
 · rcases h5 with h5 | h5
   · rw [h5]; exact (hA x hx).2 p e
   · rw [h5]; intro q; injection q with q; have := ((hA x hx).1.2 p e).2; omega
section
variable {F : Fence} {n : Nat} {ops : Array Oper} {rest : List Oper} {o : Oper} {a : Act} {w : World} {Q : Exit → Act → World → Prop}
theorem inl_appZ (hgd : o.guard = none) (s x : Operand) (ho : o.op = .call { callee := .builtin .append, args := #[s, x], argTypes := #[22, 22] }) (R B : Nat) (v : Value) (L : List ZV) (z : ZV) (hs : a.eval s = v) (hown : OwnZ R B w v L) (b c : Nat) (hx : a.eval x = .slice (some ⟨b, 0, none⟩) 1 c)
  (h0 : w.cell? ⟨b, 0, none⟩ = some (.int .i64 z.N)) (h1 : w.cell? ⟨b, 1, none⟩ = some (.slice z.a z.l.length z.c)) (hG : ZAt B w z) (hF : ∀ p, z.a = some p → v.ownBlock ≠ some p.block)
  (hle : L.length + 1 ≤ 1000000) (hB : R ≤ w.heap.size) (h : ∀ v' w', OwnZ R B w' v' (L ++ [z]) → w.grownBy w' v.ownBlock → (v'.ownBlock = v.ownBlock ∨ v'.ownBlock = some w.heap.size) → wpListIn F n Tryz.prog ops Q rest (a.put o.dst v') w') : wpListIn F n Tryz.prog ops Q (o :: rest) a w := by
 obtain ⟨v', w', hr, h1, h2, h3⟩ := appendZ_run hown h0 h1 hG hF hle hB (c := c) o.type
 have hk := h v' w' h1 h2 h3
 refine wpListIn_plain hgd fun K hK => ?_
 unfold Oper.wpIn
 refine ⟨by simp [Oper.about, ho, resolve, Target.leads, Sem.run_pure], ?_⟩
 rw [Oper.semAt_plain F _ _ (by rw [ho]; intro c hc'; cases hc')]
 simp [execOp, ho, resolve, invoke, builtin, hs, hx, hr, Result.andThen]
 exact hK _ _ hk
end
attribute [local go_sem] Oper.semAt_some
def VzA (B : Nat) (x : Zp) (args : Array Value) (A : World) : Prop := ∃ z : ZV, args = #[z.val] ∧ z.p = x ∧ ZAt B A z
def giftZ (args : Array Value) (k : Nat) : Prop := ∃ z : ZV, args = #[z.val] ∧ ∃ p, z.a = some p ∧ p.block = k
theorem giftZ_of {z : ZV} {k : Nat} (h : giftZ #[z.val] k) : ∃ p, z.a = some p ∧ p.block = k := by
 obtain ⟨z', e, p, h1, h2⟩ := h
 simp only [ZV.val, Array.mk.injEq, List.cons.injEq, Value.agg.injEq, Value.slice.injEq, and_true] at e
 exact ⟨p, by rw [e.2.1]; exact h1, h2⟩
def SeqZ (B : Nat) (w : World) (gf : Nat) (lb : Array Value) (xs : List Zp) (er : Int) : Prop :=
 ∀ W T0, Kept (fun _ => True) w W → (∀ k, T0 k → w.heap.size ≤ k) → SeqG Tryz.prog gf lb (VzA B) giftZ w.heap.size xs (if er = 0 then none else some (pan er)) W T0
def colE (xs : List Zp) (er : Int) : Int := if 2000 < xs.length then 3 else er
def ColRes (B : Nat) (w : World) (xs : List Zp) (er : Int) (e : Ending) (w' : World) : Prop :=
 Below w.heap.size w w' ∧ ((er = 0 ∧ ∃ v L, e = .returned v ∧ L.map ZV.p = xs ∧ OwnZ w.heap.size B w' v L) ∨ (er ≠ 0 ∧ e = .panicked (pan er)))
structure CoI (w : World) (B bl : Nat) (pre : List Zp) (T : Nat → Prop) (A : World) (v : Value) (L : List ZV) : Prop where
 own : OwnZ w.heap.size B A v L
 pr : L.map ZV.p = pre
 bx : Bx1 A bl v 22
 be : Below w.heap.size w A
 tl : T bl
 tv : ∀ k, v.ownBlock = some k → T k ∧ k ≠ bl
 tz : ∀ z ∈ L, ∀ p, z.a = some p → (p.block < w.heap.size ∨ T p.block) ∧ p.block ≠ bl
 lt : ∀ k, T k → k < A.heap.size ∧ w.heap.size ≤ k ∧ k ≠ w.heap.size + 1
 len : pre.length ≤ 2000
section
variable {w A B' : World} {B bl D : Nat} {pre : List Zp} {T : Nat → Prop} {v : Value} {L : List ZV}
theorem CoI.stay (h : CoI w B bl pre T A v L) {S : Nat → Prop} (k : Kept S A B') (hS : ∀ k, k < w.heap.size ∨ T k → S k) : CoI w B bl pre T B' v L :=
 ⟨h.own.keptK k (fun j e => hS _ (Or.inr (h.tv j e).1)) (fun z hz p e => hS _ (h.tz z hz p e).1), h.pr, h.bx.keptK k (hS _ (Or.inr h.tl)),
  h.be.trans (k.below w.heap.size h.be.size fun _j hj => hS _ (Or.inl hj)), h.tl, h.tv, h.tz, fun j q => ⟨Nat.lt_of_lt_of_le (h.lt j q).1 k.size, (h.lt j q).2⟩, h.len⟩
theorem CoI.on (h : CoI w B bl pre T A v L) (k : Below A.heap.size A B') : CoI w B bl pre T B' v L := h.stay (S := fun _ => True) (Kept.of_below k _) fun _ _ => trivial
theorem CoI.more (h : CoI w B bl pre T A v L) {S : Nat → Prop} (hs : ∀ k, S k → k < A.heap.size ∧ w.heap.size ≤ k ∧ k ≠ w.heap.size + 1) : CoI w B bl pre (fun k => T k ∨ S k) A v L :=
 ⟨h.own, h.pr, h.bx, h.be, Or.inl h.tl, fun k e => ⟨Or.inl (h.tv k e).1, (h.tv k e).2⟩, fun z hz p e => ⟨(h.tz z hz p e).1.imp id Or.inl, (h.tz z hz p e).2⟩, fun k q => q.elim (h.lt k) (hs k), h.len⟩
theorem CoI.app (h : CoI w B bl pre T A v L) {z : ZV} {v' : Value} (ho : OwnZ w.heap.size B B' v' (L ++ [z])) (hg : A.grownBy B' v.ownBlock) (hf : v'.ownBlock = v.ownBlock ∨ v'.ownBlock = some A.heap.size) (hz : ∀ p, z.a = some p → p.block ≠ bl ∧ p.block < A.heap.size ∧ p.block ≠ w.heap.size + 1) (hsz : w.heap.size + 1 < A.heap.size) (hl : pre.length < 2000) :
  CoI w B bl (pre ++ [z.p]) (fun k => k = bl ∨ v'.ownBlock = some k ∨ (w.heap.size ≤ k ∧ ∃ y ∈ L ++ [z], ∃ p, y.a = some p ∧ p.block = k)) (B'.setCell ⟨bl, 0, none⟩ v') v' (L ++ [z]) := by
 have lb := h.bx.lt
 have gv : ∀ k, v'.ownBlock = some k → k ≠ bl ∧ w.heap.size ≤ k ∧ k ≠ w.heap.size + 1 := by
  intro k e
  rcases hf with f | f
  · rw [f] at e
    have := h.tv k e
    exact ⟨this.2, (h.lt k this.1).2⟩
  · rw [f] at e; cases e
    have := h.be.size
    exact ⟨by omega, by omega, by omega⟩
 have nz : ∀ y ∈ L ++ [z], ∀ p, y.a = some p → p.block ≠ bl ∧ p.block < B'.heap.size ∧ p.block ≠ w.heap.size + 1 := fun y hy p e => by
  have q0 := ((ho.el y hy).2 p e).2
  rcases List.mem_append.1 hy with q | q
  · refine ⟨(h.tz y q p e).2, q0, ?_⟩
    rcases (h.tz y q p e).1 with r | r
    · omega
    · exact (h.lt _ r).2.2
  · rw [List.mem_singleton] at q; subst q; exact ⟨(hz p e).1, q0, (hz p e).2.2⟩
 have hb := h.be.size
 refine ⟨ho.grown (grown_cell B' bl v') (fun k e q => by injection q with q; exact (gv k e).1 q.symm) (fun y hy p e q => by injection q with q; exact (nz y hy p e).1 q.symm), by rw [List.map_append, h.pr]; rfl,
  (h.bx.grown hg (ne_of_opt fun j e => (h.tv j e).2)).put _, (Below.grown h.be hg h.be.size (fun k hk => (h.own.lt k hk).1)).setCell (p := ⟨bl, 0, none⟩) (h.lt _ h.tl).2.1 _, Or.inl rfl, fun k e => ⟨Or.inr (Or.inl e), (gv k e).1⟩, ?_, ?_, ?_⟩
 · intro y hy p e
   refine ⟨?_, (nz y hy p e).1⟩
   by_cases q : p.block < w.heap.size
   · exact Or.inl q
   · exact Or.inr (Or.inr (Or.inr ⟨by omega, y, hy, p, e, rfl⟩))
 · rintro k (q | q | ⟨q, y, hy, p, e, rfl⟩)
   · subst q; exact ⟨by have := hg.size; simp; omega, (h.lt _ h.tl).2⟩
   · exact ⟨by simpa using (ho.lt k q).2, (gv k q).2⟩
   · exact ⟨by simpa using (nz y hy p e).2.1, q, (nz y hy p e).2.2⟩
 · rw [List.length_append]; simp; omega
theorem CoI.app_kept (h : CoI w B bl pre T A v L) (hg : A.grownBy B' v.ownBlock) (v' : Value) : Kept (fun k => ¬ T k) A (B'.setCell ⟨bl, 0, none⟩ v') :=
 have k1 : Kept (fun k => ¬ T k) A B' := ⟨hg.os, hg.tape, hg.output, hg.size, fun k hk q => hg.block k hk (fun e => q (h.tv k e.symm).1)⟩
 have g := grown_cell B' bl v'
 k1.trans ⟨g.os, g.tape, g.output, g.size, fun k hk q => g.block k hk (fun e => by injection e with e; exact q (e ▸ h.tl))⟩
end
def Bx2 (w : World) (b : Nat) (u v : Value) (t : TypeId) : Prop := w.heap[b]? = some (.cells #[u, v] t (0, 0))
theorem Bx2.lt {w : World} {b : Nat} {u v : Value} {t : TypeId} (h : Bx2 w b u v t) : b < w.heap.size := by
 by_cases e : b < w.heap.size
 · exact e
 · unfold Bx2 at h; rw [Array.getElem?_eq_none (by omega)] at h; cases h
theorem Bx2.made (w : World) (u v : Value) (t : TypeId) : Bx2 (w.alloc (.cells #[u, v] t)) w.heap.size u v t := heap_alloc_last w _
theorem Bx2.of_block {w w' : World} {b : Nat} {u v : Value} {t : TypeId} (h : Bx2 w b u v t) (e : w'.heap[b]? = w.heap[b]?) : Bx2 w' b u v t := e.trans h
theorem Bx2.kept {w w' : World} {b : Nat} {u v : Value} {t : TypeId} (h : Bx2 w b u v t) (hb : Below w.heap.size w w') : Bx2 w' b u v t := h.of_block (hb.block b h.lt)
theorem Bx2.keptK {S : Nat → Prop} {A B : World} {b : Nat} {u v : Value} {t : TypeId} (h : Bx2 A b u v t) (k : Kept S A B) (hs : S b) : Bx2 B b u v t := h.of_block (k.block b h.lt hs)
theorem Bx2.put {w : World} {b : Nat} {u v : Value} {t : TypeId} (h : Bx2 w b u v t) (u' v' : Value) : Bx2 ((w.setCell ⟨b, 0, none⟩ u').setCell ⟨b, 1, none⟩ v') b u' v' t := by
 have h1 : (w.setCell ⟨b, 0, none⟩ u').heap[b]? = some (.cells #[u', v] t (0, 0)) := by rw [heap_setCell_same w b _ _ _ _ h]; rfl
 unfold Bx2
 rw [heap_setCell_same _ b _ _ _ _ h1]; rfl
theorem Bx2.facts {w : World} {b : Nat} {u v : Value} {t : TypeId} (h : Bx2 w b u v t) : w.cell? ⟨b, 0, none⟩ = some u ∧ w.cell? ⟨b, 1, none⟩ = some v ∧ w.frozen? ⟨b, 0, none⟩ = false ∧ w.frozen? ⟨b, 1, none⟩ = false :=
 ⟨by rw [cell_of_row w b 0 _ _ _ h]; rfl, by rw [cell_of_row w b 1 _ _ _ h]; rfl, frozen_of_row w b 0 _ _ h, frozen_of_row w b 1 _ _ h⟩
theorem Bx2.grown {w w' : World} {b : Nat} {u v : Value} {t : TypeId} {r : Option Nat} (h : Bx2 w b u v t) (hg : w.grownBy w' r) (hne : some b ≠ r) : Bx2 w' b u v t := h.of_block (hg.block b h.lt hne)
theorem below_put2 {X w : World} {n b : Nat} (h : Below n X w) (hb : n ≤ b) (u v : Value) : Below n X ((w.setCell ⟨b, 0, none⟩ u).setCell ⟨b, 1, none⟩ v) := (h.setCell (p := ⟨b, 0, none⟩) hb u).setCell (p := ⟨b, 1, none⟩) hb v
structure CoA (w : World) (B bl D : Nat) (pre : List Zp) (z : ZV) (T : Nat → Prop) (A : World) (v : Value) (L : List ZV) (q : Nat) : Prop where
 i : CoI w B bl pre T A v L
 b : Bx2 A q (.int .i64 z.N) (.slice z.a z.l.length z.c) 36
 tq : T q
 za : ZAt B A z
 far : ∀ p, z.a = some p → ¬ T p.block ∧ (p.block < w.heap.size ∨ D ≤ p.block)
 sz : D ≤ A.heap.size
set_option maxRecDepth 100000 in
theorem fcollect_any (gf : Nat) (lb : Array Value) (B : Nat) (xs : List Zp) (er : Int) (w : World) (eg : ∀ args w, (callFunc gf args).run Tryz.prog w = .ok (.enter gf args) w) (hs : SeqZ B w gf lb xs er) :
  Calls Tryz.prog 60 #[.func (.func gf) #[] lb] w (ColRes B w xs (colE xs er)) := by
 have HS := Lib.hid hs
 obtain ⟨bl, hbl⟩ : ∃ bl, bl = w.heap.size := ⟨_, rfl⟩
 obtain ⟨w1, hw1⟩ : ∃ w1, w1 = w.alloc (.cells #[.slice none 0 0] 22) := ⟨_, rfl⟩
 have E0 := Lib.hid (show Below w.heap.size w w1 by rw [hw1]; exact one_more _)
 have X0 := Lib.hid (show Bx1 w1 bl (.slice none 0 0) 22 by rw [hw1, hbl]; exact Bx1.made w _ _)
 have Z1 := Lib.hid (show w1.heap.size = w.heap.size + 1 by rw [hw1]; simp)
 clear hs
 refine (callsIn_wide (n := 10)).1 (callsIn_of_wpAt Tryz.func60 rfl trivial rfl ?_)
 simp only [Tryz.ntmps60, List.size_toArray, List.length_cons, List.length_nil, Nat.reduceAdd, Nat.reduceSub, Array.replicate_succ, Array.replicate_zero, List.push_toArray, List.append_toArray, List.nil_append, List.cons_append]
 refine wpAt_seq (wpAt_of_wpIn (wpIn_wide.2 ?_))
 go_wp2_with fail
 show WpAt _ _ _ _ _ _ _ _
 refine wpAt_seq (wpAt_of_wpIn (wpIn_wide.2 ?_))
 go_wp2_with fail
 show WpAt _ _ _ _ _ _ _ _
 rw [← hw1, ← hbl]
 refine wpAt_seq (wpAt_seq (wpAt_of_wpIn (wpIn_wide.2 ?_)))
 go_wp2_with fail
 show WpAt _ _ _ _ _ _ _ _
 have HBL := Lib.hid hbl
 clear hw1 hbl
 refine wpAt_block (wpAt_rangeG Tryz.func60 rfl eg (V := VzA B) (gift := giftZ) (n₀ := w.heap.size) (xs := xs) (er := if er = 0 then none else some (pan er)) (fun x args A h => by obtain ⟨z, rfl, _⟩ := h; rfl)
  (fun pre T A => ∃ v L, CoI w B bl pre T A v L)
  (fun chain A => chain = pan 3 ∧ 2000 < xs.length ∧ Below w.heap.size w A)
  (fun pre x args T a' A => ∃ q z v L, args = #[z.val] ∧ z.p = x ∧ a' = { tmps := #[.func (.func gf) #[] lb, undef, .slice none 0 0, .pointer (some ⟨bl, 0, none⟩), .pointer (some ⟨q, 0, none⟩), .func (.func gf) #[] lb, z.val, undef, undef, undef, undef, undef, undef, undef, undef, undef], defers := [] } ∧ CoA w B bl (w1.heap.size + 2) pre z T A v L q)
  (fun k => k = bl) ?hst ?hsA ?hT ?hIp ?h0 ?hseq ?hassign ?hbody ?hdone ?hpan ?hown)
 case hst =>
  rintro pre T A B' ⟨v, L, h⟩ k
  have z1 := Z1.out
  exact ⟨v, L, h.stay k fun j q => q.imp (fun q => by omega) id⟩
 case hsA =>
  rintro pre x args T a' A B' ⟨q, z, v, L, e1, e2, e3, h⟩ k
  have z1 := Z1.out
  refine ⟨q, z, v, L, e1, e2, e3, h.i.stay k fun j q => q.elim (fun q => Or.inl (by omega)) (fun q => Or.inr (Or.inl q)), h.b.keptK k (Or.inr (Or.inl h.tq)), h.tq, h.za.keptK k (fun p e => ?_), h.far, Nat.le_trans h.sz k.size⟩
  exact Or.inr (Or.inr ⟨⟨z, e1, p, e, rfl⟩, by have := (h.far p e).2; omega⟩)
 case hT =>
  rintro pre T A ⟨v, L, h⟩ k q
  exact (h.lt k q).1
 case hIp =>
  rintro chain A B' ⟨h1, h2, h3⟩ k
  have z1 := Z1.out
  exact ⟨h1, h2, h3.trans (k.below w.heap.size h3.size fun j hj => by omega)⟩
 case h0 =>
  exact ⟨_, [], ⟨OwnZ.nil _ _ _, rfl, X0.out, E0.out, rfl, (fun k e => by cases e), (fun z hz => by simp at hz), (fun k q => by rw [q]; have := HBL.out; exact ⟨X0.out.lt, by omega, by omega⟩), by simp⟩⟩
 case hseq =>
  intro W k z
  exact HS.out W _ ((Kept.of_below E0.out _).trans k) (fun k q => by have := HBL.out; have := Z1.out; rcases q with q | q <;> omega)
 case hassign =>
  rintro lp pre x args T A K ⟨v, L, h⟩ hsz hpx ⟨z, rfl, hz, hza⟩ hG hK
  have SZ := Lib.hid hsz
  have HK := Lib.hid hK
  have HI := Lib.hid h
  have HG := Lib.hid hG
  have HZ := Lib.hid hza
  clear hK h hG hza hsz
  have N2 := Lib.hid (Bx2.made A (.int .i64 z.N) (.slice z.a z.l.length z.c) 36)
  have B2 := Lib.hid (one_more (w1 := A) (.cells #[.int .i64 z.N, .slice z.a z.l.length z.c] 36))
  simp only [ZV.val]
  gi_wp2_with fail
  have lw := HI.out.be.size
  have sz := SZ.out
  have z1 := Z1.out
  refine HK.out _ _ (fun k => T k ∨ k = A.heap.size) ⟨A.heap.size, z, v, L, rfl, hz, rfl, (HI.out.on B2.out).more ?_, N2.out, Or.inr rfl, HZ.out.on B2.out, (fun p e => ?_), by have := B2.out.size; omega⟩ (Kept.of_below B2.out _) ?_
  · rintro k rfl; exact ⟨N2.out.lt, lw, by omega⟩
  · have := HG.out p.block ⟨z, rfl, p, e, rfl⟩
    refine ⟨fun q => q.elim this.2.1 (fun q => by omega), ?_⟩
    exact this.2.2.2
  · rintro k (q | q)
    · exact Or.inl q
    · right; omega
 case hbody =>
  rintro lp pre x args T a' A ⟨q, z, v, L, rfl, hz, rfl, hA⟩ hpx
  have HX := Lib.hid hpx.length_le
  have HA := Lib.hid hA
  obtain ⟨ao, cap, ev⟩ := hA.i.own.form
  obtain ⟨n, hn⟩ : ∃ n, n = L.length := ⟨_, rfl⟩
  have HN := Lib.hid (show n = pre.length by rw [hn, ← hA.i.pr, List.length_map])
  rw [← hn] at ev
  have hn2 : n ≤ 2000 := by have := hA.i.len; have := HN.out; omega
  have c0 : A.cell? ⟨bl, 0, none⟩ = some (.slice ao n cap) := by rw [← ev]; exact hA.i.bx.cell
  obtain ⟨b0, b1, _, _⟩ := hA.b.facts
  have HL := Lib.hid hn
  subst ev
  have HZ := Lib.hid hz
  clear hA hn hpx hz
  by_cases hq : n = 2000
  · have hq' : (n : Int) = 2000 := by omega
    gi_wp2_with fail
    refine ⟨⟨rfl, ?_, HA.out.i.be⟩, Kept.refl _ _⟩
    have h1 := HX.out
    have h2 := HN.out
    rw [List.length_append, List.length_singleton] at h1
    omega
  · have hq' : ¬ (n : Int) = 2000 := by omega
    have B2 := Lib.hid (one_more (w1 := A) (.cells #[.int .i64 z.N, .slice z.a z.l.length z.c] 36))
    have H2 := Lib.hid (HA.out.i.on B2.out)
    have Z2 := Lib.hid (HA.out.za.on B2.out)
    have z2 : w.heap.size ≤ (A.alloc (.cells #[.int .i64 z.N, .slice z.a z.l.length z.c] 36)).heap.size := H2.out.be.size
    have hL : L.length + 1 ≤ 1000000 := by have := HL.out; omega
    gi_wp2_with (refine inl_appZ rfl _ _ rfl w.heap.size B _ L z rfl H2.out.own _ _ rfl (by go_simp) (by go_simp) Z2.out (fun p e q => (HA.out.far p e).1 (HA.out.i.tv _ q).1) hL z2 ?_)
    intro v' A3 o3 g3 f3
    have FZ := Lib.hid (show ∀ p, z.a = some p → p.block ≠ bl ∧ p.block < (A.alloc (.cells #[.int .i64 z.N, .slice z.a z.l.length z.c] 36)).heap.size ∧ p.block ≠ w.heap.size + 1 from fun p e => ⟨fun q => (HA.out.far p e).1 (q ▸ HA.out.i.tl), (Z2.out.2 p e).2, by have := (HA.out.far p e).2; have := Z1.out; omega⟩)
    have H3 := Lib.hid (H2.out.app o3 g3 (by rw [World.size_alloc]; exact f3) FZ.out (by have := HA.out.sz; have := Z1.out; have := B2.out.size; omega) (by have := HN.out; omega))
    have K3 := Lib.hid ((Kept.of_below B2.out (fun k => ¬ T k)).trans (H2.out.app_kept g3 v'))
    have b3 := H2.out.bx.grown g3 (ne_of_opt fun j e => (H2.out.tv j e).2)
    have S3 := Lib.hid (show ∀ k, (k = bl ∨ v'.ownBlock = some k ∨ (w.heap.size ≤ k ∧ ∃ y ∈ L ++ [z], ∃ p, y.a = some p ∧ p.block = k)) → T k ∨ A.heap.size ≤ k ∨ (giftZ #[z.val] k ∧ w1.heap.size + 2 ≤ k) from by
     rintro k (q | q | ⟨q, y, hy, p, e, rfl⟩)
     · rw [q]; exact Or.inl HA.out.i.tl
     · rcases f3 with f | f
       · rw [f] at q; exact Or.inl (H2.out.tv k q).1
       · rw [f] at q; cases q; have := B2.out.size; right; left; omega
     · rcases List.mem_append.1 hy with r | r
       · rcases (HA.out.i.tz y r p e).1 with s | s
         · omega
         · exact Or.inl s
       · rw [List.mem_singleton] at r
         subst r
         have := (HA.out.far p e).2
         right; right
         exact ⟨⟨y, rfl, p, e, rfl⟩, by omega⟩)
    obtain ⟨a3, k3, e3⟩ := o3.form
    obtain ⟨m3, hm3⟩ : ∃ m3, m3 = (L ++ [z]).length := ⟨_, rfl⟩
    rw [← hm3] at e3
    subst e3
    have y1 := b3.cell
    have y2 := b3.free
    clear o3 g3 f3 b3 hm3
    gi_wp2_with fail
    have h3 := H3.out
    rw [HZ.out] at h3
    exact ⟨_, ⟨_, _, h3⟩, K3.out, S3.out⟩
 case hdone =>
  rintro T A he ⟨v, L, h⟩ hD
  have e0 : er = 0 := by
   by_cases e : er = 0
   · exact e
   · rw [if_neg e] at he; cases he
  show WpAt _ _ _ _ _ _ _ _
  have CE := Lib.hid (show colE xs er = 0 by unfold colE; rw [if_neg (by have := h.len; omega), e0])
  have c9 : A.cell? ⟨bl, 0, none⟩ = some v := h.bx.cell
  have HI := Lib.hid h
  have HD := Lib.hid hD
  have ld : w1.heap.size < A.heap.size := by
   by_cases e : w1.heap.size < A.heap.size
   · exact e
   · rw [Array.getElem?_eq_none (by omega)] at hD; cases hD
  clear h hD
  refine wpAt_of_wpIn (wpIn_wide.2 ?_)
  go_wp2_with fail
  refine ⟨by simp, Or.inl ⟨_, _, rfl, run_takeDeferred HD.out, ?_⟩⟩
  have hb := HI.out.be
  have KD := Kept.putObj (S := fun k => k ≠ w1.heap.size) A (.deferred none) (fun q => q rfl)
  refine ⟨_, results_tmp rfl _ _ _, hb.trans (KD.below w.heap.size hb.size (fun k hk => by have := Z1.out; show k ≠ w1.heap.size; omega)), Or.inl ⟨CE.out, v, L, rfl, HI.out.pr, ?_⟩⟩
  have hx := HI.out
  exact hx.own.keptK KD (fun k e => by have := (hx.lt k (hx.tv k e).1).2.2; have := Z1.out; show k ≠ w1.heap.size; omega) (fun z hz p e => by
   have := Z1.out
   show p.block ≠ w1.heap.size
   rcases (hx.tz z hz p e).1 with q | q
   · omega
   · have := (hx.lt _ q).2.2; omega)
 case hpan =>
  rintro chain A ⟨rfl, he, hb⟩ hD
  have CE := Lib.hid (show colE xs er = 3 by unfold colE; rw [if_pos he])
  refine ⟨by simp, Or.inl ⟨_, _, rfl, run_takeDeferred hD, ?_, Or.inr ⟨by rw [CE.out]; decide, by rw [CE.out]⟩⟩⟩
  exact hb.trans ((Kept.putObj (S := fun k => k ≠ w1.heap.size) A _ (fun q => q rfl)).below w.heap.size hb.size (fun k hk => by have := Z1.out; show k ≠ w1.heap.size; omega))
 case hown =>
  rintro chain T A he ⟨v, L, h⟩ hD
  have e0 : er ≠ 0 ∧ chain = pan er := by
   by_cases e : er = 0
   · rw [if_pos e] at he; cases he
   · rw [if_neg e] at he; injection he with he; exact ⟨e, he.symm⟩
  have CE := Lib.hid (show colE xs er = er by unfold colE; rw [if_neg (by have := h.len; omega)])
  have hb := h.be
  obtain ⟨e1, rfl⟩ := e0
  refine ⟨by simp, Or.inl ⟨_, _, rfl, run_takeDeferred hD, ?_, Or.inr ⟨by rw [CE.out]; exact e1, by rw [CE.out]⟩⟩⟩
  exact hb.trans ((Kept.putObj (S := fun k => k ≠ w1.heap.size) A _ (fun q => q rfl)).below w.heap.size hb.size (fun k hk => by have := Z1.out; show k ≠ w1.heap.size; omega))
end Go.Proofs.YthjapmdfcbngmaaGreat
