/- Lists of lines of package api of a call's own; insertion at a place.; The contract of short of layer 7's reference. -/
import Derived.Test.YtbhaoaobhgilkaaGreatWm3
import Derived.Test.YtbhaoaobhgilkaaGreatWm19

namespace Go.Proofs.YtbhaoaobhgilkaaGreat
open Go.RowKit Go.Sort Go.Shelf

structure OwnV (w : World) (B : Nat) (v : Value) (L : List AV) : Prop where
  row : w.ownsRow B 25 3 v L.length (L.flatMap AV.cells)
  nums : ∀ y ∈ L, Rd1 w y.q y.a
  far : ∀ y ∈ L, ∀ p, y.q = some p → v.ownBlock ≠ some p.block ∧ p.block < w.heap.size
  nil : ∀ y ∈ L, NilOk y

structure GoodV (w : World) (r : Option Nat) (y : AV) : Prop where
  nums : Rd1 w y.q y.a
  far : ∀ p, y.q = some p → r ≠ some p.block ∧ p.block < w.heap.size
  nil : NilOk y

theorem OwnV.empty (w : World) (B : Nat) : OwnV w B (.slice none 0 0) [] := ⟨World.ownsRow_nil w B _ _, fun y h => by simp at h, fun y h => by simp at h, fun y h => by simp at h⟩

theorem Rd1.grown {w w' : World} {r : Option Nat} {q : Option Addr} {a : List Int} (h : Rd1 w q a) (hg : w.grownBy w' r) (hq : ∀ p, q = some p → r ≠ some p.block) : Rd1 w' q a := fun t ht => by
  obtain ⟨p, e, c⟩ := h t ht
  refine ⟨p, e, ?_⟩
  rw [World.cell?_of_block (hg.block (p.add t).block (World.block_lt_of_cell? w _ c) (by rw [add_block]; exact fun e2 => hq p e e2.symm))]
  exact c

theorem av_len (y : AV) : y.cells.length = 3 := rfl

theorem vflat_len (L : List AV) : (L.flatMap AV.cells).length = L.length * 3 := by
  induction L with
  | nil => rfl
  | cons y L ih => rw [List.flatMap_cons, List.length_append, av_len, ih, List.length_cons]; omega

theorem vflat_at {L : List AV} {t : Nat} (ht : t < L.length) {j : Nat} (hj : j < 3) : (L.flatMap AV.cells)[t * 3 + j]? = (L[t]).cells[j]? := by
  induction L generalizing t with
  | nil => simp at ht
  | cons y L ih =>
    rw [List.flatMap_cons]
    cases t with
    | zero => rw [List.getElem?_append_left (by rw [av_len]; omega)]; simp
    | succ t =>
      rw [List.getElem?_append_right (by rw [av_len]; omega), show (t + 1) * 3 + j - y.cells.length = t * 3 + j by rw [av_len]; omega]
      simpa using ih (t := t) (by simpa using ht)

theorem OwnV.read {w : World} {B : Nat} {v : Value} {L : List AV} (h : OwnV w B v L) : ∃ ao cap, v = .slice ao L.length cap ∧ RdV w ao L ∧ (∀ a, ao = some a → B ≤ a.block ∧ a.off = 0 ∧ a.spot = none) := by
  rcases h.row.2 with ⟨rfl, hn⟩ | ⟨g, cap, cur, rfl, hb, hg, hc, hm, hsz, htake⟩
  · exact ⟨none, 0, by rw [hn], ⟨fun t ht => by omega, h.nums⟩, fun a h => by cases h⟩
  · refine ⟨_, cap, rfl, ⟨fun t ht => ⟨_, rfl, fun j u hu => ?_⟩, h.nums⟩, fun a h => by cases h; exact ⟨hb, rfl, rfl⟩⟩
    have hj : j < 3 := by
      by_cases q : j < 3
      · exact q
      · rw [List.getElem?_eq_none (by rw [av_len]; omega)] at hu; cases hu
    have hc := World.ownsRow.cellAt (g := g) (cap := cap) h.row
    rw [addr_add, addr_add, Nat.zero_add]
    exact (hc (t * 3 + j) (by omega)).trans ((vflat_at ht hj).trans hu)

theorem OwnV.on {w w' : World} {B : Nat} {v : Value} {L : List AV} (h : OwnV w B v L) (hb : Below w.heap.size w w') : OwnV w' B v L :=
  ⟨World.ownsRow.kept h.row (show w.grownBy w' none from ⟨hb.os, hb.tape, hb.output, hb.size, fun k hk _ => hb.block k hk⟩) (by cases v.ownBlock <;> simp),
    fun y hy => (h.nums y hy).on hb, fun y hy p e => ⟨(h.far y hy p e).1, Nat.lt_of_lt_of_le (h.far y hy p e).2 hb.size⟩, h.nil⟩

theorem av_info3 : (Tryz.prog.info? 25).map (fun i => (i.zero, i.size, i.bytes)) = some (some (.agg av0.cs), 3, 40) := by kernel_rfl

theorem appendV_run {w : World} {B : Nat} {v : Value} {L : List AV} (hown : OwnV w B v L) {b c : Nat} {y : AV} (hy : AvAt w ⟨b, 0, none⟩ y) (hG : GoodV w v.ownBlock y) (hle : L.length + 1 ≤ 1000000) (hB : B ≤ w.heap.size) (ty : TypeId) :
    ∃ v' w', (Builtin.append_ #[22, 22] ty #[v, .slice (some ⟨b, 0, none⟩) 1 c]).run Tryz.prog w = .ok v' w' ∧ OwnV w' B v' (L ++ [y]) ∧ w.grownBy w' v.ownBlock ∧ (v'.ownBlock = v.ownBlock ∨ v'.ownBlock = some w.heap.size) := by
  obtain ⟨i0, hi, hz0, hz1, hz2⟩ := info_parts av_info3
  obtain ⟨v', w', hr, h2, h3, _, h5⟩ := run_append_own_at (P := Tryz.prog) w B 22 ty 25 i0 (.agg av0.cs) 3 40 Tryz.underlying22 hi hz0 hz1 hz2 (by rfl) (by decide) v L.length _ hown.row ⟨b, 0, none⟩ 1 c y.cells
    (by rw [av_len]) (fun j u hu => hy j u hu) (by simp [AV.cells, Value.oneCell']) (by unfold maxLen; omega) (by omega) hB
  have hA : ∀ z, z ∈ L ++ [y] → Rd1 w z.q z.a ∧ (∀ p, z.q = some p → v.ownBlock ≠ some p.block ∧ p.block < w.heap.size) ∧ NilOk z := fun z hz => by
    rcases List.mem_append.1 hz with q | q
    · exact ⟨hown.nums z q, hown.far z q, hown.nil z q⟩
    · rw [List.mem_singleton] at q; subst q; exact ⟨hG.nums, hG.far, hG.nil⟩
  refine ⟨v', w', hr, ⟨?_, fun z hz => ?_, fun z hz p e => ?_, fun z hz => (hA z hz).2.2⟩, h3, h5⟩
  · rw [List.flatMap_append, List.length_append]; simpa using h2
  · exact (hA z hz).1.grown h3 (fun p e => ((hA z hz).2.1 p e).1)
  · have := (hA z hz).2.1 p e
    refine ⟨?_, Nat.lt_of_lt_of_le this.2 h3.size⟩
    rcases h5 with h5 | h5
    · rw [h5]; exact this.1
    · rw [h5]; intro e2; injection e2 with e2; omega

theorem wpl_appV {ops : Array Oper} {rest : List Oper} {o : Oper} {a : Act} {w : World} {Q : Exit → Act → World → Prop} (hgd : o.guard = none) (s x : Operand) (ho : o.op = .call { callee := .builtin .append, args := #[s, x], argTypes := #[22, 22] }) (B : Nat) (v : Value) (L : List AV) (y : AV) (hs : a.eval s = v) (hown : OwnV w B v L) (b c : Nat) (hx : a.eval x = .slice (some ⟨b, 0, none⟩) 1 c) (hy : AvAt w ⟨b, 0, none⟩ y)
    (hG : GoodV w v.ownBlock y) (hle : L.length + 1 ≤ 1000000) (hB : B ≤ w.heap.size) (h : ∀ v' w', OwnV w' B v' (L ++ [y]) → w.grownBy w' v.ownBlock → (v'.ownBlock = v.ownBlock ∨ v'.ownBlock = some w.heap.size) → wpList Tryz.prog ops Q rest (a.put o.dst v') w') : wpList Tryz.prog ops Q (o :: rest) a w := by
  obtain ⟨v', w', hr, h1, h2, h3⟩ := appendV_run hown hy hG hle hB (c := c) o.type
  have hk := h v' w' h1 h2 h3
  refine wpList_plain hgd fun K hK => ?_
  unfold Oper.wp
  simp [execOp, ho, resolve, invoke, builtin, hs, hx, hr, Result.andThen]
  exact hK _ _ hk

theorem run_bv1 (y : AV) (w : World) : (Instr.buildSlice 22 1 #[(0, .agg y.cs)]).run Tryz.prog w = .ok (.slice (some ⟨w.heap.size, 0, none⟩) 1 1) (w.alloc (.cells y.cs 25)) := by
  have hz := av_zero w
  have hs := size_of av_size w
  simp [go_sem, Instr.buildSlice, run_underlying Tryz.underlying22, hs, AV.cs, AV.cells, Instr.fill]

theorem wp_bv1 {w : World} {o : Oper} {a : Act} {K : Act → World → Prop} {Q : Exit → Act → World → Prop} (s : Operand) (ho : o.op = .buildSlice 22 1 #[(0, s)]) (y : AV) (hs : a.eval s = .agg y.cs)
    (h : K (a.put o.dst (.slice (some ⟨w.heap.size, 0, none⟩) 1 1)) (w.alloc (.cells y.cs 25))) : o.wp Tryz.prog a w K Q := by
  have hv := run_bv1 y w
  generalize y.cs = X at *
  unfold Oper.wp execOp
  simp only [ho]
  simp [hs, hv, Result.andThen]
  exact h

theorem wpl_bv1 {w : World} {ops : Array Oper} {rest : List Oper} {o : Oper} {a : Act} {Q : Exit → Act → World → Prop} (hgd : o.guard = none) (s : Operand) (ho : o.op = .buildSlice 22 1 #[(0, s)]) (y : AV) (hs : a.eval s = .agg y.cs)
    (h : wpList Tryz.prog ops Q rest (a.put o.dst (.slice (some ⟨w.heap.size, 0, none⟩) 1 1)) (w.alloc (.cells y.cs 25))) : wpList Tryz.prog ops Q (o :: rest) a w :=
  wpList_plain hgd fun _ hK => wp_bv1 s ho y hs (hK _ _ h)

theorem vflat_set (L : List AV) (k : Nat) (y : AV) : (((L.flatMap AV.cells).set (k * 3) (.slice y.q y.a.length y.c)).set (k * 3 + 1) (.int .i64 y.b)).set (k * 3 + 2) (.bool y.s) = (L.set k y).flatMap AV.cells := by
  induction L generalizing k with
  | nil => simp
  | cons z L ih =>
    cases k with
    | zero => simp [List.flatMap_cons, AV.cells]
    | succ k =>
      have := ih k
      simp only [sF, List.flatMap_cons, ← this]
      simp [AV.cells, show (k + 1) * 3 = k * 3 + 3 by omega]

theorem OwnV.set {w : World} {B g cap : Nat} {L : List AV} (h : OwnV w B (.slice (some ⟨g, 0, none⟩) L.length cap) L) (k : Nat) {y : AV} (hG : GoodV w (some g) y) : OwnV (w.setCells g (k * 3) y.cells) B (.slice (some ⟨g, 0, none⟩) L.length cap) (L.set k y) ∧ w.grownBy (w.setCells g (k * 3) y.cells) (some g) := by
  obtain ⟨h1, g1⟩ := World.ownsRow.stored h.row (k * 3) (.slice y.q y.a.length y.c)
  obtain ⟨h2, g2⟩ := World.ownsRow.stored h1 (k * 3 + 1) (.int .i64 y.b)
  obtain ⟨h3, g3⟩ := World.ownsRow.stored h2 (k * 3 + 2) (.bool y.s)
  have hg : w.grownBy (w.setCells g (k * 3) y.cells) (some g) := ⟨(g3.os.trans g2.os).trans g1.os, (g3.tape.trans g2.tape).trans g1.tape, (g3.output.trans g2.output).trans g1.output, Nat.le_trans g1.size (Nat.le_trans g2.size g3.size), fun j hj hn => (g3.block j (Nat.lt_of_lt_of_le hj (Nat.le_trans g1.size g2.size)) hn).trans ((g2.block j (Nat.lt_of_lt_of_le hj g1.size) hn).trans (g1.block j hj hn))⟩
  have hA : ∀ z, z ∈ L.set k y → GoodV w (some g) z := fun z hz => by
    rcases List.mem_or_eq_of_mem_set hz with q | q
    · exact ⟨h.nums z q, h.far z q, h.nil z q⟩
    · subst q; exact hG
  refine ⟨⟨?_, fun z hz => ?_, fun z hz p e => ?_, fun z hz => (hA z hz).nil⟩, hg⟩
  · rw [vflat_set] at h3
    rw [List.length_set]; exact h3
  · exact (hA z hz).nums.grown hg (fun p e => ((hA z hz).far p e).1)
  · exact ⟨((hA z hz).far p e).1, Nat.lt_of_lt_of_le ((hA z hz).far p e).2 hg.size⟩

theorem ins_at {x : Ln} : ∀ {l : List Ln} {k : Nat}, k ≤ l.length → (∀ i, ∀ h : i < l.length, i < k → cmpL l[i].a x.a < 0) → (∀ h : k < l.length, ¬ cmpL l[k].a x.a < 0) →
    insN x l = if ∃ h : k < l.length, l[k].a = x.a then (if ∃ h : k < l.length, x.over l[k] = true then l.set k x else l) else l.take k ++ x :: l.drop k
  | [], 0, _, _, _ => by simp [insN]
  | [], k + 1, h, _, _ => by simp at h
  | y :: r, 0, _, _, h => by
    have h := h (by simp)
    simp only [sB] at h
    unfold insN
    rw [if_neg h]
    simp
  | y :: r, k + 1, hk, hb, he => by
    have h0 := hb 0 (by simp) (by omega)
    simp only [sB] at h0
    have ih := ins_at (x := x) (l := r) (k := k) (by simpa using hk) (fun i h q => by have := hb (i + 1) (by simpa using h) (by omega); simpa using this) (fun h => by have := he (by simpa using h); simpa using this)
    unfold insN
    rw [if_pos h0, ih]
    simp
    split
    · split <;> rfl
    · rfl
end Go.Proofs.YtbhaoaobhgilkaaGreat

namespace Go.Proofs.YtbhaoaobhgilkaaGreat
open Go.RowKit Go.Sort Go.Shelf

theorem appJ_run {w : World} {B g cap : Nat} {l m : List Int} (hown : OwnI w B g cap l) {p : Addr} {c : Nat} (hR : Rd1 w (some p) m) (hl : l.length + m.length ≤ 1000000) (hB : B ≤ w.heap.size) (ty : TypeId) :
    ∃ g' c' w', (Builtin.append_ #[23, 23] ty #[.slice (some ⟨g, 0, none⟩) l.length cap, .slice (some p) m.length c]).run Tryz.prog w = .ok (.slice (some ⟨g', 0, none⟩) (l ++ m).length c') w' ∧ OwnI w' B g' c' (l ++ m) ∧ w.grownBy w' (some g) ∧ (g' = g ∨ g' = w.heap.size) := by
  obtain ⟨i0, hi, hz0, hz1, hz2⟩ := info_parts i64_info
  have U : Tryz.prog.underlying 23 = some (.slice 2) := Tryz.underlying23
  obtain ⟨v', w', hr, h2, h3, h4, h5⟩ := run_append_own_at (P := Tryz.prog) w B 23 ty 2 i0 (.int .i64 0) 1 8 U hi hz0 hz1 hz2 (by rfl) (by decide) (.slice (some ⟨g, 0, none⟩) l.length cap) l.length _ hown p m.length c (m.map (Value.int .i64))
    (by simp) (rd_map hR) (by simp [Value.oneCell']) (by unfold maxLen; omega) (by omega) hB
  rcases h2.2 with ⟨e, _⟩ | ⟨g', c', cur, e, _⟩
  · have := h4.1 e
    exact absurd this.1 (by simp)
  · subst e
    refine ⟨g', c', w', by rw [hr, List.length_append], ?_, h3, ?_⟩
    · unfold OwnI
      rw [List.length_append, List.map_append]
      exact h2
    · rcases h5 with h | h
      · left; simpa [Value.ownBlock] using h
      · right; simpa [Value.ownBlock] using h

theorem wpl_appI {ops : Array Oper} {rest : List Oper} {o : Oper} {ac : Act} {w : World} {Q : Exit → Act → World → Prop} (hgd : o.guard = none) (s x : Operand) (ho : o.op = .call { callee := .builtin .append, args := #[s, x], argTypes := #[23, 23] }) (B b : Nat) (hown : OwnI w B b 0 []) (hs : ac.eval s = .slice (some ⟨b, 0, none⟩) 0 0)
    (q : Option Addr) (a : List Int) (c : Nat) (hx : ac.eval x = .slice q a.length c) (hR : Rd1 w q a) (hN : q = none → a = [] ∧ c = 0) (hl : a.length ≤ 1000000) (hB : B ≤ w.heap.size)
    (h : ∀ g c' w', OwnI w' B g c' a → w.grownBy w' (some b) → (g = b ∨ w.heap.size ≤ g) → wpList Tryz.prog ops Q rest (ac.put o.dst (.slice (some ⟨g, 0, none⟩) a.length c')) w') : wpList Tryz.prog ops Q (o :: rest) ac w := by
  obtain ⟨g, c', w', hr, h1, h2, h3, _⟩ := appI_run hown hR hN hl hB o.type
  have hk := h g c' w' h1 h2 h3
  refine wpList_plain hgd fun K hK => ?_
  unfold Oper.wp
  simp [execOp, ho, resolve, invoke, builtin, hs, hx, hr, Result.andThen]
  exact hK _ _ hk

theorem cut_loI (w : World) (pb po m c k : Nat) (kI : Int) (hkI : kI = (k : Int)) (hk : k ≤ m) (hm : m ≤ c) : (Instr.sliceAt 23 (.slice (some ⟨pb, po, none⟩) m c) (some (.int .i64 kI)) none none).run Tryz.prog w = .ok (.slice (some (if c = k then ⟨pb, po, none⟩ else ⟨pb, po + k, none⟩)) (m - k) (c - k)) w := by
  subst hkI
  by_cases h : c = k
  · subst h
    obtain rfl : m = c := by omega
    simp [go_sem, Instr.sliceAt, run_underlying Tryz.underlying23, size_of i64_size]
  · have h1 : c - k ≠ 0 := by omega
    simp [go_sem, Instr.sliceAt, run_underlying Tryz.underlying23, size_of i64_size, h]
    intro h3; omega

theorem yld_low {o : Oper} {ac : Act} {w : World} (s k : Operand) (ho : o.op = .slice 23 s (some k) none none) (pb po m c kk : Nat) (kI : Int) (hkI : kI = (kk : Int)) (hs : ac.eval s = .slice (some ⟨pb, po, none⟩) m c) (hk : ac.eval k = .int .i64 kI) (hle : kk ≤ m) (hm : m ≤ c) :
    (execOp ac.eval o).run Tryz.prog w = .ok (.value (.slice (some (if c = kk then ⟨pb, po, none⟩ else ⟨pb, po + kk, none⟩)) (m - kk) (c - kk))) w := by
  have h := cut_loI w pb po m c kk kI hkI hle hm
  generalize (if c = kk then (⟨pb, po, none⟩ : Addr) else ⟨pb, po + kk, none⟩) = P at *
  unfold execOp
  simp only [ho, hs, hk, Option.map_none, Option.map_some, Sem.run_bind, h, Result.andThen_ok, Sem.run_pure]

theorem Rd1.drop {w : World} {pb po : Nat} {a : List Int} (h : Rd1 w (some ⟨pb, po, none⟩) a) (k c : Nat) (hc : a.length ≤ c) : Rd1 w (some (if c = k then ⟨pb, po, none⟩ else ⟨pb, po + k, none⟩)) (a.drop k) := fun t ht => by
  simp at ht
  obtain ⟨p, e, q⟩ := h (k + t) (by omega)
  cases e
  rw [if_neg (by omega)]
  refine ⟨_, rfl, ?_⟩
  rw [addr_add] at q ⊢
  rw [Nat.add_assoc]
  rw [q]
  simp [gA, List.getD_eq_getElem?_getD]

def shR (i : Nat) (x : Ln) : Ln := ⟨x.a.eraseIdx i, x.b, x.s⟩

theorem Rd1.take {w : World} {q : Option Addr} {a : List Int} (h : Rd1 w q a) (i : Nat) : Rd1 w q (a.take i) := fun t ht => by
  simp at ht
  obtain ⟨p, e, c⟩ := h t (by omega)
  exact ⟨p, e, by rw [c, gA_take (by omega)]⟩

set_option maxRecDepth 100000 in
set_option maxHeartbeats 4000000 in
theorem rshort_any (y : AV) (i : Nat) (w : World) (p : Addr) (hp : y.q = some p) (hs : p.spot = none) (hc : y.a.length ≤ y.c) (hcm : y.c ≤ 9223372036854775807) (hi : i < y.a.length) (hl : y.a.length ≤ 1000) (hR : Rd1 w y.q y.a) :
    Calls Tryz.prog 91 #[.agg y.cs, .int .i64 i] w (VRes w (shR i (lnV y))) := by
  obtain ⟨w0, hw0⟩ : ∃ w0, w0 = (w.alloc (.cells y.cs 25)).alloc (.cells #[.slice none 0 0, .int .i64 0, .bool false] 25) := ⟨_, rfl⟩
  have E0 := Lib.hid (show Below w.heap.size w w0 by rw [hw0]; exact past_two (Below.refl _ _))
  have K0 := Lib.hid (show BkV w0 w.heap.size y by rw [hw0]; exact (BkV.made w y).kept (one_more _))
  have K1 := Lib.hid (show BkV w0 (w.heap.size + 1) av0 by rw [hw0]; have := BkV.made (w.alloc (.cells y.cs 25)) av0; simpa [av0, AV.cs, AV.cells] using this)
  have R0 := Lib.hid (hR.on E0.out)
  obtain ⟨q, c, a, b, s⟩ := y
  simp only at hp hc hcm hi hl hR R0
  subst hp
  obtain ⟨pb, po, ps⟩ := p
  simp only at hs
  subst hs
  obtain ⟨m, hm⟩ : ∃ m, m = a.length := ⟨_, rfl⟩
  have HM := Lib.hid hm
  obtain ⟨f0, f1, f2⟩ := K0.out.facts
  simp only at f0 f1 f2
  rw [← hm] at f0 hc hi hl
  have TK := Lib.hid (show (a.take i).length = i by simp; omega)
  have LA := Lib.hid (show a.length ≤ 1000 by omega)
  have CM := Lib.hid hcm
  have R1 := Lib.hid ((R0.out.take i).on (one_more (w1 := w0) (.cells #[] 2)))
  have EM := Lib.hid (OwnI.empty w0 w.heap.size E0.out.size)
  have zb : w.heap.size ≤ (w0.alloc (.cells #[] 2)).heap.size := Nat.le_trans E0.out.size (by simp)
  have F0 := Lib.hid f0
  have F1 := Lib.hid f1
  have F2 := Lib.hid f2
  have hi2 : (i : Int) < m := by omega
  have hc2 : (m : Int) ≤ c := by omega
  have e0 := kept (one_more (w1 := w0) (.cells #[] 2)) f0
  clear hR hm
  go_enter Tryz.func91, Tryz.ntmps91
  go_upto_region 1 with (fail)
  rw [← hw0]
  clear hw0
  go_wp2_with (at_builtin; refine wpl_appI rfl _ _ rfl w.heap.size w0.heap.size EM.out rfl (some ⟨pb, po, none⟩) (a.take i) c (by simp [Act.eval, TK.out]) R1.out (fun e => by cases e) (by rw [TK.out]; omega) zb ?_)
  intro g c' w1 o1 g1 h1
  have mi : min i a.length = i := by have := HM.out; omega
  have BB1 := Lib.hid (show Below w0.heap.size w0 w1 from Below.grown (one_more (w1 := w0) (.cells #[] 2)) g1 (by simp) (fun k hk => by injection hk with hk; omega))
  have G1 := Lib.hid o1
  have GZ := Lib.hid (show w0.heap.size ≤ g from h1.elim (fun h => by omega) (fun h => Nat.le_trans (by simp) h))
  have RD := Lib.hid (R0.out.drop (i + 1) c (by have := HM.out; omega))
  try simp only [List.length_take]
  rw [mi]
  obtain ⟨P, hP⟩ : ∃ P, P = (if c = i + 1 then (⟨pb, po, none⟩ : Addr) else ⟨pb, po + (i + 1), none⟩) := ⟨_, rfl⟩
  have HP := Lib.hid hP
  rw [← hP] at RD
  have IM := Lib.hid (show i + 1 ≤ m ∧ m ≤ c by omega)
  have hw1 : wrap64 ((i : Int) + 1) = (i : Int) + 1 := by have := LA.out; have := HM.out; unfold wrap64; omega
  have hw2 : IntKind.i64.wrap ((i : Int) + 1) = (i : Int) + 1 := by have := LA.out; have := HM.out; exact wrap_in _ (by omega) (by omega)
  clear o1 g1 h1 EM zb f0 f1 f2 e0 hP mi
  go_upto_region 2 with (fail)
  have KT := Lib.hid (show ∀ W, Below w0.heap.size w0 W → (W.cell? ⟨w.heap.size, 0, none⟩ = some (.slice (some ⟨pb, po, none⟩) m c) ∧ W.cell? ⟨w.heap.size, 1, none⟩ = some (.int .i64 b) ∧ W.cell? ⟨w.heap.size, 2, none⟩ = some (.bool s)) from fun W h => ⟨kept h F0.out, kept h F1.out, kept h F2.out⟩)
  have KU := Lib.hid (show ∀ W, Below w0.heap.size w0 W → ∀ cs, (fun W => (W.cell? ⟨w.heap.size, 0, none⟩ = some (.slice (some ⟨pb, po, none⟩) m c) ∧ W.cell? ⟨w.heap.size, 1, none⟩ = some (.int .i64 b) ∧ W.cell? ⟨w.heap.size, 2, none⟩ = some (.bool s))) (W.setRow (w.heap.size + 1) cs) from fun W h cs => ⟨row_aside (kept h F0.out) (by show w.heap.size ≠ w.heap.size + 1; omega) _, row_aside (kept h F1.out) (by show w.heap.size ≠ w.heap.size + 1; omega) _, row_aside (kept h F2.out) (by show w.heap.size ≠ w.heap.size + 1; omega) _⟩)
  have KS := Lib.hid (show ∀ W, Below w1.heap.size w1 W → (W.cell? ⟨w.heap.size, 0, none⟩ = some (.slice (some ⟨pb, po, none⟩) m c) ∧ W.cell? ⟨w.heap.size, 1, none⟩ = some (.int .i64 b) ∧ W.cell? ⟨w.heap.size, 2, none⟩ = some (.bool s)) from fun W h => ⟨kept h (kept BB1.out F0.out), kept h (kept BB1.out F1.out), kept h (kept BB1.out F2.out)⟩)
  obtain ⟨wc, hwc⟩ : ∃ wc, wc = w1.drew := ⟨_, rfl⟩
  have Bc := Lib.hid (show Below w1.heap.size w1 wc by rw [hwc]; exact (Below.refl _ _).drew)
  refine wp_region_held_drew (S := (fun W => (W.cell? ⟨w.heap.size, 0, none⟩ = some (.slice (some ⟨pb, po, none⟩) m c) ∧ W.cell? ⟨w.heap.size, 1, none⟩ = some (.int .i64 b) ∧ W.cell? ⟨w.heap.size, 2, none⟩ = some (.bool s)))) (by kernel_rfl) (by rw [← hwc]; exact KS.out _ Bc.out) (fun h0 => ?_)
  rw [← hwc] at h0 ⊢
  clear hwc
  refine tkH (i := 0) (v := ?v1) rfl (Or.inl ⟨by rfl, ?hy1⟩) h0 ?rest1
  case hy1 => (intro w' hS; (try dsimp only at hS); go_simp; try (with_reducible rfl))
  simp only [Act.put, sA, sB, sD, sE, sF]
  refine tkH (i := 1) (v := ?v2) rfl (Or.inl ⟨by rfl, ?hy2⟩) h0 ?rest2
  case hy2 => (intro w' hS; (try dsimp only at hS); go_simp; try (with_reducible rfl))
  simp only [Act.put, sZ]
  refine tkH (i := 2) (v := ?v3) rfl (Or.inl ⟨by rfl, ?hy3⟩) h0 ?rest3
  case hy3 => (intro w' hS; (try dsimp only at hS); go_simp; try (with_reducible rfl))
  simp only [Act.put, sZ]
  refine tkH (i := 3) (v := ?v4) rfl (Or.inl ⟨by rfl, ?hy4⟩) h0 ?rest4
  case hy4 => (intro w' hS; (try dsimp only at hS); go_simp; try (with_reducible rfl))
  simp only [Act.put, sZ]
  refine tkH (i := 4) (v := ?v5) rfl (Or.inl ⟨by rfl, ?hy5⟩) h0 ?rest5
  case hy5 => (intro w' hS; (try dsimp only at hS); go_simp; try (with_reducible rfl))
  simp only [Act.put, sZ]
  refine tkH (i := 5) (v := (.slice (some P) (m - (i + 1)) (c - (i + 1)))) rfl (Or.inl ⟨by rfl, fun w' hS => by rw [HP.out]; exact yld_low _ _ rfl pb po m c (i + 1) ((i : Int) + 1) (by omega) rfl rfl IM.out.1 IM.out.2⟩) h0 ?_
  simp only [Act.put, sZ]
  refine tkH (i := 7) (v := ?v7) rfl (Or.inl ⟨by rfl, ?hy7⟩) h0 ?rest7
  case hy7 => (intro w' hS; (try dsimp only at hS); go_simp; try (with_reducible rfl))
  simp only [Act.put, sZ]
  refine tkH (i := 8) (v := ?v8) rfl (Or.inl ⟨by rfl, ?hy8⟩) h0 ?rest8
  case hy8 => (intro w' hS; (try dsimp only at hS); go_simp; try (with_reducible rfl))
  simp only [Act.put, sZ]
  refine tkH (i := 9) (v := ?v9) rfl (Or.inl ⟨by rfl, ?hy9⟩) h0 ?rest9
  case hy9 => (intro w' hS; (try dsimp only at hS); go_simp; try (with_reducible rfl))
  simp only [Act.put, sZ]
  refine tkH (i := 10) (v := ?v10) rfl (Or.inl ⟨by rfl, ?hy10⟩) h0 ?rest10
  case hy10 => (intro w' hS; (try dsimp only at hS); go_simp; try (with_reducible rfl))
  simp only [Act.put, sZ]
  refine wpAnyH_ready (rs := [6]) (by kernel_rfl) (by simp) (AllReadyH.cons rfl (fun K hK => ?_) AllReadyH.nil)
  rw [if_pos (by rfl)]
  obtain ⟨g2, c2, we, hrun, ho, hg, hgb⟩ := appJ_run (G1.out.on Bc.out) ((RD.out.on BB1.out).on Bc.out) (by have := LA.out; simp; omega) (Nat.le_trans E0.out.size (Nat.le_trans BB1.out.size Bc.out.size)) 23 (c := c - (i + 1))
  rw [TK.out, show (a.drop (i + 1)).length = m - (i + 1) by rw [List.length_drop, ← HM.out], ← List.eraseIdx_eq_take_drop_succ] at hrun
  rw [← List.eraseIdx_eq_take_drop_succ] at ho
  refine Lib.wp_append_run _ _ _ 23 23 rfl (.slice (some ⟨g, 0, none⟩) i c') (.slice (some P) (m - (i + 1)) (c - (i + 1))) rfl rfl _ _ hrun ?_
  have HO := Lib.hid ho
  have N2G := Lib.hid (show w0.heap.size ≤ g2 by have := GZ.out; have h8 := BB1.out.size; have h9 := Bc.out.size; rcases hgb with h | h <;> omega)
  have GH := Lib.hid (show Below w0.heap.size w0 we from Below.grown (BB1.out.trans (Bc.out.mono BB1.out.size)) hg (Nat.le_trans BB1.out.size Bc.out.size) (fun k hk => by have := GZ.out; injection hk with hk; omega))
  clear hrun ho hg hgb
  try simp only [Act.put, sZ]
  refine hK.out _ _ (KT.out _ GH.out) (fun h0_1 => ?_)
  clear hK K h0
  refine tkH (i := 11) (v := ?v11) rfl (Or.inl ⟨by rfl, ?hy11⟩) h0_1 ?rest11
  case hy11 => (intro w' hS; (try dsimp only at hS); go_simp; try (with_reducible rfl))
  simp only [Act.put, sZ]
  refine wpAnyH_ready (rs := [12]) (by kernel_rfl) (by simp) (AllReadyH.cons rfl (fun K hK => ?_) AllReadyH.nil)
  rw [if_pos (by rfl)]
  have K9 := Lib.hid (K1.out.kept GH.out)
  have CE := Lib.hid (show (#[.slice (some ⟨g2, 0, none⟩) (a.eraseIdx i).length c2, .int .i64 b, .bool s] : Array Value) = (AV.mk (some ⟨g2, 0, none⟩) c2 (a.eraseIdx i) b s).cs from rfl)
  refine wp_storeV _ _ rfl (w.heap.size + 1) (AV.mk (some ⟨g2, 0, none⟩) c2 (a.eraseIdx i) b s) rfl rfl _ K9.out ?_
  refine hK.out _ _ (KU.out _ GH.out _) (fun h0_2 => ?_)
  clear hK K h0_1
  try simp only [sF]
  try simp only [sE]
  refine wpAnyH_done (by kernel_rfl) ?_ _
  have KF := Lib.hid (K9.out.setRow (z := AV.mk (some ⟨g2, 0, none⟩) c2 (a.eraseIdx i) b s))
  have NG := Lib.hid (show g2 ≠ w.heap.size + 1 by have := K1.out.lt; have := N2G.out; omega)
  have GO := Lib.hid (HO.out.grown (grown_row we (w.heap.size + 1) (AV.mk (some ⟨g2, 0, none⟩) c2 (a.eraseIdx i) b s).cs) NG.out)
  have BW := Lib.hid (Below.setRow (below_on E0.out GH.out) (b := w.heap.size + 1) (by omega) (AV.mk (some ⟨g2, 0, none⟩) c2 (a.eraseIdx i) b s).cs)
  go_wp2_with fail
  exact bodyPost_ret (results_av Tryz.results91 _ rfl KF.out) rfl ⟨g2, c2, rfl, GO.out, BW.out⟩
end Go.Proofs.YtbhaoaobhgilkaaGreat
