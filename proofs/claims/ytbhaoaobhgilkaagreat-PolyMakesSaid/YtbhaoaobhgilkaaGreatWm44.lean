/- Rows of integers that grow one by one; the contract of Opposite of layer 7's reference.; Rows of lines that share their numbers with others; the contract of behind of layer 7's reference.; behind of layer 7's reference, with the block that its row lies in. -/
import Derived.Test.YtbhaoaobhgilkaaGreatWm29
import Derived.Test.YtbhaoaobhgilkaaGreatWm13
import Derived.Test.YtbhaoaobhgilkaaGreatWm3

namespace Go.Proofs.YtbhaoaobhgilkaaGreat
open Go.RowKit Go.Sort Go.Shelf

def OwnJ (w : World) (B : Nat) (v : Value) (a : List Int) : Prop := w.ownsRow B 2 1 v a.length (a.map (Value.int .i64))

theorem OwnJ.nil (w : World) (B : Nat) : OwnJ w B (.slice none 0 0) [] := World.ownsRow_nil w B _ _

theorem OwnJ.on {w w' : World} {B : Nat} {v : Value} {a : List Int} (h : OwnJ w B v a) (hb : Below w.heap.size w w') : OwnJ w' B v a := by
  have hg : w.grownBy w' none := ⟨hb.os, hb.tape, hb.output, hb.size, fun k hk _ => hb.block k hk⟩
  exact World.ownsRow.kept h hg (by cases v.ownBlock <;> simp)

theorem OwnJ.read {w : World} {B : Nat} {v : Value} {a : List Int} (h : OwnJ w B v a) : ∃ q c, v = .slice q a.length c ∧ Rd1 w q a ∧ (q = none → a = [] ∧ c = 0) ∧ a.length ≤ c ∧ c ≤ maxLen ∧ ∀ p, q = some p → B ≤ p.block ∧ p.block < w.heap.size := by
  rcases h.2 with ⟨rfl, hn⟩ | ⟨g, cap, cur, rfl, hb, hg, hc, hm, hsz, htake⟩
  · have e : a = [] := List.length_eq_zero_iff.1 hn
    subst e
    exact ⟨none, 0, rfl, fun t ht => by simp at ht, fun _ => ⟨rfl, rfl⟩, by simp, by unfold maxLen; omega, fun p e => by cases e⟩
  · have hlt := World.ownsRow.lt h g rfl
    refine ⟨_, cap, rfl, fun t ht => ⟨_, rfl, ?_⟩, (fun e => by cases e), hc, hm, (fun p e => by cases e; exact hlt)⟩
    have hc := World.ownsRow.cellAt (g := g) (cap := cap) h
    rw [addr_add, Nat.zero_add, hc t (by omega), List.getElem?_map, List.getElem?_eq_getElem ht]
    simp [gA, ht]

theorem appendJ1_run {w : World} {B : Nat} {v : Value} {l : List Int} (hown : OwnJ w B v l) {b c : Nat} {y : Int} (hy : w.cell? ⟨b, 0, none⟩ = some (.int .i64 y)) (hle : l.length + 1 ≤ 2000000) (hB : B ≤ w.heap.size) (ty : TypeId) :
    ∃ v' w', (Builtin.append_ #[23, 23] ty #[v, .slice (some ⟨b, 0, none⟩) 1 c]).run Tryz.prog w = .ok v' w' ∧ OwnJ w' B v' (l ++ [y]) ∧ w.grownBy w' v.ownBlock := by
  obtain ⟨i0, hi, hz0, hz1, hz2⟩ := info_parts i64_info
  obtain ⟨v', w', hr, h2, h3, _, _⟩ := run_append_own_at (P := Tryz.prog) w B 23 ty 2 i0 (.int .i64 0) 1 8 Tryz.underlying23 hi hz0 hz1 hz2 (by rfl) (by decide) v l.length _ hown ⟨b, 0, none⟩ 1 c [.int .i64 y]
    (by simp) (fun j u hu => by
      cases j with
      | zero => rw [addr_add, Nat.zero_add, hy]; simpa using hu
      | succ j => simp at hu) (by simp [Value.oneCell']) (by unfold maxLen; omega) (by omega) hB
  refine ⟨v', w', hr, ?_, h3⟩
  unfold OwnJ
  rw [List.map_append, List.length_append]; simpa using h2

theorem wpl_appJ1 {ops : Array Oper} {rest : List Oper} {o : Oper} {a : Act} {w : World} {Q : Exit → Act → World → Prop} (hgd : o.guard = none) (s x : Operand) (ho : o.op = .call { callee := .builtin .append, args := #[s, x], argTypes := #[23, 23] }) (B : Nat) (v : Value) (l : List Int) (y : Int) (hs : a.eval s = v) (hown : OwnJ w B v l) (b c : Nat) (hx : a.eval x = .slice (some ⟨b, 0, none⟩) 1 c) (hy : w.cell? ⟨b, 0, none⟩ = some (.int .i64 y))
    (hle : l.length + 1 ≤ 2000000) (hB : B ≤ w.heap.size) (h : ∀ v' w', OwnJ w' B v' (l ++ [y]) → w.grownBy w' v.ownBlock → wpList Tryz.prog ops Q rest (a.put o.dst v') w') : wpList Tryz.prog ops Q (o :: rest) a w := by
  obtain ⟨v', w', hr, h1, h2⟩ := appendJ1_run hown hy hle hB (c := c) o.type
  have hk := h v' w' h1 h2
  refine wpList_plain hgd fun K hK => ?_
  unfold Oper.wp
  simp [execOp, ho, resolve, invoke, builtin, hs, hx, hr, Result.andThen]
  exact hK _ _ hk

def OpR (x : Ln) (w : World) (e : Ending) (w' : World) : Prop := ∃ z, e = .returned (.agg z.cs) ∧ lnV z = x ∧ NilOk z ∧ Rd1 w' z.q z.a ∧ (∀ p, z.q = some p → w.heap.size ≤ p.block ∧ p.block < w'.heap.size) ∧ Below w.heap.size w w'

theorem neg_step {a : List Int} {t : Nat} (h : t < a.length) : (a.take (t + 1)).map (· * (-1)) = (a.take t).map (· * (-1)) ++ [gA a t * (-1)] := by
  rw [List.take_succ_eq_append_getElem h, List.map_append]
  simp [gA, h]

set_option maxRecDepth 100000 in
set_option maxHeartbeats 4000000 in
theorem ropp_any (y : AV) (w : World) (hl : y.a.length ≤ 1000) (hR : Rd1 w y.q y.a) (ha : ∀ v ∈ y.a, -2147483647 ≤ v ∧ v ≤ 2147483647) (hb : -2147483647 ≤ y.b ∧ y.b ≤ 2147483647) :
    Calls Tryz.prog 60 #[.agg y.cs] w (OpR (lnV y).opp w) := by
  obtain ⟨w0, hw0⟩ : ∃ w0, w0 = (w.alloc (.cells y.cs 25)).alloc (.cells #[.slice none 0 0, .int .i64 0, .bool false] 25) := ⟨_, rfl⟩
  have E0 := Lib.hid (show Below w.heap.size w w0 by rw [hw0]; exact past_two (Below.refl _ _))
  have Z0 := Lib.hid (show w0.heap.size = w.heap.size + 2 by rw [hw0]; simp)
  have K0 := Lib.hid (show BkV w0 w.heap.size y by rw [hw0]; exact (BkV.made w y).kept (one_more _))
  have K1 := Lib.hid (show BkV w0 (w.heap.size + 1) av0 by rw [hw0]; have := BkV.made (w.alloc (.cells y.cs 25)) av0; simpa [av0, AV.cs, AV.cells] using this)
  have R0 := Lib.hid (hR.on E0.out)
  have YA := Lib.hid ha
  have YB := Lib.hid hb
  obtain ⟨q, c, a, b, s⟩ := y
  simp only [lnV] at *
  obtain ⟨m, hm⟩ : ∃ m, m = a.length := ⟨_, rfl⟩
  have HM := Lib.hid hm
  have hle : m ≤ 1000 := by omega
  obtain ⟨f0, f1, f2⟩ := K0.out.facts
  simp only at f0 f1 f2
  rw [← hm] at f0
  have F0 := Lib.hid f0
  have F1 := Lib.hid f1
  have F2 := Lib.hid f2
  have hb1 : IntKind.i64.wrap (-b) = -b := wrap_in _ (by omega) (by omega)
  have hb2 : wrap64 (-b) = -b := by unfold wrap64; omega
  have W1 := Lib.hid hb1
  have W2 := Lib.hid hb2
  clear hl hR ha hb hm f0 f1 f2 hb1 hb2
  go_enter Tryz.func60, Tryz.ntmps60
  go_upto_region 1 with (fail)
  rw [← hw0]
  clear hw0
  go_wp2_with fail
  go_loopw [3, 4] (fun v s wr => ∃ t : Nat, s = .int .i64 t ∧ t ≤ m ∧ Hid (OwnJ wr w0.heap.size v ((a.take t).map (· * (-1)))) ∧ Hid (Below w0.heap.size w0 wr)) (fun _ s _ => m - (intOf s).toNat)
  case atStart => exact ⟨0, rfl, by omega, Lib.hid (by simpa using OwnJ.nil _ _), Lib.hid (Below.refl _ _)⟩
  case round =>
    obtain ⟨t, rfl, ht, HO, HB⟩ := hrel
    have f0 := kept HB.out F0.out
    by_cases htm : t < m
    · have hlt : t < a.length := by have := HM.out; omega
      obtain ⟨p, hp, c0⟩ := (R0.out.on HB.out) t hlt
      obtain ⟨u, hu⟩ : ∃ u, u = gA a t := ⟨_, rfl⟩
      have U1 := YA.out _ (gA_mem hlt)
      rw [← hu] at c0 U1
      have NS := Lib.hid (show (a.take (t + 1)).map (· * (-1)) = (a.take t).map (· * (-1)) ++ [-u] by rw [neg_step hlt, ← hu]; simp)
      have LT := Lib.hid (show ((a.take t).map (· * (-1))).length ≤ 1000 by rw [List.length_map, List.length_take]; omega)
      have hu1 : IntKind.i64.wrap (-u) = -u := wrap_in _ (by omega) (by omega)
      have hu2 : wrap64 (-u) = -u := by unfold wrap64; omega
      generalize (a.take t).map (· * (-1)) = A at *
      have tm : (t : Int) < (m : Int) := by omega
      subst hp
      have B1 := Lib.hid (one_more (w1 := wr) (.cells #[.int .i64 (-u)] 2))
      have HO1 := Lib.hid (HO.out.on B1.out)
      have C1 := Lib.hid (show (wr.alloc (.cells #[.int .i64 (-u)] 2)).cell? ⟨wr.heap.size, 0, none⟩ = some (.int .i64 (-u)) by rw [cell_of_row _ _ 0 _ _ _ (heap_alloc_last wr _)]; rfl)
      have HB1 := Lib.hid (below_on HB.out B1.out)
      have z1 := HB1.out.size
      clear hu hlt U1 HO htm
      go_upto_region 5 with (fail)
      go_wp2_with (at_builtin; refine wpl_appJ1 rfl _ _ rfl w0.heap.size _ A (-u) rfl HO1.out _ _ rfl C1.out (by have := LT.out; omega) z1 ?_)
      intro v' w5 o5 g5
      have BG := Lib.hid (Below.grown HB1.out g5 HB1.out.size (fun k hk => (World.ownsRow.lt HO1.out k hk).1))
      have OG := Lib.hid o5
      clear o5 g5 z1 hu1 hu2 c0 f0
      go_wp2_with fail
      go_roundw
      case rel => exact ⟨t + 1, by go_num, by omega, Lib.hid (by rw [NS.out]; exact OG.out), BG⟩
      case measure => simp [intOf]; omega
    · obtain rfl : t = m := by omega
      have hA : (a.take t).map (· * (-1)) = a.map (· * (-1)) := by rw [List.take_of_length_le (by have := HM.out; omega)]
      rw [hA] at HO
      obtain ⟨q2, c2, hv, hrd, hnil, hlc, hcm, hfr⟩ := HO.out.read
      have f1 := kept HB.out F1.out
      have f2 := kept HB.out F2.out
      have hb1 := W1.out
      have hb2 := W2.out
      obtain ⟨A, hAe⟩ : ∃ A, A = a.map (· * (-1)) := ⟨_, rfl⟩
      rw [← hAe] at hv hrd hnil hlc
      have AE := Lib.hid hAe
      have RD := Lib.hid hrd
      have NL := Lib.hid (And.intro hnil (And.intro hlc hcm))
      have FR := Lib.hid hfr
      subst hv
      have K1' := Lib.hid (show BkV wr (w.heap.size + 1) av0 from K1.out.kept HB.out)
      have KF := Lib.hid (K1'.out.setRow (z := AV.mk q2 c2 A (-b) (!s)))
      have BW := Lib.hid (Below.setRow (below_on E0.out HB.out) (b := w.heap.size + 1) (by omega) (AV.mk q2 c2 A (-b) (!s)).cs)
      have GR := Lib.hid (grown_row wr (w.heap.size + 1) (AV.mk q2 c2 A (-b) (!s)).cs)
      clear hA hAe hrd hnil hlc hcm hfr HO htm
      go_wp2_with (refine wpl_storeV rfl _ _ rfl _ (AV.mk q2 c2 A (-b) (!s)) rfl rfl _ K1'.out ?_)
      refine bodyPost_ret (results_av Tryz.results60 _ rfl KF.out) rfl ⟨AV.mk q2 c2 A (-b) (!s), rfl, ?_, NL.out, ?_, fun p e => ?_, BW.out⟩
      · unfold lnV Ln.opp Ln.times
        rw [AE.out]
        simp
      · exact Rd1.grown RD.out GR.out (fun p e => by have := (FR.out p e).1; have := Z0.out; simp; omega)
      · have := FR.out p e
        have := Z0.out
        have := GR.out.size
        exact ⟨by omega, by omega⟩
end Go.Proofs.YtbhaoaobhgilkaaGreat

namespace Go.Proofs.YtbhaoaobhgilkaaGreat
open Go.RowKit Go.Sort Go.Shelf

structure OwnW (w : World) (B : Nat) (v : Value) (L : List AV) : Prop where
  row : w.ownsRow B 25 3 v L.length (L.flatMap AV.cells)
  nums : ∀ y ∈ L, Rd1 w y.q y.a
  far : ∀ y ∈ L, y.a ≠ [] → ∀ p, y.q = some p → v.ownBlock ≠ some p.block

theorem OwnW.read {w : World} {B : Nat} {v : Value} {L : List AV} (h : OwnW w B v L) : ∃ ao cap, v = .slice ao L.length cap ∧ RdV w ao L ∧ (∀ a, ao = some a → B ≤ a.block) := by
  rcases h.row.2 with ⟨rfl, hn⟩ | ⟨g, cap, cur, rfl, hb, hg, hc, hm, hsz, htake⟩
  · exact ⟨none, 0, by rw [hn], ⟨fun t ht => by omega, h.nums⟩, fun a h => by cases h⟩
  · refine ⟨_, cap, rfl, ⟨fun t ht => ⟨_, rfl, fun j u hu => ?_⟩, h.nums⟩, fun a h => by cases h; exact hb⟩
    have hj : j < 3 := by
      by_cases q : j < 3
      · exact q
      · rw [List.getElem?_eq_none (by rw [av_len]; omega)] at hu; cases hu
    have hc := World.ownsRow.cellAt (g := g) (cap := cap) h.row
    rw [addr_add, addr_add, Nat.zero_add]
    exact (hc (t * 3 + j) (by omega)).trans ((vflat_at ht hj).trans hu)

theorem OwnW.on {w w' : World} {B : Nat} {v : Value} {L : List AV} (h : OwnW w B v L) (hb : Below w.heap.size w w') : OwnW w' B v L :=
  ⟨World.ownsRow.kept h.row (show w.grownBy w' none from ⟨hb.os, hb.tape, hb.output, hb.size, fun k hk _ => hb.block k hk⟩) (by cases v.ownBlock <;> simp),
    fun y hy => (h.nums y hy).on hb, h.far⟩

theorem rd_flatV {w : World} {p : Addr} {L : List AV} (h : RdV w (some p) L) : ∀ j u, (L.flatMap AV.cells)[j]? = some u → w.cell? (p.add j) = some u := fun j u hu => by
  have hj : j < L.length * 3 := by
    by_cases q : j < L.length * 3
    · exact q
    · rw [List.getElem?_eq_none (by rw [vflat_len]; omega)] at hu; cases hu
  have ht : j / 3 < L.length := by omega
  obtain ⟨p', e, hA⟩ := h.at_ (j / 3) ht
  cases e
  have := vflat_at ht (j := j % 3) (by omega)
  rw [show j / 3 * 3 + j % 3 = j by omega] at this
  rw [this] at hu
  have c := hA (j % 3) u hu
  have e2 : p.add j = (p.add (j / 3 * 3)).add (j % 3) := by
    by_cases z : j / 3 = 0
    · rw [z, Nat.zero_mul]
      have : j % 3 = j := by omega
      rw [this]; simp [Addr.add]
    · by_cases z2 : j % 3 = 0
      · rw [z2, show j / 3 * 3 = j by omega]; simp [Addr.add]
      · simp only [Addr.add]
        have n1 : ¬ j / 3 * 3 = 0 := by omega
        have n2 : ¬ j = 0 := by omega
        simp [n1, n2, z2]
        omega
  rw [e2]
  exact c

theorem rd1_block {w : World} {q : Option Addr} {a : List Int} (h : Rd1 w q a) (ha : a ≠ []) {p : Addr} (e : q = some p) : p.block < w.heap.size := by
  obtain ⟨p', e2, c⟩ := h 0 (List.length_pos_iff.2 ha)
  rw [e] at e2
  cases e2
  have := World.block_lt_of_cell? w _ c
  rwa [add_block] at this

theorem appW_run {w : World} {B b : Nat} (hown : w.ownsRow B 25 3 (.slice (some ⟨b, 0, none⟩) 0 0) 0 []) {q : Option Addr} {L : List AV} {c : Nat} (hR : RdV w q L) (hN : q = none → L = [] ∧ c = 0) (hl : L.length ≤ 1000000) (hB : B ≤ w.heap.size) (ty : TypeId) :
    ∃ v' w', (Builtin.append_ #[22, 22] ty #[.slice (some ⟨b, 0, none⟩) 0 0, .slice q L.length c]).run Tryz.prog w = .ok v' w' ∧ OwnW w' B v' L ∧ w.grownBy w' (some b) := by
  obtain ⟨i0, hi, hz0, hz1, hz2⟩ := info_parts av_info3
  have U : Tryz.prog.underlying 22 = some (.slice 25) := Tryz.underlying22
  cases q with
  | none =>
    obtain ⟨rfl, rfl⟩ := hN rfl
    exact ⟨_, w, run_append_owned_none w B _ ty _ i0 3 U hi _ _ _ hown, ⟨hown, fun y h => by simp at h, fun y h => by simp at h⟩, World.grownBy.refl _ _⟩
  | some p =>
    by_cases e : L = []
    · subst e
      obtain ⟨w', hrun, r1, r2⟩ := run_append_fits (P := Tryz.prog) w B _ ty _ i0 3 U hi hz1 b 0 0 [] hown p 0 c [] rfl (by intro j u q; simp at q) (by simp) (by omega)
      exact ⟨_, w', hrun, ⟨r1, fun y h => by simp at h, fun y h => by simp at h⟩, r2⟩
    · have hp : 0 < L.length := List.length_pos_iff.2 e
      obtain ⟨v', w', hrun, r1, r2⟩ := run_append_arg_grows (P := Tryz.prog) w _ ty _ i0 (.agg av0.cs) 3 40 U hi hz0 hz1 hz2 rfl (by decide) ⟨b, 0, none⟩ 0 0 [] rfl (by intro j u q; simp at q) p L.length c (L.flatMap AV.cells) (vflat_len L) (rd_flatV hR) (by omega) (by unfold maxLen; omega) (by omega)
      rw [show ([] : List Value) ++ L.flatMap AV.cells = L.flatMap AV.cells from rfl, Nat.zero_add] at r1
      refine ⟨v', w', hrun, ⟨World.ownsRow.mono r1 hB, fun y hy => Rd1.grown (hR.nums y hy) r2 (fun p _ => by simp), fun y hy hne p e2 => fun k => ?_⟩, ⟨r2.os, r2.tape, r2.output, r2.size, fun k hk _ => r2.block k hk (by simp)⟩⟩
      have h1 := (World.ownsRow.lt r1 _ k).1
      have h2 := rd1_block (hR.nums y hy) hne e2
      omega

theorem appW1_run {w : World} {B : Nat} {v : Value} {L : List AV} (hown : OwnW w B v L) {b c : Nat} {y : AV} (hy : AvAt w ⟨b, 0, none⟩ y) (hn : Rd1 w y.q y.a) (hf : y.a ≠ [] → ∀ p, y.q = some p → v.ownBlock ≠ some p.block) (hle : L.length + 1 ≤ 1000000) (hB : B ≤ w.heap.size) (ty : TypeId) :
    ∃ v' w', (Builtin.append_ #[22, 22] ty #[v, .slice (some ⟨b, 0, none⟩) 1 c]).run Tryz.prog w = .ok v' w' ∧ OwnW w' B v' (L ++ [y]) ∧ w.grownBy w' v.ownBlock := by
  obtain ⟨i0, hi, hz0, hz1, hz2⟩ := info_parts av_info3
  obtain ⟨v', w', hr, h2, h3, _, h5⟩ := run_append_own_at (P := Tryz.prog) w B 22 ty 25 i0 (.agg av0.cs) 3 40 Tryz.underlying22 hi hz0 hz1 hz2 (by rfl) (by decide) v L.length _ hown.row ⟨b, 0, none⟩ 1 c y.cells
    (by rw [av_len]) (fun j u hu => hy j u hu) (by simp [AV.cells, Value.oneCell']) (by unfold maxLen; omega) (by omega) hB
  have hA : ∀ z, z ∈ L ++ [y] → Rd1 w z.q z.a ∧ (z.a ≠ [] → ∀ p, z.q = some p → v.ownBlock ≠ some p.block) := fun z hz => by
    rcases List.mem_append.1 hz with q | q
    · exact ⟨hown.nums z q, hown.far z q⟩
    · rw [List.mem_singleton] at q; subst q; exact ⟨hn, hf⟩
  refine ⟨v', w', hr, ⟨?_, fun z hz => ?_, fun z hz hne p e => ?_⟩, h3⟩
  · rw [List.flatMap_append, List.length_append]; simpa using h2
  · by_cases e : z.a = []
    · intro t ht; rw [e] at ht; simp at ht
    · exact (hA z hz).1.grown h3 (fun p q => (hA z hz).2 e p q)
  · rcases h5 with h5 | h5
    · rw [h5]; exact (hA z hz).2 hne p e
    · have := rd1_block (hA z hz).1 hne e
      rw [h5]; intro e2; injection e2 with e2; omega

theorem run_bv0 (w : World) : (Instr.buildSlice 22 0 #[]).run Tryz.prog w = .ok (.slice (some ⟨w.heap.size, 0, none⟩) 0 0) (w.alloc (.cells #[] 25)) := by
  have hz := av_zero w
  have hs := size_of av_size w
  simp [go_sem, Instr.buildSlice, run_underlying Tryz.underlying22, hs, Instr.fill]

theorem wp_bv0 {w : World} {o : Oper} {a : Act} {K : Act → World → Prop} {Q : Exit → Act → World → Prop} (ho : o.op = .buildSlice 22 0 #[])
    (h : K (a.put o.dst (.slice (some ⟨w.heap.size, 0, none⟩) 0 0)) (w.alloc (.cells #[] 25))) : o.wp Tryz.prog a w K Q := by
  have hv := run_bv0 w
  unfold Oper.wp execOp
  simp only [ho]
  simp [hv, Result.andThen]
  exact h

end Go.Proofs.YtbhaoaobhgilkaaGreat

namespace Go.Proofs.YtbhaoaobhgilkaaGreat
open Go.RowKit Go.Sort Go.Shelf

def BhB (L : List AV) (x : AV) (w : World) (e : Ending) (w' : World) : Prop := ∃ ro rc, e = .returned (.slice (some ro) (L.length + 1) rc) ∧ RdV w' (some ro) (L ++ [x]) ∧ Below w.heap.size w w' ∧ w.heap.size ≤ ro.block

set_option maxRecDepth 100000 in
set_option maxHeartbeats 4000000 in
theorem rbehindB_any (L : List AV) (ao : Option Addr) (cap : Nat) (x : AV) (w : World) (hR : RdV w ao L) (hN : ao = none → L = [] ∧ cap = 0) (hl : L.length ≤ 100000) (hx : Rd1 w x.q x.a) :
    Calls Tryz.prog 59 #[.slice ao L.length cap, .agg x.cs] w (BhB L x w) := by
  obtain ⟨m, hm⟩ : ∃ m, m = L.length := ⟨_, rfl⟩
  have HM := Lib.hid hm
  have HL := Lib.hid hl
  have HN := Lib.hid hN
  obtain ⟨w0, hw0⟩ : ∃ w0, w0 = w.alloc (.cells x.cs 25) := ⟨_, rfl⟩
  have E0 := Lib.hid (show Below w.heap.size w w0 by rw [hw0]; exact one_more _)
  have K0 := Lib.hid (show BkV w0 w.heap.size x by rw [hw0]; exact BkV.made w x)
  have R0 := Lib.hid (hR.on E0.out)
  have X0 := Lib.hid (hx.on E0.out)
  rw [← hm]
  clear hR hN hl hx hm
  go_enter Tryz.func59, Tryz.ntmps59
  go_upto_region 1 with (fail)
  rw [← hw0]
  clear hw0
  have KS := Lib.hid (show ∀ W, Below w0.heap.size w0 W → (BkV W w.heap.size x ∧ True) from fun W h => ⟨K0.out.kept h, trivial⟩)
  obtain ⟨wc, hwc⟩ : ∃ wc, wc = w0.drew := ⟨_, rfl⟩
  have Bc := Lib.hid (show Below w0.heap.size w0 wc by rw [hwc]; exact (Below.refl _ _).drew)
  refine wp_region_held_drew (S := (fun W => (BkV W w.heap.size x ∧ True))) (by kernel_rfl) (by rw [← hwc]; exact KS.out _ Bc.out) (fun h0 => ?_)
  rw [← hwc] at h0 ⊢
  clear hwc
  refine tkH (i := 1) (v := ?v1) rfl (Or.inl ⟨by rfl, ?hy1⟩) h0 ?rest1
  case hy1 => (intro w' hS; (try dsimp only at hS); go_simp; try (with_reducible rfl))
  simp only [Act.put, sZ]
  refine tkH (i := 3) (v := (.agg x.cs)) rfl (Or.inl ⟨by rfl, fun w' hS => yld_loadV _ rfl _ rfl hS.1.avAt⟩) h0 ?_
  simp only [Act.put, sZ]
  refine wpAnyH_ready (rs := [0, 4]) (by kernel_rfl) (by simp) (AllReadyH.cons rfl (fun K hK => ?_) (AllReadyH.cons rfl (fun K hK => ?_) AllReadyH.nil))
  · rw [if_pos (by rfl)]
    refine wp_bv0 rfl ?_
    have hb := one_more (w1 := wc) (.cells #[] 25)
    have hP := World.ownsRow_made wc #[] 0 (show w0.heap.size ≤ wc.heap.size from Bc.out.size) (Nat.zero_le _) (by simp) (e := 25) (size := 3)
    have hz := Bc.out.size
    obtain ⟨b5, hbb⟩ : ∃ b5, b5 = wc.heap.size := ⟨_, rfl⟩
    rw [← hbb] at hP hz
    obtain ⟨wn, hwn⟩ : ∃ wn, wn = wc.alloc (.cells #[] 25) := ⟨_, rfl⟩
    rw [← hwn] at hb hP ⊢
    try rw [← hbb]
    try (have Z9 := Lib.hid (show True ∧ b9 ≠ b5 from ⟨trivial, by have := A9.out.lt; omega⟩))
    try (have A9 := Lib.hid (A9.out.kept hb))
    have Bc := Lib.hid (below_on Bc.out hb)
    have P5 := Lib.hid hP
    have Z5 := Lib.hid hz
    clear hb hP hz hbb hwn
    obtain ⟨wc, hwc⟩ : ∃ wc, wc = wn := ⟨_, rfl⟩
    rw [← hwc] at Bc P5 ⊢
    try rw [← hwc] at A9
    clear hwc
    try simp only [Act.put, sA, sB, sD, sE, sF]
    refine hK.out _ _ (KS.out _ Bc.out) (fun h0_1 => ?_)
    clear hK K h0
    refine wpAnyH_ready (rs := [2, 4]) (by kernel_rfl) (by simp) (AllReadyH.cons rfl (fun K hK => ?_) (AllReadyH.cons rfl (fun K hK => ?_) AllReadyH.nil))
    · rw [if_pos (by rfl)]
      obtain ⟨v7, we, hrun, ho, hg⟩ := appW_run (B := w0.heap.size) P5.out (R0.out.on Bc.out) HN.out (by have := HL.out; omega) Bc.out.size 22 (c := cap)
      rw [← HM.out] at hrun
      refine Lib.wp_append_run _ _ _ 22 22 rfl (.slice (some ⟨b5, 0, none⟩) 0 0) (.slice ao m cap) rfl rfl _ _ hrun ?_
      try (have A9 := Lib.hid (A9.out.grown hg (by have := Z9.out.2; omega)))
      have Bc := Lib.hid (Below.grown Bc.out hg Bc.out.size (fun k hk => by have := Z5.out; injection hk with hk; omega))
      have O7 := Lib.hid ho
      clear hrun ho hg
      obtain ⟨wc, hwc⟩ : ∃ wc, wc = we := ⟨_, rfl⟩
      rw [← hwc] at Bc O7 ⊢
      try rw [← hwc] at A9
      clear hwc
      try simp only [Act.put, sZ]
      refine hK.out _ _ (KS.out _ Bc.out) (fun h0_2 => ?_)
      clear hK K h0_1
      refine wpAnyH_ready (rs := [4]) (by kernel_rfl) (by simp) (AllReadyH.cons rfl (fun K hK => ?_) AllReadyH.nil)
      rw [if_pos (by rfl)]
      refine wp_bv1 _ rfl x rfl ?_
      have hb := one_more (w1 := wc) (.cells x.cs 25)
      have hP := BkV.made wc x
      obtain ⟨b9, hbb⟩ : ∃ b9, b9 = wc.heap.size := ⟨_, rfl⟩
      rw [← hbb] at hP
      have hz : (b9 ≤ b9) := Nat.le_refl _
      obtain ⟨wn, hwn⟩ : ∃ wn, wn = wc.alloc (.cells x.cs 25) := ⟨_, rfl⟩
      rw [← hwn] at hb hP ⊢
      try rw [← hbb]
      try (have Z9 := Lib.hid (show True ∧ b9 ≠ b5 from ⟨trivial, by have := World.ownsRow.lt P5.out b5 rfl; omega⟩))
      try (have P5 := Lib.hid (World.ownsRow.kept P5.out (show wc.grownBy wn none from ⟨hb.os, hb.tape, hb.output, hb.size, fun k hk _ => hb.block k hk⟩) (Or.inr (by simp [Value.ownBlock]))))
      try (have O7 := Lib.hid (O7.out.on hb))
      have Bc := Lib.hid (below_on Bc.out hb)
      have A9 := Lib.hid hP
      clear hb hP hz hbb hwn
      obtain ⟨wc, hwc⟩ : ∃ wc, wc = wn := ⟨_, rfl⟩
      rw [← hwc] at Bc A9 ⊢
      try rw [← hwc] at P5
      try rw [← hwc] at O7
      clear hwc
      try simp only [Act.put, sZ]
      refine hK.out _ _ (KS.out _ Bc.out) (fun h0_3 => ?_)
      clear hK K h0_2
      refine wpAnyH_ready (rs := [5]) (by kernel_rfl) (by simp) (AllReadyH.cons rfl (fun K hK => ?_) AllReadyH.nil)
      rw [if_pos (by rfl)]
      obtain ⟨v10, we, hrun, ho, hg⟩ := appW1_run (O7.out) (c := 1) A9.out.avAt (X0.out.on Bc.out) (fun hne p e k => by have h1 := rd1_block X0.out hne e; have h2 := (World.ownsRow.lt O7.out.row _ k).1; omega) (by have := HL.out; omega) Bc.out.size 22
      refine Lib.wp_append_run _ _ _ 22 22 rfl _ (.slice (some ⟨b9, 0, none⟩) 1 1) rfl rfl _ _ hrun ?_
      have Bc := Lib.hid (Below.grown Bc.out hg Bc.out.size (fun k hk => (World.ownsRow.lt O7.out.row k hk).1))
      have O9 := Lib.hid ho
      clear hrun ho hg
      obtain ⟨wc, hwc⟩ : ∃ wc, wc = we := ⟨_, rfl⟩
      rw [← hwc] at Bc O9 ⊢
      clear hwc
      try simp only [Act.put, sZ]
      refine hK.out _ _ (KS.out _ Bc.out) (fun h0_4 => ?_)
      clear hK K h0_3
      refine tkH (i := 6) (v := ?v3) rfl (Or.inl ⟨by rfl, ?hy3⟩) h0_4 ?rest3
      case hy3 => (intro w' hS; (try dsimp only at hS); go_simp; try (with_reducible rfl))
      simp only [Act.put, sA, sB, sC, sD]
      try simp only [sF]
      try simp only [sE]
      refine wpAnyH_done (by kernel_rfl) ?_ _
      go_wp2_with fail
      go_ret
      obtain ⟨ao2, cap2, hv, hrd, hbk⟩ := O9.out.read
      cases ao2 with
      | none => exact absurd (hrd.at_ 0 (by simp)) (by simp)
      | some ro => exact ⟨ro, cap2, by rw [hv, List.length_append]; rfl, hrd, below_on E0.out Bc.out, Nat.le_trans E0.out.size (hbk ro rfl)⟩
    · rw [if_pos (by rfl)]
      refine wp_bv1 _ rfl x rfl ?_
      have hb := one_more (w1 := wc) (.cells x.cs 25)
      have hP := BkV.made wc x
      obtain ⟨b9, hbb⟩ : ∃ b9, b9 = wc.heap.size := ⟨_, rfl⟩
      rw [← hbb] at hP
      have hz : (b9 ≤ b9) := Nat.le_refl _
      obtain ⟨wn, hwn⟩ : ∃ wn, wn = wc.alloc (.cells x.cs 25) := ⟨_, rfl⟩
      rw [← hwn] at hb hP ⊢
      try rw [← hbb]
      try (have Z9 := Lib.hid (show True ∧ b9 ≠ b5 from ⟨trivial, by have := World.ownsRow.lt P5.out b5 rfl; omega⟩))
      try (have P5 := Lib.hid (World.ownsRow.kept P5.out (show wc.grownBy wn none from ⟨hb.os, hb.tape, hb.output, hb.size, fun k hk _ => hb.block k hk⟩) (Or.inr (by simp [Value.ownBlock]))))
      try (have O7 := Lib.hid (O7.out.on hb))
      have Bc := Lib.hid (below_on Bc.out hb)
      have A9 := Lib.hid hP
      clear hb hP hz hbb hwn
      obtain ⟨wc, hwc⟩ : ∃ wc, wc = wn := ⟨_, rfl⟩
      rw [← hwc] at Bc A9 ⊢
      try rw [← hwc] at P5
      try rw [← hwc] at O7
      clear hwc
      try simp only [Act.put, sZ]
      refine hK.out _ _ (KS.out _ Bc.out) (fun h0_2 => ?_)
      clear hK K h0_1
      refine wpAnyH_ready (rs := [2]) (by kernel_rfl) (by simp) (AllReadyH.cons rfl (fun K hK => ?_) AllReadyH.nil)
      rw [if_pos (by rfl)]
      obtain ⟨v7, we, hrun, ho, hg⟩ := appW_run (B := w0.heap.size) P5.out (R0.out.on Bc.out) HN.out (by have := HL.out; omega) Bc.out.size 22 (c := cap)
      rw [← HM.out] at hrun
      refine Lib.wp_append_run _ _ _ 22 22 rfl (.slice (some ⟨b5, 0, none⟩) 0 0) (.slice ao m cap) rfl rfl _ _ hrun ?_
      try (have A9 := Lib.hid (A9.out.grown hg (by have := Z9.out.2; omega)))
      have Bc := Lib.hid (Below.grown Bc.out hg Bc.out.size (fun k hk => by have := Z5.out; injection hk with hk; omega))
      have O7 := Lib.hid ho
      clear hrun ho hg
      obtain ⟨wc, hwc⟩ : ∃ wc, wc = we := ⟨_, rfl⟩
      rw [← hwc] at Bc O7 ⊢
      try rw [← hwc] at A9
      clear hwc
      try simp only [Act.put, sZ]
      refine hK.out _ _ (KS.out _ Bc.out) (fun h0_5 => ?_)
      clear hK K h0_2
      refine wpAnyH_ready (rs := [5]) (by kernel_rfl) (by simp) (AllReadyH.cons rfl (fun K hK => ?_) AllReadyH.nil)
      rw [if_pos (by rfl)]
      obtain ⟨v10, we, hrun, ho, hg⟩ := appW1_run (O7.out) (c := 1) A9.out.avAt (X0.out.on Bc.out) (fun hne p e k => by have h1 := rd1_block X0.out hne e; have h2 := (World.ownsRow.lt O7.out.row _ k).1; omega) (by have := HL.out; omega) Bc.out.size 22
      refine Lib.wp_append_run _ _ _ 22 22 rfl _ (.slice (some ⟨b9, 0, none⟩) 1 1) rfl rfl _ _ hrun ?_
      have Bc := Lib.hid (Below.grown Bc.out hg Bc.out.size (fun k hk => (World.ownsRow.lt O7.out.row k hk).1))
      have O9 := Lib.hid ho
      clear hrun ho hg
      obtain ⟨wc, hwc⟩ : ∃ wc, wc = we := ⟨_, rfl⟩
      rw [← hwc] at Bc O9 ⊢
      clear hwc
      try simp only [Act.put, sZ]
      refine hK.out _ _ (KS.out _ Bc.out) (fun h0_6 => ?_)
      clear hK K h0_5
      refine tkH (i := 6) (v := ?v4) rfl (Or.inl ⟨by rfl, ?hy4⟩) h0_6 ?rest4
      case hy4 => (intro w' hS; (try dsimp only at hS); go_simp; try (with_reducible rfl))
      simp only [Act.put, sA, sB, sC, sD]
      try simp only [sF]
      try simp only [sE]
      refine wpAnyH_done (by kernel_rfl) ?_ _
      go_wp2_with fail
      go_ret
      obtain ⟨ao2, cap2, hv, hrd, hbk⟩ := O9.out.read
      cases ao2 with
      | none => exact absurd (hrd.at_ 0 (by simp)) (by simp)
      | some ro => exact ⟨ro, cap2, by rw [hv, List.length_append]; rfl, hrd, below_on E0.out Bc.out, Nat.le_trans E0.out.size (hbk ro rfl)⟩
  · rw [if_pos (by rfl)]
    refine wp_bv1 _ rfl x rfl ?_
    have hb := one_more (w1 := wc) (.cells x.cs 25)
    have hP := BkV.made wc x
    obtain ⟨b9, hbb⟩ : ∃ b9, b9 = wc.heap.size := ⟨_, rfl⟩
    rw [← hbb] at hP
    have hz : (b9 ≤ b9) := Nat.le_refl _
    obtain ⟨wn, hwn⟩ : ∃ wn, wn = wc.alloc (.cells x.cs 25) := ⟨_, rfl⟩
    rw [← hwn] at hb hP ⊢
    try rw [← hbb]
    try (have Z9 := Lib.hid (show True ∧ b9 ≠ b5 from ⟨trivial, by have := World.ownsRow.lt P5.out b5 rfl; omega⟩))
    try (have P5 := Lib.hid (World.ownsRow.kept P5.out (show wc.grownBy wn none from ⟨hb.os, hb.tape, hb.output, hb.size, fun k hk _ => hb.block k hk⟩) (Or.inr (by simp [Value.ownBlock]))))
    try (have O7 := Lib.hid (O7.out.on hb))
    have Bc := Lib.hid (below_on Bc.out hb)
    have A9 := Lib.hid hP
    clear hb hP hz hbb hwn
    obtain ⟨wc, hwc⟩ : ∃ wc, wc = wn := ⟨_, rfl⟩
    rw [← hwc] at Bc A9 ⊢
    try rw [← hwc] at P5
    try rw [← hwc] at O7
    clear hwc
    try simp only [Act.put, sZ]
    refine hK.out _ _ (KS.out _ Bc.out) (fun h0_1 => ?_)
    clear hK K h0
    refine wpAnyH_ready (rs := [0]) (by kernel_rfl) (by simp) (AllReadyH.cons rfl (fun K hK => ?_) AllReadyH.nil)
    rw [if_pos (by rfl)]
    refine wp_bv0 rfl ?_
    have hb := one_more (w1 := wc) (.cells #[] 25)
    have hP := World.ownsRow_made wc #[] 0 (show w0.heap.size ≤ wc.heap.size from Bc.out.size) (Nat.zero_le _) (by simp) (e := 25) (size := 3)
    have hz := Bc.out.size
    obtain ⟨b5, hbb⟩ : ∃ b5, b5 = wc.heap.size := ⟨_, rfl⟩
    rw [← hbb] at hP hz
    obtain ⟨wn, hwn⟩ : ∃ wn, wn = wc.alloc (.cells #[] 25) := ⟨_, rfl⟩
    rw [← hwn] at hb hP ⊢
    try rw [← hbb]
    try (have Z9 := Lib.hid (show True ∧ b9 ≠ b5 from ⟨trivial, by have := A9.out.lt; omega⟩))
    try (have A9 := Lib.hid (A9.out.kept hb))
    have Bc := Lib.hid (below_on Bc.out hb)
    have P5 := Lib.hid hP
    have Z5 := Lib.hid hz
    clear hb hP hz hbb hwn
    obtain ⟨wc, hwc⟩ : ∃ wc, wc = wn := ⟨_, rfl⟩
    rw [← hwc] at Bc P5 ⊢
    try rw [← hwc] at A9
    clear hwc
    try simp only [Act.put, sA, sB, sD, sE, sF]
    refine hK.out _ _ (KS.out _ Bc.out) (fun h0_7 => ?_)
    clear hK K h0_1
    refine wpAnyH_ready (rs := [2]) (by kernel_rfl) (by simp) (AllReadyH.cons rfl (fun K hK => ?_) AllReadyH.nil)
    rw [if_pos (by rfl)]
    obtain ⟨v7, we, hrun, ho, hg⟩ := appW_run (B := w0.heap.size) P5.out (R0.out.on Bc.out) HN.out (by have := HL.out; omega) Bc.out.size 22 (c := cap)
    rw [← HM.out] at hrun
    refine Lib.wp_append_run _ _ _ 22 22 rfl (.slice (some ⟨b5, 0, none⟩) 0 0) (.slice ao m cap) rfl rfl _ _ hrun ?_
    try (have A9 := Lib.hid (A9.out.grown hg (by have := Z9.out.2; omega)))
    have Bc := Lib.hid (Below.grown Bc.out hg Bc.out.size (fun k hk => by have := Z5.out; injection hk with hk; omega))
    have O7 := Lib.hid ho
    clear hrun ho hg
    obtain ⟨wc, hwc⟩ : ∃ wc, wc = we := ⟨_, rfl⟩
    rw [← hwc] at Bc O7 ⊢
    try rw [← hwc] at A9
    clear hwc
    try simp only [Act.put, sZ]
    refine hK.out _ _ (KS.out _ Bc.out) (fun h0_8 => ?_)
    clear hK K h0_7
    refine wpAnyH_ready (rs := [5]) (by kernel_rfl) (by simp) (AllReadyH.cons rfl (fun K hK => ?_) AllReadyH.nil)
    rw [if_pos (by rfl)]
    obtain ⟨v10, we, hrun, ho, hg⟩ := appW1_run (O7.out) (c := 1) A9.out.avAt (X0.out.on Bc.out) (fun hne p e k => by have h1 := rd1_block X0.out hne e; have h2 := (World.ownsRow.lt O7.out.row _ k).1; omega) (by have := HL.out; omega) Bc.out.size 22
    refine Lib.wp_append_run _ _ _ 22 22 rfl _ (.slice (some ⟨b9, 0, none⟩) 1 1) rfl rfl _ _ hrun ?_
    have Bc := Lib.hid (Below.grown Bc.out hg Bc.out.size (fun k hk => (World.ownsRow.lt O7.out.row k hk).1))
    have O9 := Lib.hid ho
    clear hrun ho hg
    obtain ⟨wc, hwc⟩ : ∃ wc, wc = we := ⟨_, rfl⟩
    rw [← hwc] at Bc O9 ⊢
    clear hwc
    try simp only [Act.put, sZ]
    refine hK.out _ _ (KS.out _ Bc.out) (fun h0_9 => ?_)
    clear hK K h0_8
    refine tkH (i := 6) (v := ?v5) rfl (Or.inl ⟨by rfl, ?hy5⟩) h0_9 ?rest5
    case hy5 => (intro w' hS; (try dsimp only at hS); go_simp; try (with_reducible rfl))
    simp only [Act.put, sA, sB, sC, sD]
    try simp only [sF]
    try simp only [sE]
    refine wpAnyH_done (by kernel_rfl) ?_ _
    go_wp2_with fail
    go_ret
    obtain ⟨ao2, cap2, hv, hrd, hbk⟩ := O9.out.read
    cases ao2 with
    | none => exact absurd (hrd.at_ 0 (by simp)) (by simp)
    | some ro => exact ⟨ro, cap2, by rw [hv, List.length_append]; rfl, hrd, below_on E0.out Bc.out, Nat.le_trans E0.out.size (hbk ro rfl)⟩
end Go.Proofs.YtbhaoaobhgilkaaGreat
