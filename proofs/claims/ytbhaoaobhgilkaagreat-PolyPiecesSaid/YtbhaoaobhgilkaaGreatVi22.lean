/- The contract of package poly's lines.; Contracts of layer 7's reference: size, divisor, order, zero.; Contracts of what the statements compare with: SameLongs, SameRatios. -/
import Derived.Test.YtbhaoaobhgilkaaGreatVi16
import Derived.Test.YtbhaoaobhgilkaaGreatVi17
import Derived.BigQuiet
import Derived.Deep.QuietTactic
import Derived.Test.YtbhaoaobhgilkaaGreatVi21

namespace Go.Proofs.YtbhaoaobhgilkaaGreat
open Go.RowKit Go.Sort Go.Shelf

def av0 : AV := ⟨none, 0, [], 0, false⟩

/-- A block that holds one line of package api. -/
def BkV (w : World) (b : Nat) (y : AV) : Prop := w.heap[b]? = some (.cells y.cs 25 (0, 0))

theorem BkV.made (w : World) (y : AV) : BkV (w.alloc (.cells y.cs 25)) w.heap.size y := heap_alloc_last w _

theorem BkV.lt {w : World} {b : Nat} {y : AV} (h : BkV w b y) : b < w.heap.size := by
  by_cases e : b < w.heap.size
  · exact e
  · unfold BkV at h; rw [Array.getElem?_eq_none (by omega)] at h; cases h

theorem BkV.kept {w w' : World} {b : Nat} {y : AV} (h : BkV w b y) (hb : Below w.heap.size w w') : BkV w' b y := (hb.block b h.lt).trans h

theorem BkV.setRow {w : World} {b : Nat} {y z : AV} (h : BkV w b y) : BkV (w.setRow b z.cs) b z := setRow_heap w b _ _ _ _ h

theorem BkV.avAt {w : World} {b : Nat} {y : AV} (h : BkV w b y) : AvAt w ⟨b, 0, none⟩ y := fun j v hv => by
  rw [addr_add, Nat.zero_add, cell_of_row w b j _ _ _ h]
  simpa [AV.cs] using hv

theorem av_zero (w : World) : (zeroValue 25).run Tryz.prog w = .ok (.agg av0.cs) w := (zero_of_info (show (Tryz.prog.info? 25).map (fun i => (i.zero, i.size)) = some (some (.agg av0.cs), 3) by kernel_rfl)).1 w

theorem wp_storeV {w : World} {o : Oper} {a : Act} {K : Act → World → Prop} {Q : Exit → Act → World → Prop} (s t : Operand) (ho : o.op = .store 25 s t) (b : Nat) (z : AV) (hs : a.eval s = .pointer (some ⟨b, 0, none⟩)) (ht : a.eval t = .agg z.cs) (old : AV) (hv : BkV w b old)
    (h : K (a.put o.dst undef) (w.setRow b z.cs)) : o.wp Tryz.prog a w K Q := by
  have hr := run_storeVar_row (P := Tryz.prog) w b 25 25 old.cs z.cs hv av_size rfl (by simp [AV.cs, AV.cells, Value.oneCell'])
  generalize z.cs = V at *
  unfold Oper.wp execOp
  simp only [ho, hs, ht, Instr.storeAt, Instr.sureAddr, Sem.run_bind, Sem.run_pure, Result.andThen_ok, hr]
  exact h

theorem wpl_storeV {w : World} {ops : Array Oper} {rest : List Oper} {o : Oper} {a : Act} {Q : Exit → Act → World → Prop} (hgd : o.guard = none) (s t : Operand) (ho : o.op = .store 25 s t) (b : Nat) (z : AV) (hs : a.eval s = .pointer (some ⟨b, 0, none⟩)) (ht : a.eval t = .agg z.cs) (old : AV) (hv : BkV w b old)
    (h : wpList Tryz.prog ops Q rest (a.put o.dst undef) (w.setRow b z.cs)) : wpList Tryz.prog ops Q (o :: rest) a w :=
  wpList_plain hgd fun _ hK => wp_storeV s t ho b z hs ht old hv (hK _ _ h)

/-- 'make([]line, n)'. -/
theorem make_lines (w : World) (n : Nat) (hn : n ≤ 100000) : ∃ cur : Array Value, (Instr.makeSlice 66 (.int .i64 n) (.int .i64 n)).run Tryz.prog w = .ok (.slice (some ⟨w.heap.size, 0, none⟩) n n) (w.alloc (.cells cur 82))
    ∧ Rw (w.alloc (.cells cur 82)) w.heap.size (List.replicate n ln0) := by
  obtain ⟨i0, hi, hz0, hz1, hz2⟩ := info_parts ln_info3
  have hr := run_make (P := Tryz.prog) w 66 82 i0 _ Tryz.underlying66 hi hz0 .i64 .i64 (n : Int) (n : Int) (by omega) (by omega) (by rw [hz2]; omega) (by omega)
  simp only [Int.toNat_natCast] at hr
  rw [hz1] at hr
  have hb := heap_alloc_last w (.cells (madeCells ln0.cs (n * 8)) 82)
  refine ⟨_, hr, fun i hi => ?_, fun j hj => ?_⟩
  · rw [List.getElem_replicate]
    have hin : i < n := by simpa using hi
    refine ⟨rfl, fun j v hv => ?_⟩
    have hj : j < 8 := by
      by_cases q : j < 8
      · exact q
      · rw [List.getElem?_eq_none (by rw [Ln.cells_len rfl]; omega)] at hv; cases hv
    rw [addr_add]
    have e : (Value.agg ln0.cs).cells = ln0.cs := rfl
    show World.cell? (w.alloc (.cells (madeCells (Value.agg ln0.cs).cells (n * 8)) 82)) _ = _
    rw [e, cell_of_row _ _ _ _ _ _ hb]
    have hlt : i * 8 + j < n * 8 := by omega
    have hm : (i * 8 + j) % 8 = j := by omega
    have hs : ln0.cs.size = 8 := rfl
    rw [madeCells, Array.getElem?_map, Array.getElem?_range, if_pos hlt]
    simp only [Option.map_some, hs, hm]
    have hjl : j < ln0.cs.size := by rw [hs]; exact hj
    rw [getElem!_pos ln0.cs j hjl]
    have : ln0.cs[j]? = some v := by simpa [Ln.cs] using hv
    rw [Array.getElem?_eq_getElem hjl] at this
    exact this
  · have hj' : j < n * 8 := by simpa using hj
    have e : (Value.agg ln0.cs).cells = ln0.cs := rfl
    show (World.cell? (w.alloc (.cells (madeCells (Value.agg ln0.cs).cells (n * 8)) 82)) _).isSome = true ∧ World.frozen? (w.alloc (.cells (madeCells (Value.agg ln0.cs).cells (n * 8)) 82)) _ = false
    rw [e]
    refine ⟨?_, frozen_of_row _ _ _ _ _ hb⟩
    rw [cell_of_row _ _ _ _ _ _ hb, Array.getElem?_eq_getElem (by rw [size_madeCells]; exact hj')]
    rfl

/-- The row while lines fills it. -/
def rowV (L : List AV) (t : Nat) : List Ln := (L.take t).map ofV ++ List.replicate (L.length - t) ln0

theorem rowV_len {L : List AV} {t : Nat} (ht : t ≤ L.length) : (rowV L t).length = L.length := by simp [rowV]; omega

theorem rowV_set {L : List AV} {t : Nat} (ht : t < L.length) : (rowV L t).set t (ofV L[t]) = rowV L (t + 1) := by
  unfold rowV
  rw [List.take_succ_eq_append_getElem ht, List.map_append, List.set_append_right _ _ (by simp; omega)]
  obtain ⟨k, hk⟩ : ∃ k, L.length - t = k + 1 := ⟨L.length - t - 1, by omega⟩
  rw [hk, show L.length - (t + 1) = k by omega, List.replicate_succ, show t - ((L.take t).map ofV).length = 0 by simp; omega]
  simp

set_option maxRecDepth 100000 in
set_option maxHeartbeats 4000000 in
theorem lines_row (L : List AV) (ao : Option Addr) (cap : Nat) (w : World) (hl : L.length ≤ 100000) (hR : RdV w ao L) (h6 : ∀ y ∈ L, y.a.length ≤ 6) :
    Calls Tryz.prog 45 #[.slice ao L.length cap] w (fun e w' => ∃ b, e = .returned (.slice (some ⟨b, 0, none⟩) (L.map ofV).length (L.map ofV).length) ∧ Rw w' b (L.map ofV) ∧ (w.heap.size ≤ b ∧ b < w'.heap.size) ∧ Below w.heap.size w w') := by
  have hz := av_zero
  have HR := Lib.hid hR
  have H6 := Lib.hid h6
  obtain ⟨cur, hmk, hrw⟩ := make_lines w L.length hl
  obtain ⟨n, hn⟩ : ∃ n, n = L.length := ⟨_, rfl⟩
  have HN := Lib.hid hn
  have hle : n ≤ 100000 := by omega
  obtain ⟨w0, hw0⟩ : ∃ w0, w0 = w.alloc (.cells cur 82) := ⟨_, rfl⟩
  rw [← hw0] at hmk hrw
  have W0 := Lib.hid (show Rw w0 w.heap.size (rowV L 0) by simpa [rowV] using hrw)
  have E0 := Lib.hid (show Below w.heap.size w w0 by rw [hw0]; exact one_more _)
  have Z0 := Lib.hid (show w.heap.size < w0.heap.size by rw [hw0]; simp)
  obtain ⟨b, hb⟩ : ∃ b, b = w.heap.size := ⟨_, rfl⟩
  have HB0 := Lib.hid hb
  rw [← hn] at hmk
  rw [← hn]
  rw [← hb] at hmk
  clear hl hR h6 hn hrw hw0 hb
  go_enter Tryz.func45, Tryz.ntmps45
  go_wp2_with (rw [hmk])
  go_loopw [11] (fun s wr => ∃ t : Nat, s = .int .i64 t ∧ t ≤ n ∧ Hid (Rw wr b (rowV L t)) ∧ Hid (Below w.heap.size w wr) ∧ Hid (b < wr.heap.size)) (fun s _ => n - (intOf s).toNat)
  case atStart => exact ⟨0, rfl, by omega, Lib.hid (by rw [HB0.out]; exact W0.out), E0, Lib.hid (by rw [HB0.out]; exact Z0.out)⟩
  case round =>
    clear hmk
    obtain ⟨t, rfl, ht, HW, HB, HZ⟩ := hrel
    by_cases htn : t < n
    · have hlt : t < L.length := by have := HN.out; omega
      obtain ⟨p, hp, c0⟩ := (HR.out.on HB.out).at_ t hlt
      obtain ⟨y, hy⟩ : ∃ y, y = L[t] := ⟨_, rfl⟩
      have hm := List.getElem_mem hlt
      rw [← hy] at c0 hm
      have C0 := Lib.hid c0
      have RS := Lib.hid (show (rowV L t).set t (ofV y) = rowV L (t + 1) by rw [hy]; exact rowV_set hlt)
      have RL := Lib.hid (rowV_len (L := L) (t := t) (by omega))
      have Y6 := Lib.hid (H6.out y hm)
      have YN := Lib.hid ((HR.out.on HB.out).nums y hm)
      have N1 := Lib.hid (BkV.made wr av0)
      have N2 := Lib.hid (N1.out.setRow (z := y))
      have B2 := Lib.hid (Below.setRow ((Below.refl wr.heap.size wr).alloc (Nat.le_refl _) (.cells av0.cs 25)) (b := wr.heap.size) (Nat.le_refl _) y.cs)
      clear c0 hy hm hlt
      subst hp
      go_upto_region 5 with (first | refine wpl_loadV rfl _ rfl _ rfl y C0.out ?_ | refine wpl_storeV rfl _ _ rfl _ _ rfl rfl _ N1.out ?_)
      generalize (wr.alloc (.cells av0.cs 25)).setRow wr.heap.size y.cs = w1 at *
      have YN1 := Lib.hid (YN.out.on B2.out)
      have W1 := Lib.hid (HW.out.on B2.out HZ.out)
      have B1 := Lib.hid (below_on HB.out B2.out)
      have Z1 := Lib.hid (show b < w1.heap.size from Nat.lt_of_lt_of_le HZ.out B2.out.size)
      obtain ⟨q, hq⟩ : ∃ q, q = wr.heap.size := ⟨_, rfl⟩
      rw [← hq] at N2 ⊢
      clear N1 B2 HW HB HZ C0 YN hq
      go_wp2_with (refine wpl_loadV rfl _ rfl _ rfl y N2.out.avAt ?_)
      refine (lineOf_any y w1 Y6.out YN1.out).mono ?_
      rintro e w2 ⟨rfl, hb⟩
      have W2 := Lib.hid (W1.out.on hb Z1.out)
      have B3 := Lib.hid (below_on B1.out hb)
      have Z2 := Lib.hid (show b < w2.heap.size from Nat.lt_of_lt_of_le Z1.out hb.size)
      have L6 := Lib.hid (show (ofV y).a.length = 6 by have := Y6.out; simp [ofV]; omega)
      have tn : t < (rowV L t).length := by rw [RL.out]; have := HN.out; omega
      have HT := Lib.hid (show w2.there b (t * 8) (ofV y).cs.size from fun j hj => by
        rw [Ln.size L6.out] at hj
        exact W2.out.2 (t * 8 + j) (by omega))
      have W3 := Lib.hid (show Rw (w2.setCells b (t * 8) (ofV y).cells) b (rowV L (t + 1)) by rw [← RS.out]; exact W2.out.set tn L6.out)
      have B4 := Lib.hid (show Below w.heap.size w (w2.setCells b (t * 8) (ofV y).cells) from Below.setCells (by have := HB0.out; omega) (ofV y).cells (t * 8) _ B3.out)
      have Z4 := Lib.hid (show b < (w2.setCells b (t * 8) (ofV y).cells).heap.size from
        Nat.lt_of_lt_of_le Z2.out ((Below.setCells (Nat.zero_le b) (ofV y).cells (t * 8) w2 (Below.refl 0 w2)).size))
      clear hb tn
      go_wp2_with (refine wpList_store_mid rfl _ _ _ rfl b (t * 8) (ofV y).cs rfl rfl HT.out (by rw [Ln.size L6.out]; exact ln_size) (Ln.one _) ?_)
      go_roundw
      case rel => exact ⟨t + 1, by go_num, by omega, W3, B4, Z4⟩
      case measure => simp [intOf]; omega
    · have e : rowV L t = L.map ofV := by
        have h1 := HN.out
        have h2 : t = L.length := by omega
        rw [h2]; simp [rowV]
      have HE := Lib.hid (show Rw wr b (L.map ofV) by rw [← e]; exact HW.out)
      clear e
      go_wp2_with fail
      go_ret
      exact ⟨b, by simp [← HN.out], HE.out, ⟨by rw [HB0.out]; exact Nat.le_refl _, HZ.out⟩, HB.out⟩

theorem lines_any (L : List AV) (ao : Option Addr) (cap : Nat) (w : World) (hl : L.length ≤ 100000) (hR : RdV w ao L) (h6 : ∀ y ∈ L, y.a.length ≤ 6) :
    Calls Tryz.prog 45 #[.slice ao L.length cap] w (LRes w (L.map ofV)) := by
  refine (lines_row L ao cap w hl hR h6).mono ?_
  rintro e w' ⟨b, rfl, h1, _, h3⟩
  exact ⟨_, _, rfl, h1.rd, h3⟩
end Go.Proofs.YtbhaoaobhgilkaaGreat

namespace Go.Proofs.YtbhaoaobhgilkaaGreat
open Go.RowKit Go.Sort

end Go.Proofs.YtbhaoaobhgilkaaGreat

namespace Go.Proofs.YtbhaoaobhgilkaaGreat
open Go.RowKit Go.Sort

set_option maxRecDepth 20000 in
set_option maxHeartbeats 1000000 in
theorem sameI_any (l m : List Int) (ao bo : Option Addr) (ca cb : Nat) (w : World) (hl : l.length ≤ 1000000) (hR : Rd1 w ao l) (hS : Rd1 w bo m) :
    Calls Tryz.prog 48 #[.slice ao l.length ca, .slice bo m.length cb] w (fun e w' => e = .returned (.bool (decide (l = m))) ∧ ∃ k, w' = w.drewN k) := by
  by_cases hm : l.length = m.length
  case neg =>
    have HF := Lib.hid (show decide (l = m) = false from decide_eq_false (fun e => hm (by rw [e])))
    have D : ((l.length : Int) != (m.length : Int)) = true := by simp; omega
    clear hR hS
    generalize l.length = c at *
    generalize m.length = d at *
    go_enter Tryz.func48, Tryz.ntmps48
    go_wp2_with fail
    go_ret
    exact ⟨ret_bool HF.out.symm, 0, rfl⟩
  have HR := Lib.hid hR
  have HS := Lib.hid hS
  obtain ⟨n, hn⟩ : ∃ n, n = l.length := ⟨_, rfl⟩
  have HL := Lib.hid hn
  have HM := Lib.hid (show n = m.length by omega)
  rw [← hm, ← hn]
  have hle : n ≤ 1000000 := by omega
  clear hl hm hR hS hn
  go_enter Tryz.func48, Tryz.ntmps48
  go_wp2_with fail
  go_loopw [5] (fun s wr => ∃ t : Nat, s = .int .i64 t ∧ t ≤ n ∧ Hid (∀ i, i < t → gA l i = gA m i) ∧ ∃ k, wr = w.drewN k) (fun s _ => n - (intOf s).toNat)
  case atStart => exact ⟨0, rfl, by omega, Lib.hid (fun i h => by omega), 0, rfl⟩
  case round =>
    obtain ⟨t, rfl, ht, HF, k, rfl⟩ := hrel
    by_cases htn : t < n
    · obtain ⟨a, ha, c0⟩ := HR.out t (by have := HL.out; omega)
      obtain ⟨b, hb, c1⟩ := HS.out t (by have := HM.out; omega)
      obtain ⟨u, hu⟩ : ∃ u, u = gA l t := ⟨_, rfl⟩
      obtain ⟨v, hv⟩ : ∃ v, v = gA m t := ⟨_, rfl⟩
      have HU := Lib.hid hu
      have HV := Lib.hid hv
      rw [← hu] at c0
      rw [← hv] at c1
      clear hu hv
      subst ha
      subst hb
      by_cases h1 : u = v
      · have HF' := Lib.hid (show ∀ i, i < t + 1 → gA l i = gA m i from fun i hi => by
          by_cases e : i = t
          · subst e; rw [← HU.out, ← HV.out]; omega
          · exact HF.out i (by omega))
        have D : (u != v) = false := by simpa using h1
        clear h1
        go_wp2_with fail
        go_quiet (fail)
        go_wp2_with fail
        go_roundw
        case rel => exact ⟨t + 1, by go_num, by omega, HF', _, rfl⟩
        case measure => simp [intOf]; omega
      · have HE := Lib.hid (show decide (l = m) = false from decide_eq_false (fun e => h1 (by rw [HU.out, HV.out, e])))
        have D : (u != v) = true := by simpa using h1
        clear h1
        go_wp2_with fail
        go_quiet (fail)
        go_wp2_with fail
        go_ret
        exact ⟨ret_bool HE.out.symm, _, World.drewN_drewN _ _ _⟩
    · have HE := Lib.hid (show decide (l = m) = true from decide_eq_true (gA_ext (by have := HL.out; have := HM.out; omega) fun i hi => HF.out i (by have := HL.out; omega)))
      go_wp2_with fail
      go_ret
      exact ⟨ret_bool HE.out.symm, k, rfl⟩

theorem rat_ext {cs ds : List Pq} (hl : cs.length = ds.length) (h : ∀ k, k < cs.length → gp cs k = gp ds k) : cs = ds := by
  apply List.ext_getElem hl
  intro i h1 h2
  have := h i h1
  simpa [gp, h1, h2] using this

theorem QAt.two {w : World} {a : Addr} {t : Nat} {x : Pq} (h : QAt w (a.add (t * 2)) x) : w.cell? (a.add (t * 2)) = some (.int .i64 x.1) ∧ w.cell? ⟨(a.add (t * 2)).block, (a.add (t * 2)).off + 1, none⟩ = some (.int .i64 x.2) := by
  refine ⟨by have := h.1; rwa [show (a.add (t * 2)).add 0 = a.add (t * 2) by simp [Addr.add]] at this, ?_⟩
  have := h.2
  generalize a.add (t * 2) = b at *
  unfold Addr.add at this
  rwa [if_neg (by omega)] at this

set_option maxRecDepth 100000 in
set_option maxHeartbeats 1600000 in
theorem srat_any (cs ds : List Pq) (ao bo : Option Addr) (ca cb : Nat) (w : World) (hA : Rd2 w ao cs) (hB : Rd2 w bo ds) (hl : cs.length ≤ 1000) :
    Calls Tryz.prog 27 #[.slice ao cs.length ca, .slice bo ds.length cb] w (Made (.bool (decide (cs = ds))) w) := by
  by_cases hlen : cs.length = ds.length
  case neg =>
    have HF := Lib.hid (show decide (cs = ds) = false from decide_eq_false (fun e => hlen (by rw [e])))
    have D : ((cs.length : Int) != (ds.length : Int)) = true := by simp; omega
    clear hA hB
    generalize cs.length = c at *
    generalize ds.length = d at *
    go_enter Tryz.func27, Tryz.ntmps27
    go_wp2_with fail
    go_ret
    exact ⟨ret_bool HF.out.symm, Below.refl _ _⟩
  case pos =>
    have D : ((cs.length : Int) != (ds.length : Int)) = false := by simp; omega
    obtain ⟨len, hc⟩ : ∃ len, len = cs.length := ⟨_, rfl⟩
    have hd : ds.length = len := by omega
    have HC := Lib.hid hc
    have HDD := Lib.hid hd
    have HA := Lib.hid hA
    have HB := Lib.hid hB
    rw [hd, ← hc] at D
    rw [hd, ← hc]
    have hl2 : len ≤ 1000 := by omega
    clear hlen hc hd hA hB hl
    go_enter Tryz.func27, Tryz.ntmps27
    go_wp2_with fail
    go_loopw [5] (fun s wr => ∃ t : Nat, t ≤ len ∧ s = .int .i64 t ∧ Hid (∀ k, k < t → gp cs k = gp ds k) ∧ Hid (Below w.heap.size w wr)) (fun s _ => len - (intOf s).toNat)
    case atStart => exact ⟨0, by omega, rfl, Lib.hid (fun k hk => by omega), Lib.hid (Below.refl _ _)⟩
    case round =>
      obtain ⟨t, ht, rfl, HT, HW⟩ := hrel
      by_cases htn : t < len
      case pos =>
        obtain ⟨a, rfl, hR⟩ := (HA.out.on HW.out) t (by rw [← HC.out]; exact htn)
        obtain ⟨b, rfl, hS⟩ := (HB.out.on HW.out) t (by rw [HDD.out]; exact htn)
        obtain ⟨a0, a1⟩ := hR.two
        obtain ⟨b0, b1⟩ := hS.two
        clear hR hS
        obtain ⟨p, hp⟩ : ∃ p, p = gp cs t := ⟨_, rfl⟩
        obtain ⟨q, hq⟩ : ∃ q, q = gp ds t := ⟨_, rfl⟩
        rw [← hp] at a0 a1
        rw [← hq] at b0 b1
        have HP := Lib.hid hp
        have HQ := Lib.hid hq
        clear hp hq
        obtain ⟨i, j⟩ := p
        obtain ⟨i', j'⟩ := q
        simp only at a0 a1 b0 b1
        by_cases he : ((i, j) : Pq) = (i', j')
        case pos =>
          have HT2 := Lib.hid (show ∀ k, k < t + 1 → gp cs k = gp ds k from fun k hk => by
            by_cases e : k = t
            · rw [e, ← HP.out, ← HQ.out]; exact he
            · exact HT.out k (by omega))
          simp only [Prod.mk.injEq] at he
          obtain ⟨rfl, rfl⟩ := he
          go_wp2_with fail
          go_quiet (fail)
          go_wp2_with fail
          go_roundw
          case rel => exact ⟨t + 1, by omega, by go_num, HT2, Lib.hid (below_drewN HW.out _)⟩
          case measure => simp [intOf]; omega
        case neg =>
          have HF := Lib.hid (show decide (cs = ds) = false from decide_eq_false (fun e => he (by rw [HP.out, HQ.out, e])))
          by_cases c1 : i = i'
          case neg =>
            have D1 : (i == i') = false := by simpa using c1
            clear he c1
            go_wp2_with fail
            go_quiet (fail)
            go_wp2_with fail
            go_ret
            exact ⟨ret_bool HF.out.symm, below_drewN HW.out _⟩
          case pos =>
            have c2 : j ≠ j' := fun e => he (by rw [c1, e])
            have D1 : (j == j') = false := by simpa using c2
            subst c1
            clear he c2
            go_wp2_with fail
            go_quiet (fail)
            go_wp2_with fail
            go_ret
            exact ⟨ret_bool HF.out.symm, below_drewN HW.out _⟩
      case neg =>
        have HF := Lib.hid (show decide (cs = ds) = true from decide_eq_true (rat_ext (by rw [← HC.out, HDD.out]) (fun k hk => HT.out k (by rw [← HC.out] at hk; omega))))
        go_wp2_with fail
        go_ret
        exact ⟨ret_bool HF.out.symm, HW.out⟩
end Go.Proofs.YtbhaoaobhgilkaaGreat
