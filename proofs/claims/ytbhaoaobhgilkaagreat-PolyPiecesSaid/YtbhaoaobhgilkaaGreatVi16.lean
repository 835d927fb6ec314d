/- Contracts of package poly: isEmpty, demand, isValid, Check; lines of package api in memory.; Contracts of package poly: Check, demand, isEmpty, lineOf. -/
import Derived.Test.YtbhaoaobhgilkaaGreatVi15
import Derived.Laws.CopyRow

namespace Go.Proofs.YtbhaoaobhgilkaaGreat
open Go.RowKit Go.Sort Go.Shelf

/-- A line of package api: where its coefficients lie, and its numbers. -/
structure AV where
  q : Option Addr
  c : Nat
  a : List Int
  b : Int
  s : Bool

def AV.cells (y : AV) : List Value := [.slice y.q y.a.length y.c, .int .i64 y.b, .bool y.s]

def AV.cs (y : AV) : Array Value := ⟨y.cells⟩

/-- It lies at an address. -/
def AvAt (w : World) (p : Addr) (y : AV) : Prop := ∀ j v, y.cells[j]? = some v → w.cell? (p.add j) = some v

theorem AvAt.on {w w' : World} {p : Addr} {y : AV} (h : AvAt w p y) (hb : Below w.heap.size w w') : AvAt w' p y := fun j v hv => kept hb (h j v hv)

/-- A list of lines of package api that can be read. -/
structure RdV (w : World) (ao : Option Addr) (L : List AV) : Prop where
  at_ : ∀ t, ∀ h : t < L.length, ∃ p, ao = some p ∧ AvAt w (p.add (t * 3)) L[t]
  nums : ∀ y ∈ L, Rd1 w y.q y.a

theorem RdV.on {w w' : World} {ao : Option Addr} {L : List AV} (h : RdV w ao L) (hb : Below w.heap.size w w') : RdV w' ao L :=
  ⟨fun t ht => by obtain ⟨p, e, c⟩ := h.at_ t ht; exact ⟨p, e, c.on hb⟩, fun y hy => (h.nums y hy).on hb⟩

theorem av_size : (Tryz.prog.info? 25).map (·.size) = some 3 := by kernel_rfl

theorem av_loadP {w : World} {p : Addr} {y : AV} (h : AvAt w p y) : (loadVar 25 p).run Tryz.prog w = .ok (.agg y.cs) w := by
  have hc := run_loadCells_list (P := Tryz.prog) w p y.cells h
  have ha : (isAgg 25).run Tryz.prog w = .ok true w := by
    unfold isAgg; rw [Sem.run_bind, run_underlying Tryz.underlying25 w]; simp
  unfold loadVar
  rw [Sem.run_bind, ha, Result.andThen_ok, if_pos rfl, Sem.run_bind, size_of av_size, Result.andThen_ok, Sem.run_bind, show (3 : Nat) = y.cells.length from rfl, hc]
  rfl

theorem wp_loadV {w : World} {o : Oper} {a : Act} {K : Act → World → Prop} {Q : Exit → Act → World → Prop} (s : Operand) (ho : o.op = .load 25 s) (p : Addr) (hs : a.eval s = .pointer (some p)) (y : AV) (hx : AvAt w p y)
    (h : K (a.put o.dst (.agg y.cs)) w) : o.wp Tryz.prog a w K Q := by
  have hv := av_loadP hx
  generalize y.cs = V at *
  unfold Oper.wp execOp
  simp only [ho, hs, Instr.loadAt, Instr.sureAddr, Sem.run_bind, Sem.run_pure, Result.andThen_ok, hv]
  exact h

theorem wpl_loadV {w : World} {ops : Array Oper} {rest : List Oper} {o : Oper} {a : Act} {Q : Exit → Act → World → Prop} (hgd : o.guard = none) (s : Operand) (ho : o.op = .load 25 s) (p : Addr) (hs : a.eval s = .pointer (some p)) (y : AV) (hx : AvAt w p y)
    (h : wpList Tryz.prog ops Q rest (a.put o.dst (.agg y.cs)) w) : wpList Tryz.prog ops Q (o :: rest) a w :=
  wpList_plain hgd fun _ hK => wp_loadV s ho p hs y hx (hK _ _ h)

set_option maxRecDepth 20000 in
set_option maxHeartbeats 1000000 in
theorem idxA_any (l : List AV) (ao : Option Addr) (cap : Nat) (fv : Value) (p : AV → Bool) (w : World) (hl : l.length ≤ 1000000) (hR : RdV w ao l) (hp : Tells Tryz.prog fv w (fun y : AV => .agg y.cs) p l) :
    Calls Tryz.prog 84 #[.slice ao l.length cap, fv] w (Made (.int .i64 (ixf p l)) w) := by
  obtain ⟨g, lb, rfl, eg, hp⟩ := hp
  have HP := Lib.hid hp
  have HR := Lib.hid hR
  have NN := Lib.hid (fun h => ixf_none (p := p) (l := l) h)
  obtain ⟨n, hn⟩ : ∃ n, n = l.length := ⟨_, rfl⟩
  have HN := Lib.hid hn
  have hle : n ≤ 1000000 := by omega
  rw [← hn]
  clear hp hR hl hn
  go_enter Tryz.func84, Tryz.ntmps84
  go_wp2_with fail
  go_loopw [8] (fun s wr => ∃ t : Nat, s = .int .i64 t ∧ t ≤ n ∧ Hid (Below w.heap.size w wr) ∧ Hid (∀ i, ∀ q : i < l.length, i < t → p l[i] = false)) (fun s _ => n - (intOf s).toNat)
  case atStart => exact ⟨0, rfl, by omega, Lib.hid (Below.refl _ _), Lib.hid (fun i q h => by omega)⟩
  case round =>
    obtain ⟨t, rfl, ht, HB, HF⟩ := hrel
    by_cases htn : t < n
    · have hlt : t < l.length := by have := HN.out; omega
      obtain ⟨a, ha, c0⟩ := (HR.out.on HB.out).at_ t hlt
      obtain ⟨v, hv⟩ : ∃ v, v = l[t] := ⟨_, rfl⟩
      have ev : l[t] = v := hv.symm
      rw [← hv] at c0
      have C0 := Lib.hid c0
      have PV := Lib.hid (HP.out wr HB.out v (by rw [← ev]; exact List.getElem_mem hlt))
      cases hpv : p v
      · rw [hpv] at PV
        have HF' := Lib.hid (show ∀ i, ∀ q : i < l.length, i < t + 1 → p l[i] = false from fun i q h => by
          by_cases e : i = t
          · subst e; rw [ev]; exact hpv
          · exact HF.out i q (by omega))
        clear hpv ev hv hlt c0
        subst ha
        go_wp2_with (refine wpl_loadV rfl _ rfl _ rfl v C0.out ?_)
        refine PV.out.mono ?_
        rintro e w1 ⟨rfl, hb⟩
        have B1 := Lib.hid (below_on HB.out hb)
        clear hb C0
        go_wp2_with fail
        go_roundw
        case rel => exact ⟨t + 1, by go_num, by omega, B1, HF'⟩
        case measure => simp [intOf]; omega
      · rw [hpv] at PV
        have HF' := Lib.hid (show ixf p l = t from ixf_at hlt (fun i q h => HF.out i q h) (by rw [ev]; exact hpv))
        clear hpv ev hv hlt c0
        subst ha
        go_wp2_with (refine wpl_loadV rfl _ rfl _ rfl v C0.out ?_)
        refine PV.out.mono ?_
        rintro e w1 ⟨rfl, hb⟩
        have B1 := Lib.hid (below_on HB.out hb)
        clear hb C0
        go_wp2_with fail
        go_ret
        exact ⟨ret_int HF'.out.symm, B1.out⟩
    · have HF' := Lib.hid (show ixf p l = -1 from NN.out (fun i q => HF.out i q (by have := HN.out; omega)))
      go_wp2_with fail
      go_ret
      exact ⟨ret_int HF'.out.symm, HB.out⟩

set_option maxRecDepth 20000 in
set_option maxHeartbeats 1000000 in
theorem conA_any (l : List AV) (ao : Option Addr) (cap : Nat) (fv : Value) (p : AV → Bool) (w : World) (hl : l.length ≤ 1000000) (hR : RdV w ao l) (hp : Tells Tryz.prog fv w (fun y : AV => .agg y.cs) p l) :
    Calls Tryz.prog 37 #[.slice ao l.length cap, fv] w (Made (.bool (l.any p)) w) := by
  have IX := Lib.hid (idxA_any l ao cap fv p w hl hR hp)
  have HA := Lib.hid (ixf_any p l)
  generalize l.length = n at *
  generalize ixf p l = r at *
  generalize l.any p = b at *
  clear hR hp
  go_enter Tryz.func37, Tryz.ntmps37
  go_wp2_with fail
  refine IX.out.mono ?_
  rintro e w1 ⟨rfl, hb⟩
  have B1 := Lib.hid hb
  clear hb
  go_wp2_with fail
  go_ret
  exact ⟨ret_bool HA.out, B1.out⟩

def validB (n : Int) (y : AV) : Bool := decide ((y.a.length : Int) = n) && y.a.all fitB && fitB y.b

set_option maxRecDepth 20000 in
set_option maxHeartbeats 1000000 in
theorem isValid_any (n : Int) (y : AV) (w : World) (hn : n ≤ 1000000) (hR : Rd1 w y.q y.a) : Calls Tryz.prog 39 #[.int .i64 n, .agg y.cs] w (Made (.bool (validB n y)) w) := by
  obtain ⟨q, c, a, b, s⟩ := y
  simp only [AV.cs, AV.cells, validB] at *
  obtain ⟨w0, hw0⟩ : ∃ w0, w0 = w.alloc (.cells #[.slice q a.length c, .int .i64 b, .bool s] 25) := ⟨_, rfl⟩
  have E0 := Lib.hid (show Below w.heap.size w w0 by rw [hw0]; exact one_more _)
  have hq := heap_alloc_last w (.cells #[.slice q a.length c, .int .i64 b, .bool s] 25)
  rw [← hw0] at hq
  have d0 : w0.cell? ⟨w.heap.size, 0, none⟩ = some (.slice q a.length c) := by rw [cell_of_row w0 _ 0 _ _ _ hq]; rfl
  have d1 : w0.cell? ⟨w.heap.size, 1, none⟩ = some (.int .i64 b) := by rw [cell_of_row w0 _ 1 _ _ _ hq]; rfl
  have R0 := Lib.hid (hR.on E0.out)
  obtain ⟨m, hm⟩ : ∃ m, m = a.length := ⟨_, rfl⟩
  by_cases h : (m : Int) = n
  · have F1 := Lib.hid (fit_any a q c w0 (by omega) R0.out)
    have F2 := Lib.hid (fun (W : World) => fit_any [b] (some ⟨W.heap.size, 0, none⟩) 1 (W.alloc (.cells #[.int .i64 b] 2)) (by simp) (fun t ht => ⟨_, rfl, by
      have : t = 0 := by simpa using ht
      subst this
      rw [addr_add]; simp [gA]⟩))
    have HF := Lib.hid (show (decide ((a.length : Int) = n) && a.all fitB && fitB b) = (a.all fitB && [b].all fitB) by rw [← hm, h]; simp)
    generalize (decide ((a.length : Int) = n) && a.all fitB && fitB b) = res at *
    rw [← hm] at d0 F1 ⊢
    rw [← hm] at hw0
    clear hR hq hm R0
    subst h
    have D1 := Lib.hid d1
    go_enter Tryz.func39, Tryz.ntmps39
    go_upto_region 1 with (fail)
    rw [← hw0]
    clear hw0
    go_wp2_with fail
    refine F1.out.mono ?_
    rintro e w1 ⟨rfl, hb⟩
    have B1 := Lib.hid (below_on E0.out hb)
    have d2 := kept hb D1.out
    clear hb
    cases h1 : a.all fitB
    · rw [h1] at HF
      go_wp2_with fail
      go_ret
      exact ⟨ret_bool (by rw [HF.out]; rfl), B1.out⟩
    · rw [h1] at HF
      go_wp2_with fail
      refine (F2.out w1).mono ?_
      rintro e w2 ⟨rfl, hb⟩
      have B2 := Lib.hid (below_on B1.out (past_one hb))
      clear hb
      generalize [b].all fitB = r at *
      go_wp2_with fail
      go_ret
      exact ⟨ret_bool (by rw [HF.out]; rfl), B2.out⟩
  · have HF := Lib.hid (show (decide ((a.length : Int) = n) && a.all fitB && fitB b) = false by rw [← hm]; simp [h])
    generalize (decide ((a.length : Int) = n) && a.all fitB && fitB b) = res at *
    rw [← hm] at d0 ⊢
    rw [← hm] at hw0
    clear hR hq hm R0
    go_enter Tryz.func39, Tryz.ntmps39
    go_upto_region 1 with (fail)
    rw [← hw0]
    clear hw0
    go_wp2_with fail
    go_ret
    exact ⟨ret_bool HF.out.symm, E0.out⟩

set_option maxRecDepth 20000 in
theorem chk1_any (n : Int) (y : AV) (pb : Nat) (w : World) (hn : n ≤ 1000000) (hR : Rd1 w y.q y.a) (hb : w.cell? ⟨pb, 0, none⟩ = some (.int .i64 n)) :
    Calls Tryz.prog 38 #[.agg y.cs, .pointer (some ⟨pb, 0, none⟩)] w (Made (.bool (!validB n y)) w) := by
  have VA := Lib.hid (fun W (h : Rd1 W y.q y.a) => isValid_any n y W hn h)
  have HR := Lib.hid hR
  obtain ⟨q, c, a, b, s⟩ := y
  simp only [AV.cs, AV.cells] at *
  generalize validB n ⟨q, c, a, b, s⟩ = r at *
  have hb' := kept (one_more (w1 := w) (.cells #[.slice q a.length c, .int .i64 b, .bool s] 25)) hb
  have R0 := Lib.hid (hR.on (one_more (.cells #[.slice q a.length c, .int .i64 b, .bool s] 25)))
  clear hR hb
  go_enter Tryz.func38, Tryz.ntmps38
  go_wp2_with fail
  refine (VA.out _ R0.out).mono ?_
  rintro e w1 ⟨rfl, hb⟩
  have B1 := Lib.hid (past_one hb)
  clear hb
  go_wp2_with fail
  go_ret
  exact ⟨rfl, B1.out⟩
end Go.Proofs.YtbhaoaobhgilkaaGreat

namespace Go.Proofs.YtbhaoaobhgilkaaGreat
open Go.RowKit Go.Sort Go.Shelf

/-- What Check says. -/
def chkP (n : Int) (L : List AV) : Int := if n < 0 ∨ 5 < n then 2 else if 1000 < L.length then 3 else if L.any (fun y => !validB n y) then 2 else 0

theorem chk1_enters : ∀ args w, (callFunc 38 args).run Tryz.prog w = .ok (.enter 38 args) w := enters_of Tryz.func38 (by kernel_rfl) rfl

set_option maxRecDepth 20000 in
set_option maxHeartbeats 1000000 in
theorem check_any (n : Int) (L : List AV) (ao : Option Addr) (cap : Nat) (w : World) (hR : RdV w ao L) :
    Calls Tryz.prog 12 #[.int .i64 n, .slice ao L.length cap] w (Made (.int .i64 (chkP n L)) w) := by
  obtain ⟨w0, hw0⟩ : ∃ w0, w0 = w.alloc (.cells #[.int .i64 n] 3) := ⟨_, rfl⟩
  have E0 := Lib.hid (show Below w.heap.size w w0 by rw [hw0]; exact one_more _)
  have X0 := Lib.hid (show Bx1 w0 w.heap.size (.int .i64 n) 3 by rw [hw0]; exact Bx1.made w _ _)
  have R0 := Lib.hid (hR.on E0.out)
  have c0 : w0.cell? ⟨w.heap.size, 0, none⟩ = some (.int .i64 n) := X0.out.cell
  by_cases h1 : n < 0
  · have HC := Lib.hid (show chkP n L = 2 by unfold chkP; rw [if_pos (Or.inl h1)])
    obtain ⟨m, hm⟩ : ∃ m, m = L.length := ⟨_, rfl⟩
    rw [← hm]
    clear hR hm
    go_enter Tryz.func12, Tryz.ntmps12
    go_upto_region 1 with (fail)
    rw [← hw0]
    clear hw0
    go_wp2_with fail
    go_ret
    exact ⟨ret_int HC.out.symm, E0.out⟩
  · by_cases h2 : 5 < n
    · have HC := Lib.hid (show chkP n L = 2 by unfold chkP; rw [if_pos (Or.inr h2)])
      obtain ⟨m, hm⟩ : ∃ m, m = L.length := ⟨_, rfl⟩
      rw [← hm]
      clear hR hm
      go_enter Tryz.func12, Tryz.ntmps12
      go_upto_region 1 with (fail)
      rw [← hw0]
      clear hw0
      go_wp2_with fail
      go_ret
      exact ⟨ret_int HC.out.symm, E0.out⟩
    · have hno : ¬ (n < 0 ∨ 5 < n) := by omega
      obtain ⟨m, hm⟩ : ∃ m, m = L.length := ⟨_, rfl⟩
      by_cases h3 : 1000 < m
      · have HC := Lib.hid (show chkP n L = 3 by unfold chkP; rw [if_neg hno, if_pos (by omega)])
        rw [← hm]
        clear hR hm hno
        go_enter Tryz.func12, Tryz.ntmps12
        go_upto_region 1 with (fail)
        rw [← hw0]
        clear hw0
        go_wp2_with fail
        go_ret
        exact ⟨ret_int HC.out.symm, E0.out⟩
      · have CO := Lib.hid (conA_any L ao cap (.func (.func 38) #[] #[.pointer (some ⟨w.heap.size, 0, none⟩)]) (fun y => !validB n y) w0 (by omega) R0.out
          ⟨_, _, rfl, chk1_enters, fun W hb y hy => chk1_any n y w.heap.size W (by omega) ((R0.out.on hb).nums y hy) (kept hb c0)⟩)
        obtain ⟨b, hb⟩ : ∃ b, b = L.any (fun y => !validB n y) := ⟨_, rfl⟩
        have HC := Lib.hid (show chkP n L = if b then 2 else 0 by unfold chkP; rw [if_neg hno, if_neg (by omega), hb])
        rw [← hm, ← hb] at CO
        rw [← hm]
        clear hR hm hno hb
        go_enter Tryz.func12, Tryz.ntmps12
        go_upto_region 1 with (fail)
        rw [← hw0]
        clear hw0
        go_wp2_with fail
        refine CO.out.mono ?_
        rintro e w1 ⟨rfl, hb⟩
        have B1 := Lib.hid (below_on E0.out hb)
        clear hb
        cases b
        · go_wp2_with fail
          go_ret
          exact ⟨ret_int (by rw [HC.out]; rfl), B1.out⟩
        · go_wp2_with fail
          go_ret
          exact ⟨ret_int (by rw [HC.out]; rfl), B1.out⟩

set_option maxRecDepth 20000 in
theorem demand_any (b : Bool) (w : World) : Calls Tryz.prog 42 #[.bool b] w (fun e w' => w' = w ∧ e = if b then .returned (.tuple #[]) else .panicked (pan 2)) := by
  cases b
  · go_enter Tryz.func42, Tryz.ntmps42
    go_wp2_with fail
    exact And.intro rfl ⟨rfl, rfl⟩
  · go_enter Tryz.func42, Tryz.ntmps42
    go_wp2_with fail
    go_end0
    exact ⟨rfl, rfl⟩

set_option maxRecDepth 20000 in
theorem isEmpty_any (b m c k c' : Nat) (ao : Option Addr) (w : World) (hm : 0 < m) (h0 : w.cell? ⟨b, 0, none⟩ = some (.slice ao k c')) :
    Calls Tryz.prog 53 #[.slice (some ⟨b, 0, none⟩) m c] w (Made (.bool (decide (0 < k))) w) := by
  by_cases h : 0 < k
  · have q : decide (0 < k) = true := by simpa using h
    rw [q]
    go_enter Tryz.func53, Tryz.ntmps53
    go_wp2_with fail
    go_ret
    exact ⟨ret_bool (by first | rfl | simp | (simp; omega)), Below.refl _ _⟩
  · have q : decide (0 < k) = false := by simpa using h
    rw [q]
    go_enter Tryz.func53, Tryz.ntmps53
    go_wp2_with fail
    go_ret
    exact ⟨ret_bool (by first | rfl | simp | (simp; omega)), Below.refl _ _⟩

/-- The line that lineOf makes. -/
def ofV (y : AV) : Ln := ⟨y.a ++ List.replicate (6 - y.a.length) 0, y.b, y.s⟩

set_option maxRecDepth 20000 in
/-- 'copy(y.a[:], x.A)'. -/
theorem copy_a {w : World} {g : Nat} {b : Int} {s : Bool} {q : Option Addr} {a : List Int} {c : Nat} (h : Bk w g ⟨z6, b, s⟩) (hl : a.length ≤ 6) (hR : Rd1 w q a) (ty : TypeId) :
    ∃ w', (Builtin.copy_ #[23, 23] ty #[.slice (some ⟨g, 0, none⟩) 6 6, .slice q a.length c]).run Tryz.prog w = .ok (goInt a.length) w' ∧ Bk w' g ⟨a ++ List.replicate (6 - a.length) 0, b, s⟩ ∧ (∀ B w0, B ≤ g → Below B w0 w → Below B w0 w') ∧ (∀ k, k ≠ g → w'.heap[k]? = w.heap[k]?) := by
  by_cases e : a.length = 0
  · have ha : a = [] := List.eq_nil_of_length_eq_zero e
    subst ha
    refine ⟨w, run_copy_none w _ _ ty 2 _ _ _ _ _ _ Tryz.underlying23 (by kernel_rfl) (by simp), ?_, fun B w0 _ k => k, fun k _ => rfl⟩
    simpa [z6] using h
  · obtain ⟨p, hq, _⟩ := hR 0 (by omega)
    subst hq
    have hr := run_copy_row (P := Tryz.prog) w 23 23 ty 2 g 0 6 6 p a.length c (Ln.cs ⟨z6, b, s⟩) 82 (a.map (Value.int .i64)) Tryz.underlying23 (by kernel_rfl) h.1
      (by rw [List.length_map]; exact (Nat.min_eq_left hl).symm) (fun j v hv => by
        rw [List.getElem?_map] at hv
        cases hj : a[j]? with
        | none => rw [hj] at hv; cases hv
        | some u =>
          rw [hj] at hv
          have hjl : j < a.length := (List.getElem?_eq_some_iff.1 hj).1
          obtain ⟨p', e', c'⟩ := hR j hjl
          cases e'
          have eu : gA a j = u := by simp [gA, hj]
          rw [c', eu]
          exact hv) (by rw [List.length_map, Ln.size rfl]; omega) (by simp [Value.oneCell'])
    rw [List.length_map] at hr
    have er : ((Ln.cs ⟨z6, b, s⟩).toList.take 0 ++ a.map (Value.int .i64) ++ (Ln.cs ⟨z6, b, s⟩).toList.drop (0 + a.length)).toArray = Ln.cs ⟨a ++ List.replicate (6 - a.length) 0, b, s⟩ := by
      match a, hl with
      | [], _ => rfl
      | [_], _ => rfl
      | [_, _], _ => rfl
      | [_, _, _], _ => rfl
      | [_, _, _, _], _ => rfl
      | [_, _, _, _, _], _ => rfl
      | [_, _, _, _, _, _], _ => rfl
      | _ :: _ :: _ :: _ :: _ :: _ :: _ :: _, h => simp at h
    rw [er] at hr
    exact ⟨_, hr, h.setRow (by first | (simp; omega) | simp), fun B w0 hB k => Below.setRow k hB _, fun k hk => setRow_other w g k _ hk⟩

set_option maxRecDepth 100000 in
set_option maxHeartbeats 4000000 in
theorem lineOf_any (y : AV) (w : World) (hl : y.a.length ≤ 6) (hR : Rd1 w y.q y.a) : Calls Tryz.prog 58 #[.agg y.cs] w (Made (.agg (ofV y).cs) w) := by
  obtain ⟨q, c, a, b, s⟩ := y
  simp only [AV.cs, AV.cells, ofV] at *
  have hz := ln_zero
  obtain ⟨w0, hw0⟩ : ∃ w0, w0 = (w.alloc (.cells #[.slice q a.length c, .int .i64 b, .bool s] 25)).alloc (.cells ln0.cs 82) := ⟨_, rfl⟩
  have E0 := Lib.hid (show Below w.heap.size w w0 by rw [hw0]; exact past_two (Below.refl _ _))
  have hq : w0.heap[w.heap.size]? = some (.cells #[.slice q a.length c, .int .i64 b, .bool s] 25 (0, 0)) := by rw [hw0]; exact ((one_more _).block _ (by simp)).trans (heap_alloc_last w _)
  have K1 := Lib.hid (show Bk w0 (w.heap.size + 1) ln0 by rw [hw0]; have := Bk.made (w.alloc (.cells #[.slice q a.length c, .int .i64 b, .bool s] 25)) ln0 rfl; simpa using this)
  have d0 : w0.cell? ⟨w.heap.size, 0, none⟩ = some (.slice q a.length c) := by rw [cell_of_row w0 _ 0 _ _ _ hq]; rfl
  have d1 : w0.cell? ⟨w.heap.size, 1, none⟩ = some (.int .i64 b) := by rw [cell_of_row w0 _ 1 _ _ _ hq]; rfl
  have d2 : w0.cell? ⟨w.heap.size, 2, none⟩ = some (.bool s) := by rw [cell_of_row w0 _ 2 _ _ _ hq]; rfl
  have HQ := Lib.hid hq
  have R0 := Lib.hid (hR.on E0.out)
  have N1 := Lib.hid (show Bk (w0.alloc (.cells ln0.cs 82)) w0.heap.size ln0 from Bk.made w0 ln0 rfl)
  have N2 := Lib.hid (N1.out.setRow (y := ⟨z6, b, s⟩) rfl)
  have B2 := Lib.hid (Below.setRow ((Below.refl w0.heap.size w0).alloc (Nat.le_refl _) (.cells ln0.cs 82)) (b := w0.heap.size) (Nat.le_refl _) (Ln.cs ⟨z6, b, s⟩))
  have z6' := Lib.hid (show (⟨z6, b, s⟩ : Ln).a.length = 6 from rfl)
  have HL := Lib.hid hl
  clear hR hq hl
  go_enter Tryz.func58, Tryz.ntmps58
  go_upto_region 1 with (fail)
  rw [← hw0]
  have z0 := Lib.hid (show w0.heap.size = w.heap.size + 2 by rw [hw0]; simp)
  clear hw0
  go_upto_region 2 with (refine wpl_store rfl _ _ rfl _ ⟨z6, b, s⟩ rfl rfl _ N1.out z6'.out ?_)
  have R2 := Lib.hid (R0.out.on B2.out)
  have HQ2 := Lib.hid ((B2.out.block w.heap.size (by have := z0.out; omega)).trans HQ.out)
  have K2 := Lib.hid (K1.out.kept B2.out)
  have B3 := Lib.hid (below_on E0.out B2.out)
  generalize (w0.alloc (.cells ln0.cs 82)).setRow w0.heap.size (Ln.cs ⟨z6, b, s⟩) = w1 at *
  obtain ⟨g, hg⟩ : ∃ g, g = w0.heap.size := ⟨_, rfl⟩
  have g0 := Lib.hid (show g = w.heap.size + 2 by rw [hg]; exact z0.out)
  rw [← hg] at N2 ⊢
  clear N1 B2 E0 K1 d0 d1 d2 HQ R0 z0 hg hz
  have hr := run_wholeA g
  have d0 : w1.drew.cell? ⟨w.heap.size, 0, none⟩ = some (.slice q a.length c) := (cell_of_row w1 _ 0 _ _ _ HQ2.out).trans rfl
  obtain ⟨w2, hcp, hk, hbl, hoth⟩ := copy_a (w := w1.drew) (g := g) (b := b) (s := s) (q := q) (a := a) (c := c) N2.out HL.out R2.out 3
  have K3 := Lib.hid hk
  have B4 := Lib.hid (hbl w.heap.size w (by have := g0.out; omega) B3.out.drew)
  have K4 := Lib.hid (show Bk w2 (w.heap.size + 1) ln0 from K2.out.of_block (hoth _ (by have := g0.out; omega)))
  have KL := Lib.hid (show (Ln.mk (a ++ List.replicate (6 - a.length) 0) b s).a.length = 6 by have := HL.out; simp; omega)
  have K5 := Lib.hid (K4.out.setRow KL.out)
  have B5 := Lib.hid (Below.setRow B4.out (b := w.heap.size + 1) (by omega) (Ln.cs ⟨a ++ List.replicate (6 - a.length) 0, b, s⟩))
  clear hk hbl hoth N2 HQ2 R2 K2 B3 g0
  go_region
  go_wp2_with (first | refine wpl_load rfl _ rfl _ rfl _ K3.out ?_ | refine wpl_store rfl _ _ rfl _ _ rfl rfl _ K4.out KL.out ?_)
  exact bodyPost_ret (results_ln Tryz.results58 _ rfl K5.out) rfl ⟨rfl, B5.out⟩
end Go.Proofs.YtbhaoaobhgilkaaGreat
