/- Ratios as pairs of integers; whole and must of package poly.; Contracts of what the statements compare with: SameLongs, SameRatios.; The contract of the statements' same. -/
import Derived.Test.YtbhaoaobhgilkaaGreatWm16
import Derived.Test.YtbhaoaobhgilkaaGreatWm9
import Derived.Test.YtbhaoaobhgilkaaGreatWm17
import Derived.Test.YtbhaoaobhgilkaaGreatWm19

namespace Go.Proofs.YtbhaoaobhgilkaaGreat
open Go.RowKit Go.Sort Go.Shelf

abbrev Pq := Int × Int

def I2 (x : Pq) : Prop := I64 x.1 ∧ I64 x.2

def vR (x : Pq) : Bool := vldB x.1 x.2

def adR (x y : Pq) : Pq := (opNum (vldB x.1 x.2 && vldB y.1 y.2) (x.1 * y.2 + y.1 * x.2) (x.2 * y.2), opDen (vldB x.1 x.2 && vldB y.1 y.2) (x.1 * y.2 + y.1 * x.2) (x.2 * y.2))

def adE (x y : Pq) : Int := opErr (vldB x.1 x.2 && vldB y.1 y.2) (x.1 * y.2 + y.1 * x.2) (x.2 * y.2)

def sbR (x y : Pq) : Pq := (opNum (vldB x.1 x.2 && vldB y.1 y.2) (x.1 * y.2 - y.1 * x.2) (x.2 * y.2), opDen (vldB x.1 x.2 && vldB y.1 y.2) (x.1 * y.2 - y.1 * x.2) (x.2 * y.2))

def sbE (x y : Pq) : Int := opErr (vldB x.1 x.2 && vldB y.1 y.2) (x.1 * y.2 - y.1 * x.2) (x.2 * y.2)

def muR (x y : Pq) : Pq := (opNum (vldB x.1 x.2 && vldB y.1 y.2) (x.1 * y.1) (x.2 * y.2), opDen (vldB x.1 x.2 && vldB y.1 y.2) (x.1 * y.1) (x.2 * y.2))

def muE (x y : Pq) : Int := opErr (vldB x.1 x.2 && vldB y.1 y.2) (x.1 * y.1) (x.2 * y.2)

def dvR (x y : Pq) : Pq := (opNum (vldB x.1 x.2 && vldB y.1 y.2 && !decide (y.1 = 0)) (x.1 * y.2) (x.2 * y.1), opDen (vldB x.1 x.2 && vldB y.1 y.2 && !decide (y.1 = 0)) (x.1 * y.2) (x.2 * y.1))

def dvE (x y : Pq) : Int := opErr (vldB x.1 x.2 && vldB y.1 y.2 && !decide (y.1 = 0)) (x.1 * y.2) (x.2 * y.1)

def mdR (x y : Pq) : Pq := (opNum (midB x.1 x.2 y.1 y.2) (midX x.1 x.2 y.1 y.2) (midY x.1 x.2 y.1 y.2), opDen (midB x.1 x.2 y.1 y.2) (midX x.1 x.2 y.1 y.2) (midY x.1 x.2 y.1 y.2))

def mdE (x y : Pq) : Int := opErr (midB x.1 x.2 y.1 y.2) (midX x.1 x.2 y.1 y.2) (midY x.1 x.2 y.1 y.2)

def cmR (x y : Pq) : Int := if (vldB x.1 x.2 && vldB y.1 y.2) then sgn (x.1 * y.2) (y.1 * x.2) else 0

def cmE (x y : Pq) : Int := if (vldB x.1 x.2 && vldB y.1 y.2) then 0 else 2

theorem op_bd (v : Bool) (p q : Int) : (-2147483647 ≤ opNum v p q ∧ opNum v p q ≤ 2147483647) ∧ (0 ≤ opDen v p q ∧ opDen v p q ≤ 2147483647) := by
  unfold opNum opDen
  cases v
  · simp
  · have h1 := mkNum_bd p q
    have h2 := mkDen_bd p q
    simp only [if_true]
    omega

theorem i2_of (v : Bool) (p q : Int) : I2 (opNum v p q, opDen v p q) := by
  have := op_bd v p q
  unfold I2 I64; simp only; omega

theorem adR_64 (x y : Pq) : I2 (adR x y) := i2_of _ _ _

theorem sbR_64 (x y : Pq) : I2 (sbR x y) := i2_of _ _ _

theorem muR_64 (x y : Pq) : I2 (muR x y) := i2_of _ _ _

theorem dvR_64 (x y : Pq) : I2 (dvR x y) := i2_of _ _ _

theorem mdR_64 (x y : Pq) : I2 (mdR x y) := i2_of _ _ _

theorem wh_64 {x : Int} (h : I64 x) : I2 (x, 1) := ⟨h, by unfold I64; simp only; omega⟩

theorem cmR_bd (x y : Pq) : -1 ≤ cmR x y ∧ cmR x y ≤ 1 := by unfold cmR sgn; (repeat' split) <;> omega

section
variable (x y : Pq) (w : World) (hx : I2 x) (hy : I2 y)
include hx hy

theorem addP_any : Calls Tryz.prog 140 #[.agg #[.int .i64 x.1, .int .i64 x.2], .agg #[.int .i64 y.1, .int .i64 y.2]] w (Made (.tuple #[.agg #[.int .i64 (adR x y).1, .int .i64 (adR x y).2], .int .i64 (adE x y)]) w) := add_any _ _ _ _ w hx.1 hx.2 hy.1 hy.2

theorem subP_any : Calls Tryz.prog 141 #[.agg #[.int .i64 x.1, .int .i64 x.2], .agg #[.int .i64 y.1, .int .i64 y.2]] w (Made (.tuple #[.agg #[.int .i64 (sbR x y).1, .int .i64 (sbR x y).2], .int .i64 (sbE x y)]) w) := sub_any _ _ _ _ w hx.1 hx.2 hy.1 hy.2

theorem mulP_any : Calls Tryz.prog 152 #[.agg #[.int .i64 x.1, .int .i64 x.2], .agg #[.int .i64 y.1, .int .i64 y.2]] w (Made (.tuple #[.agg #[.int .i64 (muR x y).1, .int .i64 (muR x y).2], .int .i64 (muE x y)]) w) := mul_any _ _ _ _ w hx.1 hx.2 hy.1 hy.2

theorem divP_any : Calls Tryz.prog 144 #[.agg #[.int .i64 x.1, .int .i64 x.2], .agg #[.int .i64 y.1, .int .i64 y.2]] w (Made (.tuple #[.agg #[.int .i64 (dvR x y).1, .int .i64 (dvR x y).2], .int .i64 (dvE x y)]) w) := div_any _ _ _ _ w hx.1 hx.2 hy.1 hy.2

theorem midP_any : Calls Tryz.prog 139 #[.agg #[.int .i64 x.1, .int .i64 x.2], .agg #[.int .i64 y.1, .int .i64 y.2]] w (Made (.tuple #[.agg #[.int .i64 (mdR x y).1, .int .i64 (mdR x y).2], .int .i64 (mdE x y)]) w) := middle_any _ _ _ _ w hx.1 hx.2 hy.1 hy.2

theorem cmpP_any : Calls Tryz.prog 135 #[.agg #[.int .i64 x.1, .int .i64 x.2], .agg #[.int .i64 y.1, .int .i64 y.2]] w (Made (.tuple #[.int .i64 (cmR x y), .int .i64 (cmE x y)]) w) := cmp_any _ _ _ _ w hx.1 hx.2 hy.1 hy.2
end

theorem whole_any (x : Int) (w : World) : Calls Tryz.prog 137 #[.int .i64 x] w (Made (.agg #[.int .i64 x, .int .i64 1]) w) := by
  go_enter Tryz.func137, Tryz.ntmps137
  go_wp2_with fail
  refine bodyPost_ret (v := .agg #[.int .i64 x, .int .i64 1]) (by simp [results, Tryz.results137, go_sem]) rfl ⟨rfl, ?_⟩
  exact one_more _

set_option maxRecDepth 20000 in
theorem mustR_ok (x : Pq) (er : Int) (w : World) (he : er = 0) : Calls Tryz.prog 138 #[.agg #[.int .i64 x.1, .int .i64 x.2], .int .i64 er] w (Made (.agg #[.int .i64 x.1, .int .i64 x.2]) w) := by
  subst he
  go_enter Tryz.func138, Tryz.ntmps138
  go_wp2_with fail
  refine bodyPost_ret (v := .agg #[.int .i64 x.1, .int .i64 x.2]) (by simp [results, Tryz.results138, go_sem]) rfl ⟨rfl, ?_⟩
  exact past_two (Below.refl _ _)

theorem mustR_no (x : Pq) (er : Int) (w : World) (he : er ≠ 0) : Calls Tryz.prog 138 #[.agg #[.int .i64 x.1, .int .i64 x.2], .int .i64 er] w (fun e w' => e = .panicked (pan er) ∧ Below w.heap.size w w') := by
  have h0 : (er != 0) = true := by simpa using he
  clear he
  go_enter Tryz.func138, Tryz.ntmps138
  go_wp2_with fail
  exact And.intro rfl ⟨rfl, (one_more _).trans ((one_more _).mono (by simp))⟩

theorem mustR_any (x : Pq) (er : Int) (w : World) : Calls Tryz.prog 138 #[.agg #[.int .i64 x.1, .int .i64 x.2], .int .i64 er] w (fun e w' => Below w.heap.size w w' ∧ ((er = 0 ∧ e = .returned (.agg #[.int .i64 x.1, .int .i64 x.2])) ∨ (er ≠ 0 ∧ e = .panicked (pan er)))) := by
  by_cases h : er = 0
  · refine (mustR_ok x er w h).mono ?_
    rintro e w' ⟨rfl, hb⟩
    exact ⟨hb, Or.inl ⟨h, rfl⟩⟩
  · refine (mustR_no x er w h).mono ?_
    rintro e w' ⟨rfl, hb⟩
    exact ⟨hb, Or.inr ⟨h, rfl⟩⟩

theorem mustI_ok (x : Int) (er : Int) (w : World) (he : er = 0) : Calls Tryz.prog 134 #[.int .i64 x, .int .i64 er] w (Made (.int .i64 x) w) := by
  subst he
  go_enter Tryz.func134, Tryz.ntmps134
  go_wp2_with fail
  go_ret
  exact ⟨rfl, Below.refl _ _⟩

theorem mustI_no (x : Int) (er : Int) (w : World) (he : er ≠ 0) : Calls Tryz.prog 134 #[.int .i64 x, .int .i64 er] w (fun e w' => e = .panicked (pan er) ∧ Below w.heap.size w w') := by
  have h0 : (er != 0) = true := by simpa using he
  clear he
  go_enter Tryz.func134, Tryz.ntmps134
  go_wp2_with fail
  exact And.intro rfl ⟨rfl, Below.refl _ _⟩

theorem mustI_any (x : Int) (er : Int) (w : World) : Calls Tryz.prog 134 #[.int .i64 x, .int .i64 er] w (fun e w' => Below w.heap.size w w' ∧ ((er = 0 ∧ e = .returned (.int .i64 x)) ∨ (er ≠ 0 ∧ e = .panicked (pan er)))) := by
  by_cases h : er = 0
  · refine (mustI_ok x er w h).mono ?_
    rintro e w' ⟨rfl, hb⟩
    exact ⟨hb, Or.inl ⟨h, rfl⟩⟩
  · refine (mustI_no x er w h).mono ?_
    rintro e w' ⟨rfl, hb⟩
    exact ⟨hb, Or.inr ⟨h, rfl⟩⟩

def QAt (w : World) (p : Addr) (x : Pq) : Prop := w.cell? (p.add 0) = some (.int .i64 x.1) ∧ w.cell? (p.add 1) = some (.int .i64 x.2)

theorem QAt.on {w w' : World} {p : Addr} {x : Pq} (h : QAt w p x) (hb : Below w.heap.size w w') : QAt w' p x := ⟨kept hb h.1, kept hb h.2⟩

theorem Pair.qAt {w : World} {b : Nat} {x : Pq} (h : Pair w b x.1 x.2) : QAt w ⟨b, 0, none⟩ x := ⟨by rw [addr_add]; exact h.1.1, by rw [addr_add]; exact h.2.1⟩

theorem rat_info : (Tryz.prog.info? 50).map (fun i => (i.zero, i.size, i.bytes)) = some (some (.agg #[.int .i64 0, .int .i64 0]), 2, 16) := by kernel_rfl

theorem rat_size : (Tryz.prog.info? 50).map (·.size) = some 2 := by kernel_rfl

def gp (ps : List Pq) (k : Nat) : Pq := ps.getD k (0, 0)

def Rd2 (w : World) (ao : Option Addr) (ps : List Pq) : Prop := ∀ t, t < ps.length → ∃ a, ao = some a ∧ QAt w (a.add (t * 2)) (gp ps t)

theorem Rd2.on {w w' : World} {ao : Option Addr} {ps : List Pq} (h : Rd2 w ao ps) (hb : Below w.heap.size w w') : Rd2 w' ao ps := fun t ht => by
  obtain ⟨a, e, c⟩ := h t ht
  exact ⟨a, e, c.on hb⟩

def CsAt (w : World) (p : Addr) (cs : List Value) : Prop := ∀ j v, cs[j]? = some v → w.cell? (p.add j) = some v

theorem cs_loadP {t : TypeId} {cs : List Value} (ha : ∀ w, (isAgg t).run Tryz.prog w = .ok true w) (hz : (Tryz.prog.info? t).map (·.size) = some cs.length) {w : World} {p : Addr} (h : CsAt w p cs) : (loadVar t p).run Tryz.prog w = .ok (.agg ⟨cs⟩) w := by
  have hc := run_loadCells_list (P := Tryz.prog) w p cs h
  unfold loadVar
  rw [Sem.run_bind, ha, Result.andThen_ok, if_pos rfl, Sem.run_bind, size_of hz, Result.andThen_ok, Sem.run_bind, hc]
  rfl

theorem yld_loadC {t : TypeId} {cs : List Value} (ha : ∀ w, (isAgg t).run Tryz.prog w = .ok true w) (hz : (Tryz.prog.info? t).map (·.size) = some cs.length) {w : World} {o : Oper} {a : Act} (s : Operand) (ho : o.op = .load t s) (p : Addr) (hs : a.eval s = .pointer (some p)) (hx : CsAt w p cs) : (execOp a.eval o).run Tryz.prog w = .ok (.value (.agg ⟨cs⟩)) w := by
  have h : (Instr.loadAt t (.pointer (some p))).run Tryz.prog w = .ok (.agg ⟨cs⟩) w := by
    simp only [Instr.loadAt, Instr.sureAddr, Sem.run_bind, Sem.run_pure, Result.andThen_ok, cs_loadP ha hz hx]
  unfold execOp
  simp only [ho, hs, Sem.run_bind, Sem.run_pure, h, Result.andThen_ok]

theorem q_isAgg (w : World) : (isAgg 50).run Tryz.prog w = .ok true w := by
  unfold isAgg; rw [Sem.run_bind, run_underlying Tryz.underlying50 w]; simp

theorem QAt.cs {w : World} {p : Addr} {x : Pq} (h : QAt w p x) : CsAt w p [.int .i64 x.1, .int .i64 x.2] := fun j v hv => by
  match j, hv with
  | 0, hv => simp at hv; subst hv; exact h.1
  | 1, hv => simp at hv; subst hv; exact h.2

theorem yld_loadQ {w : World} {o : Oper} {a : Act} (s : Operand) (ho : o.op = .load 50 s) (p : Addr) (hs : a.eval s = .pointer (some p)) {x : Pq} (hx : QAt w p x) : (execOp a.eval o).run Tryz.prog w = .ok (.value (.agg #[.int .i64 x.1, .int .i64 x.2])) w :=
  yld_loadC (cs := [.int .i64 x.1, .int .i64 x.2]) q_isAgg rat_size s ho p hs hx.cs

theorem wp_loadQ {w : World} {o : Oper} {a : Act} {K : Act → World → Prop} {Q : Exit → Act → World → Prop} (s : Operand) (ho : o.op = .load 50 s) (p : Addr) (hs : a.eval s = .pointer (some p)) (x : Pq) (hx : QAt w p x)
    (h : K (a.put o.dst (.agg #[.int .i64 x.1, .int .i64 x.2])) w) : o.wp Tryz.prog a w K Q := by
  have hv := cs_loadP (cs := [.int .i64 x.1, .int .i64 x.2]) q_isAgg rat_size hx.cs
  unfold Oper.wp execOp
  simp only [ho, hs, Instr.loadAt, Instr.sureAddr, Sem.run_bind, Sem.run_pure, Result.andThen_ok, hv]
  exact h

theorem wpl_loadQ {w : World} {ops : Array Oper} {rest : List Oper} {o : Oper} {a : Act} {Q : Exit → Act → World → Prop} (hgd : o.guard = none) (s : Operand) (ho : o.op = .load 50 s) (p : Addr) (hs : a.eval s = .pointer (some p)) (x : Pq) (hx : QAt w p x)
    (h : wpList Tryz.prog ops Q rest (a.put o.dst (.agg #[.int .i64 x.1, .int .i64 x.2])) w) : wpList Tryz.prog ops Q (o :: rest) a w :=
  wpList_plain hgd fun _ hK => wp_loadQ s ho p hs x hx (hK _ _ h)
end Go.Proofs.YtbhaoaobhgilkaaGreat

namespace Go.Proofs.YtbhaoaobhgilkaaGreat
open Go.RowKit Go.Sort

set_option maxRecDepth 20000 in
set_option maxHeartbeats 1000000 in
theorem sameI_any (l m : List Int) (ao bo : Option Addr) (ca cb : Nat) (w : World) (hl : l.length ≤ 1000000) (hR : Rd1 w ao l) (hS : Rd1 w bo m) :
    Calls Tryz.prog 48 #[.slice ao l.length ca, .slice bo m.length cb] w (fun e w' => e = .returned (.bool (decide (l = m))) ∧ ∃ k, w' = w.drewN k) := by
  by_cases hm : l.length = m.length
  case neg =>
    have HF := Lib.hid (show decide (l = m) = false from decide_eq_false (fun e => hm (by rw [e])))
    have D : ((l.length : Int) != (m.length : Int)) = true := by simp; omega
    clear hR hS
    generalize l.length = c at *
    generalize m.length = d at *
    go_enter Tryz.func48, Tryz.ntmps48
    go_wp2_with fail
    go_ret
    exact ⟨ret_bool HF.out.symm, 0, rfl⟩
  have HR := Lib.hid hR
  have HS := Lib.hid hS
  obtain ⟨n, hn⟩ : ∃ n, n = l.length := ⟨_, rfl⟩
  have HL := Lib.hid hn
  have HM := Lib.hid (show n = m.length by omega)
  rw [← hm, ← hn]
  have hle : n ≤ 1000000 := by omega
  clear hl hm hR hS hn
  go_enter Tryz.func48, Tryz.ntmps48
  go_wp2_with fail
  go_loopw [5] (fun s wr => ∃ t : Nat, s = .int .i64 t ∧ t ≤ n ∧ Hid (∀ i, i < t → gA l i = gA m i) ∧ ∃ k, wr = w.drewN k) (fun s _ => n - (intOf s).toNat)
  case atStart => exact ⟨0, rfl, by omega, Lib.hid (fun i h => by omega), 0, rfl⟩
  case round =>
    obtain ⟨t, rfl, ht, HF, k, rfl⟩ := hrel
    by_cases htn : t < n
    · obtain ⟨a, ha, c0⟩ := HR.out t (by have := HL.out; omega)
      obtain ⟨b, hb, c1⟩ := HS.out t (by have := HM.out; omega)
      obtain ⟨u, hu⟩ : ∃ u, u = gA l t := ⟨_, rfl⟩
      obtain ⟨v, hv⟩ : ∃ v, v = gA m t := ⟨_, rfl⟩
      have HU := Lib.hid hu
      have HV := Lib.hid hv
      rw [← hu] at c0
      rw [← hv] at c1
      clear hu hv
      subst ha
      subst hb
      by_cases h1 : u = v
      · have HF' := Lib.hid (show ∀ i, i < t + 1 → gA l i = gA m i from fun i hi => by
          by_cases e : i = t
          · subst e; rw [← HU.out, ← HV.out]; omega
          · exact HF.out i (by omega))
        have D : (u != v) = false := by simpa using h1
        clear h1
        go_wp2_with fail
        go_quiet (fail)
        go_wp2_with fail
        go_roundw
        case rel => exact ⟨t + 1, by go_num, by omega, HF', _, rfl⟩
        case measure => simp [intOf]; omega
      · have HE := Lib.hid (show decide (l = m) = false from decide_eq_false (fun e => h1 (by rw [HU.out, HV.out, e])))
        have D : (u != v) = true := by simpa using h1
        clear h1
        go_wp2_with fail
        go_quiet (fail)
        go_wp2_with fail
        go_ret
        exact ⟨ret_bool HE.out.symm, _, World.drewN_drewN _ _ _⟩
    · have HE := Lib.hid (show decide (l = m) = true from decide_eq_true (gA_ext (by have := HL.out; have := HM.out; omega) fun i hi => HF.out i (by have := HL.out; omega)))
      go_wp2_with fail
      go_ret
      exact ⟨ret_bool HE.out.symm, k, rfl⟩

theorem rat_ext {cs ds : List Pq} (hl : cs.length = ds.length) (h : ∀ k, k < cs.length → gp cs k = gp ds k) : cs = ds := by
  apply List.ext_getElem hl
  intro i h1 h2
  have := h i h1
  simpa [gp, h1, h2] using this

theorem QAt.two {w : World} {a : Addr} {t : Nat} {x : Pq} (h : QAt w (a.add (t * 2)) x) : w.cell? (a.add (t * 2)) = some (.int .i64 x.1) ∧ w.cell? ⟨(a.add (t * 2)).block, (a.add (t * 2)).off + 1, none⟩ = some (.int .i64 x.2) := by
  refine ⟨by have := h.1; rwa [show (a.add (t * 2)).add 0 = a.add (t * 2) by simp [Addr.add]] at this, ?_⟩
  have := h.2
  generalize a.add (t * 2) = b at *
  unfold Addr.add at this
  rwa [if_neg (by omega)] at this

set_option maxRecDepth 100000 in
set_option maxHeartbeats 1600000 in
theorem srat_any (cs ds : List Pq) (ao bo : Option Addr) (ca cb : Nat) (w : World) (hA : Rd2 w ao cs) (hB : Rd2 w bo ds) (hl : cs.length ≤ 1000) :
    Calls Tryz.prog 27 #[.slice ao cs.length ca, .slice bo ds.length cb] w (Made (.bool (decide (cs = ds))) w) := by
  by_cases hlen : cs.length = ds.length
  case neg =>
    have HF := Lib.hid (show decide (cs = ds) = false from decide_eq_false (fun e => hlen (by rw [e])))
    have D : ((cs.length : Int) != (ds.length : Int)) = true := by simp; omega
    clear hA hB
    generalize cs.length = c at *
    generalize ds.length = d at *
    go_enter Tryz.func27, Tryz.ntmps27
    go_wp2_with fail
    go_ret
    exact ⟨ret_bool HF.out.symm, Below.refl _ _⟩
  case pos =>
    have D : ((cs.length : Int) != (ds.length : Int)) = false := by simp; omega
    obtain ⟨len, hc⟩ : ∃ len, len = cs.length := ⟨_, rfl⟩
    have hd : ds.length = len := by omega
    have HC := Lib.hid hc
    have HDD := Lib.hid hd
    have HA := Lib.hid hA
    have HB := Lib.hid hB
    rw [hd, ← hc] at D
    rw [hd, ← hc]
    have hl2 : len ≤ 1000 := by omega
    clear hlen hc hd hA hB hl
    go_enter Tryz.func27, Tryz.ntmps27
    go_wp2_with fail
    go_loopw [5] (fun s wr => ∃ t : Nat, t ≤ len ∧ s = .int .i64 t ∧ Hid (∀ k, k < t → gp cs k = gp ds k) ∧ Hid (Below w.heap.size w wr)) (fun s _ => len - (intOf s).toNat)
    case atStart => exact ⟨0, by omega, rfl, Lib.hid (fun k hk => by omega), Lib.hid (Below.refl _ _)⟩
    case round =>
      obtain ⟨t, ht, rfl, HT, HW⟩ := hrel
      by_cases htn : t < len
      case pos =>
        obtain ⟨a, rfl, hR⟩ := (HA.out.on HW.out) t (by rw [← HC.out]; exact htn)
        obtain ⟨b, rfl, hS⟩ := (HB.out.on HW.out) t (by rw [HDD.out]; exact htn)
        obtain ⟨a0, a1⟩ := hR.two
        obtain ⟨b0, b1⟩ := hS.two
        clear hR hS
        obtain ⟨p, hp⟩ : ∃ p, p = gp cs t := ⟨_, rfl⟩
        obtain ⟨q, hq⟩ : ∃ q, q = gp ds t := ⟨_, rfl⟩
        rw [← hp] at a0 a1
        rw [← hq] at b0 b1
        have HP := Lib.hid hp
        have HQ := Lib.hid hq
        clear hp hq
        obtain ⟨i, j⟩ := p
        obtain ⟨i', j'⟩ := q
        simp only at a0 a1 b0 b1
        by_cases he : ((i, j) : Pq) = (i', j')
        case pos =>
          have HT2 := Lib.hid (show ∀ k, k < t + 1 → gp cs k = gp ds k from fun k hk => by
            by_cases e : k = t
            · rw [e, ← HP.out, ← HQ.out]; exact he
            · exact HT.out k (by omega))
          simp only [Prod.mk.injEq] at he
          obtain ⟨rfl, rfl⟩ := he
          go_wp2_with fail
          go_quiet (fail)
          go_wp2_with fail
          go_roundw
          case rel => exact ⟨t + 1, by omega, by go_num, HT2, Lib.hid (below_drewN HW.out _)⟩
          case measure => simp [intOf]; omega
        case neg =>
          have HF := Lib.hid (show decide (cs = ds) = false from decide_eq_false (fun e => he (by rw [HP.out, HQ.out, e])))
          by_cases c1 : i = i'
          case neg =>
            have D1 : (i == i') = false := by simpa using c1
            clear he c1
            go_wp2_with fail
            go_quiet (fail)
            go_wp2_with fail
            go_ret
            exact ⟨ret_bool HF.out.symm, below_drewN HW.out _⟩
          case pos =>
            have c2 : j ≠ j' := fun e => he (by rw [c1, e])
            have D1 : (j == j') = false := by simpa using c2
            subst c1
            clear he c2
            go_wp2_with fail
            go_quiet (fail)
            go_wp2_with fail
            go_ret
            exact ⟨ret_bool HF.out.symm, below_drewN HW.out _⟩
      case neg =>
        have HF := Lib.hid (show decide (cs = ds) = true from decide_eq_true (rat_ext (by rw [← HC.out, HDD.out]) (fun k hk => HT.out k (by rw [← HC.out] at hk; omega))))
        go_wp2_with fail
        go_ret
        exact ⟨ret_bool HF.out.symm, HW.out⟩
end Go.Proofs.YtbhaoaobhgilkaaGreat

namespace Go.Proofs.YtbhaoaobhgilkaaGreat
open Go.RowKit Go.Sort

theorem AvAt.three {w : World} {p : Addr} {t : Nat} {y : AV} (h : AvAt w (p.add (t * 3)) y) : w.cell? (p.add (t * 3)) = some (.slice y.q y.a.length y.c) ∧ w.cell? ⟨(p.add (t * 3)).block, (p.add (t * 3)).off + 1, none⟩ = some (.int .i64 y.b) ∧ w.cell? ⟨(p.add (t * 3)).block, (p.add (t * 3)).off + 2, none⟩ = some (.bool y.s) := by
  have h0 := h 0 _ rfl
  have h1 := h 1 _ rfl
  have h2 := h 2 _ rfl
  rw [show (p.add (t * 3)).add 0 = p.add (t * 3) by simp [Addr.add]] at h0
  generalize p.add (t * 3) = b at *
  unfold Addr.add at h1 h2
  rw [if_neg (by omega)] at h1 h2
  exact ⟨h0, h1, h2⟩

theorem lnV_eq {y z : AV} : lnV y = lnV z ↔ y.a = z.a ∧ y.b = z.b ∧ y.s = z.s := by
  unfold lnV; rw [Ln.mk.injEq]

theorem map_ne {A B : List AV} {t : Nat} (h1 : t < A.length) (h2 : t < B.length) (h : lnV A[t] ≠ lnV B[t]) : A.map lnV ≠ B.map lnV := fun e => h (by
  have h3 := congrArg (fun l => l[t]?) e
  simpa [h1, h2] using h3)

set_option maxRecDepth 100000 in
set_option maxHeartbeats 4000000 in
theorem same_any (A B : List AV) (ao bo : Option Addr) (ca cb : Nat) (w : World) (hA : RdV w ao A) (hB : RdV w bo B) (hl : A.length ≤ 100000) (ha : ∀ y ∈ A, y.a.length ≤ 1000000) :
    Calls Tryz.prog 14 #[.slice ao A.length ca, .slice bo B.length cb] w (Made (.bool (decide (A.map lnV = B.map lnV))) w) := by
  by_cases hlen : A.length = B.length
  case neg =>
    have HF := Lib.hid (show decide (A.map lnV = B.map lnV) = false from decide_eq_false (fun e => hlen (by have := congrArg List.length e; simpa using this)))
    have D : ((A.length : Int) != (B.length : Int)) = true := by simp; omega
    clear hA hB ha
    generalize A.length = c at *
    generalize B.length = d at *
    go_enter Tryz.func14, Tryz.ntmps14
    go_wp2_with fail
    go_ret
    exact ⟨ret_bool HF.out.symm, Below.refl _ _⟩
  have D : ((A.length : Int) != (B.length : Int)) = false := by simp; omega
  obtain ⟨len, hc⟩ : ∃ len, len = A.length := ⟨_, rfl⟩
  have hd : B.length = len := by omega
  have HC := Lib.hid hc
  have HDD := Lib.hid hd
  have HA := Lib.hid hA
  have HB := Lib.hid hB
  have HL := Lib.hid ha
  obtain ⟨R, hR⟩ : ∃ R, R = decide (A.map lnV = B.map lnV) := ⟨_, rfl⟩
  have HR := Lib.hid hR
  rw [hd, ← hc] at D
  rw [hd, ← hc, ← hR]
  have hl2 : len ≤ 100000 := by omega
  clear hlen hc hd hA hB hl ha hR
  go_enter Tryz.func14, Tryz.ntmps14
  go_wp2_with fail
  go_loopw [5] (fun s wr => ∃ t : Nat, t ≤ len ∧ s = .int .i64 t ∧ Hid (∀ k, ∀ h1 : k < A.length, ∀ h2 : k < B.length, k < t → lnV A[k] = lnV B[k]) ∧ Hid (Below w.heap.size w wr)) (fun s _ => len - (intOf s).toNat)
  case atStart => exact ⟨0, by omega, rfl, Lib.hid (fun k _ _ hk => by omega), Lib.hid (Below.refl _ _)⟩
  case round =>
    obtain ⟨t, ht, rfl, HT, HW⟩ := hrel
    by_cases htn : t < len
    case pos =>
      have h1 : t < A.length := by have := HC.out; omega
      have h2 : t < B.length := by have := HDD.out; omega
      obtain ⟨a, ea, hR⟩ := (HA.out.on HW.out).at_ t h1
      obtain ⟨b, eb, hS⟩ := (HB.out.on HW.out).at_ t h2
      have YN := Lib.hid ((HA.out.on HW.out).nums _ (List.getElem_mem h1))
      have ZN := Lib.hid ((HB.out.on HW.out).nums _ (List.getElem_mem h2))
      have YL := Lib.hid (HL.out _ (List.getElem_mem h1))
      have NE := Lib.hid (show lnV A[t] ≠ lnV B[t] → R = false from fun h => by rw [HR.out]; exact decide_eq_false (map_ne h1 h2 h))
      have EQ := Lib.hid (show lnV A[t] = lnV B[t] → ∀ k, ∀ h1 : k < A.length, ∀ h2 : k < B.length, k < t + 1 → lnV A[k] = lnV B[k] from fun h k g1 g2 hk => by
        by_cases e : k = t
        · subst e; exact h
        · exact HT.out k g1 g2 (by omega))
      generalize A[t] = y at *
      generalize B[t] = z at *
      obtain ⟨a0, a1, a2⟩ := hR.three
      obtain ⟨b0, b1, b2⟩ := hS.three
      subst ea eb
      clear hR hS h1 h2
      obtain ⟨yq, yc, ya, yb, ys⟩ := y
      obtain ⟨zq, zc, za, zb, zs⟩ := z
      simp only at a0 a1 a2 b0 b1 b2
      by_cases c1 : yb = zb
      · subst c1
        by_cases c2 : ys = zs
        · subst c2
          obtain ⟨q, hq⟩ : ∃ q, q = decide (ya = za) := ⟨_, rfl⟩
          have SL := Lib.hid (fun k => sameI_any ya za yq zq yc zc (wr.drewN k) YL.out (YN.out.on (below_drewN (Below.refl _ _) k)) (ZN.out.on (below_drewN (Below.refl _ _) k)))
          rw [← hq] at SL
          have HQ := Lib.hid hq
          obtain ⟨m1, hm1⟩ : ∃ m1, m1 = ya.length := ⟨_, rfl⟩
          obtain ⟨m2, hm2⟩ : ∃ m2, m2 = za.length := ⟨_, rfl⟩
          rw [← hm1, ← hm2] at SL
          rw [← hm1] at a0
          rw [← hm2] at b0
          clear hq hm1 hm2
          cases q
          · have HE := Lib.hid (NE.out (fun e => by have := (lnV_eq.1 e).1; simp only at this; have h := HQ.out; rw [decide_eq_true this] at h; cases h))
            go_wp2_with fail
            go_quiet ((go_at_call 48; exact Calls.quiet_of (SL.out _)))
            go_wp2_with fail
            go_ret
            exact ⟨ret_bool HE.out.symm, below_drewN HW.out _⟩
          · have HT2 := Lib.hid (EQ.out (lnV_eq.2 ⟨of_decide_eq_true HQ.out.symm, rfl, rfl⟩))
            go_wp2_with fail
            go_quiet ((go_at_call 48; exact Calls.quiet_of (SL.out _)))
            go_wp2_with fail
            go_roundw
            case rel => exact ⟨t + 1, by omega, by go_num, HT2, Lib.hid (below_drewN HW.out _)⟩
            case measure => simp [intOf]; omega
        · have D2 : (ys != zs) = true := by simpa using c2
          have HE := Lib.hid (NE.out (fun e => c2 (lnV_eq.1 e).2.2))
          clear D2
          cases ys <;> cases zs <;> first | exact absurd rfl c2 | skip
          all_goals
            clear c2
            go_wp2_with fail
            go_quiet (fail)
            go_wp2_with fail
            go_ret
            exact ⟨ret_bool HE.out.symm, below_drewN HW.out _⟩
      · have D1 : (yb != zb) = true := by simpa using c1
        have HE := Lib.hid (NE.out (fun e => c1 (lnV_eq.1 e).2.1))
        clear c1
        go_wp2_with fail
        go_quiet (fail)
        go_wp2_with fail
        go_ret
        exact ⟨ret_bool HE.out.symm, below_drewN HW.out _⟩
    case neg =>
      have HE := Lib.hid (show R = true by
        rw [HR.out]
        refine decide_eq_true (List.ext_getElem (by simp; have := HC.out; have := HDD.out; omega) fun k g1 g2 => ?_)
        simp only [List.length_map] at g1 g2
        simp only [List.getElem_map]
        exact HT.out k g1 g2 (by have := HC.out; omega))
      go_wp2_with fail
      go_ret
      exact ⟨ret_bool HE.out.symm, HW.out⟩
end Go.Proofs.YtbhaoaobhgilkaaGreat
