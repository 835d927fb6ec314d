/- Contracts of package poly: lowest.; Contracts of package poly: opposite, limit, sum. -/
import Derived.Test.YtbhaoaobhgilkaaGreatWm1

namespace Go.Proofs.YtbhaoaobhgilkaaGreat
open Go.RowKit

def gcdL (b : Int) (a : List Int) : Int := a.foldl (fun d v => (Int.gcd d v : Int)) b

theorem gcdL_snoc (b : Int) (a : List Int) (v : Int) : gcdL b (a ++ [v]) = (Int.gcd (gcdL b a) v : Int) := by simp [gcdL]

theorem gcdL_step {b : Int} {a : List Int} {t : Nat} (h : t < a.length) : gcdL b (a.take (t + 1)) = (Int.gcd (gcdL b (a.take t)) (gA a t) : Int) := by
  rw [List.take_succ_eq_append_getElem h, gcdL_snoc]
  simp [gA, h]

theorem gcd_le63 {a b : Int} (ha : A63 a) (hb : A63 b) : A63 (Int.gcd a b : Int) := by
  unfold A63 at *
  by_cases h0 : a = 0
  · subst h0; simp only [Int.gcd, Int.natAbs_zero, Nat.gcd_zero_left]; omega
  · have := Nat.gcd_le_left b.natAbs (show 0 < a.natAbs by omega)
    simp only [Int.gcd]; omega

theorem gcdL_63 {b : Int} (hb : A63 b) : ∀ {a : List Int}, (∀ v ∈ a, A63 v) → A63 (gcdL b a) := by
  intro a h
  induction a generalizing b with
  | nil => exact hb
  | cons v a ih => exact ih (gcd_le63 hb (h v (by simp))) fun u hu => h u (by simp [hu])

def Ln.dv (x : Ln) : Int := gcdL x.b x.a

def Ln.low (x : Ln) : Ln := if x.dv = 0 then x else ⟨x.a.map (·.tdiv x.dv), x.b.tdiv x.dv, x.s⟩

theorem gA_mem {a : List Int} {t : Nat} (h : t < a.length) : gA a t ∈ a := by
  unfold gA; rw [List.getD_eq_getElem?_getD, List.getElem?_eq_getElem h]; exact List.getElem_mem _

theorem tdiv_in {a d : Int} (ha : A63 a) : wrap64 (a.tdiv d) = a.tdiv d := by
  have h : (a.tdiv d).natAbs ≤ a.natAbs := by rw [Int.natAbs_tdiv]; exact Nat.div_le_self _ _
  unfold A63 at ha; unfold wrap64; omega

theorem addr_add (b o j : Nat) : (⟨b, o, none⟩ : Addr).add j = ⟨b, o + j, none⟩ := by simp [Addr.add]

theorem coef_ty : Tryz.prog.underlying 80 = some (.array 6 2) := by kernel_rfl

theorem coef_size : (Tryz.prog.info? 80).map (·.size) = some 6 := by kernel_rfl

def avs (a : List Int) : Array Value := ⟨a.map (Value.int .i64)⟩

theorem size_of {t : TypeId} {k : Nat} (h : (Tryz.prog.info? t).map (·.size) = some k) (w : World) : (sizeOf t).run Tryz.prog w = .ok k w := by
  cases hq : Tryz.prog.info? t with
  | none => simp [hq] at h
  | some i => simp [hq] at h; simp [sizeOf, typeInfo, hq, h]

theorem i64_size : (Tryz.prog.info? 2).map (·.size) = some 1 := by kernel_rfl

theorem coef_loadV {w : World} {b : Nat} {x : Ln} (h : Bk w b x) : (loadVar 80 ⟨b, 0, none⟩).run Tryz.prog w = .ok (.agg (avs x.a)) w := by
  have hc := run_loadCells_list (P := Tryz.prog) w ⟨b, 0, none⟩ (x.a.map (Value.int .i64)) (fun j v hv => by
    have hj : j < 6 := by
      have := h.2
      by_cases e : j < (x.a.map (Value.int .i64)).length
      · simpa [this] using e
      · rw [List.getElem?_eq_none (by omega)] at hv; cases hv
    rw [addr_add, Nat.zero_add, h.at hj, ← hv]
    simp [gA, show j < x.a.length by rw [h.2]; exact hj])
  rw [show (x.a.map (Value.int .i64)).length = 6 by simp [h.2]] at hc
  have ha : (isAgg 80).run Tryz.prog w = .ok true w := by
    unfold isAgg; rw [Sem.run_bind, run_underlying coef_ty w]; simp
  unfold loadVar
  rw [Sem.run_bind, ha, Result.andThen_ok, if_pos rfl, Sem.run_bind, size_of coef_size, Result.andThen_ok, Sem.run_bind, hc]
  rfl

theorem wp_loadA {w : World} {o : Oper} {a : Act} {K : Act → World → Prop} {Q : Exit → Act → World → Prop} (s : Operand) (ho : o.op = .load 80 s) (b : Nat) (hs : a.eval s = .pointer (some ⟨b, 0, none⟩)) (x : Ln) (hx : Bk w b x)
    (h : K (a.put o.dst (.agg (avs x.a))) w) : o.wp Tryz.prog a w K Q := by
  have hv := coef_loadV hx
  generalize avs x.a = V at *
  unfold Oper.wp execOp
  simp only [ho, hs, Instr.loadAt, Instr.sureAddr, Sem.run_bind, Sem.run_pure, Result.andThen_ok, hv]
  exact h

theorem wpl_loadA {w : World} {ops : Array Oper} {rest : List Oper} {o : Oper} {a : Act} {Q : Exit → Act → World → Prop} (hgd : o.guard = none) (s : Operand) (ho : o.op = .load 80 s) (b : Nat) (hs : a.eval s = .pointer (some ⟨b, 0, none⟩)) (x : Ln) (hx : Bk w b x)
    (h : wpList Tryz.prog ops Q rest (a.put o.dst (.agg (avs x.a))) w) : wpList Tryz.prog ops Q (o :: rest) a w :=
  wpList_plain hgd fun _ hK => wp_loadA s ho b hs x hx (hK _ _ h)

theorem run_indexA (l : List Int) (t : Nat) (hl : l.length = 6) (ht : t < 6) (w : World) : (Instr.index 80 (.agg (avs l)) (.int .i64 t)).run Tryz.prog w = .ok (.int .i64 (gA l t)) w := by
  have hp : Tryz.prog.plainKey 2 = true := by kernel_rfl
  have p1 : (part 2 (avs l) (t * 1)).run Tryz.prog w = .ok (.int .i64 (gA l t)) w := run_part_plain w hp (by simp [avs, gA, show t < l.length by omega])
  unfold Instr.index
  simp only [asIntOf, Sem.run_bind, Sem.run_pure, Result.andThen_ok, run_underlying coef_ty w]
  rw [if_pos (by constructor <;> omega), Sem.run_bind, size_of i64_size, Result.andThen_ok, Int.toNat_natCast, p1]

theorem wp_indexA {w : World} {o : Oper} {a : Act} {K : Act → World → Prop} {Q : Exit → Act → World → Prop} (s i : Operand) (ho : o.op = .index 80 s i) (l : List Int) (t : Nat) (hs : a.eval s = .agg (avs l)) (hi : a.eval i = .int .i64 t) (hl : l.length = 6) (ht : t < 6)
    (h : K (a.put o.dst (.int .i64 (gA l t))) w) : o.wp Tryz.prog a w K Q := by
  have hv := run_indexA l t hl ht w
  generalize avs l = V at *
  unfold Oper.wp execOp
  simp only [ho, hs, hi, Sem.run_bind, Sem.run_pure, hv, Result.andThen_ok]
  exact h

theorem wpl_indexA {w : World} {ops : Array Oper} {rest : List Oper} {o : Oper} {a : Act} {Q : Exit → Act → World → Prop} (hgd : o.guard = none) (s i : Operand) (ho : o.op = .index 80 s i) (l : List Int) (t : Nat) (hs : a.eval s = .agg (avs l)) (hi : a.eval i = .int .i64 t) (hl : l.length = 6) (ht : t < 6)
    (h : wpList Tryz.prog ops Q rest (a.put o.dst (.int .i64 (gA l t))) w) : wpList Tryz.prog ops Q (o :: rest) a w :=
  wpList_plain hgd fun _ hK => wp_indexA s i ho l t hs hi hl ht (hK _ _ h)

set_option maxRecDepth 20000 in
set_option maxHeartbeats 1000000 in
theorem lowest_any (x : Ln) (w : World) (hx : x.a.length = 6) (h1 : ∀ v ∈ x.a, A63 v) (h2 : A63 x.b) :
    Calls Tryz.prog 122 #[.agg x.cs] w (Made (.agg x.low.cs) w) := by
  have hz := ln_zero
  obtain ⟨w0, hw0⟩ : ∃ w0, w0 = (w.alloc (.cells x.cs 82)).alloc (.cells ln0.cs 82) := ⟨_, rfl⟩
  have K0 := Lib.hid (show Bk w0 w.heap.size x by rw [hw0]; exact (Bk.made w x hx).alloc _)
  have K1 := Lib.hid (show Bk w0 (w.heap.size + 1) ln0 by rw [hw0]; have := Bk.made (w.alloc (.cells x.cs 82)) ln0 rfl; simpa using this)
  have E0 := Lib.hid (show Below w.heap.size w w0 by rw [hw0]; exact past_two (Below.refl _ _))
  have HL := Lib.hid hx
  have HA := Lib.hid h1
  have c6 := K0.out.num
  have HB := Lib.hid h2
  clear h1 h2 hx
  go_enter Tryz.func122, Tryz.ntmps122
  go_upto_region 1 with (fail)
  rw [← hw0]
  clear hw0
  go_wp2_with (refine wpl_loadA rfl _ rfl _ rfl x K0.out ?_)
  clear c6
  go_loopw [11, 3] (fun s d wr => ∃ t : Nat, s = .int .i64 t ∧ t ≤ 6 ∧ d = .int .i64 (gcdL x.b (x.a.take t)) ∧ ∃ n, wr = w0.drewN n) (fun s _ _ => 6 - (intOf s).toNat)
  case atStart => exact ⟨0, rfl, by omega, by simp [gcdL], 0, rfl⟩
  case round =>
    obtain ⟨t, rfl, ht, rfl, n, rfl⟩ := hrel
    by_cases h6 : t < 6
    · have PG := Lib.hid (fun W => pgcd_any (gcdL x.b (x.a.take t)) (gA x.a t) W (gcdL_63 HB.out fun u hu => HA.out u (List.mem_of_mem_take hu)) (HA.out _ (gA_mem (by rw [HL.out]; exact h6))))
      rw [← gcdL_step (by rw [HL.out]; exact h6)] at PG
      go_wp2_with (refine wpl_indexA rfl _ _ rfl x.a t rfl rfl HL.out h6 ?_)
      refine (PG.out _).mono ?_
      rintro e w1 ⟨rfl, m, rfl⟩
      go_wp2_with fail
      go_roundw
      case rel => exact ⟨t + 1, by go_num, by omega, rfl, _, rfl⟩
      case measure => simp [intOf]; omega
    · have e6 : t = 6 := by omega
      have HE := Lib.hid (show gcdL x.b (x.a.take t) = x.dv from by unfold Ln.dv; rw [List.take_of_length_le (by rw [HL.out]; omega)])
      obtain ⟨W, hW⟩ : ∃ W, W = w0.drewN n := ⟨_, rfl⟩
      have K2 := Lib.hid (show Bk W w.heap.size x by rw [hW]; exact K0.out.of_block rfl)
      have K3 := Lib.hid (show Bk W (w.heap.size + 1) ln0 by rw [hW]; exact K1.out.of_block rfl)
      have E2 := Lib.hid (show Below w.heap.size w W by rw [hW]; exact below_drewN E0.out n)
      rw [HE.out]
      rw [← hW]
      clear hW e6 ht
      by_cases hd : x.dv = 0
      · have D0 : (x.dv == 0) = true := by simpa using hd
        have EL := Lib.hid (show x.low = x from by unfold Ln.low; rw [if_pos hd])
        clear hd
        go_wp2_with (first | refine wpl_load rfl _ rfl _ rfl _ K2.out ?_ | refine wpl_store rfl _ _ rfl _ _ rfl rfl _ K3.out HL.out ?_)
        exact bodyPost_ret (results_ln Tryz.results122 _ rfl (K3.out.setRow HL.out)) rfl ⟨by rw [EL.out], Below.setRow E2.out (by omega) _⟩
      · have D0 : (x.dv == 0) = false := by simpa using hd
        have DN := hd
        have EL := Lib.hid (show x.low = ⟨x.a.map (·.tdiv x.dv), x.b.tdiv x.dv, x.s⟩ from by unfold Ln.low; rw [if_neg hd])
        clear hd
        go_wp2_with fail
        clear HE
        generalize x.dv = d at *
        have HT := Lib.hid (show ∀ t, t < 6 → wrap64 ((gA x.a t).tdiv d) = (gA x.a t).tdiv d from fun t ht => tdiv_in (HA.out _ (gA_mem (by rw [HL.out]; exact ht))))
        have hb := tdiv_in (d := d) HB.out
        go_loopw [21] (fun s wr => ∃ t : Nat, s = .int .i64 t ∧ t ≤ 6 ∧ Hid (Bk wr w.heap.size ⟨mapN (·.tdiv d) t x.a, x.b, x.s⟩) ∧ Hid (Bk wr (w.heap.size + 1) ln0) ∧ Hid (Below w.heap.size w wr)) (fun s _ => 6 - (intOf s).toNat)
        case atStart => exact ⟨0, rfl, by omega, Lib.hid (by have := K2.out; simpa [mapN] using this), K3, E2⟩
        case round =>
          obtain ⟨t, rfl, ht, HX, HR, HW⟩ := hrel
          by_cases h6 : t < 6
          · have c0 : wr.cell? ⟨w.heap.size, t, none⟩ = some (.int .i64 (gA x.a t)) := by have := HX.out.at h6; rwa [mapN_get _ (by rw [HL.out]; exact h6)] at this
            have f0 := HX.out.free t
            have q1 := HT.out t h6
            have HX' := Lib.hid (HX.out.put h6 ((gA x.a t).tdiv d))
            go_wp2_with fail
            go_roundw
            case rel =>
              refine ⟨t + 1, by go_num, by omega, Lib.hid ?_, Lib.hid (HR.out.aside (by omega) _), Lib.hid (HW.out.setCell (p := ⟨w.heap.size, t, none⟩) (Nat.le_refl _) _)⟩
              have := HX'.out
              rwa [mapN_step (·.tdiv d) (by rw [HL.out]; exact h6)] at this
            case measure => simp [intOf]; omega
          · have HX' := Lib.hid (show Bk wr w.heap.size ⟨x.a.map (·.tdiv d), x.b, x.s⟩ by have := HX.out; rwa [mapN_all _ _ (by rw [HL.out]; omega)] at this)
            have c6 := HX'.out.num
            have f6 := HX'.out.free 6
            have HC := Lib.hid (show Bk (wr.setCell ⟨w.heap.size, 6, none⟩ (.int .i64 (x.b.tdiv d))) w.heap.size x.low from by rw [EL.out]; exact HX'.out.putb (x.b.tdiv d))
            have HD := Lib.hid (HR.out.aside (y := w.heap.size) (j := 6) (by omega) (.int .i64 (x.b.tdiv d)))
            have HE' := Lib.hid (HW.out.setCell (p := ⟨w.heap.size, 6, none⟩) (Nat.le_refl _) (.int .i64 (x.b.tdiv d)))
            have HZ := Lib.hid HC.out.2
            clear HX HR HW
            go_wp2_with (first | refine wpl_load rfl _ rfl _ rfl _ HC.out ?_ | refine wpl_store rfl _ _ rfl _ _ rfl rfl _ HD.out HZ.out ?_)
            exact bodyPost_ret (results_ln Tryz.results122 _ rfl (HD.out.setRow HZ.out)) rfl ⟨rfl, Below.setRow HE'.out (by omega) _⟩
end Go.Proofs.YtbhaoaobhgilkaaGreat

namespace Go.Proofs.YtbhaoaobhgilkaaGreat
open Go.RowKit

structure Rg (m : Int) (x : Ln) : Prop where
  len : x.a.length = 6
  a : ∀ v ∈ x.a, -m ≤ v ∧ v ≤ m
  b : -m ≤ x.b ∧ x.b ≤ m

theorem Rg.mono {m n : Int} {x : Ln} (h : Rg m x) (hn : m ≤ n) : Rg n x := ⟨h.len, fun v q => by have := h.a v q; omega, by have := h.b; omega⟩

theorem Rg.at {m : Int} {x : Ln} (h : Rg m x) {t : Nat} (ht : t < 6) : -m ≤ gA x.a t ∧ gA x.a t ≤ m := h.a _ (gA_mem (by rw [h.len]; exact ht))

theorem Rg.of_at {m : Int} {x : Ln} (hl : x.a.length = 6) (ha : ∀ t, t < 6 → -m ≤ gA x.a t ∧ gA x.a t ≤ m) (hb : -m ≤ x.b ∧ x.b ≤ m) : Rg m x :=
  ⟨hl, fun v hv => by
    obtain ⟨i, hi, rfl⟩ := List.getElem_of_mem hv
    have := ha i (by omega)
    simpa [gA, hi] using this, hb⟩

theorem times_len {x : Ln} {c : Int} : (x.times c).a.length = x.a.length := by simp [Ln.times]

theorem gA_map (f : Int → Int) {l : List Int} {t : Nat} (h : t < l.length) : gA (l.map f) t = f (gA l t) := by simp [gA, h]

theorem gA_zip {l m : List Int} {t : Nat} (h : t < l.length) (h' : t < m.length) : gA (List.zipWith (· + ·) l m) t = gA l t + gA m t := by simp [gA, h, h', List.getElem?_zipWith]

theorem mul_in {u v m k : Int} (h1 : -m ≤ u ∧ u ≤ m) (h2 : -k ≤ v ∧ v ≤ k) (hm : 0 ≤ m) (hk : 0 ≤ k) : -(m * k) ≤ u * v ∧ u * v ≤ m * k := by
  have a : (u * v).natAbs ≤ (m * k).natAbs := by
    rw [Int.natAbs_mul, Int.natAbs_mul]
    exact Nat.mul_le_mul (by omega) (by omega)
  have b : 0 ≤ m * k := Int.mul_nonneg hm hk
  omega

theorem Rg.times {m k : Int} {x : Ln} {c : Int} (h : Rg m x) (hc : -k ≤ c ∧ c ≤ k) (hm : 0 ≤ m) (hk : 0 ≤ k) : Rg (m * k) (x.times c) :=
  Rg.of_at (by rw [times_len]; exact h.len) (fun t ht => by rw [show (x.times c).a = x.a.map (· * c) from rfl, gA_map _ (by rw [h.len]; exact ht)]; exact mul_in (h.at ht) hc hm hk) (mul_in h.b hc hm hk)

theorem Rg.plus {m k : Int} {x y : Ln} (h : Rg m x) (h' : Rg k y) : Rg (m + k) (x.plus y) :=
  Rg.of_at (by simp [Ln.plus, h.len, h'.len]) (fun t ht => by
    rw [show (x.plus y).a = List.zipWith (· + ·) x.a y.a from rfl, gA_zip (by rw [h.len]; exact ht) (by rw [h'.len]; exact ht)]
    have := h.at ht; have := h'.at ht; omega) (by show -(m + k) ≤ x.b + y.b ∧ _; have := h.b; have := h'.b; constructor <;> (try show x.b + y.b ≤ _) <;> omega)

theorem Rg.low {m : Int} {x : Ln} (h : Rg m x) : Rg m x.low := by
  have td : ∀ v d : Int, -m ≤ v ∧ v ≤ m → -m ≤ v.tdiv d ∧ v.tdiv d ≤ m := fun v d q => by
    have : (v.tdiv d).natAbs ≤ v.natAbs := by rw [Int.natAbs_tdiv]; exact Nat.div_le_self _ _
    omega
  unfold Ln.low
  split
  · exact h
  · exact Rg.of_at (by simp [h.len]) (fun t ht => by rw [gA_map _ (by rw [h.len]; exact ht)]; exact td _ _ (h.at ht)) (td _ _ h.b)

def Ln.opp (x : Ln) : Ln := { x.times (-1) with s := !x.s }

theorem Rg.opp {m : Int} {x : Ln} (h : Rg m x) (hm : 0 ≤ m) : Rg m x.opp := by
  have := h.times (c := -1) (k := 1) (by omega) hm (by omega)
  rw [Int.mul_one] at this
  exact ⟨this.len, this.a, this.b⟩

set_option maxRecDepth 20000 in
set_option maxHeartbeats 1000000 in
theorem opp_any (x : Ln) (w : World) (h : Rg 9223372036854775807 x) :
    Calls Tryz.prog 96 #[.agg x.cs] w (Made (.agg x.opp.cs) w) := by
  have hz := ln_zero
  obtain ⟨w0, hw0⟩ : ∃ w0, w0 = (w.alloc (.cells x.cs 82)).alloc (.cells ln0.cs 82) := ⟨_, rfl⟩
  have K0 := Lib.hid (show Bk w0 w.heap.size x by rw [hw0]; exact (Bk.made w x h.len).alloc _)
  have K1 := Lib.hid (show Bk w0 (w.heap.size + 1) ln0 by rw [hw0]; have := Bk.made (w.alloc (.cells x.cs 82)) ln0 rfl; simpa using this)
  have E0 := Lib.hid (show Below w.heap.size w w0 by rw [hw0]; exact past_two (Below.refl _ _))
  have TM := Lib.hid (fun W => times_any x (-1) W h.len (fun v hv => by have := h.a v hv; unfold I64; omega) (by have := h.b; unfold I64; omega))
  have HL := Lib.hid (show (x.times (-1)).a.length = 6 by rw [times_len]; exact h.len)
  clear h
  go_enter Tryz.func96, Tryz.ntmps96
  go_upto_region 1 with (fail)
  rw [← hw0]
  clear hw0
  go_wp2_with (refine wpl_load rfl _ rfl _ rfl _ K0.out ?_)
  refine (TM.out _).mono ?_
  rintro e w1 ⟨rfl, hb⟩
  have B1 := Lib.hid (below_on E0.out hb)
  have X1 := Lib.hid (K0.out.kept hb)
  have Y1 := Lib.hid (K1.out.kept hb)
  clear hb
  have N1 := Lib.hid (show Bk (w1.alloc (.cells ln0.cs 82)) w1.heap.size ln0 from Bk.made w1 ln0 rfl)
  have z1 := Lib.hid (show w.heap.size + 2 ≤ w1.heap.size by have := Y1.out.lt; omega)
  have N2 := Lib.hid (N1.out.setRow HL.out)
  have X2 := Lib.hid ((X1.out.alloc (.cells ln0.cs 82)).setAside (y := w1.heap.size) (by have := z1.out; omega) (x.times (-1)).cs)
  have Y2 := Lib.hid ((Y1.out.alloc (.cells ln0.cs 82)).setAside (y := w1.heap.size) (by have := z1.out; omega) (x.times (-1)).cs)
  have B2 := Lib.hid (Below.setRow (B1.out.alloc B1.out.size (.cells ln0.cs 82)) (b := w1.heap.size) B1.out.size (x.times (-1)).cs)
  go_upto_region 2 with (refine wpl_store rfl _ _ rfl _ _ rfl rfl _ N1.out HL.out ?_)
  generalize (w1.alloc (.cells ln0.cs 82)).setRow w1.heap.size (x.times (-1)).cs = w2 at *
  generalize w1.heap.size = q at *
  have c7 := X2.out.str
  have d7 := N2.out.str
  have f7 := N2.out.free 7
  have N3 := Lib.hid (show Bk _ q x.opp from N2.out.puts (!x.s))
  have Y3 := Lib.hid (Y2.out.aside (y := q) (j := 7) (by have := z1.out; omega) (.bool (!x.s)))
  have B3 := Lib.hid (B2.out.setCell (p := ⟨q, 7, none⟩) (by have := z1.out; show w.heap.size ≤ q; omega) (.bool (!x.s)))
  have HO := Lib.hid N3.out.2
  go_wp2_with (first | refine wpl_load rfl _ rfl _ rfl _ N3.out ?_ | refine wpl_store rfl _ _ rfl _ _ rfl rfl _ Y3.out HO.out ?_)
  exact bodyPost_ret (results_ln Tryz.results96 _ rfl (Y3.out.setRow HO.out)) rfl ⟨rfl, Below.setRow B3.out (by omega) _⟩

def Ln.lim (x : Ln) : Int := if x.s then 2 * x.b else 2 * x.b + 1

set_option maxRecDepth 20000 in
set_option maxHeartbeats 1000000 in
theorem lim_any (x : Ln) (w : World) (h : Rg 4611686018427387903 x) :
    Calls Tryz.prog 123 #[.agg x.cs] w (Made (.int .i64 x.lim) w) := by
  obtain ⟨w0, hw0⟩ : ∃ w0, w0 = w.alloc (.cells x.cs 82) := ⟨_, rfl⟩
  have K0 := Bk.made w x h.len
  rw [← hw0] at K0
  have E0 := Lib.hid (show Below w.heap.size w w0 by rw [hw0]; exact one_more _)
  have c6 := K0.num
  have c7 := K0.str
  have q1 : wrap64 (2 * x.b) = 2 * x.b := by have := h.b; unfold wrap64; omega
  have q2 : wrap64 (2 * x.b + 1) = 2 * x.b + 1 := by have := h.b; unfold wrap64; omega
  have HL := Lib.hid (show x.lim = if x.s then 2 * x.b else 2 * x.b + 1 from rfl)
  clear K0 h
  go_enter Tryz.func123, Tryz.ntmps123
  go_upto_region 1 with (fail)
  rw [← hw0]
  clear hw0
  cases hs : x.s
  · rw [hs] at c7 HL
    go_wp2_with fail
    go_ret
    exact ⟨ret_int (by rw [HL.out]; first | rfl | (rw [q2]; rfl)), E0.out⟩
  · rw [hs] at c7 HL
    go_wp2_with fail
    go_ret
    exact ⟨ret_int (by rw [HL.out]; first | rfl | (rw [q2]; rfl)), E0.out⟩
end Go.Proofs.YtbhaoaobhgilkaaGreat
