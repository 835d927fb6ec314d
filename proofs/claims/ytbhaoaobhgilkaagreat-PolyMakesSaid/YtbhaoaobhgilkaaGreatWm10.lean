/- The contract of package poly's shadows.; Contracts of package poly: isEmpty, demand, isValid, Check; lines of package api in memory.; Contracts of package poly: Check, demand, isEmpty, lineOf. -/
import Derived.Test.YtbhaoaobhgilkaaGreatWm9
import Derived.Laws.CopyRow

namespace Go.Proofs.YtbhaoaobhgilkaaGreat
open Go.RowKit Go.Sort Go.Shelf

def shL (l : List Ln) (n : Nat) : Nat → List Ln
  | 0 => tidyL l
  | k + 1 => leaveL (shL l n k) (n - 1 - k)

def shE (l : List Ln) (n : Nat) : Nat → Int
  | 0 => 0
  | k + 1 => if shE l n k = 0 then leaveE (shL l n k) (n - 1 - k) else shE l n k

theorem shE_stop {l : List Ln} {n k : Nat} (h : shE l n k ≠ 0) : ∀ j, shE l n (k + j) = shE l n k
  | 0 => rfl
  | j + 1 => by
    show (if shE l n (k + j) = 0 then _ else shE l n (k + j)) = _
    rw [shE_stop h j, if_neg h]

theorem cptN_le {l : List Ln} : ∀ t, (cptN l t).length ≤ t
  | 0 => by simp [cptN]
  | t + 1 => by
    have := cptN_le (l := l) t
    simp only [cptN, List.length_append]
    split
    · split <;> simp <;> omega
    · simp; omega

theorem tidyL_len {l : List Ln} {m : Nat} (h : l.length ≤ m) (hm : 1 ≤ m) : (tidyL l).length ≤ m := by
  unfold tidyL
  split
  · simpa using hm
  · unfold cptL
    refine Nat.le_trans (cptN_le _) ?_
    unfold srtL
    rw [List.length_mergeSort]
    unfold keepL
    exact Nat.le_trans (List.length_filter_le _ _) (by simpa using h)

theorem leaveE_len {l : List Ln} {i : Nat} (h : leaveE l i = 0) : (zrs l i ++ sums l i).length ≤ 1000 := by
  unfold leaveE at h
  split at h
  · cases h
  · rename_i q
    rw [List.length_append]
    have : (sums l i).length = (ups l i).length * (dns l i).length := by
      unfold sums prs
      simp [List.length_flatMap, List.map_const', List.sum_replicate_nat]
    omega

theorem leaveL_rg {l : List Ln} {i : Nat} (hg : ∀ x ∈ l, Rg 2147483647 x) (h : leaveE l i = 0) : ∀ x ∈ leaveL l i, Rg 2147483647 x := by
  unfold leaveL
  refine tidyL_rg (by omega) (fun x hx => ?_)
  rcases List.mem_append.1 hx with q | q
  · exact hg x (by unfold zrs at q; exact (List.mem_filter.1 q).1)
  · unfold leaveE at h
    split at h
    · cases h
    · split at h
      · rename_i q2
        rw [List.all_eq_true] at q2
        have f := q2 x q
        unfold sums at q
        obtain ⟨⟨a, b⟩, hp, rfl⟩ := List.mem_map.1 q
        unfold prs at hp
        simp only [List.mem_flatMap, List.mem_map] at hp
        obtain ⟨a', ha, b', hb, e⟩ := hp
        cases e
        exact Ln.fits_rg (sumL_len (hg _ (by unfold ups at ha; exact (List.mem_filter.1 ha).1)).len (hg _ (by unfold dns at hb; exact (List.mem_filter.1 hb).1)).len) f
      · cases h

theorem shL_ok {l : List Ln} {n : Nat} (hl : l.length ≤ 2000) (hg : ∀ x ∈ l, Rg 2147483647 x) : ∀ k, shE l n k = 0 → (shL l n k).length ≤ 2000 ∧ ∀ x ∈ shL l n k, Rg 2147483647 x
  | 0, _ => ⟨tidyL_len hl (by omega), tidyL_rg (by omega) hg⟩
  | k + 1, h => by
    have h' : (if shE l n k = 0 then leaveE (shL l n k) (n - 1 - k) else shE l n k) = 0 := h
    split at h'
    · rename_i q
      have ih := shL_ok hl hg k q
      refine ⟨?_, leaveL_rg ih.2 h'⟩
      show (leaveL _ _).length ≤ 2000
      unfold leaveL
      exact tidyL_len (by have := leaveE_len h'; omega) (by omega)
    · rename_i q; exact absurd h' q

theorem LnAt.slot {w : World} {p q : Addr} {x : Ln} (h : LnAt w p x) {a : Option Addr} {m c : Nat} (hq : w.cell? q = some (.slice a m c)) (v : Value) : LnAt (w.setCell q v) p x :=
  ⟨h.1, fun j u hu => by
    have hc := h.2 j u hu
    rw [World.cell?_setCell_other w q _ v]
    · exact hc
    · rintro rfl
      rw [hq] at hc
      have e : u = .slice a m c := by injection hc with hc; exact hc.symm
      have hm := List.mem_of_getElem? hu
      rw [e] at hm
      simp [Ln.cells] at hm⟩

theorem RdL.slot {w : World} {q : Addr} {ao : Option Addr} {l : List Ln} (h : RdL w ao l) {a : Option Addr} {m c : Nat} (hq : w.cell? q = some (.slice a m c)) (v : Value) : RdL (w.setCell q v) ao l := fun t ht => by
  obtain ⟨b, e, c⟩ := h t ht
  exact ⟨b, e, c.slot hq v⟩

structure ShR (w wr : World) (b : Nat) (l : List Ln) (n k : Nat) (cs : Array Value) : Prop where
  blk : wr.heap[b]? = some (.cells cs 66 (0, 0))
  size : cs.size = n + 1
  lo : ∀ j, j + k ≤ n → cs[j]? = some (.slice none 0 0)
  hi : ∀ j, n < j + k → j ≤ n → ∃ ao c, cs[j]? = some (.slice ao (shL l n (n - j)).length c) ∧ RdL wr ao (shL l n (n - j))
  be : Below w.heap.size w wr
  nb : w.heap.size ≤ b

theorem ShR.lt {w wr : World} {b : Nat} {l : List Ln} {n k : Nat} {cs : Array Value} (h : ShR w wr b l n k cs) : b < wr.heap.size := by
  by_cases e : b < wr.heap.size
  · exact e
  · have := h.blk; rw [Array.getElem?_eq_none (by omega)] at this; cases this

theorem ShR.on {w wr w2 : World} {b : Nat} {l : List Ln} {n k : Nat} {cs : Array Value} (h : ShR w wr b l n k cs) (hb : Below wr.heap.size wr w2) : ShR w w2 b l n k cs :=
  ⟨(hb.block b h.lt).trans h.blk, h.size, h.lo, fun j q r => by obtain ⟨ao, c, e, rd⟩ := h.hi j q r; exact ⟨ao, c, e, rd.on hb⟩, below_on h.be hb, h.nb⟩

theorem ShR.cell {w wr : World} {b : Nat} {l : List Ln} {n k : Nat} {cs : Array Value} (h : ShR w wr b l n k cs) (j : Nat) : wr.cell? ⟨b, j, none⟩ = cs[j]? := by rw [cell_of_row wr b j _ _ _ h.blk]

theorem ShR.free {w wr : World} {b : Nat} {l : List Ln} {n k : Nat} {cs : Array Value} (h : ShR w wr b l n k cs) (j : Nat) : wr.frozen? ⟨b, j, none⟩ = false := frozen_of_row wr b j _ _ h.blk

theorem ShR.put {w wr : World} {b : Nat} {l : List Ln} {n k : Nat} {cs : Array Value} (h : ShR w wr b l n k cs) {ao : Option Addr} {c j : Nat} (hj : j + k = n) (hr : RdL wr ao (shL l n k)) :
    ShR w (wr.setCell ⟨b, j, none⟩ (.slice ao (shL l n k).length c)) b l n (k + 1) (cs.setIfInBounds j (.slice ao (shL l n k).length c)) := by
  have hc := (h.cell j).trans (h.lo j (by omega))
  refine ⟨heap_setCell_same _ _ _ _ _ _ h.blk, by simp [h.size], fun t ht => ?_, fun t ht hn => ?_, h.be.setCell (p := ⟨b, j, none⟩) h.nb _, h.nb⟩
  · rw [Array.getElem?_setIfInBounds_ne (by omega)]
    exact h.lo t (by omega)
  · by_cases e : t = j
    · subst e
      have : n - t = k := by omega
      rw [this]
      refine ⟨ao, c, ?_, hr.slot hc _⟩
      rw [Array.getElem?_setIfInBounds_self_of_lt (by rw [h.size]; omega)]
    · obtain ⟨a2, c2, e2, r2⟩ := h.hi t (by omega) hn
      refine ⟨a2, c2, ?_, r2.slot hc _⟩
      rw [Array.getElem?_setIfInBounds_ne (by omega)]
      exact e2

theorem rows_info : (Tryz.prog.info? 66).map (fun i => (i.zero, i.size, i.bytes)) = some (some (.slice none 0 0), 1, 24) := by kernel_rfl

theorem make_rows (w : World) (n : Nat) (hn : n ≤ 1000) (x : Int) (hx : x = n) :
    (Instr.makeSlice 76 (.int .i64 x) (.int .i64 x)).run Tryz.prog w = .ok (.slice (some ⟨w.heap.size, 0, none⟩) n n) (w.alloc (.cells (List.replicate n (Value.slice none 0 0)).toArray 66)) := by
  subst hx
  obtain ⟨i0, hi, hz0, hz1, hz2⟩ := info_parts rows_info
  have hr := run_make (P := Tryz.prog) w 76 66 i0 _ Tryz.underlying76 hi hz0 .i64 .i64 (n : Int) (n : Int) (by omega) (by omega) (by rw [hz2]; omega) (by omega)
  have e : madeCells (Value.slice none 0 0).cells ((n : Int).toNat * i0.size) = (List.replicate n (Value.slice none 0 0)).toArray := by
    apply Array.toList_inj.1
    rw [hz1]
    simp only [Int.toNat_natCast, Nat.mul_one]
    rw [show (Value.slice none 0 0).cells = #[Value.slice none 0 0] from rfl, toList_madeCells_one]
  rw [e] at hr
  simpa using hr

def ShRes (w : World) (l : List Ln) (n : Nat) (e : Ending) (w' : World) : Prop :=
  (shE l n n = 0 ∧ ∃ b cs, e = .returned (.slice (some ⟨b, 0, none⟩) (n + 1) (n + 1)) ∧ ShR w w' b l n (n + 1) cs) ∨ (shE l n n ≠ 0 ∧ e = .panicked (pan (shE l n n)) ∧ Below w.heap.size w w')

set_option maxRecDepth 100000 in
set_option maxHeartbeats 4000000 in
theorem shadows_any (l : List Ln) (ao : Option Addr) (cap n : Nat) (w : World) (hl : l.length ≤ 2000) (hn : n ≤ 6) (hR : RdL w ao l) (hg : ∀ x ∈ l, Rg 2147483647 x) :
    Calls Tryz.prog 54 #[.int .i64 n, .slice ao l.length cap] w (ShRes w l n) := by
  have OK := Lib.hid (fun k (h : shE l n k = 0) => shL_ok hl hg k h)
  have TD := Lib.hid (fun W (h : RdL W ao l) => tidy_any l ao cap W (by omega) h hg)
  have HR := Lib.hid hR
  have MK := make_rows w (n + 1) (by omega) ((n : Int) + 1) (by omega)
  obtain ⟨m0, hm0⟩ : ∃ m0, m0 = l.length := ⟨_, rfl⟩
  rw [← hm0] at TD ⊢
  obtain ⟨w0, hw0⟩ : ∃ w0, w0 = w.alloc (.cells (List.replicate (n + 1) (Value.slice none 0 0)).toArray 66) := ⟨_, rfl⟩
  have S0 := Lib.hid (show ShR w w0 w.heap.size l n 0 (List.replicate (n + 1) (Value.slice none 0 0)).toArray from
    ⟨by rw [hw0]; exact heap_alloc_last w _, by simp, fun j hj => by rw [List.getElem?_toArray, List.getElem?_replicate, if_pos (by omega)], fun j h1 h2 => by omega, by rw [hw0]; exact one_more _, Nat.le_refl _⟩)
  have R0 := Lib.hid (show RdL w0 ao l from by rw [hw0]; exact hR.on (one_more _))
  rw [← hw0] at MK
  clear hl hR hg hm0 hw0
  go_enter Tryz.func54, Tryz.ntmps54
  go_wp2_with (rw [MK])
  refine (TD.out w0 R0.out).mono ?_
  rintro e w1 ⟨a1, c1, rfl, rd1, hb1⟩
  have S1 := Lib.hid (S0.out.on hb1)
  have RD := Lib.hid (show RdL w1 a1 (shL l n 0) from rd1)
  obtain ⟨m1, hm1⟩ : ∃ m1, m1 = (tidyL l).length := ⟨_, rfl⟩
  have S2 := Lib.hid (show ShR w (w1.setCell ⟨w.heap.size, n, none⟩ (.slice a1 m1 c1)) w.heap.size l n 1 _ by rw [hm1]; exact S1.out.put (c := c1) (j := n) rfl RD.out)
  have f0 : w1.cell? ⟨w.heap.size, n, none⟩ = some (.slice none 0 0) := (S1.out.cell n).trans (S1.out.lo n (by omega))
  have f1 := S1.out.free n
  rw [← hm1]
  generalize hbb : w.heap.size = bb at f0 f1 S2 ⊢
  clear rd1 hb1 hm1 S0 R0 TD MK S1 RD HR
  go_wp2_with fail
  go_loopw [6] (fun s wr => ∃ (m : Nat), s = .int .i64 ((m : Int) - 1) ∧ m ≤ n ∧ Hid (∃ cs, ShR w wr bb l n (n - m + 1) cs) ∧ Hid (shE l n (n - m) = 0)) (fun s _ => (intOf s + 1).toNat)
  case atStart => exact ⟨n, by go_num, by omega, Lib.hid (by simpa using ⟨_, S2.out⟩), Lib.hid (by simp [shE])⟩
  case round =>
    obtain ⟨m, rfl, hm, HS, HE⟩ := hrel
    cases m with
    | zero =>
      have HS' := Lib.hid HS.out
      clear HS
      rw [show (((0 : Nat) : Int) - 1) = -1 from rfl]
      go_wp2_with fail
      go_ret
      obtain ⟨cs, h⟩ := HS'.out
      exact Or.inl ⟨HE.out, bb, cs, rfl, by rw [hbb] at *; exact h⟩
    | succ m =>
      rw [show (((m + 1 : Nat) : Int) - 1) = m by omega]
      obtain ⟨cs, h⟩ := HS.out
      obtain ⟨k, hk⟩ : ∃ k, k = n - (m + 1) := ⟨_, rfl⟩
      have hkn : m + (k + 1) = n := by omega
      have HE' := Lib.hid (show shE l n k = 0 by rw [hk]; exact HE.out)
      have HC := Lib.hid (show ShR w wr bb l n (k + 1) cs by rw [hk]; exact h)
      obtain ⟨a2, c2, e2, rd⟩ := HC.out.hi (m + 1) (by omega) hm
      rw [show n - (m + 1) = k from hk.symm] at e2 rd
      obtain ⟨ok1, ok2⟩ := OK.out k HE'.out
      have LV := Lib.hid (leave_any (shL l n k) a2 c2 m wr ok1 (by omega) rd ok2)
      have EE := Lib.hid (show shE l n (k + 1) = leaveE (shL l n k) m by
        show (if shE l n k = 0 then leaveE (shL l n k) (n - 1 - k) else shE l n k) = _
        rw [if_pos HE'.out, show n - 1 - k = m by omega])
      have EL := Lib.hid (show shL l n (k + 1) = leaveL (shL l n k) m by
        show leaveL (shL l n k) (n - 1 - k) = _
        rw [show n - 1 - k = m by omega])
      have KN := Lib.hid hkn
      have g0 := (HC.out.cell (m + 1)).trans e2
      obtain ⟨mL, hmL⟩ : ∃ mL, mL = (shL l n k).length := ⟨_, rfl⟩
      rw [← hmL] at LV g0
      clear HS h e2 rd ok1 ok2 hmL hk HE hkn
      go_wp2_with fail
      refine LV.out.mono ?_
      rintro e w2 (⟨he, a3, c3, rfl, rd3, b3⟩ | ⟨he, rfl, b3⟩)
      · have S3 := Lib.hid (HC.out.on b3)
        have RD := Lib.hid (show RdL w2 a3 (shL l n (k + 1)) by rw [EL.out]; exact rd3)
        obtain ⟨m3, hm3⟩ : ∃ m3, m3 = (shL l n (k + 1)).length := ⟨_, rfl⟩
        have S4 := Lib.hid (show ∃ cs, ShR w (w2.setCell ⟨bb, m, none⟩ (.slice a3 m3 c3)) bb l n (k + 1 + 1) cs by rw [hm3]; exact ⟨_, S3.out.put (c := c3) (j := m) KN.out RD.out⟩)
        have f2 := (S3.out.cell m).trans (S3.out.lo m (by have := KN.out; omega))
        have f3 := S3.out.free m
        have HE2 := Lib.hid (show shE l n (k + 1) = 0 by rw [EE.out]; exact he)
        rw [← EL.out, ← hm3]
        clear rd3 b3 hm3 he S3 RD g0
        go_wp2_with fail
        go_roundw
        case rel => exact ⟨m, by go_num, by omega, Lib.hid (by rw [show n - m + 1 = k + 1 + 1 by have := KN.out; omega]; exact S4.out), Lib.hid (by rw [show n - m = k + 1 by have := KN.out; omega]; exact HE2.out)⟩
        case measure => simp [intOf]
      · have hs : shE l n n = leaveE (shL l n k) m := by
          rw [← EE.out, show n = k + 1 + m by have := KN.out; omega]
          rw [show k + 1 + m = n by have := KN.out; omega]
          have := shE_stop (l := l) (n := n) (k := k + 1) (by rw [EE.out]; exact he) m
          rw [show k + 1 + m = n by have := KN.out; omega] at this
          exact this
        go_wp2_with fail
        exact And.intro rfl <| Or.inr ⟨by rw [hs]; exact he, by rw [hs], below_on HC.out.be b3⟩
end Go.Proofs.YtbhaoaobhgilkaaGreat

namespace Go.Proofs.YtbhaoaobhgilkaaGreat
open Go.RowKit Go.Sort Go.Shelf

structure AV where
  q : Option Addr
  c : Nat
  a : List Int
  b : Int
  s : Bool

def AV.cells (y : AV) : List Value := [.slice y.q y.a.length y.c, .int .i64 y.b, .bool y.s]

def AV.cs (y : AV) : Array Value := ⟨y.cells⟩

def AvAt (w : World) (p : Addr) (y : AV) : Prop := ∀ j v, y.cells[j]? = some v → w.cell? (p.add j) = some v

theorem AvAt.on {w w' : World} {p : Addr} {y : AV} (h : AvAt w p y) (hb : Below w.heap.size w w') : AvAt w' p y := fun j v hv => kept hb (h j v hv)

structure RdV (w : World) (ao : Option Addr) (L : List AV) : Prop where
  at_ : ∀ t, ∀ h : t < L.length, ∃ p, ao = some p ∧ AvAt w (p.add (t * 3)) L[t]
  nums : ∀ y ∈ L, Rd1 w y.q y.a

theorem RdV.on {w w' : World} {ao : Option Addr} {L : List AV} (h : RdV w ao L) (hb : Below w.heap.size w w') : RdV w' ao L :=
  ⟨fun t ht => by obtain ⟨p, e, c⟩ := h.at_ t ht; exact ⟨p, e, c.on hb⟩, fun y hy => (h.nums y hy).on hb⟩

theorem av_size : (Tryz.prog.info? 25).map (·.size) = some 3 := by kernel_rfl

theorem av_loadP {w : World} {p : Addr} {y : AV} (h : AvAt w p y) : (loadVar 25 p).run Tryz.prog w = .ok (.agg y.cs) w := by
  have hc := run_loadCells_list (P := Tryz.prog) w p y.cells h
  have ha : (isAgg 25).run Tryz.prog w = .ok true w := by
    unfold isAgg; rw [Sem.run_bind, run_underlying Tryz.underlying25 w]; simp
  unfold loadVar
  rw [Sem.run_bind, ha, Result.andThen_ok, if_pos rfl, Sem.run_bind, size_of av_size, Result.andThen_ok, Sem.run_bind, show (3 : Nat) = y.cells.length from rfl, hc]
  rfl

theorem wp_loadV {w : World} {o : Oper} {a : Act} {K : Act → World → Prop} {Q : Exit → Act → World → Prop} (s : Operand) (ho : o.op = .load 25 s) (p : Addr) (hs : a.eval s = .pointer (some p)) (y : AV) (hx : AvAt w p y)
    (h : K (a.put o.dst (.agg y.cs)) w) : o.wp Tryz.prog a w K Q := by
  have hv := av_loadP hx
  generalize y.cs = V at *
  unfold Oper.wp execOp
  simp only [ho, hs, Instr.loadAt, Instr.sureAddr, Sem.run_bind, Sem.run_pure, Result.andThen_ok, hv]
  exact h

theorem wpl_loadV {w : World} {ops : Array Oper} {rest : List Oper} {o : Oper} {a : Act} {Q : Exit → Act → World → Prop} (hgd : o.guard = none) (s : Operand) (ho : o.op = .load 25 s) (p : Addr) (hs : a.eval s = .pointer (some p)) (y : AV) (hx : AvAt w p y)
    (h : wpList Tryz.prog ops Q rest (a.put o.dst (.agg y.cs)) w) : wpList Tryz.prog ops Q (o :: rest) a w :=
  wpList_plain hgd fun _ hK => wp_loadV s ho p hs y hx (hK _ _ h)

set_option maxRecDepth 20000 in
set_option maxHeartbeats 1000000 in
theorem idxA_any (l : List AV) (ao : Option Addr) (cap : Nat) (fv : Value) (p : AV → Bool) (w : World) (hl : l.length ≤ 1000000) (hR : RdV w ao l) (hp : Tells Tryz.prog fv w (fun y : AV => .agg y.cs) p l) :
    Calls Tryz.prog 84 #[.slice ao l.length cap, fv] w (Made (.int .i64 (ixf p l)) w) := by
  obtain ⟨g, lb, rfl, eg, hp⟩ := hp
  have HP := Lib.hid hp
  have HR := Lib.hid hR
  have NN := Lib.hid (fun h => ixf_none (p := p) (l := l) h)
  obtain ⟨n, hn⟩ : ∃ n, n = l.length := ⟨_, rfl⟩
  have HN := Lib.hid hn
  have hle : n ≤ 1000000 := by omega
  rw [← hn]
  clear hp hR hl hn
  go_enter Tryz.func84, Tryz.ntmps84
  go_wp2_with fail
  go_loopw [8] (fun s wr => ∃ t : Nat, s = .int .i64 t ∧ t ≤ n ∧ Hid (Below w.heap.size w wr) ∧ Hid (∀ i, ∀ q : i < l.length, i < t → p l[i] = false)) (fun s _ => n - (intOf s).toNat)
  case atStart => exact ⟨0, rfl, by omega, Lib.hid (Below.refl _ _), Lib.hid (fun i q h => by omega)⟩
  case round =>
    obtain ⟨t, rfl, ht, HB, HF⟩ := hrel
    by_cases htn : t < n
    · have hlt : t < l.length := by have := HN.out; omega
      obtain ⟨a, ha, c0⟩ := (HR.out.on HB.out).at_ t hlt
      obtain ⟨v, hv⟩ : ∃ v, v = l[t] := ⟨_, rfl⟩
      have ev : l[t] = v := hv.symm
      rw [← hv] at c0
      have C0 := Lib.hid c0
      have PV := Lib.hid (HP.out wr HB.out v (by rw [← ev]; exact List.getElem_mem hlt))
      cases hpv : p v
      · rw [hpv] at PV
        have HF' := Lib.hid (show ∀ i, ∀ q : i < l.length, i < t + 1 → p l[i] = false from fun i q h => by
          by_cases e : i = t
          · subst e; rw [ev]; exact hpv
          · exact HF.out i q (by omega))
        clear hpv ev hv hlt c0
        subst ha
        go_wp2_with (refine wpl_loadV rfl _ rfl _ rfl v C0.out ?_)
        refine PV.out.mono ?_
        rintro e w1 ⟨rfl, hb⟩
        have B1 := Lib.hid (below_on HB.out hb)
        clear hb C0
        go_wp2_with fail
        go_roundw
        case rel => exact ⟨t + 1, by go_num, by omega, B1, HF'⟩
        case measure => simp [intOf]; omega
      · rw [hpv] at PV
        have HF' := Lib.hid (show ixf p l = t from ixf_at hlt (fun i q h => HF.out i q h) (by rw [ev]; exact hpv))
        clear hpv ev hv hlt c0
        subst ha
        go_wp2_with (refine wpl_loadV rfl _ rfl _ rfl v C0.out ?_)
        refine PV.out.mono ?_
        rintro e w1 ⟨rfl, hb⟩
        have B1 := Lib.hid (below_on HB.out hb)
        clear hb C0
        go_wp2_with fail
        go_ret
        exact ⟨ret_int HF'.out.symm, B1.out⟩
    · have HF' := Lib.hid (show ixf p l = -1 from NN.out (fun i q => HF.out i q (by have := HN.out; omega)))
      go_wp2_with fail
      go_ret
      exact ⟨ret_int HF'.out.symm, HB.out⟩

set_option maxRecDepth 20000 in
set_option maxHeartbeats 1000000 in
theorem conA_any (l : List AV) (ao : Option Addr) (cap : Nat) (fv : Value) (p : AV → Bool) (w : World) (hl : l.length ≤ 1000000) (hR : RdV w ao l) (hp : Tells Tryz.prog fv w (fun y : AV => .agg y.cs) p l) :
    Calls Tryz.prog 37 #[.slice ao l.length cap, fv] w (Made (.bool (l.any p)) w) := by
  have IX := Lib.hid (idxA_any l ao cap fv p w hl hR hp)
  have HA := Lib.hid (ixf_any p l)
  generalize l.length = n at *
  generalize ixf p l = r at *
  generalize l.any p = b at *
  clear hR hp
  go_enter Tryz.func37, Tryz.ntmps37
  go_wp2_with fail
  refine IX.out.mono ?_
  rintro e w1 ⟨rfl, hb⟩
  have B1 := Lib.hid hb
  clear hb
  go_wp2_with fail
  go_ret
  exact ⟨ret_bool HA.out, B1.out⟩

def validB (n : Int) (y : AV) : Bool := decide ((y.a.length : Int) = n) && y.a.all fitB && fitB y.b

set_option maxRecDepth 20000 in
set_option maxHeartbeats 1000000 in
theorem isValid_any (n : Int) (y : AV) (w : World) (hn : n ≤ 1000000) (hR : Rd1 w y.q y.a) : Calls Tryz.prog 39 #[.int .i64 n, .agg y.cs] w (Made (.bool (validB n y)) w) := by
  obtain ⟨q, c, a, b, s⟩ := y
  simp only [AV.cs, AV.cells, validB] at *
  obtain ⟨w0, hw0⟩ : ∃ w0, w0 = w.alloc (.cells #[.slice q a.length c, .int .i64 b, .bool s] 25) := ⟨_, rfl⟩
  have E0 := Lib.hid (show Below w.heap.size w w0 by rw [hw0]; exact one_more _)
  have hq := heap_alloc_last w (.cells #[.slice q a.length c, .int .i64 b, .bool s] 25)
  rw [← hw0] at hq
  have d0 : w0.cell? ⟨w.heap.size, 0, none⟩ = some (.slice q a.length c) := by rw [cell_of_row w0 _ 0 _ _ _ hq]; rfl
  have d1 : w0.cell? ⟨w.heap.size, 1, none⟩ = some (.int .i64 b) := by rw [cell_of_row w0 _ 1 _ _ _ hq]; rfl
  have R0 := Lib.hid (hR.on E0.out)
  obtain ⟨m, hm⟩ : ∃ m, m = a.length := ⟨_, rfl⟩
  by_cases h : (m : Int) = n
  · have F1 := Lib.hid (fit_any a q c w0 (by omega) R0.out)
    have F2 := Lib.hid (fun (W : World) => fit_any [b] (some ⟨W.heap.size, 0, none⟩) 1 (W.alloc (.cells #[.int .i64 b] 2)) (by simp) (fun t ht => ⟨_, rfl, by
      have : t = 0 := by simpa using ht
      subst this
      rw [addr_add]; simp [gA]⟩))
    have HF := Lib.hid (show (decide ((a.length : Int) = n) && a.all fitB && fitB b) = (a.all fitB && [b].all fitB) by rw [← hm, h]; simp)
    generalize (decide ((a.length : Int) = n) && a.all fitB && fitB b) = res at *
    rw [← hm] at d0 F1 ⊢
    rw [← hm] at hw0
    clear hR hq hm R0
    subst h
    have D1 := Lib.hid d1
    go_enter Tryz.func39, Tryz.ntmps39
    go_upto_region 1 with (fail)
    rw [← hw0]
    clear hw0
    go_wp2_with fail
    refine F1.out.mono ?_
    rintro e w1 ⟨rfl, hb⟩
    have B1 := Lib.hid (below_on E0.out hb)
    have d2 := kept hb D1.out
    clear hb
    cases h1 : a.all fitB
    · rw [h1] at HF
      go_wp2_with fail
      go_ret
      exact ⟨ret_bool (by rw [HF.out]; rfl), B1.out⟩
    · rw [h1] at HF
      go_wp2_with fail
      refine (F2.out w1).mono ?_
      rintro e w2 ⟨rfl, hb⟩
      have B2 := Lib.hid (below_on B1.out (past_one hb))
      clear hb
      generalize [b].all fitB = r at *
      go_wp2_with fail
      go_ret
      exact ⟨ret_bool (by rw [HF.out]; rfl), B2.out⟩
  · have HF := Lib.hid (show (decide ((a.length : Int) = n) && a.all fitB && fitB b) = false by rw [← hm]; simp [h])
    generalize (decide ((a.length : Int) = n) && a.all fitB && fitB b) = res at *
    rw [← hm] at d0 ⊢
    rw [← hm] at hw0
    clear hR hq hm R0
    go_enter Tryz.func39, Tryz.ntmps39
    go_upto_region 1 with (fail)
    rw [← hw0]
    clear hw0
    go_wp2_with fail
    go_ret
    exact ⟨ret_bool HF.out.symm, E0.out⟩

set_option maxRecDepth 20000 in
theorem chk1_any (n : Int) (y : AV) (pb : Nat) (w : World) (hn : n ≤ 1000000) (hR : Rd1 w y.q y.a) (hb : w.cell? ⟨pb, 0, none⟩ = some (.int .i64 n)) :
    Calls Tryz.prog 38 #[.agg y.cs, .pointer (some ⟨pb, 0, none⟩)] w (Made (.bool (!validB n y)) w) := by
  have VA := Lib.hid (fun W (h : Rd1 W y.q y.a) => isValid_any n y W hn h)
  have HR := Lib.hid hR
  obtain ⟨q, c, a, b, s⟩ := y
  simp only [AV.cs, AV.cells] at *
  generalize validB n ⟨q, c, a, b, s⟩ = r at *
  have hb' := kept (one_more (w1 := w) (.cells #[.slice q a.length c, .int .i64 b, .bool s] 25)) hb
  have R0 := Lib.hid (hR.on (one_more (.cells #[.slice q a.length c, .int .i64 b, .bool s] 25)))
  clear hR hb
  go_enter Tryz.func38, Tryz.ntmps38
  go_wp2_with fail
  refine (VA.out _ R0.out).mono ?_
  rintro e w1 ⟨rfl, hb⟩
  have B1 := Lib.hid (past_one hb)
  clear hb
  go_wp2_with fail
  go_ret
  exact ⟨rfl, B1.out⟩
end Go.Proofs.YtbhaoaobhgilkaaGreat

namespace Go.Proofs.YtbhaoaobhgilkaaGreat
open Go.RowKit Go.Sort Go.Shelf

def chkP (n : Int) (L : List AV) : Int := if n < 0 ∨ 5 < n then 2 else if 1000 < L.length then 3 else if L.any (fun y => !validB n y) then 2 else 0

theorem chk1_enters : ∀ args w, (callFunc 38 args).run Tryz.prog w = .ok (.enter 38 args) w := enters_of Tryz.func38 (by kernel_rfl) rfl

set_option maxRecDepth 20000 in
set_option maxHeartbeats 1000000 in
theorem check_any (n : Int) (L : List AV) (ao : Option Addr) (cap : Nat) (w : World) (hR : RdV w ao L) :
    Calls Tryz.prog 12 #[.int .i64 n, .slice ao L.length cap] w (Made (.int .i64 (chkP n L)) w) := by
  obtain ⟨w0, hw0⟩ : ∃ w0, w0 = w.alloc (.cells #[.int .i64 n] 3) := ⟨_, rfl⟩
  have E0 := Lib.hid (show Below w.heap.size w w0 by rw [hw0]; exact one_more _)
  have X0 := Lib.hid (show Bx1 w0 w.heap.size (.int .i64 n) 3 by rw [hw0]; exact Bx1.made w _ _)
  have R0 := Lib.hid (hR.on E0.out)
  have c0 : w0.cell? ⟨w.heap.size, 0, none⟩ = some (.int .i64 n) := X0.out.cell
  by_cases h1 : n < 0
  · have HC := Lib.hid (show chkP n L = 2 by unfold chkP; rw [if_pos (Or.inl h1)])
    obtain ⟨m, hm⟩ : ∃ m, m = L.length := ⟨_, rfl⟩
    rw [← hm]
    clear hR hm
    go_enter Tryz.func12, Tryz.ntmps12
    go_upto_region 1 with (fail)
    rw [← hw0]
    clear hw0
    go_wp2_with fail
    go_ret
    exact ⟨ret_int HC.out.symm, E0.out⟩
  · by_cases h2 : 5 < n
    · have HC := Lib.hid (show chkP n L = 2 by unfold chkP; rw [if_pos (Or.inr h2)])
      obtain ⟨m, hm⟩ : ∃ m, m = L.length := ⟨_, rfl⟩
      rw [← hm]
      clear hR hm
      go_enter Tryz.func12, Tryz.ntmps12
      go_upto_region 1 with (fail)
      rw [← hw0]
      clear hw0
      go_wp2_with fail
      go_ret
      exact ⟨ret_int HC.out.symm, E0.out⟩
    · have hno : ¬ (n < 0 ∨ 5 < n) := by omega
      obtain ⟨m, hm⟩ : ∃ m, m = L.length := ⟨_, rfl⟩
      by_cases h3 : 1000 < m
      · have HC := Lib.hid (show chkP n L = 3 by unfold chkP; rw [if_neg hno, if_pos (by omega)])
        rw [← hm]
        clear hR hm hno
        go_enter Tryz.func12, Tryz.ntmps12
        go_upto_region 1 with (fail)
        rw [← hw0]
        clear hw0
        go_wp2_with fail
        go_ret
        exact ⟨ret_int HC.out.symm, E0.out⟩
      · have CO := Lib.hid (conA_any L ao cap (.func (.func 38) #[] #[.pointer (some ⟨w.heap.size, 0, none⟩)]) (fun y => !validB n y) w0 (by omega) R0.out
          ⟨_, _, rfl, chk1_enters, fun W hb y hy => chk1_any n y w.heap.size W (by omega) ((R0.out.on hb).nums y hy) (kept hb c0)⟩)
        obtain ⟨b, hb⟩ : ∃ b, b = L.any (fun y => !validB n y) := ⟨_, rfl⟩
        have HC := Lib.hid (show chkP n L = if b then 2 else 0 by unfold chkP; rw [if_neg hno, if_neg (by omega), hb])
        rw [← hm, ← hb] at CO
        rw [← hm]
        clear hR hm hno hb
        go_enter Tryz.func12, Tryz.ntmps12
        go_upto_region 1 with (fail)
        rw [← hw0]
        clear hw0
        go_wp2_with fail
        refine CO.out.mono ?_
        rintro e w1 ⟨rfl, hb⟩
        have B1 := Lib.hid (below_on E0.out hb)
        clear hb
        cases b
        · go_wp2_with fail
          go_ret
          exact ⟨ret_int (by rw [HC.out]; rfl), B1.out⟩
        · go_wp2_with fail
          go_ret
          exact ⟨ret_int (by rw [HC.out]; rfl), B1.out⟩

set_option maxRecDepth 20000 in
theorem demand_any (b : Bool) (w : World) : Calls Tryz.prog 42 #[.bool b] w (fun e w' => w' = w ∧ e = if b then .returned (.tuple #[]) else .panicked (pan 2)) := by
  cases b
  · go_enter Tryz.func42, Tryz.ntmps42
    go_wp2_with fail
    exact And.intro rfl ⟨rfl, rfl⟩
  · go_enter Tryz.func42, Tryz.ntmps42
    go_wp2_with fail
    go_end0
    exact ⟨rfl, rfl⟩

set_option maxRecDepth 20000 in
theorem isEmpty_any (b m c k c' : Nat) (ao : Option Addr) (w : World) (hm : 0 < m) (h0 : w.cell? ⟨b, 0, none⟩ = some (.slice ao k c')) :
    Calls Tryz.prog 53 #[.slice (some ⟨b, 0, none⟩) m c] w (Made (.bool (decide (0 < k))) w) := by
  by_cases h : 0 < k
  · have q : decide (0 < k) = true := by simpa using h
    rw [q]
    go_enter Tryz.func53, Tryz.ntmps53
    go_wp2_with fail
    go_ret
    exact ⟨ret_bool (by first | rfl | simp | (simp; omega)), Below.refl _ _⟩
  · have q : decide (0 < k) = false := by simpa using h
    rw [q]
    go_enter Tryz.func53, Tryz.ntmps53
    go_wp2_with fail
    go_ret
    exact ⟨ret_bool (by first | rfl | simp | (simp; omega)), Below.refl _ _⟩

def ofV (y : AV) : Ln := ⟨y.a ++ List.replicate (6 - y.a.length) 0, y.b, y.s⟩

set_option maxRecDepth 20000 in
theorem copy_a {w : World} {g : Nat} {b : Int} {s : Bool} {q : Option Addr} {a : List Int} {c : Nat} (h : Bk w g ⟨z6, b, s⟩) (hl : a.length ≤ 6) (hR : Rd1 w q a) (ty : TypeId) :
    ∃ w', (Builtin.copy_ #[23, 23] ty #[.slice (some ⟨g, 0, none⟩) 6 6, .slice q a.length c]).run Tryz.prog w = .ok (goInt a.length) w' ∧ Bk w' g ⟨a ++ List.replicate (6 - a.length) 0, b, s⟩ ∧ (∀ B w0, B ≤ g → Below B w0 w → Below B w0 w') ∧ (∀ k, k ≠ g → w'.heap[k]? = w.heap[k]?) := by
  by_cases e : a.length = 0
  · have ha : a = [] := List.eq_nil_of_length_eq_zero e
    subst ha
    refine ⟨w, run_copy_none w _ _ ty 2 _ _ _ _ _ _ Tryz.underlying23 (by kernel_rfl) (by simp), ?_, fun B w0 _ k => k, fun k _ => rfl⟩
    simpa [z6] using h
  · obtain ⟨p, hq, _⟩ := hR 0 (by omega)
    subst hq
    have hr := run_copy_row (P := Tryz.prog) w 23 23 ty 2 g 0 6 6 p a.length c (Ln.cs ⟨z6, b, s⟩) 82 (a.map (Value.int .i64)) Tryz.underlying23 (by kernel_rfl) h.1
      (by rw [List.length_map]; exact (Nat.min_eq_left hl).symm) (fun j v hv => by
        rw [List.getElem?_map] at hv
        cases hj : a[j]? with
        | none => rw [hj] at hv; cases hv
        | some u =>
          rw [hj] at hv
          have hjl : j < a.length := (List.getElem?_eq_some_iff.1 hj).1
          obtain ⟨p', e', c'⟩ := hR j hjl
          cases e'
          have eu : gA a j = u := by simp [gA, hj]
          rw [c', eu]
          exact hv) (by rw [List.length_map, Ln.size rfl]; omega) (by simp [Value.oneCell'])
    rw [List.length_map] at hr
    have er : ((Ln.cs ⟨z6, b, s⟩).toList.take 0 ++ a.map (Value.int .i64) ++ (Ln.cs ⟨z6, b, s⟩).toList.drop (0 + a.length)).toArray = Ln.cs ⟨a ++ List.replicate (6 - a.length) 0, b, s⟩ := by
      match a, hl with
      | [], _ => rfl
      | [_], _ => rfl
      | [_, _], _ => rfl
      | [_, _, _], _ => rfl
      | [_, _, _, _], _ => rfl
      | [_, _, _, _, _], _ => rfl
      | [_, _, _, _, _, _], _ => rfl
      | _ :: _ :: _ :: _ :: _ :: _ :: _ :: _, h => simp at h
    rw [er] at hr
    exact ⟨_, hr, h.setRow (by first | (simp; omega) | simp), fun B w0 hB k => Below.setRow k hB _, fun k hk => setRow_other w g k _ hk⟩

set_option maxRecDepth 100000 in
set_option maxHeartbeats 4000000 in
theorem lineOf_any (y : AV) (w : World) (hl : y.a.length ≤ 6) (hR : Rd1 w y.q y.a) : Calls Tryz.prog 58 #[.agg y.cs] w (Made (.agg (ofV y).cs) w) := by
  obtain ⟨q, c, a, b, s⟩ := y
  simp only [AV.cs, AV.cells, ofV] at *
  have hz := ln_zero
  obtain ⟨w0, hw0⟩ : ∃ w0, w0 = (w.alloc (.cells #[.slice q a.length c, .int .i64 b, .bool s] 25)).alloc (.cells ln0.cs 82) := ⟨_, rfl⟩
  have E0 := Lib.hid (show Below w.heap.size w w0 by rw [hw0]; exact past_two (Below.refl _ _))
  have hq : w0.heap[w.heap.size]? = some (.cells #[.slice q a.length c, .int .i64 b, .bool s] 25 (0, 0)) := by rw [hw0]; exact ((one_more _).block _ (by simp)).trans (heap_alloc_last w _)
  have K1 := Lib.hid (show Bk w0 (w.heap.size + 1) ln0 by rw [hw0]; have := Bk.made (w.alloc (.cells #[.slice q a.length c, .int .i64 b, .bool s] 25)) ln0 rfl; simpa using this)
  have d0 : w0.cell? ⟨w.heap.size, 0, none⟩ = some (.slice q a.length c) := by rw [cell_of_row w0 _ 0 _ _ _ hq]; rfl
  have d1 : w0.cell? ⟨w.heap.size, 1, none⟩ = some (.int .i64 b) := by rw [cell_of_row w0 _ 1 _ _ _ hq]; rfl
  have d2 : w0.cell? ⟨w.heap.size, 2, none⟩ = some (.bool s) := by rw [cell_of_row w0 _ 2 _ _ _ hq]; rfl
  have HQ := Lib.hid hq
  have R0 := Lib.hid (hR.on E0.out)
  have N1 := Lib.hid (show Bk (w0.alloc (.cells ln0.cs 82)) w0.heap.size ln0 from Bk.made w0 ln0 rfl)
  have N2 := Lib.hid (N1.out.setRow (y := ⟨z6, b, s⟩) rfl)
  have B2 := Lib.hid (Below.setRow ((Below.refl w0.heap.size w0).alloc (Nat.le_refl _) (.cells ln0.cs 82)) (b := w0.heap.size) (Nat.le_refl _) (Ln.cs ⟨z6, b, s⟩))
  have z6' := Lib.hid (show (⟨z6, b, s⟩ : Ln).a.length = 6 from rfl)
  have HL := Lib.hid hl
  clear hR hq hl
  go_enter Tryz.func58, Tryz.ntmps58
  go_upto_region 1 with (fail)
  rw [← hw0]
  have z0 := Lib.hid (show w0.heap.size = w.heap.size + 2 by rw [hw0]; simp)
  clear hw0
  go_upto_region 2 with (refine wpl_store rfl _ _ rfl _ ⟨z6, b, s⟩ rfl rfl _ N1.out z6'.out ?_)
  have R2 := Lib.hid (R0.out.on B2.out)
  have HQ2 := Lib.hid ((B2.out.block w.heap.size (by have := z0.out; omega)).trans HQ.out)
  have K2 := Lib.hid (K1.out.kept B2.out)
  have B3 := Lib.hid (below_on E0.out B2.out)
  generalize (w0.alloc (.cells ln0.cs 82)).setRow w0.heap.size (Ln.cs ⟨z6, b, s⟩) = w1 at *
  obtain ⟨g, hg⟩ : ∃ g, g = w0.heap.size := ⟨_, rfl⟩
  have g0 := Lib.hid (show g = w.heap.size + 2 by rw [hg]; exact z0.out)
  rw [← hg] at N2 ⊢
  clear N1 B2 E0 K1 d0 d1 d2 HQ R0 z0 hg hz
  have hr := run_wholeA g
  have d0 : w1.drew.cell? ⟨w.heap.size, 0, none⟩ = some (.slice q a.length c) := (cell_of_row w1 _ 0 _ _ _ HQ2.out).trans rfl
  obtain ⟨w2, hcp, hk, hbl, hoth⟩ := copy_a (w := w1.drew) (g := g) (b := b) (s := s) (q := q) (a := a) (c := c) N2.out HL.out R2.out 3
  have K3 := Lib.hid hk
  have B4 := Lib.hid (hbl w.heap.size w (by have := g0.out; omega) B3.out.drew)
  have K4 := Lib.hid (show Bk w2 (w.heap.size + 1) ln0 from K2.out.of_block (hoth _ (by have := g0.out; omega)))
  have KL := Lib.hid (show (Ln.mk (a ++ List.replicate (6 - a.length) 0) b s).a.length = 6 by have := HL.out; simp; omega)
  have K5 := Lib.hid (K4.out.setRow KL.out)
  have B5 := Lib.hid (Below.setRow B4.out (b := w.heap.size + 1) (by omega) (Ln.cs ⟨a ++ List.replicate (6 - a.length) 0, b, s⟩))
  clear hk hbl hoth N2 HQ2 R2 K2 B3 g0
  go_region
  go_wp2_with (first | refine wpl_load rfl _ rfl _ rfl _ K3.out ?_ | refine wpl_store rfl _ _ rfl _ _ rfl rfl _ K4.out KL.out ?_)
  exact bodyPost_ret (results_ln Tryz.results58 _ rfl K5.out) rfl ⟨rfl, B5.out⟩
end Go.Proofs.YtbhaoaobhgilkaaGreat
