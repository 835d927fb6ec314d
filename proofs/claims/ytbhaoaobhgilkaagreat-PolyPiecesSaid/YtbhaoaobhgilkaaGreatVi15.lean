/- The contract of package poly's shadows. -/
import Derived.Test.YtbhaoaobhgilkaaGreatVi14

namespace Go.Proofs.YtbhaoaobhgilkaaGreat
open Go.RowKit Go.Sort Go.Shelf

/-- The lists of shadows, from the top down: k coordinates are left out. -/
def shL (l : List Ln) (n : Nat) : Nat → List Ln
  | 0 => tidyL l
  | k + 1 => leaveL (shL l n k) (n - 1 - k)

def shE (l : List Ln) (n : Nat) : Nat → Int
  | 0 => 0
  | k + 1 => if shE l n k = 0 then leaveE (shL l n k) (n - 1 - k) else shE l n k

theorem shE_stop {l : List Ln} {n k : Nat} (h : shE l n k ≠ 0) : ∀ j, shE l n (k + j) = shE l n k
  | 0 => rfl
  | j + 1 => by
    show (if shE l n (k + j) = 0 then _ else shE l n (k + j)) = _
    rw [shE_stop h j, if_neg h]

theorem cptN_le {l : List Ln} : ∀ t, (cptN l t).length ≤ t
  | 0 => by simp [cptN]
  | t + 1 => by
    have := cptN_le (l := l) t
    simp only [cptN, List.length_append]
    split
    · split <;> simp <;> omega
    · simp; omega

theorem tidyL_len {l : List Ln} {m : Nat} (h : l.length ≤ m) (hm : 1 ≤ m) : (tidyL l).length ≤ m := by
  unfold tidyL
  split
  · simpa using hm
  · unfold cptL
    refine Nat.le_trans (cptN_le _) ?_
    unfold srtL
    rw [List.length_mergeSort]
    unfold keepL
    exact Nat.le_trans (List.length_filter_le _ _) (by simpa using h)

theorem leaveE_len {l : List Ln} {i : Nat} (h : leaveE l i = 0) : (zrs l i ++ sums l i).length ≤ 1000 := by
  unfold leaveE at h
  split at h
  · cases h
  · rename_i q
    rw [List.length_append]
    have : (sums l i).length = (ups l i).length * (dns l i).length := by
      unfold sums prs
      simp [List.length_flatMap, List.map_const', List.sum_replicate_nat]
    omega

theorem leaveL_rg {l : List Ln} {i : Nat} (hg : ∀ x ∈ l, Rg 2147483647 x) (h : leaveE l i = 0) : ∀ x ∈ leaveL l i, Rg 2147483647 x := by
  unfold leaveL
  refine tidyL_rg (by omega) (fun x hx => ?_)
  rcases List.mem_append.1 hx with q | q
  · exact hg x (by unfold zrs at q; exact (List.mem_filter.1 q).1)
  · unfold leaveE at h
    split at h
    · cases h
    · split at h
      · rename_i q2
        rw [List.all_eq_true] at q2
        have f := q2 x q
        unfold sums at q
        obtain ⟨⟨a, b⟩, hp, rfl⟩ := List.mem_map.1 q
        unfold prs at hp
        simp only [List.mem_flatMap, List.mem_map] at hp
        obtain ⟨a', ha, b', hb, e⟩ := hp
        cases e
        exact Ln.fits_rg (sumL_len (hg _ (by unfold ups at ha; exact (List.mem_filter.1 ha).1)).len (hg _ (by unfold dns at hb; exact (List.mem_filter.1 hb).1)).len) f
      · cases h

theorem shL_ok {l : List Ln} {n : Nat} (hl : l.length ≤ 2000) (hg : ∀ x ∈ l, Rg 2147483647 x) : ∀ k, shE l n k = 0 → (shL l n k).length ≤ 2000 ∧ ∀ x ∈ shL l n k, Rg 2147483647 x
  | 0, _ => ⟨tidyL_len hl (by omega), tidyL_rg (by omega) hg⟩
  | k + 1, h => by
    have h' : (if shE l n k = 0 then leaveE (shL l n k) (n - 1 - k) else shE l n k) = 0 := h
    split at h'
    · rename_i q
      have ih := shL_ok hl hg k q
      refine ⟨?_, leaveL_rg ih.2 h'⟩
      show (leaveL _ _).length ≤ 2000
      unfold leaveL
      exact tidyL_len (by have := leaveE_len h'; omega) (by omega)
    · rename_i q; exact absurd h' q

theorem LnAt.slot {w : World} {p q : Addr} {x : Ln} (h : LnAt w p x) {a : Option Addr} {m c : Nat} (hq : w.cell? q = some (.slice a m c)) (v : Value) : LnAt (w.setCell q v) p x :=
  ⟨h.1, fun j u hu => by
    have hc := h.2 j u hu
    rw [World.cell?_setCell_other w q _ v]
    · exact hc
    · rintro rfl
      rw [hq] at hc
      have e : u = .slice a m c := by injection hc with hc; exact hc.symm
      have hm := List.mem_of_getElem? hu
      rw [e] at hm
      simp [Ln.cells] at hm⟩

theorem RdL.slot {w : World} {q : Addr} {ao : Option Addr} {l : List Ln} (h : RdL w ao l) {a : Option Addr} {m c : Nat} (hq : w.cell? q = some (.slice a m c)) (v : Value) : RdL (w.setCell q v) ao l := fun t ht => by
  obtain ⟨b, e, c⟩ := h t ht
  exact ⟨b, e, c.slot hq v⟩

/-- The row of shadows: the k lists from the top down stand. -/
structure ShR (w wr : World) (b : Nat) (l : List Ln) (n k : Nat) (cs : Array Value) : Prop where
  blk : wr.heap[b]? = some (.cells cs 66 (0, 0))
  size : cs.size = n + 1
  lo : ∀ j, j + k ≤ n → cs[j]? = some (.slice none 0 0)
  hi : ∀ j, n < j + k → j ≤ n → ∃ ao c, cs[j]? = some (.slice ao (shL l n (n - j)).length c) ∧ RdL wr ao (shL l n (n - j))
  be : Below w.heap.size w wr
  nb : w.heap.size ≤ b

theorem ShR.lt {w wr : World} {b : Nat} {l : List Ln} {n k : Nat} {cs : Array Value} (h : ShR w wr b l n k cs) : b < wr.heap.size := by
  by_cases e : b < wr.heap.size
  · exact e
  · have := h.blk; rw [Array.getElem?_eq_none (by omega)] at this; cases this

theorem ShR.on {w wr w2 : World} {b : Nat} {l : List Ln} {n k : Nat} {cs : Array Value} (h : ShR w wr b l n k cs) (hb : Below wr.heap.size wr w2) : ShR w w2 b l n k cs :=
  ⟨(hb.block b h.lt).trans h.blk, h.size, h.lo, fun j q r => by obtain ⟨ao, c, e, rd⟩ := h.hi j q r; exact ⟨ao, c, e, rd.on hb⟩, below_on h.be hb, h.nb⟩

theorem ShR.cell {w wr : World} {b : Nat} {l : List Ln} {n k : Nat} {cs : Array Value} (h : ShR w wr b l n k cs) (j : Nat) : wr.cell? ⟨b, j, none⟩ = cs[j]? := by rw [cell_of_row wr b j _ _ _ h.blk]

theorem ShR.free {w wr : World} {b : Nat} {l : List Ln} {n k : Nat} {cs : Array Value} (h : ShR w wr b l n k cs) (j : Nat) : wr.frozen? ⟨b, j, none⟩ = false := frozen_of_row wr b j _ _ h.blk

theorem ShR.put {w wr : World} {b : Nat} {l : List Ln} {n k : Nat} {cs : Array Value} (h : ShR w wr b l n k cs) {ao : Option Addr} {c j : Nat} (hj : j + k = n) (hr : RdL wr ao (shL l n k)) :
    ShR w (wr.setCell ⟨b, j, none⟩ (.slice ao (shL l n k).length c)) b l n (k + 1) (cs.setIfInBounds j (.slice ao (shL l n k).length c)) := by
  have hc := (h.cell j).trans (h.lo j (by omega))
  refine ⟨heap_setCell_same _ _ _ _ _ _ h.blk, by simp [h.size], fun t ht => ?_, fun t ht hn => ?_, h.be.setCell (p := ⟨b, j, none⟩) h.nb _, h.nb⟩
  · rw [Array.getElem?_setIfInBounds_ne (by omega)]
    exact h.lo t (by omega)
  · by_cases e : t = j
    · subst e
      have : n - t = k := by omega
      rw [this]
      refine ⟨ao, c, ?_, hr.slot hc _⟩
      rw [Array.getElem?_setIfInBounds_self_of_lt (by rw [h.size]; omega)]
    · obtain ⟨a2, c2, e2, r2⟩ := h.hi t (by omega) hn
      refine ⟨a2, c2, ?_, r2.slot hc _⟩
      rw [Array.getElem?_setIfInBounds_ne (by omega)]
      exact e2

theorem rows_info : (Tryz.prog.info? 66).map (fun i => (i.zero, i.size, i.bytes)) = some (some (.slice none 0 0), 1, 24) := by kernel_rfl

/-- 'make([][]line, n + 1)'. -/
theorem make_rows (w : World) (n : Nat) (hn : n ≤ 1000) (x : Int) (hx : x = n) :
    (Instr.makeSlice 76 (.int .i64 x) (.int .i64 x)).run Tryz.prog w = .ok (.slice (some ⟨w.heap.size, 0, none⟩) n n) (w.alloc (.cells (List.replicate n (Value.slice none 0 0)).toArray 66)) := by
  subst hx
  obtain ⟨i0, hi, hz0, hz1, hz2⟩ := info_parts rows_info
  have hr := run_make (P := Tryz.prog) w 76 66 i0 _ Tryz.underlying76 hi hz0 .i64 .i64 (n : Int) (n : Int) (by omega) (by omega) (by rw [hz2]; omega) (by omega)
  have e : madeCells (Value.slice none 0 0).cells ((n : Int).toNat * i0.size) = (List.replicate n (Value.slice none 0 0)).toArray := by
    apply Array.toList_inj.1
    rw [hz1]
    simp only [Int.toNat_natCast, Nat.mul_one]
    rw [show (Value.slice none 0 0).cells = #[Value.slice none 0 0] from rfl, toList_madeCells_one]
  rw [e] at hr
  simpa using hr

/-- What shadows leaves. -/
def ShRes (w : World) (l : List Ln) (n : Nat) (e : Ending) (w' : World) : Prop :=
  (shE l n n = 0 ∧ ∃ b cs, e = .returned (.slice (some ⟨b, 0, none⟩) (n + 1) (n + 1)) ∧ ShR w w' b l n (n + 1) cs) ∨ (shE l n n ≠ 0 ∧ e = .panicked (pan (shE l n n)) ∧ Below w.heap.size w w')

set_option maxRecDepth 100000 in
set_option maxHeartbeats 4000000 in
theorem shadows_any (l : List Ln) (ao : Option Addr) (cap n : Nat) (w : World) (hl : l.length ≤ 2000) (hn : n ≤ 6) (hR : RdL w ao l) (hg : ∀ x ∈ l, Rg 2147483647 x) :
    Calls Tryz.prog 54 #[.int .i64 n, .slice ao l.length cap] w (ShRes w l n) := by
  have OK := Lib.hid (fun k (h : shE l n k = 0) => shL_ok hl hg k h)
  have TD := Lib.hid (fun W (h : RdL W ao l) => tidy_any l ao cap W (by omega) h hg)
  have HR := Lib.hid hR
  have MK := make_rows w (n + 1) (by omega) ((n : Int) + 1) (by omega)
  obtain ⟨m0, hm0⟩ : ∃ m0, m0 = l.length := ⟨_, rfl⟩
  rw [← hm0] at TD ⊢
  obtain ⟨w0, hw0⟩ : ∃ w0, w0 = w.alloc (.cells (List.replicate (n + 1) (Value.slice none 0 0)).toArray 66) := ⟨_, rfl⟩
  have S0 := Lib.hid (show ShR w w0 w.heap.size l n 0 (List.replicate (n + 1) (Value.slice none 0 0)).toArray from
    ⟨by rw [hw0]; exact heap_alloc_last w _, by simp, fun j hj => by rw [List.getElem?_toArray, List.getElem?_replicate, if_pos (by omega)], fun j h1 h2 => by omega, by rw [hw0]; exact one_more _, Nat.le_refl _⟩)
  have R0 := Lib.hid (show RdL w0 ao l from by rw [hw0]; exact hR.on (one_more _))
  rw [← hw0] at MK
  clear hl hR hg hm0 hw0
  go_enter Tryz.func54, Tryz.ntmps54
  go_wp2_with (rw [MK])
  refine (TD.out w0 R0.out).mono ?_
  rintro e w1 ⟨a1, c1, rfl, rd1, hb1⟩
  have S1 := Lib.hid (S0.out.on hb1)
  have RD := Lib.hid (show RdL w1 a1 (shL l n 0) from rd1)
  obtain ⟨m1, hm1⟩ : ∃ m1, m1 = (tidyL l).length := ⟨_, rfl⟩
  have S2 := Lib.hid (show ShR w (w1.setCell ⟨w.heap.size, n, none⟩ (.slice a1 m1 c1)) w.heap.size l n 1 _ by rw [hm1]; exact S1.out.put (c := c1) (j := n) rfl RD.out)
  have f0 : w1.cell? ⟨w.heap.size, n, none⟩ = some (.slice none 0 0) := (S1.out.cell n).trans (S1.out.lo n (by omega))
  have f1 := S1.out.free n
  rw [← hm1]
  generalize hbb : w.heap.size = bb at f0 f1 S2 ⊢
  clear rd1 hb1 hm1 S0 R0 TD MK S1 RD HR
  go_wp2_with fail
  go_loopw [6] (fun s wr => ∃ (m : Nat), s = .int .i64 ((m : Int) - 1) ∧ m ≤ n ∧ Hid (∃ cs, ShR w wr bb l n (n - m + 1) cs) ∧ Hid (shE l n (n - m) = 0)) (fun s _ => (intOf s + 1).toNat)
  case atStart => exact ⟨n, by go_num, by omega, Lib.hid (by simpa using ⟨_, S2.out⟩), Lib.hid (by simp [shE])⟩
  case round =>
    obtain ⟨m, rfl, hm, HS, HE⟩ := hrel
    cases m with
    | zero =>
      have HS' := Lib.hid HS.out
      clear HS
      rw [show (((0 : Nat) : Int) - 1) = -1 from rfl]
      go_wp2_with fail
      go_ret
      obtain ⟨cs, h⟩ := HS'.out
      exact Or.inl ⟨HE.out, bb, cs, rfl, by rw [hbb] at *; exact h⟩
    | succ m =>
      rw [show (((m + 1 : Nat) : Int) - 1) = m by omega]
      obtain ⟨cs, h⟩ := HS.out
      obtain ⟨k, hk⟩ : ∃ k, k = n - (m + 1) := ⟨_, rfl⟩
      have hkn : m + (k + 1) = n := by omega
      have HE' := Lib.hid (show shE l n k = 0 by rw [hk]; exact HE.out)
      have HC := Lib.hid (show ShR w wr bb l n (k + 1) cs by rw [hk]; exact h)
      obtain ⟨a2, c2, e2, rd⟩ := HC.out.hi (m + 1) (by omega) hm
      rw [show n - (m + 1) = k from hk.symm] at e2 rd
      obtain ⟨ok1, ok2⟩ := OK.out k HE'.out
      have LV := Lib.hid (leave_any (shL l n k) a2 c2 m wr ok1 (by omega) rd ok2)
      have EE := Lib.hid (show shE l n (k + 1) = leaveE (shL l n k) m by
        show (if shE l n k = 0 then leaveE (shL l n k) (n - 1 - k) else shE l n k) = _
        rw [if_pos HE'.out, show n - 1 - k = m by omega])
      have EL := Lib.hid (show shL l n (k + 1) = leaveL (shL l n k) m by
        show leaveL (shL l n k) (n - 1 - k) = _
        rw [show n - 1 - k = m by omega])
      have KN := Lib.hid hkn
      have g0 := (HC.out.cell (m + 1)).trans e2
      obtain ⟨mL, hmL⟩ : ∃ mL, mL = (shL l n k).length := ⟨_, rfl⟩
      rw [← hmL] at LV g0
      clear HS h e2 rd ok1 ok2 hmL hk HE hkn
      go_wp2_with fail
      refine LV.out.mono ?_
      rintro e w2 (⟨he, a3, c3, rfl, rd3, b3⟩ | ⟨he, rfl, b3⟩)
      · have S3 := Lib.hid (HC.out.on b3)
        have RD := Lib.hid (show RdL w2 a3 (shL l n (k + 1)) by rw [EL.out]; exact rd3)
        obtain ⟨m3, hm3⟩ : ∃ m3, m3 = (shL l n (k + 1)).length := ⟨_, rfl⟩
        have S4 := Lib.hid (show ∃ cs, ShR w (w2.setCell ⟨bb, m, none⟩ (.slice a3 m3 c3)) bb l n (k + 1 + 1) cs by rw [hm3]; exact ⟨_, S3.out.put (c := c3) (j := m) KN.out RD.out⟩)
        have f2 := (S3.out.cell m).trans (S3.out.lo m (by have := KN.out; omega))
        have f3 := S3.out.free m
        have HE2 := Lib.hid (show shE l n (k + 1) = 0 by rw [EE.out]; exact he)
        rw [← EL.out, ← hm3]
        clear rd3 b3 hm3 he S3 RD g0
        go_wp2_with fail
        go_roundw
        case rel => exact ⟨m, by go_num, by omega, Lib.hid (by rw [show n - m + 1 = k + 1 + 1 by have := KN.out; omega]; exact S4.out), Lib.hid (by rw [show n - m = k + 1 by have := KN.out; omega]; exact HE2.out)⟩
        case measure => simp [intOf]
      · have hs : shE l n n = leaveE (shL l n k) m := by
          rw [← EE.out, show n = k + 1 + m by have := KN.out; omega]
          rw [show k + 1 + m = n by have := KN.out; omega]
          have := shE_stop (l := l) (n := n) (k := k + 1) (by rw [EE.out]; exact he) m
          rw [show k + 1 + m = n by have := KN.out; omega] at this
          exact this
        go_wp2_with fail
        exact And.intro rfl <| Or.inr ⟨by rw [hs]; exact he, by rw [hs], below_on HC.out.be b3⟩
end Go.Proofs.YtbhaoaobhgilkaaGreat
