/- Contracts of layer 4's classes: next.; Contracts of layer 4's keepsWithin, keepsBetween, keeps.; Plain mathematics of layer 4: clocks that are bound are a relation of equivalence; the program's rules by classes are those of the reference. -/
import Derived.Test.YtaegiihkgicdnaaGreatWs16

namespace Go.Proofs.YtaegiihkgicdnaaGreat
open Go.RowKit

def Cls (A : Array Value) (n : Nat) (f : Nat → Nat) : Prop := A.size = 11 ∧ A.all (·.oneCell') = true ∧ ∀ k, k ≤ n → A[k]? = some (.int .i64 (f k)) ∧ f k ≤ n

theorem cls_cell {A : Array Value} {n : Nat} {f : Nat → Nat} (hA : Cls A n f) (w : World) : ∀ W, Below (w.alloc (.cells A 160)).heap.size (w.alloc (.cells A 160)) W → ∀ k, k ≤ n → W.cell? ⟨w.heap.size, k, none⟩ = some (.int .i64 (f k)) := by
  intro W h k hk
  refine kept h ?_
  rw [cell_of_row _ _ k A _ _ (heap_alloc_last w _)]
  exact (hA.2.2 k hk).1

def nxN (n : Nat) (f : Nat → Nat) (i : Nat) : Nat := ((List.range (n + 1)).find? fun k => decide (i < k) && decide (f k = f i)).getD (f i)

theorem nx_found {n i t : Nat} {f : Nat → Nat} (h1 : i < t) (h2 : t ≤ n) (h3 : f t = f i) (h4 : ∀ k, i < k → k < t → f k ≠ f i) : nxN n f i = t := by
  unfold nxN
  have : (List.range (n + 1)).find? (fun k => decide (i < k) && decide (f k = f i)) = some t := by
    rw [List.find?_range_eq_some]
    refine ⟨by simp [h1, h3], by simp; omega, fun j hj => ?_⟩
    by_cases c : i < j
    · simp [h4 j c hj]
    · simp [c]
  rw [this]; rfl

theorem nx_none {n i : Nat} {f : Nat → Nat} (h4 : ∀ k, i < k → k ≤ n → f k ≠ f i) : nxN n f i = f i := by
  unfold nxN
  have : (List.range (n + 1)).find? (fun k => decide (i < k) && decide (f k = f i)) = none := by
    rw [List.find?_range_eq_none]
    intro j hj
    by_cases c : i < j
    · simp [h4 j c (by omega)]
    · simp [c]
  rw [this]; rfl

set_option maxHeartbeats 1600000 in
theorem next_any (n i : Nat) (A : Array Value) (f : Nat → Nat) (w : World) (hn : n ≤ 10) (hi : i ≤ n) (hA : Cls A n f) :
    Calls Tryz.prog 191 #[.agg A, .int .i64 i, .int .i64 n] w (Made (.int .i64 (nxN n f i)) w) := by
  obtain ⟨w0, hw0⟩ : ∃ w0, w0 = w.alloc (.cells A 160) := ⟨_, rfl⟩
  have CC := Lib.hid (cls_cell hA w)
  have FB := Lib.hid (show ∀ k, k ≤ n → f k ≤ n from fun k hk => (hA.2.2 k hk).2)
  have HA := Lib.hid hA
  have E0 := Lib.hid (show Below w.heap.size w w0 by rw [hw0]; exact one_more _)
  rw [← hw0] at CC
  have HW0 := Lib.hid hw0
  clear hA hw0
  go_enter Tryz.func191, Tryz.ntmps191
  go_wp2_with fail
  rw [← HW0.out]
  have hi2 := hi
  go_loopw [7] (fun s wr => ∃ t : Nat, i < t ∧ t ≤ n + 1 ∧ s = .int .i64 t ∧ Hid (∀ k, i < k → k < t → f k ≠ f i) ∧ Hid (Below w0.heap.size w0 wr)) (fun s _ => n + 1 - (intOf s).toNat)
  case atStart => exact ⟨i + 1, by omega, by omega, by go_num, Lib.hid (fun k hk hk2 => by omega), Lib.hid (Below.refl _ _)⟩
  case round =>
    obtain ⟨t, hit, ht, rfl, HT, HB⟩ := hrel
    by_cases htn : t ≤ n
    · have c1 := CC.out _ HB.out t htn
      have c2 := CC.out _ HB.out i hi
      by_cases hf : f t = f i
      · have HF := Lib.hid (nx_found hit htn hf HT.out)
        have D : (((f t : Nat) : Int) == ((f i : Nat) : Int)) = true := by simp [hf]
        clear hf
        generalize f t = x at *
        generalize f i = y at *
        go_wp2_with fail
        go_quiet (fail)
        go_wp2_with fail
        go_ret
        exact ⟨ret_int (by rw [HF.out]), below_on E0.out (below_drewN HB.out _)⟩
      · have HT2 := Lib.hid (show ∀ k, i < k → k < t + 1 → f k ≠ f i from fun k h1 h2 => by
          by_cases e : k = t
          · rw [e]; exact hf
          · exact HT.out k h1 (by omega))
        have D : (((f t : Nat) : Int) == ((f i : Nat) : Int)) = false := by simp; omega
        clear hf
        go_wp2_with fail
        go_quiet (fail)
        go_wp2_with fail
        go_roundw
        case rel => exact ⟨t + 1, by omega, by omega, by go_num, HT2, Lib.hid (below_drewN HB.out _)⟩
        case measure => simp [intOf]; omega
    · have c2 := CC.out _ HB.out i hi
      have HF := Lib.hid (nx_none (n := n) (f := f) (i := i) (fun k h1 h2 => HT.out k h1 (by omega)))
      go_wp2_with fail
      go_ret
      exact ⟨ret_int (by rw [HF.out]), below_on E0.out HB.out⟩
end Go.Proofs.YtaegiihkgicdnaaGreat

namespace Go.Proofs.YtaegiihkgicdnaaGreat
open Go.RowKit

theorem cls_size : (Tryz.prog.info? 160).map (·.size) = some 11 := by kernel_rfl

def Crow (w : World) (b : Nat) (A : Array Value) : Prop := w.heap[b]? = some (.cells A 160 (0, 0)) ∧ A.size = 11

theorem Crow.lt {w : World} {b : Nat} {cs : Array Value} (h : Crow w b cs) : b < w.heap.size := by
  by_cases e : b < w.heap.size
  · exact e
  · have := h.1; rw [Array.getElem?_eq_none (by omega)] at this; cases this

theorem Crow.kept {w w' : World} {b : Nat} {cs : Array Value} (h : Crow w b cs) (hb : Below w.heap.size w w') : Crow w' b cs := ⟨(hb.block b h.lt).trans h.1, h.2⟩

theorem Crow.made (w : World) {A : Array Value} (h : A.size = 11) : Crow (w.alloc (.cells A 160)) w.heap.size A := ⟨heap_alloc_last w _, h⟩

theorem Crow.alloc {w : World} {b : Nat} {A : Array Value} (h : Crow w b A) (o : Obj) : Crow (w.alloc o) b A := h.kept (one_more o)

theorem Crow.cell {w : World} {b : Nat} {A : Array Value} (h : Crow w b A) {n : Nat} {f : Nat → Nat} (hA : Cls A n f) {k : Nat} (hk : k ≤ n) : w.cell? ⟨b, k, none⟩ = some (.int .i64 (f k)) := by
  rw [cell_of_row _ _ k A _ _ h.1]; exact (hA.2.2 k hk).1

theorem wplc_load {ops : Array Oper} {rest : List Oper} {o : Oper} {a : Act} {w : World} {Q : Exit → Act → World → Prop} (hgd : o.guard = none) (x : Operand) (ho : o.op = .load 160 x)
    (b : Nat) (hx : a.eval x = .pointer (some ⟨b, 0, none⟩)) (cs : Array Value) (hv : Crow w b cs) (h : wpList Tryz.prog ops Q rest (a.put o.dst (.agg cs)) w) : wpList Tryz.prog ops Q (o :: rest) a w :=
  wpList_load_row hgd _ x ho b hx _ cs (0, 0) _ hv.1 Tryz.underlying160 rfl (by rw [hv.2]; exact cls_size) h

def kwB (n : Nat) (l : List Int) (f : Nat → Nat) (i j : Nat) : Bool := decide (j = nxN n f i) && !plB n l i j

def kbX (n : Nat) (l : List Int) (f : Nat → Nat) (i j k : Nat) : Bool := decide (f k = j) && plB n l i k

def kbY (n : Nat) (l : List Int) (f : Nat → Nat) (i j k : Nat) : Bool := decide (f k = k) && !decide (k = i) && !decide (k = j) && suB (Zo.At n l i k) (Zo.At n l k j) (Zo.At n l i j)

def kbB (n : Nat) (l : List Int) (f : Nat → Nat) (i j : Nat) : Bool := decide (f i = i) && decide (f j = j) && (List.range (n + 1)).all fun k => !(kbX n l f i j k || kbY n l f i j k)

theorem kbB_no {n i j k : Nat} {l : List Int} {f : Nat → Nat} (hk : k < n + 1) (h : (kbX n l f i j k || kbY n l f i j k) = true) : kbB n l f i j = false := by
  unfold kbB
  have : ((List.range (n + 1)).all fun k => !(kbX n l f i j k || kbY n l f i j k)) = false := by
    rw [List.all_eq_false]; exact ⟨k, List.mem_range.2 hk, by rw [h]; simp⟩
  rw [this]; simp

theorem kbB_yes {n i j : Nat} {l : List Int} {f : Nat → Nat} (hi : f i = i) (hj : f j = j) (h : ∀ k, k < n + 1 → (kbX n l f i j k || kbY n l f i j k) = false) : kbB n l f i j = true := by
  unfold kbB
  simp only [hi, hj, decide_true, Bool.true_and, List.all_eq_true]
  intro k hk
  rw [h k (List.mem_range.1 hk)]; rfl

def ksB (n : Nat) (l : List Int) (f : Nat → Nat) (i j : Nat) : Bool := !decide (i = j) && !decide (Zo.At n l i j = 1099511627776) && (if f i = f j then kwB n l f i j else kbB n l f i j)

theorem czbox (n : Nat) (a : Addr) (len cap : Nat) (A : Array Value) (f : Nat → Nat) (hA : Cls A n f) (w : World) : ∃ w0, w0 = (w.alloc (.cells A 160)).alloc (.cells #[.int .i64 n, .slice (some a) len cap] 36) ∧ Below w.heap.size w w0 ∧
    (∀ W : World, Below w0.heap.size w0 W → (W.cell? ⟨w.heap.size + 1, 0, none⟩ = some (.int .i64 n) ∧ W.cell? ⟨w.heap.size + 1, 1, none⟩ = some (.slice (some a) len cap))) ∧
    (∀ W : World, Below w0.heap.size w0 W → Crow W w.heap.size A) ∧ (∀ W : World, Below w0.heap.size w0 W → ∀ k, k ≤ n → W.cell? ⟨w.heap.size, k, none⟩ = some (.int .i64 (f k))) := by
  refine ⟨_, rfl, past_two (Below.refl _ _), fun W h => ?_, fun W h => ?_, fun W h k hk => ?_⟩
  · have := (Two.made (w.alloc (.cells A 160)) (.int .i64 n) (.slice (some a) len cap) 36).kept h
    have e : (w.alloc (.cells A 160)).heap.size = w.heap.size + 1 := by simp
    rw [e] at this
    exact ⟨this.facts.1, this.facts.2.1⟩
  · exact ((Crow.made w hA.1).alloc _).kept h
  · exact (((Crow.made w hA.1).alloc _).kept h).cell hA hk

theorem miat_len {n : Nat} {l : List Int} {a : Addr} {cap len : Nat} {w : World} (hn : n ≤ 10) (hl : l.length = (n + 1) * (n + 1)) (h : Rd w a l) (hlen : len = l.length) :
    ∀ (i j : Nat) (W : World), i ≤ n → j ≤ n → Below w.heap.size w W → Calls Tryz.prog 177 #[.agg #[.int .i64 n, .slice (some a) len cap], .int .i64 i, .int .i64 j] W (Made (.int .i64 (Zo.At n l i j)) W) := by
  intro i j W hi hj h'
  have := miat_any n i j l a cap W hn hi hj hl (h.on h')
  rw [← hlen] at this; exact this

theorem plain_len {n : Nat} {l : List Int} {a : Addr} {cap len : Nat} {w : World} (hn : n ≤ 10) (hl : l.length = (n + 1) * (n + 1)) (h : Rd w a l) (hlen : len = l.length) :
    ∀ (i j : Nat) (W : World), i ≤ n → j ≤ n → Below w.heap.size w W → Calls Tryz.prog 192 #[.agg #[.int .i64 n, .slice (some a) len cap], .int .i64 i, .int .i64 j] W (Made (.bool (plB n l i j)) W) := by
  intro i j W hi hj h'
  have := plain_any n i j l a cap W hn hi hj hl (h.on h')
  rw [← hlen] at this; exact this

theorem issum_len {n : Nat} {l : List Int} {a : Addr} {cap len : Nat} {w : World} (hn : n ≤ 10) (hl : l.length = (n + 1) * (n + 1)) (hv : ∀ i j, i ≤ n → j ≤ n → I64 (Zo.At n l i j)) (h : Rd w a l) (hlen : len = l.length) :
    ∀ (i k j : Nat) (W : World), i ≤ n → k ≤ n → j ≤ n → Below w.heap.size w W → Calls Tryz.prog 193 #[.agg #[.int .i64 n, .slice (some a) len cap], .int .i64 i, .int .i64 k, .int .i64 j] W (Made (.bool (suB (Zo.At n l i k) (Zo.At n l k j) (Zo.At n l i j))) W) := by
  intro i k j W hi hk hj h'
  have := issum_any n i k j l a cap W hn hi hk hj hl hv (h.on h')
  rw [← hlen] at this; exact this

set_option maxHeartbeats 3200000 in
theorem within_any (n i j : Nat) (l : List Int) (a : Addr) (cap : Nat) (A : Array Value) (f : Nat → Nat) (w : World) (hn : n ≤ 10) (hi : i ≤ n) (hj : j ≤ n) (hl : l.length = (n + 1) * (n + 1)) (h : Rd w a l) (hA : Cls A n f) :
    Calls Tryz.prog 179 #[.agg A, .agg #[.int .i64 n, .slice (some a) l.length cap], .int .i64 i, .int .i64 j] w (Made (.bool (kwB n l f i j)) w) := by
  obtain ⟨len, hlen⟩ : ∃ len, len = l.length := ⟨_, rfl⟩
  have PL := Lib.hid (plain_len (cap := cap) hn hl h hlen)
  have NX := Lib.hid (fun W => next_any n i A f W hn hi hA)
  rw [← hlen]
  obtain ⟨w0, hw0, e0, ks, kr, kc⟩ := czbox n a len cap A f hA w
  have KS := Lib.hid ks
  have KR := Lib.hid kr
  have E0 := Lib.hid e0
  have HW0 := Lib.hid hw0
  have HK := Lib.hid (show kwB n l f i j = (decide (j = nxN n f i) && !plB n l i j) from rfl)
  obtain ⟨b0, b1⟩ := ks w0 (Below.refl _ _)
  generalize nxN n f i = x at *
  have KR0 := Lib.hid (show Crow ((w.alloc (.cells A 160)).alloc (.cells #[.int .i64 n, .slice (some a) len cap] 36)) w.heap.size A by rw [← hw0]; exact kr _ (Below.refl _ _))
  have B0 := Lib.hid (Below.refl w0.heap.size w0)
  clear ks kr kc e0 hw0 hlen hl h hA
  by_cases hx : j = x
  · have D : ((j : Int) == (x : Int)) = true := by simp; omega
    have HF0 := Lib.hid (show kwB n l f i j = !plB n l i j by rw [HK.out, decide_eq_true hx]; rfl)
    clear hx
    cases hp : plB n l i j
    · have HP := Lib.hid hp
      have HF := Lib.hid (show kwB n l f i j = true by rw [HF0.out, hp]; rfl)
      clear hp
      go_enter Tryz.func179, Tryz.ntmps179
      go_wp2_with (refine wplc_load rfl _ rfl _ rfl _ KR0.out ?_)
      rw [← HW0.out]
      refine (NX.out _).mono ?_
      rintro e w1 ⟨rfl, hb1⟩
      have B1 := Lib.hid hb1
      clear hb1 b0 b1
      obtain ⟨b0, b1⟩ := KS.out _ B1.out
      go_wp2_with fail
      refine (made_as (PL.out i j _ hi hj (below_on E0.out B1.out)) HP.out).mono ?_
      rintro e w2 ⟨rfl, hb2⟩
      have B2 := Lib.hid (below_on B1.out hb2)
      clear hb2 b0 b1
      go_wp2_with fail
      go_ret
      exact ⟨ret_bool HF.out.symm, below_on E0.out B2.out⟩
    · have HP := Lib.hid hp
      have HF := Lib.hid (show kwB n l f i j = false by rw [HF0.out, hp]; rfl)
      clear hp
      go_enter Tryz.func179, Tryz.ntmps179
      go_wp2_with (refine wplc_load rfl _ rfl _ rfl _ KR0.out ?_)
      rw [← HW0.out]
      refine (NX.out _).mono ?_
      rintro e w1 ⟨rfl, hb1⟩
      have B1 := Lib.hid hb1
      clear hb1 b0 b1
      obtain ⟨b0, b1⟩ := KS.out _ B1.out
      go_wp2_with fail
      refine (made_as (PL.out i j _ hi hj (below_on E0.out B1.out)) HP.out).mono ?_
      rintro e w2 ⟨rfl, hb2⟩
      have B2 := Lib.hid (below_on B1.out hb2)
      clear hb2 b0 b1
      go_wp2_with fail
      go_ret
      exact ⟨ret_bool HF.out.symm, below_on E0.out B2.out⟩
  · have D : ((j : Int) == (x : Int)) = false := by simp; omega
    have HF := Lib.hid (show kwB n l f i j = false by rw [HK.out, decide_eq_false hx]; rfl)
    clear hx
    go_enter Tryz.func179, Tryz.ntmps179
    go_wp2_with (refine wplc_load rfl _ rfl _ rfl _ KR0.out ?_)
    rw [← HW0.out]
    refine (NX.out _).mono ?_
    rintro e w1 ⟨rfl, hb1⟩
    have B1 := Lib.hid hb1
    clear hb1 b0 b1
    go_wp2_with fail
    go_ret
    exact ⟨ret_bool HF.out.symm, below_on E0.out B1.out⟩
end Go.Proofs.YtaegiihkgicdnaaGreat

namespace Go.Proofs.YtaegiihkgicdnaaGreat
open Go.RowKit

theorem smW_fin {a b : Int} (ha : -2147483648 ≤ a ∧ a ≤ 2147483649) (hb : -2147483648 ≤ b ∧ b ≤ 2147483649) : Zo.smW a b = if a % 2 = 0 ∧ b % 2 = 0 then a + b else a + b - 1 := by
  unfold Zo.smW Zo.w64
  rw [if_neg (by omega)]
  split <;> omega

theorem lv_two {a : Int} (h : lvB a = true) : a = 1099511627776 ∨ (-2147483648 ≤ a ∧ a ≤ 2147483649) := by unfold lvB at h; simpa using h

theorem su_eq {x y z : Int} (hx : lvB x = true) (hy : lvB y = true) (hz : lvB z = true) : suB x y z = decide (z = Zo.smW x y) := by
  rw [Bool.eq_iff_iff]
  unfold suB adE adL
  rw [hx, hy]
  simp only [Bool.and_true, if_true, Bool.and_eq_true, decide_eq_true_eq]
  have hz2 := lv_two hz
  rcases lv_two hx with rfl | fx
  · have n1 : noB 1099511627776 = true := rfl
    rw [n1, no_smW]; simp; omega
  rcases lv_two hy with rfl | fy
  · have n1 : noB 1099511627776 = true := rfl
    rw [n1, smW_no]; simp; omega
  have nx : noB x = false := by unfold noB; simp; omega
  have ny : noB y = false := by unfold noB; simp; omega
  rw [nx, ny, smW_fin fx fy]
  simp only [Bool.or_self, Bool.false_eq_true, if_false]
  unfold jnE jnL evB
  constructor
  · intro ⟨h1, h2⟩
    split at h1
    · rename_i c
      rw [if_pos c] at h2
      split at h2
      · rename_i d
        simp at d
        split <;> omega
      · rename_i d
        simp at d
        split <;> omega
    · omega
  · intro h
    have c : -1073741824 ≤ x / 2 + y / 2 ∧ x / 2 + y / 2 ≤ 1073741824 := by
      split at h <;> omega
    rw [if_pos c, if_pos c]
    refine ⟨rfl, ?_⟩
    split at h
    · rename_i d
      rw [if_pos (by simp; omega)]; omega
    · rename_i d
      split
      · rename_i e
        simp at e; omega
      · rename_i e
        simp at e; omega

structure Vz (n : Nat) (l : List Int) : Prop where
  hn : n ≤ 10
  hl : l.length = (n + 1) * (n + 1)
  hc : chkE n l = 0

theorem Vz.lv {n : Nat} {l : List Int} (h : Vz n l) {i j : Nat} (hi : i ≤ n) (hj : j ≤ n) : lvB (Zo.At n l i j) = true ∧ (i = j → Zo.At n l i j = 1) ∧ (i = 0 → Zo.At n l i j ≤ 1) := by
  have hc : chkB n l = true := by
    have := h.hc
    unfold chkE at this
    cases e : chkB n l
    · rw [e] at this; simp at this
    · rfl
  unfold chkB at hc
  simp only [Bool.and_eq_true, Int.toNat_natCast] at hc
  have := chk1_iff.1 hc.1.2 i (by omega) j (by omega)
  unfold okI at this
  simp only [Bool.and_eq_true, Bool.or_eq_true, decide_eq_true_eq] at this
  obtain ⟨⟨h1, h2⟩, h3⟩ := this
  exact ⟨h1, fun e => by rcases h2 with c | c <;> simp_all, fun e => by rcases h3 with c | c <;> simp_all⟩

theorem Vz.tri {n : Nat} {l : List Int} (h : Vz n l) {i j k : Nat} (hi : i ≤ n) (hj : j ≤ n) (hk : k ≤ n) : Zo.At n l i j ≤ Zo.smW (Zo.At n l i k) (Zo.At n l k j) := chk_tri h.hc i j k hi hj hk

theorem bd_fin {n : Nat} {l : List Int} (h : Vz n l) {i j : Nat} (hi : i ≤ n) (hj : j ≤ n) (hb : bdB n l i j = true) :
    (-2147483648 ≤ Zo.At n l i j ∧ Zo.At n l i j ≤ 2147483649) ∧ (-2147483648 ≤ Zo.At n l j i ∧ Zo.At n l j i ≤ 2147483649) ∧ Zo.At n l i j + Zo.At n l j i = 2 ∧ Zo.At n l i j % 2 = 1 := by
  unfold bdB at hb
  simp only [decide_eq_true_eq] at hb
  have a := lv_two (h.lv hi hj).1
  have b := lv_two (h.lv hj hi).1
  generalize Zo.At n l i j = x at *
  generalize Zo.At n l j i = y at *
  rcases a with rfl | fa
  · rw [no_smW] at hb; omega
  rcases b with rfl | fb
  · rw [smW_no] at hb; omega
  rw [smW_fin fa fb] at hb
  split at hb <;> omega

theorem bd_of {n : Nat} {l : List Int} {i j : Nat} (ha : -2147483648 ≤ Zo.At n l i j ∧ Zo.At n l i j ≤ 2147483649) (hb : -2147483648 ≤ Zo.At n l j i ∧ Zo.At n l j i ≤ 2147483649) (h : Zo.At n l i j + Zo.At n l j i = 2) (ho : Zo.At n l i j % 2 = 1) : bdB n l i j = true := by
  unfold bdB
  rw [smW_fin ha hb, if_neg (by omega)]
  simp; omega

theorem bd_self {n : Nat} {l : List Int} (h : Vz n l) {i : Nat} (hi : i ≤ n) : bdB n l i i = true := by
  have := (h.lv hi hi).2.1 rfl
  exact bd_of (by omega) (by omega) (by omega) (by omega)

theorem bd_symm {n : Nat} {l : List Int} (h : Vz n l) {i j : Nat} (hi : i ≤ n) (hj : j ≤ n) (hb : bdB n l i j = true) : bdB n l j i = true := by
  obtain ⟨h1, h2, h3, h4⟩ := bd_fin h hi hj hb
  exact bd_of h2 h1 (by omega) (by omega)

theorem bd_trans {n : Nat} {l : List Int} (h : Vz n l) {i j k : Nat} (hi : i ≤ n) (hj : j ≤ n) (hk : k ≤ n) (h1 : bdB n l i j = true) (h2 : bdB n l j k = true) : bdB n l i k = true := by
  obtain ⟨a1, a2, a3, a4⟩ := bd_fin h hi hj h1
  obtain ⟨b1, b2, b3, b4⟩ := bd_fin h hj hk h2
  have e := h.tri hi hk hj
  have f := h.tri hk hi hj
  have g := h.tri hi hi hk
  rw [(h.lv hi hi).2.1 rfl] at g
  have le := lv_two (h.lv hi hk).1
  have lf := lv_two (h.lv hk hi).1
  rw [smW_fin a1 b1] at e
  rw [smW_fin b2 a2] at f
  rw [if_neg (by omega)] at e f
  generalize Zo.At n l i j = a at *
  generalize Zo.At n l j i = b at *
  generalize Zo.At n l j k = c at *
  generalize Zo.At n l k j = d at *
  have fe : -2147483648 ≤ Zo.At n l i k ∧ Zo.At n l i k ≤ 2147483649 := by
    rcases le with q | q
    · omega
    · exact q
  have ff : -2147483648 ≤ Zo.At n l k i ∧ Zo.At n l k i ≤ 2147483649 := by
    rcases lf with q | q
    · omega
    · exact q
  rw [smW_fin fe ff] at g
  split at g
  · exfalso; omega
  · exact bd_of fe ff (by omega) (by omega)

theorem bd_comm {n : Nat} {l : List Int} (h : Vz n l) {i j : Nat} (hi : i ≤ n) (hj : j ≤ n) : bdB n l i j = bdB n l j i := by
  rw [Bool.eq_iff_iff]; exact ⟨bd_symm h hi hj, bd_symm h hj hi⟩

def clsF (n : Nat) (l : List Int) (i : Nat) : Nat := ((List.range i).find? fun c => bdB n l i c).getD i

theorem cls_of {n i t : Nat} {l : List Int} (h1 : t ≤ i) (h2 : t < i → bdB n l i t = true) (h3 : ∀ k, k < t → bdB n l i k = false) : clsF n l i = t := by
  unfold clsF
  by_cases c : t < i
  · have : (List.range i).find? (fun c => bdB n l i c) = some t := by
      rw [List.find?_range_eq_some]
      exact ⟨h2 c, by simpa using c, fun j hj => by simp [h3 j hj]⟩
    rw [this]; rfl
  · have : (List.range i).find? (fun c => bdB n l i c) = none := by
      rw [List.find?_range_eq_none]
      intro j hj
      simp [h3 j (by omega)]
    rw [this]; show i = t; omega

theorem cls_is {n i : Nat} {l : List Int} (h : Vz n l) (hi : i ≤ n) : clsF n l i ≤ i ∧ bdB n l i (clsF n l i) = true ∧ ∀ k, k < clsF n l i → bdB n l i k = false := by
  have key : ∀ m, m ≤ i → (∀ k, k < m → bdB n l i k = false) ∨ ∃ t, t < m ∧ bdB n l i t = true ∧ ∀ k, k < t → bdB n l i k = false := by
    intro m
    induction m with
    | zero => intro _; exact Or.inl fun k hk => by omega
    | succ m ih =>
      intro hm
      rcases ih (by omega) with c | ⟨t, ht, h1, h2⟩
      · cases e : bdB n l i m
        · exact Or.inl fun k hk => by
            by_cases g : k = m
            · rw [g]; exact e
            · exact c k (by omega)
        · exact Or.inr ⟨m, by omega, e, c⟩
      · exact Or.inr ⟨t, by omega, h1, h2⟩
  rcases key i (Nat.le_refl _) with c | ⟨t, ht, h1, h2⟩
  · rw [cls_of (Nat.le_refl i) (fun q => by omega) c]
    exact ⟨Nat.le_refl _, bd_self h hi, c⟩
  · rw [cls_of (by omega) (fun _ => h1) h2]
    exact ⟨by omega, h1, h2⟩

theorem cls_eq {n i j : Nat} {l : List Int} (h : Vz n l) (hi : i ≤ n) (hj : j ≤ n) : clsF n l i = clsF n l j ↔ bdB n l i j = true := by
  obtain ⟨i1, i2, i3⟩ := cls_is h hi
  obtain ⟨j1, j2, j3⟩ := cls_is h hj
  constructor
  · intro e
    rw [← e] at j2
    exact bd_trans h hi (by omega) hj i2 (bd_symm h hj (by omega) j2)
  · intro e
    have h1 : bdB n l j (clsF n l i) = true := bd_trans h hj hi (by omega) (bd_symm h hi hj e) i2
    have h2 : bdB n l i (clsF n l j) = true := bd_trans h hi hj (by omega) e j2
    by_cases c : clsF n l i < clsF n l j
    · rw [j3 _ c] at h1; cases h1
    · by_cases d : clsF n l j < clsF n l i
      · rw [i3 _ d] at h2; cases h2
      · omega

theorem cls_first {n i : Nat} {l : List Int} (h : Vz n l) (hi : i ≤ n) : clsF n l i = i ↔ fiB n l i = true := by
  obtain ⟨i1, i2, i3⟩ := cls_is h hi
  rw [fiB_iff]
  constructor
  · intro e k hk
    rw [bd_comm h (by omega) hi]
    exact i3 k (by omega)
  · intro e
    by_cases c : clsF n l i < i
    · have := e _ c
      rw [bd_comm h (by omega) hi, i2] at this; cases this
    · omega

theorem nx_eq {n i j : Nat} {l : List Int} (h : Vz n l) (hi : i ≤ n) (hj : j ≤ n) (hij : i ≠ j) (hb : bdB n l i j = true) : decide (j = nxN n (clsF n l) i) = nxB n l i j := by
  have key : ∀ k, k ≤ n → (clsF n l k = clsF n l i ↔ bdB n l k i = true) := fun k hk => cls_eq h hk hi
  rw [Bool.eq_iff_iff, decide_eq_true_eq]
  constructor
  · intro e
    refine nxB_yes fun k hk => ?_
    cases hbt : btB i j k
    · simp
    · simp only [Bool.not_true, Bool.or_false]
      cases hsk : skB n l i j k
      · exfalso
        unfold skB at hsk
        simp only [Bool.or_eq_false_iff, decide_eq_false_iff_not, Bool.not_eq_false'] at hsk
        obtain ⟨⟨s1, s2⟩, s3⟩ := hsk
        have s4 := (key k (by omega)).2 s3
        unfold btB at hbt
        simp only [Bool.or_eq_true, Bool.and_eq_true, decide_eq_true_eq] at hbt
        rcases (show (∃ t, i < t ∧ t ≤ n ∧ clsF n l t = clsF n l i ∧ (∀ k, i < k → k < t → clsF n l k ≠ clsF n l i)) ∨ (∀ k, i < k → k ≤ n → clsF n l k ≠ clsF n l i) from by
          have : ∀ m, m ≤ n + 1 → (∃ t, i < t ∧ t < m ∧ clsF n l t = clsF n l i ∧ (∀ k, i < k → k < t → clsF n l k ≠ clsF n l i)) ∨ (∀ k, i < k → k < m → clsF n l k ≠ clsF n l i) := by
            intro m
            induction m with
            | zero => intro _; exact Or.inr fun k _ hk => by omega
            | succ m ih =>
              intro hm
              rcases ih (by omega) with ⟨t, a, b, c, d⟩ | d
              · exact Or.inl ⟨t, a, by omega, c, d⟩
              · by_cases g : i < m ∧ clsF n l m = clsF n l i
                · exact Or.inl ⟨m, g.1, by omega, g.2, fun k q r => d k q r⟩
                · refine Or.inr fun k q r => ?_
                  by_cases x : k = m
                  · subst x; exact fun y => g ⟨q, y⟩
                  · exact d k q (by omega)
          rcases this (n + 1) (Nat.le_refl _) with ⟨t, a, b, c, d⟩ | d
          · exact Or.inl ⟨t, a, by omega, c, d⟩
          · exact Or.inr fun k q r => d k q (by omega)) with ⟨t, a, b, c, d⟩ | d
        · rw [nx_found a b c d] at e
          subst e
          rcases hbt with ⟨⟨p, q⟩, r⟩ | ⟨p, _⟩
          · exact d k q r s4
          · omega
        · rw [nx_none d] at e
          obtain ⟨i1, i2, i3⟩ := cls_is h hi
          rcases hbt with ⟨⟨p, q⟩, r⟩ | ⟨p, q⟩
          · exact d k q (by omega) s4
          · rcases q with q | q
            · exact d k q (by omega) s4
            · rw [e] at q
              have := i3 k q
              rw [bd_comm h hi (by omega), s3] at this; cases this
      · rfl
  · intro e
    unfold nxB at e
    rw [List.all_eq_true] at e
    have hno : ∀ k, k ≤ n → k ≠ i → k ≠ j → clsF n l k = clsF n l i → btB i j k = false := fun k hk q r s => by
      have := e k (List.mem_range.2 (by omega))
      have s3 := (key k hk).1 s
      cases g : btB i j k
      · rfl
      · rw [g] at this
        simp [skB, q, r, s3] at this
    have hj2 : clsF n l j = clsF n l i := (key j hj).2 (bd_symm h hi hj hb)
    by_cases c : i < j
    · rw [nx_found c hj hj2 fun k q r s => by
        have := hno k (by omega) (by omega) (by omega) s
        unfold btB at this; simp at this; omega]
    · rw [nx_none fun k q r s => by
        by_cases x : k = j
        · omega
        · have := hno k r (by omega) x s
          unfold btB at this; simp at this; omega]
      obtain ⟨i1, i2, i3⟩ := cls_is h hi
      by_cases x : clsF n l i < j
      · exfalso
        have hk : clsF n l (clsF n l i) = clsF n l i := (key _ (by omega)).2 (bd_symm h hi (by omega) i2)
        have := hno (clsF n l i) (by omega) (by omega) (by omega) hk
        unfold btB at this; simp at this; omega
      · by_cases y : j < clsF n l i
        · have := i3 j y
          rw [hb] at this; cases this
        · omega

theorem ks_kp {n i j : Nat} {l : List Int} (h : Vz n l) (hi : i ≤ n) (hj : j ≤ n) : ksB n l (clsF n l) i j = kpB n l i j := by
  unfold ksB kpB
  by_cases hij : i = j
  · simp [hij]
  by_cases hno : Zo.At n l i j = 1099511627776
  · simp [hno]
  simp only [decide_eq_false hij, decide_eq_false hno, Bool.not_false, Bool.true_and]
  by_cases hb : bdB n l i j = true
  · rw [if_pos ((cls_eq h hi hj).2 hb), if_pos hb]
    unfold kwB kpN
    rw [nx_eq h hi hj hij hb]
    unfold plB
    rw [Bool.not_and]
  · rw [if_neg (fun e => hb ((cls_eq h hi hj).1 e)), if_neg hb]
    unfold kbB kpM
    have ei : decide (clsF n l i = i) = fiB n l i := by rw [Bool.eq_iff_iff, decide_eq_true_eq]; exact cls_first h hi
    have ej : decide (clsF n l j = j) = fiB n l j := by rw [Bool.eq_iff_iff, decide_eq_true_eq]; exact cls_first h hj
    rw [ei, ej]
    cases hfj : fiB n l j
    · simp
    have hj1 := (cls_first h hj).2 hfj
    congr 1
    rw [Bool.eq_iff_iff, List.all_eq_true, List.all_eq_true]
    have : ∀ k, k ∈ List.range (n + 1) → (kbX n l (clsF n l) i j k || kbY n l (clsF n l) i j k) = (kpA n l i j k || kpC n l i j k) := fun k hk => by
      have hk : k ≤ n := by have := List.mem_range.1 hk; omega
      have e1 : kbX n l (clsF n l) i j k = kpA n l i j k := by
        unfold kbX kpA plB
        rw [show decide (clsF n l k = j) = bdB n l k j by
          rw [Bool.eq_iff_iff, decide_eq_true_eq, ← cls_eq h hk hj, hj1]]
        by_cases i0 : i = 0
        · subst i0
          cases bdB n l k j <;> simp
        · simp [i0]
      have e2 : kbY n l (clsF n l) i j k = kpC n l i j k := by
        unfold kbY kpC kpS
        rw [show decide (clsF n l k = k) = fiB n l k by rw [Bool.eq_iff_iff, decide_eq_true_eq]; exact cls_first h hk]
        rw [su_eq (h.lv hi hk).1 (h.lv hk hj).1 (h.lv hi hj).1]
      rw [e1, e2]
    constructor
    · intro q k hk
      rw [← this k hk]; exact q k hk
    · intro q k hk
      rw [this k hk]; exact q k hk
end Go.Proofs.YtaegiihkgicdnaaGreat
