/- A part. -/
import Derived.Test.YtaegiihkgicdnaaGreatWt16
import Derived.Test.YtaegiihkgicdnaaGreatWt14

namespace Go.Proofs.YtaegiihkgicdnaaGreat
open Go.RowKit

def conV (cs : List Con) : List Value := cs.flatMap fun c => [.int .i64 c.1, .int .i64 c.2.1, .int .i64 c.2.2]

theorem conV_app (cs : List Con) (i j x : Int) : conV (cs ++ [(i, j, x)]) = conV cs ++ [.int .i64 i, .int .i64 j, .int .i64 x] := by unfold conV; rw [List.flatMap_append]; rfl

theorem conV_at (cs : List Con) (k : Nat) (hk : k < cs.length) : (conV cs)[k * 3]? = some (.int .i64 (gc cs k).1) ∧ (conV cs)[k * 3 + 1]? = some (.int .i64 (gc cs k).2.1) ∧ (conV cs)[k * 3 + 2]? = some (.int .i64 (gc cs k).2.2) := by
  induction cs generalizing k with
  | nil => simp at hk
  | cons c cs ih =>
    cases k with
    | zero => exact ⟨rfl, rfl, rfl⟩
    | succ k =>
      have := ih k (by simp at hk; omega)
      have e : conV (c :: cs) = [.int .i64 c.1, .int .i64 c.2.1, .int .i64 c.2.2] ++ conV cs := rfl
      have g : gc (c :: cs) (k + 1) = gc cs k := by simp [gc]
      rw [e, g, show (k + 1) * 3 = k * 3 + 3 by omega]
      refine ⟨?_, ?_, ?_⟩
      · rw [List.getElem?_append_right (by simp)]; exact this.1
      · rw [List.getElem?_append_right (by simp)]; simpa using this.2.1
      · rw [List.getElem?_append_right (by simp)]; simpa using this.2.2

def OwnC (w : World) (B : Nat) (v : Value) (cs : List Con) : Prop := w.ownsRow B 110 3 v cs.length (conV cs)

theorem OwnC.nil (w : World) (B : Nat) : OwnC w B (.slice none 0 0) [] := World.ownsRow_nil w B _ _

theorem OwnC.on {w w' : World} {B : Nat} {v : Value} {cs : List Con} (h : OwnC w B v cs) (hb : Below w.heap.size w w') : OwnC w' B v cs := by
  have hg : w.grownBy w' none := ⟨hb.os, hb.tape, hb.output, hb.size, fun k hk _ => hb.block k hk⟩
  exact World.ownsRow.kept h hg (by cases v.ownBlock <;> simp)

theorem OwnC.arg {w : World} {B : Nat} {v : Value} {cs : List Con} (h : OwnC w B v cs) : ∃ ao cap, v = .slice ao cs.length cap ∧ Arg3 w ao cs := by
  rcases h.2 with ⟨rfl, hn⟩ | ⟨g, cap, cur, rfl, hb, hg, hc, hm, hsz, htake⟩
  · exact ⟨none, 0, by rw [hn], fun hne => absurd (List.eq_nil_of_length_eq_zero hn) hne⟩
  · refine ⟨_, cap, rfl, fun _ => ⟨⟨g, 0, none⟩, rfl, fun j hj => ?_⟩⟩
    have hc := World.ownsRow.cellAt (g := g) (cap := cap) h
    obtain ⟨c0, c1, c2⟩ := conV_at cs j hj
    refine ⟨?_, ?_, ?_⟩
    · rw [addr_add]; exact (hc (j * 3) (by omega)).trans c0
    · rw [addr_add]; exact (hc (j * 3 + 1) (by omega)).trans c1
    · rw [addr_add]; exact (hc (j * 3 + 2) (by omega)).trans c2

theorem OwnC.low {w : World} {B B' : Nat} {v : Value} {cs : List Con} (h : OwnC w B v cs) (hb : B' ≤ B) : OwnC w B' v cs := by
  refine ⟨h.1, ?_⟩
  rcases h.2 with c | ⟨g, cap, cur, h1, h2, h3⟩
  · exact Or.inl c
  · exact Or.inr ⟨g, cap, cur, h1, by omega, h3⟩

def CRes (w : World) (cs : List Con) (er : Int) (e : Ending) (w' : World) : Prop :=
  Below w.heap.size w w' ∧ ∃ v, e = .returned (.tuple #[v, .int .i64 er]) ∧ OwnC w' w.heap.size v cs

theorem cells_three {w w' : World} (x y z : Value) (t : TypeId) (hw : w' = w.alloc (.cells #[x, y, z] t)) : ∀ j u, ([x, y, z] : List Value)[j]? = some u → w'.cell? ((⟨w.heap.size, 0, none⟩ : Addr).add j) = some u := by
  subst hw
  intro j u hu
  rw [addr_add]
  match j, hu with
  | 0, hu => simp at hu; subst hu; go_simp
  | 1, hu => simp at hu; subst hu; go_simp
  | 2, hu => simp at hu; subst hu; go_simp

def redT (n : Nat) (l : List Int) (i t : Nat) : List Con := (List.range t).flatMap fun j => if kpB n l i j then [((i : Int), (j : Int), Zo.At n l i j)] else []

def redS (n : Nat) (l : List Int) (t : Nat) : List Con := (List.range t).flatMap fun i => redT n l i (n + 1)

def redL (n : Nat) (l : List Int) : List Con := redS n l (n + 1)

theorem redT_no {n i t : Nat} {l : List Int} (h : kpB n l i t = false) : redT n l i (t + 1) = redT n l i t := by
  unfold redT; rw [List.range_succ, List.flatMap_append]; simp [h]

theorem redT_yes {n i t : Nat} {l : List Int} (h : kpB n l i t = true) : redT n l i (t + 1) = redT n l i t ++ [((i : Int), (t : Int), Zo.At n l i t)] := by
  unfold redT; rw [List.range_succ, List.flatMap_append]; simp [h]

theorem redS_succ (n : Nat) (l : List Int) (t : Nat) : redS n l (t + 1) = redS n l t ++ redT n l t (n + 1) := by
  unfold redS; rw [List.range_succ, List.flatMap_append]; simp

theorem flat_le {α : Type} (f : Nat → List α) (b : Nat) (hf : ∀ i, (f i).length ≤ b) (t : Nat) : ((List.range t).flatMap f).length ≤ t * b := by
  induction t with
  | zero => simp
  | succ t ih =>
    rw [List.range_succ, List.flatMap_append, List.length_append]
    have := hf t
    simp only [List.flatMap_cons, List.flatMap_nil, List.append_nil]
    rw [Nat.add_mul]; omega

theorem redT_len (n : Nat) (l : List Int) (i t : Nat) : (redT n l i t).length ≤ t := by
  have := flat_le (fun j => if kpB n l i j then [((i : Int), (j : Int), Zo.At n l i j)] else []) 1 (fun j => by split <;> simp) t
  unfold redT; omega

theorem redS_len (n : Nat) (l : List Int) (t : Nat) : (redS n l t).length ≤ t * (n + 1) := flat_le _ _ (fun i => redT_len n l i (n + 1)) t

theorem redL_le {n : Nat} {l : List Int} (hn : n ≤ 10) : (redL n l).length ≤ 121 := by
  have := redS_len n l (n + 1)
  have : (n + 1) * (n + 1) ≤ 11 * 11 := Nat.mul_le_mul (by omega) (by omega)
  unfold redL; omega

theorem con_info : (Tryz.prog.info? 110).map (fun i => (i.zero, i.size, i.bytes)) = some (some (.agg #[.int .i64 0, .int .i64 0, .int .i64 0]), 3, 24) := by kernel_rfl

theorem rkept_len {n : Nat} {l : List Int} {a : Addr} {cap len : Nat} {w : World} (hn : n ≤ 10) (hl : l.length = (n + 1) * (n + 1)) (h : Rd w a l) (hlen : len = l.length) :
    ∀ (i j : Nat) (W : World), i ≤ n → j ≤ n → Below w.heap.size w W → Calls Tryz.prog 137 #[.agg #[.int .i64 n, .slice (some a) len cap], .int .i64 i, .int .i64 j] W (Made (.bool (kpB n l i j)) W) := by
  intro i j W hi hj h'
  have := rkept_any n i j l a cap W hn hi hj hl (h.on h')
  rw [← hlen] at this; exact this

set_option maxHeartbeats 3200000 in
theorem rreduce_any (n : Nat) (l : List Int) (a : Addr) (cap : Nat) (w : World) (hn : n ≤ 10) (hl : l.length = (n + 1) * (n + 1)) (hc : chkE n l = 0) (h : Rd w a l) :
    Calls Tryz.prog 99 #[.agg #[.int .i64 n, .slice (some a) l.length cap]] w (CRes w (redL n l) 0) := by
  obtain ⟨len, hlen⟩ : ∃ len, len = l.length := ⟨_, rfl⟩
  obtain ⟨i0, hi, hz0, hz1, hz2⟩ := info_parts con_info
  have AT := Lib.hid (mrat_len (cap := cap) hn hl h hlen)
  have KP := Lib.hid (rkept_len (cap := cap) hn hl h hlen)
  have CK := Lib.hid (show ∀ W, Below w.heap.size w W → Calls Tryz.prog 39 #[.agg #[.int .i64 n, .slice (some a) len cap]] W (Made (.int .i64 0) W) from fun W h' => by have := check_any n l a cap W hn hl (h.on h'); rw [hc, ← hlen] at this; exact this)
  rw [← hlen]
  obtain ⟨w0, hw0, e0, ks⟩ := zbox n a len cap w
  have KS := Lib.hid ks
  have E0 := Lib.hid e0
  have HW0 := Lib.hid hw0
  obtain ⟨b0, b1⟩ := ks w0 (Below.refl _ _)
  have RL := Lib.hid (show redS n l (n + 1) = redL n l from rfl)
  clear ks e0 hw0 hlen hl h hc
  go_enter Tryz.func99, Tryz.ntmps99
  go_wp2_with fail
  rw [← HW0.out]
  go_wp2_with fail
  refine (CK.out _ E0.out).mono ?_
  rintro e w1 ⟨rfl, hb1⟩
  have B1 := Lib.hid hb1
  have BH := Lib.hid (show Below w.heap.size w w1 from below_on E0.out hb1)
  clear hb1 b0 b1
  go_wp2_with fail
  go_loopw [4, 5] (fun v s wr => ∃ (t : Nat) (cs : List Con), t ≤ n + 1 ∧ s = .int .i64 t ∧ Hid (cs = redS n l t ∧ OwnC wr w0.heap.size v cs ∧ Below w0.heap.size w0 wr)) (fun _ s _ => n + 1 - (intOf s).toNat)
  case atStart => exact ⟨0, [], by omega, rfl, Lib.hid ⟨rfl, OwnC.nil _ _, B1.out⟩⟩
  case round =>
    obtain ⟨t, cs, ht, rfl, HX⟩ := hrel
    obtain ⟨b0, b1⟩ := KS.out _ HX.out.2.2
    by_cases htn : t ≤ n
    · go_wp2_with fail
      clear b0 b1
      go_loopw [4, 6] (fun v s wx => ∃ (j : Nat) (ds : List Con), j ≤ n + 1 ∧ s = .int .i64 j ∧ Hid (ds = redS n l t ++ redT n l t j ∧ OwnC wx w0.heap.size v ds ∧ Below w0.heap.size w0 wx)) (fun _ s _ => n + 1 - (intOf s).toNat)
      case atStart => exact ⟨0, cs, by omega, rfl, Lib.hid ⟨by rw [HX.out.1]; simp [redT], HX.out.2.1, HX.out.2.2⟩⟩
      case round =>
        obtain ⟨j, ds, hj, rfl, HY⟩ := hrel
        obtain ⟨b0, b1⟩ := KS.out _ HY.out.2.2
        by_cases hjn : j ≤ n
        · cases hkp : kpB n l t j
          · have HK := Lib.hid hkp
            clear hkp
            go_wp2_with fail
            refine (made_as (KP.out t j _ htn hjn (below_on E0.out HY.out.2.2)) HK.out).mono ?_
            rintro e w2 ⟨rfl, hb2⟩
            have HZ := Lib.hid (show ds = redS n l t ++ redT n l t (j + 1) ∧ OwnC w2 w0.heap.size _ ds ∧ Below w0.heap.size w0 w2 from ⟨by rw [redT_no HK.out]; exact HY.out.1, HY.out.2.1.on hb2, below_on HY.out.2.2 hb2⟩)
            clear hb2 b0 b1
            go_wp2_with fail
            go_roundw
            case rel => exact ⟨j + 1, ds, by omega, by go_num, HZ⟩
            case measure => simp [intOf]; omega
          · have HK := Lib.hid hkp
            obtain ⟨x, hx⟩ : ∃ x, x = Zo.At n l t j := ⟨_, rfl⟩
            have HXX := Lib.hid hx
            have A1 := Lib.hid (show ∀ W, Below w.heap.size w W → Calls Tryz.prog 138 #[.agg #[.int .i64 n, .slice (some a) len cap], .int .i64 t, .int .i64 j] W (Made (.int .i64 x) W) from fun W h' => by rw [hx]; exact AT.out t j W htn hjn h')
            clear hkp hx
            go_wp2_with fail
            refine (made_as (KP.out t j _ htn hjn (below_on E0.out HY.out.2.2)) HK.out).mono ?_
            rintro e w2 ⟨rfl, hb2⟩
            have B2 := Lib.hid hb2
            clear hb2 b0 b1
            obtain ⟨b0, b1⟩ := KS.out _ (below_on HY.out.2.2 B2.out)
            go_wp2_with fail
            refine (A1.out _ (below_on E0.out (below_on HY.out.2.2 B2.out))).mono ?_
            rintro e w3 ⟨rfl, hb3⟩
            have HZ := Lib.hid (show Below w0.heap.size w0 w3 from below_on (below_on HY.out.2.2 B2.out) hb3)
            have hown := (HY.out.2.1.on B2.out).on hb3
            have hdl : ds.length ≤ 1000 := by
              rw [HY.out.1, List.length_append]
              have := redS_len n l t
              have := redT_len n l t j
              have : t * (n + 1) ≤ 10 * 11 := Nat.mul_le_mul (by omega) (by omega)
              omega
            have hsz : w0.heap.size ≤ w3.heap.size := HZ.out.size
            clear hb3 b0 b1
            go_wp2_with (at_builtin; refine wpList_append_own _ rfl _ _ 104 rfl w0.heap.size 110 i0 (.agg #[.int .i64 0, .int .i64 0, .int .i64 0]) 3 24 Tryz.underlying104 hi hz0 hz1 hz2 rfl (by decide) _ _ _ rfl (World.ownsRow.alloc hown _) ⟨w3.heap.size, 0, none⟩ 1 1 [.int .i64 t, .int .i64 j, .int .i64 x] rfl rfl (cells_three _ _ _ _ rfl) (by simp [Value.oneCell']) (by unfold maxLen; omega) (by omega) (by simp; omega) ?_)
            intro v' w4 hown4 hgrow _
            have HZ4 := Lib.hid (show Below w0.heap.size w0 w4 from Below.grown (HZ.out.alloc HZ.out.size _) hgrow (by simp; omega) (fun k hk => (World.ownsRow.lt hown k hk).1))
            have HW := Lib.hid (show ds ++ [((t : Int), (j : Int), x)] = redS n l t ++ redT n l t (j + 1) ∧ OwnC w4 w0.heap.size v' (ds ++ [((t : Int), (j : Int), x)]) ∧ Below w0.heap.size w0 w4 from
              ⟨by rw [redT_yes HK.out, HY.out.1, HXX.out, List.append_assoc], by unfold OwnC; rw [conV_app, List.length_append]; exact hown4, HZ4.out⟩)
            clear hown4 hgrow hown hdl hsz
            go_wp2_with fail
            go_roundw
            case rel => exact ⟨j + 1, _, by omega, by go_num, HW⟩
            case measure => simp [intOf]; omega
        · have HE := Lib.hid (show ds = redS n l (t + 1) ∧ OwnC _ w0.heap.size _ ds ∧ Below w0.heap.size w0 _ from ⟨by rw [HY.out.1, redS_succ, show j = n + 1 by omega], HY.out.2⟩)
          go_wp2_with fail
          go_roundw
          case rel => exact ⟨t + 1, ds, by omega, by go_num, HE⟩
          case measure => simp [intOf]; omega
    · have HE := Lib.hid (show cs = redL n l by rw [HX.out.1, ← RL.out, show t = n + 1 by omega])
      go_wp2_with fail
      go_ret2
      exact ⟨below_on E0.out HX.out.2.2, _, rfl, by rw [← HE.out]; exact OwnC.low HX.out.2.1 E0.out.size⟩
end Go.Proofs.YtaegiihkgicdnaaGreat

namespace Go.Proofs.YtaegiihkgicdnaaGreat
open Go.RowKit

def Cls (A : Array Value) (n : Nat) (f : Nat → Nat) : Prop := A.size = 11 ∧ A.all (·.oneCell') = true ∧ ∀ k, k ≤ n → A[k]? = some (.int .i64 (f k)) ∧ f k ≤ n

theorem cls_cell {A : Array Value} {n : Nat} {f : Nat → Nat} (hA : Cls A n f) (w : World) : ∀ W, Below (w.alloc (.cells A 160)).heap.size (w.alloc (.cells A 160)) W → ∀ k, k ≤ n → W.cell? ⟨w.heap.size, k, none⟩ = some (.int .i64 (f k)) := by
  intro W h k hk
  refine kept h ?_
  rw [cell_of_row _ _ k A _ _ (heap_alloc_last w _)]
  exact (hA.2.2 k hk).1

def nxN (n : Nat) (f : Nat → Nat) (i : Nat) : Nat := ((List.range (n + 1)).find? fun k => decide (i < k) && decide (f k = f i)).getD (f i)

theorem nx_found {n i t : Nat} {f : Nat → Nat} (h1 : i < t) (h2 : t ≤ n) (h3 : f t = f i) (h4 : ∀ k, i < k → k < t → f k ≠ f i) : nxN n f i = t := by
  unfold nxN
  have : (List.range (n + 1)).find? (fun k => decide (i < k) && decide (f k = f i)) = some t := by
    rw [List.find?_range_eq_some]
    refine ⟨by simp [h1, h3], by simp; omega, fun j hj => ?_⟩
    by_cases c : i < j
    · simp [h4 j c hj]
    · simp [c]
  rw [this]; rfl

theorem nx_none {n i : Nat} {f : Nat → Nat} (h4 : ∀ k, i < k → k ≤ n → f k ≠ f i) : nxN n f i = f i := by
  unfold nxN
  have : (List.range (n + 1)).find? (fun k => decide (i < k) && decide (f k = f i)) = none := by
    rw [List.find?_range_eq_none]
    intro j hj
    by_cases c : i < j
    · simp [h4 j c (by omega)]
    · simp [c]
  rw [this]; rfl

set_option maxHeartbeats 1600000 in
theorem next_any (n i : Nat) (A : Array Value) (f : Nat → Nat) (w : World) (hn : n ≤ 10) (hi : i ≤ n) (hA : Cls A n f) :
    Calls Tryz.prog 191 #[.agg A, .int .i64 i, .int .i64 n] w (Made (.int .i64 (nxN n f i)) w) := by
  obtain ⟨w0, hw0⟩ : ∃ w0, w0 = w.alloc (.cells A 160) := ⟨_, rfl⟩
  have CC := Lib.hid (cls_cell hA w)
  have FB := Lib.hid (show ∀ k, k ≤ n → f k ≤ n from fun k hk => (hA.2.2 k hk).2)
  have HA := Lib.hid hA
  have E0 := Lib.hid (show Below w.heap.size w w0 by rw [hw0]; exact one_more _)
  rw [← hw0] at CC
  have HW0 := Lib.hid hw0
  clear hA hw0
  go_enter Tryz.func191, Tryz.ntmps191
  go_wp2_with fail
  rw [← HW0.out]
  have hi2 := hi
  go_loopw [7] (fun s wr => ∃ t : Nat, i < t ∧ t ≤ n + 1 ∧ s = .int .i64 t ∧ Hid (∀ k, i < k → k < t → f k ≠ f i) ∧ Hid (Below w0.heap.size w0 wr)) (fun s _ => n + 1 - (intOf s).toNat)
  case atStart => exact ⟨i + 1, by omega, by omega, by go_num, Lib.hid (fun k hk hk2 => by omega), Lib.hid (Below.refl _ _)⟩
  case round =>
    obtain ⟨t, hit, ht, rfl, HT, HB⟩ := hrel
    by_cases htn : t ≤ n
    · have c1 := CC.out _ HB.out t htn
      have c2 := CC.out _ HB.out i hi
      by_cases hf : f t = f i
      · have HF := Lib.hid (nx_found hit htn hf HT.out)
        have D : (((f t : Nat) : Int) == ((f i : Nat) : Int)) = true := by simp [hf]
        clear hf
        generalize f t = x at *
        generalize f i = y at *
        go_wp2_with fail
        go_quiet (fail)
        go_wp2_with fail
        go_ret
        exact ⟨ret_int (by rw [HF.out]), below_on E0.out (below_drewN HB.out _)⟩
      · have HT2 := Lib.hid (show ∀ k, i < k → k < t + 1 → f k ≠ f i from fun k h1 h2 => by
          by_cases e : k = t
          · rw [e]; exact hf
          · exact HT.out k h1 (by omega))
        have D : (((f t : Nat) : Int) == ((f i : Nat) : Int)) = false := by simp; omega
        clear hf
        go_wp2_with fail
        go_quiet (fail)
        go_wp2_with fail
        go_roundw
        case rel => exact ⟨t + 1, by omega, by omega, by go_num, HT2, Lib.hid (below_drewN HB.out _)⟩
        case measure => simp [intOf]; omega
    · have c2 := CC.out _ HB.out i hi
      have HF := Lib.hid (nx_none (n := n) (f := f) (i := i) (fun k h1 h2 => HT.out k h1 (by omega)))
      go_wp2_with fail
      go_ret
      exact ⟨ret_int (by rw [HF.out]), below_on E0.out HB.out⟩
end Go.Proofs.YtaegiihkgicdnaaGreat

namespace Go.Proofs.YtaegiihkgicdnaaGreat
open Go.RowKit

theorem cls_size : (Tryz.prog.info? 160).map (·.size) = some 11 := by kernel_rfl

def Crow (w : World) (b : Nat) (A : Array Value) : Prop := w.heap[b]? = some (.cells A 160 (0, 0)) ∧ A.size = 11

theorem Crow.lt {w : World} {b : Nat} {cs : Array Value} (h : Crow w b cs) : b < w.heap.size := by
  by_cases e : b < w.heap.size
  · exact e
  · have := h.1; rw [Array.getElem?_eq_none (by omega)] at this; cases this

theorem Crow.kept {w w' : World} {b : Nat} {cs : Array Value} (h : Crow w b cs) (hb : Below w.heap.size w w') : Crow w' b cs := ⟨(hb.block b h.lt).trans h.1, h.2⟩

theorem Crow.made (w : World) {A : Array Value} (h : A.size = 11) : Crow (w.alloc (.cells A 160)) w.heap.size A := ⟨heap_alloc_last w _, h⟩

theorem Crow.alloc {w : World} {b : Nat} {A : Array Value} (h : Crow w b A) (o : Obj) : Crow (w.alloc o) b A := h.kept (one_more o)

theorem Crow.cell {w : World} {b : Nat} {A : Array Value} (h : Crow w b A) {n : Nat} {f : Nat → Nat} (hA : Cls A n f) {k : Nat} (hk : k ≤ n) : w.cell? ⟨b, k, none⟩ = some (.int .i64 (f k)) := by
  rw [cell_of_row _ _ k A _ _ h.1]; exact (hA.2.2 k hk).1

theorem wplc_load {ops : Array Oper} {rest : List Oper} {o : Oper} {a : Act} {w : World} {Q : Exit → Act → World → Prop} (hgd : o.guard = none) (x : Operand) (ho : o.op = .load 160 x)
    (b : Nat) (hx : a.eval x = .pointer (some ⟨b, 0, none⟩)) (cs : Array Value) (hv : Crow w b cs) (h : wpList Tryz.prog ops Q rest (a.put o.dst (.agg cs)) w) : wpList Tryz.prog ops Q (o :: rest) a w :=
  wpList_load_row hgd _ x ho b hx _ cs (0, 0) _ hv.1 Tryz.underlying160 rfl (by rw [hv.2]; exact cls_size) h

def kwB (n : Nat) (l : List Int) (f : Nat → Nat) (i j : Nat) : Bool := decide (j = nxN n f i) && !plB n l i j

def kbX (n : Nat) (l : List Int) (f : Nat → Nat) (i j k : Nat) : Bool := decide (f k = j) && plB n l i k

def kbY (n : Nat) (l : List Int) (f : Nat → Nat) (i j k : Nat) : Bool := decide (f k = k) && !decide (k = i) && !decide (k = j) && suB (Zo.At n l i k) (Zo.At n l k j) (Zo.At n l i j)

def kbB (n : Nat) (l : List Int) (f : Nat → Nat) (i j : Nat) : Bool := decide (f i = i) && decide (f j = j) && (List.range (n + 1)).all fun k => !(kbX n l f i j k || kbY n l f i j k)

theorem kbB_no {n i j k : Nat} {l : List Int} {f : Nat → Nat} (hk : k < n + 1) (h : (kbX n l f i j k || kbY n l f i j k) = true) : kbB n l f i j = false := by
  unfold kbB
  have : ((List.range (n + 1)).all fun k => !(kbX n l f i j k || kbY n l f i j k)) = false := by
    rw [List.all_eq_false]; exact ⟨k, List.mem_range.2 hk, by rw [h]; simp⟩
  rw [this]; simp

theorem kbB_yes {n i j : Nat} {l : List Int} {f : Nat → Nat} (hi : f i = i) (hj : f j = j) (h : ∀ k, k < n + 1 → (kbX n l f i j k || kbY n l f i j k) = false) : kbB n l f i j = true := by
  unfold kbB
  simp only [hi, hj, decide_true, Bool.true_and, List.all_eq_true]
  intro k hk
  rw [h k (List.mem_range.1 hk)]; rfl

def ksB (n : Nat) (l : List Int) (f : Nat → Nat) (i j : Nat) : Bool := !decide (i = j) && !decide (Zo.At n l i j = 1099511627776) && (if f i = f j then kwB n l f i j else kbB n l f i j)

theorem czbox (n : Nat) (a : Addr) (len cap : Nat) (A : Array Value) (f : Nat → Nat) (hA : Cls A n f) (w : World) : ∃ w0, w0 = (w.alloc (.cells A 160)).alloc (.cells #[.int .i64 n, .slice (some a) len cap] 36) ∧ Below w.heap.size w w0 ∧
    (∀ W : World, Below w0.heap.size w0 W → (W.cell? ⟨w.heap.size + 1, 0, none⟩ = some (.int .i64 n) ∧ W.cell? ⟨w.heap.size + 1, 1, none⟩ = some (.slice (some a) len cap))) ∧
    (∀ W : World, Below w0.heap.size w0 W → Crow W w.heap.size A) ∧ (∀ W : World, Below w0.heap.size w0 W → ∀ k, k ≤ n → W.cell? ⟨w.heap.size, k, none⟩ = some (.int .i64 (f k))) := by
  refine ⟨_, rfl, past_two (Below.refl _ _), fun W h => ?_, fun W h => ?_, fun W h k hk => ?_⟩
  · have := (Two.made (w.alloc (.cells A 160)) (.int .i64 n) (.slice (some a) len cap) 36).kept h
    have e : (w.alloc (.cells A 160)).heap.size = w.heap.size + 1 := by simp
    rw [e] at this
    exact ⟨this.facts.1, this.facts.2.1⟩
  · exact ((Crow.made w hA.1).alloc _).kept h
  · exact (((Crow.made w hA.1).alloc _).kept h).cell hA hk

theorem miat_len {n : Nat} {l : List Int} {a : Addr} {cap len : Nat} {w : World} (hn : n ≤ 10) (hl : l.length = (n + 1) * (n + 1)) (h : Rd w a l) (hlen : len = l.length) :
    ∀ (i j : Nat) (W : World), i ≤ n → j ≤ n → Below w.heap.size w W → Calls Tryz.prog 177 #[.agg #[.int .i64 n, .slice (some a) len cap], .int .i64 i, .int .i64 j] W (Made (.int .i64 (Zo.At n l i j)) W) := by
  intro i j W hi hj h'
  have := miat_any n i j l a cap W hn hi hj hl (h.on h')
  rw [← hlen] at this; exact this

theorem plain_len {n : Nat} {l : List Int} {a : Addr} {cap len : Nat} {w : World} (hn : n ≤ 10) (hl : l.length = (n + 1) * (n + 1)) (h : Rd w a l) (hlen : len = l.length) :
    ∀ (i j : Nat) (W : World), i ≤ n → j ≤ n → Below w.heap.size w W → Calls Tryz.prog 192 #[.agg #[.int .i64 n, .slice (some a) len cap], .int .i64 i, .int .i64 j] W (Made (.bool (plB n l i j)) W) := by
  intro i j W hi hj h'
  have := plain_any n i j l a cap W hn hi hj hl (h.on h')
  rw [← hlen] at this; exact this

theorem issum_len {n : Nat} {l : List Int} {a : Addr} {cap len : Nat} {w : World} (hn : n ≤ 10) (hl : l.length = (n + 1) * (n + 1)) (hv : ∀ i j, i ≤ n → j ≤ n → I64 (Zo.At n l i j)) (h : Rd w a l) (hlen : len = l.length) :
    ∀ (i k j : Nat) (W : World), i ≤ n → k ≤ n → j ≤ n → Below w.heap.size w W → Calls Tryz.prog 193 #[.agg #[.int .i64 n, .slice (some a) len cap], .int .i64 i, .int .i64 k, .int .i64 j] W (Made (.bool (suB (Zo.At n l i k) (Zo.At n l k j) (Zo.At n l i j))) W) := by
  intro i k j W hi hk hj h'
  have := issum_any n i k j l a cap W hn hi hk hj hl hv (h.on h')
  rw [← hlen] at this; exact this

set_option maxHeartbeats 3200000 in
theorem within_any (n i j : Nat) (l : List Int) (a : Addr) (cap : Nat) (A : Array Value) (f : Nat → Nat) (w : World) (hn : n ≤ 10) (hi : i ≤ n) (hj : j ≤ n) (hl : l.length = (n + 1) * (n + 1)) (h : Rd w a l) (hA : Cls A n f) :
    Calls Tryz.prog 179 #[.agg A, .agg #[.int .i64 n, .slice (some a) l.length cap], .int .i64 i, .int .i64 j] w (Made (.bool (kwB n l f i j)) w) := by
  obtain ⟨len, hlen⟩ : ∃ len, len = l.length := ⟨_, rfl⟩
  have PL := Lib.hid (plain_len (cap := cap) hn hl h hlen)
  have NX := Lib.hid (fun W => next_any n i A f W hn hi hA)
  rw [← hlen]
  obtain ⟨w0, hw0, e0, ks, kr, kc⟩ := czbox n a len cap A f hA w
  have KS := Lib.hid ks
  have KR := Lib.hid kr
  have E0 := Lib.hid e0
  have HW0 := Lib.hid hw0
  have HK := Lib.hid (show kwB n l f i j = (decide (j = nxN n f i) && !plB n l i j) from rfl)
  obtain ⟨b0, b1⟩ := ks w0 (Below.refl _ _)
  generalize nxN n f i = x at *
  have KR0 := Lib.hid (show Crow ((w.alloc (.cells A 160)).alloc (.cells #[.int .i64 n, .slice (some a) len cap] 36)) w.heap.size A by rw [← hw0]; exact kr _ (Below.refl _ _))
  have B0 := Lib.hid (Below.refl w0.heap.size w0)
  clear ks kr kc e0 hw0 hlen hl h hA
  by_cases hx : j = x
  · have D : ((j : Int) == (x : Int)) = true := by simp; omega
    have HF0 := Lib.hid (show kwB n l f i j = !plB n l i j by rw [HK.out, decide_eq_true hx]; rfl)
    clear hx
    cases hp : plB n l i j
    · have HP := Lib.hid hp
      have HF := Lib.hid (show kwB n l f i j = true by rw [HF0.out, hp]; rfl)
      clear hp
      go_enter Tryz.func179, Tryz.ntmps179
      go_wp2_with (refine wplc_load rfl _ rfl _ rfl _ KR0.out ?_)
      rw [← HW0.out]
      refine (NX.out _).mono ?_
      rintro e w1 ⟨rfl, hb1⟩
      have B1 := Lib.hid hb1
      clear hb1 b0 b1
      obtain ⟨b0, b1⟩ := KS.out _ B1.out
      go_wp2_with fail
      refine (made_as (PL.out i j _ hi hj (below_on E0.out B1.out)) HP.out).mono ?_
      rintro e w2 ⟨rfl, hb2⟩
      have B2 := Lib.hid (below_on B1.out hb2)
      clear hb2 b0 b1
      go_wp2_with fail
      go_ret
      exact ⟨ret_bool HF.out.symm, below_on E0.out B2.out⟩
    · have HP := Lib.hid hp
      have HF := Lib.hid (show kwB n l f i j = false by rw [HF0.out, hp]; rfl)
      clear hp
      go_enter Tryz.func179, Tryz.ntmps179
      go_wp2_with (refine wplc_load rfl _ rfl _ rfl _ KR0.out ?_)
      rw [← HW0.out]
      refine (NX.out _).mono ?_
      rintro e w1 ⟨rfl, hb1⟩
      have B1 := Lib.hid hb1
      clear hb1 b0 b1
      obtain ⟨b0, b1⟩ := KS.out _ B1.out
      go_wp2_with fail
      refine (made_as (PL.out i j _ hi hj (below_on E0.out B1.out)) HP.out).mono ?_
      rintro e w2 ⟨rfl, hb2⟩
      have B2 := Lib.hid (below_on B1.out hb2)
      clear hb2 b0 b1
      go_wp2_with fail
      go_ret
      exact ⟨ret_bool HF.out.symm, below_on E0.out B2.out⟩
  · have D : ((j : Int) == (x : Int)) = false := by simp; omega
    have HF := Lib.hid (show kwB n l f i j = false by rw [HK.out, decide_eq_false hx]; rfl)
    clear hx
    go_enter Tryz.func179, Tryz.ntmps179
    go_wp2_with (refine wplc_load rfl _ rfl _ rfl _ KR0.out ?_)
    rw [← HW0.out]
    refine (NX.out _).mono ?_
    rintro e w1 ⟨rfl, hb1⟩
    have B1 := Lib.hid hb1
    clear hb1 b0 b1
    go_wp2_with fail
    go_ret
    exact ⟨ret_bool HF.out.symm, below_on E0.out B1.out⟩
end Go.Proofs.YtaegiihkgicdnaaGreat
