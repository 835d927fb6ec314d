/- The contract of layer 4's reference: Reduce; lists of constraints that a call has made.; Contracts of layer 4's classes: next.; Contracts of layer 4's keepsWithin, keepsBetween, keeps.; Contracts of layer 4's keepsBetween, keeps.; The contract of layer 4's keeps.; Plain mathematics: what is closed, tightened and closed again is what is tightened and closed once. -/
import Derived.Test.YtbnebinpemejlaaG5
import Derived.Test.YtbnebinpemejlaaG10
import Derived.Test.YtbnebinpemejlaaG8

namespace Go.Proofs.Ytbnebinpemejlaa
open Go.RowKit

/-- The cells of constraints. -/
def conV (cs : List Con) : List Value := cs.flatMap fun c => [.int .i64 c.1, .int .i64 c.2.1, .int .i64 c.2.2]

theorem conV_len (cs : List Con) : (conV cs).length = cs.length * 3 := by
  unfold conV; rw [List.length_flatMap]
  induction cs with
  | nil => rfl
  | cons c cs ih => simp only [List.map_cons, List.sum_cons, List.length_cons] at ih ⊢; rw [ih]; simp; omega

theorem conV_app (cs : List Con) (i j x : Int) : conV (cs ++ [(i, j, x)]) = conV cs ++ [.int .i64 i, .int .i64 j, .int .i64 x] := by unfold conV; rw [List.flatMap_append]; rfl

theorem conV_at (cs : List Con) (k : Nat) (hk : k < cs.length) : (conV cs)[k * 3]? = some (.int .i64 (gc cs k).1) ∧ (conV cs)[k * 3 + 1]? = some (.int .i64 (gc cs k).2.1) ∧ (conV cs)[k * 3 + 2]? = some (.int .i64 (gc cs k).2.2) := by
  induction cs generalizing k with
  | nil => simp at hk
  | cons c cs ih =>
    cases k with
    | zero => exact ⟨rfl, rfl, rfl⟩
    | succ k =>
      have := ih k (by simp at hk; omega)
      have e : conV (c :: cs) = [.int .i64 c.1, .int .i64 c.2.1, .int .i64 c.2.2] ++ conV cs := rfl
      have g : gc (c :: cs) (k + 1) = gc cs k := by simp [gc]
      rw [e, g, show (k + 1) * 3 = k * 3 + 3 by omega]
      refine ⟨?_, ?_, ?_⟩
      · rw [List.getElem?_append_right (by simp)]; exact this.1
      · rw [List.getElem?_append_right (by simp)]; simpa using this.2.1
      · rw [List.getElem?_append_right (by simp)]; simpa using this.2.2

/-- A list of constraints that a call has made. -/
def OwnC (w : World) (B : Nat) (v : Value) (cs : List Con) : Prop := w.ownsRow B 56 3 v cs.length (conV cs)

theorem OwnC.nil (w : World) (B : Nat) : OwnC w B (.slice none 0 0) [] := World.ownsRow_nil w B _ _

theorem OwnC.on {w w' : World} {B : Nat} {v : Value} {cs : List Con} (h : OwnC w B v cs) (hb : Below w.heap.size w w') : OwnC w' B v cs := by
  have hg : w.grownBy w' none := ⟨hb.os, hb.tape, hb.output, hb.size, fun k hk _ => hb.block k hk⟩
  exact World.ownsRow.kept h hg (by cases v.ownBlock <;> simp)

theorem OwnC.arg {w : World} {B : Nat} {v : Value} {cs : List Con} (h : OwnC w B v cs) : ∃ ao cap, v = .slice ao cs.length cap ∧ Arg3 w ao cs := by
  rcases h.2 with ⟨rfl, hn⟩ | ⟨g, cap, cur, rfl, hb, hg, hc, hm, hsz, htake⟩
  · exact ⟨none, 0, by rw [hn], fun hne => absurd (List.eq_nil_of_length_eq_zero hn) hne⟩
  · refine ⟨_, cap, rfl, fun _ => ⟨⟨g, 0, none⟩, rfl, fun j hj => ?_⟩⟩
    have hc := World.ownsRow.cellAt (g := g) (cap := cap) h
    obtain ⟨c0, c1, c2⟩ := conV_at cs j hj
    refine ⟨?_, ?_, ?_⟩
    · rw [addr_add]; exact (hc (j * 3) (by omega)).trans c0
    · rw [addr_add]; exact (hc (j * 3 + 1) (by omega)).trans c1
    · rw [addr_add]; exact (hc (j * 3 + 2) (by omega)).trans c2

theorem OwnC.low {w : World} {B B' : Nat} {v : Value} {cs : List Con} (h : OwnC w B v cs) (hb : B' ≤ B) : OwnC w B' v cs := by
  refine ⟨h.1, ?_⟩
  rcases h.2 with c | ⟨g, cap, cur, h1, h2, h3⟩
  · exact Or.inl c
  · exact Or.inr ⟨g, cap, cur, h1, by omega, h3⟩

/-- What Reduce leaves. -/
def CRes (w : World) (cs : List Con) (er : Int) (e : Ending) (w' : World) : Prop :=
  Below w.heap.size w w' ∧ ∃ v, e = .returned (.tuple #[v, .int .i64 er]) ∧ OwnC w' w.heap.size v cs

theorem cells_three {w w' : World} (x y z : Value) (t : TypeId) (hw : w' = w.alloc (.cells #[x, y, z] t)) : ∀ j u, ([x, y, z] : List Value)[j]? = some u → w'.cell? ((⟨w.heap.size, 0, none⟩ : Addr).add j) = some u := by
  subst hw
  intro j u hu
  rw [addr_add]
  match j, hu with
  | 0, hu => simp at hu; subst hu; go_simp
  | 1, hu => simp at hu; subst hu; go_simp
  | 2, hu => simp at hu; subst hu; go_simp

def redT (n : Nat) (l : List Int) (i t : Nat) : List Con := (List.range t).flatMap fun j => if kpB n l i j then [((i : Int), (j : Int), Zo.At n l i j)] else []

def redS (n : Nat) (l : List Int) (t : Nat) : List Con := (List.range t).flatMap fun i => redT n l i (n + 1)

def redL (n : Nat) (l : List Int) : List Con := redS n l (n + 1)

theorem redT_no {n i t : Nat} {l : List Int} (h : kpB n l i t = false) : redT n l i (t + 1) = redT n l i t := by
  unfold redT; rw [List.range_succ, List.flatMap_append]; simp [h]

theorem redT_yes {n i t : Nat} {l : List Int} (h : kpB n l i t = true) : redT n l i (t + 1) = redT n l i t ++ [((i : Int), (t : Int), Zo.At n l i t)] := by
  unfold redT; rw [List.range_succ, List.flatMap_append]; simp [h]

theorem redS_succ (n : Nat) (l : List Int) (t : Nat) : redS n l (t + 1) = redS n l t ++ redT n l t (n + 1) := by
  unfold redS; rw [List.range_succ, List.flatMap_append]; simp

theorem flat_le {α : Type} (f : Nat → List α) (b : Nat) (hf : ∀ i, (f i).length ≤ b) (t : Nat) : ((List.range t).flatMap f).length ≤ t * b := by
  induction t with
  | zero => simp
  | succ t ih =>
    rw [List.range_succ, List.flatMap_append, List.length_append]
    have := hf t
    simp only [List.flatMap_cons, List.flatMap_nil, List.append_nil]
    rw [Nat.add_mul]; omega

theorem redT_len (n : Nat) (l : List Int) (i t : Nat) : (redT n l i t).length ≤ t := by
  have := flat_le (fun j => if kpB n l i j then [((i : Int), (j : Int), Zo.At n l i j)] else []) 1 (fun j => by split <;> simp) t
  unfold redT; omega

theorem redS_len (n : Nat) (l : List Int) (t : Nat) : (redS n l t).length ≤ t * (n + 1) := flat_le _ _ (fun i => redT_len n l i (n + 1)) t

theorem redL_le {n : Nat} {l : List Int} (hn : n ≤ 10) : (redL n l).length ≤ 121 := by
  have := redS_len n l (n + 1)
  have : (n + 1) * (n + 1) ≤ 11 * 11 := Nat.mul_le_mul (by omega) (by omega)
  unfold redL; omega

theorem con_info : (Try.prog.info? 56).map (fun i => (i.zero, i.size, i.bytes)) = some (some (.agg #[.int .i64 0, .int .i64 0, .int .i64 0]), 3, 24) := by kernel_rfl

theorem rkept_len {n : Nat} {l : List Int} {a : Addr} {cap len : Nat} {w : World} (hn : n ≤ 10) (hl : l.length = (n + 1) * (n + 1)) (h : Rd w a l) (hlen : len = l.length) :
    ∀ (i j : Nat) (W : World), i ≤ n → j ≤ n → Below w.heap.size w W → Calls Try.prog 112 #[.agg #[.int .i64 n, .slice (some a) len cap], .int .i64 i, .int .i64 j] W (Made (.bool (kpB n l i j)) W) := by
  intro i j W hi hj h'
  have := rkept_any n i j l a cap W hn hi hj hl (h.on h')
  rw [← hlen] at this; exact this

set_option maxHeartbeats 3200000 in
theorem rreduce_any (n : Nat) (l : List Int) (a : Addr) (cap : Nat) (w : World) (hn : n ≤ 10) (hl : l.length = (n + 1) * (n + 1)) (hc : chkE n l = 0) (h : Rd w a l) :
    Calls Try.prog 55 #[.agg #[.int .i64 n, .slice (some a) l.length cap]] w (CRes w (redL n l) 0) := by
  obtain ⟨len, hlen⟩ : ∃ len, len = l.length := ⟨_, rfl⟩
  obtain ⟨i0, hi, hz0, hz1, hz2⟩ := info_parts con_info
  have AT := Lib.hid (mrat_len (cap := cap) hn hl h hlen)
  have KP := Lib.hid (rkept_len (cap := cap) hn hl h hlen)
  have CK := Lib.hid (show ∀ W, Below w.heap.size w W → Calls Try.prog 18 #[.agg #[.int .i64 n, .slice (some a) len cap]] W (Made (.int .i64 0) W) from fun W h' => by have := check_any n l a cap W hn hl (h.on h'); rw [hc, ← hlen] at this; exact this)
  rw [← hlen]
  obtain ⟨w0, hw0, e0, ks⟩ := zbox n a len cap w
  have KS := Lib.hid ks
  have E0 := Lib.hid e0
  have HW0 := Lib.hid hw0
  obtain ⟨b0, b1⟩ := ks w0 (Below.refl _ _)
  have RL := Lib.hid (show redS n l (n + 1) = redL n l from rfl)
  clear ks e0 hw0 hlen hl h hc
  go_enter Try.func55, Try.ntmps55
  go_wp2_with fail
  rw [← HW0.out]
  go_wp2_with fail
  refine (CK.out _ E0.out).mono ?_
  rintro e w1 ⟨rfl, hb1⟩
  have B1 := Lib.hid hb1
  have BH := Lib.hid (show Below w.heap.size w w1 from below_on E0.out hb1)
  clear hb1 b0 b1
  go_wp2_with fail
  go_loopw [4, 5] (fun v s wr => ∃ (t : Nat) (cs : List Con), t ≤ n + 1 ∧ s = .int .i64 t ∧ Hid (cs = redS n l t ∧ OwnC wr w0.heap.size v cs ∧ Below w0.heap.size w0 wr)) (fun _ s _ => n + 1 - (intOf s).toNat)
  case atStart => exact ⟨0, [], by omega, rfl, Lib.hid ⟨rfl, OwnC.nil _ _, B1.out⟩⟩
  case round =>
    obtain ⟨t, cs, ht, rfl, HX⟩ := hrel
    obtain ⟨b0, b1⟩ := KS.out _ HX.out.2.2
    by_cases htn : t ≤ n
    · go_wp2_with fail
      clear b0 b1
      go_loopw [4, 6] (fun v s wx => ∃ (j : Nat) (ds : List Con), j ≤ n + 1 ∧ s = .int .i64 j ∧ Hid (ds = redS n l t ++ redT n l t j ∧ OwnC wx w0.heap.size v ds ∧ Below w0.heap.size w0 wx)) (fun _ s _ => n + 1 - (intOf s).toNat)
      case atStart => exact ⟨0, cs, by omega, rfl, Lib.hid ⟨by rw [HX.out.1]; simp [redT], HX.out.2.1, HX.out.2.2⟩⟩
      case round =>
        obtain ⟨j, ds, hj, rfl, HY⟩ := hrel
        obtain ⟨b0, b1⟩ := KS.out _ HY.out.2.2
        by_cases hjn : j ≤ n
        · cases hkp : kpB n l t j
          · have HK := Lib.hid hkp
            clear hkp
            go_wp2_with fail
            refine (made_as (KP.out t j _ htn hjn (below_on E0.out HY.out.2.2)) HK.out).mono ?_
            rintro e w2 ⟨rfl, hb2⟩
            have HZ := Lib.hid (show ds = redS n l t ++ redT n l t (j + 1) ∧ OwnC w2 w0.heap.size _ ds ∧ Below w0.heap.size w0 w2 from ⟨by rw [redT_no HK.out]; exact HY.out.1, HY.out.2.1.on hb2, below_on HY.out.2.2 hb2⟩)
            clear hb2 b0 b1
            go_wp2_with fail
            go_roundw
            case rel => exact ⟨j + 1, ds, by omega, by go_num, HZ⟩
            case measure => simp [intOf]; omega
          · have HK := Lib.hid hkp
            obtain ⟨x, hx⟩ : ∃ x, x = Zo.At n l t j := ⟨_, rfl⟩
            have HXX := Lib.hid hx
            have A1 := Lib.hid (show ∀ W, Below w.heap.size w W → Calls Try.prog 113 #[.agg #[.int .i64 n, .slice (some a) len cap], .int .i64 t, .int .i64 j] W (Made (.int .i64 x) W) from fun W h' => by rw [hx]; exact AT.out t j W htn hjn h')
            clear hkp hx
            go_wp2_with fail
            refine (made_as (KP.out t j _ htn hjn (below_on E0.out HY.out.2.2)) HK.out).mono ?_
            rintro e w2 ⟨rfl, hb2⟩
            have B2 := Lib.hid hb2
            clear hb2 b0 b1
            obtain ⟨b0, b1⟩ := KS.out _ (below_on HY.out.2.2 B2.out)
            go_wp2_with fail
            refine (A1.out _ (below_on E0.out (below_on HY.out.2.2 B2.out))).mono ?_
            rintro e w3 ⟨rfl, hb3⟩
            have HZ := Lib.hid (show Below w0.heap.size w0 w3 from below_on (below_on HY.out.2.2 B2.out) hb3)
            have hown := (HY.out.2.1.on B2.out).on hb3
            have hdl : ds.length ≤ 1000 := by
              rw [HY.out.1, List.length_append]
              have := redS_len n l t
              have := redT_len n l t j
              have : t * (n + 1) ≤ 10 * 11 := Nat.mul_le_mul (by omega) (by omega)
              omega
            have hsz : w0.heap.size ≤ w3.heap.size := HZ.out.size
            clear hb3 b0 b1
            go_wp2_with (at_builtin; refine wpList_append_own _ rfl _ _ 35 rfl w0.heap.size 56 i0 (.agg #[.int .i64 0, .int .i64 0, .int .i64 0]) 3 24 Try.underlying35 hi hz0 hz1 hz2 rfl (by decide) _ _ _ rfl (World.ownsRow.alloc hown _) ⟨w3.heap.size, 0, none⟩ 1 1 [.int .i64 t, .int .i64 j, .int .i64 x] rfl rfl (cells_three _ _ _ _ rfl) (by simp [Value.oneCell']) (by unfold maxLen; omega) (by omega) (by simp; omega) ?_)
            intro v' w4 hown4 hgrow _
            have HZ4 := Lib.hid (show Below w0.heap.size w0 w4 from Below.grown (HZ.out.alloc HZ.out.size _) hgrow (by simp; omega) (fun k hk => (World.ownsRow.lt hown k hk).1))
            have HW := Lib.hid (show ds ++ [((t : Int), (j : Int), x)] = redS n l t ++ redT n l t (j + 1) ∧ OwnC w4 w0.heap.size v' (ds ++ [((t : Int), (j : Int), x)]) ∧ Below w0.heap.size w0 w4 from
              ⟨by rw [redT_yes HK.out, HY.out.1, HXX.out, List.append_assoc], by unfold OwnC; rw [conV_app, List.length_append]; exact hown4, HZ4.out⟩)
            clear hown4 hgrow hown hdl hsz
            go_wp2_with fail
            go_roundw
            case rel => exact ⟨j + 1, _, by omega, by go_num, HW⟩
            case measure => simp [intOf]; omega
        · have HE := Lib.hid (show ds = redS n l (t + 1) ∧ OwnC _ w0.heap.size _ ds ∧ Below w0.heap.size w0 _ from ⟨by rw [HY.out.1, redS_succ, show j = n + 1 by omega], HY.out.2⟩)
          go_wp2_with fail
          go_roundw
          case rel => exact ⟨t + 1, ds, by omega, by go_num, HE⟩
          case measure => simp [intOf]; omega
    · have HE := Lib.hid (show cs = redL n l by rw [HX.out.1, ← RL.out, show t = n + 1 by omega])
      go_wp2_with fail
      go_ret2
      exact ⟨below_on E0.out HX.out.2.2, _, rfl, by rw [← HE.out]; exact OwnC.low HX.out.2.1 E0.out.size⟩
end Go.Proofs.Ytbnebinpemejlaa

namespace Go.Proofs.Ytbnebinpemejlaa
open Go.RowKit

/-- The classes as an array: for each clock the first one of its class. -/
def Cls (A : Array Value) (n : Nat) (f : Nat → Nat) : Prop := A.size = 11 ∧ A.all (·.oneCell') = true ∧ ∀ k, k ≤ n → A[k]? = some (.int .i64 (f k)) ∧ f k ≤ n

theorem cls_cell {A : Array Value} {n : Nat} {f : Nat → Nat} (hA : Cls A n f) (w : World) : ∀ W, Below (w.alloc (.cells A 120)).heap.size (w.alloc (.cells A 120)) W → ∀ k, k ≤ n → W.cell? ⟨w.heap.size, k, none⟩ = some (.int .i64 (f k)) := by
  intro W h k hk
  refine kept h ?_
  rw [cell_of_row _ _ k A _ _ (heap_alloc_last w _)]
  exact (hA.2.2 k hk).1

def nxN (n : Nat) (f : Nat → Nat) (i : Nat) : Nat := ((List.range (n + 1)).find? fun k => decide (i < k) && decide (f k = f i)).getD (f i)

theorem nx_found {n i t : Nat} {f : Nat → Nat} (h1 : i < t) (h2 : t ≤ n) (h3 : f t = f i) (h4 : ∀ k, i < k → k < t → f k ≠ f i) : nxN n f i = t := by
  unfold nxN
  have : (List.range (n + 1)).find? (fun k => decide (i < k) && decide (f k = f i)) = some t := by
    rw [List.find?_range_eq_some]
    refine ⟨by simp [h1, h3], by simp; omega, fun j hj => ?_⟩
    by_cases c : i < j
    · simp [h4 j c hj]
    · simp [c]
  rw [this]; rfl

theorem nx_none {n i : Nat} {f : Nat → Nat} (h4 : ∀ k, i < k → k ≤ n → f k ≠ f i) : nxN n f i = f i := by
  unfold nxN
  have : (List.range (n + 1)).find? (fun k => decide (i < k) && decide (f k = f i)) = none := by
    rw [List.find?_range_eq_none]
    intro j hj
    by_cases c : i < j
    · simp [h4 j c (by omega)]
    · simp [c]
  rw [this]; rfl

set_option maxHeartbeats 1600000 in
theorem next_any (n i : Nat) (A : Array Value) (f : Nat → Nat) (w : World) (hn : n ≤ 10) (hi : i ≤ n) (hA : Cls A n f) :
    Calls Try.prog 151 #[.agg A, .int .i64 i, .int .i64 n] w (Made (.int .i64 (nxN n f i)) w) := by
  obtain ⟨w0, hw0⟩ : ∃ w0, w0 = w.alloc (.cells A 120) := ⟨_, rfl⟩
  have CC := Lib.hid (cls_cell hA w)
  have FB := Lib.hid (show ∀ k, k ≤ n → f k ≤ n from fun k hk => (hA.2.2 k hk).2)
  have HA := Lib.hid hA
  have E0 := Lib.hid (show Below w.heap.size w w0 by rw [hw0]; exact one_more _)
  rw [← hw0] at CC
  have HW0 := Lib.hid hw0
  clear hA hw0
  go_enter Try.func151, Try.ntmps151
  go_wp2_with fail
  rw [← HW0.out]
  have hi2 := hi
  go_loopw [7] (fun s wr => ∃ t : Nat, i < t ∧ t ≤ n + 1 ∧ s = .int .i64 t ∧ Hid (∀ k, i < k → k < t → f k ≠ f i) ∧ Hid (Below w0.heap.size w0 wr)) (fun s _ => n + 1 - (intOf s).toNat)
  case atStart => exact ⟨i + 1, by omega, by omega, by go_num, Lib.hid (fun k hk hk2 => by omega), Lib.hid (Below.refl _ _)⟩
  case round =>
    obtain ⟨t, hit, ht, rfl, HT, HB⟩ := hrel
    by_cases htn : t ≤ n
    · have c1 := CC.out _ HB.out t htn
      have c2 := CC.out _ HB.out i hi
      by_cases hf : f t = f i
      · have HF := Lib.hid (nx_found hit htn hf HT.out)
        have D : (((f t : Nat) : Int) == ((f i : Nat) : Int)) = true := by simp [hf]
        clear hf
        generalize f t = x at *
        generalize f i = y at *
        go_wp2_with fail
        go_quiet (fail)
        go_wp2_with fail
        go_ret
        exact ⟨ret_int (by rw [HF.out]), below_on E0.out (below_drewN HB.out _)⟩
      · have HT2 := Lib.hid (show ∀ k, i < k → k < t + 1 → f k ≠ f i from fun k h1 h2 => by
          by_cases e : k = t
          · rw [e]; exact hf
          · exact HT.out k h1 (by omega))
        have D : (((f t : Nat) : Int) == ((f i : Nat) : Int)) = false := by simp; omega
        clear hf
        go_wp2_with fail
        go_quiet (fail)
        go_wp2_with fail
        go_roundw
        case rel => exact ⟨t + 1, by omega, by omega, by go_num, HT2, Lib.hid (below_drewN HB.out _)⟩
        case measure => simp [intOf]; omega
    · have c2 := CC.out _ HB.out i hi
      have HF := Lib.hid (nx_none (n := n) (f := f) (i := i) (fun k h1 h2 => HT.out k h1 (by omega)))
      go_wp2_with fail
      go_ret
      exact ⟨ret_int (by rw [HF.out]), below_on E0.out HB.out⟩
end Go.Proofs.Ytbnebinpemejlaa

namespace Go.Proofs.Ytbnebinpemejlaa
open Go.RowKit

theorem cls_size : (Try.prog.info? 120).map (·.size) = some 11 := by kernel_rfl

/-- Block b holds the classes. -/
def Crow (w : World) (b : Nat) (A : Array Value) : Prop := w.heap[b]? = some (.cells A 120 (0, 0)) ∧ A.size = 11

theorem Crow.lt {w : World} {b : Nat} {cs : Array Value} (h : Crow w b cs) : b < w.heap.size := by
  by_cases e : b < w.heap.size
  · exact e
  · have := h.1; rw [Array.getElem?_eq_none (by omega)] at this; cases this

theorem Crow.kept {w w' : World} {b : Nat} {cs : Array Value} (h : Crow w b cs) (hb : Below w.heap.size w w') : Crow w' b cs := ⟨(hb.block b h.lt).trans h.1, h.2⟩

theorem Crow.made (w : World) {A : Array Value} (h : A.size = 11) : Crow (w.alloc (.cells A 120)) w.heap.size A := ⟨heap_alloc_last w _, h⟩

theorem Crow.alloc {w : World} {b : Nat} {A : Array Value} (h : Crow w b A) (o : Obj) : Crow (w.alloc o) b A := h.kept (one_more o)

theorem Crow.cell {w : World} {b : Nat} {A : Array Value} (h : Crow w b A) {n : Nat} {f : Nat → Nat} (hA : Cls A n f) {k : Nat} (hk : k ≤ n) : w.cell? ⟨b, k, none⟩ = some (.int .i64 (f k)) := by
  rw [cell_of_row _ _ k A _ _ h.1]; exact (hA.2.2 k hk).1

theorem wplc_load {ops : Array Oper} {rest : List Oper} {o : Oper} {a : Act} {w : World} {Q : Exit → Act → World → Prop} (hgd : o.guard = none) (x : Operand) (ho : o.op = .load 120 x)
    (b : Nat) (hx : a.eval x = .pointer (some ⟨b, 0, none⟩)) (cs : Array Value) (hv : Crow w b cs) (h : wpList Try.prog ops Q rest (a.put o.dst (.agg cs)) w) : wpList Try.prog ops Q (o :: rest) a w :=
  wpList_load_row hgd _ x ho b hx _ cs (0, 0) _ hv.1 Try.underlying120 rfl (by rw [hv.2]; exact cls_size) h

def kwB (n : Nat) (l : List Int) (f : Nat → Nat) (i j : Nat) : Bool := decide (j = nxN n f i) && !plB n l i j

def kbX (n : Nat) (l : List Int) (f : Nat → Nat) (i j k : Nat) : Bool := decide (f k = j) && plB n l i k

def kbY (n : Nat) (l : List Int) (f : Nat → Nat) (i j k : Nat) : Bool := decide (f k = k) && !decide (k = i) && !decide (k = j) && suB (Zo.At n l i k) (Zo.At n l k j) (Zo.At n l i j)

def kbB (n : Nat) (l : List Int) (f : Nat → Nat) (i j : Nat) : Bool := decide (f i = i) && decide (f j = j) && (List.range (n + 1)).all fun k => !(kbX n l f i j k || kbY n l f i j k)

theorem kbB_no {n i j k : Nat} {l : List Int} {f : Nat → Nat} (hk : k < n + 1) (h : (kbX n l f i j k || kbY n l f i j k) = true) : kbB n l f i j = false := by
  unfold kbB
  have : ((List.range (n + 1)).all fun k => !(kbX n l f i j k || kbY n l f i j k)) = false := by
    rw [List.all_eq_false]; exact ⟨k, List.mem_range.2 hk, by rw [h]; simp⟩
  rw [this]; simp

theorem kbB_yes {n i j : Nat} {l : List Int} {f : Nat → Nat} (hi : f i = i) (hj : f j = j) (h : ∀ k, k < n + 1 → (kbX n l f i j k || kbY n l f i j k) = false) : kbB n l f i j = true := by
  unfold kbB
  simp only [hi, hj, decide_true, Bool.true_and, List.all_eq_true]
  intro k hk
  rw [h k (List.mem_range.1 hk)]; rfl

def ksB (n : Nat) (l : List Int) (f : Nat → Nat) (i j : Nat) : Bool := !decide (i = j) && !decide (Zo.At n l i j = 1099511627776) && (if f i = f j then kwB n l f i j else kbB n l f i j)

/-- The frame: the classes and a zone, boxed. -/
theorem czbox (n : Nat) (a : Addr) (len cap : Nat) (A : Array Value) (f : Nat → Nat) (hA : Cls A n f) (w : World) : ∃ w0, w0 = (w.alloc (.cells A 120)).alloc (.cells #[.int .i64 n, .slice (some a) len cap] 25) ∧ Below w.heap.size w w0 ∧
    (∀ W : World, Below w0.heap.size w0 W → (W.cell? ⟨w.heap.size + 1, 0, none⟩ = some (.int .i64 n) ∧ W.cell? ⟨w.heap.size + 1, 1, none⟩ = some (.slice (some a) len cap))) ∧
    (∀ W : World, Below w0.heap.size w0 W → Crow W w.heap.size A) ∧ (∀ W : World, Below w0.heap.size w0 W → ∀ k, k ≤ n → W.cell? ⟨w.heap.size, k, none⟩ = some (.int .i64 (f k))) := by
  refine ⟨_, rfl, past_two (Below.refl _ _), fun W h => ?_, fun W h => ?_, fun W h k hk => ?_⟩
  · have := (Two.made (w.alloc (.cells A 120)) (.int .i64 n) (.slice (some a) len cap) 25).kept h
    have e : (w.alloc (.cells A 120)).heap.size = w.heap.size + 1 := by simp
    rw [e] at this
    exact ⟨this.facts.1, this.facts.2.1⟩
  · exact ((Crow.made w hA.1).alloc _).kept h
  · exact (((Crow.made w hA.1).alloc _).kept h).cell hA hk

theorem miat_len {n : Nat} {l : List Int} {a : Addr} {cap len : Nat} {w : World} (hn : n ≤ 10) (hl : l.length = (n + 1) * (n + 1)) (h : Rd w a l) (hlen : len = l.length) :
    ∀ (i j : Nat) (W : World), i ≤ n → j ≤ n → Below w.heap.size w W → Calls Try.prog 132 #[.agg #[.int .i64 n, .slice (some a) len cap], .int .i64 i, .int .i64 j] W (Made (.int .i64 (Zo.At n l i j)) W) := by
  intro i j W hi hj h'
  have := miat_any n i j l a cap W hn hi hj hl (h.on h')
  rw [← hlen] at this; exact this

theorem plain_len {n : Nat} {l : List Int} {a : Addr} {cap len : Nat} {w : World} (hn : n ≤ 10) (hl : l.length = (n + 1) * (n + 1)) (h : Rd w a l) (hlen : len = l.length) :
    ∀ (i j : Nat) (W : World), i ≤ n → j ≤ n → Below w.heap.size w W → Calls Try.prog 152 #[.agg #[.int .i64 n, .slice (some a) len cap], .int .i64 i, .int .i64 j] W (Made (.bool (plB n l i j)) W) := by
  intro i j W hi hj h'
  have := plain_any n i j l a cap W hn hi hj hl (h.on h')
  rw [← hlen] at this; exact this

theorem issum_len {n : Nat} {l : List Int} {a : Addr} {cap len : Nat} {w : World} (hn : n ≤ 10) (hl : l.length = (n + 1) * (n + 1)) (hv : ∀ i j, i ≤ n → j ≤ n → I64 (Zo.At n l i j)) (h : Rd w a l) (hlen : len = l.length) :
    ∀ (i k j : Nat) (W : World), i ≤ n → k ≤ n → j ≤ n → Below w.heap.size w W → Calls Try.prog 153 #[.agg #[.int .i64 n, .slice (some a) len cap], .int .i64 i, .int .i64 k, .int .i64 j] W (Made (.bool (suB (Zo.At n l i k) (Zo.At n l k j) (Zo.At n l i j))) W) := by
  intro i k j W hi hk hj h'
  have := issum_any n i k j l a cap W hn hi hk hj hl hv (h.on h')
  rw [← hlen] at this; exact this

set_option maxHeartbeats 3200000 in
theorem within_any (n i j : Nat) (l : List Int) (a : Addr) (cap : Nat) (A : Array Value) (f : Nat → Nat) (w : World) (hn : n ≤ 10) (hi : i ≤ n) (hj : j ≤ n) (hl : l.length = (n + 1) * (n + 1)) (h : Rd w a l) (hA : Cls A n f) :
    Calls Try.prog 134 #[.agg A, .agg #[.int .i64 n, .slice (some a) l.length cap], .int .i64 i, .int .i64 j] w (Made (.bool (kwB n l f i j)) w) := by
  obtain ⟨len, hlen⟩ : ∃ len, len = l.length := ⟨_, rfl⟩
  have PL := Lib.hid (plain_len (cap := cap) hn hl h hlen)
  have NX := Lib.hid (fun W => next_any n i A f W hn hi hA)
  rw [← hlen]
  obtain ⟨w0, hw0, e0, ks, kr, kc⟩ := czbox n a len cap A f hA w
  have KS := Lib.hid ks
  have KR := Lib.hid kr
  have E0 := Lib.hid e0
  have HW0 := Lib.hid hw0
  have HK := Lib.hid (show kwB n l f i j = (decide (j = nxN n f i) && !plB n l i j) from rfl)
  obtain ⟨b0, b1⟩ := ks w0 (Below.refl _ _)
  generalize nxN n f i = x at *
  have KR0 := Lib.hid (show Crow ((w.alloc (.cells A 120)).alloc (.cells #[.int .i64 n, .slice (some a) len cap] 25)) w.heap.size A by rw [← hw0]; exact kr _ (Below.refl _ _))
  have B0 := Lib.hid (Below.refl w0.heap.size w0)
  clear ks kr kc e0 hw0 hlen hl h hA
  by_cases hx : j = x
  · have D : ((j : Int) == (x : Int)) = true := by simp; omega
    have HF0 := Lib.hid (show kwB n l f i j = !plB n l i j by rw [HK.out, decide_eq_true hx]; rfl)
    clear hx
    cases hp : plB n l i j
    · have HP := Lib.hid hp
      have HF := Lib.hid (show kwB n l f i j = true by rw [HF0.out, hp]; rfl)
      clear hp
      go_enter Try.func134, Try.ntmps134
      go_wp2_with (refine wplc_load rfl _ rfl _ rfl _ KR0.out ?_)
      rw [← HW0.out]
      refine (NX.out _).mono ?_
      rintro e w1 ⟨rfl, hb1⟩
      have B1 := Lib.hid hb1
      clear hb1 b0 b1
      obtain ⟨b0, b1⟩ := KS.out _ B1.out
      go_wp2_with fail
      refine (made_as (PL.out i j _ hi hj (below_on E0.out B1.out)) HP.out).mono ?_
      rintro e w2 ⟨rfl, hb2⟩
      have B2 := Lib.hid (below_on B1.out hb2)
      clear hb2 b0 b1
      go_wp2_with fail
      go_ret
      exact ⟨ret_bool HF.out.symm, below_on E0.out B2.out⟩
    · have HP := Lib.hid hp
      have HF := Lib.hid (show kwB n l f i j = false by rw [HF0.out, hp]; rfl)
      clear hp
      go_enter Try.func134, Try.ntmps134
      go_wp2_with (refine wplc_load rfl _ rfl _ rfl _ KR0.out ?_)
      rw [← HW0.out]
      refine (NX.out _).mono ?_
      rintro e w1 ⟨rfl, hb1⟩
      have B1 := Lib.hid hb1
      clear hb1 b0 b1
      obtain ⟨b0, b1⟩ := KS.out _ B1.out
      go_wp2_with fail
      refine (made_as (PL.out i j _ hi hj (below_on E0.out B1.out)) HP.out).mono ?_
      rintro e w2 ⟨rfl, hb2⟩
      have B2 := Lib.hid (below_on B1.out hb2)
      clear hb2 b0 b1
      go_wp2_with fail
      go_ret
      exact ⟨ret_bool HF.out.symm, below_on E0.out B2.out⟩
  · have D : ((j : Int) == (x : Int)) = false := by simp; omega
    have HF := Lib.hid (show kwB n l f i j = false by rw [HK.out, decide_eq_false hx]; rfl)
    clear hx
    go_enter Try.func134, Try.ntmps134
    go_wp2_with (refine wplc_load rfl _ rfl _ rfl _ KR0.out ?_)
    rw [← HW0.out]
    refine (NX.out _).mono ?_
    rintro e w1 ⟨rfl, hb1⟩
    have B1 := Lib.hid hb1
    clear hb1 b0 b1
    go_wp2_with fail
    go_ret
    exact ⟨ret_bool HF.out.symm, below_on E0.out B1.out⟩
end Go.Proofs.Ytbnebinpemejlaa

namespace Go.Proofs.Ytbnebinpemejlaa
open Go.RowKit

set_option maxHeartbeats 6400000 in
theorem between_any (n i j : Nat) (l : List Int) (a : Addr) (cap : Nat) (A : Array Value) (f : Nat → Nat) (w : World) (hn : n ≤ 10) (hi : i ≤ n) (hj : j ≤ n) (hl : l.length = (n + 1) * (n + 1)) (hv : ∀ i j, i ≤ n → j ≤ n → I64 (Zo.At n l i j)) (h : Rd w a l) (hA : Cls A n f) :
    Calls Try.prog 135 #[.agg A, .agg #[.int .i64 n, .slice (some a) l.length cap], .int .i64 i, .int .i64 j] w (Made (.bool (kbB n l f i j)) w) := by
  obtain ⟨len, hlen⟩ : ∃ len, len = l.length := ⟨_, rfl⟩
  have PL := Lib.hid (plain_len (cap := cap) hn hl h hlen)
  have SU := Lib.hid (issum_len (cap := cap) hn hl hv h hlen)
  rw [← hlen]
  obtain ⟨w0, hw0, e0, ks, kr, kc⟩ := czbox n a len cap A f hA w
  have KS := Lib.hid ks
  have KC := Lib.hid kc
  have E0 := Lib.hid e0
  have HW0 := Lib.hid hw0
  have HK := Lib.hid (show kbB n l f i j = (decide (f i = i) && decide (f j = j) && (List.range (n + 1)).all fun k => !(kbX n l f i j k || kbY n l f i j k)) from rfl)
  have ci := kc w0 (Below.refl _ _) i hi
  have cj := kc w0 (Below.refl _ _) j hj
  obtain ⟨b0, b1⟩ := ks w0 (Below.refl _ _)
  clear ks kr kc e0 hw0 hlen hl h hA hv
  by_cases hfi : f i = i
  case neg =>
    have D : (((f i : Nat) : Int) != (i : Int)) = true := by simp; omega
    have HF := Lib.hid (show kbB n l f i j = false by rw [HK.out, decide_eq_false hfi]; rfl)
    clear hfi cj
    generalize f i = y at ci D
    go_enter Try.func135, Try.ntmps135
    go_upto_region 1 with (fail)
    rw [← HW0.out]
    go_wp2_with fail
    go_ret
    exact ⟨ret_bool HF.out.symm, E0.out⟩
  case pos =>
  by_cases hfj : f j = j
  case neg =>
    have D : (((f i : Nat) : Int) != (i : Int)) = false := by simp; omega
    have D2 : (((f j : Nat) : Int) != (j : Int)) = true := by simp; omega
    have HF := Lib.hid (show kbB n l f i j = false by rw [HK.out, decide_eq_false hfj]; simp)
    clear hfi hfj
    generalize f i = y at ci D
    generalize f j = z at cj D2
    go_enter Try.func135, Try.ntmps135
    go_upto_region 1 with (fail)
    rw [← HW0.out]
    go_wp2_with fail
    go_ret
    exact ⟨ret_bool HF.out.symm, E0.out⟩
  case pos =>
  have HFI := Lib.hid hfi
  have HFJ := Lib.hid hfj
  rw [hfi] at ci
  rw [hfj] at cj
  have D : (((i : Nat) : Int) != (i : Int)) = false := by simp
  have D2 : (((j : Nat) : Int) != (j : Int)) = false := by simp
  clear hfi hfj
  have HX := Lib.hid (show ∀ k, kbX n l f i j k = (decide (f k = j) && plB n l i k) from fun k => rfl)
  have HY := Lib.hid (show ∀ k, kbY n l f i j k = (decide (f k = k) && !decide (k = i) && !decide (k = j) && suB (Zo.At n l i k) (Zo.At n l k j) (Zo.At n l i j)) from fun k => rfl)
  go_enter Try.func135, Try.ntmps135
  go_upto_region 1 with (fail)
  rw [← HW0.out]
  go_wp2_with fail
  clear ci cj b0 b1 D D2
  go_loopw [25] (fun s wr => ∃ t : Nat, t ≤ n + 1 ∧ s = .int .i64 t ∧ Hid (∀ k, k < t → (kbX n l f i j k || kbY n l f i j k) = false) ∧ Hid (Below w0.heap.size w0 wr)) (fun s _ => n + 1 - (intOf s).toNat)
  case atStart => exact ⟨0, by omega, rfl, Lib.hid (fun k hk => by omega), Lib.hid (Below.refl _ _)⟩
  case round =>
    obtain ⟨t, ht, rfl, HT, B0⟩ := hrel
    by_cases htn : t ≤ n
    case pos =>
      obtain ⟨b0, b1⟩ := KS.out _ B0.out
      have ct := KC.out _ B0.out t htn
      have HS := Lib.hid (show (kbX n l f i j t || kbY n l f i j t) = false → ∀ k, k < t + 1 → (kbX n l f i j k || kbY n l f i j k) = false from fun h k hk => by
        by_cases e : k = t
        · rw [e]; exact h
        · exact HT.out k (by omega))
      have HNO := Lib.hid (show (kbX n l f i j t || kbY n l f i j t) = true → kbB n l f i j = false from fun h => kbB_no (by omega) h)
      by_cases hx : f t = j
      · have D : (((f t : Nat) : Int) == (j : Int)) = true := by simp; omega
        have HFT := Lib.hid hx
        cases hp : plB n l i t
        · have HP := Lib.hid hp
          have HA := Lib.hid (show kbX n l f i j t = false by rw [HX.out, hp]; simp)
          clear hx hp
          generalize hft : f t = y at ct D
          have HFY := Lib.hid hft
          clear hft
          go_wp2_with fail
          refine (made_as (PL.out i t _ hi htn (below_on E0.out B0.out)) HP.out).mono ?_
          rintro e w1 ⟨rfl, hb1⟩
          have B1 := Lib.hid (below_on B0.out hb1)
          clear hb1 b0 b1 ct
          obtain ⟨b0, b1⟩ := KS.out _ B1.out
          have ct := KC.out _ B1.out t htn
          clear D
          by_cases h1 : f t = t
          case neg =>
            have D1 : (((f t : Nat) : Int) == (t : Int)) = false := by simp; omega
            have HC := Lib.hid (HS.out (by rw [HA.out, HY.out, decide_eq_false h1]; rfl))
            clear h1
            go_wp2_with fail
            go_roundw
            case rel => exact ⟨t + 1, by omega, by go_num, HC, B1⟩
            case measure => simp [intOf]; omega
          case pos =>
            have D1 : (((f t : Nat) : Int) == (t : Int)) = true := by simp; omega
            have H1 := Lib.hid h1
            clear h1
            by_cases h2 : t = i
            case pos =>
              have D2 : ((t : Int) != (i : Int)) = false := by simp; omega
              have HC := Lib.hid (HS.out (by rw [HA.out, HY.out, decide_eq_true h2]; simp))
              clear h2
              go_wp2_with fail
              go_roundw
              case rel => exact ⟨t + 1, by omega, by go_num, HC, B1⟩
              case measure => simp [intOf]; omega
            case neg =>
              have D2 : ((t : Int) != (i : Int)) = true := by simp; omega
              have H2 := Lib.hid h2
              clear h2
              by_cases h3 : t = j
              case pos =>
                have D3 : ((t : Int) != (j : Int)) = false := by simp; omega
                have HC := Lib.hid (HS.out (by rw [HA.out, HY.out, decide_eq_true h3]; simp))
                clear h3
                go_wp2_with fail
                go_roundw
                case rel => exact ⟨t + 1, by omega, by go_num, HC, B1⟩
                case measure => simp [intOf]; omega
              case neg =>
                have D3 : ((t : Int) != (j : Int)) = true := by simp; omega
                have HY2 := Lib.hid (show kbY n l f i j t = suB (Zo.At n l i t) (Zo.At n l t j) (Zo.At n l i j) by rw [HY.out, decide_eq_true H1.out, decide_eq_false H2.out, decide_eq_false h3]; rfl)
                clear h3
                have SU2 := Lib.hid (fun W h' => SU.out i t j W hi htn hj h')
                generalize suB (Zo.At n l i t) (Zo.At n l t j) (Zo.At n l i j) = sb at *
                cases sb
                · have HC := Lib.hid (HS.out (by rw [HA.out, HY2.out]; rfl))
                  go_wp2_with fail
                  refine (SU2.out _ (below_on E0.out B1.out)).mono ?_
                  rintro e w2 ⟨rfl, hb2⟩
                  have B2 := Lib.hid (below_on B1.out hb2)
                  clear hb2 b0 b1 ct
                  go_wp2_with fail
                  go_roundw
                  case rel => exact ⟨t + 1, by omega, by go_num, HC, B2⟩
                  case measure => simp [intOf]; omega
                · have HC := Lib.hid (HNO.out (by rw [HA.out, HY2.out]; rfl))
                  go_wp2_with fail
                  refine (SU2.out _ (below_on E0.out B1.out)).mono ?_
                  rintro e w2 ⟨rfl, hb2⟩
                  have B2 := Lib.hid (below_on B1.out hb2)
                  clear hb2 b0 b1 ct
                  go_wp2_with fail
                  go_ret
                  exact ⟨ret_bool HC.out.symm, below_on E0.out B2.out⟩
        · have HP := Lib.hid hp
          have HF := Lib.hid (HNO.out (by rw [HX.out, hp, decide_eq_true hx]; rfl))
          clear hx hp
          generalize hft : f t = y at ct D
          have HFY := Lib.hid hft
          clear hft
          go_wp2_with fail
          refine (made_as (PL.out i t _ hi htn (below_on E0.out B0.out)) HP.out).mono ?_
          rintro e w1 ⟨rfl, hb1⟩
          have B1 := Lib.hid (below_on B0.out hb1)
          clear hb1 b0 b1 ct
          obtain ⟨b0, b1⟩ := KS.out _ B1.out
          have ct := KC.out _ B1.out t htn
          clear D
          go_wp2_with fail
          go_ret
          exact ⟨ret_bool HF.out.symm, below_on E0.out B1.out⟩
      · have D : (((f t : Nat) : Int) == (j : Int)) = false := by simp; omega
        have HA := Lib.hid (show kbX n l f i j t = false by rw [HX.out, decide_eq_false hx]; rfl)
        clear hx
        by_cases h1 : f t = t
        case neg =>
          have D1 : (((f t : Nat) : Int) == (t : Int)) = false := by simp; omega
          have HC := Lib.hid (HS.out (by rw [HA.out, HY.out, decide_eq_false h1]; rfl))
          clear h1
          go_wp2_with fail
          go_roundw
          case rel => exact ⟨t + 1, by omega, by go_num, HC, B0⟩
          case measure => simp [intOf]; omega
        case pos =>
          have D1 : (((f t : Nat) : Int) == (t : Int)) = true := by simp; omega
          have H1 := Lib.hid h1
          clear h1
          by_cases h2 : t = i
          case pos =>
            have D2 : ((t : Int) != (i : Int)) = false := by simp; omega
            have HC := Lib.hid (HS.out (by rw [HA.out, HY.out, decide_eq_true h2]; simp))
            clear h2
            go_wp2_with fail
            go_roundw
            case rel => exact ⟨t + 1, by omega, by go_num, HC, B0⟩
            case measure => simp [intOf]; omega
          case neg =>
            have D2 : ((t : Int) != (i : Int)) = true := by simp; omega
            have H2 := Lib.hid h2
            clear h2
            by_cases h3 : t = j
            case pos =>
              have D3 : ((t : Int) != (j : Int)) = false := by simp; omega
              have HC := Lib.hid (HS.out (by rw [HA.out, HY.out, decide_eq_true h3]; simp))
              clear h3
              go_wp2_with fail
              go_roundw
              case rel => exact ⟨t + 1, by omega, by go_num, HC, B0⟩
              case measure => simp [intOf]; omega
            case neg =>
              have D3 : ((t : Int) != (j : Int)) = true := by simp; omega
              have HY2 := Lib.hid (show kbY n l f i j t = suB (Zo.At n l i t) (Zo.At n l t j) (Zo.At n l i j) by rw [HY.out, decide_eq_true H1.out, decide_eq_false H2.out, decide_eq_false h3]; rfl)
              clear h3
              have SU2 := Lib.hid (fun W h' => SU.out i t j W hi htn hj h')
              generalize suB (Zo.At n l i t) (Zo.At n l t j) (Zo.At n l i j) = sb at *
              cases sb
              · have HC := Lib.hid (HS.out (by rw [HA.out, HY2.out]; rfl))
                go_wp2_with fail
                refine (SU2.out _ (below_on E0.out B0.out)).mono ?_
                rintro e w2 ⟨rfl, hb2⟩
                have B2 := Lib.hid (below_on B0.out hb2)
                clear hb2 b0 b1 ct
                go_wp2_with fail
                go_roundw
                case rel => exact ⟨t + 1, by omega, by go_num, HC, B2⟩
                case measure => simp [intOf]; omega
              · have HC := Lib.hid (HNO.out (by rw [HA.out, HY2.out]; rfl))
                go_wp2_with fail
                refine (SU2.out _ (below_on E0.out B0.out)).mono ?_
                rintro e w2 ⟨rfl, hb2⟩
                have B2 := Lib.hid (below_on B0.out hb2)
                clear hb2 b0 b1 ct
                go_wp2_with fail
                go_ret
                exact ⟨ret_bool HC.out.symm, below_on E0.out B2.out⟩
    case neg =>
      have HF := Lib.hid (show kbB n l f i j = true from kbB_yes HFI.out HFJ.out (fun k hk => HT.out k (by omega)))
      go_wp2_with fail
      go_ret
      exact ⟨ret_bool HF.out.symm, below_on E0.out B0.out⟩
end Go.Proofs.Ytbnebinpemejlaa

namespace Go.Proofs.Ytbnebinpemejlaa
open Go.RowKit

set_option maxHeartbeats 6400000 in
theorem keeps_any (n i j : Nat) (l : List Int) (a : Addr) (cap : Nat) (A : Array Value) (f : Nat → Nat) (w : World) (hn : n ≤ 10) (hi : i ≤ n) (hj : j ≤ n) (hl : l.length = (n + 1) * (n + 1)) (hv : ∀ i j, i ≤ n → j ≤ n → I64 (Zo.At n l i j)) (h : Rd w a l) (hA : Cls A n f) :
    Calls Try.prog 111 #[.agg A, .agg #[.int .i64 n, .slice (some a) l.length cap], .int .i64 i, .int .i64 j] w (Made (.bool (ksB n l f i j)) w) := by
  obtain ⟨len, hlen⟩ : ∃ len, len = l.length := ⟨_, rfl⟩
  have AT := Lib.hid (fun W h' => miat_len (cap := cap) hn hl h hlen i j W hi hj h')
  have WI := Lib.hid (show ∀ W, Below w.heap.size w W → Calls Try.prog 134 #[.agg A, .agg #[.int .i64 n, .slice (some a) len cap], .int .i64 i, .int .i64 j] W (Made (.bool (kwB n l f i j)) W) from fun W h' => by have := within_any n i j l a cap A f W hn hi hj hl (h.on h') hA; rw [← hlen] at this; exact this)
  have BE := Lib.hid (show ∀ W, Below w.heap.size w W → Calls Try.prog 135 #[.agg A, .agg #[.int .i64 n, .slice (some a) len cap], .int .i64 i, .int .i64 j] W (Made (.bool (kbB n l f i j)) W) from fun W h' => by have := between_any n i j l a cap A f W hn hi hj hl hv (h.on h') hA; rw [← hlen] at this; exact this)
  rw [← hlen]
  obtain ⟨w0, hw0, e0, ks, kr, kc⟩ := czbox n a len cap A f hA w
  have KS := Lib.hid ks
  have KC := Lib.hid kc
  have KR := Lib.hid kr
  have E0 := Lib.hid e0
  have HW0 := Lib.hid hw0
  have HK := Lib.hid (show ksB n l f i j = (!decide (i = j) && !decide (Zo.At n l i j = 1099511627776) && (if f i = f j then kwB n l f i j else kbB n l f i j)) from rfl)
  obtain ⟨b0, b1⟩ := ks w0 (Below.refl _ _)
  clear ks kr kc e0 hw0 hlen hl h hA hv
  by_cases hij : i = j
  case pos =>
    have D : ((i : Int) == (j : Int)) = true := by simp; omega
    have HF := Lib.hid (show ksB n l f i j = false by rw [HK.out, decide_eq_true hij]; rfl)
    clear hij
    go_enter Try.func111, Try.ntmps111
    go_upto_region 1 with (fail)
    rw [← HW0.out]
    go_wp2_with fail
    go_ret
    exact ⟨ret_bool HF.out.symm, E0.out⟩
  case neg =>
  have D : ((i : Int) == (j : Int)) = false := by simp; omega
  have HIJ := Lib.hid (decide_eq_false hij)
  clear hij
  generalize Zo.At n l i j = x at AT HK
  cases hno : (x == 1099511627776)
  case true =>
    have HF := Lib.hid (show ksB n l f i j = false by rw [HK.out]; simp [show x = 1099511627776 by simpa using hno])
    go_enter Try.func111, Try.ntmps111
    go_upto_region 1 with (fail)
    rw [← HW0.out]
    go_wp2_with fail
    refine (AT.out _ E0.out).mono ?_
    rintro e w1 ⟨rfl, hb1⟩
    have B1 := Lib.hid hb1
    clear hb1 b0 b1
    go_wp2_with fail
    go_ret
    exact ⟨ret_bool HF.out.symm, below_on E0.out B1.out⟩
  case false =>
    have HK2 := Lib.hid (show ksB n l f i j = (if f i = f j then kwB n l f i j else kbB n l f i j) by
      rw [HK.out, HIJ.out]
      have : x ≠ 1099511627776 := by simpa using hno
      simp [this])
    go_enter Try.func111, Try.ntmps111
    go_upto_region 1 with (fail)
    rw [← HW0.out]
    go_wp2_with fail
    refine (AT.out _ E0.out).mono ?_
    rintro e w1 ⟨rfl, hb1⟩
    have B1 := Lib.hid hb1
    clear hb1 b0 b1
    have ci := KC.out _ B1.out i hi
    have cj := KC.out _ B1.out j hj
    by_cases hf : f i = f j
    case pos =>
      have HF := Lib.hid (show kwB n l f i j = ksB n l f i j by rw [HK2.out, if_pos hf])
      have DF : (((f i : Nat) : Int) == ((f j : Nat) : Int)) = true := by simp [hf]
      clear hf
      generalize kwB n l f i j = r at *
      generalize f i = y at *
      generalize f j = z at *
      go_wp2_with fail
      go_quiet (fail)
      clear ci cj
      have B2 := Lib.hid (below_drewN B1.out nq)
      obtain ⟨b0, b1⟩ := KS.out _ B2.out
      go_wp2_with (refine wplc_load rfl _ rfl _ rfl _ (KR.out _ B2.out) ?_)
      refine (WI.out _ (below_on E0.out B2.out)).mono ?_
      rintro e w3 ⟨rfl, hb3⟩
      clear b0 b1
      have B3 := Lib.hid (below_on B2.out hb3)
      clear hb3
      go_wp2_with fail
      go_ret
      exact ⟨ret_bool HF.out, below_on E0.out B3.out⟩
    case neg =>
      have HF := Lib.hid (show kbB n l f i j = ksB n l f i j by rw [HK2.out, if_neg hf])
      have DF : (((f i : Nat) : Int) == ((f j : Nat) : Int)) = false := by simp; omega
      clear hf
      generalize kbB n l f i j = r at *
      generalize f i = y at *
      generalize f j = z at *
      go_wp2_with fail
      go_quiet (fail)
      clear ci cj
      have B2 := Lib.hid (below_drewN B1.out nq)
      obtain ⟨b0, b1⟩ := KS.out _ B2.out
      go_wp2_with (refine wplc_load rfl _ rfl _ rfl _ (KR.out _ B2.out) ?_)
      refine (BE.out _ (below_on E0.out B2.out)).mono ?_
      rintro e w3 ⟨rfl, hb3⟩
      clear b0 b1
      have B3 := Lib.hid (below_on B2.out hb3)
      clear hb3
      go_wp2_with fail
      go_ret
      exact ⟨ret_bool HF.out, below_on E0.out B3.out⟩
end Go.Proofs.Ytbnebinpemejlaa

namespace Go.Proofs.Ytbnebinpemejlaa.Zo

theorem le_dec {a b : Int} (ha : a ≤ 1099511627776) (hb : b ≤ 1099511627776) : le (dec a) (dec b) ↔ a ≤ b := by
  unfold dec
  by_cases h1 : a = 1099511627776
  · by_cases h2 : b = 1099511627776
    · simp [h1, h2, le]
    · rw [if_pos h1, if_neg h2]; simp [le]; omega
  · by_cases h2 : b = 1099511627776
    · rw [if_neg h1, if_pos h2]; simp [le]; omega
    · rw [if_neg h1, if_neg h2]; simp [le]

/-- A closed matrix: it keeps to the inequality of triangles, and its diagonal is 'at most 0'. -/
structure Cl (n : Nat) (c : List Int) (D : Nat → Nat → Lm) : Prop where
  rep : Rep n c D
  tri : Tri (n + 1) D
  bd : Bd D
  dg : ∀ k, k ≤ n → D k k = some 1
  row : ∀ a, a ≤ n → At n c 0 a ≤ 1

theorem Cl.top {n : Nat} {c : List Int} {D : Nat → Nat → Lm} (h : Cl n c D) {a b : Nat} (ha : a ≤ n) (hb : b ≤ n) : At n c a b ≤ 1099511627776 := by
  rw [h.rep.2 a b ha hb]
  cases e : D a b with
  | none => simp [enc]
  | some x => have := h.bd a b x e; simp [enc]; omega

theorem Cl.dec {n : Nat} {c : List Int} {D : Nat → Nat → Lm} (h : Cl n c D) {a b : Nat} (ha : a ≤ n) (hb : b ≤ n) : D a b = dec (At n c a b) := by
  rw [h.rep.2 a b ha hb]
  cases e : D a b with
  | none => simp [enc, Zo.dec]
  | some x =>
    have := h.bd a b x e
    show some x = Zo.dec x
    unfold Zo.dec
    rw [if_neg (by omega)]

theorem Cl.one {n : Nat} {c : List Int} {D : Nat → Nat → Lm} (h : Cl n c D) {a : Nat} (ha : a ≤ n) : At n c a a = 1 := by
  rw [h.rep.2 a a ha ha, h.dg a ha]; rfl

theorem clo_lows {n : Nat} {l : List Int} (hl : l.length = (n + 1) * (n + 1)) : ∀ a, a ≤ n → At n (clo n l) a a ≤ 1 ∧ At n (clo n l) 0 a ≤ 1 := by
  intro a ha
  have h := pre_low hl a ha
  have b1 := clo_below hl (k := 0) (i := 0) (by omega) (by omega) ha ha
  have b2 := clo_below hl (k := 0) (i := 0) (by omega) (by omega) (show 0 ≤ n by omega) ha
  have e : (List.range 0).foldl (rlxJ n 0) (rnd n l 0) = pre n l := rfl
  rw [e] at b1 b2
  exact ⟨Int.le_trans b1 h.1, Int.le_trans b2 h.2⟩

theorem Cl.of {n : Nat} {l : List Int} (hn : n ≤ 10) (hl : l.length = (n + 1) * (n + 1)) (hv : ∀ a b, a ≤ n → b ≤ n → Wl (At n l a b)) (hd : ∀ i, i ≤ n → 1 ≤ At n (clo n l) i i) : Cl n (clo n l) (fw (mat n l) (n + 1)) := by
  obtain ⟨h1, h2, h3, h4⟩ := fw_bd hn hl hv hd
  exact ⟨h1, h2, h3, h4, fun a ha => (clo_lows hl a ha).2⟩

/-- What lies below a matrix and is closed lies below its closing, which has no short cycle. -/
theorem clo_over {n : Nat} {l c : List Int} {C : Nat → Nat → Lm} (hn : n ≤ 10) (hl : l.length = (n + 1) * (n + 1)) (hv : ∀ a b, a ≤ n → b ≤ n → Wl (At n l a b)) (hC : Cl n c C) (h : ∀ a b, a ≤ n → b ≤ n → At n c a b ≤ At n l a b) :
    (∀ i, i ≤ n → 1 ≤ At n (clo n l) i i) ∧ ∀ a b, a ≤ n → b ≤ n → At n c a b ≤ At n (clo n l) a b := by
  have pv := pre_wl hl hv
  have hp : ∀ a b, a ≤ n → b ≤ n → At n c a b ≤ At n (pre n l) a b := by
    intro a b ha hb
    rw [pre_at hl ha hb]
    have := h a b ha hb
    by_cases e : a = 0 ∨ a = b
    · rw [if_pos e]
      have h1 : At n c a b ≤ 1 := by
        rcases e with rfl | rfl
        · exact hC.row b hb
        · rw [hC.one ha]; omega
      omega
    · rw [if_neg e]; exact this
  have hle : ∀ a b, le (C a b) (mat n l a b) := by
    intro a b
    unfold mat
    by_cases e : a ≤ n ∧ b ≤ n
    · rw [if_pos e, hC.dec e.1 e.2, le_dec (hC.top e.1 e.2) (by have := pv a b e.1 e.2; unfold Wl at this; omega)]
      exact hp a b e.1 e.2
    · rw [if_neg e]; exact le_none _
  have below := below_fw hC.tri hle
  have hm : ∀ i j x, mat n l i j = some x → x ≤ 4294967297 ∧ -4294967297 + 1 ≤ x := by
    intro i j x h
    unfold mat at h
    split at h
    · rename_i c
      have := pv i j c.1 c.2
      unfold Zo.dec at h
      unfold Wl at this
      split at h
      · simp at h
      · simp at h; omega
    · simp at h
  have dg : ∀ t, t ≤ n + 1 → ∀ k, k ≤ n → fw (mat n l) t k k = some 1 := by
    intro t ht k hk
    have h1 := below t ht k k
    rw [hC.dg k hk] at h1
    have h2 := fw_le_m (mat n l) t k k
    have h3 : le (mat n l k k) (some 1) := by
      unfold mat
      rw [if_pos ⟨hk, hk⟩, show (some (1 : Int) : Lm) = Zo.dec 1 from rfl, le_dec (by have := pv k k hk hk; unfold Wl at this; omega) (by omega)]
      exact (pre_low hl k hk).1
    exact le_antisymm (le_trans h2 h3) h1
  have rep : ∀ t, t ≤ n + 1 → Rep n (rnd n l t) (fw (mat n l) t) := by
    intro t
    induction t with
    | zero =>
      intro _
      refine ⟨rnd_length hl 0 (by omega), fun a b ha hb => ?_⟩
      show At n (pre n l) a b = enc (mat n l a b)
      unfold mat
      rw [if_pos ⟨ha, hb⟩, enc_dec]
    | succ t ih =>
      intro ht
      have hr := ih (by omega)
      have hdg : ∀ k, k < t → fw (mat n l) k k k = some 1 := fun k hk => dg k (by omega) k (by omega)
      have hB : Bd (fw (mat n l) t) := by
        intro i j x h
        constructor
        · have := fw_low (c := 4294967297) (by omega) (fun i j x h => (hm i j x h).2) t i j x h
          have p : (2 : Int) ^ t ≤ 2 ^ 11 := by
            have : (2 : Nat) ^ t ≤ 2 ^ 11 := Nat.pow_le_pow_right (by omega) (by omega)
            exact_mod_cast this
          omega
        · obtain ⟨S, _, hx⟩ := fw_bound (U := 4294967297) (fun i j x h => (hm i j x h).1) t hdg i j x h
          have := cnt_le S t
          omega
      rw [rnd_succ]
      exact round_rep hB (dg t (by omega) t (by omega)) (by omega) hr
  have hr := rep (n + 1) (Nat.le_refl _)
  have hd : ∀ i, i ≤ n → 1 ≤ At n (clo n l) i i := by
    intro i hi
    rw [show clo n l = rnd n l (n + 1) from rfl, hr.2 i i hi hi, dg (n + 1) (Nat.le_refl _) i hi]
    simp [enc]
  refine ⟨hd, fun a b ha hb => ?_⟩
  have hc2 := Cl.of hn hl hv hd
  have h1 := below (n + 1) (Nat.le_refl _) a b
  rw [hC.dec ha hb, hc2.dec ha hb, le_dec (hC.top ha hb) (hc2.top ha hb)] at h1
  exact h1

/-- One matrix is below another one. -/
def Le (n : Nat) (c l : List Int) : Prop := ∀ a b, a ≤ n → b ≤ n → At n c a b ≤ At n l a b

theorem Le.trans {n : Nat} {a b c : List Int} (h : Le n a b) (g : Le n b c) : Le n a c := fun i j hi hj => Int.le_trans (h i j hi hj) (g i j hi hj)

theorem Le.anti {n : Nat} {x y : List Int} (hx : x.length = (n + 1) * (n + 1)) (hy : y.length = (n + 1) * (n + 1)) (h : Le n x y) (g : Le n y x) : x = y :=
  At_ext hx hy fun a b ha hb => Int.le_antisymm (h a b ha hb) (g a b ha hb)

theorem le_clo {n : Nat} {l : List Int} (hl : l.length = (n + 1) * (n + 1)) : Le n (clo n l) l := by
  intro a b ha hb
  have b1 := clo_below hl (k := 0) (i := 0) (by omega) (by omega) ha hb
  have e : (List.range 0).foldl (rlxJ n 0) (rnd n l 0) = pre n l := rfl
  rw [e, pre_at hl ha hb] at b1
  split at b1 <;> omega

/-- Closed, tightened and closed again: the same as tightened and closed. T: what tightens. -/
theorem clo_twice {n : Nat} {x : List Int} {T : List Int → List Int} (hn : n ≤ 10) (hx : x.length = (n + 1) * (n + 1)) (hvx : ∀ a b, a ≤ n → b ≤ n → Wl (At n x a b)) (hTl : ∀ u : List Int, (T u).length = u.length)
    (hTle : ∀ u : List Int, u.length = (n + 1) * (n + 1) → Le n (T u) u) (hT : ∀ u v c : List Int, u.length = (n + 1) * (n + 1) → v.length = (n + 1) * (n + 1) → Le n c u → Le n c (T v) → Le n c (T u))
    (hv1 : ∀ a b, a ≤ n → b ≤ n → Wl (At n (T x) a b)) (hv2 : ∀ a b, a ≤ n → b ≤ n → Wl (At n (T (clo n x)) a b)) :
    ((∀ i, i ≤ n → 1 ≤ At n (clo n (T x)) i i) ↔ ∀ i, i ≤ n → 1 ≤ At n (clo n (T (clo n x))) i i) ∧ ((∀ i, i ≤ n → 1 ≤ At n (clo n (T x)) i i) → clo n (T x) = clo n (T (clo n x))) := by
  have lx : (clo n x).length = (n + 1) * (n + 1) := by rw [clo_length, hx]
  have l1 : (T x).length = (n + 1) * (n + 1) := by rw [hTl, hx]
  have l2 : (T (clo n x)).length = (n + 1) * (n + 1) := by rw [hTl, lx]
  -- from the tightened one to the one that was closed first
  have A : (∀ i, i ≤ n → 1 ≤ At n (clo n (T x)) i i) → (∀ i, i ≤ n → 1 ≤ At n (clo n (T (clo n x))) i i) ∧ Le n (clo n (T x)) (clo n (T (clo n x))) := by
    intro hd
    have c := Cl.of hn l1 hv1 hd
    have g1 : Le n (clo n (T x)) x := (le_clo l1).trans (hTle x hx)
    have g2 : Le n (clo n (T x)) (clo n x) := (clo_over hn hx hvx c g1).2
    exact clo_over hn l2 hv2 c (hT _ x _ lx hx g2 (le_clo l1))
  have B : (∀ i, i ≤ n → 1 ≤ At n (clo n (T (clo n x))) i i) → (∀ i, i ≤ n → 1 ≤ At n (clo n (T x)) i i) ∧ Le n (clo n (T (clo n x))) (clo n (T x)) := by
    intro hd
    have c := Cl.of hn l2 hv2 hd
    have g1 : Le n (clo n (T (clo n x))) x := ((le_clo l2).trans (hTle _ lx)).trans (le_clo hx)
    exact clo_over hn l1 hv1 c (hT x _ _ hx lx g1 (le_clo l2))
  refine ⟨⟨fun h => (A h).1, fun h => (B h).1⟩, fun h => ?_⟩
  obtain ⟨h1, h2⟩ := A h
  exact Le.anti (by rw [clo_length, l1]) (by rw [clo_length, l2]) h2 (B h1).2
end Go.Proofs.Ytbnebinpemejlaa.Zo
