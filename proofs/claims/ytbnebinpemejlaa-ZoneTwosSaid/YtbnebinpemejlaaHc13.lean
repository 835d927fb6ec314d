/- The contract of layer 4's reference: Reduce; lists of constraints that a call has made.; Arguments opened: a zone, constraints.; What the walks of the laws of layer 3 have in common.; ZoneCloses, for whatever arguments. -/
import Derived.Test.YtbnebinpemejlaaHc12
import Derived.Test.YtbnebinpemejlaaHc7
import Derived.Test.YtbnebinpemejlaaHc11
import Derived.Test.YtbnebinpemejlaaHc9

namespace Go.Proofs.Ytbnebinpemejlaa
open Go.RowKit

/-- The cells of constraints. -/
def conV (cs : List Con) : List Value := cs.flatMap fun c => [.int .i64 c.1, .int .i64 c.2.1, .int .i64 c.2.2]

theorem conV_len (cs : List Con) : (conV cs).length = cs.length * 3 := by
  unfold conV; rw [List.length_flatMap]
  induction cs with
  | nil => rfl
  | cons c cs ih => simp only [List.map_cons, List.sum_cons, List.length_cons] at ih ⊢; rw [ih]; simp; omega

theorem conV_app (cs : List Con) (i j x : Int) : conV (cs ++ [(i, j, x)]) = conV cs ++ [.int .i64 i, .int .i64 j, .int .i64 x] := by unfold conV; rw [List.flatMap_append]; rfl

theorem conV_at (cs : List Con) (k : Nat) (hk : k < cs.length) : (conV cs)[k * 3]? = some (.int .i64 (gc cs k).1) ∧ (conV cs)[k * 3 + 1]? = some (.int .i64 (gc cs k).2.1) ∧ (conV cs)[k * 3 + 2]? = some (.int .i64 (gc cs k).2.2) := by
  induction cs generalizing k with
  | nil => simp at hk
  | cons c cs ih =>
    cases k with
    | zero => exact ⟨rfl, rfl, rfl⟩
    | succ k =>
      have := ih k (by simp at hk; omega)
      have e : conV (c :: cs) = [.int .i64 c.1, .int .i64 c.2.1, .int .i64 c.2.2] ++ conV cs := rfl
      have g : gc (c :: cs) (k + 1) = gc cs k := by simp [gc]
      rw [e, g, show (k + 1) * 3 = k * 3 + 3 by omega]
      refine ⟨?_, ?_, ?_⟩
      · rw [List.getElem?_append_right (by simp)]; exact this.1
      · rw [List.getElem?_append_right (by simp)]; simpa using this.2.1
      · rw [List.getElem?_append_right (by simp)]; simpa using this.2.2

/-- A list of constraints that a call has made. -/
def OwnC (w : World) (B : Nat) (v : Value) (cs : List Con) : Prop := w.ownsRow B 56 3 v cs.length (conV cs)

theorem OwnC.nil (w : World) (B : Nat) : OwnC w B (.slice none 0 0) [] := World.ownsRow_nil w B _ _

theorem OwnC.on {w w' : World} {B : Nat} {v : Value} {cs : List Con} (h : OwnC w B v cs) (hb : Below w.heap.size w w') : OwnC w' B v cs := by
  have hg : w.grownBy w' none := ⟨hb.os, hb.tape, hb.output, hb.size, fun k hk _ => hb.block k hk⟩
  exact World.ownsRow.kept h hg (by cases v.ownBlock <;> simp)

theorem OwnC.arg {w : World} {B : Nat} {v : Value} {cs : List Con} (h : OwnC w B v cs) : ∃ ao cap, v = .slice ao cs.length cap ∧ Arg3 w ao cs := by
  rcases h.2 with ⟨rfl, hn⟩ | ⟨g, cap, cur, rfl, hb, hg, hc, hm, hsz, htake⟩
  · exact ⟨none, 0, by rw [hn], fun hne => absurd (List.eq_nil_of_length_eq_zero hn) hne⟩
  · refine ⟨_, cap, rfl, fun _ => ⟨⟨g, 0, none⟩, rfl, fun j hj => ?_⟩⟩
    have hc := World.ownsRow.cellAt (g := g) (cap := cap) h
    obtain ⟨c0, c1, c2⟩ := conV_at cs j hj
    refine ⟨?_, ?_, ?_⟩
    · rw [addr_add]; exact (hc (j * 3) (by omega)).trans c0
    · rw [addr_add]; exact (hc (j * 3 + 1) (by omega)).trans c1
    · rw [addr_add]; exact (hc (j * 3 + 2) (by omega)).trans c2

theorem OwnC.low {w : World} {B B' : Nat} {v : Value} {cs : List Con} (h : OwnC w B v cs) (hb : B' ≤ B) : OwnC w B' v cs := by
  refine ⟨h.1, ?_⟩
  rcases h.2 with c | ⟨g, cap, cur, h1, h2, h3⟩
  · exact Or.inl c
  · exact Or.inr ⟨g, cap, cur, h1, by omega, h3⟩

/-- What Reduce leaves. -/
def CRes (w : World) (cs : List Con) (er : Int) (e : Ending) (w' : World) : Prop :=
  Below w.heap.size w w' ∧ ∃ v, e = .returned (.tuple #[v, .int .i64 er]) ∧ OwnC w' w.heap.size v cs

theorem cells_three {w w' : World} (x y z : Value) (t : TypeId) (hw : w' = w.alloc (.cells #[x, y, z] t)) : ∀ j u, ([x, y, z] : List Value)[j]? = some u → w'.cell? ((⟨w.heap.size, 0, none⟩ : Addr).add j) = some u := by
  subst hw
  intro j u hu
  rw [addr_add]
  match j, hu with
  | 0, hu => simp at hu; subst hu; go_simp
  | 1, hu => simp at hu; subst hu; go_simp
  | 2, hu => simp at hu; subst hu; go_simp

def redT (n : Nat) (l : List Int) (i t : Nat) : List Con := (List.range t).flatMap fun j => if kpB n l i j then [((i : Int), (j : Int), Zo.At n l i j)] else []

def redS (n : Nat) (l : List Int) (t : Nat) : List Con := (List.range t).flatMap fun i => redT n l i (n + 1)

def redL (n : Nat) (l : List Int) : List Con := redS n l (n + 1)

theorem redT_no {n i t : Nat} {l : List Int} (h : kpB n l i t = false) : redT n l i (t + 1) = redT n l i t := by
  unfold redT; rw [List.range_succ, List.flatMap_append]; simp [h]

theorem redT_yes {n i t : Nat} {l : List Int} (h : kpB n l i t = true) : redT n l i (t + 1) = redT n l i t ++ [((i : Int), (t : Int), Zo.At n l i t)] := by
  unfold redT; rw [List.range_succ, List.flatMap_append]; simp [h]

theorem redS_succ (n : Nat) (l : List Int) (t : Nat) : redS n l (t + 1) = redS n l t ++ redT n l t (n + 1) := by
  unfold redS; rw [List.range_succ, List.flatMap_append]; simp

theorem flat_le {α : Type} (f : Nat → List α) (b : Nat) (hf : ∀ i, (f i).length ≤ b) (t : Nat) : ((List.range t).flatMap f).length ≤ t * b := by
  induction t with
  | zero => simp
  | succ t ih =>
    rw [List.range_succ, List.flatMap_append, List.length_append]
    have := hf t
    simp only [List.flatMap_cons, List.flatMap_nil, List.append_nil]
    rw [Nat.add_mul]; omega

theorem redT_len (n : Nat) (l : List Int) (i t : Nat) : (redT n l i t).length ≤ t := by
  have := flat_le (fun j => if kpB n l i j then [((i : Int), (j : Int), Zo.At n l i j)] else []) 1 (fun j => by split <;> simp) t
  unfold redT; omega

theorem redS_len (n : Nat) (l : List Int) (t : Nat) : (redS n l t).length ≤ t * (n + 1) := flat_le _ _ (fun i => redT_len n l i (n + 1)) t

theorem redL_le {n : Nat} {l : List Int} (hn : n ≤ 10) : (redL n l).length ≤ 121 := by
  have := redS_len n l (n + 1)
  have : (n + 1) * (n + 1) ≤ 11 * 11 := Nat.mul_le_mul (by omega) (by omega)
  unfold redL; omega

theorem con_info : (Try.prog.info? 56).map (fun i => (i.zero, i.size, i.bytes)) = some (some (.agg #[.int .i64 0, .int .i64 0, .int .i64 0]), 3, 24) := by kernel_rfl

theorem rkept_len {n : Nat} {l : List Int} {a : Addr} {cap len : Nat} {w : World} (hn : n ≤ 10) (hl : l.length = (n + 1) * (n + 1)) (h : Rd w a l) (hlen : len = l.length) :
    ∀ (i j : Nat) (W : World), i ≤ n → j ≤ n → Below w.heap.size w W → Calls Try.prog 112 #[.agg #[.int .i64 n, .slice (some a) len cap], .int .i64 i, .int .i64 j] W (Made (.bool (kpB n l i j)) W) := by
  intro i j W hi hj h'
  have := rkept_any n i j l a cap W hn hi hj hl (h.on h')
  rw [← hlen] at this; exact this

set_option maxHeartbeats 3200000 in
theorem rreduce_any (n : Nat) (l : List Int) (a : Addr) (cap : Nat) (w : World) (hn : n ≤ 10) (hl : l.length = (n + 1) * (n + 1)) (hc : chkE n l = 0) (h : Rd w a l) :
    Calls Try.prog 55 #[.agg #[.int .i64 n, .slice (some a) l.length cap]] w (CRes w (redL n l) 0) := by
  obtain ⟨len, hlen⟩ : ∃ len, len = l.length := ⟨_, rfl⟩
  obtain ⟨i0, hi, hz0, hz1, hz2⟩ := info_parts con_info
  have AT := Lib.hid (mrat_len (cap := cap) hn hl h hlen)
  have KP := Lib.hid (rkept_len (cap := cap) hn hl h hlen)
  have CK := Lib.hid (show ∀ W, Below w.heap.size w W → Calls Try.prog 18 #[.agg #[.int .i64 n, .slice (some a) len cap]] W (Made (.int .i64 0) W) from fun W h' => by have := check_any n l a cap W hn hl (h.on h'); rw [hc, ← hlen] at this; exact this)
  rw [← hlen]
  obtain ⟨w0, hw0, e0, ks⟩ := zbox n a len cap w
  have KS := Lib.hid ks
  have E0 := Lib.hid e0
  have HW0 := Lib.hid hw0
  obtain ⟨b0, b1⟩ := ks w0 (Below.refl _ _)
  have RL := Lib.hid (show redS n l (n + 1) = redL n l from rfl)
  clear ks e0 hw0 hlen hl h hc
  go_enter Try.func55, Try.ntmps55
  go_wp2_with fail
  rw [← HW0.out]
  go_wp2_with fail
  refine (CK.out _ E0.out).mono ?_
  rintro e w1 ⟨rfl, hb1⟩
  have B1 := Lib.hid hb1
  have BH := Lib.hid (show Below w.heap.size w w1 from below_on E0.out hb1)
  clear hb1 b0 b1
  go_wp2_with fail
  go_loopw [4, 5] (fun v s wr => ∃ (t : Nat) (cs : List Con), t ≤ n + 1 ∧ s = .int .i64 t ∧ Hid (cs = redS n l t ∧ OwnC wr w0.heap.size v cs ∧ Below w0.heap.size w0 wr)) (fun _ s _ => n + 1 - (intOf s).toNat)
  case atStart => exact ⟨0, [], by omega, rfl, Lib.hid ⟨rfl, OwnC.nil _ _, B1.out⟩⟩
  case round =>
    obtain ⟨t, cs, ht, rfl, HX⟩ := hrel
    obtain ⟨b0, b1⟩ := KS.out _ HX.out.2.2
    by_cases htn : t ≤ n
    · go_wp2_with fail
      clear b0 b1
      go_loopw [4, 6] (fun v s wx => ∃ (j : Nat) (ds : List Con), j ≤ n + 1 ∧ s = .int .i64 j ∧ Hid (ds = redS n l t ++ redT n l t j ∧ OwnC wx w0.heap.size v ds ∧ Below w0.heap.size w0 wx)) (fun _ s _ => n + 1 - (intOf s).toNat)
      case atStart => exact ⟨0, cs, by omega, rfl, Lib.hid ⟨by rw [HX.out.1]; simp [redT], HX.out.2.1, HX.out.2.2⟩⟩
      case round =>
        obtain ⟨j, ds, hj, rfl, HY⟩ := hrel
        obtain ⟨b0, b1⟩ := KS.out _ HY.out.2.2
        by_cases hjn : j ≤ n
        · cases hkp : kpB n l t j
          · have HK := Lib.hid hkp
            clear hkp
            go_wp2_with fail
            refine (made_as (KP.out t j _ htn hjn (below_on E0.out HY.out.2.2)) HK.out).mono ?_
            rintro e w2 ⟨rfl, hb2⟩
            have HZ := Lib.hid (show ds = redS n l t ++ redT n l t (j + 1) ∧ OwnC w2 w0.heap.size _ ds ∧ Below w0.heap.size w0 w2 from ⟨by rw [redT_no HK.out]; exact HY.out.1, HY.out.2.1.on hb2, below_on HY.out.2.2 hb2⟩)
            clear hb2 b0 b1
            go_wp2_with fail
            go_roundw
            case rel => exact ⟨j + 1, ds, by omega, by go_num, HZ⟩
            case measure => simp [intOf]; omega
          · have HK := Lib.hid hkp
            obtain ⟨x, hx⟩ : ∃ x, x = Zo.At n l t j := ⟨_, rfl⟩
            have HXX := Lib.hid hx
            have A1 := Lib.hid (show ∀ W, Below w.heap.size w W → Calls Try.prog 113 #[.agg #[.int .i64 n, .slice (some a) len cap], .int .i64 t, .int .i64 j] W (Made (.int .i64 x) W) from fun W h' => by rw [hx]; exact AT.out t j W htn hjn h')
            clear hkp hx
            go_wp2_with fail
            refine (made_as (KP.out t j _ htn hjn (below_on E0.out HY.out.2.2)) HK.out).mono ?_
            rintro e w2 ⟨rfl, hb2⟩
            have B2 := Lib.hid hb2
            clear hb2 b0 b1
            obtain ⟨b0, b1⟩ := KS.out _ (below_on HY.out.2.2 B2.out)
            go_wp2_with fail
            refine (A1.out _ (below_on E0.out (below_on HY.out.2.2 B2.out))).mono ?_
            rintro e w3 ⟨rfl, hb3⟩
            have HZ := Lib.hid (show Below w0.heap.size w0 w3 from below_on (below_on HY.out.2.2 B2.out) hb3)
            have hown := (HY.out.2.1.on B2.out).on hb3
            have hdl : ds.length ≤ 1000 := by
              rw [HY.out.1, List.length_append]
              have := redS_len n l t
              have := redT_len n l t j
              have : t * (n + 1) ≤ 10 * 11 := Nat.mul_le_mul (by omega) (by omega)
              omega
            have hsz : w0.heap.size ≤ w3.heap.size := HZ.out.size
            clear hb3 b0 b1
            go_wp2_with (at_builtin; refine wpList_append_own _ rfl _ _ 35 rfl w0.heap.size 56 i0 (.agg #[.int .i64 0, .int .i64 0, .int .i64 0]) 3 24 Try.underlying35 hi hz0 hz1 hz2 rfl (by decide) _ _ _ rfl (World.ownsRow.alloc hown _) ⟨w3.heap.size, 0, none⟩ 1 1 [.int .i64 t, .int .i64 j, .int .i64 x] rfl rfl (cells_three _ _ _ _ rfl) (by simp [Value.oneCell']) (by unfold maxLen; omega) (by omega) (by simp; omega) ?_)
            intro v' w4 hown4 hgrow _
            have HZ4 := Lib.hid (show Below w0.heap.size w0 w4 from Below.grown (HZ.out.alloc HZ.out.size _) hgrow (by simp; omega) (fun k hk => (World.ownsRow.lt hown k hk).1))
            have HW := Lib.hid (show ds ++ [((t : Int), (j : Int), x)] = redS n l t ++ redT n l t (j + 1) ∧ OwnC w4 w0.heap.size v' (ds ++ [((t : Int), (j : Int), x)]) ∧ Below w0.heap.size w0 w4 from
              ⟨by rw [redT_yes HK.out, HY.out.1, HXX.out, List.append_assoc], by unfold OwnC; rw [conV_app, List.length_append]; exact hown4, HZ4.out⟩)
            clear hown4 hgrow hown hdl hsz
            go_wp2_with fail
            go_roundw
            case rel => exact ⟨j + 1, _, by omega, by go_num, HW⟩
            case measure => simp [intOf]; omega
        · have HE := Lib.hid (show ds = redS n l (t + 1) ∧ OwnC _ w0.heap.size _ ds ∧ Below w0.heap.size w0 _ from ⟨by rw [HY.out.1, redS_succ, show j = n + 1 by omega], HY.out.2⟩)
          go_wp2_with fail
          go_roundw
          case rel => exact ⟨t + 1, ds, by omega, by go_num, HE⟩
          case measure => simp [intOf]; omega
    · have HE := Lib.hid (show cs = redL n l by rw [HX.out.1, ← RL.out, show t = n + 1 by omega])
      go_wp2_with fail
      go_ret2
      exact ⟨below_on E0.out HX.out.2.2, _, rfl, by rw [← HE.out]; exact OwnC.low HX.out.2.1 E0.out.size⟩
end Go.Proofs.Ytbnebinpemejlaa

namespace Go.Proofs.Ytbnebinpemejlaa
open Go.ChangeShapes Go.WideShapes Go.ChangeAt Go.RowKit Go.Joins Go.Deep

theorem Try.cells43 : Try.prog.cellsOf 43 = 1 := by kernel_rfl

theorem Try.cells22 : Try.prog.cellsOf 22 = 1 := by kernel_rfl

theorem Try.cells3 : Try.prog.cellsOf 3 = 1 := by kernel_rfl

theorem Try.cells25 : Try.prog.cellsOf 25 = 2 := by kernel_rfl

theorem Try.cells56 : Try.prog.cellsOf 56 = 3 := by kernel_rfl

theorem wf_i64 {n : Int} (h : (Lit.int .i64 n).wf = true) : I64 n := by
  simp [Lit.wf, IntKind.min, IntKind.max, IntKind.signed, IntKind.bits] at h
  exact ⟨by omega, by omega⟩

/-- A slice of limits. -/
theorem open_limits {H : Type} {enc : TypeId × Value → H} {W : World} {base fuel : Nat} {sp : Nat → Bool} {held : Bool} {c : Value} {y : DataW H × List MemPlace}
    (h : DataW.trod enc Try.prog W base sp held fuel 22 [c] = some y) : ∃ (ao : Option Addr) (l : List Int) (cap : Nat), c = .slice ao l.length cap ∧ Arg W ao l ∧ l.length ≤ maxLen := by
  rcases open_ints Try.underlying22 Try.underlying43 Try.cells43 h with ⟨e, _⟩ | ⟨a, len, cap, zs, e, _, hl, hm, hz, _, hc, _⟩
  · simp at e
    exact ⟨none, [], 0, by simpa using e, fun q => absurd rfl q, by simp⟩
  · simp at e
    have hlen : len ≤ zs.length := by rw [hz]; split <;> omega
    refine ⟨some a, zs.take len, cap, by rw [e]; simp [hlen], fun _ => ⟨a, rfl, fun j hj => ?_⟩, by simp; omega⟩
    simp at hj
    rw [hc j (by omega)]
    simp [Zo.gt, show j < len by omega]

set_option maxRecDepth 100000 in
/-- A zone by value. -/
theorem open_zone {H : Type} {enc : TypeId × Value → H} {W : World} {base : Nat} {sp : Nat → Bool} {held : Bool} {r : Reach} {b0 : Nat} {v : Value} {d : DataW H} {p : List MemPlace}
    (hv : Value.okWide Try.prog W r b0 25 v) (h : DataW.Trod enc Try.prog W base sp held 25 v d p) :
    ∃ (N : Int) (ao : Option Addr) (l : List Int) (cap : Nat), v = .agg #[.int .i64 N, .slice ao l.length cap] ∧ I64 N ∧ Arg W ao l ∧ l.length ≤ maxLen := by
  obtain ⟨v0, v1, y0, y1, n, rfl, _, _, h0, h1⟩ := open_agg2 Try.underlying25 (by kernel_rfl) Try.cells25 hv h
  obtain ⟨N, e0, _, w0⟩ := DataW.trod_int Try.underlying3 h0
  simp at e0
  obtain ⟨ao, l, cap, e1, hA, hl⟩ := open_limits h1
  exact ⟨N, ao, l, cap, by rw [e0, e1], wf_i64 w0, hA, hl⟩

set_option maxRecDepth 100000 in
/-- A struct of three integers. -/
theorem trod_con {H : Type} {enc : TypeId × Value → H} {W : World} {base fuel : Nat} {sp : Nat → Bool} {held : Bool} {cs : List Value} {y : DataW H × List MemPlace}
    (h : DataW.trod enc Try.prog W base sp held fuel 56 cs = some y) : ∃ i j x : Int, cs = [.int .i64 i, .int .i64 j, .int .i64 x] ∧ I64 i ∧ I64 j ∧ I64 x := by
  obtain ⟨xs, n, _, _, hl, hx, hf⟩ := DataW.trod_struct Try.underlying56 h
  rw [Try.cells56] at hl
  match cs, hl with
  | [a, b, c], _ =>
    have g0 := hf 0 _ rfl
    have g1 := hf 1 _ rfl
    have g2 := hf 2 _ rfl
    match xs, hx with
    | [y0, y1, y2], _ =>
      simp [Try.cells3, Try.cells43] at g0 g1 g2
      obtain ⟨i, e0, _, w0⟩ := DataW.trod_int Try.underlying3 g0
      obtain ⟨j, e1, _, w1⟩ := DataW.trod_int Try.underlying3 g1
      obtain ⟨x, e2, _, w2⟩ := DataW.trod_int Try.underlying43 g2
      simp at e0 e1 e2
      exact ⟨i, j, x, by rw [e0, e1, e2], wf_i64 w0, wf_i64 w1, wf_i64 w2⟩

theorem add_two (a : Addr) (k j : Nat) (hj : 0 < j) : (a.add k).add j = ⟨(a.add k).block, (a.add k).off + j, none⟩ := by
  generalize a.add k = b
  unfold Addr.add
  rw [if_neg (by omega)]

/-- A slice of constraints. -/
theorem open_cons {H : Type} {enc : TypeId × Value → H} {W : World} {base fuel : Nat} {sp : Nat → Bool} {held : Bool} {c : Value} {y : DataW H × List MemPlace}
    (h : DataW.trod enc Try.prog W base sp held fuel 35 [c] = some y) :
    ∃ (ao : Option Addr) (cs : List Con) (cap : Nat), c = .slice ao cs.length cap ∧ Arg3 W ao cs ∧ cs.length ≤ maxLen ∧ (∀ k, k < cs.length → (I64 (gc cs k).1 ∧ I64 (gc cs k).2.1 ∧ I64 (gc cs k).2.2)) ∧ (ao = none → cs = [] ∧ cap = 0) := by
  rcases open_slice Try.underlying35 h with ⟨e, _⟩ | ⟨a, len, cap, m, n, D, Pl, e, _, hl, hm, hmm, _, hi⟩
  · simp at e
    exact ⟨none, [], 0, by simpa using e, fun q => absurd rfl q, by simp, fun k hk => by simp at hk, fun _ => ⟨rfl, rfl⟩⟩
  · simp at e
    have hlen : len ≤ m := by rw [hmm]; split <;> omega
    have key : ∀ i, i < len → ∃ q : Con, (W.cell? (a.add (i * 3)) = some (.int .i64 q.1) ∧ W.cell? ⟨(a.add (i * 3)).block, (a.add (i * 3)).off + 1, none⟩ = some (.int .i64 q.2.1) ∧ W.cell? ⟨(a.add (i * 3)).block, (a.add (i * 3)).off + 2, none⟩ = some (.int .i64 q.2.2)) ∧ I64 q.1 ∧ I64 q.2.1 ∧ I64 q.2.2 := fun i hil => by
      obtain ⟨cs', hc, ht⟩ := hi i (by omega)
      rw [Try.cells56] at hc
      obtain ⟨x, y, z, rfl, w0, w1, w2⟩ := trod_con ht
      obtain ⟨_, hcl, hat⟩ := World.cells?_some hc
      have c0 := hat 0 (by simp)
      have c1 := hat 1 (by simp)
      have c2 := hat 2 (by simp)
      rw [add_two _ _ _ (by omega)] at c1 c2
      rw [show (a.add (i * 3)).add 0 = a.add (i * 3) by simp [Addr.add]] at c0
      exact ⟨(x, y, z), ⟨by simpa using c0, by simpa using c1, by simpa using c2⟩, w0, w1, w2⟩
    obtain ⟨F, hF⟩ : ∃ F : Nat → Con, ∀ i, i < len → (W.cell? (a.add (i * 3)) = some (.int .i64 (F i).1) ∧ W.cell? ⟨(a.add (i * 3)).block, (a.add (i * 3)).off + 1, none⟩ = some (.int .i64 (F i).2.1) ∧ W.cell? ⟨(a.add (i * 3)).block, (a.add (i * 3)).off + 2, none⟩ = some (.int .i64 (F i).2.2)) ∧ I64 (F i).1 ∧ I64 (F i).2.1 ∧ I64 (F i).2.2 := by
      refine ⟨fun i => if h : i < len then (key i h).choose else (0, 0, 0), fun i hil => ?_⟩
      simp only [dif_pos hil]
      exact (key i hil).choose_spec
    have hg : ∀ i, i < len → gc ((List.range len).map F) i = F i := fun i hil => by simp [gc, hil]
    refine ⟨some a, (List.range len).map F, cap, by rw [e]; simp, fun _ => ⟨a, rfl, fun j hj => ?_⟩, by simp; omega, fun k hk => ?_, fun q => by cases q⟩
    · simp at hj
      rw [hg j hj]
      exact (hF j hj).1
    · simp at hk
      rw [hg k hk]
      exact (hF k hk).2

set_option maxRecDepth 100000 in
/-- A slice of one cell, by value, and its reading. -/
theorem trod_slice1 {H : Type} {enc : TypeId × Value → H} {W : World} {base : Nat} {sp : Nat → Bool} {held : Bool} {r : Reach} {b0 : Nat} {t e : TypeId} {v : Value} {d : DataW H} {p : List MemPlace} (ht : Try.prog.underlying t = some (.slice e))
    (hv : Value.okWide Try.prog W r b0 t v) (h : DataW.Trod enc Try.prog W base sp held t v d p) : ∃ n, DataW.trod enc Try.prog W base sp held n t [v] = some (d, p) := by
  obtain ⟨n, hn⟩ := h
  obtain ⟨a, l, c, rfl⟩ := okWide_slice ht hv
  exact ⟨n, hn⟩

set_option maxRecDepth 100000 in
theorem open_cons_arg {H : Type} {enc : TypeId × Value → H} {W : World} {base : Nat} {sp : Nat → Bool} {held : Bool} {r : Reach} {b0 : Nat} {v : Value} {d : DataW H} {p : List MemPlace}
    (hv : Value.okWide Try.prog W r b0 35 v) (h : DataW.Trod enc Try.prog W base sp held 35 v d p) :
    ∃ (ao : Option Addr) (cs : List Con) (cap : Nat), v = .slice ao cs.length cap ∧ Arg3 W ao cs ∧ cs.length ≤ maxLen ∧ (∀ k, k < cs.length → (I64 (gc cs k).1 ∧ I64 (gc cs k).2.1 ∧ I64 (gc cs k).2.2)) ∧ (ao = none → cs = [] ∧ cap = 0) := by
  obtain ⟨n, hn⟩ := trod_slice1 Try.underlying35 hv h
  exact open_cons hn

theorem conV_cells {w : World} {a : Addr} {cs : List Con} (h : Rd3 w a cs) : ∀ j u, (conV cs)[j]? = some u → w.cell? (a.add j) = some u := by
  intro j u hu
  have hj : j < cs.length * 3 := by
    rw [← conV_len]
    by_cases c : j < (conV cs).length
    · exact c
    · rw [List.getElem?_eq_none (by omega)] at hu; cases hu
  obtain ⟨c0, c1, c2⟩ := conV_at cs (j / 3) (by omega)
  obtain ⟨d0, d1, d2⟩ := h (j / 3) (by omega)
  have e : j = j / 3 * 3 ∨ j = j / 3 * 3 + 1 ∨ j = j / 3 * 3 + 2 := by omega
  generalize j / 3 = k at *
  rcases e with rfl | rfl | rfl
  · rw [c0] at hu; rw [d0]; exact hu
  · rw [c1] at hu; rw [← add_add, add_two _ _ _ (by omega), d1]; exact hu
  · rw [c2] at hu; rw [← add_add, add_two _ _ _ (by omega), d2]; exact hu

/-- What a function that returns a zone leaves, in one form for both outcomes. -/
def zrN (er N : Int) : Int := if er = 0 then N else 0

def zrL (er : Int) (l : List Int) : List Int := if er = 0 then l else []

theorem ZRes.val {w : World} {N : Int} {l : List Int} {er : Int} {e : Ending} {w' : World} (h : ZRes w N l er e w') :
    ∃ ao cap, e = .returned (.tuple #[.agg #[.int .i64 (zrN er N), .slice ao (zrL er l).length cap], .int .i64 er]) ∧ Arg w' ao (zrL er l) ∧ (zrL er l).length ≤ maxLen ∧ Below w.heap.size w w' := by
  rcases h.2 with ⟨rfl, g, c, rfl, _, hO⟩ | ⟨h1, rfl⟩
  · refine ⟨some ⟨g, 0, none⟩, c, rfl, hO.arg, ?_, h.1⟩
    rcases hO.2 with ⟨q, _⟩ | ⟨g', cap, cur, _, _, _, h4, h5, _⟩
    · cases q
    · show l.length ≤ maxLen; omega
  · exact ⟨none, 0, by simp [zrN, zrL, h1], fun q => absurd (by simp [zrL, h1]) q, by simp [zrL, h1], h.1⟩

def ZVal (w : World) (M : Int) (m : List Int) (er : Int) (e : Ending) (w' : World) : Prop :=
  ∃ ao cap, e = .returned (.tuple #[.agg #[.int .i64 M, .slice ao m.length cap], .int .i64 er]) ∧ Arg w' ao m ∧ m.length ≤ maxLen ∧ Below w.heap.size w w'

theorem ZRes.zval {w : World} {N : Int} {l : List Int} {er : Int} {e : Ending} {w' : World} (h : ZRes w N l er e w') : ZVal w (zrN er N) (zrL er l) er e w' := h.val
end Go.Proofs.Ytbnebinpemejlaa

namespace Go.Proofs.Ytbnebinpemejlaa
open Go.ChangeShapes Go.WideShapes Go.ChangeAt Go.RowKit Go.Joins Go.Deep

theorem max_le' {n : Nat} (h : n ≤ maxLen) : n ≤ 9223372036854775807 := by unfold maxLen at h; omega

theorem arg_far' {w : World} {ao : Option Addr} {l : List Int} (h : Arg w ao l) {x : Nat} (hx : ∀ a, ao = some a → a.block ≠ x) (u v : Value) : Arg ((w.setCell ⟨x, 0, none⟩ u).setCell ⟨x, 1, none⟩ v) ao l := fun hl => by
  obtain ⟨a, e, hR⟩ := h hl
  refine ⟨a, e, fun j hj => ?_⟩
  have hb : (a.add j).block = a.block := by unfold Addr.add; split <;> rfl
  have hne := hx a e
  exact aside_two (hR j hj) (by rw [hb]; exact hne) u v

theorem far_below {w0 w : World} (h : Below w0.heap.size w0 w) {x : Nat} (hx : w0.heap.size ≤ x) (u v : Value) : Below w0.heap.size w0 ((w.setCell ⟨x, 0, none⟩ u).setCell ⟨x, 1, none⟩ v) := (h.setCell hx u).setCell hx v

/-- What a function that returns a zone leaves, in one form for both outcomes; the row is new. -/
def ZV2 (w : World) (M : Int) (m : List Int) (er : Int) (e : Ending) (w' : World) : Prop :=
  ∃ ao cap, e = .returned (.tuple #[.agg #[.int .i64 M, .slice ao m.length cap], .int .i64 er]) ∧ Arg w' ao m ∧ m.length ≤ maxLen ∧ (∀ b, ao = some b → w.heap.size ≤ b.block ∧ b.block < w'.heap.size) ∧ Below w.heap.size w w'

theorem ZRes.zv2 {w : World} {N : Int} {l : List Int} {er : Int} {e : Ending} {w' : World} (h : ZRes w N l er e w') : ZV2 w (zrN er N) (zrL er l) er e w' := by
  rcases h.2 with ⟨rfl, g, c, rfl, hg, hO⟩ | ⟨h1, rfl⟩
  · refine ⟨some ⟨g, 0, none⟩, c, rfl, hO.arg, ?_, fun b hb => by injection hb with hb; subst hb; exact ⟨hg, (World.ownsRow.lt hO g rfl).2⟩, h.1⟩
    rcases hO.2 with ⟨q, _⟩ | ⟨g', cap, cur, _, _, _, h4, h5, _⟩
    · cases q
    · show l.length ≤ maxLen; omega
  · exact ⟨none, 0, by simp [zrN, zrL, h1], fun q => absurd (by simp [zrL, h1]) q, by simp [zrL, h1], (fun b hb => by cases hb), h.1⟩

theorem lent_gen (N : Int) (l : List Int) (ao : Option Addr) (cap : Nat) (w : World) (h1 : l.length ≤ 200) (hA : Arg w ao l) (hn : ao = none → l = [] ∧ cap = 0) :
    Calls Try.prog 13 #[.agg #[.int .i64 N, .slice ao l.length cap]] w
      (fun e w' => ∃ g, e = .returned (.agg #[.int .i64 N, .slice (some ⟨g, 0, none⟩) l.length (l.length + 1)]) ∧ w.heap.size ≤ g ∧ Own w' g (l.length + 1) (l ++ [77]) ∧ Below w.heap.size w w') := by
  cases ao with
  | none =>
    obtain ⟨rfl, rfl⟩ := hn rfl
    exact lent_nil N w
  | some a =>
    refine lent_all N l a cap w h1 ?_
    by_cases c : l = []
    · subst c; intro j hj; simp at hj
    · obtain ⟨b, e, h⟩ := hA c
      injection e with e; subst e; exact h

theorem lsame_refl (M : Int) (m : List Int) (ao bo : Option Addr) (ca cb : Nat) (e : Int) (w : World) (hA : Arg w ao m) (hB : Arg w bo m) (hm : m.length ≤ maxLen) :
    Calls Try.prog 16 #[.agg #[.int .i64 M, .slice ao m.length ca], .agg #[.int .i64 M, .slice bo m.length cb], .int .i64 e, .int .i64 e] w (Made (.bool true) w) := by
  have := lsame_any M M m m ao bo ca cb e e w hA hB (max_le' hm)
  rw [show (smB M M m m && (e == e)) = true by simp [smB]] at this
  exact this

theorem own_front' {w : World} {g c : Nat} {l : List Int} {x : Int} (h : Own w g c (l ++ [x])) : Arg w (some ⟨g, 0, none⟩) l := fun _ => ⟨_, rfl, (own_front h).1⟩

/-- A slice of limits; one that is nil. -/
theorem open_limits2 {H : Type} {enc : TypeId × Value → H} {W : World} {base fuel : Nat} {sp : Nat → Bool} {held : Bool} {c : Value} {y : DataW H × List MemPlace}
    (h : DataW.trod enc Try.prog W base sp held fuel 22 [c] = some y) : ∃ (ao : Option Addr) (l : List Int) (cap : Nat), c = .slice ao l.length cap ∧ Arg W ao l ∧ l.length ≤ maxLen ∧ (ao = none → l = [] ∧ cap = 0) := by
  rcases open_ints Try.underlying22 Try.underlying43 Try.cells43 h with ⟨e, _⟩ | ⟨a, len, cap, zs, e, _, hl, hm, hz, _, hc, _⟩
  · simp at e
    exact ⟨none, [], 0, by simpa using e, fun q => absurd rfl q, by simp, fun _ => ⟨rfl, rfl⟩⟩
  · simp at e
    have hlen : len ≤ zs.length := by rw [hz]; split <;> omega
    refine ⟨some a, zs.take len, cap, by rw [e]; simp [hlen], fun _ => ⟨a, rfl, fun j hj => ?_⟩, by simp; omega, fun q => by cases q⟩
    simp at hj
    rw [hc j (by omega)]
    simp [Zo.gt, show j < len by omega]

set_option maxRecDepth 100000 in
theorem open_limits_arg {H : Type} {enc : TypeId × Value → H} {W : World} {base : Nat} {sp : Nat → Bool} {held : Bool} {r : Reach} {b0 : Nat} {v : Value} {d : DataW H} {p : List MemPlace}
    (hv : Value.okWide Try.prog W r b0 22 v) (h : DataW.Trod enc Try.prog W base sp held 22 v d p) :
    ∃ (ao : Option Addr) (l : List Int) (cap : Nat), v = .slice ao l.length cap ∧ Arg W ao l ∧ l.length ≤ maxLen ∧ (ao = none → l = [] ∧ cap = 0) := by
  obtain ⟨n, hn⟩ := trod_slice1 Try.underlying22 hv h
  exact open_limits2 hn

set_option maxRecDepth 100000 in
/-- A zone by value; one without a row. -/
theorem open_zone2 {H : Type} {enc : TypeId × Value → H} {W : World} {base : Nat} {sp : Nat → Bool} {held : Bool} {r : Reach} {b0 : Nat} {v : Value} {d : DataW H} {p : List MemPlace}
    (hv : Value.okWide Try.prog W r b0 25 v) (h : DataW.Trod enc Try.prog W base sp held 25 v d p) :
    ∃ (N : Int) (ao : Option Addr) (l : List Int) (cap : Nat), v = .agg #[.int .i64 N, .slice ao l.length cap] ∧ I64 N ∧ Arg W ao l ∧ l.length ≤ maxLen ∧ (ao = none → l = [] ∧ cap = 0) := by
  obtain ⟨v0, v1, y0, y1, n, rfl, _, _, h0, h1⟩ := open_agg2 Try.underlying25 (by kernel_rfl) Try.cells25 hv h
  obtain ⟨N, e0, _, w0⟩ := DataW.trod_int Try.underlying3 h0
  simp at e0
  obtain ⟨ao, l, cap, e1, hA, hl, hn⟩ := open_limits2 h1
  exact ⟨N, ao, l, cap, by rw [e0, e1], wf_i64 w0, hA, hl, hn⟩
end Go.Proofs.Ytbnebinpemejlaa

namespace Go.Proofs.Ytbnebinpemejlaa
open Go.RowKit

theorem closes_long (N : Int) (ao : Option Addr) (len cap : Nat) (w : World) (h : 200 < len) :
    Calls Try.prog 3 #[.int .i64 N, .slice ao len cap] w (Made (.bool true) w) := by
  have SH := Lib.hid (fun W => shown3_any W)
  have D : decide ((200 : Int) < (len : Int)) = true := by simp; omega
  go_enter Try.func3, Try.ntmps3
  go_wp2_with fail
  refine (SH.out _).mono ?_
  rintro e w8 ⟨rfl, hb8⟩
  have B8 := Lib.hid hb8
  clear hb8
  go_wp2_with fail
  go_ret
  exact ⟨rfl, B8.out⟩

set_option maxRecDepth 100000 in
set_option maxHeartbeats 2000000 in
theorem closes_short (N : Int) (l : List Int) (ao : Option Addr) (cap : Nat) (w : World) (hA0 : Arg w ao l) (hn : ao = none → l = [] ∧ cap = 0) (h1 : l.length ≤ 200) :
    Calls Try.prog 3 #[.int .i64 N, .slice ao l.length cap] w (Made (.bool true) w) := by
  have SH := Lib.hid (fun W => shown3_any W)
  have LE := Lib.hid (fun W (hb : Below w.heap.size w W) => lent_gen N l ao cap W h1 (hA0.on hb) hn)
  have CZ := Lib.hid (fun W a c (h : Arg W a l) => (zclose_gen N l a c W h).mono fun e w' h => h.zv2)
  have CR := Lib.hid (fun W (h : Below w.heap.size w W) => (close_gen N l ao cap W (hA0.on h)).mono fun e w' h => h.zv2)
  have KZ := Lib.hid (fun W a c (h : Arg W a l) => zcheck_gen N l a c W h)
  have KR := Lib.hid (fun W a c (h : Arg W a l) => check_gen N l a c W h)
  have KP := Lib.hid (fun W g (hO : Own W g (l.length + 1) (l ++ [77])) (h : Below w.heap.size w W) => kept_yes N N l l g ao cap W hO (hA0.on h) h1 (by simp [smB]))
  have ZZ := Lib.hid (fun W => (zzero_gen N W).mono fun e w' h => h.zv2)
  have ZR := Lib.hid (fun W => (zero_gen N W).mono fun e w' h => h.zv2)
  have AZ := Lib.hid (fun W => (zall_gen N W).mono fun e w' h => h.zv2)
  have AR := Lib.hid (fun W => (all_gen N W).mono fun e w' h => h.zv2)
  have SM := Lib.hid (fun W M m ao bo ca cb e hA hB hm => lsame_refl M m ao bo ca cb e W hA hB hm)
  have D : decide ((200 : Int) < (l.length : Int)) = false := by simp; omega
  generalize zrN (closeE N l) N = M1 at *
  generalize zrL (closeE N l) (Zo.clo N.toNat l) = m1 at *
  generalize closeE N l = e1 at *
  generalize chkE N l = ck at *
  generalize zrN (flE N 1) N = M2 at *
  generalize zrL (flE N 1) (Zo.clo N.toNat (List.replicate ((N.toNat + 1) * (N.toNat + 1)) 1)) = m2 at *
  generalize flE N 1 = e2 at *
  generalize zrN (flE N 1099511627776) N = M3 at *
  generalize zrL (flE N 1099511627776) (Zo.clo N.toNat (List.replicate ((N.toNat + 1) * (N.toNat + 1)) 1099511627776)) = m3 at *
  generalize flE N 1099511627776 = e3 at *
  unfold ZV2 at CZ CR ZZ ZR AZ AR
  have DE1 : (e1 == e1) = true := by simp
  clear hA0 hn
  go_enter Try.func3, Try.ntmps3
  go_wp2_with fail
  refine (LE.out _ (Below.refl _ _)).mono ?_
  rintro e w1 ⟨g, rfl, hg, hO, hb⟩
  obtain ⟨v1, hv⟩ : ∃ v1, v1 = w1.alloc (.cells #[.int .i64 N, .slice (some ⟨g, 0, none⟩) l.length (l.length + 1)] 25) := ⟨_, rfl⟩
  have X1 := Lib.hid (show Two v1 w1.heap.size (.int .i64 N) (.slice (some ⟨g, 0, none⟩) l.length (l.length + 1)) by rw [hv]; exact Two.made _ _ _ _)
  have O1 := Lib.hid (show Own v1 g (l.length + 1) (l ++ [77]) by rw [hv]; exact hO.alloc _)
  have B1 := Lib.hid (show Below w.heap.size w v1 by rw [hv]; exact hb.alloc hb.size _)
  clear hg hO hb
  go_upto_region 4 with (fail)
  rw [← hv]
  clear hv
  obtain ⟨b0, b1, b2, b3⟩ := X1.out.facts
  go_wp2_with fail
  refine (CZ.out _ _ _ (own_front' O1.out)).mono ?_
  rintro e w2 ⟨ao2, ck2, rfl, hA, hm, _, hb⟩
  have L2 := Lib.hid hm
  obtain ⟨v2, hv⟩ : ∃ v2, v2 = w2.alloc (.cells #[.int .i64 M1, .slice ao2 m1.length ck2] 25) := ⟨_, rfl⟩
  have X2 := Lib.hid (show Two v2 w2.heap.size (.int .i64 M1) (.slice ao2 m1.length ck2) by rw [hv]; exact Two.made _ _ _ _)
  have A2 := Lib.hid (show Arg v2 ao2 m1 by rw [hv]; exact hA.on (one_more _))
  have B2 := Lib.hid (show Below v1.heap.size v1 v2 by rw [hv]; exact hb.alloc hb.size _)
  have Y2 := Lib.hid (show v1.heap.size ≤ w2.heap.size ∧ v2.heap.size = w2.heap.size + 1 by rw [hv]; exact ⟨hb.size, by simp⟩)
  clear hA hm hb
  go_upto_region 5 with (fail)
  rw [← hv]
  clear hv
  clear b0 b1 b2 b3
  go_wp2_with fail
  refine (CR.out _ (below_on B1.out B2.out)).mono ?_
  rintro e w3 ⟨ao3, ck3, rfl, hA, hm, _, hb⟩
  have L3 := Lib.hid hm
  obtain ⟨v3, hv⟩ : ∃ v3, v3 = w3.alloc (.cells #[.int .i64 M1, .slice ao3 m1.length ck3] 25) := ⟨_, rfl⟩
  have X3 := Lib.hid (show Two v3 w3.heap.size (.int .i64 M1) (.slice ao3 m1.length ck3) by rw [hv]; exact Two.made _ _ _ _)
  have A3 := Lib.hid (show Arg v3 ao3 m1 by rw [hv]; exact hA.on (one_more _))
  have B3 := Lib.hid (show Below v2.heap.size v2 v3 by rw [hv]; exact hb.alloc hb.size _)
  have Y3 := Lib.hid (show v2.heap.size ≤ w3.heap.size ∧ v3.heap.size = w3.heap.size + 1 by rw [hv]; exact ⟨hb.size, by simp⟩)
  clear hA hm hb
  go_upto_region 6 with (fail)
  rw [← hv]
  clear hv
  have Q1 := Lib.hid (below_on B2.out B3.out)
  have Q0 := Lib.hid (below_on B1.out Q1.out)
  have KS := Lib.hid (show ∀ W, Below v3.heap.size v3 W → (W.cell? ⟨w1.heap.size, 0, none⟩ = some (.int .i64 N) ∧ W.cell? ⟨w1.heap.size, 1, none⟩ = some (.slice (some ⟨g, 0, none⟩) l.length (l.length + 1)) ∧ W.cell? ⟨w2.heap.size, 0, none⟩ = some (.int .i64 M1) ∧ W.cell? ⟨w2.heap.size, 1, none⟩ = some (.slice ao2 m1.length ck2) ∧ W.cell? ⟨w3.heap.size, 0, none⟩ = some (.int .i64 M1) ∧ W.cell? ⟨w3.heap.size, 1, none⟩ = some (.slice ao3 m1.length ck3)) from fun W h => ⟨(X1.out.kept (below_on Q1.out h)).facts.1, (X1.out.kept (below_on Q1.out h)).facts.2.1, (X2.out.kept (below_on B3.out h)).facts.1, (X2.out.kept (below_on B3.out h)).facts.2.1, (X3.out.kept h).facts.1, (X3.out.kept h).facts.2.1⟩)
  obtain ⟨wc, hwc⟩ : ∃ wc, wc = v3.drew := ⟨_, rfl⟩
  have Bc := Lib.hid (show Below v3.heap.size v3 wc by rw [hwc]; exact (Below.refl _ _).drew)
  refine wp_region_held_drew (S := (fun W => (W.cell? ⟨w1.heap.size, 0, none⟩ = some (.int .i64 N) ∧ W.cell? ⟨w1.heap.size, 1, none⟩ = some (.slice (some ⟨g, 0, none⟩) l.length (l.length + 1)) ∧ W.cell? ⟨w2.heap.size, 0, none⟩ = some (.int .i64 M1) ∧ W.cell? ⟨w2.heap.size, 1, none⟩ = some (.slice ao2 m1.length ck2) ∧ W.cell? ⟨w3.heap.size, 0, none⟩ = some (.int .i64 M1) ∧ W.cell? ⟨w3.heap.size, 1, none⟩ = some (.slice ao3 m1.length ck3)))) (by kernel_rfl) (by rw [← hwc]; exact KS.out _ Bc.out) (fun h0 => ?_)
  rw [← hwc] at h0 ⊢
  clear hwc
  refine wpAnyH_take (i := 0) (v := ?v1) rfl (by kernel_rfl) (by kernel_rfl) (by kernel_rfl) (fun _ _ _ h => h) (Or.inl ⟨by rfl, ?hy1⟩) h0 ?rest1
  case hy1 => (intro w' hS; (try dsimp only at hS); go_simp; try (with_reducible rfl))
  simp only [Act.put, List.getElem_toArray, List.getElem_cons_zero, List.setIfInBounds_toArray, List.set_cons_zero, List.set_cons_succ]
  refine wpAnyH_take (i := 1) (v := ?v2) rfl (by kernel_rfl) (by kernel_rfl) (by kernel_rfl) (fun _ _ _ h => h) (Or.inl ⟨by rfl, ?hy2⟩) h0 ?rest2
  case hy2 => (intro w' hS; (try dsimp only at hS); go_simp; try (with_reducible rfl))
  simp only [Act.put, List.getElem_toArray, List.getElem_cons_zero, List.getElem_cons_succ, List.setIfInBounds_toArray, List.set_cons_zero, List.set_cons_succ]
  refine wpAnyH_take (i := 2) (v := ?v3) rfl (by kernel_rfl) (by kernel_rfl) (by kernel_rfl) (fun _ _ _ h => h) (Or.inl ⟨by rfl, ?hy3⟩) h0 ?rest3
  case hy3 => (intro w' hS; (try dsimp only at hS); go_simp; try (with_reducible rfl))
  simp only [Act.put, List.getElem_toArray, List.getElem_cons_zero, List.getElem_cons_succ, List.setIfInBounds_toArray, List.set_cons_zero, List.set_cons_succ]
  refine wpAnyH_take (i := 3) (v := ?v4) rfl (by kernel_rfl) (by kernel_rfl) (by kernel_rfl) (fun _ _ _ h => h) (Or.inl ⟨by rfl, ?hy4⟩) h0 ?rest4
  case hy4 => (intro w' hS; (try dsimp only at hS); go_simp; try (with_reducible rfl))
  simp only [Act.put, List.getElem_toArray, List.getElem_cons_zero, List.getElem_cons_succ, List.setIfInBounds_toArray, List.set_cons_zero, List.set_cons_succ]
  refine wpAnyH_ready (rs := [4]) (by kernel_rfl) (by simp) (AllReadyH.cons rfl (fun K hK => ?_) AllReadyH.nil)
  rw [if_pos (by rfl)]
  go_simp
  refine (SM.out _ _ _ _ _ _ _ _ (A2.out.on (below_on B3.out Bc.out)) (A3.out.on Bc.out) L3.out).mono ?_
  rintro e wc ⟨rfl, hb⟩
  have Bc := Lib.hid (below_on Bc.out hb)
  clear hb
  go_simp
  refine hK.out _ _ (KS.out _ Bc.out) (fun h0_1 => ?_)
  clear hK K h0
  refine wpAnyH_take (i := 5) (v := ?v5) rfl (by kernel_rfl) (by kernel_rfl) (by kernel_rfl) (fun _ _ _ h => h) (Or.inl ⟨by rfl, ?hy5⟩) h0_1 ?rest5
  case hy5 => (intro w' hS; (try dsimp only at hS); go_simp; try (with_reducible rfl))
  simp only [Act.put, List.getElem_toArray, List.getElem_cons_zero, List.getElem_cons_succ, List.setIfInBounds_toArray, List.set_cons_zero, List.set_cons_succ]
  refine wpAnyH_take (i := 6) (v := ?v6) rfl (by kernel_rfl) (by kernel_rfl) (by kernel_rfl) (fun _ _ _ h => h) (Or.inl ⟨by rfl, ?hy6⟩) h0_1 ?rest6
  case hy6 => (intro w' hS; (try dsimp only at hS); go_simp; try (with_reducible rfl))
  simp only [Act.put, List.getElem_toArray, List.getElem_cons_zero, List.getElem_cons_succ, List.setIfInBounds_toArray, List.set_cons_zero, List.set_cons_succ]
  refine wpAnyH_take (i := 7) (v := ?v7) rfl (by kernel_rfl) (by kernel_rfl) (by kernel_rfl) (fun _ _ _ h => h) (Or.inl ⟨by rfl, ?hy7⟩) h0_1 ?rest7
  case hy7 => (intro w' hS; (try dsimp only at hS); go_simp; try (with_reducible rfl))
  simp only [Act.put, List.getElem_toArray, List.getElem_cons_zero, List.getElem_cons_succ, List.setIfInBounds_toArray, List.set_cons_zero, List.set_cons_succ]
  refine wpAnyH_take (i := 9) (v := ?v8) rfl (by kernel_rfl) (by kernel_rfl) (by kernel_rfl) (fun _ _ _ h => h) (Or.inl ⟨by rfl, ?hy8⟩) h0_1 ?rest8
  case hy8 => (intro w' hS; (try dsimp only at hS); go_simp; try (with_reducible rfl))
  simp only [Act.put, List.getElem_toArray, List.getElem_cons_zero, List.getElem_cons_succ, List.setIfInBounds_toArray, List.set_cons_zero, List.set_cons_succ]
  refine wpAnyH_ready (rs := [8]) (by kernel_rfl) (by simp) (AllReadyH.cons rfl (fun K hK => ?_) AllReadyH.nil)
  rw [if_pos (by rfl)]
  go_simp
  refine (KZ.out _ _ _ (own_front' (own_below O1.out (below_on Q1.out Bc.out)))).mono ?_
  rintro e wc ⟨rfl, hb⟩
  have Bc := Lib.hid (below_on Bc.out hb)
  clear hb
  go_simp
  refine hK.out _ _ (KS.out _ Bc.out) (fun h0_2 => ?_)
  clear hK K h0_1
  refine wpAnyH_ready (rs := [10]) (by kernel_rfl) (by simp) (AllReadyH.cons rfl (fun K hK => ?_) AllReadyH.nil)
  rw [if_pos (by rfl)]
  go_simp
  refine (KR.out _ _ _ (own_front' (own_below O1.out (below_on Q1.out Bc.out)))).mono ?_
  rintro e wc ⟨rfl, hb⟩
  have Bc := Lib.hid (below_on Bc.out hb)
  clear hb
  go_simp
  refine hK.out _ _ (KS.out _ Bc.out) (fun h0_3 => ?_)
  clear hK K h0_2
  refine wpAnyH_take (i := 11) (v := (.bool false)) rfl (by kernel_rfl) (by kernel_rfl) (by kernel_rfl) (fun _ _ _ h => h) (Or.inl ⟨by rfl, (by intro w' hS; go_simp)⟩) h0_3 ?_
  simp only [Act.put, List.getElem_toArray, List.getElem_cons_zero, List.getElem_cons_succ, List.setIfInBounds_toArray, List.set_cons_zero, List.set_cons_succ]
  refine wpAnyH_take (i := 12) (v := ?v10) rfl (by kernel_rfl) (by kernel_rfl) (by kernel_rfl) (fun _ _ _ h => h) (Or.inl ⟨by rfl, ?hy10⟩) h0_3 ?rest10
  case hy10 => (intro w' hS; (try dsimp only at hS); go_simp; try (with_reducible rfl))
  simp only [Act.put, List.getElem_toArray, List.getElem_cons_zero, List.getElem_cons_succ, List.setIfInBounds_toArray, List.set_cons_zero, List.set_cons_succ]
  refine wpAnyH_take (i := 13) (v := ?v11) rfl (by kernel_rfl) (by kernel_rfl) (by kernel_rfl) (fun _ _ _ h => h) (Or.inl ⟨by rfl, ?hy11⟩) h0_3 ?rest11
  case hy11 => (intro w' hS; (try dsimp only at hS); go_simp; try (with_reducible rfl))
  simp only [Act.put, List.getElem_toArray, List.getElem_cons_zero, List.getElem_cons_succ, List.setIfInBounds_toArray, List.set_cons_zero, List.set_cons_succ]
  refine wpAnyH_take (i := 14) (v := ?v12) rfl (by kernel_rfl) (by kernel_rfl) (by kernel_rfl) (fun _ _ _ h => h) (Or.inl ⟨by rfl, ?hy12⟩) h0_3 ?rest12
  case hy12 => (intro w' hS; (try dsimp only at hS); go_simp; try (with_reducible rfl))
  simp only [Act.put, List.getElem_toArray, List.getElem_cons_zero, List.getElem_cons_succ, List.setIfInBounds_toArray, List.set_cons_zero, List.set_cons_succ]
  refine wpAnyH_take (i := 15) (v := ?v13) rfl (by kernel_rfl) (by kernel_rfl) (by kernel_rfl) (fun _ _ _ h => h) (Or.inl ⟨by rfl, ?hy13⟩) h0_3 ?rest13
  case hy13 => (intro w' hS; (try dsimp only at hS); go_simp; try (with_reducible rfl))
  simp only [Act.put, List.getElem_toArray, List.getElem_cons_zero, List.getElem_cons_succ, List.setIfInBounds_toArray, List.set_cons_zero, List.set_cons_succ]
  refine wpAnyH_take (i := 16) (v := ?v14) rfl (by kernel_rfl) (by kernel_rfl) (by kernel_rfl) (fun _ _ _ h => h) (Or.inl ⟨by rfl, ?hy14⟩) h0_3 ?rest14
  case hy14 => (intro w' hS; (try dsimp only at hS); go_simp; try (with_reducible rfl))
  simp only [Act.put, List.getElem_toArray, List.getElem_cons_zero, List.getElem_cons_succ, List.setIfInBounds_toArray, List.set_cons_zero, List.set_cons_succ]
  refine wpAnyH_take (i := 17) (v := ?v15) rfl (by kernel_rfl) (by kernel_rfl) (by kernel_rfl) (fun _ _ _ h => h) (Or.inl ⟨by rfl, ?hy15⟩) h0_3 ?rest15
  case hy15 => (intro w' hS; (try dsimp only at hS); go_simp; try (with_reducible rfl))
  simp only [Act.put, List.getElem_toArray, List.getElem_cons_zero, List.getElem_cons_succ, List.setIfInBounds_toArray, List.set_cons_zero, List.set_cons_succ]
  refine wpAnyH_ready (rs := [18]) (by kernel_rfl) (by simp) (AllReadyH.cons rfl (fun K hK => ?_) AllReadyH.nil)
  rw [if_pos (by rfl)]
  go_simp
  refine (KP.out _ _ (own_below O1.out (below_on Q1.out Bc.out)) (below_on Q0.out Bc.out)).mono ?_
  rintro e wc ⟨rfl, hb⟩
  have Bc := Lib.hid (below_on Bc.out hb)
  clear hb
  go_simp
  refine hK.out _ _ (KS.out _ Bc.out) (fun h0_4 => ?_)
  clear hK K h0_3
  refine wpAnyH_take (i := 19) (v := ?v16) rfl (by kernel_rfl) (by kernel_rfl) (by kernel_rfl) (fun _ _ _ h => h) (Or.inl ⟨by rfl, ?hy16⟩) h0_4 ?rest16
  case hy16 => (intro w' hS; (try dsimp only at hS); go_simp; try (with_reducible rfl))
  simp only [Act.put, List.getElem_toArray, List.getElem_cons_zero, List.getElem_cons_succ, List.setIfInBounds_toArray, List.set_cons_zero, List.set_cons_succ]
  refine wpAnyH_take (i := 20) (v := ?v17) rfl (by kernel_rfl) (by kernel_rfl) (by kernel_rfl) (fun _ _ _ h => h) (Or.inl ⟨by rfl, ?hy17⟩) h0_4 ?rest17
  case hy17 => (intro w' hS; (try dsimp only at hS); go_simp; try (with_reducible rfl))
  simp only [Act.put, List.getElem_toArray, List.getElem_cons_zero, List.getElem_cons_succ, List.setIfInBounds_toArray]
  refine wpAnyH_done (by kernel_rfl) ?_ _
  have Q0 := Lib.hid (below_on Q0.out Bc.out)
  have T1 := Lib.hid (X2.out.kept (below_on B3.out Bc.out))
  have T2 := Lib.hid (X3.out.kept Bc.out)
  have HB := Lib.hid (show w.heap.size ≤ w2.heap.size ∧ w.heap.size ≤ w3.heap.size ∧ w2.heap.size ≠ w3.heap.size by
    have := B1.out.size; have := Y2.out; have := Y3.out; omega)
  clear KS
  go_wp2_with fail
  refine (ZZ.out _).mono ?_
  rintro e w4a ⟨ao4a, ck4a, rfl, hA, hm, hf, hb⟩
  have XX := T1.out.kept hb
  obtain ⟨d0, d1, d2, d3⟩ := XX.facts
  have hne := fun a e => Nat.lt_of_lt_of_le T1.out.lt (hf a e).1
  have F4a := Lib.hid (fun a e => Nat.lt_of_lt_of_le T2.out.lt (hf a e).1)
  have L4a := Lib.hid hm
  obtain ⟨v4a, hv⟩ : ∃ v, v = (w4a.setCell ⟨w2.heap.size, 0, none⟩ (.int .i64 M2)).setCell ⟨w2.heap.size, 1, none⟩ (.slice ao4a m2.length ck4a) := ⟨_, rfl⟩
  have T1 := Lib.hid (show Two v4a w2.heap.size (.int .i64 M2) (.slice ao4a m2.length ck4a) by rw [hv]; exact XX.put _ _)
  have A4a := Lib.hid (show Arg v4a ao4a m2 by rw [hv]; exact arg_far' hA (fun a e => by have := hne a e; omega) _ _)
  have Q0 := Lib.hid (show Below w.heap.size w v4a by rw [hv]; exact far_below (below_on Q0.out hb) (HB.out.1) _ _)
  have T2 := Lib.hid (show Two v4a w3.heap.size _ _ by rw [hv]; exact (T2.out.kept hb).aside HB.out.2.2 _ _)
  clear hA hm hf hne XX
  clear hb
  go_upto_region 9 with (fail)
  rw [← hv]
  clear hv d0 d1 d2 d3
  go_wp2_with fail
  refine (ZR.out _).mono ?_
  rintro e w4b ⟨ao4b, ck4b, rfl, hA, hm, hf, hb⟩
  have XX := T2.out.kept hb
  obtain ⟨d0, d1, d2, d3⟩ := XX.facts
  have hne := fun a e => Nat.lt_of_lt_of_le T2.out.lt (hf a e).1
  have F4b := Lib.hid (fun a e => Nat.lt_of_lt_of_le T2.out.lt (hf a e).1)
  have L4b := Lib.hid hm
  obtain ⟨v4b, hv⟩ : ∃ v, v = (w4b.setCell ⟨w3.heap.size, 0, none⟩ (.int .i64 M2)).setCell ⟨w3.heap.size, 1, none⟩ (.slice ao4b m2.length ck4b) := ⟨_, rfl⟩
  have T2 := Lib.hid (show Two v4b w3.heap.size (.int .i64 M2) (.slice ao4b m2.length ck4b) by rw [hv]; exact XX.put _ _)
  have A4b := Lib.hid (show Arg v4b ao4b m2 by rw [hv]; exact arg_far' hA (fun a e => by have := hne a e; omega) _ _)
  have Q0 := Lib.hid (show Below w.heap.size w v4b by rw [hv]; exact far_below (below_on Q0.out hb) (HB.out.2.1) _ _)
  have T1 := Lib.hid (show Two v4b w2.heap.size (.int .i64 M2) (.slice ao4a m2.length ck4a) by rw [hv]; exact (T1.out.kept hb).aside HB.out.2.2.symm _ _)
  have A4a := Lib.hid (show Arg v4b ao4a m2 by rw [hv]; exact arg_far' (A4a.out.on hb) (fun a e => by have := F4a.out a e; omega) _ _)
  clear hA hm hf hne XX
  clear hb
  go_upto_region 10 with (fail)
  rw [← hv]
  clear hv d0 d1 d2 d3
  obtain ⟨b0, b1, b2, b3⟩ := T1.out.facts
  obtain ⟨c0, c1, c2, c3⟩ := T2.out.facts
  go_wp2_with fail
  refine (SM.out _ _ _ _ _ _ _ _ A4a.out A4b.out L4b.out).mono ?_
  rintro e w4c ⟨rfl, hb⟩
  have T1 := Lib.hid (T1.out.kept hb)
  have T2 := Lib.hid (T2.out.kept hb)
  have Q0 := Lib.hid (show Below w.heap.size w w4c from below_on Q0.out hb)
  clear hb b0 b1 b2 b3 c0 c1 c2 c3 A4a A4b F4a F4b L4a L4b
  go_wp2_with fail
  refine (AZ.out _).mono ?_
  rintro e w5a ⟨ao5a, ck5a, rfl, hA, hm, hf, hb⟩
  have XX := T1.out.kept hb
  obtain ⟨d0, d1, d2, d3⟩ := XX.facts
  have hne := fun a e => Nat.lt_of_lt_of_le T1.out.lt (hf a e).1
  have F5a := Lib.hid (fun a e => Nat.lt_of_lt_of_le T2.out.lt (hf a e).1)
  have L5a := Lib.hid hm
  obtain ⟨v5a, hv⟩ : ∃ v, v = (w5a.setCell ⟨w2.heap.size, 0, none⟩ (.int .i64 M3)).setCell ⟨w2.heap.size, 1, none⟩ (.slice ao5a m3.length ck5a) := ⟨_, rfl⟩
  have T1 := Lib.hid (show Two v5a w2.heap.size (.int .i64 M3) (.slice ao5a m3.length ck5a) by rw [hv]; exact XX.put _ _)
  have A5a := Lib.hid (show Arg v5a ao5a m3 by rw [hv]; exact arg_far' hA (fun a e => by have := hne a e; omega) _ _)
  have Q0 := Lib.hid (show Below w.heap.size w v5a by rw [hv]; exact far_below (below_on Q0.out hb) (HB.out.1) _ _)
  have T2 := Lib.hid (show Two v5a w3.heap.size _ _ by rw [hv]; exact (T2.out.kept hb).aside HB.out.2.2 _ _)
  clear hA hm hf hne XX
  clear hb
  go_upto_region 13 with (fail)
  rw [← hv]
  clear hv d0 d1 d2 d3
  go_wp2_with fail
  refine (AR.out _).mono ?_
  rintro e w5b ⟨ao5b, ck5b, rfl, hA, hm, hf, hb⟩
  have XX := T2.out.kept hb
  obtain ⟨d0, d1, d2, d3⟩ := XX.facts
  have hne := fun a e => Nat.lt_of_lt_of_le T2.out.lt (hf a e).1
  have F5b := Lib.hid (fun a e => Nat.lt_of_lt_of_le T2.out.lt (hf a e).1)
  have L5b := Lib.hid hm
  obtain ⟨v5b, hv⟩ : ∃ v, v = (w5b.setCell ⟨w3.heap.size, 0, none⟩ (.int .i64 M3)).setCell ⟨w3.heap.size, 1, none⟩ (.slice ao5b m3.length ck5b) := ⟨_, rfl⟩
  have T2 := Lib.hid (show Two v5b w3.heap.size (.int .i64 M3) (.slice ao5b m3.length ck5b) by rw [hv]; exact XX.put _ _)
  have A5b := Lib.hid (show Arg v5b ao5b m3 by rw [hv]; exact arg_far' hA (fun a e => by have := hne a e; omega) _ _)
  have Q0 := Lib.hid (show Below w.heap.size w v5b by rw [hv]; exact far_below (below_on Q0.out hb) (HB.out.2.1) _ _)
  have T1 := Lib.hid (show Two v5b w2.heap.size (.int .i64 M3) (.slice ao5a m3.length ck5a) by rw [hv]; exact (T1.out.kept hb).aside HB.out.2.2.symm _ _)
  have A5a := Lib.hid (show Arg v5b ao5a m3 by rw [hv]; exact arg_far' (A5a.out.on hb) (fun a e => by have := F5a.out a e; omega) _ _)
  clear hA hm hf hne XX
  clear hb
  go_upto_region 14 with (fail)
  rw [← hv]
  clear hv d0 d1 d2 d3
  obtain ⟨b0, b1, b2, b3⟩ := T1.out.facts
  obtain ⟨c0, c1, c2, c3⟩ := T2.out.facts
  go_wp2_with fail
  refine (SM.out _ _ _ _ _ _ _ _ A5a.out A5b.out L5b.out).mono ?_
  rintro e w5c ⟨rfl, hb⟩
  have T1 := Lib.hid (T1.out.kept hb)
  have T2 := Lib.hid (T2.out.kept hb)
  have Q0 := Lib.hid (show Below w.heap.size w w5c from below_on Q0.out hb)
  clear hb b0 b1 b2 b3 c0 c1 c2 c3 A5a A5b F5a F5b L5a L5b
  go_wp2_with fail
  refine (SH.out _).mono ?_
  rintro e w99 ⟨rfl, hb⟩
  have Q0 := Lib.hid (below_on Q0.out hb)
  clear hb
  go_wp2_with fail
  go_ret
  exact ⟨rfl, Q0.out⟩

theorem closes_any (N : Int) (l : List Int) (ao : Option Addr) (cap : Nat) (w : World) (hA : Arg w ao l) (hn : ao = none → l = [] ∧ cap = 0) :
    Calls Try.prog 3 #[.int .i64 N, .slice ao l.length cap] w (Made (.bool true) w) := by
  by_cases h : 200 < l.length
  · exact closes_long N ao l.length cap w h
  · exact closes_short N l ao cap w hA hn (by omega)
end Go.Proofs.Ytbnebinpemejlaa
