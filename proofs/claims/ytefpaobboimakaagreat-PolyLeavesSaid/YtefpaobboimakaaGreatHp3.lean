/- The contract of lowest of layer 7's reference.; Lists of lines of package api of a call's own; insertion at a place.; The contract of Tidy of layer 7's reference.; Plain mathematics: lowest terms and tidy lists of lines of fewer coordinates.; The contract of short of layer 7's reference.; Plain mathematics of ratios: what Make returns, as numbers. Nothing of the program is named here.; Contracts of magnitude, commonDivisor, Valid and Make of package ratio.; Contracts of size, divisor, Valid and Make of the reference. -/
import Derived.Test.YtefpaobboimakaaGreatHp2
import Derived.ArgAppend
import Derived.Laws.OwnMore
import Derived.Deep.Onto
import Derived.Lib.AppendZeros
import Derived.Deep.RegionHeld3
import Derived.Test.YtefpaobboimakaaGreatHp1

namespace Go.Proofs.YtefpaobboimakaaGreat
open Go.RowKit Go.Sort Go.Shelf

/-- A line of package api as a line. -/
def lnV (y : AV) : Ln := ⟨y.a, y.b, y.s⟩

/-- A list that is nil has no elements. -/
def NilOk (y : AV) : Prop := (y.q = none → y.a = [] ∧ y.c = 0) ∧ y.a.length ≤ y.c ∧ y.c ≤ maxLen

theorem OwnI.put {w : World} {B g cap : Nat} {a : List Int} (h : OwnI w B g cap a) (j : Nat) (x : Int) : OwnI (w.setCell ⟨g, j, none⟩ (.int .i64 x)) B g cap (a.set j x) ∧ w.grownBy (w.setCell ⟨g, j, none⟩ (.int .i64 x)) (some g) := by
  obtain ⟨h1, h2⟩ := World.ownsRow.stored h j (.int .i64 x)
  refine ⟨?_, h2⟩
  unfold OwnI
  rw [List.length_set, List.map_set]
  exact h1

theorem OwnI.on {w w' : World} {B g cap : Nat} {a : List Int} (h : OwnI w B g cap a) (hb : Below w.heap.size w w') : OwnI w' B g cap a :=
  World.ownsRow.kept h (show w.grownBy w' none from ⟨hb.os, hb.tape, hb.output, hb.size, fun k hk _ => hb.block k hk⟩) (Or.inr (by simp [Value.ownBlock]))

theorem OwnI.grown {w w' : World} {B g b cap : Nat} {a : List Int} (h : OwnI w B g cap a) (hg : w.grownBy w' (some b)) (hne : g ≠ b) : OwnI w' B g cap a := World.ownsRow.kept h hg (Or.inr (by simpa [Value.ownBlock] using hne))

theorem OwnI.rd {w : World} {B g cap : Nat} {a : List Int} (h : OwnI w B g cap a) : Rd1 w (some ⟨g, 0, none⟩) a := fun t ht => ⟨_, rfl, by rw [addr_add, Nat.zero_add]; exact h.at ht⟩

theorem OwnI.empty (w : World) (B : Nat) (hB : B ≤ w.heap.size) : OwnI (w.alloc (.cells #[] 2)) B w.heap.size 0 [] := World.ownsRow_made w #[] 0 hB (Nat.zero_le _) (by simp)

theorem rd_map {w : World} {p : Addr} {a : List Int} (h : Rd1 w (some p) a) : ∀ j u, (a.map (Value.int .i64))[j]? = some u → w.cell? (p.add j) = some u := fun j u hu => by
  rw [List.getElem?_map] at hu
  cases hj : a[j]? with
  | none => rw [hj] at hu; cases hu
  | some x =>
    rw [hj] at hu
    have hjl : j < a.length := (List.getElem?_eq_some_iff.1 hj).1
    obtain ⟨p', e, c⟩ := h j hjl
    cases e
    rw [c, ← hu]
    simp [gA, hj]

/-- 'append' to a new list of no elements. -/
theorem appI_run {w : World} {B b : Nat} (hown : OwnI w B b 0 []) {q : Option Addr} {a : List Int} {c : Nat} (hR : Rd1 w q a) (hN : q = none → a = [] ∧ c = 0) (hl : a.length ≤ 1000000) (hB : B ≤ w.heap.size) (ty : TypeId) :
    ∃ g c' w', (Builtin.append_ #[23, 23] ty #[.slice (some ⟨b, 0, none⟩) 0 0, .slice q a.length c]).run Tryz.prog w = .ok (.slice (some ⟨g, 0, none⟩) a.length c') w' ∧ OwnI w' B g c' a ∧ w.grownBy w' (some b) ∧ (g = b ∨ w.heap.size ≤ g) ∧ (q = none → g = b) := by
  obtain ⟨i0, hi, hz0, hz1, hz2⟩ := info_parts i64_info
  have U : Tryz.prog.underlying 23 = some (.slice 2) := Tryz.underlying23
  cases q with
  | none =>
    obtain ⟨rfl, rfl⟩ := hN rfl
    exact ⟨b, 0, w, run_append_owned_none w B _ ty _ i0 1 U hi _ _ _ hown, hown, World.grownBy.refl _ _, Or.inl rfl, fun _ => rfl⟩
  | some p =>
    by_cases e : a = []
    · subst e
      obtain ⟨w', hrun, r1, r2⟩ := run_append_fits (P := Tryz.prog) w B _ ty _ i0 1 U hi hz1 b 0 0 [] hown p 0 c [] rfl (by intro j u q; simp at q) (by simp) (by omega)
      exact ⟨b, 0, w', hrun, r1, r2, Or.inl rfl, fun h => by cases h⟩
    · have hp : 0 < a.length := List.length_pos_iff.2 e
      obtain ⟨v', w', hrun, r1, r2⟩ := run_append_arg_grows (P := Tryz.prog) w _ ty _ i0 (.int .i64 0) 1 8 U hi hz0 hz1 hz2 rfl (by decide) ⟨b, 0, none⟩ 0 0 [] rfl (by intro j u q; simp at q) p a.length c (a.map (Value.int .i64)) (by simp) (rd_map hR) (by omega) (by unfold maxLen; omega) (by omega)
      rw [show ([] : List Value) ++ a.map (Value.int .i64) = a.map (Value.int .i64) from rfl, Nat.zero_add] at r1
      have hform : ∃ g c', v' = .slice (some ⟨g, 0, none⟩) a.length c' := by
        rcases r1.2 with ⟨_, hn⟩ | ⟨g, cap, cur, rfl, _⟩
        · omega
        · exact ⟨g, cap, rfl⟩
      obtain ⟨g, c', rfl⟩ := hform
      have hlt := World.ownsRow.lt r1 g rfl
      exact ⟨g, c', w', hrun, World.ownsRow.mono r1 hB, ⟨r2.os, r2.tape, r2.output, r2.size, fun k hk _ => r2.block k hk (by simp)⟩, Or.inr hlt.1, fun h => by cases h⟩

/-- A line in lowest terms, as the reference has it. -/
def Ln.dvR (x : Ln) : Int := gcdL (x.b.natAbs : Int) x.a

def Ln.lowR (x : Ln) : Ln := if x.dvR = 0 then x else ⟨x.a.map (·.tdiv x.dvR), x.b.tdiv x.dvR, x.s⟩

theorem gcd_abs (d v : Int) : (Int.gcd d (v.natAbs : Int) : Int) = Int.gcd d v := by simp [Int.gcd]

theorem gcdL_nn {b : Int} (hb : 0 ≤ b) : ∀ (a : List Int), 0 ≤ gcdL b a
  | [] => hb
  | v :: r => by show 0 ≤ gcdL (Int.gcd b v : Int) r; exact gcdL_nn (by omega) r

theorem BkV.facts {w : World} {b : Nat} {y : AV} (h : BkV w b y) : w.cell? ⟨b, 0, none⟩ = some (.slice y.q y.a.length y.c) ∧ w.cell? ⟨b, 1, none⟩ = some (.int .i64 y.b) ∧ w.cell? ⟨b, 2, none⟩ = some (.bool y.s) :=
  ⟨by rw [cell_of_row w _ 0 _ _ _ h]; rfl, by rw [cell_of_row w _ 1 _ _ _ h]; rfl, by rw [cell_of_row w _ 2 _ _ _ h]; rfl⟩

theorem BkV.free {w : World} {b : Nat} {y : AV} (h : BkV w b y) (j : Nat) : w.frozen? ⟨b, j, none⟩ = false := frozen_of_row w b j _ _ h

theorem BkV.grown {w w' : World} {b g : Nat} {y : AV} (h : BkV w b y) (hg : w.grownBy w' (some g)) (hne : b ≠ g) : BkV w' b y := (hg.block b h.lt (by simpa using hne)).trans h

theorem BkV.putb {w : World} {b : Nat} {y : AV} (h : BkV w b y) (v : Int) : BkV (w.setCell ⟨b, 1, none⟩ (.int .i64 v)) b { y with b := v } := by
  unfold BkV
  rw [heap_setCell_same w b _ _ _ _ h]
  rfl

theorem results_av {fn : Func} {p : Tmp} (h : fn.results = #[.cell p 25]) (tmps : Array Value) {w : World} {b : Nat} {y : AV}
    (hp : tmps.getD p undef = .pointer (some ⟨b, 0, none⟩)) (hx : BkV w b y) : (results fn tmps).run Tryz.prog w = .ok (.agg y.cs) w := by
  have hp' : tmps[p]?.getD undef = .pointer (some ⟨b, 0, none⟩) := by simpa using hp
  have h1 := av_loadP hx.avAt
  generalize y.cs = X at *
  simp [results, h, hp', asAddr, h1]

/-- What a function leaves that returns a line of the reference: its numbers lie in memory of their own. -/
def VRes (w : World) (x : Ln) (e : Ending) (w' : World) : Prop := ∃ g c, e = .returned (.agg (AV.mk (some ⟨g, 0, none⟩) c x.a x.b x.s).cs) ∧ OwnI w' w.heap.size g c x.a ∧ Below w.heap.size w w'

set_option maxRecDepth 100000 in
set_option maxHeartbeats 4000000 in
theorem rlowest_any (y : AV) (w : World) (hl : y.a.length ≤ 1000) (hR : Rd1 w y.q y.a) (hN : NilOk y) (ha : ∀ v ∈ y.a, A63 v) (hb : A63 y.b) :
    Calls Tryz.prog 107 #[.agg y.cs] w (VRes w (lnV y).lowR) := by
  obtain ⟨w0, hw0⟩ : ∃ w0, w0 = (w.alloc (.cells y.cs 25)).alloc (.cells #[.slice none 0 0, .int .i64 0, .bool false] 25) := ⟨_, rfl⟩
  have E0 := Lib.hid (show Below w.heap.size w w0 by rw [hw0]; exact past_two (Below.refl _ _))
  have K0 := Lib.hid (show BkV w0 w.heap.size y by rw [hw0]; exact (BkV.made w y).kept (one_more _))
  have K1 := Lib.hid (show BkV w0 (w.heap.size + 1) av0 by rw [hw0]; have := BkV.made (w.alloc (.cells y.cs 25)) av0; simpa [av0, AV.cs, AV.cells] using this)
  have R0 := Lib.hid (hR.on E0.out)
  have NO := Lib.hid hN.1
  have YA := Lib.hid ha
  have YB := Lib.hid hb
  obtain ⟨q, c, a, b, s⟩ := y
  simp only [lnV] at *
  obtain ⟨m, hm⟩ : ∃ m, m = a.length := ⟨_, rfl⟩
  have HM := Lib.hid hm
  have HL := Lib.hid hl
  have hle : m ≤ 1000 := by omega
  obtain ⟨X, hX⟩ : ∃ X, X = (Ln.mk a b s).lowR := ⟨_, rfl⟩
  have HX := Lib.hid hX
  rw [← hX]
  obtain ⟨f0, f1, f2⟩ := K0.out.facts
  simp only at f0 f1 f2
  rw [← hm] at f0
  have F0 := Lib.hid f0
  have F1 := Lib.hid f1
  have F2 := Lib.hid f2
  have SB := Lib.hid (rsize_any b w0 hb)
  have GD : ∀ t, A63 (gcdL (b.natAbs : Int) (a.take t)) ∧ 0 ≤ gcdL (b.natAbs : Int) (a.take t) := fun t => ⟨gcdL_63 (by unfold A63 at *; omega) (fun v hv => ha v (List.mem_of_mem_take hv)), gcdL_nn (by omega) _⟩
  have GB63 := Lib.hid GD
  clear hl hR hN ha hb hm hX GD
  go_enter Tryz.func107, Tryz.ntmps107
  go_upto_region 1 with (fail)
  rw [← hw0]
  clear hw0
  go_wp2_with fail
  refine SB.out.mono ?_
  rintro e w1 ⟨rfl, rfl⟩
  go_wp2_with fail
  go_loopw [3, 4] (fun u v wr => ∃ t : Nat, u = .int .i64 (gcdL (b.natAbs : Int) (a.take t)) ∧ v = .int .i64 t ∧ t ≤ m ∧ ∃ k, wr = w1.drewN k) (fun _ v _ => m - (intOf v).toNat)
  case atStart => exact ⟨0, by simp [gcdL], rfl, by omega, 0, rfl⟩
  case round =>
    obtain ⟨t, rfl, rfl, ht, k, rfl⟩ := hrel
    by_cases htm : t < m
    · have hlt : t < a.length := by have := HM.out; omega
      obtain ⟨p, hp, c0⟩ := R0.out t hlt
      obtain ⟨u, hu⟩ : ∃ u, u = gA a t := ⟨_, rfl⟩
      have GS := Lib.hid (show gcdL (b.natAbs : Int) (a.take (t + 1)) = (Int.gcd (gcdL (b.natAbs : Int) (a.take t)) u : Int) by rw [hu]; exact gcdL_step hlt)
      have G0 := Lib.hid (GB63.out t)
      have U63 := Lib.hid (show A63 u by rw [hu]; exact YA.out _ (gA_mem hlt))
      rw [← hu] at c0
      generalize gcdL (b.natAbs : Int) (a.take t) = d at *
      subst hp
      clear hu hlt
      go_wp2_with fail
      refine (rsize_any u _ U63.out).mono ?_
      rintro e w2 ⟨rfl, rfl⟩
      go_wp2_with fail
      refine (rdiv_any d (u.natAbs : Int) _ (by have := G0.out; unfold A63 at this; omega) (by have := U63.out; unfold A63 at this; omega)).mono ?_
      rintro e w2 ⟨rfl, j, rfl⟩
      rw [gcd_abs]
      rw [← GS.out]
      go_wp2_with fail
      go_roundw
      case rel => exact ⟨t + 1, rfl, by go_num, by omega, _, rfl⟩
      case measure => simp [intOf]; omega
    · obtain rfl : t = m := by omega
      obtain ⟨d, hd⟩ : ∃ d, d = gcdL (b.natAbs : Int) (a.take t) := ⟨_, rfl⟩
      have HD := Lib.hid (show d = (Ln.mk a b s).dvR by rw [hd, HM.out, List.take_length]; rfl)
      have D63 := Lib.hid (show A63 d ∧ 0 ≤ d by rw [hd]; exact GB63.out t)
      rw [← hd]
      clear hd
      obtain ⟨w2, hw2⟩ : ∃ w2, w2 = w1.drewN k := ⟨_, rfl⟩
      have B2 := Lib.hid (show Below w1.heap.size w1 w2 by rw [hw2]; exact below_drewN (Below.refl _ _) _)
      rw [← hw2]
      clear hw2
      have f0 := kept B2.out F0.out
      go_upto_region 6 with (fail)
      clear f0
      go_cut [5] (fun s5 wx => ∃ q5 g c', s5 = .pointer (some ⟨q5, 0, none⟩) ∧ Hid (BkV wx q5 ⟨some ⟨g, 0, none⟩, c', a, b, s⟩) ∧ Hid (OwnI wx w.heap.size g c' a) ∧ Hid (g ≠ q5 ∧ w1.heap.size ≤ q5 ∧ w1.heap.size ≤ g) ∧ Hid (Below w1.heap.size w1 wx))
      case first =>
        have KS := Lib.hid (show ∀ W, Below w2.heap.size w2 W → (W.cell? ⟨w.heap.size, 0, none⟩ = some (.slice q t c) ∧ W.cell? ⟨w.heap.size, 1, none⟩ = some (.int .i64 b) ∧ W.cell? ⟨w.heap.size, 2, none⟩ = some (.bool s)) from fun W h => ⟨kept h (kept B2.out F0.out), kept h (kept B2.out F1.out), kept h (kept B2.out F2.out)⟩)
        obtain ⟨wc, hwc⟩ : ∃ wc, wc = w2.drew := ⟨_, rfl⟩
        have Bc := Lib.hid (show Below w2.heap.size w2 wc by rw [hwc]; exact (Below.refl _ _).drew)
        refine wp_region_held_drew (S := (fun W => (W.cell? ⟨w.heap.size, 0, none⟩ = some (.slice q t c) ∧ W.cell? ⟨w.heap.size, 1, none⟩ = some (.int .i64 b) ∧ W.cell? ⟨w.heap.size, 2, none⟩ = some (.bool s)))) (by kernel_rfl) (by rw [← hwc]; exact KS.out _ Bc.out) (fun h0 => ?_)
        rw [← hwc] at h0 ⊢
        clear hwc
        refine wpAnyH_take (i := 1) (v := ?v1) rfl (by kernel_rfl) (by kernel_rfl) (by kernel_rfl) (fun _ _ _ h => h) (Or.inl ⟨by rfl, ?hy1⟩) h0 ?rest1
        case hy1 => (intro w' hS; (try dsimp only at hS); go_simp; try (with_reducible rfl))
        simp only [Act.put, List.getElem_toArray, List.getElem_cons_zero, List.getElem_cons_succ, List.setIfInBounds_toArray, List.set_cons_zero, List.set_cons_succ]
        refine wpAnyH_take (i := 2) (v := ?v2) rfl (by kernel_rfl) (by kernel_rfl) (by kernel_rfl) (fun _ _ _ h => h) (Or.inl ⟨by rfl, ?hy2⟩) h0 ?rest2
        case hy2 => (intro w' hS; (try dsimp only at hS); go_simp; try (with_reducible rfl))
        simp only [Act.put, List.getElem_toArray, List.getElem_cons_zero, List.getElem_cons_succ, List.setIfInBounds_toArray, List.set_cons_zero, List.set_cons_succ]
        refine wpAnyH_take (i := 4) (v := ?v3) rfl (by kernel_rfl) (by kernel_rfl) (by kernel_rfl) (fun _ _ _ h => h) (Or.inl ⟨by rfl, ?hy3⟩) h0 ?rest3
        case hy3 => (intro w' hS; (try dsimp only at hS); go_simp; try (with_reducible rfl))
        simp only [Act.put, List.getElem_toArray, List.getElem_cons_zero, List.getElem_cons_succ, List.setIfInBounds_toArray, List.set_cons_zero, List.set_cons_succ]
        refine wpAnyH_take (i := 5) (v := ?v4) rfl (by kernel_rfl) (by kernel_rfl) (by kernel_rfl) (fun _ _ _ h => h) (Or.inl ⟨by rfl, ?hy4⟩) h0 ?rest4
        case hy4 => (intro w' hS; (try dsimp only at hS); go_simp; try (with_reducible rfl))
        simp only [Act.put, List.getElem_toArray, List.getElem_cons_zero, List.getElem_cons_succ, List.setIfInBounds_toArray, List.set_cons_zero, List.set_cons_succ]
        refine wpAnyH_take (i := 6) (v := ?v5) rfl (by kernel_rfl) (by kernel_rfl) (by kernel_rfl) (fun _ _ _ h => h) (Or.inl ⟨by rfl, ?hy5⟩) h0 ?rest5
        case hy5 => (intro w' hS; (try dsimp only at hS); go_simp; try (with_reducible rfl))
        simp only [Act.put, List.getElem_toArray, List.getElem_cons_zero, List.getElem_cons_succ, List.setIfInBounds_toArray, List.set_cons_zero, List.set_cons_succ]
        refine wpAnyH_take (i := 7) (v := ?v6) rfl (by kernel_rfl) (by kernel_rfl) (by kernel_rfl) (fun _ _ _ h => h) (Or.inl ⟨by rfl, ?hy6⟩) h0 ?rest6
        case hy6 => (intro w' hS; (try dsimp only at hS); go_simp; try (with_reducible rfl))
        simp only [Act.put, List.getElem_toArray, List.getElem_cons_zero, List.getElem_cons_succ, List.setIfInBounds_toArray, List.set_cons_zero, List.set_cons_succ]
        refine wpAnyH_ready (rs := [0, 9]) (by kernel_rfl) (by simp) (AllReadyH.cons rfl (fun K hK => ?_) (AllReadyH.cons rfl (fun K hK => ?_) AllReadyH.nil))
        · rw [if_pos (by rfl)]
          go_simp
          have hb := one_more (w1 := wc) (.cells #[] 2)
          have hP := OwnI.empty wc w.heap.size (Nat.le_trans E0.out.size (below_on B2.out Bc.out).size)
          have hz := Bc.out.size
          obtain ⟨b0, hbb⟩ : ∃ b0, b0 = wc.heap.size := ⟨_, rfl⟩
          rw [← hbb] at hP hz
          obtain ⟨wn, hwn⟩ : ∃ wn, wn = wc.alloc (.cells #[] 2) := ⟨_, rfl⟩
          rw [← hwn] at hb hP ⊢
          try rw [← hbb]
          try (have NE := Lib.hid (show b0 ≠ q5 by have := P5.out.lt; omega))
          try (have P5 := Lib.hid (P5.out.kept hb))
          have Bc := Lib.hid (below_on Bc.out hb)
          have P0 := Lib.hid hP
          have Z0 := Lib.hid hz
          clear hb hP hz hbb hwn
          obtain ⟨wc, hwc⟩ : ∃ wc, wc = wn := ⟨_, rfl⟩
          rw [← hwc] at Bc P0 ⊢
          try rw [← hwc] at P5
          clear hwc
          go_simp
          refine hK.out _ _ (KS.out _ Bc.out) (fun h0_1 => ?_)
          clear hK K h0
          refine wpAnyH_ready (rs := [3, 9]) (by kernel_rfl) (by simp) (AllReadyH.cons rfl (fun K hK => ?_) (AllReadyH.cons rfl (fun K hK => ?_) AllReadyH.nil))
          · rw [if_pos (by rfl)]
            obtain ⟨g, c', we, hrun, ho, hg, hgb, _⟩ := appI_run P0.out ((R0.out.on B2.out).on Bc.out) NO.out (by have := HL.out; omega) (Nat.le_trans E0.out.size (below_on B2.out Bc.out).size) 23
            rw [← HM.out] at hrun
            refine Lib.wp_append_run _ _ _ 23 23 rfl (.slice (some ⟨b0, 0, none⟩) 0 0) (.slice q t c) rfl rfl _ _ hrun ?_
            have hzz := (below_on B2.out Bc.out).size
            have ZG := Lib.hid (show w1.heap.size ≤ g by have := Z0.out; have := B2.out.size; omega)
            try (have NG := Lib.hid (show g ≠ q5 from hgb.elim (fun h => by rw [h]; exact NE.out) (fun h => by have := P5.out.lt; omega)))
            try (have P5 := Lib.hid (P5.out.grown hg (Ne.symm NE.out)))
            have Bc := Lib.hid (Below.grown Bc.out hg Bc.out.size (fun k hk => by have := Z0.out; injection hk with hk; omega))
            have G5 := Lib.hid ho
            clear hrun ho hg hgb hzz
            obtain ⟨wc, hwc⟩ : ∃ wc, wc = we := ⟨_, rfl⟩
            rw [← hwc] at Bc G5 ⊢
            try rw [← hwc] at P5
            clear hwc
            try simp only [Act.put, List.getElem_toArray, List.getElem_cons_zero, List.getElem_cons_succ, List.setIfInBounds_toArray, List.set_cons_zero, List.set_cons_succ]
            refine hK.out _ _ (KS.out _ Bc.out) (fun h0_2 => ?_)
            clear hK K h0_1
            refine wpAnyH_take (i := 8) (v := ?v7) rfl (by kernel_rfl) (by kernel_rfl) (by kernel_rfl) (fun _ _ _ h => h) (Or.inl ⟨by rfl, ?hy7⟩) h0_2 ?rest7
            case hy7 => (intro w' hS; (try dsimp only at hS); go_simp; try (with_reducible rfl))
            simp only [Act.put, List.getElem_toArray, List.getElem_cons_zero, List.getElem_cons_succ, List.setIfInBounds_toArray, List.set_cons_zero, List.set_cons_succ]
            refine wpAnyH_ready (rs := [9]) (by kernel_rfl) (by simp) (AllReadyH.cons rfl (fun K hK => ?_) AllReadyH.nil)
            rw [if_pos (by rfl)]
            go_simp
            have hb := one_more (w1 := wc) (.cells #[.slice none 0 0, .int .i64 0, .bool false] 25)
            have hP := (show BkV (wc.alloc (.cells #[.slice none 0 0, .int .i64 0, .bool false] 25)) wc.heap.size av0 from BkV.made wc av0)
            have hy := Bc.out.size
            have hz := (below_on B2.out Bc.out).size
            obtain ⟨q5, hbb⟩ : ∃ q5, q5 = wc.heap.size := ⟨_, rfl⟩
            rw [← hbb] at hP hz hy
            obtain ⟨wn, hwn⟩ : ∃ wn, wn = wc.alloc (.cells #[.slice none 0 0, .int .i64 0, .bool false] 25) := ⟨_, rfl⟩
            rw [← hwn] at hb hP ⊢
            try rw [← hbb]
            try (have NE := Lib.hid (show b0 ≠ q5 by have := P0.out.lt; omega))
            try (have NG := Lib.hid (show g ≠ q5 by have := G5.out.lt; omega))
            try (have G5 := Lib.hid (G5.out.on hb))
            try (have P0 := Lib.hid (P0.out.on hb))
            have Bc := Lib.hid (below_on Bc.out hb)
            have P5 := Lib.hid hP
            have Z5 := Lib.hid hz
            have ZQ := Lib.hid hy
            clear hb hP hz hy hbb hwn
            obtain ⟨wc, hwc⟩ : ∃ wc, wc = wn := ⟨_, rfl⟩
            rw [← hwc] at Bc P5 ⊢
            try rw [← hwc] at G5
            try rw [← hwc] at P0
            clear hwc
            go_simp
            refine hK.out _ _ (KS.out _ Bc.out) (fun h0_3 => ?_)
            clear hK K h0_2
            refine wpAnyH_ready (rs := [10]) (by kernel_rfl) (by simp) (AllReadyH.cons rfl (fun K hK => ?_) AllReadyH.nil)
            rw [if_pos (by rfl)]
            have Z52 := Lib.hid (show w2.heap.size ≤ q5 by exact ZQ.out)
            refine wp_storeV _ _ rfl q5 ⟨some ⟨g, 0, none⟩, c', a, b, s⟩ rfl (by rw [HM.out]; rfl) _ P5.out ?_
            refine hK.out _ _ (KS.out _ (Below.setRow Bc.out Z52.out _)) (fun h0_4 => ?_)
            clear hK K h0_3
            try simp only [List.set_cons_succ]
            try simp only [List.set_cons_zero]
            refine wpAnyH_done (by kernel_rfl) ?_ _
            have PE := P5.out.setRow (z := ⟨some ⟨g, 0, none⟩, c', a, b, s⟩)
            have BE := Below.setRow (below_on B2.out Bc.out) Z5.out (AV.mk (some ⟨g, 0, none⟩) c' a b s).cs
            have GE := G5.out.grown (grown_row wc q5 (AV.mk (some ⟨g, 0, none⟩) c' a b s).cs) NG.out
            go_wp2_with fail
            go_meet
            case rel => exact ⟨q5, g, c', rfl, Lib.hid PE, Lib.hid GE, Lib.hid ⟨NG.out, Z5.out, ZG.out⟩, Lib.hid BE⟩
          · rw [if_pos (by rfl)]
            go_simp
            have hb := one_more (w1 := wc) (.cells #[.slice none 0 0, .int .i64 0, .bool false] 25)
            have hP := (show BkV (wc.alloc (.cells #[.slice none 0 0, .int .i64 0, .bool false] 25)) wc.heap.size av0 from BkV.made wc av0)
            have hy := Bc.out.size
            have hz := (below_on B2.out Bc.out).size
            obtain ⟨q5, hbb⟩ : ∃ q5, q5 = wc.heap.size := ⟨_, rfl⟩
            rw [← hbb] at hP hz hy
            obtain ⟨wn, hwn⟩ : ∃ wn, wn = wc.alloc (.cells #[.slice none 0 0, .int .i64 0, .bool false] 25) := ⟨_, rfl⟩
            rw [← hwn] at hb hP ⊢
            try rw [← hbb]
            try (have NE := Lib.hid (show b0 ≠ q5 by have := P0.out.lt; omega))
            try (have NG := Lib.hid (show g ≠ q5 by have := G5.out.lt; omega))
            try (have G5 := Lib.hid (G5.out.on hb))
            try (have P0 := Lib.hid (P0.out.on hb))
            have Bc := Lib.hid (below_on Bc.out hb)
            have P5 := Lib.hid hP
            have Z5 := Lib.hid hz
            have ZQ := Lib.hid hy
            clear hb hP hz hy hbb hwn
            obtain ⟨wc, hwc⟩ : ∃ wc, wc = wn := ⟨_, rfl⟩
            rw [← hwc] at Bc P5 ⊢
            try rw [← hwc] at G5
            try rw [← hwc] at P0
            clear hwc
            go_simp
            refine hK.out _ _ (KS.out _ Bc.out) (fun h0_2 => ?_)
            clear hK K h0_1
            refine wpAnyH_ready (rs := [3]) (by kernel_rfl) (by simp) (AllReadyH.cons rfl (fun K hK => ?_) AllReadyH.nil)
            rw [if_pos (by rfl)]
            obtain ⟨g, c', we, hrun, ho, hg, hgb, _⟩ := appI_run P0.out ((R0.out.on B2.out).on Bc.out) NO.out (by have := HL.out; omega) (Nat.le_trans E0.out.size (below_on B2.out Bc.out).size) 23
            rw [← HM.out] at hrun
            refine Lib.wp_append_run _ _ _ 23 23 rfl (.slice (some ⟨b0, 0, none⟩) 0 0) (.slice q t c) rfl rfl _ _ hrun ?_
            have hzz := (below_on B2.out Bc.out).size
            have ZG := Lib.hid (show w1.heap.size ≤ g by have := Z0.out; have := B2.out.size; omega)
            try (have NG := Lib.hid (show g ≠ q5 from hgb.elim (fun h => by rw [h]; exact NE.out) (fun h => by have := P5.out.lt; omega)))
            try (have P5 := Lib.hid (P5.out.grown hg (Ne.symm NE.out)))
            have Bc := Lib.hid (Below.grown Bc.out hg Bc.out.size (fun k hk => by have := Z0.out; injection hk with hk; omega))
            have G5 := Lib.hid ho
            clear hrun ho hg hgb hzz
            obtain ⟨wc, hwc⟩ : ∃ wc, wc = we := ⟨_, rfl⟩
            rw [← hwc] at Bc G5 ⊢
            try rw [← hwc] at P5
            clear hwc
            try simp only [Act.put, List.getElem_toArray, List.getElem_cons_zero, List.getElem_cons_succ, List.setIfInBounds_toArray, List.set_cons_zero, List.set_cons_succ]
            refine hK.out _ _ (KS.out _ Bc.out) (fun h0_5 => ?_)
            clear hK K h0_2
            refine wpAnyH_take (i := 8) (v := ?v8) rfl (by kernel_rfl) (by kernel_rfl) (by kernel_rfl) (fun _ _ _ h => h) (Or.inl ⟨by rfl, ?hy8⟩) h0_5 ?rest8
            case hy8 => (intro w' hS; (try dsimp only at hS); go_simp; try (with_reducible rfl))
            simp only [Act.put, List.getElem_toArray, List.getElem_cons_zero, List.getElem_cons_succ, List.setIfInBounds_toArray, List.set_cons_zero, List.set_cons_succ]
            refine wpAnyH_ready (rs := [10]) (by kernel_rfl) (by simp) (AllReadyH.cons rfl (fun K hK => ?_) AllReadyH.nil)
            rw [if_pos (by rfl)]
            have Z52 := Lib.hid (show w2.heap.size ≤ q5 by exact ZQ.out)
            refine wp_storeV _ _ rfl q5 ⟨some ⟨g, 0, none⟩, c', a, b, s⟩ rfl (by rw [HM.out]; rfl) _ P5.out ?_
            refine hK.out _ _ (KS.out _ (Below.setRow Bc.out Z52.out _)) (fun h0_6 => ?_)
            clear hK K h0_5
            try simp only [List.set_cons_succ]
            try simp only [List.set_cons_zero]
            refine wpAnyH_done (by kernel_rfl) ?_ _
            have PE := P5.out.setRow (z := ⟨some ⟨g, 0, none⟩, c', a, b, s⟩)
            have BE := Below.setRow (below_on B2.out Bc.out) Z5.out (AV.mk (some ⟨g, 0, none⟩) c' a b s).cs
            have GE := G5.out.grown (grown_row wc q5 (AV.mk (some ⟨g, 0, none⟩) c' a b s).cs) NG.out
            go_wp2_with fail
            go_meet
            case rel => exact ⟨q5, g, c', rfl, Lib.hid PE, Lib.hid GE, Lib.hid ⟨NG.out, Z5.out, ZG.out⟩, Lib.hid BE⟩
        · rw [if_pos (by rfl)]
          go_simp
          have hb := one_more (w1 := wc) (.cells #[.slice none 0 0, .int .i64 0, .bool false] 25)
          have hP := (show BkV (wc.alloc (.cells #[.slice none 0 0, .int .i64 0, .bool false] 25)) wc.heap.size av0 from BkV.made wc av0)
          have hy := Bc.out.size
          have hz := (below_on B2.out Bc.out).size
          obtain ⟨q5, hbb⟩ : ∃ q5, q5 = wc.heap.size := ⟨_, rfl⟩
          rw [← hbb] at hP hz hy
          obtain ⟨wn, hwn⟩ : ∃ wn, wn = wc.alloc (.cells #[.slice none 0 0, .int .i64 0, .bool false] 25) := ⟨_, rfl⟩
          rw [← hwn] at hb hP ⊢
          try rw [← hbb]
          try (have NE := Lib.hid (show b0 ≠ q5 by have := P0.out.lt; omega))
          try (have NG := Lib.hid (show g ≠ q5 by have := G5.out.lt; omega))
          try (have G5 := Lib.hid (G5.out.on hb))
          try (have P0 := Lib.hid (P0.out.on hb))
          have Bc := Lib.hid (below_on Bc.out hb)
          have P5 := Lib.hid hP
          have Z5 := Lib.hid hz
          have ZQ := Lib.hid hy
          clear hb hP hz hy hbb hwn
          obtain ⟨wc, hwc⟩ : ∃ wc, wc = wn := ⟨_, rfl⟩
          rw [← hwc] at Bc P5 ⊢
          try rw [← hwc] at G5
          try rw [← hwc] at P0
          clear hwc
          go_simp
          refine hK.out _ _ (KS.out _ Bc.out) (fun h0_1 => ?_)
          clear hK K h0
          refine wpAnyH_ready (rs := [0]) (by kernel_rfl) (by simp) (AllReadyH.cons rfl (fun K hK => ?_) AllReadyH.nil)
          rw [if_pos (by rfl)]
          go_simp
          have hb := one_more (w1 := wc) (.cells #[] 2)
          have hP := OwnI.empty wc w.heap.size (Nat.le_trans E0.out.size (below_on B2.out Bc.out).size)
          have hz := Bc.out.size
          obtain ⟨b0, hbb⟩ : ∃ b0, b0 = wc.heap.size := ⟨_, rfl⟩
          rw [← hbb] at hP hz
          obtain ⟨wn, hwn⟩ : ∃ wn, wn = wc.alloc (.cells #[] 2) := ⟨_, rfl⟩
          rw [← hwn] at hb hP ⊢
          try rw [← hbb]
          try (have NE := Lib.hid (show b0 ≠ q5 by have := P5.out.lt; omega))
          try (have P5 := Lib.hid (P5.out.kept hb))
          have Bc := Lib.hid (below_on Bc.out hb)
          have P0 := Lib.hid hP
          have Z0 := Lib.hid hz
          clear hb hP hz hbb hwn
          obtain ⟨wc, hwc⟩ : ∃ wc, wc = wn := ⟨_, rfl⟩
          rw [← hwc] at Bc P0 ⊢
          try rw [← hwc] at P5
          clear hwc
          go_simp
          refine hK.out _ _ (KS.out _ Bc.out) (fun h0_7 => ?_)
          clear hK K h0_1
          refine wpAnyH_ready (rs := [3]) (by kernel_rfl) (by simp) (AllReadyH.cons rfl (fun K hK => ?_) AllReadyH.nil)
          rw [if_pos (by rfl)]
          obtain ⟨g, c', we, hrun, ho, hg, hgb, _⟩ := appI_run P0.out ((R0.out.on B2.out).on Bc.out) NO.out (by have := HL.out; omega) (Nat.le_trans E0.out.size (below_on B2.out Bc.out).size) 23
          rw [← HM.out] at hrun
          refine Lib.wp_append_run _ _ _ 23 23 rfl (.slice (some ⟨b0, 0, none⟩) 0 0) (.slice q t c) rfl rfl _ _ hrun ?_
          have hzz := (below_on B2.out Bc.out).size
          have ZG := Lib.hid (show w1.heap.size ≤ g by have := Z0.out; have := B2.out.size; omega)
          try (have NG := Lib.hid (show g ≠ q5 from hgb.elim (fun h => by rw [h]; exact NE.out) (fun h => by have := P5.out.lt; omega)))
          try (have P5 := Lib.hid (P5.out.grown hg (Ne.symm NE.out)))
          have Bc := Lib.hid (Below.grown Bc.out hg Bc.out.size (fun k hk => by have := Z0.out; injection hk with hk; omega))
          have G5 := Lib.hid ho
          clear hrun ho hg hgb hzz
          obtain ⟨wc, hwc⟩ : ∃ wc, wc = we := ⟨_, rfl⟩
          rw [← hwc] at Bc G5 ⊢
          try rw [← hwc] at P5
          clear hwc
          try simp only [Act.put, List.getElem_toArray, List.getElem_cons_zero, List.getElem_cons_succ, List.setIfInBounds_toArray, List.set_cons_zero, List.set_cons_succ]
          refine hK.out _ _ (KS.out _ Bc.out) (fun h0_8 => ?_)
          clear hK K h0_7
          refine wpAnyH_take (i := 8) (v := ?v9) rfl (by kernel_rfl) (by kernel_rfl) (by kernel_rfl) (fun _ _ _ h => h) (Or.inl ⟨by rfl, ?hy9⟩) h0_8 ?rest9
          case hy9 => (intro w' hS; (try dsimp only at hS); go_simp; try (with_reducible rfl))
          simp only [Act.put, List.getElem_toArray, List.getElem_cons_zero, List.getElem_cons_succ, List.setIfInBounds_toArray, List.set_cons_zero, List.set_cons_succ]
          refine wpAnyH_ready (rs := [10]) (by kernel_rfl) (by simp) (AllReadyH.cons rfl (fun K hK => ?_) AllReadyH.nil)
          rw [if_pos (by rfl)]
          have Z52 := Lib.hid (show w2.heap.size ≤ q5 by exact ZQ.out)
          refine wp_storeV _ _ rfl q5 ⟨some ⟨g, 0, none⟩, c', a, b, s⟩ rfl (by rw [HM.out]; rfl) _ P5.out ?_
          refine hK.out _ _ (KS.out _ (Below.setRow Bc.out Z52.out _)) (fun h0_9 => ?_)
          clear hK K h0_8
          try simp only [List.set_cons_succ]
          try simp only [List.set_cons_zero]
          refine wpAnyH_done (by kernel_rfl) ?_ _
          have PE := P5.out.setRow (z := ⟨some ⟨g, 0, none⟩, c', a, b, s⟩)
          have BE := Below.setRow (below_on B2.out Bc.out) Z5.out (AV.mk (some ⟨g, 0, none⟩) c' a b s).cs
          have GE := G5.out.grown (grown_row wc q5 (AV.mk (some ⟨g, 0, none⟩) c' a b s).cs) NG.out
          go_wp2_with fail
          go_meet
          case rel => exact ⟨q5, g, c', rfl, Lib.hid PE, Lib.hid GE, Lib.hid ⟨NG.out, Z5.out, ZG.out⟩, Lib.hid BE⟩
      case rest =>
      obtain ⟨q5, g, c', rfl, HQ, HG, HZ, HB⟩ := hcut
      obtain ⟨w3, hw3⟩ : ∃ w3, w3 = wc := ⟨_, rfl⟩
      rw [← hw3] at HQ HG HB ⊢
      clear hw3 R0 B2 SB
      have K1' := Lib.hid (K1.out.kept HB.out)
      have NQ := Lib.hid (show w.heap.size + 1 ≠ q5 ∧ w.heap.size + 1 ≠ g by have := K1.out.lt; have := HZ.out; omega)
      by_cases hd0 : d = 0
      · have HX0 := Lib.hid (show X = ⟨a, b, s⟩ by rw [HX.out]; unfold Ln.lowR; rw [if_pos (by rw [← HD.out]; exact hd0)])
        have d0 : (d == 0) = true := by simpa using hd0
        clear hd0
        have G2 := Lib.hid (HG.out.grown (grown_row w3 (w.heap.size + 1) (AV.mk (some ⟨g, 0, none⟩) c' a b s).cs) (Ne.symm NQ.out.2))
        have BW := Lib.hid (Below.setRow (below_on E0.out HB.out) (b := w.heap.size + 1) (by omega) (AV.mk (some ⟨g, 0, none⟩) c' a b s).cs)
        have KF := Lib.hid (K1'.out.setRow (z := AV.mk (some ⟨g, 0, none⟩) c' a b s))
        go_wp2_with (first | refine wpl_loadV rfl _ rfl _ rfl (AV.mk (some ⟨g, 0, none⟩) c' a b s) HQ.out.avAt ?_ | refine wpl_storeV rfl _ _ rfl _ (AV.mk (some ⟨g, 0, none⟩) c' a b s) rfl rfl _ K1'.out ?_)
        refine bodyPost_ret (results_av Tryz.results107 _ rfl KF.out) rfl ⟨g, c', by rw [HX0.out], by rw [HX0.out]; exact G2.out, BW.out⟩
      · have HX0 := Lib.hid (show X = ⟨a.map (·.tdiv d), b.tdiv d, s⟩ by rw [HX.out]; unfold Ln.lowR; rw [if_neg (by rw [← HD.out]; exact hd0), ← HD.out])
        have d0 : (d == 0) = false := by simpa using hd0
        have dz : (d = 0) = False := by simpa using hd0
        clear hd0 HX
        go_wp2_with fail
        go_loopw [6] (fun v wr => ∃ i : Nat, v = .int .i64 i ∧ i ≤ t ∧ Hid (BkV wr q5 ⟨some ⟨g, 0, none⟩, c', a, b, s⟩) ∧ Hid (OwnI wr w.heap.size g c' (mapN (·.tdiv d) i a)) ∧ Hid (Below w1.heap.size w1 wr)) (fun v _ => t - (intOf v).toNat)
        case atStart => exact ⟨0, rfl, by omega, HQ, Lib.hid (by simpa [mapN] using HG.out), HB⟩
        case round =>
          clear HQ HG HB K1'
          obtain ⟨i, rfl, hi, HQ, HG, HB⟩ := hrel
          obtain ⟨f0, f1, f2⟩ := HQ.out.facts
          simp only at f0 f1 f2
          rw [← HM.out] at f0
          by_cases hit : i < t
          · have hlt : i < a.length := by have := HM.out; omega
            have hl2 : i < (mapN (·.tdiv d) i a).length := by rw [mapN_len]; exact hlt
            obtain ⟨v, hv⟩ : ∃ v, v = gA a i := ⟨_, rfl⟩
            have g0 := HG.out.at hl2
            rw [mapN_get _ hlt, ← hv] at g0
            have g1 : wr.frozen? ⟨g, i, none⟩ = false := World.ownsRow.frozenAt HG.out i
            have hw : IntKind.i64.wrap (v.tdiv d) = v.tdiv d := by have := tdc (a := v) (d := d) (m := 9223372036854775807) (by have := YA.out v (by rw [hv]; exact gA_mem hlt); unfold A63 at this; omega); exact wrap_in _ (by omega) (by omega)
            have GP := HG.out.put i (v.tdiv d)
            have e1 : (mapN (·.tdiv d) i a).set i (v.tdiv d) = mapN (·.tdiv d) (i + 1) a := by rw [hv]; exact mapN_step _ hlt
            rw [e1] at GP
            have G2 := Lib.hid GP.1
            have Q2 := Lib.hid (HQ.out.grown GP.2 (Ne.symm HZ.out.1))
            have B2 := Lib.hid (Below.grown HB.out GP.2 HB.out.size (fun k hk => by have := HZ.out.2.2; injection hk with hk; omega))
            clear hv hlt hl2 GP e1
            go_wp2_with fail
            go_region
            go_wp2_with fail
            go_roundw
            case rel => exact ⟨i + 1, by go_num, by omega, Lib.hid (Q2.out.kept (below_drewN (Below.refl _ _) 1)), Lib.hid (G2.out.on (below_drewN (Below.refl _ _) 1)), Lib.hid (below_drewN B2.out 1)⟩
            case measure => simp [intOf]; omega
          · obtain rfl : i = t := by omega
            have MA := Lib.hid (show mapN (·.tdiv d) i a = a.map (·.tdiv d) from mapN_all _ _ (by have := HM.out; omega))
            have GA := Lib.hid (show OwnI wr w.heap.size g c' (a.map (·.tdiv d)) by rw [← MA.out]; exact HG.out)
            have f3 := HQ.out.free 1
            have hw : IntKind.i64.wrap (b.tdiv d) = b.tdiv d := by have := tdc (a := b) (d := d) (m := 9223372036854775807) (by have := YB.out; unfold A63 at this; omega); exact wrap_in _ (by omega) (by omega)
            have Q3 := Lib.hid (show BkV (wr.setCell ⟨q5, 1, none⟩ (.int .i64 (b.tdiv d))) q5 ⟨some ⟨g, 0, none⟩, c', a, b.tdiv d, s⟩ from HQ.out.putb _)
            have G3 := Lib.hid (GA.out.grown (⟨rfl, rfl, rfl, by simp, fun k _ hk => heap_setCell_other wr ⟨q5, 1, none⟩ k (.int .i64 (b.tdiv d)) (fun e => hk (by rw [e]))⟩ : wr.grownBy (wr.setCell ⟨q5, 1, none⟩ (.int .i64 (b.tdiv d))) (some q5)) HZ.out.1)
            have B3 := Lib.hid (HB.out.setCell (p := ⟨q5, 1, none⟩) HZ.out.2.1 (.int .i64 (b.tdiv d)))
            have CSE := Lib.hid (show (AV.mk (some ⟨g, 0, none⟩) c' a (b.tdiv d) s).cs = (AV.mk (some ⟨g, 0, none⟩) c' X.a X.b X.s).cs by rw [HX0.out]; simp [AV.cs, AV.cells])
            have K3 := Lib.hid (show BkV (wr.setCell ⟨q5, 1, none⟩ (.int .i64 (b.tdiv d))) (w.heap.size + 1) av0 from K1.out.kept B3.out)
            clear HQ HG HB MA GA
            go_upto_region 14 with (fail)
            clear f0 f1 f2 f3 hw
            generalize wr.setCell ⟨q5, 1, none⟩ (.int .i64 (b.tdiv d)) = w4 at *
            have G4 := Lib.hid (G3.out.grown (grown_row w4 (w.heap.size + 1) (AV.mk (some ⟨g, 0, none⟩) c' a (b.tdiv d) s).cs) (Ne.symm NQ.out.2))
            have BW := Lib.hid (Below.setRow (below_on E0.out B3.out) (b := w.heap.size + 1) (by omega) (AV.mk (some ⟨g, 0, none⟩) c' a (b.tdiv d) s).cs)
            have KF := Lib.hid (K3.out.setRow (z := AV.mk (some ⟨g, 0, none⟩) c' a (b.tdiv d) s))
            go_wp2_with (first | refine wpl_loadV rfl _ rfl _ rfl (AV.mk (some ⟨g, 0, none⟩) c' a (b.tdiv d) s) Q3.out.avAt ?_ | refine wpl_storeV rfl _ _ rfl _ (AV.mk (some ⟨g, 0, none⟩) c' a (b.tdiv d) s) rfl rfl _ K3.out ?_)
            refine bodyPost_ret (results_av Tryz.results107 _ rfl KF.out) rfl ⟨g, c', by rw [CSE.out], by rw [HX0.out]; exact G4.out, BW.out⟩
end Go.Proofs.YtefpaobboimakaaGreat

namespace Go.Proofs.YtefpaobboimakaaGreat
open Go.RowKit Go.Sort Go.Shelf

/-- A row of lines of package api of a call's own; the numbers of each lie elsewhere. -/
structure OwnV (w : World) (B : Nat) (v : Value) (L : List AV) : Prop where
  row : w.ownsRow B 25 3 v L.length (L.flatMap AV.cells)
  nums : ∀ y ∈ L, Rd1 w y.q y.a
  far : ∀ y ∈ L, ∀ p, y.q = some p → v.ownBlock ≠ some p.block ∧ p.block < w.heap.size
  nil : ∀ y ∈ L, NilOk y

/-- What is asked of a line that is put into such a row. -/
structure GoodV (w : World) (r : Option Nat) (y : AV) : Prop where
  nums : Rd1 w y.q y.a
  far : ∀ p, y.q = some p → r ≠ some p.block ∧ p.block < w.heap.size
  nil : NilOk y

theorem OwnV.empty (w : World) (B : Nat) : OwnV w B (.slice none 0 0) [] := ⟨World.ownsRow_nil w B _ _, fun y h => by simp at h, fun y h => by simp at h, fun y h => by simp at h⟩

theorem Rd1.grown {w w' : World} {r : Option Nat} {q : Option Addr} {a : List Int} (h : Rd1 w q a) (hg : w.grownBy w' r) (hq : ∀ p, q = some p → r ≠ some p.block) : Rd1 w' q a := fun t ht => by
  obtain ⟨p, e, c⟩ := h t ht
  refine ⟨p, e, ?_⟩
  rw [World.cell?_of_block (hg.block (p.add t).block (World.block_lt_of_cell? w _ c) (by rw [add_block]; exact fun e2 => hq p e e2.symm))]
  exact c

theorem av_len (y : AV) : y.cells.length = 3 := rfl

theorem vflat_len (L : List AV) : (L.flatMap AV.cells).length = L.length * 3 := by
  induction L with
  | nil => rfl
  | cons y L ih => rw [List.flatMap_cons, List.length_append, av_len, ih, List.length_cons]; omega

theorem vflat_at {L : List AV} {t : Nat} (ht : t < L.length) {j : Nat} (hj : j < 3) : (L.flatMap AV.cells)[t * 3 + j]? = (L[t]).cells[j]? := by
  induction L generalizing t with
  | nil => simp at ht
  | cons y L ih =>
    rw [List.flatMap_cons]
    cases t with
    | zero => rw [List.getElem?_append_left (by rw [av_len]; omega)]; simp
    | succ t =>
      rw [List.getElem?_append_right (by rw [av_len]; omega), show (t + 1) * 3 + j - y.cells.length = t * 3 + j by rw [av_len]; omega]
      simpa using ih (t := t) (by simpa using ht)

theorem OwnV.read {w : World} {B : Nat} {v : Value} {L : List AV} (h : OwnV w B v L) : ∃ ao cap, v = .slice ao L.length cap ∧ RdV w ao L ∧ (∀ a, ao = some a → B ≤ a.block ∧ a.off = 0 ∧ a.spot = none) := by
  rcases h.row.2 with ⟨rfl, hn⟩ | ⟨g, cap, cur, rfl, hb, hg, hc, hm, hsz, htake⟩
  · exact ⟨none, 0, by rw [hn], ⟨fun t ht => by omega, h.nums⟩, fun a h => by cases h⟩
  · refine ⟨_, cap, rfl, ⟨fun t ht => ⟨_, rfl, fun j u hu => ?_⟩, h.nums⟩, fun a h => by cases h; exact ⟨hb, rfl, rfl⟩⟩
    have hj : j < 3 := by
      by_cases q : j < 3
      · exact q
      · rw [List.getElem?_eq_none (by rw [av_len]; omega)] at hu; cases hu
    have hc := World.ownsRow.cellAt (g := g) (cap := cap) h.row
    rw [addr_add, addr_add, Nat.zero_add]
    exact (hc (t * 3 + j) (by omega)).trans ((vflat_at ht hj).trans hu)

theorem OwnV.on {w w' : World} {B : Nat} {v : Value} {L : List AV} (h : OwnV w B v L) (hb : Below w.heap.size w w') : OwnV w' B v L :=
  ⟨World.ownsRow.kept h.row (show w.grownBy w' none from ⟨hb.os, hb.tape, hb.output, hb.size, fun k hk _ => hb.block k hk⟩) (by cases v.ownBlock <;> simp),
    fun y hy => (h.nums y hy).on hb, fun y hy p e => ⟨(h.far y hy p e).1, Nat.lt_of_lt_of_le (h.far y hy p e).2 hb.size⟩, h.nil⟩

theorem av_info3 : (Tryz.prog.info? 25).map (fun i => (i.zero, i.size, i.bytes)) = some (some (.agg av0.cs), 3, 40) := by kernel_rfl

theorem appendV_run {w : World} {B : Nat} {v : Value} {L : List AV} (hown : OwnV w B v L) {b c : Nat} {y : AV} (hy : AvAt w ⟨b, 0, none⟩ y) (hG : GoodV w v.ownBlock y) (hle : L.length + 1 ≤ 1000000) (hB : B ≤ w.heap.size) (ty : TypeId) :
    ∃ v' w', (Builtin.append_ #[22, 22] ty #[v, .slice (some ⟨b, 0, none⟩) 1 c]).run Tryz.prog w = .ok v' w' ∧ OwnV w' B v' (L ++ [y]) ∧ w.grownBy w' v.ownBlock ∧ (v'.ownBlock = v.ownBlock ∨ v'.ownBlock = some w.heap.size) := by
  obtain ⟨i0, hi, hz0, hz1, hz2⟩ := info_parts av_info3
  obtain ⟨v', w', hr, h2, h3, _, h5⟩ := run_append_own_at (P := Tryz.prog) w B 22 ty 25 i0 (.agg av0.cs) 3 40 Tryz.underlying22 hi hz0 hz1 hz2 (by rfl) (by decide) v L.length _ hown.row ⟨b, 0, none⟩ 1 c y.cells
    (by rw [av_len]) (fun j u hu => hy j u hu) (by simp [AV.cells, Value.oneCell']) (by unfold maxLen; omega) (by omega) hB
  have hA : ∀ z, z ∈ L ++ [y] → Rd1 w z.q z.a ∧ (∀ p, z.q = some p → v.ownBlock ≠ some p.block ∧ p.block < w.heap.size) ∧ NilOk z := fun z hz => by
    rcases List.mem_append.1 hz with q | q
    · exact ⟨hown.nums z q, hown.far z q, hown.nil z q⟩
    · rw [List.mem_singleton] at q; subst q; exact ⟨hG.nums, hG.far, hG.nil⟩
  refine ⟨v', w', hr, ⟨?_, fun z hz => ?_, fun z hz p e => ?_, fun z hz => (hA z hz).2.2⟩, h3, h5⟩
  · rw [List.flatMap_append, List.length_append]; simpa using h2
  · exact (hA z hz).1.grown h3 (fun p e => ((hA z hz).2.1 p e).1)
  · have := (hA z hz).2.1 p e
    refine ⟨?_, Nat.lt_of_lt_of_le this.2 h3.size⟩
    rcases h5 with h5 | h5
    · rw [h5]; exact this.1
    · rw [h5]; intro e2; injection e2 with e2; omega

theorem wpl_appV {ops : Array Oper} {rest : List Oper} {o : Oper} {a : Act} {w : World} {Q : Exit → Act → World → Prop} (hgd : o.guard = none) (s x : Operand) (ho : o.op = .call { callee := .builtin .append, args := #[s, x], argTypes := #[22, 22] }) (B : Nat) (v : Value) (L : List AV) (y : AV) (hs : a.eval s = v) (hown : OwnV w B v L) (b c : Nat) (hx : a.eval x = .slice (some ⟨b, 0, none⟩) 1 c) (hy : AvAt w ⟨b, 0, none⟩ y)
    (hG : GoodV w v.ownBlock y) (hle : L.length + 1 ≤ 1000000) (hB : B ≤ w.heap.size) (h : ∀ v' w', OwnV w' B v' (L ++ [y]) → w.grownBy w' v.ownBlock → (v'.ownBlock = v.ownBlock ∨ v'.ownBlock = some w.heap.size) → wpList Tryz.prog ops Q rest (a.put o.dst v') w') : wpList Tryz.prog ops Q (o :: rest) a w := by
  obtain ⟨v', w', hr, h1, h2, h3⟩ := appendV_run hown hy hG hle hB (c := c) o.type
  have hk := h v' w' h1 h2 h3
  refine wpList_plain hgd fun K hK => ?_
  unfold Oper.wp
  simp [execOp, ho, resolve, invoke, builtin, hs, hx, hr, Result.andThen]
  exact hK _ _ hk

theorem run_bv1 (y : AV) (w : World) : (Instr.buildSlice 22 1 #[(0, .agg y.cs)]).run Tryz.prog w = .ok (.slice (some ⟨w.heap.size, 0, none⟩) 1 1) (w.alloc (.cells y.cs 25)) := by
  have hz := av_zero w
  have hs := size_of av_size w
  simp [go_sem, Instr.buildSlice, run_underlying Tryz.underlying22, hs, hz, AV.cs, AV.cells, av0, Instr.fill]

theorem wp_bv1 {w : World} {o : Oper} {a : Act} {K : Act → World → Prop} {Q : Exit → Act → World → Prop} (s : Operand) (ho : o.op = .buildSlice 22 1 #[(0, s)]) (y : AV) (hs : a.eval s = .agg y.cs)
    (h : K (a.put o.dst (.slice (some ⟨w.heap.size, 0, none⟩) 1 1)) (w.alloc (.cells y.cs 25))) : o.wp Tryz.prog a w K Q := by
  have hv := run_bv1 y w
  generalize y.cs = X at *
  unfold Oper.wp execOp
  simp only [ho]
  simp [hs, hv, Result.andThen]
  exact h

theorem wpl_bv1 {w : World} {ops : Array Oper} {rest : List Oper} {o : Oper} {a : Act} {Q : Exit → Act → World → Prop} (hgd : o.guard = none) (s : Operand) (ho : o.op = .buildSlice 22 1 #[(0, s)]) (y : AV) (hs : a.eval s = .agg y.cs)
    (h : wpList Tryz.prog ops Q rest (a.put o.dst (.slice (some ⟨w.heap.size, 0, none⟩) 1 1)) (w.alloc (.cells y.cs 25))) : wpList Tryz.prog ops Q (o :: rest) a w :=
  wpList_plain hgd fun _ hK => wp_bv1 s ho y hs (hK _ _ h)

theorem vflat_set (L : List AV) (k : Nat) (y : AV) : (((L.flatMap AV.cells).set (k * 3) (.slice y.q y.a.length y.c)).set (k * 3 + 1) (.int .i64 y.b)).set (k * 3 + 2) (.bool y.s) = (L.set k y).flatMap AV.cells := by
  induction L generalizing k with
  | nil => simp
  | cons z L ih =>
    cases k with
    | zero => simp [List.flatMap_cons, AV.cells]
    | succ k =>
      have := ih k
      simp only [List.set_cons_succ, List.flatMap_cons, ← this]
      simp [AV.cells, show (k + 1) * 3 = k * 3 + 3 by omega]

/-- An element is overwritten. -/
theorem OwnV.set {w : World} {B g cap : Nat} {L : List AV} (h : OwnV w B (.slice (some ⟨g, 0, none⟩) L.length cap) L) (k : Nat) {y : AV} (hG : GoodV w (some g) y) : OwnV (w.setCells g (k * 3) y.cells) B (.slice (some ⟨g, 0, none⟩) L.length cap) (L.set k y) ∧ w.grownBy (w.setCells g (k * 3) y.cells) (some g) := by
  obtain ⟨h1, g1⟩ := World.ownsRow.stored h.row (k * 3) (.slice y.q y.a.length y.c)
  obtain ⟨h2, g2⟩ := World.ownsRow.stored h1 (k * 3 + 1) (.int .i64 y.b)
  obtain ⟨h3, g3⟩ := World.ownsRow.stored h2 (k * 3 + 2) (.bool y.s)
  have hg : w.grownBy (w.setCells g (k * 3) y.cells) (some g) := ⟨(g3.os.trans g2.os).trans g1.os, (g3.tape.trans g2.tape).trans g1.tape, (g3.output.trans g2.output).trans g1.output, Nat.le_trans g1.size (Nat.le_trans g2.size g3.size), fun j hj hn => (g3.block j (Nat.lt_of_lt_of_le hj (Nat.le_trans g1.size g2.size)) hn).trans ((g2.block j (Nat.lt_of_lt_of_le hj g1.size) hn).trans (g1.block j hj hn))⟩
  have hA : ∀ z, z ∈ L.set k y → GoodV w (some g) z := fun z hz => by
    rcases List.mem_or_eq_of_mem_set hz with q | q
    · exact ⟨h.nums z q, h.far z q, h.nil z q⟩
    · subst q; exact hG
  refine ⟨⟨?_, fun z hz => ?_, fun z hz p e => ?_, fun z hz => (hA z hz).nil⟩, hg⟩
  · rw [vflat_set] at h3
    rw [List.length_set]; exact h3
  · exact (hA z hz).nums.grown hg (fun p e => ((hA z hz).far p e).1)
  · exact ⟨((hA z hz).far p e).1, Nat.lt_of_lt_of_le ((hA z hz).far p e).2 hg.size⟩

/-- An insertion at its place. -/
theorem ins_at {x : Ln} : ∀ {l : List Ln} {k : Nat}, k ≤ l.length → (∀ i, ∀ h : i < l.length, i < k → cmpL l[i].a x.a < 0) → (∀ h : k < l.length, ¬ cmpL l[k].a x.a < 0) →
    insN x l = if ∃ h : k < l.length, l[k].a = x.a then (if ∃ h : k < l.length, x.over l[k] = true then l.set k x else l) else l.take k ++ x :: l.drop k
  | [], 0, _, _, _ => by simp [insN]
  | [], k + 1, h, _, _ => by simp at h
  | y :: r, 0, _, _, h => by
    have h := h (by simp)
    simp only [List.getElem_cons_zero] at h
    unfold insN
    rw [if_neg h]
    simp
  | y :: r, k + 1, hk, hb, he => by
    have h0 := hb 0 (by simp) (by omega)
    simp only [List.getElem_cons_zero] at h0
    have ih := ins_at (x := x) (l := r) (k := k) (by simpa using hk) (fun i h q => by have := hb (i + 1) (by simpa using h) (by omega); simpa using this) (fun h => by have := he (by simpa using h); simpa using this)
    unfold insN
    rw [if_pos h0, ih]
    simp
    split
    · split <;> rfl
    · rfl
end Go.Proofs.YtefpaobboimakaaGreat

namespace Go.Proofs.YtefpaobboimakaaGreat
open Go.RowKit Go.Sort Go.Shelf

def zeroA (x : Ln) : Bool := x.a.all (· == 0)

def badR (l : List Ln) : Bool := l.any fun x => zeroA x.lowR && decide (x.lowR.lim ≤ 0)

def keepR (l : List Ln) : List Ln := (l.map Ln.lowR).filter fun x => !zeroA x

/-- The tidy list, as the reference has it. -/
def tidR (n : Nat) (l : List Ln) : List Ln := if badR l then [⟨List.replicate n 0, 0, true⟩] else insL (keepR l)

theorem keepR_snoc {l : List Ln} {t : Nat} (h : t < l.length) : keepR (l.take (t + 1)) = keepR (l.take t) ++ (if zeroA l[t].lowR then [] else [l[t].lowR]) := by
  unfold keepR
  rw [List.take_succ_eq_append_getElem h, List.map_append, List.filter_append]
  congr 1
  simp only [List.map_cons, List.map_nil, List.filter_cons, List.filter_nil]
  cases zeroA l[t].lowR <;> rfl

theorem dvR_63 {x : Ln} (ha : ∀ v ∈ x.a, A63 v) (hb : A63 x.b) : A63 x.dvR := gcdL_63 (by unfold A63 at *; omega) ha

theorem lowR_len (x : Ln) : x.lowR.a.length = x.a.length := by unfold Ln.lowR; split <;> simp

theorem make_ints (w : World) (n : Nat) (hn : n ≤ 1000) : (Instr.makeSlice 23 (.int .i64 n) (.int .i64 n)).run Tryz.prog w = .ok (.slice (some ⟨w.heap.size, 0, none⟩) n n) (w.alloc (.cells (List.replicate n (Value.int .i64 0)).toArray 2)) := by
  obtain ⟨i0, hi, hz0, hz1, hz2⟩ := info_parts i64_info
  have hr := run_make (P := Tryz.prog) w 23 2 i0 _ Tryz.underlying23 hi hz0 .i64 .i64 (n : Int) (n : Int) (by omega) (by omega) (by rw [hz2]; omega) (by omega)
  have e : madeCells (Value.int .i64 0).cells ((n : Int).toNat * i0.size) = (List.replicate n (Value.int .i64 0)).toArray := by
    apply Array.toList_inj.1
    rw [hz1]
    simp only [Int.toNat_natCast, Nat.mul_one]
    rw [show (Value.int .i64 0).cells = #[Value.int .i64 0] from rfl, toList_madeCells_one]
  rw [e] at hr
  simpa using hr

theorem cmp_eq {l m : List Int} : cmpL l m = 0 ↔ l = m := cmpL_zero

theorem own_one (w : World) (y : AV) (B : Nat) (hB : B ≤ w.heap.size) (hG : GoodV w none y) : OwnV (w.alloc (.cells y.cs 25)) B (.slice (some ⟨w.heap.size, 0, none⟩) 1 1) [y] := by
  have hb := one_more (w1 := w) (.cells y.cs 25)
  refine ⟨⟨by simp [AV.cells], .inr ⟨w.heap.size, 1, y.cs, rfl, hB, heap_alloc_last w _, Nat.le_refl _, by unfold maxLen; omega, by simp [AV.cs, AV.cells], by simp [AV.cs, AV.cells]⟩⟩, fun z hz => ?_, fun z hz p e => ?_, fun z hz => ?_⟩
  · rw [List.mem_singleton] at hz; subst hz; exact hG.nums.on hb
  · rw [List.mem_singleton] at hz; subst hz
    have := (hG.far p e).2
    refine ⟨fun e2 => ?_, by simp; omega⟩
    have e3 : w.heap.size = p.block := by simpa [Value.ownBlock] using e2
    omega
  · rw [List.mem_singleton] at hz; subst hz; exact hG.nil

theorem OwnV.form {w : World} {B : Nat} {v : Value} {L : List AV} (h : OwnV w B v L) (hL : 0 < L.length) : ∃ g cap, v = .slice (some ⟨g, 0, none⟩) L.length cap ∧ B ≤ g ∧ g < w.heap.size ∧ L.length ≤ cap := by
  rcases h.row.2 with ⟨rfl, hn⟩ | ⟨g, cap, cur, rfl, hb, hg, hc, hm, hsz, htake⟩
  · omega
  · exact ⟨g, cap, rfl, hb, (World.ownsRow.lt h.row g rfl).2, hc⟩

theorem OwnV.good {w : World} {B : Nat} {v : Value} {L : List AV} (h : OwnV w B v L) {y : AV} (hy : y ∈ L) : GoodV w v.ownBlock y := ⟨h.nums y hy, h.far y hy, h.nil y hy⟩

theorem OwnV.avAt {w : World} {B g cap : Nat} {L : List AV} (h : OwnV w B (.slice (some ⟨g, 0, none⟩) L.length cap) L) {i : Nat} (hi : i < L.length) : AvAt w ⟨g, i * 3, none⟩ L[i] := by
  obtain ⟨ao, c2, e, r, _⟩ := h.read
  injection e with e1 _ _
  subst e1
  obtain ⟨a, ea, c⟩ := r.at_ i hi
  cases ea
  rw [addr_add, Nat.zero_add] at c
  exact c

theorem OwnV.there {w : World} {B g cap : Nat} {L : List AV} (h : OwnV w B (.slice (some ⟨g, 0, none⟩) L.length cap) L) {i : Nat} (hi : i < L.length) : w.there g (i * 3) 3 := fun j hj => by
  have hc := World.ownsRow.cellAt (g := g) (cap := cap) h.row (i * 3 + j) (by omega)
  refine ⟨?_, World.ownsRow.frozenAt h.row _⟩
  rw [hc]
  rw [vflat_at hi hj]
  match j, hj with
  | 0, _ => rfl
  | 1, _ => rfl
  | 2, _ => rfl

theorem shift_set {O : List AV} {i : Nat} (h : i < O.length) (z : AV) : (O.take (i + 1) ++ z :: O.drop (i + 1)).set (i + 1) O[i] = O.take i ++ O[i] :: O.drop i := by
  have hl : (O.take (i + 1)).length = i + 1 := by simp; omega
  rw [List.set_append_right _ _ (by omega), hl, Nat.sub_self, List.set_cons_zero, List.take_succ_eq_append_getElem h, List.append_assoc, List.singleton_append, List.drop_eq_getElem_cons h]

theorem shift_at {O : List AV} {i : Nat} (h : i < O.length) (z : AV) (hq : i < (O.take (i + 1) ++ z :: O.drop (i + 1)).length) : (O.take (i + 1) ++ z :: O.drop (i + 1))[i] = O[i] := by
  rw [List.getElem_append_left (by simp; omega), List.getElem_take]

theorem shift_last {O : List AV} {k : Nat} (h : k ≤ O.length) (z X : AV) : (O.take k ++ z :: O.drop k).set k X = O.take k ++ X :: O.drop k := by
  have hl : (O.take k).length = k := by simp; omega
  rw [List.set_append_right _ _ (by omega), hl, Nat.sub_self, List.set_cons_zero]

theorem over_no {x y : Ln} (h : ¬ x.b < y.b) (k : x.b = y.b → x.s = false) : x.over y = false := by
  unfold Ln.over
  rw [decide_eq_false h]
  by_cases q : x.b = y.b
  · rw [k q]; simp
  · simp [q]

theorem grownT {w w1 w2 : World} {r : Option Nat} (h : w.grownBy w1 r) (k : w1.grownBy w2 r) : w.grownBy w2 r := ⟨k.os.trans h.os, k.tape.trans h.tape, k.output.trans h.output, Nat.le_trans h.size k.size, fun j hj hn => (k.block j (Nat.lt_of_lt_of_le hj h.size) hn).trans (h.block j hj hn)⟩

theorem insL_len (k : List Ln) : (insL k).length ≤ k.length := by
  suffices h : ∀ n, n ≤ k.length → (insL (k.take n)).length ≤ n by
    have := h k.length (Nat.le_refl _); rwa [List.take_length] at this
  intro n
  induction n with
  | zero => intro _; simp [insL]
  | succ n ih =>
    intro hn
    rw [List.take_succ_eq_append_getElem (show n < k.length by omega), insL_snoc]
    have : ∀ (x : Ln) (l : List Ln), (insN x l).length ≤ l.length + 1 := by
      intro x l
      induction l with
      | nil => simp [insN]
      | cons y r ihr => unfold insN; (repeat' split) <;> simp <;> omega
    have h1 := this k[n] (insL (k.take n))
    have h2 := ih (by omega)
    omega

/-- What Tidy leaves. -/
def TRes (w : World) (l : List Ln) (e : Ending) (w' : World) : Prop := ∃ v R, e = .returned v ∧ OwnV w' w.heap.size v R ∧ R.map lnV = l ∧ Below w.heap.size w w'

set_option maxRecDepth 100000 in
set_option maxHeartbeats 8000000 in
theorem rtidy_any (n : Nat) (L : List AV) (ao : Option Addr) (cap : Nat) (w : World) (hn : n ≤ 100) (hl : L.length ≤ 100000) (hR : RdV w ao L) (hY : ∀ y ∈ L, y.a.length = n ∧ NilOk y ∧ (∀ v ∈ y.a, A63 v) ∧ A63 y.b) :
    Calls Tryz.prog 73 #[.int .i64 n, .slice ao L.length cap] w (TRes w (tidR n (L.map lnV))) := by
  obtain ⟨m, hm⟩ : ∃ m, m = L.length := ⟨_, rfl⟩
  have HM := Lib.hid hm
  have HR := Lib.hid hR
  have HY := Lib.hid hY
  have hle : m ≤ 100000 := by omega
  obtain ⟨T, hT⟩ : ∃ T, T = tidR n (L.map lnV) := ⟨_, rfl⟩
  have HT := Lib.hid hT
  have MK := Lib.hid (fun W => make_ints W n (by omega))
  have N100 := Lib.hid hn
  have hz := av_zero
  rw [← hT, ← hm]
  clear hl hR hY hT hm
  go_enter Tryz.func73, Tryz.ntmps73
  go_wp2_with fail
  go_loopw [5, 6] (fun v s wr => ∃ t : Nat, s = .int .i64 t ∧ t ≤ m ∧ Hid (badR ((L.map lnV).take t) = false) ∧ Hid (∃ O, OwnV wr w.heap.size v O ∧ O.map lnV = insL (keepR ((L.map lnV).take t))) ∧ Hid (Below w.heap.size w wr)) (fun _ s _ => m - (intOf s).toNat)
  case atStart => exact ⟨0, rfl, by omega, Lib.hid rfl, Lib.hid ⟨[], OwnV.empty _ _, rfl⟩, Lib.hid (Below.refl _ _)⟩
  case round =>
    obtain ⟨t, rfl, ht, HF, HO, HB⟩ := hrel
    by_cases htm : t < m
    · have hlt : t < L.length := by have := HM.out; omega
      obtain ⟨p, hp, c0⟩ := (HR.out.on HB.out).at_ t hlt
      obtain ⟨y, hy⟩ : ∃ y, y = L[t] := ⟨_, rfl⟩
      have hmem := List.getElem_mem hlt
      rw [← hy] at c0 hmem
      have C0 := Lib.hid c0
      have YY := Lib.hid (HY.out y hmem)
      have YN := Lib.hid ((HR.out.on HB.out).nums y hmem)
      have hlm : t < (L.map lnV).length := by simpa using hlt
      have KS := Lib.hid (show keepR ((L.map lnV).take (t + 1)) = keepR ((L.map lnV).take t) ++ (if zeroA (lnV y).lowR then [] else [(lnV y).lowR]) by rw [keepR_snoc hlm]; simp [hy])
      have BS := Lib.hid (show badR ((L.map lnV).take (t + 1)) = (zeroA (lnV y).lowR && decide ((lnV y).lowR.lim ≤ 0)) by
        have h := HF.out
        unfold badR at h ⊢
        rw [List.take_succ_eq_append_getElem hlm, List.any_append, h]; simp [hy])
      have BT := Lib.hid (show (zeroA (lnV y).lowR && decide ((lnV y).lowR.lim ≤ 0)) = true → T = [⟨List.replicate n 0, 0, true⟩] from fun h => by
        rw [HT.out]; unfold tidR
        rw [if_pos]
        unfold badR
        rw [List.any_eq_true]
        exact ⟨lnV y, List.mem_map.2 ⟨y, hmem, rfl⟩, h⟩)
      obtain ⟨O, hO, eO⟩ := HO.out
      have OL := Lib.hid (show O.length ≤ t by
        have h1 := congrArg List.length eO
        rw [List.length_map] at h1
        rw [h1]
        refine Nat.le_trans (insL_len _) ?_
        unfold keepR
        refine Nat.le_trans (List.length_filter_le _ _) ?_
        simp; omega)
      have OW := Lib.hid hO
      have EO := Lib.hid eO
      obtain ⟨K, hK⟩ : ∃ K, K = keepR ((L.map lnV).take t) := ⟨_, rfl⟩
      have KA := Lib.hid (show ∀ z ∈ K, z.a.length = n from fun z hz' => by
        rw [hK] at hz'
        unfold keepR at hz'
        obtain ⟨h1, _⟩ := List.mem_filter.1 hz'
        obtain ⟨u, hu, rfl⟩ := List.mem_map.1 h1
        rw [lowR_len]
        obtain ⟨y', hy', rfl⟩ := List.mem_map.1 (List.mem_of_mem_take hu)
        exact (HY.out y' hy').1)
      rw [← hK] at EO KS
      have LEN := Lib.hid (show (lnV y).lowR.a.length = n by rw [lowR_len]; exact YY.out.1)
      obtain ⟨x, hx⟩ : ∃ x, x = (lnV y).lowR := ⟨_, rfl⟩
      have LO := Lib.hid (rlowest_any y wr (by have := YY.out.1; omega) YN.out YY.out.2.1 YY.out.2.2.1 YY.out.2.2.2)
      rw [← hx] at KS BS BT LEN LO
      have HTN := Lib.hid htm
      subst hp
      clear c0 hmem hlm hlt hy hO eO HO hK hx
      go_wp2_with (refine wpl_loadV rfl _ rfl _ rfl y C0.out ?_)
      refine LO.out.mono ?_
      rintro e w1 ⟨g, cg, rfl, hg, hb⟩
      obtain ⟨X, hX⟩ : ∃ X, X = AV.mk (some ⟨g, 0, none⟩) cg x.a x.b x.s := ⟨_, rfl⟩
      have XC := Lib.hid hX
      rw [← hX]
      have N1 := Lib.hid (show BkV (w1.alloc (.cells av0.cs 25)) w1.heap.size av0 from BkV.made w1 av0)
      have N2 := Lib.hid (N1.out.setRow (z := X))
      have B2 := Lib.hid (Below.setRow ((Below.refl w1.heap.size w1).alloc (Nat.le_refl _) (.cells av0.cs 25)) (b := w1.heap.size) (Nat.le_refl _) X.cs)
      have OW1 := Lib.hid (OW.out.on hb)
      have HB1 := Lib.hid (below_on HB.out hb)
      have G1 := Lib.hid hg
      have GZ := Lib.hid (show wr.heap.size ≤ g ∧ g < w1.heap.size from hg.lt)
      have OB := Lib.hid (fun b (e : (v : Value) → v.ownBlock = some b → True) => trivial)
      have OBB := Lib.hid (fun b hb' => (World.ownsRow.lt OW.out.row b hb').2)
      clear OB
      clear hX hg hb OW HB YN LO C0
      go_upto_region 6 with (refine wpl_storeV rfl _ _ rfl _ X rfl rfl _ N1.out ?_)
      generalize (w1.alloc (.cells av0.cs 25)).setRow w1.heap.size X.cs = w2 at *
      obtain ⟨q7, hq7⟩ : ∃ q7, q7 = w1.heap.size := ⟨_, rfl⟩
      have OW2 := Lib.hid (OW1.out.on B2.out)
      have HB2 := Lib.hid (below_on HB1.out B2.out)
      have G2 := Lib.hid (G1.out.on B2.out)
      have Z7 := Lib.hid (show wr.heap.size ≤ g ∧ g < q7 ∧ w.heap.size ≤ q7 ∧ q7 < w2.heap.size by have := GZ.out; have h2 := HB1.out.size; have h3 := N2.out.lt; omega)
      rw [← hq7] at N2 ⊢
      obtain ⟨f0, f1, f2⟩ := N2.out.facts
      rw [XC.out] at f0 f1 f2
      simp only at f0 f1 f2
      rw [LEN.out] at f0
      have F0 := Lib.hid f0
      have F1 := Lib.hid f1
      have F2 := Lib.hid f2
      clear N1 B2 OW1 HB1 G1 GZ hq7
      have RZ := Lib.hid (rzero_any x.a (some ⟨g, 0, none⟩) cg w2 (by have := LEN.out; have := N100.out; omega) G2.out.rd)
      rw [LEN.out] at RZ
      go_wp2_with fail
      refine RZ.out.mono ?_
      rintro e w3 ⟨rfl, rfl⟩
      clear RZ
      have ZX : x.a.all (· == 0) = zeroA x := rfl
      rw [ZX]
      clear ZX
      cases hzx : zeroA x
      rotate_left
      · rw [hzx] at KS BS BT
        have KN := Lib.hid (show keepR ((L.map lnV).take (t + 1)) = K by rw [KS.out]; simp)
        by_cases h1 : x.b < 0
        · have TB := Lib.hid (BT.out (by simp; unfold Ln.lim; split <;> omega))
          have Y1 := Lib.hid (show GoodV (w3.alloc (.cells (Array.replicate n (Value.int .i64 0)) 2)) none (AV.mk (some ⟨w3.heap.size, 0, none⟩) n (List.replicate n 0) 0 true) from
            ⟨fun u hu => ⟨_, rfl, by rw [addr_add, Nat.zero_add, cell_of_row _ w3.heap.size u _ _ _ (heap_alloc_last w3 _)]; simp at hu; simp [gA, hu]⟩, fun p e => ⟨by simp, by cases e; simp⟩, fun e => by (cases e), by simp, by have := N100.out; show n ≤ maxLen; unfold maxLen; omega⟩)
          have YO := Lib.hid (show OwnV ((w3.alloc (.cells (Array.replicate n (Value.int .i64 0)) 2)).alloc (.cells (AV.mk (some ⟨w3.heap.size, 0, none⟩) n (List.replicate n 0) 0 true).cs 25)) w.heap.size (.slice (some ⟨w3.heap.size + 1, 0, none⟩) 1 1) [AV.mk (some ⟨w3.heap.size, 0, none⟩) n (List.replicate n 0) 0 true] by have := own_one (w3.alloc (.cells (Array.replicate n (Value.int .i64 0)) 2)) _ w.heap.size (Nat.le_trans HB2.out.size (by simp)) Y1.out; simpa using this)
          have YB := Lib.hid (show Below w.heap.size w ((w3.alloc (.cells (Array.replicate n (Value.int .i64 0)) 2)).alloc (.cells (AV.mk (some ⟨w3.heap.size, 0, none⟩) n (List.replicate n 0) 0 true).cs 25)) from below_on HB2.out (past_two (Below.refl _ _)))
          have TBB := Lib.hid (show ([AV.mk (some ⟨w3.heap.size, 0, none⟩) n (List.replicate n 0) 0 true] : List AV).map lnV = T by rw [TB.out]; rfl)
          go_wp2_with (first | rw [MK.out] | refine wpl_bv1 rfl _ rfl (AV.mk (some ⟨w3.heap.size, 0, none⟩) n (List.replicate n 0) 0 true) (by simp [AV.cs, AV.cells, Act.eval, av0]) ?_)
          go_ret
          exact ⟨.slice (some ⟨w3.heap.size + 1, 0, none⟩) 1 1, _, rfl, YO.out, TBB.out, YB.out⟩
        · by_cases h2 : x.b = 0
          · have e2 : (x.b == 0) = true := by simpa using h2
            obtain ⟨xs, hxs⟩ : ∃ xs, xs = x.s := ⟨_, rfl⟩
            cases xs
            · rw [← hxs] at f2
              have HXS := Lib.hid hxs
              have H2 := Lib.hid h2
              clear hxs h2
              have FB := Lib.hid (show badR ((L.map lnV).take (t + 1)) = false by rw [BS.out]; simp; unfold Ln.lim; rw [← HXS.out, if_neg (by simp)]; have := H2.out; omega)
              go_wp2_with fail
              go_roundw
              case rel => exact ⟨t + 1, by go_num, by omega, FB, Lib.hid ⟨O, OW2.out, by rw [KN.out]; exact EO.out⟩, HB2⟩
              case measure => simp [intOf]; omega
            · rw [← hxs] at f2
              have TB := Lib.hid (BT.out (by simp; unfold Ln.lim; rw [← hxs]; simp; omega))
              clear hxs h2
              have Y1 := Lib.hid (show GoodV (w3.alloc (.cells (Array.replicate n (Value.int .i64 0)) 2)) none (AV.mk (some ⟨w3.heap.size, 0, none⟩) n (List.replicate n 0) 0 true) from
                ⟨fun u hu => ⟨_, rfl, by rw [addr_add, Nat.zero_add, cell_of_row _ w3.heap.size u _ _ _ (heap_alloc_last w3 _)]; simp at hu; simp [gA, hu]⟩, fun p e => ⟨by simp, by cases e; simp⟩, fun e => by (cases e), by simp, by have := N100.out; show n ≤ maxLen; unfold maxLen; omega⟩)
              have YO := Lib.hid (show OwnV ((w3.alloc (.cells (Array.replicate n (Value.int .i64 0)) 2)).alloc (.cells (AV.mk (some ⟨w3.heap.size, 0, none⟩) n (List.replicate n 0) 0 true).cs 25)) w.heap.size (.slice (some ⟨w3.heap.size + 1, 0, none⟩) 1 1) [AV.mk (some ⟨w3.heap.size, 0, none⟩) n (List.replicate n 0) 0 true] by have := own_one (w3.alloc (.cells (Array.replicate n (Value.int .i64 0)) 2)) _ w.heap.size (Nat.le_trans HB2.out.size (by simp)) Y1.out; simpa using this)
              have YB := Lib.hid (show Below w.heap.size w ((w3.alloc (.cells (Array.replicate n (Value.int .i64 0)) 2)).alloc (.cells (AV.mk (some ⟨w3.heap.size, 0, none⟩) n (List.replicate n 0) 0 true).cs 25)) from below_on HB2.out (past_two (Below.refl _ _)))
              have TBB := Lib.hid (show ([AV.mk (some ⟨w3.heap.size, 0, none⟩) n (List.replicate n 0) 0 true] : List AV).map lnV = T by rw [TB.out]; rfl)
              go_wp2_with (first | rw [MK.out] | refine wpl_bv1 rfl _ rfl (AV.mk (some ⟨w3.heap.size, 0, none⟩) n (List.replicate n 0) 0 true) (by simp [AV.cs, AV.cells, Act.eval, av0]) ?_)
              go_ret
              exact ⟨.slice (some ⟨w3.heap.size + 1, 0, none⟩) 1 1, _, rfl, YO.out, TBB.out, YB.out⟩
          · have e2 : (x.b == 0) = false := by simpa using h2
            have H2 := Lib.hid h2
            have H1 := Lib.hid h1
            clear h2
            have FB := Lib.hid (show badR ((L.map lnV).take (t + 1)) = false by rw [BS.out]; simp; unfold Ln.lim; have := H2.out; have := H1.out; split <;> omega)
            go_wp2_with fail
            go_roundw
            case rel => exact ⟨t + 1, by go_num, by omega, FB, Lib.hid ⟨O, OW2.out, by rw [KN.out]; exact EO.out⟩, HB2⟩
            case measure => simp [intOf]; omega
      · rw [hzx] at KS BS
        have FB := Lib.hid (show badR ((L.map lnV).take (t + 1)) = false by rw [BS.out]; rfl)
        have KN := Lib.hid (show keepR ((L.map lnV).take (t + 1)) = K ++ [x] by rw [KS.out]; simp)
        clear KS BS BT hzx
        obtain ⟨ao2, cp2, rfl, rd2, rf2⟩ := OW2.out.read
        obtain ⟨N, hN⟩ : ∃ N, N = O.length := ⟨_, rfl⟩
        have HN := Lib.hid hN
        have NL := Lib.hid (show N ≤ 100000 by have := OL.out; omega)
        have nle := NL.out
        have EL := Lib.hid (show ∀ i, ∀ h : i < O.length, O[i].a.length = n from fun i h => by
          have h1 : lnV O[i] ∈ insL K := by rw [← EO.out]; exact List.mem_map.2 ⟨_, List.getElem_mem h, rfl⟩
          exact KA.out _ (((insL_ok K).2 _).1 h1).1)
        have AL := Lib.hid (show ∀ i, ∀ h : i < O.length, ∃ b0, ao2 = some ⟨b0, 0, none⟩ ∧ AvAt w3 ⟨b0, i * 3, none⟩ O[i] from fun i h => by
          obtain ⟨a, e, c⟩ := rd2.at_ i h
          obtain ⟨_, h2, h3⟩ := rf2 a e
          obtain ⟨ab, ax, asp⟩ := a
          simp only at h2 h3
          subst h2 h3
          rw [addr_add, Nat.zero_add] at c
          exact ⟨ab, e, c⟩)
        have EN := Lib.hid rd2.nums
        rw [← hN]
        clear rd2 rf2 hN
        obtain ⟨w4, hw4⟩ : ∃ w4, w4 = w3 := ⟨_, rfl⟩
        rw [← hw4] at N2 OW2 HB2 G2 Z7 f0 f1 f2 F0 F1 F2 AL EN ⊢
        clear hw4
        go_wp2_with fail
        go_loopw [8] (fun s wr => ∃ k : Nat, s = .int .i64 k ∧ k ≤ N ∧ Hid (∀ i, ∀ h : i < O.length, i < k → cmpL O[i].a x.a < 0) ∧ ∃ j, wr = w4.drewN j) (fun s _ => N - (intOf s).toNat)
        case atStart => exact ⟨0, rfl, by omega, Lib.hid (fun i h h' => by omega), 0, rfl⟩
        case round =>
          obtain ⟨k, rfl, hk, HK, j, rfl⟩ := hrel
          by_cases hkN : k < N
          · have hkO : k < O.length := by rw [← HN.out]; exact hkN
            obtain ⟨b0, ea, ca⟩ := AL.out k hkO
            obtain ⟨z, hzz⟩ : ∃ z, z = O[k] := ⟨_, rfl⟩
            have ZM := Lib.hid (show z ∈ O by rw [hzz]; exact List.getElem_mem hkO)
            have ZL := Lib.hid (show z.a.length = n by rw [hzz]; exact EL.out k hkO)
            have ZE := Lib.hid (show ∀ h : k < O.length, z = O[k] from fun _ => hzz)
            rw [← hzz] at ca
            have CA := Lib.hid ca
            have z0 := Lib.hid (show w4.cell? ⟨b0, k * 3, none⟩ = some (.slice z.q n z.c) by have := ca 0 _ rfl; rw [addr_add, Nat.add_zero] at this; rw [this, ZL.out])
            have z1 := Lib.hid (show w4.cell? ⟨b0, k * 3 + 1, none⟩ = some (.int .i64 z.b) by have := ca 1 _ rfl; rwa [addr_add] at this)
            have ZR := Lib.hid (EN.out z ZM.out)
            obtain ⟨r, hr0⟩ : ∃ r, r = cmpL z.a x.a := ⟨_, rfl⟩
            have RR := Lib.hid hr0
            have OR := Lib.hid (fun W (h : Below w4.heap.size w4 W) => rorder_any z.a x.a z.q (some ⟨g, 0, none⟩) z.c cg W (by have := ZL.out; have := N100.out; omega) (by rw [ZL.out, LEN.out]) (ZR.out.on h) (G2.out.rd.on h))
            rw [ZL.out, LEN.out, ← hr0] at OR
            have EAA := Lib.hid ea
            subst ea
            clear ca hzz hr0 hkO
            obtain ⟨wp, hwp⟩ : ∃ wp, wp = w4.drewN j := ⟨_, rfl⟩
            have DP := Lib.hid (show ∃ j, wp = w4.drewN j by rw [hwp]; exact ⟨j, rfl⟩)
            have BP := Lib.hid (show Below w4.heap.size w4 wp by obtain ⟨a, ha⟩ := DP.out; rw [ha]; exact below_drewN (Below.refl _ _) a)
            rw [← hwp]
            clear hwp
            go_wp2_with fail
            have KS := Lib.hid (show ∀ W, Below wp.heap.size wp W → (W.cell? ⟨q7, 0, none⟩ = some (.slice (some ⟨g, 0, none⟩) n cg) ∧ W.cell? ⟨b0, k * 3, none⟩ = some (.slice z.q n z.c)) from fun W h => ⟨kept h (kept BP.out F0.out), kept h (kept BP.out z0.out)⟩)
            obtain ⟨wc, hwc⟩ : ∃ wc, wc = wp.drew := ⟨_, rfl⟩
            have Bc := Lib.hid (show Below wp.heap.size wp wc by rw [hwc]; exact (Below.refl _ _).drew)
            have DW := Lib.hid (show ∃ j, wc = w4.drewN j by obtain ⟨a, ha⟩ := DP.out; exact ⟨a + 1, by rw [hwc, ha]; exact World.drewN_drewN w4 a 1⟩)
            refine wp_region_held_drew (S := (fun W => (W.cell? ⟨q7, 0, none⟩ = some (.slice (some ⟨g, 0, none⟩) n cg) ∧ W.cell? ⟨b0, k * 3, none⟩ = some (.slice z.q n z.c)))) (by kernel_rfl) (by rw [← hwc]; exact KS.out _ Bc.out) (fun h0 => ?_)
            rw [← hwc] at h0 ⊢
            clear hwc
            refine wpAnyH_take (i := 0) (v := ?v13) rfl (by kernel_rfl) (by kernel_rfl) (by kernel_rfl) (fun _ _ _ h => h) (Or.inl ⟨by rfl, ?hy13⟩) h0 ?rest13
            case hy13 => (intro w' hS; (try dsimp only at hS); go_simp; try (with_reducible rfl))
            simp only [Act.put, List.getElem_toArray, List.getElem_cons_zero, List.setIfInBounds_toArray, List.set_cons_zero, List.set_cons_succ]
            refine wpAnyH_take (i := 1) (v := ?v14) rfl (by kernel_rfl) (by kernel_rfl) (by kernel_rfl) (fun _ _ _ h => h) (Or.inl ⟨by rfl, ?hy14⟩) h0 ?rest14
            case hy14 => (intro w' hS; (try dsimp only at hS); go_simp; try (with_reducible rfl))
            simp only [Act.put, List.getElem_toArray, List.getElem_cons_zero, List.getElem_cons_succ, List.setIfInBounds_toArray, List.set_cons_zero, List.set_cons_succ]
            refine wpAnyH_take (i := 2) (v := ?v15) rfl (by kernel_rfl) (by kernel_rfl) (by kernel_rfl) (fun _ _ _ h => h) (Or.inl ⟨by rfl, ?hy15⟩) h0 ?rest15
            case hy15 => (intro w' hS; (try dsimp only at hS); go_simp; try (with_reducible rfl))
            simp only [Act.put, List.getElem_toArray, List.getElem_cons_zero, List.getElem_cons_succ, List.setIfInBounds_toArray, List.set_cons_zero, List.set_cons_succ]
            refine wpAnyH_take (i := 3) (v := ?v16) rfl (by kernel_rfl) (by kernel_rfl) (by kernel_rfl) (fun _ _ _ h => h) (Or.inl ⟨by rfl, ?hy16⟩) h0 ?rest16
            case hy16 => (intro w' hS; (try dsimp only at hS); go_simp; try (with_reducible rfl))
            simp only [Act.put, List.getElem_toArray, List.getElem_cons_zero, List.getElem_cons_succ, List.setIfInBounds_toArray, List.set_cons_zero, List.set_cons_succ]
            refine wpAnyH_take (i := 4) (v := ?v17) rfl (by kernel_rfl) (by kernel_rfl) (by kernel_rfl) (fun _ _ _ h => h) (Or.inl ⟨by rfl, ?hy17⟩) h0 ?rest17
            case hy17 => (intro w' hS; (try dsimp only at hS); go_simp; try (with_reducible rfl))
            simp only [Act.put, List.getElem_toArray, List.getElem_cons_zero, List.getElem_cons_succ, List.setIfInBounds_toArray, List.set_cons_zero, List.set_cons_succ]
            refine wpAnyH_take (i := 5) (v := ?v18) rfl (by kernel_rfl) (by kernel_rfl) (by kernel_rfl) (fun _ _ _ h => h) (Or.inl ⟨by rfl, ?hy18⟩) h0 ?rest18
            case hy18 => (intro w' hS; (try dsimp only at hS); go_simp; try (with_reducible rfl))
            simp only [Act.put, List.getElem_toArray, List.getElem_cons_zero, List.getElem_cons_succ, List.setIfInBounds_toArray, List.set_cons_zero, List.set_cons_succ]
            refine wpAnyH_take (i := 6) (v := ?v19) rfl (by kernel_rfl) (by kernel_rfl) (by kernel_rfl) (fun _ _ _ h => h) (Or.inl ⟨by rfl, ?hy19⟩) h0 ?rest19
            case hy19 => (intro w' hS; (try dsimp only at hS); go_simp; try (with_reducible rfl))
            simp only [Act.put, List.getElem_toArray, List.getElem_cons_zero, List.getElem_cons_succ, List.setIfInBounds_toArray, List.set_cons_zero, List.set_cons_succ]
            refine wpAnyH_take (i := 7) (v := ?v20) rfl (by kernel_rfl) (by kernel_rfl) (by kernel_rfl) (fun _ _ _ h => h) (Or.inl ⟨by rfl, ?hy20⟩) h0 ?rest20
            case hy20 => (intro w' hS; (try dsimp only at hS); go_simp; try (with_reducible rfl))
            simp only [Act.put, List.getElem_toArray, List.getElem_cons_zero, List.getElem_cons_succ, List.setIfInBounds_toArray, List.set_cons_zero, List.set_cons_succ]
            refine wpAnyH_take (i := 8) (v := ?v21) rfl (by kernel_rfl) (by kernel_rfl) (by kernel_rfl) (fun _ _ _ h => h) (Or.inl ⟨by rfl, ?hy21⟩) h0 ?rest21
            case hy21 => (intro w' hS; (try dsimp only at hS); go_simp; try (with_reducible rfl))
            simp only [Act.put, List.getElem_toArray, List.getElem_cons_zero, List.getElem_cons_succ, List.setIfInBounds_toArray, List.set_cons_zero, List.set_cons_succ]
            refine wpAnyH_take (i := 9) (v := ?v22) rfl (by kernel_rfl) (by kernel_rfl) (by kernel_rfl) (fun _ _ _ h => h) (Or.inl ⟨by rfl, ?hy22⟩) h0 ?rest22
            case hy22 => (intro w' hS; (try dsimp only at hS); go_simp; try (with_reducible rfl))
            simp only [Act.put, List.getElem_toArray, List.getElem_cons_zero, List.getElem_cons_succ, List.setIfInBounds_toArray, List.set_cons_zero, List.set_cons_succ]
            refine wpAnyH_take (i := 10) (v := ?v23) rfl (by kernel_rfl) (by kernel_rfl) (by kernel_rfl) (fun _ _ _ h => h) (Or.inl ⟨by rfl, ?hy23⟩) h0 ?rest23
            case hy23 => (intro w' hS; (try dsimp only at hS); go_simp; try (with_reducible rfl))
            simp only [Act.put, List.getElem_toArray, List.getElem_cons_zero, List.getElem_cons_succ, List.setIfInBounds_toArray, List.set_cons_zero, List.set_cons_succ]
            refine wpAnyH_take (i := 11) (v := ?v24) rfl (by kernel_rfl) (by kernel_rfl) (by kernel_rfl) (fun _ _ _ h => h) (Or.inl ⟨by rfl, ?hy24⟩) h0 ?rest24
            case hy24 => (intro w' hS; (try dsimp only at hS); go_simp; try (with_reducible rfl))
            simp only [Act.put, List.getElem_toArray, List.getElem_cons_zero, List.getElem_cons_succ, List.setIfInBounds_toArray, List.set_cons_zero, List.set_cons_succ]
            refine wpAnyH_ready (rs := [12]) (by kernel_rfl) (by simp) (AllReadyH.cons rfl (fun K hK => ?_) AllReadyH.nil)
            rw [if_pos (by rfl)]
            go_simp
            refine (OR.out wc (BP.out.trans (Bc.out.mono BP.out.size))).mono ?_
            rintro e wd ⟨rfl, j3, hwd⟩
            have DW := Lib.hid (show ∃ j, wd = w4.drewN j by obtain ⟨a, ha⟩ := DW.out; exact ⟨a + j3, by rw [hwd, ha]; exact World.drewN_drewN w4 a j3⟩)
            have Bc := Lib.hid (show Below wp.heap.size wp wd by rw [hwd]; exact below_drewN Bc.out j3)
            clear hwd
            obtain ⟨wc, hwc⟩ : ∃ wc, wc = wd := ⟨_, rfl⟩
            rw [← hwc] at DW Bc ⊢
            clear hwc
            go_simp
            refine hK.out _ _ (KS.out _ Bc.out) (fun h0_1 => ?_)
            clear hK K h0
            refine wpAnyH_take (i := 13) (v := ?v25) rfl (by kernel_rfl) (by kernel_rfl) (by kernel_rfl) (fun _ _ _ h => h) (Or.inl ⟨by rfl, ?hy25⟩) h0_1 ?rest25
            case hy25 => (intro w' hS; (try dsimp only at hS); go_simp; try (with_reducible rfl))
            simp only [Act.put, List.getElem_toArray, List.getElem_cons_zero, List.getElem_cons_succ, List.setIfInBounds_toArray, List.set_cons_zero, List.set_cons_succ]
            refine wpAnyH_take (i := 14) (v := ?v26) rfl (by kernel_rfl) (by kernel_rfl) (by kernel_rfl) (fun _ _ _ h => h) (Or.inl ⟨by rfl, ?hy26⟩) h0_1 ?rest26
            case hy26 => (intro w' hS; (try dsimp only at hS); go_simp; try (with_reducible rfl))
            simp only [Act.put, List.getElem_toArray, List.getElem_cons_zero, List.getElem_cons_succ, List.setIfInBounds_toArray]
            try simp only [List.set_cons_succ]
            try simp only [List.set_cons_zero]
            refine wpAnyH_done (by kernel_rfl) ?_ _
            by_cases hr : r < 0
            · have HK' := Lib.hid (show ∀ i, ∀ h : i < O.length, i < k + 1 → cmpL O[i].a x.a < 0 from fun i h hi => by
                by_cases e : i = k
                · subst e; rw [← ZE.out h, ← RR.out]; exact hr
                · exact HK.out i h (by omega))
              obtain ⟨a, ha⟩ := DW.out
              go_wp2_with fail
              go_roundw
              case rel => exact ⟨k + 1, by go_num, by omega, HK', a, rfl⟩
              case measure => simp [intOf]; omega
            · have HR := Lib.hid hr
              obtain ⟨wp, hwp⟩ : ∃ wp, wp = wc := ⟨_, rfl⟩
              have DP := Lib.hid (show ∃ j, wp = w4.drewN j by rw [hwp]; exact DW.out)
              have BP := Lib.hid (show Below w4.heap.size w4 wp by obtain ⟨a, ha⟩ := DP.out; rw [ha]; exact below_drewN (Below.refl _ _) a)
              rw [← hwp]
              clear hwp
              go_wp2_with fail
              have KS := Lib.hid (show ∀ W, Below wp.heap.size wp W → (W.cell? ⟨q7, 0, none⟩ = some (.slice (some ⟨g, 0, none⟩) n cg) ∧ W.cell? ⟨b0, k * 3, none⟩ = some (.slice z.q n z.c)) from fun W h => ⟨kept h (kept BP.out F0.out), kept h (kept BP.out z0.out)⟩)
              obtain ⟨wc, hwc⟩ : ∃ wc, wc = wp.drew := ⟨_, rfl⟩
              have Bc := Lib.hid (show Below wp.heap.size wp wc by rw [hwc]; exact (Below.refl _ _).drew)
              have DW := Lib.hid (show ∃ j, wc = w4.drewN j by obtain ⟨a, ha⟩ := DP.out; exact ⟨a + 1, by rw [hwc, ha]; exact World.drewN_drewN w4 a 1⟩)
              refine wp_region_held_drew (S := (fun W => (W.cell? ⟨q7, 0, none⟩ = some (.slice (some ⟨g, 0, none⟩) n cg) ∧ W.cell? ⟨b0, k * 3, none⟩ = some (.slice z.q n z.c)))) (by kernel_rfl) (by rw [← hwc]; exact KS.out _ Bc.out) (fun h0 => ?_)
              rw [← hwc] at h0 ⊢
              clear hwc
              refine wpAnyH_take (i := 0) (v := ?v27) rfl (by kernel_rfl) (by kernel_rfl) (by kernel_rfl) (fun _ _ _ h => h) (Or.inl ⟨by rfl, ?hy27⟩) h0 ?rest27
              case hy27 => (intro w' hS; (try dsimp only at hS); go_simp; try (with_reducible rfl))
              simp only [Act.put, List.getElem_toArray, List.getElem_cons_zero, List.setIfInBounds_toArray, List.set_cons_zero, List.set_cons_succ]
              refine wpAnyH_take (i := 1) (v := ?v28) rfl (by kernel_rfl) (by kernel_rfl) (by kernel_rfl) (fun _ _ _ h => h) (Or.inl ⟨by rfl, ?hy28⟩) h0 ?rest28
              case hy28 => (intro w' hS; (try dsimp only at hS); go_simp; try (with_reducible rfl))
              simp only [Act.put, List.getElem_toArray, List.getElem_cons_zero, List.getElem_cons_succ, List.setIfInBounds_toArray, List.set_cons_zero, List.set_cons_succ]
              refine wpAnyH_take (i := 2) (v := ?v29) rfl (by kernel_rfl) (by kernel_rfl) (by kernel_rfl) (fun _ _ _ h => h) (Or.inl ⟨by rfl, ?hy29⟩) h0 ?rest29
              case hy29 => (intro w' hS; (try dsimp only at hS); go_simp; try (with_reducible rfl))
              simp only [Act.put, List.getElem_toArray, List.getElem_cons_zero, List.getElem_cons_succ, List.setIfInBounds_toArray, List.set_cons_zero, List.set_cons_succ]
              refine wpAnyH_take (i := 3) (v := ?v30) rfl (by kernel_rfl) (by kernel_rfl) (by kernel_rfl) (fun _ _ _ h => h) (Or.inl ⟨by rfl, ?hy30⟩) h0 ?rest30
              case hy30 => (intro w' hS; (try dsimp only at hS); go_simp; try (with_reducible rfl))
              simp only [Act.put, List.getElem_toArray, List.getElem_cons_zero, List.getElem_cons_succ, List.setIfInBounds_toArray, List.set_cons_zero, List.set_cons_succ]
              refine wpAnyH_take (i := 4) (v := ?v31) rfl (by kernel_rfl) (by kernel_rfl) (by kernel_rfl) (fun _ _ _ h => h) (Or.inl ⟨by rfl, ?hy31⟩) h0 ?rest31
              case hy31 => (intro w' hS; (try dsimp only at hS); go_simp; try (with_reducible rfl))
              simp only [Act.put, List.getElem_toArray, List.getElem_cons_zero, List.getElem_cons_succ, List.setIfInBounds_toArray, List.set_cons_zero, List.set_cons_succ]
              refine wpAnyH_take (i := 5) (v := ?v32) rfl (by kernel_rfl) (by kernel_rfl) (by kernel_rfl) (fun _ _ _ h => h) (Or.inl ⟨by rfl, ?hy32⟩) h0 ?rest32
              case hy32 => (intro w' hS; (try dsimp only at hS); go_simp; try (with_reducible rfl))
              simp only [Act.put, List.getElem_toArray, List.getElem_cons_zero, List.getElem_cons_succ, List.setIfInBounds_toArray, List.set_cons_zero, List.set_cons_succ]
              refine wpAnyH_take (i := 6) (v := ?v33) rfl (by kernel_rfl) (by kernel_rfl) (by kernel_rfl) (fun _ _ _ h => h) (Or.inl ⟨by rfl, ?hy33⟩) h0 ?rest33
              case hy33 => (intro w' hS; (try dsimp only at hS); go_simp; try (with_reducible rfl))
              simp only [Act.put, List.getElem_toArray, List.getElem_cons_zero, List.getElem_cons_succ, List.setIfInBounds_toArray, List.set_cons_zero, List.set_cons_succ]
              refine wpAnyH_take (i := 7) (v := ?v34) rfl (by kernel_rfl) (by kernel_rfl) (by kernel_rfl) (fun _ _ _ h => h) (Or.inl ⟨by rfl, ?hy34⟩) h0 ?rest34
              case hy34 => (intro w' hS; (try dsimp only at hS); go_simp; try (with_reducible rfl))
              simp only [Act.put, List.getElem_toArray, List.getElem_cons_zero, List.getElem_cons_succ, List.setIfInBounds_toArray, List.set_cons_zero, List.set_cons_succ]
              refine wpAnyH_take (i := 8) (v := ?v35) rfl (by kernel_rfl) (by kernel_rfl) (by kernel_rfl) (fun _ _ _ h => h) (Or.inl ⟨by rfl, ?hy35⟩) h0 ?rest35
              case hy35 => (intro w' hS; (try dsimp only at hS); go_simp; try (with_reducible rfl))
              simp only [Act.put, List.getElem_toArray, List.getElem_cons_zero, List.getElem_cons_succ, List.setIfInBounds_toArray, List.set_cons_zero, List.set_cons_succ]
              refine wpAnyH_take (i := 9) (v := ?v36) rfl (by kernel_rfl) (by kernel_rfl) (by kernel_rfl) (fun _ _ _ h => h) (Or.inl ⟨by rfl, ?hy36⟩) h0 ?rest36
              case hy36 => (intro w' hS; (try dsimp only at hS); go_simp; try (with_reducible rfl))
              simp only [Act.put, List.getElem_toArray, List.getElem_cons_zero, List.getElem_cons_succ, List.setIfInBounds_toArray, List.set_cons_zero, List.set_cons_succ]
              refine wpAnyH_take (i := 10) (v := ?v37) rfl (by kernel_rfl) (by kernel_rfl) (by kernel_rfl) (fun _ _ _ h => h) (Or.inl ⟨by rfl, ?hy37⟩) h0 ?rest37
              case hy37 => (intro w' hS; (try dsimp only at hS); go_simp; try (with_reducible rfl))
              simp only [Act.put, List.getElem_toArray, List.getElem_cons_zero, List.getElem_cons_succ, List.setIfInBounds_toArray, List.set_cons_zero, List.set_cons_succ]
              refine wpAnyH_take (i := 11) (v := ?v38) rfl (by kernel_rfl) (by kernel_rfl) (by kernel_rfl) (fun _ _ _ h => h) (Or.inl ⟨by rfl, ?hy38⟩) h0 ?rest38
              case hy38 => (intro w' hS; (try dsimp only at hS); go_simp; try (with_reducible rfl))
              simp only [Act.put, List.getElem_toArray, List.getElem_cons_zero, List.getElem_cons_succ, List.setIfInBounds_toArray, List.set_cons_zero, List.set_cons_succ]
              refine wpAnyH_ready (rs := [12]) (by kernel_rfl) (by simp) (AllReadyH.cons rfl (fun K hK => ?_) AllReadyH.nil)
              rw [if_pos (by rfl)]
              go_simp
              refine (OR.out wc (BP.out.trans (Bc.out.mono BP.out.size))).mono ?_
              rintro e wd ⟨rfl, j3, hwd⟩
              have DW := Lib.hid (show ∃ j, wd = w4.drewN j by obtain ⟨a, ha⟩ := DW.out; exact ⟨a + j3, by rw [hwd, ha]; exact World.drewN_drewN w4 a j3⟩)
              have Bc := Lib.hid (show Below wp.heap.size wp wd by rw [hwd]; exact below_drewN Bc.out j3)
              clear hwd
              obtain ⟨wc, hwc⟩ : ∃ wc, wc = wd := ⟨_, rfl⟩
              rw [← hwc] at DW Bc ⊢
              clear hwc
              go_simp
              refine hK.out _ _ (KS.out _ Bc.out) (fun h0_1 => ?_)
              clear hK K h0
              refine wpAnyH_take (i := 13) (v := ?v39) rfl (by kernel_rfl) (by kernel_rfl) (by kernel_rfl) (fun _ _ _ h => h) (Or.inl ⟨by rfl, ?hy39⟩) h0_1 ?rest39
              case hy39 => (intro w' hS; (try dsimp only at hS); go_simp; try (with_reducible rfl))
              simp only [Act.put, List.getElem_toArray, List.getElem_cons_zero, List.getElem_cons_succ, List.setIfInBounds_toArray, List.set_cons_zero, List.set_cons_succ]
              refine wpAnyH_take (i := 14) (v := ?v40) rfl (by kernel_rfl) (by kernel_rfl) (by kernel_rfl) (fun _ _ _ h => h) (Or.inl ⟨by rfl, ?hy40⟩) h0_1 ?rest40
              case hy40 => (intro w' hS; (try dsimp only at hS); go_simp; try (with_reducible rfl))
              simp only [Act.put, List.getElem_toArray, List.getElem_cons_zero, List.getElem_cons_succ, List.setIfInBounds_toArray]
              try simp only [List.set_cons_succ]
              try simp only [List.set_cons_zero]
              refine wpAnyH_done (by kernel_rfl) ?_ _
              by_cases hr0 : r = 0
              · have hl : k < (O.map lnV).length := by rw [List.length_map, ← HN.out]; exact hkN
                have hz2 : (O.map lnV)[k] = lnV z := by simp [ZE.out (by simpa using hl)]
                have ez : z.a = x.a := cmp_eq.1 (by rw [← RR.out]; exact hr0)
                have INS1 := Lib.hid (show x.over (lnV z) = true → insN x (O.map lnV) = (O.map lnV).set k x from fun ho => by
                  rw [ins_at (x := x) (l := O.map lnV) (k := k) (by omega) (fun i h hi => by have := HK.out i (by simpa using h) hi; simpa [lnV] using this) (fun h => by rw [hz2]; show ¬ cmpL z.a x.a < 0; rw [← RR.out]; have := HR.out; omega)]
                  rw [if_pos ⟨hl, by rw [hz2]; exact ez⟩, if_pos ⟨hl, by rw [hz2]; exact ho⟩])
                have INS0 := Lib.hid (show x.over (lnV z) = false → insN x (O.map lnV) = O.map lnV from fun ho => by
                  rw [ins_at (x := x) (l := O.map lnV) (k := k) (by omega) (fun i h hi => by have := HK.out i (by simpa using h) hi; simpa [lnV] using this) (fun h => by rw [hz2]; show ¬ cmpL z.a x.a < 0; rw [← RR.out]; have := HR.out; omega)]
                  rw [if_pos ⟨hl, by rw [hz2]; exact ez⟩, if_neg (fun h => by
                    obtain ⟨_, e⟩ := h
                    rw [hz2, ho] at e
                    cases e)])
                have e0 : (r == 0) = true := by simpa using hr0
                have R0 := Lib.hid hr0
                clear hr hr0 hl hz2 ez
                go_wp2_with fail
                obtain ⟨wp, hwp⟩ : ∃ wp, wp = wc := ⟨_, rfl⟩
                have DP := Lib.hid (show ∃ j, wp = w4.drewN j by rw [hwp]; exact DW.out)
                have BP := Lib.hid (show Below w4.heap.size w4 wp by obtain ⟨a, ha⟩ := DP.out; rw [ha]; exact below_drewN (Below.refl _ _) a)
                rw [← hwp]
                clear hwp
                by_cases g1 : x.b < z.b
                · have KS := Lib.hid (show ∀ W, Below wp.heap.size wp W → (W.cell? ⟨q7, 1, none⟩ = some (.int .i64 x.b) ∧ W.cell? ⟨q7, 2, none⟩ = some (.bool x.s) ∧ W.cell? ⟨b0, k * 3 + 1, none⟩ = some (.int .i64 z.b)) from fun W h => ⟨kept h (kept BP.out F1.out), kept h (kept BP.out F2.out), kept h (kept BP.out z1.out)⟩)
                  obtain ⟨wc, hwc⟩ : ∃ wc, wc = wp.drew := ⟨_, rfl⟩
                  have Bc := Lib.hid (show Below wp.heap.size wp wc by rw [hwc]; exact (Below.refl _ _).drew)
                  have DW := Lib.hid (show ∃ j, wc = w4.drewN j by obtain ⟨a, ha⟩ := DP.out; exact ⟨a + 1, by rw [hwc, ha]; exact World.drewN_drewN w4 a 1⟩)
                  refine wp_region_held_drew (S := (fun W => (W.cell? ⟨q7, 1, none⟩ = some (.int .i64 x.b) ∧ W.cell? ⟨q7, 2, none⟩ = some (.bool x.s) ∧ W.cell? ⟨b0, k * 3 + 1, none⟩ = some (.int .i64 z.b)))) (by kernel_rfl) (by rw [← hwc]; exact KS.out _ Bc.out) (fun h0 => ?_)
                  rw [← hwc] at h0 ⊢
                  clear hwc
                  refine wpAnyH_take (i := 0) (v := ?v41) rfl (by kernel_rfl) (by kernel_rfl) (by kernel_rfl) (fun _ _ _ h => h) (Or.inl ⟨by rfl, ?hy41⟩) h0 ?rest41
                  case hy41 => (intro w' hS; (try dsimp only at hS); go_simp; try (with_reducible rfl))
                  simp only [Act.put, List.getElem_toArray, List.getElem_cons_zero, List.setIfInBounds_toArray, List.set_cons_zero, List.set_cons_succ]
                  refine wpAnyH_take (i := 1) (v := ?v42) rfl (by kernel_rfl) (by kernel_rfl) (by kernel_rfl) (fun _ _ _ h => h) (Or.inl ⟨by rfl, ?hy42⟩) h0 ?rest42
                  case hy42 => (intro w' hS; (try dsimp only at hS); go_simp; try (with_reducible rfl))
                  simp only [Act.put, List.getElem_toArray, List.getElem_cons_zero, List.getElem_cons_succ, List.setIfInBounds_toArray, List.set_cons_zero, List.set_cons_succ]
                  refine wpAnyH_take (i := 2) (v := ?v43) rfl (by kernel_rfl) (by kernel_rfl) (by kernel_rfl) (fun _ _ _ h => h) (Or.inl ⟨by rfl, ?hy43⟩) h0 ?rest43
                  case hy43 => (intro w' hS; (try dsimp only at hS); go_simp; try (with_reducible rfl))
                  simp only [Act.put, List.getElem_toArray, List.getElem_cons_zero, List.getElem_cons_succ, List.setIfInBounds_toArray, List.set_cons_zero, List.set_cons_succ]
                  refine wpAnyH_take (i := 3) (v := ?v44) rfl (by kernel_rfl) (by kernel_rfl) (by kernel_rfl) (fun _ _ _ h => h) (Or.inl ⟨by rfl, ?hy44⟩) h0 ?rest44
                  case hy44 => (intro w' hS; (try dsimp only at hS); go_simp; try (with_reducible rfl))
                  simp only [Act.put, List.getElem_toArray, List.getElem_cons_zero, List.getElem_cons_succ, List.setIfInBounds_toArray, List.set_cons_zero, List.set_cons_succ]
                  refine wpAnyH_take (i := 4) (v := ?v45) rfl (by kernel_rfl) (by kernel_rfl) (by kernel_rfl) (fun _ _ _ h => h) (Or.inl ⟨by rfl, ?hy45⟩) h0 ?rest45
                  case hy45 => (intro w' hS; (try dsimp only at hS); go_simp; try (with_reducible rfl))
                  simp only [Act.put, List.getElem_toArray, List.getElem_cons_zero, List.getElem_cons_succ, List.setIfInBounds_toArray, List.set_cons_zero, List.set_cons_succ]
                  refine wpAnyH_take (i := 5) (v := ?v46) rfl (by kernel_rfl) (by kernel_rfl) (by kernel_rfl) (fun _ _ _ h => h) (Or.inl ⟨by rfl, ?hy46⟩) h0 ?rest46
                  case hy46 => (intro w' hS; (try dsimp only at hS); go_simp; try (with_reducible rfl))
                  simp only [Act.put, List.getElem_toArray, List.getElem_cons_zero, List.getElem_cons_succ, List.setIfInBounds_toArray, List.set_cons_zero, List.set_cons_succ]
                  refine wpAnyH_take (i := 6) (v := ?v47) rfl (by kernel_rfl) (by kernel_rfl) (by kernel_rfl) (fun _ _ _ h => h) (Or.inl ⟨by rfl, ?hy47⟩) h0 ?rest47
                  case hy47 => (intro w' hS; (try dsimp only at hS); go_simp; try (with_reducible rfl))
                  simp only [Act.put, List.getElem_toArray, List.getElem_cons_zero, List.getElem_cons_succ, List.setIfInBounds_toArray, List.set_cons_zero, List.set_cons_succ]
                  refine wpAnyH_take (i := 7) (v := ?v48) rfl (by kernel_rfl) (by kernel_rfl) (by kernel_rfl) (fun _ _ _ h => h) (Or.inl ⟨by rfl, ?hy48⟩) h0 ?rest48
                  case hy48 => (intro w' hS; (try dsimp only at hS); go_simp; try (with_reducible rfl))
                  simp only [Act.put, List.getElem_toArray, List.getElem_cons_zero, List.getElem_cons_succ, List.setIfInBounds_toArray, List.set_cons_zero, List.set_cons_succ]
                  refine wpAnyH_take (i := 8) (v := ?v49) rfl (by kernel_rfl) (by kernel_rfl) (by kernel_rfl) (fun _ _ _ h => h) (Or.inl ⟨by rfl, ?hy49⟩) h0 ?rest49
                  case hy49 => (intro w' hS; (try dsimp only at hS); go_simp; try (with_reducible rfl))
                  simp only [Act.put, List.getElem_toArray, List.getElem_cons_zero, List.getElem_cons_succ, List.setIfInBounds_toArray, List.set_cons_zero, List.set_cons_succ]
                  refine wpAnyH_take (i := 9) (v := undef) rfl (by kernel_rfl) (by kernel_rfl) (by kernel_rfl) (fun _ _ _ h => h) (Or.inr ⟨by rfl, rfl⟩) h0 ?_
                  simp only [Act.put, List.getElem_toArray, List.getElem_cons_zero, List.getElem_cons_succ, List.setIfInBounds_toArray, List.set_cons_zero, List.set_cons_succ]
                  refine wpAnyH_take (i := 10) (v := undef) rfl (by kernel_rfl) (by kernel_rfl) (by kernel_rfl) (fun _ _ _ h => h) (Or.inr ⟨by rfl, rfl⟩) h0 ?_
                  simp only [Act.put, List.getElem_toArray, List.getElem_cons_zero, List.getElem_cons_succ, List.setIfInBounds_toArray, List.set_cons_zero, List.set_cons_succ]
                  refine wpAnyH_take (i := 11) (v := undef) rfl (by kernel_rfl) (by kernel_rfl) (by kernel_rfl) (fun _ _ _ h => h) (Or.inr ⟨by rfl, rfl⟩) h0 ?_
                  simp only [Act.put, List.getElem_toArray, List.getElem_cons_zero, List.getElem_cons_succ, List.setIfInBounds_toArray, List.set_cons_zero, List.set_cons_succ]
                  refine wpAnyH_take (i := 12) (v := undef) rfl (by kernel_rfl) (by kernel_rfl) (by kernel_rfl) (fun _ _ _ h => h) (Or.inr ⟨by rfl, rfl⟩) h0 ?_
                  simp only [Act.put, List.getElem_toArray, List.getElem_cons_zero, List.getElem_cons_succ, List.setIfInBounds_toArray, List.set_cons_zero, List.set_cons_succ]
                  refine wpAnyH_take (i := 13) (v := undef) rfl (by kernel_rfl) (by kernel_rfl) (by kernel_rfl) (fun _ _ _ h => h) (Or.inr ⟨by rfl, rfl⟩) h0 ?_
                  simp only [Act.put, List.getElem_toArray, List.getElem_cons_zero, List.getElem_cons_succ, List.setIfInBounds_toArray, List.set_cons_zero, List.set_cons_succ]
                  refine wpAnyH_take (i := 14) (v := undef) rfl (by kernel_rfl) (by kernel_rfl) (by kernel_rfl) (fun _ _ _ h => h) (Or.inr ⟨by rfl, rfl⟩) h0 ?_
                  simp only [Act.put, List.getElem_toArray, List.getElem_cons_zero, List.getElem_cons_succ, List.setIfInBounds_toArray, List.set_cons_zero, List.set_cons_succ]
                  refine wpAnyH_take (i := 15) (v := undef) rfl (by kernel_rfl) (by kernel_rfl) (by kernel_rfl) (fun _ _ _ h => h) (Or.inr ⟨by rfl, rfl⟩) h0 ?_
                  simp only [Act.put, List.getElem_toArray, List.getElem_cons_zero, List.getElem_cons_succ, List.setIfInBounds_toArray, List.set_cons_zero, List.set_cons_succ]
                  refine wpAnyH_take (i := 16) (v := undef) rfl (by kernel_rfl) (by kernel_rfl) (by kernel_rfl) (fun _ _ _ h => h) (Or.inr ⟨by rfl, rfl⟩) h0 ?_
                  simp only [Act.put, List.getElem_toArray, List.getElem_cons_zero, List.getElem_cons_succ, List.setIfInBounds_toArray, List.set_cons_zero, List.set_cons_succ]
                  refine wpAnyH_take (i := 17) (v := undef) rfl (by kernel_rfl) (by kernel_rfl) (by kernel_rfl) (fun _ _ _ h => h) (Or.inr ⟨by rfl, rfl⟩) h0 ?_
                  simp only [Act.put, List.getElem_toArray, List.getElem_cons_zero, List.getElem_cons_succ, List.setIfInBounds_toArray, List.set_cons_zero, List.set_cons_succ]
                  refine wpAnyH_take (i := 18) (v := undef) rfl (by kernel_rfl) (by kernel_rfl) (by kernel_rfl) (fun _ _ _ h => h) (Or.inr ⟨by rfl, rfl⟩) h0 ?_
                  simp only [Act.put, List.getElem_toArray, List.getElem_cons_zero, List.getElem_cons_succ, List.setIfInBounds_toArray, List.set_cons_zero, List.set_cons_succ]
                  refine wpAnyH_take (i := 19) (v := undef) rfl (by kernel_rfl) (by kernel_rfl) (by kernel_rfl) (fun _ _ _ h => h) (Or.inr ⟨by rfl, rfl⟩) h0 ?_
                  simp only [Act.put, List.getElem_toArray, List.getElem_cons_zero, List.getElem_cons_succ, List.setIfInBounds_toArray, List.set_cons_zero, List.set_cons_succ]
                  refine wpAnyH_take (i := 20) (v := undef) rfl (by kernel_rfl) (by kernel_rfl) (by kernel_rfl) (fun _ _ _ h => h) (Or.inr ⟨by rfl, rfl⟩) h0 ?_
                  simp only [Act.put, List.getElem_toArray, List.getElem_cons_zero, List.getElem_cons_succ, List.setIfInBounds_toArray, List.set_cons_zero, List.set_cons_succ]
                  refine wpAnyH_take (i := 21) (v := ?v50) rfl (by kernel_rfl) (by kernel_rfl) (by kernel_rfl) (fun _ _ _ h => h) (Or.inl ⟨by rfl, ?hy50⟩) h0 ?rest50
                  case hy50 => (intro w' hS; (try dsimp only at hS); go_simp; try (with_reducible rfl))
                  simp only [Act.put, List.getElem_toArray, List.getElem_cons_zero, List.getElem_cons_succ, List.setIfInBounds_toArray]
                  try simp only [List.set_cons_succ]
                  try simp only [List.set_cons_zero]
                  refine wpAnyH_done (by kernel_rfl) ?_ _
                  have OV := Lib.hid (INS1.out (by have := g1; simp [Ln.over, lnV, this]))
                  obtain ⟨wq, hwq⟩ : ∃ wq, wq = wc := ⟨_, rfl⟩
                  have BQ := Lib.hid (show Below w4.heap.size w4 wq by rw [hwq]; exact BP.out.trans (Bc.out.mono BP.out.size))
                  rw [← hwq]
                  clear hwq DW Bc KS
                  have hO := OW2.out.on BQ.out
                  have hkO : k < O.length := by rw [← HN.out]; exact hkN
                  have TH := Lib.hid (hO.there hkO)
                  have BG := OBB.out b0 rfl
                  have N7 := Lib.hid (N2.out.kept BQ.out)
                  have GX : GoodV wq (some b0) X := by
                    rw [XC.out]
                    refine ⟨(G2.out.on BQ.out).rd, fun p e => ?_, fun e => by (cases e), G2.out.capOk⟩
                    cases e
                    exact ⟨fun e => by have e' : b0 = g := Option.some.inj e; have := Z7.out; omega, (G2.out.on BQ.out).lt.2⟩
                  have ST := hO.set k (y := X) GX
                  rw [← HN.out] at ST
                  have SA := Lib.hid ST.1
                  have SB := Lib.hid (Below.grown (below_on HB2.out BQ.out) ST.2 (below_on HB2.out BQ.out).size (fun k' hk' => (World.ownsRow.lt hO.row k' hk').1))
                  have MP := Lib.hid (show (O.set k X).map lnV = insL (keepR ((L.map lnV).take (t + 1))) by
                    rw [KN.out, insL_snoc, ← EO.out, OV.out, List.map_set]
                    congr 1
                    rw [XC.out]; rfl)
                  clear hO hkO BG GX ST
                  go_wp2_with (first | refine wpl_loadV rfl _ rfl _ rfl X N7.out.avAt ?_ | refine wpList_store_mid rfl _ _ _ rfl b0 (k * 3) X.cs rfl rfl TH.out av_size (by simp [AV.cs, AV.cells, Value.oneCell']) ?_)
                  go_roundw
                  case rel => exact ⟨t + 1, by go_num, by omega, FB, Lib.hid ⟨_, SA.out, MP.out⟩, SB⟩
                  case measure => simp [intOf]; omega
                · by_cases g2 : x.b = z.b
                  · have e2 : (x.b == z.b) = true := by simpa using g2
                    obtain ⟨xs, hxs⟩ : ∃ xs, xs = x.s := ⟨_, rfl⟩
                    have HXS := Lib.hid hxs
                    have G1 := Lib.hid g1
                    have GG2 := Lib.hid g2
                    rw [← hxs] at f2 F2
                    clear hxs g2
                    cases xs
                    · have KS := Lib.hid (show ∀ W, Below wp.heap.size wp W → (W.cell? ⟨q7, 1, none⟩ = some (.int .i64 x.b) ∧ W.cell? ⟨q7, 2, none⟩ = some (.bool false) ∧ W.cell? ⟨b0, k * 3 + 1, none⟩ = some (.int .i64 z.b)) from fun W h => ⟨kept h (kept BP.out F1.out), kept h (kept BP.out F2.out), kept h (kept BP.out z1.out)⟩)
                      obtain ⟨wc, hwc⟩ : ∃ wc, wc = wp.drew := ⟨_, rfl⟩
                      have Bc := Lib.hid (show Below wp.heap.size wp wc by rw [hwc]; exact (Below.refl _ _).drew)
                      have DW := Lib.hid (show ∃ j, wc = w4.drewN j by obtain ⟨a, ha⟩ := DP.out; exact ⟨a + 1, by rw [hwc, ha]; exact World.drewN_drewN w4 a 1⟩)
                      refine wp_region_held_drew (S := (fun W => (W.cell? ⟨q7, 1, none⟩ = some (.int .i64 x.b) ∧ W.cell? ⟨q7, 2, none⟩ = some (.bool false) ∧ W.cell? ⟨b0, k * 3 + 1, none⟩ = some (.int .i64 z.b)))) (by kernel_rfl) (by rw [← hwc]; exact KS.out _ Bc.out) (fun h0 => ?_)
                      rw [← hwc] at h0 ⊢
                      clear hwc
                      refine wpAnyH_take (i := 0) (v := ?v51) rfl (by kernel_rfl) (by kernel_rfl) (by kernel_rfl) (fun _ _ _ h => h) (Or.inl ⟨by rfl, ?hy51⟩) h0 ?rest51
                      case hy51 => (intro w' hS; (try dsimp only at hS); go_simp; try (with_reducible rfl))
                      simp only [Act.put, List.getElem_toArray, List.getElem_cons_zero, List.setIfInBounds_toArray, List.set_cons_zero, List.set_cons_succ]
                      refine wpAnyH_take (i := 1) (v := ?v52) rfl (by kernel_rfl) (by kernel_rfl) (by kernel_rfl) (fun _ _ _ h => h) (Or.inl ⟨by rfl, ?hy52⟩) h0 ?rest52
                      case hy52 => (intro w' hS; (try dsimp only at hS); go_simp; try (with_reducible rfl))
                      simp only [Act.put, List.getElem_toArray, List.getElem_cons_zero, List.getElem_cons_succ, List.setIfInBounds_toArray, List.set_cons_zero, List.set_cons_succ]
                      refine wpAnyH_take (i := 2) (v := ?v53) rfl (by kernel_rfl) (by kernel_rfl) (by kernel_rfl) (fun _ _ _ h => h) (Or.inl ⟨by rfl, ?hy53⟩) h0 ?rest53
                      case hy53 => (intro w' hS; (try dsimp only at hS); go_simp; try (with_reducible rfl))
                      simp only [Act.put, List.getElem_toArray, List.getElem_cons_zero, List.getElem_cons_succ, List.setIfInBounds_toArray, List.set_cons_zero, List.set_cons_succ]
                      refine wpAnyH_take (i := 3) (v := ?v54) rfl (by kernel_rfl) (by kernel_rfl) (by kernel_rfl) (fun _ _ _ h => h) (Or.inl ⟨by rfl, ?hy54⟩) h0 ?rest54
                      case hy54 => (intro w' hS; (try dsimp only at hS); go_simp; try (with_reducible rfl))
                      simp only [Act.put, List.getElem_toArray, List.getElem_cons_zero, List.getElem_cons_succ, List.setIfInBounds_toArray, List.set_cons_zero, List.set_cons_succ]
                      refine wpAnyH_take (i := 4) (v := ?v55) rfl (by kernel_rfl) (by kernel_rfl) (by kernel_rfl) (fun _ _ _ h => h) (Or.inl ⟨by rfl, ?hy55⟩) h0 ?rest55
                      case hy55 => (intro w' hS; (try dsimp only at hS); go_simp; try (with_reducible rfl))
                      simp only [Act.put, List.getElem_toArray, List.getElem_cons_zero, List.getElem_cons_succ, List.setIfInBounds_toArray, List.set_cons_zero, List.set_cons_succ]
                      refine wpAnyH_take (i := 5) (v := ?v56) rfl (by kernel_rfl) (by kernel_rfl) (by kernel_rfl) (fun _ _ _ h => h) (Or.inl ⟨by rfl, ?hy56⟩) h0 ?rest56
                      case hy56 => (intro w' hS; (try dsimp only at hS); go_simp; try (with_reducible rfl))
                      simp only [Act.put, List.getElem_toArray, List.getElem_cons_zero, List.getElem_cons_succ, List.setIfInBounds_toArray, List.set_cons_zero, List.set_cons_succ]
                      refine wpAnyH_take (i := 6) (v := ?v57) rfl (by kernel_rfl) (by kernel_rfl) (by kernel_rfl) (fun _ _ _ h => h) (Or.inl ⟨by rfl, ?hy57⟩) h0 ?rest57
                      case hy57 => (intro w' hS; (try dsimp only at hS); go_simp; try (with_reducible rfl))
                      simp only [Act.put, List.getElem_toArray, List.getElem_cons_zero, List.getElem_cons_succ, List.setIfInBounds_toArray, List.set_cons_zero, List.set_cons_succ]
                      refine wpAnyH_take (i := 7) (v := ?v58) rfl (by kernel_rfl) (by kernel_rfl) (by kernel_rfl) (fun _ _ _ h => h) (Or.inl ⟨by rfl, ?hy58⟩) h0 ?rest58
                      case hy58 => (intro w' hS; (try dsimp only at hS); go_simp; try (with_reducible rfl))
                      simp only [Act.put, List.getElem_toArray, List.getElem_cons_zero, List.getElem_cons_succ, List.setIfInBounds_toArray, List.set_cons_zero, List.set_cons_succ]
                      refine wpAnyH_take (i := 8) (v := ?v59) rfl (by kernel_rfl) (by kernel_rfl) (by kernel_rfl) (fun _ _ _ h => h) (Or.inl ⟨by rfl, ?hy59⟩) h0 ?rest59
                      case hy59 => (intro w' hS; (try dsimp only at hS); go_simp; try (with_reducible rfl))
                      simp only [Act.put, List.getElem_toArray, List.getElem_cons_zero, List.getElem_cons_succ, List.setIfInBounds_toArray, List.set_cons_zero, List.set_cons_succ]
                      refine wpAnyH_take (i := 9) (v := ?v60) rfl (by kernel_rfl) (by kernel_rfl) (by kernel_rfl) (fun _ _ _ h => h) (Or.inl ⟨by rfl, ?hy60⟩) h0 ?rest60
                      case hy60 => (intro w' hS; (try dsimp only at hS); go_simp; try (with_reducible rfl))
                      simp only [Act.put, List.getElem_toArray, List.getElem_cons_zero, List.getElem_cons_succ, List.setIfInBounds_toArray, List.set_cons_zero, List.set_cons_succ]
                      refine wpAnyH_take (i := 10) (v := ?v61) rfl (by kernel_rfl) (by kernel_rfl) (by kernel_rfl) (fun _ _ _ h => h) (Or.inl ⟨by rfl, ?hy61⟩) h0 ?rest61
                      case hy61 => (intro w' hS; (try dsimp only at hS); go_simp; try (with_reducible rfl))
                      simp only [Act.put, List.getElem_toArray, List.getElem_cons_zero, List.getElem_cons_succ, List.setIfInBounds_toArray, List.set_cons_zero, List.set_cons_succ]
                      refine wpAnyH_take (i := 11) (v := ?v62) rfl (by kernel_rfl) (by kernel_rfl) (by kernel_rfl) (fun _ _ _ h => h) (Or.inl ⟨by rfl, ?hy62⟩) h0 ?rest62
                      case hy62 => (intro w' hS; (try dsimp only at hS); go_simp; try (with_reducible rfl))
                      simp only [Act.put, List.getElem_toArray, List.getElem_cons_zero, List.getElem_cons_succ, List.setIfInBounds_toArray, List.set_cons_zero, List.set_cons_succ]
                      refine wpAnyH_take (i := 12) (v := ?v63) rfl (by kernel_rfl) (by kernel_rfl) (by kernel_rfl) (fun _ _ _ h => h) (Or.inl ⟨by rfl, ?hy63⟩) h0 ?rest63
                      case hy63 => (intro w' hS; (try dsimp only at hS); go_simp; try (with_reducible rfl))
                      simp only [Act.put, List.getElem_toArray, List.getElem_cons_zero, List.getElem_cons_succ, List.setIfInBounds_toArray, List.set_cons_zero, List.set_cons_succ]
                      refine wpAnyH_take (i := 13) (v := ?v64) rfl (by kernel_rfl) (by kernel_rfl) (by kernel_rfl) (fun _ _ _ h => h) (Or.inl ⟨by rfl, ?hy64⟩) h0 ?rest64
                      case hy64 => (intro w' hS; (try dsimp only at hS); go_simp; try (with_reducible rfl))
                      simp only [Act.put, List.getElem_toArray, List.getElem_cons_zero, List.getElem_cons_succ, List.setIfInBounds_toArray, List.set_cons_zero, List.set_cons_succ]
                      refine wpAnyH_take (i := 14) (v := ?v65) rfl (by kernel_rfl) (by kernel_rfl) (by kernel_rfl) (fun _ _ _ h => h) (Or.inl ⟨by rfl, ?hy65⟩) h0 ?rest65
                      case hy65 => (intro w' hS; (try dsimp only at hS); go_simp; try (with_reducible rfl))
                      simp only [Act.put, List.getElem_toArray, List.getElem_cons_zero, List.getElem_cons_succ, List.setIfInBounds_toArray, List.set_cons_zero, List.set_cons_succ]
                      refine wpAnyH_take (i := 15) (v := ?v66) rfl (by kernel_rfl) (by kernel_rfl) (by kernel_rfl) (fun _ _ _ h => h) (Or.inl ⟨by rfl, ?hy66⟩) h0 ?rest66
                      case hy66 => (intro w' hS; (try dsimp only at hS); go_simp; try (with_reducible rfl))
                      simp only [Act.put, List.getElem_toArray, List.getElem_cons_zero, List.getElem_cons_succ, List.setIfInBounds_toArray, List.set_cons_zero, List.set_cons_succ]
                      refine wpAnyH_take (i := 16) (v := ?v67) rfl (by kernel_rfl) (by kernel_rfl) (by kernel_rfl) (fun _ _ _ h => h) (Or.inl ⟨by rfl, ?hy67⟩) h0 ?rest67
                      case hy67 => (intro w' hS; (try dsimp only at hS); go_simp; try (with_reducible rfl))
                      simp only [Act.put, List.getElem_toArray, List.getElem_cons_zero, List.getElem_cons_succ, List.setIfInBounds_toArray, List.set_cons_zero, List.set_cons_succ]
                      refine wpAnyH_take (i := 17) (v := ?v68) rfl (by kernel_rfl) (by kernel_rfl) (by kernel_rfl) (fun _ _ _ h => h) (Or.inl ⟨by rfl, ?hy68⟩) h0 ?rest68
                      case hy68 => (intro w' hS; (try dsimp only at hS); go_simp; try (with_reducible rfl))
                      simp only [Act.put, List.getElem_toArray, List.getElem_cons_zero, List.getElem_cons_succ, List.setIfInBounds_toArray, List.set_cons_zero, List.set_cons_succ]
                      refine wpAnyH_take (i := 18) (v := ?v69) rfl (by kernel_rfl) (by kernel_rfl) (by kernel_rfl) (fun _ _ _ h => h) (Or.inl ⟨by rfl, ?hy69⟩) h0 ?rest69
                      case hy69 => (intro w' hS; (try dsimp only at hS); go_simp; try (with_reducible rfl))
                      simp only [Act.put, List.getElem_toArray, List.getElem_cons_zero, List.getElem_cons_succ, List.setIfInBounds_toArray, List.set_cons_zero, List.set_cons_succ]
                      refine wpAnyH_take (i := 19) (v := ?v70) rfl (by kernel_rfl) (by kernel_rfl) (by kernel_rfl) (fun _ _ _ h => h) (Or.inl ⟨by rfl, ?hy70⟩) h0 ?rest70
                      case hy70 => (intro w' hS; (try dsimp only at hS); go_simp; try (with_reducible rfl))
                      simp only [Act.put, List.getElem_toArray, List.getElem_cons_zero, List.getElem_cons_succ, List.setIfInBounds_toArray, List.set_cons_zero, List.set_cons_succ]
                      refine wpAnyH_take (i := 20) (v := ?v71) rfl (by kernel_rfl) (by kernel_rfl) (by kernel_rfl) (fun _ _ _ h => h) (Or.inl ⟨by rfl, ?hy71⟩) h0 ?rest71
                      case hy71 => (intro w' hS; (try dsimp only at hS); go_simp; try (with_reducible rfl))
                      simp only [Act.put, List.getElem_toArray, List.getElem_cons_zero, List.getElem_cons_succ, List.setIfInBounds_toArray, List.set_cons_zero, List.set_cons_succ]
                      refine wpAnyH_take (i := 21) (v := ?v72) rfl (by kernel_rfl) (by kernel_rfl) (by kernel_rfl) (fun _ _ _ h => h) (Or.inl ⟨by rfl, ?hy72⟩) h0 ?rest72
                      case hy72 => (intro w' hS; (try dsimp only at hS); go_simp; try (with_reducible rfl))
                      simp only [Act.put, List.getElem_toArray, List.getElem_cons_zero, List.getElem_cons_succ, List.setIfInBounds_toArray]
                      try simp only [List.set_cons_succ]
                      try simp only [List.set_cons_zero]
                      refine wpAnyH_done (by kernel_rfl) ?_ _
                      have OV := Lib.hid (INS0.out (over_no G1.out (fun _ => HXS.out.symm)))
                      have SA := Lib.hid (show OwnV wc w.heap.size (.slice (some ⟨b0, 0, none⟩) N cp2) O by rw [HN.out]; exact OW2.out.on (BP.out.trans (Bc.out.mono BP.out.size)))
                      have SB := Lib.hid (show Below w.heap.size w wc from below_on HB2.out (BP.out.trans (Bc.out.mono BP.out.size)))
                      have MP := Lib.hid (show O.map lnV = insL (keepR ((L.map lnV).take (t + 1))) by
                        rw [KN.out, insL_snoc, ← EO.out, OV.out])
                      clear DW Bc KS
                      go_wp2_with fail
                      go_roundw
                      case rel => exact ⟨t + 1, by go_num, by omega, FB, Lib.hid ⟨_, SA.out, MP.out⟩, SB⟩
                      case measure => simp [intOf]; omega
                    · have KS := Lib.hid (show ∀ W, Below wp.heap.size wp W → (W.cell? ⟨q7, 1, none⟩ = some (.int .i64 x.b) ∧ W.cell? ⟨q7, 2, none⟩ = some (.bool true) ∧ W.cell? ⟨b0, k * 3 + 1, none⟩ = some (.int .i64 z.b)) from fun W h => ⟨kept h (kept BP.out F1.out), kept h (kept BP.out F2.out), kept h (kept BP.out z1.out)⟩)
                      obtain ⟨wc, hwc⟩ : ∃ wc, wc = wp.drew := ⟨_, rfl⟩
                      have Bc := Lib.hid (show Below wp.heap.size wp wc by rw [hwc]; exact (Below.refl _ _).drew)
                      have DW := Lib.hid (show ∃ j, wc = w4.drewN j by obtain ⟨a, ha⟩ := DP.out; exact ⟨a + 1, by rw [hwc, ha]; exact World.drewN_drewN w4 a 1⟩)
                      refine wp_region_held_drew (S := (fun W => (W.cell? ⟨q7, 1, none⟩ = some (.int .i64 x.b) ∧ W.cell? ⟨q7, 2, none⟩ = some (.bool true) ∧ W.cell? ⟨b0, k * 3 + 1, none⟩ = some (.int .i64 z.b)))) (by kernel_rfl) (by rw [← hwc]; exact KS.out _ Bc.out) (fun h0 => ?_)
                      rw [← hwc] at h0 ⊢
                      clear hwc
                      refine wpAnyH_take (i := 0) (v := ?v73) rfl (by kernel_rfl) (by kernel_rfl) (by kernel_rfl) (fun _ _ _ h => h) (Or.inl ⟨by rfl, ?hy73⟩) h0 ?rest73
                      case hy73 => (intro w' hS; (try dsimp only at hS); go_simp; try (with_reducible rfl))
                      simp only [Act.put, List.getElem_toArray, List.getElem_cons_zero, List.setIfInBounds_toArray, List.set_cons_zero, List.set_cons_succ]
                      refine wpAnyH_take (i := 1) (v := ?v74) rfl (by kernel_rfl) (by kernel_rfl) (by kernel_rfl) (fun _ _ _ h => h) (Or.inl ⟨by rfl, ?hy74⟩) h0 ?rest74
                      case hy74 => (intro w' hS; (try dsimp only at hS); go_simp; try (with_reducible rfl))
                      simp only [Act.put, List.getElem_toArray, List.getElem_cons_zero, List.getElem_cons_succ, List.setIfInBounds_toArray, List.set_cons_zero, List.set_cons_succ]
                      refine wpAnyH_take (i := 2) (v := ?v75) rfl (by kernel_rfl) (by kernel_rfl) (by kernel_rfl) (fun _ _ _ h => h) (Or.inl ⟨by rfl, ?hy75⟩) h0 ?rest75
                      case hy75 => (intro w' hS; (try dsimp only at hS); go_simp; try (with_reducible rfl))
                      simp only [Act.put, List.getElem_toArray, List.getElem_cons_zero, List.getElem_cons_succ, List.setIfInBounds_toArray, List.set_cons_zero, List.set_cons_succ]
                      refine wpAnyH_take (i := 3) (v := ?v76) rfl (by kernel_rfl) (by kernel_rfl) (by kernel_rfl) (fun _ _ _ h => h) (Or.inl ⟨by rfl, ?hy76⟩) h0 ?rest76
                      case hy76 => (intro w' hS; (try dsimp only at hS); go_simp; try (with_reducible rfl))
                      simp only [Act.put, List.getElem_toArray, List.getElem_cons_zero, List.getElem_cons_succ, List.setIfInBounds_toArray, List.set_cons_zero, List.set_cons_succ]
                      refine wpAnyH_take (i := 4) (v := ?v77) rfl (by kernel_rfl) (by kernel_rfl) (by kernel_rfl) (fun _ _ _ h => h) (Or.inl ⟨by rfl, ?hy77⟩) h0 ?rest77
                      case hy77 => (intro w' hS; (try dsimp only at hS); go_simp; try (with_reducible rfl))
                      simp only [Act.put, List.getElem_toArray, List.getElem_cons_zero, List.getElem_cons_succ, List.setIfInBounds_toArray, List.set_cons_zero, List.set_cons_succ]
                      refine wpAnyH_take (i := 5) (v := ?v78) rfl (by kernel_rfl) (by kernel_rfl) (by kernel_rfl) (fun _ _ _ h => h) (Or.inl ⟨by rfl, ?hy78⟩) h0 ?rest78
                      case hy78 => (intro w' hS; (try dsimp only at hS); go_simp; try (with_reducible rfl))
                      simp only [Act.put, List.getElem_toArray, List.getElem_cons_zero, List.getElem_cons_succ, List.setIfInBounds_toArray, List.set_cons_zero, List.set_cons_succ]
                      refine wpAnyH_take (i := 6) (v := ?v79) rfl (by kernel_rfl) (by kernel_rfl) (by kernel_rfl) (fun _ _ _ h => h) (Or.inl ⟨by rfl, ?hy79⟩) h0 ?rest79
                      case hy79 => (intro w' hS; (try dsimp only at hS); go_simp; try (with_reducible rfl))
                      simp only [Act.put, List.getElem_toArray, List.getElem_cons_zero, List.getElem_cons_succ, List.setIfInBounds_toArray, List.set_cons_zero, List.set_cons_succ]
                      refine wpAnyH_take (i := 7) (v := ?v80) rfl (by kernel_rfl) (by kernel_rfl) (by kernel_rfl) (fun _ _ _ h => h) (Or.inl ⟨by rfl, ?hy80⟩) h0 ?rest80
                      case hy80 => (intro w' hS; (try dsimp only at hS); go_simp; try (with_reducible rfl))
                      simp only [Act.put, List.getElem_toArray, List.getElem_cons_zero, List.getElem_cons_succ, List.setIfInBounds_toArray, List.set_cons_zero, List.set_cons_succ]
                      refine wpAnyH_take (i := 8) (v := ?v81) rfl (by kernel_rfl) (by kernel_rfl) (by kernel_rfl) (fun _ _ _ h => h) (Or.inl ⟨by rfl, ?hy81⟩) h0 ?rest81
                      case hy81 => (intro w' hS; (try dsimp only at hS); go_simp; try (with_reducible rfl))
                      simp only [Act.put, List.getElem_toArray, List.getElem_cons_zero, List.getElem_cons_succ, List.setIfInBounds_toArray, List.set_cons_zero, List.set_cons_succ]
                      refine wpAnyH_take (i := 9) (v := ?v82) rfl (by kernel_rfl) (by kernel_rfl) (by kernel_rfl) (fun _ _ _ h => h) (Or.inl ⟨by rfl, ?hy82⟩) h0 ?rest82
                      case hy82 => (intro w' hS; (try dsimp only at hS); go_simp; try (with_reducible rfl))
                      simp only [Act.put, List.getElem_toArray, List.getElem_cons_zero, List.getElem_cons_succ, List.setIfInBounds_toArray, List.set_cons_zero, List.set_cons_succ]
                      refine wpAnyH_take (i := 10) (v := ?v83) rfl (by kernel_rfl) (by kernel_rfl) (by kernel_rfl) (fun _ _ _ h => h) (Or.inl ⟨by rfl, ?hy83⟩) h0 ?rest83
                      case hy83 => (intro w' hS; (try dsimp only at hS); go_simp; try (with_reducible rfl))
                      simp only [Act.put, List.getElem_toArray, List.getElem_cons_zero, List.getElem_cons_succ, List.setIfInBounds_toArray, List.set_cons_zero, List.set_cons_succ]
                      refine wpAnyH_take (i := 11) (v := ?v84) rfl (by kernel_rfl) (by kernel_rfl) (by kernel_rfl) (fun _ _ _ h => h) (Or.inl ⟨by rfl, ?hy84⟩) h0 ?rest84
                      case hy84 => (intro w' hS; (try dsimp only at hS); go_simp; try (with_reducible rfl))
                      simp only [Act.put, List.getElem_toArray, List.getElem_cons_zero, List.getElem_cons_succ, List.setIfInBounds_toArray, List.set_cons_zero, List.set_cons_succ]
                      refine wpAnyH_take (i := 12) (v := ?v85) rfl (by kernel_rfl) (by kernel_rfl) (by kernel_rfl) (fun _ _ _ h => h) (Or.inl ⟨by rfl, ?hy85⟩) h0 ?rest85
                      case hy85 => (intro w' hS; (try dsimp only at hS); go_simp; try (with_reducible rfl))
                      simp only [Act.put, List.getElem_toArray, List.getElem_cons_zero, List.getElem_cons_succ, List.setIfInBounds_toArray, List.set_cons_zero, List.set_cons_succ]
                      refine wpAnyH_take (i := 13) (v := ?v86) rfl (by kernel_rfl) (by kernel_rfl) (by kernel_rfl) (fun _ _ _ h => h) (Or.inl ⟨by rfl, ?hy86⟩) h0 ?rest86
                      case hy86 => (intro w' hS; (try dsimp only at hS); go_simp; try (with_reducible rfl))
                      simp only [Act.put, List.getElem_toArray, List.getElem_cons_zero, List.getElem_cons_succ, List.setIfInBounds_toArray, List.set_cons_zero, List.set_cons_succ]
                      refine wpAnyH_take (i := 14) (v := ?v87) rfl (by kernel_rfl) (by kernel_rfl) (by kernel_rfl) (fun _ _ _ h => h) (Or.inl ⟨by rfl, ?hy87⟩) h0 ?rest87
                      case hy87 => (intro w' hS; (try dsimp only at hS); go_simp; try (with_reducible rfl))
                      simp only [Act.put, List.getElem_toArray, List.getElem_cons_zero, List.getElem_cons_succ, List.setIfInBounds_toArray, List.set_cons_zero, List.set_cons_succ]
                      refine wpAnyH_take (i := 15) (v := ?v88) rfl (by kernel_rfl) (by kernel_rfl) (by kernel_rfl) (fun _ _ _ h => h) (Or.inl ⟨by rfl, ?hy88⟩) h0 ?rest88
                      case hy88 => (intro w' hS; (try dsimp only at hS); go_simp; try (with_reducible rfl))
                      simp only [Act.put, List.getElem_toArray, List.getElem_cons_zero, List.getElem_cons_succ, List.setIfInBounds_toArray, List.set_cons_zero, List.set_cons_succ]
                      refine wpAnyH_take (i := 16) (v := ?v89) rfl (by kernel_rfl) (by kernel_rfl) (by kernel_rfl) (fun _ _ _ h => h) (Or.inl ⟨by rfl, ?hy89⟩) h0 ?rest89
                      case hy89 => (intro w' hS; (try dsimp only at hS); go_simp; try (with_reducible rfl))
                      simp only [Act.put, List.getElem_toArray, List.getElem_cons_zero, List.getElem_cons_succ, List.setIfInBounds_toArray, List.set_cons_zero, List.set_cons_succ]
                      refine wpAnyH_take (i := 17) (v := ?v90) rfl (by kernel_rfl) (by kernel_rfl) (by kernel_rfl) (fun _ _ _ h => h) (Or.inl ⟨by rfl, ?hy90⟩) h0 ?rest90
                      case hy90 => (intro w' hS; (try dsimp only at hS); go_simp; try (with_reducible rfl))
                      simp only [Act.put, List.getElem_toArray, List.getElem_cons_zero, List.getElem_cons_succ, List.setIfInBounds_toArray, List.set_cons_zero, List.set_cons_succ]
                      refine wpAnyH_take (i := 18) (v := ?v91) rfl (by kernel_rfl) (by kernel_rfl) (by kernel_rfl) (fun _ _ _ h => h) (Or.inl ⟨by rfl, ?hy91⟩) h0 ?rest91
                      case hy91 => (intro w' hS; (try dsimp only at hS); go_simp; try (with_reducible rfl))
                      simp only [Act.put, List.getElem_toArray, List.getElem_cons_zero, List.getElem_cons_succ, List.setIfInBounds_toArray, List.set_cons_zero, List.set_cons_succ]
                      refine wpAnyH_take (i := 19) (v := ?v92) rfl (by kernel_rfl) (by kernel_rfl) (by kernel_rfl) (fun _ _ _ h => h) (Or.inl ⟨by rfl, ?hy92⟩) h0 ?rest92
                      case hy92 => (intro w' hS; (try dsimp only at hS); go_simp; try (with_reducible rfl))
                      simp only [Act.put, List.getElem_toArray, List.getElem_cons_zero, List.getElem_cons_succ, List.setIfInBounds_toArray, List.set_cons_zero, List.set_cons_succ]
                      refine wpAnyH_take (i := 20) (v := ?v93) rfl (by kernel_rfl) (by kernel_rfl) (by kernel_rfl) (fun _ _ _ h => h) (Or.inl ⟨by rfl, ?hy93⟩) h0 ?rest93
                      case hy93 => (intro w' hS; (try dsimp only at hS); go_simp; try (with_reducible rfl))
                      simp only [Act.put, List.getElem_toArray, List.getElem_cons_zero, List.getElem_cons_succ, List.setIfInBounds_toArray, List.set_cons_zero, List.set_cons_succ]
                      refine wpAnyH_take (i := 21) (v := ?v94) rfl (by kernel_rfl) (by kernel_rfl) (by kernel_rfl) (fun _ _ _ h => h) (Or.inl ⟨by rfl, ?hy94⟩) h0 ?rest94
                      case hy94 => (intro w' hS; (try dsimp only at hS); go_simp; try (with_reducible rfl))
                      simp only [Act.put, List.getElem_toArray, List.getElem_cons_zero, List.getElem_cons_succ, List.setIfInBounds_toArray]
                      try simp only [List.set_cons_succ]
                      try simp only [List.set_cons_zero]
                      refine wpAnyH_done (by kernel_rfl) ?_ _
                      have OV := Lib.hid (INS1.out (by have := GG2.out; simp [Ln.over, lnV, ← HXS.out, this]))
                      obtain ⟨wq, hwq⟩ : ∃ wq, wq = wc := ⟨_, rfl⟩
                      have BQ := Lib.hid (show Below w4.heap.size w4 wq by rw [hwq]; exact BP.out.trans (Bc.out.mono BP.out.size))
                      rw [← hwq]
                      clear hwq DW Bc KS
                      have hO := OW2.out.on BQ.out
                      have hkO : k < O.length := by rw [← HN.out]; exact hkN
                      have TH := Lib.hid (hO.there hkO)
                      have BG := OBB.out b0 rfl
                      have N7 := Lib.hid (N2.out.kept BQ.out)
                      have GX : GoodV wq (some b0) X := by
                        rw [XC.out]
                        refine ⟨(G2.out.on BQ.out).rd, fun p e => ?_, fun e => by (cases e), G2.out.capOk⟩
                        cases e
                        exact ⟨fun e => by have e' : b0 = g := Option.some.inj e; have := Z7.out; omega, (G2.out.on BQ.out).lt.2⟩
                      have ST := hO.set k (y := X) GX
                      rw [← HN.out] at ST
                      have SA := Lib.hid ST.1
                      have SB := Lib.hid (Below.grown (below_on HB2.out BQ.out) ST.2 (below_on HB2.out BQ.out).size (fun k' hk' => (World.ownsRow.lt hO.row k' hk').1))
                      have MP := Lib.hid (show (O.set k X).map lnV = insL (keepR ((L.map lnV).take (t + 1))) by
                        rw [KN.out, insL_snoc, ← EO.out, OV.out, List.map_set]
                        congr 1
                        rw [XC.out]; rfl)
                      clear hO hkO BG GX ST
                      go_wp2_with (first | refine wpl_loadV rfl _ rfl _ rfl X N7.out.avAt ?_ | refine wpList_store_mid rfl _ _ _ rfl b0 (k * 3) X.cs rfl rfl TH.out av_size (by simp [AV.cs, AV.cells, Value.oneCell']) ?_)
                      go_roundw
                      case rel => exact ⟨t + 1, by go_num, by omega, FB, Lib.hid ⟨_, SA.out, MP.out⟩, SB⟩
                      case measure => simp [intOf]; omega
                  · have e2 : (x.b == z.b) = false := by simpa using g2
                    have G1 := Lib.hid g1
                    have GG2 := Lib.hid g2
                    clear g2
                    have KS := Lib.hid (show ∀ W, Below wp.heap.size wp W → (W.cell? ⟨q7, 1, none⟩ = some (.int .i64 x.b) ∧ W.cell? ⟨q7, 2, none⟩ = some (.bool x.s) ∧ W.cell? ⟨b0, k * 3 + 1, none⟩ = some (.int .i64 z.b)) from fun W h => ⟨kept h (kept BP.out F1.out), kept h (kept BP.out F2.out), kept h (kept BP.out z1.out)⟩)
                    obtain ⟨wc, hwc⟩ : ∃ wc, wc = wp.drew := ⟨_, rfl⟩
                    have Bc := Lib.hid (show Below wp.heap.size wp wc by rw [hwc]; exact (Below.refl _ _).drew)
                    have DW := Lib.hid (show ∃ j, wc = w4.drewN j by obtain ⟨a, ha⟩ := DP.out; exact ⟨a + 1, by rw [hwc, ha]; exact World.drewN_drewN w4 a 1⟩)
                    refine wp_region_held_drew (S := (fun W => (W.cell? ⟨q7, 1, none⟩ = some (.int .i64 x.b) ∧ W.cell? ⟨q7, 2, none⟩ = some (.bool x.s) ∧ W.cell? ⟨b0, k * 3 + 1, none⟩ = some (.int .i64 z.b)))) (by kernel_rfl) (by rw [← hwc]; exact KS.out _ Bc.out) (fun h0 => ?_)
                    rw [← hwc] at h0 ⊢
                    clear hwc
                    refine wpAnyH_take (i := 0) (v := ?v95) rfl (by kernel_rfl) (by kernel_rfl) (by kernel_rfl) (fun _ _ _ h => h) (Or.inl ⟨by rfl, ?hy95⟩) h0 ?rest95
                    case hy95 => (intro w' hS; (try dsimp only at hS); go_simp; try (with_reducible rfl))
                    simp only [Act.put, List.getElem_toArray, List.getElem_cons_zero, List.setIfInBounds_toArray, List.set_cons_zero, List.set_cons_succ]
                    refine wpAnyH_take (i := 1) (v := ?v96) rfl (by kernel_rfl) (by kernel_rfl) (by kernel_rfl) (fun _ _ _ h => h) (Or.inl ⟨by rfl, ?hy96⟩) h0 ?rest96
                    case hy96 => (intro w' hS; (try dsimp only at hS); go_simp; try (with_reducible rfl))
                    simp only [Act.put, List.getElem_toArray, List.getElem_cons_zero, List.getElem_cons_succ, List.setIfInBounds_toArray, List.set_cons_zero, List.set_cons_succ]
                    refine wpAnyH_take (i := 2) (v := ?v97) rfl (by kernel_rfl) (by kernel_rfl) (by kernel_rfl) (fun _ _ _ h => h) (Or.inl ⟨by rfl, ?hy97⟩) h0 ?rest97
                    case hy97 => (intro w' hS; (try dsimp only at hS); go_simp; try (with_reducible rfl))
                    simp only [Act.put, List.getElem_toArray, List.getElem_cons_zero, List.getElem_cons_succ, List.setIfInBounds_toArray, List.set_cons_zero, List.set_cons_succ]
                    refine wpAnyH_take (i := 3) (v := ?v98) rfl (by kernel_rfl) (by kernel_rfl) (by kernel_rfl) (fun _ _ _ h => h) (Or.inl ⟨by rfl, ?hy98⟩) h0 ?rest98
                    case hy98 => (intro w' hS; (try dsimp only at hS); go_simp; try (with_reducible rfl))
                    simp only [Act.put, List.getElem_toArray, List.getElem_cons_zero, List.getElem_cons_succ, List.setIfInBounds_toArray, List.set_cons_zero, List.set_cons_succ]
                    refine wpAnyH_take (i := 4) (v := ?v99) rfl (by kernel_rfl) (by kernel_rfl) (by kernel_rfl) (fun _ _ _ h => h) (Or.inl ⟨by rfl, ?hy99⟩) h0 ?rest99
                    case hy99 => (intro w' hS; (try dsimp only at hS); go_simp; try (with_reducible rfl))
                    simp only [Act.put, List.getElem_toArray, List.getElem_cons_zero, List.getElem_cons_succ, List.setIfInBounds_toArray, List.set_cons_zero, List.set_cons_succ]
                    refine wpAnyH_take (i := 5) (v := ?v100) rfl (by kernel_rfl) (by kernel_rfl) (by kernel_rfl) (fun _ _ _ h => h) (Or.inl ⟨by rfl, ?hy100⟩) h0 ?rest100
                    case hy100 => (intro w' hS; (try dsimp only at hS); go_simp; try (with_reducible rfl))
                    simp only [Act.put, List.getElem_toArray, List.getElem_cons_zero, List.getElem_cons_succ, List.setIfInBounds_toArray, List.set_cons_zero, List.set_cons_succ]
                    refine wpAnyH_take (i := 6) (v := ?v101) rfl (by kernel_rfl) (by kernel_rfl) (by kernel_rfl) (fun _ _ _ h => h) (Or.inl ⟨by rfl, ?hy101⟩) h0 ?rest101
                    case hy101 => (intro w' hS; (try dsimp only at hS); go_simp; try (with_reducible rfl))
                    simp only [Act.put, List.getElem_toArray, List.getElem_cons_zero, List.getElem_cons_succ, List.setIfInBounds_toArray, List.set_cons_zero, List.set_cons_succ]
                    refine wpAnyH_take (i := 7) (v := ?v102) rfl (by kernel_rfl) (by kernel_rfl) (by kernel_rfl) (fun _ _ _ h => h) (Or.inl ⟨by rfl, ?hy102⟩) h0 ?rest102
                    case hy102 => (intro w' hS; (try dsimp only at hS); go_simp; try (with_reducible rfl))
                    simp only [Act.put, List.getElem_toArray, List.getElem_cons_zero, List.getElem_cons_succ, List.setIfInBounds_toArray, List.set_cons_zero, List.set_cons_succ]
                    refine wpAnyH_take (i := 8) (v := ?v103) rfl (by kernel_rfl) (by kernel_rfl) (by kernel_rfl) (fun _ _ _ h => h) (Or.inl ⟨by rfl, ?hy103⟩) h0 ?rest103
                    case hy103 => (intro w' hS; (try dsimp only at hS); go_simp; try (with_reducible rfl))
                    simp only [Act.put, List.getElem_toArray, List.getElem_cons_zero, List.getElem_cons_succ, List.setIfInBounds_toArray, List.set_cons_zero, List.set_cons_succ]
                    refine wpAnyH_take (i := 9) (v := ?v104) rfl (by kernel_rfl) (by kernel_rfl) (by kernel_rfl) (fun _ _ _ h => h) (Or.inl ⟨by rfl, ?hy104⟩) h0 ?rest104
                    case hy104 => (intro w' hS; (try dsimp only at hS); go_simp; try (with_reducible rfl))
                    simp only [Act.put, List.getElem_toArray, List.getElem_cons_zero, List.getElem_cons_succ, List.setIfInBounds_toArray, List.set_cons_zero, List.set_cons_succ]
                    refine wpAnyH_take (i := 10) (v := ?v105) rfl (by kernel_rfl) (by kernel_rfl) (by kernel_rfl) (fun _ _ _ h => h) (Or.inl ⟨by rfl, ?hy105⟩) h0 ?rest105
                    case hy105 => (intro w' hS; (try dsimp only at hS); go_simp; try (with_reducible rfl))
                    simp only [Act.put, List.getElem_toArray, List.getElem_cons_zero, List.getElem_cons_succ, List.setIfInBounds_toArray, List.set_cons_zero, List.set_cons_succ]
                    refine wpAnyH_take (i := 11) (v := ?v106) rfl (by kernel_rfl) (by kernel_rfl) (by kernel_rfl) (fun _ _ _ h => h) (Or.inl ⟨by rfl, ?hy106⟩) h0 ?rest106
                    case hy106 => (intro w' hS; (try dsimp only at hS); go_simp; try (with_reducible rfl))
                    simp only [Act.put, List.getElem_toArray, List.getElem_cons_zero, List.getElem_cons_succ, List.setIfInBounds_toArray, List.set_cons_zero, List.set_cons_succ]
                    refine wpAnyH_take (i := 12) (v := ?v107) rfl (by kernel_rfl) (by kernel_rfl) (by kernel_rfl) (fun _ _ _ h => h) (Or.inl ⟨by rfl, ?hy107⟩) h0 ?rest107
                    case hy107 => (intro w' hS; (try dsimp only at hS); go_simp; try (with_reducible rfl))
                    simp only [Act.put, List.getElem_toArray, List.getElem_cons_zero, List.getElem_cons_succ, List.setIfInBounds_toArray, List.set_cons_zero, List.set_cons_succ]
                    refine wpAnyH_take (i := 13) (v := ?v108) rfl (by kernel_rfl) (by kernel_rfl) (by kernel_rfl) (fun _ _ _ h => h) (Or.inl ⟨by rfl, ?hy108⟩) h0 ?rest108
                    case hy108 => (intro w' hS; (try dsimp only at hS); go_simp; try (with_reducible rfl))
                    simp only [Act.put, List.getElem_toArray, List.getElem_cons_zero, List.getElem_cons_succ, List.setIfInBounds_toArray, List.set_cons_zero, List.set_cons_succ]
                    refine wpAnyH_take (i := 14) (v := ?v109) rfl (by kernel_rfl) (by kernel_rfl) (by kernel_rfl) (fun _ _ _ h => h) (Or.inl ⟨by rfl, ?hy109⟩) h0 ?rest109
                    case hy109 => (intro w' hS; (try dsimp only at hS); go_simp; try (with_reducible rfl))
                    simp only [Act.put, List.getElem_toArray, List.getElem_cons_zero, List.getElem_cons_succ, List.setIfInBounds_toArray, List.set_cons_zero, List.set_cons_succ]
                    refine wpAnyH_take (i := 15) (v := ?v110) rfl (by kernel_rfl) (by kernel_rfl) (by kernel_rfl) (fun _ _ _ h => h) (Or.inl ⟨by rfl, ?hy110⟩) h0 ?rest110
                    case hy110 => (intro w' hS; (try dsimp only at hS); go_simp; try (with_reducible rfl))
                    simp only [Act.put, List.getElem_toArray, List.getElem_cons_zero, List.getElem_cons_succ, List.setIfInBounds_toArray, List.set_cons_zero, List.set_cons_succ]
                    refine wpAnyH_take (i := 16) (v := ?v111) rfl (by kernel_rfl) (by kernel_rfl) (by kernel_rfl) (fun _ _ _ h => h) (Or.inl ⟨by rfl, ?hy111⟩) h0 ?rest111
                    case hy111 => (intro w' hS; (try dsimp only at hS); go_simp; try (with_reducible rfl))
                    simp only [Act.put, List.getElem_toArray, List.getElem_cons_zero, List.getElem_cons_succ, List.setIfInBounds_toArray, List.set_cons_zero, List.set_cons_succ]
                    refine wpAnyH_take (i := 17) (v := ?v112) rfl (by kernel_rfl) (by kernel_rfl) (by kernel_rfl) (fun _ _ _ h => h) (Or.inl ⟨by rfl, ?hy112⟩) h0 ?rest112
                    case hy112 => (intro w' hS; (try dsimp only at hS); go_simp; try (with_reducible rfl))
                    simp only [Act.put, List.getElem_toArray, List.getElem_cons_zero, List.getElem_cons_succ, List.setIfInBounds_toArray, List.set_cons_zero, List.set_cons_succ]
                    refine wpAnyH_take (i := 18) (v := undef) rfl (by kernel_rfl) (by kernel_rfl) (by kernel_rfl) (fun _ _ _ h => h) (Or.inr ⟨by rfl, rfl⟩) h0 ?_
                    simp only [Act.put, List.getElem_toArray, List.getElem_cons_zero, List.getElem_cons_succ, List.setIfInBounds_toArray, List.set_cons_zero, List.set_cons_succ]
                    refine wpAnyH_take (i := 19) (v := undef) rfl (by kernel_rfl) (by kernel_rfl) (by kernel_rfl) (fun _ _ _ h => h) (Or.inr ⟨by rfl, rfl⟩) h0 ?_
                    simp only [Act.put, List.getElem_toArray, List.getElem_cons_zero, List.getElem_cons_succ, List.setIfInBounds_toArray, List.set_cons_zero, List.set_cons_succ]
                    refine wpAnyH_take (i := 20) (v := ?v113) rfl (by kernel_rfl) (by kernel_rfl) (by kernel_rfl) (fun _ _ _ h => h) (Or.inl ⟨by rfl, ?hy113⟩) h0 ?rest113
                    case hy113 => (intro w' hS; (try dsimp only at hS); go_simp; try (with_reducible rfl))
                    simp only [Act.put, List.getElem_toArray, List.getElem_cons_zero, List.getElem_cons_succ, List.setIfInBounds_toArray, List.set_cons_zero, List.set_cons_succ]
                    refine wpAnyH_take (i := 21) (v := ?v114) rfl (by kernel_rfl) (by kernel_rfl) (by kernel_rfl) (fun _ _ _ h => h) (Or.inl ⟨by rfl, ?hy114⟩) h0 ?rest114
                    case hy114 => (intro w' hS; (try dsimp only at hS); go_simp; try (with_reducible rfl))
                    simp only [Act.put, List.getElem_toArray, List.getElem_cons_zero, List.getElem_cons_succ, List.setIfInBounds_toArray]
                    try simp only [List.set_cons_succ]
                    try simp only [List.set_cons_zero]
                    refine wpAnyH_done (by kernel_rfl) ?_ _
                    have OV := Lib.hid (INS0.out (over_no G1.out (fun e => absurd e GG2.out)))
                    have SA := Lib.hid (show OwnV wc w.heap.size (.slice (some ⟨b0, 0, none⟩) N cp2) O by rw [HN.out]; exact OW2.out.on (BP.out.trans (Bc.out.mono BP.out.size)))
                    have SB := Lib.hid (show Below w.heap.size w wc from below_on HB2.out (BP.out.trans (Bc.out.mono BP.out.size)))
                    have MP := Lib.hid (show O.map lnV = insL (keepR ((L.map lnV).take (t + 1))) by
                      rw [KN.out, insL_snoc, ← EO.out, OV.out])
                    clear DW Bc KS
                    go_wp2_with fail
                    go_roundw
                    case rel => exact ⟨t + 1, by go_num, by omega, FB, Lib.hid ⟨_, SA.out, MP.out⟩, SB⟩
                    case measure => simp [intOf]; omega
              · have INSEQ := Lib.hid (show insN x (O.map lnV) = (O.map lnV).take k ++ x :: (O.map lnV).drop k by
                  have hl : k < (O.map lnV).length := by rw [List.length_map, ← HN.out]; exact hkN
                  have hz2 : ((O.map lnV)[k]).a = z.a := by simp [lnV, ZE.out (by simpa using hl)]
                  rw [ins_at (x := x) (l := O.map lnV) (k := k) (by omega) (fun i h hi => by have := HK.out i (by simpa using h) hi; simpa [lnV] using this) (fun h => by rw [hz2, ← RR.out]; have := HR.out; omega)]
                  rw [if_neg (fun h => by
                    obtain ⟨_, e⟩ := h
                    rw [hz2] at e
                    exact hr0 (by rw [RR.out]; exact cmp_eq.2 e))])
                have e0 : (r == 0) = false := by simpa using hr0
                clear hr hr0
                go_upto_region 15 with (fail)
                obtain ⟨wp, hwp⟩ : ∃ wp, wp = wc := ⟨_, rfl⟩
                have DP := Lib.hid (show ∃ j, wp = w4.drewN j by rw [hwp]; exact DW.out)
                have BP := Lib.hid (show Below w4.heap.size w4 wp by obtain ⟨a, ha⟩ := DP.out; rw [ha]; exact below_drewN (Below.refl _ _) a)
                rw [← hwp]
                clear hwp
                have BX := Lib.hid (show Below w4.heap.size w4 wp from BP.out)
                have OW5 := Lib.hid ((OW2.out.on BX.out).on (one_more (.cells av0.cs 25)))
                have HB5 := Lib.hid (below_on (below_on HB2.out BX.out) (one_more (.cells av0.cs 25)))
                have A5 := Lib.hid ((BkV.made wp av0).avAt)
                have N5 := Lib.hid ((N2.out.kept BX.out).kept (one_more (.cells av0.cs 25)))
                have G5 := Lib.hid ((G2.out.on BX.out).on (one_more (.cells av0.cs 25)))
                have z5 := HB5.out.size
                have ZS := Lib.hid (show q7 < (wp.alloc (.cells av0.cs 25)).heap.size from N5.out.lt)
                have GV := Lib.hid (show GoodV (wp.alloc (.cells av0.cs 25)) (Value.slice (some ⟨b0, 0, none⟩) O.length cp2).ownBlock av0 from ⟨fun t ht => by simp [av0] at ht, fun p e => by simp [av0] at e, fun _ => ⟨rfl, rfl⟩, Nat.le_refl _, Nat.zero_le _⟩)
                rw [← HN.out] at OW5 GV
                have OB5 := Lib.hid (show ∀ b, (Value.slice (some ⟨b0, 0, none⟩) N cp2).ownBlock = some b → b < wr.heap.size by rw [HN.out]; exact OBB.out)
                go_wp2_with (first | refine wpl_bv1 rfl _ rfl av0 (by first | rfl | simp [Act.eval, av0, AV.cs, AV.cells]) ?_ | (at_builtin; refine wpl_appV rfl _ _ rfl w.heap.size _ O av0 rfl OW5.out _ _ rfl A5.out GV.out (by have := NL.out; have := HN.out; omega) z5 ?_))
                intro v' w6 o6 g6 f6
                obtain ⟨g5, c5, rfl, hB5, hlt5, _⟩ := o6.form (by simp)
                have LL := Lib.hid (show (O ++ [av0]).length = N + 1 by rw [HN.out]; simp)
                have BB5 := Lib.hid (show g5 ≠ q7 ∧ g5 ≠ g ∧ w.heap.size ≤ g5 by
                  have h1 := Z7.out
                  have h2 := ZS.out
                  have h3 := hB5
                  have h5 : (wp.alloc (.cells av0.cs 25)).heap.size = wp.heap.size + 1 := by simp
                  have f7 : (Value.slice (some ⟨g5, 0, none⟩) (O ++ [av0]).length c5).ownBlock = some g5 := rfl
                  rw [f7] at f6
                  rcases f6 with h | h
                  · have := OB5.out g5 h.symm; refine ⟨?_, ?_, ?_⟩ <;> omega
                  · have h4 := Option.some.inj h; (try simp only [World.size_alloc] at h4); refine ⟨?_, ?_, ?_⟩ <;> omega)
                have N6 := Lib.hid (show BkV w6 q7 X from (g6.block q7 N5.out.lt (fun e => by have := OB5.out q7 e.symm; have := Z7.out; omega)).trans N5.out)
                have G6 := Lib.hid (show OwnI w6 wr.heap.size g cg x.a from World.ownsRow.kept G5.out g6 (Or.inr (fun e => by have := OB5.out g (by simpa [Value.ownBlock] using e.symm); have := Z7.out; omega)))
                have B6 := Lib.hid (Below.grown HB5.out g6 HB5.out.size (fun k hk => (World.ownsRow.lt OW5.out.row k hk).1))
                have hk' : k ≤ O.length := by rw [← HN.out]; omega
                have P6 := Lib.hid (show OwnV w6 w.heap.size (.slice (some ⟨g5, 0, none⟩) (N + 1) c5) (O.take N ++ av0 :: O.drop N) by rw [← LL.out, HN.out, List.take_length, List.drop_length]; exact o6)
                have KO := Lib.hid hk'
                rw [LL.out]
                clear o6 g6 f6 hB5 hlt5 z5 OW5 HB5 A5 N5 G5 GV hk'
                have hwN : wrap64 (N : Int) = N := by have := NL.out; unfold wrap64; omega
                have HWN := Lib.hid hwN
                go_wp2_with fail
                clear hwN
                generalize wr = wo at *
                go_loopw [9] (fun s wr => ∃ jj : Nat, s = .int .i64 jj ∧ k ≤ jj ∧ jj ≤ N ∧ Hid (∃ z, OwnV wr w.heap.size (.slice (some ⟨g5, 0, none⟩) (N + 1) c5) (O.take jj ++ z :: O.drop jj)) ∧ Hid (w6.grownBy wr (some g5))) (fun s _ => (intOf s).toNat - k)
                case atStart => exact ⟨N, by first | rfl | rw [HWN.out], by omega, by omega, Lib.hid ⟨av0, P6.out⟩, Lib.hid (World.grownBy.refl _ _)⟩
                case round =>
                  clear P6
                  obtain ⟨jj, rfl, hk1, hk2, HP, HGr⟩ := hrel
                  obtain ⟨z2, hz2⟩ := HP.out
                  by_cases hjk : k < jj
                  · obtain ⟨i, rfl⟩ : ∃ i, jj = i + 1 := ⟨jj - 1, by omega⟩
                    have hi : i < O.length := by have := HN.out; omega
                    have LZ : (O.take (i + 1) ++ z2 :: O.drop (i + 1)).length = N + 1 := by have := HN.out; simp; omega
                    have hz3 : OwnV wr w.heap.size (.slice (some ⟨g5, 0, none⟩) (O.take (i + 1) ++ z2 :: O.drop (i + 1)).length c5) (O.take (i + 1) ++ z2 :: O.drop (i + 1)) := by rw [LZ]; exact hz2
                    have hq : i < (O.take (i + 1) ++ z2 :: O.drop (i + 1)).length := by rw [LZ]; omega
                    have A := hz3.avAt hq
                    rw [shift_at hi z2 hq] at A
                    have TH := hz3.there (i := i + 1) (by rw [LZ]; omega)
                    have ST := hz3.set (i + 1) (y := O[i]) (hz3.good (by have := List.getElem_mem hq; rwa [shift_at hi z2 hq] at this))
                    rw [shift_set hi, LZ] at ST
                    obtain ⟨Z, hZ⟩ : ∃ Z, Z = O[i] := ⟨_, rfl⟩
                    rw [← hZ] at A ST
                    have AH := Lib.hid A
                    have THH := Lib.hid TH
                    have SA := Lib.hid ST.1
                    have SG := Lib.hid (grownT HGr.out ST.2)
                    have hw : wrap64 ((i : Int) + 1 - 1) = i := by have := NL.out; unfold wrap64; omega
                    clear hz2 HP hz3 A TH ST hZ LZ hq hi HGr
                    go_wp2_with (first | refine wpl_loadV rfl _ rfl _ rfl Z AH.out ?_ | refine wpList_store_mid rfl _ _ _ rfl g5 ((i + 1) * 3) Z.cs rfl rfl THH.out av_size (by simp [AV.cs, AV.cells, Value.oneCell']) ?_)
                    go_roundw
                    case rel => exact ⟨i, by go_num, by omega, by omega, Lib.hid ⟨Z, SA.out⟩, SG⟩
                    case measure => first | (simp [intOf]; done) | (simp [intOf]; omega)
                  · obtain rfl : k = jj := by omega
                    have hi : k ≤ O.length := KO.out
                    have LZ : (O.take k ++ z2 :: O.drop k).length = N + 1 := by have := HN.out; simp; omega
                    have hz3 : OwnV wr w.heap.size (.slice (some ⟨g5, 0, none⟩) (O.take k ++ z2 :: O.drop k).length c5) (O.take k ++ z2 :: O.drop k) := by rw [LZ]; exact hz2
                    have TH := hz3.there (i := k) (by rw [LZ]; omega)
                    have N7 := Lib.hid (show BkV wr q7 X from N6.out.grown HGr.out (Ne.symm BB5.out.1))
                    have G7 := G6.out.grown HGr.out (Ne.symm BB5.out.2.1)
                    have GX : GoodV wr (some g5) X := by
                      rw [XC.out]
                      refine ⟨G7.rd, fun p e => ?_, fun e => by (cases e), G7.capOk⟩
                      cases e
                      exact ⟨fun e => by injection e with e; exact BB5.out.2.1 e, G7.lt.2⟩
                    have ST := hz3.set k (y := X) GX
                    rw [shift_last hi, LZ] at ST
                    have THH := Lib.hid TH
                    have SA := Lib.hid ST.1
                    have SB := Lib.hid (Below.grown B6.out (grownT HGr.out ST.2) B6.out.size (fun k' hk => by have := BB5.out.2.2; injection hk with hk; omega))
                    have MP := Lib.hid (show (O.take k ++ X :: O.drop k).map lnV = insL (keepR ((L.map lnV).take (t + 1))) by
                      rw [KN.out, insL_snoc, ← EO.out, INSEQ.out, List.map_append, List.map_cons, List.map_take, List.map_drop]
                      congr 2
                      rw [XC.out]; rfl)
                    clear hz2 HP hz3 TH ST LZ hi HGr G7 GX
                    go_wp2_with (first | refine wpl_loadV rfl _ rfl _ rfl X N7.out.avAt ?_ | refine wpList_store_mid rfl _ _ _ rfl g5 (k * 3) X.cs rfl rfl THH.out av_size (by simp [AV.cs, AV.cells, Value.oneCell']) ?_)
                    go_roundw
                    case rel => exact ⟨t + 1, by go_num, by omega, FB, Lib.hid ⟨_, SA.out, MP.out⟩, SB⟩
                    case measure => simp [intOf]; omega
          · have INSEQ := Lib.hid (show insN x (O.map lnV) = (O.map lnV).take k ++ x :: (O.map lnV).drop k by
              have hkO : ¬ k < (O.map lnV).length := by rw [List.length_map, ← HN.out]; exact hkN
              rw [ins_at (x := x) (l := O.map lnV) (k := k) (by rw [List.length_map, ← HN.out]; omega) (fun i h hi => by have := HK.out i (by simpa using h) hi; simpa [lnV] using this) (fun h => absurd h hkO)]
              rw [if_neg (fun h => hkO h.1)])
            obtain ⟨wp, hwp⟩ : ∃ wp, wp = w4.drewN j := ⟨_, rfl⟩
            have DP := Lib.hid (show ∃ j, wp = w4.drewN j by rw [hwp]; exact ⟨j, rfl⟩)
            have BP := Lib.hid (show Below w4.heap.size w4 wp by obtain ⟨a, ha⟩ := DP.out; rw [ha]; exact below_drewN (Below.refl _ _) a)
            rw [← hwp]
            clear hwp
            go_wp2_with fail
            have KS := Lib.hid (show ∀ W, Below wp.heap.size wp W → (W.cell? ⟨q7, 0, none⟩ = some (.slice (some ⟨g, 0, none⟩) n cg) ∧ True) from fun W h => ⟨kept h (kept BP.out F0.out), trivial⟩)
            obtain ⟨wc, hwc⟩ : ∃ wc, wc = wp.drew := ⟨_, rfl⟩
            have Bc := Lib.hid (show Below wp.heap.size wp wc by rw [hwc]; exact (Below.refl _ _).drew)
            have DW := Lib.hid (show ∃ j, wc = w4.drewN j by obtain ⟨a, ha⟩ := DP.out; exact ⟨a + 1, by rw [hwc, ha]; exact World.drewN_drewN w4 a 1⟩)
            refine wp_region_held_drew (S := (fun W => (W.cell? ⟨q7, 0, none⟩ = some (.slice (some ⟨g, 0, none⟩) n cg) ∧ True))) (by kernel_rfl) (by rw [← hwc]; exact KS.out _ Bc.out) (fun h0 => ?_)
            rw [← hwc] at h0 ⊢
            clear hwc
            refine wpAnyH_take (i := 0) (v := ?v1) rfl (by kernel_rfl) (by kernel_rfl) (by kernel_rfl) (fun _ _ _ h => h) (Or.inl ⟨by rfl, ?hy1⟩) h0 ?rest1
            case hy1 => (intro w' hS; (try dsimp only at hS); go_simp; try (with_reducible rfl))
            simp only [Act.put, List.getElem_toArray, List.getElem_cons_zero, List.setIfInBounds_toArray, List.set_cons_zero, List.set_cons_succ]
            refine wpAnyH_take (i := 1) (v := ?v2) rfl (by kernel_rfl) (by kernel_rfl) (by kernel_rfl) (fun _ _ _ h => h) (Or.inl ⟨by rfl, ?hy2⟩) h0 ?rest2
            case hy2 => (intro w' hS; (try dsimp only at hS); go_simp; try (with_reducible rfl))
            simp only [Act.put, List.getElem_toArray, List.getElem_cons_zero, List.getElem_cons_succ, List.setIfInBounds_toArray, List.set_cons_zero, List.set_cons_succ]
            refine wpAnyH_take (i := 2) (v := ?v3) rfl (by kernel_rfl) (by kernel_rfl) (by kernel_rfl) (fun _ _ _ h => h) (Or.inl ⟨by rfl, ?hy3⟩) h0 ?rest3
            case hy3 => (intro w' hS; (try dsimp only at hS); go_simp; try (with_reducible rfl))
            simp only [Act.put, List.getElem_toArray, List.getElem_cons_zero, List.getElem_cons_succ, List.setIfInBounds_toArray, List.set_cons_zero, List.set_cons_succ]
            refine wpAnyH_take (i := 3) (v := ?v4) rfl (by kernel_rfl) (by kernel_rfl) (by kernel_rfl) (fun _ _ _ h => h) (Or.inl ⟨by rfl, ?hy4⟩) h0 ?rest4
            case hy4 => (intro w' hS; (try dsimp only at hS); go_simp; try (with_reducible rfl))
            simp only [Act.put, List.getElem_toArray, List.getElem_cons_zero, List.getElem_cons_succ, List.setIfInBounds_toArray, List.set_cons_zero, List.set_cons_succ]
            refine wpAnyH_take (i := 4) (v := ?v5) rfl (by kernel_rfl) (by kernel_rfl) (by kernel_rfl) (fun _ _ _ h => h) (Or.inl ⟨by rfl, ?hy5⟩) h0 ?rest5
            case hy5 => (intro w' hS; (try dsimp only at hS); go_simp; try (with_reducible rfl))
            simp only [Act.put, List.getElem_toArray, List.getElem_cons_zero, List.getElem_cons_succ, List.setIfInBounds_toArray, List.set_cons_zero, List.set_cons_succ]
            refine wpAnyH_take (i := 5) (v := undef) rfl (by kernel_rfl) (by kernel_rfl) (by kernel_rfl) (fun _ _ _ h => h) (Or.inr ⟨by rfl, rfl⟩) h0 ?_
            simp only [Act.put, List.getElem_toArray, List.getElem_cons_zero, List.getElem_cons_succ, List.setIfInBounds_toArray, List.set_cons_zero, List.set_cons_succ]
            refine wpAnyH_take (i := 6) (v := undef) rfl (by kernel_rfl) (by kernel_rfl) (by kernel_rfl) (fun _ _ _ h => h) (Or.inr ⟨by rfl, rfl⟩) h0 ?_
            simp only [Act.put, List.getElem_toArray, List.getElem_cons_zero, List.getElem_cons_succ, List.setIfInBounds_toArray, List.set_cons_zero, List.set_cons_succ]
            refine wpAnyH_take (i := 7) (v := undef) rfl (by kernel_rfl) (by kernel_rfl) (by kernel_rfl) (fun _ _ _ h => h) (Or.inr ⟨by rfl, rfl⟩) h0 ?_
            simp only [Act.put, List.getElem_toArray, List.getElem_cons_zero, List.getElem_cons_succ, List.setIfInBounds_toArray, List.set_cons_zero, List.set_cons_succ]
            refine wpAnyH_take (i := 8) (v := undef) rfl (by kernel_rfl) (by kernel_rfl) (by kernel_rfl) (fun _ _ _ h => h) (Or.inr ⟨by rfl, rfl⟩) h0 ?_
            simp only [Act.put, List.getElem_toArray, List.getElem_cons_zero, List.getElem_cons_succ, List.setIfInBounds_toArray, List.set_cons_zero, List.set_cons_succ]
            refine wpAnyH_take (i := 9) (v := undef) rfl (by kernel_rfl) (by kernel_rfl) (by kernel_rfl) (fun _ _ _ h => h) (Or.inr ⟨by rfl, rfl⟩) h0 ?_
            simp only [Act.put, List.getElem_toArray, List.getElem_cons_zero, List.getElem_cons_succ, List.setIfInBounds_toArray, List.set_cons_zero, List.set_cons_succ]
            refine wpAnyH_take (i := 10) (v := undef) rfl (by kernel_rfl) (by kernel_rfl) (by kernel_rfl) (fun _ _ _ h => h) (Or.inr ⟨by rfl, rfl⟩) h0 ?_
            simp only [Act.put, List.getElem_toArray, List.getElem_cons_zero, List.getElem_cons_succ, List.setIfInBounds_toArray, List.set_cons_zero, List.set_cons_succ]
            refine wpAnyH_take (i := 11) (v := undef) rfl (by kernel_rfl) (by kernel_rfl) (by kernel_rfl) (fun _ _ _ h => h) (Or.inr ⟨by rfl, rfl⟩) h0 ?_
            simp only [Act.put, List.getElem_toArray, List.getElem_cons_zero, List.getElem_cons_succ, List.setIfInBounds_toArray, List.set_cons_zero, List.set_cons_succ]
            refine wpAnyH_take (i := 12) (v := undef) rfl (by kernel_rfl) (by kernel_rfl) (by kernel_rfl) (fun _ _ _ h => h) (Or.inr ⟨by rfl, rfl⟩) h0 ?_
            simp only [Act.put, List.getElem_toArray, List.getElem_cons_zero, List.getElem_cons_succ, List.setIfInBounds_toArray, List.set_cons_zero, List.set_cons_succ]
            refine wpAnyH_take (i := 13) (v := undef) rfl (by kernel_rfl) (by kernel_rfl) (by kernel_rfl) (fun _ _ _ h => h) (Or.inr ⟨by rfl, rfl⟩) h0 ?_
            simp only [Act.put, List.getElem_toArray, List.getElem_cons_zero, List.getElem_cons_succ, List.setIfInBounds_toArray, List.set_cons_zero, List.set_cons_succ]
            refine wpAnyH_take (i := 14) (v := ?v6) rfl (by kernel_rfl) (by kernel_rfl) (by kernel_rfl) (fun _ _ _ h => h) (Or.inl ⟨by rfl, ?hy6⟩) h0 ?rest6
            case hy6 => (intro w' hS; (try dsimp only at hS); go_simp; try (with_reducible rfl))
            simp only [Act.put, List.getElem_toArray, List.getElem_cons_zero, List.getElem_cons_succ, List.setIfInBounds_toArray]
            try simp only [List.set_cons_succ]
            try simp only [List.set_cons_zero]
            refine wpAnyH_done (by kernel_rfl) ?_ _
            obtain ⟨wp, hwp⟩ : ∃ wp, wp = wc := ⟨_, rfl⟩
            have DP := Lib.hid (show ∃ j, wp = w4.drewN j by rw [hwp]; exact DW.out)
            have BP := Lib.hid (show Below w4.heap.size w4 wp by obtain ⟨a, ha⟩ := DP.out; rw [ha]; exact below_drewN (Below.refl _ _) a)
            rw [← hwp]
            clear hwp
            go_wp2_with fail
            have KS := Lib.hid (show ∀ W, Below wp.heap.size wp W → (W.cell? ⟨q7, 0, none⟩ = some (.slice (some ⟨g, 0, none⟩) n cg) ∧ True) from fun W h => ⟨kept h (kept BP.out F0.out), trivial⟩)
            obtain ⟨wc, hwc⟩ : ∃ wc, wc = wp.drew := ⟨_, rfl⟩
            have Bc := Lib.hid (show Below wp.heap.size wp wc by rw [hwc]; exact (Below.refl _ _).drew)
            have DW := Lib.hid (show ∃ j, wc = w4.drewN j by obtain ⟨a, ha⟩ := DP.out; exact ⟨a + 1, by rw [hwc, ha]; exact World.drewN_drewN w4 a 1⟩)
            refine wp_region_held_drew (S := (fun W => (W.cell? ⟨q7, 0, none⟩ = some (.slice (some ⟨g, 0, none⟩) n cg) ∧ True))) (by kernel_rfl) (by rw [← hwc]; exact KS.out _ Bc.out) (fun h0 => ?_)
            rw [← hwc] at h0 ⊢
            clear hwc
            refine wpAnyH_take (i := 0) (v := ?v7) rfl (by kernel_rfl) (by kernel_rfl) (by kernel_rfl) (fun _ _ _ h => h) (Or.inl ⟨by rfl, ?hy7⟩) h0 ?rest7
            case hy7 => (intro w' hS; (try dsimp only at hS); go_simp; try (with_reducible rfl))
            simp only [Act.put, List.getElem_toArray, List.getElem_cons_zero, List.setIfInBounds_toArray, List.set_cons_zero, List.set_cons_succ]
            refine wpAnyH_take (i := 1) (v := ?v8) rfl (by kernel_rfl) (by kernel_rfl) (by kernel_rfl) (fun _ _ _ h => h) (Or.inl ⟨by rfl, ?hy8⟩) h0 ?rest8
            case hy8 => (intro w' hS; (try dsimp only at hS); go_simp; try (with_reducible rfl))
            simp only [Act.put, List.getElem_toArray, List.getElem_cons_zero, List.getElem_cons_succ, List.setIfInBounds_toArray, List.set_cons_zero, List.set_cons_succ]
            refine wpAnyH_take (i := 2) (v := ?v9) rfl (by kernel_rfl) (by kernel_rfl) (by kernel_rfl) (fun _ _ _ h => h) (Or.inl ⟨by rfl, ?hy9⟩) h0 ?rest9
            case hy9 => (intro w' hS; (try dsimp only at hS); go_simp; try (with_reducible rfl))
            simp only [Act.put, List.getElem_toArray, List.getElem_cons_zero, List.getElem_cons_succ, List.setIfInBounds_toArray, List.set_cons_zero, List.set_cons_succ]
            refine wpAnyH_take (i := 3) (v := ?v10) rfl (by kernel_rfl) (by kernel_rfl) (by kernel_rfl) (fun _ _ _ h => h) (Or.inl ⟨by rfl, ?hy10⟩) h0 ?rest10
            case hy10 => (intro w' hS; (try dsimp only at hS); go_simp; try (with_reducible rfl))
            simp only [Act.put, List.getElem_toArray, List.getElem_cons_zero, List.getElem_cons_succ, List.setIfInBounds_toArray, List.set_cons_zero, List.set_cons_succ]
            refine wpAnyH_take (i := 4) (v := ?v11) rfl (by kernel_rfl) (by kernel_rfl) (by kernel_rfl) (fun _ _ _ h => h) (Or.inl ⟨by rfl, ?hy11⟩) h0 ?rest11
            case hy11 => (intro w' hS; (try dsimp only at hS); go_simp; try (with_reducible rfl))
            simp only [Act.put, List.getElem_toArray, List.getElem_cons_zero, List.getElem_cons_succ, List.setIfInBounds_toArray, List.set_cons_zero, List.set_cons_succ]
            refine wpAnyH_take (i := 5) (v := undef) rfl (by kernel_rfl) (by kernel_rfl) (by kernel_rfl) (fun _ _ _ h => h) (Or.inr ⟨by rfl, rfl⟩) h0 ?_
            simp only [Act.put, List.getElem_toArray, List.getElem_cons_zero, List.getElem_cons_succ, List.setIfInBounds_toArray, List.set_cons_zero, List.set_cons_succ]
            refine wpAnyH_take (i := 6) (v := undef) rfl (by kernel_rfl) (by kernel_rfl) (by kernel_rfl) (fun _ _ _ h => h) (Or.inr ⟨by rfl, rfl⟩) h0 ?_
            simp only [Act.put, List.getElem_toArray, List.getElem_cons_zero, List.getElem_cons_succ, List.setIfInBounds_toArray, List.set_cons_zero, List.set_cons_succ]
            refine wpAnyH_take (i := 7) (v := undef) rfl (by kernel_rfl) (by kernel_rfl) (by kernel_rfl) (fun _ _ _ h => h) (Or.inr ⟨by rfl, rfl⟩) h0 ?_
            simp only [Act.put, List.getElem_toArray, List.getElem_cons_zero, List.getElem_cons_succ, List.setIfInBounds_toArray, List.set_cons_zero, List.set_cons_succ]
            refine wpAnyH_take (i := 8) (v := undef) rfl (by kernel_rfl) (by kernel_rfl) (by kernel_rfl) (fun _ _ _ h => h) (Or.inr ⟨by rfl, rfl⟩) h0 ?_
            simp only [Act.put, List.getElem_toArray, List.getElem_cons_zero, List.getElem_cons_succ, List.setIfInBounds_toArray, List.set_cons_zero, List.set_cons_succ]
            refine wpAnyH_take (i := 9) (v := undef) rfl (by kernel_rfl) (by kernel_rfl) (by kernel_rfl) (fun _ _ _ h => h) (Or.inr ⟨by rfl, rfl⟩) h0 ?_
            simp only [Act.put, List.getElem_toArray, List.getElem_cons_zero, List.getElem_cons_succ, List.setIfInBounds_toArray, List.set_cons_zero, List.set_cons_succ]
            refine wpAnyH_take (i := 10) (v := undef) rfl (by kernel_rfl) (by kernel_rfl) (by kernel_rfl) (fun _ _ _ h => h) (Or.inr ⟨by rfl, rfl⟩) h0 ?_
            simp only [Act.put, List.getElem_toArray, List.getElem_cons_zero, List.getElem_cons_succ, List.setIfInBounds_toArray, List.set_cons_zero, List.set_cons_succ]
            refine wpAnyH_take (i := 11) (v := undef) rfl (by kernel_rfl) (by kernel_rfl) (by kernel_rfl) (fun _ _ _ h => h) (Or.inr ⟨by rfl, rfl⟩) h0 ?_
            simp only [Act.put, List.getElem_toArray, List.getElem_cons_zero, List.getElem_cons_succ, List.setIfInBounds_toArray, List.set_cons_zero, List.set_cons_succ]
            refine wpAnyH_take (i := 12) (v := undef) rfl (by kernel_rfl) (by kernel_rfl) (by kernel_rfl) (fun _ _ _ h => h) (Or.inr ⟨by rfl, rfl⟩) h0 ?_
            simp only [Act.put, List.getElem_toArray, List.getElem_cons_zero, List.getElem_cons_succ, List.setIfInBounds_toArray, List.set_cons_zero, List.set_cons_succ]
            refine wpAnyH_take (i := 13) (v := undef) rfl (by kernel_rfl) (by kernel_rfl) (by kernel_rfl) (fun _ _ _ h => h) (Or.inr ⟨by rfl, rfl⟩) h0 ?_
            simp only [Act.put, List.getElem_toArray, List.getElem_cons_zero, List.getElem_cons_succ, List.setIfInBounds_toArray, List.set_cons_zero, List.set_cons_succ]
            refine wpAnyH_take (i := 14) (v := ?v12) rfl (by kernel_rfl) (by kernel_rfl) (by kernel_rfl) (fun _ _ _ h => h) (Or.inl ⟨by rfl, ?hy12⟩) h0 ?rest12
            case hy12 => (intro w' hS; (try dsimp only at hS); go_simp; try (with_reducible rfl))
            simp only [Act.put, List.getElem_toArray, List.getElem_cons_zero, List.getElem_cons_succ, List.setIfInBounds_toArray]
            try simp only [List.set_cons_succ]
            try simp only [List.set_cons_zero]
            refine wpAnyH_done (by kernel_rfl) ?_ _
            go_upto_region 15 with (fail)
            obtain ⟨wp, hwp⟩ : ∃ wp, wp = wc := ⟨_, rfl⟩
            have DP := Lib.hid (show ∃ j, wp = w4.drewN j by rw [hwp]; exact DW.out)
            have BP := Lib.hid (show Below w4.heap.size w4 wp by obtain ⟨a, ha⟩ := DP.out; rw [ha]; exact below_drewN (Below.refl _ _) a)
            rw [← hwp]
            clear hwp
            have BX := Lib.hid (show Below w4.heap.size w4 wp from BP.out)
            have OW5 := Lib.hid ((OW2.out.on BX.out).on (one_more (.cells av0.cs 25)))
            have HB5 := Lib.hid (below_on (below_on HB2.out BX.out) (one_more (.cells av0.cs 25)))
            have A5 := Lib.hid ((BkV.made wp av0).avAt)
            have N5 := Lib.hid ((N2.out.kept BX.out).kept (one_more (.cells av0.cs 25)))
            have G5 := Lib.hid ((G2.out.on BX.out).on (one_more (.cells av0.cs 25)))
            have z5 := HB5.out.size
            have ZS := Lib.hid (show q7 < (wp.alloc (.cells av0.cs 25)).heap.size from N5.out.lt)
            have GV := Lib.hid (show GoodV (wp.alloc (.cells av0.cs 25)) (Value.slice ao2 O.length cp2).ownBlock av0 from ⟨fun t ht => by simp [av0] at ht, fun p e => by simp [av0] at e, fun _ => ⟨rfl, rfl⟩, Nat.le_refl _, Nat.zero_le _⟩)
            rw [← HN.out] at OW5 GV
            have OB5 := Lib.hid (show ∀ b, (Value.slice ao2 N cp2).ownBlock = some b → b < wr.heap.size by rw [HN.out]; exact OBB.out)
            go_wp2_with (first | refine wpl_bv1 rfl _ rfl av0 (by first | rfl | simp [Act.eval, av0, AV.cs, AV.cells]) ?_ | (at_builtin; refine wpl_appV rfl _ _ rfl w.heap.size _ O av0 rfl OW5.out _ _ rfl A5.out GV.out (by have := NL.out; have := HN.out; omega) z5 ?_))
            intro v' w6 o6 g6 f6
            obtain ⟨g5, c5, rfl, hB5, hlt5, _⟩ := o6.form (by simp)
            have LL := Lib.hid (show (O ++ [av0]).length = N + 1 by rw [HN.out]; simp)
            have BB5 := Lib.hid (show g5 ≠ q7 ∧ g5 ≠ g ∧ w.heap.size ≤ g5 by
              have h1 := Z7.out
              have h2 := ZS.out
              have h3 := hB5
              have h5 : (wp.alloc (.cells av0.cs 25)).heap.size = wp.heap.size + 1 := by simp
              have f7 : (Value.slice (some ⟨g5, 0, none⟩) (O ++ [av0]).length c5).ownBlock = some g5 := rfl
              rw [f7] at f6
              rcases f6 with h | h
              · have := OB5.out g5 h.symm; refine ⟨?_, ?_, ?_⟩ <;> omega
              · have h4 := Option.some.inj h; (try simp only [World.size_alloc] at h4); refine ⟨?_, ?_, ?_⟩ <;> omega)
            have N6 := Lib.hid (show BkV w6 q7 X from (g6.block q7 N5.out.lt (fun e => by have := OB5.out q7 e.symm; have := Z7.out; omega)).trans N5.out)
            have G6 := Lib.hid (show OwnI w6 wr.heap.size g cg x.a from World.ownsRow.kept G5.out g6 (Or.inr (fun e => by have := OB5.out g (by simpa [Value.ownBlock] using e.symm); have := Z7.out; omega)))
            have B6 := Lib.hid (Below.grown HB5.out g6 HB5.out.size (fun k hk => (World.ownsRow.lt OW5.out.row k hk).1))
            have hk' : k ≤ O.length := by rw [← HN.out]; omega
            have P6 := Lib.hid (show OwnV w6 w.heap.size (.slice (some ⟨g5, 0, none⟩) (N + 1) c5) (O.take N ++ av0 :: O.drop N) by rw [← LL.out, HN.out, List.take_length, List.drop_length]; exact o6)
            have KO := Lib.hid hk'
            rw [LL.out]
            clear o6 g6 f6 hB5 hlt5 z5 OW5 HB5 A5 N5 G5 GV hk'
            have hwN : wrap64 (N : Int) = N := by have := NL.out; unfold wrap64; omega
            have HWN := Lib.hid hwN
            go_wp2_with fail
            clear hwN
            generalize wr = wo at *
            go_loopw [9] (fun s wr => ∃ jj : Nat, s = .int .i64 jj ∧ k ≤ jj ∧ jj ≤ N ∧ Hid (∃ z, OwnV wr w.heap.size (.slice (some ⟨g5, 0, none⟩) (N + 1) c5) (O.take jj ++ z :: O.drop jj)) ∧ Hid (w6.grownBy wr (some g5))) (fun s _ => (intOf s).toNat - k)
            case atStart => exact ⟨N, by first | rfl | rw [HWN.out], by omega, by omega, Lib.hid ⟨av0, P6.out⟩, Lib.hid (World.grownBy.refl _ _)⟩
            case round =>
              clear P6
              obtain ⟨jj, rfl, hk1, hk2, HP, HGr⟩ := hrel
              obtain ⟨z2, hz2⟩ := HP.out
              by_cases hjk : k < jj
              · exact absurd hjk (by omega)
              · obtain rfl : k = jj := by omega
                have hi : k ≤ O.length := KO.out
                have LZ : (O.take k ++ z2 :: O.drop k).length = N + 1 := by have := HN.out; simp; omega
                have hz3 : OwnV wr w.heap.size (.slice (some ⟨g5, 0, none⟩) (O.take k ++ z2 :: O.drop k).length c5) (O.take k ++ z2 :: O.drop k) := by rw [LZ]; exact hz2
                have TH := hz3.there (i := k) (by rw [LZ]; omega)
                have N7 := Lib.hid (show BkV wr q7 X from N6.out.grown HGr.out (Ne.symm BB5.out.1))
                have G7 := G6.out.grown HGr.out (Ne.symm BB5.out.2.1)
                have GX : GoodV wr (some g5) X := by
                  rw [XC.out]
                  refine ⟨G7.rd, fun p e => ?_, fun e => by (cases e), G7.capOk⟩
                  cases e
                  exact ⟨fun e => by injection e with e; exact BB5.out.2.1 e, G7.lt.2⟩
                have ST := hz3.set k (y := X) GX
                rw [shift_last hi, LZ] at ST
                have THH := Lib.hid TH
                have SA := Lib.hid ST.1
                have SB := Lib.hid (Below.grown B6.out (grownT HGr.out ST.2) B6.out.size (fun k' hk => by have := BB5.out.2.2; injection hk with hk; omega))
                have MP := Lib.hid (show (O.take k ++ X :: O.drop k).map lnV = insL (keepR ((L.map lnV).take (t + 1))) by
                  rw [KN.out, insL_snoc, ← EO.out, INSEQ.out, List.map_append, List.map_cons, List.map_take, List.map_drop]
                  congr 2
                  rw [XC.out]; rfl)
                clear hz2 HP hz3 TH ST LZ hi HGr G7 GX
                go_wp2_with (first | refine wpl_loadV rfl _ rfl _ rfl X N7.out.avAt ?_ | refine wpList_store_mid rfl _ _ _ rfl g5 (k * 3) X.cs rfl rfl THH.out av_size (by simp [AV.cs, AV.cells, Value.oneCell']) ?_)
                go_roundw
                case rel => exact ⟨t + 1, by go_num, by omega, FB, Lib.hid ⟨_, SA.out, MP.out⟩, SB⟩
                case measure => simp [intOf]; omega
    · have HE := Lib.hid (show T = insL (keepR (L.map lnV)) by
        have e : (L.map lnV).take t = L.map lnV := List.take_of_length_le (by have := HM.out; simp; omega)
        rw [HT.out]; unfold tidR
        have := HF.out
        rw [e] at this
        rw [this, if_neg (by simp)])
      obtain ⟨O, hO, eO⟩ := HO.out
      have OW := Lib.hid hO
      have EO := Lib.hid (show O.map lnV = T by
        rw [HE.out, eO, List.take_of_length_le (by have := HM.out; simp; omega)])
      clear HO hO eO
      go_wp2_with fail
      go_ret
      exact ⟨_, O, rfl, OW.out, EO.out, HB.out⟩
end Go.Proofs.YtefpaobboimakaaGreat

namespace Go.Proofs.YtefpaobboimakaaGreat
open Go.Sort

theorem gcdL_app (b : Int) (p q : List Int) : gcdL b (p ++ q) = gcdL (gcdL b p) q := by unfold gcdL; rw [List.foldl_append]

theorem gcdL_abs (b : Int) : ∀ (a : List Int), gcdL (b.natAbs : Int) a = ((gcdL b a).natAbs : Int)
  | [] => rfl
  | v :: r => by
    show gcdL (Int.gcd (b.natAbs : Int) v : Int) r = ((gcdL (Int.gcd b v : Int) r).natAbs : Int)
    rw [show Int.gcd (b.natAbs : Int) v = Int.gcd b v by simp [Int.gcd]]
    have := gcdL_nn (b := (Int.gcd b v : Int)) (by omega) r
    omega

theorem gcdL_zeros (b : Int) : ∀ (a : List Int), (∀ v ∈ a, v = 0) → (gcdL b a).natAbs = b.natAbs
  | [], _ => rfl
  | v :: r, h => by
    have hv := h v (by simp)
    subst hv
    show (gcdL (Int.gcd b 0 : Int) r).natAbs = b.natAbs
    rw [gcdL_zeros _ r (fun v hv => h v (by simp [hv])), Int.gcd_zero_right]
    simp

theorem gcdL_skip (b : Int) : ∀ (l : List Int) (i : Nat), gA l i = 0 → (gcdL b (l.eraseIdx i)).natAbs = (gcdL b l).natAbs
  | [], _, _ => by simp
  | v :: r, 0, h => by
    have hv : v = 0 := by simpa [gA] using h
    subst hv
    show (gcdL b r).natAbs = (gcdL (Int.gcd b 0 : Int) r).natAbs
    rw [Int.gcd_zero_right, gcdL_abs]
    simp
  | v :: r, i + 1, h => by
    show (gcdL (Int.gcd b v : Int) (r.eraseIdx i)).natAbs = (gcdL (Int.gcd b v : Int) r).natAbs
    exact gcdL_skip _ r i (by simpa [gA] using h)

theorem gcdL_take (b : Int) (l : List Int) (n : Nat) (h : ∀ j, n ≤ j → gA l j = 0) : (gcdL b (l.take n)).natAbs = (gcdL b l).natAbs := by
  have hz : ∀ v ∈ l.drop n, v = 0 := by
    intro v hv
    obtain ⟨i, hi, rfl⟩ := List.getElem_of_mem hv
    have := h (n + i) (by omega)
    simp at hi
    simpa [gA, List.getElem?_eq_getElem (show n + i < l.length by omega)] using this
  conv => rhs; rw [← List.take_append_drop n l, gcdL_app]
  exact (gcdL_zeros _ _ hz).symm

theorem dv_er {n i : Nat} {x : Ln} (h : DomL n i x) (hi : i < n) : (erL n i x).dvR = x.dv := by
  obtain ⟨h1, h2, h3⟩ := h
  have e : ((gcdL x.b ((x.a.take n).eraseIdx i)).natAbs : Int) = ((gcdL x.b x.a).natAbs : Int) := by
    rw [gcdL_skip _ _ _ (by rw [gA_take hi]; exact h2), gcdL_take _ _ _ h3]
  show gcdL (x.b.natAbs : Int) ((x.a.take n).eraseIdx i) = gcdL x.b x.a
  rw [gcdL_abs, e]
  have : 0 ≤ gcdL x.b x.a := by
    match x.a, h1 with
    | v :: r, _ => exact gcdL_nn (b := (Int.gcd x.b v : Int)) (by omega) r
  omega

theorem erase_map (f : Int → Int) : ∀ (l : List Int) (i : Nat), (l.map f).eraseIdx i = (l.eraseIdx i).map f
  | [], _ => rfl
  | _ :: _, 0 => rfl
  | v :: r, i + 1 => by simp [erase_map f r i]

theorem low_er {n i : Nat} {x : Ln} (h : DomL n i x) (hi : i < n) : (erL n i x).lowR = erL n i x.low := by
  unfold Ln.lowR Ln.low
  rw [dv_er h hi]
  split
  · rfl
  · unfold erL chW
    simp only [Ln.mk.injEq, and_true]
    rw [← List.map_take, erase_map]

theorem low_dom {n i : Nat} {x : Ln} (h : DomL n i x) : DomL n i x.low := by
  unfold Ln.low
  split
  · exact h
  · obtain ⟨h1, h2, h3⟩ := h
    have g : ∀ j, gA x.a j = 0 → gA (x.a.map (·.tdiv x.dv)) j = 0 := fun j hj => by
      by_cases q : j < x.a.length
      · rw [gA_map _ q, hj]; simp
      · unfold gA; rw [List.getD_eq_getElem?_getD, List.getElem?_eq_none (by simp; omega)]; rfl
    exact ⟨by simp [h1], g i h2, fun j hj => g j (h3 j hj)⟩

theorem zero_er {n i : Nat} {x : Ln} (h : DomL n i x) (hi : i < n) : zeroA (erL n i x) = decide (x.a = z6) := by
  obtain ⟨h1, h2, h3⟩ := h
  have hz : x.a = z6 ↔ ∀ j, j < 6 → gA x.a j = 0 := by
    constructor
    · intro e j hj
      rw [e]
      match j, hj with
      | 0, _ => rfl
      | 1, _ => rfl
      | 2, _ => rfl
      | 3, _ => rfl
      | 4, _ => rfl
      | 5, _ => rfl
    · intro e
      refine gA_ext (by rw [h1]; rfl) fun j hj => ?_
      rw [e j (by omega)]
      match j, (show j < 6 by omega) with
      | 0, _ => rfl
      | 1, _ => rfl
      | 2, _ => rfl
      | 3, _ => rfl
      | 4, _ => rfl
      | 5, _ => rfl
  rw [Bool.eq_iff_iff, decide_eq_true_eq, hz]
  unfold zeroA
  rw [List.all_eq_true]
  constructor
  · intro h j hj
    by_cases hn : n ≤ j
    · exact h3 j hn
    · by_cases hji : j = i
      · rw [hji]; exact h2
      · have hlen : (x.a.take n).length = min n 6 := by simp [h1]
        have key : gA x.a j ∈ (x.a.take n).eraseIdx i := by
          rw [List.mem_eraseIdx_iff_getElem?]
          refine ⟨j, hji, ?_⟩
          rw [List.getElem?_take_of_lt (by omega), List.getElem?_eq_getElem (by omega)]
          simp [gA, show j < x.a.length by omega]
        have := h _ key
        simpa using this
  · intro h v hv
    have hv2 : v ∈ x.a := List.mem_of_mem_take (List.mem_of_mem_eraseIdx hv)
    obtain ⟨j, hj, rfl⟩ := List.getElem_of_mem hv2
    have := h j (by omega)
    simp [gA, hj] at this
    simpa using this

theorem lim_er (n i : Nat) (x : Ln) : (erL n i x).lim = x.lim := rfl

theorem keep_er {n i : Nat} (hi : i < n) {l : List Ln} (h : ∀ x ∈ l, DomL n i x) : keepR (l.map (erL n i)) = (keepL l).map (erL n i) := by
  unfold keepR keepL
  induction l with
  | nil => rfl
  | cons x r ih =>
    have hx := h x (by simp)
    have ih := ih (fun y hy => h y (by simp [hy]))
    simp only [List.map_cons, List.filter_cons, low_er hx hi, zero_er (low_dom hx) hi]
    by_cases c : x.low.a = z6
    · simp [c]; simpa using ih
    · simp [c]; simpa using ih

theorem bad_er {n i : Nat} (hi : i < n) {l : List Ln} (h : ∀ x ∈ l, DomL n i x) : badR (l.map (erL n i)) = badB l := by
  unfold badR badB
  induction l with
  | nil => rfl
  | cons x r ih =>
    have hx := h x (by simp)
    have ih := ih (fun y hy => h y (by simp [hy]))
    simp only [List.map_cons, List.any_cons, low_er hx hi, zero_er (low_dom hx) hi, lim_er, ih]

/-- The tidy list, whatever the number of coordinates. -/
theorem tidy_er {n i : Nat} (hi : i < n) (hn : n ≤ 6) {l : List Ln} (h : ∀ x ∈ l, DomL n i x) : tidR (n - 1) (l.map (erL n i)) = (tidyL l).map (erL n i) := by
  unfold tidR tidyL
  rw [bad_er hi h]
  split
  · simp only [List.map_cons, List.map_nil, List.cons.injEq, and_true]
    unfold erL bad0 chW z6
    simp only [Ln.mk.injEq, and_true]
    match n, i, hi, hn with
    | n, i, hi, hn =>
      have hlen : ((([0, 0, 0, 0, 0, 0] : List Int).take n).eraseIdx i).length = n - 1 := by
        rw [List.length_eraseIdx_of_lt (by simp; omega)]; simp; omega
      refine gA_ext (by rw [hlen]; simp) fun j hj => ?_
      have hj : j < n - 1 := by simpa using hj
      have e1 : gA (List.replicate (n - 1) (0 : Int)) j = 0 := by simp [gA, hj]
      rw [e1]
      unfold gA
      rw [List.getD_eq_getElem?_getD, List.getElem?_eraseIdx]
      have hz : ∀ k : Nat, ((([0, 0, 0, 0, 0, 0] : List Int).take n)[k]?).getD 0 = 0 := fun k => by
        cases q : (([0, 0, 0, 0, 0, 0] : List Int).take n)[k]? with
        | none => rfl
        | some v =>
          have := List.mem_of_mem_take (List.mem_of_getElem? q)
          simp at this
          simp [this]
      split <;> exact (hz _).symm
  · rw [keep_er hi h, cpt_ins]
    refine insL_map (erL_keeps n i hi) (fun x hx => ?_)
    obtain ⟨y, hy, rfl⟩ := keepL_mem hx
    exact low_dom (h y hy)
end Go.Proofs.YtefpaobboimakaaGreat

namespace Go.Proofs.YtefpaobboimakaaGreat
open Go.RowKit Go.Sort Go.Shelf

/-- 'append' of integers to a row of a call's own. -/
theorem appJ_run {w : World} {B g cap : Nat} {l m : List Int} (hown : OwnI w B g cap l) {p : Addr} {c : Nat} (hR : Rd1 w (some p) m) (hl : l.length + m.length ≤ 1000000) (hB : B ≤ w.heap.size) (ty : TypeId) :
    ∃ g' c' w', (Builtin.append_ #[23, 23] ty #[.slice (some ⟨g, 0, none⟩) l.length cap, .slice (some p) m.length c]).run Tryz.prog w = .ok (.slice (some ⟨g', 0, none⟩) (l ++ m).length c') w' ∧ OwnI w' B g' c' (l ++ m) ∧ w.grownBy w' (some g) ∧ (g' = g ∨ g' = w.heap.size) := by
  obtain ⟨i0, hi, hz0, hz1, hz2⟩ := info_parts i64_info
  have U : Tryz.prog.underlying 23 = some (.slice 2) := Tryz.underlying23
  obtain ⟨v', w', hr, h2, h3, h4, h5⟩ := run_append_own_at (P := Tryz.prog) w B 23 ty 2 i0 (.int .i64 0) 1 8 U hi hz0 hz1 hz2 (by rfl) (by decide) (.slice (some ⟨g, 0, none⟩) l.length cap) l.length _ hown p m.length c (m.map (Value.int .i64))
    (by simp) (rd_map hR) (by simp [Value.oneCell']) (by unfold maxLen; omega) (by omega) hB
  rcases h2.2 with ⟨e, _⟩ | ⟨g', c', cur, e, _⟩
  · have := h4.1 e
    exact absurd this.1 (by simp)
  · subst e
    refine ⟨g', c', w', by rw [hr, List.length_append], ?_, h3, ?_⟩
    · unfold OwnI
      rw [List.length_append, List.map_append]
      exact h2
    · rcases h5 with h | h
      · left; simpa [Value.ownBlock] using h
      · right; simpa [Value.ownBlock] using h

theorem wpl_appI {ops : Array Oper} {rest : List Oper} {o : Oper} {ac : Act} {w : World} {Q : Exit → Act → World → Prop} (hgd : o.guard = none) (s x : Operand) (ho : o.op = .call { callee := .builtin .append, args := #[s, x], argTypes := #[23, 23] }) (B b : Nat) (hown : OwnI w B b 0 []) (hs : ac.eval s = .slice (some ⟨b, 0, none⟩) 0 0)
    (q : Option Addr) (a : List Int) (c : Nat) (hx : ac.eval x = .slice q a.length c) (hR : Rd1 w q a) (hN : q = none → a = [] ∧ c = 0) (hl : a.length ≤ 1000000) (hB : B ≤ w.heap.size)
    (h : ∀ g c' w', OwnI w' B g c' a → w.grownBy w' (some b) → (g = b ∨ w.heap.size ≤ g) → wpList Tryz.prog ops Q rest (ac.put o.dst (.slice (some ⟨g, 0, none⟩) a.length c')) w') : wpList Tryz.prog ops Q (o :: rest) ac w := by
  obtain ⟨g, c', w', hr, h1, h2, h3, _⟩ := appI_run hown hR hN hl hB o.type
  have hk := h g c' w' h1 h2 h3
  refine wpList_plain hgd fun K hK => ?_
  unfold Oper.wp
  simp [execOp, ho, resolve, invoke, builtin, hs, hx, hr, Result.andThen]
  exact hK _ _ hk

theorem cut_loI (w : World) (pb po m c k : Nat) (kI : Int) (hkI : kI = (k : Int)) (hk : k ≤ m) (hm : m ≤ c) : (Instr.sliceAt 23 (.slice (some ⟨pb, po, none⟩) m c) (some (.int .i64 kI)) none none).run Tryz.prog w = .ok (.slice (some (if c = k then ⟨pb, po, none⟩ else ⟨pb, po + k, none⟩)) (m - k) (c - k)) w := by
  subst hkI
  by_cases h : c = k
  · subst h
    obtain rfl : m = c := by omega
    simp [go_sem, Instr.sliceAt, run_underlying Tryz.underlying23, size_of i64_size]
  · have h1 : c - k ≠ 0 := by omega
    simp [go_sem, Instr.sliceAt, run_underlying Tryz.underlying23, size_of i64_size, h, h1]
    intro h3; omega

theorem yld_low {o : Oper} {ac : Act} {w : World} (s k : Operand) (ho : o.op = .slice 23 s (some k) none none) (pb po m c kk : Nat) (kI : Int) (hkI : kI = (kk : Int)) (hs : ac.eval s = .slice (some ⟨pb, po, none⟩) m c) (hk : ac.eval k = .int .i64 kI) (hle : kk ≤ m) (hm : m ≤ c) :
    (execOp ac.eval o).run Tryz.prog w = .ok (.value (.slice (some (if c = kk then ⟨pb, po, none⟩ else ⟨pb, po + kk, none⟩)) (m - kk) (c - kk))) w := by
  have h := cut_loI w pb po m c kk kI hkI hle hm
  generalize (if c = kk then (⟨pb, po, none⟩ : Addr) else ⟨pb, po + kk, none⟩) = P at *
  unfold execOp
  simp only [ho, hs, hk, Option.map_none, Option.map_some, Sem.run_bind, h, Result.andThen_ok, Sem.run_pure]

theorem Rd1.drop {w : World} {pb po : Nat} {a : List Int} (h : Rd1 w (some ⟨pb, po, none⟩) a) (k c : Nat) (hc : a.length ≤ c) : Rd1 w (some (if c = k then ⟨pb, po, none⟩ else ⟨pb, po + k, none⟩)) (a.drop k) := fun t ht => by
  simp at ht
  obtain ⟨p, e, q⟩ := h (k + t) (by omega)
  cases e
  rw [if_neg (by omega)]
  refine ⟨_, rfl, ?_⟩
  rw [addr_add] at q ⊢
  rw [Nat.add_assoc]
  rw [q]
  simp [gA, List.getD_eq_getElem?_getD]

def shR (i : Nat) (x : Ln) : Ln := ⟨x.a.eraseIdx i, x.b, x.s⟩

theorem Rd1.take {w : World} {q : Option Addr} {a : List Int} (h : Rd1 w q a) (i : Nat) : Rd1 w q (a.take i) := fun t ht => by
  simp at ht
  obtain ⟨p, e, c⟩ := h t (by omega)
  exact ⟨p, e, by rw [c, gA_take (by omega)]⟩

theorem add_add (p : Addr) (i j : Nat) (h : p.spot = none) : (p.add i).add j = p.add (i + j) := by
  obtain ⟨b, o, s⟩ := p
  simp only at h
  subst h
  rw [addr_add, addr_add, addr_add, Nat.add_assoc]

set_option maxRecDepth 100000 in
set_option maxHeartbeats 4000000 in
theorem rshort_any (y : AV) (i : Nat) (w : World) (p : Addr) (hp : y.q = some p) (hs : p.spot = none) (hc : y.a.length ≤ y.c) (hcm : y.c ≤ 9223372036854775807) (hi : i < y.a.length) (hl : y.a.length ≤ 1000) (hR : Rd1 w y.q y.a) :
    Calls Tryz.prog 91 #[.agg y.cs, .int .i64 i] w (VRes w (shR i (lnV y))) := by
  obtain ⟨w0, hw0⟩ : ∃ w0, w0 = (w.alloc (.cells y.cs 25)).alloc (.cells #[.slice none 0 0, .int .i64 0, .bool false] 25) := ⟨_, rfl⟩
  have E0 := Lib.hid (show Below w.heap.size w w0 by rw [hw0]; exact past_two (Below.refl _ _))
  have K0 := Lib.hid (show BkV w0 w.heap.size y by rw [hw0]; exact (BkV.made w y).kept (one_more _))
  have K1 := Lib.hid (show BkV w0 (w.heap.size + 1) av0 by rw [hw0]; have := BkV.made (w.alloc (.cells y.cs 25)) av0; simpa [av0, AV.cs, AV.cells] using this)
  have R0 := Lib.hid (hR.on E0.out)
  obtain ⟨q, c, a, b, s⟩ := y
  simp only at hp hc hcm hi hl hR R0
  subst hp
  obtain ⟨pb, po, ps⟩ := p
  simp only at hs
  subst hs
  obtain ⟨m, hm⟩ : ∃ m, m = a.length := ⟨_, rfl⟩
  have HM := Lib.hid hm
  obtain ⟨f0, f1, f2⟩ := K0.out.facts
  simp only at f0 f1 f2
  rw [← hm] at f0 hc hi hl
  have TK := Lib.hid (show (a.take i).length = i by simp; omega)
  have LA := Lib.hid (show a.length ≤ 1000 by omega)
  have CM := Lib.hid hcm
  have R1 := Lib.hid ((R0.out.take i).on (one_more (w1 := w0) (.cells #[] 2)))
  have EM := Lib.hid (OwnI.empty w0 w.heap.size E0.out.size)
  have zb : w.heap.size ≤ (w0.alloc (.cells #[] 2)).heap.size := Nat.le_trans E0.out.size (by simp)
  have F0 := Lib.hid f0
  have F1 := Lib.hid f1
  have F2 := Lib.hid f2
  have hi2 : (i : Int) < m := by omega
  have hc2 : (m : Int) ≤ c := by omega
  have e0 := kept (one_more (w1 := w0) (.cells #[] 2)) f0
  clear hR hm
  go_enter Tryz.func91, Tryz.ntmps91
  go_upto_region 1 with (fail)
  rw [← hw0]
  clear hw0
  go_wp2_with (at_builtin; refine wpl_appI rfl _ _ rfl w.heap.size w0.heap.size EM.out rfl (some ⟨pb, po, none⟩) (a.take i) c (by simp [Act.eval, TK.out]) R1.out (fun e => by cases e) (by rw [TK.out]; omega) zb ?_)
  intro g c' w1 o1 g1 h1
  have mi : min i a.length = i := by have := HM.out; omega
  have BB1 := Lib.hid (show Below w0.heap.size w0 w1 from Below.grown (one_more (w1 := w0) (.cells #[] 2)) g1 (by simp) (fun k hk => by injection hk with hk; omega))
  have G1 := Lib.hid o1
  have GZ := Lib.hid (show w0.heap.size ≤ g from h1.elim (fun h => by omega) (fun h => Nat.le_trans (by simp) h))
  have RD := Lib.hid (R0.out.drop (i + 1) c (by have := HM.out; omega))
  try simp only [List.length_take]
  rw [mi]
  obtain ⟨P, hP⟩ : ∃ P, P = (if c = i + 1 then (⟨pb, po, none⟩ : Addr) else ⟨pb, po + (i + 1), none⟩) := ⟨_, rfl⟩
  have HP := Lib.hid hP
  rw [← hP] at RD
  have IM := Lib.hid (show i + 1 ≤ m ∧ m ≤ c by omega)
  have hw1 : wrap64 ((i : Int) + 1) = (i : Int) + 1 := by have := LA.out; have := HM.out; unfold wrap64; omega
  have hw2 : IntKind.i64.wrap ((i : Int) + 1) = (i : Int) + 1 := by have := LA.out; have := HM.out; exact wrap_in _ (by omega) (by omega)
  clear o1 g1 h1 EM zb f0 f1 f2 e0 hP mi
  go_upto_region 2 with (fail)
  have KT := Lib.hid (show ∀ W, Below w0.heap.size w0 W → (W.cell? ⟨w.heap.size, 0, none⟩ = some (.slice (some ⟨pb, po, none⟩) m c) ∧ W.cell? ⟨w.heap.size, 1, none⟩ = some (.int .i64 b) ∧ W.cell? ⟨w.heap.size, 2, none⟩ = some (.bool s)) from fun W h => ⟨kept h F0.out, kept h F1.out, kept h F2.out⟩)
  have KU := Lib.hid (show ∀ W, Below w0.heap.size w0 W → ∀ cs, (fun W => (W.cell? ⟨w.heap.size, 0, none⟩ = some (.slice (some ⟨pb, po, none⟩) m c) ∧ W.cell? ⟨w.heap.size, 1, none⟩ = some (.int .i64 b) ∧ W.cell? ⟨w.heap.size, 2, none⟩ = some (.bool s))) (W.setRow (w.heap.size + 1) cs) from fun W h cs => ⟨row_aside (kept h F0.out) (by show w.heap.size ≠ w.heap.size + 1; omega) _, row_aside (kept h F1.out) (by show w.heap.size ≠ w.heap.size + 1; omega) _, row_aside (kept h F2.out) (by show w.heap.size ≠ w.heap.size + 1; omega) _⟩)
  have KS := Lib.hid (show ∀ W, Below w1.heap.size w1 W → (W.cell? ⟨w.heap.size, 0, none⟩ = some (.slice (some ⟨pb, po, none⟩) m c) ∧ W.cell? ⟨w.heap.size, 1, none⟩ = some (.int .i64 b) ∧ W.cell? ⟨w.heap.size, 2, none⟩ = some (.bool s)) from fun W h => ⟨kept h (kept BB1.out F0.out), kept h (kept BB1.out F1.out), kept h (kept BB1.out F2.out)⟩)
  obtain ⟨wc, hwc⟩ : ∃ wc, wc = w1.drew := ⟨_, rfl⟩
  have Bc := Lib.hid (show Below w1.heap.size w1 wc by rw [hwc]; exact (Below.refl _ _).drew)
  refine wp_region_held_drew (S := (fun W => (W.cell? ⟨w.heap.size, 0, none⟩ = some (.slice (some ⟨pb, po, none⟩) m c) ∧ W.cell? ⟨w.heap.size, 1, none⟩ = some (.int .i64 b) ∧ W.cell? ⟨w.heap.size, 2, none⟩ = some (.bool s)))) (by kernel_rfl) (by rw [← hwc]; exact KS.out _ Bc.out) (fun h0 => ?_)
  rw [← hwc] at h0 ⊢
  clear hwc
  refine wpAnyH_take (i := 0) (v := ?v1) rfl (by kernel_rfl) (by kernel_rfl) (by kernel_rfl) (fun _ _ _ h => h) (Or.inl ⟨by rfl, ?hy1⟩) h0 ?rest1
  case hy1 => (intro w' hS; (try dsimp only at hS); go_simp; try (with_reducible rfl))
  simp only [Act.put, List.getElem_toArray, List.getElem_cons_zero, List.setIfInBounds_toArray, List.set_cons_zero, List.set_cons_succ]
  refine wpAnyH_take (i := 1) (v := ?v2) rfl (by kernel_rfl) (by kernel_rfl) (by kernel_rfl) (fun _ _ _ h => h) (Or.inl ⟨by rfl, ?hy2⟩) h0 ?rest2
  case hy2 => (intro w' hS; (try dsimp only at hS); go_simp; try (with_reducible rfl))
  simp only [Act.put, List.getElem_toArray, List.getElem_cons_zero, List.getElem_cons_succ, List.setIfInBounds_toArray, List.set_cons_zero, List.set_cons_succ]
  refine wpAnyH_take (i := 2) (v := ?v3) rfl (by kernel_rfl) (by kernel_rfl) (by kernel_rfl) (fun _ _ _ h => h) (Or.inl ⟨by rfl, ?hy3⟩) h0 ?rest3
  case hy3 => (intro w' hS; (try dsimp only at hS); go_simp; try (with_reducible rfl))
  simp only [Act.put, List.getElem_toArray, List.getElem_cons_zero, List.getElem_cons_succ, List.setIfInBounds_toArray, List.set_cons_zero, List.set_cons_succ]
  refine wpAnyH_take (i := 3) (v := ?v4) rfl (by kernel_rfl) (by kernel_rfl) (by kernel_rfl) (fun _ _ _ h => h) (Or.inl ⟨by rfl, ?hy4⟩) h0 ?rest4
  case hy4 => (intro w' hS; (try dsimp only at hS); go_simp; try (with_reducible rfl))
  simp only [Act.put, List.getElem_toArray, List.getElem_cons_zero, List.getElem_cons_succ, List.setIfInBounds_toArray, List.set_cons_zero, List.set_cons_succ]
  refine wpAnyH_take (i := 4) (v := ?v5) rfl (by kernel_rfl) (by kernel_rfl) (by kernel_rfl) (fun _ _ _ h => h) (Or.inl ⟨by rfl, ?hy5⟩) h0 ?rest5
  case hy5 => (intro w' hS; (try dsimp only at hS); go_simp; try (with_reducible rfl))
  simp only [Act.put, List.getElem_toArray, List.getElem_cons_zero, List.getElem_cons_succ, List.setIfInBounds_toArray, List.set_cons_zero, List.set_cons_succ]
  refine wpAnyH_take (i := 5) (v := (.slice (some P) (m - (i + 1)) (c - (i + 1)))) rfl (by kernel_rfl) (by kernel_rfl) (by kernel_rfl) (fun _ _ _ h => h) (Or.inl ⟨by rfl, fun w' hS => by rw [HP.out]; exact yld_low _ _ rfl pb po m c (i + 1) ((i : Int) + 1) (by omega) rfl rfl IM.out.1 IM.out.2⟩) h0 ?_
  simp only [Act.put, List.getElem_toArray, List.getElem_cons_zero, List.getElem_cons_succ, List.setIfInBounds_toArray, List.set_cons_zero, List.set_cons_succ]
  refine wpAnyH_take (i := 7) (v := ?v7) rfl (by kernel_rfl) (by kernel_rfl) (by kernel_rfl) (fun _ _ _ h => h) (Or.inl ⟨by rfl, ?hy7⟩) h0 ?rest7
  case hy7 => (intro w' hS; (try dsimp only at hS); go_simp; try (with_reducible rfl))
  simp only [Act.put, List.getElem_toArray, List.getElem_cons_zero, List.getElem_cons_succ, List.setIfInBounds_toArray, List.set_cons_zero, List.set_cons_succ]
  refine wpAnyH_take (i := 8) (v := ?v8) rfl (by kernel_rfl) (by kernel_rfl) (by kernel_rfl) (fun _ _ _ h => h) (Or.inl ⟨by rfl, ?hy8⟩) h0 ?rest8
  case hy8 => (intro w' hS; (try dsimp only at hS); go_simp; try (with_reducible rfl))
  simp only [Act.put, List.getElem_toArray, List.getElem_cons_zero, List.getElem_cons_succ, List.setIfInBounds_toArray, List.set_cons_zero, List.set_cons_succ]
  refine wpAnyH_take (i := 9) (v := ?v9) rfl (by kernel_rfl) (by kernel_rfl) (by kernel_rfl) (fun _ _ _ h => h) (Or.inl ⟨by rfl, ?hy9⟩) h0 ?rest9
  case hy9 => (intro w' hS; (try dsimp only at hS); go_simp; try (with_reducible rfl))
  simp only [Act.put, List.getElem_toArray, List.getElem_cons_zero, List.getElem_cons_succ, List.setIfInBounds_toArray, List.set_cons_zero, List.set_cons_succ]
  refine wpAnyH_take (i := 10) (v := ?v10) rfl (by kernel_rfl) (by kernel_rfl) (by kernel_rfl) (fun _ _ _ h => h) (Or.inl ⟨by rfl, ?hy10⟩) h0 ?rest10
  case hy10 => (intro w' hS; (try dsimp only at hS); go_simp; try (with_reducible rfl))
  simp only [Act.put, List.getElem_toArray, List.getElem_cons_zero, List.getElem_cons_succ, List.setIfInBounds_toArray, List.set_cons_zero, List.set_cons_succ]
  refine wpAnyH_ready (rs := [6]) (by kernel_rfl) (by simp) (AllReadyH.cons rfl (fun K hK => ?_) AllReadyH.nil)
  rw [if_pos (by rfl)]
  obtain ⟨g2, c2, we, hrun, ho, hg, hgb⟩ := appJ_run (G1.out.on Bc.out) ((RD.out.on BB1.out).on Bc.out) (by have := LA.out; simp; omega) (Nat.le_trans E0.out.size (Nat.le_trans BB1.out.size Bc.out.size)) 23 (c := c - (i + 1))
  rw [TK.out, show (a.drop (i + 1)).length = m - (i + 1) by rw [List.length_drop, ← HM.out], ← List.eraseIdx_eq_take_drop_succ] at hrun
  rw [← List.eraseIdx_eq_take_drop_succ] at ho
  refine Lib.wp_append_run _ _ _ 23 23 rfl (.slice (some ⟨g, 0, none⟩) i c') (.slice (some P) (m - (i + 1)) (c - (i + 1))) rfl rfl _ _ hrun ?_
  have HO := Lib.hid ho
  have N2G := Lib.hid (show w0.heap.size ≤ g2 by have := GZ.out; have h8 := BB1.out.size; have h9 := Bc.out.size; rcases hgb with h | h <;> omega)
  have GH := Lib.hid (show Below w0.heap.size w0 we from Below.grown (BB1.out.trans (Bc.out.mono BB1.out.size)) hg (Nat.le_trans BB1.out.size Bc.out.size) (fun k hk => by have := GZ.out; injection hk with hk; omega))
  clear hrun ho hg hgb
  try simp only [Act.put, List.getElem_toArray, List.getElem_cons_zero, List.getElem_cons_succ, List.setIfInBounds_toArray, List.set_cons_zero, List.set_cons_succ]
  refine hK.out _ _ (KT.out _ GH.out) (fun h0_1 => ?_)
  clear hK K h0
  refine wpAnyH_take (i := 11) (v := ?v11) rfl (by kernel_rfl) (by kernel_rfl) (by kernel_rfl) (fun _ _ _ h => h) (Or.inl ⟨by rfl, ?hy11⟩) h0_1 ?rest11
  case hy11 => (intro w' hS; (try dsimp only at hS); go_simp; try (with_reducible rfl))
  simp only [Act.put, List.getElem_toArray, List.getElem_cons_zero, List.getElem_cons_succ, List.setIfInBounds_toArray, List.set_cons_zero, List.set_cons_succ]
  refine wpAnyH_ready (rs := [12]) (by kernel_rfl) (by simp) (AllReadyH.cons rfl (fun K hK => ?_) AllReadyH.nil)
  rw [if_pos (by rfl)]
  have K9 := Lib.hid (K1.out.kept GH.out)
  have CE := Lib.hid (show (#[.slice (some ⟨g2, 0, none⟩) (a.eraseIdx i).length c2, .int .i64 b, .bool s] : Array Value) = (AV.mk (some ⟨g2, 0, none⟩) c2 (a.eraseIdx i) b s).cs from rfl)
  refine wp_storeV _ _ rfl (w.heap.size + 1) (AV.mk (some ⟨g2, 0, none⟩) c2 (a.eraseIdx i) b s) rfl rfl _ K9.out ?_
  refine hK.out _ _ (KU.out _ GH.out _) (fun h0_2 => ?_)
  clear hK K h0_1
  try simp only [List.set_cons_succ]
  try simp only [List.set_cons_zero]
  refine wpAnyH_done (by kernel_rfl) ?_ _
  have KF := Lib.hid (K9.out.setRow (z := AV.mk (some ⟨g2, 0, none⟩) c2 (a.eraseIdx i) b s))
  have NG := Lib.hid (show g2 ≠ w.heap.size + 1 by have := K1.out.lt; have := N2G.out; omega)
  have GO := Lib.hid (HO.out.grown (grown_row we (w.heap.size + 1) (AV.mk (some ⟨g2, 0, none⟩) c2 (a.eraseIdx i) b s).cs) NG.out)
  have BW := Lib.hid (Below.setRow (below_on E0.out GH.out) (b := w.heap.size + 1) (by omega) (AV.mk (some ⟨g2, 0, none⟩) c2 (a.eraseIdx i) b s).cs)
  go_wp2_with fail
  exact bodyPost_ret (results_av Tryz.results91 _ rfl KF.out) rfl ⟨g2, c2, rfl, GO.out, BW.out⟩
end Go.Proofs.YtefpaobboimakaaGreat

namespace Go.Proofs.YtefpaobboimakaaGreat

def top (a b : Int) : Nat := a.natAbs / Nat.gcd a.natAbs b.natAbs

def bot (a b : Int) : Nat := b.natAbs / Nat.gcd a.natAbs b.natAbs

def fits (a b : Int) : Bool := decide (top a b ≤ 2147483647 ∧ bot a b ≤ 2147483647)

def mkErr (a b : Int) : Int := if b = 0 then 2 else if fits a b then 0 else 7

def mkNum (a b : Int) : Int := if b = 0 then 0 else if fits a b then (if (decide (a < 0) != decide (b < 0)) then -(top a b : Int) else top a b) else 0

def mkDen (a b : Int) : Int := if b = 0 then 0 else if fits a b then bot a b else 0

theorem mkNum_bd (a b : Int) : -2147483647 ≤ mkNum a b ∧ mkNum a b ≤ 2147483647 := by
  unfold mkNum fits
  split
  · omega
  split
  · rename_i h; simp at h; split <;> omega
  · omega

theorem mkDen_bd (a b : Int) : 0 ≤ mkDen a b ∧ mkDen a b ≤ 2147483647 := by
  unfold mkDen fits
  split
  · omega
  split
  · rename_i h; simp at h; omega
  · omega

theorem mkErr_bd (a b : Int) : 0 ≤ mkErr a b ∧ mkErr a b ≤ 7 := by
  unfold mkErr
  split
  · omega
  split <;> omega

theorem top_le (a b : Int) : top a b ≤ a.natAbs := Nat.div_le_self _ _

theorem bot_le (a b : Int) : bot a b ≤ b.natAbs := Nat.div_le_self _ _

def opNum (v : Bool) (p q : Int) : Int := if v then mkNum p q else 0

def opDen (v : Bool) (p q : Int) : Int := if v then mkDen p q else 0

def opErr (v : Bool) (p q : Int) : Int := if v then mkErr p q else 2

theorem mul_bd {x y : Int} (x1 : -2147483647 ≤ x) (x2 : x ≤ 2147483647) (y1 : -2147483647 ≤ y) (y2 : y ≤ 2147483647) :
    -4611686014132420609 ≤ x * y ∧ x * y ≤ 4611686014132420609 := by
  have h : (x * y).natAbs ≤ 2147483647 * 2147483647 := by
    rw [Int.natAbs_mul]; exact Nat.mul_le_mul (by omega) (by omega)
  omega
end Go.Proofs.YtefpaobboimakaaGreat

namespace Go.Proofs.YtefpaobboimakaaGreat
open Go.RowKit

theorem neg_mag (n : Int) (h1 : -9223372036854775808 ≤ n) (h2 : n < 0) : IntKind.u64.wrap (-IntKind.u64.wrap n) = (n.natAbs : Int) := by
  simp [IntKind.wrap, IntKind.bits, IntKind.signed]
  omega

set_option maxHeartbeats 400000 in
theorem magnitude_any (n : Int) (w : World) (h1 : -9223372036854775808 ≤ n) (h2 : n ≤ 9223372036854775807) :
    Calls Tryz.prog 133 #[.int .i64 n] w fun e w' => e = .returned (.int .u64 (n.natAbs : Int)) ∧ w = w' := by
  by_cases hn : n < 0
  · have H := Lib.hid (neg_mag n h1 hn)
    go_enter Tryz.func133, Tryz.ntmps133
    go_wp2
    go_ret
    exact ⟨ret_int H.out, rfl⟩
  · have H := Lib.hid (show (n : Int) = (n.natAbs : Int) by omega)
    go_enter Tryz.func133, Tryz.ntmps133
    go_wp2
    go_ret
    exact ⟨ret_int H.out, rfl⟩

set_option maxHeartbeats 400000 in
theorem divide_any (k : Nat) : ∀ (a b : Nat) (p : Addr) (w : World), b ≤ k → a < 18446744073709551616 → b < 18446744073709551616 →
    w.cell? p = some (.func (.func 151) #[] #[.pointer (some p)]) →
    Calls Tryz.prog 151 #[.int .u64 a, .int .u64 b, .pointer (some p)] w (Drawn (.int .u64 (Nat.gcd a b)) w) := by
  induction k with
  | zero =>
    intro a b p w hb ha hb2 hc
    obtain rfl : b = 0 := by omega
    go_enter Tryz.func151, Tryz.ntmps151
    go_wp2_with fail
    go_ret
    exact ⟨ret_int (by simp), 0, rfl⟩
  | succ k ih =>
    intro a b p w hb ha hb2 hc
    by_cases h0 : b = 0
    · subst h0
      go_enter Tryz.func151, Tryz.ntmps151
      go_wp2_with fail
      go_ret
      exact ⟨ret_int (by simp), 0, rfl⟩
    · have H0 : ((b : Int) == 0) = false := by simpa using h0
      have IH := Lib.hid ih
      clear ih
      have G := Lib.hid (Nat.gcd_rec b a)
      go_enter Tryz.func151, Tryz.ntmps151
      go_wp2_with fail
      go_quiet ((go_at_call 151; refine Calls.quiet_of (IH.out b (a % b) p _ (by have := Nat.mod_lt a (Nat.pos_of_ne_zero h0); omega) hb2 (by have := Nat.mod_lt a (Nat.pos_of_ne_zero h0); omega) ?_); simpa using hc))
      go_wp2_with fail
      go_ret
      exact ⟨ret_int (by rw [Nat.gcd_comm a b, Nat.gcd_rec b a, Nat.gcd_comm]), _, rfl⟩

set_option maxHeartbeats 400000 in
theorem commonDivisor_any (a b : Nat) (w : World) (ha : a < 18446744073709551616) (hb : b < 18446744073709551616) :
    Calls Tryz.prog 132 #[.int .u64 a, .int .u64 b] w (Made (.int .u64 (Nat.gcd a b)) w) := by
  go_enter Tryz.func132, Tryz.ntmps132
  go_wp2_with fail
  refine (divide_any b a b _ _ (Nat.le_refl _) ha hb ?_).mono ?_
  · go_simp
  rintro e w' ⟨rfl, n, rfl⟩
  go_wp2_with fail
  go_ret
  exact ⟨rfl, below_drewN ((Below.refl _ _).alloc (Nat.le_refl _) _) n⟩

def vldB (n d : Int) : Bool := decide (1 ≤ d ∧ d ≤ 2147483647 ∧ -2147483647 ≤ n ∧ n ≤ 2147483647 ∧ Nat.gcd n.natAbs d.natAbs = 1)

theorem vld_no {n d : Int} (h : d < 1 ∨ 2147483647 < d ∨ n < -2147483647 ∨ 2147483647 < n) : vldB n d = false := by
  unfold vldB; simp; omega

theorem vld_yes {n d : Int} (h1 : 1 ≤ d) (h2 : d ≤ 2147483647) (h3 : -2147483647 ≤ n) (h4 : n ≤ 2147483647) : vldB n d = (((Nat.gcd n.natAbs d.natAbs : Nat) : Int) == 1) := by
  unfold vldB; rw [Bool.eq_iff_iff]; simp; omega

set_option maxHeartbeats 400000 in
theorem valid_any (n d : Int) (w : World) (n1 : -9223372036854775808 ≤ n) (n2 : n ≤ 9223372036854775807) (d1 : -9223372036854775808 ≤ d) (d2 : d ≤ 9223372036854775807) :
    Calls Tryz.prog 100 #[.agg #[.int .i64 n, .int .i64 d]] w (Made (.bool (vldB n d)) w) := by
  by_cases h1 : d < 1
  · have H := Lib.hid (vld_no (n := n) (Or.inl h1))
    go_enter Tryz.func100, Tryz.ntmps100
    go_wp2_with fail
    go_ret
    exact ⟨ret_bool (by rw [H.out]), (Below.refl _ _).alloc (Nat.le_refl _) _⟩
  by_cases h2 : 2147483647 < d
  · have H := Lib.hid (vld_no (n := n) (Or.inr (Or.inl h2)))
    go_enter Tryz.func100, Tryz.ntmps100
    go_wp2_with fail
    go_ret
    exact ⟨ret_bool (by rw [H.out]), (Below.refl _ _).alloc (Nat.le_refl _) _⟩
  by_cases h3 : n < -2147483647
  · have H := Lib.hid (vld_no (d := d) (Or.inr (Or.inr (Or.inl h3))))
    go_enter Tryz.func100, Tryz.ntmps100
    go_wp2_with fail
    go_ret
    exact ⟨ret_bool (by rw [H.out]), (Below.refl _ _).alloc (Nat.le_refl _) _⟩
  by_cases h4 : 2147483647 < n
  · have H := Lib.hid (vld_no (d := d) (Or.inr (Or.inr (Or.inr h4))))
    go_enter Tryz.func100, Tryz.ntmps100
    go_wp2_with fail
    go_ret
    exact ⟨ret_bool (by rw [H.out]), (Below.refl _ _).alloc (Nat.le_refl _) _⟩
  have H := Lib.hid (vld_yes (n := n) (d := d) (by omega) (by omega) (by omega) (by omega))
  have k1 : n.natAbs < 18446744073709551616 := by omega
  have k2 : d.natAbs < 18446744073709551616 := by omega
  go_enter Tryz.func100, Tryz.ntmps100
  go_wp2_with fail
  go_region_held3 (fun w' => w'.cell? ⟨w.heap.size, 0, none⟩ = some (.int .i64 n) ∧ w'.cell? ⟨w.heap.size, 1, none⟩ = some (.int .i64 d)) (first | go_keep)
    (first | (go_at_call 133; refine (magnitude_any _ _ (by omega) (by omega)).mono ?_; rintro e w' ⟨rfl, rfl⟩) | (go_at_call 132; refine (commonDivisor_any _ _ _ (by omega) (by omega)).mono ?_; rintro e w' ⟨rfl, hb⟩; obtain ⟨hc, hf⟩ := bcell hb))
  clear hc hf
  go_wp2_with fail
  go_ret
  exact ⟨ret_bool (by rw [H.out]), (((Below.refl _ _).alloc (Nat.le_refl _) _).drew).trans (hb.mono (by simp [go_sem]))⟩

set_option maxHeartbeats 400000 in
theorem make_zero (a b : Int) (w : World) (hb : b = 0) :
    Calls Tryz.prog 153 #[.int .i64 a, .int .i64 b] w (Made (.tuple #[.agg #[.int .i64 (mkNum a b), .int .i64 (mkDen a b)], .int .i64 (mkErr a b)]) w) := by
  subst hb
  have H := Lib.hid (show mkNum a 0 = 0 ∧ mkDen a 0 = 0 ∧ mkErr a 0 = 2 by simp [mkNum, mkDen, mkErr])
  go_enter Tryz.func153, Tryz.ntmps153
  go_wp2_with fail
  refine bodyPost_ret (v := .tuple #[.agg #[.int .i64 0, .int .i64 0], .int .i64 2]) (by simp [results, Tryz.results153, go_sem]) rfl ⟨?_, ?_⟩
  · rw [H.out.1, H.out.2.1, H.out.2.2]
  · exact (((Below.refl _ _).alloc (Nat.le_refl _) _))

theorem wrap_top (a b : Int) (h : a.natAbs < 18446744073709551616) : IntKind.u64.wrap ((a.natAbs : Int) / ((Nat.gcd a.natAbs b.natAbs : Nat) : Int)) = ((top a b : Nat) : Int) := by
  have h1 := top_le a b
  have h2 : (a.natAbs : Int) / ((Nat.gcd a.natAbs b.natAbs : Nat) : Int) = ((top a b : Nat) : Int) := by unfold top; simp
  rw [h2]
  simp [IntKind.wrap, IntKind.bits, IntKind.signed]
  omega

theorem wrap_bot (a b : Int) (h : b.natAbs < 18446744073709551616) : IntKind.u64.wrap ((b.natAbs : Int) / ((Nat.gcd a.natAbs b.natAbs : Nat) : Int)) = ((bot a b : Nat) : Int) := by
  have h1 := bot_le a b
  have h2 : (b.natAbs : Int) / ((Nat.gcd a.natAbs b.natAbs : Nat) : Int) = ((bot a b : Nat) : Int) := by unfold bot; simp
  rw [h2]
  simp [IntKind.wrap, IntKind.bits, IntKind.signed]
  omega

theorem mk_no (a b : Int) (h0 : b ≠ 0) (h : 2147483647 < top a b ∨ 2147483647 < bot a b) : mkNum a b = 0 ∧ mkDen a b = 0 ∧ mkErr a b = 7 := by
  have hf : fits a b = false := by unfold fits; simp; omega
  simp [mkNum, mkDen, mkErr, h0, hf]

theorem mk_yes (a b : Int) (h0 : b ≠ 0) (h1 : ¬ 2147483647 < top a b) (h2 : ¬ 2147483647 < bot a b) : mkNum a b = (if (decide (a < 0) != decide (b < 0)) then -(top a b : Int) else top a b) ∧ mkDen a b = bot a b ∧ mkErr a b = 0 := by
  have hf : fits a b = true := by unfold fits; simp; omega
  simp [mkNum, mkDen, mkErr, h0, hf]

set_option maxHeartbeats 400000 in
theorem make_some (a b : Int) (w : World) (a1 : -9223372036854775808 ≤ a) (a2 : a ≤ 9223372036854775807) (b1 : -9223372036854775808 ≤ b) (b2 : b ≤ 9223372036854775807) (h0 : b ≠ 0) :
    Calls Tryz.prog 153 #[.int .i64 a, .int .i64 b] w (Made (.tuple #[.agg #[.int .i64 (mkNum a b), .int .i64 (mkDen a b)], .int .i64 (mkErr a b)]) w) := by
  have B0 : ((b : Int) == 0) = false := by simpa using h0
  have k1 : a.natAbs < 18446744073709551616 := by omega
  have k2 : b.natAbs < 18446744073709551616 := by omega
  have gp : 0 < Nat.gcd a.natAbs b.natAbs := Nat.gcd_pos_of_pos_right _ (by omega)
  have gB : (((Nat.gcd a.natAbs b.natAbs : Nat) : Int) == 0) = false := by simp; omega
  have gl : Nat.gcd a.natAbs b.natAbs ≤ b.natAbs := Nat.gcd_le_right _ (by omega)
  go_enter Tryz.func153, Tryz.ntmps153
  go_wp2_with fail
  refine (magnitude_any _ _ (by omega) (by omega)).mono ?_
  rintro e w' ⟨rfl, rfl⟩
  go_wp2_with fail
  refine (magnitude_any _ _ (by omega) (by omega)).mono ?_
  rintro e w' ⟨rfl, rfl⟩
  go_wp2_with fail
  refine (commonDivisor_any _ _ _ (by omega) (by omega)).mono ?_
  rintro e w1 ⟨rfl, hb⟩
  obtain ⟨hc, hf⟩ := bcell hb
  go_wp2_with fail
  go_quiet (fail)
  rw [wrap_top a b k1, wrap_bot a b k2]
  by_cases f1 : 2147483647 < top a b
  · have HV := Lib.hid (mk_no a b h0 (Or.inl f1))
    go_wp2_with fail
    refine bodyPost_ret (v := .tuple #[.agg #[.int .i64 0, .int .i64 0], .int .i64 7]) (by simp [results, Tryz.results153, go_sem, hc]) rfl ⟨?_, two_below (past_one hb) _ _ _⟩
    rw [HV.out.1, HV.out.2.1, HV.out.2.2]
  by_cases f2 : 2147483647 < bot a b
  · have HV := Lib.hid (mk_no a b h0 (Or.inr f2))
    go_wp2_with fail
    refine bodyPost_ret (v := .tuple #[.agg #[.int .i64 0, .int .i64 0], .int .i64 7]) (by simp [results, Tryz.results153, go_sem, hc]) rfl ⟨?_, two_below (past_one hb) _ _ _⟩
    rw [HV.out.1, HV.out.2.1, HV.out.2.2]
  have hv := mk_yes a b h0 f1 f2
  by_cases s1 : a < 0
  · by_cases s2 : b < 0
    · have HV := Lib.hid (show mkNum a b = top a b ∧ mkDen a b = bot a b ∧ mkErr a b = 0 by simpa [s1, s2] using hv)
      clear hv
      go_wp2_with fail
      refine bodyPost_ret (v := .tuple #[.agg #[.int .i64 (top a b), .int .i64 (bot a b)], .int .i64 0]) (by simp [results, Tryz.results153, go_sem, hc]) rfl ⟨?_, two_below (past_one hb) _ _ _⟩
      rw [HV.out.1, HV.out.2.1, HV.out.2.2]
    · have HV := Lib.hid (show mkNum a b = -(top a b : Int) ∧ mkDen a b = bot a b ∧ mkErr a b = 0 by simpa [s1, s2] using hv)
      clear hv
      go_wp2_with fail
      refine bodyPost_ret (v := .tuple #[.agg #[.int .i64 (-(top a b : Int)), .int .i64 (bot a b)], .int .i64 0]) (by simp [results, Tryz.results153, go_sem, hc]) rfl ⟨?_, two_below (past_one hb) _ _ _⟩
      rw [HV.out.1, HV.out.2.1, HV.out.2.2]
  · by_cases s2 : b < 0
    · have HV := Lib.hid (show mkNum a b = -(top a b : Int) ∧ mkDen a b = bot a b ∧ mkErr a b = 0 by simpa [s1, s2] using hv)
      clear hv
      go_wp2_with fail
      refine bodyPost_ret (v := .tuple #[.agg #[.int .i64 (-(top a b : Int)), .int .i64 (bot a b)], .int .i64 0]) (by simp [results, Tryz.results153, go_sem, hc]) rfl ⟨?_, two_below (past_one hb) _ _ _⟩
      rw [HV.out.1, HV.out.2.1, HV.out.2.2]
    · have HV := Lib.hid (show mkNum a b = top a b ∧ mkDen a b = bot a b ∧ mkErr a b = 0 by simpa [s1, s2] using hv)
      clear hv
      go_wp2_with fail
      refine bodyPost_ret (v := .tuple #[.agg #[.int .i64 (top a b), .int .i64 (bot a b)], .int .i64 0]) (by simp [results, Tryz.results153, go_sem, hc]) rfl ⟨?_, two_below (past_one hb) _ _ _⟩
      rw [HV.out.1, HV.out.2.1, HV.out.2.2]

theorem make_any (a b : Int) (w : World) (a1 : -9223372036854775808 ≤ a) (a2 : a ≤ 9223372036854775807) (b1 : -9223372036854775808 ≤ b) (b2 : b ≤ 9223372036854775807) :
    Calls Tryz.prog 153 #[.int .i64 a, .int .i64 b] w (Made (.tuple #[.agg #[.int .i64 (mkNum a b), .int .i64 (mkDen a b)], .int .i64 (mkErr a b)]) w) := by
  by_cases h : b = 0
  · exact make_zero a b w h
  · exact make_some a b w a1 a2 b1 b2 h

theorem valid_as {n d : Int} {b : Bool} (w : World) (hn : I64 n) (hd : I64 d) (h : vldB n d = b) : Calls Tryz.prog 100 #[.agg #[.int .i64 n, .int .i64 d]] w (Made (.bool b) w) := by
  rw [← h]; exact valid_any n d w hn.1 hn.2 hd.1 hd.2

theorem vld_bd {n d : Int} (h : vldB n d = true) : 1 ≤ d ∧ d ≤ 2147483647 ∧ -2147483647 ≤ n ∧ n ≤ 2147483647 := by
  unfold vldB at h; simp at h; omega
end Go.Proofs.YtefpaobboimakaaGreat

namespace Go.Proofs.YtefpaobboimakaaGreat
open Go.RowKit

theorem size_neg (n : Int) (h1 : -9223372036854775808 ≤ n) (h2 : n < 0) : IntKind.u64.wrap (IntKind.u64.wrap (-(n + 1)) + 1) = (n.natAbs : Int) := by
  simp [IntKind.wrap, IntKind.bits, IntKind.signed]
  omega

set_option maxHeartbeats 400000 in
theorem size_any (n : Int) (w : World) (h1 : -9223372036854775808 ≤ n) (h2 : n ≤ 9223372036854775807) :
    Calls Tryz.prog 103 #[.int .i64 n] w fun e w' => e = .returned (.int .u64 (n.natAbs : Int)) ∧ w' = w := by
  by_cases hn : n < 0
  · have H := Lib.hid (show -(n + 1) + 1 = (n.natAbs : Int) by omega)
    go_enter Tryz.func103, Tryz.ntmps103
    go_wp2
    go_ret
    exact ⟨ret_int H.out, rfl⟩
  · have H := Lib.hid (show (n : Int) = (n.natAbs : Int) by omega)
    go_enter Tryz.func103, Tryz.ntmps103
    go_wp2
    go_ret
    exact ⟨ret_int H.out, rfl⟩

set_option maxHeartbeats 400000 in
theorem divisor_any (a b : Nat) (w : World) (ha : a < 18446744073709551616) (hb : b < 18446744073709551616) :
    Calls Tryz.prog 102 #[.int .u64 a, .int .u64 b] w (Drawn (.int .u64 (Nat.gcd a b)) w) := by
  go_enter Tryz.func102, Tryz.ntmps102
  go_wp2
  go_loopw [0, 1] (fun x y wr => ∃ p q n : Nat, p < 18446744073709551616 ∧ q < 18446744073709551616 ∧ x = .int .u64 p ∧ y = .int .u64 q ∧ Hid (Nat.gcd p q = Nat.gcd a b) ∧ Hid (wr = w.drewN n)) (fun _ y _ => (intOf y).toNat)
  case atStart => exact ⟨a, b, 0, ha, hb, rfl, rfl, Lib.hid rfl, Lib.hid rfl⟩
  case round =>
    obtain ⟨p, q, n, hp, hq, rfl, rfl, hg, hw⟩ := hrel
    by_cases hz : q = 0
    · subst hz
      go_wp2
      go_ret
      exact ⟨ret_int (by have := hg.out; simp at this; simpa using congrArg (fun k : Nat => (k : Int)) this), n, hw.out⟩
    · have Hz : ((q : Int) == 0) = false := by simpa using hz
      have Hz2 : ((q : Int) != 0) = true := by simpa using hz
      go_wp2
      go_quiet (fail)
      go_wp2
      go_roundw
      case rel => exact ⟨q, p % q, n + nq, hq, Nat.lt_of_lt_of_le (Nat.mod_lt _ (Nat.pos_of_ne_zero hz)) (by omega), rfl, rfl, Lib.hid (by rw [← hg.out, Nat.gcd_comm p q, Nat.gcd_rec q p, Nat.gcd_comm]), Lib.hid (by rw [hw.out, World.drewN_drewN])⟩
      case measure => have := Nat.mod_lt p (Nat.pos_of_ne_zero hz); simp [intOf]; omega

set_option maxHeartbeats 400000 in
theorem refValid_any (n d : Int) (w : World) (n1 : -9223372036854775808 ≤ n) (n2 : n ≤ 9223372036854775807) (d1 : -9223372036854775808 ≤ d) (d2 : d ≤ 9223372036854775807) :
    Calls Tryz.prog 67 #[.agg #[.int .i64 n, .int .i64 d]] w (Made (.bool (vldB n d)) w) := by
  by_cases h1 : d < 1
  · have H := Lib.hid (vld_no (n := n) (d := d) (Or.inl h1))
    have D : decide ((1 : Int) ≤ d) = false := by simp; omega
    go_enter Tryz.func67, Tryz.ntmps67
    go_wp2_with fail
    go_quiet (fail)
    go_wp2_with fail
    go_ret
    exact ⟨ret_bool (by rw [H.out]), below_drewN ((Below.refl _ _).alloc (Nat.le_refl _) _) _⟩
  by_cases h2 : 2147483647 < d
  · have H := Lib.hid (vld_no (n := n) (d := d) (Or.inr (Or.inl h2)))
    have D : decide (d ≤ (2147483647 : Int)) = false := by simp; omega
    go_enter Tryz.func67, Tryz.ntmps67
    go_wp2_with fail
    go_quiet (fail)
    go_wp2_with fail
    go_ret
    exact ⟨ret_bool (by rw [H.out]), below_drewN ((Below.refl _ _).alloc (Nat.le_refl _) _) _⟩
  by_cases h3 : n < -2147483647
  · have H := Lib.hid (vld_no (n := n) (d := d) (Or.inr (Or.inr (Or.inl h3))))
    have D : decide ((-2147483647 : Int) ≤ n) = false := by simp; omega
    go_enter Tryz.func67, Tryz.ntmps67
    go_wp2_with fail
    go_quiet (fail)
    go_wp2_with fail
    go_ret
    exact ⟨ret_bool (by rw [H.out]), below_drewN ((Below.refl _ _).alloc (Nat.le_refl _) _) _⟩
  by_cases h4 : 2147483647 < n
  · have H := Lib.hid (vld_no (n := n) (d := d) (Or.inr (Or.inr (Or.inr h4))))
    have D : decide (n ≤ (2147483647 : Int)) = false := by simp; omega
    go_enter Tryz.func67, Tryz.ntmps67
    go_wp2_with fail
    go_quiet (fail)
    go_wp2_with fail
    go_ret
    exact ⟨ret_bool (by rw [H.out]), below_drewN ((Below.refl _ _).alloc (Nat.le_refl _) _) _⟩
  have H := Lib.hid (vld_yes (n := n) (d := d) (by omega) (by omega) (by omega) (by omega))
  have k1 : n.natAbs < 18446744073709551616 := by omega
  have k2 : d.natAbs < 18446744073709551616 := by omega
  go_enter Tryz.func67, Tryz.ntmps67
  go_wp2_with fail
  go_quiet (first | (go_at_call 103; exact Calls.quiet_of_same (size_any _ _ (by omega) (by omega))) | (go_at_call 102; exact Calls.quiet_of (divisor_any _ _ _ (by omega) (by omega))))
  go_wp2_with fail
  go_ret
  exact ⟨ret_bool (by rw [H.out]), below_drewN ((Below.refl _ _).alloc (Nat.le_refl _) _) _⟩

set_option maxHeartbeats 400000 in
theorem refMake_zero (a b : Int) (w : World) (hb : b = 0) :
    Calls Tryz.prog 83 #[.int .i64 a, .int .i64 b] w (Made (.tuple #[.agg #[.int .i64 (mkNum a b), .int .i64 (mkDen a b)], .int .i64 (mkErr a b)]) w) := by
  subst hb
  have H := Lib.hid (show mkNum a 0 = 0 ∧ mkDen a 0 = 0 ∧ mkErr a 0 = 2 by simp [mkNum, mkDen, mkErr])
  go_enter Tryz.func83, Tryz.ntmps83
  go_wp2_with fail
  refine bodyPost_ret (v := .tuple #[.agg #[.int .i64 0, .int .i64 0], .int .i64 2]) (by simp [results, Tryz.results83, go_sem]) rfl ⟨?_, ?_⟩
  · rw [H.out.1, H.out.2.1, H.out.2.2]
  · exact (((Below.refl _ _).alloc (Nat.le_refl _) _))

set_option maxHeartbeats 800000 in
theorem refMake_some (a b : Int) (w : World) (a1 : -9223372036854775808 ≤ a) (a2 : a ≤ 9223372036854775807) (b1 : -9223372036854775808 ≤ b) (b2 : b ≤ 9223372036854775807) (h0 : b ≠ 0) :
    Calls Tryz.prog 83 #[.int .i64 a, .int .i64 b] w (Made (.tuple #[.agg #[.int .i64 (mkNum a b), .int .i64 (mkDen a b)], .int .i64 (mkErr a b)]) w) := by
  have B0 : ((b : Int) == 0) = false := by simpa using h0
  have k1 : a.natAbs < 18446744073709551616 := by omega
  have k2 : b.natAbs < 18446744073709551616 := by omega
  have gp : 0 < Nat.gcd a.natAbs b.natAbs := Nat.gcd_pos_of_pos_right _ (by omega)
  have gB : (((Nat.gcd a.natAbs b.natAbs : Nat) : Int) == 0) = false := by simp; omega
  have gl : Nat.gcd a.natAbs b.natAbs ≤ b.natAbs := Nat.gcd_le_right _ (by omega)
  go_enter Tryz.func83, Tryz.ntmps83
  go_wp2_with fail
  refine (size_any _ _ (by omega) (by omega)).mono ?_
  rintro e w' ⟨rfl, rfl⟩
  go_wp2_with fail
  refine (size_any _ _ (by omega) (by omega)).mono ?_
  rintro e w' ⟨rfl, rfl⟩
  go_wp2_with fail
  refine (divisor_any _ _ _ (by omega) (by omega)).mono ?_
  rintro e w1 ⟨rfl, n1, rfl⟩
  go_wp2_with fail
  go_quiet ((go_at_call 103; exact (size_any _ _ (by omega) (by omega)).mono (fun e w' h => ⟨h.1, _, h.2⟩)))
  rw [wrap_top a b k1, wrap_bot a b k2]
  by_cases f1 : 2147483647 < top a b
  · have HV := Lib.hid (mk_no a b h0 (Or.inl f1))
    go_wp2_with fail
    refine bodyPost_ret (v := .tuple #[.agg #[.int .i64 0, .int .i64 0], .int .i64 7]) (by simp [results, Tryz.results83, go_sem]) rfl ⟨?_, ?_⟩
    · rw [HV.out.1, HV.out.2.1, HV.out.2.2]
    · repeat (first | exact Below.refl _ _ | refine Below.alloc ?_ (by simp) _ | refine Below.setCell ?_ (by simp) _ | refine below_drewN ?_ _)
  by_cases f2 : 2147483647 < bot a b
  · have HV := Lib.hid (mk_no a b h0 (Or.inr f2))
    go_wp2_with fail
    refine bodyPost_ret (v := .tuple #[.agg #[.int .i64 0, .int .i64 0], .int .i64 7]) (by simp [results, Tryz.results83, go_sem]) rfl ⟨?_, ?_⟩
    · rw [HV.out.1, HV.out.2.1, HV.out.2.2]
    · repeat (first | exact Below.refl _ _ | refine Below.alloc ?_ (by simp) _ | refine Below.setCell ?_ (by simp) _ | refine below_drewN ?_ _)
  have hv := mk_yes a b h0 f1 f2
  by_cases s1 : a < 0
  · by_cases s2 : b < 0
    · have HV := Lib.hid (show mkNum a b = top a b ∧ mkDen a b = bot a b ∧ mkErr a b = 0 by simpa [s1, s2] using hv)
      clear hv
      go_wp2_with fail
      refine bodyPost_ret (v := .tuple #[.agg #[.int .i64 (top a b), .int .i64 (bot a b)], .int .i64 0]) (by simp [results, Tryz.results83, go_sem]) rfl ⟨?_, ?_⟩
      · rw [HV.out.1, HV.out.2.1, HV.out.2.2]
      · repeat (first | exact Below.refl _ _ | refine Below.alloc ?_ (by simp) _ | refine Below.setCell ?_ (by simp) _ | refine below_drewN ?_ _)
    · have HV := Lib.hid (show mkNum a b = -(top a b : Int) ∧ mkDen a b = bot a b ∧ mkErr a b = 0 by simpa [s1, s2] using hv)
      clear hv
      go_wp2_with fail
      refine bodyPost_ret (v := .tuple #[.agg #[.int .i64 (-(top a b : Int)), .int .i64 (bot a b)], .int .i64 0]) (by simp [results, Tryz.results83, go_sem]) rfl ⟨?_, ?_⟩
      · rw [HV.out.1, HV.out.2.1, HV.out.2.2]
      · repeat (first | exact Below.refl _ _ | refine Below.alloc ?_ (by simp) _ | refine Below.setCell ?_ (by simp) _ | refine below_drewN ?_ _)
  · by_cases s2 : b < 0
    · have HV := Lib.hid (show mkNum a b = -(top a b : Int) ∧ mkDen a b = bot a b ∧ mkErr a b = 0 by simpa [s1, s2] using hv)
      clear hv
      go_wp2_with fail
      refine bodyPost_ret (v := .tuple #[.agg #[.int .i64 (-(top a b : Int)), .int .i64 (bot a b)], .int .i64 0]) (by simp [results, Tryz.results83, go_sem]) rfl ⟨?_, ?_⟩
      · rw [HV.out.1, HV.out.2.1, HV.out.2.2]
      · repeat (first | exact Below.refl _ _ | refine Below.alloc ?_ (by simp) _ | refine Below.setCell ?_ (by simp) _ | refine below_drewN ?_ _)
    · have HV := Lib.hid (show mkNum a b = top a b ∧ mkDen a b = bot a b ∧ mkErr a b = 0 by simpa [s1, s2] using hv)
      clear hv
      go_wp2_with fail
      refine bodyPost_ret (v := .tuple #[.agg #[.int .i64 (top a b), .int .i64 (bot a b)], .int .i64 0]) (by simp [results, Tryz.results83, go_sem]) rfl ⟨?_, ?_⟩
      · rw [HV.out.1, HV.out.2.1, HV.out.2.2]
      · repeat (first | exact Below.refl _ _ | refine Below.alloc ?_ (by simp) _ | refine Below.setCell ?_ (by simp) _ | refine below_drewN ?_ _)

theorem refMake_any (a b : Int) (w : World) (a1 : -9223372036854775808 ≤ a) (a2 : a ≤ 9223372036854775807) (b1 : -9223372036854775808 ≤ b) (b2 : b ≤ 9223372036854775807) :
    Calls Tryz.prog 83 #[.int .i64 a, .int .i64 b] w (Made (.tuple #[.agg #[.int .i64 (mkNum a b), .int .i64 (mkDen a b)], .int .i64 (mkErr a b)]) w) := by
  by_cases h : b = 0
  · exact refMake_zero a b w h
  · exact refMake_some a b w a1 a2 b1 b2 h

theorem refValid_as {n d : Int} {b : Bool} (w : World) (hn : I64 n) (hd : I64 d) (h : vldB n d = b) : Calls Tryz.prog 67 #[.agg #[.int .i64 n, .int .i64 d]] w (Made (.bool b) w) := by
  rw [← h]; exact refValid_any n d w hn.1 hn.2 hd.1 hd.2
end Go.Proofs.YtefpaobboimakaaGreat
