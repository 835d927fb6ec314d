/- The contract of lowest of layer 7's reference. -/
import Derived.Test.YtbhaoaobhgilkaaGreatWm3
import Derived.Test.YtbhaoaobhgilkaaGreatWm17
import Derived.Test.YtbhaoaobhgilkaaGreatWm18
import Derived.ArgAppend
import Derived.Laws.OwnMore
import Derived.Deep.Onto
import Derived.Lib.AppendZeros
import Derived.Deep.RegionHeld3

namespace Go.Proofs.YtbhaoaobhgilkaaGreat
open Go.RowKit Go.Sort Go.Shelf

def lnV (y : AV) : Ln := ⟨y.a, y.b, y.s⟩

def NilOk (y : AV) : Prop := (y.q = none → y.a = [] ∧ y.c = 0) ∧ y.a.length ≤ y.c ∧ y.c ≤ maxLen

theorem OwnI.put {w : World} {B g cap : Nat} {a : List Int} (h : OwnI w B g cap a) (j : Nat) (x : Int) : OwnI (w.setCell ⟨g, j, none⟩ (.int .i64 x)) B g cap (a.set j x) ∧ w.grownBy (w.setCell ⟨g, j, none⟩ (.int .i64 x)) (some g) := by
  obtain ⟨h1, h2⟩ := World.ownsRow.stored h j (.int .i64 x)
  refine ⟨?_, h2⟩
  unfold OwnI
  rw [List.length_set, List.map_set]
  exact h1

theorem OwnI.on {w w' : World} {B g cap : Nat} {a : List Int} (h : OwnI w B g cap a) (hb : Below w.heap.size w w') : OwnI w' B g cap a :=
  World.ownsRow.kept h (show w.grownBy w' none from ⟨hb.os, hb.tape, hb.output, hb.size, fun k hk _ => hb.block k hk⟩) (Or.inr (by simp [Value.ownBlock]))

theorem OwnI.grown {w w' : World} {B g b cap : Nat} {a : List Int} (h : OwnI w B g cap a) (hg : w.grownBy w' (some b)) (hne : g ≠ b) : OwnI w' B g cap a := World.ownsRow.kept h hg (Or.inr (by simpa [Value.ownBlock] using hne))

theorem OwnI.rd {w : World} {B g cap : Nat} {a : List Int} (h : OwnI w B g cap a) : Rd1 w (some ⟨g, 0, none⟩) a := fun t ht => ⟨_, rfl, by rw [addr_add, Nat.zero_add]; exact h.at ht⟩

theorem OwnI.empty (w : World) (B : Nat) (hB : B ≤ w.heap.size) : OwnI (w.alloc (.cells #[] 2)) B w.heap.size 0 [] := World.ownsRow_made w #[] 0 hB (Nat.zero_le _) (by simp)

theorem rd_map {w : World} {p : Addr} {a : List Int} (h : Rd1 w (some p) a) : ∀ j u, (a.map (Value.int .i64))[j]? = some u → w.cell? (p.add j) = some u := fun j u hu => by
  rw [List.getElem?_map] at hu
  cases hj : a[j]? with
  | none => rw [hj] at hu; cases hu
  | some x =>
    rw [hj] at hu
    have hjl : j < a.length := (List.getElem?_eq_some_iff.1 hj).1
    obtain ⟨p', e, c⟩ := h j hjl
    cases e
    rw [c, ← hu]
    simp [gA, hj]

theorem appI_run {w : World} {B b : Nat} (hown : OwnI w B b 0 []) {q : Option Addr} {a : List Int} {c : Nat} (hR : Rd1 w q a) (hN : q = none → a = [] ∧ c = 0) (hl : a.length ≤ 1000000) (hB : B ≤ w.heap.size) (ty : TypeId) :
    ∃ g c' w', (Builtin.append_ #[23, 23] ty #[.slice (some ⟨b, 0, none⟩) 0 0, .slice q a.length c]).run Tryz.prog w = .ok (.slice (some ⟨g, 0, none⟩) a.length c') w' ∧ OwnI w' B g c' a ∧ w.grownBy w' (some b) ∧ (g = b ∨ w.heap.size ≤ g) ∧ (q = none → g = b) := by
  obtain ⟨i0, hi, hz0, hz1, hz2⟩ := info_parts i64_info
  have U : Tryz.prog.underlying 23 = some (.slice 2) := Tryz.underlying23
  cases q with
  | none =>
    obtain ⟨rfl, rfl⟩ := hN rfl
    exact ⟨b, 0, w, run_append_owned_none w B _ ty _ i0 1 U hi _ _ _ hown, hown, World.grownBy.refl _ _, Or.inl rfl, fun _ => rfl⟩
  | some p =>
    by_cases e : a = []
    · subst e
      obtain ⟨w', hrun, r1, r2⟩ := run_append_fits (P := Tryz.prog) w B _ ty _ i0 1 U hi hz1 b 0 0 [] hown p 0 c [] rfl (by intro j u q; simp at q) (by simp) (by omega)
      exact ⟨b, 0, w', hrun, r1, r2, Or.inl rfl, fun h => by cases h⟩
    · have hp : 0 < a.length := List.length_pos_iff.2 e
      obtain ⟨v', w', hrun, r1, r2⟩ := run_append_arg_grows (P := Tryz.prog) w _ ty _ i0 (.int .i64 0) 1 8 U hi hz0 hz1 hz2 rfl (by decide) ⟨b, 0, none⟩ 0 0 [] rfl (by intro j u q; simp at q) p a.length c (a.map (Value.int .i64)) (by simp) (rd_map hR) (by omega) (by unfold maxLen; omega) (by omega)
      rw [show ([] : List Value) ++ a.map (Value.int .i64) = a.map (Value.int .i64) from rfl, Nat.zero_add] at r1
      have hform : ∃ g c', v' = .slice (some ⟨g, 0, none⟩) a.length c' := by
        rcases r1.2 with ⟨_, hn⟩ | ⟨g, cap, cur, rfl, _⟩
        · omega
        · exact ⟨g, cap, rfl⟩
      obtain ⟨g, c', rfl⟩ := hform
      have hlt := World.ownsRow.lt r1 g rfl
      exact ⟨g, c', w', hrun, World.ownsRow.mono r1 hB, ⟨r2.os, r2.tape, r2.output, r2.size, fun k hk _ => r2.block k hk (by simp)⟩, Or.inr hlt.1, fun h => by cases h⟩

def Ln.dvR (x : Ln) : Int := gcdL (x.b.natAbs : Int) x.a

def Ln.lowR (x : Ln) : Ln := if x.dvR = 0 then x else ⟨x.a.map (·.tdiv x.dvR), x.b.tdiv x.dvR, x.s⟩

theorem gcd_abs (d v : Int) : (Int.gcd d (v.natAbs : Int) : Int) = Int.gcd d v := by simp [Int.gcd]

theorem gcdL_nn {b : Int} (hb : 0 ≤ b) : ∀ (a : List Int), 0 ≤ gcdL b a
  | [] => hb
  | v :: r => by show 0 ≤ gcdL (Int.gcd b v : Int) r; exact gcdL_nn (by omega) r

theorem BkV.facts {w : World} {b : Nat} {y : AV} (h : BkV w b y) : w.cell? ⟨b, 0, none⟩ = some (.slice y.q y.a.length y.c) ∧ w.cell? ⟨b, 1, none⟩ = some (.int .i64 y.b) ∧ w.cell? ⟨b, 2, none⟩ = some (.bool y.s) :=
  ⟨by rw [cell_of_row w _ 0 _ _ _ h]; rfl, by rw [cell_of_row w _ 1 _ _ _ h]; rfl, by rw [cell_of_row w _ 2 _ _ _ h]; rfl⟩

theorem BkV.free {w : World} {b : Nat} {y : AV} (h : BkV w b y) (j : Nat) : w.frozen? ⟨b, j, none⟩ = false := frozen_of_row w b j _ _ h

theorem BkV.grown {w w' : World} {b g : Nat} {y : AV} (h : BkV w b y) (hg : w.grownBy w' (some g)) (hne : b ≠ g) : BkV w' b y := (hg.block b h.lt (by simpa using hne)).trans h

theorem BkV.putb {w : World} {b : Nat} {y : AV} (h : BkV w b y) (v : Int) : BkV (w.setCell ⟨b, 1, none⟩ (.int .i64 v)) b { y with b := v } := by
  unfold BkV
  rw [heap_setCell_same w b _ _ _ _ h]
  rfl

theorem results_av {fn : Func} {p : Tmp} (h : fn.results = #[.cell p 25]) (tmps : Array Value) {w : World} {b : Nat} {y : AV}
    (hp : tmps.getD p undef = .pointer (some ⟨b, 0, none⟩)) (hx : BkV w b y) : (results fn tmps).run Tryz.prog w = .ok (.agg y.cs) w := by
  have hp' : tmps[p]?.getD undef = .pointer (some ⟨b, 0, none⟩) := by simpa using hp
  have h1 := av_loadP hx.avAt
  generalize y.cs = X at *
  simp [results, h, hp', asAddr, h1]

def VRes (w : World) (x : Ln) (e : Ending) (w' : World) : Prop := ∃ g c, e = .returned (.agg (AV.mk (some ⟨g, 0, none⟩) c x.a x.b x.s).cs) ∧ OwnI w' w.heap.size g c x.a ∧ Below w.heap.size w w'

set_option maxRecDepth 100000 in
set_option maxHeartbeats 4000000 in
theorem rlowest_any (y : AV) (w : World) (hl : y.a.length ≤ 1000) (hR : Rd1 w y.q y.a) (hN : NilOk y) (ha : ∀ v ∈ y.a, A63 v) (hb : A63 y.b) :
    Calls Tryz.prog 107 #[.agg y.cs] w (VRes w (lnV y).lowR) := by
  obtain ⟨w0, hw0⟩ : ∃ w0, w0 = (w.alloc (.cells y.cs 25)).alloc (.cells #[.slice none 0 0, .int .i64 0, .bool false] 25) := ⟨_, rfl⟩
  have E0 := Lib.hid (show Below w.heap.size w w0 by rw [hw0]; exact past_two (Below.refl _ _))
  have K0 := Lib.hid (show BkV w0 w.heap.size y by rw [hw0]; exact (BkV.made w y).kept (one_more _))
  have K1 := Lib.hid (show BkV w0 (w.heap.size + 1) av0 by rw [hw0]; have := BkV.made (w.alloc (.cells y.cs 25)) av0; simpa [av0, AV.cs, AV.cells] using this)
  have R0 := Lib.hid (hR.on E0.out)
  have NO := Lib.hid hN.1
  have YA := Lib.hid ha
  have YB := Lib.hid hb
  obtain ⟨q, c, a, b, s⟩ := y
  simp only [lnV] at *
  obtain ⟨m, hm⟩ : ∃ m, m = a.length := ⟨_, rfl⟩
  have HM := Lib.hid hm
  have HL := Lib.hid hl
  have hle : m ≤ 1000 := by omega
  obtain ⟨X, hX⟩ : ∃ X, X = (Ln.mk a b s).lowR := ⟨_, rfl⟩
  have HX := Lib.hid hX
  rw [← hX]
  obtain ⟨f0, f1, f2⟩ := K0.out.facts
  simp only at f0 f1 f2
  rw [← hm] at f0
  have F0 := Lib.hid f0
  have F1 := Lib.hid f1
  have F2 := Lib.hid f2
  have SB := Lib.hid (rsize_any b w0 hb)
  have GD : ∀ t, A63 (gcdL (b.natAbs : Int) (a.take t)) ∧ 0 ≤ gcdL (b.natAbs : Int) (a.take t) := fun t => ⟨gcdL_63 (by unfold A63 at *; omega) (fun v hv => ha v (List.mem_of_mem_take hv)), gcdL_nn (by omega) _⟩
  have GB63 := Lib.hid GD
  clear hl hR hN ha hb hm hX GD
  go_enter Tryz.func107, Tryz.ntmps107
  go_upto_region 1 with (fail)
  rw [← hw0]
  clear hw0
  go_wp2_with fail
  refine SB.out.mono ?_
  rintro e w1 ⟨rfl, rfl⟩
  go_wp2_with fail
  go_loopw [3, 4] (fun u v wr => ∃ t : Nat, u = .int .i64 (gcdL (b.natAbs : Int) (a.take t)) ∧ v = .int .i64 t ∧ t ≤ m ∧ ∃ k, wr = w1.drewN k) (fun _ v _ => m - (intOf v).toNat)
  case atStart => exact ⟨0, by simp [gcdL], rfl, by omega, 0, rfl⟩
  case round =>
    obtain ⟨t, rfl, rfl, ht, k, rfl⟩ := hrel
    by_cases htm : t < m
    · have hlt : t < a.length := by have := HM.out; omega
      obtain ⟨p, hp, c0⟩ := R0.out t hlt
      obtain ⟨u, hu⟩ : ∃ u, u = gA a t := ⟨_, rfl⟩
      have GS := Lib.hid (show gcdL (b.natAbs : Int) (a.take (t + 1)) = (Int.gcd (gcdL (b.natAbs : Int) (a.take t)) u : Int) by rw [hu]; exact gcdL_step hlt)
      have G0 := Lib.hid (GB63.out t)
      have U63 := Lib.hid (show A63 u by rw [hu]; exact YA.out _ (gA_mem hlt))
      rw [← hu] at c0
      generalize gcdL (b.natAbs : Int) (a.take t) = d at *
      subst hp
      clear hu hlt
      go_wp2_with fail
      refine (rsize_any u _ U63.out).mono ?_
      rintro e w2 ⟨rfl, rfl⟩
      go_wp2_with fail
      refine (rdiv_any d (u.natAbs : Int) _ (by have := G0.out; unfold A63 at this; omega) (by have := U63.out; unfold A63 at this; omega)).mono ?_
      rintro e w2 ⟨rfl, j, rfl⟩
      rw [gcd_abs]
      rw [← GS.out]
      go_wp2_with fail
      go_roundw
      case rel => exact ⟨t + 1, rfl, by go_num, by omega, _, rfl⟩
      case measure => simp [intOf]; omega
    · obtain rfl : t = m := by omega
      obtain ⟨d, hd⟩ : ∃ d, d = gcdL (b.natAbs : Int) (a.take t) := ⟨_, rfl⟩
      have HD := Lib.hid (show d = (Ln.mk a b s).dvR by rw [hd, HM.out, List.take_length]; rfl)
      have D63 := Lib.hid (show A63 d ∧ 0 ≤ d by rw [hd]; exact GB63.out t)
      rw [← hd]
      clear hd
      obtain ⟨w2, hw2⟩ : ∃ w2, w2 = w1.drewN k := ⟨_, rfl⟩
      have B2 := Lib.hid (show Below w1.heap.size w1 w2 by rw [hw2]; exact below_drewN (Below.refl _ _) _)
      rw [← hw2]
      clear hw2
      have f0 := kept B2.out F0.out
      go_upto_region 6 with (fail)
      clear f0
      go_cut [5] (fun s5 wx => ∃ q5 g c', s5 = .pointer (some ⟨q5, 0, none⟩) ∧ Hid (BkV wx q5 ⟨some ⟨g, 0, none⟩, c', a, b, s⟩) ∧ Hid (OwnI wx w.heap.size g c' a) ∧ Hid (g ≠ q5 ∧ w1.heap.size ≤ q5 ∧ w1.heap.size ≤ g) ∧ Hid (Below w1.heap.size w1 wx))
      case first =>
        have KS := Lib.hid (show ∀ W, Below w2.heap.size w2 W → (W.cell? ⟨w.heap.size, 0, none⟩ = some (.slice q t c) ∧ W.cell? ⟨w.heap.size, 1, none⟩ = some (.int .i64 b) ∧ W.cell? ⟨w.heap.size, 2, none⟩ = some (.bool s)) from fun W h => ⟨kept h (kept B2.out F0.out), kept h (kept B2.out F1.out), kept h (kept B2.out F2.out)⟩)
        obtain ⟨wc, hwc⟩ : ∃ wc, wc = w2.drew := ⟨_, rfl⟩
        have Bc := Lib.hid (show Below w2.heap.size w2 wc by rw [hwc]; exact (Below.refl _ _).drew)
        refine wp_region_held_drew (S := (fun W => (W.cell? ⟨w.heap.size, 0, none⟩ = some (.slice q t c) ∧ W.cell? ⟨w.heap.size, 1, none⟩ = some (.int .i64 b) ∧ W.cell? ⟨w.heap.size, 2, none⟩ = some (.bool s)))) (by kernel_rfl) (by rw [← hwc]; exact KS.out _ Bc.out) (fun h0 => ?_)
        rw [← hwc] at h0 ⊢
        clear hwc
        refine tkH (i := 1) (v := ?v1) rfl (Or.inl ⟨by rfl, ?hy1⟩) h0 ?rest1
        case hy1 => (intro w' hS; (try dsimp only at hS); go_simp; try (with_reducible rfl))
        simp only [Act.put, sZ]
        refine tkH (i := 2) (v := ?v2) rfl (Or.inl ⟨by rfl, ?hy2⟩) h0 ?rest2
        case hy2 => (intro w' hS; (try dsimp only at hS); go_simp; try (with_reducible rfl))
        simp only [Act.put, sZ]
        refine tkH (i := 4) (v := ?v3) rfl (Or.inl ⟨by rfl, ?hy3⟩) h0 ?rest3
        case hy3 => (intro w' hS; (try dsimp only at hS); go_simp; try (with_reducible rfl))
        simp only [Act.put, sZ]
        refine tkH (i := 5) (v := ?v4) rfl (Or.inl ⟨by rfl, ?hy4⟩) h0 ?rest4
        case hy4 => (intro w' hS; (try dsimp only at hS); go_simp; try (with_reducible rfl))
        simp only [Act.put, sZ]
        refine tkH (i := 6) (v := ?v5) rfl (Or.inl ⟨by rfl, ?hy5⟩) h0 ?rest5
        case hy5 => (intro w' hS; (try dsimp only at hS); go_simp; try (with_reducible rfl))
        simp only [Act.put, sZ]
        refine tkH (i := 7) (v := ?v6) rfl (Or.inl ⟨by rfl, ?hy6⟩) h0 ?rest6
        case hy6 => (intro w' hS; (try dsimp only at hS); go_simp; try (with_reducible rfl))
        simp only [Act.put, sZ]
        refine wpAnyH_ready (rs := [0, 9]) (by kernel_rfl) (by simp) (AllReadyH.cons rfl (fun K hK => ?_) (AllReadyH.cons rfl (fun K hK => ?_) AllReadyH.nil))
        · rw [if_pos (by rfl)]
          go_simp
          have hb := one_more (w1 := wc) (.cells #[] 2)
          have hP := OwnI.empty wc w.heap.size (Nat.le_trans E0.out.size (below_on B2.out Bc.out).size)
          have hz := Bc.out.size
          obtain ⟨b0, hbb⟩ : ∃ b0, b0 = wc.heap.size := ⟨_, rfl⟩
          rw [← hbb] at hP hz
          obtain ⟨wn, hwn⟩ : ∃ wn, wn = wc.alloc (.cells #[] 2) := ⟨_, rfl⟩
          rw [← hwn] at hb hP ⊢
          try rw [← hbb]
          try (have NE := Lib.hid (show b0 ≠ q5 by have := P5.out.lt; omega))
          try (have P5 := Lib.hid (P5.out.kept hb))
          have Bc := Lib.hid (below_on Bc.out hb)
          have P0 := Lib.hid hP
          have Z0 := Lib.hid hz
          clear hb hP hz hbb hwn
          obtain ⟨wc, hwc⟩ : ∃ wc, wc = wn := ⟨_, rfl⟩
          rw [← hwc] at Bc P0 ⊢
          try rw [← hwc] at P5
          clear hwc
          go_simp
          refine hK.out _ _ (KS.out _ Bc.out) (fun h0_1 => ?_)
          clear hK K h0
          refine wpAnyH_ready (rs := [3, 9]) (by kernel_rfl) (by simp) (AllReadyH.cons rfl (fun K hK => ?_) (AllReadyH.cons rfl (fun K hK => ?_) AllReadyH.nil))
          · rw [if_pos (by rfl)]
            obtain ⟨g, c', we, hrun, ho, hg, hgb, _⟩ := appI_run P0.out ((R0.out.on B2.out).on Bc.out) NO.out (by have := HL.out; omega) (Nat.le_trans E0.out.size (below_on B2.out Bc.out).size) 23
            rw [← HM.out] at hrun
            refine Lib.wp_append_run _ _ _ 23 23 rfl (.slice (some ⟨b0, 0, none⟩) 0 0) (.slice q t c) rfl rfl _ _ hrun ?_
            have hzz := (below_on B2.out Bc.out).size
            have ZG := Lib.hid (show w1.heap.size ≤ g by have := Z0.out; have := B2.out.size; omega)
            try (have NG := Lib.hid (show g ≠ q5 from hgb.elim (fun h => by rw [h]; exact NE.out) (fun h => by have := P5.out.lt; omega)))
            try (have P5 := Lib.hid (P5.out.grown hg (Ne.symm NE.out)))
            have Bc := Lib.hid (Below.grown Bc.out hg Bc.out.size (fun k hk => by have := Z0.out; injection hk with hk; omega))
            have G5 := Lib.hid ho
            clear hrun ho hg hgb hzz
            obtain ⟨wc, hwc⟩ : ∃ wc, wc = we := ⟨_, rfl⟩
            rw [← hwc] at Bc G5 ⊢
            try rw [← hwc] at P5
            clear hwc
            try simp only [Act.put, sZ]
            refine hK.out _ _ (KS.out _ Bc.out) (fun h0_2 => ?_)
            clear hK K h0_1
            refine tkH (i := 8) (v := ?v7) rfl (Or.inl ⟨by rfl, ?hy7⟩) h0_2 ?rest7
            case hy7 => (intro w' hS; (try dsimp only at hS); go_simp; try (with_reducible rfl))
            simp only [Act.put, sZ]
            refine wpAnyH_ready (rs := [9]) (by kernel_rfl) (by simp) (AllReadyH.cons rfl (fun K hK => ?_) AllReadyH.nil)
            rw [if_pos (by rfl)]
            go_simp
            have hb := one_more (w1 := wc) (.cells #[.slice none 0 0, .int .i64 0, .bool false] 25)
            have hP := (show BkV (wc.alloc (.cells #[.slice none 0 0, .int .i64 0, .bool false] 25)) wc.heap.size av0 from BkV.made wc av0)
            have hy := Bc.out.size
            have hz := (below_on B2.out Bc.out).size
            obtain ⟨q5, hbb⟩ : ∃ q5, q5 = wc.heap.size := ⟨_, rfl⟩
            rw [← hbb] at hP hz hy
            obtain ⟨wn, hwn⟩ : ∃ wn, wn = wc.alloc (.cells #[.slice none 0 0, .int .i64 0, .bool false] 25) := ⟨_, rfl⟩
            rw [← hwn] at hb hP ⊢
            try rw [← hbb]
            try (have NE := Lib.hid (show b0 ≠ q5 by have := P0.out.lt; omega))
            try (have NG := Lib.hid (show g ≠ q5 by have := G5.out.lt; omega))
            try (have G5 := Lib.hid (G5.out.on hb))
            try (have P0 := Lib.hid (P0.out.on hb))
            have Bc := Lib.hid (below_on Bc.out hb)
            have P5 := Lib.hid hP
            have Z5 := Lib.hid hz
            have ZQ := Lib.hid hy
            clear hb hP hz hy hbb hwn
            obtain ⟨wc, hwc⟩ : ∃ wc, wc = wn := ⟨_, rfl⟩
            rw [← hwc] at Bc P5 ⊢
            try rw [← hwc] at G5
            try rw [← hwc] at P0
            clear hwc
            go_simp
            refine hK.out _ _ (KS.out _ Bc.out) (fun h0_3 => ?_)
            clear hK K h0_2
            refine wpAnyH_ready (rs := [10]) (by kernel_rfl) (by simp) (AllReadyH.cons rfl (fun K hK => ?_) AllReadyH.nil)
            rw [if_pos (by rfl)]
            have Z52 := Lib.hid (show w2.heap.size ≤ q5 by exact ZQ.out)
            refine wp_storeV _ _ rfl q5 ⟨some ⟨g, 0, none⟩, c', a, b, s⟩ rfl (by rw [HM.out]; rfl) _ P5.out ?_
            refine hK.out _ _ (KS.out _ (Below.setRow Bc.out Z52.out _)) (fun h0_4 => ?_)
            clear hK K h0_3
            try simp only [sF]
            try simp only [sE]
            refine wpAnyH_done (by kernel_rfl) ?_ _
            have PE := P5.out.setRow (z := ⟨some ⟨g, 0, none⟩, c', a, b, s⟩)
            have BE := Below.setRow (below_on B2.out Bc.out) Z5.out (AV.mk (some ⟨g, 0, none⟩) c' a b s).cs
            have GE := G5.out.grown (grown_row wc q5 (AV.mk (some ⟨g, 0, none⟩) c' a b s).cs) NG.out
            go_wp2_with fail
            go_meet
            case rel => exact ⟨q5, g, c', rfl, Lib.hid PE, Lib.hid GE, Lib.hid ⟨NG.out, Z5.out, ZG.out⟩, Lib.hid BE⟩
          · rw [if_pos (by rfl)]
            go_simp
            have hb := one_more (w1 := wc) (.cells #[.slice none 0 0, .int .i64 0, .bool false] 25)
            have hP := (show BkV (wc.alloc (.cells #[.slice none 0 0, .int .i64 0, .bool false] 25)) wc.heap.size av0 from BkV.made wc av0)
            have hy := Bc.out.size
            have hz := (below_on B2.out Bc.out).size
            obtain ⟨q5, hbb⟩ : ∃ q5, q5 = wc.heap.size := ⟨_, rfl⟩
            rw [← hbb] at hP hz hy
            obtain ⟨wn, hwn⟩ : ∃ wn, wn = wc.alloc (.cells #[.slice none 0 0, .int .i64 0, .bool false] 25) := ⟨_, rfl⟩
            rw [← hwn] at hb hP ⊢
            try rw [← hbb]
            try (have NE := Lib.hid (show b0 ≠ q5 by have := P0.out.lt; omega))
            try (have NG := Lib.hid (show g ≠ q5 by have := G5.out.lt; omega))
            try (have G5 := Lib.hid (G5.out.on hb))
            try (have P0 := Lib.hid (P0.out.on hb))
            have Bc := Lib.hid (below_on Bc.out hb)
            have P5 := Lib.hid hP
            have Z5 := Lib.hid hz
            have ZQ := Lib.hid hy
            clear hb hP hz hy hbb hwn
            obtain ⟨wc, hwc⟩ : ∃ wc, wc = wn := ⟨_, rfl⟩
            rw [← hwc] at Bc P5 ⊢
            try rw [← hwc] at G5
            try rw [← hwc] at P0
            clear hwc
            go_simp
            refine hK.out _ _ (KS.out _ Bc.out) (fun h0_2 => ?_)
            clear hK K h0_1
            refine wpAnyH_ready (rs := [3]) (by kernel_rfl) (by simp) (AllReadyH.cons rfl (fun K hK => ?_) AllReadyH.nil)
            rw [if_pos (by rfl)]
            obtain ⟨g, c', we, hrun, ho, hg, hgb, _⟩ := appI_run P0.out ((R0.out.on B2.out).on Bc.out) NO.out (by have := HL.out; omega) (Nat.le_trans E0.out.size (below_on B2.out Bc.out).size) 23
            rw [← HM.out] at hrun
            refine Lib.wp_append_run _ _ _ 23 23 rfl (.slice (some ⟨b0, 0, none⟩) 0 0) (.slice q t c) rfl rfl _ _ hrun ?_
            have hzz := (below_on B2.out Bc.out).size
            have ZG := Lib.hid (show w1.heap.size ≤ g by have := Z0.out; have := B2.out.size; omega)
            try (have NG := Lib.hid (show g ≠ q5 from hgb.elim (fun h => by rw [h]; exact NE.out) (fun h => by have := P5.out.lt; omega)))
            try (have P5 := Lib.hid (P5.out.grown hg (Ne.symm NE.out)))
            have Bc := Lib.hid (Below.grown Bc.out hg Bc.out.size (fun k hk => by have := Z0.out; injection hk with hk; omega))
            have G5 := Lib.hid ho
            clear hrun ho hg hgb hzz
            obtain ⟨wc, hwc⟩ : ∃ wc, wc = we := ⟨_, rfl⟩
            rw [← hwc] at Bc G5 ⊢
            try rw [← hwc] at P5
            clear hwc
            try simp only [Act.put, sZ]
            refine hK.out _ _ (KS.out _ Bc.out) (fun h0_5 => ?_)
            clear hK K h0_2
            refine tkH (i := 8) (v := ?v8) rfl (Or.inl ⟨by rfl, ?hy8⟩) h0_5 ?rest8
            case hy8 => (intro w' hS; (try dsimp only at hS); go_simp; try (with_reducible rfl))
            simp only [Act.put, sZ]
            refine wpAnyH_ready (rs := [10]) (by kernel_rfl) (by simp) (AllReadyH.cons rfl (fun K hK => ?_) AllReadyH.nil)
            rw [if_pos (by rfl)]
            have Z52 := Lib.hid (show w2.heap.size ≤ q5 by exact ZQ.out)
            refine wp_storeV _ _ rfl q5 ⟨some ⟨g, 0, none⟩, c', a, b, s⟩ rfl (by rw [HM.out]; rfl) _ P5.out ?_
            refine hK.out _ _ (KS.out _ (Below.setRow Bc.out Z52.out _)) (fun h0_6 => ?_)
            clear hK K h0_5
            try simp only [sF]
            try simp only [sE]
            refine wpAnyH_done (by kernel_rfl) ?_ _
            have PE := P5.out.setRow (z := ⟨some ⟨g, 0, none⟩, c', a, b, s⟩)
            have BE := Below.setRow (below_on B2.out Bc.out) Z5.out (AV.mk (some ⟨g, 0, none⟩) c' a b s).cs
            have GE := G5.out.grown (grown_row wc q5 (AV.mk (some ⟨g, 0, none⟩) c' a b s).cs) NG.out
            go_wp2_with fail
            go_meet
            case rel => exact ⟨q5, g, c', rfl, Lib.hid PE, Lib.hid GE, Lib.hid ⟨NG.out, Z5.out, ZG.out⟩, Lib.hid BE⟩
        · rw [if_pos (by rfl)]
          go_simp
          have hb := one_more (w1 := wc) (.cells #[.slice none 0 0, .int .i64 0, .bool false] 25)
          have hP := (show BkV (wc.alloc (.cells #[.slice none 0 0, .int .i64 0, .bool false] 25)) wc.heap.size av0 from BkV.made wc av0)
          have hy := Bc.out.size
          have hz := (below_on B2.out Bc.out).size
          obtain ⟨q5, hbb⟩ : ∃ q5, q5 = wc.heap.size := ⟨_, rfl⟩
          rw [← hbb] at hP hz hy
          obtain ⟨wn, hwn⟩ : ∃ wn, wn = wc.alloc (.cells #[.slice none 0 0, .int .i64 0, .bool false] 25) := ⟨_, rfl⟩
          rw [← hwn] at hb hP ⊢
          try rw [← hbb]
          try (have NE := Lib.hid (show b0 ≠ q5 by have := P0.out.lt; omega))
          try (have NG := Lib.hid (show g ≠ q5 by have := G5.out.lt; omega))
          try (have G5 := Lib.hid (G5.out.on hb))
          try (have P0 := Lib.hid (P0.out.on hb))
          have Bc := Lib.hid (below_on Bc.out hb)
          have P5 := Lib.hid hP
          have Z5 := Lib.hid hz
          have ZQ := Lib.hid hy
          clear hb hP hz hy hbb hwn
          obtain ⟨wc, hwc⟩ : ∃ wc, wc = wn := ⟨_, rfl⟩
          rw [← hwc] at Bc P5 ⊢
          try rw [← hwc] at G5
          try rw [← hwc] at P0
          clear hwc
          go_simp
          refine hK.out _ _ (KS.out _ Bc.out) (fun h0_1 => ?_)
          clear hK K h0
          refine wpAnyH_ready (rs := [0]) (by kernel_rfl) (by simp) (AllReadyH.cons rfl (fun K hK => ?_) AllReadyH.nil)
          rw [if_pos (by rfl)]
          go_simp
          have hb := one_more (w1 := wc) (.cells #[] 2)
          have hP := OwnI.empty wc w.heap.size (Nat.le_trans E0.out.size (below_on B2.out Bc.out).size)
          have hz := Bc.out.size
          obtain ⟨b0, hbb⟩ : ∃ b0, b0 = wc.heap.size := ⟨_, rfl⟩
          rw [← hbb] at hP hz
          obtain ⟨wn, hwn⟩ : ∃ wn, wn = wc.alloc (.cells #[] 2) := ⟨_, rfl⟩
          rw [← hwn] at hb hP ⊢
          try rw [← hbb]
          try (have NE := Lib.hid (show b0 ≠ q5 by have := P5.out.lt; omega))
          try (have P5 := Lib.hid (P5.out.kept hb))
          have Bc := Lib.hid (below_on Bc.out hb)
          have P0 := Lib.hid hP
          have Z0 := Lib.hid hz
          clear hb hP hz hbb hwn
          obtain ⟨wc, hwc⟩ : ∃ wc, wc = wn := ⟨_, rfl⟩
          rw [← hwc] at Bc P0 ⊢
          try rw [← hwc] at P5
          clear hwc
          go_simp
          refine hK.out _ _ (KS.out _ Bc.out) (fun h0_7 => ?_)
          clear hK K h0_1
          refine wpAnyH_ready (rs := [3]) (by kernel_rfl) (by simp) (AllReadyH.cons rfl (fun K hK => ?_) AllReadyH.nil)
          rw [if_pos (by rfl)]
          obtain ⟨g, c', we, hrun, ho, hg, hgb, _⟩ := appI_run P0.out ((R0.out.on B2.out).on Bc.out) NO.out (by have := HL.out; omega) (Nat.le_trans E0.out.size (below_on B2.out Bc.out).size) 23
          rw [← HM.out] at hrun
          refine Lib.wp_append_run _ _ _ 23 23 rfl (.slice (some ⟨b0, 0, none⟩) 0 0) (.slice q t c) rfl rfl _ _ hrun ?_
          have hzz := (below_on B2.out Bc.out).size
          have ZG := Lib.hid (show w1.heap.size ≤ g by have := Z0.out; have := B2.out.size; omega)
          try (have NG := Lib.hid (show g ≠ q5 from hgb.elim (fun h => by rw [h]; exact NE.out) (fun h => by have := P5.out.lt; omega)))
          try (have P5 := Lib.hid (P5.out.grown hg (Ne.symm NE.out)))
          have Bc := Lib.hid (Below.grown Bc.out hg Bc.out.size (fun k hk => by have := Z0.out; injection hk with hk; omega))
          have G5 := Lib.hid ho
          clear hrun ho hg hgb hzz
          obtain ⟨wc, hwc⟩ : ∃ wc, wc = we := ⟨_, rfl⟩
          rw [← hwc] at Bc G5 ⊢
          try rw [← hwc] at P5
          clear hwc
          try simp only [Act.put, sZ]
          refine hK.out _ _ (KS.out _ Bc.out) (fun h0_8 => ?_)
          clear hK K h0_7
          refine tkH (i := 8) (v := ?v9) rfl (Or.inl ⟨by rfl, ?hy9⟩) h0_8 ?rest9
          case hy9 => (intro w' hS; (try dsimp only at hS); go_simp; try (with_reducible rfl))
          simp only [Act.put, sZ]
          refine wpAnyH_ready (rs := [10]) (by kernel_rfl) (by simp) (AllReadyH.cons rfl (fun K hK => ?_) AllReadyH.nil)
          rw [if_pos (by rfl)]
          have Z52 := Lib.hid (show w2.heap.size ≤ q5 by exact ZQ.out)
          refine wp_storeV _ _ rfl q5 ⟨some ⟨g, 0, none⟩, c', a, b, s⟩ rfl (by rw [HM.out]; rfl) _ P5.out ?_
          refine hK.out _ _ (KS.out _ (Below.setRow Bc.out Z52.out _)) (fun h0_9 => ?_)
          clear hK K h0_8
          try simp only [sF]
          try simp only [sE]
          refine wpAnyH_done (by kernel_rfl) ?_ _
          have PE := P5.out.setRow (z := ⟨some ⟨g, 0, none⟩, c', a, b, s⟩)
          have BE := Below.setRow (below_on B2.out Bc.out) Z5.out (AV.mk (some ⟨g, 0, none⟩) c' a b s).cs
          have GE := G5.out.grown (grown_row wc q5 (AV.mk (some ⟨g, 0, none⟩) c' a b s).cs) NG.out
          go_wp2_with fail
          go_meet
          case rel => exact ⟨q5, g, c', rfl, Lib.hid PE, Lib.hid GE, Lib.hid ⟨NG.out, Z5.out, ZG.out⟩, Lib.hid BE⟩
      case rest =>
      obtain ⟨q5, g, c', rfl, HQ, HG, HZ, HB⟩ := hcut
      obtain ⟨w3, hw3⟩ : ∃ w3, w3 = wc := ⟨_, rfl⟩
      rw [← hw3] at HQ HG HB ⊢
      clear hw3 R0 B2 SB
      have K1' := Lib.hid (K1.out.kept HB.out)
      have NQ := Lib.hid (show w.heap.size + 1 ≠ q5 ∧ w.heap.size + 1 ≠ g by have := K1.out.lt; have := HZ.out; omega)
      by_cases hd0 : d = 0
      · have HX0 := Lib.hid (show X = ⟨a, b, s⟩ by rw [HX.out]; unfold Ln.lowR; rw [if_pos (by rw [← HD.out]; exact hd0)])
        have d0 : (d == 0) = true := by simpa using hd0
        clear hd0
        have G2 := Lib.hid (HG.out.grown (grown_row w3 (w.heap.size + 1) (AV.mk (some ⟨g, 0, none⟩) c' a b s).cs) (Ne.symm NQ.out.2))
        have BW := Lib.hid (Below.setRow (below_on E0.out HB.out) (b := w.heap.size + 1) (by omega) (AV.mk (some ⟨g, 0, none⟩) c' a b s).cs)
        have KF := Lib.hid (K1'.out.setRow (z := AV.mk (some ⟨g, 0, none⟩) c' a b s))
        go_wp2_with (first | refine wpl_loadV rfl _ rfl _ rfl (AV.mk (some ⟨g, 0, none⟩) c' a b s) HQ.out.avAt ?_ | refine wpl_storeV rfl _ _ rfl _ (AV.mk (some ⟨g, 0, none⟩) c' a b s) rfl rfl _ K1'.out ?_)
        refine bodyPost_ret (results_av Tryz.results107 _ rfl KF.out) rfl ⟨g, c', by rw [HX0.out], by rw [HX0.out]; exact G2.out, BW.out⟩
      · have HX0 := Lib.hid (show X = ⟨a.map (·.tdiv d), b.tdiv d, s⟩ by rw [HX.out]; unfold Ln.lowR; rw [if_neg (by rw [← HD.out]; exact hd0), ← HD.out])
        have d0 : (d == 0) = false := by simpa using hd0
        have dz : (d = 0) = False := by simpa using hd0
        clear hd0 HX
        go_wp2_with fail
        go_loopw [6] (fun v wr => ∃ i : Nat, v = .int .i64 i ∧ i ≤ t ∧ Hid (BkV wr q5 ⟨some ⟨g, 0, none⟩, c', a, b, s⟩) ∧ Hid (OwnI wr w.heap.size g c' (mapN (·.tdiv d) i a)) ∧ Hid (Below w1.heap.size w1 wr)) (fun v _ => t - (intOf v).toNat)
        case atStart => exact ⟨0, rfl, by omega, HQ, Lib.hid (by simpa [mapN] using HG.out), HB⟩
        case round =>
          clear HQ HG HB K1'
          obtain ⟨i, rfl, hi, HQ, HG, HB⟩ := hrel
          obtain ⟨f0, f1, f2⟩ := HQ.out.facts
          simp only at f0 f1 f2
          rw [← HM.out] at f0
          by_cases hit : i < t
          · have hlt : i < a.length := by have := HM.out; omega
            have hl2 : i < (mapN (·.tdiv d) i a).length := by rw [mapN_len]; exact hlt
            obtain ⟨v, hv⟩ : ∃ v, v = gA a i := ⟨_, rfl⟩
            have g0 := HG.out.at hl2
            rw [mapN_get _ hlt, ← hv] at g0
            have g1 : wr.frozen? ⟨g, i, none⟩ = false := World.ownsRow.frozenAt HG.out i
            have hw : IntKind.i64.wrap (v.tdiv d) = v.tdiv d := by have := tdc (a := v) (d := d) (m := 9223372036854775807) (by have := YA.out v (by rw [hv]; exact gA_mem hlt); unfold A63 at this; omega); exact wrap_in _ (by omega) (by omega)
            have GP := HG.out.put i (v.tdiv d)
            have e1 : (mapN (·.tdiv d) i a).set i (v.tdiv d) = mapN (·.tdiv d) (i + 1) a := by rw [hv]; exact mapN_step _ hlt
            rw [e1] at GP
            have G2 := Lib.hid GP.1
            have Q2 := Lib.hid (HQ.out.grown GP.2 (Ne.symm HZ.out.1))
            have B2 := Lib.hid (Below.grown HB.out GP.2 HB.out.size (fun k hk => by have := HZ.out.2.2; injection hk with hk; omega))
            clear hv hlt hl2 GP e1
            go_wp2_with fail
            go_region
            go_wp2_with fail
            go_roundw
            case rel => exact ⟨i + 1, by go_num, by omega, Lib.hid (Q2.out.kept (below_drewN (Below.refl _ _) 1)), Lib.hid (G2.out.on (below_drewN (Below.refl _ _) 1)), Lib.hid (below_drewN B2.out 1)⟩
            case measure => simp [intOf]; omega
          · obtain rfl : i = t := by omega
            have MA := Lib.hid (show mapN (·.tdiv d) i a = a.map (·.tdiv d) from mapN_all _ _ (by have := HM.out; omega))
            have GA := Lib.hid (show OwnI wr w.heap.size g c' (a.map (·.tdiv d)) by rw [← MA.out]; exact HG.out)
            have f3 := HQ.out.free 1
            have hw : IntKind.i64.wrap (b.tdiv d) = b.tdiv d := by have := tdc (a := b) (d := d) (m := 9223372036854775807) (by have := YB.out; unfold A63 at this; omega); exact wrap_in _ (by omega) (by omega)
            have Q3 := Lib.hid (show BkV (wr.setCell ⟨q5, 1, none⟩ (.int .i64 (b.tdiv d))) q5 ⟨some ⟨g, 0, none⟩, c', a, b.tdiv d, s⟩ from HQ.out.putb _)
            have G3 := Lib.hid (GA.out.grown (⟨rfl, rfl, rfl, by simp, fun k _ hk => heap_setCell_other wr ⟨q5, 1, none⟩ k (.int .i64 (b.tdiv d)) (fun e => hk (by rw [e]))⟩ : wr.grownBy (wr.setCell ⟨q5, 1, none⟩ (.int .i64 (b.tdiv d))) (some q5)) HZ.out.1)
            have B3 := Lib.hid (HB.out.setCell (p := ⟨q5, 1, none⟩) HZ.out.2.1 (.int .i64 (b.tdiv d)))
            have CSE := Lib.hid (show (AV.mk (some ⟨g, 0, none⟩) c' a (b.tdiv d) s).cs = (AV.mk (some ⟨g, 0, none⟩) c' X.a X.b X.s).cs by rw [HX0.out]; simp [AV.cs, AV.cells])
            have K3 := Lib.hid (show BkV (wr.setCell ⟨q5, 1, none⟩ (.int .i64 (b.tdiv d))) (w.heap.size + 1) av0 from K1.out.kept B3.out)
            clear HQ HG HB MA GA
            go_upto_region 14 with (fail)
            clear f0 f1 f2 f3 hw
            generalize wr.setCell ⟨q5, 1, none⟩ (.int .i64 (b.tdiv d)) = w4 at *
            have G4 := Lib.hid (G3.out.grown (grown_row w4 (w.heap.size + 1) (AV.mk (some ⟨g, 0, none⟩) c' a (b.tdiv d) s).cs) (Ne.symm NQ.out.2))
            have BW := Lib.hid (Below.setRow (below_on E0.out B3.out) (b := w.heap.size + 1) (by omega) (AV.mk (some ⟨g, 0, none⟩) c' a (b.tdiv d) s).cs)
            have KF := Lib.hid (K3.out.setRow (z := AV.mk (some ⟨g, 0, none⟩) c' a (b.tdiv d) s))
            go_wp2_with (first | refine wpl_loadV rfl _ rfl _ rfl (AV.mk (some ⟨g, 0, none⟩) c' a (b.tdiv d) s) Q3.out.avAt ?_ | refine wpl_storeV rfl _ _ rfl _ (AV.mk (some ⟨g, 0, none⟩) c' a (b.tdiv d) s) rfl rfl _ K3.out ?_)
            refine bodyPost_ret (results_av Tryz.results107 _ rfl KF.out) rfl ⟨g, c', by rw [CSE.out], by rw [HX0.out]; exact G4.out, BW.out⟩
end Go.Proofs.YtbhaoaobhgilkaaGreat
