/- The contract of sum of layer 7's reference. -/
import Derived.Test.YtbhaoaobhgilkaaGreatWm3
import Derived.Test.YtbhaoaobhgilkaaGreatWm27
import Derived.Test.YtbhaoaobhgilkaaGreatWm20

namespace Go.Proofs.YtbhaoaobhgilkaaGreat
open Go.RowKit Go.Sort Go.Shelf

def combR (a : Int) (x : Ln) (b : Int) (y : Ln) : Ln := ⟨List.zipWith (fun u v => a * u + b * v) x.a y.a, a * x.b + b * y.b, x.s || y.s⟩

def combN (t : Nat) (a : Int) (x : List Int) (b : Int) (y : List Int) : List Int := (List.zipWith (fun u v => a * u + b * v) (x.take t) (y.take t)) ++ List.replicate (x.length - t) 0

theorem combN_len {t : Nat} {a b : Int} {x y : List Int} (h : y.length = x.length) (ht : t ≤ x.length) : (combN t a x b y).length = x.length := by simp [combN]; omega

theorem combN_step {t : Nat} {a b : Int} {x y : List Int} (h : y.length = x.length) (ht : t < x.length) : (combN t a x b y).set t (a * gA x t + b * gA y t) = combN (t + 1) a x b y := by
  unfold combN
  have hl : (List.zipWith (fun u v => a * u + b * v) (x.take t) (y.take t)).length = t := by simp; omega
  rw [List.set_append_right _ _ (by omega), hl, Nat.sub_self, show x.length - t = (x.length - (t + 1)) + 1 by omega, List.replicate_succ, List.set_cons_zero,
    List.take_succ_eq_append_getElem ht, List.take_succ_eq_append_getElem (show t < y.length by omega), List.zipWith_append (by simp; omega)]
  simp [gA, ht, show t < y.length by omega]

theorem combN_all {a b : Int} {x y : List Int} (h : y.length = x.length) : combN x.length a x b y = List.zipWith (fun u v => a * u + b * v) x y := by
  unfold combN; rw [List.take_length, ← h, List.take_length]; simp [h]

theorem comb_bd {a b u v : Int} (ha : -2147483647 ≤ a ∧ a ≤ 2147483647) (hb : -2147483647 ≤ b ∧ b ≤ 2147483647) (hu : -2147483647 ≤ u ∧ u ≤ 2147483647) (hv : -2147483647 ≤ v ∧ v ≤ 2147483647) :
    (IntKind.i64.wrap (a * u) = a * u ∧ IntKind.i64.wrap (b * v) = b * v) ∧ IntKind.i64.wrap (a * u + b * v) = a * u + b * v ∧ A63 (a * u + b * v) := by
  have h1 := mul_in ha hu (by omega) (by omega)
  have h2 := mul_in hb hv (by omega) (by omega)
  unfold A63
  exact ⟨⟨wrap_in _ (by omega) (by omega), wrap_in _ (by omega) (by omega)⟩, wrap_in _ (by omega) (by omega), by omega⟩

theorem make_ints0 (w : World) (n : Nat) (hn : n ≤ 1000) : (Instr.makeSlice 23 (.int .i64 n) (.int .i64 n)).run Tryz.prog w = .ok (.slice (some ⟨w.heap.size, 0, none⟩) n n) (w.alloc (.cells (List.replicate n (Value.int .i64 0)).toArray 2)) := by
  obtain ⟨i0, hi, hz0, hz1, hz2⟩ := info_parts i64_info
  have hr := run_make (P := Tryz.prog) w 23 2 i0 _ Tryz.underlying23 hi hz0 .i64 .i64 (n : Int) (n : Int) (by omega) (by omega) (by rw [hz2]; omega) (by omega)
  have e : madeCells (Value.int .i64 0).cells ((n : Int).toNat * i0.size) = (List.replicate n (Value.int .i64 0)).toArray := by
    apply Array.toList_inj.1
    rw [hz1]
    simp only [Int.toNat_natCast, Nat.mul_one]
    rw [show (Value.int .i64 0).cells = #[Value.int .i64 0] from rfl, toList_madeCells_one]
  rw [e] at hr
  simpa using hr

theorem own_zeros (w : World) (n B : Nat) (hB : B ≤ w.heap.size) (hn : n ≤ 1000) : OwnI (w.alloc (.cells (List.replicate n (Value.int .i64 0)).toArray 2)) B w.heap.size n (List.replicate n 0) :=
  ⟨by simp, .inr ⟨w.heap.size, n, _, by simp, hB, heap_alloc_last w _, by simp, by unfold maxLen; omega, by simp, by simp⟩⟩

def FitV (n : Nat) (y : AV) : Prop := y.a.length = n ∧ (∀ v ∈ y.a, -2147483647 ≤ v ∧ v ≤ 2147483647) ∧ (-2147483647 ≤ y.b ∧ y.b ≤ 2147483647)

set_option maxRecDepth 100000 in
set_option maxHeartbeats 4000000 in
theorem rsum_any (a b : Int) (x y : AV) (n i : Nat) (w : World) (hn : n ≤ 100) (hi : i < n) (hx : FitV n x) (hy : FitV n y) (ha : -2147483647 ≤ a ∧ a ≤ 2147483647) (hb : -2147483647 ≤ b ∧ b ≤ 2147483647) (hR : Rd1 w x.q x.a) (hS : Rd1 w y.q y.a) :
    Calls Tryz.prog 93 #[.int .i64 a, .agg x.cs, .int .i64 b, .agg y.cs, .int .i64 i] w (VRes w (shR i (combR a (lnV x) b (lnV y))).lowR) := by
  obtain ⟨w0, hw0⟩ : ∃ w0, w0 = ((w.alloc (.cells x.cs 25)).alloc (.cells y.cs 25)).alloc (.cells #[.slice none 0 0, .int .i64 0, .bool false] 25) := ⟨_, rfl⟩
  have E0 := Lib.hid (show Below w.heap.size w w0 by rw [hw0]; exact past_three (Below.refl _ _))
  have K0 := Lib.hid (show BkV w0 w.heap.size x by rw [hw0]; exact ((BkV.made w x).kept (one_more _)).kept (one_more _))
  have K1 := Lib.hid (show BkV w0 (w.heap.size + 1) y by rw [hw0]; have := (BkV.made (w.alloc (.cells x.cs 25)) y).kept (one_more (.cells #[.slice none 0 0, .int .i64 0, .bool false] 25)); simpa using this)
  have K2 := Lib.hid (show BkV w0 (w.heap.size + 2) av0 by rw [hw0]; have := BkV.made ((w.alloc (.cells x.cs 25)).alloc (.cells y.cs 25)) av0; simpa [av0, AV.cs, AV.cells] using this)
  have R0 := Lib.hid (hR.on E0.out)
  have S0 := Lib.hid (hS.on E0.out)
  obtain ⟨q1, c1, xa, xb, xs⟩ := x
  obtain ⟨q2, c2, ya, yb, ys⟩ := y
  obtain ⟨x1, x2, x3⟩ := hx
  obtain ⟨y1, y2, y3⟩ := hy
  simp only at x1 x2 x3 y1 y2 y3 R0 S0
  obtain ⟨f0, f1, f2⟩ := K0.out.facts
  obtain ⟨g0, g1, g2⟩ := K1.out.facts
  simp only at f0 f1 f2 g0 g1 g2
  rw [x1] at f0
  rw [y1] at g0
  have XL := Lib.hid x1
  have YL := Lib.hid y1
  have XA := Lib.hid x2
  have YA := Lib.hid y2
  have F0 := Lib.hid f0
  have F1 := Lib.hid f1
  have F2 := Lib.hid f2
  have G0 := Lib.hid g0
  have G1 := Lib.hid g1
  have G2 := Lib.hid g2
  have AB := Lib.hid (And.intro ha hb)
  have N1 := Lib.hid (And.intro hn hi)
  have CB := Lib.hid (comb_bd ha hb x3 y3)
  obtain ⟨⟨m1, m2⟩, m3, _⟩ := comb_bd ha hb x3 y3
  have MK := Lib.hid (fun W => make_ints0 W n (by omega))
  obtain ⟨sb, hsb⟩ : ∃ sb, sb = a * xb + b * yb := ⟨_, rfl⟩
  have SBB := Lib.hid hsb
  have SWW := Lib.hid (show IntKind.i64.wrap (a * xb + b * yb) = sb by rw [hsb]; exact m3)
  rw [← hsb] at m3
  obtain ⟨ss, hss⟩ : ∃ ss, ss = (xs || ys) := ⟨_, rfl⟩
  have SSS := Lib.hid hss
  have nn : n ≤ 100 := hn
  have XCR := Lib.hid (show combR a (lnV ⟨q1, c1, xa, xb, xs⟩) b (lnV ⟨q2, c2, ya, yb, ys⟩) = ⟨combN n a xa b ya, sb, ss⟩ by
    rw [hsb, hss]; unfold combR lnV; simp only; rw [← combN_all (by rw [x1, y1]), x1])
  generalize combR a (lnV ⟨q1, c1, xa, xb, xs⟩) b (lnV ⟨q2, c2, ya, yb, ys⟩) = CR at *
  clear hR hS x1 x2 x3 y1 y2 y3 ha hb hn hi hsb hss
  go_enter Tryz.func93, Tryz.ntmps93
  go_upto_region 1 with (fail)
  rw [← hw0]
  clear hw0 f0 f1 f2 g0 g1 g2
  go_cut [11] (fun s11 wx => ∃ q5 g, s11 = .pointer (some ⟨q5, 0, none⟩) ∧ Hid (BkV wx q5 ⟨some ⟨g, 0, none⟩, n, List.replicate n 0, sb, ss⟩) ∧ Hid (OwnI wx w.heap.size g n (List.replicate n 0)) ∧ Hid (g ≠ q5 ∧ w0.heap.size ≤ q5 ∧ w0.heap.size ≤ g) ∧ Hid (Below w0.heap.size w0 wx))
  case first =>
    cases xs
    · have KS := Lib.hid (show ∀ W, Below w0.heap.size w0 W → (W.cell? ⟨w.heap.size, 0, none⟩ = some (.slice q1 n c1) ∧ W.cell? ⟨w.heap.size, 1, none⟩ = some (.int .i64 xb) ∧ W.cell? ⟨w.heap.size, 2, none⟩ = some (.bool false) ∧ W.cell? ⟨w.heap.size + 1, 1, none⟩ = some (.int .i64 yb) ∧ W.cell? ⟨w.heap.size + 1, 2, none⟩ = some (.bool ys)) from fun W h => ⟨kept h F0.out, kept h F1.out, kept h F2.out, kept h G1.out, kept h G2.out⟩)
      obtain ⟨wc, hwc⟩ : ∃ wc, wc = w0.drew := ⟨_, rfl⟩
      have Bc := Lib.hid (show Below w0.heap.size w0 wc by rw [hwc]; exact (Below.refl _ _).drew)
      refine wp_region_held_drew (S := (fun W => (W.cell? ⟨w.heap.size, 0, none⟩ = some (.slice q1 n c1) ∧ W.cell? ⟨w.heap.size, 1, none⟩ = some (.int .i64 xb) ∧ W.cell? ⟨w.heap.size, 2, none⟩ = some (.bool false) ∧ W.cell? ⟨w.heap.size + 1, 1, none⟩ = some (.int .i64 yb) ∧ W.cell? ⟨w.heap.size + 1, 2, none⟩ = some (.bool ys)))) (by kernel_rfl) (by rw [← hwc]; exact KS.out _ Bc.out) (fun h0 => ?_)
      rw [← hwc] at h0 ⊢
      clear hwc
      refine tkH (i := 0) (v := ?v1) rfl (Or.inl ⟨by rfl, ?hy1⟩) h0 ?rest1
      case hy1 => (intro w' hS; (try dsimp only at hS); go_simp; try (with_reducible rfl))
      simp only [Act.put, sA, sB, sD, sE, sF]
      refine tkH (i := 1) (v := ?v2) rfl (Or.inl ⟨by rfl, ?hy2⟩) h0 ?rest2
      case hy2 => (intro w' hS; (try dsimp only at hS); go_simp; try (with_reducible rfl))
      simp only [Act.put, sZ]
      refine tkH (i := 2) (v := ?v3) rfl (Or.inl ⟨by rfl, ?hy3⟩) h0 ?rest3
      case hy3 => (intro w' hS; (try dsimp only at hS); go_simp; try (with_reducible rfl))
      simp only [Act.put, sZ]
      refine tkH (i := 4) (v := ?v4) rfl (Or.inl ⟨by rfl, ?hy4⟩) h0 ?rest4
      case hy4 => (intro w' hS; (try dsimp only at hS); go_simp; try (with_reducible rfl))
      simp only [Act.put, sZ]
      refine tkH (i := 5) (v := ?v5) rfl (Or.inl ⟨by rfl, ?hy5⟩) h0 ?rest5
      case hy5 => (intro w' hS; (try dsimp only at hS); go_simp; try (with_reducible rfl))
      simp only [Act.put, sZ]
      refine tkH (i := 6) (v := ?v6) rfl (Or.inl ⟨by rfl, ?hy6⟩) h0 ?rest6
      case hy6 => (intro w' hS; (try dsimp only at hS); go_simp; try (with_reducible rfl))
      simp only [Act.put, sZ]
      refine tkH (i := 7) (v := ?v7) rfl (Or.inl ⟨by rfl, ?hy7⟩) h0 ?rest7
      case hy7 => (intro w' hS; (try dsimp only at hS); go_simp; try (with_reducible rfl))
      simp only [Act.put, sZ]
      refine tkH (i := 8) (v := ?v8) rfl (Or.inl ⟨by rfl, ?hy8⟩) h0 ?rest8
      case hy8 => (intro w' hS; (try dsimp only at hS); go_simp; try (with_reducible rfl))
      simp only [Act.put, sZ]
      refine tkH (i := 9) (v := ?v9) rfl (Or.inl ⟨by rfl, ?hy9⟩) h0 ?rest9
      case hy9 => (intro w' hS; (try dsimp only at hS); go_simp; try (with_reducible rfl))
      simp only [Act.put, sZ]
      refine tkH (i := 10) (v := ?v10) rfl (Or.inl ⟨by rfl, ?hy10⟩) h0 ?rest10
      case hy10 => (intro w' hS; (try dsimp only at hS); go_simp; try (with_reducible rfl))
      simp only [Act.put, sZ]
      refine tkH (i := 11) (v := ?v11) rfl (Or.inl ⟨by rfl, ?hy11⟩) h0 ?rest11
      case hy11 => (intro w' hS; (try dsimp only at hS); go_simp; try (with_reducible rfl))
      simp only [Act.put, sZ]
      refine tkH (i := 12) (v := ?v12) rfl (Or.inl ⟨by rfl, ?hy12⟩) h0 ?rest12
      case hy12 => (intro w' hS; (try dsimp only at hS); go_simp; try (with_reducible rfl))
      simp only [Act.put, sZ]
      refine tkH (i := 13) (v := ?v13) rfl (Or.inl ⟨by rfl, ?hy13⟩) h0 ?rest13
      case hy13 => (intro w' hS; (try dsimp only at hS); go_simp; try (with_reducible rfl))
      simp only [Act.put, sZ]
      refine tkH (i := 14) (v := ?v14) rfl (Or.inl ⟨by rfl, ?hy14⟩) h0 ?rest14
      case hy14 => (intro w' hS; (try dsimp only at hS); go_simp; try (with_reducible rfl))
      simp only [Act.put, sZ]
      refine tkH (i := 15) (v := ?v15) rfl (Or.inl ⟨by rfl, ?hy15⟩) h0 ?rest15
      case hy15 => (intro w' hS; (try dsimp only at hS); go_simp; try (with_reducible rfl))
      simp only [Act.put, sZ]
      refine tkH (i := 16) (v := ?v16) rfl (Or.inl ⟨by rfl, ?hy16⟩) h0 ?rest16
      case hy16 => (intro w' hS; (try dsimp only at hS); go_simp; try (with_reducible rfl))
      simp only [Act.put, sZ]
      refine tkH (i := 17) (v := ?v17) rfl (Or.inl ⟨by rfl, ?hy17⟩) h0 ?rest17
      case hy17 => (intro w' hS; (try dsimp only at hS); go_simp; try (with_reducible rfl))
      simp only [Act.put, sZ]
      refine tkH (i := 18) (v := ?v18) rfl (Or.inl ⟨by rfl, ?hy18⟩) h0 ?rest18
      case hy18 => (intro w' hS; (try dsimp only at hS); go_simp; try (with_reducible rfl))
      simp only [Act.put, sZ]
      refine wpAnyH_ready (rs := [3, 20]) (by kernel_rfl) (by simp) (AllReadyH.cons rfl (fun K hK => ?_) (AllReadyH.cons rfl (fun K hK => ?_) AllReadyH.nil))
      · rw [if_pos (by rfl)]
        go_simp
        rw [MK.out]
        have hb := one_more (w1 := wc) (.cells (List.replicate n (Value.int .i64 0)).toArray 2)
        have hP := own_zeros wc n w.heap.size (Nat.le_trans E0.out.size Bc.out.size) (by omega)
        have hz := Bc.out.size
        obtain ⟨g, hbb⟩ : ∃ g, g = wc.heap.size := ⟨_, rfl⟩
        rw [← hbb] at hP hz
        obtain ⟨wn, hwn⟩ : ∃ wn, wn = wc.alloc (.cells (List.replicate n (Value.int .i64 0)).toArray 2) := ⟨_, rfl⟩
        rw [← hwn] at hb hP ⊢
        try rw [← hbb]
        try (have NG := Lib.hid (show g ≠ q5 by have := P5.out.lt; omega))
        try (have P5 := Lib.hid (P5.out.kept hb))
        have Bc := Lib.hid (below_on Bc.out hb)
        have PI := Lib.hid hP
        have ZI := Lib.hid hz
        clear hb hP hz hbb hwn
        obtain ⟨wc, hwc⟩ : ∃ wc, wc = wn := ⟨_, rfl⟩
        rw [← hwc] at Bc PI ⊢
        try rw [← hwc] at P5
        clear hwc
        go_simp
        refine hK.out _ _ (KS.out _ Bc.out) (fun h0_1 => ?_)
        clear hK K h0
        refine tkH (i := 19) (v := ?v19) rfl (Or.inl ⟨by rfl, ?hy19⟩) h0_1 ?rest19
        case hy19 => (intro w' hS; (try dsimp only at hS); go_simp; try (with_reducible rfl))
        simp only [Act.put, sZ]
        refine wpAnyH_ready (rs := [20]) (by kernel_rfl) (by simp) (AllReadyH.cons rfl (fun K hK => ?_) AllReadyH.nil)
        rw [if_pos (by rfl)]
        go_simp
        have hb := one_more (w1 := wc) (.cells #[.slice none 0 0, .int .i64 0, .bool false] 25)
        have hP := (show BkV (wc.alloc (.cells #[.slice none 0 0, .int .i64 0, .bool false] 25)) wc.heap.size av0 from BkV.made wc av0)
        have hz := Bc.out.size
        obtain ⟨q5, hbb⟩ : ∃ q5, q5 = wc.heap.size := ⟨_, rfl⟩
        rw [← hbb] at hP hz
        obtain ⟨wn, hwn⟩ : ∃ wn, wn = wc.alloc (.cells #[.slice none 0 0, .int .i64 0, .bool false] 25) := ⟨_, rfl⟩
        rw [← hwn] at hb hP ⊢
        try rw [← hbb]
        try (have NG := Lib.hid (show g ≠ q5 by have := PI.out.lt; omega))
        try (have PI := Lib.hid (PI.out.on hb))
        have Bc := Lib.hid (below_on Bc.out hb)
        have P5 := Lib.hid hP
        have Z5 := Lib.hid hz
        clear hb hP hz hbb hwn
        obtain ⟨wc, hwc⟩ : ∃ wc, wc = wn := ⟨_, rfl⟩
        rw [← hwc] at Bc P5 ⊢
        try rw [← hwc] at PI
        clear hwc
        go_simp
        refine hK.out _ _ (KS.out _ Bc.out) (fun h0_2 => ?_)
        clear hK K h0_1
        refine wpAnyH_ready (rs := [21]) (by kernel_rfl) (by simp) (AllReadyH.cons rfl (fun K hK => ?_) AllReadyH.nil)
        rw [if_pos (by rfl)]
        refine wp_storeV _ _ rfl q5 ⟨some ⟨g, 0, none⟩, n, List.replicate n 0, sb, ss⟩ rfl (by simp [AV.cs, AV.cells, Act.eval, SSS.out]; exact SWW.out) _ P5.out ?_
        refine hK.out _ _ (KS.out _ (Below.setRow Bc.out Z5.out _)) (fun h0_3 => ?_)
        clear hK K h0_2
        try simp only [sF]
        try simp only [sE]
        refine wpAnyH_done (by kernel_rfl) ?_ _
        have PE := P5.out.setRow (z := ⟨some ⟨g, 0, none⟩, n, List.replicate n 0, sb, ss⟩)
        have BE := Below.setRow Bc.out Z5.out (AV.mk (some ⟨g, 0, none⟩) n (List.replicate n 0) sb ss).cs
        have GE := PI.out.grown (grown_row wc q5 (AV.mk (some ⟨g, 0, none⟩) n (List.replicate n 0) sb ss).cs) NG.out
        go_wp2_with fail
        go_meet
        case rel => exact ⟨q5, g, rfl, Lib.hid PE, Lib.hid GE, Lib.hid ⟨NG.out, Z5.out, ZI.out⟩, Lib.hid BE⟩
      · rw [if_pos (by rfl)]
        go_simp
        have hb := one_more (w1 := wc) (.cells #[.slice none 0 0, .int .i64 0, .bool false] 25)
        have hP := (show BkV (wc.alloc (.cells #[.slice none 0 0, .int .i64 0, .bool false] 25)) wc.heap.size av0 from BkV.made wc av0)
        have hz := Bc.out.size
        obtain ⟨q5, hbb⟩ : ∃ q5, q5 = wc.heap.size := ⟨_, rfl⟩
        rw [← hbb] at hP hz
        obtain ⟨wn, hwn⟩ : ∃ wn, wn = wc.alloc (.cells #[.slice none 0 0, .int .i64 0, .bool false] 25) := ⟨_, rfl⟩
        rw [← hwn] at hb hP ⊢
        try rw [← hbb]
        try (have NG := Lib.hid (show g ≠ q5 by have := PI.out.lt; omega))
        try (have PI := Lib.hid (PI.out.on hb))
        have Bc := Lib.hid (below_on Bc.out hb)
        have P5 := Lib.hid hP
        have Z5 := Lib.hid hz
        clear hb hP hz hbb hwn
        obtain ⟨wc, hwc⟩ : ∃ wc, wc = wn := ⟨_, rfl⟩
        rw [← hwc] at Bc P5 ⊢
        try rw [← hwc] at PI
        clear hwc
        go_simp
        refine hK.out _ _ (KS.out _ Bc.out) (fun h0_1 => ?_)
        clear hK K h0
        refine wpAnyH_ready (rs := [3]) (by kernel_rfl) (by simp) (AllReadyH.cons rfl (fun K hK => ?_) AllReadyH.nil)
        rw [if_pos (by rfl)]
        go_simp
        rw [MK.out]
        have hb := one_more (w1 := wc) (.cells (List.replicate n (Value.int .i64 0)).toArray 2)
        have hP := own_zeros wc n w.heap.size (Nat.le_trans E0.out.size Bc.out.size) (by omega)
        have hz := Bc.out.size
        obtain ⟨g, hbb⟩ : ∃ g, g = wc.heap.size := ⟨_, rfl⟩
        rw [← hbb] at hP hz
        obtain ⟨wn, hwn⟩ : ∃ wn, wn = wc.alloc (.cells (List.replicate n (Value.int .i64 0)).toArray 2) := ⟨_, rfl⟩
        rw [← hwn] at hb hP ⊢
        try rw [← hbb]
        try (have NG := Lib.hid (show g ≠ q5 by have := P5.out.lt; omega))
        try (have P5 := Lib.hid (P5.out.kept hb))
        have Bc := Lib.hid (below_on Bc.out hb)
        have PI := Lib.hid hP
        have ZI := Lib.hid hz
        clear hb hP hz hbb hwn
        obtain ⟨wc, hwc⟩ : ∃ wc, wc = wn := ⟨_, rfl⟩
        rw [← hwc] at Bc PI ⊢
        try rw [← hwc] at P5
        clear hwc
        go_simp
        refine hK.out _ _ (KS.out _ Bc.out) (fun h0_4 => ?_)
        clear hK K h0_1
        refine tkH (i := 19) (v := ?v20) rfl (Or.inl ⟨by rfl, ?hy20⟩) h0_4 ?rest20
        case hy20 => (intro w' hS; (try dsimp only at hS); go_simp; try (with_reducible rfl))
        simp only [Act.put, sZ]
        refine wpAnyH_ready (rs := [21]) (by kernel_rfl) (by simp) (AllReadyH.cons rfl (fun K hK => ?_) AllReadyH.nil)
        rw [if_pos (by rfl)]
        refine wp_storeV _ _ rfl q5 ⟨some ⟨g, 0, none⟩, n, List.replicate n 0, sb, ss⟩ rfl (by simp [AV.cs, AV.cells, Act.eval, SSS.out]; exact SWW.out) _ P5.out ?_
        refine hK.out _ _ (KS.out _ (Below.setRow Bc.out Z5.out _)) (fun h0_5 => ?_)
        clear hK K h0_4
        try simp only [sF]
        try simp only [sE]
        refine wpAnyH_done (by kernel_rfl) ?_ _
        have PE := P5.out.setRow (z := ⟨some ⟨g, 0, none⟩, n, List.replicate n 0, sb, ss⟩)
        have BE := Below.setRow Bc.out Z5.out (AV.mk (some ⟨g, 0, none⟩) n (List.replicate n 0) sb ss).cs
        have GE := PI.out.grown (grown_row wc q5 (AV.mk (some ⟨g, 0, none⟩) n (List.replicate n 0) sb ss).cs) NG.out
        go_wp2_with fail
        go_meet
        case rel => exact ⟨q5, g, rfl, Lib.hid PE, Lib.hid GE, Lib.hid ⟨NG.out, Z5.out, ZI.out⟩, Lib.hid BE⟩
    · have KS := Lib.hid (show ∀ W, Below w0.heap.size w0 W → (W.cell? ⟨w.heap.size, 0, none⟩ = some (.slice q1 n c1) ∧ W.cell? ⟨w.heap.size, 1, none⟩ = some (.int .i64 xb) ∧ W.cell? ⟨w.heap.size, 2, none⟩ = some (.bool true) ∧ W.cell? ⟨w.heap.size + 1, 1, none⟩ = some (.int .i64 yb) ∧ W.cell? ⟨w.heap.size + 1, 2, none⟩ = some (.bool ys)) from fun W h => ⟨kept h F0.out, kept h F1.out, kept h F2.out, kept h G1.out, kept h G2.out⟩)
      obtain ⟨wc, hwc⟩ : ∃ wc, wc = w0.drew := ⟨_, rfl⟩
      have Bc := Lib.hid (show Below w0.heap.size w0 wc by rw [hwc]; exact (Below.refl _ _).drew)
      refine wp_region_held_drew (S := (fun W => (W.cell? ⟨w.heap.size, 0, none⟩ = some (.slice q1 n c1) ∧ W.cell? ⟨w.heap.size, 1, none⟩ = some (.int .i64 xb) ∧ W.cell? ⟨w.heap.size, 2, none⟩ = some (.bool true) ∧ W.cell? ⟨w.heap.size + 1, 1, none⟩ = some (.int .i64 yb) ∧ W.cell? ⟨w.heap.size + 1, 2, none⟩ = some (.bool ys)))) (by kernel_rfl) (by rw [← hwc]; exact KS.out _ Bc.out) (fun h0 => ?_)
      rw [← hwc] at h0 ⊢
      clear hwc
      refine tkH (i := 0) (v := ?v21) rfl (Or.inl ⟨by rfl, ?hy21⟩) h0 ?rest21
      case hy21 => (intro w' hS; (try dsimp only at hS); go_simp; try (with_reducible rfl))
      simp only [Act.put, sA, sB, sD, sE, sF]
      refine tkH (i := 1) (v := ?v22) rfl (Or.inl ⟨by rfl, ?hy22⟩) h0 ?rest22
      case hy22 => (intro w' hS; (try dsimp only at hS); go_simp; try (with_reducible rfl))
      simp only [Act.put, sZ]
      refine tkH (i := 2) (v := ?v23) rfl (Or.inl ⟨by rfl, ?hy23⟩) h0 ?rest23
      case hy23 => (intro w' hS; (try dsimp only at hS); go_simp; try (with_reducible rfl))
      simp only [Act.put, sZ]
      refine tkH (i := 4) (v := ?v24) rfl (Or.inl ⟨by rfl, ?hy24⟩) h0 ?rest24
      case hy24 => (intro w' hS; (try dsimp only at hS); go_simp; try (with_reducible rfl))
      simp only [Act.put, sZ]
      refine tkH (i := 5) (v := ?v25) rfl (Or.inl ⟨by rfl, ?hy25⟩) h0 ?rest25
      case hy25 => (intro w' hS; (try dsimp only at hS); go_simp; try (with_reducible rfl))
      simp only [Act.put, sZ]
      refine tkH (i := 6) (v := ?v26) rfl (Or.inl ⟨by rfl, ?hy26⟩) h0 ?rest26
      case hy26 => (intro w' hS; (try dsimp only at hS); go_simp; try (with_reducible rfl))
      simp only [Act.put, sZ]
      refine tkH (i := 7) (v := ?v27) rfl (Or.inl ⟨by rfl, ?hy27⟩) h0 ?rest27
      case hy27 => (intro w' hS; (try dsimp only at hS); go_simp; try (with_reducible rfl))
      simp only [Act.put, sZ]
      refine tkH (i := 8) (v := ?v28) rfl (Or.inl ⟨by rfl, ?hy28⟩) h0 ?rest28
      case hy28 => (intro w' hS; (try dsimp only at hS); go_simp; try (with_reducible rfl))
      simp only [Act.put, sZ]
      refine tkH (i := 9) (v := ?v29) rfl (Or.inl ⟨by rfl, ?hy29⟩) h0 ?rest29
      case hy29 => (intro w' hS; (try dsimp only at hS); go_simp; try (with_reducible rfl))
      simp only [Act.put, sZ]
      refine tkH (i := 10) (v := ?v30) rfl (Or.inl ⟨by rfl, ?hy30⟩) h0 ?rest30
      case hy30 => (intro w' hS; (try dsimp only at hS); go_simp; try (with_reducible rfl))
      simp only [Act.put, sZ]
      refine tkH (i := 11) (v := ?v31) rfl (Or.inl ⟨by rfl, ?hy31⟩) h0 ?rest31
      case hy31 => (intro w' hS; (try dsimp only at hS); go_simp; try (with_reducible rfl))
      simp only [Act.put, sZ]
      refine tkH (i := 12) (v := ?v32) rfl (Or.inl ⟨by rfl, ?hy32⟩) h0 ?rest32
      case hy32 => (intro w' hS; (try dsimp only at hS); go_simp; try (with_reducible rfl))
      simp only [Act.put, sZ]
      refine tkH (i := 13) (v := ?v33) rfl (Or.inl ⟨by rfl, ?hy33⟩) h0 ?rest33
      case hy33 => (intro w' hS; (try dsimp only at hS); go_simp; try (with_reducible rfl))
      simp only [Act.put, sZ]
      refine tkH (i := 14) (v := ?v34) rfl (Or.inl ⟨by rfl, ?hy34⟩) h0 ?rest34
      case hy34 => (intro w' hS; (try dsimp only at hS); go_simp; try (with_reducible rfl))
      simp only [Act.put, sZ]
      refine tkH (i := 15) (v := ?v35) rfl (Or.inl ⟨by rfl, ?hy35⟩) h0 ?rest35
      case hy35 => (intro w' hS; (try dsimp only at hS); go_simp; try (with_reducible rfl))
      simp only [Act.put, sZ]
      refine tkH (i := 16) (v := undef) rfl (Or.inr ⟨by rfl, rfl⟩) h0 ?_
      simp only [Act.put, sZ]
      refine tkH (i := 17) (v := undef) rfl (Or.inr ⟨by rfl, rfl⟩) h0 ?_
      simp only [Act.put, sZ]
      refine tkH (i := 18) (v := ?v38) rfl (Or.inl ⟨by rfl, ?hy38⟩) h0 ?rest38
      case hy38 => (intro w' hS; (try dsimp only at hS); go_simp; try (with_reducible rfl))
      simp only [Act.put, sZ]
      refine wpAnyH_ready (rs := [3, 20]) (by kernel_rfl) (by simp) (AllReadyH.cons rfl (fun K hK => ?_) (AllReadyH.cons rfl (fun K hK => ?_) AllReadyH.nil))
      · rw [if_pos (by rfl)]
        go_simp
        rw [MK.out]
        have hb := one_more (w1 := wc) (.cells (List.replicate n (Value.int .i64 0)).toArray 2)
        have hP := own_zeros wc n w.heap.size (Nat.le_trans E0.out.size Bc.out.size) (by omega)
        have hz := Bc.out.size
        obtain ⟨g, hbb⟩ : ∃ g, g = wc.heap.size := ⟨_, rfl⟩
        rw [← hbb] at hP hz
        obtain ⟨wn, hwn⟩ : ∃ wn, wn = wc.alloc (.cells (List.replicate n (Value.int .i64 0)).toArray 2) := ⟨_, rfl⟩
        rw [← hwn] at hb hP ⊢
        try rw [← hbb]
        try (have NG := Lib.hid (show g ≠ q5 by have := P5.out.lt; omega))
        try (have P5 := Lib.hid (P5.out.kept hb))
        have Bc := Lib.hid (below_on Bc.out hb)
        have PI := Lib.hid hP
        have ZI := Lib.hid hz
        clear hb hP hz hbb hwn
        obtain ⟨wc, hwc⟩ : ∃ wc, wc = wn := ⟨_, rfl⟩
        rw [← hwc] at Bc PI ⊢
        try rw [← hwc] at P5
        clear hwc
        go_simp
        refine hK.out _ _ (KS.out _ Bc.out) (fun h0_1 => ?_)
        clear hK K h0
        refine tkH (i := 19) (v := ?v39) rfl (Or.inl ⟨by rfl, ?hy39⟩) h0_1 ?rest39
        case hy39 => (intro w' hS; (try dsimp only at hS); go_simp; try (with_reducible rfl))
        simp only [Act.put, sZ]
        refine wpAnyH_ready (rs := [20]) (by kernel_rfl) (by simp) (AllReadyH.cons rfl (fun K hK => ?_) AllReadyH.nil)
        rw [if_pos (by rfl)]
        go_simp
        have hb := one_more (w1 := wc) (.cells #[.slice none 0 0, .int .i64 0, .bool false] 25)
        have hP := (show BkV (wc.alloc (.cells #[.slice none 0 0, .int .i64 0, .bool false] 25)) wc.heap.size av0 from BkV.made wc av0)
        have hz := Bc.out.size
        obtain ⟨q5, hbb⟩ : ∃ q5, q5 = wc.heap.size := ⟨_, rfl⟩
        rw [← hbb] at hP hz
        obtain ⟨wn, hwn⟩ : ∃ wn, wn = wc.alloc (.cells #[.slice none 0 0, .int .i64 0, .bool false] 25) := ⟨_, rfl⟩
        rw [← hwn] at hb hP ⊢
        try rw [← hbb]
        try (have NG := Lib.hid (show g ≠ q5 by have := PI.out.lt; omega))
        try (have PI := Lib.hid (PI.out.on hb))
        have Bc := Lib.hid (below_on Bc.out hb)
        have P5 := Lib.hid hP
        have Z5 := Lib.hid hz
        clear hb hP hz hbb hwn
        obtain ⟨wc, hwc⟩ : ∃ wc, wc = wn := ⟨_, rfl⟩
        rw [← hwc] at Bc P5 ⊢
        try rw [← hwc] at PI
        clear hwc
        go_simp
        refine hK.out _ _ (KS.out _ Bc.out) (fun h0_2 => ?_)
        clear hK K h0_1
        refine wpAnyH_ready (rs := [21]) (by kernel_rfl) (by simp) (AllReadyH.cons rfl (fun K hK => ?_) AllReadyH.nil)
        rw [if_pos (by rfl)]
        refine wp_storeV _ _ rfl q5 ⟨some ⟨g, 0, none⟩, n, List.replicate n 0, sb, ss⟩ rfl (by simp [AV.cs, AV.cells, Act.eval, SSS.out]; exact SWW.out) _ P5.out ?_
        refine hK.out _ _ (KS.out _ (Below.setRow Bc.out Z5.out _)) (fun h0_3 => ?_)
        clear hK K h0_2
        try simp only [sF]
        try simp only [sE]
        refine wpAnyH_done (by kernel_rfl) ?_ _
        have PE := P5.out.setRow (z := ⟨some ⟨g, 0, none⟩, n, List.replicate n 0, sb, ss⟩)
        have BE := Below.setRow Bc.out Z5.out (AV.mk (some ⟨g, 0, none⟩) n (List.replicate n 0) sb ss).cs
        have GE := PI.out.grown (grown_row wc q5 (AV.mk (some ⟨g, 0, none⟩) n (List.replicate n 0) sb ss).cs) NG.out
        go_wp2_with fail
        go_meet
        case rel => exact ⟨q5, g, rfl, Lib.hid PE, Lib.hid GE, Lib.hid ⟨NG.out, Z5.out, ZI.out⟩, Lib.hid BE⟩
      · rw [if_pos (by rfl)]
        go_simp
        have hb := one_more (w1 := wc) (.cells #[.slice none 0 0, .int .i64 0, .bool false] 25)
        have hP := (show BkV (wc.alloc (.cells #[.slice none 0 0, .int .i64 0, .bool false] 25)) wc.heap.size av0 from BkV.made wc av0)
        have hz := Bc.out.size
        obtain ⟨q5, hbb⟩ : ∃ q5, q5 = wc.heap.size := ⟨_, rfl⟩
        rw [← hbb] at hP hz
        obtain ⟨wn, hwn⟩ : ∃ wn, wn = wc.alloc (.cells #[.slice none 0 0, .int .i64 0, .bool false] 25) := ⟨_, rfl⟩
        rw [← hwn] at hb hP ⊢
        try rw [← hbb]
        try (have NG := Lib.hid (show g ≠ q5 by have := PI.out.lt; omega))
        try (have PI := Lib.hid (PI.out.on hb))
        have Bc := Lib.hid (below_on Bc.out hb)
        have P5 := Lib.hid hP
        have Z5 := Lib.hid hz
        clear hb hP hz hbb hwn
        obtain ⟨wc, hwc⟩ : ∃ wc, wc = wn := ⟨_, rfl⟩
        rw [← hwc] at Bc P5 ⊢
        try rw [← hwc] at PI
        clear hwc
        go_simp
        refine hK.out _ _ (KS.out _ Bc.out) (fun h0_1 => ?_)
        clear hK K h0
        refine wpAnyH_ready (rs := [3]) (by kernel_rfl) (by simp) (AllReadyH.cons rfl (fun K hK => ?_) AllReadyH.nil)
        rw [if_pos (by rfl)]
        go_simp
        rw [MK.out]
        have hb := one_more (w1 := wc) (.cells (List.replicate n (Value.int .i64 0)).toArray 2)
        have hP := own_zeros wc n w.heap.size (Nat.le_trans E0.out.size Bc.out.size) (by omega)
        have hz := Bc.out.size
        obtain ⟨g, hbb⟩ : ∃ g, g = wc.heap.size := ⟨_, rfl⟩
        rw [← hbb] at hP hz
        obtain ⟨wn, hwn⟩ : ∃ wn, wn = wc.alloc (.cells (List.replicate n (Value.int .i64 0)).toArray 2) := ⟨_, rfl⟩
        rw [← hwn] at hb hP ⊢
        try rw [← hbb]
        try (have NG := Lib.hid (show g ≠ q5 by have := P5.out.lt; omega))
        try (have P5 := Lib.hid (P5.out.kept hb))
        have Bc := Lib.hid (below_on Bc.out hb)
        have PI := Lib.hid hP
        have ZI := Lib.hid hz
        clear hb hP hz hbb hwn
        obtain ⟨wc, hwc⟩ : ∃ wc, wc = wn := ⟨_, rfl⟩
        rw [← hwc] at Bc PI ⊢
        try rw [← hwc] at P5
        clear hwc
        go_simp
        refine hK.out _ _ (KS.out _ Bc.out) (fun h0_4 => ?_)
        clear hK K h0_1
        refine tkH (i := 19) (v := ?v40) rfl (Or.inl ⟨by rfl, ?hy40⟩) h0_4 ?rest40
        case hy40 => (intro w' hS; (try dsimp only at hS); go_simp; try (with_reducible rfl))
        simp only [Act.put, sZ]
        refine wpAnyH_ready (rs := [21]) (by kernel_rfl) (by simp) (AllReadyH.cons rfl (fun K hK => ?_) AllReadyH.nil)
        rw [if_pos (by rfl)]
        refine wp_storeV _ _ rfl q5 ⟨some ⟨g, 0, none⟩, n, List.replicate n 0, sb, ss⟩ rfl (by simp [AV.cs, AV.cells, Act.eval, SSS.out]; exact SWW.out) _ P5.out ?_
        refine hK.out _ _ (KS.out _ (Below.setRow Bc.out Z5.out _)) (fun h0_5 => ?_)
        clear hK K h0_4
        try simp only [sF]
        try simp only [sE]
        refine wpAnyH_done (by kernel_rfl) ?_ _
        have PE := P5.out.setRow (z := ⟨some ⟨g, 0, none⟩, n, List.replicate n 0, sb, ss⟩)
        have BE := Below.setRow Bc.out Z5.out (AV.mk (some ⟨g, 0, none⟩) n (List.replicate n 0) sb ss).cs
        have GE := PI.out.grown (grown_row wc q5 (AV.mk (some ⟨g, 0, none⟩) n (List.replicate n 0) sb ss).cs) NG.out
        go_wp2_with fail
        go_meet
        case rel => exact ⟨q5, g, rfl, Lib.hid PE, Lib.hid GE, Lib.hid ⟨NG.out, Z5.out, ZI.out⟩, Lib.hid BE⟩
  case rest =>
    obtain ⟨q5, g, rfl, HQ, HG, HZ, HB⟩ := hcut
    have C0 := Lib.hid (show combN 0 a xa b ya = List.replicate n 0 by unfold combN; simp [XL.out])
    have hgw := HG.out
    rw [← C0.out] at hgw
    have HG0 := Lib.hid hgw
    clear HG hgw m1 m2 m3
    go_wp2_with fail
    go_loopw [12] (fun s wr => ∃ t : Nat, s = .int .i64 t ∧ t ≤ n ∧ Hid (BkV wr q5 ⟨some ⟨g, 0, none⟩, n, List.replicate n 0, sb, ss⟩) ∧ Hid (OwnI wr w.heap.size g n (combN t a xa b ya)) ∧ Hid (Below w0.heap.size w0 wr)) (fun s _ => n - (intOf s).toNat)
    case atStart => exact ⟨0, rfl, by omega, HQ, HG0, HB⟩
    case round =>
      clear HQ HG0 HB
      obtain ⟨t, rfl, ht, HQ, HG, HB⟩ := hrel
      have f0 := kept HB.out F0.out
      by_cases htn : t < n
      · obtain ⟨p1, e1, d1⟩ := (R0.out.on HB.out) t (by rw [XL.out]; exact htn)
        obtain ⟨p2, e2, d2⟩ := (S0.out.on HB.out) t (by rw [YL.out]; exact htn)
        obtain ⟨u, hu⟩ : ∃ u, u = gA xa t := ⟨_, rfl⟩
        obtain ⟨v, hv⟩ : ∃ v, v = gA ya t := ⟨_, rfl⟩
        rw [← hu] at d1
        rw [← hv] at d2
        have hm := comb_bd AB.out.1 AB.out.2 (show -2147483647 ≤ u ∧ u ≤ 2147483647 by rw [hu]; exact XA.out _ (gA_mem (by rw [XL.out]; exact htn))) (show -2147483647 ≤ v ∧ v ≤ 2147483647 by rw [hv]; exact YA.out _ (gA_mem (by rw [YL.out]; exact htn)))
        obtain ⟨⟨m1, m2⟩, m3, _⟩ := hm
        have cl : (combN t a xa b ya).length = n := by rw [combN_len (by rw [XL.out, YL.out]) (by rw [XL.out]; omega), XL.out]
        have g0 := kept HB.out G0.out
        obtain ⟨h0, h1, h2⟩ := HQ.out.facts
        simp only [List.length_replicate] at h0
        have k0 := HG.out.at (j := t) (by rw [cl]; exact htn)
        have k1 : wr.frozen? ⟨g, t, none⟩ = false := World.ownsRow.frozenAt HG.out t
        have GP := HG.out.put t (a * u + b * v)
        rw [hu, hv, combN_step (by rw [XL.out, YL.out]) (by rw [XL.out]; exact htn), ← hu, ← hv] at GP
        have G2 := Lib.hid GP.1
        have Q2 := Lib.hid (HQ.out.grown GP.2 (Ne.symm HZ.out.1))
        have B2 := Lib.hid (Below.grown HB.out GP.2 HB.out.size (fun k hk => by have := HZ.out.2.2; injection hk with hk; omega))
        subst e1
        subst e2
        clear hu hv GP cl h1 h2
        go_wp2_with fail
        go_region
        go_wp2_with fail
        go_roundw
        case rel => exact ⟨t + 1, by go_num, by omega, Lib.hid (Q2.out.kept (below_drewN (Below.refl _ _) 1)), Lib.hid (G2.out.on (below_drewN (Below.refl _ _) 1)), Lib.hid (below_drewN B2.out 1)⟩
        case measure => simp [intOf]; omega
      · obtain rfl : t = n := by omega
        have cl : (combN t a xa b ya).length = t := by rw [combN_len (by rw [XL.out, YL.out]) (by rw [XL.out]; omega), XL.out]
        obtain ⟨A, hA⟩ : ∃ A, A = combN t a xa b ya := ⟨_, rfl⟩
        have A63' : ∀ v ∈ A, A63 v := fun v hv => by
          rw [hA, show combN t a xa b ya = List.zipWith (fun u v => a * u + b * v) xa ya by rw [← combN_all (by rw [XL.out, YL.out]), XL.out]] at hv
          obtain ⟨j, hj, rfl⟩ := List.getElem_of_mem hv
          rw [List.getElem_zipWith]
          exact (comb_bd AB.out.1 AB.out.2 (XA.out _ (List.getElem_mem _)) (YA.out _ (List.getElem_mem _))).2.2
        rw [← hA] at cl HG XCR
        have Q3 := Lib.hid (show BkV wr q5 ⟨some ⟨g, 0, none⟩, t, A, sb, ss⟩ by
          have := HQ.out
          unfold BkV at this ⊢
          rw [this]; simp [AV.cs, AV.cells, cl])
        have SH := Lib.hid (rshort_any ⟨some ⟨g, 0, none⟩, t, A, sb, ss⟩ i wr ⟨g, 0, none⟩ rfl rfl (by show A.length ≤ t; omega) (by show t ≤ 9223372036854775807; omega) (by show i < A.length; have := N1.out.2; omega) (by show A.length ≤ 1000; omega) HG.out.rd)
        have AA := Lib.hid A63'
        have SBA := Lib.hid (show A63 sb by rw [SBB.out]; exact CB.out.2.2)
        have CL := Lib.hid cl
        clear hA HG A63' cl
        go_wp2_with (refine wpl_loadV rfl _ rfl _ rfl ⟨some ⟨g, 0, none⟩, t, A, sb, ss⟩ Q3.out.avAt ?_)
        refine SH.out.mono ?_
        rintro e w5 ⟨g5, c5, rfl, ho, hb⟩
        have LW := Lib.hid (rlowest_any (AV.mk (some ⟨g5, 0, none⟩) c5 (A.eraseIdx i) sb ss) w5 (by show (A.eraseIdx i).length ≤ 1000; have := CL.out; have := List.length_eraseIdx_le A i; omega) ho.rd ⟨fun e => by (cases e), ho.capOk⟩ (fun v hv => AA.out v (List.mem_of_mem_eraseIdx hv)) SBA.out)
        have B5 := Lib.hid (below_on HB.out hb)
        have Z5 := Lib.hid hb.size
        clear ho hb f0
        go_wp2_with fail
        refine LW.out.mono ?_
        rintro e w6 ⟨g6, c6, rfl, ho, hb⟩
        have B6 := Lib.hid (below_on B5.out hb)
        have K6 := Lib.hid (K2.out.kept B6.out)
        have HO := Lib.hid ho
        have Z6 := Lib.hid (show w0.heap.size ≤ g6 by have h1 := ho.lt; have h2 := B5.out.size; omega)
        clear ho hb
        obtain ⟨X, hX⟩ : ∃ X, X = (shR i CR).lowR := ⟨_, rfl⟩
        have EX : (lnV (AV.mk (some ⟨g5, 0, none⟩) c5 (A.eraseIdx i) sb ss)).lowR = X := by rw [hX, XCR.out]; rfl
        rw [EX] at HO ⊢
        have HXX := Lib.hid hX
        clear EX hX
        have NG := Lib.hid (show g6 ≠ w.heap.size + 2 by have := K2.out.lt; have := Z6.out; omega)
        have GO := Lib.hid (HO.out.grown (grown_row w6 (w.heap.size + 2) (AV.mk (some ⟨g6, 0, none⟩) c6 X.a X.b X.s).cs) NG.out)
        have KF := Lib.hid (K6.out.setRow (z := AV.mk (some ⟨g6, 0, none⟩) c6 X.a X.b X.s))
        have BW := Lib.hid (Below.setRow (below_on E0.out B6.out) (b := w.heap.size + 2) (by omega) (AV.mk (some ⟨g6, 0, none⟩) c6 X.a X.b X.s).cs)
        go_wp2_with (refine wpl_storeV rfl _ _ rfl (w.heap.size + 2) (AV.mk (some ⟨g6, 0, none⟩) c6 X.a X.b X.s) rfl rfl _ K6.out ?_)
        refine bodyPost_ret (results_av Tryz.results93 _ rfl KF.out) rfl ⟨g6, c6, by rw [← HXX.out], by rw [← HXX.out]; exact World.ownsRow.mono GO.out (Nat.le_trans E0.out.size B5.out.size), BW.out⟩
end Go.Proofs.YtbhaoaobhgilkaaGreat
