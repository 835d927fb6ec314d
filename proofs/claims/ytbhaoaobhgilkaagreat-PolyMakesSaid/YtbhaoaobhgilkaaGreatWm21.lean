/- The contract of package poly's at. -/
import Derived.Test.YtbhaoaobhgilkaaGreatWm3
import Derived.Test.YtbhaoaobhgilkaaGreatWm20
import Derived.Deep.RegionHeld3

namespace Go.Proofs.YtbhaoaobhgilkaaGreat
open Go.RowKit Go.Sort Go.Shelf

def atN (a : List Int) (ps : List Pq) : Nat → Pq × Int
  | 0 => ((0, 1), 0)
  | t + 1 => if (atN a ps t).2 ≠ 0 then atN a ps t else if muE (gA a t, 1) (gp ps t) ≠ 0 then ((0, 0), muE (gA a t, 1) (gp ps t)) else
    (adR (atN a ps t).1 (muR (gA a t, 1) (gp ps t)), adE (atN a ps t).1 (muR (gA a t, 1) (gp ps t)))

theorem atN_stop {a : List Int} {ps : List Pq} {t : Nat} (h : (atN a ps t).2 ≠ 0) : ∀ j, atN a ps (t + j) = atN a ps t
  | 0 => rfl
  | j + 1 => by
    have e : atN a ps (t + (j + 1)) = if (atN a ps (t + j)).2 ≠ 0 then atN a ps (t + j) else if muE (gA a (t + j), 1) (gp ps (t + j)) ≠ 0 then ((0, 0), muE (gA a (t + j), 1) (gp ps (t + j))) else (adR (atN a ps (t + j)).1 (muR (gA a (t + j), 1) (gp ps (t + j))), adE (atN a ps (t + j)).1 (muR (gA a (t + j), 1) (gp ps (t + j)))) := rfl
    rw [e, atN_stop h j, if_pos h]

theorem atN_mul {a : List Int} {ps : List Pq} {t : Nat} (h : (atN a ps t).2 = 0) (k : muE (gA a t, 1) (gp ps t) ≠ 0) : (atN a ps (t + 1)).2 = muE (gA a t, 1) (gp ps t) := by
  show (if (atN a ps t).2 ≠ 0 then _ else if muE (gA a t, 1) (gp ps t) ≠ 0 then _ else _ : Pq × Int).2 = _
  rw [if_neg (by simpa using h), if_pos k]

theorem atN_add {a : List Int} {ps : List Pq} {t : Nat} (h : (atN a ps t).2 = 0) (k : muE (gA a t, 1) (gp ps t) = 0) : atN a ps (t + 1) = (adR (atN a ps t).1 (muR (gA a t, 1) (gp ps t)), adE (atN a ps t).1 (muR (gA a t, 1) (gp ps t))) := by
  show (if (atN a ps t).2 ≠ 0 then _ else if muE (gA a t, 1) (gp ps t) ≠ 0 then _ else _ : Pq × Int) = _
  rw [if_neg (by simpa using h), if_neg (by simpa using k)]

theorem atN_end {a : List Int} {ps : List Pq} {t n : Nat} (ht : t ≤ n) (h : (atN a ps t).2 ≠ 0) : (atN a ps n).2 = (atN a ps t).2 := by
  have := atN_stop h (n - t)
  rw [show t + (n - t) = n by omega] at this
  rw [this]

theorem atN_64 (a : List Int) (ps : List Pq) (t : Nat) : I2 (atN a ps t).1 := by
  induction t with
  | zero => unfold I2 I64 atN; simp
  | succ t ih =>
    show I2 (if (atN a ps t).2 ≠ 0 then atN a ps t else if muE (gA a t, 1) (gp ps t) ≠ 0 then ((0, 0), muE (gA a t, 1) (gp ps t)) else (adR (atN a ps t).1 (muR (gA a t, 1) (gp ps t)), adE (atN a ps t).1 (muR (gA a t, 1) (gp ps t)))).1
    split
    · exact ih
    · split
      · unfold I2 I64; simp
      · exact adR_64 _ _

def QRes (w : World) (x : Pq) (er : Int) (e : Ending) (w' : World) : Prop := Below w.heap.size w w' ∧ ((er = 0 ∧ e = .returned (.agg #[.int .i64 x.1, .int .i64 x.2])) ∨ (er ≠ 0 ∧ e = .panicked (pan er)))

set_option maxRecDepth 100000 in
set_option maxHeartbeats 4000000 in
theorem at_any (x : Ln) (ps : List Pq) (ao : Option Addr) (cap : Nat) (w : World) (hx : Rg 2147483647 x) (hn : ps.length ≤ 6) (hR : Rd2 w ao ps) (hI : ∀ t, t < ps.length → I2 (gp ps t)) :
    Calls Tryz.prog 136 #[.agg x.cs, .slice ao ps.length cap] w (QRes w (atN x.a ps ps.length).1 (atN x.a ps ps.length).2) := by
  obtain ⟨w0, hw0⟩ : ∃ w0, w0 = (w.alloc (.cells x.cs 82)).alloc (.cells #[.int .i64 0, .int .i64 0] 50) := ⟨_, rfl⟩
  have K0 := Lib.hid (show Bk w0 w.heap.size x by rw [hw0]; exact (Bk.made w x hx.len).alloc _)
  have P0 := Lib.hid (show Pair w0 (w.heap.size + 1) 0 0 by rw [hw0]; have := Pair.made (w.alloc (.cells x.cs 82)) 0 0 50; simpa using this)
  have E0 := Lib.hid (show Below w.heap.size w w0 by rw [hw0]; exact past_two (Below.refl _ _))
  obtain ⟨n, hN⟩ : ∃ n, n = ps.length := ⟨_, rfl⟩
  have RD := Lib.hid (show ∀ W, Below w0.heap.size w0 W → ∀ t, t < n → ∃ a, ao = some a ∧ QAt W (a.add (t * 2)) (gp ps t) from fun W h t ht => ((hR.on E0.out).on h) t (by omega))
  have IP := Lib.hid (show ∀ t, t < n → I2 (gp ps t) from fun t ht => hI t (by omega))
  have IA := Lib.hid (show ∀ t, t < n → I2 (gA x.a t, 1) from fun t ht => by have := hx.at (t := t) (by omega); exact wh_64 (by unfold I64; omega))
  have N6 := Lib.hid (show n ≤ 6 by omega)
  have AG := Lib.hid (show ∀ t, t < n → ∀ W, Bk W w.heap.size x → W.cell? ⟨w.heap.size, t, none⟩ = some (.int .i64 (gA x.a t)) from fun t ht W h => h.at (by omega))
  rw [← hN]
  clear hR hI hx hN hn
  go_enter Tryz.func136, Tryz.ntmps136
  go_upto_region 1 with (fail)
  rw [← hw0]
  clear hw0
  go_wp2_with fail
  refine (whole_any 0 w0).mono ?_
  rintro e w1 ⟨rfl, hb⟩
  obtain ⟨b5, hb5⟩ : ∃ b, b = w1.heap.size := ⟨_, rfl⟩
  obtain ⟨w2, hw2⟩ : ∃ w2, w2 = w1.alloc (.cells #[.int .i64 0, .int .i64 1] 50) := ⟨_, rfl⟩
  have P2 := Lib.hid (show Pair w2 b5 0 1 by rw [hw2, hb5]; exact Pair.made _ _ _ _)
  have B2 := Lib.hid (show Below w0.heap.size w0 w2 by rw [hw2]; exact hb.alloc hb.size _)
  have Z2 := Lib.hid (show w0.heap.size ≤ b5 by rw [hb5]; exact hb.size)
  clear hb
  go_upto_region 2 with (fail)
  rw [← hw2, ← hb5]
  clear hw2 hb5
  go_wp2_with fail
  go_loopw [11] (fun s wr => ∃ t : Nat, s = .int .i64 t ∧ t ≤ n ∧ Hid ((atN x.a ps t).2 = 0) ∧ Hid (Pair wr b5 (atN x.a ps t).1.1 (atN x.a ps t).1.2) ∧ Hid (Below w0.heap.size w0 wr)) (fun s _ => n - (intOf s).toNat)
  case atStart => exact ⟨0, rfl, by omega, Lib.hid rfl, P2, B2⟩
  case round =>
    obtain ⟨t, rfl, ht, HE, HP, HB⟩ := hrel
    by_cases htn : t < n
    · obtain ⟨p, hp, c0⟩ := RD.out wr HB.out t htn
      have C0 := Lib.hid c0
      have t6 : (t : Int) < 6 := by have := N6.out; omega
      have TN := Lib.hid htn
      obtain ⟨y, hy⟩ : ∃ y, y = gp ps t := ⟨_, rfl⟩
      have Y2 := Lib.hid (show I2 y by rw [hy]; exact IP.out t htn)
      have HY := Lib.hid hy
      rw [← hy] at C0
      obtain ⟨s, hs⟩ : ∃ s, s = (atN x.a ps t).1 := ⟨_, rfl⟩
      have S2 := Lib.hid (show I2 s by rw [hs]; exact atN_64 _ _ _)
      have HS := Lib.hid hs
      rw [← hs] at HP
      subst hp
      obtain ⟨k, hk⟩ : ∃ k, k = gA x.a t := ⟨_, rfl⟩
      have A2 := Lib.hid (show I2 (k, 1) by rw [hk]; exact IA.out t htn)
      have G0 := Lib.hid (show ∀ W, Bk W w.heap.size x → W.cell? ⟨w.heap.size, t, none⟩ = some (.int .i64 k) from fun W h => by rw [hk]; exact AG.out t htn W h)
      have HK := Lib.hid hk
      have EM := Lib.hid (show ∀ h : muE (k, 1) y ≠ 0, (atN x.a ps n).2 = muE (k, 1) y from fun h => by
        rw [hk, hy] at h ⊢
        have e := atN_mul HE.out h
        rw [atN_end (t := t + 1) (by omega) (by rw [e]; exact h), e])
      have EA := Lib.hid (show ∀ h : muE (k, 1) y = 0, atN x.a ps (t + 1) = (adR s (muR (k, 1) y), adE s (muR (k, 1) y)) from fun h => by
        rw [hk, hy] at h ⊢
        rw [hs]
        exact atN_add HE.out h)
      have ES := Lib.hid (show (atN x.a ps (t + 1)).2 ≠ 0 → (atN x.a ps n).2 = (atN x.a ps (t + 1)).2 from fun h => atN_end (by omega) h)
      obtain ⟨w3, hw3⟩ : ∃ w3, w3 = wr.alloc (.cells #[.int .i64 y.1, .int .i64 y.2] 50) := ⟨_, rfl⟩
      obtain ⟨q, hq⟩ : ∃ q, q = wr.heap.size := ⟨_, rfl⟩
      have Q3 := Lib.hid (show Pair w3 q y.1 y.2 by rw [hw3, hq]; exact Pair.made _ _ _ _)
      have NQ := Lib.hid (show b5 ≠ q by rw [hq]; have := HP.out.lt; omega)
      have B3 := Lib.hid (show Below w0.heap.size w0 w3 by rw [hw3]; exact HB.out.alloc HB.out.size _)
      have P3 := Lib.hid (show Pair w3 b5 s.1 s.2 by rw [hw3]; exact HP.out.alloc _)
      clear c0 hy hs hk HB HP
      go_upto_region 5 with (refine wpl_loadQ rfl _ rfl _ rfl y C0.out ?_)
      rw [← hw3, ← hq]
      clear hw3 hq C0
      have KS := Lib.hid (show ∀ W, Below w3.heap.size w3 W → (W.cell? ⟨w.heap.size, t, none⟩ = some (.int .i64 k) ∧ W.cell? ⟨q, 0, none⟩ = some (.int .i64 y.1) ∧ W.cell? ⟨q, 1, none⟩ = some (.int .i64 y.2)) from fun W h => ⟨G0.out W (K0.out.kept (below_on B3.out h)), (Q3.out.kept h).facts.1, (Q3.out.kept h).facts.2.1⟩)
      obtain ⟨wc, hwc⟩ : ∃ wc, wc = w3.drew := ⟨_, rfl⟩
      have Bc := Lib.hid (show Below w3.heap.size w3 wc by rw [hwc]; exact (Below.refl _ _).drew)
      have PS := Lib.hid (P3.out.kept Bc.out)
      have KS2 := Lib.hid (show ∀ W, Below w3.heap.size w3 W → ∀ u v, (fun W => (W.cell? ⟨w.heap.size, t, none⟩ = some (.int .i64 k) ∧ W.cell? ⟨q, 0, none⟩ = some (.int .i64 y.1) ∧ W.cell? ⟨q, 1, none⟩ = some (.int .i64 y.2))) ((W.setCell ⟨b5, 0, none⟩ u).setCell ⟨b5, 1, none⟩ v) from fun W h u v => by
        have n1 : b5 ≠ w.heap.size := by have := Z2.out; have := K0.out.lt; omega
        have n2 : b5 ≠ q := NQ.out
        exact ⟨G0.out _ (((K0.out.kept (below_on B3.out h)).aside n1.symm u).aside n1.symm v), ((Q3.out.kept h).aside n2 u v).facts.1, ((Q3.out.kept h).aside n2 u v).facts.2.1⟩)
      refine wp_region_held_drew (S := (fun W => (W.cell? ⟨w.heap.size, t, none⟩ = some (.int .i64 k) ∧ W.cell? ⟨q, 0, none⟩ = some (.int .i64 y.1) ∧ W.cell? ⟨q, 1, none⟩ = some (.int .i64 y.2)))) (by kernel_rfl) (by rw [← hwc]; exact KS.out _ Bc.out) (fun h0 => ?_)
      rw [← hwc] at h0 ⊢
      clear hwc
      refine tkH (i := 1) (v := ?v1) rfl (Or.inl ⟨by rfl, ?hy1⟩) h0 ?rest1
      case hy1 => (intro w' hS; (try dsimp only at hS); go_simp; try (with_reducible rfl))
      simp only [Act.put, sZ]
      refine tkH (i := 2) (v := ?v2) rfl (Or.inl ⟨by rfl, ?hy2⟩) h0 ?rest2
      case hy2 => (intro w' hS; (try dsimp only at hS); go_simp; try (with_reducible rfl))
      simp only [Act.put, sZ]
      refine tkH (i := 3) (v := ?v3) rfl (Or.inl ⟨by rfl, ?hy3⟩) h0 ?rest3
      case hy3 => (intro w' hS; (try dsimp only at hS); go_simp; try (with_reducible rfl))
      simp only [Act.put, sZ]
      refine tkH (i := 4) (v := ?v4) rfl (Or.inl ⟨by rfl, ?hy4⟩) h0 ?rest4
      case hy4 => (intro w' hS; (try dsimp only at hS); go_simp; try (with_reducible rfl))
      simp only [Act.put, sZ]
      refine tkH (i := 6) (v := ?v5) rfl (Or.inl ⟨by rfl, ?hy5⟩) h0 ?rest5
      case hy5 => (intro w' hS; (try dsimp only at hS); go_simp; try (with_reducible rfl))
      simp only [Act.put, sZ]
      refine wpAnyH_ready (rs := [0, 5]) (by kernel_rfl) (by simp) (AllReadyH.cons rfl (fun K hK => ?_) (AllReadyH.cons rfl (fun K hK => ?_) AllReadyH.nil))
      · rw [if_pos (by rfl)]
        refine wp_loadQ _ rfl _ rfl s PS.out.qAt ?_
        try simp only [Act.put, sA, sB, sD, sE, sF]
        refine hK.out _ _ (KS.out _ Bc.out) (fun h0_1 => ?_)
        clear hK K h0
        refine wpAnyH_ready (rs := [5]) (by kernel_rfl) (by simp) (AllReadyH.cons rfl (fun K hK => ?_) AllReadyH.nil)
        rw [if_pos (by rfl)]
        go_simp
        refine (whole_any k wc).mono ?_
        rintro e wc ⟨rfl, hb⟩
        have PS := Lib.hid (PS.out.kept hb)
        have Bc := Lib.hid (below_on Bc.out hb)
        clear hb
        go_simp
        refine hK.out _ _ (KS.out _ Bc.out) (fun h0_2 => ?_)
        clear hK K h0_1
        refine wpAnyH_ready (rs := [7]) (by kernel_rfl) (by simp) (AllReadyH.cons rfl (fun K hK => ?_) AllReadyH.nil)
        rw [if_pos (by rfl)]
        go_simp
        refine (mulP_any (k, 1) y wc A2.out Y2.out).mono ?_
        rintro e wc ⟨rfl, hb⟩
        have PS := Lib.hid (PS.out.kept hb)
        have Bc := Lib.hid (below_on Bc.out hb)
        clear hb
        go_simp
        refine hK.out _ _ (KS.out _ Bc.out) (fun h0_3 => ?_)
        clear hK K h0_2
        refine tkH (i := 8) (v := ?v6) rfl (Or.inl ⟨by rfl, ?hy6⟩) h0_3 ?rest6
        case hy6 => (intro w' hS; (try dsimp only at hS); go_simp; try (with_reducible rfl))
        simp only [Act.put, sZ]
        refine tkH (i := 9) (v := ?v7) rfl (Or.inl ⟨by rfl, ?hy7⟩) h0_3 ?rest7
        case hy7 => (intro w' hS; (try dsimp only at hS); go_simp; try (with_reducible rfl))
        simp only [Act.put, sZ]
        refine wpAnyH_ready (rs := [10]) (by kernel_rfl) (by simp) (AllReadyH.cons rfl (fun K hK => ?_) AllReadyH.nil)
        rw [if_pos (by rfl)]
        go_simp
        refine (mustR_any (muR (k, 1) y) (muE (k, 1) y) wc).mono ?_
        rintro e wc ⟨hb, (⟨he, rfl⟩ | ⟨he, rfl⟩)⟩
        rotate_left
        · exact And.intro rfl ⟨below_on E0.out (below_on B3.out (below_on Bc.out hb)), Or.inr ⟨by rw [EM.out he]; exact he, by rw [EM.out he]⟩⟩
        have PS := Lib.hid (PS.out.kept hb)
        have Bc := Lib.hid (below_on Bc.out hb)
        have M0 := Lib.hid he
        clear hb he
        go_simp
        refine hK.out _ _ (KS.out _ Bc.out) (fun h0_4 => ?_)
        clear hK K h0_3
        refine wpAnyH_ready (rs := [11]) (by kernel_rfl) (by simp) (AllReadyH.cons rfl (fun K hK => ?_) AllReadyH.nil)
        rw [if_pos (by rfl)]
        go_simp
        refine (addP_any s (muR (k, 1) y) wc S2.out (muR_64 _ _)).mono ?_
        rintro e wc ⟨rfl, hb⟩
        have PS := Lib.hid (PS.out.kept hb)
        have Bc := Lib.hid (below_on Bc.out hb)
        clear hb
        go_simp
        refine hK.out _ _ (KS.out _ Bc.out) (fun h0_5 => ?_)
        clear hK K h0_4
        refine tkH (i := 12) (v := ?v8) rfl (Or.inl ⟨by rfl, ?hy8⟩) h0_5 ?rest8
        case hy8 => (intro w' hS; (try dsimp only at hS); go_simp; try (with_reducible rfl))
        simp only [Act.put, sZ]
        refine tkH (i := 13) (v := ?v9) rfl (Or.inl ⟨by rfl, ?hy9⟩) h0_5 ?rest9
        case hy9 => (intro w' hS; (try dsimp only at hS); go_simp; try (with_reducible rfl))
        simp only [Act.put, sZ]
        refine wpAnyH_ready (rs := [14]) (by kernel_rfl) (by simp) (AllReadyH.cons rfl (fun K hK => ?_) AllReadyH.nil)
        rw [if_pos (by rfl)]
        go_simp
        refine (mustR_any (adR s (muR (k, 1) y)) (adE s (muR (k, 1) y)) wc).mono ?_
        rintro e wc ⟨hb, (⟨he, rfl⟩ | ⟨he, rfl⟩)⟩
        rotate_left
        · exact And.intro rfl ⟨below_on E0.out (below_on B3.out (below_on Bc.out hb)), Or.inr (by have e := congrArg Prod.snd (EA.out M0.out); have e2 := ES.out (by rw [e]; exact he); rw [e2, e]; exact ⟨he, rfl⟩)⟩
        have PS := Lib.hid (PS.out.kept hb)
        have Bc := Lib.hid (below_on Bc.out hb)
        have M1 := Lib.hid he
        clear hb he
        go_simp
        refine hK.out _ _ (KS.out _ Bc.out) (fun h0_6 => ?_)
        clear hK K h0_5
        refine wpAnyH_ready (rs := [15]) (by kernel_rfl) (by simp) (AllReadyH.cons rfl (fun K hK => ?_) AllReadyH.nil)
        rw [if_pos (by rfl)]
        go_simp
        obtain ⟨f0, f1, f2, f3⟩ := PS.out.facts
        go_simp
        refine hK.out _ _ (KS2.out _ Bc.out _ _) (fun h0_7 => ?_)
        clear hK K h0_6
        clear f0 f1 f2 f3
        try simp only [sF]
        try simp only [sE]
        refine wpAnyH_done (by kernel_rfl) ?_ _
        have PE := PS.out.put (adR s (muR (k, 1) y)).1 (adR s (muR (k, 1) y)).2
        have BE := below_put (below_on B3.out Bc.out) Z2.out (.int .i64 (adR s (muR (k, 1) y)).1) (.int .i64 (adR s (muR (k, 1) y)).2)
        obtain ⟨we, hwe⟩ : ∃ we, we = (wc.setCell ⟨b5, 0, none⟩ (.int .i64 (adR s (muR (k, 1) y)).1)).setCell ⟨b5, 1, none⟩ (.int .i64 (adR s (muR (k, 1) y)).2) := ⟨_, rfl⟩
        rw [← hwe] at PE BE ⊢
        have PX := Lib.hid PE
        have BX := Lib.hid BE
        clear hwe PE BE
        go_wp2_with fail
        go_roundw
        case rel => exact ⟨t + 1, by go_num, by omega, Lib.hid (by rw [EA.out M0.out]; exact M1.out), Lib.hid (by rw [EA.out M0.out]; exact PX.out), BX⟩
        case measure => simp [intOf]; omega
      · rw [if_pos (by rfl)]
        go_simp
        refine (whole_any k wc).mono ?_
        rintro e wc ⟨rfl, hb⟩
        have PS := Lib.hid (PS.out.kept hb)
        have Bc := Lib.hid (below_on Bc.out hb)
        clear hb
        go_simp
        refine hK.out _ _ (KS.out _ Bc.out) (fun h0_1 => ?_)
        clear hK K h0
        refine wpAnyH_ready (rs := [0, 7]) (by kernel_rfl) (by simp) (AllReadyH.cons rfl (fun K hK => ?_) (AllReadyH.cons rfl (fun K hK => ?_) AllReadyH.nil))
        · rw [if_pos (by rfl)]
          refine wp_loadQ _ rfl _ rfl s PS.out.qAt ?_
          try simp only [Act.put, sA, sB, sD, sE, sF]
          refine hK.out _ _ (KS.out _ Bc.out) (fun h0_8 => ?_)
          clear hK K h0_1
          refine wpAnyH_ready (rs := [7]) (by kernel_rfl) (by simp) (AllReadyH.cons rfl (fun K hK => ?_) AllReadyH.nil)
          rw [if_pos (by rfl)]
          go_simp
          refine (mulP_any (k, 1) y wc A2.out Y2.out).mono ?_
          rintro e wc ⟨rfl, hb⟩
          have PS := Lib.hid (PS.out.kept hb)
          have Bc := Lib.hid (below_on Bc.out hb)
          clear hb
          go_simp
          refine hK.out _ _ (KS.out _ Bc.out) (fun h0_9 => ?_)
          clear hK K h0_8
          refine tkH (i := 8) (v := ?v10) rfl (Or.inl ⟨by rfl, ?hy10⟩) h0_9 ?rest10
          case hy10 => (intro w' hS; (try dsimp only at hS); go_simp; try (with_reducible rfl))
          simp only [Act.put, sZ]
          refine tkH (i := 9) (v := ?v11) rfl (Or.inl ⟨by rfl, ?hy11⟩) h0_9 ?rest11
          case hy11 => (intro w' hS; (try dsimp only at hS); go_simp; try (with_reducible rfl))
          simp only [Act.put, sZ]
          refine wpAnyH_ready (rs := [10]) (by kernel_rfl) (by simp) (AllReadyH.cons rfl (fun K hK => ?_) AllReadyH.nil)
          rw [if_pos (by rfl)]
          go_simp
          refine (mustR_any (muR (k, 1) y) (muE (k, 1) y) wc).mono ?_
          rintro e wc ⟨hb, (⟨he, rfl⟩ | ⟨he, rfl⟩)⟩
          rotate_left
          · exact And.intro rfl ⟨below_on E0.out (below_on B3.out (below_on Bc.out hb)), Or.inr ⟨by rw [EM.out he]; exact he, by rw [EM.out he]⟩⟩
          have PS := Lib.hid (PS.out.kept hb)
          have Bc := Lib.hid (below_on Bc.out hb)
          have M0 := Lib.hid he
          clear hb he
          go_simp
          refine hK.out _ _ (KS.out _ Bc.out) (fun h0_10 => ?_)
          clear hK K h0_9
          refine wpAnyH_ready (rs := [11]) (by kernel_rfl) (by simp) (AllReadyH.cons rfl (fun K hK => ?_) AllReadyH.nil)
          rw [if_pos (by rfl)]
          go_simp
          refine (addP_any s (muR (k, 1) y) wc S2.out (muR_64 _ _)).mono ?_
          rintro e wc ⟨rfl, hb⟩
          have PS := Lib.hid (PS.out.kept hb)
          have Bc := Lib.hid (below_on Bc.out hb)
          clear hb
          go_simp
          refine hK.out _ _ (KS.out _ Bc.out) (fun h0_11 => ?_)
          clear hK K h0_10
          refine tkH (i := 12) (v := ?v12) rfl (Or.inl ⟨by rfl, ?hy12⟩) h0_11 ?rest12
          case hy12 => (intro w' hS; (try dsimp only at hS); go_simp; try (with_reducible rfl))
          simp only [Act.put, sZ]
          refine tkH (i := 13) (v := ?v13) rfl (Or.inl ⟨by rfl, ?hy13⟩) h0_11 ?rest13
          case hy13 => (intro w' hS; (try dsimp only at hS); go_simp; try (with_reducible rfl))
          simp only [Act.put, sZ]
          refine wpAnyH_ready (rs := [14]) (by kernel_rfl) (by simp) (AllReadyH.cons rfl (fun K hK => ?_) AllReadyH.nil)
          rw [if_pos (by rfl)]
          go_simp
          refine (mustR_any (adR s (muR (k, 1) y)) (adE s (muR (k, 1) y)) wc).mono ?_
          rintro e wc ⟨hb, (⟨he, rfl⟩ | ⟨he, rfl⟩)⟩
          rotate_left
          · exact And.intro rfl ⟨below_on E0.out (below_on B3.out (below_on Bc.out hb)), Or.inr (by have e := congrArg Prod.snd (EA.out M0.out); have e2 := ES.out (by rw [e]; exact he); rw [e2, e]; exact ⟨he, rfl⟩)⟩
          have PS := Lib.hid (PS.out.kept hb)
          have Bc := Lib.hid (below_on Bc.out hb)
          have M1 := Lib.hid he
          clear hb he
          go_simp
          refine hK.out _ _ (KS.out _ Bc.out) (fun h0_12 => ?_)
          clear hK K h0_11
          refine wpAnyH_ready (rs := [15]) (by kernel_rfl) (by simp) (AllReadyH.cons rfl (fun K hK => ?_) AllReadyH.nil)
          rw [if_pos (by rfl)]
          go_simp
          obtain ⟨f0, f1, f2, f3⟩ := PS.out.facts
          go_simp
          refine hK.out _ _ (KS2.out _ Bc.out _ _) (fun h0_13 => ?_)
          clear hK K h0_12
          clear f0 f1 f2 f3
          try simp only [sF]
          try simp only [sE]
          refine wpAnyH_done (by kernel_rfl) ?_ _
          have PE := PS.out.put (adR s (muR (k, 1) y)).1 (adR s (muR (k, 1) y)).2
          have BE := below_put (below_on B3.out Bc.out) Z2.out (.int .i64 (adR s (muR (k, 1) y)).1) (.int .i64 (adR s (muR (k, 1) y)).2)
          obtain ⟨we, hwe⟩ : ∃ we, we = (wc.setCell ⟨b5, 0, none⟩ (.int .i64 (adR s (muR (k, 1) y)).1)).setCell ⟨b5, 1, none⟩ (.int .i64 (adR s (muR (k, 1) y)).2) := ⟨_, rfl⟩
          rw [← hwe] at PE BE ⊢
          have PX := Lib.hid PE
          have BX := Lib.hid BE
          clear hwe PE BE
          go_wp2_with fail
          go_roundw
          case rel => exact ⟨t + 1, by go_num, by omega, Lib.hid (by rw [EA.out M0.out]; exact M1.out), Lib.hid (by rw [EA.out M0.out]; exact PX.out), BX⟩
          case measure => simp [intOf]; omega
        · rw [if_pos (by rfl)]
          go_simp
          refine (mulP_any (k, 1) y wc A2.out Y2.out).mono ?_
          rintro e wc ⟨rfl, hb⟩
          have PS := Lib.hid (PS.out.kept hb)
          have Bc := Lib.hid (below_on Bc.out hb)
          clear hb
          go_simp
          refine hK.out _ _ (KS.out _ Bc.out) (fun h0_8 => ?_)
          clear hK K h0_1
          refine tkH (i := 8) (v := ?v14) rfl (Or.inl ⟨by rfl, ?hy14⟩) h0_8 ?rest14
          case hy14 => (intro w' hS; (try dsimp only at hS); go_simp; try (with_reducible rfl))
          simp only [Act.put, sZ]
          refine tkH (i := 9) (v := ?v15) rfl (Or.inl ⟨by rfl, ?hy15⟩) h0_8 ?rest15
          case hy15 => (intro w' hS; (try dsimp only at hS); go_simp; try (with_reducible rfl))
          simp only [Act.put, sZ]
          refine wpAnyH_ready (rs := [0, 10]) (by kernel_rfl) (by simp) (AllReadyH.cons rfl (fun K hK => ?_) (AllReadyH.cons rfl (fun K hK => ?_) AllReadyH.nil))
          · rw [if_pos (by rfl)]
            refine wp_loadQ _ rfl _ rfl s PS.out.qAt ?_
            try simp only [Act.put, sA, sB, sD, sE, sF]
            refine hK.out _ _ (KS.out _ Bc.out) (fun h0_14 => ?_)
            clear hK K h0_8
            refine wpAnyH_ready (rs := [10]) (by kernel_rfl) (by simp) (AllReadyH.cons rfl (fun K hK => ?_) AllReadyH.nil)
            rw [if_pos (by rfl)]
            go_simp
            refine (mustR_any (muR (k, 1) y) (muE (k, 1) y) wc).mono ?_
            rintro e wc ⟨hb, (⟨he, rfl⟩ | ⟨he, rfl⟩)⟩
            rotate_left
            · exact And.intro rfl ⟨below_on E0.out (below_on B3.out (below_on Bc.out hb)), Or.inr ⟨by rw [EM.out he]; exact he, by rw [EM.out he]⟩⟩
            have PS := Lib.hid (PS.out.kept hb)
            have Bc := Lib.hid (below_on Bc.out hb)
            have M0 := Lib.hid he
            clear hb he
            go_simp
            refine hK.out _ _ (KS.out _ Bc.out) (fun h0_15 => ?_)
            clear hK K h0_14
            refine wpAnyH_ready (rs := [11]) (by kernel_rfl) (by simp) (AllReadyH.cons rfl (fun K hK => ?_) AllReadyH.nil)
            rw [if_pos (by rfl)]
            go_simp
            refine (addP_any s (muR (k, 1) y) wc S2.out (muR_64 _ _)).mono ?_
            rintro e wc ⟨rfl, hb⟩
            have PS := Lib.hid (PS.out.kept hb)
            have Bc := Lib.hid (below_on Bc.out hb)
            clear hb
            go_simp
            refine hK.out _ _ (KS.out _ Bc.out) (fun h0_16 => ?_)
            clear hK K h0_15
            refine tkH (i := 12) (v := ?v16) rfl (Or.inl ⟨by rfl, ?hy16⟩) h0_16 ?rest16
            case hy16 => (intro w' hS; (try dsimp only at hS); go_simp; try (with_reducible rfl))
            simp only [Act.put, sZ]
            refine tkH (i := 13) (v := ?v17) rfl (Or.inl ⟨by rfl, ?hy17⟩) h0_16 ?rest17
            case hy17 => (intro w' hS; (try dsimp only at hS); go_simp; try (with_reducible rfl))
            simp only [Act.put, sZ]
            refine wpAnyH_ready (rs := [14]) (by kernel_rfl) (by simp) (AllReadyH.cons rfl (fun K hK => ?_) AllReadyH.nil)
            rw [if_pos (by rfl)]
            go_simp
            refine (mustR_any (adR s (muR (k, 1) y)) (adE s (muR (k, 1) y)) wc).mono ?_
            rintro e wc ⟨hb, (⟨he, rfl⟩ | ⟨he, rfl⟩)⟩
            rotate_left
            · exact And.intro rfl ⟨below_on E0.out (below_on B3.out (below_on Bc.out hb)), Or.inr (by have e := congrArg Prod.snd (EA.out M0.out); have e2 := ES.out (by rw [e]; exact he); rw [e2, e]; exact ⟨he, rfl⟩)⟩
            have PS := Lib.hid (PS.out.kept hb)
            have Bc := Lib.hid (below_on Bc.out hb)
            have M1 := Lib.hid he
            clear hb he
            go_simp
            refine hK.out _ _ (KS.out _ Bc.out) (fun h0_17 => ?_)
            clear hK K h0_16
            refine wpAnyH_ready (rs := [15]) (by kernel_rfl) (by simp) (AllReadyH.cons rfl (fun K hK => ?_) AllReadyH.nil)
            rw [if_pos (by rfl)]
            go_simp
            obtain ⟨f0, f1, f2, f3⟩ := PS.out.facts
            go_simp
            refine hK.out _ _ (KS2.out _ Bc.out _ _) (fun h0_18 => ?_)
            clear hK K h0_17
            clear f0 f1 f2 f3
            try simp only [sF]
            try simp only [sE]
            refine wpAnyH_done (by kernel_rfl) ?_ _
            have PE := PS.out.put (adR s (muR (k, 1) y)).1 (adR s (muR (k, 1) y)).2
            have BE := below_put (below_on B3.out Bc.out) Z2.out (.int .i64 (adR s (muR (k, 1) y)).1) (.int .i64 (adR s (muR (k, 1) y)).2)
            obtain ⟨we, hwe⟩ : ∃ we, we = (wc.setCell ⟨b5, 0, none⟩ (.int .i64 (adR s (muR (k, 1) y)).1)).setCell ⟨b5, 1, none⟩ (.int .i64 (adR s (muR (k, 1) y)).2) := ⟨_, rfl⟩
            rw [← hwe] at PE BE ⊢
            have PX := Lib.hid PE
            have BX := Lib.hid BE
            clear hwe PE BE
            go_wp2_with fail
            go_roundw
            case rel => exact ⟨t + 1, by go_num, by omega, Lib.hid (by rw [EA.out M0.out]; exact M1.out), Lib.hid (by rw [EA.out M0.out]; exact PX.out), BX⟩
            case measure => simp [intOf]; omega
          · rw [if_pos (by rfl)]
            go_simp
            refine (mustR_any (muR (k, 1) y) (muE (k, 1) y) wc).mono ?_
            rintro e wc ⟨hb, (⟨he, rfl⟩ | ⟨he, rfl⟩)⟩
            rotate_left
            · exact And.intro rfl ⟨below_on E0.out (below_on B3.out (below_on Bc.out hb)), Or.inr ⟨by rw [EM.out he]; exact he, by rw [EM.out he]⟩⟩
            have PS := Lib.hid (PS.out.kept hb)
            have Bc := Lib.hid (below_on Bc.out hb)
            have M0 := Lib.hid he
            clear hb he
            go_simp
            refine hK.out _ _ (KS.out _ Bc.out) (fun h0_14 => ?_)
            clear hK K h0_8
            refine wpAnyH_ready (rs := [0]) (by kernel_rfl) (by simp) (AllReadyH.cons rfl (fun K hK => ?_) AllReadyH.nil)
            rw [if_pos (by rfl)]
            refine wp_loadQ _ rfl _ rfl s PS.out.qAt ?_
            try simp only [Act.put, sA, sB, sD, sE, sF]
            refine hK.out _ _ (KS.out _ Bc.out) (fun h0_19 => ?_)
            clear hK K h0_14
            refine wpAnyH_ready (rs := [11]) (by kernel_rfl) (by simp) (AllReadyH.cons rfl (fun K hK => ?_) AllReadyH.nil)
            rw [if_pos (by rfl)]
            go_simp
            refine (addP_any s (muR (k, 1) y) wc S2.out (muR_64 _ _)).mono ?_
            rintro e wc ⟨rfl, hb⟩
            have PS := Lib.hid (PS.out.kept hb)
            have Bc := Lib.hid (below_on Bc.out hb)
            clear hb
            go_simp
            refine hK.out _ _ (KS.out _ Bc.out) (fun h0_20 => ?_)
            clear hK K h0_19
            refine tkH (i := 12) (v := ?v18) rfl (Or.inl ⟨by rfl, ?hy18⟩) h0_20 ?rest18
            case hy18 => (intro w' hS; (try dsimp only at hS); go_simp; try (with_reducible rfl))
            simp only [Act.put, sZ]
            refine tkH (i := 13) (v := ?v19) rfl (Or.inl ⟨by rfl, ?hy19⟩) h0_20 ?rest19
            case hy19 => (intro w' hS; (try dsimp only at hS); go_simp; try (with_reducible rfl))
            simp only [Act.put, sZ]
            refine wpAnyH_ready (rs := [14]) (by kernel_rfl) (by simp) (AllReadyH.cons rfl (fun K hK => ?_) AllReadyH.nil)
            rw [if_pos (by rfl)]
            go_simp
            refine (mustR_any (adR s (muR (k, 1) y)) (adE s (muR (k, 1) y)) wc).mono ?_
            rintro e wc ⟨hb, (⟨he, rfl⟩ | ⟨he, rfl⟩)⟩
            rotate_left
            · exact And.intro rfl ⟨below_on E0.out (below_on B3.out (below_on Bc.out hb)), Or.inr (by have e := congrArg Prod.snd (EA.out M0.out); have e2 := ES.out (by rw [e]; exact he); rw [e2, e]; exact ⟨he, rfl⟩)⟩
            have PS := Lib.hid (PS.out.kept hb)
            have Bc := Lib.hid (below_on Bc.out hb)
            have M1 := Lib.hid he
            clear hb he
            go_simp
            refine hK.out _ _ (KS.out _ Bc.out) (fun h0_21 => ?_)
            clear hK K h0_20
            refine wpAnyH_ready (rs := [15]) (by kernel_rfl) (by simp) (AllReadyH.cons rfl (fun K hK => ?_) AllReadyH.nil)
            rw [if_pos (by rfl)]
            go_simp
            obtain ⟨f0, f1, f2, f3⟩ := PS.out.facts
            go_simp
            refine hK.out _ _ (KS2.out _ Bc.out _ _) (fun h0_22 => ?_)
            clear hK K h0_21
            clear f0 f1 f2 f3
            try simp only [sF]
            try simp only [sE]
            refine wpAnyH_done (by kernel_rfl) ?_ _
            have PE := PS.out.put (adR s (muR (k, 1) y)).1 (adR s (muR (k, 1) y)).2
            have BE := below_put (below_on B3.out Bc.out) Z2.out (.int .i64 (adR s (muR (k, 1) y)).1) (.int .i64 (adR s (muR (k, 1) y)).2)
            obtain ⟨we, hwe⟩ : ∃ we, we = (wc.setCell ⟨b5, 0, none⟩ (.int .i64 (adR s (muR (k, 1) y)).1)).setCell ⟨b5, 1, none⟩ (.int .i64 (adR s (muR (k, 1) y)).2) := ⟨_, rfl⟩
            rw [← hwe] at PE BE ⊢
            have PX := Lib.hid PE
            have BX := Lib.hid BE
            clear hwe PE BE
            go_wp2_with fail
            go_roundw
            case rel => exact ⟨t + 1, by go_num, by omega, Lib.hid (by rw [EA.out M0.out]; exact M1.out), Lib.hid (by rw [EA.out M0.out]; exact PX.out), BX⟩
            case measure => simp [intOf]; omega
    · obtain rfl : t = n := by omega
      have P0w := Lib.hid (P0.out.kept HB.out)
      have B4 := Lib.hid (below_on E0.out HB.out)
      obtain ⟨f0, f1, f2, f3⟩ := HP.out.facts
      obtain ⟨g0, g1, g2, g3⟩ := P0w.out.facts
      obtain ⟨s, hs⟩ : ∃ s, s = (atN x.a ps t).1 := ⟨_, rfl⟩
      rw [← hs] at f0 f1
      have HSS := Lib.hid hs
      clear hs
      go_wp2_with fail
      refine bodyPost_ret (v := .agg #[.int .i64 s.1, .int .i64 s.2]) (by simp [results, Tryz.results136, go_sem, g0, g1]) rfl ⟨below_put B4.out (by omega) _ _, Or.inl ⟨HE.out, by rw [HSS.out]⟩⟩
end Go.Proofs.YtbhaoaobhgilkaaGreat
