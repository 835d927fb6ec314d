/- The contract of package poly's at.; The closures of package poly's ends.; The contract of package poly's ends.; The contract of package poly's between.; The contract of package poly's point.; The contract of package poly's infimum.; The contract of package poly's Least.; The contract of package poly's Least.; The contract of package poly's Point.; The contract of package poly's Without.; Plain mathematics: the examples of the statements. -/
import Derived.Test.YtefpaobboimakaaGreatHp4
import Derived.Deep.RegionHeld3
import Derived.Test.YtefpaobboimakaaGreatHp2
import Derived.ArgAppend
import Derived.Test.YtefpaobboimakaaGreatHp1

namespace Go.Proofs.YtefpaobboimakaaGreat
open Go.RowKit Go.Sort Go.Shelf

/-- The sum of the first t coefficients times coordinates, and the error; behind an error nothing is looked at. -/
def atN (a : List Int) (ps : List Pq) : Nat → Pq × Int
  | 0 => ((0, 1), 0)
  | t + 1 => if (atN a ps t).2 ≠ 0 then atN a ps t else if muE (gA a t, 1) (gp ps t) ≠ 0 then ((0, 0), muE (gA a t, 1) (gp ps t)) else
    (adR (atN a ps t).1 (muR (gA a t, 1) (gp ps t)), adE (atN a ps t).1 (muR (gA a t, 1) (gp ps t)))

theorem atN_stop {a : List Int} {ps : List Pq} {t : Nat} (h : (atN a ps t).2 ≠ 0) : ∀ j, atN a ps (t + j) = atN a ps t
  | 0 => rfl
  | j + 1 => by
    have e : atN a ps (t + (j + 1)) = if (atN a ps (t + j)).2 ≠ 0 then atN a ps (t + j) else if muE (gA a (t + j), 1) (gp ps (t + j)) ≠ 0 then ((0, 0), muE (gA a (t + j), 1) (gp ps (t + j))) else (adR (atN a ps (t + j)).1 (muR (gA a (t + j), 1) (gp ps (t + j))), adE (atN a ps (t + j)).1 (muR (gA a (t + j), 1) (gp ps (t + j)))) := rfl
    rw [e, atN_stop h j, if_pos h]

theorem atN_mul {a : List Int} {ps : List Pq} {t : Nat} (h : (atN a ps t).2 = 0) (k : muE (gA a t, 1) (gp ps t) ≠ 0) : (atN a ps (t + 1)).2 = muE (gA a t, 1) (gp ps t) := by
  show (if (atN a ps t).2 ≠ 0 then _ else if muE (gA a t, 1) (gp ps t) ≠ 0 then _ else _ : Pq × Int).2 = _
  rw [if_neg (by simpa using h), if_pos k]

theorem atN_add {a : List Int} {ps : List Pq} {t : Nat} (h : (atN a ps t).2 = 0) (k : muE (gA a t, 1) (gp ps t) = 0) : atN a ps (t + 1) = (adR (atN a ps t).1 (muR (gA a t, 1) (gp ps t)), adE (atN a ps t).1 (muR (gA a t, 1) (gp ps t))) := by
  show (if (atN a ps t).2 ≠ 0 then _ else if muE (gA a t, 1) (gp ps t) ≠ 0 then _ else _ : Pq × Int) = _
  rw [if_neg (by simpa using h), if_neg (by simpa using k)]

theorem atN_end {a : List Int} {ps : List Pq} {t n : Nat} (ht : t ≤ n) (h : (atN a ps t).2 ≠ 0) : (atN a ps n).2 = (atN a ps t).2 := by
  have := atN_stop h (n - t)
  rw [show t + (n - t) = n by omega] at this
  rw [this]

theorem atN_64 (a : List Int) (ps : List Pq) (t : Nat) : I2 (atN a ps t).1 := by
  induction t with
  | zero => unfold I2 I64 atN; simp
  | succ t ih =>
    show I2 (if (atN a ps t).2 ≠ 0 then atN a ps t else if muE (gA a t, 1) (gp ps t) ≠ 0 then ((0, 0), muE (gA a t, 1) (gp ps t)) else (adR (atN a ps t).1 (muR (gA a t, 1) (gp ps t)), adE (atN a ps t).1 (muR (gA a t, 1) (gp ps t)))).1
    split
    · exact ih
    · split
      · unfold I2 I64; simp
      · exact adR_64 _ _

/-- What a function leaves that returns a ratio, or panics with an error. -/
def QRes (w : World) (x : Pq) (er : Int) (e : Ending) (w' : World) : Prop := Below w.heap.size w w' ∧ ((er = 0 ∧ e = .returned (.agg #[.int .i64 x.1, .int .i64 x.2])) ∨ (er ≠ 0 ∧ e = .panicked (pan er)))

set_option maxRecDepth 100000 in
set_option maxHeartbeats 4000000 in
theorem at_any (x : Ln) (ps : List Pq) (ao : Option Addr) (cap : Nat) (w : World) (hx : Rg 2147483647 x) (hn : ps.length ≤ 6) (hR : Rd2 w ao ps) (hI : ∀ t, t < ps.length → I2 (gp ps t)) :
    Calls Tryz.prog 136 #[.agg x.cs, .slice ao ps.length cap] w (QRes w (atN x.a ps ps.length).1 (atN x.a ps ps.length).2) := by
  obtain ⟨w0, hw0⟩ : ∃ w0, w0 = (w.alloc (.cells x.cs 82)).alloc (.cells #[.int .i64 0, .int .i64 0] 50) := ⟨_, rfl⟩
  have K0 := Lib.hid (show Bk w0 w.heap.size x by rw [hw0]; exact (Bk.made w x hx.len).alloc _)
  have P0 := Lib.hid (show Pair w0 (w.heap.size + 1) 0 0 by rw [hw0]; have := Pair.made (w.alloc (.cells x.cs 82)) 0 0 50; simpa using this)
  have E0 := Lib.hid (show Below w.heap.size w w0 by rw [hw0]; exact past_two (Below.refl _ _))
  obtain ⟨n, hN⟩ : ∃ n, n = ps.length := ⟨_, rfl⟩
  have RD := Lib.hid (show ∀ W, Below w0.heap.size w0 W → ∀ t, t < n → ∃ a, ao = some a ∧ QAt W (a.add (t * 2)) (gp ps t) from fun W h t ht => ((hR.on E0.out).on h) t (by omega))
  have IP := Lib.hid (show ∀ t, t < n → I2 (gp ps t) from fun t ht => hI t (by omega))
  have IA := Lib.hid (show ∀ t, t < n → I2 (gA x.a t, 1) from fun t ht => by have := hx.at (t := t) (by omega); exact wh_64 (by unfold I64; omega))
  have N6 := Lib.hid (show n ≤ 6 by omega)
  have AG := Lib.hid (show ∀ t, t < n → ∀ W, Bk W w.heap.size x → W.cell? ⟨w.heap.size, t, none⟩ = some (.int .i64 (gA x.a t)) from fun t ht W h => h.at (by omega))
  rw [← hN]
  clear hR hI hx hN hn
  go_enter Tryz.func136, Tryz.ntmps136
  go_upto_region 1 with (fail)
  rw [← hw0]
  clear hw0
  go_wp2_with fail
  refine (whole_any 0 w0).mono ?_
  rintro e w1 ⟨rfl, hb⟩
  obtain ⟨b5, hb5⟩ : ∃ b, b = w1.heap.size := ⟨_, rfl⟩
  obtain ⟨w2, hw2⟩ : ∃ w2, w2 = w1.alloc (.cells #[.int .i64 0, .int .i64 1] 50) := ⟨_, rfl⟩
  have P2 := Lib.hid (show Pair w2 b5 0 1 by rw [hw2, hb5]; exact Pair.made _ _ _ _)
  have B2 := Lib.hid (show Below w0.heap.size w0 w2 by rw [hw2]; exact hb.alloc hb.size _)
  have Z2 := Lib.hid (show w0.heap.size ≤ b5 by rw [hb5]; exact hb.size)
  clear hb
  go_upto_region 2 with (fail)
  rw [← hw2, ← hb5]
  clear hw2 hb5
  go_wp2_with fail
  go_loopw [11] (fun s wr => ∃ t : Nat, s = .int .i64 t ∧ t ≤ n ∧ Hid ((atN x.a ps t).2 = 0) ∧ Hid (Pair wr b5 (atN x.a ps t).1.1 (atN x.a ps t).1.2) ∧ Hid (Below w0.heap.size w0 wr)) (fun s _ => n - (intOf s).toNat)
  case atStart => exact ⟨0, rfl, by omega, Lib.hid rfl, P2, B2⟩
  case round =>
    obtain ⟨t, rfl, ht, HE, HP, HB⟩ := hrel
    by_cases htn : t < n
    · obtain ⟨p, hp, c0⟩ := RD.out wr HB.out t htn
      have C0 := Lib.hid c0
      have t6 : (t : Int) < 6 := by have := N6.out; omega
      have TN := Lib.hid htn
      obtain ⟨y, hy⟩ : ∃ y, y = gp ps t := ⟨_, rfl⟩
      have Y2 := Lib.hid (show I2 y by rw [hy]; exact IP.out t htn)
      have HY := Lib.hid hy
      rw [← hy] at C0
      obtain ⟨s, hs⟩ : ∃ s, s = (atN x.a ps t).1 := ⟨_, rfl⟩
      have S2 := Lib.hid (show I2 s by rw [hs]; exact atN_64 _ _ _)
      have HS := Lib.hid hs
      rw [← hs] at HP
      subst hp
      obtain ⟨k, hk⟩ : ∃ k, k = gA x.a t := ⟨_, rfl⟩
      have A2 := Lib.hid (show I2 (k, 1) by rw [hk]; exact IA.out t htn)
      have G0 := Lib.hid (show ∀ W, Bk W w.heap.size x → W.cell? ⟨w.heap.size, t, none⟩ = some (.int .i64 k) from fun W h => by rw [hk]; exact AG.out t htn W h)
      have HK := Lib.hid hk
      have EM := Lib.hid (show ∀ h : muE (k, 1) y ≠ 0, (atN x.a ps n).2 = muE (k, 1) y from fun h => by
        rw [hk, hy] at h ⊢
        have e := atN_mul HE.out h
        rw [atN_end (t := t + 1) (by omega) (by rw [e]; exact h), e])
      have EA := Lib.hid (show ∀ h : muE (k, 1) y = 0, atN x.a ps (t + 1) = (adR s (muR (k, 1) y), adE s (muR (k, 1) y)) from fun h => by
        rw [hk, hy] at h ⊢
        rw [hs]
        exact atN_add HE.out h)
      have ES := Lib.hid (show (atN x.a ps (t + 1)).2 ≠ 0 → (atN x.a ps n).2 = (atN x.a ps (t + 1)).2 from fun h => atN_end (by omega) h)
      obtain ⟨w3, hw3⟩ : ∃ w3, w3 = wr.alloc (.cells #[.int .i64 y.1, .int .i64 y.2] 50) := ⟨_, rfl⟩
      obtain ⟨q, hq⟩ : ∃ q, q = wr.heap.size := ⟨_, rfl⟩
      have Q3 := Lib.hid (show Pair w3 q y.1 y.2 by rw [hw3, hq]; exact Pair.made _ _ _ _)
      have NQ := Lib.hid (show b5 ≠ q by rw [hq]; have := HP.out.lt; omega)
      have B3 := Lib.hid (show Below w0.heap.size w0 w3 by rw [hw3]; exact HB.out.alloc HB.out.size _)
      have P3 := Lib.hid (show Pair w3 b5 s.1 s.2 by rw [hw3]; exact HP.out.alloc _)
      clear c0 hy hs hk HB HP
      go_upto_region 5 with (refine wpl_loadQ rfl _ rfl _ rfl y C0.out ?_)
      rw [← hw3, ← hq]
      clear hw3 hq C0
      have KS := Lib.hid (show ∀ W, Below w3.heap.size w3 W → (W.cell? ⟨w.heap.size, t, none⟩ = some (.int .i64 k) ∧ W.cell? ⟨q, 0, none⟩ = some (.int .i64 y.1) ∧ W.cell? ⟨q, 1, none⟩ = some (.int .i64 y.2)) from fun W h => ⟨G0.out W (K0.out.kept (below_on B3.out h)), (Q3.out.kept h).facts.1, (Q3.out.kept h).facts.2.1⟩)
      obtain ⟨wc, hwc⟩ : ∃ wc, wc = w3.drew := ⟨_, rfl⟩
      have Bc := Lib.hid (show Below w3.heap.size w3 wc by rw [hwc]; exact (Below.refl _ _).drew)
      have PS := Lib.hid (P3.out.kept Bc.out)
      have KS2 := Lib.hid (show ∀ W, Below w3.heap.size w3 W → ∀ u v, (fun W => (W.cell? ⟨w.heap.size, t, none⟩ = some (.int .i64 k) ∧ W.cell? ⟨q, 0, none⟩ = some (.int .i64 y.1) ∧ W.cell? ⟨q, 1, none⟩ = some (.int .i64 y.2))) ((W.setCell ⟨b5, 0, none⟩ u).setCell ⟨b5, 1, none⟩ v) from fun W h u v => by
        have n1 : b5 ≠ w.heap.size := by have := Z2.out; have := K0.out.lt; omega
        have n2 : b5 ≠ q := NQ.out
        exact ⟨G0.out _ (((K0.out.kept (below_on B3.out h)).aside n1.symm u).aside n1.symm v), ((Q3.out.kept h).aside n2 u v).facts.1, ((Q3.out.kept h).aside n2 u v).facts.2.1⟩)
      refine wp_region_held_drew (S := (fun W => (W.cell? ⟨w.heap.size, t, none⟩ = some (.int .i64 k) ∧ W.cell? ⟨q, 0, none⟩ = some (.int .i64 y.1) ∧ W.cell? ⟨q, 1, none⟩ = some (.int .i64 y.2)))) (by kernel_rfl) (by rw [← hwc]; exact KS.out _ Bc.out) (fun h0 => ?_)
      rw [← hwc] at h0 ⊢
      clear hwc
      refine wpAnyH_take (i := 1) (v := ?v1) rfl (by kernel_rfl) (by kernel_rfl) (by kernel_rfl) (fun _ _ _ h => h) (Or.inl ⟨by rfl, ?hy1⟩) h0 ?rest1
      case hy1 => (intro w' hS; (try dsimp only at hS); go_simp; try (with_reducible rfl))
      simp only [Act.put, List.getElem_toArray, List.getElem_cons_zero, List.getElem_cons_succ, List.setIfInBounds_toArray, List.set_cons_zero, List.set_cons_succ]
      refine wpAnyH_take (i := 2) (v := ?v2) rfl (by kernel_rfl) (by kernel_rfl) (by kernel_rfl) (fun _ _ _ h => h) (Or.inl ⟨by rfl, ?hy2⟩) h0 ?rest2
      case hy2 => (intro w' hS; (try dsimp only at hS); go_simp; try (with_reducible rfl))
      simp only [Act.put, List.getElem_toArray, List.getElem_cons_zero, List.getElem_cons_succ, List.setIfInBounds_toArray, List.set_cons_zero, List.set_cons_succ]
      refine wpAnyH_take (i := 3) (v := ?v3) rfl (by kernel_rfl) (by kernel_rfl) (by kernel_rfl) (fun _ _ _ h => h) (Or.inl ⟨by rfl, ?hy3⟩) h0 ?rest3
      case hy3 => (intro w' hS; (try dsimp only at hS); go_simp; try (with_reducible rfl))
      simp only [Act.put, List.getElem_toArray, List.getElem_cons_zero, List.getElem_cons_succ, List.setIfInBounds_toArray, List.set_cons_zero, List.set_cons_succ]
      refine wpAnyH_take (i := 4) (v := ?v4) rfl (by kernel_rfl) (by kernel_rfl) (by kernel_rfl) (fun _ _ _ h => h) (Or.inl ⟨by rfl, ?hy4⟩) h0 ?rest4
      case hy4 => (intro w' hS; (try dsimp only at hS); go_simp; try (with_reducible rfl))
      simp only [Act.put, List.getElem_toArray, List.getElem_cons_zero, List.getElem_cons_succ, List.setIfInBounds_toArray, List.set_cons_zero, List.set_cons_succ]
      refine wpAnyH_take (i := 6) (v := ?v5) rfl (by kernel_rfl) (by kernel_rfl) (by kernel_rfl) (fun _ _ _ h => h) (Or.inl ⟨by rfl, ?hy5⟩) h0 ?rest5
      case hy5 => (intro w' hS; (try dsimp only at hS); go_simp; try (with_reducible rfl))
      simp only [Act.put, List.getElem_toArray, List.getElem_cons_zero, List.getElem_cons_succ, List.setIfInBounds_toArray, List.set_cons_zero, List.set_cons_succ]
      refine wpAnyH_ready (rs := [0, 5]) (by kernel_rfl) (by simp) (AllReadyH.cons rfl (fun K hK => ?_) (AllReadyH.cons rfl (fun K hK => ?_) AllReadyH.nil))
      · rw [if_pos (by rfl)]
        refine wp_loadQ _ rfl _ rfl s PS.out.qAt ?_
        try simp only [Act.put, List.getElem_toArray, List.getElem_cons_zero, List.getElem_cons_succ, List.setIfInBounds_toArray, List.set_cons_zero, List.set_cons_succ]
        refine hK.out _ _ (KS.out _ Bc.out) (fun h0_1 => ?_)
        clear hK K h0
        refine wpAnyH_ready (rs := [5]) (by kernel_rfl) (by simp) (AllReadyH.cons rfl (fun K hK => ?_) AllReadyH.nil)
        rw [if_pos (by rfl)]
        go_simp
        refine (whole_any k wc).mono ?_
        rintro e wc ⟨rfl, hb⟩
        have PS := Lib.hid (PS.out.kept hb)
        have Bc := Lib.hid (below_on Bc.out hb)
        clear hb
        go_simp
        refine hK.out _ _ (KS.out _ Bc.out) (fun h0_2 => ?_)
        clear hK K h0_1
        refine wpAnyH_ready (rs := [7]) (by kernel_rfl) (by simp) (AllReadyH.cons rfl (fun K hK => ?_) AllReadyH.nil)
        rw [if_pos (by rfl)]
        go_simp
        refine (mulP_any (k, 1) y wc A2.out Y2.out).mono ?_
        rintro e wc ⟨rfl, hb⟩
        have PS := Lib.hid (PS.out.kept hb)
        have Bc := Lib.hid (below_on Bc.out hb)
        clear hb
        go_simp
        refine hK.out _ _ (KS.out _ Bc.out) (fun h0_3 => ?_)
        clear hK K h0_2
        refine wpAnyH_take (i := 8) (v := ?v6) rfl (by kernel_rfl) (by kernel_rfl) (by kernel_rfl) (fun _ _ _ h => h) (Or.inl ⟨by rfl, ?hy6⟩) h0_3 ?rest6
        case hy6 => (intro w' hS; (try dsimp only at hS); go_simp; try (with_reducible rfl))
        simp only [Act.put, List.getElem_toArray, List.getElem_cons_zero, List.getElem_cons_succ, List.setIfInBounds_toArray, List.set_cons_zero, List.set_cons_succ]
        refine wpAnyH_take (i := 9) (v := ?v7) rfl (by kernel_rfl) (by kernel_rfl) (by kernel_rfl) (fun _ _ _ h => h) (Or.inl ⟨by rfl, ?hy7⟩) h0_3 ?rest7
        case hy7 => (intro w' hS; (try dsimp only at hS); go_simp; try (with_reducible rfl))
        simp only [Act.put, List.getElem_toArray, List.getElem_cons_zero, List.getElem_cons_succ, List.setIfInBounds_toArray, List.set_cons_zero, List.set_cons_succ]
        refine wpAnyH_ready (rs := [10]) (by kernel_rfl) (by simp) (AllReadyH.cons rfl (fun K hK => ?_) AllReadyH.nil)
        rw [if_pos (by rfl)]
        go_simp
        refine (mustR_any (muR (k, 1) y) (muE (k, 1) y) wc).mono ?_
        rintro e wc ⟨hb, (⟨he, rfl⟩ | ⟨he, rfl⟩)⟩
        rotate_left
        · exact And.intro rfl ⟨below_on E0.out (below_on B3.out (below_on Bc.out hb)), Or.inr ⟨by rw [EM.out he]; exact he, by rw [EM.out he]⟩⟩
        have PS := Lib.hid (PS.out.kept hb)
        have Bc := Lib.hid (below_on Bc.out hb)
        have M0 := Lib.hid he
        clear hb he
        go_simp
        refine hK.out _ _ (KS.out _ Bc.out) (fun h0_4 => ?_)
        clear hK K h0_3
        refine wpAnyH_ready (rs := [11]) (by kernel_rfl) (by simp) (AllReadyH.cons rfl (fun K hK => ?_) AllReadyH.nil)
        rw [if_pos (by rfl)]
        go_simp
        refine (addP_any s (muR (k, 1) y) wc S2.out (muR_64 _ _)).mono ?_
        rintro e wc ⟨rfl, hb⟩
        have PS := Lib.hid (PS.out.kept hb)
        have Bc := Lib.hid (below_on Bc.out hb)
        clear hb
        go_simp
        refine hK.out _ _ (KS.out _ Bc.out) (fun h0_5 => ?_)
        clear hK K h0_4
        refine wpAnyH_take (i := 12) (v := ?v8) rfl (by kernel_rfl) (by kernel_rfl) (by kernel_rfl) (fun _ _ _ h => h) (Or.inl ⟨by rfl, ?hy8⟩) h0_5 ?rest8
        case hy8 => (intro w' hS; (try dsimp only at hS); go_simp; try (with_reducible rfl))
        simp only [Act.put, List.getElem_toArray, List.getElem_cons_zero, List.getElem_cons_succ, List.setIfInBounds_toArray, List.set_cons_zero, List.set_cons_succ]
        refine wpAnyH_take (i := 13) (v := ?v9) rfl (by kernel_rfl) (by kernel_rfl) (by kernel_rfl) (fun _ _ _ h => h) (Or.inl ⟨by rfl, ?hy9⟩) h0_5 ?rest9
        case hy9 => (intro w' hS; (try dsimp only at hS); go_simp; try (with_reducible rfl))
        simp only [Act.put, List.getElem_toArray, List.getElem_cons_zero, List.getElem_cons_succ, List.setIfInBounds_toArray, List.set_cons_zero, List.set_cons_succ]
        refine wpAnyH_ready (rs := [14]) (by kernel_rfl) (by simp) (AllReadyH.cons rfl (fun K hK => ?_) AllReadyH.nil)
        rw [if_pos (by rfl)]
        go_simp
        refine (mustR_any (adR s (muR (k, 1) y)) (adE s (muR (k, 1) y)) wc).mono ?_
        rintro e wc ⟨hb, (⟨he, rfl⟩ | ⟨he, rfl⟩)⟩
        rotate_left
        · exact And.intro rfl ⟨below_on E0.out (below_on B3.out (below_on Bc.out hb)), Or.inr (by have e := congrArg Prod.snd (EA.out M0.out); have e2 := ES.out (by rw [e]; exact he); rw [e2, e]; exact ⟨he, rfl⟩)⟩
        have PS := Lib.hid (PS.out.kept hb)
        have Bc := Lib.hid (below_on Bc.out hb)
        have M1 := Lib.hid he
        clear hb he
        go_simp
        refine hK.out _ _ (KS.out _ Bc.out) (fun h0_6 => ?_)
        clear hK K h0_5
        refine wpAnyH_ready (rs := [15]) (by kernel_rfl) (by simp) (AllReadyH.cons rfl (fun K hK => ?_) AllReadyH.nil)
        rw [if_pos (by rfl)]
        go_simp
        obtain ⟨f0, f1, f2, f3⟩ := PS.out.facts
        go_simp
        refine hK.out _ _ (KS2.out _ Bc.out _ _) (fun h0_7 => ?_)
        clear hK K h0_6
        clear f0 f1 f2 f3
        try simp only [List.set_cons_succ]
        try simp only [List.set_cons_zero]
        refine wpAnyH_done (by kernel_rfl) ?_ _
        have PE := PS.out.put (adR s (muR (k, 1) y)).1 (adR s (muR (k, 1) y)).2
        have BE := below_put (below_on B3.out Bc.out) Z2.out (.int .i64 (adR s (muR (k, 1) y)).1) (.int .i64 (adR s (muR (k, 1) y)).2)
        obtain ⟨we, hwe⟩ : ∃ we, we = (wc.setCell ⟨b5, 0, none⟩ (.int .i64 (adR s (muR (k, 1) y)).1)).setCell ⟨b5, 1, none⟩ (.int .i64 (adR s (muR (k, 1) y)).2) := ⟨_, rfl⟩
        rw [← hwe] at PE BE ⊢
        have PX := Lib.hid PE
        have BX := Lib.hid BE
        clear hwe PE BE
        go_wp2_with fail
        go_roundw
        case rel => exact ⟨t + 1, by go_num, by omega, Lib.hid (by rw [EA.out M0.out]; exact M1.out), Lib.hid (by rw [EA.out M0.out]; exact PX.out), BX⟩
        case measure => simp [intOf]; omega
      · rw [if_pos (by rfl)]
        go_simp
        refine (whole_any k wc).mono ?_
        rintro e wc ⟨rfl, hb⟩
        have PS := Lib.hid (PS.out.kept hb)
        have Bc := Lib.hid (below_on Bc.out hb)
        clear hb
        go_simp
        refine hK.out _ _ (KS.out _ Bc.out) (fun h0_1 => ?_)
        clear hK K h0
        refine wpAnyH_ready (rs := [0, 7]) (by kernel_rfl) (by simp) (AllReadyH.cons rfl (fun K hK => ?_) (AllReadyH.cons rfl (fun K hK => ?_) AllReadyH.nil))
        · rw [if_pos (by rfl)]
          refine wp_loadQ _ rfl _ rfl s PS.out.qAt ?_
          try simp only [Act.put, List.getElem_toArray, List.getElem_cons_zero, List.getElem_cons_succ, List.setIfInBounds_toArray, List.set_cons_zero, List.set_cons_succ]
          refine hK.out _ _ (KS.out _ Bc.out) (fun h0_8 => ?_)
          clear hK K h0_1
          refine wpAnyH_ready (rs := [7]) (by kernel_rfl) (by simp) (AllReadyH.cons rfl (fun K hK => ?_) AllReadyH.nil)
          rw [if_pos (by rfl)]
          go_simp
          refine (mulP_any (k, 1) y wc A2.out Y2.out).mono ?_
          rintro e wc ⟨rfl, hb⟩
          have PS := Lib.hid (PS.out.kept hb)
          have Bc := Lib.hid (below_on Bc.out hb)
          clear hb
          go_simp
          refine hK.out _ _ (KS.out _ Bc.out) (fun h0_9 => ?_)
          clear hK K h0_8
          refine wpAnyH_take (i := 8) (v := ?v10) rfl (by kernel_rfl) (by kernel_rfl) (by kernel_rfl) (fun _ _ _ h => h) (Or.inl ⟨by rfl, ?hy10⟩) h0_9 ?rest10
          case hy10 => (intro w' hS; (try dsimp only at hS); go_simp; try (with_reducible rfl))
          simp only [Act.put, List.getElem_toArray, List.getElem_cons_zero, List.getElem_cons_succ, List.setIfInBounds_toArray, List.set_cons_zero, List.set_cons_succ]
          refine wpAnyH_take (i := 9) (v := ?v11) rfl (by kernel_rfl) (by kernel_rfl) (by kernel_rfl) (fun _ _ _ h => h) (Or.inl ⟨by rfl, ?hy11⟩) h0_9 ?rest11
          case hy11 => (intro w' hS; (try dsimp only at hS); go_simp; try (with_reducible rfl))
          simp only [Act.put, List.getElem_toArray, List.getElem_cons_zero, List.getElem_cons_succ, List.setIfInBounds_toArray, List.set_cons_zero, List.set_cons_succ]
          refine wpAnyH_ready (rs := [10]) (by kernel_rfl) (by simp) (AllReadyH.cons rfl (fun K hK => ?_) AllReadyH.nil)
          rw [if_pos (by rfl)]
          go_simp
          refine (mustR_any (muR (k, 1) y) (muE (k, 1) y) wc).mono ?_
          rintro e wc ⟨hb, (⟨he, rfl⟩ | ⟨he, rfl⟩)⟩
          rotate_left
          · exact And.intro rfl ⟨below_on E0.out (below_on B3.out (below_on Bc.out hb)), Or.inr ⟨by rw [EM.out he]; exact he, by rw [EM.out he]⟩⟩
          have PS := Lib.hid (PS.out.kept hb)
          have Bc := Lib.hid (below_on Bc.out hb)
          have M0 := Lib.hid he
          clear hb he
          go_simp
          refine hK.out _ _ (KS.out _ Bc.out) (fun h0_10 => ?_)
          clear hK K h0_9
          refine wpAnyH_ready (rs := [11]) (by kernel_rfl) (by simp) (AllReadyH.cons rfl (fun K hK => ?_) AllReadyH.nil)
          rw [if_pos (by rfl)]
          go_simp
          refine (addP_any s (muR (k, 1) y) wc S2.out (muR_64 _ _)).mono ?_
          rintro e wc ⟨rfl, hb⟩
          have PS := Lib.hid (PS.out.kept hb)
          have Bc := Lib.hid (below_on Bc.out hb)
          clear hb
          go_simp
          refine hK.out _ _ (KS.out _ Bc.out) (fun h0_11 => ?_)
          clear hK K h0_10
          refine wpAnyH_take (i := 12) (v := ?v12) rfl (by kernel_rfl) (by kernel_rfl) (by kernel_rfl) (fun _ _ _ h => h) (Or.inl ⟨by rfl, ?hy12⟩) h0_11 ?rest12
          case hy12 => (intro w' hS; (try dsimp only at hS); go_simp; try (with_reducible rfl))
          simp only [Act.put, List.getElem_toArray, List.getElem_cons_zero, List.getElem_cons_succ, List.setIfInBounds_toArray, List.set_cons_zero, List.set_cons_succ]
          refine wpAnyH_take (i := 13) (v := ?v13) rfl (by kernel_rfl) (by kernel_rfl) (by kernel_rfl) (fun _ _ _ h => h) (Or.inl ⟨by rfl, ?hy13⟩) h0_11 ?rest13
          case hy13 => (intro w' hS; (try dsimp only at hS); go_simp; try (with_reducible rfl))
          simp only [Act.put, List.getElem_toArray, List.getElem_cons_zero, List.getElem_cons_succ, List.setIfInBounds_toArray, List.set_cons_zero, List.set_cons_succ]
          refine wpAnyH_ready (rs := [14]) (by kernel_rfl) (by simp) (AllReadyH.cons rfl (fun K hK => ?_) AllReadyH.nil)
          rw [if_pos (by rfl)]
          go_simp
          refine (mustR_any (adR s (muR (k, 1) y)) (adE s (muR (k, 1) y)) wc).mono ?_
          rintro e wc ⟨hb, (⟨he, rfl⟩ | ⟨he, rfl⟩)⟩
          rotate_left
          · exact And.intro rfl ⟨below_on E0.out (below_on B3.out (below_on Bc.out hb)), Or.inr (by have e := congrArg Prod.snd (EA.out M0.out); have e2 := ES.out (by rw [e]; exact he); rw [e2, e]; exact ⟨he, rfl⟩)⟩
          have PS := Lib.hid (PS.out.kept hb)
          have Bc := Lib.hid (below_on Bc.out hb)
          have M1 := Lib.hid he
          clear hb he
          go_simp
          refine hK.out _ _ (KS.out _ Bc.out) (fun h0_12 => ?_)
          clear hK K h0_11
          refine wpAnyH_ready (rs := [15]) (by kernel_rfl) (by simp) (AllReadyH.cons rfl (fun K hK => ?_) AllReadyH.nil)
          rw [if_pos (by rfl)]
          go_simp
          obtain ⟨f0, f1, f2, f3⟩ := PS.out.facts
          go_simp
          refine hK.out _ _ (KS2.out _ Bc.out _ _) (fun h0_13 => ?_)
          clear hK K h0_12
          clear f0 f1 f2 f3
          try simp only [List.set_cons_succ]
          try simp only [List.set_cons_zero]
          refine wpAnyH_done (by kernel_rfl) ?_ _
          have PE := PS.out.put (adR s (muR (k, 1) y)).1 (adR s (muR (k, 1) y)).2
          have BE := below_put (below_on B3.out Bc.out) Z2.out (.int .i64 (adR s (muR (k, 1) y)).1) (.int .i64 (adR s (muR (k, 1) y)).2)
          obtain ⟨we, hwe⟩ : ∃ we, we = (wc.setCell ⟨b5, 0, none⟩ (.int .i64 (adR s (muR (k, 1) y)).1)).setCell ⟨b5, 1, none⟩ (.int .i64 (adR s (muR (k, 1) y)).2) := ⟨_, rfl⟩
          rw [← hwe] at PE BE ⊢
          have PX := Lib.hid PE
          have BX := Lib.hid BE
          clear hwe PE BE
          go_wp2_with fail
          go_roundw
          case rel => exact ⟨t + 1, by go_num, by omega, Lib.hid (by rw [EA.out M0.out]; exact M1.out), Lib.hid (by rw [EA.out M0.out]; exact PX.out), BX⟩
          case measure => simp [intOf]; omega
        · rw [if_pos (by rfl)]
          go_simp
          refine (mulP_any (k, 1) y wc A2.out Y2.out).mono ?_
          rintro e wc ⟨rfl, hb⟩
          have PS := Lib.hid (PS.out.kept hb)
          have Bc := Lib.hid (below_on Bc.out hb)
          clear hb
          go_simp
          refine hK.out _ _ (KS.out _ Bc.out) (fun h0_8 => ?_)
          clear hK K h0_1
          refine wpAnyH_take (i := 8) (v := ?v14) rfl (by kernel_rfl) (by kernel_rfl) (by kernel_rfl) (fun _ _ _ h => h) (Or.inl ⟨by rfl, ?hy14⟩) h0_8 ?rest14
          case hy14 => (intro w' hS; (try dsimp only at hS); go_simp; try (with_reducible rfl))
          simp only [Act.put, List.getElem_toArray, List.getElem_cons_zero, List.getElem_cons_succ, List.setIfInBounds_toArray, List.set_cons_zero, List.set_cons_succ]
          refine wpAnyH_take (i := 9) (v := ?v15) rfl (by kernel_rfl) (by kernel_rfl) (by kernel_rfl) (fun _ _ _ h => h) (Or.inl ⟨by rfl, ?hy15⟩) h0_8 ?rest15
          case hy15 => (intro w' hS; (try dsimp only at hS); go_simp; try (with_reducible rfl))
          simp only [Act.put, List.getElem_toArray, List.getElem_cons_zero, List.getElem_cons_succ, List.setIfInBounds_toArray, List.set_cons_zero, List.set_cons_succ]
          refine wpAnyH_ready (rs := [0, 10]) (by kernel_rfl) (by simp) (AllReadyH.cons rfl (fun K hK => ?_) (AllReadyH.cons rfl (fun K hK => ?_) AllReadyH.nil))
          · rw [if_pos (by rfl)]
            refine wp_loadQ _ rfl _ rfl s PS.out.qAt ?_
            try simp only [Act.put, List.getElem_toArray, List.getElem_cons_zero, List.getElem_cons_succ, List.setIfInBounds_toArray, List.set_cons_zero, List.set_cons_succ]
            refine hK.out _ _ (KS.out _ Bc.out) (fun h0_14 => ?_)
            clear hK K h0_8
            refine wpAnyH_ready (rs := [10]) (by kernel_rfl) (by simp) (AllReadyH.cons rfl (fun K hK => ?_) AllReadyH.nil)
            rw [if_pos (by rfl)]
            go_simp
            refine (mustR_any (muR (k, 1) y) (muE (k, 1) y) wc).mono ?_
            rintro e wc ⟨hb, (⟨he, rfl⟩ | ⟨he, rfl⟩)⟩
            rotate_left
            · exact And.intro rfl ⟨below_on E0.out (below_on B3.out (below_on Bc.out hb)), Or.inr ⟨by rw [EM.out he]; exact he, by rw [EM.out he]⟩⟩
            have PS := Lib.hid (PS.out.kept hb)
            have Bc := Lib.hid (below_on Bc.out hb)
            have M0 := Lib.hid he
            clear hb he
            go_simp
            refine hK.out _ _ (KS.out _ Bc.out) (fun h0_15 => ?_)
            clear hK K h0_14
            refine wpAnyH_ready (rs := [11]) (by kernel_rfl) (by simp) (AllReadyH.cons rfl (fun K hK => ?_) AllReadyH.nil)
            rw [if_pos (by rfl)]
            go_simp
            refine (addP_any s (muR (k, 1) y) wc S2.out (muR_64 _ _)).mono ?_
            rintro e wc ⟨rfl, hb⟩
            have PS := Lib.hid (PS.out.kept hb)
            have Bc := Lib.hid (below_on Bc.out hb)
            clear hb
            go_simp
            refine hK.out _ _ (KS.out _ Bc.out) (fun h0_16 => ?_)
            clear hK K h0_15
            refine wpAnyH_take (i := 12) (v := ?v16) rfl (by kernel_rfl) (by kernel_rfl) (by kernel_rfl) (fun _ _ _ h => h) (Or.inl ⟨by rfl, ?hy16⟩) h0_16 ?rest16
            case hy16 => (intro w' hS; (try dsimp only at hS); go_simp; try (with_reducible rfl))
            simp only [Act.put, List.getElem_toArray, List.getElem_cons_zero, List.getElem_cons_succ, List.setIfInBounds_toArray, List.set_cons_zero, List.set_cons_succ]
            refine wpAnyH_take (i := 13) (v := ?v17) rfl (by kernel_rfl) (by kernel_rfl) (by kernel_rfl) (fun _ _ _ h => h) (Or.inl ⟨by rfl, ?hy17⟩) h0_16 ?rest17
            case hy17 => (intro w' hS; (try dsimp only at hS); go_simp; try (with_reducible rfl))
            simp only [Act.put, List.getElem_toArray, List.getElem_cons_zero, List.getElem_cons_succ, List.setIfInBounds_toArray, List.set_cons_zero, List.set_cons_succ]
            refine wpAnyH_ready (rs := [14]) (by kernel_rfl) (by simp) (AllReadyH.cons rfl (fun K hK => ?_) AllReadyH.nil)
            rw [if_pos (by rfl)]
            go_simp
            refine (mustR_any (adR s (muR (k, 1) y)) (adE s (muR (k, 1) y)) wc).mono ?_
            rintro e wc ⟨hb, (⟨he, rfl⟩ | ⟨he, rfl⟩)⟩
            rotate_left
            · exact And.intro rfl ⟨below_on E0.out (below_on B3.out (below_on Bc.out hb)), Or.inr (by have e := congrArg Prod.snd (EA.out M0.out); have e2 := ES.out (by rw [e]; exact he); rw [e2, e]; exact ⟨he, rfl⟩)⟩
            have PS := Lib.hid (PS.out.kept hb)
            have Bc := Lib.hid (below_on Bc.out hb)
            have M1 := Lib.hid he
            clear hb he
            go_simp
            refine hK.out _ _ (KS.out _ Bc.out) (fun h0_17 => ?_)
            clear hK K h0_16
            refine wpAnyH_ready (rs := [15]) (by kernel_rfl) (by simp) (AllReadyH.cons rfl (fun K hK => ?_) AllReadyH.nil)
            rw [if_pos (by rfl)]
            go_simp
            obtain ⟨f0, f1, f2, f3⟩ := PS.out.facts
            go_simp
            refine hK.out _ _ (KS2.out _ Bc.out _ _) (fun h0_18 => ?_)
            clear hK K h0_17
            clear f0 f1 f2 f3
            try simp only [List.set_cons_succ]
            try simp only [List.set_cons_zero]
            refine wpAnyH_done (by kernel_rfl) ?_ _
            have PE := PS.out.put (adR s (muR (k, 1) y)).1 (adR s (muR (k, 1) y)).2
            have BE := below_put (below_on B3.out Bc.out) Z2.out (.int .i64 (adR s (muR (k, 1) y)).1) (.int .i64 (adR s (muR (k, 1) y)).2)
            obtain ⟨we, hwe⟩ : ∃ we, we = (wc.setCell ⟨b5, 0, none⟩ (.int .i64 (adR s (muR (k, 1) y)).1)).setCell ⟨b5, 1, none⟩ (.int .i64 (adR s (muR (k, 1) y)).2) := ⟨_, rfl⟩
            rw [← hwe] at PE BE ⊢
            have PX := Lib.hid PE
            have BX := Lib.hid BE
            clear hwe PE BE
            go_wp2_with fail
            go_roundw
            case rel => exact ⟨t + 1, by go_num, by omega, Lib.hid (by rw [EA.out M0.out]; exact M1.out), Lib.hid (by rw [EA.out M0.out]; exact PX.out), BX⟩
            case measure => simp [intOf]; omega
          · rw [if_pos (by rfl)]
            go_simp
            refine (mustR_any (muR (k, 1) y) (muE (k, 1) y) wc).mono ?_
            rintro e wc ⟨hb, (⟨he, rfl⟩ | ⟨he, rfl⟩)⟩
            rotate_left
            · exact And.intro rfl ⟨below_on E0.out (below_on B3.out (below_on Bc.out hb)), Or.inr ⟨by rw [EM.out he]; exact he, by rw [EM.out he]⟩⟩
            have PS := Lib.hid (PS.out.kept hb)
            have Bc := Lib.hid (below_on Bc.out hb)
            have M0 := Lib.hid he
            clear hb he
            go_simp
            refine hK.out _ _ (KS.out _ Bc.out) (fun h0_14 => ?_)
            clear hK K h0_8
            refine wpAnyH_ready (rs := [0]) (by kernel_rfl) (by simp) (AllReadyH.cons rfl (fun K hK => ?_) AllReadyH.nil)
            rw [if_pos (by rfl)]
            refine wp_loadQ _ rfl _ rfl s PS.out.qAt ?_
            try simp only [Act.put, List.getElem_toArray, List.getElem_cons_zero, List.getElem_cons_succ, List.setIfInBounds_toArray, List.set_cons_zero, List.set_cons_succ]
            refine hK.out _ _ (KS.out _ Bc.out) (fun h0_19 => ?_)
            clear hK K h0_14
            refine wpAnyH_ready (rs := [11]) (by kernel_rfl) (by simp) (AllReadyH.cons rfl (fun K hK => ?_) AllReadyH.nil)
            rw [if_pos (by rfl)]
            go_simp
            refine (addP_any s (muR (k, 1) y) wc S2.out (muR_64 _ _)).mono ?_
            rintro e wc ⟨rfl, hb⟩
            have PS := Lib.hid (PS.out.kept hb)
            have Bc := Lib.hid (below_on Bc.out hb)
            clear hb
            go_simp
            refine hK.out _ _ (KS.out _ Bc.out) (fun h0_20 => ?_)
            clear hK K h0_19
            refine wpAnyH_take (i := 12) (v := ?v18) rfl (by kernel_rfl) (by kernel_rfl) (by kernel_rfl) (fun _ _ _ h => h) (Or.inl ⟨by rfl, ?hy18⟩) h0_20 ?rest18
            case hy18 => (intro w' hS; (try dsimp only at hS); go_simp; try (with_reducible rfl))
            simp only [Act.put, List.getElem_toArray, List.getElem_cons_zero, List.getElem_cons_succ, List.setIfInBounds_toArray, List.set_cons_zero, List.set_cons_succ]
            refine wpAnyH_take (i := 13) (v := ?v19) rfl (by kernel_rfl) (by kernel_rfl) (by kernel_rfl) (fun _ _ _ h => h) (Or.inl ⟨by rfl, ?hy19⟩) h0_20 ?rest19
            case hy19 => (intro w' hS; (try dsimp only at hS); go_simp; try (with_reducible rfl))
            simp only [Act.put, List.getElem_toArray, List.getElem_cons_zero, List.getElem_cons_succ, List.setIfInBounds_toArray, List.set_cons_zero, List.set_cons_succ]
            refine wpAnyH_ready (rs := [14]) (by kernel_rfl) (by simp) (AllReadyH.cons rfl (fun K hK => ?_) AllReadyH.nil)
            rw [if_pos (by rfl)]
            go_simp
            refine (mustR_any (adR s (muR (k, 1) y)) (adE s (muR (k, 1) y)) wc).mono ?_
            rintro e wc ⟨hb, (⟨he, rfl⟩ | ⟨he, rfl⟩)⟩
            rotate_left
            · exact And.intro rfl ⟨below_on E0.out (below_on B3.out (below_on Bc.out hb)), Or.inr (by have e := congrArg Prod.snd (EA.out M0.out); have e2 := ES.out (by rw [e]; exact he); rw [e2, e]; exact ⟨he, rfl⟩)⟩
            have PS := Lib.hid (PS.out.kept hb)
            have Bc := Lib.hid (below_on Bc.out hb)
            have M1 := Lib.hid he
            clear hb he
            go_simp
            refine hK.out _ _ (KS.out _ Bc.out) (fun h0_21 => ?_)
            clear hK K h0_20
            refine wpAnyH_ready (rs := [15]) (by kernel_rfl) (by simp) (AllReadyH.cons rfl (fun K hK => ?_) AllReadyH.nil)
            rw [if_pos (by rfl)]
            go_simp
            obtain ⟨f0, f1, f2, f3⟩ := PS.out.facts
            go_simp
            refine hK.out _ _ (KS2.out _ Bc.out _ _) (fun h0_22 => ?_)
            clear hK K h0_21
            clear f0 f1 f2 f3
            try simp only [List.set_cons_succ]
            try simp only [List.set_cons_zero]
            refine wpAnyH_done (by kernel_rfl) ?_ _
            have PE := PS.out.put (adR s (muR (k, 1) y)).1 (adR s (muR (k, 1) y)).2
            have BE := below_put (below_on B3.out Bc.out) Z2.out (.int .i64 (adR s (muR (k, 1) y)).1) (.int .i64 (adR s (muR (k, 1) y)).2)
            obtain ⟨we, hwe⟩ : ∃ we, we = (wc.setCell ⟨b5, 0, none⟩ (.int .i64 (adR s (muR (k, 1) y)).1)).setCell ⟨b5, 1, none⟩ (.int .i64 (adR s (muR (k, 1) y)).2) := ⟨_, rfl⟩
            rw [← hwe] at PE BE ⊢
            have PX := Lib.hid PE
            have BX := Lib.hid BE
            clear hwe PE BE
            go_wp2_with fail
            go_roundw
            case rel => exact ⟨t + 1, by go_num, by omega, Lib.hid (by rw [EA.out M0.out]; exact M1.out), Lib.hid (by rw [EA.out M0.out]; exact PX.out), BX⟩
            case measure => simp [intOf]; omega
    · obtain rfl : t = n := by omega
      have P0w := Lib.hid (P0.out.kept HB.out)
      have B4 := Lib.hid (below_on E0.out HB.out)
      obtain ⟨f0, f1, f2, f3⟩ := HP.out.facts
      obtain ⟨g0, g1, g2, g3⟩ := P0w.out.facts
      obtain ⟨s, hs⟩ : ∃ s, s = (atN x.a ps t).1 := ⟨_, rfl⟩
      rw [← hs] at f0 f1
      have HSS := Lib.hid hs
      clear hs
      go_wp2_with fail
      refine bodyPost_ret (v := .agg #[.int .i64 s.1, .int .i64 s.2]) (by simp [results, Tryz.results136, go_sem, g0, g1, g2, g3]) rfl ⟨below_put B4.out (by omega) _ _, Or.inl ⟨HE.out, by rw [HSS.out]⟩⟩
end Go.Proofs.YtefpaobboimakaaGreat

namespace Go.Proofs.YtefpaobboimakaaGreat
open Go.RowKit Go.Sort Go.Shelf

/-- An end of an interval. -/
structure En where
  v : Pq
  ex : Bool
  op : Bool

def En.cells (x : En) : List Value := [.int .i64 x.v.1, .int .i64 x.v.2, .bool x.ex, .bool x.op]

def En.cs (x : En) : Array Value := ⟨x.cells⟩

def en0 : En := ⟨(0, 0), false, false⟩

/-- Block b holds the end x. -/
def EnB (w : World) (b : Nat) (x : En) : Prop := w.heap[b]? = some (.cells x.cs 105 (0, 0))

theorem EnB.lt {w : World} {b : Nat} {x : En} (h : EnB w b x) : b < w.heap.size := by
  by_cases e : b < w.heap.size
  · exact e
  · have := h; unfold EnB at this; rw [Array.getElem?_eq_none (by omega)] at this; cases this

theorem EnB.made (w : World) (x : En) : EnB (w.alloc (.cells x.cs 105)) w.heap.size x := heap_alloc_last w _

theorem EnB.kept {w w' : World} {b : Nat} {x : En} (h : EnB w b x) (hb : Below w.heap.size w w') : EnB w' b x := (hb.block b h.lt).trans h

theorem EnB.cell {w : World} {b : Nat} {x : En} (h : EnB w b x) (k : Nat) : w.cell? ⟨b, k, none⟩ = x.cs[k]? := cell_of_row _ _ k _ _ _ h

theorem EnB.facts {w : World} {b : Nat} {x : En} (h : EnB w b x) : w.cell? ⟨b, 0, none⟩ = some (.int .i64 x.v.1) ∧ w.cell? ⟨b, 1, none⟩ = some (.int .i64 x.v.2) ∧ w.cell? ⟨b, 2, none⟩ = some (.bool x.ex) ∧ w.cell? ⟨b, 3, none⟩ = some (.bool x.op) :=
  ⟨h.cell 0, h.cell 1, h.cell 2, h.cell 3⟩

theorem EnB.free {w : World} {b : Nat} {x : En} (h : EnB w b x) (k : Nat) : w.frozen? ⟨b, k, none⟩ = false := frozen_of_row w b k _ _ h

theorem EnB.setRow {w : World} {b : Nat} {x y : En} (h : EnB w b x) : EnB (w.setRow b y.cs) b y := setRow_heap w b _ _ _ _ h

theorem EnB.aside {w : World} {b : Nat} {x : En} (h : EnB w b x) {y j : Nat} (hne : b ≠ y) (v : Value) : EnB (w.setCell ⟨y, j, none⟩ v) b x := (heap_setCell_other w ⟨y, j, none⟩ b v hne).trans h

theorem en_info : (Tryz.prog.info? 105).map (fun i => (i.zero, i.size)) = some (some (.agg en0.cs), 4) := by kernel_rfl

theorem En.one (x : En) : x.cs.all (·.oneCell') = true := by simp [En.cs, En.cells, Value.oneCell']

theorem zero_en : (Tryz.prog.info? 105).map (·.size) = some 4 := by kernel_rfl

theorem ends1_any (g : Nat) (side : Int) (pb pi : Value) (w : World) : Calls Tryz.prog 142 #[.pointer (some ⟨g, 0, none⟩), .int .i64 side, pb, pi] w (fun e w' => e = .returned (.func (.func 143) #[] #[pb, pi, .pointer (some ⟨w.heap.size, 0, none⟩), .pointer (some ⟨w.heap.size + 1, 0, none⟩)])
    ∧ w' = (w.alloc (.cells #[.pointer (some ⟨g, 0, none⟩)] 149)).alloc (.cells #[.int .i64 side] 3)) := by
  have hmf : ∀ (fn : Fn) (first cap : Array Value) (w : World), (Instr.makeFunc fn first cap).run Tryz.prog w = .ok (.func fn first cap) w := fun _ _ _ _ => rfl
  go_enter Tryz.func142, Tryz.ntmps142
  go_wp2_with (rw [hmf])
  go_ret
  exact ⟨rfl, rfl⟩

/-- What a line says of the coordinate i, and the error. -/
def fdE (x : Ln) (i : Nat) (ps : List Pq) : Int := if (atN x.a ps ps.length).2 ≠ 0 then (atN x.a ps ps.length).2 else
  if sbE (x.b, 1) (atN x.a ps ps.length).1 ≠ 0 then sbE (x.b, 1) (atN x.a ps ps.length).1 else dvE (sbR (x.b, 1) (atN x.a ps ps.length).1) (gA x.a i, 1)

def fdV (x : Ln) (i : Nat) (ps : List Pq) : Pq := dvR (sbR (x.b, 1) (atN x.a ps ps.length).1) (gA x.a i, 1)

def clE (c : En) (x : Ln) (i : Nat) (ps : List Pq) : Int := if fdE x i ps ≠ 0 then fdE x i ps else if c.ex then cmE (fdV x i ps) c.v else 0

def clR (side : Int) (c : En) (x : Ln) (i : Nat) (ps : List Pq) : En :=
  if c.ex then (if 0 < side * cmR (fdV x i ps) c.v ∨ (side * cmR (fdV x i ps) c.v = 0 ∧ x.s = true) then ⟨fdV x i ps, true, x.s⟩ else c) else ⟨fdV x i ps, true, x.s⟩

set_option maxRecDepth 100000 in
set_option maxHeartbeats 4000000 in
theorem ends2_any (side : Int) (c : En) (x : Ln) (i : Nat) (ps : List Pq) (ao : Option Addr) (cap pb pi pc pd g : Nat) (w : World) (hs : side = 1 ∨ side = -1) (hc : I2 c.v) (hx : Rg 2147483647 x) (hi : i < 6) (hn : ps.length ≤ 6) (hR : Rd2 w ao ps) (hI : ∀ t, t < ps.length → I2 (gp ps t))
    (c0 : w.cell? ⟨pb, 0, none⟩ = some (.slice ao ps.length cap)) (c1 : w.cell? ⟨pi, 0, none⟩ = some (.int .i64 i)) (c2 : w.cell? ⟨pc, 0, none⟩ = some (.pointer (some ⟨g, 0, none⟩))) (c3 : w.cell? ⟨pd, 0, none⟩ = some (.int .i64 side)) (hg : EnB w g c) :
    Calls Tryz.prog 143 #[.agg x.cs, .pointer (some ⟨pb, 0, none⟩), .pointer (some ⟨pi, 0, none⟩), .pointer (some ⟨pc, 0, none⟩), .pointer (some ⟨pd, 0, none⟩)] w (fun e w' => (clE c x i ps = 0 ∧ e = .returned (.tuple #[]) ∧ EnB w' g (clR side c x i ps) ∧ GB g w w') ∨ (clE c x i ps ≠ 0 ∧ e = .panicked (pan (clE c x i ps)) ∧ Below w.heap.size w w')) := by
  obtain ⟨w0, hw0⟩ : ∃ w0, w0 = w.alloc (.cells x.cs 82) := ⟨_, rfl⟩
  have K0 := Lib.hid (show Bk w0 w.heap.size x by rw [hw0]; exact Bk.made w x hx.len)
  have E0 := Lib.hid (show Below w.heap.size w w0 by rw [hw0]; exact one_more _)
  have C0 := Lib.hid (kept E0.out c0)
  have C1 := Lib.hid (kept E0.out c1)
  have C2 := Lib.hid (kept E0.out c2)
  have C3 := Lib.hid (kept E0.out c3)
  have HG := Lib.hid (hg.kept E0.out)
  have GL := Lib.hid hg.lt
  obtain ⟨n, hN⟩ : ∃ n, n = ps.length := ⟨_, rfl⟩
  rw [← hN] at C0
  have XB := Lib.hid (show I2 (x.b, 1) by have := hx.b; exact wh_64 (by unfold I64; omega))
  have XA := Lib.hid (show I2 (gA x.a i, 1) by have := hx.at hi; exact wh_64 (by unfold I64; omega))
  have AT := Lib.hid (fun W (h : Below w.heap.size w W) => at_any x ps ao cap W hx hn (hR.on h) hI)
  rw [← hN] at AT
  obtain ⟨q, hq⟩ : ∃ q, q = (atN x.a ps n).1 := ⟨_, rfl⟩
  obtain ⟨er, her⟩ : ∃ er, er = (atN x.a ps n).2 := ⟨_, rfl⟩
  have Q2 := Lib.hid (show I2 q by rw [hq]; exact atN_64 _ _ _)
  rw [← hq, ← her] at AT
  obtain ⟨d, hd⟩ : ∃ d, d = sbR (x.b, 1) q := ⟨_, rfl⟩
  have D2 := Lib.hid (show I2 d by rw [hd]; exact sbR_64 _ _)
  obtain ⟨ed, hed⟩ : ∃ ed, ed = sbE (x.b, 1) q := ⟨_, rfl⟩
  have SB := Lib.hid (fun W => subP_any (x.b, 1) q W XB.out Q2.out)
  rw [← hd, ← hed] at SB
  obtain ⟨k, hk⟩ : ∃ k, k = gA x.a i := ⟨_, rfl⟩
  rw [← hk] at XA
  obtain ⟨f, hf⟩ : ∃ f, f = dvR d (k, 1) := ⟨_, rfl⟩
  obtain ⟨ef, hef⟩ : ∃ ef, ef = dvE d (k, 1) := ⟨_, rfl⟩
  have F2 := Lib.hid (show I2 f by rw [hf]; exact dvR_64 _ _)
  have DV := Lib.hid (fun W => divP_any d (k, 1) W D2.out XA.out)
  rw [← hf, ← hef] at DV
  have XI := Lib.hid (show ∀ W, Bk W w.heap.size x → W.cell? ⟨w.heap.size, i, none⟩ = some (.int .i64 k) from fun W h => by rw [hk]; exact h.at hi)
  have fv : fdV x i ps = f := by unfold fdV; rw [← hN, ← hq, ← hd, ← hk, ← hf]
  have fe : fdE x i ps = if er ≠ 0 then er else if ed ≠ 0 then ed else ef := by unfold fdE; rw [← hN, ← hq, ← her, ← hd, ← hed, ← hk, ← hef]
  have U1 := Lib.hid (show er ≠ 0 → clE c x i ps ≠ 0 ∧ pan er = pan (clE c x i ps) from fun h => by
    have e : clE c x i ps = er := by unfold clE; rw [show fdE x i ps = er by rw [fe, if_pos h], if_pos h]
    rw [e]; exact ⟨h, rfl⟩)
  have U2 := Lib.hid (show er = 0 → ed ≠ 0 → clE c x i ps ≠ 0 ∧ pan ed = pan (clE c x i ps) from fun h0 h => by
    have e : clE c x i ps = ed := by unfold clE; rw [show fdE x i ps = ed by rw [fe, if_neg (fun q => q h0), if_pos h], if_pos h]
    rw [e]; exact ⟨h, rfl⟩)
  have U3 := Lib.hid (show er = 0 → ed = 0 → ef ≠ 0 → clE c x i ps ≠ 0 ∧ pan ef = pan (clE c x i ps) from fun h0 h1 h => by
    have e : clE c x i ps = ef := by unfold clE; rw [show fdE x i ps = ef by rw [fe, if_neg (fun q => q h0), if_neg (fun q => q h1)], if_pos h]
    rw [e]; exact ⟨h, rfl⟩)
  have U4 := Lib.hid (show er = 0 → ed = 0 → ef = 0 → clE c x i ps = if c.ex then cmE f c.v else 0 from fun h0 h1 h => by
    unfold clE; rw [show fdE x i ps = ef by rw [fe, if_neg (fun q => q h0), if_neg (fun q => q h1)], if_neg (fun q => q h), fv])
  have U5 := Lib.hid (show clR side c x i ps = if c.ex then (if 0 < side * cmR f c.v ∨ (side * cmR f c.v = 0 ∧ x.s = true) then ⟨f, true, x.s⟩ else c) else ⟨f, true, x.s⟩ by unfold clR; rw [fv])
  have C2' := Lib.hid hc
  have SD := Lib.hid hs
  have i6 : (i : Int) < 6 := by omega
  generalize clE c x i ps = CE at *
  generalize clR side c x i ps = CR at *
  clear fv fe hR hI hN hn hx hi c0 c1 c2 c3 hg hq her hd hed hk hf hef hs hc
  go_enter Tryz.func143, Tryz.ntmps143
  go_upto_region 1 with (fail)
  rw [← hw0]
  clear hw0
  go_cut [6] (fun s6 wx => ∃ q6 : Nat, s6 = .pointer (some ⟨q6, 0, none⟩) ∧ Hid (Pair wx q6 d.1 d.2) ∧ Hid (Below w0.heap.size w0 wx) ∧ Hid (w0.heap.size ≤ q6) ∧ Hid (er = 0) ∧ Hid (ed = 0))
  case first =>
    have KS := Lib.hid (show ∀ W, Below w0.heap.size w0 W → (Bk W w.heap.size x ∧ W.cell? ⟨w.heap.size, 6, none⟩ = some (.int .i64 x.b) ∧ W.cell? ⟨pb, 0, none⟩ = some (.slice ao n cap)) from fun W h => ⟨K0.out.kept h, (K0.out.kept h).num, kept h C0.out⟩)
    obtain ⟨wc, hwc⟩ : ∃ wc, wc = w0.drew := ⟨_, rfl⟩
    have Bc := Lib.hid (show Below w0.heap.size w0 wc by rw [hwc]; exact (Below.refl _ _).drew)
    refine wp_region_held_drew (S := (fun W => (Bk W w.heap.size x ∧ W.cell? ⟨w.heap.size, 6, none⟩ = some (.int .i64 x.b) ∧ W.cell? ⟨pb, 0, none⟩ = some (.slice ao n cap)))) (by kernel_rfl) (by rw [← hwc]; exact KS.out _ Bc.out) (fun h0 => ?_)
    rw [← hwc] at h0 ⊢
    clear hwc
    refine wpAnyH_take (i := 0) (v := ?v1) rfl (by kernel_rfl) (by kernel_rfl) (by kernel_rfl) (fun _ _ _ h => h) (Or.inl ⟨by rfl, ?hy1⟩) h0 ?rest1
    case hy1 => (intro w' hS; (try dsimp only at hS); go_simp; try (with_reducible rfl))
    simp only [Act.put, List.getElem_toArray, List.getElem_cons_zero, List.setIfInBounds_toArray, List.set_cons_zero, List.set_cons_succ]
    refine wpAnyH_take (i := 1) (v := ?v2) rfl (by kernel_rfl) (by kernel_rfl) (by kernel_rfl) (fun _ _ _ h => h) (Or.inl ⟨by rfl, ?hy2⟩) h0 ?rest2
    case hy2 => (intro w' hS; (try dsimp only at hS); go_simp; try (with_reducible rfl))
    simp only [Act.put, List.getElem_toArray, List.getElem_cons_zero, List.getElem_cons_succ, List.setIfInBounds_toArray, List.set_cons_zero, List.set_cons_succ]
    refine wpAnyH_take (i := 3) (v := (.agg x.cs)) rfl (by kernel_rfl) (by kernel_rfl) (by kernel_rfl) (fun _ _ _ h => h) (Or.inl ⟨by rfl, fun w' hS => yld_loadL _ rfl _ rfl hS.1⟩) h0 ?_
    simp only [Act.put, List.getElem_toArray, List.getElem_cons_zero, List.getElem_cons_succ, List.setIfInBounds_toArray, List.set_cons_zero, List.set_cons_succ]
    refine wpAnyH_take (i := 4) (v := ?v4) rfl (by kernel_rfl) (by kernel_rfl) (by kernel_rfl) (fun _ _ _ h => h) (Or.inl ⟨by rfl, ?hy4⟩) h0 ?rest4
    case hy4 => (intro w' hS; (try dsimp only at hS); go_simp; try (with_reducible rfl))
    simp only [Act.put, List.getElem_toArray, List.getElem_cons_zero, List.getElem_cons_succ, List.setIfInBounds_toArray, List.set_cons_zero, List.set_cons_succ]
    refine wpAnyH_ready (rs := [2, 10]) (by kernel_rfl) (by simp) (AllReadyH.cons rfl (fun K hK => ?_) (AllReadyH.cons rfl (fun K hK => ?_) AllReadyH.nil))
    · rw [if_pos (by rfl)]
      go_simp
      refine (whole_any x.b wc).mono ?_
      rintro e wc ⟨rfl, hb⟩
      try (have P6 := Lib.hid (P6.out.kept hb))
      have Bc := Lib.hid (below_on Bc.out hb)
      clear hb
      go_simp
      refine hK.out _ _ (KS.out _ Bc.out) (fun h0_1 => ?_)
      clear hK K h0
      refine wpAnyH_ready (rs := [5, 10]) (by kernel_rfl) (by simp) (AllReadyH.cons rfl (fun K hK => ?_) (AllReadyH.cons rfl (fun K hK => ?_) AllReadyH.nil))
      · rw [if_pos (by rfl)]
        go_simp
        refine (AT.out wc (below_on E0.out Bc.out)).mono ?_
        rintro e wc ⟨hb, (⟨he, rfl⟩ | ⟨he, rfl⟩)⟩
        rotate_left
        · exact And.intro rfl (Or.inr ⟨(U1.out he).1, by rw [(U1.out he).2], below_on E0.out (below_on Bc.out hb)⟩)
        try (have P6 := Lib.hid (P6.out.kept hb))
        have Bc := Lib.hid (below_on Bc.out hb)
        have M1 := Lib.hid he
        clear hb he
        go_simp
        refine hK.out _ _ (KS.out _ Bc.out) (fun h0_2 => ?_)
        clear hK K h0_1
        refine wpAnyH_ready (rs := [6, 10]) (by kernel_rfl) (by simp) (AllReadyH.cons rfl (fun K hK => ?_) (AllReadyH.cons rfl (fun K hK => ?_) AllReadyH.nil))
        · rw [if_pos (by rfl)]
          go_simp
          refine (SB.out wc).mono ?_
          rintro e wc ⟨rfl, hb⟩
          try (have P6 := Lib.hid (P6.out.kept hb))
          have Bc := Lib.hid (below_on Bc.out hb)
          clear hb
          go_simp
          refine hK.out _ _ (KS.out _ Bc.out) (fun h0_3 => ?_)
          clear hK K h0_2
          refine wpAnyH_take (i := 7) (v := ?v5) rfl (by kernel_rfl) (by kernel_rfl) (by kernel_rfl) (fun _ _ _ h => h) (Or.inl ⟨by rfl, ?hy5⟩) h0_3 ?rest5
          case hy5 => (intro w' hS; (try dsimp only at hS); go_simp; try (with_reducible rfl))
          simp only [Act.put, List.getElem_toArray, List.getElem_cons_zero, List.getElem_cons_succ, List.setIfInBounds_toArray, List.set_cons_zero, List.set_cons_succ]
          refine wpAnyH_take (i := 8) (v := ?v6) rfl (by kernel_rfl) (by kernel_rfl) (by kernel_rfl) (fun _ _ _ h => h) (Or.inl ⟨by rfl, ?hy6⟩) h0_3 ?rest6
          case hy6 => (intro w' hS; (try dsimp only at hS); go_simp; try (with_reducible rfl))
          simp only [Act.put, List.getElem_toArray, List.getElem_cons_zero, List.getElem_cons_succ, List.setIfInBounds_toArray, List.set_cons_zero, List.set_cons_succ]
          refine wpAnyH_ready (rs := [9, 10]) (by kernel_rfl) (by simp) (AllReadyH.cons rfl (fun K hK => ?_) (AllReadyH.cons rfl (fun K hK => ?_) AllReadyH.nil))
          · rw [if_pos (by rfl)]
            go_simp
            refine (mustR_any d ed wc).mono ?_
            rintro e wc ⟨hb, (⟨he, rfl⟩ | ⟨he, rfl⟩)⟩
            rotate_left
            · exact And.intro rfl (Or.inr ⟨(U2.out M1.out he).1, by rw [(U2.out M1.out he).2], below_on E0.out (below_on Bc.out hb)⟩)
            try (have P6 := Lib.hid (P6.out.kept hb))
            have Bc := Lib.hid (below_on Bc.out hb)
            have M2 := Lib.hid he
            clear hb he
            go_simp
            refine hK.out _ _ (KS.out _ Bc.out) (fun h0_4 => ?_)
            clear hK K h0_3
            refine wpAnyH_ready (rs := [10]) (by kernel_rfl) (by simp) (AllReadyH.cons rfl (fun K hK => ?_) AllReadyH.nil)
            rw [if_pos (by rfl)]
            go_simp
            have hb := one_more (w1 := wc) (.cells #[.int .i64 0, .int .i64 0] 50)
            have hP := Pair.made wc 0 0 50
            have hz := Bc.out.size
            obtain ⟨q6, hbb⟩ : ∃ b, b = wc.heap.size := ⟨_, rfl⟩
            rw [← hbb] at hP hz
            obtain ⟨wn, hwn⟩ : ∃ wn, wn = wc.alloc (.cells #[.int .i64 0, .int .i64 0] 50) := ⟨_, rfl⟩
            rw [← hwn] at hb hP ⊢
            try rw [← hbb]
            have Bc := Lib.hid (below_on Bc.out hb)
            have P6 := Lib.hid hP
            have Zq6 := Lib.hid hz
            clear hb hP hz hbb hwn
            obtain ⟨wc, hwc⟩ : ∃ wc, wc = wn := ⟨_, rfl⟩
            rw [← hwc] at Bc P6 ⊢
            clear hwc
            go_simp
            refine hK.out _ _ (KS.out _ Bc.out) (fun h0_5 => ?_)
            clear hK K h0_4
            refine wpAnyH_ready (rs := [11]) (by kernel_rfl) (by simp) (AllReadyH.cons rfl (fun K hK => ?_) AllReadyH.nil)
            rw [if_pos (by rfl)]
            go_simp
            obtain ⟨f0, f1, f2, f3⟩ := P6.out.facts
            go_simp
            refine hK.out _ _ (KS.out _ (below_put Bc.out Zq6.out _ _)) (fun h0_6 => ?_)
            clear hK K h0_5
            clear f0 f1 f2 f3
            try simp only [List.set_cons_succ]
            try simp only [List.set_cons_zero]
            refine wpAnyH_done (by kernel_rfl) ?_ _
            have PE := P6.out.put d.1 d.2
            have BE := below_put Bc.out Zq6.out (.int .i64 d.1) (.int .i64 d.2)
            obtain ⟨we, hwe⟩ : ∃ we, we = (wc.setCell ⟨q6, 0, none⟩ (.int .i64 d.1)).setCell ⟨q6, 1, none⟩ (.int .i64 d.2) := ⟨_, rfl⟩
            rw [← hwe] at PE BE ⊢
            have PX := Lib.hid PE
            have BX := Lib.hid BE
            clear hwe PE BE
            go_wp2_with fail
            go_meet
            case rel => exact ⟨q6, rfl, PX, BX, Zq6, M1, M2⟩
          · rw [if_pos (by rfl)]
            go_simp
            have hb := one_more (w1 := wc) (.cells #[.int .i64 0, .int .i64 0] 50)
            have hP := Pair.made wc 0 0 50
            have hz := Bc.out.size
            obtain ⟨q6, hbb⟩ : ∃ b, b = wc.heap.size := ⟨_, rfl⟩
            rw [← hbb] at hP hz
            obtain ⟨wn, hwn⟩ : ∃ wn, wn = wc.alloc (.cells #[.int .i64 0, .int .i64 0] 50) := ⟨_, rfl⟩
            rw [← hwn] at hb hP ⊢
            try rw [← hbb]
            have Bc := Lib.hid (below_on Bc.out hb)
            have P6 := Lib.hid hP
            have Zq6 := Lib.hid hz
            clear hb hP hz hbb hwn
            obtain ⟨wc, hwc⟩ : ∃ wc, wc = wn := ⟨_, rfl⟩
            rw [← hwc] at Bc P6 ⊢
            clear hwc
            go_simp
            refine hK.out _ _ (KS.out _ Bc.out) (fun h0_4 => ?_)
            clear hK K h0_3
            refine wpAnyH_ready (rs := [9]) (by kernel_rfl) (by simp) (AllReadyH.cons rfl (fun K hK => ?_) AllReadyH.nil)
            rw [if_pos (by rfl)]
            go_simp
            refine (mustR_any d ed wc).mono ?_
            rintro e wc ⟨hb, (⟨he, rfl⟩ | ⟨he, rfl⟩)⟩
            rotate_left
            · exact And.intro rfl (Or.inr ⟨(U2.out M1.out he).1, by rw [(U2.out M1.out he).2], below_on E0.out (below_on Bc.out hb)⟩)
            try (have P6 := Lib.hid (P6.out.kept hb))
            have Bc := Lib.hid (below_on Bc.out hb)
            have M2 := Lib.hid he
            clear hb he
            go_simp
            refine hK.out _ _ (KS.out _ Bc.out) (fun h0_7 => ?_)
            clear hK K h0_4
            refine wpAnyH_ready (rs := [11]) (by kernel_rfl) (by simp) (AllReadyH.cons rfl (fun K hK => ?_) AllReadyH.nil)
            rw [if_pos (by rfl)]
            go_simp
            obtain ⟨f0, f1, f2, f3⟩ := P6.out.facts
            go_simp
            refine hK.out _ _ (KS.out _ (below_put Bc.out Zq6.out _ _)) (fun h0_8 => ?_)
            clear hK K h0_7
            clear f0 f1 f2 f3
            try simp only [List.set_cons_succ]
            try simp only [List.set_cons_zero]
            refine wpAnyH_done (by kernel_rfl) ?_ _
            have PE := P6.out.put d.1 d.2
            have BE := below_put Bc.out Zq6.out (.int .i64 d.1) (.int .i64 d.2)
            obtain ⟨we, hwe⟩ : ∃ we, we = (wc.setCell ⟨q6, 0, none⟩ (.int .i64 d.1)).setCell ⟨q6, 1, none⟩ (.int .i64 d.2) := ⟨_, rfl⟩
            rw [← hwe] at PE BE ⊢
            have PX := Lib.hid PE
            have BX := Lib.hid BE
            clear hwe PE BE
            go_wp2_with fail
            go_meet
            case rel => exact ⟨q6, rfl, PX, BX, Zq6, M1, M2⟩
        · rw [if_pos (by rfl)]
          go_simp
          have hb := one_more (w1 := wc) (.cells #[.int .i64 0, .int .i64 0] 50)
          have hP := Pair.made wc 0 0 50
          have hz := Bc.out.size
          obtain ⟨q6, hbb⟩ : ∃ b, b = wc.heap.size := ⟨_, rfl⟩
          rw [← hbb] at hP hz
          obtain ⟨wn, hwn⟩ : ∃ wn, wn = wc.alloc (.cells #[.int .i64 0, .int .i64 0] 50) := ⟨_, rfl⟩
          rw [← hwn] at hb hP ⊢
          try rw [← hbb]
          have Bc := Lib.hid (below_on Bc.out hb)
          have P6 := Lib.hid hP
          have Zq6 := Lib.hid hz
          clear hb hP hz hbb hwn
          obtain ⟨wc, hwc⟩ : ∃ wc, wc = wn := ⟨_, rfl⟩
          rw [← hwc] at Bc P6 ⊢
          clear hwc
          go_simp
          refine hK.out _ _ (KS.out _ Bc.out) (fun h0_3 => ?_)
          clear hK K h0_2
          refine wpAnyH_ready (rs := [6]) (by kernel_rfl) (by simp) (AllReadyH.cons rfl (fun K hK => ?_) AllReadyH.nil)
          rw [if_pos (by rfl)]
          go_simp
          refine (SB.out wc).mono ?_
          rintro e wc ⟨rfl, hb⟩
          try (have P6 := Lib.hid (P6.out.kept hb))
          have Bc := Lib.hid (below_on Bc.out hb)
          clear hb
          go_simp
          refine hK.out _ _ (KS.out _ Bc.out) (fun h0_9 => ?_)
          clear hK K h0_3
          refine wpAnyH_take (i := 7) (v := ?v7) rfl (by kernel_rfl) (by kernel_rfl) (by kernel_rfl) (fun _ _ _ h => h) (Or.inl ⟨by rfl, ?hy7⟩) h0_9 ?rest7
          case hy7 => (intro w' hS; (try dsimp only at hS); go_simp; try (with_reducible rfl))
          simp only [Act.put, List.getElem_toArray, List.getElem_cons_zero, List.getElem_cons_succ, List.setIfInBounds_toArray, List.set_cons_zero, List.set_cons_succ]
          refine wpAnyH_take (i := 8) (v := ?v8) rfl (by kernel_rfl) (by kernel_rfl) (by kernel_rfl) (fun _ _ _ h => h) (Or.inl ⟨by rfl, ?hy8⟩) h0_9 ?rest8
          case hy8 => (intro w' hS; (try dsimp only at hS); go_simp; try (with_reducible rfl))
          simp only [Act.put, List.getElem_toArray, List.getElem_cons_zero, List.getElem_cons_succ, List.setIfInBounds_toArray, List.set_cons_zero, List.set_cons_succ]
          refine wpAnyH_ready (rs := [9]) (by kernel_rfl) (by simp) (AllReadyH.cons rfl (fun K hK => ?_) AllReadyH.nil)
          rw [if_pos (by rfl)]
          go_simp
          refine (mustR_any d ed wc).mono ?_
          rintro e wc ⟨hb, (⟨he, rfl⟩ | ⟨he, rfl⟩)⟩
          rotate_left
          · exact And.intro rfl (Or.inr ⟨(U2.out M1.out he).1, by rw [(U2.out M1.out he).2], below_on E0.out (below_on Bc.out hb)⟩)
          try (have P6 := Lib.hid (P6.out.kept hb))
          have Bc := Lib.hid (below_on Bc.out hb)
          have M2 := Lib.hid he
          clear hb he
          go_simp
          refine hK.out _ _ (KS.out _ Bc.out) (fun h0_10 => ?_)
          clear hK K h0_9
          refine wpAnyH_ready (rs := [11]) (by kernel_rfl) (by simp) (AllReadyH.cons rfl (fun K hK => ?_) AllReadyH.nil)
          rw [if_pos (by rfl)]
          go_simp
          obtain ⟨f0, f1, f2, f3⟩ := P6.out.facts
          go_simp
          refine hK.out _ _ (KS.out _ (below_put Bc.out Zq6.out _ _)) (fun h0_11 => ?_)
          clear hK K h0_10
          clear f0 f1 f2 f3
          try simp only [List.set_cons_succ]
          try simp only [List.set_cons_zero]
          refine wpAnyH_done (by kernel_rfl) ?_ _
          have PE := P6.out.put d.1 d.2
          have BE := below_put Bc.out Zq6.out (.int .i64 d.1) (.int .i64 d.2)
          obtain ⟨we, hwe⟩ : ∃ we, we = (wc.setCell ⟨q6, 0, none⟩ (.int .i64 d.1)).setCell ⟨q6, 1, none⟩ (.int .i64 d.2) := ⟨_, rfl⟩
          rw [← hwe] at PE BE ⊢
          have PX := Lib.hid PE
          have BX := Lib.hid BE
          clear hwe PE BE
          go_wp2_with fail
          go_meet
          case rel => exact ⟨q6, rfl, PX, BX, Zq6, M1, M2⟩
      · rw [if_pos (by rfl)]
        go_simp
        have hb := one_more (w1 := wc) (.cells #[.int .i64 0, .int .i64 0] 50)
        have hP := Pair.made wc 0 0 50
        have hz := Bc.out.size
        obtain ⟨q6, hbb⟩ : ∃ b, b = wc.heap.size := ⟨_, rfl⟩
        rw [← hbb] at hP hz
        obtain ⟨wn, hwn⟩ : ∃ wn, wn = wc.alloc (.cells #[.int .i64 0, .int .i64 0] 50) := ⟨_, rfl⟩
        rw [← hwn] at hb hP ⊢
        try rw [← hbb]
        have Bc := Lib.hid (below_on Bc.out hb)
        have P6 := Lib.hid hP
        have Zq6 := Lib.hid hz
        clear hb hP hz hbb hwn
        obtain ⟨wc, hwc⟩ : ∃ wc, wc = wn := ⟨_, rfl⟩
        rw [← hwc] at Bc P6 ⊢
        clear hwc
        go_simp
        refine hK.out _ _ (KS.out _ Bc.out) (fun h0_2 => ?_)
        clear hK K h0_1
        refine wpAnyH_ready (rs := [5]) (by kernel_rfl) (by simp) (AllReadyH.cons rfl (fun K hK => ?_) AllReadyH.nil)
        rw [if_pos (by rfl)]
        go_simp
        refine (AT.out wc (below_on E0.out Bc.out)).mono ?_
        rintro e wc ⟨hb, (⟨he, rfl⟩ | ⟨he, rfl⟩)⟩
        rotate_left
        · exact And.intro rfl (Or.inr ⟨(U1.out he).1, by rw [(U1.out he).2], below_on E0.out (below_on Bc.out hb)⟩)
        try (have P6 := Lib.hid (P6.out.kept hb))
        have Bc := Lib.hid (below_on Bc.out hb)
        have M1 := Lib.hid he
        clear hb he
        go_simp
        refine hK.out _ _ (KS.out _ Bc.out) (fun h0_12 => ?_)
        clear hK K h0_2
        refine wpAnyH_ready (rs := [6]) (by kernel_rfl) (by simp) (AllReadyH.cons rfl (fun K hK => ?_) AllReadyH.nil)
        rw [if_pos (by rfl)]
        go_simp
        refine (SB.out wc).mono ?_
        rintro e wc ⟨rfl, hb⟩
        try (have P6 := Lib.hid (P6.out.kept hb))
        have Bc := Lib.hid (below_on Bc.out hb)
        clear hb
        go_simp
        refine hK.out _ _ (KS.out _ Bc.out) (fun h0_13 => ?_)
        clear hK K h0_12
        refine wpAnyH_take (i := 7) (v := ?v9) rfl (by kernel_rfl) (by kernel_rfl) (by kernel_rfl) (fun _ _ _ h => h) (Or.inl ⟨by rfl, ?hy9⟩) h0_13 ?rest9
        case hy9 => (intro w' hS; (try dsimp only at hS); go_simp; try (with_reducible rfl))
        simp only [Act.put, List.getElem_toArray, List.getElem_cons_zero, List.getElem_cons_succ, List.setIfInBounds_toArray, List.set_cons_zero, List.set_cons_succ]
        refine wpAnyH_take (i := 8) (v := ?v10) rfl (by kernel_rfl) (by kernel_rfl) (by kernel_rfl) (fun _ _ _ h => h) (Or.inl ⟨by rfl, ?hy10⟩) h0_13 ?rest10
        case hy10 => (intro w' hS; (try dsimp only at hS); go_simp; try (with_reducible rfl))
        simp only [Act.put, List.getElem_toArray, List.getElem_cons_zero, List.getElem_cons_succ, List.setIfInBounds_toArray, List.set_cons_zero, List.set_cons_succ]
        refine wpAnyH_ready (rs := [9]) (by kernel_rfl) (by simp) (AllReadyH.cons rfl (fun K hK => ?_) AllReadyH.nil)
        rw [if_pos (by rfl)]
        go_simp
        refine (mustR_any d ed wc).mono ?_
        rintro e wc ⟨hb, (⟨he, rfl⟩ | ⟨he, rfl⟩)⟩
        rotate_left
        · exact And.intro rfl (Or.inr ⟨(U2.out M1.out he).1, by rw [(U2.out M1.out he).2], below_on E0.out (below_on Bc.out hb)⟩)
        try (have P6 := Lib.hid (P6.out.kept hb))
        have Bc := Lib.hid (below_on Bc.out hb)
        have M2 := Lib.hid he
        clear hb he
        go_simp
        refine hK.out _ _ (KS.out _ Bc.out) (fun h0_14 => ?_)
        clear hK K h0_13
        refine wpAnyH_ready (rs := [11]) (by kernel_rfl) (by simp) (AllReadyH.cons rfl (fun K hK => ?_) AllReadyH.nil)
        rw [if_pos (by rfl)]
        go_simp
        obtain ⟨f0, f1, f2, f3⟩ := P6.out.facts
        go_simp
        refine hK.out _ _ (KS.out _ (below_put Bc.out Zq6.out _ _)) (fun h0_15 => ?_)
        clear hK K h0_14
        clear f0 f1 f2 f3
        try simp only [List.set_cons_succ]
        try simp only [List.set_cons_zero]
        refine wpAnyH_done (by kernel_rfl) ?_ _
        have PE := P6.out.put d.1 d.2
        have BE := below_put Bc.out Zq6.out (.int .i64 d.1) (.int .i64 d.2)
        obtain ⟨we, hwe⟩ : ∃ we, we = (wc.setCell ⟨q6, 0, none⟩ (.int .i64 d.1)).setCell ⟨q6, 1, none⟩ (.int .i64 d.2) := ⟨_, rfl⟩
        rw [← hwe] at PE BE ⊢
        have PX := Lib.hid PE
        have BX := Lib.hid BE
        clear hwe PE BE
        go_wp2_with fail
        go_meet
        case rel => exact ⟨q6, rfl, PX, BX, Zq6, M1, M2⟩
    · rw [if_pos (by rfl)]
      go_simp
      have hb := one_more (w1 := wc) (.cells #[.int .i64 0, .int .i64 0] 50)
      have hP := Pair.made wc 0 0 50
      have hz := Bc.out.size
      obtain ⟨q6, hbb⟩ : ∃ b, b = wc.heap.size := ⟨_, rfl⟩
      rw [← hbb] at hP hz
      obtain ⟨wn, hwn⟩ : ∃ wn, wn = wc.alloc (.cells #[.int .i64 0, .int .i64 0] 50) := ⟨_, rfl⟩
      rw [← hwn] at hb hP ⊢
      try rw [← hbb]
      have Bc := Lib.hid (below_on Bc.out hb)
      have P6 := Lib.hid hP
      have Zq6 := Lib.hid hz
      clear hb hP hz hbb hwn
      obtain ⟨wc, hwc⟩ : ∃ wc, wc = wn := ⟨_, rfl⟩
      rw [← hwc] at Bc P6 ⊢
      clear hwc
      go_simp
      refine hK.out _ _ (KS.out _ Bc.out) (fun h0_1 => ?_)
      clear hK K h0
      refine wpAnyH_ready (rs := [2]) (by kernel_rfl) (by simp) (AllReadyH.cons rfl (fun K hK => ?_) AllReadyH.nil)
      rw [if_pos (by rfl)]
      go_simp
      refine (whole_any x.b wc).mono ?_
      rintro e wc ⟨rfl, hb⟩
      try (have P6 := Lib.hid (P6.out.kept hb))
      have Bc := Lib.hid (below_on Bc.out hb)
      clear hb
      go_simp
      refine hK.out _ _ (KS.out _ Bc.out) (fun h0_16 => ?_)
      clear hK K h0_1
      refine wpAnyH_ready (rs := [5]) (by kernel_rfl) (by simp) (AllReadyH.cons rfl (fun K hK => ?_) AllReadyH.nil)
      rw [if_pos (by rfl)]
      go_simp
      refine (AT.out wc (below_on E0.out Bc.out)).mono ?_
      rintro e wc ⟨hb, (⟨he, rfl⟩ | ⟨he, rfl⟩)⟩
      rotate_left
      · exact And.intro rfl (Or.inr ⟨(U1.out he).1, by rw [(U1.out he).2], below_on E0.out (below_on Bc.out hb)⟩)
      try (have P6 := Lib.hid (P6.out.kept hb))
      have Bc := Lib.hid (below_on Bc.out hb)
      have M1 := Lib.hid he
      clear hb he
      go_simp
      refine hK.out _ _ (KS.out _ Bc.out) (fun h0_17 => ?_)
      clear hK K h0_16
      refine wpAnyH_ready (rs := [6]) (by kernel_rfl) (by simp) (AllReadyH.cons rfl (fun K hK => ?_) AllReadyH.nil)
      rw [if_pos (by rfl)]
      go_simp
      refine (SB.out wc).mono ?_
      rintro e wc ⟨rfl, hb⟩
      try (have P6 := Lib.hid (P6.out.kept hb))
      have Bc := Lib.hid (below_on Bc.out hb)
      clear hb
      go_simp
      refine hK.out _ _ (KS.out _ Bc.out) (fun h0_18 => ?_)
      clear hK K h0_17
      refine wpAnyH_take (i := 7) (v := ?v11) rfl (by kernel_rfl) (by kernel_rfl) (by kernel_rfl) (fun _ _ _ h => h) (Or.inl ⟨by rfl, ?hy11⟩) h0_18 ?rest11
      case hy11 => (intro w' hS; (try dsimp only at hS); go_simp; try (with_reducible rfl))
      simp only [Act.put, List.getElem_toArray, List.getElem_cons_zero, List.getElem_cons_succ, List.setIfInBounds_toArray, List.set_cons_zero, List.set_cons_succ]
      refine wpAnyH_take (i := 8) (v := ?v12) rfl (by kernel_rfl) (by kernel_rfl) (by kernel_rfl) (fun _ _ _ h => h) (Or.inl ⟨by rfl, ?hy12⟩) h0_18 ?rest12
      case hy12 => (intro w' hS; (try dsimp only at hS); go_simp; try (with_reducible rfl))
      simp only [Act.put, List.getElem_toArray, List.getElem_cons_zero, List.getElem_cons_succ, List.setIfInBounds_toArray, List.set_cons_zero, List.set_cons_succ]
      refine wpAnyH_ready (rs := [9]) (by kernel_rfl) (by simp) (AllReadyH.cons rfl (fun K hK => ?_) AllReadyH.nil)
      rw [if_pos (by rfl)]
      go_simp
      refine (mustR_any d ed wc).mono ?_
      rintro e wc ⟨hb, (⟨he, rfl⟩ | ⟨he, rfl⟩)⟩
      rotate_left
      · exact And.intro rfl (Or.inr ⟨(U2.out M1.out he).1, by rw [(U2.out M1.out he).2], below_on E0.out (below_on Bc.out hb)⟩)
      try (have P6 := Lib.hid (P6.out.kept hb))
      have Bc := Lib.hid (below_on Bc.out hb)
      have M2 := Lib.hid he
      clear hb he
      go_simp
      refine hK.out _ _ (KS.out _ Bc.out) (fun h0_19 => ?_)
      clear hK K h0_18
      refine wpAnyH_ready (rs := [11]) (by kernel_rfl) (by simp) (AllReadyH.cons rfl (fun K hK => ?_) AllReadyH.nil)
      rw [if_pos (by rfl)]
      go_simp
      obtain ⟨f0, f1, f2, f3⟩ := P6.out.facts
      go_simp
      refine hK.out _ _ (KS.out _ (below_put Bc.out Zq6.out _ _)) (fun h0_20 => ?_)
      clear hK K h0_19
      clear f0 f1 f2 f3
      try simp only [List.set_cons_succ]
      try simp only [List.set_cons_zero]
      refine wpAnyH_done (by kernel_rfl) ?_ _
      have PE := P6.out.put d.1 d.2
      have BE := below_put Bc.out Zq6.out (.int .i64 d.1) (.int .i64 d.2)
      obtain ⟨we, hwe⟩ : ∃ we, we = (wc.setCell ⟨q6, 0, none⟩ (.int .i64 d.1)).setCell ⟨q6, 1, none⟩ (.int .i64 d.2) := ⟨_, rfl⟩
      rw [← hwe] at PE BE ⊢
      have PX := Lib.hid PE
      have BX := Lib.hid BE
      clear hwe PE BE
      go_wp2_with fail
      go_meet
      case rel => exact ⟨q6, rfl, PX, BX, Zq6, M1, M2⟩
  case rest =>
  obtain ⟨q6, rfl, HP, HB, HZ, M1, M2⟩ := hcut
  obtain ⟨w1, hw1⟩ : ∃ w1, w1 = wc := ⟨_, rfl⟩
  rw [← hw1] at HP HB ⊢
  clear hw1 AT SB XB Q2
  have UE := Lib.hid (U4.out M1.out M2.out)
  have UF := Lib.hid (U3.out M1.out M2.out)
  have HBU := Lib.hid (show ∀ v1 v2 v3 w, (Instr.build 105 #[(0, .agg #[.int .i64 v1, .int .i64 v2]), (1, .bool true), (2, .bool v3)]).run Tryz.prog w = .ok (.agg (En.mk (v1, v2) true v3).cs) w from fun v1 v2 v3 w => run_build w _ _ _ (by kernel_rfl))
  clear U1 U2 U3 U4 M1 M2
  have hbu := HBU.out
  go_upto_region 2 with (fail)
  go_cut [7] (fun s7 wx => ∃ q7 : Nat, s7 = .pointer (some ⟨q7, 0, none⟩) ∧ Hid (EnB wx q7 ⟨f, true, x.s⟩) ∧ Hid (Below w0.heap.size w0 wx) ∧ Hid (w0.heap.size ≤ q7) ∧ Hid (ef = 0))
  case first =>
    have KS := Lib.hid (show ∀ W, Below w1.heap.size w1 W → (W.cell? ⟨q6, 0, none⟩ = some (.int .i64 d.1) ∧ W.cell? ⟨q6, 1, none⟩ = some (.int .i64 d.2) ∧ W.cell? ⟨pi, 0, none⟩ = some (.int .i64 i) ∧ W.cell? ⟨w.heap.size, i, none⟩ = some (.int .i64 k) ∧ W.cell? ⟨w.heap.size, 7, none⟩ = some (.bool x.s)) from fun W h => ⟨(HP.out.kept h).facts.1, (HP.out.kept h).facts.2.1, kept h (kept HB.out C1.out), XI.out W (K0.out.kept (below_on HB.out h)), (K0.out.kept (below_on HB.out h)).str⟩)
    obtain ⟨wc, hwc⟩ : ∃ wc, wc = w1.drew := ⟨_, rfl⟩
    have Bc := Lib.hid (show Below w1.heap.size w1 wc by rw [hwc]; exact (Below.refl _ _).drew)
    refine wp_region_held_drew (S := (fun W => (W.cell? ⟨q6, 0, none⟩ = some (.int .i64 d.1) ∧ W.cell? ⟨q6, 1, none⟩ = some (.int .i64 d.2) ∧ W.cell? ⟨pi, 0, none⟩ = some (.int .i64 i) ∧ W.cell? ⟨w.heap.size, i, none⟩ = some (.int .i64 k) ∧ W.cell? ⟨w.heap.size, 7, none⟩ = some (.bool x.s)))) (by kernel_rfl) (by rw [← hwc]; exact KS.out _ Bc.out) (fun h0 => ?_)
    rw [← hwc] at h0 ⊢
    clear hwc
    refine wpAnyH_take (i := 0) (v := ?v13) rfl (by kernel_rfl) (by kernel_rfl) (by kernel_rfl) (fun _ _ _ h => h) (Or.inl ⟨by rfl, ?hy13⟩) h0 ?rest13
    case hy13 => (intro w' hS; (try dsimp only at hS); go_simp; try (with_reducible rfl))
    simp only [Act.put, List.getElem_toArray, List.getElem_cons_zero, List.setIfInBounds_toArray, List.set_cons_zero, List.set_cons_succ]
    refine wpAnyH_take (i := 1) (v := ?v14) rfl (by kernel_rfl) (by kernel_rfl) (by kernel_rfl) (fun _ _ _ h => h) (Or.inl ⟨by rfl, ?hy14⟩) h0 ?rest14
    case hy14 => (intro w' hS; (try dsimp only at hS); go_simp; try (with_reducible rfl))
    simp only [Act.put, List.getElem_toArray, List.getElem_cons_zero, List.getElem_cons_succ, List.setIfInBounds_toArray, List.set_cons_zero, List.set_cons_succ]
    refine wpAnyH_take (i := 2) (v := ?v15) rfl (by kernel_rfl) (by kernel_rfl) (by kernel_rfl) (fun _ _ _ h => h) (Or.inl ⟨by rfl, ?hy15⟩) h0 ?rest15
    case hy15 => (intro w' hS; (try dsimp only at hS); go_simp; try (with_reducible rfl))
    simp only [Act.put, List.getElem_toArray, List.getElem_cons_zero, List.getElem_cons_succ, List.setIfInBounds_toArray, List.set_cons_zero, List.set_cons_succ]
    refine wpAnyH_take (i := 3) (v := ?v16) rfl (by kernel_rfl) (by kernel_rfl) (by kernel_rfl) (fun _ _ _ h => h) (Or.inl ⟨by rfl, ?hy16⟩) h0 ?rest16
    case hy16 => (intro w' hS; (try dsimp only at hS); go_simp; try (with_reducible rfl))
    simp only [Act.put, List.getElem_toArray, List.getElem_cons_zero, List.getElem_cons_succ, List.setIfInBounds_toArray, List.set_cons_zero, List.set_cons_succ]
    refine wpAnyH_take (i := 4) (v := ?v17) rfl (by kernel_rfl) (by kernel_rfl) (by kernel_rfl) (fun _ _ _ h => h) (Or.inl ⟨by rfl, ?hy17⟩) h0 ?rest17
    case hy17 => (intro w' hS; (try dsimp only at hS); go_simp; try (with_reducible rfl))
    simp only [Act.put, List.getElem_toArray, List.getElem_cons_zero, List.getElem_cons_succ, List.setIfInBounds_toArray, List.set_cons_zero, List.set_cons_succ]
    refine wpAnyH_take (i := 10) (v := ?v18) rfl (by kernel_rfl) (by kernel_rfl) (by kernel_rfl) (fun _ _ _ h => h) (Or.inl ⟨by rfl, ?hy18⟩) h0 ?rest18
    case hy18 => (intro w' hS; (try dsimp only at hS); go_simp; try (with_reducible rfl))
    simp only [Act.put, List.getElem_toArray, List.getElem_cons_zero, List.getElem_cons_succ, List.setIfInBounds_toArray, List.set_cons_zero, List.set_cons_succ]
    refine wpAnyH_take (i := 11) (v := ?v19) rfl (by kernel_rfl) (by kernel_rfl) (by kernel_rfl) (fun _ _ _ h => h) (Or.inl ⟨by rfl, ?hy19⟩) h0 ?rest19
    case hy19 => (intro w' hS; (try dsimp only at hS); go_simp; try (with_reducible rfl))
    simp only [Act.put, List.getElem_toArray, List.getElem_cons_zero, List.getElem_cons_succ, List.setIfInBounds_toArray, List.set_cons_zero, List.set_cons_succ]
    refine wpAnyH_ready (rs := [5, 13]) (by kernel_rfl) (by simp) (AllReadyH.cons rfl (fun K hK => ?_) (AllReadyH.cons rfl (fun K hK => ?_) AllReadyH.nil))
    · rw [if_pos (by rfl)]
      go_simp
      refine (whole_any k wc).mono ?_
      rintro e wc ⟨rfl, hb⟩
      try (have P7 := Lib.hid (P7.out.kept hb))
      have Bc := Lib.hid (below_on Bc.out hb)
      clear hb
      go_simp
      refine hK.out _ _ (KS.out _ Bc.out) (fun h0_1 => ?_)
      clear hK K h0
      refine wpAnyH_ready (rs := [6, 13]) (by kernel_rfl) (by simp) (AllReadyH.cons rfl (fun K hK => ?_) (AllReadyH.cons rfl (fun K hK => ?_) AllReadyH.nil))
      · rw [if_pos (by rfl)]
        go_simp
        refine (DV.out wc).mono ?_
        rintro e wc ⟨rfl, hb⟩
        try (have P7 := Lib.hid (P7.out.kept hb))
        have Bc := Lib.hid (below_on Bc.out hb)
        clear hb
        go_simp
        refine hK.out _ _ (KS.out _ Bc.out) (fun h0_2 => ?_)
        clear hK K h0_1
        refine wpAnyH_take (i := 7) (v := ?v20) rfl (by kernel_rfl) (by kernel_rfl) (by kernel_rfl) (fun _ _ _ h => h) (Or.inl ⟨by rfl, ?hy20⟩) h0_2 ?rest20
        case hy20 => (intro w' hS; (try dsimp only at hS); go_simp; try (with_reducible rfl))
        simp only [Act.put, List.getElem_toArray, List.getElem_cons_zero, List.getElem_cons_succ, List.setIfInBounds_toArray, List.set_cons_zero, List.set_cons_succ]
        refine wpAnyH_take (i := 8) (v := ?v21) rfl (by kernel_rfl) (by kernel_rfl) (by kernel_rfl) (fun _ _ _ h => h) (Or.inl ⟨by rfl, ?hy21⟩) h0_2 ?rest21
        case hy21 => (intro w' hS; (try dsimp only at hS); go_simp; try (with_reducible rfl))
        simp only [Act.put, List.getElem_toArray, List.getElem_cons_zero, List.getElem_cons_succ, List.setIfInBounds_toArray, List.set_cons_zero, List.set_cons_succ]
        refine wpAnyH_ready (rs := [9, 13]) (by kernel_rfl) (by simp) (AllReadyH.cons rfl (fun K hK => ?_) (AllReadyH.cons rfl (fun K hK => ?_) AllReadyH.nil))
        · rw [if_pos (by rfl)]
          go_simp
          refine (mustR_any f ef wc).mono ?_
          rintro e wc ⟨hb, (⟨he, rfl⟩ | ⟨he, rfl⟩)⟩
          rotate_left
          · exact And.intro rfl (Or.inr ⟨(UF.out he).1, by rw [(UF.out he).2], below_on E0.out (below_on HB.out (below_on Bc.out hb))⟩)
          try (have P7 := Lib.hid (P7.out.kept hb))
          have Bc := Lib.hid (below_on Bc.out hb)
          have M3 := Lib.hid he
          clear hb he
          go_simp
          refine hK.out _ _ (KS.out _ Bc.out) (fun h0_3 => ?_)
          clear hK K h0_2
          refine wpAnyH_take (i := 12) (v := ?v22) rfl (by kernel_rfl) (by kernel_rfl) (by kernel_rfl) (fun _ _ _ h => h) (Or.inl ⟨by rfl, ?hy22⟩) h0_3 ?rest22
          case hy22 => (intro w' hS; (try dsimp only at hS); go_simp; try (with_reducible rfl))
          simp only [Act.put, List.getElem_toArray, List.getElem_cons_zero, List.getElem_cons_succ, List.setIfInBounds_toArray, List.set_cons_zero, List.set_cons_succ]
          refine wpAnyH_ready (rs := [13]) (by kernel_rfl) (by simp) (AllReadyH.cons rfl (fun K hK => ?_) AllReadyH.nil)
          rw [if_pos (by rfl)]
          go_simp
          have hb := one_more (w1 := wc) (.cells #[.int .i64 0, .int .i64 0, .bool false, .bool false] 105)
          have hP := (show EnB (wc.alloc (.cells #[.int .i64 0, .int .i64 0, .bool false, .bool false] 105)) wc.heap.size en0 from EnB.made wc en0)
          have hz := Bc.out.size
          obtain ⟨q7, hbb⟩ : ∃ b, b = wc.heap.size := ⟨_, rfl⟩
          rw [← hbb] at hP hz
          obtain ⟨wn, hwn⟩ : ∃ wn, wn = wc.alloc (.cells #[.int .i64 0, .int .i64 0, .bool false, .bool false] 105) := ⟨_, rfl⟩
          rw [← hwn] at hb hP ⊢
          try rw [← hbb]
          have Bc := Lib.hid (below_on Bc.out hb)
          have P7 := Lib.hid hP
          have Zq7 := Lib.hid hz
          clear hb hP hz hbb hwn
          obtain ⟨wc, hwc⟩ : ∃ wc, wc = wn := ⟨_, rfl⟩
          rw [← hwc] at Bc P7 ⊢
          clear hwc
          go_simp
          refine hK.out _ _ (KS.out _ Bc.out) (fun h0_4 => ?_)
          clear hK K h0_3
          refine wpAnyH_ready (rs := [14]) (by kernel_rfl) (by simp) (AllReadyH.cons rfl (fun K hK => ?_) AllReadyH.nil)
          rw [if_pos (by rfl)]
          refine wp_store_row _ _ _ rfl q7 (En.mk f true x.s).cs rfl rfl _ _ P7.out (by exact zero_en) rfl (En.one _) ?_
          refine hK.out _ _ (KS.out _ (Below.setRow Bc.out Zq7.out _)) (fun h0_5 => ?_)
          clear hK K h0_4
          try simp only [List.set_cons_succ]
          try simp only [List.set_cons_zero]
          refine wpAnyH_done (by kernel_rfl) ?_ _
          have PE := P7.out.setRow (y := En.mk f true x.s)
          have BE := Below.setRow (below_on HB.out Bc.out) (b := q7) (by have := Zq7.out; have := HB.out.size; omega) (En.mk f true x.s).cs
          obtain ⟨we, hwe⟩ : ∃ we, we = wc.setRow q7 (En.mk f true x.s).cs := ⟨_, rfl⟩
          rw [← hwe] at PE BE ⊢
          have PX := Lib.hid PE
          have BX := Lib.hid BE
          clear hwe PE BE
          go_wp2_with fail
          go_meet
          case rel => exact ⟨q7, rfl, PX, BX, Lib.hid (by have := Zq7.out; have := HB.out.size; omega), M3⟩
        · rw [if_pos (by rfl)]
          go_simp
          have hb := one_more (w1 := wc) (.cells #[.int .i64 0, .int .i64 0, .bool false, .bool false] 105)
          have hP := (show EnB (wc.alloc (.cells #[.int .i64 0, .int .i64 0, .bool false, .bool false] 105)) wc.heap.size en0 from EnB.made wc en0)
          have hz := Bc.out.size
          obtain ⟨q7, hbb⟩ : ∃ b, b = wc.heap.size := ⟨_, rfl⟩
          rw [← hbb] at hP hz
          obtain ⟨wn, hwn⟩ : ∃ wn, wn = wc.alloc (.cells #[.int .i64 0, .int .i64 0, .bool false, .bool false] 105) := ⟨_, rfl⟩
          rw [← hwn] at hb hP ⊢
          try rw [← hbb]
          have Bc := Lib.hid (below_on Bc.out hb)
          have P7 := Lib.hid hP
          have Zq7 := Lib.hid hz
          clear hb hP hz hbb hwn
          obtain ⟨wc, hwc⟩ : ∃ wc, wc = wn := ⟨_, rfl⟩
          rw [← hwc] at Bc P7 ⊢
          clear hwc
          go_simp
          refine hK.out _ _ (KS.out _ Bc.out) (fun h0_3 => ?_)
          clear hK K h0_2
          refine wpAnyH_ready (rs := [9]) (by kernel_rfl) (by simp) (AllReadyH.cons rfl (fun K hK => ?_) AllReadyH.nil)
          rw [if_pos (by rfl)]
          go_simp
          refine (mustR_any f ef wc).mono ?_
          rintro e wc ⟨hb, (⟨he, rfl⟩ | ⟨he, rfl⟩)⟩
          rotate_left
          · exact And.intro rfl (Or.inr ⟨(UF.out he).1, by rw [(UF.out he).2], below_on E0.out (below_on HB.out (below_on Bc.out hb))⟩)
          try (have P7 := Lib.hid (P7.out.kept hb))
          have Bc := Lib.hid (below_on Bc.out hb)
          have M3 := Lib.hid he
          clear hb he
          go_simp
          refine hK.out _ _ (KS.out _ Bc.out) (fun h0_6 => ?_)
          clear hK K h0_3
          refine wpAnyH_take (i := 12) (v := ?v23) rfl (by kernel_rfl) (by kernel_rfl) (by kernel_rfl) (fun _ _ _ h => h) (Or.inl ⟨by rfl, ?hy23⟩) h0_6 ?rest23
          case hy23 => (intro w' hS; (try dsimp only at hS); go_simp; try (with_reducible rfl))
          simp only [Act.put, List.getElem_toArray, List.getElem_cons_zero, List.getElem_cons_succ, List.setIfInBounds_toArray, List.set_cons_zero, List.set_cons_succ]
          refine wpAnyH_ready (rs := [14]) (by kernel_rfl) (by simp) (AllReadyH.cons rfl (fun K hK => ?_) AllReadyH.nil)
          rw [if_pos (by rfl)]
          refine wp_store_row _ _ _ rfl q7 (En.mk f true x.s).cs rfl rfl _ _ P7.out (by exact zero_en) rfl (En.one _) ?_
          refine hK.out _ _ (KS.out _ (Below.setRow Bc.out Zq7.out _)) (fun h0_7 => ?_)
          clear hK K h0_6
          try simp only [List.set_cons_succ]
          try simp only [List.set_cons_zero]
          refine wpAnyH_done (by kernel_rfl) ?_ _
          have PE := P7.out.setRow (y := En.mk f true x.s)
          have BE := Below.setRow (below_on HB.out Bc.out) (b := q7) (by have := Zq7.out; have := HB.out.size; omega) (En.mk f true x.s).cs
          obtain ⟨we, hwe⟩ : ∃ we, we = wc.setRow q7 (En.mk f true x.s).cs := ⟨_, rfl⟩
          rw [← hwe] at PE BE ⊢
          have PX := Lib.hid PE
          have BX := Lib.hid BE
          clear hwe PE BE
          go_wp2_with fail
          go_meet
          case rel => exact ⟨q7, rfl, PX, BX, Lib.hid (by have := Zq7.out; have := HB.out.size; omega), M3⟩
      · rw [if_pos (by rfl)]
        go_simp
        have hb := one_more (w1 := wc) (.cells #[.int .i64 0, .int .i64 0, .bool false, .bool false] 105)
        have hP := (show EnB (wc.alloc (.cells #[.int .i64 0, .int .i64 0, .bool false, .bool false] 105)) wc.heap.size en0 from EnB.made wc en0)
        have hz := Bc.out.size
        obtain ⟨q7, hbb⟩ : ∃ b, b = wc.heap.size := ⟨_, rfl⟩
        rw [← hbb] at hP hz
        obtain ⟨wn, hwn⟩ : ∃ wn, wn = wc.alloc (.cells #[.int .i64 0, .int .i64 0, .bool false, .bool false] 105) := ⟨_, rfl⟩
        rw [← hwn] at hb hP ⊢
        try rw [← hbb]
        have Bc := Lib.hid (below_on Bc.out hb)
        have P7 := Lib.hid hP
        have Zq7 := Lib.hid hz
        clear hb hP hz hbb hwn
        obtain ⟨wc, hwc⟩ : ∃ wc, wc = wn := ⟨_, rfl⟩
        rw [← hwc] at Bc P7 ⊢
        clear hwc
        go_simp
        refine hK.out _ _ (KS.out _ Bc.out) (fun h0_2 => ?_)
        clear hK K h0_1
        refine wpAnyH_ready (rs := [6]) (by kernel_rfl) (by simp) (AllReadyH.cons rfl (fun K hK => ?_) AllReadyH.nil)
        rw [if_pos (by rfl)]
        go_simp
        refine (DV.out wc).mono ?_
        rintro e wc ⟨rfl, hb⟩
        try (have P7 := Lib.hid (P7.out.kept hb))
        have Bc := Lib.hid (below_on Bc.out hb)
        clear hb
        go_simp
        refine hK.out _ _ (KS.out _ Bc.out) (fun h0_8 => ?_)
        clear hK K h0_2
        refine wpAnyH_take (i := 7) (v := ?v24) rfl (by kernel_rfl) (by kernel_rfl) (by kernel_rfl) (fun _ _ _ h => h) (Or.inl ⟨by rfl, ?hy24⟩) h0_8 ?rest24
        case hy24 => (intro w' hS; (try dsimp only at hS); go_simp; try (with_reducible rfl))
        simp only [Act.put, List.getElem_toArray, List.getElem_cons_zero, List.getElem_cons_succ, List.setIfInBounds_toArray, List.set_cons_zero, List.set_cons_succ]
        refine wpAnyH_take (i := 8) (v := ?v25) rfl (by kernel_rfl) (by kernel_rfl) (by kernel_rfl) (fun _ _ _ h => h) (Or.inl ⟨by rfl, ?hy25⟩) h0_8 ?rest25
        case hy25 => (intro w' hS; (try dsimp only at hS); go_simp; try (with_reducible rfl))
        simp only [Act.put, List.getElem_toArray, List.getElem_cons_zero, List.getElem_cons_succ, List.setIfInBounds_toArray, List.set_cons_zero, List.set_cons_succ]
        refine wpAnyH_ready (rs := [9]) (by kernel_rfl) (by simp) (AllReadyH.cons rfl (fun K hK => ?_) AllReadyH.nil)
        rw [if_pos (by rfl)]
        go_simp
        refine (mustR_any f ef wc).mono ?_
        rintro e wc ⟨hb, (⟨he, rfl⟩ | ⟨he, rfl⟩)⟩
        rotate_left
        · exact And.intro rfl (Or.inr ⟨(UF.out he).1, by rw [(UF.out he).2], below_on E0.out (below_on HB.out (below_on Bc.out hb))⟩)
        try (have P7 := Lib.hid (P7.out.kept hb))
        have Bc := Lib.hid (below_on Bc.out hb)
        have M3 := Lib.hid he
        clear hb he
        go_simp
        refine hK.out _ _ (KS.out _ Bc.out) (fun h0_9 => ?_)
        clear hK K h0_8
        refine wpAnyH_take (i := 12) (v := ?v26) rfl (by kernel_rfl) (by kernel_rfl) (by kernel_rfl) (fun _ _ _ h => h) (Or.inl ⟨by rfl, ?hy26⟩) h0_9 ?rest26
        case hy26 => (intro w' hS; (try dsimp only at hS); go_simp; try (with_reducible rfl))
        simp only [Act.put, List.getElem_toArray, List.getElem_cons_zero, List.getElem_cons_succ, List.setIfInBounds_toArray, List.set_cons_zero, List.set_cons_succ]
        refine wpAnyH_ready (rs := [14]) (by kernel_rfl) (by simp) (AllReadyH.cons rfl (fun K hK => ?_) AllReadyH.nil)
        rw [if_pos (by rfl)]
        refine wp_store_row _ _ _ rfl q7 (En.mk f true x.s).cs rfl rfl _ _ P7.out (by exact zero_en) rfl (En.one _) ?_
        refine hK.out _ _ (KS.out _ (Below.setRow Bc.out Zq7.out _)) (fun h0_10 => ?_)
        clear hK K h0_9
        try simp only [List.set_cons_succ]
        try simp only [List.set_cons_zero]
        refine wpAnyH_done (by kernel_rfl) ?_ _
        have PE := P7.out.setRow (y := En.mk f true x.s)
        have BE := Below.setRow (below_on HB.out Bc.out) (b := q7) (by have := Zq7.out; have := HB.out.size; omega) (En.mk f true x.s).cs
        obtain ⟨we, hwe⟩ : ∃ we, we = wc.setRow q7 (En.mk f true x.s).cs := ⟨_, rfl⟩
        rw [← hwe] at PE BE ⊢
        have PX := Lib.hid PE
        have BX := Lib.hid BE
        clear hwe PE BE
        go_wp2_with fail
        go_meet
        case rel => exact ⟨q7, rfl, PX, BX, Lib.hid (by have := Zq7.out; have := HB.out.size; omega), M3⟩
    · rw [if_pos (by rfl)]
      go_simp
      have hb := one_more (w1 := wc) (.cells #[.int .i64 0, .int .i64 0, .bool false, .bool false] 105)
      have hP := (show EnB (wc.alloc (.cells #[.int .i64 0, .int .i64 0, .bool false, .bool false] 105)) wc.heap.size en0 from EnB.made wc en0)
      have hz := Bc.out.size
      obtain ⟨q7, hbb⟩ : ∃ b, b = wc.heap.size := ⟨_, rfl⟩
      rw [← hbb] at hP hz
      obtain ⟨wn, hwn⟩ : ∃ wn, wn = wc.alloc (.cells #[.int .i64 0, .int .i64 0, .bool false, .bool false] 105) := ⟨_, rfl⟩
      rw [← hwn] at hb hP ⊢
      try rw [← hbb]
      have Bc := Lib.hid (below_on Bc.out hb)
      have P7 := Lib.hid hP
      have Zq7 := Lib.hid hz
      clear hb hP hz hbb hwn
      obtain ⟨wc, hwc⟩ : ∃ wc, wc = wn := ⟨_, rfl⟩
      rw [← hwc] at Bc P7 ⊢
      clear hwc
      go_simp
      refine hK.out _ _ (KS.out _ Bc.out) (fun h0_1 => ?_)
      clear hK K h0
      refine wpAnyH_ready (rs := [5]) (by kernel_rfl) (by simp) (AllReadyH.cons rfl (fun K hK => ?_) AllReadyH.nil)
      rw [if_pos (by rfl)]
      go_simp
      refine (whole_any k wc).mono ?_
      rintro e wc ⟨rfl, hb⟩
      try (have P7 := Lib.hid (P7.out.kept hb))
      have Bc := Lib.hid (below_on Bc.out hb)
      clear hb
      go_simp
      refine hK.out _ _ (KS.out _ Bc.out) (fun h0_11 => ?_)
      clear hK K h0_1
      refine wpAnyH_ready (rs := [6]) (by kernel_rfl) (by simp) (AllReadyH.cons rfl (fun K hK => ?_) AllReadyH.nil)
      rw [if_pos (by rfl)]
      go_simp
      refine (DV.out wc).mono ?_
      rintro e wc ⟨rfl, hb⟩
      try (have P7 := Lib.hid (P7.out.kept hb))
      have Bc := Lib.hid (below_on Bc.out hb)
      clear hb
      go_simp
      refine hK.out _ _ (KS.out _ Bc.out) (fun h0_12 => ?_)
      clear hK K h0_11
      refine wpAnyH_take (i := 7) (v := ?v27) rfl (by kernel_rfl) (by kernel_rfl) (by kernel_rfl) (fun _ _ _ h => h) (Or.inl ⟨by rfl, ?hy27⟩) h0_12 ?rest27
      case hy27 => (intro w' hS; (try dsimp only at hS); go_simp; try (with_reducible rfl))
      simp only [Act.put, List.getElem_toArray, List.getElem_cons_zero, List.getElem_cons_succ, List.setIfInBounds_toArray, List.set_cons_zero, List.set_cons_succ]
      refine wpAnyH_take (i := 8) (v := ?v28) rfl (by kernel_rfl) (by kernel_rfl) (by kernel_rfl) (fun _ _ _ h => h) (Or.inl ⟨by rfl, ?hy28⟩) h0_12 ?rest28
      case hy28 => (intro w' hS; (try dsimp only at hS); go_simp; try (with_reducible rfl))
      simp only [Act.put, List.getElem_toArray, List.getElem_cons_zero, List.getElem_cons_succ, List.setIfInBounds_toArray, List.set_cons_zero, List.set_cons_succ]
      refine wpAnyH_ready (rs := [9]) (by kernel_rfl) (by simp) (AllReadyH.cons rfl (fun K hK => ?_) AllReadyH.nil)
      rw [if_pos (by rfl)]
      go_simp
      refine (mustR_any f ef wc).mono ?_
      rintro e wc ⟨hb, (⟨he, rfl⟩ | ⟨he, rfl⟩)⟩
      rotate_left
      · exact And.intro rfl (Or.inr ⟨(UF.out he).1, by rw [(UF.out he).2], below_on E0.out (below_on HB.out (below_on Bc.out hb))⟩)
      try (have P7 := Lib.hid (P7.out.kept hb))
      have Bc := Lib.hid (below_on Bc.out hb)
      have M3 := Lib.hid he
      clear hb he
      go_simp
      refine hK.out _ _ (KS.out _ Bc.out) (fun h0_13 => ?_)
      clear hK K h0_12
      refine wpAnyH_take (i := 12) (v := ?v29) rfl (by kernel_rfl) (by kernel_rfl) (by kernel_rfl) (fun _ _ _ h => h) (Or.inl ⟨by rfl, ?hy29⟩) h0_13 ?rest29
      case hy29 => (intro w' hS; (try dsimp only at hS); go_simp; try (with_reducible rfl))
      simp only [Act.put, List.getElem_toArray, List.getElem_cons_zero, List.getElem_cons_succ, List.setIfInBounds_toArray, List.set_cons_zero, List.set_cons_succ]
      refine wpAnyH_ready (rs := [14]) (by kernel_rfl) (by simp) (AllReadyH.cons rfl (fun K hK => ?_) AllReadyH.nil)
      rw [if_pos (by rfl)]
      refine wp_store_row _ _ _ rfl q7 (En.mk f true x.s).cs rfl rfl _ _ P7.out (by exact zero_en) rfl (En.one _) ?_
      refine hK.out _ _ (KS.out _ (Below.setRow Bc.out Zq7.out _)) (fun h0_14 => ?_)
      clear hK K h0_13
      try simp only [List.set_cons_succ]
      try simp only [List.set_cons_zero]
      refine wpAnyH_done (by kernel_rfl) ?_ _
      have PE := P7.out.setRow (y := En.mk f true x.s)
      have BE := Below.setRow (below_on HB.out Bc.out) (b := q7) (by have := Zq7.out; have := HB.out.size; omega) (En.mk f true x.s).cs
      obtain ⟨we, hwe⟩ : ∃ we, we = wc.setRow q7 (En.mk f true x.s).cs := ⟨_, rfl⟩
      rw [← hwe] at PE BE ⊢
      have PX := Lib.hid PE
      have BX := Lib.hid BE
      clear hwe PE BE
      go_wp2_with fail
      go_meet
      case rel => exact ⟨q7, rfl, PX, BX, Lib.hid (by have := Zq7.out; have := HB.out.size; omega), M3⟩
  case rest =>
  obtain ⟨q7, rfl, HP7, HB7, HZ7, M3⟩ := hcut
  obtain ⟨w2, hw2⟩ : ∃ w2, w2 = wc := ⟨_, rfl⟩
  rw [← hw2] at HP7 HB7 ⊢
  obtain ⟨cv, cex, cop⟩ := c
  have HG2 := Lib.hid (HG.out.kept HB7.out)
  have GQ := Lib.hid (show g ≠ q7 by have := GL.out; have := HZ7.out; have := E0.out.size; omega)
  have BW := Lib.hid (below_on E0.out HB7.out)
  have x2 := kept HB7.out C2.out
  have UG := Lib.hid (UE.out M3.out)
  clear hw2 UE UF DV HBU hbu HP HB HZ HG GL M3
  have fin := Lib.hid (show ∀ W y, EnB W g y → Below w.heap.size w W → EnB (W.setRow g (En.mk f true x.s).cs) g ⟨f, true, x.s⟩ ∧ GB g w (W.setRow g (En.mk f true x.s).cs) from fun W y h b => ⟨h.setRow, GB.trans (GB.below b) (grown_row W g _)⟩)
  cases cex
  · obtain ⟨g0, g1, g2, g3⟩ := HG2.out.facts
    have UH := Lib.hid (show CE = 0 by rw [UG.out]; simp)
    have UI := Lib.hid (show CR = ⟨f, true, x.s⟩ by rw [U5.out]; simp)
    clear UG U5
    go_wp2_with (first | refine wpList_load_row rfl _ _ rfl q7 rfl _ (En.mk f true x.s).cs (0, 0) _ HP7.out Tryz.underlying105 rfl zero_en ?_ | refine wpList_store_row rfl _ _ _ rfl g (En.mk f true x.s).cs rfl rfl _ _ HG2.out zero_en rfl (En.one _) ?_)
    refine bodyPost_ret (v := .tuple #[]) (by simp [results, Tryz.results143, go_sem]) rfl ?_
    have := fin.out _ _ HG2.out BW.out
    exact Or.inl ⟨UH.out, rfl, by rw [UI.out]; exact this.1, this.2⟩
  · obtain ⟨g0, g1, g2, g3⟩ := HG2.out.facts
    obtain ⟨k', hk'⟩ : ∃ k', k' = cmR f cv := ⟨_, rfl⟩
    obtain ⟨o, ho⟩ : ∃ o, o = side * k' := ⟨_, rfl⟩
    have ob : -1 ≤ o ∧ o ≤ 1 := by
      have h1 := cmR_bd f cv
      rw [← hk'] at h1
      rcases SD.out with h | h <;> rw [ho, h] <;> omega
    have hwo : IntKind.i64.wrap (side * k') = o := by rw [← ho]; exact wrap_in _ (by omega) (by omega)
    have HWO := Lib.hid hwo
    have UH := Lib.hid (show CE = cmE f cv by rw [UG.out]; simp)
    have UI := Lib.hid (show CR = if 0 < o ∨ (o = 0 ∧ x.s = true) then ⟨f, true, x.s⟩ else ⟨cv, true, cop⟩ by rw [U5.out]; simp only [← hk', ← ho]; rfl)
    have CM := Lib.hid (fun W => cmpP_any f cv W F2.out C2'.out)
    rw [← hk'] at CM
    have OB := Lib.hid ob
    have C2w := Lib.hid x2
    clear UG U5 ho hk' hwo ob
    go_upto_region 5 with (fail)
    clear g0 g1 g2 g3
    have KS := Lib.hid (show ∀ W, Below w2.heap.size w2 W → (W.cell? ⟨pd, 0, none⟩ = some (.int .i64 side) ∧ W.cell? ⟨q7, 0, none⟩ = some (.int .i64 f.1) ∧ W.cell? ⟨q7, 1, none⟩ = some (.int .i64 f.2) ∧ W.cell? ⟨pc, 0, none⟩ = some (.pointer (some ⟨g, 0, none⟩)) ∧ W.cell? ⟨g, 0, none⟩ = some (.int .i64 cv.1) ∧ W.cell? ⟨g, 1, none⟩ = some (.int .i64 cv.2)) from fun W h => ⟨kept h (kept HB7.out C3.out), (HP7.out.kept h).facts.1, (HP7.out.kept h).facts.2.1, kept h (kept HB7.out C2.out), (HG2.out.kept h).facts.1, (HG2.out.kept h).facts.2.1⟩)
    obtain ⟨wc, hwc⟩ : ∃ wc, wc = w2.drew := ⟨_, rfl⟩
    have Bc := Lib.hid (show Below w2.heap.size w2 wc by rw [hwc]; exact (Below.refl _ _).drew)
    refine wp_region_held_drew (S := (fun W => (W.cell? ⟨pd, 0, none⟩ = some (.int .i64 side) ∧ W.cell? ⟨q7, 0, none⟩ = some (.int .i64 f.1) ∧ W.cell? ⟨q7, 1, none⟩ = some (.int .i64 f.2) ∧ W.cell? ⟨pc, 0, none⟩ = some (.pointer (some ⟨g, 0, none⟩)) ∧ W.cell? ⟨g, 0, none⟩ = some (.int .i64 cv.1) ∧ W.cell? ⟨g, 1, none⟩ = some (.int .i64 cv.2)))) (by kernel_rfl) (by rw [← hwc]; exact KS.out _ Bc.out) (fun h0 => ?_)
    rw [← hwc] at h0 ⊢
    clear hwc
    refine wpAnyH_take (i := 0) (v := ?v30) rfl (by kernel_rfl) (by kernel_rfl) (by kernel_rfl) (fun _ _ _ h => h) (Or.inl ⟨by rfl, ?hy30⟩) h0 ?rest30
    case hy30 => (intro w' hS; (try dsimp only at hS); go_simp; try (with_reducible rfl))
    simp only [Act.put, List.getElem_toArray, List.getElem_cons_zero, List.setIfInBounds_toArray, List.set_cons_zero, List.set_cons_succ]
    refine wpAnyH_take (i := 1) (v := ?v31) rfl (by kernel_rfl) (by kernel_rfl) (by kernel_rfl) (fun _ _ _ h => h) (Or.inl ⟨by rfl, ?hy31⟩) h0 ?rest31
    case hy31 => (intro w' hS; (try dsimp only at hS); go_simp; try (with_reducible rfl))
    simp only [Act.put, List.getElem_toArray, List.getElem_cons_zero, List.getElem_cons_succ, List.setIfInBounds_toArray, List.set_cons_zero, List.set_cons_succ]
    refine wpAnyH_take (i := 2) (v := ?v32) rfl (by kernel_rfl) (by kernel_rfl) (by kernel_rfl) (fun _ _ _ h => h) (Or.inl ⟨by rfl, ?hy32⟩) h0 ?rest32
    case hy32 => (intro w' hS; (try dsimp only at hS); go_simp; try (with_reducible rfl))
    simp only [Act.put, List.getElem_toArray, List.getElem_cons_zero, List.getElem_cons_succ, List.setIfInBounds_toArray, List.set_cons_zero, List.set_cons_succ]
    refine wpAnyH_take (i := 3) (v := ?v33) rfl (by kernel_rfl) (by kernel_rfl) (by kernel_rfl) (fun _ _ _ h => h) (Or.inl ⟨by rfl, ?hy33⟩) h0 ?rest33
    case hy33 => (intro w' hS; (try dsimp only at hS); go_simp; try (with_reducible rfl))
    simp only [Act.put, List.getElem_toArray, List.getElem_cons_zero, List.getElem_cons_succ, List.setIfInBounds_toArray, List.set_cons_zero, List.set_cons_succ]
    refine wpAnyH_take (i := 4) (v := ?v34) rfl (by kernel_rfl) (by kernel_rfl) (by kernel_rfl) (fun _ _ _ h => h) (Or.inl ⟨by rfl, ?hy34⟩) h0 ?rest34
    case hy34 => (intro w' hS; (try dsimp only at hS); go_simp; try (with_reducible rfl))
    simp only [Act.put, List.getElem_toArray, List.getElem_cons_zero, List.getElem_cons_succ, List.setIfInBounds_toArray, List.set_cons_zero, List.set_cons_succ]
    refine wpAnyH_take (i := 5) (v := ?v35) rfl (by kernel_rfl) (by kernel_rfl) (by kernel_rfl) (fun _ _ _ h => h) (Or.inl ⟨by rfl, ?hy35⟩) h0 ?rest35
    case hy35 => (intro w' hS; (try dsimp only at hS); go_simp; try (with_reducible rfl))
    simp only [Act.put, List.getElem_toArray, List.getElem_cons_zero, List.getElem_cons_succ, List.setIfInBounds_toArray, List.set_cons_zero, List.set_cons_succ]
    refine wpAnyH_take (i := 6) (v := ?v36) rfl (by kernel_rfl) (by kernel_rfl) (by kernel_rfl) (fun _ _ _ h => h) (Or.inl ⟨by rfl, ?hy36⟩) h0 ?rest36
    case hy36 => (intro w' hS; (try dsimp only at hS); go_simp; try (with_reducible rfl))
    simp only [Act.put, List.getElem_toArray, List.getElem_cons_zero, List.getElem_cons_succ, List.setIfInBounds_toArray, List.set_cons_zero, List.set_cons_succ]
    refine wpAnyH_ready (rs := [7]) (by kernel_rfl) (by simp) (AllReadyH.cons rfl (fun K hK => ?_) AllReadyH.nil)
    rw [if_pos (by rfl)]
    go_simp
    refine (CM.out wc).mono ?_
    rintro e wc ⟨rfl, hb⟩
    have Bc := Lib.hid (below_on Bc.out hb)
    clear hb
    go_simp
    refine hK.out _ _ (KS.out _ Bc.out) (fun h0_1 => ?_)
    clear hK K h0
    refine wpAnyH_take (i := 8) (v := ?v37) rfl (by kernel_rfl) (by kernel_rfl) (by kernel_rfl) (fun _ _ _ h => h) (Or.inl ⟨by rfl, ?hy37⟩) h0_1 ?rest37
    case hy37 => (intro w' hS; (try dsimp only at hS); go_simp; try (with_reducible rfl))
    simp only [Act.put, List.getElem_toArray, List.getElem_cons_zero, List.getElem_cons_succ, List.setIfInBounds_toArray, List.set_cons_zero, List.set_cons_succ]
    refine wpAnyH_take (i := 9) (v := ?v38) rfl (by kernel_rfl) (by kernel_rfl) (by kernel_rfl) (fun _ _ _ h => h) (Or.inl ⟨by rfl, ?hy38⟩) h0_1 ?rest38
    case hy38 => (intro w' hS; (try dsimp only at hS); go_simp; try (with_reducible rfl))
    simp only [Act.put, List.getElem_toArray, List.getElem_cons_zero, List.getElem_cons_succ, List.setIfInBounds_toArray, List.set_cons_zero, List.set_cons_succ]
    refine wpAnyH_ready (rs := [10]) (by kernel_rfl) (by simp) (AllReadyH.cons rfl (fun K hK => ?_) AllReadyH.nil)
    rw [if_pos (by rfl)]
    go_simp
    refine (mustI_any k' (cmE f cv) wc).mono ?_
    rintro e wc ⟨hb, (⟨he, rfl⟩ | ⟨he, rfl⟩)⟩
    rotate_left
    · exact And.intro rfl (Or.inr ⟨by rw [UH.out]; exact he, by rw [UH.out], below_on BW.out (below_on Bc.out hb)⟩)
    have Bc := Lib.hid (below_on Bc.out hb)
    have M4 := Lib.hid he
    clear hb he
    go_simp
    refine hK.out _ _ (KS.out _ Bc.out) (fun h0_2 => ?_)
    clear hK K h0_1
    refine wpAnyH_take (i := 11) (v := ?v39) rfl (by kernel_rfl) (by kernel_rfl) (by kernel_rfl) (fun _ _ _ h => h) (Or.inl ⟨by rfl, ?hy39⟩) h0_2 ?rest39
    case hy39 => (intro w' hS; (try dsimp only at hS); go_simp; try (with_reducible rfl))
    simp only [Act.put, List.getElem_toArray, List.getElem_cons_zero, List.getElem_cons_succ, List.setIfInBounds_toArray, List.set_cons_zero, List.set_cons_succ]
    refine wpAnyH_take (i := 12) (v := ?v40) rfl (by kernel_rfl) (by kernel_rfl) (by kernel_rfl) (fun _ _ _ h => h) (Or.inl ⟨by rfl, ?hy40⟩) h0_2 ?rest40
    case hy40 => (intro w' hS; (try dsimp only at hS); go_simp; try (with_reducible rfl))
    simp only [Act.put, List.getElem_toArray, List.getElem_cons_zero, List.getElem_cons_succ, List.setIfInBounds_toArray]
    try simp only [List.set_cons_succ]
    try simp only [List.set_cons_zero]
    refine wpAnyH_done (by kernel_rfl) ?_ _
    try rw [HWO.out]
    have G9 := Lib.hid (HG2.out.kept Bc.out)
    have P9 := Lib.hid (HP7.out.kept Bc.out)
    have B9 := Lib.hid (below_on BW.out Bc.out)
    have x2 := kept Bc.out C2w.out
    obtain ⟨g0, g1, g2, g3⟩ := P9.out.facts
    by_cases o1 : 0 < o
    · go_wp2_with (first | refine wpList_load_row rfl _ _ rfl q7 rfl _ (En.mk f true x.s).cs (0, 0) _ P9.out Tryz.underlying105 rfl zero_en ?_ | refine wpList_store_row rfl _ _ _ rfl g (En.mk f true x.s).cs rfl rfl _ _ G9.out zero_en rfl (En.one _) ?_)
      refine bodyPost_end (v := .tuple #[]) (by simp [results, Tryz.results143, go_sem]) rfl ?_
      have := fin.out _ _ G9.out B9.out
      exact Or.inl ⟨by rw [UH.out]; exact M4.out, rfl, by rw [UI.out, if_pos (Or.inl o1)]; exact this.1, this.2⟩
    · by_cases o2 : o = 0
      · subst o2
        obtain ⟨xs, hxs⟩ : ∃ xs, xs = x.s := ⟨_, rfl⟩
        cases xs
        · rw [← hxs] at g3
          have HX := Lib.hid hxs
          clear hxs
          go_wp2_with fail
          refine bodyPost_end (v := .tuple #[]) (by simp [results, Tryz.results143, go_sem]) rfl ?_
          exact Or.inl ⟨by rw [UH.out]; exact M4.out, rfl, by rw [UI.out, if_neg (by rw [← HX.out]; simp)]; exact G9.out, GB.below B9.out⟩
        · rw [← hxs] at g3
          have HX := Lib.hid hxs
          clear hxs
          go_wp2_with (first | refine wpList_load_row rfl _ _ rfl q7 rfl _ (En.mk f true x.s).cs (0, 0) _ P9.out Tryz.underlying105 rfl zero_en ?_ | refine wpList_store_row rfl _ _ _ rfl g (En.mk f true x.s).cs rfl rfl _ _ G9.out zero_en rfl (En.one _) ?_)
          refine bodyPost_end (v := .tuple #[]) (by simp [results, Tryz.results143, go_sem]) rfl ?_
          have := fin.out _ _ G9.out B9.out
          exact Or.inl ⟨by rw [UH.out]; exact M4.out, rfl, by rw [UI.out, if_pos (Or.inr ⟨by trivial, HX.out.symm⟩)]; exact this.1, this.2⟩
      · have e0 : (o == 0) = false := by simpa using o2
        have O2 := Lib.hid o2
        clear o2
        go_wp2_with fail
        refine bodyPost_end (v := .tuple #[]) (by simp [results, Tryz.results143, go_sem]) rfl ?_
        exact Or.inl ⟨by rw [UH.out]; exact M4.out, rfl, by rw [UI.out, if_neg (by have := O2.out; omega)]; exact G9.out, GB.below B9.out⟩
end Go.Proofs.YtefpaobboimakaaGreat

namespace Go.Proofs.YtefpaobboimakaaGreat
open Go.RowKit Go.Sort Go.Shelf

/-- The ends that the first t lines leave, and the error. -/
def enN (l : List Ln) (i : Nat) (ps : List Pq) : Nat → (En × En) × Int
  | 0 => ((en0, en0), 0)
  | t + 1 => if (enN l i ps t).2 ≠ 0 then enN l i ps t else
    if gA (l.getD t ln0).a i < 0 then ((clR 1 (enN l i ps t).1.1 (l.getD t ln0) i ps, (enN l i ps t).1.2), clE (enN l i ps t).1.1 (l.getD t ln0) i ps) else
    if 0 < gA (l.getD t ln0).a i then (((enN l i ps t).1.1, clR (-1) (enN l i ps t).1.2 (l.getD t ln0) i ps), clE (enN l i ps t).1.2 (l.getD t ln0) i ps) else enN l i ps t

theorem enN_stop {l : List Ln} {i : Nat} {ps : List Pq} {t : Nat} (h : (enN l i ps t).2 ≠ 0) : ∀ j, enN l i ps (t + j) = enN l i ps t
  | 0 => rfl
  | j + 1 => by
    have e : ∀ k, (enN l i ps k).2 ≠ 0 → enN l i ps (k + 1) = enN l i ps k := fun k hk => by
      unfold enN
      rw [if_pos hk]
      cases k <;> rfl
    have ih := enN_stop h j
    exact (e (t + j) (by rw [ih]; exact h)).trans ih

theorem enN_end {l : List Ln} {i : Nat} {ps : List Pq} {t n : Nat} (ht : t ≤ n) (h : (enN l i ps t).2 ≠ 0) : enN l i ps n = enN l i ps t := by
  have := enN_stop h (n - t)
  rwa [show t + (n - t) = n by omega] at this

theorem enN_low {l : List Ln} {i : Nat} {ps : List Pq} {t : Nat} {x : Ln} (h : (enN l i ps t).2 = 0) (hx : l.getD t ln0 = x) (k : gA x.a i < 0) : enN l i ps (t + 1) = ((clR 1 (enN l i ps t).1.1 x i ps, (enN l i ps t).1.2), clE (enN l i ps t).1.1 x i ps) := by
  subst hx
  conv => lhs; unfold enN
  rw [if_neg (fun q => q h), if_pos k]

theorem enN_high {l : List Ln} {i : Nat} {ps : List Pq} {t : Nat} {x : Ln} (h : (enN l i ps t).2 = 0) (hx : l.getD t ln0 = x) (k : 0 < gA x.a i) : enN l i ps (t + 1) = (((enN l i ps t).1.1, clR (-1) (enN l i ps t).1.2 x i ps), clE (enN l i ps t).1.2 x i ps) := by
  subst hx
  conv => lhs; unfold enN
  rw [if_neg (fun q => q h), if_neg (by omega), if_pos k]

theorem enN_none {l : List Ln} {i : Nat} {ps : List Pq} {t : Nat} {x : Ln} (h : (enN l i ps t).2 = 0) (hx : l.getD t ln0 = x) (k : gA x.a i = 0) : enN l i ps (t + 1) = enN l i ps t := by
  subst hx
  conv => lhs; unfold enN
  rw [if_neg (fun q => q h), if_neg (by omega), if_neg (by omega)]

theorem fdV_64 (x : Ln) (i : Nat) (ps : List Pq) : I2 (fdV x i ps) := dvR_64 _ _

theorem clR_64 {s : Int} {c : En} (h : I2 c.v) (x : Ln) (i : Nat) (ps : List Pq) : I2 (clR s c x i ps).v := by
  unfold clR
  split
  · split
    · exact fdV_64 _ _ _
    · exact h
  · exact fdV_64 _ _ _

theorem enN_64 (l : List Ln) (i : Nat) (ps : List Pq) (t : Nat) : I2 (enN l i ps t).1.1.v ∧ I2 (enN l i ps t).1.2.v := by
  induction t with
  | zero => unfold enN en0 I2 I64; simp
  | succ t ih =>
    unfold enN
    split
    · cases t <;> exact ih
    · split
      · exact ⟨clR_64 ih.1 _ _ _, ih.2⟩
      · split
        · exact ⟨ih.1, clR_64 ih.2 _ _ _⟩
        · cases t <;> exact ih

/-- What ends has in memory: the coordinate, the point, both ends, and what the closures have captured. -/
structure EnS (w W : World) (B : Nat) (ao : Option Addr) (n cap i : Nat) (lo up : En) : Prop where
  be : Below w.heap.size w W
  bi : W.cell? ⟨B, 0, none⟩ = some (.int .i64 i)
  bb : W.cell? ⟨B + 1, 0, none⟩ = some (.slice ao n cap)
  l : EnB W (B + 2) lo
  u : EnB W (B + 3) up
  c1 : W.cell? ⟨B + 4, 0, none⟩ = some (.pointer (some ⟨B + 2, 0, none⟩))
  s1 : W.cell? ⟨B + 5, 0, none⟩ = some (.int .i64 1)
  c2 : W.cell? ⟨B + 6, 0, none⟩ = some (.pointer (some ⟨B + 3, 0, none⟩))
  s2 : W.cell? ⟨B + 7, 0, none⟩ = some (.int .i64 (-1))

theorem EnS.on {w W V : World} {B : Nat} {ao : Option Addr} {n cap i : Nat} {lo up : En} (h : EnS w W B ao n cap i lo up) (k : Below W.heap.size W V) : EnS w V B ao n cap i lo up :=
  ⟨below_on h.be k, kept k h.bi, kept k h.bb, h.l.kept k, h.u.kept k, kept k h.c1, kept k h.s1, kept k h.c2, kept k h.s2⟩

theorem EnS.low {w W V : World} {B : Nat} {ao : Option Addr} {n cap i : Nat} {lo up lo' : En} (h : EnS w W B ao n cap i lo up) (hB : w.heap.size ≤ B) (k : GB (B + 2) W V) (hl : EnB V (B + 2) lo') : EnS w V B ao n cap i lo' up :=
  ⟨(h.be).trans (k.to_below (by omega) h.be.size), k.cell (by show B ≠ _; omega) h.bi, k.cell (by show B + 1 ≠ _; omega) h.bb, hl, (k.block _ h.u.lt (by simp)).trans h.u, k.cell (by show B + 4 ≠ _; omega) h.c1, k.cell (by show B + 5 ≠ _; omega) h.s1, k.cell (by show B + 6 ≠ _; omega) h.c2, k.cell (by show B + 7 ≠ _; omega) h.s2⟩

theorem EnS.high {w W V : World} {B : Nat} {ao : Option Addr} {n cap i : Nat} {lo up up' : En} (h : EnS w W B ao n cap i lo up) (hB : w.heap.size ≤ B) (k : GB (B + 3) W V) (hl : EnB V (B + 3) up') : EnS w V B ao n cap i lo up' :=
  ⟨(h.be).trans (k.to_below (by omega) h.be.size), k.cell (by show B ≠ _; omega) h.bi, k.cell (by show B + 1 ≠ _; omega) h.bb, (k.block _ h.l.lt (by simp)).trans h.l, hl, k.cell (by show B + 4 ≠ _; omega) h.c1, k.cell (by show B + 5 ≠ _; omega) h.s1, k.cell (by show B + 6 ≠ _; omega) h.c2, k.cell (by show B + 7 ≠ _; omega) h.s2⟩

theorem en_load {w : World} {b : Nat} {x : En} (h : EnB w b x) : (loadVar 105 ⟨b, 0, none⟩).run Tryz.prog w = .ok (.agg x.cs) w :=
  run_loadVar_row w b _ _ x.cs (0, 0) _ h Tryz.underlying105 rfl zero_en

theorem results_en2 {fn : Func} {p q : Tmp} (h : fn.results = #[.cell p 105, .cell q 105]) (tmps : Array Value) {w : World} {b c : Nat} {x y : En}
    (hp : tmps.getD p undef = .pointer (some ⟨b, 0, none⟩)) (hq : tmps.getD q undef = .pointer (some ⟨c, 0, none⟩)) (hx : EnB w b x) (hy : EnB w c y) : (results fn tmps).run Tryz.prog w = .ok (.tuple #[.agg x.cs, .agg y.cs]) w := by
  have hp' : tmps[p]?.getD undef = .pointer (some ⟨b, 0, none⟩) := by simpa using hp
  have hq' : tmps[q]?.getD undef = .pointer (some ⟨c, 0, none⟩) := by simpa using hq
  have h1 := en_load hx
  have h2 := en_load hy
  generalize x.cs = X at *
  generalize y.cs = Y at *
  simp [results, h, hp', hq', asAddr, h1, h2]

def ensW (w : World) (ao : Option Addr) (n cap i : Nat) : World :=
  (((((((w.alloc (.cells #[.int .i64 i] 3)).alloc (.cells #[.slice ao n cap] 26)).alloc (.cells #[.int .i64 0, .int .i64 0, .bool false, .bool false] 105)).alloc (.cells #[.int .i64 0, .int .i64 0, .bool false, .bool false] 105)).alloc (.cells #[.pointer (some ⟨w.heap.size + 2, 0, none⟩)] 149)).alloc (.cells #[.int .i64 1] 3)).alloc (.cells #[.pointer (some ⟨w.heap.size + 3, 0, none⟩)] 149)).alloc (.cells #[.int .i64 (-1)] 3)

theorem ens_start (w : World) (ao : Option Addr) (n cap i : Nat) : EnS w (ensW w ao n cap i) w.heap.size ao n cap i en0 en0 := by
  unfold ensW
  refine ⟨?_, by go_simp, by go_simp, ?_, ?_, by go_simp, by go_simp, by go_simp, by go_simp⟩
  · exact past_three (past_three (past_two (Below.refl _ _)))
  · have := ((((((EnB.made ((w.alloc (.cells #[.int .i64 i] 3)).alloc (.cells #[.slice ao n cap] 26)) en0).kept (one_more (.cells #[.int .i64 0, .int .i64 0, .bool false, .bool false] 105))).kept (one_more (.cells #[.pointer (some ⟨w.heap.size + 2, 0, none⟩)] 149))).kept (one_more (.cells #[.int .i64 1] 3))).kept (one_more (.cells #[.pointer (some ⟨w.heap.size + 3, 0, none⟩)] 149))).kept (one_more (.cells #[.int .i64 (-1)] 3)))
    simpa [en0, En.cs, En.cells] using this
  · have := (((((EnB.made (((w.alloc (.cells #[.int .i64 i] 3)).alloc (.cells #[.slice ao n cap] 26)).alloc (.cells #[.int .i64 0, .int .i64 0, .bool false, .bool false] 105)) en0).kept (one_more (.cells #[.pointer (some ⟨w.heap.size + 2, 0, none⟩)] 149))).kept (one_more (.cells #[.int .i64 1] 3))).kept (one_more (.cells #[.pointer (some ⟨w.heap.size + 3, 0, none⟩)] 149))).kept (one_more (.cells #[.int .i64 (-1)] 3)))
    simpa [en0, En.cs, En.cells] using this

/-- What ends leaves. -/
def EnRes (w : World) (lo up : En) (er : Int) (e : Ending) (w' : World) : Prop := Below w.heap.size w w' ∧ ((er = 0 ∧ e = .returned (.tuple #[.agg lo.cs, .agg up.cs])) ∨ (er ≠ 0 ∧ e = .panicked (pan er)))

set_option maxRecDepth 100000 in
set_option maxHeartbeats 4000000 in
theorem ends_any (l : List Ln) (i : Nat) (ps : List Pq) (bo ao : Option Addr) (bc cap : Nat) (w : World) (hl : l.length ≤ 100000) (hL : RdL w bo l) (hg : ∀ x ∈ l, Rg 2147483647 x) (hi : i < 6) (hn : ps.length ≤ 6) (hR : Rd2 w ao ps) (hI : ∀ t, t < ps.length → I2 (gp ps t)) :
    Calls Tryz.prog 106 #[.slice bo l.length bc, .int .i64 i, .slice ao ps.length cap] w (EnRes w (enN l i ps l.length).1.1 (enN l i ps l.length).1.2 (enN l i ps l.length).2) := by
  have hmf : ∀ (fn : Fn) (first cap : Array Value) (w : World), (Instr.makeFunc fn first cap).run Tryz.prog w = .ok (.func fn first cap) w := fun _ _ _ _ => rfl
  have E1 := Lib.hid (fun side c x (hs : side = 1 ∨ side = -1) (hc : I2 c.v) (hx : Rg 2147483647 x) pb pi pc pd g W (hb : Below w.heap.size w W) c0 c1 c2 c3 hg => ends2_any side c x i ps ao cap pb pi pc pd g W hs hc hx hi hn (hR.on hb) hI c0 c1 c2 c3 hg)
  have LR := Lib.hid (fun W (hb : Below w.heap.size w W) => hL.on hb)
  have GG := Lib.hid hg
  obtain ⟨n, hN⟩ : ∃ n, n = ps.length := ⟨_, rfl⟩
  obtain ⟨m, hM⟩ : ∃ m, m = l.length := ⟨_, rfl⟩
  have HM := Lib.hid hM
  have N64 := Lib.hid (enN_64 l i ps)
  have i6 : (i : Int) < 6 := by omega
  have I6 := Lib.hid hi
  rw [← hN] at E1 ⊢
  rw [← hM]
  have hm : m ≤ 100000 := by omega
  clear hL hg hn hR hI hN hM hl
  go_enter Tryz.func106, Tryz.ntmps106
  go_wp2_with (rw [hmf])
  refine (ends1_any _ 1 _ _ _).mono ?_
  rintro e w1 ⟨rfl, rfl⟩
  go_wp2_with fail
  refine (ends1_any _ (-1) _ _ _).mono ?_
  rintro e w1 ⟨rfl, rfl⟩
  go_wp2_with fail
  simp only [Nat.add_assoc, Nat.reduceAdd]
  have S0 := Lib.hid (ens_start w ao n cap i)
  rw [show (((((((w.alloc (.cells #[.int .i64 i] 3)).alloc (.cells #[.slice ao n cap] 26)).alloc (.cells #[.int .i64 0, .int .i64 0, .bool false, .bool false] 105)).alloc (.cells #[.int .i64 0, .int .i64 0, .bool false, .bool false] 105)).alloc (.cells #[.pointer (some ⟨w.heap.size + 2, 0, none⟩)] 149)).alloc (.cells #[.int .i64 1] 3)).alloc (.cells #[.pointer (some ⟨w.heap.size + 3, 0, none⟩)] 149)).alloc (.cells #[.int .i64 (-1)] 3) = ensW w ao n cap i from rfl]
  generalize ensW w ao n cap i = w0 at *
  obtain ⟨B, hB⟩ : ∃ B, B = w.heap.size := ⟨_, rfl⟩
  have HB := Lib.hid (show w.heap.size ≤ B by omega)
  rw [← hB] at S0 ⊢
  clear hB hmf
  go_loopw [20] (fun s wr => ∃ t : Nat, s = .int .i64 t ∧ t ≤ m ∧ Hid ((enN l i ps t).2 = 0) ∧ Hid (EnS w wr B ao n cap i (enN l i ps t).1.1 (enN l i ps t).1.2)) (fun s _ => m - (intOf s).toNat)
  case atStart => exact ⟨0, rfl, by omega, Lib.hid rfl, S0⟩
  case round =>
    obtain ⟨t, rfl, ht, HE, HS⟩ := hrel
    by_cases htm : t < m
    · have hlt : t < l.length := by have := HM.out; omega
      obtain ⟨p, hp, c0⟩ := (LR.out _ HS.out.be) t hlt
      obtain ⟨x, hx⟩ : ∃ x, x = l[t] := ⟨_, rfl⟩
      have GX := Lib.hid (show Rg 2147483647 x by rw [hx]; exact GG.out _ (List.getElem_mem _))
      have XD := Lib.hid (show l.getD t ln0 = x by rw [getD_at hlt]; exact hx.symm)
      rw [← hx] at c0
      have LA := Lib.hid c0
      have N6 := Lib.hid (N64.out t)
      obtain ⟨u, hu⟩ : ∃ u, u = gA x.a i := ⟨_, rfl⟩
      have HU := Lib.hid hu
      have hz := ln_zero
      subst hp
      have N1 := Lib.hid (show Bk (wr.alloc (.cells ln0.cs 82)) wr.heap.size ln0 from Bk.made wr ln0 rfl)
      have N2 := Lib.hid (N1.out.setRow GX.out.len)
      have B2 := Lib.hid (Below.setRow ((Below.refl wr.heap.size wr).alloc (Nat.le_refl _) (.cells ln0.cs 82)) (b := wr.heap.size) (Nat.le_refl _) x.cs)
      have GU := Lib.hid (show ∀ W q, Bk W q x → W.cell? ⟨q, i, none⟩ = some (.int .i64 u) from fun W q h => by rw [hu]; exact h.at I6.out)
      clear c0 hx hlt hu
      go_upto_region 6 with (first | refine wpl_loadP rfl _ rfl _ rfl x LA.out ?_ | refine wpl_store rfl _ _ rfl _ _ rfl rfl _ N1.out GX.out.len ?_)
      generalize (wr.alloc (.cells ln0.cs 82)).setRow wr.heap.size x.cs = w1 at *
      have S1 := Lib.hid (HS.out.on B2.out)
      obtain ⟨q, hq⟩ : ∃ q, q = wr.heap.size := ⟨_, rfl⟩
      rw [← hq] at N2 ⊢
      clear N1 B2 hq LA HS hz wr
      obtain ⟨lo, hlo⟩ : ∃ lo, lo = (enN l i ps t).1.1 := ⟨_, rfl⟩
      obtain ⟨up, hup⟩ : ∃ up, up = (enN l i ps t).1.2 := ⟨_, rfl⟩
      have HLO := Lib.hid hlo
      have HUP := Lib.hid hup
      rw [← hlo, ← hup] at S1 N6
      clear hlo hup
      have c0 := GU.out w1 q N2.out
      have c1 := S1.out.bi
      have NX := Lib.hid N2.out.lnAt
      by_cases hneg : u < 0
      · have NE := Lib.hid (show enN l i ps (t + 1) = ((clR 1 lo x i ps, up), clE lo x i ps) by rw [HLO.out, HUP.out]; exact enN_low HE.out XD.out (by rw [← HU.out]; exact hneg))
        go_wp2_with (refine wpl_loadP rfl _ rfl _ rfl x NX.out ?_)
        refine (E1.out 1 lo x (Or.inl rfl) N6.out.1 GX.out (B + 1) B (B + 4) (B + 5) (B + 2) w1 S1.out.be S1.out.bb S1.out.bi S1.out.c1 S1.out.s1 S1.out.l).mono ?_
        rintro e w2 (⟨he, rfl, hl, hg⟩ | ⟨he, rfl, hb⟩)
        · have S2 := Lib.hid (S1.out.low HB.out hg hl)
          have HZ := Lib.hid he
          clear hl hg he
          go_wp2_with fail
          go_roundw
          case rel => exact ⟨t + 1, by go_num, by omega, Lib.hid (by rw [NE.out]; exact HZ.out), Lib.hid (by rw [NE.out]; exact S2.out)⟩
          case measure => simp [intOf]; omega
        · have NF := Lib.hid (show (enN l i ps m).2 = clE lo x i ps by rw [enN_end (t := t + 1) (by omega) (by rw [NE.out]; exact he), NE.out])
          go_wp2_with fail
          exact And.intro rfl ⟨below_on S1.out.be hb, Or.inr ⟨by rw [NF.out]; exact he, by rw [NF.out]⟩⟩
      · by_cases hpos : 0 < u
        · have NE := Lib.hid (show enN l i ps (t + 1) = ((lo, clR (-1) up x i ps), clE up x i ps) by rw [HLO.out, HUP.out]; exact enN_high HE.out XD.out (by rw [← HU.out]; exact hpos))
          go_wp2_with (refine wpl_loadP rfl _ rfl _ rfl x NX.out ?_)
          refine (E1.out (-1) up x (Or.inr rfl) N6.out.2 GX.out (B + 1) B (B + 6) (B + 7) (B + 3) w1 S1.out.be S1.out.bb S1.out.bi S1.out.c2 S1.out.s2 S1.out.u).mono ?_
          rintro e w2 (⟨he, rfl, hl, hg⟩ | ⟨he, rfl, hb⟩)
          · have S2 := Lib.hid (S1.out.high HB.out hg hl)
            have HZ := Lib.hid he
            clear hl hg he
            go_wp2_with fail
            go_roundw
            case rel => exact ⟨t + 1, by go_num, by omega, Lib.hid (by rw [NE.out]; exact HZ.out), Lib.hid (by rw [NE.out]; exact S2.out)⟩
            case measure => simp [intOf]; omega
          · have NF := Lib.hid (show (enN l i ps m).2 = clE up x i ps by rw [enN_end (t := t + 1) (by omega) (by rw [NE.out]; exact he), NE.out])
            go_wp2_with fail
            exact And.intro rfl ⟨below_on S1.out.be hb, Or.inr ⟨by rw [NF.out]; exact he, by rw [NF.out]⟩⟩
        · have NE := Lib.hid (show enN l i ps (t + 1) = enN l i ps t from enN_none HE.out XD.out (by rw [← HU.out]; omega))
          go_wp2_with fail
          go_roundw
          case rel => exact ⟨t + 1, by go_num, by omega, Lib.hid (by rw [NE.out]; exact HE.out), Lib.hid (by rw [NE.out, ← HLO.out, ← HUP.out]; exact S1.out)⟩
          case measure => simp [intOf]; omega
    · obtain rfl : t = m := by omega
      obtain ⟨lo, hlo⟩ : ∃ lo, lo = (enN l i ps t).1.1 := ⟨_, rfl⟩
      obtain ⟨up, hup⟩ : ∃ up, up = (enN l i ps t).1.2 := ⟨_, rfl⟩
      rw [← hlo, ← hup] at HS
      have HLO := Lib.hid hlo
      have HUP := Lib.hid hup
      have L1 := Lib.hid HS.out.l
      have U1 := Lib.hid HS.out.u
      have L2 := Lib.hid (L1.out.setRow (y := lo))
      have U2 := Lib.hid (show EnB (wr.setRow (B + 2) lo.cs) (B + 3) up from (setRow_other wr (B + 2) (B + 3) lo.cs (by omega)).trans U1.out)
      have L3 := Lib.hid (show EnB ((wr.setRow (B + 2) lo.cs).setRow (B + 3) up.cs) (B + 2) lo from (setRow_other _ (B + 3) (B + 2) up.cs (by omega)).trans L2.out)
      have U3 := Lib.hid (U2.out.setRow (y := up))
      have B3 := Lib.hid (Below.setRow (Below.setRow HS.out.be (b := B + 2) (by have := HB.out; omega) lo.cs) (b := B + 3) (by have := HB.out; omega) up.cs)
      clear hlo hup
      go_wp2_with (first | refine wpList_load_row rfl _ _ rfl (B + 2) rfl _ lo.cs (0, 0) _ L1.out Tryz.underlying105 rfl zero_en ?_ | refine wpList_load_row rfl _ _ rfl (B + 3) rfl _ up.cs (0, 0) _ U1.out Tryz.underlying105 rfl zero_en ?_ | refine wpList_store_row rfl _ _ _ rfl (B + 2) lo.cs rfl rfl _ _ L1.out zero_en rfl (En.one _) ?_ | refine wpList_store_row rfl _ _ _ rfl (B + 3) up.cs rfl rfl _ _ U2.out zero_en rfl (En.one _) ?_)
      exact bodyPost_ret (results_en2 Tryz.results106 _ rfl rfl L3.out U3.out) rfl ⟨B3.out, Or.inl ⟨HE.out, by rw [HLO.out, HUP.out]⟩⟩
end Go.Proofs.YtefpaobboimakaaGreat

namespace Go.Proofs.YtefpaobboimakaaGreat
open Go.RowKit Go.Sort Go.Shelf

def btV (lo up : En) : Pq := if lo.ex && !lo.op then lo.v else if lo.ex && up.ex then mdR lo.v up.v else if lo.ex then adR lo.v (1, 1) else if up.ex && !up.op then up.v else if up.ex then sbR up.v (1, 1) else (0, 1)

def btE (lo up : En) : Int := if lo.ex && !lo.op then 0 else if lo.ex && up.ex then mdE lo.v up.v else if lo.ex then adE lo.v (1, 1) else if up.ex && !up.op then 0 else if up.ex then sbE up.v (1, 1) else 0

theorem one_64 : I2 (1, 1) := by unfold I2 I64; simp

set_option maxRecDepth 100000 in
set_option maxHeartbeats 4000000 in
theorem bt1 (lv uv : Pq) (uex uop : Bool) (w : World) (hl : I2 lv) (hu : I2 uv) :
    Calls Tryz.prog 105 #[.agg (En.mk lv true false).cs, .agg (En.mk uv uex uop).cs] w (QRes w (btV ⟨lv, true, false⟩ ⟨uv, uex, uop⟩) (btE ⟨lv, true, false⟩ ⟨uv, uex, uop⟩)) := by
  obtain ⟨w0, hw0⟩ : ∃ w0, w0 = ((w.alloc (.cells (En.mk lv true false).cs 105)).alloc (.cells (En.mk uv uex uop).cs 105)).alloc (.cells #[.int .i64 0, .int .i64 0] 50) := ⟨_, rfl⟩
  have X0 := Lib.hid (show EnB w0 w.heap.size (En.mk lv true false) by rw [hw0]; exact ((EnB.made w _).kept (one_more _)).kept (one_more _))
  have X1 := Lib.hid (show EnB w0 (w.heap.size + 1) (En.mk uv uex uop) by rw [hw0]; have := (EnB.made (w.alloc (.cells (En.mk lv true false).cs 105)) (En.mk uv uex uop)).kept (one_more (.cells #[.int .i64 0, .int .i64 0] 50)); simpa using this)
  have P0 := Lib.hid (show Pair w0 (w.heap.size + 2) 0 0 by rw [hw0]; have := Pair.made ((w.alloc (.cells (En.mk lv true false).cs 105)).alloc (.cells (En.mk uv uex uop).cs 105)) 0 0 50; simpa using this)
  have E0 := Lib.hid (show Below w.heap.size w w0 by rw [hw0]; exact past_three (Below.refl _ _))
  obtain ⟨a0, a1, a2, a3⟩ := X0.out.facts
  obtain ⟨b0, b1, b2, b3⟩ := X1.out.facts
  obtain ⟨f0, f1, f2, f3⟩ := P0.out.facts
  have HV := Lib.hid (show btV (En.mk lv true false) (En.mk uv uex uop) = lv ∧ btE (En.mk lv true false) (En.mk uv uex uop) = 0 by simp [btV, btE])
  generalize btV (En.mk lv true false) (En.mk uv uex uop) = V at *
  generalize btE (En.mk lv true false) (En.mk uv uex uop) = ER at *
  go_enter Tryz.func105, Tryz.ntmps105
  go_upto_region 1 with (fail)
  rw [← hw0]
  clear hw0
  go_wp2_with fail
  refine bodyPost_ret (v := .agg #[.int .i64 lv.1, .int .i64 lv.2]) (by simp [results, Tryz.results105, go_sem, f0, f1, f2, f3]) rfl ⟨below_put E0.out (by omega) _ _, Or.inl ⟨HV.out.2, by rw [HV.out.1]⟩⟩

set_option maxRecDepth 100000 in
set_option maxHeartbeats 4000000 in
theorem bt4 (lv uv : Pq) (lop : Bool) (w : World) (hl : I2 lv) (hu : I2 uv) :
    Calls Tryz.prog 105 #[.agg (En.mk lv false lop).cs, .agg (En.mk uv true false).cs] w (QRes w (btV ⟨lv, false, lop⟩ ⟨uv, true, false⟩) (btE ⟨lv, false, lop⟩ ⟨uv, true, false⟩)) := by
  obtain ⟨w0, hw0⟩ : ∃ w0, w0 = ((w.alloc (.cells (En.mk lv false lop).cs 105)).alloc (.cells (En.mk uv true false).cs 105)).alloc (.cells #[.int .i64 0, .int .i64 0] 50) := ⟨_, rfl⟩
  have X0 := Lib.hid (show EnB w0 w.heap.size (En.mk lv false lop) by rw [hw0]; exact ((EnB.made w _).kept (one_more _)).kept (one_more _))
  have X1 := Lib.hid (show EnB w0 (w.heap.size + 1) (En.mk uv true false) by rw [hw0]; have := (EnB.made (w.alloc (.cells (En.mk lv false lop).cs 105)) (En.mk uv true false)).kept (one_more (.cells #[.int .i64 0, .int .i64 0] 50)); simpa using this)
  have P0 := Lib.hid (show Pair w0 (w.heap.size + 2) 0 0 by rw [hw0]; have := Pair.made ((w.alloc (.cells (En.mk lv false lop).cs 105)).alloc (.cells (En.mk uv true false).cs 105)) 0 0 50; simpa using this)
  have E0 := Lib.hid (show Below w.heap.size w w0 by rw [hw0]; exact past_three (Below.refl _ _))
  obtain ⟨a0, a1, a2, a3⟩ := X0.out.facts
  obtain ⟨b0, b1, b2, b3⟩ := X1.out.facts
  obtain ⟨f0, f1, f2, f3⟩ := P0.out.facts
  have HV := Lib.hid (show btV (En.mk lv false lop) (En.mk uv true false) = uv ∧ btE (En.mk lv false lop) (En.mk uv true false) = 0 by simp [btV, btE])
  generalize btV (En.mk lv false lop) (En.mk uv true false) = V at *
  generalize btE (En.mk lv false lop) (En.mk uv true false) = ER at *
  go_enter Tryz.func105, Tryz.ntmps105
  go_upto_region 1 with (fail)
  rw [← hw0]
  clear hw0
  go_wp2_with fail
  refine bodyPost_ret (v := .agg #[.int .i64 uv.1, .int .i64 uv.2]) (by simp [results, Tryz.results105, go_sem, f0, f1, f2, f3]) rfl ⟨below_put E0.out (by omega) _ _, Or.inl ⟨HV.out.2, by rw [HV.out.1]⟩⟩

set_option maxRecDepth 100000 in
set_option maxHeartbeats 4000000 in
theorem bt2 (lv uv : Pq) (uop : Bool) (w : World) (hl : I2 lv) (hu : I2 uv) :
    Calls Tryz.prog 105 #[.agg (En.mk lv true true).cs, .agg (En.mk uv true uop).cs] w (QRes w (btV ⟨lv, true, true⟩ ⟨uv, true, uop⟩) (btE ⟨lv, true, true⟩ ⟨uv, true, uop⟩)) := by
  obtain ⟨w0, hw0⟩ : ∃ w0, w0 = ((w.alloc (.cells (En.mk lv true true).cs 105)).alloc (.cells (En.mk uv true uop).cs 105)).alloc (.cells #[.int .i64 0, .int .i64 0] 50) := ⟨_, rfl⟩
  have X0 := Lib.hid (show EnB w0 w.heap.size (En.mk lv true true) by rw [hw0]; exact ((EnB.made w _).kept (one_more _)).kept (one_more _))
  have X1 := Lib.hid (show EnB w0 (w.heap.size + 1) (En.mk uv true uop) by rw [hw0]; have := (EnB.made (w.alloc (.cells (En.mk lv true true).cs 105)) (En.mk uv true uop)).kept (one_more (.cells #[.int .i64 0, .int .i64 0] 50)); simpa using this)
  have P0 := Lib.hid (show Pair w0 (w.heap.size + 2) 0 0 by rw [hw0]; have := Pair.made ((w.alloc (.cells (En.mk lv true true).cs 105)).alloc (.cells (En.mk uv true uop).cs 105)) 0 0 50; simpa using this)
  have E0 := Lib.hid (show Below w.heap.size w w0 by rw [hw0]; exact past_three (Below.refl _ _))
  obtain ⟨a0, a1, a2, a3⟩ := X0.out.facts
  obtain ⟨b0, b1, b2, b3⟩ := X1.out.facts
  obtain ⟨f0, f1, f2, f3⟩ := P0.out.facts
  obtain ⟨V, hV⟩ : ∃ V, V = mdR lv uv := ⟨_, rfl⟩
  obtain ⟨ER, hE⟩ : ∃ ER, ER = mdE lv uv := ⟨_, rfl⟩
  have HV := Lib.hid (show btV (En.mk lv true true) (En.mk uv true uop) = V ∧ btE (En.mk lv true true) (En.mk uv true uop) = ER by rw [hV, hE]; simp [btV, btE])
  have CO := Lib.hid (fun W => midP_any lv uv W hl hu)
  rw [← hV, ← hE] at CO
  generalize btV (En.mk lv true true) (En.mk uv true uop) = VV at *
  generalize btE (En.mk lv true true) (En.mk uv true uop) = EE at *
  clear hV hE
  go_enter Tryz.func105, Tryz.ntmps105
  go_upto_region 1 with (fail)
  rw [← hw0]
  clear hw0
  go_wp2_with fail
  refine (CO.out w0).mono ?_
  rintro e w1 ⟨rfl, hb⟩
  have P1 := Lib.hid (P0.out.kept hb)
  have B1 := Lib.hid (below_on E0.out hb)
  clear hb a0 a1 a2 a3 b0 b1 b2 b3 f0 f1 f2 f3
  go_wp2_with fail
  refine (mustR_any V ER w1).mono ?_
  rintro e w2 ⟨hb, (⟨he, rfl⟩ | ⟨he, rfl⟩)⟩
  · have P2 := Lib.hid (P1.out.kept hb)
    have B2 := Lib.hid (below_on B1.out hb)
    have HE := Lib.hid he
    obtain ⟨f0, f1, f2, f3⟩ := P2.out.facts
    clear hb he
    go_wp2_with fail
    refine bodyPost_ret (v := .agg #[.int .i64 V.1, .int .i64 V.2]) (by simp [results, Tryz.results105, go_sem, f0, f1, f2, f3]) rfl ⟨below_put B2.out (by omega) _ _, Or.inl ⟨by rw [HV.out.2]; exact HE.out, by rw [HV.out.1]⟩⟩
  · have B2 := Lib.hid (below_on B1.out hb)
    have HE := Lib.hid he
    clear hb he
    go_wp2_with fail
    exact And.intro rfl ⟨B2.out, Or.inr ⟨by rw [HV.out.2]; exact HE.out, by rw [HV.out.2]⟩⟩

set_option maxRecDepth 100000 in
set_option maxHeartbeats 4000000 in
theorem bt3 (lv uv : Pq) (uop : Bool) (w : World) (hl : I2 lv) (hu : I2 uv) :
    Calls Tryz.prog 105 #[.agg (En.mk lv true true).cs, .agg (En.mk uv false uop).cs] w (QRes w (btV ⟨lv, true, true⟩ ⟨uv, false, uop⟩) (btE ⟨lv, true, true⟩ ⟨uv, false, uop⟩)) := by
  obtain ⟨w0, hw0⟩ : ∃ w0, w0 = ((w.alloc (.cells (En.mk lv true true).cs 105)).alloc (.cells (En.mk uv false uop).cs 105)).alloc (.cells #[.int .i64 0, .int .i64 0] 50) := ⟨_, rfl⟩
  have X0 := Lib.hid (show EnB w0 w.heap.size (En.mk lv true true) by rw [hw0]; exact ((EnB.made w _).kept (one_more _)).kept (one_more _))
  have X1 := Lib.hid (show EnB w0 (w.heap.size + 1) (En.mk uv false uop) by rw [hw0]; have := (EnB.made (w.alloc (.cells (En.mk lv true true).cs 105)) (En.mk uv false uop)).kept (one_more (.cells #[.int .i64 0, .int .i64 0] 50)); simpa using this)
  have P0 := Lib.hid (show Pair w0 (w.heap.size + 2) 0 0 by rw [hw0]; have := Pair.made ((w.alloc (.cells (En.mk lv true true).cs 105)).alloc (.cells (En.mk uv false uop).cs 105)) 0 0 50; simpa using this)
  have E0 := Lib.hid (show Below w.heap.size w w0 by rw [hw0]; exact past_three (Below.refl _ _))
  obtain ⟨a0, a1, a2, a3⟩ := X0.out.facts
  obtain ⟨b0, b1, b2, b3⟩ := X1.out.facts
  obtain ⟨f0, f1, f2, f3⟩ := P0.out.facts
  obtain ⟨V, hV⟩ : ∃ V, V = adR lv (1, 1) := ⟨_, rfl⟩
  obtain ⟨ER, hE⟩ : ∃ ER, ER = adE lv (1, 1) := ⟨_, rfl⟩
  have HV := Lib.hid (show btV (En.mk lv true true) (En.mk uv false uop) = V ∧ btE (En.mk lv true true) (En.mk uv false uop) = ER by rw [hV, hE]; simp [btV, btE])
  have CO := Lib.hid (fun W => addP_any lv (1, 1) W hl one_64)
  rw [← hV, ← hE] at CO
  generalize btV (En.mk lv true true) (En.mk uv false uop) = VV at *
  generalize btE (En.mk lv true true) (En.mk uv false uop) = EE at *
  clear hV hE
  go_enter Tryz.func105, Tryz.ntmps105
  go_upto_region 1 with (fail)
  rw [← hw0]
  clear hw0
  go_upto_region 6 with (fail)
  clear a0 a1 a2 a3 b0 b1 b2 b3 f0 f1 f2 f3
  have KS := Lib.hid (show ∀ W, Below w0.heap.size w0 W → (W.cell? ⟨w.heap.size, 0, none⟩ = some (.int .i64 lv.1) ∧ W.cell? ⟨w.heap.size, 1, none⟩ = some (.int .i64 lv.2)) from fun W h => ⟨(X0.out.kept h).facts.1, (X0.out.kept h).facts.2.1⟩)
  obtain ⟨wc, hwc⟩ : ∃ wc, wc = w0.drew := ⟨_, rfl⟩
  have Bc := Lib.hid (show Below w0.heap.size w0 wc by rw [hwc]; exact (Below.refl _ _).drew)
  refine wp_region_held_drew (S := (fun W => (W.cell? ⟨w.heap.size, 0, none⟩ = some (.int .i64 lv.1) ∧ W.cell? ⟨w.heap.size, 1, none⟩ = some (.int .i64 lv.2)))) (by kernel_rfl) (by rw [← hwc]; exact KS.out _ Bc.out) (fun h0 => ?_)
  rw [← hwc] at h0 ⊢
  clear hwc
  refine wpAnyH_take (i := 0) (v := ?v1) rfl (by kernel_rfl) (by kernel_rfl) (by kernel_rfl) (fun _ _ _ h => h) (Or.inl ⟨by rfl, ?hy1⟩) h0 ?rest1
  case hy1 => (intro w' hS; (try dsimp only at hS); go_simp; try (with_reducible rfl))
  simp only [Act.put, List.getElem_toArray, List.getElem_cons_zero, List.setIfInBounds_toArray, List.set_cons_zero, List.set_cons_succ]
  refine wpAnyH_take (i := 1) (v := ?v2) rfl (by kernel_rfl) (by kernel_rfl) (by kernel_rfl) (fun _ _ _ h => h) (Or.inl ⟨by rfl, ?hy2⟩) h0 ?rest2
  case hy2 => (intro w' hS; (try dsimp only at hS); go_simp; try (with_reducible rfl))
  simp only [Act.put, List.getElem_toArray, List.getElem_cons_zero, List.getElem_cons_succ, List.setIfInBounds_toArray, List.set_cons_zero, List.set_cons_succ]
  refine wpAnyH_ready (rs := [2]) (by kernel_rfl) (by simp) (AllReadyH.cons rfl (fun K hK => ?_) AllReadyH.nil)
  rw [if_pos (by rfl)]
  go_simp
  refine (whole_any 1 wc).mono ?_
  rintro e wc ⟨rfl, hb⟩
  have Bc := Lib.hid (below_on Bc.out hb)
  clear hb
  go_simp
  refine hK.out _ _ (KS.out _ Bc.out) (fun h0_1 => ?_)
  clear hK K h0
  refine wpAnyH_ready (rs := [3]) (by kernel_rfl) (by simp) (AllReadyH.cons rfl (fun K hK => ?_) AllReadyH.nil)
  rw [if_pos (by rfl)]
  go_simp
  refine (CO.out wc).mono ?_
  rintro e wc ⟨rfl, hb⟩
  have Bc := Lib.hid (below_on Bc.out hb)
  clear hb
  go_simp
  refine hK.out _ _ (KS.out _ Bc.out) (fun h0_2 => ?_)
  clear hK K h0_1
  refine wpAnyH_take (i := 4) (v := ?v3) rfl (by kernel_rfl) (by kernel_rfl) (by kernel_rfl) (fun _ _ _ h => h) (Or.inl ⟨by rfl, ?hy3⟩) h0_2 ?rest3
  case hy3 => (intro w' hS; (try dsimp only at hS); go_simp; try (with_reducible rfl))
  simp only [Act.put, List.getElem_toArray, List.getElem_cons_zero, List.getElem_cons_succ, List.setIfInBounds_toArray, List.set_cons_zero, List.set_cons_succ]
  refine wpAnyH_take (i := 5) (v := ?v4) rfl (by kernel_rfl) (by kernel_rfl) (by kernel_rfl) (fun _ _ _ h => h) (Or.inl ⟨by rfl, ?hy4⟩) h0_2 ?rest4
  case hy4 => (intro w' hS; (try dsimp only at hS); go_simp; try (with_reducible rfl))
  simp only [Act.put, List.getElem_toArray, List.getElem_cons_zero, List.getElem_cons_succ, List.setIfInBounds_toArray, List.set_cons_zero, List.set_cons_succ]
  refine wpAnyH_ready (rs := [6]) (by kernel_rfl) (by simp) (AllReadyH.cons rfl (fun K hK => ?_) AllReadyH.nil)
  rw [if_pos (by rfl)]
  go_simp
  refine (mustR_any V ER wc).mono ?_
  rintro e wc ⟨hb, (⟨he, rfl⟩ | ⟨he, rfl⟩)⟩
  rotate_left
  · exact And.intro rfl ⟨below_on E0.out (below_on Bc.out hb), Or.inr ⟨by rw [HV.out.2]; exact he, by rw [HV.out.2]⟩⟩
  have Bc := Lib.hid (below_on Bc.out hb)
  have M := Lib.hid he
  clear hb he
  go_simp
  refine hK.out _ _ (KS.out _ Bc.out) (fun h0_3 => ?_)
  clear hK K h0_2
  refine wpAnyH_ready (rs := [7]) (by kernel_rfl) (by simp) (AllReadyH.cons rfl (fun K hK => ?_) AllReadyH.nil)
  rw [if_pos (by rfl)]
  go_simp
  have PP := Lib.hid (P0.out.kept Bc.out)
  obtain ⟨f0, f1, f2, f3⟩ := PP.out.facts
  go_simp
  refine hK.out _ _ (⟨((X0.out.kept Bc.out).aside (by omega) _).aside (by omega) _ |>.facts.1, ((X0.out.kept Bc.out).aside (by omega) _).aside (by omega) _ |>.facts.2.1⟩) (fun h0_4 => ?_)
  clear hK K h0_3
  try simp only [List.set_cons_succ]
  try simp only [List.set_cons_zero]
  refine wpAnyH_done (by kernel_rfl) ?_ _
  have PE := PP.out.put V.1 V.2
  have BE := below_put (below_on E0.out Bc.out) (b := w.heap.size + 2) (by omega) (.int .i64 V.1) (.int .i64 V.2)
  clear f0 f1 f2 f3
  obtain ⟨f0, f1, f2, f3⟩ := PE.facts
  obtain ⟨we, hwe⟩ : ∃ we, we = (wc.setCell ⟨w.heap.size + 2, 0, none⟩ (.int .i64 V.1)).setCell ⟨w.heap.size + 2, 1, none⟩ (.int .i64 V.2) := ⟨_, rfl⟩
  rw [← hwe] at BE f0 f1 f2 f3 ⊢
  have BX := Lib.hid BE
  clear hwe PE BE
  go_wp2_with fail
  refine bodyPost_ret (v := .agg #[.int .i64 V.1, .int .i64 V.2]) (by simp [results, Tryz.results105, go_sem, f0, f1, f2, f3]) rfl ⟨BX.out, Or.inl ⟨by rw [HV.out.2]; exact M.out, by rw [HV.out.1]⟩⟩

set_option maxRecDepth 100000 in
set_option maxHeartbeats 4000000 in
theorem bt5 (lv uv : Pq) (lop : Bool) (w : World) (hl : I2 lv) (hu : I2 uv) :
    Calls Tryz.prog 105 #[.agg (En.mk lv false lop).cs, .agg (En.mk uv true true).cs] w (QRes w (btV ⟨lv, false, lop⟩ ⟨uv, true, true⟩) (btE ⟨lv, false, lop⟩ ⟨uv, true, true⟩)) := by
  obtain ⟨w0, hw0⟩ : ∃ w0, w0 = ((w.alloc (.cells (En.mk lv false lop).cs 105)).alloc (.cells (En.mk uv true true).cs 105)).alloc (.cells #[.int .i64 0, .int .i64 0] 50) := ⟨_, rfl⟩
  have X0 := Lib.hid (show EnB w0 w.heap.size (En.mk lv false lop) by rw [hw0]; exact ((EnB.made w _).kept (one_more _)).kept (one_more _))
  have X1 := Lib.hid (show EnB w0 (w.heap.size + 1) (En.mk uv true true) by rw [hw0]; have := (EnB.made (w.alloc (.cells (En.mk lv false lop).cs 105)) (En.mk uv true true)).kept (one_more (.cells #[.int .i64 0, .int .i64 0] 50)); simpa using this)
  have P0 := Lib.hid (show Pair w0 (w.heap.size + 2) 0 0 by rw [hw0]; have := Pair.made ((w.alloc (.cells (En.mk lv false lop).cs 105)).alloc (.cells (En.mk uv true true).cs 105)) 0 0 50; simpa using this)
  have E0 := Lib.hid (show Below w.heap.size w w0 by rw [hw0]; exact past_three (Below.refl _ _))
  obtain ⟨a0, a1, a2, a3⟩ := X0.out.facts
  obtain ⟨b0, b1, b2, b3⟩ := X1.out.facts
  obtain ⟨f0, f1, f2, f3⟩ := P0.out.facts
  obtain ⟨V, hV⟩ : ∃ V, V = sbR uv (1, 1) := ⟨_, rfl⟩
  obtain ⟨ER, hE⟩ : ∃ ER, ER = sbE uv (1, 1) := ⟨_, rfl⟩
  have HV := Lib.hid (show btV (En.mk lv false lop) (En.mk uv true true) = V ∧ btE (En.mk lv false lop) (En.mk uv true true) = ER by rw [hV, hE]; simp [btV, btE])
  have CO := Lib.hid (fun W => subP_any uv (1, 1) W hu one_64)
  rw [← hV, ← hE] at CO
  generalize btV (En.mk lv false lop) (En.mk uv true true) = VV at *
  generalize btE (En.mk lv false lop) (En.mk uv true true) = EE at *
  clear hV hE
  go_enter Tryz.func105, Tryz.ntmps105
  go_upto_region 1 with (fail)
  rw [← hw0]
  clear hw0
  go_upto_region 10 with (fail)
  clear a0 a1 a2 a3 b0 b1 b2 b3 f0 f1 f2 f3
  have KS := Lib.hid (show ∀ W, Below w0.heap.size w0 W → (W.cell? ⟨w.heap.size + 1, 0, none⟩ = some (.int .i64 uv.1) ∧ W.cell? ⟨w.heap.size + 1, 1, none⟩ = some (.int .i64 uv.2)) from fun W h => ⟨(X1.out.kept h).facts.1, (X1.out.kept h).facts.2.1⟩)
  obtain ⟨wc, hwc⟩ : ∃ wc, wc = w0.drew := ⟨_, rfl⟩
  have Bc := Lib.hid (show Below w0.heap.size w0 wc by rw [hwc]; exact (Below.refl _ _).drew)
  refine wp_region_held_drew (S := (fun W => (W.cell? ⟨w.heap.size + 1, 0, none⟩ = some (.int .i64 uv.1) ∧ W.cell? ⟨w.heap.size + 1, 1, none⟩ = some (.int .i64 uv.2)))) (by kernel_rfl) (by rw [← hwc]; exact KS.out _ Bc.out) (fun h0 => ?_)
  rw [← hwc] at h0 ⊢
  clear hwc
  refine wpAnyH_take (i := 0) (v := ?v5) rfl (by kernel_rfl) (by kernel_rfl) (by kernel_rfl) (fun _ _ _ h => h) (Or.inl ⟨by rfl, ?hy5⟩) h0 ?rest5
  case hy5 => (intro w' hS; (try dsimp only at hS); go_simp; try (with_reducible rfl))
  simp only [Act.put, List.getElem_toArray, List.getElem_cons_zero, List.setIfInBounds_toArray, List.set_cons_zero, List.set_cons_succ]
  refine wpAnyH_take (i := 1) (v := ?v6) rfl (by kernel_rfl) (by kernel_rfl) (by kernel_rfl) (fun _ _ _ h => h) (Or.inl ⟨by rfl, ?hy6⟩) h0 ?rest6
  case hy6 => (intro w' hS; (try dsimp only at hS); go_simp; try (with_reducible rfl))
  simp only [Act.put, List.getElem_toArray, List.getElem_cons_zero, List.getElem_cons_succ, List.setIfInBounds_toArray, List.set_cons_zero, List.set_cons_succ]
  refine wpAnyH_ready (rs := [2]) (by kernel_rfl) (by simp) (AllReadyH.cons rfl (fun K hK => ?_) AllReadyH.nil)
  rw [if_pos (by rfl)]
  go_simp
  refine (whole_any 1 wc).mono ?_
  rintro e wc ⟨rfl, hb⟩
  have Bc := Lib.hid (below_on Bc.out hb)
  clear hb
  go_simp
  refine hK.out _ _ (KS.out _ Bc.out) (fun h0_1 => ?_)
  clear hK K h0
  refine wpAnyH_ready (rs := [3]) (by kernel_rfl) (by simp) (AllReadyH.cons rfl (fun K hK => ?_) AllReadyH.nil)
  rw [if_pos (by rfl)]
  go_simp
  refine (CO.out wc).mono ?_
  rintro e wc ⟨rfl, hb⟩
  have Bc := Lib.hid (below_on Bc.out hb)
  clear hb
  go_simp
  refine hK.out _ _ (KS.out _ Bc.out) (fun h0_2 => ?_)
  clear hK K h0_1
  refine wpAnyH_take (i := 4) (v := ?v7) rfl (by kernel_rfl) (by kernel_rfl) (by kernel_rfl) (fun _ _ _ h => h) (Or.inl ⟨by rfl, ?hy7⟩) h0_2 ?rest7
  case hy7 => (intro w' hS; (try dsimp only at hS); go_simp; try (with_reducible rfl))
  simp only [Act.put, List.getElem_toArray, List.getElem_cons_zero, List.getElem_cons_succ, List.setIfInBounds_toArray, List.set_cons_zero, List.set_cons_succ]
  refine wpAnyH_take (i := 5) (v := ?v8) rfl (by kernel_rfl) (by kernel_rfl) (by kernel_rfl) (fun _ _ _ h => h) (Or.inl ⟨by rfl, ?hy8⟩) h0_2 ?rest8
  case hy8 => (intro w' hS; (try dsimp only at hS); go_simp; try (with_reducible rfl))
  simp only [Act.put, List.getElem_toArray, List.getElem_cons_zero, List.getElem_cons_succ, List.setIfInBounds_toArray, List.set_cons_zero, List.set_cons_succ]
  refine wpAnyH_ready (rs := [6]) (by kernel_rfl) (by simp) (AllReadyH.cons rfl (fun K hK => ?_) AllReadyH.nil)
  rw [if_pos (by rfl)]
  go_simp
  refine (mustR_any V ER wc).mono ?_
  rintro e wc ⟨hb, (⟨he, rfl⟩ | ⟨he, rfl⟩)⟩
  rotate_left
  · exact And.intro rfl ⟨below_on E0.out (below_on Bc.out hb), Or.inr ⟨by rw [HV.out.2]; exact he, by rw [HV.out.2]⟩⟩
  have Bc := Lib.hid (below_on Bc.out hb)
  have M := Lib.hid he
  clear hb he
  go_simp
  refine hK.out _ _ (KS.out _ Bc.out) (fun h0_3 => ?_)
  clear hK K h0_2
  refine wpAnyH_ready (rs := [7]) (by kernel_rfl) (by simp) (AllReadyH.cons rfl (fun K hK => ?_) AllReadyH.nil)
  rw [if_pos (by rfl)]
  go_simp
  have PP := Lib.hid (P0.out.kept Bc.out)
  obtain ⟨f0, f1, f2, f3⟩ := PP.out.facts
  go_simp
  refine hK.out _ _ (⟨((X1.out.kept Bc.out).aside (by omega) _).aside (by omega) _ |>.facts.1, ((X1.out.kept Bc.out).aside (by omega) _).aside (by omega) _ |>.facts.2.1⟩) (fun h0_4 => ?_)
  clear hK K h0_3
  try simp only [List.set_cons_succ]
  try simp only [List.set_cons_zero]
  refine wpAnyH_done (by kernel_rfl) ?_ _
  have PE := PP.out.put V.1 V.2
  have BE := below_put (below_on E0.out Bc.out) (b := w.heap.size + 2) (by omega) (.int .i64 V.1) (.int .i64 V.2)
  clear f0 f1 f2 f3
  obtain ⟨f0, f1, f2, f3⟩ := PE.facts
  obtain ⟨we, hwe⟩ : ∃ we, we = (wc.setCell ⟨w.heap.size + 2, 0, none⟩ (.int .i64 V.1)).setCell ⟨w.heap.size + 2, 1, none⟩ (.int .i64 V.2) := ⟨_, rfl⟩
  rw [← hwe] at BE f0 f1 f2 f3 ⊢
  have BX := Lib.hid BE
  clear hwe PE BE
  go_wp2_with fail
  refine bodyPost_ret (v := .agg #[.int .i64 V.1, .int .i64 V.2]) (by simp [results, Tryz.results105, go_sem, f0, f1, f2, f3]) rfl ⟨BX.out, Or.inl ⟨by rw [HV.out.2]; exact M.out, by rw [HV.out.1]⟩⟩

set_option maxRecDepth 100000 in
set_option maxHeartbeats 4000000 in
theorem bt6 (lv uv : Pq) (lop uop : Bool) (w : World) (hl : I2 lv) (hu : I2 uv) :
    Calls Tryz.prog 105 #[.agg (En.mk lv false lop).cs, .agg (En.mk uv false uop).cs] w (QRes w (btV ⟨lv, false, lop⟩ ⟨uv, false, uop⟩) (btE ⟨lv, false, lop⟩ ⟨uv, false, uop⟩)) := by
  obtain ⟨w0, hw0⟩ : ∃ w0, w0 = ((w.alloc (.cells (En.mk lv false lop).cs 105)).alloc (.cells (En.mk uv false uop).cs 105)).alloc (.cells #[.int .i64 0, .int .i64 0] 50) := ⟨_, rfl⟩
  have X0 := Lib.hid (show EnB w0 w.heap.size (En.mk lv false lop) by rw [hw0]; exact ((EnB.made w _).kept (one_more _)).kept (one_more _))
  have X1 := Lib.hid (show EnB w0 (w.heap.size + 1) (En.mk uv false uop) by rw [hw0]; have := (EnB.made (w.alloc (.cells (En.mk lv false lop).cs 105)) (En.mk uv false uop)).kept (one_more (.cells #[.int .i64 0, .int .i64 0] 50)); simpa using this)
  have P0 := Lib.hid (show Pair w0 (w.heap.size + 2) 0 0 by rw [hw0]; have := Pair.made ((w.alloc (.cells (En.mk lv false lop).cs 105)).alloc (.cells (En.mk uv false uop).cs 105)) 0 0 50; simpa using this)
  have E0 := Lib.hid (show Below w.heap.size w w0 by rw [hw0]; exact past_three (Below.refl _ _))
  obtain ⟨a0, a1, a2, a3⟩ := X0.out.facts
  obtain ⟨b0, b1, b2, b3⟩ := X1.out.facts
  obtain ⟨f0, f1, f2, f3⟩ := P0.out.facts
  have HV := Lib.hid (show btV (En.mk lv false lop) (En.mk uv false uop) = (0, 1) ∧ btE (En.mk lv false lop) (En.mk uv false uop) = 0 by simp [btV, btE])
  generalize btV (En.mk lv false lop) (En.mk uv false uop) = V at *
  generalize btE (En.mk lv false lop) (En.mk uv false uop) = ER at *
  go_enter Tryz.func105, Tryz.ntmps105
  go_upto_region 1 with (fail)
  rw [← hw0]
  clear hw0
  go_wp2_with fail
  refine (whole_any 0 w0).mono ?_
  rintro e w1 ⟨rfl, hb⟩
  have P1 := Lib.hid (P0.out.kept hb)
  have B1 := Lib.hid (below_on E0.out hb)
  clear hb a0 a1 a2 a3 b0 b1 b2 b3 f0 f1 f2 f3
  obtain ⟨f0, f1, f2, f3⟩ := P1.out.facts
  go_wp2_with fail
  refine bodyPost_ret (v := .agg #[.int .i64 0, .int .i64 1]) (by simp [results, Tryz.results105, go_sem, f0, f1, f2, f3]) rfl ⟨below_put B1.out (by omega) _ _, Or.inl ⟨HV.out.2, by rw [HV.out.1]⟩⟩

theorem between_any (lo up : En) (w : World) (hl : I2 lo.v) (hu : I2 up.v) : Calls Tryz.prog 105 #[.agg lo.cs, .agg up.cs] w (QRes w (btV lo up) (btE lo up)) := by
  obtain ⟨lv, lex, lop⟩ := lo
  obtain ⟨uv, uex, uop⟩ := up
  cases lex
  · cases uex
    · exact bt6 lv uv lop uop w hl hu
    · cases uop
      · exact bt4 lv uv lop w hl hu
      · exact bt5 lv uv lop w hl hu
  · cases lop
    · exact bt1 lv uv uex uop w hl hu
    · cases uex
      · exact bt3 lv uv uop w hl hu
      · exact bt2 lv uv uop w hl hu
end Go.Proofs.YtefpaobboimakaaGreat

namespace Go.Proofs.YtefpaobboimakaaGreat
open Go.RowKit Go.Sort Go.Shelf

/-- The cells of ratios, and a row of ratios of the call's own. -/
def qV (ps : List Pq) : List Value := ps.flatMap fun p => [.int .i64 p.1, .int .i64 p.2]

theorem qV_len (ps : List Pq) : (qV ps).length = ps.length * 2 := by
  unfold qV
  induction ps with
  | nil => rfl
  | cons c cs ih => rw [List.flatMap_cons, List.length_append, ih, List.length_cons]; simp; omega

theorem qV_app (ps qs : List Pq) : qV (ps ++ qs) = qV ps ++ qV qs := by unfold qV; rw [List.flatMap_append]

theorem qV_at (ps : List Pq) (k : Nat) (hk : k < ps.length) : (qV ps)[k * 2]? = some (.int .i64 (gp ps k).1) ∧ (qV ps)[k * 2 + 1]? = some (.int .i64 (gp ps k).2) := by
  induction ps generalizing k with
  | nil => simp at hk
  | cons c cs ih =>
    cases k with
    | zero => exact ⟨rfl, rfl⟩
    | succ k =>
      have := ih k (by simp at hk; omega)
      have e : qV (c :: cs) = [.int .i64 c.1, .int .i64 c.2] ++ qV cs := rfl
      have g : gp (c :: cs) (k + 1) = gp cs k := by simp [gp]
      rw [e, g, show (k + 1) * 2 = k * 2 + 2 by omega]
      refine ⟨?_, ?_⟩
      · rw [List.getElem?_append_right (by simp)]; exact this.1
      · rw [List.getElem?_append_right (by simp)]; simpa using this.2

def OwnQ (w : World) (B : Nat) (v : Value) (ps : List Pq) : Prop := w.ownsRow B 50 2 v ps.length (qV ps)

theorem OwnQ.nil (w : World) (B : Nat) : OwnQ w B (.slice none 0 0) [] := World.ownsRow_nil w B _ _

theorem OwnQ.on {w w' : World} {B : Nat} {v : Value} {cs : List Pq} (h : OwnQ w B v cs) (hb : Below w.heap.size w w') : OwnQ w' B v cs := by
  have hg : w.grownBy w' none := ⟨hb.os, hb.tape, hb.output, hb.size, fun k hk _ => hb.block k hk⟩
  exact World.ownsRow.kept h hg (by cases v.ownBlock <;> simp)

theorem OwnQ.read {w : World} {B : Nat} {v : Value} {ps : List Pq} (h : OwnQ w B v ps) : ∃ ao cap, v = .slice ao ps.length cap ∧ Rd2 w ao ps ∧ (∀ a, ao = some a → B ≤ a.block ∧ a.off = 0 ∧ a.spot = none) := by
  rcases h.2 with ⟨rfl, hn⟩ | ⟨g, cap, cur, rfl, hb, hg, hc, hm, hsz, htake⟩
  · refine ⟨none, 0, by rw [hn], fun t ht => by omega, fun a h => by cases h⟩
  · refine ⟨_, cap, rfl, fun t ht => ⟨_, rfl, ?_⟩, fun a h => by cases h; exact ⟨hb, rfl, rfl⟩⟩
    have hc := World.ownsRow.cellAt (g := g) (cap := cap) h
    obtain ⟨c0, c1⟩ := qV_at ps t ht
    refine ⟨?_, ?_⟩
    · rw [addr_add, addr_add, Nat.zero_add]; exact (hc (t * 2 + 0) (by omega)).trans c0
    · rw [addr_add, addr_add, Nat.zero_add]; exact (hc (t * 2 + 1) (by omega)).trans c1

theorem appendQ_run {w : World} {B : Nat} {v : Value} {l : List Pq} (hown : OwnQ w B v l) {b c : Nat} {y : Pq} (hy : QAt w ⟨b, 0, none⟩ y) (hle : l.length + 1 ≤ 2000000) (hB : B ≤ w.heap.size) (ty : TypeId) :
    ∃ v' w', (Builtin.append_ #[26, 26] ty #[v, .slice (some ⟨b, 0, none⟩) 1 c]).run Tryz.prog w = .ok v' w' ∧ OwnQ w' B v' (l ++ [y]) ∧ w.grownBy w' v.ownBlock ∧ (v'.ownBlock = v.ownBlock ∨ v'.ownBlock = some w.heap.size) := by
  obtain ⟨i0, hi, hz0, hz1, hz2⟩ := info_parts rat_info
  obtain ⟨v', w', hr, h2, h3, _, h5⟩ := run_append_own_at (P := Tryz.prog) w B 26 ty 50 i0 (.agg #[.int .i64 0, .int .i64 0]) 2 16 Tryz.underlying26 hi hz0 hz1 hz2 (by rfl) (by decide) v l.length _ hown ⟨b, 0, none⟩ 1 c [.int .i64 y.1, .int .i64 y.2]
    (by simp) (fun j u hu => hy.cs j u hu) (by simp [Value.oneCell']) (by unfold maxLen; omega) (by omega) hB
  refine ⟨v', w', hr, ?_, h3, h5⟩
  unfold OwnQ
  rw [qV_app, List.length_append]; simpa [qV] using h2

theorem wpl_appQ {ops : Array Oper} {rest : List Oper} {o : Oper} {a : Act} {w : World} {Q : Exit → Act → World → Prop} (hgd : o.guard = none) (s x : Operand) (ho : o.op = .call { callee := .builtin .append, args := #[s, x], argTypes := #[26, 26] }) (B : Nat) (v : Value) (l : List Pq) (y : Pq) (hs : a.eval s = v) (hown : OwnQ w B v l) (b c : Nat) (hx : a.eval x = .slice (some ⟨b, 0, none⟩) 1 c) (hy : QAt w ⟨b, 0, none⟩ y)
    (hle : l.length + 1 ≤ 2000000) (hB : B ≤ w.heap.size) (h : ∀ v' w', OwnQ w' B v' (l ++ [y]) → w.grownBy w' v.ownBlock → (v'.ownBlock = v.ownBlock ∨ v'.ownBlock = some w.heap.size) → wpList Tryz.prog ops Q rest (a.put o.dst v') w') : wpList Tryz.prog ops Q (o :: rest) a w := by
  obtain ⟨v', w', hr, h1, h2, h3⟩ := appendQ_run hown hy hle hB (c := c) o.type
  have hk := h v' w' h1 h2 h3
  refine wpList_plain hgd fun K hK => ?_
  unfold Oper.wp
  simp [execOp, ho, resolve, invoke, builtin, hs, hx, hr, Result.andThen]
  exact hK _ _ hk

/-- The first t coordinates that point chooses, and the error. -/
def ptN (l : List Ln) (n : Nat) : Nat → List Pq × Int
  | 0 => ([], 0)
  | t + 1 => if (ptN l n t).2 ≠ 0 then ptN l n t else
    if (enN (shL l n (n - (t + 1))) t (ptN l n t).1 (shL l n (n - (t + 1))).length).2 ≠ 0 then ([], (enN (shL l n (n - (t + 1))) t (ptN l n t).1 (shL l n (n - (t + 1))).length).2) else
    if btE (enN (shL l n (n - (t + 1))) t (ptN l n t).1 (shL l n (n - (t + 1))).length).1.1 (enN (shL l n (n - (t + 1))) t (ptN l n t).1 (shL l n (n - (t + 1))).length).1.2 ≠ 0 then
      ([], btE (enN (shL l n (n - (t + 1))) t (ptN l n t).1 (shL l n (n - (t + 1))).length).1.1 (enN (shL l n (n - (t + 1))) t (ptN l n t).1 (shL l n (n - (t + 1))).length).1.2) else
    ((ptN l n t).1 ++ [btV (enN (shL l n (n - (t + 1))) t (ptN l n t).1 (shL l n (n - (t + 1))).length).1.1 (enN (shL l n (n - (t + 1))) t (ptN l n t).1 (shL l n (n - (t + 1))).length).1.2], 0)

theorem ptN_step {l : List Ln} {n t : Nat} (h : (ptN l n t).2 = 0) {s : List Ln} (hs : s = shL l n (n - (t + 1))) {p : List Pq} (hp : p = (ptN l n t).1) :
    ptN l n (t + 1) = if (enN s t p s.length).2 ≠ 0 then ([], (enN s t p s.length).2) else if btE (enN s t p s.length).1.1 (enN s t p s.length).1.2 ≠ 0 then ([], btE (enN s t p s.length).1.1 (enN s t p s.length).1.2) else (p ++ [btV (enN s t p s.length).1.1 (enN s t p s.length).1.2], 0) := by
  subst hs hp
  conv => lhs; unfold ptN
  rw [if_neg (fun q => q h)]

theorem ptN_stop {l : List Ln} {n t : Nat} (h : (ptN l n t).2 ≠ 0) : ∀ j, ptN l n (t + j) = ptN l n t
  | 0 => rfl
  | j + 1 => by
    have e : ∀ k, (ptN l n k).2 ≠ 0 → ptN l n (k + 1) = ptN l n k := fun k hk => by
      conv => lhs; unfold ptN
      rw [if_pos hk]
    have ih := ptN_stop h j
    exact (e (t + j) (by rw [ih]; exact h)).trans ih

theorem ptN_end {l : List Ln} {n t m : Nat} (ht : t ≤ m) (h : (ptN l n t).2 ≠ 0) : ptN l n m = ptN l n t := by
  have := ptN_stop h (m - t)
  rwa [show t + (m - t) = m by omega] at this

theorem btV_64 {lo up : En} (h : I2 lo.v) (h' : I2 up.v) : I2 (btV lo up) := by
  unfold btV
  (repeat' split) <;> first | assumption | exact mdR_64 _ _ | exact adR_64 _ _ | exact sbR_64 _ _ | (unfold I2 I64; simp)

theorem ptN_len {l : List Ln} {n : Nat} : ∀ t, (ptN l n t).2 = 0 → (ptN l n t).1.length = t ∧ ∀ k, k < t → I2 (gp (ptN l n t).1 k)
  | 0, _ => ⟨rfl, fun k h => by omega⟩
  | t + 1, h => by
    by_cases h0 : (ptN l n t).2 = 0
    · obtain ⟨i1, i2⟩ := ptN_len t h0
      have e := ptN_step h0 rfl rfl
      rw [e] at h ⊢
      generalize shL l n (n - (t + 1)) = s at *
      have N := enN_64 s t (ptN l n t).1 s.length
      generalize enN s t (ptN l n t).1 s.length = E at *
      split at h
      · rename_i q; exact absurd h q
      · rename_i q
        rw [if_neg q]
        split at h
        · rename_i q'; exact absurd h q'
        · rename_i q'
          rw [if_neg q']
          refine ⟨by simp [i1], fun k hk => ?_⟩
          by_cases hkt : k < t
          · have : gp ((ptN l n t).1 ++ [btV E.1.1 E.1.2]) k = gp (ptN l n t).1 k := by
              unfold gp; rw [List.getD_eq_getElem?_getD, List.getD_eq_getElem?_getD, List.getElem?_append_left (by omega)]
            rw [this]; exact i2 k hkt
          · have : gp ((ptN l n t).1 ++ [btV E.1.1 E.1.2]) k = btV E.1.1 E.1.2 := by
              unfold gp
              rw [List.getD_eq_getElem?_getD, List.getElem?_append_right (by omega), show k - (ptN l n t).1.length = 0 by omega]; rfl
            rw [this]; exact btV_64 N.1 N.2
    · have := ptN_end (l := l) (n := n) (Nat.le_succ t) h0
      exact absurd (this ▸ h) h0

/-- What point leaves. -/
def PtR (w : World) (ps : List Pq) (v : Value) (A : World) : Prop := ∃ ao cap, v = .slice ao ps.length cap ∧ Rd2 A ao ps ∧ ∀ a, ao = some a → w.heap.size ≤ a.block

theorem PtR.aside {w A : World} {ps : List Pq} {v : Value} (h : PtR w ps v A) {b : Nat} (hb : b < w.heap.size) (y : Value) : PtR w ps v (A.setCell ⟨b, 0, none⟩ y) := by
  obtain ⟨ao, cap, e, r, f⟩ := h
  refine ⟨ao, cap, e, fun t ht => ?_, f⟩
  obtain ⟨a, ea, c0, c1⟩ := r t ht
  have hf := f a ea
  refine ⟨a, ea, ?_, ?_⟩
  · rw [World.cell?_setCell_other A ⟨b, 0, none⟩ _ y (fun e => by have := congrArg Addr.block e; rw [add_block, add_block] at this; simp only at this; omega)]; exact c0
  · rw [World.cell?_setCell_other A ⟨b, 0, none⟩ _ y (fun e => by have := congrArg Addr.block e; rw [add_block, add_block] at this; simp only at this; omega)]; exact c1

def ptE (l : List Ln) (n : Nat) : Int := if empB l n then 4 else (ptN l n n).2

def PtRes (w : World) (ps : List Pq) (er : Int) (e : Ending) (w' : World) : Prop := Below w.heap.size w w' ∧ ((er = 0 ∧ ∃ v, e = .returned v ∧ PtR w ps v w') ∨ (er ≠ 0 ∧ e = .panicked (pan er)))

set_option maxRecDepth 100000 in
set_option maxHeartbeats 4000000 in
theorem point_any (l : List Ln) (n b : Nat) (cs : Array Value) (w w00 : World) (hn : n ≤ 5) (hl : l.length ≤ 2000) (hg : ∀ x ∈ l, Rg 2147483647 x) (he : shE l n n = 0) (hS : ShR w00 w b l n (n + 1) cs) :
    Calls Tryz.prog 71 #[.slice (some ⟨b, 0, none⟩) (n + 1) (n + 1)] w (PtRes w (ptN l n n).1 (ptE l n)) := by
  have OK : ∀ j, j ≤ n → (shL l n j).length ≤ 2000 ∧ ∀ x ∈ shL l n j, Rg 2147483647 x := fun j hj => shL_ok hl hg j (by
    by_cases q : shE l n j = 0
    · exact q
    · have := shE_stop q (n - j)
      rw [show j + (n - j) = n by omega] at this
      exact absurd (this ▸ he) q)
  obtain ⟨a0, d0, e0, r0⟩ := hS.hi 0 (by omega) (by omega)
  have g0 := (hS.cell 0).trans e0
  have RW := Lib.hid (show ∀ W, Below w.heap.size w W → ∀ j, j < n → ∃ ao c, W.cell? ⟨b, 1 + j, none⟩ = some (.slice ao (shL l n (n - (j + 1))).length c) ∧ RdL W ao (shL l n (n - (j + 1))) from fun W hb j hj => by
    obtain ⟨ao, c, e, r⟩ := hS.hi (j + 1) (by omega) (by omega)
    refine ⟨ao, c, ?_, r.on hb⟩
    have := kept hb ((hS.cell (j + 1)).trans e)
    rw [show 1 + j = j + 1 by omega]; exact this)
  have EM := Lib.hid (show (if 0 < (shL l n n).length then true else false) = empB l n by unfold empB; by_cases q : 0 < (shL l n n).length <;> simp [q])
  have EN := Lib.hid (fun t s (hs : s = shL l n (n - (t + 1))) (ht : t < n) p bo ao bc cap W (hL : RdL W bo s) (hp : p.length = t) (hI : ∀ k, k < t → I2 (gp p k)) (hR : Rd2 W ao p) =>
    ends_any s t p bo ao bc cap W (by rw [hs]; have := (OK (n - (t + 1)) (by omega)).1; omega) hL (by rw [hs]; exact (OK (n - (t + 1)) (by omega)).2) (by omega) (by omega) hR (by rw [hp]; exact hI))
  have hn5 := hn
  have PE := Lib.hid (show ptE l n = if empB l n then 4 else (ptN l n n).2 from rfl)
  have IE := Lib.hid (isEmpty_any b (n + 1) (n + 1) (shL l n (n - 0)).length d0 a0 w (by omega) g0)
  have IB := Lib.hid (show decide (0 < (shL l n (n - 0)).length) = empB l n by rw [Nat.sub_zero]; rfl)
  rw [IB.out] at IE
  clear OK hS hl hg he e0 r0 g0 hn EM IB
  go_enter Tryz.func71, Tryz.ntmps71
  go_wp2_with fail
  refine IE.out.mono ?_
  rintro e w1 ⟨rfl, hb⟩
  have B1 := Lib.hid hb
  clear hb
  cases hem : empB l n
  rotate_left
  · have PF := Lib.hid (show ptE l n = 4 by rw [PE.out, hem, if_pos rfl])
    go_wp2_with fail
    exact And.intro rfl ⟨B1.out, Or.inr ⟨by rw [PF.out]; decide, by rw [PF.out]; rfl⟩⟩
  have PF := Lib.hid (show ptE l n = (ptN l n n).2 by rw [PE.out, hem, if_neg (by simp)])
  clear hem PE IE
  rcases Nat.eq_zero_or_pos n with hz | hz
  · subst hz
    have PR := Lib.hid (show ∀ W, PtR w (ptN l 0 0).1 (.slice none 0 0) W from fun W => ⟨none, 0, rfl, fun t ht => by simp [ptN] at ht, fun a e => by cases e⟩)
    go_wp2_with fail
    go_loopw [3, 12] (fun v s wr => v = .slice none 0 0 ∧ s = .int .i64 0 ∧ Hid (Below w.heap.size w wr)) (fun _ s _ => 0)
    case atStart => exact ⟨rfl, rfl, B1⟩
    case round =>
      obtain ⟨rfl, rfl, HB⟩ := hrel
      go_wp2_with fail
      go_ret
      exact ⟨HB.out, Or.inl ⟨by rw [PF.out]; rfl, _, rfl, PR.out _⟩⟩
  go_wp2_with fail
  go_loopw [3, 12] (fun v s wr => ∃ t : Nat, s = .int .i64 t ∧ t ≤ n ∧ Hid ((ptN l n t).2 = 0) ∧ Hid (Below w.heap.size w wr) ∧ Hid (OwnQ wr w.heap.size v (ptN l n t).1)) (fun _ s _ => n - (intOf s).toNat)
  case atStart => exact ⟨0, rfl, by omega, Lib.hid rfl, B1, Lib.hid (OwnQ.nil _ _)⟩
  case round =>
    obtain ⟨t, rfl, ht, HE, HB, HO⟩ := hrel
    obtain ⟨ap, cp, rfl, rp, rb⟩ := HO.out.read
    obtain ⟨lp, ip⟩ := ptN_len t HE.out
    by_cases htn : t < n
    · obtain ⟨bo, bc, c0, r0⟩ := RW.out wr HB.out t htn
      obtain ⟨s, hs⟩ : ∃ s, s = shL l n (n - (t + 1)) := ⟨_, rfl⟩
      obtain ⟨p, hp⟩ : ∃ p, p = (ptN l n t).1 := ⟨_, rfl⟩
      rw [← hs] at c0 r0
      rw [← hp] at rp lp ip HO
      have CT := Lib.hid (EN.out t s hs htn p bo ap bc cp wr r0 lp ip rp)
      have ST := Lib.hid (ptN_step HE.out hs hp)
      obtain ⟨m, hm⟩ : ∃ m, m = s.length := ⟨_, rfl⟩
      rw [← hm] at c0 CT ST
      obtain ⟨E, hE⟩ : ∃ E, E = enN s t p m := ⟨_, rfl⟩
      have N := enN_64 s t p m
      rw [← hE] at CT ST N
      have NN := Lib.hid N
      have LP := Lib.hid lp
      rw [← hp]
      rw [lp] at CT HO ⊢
      have TN := Lib.hid htn
      clear r0 rp rb ip hs hp hm hE N lp
      go_wp2_with fail
      refine CT.out.mono ?_
      rintro e w2 ⟨hb, (⟨he, rfl⟩ | ⟨he, rfl⟩)⟩
      rotate_left
      · have e1 : ptN l n (t + 1) = ([], E.2) := by rw [ST.out, if_pos he]
        have e2 : (ptN l n n).2 = E.2 := by rw [ptN_end (t := t + 1) (by omega) (by rw [e1]; exact he), e1]
        go_wp2_with fail
        exact And.intro rfl ⟨below_on HB.out hb, Or.inr ⟨by rw [PF.out, e2]; exact he, by rw [PF.out, e2]⟩⟩
      have HB2 := Lib.hid (below_on HB.out hb)
      have HO2 := Lib.hid (HO.out.on hb)
      have Z1 := Lib.hid he
      clear hb he c0
      go_wp2_with fail
      refine (between_any E.1.1 E.1.2 w2 NN.out.1 NN.out.2).mono ?_
      rintro e w3 ⟨hb, (⟨he, rfl⟩ | ⟨he, rfl⟩)⟩
      rotate_left
      · have e1 : ptN l n (t + 1) = ([], btE E.1.1 E.1.2) := by rw [ST.out, if_neg (fun q => q Z1.out), if_pos he]
        have e2 : (ptN l n n).2 = btE E.1.1 E.1.2 := by rw [ptN_end (t := t + 1) (by omega) (by rw [e1]; exact he), e1]
        go_wp2_with fail
        exact And.intro rfl ⟨below_on HB2.out hb, Or.inr ⟨by rw [PF.out, e2]; exact he, by rw [PF.out, e2]⟩⟩
      have e1 := Lib.hid (show ptN l n (t + 1) = (p ++ [btV E.1.1 E.1.2], 0) by rw [ST.out, if_neg (fun q => q Z1.out), if_neg (fun q => q he)])
      obtain ⟨x, hx⟩ : ∃ x, x = btV E.1.1 E.1.2 := ⟨_, rfl⟩
      rw [← hx] at e1 ⊢
      have B4 := Lib.hid (one_more (w1 := w3) (.cells #[.int .i64 x.1, .int .i64 x.2] 50))
      have Q4 := Lib.hid (show QAt (w3.alloc (.cells #[.int .i64 x.1, .int .i64 x.2] 50)) ⟨w3.heap.size, 0, none⟩ x from (Pair.made w3 x.1 x.2 _).qAt)
      have HB4 := Lib.hid (below_on (below_on HB2.out hb) B4.out)
      have HO4 := Lib.hid ((HO2.out.on hb).on B4.out)
      have z4 := HB4.out.size
      clear hx hb he HO HO2 HB HB2
      go_wp2_with (at_builtin; refine wpl_appQ rfl _ _ rfl w.heap.size _ p x rfl HO4.out _ _ rfl Q4.out (by have := LP.out; have := TN.out; omega) z4 ?_)
      intro v' w5 o5 g5 f5
      have BG := Lib.hid (Below.grown HB4.out g5 HB4.out.size (fun k hk => (World.ownsRow.lt HO4.out k hk).1))
      have OG := Lib.hid o5
      clear o5 g5 f5 z4
      go_wp2_with fail
      go_roundw
      case rel => exact ⟨t + 1, by go_num, by omega, Lib.hid (by rw [e1.out]), BG, Lib.hid (by rw [e1.out]; exact OG.out)⟩
      case measure => simp [intOf]; omega
    · obtain rfl : t = n := by omega
      have PR := Lib.hid (show PtR w (ptN l t t).1 (.slice ap (ptN l t t).1.length cp) wr from ⟨ap, cp, rfl, rp, fun a e => (rb a e).1⟩)
      rw [lp] at PR ⊢
      clear rp rb lp ip
      go_wp2_with fail
      go_ret
      exact ⟨HB.out, Or.inl ⟨by rw [PF.out]; exact HE.out, _, rfl, PR.out⟩⟩
end Go.Proofs.YtefpaobboimakaaGreat

namespace Go.Proofs.YtefpaobboimakaaGreat
open Go.RowKit Go.Sort Go.Shelf

theorem run_bs2 (x y : Ln) (hx : x.a.length = 6) (hy : y.a.length = 6) (w : World) : (Instr.buildSlice 66 2 #[(0, .agg x.cs), (1, .agg y.cs)]).run Tryz.prog w = .ok (.slice (some ⟨w.heap.size, 0, none⟩) 2 2) (w.alloc (.cells (x.cs ++ y.cs) 82)) := by
  have hz := (zero_of_info ln_info).1 w
  have hs := size_of ln_size w
  obtain ⟨a, b, s⟩ := x
  obtain ⟨c, d, r⟩ := y
  match a, hx, c, hy with
  | [a0, a1, a2, a3, a4, a5], _, [c0, c1, c2, c3, c4, c5], _ =>
    simp [go_sem, Instr.buildSlice, run_underlying Tryz.underlying66, hs, hz, Ln.cs, Ln.cells, ln0, Instr.fill]

theorem wp_bs2 {w : World} {o : Oper} {a : Act} {K : Act → World → Prop} {Q : Exit → Act → World → Prop} (s t : Operand) (ho : o.op = .buildSlice 66 2 #[(0, s), (1, t)]) (x y : Ln) (hs : a.eval s = .agg x.cs) (ht : a.eval t = .agg y.cs) (hx : x.a.length = 6) (hy : y.a.length = 6)
    (h : K (a.put o.dst (.slice (some ⟨w.heap.size, 0, none⟩) 2 2)) (w.alloc (.cells (x.cs ++ y.cs) 82))) : o.wp Tryz.prog a w K Q := by
  have hv := run_bs2 x y hx hy w
  generalize x.cs = X at *
  generalize y.cs = Y at *
  unfold Oper.wp execOp
  simp only [ho]
  simp [hs, ht, hv, Result.andThen]
  exact h

theorem two_at (w : World) (x y : Ln) (hx : x.a.length = 6) (hy : y.a.length = 6) : ∀ j u, (x.cells ++ y.cells)[j]? = some u → (w.alloc (.cells (x.cs ++ y.cs) 82)).cell? ((⟨w.heap.size, 0, none⟩ : Addr).add j) = some u := fun j u hu => by
  rw [addr_add, Nat.zero_add, cell_of_row _ w.heap.size j _ _ _ (heap_alloc_last w _)]
  have : (x.cs ++ y.cs) = ⟨x.cells ++ y.cells⟩ := by simp [Ln.cs]
  rw [this]; simpa using hu

theorem rd_flat {w : World} {pb : Nat} {l : List Ln} (h : RdL w (some ⟨pb, 0, none⟩) l) (h6 : ∀ x ∈ l, x.a.length = 6) : ∀ j u, (l.flatMap Ln.cells)[j]? = some u → w.cell? ((⟨pb, 0, none⟩ : Addr).add j) = some u := fun j u hu => by
  have hj : j < l.length * 8 := by
    rw [← flat_len h6]
    by_cases q : j < (l.flatMap Ln.cells).length
    · exact q
    · rw [List.getElem?_eq_none (by omega)] at hu; cases hu
  have ht : j / 8 < l.length := by omega
  obtain ⟨a, e, _, c⟩ := h (j / 8) ht
  cases e
  have e2 : j = (j / 8) * 8 + j % 8 := by omega
  rw [e2, flat_at h6 ht (by omega)] at hu
  have := c (j % 8) u hu
  rw [e2, addr_add, Nat.zero_add]
  rw [addr_add, addr_add, Nat.zero_add] at this
  exact this

/-- 'append' of two lines to a list that is full. -/
theorem append2_run {w : World} {pb : Nat} {l : List Ln} (h : RdL w (some ⟨pb, 0, none⟩) l) (h6 : ∀ x ∈ l, x.a.length = 6) {x y : Ln} (hx : x.a.length = 6) (hy : y.a.length = 6) {b : Nat} (hn : ∀ j u, (x.cells ++ y.cells)[j]? = some u → w.cell? ((⟨b, 0, none⟩ : Addr).add j) = some u) (hle : l.length ≤ 1000000) (ty : TypeId) :
    ∃ v' w', (Builtin.append_ #[66, 66] ty #[.slice (some ⟨pb, 0, none⟩) l.length l.length, .slice (some ⟨b, 0, none⟩) 2 2]).run Tryz.prog w = .ok v' w' ∧ OwnL w' w.heap.size v' (l ++ [x, y]) ∧ Below w.heap.size w w' := by
  obtain ⟨i0, hi, hz0, hz1, hz2⟩ := info_parts ln_info3
  obtain ⟨v', w', hr, h2, h3⟩ := run_append_arg_grows (P := Tryz.prog) w 66 ty 82 i0 (.agg ln0.cs) 8 64 Tryz.underlying66 hi hz0 hz1 hz2 (by rfl) (by decide) ⟨pb, 0, none⟩ l.length l.length (l.flatMap Ln.cells) (flat_len h6) (rd_flat h h6)
    ⟨b, 0, none⟩ 2 2 (x.cells ++ y.cells) (by simp [Ln.cells_len hx, Ln.cells_len hy]) hn (by omega) (by unfold maxLen; omega) (by omega)
  refine ⟨v', w', hr, ⟨?_, fun z hz => ?_⟩, ⟨h3.os, h3.tape, h3.output, h3.size, fun k hk => h3.block k hk (by simp)⟩⟩
  · have e : (l ++ [x, y]).flatMap Ln.cells = l.flatMap Ln.cells ++ (x.cells ++ y.cells) := by simp [List.flatMap_append]
    rw [e]; simpa using h2
  · rcases List.mem_append.1 hz with h | h
    · exact h6 z h
    · simp at h; rcases h with rfl | rfl <;> assumption

/-- The line that says: the sum is at most the coordinate behind all others. -/
def goalL (n : Nat) (a : List Int) : Ln := ⟨(a ++ List.replicate (6 - a.length) 0).set n (-1), 0, false⟩

def infL (l : List Ln) (n : Nat) (a : List Int) : List Ln := l ++ [goalL n a, (goalL n a).times (-1)]

def infN (l : List Ln) (n : Nat) (a : List Int) : (En × En) × Int := enN (shL (infL l n a) n n) n [] (shL (infL l n a) n n).length

def infE (l : List Ln) (n : Nat) (a : List Int) : Int := if shE (infL l n a) n n ≠ 0 then shE (infL l n a) n n else if (infN l n a).2 ≠ 0 then (infN l n a).2 else if (infN l n a).1.1.ex then 0 else 4

def InfRes (w : World) (x : En) (er : Int) (e : Ending) (w' : World) : Prop := Below w.heap.size w w' ∧ ((er = 0 ∧ e = .returned (.agg x.cs)) ∨ (er ≠ 0 ∧ e = .panicked (pan er)))

theorem goal_rg {n : Nat} {a : List Int} (hl : a.length ≤ 6) (h : ∀ v ∈ a, -2147483647 ≤ v ∧ v ≤ 2147483647) : Rg 2147483647 (goalL n a) := by
  refine ⟨by simp [goalL]; omega, fun v hv => ?_, by simp [goalL]⟩
  rcases List.mem_or_eq_of_mem_set hv with q | q
  · rcases List.mem_append.1 q with q | q
    · exact h v q
    · have := List.eq_of_mem_replicate q; omega
  · omega

theorem results_en {fn : Func} {p : Tmp} (h : fn.results = #[.cell p 105]) (tmps : Array Value) {w : World} {b : Nat} {x : En}
    (hp : tmps.getD p undef = .pointer (some ⟨b, 0, none⟩)) (hx : EnB w b x) : (results fn tmps).run Tryz.prog w = .ok (.agg x.cs) w := by
  have hp' : tmps[p]?.getD undef = .pointer (some ⟨b, 0, none⟩) := by simpa using hp
  have h1 := en_load hx
  generalize x.cs = X at *
  simp [results, h, hp', asAddr, h1]

set_option maxRecDepth 100000 in
set_option maxHeartbeats 4000000 in
theorem infimum_any (l : List Ln) (pb : Nat) (n : Nat) (a : List Int) (q : Option Addr) (c : Nat) (w : World) (hn : n ≤ 5) (ha : a.length ≤ 6) (haB : ∀ v ∈ a, -2147483647 ≤ v ∧ v ≤ 2147483647) (hl : l.length ≤ 1900) (hg : ∀ x ∈ l, Rg 2147483647 x) (hR : RdL w (some ⟨pb, 0, none⟩) l) (hA : Rd1 w q a) :
    Calls Tryz.prog 82 #[.int .i64 n, .slice (some ⟨pb, 0, none⟩) l.length l.length, .slice q a.length c] w (InfRes w (infN l n a).1.1 (infE l n a)) := by
  have hz := ln_zero
  obtain ⟨g, hG⟩ : ∃ g, g = goalL n a := ⟨_, rfl⟩
  have GR := Lib.hid (show Rg 2147483647 g by rw [hG]; exact goal_rg ha haB)
  have TR := Lib.hid (show Rg 2147483647 (g.times (-1)) from (GR.out.times (c := -1) (k := 1) (by omega) (by omega) (by omega)).mono (by omega))
  obtain ⟨l2, hl2⟩ : ∃ l2, l2 = infL l n a := ⟨_, rfl⟩
  have L2 := Lib.hid (show l2 = l ++ [g, g.times (-1)] by rw [hl2, hG]; rfl)
  have SH := Lib.hid (fun W ao d (h : RdL W ao l2) => shadows_any l2 ao d n W (by rw [L2.out]; simp; omega) (by omega) h (fun x hx => by
    rw [L2.out] at hx
    rcases List.mem_append.1 hx with h | h
    · exact hg x h
    · simp at h; rcases h with rfl | rfl
      · exact GR.out
      · exact TR.out))
  have OK := Lib.hid (fun (h : shE l2 n n = 0) => shL_ok (l := l2) (n := n) (by rw [L2.out]; simp; omega) (fun x hx => by
    rw [L2.out] at hx
    rcases List.mem_append.1 hx with h | h
    · exact hg x h
    · simp at h; rcases h with rfl | rfl
      · exact GR.out
      · exact TR.out) n h)
  have RL := Lib.hid (fun W (h : Below w.heap.size w W) => hR.on h)
  have L6 := Lib.hid (fun x hx => (hg x hx).len)
  have LO := Lib.hid (fun W (h : Below w.heap.size w W) => lineOf_any (AV.mk q c a 0 false) W ha (hA.on h))
  have OL := Lib.hid (show (ofV (AV.mk q c a 0 false)).a.length = 6 by simp [ofV]; omega)
  have OG := Lib.hid (show { ofV (AV.mk q c a 0 false) with a := (ofV (AV.mk q c a 0 false)).a.set n (-1) } = g by rw [hG]; rfl)
  have TM := Lib.hid (fun W => times_any g (-1) W GR.out.len (fun v hv => by have := GR.out.a v hv; unfold I64; omega) (by have := GR.out.b; unfold I64; omega))
  obtain ⟨sh, hsh⟩ : ∃ sh, sh = shL l2 n n := ⟨_, rfl⟩
  obtain ⟨N, hN⟩ : ∃ N, N = enN sh n [] sh.length := ⟨_, rfl⟩
  have HN := Lib.hid (show infN l n a = N by rw [hN, hsh, hl2]; rfl)
  have HE := Lib.hid (show infE l n a = if shE l2 n n ≠ 0 then shE l2 n n else if N.2 ≠ 0 then N.2 else if N.1.1.ex then 0 else 4 by unfold infE; rw [HN.out, hl2])
  have EN := Lib.hid (fun W bo d (h0 : shE l2 n n = 0) (h : RdL W bo sh) => ends_any sh n [] bo none d 0 W (by rw [hsh]; have := (OK.out h0).1; omega) h (by rw [hsh]; exact (OK.out h0).2) (by omega) (by simp) (fun t ht => by simp at ht) (fun t ht => by simp at ht))
  rw [← hN] at EN
  have hn6 : (n : Int) < 6 := by omega
  have HSH := Lib.hid hsh
  rw [HN.out]
  generalize infE l n a = ER at *
  obtain ⟨m, hm⟩ : ∃ m, m = l.length := ⟨_, rfl⟩
  obtain ⟨k, hk⟩ : ∃ k, k = a.length := ⟨_, rfl⟩
  rw [← hm, ← hk]
  have LM := Lib.hid hm
  have LK := Lib.hid hk
  have M1 := Lib.hid hl
  have N5 := Lib.hid hn
  clear hG hl2 hl hg hR hA ha haB hsh hN HN hn hm hk
  obtain ⟨w0, hw0⟩ : ∃ w0, w0 = w.alloc (.cells #[.int .i64 0, .int .i64 0, .bool false, .bool false] 105) := ⟨_, rfl⟩
  have E0 := Lib.hid (show Below w.heap.size w w0 by rw [hw0]; exact one_more _)
  have X0 := Lib.hid (show EnB w0 w.heap.size en0 by rw [hw0]; exact EnB.made w en0)
  go_enter Tryz.func82, Tryz.ntmps82
  go_upto_region 1 with (fail)
  rw [← hw0]
  clear hw0
  rw [LK.out]
  go_wp2_with fail
  refine (LO.out w0 E0.out).mono ?_
  rintro e w1 ⟨rfl, hb⟩
  obtain ⟨y, hy⟩ : ∃ y, y = ofV (AV.mk q c a 0 false) := ⟨_, rfl⟩
  rw [← hy] at OL OG ⊢
  rw [← LK.out]
  have N1 := Lib.hid (show Bk (w1.alloc (.cells ln0.cs 82)) w1.heap.size ln0 from Bk.made w1 ln0 rfl)
  have N2 := Lib.hid (N1.out.setRow OL.out)
  have B2 := Lib.hid (below_on hb (Below.setRow ((Below.refl w1.heap.size w1).alloc (Nat.le_refl _) (.cells ln0.cs 82)) (b := w1.heap.size) (Nat.le_refl _) y.cs))
  have Z1 := Lib.hid hb.size
  clear hy hb LO
  go_upto_region 2 with (refine wpl_store rfl _ _ rfl _ _ rfl rfl _ N1.out OL.out ?_)
  generalize (w1.alloc (.cells ln0.cs 82)).setRow w1.heap.size y.cs = w2 at *
  obtain ⟨q7, hq⟩ : ∃ q7, q7 = w1.heap.size := ⟨_, rfl⟩
  rw [← hq] at N2 Z1 ⊢
  have f0 := N2.out.at (j := n) (by have := N5.out; omega)
  have f1 := N2.out.free n
  have K3 := Lib.hid (show Bk (w2.setCell ⟨q7, n, none⟩ (.int .i64 (-1))) q7 g by rw [← OG.out]; exact N2.out.put (by have := N5.out; omega) (-1))
  have B3 := Lib.hid (show Below w0.heap.size w0 (w2.setCell ⟨q7, n, none⟩ (.int .i64 (-1))) from B2.out.setCell Z1.out _)
  clear N1 N2 B2 hq
  go_upto_region 3 with (fail)
  clear f0 f1
  generalize w2.setCell ⟨q7, n, none⟩ (.int .i64 (-1)) = w3 at *
  have KS := Lib.hid (show ∀ W, Below w3.heap.size w3 W → (Bk W q7 g ∧ True) from fun W h => ⟨K3.out.kept h, trivial⟩)
  obtain ⟨wc, hwc⟩ : ∃ wc, wc = w3.drew := ⟨_, rfl⟩
  have Bc := Lib.hid (show Below w3.heap.size w3 wc by rw [hwc]; exact (Below.refl _ _).drew)
  refine wp_region_held_drew (S := (fun W => (Bk W q7 g ∧ True))) (by kernel_rfl) (by rw [← hwc]; exact KS.out _ Bc.out) (fun h0 => ?_)
  rw [← hwc] at h0 ⊢
  clear hwc
  refine wpAnyH_take (i := 0) (v := ?v1) rfl (by kernel_rfl) (by kernel_rfl) (by kernel_rfl) (fun _ _ _ h => h) (Or.inl ⟨by rfl, ?hy1⟩) h0 ?rest1
  case hy1 => (intro w' hS; (try dsimp only at hS); go_simp; try (with_reducible rfl))
  simp only [Act.put, List.getElem_toArray, List.getElem_cons_zero, List.setIfInBounds_toArray, List.set_cons_zero, List.set_cons_succ]
  refine wpAnyH_take (i := 1) (v := ?v2) rfl (by kernel_rfl) (by kernel_rfl) (by kernel_rfl) (fun _ _ _ h => h) (Or.inl ⟨by rfl, ?hy2⟩) h0 ?rest2
  case hy2 => (intro w' hS; (try dsimp only at hS); go_simp; try (with_reducible rfl))
  simp only [Act.put, List.getElem_toArray, List.getElem_cons_zero, List.getElem_cons_succ, List.setIfInBounds_toArray, List.set_cons_zero, List.set_cons_succ]
  refine wpAnyH_take (i := 2) (v := (.agg g.cs)) rfl (by kernel_rfl) (by kernel_rfl) (by kernel_rfl) (fun _ _ _ h => h) (Or.inl ⟨by rfl, fun w' hS => yld_loadL _ rfl _ rfl hS.1⟩) h0 ?_
  simp only [Act.put, List.getElem_toArray, List.getElem_cons_zero, List.getElem_cons_succ, List.setIfInBounds_toArray, List.set_cons_zero, List.set_cons_succ]
  refine wpAnyH_take (i := 3) (v := (.agg g.cs)) rfl (by kernel_rfl) (by kernel_rfl) (by kernel_rfl) (fun _ _ _ h => h) (Or.inl ⟨by rfl, fun w' hS => yld_loadL _ rfl _ rfl hS.1⟩) h0 ?_
  simp only [Act.put, List.getElem_toArray, List.getElem_cons_zero, List.getElem_cons_succ, List.setIfInBounds_toArray, List.set_cons_zero, List.set_cons_succ]
  refine wpAnyH_ready (rs := [4]) (by kernel_rfl) (by simp) (AllReadyH.cons rfl (fun K hK => ?_) AllReadyH.nil)
  rw [if_pos (by rfl)]
  go_simp
  refine (TM.out wc).mono ?_
  rintro e wc ⟨rfl, hb⟩
  have Bc := Lib.hid (below_on Bc.out hb)
  clear hb
  go_simp
  refine hK.out _ _ (KS.out _ Bc.out) (fun h0_1 => ?_)
  clear hK K h0
  refine wpAnyH_ready (rs := [5]) (by kernel_rfl) (by simp) (AllReadyH.cons rfl (fun K hK => ?_) AllReadyH.nil)
  rw [if_pos (by rfl)]
  obtain ⟨wd, hwd⟩ : ∃ wd, wd = wc.alloc (.cells (g.cs ++ (g.times (-1)).cs) 82) := ⟨_, rfl⟩
  refine wp_bs2 _ _ rfl g (g.times (-1)) rfl rfl GR.out.len TR.out.len ?_
  rw [← hwd]
  have hb : Below wc.heap.size wc wd := by rw [hwd]; exact one_more _
  have YL := Lib.hid (show ∀ j u, (g.cells ++ (g.times (-1)).cells)[j]? = some u → wd.cell? ((⟨wc.heap.size, 0, none⟩ : Addr).add j) = some u by rw [hwd]; exact two_at wc g (g.times (-1)) GR.out.len TR.out.len)
  have Bc := Lib.hid (below_on Bc.out hb)
  clear hb hwd
  try simp only [Act.put, List.getElem_toArray, List.getElem_cons_zero, List.getElem_cons_succ, List.setIfInBounds_toArray, List.set_cons_zero, List.set_cons_succ]
  refine hK.out _ _ (KS.out _ Bc.out) (fun h0_2 => ?_)
  clear hK K h0_1
  refine wpAnyH_ready (rs := [6]) (by kernel_rfl) (by simp) (AllReadyH.cons rfl (fun K hK => ?_) AllReadyH.nil)
  rw [if_pos (by rfl)]
  obtain ⟨v2, we, hrun, ho2, hb⟩ := append2_run (RL.out wd (below_on E0.out (below_on B3.out Bc.out))) L6.out GR.out.len TR.out.len YL.out (by have := M1.out; omega) 66
  rw [← LM.out] at hrun
  refine Lib.wp_append_run _ _ _ 66 66 rfl (.slice (some ⟨pb, 0, none⟩) m m) (.slice (some ⟨wc.heap.size, 0, none⟩) 2 2) rfl rfl _ _ hrun ?_
  have O2 := Lib.hid (show OwnL we wd.heap.size v2 l2 by rw [L2.out]; exact ho2)
  have Bc := Lib.hid (below_on Bc.out hb)
  obtain ⟨a2, c2, e2⟩ := O2.out.form
  subst e2
  clear hrun ho2 hb
  try simp only [Act.put, List.getElem_toArray, List.getElem_cons_zero, List.getElem_cons_succ, List.setIfInBounds_toArray, List.set_cons_zero, List.set_cons_succ]
  refine hK.out _ _ (KS.out _ Bc.out) (fun h0_3 => ?_)
  clear hK K h0_2
  refine wpAnyH_ready (rs := [7]) (by kernel_rfl) (by simp) (AllReadyH.cons rfl (fun K hK => ?_) AllReadyH.nil)
  rw [if_pos (by rfl)]
  go_simp
  refine (SH.out we a2 c2 O2.out.rd).mono ?_
  rintro e wf (⟨he, b3, cs3, rfl, hs⟩ | ⟨he, rfl, hb⟩)
  rotate_left
  · exact And.intro rfl ⟨below_on E0.out (below_on B3.out (below_on Bc.out hb)), Or.inr (by rw [HE.out, if_pos he]; exact ⟨he, rfl⟩)⟩
  have HZ := Lib.hid he
  obtain ⟨a3, d3, e3, r3⟩ := hs.hi 0 (by omega) (by omega)
  have g3 := Lib.hid ((hs.cell 0).trans e3)
  have R3 := Lib.hid (show RdL wf a3 sh by rw [HSH.out]; simpa using r3)
  have Bc := Lib.hid (below_on Bc.out hs.be)
  have g3 := Lib.hid (show wf.cell? ⟨b3, 0, none⟩ = some (.slice a3 sh.length d3) by rw [HSH.out]; simpa using g3.out)
  clear hs e3 r3 he
  go_simp
  refine hK.out _ _ (KS.out _ Bc.out) (fun h0_4 => ?_)
  clear hK K h0_3
  refine wpAnyH_take (i := 8) (v := ?v5) rfl (by kernel_rfl) (by kernel_rfl) (by kernel_rfl) (fun _ _ _ h => h) (Or.inl ⟨by rfl, ?hy5⟩) h0_4 ?rest5
  case hy5 => (intro w' hS; (try dsimp only at hS); go_simp; try (with_reducible rfl))
  simp only [Act.put, List.getElem_toArray, List.getElem_cons_zero, List.getElem_cons_succ, List.setIfInBounds_toArray, List.set_cons_zero, List.set_cons_succ]
  refine wpAnyH_ready (rs := [9]) (by kernel_rfl) (by simp) (AllReadyH.cons rfl (fun K hK => ?_) AllReadyH.nil)
  rw [if_pos (by rfl)]
  go_simp
  have g3o := g3.out
  go_simp
  refine hK.out _ _ (KS.out _ Bc.out) (fun h0_5 => ?_)
  clear hK K h0_4
  refine wpAnyH_take (i := 10) (v := ?v6) rfl (by kernel_rfl) (by kernel_rfl) (by kernel_rfl) (fun _ _ _ h => h) (Or.inl ⟨by rfl, ?hy6⟩) h0_5 ?rest6
  case hy6 => (intro w' hS; (try dsimp only at hS); go_simp; try (with_reducible rfl))
  simp only [Act.put, List.getElem_toArray, List.getElem_cons_zero, List.getElem_cons_succ, List.setIfInBounds_toArray]
  try simp only [List.set_cons_succ]
  try simp only [List.set_cons_zero]
  refine wpAnyH_done (by kernel_rfl) ?_ _
  have BW := Lib.hid (below_on E0.out (below_on B3.out Bc.out))
  have X1 := Lib.hid (X0.out.kept (below_on B3.out Bc.out))
  obtain ⟨ms, hms⟩ : ∃ ms, ms = sh.length := ⟨_, rfl⟩
  have CE := Lib.hid (EN.out wf a3 d3 HZ.out R3.out)
  rw [← hms] at CE ⊢
  clear hms g3 R3 KS
  go_wp2_with fail
  refine CE.out.mono ?_
  rintro e w5 ⟨hb, (⟨he, rfl⟩ | ⟨he, rfl⟩)⟩
  rotate_left
  · go_wp2_with fail
    exact And.intro rfl ⟨below_on BW.out hb, Or.inr (by rw [HE.out, if_neg (fun q => q HZ.out), if_pos he]; exact ⟨he, rfl⟩)⟩
  have H5 := Lib.hid he
  have BW5 := Lib.hid (below_on BW.out hb)
  have X5 := Lib.hid (X1.out.kept hb)
  obtain ⟨lo, hlo⟩ : ∃ lo, lo = N.1.1 := ⟨_, rfl⟩
  obtain ⟨up, hup⟩ : ∃ up, up = N.1.2 := ⟨_, rfl⟩
  rw [← hlo, ← hup]
  rw [← hlo] at HE
  have HLO := Lib.hid hlo
  clear hb he hup BW X1 hlo
  obtain ⟨w6, hw6⟩ : ∃ w6, w6 = (w5.alloc (.cells #[.int .i64 0, .int .i64 0, .bool false, .bool false] 105)).alloc (.cells #[.int .i64 0, .int .i64 0, .bool false, .bool false] 105) := ⟨_, rfl⟩
  have Y0 := Lib.hid (show EnB w6 w5.heap.size en0 by rw [hw6]; exact (EnB.made w5 en0).kept (one_more _))
  have Y1 := Lib.hid (show EnB w6 (w5.heap.size + 1) en0 by rw [hw6]; have := EnB.made (w5.alloc (.cells #[.int .i64 0, .int .i64 0, .bool false, .bool false] 105)) en0; simpa [en0, En.cs, En.cells] using this)
  have BW6 := Lib.hid (show Below w.heap.size w w6 by rw [hw6]; exact below_on BW5.out (past_two (Below.refl _ _)))
  have X6 := Lib.hid (show EnB w6 w.heap.size en0 by rw [hw6]; exact (X5.out.kept (one_more _)).kept (one_more _))
  have Z5 := Lib.hid (show w.heap.size < w5.heap.size from X5.out.lt)
  have Y2 := Lib.hid (Y0.out.setRow (y := lo))
  have Y3 := Lib.hid (show EnB (w6.setRow w5.heap.size lo.cs) (w5.heap.size + 1) en0 from (setRow_other w6 _ _ lo.cs (by omega)).trans Y1.out)
  have Y4 := Lib.hid (show EnB ((w6.setRow w5.heap.size lo.cs).setRow (w5.heap.size + 1) up.cs) w5.heap.size lo from (setRow_other _ _ _ up.cs (by omega)).trans Y2.out)
  have X7 := Lib.hid (show EnB ((w6.setRow w5.heap.size lo.cs).setRow (w5.heap.size + 1) up.cs) w.heap.size en0 from (setRow_other _ _ _ up.cs (by have := Z5.out; omega)).trans ((setRow_other w6 _ _ lo.cs (by have := Z5.out; omega)).trans X6.out))
  have BW7 := Lib.hid (Below.setRow (Below.setRow BW6.out (b := w5.heap.size) (by have := Z5.out; omega) lo.cs) (b := w5.heap.size + 1) (by have := Z5.out; omega) up.cs)
  go_upto_region 5 with (first | (rw [← hw6]; refine wpList_store_row rfl _ _ _ rfl w5.heap.size lo.cs rfl rfl _ _ Y0.out zero_en rfl (En.one _) ?_) | refine wpList_store_row rfl _ _ _ rfl (w5.heap.size + 1) up.cs rfl rfl _ _ Y3.out zero_en rfl (En.one _) ?_)
  generalize (w6.setRow w5.heap.size lo.cs).setRow (w5.heap.size + 1) up.cs = w7 at *
  obtain ⟨q9, hq9⟩ : ∃ q9, q9 = w5.heap.size := ⟨_, rfl⟩
  rw [← hq9] at Y4 ⊢
  clear Y0 Y1 Y2 Y3 X6 BW6 hw6 hq9 Z5
  obtain ⟨f0, f1, f2, f3⟩ := Y4.out.facts
  cases hex : lo.ex
  · rw [hex] at f2
    go_wp2_with fail
    exact And.intro rfl ⟨BW7.out, Or.inr (by rw [HE.out, if_neg (fun q => q HZ.out), if_neg (fun q => q H5.out), hex]; exact ⟨by decide, rfl⟩)⟩
  · rw [hex] at f2
    have X8 := Lib.hid (X7.out.setRow (y := lo))
    have BW8 := Lib.hid (Below.setRow BW7.out (b := w.heap.size) (Nat.le_refl _) lo.cs)
    go_wp2_with (first | refine wpList_load_row rfl _ _ rfl q9 rfl _ lo.cs (0, 0) _ Y4.out Tryz.underlying105 rfl zero_en ?_ | refine wpList_store_row rfl _ _ _ rfl w.heap.size lo.cs rfl rfl _ _ X7.out zero_en rfl (En.one _) ?_)
    exact bodyPost_ret (results_en Tryz.results82 _ rfl X8.out) rfl ⟨BW8.out, Or.inl ⟨by rw [HE.out, if_neg (fun q => q HZ.out), if_neg (fun q => q H5.out), hex]; rfl, by rw [HLO.out]⟩⟩
end Go.Proofs.YtefpaobboimakaaGreat

namespace Go.Proofs.YtefpaobboimakaaGreat
open Go.RowKit Go.Sort Go.Shelf

set_option maxRecDepth 20000 in
theorem catchE_panic (b : Nat) (er : Int) (x : Value) (w : World) (hc : Bx1 w b x 32) (hx : w.cell? ⟨b, 0, none⟩ = some x) :
    CallsD Tryz.prog 115 #[.pointer (some ⟨b, 0, none⟩)] (.panicking (pan er)) w fun e u' w' =>
      e = .returned (.tuple #[]) ∧ u' = .panicking [{ v := .iface 32 (.int .i64 er), recovered := true }] ∧ w' = w.setCell ⟨b, 0, none⟩ (.int .i64 er) := by
  have hz := hc.free
  have hta : ∀ w : World, (Instr.typeAssert (.iface 32 (.int .i64 er)) 20 32 false).run Tryz.prog w = .ok (.int .i64 er) w := fun _ => by kernel_rfl
  unfold pan
  refine callsD_of_wpS Tryz.func115 rfl fun c₀ cs hu => ?_
  apply wpS_seq
  apply wpS_region
  simp [wpOpsS, go_sem, recoverD, hu, Tryz.ntmps115, Exit.thenS]
  refine wpS_of_wp ?_
  show Code.wp _ _ _ { tmps := #[.pointer (some ⟨b, 0, none⟩), .iface 32 (.int .i64 er), .iface 32 (.int .i64 er), undef, undef, undef, undef], defers := [] } _
  go_wp2
  cases c₀
  simp_all [bodyPostS, results, Tryz.results115]

set_option maxRecDepth 20000 in
theorem catchE_idle (b : Nat) (w : World) :
    CallsD Tryz.prog 115 #[.pointer (some ⟨b, 0, none⟩)] .returning w fun e u' w' => e = .returned (.tuple #[]) ∧ u' = .returning ∧ w' = w := by
  refine callsD_of_wpS Tryz.func115 rfl fun c₀ cs hu => ?_
  apply wpS_seq
  apply wpS_region
  simp [wpOpsS, go_sem, recoverD, hu, Tryz.ntmps115, Exit.thenS]
  refine wpS_of_wp ?_
  show Code.wp _ _ _ { tmps := #[.pointer (some ⟨b, 0, none⟩), .nilIface, .nilIface, undef, undef, undef, undef], defers := [] } _
  go_wp2
  cases c₀
  simp_all [bodyPostS, results, Tryz.results115]

theorem results_ee {fn : Func} {p q : Tmp} (h : fn.results = #[.cell p 105, .cell q 32]) (tmps : Array Value) {w : World} {b c : Nat} {x : En} {er : Int}
    (hp : tmps.getD p undef = .pointer (some ⟨b, 0, none⟩)) (hq : tmps.getD q undef = .pointer (some ⟨c, 0, none⟩)) (hx : EnB w b x) (hy : w.cell? ⟨c, 0, none⟩ = some (.int .i64 er)) : (results fn tmps).run Tryz.prog w = .ok (.tuple #[.agg x.cs, .int .i64 er]) w := by
  have hp' : tmps[p]?.getD undef = .pointer (some ⟨b, 0, none⟩) := by simpa using hp
  have hq' : tmps[q]?.getD undef = .pointer (some ⟨c, 0, none⟩) := by simpa using hq
  obtain ⟨a0, a1, a2, a3⟩ := hx.facts
  simp [results, h, hp', hq', go_sem, a0, a1, a2, a3, hy, En.cs, En.cells]

set_option maxRecDepth 100000 in
set_option maxHeartbeats 4000000 in
theorem answerE_any (g : FuncId) (lb : Array Value) (n : Int) (go : Option Addr) (gc : Nat) (G : List (List AV)) (er : Int) (x : En) (w : World) (hgl : G.length ≤ 1000) (hG : RdG w go G)
    (eg : ∀ args w, (callFunc g args).run Tryz.prog w = .ok (.enter g args) w)
    (hw : (∀ L ∈ G, chkP n L = 0) → ∀ W, Below w.heap.size w W → Calls Tryz.prog g lb W fun e W' => (er = 0 ∧ e = .returned (.agg x.cs) ∧ Below W.heap.size W W') ∨ (er ≠ 0 ∧ e = .panicked (pan er) ∧ Below W.heap.size W W')) :
    Calls Tryz.prog 79 #[.func (.func g) #[] lb, .int .i64 n, .slice go G.length gc] w (fun e w' => Below w.heap.size w w' ∧ e = .returned (.tuple #[.agg (if ansE n G er = 0 then x else en0).cs, .int .i64 (ansE n G er)])) := by
  have hmf : ∀ (fn : Fn) (first cap : Array Value) (w : World), (Instr.makeFunc fn first cap).run Tryz.prog w = .ok (.func fn first cap) w := fun _ _ _ _ => rfl
  have HG := Lib.hid hG
  have HW := Lib.hid hw
  obtain ⟨Y, hY⟩ : ∃ Y, Y = (if ansE n G er = 0 then x else en0) := ⟨_, rfl⟩
  have YY := Lib.hid hY
  rw [← hY]
  clear hY
  obtain ⟨m, hm⟩ : ∃ m, m = G.length := ⟨_, rfl⟩
  have HM := Lib.hid hm
  have hle : m ≤ 1000 := by omega
  rw [← hm]
  obtain ⟨w0, hw0⟩ : ∃ w0, w0 = (w.alloc (.cells #[.int .i64 0, .int .i64 0, .bool false, .bool false] 105)).alloc (.cells #[.int .i64 0] 32) := ⟨_, rfl⟩
  have E0 := Lib.hid (show Below w.heap.size w w0 by rw [hw0]; exact past_two (Below.refl _ _))
  have Y0 := Lib.hid (show EnB w0 w.heap.size en0 by rw [hw0]; exact (EnB.made w en0).kept (one_more _))
  have X0 := Lib.hid (show Bx1 w0 (w.heap.size + 1) (.int .i64 0) 32 by rw [hw0]; have := Bx1.made (w.alloc (.cells #[.int .i64 0, .int .i64 0, .bool false, .bool false] 105)) (.int .i64 0) 32; simpa using this)
  obtain ⟨q, hq⟩ : ∃ q, q = w.heap.size := ⟨_, rfl⟩
  have HQ := Lib.hid hq
  clear hgl hG hw hm
  go_enter_defers Tryz.func79, Tryz.ntmps79
  go_upto_region 2 with (fail)
  rw [← hw0]
  rw [← hq] at X0 Y0 ⊢
  clear hw0 hq
  go_wp2_with fail
  go_loopw [14] (fun s wr => ∃ t : Nat, s = .int .i64 t ∧ t ≤ m ∧ Hid (∀ i, ∀ q : i < G.length, i < t → chkP n G[i] = 0) ∧ Hid (Below w.heap.size w wr) ∧ Hid (Bx1 wr (q + 1) (.int .i64 0) 32) ∧ Hid (EnB wr q en0)) (fun s _ => m - (intOf s).toNat)
  case atStart => exact ⟨0, rfl, by omega, Lib.hid (fun i q h => by omega), E0, X0, Y0⟩
  case round =>
    obtain ⟨t, rfl, ht, HF, HBB, HX, HY⟩ := hrel
    by_cases htm : t < m
    · have hlt : t < G.length := by have := HM.out; omega
      obtain ⟨p, a, c, e, f0, r0⟩ := (HG.out.on HBB.out) t hlt
      have HL := Lib.hid hlt
      obtain ⟨L, hL⟩ : ∃ L, L = G[t] := ⟨_, rfl⟩
      have f : wr.cell? (p.add t) = some (.slice a L.length c) := by rw [hL]; exact f0
      have r : RdV wr a L := by rw [hL]; exact r0
      have CK := Lib.hid (check_any n L a c wr r)
      obtain ⟨k, hk⟩ : ∃ k, k = L.length := ⟨_, rfl⟩
      obtain ⟨z, hz⟩ : ∃ z, z = chkP n L := ⟨_, rfl⟩
      have HZ := Lib.hid (show z = chkP n G[t] by rw [hz, hL])
      rw [← hk, ← hz] at CK
      rw [← hk] at f
      clear r hk hz f0 r0 hL hlt
      subst e
      go_wp2_with fail
      refine CK.out.mono ?_
      rintro e w1 ⟨rfl, hb1⟩
      have B1 := Lib.hid (below_on HBB.out hb1)
      have X1 := Lib.hid (HX.out.kept hb1)
      have Y1 := Lib.hid (HY.out.kept hb1)
      clear hb1 f
      by_cases hz0 : z = 0
      · have HF' := Lib.hid (show ∀ i, ∀ q : i < G.length, i < t + 1 → chkP n G[i] = 0 from fun i q h => by
          by_cases e : i = t
          · subst e; exact HZ.out.symm.trans hz0
          · exact HF.out i q (by omega))
        clear HZ
        subst hz0
        go_wp2_with fail
        go_roundw
        case rel => exact ⟨t + 1, by go_num, by omega, HF', B1, X1, Y1⟩
        case measure => simp [intOf]; omega
      · have AE := Lib.hid (show ansE n G er = z from (ansE_at HL.out HF.out (fun h => hz0 (HZ.out.trans h))).trans HZ.out.symm)
        have Y2 := Lib.hid (Y1.out.setRow (y := en0))
        have X2 := Lib.hid (show Bx1 (w1.setRow q en0.cs) (q + 1) (.int .i64 0) 32 from X1.out.of_block (setRow_other w1 q (q + 1) en0.cs (by omega)))
        have B2 := Lib.hid (Below.setRow B1.out (b := q) (by have := HQ.out; omega) en0.cs)
        have x1 := X2.out.cell
        have x2 := X2.out.free
        have X3 := Lib.hid (X2.out.put (.int .i64 z))
        have Y3 := Lib.hid (Y2.out.aside (y := q + 1) (j := 0) (by omega) (.int .i64 z))
        have B3 := Lib.hid (B2.out.setCell (p := ⟨q + 1, 0, none⟩) (by have := HQ.out; show w.heap.size ≤ q + 1; omega) (.int .i64 z))
        have HZ0 := Lib.hid hz0
        go_wp2_with (first | refine wpList_load_row rfl _ _ rfl q rfl _ en0.cs (0, 0) _ Y1.out Tryz.underlying105 rfl zero_en ?_ | refine wpList_store_row rfl _ _ _ rfl q en0.cs rfl rfl _ _ Y1.out zero_en rfl (En.one _) ?_)
        refine leaves_cons (f := 115) (args := #[.pointer (some ⟨q + 1, 0, none⟩)]) (by simp) (by simp [go_sem]) ?_
        refine (catchE_idle (q + 1) _).mono ?_
        rintro e u' w'' ⟨rfl, rfl, rfl⟩
        refine ⟨.tuple #[.agg en0.cs, .int .i64 z], results_ee Tryz.results79 _ rfl rfl Y3.out X3.out.cell, B3.out, by rw [YY.out, AE.out, if_neg HZ0.out]⟩
    · have HA := Lib.hid (show ∀ L ∈ G, chkP n L = 0 from fun L hL => by
        obtain ⟨i, hi, rfl⟩ := List.getElem_of_mem hL
        exact HF.out i hi (by have := HM.out; omega))
      have AE := Lib.hid (show ansE n G er = er from ansE_none HA.out)
      have WK := Lib.hid (HW.out HA.out wr HBB.out)
      go_wp2_with fail
      refine WK.out.mono ?_
      rintro e w2 (⟨he, rfl, hb2⟩ | ⟨he, rfl, hb2⟩)
      · have B1 := Lib.hid (below_on HBB.out hb2)
        have X1 := Lib.hid (HX.out.kept hb2)
        have Y1 := Lib.hid (HY.out.kept hb2)
        have Y2 := Lib.hid (Y1.out.setRow (y := x))
        have X2 := Lib.hid (show Bx1 (w2.setRow q x.cs) (q + 1) (.int .i64 0) 32 from X1.out.of_block (setRow_other w2 q (q + 1) x.cs (by omega)))
        have B2 := Lib.hid (Below.setRow B1.out (b := q) (by have := HQ.out; omega) x.cs)
        have x1 := X2.out.cell
        have x2 := X2.out.free
        have X3 := Lib.hid (X2.out.put (.int .i64 0))
        have Y3 := Lib.hid (Y2.out.aside (y := q + 1) (j := 0) (by omega) (.int .i64 0))
        have B3 := Lib.hid (B2.out.setCell (p := ⟨q + 1, 0, none⟩) (by have := HQ.out; show w.heap.size ≤ q + 1; omega) (.int .i64 0))
        have HE := Lib.hid he
        clear hb2 he
        go_wp2_with (first | refine wpList_load_row rfl _ _ rfl q rfl _ en0.cs (0, 0) _ Y1.out Tryz.underlying105 rfl zero_en ?_ | refine wpList_store_row rfl _ _ _ rfl q x.cs rfl rfl _ _ Y1.out zero_en rfl (En.one _) ?_)
        refine leaves_cons (f := 115) (args := #[.pointer (some ⟨q + 1, 0, none⟩)]) (by simp) (by simp [go_sem]) ?_
        refine (catchE_idle (q + 1) _).mono ?_
        rintro e u' w'' ⟨rfl, rfl, rfl⟩
        refine ⟨.tuple #[.agg x.cs, .int .i64 0], results_ee Tryz.results79 _ rfl rfl Y3.out X3.out.cell, B3.out, by rw [YY.out, AE.out, if_pos HE.out, HE.out]⟩
      · have B1 := Lib.hid (below_on HBB.out hb2)
        have X1 := Lib.hid (HX.out.kept hb2)
        have Y1 := Lib.hid (HY.out.kept hb2)
        have X3 := Lib.hid (X1.out.put (.int .i64 er))
        have Y3 := Lib.hid (Y1.out.aside (y := q + 1) (j := 0) (by omega) (.int .i64 er))
        have B3 := Lib.hid (B1.out.setCell (p := ⟨q + 1, 0, none⟩) (by have := HQ.out; show w.heap.size ≤ q + 1; omega) (.int .i64 er))
        have HE := Lib.hid he
        clear hb2 he
        go_wp2_with fail
        refine leaves_cons (f := 115) (args := #[.pointer (some ⟨q + 1, 0, none⟩)]) (by simp) (by simp [go_sem]) ?_
        refine (catchE_panic (q + 1) er _ _ X1.out X1.out.cell).mono ?_
        rintro e u' w'' ⟨rfl, rfl, rfl⟩
        refine ⟨.tuple #[.agg en0.cs, .int .i64 er], results_ee Tryz.results79 _ rfl rfl Y3.out X3.out.cell, B3.out, by rw [YY.out, AE.out, if_neg HE.out]⟩

/-- The error of Least, but for that of Check. -/
def lsE (n : Nat) (L : List AV) (a : List Int) : Int := if a.length = n ∧ a.all fitB = true then infE (L.map ofV) n a else 2

set_option maxRecDepth 100000 in
set_option maxHeartbeats 4000000 in
theorem least1_any (n : Nat) (L : List AV) (a : List Int) (ao qo : Option Addr) (cap qc pa pn pl : Nat) (w : World) (hc : chkP n L = 0) (hR : RdV w ao L) (hA : Rd1 w qo a) (hal : a.length ≤ 1000000) (c0 : w.cell? ⟨pn, 0, none⟩ = some (.int .i64 n)) (c1 : w.cell? ⟨pl, 0, none⟩ = some (.slice ao L.length cap)) (c2 : w.cell? ⟨pa, 0, none⟩ = some (.slice qo a.length qc)) :
    Calls Tryz.prog 80 #[.pointer (some ⟨pa, 0, none⟩), .pointer (some ⟨pn, 0, none⟩), .pointer (some ⟨pl, 0, none⟩)] w fun e W' =>
      (lsE n L a = 0 ∧ e = .returned (.agg (infN (L.map ofV) n a).1.1.cs) ∧ Below w.heap.size w W') ∨ (lsE n L a ≠ 0 ∧ e = .panicked (pan (lsE n L a)) ∧ Below w.heap.size w W') := by
  obtain ⟨⟨_, hn⟩, hl, hv⟩ := chk_valid hc
  have FT := Lib.hid (fun W (h : Below w.heap.size w W) => fit_any a qo qc W hal (hA.on h))
  have FI := Lib.hid (fun W pb (h : Below w.heap.size w W) (ha : a.length ≤ 6) (haB : ∀ v ∈ a, -2147483647 ≤ v ∧ v ≤ 2147483647) (hR : RdL W (some ⟨pb, 0, none⟩) (L.map ofV)) => infimum_any (L.map ofV) pb n a qo qc W (by omega) ha haB (by simp; omega) (fun x hx => by
    obtain ⟨y, hy, rfl⟩ := List.mem_map.1 hx
    exact ofV_rg (n := n) (by omega) (hv y hy)) hR (hA.on h))
  have LI := Lib.hid (fun W (h : Below w.heap.size w W) => lines_row L ao cap W (by omega) (hR.on h) (fun y hy => by have := valid_len (hv y hy); omega))
  obtain ⟨k, hk⟩ : ∃ k, k = (L.map ofV).length := ⟨_, rfl⟩
  have hk2 : k = L.length := by rw [hk]; simp
  rw [← hk] at FI LI
  rw [← hk2] at LI c1
  obtain ⟨m, hm⟩ : ∃ m, m = a.length := ⟨_, rfl⟩
  have n5 := Lib.hid hn
  have ML := Lib.hid hm
  rw [← hm] at FT c2
  have LE := Lib.hid (show lsE n L a = if m = n ∧ a.all fitB = true then infE (L.map ofV) n a else 2 by unfold lsE; rw [hm])
  generalize lsE n L a = ER at *
  generalize L.map ofV = l at *
  have AB := Lib.hid (show a.all fitB = true → ∀ v ∈ a, -2147483647 ≤ v ∧ v ≤ 2147483647 from fun h v hv => by have := List.all_eq_true.1 h v hv; unfold fitB at this; simpa using this)
  have C0 := Lib.hid c0
  have C1 := Lib.hid c1
  have C2 := Lib.hid c2
  obtain ⟨w0, hw0⟩ : ∃ w0, w0 = w.alloc (.cells #[.int .i64 0, .int .i64 0, .bool false, .bool false] 105) := ⟨_, rfl⟩
  have E0 := Lib.hid (show Below w.heap.size w w0 by rw [hw0]; exact one_more _)
  have X0 := Lib.hid (show EnB w0 w.heap.size en0 by rw [hw0]; exact EnB.made w en0)
  have d0 := kept E0.out c0
  have d1 := kept E0.out c1
  have d2 := kept E0.out c2
  clear hc hR hA hal hl hv hk hk2 hm hn c0 c1 c2
  by_cases hmn : m = n
  · have mn : ((m : Int) == (n : Int)) = true := beq_iff_eq.2 (by omega)
    have MN := Lib.hid hmn
    clear hmn
    go_enter Tryz.func80, Tryz.ntmps80
    go_upto_region 1 with (fail)
    rw [← hw0]
    clear hw0
    go_wp2_with fail
    refine (FT.out w0 E0.out).mono ?_
    rintro e w1 ⟨rfl, hb⟩
    have B1 := Lib.hid (below_on E0.out hb)
    have X1 := Lib.hid (X0.out.kept hb)
    clear hb d0 d1 d2
    cases hfa : a.all fitB
    · have LF := Lib.hid (show ER = 2 by rw [LE.out, hfa]; simp)
      go_wp2_with fail
      refine (demand_any false w1).mono ?_
      rintro e w2 ⟨rfl, rfl⟩
      go_wp2_with fail
      exact And.intro rfl (Or.inr ⟨by rw [LF.out]; decide, by rw [LF.out], B1.out⟩)
    · have LF := Lib.hid (show ER = infE l n a by rw [LE.out, if_pos ⟨MN.out, hfa⟩])
      have AB2 := Lib.hid (AB.out hfa)
      clear hfa LE
      go_wp2_with fail
      refine (demand_any true w1).mono ?_
      rintro e w2 ⟨rfl, rfl⟩
      go_upto_region 2 with (fail)
      have KS := Lib.hid (show ∀ W, Below w2.heap.size w2 W → (W.cell? ⟨pn, 0, none⟩ = some (.int .i64 n) ∧ W.cell? ⟨pl, 0, none⟩ = some (.slice ao k cap) ∧ W.cell? ⟨pa, 0, none⟩ = some (.slice qo m qc)) from fun W h => ⟨kept h (kept B1.out C0.out), kept h (kept B1.out C1.out), kept h (kept B1.out C2.out)⟩)
      obtain ⟨wc, hwc⟩ : ∃ wc, wc = w2.drew := ⟨_, rfl⟩
      have Bc := Lib.hid (show Below w2.heap.size w2 wc by rw [hwc]; exact (Below.refl _ _).drew)
      have FI := Lib.hid (show _ from FI.out)
      rw [← ML.out] at FI
      refine wp_region_held_drew (S := (fun W => (W.cell? ⟨pn, 0, none⟩ = some (.int .i64 n) ∧ W.cell? ⟨pl, 0, none⟩ = some (.slice ao k cap) ∧ W.cell? ⟨pa, 0, none⟩ = some (.slice qo m qc)))) (by kernel_rfl) (by rw [← hwc]; exact KS.out _ Bc.out) (fun h0 => ?_)
      rw [← hwc] at h0 ⊢
      clear hwc
      refine wpAnyH_take (i := 0) (v := ?v1) rfl (by kernel_rfl) (by kernel_rfl) (by kernel_rfl) (fun _ _ _ h => h) (Or.inl ⟨by rfl, ?hy1⟩) h0 ?rest1
      case hy1 => (intro w' hS; (try dsimp only at hS); go_simp; try (with_reducible rfl))
      simp only [Act.put, List.getElem_toArray, List.getElem_cons_zero, List.setIfInBounds_toArray, List.set_cons_zero, List.set_cons_succ]
      refine wpAnyH_take (i := 1) (v := ?v2) rfl (by kernel_rfl) (by kernel_rfl) (by kernel_rfl) (fun _ _ _ h => h) (Or.inl ⟨by rfl, ?hy2⟩) h0 ?rest2
      case hy2 => (intro w' hS; (try dsimp only at hS); go_simp; try (with_reducible rfl))
      simp only [Act.put, List.getElem_toArray, List.getElem_cons_zero, List.getElem_cons_succ, List.setIfInBounds_toArray, List.set_cons_zero, List.set_cons_succ]
      refine wpAnyH_take (i := 3) (v := ?v3) rfl (by kernel_rfl) (by kernel_rfl) (by kernel_rfl) (fun _ _ _ h => h) (Or.inl ⟨by rfl, ?hy3⟩) h0 ?rest3
      case hy3 => (intro w' hS; (try dsimp only at hS); go_simp; try (with_reducible rfl))
      simp only [Act.put, List.getElem_toArray, List.getElem_cons_zero, List.getElem_cons_succ, List.setIfInBounds_toArray, List.set_cons_zero, List.set_cons_succ]
      refine wpAnyH_ready (rs := [2]) (by kernel_rfl) (by simp) (AllReadyH.cons rfl (fun K hK => ?_) AllReadyH.nil)
      rw [if_pos (by rfl)]
      go_simp
      refine (LI.out wc (below_on B1.out Bc.out)).mono ?_
      rintro e wc ⟨b2, rfl, hr, _, hb⟩
      have R2 := Lib.hid hr.rd
      have Bc := Lib.hid (below_on Bc.out hb)
      clear hr hb
      go_simp
      refine hK.out _ _ (KS.out _ Bc.out) (fun h0_1 => ?_)
      clear hK K h0
      refine wpAnyH_ready (rs := [4]) (by kernel_rfl) (by simp) (AllReadyH.cons rfl (fun K hK => ?_) AllReadyH.nil)
      rw [if_pos (by rfl)]
      go_simp
      refine (FI.out wc b2 (below_on B1.out Bc.out) (by have := MN.out; have := n5.out; have := ML.out; omega) AB2.out R2.out).mono ?_
      rintro e wc ⟨hb, (⟨he, rfl⟩ | ⟨he, rfl⟩)⟩
      rotate_left
      · exact And.intro rfl (Or.inr ⟨by rw [LF.out]; exact he, by rw [LF.out], below_on B1.out (below_on Bc.out hb)⟩)
      have Bc := Lib.hid (below_on Bc.out hb)
      have HE := Lib.hid he
      clear hb he
      go_simp
      refine hK.out _ _ (KS.out _ Bc.out) (fun h0_2 => ?_)
      clear hK K h0_1
      refine wpAnyH_ready (rs := [5]) (by kernel_rfl) (by simp) (AllReadyH.cons rfl (fun K hK => ?_) AllReadyH.nil)
      rw [if_pos (by rfl)]
      have X2 := Lib.hid (X1.out.kept Bc.out)
      refine wp_store_row _ _ _ rfl w.heap.size (infN l n a).1.1.cs rfl rfl _ _ X2.out (by exact zero_en) rfl (En.one _) ?_
      refine hK.out _ _ (⟨row_aside (KS.out _ Bc.out).1 (by have := World.block_lt_of_cell? w _ C0.out; simp only at this; show pn ≠ w.heap.size; omega) _, row_aside (KS.out _ Bc.out).2.1 (by have := World.block_lt_of_cell? w _ C1.out; simp only at this; show pl ≠ w.heap.size; omega) _, row_aside (KS.out _ Bc.out).2.2 (by have := World.block_lt_of_cell? w _ C2.out; simp only at this; show pa ≠ w.heap.size; omega) _⟩) (fun h0_3 => ?_)
      clear hK K h0_2
      try simp only [List.set_cons_succ]
      try simp only [List.set_cons_zero]
      refine wpAnyH_done (by kernel_rfl) ?_ _
      go_wp2_with fail
      exact bodyPost_ret (results_en Tryz.results80 _ rfl (X2.out.setRow (y := (infN l n a).1.1))) rfl (Or.inl ⟨by rw [LF.out]; exact HE.out, rfl, Below.setRow (below_on B1.out Bc.out) (Nat.le_refl _) _⟩)
  · have mn : ((m : Int) == (n : Int)) = false := by rw [beq_eq_false_iff_ne]; omega
    have LF := Lib.hid (show ER = 2 by rw [LE.out, if_neg (fun h => hmn h.1)])
    clear hmn
    go_enter Tryz.func80, Tryz.ntmps80
    go_upto_region 1 with (fail)
    rw [← hw0]
    clear hw0
    go_wp2_with fail
    refine (demand_any false w0).mono ?_
    rintro e w2 ⟨rfl, rfl⟩
    go_wp2_with fail
    exact And.intro rfl (Or.inr ⟨by rw [LF.out]; decide, by rw [LF.out], E0.out⟩)
end Go.Proofs.YtefpaobboimakaaGreat

namespace Go.Proofs.YtefpaobboimakaaGreat
open Go.RowKit Go.Sort Go.Shelf

theorem least1_enters : ∀ args w, (callFunc 80 args).run Tryz.prog w = .ok (.enter 80 args) w := enters_of Tryz.func80 (by kernel_rfl) rfl

/-- The error of Least, and the end that it finds. -/
def leaE (n : Int) (L : List AV) (a : List Int) : Int := if chkP n L = 0 then lsE n.toNat L a else chkP n L

def leaX (n : Int) (L : List AV) (a : List Int) : En := if leaE n L a = 0 then (infN (L.map ofV) n.toNat a).1.1 else en0

set_option maxRecDepth 100000 in
set_option maxHeartbeats 4000000 in
theorem least_any (n : Int) (L : List AV) (a : List Int) (ao qo : Option Addr) (cap qc : Nat) (w : World) (hR : RdV w ao L) (hA : Rd1 w qo a) (hal : a.length ≤ 1000000) :
    Calls Tryz.prog 30 #[.int .i64 n, .slice ao L.length cap, .slice qo a.length qc] w (fun e w' => Below w.heap.size w w' ∧ e = .returned (.tuple #[.agg #[.int .i64 (leaX n L a).v.1, .int .i64 (leaX n L a).v.2], .bool ((leaX n L a).ex && !(leaX n L a).op), .int .i64 (leaE n L a)])) := by
  have hmf : ∀ (fn : Fn) (first cap : Array Value) (w : World), (Instr.makeFunc fn first cap).run Tryz.prog w = .ok (.func fn first cap) w := fun _ _ _ _ => rfl
  obtain ⟨m, hm⟩ : ∃ m, m = L.length := ⟨_, rfl⟩
  obtain ⟨k, hk⟩ : ∃ k, k = a.length := ⟨_, rfl⟩
  obtain ⟨w0, hw0⟩ : ∃ w0, w0 = (((w.alloc (.cells #[.int .i64 n] 3)).alloc (.cells #[.slice ao m cap] 22)).alloc (.cells #[.slice qo k qc] 23)).alloc (.cells #[.int .i64 0, .int .i64 0] 50) := ⟨_, rfl⟩
  have E0 := Lib.hid (show Below w.heap.size w w0 by rw [hw0]; exact past_two (past_two (Below.refl _ _)))
  have X0 := Lib.hid (show Bx1 w0 w.heap.size (.int .i64 n) 3 by rw [hw0]; exact (((Bx1.made w _ _).kept (one_more _)).kept (one_more _)).kept (one_more _))
  have X1 := Lib.hid (show Bx1 w0 (w.heap.size + 1) (.slice ao m cap) 22 by rw [hw0]; have := ((Bx1.made (w.alloc (.cells #[.int .i64 n] 3)) (.slice ao m cap) 22).kept (one_more (.cells #[.slice qo k qc] 23))).kept (one_more (.cells #[.int .i64 0, .int .i64 0] 50)); simpa using this)
  have X2 := Lib.hid (show Bx1 w0 (w.heap.size + 2) (.slice qo k qc) 23 by rw [hw0]; have := (Bx1.made ((w.alloc (.cells #[.int .i64 n] 3)).alloc (.cells #[.slice ao m cap] 22)) (.slice qo k qc) 23).kept (one_more (.cells #[.int .i64 0, .int .i64 0] 50)); simpa using this)
  have P3 := Lib.hid (show Pair w0 (w.heap.size + 3) 0 0 by rw [hw0]; have := Pair.made (((w.alloc (.cells #[.int .i64 n] 3)).alloc (.cells #[.slice ao m cap] 22)).alloc (.cells #[.slice qo k qc] 23)) 0 0 50; simpa using this)
  have B1 := Lib.hid (one_more (w1 := w0) (.cells #[.slice ao m cap] 22))
  have hG : RdG (w0.alloc (.cells #[.slice ao m cap] 22)) (some ⟨w0.heap.size, 0, none⟩) [L] := by
    intro t ht
    have : t = 0 := by simpa using ht
    subst this
    refine ⟨_, ao, cap, rfl, ?_, (hR.on E0.out).on B1.out⟩
    rw [addr_add]
    have := (Bx1.made w0 (.slice ao m cap) 22).cell
    rw [hm] at this ⊢
    exact this
  have AN := Lib.hid (answerE_any 80 #[.pointer (some ⟨w.heap.size + 2, 0, none⟩), .pointer (some ⟨w.heap.size, 0, none⟩), .pointer (some ⟨w.heap.size + 1, 0, none⟩)] n (some ⟨w0.heap.size, 0, none⟩) 1 [L] (lsE n.toNat L a) (infN (L.map ofV) n.toNat a).1.1 _ (by simp) hG least1_enters
    (fun hc W hW => by
      have hc0 := hc L (by simp)
      have hn := (chk_valid hc0).1
      have e : ((n.toNat : Nat) : Int) = n := by omega
      refine least1_any n.toNat L a ao qo cap qc (w.heap.size + 2) w.heap.size (w.heap.size + 1) W (by rw [e]; exact hc0) (((hR.on E0.out).on B1.out).on hW) (((hA.on E0.out).on B1.out).on hW) hal ?_ ?_ ?_
      · rw [e]; exact kept hW (kept B1.out X0.out.cell)
      · rw [← hm]; exact kept hW (kept B1.out X1.out.cell)
      · rw [← hk]; exact kept hW (kept B1.out X2.out.cell)))
  rw [show ansE n [L] (lsE n.toNat L a) = leaE n L a from ansE_one _ _ _] at AN
  have HX := show (if leaE n L a = 0 then (infN (L.map ofV) n.toNat a).1.1 else en0) = leaX n L a from rfl
  rw [HX] at AN
  generalize leaX n L a = X at *
  generalize leaE n L a = ER at *
  have c0 := X0.out.cell
  have c1 := X1.out.cell
  simp only [List.length_cons, List.length_nil, Nat.zero_add] at AN
  rw [← hm, ← hk]
  clear hR hG hm hA hal hk HX
  go_enter Tryz.func30, Tryz.ntmps30
  go_upto_region 1 with (fail)
  rw [← hw0]
  clear hw0
  go_wp2_with fail
  refine AN.out.mono ?_
  rintro e w2 ⟨hb, rfl⟩
  have B2 := Lib.hid (below_on E0.out (past_one hb))
  have P2 := Lib.hid (P3.out.kept (below_on B1.out hb))
  have N1 := Lib.hid (show EnB (w2.alloc (.cells #[.int .i64 0, .int .i64 0, .bool false, .bool false] 105)) w2.heap.size en0 from EnB.made w2 en0)
  have N2 := Lib.hid (N1.out.setRow (y := X))
  have B3 := Lib.hid (below_on B2.out (Below.setRow ((Below.refl w2.heap.size w2).alloc (Nat.le_refl _) (.cells #[.int .i64 0, .int .i64 0, .bool false, .bool false] 105)) (b := w2.heap.size) (Nat.le_refl _) X.cs))
  have P4 := Lib.hid (show Pair ((w2.alloc (.cells #[.int .i64 0, .int .i64 0, .bool false, .bool false] 105)).setRow w2.heap.size X.cs) (w.heap.size + 3) 0 0 from P2.out.kept (Below.setRow ((Below.refl w2.heap.size w2).alloc (Nat.le_refl _) _) (b := w2.heap.size) (Nat.le_refl _) X.cs))
  clear hb AN c0 c1
  go_upto_region 2 with (refine wpList_store_row rfl _ _ _ rfl w2.heap.size X.cs rfl rfl _ _ N1.out zero_en rfl (En.one _) ?_)
  generalize (w2.alloc (.cells #[.int .i64 0, .int .i64 0, .bool false, .bool false] 105)).setRow w2.heap.size X.cs = w3 at *
  obtain ⟨q, hq⟩ : ∃ q, q = w2.heap.size := ⟨_, rfl⟩
  rw [← hq] at N2 ⊢
  obtain ⟨f0, f1, f2, f3⟩ := N2.out.facts
  obtain ⟨p0, p1, p2, p3⟩ := P4.out.facts
  obtain ⟨⟨v1, v2⟩, ex, op⟩ := X
  simp only at f0 f1 f2 f3
  clear N1 N2 P2 P4 hq
  have fin : Below w.heap.size w ((w3.setCell ⟨w.heap.size + 1 + 1 + 1, 0, none⟩ (.int .i64 v1)).setCell ⟨w.heap.size + 1 + 1 + 1, 1, none⟩ (.int .i64 v2)).drew := (below_put B3.out (by omega) _ _).drew
  cases ex
  · go_region
    go_wp2_with fail
    refine bodyPost_ret (v := .tuple #[.agg #[.int .i64 v1, .int .i64 v2], .bool false, .int .i64 ER]) (by simp [results, Tryz.results30, go_sem, p0, p1, p2, p3]) rfl ⟨fin, rfl⟩
  · cases op
    · go_region
      go_wp2_with fail
      refine bodyPost_ret (v := .tuple #[.agg #[.int .i64 v1, .int .i64 v2], .bool true, .int .i64 ER]) (by simp [results, Tryz.results30, go_sem, p0, p1, p2, p3]) rfl ⟨fin, rfl⟩
    · go_region
      go_wp2_with fail
      refine bodyPost_ret (v := .tuple #[.agg #[.int .i64 v1, .int .i64 v2], .bool false, .int .i64 ER]) (by simp [results, Tryz.results30, go_sem, p0, p1, p2, p3]) rfl ⟨fin, rfl⟩
end Go.Proofs.YtefpaobboimakaaGreat

namespace Go.Proofs.YtefpaobboimakaaGreat
open Go.RowKit Go.Sort Go.Shelf

def poE (l : List Ln) (n : Nat) : Int := if shE l n n = 0 then ptE l n else shE l n n

theorem PtR.base {w w' A : World} {ps : List Pq} {v : Value} (h : PtR w' ps v A) (hb : w.heap.size ≤ w'.heap.size) : PtR w ps v A := by
  obtain ⟨ao, cap, e, r, f⟩ := h
  exact ⟨ao, cap, e, r, fun a ea => Nat.le_trans hb (f a ea)⟩

set_option maxRecDepth 100000 in
set_option maxHeartbeats 4000000 in
theorem point1_any (n : Nat) (L : List AV) (ao : Option Addr) (cap pn pl : Nat) (w : World) (hc : chkP n L = 0) (hR : RdV w ao L) (c0 : w.cell? ⟨pn, 0, none⟩ = some (.int .i64 n)) (c1 : w.cell? ⟨pl, 0, none⟩ = some (.slice ao L.length cap)) :
    Calls Tryz.prog 70 #[.pointer (some ⟨pn, 0, none⟩), .pointer (some ⟨pl, 0, none⟩)] w fun e W' =>
      (poE (L.map ofV) n = 0 ∧ ∃ v, e = .returned v ∧ PtR w (ptN (L.map ofV) n n).1 v W' ∧ Below w.heap.size w W') ∨ (poE (L.map ofV) n ≠ 0 ∧ e = .panicked (pan (poE (L.map ofV) n)) ∧ Below w.heap.size w W') := by
  obtain ⟨⟨_, hn⟩, hl, hv⟩ := chk_valid hc
  have hn6 : n ≤ 6 := by omega
  obtain ⟨k, hk⟩ : ∃ k, k = (L.map ofV).length := ⟨_, rfl⟩
  have hk2 : k = L.length := by rw [hk]; simp
  have LI := Lib.hid (fun W (h : Below w.heap.size w W) => lines_any L ao cap W (by omega) (hR.on h) (fun y hy => by have := valid_len (hv y hy); omega))
  have SH := Lib.hid (fun W a c (h : RdL W a (L.map ofV)) => shadows_any (L.map ofV) a c n W (by simp; omega) hn6 h (fun x hx => by
    obtain ⟨y, hy, rfl⟩ := List.mem_map.1 hx
    exact ofV_rg (by omega) (hv y hy)))
  have PT := Lib.hid (fun W W0 b cs (he : shE (L.map ofV) n n = 0) (hS : ShR W0 W b (L.map ofV) n (n + 1) cs) => point_any (L.map ofV) n b cs W W0 (by omega) (by simp; omega) (fun x hx => by
    obtain ⟨y, hy, rfl⟩ := List.mem_map.1 hx
    exact ofV_rg (n := n) (by omega) (hv y hy)) he hS)
  rw [← hk] at SH
  rw [← hk2] at LI c1
  have KL := Lib.hid hk
  have C0 := Lib.hid c0
  have C1 := Lib.hid c1
  generalize L.map ofV = l at *
  clear hc hR c0 c1 hl hv hk hk2 hn
  go_enter Tryz.func70, Tryz.ntmps70
  go_upto_region 1 with (fail)
  have KS := Lib.hid (show ∀ W, Below w.heap.size w W → (W.cell? ⟨pn, 0, none⟩ = some (.int .i64 n) ∧ W.cell? ⟨pl, 0, none⟩ = some (.slice ao k cap)) from fun W h => ⟨kept h C0.out, kept h C1.out⟩)
  obtain ⟨wc, hwc⟩ : ∃ wc, wc = w.drew := ⟨_, rfl⟩
  have Bc := Lib.hid (show Below w.heap.size w wc by rw [hwc]; exact (Below.refl _ _).drew)
  refine wp_region_held_drew (S := (fun W => (W.cell? ⟨pn, 0, none⟩ = some (.int .i64 n) ∧ W.cell? ⟨pl, 0, none⟩ = some (.slice ao k cap)))) (by kernel_rfl) (by rw [← hwc]; exact KS.out _ Bc.out) (fun h0 => ?_)
  rw [← hwc] at h0 ⊢
  clear hwc
  refine wpAnyH_take (i := 0) (v := ?v1) rfl (by kernel_rfl) (by kernel_rfl) (by kernel_rfl) (fun _ _ _ h => h) (Or.inl ⟨by rfl, ?hy1⟩) h0 ?rest1
  case hy1 => (intro w' hS; (try dsimp only at hS); go_simp; try (with_reducible rfl))
  simp only [Act.put, List.getElem_toArray, List.getElem_cons_zero, List.setIfInBounds_toArray, List.set_cons_zero, List.set_cons_succ]
  refine wpAnyH_take (i := 1) (v := ?v2) rfl (by kernel_rfl) (by kernel_rfl) (by kernel_rfl) (fun _ _ _ h => h) (Or.inl ⟨by rfl, ?hy2⟩) h0 ?rest2
  case hy2 => (intro w' hS; (try dsimp only at hS); go_simp; try (with_reducible rfl))
  simp only [Act.put, List.getElem_toArray, List.getElem_cons_zero, List.getElem_cons_succ, List.setIfInBounds_toArray, List.set_cons_zero, List.set_cons_succ]
  refine wpAnyH_ready (rs := [2]) (by kernel_rfl) (by simp) (AllReadyH.cons rfl (fun K hK => ?_) AllReadyH.nil)
  rw [if_pos (by rfl)]
  go_simp
  refine (LI.out wc Bc.out).mono ?_
  rintro e wc ⟨a1, d1, rfl, hr, hb⟩
  have R1 := Lib.hid hr
  clear hr
  rw [← KL.out]
  have Bc := Lib.hid (below_on Bc.out hb)
  clear hb
  go_simp
  refine hK.out _ _ (KS.out _ Bc.out) (fun h0_1 => ?_)
  clear hK K h0
  refine wpAnyH_ready (rs := [3]) (by kernel_rfl) (by simp) (AllReadyH.cons rfl (fun K hK => ?_) AllReadyH.nil)
  rw [if_pos (by rfl)]
  go_simp
  refine (SH.out wc a1 d1 R1.out).mono ?_
  rintro e wc (⟨he, b2, cs2, rfl, hs⟩ | ⟨he, rfl, hb⟩)
  rotate_left
  · exact And.intro rfl (Or.inr ⟨by unfold poE; rw [if_neg he]; exact he, by unfold poE; rw [if_neg he], below_on Bc.out hb⟩)
  have HE := Lib.hid he
  have hb := hs.be
  have HS := Lib.hid hs
  clear hs he
  have Bc := Lib.hid (below_on Bc.out hb)
  clear hb
  go_simp
  refine hK.out _ _ (KS.out _ Bc.out) (fun h0_2 => ?_)
  clear hK K h0_1
  refine wpAnyH_ready (rs := [4]) (by kernel_rfl) (by simp) (AllReadyH.cons rfl (fun K hK => ?_) AllReadyH.nil)
  rw [if_pos (by rfl)]
  go_simp
  refine (PT.out wc _ b2 cs2 HE.out HS.out).mono ?_
  have ZB := Lib.hid Bc.out.size
  rintro e wc ⟨hb, (⟨he, v, rfl, hp⟩ | ⟨he, rfl⟩)⟩
  rotate_left
  · exact And.intro rfl (Or.inr ⟨by unfold poE; rw [if_pos HE.out]; exact he, by unfold poE; rw [if_pos HE.out], below_on Bc.out hb⟩)
  have HV := Lib.hid (hp.base ZB.out)
  have H4 := Lib.hid he
  clear hp he
  have Bc := Lib.hid (below_on Bc.out hb)
  clear hb
  go_simp
  refine hK.out _ _ (KS.out _ Bc.out) (fun h0_3 => ?_)
  clear hK K h0_2
  refine wpAnyH_take (i := 5) (v := ?v3) rfl (by kernel_rfl) (by kernel_rfl) (by kernel_rfl) (fun _ _ _ h => h) (Or.inl ⟨by rfl, ?hy3⟩) h0_3 ?rest3
  case hy3 => (intro w' hS; (try dsimp only at hS); go_simp; try (with_reducible rfl))
  simp only [Act.put, List.getElem_toArray, List.getElem_cons_zero, List.getElem_cons_succ, List.setIfInBounds_toArray]
  try simp only [List.set_cons_succ]
  try simp only [List.set_cons_zero]
  refine wpAnyH_done (by kernel_rfl) ?_ _
  go_wp2_with fail
  go_ret
  exact Or.inl ⟨by unfold poE; rw [if_pos HE.out]; exact H4.out, _, rfl, HV.out, Bc.out⟩

theorem point1_enters : ∀ args w, (callFunc 70 args).run Tryz.prog w = .ok (.enter 70 args) w := enters_of Tryz.func70 (by kernel_rfl) rfl

/-- The error of Point. -/
def ponE (n : Int) (L : List AV) : Int := if chkP n L = 0 then poE (L.map ofV) n.toNat else chkP n L

set_option maxRecDepth 100000 in
set_option maxHeartbeats 4000000 in
theorem pointP_any (n : Int) (L : List AV) (ao : Option Addr) (cap : Nat) (w : World) (hR : RdV w ao L) :
    Calls Tryz.prog 25 #[.int .i64 n, .slice ao L.length cap] w (fun e w' => Below w.heap.size w w' ∧ ((ponE n L = 0 ∧ ∃ v, e = .returned (.tuple #[v, .int .i64 0]) ∧ PtR w (ptN (L.map ofV) n.toNat n.toNat).1 v w') ∨ (ponE n L ≠ 0 ∧ e = .returned (.tuple #[.slice none 0 0, .int .i64 (ponE n L)])))) := by
  have hmf : ∀ (fn : Fn) (first cap : Array Value) (w : World), (Instr.makeFunc fn first cap).run Tryz.prog w = .ok (.func fn first cap) w := fun _ _ _ _ => rfl
  obtain ⟨m, hm⟩ : ∃ m, m = L.length := ⟨_, rfl⟩
  obtain ⟨w0, hw0⟩ : ∃ w0, w0 = (w.alloc (.cells #[.int .i64 n] 3)).alloc (.cells #[.slice ao m cap] 22) := ⟨_, rfl⟩
  have E0 := Lib.hid (show Below w.heap.size w w0 by rw [hw0]; exact past_two (Below.refl _ _))
  have X0 := Lib.hid (show Bx1 w0 w.heap.size (.int .i64 n) 3 by rw [hw0]; exact (Bx1.made w _ _).kept (one_more _))
  have X1 := Lib.hid (show Bx1 w0 (w.heap.size + 1) (.slice ao m cap) 22 by rw [hw0]; have := Bx1.made (w.alloc (.cells #[.int .i64 n] 3)) (.slice ao m cap) 22; simpa using this)
  have Z0 := Lib.hid (show w0.heap.size = w.heap.size + 2 by rw [hw0]; simp)
  have B1 := Lib.hid (one_more (w1 := w0) (.cells #[.slice ao m cap] 22))
  have hG : RdG (w0.alloc (.cells #[.slice ao m cap] 22)) (some ⟨w0.heap.size, 0, none⟩) [L] := by
    intro t ht
    have : t = 0 := by simpa using ht
    subst this
    refine ⟨_, ao, cap, rfl, ?_, (hR.on E0.out).on B1.out⟩
    rw [addr_add]
    have := (Bx1.made w0 (.slice ao m cap) 22).cell
    rw [hm] at this ⊢
    exact this
  have AN := Lib.hid (answerQ_any 70 #[.pointer (some ⟨w.heap.size, 0, none⟩), .pointer (some ⟨w.heap.size + 1, 0, none⟩)] n (some ⟨w0.heap.size, 0, none⟩) 1 [L] (poE (L.map ofV) n.toNat) _ (by simp) hG point1_enters
    (fun W v A => PtR W (ptN (L.map ofV) n.toNat n.toNat).1 v A) (fun _ _ _ _ y h hb => h.aside hb y) (fun hc W hW => by
      have hc0 := hc L (by simp)
      have hn := (chk_valid hc0).1
      have e : ((n.toNat : Nat) : Int) = n := by omega
      refine point1_any n.toNat L ao cap w.heap.size (w.heap.size + 1) W (by rw [e]; exact hc0) (((hR.on E0.out).on B1.out).on hW) ?_ ?_
      · rw [e]; exact kept hW (kept B1.out X0.out.cell)
      · rw [← hm]; exact kept hW (kept B1.out X1.out.cell)))
  have HE := Lib.hid (show ansE n [L] (poE (L.map ofV) n.toNat) = ponE n L from ansE_one _ _ _)
  have c0 := X0.out.cell
  have c1 := X1.out.cell
  simp only [List.length_cons, List.length_nil, Nat.zero_add] at AN
  rw [← hm]
  clear hR hG hm
  go_enter Tryz.func25, Tryz.ntmps25
  go_upto_region 1 with (fail)
  rw [← hw0]
  clear hw0
  go_wp2_with fail
  refine AN.out.mono ?_
  rintro e w2 ⟨hb, ⟨he, W, v, hW, rfl, hp⟩ | ⟨he, rfl⟩⟩
  · have B2 := Lib.hid (below_on E0.out (past_one hb))
    rw [HE.out] at he
    have HZ := Lib.hid he
    have HP := Lib.hid (hp.base (w := w) (Nat.le_trans E0.out.size (Nat.le_trans (by simp) hW.size)))
    clear hb he hW hp
    go_wp2_with fail
    refine bodyPost_ret (v := .tuple #[v, .int .i64 0]) (by simp [results, Tryz.results25, go_sem]) rfl ?_
    exact ⟨B2.out, Or.inl ⟨HZ.out, _, rfl, HP.out⟩⟩
  · have B2 := Lib.hid (below_on E0.out (past_one hb))
    rw [HE.out] at he ⊢
    have HZ := Lib.hid he
    clear hb he
    go_wp2_with fail
    refine bodyPost_ret (v := .tuple #[.slice none 0 0, .int .i64 (ponE n L)]) (by simp [results, Tryz.results25, go_sem]) rfl ?_
    exact ⟨B2.out, Or.inr ⟨HZ.out, rfl⟩⟩
end Go.Proofs.YtefpaobboimakaaGreat

namespace Go.Proofs.YtefpaobboimakaaGreat
open Go.RowKit Go.Sort Go.Shelf

theorem without1_enters : ∀ args w, (callFunc 41 args).run Tryz.prog w = .ok (.enter 41 args) w := enters_of Tryz.func41 (by kernel_rfl) rfl

/-- The error of Without. -/
def witE (n : Int) (L : List AV) (I : Int) : Int := if chkP n L = 0 then woE n L I else chkP n L

set_option maxRecDepth 100000 in
set_option maxHeartbeats 4000000 in
theorem without_any (n I : Int) (L : List AV) (ao : Option Addr) (cap : Nat) (w : World) (hR : RdV w ao L) :
    Calls Tryz.prog 13 #[.int .i64 n, .slice ao L.length cap, .int .i64 I] w (fun e w' => Below w.heap.size w w' ∧ ((witE n L I = 0 ∧ ∃ W v, Below w.heap.size w W ∧ e = .returned (.tuple #[v, .int .i64 0]) ∧ WoR n.toNat L I W v w') ∨ (witE n L I ≠ 0 ∧ e = .returned (.tuple #[.slice none 0 0, .int .i64 (witE n L I)])))) := by
  have hmf : ∀ (fn : Fn) (first cap : Array Value) (w : World), (Instr.makeFunc fn first cap).run Tryz.prog w = .ok (.func fn first cap) w := fun _ _ _ _ => rfl
  obtain ⟨m, hm⟩ : ∃ m, m = L.length := ⟨_, rfl⟩
  obtain ⟨w0, hw0⟩ : ∃ w0, w0 = ((w.alloc (.cells #[.int .i64 n] 3)).alloc (.cells #[.slice ao m cap] 22)).alloc (.cells #[.int .i64 I] 3) := ⟨_, rfl⟩
  have E0 := Lib.hid (show Below w.heap.size w w0 by rw [hw0]; exact past_three (Below.refl _ _))
  have X0 := Lib.hid (show Bx1 w0 w.heap.size (.int .i64 n) 3 by rw [hw0]; exact ((Bx1.made w _ _).kept (one_more _)).kept (one_more _))
  have X1 := Lib.hid (show Bx1 w0 (w.heap.size + 1) (.slice ao m cap) 22 by rw [hw0]; have := (Bx1.made (w.alloc (.cells #[.int .i64 n] 3)) (.slice ao m cap) 22).kept (one_more (.cells #[.int .i64 I] 3)); simpa using this)
  have X2 := Lib.hid (show Bx1 w0 (w.heap.size + 2) (.int .i64 I) 3 by rw [hw0]; have := Bx1.made ((w.alloc (.cells #[.int .i64 n] 3)).alloc (.cells #[.slice ao m cap] 22)) (.int .i64 I) 3; simpa using this)
  have B1 := Lib.hid (one_more (w1 := w0) (.cells #[.slice ao m cap] 22))
  have hG : RdG (w0.alloc (.cells #[.slice ao m cap] 22)) (some ⟨w0.heap.size, 0, none⟩) [L] := by
    intro t ht
    have : t = 0 := by simpa using ht
    subst this
    refine ⟨_, ao, cap, rfl, ?_, (hR.on E0.out).on B1.out⟩
    rw [addr_add]
    have := (Bx1.made w0 (.slice ao m cap) 22).cell
    rw [hm] at this ⊢
    exact this
  have AN := Lib.hid (answerL_any 41 #[.pointer (some ⟨w.heap.size + 2, 0, none⟩), .pointer (some ⟨w.heap.size, 0, none⟩), .pointer (some ⟨w.heap.size + 1, 0, none⟩)] n (some ⟨w0.heap.size, 0, none⟩) 1 [L] (woE n L I) _ (by simp) hG without1_enters
    (fun W v A => WoR n.toNat L I W v A) (fun _ _ _ b y h hb => h.aside hb y) (fun hc W hW => by
      have hc0 := hc L (by simp)
      have hn := (chk_valid hc0).1
      have e : ((n.toNat : Nat) : Int) = n := by omega
      have h := without1_any n.toNat I L ao cap (w.heap.size + 2) w.heap.size (w.heap.size + 1) W (by rw [e]; exact hc0) (((hR.on E0.out).on B1.out).on hW) (kept hW (kept B1.out X2.out.cell)) (by rw [e]; exact kept hW (kept B1.out X0.out.cell)) (by rw [← hm]; exact kept hW (kept B1.out X1.out.cell))
      rw [e] at h
      exact h))
  have HE := Lib.hid (show ansE n [L] (woE n L I) = witE n L I from ansE_one _ _ _)
  have c0 := X0.out.cell
  have c1 := X1.out.cell
  simp only [List.length_cons, List.length_nil, Nat.zero_add] at AN
  rw [← hm]
  clear hR hG hm
  go_enter Tryz.func13, Tryz.ntmps13
  go_upto_region 1 with (fail)
  rw [← hw0]
  clear hw0
  go_wp2_with fail
  refine AN.out.mono ?_
  rintro e w2 ⟨hb, ⟨he, W, v, hW, rfl, hv⟩ | ⟨he, rfl⟩⟩
  · have B2 := Lib.hid (below_on E0.out (past_one hb))
    have BW := Lib.hid (below_on E0.out (past_one hW))
    rw [HE.out] at he
    have HZ := Lib.hid he
    have HV := Lib.hid hv
    clear hb he hW hv
    go_wp2_with fail
    refine bodyPost_ret (v := .tuple #[v, .int .i64 0]) (by simp [results, Tryz.results13, go_sem]) rfl ?_
    exact ⟨B2.out, Or.inl ⟨HZ.out, W, v, BW.out, rfl, HV.out⟩⟩
  · have B2 := Lib.hid (below_on E0.out (past_one hb))
    rw [HE.out] at he ⊢
    have HZ := Lib.hid he
    clear hb he
    go_wp2_with fail
    refine bodyPost_ret (v := .tuple #[.slice none 0 0, .int .i64 (witE n L I)]) (by simp [results, Tryz.results13, go_sem]) rfl ?_
    exact ⟨B2.out, Or.inr ⟨HZ.out, rfl⟩⟩
end Go.Proofs.YtefpaobboimakaaGreat

namespace Go.Proofs.YtefpaobboimakaaGreat
open Go.RowKit Go.Sort

theorem tidyL_ins (l : List Ln) : tidyL l = if badB l then [bad0] else insL (keepL l) := by
  unfold tidyL; rw [cpt_ins]

def sh1 : List Ln := [⟨[1, 1, 0, 0, 0, 0], 4, false⟩, ⟨[-1, 0, 0, 0, 0, 0], 0, true⟩, ⟨[0, -1, 0, 0, 0, 0], -1, true⟩]

def sh2 : List Ln := [⟨[-1, 0, 0, 0, 0, 0], -1, false⟩, ⟨[0, -1, 0, 0, 0, 0], -2, true⟩]

def sh3 : List Ln := [⟨[1, 0, 0, 0, 0, 0], 2, false⟩, ⟨[-1, 0, 0, 0, 0, 0], -2, true⟩]

theorem sh1_wo : leaveE sh1 1 = 0 := by decide +kernel

theorem sh1_left : (leaveL sh1 1).map (erL 2 1) = [⟨[-1], 0, true⟩, ⟨[1], 3, true⟩] := by
  unfold leaveL
  rw [tidyL_ins]
  decide +kernel

theorem sh1_0 : shL sh1 2 0 = [⟨[-1, 0, 0, 0, 0, 0], 0, true⟩, ⟨[0, -1, 0, 0, 0, 0], -1, true⟩, ⟨[1, 1, 0, 0, 0, 0], 4, false⟩] := by
  show tidyL sh1 = _
  rw [tidyL_ins]
  decide +kernel

theorem sh1_1 : shL sh1 2 1 = [⟨[-1, 0, 0, 0, 0, 0], 0, true⟩, ⟨[1, 0, 0, 0, 0, 0], 3, true⟩] := by
  show leaveL (shL sh1 2 0) 1 = _
  rw [sh1_0]
  unfold leaveL
  rw [tidyL_ins]
  decide +kernel

theorem sh1_2 : shL sh1 2 2 = [] := by
  show leaveL (shL sh1 2 1) 0 = _
  rw [sh1_1]
  unfold leaveL
  rw [tidyL_ins]
  decide +kernel

theorem sh1_e : shE sh1 2 2 = 0 := by
  show (if (if (0 : Int) = 0 then leaveE (shL sh1 2 0) 1 else 0) = 0 then leaveE (shL sh1 2 1) 0 else _) = 0
  rw [sh1_0, sh1_1]
  decide +kernel

theorem sh1_p1 : ptN sh1 2 1 = ([(1, 1)], 0) := by
  unfold ptN
  rw [show (2 : Nat) - (0 + 1) = 1 by rfl, sh1_1]
  decide +kernel

theorem sh1_p2 : ptN sh1 2 2 = ([(1, 1), (2, 1)], 0) := by
  unfold ptN
  rw [show (2 : Nat) - (1 + 1) = 0 by rfl, sh1_0, sh1_p1]
  decide +kernel

theorem sh1_po : poE sh1 2 = 0 := by
  unfold poE ptE empB
  rw [sh1_e, sh1_2, sh1_p2]
  decide +kernel

def in2 : List Ln := infL sh2 2 [2, 3]

theorem in2_0 : shL in2 2 0 = insL (keepL in2) := by
  show tidyL in2 = _
  rw [tidyL_ins, if_neg (by decide +kernel)]

theorem in2_1 : shL in2 2 1 = insL (keepL (zrs (insL (keepL in2)) 1 ++ sums (insL (keepL in2)) 1)) := by
  show leaveL (shL in2 2 0) 1 = _
  rw [in2_0]
  unfold leaveL
  rw [tidyL_ins, if_neg (by decide +kernel)]

theorem in2_2 : shL in2 2 2 = [⟨[0, 0, -1, 0, 0, 0], -8, true⟩] := by
  show leaveL (shL in2 2 1) 0 = _
  rw [in2_1]
  unfold leaveL
  rw [tidyL_ins]
  decide +kernel

theorem in2_e : shE in2 2 2 = 0 := by
  show (if (if (0 : Int) = 0 then leaveE (shL in2 2 0) 1 else 0) = 0 then leaveE (shL in2 2 1) 0 else _) = 0
  rw [in2_1, in2_0]
  decide +kernel

theorem in2_n : infN sh2 2 [2, 3] = ((⟨(8, 1), true, true⟩, en0), 0) := by
  unfold infN
  rw [show infL sh2 2 [2, 3] = in2 from rfl, in2_2]
  kernel_rfl

theorem in2_i : infE sh2 2 [2, 3] = 0 := by
  unfold infE
  rw [in2_n, show infL sh2 2 [2, 3] = in2 from rfl, in2_e]
  decide +kernel

theorem sh3_0 : shL sh3 1 0 = [⟨[-1, 0, 0, 0, 0, 0], -2, true⟩, ⟨[1, 0, 0, 0, 0, 0], 2, false⟩] := by
  show tidyL sh3 = _
  rw [tidyL_ins]
  decide +kernel

theorem sh3_1 : shL sh3 1 1 = [bad0] := by
  show leaveL (shL sh3 1 0) 0 = _
  rw [sh3_0]
  unfold leaveL
  rw [tidyL_ins]
  decide +kernel

theorem sh3_e : shE sh3 1 1 = 0 := by
  show (if (0 : Int) = 0 then leaveE (shL sh3 1 0) 0 else _) = 0
  rw [sh3_0]
  decide +kernel

theorem sh3_b : empB sh3 1 = true := by
  unfold empB
  rw [sh3_1]
  decide +kernel
end Go.Proofs.YtefpaobboimakaaGreat
