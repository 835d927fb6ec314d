/- Contracts of the statements' far, beyond, lent. -/
import Derived.Test.YtbhaoaobhgilkaaGreatWm3
import Derived.Test.YtbhaoaobhgilkaaGreatWm20
import Derived.Test.YtbhaoaobhgilkaaGreatWm34

namespace Go.Proofs.YtbhaoaobhgilkaaGreat
open Go.RowKit Go.Sort Go.Shelf

def FarOk (L : List AV) (most : Int) : Prop := L.length ≤ 2000 ∧ (∀ y ∈ L, y.a.length ≤ 20) ∧ ((L.length : Int) ≤ most ∨ 1000 < L.length)

def FarRes (L : List AV) (most : Int) (w : World) (e : Ending) (w' : World) : Prop := ∃ b, e = .returned (.bool b) ∧ w' = w ∧ (b = false → FarOk L most)

def ByRes (L M : List AV) (most : Int) (xa : List Int) (P : List Pq) (aa : List Int) (w : World) (e : Ending) (w' : World) : Prop := ∃ b, e = .returned (.bool b) ∧ Below w.heap.size w w' ∧ (b = false → FarOk L most ∧ FarOk M most ∧ xa.length ≤ 20 ∧ P.length ≤ 20 ∧ aa.length ≤ 20)

theorem AvAt.first {w : World} {p : Addr} {t : Nat} {y : AV} (h : AvAt w (p.add (t * 3)) y) : w.cell? (p.add (t * 3)) = some (.slice y.q y.a.length y.c) := h.three.1

set_option maxRecDepth 100000 in
set_option maxHeartbeats 4000000 in
theorem far_any (L : List AV) (most : Int) (ao : Option Addr) (cap : Nat) (w : World) (hR : RdV w ao L) :
    Calls Tryz.prog 36 #[.slice ao L.length cap, .int .i64 most] w (FarRes L most w) := by
  obtain ⟨m, hm⟩ : ∃ m, m = L.length := ⟨_, rfl⟩
  have HM := Lib.hid hm
  have HR := Lib.hid hR
  rw [← hm]
  clear hm hR
  go_enter Tryz.func36, Tryz.ntmps36
  go_wp2_with fail
  go_loopw [5] (fun s wr => ∃ t : Nat, t ≤ m ∧ t ≤ 2000 ∧ s = .int .i64 t ∧ Hid (∀ k, ∀ h : k < L.length, k < t → L[k].a.length ≤ 20) ∧ wr = w) (fun s _ => m - (intOf s).toNat)
  case atStart => exact ⟨0, by omega, by omega, rfl, Lib.hid (fun k _ hk => by omega), rfl⟩
  case round =>
    obtain ⟨t, ht, ht2, rfl, HT, rfl⟩ := hrel
    by_cases htn : t < m
    · by_cases ht3 : t < 2000
      · have h1 : t < L.length := by have := HM.out; omega
        obtain ⟨a, ea, hA⟩ := HR.out.at_ t h1
        have NX := Lib.hid (show L[t].a.length ≤ 20 → ∀ k, ∀ h : k < L.length, k < t + 1 → L[k].a.length ≤ 20 from fun h k g hk => by
          by_cases e : k = t
          · subst e; exact h
          · exact HT.out k g (by omega))
        have a0 := hA.first
        generalize L[t] = y at *
        obtain ⟨n, hn⟩ : ∃ n, n = y.a.length := ⟨_, rfl⟩
        rw [← hn] at a0 NX
        subst ea
        clear hA h1 hn
        by_cases h20 : 20 < n
        · have h20' : (20 : Int) < n := by omega
          go_wp2_with fail
          go_ret
          exact ⟨_, rfl, rfl, fun h => by cases h⟩
        · have h20' : ¬ (20 : Int) < n := by omega
          have HT2 := Lib.hid (NX.out (by omega))
          go_wp2_with fail
          go_roundw
          case rel => exact ⟨t + 1, by omega, by omega, by go_num, HT2, trivial⟩
          case measure => simp [intOf]; omega
      · have h2 : 2000 < m := by omega
        have h2' : (2000 : Int) < m := by omega
        go_wp2_with fail
        go_ret
        exact ⟨_, rfl, rfl, fun h => by first | (simp at h; done) | (simp at h; omega)⟩
    · have FK := Lib.hid (show (m : Int) ≤ most ∨ 1000 < m → m ≤ 2000 → FarOk L most from fun h h' => by
        refine ⟨by have := HM.out; omega, fun y hy => ?_, by rw [← HM.out]; exact h⟩
        obtain ⟨k, hk, rfl⟩ := List.getElem_of_mem hy
        exact HT.out k hk (by have := HM.out; omega))
      by_cases h5 : 2000 < m
      · exact absurd h5 (by omega)
      by_cases h3 : most < m
      · go_wp2_with fail
        go_ret
        exact ⟨_, rfl, rfl, fun h => FK.out (Or.inr (by first | (simp at h; done) | (simp at h; omega))) (by omega)⟩
      · go_wp2_with fail
        go_ret
        exact ⟨_, rfl, rfl, fun h => FK.out (Or.inl (by omega)) (by omega)⟩

set_option maxRecDepth 100000 in
set_option maxHeartbeats 4000000 in
theorem beyond_any (N I most xb : Int) (xs : Bool) (L M : List AV) (xa aa : List Int) (P : List Pq) (la ma xq pa aq : Option Addr) (lc mc xc pc ac : Nat) (w : World) (hR : RdV w la L) (hS : RdV w ma M) :
    Calls Tryz.prog 9 #[.agg #[.int .i64 N, .slice la L.length lc, .slice ma M.length mc, .slice xq xa.length xc, .int .i64 xb, .bool xs, .int .i64 I, .slice pa P.length pc, .slice aq aa.length ac], .int .i64 most] w
      (ByRes L M most xa P aa w) := by
  obtain ⟨l1, e1⟩ : ∃ n, n = L.length := ⟨_, rfl⟩
  obtain ⟨l2, e2⟩ : ∃ n, n = M.length := ⟨_, rfl⟩
  obtain ⟨l3, e3⟩ : ∃ n, n = xa.length := ⟨_, rfl⟩
  obtain ⟨l4, e4⟩ : ∃ n, n = P.length := ⟨_, rfl⟩
  obtain ⟨l5, e5⟩ : ∃ n, n = aa.length := ⟨_, rfl⟩
  obtain ⟨w0, hw0⟩ : ∃ w0, w0 = w.alloc (.cells #[.int .i64 N, .slice la l1 lc, .slice ma l2 mc, .slice xq l3 xc, .int .i64 xb, .bool xs, .int .i64 I, .slice pa l4 pc, .slice aq l5 ac] 28) := ⟨_, rfl⟩
  have E0 := Lib.hid (show Below w.heap.size w w0 by rw [hw0]; exact one_more _)
  have hq := heap_alloc_last w (.cells #[.int .i64 N, .slice la l1 lc, .slice ma l2 mc, .slice xq l3 xc, .int .i64 xb, .bool xs, .int .i64 I, .slice pa l4 pc, .slice aq l5 ac] 28)
  rw [← hw0] at hq
  have d1 : w0.cell? ⟨w.heap.size, 1, none⟩ = some (.slice la l1 lc) := by rw [cell_of_row w0 _ 1 _ _ _ hq]; rfl
  have d2 : w0.cell? ⟨w.heap.size, 2, none⟩ = some (.slice ma l2 mc) := by rw [cell_of_row w0 _ 2 _ _ _ hq]; rfl
  have d3 : w0.cell? ⟨w.heap.size, 3, none⟩ = some (.slice xq l3 xc) := by rw [cell_of_row w0 _ 3 _ _ _ hq]; rfl
  have d7 : w0.cell? ⟨w.heap.size, 7, none⟩ = some (.slice pa l4 pc) := by rw [cell_of_row w0 _ 7 _ _ _ hq]; rfl
  have d8 : w0.cell? ⟨w.heap.size, 8, none⟩ = some (.slice aq l5 ac) := by rw [cell_of_row w0 _ 8 _ _ _ hq]; rfl
  have F1 := Lib.hid (far_any L most la lc w0 (hR.on E0.out))
  have F2 := Lib.hid (far_any M most ma mc w0 (hS.on E0.out))
  rw [← e1] at F1
  rw [← e2] at F2
  have fin := Lib.hid (show FarOk L most → FarOk M most → l3 ≤ 20 → l4 ≤ 20 → l5 ≤ 20 → FarOk L most ∧ FarOk M most ∧ xa.length ≤ 20 ∧ P.length ≤ 20 ∧ aa.length ≤ 20 from fun a b c d e => ⟨a, b, by omega, by omega, by omega⟩)
  rw [← e1, ← e2, ← e3, ← e4, ← e5]
  clear hR hS hq e1 e2 e3 e4 e5
  go_enter Tryz.func9, Tryz.ntmps9
  go_upto_region 1 with (fail)
  rw [← hw0]
  clear hw0
  go_wp2_with fail
  refine F1.out.mono ?_
  rintro e w1 ⟨b, rfl, hw, h1⟩
  rw [hw]
  clear hw F1
  have H1 := Lib.hid h1
  clear h1
  cases b
  case true =>
    go_wp2_with fail
    go_ret
    exact ⟨_, rfl, E0.out, fun h => by first | (simp at h; done) | (simp at h; omega)⟩
  go_wp2_with fail
  refine F2.out.mono ?_
  rintro e w1 ⟨b, rfl, hw, h1⟩
  rw [hw]
  clear hw F2
  have H2 := Lib.hid h1
  clear h1
  cases b
  case true =>
    go_wp2_with fail
    go_ret
    exact ⟨_, rfl, E0.out, fun h => by first | (simp at h; done) | (simp at h; omega)⟩
  by_cases g3 : 20 < l3
  · go_wp2_with fail
    go_ret
    exact ⟨_, rfl, E0.out, fun h => by first | (simp at h; done) | (simp at h; omega)⟩
  by_cases g4 : 20 < l4
  · go_wp2_with fail
    go_ret
    exact ⟨_, rfl, E0.out, fun h => by first | (simp at h; done) | (simp at h; omega)⟩
  by_cases g5 : 20 < l5
  · go_wp2_with fail
    go_ret
    exact ⟨_, rfl, E0.out, fun h => by first | (simp at h; done) | (simp at h; omega)⟩
  have F9 := Lib.hid (fin.out (H1.out (by first | rfl | trivial)) (H2.out (by first | rfl | trivial)) (by omega) (by omega) (by omega))
  go_wp2_with fail
  go_ret
  exact ⟨_, rfl, E0.out, fun _ => F9.out⟩

theorem OwnI.grownO {w w' : World} {B g cap : Nat} {r : Option Nat} {a : List Int} (h : OwnI w B g cap a) (hg : w.grownBy w' r) (hne : r ≠ some g) : OwnI w' B g cap a :=
  World.ownsRow.kept h hg (Or.inr (fun e => hne e.symm))

def OwnN (w : World) (B : Nat) (R : List AV) : Prop := ∀ y ∈ R, ∃ g, y.q = some ⟨g, 0, none⟩ ∧ OwnI w B g y.c y.a

theorem OwnN.on {w w' : World} {B : Nat} {R : List AV} (h : OwnN w B R) (hb : Below w.heap.size w w') : OwnN w' B R := fun y hy => by
  obtain ⟨g, e, o⟩ := h y hy
  exact ⟨g, e, o.on hb⟩

set_option maxRecDepth 100000 in
set_option maxHeartbeats 4000000 in
theorem lent_any (L : List AV) (ao : Option Addr) (cap : Nat) (w : World) (hR : RdV w ao L) (hl : L.length ≤ 100000) (hY : ∀ y ∈ L, y.a.length ≤ 1000 ∧ NilOk y) :
    Calls Tryz.prog 11 #[.slice ao L.length cap] w (fun e w' => ∃ v R, e = .returned v ∧ OwnV w' w.heap.size v R ∧ R.map lnV = L.map lnV ∧ OwnN w' w.heap.size R ∧ Below w.heap.size w w') := by
  obtain ⟨m, hm⟩ : ∃ m, m = L.length := ⟨_, rfl⟩
  have HM := Lib.hid hm
  have HR := Lib.hid hR
  have HY := Lib.hid hY
  have hle : m ≤ 100000 := by omega
  rw [← hm]
  clear hm hR hl hY
  go_enter Tryz.func11, Tryz.ntmps11
  go_wp2_with fail
  go_loopw [3, 4] (fun v s wr => ∃ t : Nat, t ≤ m ∧ s = .int .i64 t ∧ Hid (∃ R, OwnV wr w.heap.size v R ∧ R.map lnV = (L.take t).map lnV ∧ OwnN wr w.heap.size R ∧ Below w.heap.size w wr)) (fun _ s _ => m - (intOf s).toNat)
  case atStart => exact ⟨0, by omega, rfl, Lib.hid ⟨[], OwnV.empty _ _, rfl, fun y h => by simp at h, Below.refl _ _⟩⟩
  case round =>
    obtain ⟨t, ht, rfl, HT⟩ := hrel
    by_cases htn : t < m
    · have h1 : t < L.length := by have := HM.out; omega
      obtain ⟨R, hO, hE, hN, hB⟩ := HT.out
      have HO := Lib.hid hO
      have HN := Lib.hid hN
      have HB := Lib.hid hB
      obtain ⟨a0, ea, hA⟩ := HR.out.at_ t h1
      have YY := Lib.hid (HY.out _ (List.getElem_mem h1))
      have YN := Lib.hid (HR.out.nums _ (List.getElem_mem h1))
      have RL := Lib.hid (show R.length = t by have := congrArg List.length hE; simpa [Nat.min_eq_left (Nat.le_of_lt h1)] using this)
      have HX := Lib.hid (show (L.take (t + 1)).map lnV = R.map lnV ++ [lnV L[t]] by rw [List.take_succ_eq_append_getElem h1, List.map_append, hE]; rfl)
      generalize L[t] = y at *
      obtain ⟨c0, c1, c2⟩ := hA.three
      obtain ⟨q, c, a, b, s⟩ := y
      simp only at c0 c1 c2 YY YN
      obtain ⟨n, hn⟩ : ∃ n, n = a.length := ⟨_, rfl⟩
      rw [← hn] at c0
      have NA := Lib.hid hn
      have C0 := Lib.hid c0
      have C1 := Lib.hid c1
      have C2 := Lib.hid c2
      subst ea
      clear hA h1 hn c0 c1 c2 hO hE hN hB HT
      go_upto_region 5 with (fail)
      have KS := Lib.hid (show ∀ W, Below w.heap.size w W → (W.cell? (a0.add (t * 3)) = some (.slice q n c) ∧ W.cell? ⟨(a0.add (t * 3)).block, (a0.add (t * 3)).off + 1, none⟩ = some (.int .i64 b) ∧ W.cell? ⟨(a0.add (t * 3)).block, (a0.add (t * 3)).off + 2, none⟩ = some (.bool s)) from fun W h => ⟨kept h C0.out, kept h C1.out, kept h C2.out⟩)
      obtain ⟨wc, hwc⟩ : ∃ wc, wc = wr.drew := ⟨_, rfl⟩
      have Bc := Lib.hid (show Below wr.heap.size wr wc by rw [hwc]; exact (Below.refl _ _).drew)
      refine wp_region_held_drew (S := (fun W => (W.cell? (a0.add (t * 3)) = some (.slice q n c) ∧ W.cell? ⟨(a0.add (t * 3)).block, (a0.add (t * 3)).off + 1, none⟩ = some (.int .i64 b) ∧ W.cell? ⟨(a0.add (t * 3)).block, (a0.add (t * 3)).off + 2, none⟩ = some (.bool s)))) (by kernel_rfl) (by rw [← hwc]; exact KS.out _ (below_on HB.out Bc.out)) (fun h0 => ?_)
      rw [← hwc] at h0 ⊢
      clear hwc
      refine tkH (i := 0) (v := ?v1) rfl (Or.inl ⟨by rfl, ?hy1⟩) h0 ?rest1
      case hy1 => (intro w' hS; (try dsimp only at hS); go_simp; try (with_reducible rfl))
      simp only [Act.put, sA, sB, sD, sE, sF]
      refine tkH (i := 2) (v := ?v2) rfl (Or.inl ⟨by rfl, ?hy2⟩) h0 ?rest2
      case hy2 => (intro w' hS; (try dsimp only at hS); go_simp; try (with_reducible rfl))
      simp only [Act.put, sZ]
      refine tkH (i := 3) (v := ?v3) rfl (Or.inl ⟨by rfl, ?hy3⟩) h0 ?rest3
      case hy3 => (intro w' hS; (try dsimp only at hS); go_simp; try (with_reducible rfl))
      simp only [Act.put, sZ]
      refine tkH (i := 4) (v := ?v4) rfl (Or.inl ⟨by rfl, ?hy4⟩) h0 ?rest4
      case hy4 => (intro w' hS; (try dsimp only at hS); go_simp; try (with_reducible rfl))
      simp only [Act.put, sZ]
      refine tkH (i := 5) (v := ?v5) rfl (Or.inl ⟨by rfl, ?hy5⟩) h0 ?rest5
      case hy5 => (intro w' hS; (try dsimp only at hS); go_simp; try (with_reducible rfl))
      simp only [Act.put, sZ]
      refine tkH (i := 6) (v := ?v6) rfl (Or.inl ⟨by rfl, ?hy6⟩) h0 ?rest6
      case hy6 => (intro w' hS; (try dsimp only at hS); go_simp; try (with_reducible rfl))
      simp only [Act.put, sZ]
      refine tkH (i := 8) (v := ?v7) rfl (Or.inl ⟨by rfl, ?hy7⟩) h0 ?rest7
      case hy7 => (intro w' hS; (try dsimp only at hS); go_simp; try (with_reducible rfl))
      simp only [Act.put, sZ]
      refine tkH (i := 9) (v := ?v8) rfl (Or.inl ⟨by rfl, ?hy8⟩) h0 ?rest8
      case hy8 => (intro w' hS; (try dsimp only at hS); go_simp; try (with_reducible rfl))
      simp only [Act.put, sZ]
      refine tkH (i := 10) (v := ?v9) rfl (Or.inl ⟨by rfl, ?hy9⟩) h0 ?rest9
      case hy9 => (intro w' hS; (try dsimp only at hS); go_simp; try (with_reducible rfl))
      simp only [Act.put, sZ]
      refine tkH (i := 11) (v := ?v10) rfl (Or.inl ⟨by rfl, ?hy10⟩) h0 ?rest10
      case hy10 => (intro w' hS; (try dsimp only at hS); go_simp; try (with_reducible rfl))
      simp only [Act.put, sZ]
      refine tkH (i := 12) (v := ?v11) rfl (Or.inl ⟨by rfl, ?hy11⟩) h0 ?rest11
      case hy11 => (intro w' hS; (try dsimp only at hS); go_simp; try (with_reducible rfl))
      simp only [Act.put, sZ]
      refine tkH (i := 13) (v := ?v12) rfl (Or.inl ⟨by rfl, ?hy12⟩) h0 ?rest12
      case hy12 => (intro w' hS; (try dsimp only at hS); go_simp; try (with_reducible rfl))
      simp only [Act.put, sZ]
      refine tkH (i := 14) (v := ?v13) rfl (Or.inl ⟨by rfl, ?hy13⟩) h0 ?rest13
      case hy13 => (intro w' hS; (try dsimp only at hS); go_simp; try (with_reducible rfl))
      simp only [Act.put, sZ]
      refine tkH (i := 15) (v := ?v14) rfl (Or.inl ⟨by rfl, ?hy14⟩) h0 ?rest14
      case hy14 => (intro w' hS; (try dsimp only at hS); go_simp; try (with_reducible rfl))
      simp only [Act.put, sZ]
      refine tkH (i := 16) (v := ?v15) rfl (Or.inl ⟨by rfl, ?hy15⟩) h0 ?rest15
      case hy15 => (intro w' hS; (try dsimp only at hS); go_simp; try (with_reducible rfl))
      simp only [Act.put, sZ]
      refine tkH (i := 17) (v := ?v16) rfl (Or.inl ⟨by rfl, ?hy16⟩) h0 ?rest16
      case hy16 => (intro w' hS; (try dsimp only at hS); go_simp; try (with_reducible rfl))
      simp only [Act.put, sZ]
      refine wpAnyH_ready (rs := [1]) (by kernel_rfl) (by simp) (AllReadyH.cons rfl (fun K hK => ?_) AllReadyH.nil)
      rw [if_pos (by rfl)]
      go_simp
      have hb := one_more (w1 := wc) (.cells #[] 2)
      have hP := OwnI.empty wc w.heap.size (below_on HB.out Bc.out).size
      have hz := Bc.out.size
      obtain ⟨b0, hbb⟩ : ∃ b0, b0 = wc.heap.size := ⟨_, rfl⟩
      rw [← hbb] at hP hz
      obtain ⟨wn, hwn⟩ : ∃ wn, wn = wc.alloc (.cells #[] 2) := ⟨_, rfl⟩
      rw [← hwn] at hb hP ⊢
      try rw [← hbb]
      have Bc := Lib.hid (below_on Bc.out hb)
      have P0 := Lib.hid hP
      have Z0 := Lib.hid hz
      clear hb hP hz hbb hwn
      obtain ⟨wc, hwc⟩ : ∃ wc, wc = wn := ⟨_, rfl⟩
      rw [← hwc] at Bc P0 ⊢
      clear hwc
      go_simp
      refine hK.out _ _ (KS.out _ (below_on HB.out Bc.out)) (fun h0_1 => ?_)
      clear hK K h0
      refine wpAnyH_ready (rs := [7]) (by kernel_rfl) (by simp) (AllReadyH.cons rfl (fun K hK => ?_) AllReadyH.nil)
      rw [if_pos (by rfl)]
      obtain ⟨g, c9, we, hrun, ho, hg, hgb, _⟩ := appI_run P0.out (YN.out.on (below_on HB.out Bc.out)) YY.out.2.1 (by have := YY.out.1; omega) (below_on HB.out Bc.out).size 23 (c := c)
      rw [← NA.out] at hrun
      refine Lib.wp_append_run _ _ _ 23 23 rfl (.slice (some ⟨b0, 0, none⟩) 0 0) (.slice q n c) rfl rfl _ _ hrun ?_
      have hz2 := Bc.out.size
      have ZG := Lib.hid (show wr.heap.size ≤ g by have := Z0.out; omega)
      have Bc := Lib.hid (Below.grown Bc.out hg Bc.out.size (fun k hk => by have := Z0.out; injection hk with hk; omega))
      have G5 := Lib.hid ho
      clear hrun ho hg hgb hz2
      obtain ⟨wc, hwc⟩ : ∃ wc, wc = we := ⟨_, rfl⟩
      rw [← hwc] at Bc G5 ⊢
      clear hwc
      try simp only [Act.put, sZ]
      refine hK.out _ _ (KS.out _ (below_on HB.out Bc.out)) (fun h0_2 => ?_)
      clear hK K h0_1
      refine tkH (i := 18) (v := ?v17) rfl (Or.inl ⟨by rfl, ?hy17⟩) h0_2 ?rest17
      case hy17 => (intro w' hS; (try dsimp only at hS); go_simp; try (with_reducible rfl))
      simp only [Act.put, sZ]
      refine wpAnyH_ready (rs := [19]) (by kernel_rfl) (by simp) (AllReadyH.cons rfl (fun K hK => ?_) AllReadyH.nil)
      rw [if_pos (by rfl)]
      refine wp_bv1 _ rfl (AV.mk (some ⟨g, 0, none⟩) c9 a b s) (by rw [NA.out]; rfl) ?_
      have hb := one_more (w1 := wc) (.cells (AV.mk (some ⟨g, 0, none⟩) c9 a b s).cs 25)
      have hP := BkV.made wc (AV.mk (some ⟨g, 0, none⟩) c9 a b s)
      obtain ⟨b5, hbb⟩ : ∃ b5, b5 = wc.heap.size := ⟨_, rfl⟩
      rw [← hbb] at hP
      obtain ⟨wn, hwn⟩ : ∃ wn, wn = wc.alloc (.cells (AV.mk (some ⟨g, 0, none⟩) c9 a b s).cs 25) := ⟨_, rfl⟩
      rw [← hwn] at hb hP ⊢
      try rw [← hbb]
      have Bc := Lib.hid (below_on Bc.out hb)
      have P5 := Lib.hid hP
      have G5 := Lib.hid (G5.out.on hb)
      clear hb hP hbb hwn
      obtain ⟨wc, hwc⟩ : ∃ wc, wc = wn := ⟨_, rfl⟩
      rw [← hwc] at Bc P5 G5 ⊢
      clear hwc
      try simp only [Act.put, sZ]
      refine hK.out _ _ (KS.out _ (below_on HB.out Bc.out)) (fun h0_3 => ?_)
      clear hK K h0_2
      refine wpAnyH_ready (rs := [20]) (by kernel_rfl) (by simp) (AllReadyH.cons rfl (fun K hK => ?_) AllReadyH.nil)
      rw [if_pos (by rfl)]
      obtain ⟨v9, we, hrun, ho, hg, hf⟩ := appendV_run (HO.out.on Bc.out) (c := 1) P5.out.avAt (show GoodV wc (Value.ownBlock _) (AV.mk (some ⟨g, 0, none⟩) c9 a b s) from ⟨G5.out.rd, fun p e => by (cases e; exact ⟨fun k => (by have q : g < wr.heap.size := (HO.out.lt _ k).2; have := ZG.out; omega), G5.out.lt.2⟩), fun e => by (cases e), G5.out.capOk⟩) (by have := RL.out; omega) (below_on HB.out Bc.out).size 22
      refine Lib.wp_append_run _ _ _ 22 22 rfl _ (.slice (some ⟨b5, 0, none⟩) 1 1) rfl rfl _ _ hrun ?_
      have BW := Lib.hid (Below.grown (below_on HB.out Bc.out) hg (below_on HB.out Bc.out).size (fun k hk => (HO.out.lt k hk).1))
      have O9 := Lib.hid ho
      have N9 := Lib.hid (show OwnN we w.heap.size (R ++ [(AV.mk (some ⟨g, 0, none⟩) c9 a b s)]) from fun z hz => by
        rcases List.mem_append.1 hz with h | h
        · obtain ⟨g', e, o⟩ := (HN.out.on Bc.out) z h
          exact ⟨g', e, o.grownO hg ((HO.out.far z h _ e).1)⟩
        · rw [List.mem_singleton] at h; subst h
          exact ⟨g, rfl, G5.out.grownO hg (fun k => (by have q : g < wr.heap.size := (HO.out.lt _ k).2; have := ZG.out; omega))⟩)
      clear hrun ho hg hf
      try simp only [Act.put, sZ]
      refine hK.out _ _ (KS.out _ BW.out) (fun h0_4 => ?_)
      clear hK K h0_3
      refine tkH (i := 21) (v := ?v18) rfl (Or.inl ⟨by rfl, ?hy18⟩) h0_4 ?rest18
      case hy18 => (intro w' hS; (try dsimp only at hS); go_simp; try (with_reducible rfl))
      simp only [Act.put, sA, sB, sC, sD]
      try simp only [sF]
      try simp only [sE]
      refine wpAnyH_done (by kernel_rfl) ?_ _
      go_wp2_with fail
      go_roundw
      case rel => exact ⟨t + 1, by omega, by go_num, Lib.hid ⟨_, O9.out, by rw [HX.out, List.map_append]; rfl, N9.out, BW.out⟩⟩
      case measure => simp [intOf]; omega
    · have e : L.take t = L := List.take_of_length_le (by have := HM.out; omega)
      rw [e] at HT
      have HT2 := Lib.hid HT.out
      clear e HT
      go_wp2_with fail
      go_ret
      obtain ⟨R, h1, h2, h3, h4⟩ := HT2.out
      exact ⟨_, R, rfl, h1, h2, h3, h4⟩
end Go.Proofs.YtbhaoaobhgilkaaGreat
