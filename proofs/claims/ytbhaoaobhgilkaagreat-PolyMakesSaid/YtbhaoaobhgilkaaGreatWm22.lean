/- The closures of package poly's ends. -/
import Derived.Test.YtbhaoaobhgilkaaGreatWm3
import Derived.Test.YtbhaoaobhgilkaaGreatWm21
import Derived.Test.YtbhaoaobhgilkaaGreatWm13
import Derived.Deep.RegionHeld3

namespace Go.Proofs.YtbhaoaobhgilkaaGreat
open Go.RowKit Go.Sort Go.Shelf

structure En where
  v : Pq
  ex : Bool
  op : Bool

def En.cells (x : En) : List Value := [.int .i64 x.v.1, .int .i64 x.v.2, .bool x.ex, .bool x.op]

def En.cs (x : En) : Array Value := ⟨x.cells⟩

def en0 : En := ⟨(0, 0), false, false⟩

def EnB (w : World) (b : Nat) (x : En) : Prop := w.heap[b]? = some (.cells x.cs 105 (0, 0))

theorem EnB.lt {w : World} {b : Nat} {x : En} (h : EnB w b x) : b < w.heap.size := by
  by_cases e : b < w.heap.size
  · exact e
  · have := h; unfold EnB at this; rw [Array.getElem?_eq_none (by omega)] at this; cases this

theorem EnB.made (w : World) (x : En) : EnB (w.alloc (.cells x.cs 105)) w.heap.size x := heap_alloc_last w _

theorem EnB.kept {w w' : World} {b : Nat} {x : En} (h : EnB w b x) (hb : Below w.heap.size w w') : EnB w' b x := (hb.block b h.lt).trans h

theorem EnB.cell {w : World} {b : Nat} {x : En} (h : EnB w b x) (k : Nat) : w.cell? ⟨b, k, none⟩ = x.cs[k]? := cell_of_row _ _ k _ _ _ h

theorem EnB.facts {w : World} {b : Nat} {x : En} (h : EnB w b x) : w.cell? ⟨b, 0, none⟩ = some (.int .i64 x.v.1) ∧ w.cell? ⟨b, 1, none⟩ = some (.int .i64 x.v.2) ∧ w.cell? ⟨b, 2, none⟩ = some (.bool x.ex) ∧ w.cell? ⟨b, 3, none⟩ = some (.bool x.op) :=
  ⟨h.cell 0, h.cell 1, h.cell 2, h.cell 3⟩

theorem EnB.setRow {w : World} {b : Nat} {x y : En} (h : EnB w b x) : EnB (w.setRow b y.cs) b y := setRow_heap w b _ _ _ _ h

theorem EnB.aside {w : World} {b : Nat} {x : En} (h : EnB w b x) {y j : Nat} (hne : b ≠ y) (v : Value) : EnB (w.setCell ⟨y, j, none⟩ v) b x := (heap_setCell_other w ⟨y, j, none⟩ b v hne).trans h

theorem En.one (x : En) : x.cs.all (·.oneCell') = true := by simp [En.cs, En.cells, Value.oneCell']

theorem zero_en : (Tryz.prog.info? 105).map (·.size) = some 4 := by kernel_rfl

theorem ends1_any (g : Nat) (side : Int) (pb pi : Value) (w : World) : Calls Tryz.prog 142 #[.pointer (some ⟨g, 0, none⟩), .int .i64 side, pb, pi] w (fun e w' => e = .returned (.func (.func 143) #[] #[pb, pi, .pointer (some ⟨w.heap.size, 0, none⟩), .pointer (some ⟨w.heap.size + 1, 0, none⟩)])
    ∧ w' = (w.alloc (.cells #[.pointer (some ⟨g, 0, none⟩)] 149)).alloc (.cells #[.int .i64 side] 3)) := by
  have hmf : ∀ (fn : Fn) (first cap : Array Value) (w : World), (Instr.makeFunc fn first cap).run Tryz.prog w = .ok (.func fn first cap) w := fun _ _ _ _ => rfl
  go_enter Tryz.func142, Tryz.ntmps142
  go_wp2_with (rw [hmf])
  go_ret
  exact ⟨rfl, rfl⟩

def fdE (x : Ln) (i : Nat) (ps : List Pq) : Int := if (atN x.a ps ps.length).2 ≠ 0 then (atN x.a ps ps.length).2 else
  if sbE (x.b, 1) (atN x.a ps ps.length).1 ≠ 0 then sbE (x.b, 1) (atN x.a ps ps.length).1 else dvE (sbR (x.b, 1) (atN x.a ps ps.length).1) (gA x.a i, 1)

def fdV (x : Ln) (i : Nat) (ps : List Pq) : Pq := dvR (sbR (x.b, 1) (atN x.a ps ps.length).1) (gA x.a i, 1)

def clE (c : En) (x : Ln) (i : Nat) (ps : List Pq) : Int := if fdE x i ps ≠ 0 then fdE x i ps else if c.ex then cmE (fdV x i ps) c.v else 0

def clR (side : Int) (c : En) (x : Ln) (i : Nat) (ps : List Pq) : En :=
  if c.ex then (if 0 < side * cmR (fdV x i ps) c.v ∨ (side * cmR (fdV x i ps) c.v = 0 ∧ x.s = true) then ⟨fdV x i ps, true, x.s⟩ else c) else ⟨fdV x i ps, true, x.s⟩

set_option maxRecDepth 100000 in
set_option maxHeartbeats 4000000 in
theorem ends2_any (side : Int) (c : En) (x : Ln) (i : Nat) (ps : List Pq) (ao : Option Addr) (cap pb pi pc pd g : Nat) (w : World) (hs : side = 1 ∨ side = -1) (hc : I2 c.v) (hx : Rg 2147483647 x) (hi : i < 6) (hn : ps.length ≤ 6) (hR : Rd2 w ao ps) (hI : ∀ t, t < ps.length → I2 (gp ps t))
    (c0 : w.cell? ⟨pb, 0, none⟩ = some (.slice ao ps.length cap)) (c1 : w.cell? ⟨pi, 0, none⟩ = some (.int .i64 i)) (c2 : w.cell? ⟨pc, 0, none⟩ = some (.pointer (some ⟨g, 0, none⟩))) (c3 : w.cell? ⟨pd, 0, none⟩ = some (.int .i64 side)) (hg : EnB w g c) :
    Calls Tryz.prog 143 #[.agg x.cs, .pointer (some ⟨pb, 0, none⟩), .pointer (some ⟨pi, 0, none⟩), .pointer (some ⟨pc, 0, none⟩), .pointer (some ⟨pd, 0, none⟩)] w (fun e w' => (clE c x i ps = 0 ∧ e = .returned (.tuple #[]) ∧ EnB w' g (clR side c x i ps) ∧ GB g w w') ∨ (clE c x i ps ≠ 0 ∧ e = .panicked (pan (clE c x i ps)) ∧ Below w.heap.size w w')) := by
  obtain ⟨w0, hw0⟩ : ∃ w0, w0 = w.alloc (.cells x.cs 82) := ⟨_, rfl⟩
  have K0 := Lib.hid (show Bk w0 w.heap.size x by rw [hw0]; exact Bk.made w x hx.len)
  have E0 := Lib.hid (show Below w.heap.size w w0 by rw [hw0]; exact one_more _)
  have C0 := Lib.hid (kept E0.out c0)
  have C1 := Lib.hid (kept E0.out c1)
  have C2 := Lib.hid (kept E0.out c2)
  have C3 := Lib.hid (kept E0.out c3)
  have HG := Lib.hid (hg.kept E0.out)
  have GL := Lib.hid hg.lt
  obtain ⟨n, hN⟩ : ∃ n, n = ps.length := ⟨_, rfl⟩
  rw [← hN] at C0
  have XB := Lib.hid (show I2 (x.b, 1) by have := hx.b; exact wh_64 (by unfold I64; omega))
  have XA := Lib.hid (show I2 (gA x.a i, 1) by have := hx.at hi; exact wh_64 (by unfold I64; omega))
  have AT := Lib.hid (fun W (h : Below w.heap.size w W) => at_any x ps ao cap W hx hn (hR.on h) hI)
  rw [← hN] at AT
  obtain ⟨q, hq⟩ : ∃ q, q = (atN x.a ps n).1 := ⟨_, rfl⟩
  obtain ⟨er, her⟩ : ∃ er, er = (atN x.a ps n).2 := ⟨_, rfl⟩
  have Q2 := Lib.hid (show I2 q by rw [hq]; exact atN_64 _ _ _)
  rw [← hq, ← her] at AT
  obtain ⟨d, hd⟩ : ∃ d, d = sbR (x.b, 1) q := ⟨_, rfl⟩
  have D2 := Lib.hid (show I2 d by rw [hd]; exact sbR_64 _ _)
  obtain ⟨ed, hed⟩ : ∃ ed, ed = sbE (x.b, 1) q := ⟨_, rfl⟩
  have SB := Lib.hid (fun W => subP_any (x.b, 1) q W XB.out Q2.out)
  rw [← hd, ← hed] at SB
  obtain ⟨k, hk⟩ : ∃ k, k = gA x.a i := ⟨_, rfl⟩
  rw [← hk] at XA
  obtain ⟨f, hf⟩ : ∃ f, f = dvR d (k, 1) := ⟨_, rfl⟩
  obtain ⟨ef, hef⟩ : ∃ ef, ef = dvE d (k, 1) := ⟨_, rfl⟩
  have F2 := Lib.hid (show I2 f by rw [hf]; exact dvR_64 _ _)
  have DV := Lib.hid (fun W => divP_any d (k, 1) W D2.out XA.out)
  rw [← hf, ← hef] at DV
  have XI := Lib.hid (show ∀ W, Bk W w.heap.size x → W.cell? ⟨w.heap.size, i, none⟩ = some (.int .i64 k) from fun W h => by rw [hk]; exact h.at hi)
  have fv : fdV x i ps = f := by unfold fdV; rw [← hN, ← hq, ← hd, ← hk, ← hf]
  have fe : fdE x i ps = if er ≠ 0 then er else if ed ≠ 0 then ed else ef := by unfold fdE; rw [← hN, ← hq, ← her, ← hd, ← hed, ← hk, ← hef]
  have U1 := Lib.hid (show er ≠ 0 → clE c x i ps ≠ 0 ∧ pan er = pan (clE c x i ps) from fun h => by
    have e : clE c x i ps = er := by unfold clE; rw [show fdE x i ps = er by rw [fe, if_pos h], if_pos h]
    rw [e]; exact ⟨h, rfl⟩)
  have U2 := Lib.hid (show er = 0 → ed ≠ 0 → clE c x i ps ≠ 0 ∧ pan ed = pan (clE c x i ps) from fun h0 h => by
    have e : clE c x i ps = ed := by unfold clE; rw [show fdE x i ps = ed by rw [fe, if_neg (fun q => q h0), if_pos h], if_pos h]
    rw [e]; exact ⟨h, rfl⟩)
  have U3 := Lib.hid (show er = 0 → ed = 0 → ef ≠ 0 → clE c x i ps ≠ 0 ∧ pan ef = pan (clE c x i ps) from fun h0 h1 h => by
    have e : clE c x i ps = ef := by unfold clE; rw [show fdE x i ps = ef by rw [fe, if_neg (fun q => q h0), if_neg (fun q => q h1)], if_pos h]
    rw [e]; exact ⟨h, rfl⟩)
  have U4 := Lib.hid (show er = 0 → ed = 0 → ef = 0 → clE c x i ps = if c.ex then cmE f c.v else 0 from fun h0 h1 h => by
    unfold clE; rw [show fdE x i ps = ef by rw [fe, if_neg (fun q => q h0), if_neg (fun q => q h1)], if_neg (fun q => q h), fv])
  have U5 := Lib.hid (show clR side c x i ps = if c.ex then (if 0 < side * cmR f c.v ∨ (side * cmR f c.v = 0 ∧ x.s = true) then ⟨f, true, x.s⟩ else c) else ⟨f, true, x.s⟩ by unfold clR; rw [fv])
  have C2' := Lib.hid hc
  have SD := Lib.hid hs
  have i6 : (i : Int) < 6 := by omega
  generalize clE c x i ps = CE at *
  generalize clR side c x i ps = CR at *
  clear fv fe hR hI hN hn hx hi c0 c1 c2 c3 hg hq her hd hed hk hf hef hs hc
  go_enter Tryz.func143, Tryz.ntmps143
  go_upto_region 1 with (fail)
  rw [← hw0]
  clear hw0
  go_cut [6] (fun s6 wx => ∃ q6 : Nat, s6 = .pointer (some ⟨q6, 0, none⟩) ∧ Hid (Pair wx q6 d.1 d.2) ∧ Hid (Below w0.heap.size w0 wx) ∧ Hid (w0.heap.size ≤ q6) ∧ Hid (er = 0) ∧ Hid (ed = 0))
  case first =>
    have KS := Lib.hid (show ∀ W, Below w0.heap.size w0 W → (Bk W w.heap.size x ∧ W.cell? ⟨w.heap.size, 6, none⟩ = some (.int .i64 x.b) ∧ W.cell? ⟨pb, 0, none⟩ = some (.slice ao n cap)) from fun W h => ⟨K0.out.kept h, (K0.out.kept h).num, kept h C0.out⟩)
    obtain ⟨wc, hwc⟩ : ∃ wc, wc = w0.drew := ⟨_, rfl⟩
    have Bc := Lib.hid (show Below w0.heap.size w0 wc by rw [hwc]; exact (Below.refl _ _).drew)
    refine wp_region_held_drew (S := (fun W => (Bk W w.heap.size x ∧ W.cell? ⟨w.heap.size, 6, none⟩ = some (.int .i64 x.b) ∧ W.cell? ⟨pb, 0, none⟩ = some (.slice ao n cap)))) (by kernel_rfl) (by rw [← hwc]; exact KS.out _ Bc.out) (fun h0 => ?_)
    rw [← hwc] at h0 ⊢
    clear hwc
    refine tkH (i := 0) (v := ?v1) rfl (Or.inl ⟨by rfl, ?hy1⟩) h0 ?rest1
    case hy1 => (intro w' hS; (try dsimp only at hS); go_simp; try (with_reducible rfl))
    simp only [Act.put, sA, sB, sD, sE, sF]
    refine tkH (i := 1) (v := ?v2) rfl (Or.inl ⟨by rfl, ?hy2⟩) h0 ?rest2
    case hy2 => (intro w' hS; (try dsimp only at hS); go_simp; try (with_reducible rfl))
    simp only [Act.put, sZ]
    refine tkH (i := 3) (v := (.agg x.cs)) rfl (Or.inl ⟨by rfl, fun w' hS => yld_loadL _ rfl _ rfl hS.1⟩) h0 ?_
    simp only [Act.put, sZ]
    refine tkH (i := 4) (v := ?v4) rfl (Or.inl ⟨by rfl, ?hy4⟩) h0 ?rest4
    case hy4 => (intro w' hS; (try dsimp only at hS); go_simp; try (with_reducible rfl))
    simp only [Act.put, sZ]
    refine wpAnyH_ready (rs := [2, 10]) (by kernel_rfl) (by simp) (AllReadyH.cons rfl (fun K hK => ?_) (AllReadyH.cons rfl (fun K hK => ?_) AllReadyH.nil))
    · rw [if_pos (by rfl)]
      go_simp
      refine (whole_any x.b wc).mono ?_
      rintro e wc ⟨rfl, hb⟩
      try (have P6 := Lib.hid (P6.out.kept hb))
      have Bc := Lib.hid (below_on Bc.out hb)
      clear hb
      go_simp
      refine hK.out _ _ (KS.out _ Bc.out) (fun h0_1 => ?_)
      clear hK K h0
      refine wpAnyH_ready (rs := [5, 10]) (by kernel_rfl) (by simp) (AllReadyH.cons rfl (fun K hK => ?_) (AllReadyH.cons rfl (fun K hK => ?_) AllReadyH.nil))
      · rw [if_pos (by rfl)]
        go_simp
        refine (AT.out wc (below_on E0.out Bc.out)).mono ?_
        rintro e wc ⟨hb, (⟨he, rfl⟩ | ⟨he, rfl⟩)⟩
        rotate_left
        · exact And.intro rfl (Or.inr ⟨(U1.out he).1, by rw [(U1.out he).2], below_on E0.out (below_on Bc.out hb)⟩)
        try (have P6 := Lib.hid (P6.out.kept hb))
        have Bc := Lib.hid (below_on Bc.out hb)
        have M1 := Lib.hid he
        clear hb he
        go_simp
        refine hK.out _ _ (KS.out _ Bc.out) (fun h0_2 => ?_)
        clear hK K h0_1
        refine wpAnyH_ready (rs := [6, 10]) (by kernel_rfl) (by simp) (AllReadyH.cons rfl (fun K hK => ?_) (AllReadyH.cons rfl (fun K hK => ?_) AllReadyH.nil))
        · rw [if_pos (by rfl)]
          go_simp
          refine (SB.out wc).mono ?_
          rintro e wc ⟨rfl, hb⟩
          try (have P6 := Lib.hid (P6.out.kept hb))
          have Bc := Lib.hid (below_on Bc.out hb)
          clear hb
          go_simp
          refine hK.out _ _ (KS.out _ Bc.out) (fun h0_3 => ?_)
          clear hK K h0_2
          refine tkH (i := 7) (v := ?v5) rfl (Or.inl ⟨by rfl, ?hy5⟩) h0_3 ?rest5
          case hy5 => (intro w' hS; (try dsimp only at hS); go_simp; try (with_reducible rfl))
          simp only [Act.put, sZ]
          refine tkH (i := 8) (v := ?v6) rfl (Or.inl ⟨by rfl, ?hy6⟩) h0_3 ?rest6
          case hy6 => (intro w' hS; (try dsimp only at hS); go_simp; try (with_reducible rfl))
          simp only [Act.put, sZ]
          refine wpAnyH_ready (rs := [9, 10]) (by kernel_rfl) (by simp) (AllReadyH.cons rfl (fun K hK => ?_) (AllReadyH.cons rfl (fun K hK => ?_) AllReadyH.nil))
          · rw [if_pos (by rfl)]
            go_simp
            refine (mustR_any d ed wc).mono ?_
            rintro e wc ⟨hb, (⟨he, rfl⟩ | ⟨he, rfl⟩)⟩
            rotate_left
            · exact And.intro rfl (Or.inr ⟨(U2.out M1.out he).1, by rw [(U2.out M1.out he).2], below_on E0.out (below_on Bc.out hb)⟩)
            try (have P6 := Lib.hid (P6.out.kept hb))
            have Bc := Lib.hid (below_on Bc.out hb)
            have M2 := Lib.hid he
            clear hb he
            go_simp
            refine hK.out _ _ (KS.out _ Bc.out) (fun h0_4 => ?_)
            clear hK K h0_3
            refine wpAnyH_ready (rs := [10]) (by kernel_rfl) (by simp) (AllReadyH.cons rfl (fun K hK => ?_) AllReadyH.nil)
            rw [if_pos (by rfl)]
            go_simp
            have hb := one_more (w1 := wc) (.cells #[.int .i64 0, .int .i64 0] 50)
            have hP := Pair.made wc 0 0 50
            have hz := Bc.out.size
            obtain ⟨q6, hbb⟩ : ∃ b, b = wc.heap.size := ⟨_, rfl⟩
            rw [← hbb] at hP hz
            obtain ⟨wn, hwn⟩ : ∃ wn, wn = wc.alloc (.cells #[.int .i64 0, .int .i64 0] 50) := ⟨_, rfl⟩
            rw [← hwn] at hb hP ⊢
            try rw [← hbb]
            have Bc := Lib.hid (below_on Bc.out hb)
            have P6 := Lib.hid hP
            have Zq6 := Lib.hid hz
            clear hb hP hz hbb hwn
            obtain ⟨wc, hwc⟩ : ∃ wc, wc = wn := ⟨_, rfl⟩
            rw [← hwc] at Bc P6 ⊢
            clear hwc
            go_simp
            refine hK.out _ _ (KS.out _ Bc.out) (fun h0_5 => ?_)
            clear hK K h0_4
            refine wpAnyH_ready (rs := [11]) (by kernel_rfl) (by simp) (AllReadyH.cons rfl (fun K hK => ?_) AllReadyH.nil)
            rw [if_pos (by rfl)]
            go_simp
            obtain ⟨f0, f1, f2, f3⟩ := P6.out.facts
            go_simp
            refine hK.out _ _ (KS.out _ (below_put Bc.out Zq6.out _ _)) (fun h0_6 => ?_)
            clear hK K h0_5
            clear f0 f1 f2 f3
            try simp only [sF]
            try simp only [sE]
            refine wpAnyH_done (by kernel_rfl) ?_ _
            have PE := P6.out.put d.1 d.2
            have BE := below_put Bc.out Zq6.out (.int .i64 d.1) (.int .i64 d.2)
            obtain ⟨we, hwe⟩ : ∃ we, we = (wc.setCell ⟨q6, 0, none⟩ (.int .i64 d.1)).setCell ⟨q6, 1, none⟩ (.int .i64 d.2) := ⟨_, rfl⟩
            rw [← hwe] at PE BE ⊢
            have PX := Lib.hid PE
            have BX := Lib.hid BE
            clear hwe PE BE
            go_wp2_with fail
            go_meet
            case rel => exact ⟨q6, rfl, PX, BX, Zq6, M1, M2⟩
          · rw [if_pos (by rfl)]
            go_simp
            have hb := one_more (w1 := wc) (.cells #[.int .i64 0, .int .i64 0] 50)
            have hP := Pair.made wc 0 0 50
            have hz := Bc.out.size
            obtain ⟨q6, hbb⟩ : ∃ b, b = wc.heap.size := ⟨_, rfl⟩
            rw [← hbb] at hP hz
            obtain ⟨wn, hwn⟩ : ∃ wn, wn = wc.alloc (.cells #[.int .i64 0, .int .i64 0] 50) := ⟨_, rfl⟩
            rw [← hwn] at hb hP ⊢
            try rw [← hbb]
            have Bc := Lib.hid (below_on Bc.out hb)
            have P6 := Lib.hid hP
            have Zq6 := Lib.hid hz
            clear hb hP hz hbb hwn
            obtain ⟨wc, hwc⟩ : ∃ wc, wc = wn := ⟨_, rfl⟩
            rw [← hwc] at Bc P6 ⊢
            clear hwc
            go_simp
            refine hK.out _ _ (KS.out _ Bc.out) (fun h0_4 => ?_)
            clear hK K h0_3
            refine wpAnyH_ready (rs := [9]) (by kernel_rfl) (by simp) (AllReadyH.cons rfl (fun K hK => ?_) AllReadyH.nil)
            rw [if_pos (by rfl)]
            go_simp
            refine (mustR_any d ed wc).mono ?_
            rintro e wc ⟨hb, (⟨he, rfl⟩ | ⟨he, rfl⟩)⟩
            rotate_left
            · exact And.intro rfl (Or.inr ⟨(U2.out M1.out he).1, by rw [(U2.out M1.out he).2], below_on E0.out (below_on Bc.out hb)⟩)
            try (have P6 := Lib.hid (P6.out.kept hb))
            have Bc := Lib.hid (below_on Bc.out hb)
            have M2 := Lib.hid he
            clear hb he
            go_simp
            refine hK.out _ _ (KS.out _ Bc.out) (fun h0_7 => ?_)
            clear hK K h0_4
            refine wpAnyH_ready (rs := [11]) (by kernel_rfl) (by simp) (AllReadyH.cons rfl (fun K hK => ?_) AllReadyH.nil)
            rw [if_pos (by rfl)]
            go_simp
            obtain ⟨f0, f1, f2, f3⟩ := P6.out.facts
            go_simp
            refine hK.out _ _ (KS.out _ (below_put Bc.out Zq6.out _ _)) (fun h0_8 => ?_)
            clear hK K h0_7
            clear f0 f1 f2 f3
            try simp only [sF]
            try simp only [sE]
            refine wpAnyH_done (by kernel_rfl) ?_ _
            have PE := P6.out.put d.1 d.2
            have BE := below_put Bc.out Zq6.out (.int .i64 d.1) (.int .i64 d.2)
            obtain ⟨we, hwe⟩ : ∃ we, we = (wc.setCell ⟨q6, 0, none⟩ (.int .i64 d.1)).setCell ⟨q6, 1, none⟩ (.int .i64 d.2) := ⟨_, rfl⟩
            rw [← hwe] at PE BE ⊢
            have PX := Lib.hid PE
            have BX := Lib.hid BE
            clear hwe PE BE
            go_wp2_with fail
            go_meet
            case rel => exact ⟨q6, rfl, PX, BX, Zq6, M1, M2⟩
        · rw [if_pos (by rfl)]
          go_simp
          have hb := one_more (w1 := wc) (.cells #[.int .i64 0, .int .i64 0] 50)
          have hP := Pair.made wc 0 0 50
          have hz := Bc.out.size
          obtain ⟨q6, hbb⟩ : ∃ b, b = wc.heap.size := ⟨_, rfl⟩
          rw [← hbb] at hP hz
          obtain ⟨wn, hwn⟩ : ∃ wn, wn = wc.alloc (.cells #[.int .i64 0, .int .i64 0] 50) := ⟨_, rfl⟩
          rw [← hwn] at hb hP ⊢
          try rw [← hbb]
          have Bc := Lib.hid (below_on Bc.out hb)
          have P6 := Lib.hid hP
          have Zq6 := Lib.hid hz
          clear hb hP hz hbb hwn
          obtain ⟨wc, hwc⟩ : ∃ wc, wc = wn := ⟨_, rfl⟩
          rw [← hwc] at Bc P6 ⊢
          clear hwc
          go_simp
          refine hK.out _ _ (KS.out _ Bc.out) (fun h0_3 => ?_)
          clear hK K h0_2
          refine wpAnyH_ready (rs := [6]) (by kernel_rfl) (by simp) (AllReadyH.cons rfl (fun K hK => ?_) AllReadyH.nil)
          rw [if_pos (by rfl)]
          go_simp
          refine (SB.out wc).mono ?_
          rintro e wc ⟨rfl, hb⟩
          try (have P6 := Lib.hid (P6.out.kept hb))
          have Bc := Lib.hid (below_on Bc.out hb)
          clear hb
          go_simp
          refine hK.out _ _ (KS.out _ Bc.out) (fun h0_9 => ?_)
          clear hK K h0_3
          refine tkH (i := 7) (v := ?v7) rfl (Or.inl ⟨by rfl, ?hy7⟩) h0_9 ?rest7
          case hy7 => (intro w' hS; (try dsimp only at hS); go_simp; try (with_reducible rfl))
          simp only [Act.put, sZ]
          refine tkH (i := 8) (v := ?v8) rfl (Or.inl ⟨by rfl, ?hy8⟩) h0_9 ?rest8
          case hy8 => (intro w' hS; (try dsimp only at hS); go_simp; try (with_reducible rfl))
          simp only [Act.put, sZ]
          refine wpAnyH_ready (rs := [9]) (by kernel_rfl) (by simp) (AllReadyH.cons rfl (fun K hK => ?_) AllReadyH.nil)
          rw [if_pos (by rfl)]
          go_simp
          refine (mustR_any d ed wc).mono ?_
          rintro e wc ⟨hb, (⟨he, rfl⟩ | ⟨he, rfl⟩)⟩
          rotate_left
          · exact And.intro rfl (Or.inr ⟨(U2.out M1.out he).1, by rw [(U2.out M1.out he).2], below_on E0.out (below_on Bc.out hb)⟩)
          try (have P6 := Lib.hid (P6.out.kept hb))
          have Bc := Lib.hid (below_on Bc.out hb)
          have M2 := Lib.hid he
          clear hb he
          go_simp
          refine hK.out _ _ (KS.out _ Bc.out) (fun h0_10 => ?_)
          clear hK K h0_9
          refine wpAnyH_ready (rs := [11]) (by kernel_rfl) (by simp) (AllReadyH.cons rfl (fun K hK => ?_) AllReadyH.nil)
          rw [if_pos (by rfl)]
          go_simp
          obtain ⟨f0, f1, f2, f3⟩ := P6.out.facts
          go_simp
          refine hK.out _ _ (KS.out _ (below_put Bc.out Zq6.out _ _)) (fun h0_11 => ?_)
          clear hK K h0_10
          clear f0 f1 f2 f3
          try simp only [sF]
          try simp only [sE]
          refine wpAnyH_done (by kernel_rfl) ?_ _
          have PE := P6.out.put d.1 d.2
          have BE := below_put Bc.out Zq6.out (.int .i64 d.1) (.int .i64 d.2)
          obtain ⟨we, hwe⟩ : ∃ we, we = (wc.setCell ⟨q6, 0, none⟩ (.int .i64 d.1)).setCell ⟨q6, 1, none⟩ (.int .i64 d.2) := ⟨_, rfl⟩
          rw [← hwe] at PE BE ⊢
          have PX := Lib.hid PE
          have BX := Lib.hid BE
          clear hwe PE BE
          go_wp2_with fail
          go_meet
          case rel => exact ⟨q6, rfl, PX, BX, Zq6, M1, M2⟩
      · rw [if_pos (by rfl)]
        go_simp
        have hb := one_more (w1 := wc) (.cells #[.int .i64 0, .int .i64 0] 50)
        have hP := Pair.made wc 0 0 50
        have hz := Bc.out.size
        obtain ⟨q6, hbb⟩ : ∃ b, b = wc.heap.size := ⟨_, rfl⟩
        rw [← hbb] at hP hz
        obtain ⟨wn, hwn⟩ : ∃ wn, wn = wc.alloc (.cells #[.int .i64 0, .int .i64 0] 50) := ⟨_, rfl⟩
        rw [← hwn] at hb hP ⊢
        try rw [← hbb]
        have Bc := Lib.hid (below_on Bc.out hb)
        have P6 := Lib.hid hP
        have Zq6 := Lib.hid hz
        clear hb hP hz hbb hwn
        obtain ⟨wc, hwc⟩ : ∃ wc, wc = wn := ⟨_, rfl⟩
        rw [← hwc] at Bc P6 ⊢
        clear hwc
        go_simp
        refine hK.out _ _ (KS.out _ Bc.out) (fun h0_2 => ?_)
        clear hK K h0_1
        refine wpAnyH_ready (rs := [5]) (by kernel_rfl) (by simp) (AllReadyH.cons rfl (fun K hK => ?_) AllReadyH.nil)
        rw [if_pos (by rfl)]
        go_simp
        refine (AT.out wc (below_on E0.out Bc.out)).mono ?_
        rintro e wc ⟨hb, (⟨he, rfl⟩ | ⟨he, rfl⟩)⟩
        rotate_left
        · exact And.intro rfl (Or.inr ⟨(U1.out he).1, by rw [(U1.out he).2], below_on E0.out (below_on Bc.out hb)⟩)
        try (have P6 := Lib.hid (P6.out.kept hb))
        have Bc := Lib.hid (below_on Bc.out hb)
        have M1 := Lib.hid he
        clear hb he
        go_simp
        refine hK.out _ _ (KS.out _ Bc.out) (fun h0_12 => ?_)
        clear hK K h0_2
        refine wpAnyH_ready (rs := [6]) (by kernel_rfl) (by simp) (AllReadyH.cons rfl (fun K hK => ?_) AllReadyH.nil)
        rw [if_pos (by rfl)]
        go_simp
        refine (SB.out wc).mono ?_
        rintro e wc ⟨rfl, hb⟩
        try (have P6 := Lib.hid (P6.out.kept hb))
        have Bc := Lib.hid (below_on Bc.out hb)
        clear hb
        go_simp
        refine hK.out _ _ (KS.out _ Bc.out) (fun h0_13 => ?_)
        clear hK K h0_12
        refine tkH (i := 7) (v := ?v9) rfl (Or.inl ⟨by rfl, ?hy9⟩) h0_13 ?rest9
        case hy9 => (intro w' hS; (try dsimp only at hS); go_simp; try (with_reducible rfl))
        simp only [Act.put, sZ]
        refine tkH (i := 8) (v := ?v10) rfl (Or.inl ⟨by rfl, ?hy10⟩) h0_13 ?rest10
        case hy10 => (intro w' hS; (try dsimp only at hS); go_simp; try (with_reducible rfl))
        simp only [Act.put, sZ]
        refine wpAnyH_ready (rs := [9]) (by kernel_rfl) (by simp) (AllReadyH.cons rfl (fun K hK => ?_) AllReadyH.nil)
        rw [if_pos (by rfl)]
        go_simp
        refine (mustR_any d ed wc).mono ?_
        rintro e wc ⟨hb, (⟨he, rfl⟩ | ⟨he, rfl⟩)⟩
        rotate_left
        · exact And.intro rfl (Or.inr ⟨(U2.out M1.out he).1, by rw [(U2.out M1.out he).2], below_on E0.out (below_on Bc.out hb)⟩)
        try (have P6 := Lib.hid (P6.out.kept hb))
        have Bc := Lib.hid (below_on Bc.out hb)
        have M2 := Lib.hid he
        clear hb he
        go_simp
        refine hK.out _ _ (KS.out _ Bc.out) (fun h0_14 => ?_)
        clear hK K h0_13
        refine wpAnyH_ready (rs := [11]) (by kernel_rfl) (by simp) (AllReadyH.cons rfl (fun K hK => ?_) AllReadyH.nil)
        rw [if_pos (by rfl)]
        go_simp
        obtain ⟨f0, f1, f2, f3⟩ := P6.out.facts
        go_simp
        refine hK.out _ _ (KS.out _ (below_put Bc.out Zq6.out _ _)) (fun h0_15 => ?_)
        clear hK K h0_14
        clear f0 f1 f2 f3
        try simp only [sF]
        try simp only [sE]
        refine wpAnyH_done (by kernel_rfl) ?_ _
        have PE := P6.out.put d.1 d.2
        have BE := below_put Bc.out Zq6.out (.int .i64 d.1) (.int .i64 d.2)
        obtain ⟨we, hwe⟩ : ∃ we, we = (wc.setCell ⟨q6, 0, none⟩ (.int .i64 d.1)).setCell ⟨q6, 1, none⟩ (.int .i64 d.2) := ⟨_, rfl⟩
        rw [← hwe] at PE BE ⊢
        have PX := Lib.hid PE
        have BX := Lib.hid BE
        clear hwe PE BE
        go_wp2_with fail
        go_meet
        case rel => exact ⟨q6, rfl, PX, BX, Zq6, M1, M2⟩
    · rw [if_pos (by rfl)]
      go_simp
      have hb := one_more (w1 := wc) (.cells #[.int .i64 0, .int .i64 0] 50)
      have hP := Pair.made wc 0 0 50
      have hz := Bc.out.size
      obtain ⟨q6, hbb⟩ : ∃ b, b = wc.heap.size := ⟨_, rfl⟩
      rw [← hbb] at hP hz
      obtain ⟨wn, hwn⟩ : ∃ wn, wn = wc.alloc (.cells #[.int .i64 0, .int .i64 0] 50) := ⟨_, rfl⟩
      rw [← hwn] at hb hP ⊢
      try rw [← hbb]
      have Bc := Lib.hid (below_on Bc.out hb)
      have P6 := Lib.hid hP
      have Zq6 := Lib.hid hz
      clear hb hP hz hbb hwn
      obtain ⟨wc, hwc⟩ : ∃ wc, wc = wn := ⟨_, rfl⟩
      rw [← hwc] at Bc P6 ⊢
      clear hwc
      go_simp
      refine hK.out _ _ (KS.out _ Bc.out) (fun h0_1 => ?_)
      clear hK K h0
      refine wpAnyH_ready (rs := [2]) (by kernel_rfl) (by simp) (AllReadyH.cons rfl (fun K hK => ?_) AllReadyH.nil)
      rw [if_pos (by rfl)]
      go_simp
      refine (whole_any x.b wc).mono ?_
      rintro e wc ⟨rfl, hb⟩
      try (have P6 := Lib.hid (P6.out.kept hb))
      have Bc := Lib.hid (below_on Bc.out hb)
      clear hb
      go_simp
      refine hK.out _ _ (KS.out _ Bc.out) (fun h0_16 => ?_)
      clear hK K h0_1
      refine wpAnyH_ready (rs := [5]) (by kernel_rfl) (by simp) (AllReadyH.cons rfl (fun K hK => ?_) AllReadyH.nil)
      rw [if_pos (by rfl)]
      go_simp
      refine (AT.out wc (below_on E0.out Bc.out)).mono ?_
      rintro e wc ⟨hb, (⟨he, rfl⟩ | ⟨he, rfl⟩)⟩
      rotate_left
      · exact And.intro rfl (Or.inr ⟨(U1.out he).1, by rw [(U1.out he).2], below_on E0.out (below_on Bc.out hb)⟩)
      try (have P6 := Lib.hid (P6.out.kept hb))
      have Bc := Lib.hid (below_on Bc.out hb)
      have M1 := Lib.hid he
      clear hb he
      go_simp
      refine hK.out _ _ (KS.out _ Bc.out) (fun h0_17 => ?_)
      clear hK K h0_16
      refine wpAnyH_ready (rs := [6]) (by kernel_rfl) (by simp) (AllReadyH.cons rfl (fun K hK => ?_) AllReadyH.nil)
      rw [if_pos (by rfl)]
      go_simp
      refine (SB.out wc).mono ?_
      rintro e wc ⟨rfl, hb⟩
      try (have P6 := Lib.hid (P6.out.kept hb))
      have Bc := Lib.hid (below_on Bc.out hb)
      clear hb
      go_simp
      refine hK.out _ _ (KS.out _ Bc.out) (fun h0_18 => ?_)
      clear hK K h0_17
      refine tkH (i := 7) (v := ?v11) rfl (Or.inl ⟨by rfl, ?hy11⟩) h0_18 ?rest11
      case hy11 => (intro w' hS; (try dsimp only at hS); go_simp; try (with_reducible rfl))
      simp only [Act.put, sZ]
      refine tkH (i := 8) (v := ?v12) rfl (Or.inl ⟨by rfl, ?hy12⟩) h0_18 ?rest12
      case hy12 => (intro w' hS; (try dsimp only at hS); go_simp; try (with_reducible rfl))
      simp only [Act.put, sZ]
      refine wpAnyH_ready (rs := [9]) (by kernel_rfl) (by simp) (AllReadyH.cons rfl (fun K hK => ?_) AllReadyH.nil)
      rw [if_pos (by rfl)]
      go_simp
      refine (mustR_any d ed wc).mono ?_
      rintro e wc ⟨hb, (⟨he, rfl⟩ | ⟨he, rfl⟩)⟩
      rotate_left
      · exact And.intro rfl (Or.inr ⟨(U2.out M1.out he).1, by rw [(U2.out M1.out he).2], below_on E0.out (below_on Bc.out hb)⟩)
      try (have P6 := Lib.hid (P6.out.kept hb))
      have Bc := Lib.hid (below_on Bc.out hb)
      have M2 := Lib.hid he
      clear hb he
      go_simp
      refine hK.out _ _ (KS.out _ Bc.out) (fun h0_19 => ?_)
      clear hK K h0_18
      refine wpAnyH_ready (rs := [11]) (by kernel_rfl) (by simp) (AllReadyH.cons rfl (fun K hK => ?_) AllReadyH.nil)
      rw [if_pos (by rfl)]
      go_simp
      obtain ⟨f0, f1, f2, f3⟩ := P6.out.facts
      go_simp
      refine hK.out _ _ (KS.out _ (below_put Bc.out Zq6.out _ _)) (fun h0_20 => ?_)
      clear hK K h0_19
      clear f0 f1 f2 f3
      try simp only [sF]
      try simp only [sE]
      refine wpAnyH_done (by kernel_rfl) ?_ _
      have PE := P6.out.put d.1 d.2
      have BE := below_put Bc.out Zq6.out (.int .i64 d.1) (.int .i64 d.2)
      obtain ⟨we, hwe⟩ : ∃ we, we = (wc.setCell ⟨q6, 0, none⟩ (.int .i64 d.1)).setCell ⟨q6, 1, none⟩ (.int .i64 d.2) := ⟨_, rfl⟩
      rw [← hwe] at PE BE ⊢
      have PX := Lib.hid PE
      have BX := Lib.hid BE
      clear hwe PE BE
      go_wp2_with fail
      go_meet
      case rel => exact ⟨q6, rfl, PX, BX, Zq6, M1, M2⟩
  case rest =>
  obtain ⟨q6, rfl, HP, HB, HZ, M1, M2⟩ := hcut
  obtain ⟨w1, hw1⟩ : ∃ w1, w1 = wc := ⟨_, rfl⟩
  rw [← hw1] at HP HB ⊢
  clear hw1 AT SB XB Q2
  have UE := Lib.hid (U4.out M1.out M2.out)
  have UF := Lib.hid (U3.out M1.out M2.out)
  have HBU := Lib.hid (show ∀ v1 v2 v3 w, (Instr.build 105 #[(0, .agg #[.int .i64 v1, .int .i64 v2]), (1, .bool true), (2, .bool v3)]).run Tryz.prog w = .ok (.agg (En.mk (v1, v2) true v3).cs) w from fun v1 v2 v3 w => run_build w _ _ _ (by kernel_rfl))
  clear U1 U2 U3 U4 M1 M2
  have hbu := HBU.out
  go_upto_region 2 with (fail)
  go_cut [7] (fun s7 wx => ∃ q7 : Nat, s7 = .pointer (some ⟨q7, 0, none⟩) ∧ Hid (EnB wx q7 ⟨f, true, x.s⟩) ∧ Hid (Below w0.heap.size w0 wx) ∧ Hid (w0.heap.size ≤ q7) ∧ Hid (ef = 0))
  case first =>
    have KS := Lib.hid (show ∀ W, Below w1.heap.size w1 W → (W.cell? ⟨q6, 0, none⟩ = some (.int .i64 d.1) ∧ W.cell? ⟨q6, 1, none⟩ = some (.int .i64 d.2) ∧ W.cell? ⟨pi, 0, none⟩ = some (.int .i64 i) ∧ W.cell? ⟨w.heap.size, i, none⟩ = some (.int .i64 k) ∧ W.cell? ⟨w.heap.size, 7, none⟩ = some (.bool x.s)) from fun W h => ⟨(HP.out.kept h).facts.1, (HP.out.kept h).facts.2.1, kept h (kept HB.out C1.out), XI.out W (K0.out.kept (below_on HB.out h)), (K0.out.kept (below_on HB.out h)).str⟩)
    obtain ⟨wc, hwc⟩ : ∃ wc, wc = w1.drew := ⟨_, rfl⟩
    have Bc := Lib.hid (show Below w1.heap.size w1 wc by rw [hwc]; exact (Below.refl _ _).drew)
    refine wp_region_held_drew (S := (fun W => (W.cell? ⟨q6, 0, none⟩ = some (.int .i64 d.1) ∧ W.cell? ⟨q6, 1, none⟩ = some (.int .i64 d.2) ∧ W.cell? ⟨pi, 0, none⟩ = some (.int .i64 i) ∧ W.cell? ⟨w.heap.size, i, none⟩ = some (.int .i64 k) ∧ W.cell? ⟨w.heap.size, 7, none⟩ = some (.bool x.s)))) (by kernel_rfl) (by rw [← hwc]; exact KS.out _ Bc.out) (fun h0 => ?_)
    rw [← hwc] at h0 ⊢
    clear hwc
    refine tkH (i := 0) (v := ?v13) rfl (Or.inl ⟨by rfl, ?hy13⟩) h0 ?rest13
    case hy13 => (intro w' hS; (try dsimp only at hS); go_simp; try (with_reducible rfl))
    simp only [Act.put, sA, sB, sD, sE, sF]
    refine tkH (i := 1) (v := ?v14) rfl (Or.inl ⟨by rfl, ?hy14⟩) h0 ?rest14
    case hy14 => (intro w' hS; (try dsimp only at hS); go_simp; try (with_reducible rfl))
    simp only [Act.put, sZ]
    refine tkH (i := 2) (v := ?v15) rfl (Or.inl ⟨by rfl, ?hy15⟩) h0 ?rest15
    case hy15 => (intro w' hS; (try dsimp only at hS); go_simp; try (with_reducible rfl))
    simp only [Act.put, sZ]
    refine tkH (i := 3) (v := ?v16) rfl (Or.inl ⟨by rfl, ?hy16⟩) h0 ?rest16
    case hy16 => (intro w' hS; (try dsimp only at hS); go_simp; try (with_reducible rfl))
    simp only [Act.put, sZ]
    refine tkH (i := 4) (v := ?v17) rfl (Or.inl ⟨by rfl, ?hy17⟩) h0 ?rest17
    case hy17 => (intro w' hS; (try dsimp only at hS); go_simp; try (with_reducible rfl))
    simp only [Act.put, sZ]
    refine tkH (i := 10) (v := ?v18) rfl (Or.inl ⟨by rfl, ?hy18⟩) h0 ?rest18
    case hy18 => (intro w' hS; (try dsimp only at hS); go_simp; try (with_reducible rfl))
    simp only [Act.put, sZ]
    refine tkH (i := 11) (v := ?v19) rfl (Or.inl ⟨by rfl, ?hy19⟩) h0 ?rest19
    case hy19 => (intro w' hS; (try dsimp only at hS); go_simp; try (with_reducible rfl))
    simp only [Act.put, sZ]
    refine wpAnyH_ready (rs := [5, 13]) (by kernel_rfl) (by simp) (AllReadyH.cons rfl (fun K hK => ?_) (AllReadyH.cons rfl (fun K hK => ?_) AllReadyH.nil))
    · rw [if_pos (by rfl)]
      go_simp
      refine (whole_any k wc).mono ?_
      rintro e wc ⟨rfl, hb⟩
      try (have P7 := Lib.hid (P7.out.kept hb))
      have Bc := Lib.hid (below_on Bc.out hb)
      clear hb
      go_simp
      refine hK.out _ _ (KS.out _ Bc.out) (fun h0_1 => ?_)
      clear hK K h0
      refine wpAnyH_ready (rs := [6, 13]) (by kernel_rfl) (by simp) (AllReadyH.cons rfl (fun K hK => ?_) (AllReadyH.cons rfl (fun K hK => ?_) AllReadyH.nil))
      · rw [if_pos (by rfl)]
        go_simp
        refine (DV.out wc).mono ?_
        rintro e wc ⟨rfl, hb⟩
        try (have P7 := Lib.hid (P7.out.kept hb))
        have Bc := Lib.hid (below_on Bc.out hb)
        clear hb
        go_simp
        refine hK.out _ _ (KS.out _ Bc.out) (fun h0_2 => ?_)
        clear hK K h0_1
        refine tkH (i := 7) (v := ?v20) rfl (Or.inl ⟨by rfl, ?hy20⟩) h0_2 ?rest20
        case hy20 => (intro w' hS; (try dsimp only at hS); go_simp; try (with_reducible rfl))
        simp only [Act.put, sZ]
        refine tkH (i := 8) (v := ?v21) rfl (Or.inl ⟨by rfl, ?hy21⟩) h0_2 ?rest21
        case hy21 => (intro w' hS; (try dsimp only at hS); go_simp; try (with_reducible rfl))
        simp only [Act.put, sZ]
        refine wpAnyH_ready (rs := [9, 13]) (by kernel_rfl) (by simp) (AllReadyH.cons rfl (fun K hK => ?_) (AllReadyH.cons rfl (fun K hK => ?_) AllReadyH.nil))
        · rw [if_pos (by rfl)]
          go_simp
          refine (mustR_any f ef wc).mono ?_
          rintro e wc ⟨hb, (⟨he, rfl⟩ | ⟨he, rfl⟩)⟩
          rotate_left
          · exact And.intro rfl (Or.inr ⟨(UF.out he).1, by rw [(UF.out he).2], below_on E0.out (below_on HB.out (below_on Bc.out hb))⟩)
          try (have P7 := Lib.hid (P7.out.kept hb))
          have Bc := Lib.hid (below_on Bc.out hb)
          have M3 := Lib.hid he
          clear hb he
          go_simp
          refine hK.out _ _ (KS.out _ Bc.out) (fun h0_3 => ?_)
          clear hK K h0_2
          refine tkH (i := 12) (v := ?v22) rfl (Or.inl ⟨by rfl, ?hy22⟩) h0_3 ?rest22
          case hy22 => (intro w' hS; (try dsimp only at hS); go_simp; try (with_reducible rfl))
          simp only [Act.put, sZ]
          refine wpAnyH_ready (rs := [13]) (by kernel_rfl) (by simp) (AllReadyH.cons rfl (fun K hK => ?_) AllReadyH.nil)
          rw [if_pos (by rfl)]
          go_simp
          have hb := one_more (w1 := wc) (.cells #[.int .i64 0, .int .i64 0, .bool false, .bool false] 105)
          have hP := (show EnB (wc.alloc (.cells #[.int .i64 0, .int .i64 0, .bool false, .bool false] 105)) wc.heap.size en0 from EnB.made wc en0)
          have hz := Bc.out.size
          obtain ⟨q7, hbb⟩ : ∃ b, b = wc.heap.size := ⟨_, rfl⟩
          rw [← hbb] at hP hz
          obtain ⟨wn, hwn⟩ : ∃ wn, wn = wc.alloc (.cells #[.int .i64 0, .int .i64 0, .bool false, .bool false] 105) := ⟨_, rfl⟩
          rw [← hwn] at hb hP ⊢
          try rw [← hbb]
          have Bc := Lib.hid (below_on Bc.out hb)
          have P7 := Lib.hid hP
          have Zq7 := Lib.hid hz
          clear hb hP hz hbb hwn
          obtain ⟨wc, hwc⟩ : ∃ wc, wc = wn := ⟨_, rfl⟩
          rw [← hwc] at Bc P7 ⊢
          clear hwc
          go_simp
          refine hK.out _ _ (KS.out _ Bc.out) (fun h0_4 => ?_)
          clear hK K h0_3
          refine wpAnyH_ready (rs := [14]) (by kernel_rfl) (by simp) (AllReadyH.cons rfl (fun K hK => ?_) AllReadyH.nil)
          rw [if_pos (by rfl)]
          refine wp_store_row _ _ _ rfl q7 (En.mk f true x.s).cs rfl rfl _ _ P7.out (by exact zero_en) rfl (En.one _) ?_
          refine hK.out _ _ (KS.out _ (Below.setRow Bc.out Zq7.out _)) (fun h0_5 => ?_)
          clear hK K h0_4
          try simp only [sF]
          try simp only [sE]
          refine wpAnyH_done (by kernel_rfl) ?_ _
          have PE := P7.out.setRow (y := En.mk f true x.s)
          have BE := Below.setRow (below_on HB.out Bc.out) (b := q7) (by have := Zq7.out; have := HB.out.size; omega) (En.mk f true x.s).cs
          obtain ⟨we, hwe⟩ : ∃ we, we = wc.setRow q7 (En.mk f true x.s).cs := ⟨_, rfl⟩
          rw [← hwe] at PE BE ⊢
          have PX := Lib.hid PE
          have BX := Lib.hid BE
          clear hwe PE BE
          go_wp2_with fail
          go_meet
          case rel => exact ⟨q7, rfl, PX, BX, Lib.hid (by have := Zq7.out; have := HB.out.size; omega), M3⟩
        · rw [if_pos (by rfl)]
          go_simp
          have hb := one_more (w1 := wc) (.cells #[.int .i64 0, .int .i64 0, .bool false, .bool false] 105)
          have hP := (show EnB (wc.alloc (.cells #[.int .i64 0, .int .i64 0, .bool false, .bool false] 105)) wc.heap.size en0 from EnB.made wc en0)
          have hz := Bc.out.size
          obtain ⟨q7, hbb⟩ : ∃ b, b = wc.heap.size := ⟨_, rfl⟩
          rw [← hbb] at hP hz
          obtain ⟨wn, hwn⟩ : ∃ wn, wn = wc.alloc (.cells #[.int .i64 0, .int .i64 0, .bool false, .bool false] 105) := ⟨_, rfl⟩
          rw [← hwn] at hb hP ⊢
          try rw [← hbb]
          have Bc := Lib.hid (below_on Bc.out hb)
          have P7 := Lib.hid hP
          have Zq7 := Lib.hid hz
          clear hb hP hz hbb hwn
          obtain ⟨wc, hwc⟩ : ∃ wc, wc = wn := ⟨_, rfl⟩
          rw [← hwc] at Bc P7 ⊢
          clear hwc
          go_simp
          refine hK.out _ _ (KS.out _ Bc.out) (fun h0_3 => ?_)
          clear hK K h0_2
          refine wpAnyH_ready (rs := [9]) (by kernel_rfl) (by simp) (AllReadyH.cons rfl (fun K hK => ?_) AllReadyH.nil)
          rw [if_pos (by rfl)]
          go_simp
          refine (mustR_any f ef wc).mono ?_
          rintro e wc ⟨hb, (⟨he, rfl⟩ | ⟨he, rfl⟩)⟩
          rotate_left
          · exact And.intro rfl (Or.inr ⟨(UF.out he).1, by rw [(UF.out he).2], below_on E0.out (below_on HB.out (below_on Bc.out hb))⟩)
          try (have P7 := Lib.hid (P7.out.kept hb))
          have Bc := Lib.hid (below_on Bc.out hb)
          have M3 := Lib.hid he
          clear hb he
          go_simp
          refine hK.out _ _ (KS.out _ Bc.out) (fun h0_6 => ?_)
          clear hK K h0_3
          refine tkH (i := 12) (v := ?v23) rfl (Or.inl ⟨by rfl, ?hy23⟩) h0_6 ?rest23
          case hy23 => (intro w' hS; (try dsimp only at hS); go_simp; try (with_reducible rfl))
          simp only [Act.put, sZ]
          refine wpAnyH_ready (rs := [14]) (by kernel_rfl) (by simp) (AllReadyH.cons rfl (fun K hK => ?_) AllReadyH.nil)
          rw [if_pos (by rfl)]
          refine wp_store_row _ _ _ rfl q7 (En.mk f true x.s).cs rfl rfl _ _ P7.out (by exact zero_en) rfl (En.one _) ?_
          refine hK.out _ _ (KS.out _ (Below.setRow Bc.out Zq7.out _)) (fun h0_7 => ?_)
          clear hK K h0_6
          try simp only [sF]
          try simp only [sE]
          refine wpAnyH_done (by kernel_rfl) ?_ _
          have PE := P7.out.setRow (y := En.mk f true x.s)
          have BE := Below.setRow (below_on HB.out Bc.out) (b := q7) (by have := Zq7.out; have := HB.out.size; omega) (En.mk f true x.s).cs
          obtain ⟨we, hwe⟩ : ∃ we, we = wc.setRow q7 (En.mk f true x.s).cs := ⟨_, rfl⟩
          rw [← hwe] at PE BE ⊢
          have PX := Lib.hid PE
          have BX := Lib.hid BE
          clear hwe PE BE
          go_wp2_with fail
          go_meet
          case rel => exact ⟨q7, rfl, PX, BX, Lib.hid (by have := Zq7.out; have := HB.out.size; omega), M3⟩
      · rw [if_pos (by rfl)]
        go_simp
        have hb := one_more (w1 := wc) (.cells #[.int .i64 0, .int .i64 0, .bool false, .bool false] 105)
        have hP := (show EnB (wc.alloc (.cells #[.int .i64 0, .int .i64 0, .bool false, .bool false] 105)) wc.heap.size en0 from EnB.made wc en0)
        have hz := Bc.out.size
        obtain ⟨q7, hbb⟩ : ∃ b, b = wc.heap.size := ⟨_, rfl⟩
        rw [← hbb] at hP hz
        obtain ⟨wn, hwn⟩ : ∃ wn, wn = wc.alloc (.cells #[.int .i64 0, .int .i64 0, .bool false, .bool false] 105) := ⟨_, rfl⟩
        rw [← hwn] at hb hP ⊢
        try rw [← hbb]
        have Bc := Lib.hid (below_on Bc.out hb)
        have P7 := Lib.hid hP
        have Zq7 := Lib.hid hz
        clear hb hP hz hbb hwn
        obtain ⟨wc, hwc⟩ : ∃ wc, wc = wn := ⟨_, rfl⟩
        rw [← hwc] at Bc P7 ⊢
        clear hwc
        go_simp
        refine hK.out _ _ (KS.out _ Bc.out) (fun h0_2 => ?_)
        clear hK K h0_1
        refine wpAnyH_ready (rs := [6]) (by kernel_rfl) (by simp) (AllReadyH.cons rfl (fun K hK => ?_) AllReadyH.nil)
        rw [if_pos (by rfl)]
        go_simp
        refine (DV.out wc).mono ?_
        rintro e wc ⟨rfl, hb⟩
        try (have P7 := Lib.hid (P7.out.kept hb))
        have Bc := Lib.hid (below_on Bc.out hb)
        clear hb
        go_simp
        refine hK.out _ _ (KS.out _ Bc.out) (fun h0_8 => ?_)
        clear hK K h0_2
        refine tkH (i := 7) (v := ?v24) rfl (Or.inl ⟨by rfl, ?hy24⟩) h0_8 ?rest24
        case hy24 => (intro w' hS; (try dsimp only at hS); go_simp; try (with_reducible rfl))
        simp only [Act.put, sZ]
        refine tkH (i := 8) (v := ?v25) rfl (Or.inl ⟨by rfl, ?hy25⟩) h0_8 ?rest25
        case hy25 => (intro w' hS; (try dsimp only at hS); go_simp; try (with_reducible rfl))
        simp only [Act.put, sZ]
        refine wpAnyH_ready (rs := [9]) (by kernel_rfl) (by simp) (AllReadyH.cons rfl (fun K hK => ?_) AllReadyH.nil)
        rw [if_pos (by rfl)]
        go_simp
        refine (mustR_any f ef wc).mono ?_
        rintro e wc ⟨hb, (⟨he, rfl⟩ | ⟨he, rfl⟩)⟩
        rotate_left
        · exact And.intro rfl (Or.inr ⟨(UF.out he).1, by rw [(UF.out he).2], below_on E0.out (below_on HB.out (below_on Bc.out hb))⟩)
        try (have P7 := Lib.hid (P7.out.kept hb))
        have Bc := Lib.hid (below_on Bc.out hb)
        have M3 := Lib.hid he
        clear hb he
        go_simp
        refine hK.out _ _ (KS.out _ Bc.out) (fun h0_9 => ?_)
        clear hK K h0_8
        refine tkH (i := 12) (v := ?v26) rfl (Or.inl ⟨by rfl, ?hy26⟩) h0_9 ?rest26
        case hy26 => (intro w' hS; (try dsimp only at hS); go_simp; try (with_reducible rfl))
        simp only [Act.put, sZ]
        refine wpAnyH_ready (rs := [14]) (by kernel_rfl) (by simp) (AllReadyH.cons rfl (fun K hK => ?_) AllReadyH.nil)
        rw [if_pos (by rfl)]
        refine wp_store_row _ _ _ rfl q7 (En.mk f true x.s).cs rfl rfl _ _ P7.out (by exact zero_en) rfl (En.one _) ?_
        refine hK.out _ _ (KS.out _ (Below.setRow Bc.out Zq7.out _)) (fun h0_10 => ?_)
        clear hK K h0_9
        try simp only [sF]
        try simp only [sE]
        refine wpAnyH_done (by kernel_rfl) ?_ _
        have PE := P7.out.setRow (y := En.mk f true x.s)
        have BE := Below.setRow (below_on HB.out Bc.out) (b := q7) (by have := Zq7.out; have := HB.out.size; omega) (En.mk f true x.s).cs
        obtain ⟨we, hwe⟩ : ∃ we, we = wc.setRow q7 (En.mk f true x.s).cs := ⟨_, rfl⟩
        rw [← hwe] at PE BE ⊢
        have PX := Lib.hid PE
        have BX := Lib.hid BE
        clear hwe PE BE
        go_wp2_with fail
        go_meet
        case rel => exact ⟨q7, rfl, PX, BX, Lib.hid (by have := Zq7.out; have := HB.out.size; omega), M3⟩
    · rw [if_pos (by rfl)]
      go_simp
      have hb := one_more (w1 := wc) (.cells #[.int .i64 0, .int .i64 0, .bool false, .bool false] 105)
      have hP := (show EnB (wc.alloc (.cells #[.int .i64 0, .int .i64 0, .bool false, .bool false] 105)) wc.heap.size en0 from EnB.made wc en0)
      have hz := Bc.out.size
      obtain ⟨q7, hbb⟩ : ∃ b, b = wc.heap.size := ⟨_, rfl⟩
      rw [← hbb] at hP hz
      obtain ⟨wn, hwn⟩ : ∃ wn, wn = wc.alloc (.cells #[.int .i64 0, .int .i64 0, .bool false, .bool false] 105) := ⟨_, rfl⟩
      rw [← hwn] at hb hP ⊢
      try rw [← hbb]
      have Bc := Lib.hid (below_on Bc.out hb)
      have P7 := Lib.hid hP
      have Zq7 := Lib.hid hz
      clear hb hP hz hbb hwn
      obtain ⟨wc, hwc⟩ : ∃ wc, wc = wn := ⟨_, rfl⟩
      rw [← hwc] at Bc P7 ⊢
      clear hwc
      go_simp
      refine hK.out _ _ (KS.out _ Bc.out) (fun h0_1 => ?_)
      clear hK K h0
      refine wpAnyH_ready (rs := [5]) (by kernel_rfl) (by simp) (AllReadyH.cons rfl (fun K hK => ?_) AllReadyH.nil)
      rw [if_pos (by rfl)]
      go_simp
      refine (whole_any k wc).mono ?_
      rintro e wc ⟨rfl, hb⟩
      try (have P7 := Lib.hid (P7.out.kept hb))
      have Bc := Lib.hid (below_on Bc.out hb)
      clear hb
      go_simp
      refine hK.out _ _ (KS.out _ Bc.out) (fun h0_11 => ?_)
      clear hK K h0_1
      refine wpAnyH_ready (rs := [6]) (by kernel_rfl) (by simp) (AllReadyH.cons rfl (fun K hK => ?_) AllReadyH.nil)
      rw [if_pos (by rfl)]
      go_simp
      refine (DV.out wc).mono ?_
      rintro e wc ⟨rfl, hb⟩
      try (have P7 := Lib.hid (P7.out.kept hb))
      have Bc := Lib.hid (below_on Bc.out hb)
      clear hb
      go_simp
      refine hK.out _ _ (KS.out _ Bc.out) (fun h0_12 => ?_)
      clear hK K h0_11
      refine tkH (i := 7) (v := ?v27) rfl (Or.inl ⟨by rfl, ?hy27⟩) h0_12 ?rest27
      case hy27 => (intro w' hS; (try dsimp only at hS); go_simp; try (with_reducible rfl))
      simp only [Act.put, sZ]
      refine tkH (i := 8) (v := ?v28) rfl (Or.inl ⟨by rfl, ?hy28⟩) h0_12 ?rest28
      case hy28 => (intro w' hS; (try dsimp only at hS); go_simp; try (with_reducible rfl))
      simp only [Act.put, sZ]
      refine wpAnyH_ready (rs := [9]) (by kernel_rfl) (by simp) (AllReadyH.cons rfl (fun K hK => ?_) AllReadyH.nil)
      rw [if_pos (by rfl)]
      go_simp
      refine (mustR_any f ef wc).mono ?_
      rintro e wc ⟨hb, (⟨he, rfl⟩ | ⟨he, rfl⟩)⟩
      rotate_left
      · exact And.intro rfl (Or.inr ⟨(UF.out he).1, by rw [(UF.out he).2], below_on E0.out (below_on HB.out (below_on Bc.out hb))⟩)
      try (have P7 := Lib.hid (P7.out.kept hb))
      have Bc := Lib.hid (below_on Bc.out hb)
      have M3 := Lib.hid he
      clear hb he
      go_simp
      refine hK.out _ _ (KS.out _ Bc.out) (fun h0_13 => ?_)
      clear hK K h0_12
      refine tkH (i := 12) (v := ?v29) rfl (Or.inl ⟨by rfl, ?hy29⟩) h0_13 ?rest29
      case hy29 => (intro w' hS; (try dsimp only at hS); go_simp; try (with_reducible rfl))
      simp only [Act.put, sZ]
      refine wpAnyH_ready (rs := [14]) (by kernel_rfl) (by simp) (AllReadyH.cons rfl (fun K hK => ?_) AllReadyH.nil)
      rw [if_pos (by rfl)]
      refine wp_store_row _ _ _ rfl q7 (En.mk f true x.s).cs rfl rfl _ _ P7.out (by exact zero_en) rfl (En.one _) ?_
      refine hK.out _ _ (KS.out _ (Below.setRow Bc.out Zq7.out _)) (fun h0_14 => ?_)
      clear hK K h0_13
      try simp only [sF]
      try simp only [sE]
      refine wpAnyH_done (by kernel_rfl) ?_ _
      have PE := P7.out.setRow (y := En.mk f true x.s)
      have BE := Below.setRow (below_on HB.out Bc.out) (b := q7) (by have := Zq7.out; have := HB.out.size; omega) (En.mk f true x.s).cs
      obtain ⟨we, hwe⟩ : ∃ we, we = wc.setRow q7 (En.mk f true x.s).cs := ⟨_, rfl⟩
      rw [← hwe] at PE BE ⊢
      have PX := Lib.hid PE
      have BX := Lib.hid BE
      clear hwe PE BE
      go_wp2_with fail
      go_meet
      case rel => exact ⟨q7, rfl, PX, BX, Lib.hid (by have := Zq7.out; have := HB.out.size; omega), M3⟩
  case rest =>
  obtain ⟨q7, rfl, HP7, HB7, HZ7, M3⟩ := hcut
  obtain ⟨w2, hw2⟩ : ∃ w2, w2 = wc := ⟨_, rfl⟩
  rw [← hw2] at HP7 HB7 ⊢
  obtain ⟨cv, cex, cop⟩ := c
  have HG2 := Lib.hid (HG.out.kept HB7.out)
  have GQ := Lib.hid (show g ≠ q7 by have := GL.out; have := HZ7.out; have := E0.out.size; omega)
  have BW := Lib.hid (below_on E0.out HB7.out)
  have x2 := kept HB7.out C2.out
  have UG := Lib.hid (UE.out M3.out)
  clear hw2 UE UF DV HBU hbu HP HB HZ HG GL M3
  have fin := Lib.hid (show ∀ W y, EnB W g y → Below w.heap.size w W → EnB (W.setRow g (En.mk f true x.s).cs) g ⟨f, true, x.s⟩ ∧ GB g w (W.setRow g (En.mk f true x.s).cs) from fun W y h b => ⟨h.setRow, GB.trans (GB.below b) (grown_row W g _)⟩)
  cases cex
  · obtain ⟨g0, g1, g2, g3⟩ := HG2.out.facts
    have UH := Lib.hid (show CE = 0 by rw [UG.out]; simp)
    have UI := Lib.hid (show CR = ⟨f, true, x.s⟩ by rw [U5.out]; simp)
    clear UG U5
    go_wp2_with (first | refine wpList_load_row rfl _ _ rfl q7 rfl _ (En.mk f true x.s).cs (0, 0) _ HP7.out Tryz.underlying105 rfl zero_en ?_ | refine wpList_store_row rfl _ _ _ rfl g (En.mk f true x.s).cs rfl rfl _ _ HG2.out zero_en rfl (En.one _) ?_)
    refine bodyPost_ret (v := .tuple #[]) (by simp [results, Tryz.results143, go_sem]) rfl ?_
    have := fin.out _ _ HG2.out BW.out
    exact Or.inl ⟨UH.out, rfl, by rw [UI.out]; exact this.1, this.2⟩
  · obtain ⟨g0, g1, g2, g3⟩ := HG2.out.facts
    obtain ⟨k', hk'⟩ : ∃ k', k' = cmR f cv := ⟨_, rfl⟩
    obtain ⟨o, ho⟩ : ∃ o, o = side * k' := ⟨_, rfl⟩
    have ob : -1 ≤ o ∧ o ≤ 1 := by
      have h1 := cmR_bd f cv
      rw [← hk'] at h1
      rcases SD.out with h | h <;> rw [ho, h] <;> omega
    have hwo : IntKind.i64.wrap (side * k') = o := by rw [← ho]; exact wrap_in _ (by omega) (by omega)
    have HWO := Lib.hid hwo
    have UH := Lib.hid (show CE = cmE f cv by rw [UG.out]; simp)
    have UI := Lib.hid (show CR = if 0 < o ∨ (o = 0 ∧ x.s = true) then ⟨f, true, x.s⟩ else ⟨cv, true, cop⟩ by rw [U5.out]; simp only [← hk', ← ho]; rfl)
    have CM := Lib.hid (fun W => cmpP_any f cv W F2.out C2'.out)
    rw [← hk'] at CM
    have OB := Lib.hid ob
    have C2w := Lib.hid x2
    clear UG U5 ho hk' hwo ob
    go_upto_region 5 with (fail)
    clear g0 g1 g2 g3
    have KS := Lib.hid (show ∀ W, Below w2.heap.size w2 W → (W.cell? ⟨pd, 0, none⟩ = some (.int .i64 side) ∧ W.cell? ⟨q7, 0, none⟩ = some (.int .i64 f.1) ∧ W.cell? ⟨q7, 1, none⟩ = some (.int .i64 f.2) ∧ W.cell? ⟨pc, 0, none⟩ = some (.pointer (some ⟨g, 0, none⟩)) ∧ W.cell? ⟨g, 0, none⟩ = some (.int .i64 cv.1) ∧ W.cell? ⟨g, 1, none⟩ = some (.int .i64 cv.2)) from fun W h => ⟨kept h (kept HB7.out C3.out), (HP7.out.kept h).facts.1, (HP7.out.kept h).facts.2.1, kept h (kept HB7.out C2.out), (HG2.out.kept h).facts.1, (HG2.out.kept h).facts.2.1⟩)
    obtain ⟨wc, hwc⟩ : ∃ wc, wc = w2.drew := ⟨_, rfl⟩
    have Bc := Lib.hid (show Below w2.heap.size w2 wc by rw [hwc]; exact (Below.refl _ _).drew)
    refine wp_region_held_drew (S := (fun W => (W.cell? ⟨pd, 0, none⟩ = some (.int .i64 side) ∧ W.cell? ⟨q7, 0, none⟩ = some (.int .i64 f.1) ∧ W.cell? ⟨q7, 1, none⟩ = some (.int .i64 f.2) ∧ W.cell? ⟨pc, 0, none⟩ = some (.pointer (some ⟨g, 0, none⟩)) ∧ W.cell? ⟨g, 0, none⟩ = some (.int .i64 cv.1) ∧ W.cell? ⟨g, 1, none⟩ = some (.int .i64 cv.2)))) (by kernel_rfl) (by rw [← hwc]; exact KS.out _ Bc.out) (fun h0 => ?_)
    rw [← hwc] at h0 ⊢
    clear hwc
    refine tkH (i := 0) (v := ?v30) rfl (Or.inl ⟨by rfl, ?hy30⟩) h0 ?rest30
    case hy30 => (intro w' hS; (try dsimp only at hS); go_simp; try (with_reducible rfl))
    simp only [Act.put, sA, sB, sD, sE, sF]
    refine tkH (i := 1) (v := ?v31) rfl (Or.inl ⟨by rfl, ?hy31⟩) h0 ?rest31
    case hy31 => (intro w' hS; (try dsimp only at hS); go_simp; try (with_reducible rfl))
    simp only [Act.put, sZ]
    refine tkH (i := 2) (v := ?v32) rfl (Or.inl ⟨by rfl, ?hy32⟩) h0 ?rest32
    case hy32 => (intro w' hS; (try dsimp only at hS); go_simp; try (with_reducible rfl))
    simp only [Act.put, sZ]
    refine tkH (i := 3) (v := ?v33) rfl (Or.inl ⟨by rfl, ?hy33⟩) h0 ?rest33
    case hy33 => (intro w' hS; (try dsimp only at hS); go_simp; try (with_reducible rfl))
    simp only [Act.put, sZ]
    refine tkH (i := 4) (v := ?v34) rfl (Or.inl ⟨by rfl, ?hy34⟩) h0 ?rest34
    case hy34 => (intro w' hS; (try dsimp only at hS); go_simp; try (with_reducible rfl))
    simp only [Act.put, sZ]
    refine tkH (i := 5) (v := ?v35) rfl (Or.inl ⟨by rfl, ?hy35⟩) h0 ?rest35
    case hy35 => (intro w' hS; (try dsimp only at hS); go_simp; try (with_reducible rfl))
    simp only [Act.put, sZ]
    refine tkH (i := 6) (v := ?v36) rfl (Or.inl ⟨by rfl, ?hy36⟩) h0 ?rest36
    case hy36 => (intro w' hS; (try dsimp only at hS); go_simp; try (with_reducible rfl))
    simp only [Act.put, sZ]
    refine wpAnyH_ready (rs := [7]) (by kernel_rfl) (by simp) (AllReadyH.cons rfl (fun K hK => ?_) AllReadyH.nil)
    rw [if_pos (by rfl)]
    go_simp
    refine (CM.out wc).mono ?_
    rintro e wc ⟨rfl, hb⟩
    have Bc := Lib.hid (below_on Bc.out hb)
    clear hb
    go_simp
    refine hK.out _ _ (KS.out _ Bc.out) (fun h0_1 => ?_)
    clear hK K h0
    refine tkH (i := 8) (v := ?v37) rfl (Or.inl ⟨by rfl, ?hy37⟩) h0_1 ?rest37
    case hy37 => (intro w' hS; (try dsimp only at hS); go_simp; try (with_reducible rfl))
    simp only [Act.put, sZ]
    refine tkH (i := 9) (v := ?v38) rfl (Or.inl ⟨by rfl, ?hy38⟩) h0_1 ?rest38
    case hy38 => (intro w' hS; (try dsimp only at hS); go_simp; try (with_reducible rfl))
    simp only [Act.put, sZ]
    refine wpAnyH_ready (rs := [10]) (by kernel_rfl) (by simp) (AllReadyH.cons rfl (fun K hK => ?_) AllReadyH.nil)
    rw [if_pos (by rfl)]
    go_simp
    refine (mustI_any k' (cmE f cv) wc).mono ?_
    rintro e wc ⟨hb, (⟨he, rfl⟩ | ⟨he, rfl⟩)⟩
    rotate_left
    · exact And.intro rfl (Or.inr ⟨by rw [UH.out]; exact he, by rw [UH.out], below_on BW.out (below_on Bc.out hb)⟩)
    have Bc := Lib.hid (below_on Bc.out hb)
    have M4 := Lib.hid he
    clear hb he
    go_simp
    refine hK.out _ _ (KS.out _ Bc.out) (fun h0_2 => ?_)
    clear hK K h0_1
    refine tkH (i := 11) (v := ?v39) rfl (Or.inl ⟨by rfl, ?hy39⟩) h0_2 ?rest39
    case hy39 => (intro w' hS; (try dsimp only at hS); go_simp; try (with_reducible rfl))
    simp only [Act.put, sZ]
    refine tkH (i := 12) (v := ?v40) rfl (Or.inl ⟨by rfl, ?hy40⟩) h0_2 ?rest40
    case hy40 => (intro w' hS; (try dsimp only at hS); go_simp; try (with_reducible rfl))
    simp only [Act.put, sA, sB, sC, sD]
    try simp only [sF]
    try simp only [sE]
    refine wpAnyH_done (by kernel_rfl) ?_ _
    try rw [HWO.out]
    have G9 := Lib.hid (HG2.out.kept Bc.out)
    have P9 := Lib.hid (HP7.out.kept Bc.out)
    have B9 := Lib.hid (below_on BW.out Bc.out)
    have x2 := kept Bc.out C2w.out
    obtain ⟨g0, g1, g2, g3⟩ := P9.out.facts
    by_cases o1 : 0 < o
    · go_wp2_with (first | refine wpList_load_row rfl _ _ rfl q7 rfl _ (En.mk f true x.s).cs (0, 0) _ P9.out Tryz.underlying105 rfl zero_en ?_ | refine wpList_store_row rfl _ _ _ rfl g (En.mk f true x.s).cs rfl rfl _ _ G9.out zero_en rfl (En.one _) ?_)
      refine bodyPost_end (v := .tuple #[]) (by simp [results, Tryz.results143, go_sem]) rfl ?_
      have := fin.out _ _ G9.out B9.out
      exact Or.inl ⟨by rw [UH.out]; exact M4.out, rfl, by rw [UI.out, if_pos (Or.inl o1)]; exact this.1, this.2⟩
    · by_cases o2 : o = 0
      · subst o2
        obtain ⟨xs, hxs⟩ : ∃ xs, xs = x.s := ⟨_, rfl⟩
        cases xs
        · rw [← hxs] at g3
          have HX := Lib.hid hxs
          clear hxs
          go_wp2_with fail
          refine bodyPost_end (v := .tuple #[]) (by simp [results, Tryz.results143, go_sem]) rfl ?_
          exact Or.inl ⟨by rw [UH.out]; exact M4.out, rfl, by rw [UI.out, if_neg (by rw [← HX.out]; simp)]; exact G9.out, GB.below B9.out⟩
        · rw [← hxs] at g3
          have HX := Lib.hid hxs
          clear hxs
          go_wp2_with (first | refine wpList_load_row rfl _ _ rfl q7 rfl _ (En.mk f true x.s).cs (0, 0) _ P9.out Tryz.underlying105 rfl zero_en ?_ | refine wpList_store_row rfl _ _ _ rfl g (En.mk f true x.s).cs rfl rfl _ _ G9.out zero_en rfl (En.one _) ?_)
          refine bodyPost_end (v := .tuple #[]) (by simp [results, Tryz.results143, go_sem]) rfl ?_
          have := fin.out _ _ G9.out B9.out
          exact Or.inl ⟨by rw [UH.out]; exact M4.out, rfl, by rw [UI.out, if_pos (Or.inr ⟨by trivial, HX.out.symm⟩)]; exact this.1, this.2⟩
      · have e0 : (o == 0) = false := by simpa using o2
        have O2 := Lib.hid o2
        clear o2
        go_wp2_with fail
        refine bodyPost_end (v := .tuple #[]) (by simp [results, Tryz.results143, go_sem]) rfl ?_
        exact Or.inl ⟨by rw [UH.out]; exact M4.out, rfl, by rw [UI.out, if_neg (by have := O2.out; omega)]; exact G9.out, GB.below B9.out⟩
end Go.Proofs.YtbhaoaobhgilkaaGreat
