/- avoiding of package federation. -/
import Derived.Test.YtaegiihkgicdnaaGreatWs9
import Derived.Test.YtaegiihkgicdnaaGreatWs40

namespace Go.Proofs.YtaegiihkgicdnaaGreat
open Go.RowKit

section
variable {ops : Array Oper} {rest : List Oper} {o : Oper} {a : Act} {w : World} {Q : Exit → Act → World → Prop}

theorem wpl_appLZ (hgd : o.guard = none) (s x : Operand) (ho : o.op = .call { callee := .builtin .append, args := #[s, x], argTypes := #[22, 22] }) (R B : Nat) (v : Value) (L M : List ZV) (hs : a.eval s = v) (hown : OwnZ R B w v L) (ao : Option Addr) (c : Nat) (hx : a.eval x = .slice ao M.length c)
    (hM : RdZ B w ao M) (hn : ao = none → c = 0) (hF : ∀ z ∈ M, ∀ p, z.a = some p → v.ownBlock ≠ some p.block) (hle : L.length + M.length ≤ 4000000) (hB : R ≤ w.heap.size)
    (h : ∀ v' w', OwnZ R B w' v' (L ++ M) → w.grownBy w' v.ownBlock → wpList Tryz.prog ops Q rest (a.put o.dst v') w') : wpList Tryz.prog ops Q (o :: rest) a w := by
  obtain ⟨v', w', hr, h1, h2⟩ := appendLZ_run hown hM hn hF hle hB o.type
  have hk := h v' w' h1 h2
  refine wpList_plain hgd fun K hK => ?_
  unfold Oper.wp
  simp [execOp, ho, resolve, invoke, builtin, hs, hx, hr, Result.andThen]
  exact hK _ _ hk
end

def dnR (b : Zp) : List Zp × Int := ([(dnP b).1], (dnP b).2)

def coR (s : Sq) : List Zp × Int := (s.1, colE s.1 s.2)

def avP (g : Zp) (d : List Zp) (b : Zp) : List Zp × Int :=
  thE (dnR b) fun ah => thE (mnP d ah) fun nv => thE (coR (mtS [g] ah)) fun m => thE (mnP m [b]) fun be => thE (coR (eaS dnP be)) fun dn => (nv ++ dn, 0)

def AvRes (w : World) (r : List Zp × Int) (e : Ending) (w' : World) : Prop :=
  Below w.heap.size w w' ∧ ((r.2 = 0 ∧ ∃ ao cap L, e = .returned (.slice ao L.length cap) ∧ OwnZ w.heap.size 0 w' (.slice ao L.length cap) L ∧ L.map ZV.p = r.1 ∧ L.length ≤ 4000) ∨ (r.2 ≠ 0 ∧ e = .panicked (pan r.2)))

theorem mnP_one {d : List Zp} {x : Zp} (_h : (mnP d [x]).2 = 0) : (mnP d [x]).1.length ≤ 2000 := by
  unfold mnP
  split
  · rename_i q; exact colE_len q
  · simp

set_option maxRecDepth 100000 in
set_option maxHeartbeats 16000000 in
theorem avoiding_any (g b : ZV) (D : List ZV) (go : Option Addr) (gc : Nat) (w : World) (hg : ZAt 0 w g) (hb : ZAt 0 w b) (hD : RdZ 0 w go D) (hd : D.length ≤ 1000000) :
    Calls Tryz.prog 145 #[g.val, .slice go D.length gc, b.val] w (AvRes w (avP g.p (D.map ZV.p) b.p)) := by
  obtain ⟨T, hT⟩ : ∃ T, T = avP g.p (D.map ZV.p) b.p := ⟨_, rfl⟩
  rw [← hT]
  have TT := Lib.hid hT
  have GZ := Lib.hid hg
  have BZ := Lib.hid hb
  have RD := Lib.hid hD
  have DNC := Lib.hid (show ∀ W, Below w.heap.size w W → Calls Tryz.prog 65 #[b.val] W (ZOut W (dnP b.p)) from fun W h => dn_out b W (hb.on h))
  have ONg := Lib.hid (show ∀ W, Below w.heap.size w W → Calls Tryz.prog 142 #[g.val] W (fun e w' => ∃ k, e = .returned (.slice (some ⟨k, 0, none⟩) 1 1) ∧ OwnZ W.heap.size 0 w' (.slice (some ⟨k, 0, none⟩) 1 1) [g] ∧ Below W.heap.size W w') from fun W h => one_own g W (hg.on h))
  have ONb := Lib.hid (show ∀ W, Below w.heap.size w W → Calls Tryz.prog 142 #[b.val] W (fun e w' => ∃ k, e = .returned (.slice (some ⟨k, 0, none⟩) 1 1) ∧ OwnZ W.heap.size 0 w' (.slice (some ⟨k, 0, none⟩) 1 1) [b] ∧ Below W.heap.size W w') from fun W h => one_own b W (hb.on h))
  have MN1 := Lib.hid (show ∀ W (a : ZV) q, Below w.heap.size w W → RdZ 0 W (some q) [a] → Calls Tryz.prog 49 #[.slice go D.length gc, .slice (some q) 1 1] W (MiRes 0 W [a.p] (mnP (D.map ZV.p) [a.p])) from fun W a q h k => by
    have := fminus_any D [a] go (some q) gc 1 0 W (Nat.zero_le _) (hD.on h) k (by omega) (by simp)
    simpa using this)
  unfold ZV.val at DNC ONg ONb ⊢
  obtain ⟨gl, hgl⟩ : ∃ gl, gl = g.l.length := ⟨_, rfl⟩
  obtain ⟨bl, hbl⟩ : ∃ bl, bl = b.l.length := ⟨_, rfl⟩
  obtain ⟨n, hn⟩ : ∃ n, n = D.length := ⟨_, rfl⟩
  rw [← hgl] at ONg ⊢
  rw [← hbl] at ONb DNC ⊢
  rw [← hn] at MN1 ⊢
  obtain ⟨w1, hw1⟩ : ∃ w1, w1 = (w.alloc (.cells #[.int .i64 g.N, .slice g.a gl g.c] 36)).alloc (.cells #[.int .i64 b.N, .slice b.a bl b.c] 36) := ⟨_, rfl⟩
  have B1 := Lib.hid (show Below w.heap.size w w1 by rw [hw1]; exact past_two (Below.refl _ _))
  have XG := Lib.hid (show Bx2 w1 w.heap.size (.int .i64 g.N) (.slice g.a gl g.c) 36 by rw [hw1]; exact (Bx2.made w _ _ _).kept (one_more _))
  have XB := Lib.hid (show Bx2 w1 (w.heap.size + 1) (.int .i64 b.N) (.slice b.a bl b.c) 36 by rw [hw1]; have := Bx2.made (w.alloc (.cells #[.int .i64 g.N, .slice g.a gl g.c] 36)) (.int .i64 b.N) (.slice b.a bl b.c) 36; simpa using this)
  clear hT hg hb hD hd hgl hbl hn
  go_enter Tryz.func145, Tryz.ntmps145
  go_wp2_with fail
  rw [← hw1]
  clear hw1
  refine (DNC.out _ B1.out).mono ?_
  rintro e w2 ⟨hb, z, rfl, hz, hp⟩
  obtain ⟨e2, he2⟩ : ∃ e2, e2 = (dnP b.p).2 := ⟨_, rfl⟩
  rw [← he2] at hp ⊢
  have E2 := Lib.hid he2
  have HP := Lib.hid hp
  have HZ := Lib.hid (show ZAt 0 w2 z from hz.low (Nat.zero_le _))
  have B2 := Lib.hid (below_on B1.out hb)
  have XG := Lib.hid (XG.out.kept hb)
  have XB := Lib.hid (XB.out.kept hb)
  have MU := Lib.hid (fun W => mustZ_any z e2 W)
  have ONz := Lib.hid (show ∀ W, ZAt 0 W z → Calls Tryz.prog 142 #[z.val] W (fun e w' => ∃ k, e = .returned (.slice (some ⟨k, 0, none⟩) 1 1) ∧ OwnZ W.heap.size 0 w' (.slice (some ⟨k, 0, none⟩) 1 1) [z] ∧ Below W.heap.size W w') from fun W h => one_own z W h)
  unfold ZV.val at MU ONz ⊢
  generalize z.l.length = zl at *
  clear hb hz hp he2 DNC
  go_wp2_with fail
  refine (MU.out _).mono ?_
  rintro e w3 ⟨hb, (⟨he, rfl⟩ | ⟨he, rfl⟩)⟩
  rotate_left
  · have TE : T = ([], e2) := by rw [TT.out, avP, thE_no (show (dnR b.p).2 ≠ 0 by show (dnP b.p).2 ≠ 0; rw [← E2.out]; exact he)]; show ([], (dnP b.p).2) = _; rw [← E2.out]
    exact And.intro rfl ⟨below_on B2.out hb, Or.inr ⟨by rw [TE]; exact he, by rw [TE]⟩⟩
  have HP := Lib.hid (HP.out he)
  have TT := Lib.hid (show T = thE (mnP (D.map ZV.p) [z.p]) fun nv => thE (coR (mtS [g.p] [z.p])) fun m => thE (mnP m [b.p]) fun be => thE (coR (eaS dnP be)) fun dn => (nv ++ dn, 0) by
    rw [TT.out, avP, thE_ok (show (dnR b.p).2 = 0 by show (dnP b.p).2 = 0; rw [← E2.out]; exact he)]; show _ = _; rw [HP.out]; rfl)
  have HZ := Lib.hid (HZ.out.on hb)
  have B3 := Lib.hid (below_on B2.out hb)
  have XG := Lib.hid (XG.out.kept hb)
  have XB := Lib.hid (XB.out.kept hb)
  clear hb he MU
  go_wp2_with fail
  refine (ONz.out _ HZ.out).mono ?_
  rintro e w4 ⟨k4, rfl, how, hb⟩
  have O4 := Lib.hid how
  have B4 := Lib.hid (below_on B3.out hb)
  have XG := Lib.hid (XG.out.kept hb)
  have XB := Lib.hid (XB.out.kept hb)
  have R4 := Lib.hid (show RdZ 0 w4 (some ⟨k4, 0, none⟩) [z] from (show OwnZ _ 0 w4 (.slice (some ⟨k4, 0, none⟩) [z].length 1) [z] from how).rd.1)
  clear hb how ONz HZ O4
  go_wp2_with fail
  refine (MN1.out _ z _ B4.out R4.out).mono ?_
  rintro e w5 ⟨hb, (⟨h1, ao, cap, V, rfl, h3, _, h5, _⟩ | ⟨h1, rfl⟩)⟩
  rotate_left
  · have TE : T = ([], (mnP (D.map ZV.p) [z.p]).2) := by rw [TT.out, thE_no h1]
    exact And.intro rfl ⟨below_on B4.out hb, Or.inr ⟨by rw [TE]; exact h1, by rw [TE]⟩⟩
  have O5 := Lib.hid ((h5 (by simp)).low B4.out.size (Nat.le_refl 0))
  have VP := Lib.hid h3
  have VL := Lib.hid (show V.length ≤ 2000 by have := mnP_one h1; rw [← h3] at this; simpa using this)
  have TT := Lib.hid (show T = thE (coR (mtS [g.p] [z.p])) fun m => thE (mnP m [b.p]) fun be => thE (coR (eaS dnP be)) fun dn => (V.map ZV.p ++ dn, 0) by rw [TT.out, thE_ok h1, VP.out])
  have B5 := Lib.hid (below_on B4.out hb)
  have XG := Lib.hid (XG.out.kept hb)
  have XB := Lib.hid (XB.out.kept hb)
  have R4 := Lib.hid (R4.out.on hb)
  have MTC := Lib.hid (show ∀ W q, Below w5.heap.size w5 W → RdZ 0 W (some q) [g] → Calls Tryz.prog 42 #[.slice (some q) 1 1, .slice (some ⟨k4, 0, none⟩) 1 1] W (ColRes 0 W (mtS [g.p] [z.p]).1 (colE (mtS [g.p] [z.p]).1 (mtS [g.p] [z.p]).2)) from fun W q h k => by
    have := fmeet_any [g] [z] (some q) (some ⟨k4, 0, none⟩) 1 1 0 W (Nat.zero_le _) k (R4.out.on h) (by simp) (by simp)
    simpa using this)
  have MN2 := Lib.hid (show ∀ W (Z : List ZV) ao cap q, RdZ 0 W ao Z → Z.length ≤ 1000000 → RdZ 0 W (some q) [b] → Calls Tryz.prog 49 #[.slice ao Z.length cap, .slice (some q) 1 1] W (MiRes 0 W [b.p] (mnP (Z.map ZV.p) [b.p])) from fun W Z ao cap q h hl k => by
    have := fminus_any Z [b] ao (some q) cap 1 0 W (Nat.zero_le _) h k hl (by simp)
    simpa using this)
  clear hb h1 h3 h5 MN1
  go_upto_region 3 with (fail)
  have KS := Lib.hid (show ∀ W, Below w5.heap.size w5 W → (W.cell? ⟨w.heap.size, 0, none⟩ = some (.int .i64 g.N) ∧ W.cell? ⟨w.heap.size, 1, none⟩ = some (.slice g.a gl g.c) ∧ W.cell? ⟨w.heap.size + 1, 0, none⟩ = some (.int .i64 b.N) ∧ W.cell? ⟨w.heap.size + 1, 1, none⟩ = some (.slice b.a bl b.c)) from fun W h => ⟨(XG.out.kept h).facts.1, (XG.out.kept h).facts.2.1, (XB.out.kept h).facts.1, (XB.out.kept h).facts.2.1⟩)
  obtain ⟨wc, hwc⟩ : ∃ wc, wc = w5.drew := ⟨_, rfl⟩
  have Bc := Lib.hid (show Below w5.heap.size w5 wc by rw [hwc]; exact (Below.refl _ _).drew)
  refine wp_region_held_drew (S := (fun W => (W.cell? ⟨w.heap.size, 0, none⟩ = some (.int .i64 g.N) ∧ W.cell? ⟨w.heap.size, 1, none⟩ = some (.slice g.a gl g.c) ∧ W.cell? ⟨w.heap.size + 1, 0, none⟩ = some (.int .i64 b.N) ∧ W.cell? ⟨w.heap.size + 1, 1, none⟩ = some (.slice b.a bl b.c)))) (by kernel_rfl) (by rw [← hwc]; exact KS.out _ Bc.out) (fun h0 => ?_)
  rw [← hwc] at h0 ⊢
  clear hwc
  refine tkH (i := 0) (v := ?v1) rfl (Or.inl ⟨by rfl, ?hy1⟩) h0 ?rest1
  case hy1 => (intro w' hS; (try dsimp only at hS); go_simp; try (with_reducible rfl))
  simp only [Act.put, sA, sB, sD, sE, sF]
  refine tkH (i := 2) (v := ?v2) rfl (Or.inl ⟨by rfl, ?hy2⟩) h0 ?rest2
  case hy2 => (intro w' hS; (try dsimp only at hS); go_simp; try (with_reducible rfl))
  simp only [Act.put, sZ]
  refine tkH (i := 4) (v := ?v3) rfl (Or.inl ⟨by rfl, ?hy3⟩) h0 ?rest3
  case hy3 => (intro w' hS; (try dsimp only at hS); go_simp; try (with_reducible rfl))
  simp only [Act.put, sZ]
  refine wpAnyH_ready (rs := [1]) (by kernel_rfl) (by simp) (AllReadyH.cons rfl (fun K hK => ?_) AllReadyH.nil)
  rw [if_pos (by rfl)]
  go_simp
  refine (ONg.out wc (below_on B5.out Bc.out)).mono ?_
  rintro e wd ⟨k6, rfl, how, hb⟩
  have R6 := Lib.hid (show RdZ 0 wd (some ⟨k6, 0, none⟩) [g] from (show OwnZ _ 0 wd (.slice (some ⟨k6, 0, none⟩) [g].length 1) [g] from how).rd.1)
  have Bc := Lib.hid (below_on Bc.out hb)
  clear hb how
  obtain ⟨wc, hwc⟩ : ∃ wc, wc = wd := ⟨_, rfl⟩
  rw [← hwc] at Bc R6 ⊢
  clear hwc
  go_simp
  refine hK.out _ _ (KS.out _ Bc.out) (fun h0_1 => ?_)
  clear hK K h0
  refine wpAnyH_ready (rs := [3]) (by kernel_rfl) (by simp) (AllReadyH.cons rfl (fun K hK => ?_) AllReadyH.nil)
  rw [if_pos (by rfl)]
  go_simp
  refine (MTC.out wc _ Bc.out R6.out).mono ?_
  rintro e wd ⟨hb, (⟨h1, v, Z, rfl, h3, h4⟩ | ⟨h1, rfl⟩)⟩
  rotate_left
  · have TE : T = ([], colE (mtS [g.p] [z.p]).1 (mtS [g.p] [z.p]).2) := by rw [TT.out]; exact thE_no h1
    exact And.intro rfl ⟨below_on B5.out (below_on Bc.out hb), Or.inr ⟨by rw [TE]; exact h1, by rw [TE]⟩⟩
  have TT := Lib.hid (show T = thE (mnP (Z.map ZV.p) [b.p]) fun be => thE (coR (eaS dnP be)) fun dn => (V.map ZV.p ++ dn, 0) by rw [TT.out]; refine (thE_ok (r := coR (mtS [g.p] [z.p])) h1).trans ?_; rw [h3]; rfl)
  obtain ⟨ao6, cap6, rfl, rz, _⟩ := h4.read
  have RZ := Lib.hid rz
  have ZL := Lib.hid (show Z.length ≤ 1000000 by have := colE_len h1; rw [← h3] at this; simp at this; omega)
  have Bc := Lib.hid (below_on Bc.out hb)
  clear hb h1 h3 h4 rz
  obtain ⟨wc, hwc⟩ : ∃ wc, wc = wd := ⟨_, rfl⟩
  rw [← hwc] at Bc RZ ⊢
  clear hwc
  go_simp
  refine hK.out _ _ (KS.out _ Bc.out) (fun h0_2 => ?_)
  clear hK K h0_1
  refine wpAnyH_ready (rs := [5]) (by kernel_rfl) (by simp) (AllReadyH.cons rfl (fun K hK => ?_) AllReadyH.nil)
  rw [if_pos (by rfl)]
  go_simp
  refine (ONb.out wc (below_on B5.out Bc.out)).mono ?_
  rintro e wd ⟨k7, rfl, how, hb⟩
  have R7 := Lib.hid (show RdZ 0 wd (some ⟨k7, 0, none⟩) [b] from (show OwnZ _ 0 wd (.slice (some ⟨k7, 0, none⟩) [b].length 1) [b] from how).rd.1)
  have RZ := Lib.hid (RZ.out.on hb)
  have Bc := Lib.hid (below_on Bc.out hb)
  clear hb how
  obtain ⟨wc, hwc⟩ : ∃ wc, wc = wd := ⟨_, rfl⟩
  rw [← hwc] at Bc R7 RZ ⊢
  clear hwc
  go_simp
  refine hK.out _ _ (KS.out _ Bc.out) (fun h0_3 => ?_)
  clear hK K h0_2
  refine wpAnyH_ready (rs := [6]) (by kernel_rfl) (by simp) (AllReadyH.cons rfl (fun K hK => ?_) AllReadyH.nil)
  rw [if_pos (by rfl)]
  go_simp
  refine (MN2.out wc Z ao6 cap6 _ RZ.out ZL.out R7.out).mono ?_
  rintro e wd ⟨hb, (⟨h1, ao7, cap7, Y, rfl, h3, ry, _, yl⟩ | ⟨h1, rfl⟩)⟩
  rotate_left
  · have TE : T = ([], (mnP (Z.map ZV.p) [b.p]).2) := by rw [TT.out]; exact thE_no h1
    exact And.intro rfl ⟨below_on B5.out (below_on Bc.out hb), Or.inr ⟨by rw [TE]; exact h1, by rw [TE]⟩⟩
  have TT := Lib.hid (show T = thE (coR (eaS dnP (Y.map ZV.p))) fun dn => (V.map ZV.p ++ dn, 0) by rw [TT.out]; refine (thE_ok (r := mnP (Z.map ZV.p) [b.p]) h1).trans ?_; rw [h3])
  have RY := Lib.hid ry
  have YL := Lib.hid yl
  have Bc := Lib.hid (below_on Bc.out hb)
  clear hb h1 h3 ry yl
  obtain ⟨wc, hwc⟩ : ∃ wc, wc = wd := ⟨_, rfl⟩
  rw [← hwc] at Bc RY ⊢
  clear hwc
  go_simp
  refine hK.out _ _ (KS.out _ Bc.out) (fun h0_4 => ?_)
  clear hK K h0_3
  refine tkH (i := 7) (v := ?v4) rfl (Or.inl ⟨by rfl, ?hy4⟩) h0_4 ?rest4
  case hy4 => (intro w' hS; (try dsimp only at hS); go_simp; try (with_reducible rfl))
  simp only [Act.put, sA, sB, sC, sD]
  try simp only [sF]
  try simp only [sE]
  refine wpAnyH_done (by kernel_rfl) ?_ _
  have B7 := Lib.hid (below_on B5.out Bc.out)
  have O7 := Lib.hid (O5.out.on Bc.out)
  clear Bc KS
  try simp only [Exit.then]
  have EF := Lib.hid (fun W => eachf_any ao7 Y.length cap7 65 W)
  have CO := Lib.hid (show ∀ w8, w8 = (wc.alloc (.cells #[.slice ao7 Y.length cap7] 22)).alloc (.cells #[.func (.func 65) #[] #[]] 77) → Below wc.heap.size wc w8 ∧ Calls Tryz.prog 60 #[.func (.func 106) #[] #[.pointer (some ⟨wc.heap.size, 0, none⟩), .pointer (some ⟨wc.heap.size + 1, 0, none⟩)]] w8 (ColRes wc.heap.size w8 (eaS dnP (Y.map ZV.p)).1 (colE (eaS dnP (Y.map ZV.p)).1 (eaS dnP (Y.map ZV.p)).2)) from by
    intro w8 hw8
    have b1 : Below wc.heap.size wc w8 := by rw [hw8]; exact past_two (Below.refl _ _)
    have x0 : Bx1 w8 wc.heap.size (.slice ao7 Y.length cap7) 22 := by rw [hw8]; exact (Bx1.made wc _ _).kept (one_more _)
    have x1 : Bx1 w8 (wc.heap.size + 1) (.func (.func 65) #[] #[]) 77 := by rw [hw8]; have := Bx1.made (wc.alloc (.cells #[.slice ao7 Y.length cap7] 22)) (.func (.func 65) #[] #[]) 77; simpa using this
    exact ⟨b1, fcollect_any 106 _ wc.heap.size _ _ w8 (fclosure _ Tryz.func106 (by kernel_rfl) rfl) (each_seq dnP 65 Y ao7 cap7 wc.heap.size (wc.heap.size + 1) wc.heap.size w8 b1.size x0.cell x1.cell (RY.out.on b1) YL.out (fclosure _ Tryz.func65 (by kernel_rfl) rfl) (fun z _ V hV => dn_out z V hV))⟩)
  clear RY YL
  generalize Y.length = yn at *
  go_wp2_with fail
  refine (EF.out _).mono ?_
  rintro e w8 ⟨rfl, hw8⟩
  obtain ⟨hb8, co⟩ := CO.out w8 hw8
  have CO2 := Lib.hid co
  have B8 := Lib.hid hb8
  clear hw8 hb8 co CO EF
  go_wp2_with fail
  refine CO2.out.mono ?_
  rintro e w9 ⟨hb, (⟨h1, v, K, rfl, h3, h4⟩ | ⟨h1, rfl⟩)⟩
  rotate_left
  · have TE : T = ([], colE (eaS dnP (Y.map ZV.p)).1 (eaS dnP (Y.map ZV.p)).2) := by rw [TT.out]; exact thE_no h1
    exact And.intro rfl ⟨below_on B7.out (below_on B8.out hb), Or.inr ⟨by rw [TE]; exact h1, by rw [TE]⟩⟩
  have TE := Lib.hid (show T = (V.map ZV.p ++ K.map ZV.p, 0) by
    rw [TT.out]
    refine (thE_ok (r := coR (eaS dnP (Y.map ZV.p))) h1).trans ?_
    rw [h3]; rfl)
  obtain ⟨ao9, cap9, rfl, rk, qk⟩ := h4.read
  have RK := Lib.hid (show RdZ 0 w9 ao9 K from rk.low (Nat.zero_le _))
  have CK := Lib.hid (show ao9 = none → cap9 = 0 from h4.rd.2)
  have KL := Lib.hid (show K.length ≤ 2000 by have := colE_len h1; rw [← h3] at this; simpa using this)
  have KF := Lib.hid (show ∀ z ∈ K, ∀ p, z.a = some p → (Value.slice ao V.length cap).ownBlock ≠ some p.block from fun z hz p e q => by
    have k1 := ((h4.el z hz).2 p e).1
    have k2 := (O7.out.lt p.block q).2
    omega)
  have O9 := Lib.hid ((O7.out.on B8.out).on hb)
  have B9 := Lib.hid (below_on B7.out (below_on B8.out hb))
  clear hb h1 h3 h4 rk qk CO2 TT
  go_wp2_with (at_builtin; refine wpl_appLZ rfl _ _ rfl w.heap.size 0 _ V K rfl O9.out ao9 cap9 rfl RK.out CK.out KF.out ?ql1 B9.out.size ?_)
  case ql1 => have := VL.out; have := KL.out; omega
  intro v' w10 ho hgw
  have OF := Lib.hid ho
  have B10 := Lib.hid (below_trans B9.out (grown_belowR hgw B9.out.size (fun k e => (O9.out.lt k e).1)))
  obtain ⟨ao11, cap11, rfl⟩ := ho.form
  have LF := Lib.hid (show (V ++ K).length ≤ 4000 by have := VL.out; have := KL.out; simp; omega)
  have PF := Lib.hid (show (V ++ K).map ZV.p = V.map ZV.p ++ K.map ZV.p by simp)
  generalize V ++ K = F at *
  clear ho hgw O9 RK CK KF KL VL
  go_wp2_with fail
  go_ret
  exact ⟨B10.out, Or.inl ⟨by rw [TE.out], ao11, cap11, F, rfl, OF.out, by rw [TE.out, PF.out], LF.out⟩⟩
end Go.Proofs.YtaegiihkgicdnaaGreat
