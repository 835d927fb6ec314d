/- A part. -/
import Derived.Test.YthjapmdfcbngmaaGreatWr11
import Derived.Test.YthjapmdfcbngmaaGreatWr34
namespace Go.Proofs.YthjapmdfcbngmaaGreat
set_option maxHeartbeats 16000000
open Go.RowKit
section
variable {ops : Array Oper} {rest : List Oper} {o : Oper} {a : Act} {w : World} {Q : Exit → Act → World → Prop}
theorem wpl_appLZ (hgd : o.guard = none) (s x : Operand) (ho : o.op = .call { callee := .builtin .append, args := #[s, x], argTypes := #[22, 22] }) (R B : Nat) (v : Value) (L M : List ZV) (hs : a.eval s = v) (hown : OwnZ R B w v L) (ao : Option Addr) (c : Nat) (hx : a.eval x = .slice ao M.length c)
  (hM : RdZ B w ao M) (hn : ao = none → c = 0) (hF : ∀ z ∈ M, ∀ p, z.a = some p → v.ownBlock ≠ some p.block) (hle : L.length + M.length ≤ 4000000) (hB : R ≤ w.heap.size)
  (h : ∀ v' w', OwnZ R B w' v' (L ++ M) → w.grownBy w' v.ownBlock → wpList Tryz.prog ops Q rest (a.put o.dst v') w') : wpList Tryz.prog ops Q (o :: rest) a w := by
 obtain ⟨v', w', hr, h1, h2⟩ := appendLZ_run hown hM hn hF hle hB o.type
 have hk := h v' w' h1 h2
 refine wpList_plain hgd fun K hK => ?_
 unfold Oper.wp
 simp [execOp, ho, resolve, invoke, builtin, hs, hx, hr, Result.andThen]
 exact hK _ _ hk
end
def dnR (b : Zp) : List Zp × Int := ([(dnP b).1], (dnP b).2)
def coR (s : Sq) : List Zp × Int := (s.1, colE s.1 s.2)
def avP (g : Zp) (d : List Zp) (b : Zp) : List Zp × Int :=
 thE (dnR b) fun ah => thE (mnP d ah) fun nv => thE (coR (mtS [g] ah)) fun m => thE (mnP m [b]) fun be => thE (coR (eaS dnP be)) fun dn => (nv ++ dn, 0)
def AvRes (w : World) (r : List Zp × Int) (e : Ending) (w' : World) : Prop :=
 Below w.heap.size w w' ∧ ((r.2 = 0 ∧ ∃ ao cap L, e = .returned (.slice ao L.length cap) ∧ OwnZ w.heap.size 0 w' (.slice ao L.length cap) L ∧ L.map ZV.p = r.1 ∧ L.length ≤ 4000) ∨ (r.2 ≠ 0 ∧ e = .panicked (pan r.2)))
theorem mnP_one {d : List Zp} {x : Zp} (_h : (mnP d [x]).2 = 0) : (mnP d [x]).1.length ≤ 2000 := by
 unfold mnP
 split
 · rename_i q; exact colE_len q
 · simp
set_option maxRecDepth 100000 in
theorem avoiding_any (g b : ZV) (D : List ZV) (go : Option Addr) (gc : Nat) (w : World) (hg : ZAt 0 w g) (hb : ZAt 0 w b) (hD : RdZ 0 w go D) (hd : D.length ≤ 1000000) :
  Calls Tryz.prog 145 #[g.val, .slice go D.length gc, b.val] w (AvRes w (avP g.p (D.map ZV.p) b.p)) := by
 obtain ⟨T, hT⟩ : ∃ T, T = avP g.p (D.map ZV.p) b.p := ⟨_, rfl⟩
 rw [← hT]
 have TT := Lib.hid hT
 have GZ := Lib.hid hg
 have BZ := Lib.hid hb
 have RD := Lib.hid hD
 have DNC := Lib.hid (show ∀ W, Below w.heap.size w W → Calls Tryz.prog 65 #[b.val] W (ZOut W (dnP b.p)) from fun W h => dn_out b W (hb.on h))
 have ONg := Lib.hid (show ∀ W, Below w.heap.size w W → Calls Tryz.prog 142 #[g.val] W (fun e w' => ∃ k, e = .returned (.slice (some ⟨k, 0, none⟩) 1 1) ∧ OwnZ W.heap.size 0 w' (.slice (some ⟨k, 0, none⟩) 1 1) [g] ∧ Below W.heap.size W w') from fun W h => one_own g W (hg.on h))
 have ONb := Lib.hid (show ∀ W, Below w.heap.size w W → Calls Tryz.prog 142 #[b.val] W (fun e w' => ∃ k, e = .returned (.slice (some ⟨k, 0, none⟩) 1 1) ∧ OwnZ W.heap.size 0 w' (.slice (some ⟨k, 0, none⟩) 1 1) [b] ∧ Below W.heap.size W w') from fun W h => one_own b W (hb.on h))
 have MN1 := Lib.hid (show ∀ W (a : ZV) q, Below w.heap.size w W → RdZ 0 W (some q) [a] → Calls Tryz.prog 49 #[.slice go D.length gc, .slice (some q) 1 1] W (MiRes 0 W [a.p] (mnP (D.map ZV.p) [a.p])) from fun W a q h k => by
  have := fminus_any D [a] go (some q) gc 1 0 W (Nat.zero_le _) (hD.on h) k (by omega) (by simp)
  simpa using this)
 unfold ZV.val at DNC ONg ONb ⊢
 obtain ⟨gl, hgl⟩ : ∃ gl, gl = g.l.length := ⟨_, rfl⟩
 obtain ⟨bl, hbl⟩ : ∃ bl, bl = b.l.length := ⟨_, rfl⟩
 obtain ⟨n, hn⟩ : ∃ n, n = D.length := ⟨_, rfl⟩
 rw [← hgl] at ONg ⊢
 rw [← hbl] at ONb DNC ⊢
 rw [← hn] at MN1 ⊢
 obtain ⟨w1, hw1⟩ : ∃ w1, w1 = (w.alloc (.cells #[.int .i64 g.N, .slice g.a gl g.c] 36)).alloc (.cells #[.int .i64 b.N, .slice b.a bl b.c] 36) := ⟨_, rfl⟩
 have B1 := Lib.hid (show Below w.heap.size w w1 by rw [hw1]; exact past_two (Below.refl _ _))
 have XG := Lib.hid (show Bx2 w1 w.heap.size (.int .i64 g.N) (.slice g.a gl g.c) 36 by rw [hw1]; exact (Bx2.made w _ _ _).kept (one_more _))
 have XB := Lib.hid (show Bx2 w1 (w.heap.size + 1) (.int .i64 b.N) (.slice b.a bl b.c) 36 by rw [hw1]; have := Bx2.made (w.alloc (.cells #[.int .i64 g.N, .slice g.a gl g.c] 36)) (.int .i64 b.N) (.slice b.a bl b.c) 36; simpa using this)
 clear hT hg hb hD hd hgl hbl hn
 go_enter Tryz.func145, Tryz.ntmps145
 go_wp2_with fail
 rw [← hw1]
 clear hw1
 refine (DNC.out _ B1.out).mono ?_
 rintro e w2 ⟨hb, z, rfl, hz, hp⟩
 obtain ⟨e2, he2⟩ : ∃ e2, e2 = (dnP b.p).2 := ⟨_, rfl⟩
 rw [← he2] at hp ⊢
 have E2 := Lib.hid he2
 have HP := Lib.hid hp
 have HZ := Lib.hid (show ZAt 0 w2 z from hz.low (Nat.zero_le _))
 have B2 := Lib.hid (below_on B1.out hb)
 have XG := Lib.hid (XG.out.kept hb)
 have XB := Lib.hid (XB.out.kept hb)
 have MU := Lib.hid (fun W => mustZ_any z e2 W)
 have ONz := Lib.hid (show ∀ W, ZAt 0 W z → Calls Tryz.prog 142 #[z.val] W (fun e w' => ∃ k, e = .returned (.slice (some ⟨k, 0, none⟩) 1 1) ∧ OwnZ W.heap.size 0 w' (.slice (some ⟨k, 0, none⟩) 1 1) [z] ∧ Below W.heap.size W w') from fun W h => one_own z W h)
 unfold ZV.val at MU ONz ⊢
 generalize z.l.length = zl at *
 clear hb hz hp he2 DNC
 go_wp2_with fail
 refine (MU.out _).mono ?_
 rintro e w3 ⟨hb, (⟨he, rfl⟩ | ⟨he, rfl⟩)⟩
 rotate_left
 · have TE : T = ([], e2) := by rw [TT.out, avP, thE_no (show (dnR b.p).2 ≠ 0 by show (dnP b.p).2 ≠ 0; rw [← E2.out]; exact he)]; show ([], (dnP b.p).2) = _; rw [← E2.out]
   exact And.intro rfl ⟨below_on B2.out hb, Or.inr ⟨by rw [TE]; exact he, by rw [TE]⟩⟩
 have HP := Lib.hid (HP.out he)
 have TT := Lib.hid (show T = thE (mnP (D.map ZV.p) [z.p]) fun nv => thE (coR (mtS [g.p] [z.p])) fun m => thE (mnP m [b.p]) fun be => thE (coR (eaS dnP be)) fun dn => (nv ++ dn, 0) by
  rw [TT.out, avP, thE_ok (show (dnR b.p).2 = 0 by show (dnP b.p).2 = 0; rw [← E2.out]; exact he)]; show _ = _; rw [HP.out]; rfl)
 have HZ := Lib.hid (HZ.out.on hb)
 have B3 := Lib.hid (below_on B2.out hb)
 have XG := Lib.hid (XG.out.kept hb)
 have XB := Lib.hid (XB.out.kept hb)
 clear hb he MU
 go_wp2_with fail
 refine (ONz.out _ HZ.out).mono ?_
 rintro e w4 ⟨k4, rfl, how, hb⟩
 have O4 := Lib.hid how
 have B4 := Lib.hid (below_on B3.out hb)
 have XG := Lib.hid (XG.out.kept hb)
 have XB := Lib.hid (XB.out.kept hb)
 have R4 := Lib.hid (show RdZ 0 w4 (some ⟨k4, 0, none⟩) [z] from (show OwnZ _ 0 w4 (.slice (some ⟨k4, 0, none⟩) [z].length 1) [z] from how).rd.1)
 clear hb how ONz HZ O4
 go_wp2_with fail
 refine (MN1.out _ z _ B4.out R4.out).mono ?_
 rintro e w5 ⟨hb, (⟨h1, ao, cap, V, rfl, h3, _, h5, _⟩ | ⟨h1, rfl⟩)⟩
 rotate_left
 · have TE : T = ([], (mnP (D.map ZV.p) [z.p]).2) := by rw [TT.out, thE_no h1]
   exact And.intro rfl ⟨below_on B4.out hb, Or.inr ⟨by rw [TE]; exact h1, by rw [TE]⟩⟩
 have O5 := Lib.hid ((h5 (by simp)).low B4.out.size (Nat.le_refl 0))
 have VP := Lib.hid h3
 have VL := Lib.hid (show V.length ≤ 2000 by have := mnP_one h1; rw [← h3] at this; simpa using this)
 have TT := Lib.hid (show T = thE (coR (mtS [g.p] [z.p])) fun m => thE (mnP m [b.p]) fun be => thE (coR (eaS dnP be)) fun dn => (V.map ZV.p ++ dn, 0) by rw [TT.out, thE_ok h1, VP.out])
 have B5 := Lib.hid (below_on B4.out hb)
 have XG := Lib.hid (XG.out.kept hb)
 have XB := Lib.hid (XB.out.kept hb)
 have R4 := Lib.hid (R4.out.on hb)
 have MTC := Lib.hid (show ∀ W q, Below w5.heap.size w5 W → RdZ 0 W (some q) [g] → Calls Tryz.prog 42 #[.slice (some q) 1 1, .slice (some ⟨k4, 0, none⟩) 1 1] W (ColRes 0 W (mtS [g.p] [z.p]).1 (colE (mtS [g.p] [z.p]).1 (mtS [g.p] [z.p]).2)) from fun W q h k => by
  have := fmeet_any [g] [z] (some q) (some ⟨k4, 0, none⟩) 1 1 0 W (Nat.zero_le _) k (R4.out.on h) (by simp) (by simp)
  simpa using this)
 have MN2 := Lib.hid (show ∀ W (Z : List ZV) ao cap q, RdZ 0 W ao Z → Z.length ≤ 1000000 → RdZ 0 W (some q) [b] → Calls Tryz.prog 49 #[.slice ao Z.length cap, .slice (some q) 1 1] W (MiRes 0 W [b.p] (mnP (Z.map ZV.p) [b.p])) from fun W Z ao cap q h hl k => by
  have := fminus_any Z [b] ao (some q) cap 1 0 W (Nat.zero_le _) h k hl (by simp)
  simpa using this)
 clear hb h1 h3 h5 MN1
 go_upto_region 3 with (fail)
 have KS := Lib.hid (show ∀ W, Below w5.heap.size w5 W → (W.cell? ⟨w.heap.size, 0, none⟩ = some (.int .i64 g.N) ∧ W.cell? ⟨w.heap.size, 1, none⟩ = some (.slice g.a gl g.c) ∧ W.cell? ⟨w.heap.size + 1, 0, none⟩ = some (.int .i64 b.N) ∧ W.cell? ⟨w.heap.size + 1, 1, none⟩ = some (.slice b.a bl b.c)) from fun W h => ⟨(XG.out.kept h).facts.1, (XG.out.kept h).facts.2.1, (XB.out.kept h).facts.1, (XB.out.kept h).facts.2.1⟩)
 obtain ⟨wc, hwc⟩ : ∃ wc, wc = w5.drew := ⟨_, rfl⟩
 have Bc := Lib.hid (show Below w5.heap.size w5 wc by rw [hwc]; exact (Below.refl _ _).drew)
 refine wp_region_held_drew (S := (fun W => (W.cell? ⟨w.heap.size, 0, none⟩ = some (.int .i64 g.N) ∧ W.cell? ⟨w.heap.size, 1, none⟩ = some (.slice g.a gl g.c) ∧ W.cell? ⟨w.heap.size + 1, 0, none⟩ = some (.int .i64 b.N) ∧ W.cell? ⟨w.heap.size + 1, 1, none⟩ = some (.slice b.a bl b.c)))) (by kernel_rfl) (by rw [← hwc]; exact KS.out _ Bc.out) (fun h0 => ?_)
 rw [← hwc] at h0 ⊢
 clear hwc
 refine tkI (i := 0) rfl h0 ?_
 simp only [Act.put, sA, sB, sD, sE, sF]
 refine tkI (i := 2) rfl h0 ?_
 simp only [Act.put, sZ]
 refine tkI (i := 4) rfl h0 ?_
 simp only [Act.put, sZ]
 refine wpAnyH_ready (rs := [1]) (by kernel_rfl) (by simp) (AllReadyH.cons rfl (fun K hK => ?_) AllReadyH.nil)
 rw [if_pos (by rfl)]
 go_simp
 refine (ONg.out wc (below_on B5.out Bc.out)).mono ?_
 rintro e wd ⟨k6, rfl, how, hb⟩
 have R6 := Lib.hid (show RdZ 0 wd (some ⟨k6, 0, none⟩) [g] from (show OwnZ _ 0 wd (.slice (some ⟨k6, 0, none⟩) [g].length 1) [g] from how).rd.1)
 have Bc := Lib.hid (below_on Bc.out hb)
 clear hb how
 obtain ⟨wc, hwc⟩ : ∃ wc, wc = wd := ⟨_, rfl⟩
 rw [← hwc] at Bc R6 ⊢
 clear hwc
 go_simp
 refine hK.out _ _ (KS.out _ Bc.out) (fun h0_1 => ?_)
 clear hK K h0
 refine wpAnyH_ready (rs := [3]) (by kernel_rfl) (by simp) (AllReadyH.cons rfl (fun K hK => ?_) AllReadyH.nil)
 rw [if_pos (by rfl)]
 go_simp
 refine (MTC.out wc _ Bc.out R6.out).mono ?_
 rintro e wd ⟨hb, (⟨h1, v, Z, rfl, h3, h4⟩ | ⟨h1, rfl⟩)⟩
 rotate_left
 · have TE : T = ([], colE (mtS [g.p] [z.p]).1 (mtS [g.p] [z.p]).2) := by rw [TT.out]; exact thE_no h1
   exact And.intro rfl ⟨below_on B5.out (below_on Bc.out hb), Or.inr ⟨by rw [TE]; exact h1, by rw [TE]⟩⟩
 have TT := Lib.hid (show T = thE (mnP (Z.map ZV.p) [b.p]) fun be => thE (coR (eaS dnP be)) fun dn => (V.map ZV.p ++ dn, 0) by rw [TT.out]; refine (thE_ok (r := coR (mtS [g.p] [z.p])) h1).trans ?_; rw [h3]; rfl)
 obtain ⟨ao6, cap6, rfl, rz, _⟩ := h4.read
 have RZ := Lib.hid rz
 have ZL := Lib.hid (show Z.length ≤ 1000000 by have := colE_len h1; rw [← h3] at this; simp at this; omega)
 have Bc := Lib.hid (below_on Bc.out hb)
 clear hb h1 h3 h4 rz
 obtain ⟨wc, hwc⟩ : ∃ wc, wc = wd := ⟨_, rfl⟩
 rw [← hwc] at Bc RZ ⊢
 clear hwc
 go_simp
 refine hK.out _ _ (KS.out _ Bc.out) (fun h0_2 => ?_)
 clear hK K h0_1
 refine wpAnyH_ready (rs := [5]) (by kernel_rfl) (by simp) (AllReadyH.cons rfl (fun K hK => ?_) AllReadyH.nil)
 rw [if_pos (by rfl)]
 go_simp
 refine (ONb.out wc (below_on B5.out Bc.out)).mono ?_
 rintro e wd ⟨k7, rfl, how, hb⟩
 have R7 := Lib.hid (show RdZ 0 wd (some ⟨k7, 0, none⟩) [b] from (show OwnZ _ 0 wd (.slice (some ⟨k7, 0, none⟩) [b].length 1) [b] from how).rd.1)
 have RZ := Lib.hid (RZ.out.on hb)
 have Bc := Lib.hid (below_on Bc.out hb)
 clear hb how
 obtain ⟨wc, hwc⟩ : ∃ wc, wc = wd := ⟨_, rfl⟩
 rw [← hwc] at Bc R7 RZ ⊢
 clear hwc
 go_simp
 refine hK.out _ _ (KS.out _ Bc.out) (fun h0_3 => ?_)
 clear hK K h0_2
 refine wpAnyH_ready (rs := [6]) (by kernel_rfl) (by simp) (AllReadyH.cons rfl (fun K hK => ?_) AllReadyH.nil)
 rw [if_pos (by rfl)]
 go_simp
 refine (MN2.out wc Z ao6 cap6 _ RZ.out ZL.out R7.out).mono ?_
 rintro e wd ⟨hb, (⟨h1, ao7, cap7, Y, rfl, h3, ry, _, yl⟩ | ⟨h1, rfl⟩)⟩
 rotate_left
 · have TE : T = ([], (mnP (Z.map ZV.p) [b.p]).2) := by rw [TT.out]; exact thE_no h1
   exact And.intro rfl ⟨below_on B5.out (below_on Bc.out hb), Or.inr ⟨by rw [TE]; exact h1, by rw [TE]⟩⟩
 have TT := Lib.hid (show T = thE (coR (eaS dnP (Y.map ZV.p))) fun dn => (V.map ZV.p ++ dn, 0) by rw [TT.out]; refine (thE_ok (r := mnP (Z.map ZV.p) [b.p]) h1).trans ?_; rw [h3])
 have RY := Lib.hid ry
 have YL := Lib.hid yl
 have Bc := Lib.hid (below_on Bc.out hb)
 clear hb h1 h3 ry yl
 obtain ⟨wc, hwc⟩ : ∃ wc, wc = wd := ⟨_, rfl⟩
 rw [← hwc] at Bc RY ⊢
 clear hwc
 go_simp
 refine hK.out _ _ (KS.out _ Bc.out) (fun h0_4 => ?_)
 clear hK K h0_3
 refine tkI (i := 7) rfl h0_4 ?_
 simp only [Act.put, sA, sB, sC, sD]
 try simp only [sF]
 try simp only [sE]
 refine wpAnyH_done (by kernel_rfl) ?_ _
 have B7 := Lib.hid (below_on B5.out Bc.out)
 have O7 := Lib.hid (O5.out.on Bc.out)
 clear Bc KS
 try simp only [Exit.then]
 have EF := Lib.hid (fun W => eachf_any ao7 Y.length cap7 65 W)
 have CO := Lib.hid (show ∀ w8, w8 = (wc.alloc (.cells #[.slice ao7 Y.length cap7] 22)).alloc (.cells #[.func (.func 65) #[] #[]] 77) → Below wc.heap.size wc w8 ∧ Calls Tryz.prog 60 #[.func (.func 106) #[] #[.pointer (some ⟨wc.heap.size, 0, none⟩), .pointer (some ⟨wc.heap.size + 1, 0, none⟩)]] w8 (ColRes wc.heap.size w8 (eaS dnP (Y.map ZV.p)).1 (colE (eaS dnP (Y.map ZV.p)).1 (eaS dnP (Y.map ZV.p)).2)) from by
  intro w8 hw8
  have b1 : Below wc.heap.size wc w8 := by rw [hw8]; exact past_two (Below.refl _ _)
  have x0 : Bx1 w8 wc.heap.size (.slice ao7 Y.length cap7) 22 := by rw [hw8]; exact (Bx1.made wc _ _).kept (one_more _)
  have x1 : Bx1 w8 (wc.heap.size + 1) (.func (.func 65) #[] #[]) 77 := by rw [hw8]; have := Bx1.made (wc.alloc (.cells #[.slice ao7 Y.length cap7] 22)) (.func (.func 65) #[] #[]) 77; simpa using this
  exact ⟨b1, fcollect_any 106 _ wc.heap.size _ _ w8 (fclosure _ Tryz.func106 (by kernel_rfl) rfl) (each_seq dnP 65 Y ao7 cap7 wc.heap.size (wc.heap.size + 1) wc.heap.size w8 b1.size x0.cell x1.cell (RY.out.on b1) YL.out (fclosure _ Tryz.func65 (by kernel_rfl) rfl) (fun z _ V hV => dn_out z V hV))⟩)
 clear RY YL
 generalize Y.length = yn at *
 go_wp2_with fail
 refine (EF.out _).mono ?_
 rintro e w8 ⟨rfl, hw8⟩
 obtain ⟨hb8, co⟩ := CO.out w8 hw8
 have CO2 := Lib.hid co
 have B8 := Lib.hid hb8
 clear hw8 hb8 co CO EF
 go_wp2_with fail
 refine CO2.out.mono ?_
 rintro e w9 ⟨hb, (⟨h1, v, K, rfl, h3, h4⟩ | ⟨h1, rfl⟩)⟩
 rotate_left
 · have TE : T = ([], colE (eaS dnP (Y.map ZV.p)).1 (eaS dnP (Y.map ZV.p)).2) := by rw [TT.out]; exact thE_no h1
   exact And.intro rfl ⟨below_on B7.out (below_on B8.out hb), Or.inr ⟨by rw [TE]; exact h1, by rw [TE]⟩⟩
 have TE := Lib.hid (show T = (V.map ZV.p ++ K.map ZV.p, 0) by
  rw [TT.out]
  refine (thE_ok (r := coR (eaS dnP (Y.map ZV.p))) h1).trans ?_
  rw [h3]; rfl)
 obtain ⟨ao9, cap9, rfl, rk, qk⟩ := h4.read
 have RK := Lib.hid (show RdZ 0 w9 ao9 K from rk.low (Nat.zero_le _))
 have CK := Lib.hid (show ao9 = none → cap9 = 0 from h4.rd.2)
 have KL := Lib.hid (show K.length ≤ 2000 by have := colE_len h1; rw [← h3] at this; simpa using this)
 have KF := Lib.hid (show ∀ z ∈ K, ∀ p, z.a = some p → (Value.slice ao V.length cap).ownBlock ≠ some p.block from fun z hz p e q => by
  have k1 := ((h4.el z hz).2 p e).1
  have k2 := (O7.out.lt p.block q).2
  omega)
 have O9 := Lib.hid ((O7.out.on B8.out).on hb)
 have B9 := Lib.hid (below_on B7.out (below_on B8.out hb))
 clear hb h1 h3 h4 rk qk CO2 TT
 go_wp2_with (at_builtin; refine wpl_appLZ rfl _ _ rfl w.heap.size 0 _ V K rfl O9.out ao9 cap9 rfl RK.out CK.out KF.out ?ql1 B9.out.size ?_)
 case ql1 => have := VL.out; have := KL.out; omega
 intro v' w10 ho hgw
 have OF := Lib.hid ho
 have B10 := Lib.hid (below_trans B9.out (grown_belowR hgw B9.out.size (fun k e => (O9.out.lt k e).1)))
 obtain ⟨ao11, cap11, rfl⟩ := ho.form
 have LF := Lib.hid (show (V ++ K).length ≤ 4000 by have := VL.out; have := KL.out; simp; omega)
 have PF := Lib.hid (show (V ++ K).map ZV.p = V.map ZV.p ++ K.map ZV.p by simp)
 generalize V ++ K = F at *
 clear ho hgw O9 RK CK KF KL VL
 go_wp2_with fail
 go_ret
 exact ⟨B10.out, Or.inl ⟨by rw [TE.out], ao11, cap11, F, rfl, OF.out, by rw [TE.out, PF.out], LF.out⟩⟩
attribute [local go_sem] Oper.semAt_some
def Sep (n : Nat) (L : List ZV) : Prop := L.Pairwise fun x y => ∀ p q, x.a = some p → y.a = some q → n ≤ p.block → p.block ≠ q.block
theorem Sep.app {n : Nat} {L : List ZV} {z : ZV} (h : Sep n L) (hz : ∀ x ∈ L, ∀ p q, x.a = some p → z.a = some q → n ≤ p.block → p.block = q.block → False) : Sep n (L ++ [z]) := by
 unfold Sep
 rw [List.pairwise_append]
 refine ⟨h, List.pairwise_singleton _ _, fun x hx y hy p q e f g r => ?_⟩
 rw [List.mem_singleton] at hy
 subst hy
 exact hz x hx p q e f g r
def ColResS (B : Nat) (w : World) (xs : List Zp) (er : Int) (e : Ending) (w' : World) : Prop :=
 Below w.heap.size w w' ∧ ((er = 0 ∧ ∃ v L, e = .returned v ∧ L.map ZV.p = xs ∧ OwnZ w.heap.size B w' v L ∧ Sep w.heap.size L) ∨ (er ≠ 0 ∧ e = .panicked (pan er)))
theorem ColResS.before {B : Nat} {w w1 w' : World} {xs : List Zp} {er : Int} {e : Ending} (h : ColResS B w1 xs er e w') (hb : Below w.heap.size w w1) (hB : w1.heap.size ≤ B) : ColResS B w xs er e w' := by
 refine ⟨below_on hb h.1, ?_⟩
 rcases h.2 with ⟨h1, v, L, h2, h3, h4, h5⟩ | h
 · refine Or.inl ⟨h1, v, L, h2, h3, h4.low hb.size (Nat.le_refl _), List.Pairwise.imp_of_mem (fun hx _ k p q e f _ => k p q e f (Nat.le_trans hB ((h4.el _ hx).2 p e).1)) h5⟩
 · exact Or.inr h
theorem ColResS.low {B B' : Nat} {w w' : World} {xs : List Zp} {er : Int} {e : Ending} (h : ColResS B w xs er e w') (hb : B' ≤ B) : ColResS B' w xs er e w' := by
 refine ⟨h.1, ?_⟩
 rcases h.2 with ⟨h1, v, L, h2, h3, h4, h5⟩ | h
 · exact Or.inl ⟨h1, v, L, h2, h3, h4.low (Nat.le_refl _) hb, h5⟩
 · exact Or.inr h
structure CoJ (w : World) (B bl : Nat) (pre : List Zp) (T : Nat → Prop) (A : World) (v : Value) (L : List ZV) : Prop where
 own : OwnZ w.heap.size B A v L
 pr : L.map ZV.p = pre
 bx : Bx1 A bl v 22
 be : Below w.heap.size w A
 tl : T bl
 tv : ∀ k, v.ownBlock = some k → T k ∧ k ≠ bl
 tz : ∀ z ∈ L, ∀ p, z.a = some p → (p.block < w.heap.size ∨ T p.block) ∧ p.block ≠ bl
 lt : ∀ k, T k → k < A.heap.size ∧ w.heap.size ≤ k ∧ k ≠ w.heap.size + 1
 len : pre.length ≤ 2000
 sp : Sep w.heap.size L
section
variable {w A B' : World} {B bl D : Nat} {pre : List Zp} {T : Nat → Prop} {v : Value} {L : List ZV}
theorem CoJ.stay (h : CoJ w B bl pre T A v L) {S : Nat → Prop} (k : Kept S A B') (hS : ∀ k, k < w.heap.size ∨ T k → S k) : CoJ w B bl pre T B' v L :=
 ⟨h.own.keptK k (fun j e => hS _ (Or.inr (h.tv j e).1)) (fun z hz p e => hS _ (h.tz z hz p e).1), h.pr, h.bx.keptK k (hS _ (Or.inr h.tl)),
  h.be.trans (k.below w.heap.size h.be.size fun _j hj => hS _ (Or.inl hj)), h.tl, h.tv, h.tz, fun j q => ⟨Nat.lt_of_lt_of_le (h.lt j q).1 k.size, (h.lt j q).2⟩, h.len, h.sp⟩
theorem CoJ.on (h : CoJ w B bl pre T A v L) (k : Below A.heap.size A B') : CoJ w B bl pre T B' v L := h.stay (S := fun _ => True) (Kept.of_below k _) fun _ _ => trivial
theorem CoJ.more (h : CoJ w B bl pre T A v L) {S : Nat → Prop} (hs : ∀ k, S k → k < A.heap.size ∧ w.heap.size ≤ k ∧ k ≠ w.heap.size + 1) : CoJ w B bl pre (fun k => T k ∨ S k) A v L :=
 ⟨h.own, h.pr, h.bx, h.be, Or.inl h.tl, fun k e => ⟨Or.inl (h.tv k e).1, (h.tv k e).2⟩, fun z hz p e => ⟨(h.tz z hz p e).1.imp id Or.inl, (h.tz z hz p e).2⟩, fun k q => q.elim (h.lt k) (hs k), h.len, h.sp⟩
theorem CoJ.app (h : CoJ w B bl pre T A v L) {z : ZV} {v' : Value} (ho : OwnZ w.heap.size B B' v' (L ++ [z])) (hg : A.grownBy B' v.ownBlock) (hf : v'.ownBlock = v.ownBlock ∨ v'.ownBlock = some A.heap.size) (hz : ∀ p, z.a = some p → p.block ≠ bl ∧ p.block < A.heap.size ∧ p.block ≠ w.heap.size + 1) (hsz : w.heap.size + 1 < A.heap.size) (hl : pre.length < 2000) (hzt : ∀ p, z.a = some p → ¬ T p.block) :
  CoJ w B bl (pre ++ [z.p]) (fun k => k = bl ∨ v'.ownBlock = some k ∨ (w.heap.size ≤ k ∧ ∃ y ∈ L ++ [z], ∃ p, y.a = some p ∧ p.block = k)) (B'.setCell ⟨bl, 0, none⟩ v') v' (L ++ [z]) := by
 have lb := h.bx.lt
 have gv : ∀ k, v'.ownBlock = some k → k ≠ bl ∧ w.heap.size ≤ k ∧ k ≠ w.heap.size + 1 := by
  intro k e
  rcases hf with f | f
  · rw [f] at e
    have := h.tv k e
    exact ⟨this.2, (h.lt k this.1).2⟩
  · rw [f] at e; cases e
    have := h.be.size
    exact ⟨by omega, by omega, by omega⟩
 have nz : ∀ y ∈ L ++ [z], ∀ p, y.a = some p → p.block ≠ bl ∧ p.block < B'.heap.size ∧ p.block ≠ w.heap.size + 1 := fun y hy p e => by
  have q0 := ((ho.el y hy).2 p e).2
  rcases List.mem_append.1 hy with q | q
  · refine ⟨(h.tz y q p e).2, q0, ?_⟩
    rcases (h.tz y q p e).1 with r | r
    · omega
    · exact (h.lt _ r).2.2
  · rw [List.mem_singleton] at q; subst q; exact ⟨(hz p e).1, q0, (hz p e).2.2⟩
 have hb := h.be.size
 refine ⟨ho.grown (grown_cell B' bl v') (fun k e q => by injection q with q; exact (gv k e).1 q.symm) (fun y hy p e q => by injection q with q; exact (nz y hy p e).1 q.symm), by rw [List.map_append, h.pr]; rfl,
  (h.bx.grown hg (ne_of_opt fun j e => (h.tv j e).2)).put _, (Below.grown h.be hg h.be.size (fun k hk => (h.own.lt k hk).1)).setCell (p := ⟨bl, 0, none⟩) (h.lt _ h.tl).2.1 _, Or.inl rfl, fun k e => ⟨Or.inr (Or.inl e), (gv k e).1⟩, ?_, ?_, ?_, h.sp.app fun x hx p q e f g r => by
   rcases (h.tz x hx p e).1 with u | u
   · omega
   · exact hzt q f (r ▸ u)⟩
 · intro y hy p e
   refine ⟨?_, (nz y hy p e).1⟩
   by_cases q : p.block < w.heap.size
   · exact Or.inl q
   · exact Or.inr (Or.inr (Or.inr ⟨by omega, y, hy, p, e, rfl⟩))
 · rintro k (q | q | ⟨q, y, hy, p, e, rfl⟩)
   · subst q; exact ⟨by have := hg.size; simp; omega, (h.lt _ h.tl).2⟩
   · exact ⟨by simpa using (ho.lt k q).2, (gv k q).2⟩
   · exact ⟨by simpa using (nz y hy p e).2.1, q, (nz y hy p e).2.2⟩
 · rw [List.length_append]; simp; omega
theorem CoJ.app_kept (h : CoJ w B bl pre T A v L) (hg : A.grownBy B' v.ownBlock) (v' : Value) : Kept (fun k => ¬ T k) A (B'.setCell ⟨bl, 0, none⟩ v') :=
 have k1 : Kept (fun k => ¬ T k) A B' := ⟨hg.os, hg.tape, hg.output, hg.size, fun k hk q => hg.block k hk (fun e => q (h.tv k e.symm).1)⟩
 have g := grown_cell B' bl v'
 k1.trans ⟨g.os, g.tape, g.output, g.size, fun k hk q => g.block k hk (fun e => by injection e with e; exact q (e ▸ h.tl))⟩
end
structure CoB (w : World) (B bl D : Nat) (pre : List Zp) (z : ZV) (T : Nat → Prop) (A : World) (v : Value) (L : List ZV) (q : Nat) : Prop where
 i : CoJ w B bl pre T A v L
 b : Bx2 A q (.int .i64 z.N) (.slice z.a z.l.length z.c) 36
 tq : T q
 za : ZAt B A z
 far : ∀ p, z.a = some p → ¬ T p.block ∧ (p.block < w.heap.size ∨ D ≤ p.block)
 sz : D ≤ A.heap.size
set_option maxRecDepth 100000 in
theorem fcollectS_any (gf : Nat) (lb : Array Value) (B : Nat) (xs : List Zp) (er : Int) (w : World) (eg : ∀ args w, (callFunc gf args).run Tryz.prog w = .ok (.enter gf args) w) (hs : SeqZ B w gf lb xs er) :
  Calls Tryz.prog 60 #[.func (.func gf) #[] lb] w (ColResS B w xs (colE xs er)) := by
 have HS := Lib.hid hs
 obtain ⟨bl, hbl⟩ : ∃ bl, bl = w.heap.size := ⟨_, rfl⟩
 obtain ⟨w1, hw1⟩ : ∃ w1, w1 = w.alloc (.cells #[.slice none 0 0] 22) := ⟨_, rfl⟩
 have E0 := Lib.hid (show Below w.heap.size w w1 by rw [hw1]; exact one_more _)
 have X0 := Lib.hid (show Bx1 w1 bl (.slice none 0 0) 22 by rw [hw1, hbl]; exact Bx1.made w _ _)
 have Z1 := Lib.hid (show w1.heap.size = w.heap.size + 1 by rw [hw1]; simp)
 clear hs
 refine (callsIn_wide (n := 10)).1 (callsIn_of_wpAt Tryz.func60 rfl trivial rfl ?_)
 simp only [Tryz.ntmps60, List.size_toArray, List.length_cons, List.length_nil, Nat.reduceAdd, Nat.reduceSub, Array.replicate_succ, Array.replicate_zero, List.push_toArray, List.append_toArray, List.nil_append, List.cons_append]
 refine wpAt_seq (wpAt_of_wpIn (wpIn_wide.2 ?_))
 go_wp2_with fail
 show WpAt _ _ _ _ _ _ _ _
 refine wpAt_seq (wpAt_of_wpIn (wpIn_wide.2 ?_))
 go_wp2_with fail
 show WpAt _ _ _ _ _ _ _ _
 rw [← hw1, ← hbl]
 refine wpAt_seq (wpAt_seq (wpAt_of_wpIn (wpIn_wide.2 ?_)))
 go_wp2_with fail
 show WpAt _ _ _ _ _ _ _ _
 have HBL := Lib.hid hbl
 clear hw1 hbl
 refine wpAt_block (wpAt_rangeG Tryz.func60 rfl eg (V := VzA B) (gift := giftZ) (n₀ := w.heap.size) (xs := xs) (er := if er = 0 then none else some (pan er)) (fun x args A h => by obtain ⟨z, rfl, _⟩ := h; rfl)
  (fun pre T A => ∃ v L, CoJ w B bl pre T A v L)
  (fun chain A => chain = pan 3 ∧ 2000 < xs.length ∧ Below w.heap.size w A)
  (fun pre x args T a' A => ∃ q z v L, args = #[z.val] ∧ z.p = x ∧ a' = { tmps := #[.func (.func gf) #[] lb, undef, .slice none 0 0, .pointer (some ⟨bl, 0, none⟩), .pointer (some ⟨q, 0, none⟩), .func (.func gf) #[] lb, z.val, undef, undef, undef, undef, undef, undef, undef, undef, undef], defers := [] } ∧ CoB w B bl (w1.heap.size + 2) pre z T A v L q)
  (fun k => k = bl) ?hst ?hsA ?hT ?hIp ?h0 ?hseq ?hassign ?hbody ?hdone ?hpan ?hown)
 case hst =>
  rintro pre T A B' ⟨v, L, h⟩ k
  have z1 := Z1.out
  exact ⟨v, L, h.stay k fun j q => q.imp (fun q => by omega) id⟩
 case hsA =>
  rintro pre x args T a' A B' ⟨q, z, v, L, e1, e2, e3, h⟩ k
  have z1 := Z1.out
  refine ⟨q, z, v, L, e1, e2, e3, h.i.stay k fun j q => q.elim (fun q => Or.inl (by omega)) (fun q => Or.inr (Or.inl q)), h.b.keptK k (Or.inr (Or.inl h.tq)), h.tq, h.za.keptK k (fun p e => ?_), h.far, Nat.le_trans h.sz k.size⟩
  exact Or.inr (Or.inr ⟨⟨z, e1, p, e, rfl⟩, by have := (h.far p e).2; omega⟩)
 case hT =>
  rintro pre T A ⟨v, L, h⟩ k q
  exact (h.lt k q).1
 case hIp =>
  rintro chain A B' ⟨h1, h2, h3⟩ k
  have z1 := Z1.out
  exact ⟨h1, h2, h3.trans (k.below w.heap.size h3.size fun j hj => by omega)⟩
 case h0 =>
  exact ⟨_, [], ⟨OwnZ.nil _ _ _, rfl, X0.out, E0.out, rfl, (fun k e => by cases e), (fun z hz => by simp at hz), (fun k q => by rw [q]; have := HBL.out; exact ⟨X0.out.lt, by omega, by omega⟩), by simp, List.Pairwise.nil⟩⟩
 case hseq =>
  intro W k z
  exact HS.out W _ ((Kept.of_below E0.out _).trans k) (fun k q => by have := HBL.out; have := Z1.out; rcases q with q | q <;> omega)
 case hassign =>
  rintro lp pre x args T A K ⟨v, L, h⟩ hsz hpx ⟨z, rfl, hz, hza⟩ hG hK
  have SZ := Lib.hid hsz
  have HK := Lib.hid hK
  have HI := Lib.hid h
  have HG := Lib.hid hG
  have HZ := Lib.hid hza
  clear hK h hG hza hsz
  have N2 := Lib.hid (Bx2.made A (.int .i64 z.N) (.slice z.a z.l.length z.c) 36)
  have B2 := Lib.hid (one_more (w1 := A) (.cells #[.int .i64 z.N, .slice z.a z.l.length z.c] 36))
  simp only [ZV.val]
  gi_wp2_with fail
  have lw := HI.out.be.size
  have sz := SZ.out
  have z1 := Z1.out
  refine HK.out _ _ (fun k => T k ∨ k = A.heap.size) ⟨A.heap.size, z, v, L, rfl, hz, rfl, (HI.out.on B2.out).more ?_, N2.out, Or.inr rfl, HZ.out.on B2.out, (fun p e => ?_), by have := B2.out.size; omega⟩ (Kept.of_below B2.out _) ?_
  · rintro k rfl; exact ⟨N2.out.lt, lw, by omega⟩
  · have := HG.out p.block ⟨z, rfl, p, e, rfl⟩
    refine ⟨fun q => q.elim this.2.1 (fun q => by omega), ?_⟩
    exact this.2.2.2
  · rintro k (q | q)
    · exact Or.inl q
    · right; omega
 case hbody =>
  rintro lp pre x args T a' A ⟨q, z, v, L, rfl, hz, rfl, hA⟩ hpx
  have HX := Lib.hid hpx.length_le
  have HA := Lib.hid hA
  obtain ⟨ao, cap, ev⟩ := hA.i.own.form
  obtain ⟨n, hn⟩ : ∃ n, n = L.length := ⟨_, rfl⟩
  have HN := Lib.hid (show n = pre.length by rw [hn, ← hA.i.pr, List.length_map])
  rw [← hn] at ev
  have hn2 : n ≤ 2000 := by have := hA.i.len; have := HN.out; omega
  have c0 : A.cell? ⟨bl, 0, none⟩ = some (.slice ao n cap) := by rw [← ev]; exact hA.i.bx.cell
  obtain ⟨b0, b1, _, _⟩ := hA.b.facts
  have HL := Lib.hid hn
  subst ev
  have HZ := Lib.hid hz
  clear hA hn hpx hz
  by_cases hq : n = 2000
  · have hq' : (n : Int) = 2000 := by omega
    gi_wp2_with fail
    refine ⟨⟨rfl, ?_, HA.out.i.be⟩, Kept.refl _ _⟩
    have h1 := HX.out
    have h2 := HN.out
    rw [List.length_append, List.length_singleton] at h1
    omega
  · have hq' : ¬ (n : Int) = 2000 := by omega
    have B2 := Lib.hid (one_more (w1 := A) (.cells #[.int .i64 z.N, .slice z.a z.l.length z.c] 36))
    have H2 := Lib.hid (HA.out.i.on B2.out)
    have Z2 := Lib.hid (HA.out.za.on B2.out)
    have z2 : w.heap.size ≤ (A.alloc (.cells #[.int .i64 z.N, .slice z.a z.l.length z.c] 36)).heap.size := H2.out.be.size
    have hL : L.length + 1 ≤ 1000000 := by have := HL.out; omega
    gi_wp2_with (refine inl_appZ rfl _ _ rfl w.heap.size B _ L z rfl H2.out.own _ _ rfl (by go_simp) (by go_simp) Z2.out (fun p e q => (HA.out.far p e).1 (HA.out.i.tv _ q).1) hL z2 ?_)
    intro v' A3 o3 g3 f3
    have FZ := Lib.hid (show ∀ p, z.a = some p → p.block ≠ bl ∧ p.block < (A.alloc (.cells #[.int .i64 z.N, .slice z.a z.l.length z.c] 36)).heap.size ∧ p.block ≠ w.heap.size + 1 from fun p e => ⟨fun q => (HA.out.far p e).1 (q ▸ HA.out.i.tl), (Z2.out.2 p e).2, by have := (HA.out.far p e).2; have := Z1.out; omega⟩)
    have H3 := Lib.hid (H2.out.app o3 g3 (by rw [World.size_alloc]; exact f3) FZ.out (by have := HA.out.sz; have := Z1.out; have := B2.out.size; omega) (by have := HN.out; omega) (fun p e => (HA.out.far p e).1))
    have K3 := Lib.hid ((Kept.of_below B2.out (fun k => ¬ T k)).trans (H2.out.app_kept g3 v'))
    have b3 := H2.out.bx.grown g3 (ne_of_opt fun j e => (H2.out.tv j e).2)
    have S3 := Lib.hid (show ∀ k, (k = bl ∨ v'.ownBlock = some k ∨ (w.heap.size ≤ k ∧ ∃ y ∈ L ++ [z], ∃ p, y.a = some p ∧ p.block = k)) → T k ∨ A.heap.size ≤ k ∨ (giftZ #[z.val] k ∧ w1.heap.size + 2 ≤ k) from by
     rintro k (q | q | ⟨q, y, hy, p, e, rfl⟩)
     · rw [q]; exact Or.inl HA.out.i.tl
     · rcases f3 with f | f
       · rw [f] at q; exact Or.inl (H2.out.tv k q).1
       · rw [f] at q; cases q; have := B2.out.size; right; left; omega
     · rcases List.mem_append.1 hy with r | r
       · rcases (HA.out.i.tz y r p e).1 with s | s
         · omega
         · exact Or.inl s
       · rw [List.mem_singleton] at r
         subst r
         have := (HA.out.far p e).2
         right; right
         exact ⟨⟨y, rfl, p, e, rfl⟩, by omega⟩)
    obtain ⟨a3, k3, e3⟩ := o3.form
    obtain ⟨m3, hm3⟩ : ∃ m3, m3 = (L ++ [z]).length := ⟨_, rfl⟩
    rw [← hm3] at e3
    subst e3
    have y1 := b3.cell
    have y2 := b3.free
    clear o3 g3 f3 b3 hm3
    gi_wp2_with fail
    have h3 := H3.out
    rw [HZ.out] at h3
    exact ⟨_, ⟨_, _, h3⟩, K3.out, S3.out⟩
 case hdone =>
  rintro T A he ⟨v, L, h⟩ hD
  have e0 : er = 0 := by
   by_cases e : er = 0
   · exact e
   · rw [if_neg e] at he; cases he
  show WpAt _ _ _ _ _ _ _ _
  have CE := Lib.hid (show colE xs er = 0 by unfold colE; rw [if_neg (by have := h.len; omega), e0])
  have c9 : A.cell? ⟨bl, 0, none⟩ = some v := h.bx.cell
  have HI := Lib.hid h
  have HD := Lib.hid hD
  have ld : w1.heap.size < A.heap.size := by
   by_cases e : w1.heap.size < A.heap.size
   · exact e
   · rw [Array.getElem?_eq_none (by omega)] at hD; cases hD
  clear h hD
  refine wpAt_of_wpIn (wpIn_wide.2 ?_)
  go_wp2_with fail
  refine ⟨by simp, Or.inl ⟨_, _, rfl, run_takeDeferred HD.out, ?_⟩⟩
  have hb := HI.out.be
  have KD := Kept.putObj (S := fun k => k ≠ w1.heap.size) A (.deferred none) (fun q => q rfl)
  refine ⟨_, results_tmp rfl _ _ _, hb.trans (KD.below w.heap.size hb.size (fun k hk => by have := Z1.out; show k ≠ w1.heap.size; omega)), Or.inl ⟨CE.out, v, L, rfl, HI.out.pr, ?_, HI.out.sp⟩⟩
  have hx := HI.out
  exact hx.own.keptK KD (fun k e => by have := (hx.lt k (hx.tv k e).1).2.2; have := Z1.out; show k ≠ w1.heap.size; omega) (fun z hz p e => by
   have := Z1.out
   show p.block ≠ w1.heap.size
   rcases (hx.tz z hz p e).1 with q | q
   · omega
   · have := (hx.lt _ q).2.2; omega)
 case hpan =>
  rintro chain A ⟨rfl, he, hb⟩ hD
  have CE := Lib.hid (show colE xs er = 3 by unfold colE; rw [if_pos he])
  refine ⟨by simp, Or.inl ⟨_, _, rfl, run_takeDeferred hD, ?_, Or.inr ⟨by rw [CE.out]; decide, by rw [CE.out]⟩⟩⟩
  exact hb.trans ((Kept.putObj (S := fun k => k ≠ w1.heap.size) A _ (fun q => q rfl)).below w.heap.size hb.size (fun k hk => by have := Z1.out; show k ≠ w1.heap.size; omega))
 case hown =>
  rintro chain T A he ⟨v, L, h⟩ hD
  have e0 : er ≠ 0 ∧ chain = pan er := by
   by_cases e : er = 0
   · rw [if_pos e] at he; cases he
   · rw [if_neg e] at he; injection he with he; exact ⟨e, he.symm⟩
  have CE := Lib.hid (show colE xs er = er by unfold colE; rw [if_neg (by have := h.len; omega)])
  have hb := h.be
  obtain ⟨e1, rfl⟩ := e0
  refine ⟨by simp, Or.inl ⟨_, _, rfl, run_takeDeferred hD, ?_, Or.inr ⟨by rw [CE.out]; exact e1, by rw [CE.out]⟩⟩⟩
  exact hb.trans ((Kept.putObj (S := fun k => k ≠ w1.heap.size) A _ (fun q => q rfl)).below w.heap.size hb.size (fun k hk => by have := Z1.out; show k ≠ w1.heap.size; omega))
set_option maxRecDepth 100000 in
theorem fmeetS_any (L M : List ZV) (go ho : Option Addr) (gc hc : Nat) (w : World) (hL : RdZ 0 w go L) (hM : RdZ 0 w ho M) (hl : L.length ≤ 1000000) (hm : M.length ≤ 1000000) :
  Calls Tryz.prog 42 #[.slice go L.length gc, .slice ho M.length hc] w (ColResS w.heap.size w (mtS (L.map ZV.p) (M.map ZV.p)).1 (colE (mtS (L.map ZV.p) (M.map ZV.p)).1 (mtS (L.map ZV.p) (M.map ZV.p)).2)) := by
 obtain ⟨n, hn⟩ : ∃ n, n = L.length := ⟨_, rfl⟩
 obtain ⟨k, hk⟩ : ∃ k, k = M.length := ⟨_, rfl⟩
 obtain ⟨w1, hw1⟩ : ∃ w1, w1 = (w.alloc (.cells #[.slice go n gc] 22)).alloc (.cells #[.slice ho k hc] 22) := ⟨_, rfl⟩
 have B1 := Lib.hid (show Below w.heap.size w w1 by rw [hw1]; exact past_two (Below.refl _ _))
 have X0 := Lib.hid (show Bx1 w1 w.heap.size (.slice go n gc) 22 by rw [hw1]; exact (Bx1.made w _ _).kept (one_more _))
 have X1 := Lib.hid (show Bx1 w1 (w.heap.size + 1) (.slice ho k hc) 22 by rw [hw1]; have := Bx1.made (w.alloc (.cells #[.slice go n gc] 22)) (.slice ho k hc) 22; simpa using this)
 have SQ := Lib.hid (meet_seq L M go ho gc hc w.heap.size (w.heap.size + 1) w1.heap.size w1 (Nat.le_refl _) (by rw [← hn]; exact X0.out.cell) (by rw [← hk]; exact X1.out.cell) (hL.on B1.out) (hM.on B1.out) hl hm)
 have CO := Lib.hid (fcollectS_any 89 _ w1.heap.size _ _ w1 meet_enters SQ.out)
 rw [← hn, ← hk]
 clear hn hk hL hM hl hm
 go_enter Tryz.func42, Tryz.ntmps42
 go_wp2_with fail
 rw [← hw1]
 refine CO.out.mono ?_
 intro e w2 h
 have h := (h.before B1.out (Nat.le_refl _)).low B1.out.size
 rcases h.2 with ⟨h1, v, Z, rfl, h3, h4, h5⟩ | ⟨h1, rfl⟩
 · have H := Lib.hid h
   clear h h1 h3 h4 h5
   go_wp2_with fail
   go_ret
   exact H.out
 · exact And.intro rfl h
theorem yield_own {W A : World} {B l m : Nat} {T0 O : Nat → Prop} {J : List Zp → (Nat → Prop) → World → Prop} {Jp : List PanicEntry → World → Prop} {n₀ : Nat} {xs pre : List Zp} {x : Zp} (rnd : Rnd B n₀ l W xs J Jp) (hlt : ∀ pre T A, J pre T A → ∀ k, T k → k < A.heap.size)
  (h : ItI W T0 O J pre m A) {z : ZV} (hx : z.p = x) (hpre : (pre ++ [x]) <+: xs) (hz : ZAt B A z) (hg : ∀ p, z.a = some p → O p.block ∧ W.heap.size ≤ p.block) :
  YieldAt Fence.wide 8 Tryz.prog l #[z.val] A fun e B => (e = .returned (.bool true) ∧ ItI W T0 (fun k => O k ∧ ∀ p, z.a = some p → p.block ≠ k) J (pre ++ [x]) B.heap.size B ∧ Kept (fun k => O k ∧ ∀ p, z.a = some p → p.block ≠ k) A B) ∨ (∃ chain, e = .panicked chain ∧ Jp chain B) := by
 obtain ⟨T, j1, j2, j3, j4, j5⟩ := h
 refine (rnd pre x T A #[z.val] j1 hpre ⟨z, rfl, hx, hz⟩ (fun k q => ?_)).mono ?_
 · obtain ⟨p, e, rfl⟩ := giftZ_of q
   exact ⟨(hz.2 p e).2, fun q => (j2 _ q).2.1 (hg p e).1, Or.inr (hg p e).2⟩
 · rintro e B' (⟨rfl, T', t1, t2, t3⟩ | ⟨chain, rfl, hp, _⟩)
   · have sz := j4.size
     refine Or.inl ⟨rfl, ⟨T', t1, fun k q => ?_, fun k q => Nat.lt_of_lt_of_le (j3 k q.1) t2.size, ?_, Nat.le_refl _⟩, t2.mono fun k _ q => fun r => (j2 k r).2.1 q.1⟩
     · have lt := hlt _ _ _ t1 k q
       rcases t3 k q with r | r | r
       · exact ⟨(j2 k r).1, fun s => (j2 k r).2.1 s.1, lt⟩
       · refine ⟨Or.inr (by omega), fun s => ?_, lt⟩
         have := j3 k s.1; omega
       · obtain ⟨p, e, rfl⟩ := giftZ_of r.1
         exact ⟨Or.inr r.2, fun s => s.2 p e rfl, lt⟩
     · exact j4.trans (t2.mono fun k hk q => fun r => by
        rcases (j2 k r).1 with s | s
        · exact q.1 s
        · omega)
   · exact Or.inr ⟨chain, rfl, hp⟩
end Go.Proofs.YthjapmdfcbngmaaGreat
