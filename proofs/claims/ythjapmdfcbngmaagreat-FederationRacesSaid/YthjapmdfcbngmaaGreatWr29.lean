/- A part. -/
import Derived.Test.YthjapmdfcbngmaaGreatWr11
import Derived.Test.YthjapmdfcbngmaaGreatWr28
namespace Go.Proofs.YthjapmdfcbngmaaGreat
set_option maxHeartbeats 4000000
open Go.RowKit
theorem RdZ.grown {B : Nat} {r : Option Nat} {A A' : World} {go : Option Addr} {L : List ZV} (h : RdZ B A go L) (hg : A.grownBy A' r) (h0 : ∀ p, go = some p → 0 < L.length → r ≠ some p.block) (h1 : ∀ z ∈ L, ∀ p, z.a = some p → r ≠ some p.block) : RdZ B A' go L :=
 ⟨fun t ht => by
  obtain ⟨p, e, c, d⟩ := h.hd t ht
  have q := h0 p e (by omega)
  have hb := h.lt (by omega) p e
  refine ⟨p, e, ?_, ?_⟩
  · exact (World.cell?_of_block (hg.block _ (by rw [add_block]; exact hb) (by rw [add_block]; exact fun e => q e.symm))).trans c
  · have e2 : A'.cell? ⟨(p.add (t * 2)).block, (p.add (t * 2)).off + 1, none⟩ = A.cell? ⟨(p.add (t * 2)).block, (p.add (t * 2)).off + 1, none⟩ := World.cell?_of_block (hg.block (p.add (t * 2)).block (by rw [add_block]; exact hb) (by rw [add_block]; exact fun e => q e.symm))
    exact e2.trans d, fun z hz => (h.el z hz).grown hg (h1 z hz)⟩
theorem OwnZ.capNil {R B : Nat} {A : World} {ao : Option Addr} {cap n : Nat} {L : List ZV} (h : OwnZ R B A (.slice ao n cap) L) : ao = none → cap = 0 := by
 rintro rfl
 rcases h.row.2 with ⟨e, _⟩ | ⟨g, c, cur, e, _⟩
 · injection e
 · simp at e
theorem OwnZ.read3 {R B : Nat} {A : World} {v : Value} {L : List ZV} (h : OwnZ R B A v L) : ∃ ao cap, v = .slice ao L.length cap ∧ RdZ B A ao L ∧ (∀ p, ao = some p → R ≤ p.block ∧ p.block < A.heap.size) ∧ (ao = none → cap = 0) := by
 obtain ⟨ao, cap, rfl, h1, h2⟩ := h.read
 exact ⟨ao, cap, rfl, h1, h2, h.capNil⟩
def NewL (xs : List Zp) (W : World) (v : Value) (A : World) : Prop := ∃ ao cap L, v = .slice ao L.length cap ∧ L.map ZV.p = xs ∧ RdZ W.heap.size A ao L ∧ (∀ p, ao = some p → 0 < L.length → W.heap.size ≤ p.block) ∧ (ao = none → cap = 0)
theorem newL_put {xs : List Zp} : ∀ W v A b y, NewL xs W v A → b < W.heap.size → NewL xs W v (A.setCell ⟨b, 0, none⟩ y) := by
 rintro W v A b y ⟨ao, cap, L, e, h1, h2, h3⟩ hb
 exact ⟨ao, cap, L, e, h1, h2.grown (grown_cell A b y) (fun p e q r => by injection r with r; have := h3.1 p e q; omega) (fun z hz p e r => by injection r with r; have := ((h2.el z hz).2 p e).1; omega), h3⟩
def FLRes (r : List Zp × Int) (w : World) (e : Ending) (w' : World) : Prop :=
 Below w.heap.size w w' ∧ ∃ ao cap L, e = .returned (.tuple #[.slice ao L.length cap, .int .i64 r.2]) ∧ RdZ w.heap.size w' ao L ∧ L.map ZV.p = (if r.2 = 0 then r.1 else []) ∧ L.length ≤ 1000000 ∧ (∀ p, ao = some p → 0 < L.length → w.heap.size ≤ p.block) ∧ (ao = none → cap = 0)
theorem AnsRes.fl {w0 w w' : World} {G : List (List Zp)} {er : Int} {xs : List Zp} {e : Ending} (h : AnsRes w G er (.slice none 0 0) (NewL xs) e w') (hb : Below w0.heap.size w0 w) (hx : ansE G er = 0 → xs.length ≤ 1000000) : FLRes (xs, ansE G er) w0 e w' := by
 refine ⟨below_on hb h.1, ?_⟩
 rcases h.2 with ⟨h1, W, v, h2, rfl, ao, cap, L, rfl, h3, h4, h5⟩ | ⟨h1, rfl⟩
 · have h6 := hb.size
   have h7 := h2.size
   refine ⟨ao, cap, L, by simp only [h1], h4.low (by omega), by simp only [h1, if_true]; exact h3, by have hx := hx h1; rw [← h3] at hx; simpa using hx, fun p e q => by have := h5.1 p e q; omega, h5.2⟩
 · exact ⟨none, 0, [], rfl, ⟨fun t ht => by simp at ht, fun z hz => by simp at hz⟩, by simp only [h1, if_false]; rfl, by simp, fun p e => (by cases e), fun _ => rfl⟩
theorem fclosure (f : FuncId) {fn : Func} {c : Code} (hf : Tryz.prog.funcs[f]? = some fn) (hname : (fn.name == "runtime.NumGoroutine") = false) (hb : fn.body = some c) : ∀ args w, (callFunc f args).run Tryz.prog w = .ok (.enter f args) w := yield_enters f hf hname hb
theorem chk_len {G : List (List ZV)} (h : chkG (G.map (List.map ZV.p)) = 0) : ∀ L ∈ G, L.length ≤ 2000 := fun L hL => by
 unfold chkG at h
 split at h
 · cases h
 · rename_i q
   rw [List.any_eq_true] at q
   by_cases e : L.length ≤ 2000
   · exact e
   · exact absurd ⟨L.map ZV.p, List.mem_map.2 ⟨L, hL, rfl⟩, by simp; omega⟩ q
theorem chk_each {G : List (List ZV)} (h : chkG (G.map (List.map ZV.p)) = 0) : ∀ L ∈ G, ∀ z ∈ L, chkE z.N z.l = 0 := fun L hL z hz => by
 unfold chkG at h
 split at h
 · cases h
 · unfold ckL at h
   split at h
   · rename_i q
     rw [List.all_eq_true] at q
     have := q z.p (by rw [map_flat]; exact List.mem_map.2 ⟨z, List.mem_flatten.2 ⟨L, hL, hz⟩, rfl⟩)
     unfold ckZ at this
     simp only [Bool.and_eq_true, decide_eq_true_eq] at this
     exact this.1
   · cases h
theorem chk_zones {G : List (List ZV)} (h : chkG (G.map (List.map ZV.p)) = 0) : ∀ L ∈ G, ∀ z ∈ L, 0 < z.l.length ∧ z.l.length ≤ 1000 := fun L hL z hz => by
 obtain ⟨n, _, hn, hl, hne⟩ := chk_ok (chk_each h L hL z hz)
 have := dsq_le hn
 exact ⟨List.length_pos_iff.2 hne, by omega⟩
theorem mnP_len {a b : List Zp} (ha : a.length ≤ 1000000) : (mnP a b).1.length ≤ 1000000 := by
 induction b generalizing a with
 | nil => exact ha
 | cons z r ih =>
  unfold mnP
  split
  · rename_i h
    exact ih (by have := colE_len h; omega)
  · simp
theorem two_lists {L M : List ZV} {go ho : Option Addr} {gc hc : Nat} {w w3 : World} (hL : RdZ 0 w go L) (hM : RdZ 0 w ho M) (h1 : go = none → gc = 0) (h2 : ho = none → hc = 0)
  (hw : w3 = ((w.alloc (.cells #[.slice go L.length gc] 22)).alloc (.cells #[.slice ho M.length hc] 22)).alloc (.cells #[.slice go L.length gc, .slice ho M.length hc] 22)) :
  Below w.heap.size w w3 ∧ Bx1 w3 w.heap.size (.slice go L.length gc) 22 ∧ Bx1 w3 (w.heap.size + 1) (.slice ho M.length hc) 22 ∧ RdGZ w3 (some ⟨w.heap.size + 2, 0, none⟩) [L, M] := by
 have B : Below w.heap.size w w3 := by rw [hw]; exact past_three (Below.refl _ _)
 have X2 : Bx2 w3 (w.heap.size + 2) (.slice go L.length gc) (.slice ho M.length hc) 22 := by
  rw [hw]
  have := Bx2.made ((w.alloc (.cells #[.slice go L.length gc] 22)).alloc (.cells #[.slice ho M.length hc] 22)) (.slice go L.length gc) (.slice ho M.length hc) 22
  rw [World.size_alloc, World.size_alloc] at this
  exact this
 obtain ⟨x0, x1, _, _⟩ := X2.facts
 refine ⟨B, ?_, ?_, ⟨fun t ht => ?_⟩⟩
 · rw [hw]; exact ((Bx1.made w _ _).kept (one_more _)).kept (one_more _)
 · rw [hw]
   have := Bx1.made (w.alloc (.cells #[.slice go L.length gc] 22)) (.slice ho M.length hc) 22
   rw [World.size_alloc] at this
   exact this.kept (one_more _)
 · match t, ht with
   | 0, _ => exact ⟨_, go, gc, rfl, by rw [addr_add]; exact x0, hL.on B, h1⟩
   | 1, _ => exact ⟨_, ho, hc, rfl, by rw [addr_add]; exact x1, hM.on B, h2⟩
set_option maxRecDepth 100000 in
theorem fmeet1_any (L M : List ZV) (go ho : Option Addr) (gc hc pa pb : Nat) (W : World) (c0 : W.cell? ⟨pa, 0, none⟩ = some (.slice go L.length gc)) (c1 : W.cell? ⟨pb, 0, none⟩ = some (.slice ho M.length hc)) (hL : RdZ 0 W go L) (hM : RdZ 0 W ho M) (hl : L.length ≤ 3000) (hm : M.length ≤ 3000)
  (_ : chkG ([L, M].map (List.map ZV.p)) = 0) :
  Calls Tryz.prog 41 #[.pointer (some ⟨pa, 0, none⟩), .pointer (some ⟨pb, 0, none⟩)] W (fun e W' => (colE (mtS (L.map ZV.p) (M.map ZV.p)).1 (mtS (L.map ZV.p) (M.map ZV.p)).2 = 0 ∧ ∃ v, e = .returned v ∧ NewL (mtS (L.map ZV.p) (M.map ZV.p)).1 W v W' ∧ Below W.heap.size W W') ∨ (colE (mtS (L.map ZV.p) (M.map ZV.p)).1 (mtS (L.map ZV.p) (M.map ZV.p)).2 ≠ 0 ∧ e = .panicked (pan (colE (mtS (L.map ZV.p) (M.map ZV.p)).1 (mtS (L.map ZV.p) (M.map ZV.p)).2)) ∧ Below W.heap.size W W')) := by
 have ME := Lib.hid (fmeet_any L M go ho gc hc W.heap.size W (Nat.le_refl _) hL hM (by omega) (by omega))
 generalize L.length = n at *
 generalize M.length = k at *
 clear hL hM hl hm
 go_enter Tryz.func41, Tryz.ntmps41
 go_wp2_with fail
 refine ME.out.mono ?_
 rintro e w2 ⟨hb, (⟨h1, v, Z, rfl, h3, h4⟩ | ⟨h1, rfl⟩)⟩
 · have HB := Lib.hid hb
   have H1 := Lib.hid h1
   have H3 := Lib.hid h3
   have H4 := Lib.hid h4
   clear hb h1 h3 h4 ME
   go_wp2_with fail
   go_ret
   obtain ⟨ao, cap, rfl, r, q, u⟩ := H4.out.read3
   exact Or.inl ⟨H1.out, _, rfl, ⟨ao, cap, Z, rfl, H3.out, r, fun p e _ => (q p e).1, u⟩, HB.out⟩
 · exact And.intro rfl (Or.inr ⟨h1, rfl, hb⟩)
set_option maxRecDepth 100000 in
theorem fincludes1_any (L M : List ZV) (go ho : Option Addr) (gc hc pa pb : Nat) (W : World) (c0 : W.cell? ⟨pa, 0, none⟩ = some (.slice go L.length gc)) (c1 : W.cell? ⟨pb, 0, none⟩ = some (.slice ho M.length hc)) (hL : RdZ 0 W go L) (hM : RdZ 0 W ho M) (hl : L.length ≤ 3000) (hm : M.length ≤ 3000)  :
  Calls Tryz.prog 48 #[.pointer (some ⟨pa, 0, none⟩), .pointer (some ⟨pb, 0, none⟩)] W (fun e W' => ((mnP (L.map ZV.p) (M.map ZV.p)).2 = 0 ∧ ∃ v, e = .returned v ∧ v = .bool (decide ((mnP (L.map ZV.p) (M.map ZV.p)).1.length = 0)) ∧ Below W.heap.size W W') ∨ ((mnP (L.map ZV.p) (M.map ZV.p)).2 ≠ 0 ∧ e = .panicked (pan (mnP (L.map ZV.p) (M.map ZV.p)).2) ∧ Below W.heap.size W W')) := by
 have ME := Lib.hid (fminus_any L M go ho gc hc 0 W (Nat.zero_le _) hL hM (by omega) (by omega))
 generalize L.length = n at *
 generalize M.length = k at *
 clear hL hM hl hm
 go_enter Tryz.func48, Tryz.ntmps48
 go_wp2_with fail
 refine ME.out.mono ?_
 rintro e w2 ⟨hb, (⟨h1, ao, cap, Z, rfl, h3, h4, _, zl⟩ | ⟨h1, rfl⟩)⟩
 · have HB := Lib.hid hb
   have H1 := Lib.hid h1
   have H3 := Lib.hid (show (mnP (L.map ZV.p) (M.map ZV.p)).1.length = Z.length by rw [← h3]; simp)
   obtain ⟨zn, hzn⟩ : ∃ zn, zn = Z.length := ⟨_, rfl⟩
   rw [← hzn] at zl H3 ⊢
   clear hb h1 h3 h4 ME hzn
   go_wp2_with fail
   go_ret
   refine Or.inl ⟨H1.out, _, rfl, ?_, HB.out⟩
   rw [H3.out]
   by_cases e : zn = 0
   · subst e; rfl
   · have : ((zn : Int) == 0) = false := by simp [e]
     simp [e, this]
 · exact And.intro rfl (Or.inr ⟨h1, rfl, hb⟩)
set_option maxRecDepth 20000 in
theorem fminus_nil (ao ho : Option Addr) (n c hc : Nat) (w : World) : Calls Tryz.prog 49 #[.slice ao n c, .slice ho 0 hc] w (Made (.slice ao n c) w) := by
 go_enter Tryz.func49, Tryz.ntmps49
 go_wp2_with fail
 go_loopw [0, 9] (fun v s wr => v = .slice ao n c ∧ s = .int .i64 0 ∧ wr = w) (fun _ _ _ => 0)
 case atStart => exact ⟨rfl, rfl, rfl⟩
 case round =>
  obtain ⟨rfl, rfl, hw⟩ := hrel
  rw [hw]
  clear hw
  go_wp2_with fail
  go_ret
  exact ⟨rfl, Below.refl _ _⟩
set_option maxRecDepth 100000 in
theorem fminus1_any (L M : List ZV) (go ho : Option Addr) (gc hc pa pb : Nat) (W : World) (c0 : W.cell? ⟨pa, 0, none⟩ = some (.slice go L.length gc)) (c1 : W.cell? ⟨pb, 0, none⟩ = some (.slice ho M.length hc)) (hL : RdZ 0 W go L) (hM : RdZ 0 W ho M) (hl : L.length ≤ 3000) (hm : M.length ≤ 3000)
  (hc0 : chkG ([L, M].map (List.map ZV.p)) = 0) :
  Calls Tryz.prog 50 #[.pointer (some ⟨pa, 0, none⟩), .pointer (some ⟨pb, 0, none⟩)] W (fun e W' => ((mnP (L.map ZV.p) (M.map ZV.p)).2 = 0 ∧ ∃ v, e = .returned v ∧ NewL (mnP (L.map ZV.p) (M.map ZV.p)).1 W v W' ∧ Below W.heap.size W W') ∨ ((mnP (L.map ZV.p) (M.map ZV.p)).2 ≠ 0 ∧ e = .panicked (pan (mnP (L.map ZV.p) (M.map ZV.p)).2) ∧ Below W.heap.size W W')) := by
 have hz := chk_zones hc0 L (by simp)
 have hl2 := chk_len hc0 L (by simp)
 have CP := Lib.hid (show ∀ V, Below W.heap.size W V → Calls Tryz.prog 51 #[.slice go L.length gc] V (ColRes V.heap.size V (L.map ZV.p) 0) from fun V h => copies_any L go gc V (hL.on h) hl2 hz)
 have HM := Lib.hid hM
 have MN := Lib.hid (show ∀ (V : World) ao cap Z, Below W.heap.size W V → Z.map ZV.p = L.map ZV.p → RdZ W.heap.size V ao Z → (∀ p, ao = some p → W.heap.size ≤ p.block) → (ao = none → cap = 0) → Calls Tryz.prog 49 #[.slice ao Z.length cap, .slice ho M.length hc] V (fun e W' => ((mnP (L.map ZV.p) (M.map ZV.p)).2 = 0 ∧ ∃ v, e = .returned v ∧ NewL (mnP (L.map ZV.p) (M.map ZV.p)).1 W v W' ∧ Below V.heap.size V W') ∨ ((mnP (L.map ZV.p) (M.map ZV.p)).2 ≠ 0 ∧ e = .panicked (pan (mnP (L.map ZV.p) (M.map ZV.p)).2) ∧ Below V.heap.size V W')) from by
  intro V ao cap Z hb hp hr hq hu
  have zl : Z.length ≤ 1000000 := by
   have : (Z.map ZV.p).length = (L.map ZV.p).length := by rw [hp]
   simp at this; omega
  by_cases e : M = []
  · subst e
    refine (fminus_nil ao ho Z.length cap hc V).mono ?_
    rintro e w' ⟨rfl, hb2⟩
    exact Or.inl ⟨rfl, _, rfl, ⟨ao, cap, Z, rfl, hp, hr.on hb2, fun p e _ => hq p e, hu⟩, hb2⟩
  · refine (fminus_any Z M ao ho cap hc W.heap.size V hb.size hr (hM.on hb) zl (by omega)).mono ?_
    rintro e w' ⟨hb2, (⟨h1, a2, c2, Z2, rfl, h3, h4, h5, _⟩ | ⟨h1, rfl⟩)⟩
    · rw [hp] at h1 h3
      have ow := h5 (by simpa using e)
      refine Or.inl ⟨h1, _, rfl, ⟨a2, c2, Z2, rfl, h3, h4, fun p e2 _ => ?_, ow.capNil⟩, hb2⟩
      have := (ow.lt p.block (by rw [e2]; rfl)).1
      have := hb.size
      omega
    · rw [hp] at h1 ⊢
      exact Or.inr ⟨h1, rfl, hb2⟩)
 generalize L.length = n at *
 generalize M.length = k at *
 clear hL hM hl hm hz hl2 hc0
 go_enter Tryz.func50, Tryz.ntmps50
 go_upto_region 1 with (fail)
 have KS := Lib.hid (show ∀ V, Below W.heap.size W V → (V.cell? ⟨pa, 0, none⟩ = some (.slice go n gc) ∧ V.cell? ⟨pb, 0, none⟩ = some (.slice ho k hc)) from fun V h => ⟨kept h c0, kept h c1⟩)
 obtain ⟨wc, hwc⟩ : ∃ wc, wc = W.drew := ⟨_, rfl⟩
 have Bc := Lib.hid (show Below W.heap.size W wc by rw [hwc]; exact (Below.refl _ _).drew)
 refine wp_region_held_drew (S := (fun V => (V.cell? ⟨pa, 0, none⟩ = some (.slice go n gc) ∧ V.cell? ⟨pb, 0, none⟩ = some (.slice ho k hc)))) (by kernel_rfl) (by rw [← hwc]; exact KS.out _ Bc.out) (fun h0 => ?_)
 rw [← hwc] at h0 ⊢
 clear hwc
 refine tkI (i := 0) rfl h0 ?_
 simp only [Act.put, sA, sB, sD, sE, sF]
 refine tkI (i := 2) rfl h0 ?_
 simp only [Act.put, sZ]
 refine wpAnyH_ready (rs := [1]) (by kernel_rfl) (by simp) (AllReadyH.cons rfl (fun K hK => ?_) AllReadyH.nil)
 rw [if_pos (by rfl)]
 go_simp
 refine (CP.out wc Bc.out).mono ?_
 rintro e wd ⟨hb, (⟨_, v, Z, rfl, h3, h4⟩ | ⟨h1, _⟩)⟩
 rotate_left
 · exact absurd rfl h1
 obtain ⟨ao, cap, rfl, hr, hq, hu⟩ := h4.read3
 have hs := Bc.out.size
 have HR := Lib.hid (hr.low hs)
 have HQ := Lib.hid (fun p (e : ao = some p) => Nat.le_trans hs (hq p e).1)
 have HU := Lib.hid hu
 have HP := Lib.hid h3
 have Bc := Lib.hid (below_on Bc.out hb)
 clear hb h3 h4 hr hq hs hu
 obtain ⟨zn, hzn⟩ : ∃ zn, zn = Z.length := ⟨_, rfl⟩
 rw [← hzn]
 have HZN := Lib.hid hzn
 clear hzn
 obtain ⟨wc, hwc⟩ : ∃ wc, wc = wd := ⟨_, rfl⟩
 rw [← hwc] at Bc HR ⊢
 clear hwc
 go_simp
 refine hK.out _ _ (KS.out _ Bc.out) (fun h0_1 => ?_)
 clear hK K h0
 refine wpAnyH_ready (rs := [3]) (by kernel_rfl) (by simp) (AllReadyH.cons rfl (fun K hK => ?_) AllReadyH.nil)
 rw [if_pos (by rfl)]
 go_simp
 rw [HZN.out]
 refine (MN.out wc ao cap Z Bc.out HP.out HR.out HQ.out HU.out).mono ?_
 rintro e wd (⟨h1, v, rfl, h3, hb⟩ | ⟨h1, rfl, hb⟩)
 rotate_left
 · exact And.intro rfl (Or.inr ⟨h1, rfl, below_on Bc.out hb⟩)
 have H1 := Lib.hid h1
 have H3 := Lib.hid h3
 have Bc := Lib.hid (below_on Bc.out hb)
 clear hb h1 h3
 obtain ⟨wc, hwc⟩ : ∃ wc, wc = wd := ⟨_, rfl⟩
 rw [← hwc] at Bc H3 ⊢
 clear hwc
 go_simp
 refine hK.out _ _ (KS.out _ Bc.out) (fun h0_2 => ?_)
 clear hK K h0_1
 refine tkI (i := 4) rfl h0_2 ?_
 simp only [Act.put, sA, sB, sC, sD]
 try simp only [sF]
 try simp only [sE]
 refine wpAnyH_done (by kernel_rfl) ?_ _
 go_wp2_with fail
 go_ret
 exact Or.inl ⟨H1.out, _, rfl, H3.out, Bc.out⟩
def minR (a b : List Zp) : List Zp × Int := ((mnP a b).1, ansE [a, b] (mnP a b).2)
def incE (a b : List Zp) : Int := ansE [a, b] (mnP b a).2
def incR (a b : List Zp) : Bool := decide (incE a b = 0) && decide ((mnP b a).1.length = 0)
theorem ansE_zero {G : List (List Zp)} {er : Int} (h : ansE G er = 0) : chkG G = 0 ∧ er = 0 := by
 unfold ansE at h
 split at h
 · rename_i q; exact ⟨q, h⟩
 · rename_i q; exact absurd h q
set_option maxRecDepth 100000 in
theorem fminus_out (L M : List ZV) (go ho : Option Addr) (gc hc : Nat) (w : World) (hL : RdZ 0 w go L) (hM : RdZ 0 w ho M) (h1 : go = none → gc = 0) (h2 : ho = none → hc = 0) (hl : L.length ≤ 3000) (hm : M.length ≤ 3000) :
  Calls Tryz.prog 18 #[.slice go L.length gc, .slice ho M.length hc] w (FLRes (minR (L.map ZV.p) (M.map ZV.p)) w) := by
 obtain ⟨w3, hw3⟩ : ∃ w3, w3 = ((w.alloc (.cells #[.slice go L.length gc] 22)).alloc (.cells #[.slice ho M.length hc] 22)).alloc (.cells #[.slice go L.length gc, .slice ho M.length hc] 22) := ⟨_, rfl⟩
 obtain ⟨t1, t2, t3, t4⟩ := two_lists hL hM h1 h2 hw3
 have B3 := Lib.hid t1
 have LX := Lib.hid (show ansE [L.map ZV.p, M.map ZV.p] ((mnP (L.map ZV.p) (M.map ZV.p)).2) = 0 → ((mnP (L.map ZV.p) (M.map ZV.p)).1).length ≤ 1000000 from fun _ => mnP_len (by simp; omega))
 have AN := Lib.hid (answerL_any 50 #[.pointer (some ⟨w.heap.size, 0, none⟩), .pointer (some ⟨w.heap.size + 1, 0, none⟩)] [L, M] (some ⟨w.heap.size + 2, 0, none⟩) 2 ((mnP (L.map ZV.p) (M.map ZV.p)).2) w3 t4 (by simp) (by intro X hX; simp at hX; rcases hX with rfl | rfl <;> assumption) (fclosure _ Tryz.func50 (by kernel_rfl) rfl) (NewL (mnP (L.map ZV.p) (M.map ZV.p)).1) (newL_put) (fun hc0 W hW => fminus1_any L M go ho gc hc w.heap.size (w.heap.size + 1) W (t2.kept hW).cell (t3.kept hW).cell ((hL.on t1).on hW) ((hM.on t1).on hW) hl hm hc0))
 simp only [List.map_cons, List.map_nil, List.length_cons, List.length_nil, Nat.zero_add, Nat.reduceAdd] at AN
 generalize hLl : L.length = n at *
 generalize hMl : M.length = k at *
 clear hL hM h1 h2 t1 t2 t3 t4 hl hm hLl hMl
 go_enter Tryz.func18, Tryz.ntmps18
 go_wp2_with fail
 rw [← hw3]
 refine AN.out.mono ?_
 intro e w4 h
 have h := h.fl B3.out LX.out
 obtain ⟨hb, ao, cap, Z, rfl, g1, g2, g3, g4⟩ := h
 have H := Lib.hid (show FLRes (minR (L.map ZV.p) (M.map ZV.p)) w (.returned (.tuple #[.slice ao Z.length cap, .int .i64 (minR (L.map ZV.p) (M.map ZV.p)).2])) w4 from ⟨hb, ao, cap, Z, rfl, g1, g2, g3, g4⟩)
 generalize Z.length = zn at *
 clear hb g1 g2 g3 g4 AN
 go_wp2_with fail
 go_ret2
 exact H.out
set_option maxRecDepth 100000 in
theorem fincludes_out (L M : List ZV) (go ho : Option Addr) (gc hc : Nat) (w : World) (hL : RdZ 0 w go L) (hM : RdZ 0 w ho M) (h1 : go = none → gc = 0) (h2 : ho = none → hc = 0) (hl : L.length ≤ 3000) (hm : M.length ≤ 3000) :
  Calls Tryz.prog 16 #[.slice go L.length gc, .slice ho M.length hc] w (fun e w' => Below w.heap.size w w' ∧ e = .returned (.tuple #[.bool (incR (L.map ZV.p) (M.map ZV.p)), .int .i64 (incE (L.map ZV.p) (M.map ZV.p))])) := by
 obtain ⟨w3, hw3⟩ : ∃ w3, w3 = ((w.alloc (.cells #[.slice go L.length gc] 22)).alloc (.cells #[.slice ho M.length hc] 22)).alloc (.cells #[.slice go L.length gc, .slice ho M.length hc] 22) := ⟨_, rfl⟩
 obtain ⟨t1, t2, t3, t4⟩ := two_lists hL hM h1 h2 hw3
 have B3 := Lib.hid t1
 have LX := Lib.hid (show ansE [L.map ZV.p, M.map ZV.p] ((mnP (M.map ZV.p) (L.map ZV.p)).2) = 0 → ((mnP (M.map ZV.p) (L.map ZV.p)).1).length ≤ 1000000 from fun _ => mnP_len (by simp; omega))
 have AN := Lib.hid (answerB_any 48 #[.pointer (some ⟨w.heap.size + 1, 0, none⟩), .pointer (some ⟨w.heap.size, 0, none⟩)] [L, M] (some ⟨w.heap.size + 2, 0, none⟩) 2 ((mnP (M.map ZV.p) (L.map ZV.p)).2) w3 t4 (by simp) (by intro X hX; simp at hX; rcases hX with rfl | rfl <;> assumption) (fclosure _ Tryz.func48 (by kernel_rfl) rfl) (fun _ v _ => v = .bool (decide ((mnP (M.map ZV.p) (L.map ZV.p)).1.length = 0))) (fun _ _ _ _ _ h _ => h) (fun hc0 W hW => fincludes1_any M L ho go hc gc (w.heap.size + 1) w.heap.size W (t3.kept hW).cell (t2.kept hW).cell ((hM.on t1).on hW) ((hL.on t1).on hW) hm hl))
 simp only [List.map_cons, List.map_nil, List.length_cons, List.length_nil, Nat.zero_add, Nat.reduceAdd] at AN
 generalize hLl : L.length = n at *
 generalize hMl : M.length = k at *
 clear hL hM h1 h2 t1 t2 t3 t4 hl hm hLl hMl
 go_enter Tryz.func16, Tryz.ntmps16
 go_wp2_with fail
 rw [← hw3]
 refine AN.out.mono ?_
 intro e w4 h
 rcases h.2 with ⟨e1, W, v, e2, rfl, hv⟩ | ⟨e1, rfl⟩
 · have HB := Lib.hid (below_on B3.out h.1)
   have E1 := Lib.hid (show incE (L.map ZV.p) (M.map ZV.p) = 0 from e1)
   obtain ⟨bb, hbb⟩ : ∃ bb, bb = decide ((mnP (M.map ZV.p) (L.map ZV.p)).1.length = 0) := ⟨_, rfl⟩
   rw [← hbb] at hv
   subst hv
   have HBB := Lib.hid hbb
   clear h e1 e2 AN hbb
   go_wp2_with fail
   go_ret2
   refine ⟨HB.out, ?_⟩
   rw [show incR (L.map ZV.p) (M.map ZV.p) = decide ((mnP (M.map ZV.p) (L.map ZV.p)).1.length = 0) by unfold incR; rw [E1.out]; simp, E1.out, ← HBB.out]
   rfl
 · have HB := Lib.hid (below_on B3.out h.1)
   have E1 := Lib.hid (show ¬ incE (L.map ZV.p) (M.map ZV.p) = 0 from e1)
   clear h e1 AN
   go_wp2_with fail
   go_ret2
   refine ⟨HB.out, ?_⟩
   rw [show incR (L.map ZV.p) (M.map ZV.p) = false by unfold incR; simp [E1.out]]
   rfl
end Go.Proofs.YthjapmdfcbngmaaGreat
