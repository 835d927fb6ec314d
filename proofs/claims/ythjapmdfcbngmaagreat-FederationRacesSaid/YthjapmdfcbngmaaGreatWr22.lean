/- A part. -/
import Derived.Test.YthjapmdfcbngmaaGreatWr11
import Derived.Test.YthjapmdfcbngmaaGreatWr14
namespace Go.Proofs.YthjapmdfcbngmaaGreat
set_option maxHeartbeats 4000000
open Go.RowKit
theorem ch_me (N M : Int) (l m : List Int) (ao bo : Option Addr) (ca cb : Nat) (bb : Nat) (al : Bool) (w : World) (hA : Arg w ao l) (hB : Arg w bo m) (h1 : w.cell? ⟨bb, 1, none⟩ = some (.slice bo m.length cb)) (hal : al = (decide (N = M) && decide (chkE M m = 0))) :
  Calls Tryz.prog 108 #[.agg #[.int .i64 N, .slice ao l.length ca], .bool al, .func (.func 132) #[] #[.pointer (some ⟨bb, 0, none⟩)]] w (ZRes w N (Zo.clo N.toNat (meL l m)) (zmE N M l m)) := by
 cases ht : twB N M l m
 · refine (changed_bad N l ao ca al _ w hA ?_).mono fun e w' h => h.bad (by unfold zmE; rw [ht]; rfl)
   have := tw_no ht
   by_cases hc : chkE N l = 0
   · right
     rw [hal]
     by_cases hN : N = M
     · have : ¬ chkE M m = 0 := fun h => this ⟨hc, h, hN⟩
       simp [this]
     · simp [hN]
   · left; unfold okB; simpa using hc
 · obtain ⟨hc, hc2, hNM⟩ := tw_yes ht
   subst hNM
   have hat : al = true := by rw [hal]; simp [hc2]
   subst hat
   obtain ⟨n, rfl, hn, hl, hne⟩ := chk_ok hc
   obtain ⟨k, hk, hkn, hm, hme⟩ := chk_ok hc2
   have : k = n := by omega
   subst this
   obtain ⟨mb, rfl, hR⟩ := hB hme
   have := changed_ok k l (meL l m) ao ca 132 #[.pointer (some ⟨bb, 0, none⟩)] w hA hn hl hc (meL_64 (chk_64 hc).1 (chk_64 hc2).1) enter_me (fun W b hb hle hM => me1_any b k l m mb cb bb w W hn (by omega) hM hR h1 hb hle)
   rw [show zmE (k : Int) k l m = cloE k (meL l m) by unfold zmE; rw [ht]; rfl]
   exact this
set_option maxRecDepth 100000 in
theorem zme_gen (N M : Int) (l m : List Int) (ao bo : Option Addr) (ca cb : Nat) (w : World) (hA : Arg w ao l) (hB : Arg w bo m) :
  Calls Tryz.prog 90 #[.agg #[.int .i64 N, .slice ao l.length ca], .agg #[.int .i64 M, .slice bo m.length cb]] w (ZRes w N (Zo.clo N.toNat (meL l m)) (zmE N M l m)) := by
 have CH := Lib.hid (show ∀ W bb al, Below w.heap.size w W → W.cell? ⟨bb, 1, none⟩ = some (.slice bo m.length cb) → al = (decide (N = M) && decide (chkE M m = 0)) → _ from fun W bb al h h1 hal => ch_me N M l m ao bo ca cb bb al W (hA.on h) (hB.on h) h1 hal)
 have C2 := Lib.hid (show ∀ W, Below w.heap.size w W → _ from fun W h => zcheck_gen M m bo cb W (hB.on h))
 have T2 := Lib.hid (show chkE M m ≠ 0 → chkE M m = 2 from chk_two)
 generalize Zo.clo N.toNat (meL l m) = r at *
 generalize zmE N M l m = er at *
 generalize chkE M m = c2 at *
 generalize l.length = len at *
 generalize m.length = mlen at *
 obtain ⟨w0, hw0⟩ : ∃ w0, w0 = ((w.alloc (.cells #[.int .i64 N, .slice ao len ca] 36)).alloc (.cells #[.int .i64 M, .slice bo mlen cb] 36)).alloc (.cells #[.int .i64 0, .slice none 0 0] 36) := ⟨_, rfl⟩
 have b0 : w0.cell? ⟨w.heap.size, 0, none⟩ = some (.int .i64 N) := by rw [hw0]; go_simp
 have b1 : w0.cell? ⟨w.heap.size, 1, none⟩ = some (.slice ao len ca) := by rw [hw0]; go_simp
 have b2 : w0.cell? ⟨w.heap.size + 1, 0, none⟩ = some (.int .i64 M) := by rw [hw0]; go_simp
 have b3 : w0.cell? ⟨w.heap.size + 1, 1, none⟩ = some (.slice bo mlen cb) := by rw [hw0]; go_simp
 have rs : Two w0 (w.heap.size + 1 + 1) (.int .i64 0) (.slice none 0 0) := by
  rw [hw0]
  have := Two.made ((w.alloc (.cells #[.int .i64 N, .slice ao len ca] 36)).alloc (.cells #[.int .i64 M, .slice bo mlen cb] 36)) (.int .i64 0) (.slice none 0 0) 36
  simpa using this
 have z0 : w0.heap.size = w.heap.size + 3 := by rw [hw0]; simp
 have E0 := Lib.hid (show Below w.heap.size w w0 by rw [hw0]; exact past_three (Below.refl _ _))
 have KS := Lib.hid (show ∀ w' : World, Below w0.heap.size w0 w' → w'.cell? ⟨w.heap.size, 0, none⟩ = some (.int .i64 N) ∧ w'.cell? ⟨w.heap.size, 1, none⟩ = some (.slice ao len ca) ∧ w'.cell? ⟨w.heap.size + 1, 0, none⟩ = some (.int .i64 M) ∧ w'.cell? ⟨w.heap.size + 1, 1, none⟩ = some (.slice bo mlen cb) from fun w' h => ⟨kept h b0, kept h b1, kept h b2, kept h b3⟩)
 have KP := Lib.hid (show ∀ (w' : World) (u v : Value), Below w0.heap.size w0 w' → (((w'.setCell ⟨w.heap.size + 1 + 1, 0, none⟩ u).setCell ⟨w.heap.size + 1 + 1, 1, none⟩ v).cell? ⟨w.heap.size, 0, none⟩ = some (.int .i64 N) ∧ ((w'.setCell ⟨w.heap.size + 1 + 1, 0, none⟩ u).setCell ⟨w.heap.size + 1 + 1, 1, none⟩ v).cell? ⟨w.heap.size, 1, none⟩ = some (.slice ao len ca) ∧ ((w'.setCell ⟨w.heap.size + 1 + 1, 0, none⟩ u).setCell ⟨w.heap.size + 1 + 1, 1, none⟩ v).cell? ⟨w.heap.size + 1, 0, none⟩ = some (.int .i64 M) ∧ ((w'.setCell ⟨w.heap.size + 1 + 1, 0, none⟩ u).setCell ⟨w.heap.size + 1 + 1, 1, none⟩ v).cell? ⟨w.heap.size + 1, 1, none⟩ = some (.slice bo mlen cb)) from
  fun w' u v h => ⟨aside_two (kept h b0) (by show w.heap.size ≠ _; omega) u v, aside_two (kept h b1) (by show w.heap.size ≠ _; omega) u v, aside_two (kept h b2) (by show w.heap.size + 1 ≠ _; omega) u v, aside_two (kept h b3) (by show w.heap.size + 1 ≠ _; omega) u v⟩)
 have HRS := Lib.hid rs
 have BD := Lib.hid (show Below w0.heap.size w0 w0.drew from (Below.refl _ _).drew)
 clear hA hB b0 b1 b2 b3 rs
 by_cases hN : N = M
 · subst hN
   by_cases hc : c2 = 0
   · subst hc
     have HAL := Lib.hid (show true = (decide (N = N) && decide ((0 : Int) = 0)) by simp)
     clear T2
     go_enter Tryz.func90, Tryz.ntmps90
     go_wp2_with fail
     rw [← hw0]
     clear hw0
     by_cases he : er = 0
     · subst he
       go_region_held3 (fun w' => w'.cell? ⟨w.heap.size, 0, none⟩ = some (.int .i64 N) ∧ w'.cell? ⟨w.heap.size, 1, none⟩ = some (.slice ao len ca) ∧ w'.cell? ⟨w.heap.size + 1, 0, none⟩ = some (.int .i64 N) ∧ w'.cell? ⟨w.heap.size + 1, 1, none⟩ = some (.slice bo mlen cb)) (first | exact KS.out _ BD.out | exact KS.out _ (by assumption) | exact KP.out _ _ _ (by assumption)) (first | (go_at_call 83; refine (C2.out _ (below_on E0.out BD.out)).mono ?_; rintro e wa ⟨rfl, hba⟩; have hb1 := below_on BD.out hba) | (go_at_call 108; refine (CH.out _ _ _ (below_on E0.out hb1) (KS.out _ hb1).2.2.2 HAL.out).mono ?_; intro e wb hz; obtain ⟨g, c, rfl, hg, hO⟩ := hz.ok rfl; have hb2 := below_on hb1 hz.1; obtain ⟨q0, q1, q2, q3⟩ := (HRS.out.kept hb2).facts))
       all_goals
        go_wp2_with fail
        refine bodyPost_ret (v := .tuple #[.agg #[.int .i64 N, .slice (some ⟨g, 0, none⟩) r.length c], .int .i64 0]) (by simp [results, Tryz.results90, go_sem, q0, q1]) rfl (zres_over E0.out hb2 hO.1 (Nat.le_trans hb1.size hg) (by omega) (by omega) _ _)
     · go_region_held3 (fun w' => w'.cell? ⟨w.heap.size, 0, none⟩ = some (.int .i64 N) ∧ w'.cell? ⟨w.heap.size, 1, none⟩ = some (.slice ao len ca) ∧ w'.cell? ⟨w.heap.size + 1, 0, none⟩ = some (.int .i64 N) ∧ w'.cell? ⟨w.heap.size + 1, 1, none⟩ = some (.slice bo mlen cb)) (first | exact KS.out _ BD.out | exact KS.out _ (by assumption) | exact KP.out _ _ _ (by assumption)) (first | (go_at_call 83; refine (C2.out _ (below_on E0.out BD.out)).mono ?_; rintro e wa ⟨rfl, hba⟩; have hb1 := below_on BD.out hba) | (go_at_call 108; refine (CH.out _ _ _ (below_on E0.out hb1) (KS.out _ hb1).2.2.2 HAL.out).mono ?_; intro e wb hz; obtain ⟨rfl, hzb⟩ := hz.no he; have hb2 := below_on hb1 hzb; obtain ⟨q0, q1, q2, q3⟩ := (HRS.out.kept hb2).facts))
       all_goals
        go_wp2_with fail
        refine bodyPost_ret (v := .tuple #[.agg #[.int .i64 0, .slice none 0 0], .int .i64 er]) (by simp [results, Tryz.results90, go_sem, q0, q1]) rfl (zres_over0 E0.out hb2 he (by omega) _ _)
   · obtain rfl := T2.out hc
     have HAL := Lib.hid (show false = (decide (N = N) && decide ((2 : Int) = 0)) by simp)
     clear T2 hc
     go_enter Tryz.func90, Tryz.ntmps90
     go_wp2_with fail
     rw [← hw0]
     clear hw0
     by_cases he : er = 0
     · subst he
       go_region_held3 (fun w' => w'.cell? ⟨w.heap.size, 0, none⟩ = some (.int .i64 N) ∧ w'.cell? ⟨w.heap.size, 1, none⟩ = some (.slice ao len ca) ∧ w'.cell? ⟨w.heap.size + 1, 0, none⟩ = some (.int .i64 N) ∧ w'.cell? ⟨w.heap.size + 1, 1, none⟩ = some (.slice bo mlen cb)) (first | exact KS.out _ BD.out | exact KS.out _ (by assumption) | exact KP.out _ _ _ (by assumption)) (first | (go_at_call 83; refine (C2.out _ (below_on E0.out BD.out)).mono ?_; rintro e wa ⟨rfl, hba⟩; have hb1 := below_on BD.out hba) | (go_at_call 108; refine (CH.out _ _ _ (below_on E0.out hb1) (KS.out _ hb1).2.2.2 HAL.out).mono ?_; intro e wb hz; obtain ⟨g, c, rfl, hg, hO⟩ := hz.ok rfl; have hb2 := below_on hb1 hz.1; obtain ⟨q0, q1, q2, q3⟩ := (HRS.out.kept hb2).facts))
       all_goals
        go_wp2_with fail
        refine bodyPost_ret (v := .tuple #[.agg #[.int .i64 N, .slice (some ⟨g, 0, none⟩) r.length c], .int .i64 0]) (by simp [results, Tryz.results90, go_sem, q0, q1]) rfl (zres_over E0.out hb2 hO.1 (Nat.le_trans hb1.size hg) (by omega) (by omega) _ _)
     · go_region_held3 (fun w' => w'.cell? ⟨w.heap.size, 0, none⟩ = some (.int .i64 N) ∧ w'.cell? ⟨w.heap.size, 1, none⟩ = some (.slice ao len ca) ∧ w'.cell? ⟨w.heap.size + 1, 0, none⟩ = some (.int .i64 N) ∧ w'.cell? ⟨w.heap.size + 1, 1, none⟩ = some (.slice bo mlen cb)) (first | exact KS.out _ BD.out | exact KS.out _ (by assumption) | exact KP.out _ _ _ (by assumption)) (first | (go_at_call 83; refine (C2.out _ (below_on E0.out BD.out)).mono ?_; rintro e wa ⟨rfl, hba⟩; have hb1 := below_on BD.out hba) | (go_at_call 108; refine (CH.out _ _ _ (below_on E0.out hb1) (KS.out _ hb1).2.2.2 HAL.out).mono ?_; intro e wb hz; obtain ⟨rfl, hzb⟩ := hz.no he; have hb2 := below_on hb1 hzb; obtain ⟨q0, q1, q2, q3⟩ := (HRS.out.kept hb2).facts))
       all_goals
        go_wp2_with fail
        refine bodyPost_ret (v := .tuple #[.agg #[.int .i64 0, .slice none 0 0], .int .i64 er]) (by simp [results, Tryz.results90, go_sem, q0, q1]) rfl (zres_over0 E0.out hb2 he (by omega) _ _)
 · have D : (N == M) = false := by simpa using hN
   have HAL := Lib.hid (show false = (decide (N = M) && decide (c2 = 0)) by simp [hN])
   clear T2 hN
   go_enter Tryz.func90, Tryz.ntmps90
   go_wp2_with fail
   rw [← hw0]
   clear hw0
   refine wp_region_held_drew (S := (fun w' => w'.cell? ⟨w.heap.size, 0, none⟩ = some (.int .i64 N) ∧ w'.cell? ⟨w.heap.size, 1, none⟩ = some (.slice ao len ca) ∧ w'.cell? ⟨w.heap.size + 1, 0, none⟩ = some (.int .i64 M) ∧ w'.cell? ⟨w.heap.size + 1, 1, none⟩ = some (.slice bo mlen cb))) (by kernel_rfl) (KS.out _ BD.out) (fun h0 => ?_)
   refine tkH (i := 0) (v := .agg #[.int .i64 N, .slice ao len ca]) rfl (Or.inl ⟨by rfl, fun w' hS => by (obtain ⟨c0, c1, c2, c3⟩ := hS; go_simp)⟩) h0 ?_
   simp only [Act.put, sA, sB, sD, sE, sF]
   refine tkH (i := 1) (v := .pointer (some ⟨w.heap.size, 0, none⟩)) rfl (Or.inl ⟨by rfl, fun w' hS => by go_simp⟩) h0 ?_
   simp only [Act.put, sZ]
   refine tkH (i := 2) (v := .int .i64 N) rfl (Or.inl ⟨by rfl, fun w' hS => by (obtain ⟨c0, c1, c2, c3⟩ := hS; go_simp)⟩) h0 ?_
   simp only [Act.put, sZ]
   refine tkH (i := 3) (v := .pointer (some ⟨w.heap.size + 1, 0, none⟩)) rfl (Or.inl ⟨by rfl, fun w' hS => by go_simp⟩) h0 ?_
   simp only [Act.put, sZ]
   refine tkH (i := 4) (v := .int .i64 M) rfl (Or.inl ⟨by rfl, fun w' hS => by (obtain ⟨c0, c1, c2, c3⟩ := hS; go_simp)⟩) h0 ?_
   simp only [Act.put, sZ]
   refine tkH (i := 5) (v := .bool false) rfl (Or.inl ⟨by rfl, fun w' hS => by go_simp⟩) h0 ?_
   simp only [Act.put, sZ]
   refine tkH (i := 6) (v := .bool false) rfl (Or.inl ⟨by rfl, fun w' hS => by go_simp⟩) h0 ?_
   simp only [Act.put, sZ]
   refine tkU (i := 7) rfl h0 ?_
   simp only [Act.put, sZ]
   refine tkU (i := 8) rfl h0 ?_
   simp only [Act.put, sZ]
   refine tkU (i := 9) rfl h0 ?_
   simp only [Act.put, sZ]
   refine tkH (i := 10) (v := .bool false) rfl (Or.inl ⟨by rfl, fun w' hS => by go_simp⟩) h0 ?_
   simp only [Act.put, sZ]
   refine tkH (i := 11) (v := .func (.func 132) #[] #[.pointer (some ⟨w.heap.size + 1, 0, none⟩)]) rfl (Or.inl ⟨by rfl, fun w' hS => by go_simp⟩) h0 ?_
   simp only [Act.put, sZ]
   refine wpAnyH_ready (rs := [12]) (by kernel_rfl) (by simp) (AllReadyH.cons rfl (fun K hK => ?_) AllReadyH.nil)
   rw [if_pos (by rfl)]
   go_simp
   refine (CH.out _ _ _ (below_on E0.out BD.out) (KS.out _ BD.out).2.2.2 HAL.out).mono ?_
   intro e wb hz
   obtain ⟨hb4, hres⟩ := hz
   have hb2 := below_on BD.out hb4
   obtain ⟨q0, q1, q2, q3⟩ := (HRS.out.kept hb2).facts
   rcases hres with ⟨he, g, c, rfl, hg, hO⟩ | ⟨he, rfl⟩
   · subst he
     go_simp
     refine hK.out _ _ (KS.out _ hb2) (fun h1 => ?_)
     clear hK K
     refine tkH (i := 13) (v := .agg #[.int .i64 N, .slice (some ⟨g, 0, none⟩) r.length c]) rfl (Or.inl ⟨by rfl, fun w' hS => by go_simp⟩) h1 ?_
     simp only [Act.put, sZ]
     refine tkH (i := 14) (v := .int .i64 0) rfl (Or.inl ⟨by rfl, fun w' hS => by go_simp⟩) h1 ?_
     simp only [Act.put, sZ]
     refine wpAnyH_ready (rs := [15]) (by kernel_rfl) (by simp) (AllReadyH.cons rfl (fun K hK => ?_) AllReadyH.nil)
     rw [if_pos (by rfl)]
     go_simp
     refine hK.out _ _ (KP.out _ _ _ hb2) (fun h2 => ?_)
     clear hK K
     refine tkH (i := 16) (v := .int .i64 0) rfl (Or.inl ⟨by rfl, fun w' hS => by go_simp⟩) h2 ?_
     simp only [Act.put, sZ]
     refine wpAnyH_done (by kernel_rfl) ?_ _
     go_wp2_with fail
     refine bodyPost_ret (v := .tuple #[.agg #[.int .i64 N, .slice (some ⟨g, 0, none⟩) r.length c], .int .i64 0]) (by simp [results, Tryz.results90, go_sem, q0, q1]) rfl (zres_over E0.out hb2 hO (Nat.le_trans BD.out.size hg) (by omega) (by omega) _ _)
   · go_simp
     refine hK.out _ _ (KS.out _ hb2) (fun h1 => ?_)
     clear hK K
     refine tkH (i := 13) (v := .agg #[.int .i64 0, .slice none 0 0]) rfl (Or.inl ⟨by rfl, fun w' hS => by go_simp⟩) h1 ?_
     simp only [Act.put, sZ]
     refine tkH (i := 14) (v := .int .i64 er) rfl (Or.inl ⟨by rfl, fun w' hS => by go_simp⟩) h1 ?_
     simp only [Act.put, sZ]
     refine wpAnyH_ready (rs := [15]) (by kernel_rfl) (by simp) (AllReadyH.cons rfl (fun K hK => ?_) AllReadyH.nil)
     rw [if_pos (by rfl)]
     go_simp
     refine hK.out _ _ (KP.out _ _ _ hb2) (fun h2 => ?_)
     clear hK K
     refine tkH (i := 16) (v := .int .i64 er) rfl (Or.inl ⟨by rfl, fun w' hS => by go_simp⟩) h2 ?_
     simp only [Act.put, sZ]
     refine wpAnyH_done (by kernel_rfl) ?_ _
     go_wp2_with fail
     refine bodyPost_ret (v := .tuple #[.agg #[.int .i64 0, .slice none 0 0], .int .i64 er]) (by simp [results, Tryz.results90, go_sem, q0, q1]) rfl (zres_over0 E0.out hb2 he (by omega) _ _)
theorem ch_hu (N M : Int) (l m : List Int) (ao bo : Option Addr) (ca cb : Nat) (bb : Nat) (al : Bool) (w : World) (hA : Arg w ao l) (hB : Arg w bo m) (h1 : w.cell? ⟨bb, 1, none⟩ = some (.slice bo m.length cb)) (hal : al = (decide (N = M) && decide (chkE M m = 0))) :
  Calls Tryz.prog 108 #[.agg #[.int .i64 N, .slice ao l.length ca], .bool al, .func (.func 164) #[] #[.pointer (some ⟨bb, 0, none⟩)]] w (ZRes w N (Zo.clo N.toNat (huL l m)) (huE N M l m)) := by
 cases ht : twB N M l m
 · refine (changed_bad N l ao ca al _ w hA ?_).mono fun e w' h => h.bad (by unfold huE; rw [ht]; rfl)
   have := tw_no ht
   by_cases hc : chkE N l = 0
   · right
     rw [hal]
     by_cases hN : N = M
     · have : ¬ chkE M m = 0 := fun h => this ⟨hc, h, hN⟩
       simp [this]
     · simp [hN]
   · left; unfold okB; simpa using hc
 · obtain ⟨hc, hc2, hNM⟩ := tw_yes ht
   subst hNM
   have hat : al = true := by rw [hal]; simp [hc2]
   subst hat
   obtain ⟨n, rfl, hn, hl, hne⟩ := chk_ok hc
   obtain ⟨k, hk, hkn, hm, hme⟩ := chk_ok hc2
   have : k = n := by omega
   subst this
   obtain ⟨mb, rfl, hR⟩ := hB hme
   have := changed_ok k l (huL l m) ao ca 164 #[.pointer (some ⟨bb, 0, none⟩)] w hA hn hl hc (huL_64 (chk_64 hc).1 (chk_64 hc2).1) enter_hu (fun W b hb hle hM => hu1_any b k l m mb cb bb w W hn (by omega) hM hR h1 hb hle)
   rw [show huE (k : Int) k l m = cloE k (huL l m) by unfold huE; rw [ht]; rfl]
   exact this
set_option maxRecDepth 100000 in
theorem zhu_gen (N M : Int) (l m : List Int) (ao bo : Option Addr) (ca cb : Nat) (w : World) (hA : Arg w ao l) (hB : Arg w bo m) :
  Calls Tryz.prog 141 #[.agg #[.int .i64 N, .slice ao l.length ca], .agg #[.int .i64 M, .slice bo m.length cb]] w (ZRes w N (Zo.clo N.toNat (huL l m)) (huE N M l m)) := by
 have CH := Lib.hid (show ∀ W bb al, Below w.heap.size w W → W.cell? ⟨bb, 1, none⟩ = some (.slice bo m.length cb) → al = (decide (N = M) && decide (chkE M m = 0)) → _ from fun W bb al h h1 hal => ch_hu N M l m ao bo ca cb bb al W (hA.on h) (hB.on h) h1 hal)
 have C2 := Lib.hid (show ∀ W, Below w.heap.size w W → _ from fun W h => zcheck_gen M m bo cb W (hB.on h))
 have T2 := Lib.hid (show chkE M m ≠ 0 → chkE M m = 2 from chk_two)
 generalize Zo.clo N.toNat (huL l m) = r at *
 generalize huE N M l m = er at *
 generalize chkE M m = c2 at *
 generalize l.length = len at *
 generalize m.length = mlen at *
 obtain ⟨w0, hw0⟩ : ∃ w0, w0 = ((w.alloc (.cells #[.int .i64 N, .slice ao len ca] 36)).alloc (.cells #[.int .i64 M, .slice bo mlen cb] 36)).alloc (.cells #[.int .i64 0, .slice none 0 0] 36) := ⟨_, rfl⟩
 have b0 : w0.cell? ⟨w.heap.size, 0, none⟩ = some (.int .i64 N) := by rw [hw0]; go_simp
 have b1 : w0.cell? ⟨w.heap.size, 1, none⟩ = some (.slice ao len ca) := by rw [hw0]; go_simp
 have b2 : w0.cell? ⟨w.heap.size + 1, 0, none⟩ = some (.int .i64 M) := by rw [hw0]; go_simp
 have b3 : w0.cell? ⟨w.heap.size + 1, 1, none⟩ = some (.slice bo mlen cb) := by rw [hw0]; go_simp
 have rs : Two w0 (w.heap.size + 1 + 1) (.int .i64 0) (.slice none 0 0) := by
  rw [hw0]
  have := Two.made ((w.alloc (.cells #[.int .i64 N, .slice ao len ca] 36)).alloc (.cells #[.int .i64 M, .slice bo mlen cb] 36)) (.int .i64 0) (.slice none 0 0) 36
  simpa using this
 have z0 : w0.heap.size = w.heap.size + 3 := by rw [hw0]; simp
 have E0 := Lib.hid (show Below w.heap.size w w0 by rw [hw0]; exact past_three (Below.refl _ _))
 have KS := Lib.hid (show ∀ w' : World, Below w0.heap.size w0 w' → w'.cell? ⟨w.heap.size, 0, none⟩ = some (.int .i64 N) ∧ w'.cell? ⟨w.heap.size, 1, none⟩ = some (.slice ao len ca) ∧ w'.cell? ⟨w.heap.size + 1, 0, none⟩ = some (.int .i64 M) ∧ w'.cell? ⟨w.heap.size + 1, 1, none⟩ = some (.slice bo mlen cb) from fun w' h => ⟨kept h b0, kept h b1, kept h b2, kept h b3⟩)
 have KP := Lib.hid (show ∀ (w' : World) (u v : Value), Below w0.heap.size w0 w' → (((w'.setCell ⟨w.heap.size + 1 + 1, 0, none⟩ u).setCell ⟨w.heap.size + 1 + 1, 1, none⟩ v).cell? ⟨w.heap.size, 0, none⟩ = some (.int .i64 N) ∧ ((w'.setCell ⟨w.heap.size + 1 + 1, 0, none⟩ u).setCell ⟨w.heap.size + 1 + 1, 1, none⟩ v).cell? ⟨w.heap.size, 1, none⟩ = some (.slice ao len ca) ∧ ((w'.setCell ⟨w.heap.size + 1 + 1, 0, none⟩ u).setCell ⟨w.heap.size + 1 + 1, 1, none⟩ v).cell? ⟨w.heap.size + 1, 0, none⟩ = some (.int .i64 M) ∧ ((w'.setCell ⟨w.heap.size + 1 + 1, 0, none⟩ u).setCell ⟨w.heap.size + 1 + 1, 1, none⟩ v).cell? ⟨w.heap.size + 1, 1, none⟩ = some (.slice bo mlen cb)) from
  fun w' u v h => ⟨aside_two (kept h b0) (by show w.heap.size ≠ _; omega) u v, aside_two (kept h b1) (by show w.heap.size ≠ _; omega) u v, aside_two (kept h b2) (by show w.heap.size + 1 ≠ _; omega) u v, aside_two (kept h b3) (by show w.heap.size + 1 ≠ _; omega) u v⟩)
 have HRS := Lib.hid rs
 have BD := Lib.hid (show Below w0.heap.size w0 w0.drew from (Below.refl _ _).drew)
 clear hA hB b0 b1 b2 b3 rs
 by_cases hN : N = M
 · subst hN
   by_cases hc : c2 = 0
   · subst hc
     have HAL := Lib.hid (show true = (decide (N = N) && decide ((0 : Int) = 0)) by simp)
     clear T2
     go_enter Tryz.func141, Tryz.ntmps141
     go_wp2_with fail
     rw [← hw0]
     clear hw0
     by_cases he : er = 0
     · subst he
       go_region_held3 (fun w' => w'.cell? ⟨w.heap.size, 0, none⟩ = some (.int .i64 N) ∧ w'.cell? ⟨w.heap.size, 1, none⟩ = some (.slice ao len ca) ∧ w'.cell? ⟨w.heap.size + 1, 0, none⟩ = some (.int .i64 N) ∧ w'.cell? ⟨w.heap.size + 1, 1, none⟩ = some (.slice bo mlen cb)) (first | exact KS.out _ BD.out | exact KS.out _ (by assumption) | exact KP.out _ _ _ (by assumption)) (first | (go_at_call 83; refine (C2.out _ (below_on E0.out BD.out)).mono ?_; rintro e wa ⟨rfl, hba⟩; have hb1 := below_on BD.out hba) | (go_at_call 108; refine (CH.out _ _ _ (below_on E0.out hb1) (KS.out _ hb1).2.2.2 HAL.out).mono ?_; intro e wb hz; obtain ⟨g, c, rfl, hg, hO⟩ := hz.ok rfl; have hb2 := below_on hb1 hz.1; obtain ⟨q0, q1, q2, q3⟩ := (HRS.out.kept hb2).facts))
       all_goals
        go_wp2_with fail
        refine bodyPost_ret (v := .tuple #[.agg #[.int .i64 N, .slice (some ⟨g, 0, none⟩) r.length c], .int .i64 0]) (by simp [results, Tryz.results141, go_sem, q0, q1]) rfl (zres_over E0.out hb2 hO.1 (Nat.le_trans hb1.size hg) (by omega) (by omega) _ _)
     · go_region_held3 (fun w' => w'.cell? ⟨w.heap.size, 0, none⟩ = some (.int .i64 N) ∧ w'.cell? ⟨w.heap.size, 1, none⟩ = some (.slice ao len ca) ∧ w'.cell? ⟨w.heap.size + 1, 0, none⟩ = some (.int .i64 N) ∧ w'.cell? ⟨w.heap.size + 1, 1, none⟩ = some (.slice bo mlen cb)) (first | exact KS.out _ BD.out | exact KS.out _ (by assumption) | exact KP.out _ _ _ (by assumption)) (first | (go_at_call 83; refine (C2.out _ (below_on E0.out BD.out)).mono ?_; rintro e wa ⟨rfl, hba⟩; have hb1 := below_on BD.out hba) | (go_at_call 108; refine (CH.out _ _ _ (below_on E0.out hb1) (KS.out _ hb1).2.2.2 HAL.out).mono ?_; intro e wb hz; obtain ⟨rfl, hzb⟩ := hz.no he; have hb2 := below_on hb1 hzb; obtain ⟨q0, q1, q2, q3⟩ := (HRS.out.kept hb2).facts))
       all_goals
        go_wp2_with fail
        refine bodyPost_ret (v := .tuple #[.agg #[.int .i64 0, .slice none 0 0], .int .i64 er]) (by simp [results, Tryz.results141, go_sem, q0, q1]) rfl (zres_over0 E0.out hb2 he (by omega) _ _)
   · obtain rfl := T2.out hc
     have HAL := Lib.hid (show false = (decide (N = N) && decide ((2 : Int) = 0)) by simp)
     clear T2 hc
     go_enter Tryz.func141, Tryz.ntmps141
     go_wp2_with fail
     rw [← hw0]
     clear hw0
     by_cases he : er = 0
     · subst he
       go_region_held3 (fun w' => w'.cell? ⟨w.heap.size, 0, none⟩ = some (.int .i64 N) ∧ w'.cell? ⟨w.heap.size, 1, none⟩ = some (.slice ao len ca) ∧ w'.cell? ⟨w.heap.size + 1, 0, none⟩ = some (.int .i64 N) ∧ w'.cell? ⟨w.heap.size + 1, 1, none⟩ = some (.slice bo mlen cb)) (first | exact KS.out _ BD.out | exact KS.out _ (by assumption) | exact KP.out _ _ _ (by assumption)) (first | (go_at_call 83; refine (C2.out _ (below_on E0.out BD.out)).mono ?_; rintro e wa ⟨rfl, hba⟩; have hb1 := below_on BD.out hba) | (go_at_call 108; refine (CH.out _ _ _ (below_on E0.out hb1) (KS.out _ hb1).2.2.2 HAL.out).mono ?_; intro e wb hz; obtain ⟨g, c, rfl, hg, hO⟩ := hz.ok rfl; have hb2 := below_on hb1 hz.1; obtain ⟨q0, q1, q2, q3⟩ := (HRS.out.kept hb2).facts))
       all_goals
        go_wp2_with fail
        refine bodyPost_ret (v := .tuple #[.agg #[.int .i64 N, .slice (some ⟨g, 0, none⟩) r.length c], .int .i64 0]) (by simp [results, Tryz.results141, go_sem, q0, q1]) rfl (zres_over E0.out hb2 hO.1 (Nat.le_trans hb1.size hg) (by omega) (by omega) _ _)
     · go_region_held3 (fun w' => w'.cell? ⟨w.heap.size, 0, none⟩ = some (.int .i64 N) ∧ w'.cell? ⟨w.heap.size, 1, none⟩ = some (.slice ao len ca) ∧ w'.cell? ⟨w.heap.size + 1, 0, none⟩ = some (.int .i64 N) ∧ w'.cell? ⟨w.heap.size + 1, 1, none⟩ = some (.slice bo mlen cb)) (first | exact KS.out _ BD.out | exact KS.out _ (by assumption) | exact KP.out _ _ _ (by assumption)) (first | (go_at_call 83; refine (C2.out _ (below_on E0.out BD.out)).mono ?_; rintro e wa ⟨rfl, hba⟩; have hb1 := below_on BD.out hba) | (go_at_call 108; refine (CH.out _ _ _ (below_on E0.out hb1) (KS.out _ hb1).2.2.2 HAL.out).mono ?_; intro e wb hz; obtain ⟨rfl, hzb⟩ := hz.no he; have hb2 := below_on hb1 hzb; obtain ⟨q0, q1, q2, q3⟩ := (HRS.out.kept hb2).facts))
       all_goals
        go_wp2_with fail
        refine bodyPost_ret (v := .tuple #[.agg #[.int .i64 0, .slice none 0 0], .int .i64 er]) (by simp [results, Tryz.results141, go_sem, q0, q1]) rfl (zres_over0 E0.out hb2 he (by omega) _ _)
 · have D : (N == M) = false := by simpa using hN
   have HAL := Lib.hid (show false = (decide (N = M) && decide (c2 = 0)) by simp [hN])
   clear T2 hN
   go_enter Tryz.func141, Tryz.ntmps141
   go_wp2_with fail
   rw [← hw0]
   clear hw0
   refine wp_region_held_drew (S := (fun w' => w'.cell? ⟨w.heap.size, 0, none⟩ = some (.int .i64 N) ∧ w'.cell? ⟨w.heap.size, 1, none⟩ = some (.slice ao len ca) ∧ w'.cell? ⟨w.heap.size + 1, 0, none⟩ = some (.int .i64 M) ∧ w'.cell? ⟨w.heap.size + 1, 1, none⟩ = some (.slice bo mlen cb))) (by kernel_rfl) (KS.out _ BD.out) (fun h0 => ?_)
   refine tkH (i := 0) (v := .agg #[.int .i64 N, .slice ao len ca]) rfl (Or.inl ⟨by rfl, fun w' hS => by (obtain ⟨c0, c1, c2, c3⟩ := hS; go_simp)⟩) h0 ?_
   simp only [Act.put, sA, sB, sD, sE, sF]
   refine tkH (i := 1) (v := .pointer (some ⟨w.heap.size, 0, none⟩)) rfl (Or.inl ⟨by rfl, fun w' hS => by go_simp⟩) h0 ?_
   simp only [Act.put, sZ]
   refine tkH (i := 2) (v := .int .i64 N) rfl (Or.inl ⟨by rfl, fun w' hS => by (obtain ⟨c0, c1, c2, c3⟩ := hS; go_simp)⟩) h0 ?_
   simp only [Act.put, sZ]
   refine tkH (i := 3) (v := .pointer (some ⟨w.heap.size + 1, 0, none⟩)) rfl (Or.inl ⟨by rfl, fun w' hS => by go_simp⟩) h0 ?_
   simp only [Act.put, sZ]
   refine tkH (i := 4) (v := .int .i64 M) rfl (Or.inl ⟨by rfl, fun w' hS => by (obtain ⟨c0, c1, c2, c3⟩ := hS; go_simp)⟩) h0 ?_
   simp only [Act.put, sZ]
   refine tkH (i := 5) (v := .bool false) rfl (Or.inl ⟨by rfl, fun w' hS => by go_simp⟩) h0 ?_
   simp only [Act.put, sZ]
   refine tkH (i := 6) (v := .bool false) rfl (Or.inl ⟨by rfl, fun w' hS => by go_simp⟩) h0 ?_
   simp only [Act.put, sZ]
   refine tkU (i := 7) rfl h0 ?_
   simp only [Act.put, sZ]
   refine tkU (i := 8) rfl h0 ?_
   simp only [Act.put, sZ]
   refine tkU (i := 9) rfl h0 ?_
   simp only [Act.put, sZ]
   refine tkH (i := 10) (v := .bool false) rfl (Or.inl ⟨by rfl, fun w' hS => by go_simp⟩) h0 ?_
   simp only [Act.put, sZ]
   refine tkH (i := 11) (v := .func (.func 164) #[] #[.pointer (some ⟨w.heap.size + 1, 0, none⟩)]) rfl (Or.inl ⟨by rfl, fun w' hS => by go_simp⟩) h0 ?_
   simp only [Act.put, sZ]
   refine wpAnyH_ready (rs := [12]) (by kernel_rfl) (by simp) (AllReadyH.cons rfl (fun K hK => ?_) AllReadyH.nil)
   rw [if_pos (by rfl)]
   go_simp
   refine (CH.out _ _ _ (below_on E0.out BD.out) (KS.out _ BD.out).2.2.2 HAL.out).mono ?_
   intro e wb hz
   obtain ⟨hb4, hres⟩ := hz
   have hb2 := below_on BD.out hb4
   obtain ⟨q0, q1, q2, q3⟩ := (HRS.out.kept hb2).facts
   rcases hres with ⟨he, g, c, rfl, hg, hO⟩ | ⟨he, rfl⟩
   · subst he
     go_simp
     refine hK.out _ _ (KS.out _ hb2) (fun h1 => ?_)
     clear hK K
     refine tkH (i := 13) (v := .agg #[.int .i64 N, .slice (some ⟨g, 0, none⟩) r.length c]) rfl (Or.inl ⟨by rfl, fun w' hS => by go_simp⟩) h1 ?_
     simp only [Act.put, sZ]
     refine tkH (i := 14) (v := .int .i64 0) rfl (Or.inl ⟨by rfl, fun w' hS => by go_simp⟩) h1 ?_
     simp only [Act.put, sZ]
     refine wpAnyH_ready (rs := [15]) (by kernel_rfl) (by simp) (AllReadyH.cons rfl (fun K hK => ?_) AllReadyH.nil)
     rw [if_pos (by rfl)]
     go_simp
     refine hK.out _ _ (KP.out _ _ _ hb2) (fun h2 => ?_)
     clear hK K
     refine tkH (i := 16) (v := .int .i64 0) rfl (Or.inl ⟨by rfl, fun w' hS => by go_simp⟩) h2 ?_
     simp only [Act.put, sZ]
     refine wpAnyH_done (by kernel_rfl) ?_ _
     go_wp2_with fail
     refine bodyPost_ret (v := .tuple #[.agg #[.int .i64 N, .slice (some ⟨g, 0, none⟩) r.length c], .int .i64 0]) (by simp [results, Tryz.results141, go_sem, q0, q1]) rfl (zres_over E0.out hb2 hO (Nat.le_trans BD.out.size hg) (by omega) (by omega) _ _)
   · go_simp
     refine hK.out _ _ (KS.out _ hb2) (fun h1 => ?_)
     clear hK K
     refine tkH (i := 13) (v := .agg #[.int .i64 0, .slice none 0 0]) rfl (Or.inl ⟨by rfl, fun w' hS => by go_simp⟩) h1 ?_
     simp only [Act.put, sZ]
     refine tkH (i := 14) (v := .int .i64 er) rfl (Or.inl ⟨by rfl, fun w' hS => by go_simp⟩) h1 ?_
     simp only [Act.put, sZ]
     refine wpAnyH_ready (rs := [15]) (by kernel_rfl) (by simp) (AllReadyH.cons rfl (fun K hK => ?_) AllReadyH.nil)
     rw [if_pos (by rfl)]
     go_simp
     refine hK.out _ _ (KP.out _ _ _ hb2) (fun h2 => ?_)
     clear hK K
     refine tkH (i := 16) (v := .int .i64 er) rfl (Or.inl ⟨by rfl, fun w' hS => by go_simp⟩) h2 ?_
     simp only [Act.put, sZ]
     refine wpAnyH_done (by kernel_rfl) ?_ _
     go_wp2_with fail
     refine bodyPost_ret (v := .tuple #[.agg #[.int .i64 0, .slice none 0 0], .int .i64 er]) (by simp [results, Tryz.results141, go_sem, q0, q1]) rfl (zres_over0 E0.out hb2 he (by omega) _ _)
end Go.Proofs.YthjapmdfcbngmaaGreat
