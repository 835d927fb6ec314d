/- Contract of layer 3's Before.; ZoneSteps, for whatever arguments. -/
import Derived.Test.YtbnebinpemejlaaHs1
import Derived.Test.YtbnebinpemejlaaHc8

namespace Go.Proofs.Ytbnebinpemejlaa
open Go.RowKit

theorem bfL_64 {n i : Nat} {c : Int} {l : List Int} (h : Zo.A64 l) : Zo.A64 (bfL n i c l) :=
  fold_64 (fun _ _ h => Zo.A64.min_ (Zo.A64.min_ h _ _ _ _ (Zo.smW_in _ _) _) _ _ _ _ (Zo.smW_in _ _) _) h _

theorem enter_be (args : Array Value) (W : World) : (callFunc 90 args).run Try.prog W = .ok (.enter 90 args) W := by go_simp

theorem be_one {n i : Nat} {c : Int} {l : List Int} (hn : n ≤ 10) (hl : l.length = (n + 1) * (n + 1)) (hc : chkE n l = 0) (h1 : 1 ≤ i) (hi : i ≤ n) (h0 : 0 ≤ c) (h2 : c ≤ 1048576) :
    beE n i c l = cloE n (rlL n i (bfL n i c l)) ∧ (beE n i c l = 0 → beL n i c l = Zo.clo n (rlL n i (bfL n i c l))) := by
  obtain ⟨e1, e2⟩ := be_math hn hl hc h1 hi h0 h2
  have hok := isC_ok (n := n) (i := i) (j := 0) (c := c) hi (by omega) h0 h2
  have lm : (anL n (isC i 0 c) l).length = (n + 1) * (n + 1) := by rw [anL_len]; exact hl
  have mv : ∀ a b, a ≤ n → b ≤ n → Zo.Wl (Zo.At n (anL n (isC i 0 c) l) a b) := an_wl hok hl (wl_of hl (chk_64 hc).2)
  have ha : anE n (isC i 0 c) l = cloE n (anL n (isC i 0 c) l) := anE_ok hok
  by_cases hz : cloE n (anL n (isC i 0 c) l) = 0
  · have hk := clo_chk hn lm mv hz
    have lz : (Zo.clo n (anL n (isC i 0 c) l)).length = (n + 1) * (n + 1) := by rw [Zo.clo_length, lm]
    have hf := (fr_zone hn lz hk h1 hi).2
    have hE : beE n i c l = 0 := by
      unfold beE beM
      rw [ha, if_pos hz]
      unfold frE
      rw [if_pos ⟨hk, by omega, by omega⟩]
      exact hf
    exact ⟨by rw [hE, e1, hz], fun _ => by unfold beL beM; exact (e2 hz).symm⟩
  · have hE : beE n i c l = cloE n (anL n (isC i 0 c) l) := by
      unfold beE; rw [ha, if_neg hz]
    exact ⟨by rw [hE, e1], fun h => absurd (hE ▸ h) hz⟩

theorem ch_be (N : Int) (l : List Int) (ao : Option Addr) (cap : Nat) (i c : Int) (p q : Addr) (w : World) (hA : Arg w ao l) (hp : w.cell? p = some (.int .i64 c)) (hq : w.cell? q = some (.int .i64 i)) (al : Bool) (hal : al = (ckB N i 1 && cnB c)) :
    Calls Try.prog 76 #[.agg #[.int .i64 N, .slice ao l.length cap], .bool al, .func (.func 90) #[] #[.pointer (some p), .pointer (some q)]] w (ZRes w N (beL N.toNat i.toNat c l) (beG N l i c)) := by
  by_cases hc : chkE N l = 0
  · cases al
    · refine (changed_bad N l ao cap false _ w hA (Or.inr rfl)).mono fun e w' h => h.bad ?_
      unfold beG; rw [if_neg]
      intro ⟨_, h1, h2, h3⟩
      rw [h3] at hal
      unfold ckB at hal; simp at hal; omega
    · obtain ⟨n, rfl, hn, hl, hne⟩ := chk_ok hc
      have hk : ckB n i 1 = true := by cases h : ckB n i 1 <;> simp_all
      have hcn : cnB c = true := by cases h : cnB c <;> simp_all
      obtain ⟨k, rfl, hkn, hk1⟩ := ck_nat hk (by omega)
      have hcc : 0 ≤ c ∧ c ≤ 1048576 := by unfold cnB at hcn; simpa using hcn
      have := changed_ok n l (rlL n k (bfL n k c l)) ao cap 90 #[.pointer (some p), .pointer (some q)] w hA hn hl hc (rlL_64 (bfL_64 (chk_64 hc).1)) enter_be (fun W b hb hle hM => be1_any b n k c p q l w W hn hkn hcc.1 hcc.2 hM hp hq hb hle)
      obtain ⟨f1, f2⟩ := be_one hn hl hc (i := k) (c := c) (by omega) hkn hcc.1 hcc.2
      rw [← f1] at this
      rw [show beG (n : Int) l k c = beE n k c l by unfold beG; rw [if_pos ⟨hc, by omega, by omega, hcn⟩]; rfl]
      exact this.mono fun e w' h => h.swap fun h0 => (f2 h0).symm
  · refine (changed_bad N l ao cap _ _ w hA (Or.inl (by unfold okB; simpa using hc))).mono fun e w' h => h.bad ?_
    unfold beG; rw [if_neg (fun x => hc x.1)]

set_option maxRecDepth 100000 in
set_option maxHeartbeats 4000000 in
theorem zbe_gen (N : Int) (l : List Int) (ao : Option Addr) (cap : Nat) (i c : Int) (w : World) (hA : Arg w ao l) :
    Calls Try.prog 34 #[.agg #[.int .i64 N, .slice ao l.length cap], .int .i64 i, .int .i64 c] w (ZRes w N (beL N.toNat i.toNat c l) (beG N l i c)) := by
  have CH := Lib.hid (show ∀ W p q al, Below w.heap.size w W → W.cell? p = some (.int .i64 c) → W.cell? q = some (.int .i64 i) → al = (ckB N i 1 && cnB c) → _ from fun W p q al h hp hq hal => ch_be N l ao cap i c p q W (hA.on h) hp hq al hal)
  have CK := Lib.hid (fun W => isClock_any N i 1 (.slice ao l.length cap) W)
  have C2 := Lib.hid (fun W => isConstant_any c W)
  generalize beL N.toNat i.toNat c l = r at *
  generalize beG N l i c = er at *
  generalize ckB N i 1 = k1 at *
  generalize cnB c = k2 at *
  generalize l.length = len at *
  obtain ⟨w0, hw0⟩ : ∃ w0, w0 = (((w.alloc (.cells #[.int .i64 N, .slice ao len cap] 25)).alloc (.cells #[.int .i64 i] 3)).alloc (.cells #[.int .i64 c] 2)).alloc (.cells #[.int .i64 0, .slice none 0 0] 25) := ⟨_, rfl⟩
  have b0 : w0.cell? ⟨w.heap.size, 0, none⟩ = some (.int .i64 N) := by rw [hw0]; go_simp
  have b1 : w0.cell? ⟨w.heap.size, 1, none⟩ = some (.slice ao len cap) := by rw [hw0]; go_simp
  have b2 : w0.cell? ⟨w.heap.size + 1, 0, none⟩ = some (.int .i64 i) := by rw [hw0]; go_simp
  have b3 : w0.cell? ⟨w.heap.size + 1 + 1, 0, none⟩ = some (.int .i64 c) := by rw [hw0]; go_simp
  have rs : Two w0 (w.heap.size + 1 + 1 + 1) (.int .i64 0) (.slice none 0 0) := by
    rw [hw0]
    have := Two.made (((w.alloc (.cells #[.int .i64 N, .slice ao len cap] 25)).alloc (.cells #[.int .i64 i] 3)).alloc (.cells #[.int .i64 c] 2)) (.int .i64 0) (.slice none 0 0) 25
    simpa using this
  have z0 : w0.heap.size = w.heap.size + 4 := by rw [hw0]; simp
  have E0 := Lib.hid (show Below w.heap.size w w0 by rw [hw0]; exact (past_three (Below.refl _ _)).alloc (by simp; omega) _)
  have KS := Lib.hid (show ∀ w' : World, Below w0.heap.size w0 w' → w'.cell? ⟨w.heap.size, 0, none⟩ = some (.int .i64 N) ∧ w'.cell? ⟨w.heap.size, 1, none⟩ = some (.slice ao len cap) ∧ w'.cell? ⟨w.heap.size + 1, 0, none⟩ = some (.int .i64 i) ∧ w'.cell? ⟨w.heap.size + 1 + 1, 0, none⟩ = some (.int .i64 c) from fun w' h => ⟨kept h b0, kept h b1, kept h b2, kept h b3⟩)
  have KP := Lib.hid (show ∀ (w' : World) (u v : Value), Below w0.heap.size w0 w' → (((w'.setCell ⟨w.heap.size + 1 + 1 + 1, 0, none⟩ u).setCell ⟨w.heap.size + 1 + 1 + 1, 1, none⟩ v).cell? ⟨w.heap.size, 0, none⟩ = some (.int .i64 N) ∧ ((w'.setCell ⟨w.heap.size + 1 + 1 + 1, 0, none⟩ u).setCell ⟨w.heap.size + 1 + 1 + 1, 1, none⟩ v).cell? ⟨w.heap.size, 1, none⟩ = some (.slice ao len cap) ∧ ((w'.setCell ⟨w.heap.size + 1 + 1 + 1, 0, none⟩ u).setCell ⟨w.heap.size + 1 + 1 + 1, 1, none⟩ v).cell? ⟨w.heap.size + 1, 0, none⟩ = some (.int .i64 i) ∧ ((w'.setCell ⟨w.heap.size + 1 + 1 + 1, 0, none⟩ u).setCell ⟨w.heap.size + 1 + 1 + 1, 1, none⟩ v).cell? ⟨w.heap.size + 1 + 1, 0, none⟩ = some (.int .i64 c)) from
    fun w' u v h => ⟨aside_two (kept h b0) (by show w.heap.size ≠ _; omega) u v, aside_two (kept h b1) (by show w.heap.size ≠ _; omega) u v, aside_two (kept h b2) (by show w.heap.size + 1 ≠ _; omega) u v, aside_two (kept h b3) (by show w.heap.size + 1 + 1 ≠ _; omega) u v⟩)
  have HRS := Lib.hid rs
  have BD := Lib.hid (show Below w0.heap.size w0 w0.drew from (Below.refl _ _).drew)
  clear hA b0 b1 b2 b3 rs
  cases k1
  · have HAL := Lib.hid (show false = (false && k2) from rfl)
    go_enter Try.func34, Try.ntmps34
    go_wp2_with fail
    rw [← hw0]
    clear hw0
    refine wp_region_held_drew (S := (fun w' => w'.cell? ⟨w.heap.size, 0, none⟩ = some (.int .i64 N) ∧ w'.cell? ⟨w.heap.size, 1, none⟩ = some (.slice ao len cap) ∧ w'.cell? ⟨w.heap.size + 1, 0, none⟩ = some (.int .i64 i) ∧ w'.cell? ⟨w.heap.size + 1 + 1, 0, none⟩ = some (.int .i64 c))) (by kernel_rfl) (KS.out _ BD.out) (fun h0 => ?_)
    refine wpAnyH_take (i := 0) (v := .agg #[.int .i64 N, .slice ao len cap]) rfl (by kernel_rfl) (by kernel_rfl) (by kernel_rfl) (fun _ _ _ h => h) (Or.inl ⟨by rfl, fun w' hS => by (obtain ⟨c0, c1, c2, c3⟩ := hS; go_simp)⟩) h0 ?_
    simp only [Act.put, List.getElem_toArray, List.getElem_cons_zero, List.setIfInBounds_toArray, List.set_cons_zero, List.set_cons_succ]
    refine wpAnyH_take (i := 1) (v := .agg #[.int .i64 N, .slice ao len cap]) rfl (by kernel_rfl) (by kernel_rfl) (by kernel_rfl) (fun _ _ _ h => h) (Or.inl ⟨by rfl, fun w' hS => by (obtain ⟨c0, c1, c2, c3⟩ := hS; go_simp)⟩) h0 ?_
    simp only [Act.put, List.getElem_toArray, List.getElem_cons_zero, List.getElem_cons_succ, List.setIfInBounds_toArray, List.set_cons_zero, List.set_cons_succ]
    refine wpAnyH_take (i := 2) (v := .int .i64 i) rfl (by kernel_rfl) (by kernel_rfl) (by kernel_rfl) (fun _ _ _ h => h) (Or.inl ⟨by rfl, fun w' hS => by (obtain ⟨c0, c1, c2, c3⟩ := hS; go_simp)⟩) h0 ?_
    simp only [Act.put, List.getElem_toArray, List.getElem_cons_zero, List.getElem_cons_succ, List.setIfInBounds_toArray, List.set_cons_zero, List.set_cons_succ]
    refine wpAnyH_take (i := 8) (v := .func (.func 90) #[] #[.pointer (some ⟨w.heap.size + 1 + 1, 0, none⟩), .pointer (some ⟨w.heap.size + 1, 0, none⟩)]) rfl (by kernel_rfl) (by kernel_rfl) (by kernel_rfl) (fun _ _ _ h => h) (Or.inl ⟨by rfl, fun w' hS => by go_simp⟩) h0 ?_
    simp only [Act.put, List.getElem_toArray, List.getElem_cons_zero, List.getElem_cons_succ, List.setIfInBounds_toArray, List.set_cons_zero, List.set_cons_succ]
    refine wpAnyH_ready (rs := [3]) (by kernel_rfl) (by simp) (AllReadyH.cons rfl (fun K hK => ?_) AllReadyH.nil)
    rw [if_pos (by rfl)]
    go_simp
    refine (CK.out _).mono ?_
    rintro e wa ⟨rfl, hba⟩
    have hb1 := below_on BD.out hba
    go_simp
    refine hK.out _ _ (KS.out _ hb1) (fun h1 => ?_)
    clear hK K h0
    refine wpAnyH_take (i := 4) (v := .bool false) rfl (by kernel_rfl) (by kernel_rfl) (by kernel_rfl) (fun _ _ _ h => h) (Or.inl ⟨by rfl, fun w' hS => by go_simp⟩) h1 ?_
    simp only [Act.put, List.getElem_toArray, List.getElem_cons_zero, List.getElem_cons_succ, List.setIfInBounds_toArray, List.set_cons_zero, List.set_cons_succ]
    refine wpAnyH_take (i := 5) (v := undef) rfl (by kernel_rfl) (by kernel_rfl) (by kernel_rfl) (fun _ _ _ h => h) (Or.inr ⟨by rfl, rfl⟩) h1 ?_
    simp only [Act.put, List.getElem_toArray, List.getElem_cons_zero, List.getElem_cons_succ, List.setIfInBounds_toArray, List.set_cons_zero, List.set_cons_succ]
    refine wpAnyH_take (i := 6) (v := undef) rfl (by kernel_rfl) (by kernel_rfl) (by kernel_rfl) (fun _ _ _ h => h) (Or.inr ⟨by rfl, rfl⟩) h1 ?_
    simp only [Act.put, List.getElem_toArray, List.getElem_cons_zero, List.getElem_cons_succ, List.setIfInBounds_toArray, List.set_cons_zero, List.set_cons_succ]
    refine wpAnyH_take (i := 7) (v := .bool false) rfl (by kernel_rfl) (by kernel_rfl) (by kernel_rfl) (fun _ _ _ h => h) (Or.inl ⟨by rfl, fun w' hS => by go_simp⟩) h1 ?_
    simp only [Act.put, List.getElem_toArray, List.getElem_cons_zero, List.getElem_cons_succ, List.setIfInBounds_toArray, List.set_cons_zero, List.set_cons_succ]
    refine wpAnyH_ready (rs := [9]) (by kernel_rfl) (by simp) (AllReadyH.cons rfl (fun K hK => ?_) AllReadyH.nil)
    rw [if_pos (by rfl)]
    go_simp
    refine (CH.out _ _ _ _ (below_on E0.out hb1) (KS.out _ hb1).2.2.2 (KS.out _ hb1).2.2.1 HAL.out).mono ?_
    intro e wb hz
    obtain ⟨hb4, hres⟩ := hz
    have hb2 := below_on hb1 hb4
    obtain ⟨q0, q1, q2, q3⟩ := (HRS.out.kept hb2).facts
    rcases hres with ⟨he, g, cc, rfl, hg, hO⟩ | ⟨he, rfl⟩
    · subst he
      go_simp
      refine hK.out _ _ (KS.out _ hb2) (fun h2 => ?_)
      clear hK K
      refine wpAnyH_take (i := 10) (v := .agg #[.int .i64 N, .slice (some ⟨g, 0, none⟩) r.length cc]) rfl (by kernel_rfl) (by kernel_rfl) (by kernel_rfl) (fun _ _ _ h => h) (Or.inl ⟨by rfl, fun w' hS => by go_simp⟩) h2 ?_
      simp only [Act.put, List.getElem_toArray, List.getElem_cons_zero, List.getElem_cons_succ, List.setIfInBounds_toArray, List.set_cons_zero, List.set_cons_succ]
      refine wpAnyH_take (i := 11) (v := .int .i64 0) rfl (by kernel_rfl) (by kernel_rfl) (by kernel_rfl) (fun _ _ _ h => h) (Or.inl ⟨by rfl, fun w' hS => by go_simp⟩) h2 ?_
      simp only [Act.put, List.getElem_toArray, List.getElem_cons_zero, List.getElem_cons_succ, List.setIfInBounds_toArray, List.set_cons_zero, List.set_cons_succ]
      refine wpAnyH_ready (rs := [12]) (by kernel_rfl) (by simp) (AllReadyH.cons rfl (fun K hK => ?_) AllReadyH.nil)
      rw [if_pos (by rfl)]
      go_simp
      refine hK.out _ _ (KP.out _ _ _ hb2) (fun h3 => ?_)
      clear hK K
      refine wpAnyH_take (i := 13) (v := .int .i64 0) rfl (by kernel_rfl) (by kernel_rfl) (by kernel_rfl) (fun _ _ _ h => h) (Or.inl ⟨by rfl, fun w' hS => by go_simp⟩) h3 ?_
      simp only [Act.put, List.getElem_toArray, List.getElem_cons_zero, List.getElem_cons_succ, List.setIfInBounds_toArray, List.set_cons_zero, List.set_cons_succ]
      refine wpAnyH_done (by kernel_rfl) ?_ _
      go_wp2_with fail
      refine bodyPost_ret (v := .tuple #[.agg #[.int .i64 N, .slice (some ⟨g, 0, none⟩) r.length cc], .int .i64 0]) (by simp [results, Try.results34, go_sem, q0, q1]) rfl (zres_over E0.out hb2 hO (Nat.le_trans hb1.size hg) (by omega) (by omega) _ _)
    · go_simp
      refine hK.out _ _ (KS.out _ hb2) (fun h2 => ?_)
      clear hK K
      refine wpAnyH_take (i := 10) (v := .agg #[.int .i64 0, .slice none 0 0]) rfl (by kernel_rfl) (by kernel_rfl) (by kernel_rfl) (fun _ _ _ h => h) (Or.inl ⟨by rfl, fun w' hS => by go_simp⟩) h2 ?_
      simp only [Act.put, List.getElem_toArray, List.getElem_cons_zero, List.getElem_cons_succ, List.setIfInBounds_toArray, List.set_cons_zero, List.set_cons_succ]
      refine wpAnyH_take (i := 11) (v := .int .i64 er) rfl (by kernel_rfl) (by kernel_rfl) (by kernel_rfl) (fun _ _ _ h => h) (Or.inl ⟨by rfl, fun w' hS => by go_simp⟩) h2 ?_
      simp only [Act.put, List.getElem_toArray, List.getElem_cons_zero, List.getElem_cons_succ, List.setIfInBounds_toArray, List.set_cons_zero, List.set_cons_succ]
      refine wpAnyH_ready (rs := [12]) (by kernel_rfl) (by simp) (AllReadyH.cons rfl (fun K hK => ?_) AllReadyH.nil)
      rw [if_pos (by rfl)]
      go_simp
      refine hK.out _ _ (KP.out _ _ _ hb2) (fun h3 => ?_)
      clear hK K
      refine wpAnyH_take (i := 13) (v := .int .i64 er) rfl (by kernel_rfl) (by kernel_rfl) (by kernel_rfl) (fun _ _ _ h => h) (Or.inl ⟨by rfl, fun w' hS => by go_simp⟩) h3 ?_
      simp only [Act.put, List.getElem_toArray, List.getElem_cons_zero, List.getElem_cons_succ, List.setIfInBounds_toArray, List.set_cons_zero, List.set_cons_succ]
      refine wpAnyH_done (by kernel_rfl) ?_ _
      go_wp2_with fail
      refine bodyPost_ret (v := .tuple #[.agg #[.int .i64 0, .slice none 0 0], .int .i64 er]) (by simp [results, Try.results34, go_sem, q0, q1]) rfl (zres_over0 E0.out hb2 he (by omega) _ _)
  · have HAL := Lib.hid (show k2 = (true && k2) from rfl)
    go_enter Try.func34, Try.ntmps34
    go_wp2_with fail
    rw [← hw0]
    clear hw0
    by_cases he : er = 0
    · subst he
      go_region_held3 (fun w' => w'.cell? ⟨w.heap.size, 0, none⟩ = some (.int .i64 N) ∧ w'.cell? ⟨w.heap.size, 1, none⟩ = some (.slice ao len cap) ∧ w'.cell? ⟨w.heap.size + 1, 0, none⟩ = some (.int .i64 i) ∧ w'.cell? ⟨w.heap.size + 1 + 1, 0, none⟩ = some (.int .i64 c)) (first | exact KS.out _ BD.out | exact KS.out _ (by assumption) | exact KP.out _ _ _ (by assumption))
        (first | (go_at_call 74; refine (CK.out _).mono ?_; rintro e wa ⟨rfl, hba⟩; have hb0 := below_on BD.out hba) | (go_at_call 83; refine (C2.out _).mono ?_; rintro e wc ⟨rfl, hw⟩; rw [hw]; have hb1 := hb0) | (go_at_call 76; refine (CH.out _ _ _ _ (below_on E0.out hb1) (KS.out _ hb1).2.2.2 (KS.out _ hb1).2.2.1 HAL.out).mono ?_; intro e wb hz; obtain ⟨g, cc, rfl, hg, hO⟩ := hz.ok rfl; have hb2 := below_on hb1 hz.1; obtain ⟨q0, q1, q2, q3⟩ := (HRS.out.kept hb2).facts))
      all_goals
        go_wp2_with fail
        refine bodyPost_ret (v := .tuple #[.agg #[.int .i64 N, .slice (some ⟨g, 0, none⟩) r.length cc], .int .i64 0]) (by simp [results, Try.results34, go_sem, q0, q1]) rfl (zres_over E0.out hb2 hO.1 (Nat.le_trans hb1.size hg) (by omega) (by omega) _ _)
    · go_region_held3 (fun w' => w'.cell? ⟨w.heap.size, 0, none⟩ = some (.int .i64 N) ∧ w'.cell? ⟨w.heap.size, 1, none⟩ = some (.slice ao len cap) ∧ w'.cell? ⟨w.heap.size + 1, 0, none⟩ = some (.int .i64 i) ∧ w'.cell? ⟨w.heap.size + 1 + 1, 0, none⟩ = some (.int .i64 c)) (first | exact KS.out _ BD.out | exact KS.out _ (by assumption) | exact KP.out _ _ _ (by assumption))
        (first | (go_at_call 74; refine (CK.out _).mono ?_; rintro e wa ⟨rfl, hba⟩; have hb0 := below_on BD.out hba) | (go_at_call 83; refine (C2.out _).mono ?_; rintro e wc ⟨rfl, hw⟩; rw [hw]; have hb1 := hb0) | (go_at_call 76; refine (CH.out _ _ _ _ (below_on E0.out hb1) (KS.out _ hb1).2.2.2 (KS.out _ hb1).2.2.1 HAL.out).mono ?_; intro e wb hz; obtain ⟨rfl, hzb⟩ := hz.no he; have hb2 := below_on hb1 hzb; obtain ⟨q0, q1, q2, q3⟩ := (HRS.out.kept hb2).facts))
      all_goals
        go_wp2_with fail
        refine bodyPost_ret (v := .tuple #[.agg #[.int .i64 0, .slice none 0 0], .int .i64 er]) (by simp [results, Try.results34, go_sem, q0, q1]) rfl (zres_over0 E0.out hb2 he (by omega) _ _)
end Go.Proofs.Ytbnebinpemejlaa

namespace Go.Proofs.Ytbnebinpemejlaa
open Go.RowKit

set_option maxRecDepth 100000 in
set_option maxHeartbeats 2000000 in
theorem steps_long (N : Int) (ao : Option Addr) (len cap : Nat) (i j c : Int) (dao : Option Addr) (dl dc : Nat) (w : World) (h : 200 < len ∨ 100 < dl) :
    Calls Try.prog 4 #[.agg #[.int .i64 N, .slice ao len cap, .int .i64 i, .int .i64 j, .int .i64 c, .slice dao dl dc]] w (Made (.bool true) w) := by
  have SH := Lib.hid (fun W => shown3_any W)
  have Q0 := Lib.hid (one_more (w1 := w) (.cells #[.int .i64 N, .slice ao len cap, .int .i64 i, .int .i64 j, .int .i64 c, .slice dao dl dc] 37))
  by_cases h1 : 200 < len
  · have D : decide ((200 : Int) < (len : Int)) = true := by simp; omega
    go_enter Try.func4, Try.ntmps4
    go_wp2_with fail
    refine (SH.out _).mono ?_
    rintro e w8 ⟨rfl, hb8⟩
    have B8 := Lib.hid (below_on Q0.out hb8)
    clear hb8
    go_wp2_with fail
    go_ret
    exact ⟨rfl, B8.out⟩
  · have D : decide ((200 : Int) < (len : Int)) = false := by simp; omega
    have D1 : decide ((100 : Int) < (dl : Int)) = true := by simp; omega
    go_enter Try.func4, Try.ntmps4
    go_wp2_with fail
    refine (SH.out _).mono ?_
    rintro e w8 ⟨rfl, hb8⟩
    have B8 := Lib.hid (below_on Q0.out hb8)
    clear hb8
    go_wp2_with fail
    go_ret
    exact ⟨rfl, B8.out⟩

set_option maxRecDepth 100000 in
set_option maxHeartbeats 4000000 in
theorem steps_short (N : Int) (l : List Int) (ao : Option Addr) (cap : Nat) (i j c : Int) (cs : List Con) (dao : Option Addr) (dc : Nat) (w : World) (hA0 : Arg w ao l) (hn : ao = none → l = [] ∧ cap = 0) (h1 : l.length ≤ 200) (hD : Arg3 w dao cs) (h2 : cs.length ≤ 100) :
    Calls Try.prog 4 #[.agg #[.int .i64 N, .slice ao l.length cap, .int .i64 i, .int .i64 j, .int .i64 c, .slice dao cs.length dc]] w (Made (.bool true) w) := by
  have SH := Lib.hid (fun W => shown3_any W)
  have LE := Lib.hid (fun W (hb : Below w.heap.size w W) => lent_gen N l ao cap W h1 (hA0.on hb) hn)
  have ANZ := Lib.hid (fun W a d (h : Arg W a l) (hb : Below w.heap.size w W) => (zan_gen N l a d cs dao dc W h (hD.on hb) (by omega)).mono fun e w' h => h.zv2)
  have ANR := Lib.hid (fun W (hb : Below w.heap.size w W) => (an_gen N l ao cap cs dao dc W (hA0.on hb) (hD.on hb) (by omega)).mono fun e w' h => h.zv2)
  have UPZ := Lib.hid (fun W a d (h : Arg W a l) (_ : Below w.heap.size w W) => (zup_gen N l a d W h).mono fun e w' h => h.zv2)
  have UPR := Lib.hid (fun W (hb : Below w.heap.size w W) => (up_gen N l ao cap W (hA0.on hb)).mono fun e w' h => h.zv2)
  have DNZ := Lib.hid (fun W a d (h : Arg W a l) (_ : Below w.heap.size w W) => (zdn_gen N l a d W h).mono fun e w' h => h.zv2)
  have DNR := Lib.hid (fun W (hb : Below w.heap.size w W) => (dn_gen N l ao cap W (hA0.on hb)).mono fun e w' h => h.zv2)
  have REZ := Lib.hid (fun W a d (h : Arg W a l) (_ : Below w.heap.size w W) => (zre_gen N l a d i c W h).mono fun e w' h => h.zv2)
  have RER := Lib.hid (fun W (hb : Below w.heap.size w W) => (re_gen N l ao cap i c W (hA0.on hb)).mono fun e w' h => h.zv2)
  have FRZ := Lib.hid (fun W a d (h : Arg W a l) (_ : Below w.heap.size w W) => (zfr_gen N l a d i W h).mono fun e w' h => h.zv2)
  have FRR := Lib.hid (fun W (hb : Below w.heap.size w W) => (fr_gen N l ao cap i W (hA0.on hb)).mono fun e w' h => h.zv2)
  have BEZ := Lib.hid (fun W a d (h : Arg W a l) (_ : Below w.heap.size w W) => (zbe_gen N l a d i c W h).mono fun e w' h => h.zv2)
  have BER := Lib.hid (fun W (hb : Below w.heap.size w W) => (be_gen N l ao cap i c W (hA0.on hb)).mono fun e w' h => h.zv2)
  have CYZ := Lib.hid (fun W a d (h : Arg W a l) (_ : Below w.heap.size w W) => (zcy_gen N l a d i j W h).mono fun e w' h => h.zv2)
  have CYR := Lib.hid (fun W (hb : Below w.heap.size w W) => (cy_gen N l ao cap i j W (hA0.on hb)).mono fun e w' h => h.zv2)
  have KP := Lib.hid (fun W g (hO : Own W g (l.length + 1) (l ++ [77])) (h : Below w.heap.size w W) => kept_yes N N l l g ao cap W hO (hA0.on h) h1 (by simp [smB]))
  have SM := Lib.hid (fun W M m ao bo ca cb e hA hB hm => lsame_refl M m ao bo ca cb e W hA hB hm)
  have PF := Lib.hid (show ∀ W, Bx W w.heap.size #[.int .i64 N, .slice ao l.length cap, .int .i64 i, .int .i64 j, .int .i64 c, .slice dao cs.length dc] → (W.cell? ⟨w.heap.size, 0, none⟩ = some (.int .i64 N) ∧ W.cell? ⟨w.heap.size, 1, none⟩ = some (.slice ao l.length cap) ∧ W.cell? ⟨w.heap.size, 2, none⟩ = some (.int .i64 i) ∧ W.cell? ⟨w.heap.size, 3, none⟩ = some (.int .i64 j) ∧ W.cell? ⟨w.heap.size, 4, none⟩ = some (.int .i64 c) ∧ W.cell? ⟨w.heap.size, 5, none⟩ = some (.slice dao cs.length dc)) from fun W h => ⟨h.cell 0, h.cell 1, h.cell 2, h.cell 3, h.cell 4, h.cell 5⟩)
  have D : decide ((200 : Int) < (l.length : Int)) = false := by simp; omega
  have D1 : decide ((100 : Int) < (cs.length : Int)) = false := by simp; omega
  generalize zrN (anG N cs l) N = M1 at *
  generalize zrL (anG N cs l) (Zo.clo N.toNat (anL N.toNat cs l)) = m1 at *
  generalize anG N cs l = e1 at *
  generalize zrN (upE N l) N = M2 at *
  generalize zrL (upE N l) (Zo.clo N.toNat (upL N.toNat l)) = m2 at *
  generalize upE N l = e2 at *
  generalize zrN (dnE N l) N = M3 at *
  generalize zrL (dnE N l) (Zo.clo N.toNat (dnL N.toNat l)) = m3 at *
  generalize dnE N l = e3 at *
  generalize zrN (reG N l i c) N = M4 at *
  generalize zrL (reG N l i c) (reL N.toNat i.toNat c l) = m4 at *
  generalize reG N l i c = e4 at *
  generalize zrN (frE N l i) N = M5 at *
  generalize zrL (frE N l i) (Zo.clo N.toNat (frL N.toNat i.toNat l)) = m5 at *
  generalize frE N l i = e5 at *
  generalize zrN (beG N l i c) N = M6 at *
  generalize zrL (beG N l i c) (beL N.toNat i.toNat c l) = m6 at *
  generalize beG N l i c = e6 at *
  generalize zrN (cyG N l i j) N = M7 at *
  generalize zrL (cyG N l i j) (cyM N.toNat i.toNat j.toNat l) = m7 at *
  generalize cyG N l i j = e7 at *
  unfold ZV2 at ANZ ANR UPZ UPR DNZ DNR REZ RER FRZ FRR BEZ BER CYZ CYR
  have HL := Lib.hid (show (l ++ [77]).length = l.length + 1 by simp)
  have HL2 := Lib.hid h1
  clear hA0 hn hD h1 h2
  obtain ⟨w0, hw0⟩ : ∃ w0, w0 = w.alloc (.cells #[.int .i64 N, .slice ao l.length cap, .int .i64 i, .int .i64 j, .int .i64 c, .slice dao cs.length dc] 37) := ⟨_, rfl⟩
  have PX := Lib.hid (show Bx w0 w.heap.size #[.int .i64 N, .slice ao l.length cap, .int .i64 i, .int .i64 j, .int .i64 c, .slice dao cs.length dc] by rw [hw0]; exact Bx.made _ _ _)
  have Q0 := Lib.hid (show Below w.heap.size w w0 by rw [hw0]; exact one_more _)
  have Z0 := Lib.hid (show w0.heap.size = w.heap.size + 1 by rw [hw0]; simp)
  go_enter Try.func4, Try.ntmps4
  go_upto_region 1 with (fail)
  rw [← hw0]
  clear hw0
  obtain ⟨p0, p1, p2, p3, p4, p5⟩ := PF.out _ PX.out
  go_wp2_with fail
  refine (LE.out _ Q0.out).mono ?_
  rintro e w1 ⟨g, rfl, hg, hO, hb⟩
  obtain ⟨v1, hv⟩ : ∃ v1, v1 = w1.alloc (.cells #[.int .i64 N, .slice (some ⟨g, 0, none⟩) l.length (l.length + 1)] 25) := ⟨_, rfl⟩
  have OX := Lib.hid (show Two v1 w1.heap.size (.int .i64 N) (.slice (some ⟨g, 0, none⟩) l.length (l.length + 1)) by rw [hv]; exact Two.made _ _ _ _)
  have OW := Lib.hid (show Own v1 g (l.length + 1) (l ++ [77]) by rw [hv]; exact hO.alloc _)
  have HG := Lib.hid (show w.heap.size < g ∧ g < w1.heap.size ∧ v1.heap.size = w1.heap.size + 1 by
    have := Z0.out
    exact ⟨by omega, hO.lt, by rw [hv]; simp⟩)
  have PX := Lib.hid (show Bx v1 w.heap.size #[.int .i64 N, .slice ao l.length cap, .int .i64 i, .int .i64 j, .int .i64 c, .slice dao cs.length dc] by rw [hv]; exact PX.out.kept (hb.alloc hb.size _))
  have Q0 := Lib.hid (show Below w.heap.size w v1 by rw [hv]; exact below_on Q0.out (hb.alloc hb.size _))
  clear hg hO hb LE p0 p1 p2 p3 p4 p5
  go_upto_region 4 with (fail)
  rw [← hv]
  clear hv
  obtain ⟨p0, p1, p2, p3, p4, p5⟩ := PF.out _ PX.out
  obtain ⟨o0, o1, o2, o3⟩ := OX.out.facts
  go_wp2_with fail
  refine (ANZ.out _ _ _ (own_front' OW.out) Q0.out).mono ?_
  rintro e w2 ⟨ao2, ck2, rfl, hA, hm, _, hb⟩
  have L2 := Lib.hid hm
  obtain ⟨v2, hv⟩ : ∃ v2, v2 = w2.alloc (.cells #[.int .i64 M1, .slice ao2 m1.length ck2] 25) := ⟨_, rfl⟩
  have X2 := Lib.hid (show Two v2 w2.heap.size (.int .i64 M1) (.slice ao2 m1.length ck2) by rw [hv]; exact Two.made _ _ _ _)
  have A2 := Lib.hid (show Arg v2 ao2 m1 by rw [hv]; exact hA.on (one_more _))
  have B2 := Lib.hid (show Below v1.heap.size v1 v2 by rw [hv]; exact hb.alloc hb.size _)
  have Y2 := Lib.hid (show v1.heap.size ≤ w2.heap.size ∧ v2.heap.size = w2.heap.size + 1 by rw [hv]; exact ⟨hb.size, by simp⟩)
  clear hA hm hb
  go_upto_region 5 with (fail)
  rw [← hv]
  clear hv
  clear p0 p1 p2 p3 p4 p5 o0 o1 o2 o3
  have Q0 := Lib.hid (show Below w.heap.size w v2 from below_on Q0.out B2.out)
  have PX := Lib.hid (show Bx v2 w.heap.size #[.int .i64 N, .slice ao l.length cap, .int .i64 i, .int .i64 j, .int .i64 c, .slice dao cs.length dc] from PX.out.kept B2.out)
  have OX := Lib.hid (show Two v2 w1.heap.size (.int .i64 N) (.slice (some ⟨g, 0, none⟩) l.length (l.length + 1)) from OX.out.kept B2.out)
  have OW := Lib.hid (show Own v2 g (l.length + 1) (l ++ [77]) from own_below OW.out B2.out)
  obtain ⟨p0, p1, p2, p3, p4, p5⟩ := PF.out _ PX.out
  obtain ⟨o0, o1, o2, o3⟩ := OX.out.facts
  go_wp2_with fail
  refine (ANR.out _ Q0.out).mono ?_
  rintro e w3 ⟨ao3, ck3, rfl, hA, hm, _, hb⟩
  have L3 := Lib.hid hm
  obtain ⟨v3, hv⟩ : ∃ v3, v3 = w3.alloc (.cells #[.int .i64 M1, .slice ao3 m1.length ck3] 25) := ⟨_, rfl⟩
  have X3 := Lib.hid (show Two v3 w3.heap.size (.int .i64 M1) (.slice ao3 m1.length ck3) by rw [hv]; exact Two.made _ _ _ _)
  have A3 := Lib.hid (show Arg v3 ao3 m1 by rw [hv]; exact hA.on (one_more _))
  have B3 := Lib.hid (show Below v2.heap.size v2 v3 by rw [hv]; exact hb.alloc hb.size _)
  have Y3 := Lib.hid (show v2.heap.size ≤ w3.heap.size ∧ v3.heap.size = w3.heap.size + 1 by rw [hv]; exact ⟨hb.size, by simp⟩)
  clear hA hm hb
  go_upto_region 6 with (fail)
  rw [← hv]
  clear hv
  clear p0 p1 p2 p3 p4 p5 o0 o1 o2 o3
  have Q0 := Lib.hid (show Below w.heap.size w v3 from below_on Q0.out B3.out)
  have PX := Lib.hid (show Bx v3 w.heap.size #[.int .i64 N, .slice ao l.length cap, .int .i64 i, .int .i64 j, .int .i64 c, .slice dao cs.length dc] from PX.out.kept B3.out)
  have OX := Lib.hid (show Two v3 w1.heap.size (.int .i64 N) (.slice (some ⟨g, 0, none⟩) l.length (l.length + 1)) from OX.out.kept B3.out)
  have OW := Lib.hid (show Own v3 g (l.length + 1) (l ++ [77]) from own_below OW.out B3.out)
  have T1 := Lib.hid (X2.out.kept B3.out)
  have T2 := X3
  have HB := Lib.hid (show w.heap.size ≤ w2.heap.size ∧ w.heap.size ≤ w3.heap.size ∧ w2.heap.size ≠ w3.heap.size by
    have := HG.out; have := Y2.out; have := Y3.out; omega)
  have HN := Lib.hid (show w2.heap.size ≠ w.heap.size ∧ w3.heap.size ≠ w.heap.size ∧ w2.heap.size ≠ w1.heap.size ∧ w3.heap.size ≠ w1.heap.size ∧ w2.heap.size ≠ g ∧ w3.heap.size ≠ g by
    have := HG.out; have := Y2.out; have := Y3.out; omega)
  obtain ⟨b0, b1, b2, b3⟩ := T1.out.facts
  obtain ⟨c0, c1, c2, c3⟩ := T2.out.facts
  go_wp2_with fail
  refine (SM.out _ _ _ _ _ _ _ _ (A2.out.on B3.out) A3.out L3.out).mono ?_
  rintro e w4 ⟨rfl, hb⟩
  have T1 := Lib.hid (T1.out.kept hb)
  have T2 := Lib.hid (T2.out.kept hb)
  have Q0 := Lib.hid (show Below w.heap.size w w4 from below_on Q0.out hb)
  have PX := Lib.hid (show Bx w4 w.heap.size #[.int .i64 N, .slice ao l.length cap, .int .i64 i, .int .i64 j, .int .i64 c, .slice dao cs.length dc] from PX.out.kept hb)
  have OX := Lib.hid (show Two w4 w1.heap.size (.int .i64 N) (.slice (some ⟨g, 0, none⟩) l.length (l.length + 1)) from OX.out.kept hb)
  have OW := Lib.hid (show Own w4 g (l.length + 1) (l ++ [77]) from own_below OW.out hb)
  clear hb b0 b1 b2 b3 c0 c1 c2 c3 A2 A3 X2 X3 B2 B3 L2 L3 ANZ ANR
  obtain ⟨p0, p1, p2, p3, p4, p5⟩ := PF.out _ PX.out
  obtain ⟨o0, o1, o2, o3⟩ := OX.out.facts
  go_wp2_with fail
  clear p0 p1 p2 p3 p4 p5 o0 o1 o2 o3
  refine (UPZ.out _ _ _ (own_front' OW.out) Q0.out).mono ?_
  rintro e w12a ⟨ao12a, ck12a, rfl, hA, hm, hf, hb⟩
  have XX := T1.out.kept hb
  obtain ⟨d0, d1, d2, d3⟩ := XX.facts
  have hne := fun a e => Nat.lt_of_lt_of_le T1.out.lt (hf a e).1
  have F12a := Lib.hid (fun a e => Nat.lt_of_lt_of_le T2.out.lt (hf a e).1)
  have L12a := Lib.hid hm
  obtain ⟨v12a, hv⟩ : ∃ v, v = (w12a.setCell ⟨w2.heap.size, 0, none⟩ (.int .i64 M2)).setCell ⟨w2.heap.size, 1, none⟩ (.slice ao12a m2.length ck12a) := ⟨_, rfl⟩
  have T1 := Lib.hid (show Two v12a w2.heap.size (.int .i64 M2) (.slice ao12a m2.length ck12a) by rw [hv]; exact XX.put _ _)
  have A12a := Lib.hid (show Arg v12a ao12a m2 by rw [hv]; exact arg_far' hA (fun a e => by have := hne a e; omega) _ _)
  have Q0 := Lib.hid (show Below w.heap.size w v12a by rw [hv]; exact far_below (below_on Q0.out hb) (HB.out.1) _ _)
  have PX := Lib.hid (show Bx v12a w.heap.size #[.int .i64 N, .slice ao l.length cap, .int .i64 i, .int .i64 j, .int .i64 c, .slice dao cs.length dc] by rw [hv]; exact (PX.out.kept hb).aside (HN.out.1) _ _)
  have OX := Lib.hid (show Two v12a w1.heap.size (.int .i64 N) (.slice (some ⟨g, 0, none⟩) l.length (l.length + 1)) by rw [hv]; exact (OX.out.kept hb).aside (HN.out.2.2.1) _ _)
  have OW := Lib.hid (show Own v12a g (l.length + 1) (l ++ [77]) by rw [hv]; exact own_aside (own_below OW.out hb) (HN.out.2.2.2.2.1) _ _)
  have T2 := Lib.hid (show Two v12a w3.heap.size _ _ by rw [hv]; exact (T2.out.kept hb).aside HB.out.2.2 _ _)
  clear hA hm hf hne XX
  clear hb
  go_upto_region 9 with (fail)
  rw [← hv]
  clear hv d0 d1 d2 d3
  obtain ⟨p0, p1, p2, p3, p4, p5⟩ := PF.out _ PX.out
  obtain ⟨o0, o1, o2, o3⟩ := OX.out.facts
  go_wp2_with fail
  clear p0 p1 p2 p3 p4 p5 o0 o1 o2 o3
  refine (UPR.out _ Q0.out).mono ?_
  rintro e w12b ⟨ao12b, ck12b, rfl, hA, hm, hf, hb⟩
  have XX := T2.out.kept hb
  obtain ⟨d0, d1, d2, d3⟩ := XX.facts
  have hne := fun a e => Nat.lt_of_lt_of_le T2.out.lt (hf a e).1
  have F12b := Lib.hid (fun a e => Nat.lt_of_lt_of_le T2.out.lt (hf a e).1)
  have L12b := Lib.hid hm
  obtain ⟨v12b, hv⟩ : ∃ v, v = (w12b.setCell ⟨w3.heap.size, 0, none⟩ (.int .i64 M2)).setCell ⟨w3.heap.size, 1, none⟩ (.slice ao12b m2.length ck12b) := ⟨_, rfl⟩
  have T2 := Lib.hid (show Two v12b w3.heap.size (.int .i64 M2) (.slice ao12b m2.length ck12b) by rw [hv]; exact XX.put _ _)
  have A12b := Lib.hid (show Arg v12b ao12b m2 by rw [hv]; exact arg_far' hA (fun a e => by have := hne a e; omega) _ _)
  have Q0 := Lib.hid (show Below w.heap.size w v12b by rw [hv]; exact far_below (below_on Q0.out hb) (HB.out.2.1) _ _)
  have PX := Lib.hid (show Bx v12b w.heap.size #[.int .i64 N, .slice ao l.length cap, .int .i64 i, .int .i64 j, .int .i64 c, .slice dao cs.length dc] by rw [hv]; exact (PX.out.kept hb).aside (HN.out.2.1) _ _)
  have OX := Lib.hid (show Two v12b w1.heap.size (.int .i64 N) (.slice (some ⟨g, 0, none⟩) l.length (l.length + 1)) by rw [hv]; exact (OX.out.kept hb).aside (HN.out.2.2.2.1) _ _)
  have OW := Lib.hid (show Own v12b g (l.length + 1) (l ++ [77]) by rw [hv]; exact own_aside (own_below OW.out hb) (HN.out.2.2.2.2.2) _ _)
  have T1 := Lib.hid (show Two v12b w2.heap.size (.int .i64 M2) (.slice ao12a m2.length ck12a) by rw [hv]; exact (T1.out.kept hb).aside HB.out.2.2.symm _ _)
  have A12a := Lib.hid (show Arg v12b ao12a m2 by rw [hv]; exact arg_far' (A12a.out.on hb) (fun a e => by have := F12a.out a e; omega) _ _)
  clear hA hm hf hne XX
  clear hb
  go_upto_region 10 with (fail)
  rw [← hv]
  clear hv d0 d1 d2 d3
  obtain ⟨b0, b1, b2, b3⟩ := T1.out.facts
  obtain ⟨c0, c1, c2, c3⟩ := T2.out.facts
  go_wp2_with fail
  refine (SM.out _ _ _ _ _ _ _ _ A12a.out A12b.out L12b.out).mono ?_
  rintro e w12c ⟨rfl, hb⟩
  have T1 := Lib.hid (T1.out.kept hb)
  have T2 := Lib.hid (T2.out.kept hb)
  have Q0 := Lib.hid (show Below w.heap.size w w12c from below_on Q0.out hb)
  have PX := Lib.hid (show Bx w12c w.heap.size #[.int .i64 N, .slice ao l.length cap, .int .i64 i, .int .i64 j, .int .i64 c, .slice dao cs.length dc] from PX.out.kept hb)
  have OX := Lib.hid (show Two w12c w1.heap.size (.int .i64 N) (.slice (some ⟨g, 0, none⟩) l.length (l.length + 1)) from OX.out.kept hb)
  have OW := Lib.hid (show Own w12c g (l.length + 1) (l ++ [77]) from own_below OW.out hb)
  clear hb b0 b1 b2 b3 c0 c1 c2 c3 A12a A12b F12a F12b L12a L12b
  clear UPZ UPR
  obtain ⟨p0, p1, p2, p3, p4, p5⟩ := PF.out _ PX.out
  obtain ⟨o0, o1, o2, o3⟩ := OX.out.facts
  go_wp2_with fail
  clear p0 p1 p2 p3 p4 p5 o0 o1 o2 o3
  refine (DNZ.out _ _ _ (own_front' OW.out) Q0.out).mono ?_
  rintro e w13a ⟨ao13a, ck13a, rfl, hA, hm, hf, hb⟩
  have XX := T1.out.kept hb
  obtain ⟨d0, d1, d2, d3⟩ := XX.facts
  have hne := fun a e => Nat.lt_of_lt_of_le T1.out.lt (hf a e).1
  have F13a := Lib.hid (fun a e => Nat.lt_of_lt_of_le T2.out.lt (hf a e).1)
  have L13a := Lib.hid hm
  obtain ⟨v13a, hv⟩ : ∃ v, v = (w13a.setCell ⟨w2.heap.size, 0, none⟩ (.int .i64 M3)).setCell ⟨w2.heap.size, 1, none⟩ (.slice ao13a m3.length ck13a) := ⟨_, rfl⟩
  have T1 := Lib.hid (show Two v13a w2.heap.size (.int .i64 M3) (.slice ao13a m3.length ck13a) by rw [hv]; exact XX.put _ _)
  have A13a := Lib.hid (show Arg v13a ao13a m3 by rw [hv]; exact arg_far' hA (fun a e => by have := hne a e; omega) _ _)
  have Q0 := Lib.hid (show Below w.heap.size w v13a by rw [hv]; exact far_below (below_on Q0.out hb) (HB.out.1) _ _)
  have PX := Lib.hid (show Bx v13a w.heap.size #[.int .i64 N, .slice ao l.length cap, .int .i64 i, .int .i64 j, .int .i64 c, .slice dao cs.length dc] by rw [hv]; exact (PX.out.kept hb).aside (HN.out.1) _ _)
  have OX := Lib.hid (show Two v13a w1.heap.size (.int .i64 N) (.slice (some ⟨g, 0, none⟩) l.length (l.length + 1)) by rw [hv]; exact (OX.out.kept hb).aside (HN.out.2.2.1) _ _)
  have OW := Lib.hid (show Own v13a g (l.length + 1) (l ++ [77]) by rw [hv]; exact own_aside (own_below OW.out hb) (HN.out.2.2.2.2.1) _ _)
  have T2 := Lib.hid (show Two v13a w3.heap.size _ _ by rw [hv]; exact (T2.out.kept hb).aside HB.out.2.2 _ _)
  clear hA hm hf hne XX
  clear hb
  go_upto_region 13 with (fail)
  rw [← hv]
  clear hv d0 d1 d2 d3
  obtain ⟨p0, p1, p2, p3, p4, p5⟩ := PF.out _ PX.out
  obtain ⟨o0, o1, o2, o3⟩ := OX.out.facts
  go_wp2_with fail
  clear p0 p1 p2 p3 p4 p5 o0 o1 o2 o3
  refine (DNR.out _ Q0.out).mono ?_
  rintro e w13b ⟨ao13b, ck13b, rfl, hA, hm, hf, hb⟩
  have XX := T2.out.kept hb
  obtain ⟨d0, d1, d2, d3⟩ := XX.facts
  have hne := fun a e => Nat.lt_of_lt_of_le T2.out.lt (hf a e).1
  have F13b := Lib.hid (fun a e => Nat.lt_of_lt_of_le T2.out.lt (hf a e).1)
  have L13b := Lib.hid hm
  obtain ⟨v13b, hv⟩ : ∃ v, v = (w13b.setCell ⟨w3.heap.size, 0, none⟩ (.int .i64 M3)).setCell ⟨w3.heap.size, 1, none⟩ (.slice ao13b m3.length ck13b) := ⟨_, rfl⟩
  have T2 := Lib.hid (show Two v13b w3.heap.size (.int .i64 M3) (.slice ao13b m3.length ck13b) by rw [hv]; exact XX.put _ _)
  have A13b := Lib.hid (show Arg v13b ao13b m3 by rw [hv]; exact arg_far' hA (fun a e => by have := hne a e; omega) _ _)
  have Q0 := Lib.hid (show Below w.heap.size w v13b by rw [hv]; exact far_below (below_on Q0.out hb) (HB.out.2.1) _ _)
  have PX := Lib.hid (show Bx v13b w.heap.size #[.int .i64 N, .slice ao l.length cap, .int .i64 i, .int .i64 j, .int .i64 c, .slice dao cs.length dc] by rw [hv]; exact (PX.out.kept hb).aside (HN.out.2.1) _ _)
  have OX := Lib.hid (show Two v13b w1.heap.size (.int .i64 N) (.slice (some ⟨g, 0, none⟩) l.length (l.length + 1)) by rw [hv]; exact (OX.out.kept hb).aside (HN.out.2.2.2.1) _ _)
  have OW := Lib.hid (show Own v13b g (l.length + 1) (l ++ [77]) by rw [hv]; exact own_aside (own_below OW.out hb) (HN.out.2.2.2.2.2) _ _)
  have T1 := Lib.hid (show Two v13b w2.heap.size (.int .i64 M3) (.slice ao13a m3.length ck13a) by rw [hv]; exact (T1.out.kept hb).aside HB.out.2.2.symm _ _)
  have A13a := Lib.hid (show Arg v13b ao13a m3 by rw [hv]; exact arg_far' (A13a.out.on hb) (fun a e => by have := F13a.out a e; omega) _ _)
  clear hA hm hf hne XX
  clear hb
  go_upto_region 14 with (fail)
  rw [← hv]
  clear hv d0 d1 d2 d3
  obtain ⟨b0, b1, b2, b3⟩ := T1.out.facts
  obtain ⟨c0, c1, c2, c3⟩ := T2.out.facts
  go_wp2_with fail
  refine (SM.out _ _ _ _ _ _ _ _ A13a.out A13b.out L13b.out).mono ?_
  rintro e w13c ⟨rfl, hb⟩
  have T1 := Lib.hid (T1.out.kept hb)
  have T2 := Lib.hid (T2.out.kept hb)
  have Q0 := Lib.hid (show Below w.heap.size w w13c from below_on Q0.out hb)
  have PX := Lib.hid (show Bx w13c w.heap.size #[.int .i64 N, .slice ao l.length cap, .int .i64 i, .int .i64 j, .int .i64 c, .slice dao cs.length dc] from PX.out.kept hb)
  have OX := Lib.hid (show Two w13c w1.heap.size (.int .i64 N) (.slice (some ⟨g, 0, none⟩) l.length (l.length + 1)) from OX.out.kept hb)
  have OW := Lib.hid (show Own w13c g (l.length + 1) (l ++ [77]) from own_below OW.out hb)
  clear hb b0 b1 b2 b3 c0 c1 c2 c3 A13a A13b F13a F13b L13a L13b
  clear DNZ DNR
  obtain ⟨p0, p1, p2, p3, p4, p5⟩ := PF.out _ PX.out
  obtain ⟨o0, o1, o2, o3⟩ := OX.out.facts
  go_wp2_with fail
  clear p0 p1 p2 p3 p4 p5 o0 o1 o2 o3
  refine (REZ.out _ _ _ (own_front' OW.out) Q0.out).mono ?_
  rintro e w14a ⟨ao14a, ck14a, rfl, hA, hm, hf, hb⟩
  have XX := T1.out.kept hb
  obtain ⟨d0, d1, d2, d3⟩ := XX.facts
  have hne := fun a e => Nat.lt_of_lt_of_le T1.out.lt (hf a e).1
  have F14a := Lib.hid (fun a e => Nat.lt_of_lt_of_le T2.out.lt (hf a e).1)
  have L14a := Lib.hid hm
  obtain ⟨v14a, hv⟩ : ∃ v, v = (w14a.setCell ⟨w2.heap.size, 0, none⟩ (.int .i64 M4)).setCell ⟨w2.heap.size, 1, none⟩ (.slice ao14a m4.length ck14a) := ⟨_, rfl⟩
  have T1 := Lib.hid (show Two v14a w2.heap.size (.int .i64 M4) (.slice ao14a m4.length ck14a) by rw [hv]; exact XX.put _ _)
  have A14a := Lib.hid (show Arg v14a ao14a m4 by rw [hv]; exact arg_far' hA (fun a e => by have := hne a e; omega) _ _)
  have Q0 := Lib.hid (show Below w.heap.size w v14a by rw [hv]; exact far_below (below_on Q0.out hb) (HB.out.1) _ _)
  have PX := Lib.hid (show Bx v14a w.heap.size #[.int .i64 N, .slice ao l.length cap, .int .i64 i, .int .i64 j, .int .i64 c, .slice dao cs.length dc] by rw [hv]; exact (PX.out.kept hb).aside (HN.out.1) _ _)
  have OX := Lib.hid (show Two v14a w1.heap.size (.int .i64 N) (.slice (some ⟨g, 0, none⟩) l.length (l.length + 1)) by rw [hv]; exact (OX.out.kept hb).aside (HN.out.2.2.1) _ _)
  have OW := Lib.hid (show Own v14a g (l.length + 1) (l ++ [77]) by rw [hv]; exact own_aside (own_below OW.out hb) (HN.out.2.2.2.2.1) _ _)
  have T2 := Lib.hid (show Two v14a w3.heap.size _ _ by rw [hv]; exact (T2.out.kept hb).aside HB.out.2.2 _ _)
  clear hA hm hf hne XX
  clear hb
  go_upto_region 17 with (fail)
  rw [← hv]
  clear hv d0 d1 d2 d3
  obtain ⟨p0, p1, p2, p3, p4, p5⟩ := PF.out _ PX.out
  obtain ⟨o0, o1, o2, o3⟩ := OX.out.facts
  go_wp2_with fail
  clear p0 p1 p2 p3 p4 p5 o0 o1 o2 o3
  refine (RER.out _ Q0.out).mono ?_
  rintro e w14b ⟨ao14b, ck14b, rfl, hA, hm, hf, hb⟩
  have XX := T2.out.kept hb
  obtain ⟨d0, d1, d2, d3⟩ := XX.facts
  have hne := fun a e => Nat.lt_of_lt_of_le T2.out.lt (hf a e).1
  have F14b := Lib.hid (fun a e => Nat.lt_of_lt_of_le T2.out.lt (hf a e).1)
  have L14b := Lib.hid hm
  obtain ⟨v14b, hv⟩ : ∃ v, v = (w14b.setCell ⟨w3.heap.size, 0, none⟩ (.int .i64 M4)).setCell ⟨w3.heap.size, 1, none⟩ (.slice ao14b m4.length ck14b) := ⟨_, rfl⟩
  have T2 := Lib.hid (show Two v14b w3.heap.size (.int .i64 M4) (.slice ao14b m4.length ck14b) by rw [hv]; exact XX.put _ _)
  have A14b := Lib.hid (show Arg v14b ao14b m4 by rw [hv]; exact arg_far' hA (fun a e => by have := hne a e; omega) _ _)
  have Q0 := Lib.hid (show Below w.heap.size w v14b by rw [hv]; exact far_below (below_on Q0.out hb) (HB.out.2.1) _ _)
  have PX := Lib.hid (show Bx v14b w.heap.size #[.int .i64 N, .slice ao l.length cap, .int .i64 i, .int .i64 j, .int .i64 c, .slice dao cs.length dc] by rw [hv]; exact (PX.out.kept hb).aside (HN.out.2.1) _ _)
  have OX := Lib.hid (show Two v14b w1.heap.size (.int .i64 N) (.slice (some ⟨g, 0, none⟩) l.length (l.length + 1)) by rw [hv]; exact (OX.out.kept hb).aside (HN.out.2.2.2.1) _ _)
  have OW := Lib.hid (show Own v14b g (l.length + 1) (l ++ [77]) by rw [hv]; exact own_aside (own_below OW.out hb) (HN.out.2.2.2.2.2) _ _)
  have T1 := Lib.hid (show Two v14b w2.heap.size (.int .i64 M4) (.slice ao14a m4.length ck14a) by rw [hv]; exact (T1.out.kept hb).aside HB.out.2.2.symm _ _)
  have A14a := Lib.hid (show Arg v14b ao14a m4 by rw [hv]; exact arg_far' (A14a.out.on hb) (fun a e => by have := F14a.out a e; omega) _ _)
  clear hA hm hf hne XX
  clear hb
  go_upto_region 18 with (fail)
  rw [← hv]
  clear hv d0 d1 d2 d3
  obtain ⟨b0, b1, b2, b3⟩ := T1.out.facts
  obtain ⟨c0, c1, c2, c3⟩ := T2.out.facts
  go_wp2_with fail
  refine (SM.out _ _ _ _ _ _ _ _ A14a.out A14b.out L14b.out).mono ?_
  rintro e w14c ⟨rfl, hb⟩
  have T1 := Lib.hid (T1.out.kept hb)
  have T2 := Lib.hid (T2.out.kept hb)
  have Q0 := Lib.hid (show Below w.heap.size w w14c from below_on Q0.out hb)
  have PX := Lib.hid (show Bx w14c w.heap.size #[.int .i64 N, .slice ao l.length cap, .int .i64 i, .int .i64 j, .int .i64 c, .slice dao cs.length dc] from PX.out.kept hb)
  have OX := Lib.hid (show Two w14c w1.heap.size (.int .i64 N) (.slice (some ⟨g, 0, none⟩) l.length (l.length + 1)) from OX.out.kept hb)
  have OW := Lib.hid (show Own w14c g (l.length + 1) (l ++ [77]) from own_below OW.out hb)
  clear hb b0 b1 b2 b3 c0 c1 c2 c3 A14a A14b F14a F14b L14a L14b
  clear REZ RER
  obtain ⟨p0, p1, p2, p3, p4, p5⟩ := PF.out _ PX.out
  obtain ⟨o0, o1, o2, o3⟩ := OX.out.facts
  go_wp2_with fail
  clear p0 p1 p2 p3 p4 p5 o0 o1 o2 o3
  refine (FRZ.out _ _ _ (own_front' OW.out) Q0.out).mono ?_
  rintro e w15a ⟨ao15a, ck15a, rfl, hA, hm, hf, hb⟩
  have XX := T1.out.kept hb
  obtain ⟨d0, d1, d2, d3⟩ := XX.facts
  have hne := fun a e => Nat.lt_of_lt_of_le T1.out.lt (hf a e).1
  have F15a := Lib.hid (fun a e => Nat.lt_of_lt_of_le T2.out.lt (hf a e).1)
  have L15a := Lib.hid hm
  obtain ⟨v15a, hv⟩ : ∃ v, v = (w15a.setCell ⟨w2.heap.size, 0, none⟩ (.int .i64 M5)).setCell ⟨w2.heap.size, 1, none⟩ (.slice ao15a m5.length ck15a) := ⟨_, rfl⟩
  have T1 := Lib.hid (show Two v15a w2.heap.size (.int .i64 M5) (.slice ao15a m5.length ck15a) by rw [hv]; exact XX.put _ _)
  have A15a := Lib.hid (show Arg v15a ao15a m5 by rw [hv]; exact arg_far' hA (fun a e => by have := hne a e; omega) _ _)
  have Q0 := Lib.hid (show Below w.heap.size w v15a by rw [hv]; exact far_below (below_on Q0.out hb) (HB.out.1) _ _)
  have PX := Lib.hid (show Bx v15a w.heap.size #[.int .i64 N, .slice ao l.length cap, .int .i64 i, .int .i64 j, .int .i64 c, .slice dao cs.length dc] by rw [hv]; exact (PX.out.kept hb).aside (HN.out.1) _ _)
  have OX := Lib.hid (show Two v15a w1.heap.size (.int .i64 N) (.slice (some ⟨g, 0, none⟩) l.length (l.length + 1)) by rw [hv]; exact (OX.out.kept hb).aside (HN.out.2.2.1) _ _)
  have OW := Lib.hid (show Own v15a g (l.length + 1) (l ++ [77]) by rw [hv]; exact own_aside (own_below OW.out hb) (HN.out.2.2.2.2.1) _ _)
  have T2 := Lib.hid (show Two v15a w3.heap.size _ _ by rw [hv]; exact (T2.out.kept hb).aside HB.out.2.2 _ _)
  clear hA hm hf hne XX
  clear hb
  go_upto_region 21 with (fail)
  rw [← hv]
  clear hv d0 d1 d2 d3
  obtain ⟨p0, p1, p2, p3, p4, p5⟩ := PF.out _ PX.out
  obtain ⟨o0, o1, o2, o3⟩ := OX.out.facts
  go_wp2_with fail
  clear p0 p1 p2 p3 p4 p5 o0 o1 o2 o3
  refine (FRR.out _ Q0.out).mono ?_
  rintro e w15b ⟨ao15b, ck15b, rfl, hA, hm, hf, hb⟩
  have XX := T2.out.kept hb
  obtain ⟨d0, d1, d2, d3⟩ := XX.facts
  have hne := fun a e => Nat.lt_of_lt_of_le T2.out.lt (hf a e).1
  have F15b := Lib.hid (fun a e => Nat.lt_of_lt_of_le T2.out.lt (hf a e).1)
  have L15b := Lib.hid hm
  obtain ⟨v15b, hv⟩ : ∃ v, v = (w15b.setCell ⟨w3.heap.size, 0, none⟩ (.int .i64 M5)).setCell ⟨w3.heap.size, 1, none⟩ (.slice ao15b m5.length ck15b) := ⟨_, rfl⟩
  have T2 := Lib.hid (show Two v15b w3.heap.size (.int .i64 M5) (.slice ao15b m5.length ck15b) by rw [hv]; exact XX.put _ _)
  have A15b := Lib.hid (show Arg v15b ao15b m5 by rw [hv]; exact arg_far' hA (fun a e => by have := hne a e; omega) _ _)
  have Q0 := Lib.hid (show Below w.heap.size w v15b by rw [hv]; exact far_below (below_on Q0.out hb) (HB.out.2.1) _ _)
  have PX := Lib.hid (show Bx v15b w.heap.size #[.int .i64 N, .slice ao l.length cap, .int .i64 i, .int .i64 j, .int .i64 c, .slice dao cs.length dc] by rw [hv]; exact (PX.out.kept hb).aside (HN.out.2.1) _ _)
  have OX := Lib.hid (show Two v15b w1.heap.size (.int .i64 N) (.slice (some ⟨g, 0, none⟩) l.length (l.length + 1)) by rw [hv]; exact (OX.out.kept hb).aside (HN.out.2.2.2.1) _ _)
  have OW := Lib.hid (show Own v15b g (l.length + 1) (l ++ [77]) by rw [hv]; exact own_aside (own_below OW.out hb) (HN.out.2.2.2.2.2) _ _)
  have T1 := Lib.hid (show Two v15b w2.heap.size (.int .i64 M5) (.slice ao15a m5.length ck15a) by rw [hv]; exact (T1.out.kept hb).aside HB.out.2.2.symm _ _)
  have A15a := Lib.hid (show Arg v15b ao15a m5 by rw [hv]; exact arg_far' (A15a.out.on hb) (fun a e => by have := F15a.out a e; omega) _ _)
  clear hA hm hf hne XX
  clear hb
  go_upto_region 22 with (fail)
  rw [← hv]
  clear hv d0 d1 d2 d3
  obtain ⟨b0, b1, b2, b3⟩ := T1.out.facts
  obtain ⟨c0, c1, c2, c3⟩ := T2.out.facts
  go_wp2_with fail
  refine (SM.out _ _ _ _ _ _ _ _ A15a.out A15b.out L15b.out).mono ?_
  rintro e w15c ⟨rfl, hb⟩
  have T1 := Lib.hid (T1.out.kept hb)
  have T2 := Lib.hid (T2.out.kept hb)
  have Q0 := Lib.hid (show Below w.heap.size w w15c from below_on Q0.out hb)
  have PX := Lib.hid (show Bx w15c w.heap.size #[.int .i64 N, .slice ao l.length cap, .int .i64 i, .int .i64 j, .int .i64 c, .slice dao cs.length dc] from PX.out.kept hb)
  have OX := Lib.hid (show Two w15c w1.heap.size (.int .i64 N) (.slice (some ⟨g, 0, none⟩) l.length (l.length + 1)) from OX.out.kept hb)
  have OW := Lib.hid (show Own w15c g (l.length + 1) (l ++ [77]) from own_below OW.out hb)
  clear hb b0 b1 b2 b3 c0 c1 c2 c3 A15a A15b F15a F15b L15a L15b
  clear FRZ FRR
  obtain ⟨p0, p1, p2, p3, p4, p5⟩ := PF.out _ PX.out
  obtain ⟨o0, o1, o2, o3⟩ := OX.out.facts
  go_wp2_with fail
  clear p0 p1 p2 p3 p4 p5 o0 o1 o2 o3
  refine (BEZ.out _ _ _ (own_front' OW.out) Q0.out).mono ?_
  rintro e w16a ⟨ao16a, ck16a, rfl, hA, hm, hf, hb⟩
  have XX := T1.out.kept hb
  obtain ⟨d0, d1, d2, d3⟩ := XX.facts
  have hne := fun a e => Nat.lt_of_lt_of_le T1.out.lt (hf a e).1
  have F16a := Lib.hid (fun a e => Nat.lt_of_lt_of_le T2.out.lt (hf a e).1)
  have L16a := Lib.hid hm
  obtain ⟨v16a, hv⟩ : ∃ v, v = (w16a.setCell ⟨w2.heap.size, 0, none⟩ (.int .i64 M6)).setCell ⟨w2.heap.size, 1, none⟩ (.slice ao16a m6.length ck16a) := ⟨_, rfl⟩
  have T1 := Lib.hid (show Two v16a w2.heap.size (.int .i64 M6) (.slice ao16a m6.length ck16a) by rw [hv]; exact XX.put _ _)
  have A16a := Lib.hid (show Arg v16a ao16a m6 by rw [hv]; exact arg_far' hA (fun a e => by have := hne a e; omega) _ _)
  have Q0 := Lib.hid (show Below w.heap.size w v16a by rw [hv]; exact far_below (below_on Q0.out hb) (HB.out.1) _ _)
  have PX := Lib.hid (show Bx v16a w.heap.size #[.int .i64 N, .slice ao l.length cap, .int .i64 i, .int .i64 j, .int .i64 c, .slice dao cs.length dc] by rw [hv]; exact (PX.out.kept hb).aside (HN.out.1) _ _)
  have OX := Lib.hid (show Two v16a w1.heap.size (.int .i64 N) (.slice (some ⟨g, 0, none⟩) l.length (l.length + 1)) by rw [hv]; exact (OX.out.kept hb).aside (HN.out.2.2.1) _ _)
  have OW := Lib.hid (show Own v16a g (l.length + 1) (l ++ [77]) by rw [hv]; exact own_aside (own_below OW.out hb) (HN.out.2.2.2.2.1) _ _)
  have T2 := Lib.hid (show Two v16a w3.heap.size _ _ by rw [hv]; exact (T2.out.kept hb).aside HB.out.2.2 _ _)
  clear hA hm hf hne XX
  clear hb
  go_upto_region 25 with (fail)
  rw [← hv]
  clear hv d0 d1 d2 d3
  obtain ⟨p0, p1, p2, p3, p4, p5⟩ := PF.out _ PX.out
  obtain ⟨o0, o1, o2, o3⟩ := OX.out.facts
  go_wp2_with fail
  clear p0 p1 p2 p3 p4 p5 o0 o1 o2 o3
  refine (BER.out _ Q0.out).mono ?_
  rintro e w16b ⟨ao16b, ck16b, rfl, hA, hm, hf, hb⟩
  have XX := T2.out.kept hb
  obtain ⟨d0, d1, d2, d3⟩ := XX.facts
  have hne := fun a e => Nat.lt_of_lt_of_le T2.out.lt (hf a e).1
  have F16b := Lib.hid (fun a e => Nat.lt_of_lt_of_le T2.out.lt (hf a e).1)
  have L16b := Lib.hid hm
  obtain ⟨v16b, hv⟩ : ∃ v, v = (w16b.setCell ⟨w3.heap.size, 0, none⟩ (.int .i64 M6)).setCell ⟨w3.heap.size, 1, none⟩ (.slice ao16b m6.length ck16b) := ⟨_, rfl⟩
  have T2 := Lib.hid (show Two v16b w3.heap.size (.int .i64 M6) (.slice ao16b m6.length ck16b) by rw [hv]; exact XX.put _ _)
  have A16b := Lib.hid (show Arg v16b ao16b m6 by rw [hv]; exact arg_far' hA (fun a e => by have := hne a e; omega) _ _)
  have Q0 := Lib.hid (show Below w.heap.size w v16b by rw [hv]; exact far_below (below_on Q0.out hb) (HB.out.2.1) _ _)
  have PX := Lib.hid (show Bx v16b w.heap.size #[.int .i64 N, .slice ao l.length cap, .int .i64 i, .int .i64 j, .int .i64 c, .slice dao cs.length dc] by rw [hv]; exact (PX.out.kept hb).aside (HN.out.2.1) _ _)
  have OX := Lib.hid (show Two v16b w1.heap.size (.int .i64 N) (.slice (some ⟨g, 0, none⟩) l.length (l.length + 1)) by rw [hv]; exact (OX.out.kept hb).aside (HN.out.2.2.2.1) _ _)
  have OW := Lib.hid (show Own v16b g (l.length + 1) (l ++ [77]) by rw [hv]; exact own_aside (own_below OW.out hb) (HN.out.2.2.2.2.2) _ _)
  have T1 := Lib.hid (show Two v16b w2.heap.size (.int .i64 M6) (.slice ao16a m6.length ck16a) by rw [hv]; exact (T1.out.kept hb).aside HB.out.2.2.symm _ _)
  have A16a := Lib.hid (show Arg v16b ao16a m6 by rw [hv]; exact arg_far' (A16a.out.on hb) (fun a e => by have := F16a.out a e; omega) _ _)
  clear hA hm hf hne XX
  clear hb
  go_upto_region 26 with (fail)
  rw [← hv]
  clear hv d0 d1 d2 d3
  obtain ⟨b0, b1, b2, b3⟩ := T1.out.facts
  obtain ⟨c0, c1, c2, c3⟩ := T2.out.facts
  go_wp2_with fail
  refine (SM.out _ _ _ _ _ _ _ _ A16a.out A16b.out L16b.out).mono ?_
  rintro e w16c ⟨rfl, hb⟩
  have T1 := Lib.hid (T1.out.kept hb)
  have T2 := Lib.hid (T2.out.kept hb)
  have Q0 := Lib.hid (show Below w.heap.size w w16c from below_on Q0.out hb)
  have PX := Lib.hid (show Bx w16c w.heap.size #[.int .i64 N, .slice ao l.length cap, .int .i64 i, .int .i64 j, .int .i64 c, .slice dao cs.length dc] from PX.out.kept hb)
  have OX := Lib.hid (show Two w16c w1.heap.size (.int .i64 N) (.slice (some ⟨g, 0, none⟩) l.length (l.length + 1)) from OX.out.kept hb)
  have OW := Lib.hid (show Own w16c g (l.length + 1) (l ++ [77]) from own_below OW.out hb)
  clear hb b0 b1 b2 b3 c0 c1 c2 c3 A16a A16b F16a F16b L16a L16b
  clear BEZ BER
  obtain ⟨p0, p1, p2, p3, p4, p5⟩ := PF.out _ PX.out
  obtain ⟨o0, o1, o2, o3⟩ := OX.out.facts
  go_wp2_with fail
  clear p0 p1 p2 p3 p4 p5 o0 o1 o2 o3
  have OWold := OW
  refine (CYZ.out _ _ _ (own_front' OW.out) Q0.out).mono ?_
  rintro e w20a ⟨ao20a, ck20a, rfl, hA, hm, hf, hb⟩
  have XX := T1.out.kept hb
  obtain ⟨d0, d1, d2, d3⟩ := XX.facts
  have hne := fun a e => Nat.lt_of_lt_of_le T1.out.lt (hf a e).1
  have F20a := Lib.hid (fun a e => Nat.lt_of_lt_of_le T2.out.lt (hf a e).1)
  have L20a := Lib.hid hm
  obtain ⟨v20a, hv⟩ : ∃ v, v = (w20a.setCell ⟨w2.heap.size, 0, none⟩ (.int .i64 M7)).setCell ⟨w2.heap.size, 1, none⟩ (.slice ao20a m7.length ck20a) := ⟨_, rfl⟩
  have T1 := Lib.hid (show Two v20a w2.heap.size (.int .i64 M7) (.slice ao20a m7.length ck20a) by rw [hv]; exact XX.put _ _)
  have A20a := Lib.hid (show Arg v20a ao20a m7 by rw [hv]; exact arg_far' hA (fun a e => by have := hne a e; omega) _ _)
  have Q0 := Lib.hid (show Below w.heap.size w v20a by rw [hv]; exact far_below (below_on Q0.out hb) (HB.out.1) _ _)
  have PX := Lib.hid (show Bx v20a w.heap.size #[.int .i64 N, .slice ao l.length cap, .int .i64 i, .int .i64 j, .int .i64 c, .slice dao cs.length dc] by rw [hv]; exact (PX.out.kept hb).aside (HN.out.1) _ _)
  have OX := Lib.hid (show Two v20a w1.heap.size (.int .i64 N) (.slice (some ⟨g, 0, none⟩) l.length (l.length + 1)) by rw [hv]; exact (OX.out.kept hb).aside (HN.out.2.2.1) _ _)
  have OW := Lib.hid (show Own v20a g (l.length + 1) (l ++ [77]) by rw [hv]; exact own_aside (own_below OW.out hb) (HN.out.2.2.2.2.1) _ _)
  have T2 := Lib.hid (show Two v20a w3.heap.size _ _ by rw [hv]; exact (T2.out.kept hb).aside HB.out.2.2 _ _)
  have FG := Lib.hid (fun a e => Nat.lt_of_lt_of_le OWold.out.lt (hf a e).1)
  clear hA hm hf hne XX
  clear hb
  go_upto_region 29 with (fail)
  rw [← hv]
  clear hv d0 d1 d2 d3
  obtain ⟨p0, p1, p2, p3, p4, p5⟩ := PF.out _ PX.out
  obtain ⟨o0, o1, o2, o3⟩ := OX.out.facts
  go_wp2_with fail
  refine (KP.out _ _ OW.out Q0.out).mono ?_
  rintro e w21 ⟨rfl, hb⟩
  have T1 := Lib.hid (T1.out.kept hb)
  have T2 := Lib.hid (T2.out.kept hb)
  have A20a := Lib.hid (A20a.out.on hb)
  have Q0 := Lib.hid (show Below w.heap.size w w21 from below_on Q0.out hb)
  have PX := Lib.hid (show Bx w21 w.heap.size #[.int .i64 N, .slice ao l.length cap, .int .i64 i, .int .i64 j, .int .i64 c, .slice dao cs.length dc] from PX.out.kept hb)
  have OX := Lib.hid (show Two w21 w1.heap.size (.int .i64 N) (.slice (some ⟨g, 0, none⟩) l.length (l.length + 1)) from OX.out.kept hb)
  have OW := Lib.hid (show Own w21 g (l.length + 1) (l ++ [77]) from own_below OW.out hb)
  have S0 := Lib.hid (show St w21 g (l.length + 1) (l ++ [77]) w21 from ⟨OW.out, World.grownBy.refl _ _⟩)
  clear hb p0 p1 p2 p3 p4 p5 o0 o1 o2 o3 KP
  go_wp2_with fail
  go_loopw [8] (fun s wr => ∃ (t : Nat) (x : List Int), t ≤ l.length ∧ s = .int .i64 (t : Int) ∧ Hid (x.length = l.length + 1) ∧ Hid (St w21 g (l.length + 1) x wr)) (fun s _ => l.length - (intOf s).toNat)
  case atStart => exact ⟨0, l ++ [77], by omega, rfl, HL, S0⟩
  case round =>
    obtain ⟨t, x, ht, rfl, HX, HT⟩ := hrel
    obtain ⟨o0, o1, o2, o3⟩ := (OX.out.grown HT.out.2 (by have := HG.out; omega)).facts
    by_cases htn : t < l.length
    · have TB : decide ((t : Int) < (l.length : Int)) = true := by simp; omega
      have q0 : wr.cell? ⟨g, t, none⟩ = some (.int .i64 (Zo.gt x t)) := by
        have := HT.out.1.rd t (by have := HX.out; omega)
        rwa [addr_add] at this
      have q1 : wr.frozen? ⟨g, t, none⟩ = false := World.ownsRow.frozenAt HT.out.1 _
      have HP := Lib.hid (show St w21 g (l.length + 1) (x.set t 99) (wr.setCell ⟨g, t, none⟩ (.int .i64 99)) from ⟨(HT.out.1.put t 99).1, grown_trans HT.out.2 (HT.out.1.put t 99).2⟩)
      have tb : (t : Int) < 200 := by have := HL2.out; omega
      go_wp2_with fail
      go_roundw
      case rel => exact ⟨t + 1, x.set t 99, by omega, by go_num, Lib.hid (by simpa using HX.out), HP⟩
      case measure => simp [intOf]; omega
    · have TB : decide ((t : Int) < (l.length : Int)) = false := by simp; omega
      have HG1 := HG.out
      have T1 := Lib.hid (T1.out.grown HT.out.2 HN.out.2.2.2.2.1)
      have T2 := Lib.hid (T2.out.grown HT.out.2 HN.out.2.2.2.2.2)
      have PX := Lib.hid (PX.out.grown HT.out.2 (by omega))
      have A20a := Lib.hid (arg_grown A20a.out HT.out.2 (fun a e => by have := FG.out a e; omega))
      have Q0 := Lib.hid (grown_over Q0.out HT.out.2 (by omega))
      have OX := Lib.hid (OX.out.grown HT.out.2 (by omega))
      obtain ⟨p0, p1, p2, p3, p4, p5⟩ := PF.out _ PX.out
      clear HG1
      go_wp2_with fail
      clear p0 p1 p2 p3 p4 p5 o0 o1 o2 o3
      refine (CYR.out _ Q0.out).mono ?_
      rintro e w20b ⟨ao20b, ck20b, rfl, hA, hm, hf, hb⟩
      have XX := T2.out.kept hb
      obtain ⟨d0, d1, d2, d3⟩ := XX.facts
      have hne := fun a e => Nat.lt_of_lt_of_le T2.out.lt (hf a e).1
      have F20b := Lib.hid (fun a e => Nat.lt_of_lt_of_le T2.out.lt (hf a e).1)
      have L20b := Lib.hid hm
      obtain ⟨v20b, hv⟩ : ∃ v, v = (w20b.setCell ⟨w3.heap.size, 0, none⟩ (.int .i64 M7)).setCell ⟨w3.heap.size, 1, none⟩ (.slice ao20b m7.length ck20b) := ⟨_, rfl⟩
      have T2 := Lib.hid (show Two v20b w3.heap.size (.int .i64 M7) (.slice ao20b m7.length ck20b) by rw [hv]; exact XX.put _ _)
      have A20b := Lib.hid (show Arg v20b ao20b m7 by rw [hv]; exact arg_far' hA (fun a e => by have := hne a e; omega) _ _)
      have Q0 := Lib.hid (show Below w.heap.size w v20b by rw [hv]; exact far_below (below_on Q0.out hb) (HB.out.2.1) _ _)
      have T1 := Lib.hid (show Two v20b w2.heap.size (.int .i64 M7) (.slice ao20a m7.length ck20a) by rw [hv]; exact (T1.out.kept hb).aside HB.out.2.2.symm _ _)
      have A20a := Lib.hid (show Arg v20b ao20a m7 by rw [hv]; exact arg_far' (A20a.out.on hb) (fun a e => by have := F20a.out a e; omega) _ _)
      clear hA hm hf hne XX
      clear hb
      go_upto_region 36 with (fail)
      rw [← hv]
      clear hv d0 d1 d2 d3
      obtain ⟨b0, b1, b2, b3⟩ := T1.out.facts
      obtain ⟨c0, c1, c2, c3⟩ := T2.out.facts
      go_wp2_with fail
      refine (SM.out _ _ _ _ _ _ _ _ A20a.out A20b.out L20b.out).mono ?_
      rintro e w20c ⟨rfl, hb⟩
      have T1 := Lib.hid (T1.out.kept hb)
      have T2 := Lib.hid (T2.out.kept hb)
      have Q0 := Lib.hid (show Below w.heap.size w w20c from below_on Q0.out hb)
      clear hb b0 b1 b2 b3 c0 c1 c2 c3 A20a A20b F20a F20b L20a L20b
      go_wp2_with fail
      refine (SH.out _).mono ?_
      rintro e w99 ⟨rfl, hb⟩
      have Q0 := Lib.hid (below_on Q0.out hb)
      clear hb
      go_wp2_with fail
      go_ret
      exact ⟨rfl, Q0.out⟩

theorem steps_any (N : Int) (l : List Int) (ao : Option Addr) (cap : Nat) (i j c : Int) (cs : List Con) (dao : Option Addr) (dc : Nat) (w : World) (hA : Arg w ao l) (hn : ao = none → l = [] ∧ cap = 0) (hD : Arg3 w dao cs) :
    Calls Try.prog 4 #[.agg #[.int .i64 N, .slice ao l.length cap, .int .i64 i, .int .i64 j, .int .i64 c, .slice dao cs.length dc]] w (Made (.bool true) w) := by
  by_cases h : 200 < l.length ∨ 100 < cs.length
  · exact steps_long N ao l.length cap i j c dao cs.length dc w h
  · exact steps_short N l ao cap i j c cs dao dc w hA hn (by omega) hD (by omega)
end Go.Proofs.Ytbnebinpemejlaa
