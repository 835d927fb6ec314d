/- A part. -/
import Derived.Test.YtaegiihkgicdnaaGreatWl10
import Derived.Test.YtaegiihkgicdnaaGreatWl33

namespace Go.Proofs.YtaegiihkgicdnaaGreat
open Go.RowKit

theorem ckL_iff {all : List Zp} : ckL all = 0 ↔ ∀ z ∈ all, chkE z.1 z.2 = 0 ∧ z.1 = (all.headD (0, [])).1 := by
  unfold ckL
  constructor
  · intro h
    split at h
    · rename_i q
      rw [List.all_eq_true] at q
      intro z hz
      have := q z hz
      unfold ckZ at this
      simpa using this
    · cases h
  · intro h
    rw [if_pos]
    rw [List.all_eq_true]
    intro z hz
    unfold ckZ
    simpa using h z hz

theorem ckL_two {all : List Zp} (h : ckL all ≠ 0) : ckL all = 2 := by
  unfold ckL at h ⊢
  split
  · rename_i q; exact absurd (if_pos q) h
  · rfl

theorem chkG_long {a b : List Zp} (h : 2000 < a.length ∨ 2000 < b.length) : chkG [a, b] = 3 := by
  unfold chkG; rw [if_pos]; simpa using h

theorem chkG_short {a b : List Zp} (h : ¬ (2000 < a.length ∨ 2000 < b.length)) : chkG [a, b] = ckL (a ++ b) := by
  unfold chkG; rw [if_neg]
  · simp
  · simpa using h

theorem ck_left {a b : List Zp} (h : ckL a ≠ 0) : ckL (a ++ b) = 2 := by
  apply ckL_two
  intro q
  apply h
  rw [ckL_iff] at q ⊢
  intro z hz
  have := q z (List.mem_append.2 (Or.inl hz))
  refine ⟨this.1, this.2.trans ?_⟩
  cases a with
  | nil => cases hz
  | cons x r => rfl

theorem ck_right {a b : List Zp} (h : ckL b ≠ 0) : ckL (a ++ b) = 2 := by
  apply ckL_two
  intro q
  apply h
  rw [ckL_iff] at q ⊢
  intro z hz
  have h1 := q z (List.mem_append.2 (Or.inr hz))
  refine ⟨h1.1, h1.2.trans ?_⟩
  cases b with
  | nil => cases hz
  | cons x r => exact (q x (List.mem_append.2 (Or.inr (List.mem_cons_self)))).2.symm

theorem ck_nil {b : List Zp} (h : ckL b = 0) : ckL ([] ++ b) = 0 := h

theorem ck_nil2 {a : List Zp} (h : ckL a = 0) : ckL (a ++ []) = 0 := by rw [List.append_nil]; exact h

theorem ck_same {x y : Zp} {a b : List Zp} (ha : ckL (x :: a) = 0) (hb : ckL (y :: b) = 0) (h : x.1 = y.1) : ckL ((x :: a) ++ (y :: b)) = 0 := by
  rw [ckL_iff] at ha hb ⊢
  intro z hz
  rcases List.mem_append.1 hz with q | q
  · exact ha z q
  · exact ⟨(hb z q).1, (hb z q).2.trans h.symm⟩

theorem ck_diff {x y : Zp} {a b : List Zp} (h : x.1 ≠ y.1) : ckL ((x :: a) ++ (y :: b)) = 2 := by
  apply ckL_two
  intro q
  rw [ckL_iff] at q
  exact h (q y (List.mem_append.2 (Or.inr (List.mem_cons_self)))).2.symm

set_option maxRecDepth 100000 in
set_option maxHeartbeats 8000000 in
theorem bothW_any (L M : List ZV) (go ho : Option Addr) (gc hc : Nat) (w : World) (hL : RdW w go L) (hM : RdW w ho M) (hl : L.length ≤ 1000000) (hm : M.length ≤ 1000000) :
    Calls Tryz.prog 43 #[.slice go L.length gc, .slice ho M.length hc] w (Made (.int .i64 (chkG [L.map ZV.p, M.map ZV.p])) w) := by
  have RL := Lib.hid hL
  have RM := Lib.hid hM
  have CL := Lib.hid (show ∀ W, Below w.heap.size w W → Calls Tryz.prog 12 #[.slice go L.length gc] W (Made (.int .i64 (rchk (L.map ZV.p))) W) from fun W h => rcheckW_any L go gc W (hL.on h) hl)
  have CM := Lib.hid (show ∀ W, Below w.heap.size w W → Calls Tryz.prog 12 #[.slice ho M.length hc] W (Made (.int .i64 (rchk (M.map ZV.p))) W) from fun W h => rcheckW_any M ho hc W (hM.on h) hm)
  obtain ⟨n, hn⟩ : ∃ n, n = L.length := ⟨_, rfl⟩
  obtain ⟨k, hk⟩ : ∃ k, k = M.length := ⟨_, rfl⟩
  have HN := Lib.hid hn
  have HK := Lib.hid hk
  rw [← hn] at CL ⊢
  rw [← hk] at CM ⊢
  have hle : n ≤ 1000000 := by omega
  have hke : k ≤ 1000000 := by omega
  clear hL hM hl hm hn hk
  by_cases h1 : 2000 < n
  · have h1b : (2000 : Int) < n := by omega
    have EV := Lib.hid (show chkG [L.map ZV.p, M.map ZV.p] = 3 from chkG_long (Or.inl (by rw [List.length_map, ← HN.out]; exact h1)))
    go_enter Tryz.func43, Tryz.ntmps43
    go_wp2_with fail
    go_ret
    refine ⟨?_, Below.refl _ _⟩
    rw [EV.out]; rfl
  · have h1b : ¬ (2000 : Int) < n := by omega
    by_cases h2 : 2000 < k
    · have h2b : (2000 : Int) < k := by omega
      have EV := Lib.hid (show chkG [L.map ZV.p, M.map ZV.p] = 3 from chkG_long (Or.inr (by rw [List.length_map, ← HK.out]; exact h2)))
      go_enter Tryz.func43, Tryz.ntmps43
      go_wp2_with fail
      go_ret
      refine ⟨?_, Below.refl _ _⟩
      rw [EV.out]; rfl
    · have h2b : ¬ (2000 : Int) < k := by omega
      have EV := Lib.hid (show chkG [L.map ZV.p, M.map ZV.p] = ckL (L.map ZV.p ++ M.map ZV.p) from chkG_short (by rw [List.length_map, List.length_map, ← HN.out, ← HK.out]; omega))
      have EL := Lib.hid (show rchk (L.map ZV.p) = ckL (L.map ZV.p) by unfold rchk; rw [if_neg (by rw [List.length_map, ← HN.out]; exact h1)])
      have EM := Lib.hid (show rchk (M.map ZV.p) = ckL (M.map ZV.p) by unfold rchk; rw [if_neg (by rw [List.length_map, ← HK.out]; exact h2)])
      rw [EL.out] at CL
      rw [EM.out] at CM
      clear h1 h2 EL EM
      obtain ⟨ca, hca⟩ : ∃ ca, ca = ckL (L.map ZV.p) := ⟨_, rfl⟩
      obtain ⟨cb, hcb⟩ : ∃ cb, cb = ckL (M.map ZV.p) := ⟨_, rfl⟩
      rw [← hca] at CL
      rw [← hcb] at CM
      have HCA := Lib.hid hca
      have HCB := Lib.hid hcb
      clear hca hcb
      by_cases ha0 : ca = 0
      · have ha1 : (ca != 0) = false := by simp [ha0]
        have HA0 := Lib.hid (show ckL (L.map ZV.p) = 0 by rw [← HCA.out]; exact ha0)
        by_cases hb0 : cb = 0
        · have hb1 : (cb != 0) = false := by simp [hb0]
          have HB0 := Lib.hid (show ckL (M.map ZV.p) = 0 by rw [← HCB.out]; exact hb0)
          clear ha0 hb0
          by_cases hn0 : n = 0
          · have L0 := Lib.hid (show L = [] from List.eq_nil_of_length_eq_zero (HN.out.symm.trans hn0))
            have hn1 : decide ((0 : Int) < n) = false := by simp [hn0]
            have hn2 : ¬ (0 : Int) < n := by omega
            have hn3 : decide (0 < n) = false := by simp [hn0]
            clear hn0
            have KV := Lib.hid (show ckL (L.map ZV.p ++ M.map ZV.p) = 0 from by rw [L0.out]; exact ck_nil HB0.out)
            go_enter Tryz.func43, Tryz.ntmps43
            go_upto_region 3 with (fail)
            have KS := Lib.hid (show ∀ W, Below w.heap.size w W → (Below w.heap.size w W ∧ True) from fun W h => ⟨h, trivial⟩)
            obtain ⟨wc, hwc⟩ : ∃ wc, wc = w.drew := ⟨_, rfl⟩
            have Bc := Lib.hid (show Below w.heap.size w wc by rw [hwc]; exact (Below.refl _ _).drew)
            refine wp_region_held_drew (S := (fun W => (Below w.heap.size w W ∧ True))) (by kernel_rfl) (by rw [← hwc]; exact KS.out _ Bc.out) (fun h0 => ?_)
            rw [← hwc] at h0 ⊢
            clear hwc
            refine tkH (i := 0) (v := ?v1) rfl (Or.inl ⟨by rfl, ?hy1⟩) h0 ?rest1
            case hy1 => (intro w' hS; (try dsimp only at hS); go_simp; try (with_reducible rfl))
            simp only [Act.put, sA, sB, sD, sE, sF]
            refine wpAnyH_ready (rs := [1]) (by kernel_rfl) (by simp) (AllReadyH.cons rfl (fun K hK => ?_) AllReadyH.nil)
            rw [if_pos (by rfl)]
            go_simp
            refine (CL.out wc Bc.out).mono ?_
            rintro e wd ⟨rfl, hb⟩
            have Bc := Lib.hid (below_on Bc.out hb)
            clear hb
            obtain ⟨wc, hwc⟩ : ∃ wc, wc = wd := ⟨_, rfl⟩
            rw [← hwc] at Bc ⊢
            clear hwc
            go_simp
            refine hK.out _ _ (KS.out _ Bc.out) (fun h0_1 => ?_)
            clear hK K h0
            refine tkH (i := 2) (v := ?v2) rfl (Or.inl ⟨by rfl, ?hy2⟩) h0_1 ?rest2
            case hy2 => (intro w' hS; (try dsimp only at hS); go_simp; try (with_reducible rfl))
            simp only [Act.put, sZ]
            refine tkH (i := 3) (v := ?v3) rfl (Or.inl ⟨by rfl, ?hy3⟩) h0_1 ?rest3
            case hy3 => (intro w' hS; (try dsimp only at hS); go_simp; try (with_reducible rfl))
            simp only [Act.put, sZ]
            refine tkH (i := 4) (v := ?v4) rfl (Or.inl ⟨by rfl, ?hy4⟩) h0_1 ?rest4
            case hy4 => (intro w' hS; (try dsimp only at hS); go_simp; try (with_reducible rfl))
            simp only [Act.put, sZ]
            refine wpAnyH_ready (rs := [5]) (by kernel_rfl) (by simp) (AllReadyH.cons rfl (fun K hK => ?_) AllReadyH.nil)
            rw [if_pos (by rfl)]
            go_simp
            refine (CM.out wc Bc.out).mono ?_
            rintro e wd ⟨rfl, hb⟩
            have Bc := Lib.hid (below_on Bc.out hb)
            clear hb
            obtain ⟨wc, hwc⟩ : ∃ wc, wc = wd := ⟨_, rfl⟩
            rw [← hwc] at Bc ⊢
            clear hwc
            go_simp
            refine hK.out _ _ (KS.out _ Bc.out) (fun h0_2 => ?_)
            clear hK K h0_1
            refine tkH (i := 6) (v := ?v5) rfl (Or.inl ⟨by rfl, ?hy5⟩) h0_2 ?rest5
            case hy5 => (intro w' hS; (try dsimp only at hS); go_simp; try (with_reducible rfl))
            simp only [Act.put, sZ]
            refine tkH (i := 7) (v := ?v6) rfl (Or.inl ⟨by rfl, ?hy6⟩) h0_2 ?rest6
            case hy6 => (intro w' hS; (try dsimp only at hS); go_simp; try (with_reducible rfl))
            simp only [Act.put, sZ]
            refine tkH (i := 8) (v := ?v7) rfl (Or.inl ⟨by rfl, ?hy7⟩) h0_2 ?rest7
            case hy7 => (intro w' hS; (try dsimp only at hS); go_simp; try (with_reducible rfl))
            simp only [Act.put, sZ]
            refine tkH (i := 9) (v := ?v8) rfl (Or.inl ⟨by rfl, ?hy8⟩) h0_2 ?rest8
            case hy8 => (intro w' hS; (try dsimp only at hS); go_simp; try (with_reducible rfl))
            simp only [Act.put, sZ]
            refine tkH (i := 10) (v := ?v9) rfl (Or.inl ⟨by rfl, ?hy9⟩) h0_2 ?rest9
            case hy9 => (intro w' hS; (try dsimp only at hS); go_simp; try (with_reducible rfl))
            simp only [Act.put, sZ]
            refine tkH (i := 11) (v := ?v10) rfl (Or.inl ⟨by rfl, ?hy10⟩) h0_2 ?rest10
            case hy10 => (intro w' hS; (try dsimp only at hS); go_simp; try (with_reducible rfl))
            simp only [Act.put, sZ]
            refine tkH (i := 12) (v := ?v11) rfl (Or.inl ⟨by rfl, ?hy11⟩) h0_2 ?rest11
            case hy11 => (intro w' hS; (try dsimp only at hS); go_simp; try (with_reducible rfl))
            simp only [Act.put, sZ]
            refine tkH (i := 13) (v := undef) rfl (Or.inr ⟨by rfl, rfl⟩) h0_2 ?_
            simp only [Act.put, sZ]
            refine tkH (i := 14) (v := undef) rfl (Or.inr ⟨by rfl, rfl⟩) h0_2 ?_
            simp only [Act.put, sZ]
            refine tkH (i := 15) (v := undef) rfl (Or.inr ⟨by rfl, rfl⟩) h0_2 ?_
            simp only [Act.put, sZ]
            refine tkH (i := 16) (v := ?v15) rfl (Or.inl ⟨by rfl, ?hy15⟩) h0_2 ?rest15
            case hy15 => (intro w' hS; (try dsimp only at hS); go_simp; try (with_reducible rfl))
            simp only [Act.put, sZ]
            refine tkH (i := 17) (v := ?v16) rfl (Or.inl ⟨by rfl, ?hy16⟩) h0_2 ?rest16
            case hy16 => (intro w' hS; (try dsimp only at hS); go_simp; try (with_reducible rfl))
            simp only [Act.put, sZ]
            refine tkH (i := 18) (v := undef) rfl (Or.inr ⟨by rfl, rfl⟩) h0_2 ?_
            simp only [Act.put, sZ]
            refine tkH (i := 19) (v := undef) rfl (Or.inr ⟨by rfl, rfl⟩) h0_2 ?_
            simp only [Act.put, sZ]
            refine tkH (i := 20) (v := undef) rfl (Or.inr ⟨by rfl, rfl⟩) h0_2 ?_
            simp only [Act.put, sZ]
            refine tkH (i := 21) (v := undef) rfl (Or.inr ⟨by rfl, rfl⟩) h0_2 ?_
            simp only [Act.put, sZ]
            refine tkH (i := 22) (v := undef) rfl (Or.inr ⟨by rfl, rfl⟩) h0_2 ?_
            simp only [Act.put, sZ]
            refine tkH (i := 23) (v := undef) rfl (Or.inr ⟨by rfl, rfl⟩) h0_2 ?_
            simp only [Act.put, sZ]
            refine tkH (i := 24) (v := undef) rfl (Or.inr ⟨by rfl, rfl⟩) h0_2 ?_
            simp only [Act.put, sZ]
            refine tkH (i := 25) (v := undef) rfl (Or.inr ⟨by rfl, rfl⟩) h0_2 ?_
            simp only [Act.put, sZ]
            refine tkH (i := 26) (v := undef) rfl (Or.inr ⟨by rfl, rfl⟩) h0_2 ?_
            simp only [Act.put, sZ]
            refine tkH (i := 27) (v := ?v26) rfl (Or.inl ⟨by rfl, ?hy26⟩) h0_2 ?rest26
            case hy26 => (intro w' hS; (try dsimp only at hS); go_simp; try (with_reducible rfl))
            simp only [Act.put, sZ]
            refine tkH (i := 28) (v := ?v27) rfl (Or.inl ⟨by rfl, ?hy27⟩) h0_2 ?rest27
            case hy27 => (intro w' hS; (try dsimp only at hS); go_simp; try (with_reducible rfl))
            simp only [Act.put, sA, sB, sC, sD]
            try simp only [sF]
            try simp only [sE]
            refine wpAnyH_done (by kernel_rfl) ?_ _
            simp only [Exit.then]
            have BB := Lib.hid Bc.out
            skip
            go_wp2_with fail
            go_ret
            refine ⟨?_, BB.out⟩
            rw [EV.out, KV.out]
            rfl
          · have hn1 : decide ((0 : Int) < n) = true := by simp; omega
            have hn2 : (0 : Int) < n := by omega
            have hn3 : decide (0 < n) = true := by simp; omega
            by_cases hk0 : k = 0
            · have M0 := Lib.hid (show M = [] from List.eq_nil_of_length_eq_zero (HK.out.symm.trans hk0))
              have hk1 : decide ((0 : Int) < k) = false := by simp [hk0]
              have hk2 : ¬ (0 : Int) < k := by omega
              have hk3 : decide (0 < k) = false := by simp [hk0]
              clear hk0 hn0
              have KV := Lib.hid (show ckL (L.map ZV.p ++ M.map ZV.p) = 0 from by rw [M0.out]; exact ck_nil2 HA0.out)
              go_enter Tryz.func43, Tryz.ntmps43
              go_upto_region 3 with (fail)
              have KS := Lib.hid (show ∀ W, Below w.heap.size w W → (Below w.heap.size w W ∧ True) from fun W h => ⟨h, trivial⟩)
              obtain ⟨wc, hwc⟩ : ∃ wc, wc = w.drew := ⟨_, rfl⟩
              have Bc := Lib.hid (show Below w.heap.size w wc by rw [hwc]; exact (Below.refl _ _).drew)
              refine wp_region_held_drew (S := (fun W => (Below w.heap.size w W ∧ True))) (by kernel_rfl) (by rw [← hwc]; exact KS.out _ Bc.out) (fun h0 => ?_)
              rw [← hwc] at h0 ⊢
              clear hwc
              refine tkH (i := 0) (v := ?v28) rfl (Or.inl ⟨by rfl, ?hy28⟩) h0 ?rest28
              case hy28 => (intro w' hS; (try dsimp only at hS); go_simp; try (with_reducible rfl))
              simp only [Act.put, sA, sB, sD, sE, sF]
              refine wpAnyH_ready (rs := [1]) (by kernel_rfl) (by simp) (AllReadyH.cons rfl (fun K hK => ?_) AllReadyH.nil)
              rw [if_pos (by rfl)]
              go_simp
              refine (CL.out wc Bc.out).mono ?_
              rintro e wd ⟨rfl, hb⟩
              have Bc := Lib.hid (below_on Bc.out hb)
              clear hb
              obtain ⟨wc, hwc⟩ : ∃ wc, wc = wd := ⟨_, rfl⟩
              rw [← hwc] at Bc ⊢
              clear hwc
              go_simp
              refine hK.out _ _ (KS.out _ Bc.out) (fun h0_1 => ?_)
              clear hK K h0
              refine tkH (i := 2) (v := ?v29) rfl (Or.inl ⟨by rfl, ?hy29⟩) h0_1 ?rest29
              case hy29 => (intro w' hS; (try dsimp only at hS); go_simp; try (with_reducible rfl))
              simp only [Act.put, sZ]
              refine tkH (i := 3) (v := ?v30) rfl (Or.inl ⟨by rfl, ?hy30⟩) h0_1 ?rest30
              case hy30 => (intro w' hS; (try dsimp only at hS); go_simp; try (with_reducible rfl))
              simp only [Act.put, sZ]
              refine tkH (i := 4) (v := ?v31) rfl (Or.inl ⟨by rfl, ?hy31⟩) h0_1 ?rest31
              case hy31 => (intro w' hS; (try dsimp only at hS); go_simp; try (with_reducible rfl))
              simp only [Act.put, sZ]
              refine wpAnyH_ready (rs := [5]) (by kernel_rfl) (by simp) (AllReadyH.cons rfl (fun K hK => ?_) AllReadyH.nil)
              rw [if_pos (by rfl)]
              go_simp
              refine (CM.out wc Bc.out).mono ?_
              rintro e wd ⟨rfl, hb⟩
              have Bc := Lib.hid (below_on Bc.out hb)
              clear hb
              obtain ⟨wc, hwc⟩ : ∃ wc, wc = wd := ⟨_, rfl⟩
              rw [← hwc] at Bc ⊢
              clear hwc
              go_simp
              refine hK.out _ _ (KS.out _ Bc.out) (fun h0_2 => ?_)
              clear hK K h0_1
              refine tkH (i := 6) (v := ?v32) rfl (Or.inl ⟨by rfl, ?hy32⟩) h0_2 ?rest32
              case hy32 => (intro w' hS; (try dsimp only at hS); go_simp; try (with_reducible rfl))
              simp only [Act.put, sZ]
              refine tkH (i := 7) (v := ?v33) rfl (Or.inl ⟨by rfl, ?hy33⟩) h0_2 ?rest33
              case hy33 => (intro w' hS; (try dsimp only at hS); go_simp; try (with_reducible rfl))
              simp only [Act.put, sZ]
              refine tkH (i := 8) (v := ?v34) rfl (Or.inl ⟨by rfl, ?hy34⟩) h0_2 ?rest34
              case hy34 => (intro w' hS; (try dsimp only at hS); go_simp; try (with_reducible rfl))
              simp only [Act.put, sZ]
              refine tkH (i := 9) (v := ?v35) rfl (Or.inl ⟨by rfl, ?hy35⟩) h0_2 ?rest35
              case hy35 => (intro w' hS; (try dsimp only at hS); go_simp; try (with_reducible rfl))
              simp only [Act.put, sZ]
              refine tkH (i := 10) (v := ?v36) rfl (Or.inl ⟨by rfl, ?hy36⟩) h0_2 ?rest36
              case hy36 => (intro w' hS; (try dsimp only at hS); go_simp; try (with_reducible rfl))
              simp only [Act.put, sZ]
              refine tkH (i := 11) (v := ?v37) rfl (Or.inl ⟨by rfl, ?hy37⟩) h0_2 ?rest37
              case hy37 => (intro w' hS; (try dsimp only at hS); go_simp; try (with_reducible rfl))
              simp only [Act.put, sZ]
              refine tkH (i := 12) (v := ?v38) rfl (Or.inl ⟨by rfl, ?hy38⟩) h0_2 ?rest38
              case hy38 => (intro w' hS; (try dsimp only at hS); go_simp; try (with_reducible rfl))
              simp only [Act.put, sZ]
              refine tkH (i := 13) (v := ?v39) rfl (Or.inl ⟨by rfl, ?hy39⟩) h0_2 ?rest39
              case hy39 => (intro w' hS; (try dsimp only at hS); go_simp; try (with_reducible rfl))
              simp only [Act.put, sZ]
              refine tkH (i := 14) (v := ?v40) rfl (Or.inl ⟨by rfl, ?hy40⟩) h0_2 ?rest40
              case hy40 => (intro w' hS; (try dsimp only at hS); go_simp; try (with_reducible rfl))
              simp only [Act.put, sZ]
              refine tkH (i := 15) (v := ?v41) rfl (Or.inl ⟨by rfl, ?hy41⟩) h0_2 ?rest41
              case hy41 => (intro w' hS; (try dsimp only at hS); go_simp; try (with_reducible rfl))
              simp only [Act.put, sZ]
              refine tkH (i := 16) (v := ?v42) rfl (Or.inl ⟨by rfl, ?hy42⟩) h0_2 ?rest42
              case hy42 => (intro w' hS; (try dsimp only at hS); go_simp; try (with_reducible rfl))
              simp only [Act.put, sZ]
              refine tkH (i := 17) (v := ?v43) rfl (Or.inl ⟨by rfl, ?hy43⟩) h0_2 ?rest43
              case hy43 => (intro w' hS; (try dsimp only at hS); go_simp; try (with_reducible rfl))
              simp only [Act.put, sZ]
              refine tkH (i := 18) (v := undef) rfl (Or.inr ⟨by rfl, rfl⟩) h0_2 ?_
              simp only [Act.put, sZ]
              refine tkH (i := 19) (v := undef) rfl (Or.inr ⟨by rfl, rfl⟩) h0_2 ?_
              simp only [Act.put, sZ]
              refine tkH (i := 20) (v := undef) rfl (Or.inr ⟨by rfl, rfl⟩) h0_2 ?_
              simp only [Act.put, sZ]
              refine tkH (i := 21) (v := undef) rfl (Or.inr ⟨by rfl, rfl⟩) h0_2 ?_
              simp only [Act.put, sZ]
              refine tkH (i := 22) (v := undef) rfl (Or.inr ⟨by rfl, rfl⟩) h0_2 ?_
              simp only [Act.put, sZ]
              refine tkH (i := 23) (v := undef) rfl (Or.inr ⟨by rfl, rfl⟩) h0_2 ?_
              simp only [Act.put, sZ]
              refine tkH (i := 24) (v := undef) rfl (Or.inr ⟨by rfl, rfl⟩) h0_2 ?_
              simp only [Act.put, sZ]
              refine tkH (i := 25) (v := undef) rfl (Or.inr ⟨by rfl, rfl⟩) h0_2 ?_
              simp only [Act.put, sZ]
              refine tkH (i := 26) (v := undef) rfl (Or.inr ⟨by rfl, rfl⟩) h0_2 ?_
              simp only [Act.put, sZ]
              refine tkH (i := 27) (v := ?v53) rfl (Or.inl ⟨by rfl, ?hy53⟩) h0_2 ?rest53
              case hy53 => (intro w' hS; (try dsimp only at hS); go_simp; try (with_reducible rfl))
              simp only [Act.put, sZ]
              refine tkH (i := 28) (v := ?v54) rfl (Or.inl ⟨by rfl, ?hy54⟩) h0_2 ?rest54
              case hy54 => (intro w' hS; (try dsimp only at hS); go_simp; try (with_reducible rfl))
              simp only [Act.put, sA, sB, sC, sD]
              try simp only [sF]
              try simp only [sE]
              refine wpAnyH_done (by kernel_rfl) ?_ _
              simp only [Exit.then]
              have BB := Lib.hid Bc.out
              skip
              go_wp2_with fail
              go_ret
              refine ⟨?_, BB.out⟩
              rw [EV.out, KV.out]
              rfl
            · have hk1 : decide ((0 : Int) < k) = true := by simp; omega
              have hk2 : (0 : Int) < k := by omega
              have hk3 : decide (0 < k) = true := by simp; omega
              obtain ⟨x, X, hX⟩ : ∃ x X, L = x :: X := by
                cases hL : L with
                | nil => exact absurd (by rw [HN.out, hL]; rfl) hn0
                | cons x X => exact ⟨x, X, rfl⟩
              obtain ⟨y, Y, hY⟩ : ∃ y Y, M = y :: Y := by
                cases hM : M with
                | nil => exact absurd (by rw [HK.out, hM]; rfl) hk0
                | cons y Y => exact ⟨y, Y, rfl⟩
              obtain ⟨a, ea, g0, _⟩ := RL.out.hd 0 (by rw [← HN.out]; omega)
              obtain ⟨b, eb, g1, _⟩ := RM.out.hd 0 (by rw [← HK.out]; omega)
              rw [add_nil2] at g0 g1
              have G0 := Lib.hid (show w.cell? a = some (.int .i64 x.N) by simp only [hX, List.getElem_cons_zero] at g0; exact g0)
              have G1 := Lib.hid (show w.cell? b = some (.int .i64 y.N) by simp only [hY, List.getElem_cons_zero] at g1; exact g1)
              have HX := Lib.hid hX
              have HY := Lib.hid hY
              have A0 := Lib.hid (show ckL (x.p :: X.map ZV.p) = 0 by have := HA0.out; rw [hX] at this; exact this)
              have B0 := Lib.hid (show ckL (y.p :: Y.map ZV.p) = 0 by have := HB0.out; rw [hY] at this; exact this)
              clear g0 g1 hX hY hn0 hk0
              subst ea eb
              have n0 : 0 < n := by omega
              have k0 : 0 < k := by omega
              by_cases hN : x.N = y.N
              · have hN2 : (x.N != y.N) = false := by simp [hN]
                have KN := Lib.hid hN
                clear hN
                have KV := Lib.hid (show ckL (L.map ZV.p ++ M.map ZV.p) = 0 from by rw [HX.out, HY.out]; exact ck_same A0.out B0.out KN.out)
                go_enter Tryz.func43, Tryz.ntmps43
                go_upto_region 3 with (fail)
                have KS := Lib.hid (show ∀ W, Below w.heap.size w W → (W.cell? a = some (.int .i64 x.N) ∧ W.cell? b = some (.int .i64 y.N)) from fun W h => ⟨kept h G0.out, kept h G1.out⟩)
                obtain ⟨wc, hwc⟩ : ∃ wc, wc = w.drew := ⟨_, rfl⟩
                have Bc := Lib.hid (show Below w.heap.size w wc by rw [hwc]; exact (Below.refl _ _).drew)
                refine wp_region_held_drew (S := (fun W => (W.cell? a = some (.int .i64 x.N) ∧ W.cell? b = some (.int .i64 y.N)))) (by kernel_rfl) (by rw [← hwc]; exact KS.out _ Bc.out) (fun h0 => ?_)
                rw [← hwc] at h0 ⊢
                clear hwc
                refine tkH (i := 0) (v := ?v55) rfl (Or.inl ⟨by rfl, ?hy55⟩) h0 ?rest55
                case hy55 => (intro w' hS; (try dsimp only at hS); go_simp; try (with_reducible rfl))
                simp only [Act.put, sA, sB, sD, sE, sF]
                refine wpAnyH_ready (rs := [1]) (by kernel_rfl) (by simp) (AllReadyH.cons rfl (fun K hK => ?_) AllReadyH.nil)
                rw [if_pos (by rfl)]
                go_simp
                refine (CL.out wc Bc.out).mono ?_
                rintro e wd ⟨rfl, hb⟩
                have Bc := Lib.hid (below_on Bc.out hb)
                clear hb
                obtain ⟨wc, hwc⟩ : ∃ wc, wc = wd := ⟨_, rfl⟩
                rw [← hwc] at Bc ⊢
                clear hwc
                go_simp
                refine hK.out _ _ (KS.out _ Bc.out) (fun h0_1 => ?_)
                clear hK K h0
                refine tkH (i := 2) (v := ?v56) rfl (Or.inl ⟨by rfl, ?hy56⟩) h0_1 ?rest56
                case hy56 => (intro w' hS; (try dsimp only at hS); go_simp; try (with_reducible rfl))
                simp only [Act.put, sZ]
                refine tkH (i := 3) (v := ?v57) rfl (Or.inl ⟨by rfl, ?hy57⟩) h0_1 ?rest57
                case hy57 => (intro w' hS; (try dsimp only at hS); go_simp; try (with_reducible rfl))
                simp only [Act.put, sZ]
                refine tkH (i := 4) (v := ?v58) rfl (Or.inl ⟨by rfl, ?hy58⟩) h0_1 ?rest58
                case hy58 => (intro w' hS; (try dsimp only at hS); go_simp; try (with_reducible rfl))
                simp only [Act.put, sZ]
                refine wpAnyH_ready (rs := [5]) (by kernel_rfl) (by simp) (AllReadyH.cons rfl (fun K hK => ?_) AllReadyH.nil)
                rw [if_pos (by rfl)]
                go_simp
                refine (CM.out wc Bc.out).mono ?_
                rintro e wd ⟨rfl, hb⟩
                have Bc := Lib.hid (below_on Bc.out hb)
                clear hb
                obtain ⟨wc, hwc⟩ : ∃ wc, wc = wd := ⟨_, rfl⟩
                rw [← hwc] at Bc ⊢
                clear hwc
                go_simp
                refine hK.out _ _ (KS.out _ Bc.out) (fun h0_2 => ?_)
                clear hK K h0_1
                refine tkH (i := 6) (v := ?v59) rfl (Or.inl ⟨by rfl, ?hy59⟩) h0_2 ?rest59
                case hy59 => (intro w' hS; (try dsimp only at hS); go_simp; try (with_reducible rfl))
                simp only [Act.put, sZ]
                refine tkH (i := 7) (v := ?v60) rfl (Or.inl ⟨by rfl, ?hy60⟩) h0_2 ?rest60
                case hy60 => (intro w' hS; (try dsimp only at hS); go_simp; try (with_reducible rfl))
                simp only [Act.put, sZ]
                refine tkH (i := 8) (v := ?v61) rfl (Or.inl ⟨by rfl, ?hy61⟩) h0_2 ?rest61
                case hy61 => (intro w' hS; (try dsimp only at hS); go_simp; try (with_reducible rfl))
                simp only [Act.put, sZ]
                refine tkH (i := 9) (v := ?v62) rfl (Or.inl ⟨by rfl, ?hy62⟩) h0_2 ?rest62
                case hy62 => (intro w' hS; (try dsimp only at hS); go_simp; try (with_reducible rfl))
                simp only [Act.put, sZ]
                refine tkH (i := 10) (v := ?v63) rfl (Or.inl ⟨by rfl, ?hy63⟩) h0_2 ?rest63
                case hy63 => (intro w' hS; (try dsimp only at hS); go_simp; try (with_reducible rfl))
                simp only [Act.put, sZ]
                refine tkH (i := 11) (v := ?v64) rfl (Or.inl ⟨by rfl, ?hy64⟩) h0_2 ?rest64
                case hy64 => (intro w' hS; (try dsimp only at hS); go_simp; try (with_reducible rfl))
                simp only [Act.put, sZ]
                refine tkH (i := 12) (v := ?v65) rfl (Or.inl ⟨by rfl, ?hy65⟩) h0_2 ?rest65
                case hy65 => (intro w' hS; (try dsimp only at hS); go_simp; try (with_reducible rfl))
                simp only [Act.put, sZ]
                refine tkH (i := 13) (v := ?v66) rfl (Or.inl ⟨by rfl, ?hy66⟩) h0_2 ?rest66
                case hy66 => (intro w' hS; (try dsimp only at hS); go_simp; try (with_reducible rfl))
                simp only [Act.put, sZ]
                refine tkH (i := 14) (v := ?v67) rfl (Or.inl ⟨by rfl, ?hy67⟩) h0_2 ?rest67
                case hy67 => (intro w' hS; (try dsimp only at hS); go_simp; try (with_reducible rfl))
                simp only [Act.put, sZ]
                refine tkH (i := 15) (v := ?v68) rfl (Or.inl ⟨by rfl, ?hy68⟩) h0_2 ?rest68
                case hy68 => (intro w' hS; (try dsimp only at hS); go_simp; try (with_reducible rfl))
                simp only [Act.put, sZ]
                refine tkH (i := 16) (v := ?v69) rfl (Or.inl ⟨by rfl, ?hy69⟩) h0_2 ?rest69
                case hy69 => (intro w' hS; (try dsimp only at hS); go_simp; try (with_reducible rfl))
                simp only [Act.put, sZ]
                refine tkH (i := 17) (v := ?v70) rfl (Or.inl ⟨by rfl, ?hy70⟩) h0_2 ?rest70
                case hy70 => (intro w' hS; (try dsimp only at hS); go_simp; try (with_reducible rfl))
                simp only [Act.put, sZ]
                refine tkH (i := 18) (v := ?v71) rfl (Or.inl ⟨by rfl, ?hy71⟩) h0_2 ?rest71
                case hy71 => (intro w' hS; (try dsimp only at hS); go_simp; try (with_reducible rfl))
                simp only [Act.put, sZ]
                refine tkH (i := 19) (v := ?v72) rfl (Or.inl ⟨by rfl, ?hy72⟩) h0_2 ?rest72
                case hy72 => (intro w' hS; (try dsimp only at hS); go_simp; try (with_reducible rfl))
                simp only [Act.put, sZ]
                refine tkH (i := 20) (v := ?v73) rfl (Or.inl ⟨by rfl, ?hy73⟩) h0_2 ?rest73
                case hy73 => (intro w' hS; (try dsimp only at hS); go_simp; try (with_reducible rfl))
                simp only [Act.put, sZ]
                refine tkH (i := 21) (v := ?v74) rfl (Or.inl ⟨by rfl, ?hy74⟩) h0_2 ?rest74
                case hy74 => (intro w' hS; (try dsimp only at hS); go_simp; try (with_reducible rfl))
                simp only [Act.put, sZ]
                refine tkH (i := 22) (v := ?v75) rfl (Or.inl ⟨by rfl, ?hy75⟩) h0_2 ?rest75
                case hy75 => (intro w' hS; (try dsimp only at hS); go_simp; try (with_reducible rfl))
                simp only [Act.put, sZ]
                refine tkH (i := 23) (v := ?v76) rfl (Or.inl ⟨by rfl, ?hy76⟩) h0_2 ?rest76
                case hy76 => (intro w' hS; (try dsimp only at hS); go_simp; try (with_reducible rfl))
                simp only [Act.put, sZ]
                refine tkH (i := 24) (v := ?v77) rfl (Or.inl ⟨by rfl, ?hy77⟩) h0_2 ?rest77
                case hy77 => (intro w' hS; (try dsimp only at hS); go_simp; try (with_reducible rfl))
                simp only [Act.put, sZ]
                refine tkH (i := 25) (v := ?v78) rfl (Or.inl ⟨by rfl, ?hy78⟩) h0_2 ?rest78
                case hy78 => (intro w' hS; (try dsimp only at hS); go_simp; try (with_reducible rfl))
                simp only [Act.put, sZ]
                refine tkH (i := 26) (v := ?v79) rfl (Or.inl ⟨by rfl, ?hy79⟩) h0_2 ?rest79
                case hy79 => (intro w' hS; (try dsimp only at hS); go_simp; try (with_reducible rfl))
                simp only [Act.put, sZ]
                refine tkH (i := 27) (v := ?v80) rfl (Or.inl ⟨by rfl, ?hy80⟩) h0_2 ?rest80
                case hy80 => (intro w' hS; (try dsimp only at hS); go_simp; try (with_reducible rfl))
                simp only [Act.put, sZ]
                refine tkH (i := 28) (v := ?v81) rfl (Or.inl ⟨by rfl, ?hy81⟩) h0_2 ?rest81
                case hy81 => (intro w' hS; (try dsimp only at hS); go_simp; try (with_reducible rfl))
                simp only [Act.put, sA, sB, sC, sD]
                try simp only [sF]
                try simp only [sE]
                refine wpAnyH_done (by kernel_rfl) ?_ _
                simp only [Exit.then]
                have BB := Lib.hid Bc.out
                skip
                go_wp2_with fail
                go_ret
                refine ⟨?_, BB.out⟩
                rw [EV.out, KV.out]
                rfl
              · have hN2 : (x.N != y.N) = true := by simpa using hN
                have KN := Lib.hid hN
                clear hN
                have KV := Lib.hid (show ckL (L.map ZV.p ++ M.map ZV.p) = 2 from by rw [HX.out, HY.out]; exact ck_diff KN.out)
                go_enter Tryz.func43, Tryz.ntmps43
                go_upto_region 3 with (fail)
                have KS := Lib.hid (show ∀ W, Below w.heap.size w W → (W.cell? a = some (.int .i64 x.N) ∧ W.cell? b = some (.int .i64 y.N)) from fun W h => ⟨kept h G0.out, kept h G1.out⟩)
                obtain ⟨wc, hwc⟩ : ∃ wc, wc = w.drew := ⟨_, rfl⟩
                have Bc := Lib.hid (show Below w.heap.size w wc by rw [hwc]; exact (Below.refl _ _).drew)
                refine wp_region_held_drew (S := (fun W => (W.cell? a = some (.int .i64 x.N) ∧ W.cell? b = some (.int .i64 y.N)))) (by kernel_rfl) (by rw [← hwc]; exact KS.out _ Bc.out) (fun h0 => ?_)
                rw [← hwc] at h0 ⊢
                clear hwc
                refine tkH (i := 0) (v := ?v82) rfl (Or.inl ⟨by rfl, ?hy82⟩) h0 ?rest82
                case hy82 => (intro w' hS; (try dsimp only at hS); go_simp; try (with_reducible rfl))
                simp only [Act.put, sA, sB, sD, sE, sF]
                refine wpAnyH_ready (rs := [1]) (by kernel_rfl) (by simp) (AllReadyH.cons rfl (fun K hK => ?_) AllReadyH.nil)
                rw [if_pos (by rfl)]
                go_simp
                refine (CL.out wc Bc.out).mono ?_
                rintro e wd ⟨rfl, hb⟩
                have Bc := Lib.hid (below_on Bc.out hb)
                clear hb
                obtain ⟨wc, hwc⟩ : ∃ wc, wc = wd := ⟨_, rfl⟩
                rw [← hwc] at Bc ⊢
                clear hwc
                go_simp
                refine hK.out _ _ (KS.out _ Bc.out) (fun h0_1 => ?_)
                clear hK K h0
                refine tkH (i := 2) (v := ?v83) rfl (Or.inl ⟨by rfl, ?hy83⟩) h0_1 ?rest83
                case hy83 => (intro w' hS; (try dsimp only at hS); go_simp; try (with_reducible rfl))
                simp only [Act.put, sZ]
                refine tkH (i := 3) (v := ?v84) rfl (Or.inl ⟨by rfl, ?hy84⟩) h0_1 ?rest84
                case hy84 => (intro w' hS; (try dsimp only at hS); go_simp; try (with_reducible rfl))
                simp only [Act.put, sZ]
                refine tkH (i := 4) (v := ?v85) rfl (Or.inl ⟨by rfl, ?hy85⟩) h0_1 ?rest85
                case hy85 => (intro w' hS; (try dsimp only at hS); go_simp; try (with_reducible rfl))
                simp only [Act.put, sZ]
                refine wpAnyH_ready (rs := [5]) (by kernel_rfl) (by simp) (AllReadyH.cons rfl (fun K hK => ?_) AllReadyH.nil)
                rw [if_pos (by rfl)]
                go_simp
                refine (CM.out wc Bc.out).mono ?_
                rintro e wd ⟨rfl, hb⟩
                have Bc := Lib.hid (below_on Bc.out hb)
                clear hb
                obtain ⟨wc, hwc⟩ : ∃ wc, wc = wd := ⟨_, rfl⟩
                rw [← hwc] at Bc ⊢
                clear hwc
                go_simp
                refine hK.out _ _ (KS.out _ Bc.out) (fun h0_2 => ?_)
                clear hK K h0_1
                refine tkH (i := 6) (v := ?v86) rfl (Or.inl ⟨by rfl, ?hy86⟩) h0_2 ?rest86
                case hy86 => (intro w' hS; (try dsimp only at hS); go_simp; try (with_reducible rfl))
                simp only [Act.put, sZ]
                refine tkH (i := 7) (v := ?v87) rfl (Or.inl ⟨by rfl, ?hy87⟩) h0_2 ?rest87
                case hy87 => (intro w' hS; (try dsimp only at hS); go_simp; try (with_reducible rfl))
                simp only [Act.put, sZ]
                refine tkH (i := 8) (v := ?v88) rfl (Or.inl ⟨by rfl, ?hy88⟩) h0_2 ?rest88
                case hy88 => (intro w' hS; (try dsimp only at hS); go_simp; try (with_reducible rfl))
                simp only [Act.put, sZ]
                refine tkH (i := 9) (v := ?v89) rfl (Or.inl ⟨by rfl, ?hy89⟩) h0_2 ?rest89
                case hy89 => (intro w' hS; (try dsimp only at hS); go_simp; try (with_reducible rfl))
                simp only [Act.put, sZ]
                refine tkH (i := 10) (v := ?v90) rfl (Or.inl ⟨by rfl, ?hy90⟩) h0_2 ?rest90
                case hy90 => (intro w' hS; (try dsimp only at hS); go_simp; try (with_reducible rfl))
                simp only [Act.put, sZ]
                refine tkH (i := 11) (v := ?v91) rfl (Or.inl ⟨by rfl, ?hy91⟩) h0_2 ?rest91
                case hy91 => (intro w' hS; (try dsimp only at hS); go_simp; try (with_reducible rfl))
                simp only [Act.put, sZ]
                refine tkH (i := 12) (v := ?v92) rfl (Or.inl ⟨by rfl, ?hy92⟩) h0_2 ?rest92
                case hy92 => (intro w' hS; (try dsimp only at hS); go_simp; try (with_reducible rfl))
                simp only [Act.put, sZ]
                refine tkH (i := 13) (v := ?v93) rfl (Or.inl ⟨by rfl, ?hy93⟩) h0_2 ?rest93
                case hy93 => (intro w' hS; (try dsimp only at hS); go_simp; try (with_reducible rfl))
                simp only [Act.put, sZ]
                refine tkH (i := 14) (v := ?v94) rfl (Or.inl ⟨by rfl, ?hy94⟩) h0_2 ?rest94
                case hy94 => (intro w' hS; (try dsimp only at hS); go_simp; try (with_reducible rfl))
                simp only [Act.put, sZ]
                refine tkH (i := 15) (v := ?v95) rfl (Or.inl ⟨by rfl, ?hy95⟩) h0_2 ?rest95
                case hy95 => (intro w' hS; (try dsimp only at hS); go_simp; try (with_reducible rfl))
                simp only [Act.put, sZ]
                refine tkH (i := 16) (v := ?v96) rfl (Or.inl ⟨by rfl, ?hy96⟩) h0_2 ?rest96
                case hy96 => (intro w' hS; (try dsimp only at hS); go_simp; try (with_reducible rfl))
                simp only [Act.put, sZ]
                refine tkH (i := 17) (v := ?v97) rfl (Or.inl ⟨by rfl, ?hy97⟩) h0_2 ?rest97
                case hy97 => (intro w' hS; (try dsimp only at hS); go_simp; try (with_reducible rfl))
                simp only [Act.put, sZ]
                refine tkH (i := 18) (v := ?v98) rfl (Or.inl ⟨by rfl, ?hy98⟩) h0_2 ?rest98
                case hy98 => (intro w' hS; (try dsimp only at hS); go_simp; try (with_reducible rfl))
                simp only [Act.put, sZ]
                refine tkH (i := 19) (v := ?v99) rfl (Or.inl ⟨by rfl, ?hy99⟩) h0_2 ?rest99
                case hy99 => (intro w' hS; (try dsimp only at hS); go_simp; try (with_reducible rfl))
                simp only [Act.put, sZ]
                refine tkH (i := 20) (v := ?v100) rfl (Or.inl ⟨by rfl, ?hy100⟩) h0_2 ?rest100
                case hy100 => (intro w' hS; (try dsimp only at hS); go_simp; try (with_reducible rfl))
                simp only [Act.put, sZ]
                refine tkH (i := 21) (v := ?v101) rfl (Or.inl ⟨by rfl, ?hy101⟩) h0_2 ?rest101
                case hy101 => (intro w' hS; (try dsimp only at hS); go_simp; try (with_reducible rfl))
                simp only [Act.put, sZ]
                refine tkH (i := 22) (v := ?v102) rfl (Or.inl ⟨by rfl, ?hy102⟩) h0_2 ?rest102
                case hy102 => (intro w' hS; (try dsimp only at hS); go_simp; try (with_reducible rfl))
                simp only [Act.put, sZ]
                refine tkH (i := 23) (v := ?v103) rfl (Or.inl ⟨by rfl, ?hy103⟩) h0_2 ?rest103
                case hy103 => (intro w' hS; (try dsimp only at hS); go_simp; try (with_reducible rfl))
                simp only [Act.put, sZ]
                refine tkH (i := 24) (v := ?v104) rfl (Or.inl ⟨by rfl, ?hy104⟩) h0_2 ?rest104
                case hy104 => (intro w' hS; (try dsimp only at hS); go_simp; try (with_reducible rfl))
                simp only [Act.put, sZ]
                refine tkH (i := 25) (v := ?v105) rfl (Or.inl ⟨by rfl, ?hy105⟩) h0_2 ?rest105
                case hy105 => (intro w' hS; (try dsimp only at hS); go_simp; try (with_reducible rfl))
                simp only [Act.put, sZ]
                refine tkH (i := 26) (v := ?v106) rfl (Or.inl ⟨by rfl, ?hy106⟩) h0_2 ?rest106
                case hy106 => (intro w' hS; (try dsimp only at hS); go_simp; try (with_reducible rfl))
                simp only [Act.put, sZ]
                refine tkH (i := 27) (v := ?v107) rfl (Or.inl ⟨by rfl, ?hy107⟩) h0_2 ?rest107
                case hy107 => (intro w' hS; (try dsimp only at hS); go_simp; try (with_reducible rfl))
                simp only [Act.put, sZ]
                refine tkH (i := 28) (v := ?v108) rfl (Or.inl ⟨by rfl, ?hy108⟩) h0_2 ?rest108
                case hy108 => (intro w' hS; (try dsimp only at hS); go_simp; try (with_reducible rfl))
                simp only [Act.put, sA, sB, sC, sD]
                try simp only [sF]
                try simp only [sE]
                refine wpAnyH_done (by kernel_rfl) ?_ _
                simp only [Exit.then]
                have BB := Lib.hid Bc.out
                skip
                go_wp2_with fail
                go_ret
                refine ⟨?_, BB.out⟩
                rw [EV.out, KV.out]
                rfl
        · have hb1 : (cb != 0) = true := by simpa using hb0
          have HB0 := Lib.hid (show ckL (M.map ZV.p) ≠ 0 by rw [← HCB.out]; exact hb0)
          clear ha0 hb0
          have KV := Lib.hid (show ckL (L.map ZV.p ++ M.map ZV.p) = 2 from ck_right HB0.out)
          go_enter Tryz.func43, Tryz.ntmps43
          go_upto_region 3 with (fail)
          have KS := Lib.hid (show ∀ W, Below w.heap.size w W → (Below w.heap.size w W ∧ True) from fun W h => ⟨h, trivial⟩)
          obtain ⟨wc, hwc⟩ : ∃ wc, wc = w.drew := ⟨_, rfl⟩
          have Bc := Lib.hid (show Below w.heap.size w wc by rw [hwc]; exact (Below.refl _ _).drew)
          refine wp_region_held_drew (S := (fun W => (Below w.heap.size w W ∧ True))) (by kernel_rfl) (by rw [← hwc]; exact KS.out _ Bc.out) (fun h0 => ?_)
          rw [← hwc] at h0 ⊢
          clear hwc
          refine tkH (i := 0) (v := ?v109) rfl (Or.inl ⟨by rfl, ?hy109⟩) h0 ?rest109
          case hy109 => (intro w' hS; (try dsimp only at hS); go_simp; try (with_reducible rfl))
          simp only [Act.put, sA, sB, sD, sE, sF]
          refine wpAnyH_ready (rs := [1]) (by kernel_rfl) (by simp) (AllReadyH.cons rfl (fun K hK => ?_) AllReadyH.nil)
          rw [if_pos (by rfl)]
          go_simp
          refine (CL.out wc Bc.out).mono ?_
          rintro e wd ⟨rfl, hb⟩
          have Bc := Lib.hid (below_on Bc.out hb)
          clear hb
          obtain ⟨wc, hwc⟩ : ∃ wc, wc = wd := ⟨_, rfl⟩
          rw [← hwc] at Bc ⊢
          clear hwc
          go_simp
          refine hK.out _ _ (KS.out _ Bc.out) (fun h0_1 => ?_)
          clear hK K h0
          refine tkH (i := 2) (v := ?v110) rfl (Or.inl ⟨by rfl, ?hy110⟩) h0_1 ?rest110
          case hy110 => (intro w' hS; (try dsimp only at hS); go_simp; try (with_reducible rfl))
          simp only [Act.put, sZ]
          refine tkH (i := 3) (v := ?v111) rfl (Or.inl ⟨by rfl, ?hy111⟩) h0_1 ?rest111
          case hy111 => (intro w' hS; (try dsimp only at hS); go_simp; try (with_reducible rfl))
          simp only [Act.put, sZ]
          refine tkH (i := 4) (v := ?v112) rfl (Or.inl ⟨by rfl, ?hy112⟩) h0_1 ?rest112
          case hy112 => (intro w' hS; (try dsimp only at hS); go_simp; try (with_reducible rfl))
          simp only [Act.put, sZ]
          refine wpAnyH_ready (rs := [5]) (by kernel_rfl) (by simp) (AllReadyH.cons rfl (fun K hK => ?_) AllReadyH.nil)
          rw [if_pos (by rfl)]
          go_simp
          refine (CM.out wc Bc.out).mono ?_
          rintro e wd ⟨rfl, hb⟩
          have Bc := Lib.hid (below_on Bc.out hb)
          clear hb
          obtain ⟨wc, hwc⟩ : ∃ wc, wc = wd := ⟨_, rfl⟩
          rw [← hwc] at Bc ⊢
          clear hwc
          go_simp
          refine hK.out _ _ (KS.out _ Bc.out) (fun h0_2 => ?_)
          clear hK K h0_1
          refine tkH (i := 6) (v := ?v113) rfl (Or.inl ⟨by rfl, ?hy113⟩) h0_2 ?rest113
          case hy113 => (intro w' hS; (try dsimp only at hS); go_simp; try (with_reducible rfl))
          simp only [Act.put, sZ]
          refine tkH (i := 7) (v := ?v114) rfl (Or.inl ⟨by rfl, ?hy114⟩) h0_2 ?rest114
          case hy114 => (intro w' hS; (try dsimp only at hS); go_simp; try (with_reducible rfl))
          simp only [Act.put, sZ]
          refine tkH (i := 8) (v := ?v115) rfl (Or.inl ⟨by rfl, ?hy115⟩) h0_2 ?rest115
          case hy115 => (intro w' hS; (try dsimp only at hS); go_simp; try (with_reducible rfl))
          simp only [Act.put, sZ]
          refine tkH (i := 9) (v := undef) rfl (Or.inr ⟨by rfl, rfl⟩) h0_2 ?_
          simp only [Act.put, sZ]
          refine tkH (i := 10) (v := undef) rfl (Or.inr ⟨by rfl, rfl⟩) h0_2 ?_
          simp only [Act.put, sZ]
          refine tkH (i := 11) (v := undef) rfl (Or.inr ⟨by rfl, rfl⟩) h0_2 ?_
          simp only [Act.put, sZ]
          refine tkH (i := 12) (v := undef) rfl (Or.inr ⟨by rfl, rfl⟩) h0_2 ?_
          simp only [Act.put, sZ]
          refine tkH (i := 13) (v := undef) rfl (Or.inr ⟨by rfl, rfl⟩) h0_2 ?_
          simp only [Act.put, sZ]
          refine tkH (i := 14) (v := undef) rfl (Or.inr ⟨by rfl, rfl⟩) h0_2 ?_
          simp only [Act.put, sZ]
          refine tkH (i := 15) (v := undef) rfl (Or.inr ⟨by rfl, rfl⟩) h0_2 ?_
          simp only [Act.put, sZ]
          refine tkH (i := 16) (v := undef) rfl (Or.inr ⟨by rfl, rfl⟩) h0_2 ?_
          simp only [Act.put, sZ]
          refine tkH (i := 17) (v := undef) rfl (Or.inr ⟨by rfl, rfl⟩) h0_2 ?_
          simp only [Act.put, sZ]
          refine tkH (i := 18) (v := undef) rfl (Or.inr ⟨by rfl, rfl⟩) h0_2 ?_
          simp only [Act.put, sZ]
          refine tkH (i := 19) (v := undef) rfl (Or.inr ⟨by rfl, rfl⟩) h0_2 ?_
          simp only [Act.put, sZ]
          refine tkH (i := 20) (v := undef) rfl (Or.inr ⟨by rfl, rfl⟩) h0_2 ?_
          simp only [Act.put, sZ]
          refine tkH (i := 21) (v := undef) rfl (Or.inr ⟨by rfl, rfl⟩) h0_2 ?_
          simp only [Act.put, sZ]
          refine tkH (i := 22) (v := undef) rfl (Or.inr ⟨by rfl, rfl⟩) h0_2 ?_
          simp only [Act.put, sZ]
          refine tkH (i := 23) (v := undef) rfl (Or.inr ⟨by rfl, rfl⟩) h0_2 ?_
          simp only [Act.put, sZ]
          refine tkH (i := 24) (v := undef) rfl (Or.inr ⟨by rfl, rfl⟩) h0_2 ?_
          simp only [Act.put, sZ]
          refine tkH (i := 25) (v := undef) rfl (Or.inr ⟨by rfl, rfl⟩) h0_2 ?_
          simp only [Act.put, sZ]
          refine tkH (i := 26) (v := undef) rfl (Or.inr ⟨by rfl, rfl⟩) h0_2 ?_
          simp only [Act.put, sZ]
          refine tkH (i := 27) (v := undef) rfl (Or.inr ⟨by rfl, rfl⟩) h0_2 ?_
          simp only [Act.put, sZ]
          refine tkH (i := 28) (v := ?v135) rfl (Or.inl ⟨by rfl, ?hy135⟩) h0_2 ?rest135
          case hy135 => (intro w' hS; (try dsimp only at hS); go_simp; try (with_reducible rfl))
          simp only [Act.put, sA, sB, sC, sD]
          try simp only [sF]
          try simp only [sE]
          refine wpAnyH_done (by kernel_rfl) ?_ _
          simp only [Exit.then]
          have BB := Lib.hid Bc.out
          skip
          go_wp2_with fail
          go_ret
          refine ⟨?_, BB.out⟩
          rw [EV.out, KV.out]
          rfl
      · have ha1 : (ca != 0) = true := by simpa using ha0
        have HA0 := Lib.hid (show ckL (L.map ZV.p) ≠ 0 by rw [← HCA.out]; exact ha0)
        clear ha0
        have KV := Lib.hid (show ckL (L.map ZV.p ++ M.map ZV.p) = 2 from ck_left HA0.out)
        go_enter Tryz.func43, Tryz.ntmps43
        go_upto_region 3 with (fail)
        have KS := Lib.hid (show ∀ W, Below w.heap.size w W → (Below w.heap.size w W ∧ True) from fun W h => ⟨h, trivial⟩)
        obtain ⟨wc, hwc⟩ : ∃ wc, wc = w.drew := ⟨_, rfl⟩
        have Bc := Lib.hid (show Below w.heap.size w wc by rw [hwc]; exact (Below.refl _ _).drew)
        refine wp_region_held_drew (S := (fun W => (Below w.heap.size w W ∧ True))) (by kernel_rfl) (by rw [← hwc]; exact KS.out _ Bc.out) (fun h0 => ?_)
        rw [← hwc] at h0 ⊢
        clear hwc
        refine tkH (i := 0) (v := ?v136) rfl (Or.inl ⟨by rfl, ?hy136⟩) h0 ?rest136
        case hy136 => (intro w' hS; (try dsimp only at hS); go_simp; try (with_reducible rfl))
        simp only [Act.put, sA, sB, sD, sE, sF]
        refine wpAnyH_ready (rs := [1]) (by kernel_rfl) (by simp) (AllReadyH.cons rfl (fun K hK => ?_) AllReadyH.nil)
        rw [if_pos (by rfl)]
        go_simp
        refine (CL.out wc Bc.out).mono ?_
        rintro e wd ⟨rfl, hb⟩
        have Bc := Lib.hid (below_on Bc.out hb)
        clear hb
        obtain ⟨wc, hwc⟩ : ∃ wc, wc = wd := ⟨_, rfl⟩
        rw [← hwc] at Bc ⊢
        clear hwc
        go_simp
        refine hK.out _ _ (KS.out _ Bc.out) (fun h0_1 => ?_)
        clear hK K h0
        refine tkH (i := 2) (v := ?v137) rfl (Or.inl ⟨by rfl, ?hy137⟩) h0_1 ?rest137
        case hy137 => (intro w' hS; (try dsimp only at hS); go_simp; try (with_reducible rfl))
        simp only [Act.put, sZ]
        refine tkH (i := 3) (v := ?v138) rfl (Or.inl ⟨by rfl, ?hy138⟩) h0_1 ?rest138
        case hy138 => (intro w' hS; (try dsimp only at hS); go_simp; try (with_reducible rfl))
        simp only [Act.put, sZ]
        refine tkH (i := 4) (v := undef) rfl (Or.inr ⟨by rfl, rfl⟩) h0_1 ?_
        simp only [Act.put, sZ]
        refine tkH (i := 5) (v := undef) rfl (Or.inr ⟨by rfl, rfl⟩) h0_1 ?_
        simp only [Act.put, sZ]
        refine tkH (i := 6) (v := undef) rfl (Or.inr ⟨by rfl, rfl⟩) h0_1 ?_
        simp only [Act.put, sZ]
        refine tkH (i := 7) (v := ?v142) rfl (Or.inl ⟨by rfl, ?hy142⟩) h0_1 ?rest142
        case hy142 => (intro w' hS; (try dsimp only at hS); go_simp; try (with_reducible rfl))
        simp only [Act.put, sZ]
        refine tkH (i := 8) (v := ?v143) rfl (Or.inl ⟨by rfl, ?hy143⟩) h0_1 ?rest143
        case hy143 => (intro w' hS; (try dsimp only at hS); go_simp; try (with_reducible rfl))
        simp only [Act.put, sZ]
        refine tkH (i := 9) (v := undef) rfl (Or.inr ⟨by rfl, rfl⟩) h0_1 ?_
        simp only [Act.put, sZ]
        refine tkH (i := 10) (v := undef) rfl (Or.inr ⟨by rfl, rfl⟩) h0_1 ?_
        simp only [Act.put, sZ]
        refine tkH (i := 11) (v := undef) rfl (Or.inr ⟨by rfl, rfl⟩) h0_1 ?_
        simp only [Act.put, sZ]
        refine tkH (i := 12) (v := undef) rfl (Or.inr ⟨by rfl, rfl⟩) h0_1 ?_
        simp only [Act.put, sZ]
        refine tkH (i := 13) (v := undef) rfl (Or.inr ⟨by rfl, rfl⟩) h0_1 ?_
        simp only [Act.put, sZ]
        refine tkH (i := 14) (v := undef) rfl (Or.inr ⟨by rfl, rfl⟩) h0_1 ?_
        simp only [Act.put, sZ]
        refine tkH (i := 15) (v := undef) rfl (Or.inr ⟨by rfl, rfl⟩) h0_1 ?_
        simp only [Act.put, sZ]
        refine tkH (i := 16) (v := undef) rfl (Or.inr ⟨by rfl, rfl⟩) h0_1 ?_
        simp only [Act.put, sZ]
        refine tkH (i := 17) (v := undef) rfl (Or.inr ⟨by rfl, rfl⟩) h0_1 ?_
        simp only [Act.put, sZ]
        refine tkH (i := 18) (v := undef) rfl (Or.inr ⟨by rfl, rfl⟩) h0_1 ?_
        simp only [Act.put, sZ]
        refine tkH (i := 19) (v := undef) rfl (Or.inr ⟨by rfl, rfl⟩) h0_1 ?_
        simp only [Act.put, sZ]
        refine tkH (i := 20) (v := undef) rfl (Or.inr ⟨by rfl, rfl⟩) h0_1 ?_
        simp only [Act.put, sZ]
        refine tkH (i := 21) (v := undef) rfl (Or.inr ⟨by rfl, rfl⟩) h0_1 ?_
        simp only [Act.put, sZ]
        refine tkH (i := 22) (v := undef) rfl (Or.inr ⟨by rfl, rfl⟩) h0_1 ?_
        simp only [Act.put, sZ]
        refine tkH (i := 23) (v := undef) rfl (Or.inr ⟨by rfl, rfl⟩) h0_1 ?_
        simp only [Act.put, sZ]
        refine tkH (i := 24) (v := undef) rfl (Or.inr ⟨by rfl, rfl⟩) h0_1 ?_
        simp only [Act.put, sZ]
        refine tkH (i := 25) (v := undef) rfl (Or.inr ⟨by rfl, rfl⟩) h0_1 ?_
        simp only [Act.put, sZ]
        refine tkH (i := 26) (v := undef) rfl (Or.inr ⟨by rfl, rfl⟩) h0_1 ?_
        simp only [Act.put, sZ]
        refine tkH (i := 27) (v := undef) rfl (Or.inr ⟨by rfl, rfl⟩) h0_1 ?_
        simp only [Act.put, sZ]
        refine tkH (i := 28) (v := ?v163) rfl (Or.inl ⟨by rfl, ?hy163⟩) h0_1 ?rest163
        case hy163 => (intro w' hS; (try dsimp only at hS); go_simp; try (with_reducible rfl))
        simp only [Act.put, sA, sB, sC, sD]
        try simp only [sF]
        try simp only [sE]
        refine wpAnyH_done (by kernel_rfl) ?_ _
        simp only [Exit.then]
        have BB := Lib.hid Bc.out
        skip
        go_wp2_with fail
        go_ret
        refine ⟨?_, BB.out⟩
        rw [EV.out, KV.out]
        rfl

theorem both_any (L M : List ZV) (go ho : Option Addr) (gc hc : Nat) (w : World) (hL : RdZ 0 w go L) (hM : RdZ 0 w ho M) (hl : L.length ≤ 1000000) (hm : M.length ≤ 1000000) :
    Calls Tryz.prog 43 #[.slice go L.length gc, .slice ho M.length hc] w (Made (.int .i64 (chkG [L.map ZV.p, M.map ZV.p])) w) := bothW_any L M go ho gc hc w hL.weak hM.weak hl hm
end Go.Proofs.YtaegiihkgicdnaaGreat
