/- A part. -/
import Derived.Test.YthjapmdfcbngmaaGreatWr11
import Derived.Test.YthjapmdfcbngmaaGreatWr39
import Derived.Test.YthjapmdfcbngmaaGreatWr40
namespace Go.Proofs.YthjapmdfcbngmaaGreat
set_option maxHeartbeats 8000000
open Go.RowKit
def mtA (n f : Nat) (ps : List Pq) : Bool := (List.range (n + 1)).all fun i => (List.range (n + 1)).all fun j => decide (i < f) || decide (j < f) || decide (sbE ps i j = 0)
def mtH (n f : Nat) (l : List Int) (ps : List Pq) : Bool := (List.range (n + 1)).all fun i => (List.range (n + 1)).all fun j => decide (i < f) || decide (j < f) || hsM n l ps i j
def omR (n f : Nat) (l : List Int) (ps : List Pq) : Bool × Int := if mtA n f ps then (mtH n f l ps, 0) else (false, 7)
theorem mtA_iff {n f : Nat} {ps : List Pq} : mtA n f ps = true ↔ ∀ i, f ≤ i → i < n + 1 → ∀ j, f ≤ j → j < n + 1 → sbE ps i j = 0 := by
 unfold mtA
 simp only [List.all_eq_true, List.mem_range, Bool.or_eq_true, decide_eq_true_eq]
 constructor
 · intro h i h1 h2 j h3 h4
   rcases h i h2 j h4 with (h | h) | h
   · omega
   · omega
   · exact h
 · intro h i h2 j h4
   by_cases h1 : i < f
   · exact Or.inl (Or.inl h1)
   · by_cases h3 : j < f
     · exact Or.inl (Or.inr h3)
     · exact Or.inr (h i (by omega) h2 j (by omega) h4)
theorem mtH_iff {n f : Nat} {l : List Int} {ps : List Pq} : mtH n f l ps = true ↔ ∀ i, f ≤ i → i < n + 1 → ∀ j, f ≤ j → j < n + 1 → hsM n l ps i j = true := by
 unfold mtH
 simp only [List.all_eq_true, List.mem_range, Bool.or_eq_true, decide_eq_true_eq]
 constructor
 · intro h i h1 h2 j h3 h4
   rcases h i h2 j h4 with (h | h) | h
   · omega
   · omega
   · exact h
 · intro h i h2 j h4
   by_cases h1 : i < f
   · exact Or.inl (Or.inl h1)
   · by_cases h3 : j < f
     · exact Or.inl (Or.inr h3)
     · exact Or.inr (h i (by omega) h2 j (by omega) h4)
theorem mtR_ok {n f : Nat} {l : List Int} {ps : List Pq} {mb : Bool} (h : ∀ i, f ≤ i → i < n + 1 → ∀ j, f ≤ j → j < n + 1 → sbE ps i j = 0) (hm : mb = true ↔ ∀ i, f ≤ i → i < n + 1 → ∀ j, f ≤ j → j < n + 1 → hsM n l ps i j = true) : omR n f l ps = (mb, 0) := by
 unfold omR
 rw [if_pos (mtA_iff.2 h)]
 have : mtH n f l ps = mb := by rw [Bool.eq_iff_iff]; exact mtH_iff.trans hm.symm
 rw [this]
theorem mtR_no {n f : Nat} {l : List Int} {ps : List Pq} {i j : Nat} (h1 : f ≤ i) (h2 : i < n + 1) (h3 : f ≤ j) (h4 : j < n + 1) (h : sbE ps i j ≠ 0) : omR n f l ps = (false, 7) := by
 unfold omR
 rw [if_neg]
 intro e
 exact h (mtA_iff.1 e i h1 h2 j h3 h4)
theorem clk_gp (ps : List Pq) (i : Nat) : gp ((0, 1) :: ps) i = clk ps i := by
 unfold clk
 cases i with
 | zero => rfl
 | succ i => simp [gp]
theorem sbE_or {ps : List Pq} (h : ∀ k, k < ps.length → vldC (gp ps k) = true) {i j : Nat} (hi : i ≤ ps.length) (hj : j ≤ ps.length) : sbE ps i j = 0 ∨ sbE ps i j = 7 := by
 have v1 := vld_bd (clk_ok h hi)
 have v2 := vld_bd (clk_ok h hj)
 by_cases e : sbE ps i j = 0
 · exact Or.inl e
 · right
   unfold sbE at e ⊢
   refine (mk_zero ?_ e).2.2
   intro q
   rcases Int.mul_eq_zero.1 q with q | q <;> omega
theorem psub_clk {ps : List Pq} (w : World) (h : ∀ k, k < ps.length → vldC (gp ps k) = true) {i j : Nat} (hi : i ≤ ps.length) (hj : j ≤ ps.length) :
  Calls Tryz.prog 149 #[.agg #[.int .i64 (clk ps i).1, .int .i64 (clk ps i).2], .agg #[.int .i64 (clk ps j).1, .int .i64 (clk ps j).2]] w (Made (.tuple #[.agg #[.int .i64 (sbN ps i j), .int .i64 (sbD ps i j)], .int .i64 (sbE ps i j)]) w) := by
 have v1 := clk_ok h hi
 have v2 := clk_ok h hj
 obtain ⟨a1, a2, a3, a4⟩ := vld_bd v1
 obtain ⟨b1, b2, b3, b4⟩ := vld_bd v2
 have := sub_any (clk ps i).1 (clk ps i).2 (clk ps j).1 (clk ps j).2 w (by unfold I64; omega) (by unfold I64; omega) (by unfold I64; omega) (by unfold I64; omega)
 rw [v1, v2] at this
 exact this
theorem sb_vld {ps : List Pq} {i j : Nat} (h : sbE ps i j = 0) : vldB (sbN ps i j) (sbD ps i j) = true := (mk_ok h).2.1
theorem chk_lv {n : Nat} {l : List Int} (h : chkE (n : Int) l = 0) {i j : Nat} (hi : i ≤ n) (hj : j ≤ n) : lvB (Zo.At n l i j) = true := by
 unfold chkE at h
 split at h
 · rename_i c
   unfold chkB at c
   simp only [Bool.and_eq_true] at c
   have := chk1_iff.1 c.1.2 i (by simp; omega) j (by simp; omega)
   simp only [Int.toNat_natCast] at this
   unfold okI at this
   simp only [Bool.and_eq_true] at this
   exact this.1.1
 · omega
set_option maxRecDepth 100000 in
theorem meets_any (n f : Nat) (l : List Int) (ps : List Pq) (b0 : Nat) (a : Addr) (cap : Nat) (w : World) (hc : chkE n l = 0) (hf : f ≤ 1) (hp : ps.length = n) (hM : Mx w b0 n l) (hP : Rd2 w a ((0, 1) :: ps)) (hV : ps.all vldC = true) :
  Calls Tryz.prog 117 #[.pointer (some ⟨b0, 0, none⟩), .slice (some a) (n + 1) cap, .int .i64 f] w (Made (.tuple #[.bool (omR n f l ps).1, .int .i64 (omR n f l ps).2]) w) := by
 obtain ⟨n', en, hn, hl, _⟩ := chk_ok hc
 obtain rfl : n' = n := by omega
 clear en
 have hv := rd_all hV
 have HSB := Lib.hid (fun (i j : Nat) (hi : i ≤ n') (hj : j ≤ n') W => psub_clk (ps := ps) W hv (i := i) (j := j) (by omega) (by omega))
 have HOR := Lib.hid (fun (i j : Nat) (hi : i ≤ n') (hj : j ≤ n') => sbE_or (ps := ps) hv (i := i) (j := j) (by omega) (by omega))
 have HMT := Lib.hid (fun (i j : Nat) W (hi : i ≤ n') (hj : j ≤ n') (h0 : sbE ps i j = 0) => show Calls Tryz.prog 150 #[.agg #[.int .i64 (sbN ps i j), .int .i64 (sbD ps i j)], .int .i64 (Zo.At n' l i j)] W (Made (.tuple #[.bool (hsM n' l ps i j), .int .i64 0]) W) from by
  have hb := vld_bd (sb_vld h0)
  have := limMeets_any (sbN ps i j) (sbD ps i j) (Zo.At n' l i j) W (by unfold I64; omega) (by unfold I64; omega) (chk_i64 hc hi hj)
  rw [show meE (sbN ps i j) (sbD ps i j) (Zo.At n' l i j) = 0 by unfold meE; rw [sb_vld h0, chk_lv hc hi hj]; rfl] at this
  exact this)
 have HP := Lib.hid hP
 have HM := Lib.hid hM
 have HPL := Lib.hid hp
 have HLL := Lib.hid hl
 have HKP := Lib.hid (show ∀ W, Below w.heap.size w W → Mx W b0 n' l from fun W h => hM.of_block (h.block _ hM.lt))
 clear hP hM hp hl hv hV hc
 go_enter Tryz.func117, Tryz.ntmps117
 go_wp2_with fail
 go_loopw [8, 9] (fun s t wr => ∃ (i : Nat) (mb : Bool), f ≤ i ∧ i ≤ n' + 1 ∧ s = .bool mb ∧ t = .int .i64 i ∧ Hid (mb = true ↔ ∀ x, f ≤ x → x < i → ∀ y, f ≤ y → y < n' + 1 → hsM n' l ps x y = true) ∧ Hid (∀ x, f ≤ x → x < i → ∀ y, f ≤ y → y < n' + 1 → sbE ps x y = 0) ∧ Hid (Below w.heap.size w wr)) (fun _ t _ => n' + 1 - (intOf t).toNat)
 case atStart => exact ⟨f, true, by omega, by omega, rfl, rfl, Lib.hid ⟨fun _ x h1 h2 => by omega, fun _ => rfl⟩, Lib.hid (fun x h1 h2 => by omega), Lib.hid (Below.refl _ _)⟩
 case round =>
  obtain ⟨i, mb, hif, hin, rfl, rfl, HS1, HS2, HB⟩ := hrel
  have d0 := (HKP.out _ HB.out).dim
  by_cases hi : i ≤ n'
  case neg =>
   have D : decide ((i : Int) ≤ (n' : Int)) = false := by simp; omega
   have HE := Lib.hid (show omR n' f l ps = (mb, 0) from by
    have e : i = n' + 1 := by omega
    have h1 := HS1.out
    have h2 := HS2.out
    rw [e] at h1 h2
    exact mtR_ok h2 h1)
   go_wp2_with fail
   go_ret2
   exact ⟨by rw [HE.out]; rfl, HB.out⟩
  case pos =>
   have D : decide ((i : Int) ≤ (n' : Int)) = true := by simp; omega
   go_wp2_with fail
   clear d0
   go_loopw [8, 10] (fun s t wr => ∃ (j : Nat) (mc : Bool), f ≤ j ∧ j ≤ n' + 1 ∧ s = .bool mc ∧ t = .int .i64 j ∧ Hid (mc = true ↔ (∀ x, f ≤ x → x < i → ∀ y, f ≤ y → y < n' + 1 → hsM n' l ps x y = true) ∧ ∀ y, f ≤ y → y < j → hsM n' l ps i y = true) ∧ Hid (∀ x, f ≤ x → x < i → ∀ y, f ≤ y → y < n' + 1 → sbE ps x y = 0) ∧ Hid (∀ y, f ≤ y → y < j → sbE ps i y = 0) ∧ Hid (Below w.heap.size w wr)) (fun _ t _ => n' + 1 - (intOf t).toNat)
   case atStart => exact ⟨f, mb, by omega, by omega, rfl, rfl, Lib.hid ⟨fun h => ⟨HS1.out.1 h, fun y h1 h2 => by omega⟩, fun h => HS1.out.2 h.1⟩, HS2, Lib.hid (fun y h1 h2 => by omega), HB⟩
   case round =>
    clear HS1 HS2 HB
    obtain ⟨j, mc, hjf, hjn, rfl, rfl, HS1, HS2, HS5, HB⟩ := hrel
    have d0 := (HKP.out _ HB.out).dim
    by_cases hj : j ≤ n'
    case neg =>
     have E : decide ((j : Int) ≤ (n' : Int)) = false := by simp; omega
     have HT1 := Lib.hid (show mc = true ↔ ∀ x, f ≤ x → x < i + 1 → ∀ y, f ≤ y → y < n' + 1 → hsM n' l ps x y = true from by
      rw [HS1.out]
      constructor
      · intro h x h1 h2 y h3 h4
        by_cases e : x = i
        · rw [e]; exact h.2 y h3 (by omega)
        · exact h.1 x h1 (by omega) y h3 h4
      · intro h
        exact ⟨fun x h1 h2 => h x h1 (by omega), fun y h1 h2 => h i hif (by omega) y h1 (by omega)⟩)
     have HT2 := Lib.hid (show ∀ x, f ≤ x → x < i + 1 → ∀ y, f ≤ y → y < n' + 1 → sbE ps x y = 0 from fun x h1 h2 y h3 h4 => by
      by_cases e : x = i
      · rw [e]; exact HS5.out y h3 (by omega)
      · exact HS2.out x h1 (by omega) y h3 h4)
     go_wp2_with fail
     go_roundw
     case rel => exact ⟨i + 1, mc, by omega, by omega, rfl, by go_num, HT1, HT2, HB⟩
     case measure => simp [intOf]; omega
    case pos =>
     have E : decide ((j : Int) ≤ (n' : Int)) = true := by simp; omega
     have SB := Lib.hid (fun W => HSB.out i j hi hj W)
     have hor := HOR.out i j hi hj
     have MT0 := Lib.hid (fun W => HMT.out i j W hi hj)
     obtain ⟨sn, hsn⟩ : ∃ x, x = sbN ps i j := ⟨_, rfl⟩
     obtain ⟨sd, hsd⟩ : ∃ x, x = sbD ps i j := ⟨_, rfl⟩
     obtain ⟨se, hse⟩ : ∃ x, x = sbE ps i j := ⟨_, rfl⟩
     obtain ⟨ok, hok⟩ : ∃ x, x = hsM n' l ps i j := ⟨_, rfl⟩
     obtain ⟨lv, hlv⟩ : ∃ x, x = Zo.At n' l i j := ⟨_, rfl⟩
     rw [← hsn, ← hsd, ← hse] at SB
     rw [← hse] at hor
     rw [← hsn, ← hsd, ← hse, ← hlv, ← hok] at MT0
     have ix := Zo.ix_lt hi hj
     have e1 := Lib.hid (show ∀ W, Mx W b0 n' l → W.cell? ⟨b0, 1 + i * (n' + 1) + j, none⟩ = some (.int .i64 lv) from fun W h => by rw [hlv, Nat.add_assoc]; exact h.at (by rw [h.2]; exact ix))
     have HSE := Lib.hid hse
     have HOK := Lib.hid hok
     have KS0 := Lib.hid (show ∀ W, Below w.heap.size w W → ((W.cell? (a.add (i * 2)) = some (.int .i64 (clk ps i).1) ∧ W.cell? ⟨(a.add (i * 2)).block, (a.add (i * 2)).off + 1, none⟩ = some (.int .i64 (clk ps i).2)) ∧ (W.cell? (a.add (j * 2)) = some (.int .i64 (clk ps j).1) ∧ W.cell? ⟨(a.add (j * 2)).block, (a.add (j * 2)).off + 1, none⟩ = some (.int .i64 (clk ps j).2))) from fun W h => by
      have h1 := (HP.out.on h) i (by simp [HPL.out]; omega)
      have h2 := (HP.out.on h) j (by simp [HPL.out]; omega)
      rw [clk_gp] at h1 h2
      exact ⟨h1, h2⟩)
     obtain ⟨xn, hxn⟩ : ∃ x, x = (clk ps i).1 := ⟨_, rfl⟩
     obtain ⟨xd, hxd⟩ : ∃ x, x = (clk ps i).2 := ⟨_, rfl⟩
     obtain ⟨yn, hyn⟩ : ∃ x, x = (clk ps j).1 := ⟨_, rfl⟩
     obtain ⟨yd, hyd⟩ : ∃ x, x = (clk ps j).2 := ⟨_, rfl⟩
     rw [← hxn, ← hxd, ← hyn, ← hyd] at SB KS0
     have KS := KS0
     clear hxn hxd hyn hyd hsn hsd hse hok hlv ix KS0
     have t1 : (i : Int) < (n' : Int) + 1 := by omega
     have t2 : (j : Int) < (n' : Int) + 1 := by omega
     go_upto_region 8 with (fail)
     clear d0
     go_cut [11, 12] (fun p s wx => ∃ b : Nat, p = .pointer (some ⟨b, 0, none⟩) ∧ s = .int .i64 se ∧ Hid (Pair wx b sn sd ∧ Below w.heap.size w wx))
     case first =>
      obtain ⟨wc, hwc⟩ : ∃ wc, wc = wr.drew := ⟨_, rfl⟩
      have Bc := Lib.hid (show Below w.heap.size w wc by rw [hwc]; exact HB.out.drew)
      refine wp_region_held_drew (S := (fun w' => (w'.cell? (a.add (i * 2)) = some (.int .i64 xn) ∧ w'.cell? ⟨(a.add (i * 2)).block, (a.add (i * 2)).off + 1, none⟩ = some (.int .i64 xd)) ∧ (w'.cell? (a.add (j * 2)) = some (.int .i64 yn) ∧ w'.cell? ⟨(a.add (j * 2)).block, (a.add (j * 2)).off + 1, none⟩ = some (.int .i64 yd)))) (by kernel_rfl) (by rw [← hwc]; exact KS.out _ Bc.out) (fun h0 => ?_)
      rw [← hwc] at h0 ⊢
      clear hwc
      refine tkI (i := 0) rfl h0 ?_
      simp only [Act.put, sA, sB, sD, sE, sF]
      refine tkI (i := 1) rfl h0 ?_
      simp only [Act.put, sZ]
      refine tkI (i := 2) rfl h0 ?_
      simp only [Act.put, sZ]
      refine tkI (i := 3) rfl h0 ?_
      simp only [Act.put, sZ]
      refine tkI (i := 4) rfl h0 ?_
      simp only [Act.put, sZ]
      refine tkI (i := 5) rfl h0 ?_
      simp only [Act.put, sZ]
      refine tkI (i := 6) rfl h0 ?_
      simp only [Act.put, sZ]
      refine tkI (i := 7) rfl h0 ?_
      simp only [Act.put, sZ]
      refine wpAnyH_ready (rs := [8, 12]) (by kernel_rfl) (by simp) (AllReadyH.cons rfl (fun K hK => ?_) (AllReadyH.cons rfl (fun K hK => ?_) AllReadyH.nil))
      · rw [if_pos (by rfl)]
        go_simp
        refine (SB.out _).mono ?_
        rintro e wc ⟨rfl, hb3⟩
        have Bc := Lib.hid (below_on Bc.out hb3)
        try have PA := Lib.hid (PA.out.kept hb3)
        clear hb3
        go_simp
        refine hK.out _ _ (KS.out _ Bc.out) (fun h0_1 => ?_)
        clear hK K h0
        try obtain ⟨p0, p1, p2, p3⟩ := PA.out.facts
        refine tkI (i := 9) rfl h0_1 ?_
        simp only [Act.put, sZ]
        refine tkI (i := 10) rfl h0_1 ?_
        simp only [Act.put, sZ]
        refine tkI (i := 11) rfl h0_1 ?_
        simp only [Act.put, sZ]
        refine wpAnyH_ready (rs := [12]) (by kernel_rfl) (by simp) (AllReadyH.cons rfl (fun K hK => ?_) AllReadyH.nil)
        rw [if_pos (by rfl)]
        go_simp
        have hsz := Bc.out.size
        obtain ⟨wa, hwa⟩ : ∃ wa, wa = wc.alloc (.cells #[.int .i64 0, .int .i64 0] 45) := ⟨_, rfl⟩
        rw [← hwa]
        have PA := Lib.hid (show Pair wa wc.heap.size 0 0 by rw [hwa]; exact Pair.made _ _ _ _)
        have Bc := Lib.hid (show Below w.heap.size w wa by rw [hwa]; exact Bc.out.alloc Bc.out.size _)
        clear hwa
        go_simp
        refine hK.out _ _ (KS.out _ Bc.out) (fun h0_2 => ?_)
        clear hK K h0_1
        obtain ⟨p0, p1, p2, p3⟩ := PA.out.facts
        refine wpAnyH_ready (rs := [13]) (by kernel_rfl) (by simp) (AllReadyH.cons rfl (fun K hK => ?_) AllReadyH.nil)
        rw [if_pos (by rfl)]
        go_simp
        refine hK.out _ _ (KS.out _ (below_put Bc.out (by omega) _ _)) (fun h0_3 => ?_)
        clear hK K h0_2
        refine tkI (i := 14) rfl h0_3 ?_
        simp only [Act.put, sZ]
        refine wpAnyH_done (by kernel_rfl) ?_ _
        go_wp2_with fail
        go_meet
        case rel => exact ⟨_, rfl, rfl, Lib.hid ⟨PA.out.put _ _, below_put Bc.out (by omega) _ _⟩⟩
      · rw [if_pos (by rfl)]
        go_simp
        have hsz := Bc.out.size
        obtain ⟨wa, hwa⟩ : ∃ wa, wa = wc.alloc (.cells #[.int .i64 0, .int .i64 0] 45) := ⟨_, rfl⟩
        rw [← hwa]
        have PA := Lib.hid (show Pair wa wc.heap.size 0 0 by rw [hwa]; exact Pair.made _ _ _ _)
        have Bc := Lib.hid (show Below w.heap.size w wa by rw [hwa]; exact Bc.out.alloc Bc.out.size _)
        clear hwa
        go_simp
        refine hK.out _ _ (KS.out _ Bc.out) (fun h0_1 => ?_)
        clear hK K h0
        obtain ⟨p0, p1, p2, p3⟩ := PA.out.facts
        refine wpAnyH_ready (rs := [8]) (by kernel_rfl) (by simp) (AllReadyH.cons rfl (fun K hK => ?_) AllReadyH.nil)
        rw [if_pos (by rfl)]
        go_simp
        refine (SB.out _).mono ?_
        rintro e wc ⟨rfl, hb3⟩
        have Bc := Lib.hid (below_on Bc.out hb3)
        try have PA := Lib.hid (PA.out.kept hb3)
        clear hb3
        go_simp
        refine hK.out _ _ (KS.out _ Bc.out) (fun h0_4 => ?_)
        clear hK K h0_1
        try obtain ⟨p0, p1, p2, p3⟩ := PA.out.facts
        refine tkI (i := 9) rfl h0_4 ?_
        simp only [Act.put, sZ]
        refine tkI (i := 10) rfl h0_4 ?_
        simp only [Act.put, sZ]
        refine tkI (i := 11) rfl h0_4 ?_
        simp only [Act.put, sZ]
        refine wpAnyH_ready (rs := [13]) (by kernel_rfl) (by simp) (AllReadyH.cons rfl (fun K hK => ?_) AllReadyH.nil)
        rw [if_pos (by rfl)]
        go_simp
        refine hK.out _ _ (KS.out _ (below_put Bc.out (by omega) _ _)) (fun h0_5 => ?_)
        clear hK K h0_4
        refine tkI (i := 14) rfl h0_5 ?_
        simp only [Act.put, sZ]
        refine wpAnyH_done (by kernel_rfl) ?_ _
        go_wp2_with fail
        go_meet
        case rel => exact ⟨_, rfl, rfl, Lib.hid ⟨PA.out.put _ _, below_put Bc.out (by omega) _ _⟩⟩
     case rest =>
      obtain ⟨b, rfl, rfl, HC⟩ := hcut
      clear KS SB HB
      by_cases hs0 : se = 0
      case neg =>
       have DE : (se != 0) = true := by simpa using hs0
       have HE := Lib.hid (show omR n' f l ps = (false, se) from by
        have h7 : se = 7 := by omega
        rw [h7]
        exact mtR_no hif (by omega) hjf (by omega) (by rw [← HSE.out]; exact hs0))
       clear hs0 hor
       go_wp2_with fail
       go_ret2
       exact ⟨by rw [HE.out]; rfl, HC.out.2⟩
      case pos =>
       have MT := Lib.hid (fun W => MT0.out W hs0)
       have HS3 := HS2
       have HS4 := Lib.hid (show ∀ y, f ≤ y → y < j + 1 → sbE ps i y = 0 from fun y h1 h2 => by
        by_cases e : y = j
        · rw [e, ← HSE.out]; exact hs0
        · exact HS5.out y h1 (by omega))
       have HN := Lib.hid (show mc = true → (ok = true ↔ (∀ x, f ≤ x → x < i → ∀ y, f ≤ y → y < n' + 1 → hsM n' l ps x y = true) ∧ ∀ y, f ≤ y → y < j + 1 → hsM n' l ps i y = true) from fun h => by
        obtain ⟨h1, h2⟩ := HS1.out.1 h
        constructor
        · intro ho
          refine ⟨h1, fun y q1 q2 => ?_⟩
          by_cases e : y = j
          · rw [e, ← HOK.out]; exact ho
          · exact h2 y q1 (by omega)
        · intro q
          rw [HOK.out]; exact q.2 j hjf (by omega))
       have HM2 := Lib.hid (show mc = false → (false = true ↔ (∀ x, f ≤ x → x < i → ∀ y, f ≤ y → y < n' + 1 → hsM n' l ps x y = true) ∧ ∀ y, f ≤ y → y < j + 1 → hsM n' l ps i y = true) from fun h => by
        constructor
        · intro q; cases q
        · intro q
          have := HS1.out.2 ⟨q.1, fun y q1 q2 => q.2 y q1 (by omega)⟩
          rw [h] at this; exact this)
       subst hs0
       clear hor MT0
       have M := Lib.hid (HKP.out _ HC.out.2)
       go_upto_region 11 with (fail)
       obtain ⟨wd, hwd⟩ : ∃ wd, wd = wc.drew := ⟨_, rfl⟩
       have BD := Lib.hid (show Below w.heap.size w wd by rw [hwd]; exact HC.out.2.drew)
       have RW := Lib.hid (row_any b0 n' i wd hn hi (HKP.out _ BD.out).dim)
       have KR := Lib.hid (show ∀ W, Below wd.heap.size wd W → ((W.cell? ⟨b, 0, none⟩ = some (.int .i64 sn) ∧ W.cell? ⟨b, 1, none⟩ = some (.int .i64 sd)) ∧ W.cell? ⟨b0, 1 + i * (n' + 1) + j, none⟩ = some (.int .i64 lv)) from fun W h => by
        have pf := ((show Pair wd b sn sd by rw [hwd]; exact HC.out.1.kept (Below.refl _ _).drew).kept h).facts
        exact ⟨⟨pf.1, pf.2.1⟩, e1.out _ (HKP.out _ (below_on BD.out h))⟩)
       clear HC
       refine wp_region_held_drew (S := (fun w' => (w'.cell? ⟨b, 0, none⟩ = some (.int .i64 sn) ∧ w'.cell? ⟨b, 1, none⟩ = some (.int .i64 sd)) ∧ w'.cell? ⟨b0, 1 + i * (n' + 1) + j, none⟩ = some (.int .i64 lv))) (by kernel_rfl) (by rw [← hwd]; exact KR.out _ (Below.refl _ _)) (fun h0 => ?_)
       rw [← hwd] at h0 ⊢
       clear hwd
       refine tkI (i := 0) rfl h0 ?_
       simp only [Act.put, sA, sB, sD, sE, sF]
       refine tkI (i := 1) rfl h0 ?_
       simp only [Act.put, sZ]
       refine tkI (i := 2) rfl h0 ?_
       simp only [Act.put, sZ]
       refine tkI (i := 4) rfl h0 ?_
       simp only [Act.put, sZ]
       refine wpAnyH_ready (rs := [3]) (by kernel_rfl) (by simp) (AllReadyH.cons rfl (fun K hK => ?_) AllReadyH.nil)
       rw [if_pos (by rfl)]
       go_simp
       refine (RW.out).mono ?_
       rintro e wq ⟨rfl, hwq⟩
       rw [hwq]; clear hwq wq
       go_simp
       refine hK.out _ _ (KR.out _ (Below.refl _ _)) (fun h0_1 => ?_)
       clear hK K h0
       refine tkI (i := 5) rfl h0_1 ?_
       simp only [Act.put, sZ]
       refine tkI (i := 6) rfl h0_1 ?_
       simp only [Act.put, sZ]
       refine wpAnyH_ready (rs := [7]) (by kernel_rfl) (by simp) (AllReadyH.cons rfl (fun K hK => ?_) AllReadyH.nil)
       rw [if_pos (by rfl)]
       go_simp
       refine (MT.out _).mono ?_
       rintro e w8 ⟨rfl, hb8⟩
       have B8 := Lib.hid (below_on BD.out hb8)
       go_simp
       refine hK.out _ _ (KR.out _ hb8) (fun h0_2 => ?_)
       clear hK K h0_1
       clear hb8
       refine tkI (i := 8) rfl h0_2 ?_
       simp only [Act.put, sZ]
       refine tkI (i := 9) rfl h0_2 ?_
       simp only [Act.put, sZ]
       refine tkI (i := 10) rfl h0_2 ?_
       simp only [Act.put, sZ]
       refine tkI (i := 11) rfl h0_2 ?_
       simp only [Act.put, sZ]
       refine tkI (i := 12) rfl h0_2 ?_
       simp only [Act.put, sZ]
       refine wpAnyH_done (by kernel_rfl) ?_ _
       by_cases hmc : mc = true
       case pos =>
        have HX2 := Lib.hid (HN.out hmc)
        go_wp2_with fail
        go_roundw
        case rel => exact ⟨j + 1, ok, by omega, by omega, rfl, by go_num, HX2, HS3, HS4, B8⟩
        case measure => simp [intOf]; omega
       case neg =>
        have hmd : mc = false := by simpa using hmc
        have HX2 := Lib.hid (HM2.out hmd)
        clear hmc
        go_wp2_with fail
        go_roundw
        case rel => exact ⟨j + 1, false, by omega, by omega, rfl, by go_num, HX2, HS3, HS4, B8⟩
        case measure => simp [intOf]; omega
theorem rd_yes {N : Int} {l : List Int} {ps : List Pq} (h : rdE N l ps ≠ 2) : chkE N l = 0 ∧ (ps.length : Int) = N ∧ ps.all vldC = true := by
 unfold rdE at h
 split at h
 · rename_i c; exact c
 · exact absurd rfl h
theorem mt_has {n : Nat} {l : List Int} {ps : List Pq} (h : rdE n l ps ≠ 2) : omR n 0 l ps = (hsR n l ps, rdE n l ps) := by
 have c := rd_yes h
 have e1 : mtA n 0 ps = rdR n ps := by
  rw [Bool.eq_iff_iff]
  constructor
  · intro h; exact rdR_of fun i hi j hj => mtA_iff.1 h i (Nat.zero_le _) hi j (Nat.zero_le _) hj
  · intro h; exact mtA_iff.2 fun i _ hi j _ hj => rdR_at h hi hj
 have e2 : mtH n 0 l ps = hsB n l ps := by
  rw [Bool.eq_iff_iff]
  constructor
  · intro h; exact hsB_iff.2 fun i hi j hj => mtH_iff.1 h i (Nat.zero_le _) hi j (Nat.zero_le _) hj
  · intro h; exact mtH_iff.2 fun i _ hi j _ hj => hsB_iff.1 h i hi j hj
 have er : rdE n l ps = if rdR n ps then 0 else 7 := by
  unfold rdE; rw [if_pos c, Int.toNat_natCast]
 unfold omR hsR
 rw [e1, e2, er, Int.toNat_natCast]
 cases rdR n ps <;> rfl
set_option maxRecDepth 100000 in
theorem zhas_gen (N : Int) (l : List Int) (ao : Option Addr) (cap : Nat) (ps : List Pq) (po : Option Addr) (pc : Nat) (w : World) (hA : Arg w ao l) (hP : Arg2 w po ps) (hI : Fits ps) (hN : po = none → pc = 0) :
  Calls Tryz.prog 74 #[.agg #[.int .i64 N, .slice ao l.length cap], .slice po ps.length pc] w (Made (.tuple #[.bool (hsR N l ps), .int .i64 (rdE N l ps)]) w) := by
 have hz := mx_zero
 have sz0 := mcs_size (n := 0) (l := []) (by simp)
 have OA := Lib.hid (fun W (h : Below w.heap.size w W) => openat_gen N l ao cap ps po pc W (hA.on h) (hP.on h) hI hN)
 have HPL := Lib.hid (show rdE N l ps ≠ 2 → ((0, 1) :: ps).length = N.toNat + 1 from fun h => by
  have := (rd_yes h).2.1
  simp; omega)
 have HNN := Lib.hid (show rdE N l ps ≠ 2 → (N.toNat : Int) = N ∧ chkE N l = 0 ∧ ps.all vldC = true ∧ (mcs N.toNat l).size = 122 ∧ l.length = (N.toNat + 1) * (N.toNat + 1) from fun h => by
  have c := rd_yes h
  obtain ⟨n', e, hn, hl, _⟩ := chk_ok c.1
  have e2 : N.toNat = n' := by omega
  refine ⟨by omega, c.1, c.2.2, ?_, by rw [e2]; exact hl⟩
  rw [e2]; exact mcs_size (by rw [hl]; exact dsq_le hn))
 generalize ps.length = plen at OA ⊢
 generalize l.length = len at OA ⊢
 obtain ⟨w0, hw0, e0, ks⟩ := qbox N ao len cap w
 have E0 := Lib.hid e0
 have HW0 := Lib.hid hw0
 obtain ⟨b0, b1⟩ := ks w0 (Below.refl _ _)
 clear ks e0 hw0 hA hP hI hN
 unfold OARes at OA
 go_enter Tryz.func74, Tryz.ntmps74
 go_upto_region 1 with (fail)
 rw [← HW0.out]
 go_wp2_with fail
 refine (OA.out _ E0.out).mono ?_
 rintro e w1 ⟨hb1, hE⟩
 clear b0 b1
 have B1 := Lib.hid (below_on E0.out hb1)
 rcases hE with ⟨h2, rfl⟩ | ⟨h2, v, rfl, hv⟩
 · have HE := Lib.hid (show hsR N l ps = false by unfold hsR; rw [h2]; rfl)
   have H2 := Lib.hid h2
   clear h2 HNN HPL
   go_wp2_with (refine wpl_store rfl _ _ rfl _ _ rfl rfl _ (Var.made _) sz0 (mcs_one _ _) ?_)
   go_ret2
   rw [HE.out, H2.out]
   exact ⟨rfl, Below.setRow (B1.out.alloc B1.out.size _) B1.out.size _⟩
 · obtain ⟨hNn, hc, hvl, sz, hll⟩ := HNN.out h2
   have hpl := HPL.out h2
   have hov := hv
   unfold OwnQ at hv
   rw [hpl] at hv
   obtain ⟨g, c, rfl⟩ := Joins.ownsRow_form hv (by omega)
   have HR := Lib.hid (mt_has (n := N.toNat) (l := l) (ps := ps) (by rw [hNn]; exact h2))
   obtain ⟨w2, hw2⟩ : ∃ w2, w2 = (w1.alloc (.cells (mcs 0 []) 120)).setRow w1.heap.size (mcs N.toNat l) := ⟨_, rfl⟩
   have M2 : Mx w2 w1.heap.size N.toNat l := by rw [hw2]; exact ⟨((Var.made w1).put (mcs N.toNat l) sz).1, hll⟩
   have B2 := Lib.hid (show Below w.heap.size w w2 by rw [hw2]; exact Below.setRow (B1.out.alloc B1.out.size _) B1.out.size _)
   have O2 : OwnQ w2 w0.heap.size (.slice (some ⟨g, 0, none⟩) ((0, 1) :: ps).length c) ((0, 1) :: ps) := by
    rw [hw2, hpl]
    have h1 := OwnQ.on hov (one_more (.cells (mcs 0 []) 120))
    have hlt := (World.ownsRow.lt hov g rfl).2
    refine World.ownsRow.kept (row := some w1.heap.size) h1 (grown_row _ _ _) ?_
    right
    simp only [Value.ownBlock]
    intro e; injection e with e; omega
   have MT := Lib.hid (meets_any N.toNat 0 l ps w1.heap.size ⟨g, 0, none⟩ c w2 (by rw [hNn]; exact hc) (by omega) (by simp at hpl; exact hpl) M2 O2.rd hvl)
   have HNE := Lib.hid hNn
   have s1 := mcs_one N.toNat l
   rw [HR.out, hNn] at MT
   clear M2 O2 hov hv hpl hvl hc hNn h2 hll HNN HPL hb1
   go_upto_region 2 with (refine wpl_store rfl _ _ rfl _ _ rfl rfl _ (Var.made _) sz s1 ?_)
   rw [← hw2]
   clear hw2
   go_wp2_with fail
   refine MT.out.mono ?_
   rintro e w3 ⟨rfl, hb3⟩
   have B3 := Lib.hid (below_on B2.out hb3)
   clear hb3
   go_wp2_with fail
   go_ret2
   exact ⟨rfl, B3.out⟩
def syR (n : Nat) (l : List Int) (ps : List Pq) : Nat → Dl × Int
 | 0 => (Dl.one, 0)
 | t + 1 => if (syR n l ps t).2 = 0 then (wiL (syR n l ps t).1 (-(gp ps t).1) (gp ps t).2 (Zo.At n l (t + 1) 0) (Zo.At n l 0 (t + 1)), wiE (-(gp ps t).1) (gp ps t).2 (Zo.At n l (t + 1) 0) (Zo.At n l 0 (t + 1))) else syR n l ps t
theorem sy_ok (n : Nat) (l : List Int) (ps : List Pq) (t : Nat) : (syR n l ps t).1.Ok := by
 induction t with
 | zero => exact ⟨by unfold syR Dl.one I64; simp, by unfold syR Dl.one I64; simp, by unfold syR Dl.one I64; simp, by unfold syR Dl.one I64; simp⟩
 | succ t ih =>
  show (if (syR n l ps t).2 = 0 then _ else syR n l ps t).1.Ok
  split
  · exact wiL_ok ih _ _ _ _
  · exact ih
def syV (n : Nat) (l : List Int) (ps : List Pq) : Dl × Int :=
 if (omR n 1 l ps).2 ≠ 0 then (Dl.zero, (omR n 1 l ps).2) else if (syR n l ps n).2 ≠ 0 then (Dl.zero, (syR n l ps n).2) else if (omR n 1 l ps).1 = false ∨ (syR n l ps n).1.empty = true then (Dl.zero, 4) else ((syR n l ps n).1, 0)
def stR (N : Int) (l : List Int) (ps : List Pq) : Dl × Int := if rdE N l ps = 2 then (Dl.zero, 2) else syV N.toNat l ps
def TellsZ (fv : Value) (w : World) (p : Zp → Bool) (er : Zp → Int) (l : List ZV) : Prop :=
 ∃ g lb, fv = .func (.func g) #[] lb ∧ (∀ args w, (callFunc g args).run Tryz.prog w = .ok (.enter g args) w) ∧ ∀ W, Below w.heap.size w W → ∀ x ∈ l, Calls Tryz.prog g (#[.agg #[.int .i64 x.N, .slice x.a x.l.length x.c]] ++ lb) W (fun e W' => Below W.heap.size W W' ∧ ((er x.p = 0 ∧ e = .returned (.bool (p x.p))) ∨ (er x.p ≠ 0 ∧ e = .panicked (pan (er x.p)))))
def anyZ (p : Zp → Bool) (er : Zp → Int) : List Zp → Bool × Int
 | [] => (false, 0)
 | x :: r => if er x ≠ 0 then (false, er x) else if p x then (true, 0) else anyZ p er r
theorem anyZ_drop {p : Zp → Bool} {er : Zp → Int} : ∀ {l : List Zp} {t : Nat}, (∀ i, ∀ q : i < l.length, i < t → er l[i] = 0 ∧ p l[i] = false) → anyZ p er l = anyZ p er (l.drop t)
 | l, 0, _ => rfl
 | [], t + 1, _ => by simp [anyZ]
 | x :: r, t + 1, h => by
  have h0 := h 0 (by simp) (by omega)
  simp only [sB] at h0
  have ih := anyZ_drop (p := p) (er := er) (l := r) (t := t) (fun i q k => by have := h (i + 1) (by simpa using q) (by omega); simpa using this)
  rw [List.drop_succ_cons, ← ih]
  show (if er x ≠ 0 then _ else _) = _
  rw [if_neg (fun q => q h0.1), h0.2]
  rfl
theorem anyZ_here {p : Zp → Bool} {er : Zp → Int} {l : List Zp} {t : Nat} (ht : t < l.length) (h : ∀ i, ∀ q : i < l.length, i < t → er l[i] = 0 ∧ p l[i] = false) : anyZ p er l = if er l[t] ≠ 0 then (false, er l[t]) else if p l[t] then (true, 0) else anyZ p er (l.drop (t + 1)) := by
 rw [anyZ_drop h, List.drop_eq_getElem_cons ht]
 rfl
theorem anyZ_none {p : Zp → Bool} {er : Zp → Int} {l : List Zp} (h : ∀ i, ∀ q : i < l.length, er l[i] = 0 ∧ p l[i] = false) : anyZ p er l = (false, 0) := by
 rw [anyZ_drop (t := l.length) (fun i q _ => h i q), List.drop_length]
 rfl
def IxZ (r : Bool × Int) (w : World) (e : Ending) (w' : World) : Prop :=
 Below w.heap.size w w' ∧ ((r.2 = 0 ∧ ∃ k : Int, e = .returned (.int .i64 k) ∧ decide (0 ≤ k) = r.1) ∨ (r.2 ≠ 0 ∧ e = .panicked (pan r.2)))
def CnZ (r : Bool × Int) (w : World) (e : Ending) (w' : World) : Prop :=
 Below w.heap.size w w' ∧ ((r.2 = 0 ∧ e = .returned (.bool r.1)) ∨ (r.2 ≠ 0 ∧ e = .panicked (pan r.2)))
set_option maxRecDepth 100000 in
theorem idxZ_any (l : List ZV) (ao : Option Addr) (cap : Nat) (fv : Value) (p : Zp → Bool) (er : Zp → Int) (w : World) (hl : l.length ≤ 1000000) (hR : RdW w ao l) (hp : TellsZ fv w p er l) :
  Calls Tryz.prog 115 #[.slice ao l.length cap, fv] w (IxZ (anyZ p er (l.map ZV.p)) w) := by
 obtain ⟨g, lb, rfl, eg, hp⟩ := hp
 have HP := Lib.hid hp
 have HR := Lib.hid hR
 obtain ⟨n, hn⟩ : ∃ n, n = l.length := ⟨_, rfl⟩
 have HN := Lib.hid hn
 have hle : n ≤ 1000000 := by omega
 obtain ⟨P, hP⟩ : ∃ P, P = l.map ZV.p := ⟨_, rfl⟩
 have HPE := Lib.hid hP
 have HPL := Lib.hid (show P.length = n by rw [hP, hn]; simp)
 obtain ⟨r, hr⟩ : ∃ r, r = anyZ p er P := ⟨_, rfl⟩
 have HRR := Lib.hid hr
 rw [← hn, ← hP, ← hr]
 clear hp hR hl hn hr hP
 go_enter Tryz.func115, Tryz.ntmps115
 go_wp2_with fail
 go_loopw [8] (fun s wr => ∃ t : Nat, s = .int .i64 t ∧ t ≤ n ∧ Hid (Below w.heap.size w wr) ∧ Hid (∀ i, ∀ q : i < P.length, i < t → er P[i] = 0 ∧ p P[i] = false)) (fun s _ => n - (intOf s).toNat)
 case atStart => exact ⟨0, rfl, by omega, Lib.hid (Below.refl _ _), Lib.hid (fun i q h => by omega)⟩
 case round =>
  generalize wr = wo at *
  obtain ⟨t, rfl, ht, HB, HF⟩ := hrel
  by_cases htn : t < n
  · have hlt : t < P.length := by have := HPL.out; omega
    have hll : t < l.length := by have := HN.out; omega
    obtain ⟨v, hv⟩ : ∃ v, v = l[t] := ⟨_, rfl⟩
    have ev : P[t] = v.p := by
     have h1 : P[t]? = some v.p := by rw [HPE.out, List.getElem?_map, List.getElem?_eq_getElem hll, hv]; rfl
     rw [List.getElem?_eq_getElem hlt] at h1
     injection h1
    obtain ⟨a, ha, c0, c1⟩ := (HR.out.on HB.out).hd t hll
    have AH := Lib.hid (anyZ_here (p := p) (er := er) hlt HF.out)
    rw [← hv] at c0 c1
    rw [ev, ← HRR.out] at AH
    have PV := HP.out wo HB.out v (by rw [hv]; exact List.getElem_mem hll)
    obtain ⟨xl, hxl⟩ : ∃ xl, xl = v.l.length := ⟨_, rfl⟩
    rw [← hxl] at PV c1
    obtain ⟨pv, hpv⟩ : ∃ pv, pv = p v.p := ⟨_, rfl⟩
    obtain ⟨ee, hee⟩ : ∃ ee, ee = er v.p := ⟨_, rfl⟩
    rw [← hpv, ← hee] at PV AH
    have PV := Lib.hid PV
    have HF' := Lib.hid (show ee = 0 → pv = false → ∀ i, ∀ q : i < P.length, i < t + 1 → er P[i] = 0 ∧ p P[i] = false from fun h1 h2 i q h => by
     by_cases e : i = t
     · subst e; rw [ev, ← hpv, ← hee]; exact ⟨h1, h2⟩
     · exact HF.out i q (by omega))
    clear ev hv hlt hll hpv hee hxl
    subst ha
    go_wp2_with fail
    refine PV.out.mono ?_
    rintro e w1 ⟨hb, (⟨he, rfl⟩ | ⟨he, rfl⟩)⟩
    rotate_left
    · have B1 := Lib.hid (below_on HB.out hb)
      have R1 := Lib.hid (show r = (false, ee) by rw [AH.out, if_pos he])
      have NE := Lib.hid he
      clear hb he PV AH
      go_wp2_with fail
      exact And.intro rfl ⟨B1.out, Or.inr ⟨by rw [R1.out]; exact NE.out, by rw [R1.out]⟩⟩
    have B1 := Lib.hid (below_on HB.out hb)
    cases pv
    · have HF2 := Lib.hid (HF'.out he rfl)
      clear hb c0 c1 he AH PV HF'
      go_wp2_with fail
      go_roundw
      case rel => exact ⟨t + 1, by go_num, by omega, B1, HF2⟩
      case measure => simp [intOf]; omega
    · have R1 := Lib.hid (show r = (true, 0) by rw [AH.out, if_neg (fun q => q he), if_pos rfl])
      clear hb c0 c1 he AH PV HF'
      go_wp2_with fail
      go_ret
      exact ⟨B1.out, Or.inl ⟨by rw [R1.out], t, rfl, by rw [R1.out]; simp⟩⟩
  · have R1 := Lib.hid (show r = (false, 0) by rw [HRR.out]; exact anyZ_none (fun i q => HF.out i q (by have := HPL.out; omega)))
    go_wp2_with fail
    go_ret
    exact ⟨HB.out, Or.inl ⟨by rw [R1.out], -1, rfl, by rw [R1.out]; decide⟩⟩
set_option maxRecDepth 20000 in
theorem conZ_any (l : List ZV) (ao : Option Addr) (cap : Nat) (fv : Value) (p : Zp → Bool) (er : Zp → Int) (w : World) (hl : l.length ≤ 1000000) (hR : RdW w ao l) (hp : TellsZ fv w p er l) :
  Calls Tryz.prog 71 #[.slice ao l.length cap, fv] w (CnZ (anyZ p er (l.map ZV.p)) w) := by
 have IX := Lib.hid (idxZ_any l ao cap fv p er w hl hR hp)
 generalize l.length = n at *
 generalize anyZ p er (l.map ZV.p) = r at *
 obtain ⟨b, z⟩ := r
 clear hR hp
 go_enter Tryz.func71, Tryz.ntmps71
 go_wp2_with fail
 refine IX.out.mono ?_
 rintro e w1 ⟨hb, (⟨he, k, rfl, hk⟩ | ⟨he, rfl⟩)⟩
 · have B1 := Lib.hid hb
   have HK := Lib.hid hk
   have HE := Lib.hid he
   clear hb hk he
   by_cases k0 : 0 ≤ k
   · go_wp2_with fail
     go_ret
     exact ⟨B1.out, Or.inl ⟨HE.out, by rw [← HK.out]; simp [k0]⟩⟩
   · go_wp2_with fail
     go_ret
     exact ⟨B1.out, Or.inl ⟨HE.out, by rw [← HK.out]; simp []⟩⟩
 · have B1 := Lib.hid hb
   have HE := Lib.hid he
   clear hb he
   go_wp2_with fail
   exact And.intro rfl ⟨B1.out, Or.inr ⟨HE.out, rfl⟩⟩
set_option maxRecDepth 20000 in
theorem fhas11_any (N : Int) (l : List Int) (a : Option Addr) (c q : Nat) (ps : List Pq) (po : Option Addr) (pc : Nat) (w : World) (hA : Arg w a l) (hP : Arg2 w po ps) (hI : Fits ps) (hN : po = none → pc = 0) (hq : w.cell? ⟨q, 0, none⟩ = some (.slice po ps.length pc)) :
  Calls Tryz.prog 72 #[.agg #[.int .i64 N, .slice a l.length c], .pointer (some ⟨q, 0, none⟩)] w (fun e W' => Below w.heap.size w W' ∧ ((rdE N l ps = 0 ∧ e = .returned (.bool (hsR N l ps))) ∨ (rdE N l ps ≠ 0 ∧ e = .panicked (pan (rdE N l ps))))) := by
 obtain ⟨w0, hw0⟩ : ∃ w0, w0 = w.alloc (.cells #[.int .i64 N, .slice a l.length c] 36) := ⟨_, rfl⟩
 have B0 := Lib.hid (show Below w.heap.size w w0 by rw [hw0]; exact one_more _)
 have X0 := Lib.hid (show Bx2 w0 w.heap.size (.int .i64 N) (.slice a l.length c) 36 by rw [hw0]; exact Bx2.made w _ _ _)
 have HS := Lib.hid (fun W (h : Below w.heap.size w W) => zhas_gen N l a c ps po pc W (hA.on h) (hP.on h) hI hN)
 have q0 := kept B0.out hq
 obtain ⟨x0, x1, _, _⟩ := X0.out.facts
 have MU := Lib.hid (fun W => mustB_any (hsR N l ps) (rdE N l ps) W)
 generalize hsR N l ps = bb at *
 generalize rdE N l ps = er at *
 generalize l.length = n at *
 generalize ps.length = pn at *
 clear hA hP hI hN hq
 go_enter Tryz.func72, Tryz.ntmps72
 go_upto_region 1 with (fail)
 rw [← hw0]
 clear hw0
 go_wp2_with fail
 refine (HS.out _ B0.out).mono ?_
 rintro e w1 ⟨rfl, hb⟩
 have B1 := Lib.hid (below_on B0.out hb)
 clear hb HS
 go_wp2_with fail
 refine (MU.out _).mono ?_
 rintro e w2 ⟨hb, (⟨he, rfl⟩ | ⟨he, rfl⟩)⟩
 · have B2 := Lib.hid (below_on B1.out hb)
   have HE := Lib.hid he
   clear hb he MU
   go_wp2_with fail
   go_ret
   exact ⟨B2.out, Or.inl ⟨HE.out, rfl⟩⟩
 · have B2 := Lib.hid (below_on B1.out hb)
   have HE := Lib.hid he
   clear hb he MU
   go_wp2_with fail
   exact And.intro rfl ⟨B2.out, Or.inr ⟨HE.out, rfl⟩⟩
end Go.Proofs.YthjapmdfcbngmaaGreat
