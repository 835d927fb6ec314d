/- A part. -/
import Derived.Test.YthjapmdfcbngmaaGreatWp11
import Derived.Test.YthjapmdfcbngmaaGreatWp45

namespace Go.Proofs.YthjapmdfcbngmaaGreat
open Go.RowKit

def mtA (n f : Nat) (ps : List Pq) : Bool := (List.range (n + 1)).all fun i => (List.range (n + 1)).all fun j => decide (i < f) || decide (j < f) || decide (sbE ps i j = 0)

def mtH (n f : Nat) (l : List Int) (ps : List Pq) : Bool := (List.range (n + 1)).all fun i => (List.range (n + 1)).all fun j => decide (i < f) || decide (j < f) || hsM n l ps i j

def omR (n f : Nat) (l : List Int) (ps : List Pq) : Bool × Int := if mtA n f ps then (mtH n f l ps, 0) else (false, 7)

theorem mtA_iff {n f : Nat} {ps : List Pq} : mtA n f ps = true ↔ ∀ i, f ≤ i → i < n + 1 → ∀ j, f ≤ j → j < n + 1 → sbE ps i j = 0 := by
  unfold mtA
  simp only [List.all_eq_true, List.mem_range, Bool.or_eq_true, decide_eq_true_eq]
  constructor
  · intro h i h1 h2 j h3 h4
    rcases h i h2 j h4 with (h | h) | h
    · omega
    · omega
    · exact h
  · intro h i h2 j h4
    by_cases h1 : i < f
    · exact Or.inl (Or.inl h1)
    · by_cases h3 : j < f
      · exact Or.inl (Or.inr h3)
      · exact Or.inr (h i (by omega) h2 j (by omega) h4)

theorem mtH_iff {n f : Nat} {l : List Int} {ps : List Pq} : mtH n f l ps = true ↔ ∀ i, f ≤ i → i < n + 1 → ∀ j, f ≤ j → j < n + 1 → hsM n l ps i j = true := by
  unfold mtH
  simp only [List.all_eq_true, List.mem_range, Bool.or_eq_true, decide_eq_true_eq]
  constructor
  · intro h i h1 h2 j h3 h4
    rcases h i h2 j h4 with (h | h) | h
    · omega
    · omega
    · exact h
  · intro h i h2 j h4
    by_cases h1 : i < f
    · exact Or.inl (Or.inl h1)
    · by_cases h3 : j < f
      · exact Or.inl (Or.inr h3)
      · exact Or.inr (h i (by omega) h2 j (by omega) h4)

theorem mtR_ok {n f : Nat} {l : List Int} {ps : List Pq} {mb : Bool} (h : ∀ i, f ≤ i → i < n + 1 → ∀ j, f ≤ j → j < n + 1 → sbE ps i j = 0) (hm : mb = true ↔ ∀ i, f ≤ i → i < n + 1 → ∀ j, f ≤ j → j < n + 1 → hsM n l ps i j = true) : omR n f l ps = (mb, 0) := by
  unfold omR
  rw [if_pos (mtA_iff.2 h)]
  have : mtH n f l ps = mb := by rw [Bool.eq_iff_iff]; exact mtH_iff.trans hm.symm
  rw [this]

theorem mtR_no {n f : Nat} {l : List Int} {ps : List Pq} {i j : Nat} (h1 : f ≤ i) (h2 : i < n + 1) (h3 : f ≤ j) (h4 : j < n + 1) (h : sbE ps i j ≠ 0) : omR n f l ps = (false, 7) := by
  unfold omR
  rw [if_neg]
  intro e
  exact h (mtA_iff.1 e i h1 h2 j h3 h4)

theorem clk_gp (ps : List Pq) (i : Nat) : gp ((0, 1) :: ps) i = clk ps i := by
  unfold clk
  cases i with
  | zero => rfl
  | succ i => simp [gp]

theorem sbE_or {ps : List Pq} (h : ∀ k, k < ps.length → vldC (gp ps k) = true) {i j : Nat} (hi : i ≤ ps.length) (hj : j ≤ ps.length) : sbE ps i j = 0 ∨ sbE ps i j = 7 := by
  have v1 := vld_bd (clk_ok h hi)
  have v2 := vld_bd (clk_ok h hj)
  by_cases e : sbE ps i j = 0
  · exact Or.inl e
  · right
    unfold sbE at e ⊢
    refine (mk_zero ?_ e).2.2
    intro q
    rcases Int.mul_eq_zero.1 q with q | q <;> omega

theorem psub_clk {ps : List Pq} (w : World) (h : ∀ k, k < ps.length → vldC (gp ps k) = true) {i j : Nat} (hi : i ≤ ps.length) (hj : j ≤ ps.length) :
    Calls Tryz.prog 149 #[.agg #[.int .i64 (clk ps i).1, .int .i64 (clk ps i).2], .agg #[.int .i64 (clk ps j).1, .int .i64 (clk ps j).2]] w (Made (.tuple #[.agg #[.int .i64 (sbN ps i j), .int .i64 (sbD ps i j)], .int .i64 (sbE ps i j)]) w) := by
  have v1 := clk_ok h hi
  have v2 := clk_ok h hj
  obtain ⟨a1, a2, a3, a4⟩ := vld_bd v1
  obtain ⟨b1, b2, b3, b4⟩ := vld_bd v2
  have := sub_any (clk ps i).1 (clk ps i).2 (clk ps j).1 (clk ps j).2 w (by unfold I64; omega) (by unfold I64; omega) (by unfold I64; omega) (by unfold I64; omega)
  rw [v1, v2] at this
  exact this

theorem sb_vld {ps : List Pq} {i j : Nat} (h : sbE ps i j = 0) : vldB (sbN ps i j) (sbD ps i j) = true := (mk_ok h).2.1

theorem chk_lv {n : Nat} {l : List Int} (h : chkE (n : Int) l = 0) {i j : Nat} (hi : i ≤ n) (hj : j ≤ n) : lvB (Zo.At n l i j) = true := by
  unfold chkE at h
  split at h
  · rename_i c
    unfold chkB at c
    simp only [Bool.and_eq_true] at c
    have := chk1_iff.1 c.1.2 i (by simp; omega) j (by simp; omega)
    simp only [Int.toNat_natCast] at this
    unfold okI at this
    simp only [Bool.and_eq_true] at this
    exact this.1.1
  · omega

set_option maxRecDepth 100000 in
set_option maxHeartbeats 8000000 in
theorem meets_any (n f : Nat) (l : List Int) (ps : List Pq) (b0 : Nat) (a : Addr) (cap : Nat) (w : World) (hc : chkE n l = 0) (hf : f ≤ 1) (hp : ps.length = n) (hM : Mx w b0 n l) (hP : Rd2 w a ((0, 1) :: ps)) (hV : ps.all vldC = true) :
    Calls Tryz.prog 117 #[.pointer (some ⟨b0, 0, none⟩), .slice (some a) (n + 1) cap, .int .i64 f] w (Made (.tuple #[.bool (omR n f l ps).1, .int .i64 (omR n f l ps).2]) w) := by
  obtain ⟨n', en, hn, hl, _⟩ := chk_ok hc
  obtain rfl : n' = n := by omega
  clear en
  have hv := rd_all hV
  have HSB := Lib.hid (fun (i j : Nat) (hi : i ≤ n') (hj : j ≤ n') W => psub_clk (ps := ps) W hv (i := i) (j := j) (by omega) (by omega))
  have HOR := Lib.hid (fun (i j : Nat) (hi : i ≤ n') (hj : j ≤ n') => sbE_or (ps := ps) hv (i := i) (j := j) (by omega) (by omega))
  have HMT := Lib.hid (fun (i j : Nat) W (hi : i ≤ n') (hj : j ≤ n') (h0 : sbE ps i j = 0) => show Calls Tryz.prog 150 #[.agg #[.int .i64 (sbN ps i j), .int .i64 (sbD ps i j)], .int .i64 (Zo.At n' l i j)] W (Made (.tuple #[.bool (hsM n' l ps i j), .int .i64 0]) W) from by
    have hb := vld_bd (sb_vld h0)
    have := limMeets_any (sbN ps i j) (sbD ps i j) (Zo.At n' l i j) W (by unfold I64; omega) (by unfold I64; omega) (chk_i64 hc hi hj)
    rw [show meE (sbN ps i j) (sbD ps i j) (Zo.At n' l i j) = 0 by unfold meE; rw [sb_vld h0, chk_lv hc hi hj]; rfl] at this
    exact this)
  have HP := Lib.hid hP
  have HM := Lib.hid hM
  have HPL := Lib.hid hp
  have HLL := Lib.hid hl
  have HKP := Lib.hid (show ∀ W, Below w.heap.size w W → Mx W b0 n' l from fun W h => hM.of_block (h.block _ hM.lt))
  clear hP hM hp hl hv hV hc
  go_enter Tryz.func117, Tryz.ntmps117
  go_wp2_with fail
  go_loopw [8, 9] (fun s t wr => ∃ (i : Nat) (mb : Bool), f ≤ i ∧ i ≤ n' + 1 ∧ s = .bool mb ∧ t = .int .i64 i ∧ Hid (mb = true ↔ ∀ x, f ≤ x → x < i → ∀ y, f ≤ y → y < n' + 1 → hsM n' l ps x y = true) ∧ Hid (∀ x, f ≤ x → x < i → ∀ y, f ≤ y → y < n' + 1 → sbE ps x y = 0) ∧ Hid (Below w.heap.size w wr)) (fun _ t _ => n' + 1 - (intOf t).toNat)
  case atStart => exact ⟨f, true, by omega, by omega, rfl, rfl, Lib.hid ⟨fun _ x h1 h2 => by omega, fun _ => rfl⟩, Lib.hid (fun x h1 h2 => by omega), Lib.hid (Below.refl _ _)⟩
  case round =>
    obtain ⟨i, mb, hif, hin, rfl, rfl, HS1, HS2, HB⟩ := hrel
    have d0 := (HKP.out _ HB.out).dim
    by_cases hi : i ≤ n'
    case neg =>
      have D : decide ((i : Int) ≤ (n' : Int)) = false := by simp; omega
      have HE := Lib.hid (show omR n' f l ps = (mb, 0) from by
        have e : i = n' + 1 := by omega
        have h1 := HS1.out
        have h2 := HS2.out
        rw [e] at h1 h2
        exact mtR_ok h2 h1)
      go_wp2_with fail
      go_ret2
      exact ⟨by rw [HE.out]; rfl, HB.out⟩
    case pos =>
      have D : decide ((i : Int) ≤ (n' : Int)) = true := by simp; omega
      go_wp2_with fail
      clear d0
      go_loopw [8, 10] (fun s t wr => ∃ (j : Nat) (mc : Bool), f ≤ j ∧ j ≤ n' + 1 ∧ s = .bool mc ∧ t = .int .i64 j ∧ Hid (mc = true ↔ (∀ x, f ≤ x → x < i → ∀ y, f ≤ y → y < n' + 1 → hsM n' l ps x y = true) ∧ ∀ y, f ≤ y → y < j → hsM n' l ps i y = true) ∧ Hid (∀ x, f ≤ x → x < i → ∀ y, f ≤ y → y < n' + 1 → sbE ps x y = 0) ∧ Hid (∀ y, f ≤ y → y < j → sbE ps i y = 0) ∧ Hid (Below w.heap.size w wr)) (fun _ t _ => n' + 1 - (intOf t).toNat)
      case atStart => exact ⟨f, mb, by omega, by omega, rfl, rfl, Lib.hid ⟨fun h => ⟨HS1.out.1 h, fun y h1 h2 => by omega⟩, fun h => HS1.out.2 h.1⟩, HS2, Lib.hid (fun y h1 h2 => by omega), HB⟩
      case round =>
        clear HS1 HS2 HB
        obtain ⟨j, mc, hjf, hjn, rfl, rfl, HS1, HS2, HS5, HB⟩ := hrel
        have d0 := (HKP.out _ HB.out).dim
        by_cases hj : j ≤ n'
        case neg =>
          have E : decide ((j : Int) ≤ (n' : Int)) = false := by simp; omega
          have HT1 := Lib.hid (show mc = true ↔ ∀ x, f ≤ x → x < i + 1 → ∀ y, f ≤ y → y < n' + 1 → hsM n' l ps x y = true from by
            rw [HS1.out]
            constructor
            · intro h x h1 h2 y h3 h4
              by_cases e : x = i
              · rw [e]; exact h.2 y h3 (by omega)
              · exact h.1 x h1 (by omega) y h3 h4
            · intro h
              exact ⟨fun x h1 h2 => h x h1 (by omega), fun y h1 h2 => h i hif (by omega) y h1 (by omega)⟩)
          have HT2 := Lib.hid (show ∀ x, f ≤ x → x < i + 1 → ∀ y, f ≤ y → y < n' + 1 → sbE ps x y = 0 from fun x h1 h2 y h3 h4 => by
            by_cases e : x = i
            · rw [e]; exact HS5.out y h3 (by omega)
            · exact HS2.out x h1 (by omega) y h3 h4)
          go_wp2_with fail
          go_roundw
          case rel => exact ⟨i + 1, mc, by omega, by omega, rfl, by go_num, HT1, HT2, HB⟩
          case measure => simp [intOf]; omega
        case pos =>
          have E : decide ((j : Int) ≤ (n' : Int)) = true := by simp; omega
          have SB := Lib.hid (fun W => HSB.out i j hi hj W)
          have hor := HOR.out i j hi hj
          have MT0 := Lib.hid (fun W => HMT.out i j W hi hj)
          obtain ⟨sn, hsn⟩ : ∃ x, x = sbN ps i j := ⟨_, rfl⟩
          obtain ⟨sd, hsd⟩ : ∃ x, x = sbD ps i j := ⟨_, rfl⟩
          obtain ⟨se, hse⟩ : ∃ x, x = sbE ps i j := ⟨_, rfl⟩
          obtain ⟨ok, hok⟩ : ∃ x, x = hsM n' l ps i j := ⟨_, rfl⟩
          obtain ⟨lv, hlv⟩ : ∃ x, x = Zo.At n' l i j := ⟨_, rfl⟩
          rw [← hsn, ← hsd, ← hse] at SB
          rw [← hse] at hor
          rw [← hsn, ← hsd, ← hse, ← hlv, ← hok] at MT0
          have ix := Zo.ix_lt hi hj
          have e1 := Lib.hid (show ∀ W, Mx W b0 n' l → W.cell? ⟨b0, 1 + i * (n' + 1) + j, none⟩ = some (.int .i64 lv) from fun W h => by rw [hlv, Nat.add_assoc]; exact h.at (by rw [h.2]; exact ix))
          have HSE := Lib.hid hse
          have HOK := Lib.hid hok
          have KS0 := Lib.hid (show ∀ W, Below w.heap.size w W → ((W.cell? (a.add (i * 2)) = some (.int .i64 (clk ps i).1) ∧ W.cell? ⟨(a.add (i * 2)).block, (a.add (i * 2)).off + 1, none⟩ = some (.int .i64 (clk ps i).2)) ∧ (W.cell? (a.add (j * 2)) = some (.int .i64 (clk ps j).1) ∧ W.cell? ⟨(a.add (j * 2)).block, (a.add (j * 2)).off + 1, none⟩ = some (.int .i64 (clk ps j).2))) from fun W h => by
            have h1 := (HP.out.on h) i (by simp [HPL.out]; omega)
            have h2 := (HP.out.on h) j (by simp [HPL.out]; omega)
            rw [clk_gp] at h1 h2
            exact ⟨h1, h2⟩)
          obtain ⟨xn, hxn⟩ : ∃ x, x = (clk ps i).1 := ⟨_, rfl⟩
          obtain ⟨xd, hxd⟩ : ∃ x, x = (clk ps i).2 := ⟨_, rfl⟩
          obtain ⟨yn, hyn⟩ : ∃ x, x = (clk ps j).1 := ⟨_, rfl⟩
          obtain ⟨yd, hyd⟩ : ∃ x, x = (clk ps j).2 := ⟨_, rfl⟩
          rw [← hxn, ← hxd, ← hyn, ← hyd] at SB KS0
          have KS := KS0
          clear hxn hxd hyn hyd hsn hsd hse hok hlv ix KS0
          have t1 : (i : Int) < (n' : Int) + 1 := by omega
          have t2 : (j : Int) < (n' : Int) + 1 := by omega
          go_upto_region 8 with (fail)
          clear d0
          go_cut [11, 12] (fun p s wx => ∃ b : Nat, p = .pointer (some ⟨b, 0, none⟩) ∧ s = .int .i64 se ∧ Hid (Pair wx b sn sd ∧ Below w.heap.size w wx))
          case first =>
            obtain ⟨wc, hwc⟩ : ∃ wc, wc = wr.drew := ⟨_, rfl⟩
            have Bc := Lib.hid (show Below w.heap.size w wc by rw [hwc]; exact HB.out.drew)
            refine wp_region_held_drew (S := (fun w' => (w'.cell? (a.add (i * 2)) = some (.int .i64 xn) ∧ w'.cell? ⟨(a.add (i * 2)).block, (a.add (i * 2)).off + 1, none⟩ = some (.int .i64 xd)) ∧ (w'.cell? (a.add (j * 2)) = some (.int .i64 yn) ∧ w'.cell? ⟨(a.add (j * 2)).block, (a.add (j * 2)).off + 1, none⟩ = some (.int .i64 yd)))) (by kernel_rfl) (by rw [← hwc]; exact KS.out _ Bc.out) (fun h0 => ?_)
            rw [← hwc] at h0 ⊢
            clear hwc
            refine tkH (i := 0) (v := ?v1) rfl (Or.inl ⟨by rfl, ?hy1⟩) h0 ?rest1
            case hy1 => (intro w' hS; (try dsimp only at hS); go_simp; try (with_reducible rfl))
            simp only [Act.put, sA, sB, sD, sE, sF]
            refine tkH (i := 1) (v := ?v2) rfl (Or.inl ⟨by rfl, ?hy2⟩) h0 ?rest2
            case hy2 => (intro w' hS; (try dsimp only at hS); go_simp; try (with_reducible rfl))
            simp only [Act.put, sZ]
            refine tkH (i := 2) (v := ?v3) rfl (Or.inl ⟨by rfl, ?hy3⟩) h0 ?rest3
            case hy3 => (intro w' hS; (try dsimp only at hS); go_simp; try (with_reducible rfl))
            simp only [Act.put, sZ]
            refine tkH (i := 3) (v := ?v4) rfl (Or.inl ⟨by rfl, ?hy4⟩) h0 ?rest4
            case hy4 => (intro w' hS; (try dsimp only at hS); go_simp; try (with_reducible rfl))
            simp only [Act.put, sZ]
            refine tkH (i := 4) (v := ?v5) rfl (Or.inl ⟨by rfl, ?hy5⟩) h0 ?rest5
            case hy5 => (intro w' hS; (try dsimp only at hS); go_simp; try (with_reducible rfl))
            simp only [Act.put, sZ]
            refine tkH (i := 5) (v := ?v6) rfl (Or.inl ⟨by rfl, ?hy6⟩) h0 ?rest6
            case hy6 => (intro w' hS; (try dsimp only at hS); go_simp; try (with_reducible rfl))
            simp only [Act.put, sZ]
            refine tkH (i := 6) (v := ?v7) rfl (Or.inl ⟨by rfl, ?hy7⟩) h0 ?rest7
            case hy7 => (intro w' hS; (try dsimp only at hS); go_simp; try (with_reducible rfl))
            simp only [Act.put, sZ]
            refine tkH (i := 7) (v := ?v8) rfl (Or.inl ⟨by rfl, ?hy8⟩) h0 ?rest8
            case hy8 => (intro w' hS; (try dsimp only at hS); go_simp; try (with_reducible rfl))
            simp only [Act.put, sZ]
            refine wpAnyH_ready (rs := [8, 12]) (by kernel_rfl) (by simp) (AllReadyH.cons rfl (fun K hK => ?_) (AllReadyH.cons rfl (fun K hK => ?_) AllReadyH.nil))
            · rw [if_pos (by rfl)]
              go_simp
              refine (SB.out _).mono ?_
              rintro e wc ⟨rfl, hb3⟩
              have Bc := Lib.hid (below_on Bc.out hb3)
              try have PA := Lib.hid (PA.out.kept hb3)
              clear hb3
              go_simp
              refine hK.out _ _ (KS.out _ Bc.out) (fun h0_1 => ?_)
              clear hK K h0
              try obtain ⟨p0, p1, p2, p3⟩ := PA.out.facts
              refine tkH (i := 9) (v := ?v9) rfl (Or.inl ⟨by rfl, ?hy9⟩) h0_1 ?rest9
              case hy9 => (intro w' hS; (try dsimp only at hS); go_simp; try (with_reducible rfl))
              simp only [Act.put, sZ]
              refine tkH (i := 10) (v := ?v10) rfl (Or.inl ⟨by rfl, ?hy10⟩) h0_1 ?rest10
              case hy10 => (intro w' hS; (try dsimp only at hS); go_simp; try (with_reducible rfl))
              simp only [Act.put, sZ]
              refine tkH (i := 11) (v := ?v11) rfl (Or.inl ⟨by rfl, ?hy11⟩) h0_1 ?rest11
              case hy11 => (intro w' hS; (try dsimp only at hS); go_simp; try (with_reducible rfl))
              simp only [Act.put, sZ]
              refine wpAnyH_ready (rs := [12]) (by kernel_rfl) (by simp) (AllReadyH.cons rfl (fun K hK => ?_) AllReadyH.nil)
              rw [if_pos (by rfl)]
              go_simp
              have hsz := Bc.out.size
              obtain ⟨wa, hwa⟩ : ∃ wa, wa = wc.alloc (.cells #[.int .i64 0, .int .i64 0] 45) := ⟨_, rfl⟩
              rw [← hwa]
              have PA := Lib.hid (show Pair wa wc.heap.size 0 0 by rw [hwa]; exact Pair.made _ _ _ _)
              have Bc := Lib.hid (show Below w.heap.size w wa by rw [hwa]; exact Bc.out.alloc Bc.out.size _)
              clear hwa
              go_simp
              refine hK.out _ _ (KS.out _ Bc.out) (fun h0_2 => ?_)
              clear hK K h0_1
              obtain ⟨p0, p1, p2, p3⟩ := PA.out.facts
              refine wpAnyH_ready (rs := [13]) (by kernel_rfl) (by simp) (AllReadyH.cons rfl (fun K hK => ?_) AllReadyH.nil)
              rw [if_pos (by rfl)]
              go_simp
              refine hK.out _ _ (KS.out _ (below_put Bc.out (by omega) _ _)) (fun h0_3 => ?_)
              clear hK K h0_2
              refine tkH (i := 14) (v := ?v12) rfl (Or.inl ⟨by rfl, ?hy12⟩) h0_3 ?rest12
              case hy12 => (intro w' hS; (try dsimp only at hS); go_simp; try (with_reducible rfl))
              simp only [Act.put, sZ]
              refine wpAnyH_done (by kernel_rfl) ?_ _
              go_wp2_with fail
              go_meet
              case rel => exact ⟨_, rfl, rfl, Lib.hid ⟨PA.out.put _ _, below_put Bc.out (by omega) _ _⟩⟩
            · rw [if_pos (by rfl)]
              go_simp
              have hsz := Bc.out.size
              obtain ⟨wa, hwa⟩ : ∃ wa, wa = wc.alloc (.cells #[.int .i64 0, .int .i64 0] 45) := ⟨_, rfl⟩
              rw [← hwa]
              have PA := Lib.hid (show Pair wa wc.heap.size 0 0 by rw [hwa]; exact Pair.made _ _ _ _)
              have Bc := Lib.hid (show Below w.heap.size w wa by rw [hwa]; exact Bc.out.alloc Bc.out.size _)
              clear hwa
              go_simp
              refine hK.out _ _ (KS.out _ Bc.out) (fun h0_1 => ?_)
              clear hK K h0
              obtain ⟨p0, p1, p2, p3⟩ := PA.out.facts
              refine wpAnyH_ready (rs := [8]) (by kernel_rfl) (by simp) (AllReadyH.cons rfl (fun K hK => ?_) AllReadyH.nil)
              rw [if_pos (by rfl)]
              go_simp
              refine (SB.out _).mono ?_
              rintro e wc ⟨rfl, hb3⟩
              have Bc := Lib.hid (below_on Bc.out hb3)
              try have PA := Lib.hid (PA.out.kept hb3)
              clear hb3
              go_simp
              refine hK.out _ _ (KS.out _ Bc.out) (fun h0_4 => ?_)
              clear hK K h0_1
              try obtain ⟨p0, p1, p2, p3⟩ := PA.out.facts
              refine tkH (i := 9) (v := ?v13) rfl (Or.inl ⟨by rfl, ?hy13⟩) h0_4 ?rest13
              case hy13 => (intro w' hS; (try dsimp only at hS); go_simp; try (with_reducible rfl))
              simp only [Act.put, sZ]
              refine tkH (i := 10) (v := ?v14) rfl (Or.inl ⟨by rfl, ?hy14⟩) h0_4 ?rest14
              case hy14 => (intro w' hS; (try dsimp only at hS); go_simp; try (with_reducible rfl))
              simp only [Act.put, sZ]
              refine tkH (i := 11) (v := ?v15) rfl (Or.inl ⟨by rfl, ?hy15⟩) h0_4 ?rest15
              case hy15 => (intro w' hS; (try dsimp only at hS); go_simp; try (with_reducible rfl))
              simp only [Act.put, sZ]
              refine wpAnyH_ready (rs := [13]) (by kernel_rfl) (by simp) (AllReadyH.cons rfl (fun K hK => ?_) AllReadyH.nil)
              rw [if_pos (by rfl)]
              go_simp
              refine hK.out _ _ (KS.out _ (below_put Bc.out (by omega) _ _)) (fun h0_5 => ?_)
              clear hK K h0_4
              refine tkH (i := 14) (v := ?v16) rfl (Or.inl ⟨by rfl, ?hy16⟩) h0_5 ?rest16
              case hy16 => (intro w' hS; (try dsimp only at hS); go_simp; try (with_reducible rfl))
              simp only [Act.put, sZ]
              refine wpAnyH_done (by kernel_rfl) ?_ _
              go_wp2_with fail
              go_meet
              case rel => exact ⟨_, rfl, rfl, Lib.hid ⟨PA.out.put _ _, below_put Bc.out (by omega) _ _⟩⟩
          case rest =>
            obtain ⟨b, rfl, rfl, HC⟩ := hcut
            clear KS SB HB
            by_cases hs0 : se = 0
            case neg =>
              have DE : (se != 0) = true := by simpa using hs0
              have HE := Lib.hid (show omR n' f l ps = (false, se) from by
                have h7 : se = 7 := by omega
                rw [h7]
                exact mtR_no hif (by omega) hjf (by omega) (by rw [← HSE.out]; exact hs0))
              clear hs0 hor
              go_wp2_with fail
              go_ret2
              exact ⟨by rw [HE.out]; rfl, HC.out.2⟩
            case pos =>
              have MT := Lib.hid (fun W => MT0.out W hs0)
              have HS3 := HS2
              have HS4 := Lib.hid (show ∀ y, f ≤ y → y < j + 1 → sbE ps i y = 0 from fun y h1 h2 => by
                by_cases e : y = j
                · rw [e, ← HSE.out]; exact hs0
                · exact HS5.out y h1 (by omega))
              have HN := Lib.hid (show mc = true → (ok = true ↔ (∀ x, f ≤ x → x < i → ∀ y, f ≤ y → y < n' + 1 → hsM n' l ps x y = true) ∧ ∀ y, f ≤ y → y < j + 1 → hsM n' l ps i y = true) from fun h => by
                obtain ⟨h1, h2⟩ := HS1.out.1 h
                constructor
                · intro ho
                  refine ⟨h1, fun y q1 q2 => ?_⟩
                  by_cases e : y = j
                  · rw [e, ← HOK.out]; exact ho
                  · exact h2 y q1 (by omega)
                · intro q
                  rw [HOK.out]; exact q.2 j hjf (by omega))
              have HM2 := Lib.hid (show mc = false → (false = true ↔ (∀ x, f ≤ x → x < i → ∀ y, f ≤ y → y < n' + 1 → hsM n' l ps x y = true) ∧ ∀ y, f ≤ y → y < j + 1 → hsM n' l ps i y = true) from fun h => by
                constructor
                · intro q; cases q
                · intro q
                  have := HS1.out.2 ⟨q.1, fun y q1 q2 => q.2 y q1 (by omega)⟩
                  rw [h] at this; exact this)
              subst hs0
              clear hor MT0
              have M := Lib.hid (HKP.out _ HC.out.2)
              go_upto_region 11 with (fail)
              obtain ⟨wd, hwd⟩ : ∃ wd, wd = wc.drew := ⟨_, rfl⟩
              have BD := Lib.hid (show Below w.heap.size w wd by rw [hwd]; exact HC.out.2.drew)
              have RW := Lib.hid (row_any b0 n' i wd hn hi (HKP.out _ BD.out).dim)
              have KR := Lib.hid (show ∀ W, Below wd.heap.size wd W → ((W.cell? ⟨b, 0, none⟩ = some (.int .i64 sn) ∧ W.cell? ⟨b, 1, none⟩ = some (.int .i64 sd)) ∧ W.cell? ⟨b0, 1 + i * (n' + 1) + j, none⟩ = some (.int .i64 lv)) from fun W h => by
                have pf := ((show Pair wd b sn sd by rw [hwd]; exact HC.out.1.kept (Below.refl _ _).drew).kept h).facts
                exact ⟨⟨pf.1, pf.2.1⟩, e1.out _ (HKP.out _ (below_on BD.out h))⟩)
              clear HC
              refine wp_region_held_drew (S := (fun w' => (w'.cell? ⟨b, 0, none⟩ = some (.int .i64 sn) ∧ w'.cell? ⟨b, 1, none⟩ = some (.int .i64 sd)) ∧ w'.cell? ⟨b0, 1 + i * (n' + 1) + j, none⟩ = some (.int .i64 lv))) (by kernel_rfl) (by rw [← hwd]; exact KR.out _ (Below.refl _ _)) (fun h0 => ?_)
              rw [← hwd] at h0 ⊢
              clear hwd
              refine tkH (i := 0) (v := ?v17) rfl (Or.inl ⟨by rfl, ?hy17⟩) h0 ?rest17
              case hy17 => (intro w' hS; (try dsimp only at hS); go_simp; try (with_reducible rfl))
              simp only [Act.put, sA, sB, sD, sE, sF]
              refine tkH (i := 1) (v := ?v18) rfl (Or.inl ⟨by rfl, ?hy18⟩) h0 ?rest18
              case hy18 => (intro w' hS; (try dsimp only at hS); go_simp; try (with_reducible rfl))
              simp only [Act.put, sZ]
              refine tkH (i := 2) (v := ?v19) rfl (Or.inl ⟨by rfl, ?hy19⟩) h0 ?rest19
              case hy19 => (intro w' hS; (try dsimp only at hS); go_simp; try (with_reducible rfl))
              simp only [Act.put, sZ]
              refine tkH (i := 4) (v := ?v20) rfl (Or.inl ⟨by rfl, ?hy20⟩) h0 ?rest20
              case hy20 => (intro w' hS; (try dsimp only at hS); go_simp; try (with_reducible rfl))
              simp only [Act.put, sZ]
              refine wpAnyH_ready (rs := [3]) (by kernel_rfl) (by simp) (AllReadyH.cons rfl (fun K hK => ?_) AllReadyH.nil)
              rw [if_pos (by rfl)]
              go_simp
              refine (RW.out).mono ?_
              rintro e wq ⟨rfl, hwq⟩
              rw [hwq]; clear hwq wq
              go_simp
              refine hK.out _ _ (KR.out _ (Below.refl _ _)) (fun h0_1 => ?_)
              clear hK K h0
              refine tkH (i := 5) (v := ?v21) rfl (Or.inl ⟨by rfl, ?hy21⟩) h0_1 ?rest21
              case hy21 => (intro w' hS; (try dsimp only at hS); go_simp; try (with_reducible rfl))
              simp only [Act.put, sZ]
              refine tkH (i := 6) (v := ?v22) rfl (Or.inl ⟨by rfl, ?hy22⟩) h0_1 ?rest22
              case hy22 => (intro w' hS; (try dsimp only at hS); go_simp; try (with_reducible rfl))
              simp only [Act.put, sZ]
              refine wpAnyH_ready (rs := [7]) (by kernel_rfl) (by simp) (AllReadyH.cons rfl (fun K hK => ?_) AllReadyH.nil)
              rw [if_pos (by rfl)]
              go_simp
              refine (MT.out _).mono ?_
              rintro e w8 ⟨rfl, hb8⟩
              have B8 := Lib.hid (below_on BD.out hb8)
              go_simp
              refine hK.out _ _ (KR.out _ hb8) (fun h0_2 => ?_)
              clear hK K h0_1
              clear hb8
              refine tkH (i := 8) (v := ?v23) rfl (Or.inl ⟨by rfl, ?hy23⟩) h0_2 ?rest23
              case hy23 => (intro w' hS; (try dsimp only at hS); go_simp; try (with_reducible rfl))
              simp only [Act.put, sZ]
              refine tkH (i := 9) (v := ?v24) rfl (Or.inl ⟨by rfl, ?hy24⟩) h0_2 ?rest24
              case hy24 => (intro w' hS; (try dsimp only at hS); go_simp; try (with_reducible rfl))
              simp only [Act.put, sZ]
              refine tkH (i := 10) (v := ?v25) rfl (Or.inl ⟨by rfl, ?hy25⟩) h0_2 ?rest25
              case hy25 => (intro w' hS; (try dsimp only at hS); go_simp; try (with_reducible rfl))
              simp only [Act.put, sZ]
              refine tkH (i := 11) (v := ?v26) rfl (Or.inl ⟨by rfl, ?hy26⟩) h0_2 ?rest26
              case hy26 => (intro w' hS; (try dsimp only at hS); go_simp; try (with_reducible rfl))
              simp only [Act.put, sZ]
              refine tkH (i := 12) (v := ?v27) rfl (Or.inl ⟨by rfl, ?hy27⟩) h0_2 ?rest27
              case hy27 => (intro w' hS; (try dsimp only at hS); go_simp; try (with_reducible rfl))
              simp only [Act.put, sZ]
              refine wpAnyH_done (by kernel_rfl) ?_ _
              by_cases hmc : mc = true
              case pos =>
                have HX2 := Lib.hid (HN.out hmc)
                go_wp2_with fail
                go_roundw
                case rel => exact ⟨j + 1, ok, by omega, by omega, rfl, by go_num, HX2, HS3, HS4, B8⟩
                case measure => simp [intOf]; omega
              case neg =>
                have hmd : mc = false := by simpa using hmc
                have HX2 := Lib.hid (HM2.out hmd)
                clear hmc
                go_wp2_with fail
                go_roundw
                case rel => exact ⟨j + 1, false, by omega, by omega, rfl, by go_num, HX2, HS3, HS4, B8⟩
                case measure => simp [intOf]; omega
end Go.Proofs.YthjapmdfcbngmaaGreat
