/- meets of layer 3.; The contract of layer 3's Has, for whatever zone and point.; The contract of layer 3's Stay.; Equality of two intervals.; Contracts of slices.Equal at limits and layer 3's Same. -/
import Derived.Test.YtbnebinpemejlaaHc9
import Derived.Test.YtbnebinpemejlaaHc4
import Derived.DeepKeys
import Derived.Test.YtbnebinpemejlaaHc7
import Derived.Test.YtbnebinpemejlaaHc6

namespace Go.Proofs.Ytbnebinpemejlaa
open Go.RowKit

def mtA (n f : Nat) (ps : List Pq) : Bool := (List.range (n + 1)).all fun i => (List.range (n + 1)).all fun j => decide (i < f) || decide (j < f) || decide (sbE ps i j = 0)

def mtH (n f : Nat) (l : List Int) (ps : List Pq) : Bool := (List.range (n + 1)).all fun i => (List.range (n + 1)).all fun j => decide (i < f) || decide (j < f) || hsM n l ps i j

/-- What meets returns: do the differences of the clocks from f on meet their bounds, and the error. -/
def mtR (n f : Nat) (l : List Int) (ps : List Pq) : Bool × Int := if mtA n f ps then (mtH n f l ps, 0) else (false, 7)

theorem mtA_iff {n f : Nat} {ps : List Pq} : mtA n f ps = true ↔ ∀ i, f ≤ i → i < n + 1 → ∀ j, f ≤ j → j < n + 1 → sbE ps i j = 0 := by
  unfold mtA
  simp only [List.all_eq_true, List.mem_range, Bool.or_eq_true, decide_eq_true_eq]
  constructor
  · intro h i h1 h2 j h3 h4
    rcases h i h2 j h4 with (h | h) | h
    · omega
    · omega
    · exact h
  · intro h i h2 j h4
    by_cases h1 : i < f
    · exact Or.inl (Or.inl h1)
    · by_cases h3 : j < f
      · exact Or.inl (Or.inr h3)
      · exact Or.inr (h i (by omega) h2 j (by omega) h4)

theorem mtH_iff {n f : Nat} {l : List Int} {ps : List Pq} : mtH n f l ps = true ↔ ∀ i, f ≤ i → i < n + 1 → ∀ j, f ≤ j → j < n + 1 → hsM n l ps i j = true := by
  unfold mtH
  simp only [List.all_eq_true, List.mem_range, Bool.or_eq_true, decide_eq_true_eq]
  constructor
  · intro h i h1 h2 j h3 h4
    rcases h i h2 j h4 with (h | h) | h
    · omega
    · omega
    · exact h
  · intro h i h2 j h4
    by_cases h1 : i < f
    · exact Or.inl (Or.inl h1)
    · by_cases h3 : j < f
      · exact Or.inl (Or.inr h3)
      · exact Or.inr (h i (by omega) h2 j (by omega) h4)

theorem mtR_ok {n f : Nat} {l : List Int} {ps : List Pq} {mb : Bool} (h : ∀ i, f ≤ i → i < n + 1 → ∀ j, f ≤ j → j < n + 1 → sbE ps i j = 0) (hm : mb = true ↔ ∀ i, f ≤ i → i < n + 1 → ∀ j, f ≤ j → j < n + 1 → hsM n l ps i j = true) : mtR n f l ps = (mb, 0) := by
  unfold mtR
  rw [if_pos (mtA_iff.2 h)]
  have : mtH n f l ps = mb := by rw [Bool.eq_iff_iff]; exact mtH_iff.trans hm.symm
  rw [this]

theorem mtR_no {n f : Nat} {l : List Int} {ps : List Pq} {i j : Nat} (h1 : f ≤ i) (h2 : i < n + 1) (h3 : f ≤ j) (h4 : j < n + 1) (h : sbE ps i j ≠ 0) : mtR n f l ps = (false, 7) := by
  unfold mtR
  rw [if_neg]
  intro e
  exact h (mtA_iff.1 e i h1 h2 j h3 h4)

theorem clk_gp (ps : List Pq) (i : Nat) : gp ((0, 1) :: ps) i = clk ps i := by
  unfold clk
  cases i with
  | zero => rfl
  | succ i => simp [gp]

theorem sbE_or {ps : List Pq} (h : ∀ k, k < ps.length → vldC (gp ps k) = true) {i j : Nat} (hi : i ≤ ps.length) (hj : j ≤ ps.length) : sbE ps i j = 0 ∨ sbE ps i j = 7 := by
  have v1 := vld_bd (clk_ok h hi)
  have v2 := vld_bd (clk_ok h hj)
  by_cases e : sbE ps i j = 0
  · exact Or.inl e
  · right
    unfold sbE at e ⊢
    refine (mk_zero ?_ e).2.2
    intro q
    rcases Int.mul_eq_zero.1 q with q | q <;> omega

theorem psub_clk {ps : List Pq} (w : World) (h : ∀ k, k < ps.length → vldC (gp ps k) = true) {i j : Nat} (hi : i ≤ ps.length) (hj : j ≤ ps.length) :
    Calls Try.prog 123 #[.agg #[.int .i64 (clk ps i).1, .int .i64 (clk ps i).2], .agg #[.int .i64 (clk ps j).1, .int .i64 (clk ps j).2]] w (Made (.tuple #[.agg #[.int .i64 (sbN ps i j), .int .i64 (sbD ps i j)], .int .i64 (sbE ps i j)]) w) := by
  have v1 := clk_ok h hi
  have v2 := clk_ok h hj
  obtain ⟨a1, a2, a3, a4⟩ := vld_bd v1
  obtain ⟨b1, b2, b3, b4⟩ := vld_bd v2
  have := sub_any (clk ps i).1 (clk ps i).2 (clk ps j).1 (clk ps j).2 w (by unfold I64; omega) (by unfold I64; omega) (by unfold I64; omega) (by unfold I64; omega)
  rw [v1, v2] at this
  exact this

theorem sb_vld {ps : List Pq} {i j : Nat} (h : sbE ps i j = 0) : vldB (sbN ps i j) (sbD ps i j) = true := (mk_ok h).2.1

theorem chk_lv {n : Nat} {l : List Int} (h : chkE (n : Int) l = 0) {i j : Nat} (hi : i ≤ n) (hj : j ≤ n) : lvB (Zo.At n l i j) = true := by
  unfold chkE at h
  split at h
  · rename_i c
    unfold chkB at c
    simp only [Bool.and_eq_true] at c
    have := chk1_iff.1 c.1.2 i (by simp; omega) j (by simp; omega)
    simp only [Int.toNat_natCast] at this
    unfold okI at this
    simp only [Bool.and_eq_true] at this
    exact this.1.1
  · omega

set_option maxRecDepth 100000 in
set_option maxHeartbeats 8000000 in
theorem meets_any (n f : Nat) (l : List Int) (ps : List Pq) (b0 : Nat) (a : Addr) (cap : Nat) (w : World) (hc : chkE n l = 0) (hf : f ≤ 1) (hp : ps.length = n) (hM : Mx w b0 n l) (hP : Rd2 w a ((0, 1) :: ps)) (hV : ps.all vldC = true) :
    Calls Try.prog 98 #[.pointer (some ⟨b0, 0, none⟩), .slice (some a) (n + 1) cap, .int .i64 f] w (Made (.tuple #[.bool (mtR n f l ps).1, .int .i64 (mtR n f l ps).2]) w) := by
  obtain ⟨n', en, hn, hl, _⟩ := chk_ok hc
  obtain rfl : n' = n := by omega
  clear en
  have hv := rd_all hV
  have HSB := Lib.hid (fun (i j : Nat) (hi : i ≤ n') (hj : j ≤ n') W => psub_clk (ps := ps) W hv (i := i) (j := j) (by omega) (by omega))
  have HOR := Lib.hid (fun (i j : Nat) (hi : i ≤ n') (hj : j ≤ n') => sbE_or (ps := ps) hv (i := i) (j := j) (by omega) (by omega))
  have HMT := Lib.hid (fun (i j : Nat) W (hi : i ≤ n') (hj : j ≤ n') (h0 : sbE ps i j = 0) => show Calls Try.prog 124 #[.agg #[.int .i64 (sbN ps i j), .int .i64 (sbD ps i j)], .int .i64 (Zo.At n' l i j)] W (Made (.tuple #[.bool (hsM n' l ps i j), .int .i64 0]) W) from by
    have hb := vld_bd (sb_vld h0)
    have := limMeets_any (sbN ps i j) (sbD ps i j) (Zo.At n' l i j) W (by unfold I64; omega) (by unfold I64; omega) (chk_i64 hc hi hj)
    rw [show meE (sbN ps i j) (sbD ps i j) (Zo.At n' l i j) = 0 by unfold meE; rw [sb_vld h0, chk_lv hc hi hj]; rfl] at this
    exact this)
  have HP := Lib.hid hP
  have HM := Lib.hid hM
  have HPL := Lib.hid hp
  have HLL := Lib.hid hl
  have HKP := Lib.hid (show ∀ W, Below w.heap.size w W → Mx W b0 n' l from fun W h => hM.of_block (h.block _ hM.lt))
  clear hP hM hp hl hv hV hc
  go_enter Try.func98, Try.ntmps98
  go_wp2_with fail
  go_loopw [8, 9] (fun s t wr => ∃ (i : Nat) (mb : Bool), f ≤ i ∧ i ≤ n' + 1 ∧ s = .bool mb ∧ t = .int .i64 i ∧ Hid (mb = true ↔ ∀ x, f ≤ x → x < i → ∀ y, f ≤ y → y < n' + 1 → hsM n' l ps x y = true) ∧ Hid (∀ x, f ≤ x → x < i → ∀ y, f ≤ y → y < n' + 1 → sbE ps x y = 0) ∧ Hid (Below w.heap.size w wr)) (fun _ t _ => n' + 1 - (intOf t).toNat)
  case atStart => exact ⟨f, true, by omega, by omega, rfl, rfl, Lib.hid ⟨fun _ x h1 h2 => by omega, fun _ => rfl⟩, Lib.hid (fun x h1 h2 => by omega), Lib.hid (Below.refl _ _)⟩
  case round =>
    obtain ⟨i, mb, hif, hin, rfl, rfl, HS1, HS2, HB⟩ := hrel
    have d0 := (HKP.out _ HB.out).dim
    by_cases hi : i ≤ n'
    case neg =>
      have D : decide ((i : Int) ≤ (n' : Int)) = false := by simp; omega
      have HE := Lib.hid (show mtR n' f l ps = (mb, 0) from by
        have e : i = n' + 1 := by omega
        have h1 := HS1.out
        have h2 := HS2.out
        rw [e] at h1 h2
        exact mtR_ok h2 h1)
      go_wp2_with fail
      go_ret2
      exact ⟨by rw [HE.out]; rfl, HB.out⟩
    case pos =>
      have D : decide ((i : Int) ≤ (n' : Int)) = true := by simp; omega
      go_wp2_with fail
      clear d0
      go_loopw [8, 10] (fun s t wr => ∃ (j : Nat) (mc : Bool), f ≤ j ∧ j ≤ n' + 1 ∧ s = .bool mc ∧ t = .int .i64 j ∧ Hid (mc = true ↔ (∀ x, f ≤ x → x < i → ∀ y, f ≤ y → y < n' + 1 → hsM n' l ps x y = true) ∧ ∀ y, f ≤ y → y < j → hsM n' l ps i y = true) ∧ Hid (∀ x, f ≤ x → x < i → ∀ y, f ≤ y → y < n' + 1 → sbE ps x y = 0) ∧ Hid (∀ y, f ≤ y → y < j → sbE ps i y = 0) ∧ Hid (Below w.heap.size w wr)) (fun _ t _ => n' + 1 - (intOf t).toNat)
      case atStart => exact ⟨f, mb, by omega, by omega, rfl, rfl, Lib.hid ⟨fun h => ⟨HS1.out.1 h, fun y h1 h2 => by omega⟩, fun h => HS1.out.2 h.1⟩, HS2, Lib.hid (fun y h1 h2 => by omega), HB⟩
      case round =>
        clear HS1 HS2 HB
        obtain ⟨j, mc, hjf, hjn, rfl, rfl, HS1, HS2, HS5, HB⟩ := hrel
        have d0 := (HKP.out _ HB.out).dim
        by_cases hj : j ≤ n'
        case neg =>
          have E : decide ((j : Int) ≤ (n' : Int)) = false := by simp; omega
          have HT1 := Lib.hid (show mc = true ↔ ∀ x, f ≤ x → x < i + 1 → ∀ y, f ≤ y → y < n' + 1 → hsM n' l ps x y = true from by
            rw [HS1.out]
            constructor
            · intro h x h1 h2 y h3 h4
              by_cases e : x = i
              · rw [e]; exact h.2 y h3 (by omega)
              · exact h.1 x h1 (by omega) y h3 h4
            · intro h
              exact ⟨fun x h1 h2 => h x h1 (by omega), fun y h1 h2 => h i hif (by omega) y h1 (by omega)⟩)
          have HT2 := Lib.hid (show ∀ x, f ≤ x → x < i + 1 → ∀ y, f ≤ y → y < n' + 1 → sbE ps x y = 0 from fun x h1 h2 y h3 h4 => by
            by_cases e : x = i
            · rw [e]; exact HS5.out y h3 (by omega)
            · exact HS2.out x h1 (by omega) y h3 h4)
          go_wp2_with fail
          go_roundw
          case rel => exact ⟨i + 1, mc, by omega, by omega, rfl, by go_num, HT1, HT2, HB⟩
          case measure => simp [intOf]; omega
        case pos =>
          have E : decide ((j : Int) ≤ (n' : Int)) = true := by simp; omega
          have SB := Lib.hid (fun W => HSB.out i j hi hj W)
          have hor := HOR.out i j hi hj
          have MT0 := Lib.hid (fun W => HMT.out i j W hi hj)
          obtain ⟨sn, hsn⟩ : ∃ x, x = sbN ps i j := ⟨_, rfl⟩
          obtain ⟨sd, hsd⟩ : ∃ x, x = sbD ps i j := ⟨_, rfl⟩
          obtain ⟨se, hse⟩ : ∃ x, x = sbE ps i j := ⟨_, rfl⟩
          obtain ⟨ok, hok⟩ : ∃ x, x = hsM n' l ps i j := ⟨_, rfl⟩
          obtain ⟨lv, hlv⟩ : ∃ x, x = Zo.At n' l i j := ⟨_, rfl⟩
          rw [← hsn, ← hsd, ← hse] at SB
          rw [← hse] at hor
          rw [← hsn, ← hsd, ← hse, ← hlv, ← hok] at MT0
          have ix := Zo.ix_lt hi hj
          have e1 := Lib.hid (show ∀ W, Mx W b0 n' l → W.cell? ⟨b0, 1 + i * (n' + 1) + j, none⟩ = some (.int .i64 lv) from fun W h => by rw [hlv, Nat.add_assoc]; exact h.at (by rw [h.2]; exact ix))
          have HSE := Lib.hid hse
          have HOK := Lib.hid hok
          have KS0 := Lib.hid (show ∀ W, Below w.heap.size w W → ((W.cell? (a.add (i * 2)) = some (.int .i64 (clk ps i).1) ∧ W.cell? ⟨(a.add (i * 2)).block, (a.add (i * 2)).off + 1, none⟩ = some (.int .i64 (clk ps i).2)) ∧ (W.cell? (a.add (j * 2)) = some (.int .i64 (clk ps j).1) ∧ W.cell? ⟨(a.add (j * 2)).block, (a.add (j * 2)).off + 1, none⟩ = some (.int .i64 (clk ps j).2))) from fun W h => by
            have h1 := (HP.out.on h) i (by simp [HPL.out]; omega)
            have h2 := (HP.out.on h) j (by simp [HPL.out]; omega)
            rw [clk_gp] at h1 h2
            exact ⟨h1, h2⟩)
          obtain ⟨xn, hxn⟩ : ∃ x, x = (clk ps i).1 := ⟨_, rfl⟩
          obtain ⟨xd, hxd⟩ : ∃ x, x = (clk ps i).2 := ⟨_, rfl⟩
          obtain ⟨yn, hyn⟩ : ∃ x, x = (clk ps j).1 := ⟨_, rfl⟩
          obtain ⟨yd, hyd⟩ : ∃ x, x = (clk ps j).2 := ⟨_, rfl⟩
          rw [← hxn, ← hxd, ← hyn, ← hyd] at SB KS0
          have KS := KS0
          clear hxn hxd hyn hyd hsn hsd hse hok hlv ix KS0
          have t1 : (i : Int) < (n' : Int) + 1 := by omega
          have t2 : (j : Int) < (n' : Int) + 1 := by omega
          go_upto_region 8 with (fail)
          clear d0
          go_cut [11, 12] (fun p s wx => ∃ b : Nat, p = .pointer (some ⟨b, 0, none⟩) ∧ s = .int .i64 se ∧ Hid (Pair wx b sn sd ∧ Below w.heap.size w wx))
          case first =>
            obtain ⟨wc, hwc⟩ : ∃ wc, wc = wr.drew := ⟨_, rfl⟩
            have Bc := Lib.hid (show Below w.heap.size w wc by rw [hwc]; exact HB.out.drew)
            refine wp_region_held_drew (S := (fun w' => (w'.cell? (a.add (i * 2)) = some (.int .i64 xn) ∧ w'.cell? ⟨(a.add (i * 2)).block, (a.add (i * 2)).off + 1, none⟩ = some (.int .i64 xd)) ∧ (w'.cell? (a.add (j * 2)) = some (.int .i64 yn) ∧ w'.cell? ⟨(a.add (j * 2)).block, (a.add (j * 2)).off + 1, none⟩ = some (.int .i64 yd)))) (by kernel_rfl) (by rw [← hwc]; exact KS.out _ Bc.out) (fun h0 => ?_)
            rw [← hwc] at h0 ⊢
            clear hwc
            refine wpAnyH_take (i := 0) (v := ?v1) rfl (by kernel_rfl) (by kernel_rfl) (by kernel_rfl) (fun _ _ _ h => h) (Or.inl ⟨by rfl, ?hy1⟩) h0 ?rest1
            case hy1 => (intro w' hS; (try dsimp only at hS); go_simp; try (with_reducible rfl))
            simp only [Act.put, List.getElem_toArray, List.getElem_cons_zero, List.setIfInBounds_toArray, List.set_cons_zero, List.set_cons_succ]
            refine wpAnyH_take (i := 1) (v := ?v2) rfl (by kernel_rfl) (by kernel_rfl) (by kernel_rfl) (fun _ _ _ h => h) (Or.inl ⟨by rfl, ?hy2⟩) h0 ?rest2
            case hy2 => (intro w' hS; (try dsimp only at hS); go_simp; try (with_reducible rfl))
            simp only [Act.put, List.getElem_toArray, List.getElem_cons_zero, List.getElem_cons_succ, List.setIfInBounds_toArray, List.set_cons_zero, List.set_cons_succ]
            refine wpAnyH_take (i := 2) (v := ?v3) rfl (by kernel_rfl) (by kernel_rfl) (by kernel_rfl) (fun _ _ _ h => h) (Or.inl ⟨by rfl, ?hy3⟩) h0 ?rest3
            case hy3 => (intro w' hS; (try dsimp only at hS); go_simp; try (with_reducible rfl))
            simp only [Act.put, List.getElem_toArray, List.getElem_cons_zero, List.getElem_cons_succ, List.setIfInBounds_toArray, List.set_cons_zero, List.set_cons_succ]
            refine wpAnyH_take (i := 3) (v := ?v4) rfl (by kernel_rfl) (by kernel_rfl) (by kernel_rfl) (fun _ _ _ h => h) (Or.inl ⟨by rfl, ?hy4⟩) h0 ?rest4
            case hy4 => (intro w' hS; (try dsimp only at hS); go_simp; try (with_reducible rfl))
            simp only [Act.put, List.getElem_toArray, List.getElem_cons_zero, List.getElem_cons_succ, List.setIfInBounds_toArray, List.set_cons_zero, List.set_cons_succ]
            refine wpAnyH_take (i := 4) (v := ?v5) rfl (by kernel_rfl) (by kernel_rfl) (by kernel_rfl) (fun _ _ _ h => h) (Or.inl ⟨by rfl, ?hy5⟩) h0 ?rest5
            case hy5 => (intro w' hS; (try dsimp only at hS); go_simp; try (with_reducible rfl))
            simp only [Act.put, List.getElem_toArray, List.getElem_cons_zero, List.getElem_cons_succ, List.setIfInBounds_toArray, List.set_cons_zero, List.set_cons_succ]
            refine wpAnyH_take (i := 5) (v := ?v6) rfl (by kernel_rfl) (by kernel_rfl) (by kernel_rfl) (fun _ _ _ h => h) (Or.inl ⟨by rfl, ?hy6⟩) h0 ?rest6
            case hy6 => (intro w' hS; (try dsimp only at hS); go_simp; try (with_reducible rfl))
            simp only [Act.put, List.getElem_toArray, List.getElem_cons_zero, List.getElem_cons_succ, List.setIfInBounds_toArray, List.set_cons_zero, List.set_cons_succ]
            refine wpAnyH_take (i := 6) (v := ?v7) rfl (by kernel_rfl) (by kernel_rfl) (by kernel_rfl) (fun _ _ _ h => h) (Or.inl ⟨by rfl, ?hy7⟩) h0 ?rest7
            case hy7 => (intro w' hS; (try dsimp only at hS); go_simp; try (with_reducible rfl))
            simp only [Act.put, List.getElem_toArray, List.getElem_cons_zero, List.getElem_cons_succ, List.setIfInBounds_toArray, List.set_cons_zero, List.set_cons_succ]
            refine wpAnyH_take (i := 7) (v := ?v8) rfl (by kernel_rfl) (by kernel_rfl) (by kernel_rfl) (fun _ _ _ h => h) (Or.inl ⟨by rfl, ?hy8⟩) h0 ?rest8
            case hy8 => (intro w' hS; (try dsimp only at hS); go_simp; try (with_reducible rfl))
            simp only [Act.put, List.getElem_toArray, List.getElem_cons_zero, List.getElem_cons_succ, List.setIfInBounds_toArray, List.set_cons_zero, List.set_cons_succ]
            refine wpAnyH_ready (rs := [8, 12]) (by kernel_rfl) (by simp) (AllReadyH.cons rfl (fun K hK => ?_) (AllReadyH.cons rfl (fun K hK => ?_) AllReadyH.nil))
            · rw [if_pos (by rfl)]
              go_simp
              refine (SB.out _).mono ?_
              rintro e wc ⟨rfl, hb3⟩
              have Bc := Lib.hid (below_on Bc.out hb3)
              try have PA := Lib.hid (PA.out.kept hb3)
              clear hb3
              go_simp
              refine hK.out _ _ (KS.out _ Bc.out) (fun h0_1 => ?_)
              clear hK K h0
              try obtain ⟨p0, p1, p2, p3⟩ := PA.out.facts
              refine wpAnyH_take (i := 9) (v := ?v9) rfl (by kernel_rfl) (by kernel_rfl) (by kernel_rfl) (fun _ _ _ h => h) (Or.inl ⟨by rfl, ?hy9⟩) h0_1 ?rest9
              case hy9 => (intro w' hS; (try dsimp only at hS); go_simp; try (with_reducible rfl))
              simp only [Act.put, List.getElem_toArray, List.getElem_cons_zero, List.getElem_cons_succ, List.setIfInBounds_toArray, List.set_cons_zero, List.set_cons_succ]
              refine wpAnyH_take (i := 10) (v := ?v10) rfl (by kernel_rfl) (by kernel_rfl) (by kernel_rfl) (fun _ _ _ h => h) (Or.inl ⟨by rfl, ?hy10⟩) h0_1 ?rest10
              case hy10 => (intro w' hS; (try dsimp only at hS); go_simp; try (with_reducible rfl))
              simp only [Act.put, List.getElem_toArray, List.getElem_cons_zero, List.getElem_cons_succ, List.setIfInBounds_toArray, List.set_cons_zero, List.set_cons_succ]
              refine wpAnyH_take (i := 11) (v := ?v11) rfl (by kernel_rfl) (by kernel_rfl) (by kernel_rfl) (fun _ _ _ h => h) (Or.inl ⟨by rfl, ?hy11⟩) h0_1 ?rest11
              case hy11 => (intro w' hS; (try dsimp only at hS); go_simp; try (with_reducible rfl))
              simp only [Act.put, List.getElem_toArray, List.getElem_cons_zero, List.getElem_cons_succ, List.setIfInBounds_toArray, List.set_cons_zero, List.set_cons_succ]
              refine wpAnyH_ready (rs := [12]) (by kernel_rfl) (by simp) (AllReadyH.cons rfl (fun K hK => ?_) AllReadyH.nil)
              rw [if_pos (by rfl)]
              go_simp
              have hsz := Bc.out.size
              obtain ⟨wa, hwa⟩ : ∃ wa, wa = wc.alloc (.cells #[.int .i64 0, .int .i64 0] 52) := ⟨_, rfl⟩
              rw [← hwa]
              have PA := Lib.hid (show Pair wa wc.heap.size 0 0 by rw [hwa]; exact Pair.made _ _ _ _)
              have Bc := Lib.hid (show Below w.heap.size w wa by rw [hwa]; exact Bc.out.alloc Bc.out.size _)
              clear hwa
              go_simp
              refine hK.out _ _ (KS.out _ Bc.out) (fun h0_2 => ?_)
              clear hK K h0_1
              obtain ⟨p0, p1, p2, p3⟩ := PA.out.facts
              refine wpAnyH_ready (rs := [13]) (by kernel_rfl) (by simp) (AllReadyH.cons rfl (fun K hK => ?_) AllReadyH.nil)
              rw [if_pos (by rfl)]
              go_simp
              refine hK.out _ _ (KS.out _ (below_put Bc.out (by omega) _ _)) (fun h0_3 => ?_)
              clear hK K h0_2
              refine wpAnyH_take (i := 14) (v := ?v12) rfl (by kernel_rfl) (by kernel_rfl) (by kernel_rfl) (fun _ _ _ h => h) (Or.inl ⟨by rfl, ?hy12⟩) h0_3 ?rest12
              case hy12 => (intro w' hS; (try dsimp only at hS); go_simp; try (with_reducible rfl))
              simp only [Act.put, List.getElem_toArray, List.getElem_cons_zero, List.getElem_cons_succ, List.setIfInBounds_toArray, List.set_cons_zero, List.set_cons_succ]
              refine wpAnyH_done (by kernel_rfl) ?_ _
              go_wp2_with fail
              go_meet
              case rel => exact ⟨_, rfl, rfl, Lib.hid ⟨PA.out.put _ _, below_put Bc.out (by omega) _ _⟩⟩
            · rw [if_pos (by rfl)]
              go_simp
              have hsz := Bc.out.size
              obtain ⟨wa, hwa⟩ : ∃ wa, wa = wc.alloc (.cells #[.int .i64 0, .int .i64 0] 52) := ⟨_, rfl⟩
              rw [← hwa]
              have PA := Lib.hid (show Pair wa wc.heap.size 0 0 by rw [hwa]; exact Pair.made _ _ _ _)
              have Bc := Lib.hid (show Below w.heap.size w wa by rw [hwa]; exact Bc.out.alloc Bc.out.size _)
              clear hwa
              go_simp
              refine hK.out _ _ (KS.out _ Bc.out) (fun h0_1 => ?_)
              clear hK K h0
              obtain ⟨p0, p1, p2, p3⟩ := PA.out.facts
              refine wpAnyH_ready (rs := [8]) (by kernel_rfl) (by simp) (AllReadyH.cons rfl (fun K hK => ?_) AllReadyH.nil)
              rw [if_pos (by rfl)]
              go_simp
              refine (SB.out _).mono ?_
              rintro e wc ⟨rfl, hb3⟩
              have Bc := Lib.hid (below_on Bc.out hb3)
              try have PA := Lib.hid (PA.out.kept hb3)
              clear hb3
              go_simp
              refine hK.out _ _ (KS.out _ Bc.out) (fun h0_4 => ?_)
              clear hK K h0_1
              try obtain ⟨p0, p1, p2, p3⟩ := PA.out.facts
              refine wpAnyH_take (i := 9) (v := ?v13) rfl (by kernel_rfl) (by kernel_rfl) (by kernel_rfl) (fun _ _ _ h => h) (Or.inl ⟨by rfl, ?hy13⟩) h0_4 ?rest13
              case hy13 => (intro w' hS; (try dsimp only at hS); go_simp; try (with_reducible rfl))
              simp only [Act.put, List.getElem_toArray, List.getElem_cons_zero, List.getElem_cons_succ, List.setIfInBounds_toArray, List.set_cons_zero, List.set_cons_succ]
              refine wpAnyH_take (i := 10) (v := ?v14) rfl (by kernel_rfl) (by kernel_rfl) (by kernel_rfl) (fun _ _ _ h => h) (Or.inl ⟨by rfl, ?hy14⟩) h0_4 ?rest14
              case hy14 => (intro w' hS; (try dsimp only at hS); go_simp; try (with_reducible rfl))
              simp only [Act.put, List.getElem_toArray, List.getElem_cons_zero, List.getElem_cons_succ, List.setIfInBounds_toArray, List.set_cons_zero, List.set_cons_succ]
              refine wpAnyH_take (i := 11) (v := ?v15) rfl (by kernel_rfl) (by kernel_rfl) (by kernel_rfl) (fun _ _ _ h => h) (Or.inl ⟨by rfl, ?hy15⟩) h0_4 ?rest15
              case hy15 => (intro w' hS; (try dsimp only at hS); go_simp; try (with_reducible rfl))
              simp only [Act.put, List.getElem_toArray, List.getElem_cons_zero, List.getElem_cons_succ, List.setIfInBounds_toArray, List.set_cons_zero, List.set_cons_succ]
              refine wpAnyH_ready (rs := [13]) (by kernel_rfl) (by simp) (AllReadyH.cons rfl (fun K hK => ?_) AllReadyH.nil)
              rw [if_pos (by rfl)]
              go_simp
              refine hK.out _ _ (KS.out _ (below_put Bc.out (by omega) _ _)) (fun h0_5 => ?_)
              clear hK K h0_4
              refine wpAnyH_take (i := 14) (v := ?v16) rfl (by kernel_rfl) (by kernel_rfl) (by kernel_rfl) (fun _ _ _ h => h) (Or.inl ⟨by rfl, ?hy16⟩) h0_5 ?rest16
              case hy16 => (intro w' hS; (try dsimp only at hS); go_simp; try (with_reducible rfl))
              simp only [Act.put, List.getElem_toArray, List.getElem_cons_zero, List.getElem_cons_succ, List.setIfInBounds_toArray, List.set_cons_zero, List.set_cons_succ]
              refine wpAnyH_done (by kernel_rfl) ?_ _
              go_wp2_with fail
              go_meet
              case rel => exact ⟨_, rfl, rfl, Lib.hid ⟨PA.out.put _ _, below_put Bc.out (by omega) _ _⟩⟩
          case rest =>
            obtain ⟨b, rfl, rfl, HC⟩ := hcut
            clear KS SB HB
            by_cases hs0 : se = 0
            case neg =>
              have DE : (se != 0) = true := by simpa using hs0
              have HE := Lib.hid (show mtR n' f l ps = (false, se) from by
                have h7 : se = 7 := by omega
                rw [h7]
                exact mtR_no hif (by omega) hjf (by omega) (by rw [← HSE.out]; exact hs0))
              clear hs0 hor
              go_wp2_with fail
              go_ret2
              exact ⟨by rw [HE.out]; rfl, HC.out.2⟩
            case pos =>
              have MT := Lib.hid (fun W => MT0.out W hs0)
              have HS3 := HS2
              have HS4 := Lib.hid (show ∀ y, f ≤ y → y < j + 1 → sbE ps i y = 0 from fun y h1 h2 => by
                by_cases e : y = j
                · rw [e, ← HSE.out]; exact hs0
                · exact HS5.out y h1 (by omega))
              have HN := Lib.hid (show mc = true → (ok = true ↔ (∀ x, f ≤ x → x < i → ∀ y, f ≤ y → y < n' + 1 → hsM n' l ps x y = true) ∧ ∀ y, f ≤ y → y < j + 1 → hsM n' l ps i y = true) from fun h => by
                obtain ⟨h1, h2⟩ := HS1.out.1 h
                constructor
                · intro ho
                  refine ⟨h1, fun y q1 q2 => ?_⟩
                  by_cases e : y = j
                  · rw [e, ← HOK.out]; exact ho
                  · exact h2 y q1 (by omega)
                · intro q
                  rw [HOK.out]; exact q.2 j hjf (by omega))
              have HM2 := Lib.hid (show mc = false → (false = true ↔ (∀ x, f ≤ x → x < i → ∀ y, f ≤ y → y < n' + 1 → hsM n' l ps x y = true) ∧ ∀ y, f ≤ y → y < j + 1 → hsM n' l ps i y = true) from fun h => by
                constructor
                · intro q; cases q
                · intro q
                  have := HS1.out.2 ⟨q.1, fun y q1 q2 => q.2 y q1 (by omega)⟩
                  rw [h] at this; exact this)
              subst hs0
              clear hor MT0
              have M := Lib.hid (HKP.out _ HC.out.2)
              go_upto_region 11 with (fail)
              obtain ⟨wd, hwd⟩ : ∃ wd, wd = wc.drew := ⟨_, rfl⟩
              have BD := Lib.hid (show Below w.heap.size w wd by rw [hwd]; exact HC.out.2.drew)
              have RW := Lib.hid (row_any b0 n' i wd hn hi (HKP.out _ BD.out).dim)
              have KR := Lib.hid (show ∀ W, Below wd.heap.size wd W → ((W.cell? ⟨b, 0, none⟩ = some (.int .i64 sn) ∧ W.cell? ⟨b, 1, none⟩ = some (.int .i64 sd)) ∧ W.cell? ⟨b0, 1 + i * (n' + 1) + j, none⟩ = some (.int .i64 lv)) from fun W h => by
                have pf := ((show Pair wd b sn sd by rw [hwd]; exact HC.out.1.kept (Below.refl _ _).drew).kept h).facts
                exact ⟨⟨pf.1, pf.2.1⟩, e1.out _ (HKP.out _ (below_on BD.out h))⟩)
              clear HC
              refine wp_region_held_drew (S := (fun w' => (w'.cell? ⟨b, 0, none⟩ = some (.int .i64 sn) ∧ w'.cell? ⟨b, 1, none⟩ = some (.int .i64 sd)) ∧ w'.cell? ⟨b0, 1 + i * (n' + 1) + j, none⟩ = some (.int .i64 lv))) (by kernel_rfl) (by rw [← hwd]; exact KR.out _ (Below.refl _ _)) (fun h0 => ?_)
              rw [← hwd] at h0 ⊢
              clear hwd
              refine wpAnyH_take (i := 0) (v := ?v17) rfl (by kernel_rfl) (by kernel_rfl) (by kernel_rfl) (fun _ _ _ h => h) (Or.inl ⟨by rfl, ?hy17⟩) h0 ?rest17
              case hy17 => (intro w' hS; (try dsimp only at hS); go_simp; try (with_reducible rfl))
              simp only [Act.put, List.getElem_toArray, List.getElem_cons_zero, List.setIfInBounds_toArray, List.set_cons_zero, List.set_cons_succ]
              refine wpAnyH_take (i := 1) (v := ?v18) rfl (by kernel_rfl) (by kernel_rfl) (by kernel_rfl) (fun _ _ _ h => h) (Or.inl ⟨by rfl, ?hy18⟩) h0 ?rest18
              case hy18 => (intro w' hS; (try dsimp only at hS); go_simp; try (with_reducible rfl))
              simp only [Act.put, List.getElem_toArray, List.getElem_cons_zero, List.getElem_cons_succ, List.setIfInBounds_toArray, List.set_cons_zero, List.set_cons_succ]
              refine wpAnyH_take (i := 2) (v := ?v19) rfl (by kernel_rfl) (by kernel_rfl) (by kernel_rfl) (fun _ _ _ h => h) (Or.inl ⟨by rfl, ?hy19⟩) h0 ?rest19
              case hy19 => (intro w' hS; (try dsimp only at hS); go_simp; try (with_reducible rfl))
              simp only [Act.put, List.getElem_toArray, List.getElem_cons_zero, List.getElem_cons_succ, List.setIfInBounds_toArray, List.set_cons_zero, List.set_cons_succ]
              refine wpAnyH_take (i := 4) (v := ?v20) rfl (by kernel_rfl) (by kernel_rfl) (by kernel_rfl) (fun _ _ _ h => h) (Or.inl ⟨by rfl, ?hy20⟩) h0 ?rest20
              case hy20 => (intro w' hS; (try dsimp only at hS); go_simp; try (with_reducible rfl))
              simp only [Act.put, List.getElem_toArray, List.getElem_cons_zero, List.getElem_cons_succ, List.setIfInBounds_toArray, List.set_cons_zero, List.set_cons_succ]
              refine wpAnyH_ready (rs := [3]) (by kernel_rfl) (by simp) (AllReadyH.cons rfl (fun K hK => ?_) AllReadyH.nil)
              rw [if_pos (by rfl)]
              go_simp
              refine (RW.out).mono ?_
              rintro e wq ⟨rfl, hwq⟩
              rw [hwq]; clear hwq wq
              go_simp
              refine hK.out _ _ (KR.out _ (Below.refl _ _)) (fun h0_1 => ?_)
              clear hK K h0
              refine wpAnyH_take (i := 5) (v := ?v21) rfl (by kernel_rfl) (by kernel_rfl) (by kernel_rfl) (fun _ _ _ h => h) (Or.inl ⟨by rfl, ?hy21⟩) h0_1 ?rest21
              case hy21 => (intro w' hS; (try dsimp only at hS); go_simp; try (with_reducible rfl))
              simp only [Act.put, List.getElem_toArray, List.getElem_cons_zero, List.getElem_cons_succ, List.setIfInBounds_toArray, List.set_cons_zero, List.set_cons_succ]
              refine wpAnyH_take (i := 6) (v := ?v22) rfl (by kernel_rfl) (by kernel_rfl) (by kernel_rfl) (fun _ _ _ h => h) (Or.inl ⟨by rfl, ?hy22⟩) h0_1 ?rest22
              case hy22 => (intro w' hS; (try dsimp only at hS); go_simp; try (with_reducible rfl))
              simp only [Act.put, List.getElem_toArray, List.getElem_cons_zero, List.getElem_cons_succ, List.setIfInBounds_toArray, List.set_cons_zero, List.set_cons_succ]
              refine wpAnyH_ready (rs := [7]) (by kernel_rfl) (by simp) (AllReadyH.cons rfl (fun K hK => ?_) AllReadyH.nil)
              rw [if_pos (by rfl)]
              go_simp
              refine (MT.out _).mono ?_
              rintro e w8 ⟨rfl, hb8⟩
              have B8 := Lib.hid (below_on BD.out hb8)
              go_simp
              refine hK.out _ _ (KR.out _ hb8) (fun h0_2 => ?_)
              clear hK K h0_1
              clear hb8
              refine wpAnyH_take (i := 8) (v := ?v23) rfl (by kernel_rfl) (by kernel_rfl) (by kernel_rfl) (fun _ _ _ h => h) (Or.inl ⟨by rfl, ?hy23⟩) h0_2 ?rest23
              case hy23 => (intro w' hS; (try dsimp only at hS); go_simp; try (with_reducible rfl))
              simp only [Act.put, List.getElem_toArray, List.getElem_cons_zero, List.getElem_cons_succ, List.setIfInBounds_toArray, List.set_cons_zero, List.set_cons_succ]
              refine wpAnyH_take (i := 9) (v := ?v24) rfl (by kernel_rfl) (by kernel_rfl) (by kernel_rfl) (fun _ _ _ h => h) (Or.inl ⟨by rfl, ?hy24⟩) h0_2 ?rest24
              case hy24 => (intro w' hS; (try dsimp only at hS); go_simp; try (with_reducible rfl))
              simp only [Act.put, List.getElem_toArray, List.getElem_cons_zero, List.getElem_cons_succ, List.setIfInBounds_toArray, List.set_cons_zero, List.set_cons_succ]
              refine wpAnyH_take (i := 10) (v := ?v25) rfl (by kernel_rfl) (by kernel_rfl) (by kernel_rfl) (fun _ _ _ h => h) (Or.inl ⟨by rfl, ?hy25⟩) h0_2 ?rest25
              case hy25 => (intro w' hS; (try dsimp only at hS); go_simp; try (with_reducible rfl))
              simp only [Act.put, List.getElem_toArray, List.getElem_cons_zero, List.getElem_cons_succ, List.setIfInBounds_toArray, List.set_cons_zero, List.set_cons_succ]
              refine wpAnyH_take (i := 11) (v := ?v26) rfl (by kernel_rfl) (by kernel_rfl) (by kernel_rfl) (fun _ _ _ h => h) (Or.inl ⟨by rfl, ?hy26⟩) h0_2 ?rest26
              case hy26 => (intro w' hS; (try dsimp only at hS); go_simp; try (with_reducible rfl))
              simp only [Act.put, List.getElem_toArray, List.getElem_cons_zero, List.getElem_cons_succ, List.setIfInBounds_toArray, List.set_cons_zero, List.set_cons_succ]
              refine wpAnyH_take (i := 12) (v := ?v27) rfl (by kernel_rfl) (by kernel_rfl) (by kernel_rfl) (fun _ _ _ h => h) (Or.inl ⟨by rfl, ?hy27⟩) h0_2 ?rest27
              case hy27 => (intro w' hS; (try dsimp only at hS); go_simp; try (with_reducible rfl))
              simp only [Act.put, List.getElem_toArray, List.getElem_cons_zero, List.getElem_cons_succ, List.setIfInBounds_toArray, List.set_cons_zero, List.set_cons_succ]
              refine wpAnyH_done (by kernel_rfl) ?_ _
              by_cases hmc : mc = true
              case pos =>
                have HX2 := Lib.hid (HN.out hmc)
                go_wp2_with fail
                go_roundw
                case rel => exact ⟨j + 1, ok, by omega, by omega, rfl, by go_num, HX2, HS3, HS4, B8⟩
                case measure => simp [intOf]; omega
              case neg =>
                have hmd : mc = false := by simpa using hmc
                have HX2 := Lib.hid (HM2.out hmd)
                clear hmc
                go_wp2_with fail
                go_roundw
                case rel => exact ⟨j + 1, false, by omega, by omega, rfl, by go_num, HX2, HS3, HS4, B8⟩
                case measure => simp [intOf]; omega
end Go.Proofs.Ytbnebinpemejlaa

namespace Go.Proofs.Ytbnebinpemejlaa
open Go.RowKit

theorem rd_yes {N : Int} {l : List Int} {ps : List Pq} (h : rdE N l ps ≠ 2) : chkE N l = 0 ∧ (ps.length : Int) = N ∧ ps.all vldC = true := by
  unfold rdE at h
  split at h
  · rename_i c; exact c
  · exact absurd rfl h

theorem mt_has {n : Nat} {l : List Int} {ps : List Pq} (h : rdE n l ps ≠ 2) : mtR n 0 l ps = (hsR n l ps, rdE n l ps) := by
  have c := rd_yes h
  have e1 : mtA n 0 ps = rdR n ps := by
    rw [Bool.eq_iff_iff]
    constructor
    · intro h; exact rdR_of fun i hi j hj => mtA_iff.1 h i (Nat.zero_le _) hi j (Nat.zero_le _) hj
    · intro h; exact mtA_iff.2 fun i _ hi j _ hj => rdR_at h hi hj
  have e2 : mtH n 0 l ps = hsB n l ps := by
    rw [Bool.eq_iff_iff]
    constructor
    · intro h; exact hsB_iff.2 fun i hi j hj => mtH_iff.1 h i (Nat.zero_le _) hi j (Nat.zero_le _) hj
    · intro h; exact mtH_iff.2 fun i _ hi j _ hj => hsB_iff.1 h i hi j hj
  have er : rdE n l ps = if rdR n ps then 0 else 7 := by
    unfold rdE; rw [if_pos c, Int.toNat_natCast]
  unfold mtR hsR
  rw [e1, e2, er, Int.toNat_natCast]
  cases rdR n ps <;> rfl

set_option maxRecDepth 100000 in
set_option maxHeartbeats 4000000 in
theorem zhas_gen (N : Int) (l : List Int) (ao : Option Addr) (cap : Nat) (ps : List Pq) (po : Option Addr) (pc : Nat) (w : World) (hA : Arg w ao l) (hP : Arg2 w po ps) (hI : Fits ps) (hN : po = none → pc = 0) :
    Calls Try.prog 46 #[.agg #[.int .i64 N, .slice ao l.length cap], .slice po ps.length pc] w (Made (.tuple #[.bool (hsR N l ps), .int .i64 (rdE N l ps)]) w) := by
  have hz := mx_zero
  have sz0 := mcs_size (n := 0) (l := []) (by simp)
  have OA := Lib.hid (fun W (h : Below w.heap.size w W) => openat_gen N l ao cap ps po pc W (hA.on h) (hP.on h) hI hN)
  have HPL := Lib.hid (show rdE N l ps ≠ 2 → ((0, 1) :: ps).length = N.toNat + 1 from fun h => by
    have := (rd_yes h).2.1
    simp; omega)
  have HNN := Lib.hid (show rdE N l ps ≠ 2 → (N.toNat : Int) = N ∧ chkE N l = 0 ∧ ps.all vldC = true ∧ (mcs N.toNat l).size = 122 ∧ l.length = (N.toNat + 1) * (N.toNat + 1) from fun h => by
    have c := rd_yes h
    obtain ⟨n', e, hn, hl, _⟩ := chk_ok c.1
    have e2 : N.toNat = n' := by omega
    refine ⟨by omega, c.1, c.2.2, ?_, by rw [e2]; exact hl⟩
    rw [e2]; exact mcs_size (by rw [hl]; exact dsq_le hn))
  generalize ps.length = plen at OA ⊢
  generalize l.length = len at OA ⊢
  obtain ⟨w0, hw0, e0, ks⟩ := qbox N ao len cap w
  have E0 := Lib.hid e0
  have HW0 := Lib.hid hw0
  obtain ⟨b0, b1⟩ := ks w0 (Below.refl _ _)
  clear ks e0 hw0 hA hP hI hN
  unfold OARes at OA
  go_enter Try.func46, Try.ntmps46
  go_upto_region 1 with (fail)
  rw [← HW0.out]
  go_wp2_with fail
  refine (OA.out _ E0.out).mono ?_
  rintro e w1 ⟨hb1, hE⟩
  clear b0 b1
  have B1 := Lib.hid (below_on E0.out hb1)
  rcases hE with ⟨h2, rfl⟩ | ⟨h2, v, rfl, hv⟩
  · have HE := Lib.hid (show hsR N l ps = false by unfold hsR; rw [h2]; rfl)
    have H2 := Lib.hid h2
    clear h2 HNN HPL
    go_wp2_with (refine wpl_store rfl _ _ rfl _ _ rfl rfl _ (Var.made _) sz0 (mcs_one _ _) ?_)
    go_ret2
    rw [HE.out, H2.out]
    exact ⟨rfl, Below.setRow (B1.out.alloc B1.out.size _) B1.out.size _⟩
  · obtain ⟨hNn, hc, hvl, sz, hll⟩ := HNN.out h2
    have hpl := HPL.out h2
    have hov := hv
    unfold OwnQ at hv
    rw [hpl] at hv
    obtain ⟨g, c, rfl⟩ := Joins.ownsRow_form hv (by omega)
    have HR := Lib.hid (mt_has (n := N.toNat) (l := l) (ps := ps) (by rw [hNn]; exact h2))
    obtain ⟨w2, hw2⟩ : ∃ w2, w2 = (w1.alloc (.cells (mcs 0 []) 80)).setRow w1.heap.size (mcs N.toNat l) := ⟨_, rfl⟩
    have M2 : Mx w2 w1.heap.size N.toNat l := by rw [hw2]; exact ⟨((Var.made w1).put (mcs N.toNat l) sz).1, hll⟩
    have B2 := Lib.hid (show Below w.heap.size w w2 by rw [hw2]; exact Below.setRow (B1.out.alloc B1.out.size _) B1.out.size _)
    have O2 : OwnQ w2 w0.heap.size (.slice (some ⟨g, 0, none⟩) ((0, 1) :: ps).length c) ((0, 1) :: ps) := by
      rw [hw2, hpl]
      have h1 := OwnQ.on hov (one_more (.cells (mcs 0 []) 80))
      have hlt := (World.ownsRow.lt hov g rfl).2
      refine World.ownsRow.kept (row := some w1.heap.size) h1 (grown_row _ _ _) ?_
      right
      simp only [Value.ownBlock]
      intro e; injection e with e; omega
    have MT := Lib.hid (meets_any N.toNat 0 l ps w1.heap.size ⟨g, 0, none⟩ c w2 (by rw [hNn]; exact hc) (by omega) (by simp at hpl; exact hpl) M2 O2.rd hvl)
    have HNE := Lib.hid hNn
    have s1 := mcs_one N.toNat l
    rw [HR.out, hNn] at MT
    clear M2 O2 hov hv hpl hvl hc hNn h2 hll HNN HPL hb1
    go_upto_region 2 with (refine wpl_store rfl _ _ rfl _ _ rfl rfl _ (Var.made _) sz s1 ?_)
    rw [← hw2]
    clear hw2
    go_wp2_with fail
    refine MT.out.mono ?_
    rintro e w3 ⟨rfl, hb3⟩
    have B3 := Lib.hid (below_on B2.out hb3)
    clear hb3
    go_wp2_with fail
    go_ret2
    exact ⟨rfl, B3.out⟩
end Go.Proofs.Ytbnebinpemejlaa

namespace Go.Proofs.Ytbnebinpemejlaa
open Go.RowKit

/-- The delays by the clocks up to t: up to the first error. -/
def syR (n : Nat) (l : List Int) (ps : List Pq) : Nat → Dl × Int
  | 0 => (Dl.one, 0)
  | t + 1 => if (syR n l ps t).2 = 0 then (wiL (syR n l ps t).1 (-(gp ps t).1) (gp ps t).2 (Zo.At n l (t + 1) 0) (Zo.At n l 0 (t + 1)), wiE (-(gp ps t).1) (gp ps t).2 (Zo.At n l (t + 1) 0) (Zo.At n l 0 (t + 1))) else syR n l ps t

theorem sy_stay {n : Nat} {l : List Int} {ps : List Pq} {t m : Nat} (h : t ≤ m) (he : (syR n l ps t).2 ≠ 0) : syR n l ps m = syR n l ps t := by
  induction m with
  | zero => rw [show t = 0 by omega]
  | succ m ih =>
    by_cases e : t = m + 1
    · rw [e]
    · have := ih (by omega)
      show (if (syR n l ps m).2 = 0 then _ else syR n l ps m) = _
      rw [if_neg (by rw [this]; exact he), this]

theorem sy_ok (n : Nat) (l : List Int) (ps : List Pq) (t : Nat) : (syR n l ps t).1.Ok := by
  induction t with
  | zero => exact ⟨by unfold syR Dl.one I64; simp, by unfold syR Dl.one I64; simp, by unfold syR Dl.one I64; simp, by unfold syR Dl.one I64; simp⟩
  | succ t ih =>
    show (if (syR n l ps t).2 = 0 then _ else syR n l ps t).1.Ok
    split
    · exact wiL_ok ih _ _ _ _
    · exact ih

/-- What Stay returns of a good zone and a good point. -/
def syV (n : Nat) (l : List Int) (ps : List Pq) : Dl × Int :=
  if (mtR n 1 l ps).2 ≠ 0 then (Dl.zero, (mtR n 1 l ps).2) else if (syR n l ps n).2 ≠ 0 then (Dl.zero, (syR n l ps n).2) else if (mtR n 1 l ps).1 = false ∨ (syR n l ps n).1.empty = true then (Dl.zero, 4) else ((syR n l ps n).1, 0)

def stR (N : Int) (l : List Int) (ps : List Pq) : Dl × Int := if rdE N l ps = 2 then (Dl.zero, 2) else syV N.toNat l ps

theorem openat_good (n : Nat) (l : List Int) (ao : Option Addr) (cap : Nat) (ps : List Pq) (po : Option Addr) (pc : Nat) (w : World) (hA : Arg w ao l) (hP : Arg2 w po ps) (hI : Fits ps) (hN : po = none → pc = 0) (hr : rdE n l ps ≠ 2) :
    Calls Try.prog 97 #[.agg #[.int .i64 n, .slice ao l.length cap], .slice po ps.length pc] w (fun e w' => Below w.heap.size w w' ∧ ∃ g c, e = .returned (.tuple #[.agg (mcs n l), .slice (some ⟨g, 0, none⟩) (n + 1) c, .int .i64 0]) ∧ OwnQ w' w.heap.size (.slice (some ⟨g, 0, none⟩) ((0, 1) :: ps).length c) ((0, 1) :: ps)) := by
  refine (openat_gen n l ao cap ps po pc w hA hP hI hN).mono ?_
  rintro e w' ⟨hb, h⟩
  refine ⟨hb, ?_⟩
  rcases h with ⟨h, _⟩ | ⟨_, v, rfl, hv⟩
  · exact absurd h hr
  · have hpl : ((0, 1) :: ps).length = n + 1 := by have := (rd_yes hr).2.1; simp; omega
    have hov := hv
    unfold OwnQ at hv
    rw [hpl] at hv
    obtain ⟨g, c, rfl⟩ := Joins.ownsRow_form hv (by omega)
    refine ⟨g, c, by rw [Int.toNat_natCast], ?_⟩
    rw [hpl]; exact hov

theorem sbox (N : Int) (ao : Option Addr) (len cap : Nat) (w : World) : ∃ w0, w0 = (w.alloc (.cells #[.int .i64 N, .slice ao len cap] 25)).alloc (.cells Dl.zero.cs 64) ∧ Below w.heap.size w w0 ∧ w0.heap.size = w.heap.size + 2 ∧ Dbx w0 (w.heap.size + 1) Dl.zero ∧
    (∀ W : World, Below w0.heap.size w0 W → (W.cell? ⟨w.heap.size, 0, none⟩ = some (.int .i64 N) ∧ W.cell? ⟨w.heap.size, 1, none⟩ = some (.slice ao len cap))) := by
  refine ⟨_, rfl, past_two (Below.refl _ _), by simp, ?_, fun W h => ?_⟩
  · have := Drow.made (w.alloc (.cells #[.int .i64 N, .slice ao len cap] 25)) Dl.zero.cs
    simpa [Dbx] using this
  · have bx := ((Two.made w (.int .i64 N) (.slice ao len cap) 25).alloc (.cells Dl.zero.cs 64)).kept h
    exact ⟨bx.facts.1, bx.facts.2.1⟩

set_option maxRecDepth 100000 in
set_option maxHeartbeats 4000000 in
theorem stay_bad (N : Int) (l : List Int) (ao : Option Addr) (cap : Nat) (ps : List Pq) (po : Option Addr) (pc : Nat) (w : World) (hA : Arg w ao l) (hP : Arg2 w po ps) (hI : Fits ps) (hN : po = none → pc = 0) (hr : rdE N l ps = 2) :
    Calls Try.prog 51 #[.agg #[.int .i64 N, .slice ao l.length cap], .slice po ps.length pc] w (Made (.tuple #[.agg Dl.zero.cs, .int .i64 2]) w) := by
  have hz := mx_zero
  have sz0 := mcs_size (n := 0) (l := []) (by simp)
  have OA := Lib.hid (show ∀ W, Below w.heap.size w W → Calls Try.prog 97 #[.agg #[.int .i64 N, .slice ao l.length cap], .slice po ps.length pc] W (fun e w' => e = .returned (.tuple #[.agg (mcs 0 []), .slice none 0 0, .int .i64 2]) ∧ Below W.heap.size W w') from fun W h => by
    refine (openat_gen N l ao cap ps po pc W (hA.on h) (hP.on h) hI hN).mono ?_
    rintro e w' ⟨hb, h⟩
    rcases h with ⟨_, h⟩ | ⟨h, _⟩
    · exact ⟨h, hb⟩
    · exact absurd hr h)
  generalize ps.length = plen at OA ⊢
  generalize l.length = len at OA ⊢
  obtain ⟨w0, hw0, e0, z0, dr, ks⟩ := sbox N ao len cap w
  have E0 := Lib.hid e0
  have DR := Lib.hid dr
  simp only [Dl.cs, Dl.zero] at hw0
  have HW0 := Lib.hid hw0
  obtain ⟨b0, b1⟩ := ks w0 (Below.refl _ _)
  clear ks e0 hw0 hA hP hI hN hr dr
  go_enter Try.func51, Try.ntmps51
  go_upto_region 1 with (fail)
  rw [← HW0.out]
  go_wp2_with fail
  refine (OA.out _ E0.out).mono ?_
  rintro e w1 ⟨rfl, hb1⟩
  clear b0 b1
  obtain ⟨w2, hw2⟩ : ∃ w2, w2 = (w1.alloc (.cells (mcs 0 []) 80)).setRow w1.heap.size (mcs 0 []) := ⟨_, rfl⟩
  have B2 := Lib.hid (show Below w0.heap.size w0 w2 by rw [hw2]; exact Below.setRow (hb1.alloc hb1.size _) hb1.size _)
  obtain ⟨r0, r1, r2, r3, r4, r5, r6⟩ := (DR.out.kept B2.out).facts
  obtain ⟨f0, f1, f2, f3, f4, f5, f6⟩ := (DR.out.kept B2.out).frees
  clear hb1
  go_upto_region 2 with (refine wpl_store rfl _ _ rfl _ _ rfl rfl _ (Var.made _) sz0 (mcs_one _ _) ?_)
  rw [← hw2]
  clear hw2
  go_wp2_with fail
  refine bodyPost_ret (v := .tuple #[.agg Dl.zero.cs, .int .i64 2]) (by simp [results, Try.results51, go_sem, Dl.cs, Dl.zero, r0, r1, r2, r3, r4, r5, r6]) rfl ⟨rfl, ?_⟩
  exact below_seven (below_on E0.out B2.out) (by omega) _ _ _ _ _ _ _

set_option maxRecDepth 100000 in
set_option maxHeartbeats 2000000 in
theorem stay_ok (n : Nat) (l : List Int) (ao : Option Addr) (cap : Nat) (ps : List Pq) (po : Option Addr) (pc : Nat) (w : World) (hA : Arg w ao l) (hP : Arg2 w po ps) (hI : Fits ps) (hN : po = none → pc = 0) (hr : rdE n l ps ≠ 2) :
    Calls Try.prog 51 #[.agg #[.int .i64 n, .slice ao l.length cap], .slice po ps.length pc] w (Made (.tuple #[.agg (syV n l ps).1.cs, .int .i64 (syV n l ps).2]) w) := by
  have hz := mx_zero
  obtain ⟨hc, hpl, hvl⟩ := rd_yes hr
  obtain ⟨n', en, hn, hl, _⟩ := chk_ok hc
  obtain rfl : n = n' := by omega
  clear en
  have sz : (mcs n l).size = 122 := mcs_size (by rw [hl]; exact dsq_le hn)
  have s1 := mcs_one n l
  have hpl' : ps.length = n := by omega
  have OA := Lib.hid (fun W (h : Below w.heap.size w W) => openat_good n l ao cap ps po pc W (hA.on h) (hP.on h) hI hN hr)
  have MT := Lib.hid (fun (b0 : Nat) (a : Addr) (c : Nat) (W : World) (hM : Mx W b0 n l) (hR : Rd2 W a ((0, 1) :: ps)) => meets_any n 1 l ps b0 a c W hc (by omega) hpl' hM hR hvl)
  have HL := Lib.hid (fun i j (hi : i ≤ n) (hj : j ≤ n) => chk_i64 hc hi hj)
  have HF := Lib.hid hI
  have HPL := Lib.hid hpl'
  have HLL := Lib.hid hl
  have HVC := Lib.hid (rd_all hvl)
  have ST := Lib.hid (fun t m h he => sy_stay (n := n) (l := l) (ps := ps) (t := t) (m := m) h he)
  have SU := Lib.hid (show ∀ t, (syR n l ps t).2 = 0 → syR n l ps (t + 1) = (wiL (syR n l ps t).1 (-(gp ps t).1) (gp ps t).2 (Zo.At n l (t + 1) 0) (Zo.At n l 0 (t + 1)), wiE (-(gp ps t).1) (gp ps t).2 (Zo.At n l (t + 1) 0) (Zo.At n l 0 (t + 1))) from fun t h => by
    show (if (syR n l ps t).2 = 0 then _ else syR n l ps t) = _
    rw [if_pos h])
  have HV := Lib.hid (show syV n l ps = if (mtR n 1 l ps).2 ≠ 0 then (Dl.zero, (mtR n 1 l ps).2) else if (syR n l ps n).2 ≠ 0 then (Dl.zero, (syR n l ps n).2) else if (mtR n 1 l ps).1 = false ∨ (syR n l ps n).1.empty = true then (Dl.zero, 4) else ((syR n l ps n).1, 0) from rfl)
  generalize syV n l ps = vv at *
  generalize mtR n 1 l ps = mm at *
  obtain ⟨mb, me⟩ := mm
  simp only at HV MT
  rw [hpl'] at OA ⊢
  generalize l.length = len at OA ⊢
  obtain ⟨w0, hw0, e0, z0, dr, ks⟩ := sbox n ao len cap w
  have E0 := Lib.hid e0
  have DR := Lib.hid dr
  simp only [Dl.cs, Dl.zero] at hw0
  have HW0 := Lib.hid hw0
  obtain ⟨b0, b1⟩ := ks w0 (Below.refl _ _)
  have FZ := Lib.hid (show ∀ W, Calls Try.prog 103 #[] W (Made (.agg #[.int .i64 0, .int .i64 1, .int .i64 0, .int .i64 0, .bool false, .bool false, .bool true]) W) from fun W => fromzero_any W)
  clear ks e0 hw0 hA hP hI hN hr dr hc hpl hpl' hvl hl
  go_enter Try.func51, Try.ntmps51
  go_upto_region 1 with (fail)
  rw [← HW0.out]
  go_wp2_with fail
  refine (OA.out _ E0.out).mono ?_
  rintro e w1 ⟨hb1, g, c, rfl, hv⟩
  clear b0 b1
  obtain ⟨w2, hw2⟩ : ∃ w2, w2 = (w1.alloc (.cells (mcs 0 []) 80)).setRow w1.heap.size (mcs n l) := ⟨_, rfl⟩
  have M2 := Lib.hid (show Mx w2 w1.heap.size n l by rw [hw2]; exact ⟨((Var.made w1).put (mcs n l) sz).1, HLL.out⟩)
  have B2 := Lib.hid (show Below w0.heap.size w0 w2 by rw [hw2]; exact Below.setRow (hb1.alloc hb1.size _) hb1.size _)
  have O2 := Lib.hid (show OwnQ w2 w0.heap.size (.slice (some ⟨g, 0, none⟩) ((0, 1) :: ps).length c) ((0, 1) :: ps) by
    rw [hw2]
    have h1 := OwnQ.on hv (one_more (.cells (mcs 0 []) 80))
    have hlt := (World.ownsRow.lt hv g rfl).2
    refine World.ownsRow.kept (row := some w1.heap.size) h1 (grown_row _ _ _) ?_
    right
    simp only [Value.ownBlock]
    intro e; injection e with e; omega)
  have hle1 := hb1.size
  have MC := Lib.hid (MT.out w1.heap.size ⟨g, 0, none⟩ c w2 M2.out O2.out.rd)
  have hcap : n + 1 ≤ c ∧ c ≤ maxLen := by
    have := O2.out
    unfold OwnQ at this
    rw [show ((0, 1) :: ps).length = n + 1 by simp [HPL.out]] at this
    exact OwnQ.cap this
  clear hv hb1
  go_upto_region 2 with (refine wpl_store rfl _ _ rfl _ _ rfl rfl _ (Var.made _) sz s1 ?_)
  rw [← hw2]
  clear hw2
  generalize w1.heap.size = b0 at *
  go_wp2_with fail
  refine MC.out.mono ?_
  rintro e w3 ⟨rfl, hb3⟩
  have B3 := Lib.hid (below_on B2.out hb3)
  have M3 := Lib.hid (M2.out.of_block (hb3.block _ M2.out.lt))
  have O3 := Lib.hid (O2.out.on hb3)
  clear hb3
  by_cases hme : me = 0
  case neg =>
    have DE : (me != 0) = true := by simpa using hme
    have HE := Lib.hid (show vv = (Dl.zero, me) by rw [HV.out, if_pos hme])
    clear hme
    obtain ⟨r0, r1, r2, r3, r4, r5, r6⟩ := (DR.out.kept B3.out).facts
    obtain ⟨f0, f1, f2, f3, f4, f5, f6⟩ := (DR.out.kept B3.out).frees
    go_wp2_with fail
    refine bodyPost_ret (v := .tuple #[.agg Dl.zero.cs, .int .i64 me]) (by simp [results, Try.results51, go_sem, Dl.cs, Dl.zero, r0, r1, r2, r3, r4, r5, r6]) rfl ⟨by rw [HE.out], ?_⟩
    exact below_seven (below_on E0.out B3.out) (by omega) _ _ _ _ _ _ _
  case pos =>
  have HV1 := Lib.hid (show vv = if (syR n l ps n).2 ≠ 0 then (Dl.zero, (syR n l ps n).2) else if mb = false ∨ (syR n l ps n).1.empty = true then (Dl.zero, 4) else ((syR n l ps n).1, 0) by rw [HV.out, if_neg (by omega)])
  subst hme
  clear HV
  go_wp2_with fail
  refine (FZ.out _).mono ?_
  rintro e w4 ⟨rfl, hb4⟩
  obtain ⟨w6, hw6⟩ : ∃ w6, w6 = w4.alloc (.cells Dl.one.cs 64) := ⟨_, rfl⟩
  have DX := Lib.hid (show WSt w6 w4.heap.size Dl.one w6 from ⟨by rw [hw6]; exact Drow.made _ _, World.grownBy.refl _ _⟩)
  have B6 := Lib.hid (show Below w0.heap.size w0 w6 by rw [hw6]; exact (below_on B3.out hb4).alloc (below_on B3.out hb4).size _)
  have M6 := Lib.hid (show Mx w6 b0 n l by rw [hw6]; exact (M3.out.of_block (hb4.block _ M3.out.lt)).alloc _)
  have O6 := Lib.hid (show OwnQ w6 w0.heap.size (.slice (some ⟨g, 0, none⟩) ((0, 1) :: ps).length c) ((0, 1) :: ps) by rw [hw6]; exact (O3.out.on hb4).on (one_more _))
  have hs4 := (below_on B3.out hb4).size
  have hb0 : b0 < w4.heap.size := (M3.out.of_block (hb4.block _ M3.out.lt)).lt
  have hgl : g < w4.heap.size := (World.ownsRow.lt (O3.out.on hb4) g rfl).2
  have z6 : w6.heap.size = w4.heap.size + 1 := by rw [hw6]; simp
  simp only [Dl.cs, Dl.one] at hw6
  have HW6 := Lib.hid hw6
  clear hb4 hw6
  go_upto_region 8 with (fail)
  rw [← HW6.out]
  obtain ⟨hc1, hc2⟩ := hcap
  unfold maxLen at hc2
  go_cut [37, 38, 39] (fun s u v wx => ∃ (d : Addr) (cc : Nat), s = .slice (some d) n cc ∧ u = .int .i64 n ∧ v = .int .i64 0 ∧ Hid ((n ≠ 0 → Rd2 w6 d ps ∧ d.block = g) ∧ wx = w6))
  case first =>
    by_cases hcc : c = 1
    case pos =>
      subst hcc
      have hn0 : n = 0 := by omega
      have HN0 := Lib.hid hn0
      clear hn0
      go_wp2_with fail
      go_meet
      case rel => exact ⟨⟨g, 0, none⟩, 0, by have := HN0.out; subst this; rfl, by have := HN0.out; subst this; rfl, rfl, Lib.hid ⟨fun h => absurd HN0.out h, rfl⟩⟩
    case neg =>
      have hc3 : (c == 1) = false := by simpa using hcc
      go_wp2_with fail
      go_meet
      case rel => exact ⟨⟨g, 2, none⟩, c - 1, rfl, rfl, rfl, Lib.hid ⟨fun _ => ⟨O6.out.rd1, rfl⟩, rfl⟩⟩
  case rest =>
  obtain ⟨d, cc, rfl, rfl, rfl, HCW⟩ := hcut
  have hwx := HCW.out.2
  rw [hwx]
  have RP := Lib.hid HCW.out.1
  clear hwx HCW hc1 hc2
  have KE := Lib.hid (show ∀ x W, WSt w6 w4.heap.size x W → Below w0.heap.size w0 W from fun x W h => grown_over B6.out h.2 hs4)
  have MR := Lib.hid (show ∀ x W, WSt w6 w4.heap.size x W → Mx W b0 n l from fun x W h => M6.out.kept h.2 (by simp; omega))
  go_wp2_with fail
  go_loopw [39] (fun s wr => ∃ t : Nat, t ≤ n ∧ s = .int .i64 t ∧ Hid ((syR n l ps t).2 = 0 ∧ WSt w6 w4.heap.size (syR n l ps t).1 wr)) (fun s _ => n - (intOf s).toNat)
  case atStart => exact ⟨0, by omega, rfl, Lib.hid ⟨rfl, DX.out⟩⟩
  case round =>
    obtain ⟨t, ht, rfl, HX⟩ := hrel
    by_cases htk : t < n
    case pos =>
      obtain ⟨rp, rg⟩ := RP.out (by omega)
      have RPg := Lib.hid (show ∀ x W, WSt w6 w4.heap.size x W → Rd2 W d ps from fun x W h j hj => by
        obtain ⟨h1, h2⟩ := rp j hj
        have eb : (d.add (j * 2)).block = g := by rw [← rg]; unfold Addr.add; split <;> rfl
        exact ⟨(World.cell?_of_block (h.2.block _ (by rw [eb]; omega) (by rw [eb]; simp; omega))).trans h1, (World.cell?_of_block (h.2.block _ (by show (d.add (j * 2)).block < _; rw [eb]; omega) (by show some (d.add (j * 2)).block ≠ _; rw [eb]; simp; omega))).trans h2⟩)
      clear rp rg
      obtain ⟨n0, d0⟩ := RPg.out _ _ HX.out.2 t (by rw [HPL.out]; exact htk)
      obtain ⟨fn, fd⟩ := HF.out t (by rw [HPL.out]; exact htk)
      have D9 : decide ((t : Int) < (n : Int)) = true := by simp; omega
      have SU1 := Lib.hid (SU.out t HX.out.1)
      have hxo := sy_ok n l ps t
      have vb := HVC.out t (by rw [HPL.out]; exact htk)
      have vbb := (show vldB (gp ps t).1 (gp ps t).2 = true by unfold vldC at vb; simp at vb; exact vb.1)
      have NG := Lib.hid (show ∀ W, Calls Try.prog 104 #[.agg #[.int .i64 (gp ps t).1, .int .i64 (gp ps t).2]] W (Made (.tuple #[.agg #[.int .i64 (-(gp ps t).1), .int .i64 (gp ps t).2], .int .i64 0]) W) from fun W => by
        have := neg_any (gp ps t).1 (gp ps t).2 W fn fd
        simpa [vbb] using this)
      have vbd := vld_bd vbb
      have WI := Lib.hid (fun W => within_gen (syR n l ps t).1 (-(gp ps t).1) (gp ps t).2 (Zo.At n l (t + 1) 0) (Zo.At n l 0 (t + 1)) W hxo (by unfold I64; omega) fd (HL.out (t + 1) 0 (by omega) (by omega)) (HL.out 0 (t + 1) (by omega) (by omega)))
      obtain ⟨y, hy⟩ : ∃ y, y = wiL (syR n l ps t).1 (-(gp ps t).1) (gp ps t).2 (Zo.At n l (t + 1) 0) (Zo.At n l 0 (t + 1)) := ⟨_, rfl⟩
      obtain ⟨er, her⟩ : ∃ er, er = wiE (-(gp ps t).1) (gp ps t).2 (Zo.At n l (t + 1) 0) (Zo.At n l 0 (t + 1)) := ⟨_, rfl⟩
      have HYZ := Lib.hid (show er ≠ 0 → y = Dl.zero from fun h => by rw [hy]; exact wi_zero (by rw [← her]; exact h))
      rw [← hy, ← her] at WI SU1
      unfold Dl.cs at WI
      have HX2 := Lib.hid HX.out.2
      obtain ⟨x, hx⟩ : ∃ x, x = (syR n l ps t).1 := ⟨_, rfl⟩
      rw [← hx] at WI HX2 hxo
      clear vb vbb vbd fn fd hxo
      obtain ⟨pn, hpn⟩ : ∃ z, z = -(gp ps t).1 := ⟨_, rfl⟩
      obtain ⟨qn, hqn⟩ : ∃ z, z = (gp ps t).1 := ⟨_, rfl⟩
      obtain ⟨pd, hpd⟩ : ∃ z, z = (gp ps t).2 := ⟨_, rfl⟩
      rw [← hpn, ← hpd] at WI
      rw [← hpn, ← hpd, ← hqn] at NG
      rw [← hqn] at n0
      rw [← hpd] at d0
      have i1 := Zo.ix_lt (show t + 1 ≤ n by omega) (show 0 ≤ n by omega)
      have i2 := Zo.ix_lt (show 0 ≤ n by omega) (show t + 1 ≤ n by omega)
      obtain ⟨mu, hmu⟩ : ∃ z, z = Zo.At n l (t + 1) 0 := ⟨_, rfl⟩
      obtain ⟨ml, hml⟩ : ∃ z, z = Zo.At n l 0 (t + 1) := ⟨_, rfl⟩
      rw [← hmu, ← hml] at WI
      have e1 := Lib.hid (show ∀ W, Mx W b0 n l → W.cell? ⟨b0, 1 + (t + 1) * (n + 1), none⟩ = some (.int .i64 mu) from fun W h => by rw [hmu]; exact h.at (by rw [h.2]; have := i1; unfold Zo.ix at this; omega))
      have e2 := Lib.hid (show ∀ W, Mx W b0 n l → W.cell? ⟨b0, 1 + (t + 1), none⟩ = some (.int .i64 ml) from fun W h => by
        rw [hml]
        unfold Zo.At
        rw [show Zo.ix n 0 (t + 1) = t + 1 by unfold Zo.ix; omega]
        exact h.at (by rw [h.2]; have := i2; unfold Zo.ix at this; omega))
      clear hy her hpn hqn hpd hmu hml i1 i2 hx
      obtain ⟨w7, hw7⟩ : ∃ w7, w7 = wr.alloc (.cells #[.int .i64 qn, .int .i64 pd] 52) := ⟨_, rfl⟩
      have S7 := Lib.hid (show WSt w6 w4.heap.size x w7 by rw [hw7]; exact HX2.out.on (one_more _))
      have P7 := Lib.hid (show Pair w7 wr.heap.size qn pd by rw [hw7]; exact Pair.made _ _ _ _)
      go_upto_region 11 with (fail)
      rw [← hw7]
      clear hw7 n0 d0
      obtain ⟨p0, p1, p2, p3⟩ := P7.out.facts
      go_wp2_with fail
      refine (NG.out _).mono ?_
      rintro e w5 ⟨rfl, hb5⟩
      clear p0 p1 p2 p3
      obtain ⟨w3', hw3⟩ : ∃ w3', w3' = w5.alloc (.cells #[.int .i64 pn, .int .i64 pd] 52) := ⟨_, rfl⟩
      have S3 := Lib.hid (show WSt w6 w4.heap.size x w3' by rw [hw3]; exact (S7.out.on hb5).on (one_more _))
      have P3 := Lib.hid (show Pair w3' w5.heap.size pn pd by rw [hw3]; exact Pair.made _ _ _ _)
      have hsz5 : w6.heap.size ≤ w5.heap.size := (S7.out.on hb5).2.size
      have M3' := Lib.hid (MR.out _ _ S3.out)
      have R1 := Lib.hid (show Calls Try.prog 81 #[.pointer (some ⟨b0, 0, none⟩), .int .i64 ((t : Int) + 1)] w3'.drew (Still (.slice (some ⟨b0, 1 + (t + 1) * (n + 1), none⟩) (n + 1) (n + 1)) w3'.drew) from by
        have := row_any b0 n (t + 1) w3'.drew hn (by omega) M3'.out.drew.dim
        rw [show ((t + 1 : Nat) : Int) = (t : Int) + 1 from rfl] at this
        exact this)
      have R2 := Lib.hid (show Calls Try.prog 81 #[.pointer (some ⟨b0, 0, none⟩), .int .i64 0] w3'.drew (Still (.slice (some ⟨b0, 1, none⟩) (n + 1) (n + 1)) w3'.drew) from by
        have := row_any b0 n 0 w3'.drew hn (by omega) M3'.out.drew.dim
        rw [show 1 + 0 * (n + 1) = 1 by omega] at this
        exact this)
      have S3d := (show WSt w3' w4.heap.size x w3' from ⟨S3.out.1, World.grownBy.refl _ _⟩).on ((Below.refl _ _).drew)
      have KS := Lib.hid (show ∀ z W, WSt w3' w4.heap.size z W → ((W.cell? ⟨w5.heap.size, 0, none⟩ = some (.int .i64 pn) ∧ W.cell? ⟨w5.heap.size, 1, none⟩ = some (.int .i64 pd)) ∧ W.cell? ⟨b0, 1 + (t + 1) * (n + 1), none⟩ = some (.int .i64 mu) ∧ W.cell? ⟨b0, 1 + (t + 1), none⟩ = some (.int .i64 ml)) from fun z W h =>
        ⟨⟨(P3.out.grown h.2 (by omega)).facts.1, (P3.out.grown h.2 (by omega)).facts.2.1⟩, e1.out _ (M3'.out.kept h.2 (by simp; omega)), e2.out _ (M3'.out.kept h.2 (by simp; omega))⟩)
      have t1 : (t : Int) + 1 < (n : Int) + 1 := by omega
      have t0 : (0 : Int) ≤ (t : Int) + 1 := by omega
      have wrp : IntKind.i64.wrap ((t : Int) + 1) = (t : Int) + 1 := wrap_in _ (by omega) (by omega)
      clear hb5
      go_upto_region 12 with (fail)
      rw [← hw3]
      clear hw3
      go_cut [8] (fun s8 wx => s8 = .int .i64 er ∧ Hid (WSt w6 w4.heap.size y wx))
      case first =>
        obtain ⟨q0, q1, q2, q3, q4, q5, q6⟩ := S3d.1.facts
        refine wp_region_held_drew (S := (fun w' => (w'.cell? ⟨w5.heap.size, 0, none⟩ = some (.int .i64 pn) ∧ w'.cell? ⟨w5.heap.size, 1, none⟩ = some (.int .i64 pd)) ∧ w'.cell? ⟨b0, 1 + (t + 1) * (n + 1), none⟩ = some (.int .i64 mu) ∧ w'.cell? ⟨b0, 1 + (t + 1), none⟩ = some (.int .i64 ml))) (by kernel_rfl) (KS.out _ _ S3d) (fun h0 => ?_)
        refine wpAnyH_take (i := 1) (v := ?v1) rfl (by kernel_rfl) (by kernel_rfl) (by kernel_rfl) (fun _ _ _ h => h) (Or.inl ⟨by rfl, ?hy1⟩) h0 ?rest1
        case hy1 => (intro w' hS; (try dsimp only at hS); go_simp; try (with_reducible rfl))
        simp only [Act.put, List.getElem_toArray, List.getElem_cons_zero, List.getElem_cons_succ, List.setIfInBounds_toArray, List.set_cons_zero, List.set_cons_succ]
        refine wpAnyH_take (i := 2) (v := ?v2) rfl (by kernel_rfl) (by kernel_rfl) (by kernel_rfl) (fun _ _ _ h => h) (Or.inl ⟨by rfl, ?hy2⟩) h0 ?rest2
        case hy2 => (intro w' hS; (try dsimp only at hS); go_simp; try (with_reducible rfl))
        simp only [Act.put, List.getElem_toArray, List.getElem_cons_zero, List.getElem_cons_succ, List.setIfInBounds_toArray, List.set_cons_zero, List.set_cons_succ]
        refine wpAnyH_take (i := 3) (v := ?v3) rfl (by kernel_rfl) (by kernel_rfl) (by kernel_rfl) (fun _ _ _ h => h) (Or.inl ⟨by rfl, ?hy3⟩) h0 ?rest3
        case hy3 => (intro w' hS; (try dsimp only at hS); go_simp; try (with_reducible rfl))
        simp only [Act.put, List.getElem_toArray, List.getElem_cons_zero, List.getElem_cons_succ, List.setIfInBounds_toArray, List.set_cons_zero, List.set_cons_succ]
        refine wpAnyH_take (i := 8) (v := ?v4) rfl (by kernel_rfl) (by kernel_rfl) (by kernel_rfl) (fun _ _ _ h => h) (Or.inl ⟨by rfl, ?hy4⟩) h0 ?rest4
        case hy4 => (intro w' hS; (try dsimp only at hS); go_simp; try (with_reducible rfl))
        simp only [Act.put, List.getElem_toArray, List.getElem_cons_zero, List.getElem_cons_succ, List.setIfInBounds_toArray, List.set_cons_zero, List.set_cons_succ]
        refine wpAnyH_take (i := 9) (v := ?v5) rfl (by kernel_rfl) (by kernel_rfl) (by kernel_rfl) (fun _ _ _ h => h) (Or.inl ⟨by rfl, ?hy5⟩) h0 ?rest5
        case hy5 => (intro w' hS; (try dsimp only at hS); go_simp; try (with_reducible rfl))
        simp only [Act.put, List.getElem_toArray, List.getElem_cons_zero, List.getElem_cons_succ, List.setIfInBounds_toArray, List.set_cons_zero, List.set_cons_succ]
        refine wpAnyH_ready (rs := [0, 4]) (by kernel_rfl) (by simp) (AllReadyH.cons rfl (fun K hK => ?_) (AllReadyH.cons rfl (fun K hK => ?_) AllReadyH.nil))
        · rw [if_pos (by rfl)]
          go_simp
          refine hK.out _ _ (KS.out _ _ S3d) (fun h0_1 => ?_)
          clear hK K h0
          refine wpAnyH_ready (rs := [4]) (by kernel_rfl) (by simp) (AllReadyH.cons rfl (fun K hK => ?_) AllReadyH.nil)
          rw [if_pos (by rfl)]
          go_simp
          refine (R1.out).mono ?_
          rintro e wa ⟨rfl, hwa⟩
          rw [hwa]; clear hwa wa
          go_simp
          refine hK.out _ _ (KS.out _ _ S3d) (fun h0_2 => ?_)
          clear hK K h0_1
          refine wpAnyH_take (i := 5) (v := ?v6) rfl (by kernel_rfl) (by kernel_rfl) (by kernel_rfl) (fun _ _ _ h => h) (Or.inl ⟨by rfl, ?hy6⟩) h0_2 ?rest6
          case hy6 => (intro w' hS; (try dsimp only at hS); go_simp; try (with_reducible rfl))
          simp only [Act.put, List.getElem_toArray, List.getElem_cons_zero, List.getElem_cons_succ, List.setIfInBounds_toArray, List.set_cons_zero, List.set_cons_succ]
          refine wpAnyH_take (i := 6) (v := ?v7) rfl (by kernel_rfl) (by kernel_rfl) (by kernel_rfl) (fun _ _ _ h => h) (Or.inl ⟨by rfl, ?hy7⟩) h0_2 ?rest7
          case hy7 => (intro w' hS; (try dsimp only at hS); go_simp; try (with_reducible rfl))
          simp only [Act.put, List.getElem_toArray, List.getElem_cons_zero, List.getElem_cons_succ, List.setIfInBounds_toArray, List.set_cons_zero, List.set_cons_succ]
          refine wpAnyH_ready (rs := [7]) (by kernel_rfl) (by simp) (AllReadyH.cons rfl (fun K hK => ?_) AllReadyH.nil)
          rw [if_pos (by rfl)]
          go_simp
          refine (R2.out).mono ?_
          rintro e wa ⟨rfl, hwa⟩
          rw [hwa]; clear hwa wa
          go_simp
          refine hK.out _ _ (KS.out _ _ S3d) (fun h0_3 => ?_)
          clear hK K h0_2
          refine wpAnyH_take (i := 10) (v := ?v8) rfl (by kernel_rfl) (by kernel_rfl) (by kernel_rfl) (fun _ _ _ h => h) (Or.inl ⟨by rfl, ?hy8⟩) h0_3 ?rest8
          case hy8 => (intro w' hS; (try dsimp only at hS); go_simp; try (with_reducible rfl))
          simp only [Act.put, List.getElem_toArray, List.getElem_cons_zero, List.getElem_cons_succ, List.setIfInBounds_toArray, List.set_cons_zero, List.set_cons_succ]
          refine wpAnyH_take (i := 11) (v := ?v9) rfl (by kernel_rfl) (by kernel_rfl) (by kernel_rfl) (fun _ _ _ h => h) (Or.inl ⟨by rfl, ?hy9⟩) h0_3 ?rest9
          case hy9 => (intro w' hS; (try dsimp only at hS); go_simp; try (with_reducible rfl))
          simp only [Act.put, List.getElem_toArray, List.getElem_cons_zero, List.getElem_cons_succ, List.setIfInBounds_toArray, List.set_cons_zero, List.set_cons_succ]
          refine wpAnyH_ready (rs := [12]) (by kernel_rfl) (by simp) (AllReadyH.cons rfl (fun K hK => ?_) AllReadyH.nil)
          rw [if_pos (by rfl)]
          go_simp
          refine (WI.out _).mono ?_
          rintro e w7 ⟨rfl, hb7⟩
          have S4 := S3d.on hb7
          clear hb7
          go_simp
          refine hK.out _ _ (KS.out _ _ S4) (fun h0_4 => ?_)
          clear hK K h0_3
          have g9 := S4.1.frees
          have g9' := S4.1.facts
          obtain ⟨g0, g1, g2, g3, g4, g5, g6⟩ := g9
          obtain ⟨h0, h1, h2, h3, h4, h5, h6⟩ := g9'
          refine wpAnyH_take (i := 13) (v := ?v10) rfl (by kernel_rfl) (by kernel_rfl) (by kernel_rfl) (fun _ _ _ h => h) (Or.inl ⟨by rfl, ?hy10⟩) h0_4 ?rest10
          case hy10 => (intro w' hS; (try dsimp only at hS); go_simp; try (with_reducible rfl))
          simp only [Act.put, List.getElem_toArray, List.getElem_cons_zero, List.getElem_cons_succ, List.setIfInBounds_toArray, List.set_cons_zero, List.set_cons_succ]
          refine wpAnyH_take (i := 14) (v := ?v11) rfl (by kernel_rfl) (by kernel_rfl) (by kernel_rfl) (fun _ _ _ h => h) (Or.inl ⟨by rfl, ?hy11⟩) h0_4 ?rest11
          case hy11 => (intro w' hS; (try dsimp only at hS); go_simp; try (with_reducible rfl))
          simp only [Act.put, List.getElem_toArray, List.getElem_cons_zero, List.getElem_cons_succ, List.setIfInBounds_toArray, List.set_cons_zero, List.set_cons_succ]
          refine wpAnyH_take (i := 15) (v := ?v12) rfl (by kernel_rfl) (by kernel_rfl) (by kernel_rfl) (fun _ _ _ h => h) (Or.inl ⟨by rfl, ?hy12⟩) h0_4 ?rest12
          case hy12 => (intro w' hS; (try dsimp only at hS); go_simp; try (with_reducible rfl))
          simp only [Act.put, List.getElem_toArray, List.getElem_cons_zero, List.getElem_cons_succ, List.setIfInBounds_toArray, List.set_cons_zero, List.set_cons_succ]
          refine wpAnyH_ready (rs := [16]) (by kernel_rfl) (by simp) (AllReadyH.cons rfl (fun K hK => ?_) AllReadyH.nil)
          rw [if_pos (by rfl)]
          go_simp
          refine hK.out _ _ (KS.out _ _ (S4.all y)) (fun h0_5 => ?_)
          clear hK K h0_4
          refine wpAnyH_take (i := 17) (v := ?v13) rfl (by kernel_rfl) (by kernel_rfl) (by kernel_rfl) (fun _ _ _ h => h) (Or.inl ⟨by rfl, ?hy13⟩) h0_5 ?rest13
          case hy13 => (intro w' hS; (try dsimp only at hS); go_simp; try (with_reducible rfl))
          simp only [Act.put, List.getElem_toArray, List.getElem_cons_zero, List.getElem_cons_succ, List.setIfInBounds_toArray, List.set_cons_zero, List.set_cons_succ]
          refine wpAnyH_done (by kernel_rfl) ?_ _
          go_wp2_with fail
          go_meet
          case rel => exact ⟨rfl, Lib.hid ⟨(S4.all y).1, grown_trans S3.out.2 (S4.all y).2⟩⟩
        · rw [if_pos (by rfl)]
          go_simp
          refine (R1.out).mono ?_
          rintro e wa ⟨rfl, hwa⟩
          rw [hwa]; clear hwa wa
          go_simp
          refine hK.out _ _ (KS.out _ _ S3d) (fun h0_1 => ?_)
          clear hK K h0
          refine wpAnyH_take (i := 5) (v := ?v14) rfl (by kernel_rfl) (by kernel_rfl) (by kernel_rfl) (fun _ _ _ h => h) (Or.inl ⟨by rfl, ?hy14⟩) h0_1 ?rest14
          case hy14 => (intro w' hS; (try dsimp only at hS); go_simp; try (with_reducible rfl))
          simp only [Act.put, List.getElem_toArray, List.getElem_cons_zero, List.getElem_cons_succ, List.setIfInBounds_toArray, List.set_cons_zero, List.set_cons_succ]
          refine wpAnyH_take (i := 6) (v := ?v15) rfl (by kernel_rfl) (by kernel_rfl) (by kernel_rfl) (fun _ _ _ h => h) (Or.inl ⟨by rfl, ?hy15⟩) h0_1 ?rest15
          case hy15 => (intro w' hS; (try dsimp only at hS); go_simp; try (with_reducible rfl))
          simp only [Act.put, List.getElem_toArray, List.getElem_cons_zero, List.getElem_cons_succ, List.setIfInBounds_toArray, List.set_cons_zero, List.set_cons_succ]
          refine wpAnyH_ready (rs := [0, 7]) (by kernel_rfl) (by simp) (AllReadyH.cons rfl (fun K hK => ?_) (AllReadyH.cons rfl (fun K hK => ?_) AllReadyH.nil))
          · rw [if_pos (by rfl)]
            go_simp
            refine hK.out _ _ (KS.out _ _ S3d) (fun h0_6 => ?_)
            clear hK K h0_1
            refine wpAnyH_ready (rs := [7]) (by kernel_rfl) (by simp) (AllReadyH.cons rfl (fun K hK => ?_) AllReadyH.nil)
            rw [if_pos (by rfl)]
            go_simp
            refine (R2.out).mono ?_
            rintro e wa ⟨rfl, hwa⟩
            rw [hwa]; clear hwa wa
            go_simp
            refine hK.out _ _ (KS.out _ _ S3d) (fun h0_7 => ?_)
            clear hK K h0_6
            refine wpAnyH_take (i := 10) (v := ?v16) rfl (by kernel_rfl) (by kernel_rfl) (by kernel_rfl) (fun _ _ _ h => h) (Or.inl ⟨by rfl, ?hy16⟩) h0_7 ?rest16
            case hy16 => (intro w' hS; (try dsimp only at hS); go_simp; try (with_reducible rfl))
            simp only [Act.put, List.getElem_toArray, List.getElem_cons_zero, List.getElem_cons_succ, List.setIfInBounds_toArray, List.set_cons_zero, List.set_cons_succ]
            refine wpAnyH_take (i := 11) (v := ?v17) rfl (by kernel_rfl) (by kernel_rfl) (by kernel_rfl) (fun _ _ _ h => h) (Or.inl ⟨by rfl, ?hy17⟩) h0_7 ?rest17
            case hy17 => (intro w' hS; (try dsimp only at hS); go_simp; try (with_reducible rfl))
            simp only [Act.put, List.getElem_toArray, List.getElem_cons_zero, List.getElem_cons_succ, List.setIfInBounds_toArray, List.set_cons_zero, List.set_cons_succ]
            refine wpAnyH_ready (rs := [12]) (by kernel_rfl) (by simp) (AllReadyH.cons rfl (fun K hK => ?_) AllReadyH.nil)
            rw [if_pos (by rfl)]
            go_simp
            refine (WI.out _).mono ?_
            rintro e w7 ⟨rfl, hb7⟩
            have S4 := S3d.on hb7
            clear hb7
            go_simp
            refine hK.out _ _ (KS.out _ _ S4) (fun h0_8 => ?_)
            clear hK K h0_7
            have g9 := S4.1.frees
            have g9' := S4.1.facts
            obtain ⟨g0, g1, g2, g3, g4, g5, g6⟩ := g9
            obtain ⟨h0, h1, h2, h3, h4, h5, h6⟩ := g9'
            refine wpAnyH_take (i := 13) (v := ?v18) rfl (by kernel_rfl) (by kernel_rfl) (by kernel_rfl) (fun _ _ _ h => h) (Or.inl ⟨by rfl, ?hy18⟩) h0_8 ?rest18
            case hy18 => (intro w' hS; (try dsimp only at hS); go_simp; try (with_reducible rfl))
            simp only [Act.put, List.getElem_toArray, List.getElem_cons_zero, List.getElem_cons_succ, List.setIfInBounds_toArray, List.set_cons_zero, List.set_cons_succ]
            refine wpAnyH_take (i := 14) (v := ?v19) rfl (by kernel_rfl) (by kernel_rfl) (by kernel_rfl) (fun _ _ _ h => h) (Or.inl ⟨by rfl, ?hy19⟩) h0_8 ?rest19
            case hy19 => (intro w' hS; (try dsimp only at hS); go_simp; try (with_reducible rfl))
            simp only [Act.put, List.getElem_toArray, List.getElem_cons_zero, List.getElem_cons_succ, List.setIfInBounds_toArray, List.set_cons_zero, List.set_cons_succ]
            refine wpAnyH_take (i := 15) (v := ?v20) rfl (by kernel_rfl) (by kernel_rfl) (by kernel_rfl) (fun _ _ _ h => h) (Or.inl ⟨by rfl, ?hy20⟩) h0_8 ?rest20
            case hy20 => (intro w' hS; (try dsimp only at hS); go_simp; try (with_reducible rfl))
            simp only [Act.put, List.getElem_toArray, List.getElem_cons_zero, List.getElem_cons_succ, List.setIfInBounds_toArray, List.set_cons_zero, List.set_cons_succ]
            refine wpAnyH_ready (rs := [16]) (by kernel_rfl) (by simp) (AllReadyH.cons rfl (fun K hK => ?_) AllReadyH.nil)
            rw [if_pos (by rfl)]
            go_simp
            refine hK.out _ _ (KS.out _ _ (S4.all y)) (fun h0_9 => ?_)
            clear hK K h0_8
            refine wpAnyH_take (i := 17) (v := ?v21) rfl (by kernel_rfl) (by kernel_rfl) (by kernel_rfl) (fun _ _ _ h => h) (Or.inl ⟨by rfl, ?hy21⟩) h0_9 ?rest21
            case hy21 => (intro w' hS; (try dsimp only at hS); go_simp; try (with_reducible rfl))
            simp only [Act.put, List.getElem_toArray, List.getElem_cons_zero, List.getElem_cons_succ, List.setIfInBounds_toArray, List.set_cons_zero, List.set_cons_succ]
            refine wpAnyH_done (by kernel_rfl) ?_ _
            go_wp2_with fail
            go_meet
            case rel => exact ⟨rfl, Lib.hid ⟨(S4.all y).1, grown_trans S3.out.2 (S4.all y).2⟩⟩
          · rw [if_pos (by rfl)]
            go_simp
            refine (R2.out).mono ?_
            rintro e wa ⟨rfl, hwa⟩
            rw [hwa]; clear hwa wa
            go_simp
            refine hK.out _ _ (KS.out _ _ S3d) (fun h0_6 => ?_)
            clear hK K h0_1
            refine wpAnyH_take (i := 10) (v := ?v22) rfl (by kernel_rfl) (by kernel_rfl) (by kernel_rfl) (fun _ _ _ h => h) (Or.inl ⟨by rfl, ?hy22⟩) h0_6 ?rest22
            case hy22 => (intro w' hS; (try dsimp only at hS); go_simp; try (with_reducible rfl))
            simp only [Act.put, List.getElem_toArray, List.getElem_cons_zero, List.getElem_cons_succ, List.setIfInBounds_toArray, List.set_cons_zero, List.set_cons_succ]
            refine wpAnyH_take (i := 11) (v := ?v23) rfl (by kernel_rfl) (by kernel_rfl) (by kernel_rfl) (fun _ _ _ h => h) (Or.inl ⟨by rfl, ?hy23⟩) h0_6 ?rest23
            case hy23 => (intro w' hS; (try dsimp only at hS); go_simp; try (with_reducible rfl))
            simp only [Act.put, List.getElem_toArray, List.getElem_cons_zero, List.getElem_cons_succ, List.setIfInBounds_toArray, List.set_cons_zero, List.set_cons_succ]
            refine wpAnyH_ready (rs := [0]) (by kernel_rfl) (by simp) (AllReadyH.cons rfl (fun K hK => ?_) AllReadyH.nil)
            rw [if_pos (by rfl)]
            go_simp
            refine hK.out _ _ (KS.out _ _ S3d) (fun h0_10 => ?_)
            clear hK K h0_6
            refine wpAnyH_ready (rs := [12]) (by kernel_rfl) (by simp) (AllReadyH.cons rfl (fun K hK => ?_) AllReadyH.nil)
            rw [if_pos (by rfl)]
            go_simp
            refine (WI.out _).mono ?_
            rintro e w7 ⟨rfl, hb7⟩
            have S4 := S3d.on hb7
            clear hb7
            go_simp
            refine hK.out _ _ (KS.out _ _ S4) (fun h0_11 => ?_)
            clear hK K h0_10
            have g9 := S4.1.frees
            have g9' := S4.1.facts
            obtain ⟨g0, g1, g2, g3, g4, g5, g6⟩ := g9
            obtain ⟨h0, h1, h2, h3, h4, h5, h6⟩ := g9'
            refine wpAnyH_take (i := 13) (v := ?v24) rfl (by kernel_rfl) (by kernel_rfl) (by kernel_rfl) (fun _ _ _ h => h) (Or.inl ⟨by rfl, ?hy24⟩) h0_11 ?rest24
            case hy24 => (intro w' hS; (try dsimp only at hS); go_simp; try (with_reducible rfl))
            simp only [Act.put, List.getElem_toArray, List.getElem_cons_zero, List.getElem_cons_succ, List.setIfInBounds_toArray, List.set_cons_zero, List.set_cons_succ]
            refine wpAnyH_take (i := 14) (v := ?v25) rfl (by kernel_rfl) (by kernel_rfl) (by kernel_rfl) (fun _ _ _ h => h) (Or.inl ⟨by rfl, ?hy25⟩) h0_11 ?rest25
            case hy25 => (intro w' hS; (try dsimp only at hS); go_simp; try (with_reducible rfl))
            simp only [Act.put, List.getElem_toArray, List.getElem_cons_zero, List.getElem_cons_succ, List.setIfInBounds_toArray, List.set_cons_zero, List.set_cons_succ]
            refine wpAnyH_take (i := 15) (v := ?v26) rfl (by kernel_rfl) (by kernel_rfl) (by kernel_rfl) (fun _ _ _ h => h) (Or.inl ⟨by rfl, ?hy26⟩) h0_11 ?rest26
            case hy26 => (intro w' hS; (try dsimp only at hS); go_simp; try (with_reducible rfl))
            simp only [Act.put, List.getElem_toArray, List.getElem_cons_zero, List.getElem_cons_succ, List.setIfInBounds_toArray, List.set_cons_zero, List.set_cons_succ]
            refine wpAnyH_ready (rs := [16]) (by kernel_rfl) (by simp) (AllReadyH.cons rfl (fun K hK => ?_) AllReadyH.nil)
            rw [if_pos (by rfl)]
            go_simp
            refine hK.out _ _ (KS.out _ _ (S4.all y)) (fun h0_12 => ?_)
            clear hK K h0_11
            refine wpAnyH_take (i := 17) (v := ?v27) rfl (by kernel_rfl) (by kernel_rfl) (by kernel_rfl) (fun _ _ _ h => h) (Or.inl ⟨by rfl, ?hy27⟩) h0_12 ?rest27
            case hy27 => (intro w' hS; (try dsimp only at hS); go_simp; try (with_reducible rfl))
            simp only [Act.put, List.getElem_toArray, List.getElem_cons_zero, List.getElem_cons_succ, List.setIfInBounds_toArray, List.set_cons_zero, List.set_cons_succ]
            refine wpAnyH_done (by kernel_rfl) ?_ _
            go_wp2_with fail
            go_meet
            case rel => exact ⟨rfl, Lib.hid ⟨(S4.all y).1, grown_trans S3.out.2 (S4.all y).2⟩⟩
      case rest =>
        obtain ⟨rfl, HC⟩ := hcut
        clear S3d wrp t1 t0
        by_cases he : er = 0
        case pos =>
          have HN := Lib.hid (show (syR n l ps (t + 1)).2 = 0 ∧ WSt w6 w4.heap.size (syR n l ps (t + 1)).1 wc from by
            rw [SU1.out]; exact ⟨he, HC.out⟩)
          subst he
          go_wp2_with fail
          go_roundw
          case rel => exact ⟨t + 1, by omega, by go_num, HN⟩
          case measure => simp [intOf]; omega
        case neg =>
          have DE : (er != 0) = true := by simpa using he
          have HN := Lib.hid (show vv = (Dl.zero, er) from by
            have h1 : (syR n l ps (t + 1)).2 = er := by rw [SU1.out]
            have h2 : (syR n l ps n).2 = er := by rw [ST.out (t + 1) n (by omega) (by rw [h1]; exact he), h1]
            rw [HV1.out, h2, if_pos he])
          clear he
          obtain ⟨r0, r1, r2, r3, r4, r5, r6⟩ := (DR.out.kept (KE.out _ _ HC.out)).facts
          obtain ⟨f0, f1, f2, f3, f4, f5, f6⟩ := (DR.out.kept (KE.out _ _ HC.out)).frees
          go_wp2_with fail
          refine bodyPost_ret (v := .tuple #[.agg Dl.zero.cs, .int .i64 er]) (by simp [results, Try.results51, go_sem, Dl.cs, Dl.zero, r0, r1, r2, r3, r4, r5, r6]) rfl ⟨by rw [HN.out], ?_⟩
          exact below_seven (below_on E0.out (KE.out _ _ HC.out)) (by omega) _ _ _ _ _ _ _
    case neg =>
      obtain rfl : t = n := by omega
      have D9 : decide ((t : Int) < (t : Int)) = false := by simp
      have hyo := sy_ok t l ps t
      obtain ⟨y, hy⟩ : ∃ y, y = syR t l ps t := ⟨_, rfl⟩
      have HX3 := Lib.hid (show y.2 = 0 ∧ WSt w6 w4.heap.size y.1 wr by rw [hy]; exact HX.out)
      have HV2 := Lib.hid (show vv = if mb = false ∨ y.1.empty = true then (Dl.zero, 4) else (y.1, 0) by
        rw [HV1.out, ← hy, if_neg (by have := HX3.out.1; omega)])
      rw [← hy] at hyo
      clear hy
      obtain ⟨y, ye⟩ := y
      simp only at hyo HV2 HX3
      have EM := Lib.hid (fun W => isempty_any y W hyo)
      obtain ⟨r0, r1, r2, r3, r4, r5, r6⟩ := (DR.out.kept (KE.out _ _ HX3.out.2)).facts
      obtain ⟨f0, f1, f2, f3, f4, f5, f6⟩ := (DR.out.kept (KE.out _ _ HX3.out.2)).frees
      clear hyo
      by_cases hmb : mb = true
      case neg =>
        have hmf : mb = false := by simpa using hmb
        have HF2 := Lib.hid (show vv = (Dl.zero, 4) by rw [HV2.out, if_pos (Or.inl hmf)])
        clear hmb
        go_wp2_with fail
        refine bodyPost_ret (v := .tuple #[.agg Dl.zero.cs, .int .i64 4]) (by simp [results, Try.results51, go_sem, Dl.cs, Dl.zero, r0, r1, r2, r3, r4, r5, r6]) rfl ⟨by rw [HF2.out], ?_⟩
        exact below_seven (below_on E0.out (KE.out _ _ HX3.out.2)) (by omega) _ _ _ _ _ _ _
      case pos =>
        obtain ⟨em, hem⟩ : ∃ z, z = y.empty := ⟨_, rfl⟩
        rw [← hem] at EM
        have HEM := Lib.hid hem
        clear hem
        have HX4 := Lib.hid HX3.out.2
        have HV3 := HV2
        obtain ⟨yln, yld, yhn, yhd, ylo, yho, ynh⟩ := y
        obtain ⟨q0, q1, q2, q3, q4, q5, q6⟩ := HX4.out.1.facts
        simp only at q0 q1 q2 q3 q4 q5 q6
        simp only [Dl.cs] at EM
        by_cases hq : em = true
        case pos =>
          have HF2 := Lib.hid (show vv = (Dl.zero, 4) by rw [HV3.out, if_pos (Or.inr (by rw [← HEM.out]; exact hq))])
          go_wp2_with fail
          refine (EM.out _).mono ?_
          rintro e w8 ⟨rfl, hb8⟩
          have B8 := Lib.hid (below_on (KE.out _ _ HX4.out) hb8)
          clear hb8 q0 q1 q2 q3 q4 q5 q6 r0 r1 r2 r3 r4 r5 r6 f0 f1 f2 f3 f4 f5 f6
          obtain ⟨r0, r1, r2, r3, r4, r5, r6⟩ := (DR.out.kept B8.out).facts
          obtain ⟨f0, f1, f2, f3, f4, f5, f6⟩ := (DR.out.kept B8.out).frees
          go_wp2_with fail
          refine bodyPost_ret (v := .tuple #[.agg Dl.zero.cs, .int .i64 4]) (by simp [results, Try.results51, go_sem, Dl.cs, Dl.zero, r0, r1, r2, r3, r4, r5, r6]) rfl ⟨by rw [HF2.out], ?_⟩
          exact below_seven (below_on E0.out B8.out) (by omega) _ _ _ _ _ _ _
        case neg =>
          have hqf : em = false := by simpa using hq
          have HF2 := Lib.hid (show vv = (⟨yln, yld, yhn, yhd, ylo, yho, ynh⟩, 0) by rw [HV3.out, if_neg (by rw [← HEM.out, hmb, hqf]; simp)])
          clear hq
          go_wp2_with fail
          refine (EM.out _).mono ?_
          rintro e w8 ⟨rfl, hb8⟩
          have B8 := Lib.hid (below_on (KE.out _ _ HX4.out) hb8)
          have X8 := Lib.hid (HX4.out.on hb8)
          clear hb8 q0 q1 q2 q3 q4 q5 q6 r0 r1 r2 r3 r4 r5 r6 f0 f1 f2 f3 f4 f5 f6
          obtain ⟨q0, q1, q2, q3, q4, q5, q6⟩ := X8.out.1.facts
          simp only at q0 q1 q2 q3 q4 q5 q6
          obtain ⟨r0, r1, r2, r3, r4, r5, r6⟩ := (DR.out.kept B8.out).facts
          obtain ⟨f0, f1, f2, f3, f4, f5, f6⟩ := (DR.out.kept B8.out).frees
          go_wp2_with fail
          refine bodyPost_ret (v := .tuple #[.agg #[.int .i64 yln, .int .i64 yld, .int .i64 yhn, .int .i64 yhd, .bool ylo, .bool yho, .bool ynh], .int .i64 0]) (by simp [results, Try.results51, go_sem, r0, r1, r2, r3, r4, r5, r6]) rfl ⟨by rw [HF2.out]; rfl, ?_⟩
          exact below_seven (below_on E0.out B8.out) (by omega) _ _ _ _ _ _ _

theorem zstay_gen (N : Int) (l : List Int) (ao : Option Addr) (cap : Nat) (ps : List Pq) (po : Option Addr) (pc : Nat) (w : World) (hA : Arg w ao l) (hP : Arg2 w po ps) (hI : Fits ps) (hN : po = none → pc = 0) :
    Calls Try.prog 51 #[.agg #[.int .i64 N, .slice ao l.length cap], .slice po ps.length pc] w (Made (.tuple #[.agg (stR N l ps).1.cs, .int .i64 (stR N l ps).2]) w) := by
  unfold stR
  by_cases hr : rdE N l ps = 2
  · rw [if_pos hr]
    exact stay_bad N l ao cap ps po pc w hA hP hI hN hr
  · rw [if_neg hr]
    obtain ⟨n, rfl, _⟩ := chk_ok (rd_yes hr).1
    exact stay_ok n l ao cap ps po pc w hA hP hI hN hr
end Go.Proofs.Ytbnebinpemejlaa

namespace Go.Proofs.Ytbnebinpemejlaa
open Go.RowKit

def Dl.ls (x : Dl) : List Lit := [.int .i64 x.ln, .int .i64 x.ld, .int .i64 x.hn, .int .i64 x.hd, .bool x.lo, .bool x.ho, .bool x.nh]

def Dl.eqB (x y : Dl) : Bool := x.ln == y.ln && x.ld == y.ld && x.hn == y.hn && x.hd == y.hd && x.lo == y.lo && x.ho == y.ho && x.nh == y.nh

theorem Dl.eqB_iff {x y : Dl} : x.eqB y = true ↔ x = y := by
  obtain ⟨a, b, c, d, e, f, g⟩ := x
  obtain ⟨a', b', c', d', e', f', g'⟩ := y
  simp only [Dl.eqB, Bool.and_eq_true, beq_iff_eq, Dl.mk.injEq, and_assoc]

theorem Dl.ls_inj {x y : Dl} : x.ls = y.ls ↔ x = y := by
  obtain ⟨a, b, c, d, e, f, g⟩ := x
  obtain ⟨a', b', c', d', e', f', g'⟩ := y
  simp [Dl.ls]

theorem Try.cellsR : Try.prog.cellsOf 52 = 2 := by kernel_rfl

theorem Try.cellsD : Try.prog.cellsOf 64 = 7 := by kernel_rfl

theorem Try.cellsB : Try.prog.cellsOf 4 = 1 := by kernel_rfl

theorem Try.cellsI : Try.prog.cellsOf 2 = 1 := by kernel_rfl

theorem wf_of {n : Int} (h : I64 n) : (Lit.int .i64 n).wf = true := by
  unfold I64 at h
  simp [Lit.wf, IntKind.min, IntKind.max, IntKind.signed, IntKind.bits]
  omega

theorem lits_rat {d : Nat} {a b : Int} (ha : I64 a) (hb : I64 b) : Try.prog.keyLits (d + 2) 52 [.int .i64 a, .int .i64 b] = some [.int .i64 a, .int .i64 b] := by
  have w1 := wf_of ha
  have w2 := wf_of hb
  simp [Program.keyLits, Try.underlying52, Try.underlying2, Try.cellsR, Try.cellsI, w1, w2]

theorem lits_bool {d : Nat} {b : Bool} : Try.prog.keyLits (d + 1) 4 [.bool b] = some [.bool b] := by
  simp [Program.keyLits, Try.underlying4]

theorem Dl.ls_lits {x : Dl} (hx : x.Ok) : Try.prog.keyLits 3 64 x.cs.toList = some x.ls := by
  obtain ⟨a, b, c, d, e, f, g⟩ := x
  obtain ⟨h1, h2, h3, h4⟩ := hx
  have l1 := lits_rat (d := 0) h1 h2
  have l2 := lits_rat (d := 0) h3 h4
  have b1 := lits_bool (d := 1) (b := e)
  have b2 := lits_bool (d := 1) (b := f)
  have b3 := lits_bool (d := 1) (b := g)
  simp only at l1 l2
  simp only [Dl.cs, Dl.ls]
  have ud := Try.underlying64
  show Try.prog.keyLits (2 + 1) _ _ = _
  unfold Program.keyLits
  simp only [ud]
  simp [Try.cellsD, Try.cellsR, Try.cellsB, l1, l2, b1, b2, b3]

theorem dl_form (x : Dl) : (Value.agg x.cs).formed Try.prog 64 = true := by
  obtain ⟨a, b, c, d, e, f, g⟩ := x
  kernel_rfl

/-- Two intervals, compared as values. -/
theorem run_dl_eq (x y : Dl) (w : World) (hx : x.Ok) (hy : y.Ok) : (binOp .eql 64 (.agg x.cs) (.agg y.cs)).run Try.prog w = .ok (.bool (x.eqB y)) w := by
  obtain ⟨r, h, hr⟩ := run_equalIn_deep 9997 3 64 (by kernel_rfl) w 3 3 (.agg x.cs) (.agg y.cs) x.ls y.ls (dl_form x) (dl_form y) (Dl.ls_lits hx) (Dl.ls_lits hy)
  rw [run_eql_struct]
  simp only [Nat.reduceAdd] at h
  rw [h]
  have : r = x.eqB y := by
    rw [Bool.eq_iff_iff, Dl.eqB_iff, hr, Dl.ls_inj]
  rw [this]
  rfl

theorem dl_guard (a b : Operand) (xs ys : Array Value) (w : World) : (eqGuard .eql 64 a b (.agg xs) (.agg ys)).run Try.prog w = .ok () w := run_eqGuard_agg (P := Try.prog) w .eql _ a b xs ys (by kernel_rfl)

theorem yld_dl {o : Oper} {a : Act} {w : World} (p q : Operand) (t : TypeId) (ho : o.op = .binOp .eql 64 p q t) (x y : Dl) (hx : a.eval p = .agg x.cs) (hy : a.eval q = .agg y.cs) (kx : x.Ok) (ky : y.Ok) :
    (execOp a.eval o).run Try.prog w = .ok (.value (.bool (x.eqB y))) w := by
  unfold execOp
  simp only [ho, hx, hy, Sem.run_bind, dl_guard, run_dl_eq x y w kx ky, Result.andThen_ok, Sem.run_pure]
end Go.Proofs.Ytbnebinpemejlaa

namespace Go.Proofs.Ytbnebinpemejlaa
open Go.RowKit

def eqL (l m : List Int) : Bool := decide (l = m)

set_option maxRecDepth 100000 in
set_option maxHeartbeats 4000000 in
theorem equal_any (l m : List Int) (ao bo : Option Addr) (ca cb : Nat) (w : World) (hA : Arg w ao l) (hB : Arg w bo m) (ll : l.length ≤ 9223372036854775807) :
    Calls Try.prog 94 #[.slice ao l.length ca, .slice bo m.length cb] w (Made (.bool (eqL l m)) w) := by
  by_cases hlm : l.length = m.length
  · have hz : ∀ t : Nat, t < l.length → (∃ a, ao = some a ∧ Rd w a l) ∧ ∃ b, bo = some b ∧ Rd w b m := fun t ht => ⟨hA (by intro e; rw [e] at ht; simp at ht), hB (by intro e; have h0 : m.length = 0 := (by rw [e]; rfl); omega)⟩
    have HZ := Lib.hid hz
    have HL := Lib.hid hlm
    rw [← hlm]
    clear hA hB hz hlm
    obtain ⟨len, hlen⟩ : ∃ len, len = l.length := ⟨_, rfl⟩
    have HLN := Lib.hid hlen
    rw [← hlen] at ll ⊢
    clear hlen
    go_enter Try.func94, Try.ntmps94
    go_wp2_with fail
    go_loopw [13] (fun s wr => ∃ t : Nat, t ≤ len ∧ s = .int .i64 t ∧ Hid (∀ i, i < t → Zo.gt l i = Zo.gt m i) ∧ Hid (Below w.heap.size w wr)) (fun s _ => len - (intOf s).toNat)
    case atStart => exact ⟨0, by omega, rfl, Lib.hid (fun i hi => by omega), Lib.hid (Below.refl _ _)⟩
    case round =>
      obtain ⟨t, ht, rfl, HT, HB⟩ := hrel
      by_cases htn : t < len
      · obtain ⟨⟨a, rfl, hR1⟩, ⟨b, rfl, hR2⟩⟩ := HZ.out t (by rw [← HLN.out]; exact htn)
        obtain ⟨x, hx⟩ : ∃ x, x = Zo.gt l t := ⟨_, rfl⟩
        obtain ⟨y, hy⟩ : ∃ y, y = Zo.gt m t := ⟨_, rfl⟩
        have c1 : wr.drew.cell? (a.add t) = some (.int .i64 x) := by rw [hx]; exact (hR1.on HB.out.drew) t (by rw [← HLN.out]; exact htn)
        have c2 : wr.drew.cell? (b.add t) = some (.int .i64 y) := by rw [hy]; exact (hR2.on HB.out.drew) t (by rw [← HL.out, ← HLN.out]; exact htn)
        have HX := Lib.hid hx
        have HY := Lib.hid hy
        have HBD := Lib.hid HB.out.drew
        clear hx hy hR1 hR2
        go_wp2_with fail
        refine wp_region_still_lit (by kernel_rfl) (by kernel_rfl) ?_
        repeat still_step
        refine wpStill_nil ?_
        change Exit.then _ _ _ _ (World.drew _)
        by_cases hxy : x = y
        · have D : (x != y) = false := by simpa using hxy
          have HXY := Lib.hid hxy
          clear hxy c1 c2
          go_wp2_with fail
          go_roundw
          case rel =>
            refine ⟨t + 1, by omega, by go_num, Lib.hid (fun i hi => ?_), HBD⟩
            by_cases e : i = t
            · rw [e, ← HX.out, ← HY.out]; exact HXY.out
            · exact HT.out i (by omega)
          case measure => simp [intOf]; omega
        · have D : (x != y) = true := by simpa using hxy
          have HE := Lib.hid (show eqL l m = false by
            unfold eqL
            rw [decide_eq_false_iff_not]
            intro e
            apply hxy
            rw [HX.out, HY.out, e])
          clear hxy c1 c2
          go_wp2_with fail
          go_ret
          exact ⟨ret_bool HE.out.symm, HBD.out⟩
      · have HE := Lib.hid (show eqL l m = true by
          unfold eqL
          rw [decide_eq_true_eq]
          exact list_ext_gt HL.out.symm fun i hi => HT.out i (by have := HLN.out; omega))
        go_wp2_with fail
        go_ret
        exact ⟨ret_bool HE.out.symm, HB.out⟩
  · have HE := Lib.hid (show eqL l m = false by
      unfold eqL
      rw [decide_eq_false_iff_not]
      intro e
      exact hlm (by rw [e]))
    clear hA hB
    generalize l.length = len at *
    generalize m.length = mlen at *
    have D : ((len : Int) != (mlen : Int)) = true := by simp; omega
    clear hlm
    go_enter Try.func94, Try.ntmps94
    go_wp2_with fail
    go_ret
    exact ⟨ret_bool HE.out.symm, Below.refl _ _⟩

set_option maxRecDepth 100000 in
set_option maxHeartbeats 4000000 in
theorem zsame_any (N M : Int) (l m : List Int) (ao bo : Option Addr) (ca cb : Nat) (w : World) (hA : Arg w ao l) (hB : Arg w bo m) (ll : l.length ≤ 9223372036854775807) :
    Calls Try.prog 40 #[.agg #[.int .i64 N, .slice ao l.length ca], .agg #[.int .i64 M, .slice bo m.length cb]] w (Made (.bool (smB N M l m)) w) := by
  have HS := Lib.hid (show smB N M l m = (decide (N = M) && eqL l m) from rfl)
  have CE := Lib.hid (show ∀ W, Below w.heap.size w W → _ from fun W h => equal_any l m ao bo ca cb W (hA.on h) (hB.on h) ll)
  have E0 := Lib.hid (show Below w.heap.size w ((w.alloc (.cells #[.int .i64 N, .slice ao l.length ca] 25)).alloc (.cells #[.int .i64 M, .slice bo m.length cb] 25)) from past_two (Below.refl _ _))
  generalize eqL l m = k at *
  generalize smB N M l m = r at *
  generalize l.length = len at *
  generalize m.length = mlen at *
  clear hA hB ll
  by_cases hNM : N = M
  · have D : (N == M) = true := by simpa using hNM
    have HR := Lib.hid (show r = k by rw [HS.out, hNM]; simp)
    clear hNM
    go_enter Try.func40, Try.ntmps40
    go_wp2_with fail
    refine (CE.out _ E0.out).mono ?_
    rintro e w1 ⟨rfl, hb⟩
    have HB := Lib.hid (below_on E0.out hb)
    clear hb
    go_wp2_with fail
    go_ret
    exact ⟨ret_bool HR.out.symm, HB.out⟩
  · have D : (N == M) = false := by simpa using hNM
    have HR := Lib.hid (show r = false by rw [HS.out]; simp [hNM])
    clear hNM
    go_enter Try.func40, Try.ntmps40
    go_wp2_with fail
    go_ret
    exact ⟨ret_bool HR.out.symm, E0.out⟩
end Go.Proofs.Ytbnebinpemejlaa
