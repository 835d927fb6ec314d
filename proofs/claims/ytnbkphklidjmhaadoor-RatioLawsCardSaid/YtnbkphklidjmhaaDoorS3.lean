/- The contract of the reference's number. -/
import Derived.Test.YtnbkphklidjmhaaDoorS2
import Derived.Deep.Cut
namespace Go.Proofs.YtnbkphklidjmhaaDoor
open Go.RowKit

def nstep (p : Int × Bool) (c : UInt8) : Int × Bool :=
  if p.2 || decide ((9223372036854775807 - ((c.toNat : Int) - 48)) / 10 < p.1) then (p.1, true) else (p.1 * 10 + ((c.toNat : Int) - 48), false)
def numF (l : List UInt8) : Int × Bool := l.foldl nstep (0, false)
def foldV (l : List UInt8) (v : Int) : Int := l.foldl (fun n c => 10 * n + ((c.toNat : Int) - 48)) v

theorem fold_great (r : List UInt8) : ∀ v : Int, r.foldl nstep (v, true) = (v, true) := by
  induction r with
  | nil => intro v; rfl
  | cons c r ih => intro v; simp only [List.foldl_cons]; rw [show nstep (v, true) c = (v, true) by simp [nstep]]; exact ih v
theorem allDig_cons {c : UInt8} {r : List UInt8} (h : allDig (c :: r) = true) : 48 ≤ (c.toNat : Int) ∧ (c.toNat : Int) ≤ 57 ∧ allDig r = true := by
  unfold allDig at h ⊢
  simp [isDig] at h
  refine ⟨by omega, by omega, ?_⟩
  simp [isDig]; exact h.2
theorem fold_num (r : List UInt8) : ∀ v : Int, 0 ≤ v → v ≤ 9223372036854775807 → allDig r = true →
    (r.foldl nstep (v, false)).2 = !decide (foldV r v ≤ 9223372036854775807) ∧ (foldV r v ≤ 9223372036854775807 → (r.foldl nstep (v, false)).1 = foldV r v) ∧ v ≤ (r.foldl nstep (v, false)).1 ∧ (r.foldl nstep (v, false)).1 ≤ 9223372036854775807 := by
  induction r with
  | nil =>
    intro v v0 v1 _
    refine ⟨?_, fun _ => rfl, Int.le_refl _, v1⟩
    show false = !decide (v ≤ 9223372036854775807)
    rw [show decide (v ≤ 9223372036854775807) = true by simpa using v1]; rfl
  | cons c r ih =>
    intro v v0 v1 hd
    obtain ⟨d1, d2, d3⟩ := allDig_cons hd
    simp only [List.foldl_cons]
    by_cases ho : (9223372036854775807 - ((c.toNat : Int) - 48)) / 10 < v
    · rw [show nstep (v, false) c = (v, true) by simp [nstep, ho], fold_great]
      have hg : 9223372036854775807 < foldV (c :: r) v := by
        have := fold_ge r d3 (10 * v + ((c.toNat : Int) - 48)) (by omega)
        unfold foldV; simp only [List.foldl_cons]; omega
      refine ⟨by simp; omega, fun h => by omega, by simp, by simpa using v1⟩
    · rw [show nstep (v, false) c = (v * 10 + ((c.toNat : Int) - 48), false) by simp [nstep, ho]]
      obtain ⟨h1, h2, h3, h4⟩ := ih (v * 10 + ((c.toNat : Int) - 48)) (by omega) (by omega) d3
      have e : foldV (c :: r) v = foldV r (v * 10 + ((c.toNat : Int) - 48)) := by unfold foldV; simp only [List.foldl_cons]; congr 1; omega
      rw [e]
      exact ⟨h1, h2, by omega, h4⟩
theorem numF_val (l : List UInt8) (h : allDig l = true) : (numF l).2 = !valB l ∧ (valB l = true → (numF l).1 = valOf l) ∧ 0 ≤ (numF l).1 ∧ (numF l).1 ≤ 9223372036854775807 := by
  obtain ⟨h1, h2, h3, h4⟩ := fold_num l 0 (by omega) (by omega) h
  exact ⟨h1, fun hb => h2 (by show valOf l ≤ _; unfold valB at hb; simpa using hb), h3, h4⟩
theorem numF_pos (c : UInt8) (l : List UInt8) (h : allDig (c :: l) = true) (hc : c ≠ 48) : 1 ≤ (numF (c :: l)).1 := by
  obtain ⟨d1, d2, d3⟩ := allDig_cons h
  have hc' : (c.toNat : Int) ≠ 48 := by intro e; apply hc; apply UInt8.toNat_inj.1; simp; omega
  unfold numF
  simp only [List.foldl_cons]
  rw [show nstep (0, false) c = ((c.toNat : Int) - 48, false) by simp [nstep]; omega]
  obtain ⟨_, _, h3, _⟩ := fold_num l ((c.toNat : Int) - 48) (by omega) (by omega) d3
  omega
theorem numF_snoc (l : List UInt8) (c : UInt8) : numF (l ++ [c]) = nstep (numF l) c := by unfold numF; rw [List.foldl_append]; rfl

def nmB (G : Bool) (D : List UInt8) : Bool := isDec D && !(G && (D == [48]))
def nmG (G : Bool) (D : List UInt8) : Bool := nmB G D && (numF D).2
def nmI (G : Bool) (D : List UInt8) : Int := if nmB G D then (if G then -(numF D).1 else (numF D).1) else 0

theorem ret_three {a a' : Int} {b b' c c' : Bool} (h : a = a') (g : b = b') (k : c = c') : Ending.returned (.tuple #[.int .i64 a, .bool b, .bool c]) = .returned (.tuple #[.int .i64 a', .bool b', .bool c']) := by rw [h, g, k]
theorem nm_no {G : Bool} {D : List UInt8} (h : nmB G D = false) : nmI G D = 0 ∧ nmG G D = false ∧ nmB G D = false := by simp [nmI, nmG, h]
theorem single_of (s : ByteArray) (h : s.size = 1) (c : UInt8) (hc : s[0] = c) : s.data.toList = [c] := by
  have hl : s.data.toList.length = 1 := by rw [← Lib.size_eq]; exact h
  match hm : s.data.toList, hl with
  | [x], _ =>
    have := head_s s (by omega)
    rw [hm] at this
    simp at this
    rw [this, hc]

set_option maxRecDepth 100000 in
set_option maxHeartbeats 1600000 in
theorem number_pos (T : ByteArray) (w : World) (hs : T.size ≤ maxLen) (hp : ∀ h : 0 < T.size, ((T[0].toNat : Int) == 45) = false) :
    Calls Tryd.prog 55 #[.string T] w fun e w' => e = .returned (.tuple #[.int .i64 (nmI false T.data.toList), .bool (nmG false T.data.toList), .bool (nmB false T.data.toList)]) ∧ w = w' := by
  unfold maxLen at hs
  have HP := Lib.hid hp
  clear hp
  by_cases z : 0 < T.size
  · have p0 := HP.out z
    have zi : (0 : Int) < (T.size : Int) := by omega
    clear HP
    have e0 : T.toList.isEmpty = false := by
      rw [Lib.toList_data]
      cases hl : T.data.toList with
      | nil => rw [Lib.size_eq, hl] at z; simp at z
      | cons => rfl
    have HD := Lib.hid (isDec_eq T z)
    by_cases q : ((T[0].toNat : Int) == 48) = true
    · by_cases h1 : 1 < T.size
      · have h1' : (1 : Int) < (T.size : Int) := by omega
        have HB := Lib.hid (show nmI false T.data.toList = 0 ∧ nmG false T.data.toList = false ∧ nmB false T.data.toList = false from nm_no (by
          unfold nmB; rw [HD.out, q, show decide (1 < T.size) = true by simpa using h1]; simp))
        go_enter Tryd.func55, Tryd.ntmps55
        go_wp2
        go_ret3
        exact ⟨ret_three HB.out.1.symm HB.out.2.1.symm HB.out.2.2.symm, rfl⟩
      · have h2 : (T.size : Int) ≤ 1 := by omega
        have h3 : decide ((1 : Int) < (T.size : Int)) = false := by simp; omega
        have h4 : decide (1 < T.size) = false := by simp; omega
        have HNo := Lib.hid (show allDig T.data.toList = false → nmI false T.data.toList = 0 ∧ nmG false T.data.toList = false ∧ nmB false T.data.toList = false from fun h => nm_no (by unfold nmB; rw [HD.out, h]; simp))
        have HYes := Lib.hid (show allDig T.data.toList = true → nmB false T.data.toList = true from fun h => by unfold nmB; rw [HD.out, h, show decide (1 < T.size) = false from h4]; simp)
        go_enter Tryd.func55, Tryd.ntmps55
        go_wp2
        go_loop [3, 6, 7, 8] (fun g n i _ => ∃ k : Nat, k ≤ T.size ∧ i = .int .i64 k ∧ ∃ (v : Int) (b : Bool), 0 ≤ v ∧ v ≤ 9223372036854775807 ∧ n = .int .i64 v ∧ g = .bool b ∧ Hid (numF (T.data.toList.take k) = (v, b)) ∧ Hid (allDig (T.data.toList.take k) = true)) (fun _ _ i _ => T.size - (intOf i).toNat)
        case atStart => exact ⟨0, Nat.zero_le _, rfl, 0, false, by omega, by omega, rfl, rfl, Lib.hid rfl, Lib.hid (by simp [allDig])⟩
        case round =>
          obtain ⟨k, hk, rfl, v, b, v0, v1, rfl, rfl, hv, hd⟩ := hrel
          by_cases hlt : k < T.size
          · by_cases t1 : (T[k].toNat : Int) < 48
            · have HB := Lib.hid (HNo.out (all_no T k hlt (Or.inl t1)))
              go_wp2
              go_ret3
              exact ⟨ret_three HB.out.1.symm HB.out.2.1.symm HB.out.2.2.symm, rfl⟩
            by_cases t2 : 57 < (T[k].toNat : Int)
            · have HB := Lib.hid (HNo.out (all_no T k hlt (Or.inr t2)))
              go_wp2
              go_ret3
              exact ⟨ret_three HB.out.1.symm HB.out.2.1.symm HB.out.2.2.symm, rfl⟩
            have H3 := Lib.hid (all_step T k hlt hd.out t1 t2)
            have HT := Lib.hid (take_snoc T k hlt)
            have HS := Lib.hid (numF_snoc (T.data.toList.take k) T[k])
            cases b
            · by_cases ho : (9223372036854775807 - ((T[k].toNat : Int) - 48)) / 10 < v
              · have H4 := Lib.hid (show numF (T.data.toList.take (k + 1)) = (v, true) by rw [HT.out, HS.out, hv.out]; simp [nstep, ho])
                go_wp2
                go_round
                case rel => exact ⟨k + 1, by omega, by go_num, v, true, v0, v1, rfl, rfl, H4, H3⟩
                case measure => simp [intOf]; omega
              · have H4 := Lib.hid (show numF (T.data.toList.take (k + 1)) = (v * 10 + ((T[k].toNat : Int) - 48), false) by rw [HT.out, HS.out, hv.out]; simp [nstep, ho])
                have hle : v * 10 + ((T[k].toNat : Int) - 48) ≤ 9223372036854775807 := by omega
                go_wp2
                go_round
                case rel => exact ⟨k + 1, by omega, by go_num, _, false, by omega, hle, rfl, rfl, H4, H3⟩
                case measure => simp [intOf]; omega
            · have H4 := Lib.hid (show numF (T.data.toList.take (k + 1)) = (v, true) by rw [HT.out, HS.out, hv.out]; simp [nstep])
              go_wp2
              go_round
              case rel => exact ⟨k + 1, by omega, by go_num, v, true, v0, v1, rfl, rfl, H4, H3⟩
              case measure => simp [intOf]; omega
          · have e : T.data.toList.take k = T.data.toList := List.take_of_length_le (by rw [← Lib.size_eq]; omega)
            have HY := Lib.hid (HYes.out (by rw [← e]; exact hd.out))
            have HF := Lib.hid (show numF T.data.toList = (v, b) by rw [← e]; exact hv.out)
            clear e
            have HI := Lib.hid (show nmI false T.data.toList = v by unfold nmI; rw [HY.out, HF.out]; simp)
            have HG := Lib.hid (show nmG false T.data.toList = b by unfold nmG; rw [HY.out, HF.out]; simp)
            go_wp2
            go_ret3
            exact ⟨ret_three HI.out.symm HG.out.symm HY.out.symm, rfl⟩
    · have q' : ((T[0].toNat : Int) == 48) = false := by simpa using q
      have hne : ¬ T.data.toList = [48] := by
        intro h
        have := head_s T z
        rw [h] at this
        simp at this
        rw [← this] at q
        exact q rfl
      have HNo := Lib.hid (show allDig T.data.toList = false → nmI false T.data.toList = 0 ∧ nmG false T.data.toList = false ∧ nmB false T.data.toList = false from fun h => nm_no (by unfold nmB; rw [HD.out, h]; simp))
      have HYes := Lib.hid (show allDig T.data.toList = true → nmB false T.data.toList = true from fun h => by unfold nmB; rw [HD.out, h, q']; simp)
      clear q hne
      go_enter Tryd.func55, Tryd.ntmps55
      go_wp2
      go_loop [3, 6, 7, 8] (fun g n i _ => ∃ k : Nat, k ≤ T.size ∧ i = .int .i64 k ∧ ∃ (v : Int) (b : Bool), 0 ≤ v ∧ v ≤ 9223372036854775807 ∧ n = .int .i64 v ∧ g = .bool b ∧ Hid (numF (T.data.toList.take k) = (v, b)) ∧ Hid (allDig (T.data.toList.take k) = true)) (fun _ _ i _ => T.size - (intOf i).toNat)
      case atStart => exact ⟨0, Nat.zero_le _, rfl, 0, false, by omega, by omega, rfl, rfl, Lib.hid rfl, Lib.hid (by simp [allDig])⟩
      case round =>
        obtain ⟨k, hk, rfl, v, b, v0, v1, rfl, rfl, hv, hd⟩ := hrel
        by_cases hlt : k < T.size
        · by_cases t1 : (T[k].toNat : Int) < 48
          · have HB := Lib.hid (HNo.out (all_no T k hlt (Or.inl t1)))
            go_wp2
            go_ret3
            exact ⟨ret_three HB.out.1.symm HB.out.2.1.symm HB.out.2.2.symm, rfl⟩
          by_cases t2 : 57 < (T[k].toNat : Int)
          · have HB := Lib.hid (HNo.out (all_no T k hlt (Or.inr t2)))
            go_wp2
            go_ret3
            exact ⟨ret_three HB.out.1.symm HB.out.2.1.symm HB.out.2.2.symm, rfl⟩
          have H3 := Lib.hid (all_step T k hlt hd.out t1 t2)
          have HT := Lib.hid (take_snoc T k hlt)
          have HS := Lib.hid (numF_snoc (T.data.toList.take k) T[k])
          cases b
          · by_cases ho : (9223372036854775807 - ((T[k].toNat : Int) - 48)) / 10 < v
            · have H4 := Lib.hid (show numF (T.data.toList.take (k + 1)) = (v, true) by rw [HT.out, HS.out, hv.out]; simp [nstep, ho])
              go_wp2
              go_round
              case rel => exact ⟨k + 1, by omega, by go_num, v, true, v0, v1, rfl, rfl, H4, H3⟩
              case measure => simp [intOf]; omega
            · have H4 := Lib.hid (show numF (T.data.toList.take (k + 1)) = (v * 10 + ((T[k].toNat : Int) - 48), false) by rw [HT.out, HS.out, hv.out]; simp [nstep, ho])
              have hle : v * 10 + ((T[k].toNat : Int) - 48) ≤ 9223372036854775807 := by omega
              go_wp2
              go_round
              case rel => exact ⟨k + 1, by omega, by go_num, _, false, by omega, hle, rfl, rfl, H4, H3⟩
              case measure => simp [intOf]; omega
          · have H4 := Lib.hid (show numF (T.data.toList.take (k + 1)) = (v, true) by rw [HT.out, HS.out, hv.out]; simp [nstep])
            go_wp2
            go_round
            case rel => exact ⟨k + 1, by omega, by go_num, v, true, v0, v1, rfl, rfl, H4, H3⟩
            case measure => simp [intOf]; omega
        · have e : T.data.toList.take k = T.data.toList := List.take_of_length_le (by rw [← Lib.size_eq]; omega)
          have HY := Lib.hid (HYes.out (by rw [← e]; exact hd.out))
          have HF := Lib.hid (show numF T.data.toList = (v, b) by rw [← e]; exact hv.out)
          clear e
          have HI := Lib.hid (show nmI false T.data.toList = v by unfold nmI; rw [HY.out, HF.out]; simp)
          have HG := Lib.hid (show nmG false T.data.toList = b by unfold nmG; rw [HY.out, HF.out]; simp)
          go_wp2
          go_ret3
          exact ⟨ret_three HI.out.symm HG.out.symm HY.out.symm, rfl⟩
  · have zi : decide ((0 : Int) < (T.size : Int)) = false := decide_eq_false (by omega)
    have zj : decide (0 < T.size) = false := decide_eq_false (by omega)
    clear HP
    have e : T.data.toList = [] := List.eq_nil_of_length_eq_zero (by rw [← Lib.size_eq]; omega)
    have e0 : T.toList = [] := by rw [Lib.toList_data, e]
    have e1 : T.toList.isEmpty = true := by rw [e0]; rfl
    have HB := Lib.hid (show nmI false T.data.toList = 0 ∧ nmG false T.data.toList = false ∧ nmB false T.data.toList = false from nm_no (by rw [e]; rfl))
    clear e
    go_enter Tryd.func55, Tryd.ntmps55
    go_wp2
    go_ret3
    exact ⟨ret_three HB.out.1.symm HB.out.2.1.symm HB.out.2.2.symm, rfl⟩

set_option maxRecDepth 100000 in
set_option maxHeartbeats 1600000 in
theorem number_neg' (s : ByteArray) (w : World) (hs : s.size ≤ maxLen) (z0 : 0 < s.size) (p0 : ((s[0].toNat : Int) == 45) = true) (vI : Int) (vG vB : Bool)
    (HX0 : Hid (nmI true (s.data.toList.drop 1) = vI ∧ nmG true (s.data.toList.drop 1) = vG ∧ nmB true (s.data.toList.drop 1) = vB)) :
    Calls Tryd.prog 55 #[.string s] w fun e w' => e = .returned (.tuple #[.int .i64 vI, .bool vG, .bool vB]) ∧ w = w' := by
  unfold maxLen at hs
  have zi : (0 : Int) < (s.size : Int) := by omega
  have hT : (s.extract 1 s.size).data.toList = s.data.toList.drop 1 := Lib.extract_to_end s 1
  have hTs : (s.extract 1 s.size).size ≤ 2 ^ 63 - 1 := by rw [Lib.size_eq, hT, List.length_drop, ← Lib.size_eq]; omega
  have HX := Lib.hid (show nmI true (s.extract 1 s.size).data.toList = vI ∧ nmG true (s.extract 1 s.size).data.toList = vG ∧ nmB true (s.extract 1 s.size).data.toList = vB by rw [hT]; exact HX0.out)
  clear hT HX0
  go_enter Tryd.func55, Tryd.ntmps55
  go_upto_region 4 with (fail)
  generalize s.extract 1 s.size = T at *
  clear p0 zi hs
  by_cases z : 0 < T.size
  · have e0 : T.toList.isEmpty = false := by
      rw [Lib.toList_data]
      cases hl : T.data.toList with
      | nil => rw [Lib.size_eq, hl] at z; simp at z
      | cons => rfl
    have HD := Lib.hid (isDec_eq T z)
    by_cases q : ((T[0].toNat : Int) == 48) = true
    · have HB := Lib.hid (show nmI true T.data.toList = 0 ∧ nmG true T.data.toList = false ∧ nmB true T.data.toList = false from nm_no (by
        unfold nmB
        by_cases h1 : 1 < T.size
        · rw [HD.out, q, show decide (1 < T.size) = true by simpa using h1]; simp
        · have c48 : T[0] = 48 := by have := byte_eq T[0] 48 (by omega); rw [show ((48 : Nat) : Int) = 48 from rfl, q] at this; simpa using this.symm
          rw [single_of T (by omega) 48 c48]; simp))
      go_wp2
      all_goals
        go_ret3
        exact ⟨ret_three (HB.out.1.symm.trans HX.out.1) (HB.out.2.1.symm.trans HX.out.2.1) (HB.out.2.2.symm.trans HX.out.2.2), rfl⟩
    · have q' : ((T[0].toNat : Int) == 48) = false := by simpa using q
      have hne : ¬ T.data.toList = [48] := by
        intro h
        have := head_s T z
        rw [h] at this
        simp at this
        rw [← this] at q
        exact q rfl
      have HNo := Lib.hid (show allDig T.data.toList = false → nmI true T.data.toList = 0 ∧ nmG true T.data.toList = false ∧ nmB true T.data.toList = false from fun h => nm_no (by unfold nmB; rw [HD.out, h]; simp))
      have HYes := Lib.hid (show allDig T.data.toList = true → nmB true T.data.toList = true from fun h => by unfold nmB; rw [HD.out, h, q']; simp [hne])
      clear q hne
      go_wp2
      go_loop [3, 6, 7, 8] (fun g n i _ => ∃ k : Nat, k ≤ T.size ∧ i = .int .i64 k ∧ ∃ (v : Int) (b : Bool), 0 ≤ v ∧ v ≤ 9223372036854775807 ∧ n = .int .i64 v ∧ g = .bool b ∧ Hid (numF (T.data.toList.take k) = (v, b)) ∧ Hid (allDig (T.data.toList.take k) = true)) (fun _ _ i _ => T.size - (intOf i).toNat)
      case atStart => exact ⟨0, Nat.zero_le _, rfl, 0, false, by omega, by omega, rfl, rfl, Lib.hid rfl, Lib.hid (by simp [allDig])⟩
      case round =>
        obtain ⟨k, hk, rfl, v, b, v0, v1, rfl, rfl, hv, hd⟩ := hrel
        by_cases hlt : k < T.size
        · by_cases t1 : (T[k].toNat : Int) < 48
          · have HB := Lib.hid (HNo.out (all_no T k hlt (Or.inl t1)))
            go_wp2
            go_ret3
            exact ⟨ret_three (HB.out.1.symm.trans HX.out.1) (HB.out.2.1.symm.trans HX.out.2.1) (HB.out.2.2.symm.trans HX.out.2.2), rfl⟩
          by_cases t2 : 57 < (T[k].toNat : Int)
          · have HB := Lib.hid (HNo.out (all_no T k hlt (Or.inr t2)))
            go_wp2
            go_ret3
            exact ⟨ret_three (HB.out.1.symm.trans HX.out.1) (HB.out.2.1.symm.trans HX.out.2.1) (HB.out.2.2.symm.trans HX.out.2.2), rfl⟩
          have H3 := Lib.hid (all_step T k hlt hd.out t1 t2)
          have HT := Lib.hid (take_snoc T k hlt)
          have HS := Lib.hid (numF_snoc (T.data.toList.take k) T[k])
          cases b
          · by_cases ho : (9223372036854775807 - ((T[k].toNat : Int) - 48)) / 10 < v
            · have H4 := Lib.hid (show numF (T.data.toList.take (k + 1)) = (v, true) by rw [HT.out, HS.out, hv.out]; simp [nstep, ho])
              go_wp2
              go_round
              case rel => exact ⟨k + 1, by omega, by go_num, v, true, v0, v1, rfl, rfl, H4, H3⟩
              case measure => simp [intOf]; omega
            · have H4 := Lib.hid (show numF (T.data.toList.take (k + 1)) = (v * 10 + ((T[k].toNat : Int) - 48), false) by rw [HT.out, HS.out, hv.out]; simp [nstep, ho])
              have hle : v * 10 + ((T[k].toNat : Int) - 48) ≤ 9223372036854775807 := by omega
              go_wp2
              go_round
              case rel => exact ⟨k + 1, by omega, by go_num, _, false, by omega, hle, rfl, rfl, H4, H3⟩
              case measure => simp [intOf]; omega
          · have H4 := Lib.hid (show numF (T.data.toList.take (k + 1)) = (v, true) by rw [HT.out, HS.out, hv.out]; simp [nstep])
            go_wp2
            go_round
            case rel => exact ⟨k + 1, by omega, by go_num, v, true, v0, v1, rfl, rfl, H4, H3⟩
            case measure => simp [intOf]; omega
        · have e : T.data.toList.take k = T.data.toList := List.take_of_length_le (by rw [← Lib.size_eq]; omega)
          have HY := Lib.hid (HYes.out (by rw [← e]; exact hd.out))
          have HF := Lib.hid (show numF T.data.toList = (v, b) by rw [← e]; exact hv.out)
          clear e
          have HI := Lib.hid (show nmI true T.data.toList = -v by unfold nmI; rw [HY.out, HF.out]; simp)
          have HG := Lib.hid (show nmG true T.data.toList = b by unfold nmG; rw [HY.out, HF.out]; simp)
          go_wp2
          go_ret3
          exact ⟨ret_three (HI.out.symm.trans HX.out.1) (HG.out.symm.trans HX.out.2.1) (HY.out.symm.trans HX.out.2.2), rfl⟩
  · have e : T.data.toList = [] := List.eq_nil_of_length_eq_zero (by rw [← Lib.size_eq]; omega)
    have e0 : T.toList = [] := by rw [Lib.toList_data, e]
    have e1 : T.toList.isEmpty = true := by rw [e0]; rfl
    have HB := Lib.hid (show nmI true T.data.toList = 0 ∧ nmG true T.data.toList = false ∧ nmB true T.data.toList = false from nm_no (by rw [e]; rfl))
    clear e
    go_wp2
    go_ret3
    exact ⟨ret_three (HB.out.1.symm.trans HX.out.1) (HB.out.2.1.symm.trans HX.out.2.1) (HB.out.2.2.symm.trans HX.out.2.2), rfl⟩

theorem number_neg (s : ByteArray) (w : World) (hs : s.size ≤ maxLen) (z0 : 0 < s.size) (p0 : ((s[0].toNat : Int) == 45) = true) :
    Calls Tryd.prog 55 #[.string s] w fun e w' => e = .returned (.tuple #[.int .i64 (nmI true (s.data.toList.drop 1)), .bool (nmG true (s.data.toList.drop 1)), .bool (nmB true (s.data.toList.drop 1))]) ∧ w = w' :=
  number_neg' s w hs z0 p0 _ _ _ (Lib.hid ⟨rfl, rfl, rfl⟩)

theorem prefix_eq (s : ByteArray) (h : 0 < s.size) : Lib.hasPrefix s.data.toList [45] = ((s[0].toNat : Int) == 45) := by
  have h1 := byte_eq s[0] 45 (by omega)
  rw [show ((45 : Nat) : Int) = 45 from rfl] at h1
  rw [h1]
  have h2 := head_s s h
  unfold Lib.hasPrefix
  cases hl : s.data.toList with
  | nil => rw [hl] at h2; simp at h2
  | cons c r =>
    rw [hl] at h2
    simp at h2
    rw [← h2]
    simp only [List.isPrefixOf, Bool.and_true]
    exact BEq.comm

/-- number of any text. -/
theorem number_any (s : ByteArray) (w : World) (hs : s.size ≤ maxLen) :
    Calls Tryd.prog 55 #[.string s] w fun e w' => e = .returned (.tuple #[.int .i64 (nmI (Lib.hasPrefix s.data.toList [45]) (Lib.trimPrefix s.data.toList [45])), .bool (nmG (Lib.hasPrefix s.data.toList [45]) (Lib.trimPrefix s.data.toList [45])), .bool (nmB (Lib.hasPrefix s.data.toList [45]) (Lib.trimPrefix s.data.toList [45]))]) ∧ w = w' := by
  unfold Lib.trimPrefix
  by_cases z : 0 < s.size
  · cases hp : Lib.hasPrefix s.data.toList [45]
    · exact number_pos s w hs (fun h => by rw [← prefix_eq s h]; exact hp)
    · exact number_neg s w hs z (by rw [← prefix_eq s z]; exact hp)
  · have e : s.data.toList = [] := List.eq_nil_of_length_eq_zero (by rw [← Lib.size_eq]; omega)
    have hp : Lib.hasPrefix s.data.toList [45] = false := by rw [e]; rfl
    rw [hp]
    exact number_pos s w hs (fun h => absurd h z)
end Go.Proofs.YtnbkphklidjmhaaDoor
