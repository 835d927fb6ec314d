/- Contracts of isDecimal, value and Read of package ratio. -/
import Derived.Test.YtnbkphklidjmhaaDoorT
namespace Go.Proofs.YtnbkphklidjmhaaDoor
open Go.RowKit

def isDig (c : UInt8) : Bool := decide (48 ≤ c.toNat ∧ c.toNat ≤ 57)
def allDig (l : List UInt8) : Bool := l.all isDig
def isDec (l : List UInt8) : Bool := !l.isEmpty && !(l.head? == some 48 && decide (1 < l.length)) && allDig l

theorem take_snoc (s : ByteArray) (k : Nat) (h : k < s.size) : s.data.toList.take (k + 1) = s.data.toList.take k ++ [s[k]] := by
  rw [List.take_succ_eq_append_getElem (by simpa using h)]; rfl
theorem all_step (s : ByteArray) (k : Nat) (h : k < s.size) (hd : allDig (s.data.toList.take k) = true) (t1 : ¬ (s[k].toNat : Int) < 48) (t2 : ¬ 57 < (s[k].toNat : Int)) :
    allDig (s.data.toList.take (k + 1)) = true := by
  unfold allDig at hd ⊢
  rw [take_snoc s k h, List.all_append, hd]
  simp [isDig]; omega
theorem all_no (s : ByteArray) (k : Nat) (h : k < s.size) (t : (s[k].toNat : Int) < 48 ∨ 57 < (s[k].toNat : Int)) : allDig s.data.toList = false := by
  unfold allDig
  rw [List.all_eq_false]
  refine ⟨s[k], ?_, ?_⟩
  · exact List.getElem_mem (by simpa using h)
  · simp [isDig]; omega

theorem head_s (s : ByteArray) (h : 0 < s.size) : s.data.toList.head? = some s[0] := by
  rw [List.head?_eq_getElem?, List.getElem?_eq_getElem (by simpa using h)]; rfl
theorem byte_eq (c : UInt8) (n : Nat) (h : n < 256) : ((c.toNat : Int) == (n : Int)) = (c == UInt8.ofNat n) := by
  rw [Bool.eq_iff_iff]
  simp only [beq_iff_eq]
  constructor
  · intro e; apply UInt8.toNat_inj.1; simp; omega
  · intro e; rw [e]; simp; omega
theorem isDec_eq (s : ByteArray) (h : 0 < s.size) : isDec s.data.toList = (!(((s[0].toNat : Int) == 48) && decide (1 < s.size)) && allDig s.data.toList) := by
  have hn : s.data.toList.isEmpty = false := by
    cases hl : s.data.toList with
    | nil => rw [Lib.size_eq, hl] at h; simp at h
    | cons => rfl
  unfold isDec
  rw [hn, head_s s h, ← Lib.size_eq]
  have := byte_eq s[0] 48 (by omega)
  rw [show ((48 : Nat) : Int) = 48 from rfl] at this
  rw [this]; simp

set_option maxHeartbeats 400000 in
theorem isDecimal_loop (s : ByteArray) (w : World) (hs : s.size ≤ maxLen) (h0 : 0 < s.size) (e0 : s.toList.isEmpty = false) (b1 : ((s[0].toNat : Int) == 48) = false ∨ (s.size : Int) ≤ 1) :
    Calls Tryd.prog 53 #[.string s] w fun e w' => e = .returned (.bool (allDig s.data.toList)) ∧ w = w' := by
  unfold maxLen at hs
  cases hb : ((s[0].toNat : Int) == 48)
  · clear b1
    go_enter Tryd.func53, Tryd.ntmps53
    go_wp2
    go_loop [3, 18] (fun _ i => ∃ k : Nat, k ≤ s.size ∧ i = .int .i64 k ∧ Hid (allDig (s.data.toList.take k) = true)) (fun _ i => s.size - (intOf i).toNat)
    case atStart => exact ⟨0, Nat.zero_le _, rfl, Lib.hid (by simp [allDig])⟩
    case round =>
      obtain ⟨k, hk, rfl, hd⟩ := hrel
      by_cases hlt : k < s.size
      · have H1 := Lib.hid (all_step s k hlt hd.out)
        by_cases t1 : (s[k].toNat : Int) < 48
        · have H2 := Lib.hid (all_no s k hlt (Or.inl t1))
          go_wp2
          go_ret
          exact ⟨ret_bool H2.out.symm, rfl⟩
        by_cases t2 : 57 < (s[k].toNat : Int)
        · have H2 := Lib.hid (all_no s k hlt (Or.inr t2))
          go_wp2
          go_ret
          exact ⟨ret_bool H2.out.symm, rfl⟩
        have H3 := Lib.hid (H1.out t1 t2)
        go_wp2
        go_round
        case rel => exact ⟨k + 1, by omega, by go_num, H3⟩
        case measure => simp [intOf]; omega
      · have H4 := Lib.hid (show allDig s.data.toList = true by have := hd.out; rwa [List.take_of_length_le (by rw [← Lib.size_eq]; omega)] at this)
        go_wp2
        go_ret
        exact ⟨ret_bool H4.out.symm, rfl⟩
  · have b2 : (s.size : Int) ≤ 1 := by rcases b1 with h | h; (rw [hb] at h; cases h); exact h
    clear b1
    have b3 : decide ((1 : Int) < (s.size : Int)) = false := by simp; omega
    have b4 : decide (1 < s.size) = false := by simp; omega
    go_enter Tryd.func53, Tryd.ntmps53
    go_wp2
    go_loop [3, 18] (fun _ i => ∃ k : Nat, k ≤ s.size ∧ i = .int .i64 k ∧ Hid (allDig (s.data.toList.take k) = true)) (fun _ i => s.size - (intOf i).toNat)
    case atStart => exact ⟨0, Nat.zero_le _, rfl, Lib.hid (by simp [allDig])⟩
    case round =>
      obtain ⟨k, hk, rfl, hd⟩ := hrel
      by_cases hlt : k < s.size
      · have H1 := Lib.hid (all_step s k hlt hd.out)
        by_cases t1 : (s[k].toNat : Int) < 48
        · have H2 := Lib.hid (all_no s k hlt (Or.inl t1))
          go_wp2
          go_ret
          exact ⟨ret_bool H2.out.symm, rfl⟩
        by_cases t2 : 57 < (s[k].toNat : Int)
        · have H2 := Lib.hid (all_no s k hlt (Or.inr t2))
          go_wp2
          go_ret
          exact ⟨ret_bool H2.out.symm, rfl⟩
        have H3 := Lib.hid (H1.out t1 t2)
        go_wp2
        go_round
        case rel => exact ⟨k + 1, by omega, by go_num, H3⟩
        case measure => simp [intOf]; omega
      · have H4 := Lib.hid (show allDig s.data.toList = true by have := hd.out; rwa [List.take_of_length_le (by rw [← Lib.size_eq]; omega)] at this)
        go_wp2
        go_ret
        exact ⟨ret_bool H4.out.symm, rfl⟩

set_option maxHeartbeats 400000 in
theorem isDecimal_any (s : ByteArray) (w : World) (hs : s.size ≤ maxLen) :
    Calls Tryd.prog 53 #[.string s] w fun e w' => e = .returned (.bool (isDec s.data.toList)) ∧ w = w' := by
  by_cases h0 : 0 < s.size
  · have e0 : s.toList.isEmpty = false := by
      rw [Lib.toList_data]
      cases hl : s.data.toList with
      | nil => rw [Lib.size_eq, hl] at h0; simp at h0
      | cons => rfl
    by_cases b1 : ((s[0].toNat : Int) == 48) = false ∨ (s.size : Int) ≤ 1
    · have e : isDec s.data.toList = allDig s.data.toList := by
        rw [isDec_eq s h0]
        rcases b1 with h | h
        · rw [h]; simp
        · rw [show decide (1 < s.size) = false by simp; omega]; simp
      rw [e]; exact isDecimal_loop s w hs h0 e0 b1
    · have b3 : (1 : Int) < (s.size : Int) := by omega
      have b2 : ((s[0].toNat : Int) == 48) = true := by
        cases h : ((s[0].toNat : Int) == 48)
        · exact absurd (Or.inl h) b1
        · rfl
      have e : isDec s.data.toList = false := by
        rw [isDec_eq s h0, b2, show decide (1 < s.size) = true by simp; omega]; simp
      have H := Lib.hid e
      unfold maxLen at hs
      clear e b1
      go_enter Tryd.func53, Tryd.ntmps53
      go_wp2
      go_ret
      exact ⟨ret_bool H.out.symm, rfl⟩
  · have e : s.data.toList = [] := List.eq_nil_of_length_eq_zero (by rw [← Lib.size_eq]; omega)
    have H := Lib.hid (show isDec s.data.toList = false by rw [e]; rfl)
    have e0 : s.toList = [] := by rw [Lib.toList_data, e]
    have e1 : s.toList.isEmpty = true := by rw [e0]; rfl
    clear e
    go_enter Tryd.func53, Tryd.ntmps53
    go_wp2
    go_ret
    exact ⟨ret_bool H.out.symm, rfl⟩

end Go.Proofs.YtnbkphklidjmhaaDoor
