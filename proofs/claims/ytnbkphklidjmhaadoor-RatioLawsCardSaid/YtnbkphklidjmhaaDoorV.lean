/- The contract of value, of package ratio. -/
import Derived.Test.YtnbkphklidjmhaaDoorU
namespace Go.Proofs.YtnbkphklidjmhaaDoor
open Go.RowKit

def valOf (l : List UInt8) : Int := l.foldl (fun n c => 10 * n + ((c.toNat : Int) - 48)) 0
def valB (l : List UInt8) : Bool := decide (valOf l ≤ 9223372036854775807)
def valI (l : List UInt8) : Int := if valB l then valOf l else 0

theorem valOf_snoc (l : List UInt8) (c : UInt8) : valOf (l ++ [c]) = 10 * valOf l + ((c.toNat : Int) - 48) := by
  unfold valOf; rw [List.foldl_append]; rfl
theorem fold_ge (r : List UInt8) (hr : allDig r = true) : ∀ a : Int, 0 ≤ a → a ≤ r.foldl (fun n c => 10 * n + ((c.toNat : Int) - 48)) a := by
  induction r with
  | nil => intro a _; exact Int.le_refl _
  | cons c r ih =>
    intro a ha
    unfold allDig at hr
    simp [isDig] at hr
    have := ih (by unfold allDig; simp [isDig]; exact hr.2) (10 * a + ((c.toNat : Int) - 48)) (by omega)
    simp only [List.foldl_cons]
    omega
theorem valOf_nonneg (l : List UInt8) (h : allDig l = true) : 0 ≤ valOf l := fold_ge l h 0 (Int.le_refl _)
theorem allDig_append (a b : List UInt8) : allDig (a ++ b) = (allDig a && allDig b) := by unfold allDig; rw [List.all_append]
theorem valOf_ge (a b : List UInt8) (h : allDig (a ++ b) = true) : valOf a ≤ valOf (a ++ b) := by
  rw [allDig_append] at h
  simp at h
  have := fold_ge b h.2 (valOf a) (valOf_nonneg a h.1)
  unfold valOf at *
  rw [List.foldl_append]; exact this
theorem dig_at (s : ByteArray) (k : Nat) (h : k < s.size) (hd : allDig s.data.toList = true) : 48 ≤ (s[k].toNat : Int) ∧ (s[k].toNat : Int) ≤ 57 := by
  unfold allDig at hd
  rw [List.all_eq_true] at hd
  have := hd s[k] (List.getElem_mem (by simpa using h))
  simp [isDig] at this
  omega
theorem ret_pair {a c : Int} {b d : Bool} (h : a = c) (g : b = d) : Ending.returned (.tuple #[.int .i64 a, .bool b]) = .returned (.tuple #[.int .i64 c, .bool d]) := by rw [h, g]

set_option maxHeartbeats 400000 in
theorem value_any (s : ByteArray) (w : World) (hs : s.size ≤ maxLen) (hd : allDig s.data.toList = true) :
    Calls Tryd.prog 54 #[.string s] w fun e w' => e = .returned (.tuple #[.int .i64 (valI s.data.toList), .bool (valB s.data.toList)]) ∧ w = w' := by
  unfold maxLen at hs
  have HD := Lib.hid hd
  clear hd
  go_enter Tryd.func54, Tryd.ntmps54
  go_wp2
  go_loop [4, 5, 6, 9] (fun n _ _ i => ∃ k : Nat, k ≤ s.size ∧ i = .int .i64 k ∧ ∃ v : Int, 0 ≤ v ∧ v ≤ 9223372036854775807 ∧ n = .int .i64 v ∧ Hid (v = valOf (s.data.toList.take k))) (fun _ _ _ i => s.size - (intOf i).toNat)
  case atStart => exact ⟨0, Nat.zero_le _, rfl, 0, by omega, by omega, rfl, Lib.hid rfl⟩
  case round =>
    obtain ⟨k, hk, rfl, v, v0, v1, rfl, hv⟩ := hrel
    by_cases hlt : k < s.size
    · obtain ⟨c1, c2⟩ := dig_at s k hlt HD.out
      have HS := Lib.hid (valOf_snoc (s.data.toList.take k) s[k])
      have HT := Lib.hid (take_snoc s k hlt)
      have HM := Lib.hid (valOf_ge (s.data.toList.take (k + 1)) (s.data.toList.drop (k + 1)) (by rw [List.take_append_drop]; exact HD.out))
      by_cases hov : (9223372036854775807 - ((s[k].toNat : Int) - 48)) / 10 < v
      · have HB : Hid (valB s.data.toList = false) := Lib.hid (by
          unfold valB; have h1 := HM.out; rw [List.take_append_drop, HT.out, HS.out, ← hv.out] at h1; simp; omega)
        have HI : Hid (valI s.data.toList = 0) := Lib.hid (by unfold valI; rw [HB.out]; rfl)
        go_wp2
        go_ret2
        exact ⟨ret_pair HI.out.symm HB.out.symm, rfl⟩
      · have HN : Hid (10 * v + ((s[k].toNat : Int) - 48) = valOf (s.data.toList.take (k + 1))) := Lib.hid (by rw [HT.out, HS.out, hv.out])
        have hle : 10 * v + ((s[k].toNat : Int) - 48) ≤ 9223372036854775807 := by omega
        go_wp2
        go_round
        case rel => exact ⟨k + 1, by omega, by go_num, _, by omega, hle, rfl, HN⟩
        case measure => simp [intOf]; omega
    · have e : s.data.toList.take k = s.data.toList := List.take_of_length_le (by rw [← Lib.size_eq]; omega)
      have HB : Hid (valB s.data.toList = true) := Lib.hid (by unfold valB; rw [← e, ← hv.out]; simpa using v1)
      have HI : Hid (valI s.data.toList = v) := Lib.hid (by unfold valI; rw [HB.out, hv.out, e]; rfl)
      clear e
      go_wp2
      go_ret2
      exact ⟨ret_pair HI.out.symm HB.out.symm, rfl⟩
end Go.Proofs.YtnbkphklidjmhaaDoor
