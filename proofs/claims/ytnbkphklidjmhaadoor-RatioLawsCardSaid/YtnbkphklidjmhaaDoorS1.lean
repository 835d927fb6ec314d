/- The contract of the reference's decimal. -/
import Derived.Test.YtnbkphklidjmhaaDoorX
namespace Go.Proofs.YtnbkphklidjmhaaDoor
open Go.RowKit

/-- What is still to be written: the digits of k ahead of s. -/
def remD (k : Nat) (s : List UInt8) : List UInt8 := if k = 0 ∧ s ≠ [] then s else Lib.decDigits k ++ s
theorem remD_step (k : Nat) (s : List UInt8) (h : 0 < k ∨ s = []) : remD (k / 10) (UInt8.ofNat (48 + k % 10) :: s) = remD k s := by
  unfold remD
  rw [if_neg (show ¬ (k = 0 ∧ s ≠ []) from fun h' => by rcases h with h | h; omega; exact h'.2 h)]
  by_cases hk : k < 10
  · rw [if_pos ⟨by omega, by simp⟩]
    rw [Lib.decDigits, dif_pos hk, show k % 10 = k by omega]; rfl
  · rw [if_neg (by omega)]
    conv => rhs; rw [Lib.decDigits, dif_neg hk]
    simp
theorem remD_end (s : List UInt8) (h : s ≠ []) : remD 0 s = s := by unfold remD; rw [if_pos ⟨rfl, h⟩]

/-- 'string([]byte{c})'. -/
theorem one_byte (w : World) (c : UInt8) (v : Int) (h : v = (c.toNat : Int)) :
    (convert 52 9 (.slice (some ⟨w.heap.size, 0, none⟩) 1 1)).run Tryd.prog (w.alloc (.cells #[.int .u8 v] 5)) = .ok (.string ⟨#[c]⟩) (w.alloc (.cells #[.int .u8 v] 5)) := by
  subst h
  refine run_convert_bytes_back (P := Tryd.prog) (w.alloc (.cells #[.int .u8 (c.toNat : Int)] 5)) 52 9 5 ⟨w.heap.size, 0, none⟩ 1 [c] Tryd.underlying52 Tryd.underlying5 Tryd.underlying9 ?_
  intro j hj
  have : j = 0 := by simpa using hj
  subst this
  exact cell_one_new w _ 5 0 _ rfl
theorem cat1 (c : UInt8) (l : List UInt8) : (⟨#[c]⟩ : ByteArray) ++ ⟨l.toArray⟩ = ⟨(c :: l).toArray⟩ := by
  apply ByteArray.ext
  simp
theorem dig_byte (K : Nat) : (48 : Int) + (K : Int) % 10 = ((UInt8.ofNat (48 + K % 10)).toNat : Int) := by
  simp; omega
theorem itoa_pos {n : Int} (h : 0 ≤ n) : Lib.itoa n = Lib.decDigits n.natAbs := by unfold Lib.itoa; rw [if_neg (by omega)]; congr 1; omega
theorem itoa_min {n : Int} (h : n < 0) : Lib.itoa n = 45 :: Lib.decDigits n.natAbs := by unfold Lib.itoa; rw [if_pos h]
theorem remD_len (k : Nat) (s : List UInt8) : s.length ≤ (remD k s).length := by unfold remD; split <;> simp
theorem ret_str {a b : ByteArray} (h : a = b) : Ending.returned (.string a) = .returned (.string b) := by rw [h]

set_option maxHeartbeats 800000 in
theorem decimal_any (n : Int) (w : World) (hn : I64 n) :
    Calls Tryd.prog 50 #[.int .i64 n] w (Made (.string ⟨(Lib.itoa n).toArray⟩) w) := by
  have a1 := hn.1
  have a2 := hn.2
  have hlen : (Lib.decDigits n.natAbs).length ≤ 21 := by
    have := Lib.itoa_length_le n a1 a2
    unfold Lib.itoa at this
    split at this
    · simp at this; omega
    · rwa [show n.toNat = n.natAbs by omega] at this
  go_enter Tryd.func50, Tryd.ntmps50
  go_wp2_with fail
  refine (size_any _ _ (by omega) (by omega)).mono ?_
  rintro e w1 ⟨rfl, rfl⟩
  have hU : n.natAbs < 18446744073709551616 := by omega
  go_wp2_with fail
  go_loopw [3, 4] (fun s k wr => ∃ (l : List UInt8) (K : Nat), s = .string ⟨l.toArray⟩ ∧ k = .int .u64 K ∧ K < 18446744073709551616 ∧ l.length ≤ 21 ∧ Hid (remD K l = Lib.decDigits n.natAbs) ∧ Hid (Below w1.heap.size w1 wr)) (fun s k _ => (intOf k).toNat + (match s with | .string b => if b.size = 0 then 1 else 0 | _ => 0))
  case atStart => exact ⟨[], n.natAbs, rfl, rfl, hU, by simp, Lib.hid (by unfold remD; rw [if_neg (by simp)]; simp), Lib.hid (Below.refl _ _)⟩
  case round =>
    obtain ⟨l, K, rfl, rfl, hK, hll, hr, hbw⟩ := hrel
    by_cases hk0 : K = 0
    · subst hk0
      by_cases hl0 : l = []
      · subst hl0
        have hcv := one_byte wr 48 48 rfl
        have H1 := Lib.hid (remD_step 0 [] (Or.inr rfl))
        have H2 := Lib.hid (show remD 0 [48] = Lib.decDigits n.natAbs by rw [← hr.out, ← H1.out]; rfl)
        go_wp2_with fail
        go_roundw
        case rel => exact ⟨[48], 0, by rw [show (⟨#[]⟩ : ByteArray) = ⟨([] : List UInt8).toArray⟩ from rfl, cat1], rfl, by omega, by simp, H2, Lib.hid (hbw.out.alloc hbw.out.size _)⟩
        case measure => rw [show (⟨#[]⟩ : ByteArray) = ⟨([] : List UInt8).toArray⟩ from rfl, cat1]; simp [intOf, ByteArray.size]
      · have e0 : l.isEmpty = false := by simpa using hl0
        have HR := Lib.hid ((remD_end l hl0).symm.trans hr.out)
        by_cases hneg : n < 0
        · go_wp2_with fail
          go_ret
          exact ⟨ret_str (by rw [itoa_min hneg, ← HR.out]; exact cat1 45 l), hbw.out⟩
        · go_wp2_with fail
          go_ret
          exact ⟨ret_str (by rw [itoa_pos (by omega), ← HR.out]), hbw.out⟩
    · obtain ⟨c, hc⟩ : ∃ c : UInt8, c = UInt8.ofNat (48 + K % 10) := ⟨_, rfl⟩
      have hcv := one_byte wr c (48 + (K : Int) % 10) (by rw [hc]; exact dig_byte K)
      have H2 := Lib.hid (show remD (K / 10) (c :: l) = Lib.decDigits n.natAbs by rw [← hr.out, hc]; exact remD_step K l (Or.inl (by omega)))
      have hkp : 0 < K := by omega
      have hl2 : (c :: l).length ≤ 21 := by have := remD_len (K / 10) (c :: l); rw [H2.out] at this; omega
      clear hc
      go_wp2_with fail
      go_roundw
      case rel => exact ⟨c :: l, K / 10, by rw [cat1], rfl, by omega, hl2, H2, Lib.hid (hbw.out.alloc hbw.out.size _)⟩
      case measure => rw [cat1]; simp [intOf, ByteArray.size]; omega
end Go.Proofs.YtnbkphklidjmhaaDoor
