/- The contracts of the reference's decimal and Text. -/
import Derived.Test.YtbcafamgmdngpaaDoorRaTxt
import Derived.Test.YtbcafamgmdngpaaDoorRa2
namespace Go.Proofs.YtbcafamgmdngpaaDoor
open Go.RowKit

/-- What is still to be written: the digits of k ahead of s. -/
def remD (k : Nat) (s : List UInt8) : List UInt8 := if k = 0 ∧ s ≠ [] then s else Lib.decDigits k ++ s

theorem remD_step (k : Nat) (s : List UInt8) (h : 0 < k ∨ s = []) : remD (k / 10) (UInt8.ofNat (48 + k % 10) :: s) = remD k s := by
  unfold remD
  rw [if_neg (show ¬ (k = 0 ∧ s ≠ []) from fun h' => by rcases h with h | h; omega; exact h'.2 h)]
  by_cases hk : k < 10
  · rw [if_pos ⟨by omega, by simp⟩]
    rw [Lib.decDigits, dif_pos hk, show k % 10 = k by omega]; rfl
  · rw [if_neg (by omega)]
    conv => rhs; rw [Lib.decDigits, dif_neg hk]
    simp

theorem remD_end (s : List UInt8) (h : s ≠ []) : remD 0 s = s := by unfold remD; rw [if_pos ⟨rfl, h⟩]

/-- 'string([]byte{c})'. -/
theorem one_byte (w : World) (c : UInt8) (v : Int) (h : v = (c.toNat : Int)) :
    (convert 69 9 (.slice (some ⟨w.heap.size, 0, none⟩) 1 1)).run Tryd.prog (w.alloc (.cells #[.int .u8 v] 5)) = .ok (.string ⟨#[c]⟩) (w.alloc (.cells #[.int .u8 v] 5)) := by
  subst h
  refine run_convert_bytes_back (P := Tryd.prog) (w.alloc (.cells #[.int .u8 (c.toNat : Int)] 5)) 69 9 5 ⟨w.heap.size, 0, none⟩ 1 [c] Tryd.underlying69 Tryd.underlying5 Tryd.underlying9 ?_
  intro j hj
  have : j = 0 := by simpa using hj
  subst this
  exact cell_one_new w _ 5 0 _ rfl

theorem dig_byte (K : Nat) : (48 : Int) + (K : Int) % 10 = ((UInt8.ofNat (48 + K % 10)).toNat : Int) := by
  simp; omega

theorem remD_len (k : Nat) (s : List UInt8) : s.length ≤ (remD k s).length := by unfold remD; split <;> simp

set_option maxHeartbeats 800000 in
theorem decimal_any (n : Int) (w : World) (hn : I64 n) :
    Calls Tryd.prog 40 #[.int .i64 n] w (Made (.string ⟨(Lib.itoa n).toArray⟩) w) := by
  have a1 := hn.1
  have a2 := hn.2
  have hlen : (Lib.decDigits n.natAbs).length ≤ 21 := by
    have := Lib.itoa_length_le n a1 a2
    unfold Lib.itoa at this
    split at this
    · simp at this; omega
    · rwa [show n.toNat = n.natAbs by omega] at this
  go_enter Tryd.func40, Tryd.ntmps40
  go_wp2_with fail
  refine (size_any _ _ (by omega) (by omega)).mono ?_
  rintro e w1 ⟨rfl, rfl⟩
  have hU : n.natAbs < 18446744073709551616 := by omega
  go_wp2_with fail
  go_loopw [3, 4] (fun s k wr => ∃ (l : List UInt8) (K : Nat), s = .string ⟨l.toArray⟩ ∧ k = .int .u64 K ∧ K < 18446744073709551616 ∧ l.length ≤ 21 ∧ Hid (remD K l = Lib.decDigits n.natAbs) ∧ Hid (Below w1.heap.size w1 wr)) (fun s k _ => (intOf k).toNat + (match s with | .string b => if b.size = 0 then 1 else 0 | _ => 0))
  case atStart => exact ⟨[], n.natAbs, rfl, rfl, hU, by simp, Lib.hid (by unfold remD; rw [if_neg (by simp)]; simp), Lib.hid (Below.refl _ _)⟩
  case round =>
    obtain ⟨l, K, rfl, rfl, hK, hll, hr, hbw⟩ := hrel
    by_cases hk0 : K = 0
    · subst hk0
      by_cases hl0 : l = []
      · subst hl0
        have hcv := one_byte wr 48 48 rfl
        have H1 := Lib.hid (remD_step 0 [] (Or.inr rfl))
        have H2 := Lib.hid (show remD 0 [48] = Lib.decDigits n.natAbs by rw [← hr.out, ← H1.out]; rfl)
        go_wp2_with fail
        go_roundw
        case rel => exact ⟨[48], 0, by rw [show (⟨#[]⟩ : ByteArray) = ⟨([] : List UInt8).toArray⟩ from rfl, cat1], rfl, by omega, by simp, H2, Lib.hid (hbw.out.alloc hbw.out.size _)⟩
        case measure => rw [show (⟨#[]⟩ : ByteArray) = ⟨([] : List UInt8).toArray⟩ from rfl, cat1]; simp [intOf, ByteArray.size]
      · have e0 : l.isEmpty = false := by simpa using hl0
        have HR := Lib.hid ((remD_end l hl0).symm.trans hr.out)
        by_cases hneg : n < 0
        · go_wp2_with fail
          go_ret
          exact ⟨ret_str (by rw [itoa_min hneg, ← HR.out]; exact cat1 45 l), hbw.out⟩
        · go_wp2_with fail
          go_ret
          exact ⟨ret_str (by rw [itoa_pos (by omega), ← HR.out]), hbw.out⟩
    · obtain ⟨c, hc⟩ : ∃ c : UInt8, c = UInt8.ofNat (48 + K % 10) := ⟨_, rfl⟩
      have hcv := one_byte wr c (48 + (K : Int) % 10) (by rw [hc]; exact dig_byte K)
      have H2 := Lib.hid (show remD (K / 10) (c :: l) = Lib.decDigits n.natAbs by rw [← hr.out, hc]; exact remD_step K l (Or.inl (by omega)))
      have hkp : 0 < K := by omega
      have hl2 : (c :: l).length ≤ 21 := by have := remD_len (K / 10) (c :: l); rw [H2.out] at this; omega
      clear hc
      go_wp2_with fail
      go_roundw
      case rel => exact ⟨c :: l, K / 10, by rw [cat1], rfl, by omega, hl2, H2, Lib.hid (hbw.out.alloc hbw.out.size _)⟩
      case measure => rw [cat1]; simp [intOf, ByteArray.size]; omega

theorem cat2 (a b : List UInt8) : ((⟨a.toArray⟩ : ByteArray) ++ ⟨#[47]⟩) ++ ⟨b.toArray⟩ = ⟨(a ++ 47 :: b).toArray⟩ := by
  apply ByteArray.ext
  simp

set_option maxHeartbeats 400000 in
theorem refText_any (n d : Int) (w : World) (hn : I64 n) (hd : I64 d) :
    Calls Tryd.prog 31 #[.agg #[.int .i64 n, .int .i64 d]] w (Made (.tuple #[.string ⟨(txt n d).toArray⟩, .int .i64 (okErr (vldB n d))]) w) := by
  by_cases hv : vldB n d = true
  · have V := Lib.hid hv
    by_cases h1 : d = 1
    · subst h1
      have H := Lib.hid (show txt n 1 = Lib.itoa n ∧ okErr (vldB n 1) = 0 by simp [txt, okErr, hv])
      clear hv
      go_enter Tryd.func31, Tryd.ntmps31
      go_wp2_with fail
      refine (refValid_as _ hn hd V.out).mono ?_
      rintro e w1 ⟨rfl, hb⟩
      obtain ⟨hx, hf⟩ := bcell hb
      go_wp2_with fail
      refine (decimal_any _ _ hn).mono ?_
      rintro e w2 ⟨rfl, hb2⟩
      go_wp2_with fail
      go_ret2
      exact ⟨ret_text2 (by rw [H.out.1]) H.out.2.symm, below_on (past_one hb) hb2⟩
    · have H := Lib.hid (show txt n d = Lib.itoa n ++ (47 :: Lib.itoa d) ∧ okErr (vldB n d) = 0 by simp [txt, okErr, hv, h1])
      clear hv
      have D1 : (d == 1) = false := by simpa using h1
      have l1 := Lib.itoa_length_le n hn.1 hn.2
      have l2 := Lib.itoa_length_le d hd.1 hd.2
      have c1 := fun W => decimal_any n W hn
      have c2 := fun W => decimal_any d W hd
      generalize Lib.itoa n = sn at *
      generalize Lib.itoa d = sd at *
      have l3 : (sn.length : Int) ≤ 21 := by omega
      have l4 : (sd.length : Int) ≤ 21 := by omega
      have k1 := cat_run ⟨sn.toArray⟩ ⟨#[47]⟩ (by rw [sizeL]; show sn.length + 1 ≤ 1000; omega)
      have k2 := cat_run (⟨sn.toArray⟩ ++ ⟨#[47]⟩) ⟨sd.toArray⟩ (by rw [ByteArray.size_append, sizeL, sizeL]; show sn.length + 1 + sd.length ≤ 1000; omega)
      have C1 := Lib.hid c1
      have C2 := Lib.hid c2
      clear c1 c2
      go_enter Tryd.func31, Tryd.ntmps31
      go_wp2_with fail
      refine (refValid_as _ hn hd V.out).mono ?_
      rintro e w1 ⟨rfl, hb⟩
      have hB := past_one hb
      have pA := (Pair.made w n d 37).kept hb
      clear hb
      obtain ⟨fA0, fA1, fA2, fA3⟩ := pA.facts
      go_wp2_with fail
      have HS := Lib.hid (show ∀ w1' w2' : World, Below w1'.heap.size w1' w2' → (w1'.cell? ⟨w.heap.size, 0, none⟩ = some (.int .i64 n) ∧ w1'.cell? ⟨w.heap.size, 1, none⟩ = some (.int .i64 d)) → (w2'.cell? ⟨w.heap.size, 0, none⟩ = some (.int .i64 n) ∧ w2'.cell? ⟨w.heap.size, 1, none⟩ = some (.int .i64 d)) from
        fun _ _ hb ⟨h0, h1⟩ => ⟨kept hb h0, kept hb h1⟩)
      go_region_held3 (fun w' => w'.cell? ⟨w.heap.size, 0, none⟩ = some (.int .i64 n) ∧ w'.cell? ⟨w.heap.size, 1, none⟩ = some (.int .i64 d)) (first | go_keep | exact HS.out _ _ hb2 (by assumption) | exact HS.out _ _ hb3 (by assumption))
        (first | (go_at_call_of 40 (Value.int IntKind.i64 n); refine (C1.out _).mono ?_; rintro e w2 ⟨rfl, hb2⟩) | (go_at_call_of 40 (Value.int IntKind.i64 d); refine (C2.out _).mono ?_; rintro e w3 ⟨rfl, hb3⟩))
      have hx : Below w1.heap.size w1 w3 := ((Below.refl w1.heap.size w1).drew.trans hb2).trans (hb3.mono hb2.size)
      go_wp2_with fail
      go_ret2
      exact ⟨ret_text2 (by rw [H.out.1]; exact cat2 sn sd) H.out.2.symm, below_on hB hx⟩
  · have hv' : vldB n d = false := by simpa using hv
    have V := Lib.hid hv'
    have H := Lib.hid (show txt n d = [] ∧ okErr (vldB n d) = 2 by simp [txt, okErr, hv'])
    clear hv hv'
    go_enter Tryd.func31, Tryd.ntmps31
    go_wp2_with fail
    refine (refValid_as _ hn hd V.out).mono ?_
    rintro e w1 ⟨rfl, hb⟩
    go_wp2_with fail
    go_ret2
    exact ⟨by rw [H.out.1, H.out.2]; rfl, past_one hb⟩
end Go.Proofs.YtbcafamgmdngpaaDoor
