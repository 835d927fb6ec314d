/- The contract of the reference's Text. -/
import Derived.Test.YtnbkphklidjmhaaDoorS1
import Derived.Test.YtnbkphklidjmhaaDoorP
namespace Go.Proofs.YtnbkphklidjmhaaDoor
open Go.RowKit

theorem cat2 (a b : List UInt8) : ((⟨a.toArray⟩ : ByteArray) ++ ⟨#[47]⟩) ++ ⟨b.toArray⟩ = ⟨(a ++ 47 :: b).toArray⟩ := by
  apply ByteArray.ext
  simp
theorem ret_text2 {a b : ByteArray} {c d : Int} (h : a = b) (g : c = d) : Ending.returned (.tuple #[.string a, .int .i64 c]) = .returned (.tuple #[.string b, .int .i64 d]) := by rw [h, g]

theorem cat_run (a b : ByteArray) (h : a.size + b.size ≤ 1000) (w : World) : (Op.stringOp .add a b).run Tryd.prog w = .ok (.string (a ++ b)) w := run_string_add_sum w a b (by omega)

set_option maxHeartbeats 400000 in
theorem refText_any (n d : Int) (w : World) (hn : I64 n) (hd : I64 d) :
    Calls Tryd.prog 35 #[.agg #[.int .i64 n, .int .i64 d]] w (Made (.tuple #[.string ⟨(txt n d).toArray⟩, .int .i64 (okErr (vldB n d))]) w) := by
  by_cases hv : vldB n d = true
  · have V := Lib.hid hv
    by_cases h1 : d = 1
    · subst h1
      have H := Lib.hid (show txt n 1 = Lib.itoa n ∧ okErr (vldB n 1) = 0 by simp [txt, okErr, hv])
      clear hv
      go_enter Tryd.func35, Tryd.ntmps35
      go_wp2_with fail
      refine (refValid_as _ hn hd V.out).mono ?_
      rintro e w1 ⟨rfl, hb⟩
      obtain ⟨hx, hf⟩ := bcell hb
      go_wp2_with fail
      refine (decimal_any _ _ hn).mono ?_
      rintro e w2 ⟨rfl, hb2⟩
      go_wp2_with fail
      go_ret2
      exact ⟨ret_text2 (by rw [H.out.1]) H.out.2.symm, below_on (past_one hb) hb2⟩
    · have H := Lib.hid (show txt n d = Lib.itoa n ++ (47 :: Lib.itoa d) ∧ okErr (vldB n d) = 0 by simp [txt, okErr, hv, h1])
      clear hv
      have D1 : (d == 1) = false := by simpa using h1
      have l1 := Lib.itoa_length_le n hn.1 hn.2
      have l2 := Lib.itoa_length_le d hd.1 hd.2
      have c1 := fun W => decimal_any n W hn
      have c2 := fun W => decimal_any d W hd
      generalize Lib.itoa n = sn at *
      generalize Lib.itoa d = sd at *
      have l3 : (sn.length : Int) ≤ 21 := by omega
      have l4 : (sd.length : Int) ≤ 21 := by omega
      have k1 := cat_run ⟨sn.toArray⟩ ⟨#[47]⟩ (by rw [sizeL]; show sn.length + 1 ≤ 1000; omega)
      have k2 := cat_run (⟨sn.toArray⟩ ++ ⟨#[47]⟩) ⟨sd.toArray⟩ (by rw [ByteArray.size_append, sizeL, sizeL]; show sn.length + 1 + sd.length ≤ 1000; omega)
      have C1 := Lib.hid c1
      have C2 := Lib.hid c2
      clear c1 c2
      go_enter Tryd.func35, Tryd.ntmps35
      go_wp2_with fail
      refine (refValid_as _ hn hd V.out).mono ?_
      rintro e w1 ⟨rfl, hb⟩
      have hB := past_one hb
      have pA := (Pair.made w n d 23).kept hb
      clear hb
      obtain ⟨fA0, fA1, fA2, fA3⟩ := pA.facts
      go_wp2_with fail
      have HS := Lib.hid (show ∀ w1' w2' : World, Below w1'.heap.size w1' w2' → (w1'.cell? ⟨w.heap.size, 0, none⟩ = some (.int .i64 n) ∧ w1'.cell? ⟨w.heap.size, 1, none⟩ = some (.int .i64 d)) → (w2'.cell? ⟨w.heap.size, 0, none⟩ = some (.int .i64 n) ∧ w2'.cell? ⟨w.heap.size, 1, none⟩ = some (.int .i64 d)) from
        fun _ _ hb ⟨h0, h1⟩ => ⟨kept hb h0, kept hb h1⟩)
      go_region_held3 (fun w' => w'.cell? ⟨w.heap.size, 0, none⟩ = some (.int .i64 n) ∧ w'.cell? ⟨w.heap.size, 1, none⟩ = some (.int .i64 d)) (first | go_keep | exact HS.out _ _ hb2 (by assumption) | exact HS.out _ _ hb3 (by assumption))
        (first | (go_at_call_of 50 (Value.int IntKind.i64 n); refine (C1.out _).mono ?_; rintro e w2 ⟨rfl, hb2⟩) | (go_at_call_of 50 (Value.int IntKind.i64 d); refine (C2.out _).mono ?_; rintro e w3 ⟨rfl, hb3⟩))
      have hx : Below w1.heap.size w1 w3 := ((Below.refl w1.heap.size w1).drew.trans hb2).trans (hb3.mono hb2.size)
      go_wp2_with fail
      go_ret2
      exact ⟨ret_text2 (by rw [H.out.1]; exact cat2 sn sd) H.out.2.symm, below_on hB hx⟩
  · have hv' : vldB n d = false := by simpa using hv
    have V := Lib.hid hv'
    have H := Lib.hid (show txt n d = [] ∧ okErr (vldB n d) = 2 by simp [txt, okErr, hv'])
    clear hv hv'
    go_enter Tryd.func35, Tryd.ntmps35
    go_wp2_with fail
    refine (refValid_as _ hn hd V.out).mono ?_
    rintro e w1 ⟨rfl, hb⟩
    go_wp2_with fail
    go_ret2
    exact ⟨by rw [H.out.1, H.out.2]; rfl, past_one hb⟩
end Go.Proofs.YtnbkphklidjmhaaDoor
