/- The contract of the statements' common part: some calls return what the document says of them. -/
import Derived.Test.YtnbkphklidjmhaaDoorW
namespace Go.Proofs.YtnbkphklidjmhaaDoor
open Go.RowKit

theorem i64lit (x : Int) (h1 : -9223372036854775808 ≤ x) (h2 : x ≤ 9223372036854775807) : I64 x := ⟨h1, h2⟩
theorem shown1 (w : World) : Calls Tryd.prog 9 #[.int .i64 6, .int .i64 (-4)] w (Made (.tuple #[.agg #[.int .i64 (-3), .int .i64 2], .int .i64 0]) w) := by
  have h := make_any 6 (-4) w (by omega) (by omega) (by omega) (by omega)
  rw [show mkNum 6 (-4) = -3 by decide +kernel, show mkDen 6 (-4) = 2 by decide +kernel, show mkErr 6 (-4) = 0 by decide +kernel] at h
  exact h
theorem shown2 (w : World) : Calls Tryd.prog 22 #[.agg #[.int .i64 1, .int .i64 2], .agg #[.int .i64 1, .int .i64 3]] w (Made (.tuple #[.agg #[.int .i64 5, .int .i64 6], .int .i64 0]) w) := by
  have h := add_any 1 2 1 3 w (i64lit _ (by omega) (by omega)) (i64lit _ (by omega) (by omega)) (i64lit _ (by omega) (by omega)) (i64lit _ (by omega) (by omega))
  rw [show opNum (vldB 1 2 && vldB 1 3) (1 * 3 + 1 * 2) (2 * 3) = 5 by decide +kernel, show opDen (vldB 1 2 && vldB 1 3) (1 * 3 + 1 * 2) (2 * 3) = 6 by decide +kernel, show opErr (vldB 1 2 && vldB 1 3) (1 * 3 + 1 * 2) (2 * 3) = 0 by decide +kernel] at h
  exact h
theorem shown3 (w : World) : Calls Tryd.prog 32 #[.agg #[.int .i64 1, .int .i64 3], .agg #[.int .i64 1, .int .i64 2]] w (Made (.tuple #[.agg #[.int .i64 2, .int .i64 5], .int .i64 0]) w) := by
  have h := middle_any 1 3 1 2 w (i64lit _ (by omega) (by omega)) (i64lit _ (by omega) (by omega)) (i64lit _ (by omega) (by omega)) (i64lit _ (by omega) (by omega))
  rw [show opNum (midB 1 3 1 2) (midX 1 3 1 2) (midY 1 3 1 2) = 2 by decide +kernel, show opDen (midB 1 3 1 2) (midX 1 3 1 2) (midY 1 3 1 2) = 5 by decide +kernel, show opErr (midB 1 3 1 2) (midX 1 3 1 2) (midY 1 3 1 2) = 0 by decide +kernel] at h
  exact h
theorem shown4 (w : World) (hF : Fit w) : Calls Tryd.prog 34 #[.agg #[.int .i64 (-3), .int .i64 2]] w (Made (.tuple #[.string ⟨#[45, 51, 47, 50]⟩, .int .i64 0]) w) := by
  have h := text_any (-3) 2 w hF (i64lit _ (by omega) (by omega)) (i64lit _ (by omega) (by omega))
  rw [show txt (-3) 2 = [45, 51, 47, 50] by
    rw [txt, show vldB (-3) 2 = true by decide +kernel]
    simp [Lib.itoa, Lib.decDigits], show okErr (vldB (-3) 2) = 0 by decide +kernel] at h
  exact h
theorem shown5 (w : World) (hF : Fit w) : Calls Tryd.prog 36 #[.string ⟨#[52, 47, 50]⟩] w (Made (.tuple #[.agg #[.int .i64 2, .int .i64 1], .int .i64 0]) w) := by
  have h := read_any ⟨#[52, 47, 50]⟩ w hF (by show 3 < 4294967281; omega)
  rw [show rdNum (⟨#[52, 47, 50]⟩ : ByteArray).data.toList = 2 by decide +kernel, show rdDen (⟨#[52, 47, 50]⟩ : ByteArray).data.toList = 1 by decide +kernel, show rdErr (⟨#[52, 47, 50]⟩ : ByteArray).data.toList = 0 by decide +kernel] at h
  exact h
theorem shown6 (w : World) (hF : Fit w) : Calls Tryd.prog 36 #[.string ⟨#[45, 48]⟩] w (Made (.tuple #[.agg #[.int .i64 0, .int .i64 0], .int .i64 6]) w) := by
  have h := read_any ⟨#[45, 48]⟩ w hF (by show 2 < 4294967281; omega)
  rw [show rdNum (⟨#[45, 48]⟩ : ByteArray).data.toList = 0 by decide +kernel, show rdDen (⟨#[45, 48]⟩ : ByteArray).data.toList = 0 by decide +kernel, show rdErr (⟨#[45, 48]⟩ : ByteArray).data.toList = 6 by decide +kernel] at h
  exact h

/-- What a world had it has behind a call that only makes memory; and so does a new block of two cells. -/
theorem kept {w1 w2 : World} (hb : Below w1.heap.size w1 w2) {p : Addr} {v : Value} (h : w1.cell? p = some v) : w2.cell? p = some v := by
  rw [hb.cell (World.block_lt_of_cell? w1 _ h)]; exact h
theorem one_more {w1 : World} (o : Obj) : Below w1.heap.size w1 (w1.alloc o) := (Below.refl _ _).alloc (Nat.le_refl _) o
theorem boxed {w1 w2 : World} {x y : Value} {t : TypeId} (hb : Below (w1.alloc (.cells #[x, y] t)).heap.size (w1.alloc (.cells #[x, y] t)) w2) :
    w2.cell? ⟨w1.heap.size, 0, none⟩ = some x ∧ w2.cell? ⟨w1.heap.size, 1, none⟩ = some y ∧ w1.heap.size + 1 ≤ w2.heap.size := by
  refine ⟨kept hb (by go_simp), kept hb (by go_simp), ?_⟩
  have := hb.size; simpa using this
theorem on_box {w w1 w2 : World} {o : Obj} (hB : Below w.heap.size w w1) (hb : Below (w1.alloc o).heap.size (w1.alloc o) w2) : Below w.heap.size w w2 :=
  below_on hB (past_one hb)

set_option maxRecDepth 100000 in
set_option maxHeartbeats 800000 in
theorem shown_any (w : World) (hF : Fit w) : Calls Tryd.prog 21 #[] w (Made (.bool true) w) := by
  have HF := Lib.hid hF
  clear hF
  go_enter Tryd.func21, Tryd.ntmps21
  go_wp2_with fail
  refine (shown1 _).mono ?_
  rintro e w1 ⟨rfl, hb1⟩
  go_wp2_with fail
  refine (shown2 _).mono ?_
  rintro e w2 ⟨rfl, hb2⟩
  obtain ⟨a0, a1, z1⟩ := boxed hb2
  have hB2 := on_box hb1 hb2
  go_wp2_with fail
  refine (shown3 _).mono ?_
  rintro e w3 ⟨rfl, hb3⟩
  obtain ⟨b0, b1, z2⟩ := boxed hb3
  replace a0 := kept (past_one hb3) a0
  replace a1 := kept (past_one hb3) a1
  have hB3 := on_box hB2 hb3
  clear hb1 hb2 hb3 hB2
  have z3 : w1.heap.size < w3.heap.size := by omega
  go_wp2_with fail
  refine (shown4 _ (HF.out.on (hB3.trans ((one_more _).mono hB3.size)))).mono ?_
  rintro e w4 ⟨rfl, hb4⟩
  obtain ⟨c0, c1, z4⟩ := boxed hb4
  replace a0 := kept (past_one hb4) a0
  replace a1 := kept (past_one hb4) a1
  replace b0 := kept (past_one hb4) b0
  replace b1 := kept (past_one hb4) b1
  have hB4 := on_box hB3 hb4
  clear hb4 hB3
  go_wp2_with fail
  refine (shown5 _ (HF.out.on hB4)).mono ?_
  rintro e w5 ⟨rfl, hb5⟩
  replace a0 := kept hb5 a0
  replace a1 := kept hb5 a1
  replace b0 := kept hb5 b0
  replace b1 := kept hb5 b1
  replace c0 := kept hb5 c0
  replace c1 := kept hb5 c1
  have z5 := hb5.size
  have hB5 := below_on hB4 hb5
  clear hb5 hB4
  have z6 : w1.heap.size < w5.heap.size := by omega
  have z7 : w2.heap.size < w5.heap.size := by omega
  have z8 : w3.heap.size < w5.heap.size := by omega
  go_wp2_with fail
  refine (shown6 _ (HF.out.on (hB5.trans ((one_more _).mono hB5.size)))).mono ?_
  rintro e w6 ⟨rfl, hb6⟩
  obtain ⟨d0, d1, z9⟩ := boxed hb6
  replace a0 := kept (past_one hb6) a0
  replace a1 := kept (past_one hb6) a1
  replace b0 := kept (past_one hb6) b0
  replace b1 := kept (past_one hb6) b1
  replace c0 := kept (past_one hb6) c0
  replace c1 := kept (past_one hb6) c1
  have hB6 := on_box hB5 hb6
  clear hb6 hB5
  have z10 : w1.heap.size < w6.heap.size := by omega
  have z11 : w2.heap.size < w6.heap.size := by omega
  have z12 : w3.heap.size < w6.heap.size := by omega
  have z13 : w5.heap.size < w6.heap.size := by omega
  go_wp2_with fail
  go_ret
  exact ⟨rfl, hB6.alloc hB6.size _⟩
end Go.Proofs.YtnbkphklidjmhaaDoor
