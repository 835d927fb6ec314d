/- The contract of the statements' common part of layer 2: some calls return what the document says of them. -/
import Derived.Test.YtbcafamgmdngpaaDoorLi2
import Derived.Test.YtbcafamgmdngpaaDoorLi3
namespace Go.Proofs.YtbcafamgmdngpaaDoor
open Go.RowKit

theorem lshown1 (w : World) : Calls Tryd.prog 8 #[.int .i64 3] w (Still (.tuple #[.int .i64 7, .int .i64 0]) w) := by
  have h := weak_any 3 w
  rwa [show jnL 3 false = 7 by decide +kernel, show jnE 3 = 0 by decide +kernel] at h

theorem lshown2 (w : World) : Calls Tryd.prog 19 #[.int .i64 7, .int .i64 4] w (Still (.tuple #[.int .i64 10, .int .i64 0]) w) := by
  have h := limAdd_any 7 4 w (i64lit _ (by omega) (by omega)) (i64lit _ (by omega) (by omega))
  rwa [show adL 7 4 = 10 by decide +kernel, show adE 7 4 = 0 by decide +kernel] at h

theorem lshown3 (w : World) : Calls Tryd.prog 21 #[.int .i64 7] w (Still (.tuple #[.int .i64 (-6), .int .i64 0]) w) := by
  have h := limNot_any 7 w (i64lit _ (by omega) (by omega))
  rwa [show ntL 7 = -6 by decide +kernel, show spE 7 = 0 by decide +kernel] at h

theorem lshown4 (w : World) : Calls Tryd.prog 23 #[.agg #[.int .i64 3, .int .i64 1], .int .i64 6] w (Made (.tuple #[.bool false, .int .i64 0]) w) := by
  have h := limMeets_any 3 1 6 w (i64lit _ (by omega) (by omega)) (i64lit _ (by omega) (by omega)) (i64lit _ (by omega) (by omega))
  rwa [show meB 3 1 6 = false by decide +kernel, show meE 3 1 6 = 0 by decide +kernel] at h

theorem lshown5 (w : World) (hF : Fit w) : Calls Tryd.prog 14 #[.int .i64 (-5)] w (Made (.tuple #[.string ⟨#[60, 61, 45, 51]⟩, .int .i64 0]) w) := by
  have h := limText_any (-5) w hF (i64lit _ (by omega) (by omega))
  rwa [show liT (-5) = [60, 61, 45, 51] by
    rw [liT, show noB (-5) = false by decide +kernel, show lvB (-5) = true by decide +kernel, show evB (-5) = false by decide +kernel]
    simp [Lib.itoa, Lib.decDigits], show liE (-5) = 0 by decide +kernel] at h

theorem lshown6 (w : World) : Calls Tryd.prog 12 #[.int .i64 1099511627776] w (Still (.tuple #[.int .i64 0, .bool false, .int .i64 4]) w) := by
  have h := limSplit_any 1099511627776 w (i64lit _ (by omega) (by omega))
  rwa [show spC 1099511627776 = 0 by decide +kernel, show spS 1099511627776 = false by decide +kernel, show spE 1099511627776 = 4 by decide +kernel] at h

set_option maxRecDepth 100000 in
set_option maxHeartbeats 800000 in
theorem shown_any (w : World) (hF : Fit w) : Calls Tryd.prog 18 #[] w (Made (.bool true) w) := by
  have HF := Lib.hid hF
  clear hF
  go_enter Tryd.func18, Tryd.ntmps18
  go_wp2_with fail
  refine (lshown1 _).mono ?_
  rintro e w' ⟨rfl, rfl⟩
  go_wp2_with fail
  refine (lshown2 _).mono ?_
  rintro e w' ⟨rfl, rfl⟩
  go_wp2_with fail
  refine (lshown3 _).mono ?_
  rintro e w' ⟨rfl, rfl⟩
  go_wp2_with fail
  refine (lshown4 _).mono ?_
  rintro e w1 ⟨rfl, hB⟩
  go_wp2_with fail
  refine (lshown5 _ (HF.out.on hB)).mono ?_
  rintro e w2 ⟨rfl, hb⟩
  replace hB := below_on hB hb
  clear hb
  go_wp2_with fail
  refine (lshown6 _).mono ?_
  rintro e w3 ⟨rfl, rfl⟩
  go_wp2_with fail
  go_ret
  exact ⟨rfl, hB⟩
end Go.Proofs.YtbcafamgmdngpaaDoor
