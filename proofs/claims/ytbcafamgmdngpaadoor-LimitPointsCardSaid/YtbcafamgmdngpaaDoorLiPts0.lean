/- What the walks of LimitPoints have in common. -/
import Derived.Test.YtbcafamgmdngpaaDoorK
import Derived.Test.YtbcafamgmdngpaaDoorLi4
import Derived.Test.YtbcafamgmdngpaaDoorLiMath3
import Derived.Deep.DeepCutAuto
namespace Go.Proofs.YtbcafamgmdngpaaDoor.LiPoints
open Go.Proofs.YtbcafamgmdngpaaDoor
open Go.ChangeShapes Go.WideShapes Go.ChangeAt Go.RowKit Go.Joins

theorem _root_.Go.Proofs.YtbcafamgmdngpaaDoor.Pair.cast_block {w : World} {b b' : Nat} {x y : Int} (h : Pair w b x y) (e : b = b') : Pair w b' x y := e ▸ h

/-- A valid ratio, a limit: what Meets returns. -/
theorem meets_as {n d l : Int} {t : Bool} (W : World) (v : vldB n d = true) (hl : I64 l) (vl : lvB l = true) (h : meB n d l = t) : Calls Tryd.prog 23 #[.agg #[.int .i64 n, .int .i64 d], .int .i64 l] W (Made (.tuple #[.bool t, .int .i64 0]) W) := by
  obtain ⟨x1, x2, x3, x4⟩ := vld_bd v
  have g := limMeets_any n d l W (by unfold I64; omega) (by unfold I64; omega) hl
  rwa [h, show meE n d l = 0 by simp [meE, v, vl]] at g
end Go.Proofs.YtbcafamgmdngpaaDoor.LiPoints
