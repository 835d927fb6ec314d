/- For every zone, all lists of constants and all points the law WidenAlike of layer 6 returns true, and its arguments read afterwards as they read before. Conditions: none beyond the row's own. -/
import Derived.Test.YtgdcclldgfcilaaHw7
import Derived.Test.YtgdcclldgfcilaaHw8

namespace Go.Proofs.Ytgdcclldgfcilaa
open Go.ChangeShapes Go.WideShapes Go.ChangeAt Go.RowKit Go.Joins Go.Deep

set_option maxRecDepth 100000 in
theorem widenalike_lifted (os : Os) (started : os.Started) (H : Type) (enc : TypeId × Value → H) :
    ReturnsInHanded {} Try.checked os 3 .any (Rows.widenAlikeSpec.pre6 enc Try.prog Try.f3 Rows.widenAlikeRow.domain false) (Rows.widenAlikeSpec.post enc Try.prog Try.f3 false true false false) := by
  refine returnsInHanded_of_change (C := Try.checked) Try.own started (by kernel_rfl) Try.func3
    (ChangeSpec.witness6 (enc := enc) (C := Try.checked) false ⟨#[], #[.agg #[.int .i64 0, .slice none 0 0], .slice none 0 0, .slice none 0 0], []⟩ 8 (by kernel_rfl) (by kernel_rfl) (by kernel_rfl) (by kernel_rfl)) ?_
  intro W base args ds gs before hval0 hW hcnd _
  have hval : ∀ (j : Nat) t v, Try.f3.params[j]? = some t → args[j]? = some v → Value.okWide Try.prog W .any base t v := hval0
  have hW' := hW
  obtain ⟨p, q, hA0, hV, rfl, hfz, hnd⟩ := hW
  have hA : DataW.TrodAll enc Try.prog W 0 (fun _ => true) true Try.f3.params.toList args.toList ds p := hA0
  rw [Try.params3] at hA hval
  obtain ⟨v1, v2, v3, d1, d2, d3, p1, p2, p3, rfl, rfl, rfl, h1, h2, h3⟩ := trodAll_three hA
  obtain ⟨N1, ao1, l1, cap1, rfl, hN1, hA1, hl1, hn1⟩ := open_zone2 (hval 0 24 v1 rfl rfl) h1
  obtain ⟨ao2, l2, cap2, rfl, hA2, hl2, hn2, hi2⟩ := open_consts_arg (hval 1 25 v2 rfl rfl) h2
  obtain ⟨po3, ps3, pc3, rfl, hP3, hpl3, hF3, hm3⟩ := open_rats_arg (hval 2 26 v3 rfl rfl) h3
  clear hA0 hval0
  obtain ⟨rfl, rfl⟩ := trodVars_none hV
  refine (widenalike_any N1 l1 l2 ao1 ao2 cap1 cap2 ps3 po3 pc3 W hA1 hA2 hn1 hn2 hP3 hF3).mono fun e W' ⟨he, hb⟩ => ?_
  subst he
  exact ⟨_, rfl, post_law hW' rfl hb (by decide +kernel) rfl rfl rfl rfl rfl rfl⟩

theorem widenalike_holds : Rows.WidenAlikeSaid :=
  OpenClaim.holds_of_wide 3 Try.f3 rfl rfl rfl rfl rfl rfl rfl ⟨rfl, rfl, rfl, rfl, rfl⟩ rfl rfl rfl rfl rfl (by kernel_rfl) Try.func3 (by kernel_rfl)
    (of_decide_eq_true (by kernel_rfl)) (by unfold Func.isWrapper; first | (rw [if_pos (by decide +kernel)]; kernel_rfl) | (rw [if_neg (by decide +kernel)]; exact ⟨rfl, rfl⟩))
    (fun os started H enc _ => widenalike_lifted os started H enc)

#print axioms widenalike_holds
end Go.Proofs.Ytgdcclldgfcilaa
