/- For every two lists of zones and every point the law FederationPoints of layer 5 returns true, and all three read afterwards as they read before. Conditions: none beyond the row's own. -/
import Derived.Test.YthjapmdfcbngmaaGreatWp49
import Derived.Test.YthjapmdfcbngmaaGreatWp41

namespace Go.Proofs.YthjapmdfcbngmaaGreat
open Go.ChangeShapes Go.WideShapes Go.ChangeAt Go.RowKit Go.Joins Go.Deep

set_option maxRecDepth 100000 in
theorem fpoints_lifted (os : Os) (started : os.Started) (H : Type) (enc : TypeId × Value → H) :
    ReturnsInHanded {} Tryz.checked os 6 .any (Rows.federationPointsSpec.pre6 enc Tryz.prog Tryz.f6 Rows.federationPointsRow.domain false) (Rows.federationPointsSpec.post enc Tryz.prog Tryz.f6 false true false false) := by
  refine returnsInHanded_of_change (C := Tryz.checked) Tryz.own started (by kernel_rfl) Tryz.func6
    (ChangeSpec.witness6 (enc := enc) (C := Tryz.checked) false ⟨#[], #[.slice none 0 0, .slice none 0 0, .slice none 0 0], []⟩ 8 (by kernel_rfl) (by kernel_rfl) (by kernel_rfl) (by kernel_rfl)) ?_
  intro W base args ds gs before hval0 hW hcnd _
  have hval : ∀ (j : Nat) t v, Tryz.f6.params[j]? = some t → args[j]? = some v → Value.okWide Tryz.prog W .any base t v := hval0
  have hW' := hW
  obtain ⟨p, q, hA0, hV, rfl, hfz, hnd⟩ := hW
  have hA : DataW.TrodAll enc Tryz.prog W 0 (fun _ => true) true Tryz.f6.params.toList args.toList ds p := hA0
  rw [Tryz.params6] at hA hval
  obtain ⟨v1, v2, v3, d1, d2, d3, p1, p2, p3, rfl, rfl, rfl, h1, h2, h3⟩ := trodAll_three hA
  obtain ⟨ao1, L1, cap1, rfl, hR1, hn1, hb1, hz1, hc1⟩ := open_zones_arg (hval 0 22 v1 rfl rfl) h1
  obtain ⟨ao2, L2, cap2, rfl, hR2, hn2, hb2, hz2, hc2⟩ := open_zones_arg (hval 1 22 v2 rfl rfl) h2
  obtain ⟨ao3, ps, cap3, rfl, hP3, hl3, hI3, hn3⟩ := open_rats_arg (hval 2 40 v3 rfl rfl) h3
  clear hA0 hval0
  obtain ⟨rfl, rfl⟩ := trodVars_none hV
  refine (points_any L1 L2 ao1 ao2 cap1 cap2 ps ao3 cap3 W hR1 hR2 hn1 hn2 hb1 hb2 hP3 hI3 (fun e => (hn3 e).2) (by unfold maxLen at hl3; omega)).mono fun e W' ⟨he, hb⟩ => ?_
  subst he
  exact ⟨_, rfl, post_law hW' rfl hb (by decide +kernel) rfl rfl rfl rfl rfl rfl⟩

theorem fpoints_holds : Rows.FederationPointsSaid :=
  OpenClaim.holds_of_wide 6 Tryz.f6 rfl rfl rfl rfl rfl rfl rfl ⟨rfl, rfl, rfl, rfl, rfl⟩ rfl rfl rfl rfl rfl (by kernel_rfl) Tryz.func6 (by kernel_rfl)
    (of_decide_eq_true (by kernel_rfl)) (by unfold Func.isWrapper; first | (rw [if_pos (by decide +kernel)]; kernel_rfl) | (rw [if_neg (by decide +kernel)]; exact ⟨rfl, rfl⟩))
    (fun os started H enc _ => fpoints_lifted os started H enc)

#print axioms fpoints_holds
end Go.Proofs.YthjapmdfcbngmaaGreat
