/- For every two lists of zones the law FederationWithins of layer 5 returns true, and both read afterwards as they read before. Conditions: none beyond the row's own. -/
import Derived.Test.YtaegiihkgicdnaaGreatWt49
import Derived.Test.YtaegiihkgicdnaaGreatWt48

namespace Go.Proofs.YtaegiihkgicdnaaGreat
open Go.ChangeShapes Go.WideShapes Go.ChangeAt Go.RowKit Go.Joins Go.Deep

set_option maxRecDepth 100000 in
theorem fwithins_lifted (os : Os) (started : os.Started) (H : Type) (enc : TypeId × Value → H) :
    ReturnsInHanded {} Tryz.checked os 5 .any (Rows.federationWithinsSpec.pre6 enc Tryz.prog Tryz.f5 Rows.federationWithinsRow.domain false) (Rows.federationWithinsSpec.post enc Tryz.prog Tryz.f5 false true false false) := by
  refine returnsInHanded_of_change (C := Tryz.checked) Tryz.own started (by kernel_rfl) Tryz.func5
    (ChangeSpec.witness6 (enc := enc) (C := Tryz.checked) false ⟨#[], #[.slice none 0 0, .slice none 0 0], []⟩ 8 (by kernel_rfl) (by kernel_rfl) (by kernel_rfl) (by kernel_rfl)) ?_
  intro W base args ds gs before hval0 hW hcnd _
  have hval : ∀ (j : Nat) t v, Tryz.f5.params[j]? = some t → args[j]? = some v → Value.okWide Tryz.prog W .any base t v := hval0
  have hW' := hW
  obtain ⟨p, q, hA0, hV, rfl, hfz, hnd⟩ := hW
  have hA : DataW.TrodAll enc Tryz.prog W 0 (fun _ => true) true Tryz.f5.params.toList args.toList ds p := hA0
  rw [Tryz.params5] at hA hval
  obtain ⟨v1, v2, d1, d2, p1, p2, rfl, rfl, rfl, h1, h2⟩ := trodAll_two hA
  obtain ⟨ao1, L1, cap1, rfl, hR1, hn1, hb1, hz1, hc1⟩ := open_zones_arg (hval 0 22 v1 rfl rfl) h1
  obtain ⟨ao2, L2, cap2, rfl, hR2, hn2, hb2, hz2, hc2⟩ := open_zones_arg (hval 1 22 v2 rfl rfl) h2
  clear hA0 hval0
  obtain ⟨rfl, rfl⟩ := trodVars_none hV
  refine (withins_any L1 L2 ao1 ao2 cap1 cap2 W hR1 hR2 hn1 hn2 hb1 hb2 hz1 hz2 hc2).mono fun e W' ⟨he, hb⟩ => ?_
  subst he
  exact ⟨_, rfl, post_law hW' rfl hb (by decide +kernel) rfl rfl rfl rfl rfl rfl⟩

theorem fwithins_holds : Rows.FederationWithinsSaid :=
  OpenClaim.holds_of_wide 5 Tryz.f5 rfl rfl rfl rfl rfl rfl rfl ⟨rfl, rfl, rfl, rfl, rfl⟩ rfl rfl rfl rfl rfl (by kernel_rfl) Tryz.func5 (by kernel_rfl)
    (of_decide_eq_true (by kernel_rfl)) (by unfold Func.isWrapper; first | (rw [if_pos (by decide +kernel)]; kernel_rfl) | (rw [if_neg (by decide +kernel)]; exact ⟨rfl, rfl⟩))
    (fun os started H enc _ => fwithins_lifted os started H enc)

#print axioms fwithins_holds
end Go.Proofs.YtaegiihkgicdnaaGreat
