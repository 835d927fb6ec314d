/- For every two lists of zones and every Race (a point and a delay) the law FederationRaces of layer 5 returns true, and all of them read afterwards as they read before. Conditions: none beyond the row's own. -/
import Derived.Test.YthjapmdfcbngmaaGreatWr49
import Derived.Test.YthjapmdfcbngmaaGreatWr40
namespace Go.Proofs.YthjapmdfcbngmaaGreat
open Go.ChangeShapes Go.WideShapes Go.ChangeAt Go.RowKit Go.Joins Go.Deep
set_option maxRecDepth 100000 in
theorem fraces_lifted (os : Os) (started : os.Started) (H : Type) (enc : TypeId × Value → H) :
  ReturnsInHanded {} Tryz.checked os 7 .any (Rows.federationRacesSpec.pre6 enc Tryz.prog Tryz.f7 Rows.federationRacesRow.domain false) (Rows.federationRacesSpec.post enc Tryz.prog Tryz.f7 false true false false) := by
 refine returnsInHanded_of_change (C := Tryz.checked) Tryz.own started (by kernel_rfl) Tryz.func7
  (ChangeSpec.witness6 (enc := enc) (C := Tryz.checked) false ⟨#[], #[.slice none 0 0, .slice none 0 0, .agg #[.slice none 0 0, .int .i64 0, .int .i64 0]], []⟩ 8 (by kernel_rfl) (by kernel_rfl) (by kernel_rfl) (by kernel_rfl)) ?_
 intro W base args ds gs before hval0 hW hcnd _
 have hval : ∀ (j : Nat) t v, Tryz.f7.params[j]? = some t → args[j]? = some v → Value.okWide Tryz.prog W .any base t v := hval0
 have hW' := hW
 obtain ⟨p, q, hA0, hV, rfl, hfz, hnd⟩ := hW
 have hA : DataW.TrodAll enc Tryz.prog W 0 (fun _ => true) true Tryz.f7.params.toList args.toList ds p := hA0
 rw [Tryz.params7] at hA hval
 obtain ⟨v1, v2, v3, d1, d2, d3, p1, p2, p3, rfl, rfl, rfl, h1, h2, h3⟩ := trodAll_three hA
 obtain ⟨ao1, L1, cap1, rfl, hR1, hn1, hb1, hz1, hc1⟩ := open_zones_arg (hval 0 22 v1 rfl rfl) h1
 obtain ⟨ao2, L2, cap2, rfl, hR2, hn2, hb2, hz2, hc2⟩ := open_zones_arg (hval 1 22 v2 rfl rfl) h2
 obtain ⟨ao3, ps, cap3, dn, dd, rfl, hP3, hl3, hI3, hn3, hdn, hdd⟩ := open_race (hval 2 47 v3 rfl rfl) h3
 clear hA0 hval0
 obtain ⟨rfl, rfl⟩ := trodVars_none hV
 refine (races_any L1 L2 ao1 ao2 cap1 cap2 ps ao3 cap3 dn dd W hR1 hR2 hn1 hn2 hb1 hb2 hP3 hI3 (fun e => (hn3 e).2) (by unfold maxLen at hl3; omega) hdn hdd).mono fun e W' ⟨he, hb⟩ => ?_
 subst he
 exact ⟨_, rfl, post_law hW' rfl hb (by decide +kernel) rfl rfl rfl rfl rfl rfl⟩
theorem fraces_holds : Rows.FederationRacesSaid :=
 OpenClaim.holds_of_wide 7 Tryz.f7 rfl rfl rfl rfl rfl rfl rfl ⟨rfl, rfl, rfl, rfl, rfl⟩ rfl rfl rfl rfl rfl (by kernel_rfl) Tryz.func7 (by kernel_rfl)
  (of_decide_eq_true (by kernel_rfl)) (by unfold Func.isWrapper; first | (rw [if_pos (by decide +kernel)]; kernel_rfl) | (rw [if_neg (by decide +kernel)]; exact ⟨rfl, rfl⟩))
  (fun os started H enc _ => fraces_lifted os started H enc)
#print axioms fraces_holds
end Go.Proofs.YthjapmdfcbngmaaGreat
