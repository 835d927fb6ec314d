/- For every zone, all constraints and every point the law ZoneAnds of layer 3 returns true, and its arguments read afterwards as they read before. Conditions: none beyond the row's own. -/
import Derived.Test.YtbnebinpemejlaaHa6
import Derived.Test.YtbnebinpemejlaaHm1

namespace Go.Proofs.Ytbnebinpemejlaa
open Go.ChangeShapes Go.WideShapes Go.ChangeAt Go.RowKit Go.Joins Go.Deep

set_option maxRecDepth 100000 in
theorem ands_lifted (os : Os) (started : os.Started) (H : Type) (enc : TypeId × Value → H) :
    ReturnsInHanded {} Try.checked os 7 .any (Rows.zoneAndsSpec.pre6 enc Try.prog Try.f7 Rows.zoneAndsRow.domain false) (Rows.zoneAndsSpec.post enc Try.prog Try.f7 false true false false) := by
  refine returnsInHanded_of_change (C := Try.checked) Try.own started (by kernel_rfl) Try.func7
    (ChangeSpec.witness6 (enc := enc) (C := Try.checked) false ⟨#[], #[.agg #[.int .i64 0, .slice none 0 0, .int .i64 0, .int .i64 0, .int .i64 0, .slice none 0 0], .slice none 0 0], []⟩ 8 (by kernel_rfl) (by kernel_rfl) (by kernel_rfl) (by kernel_rfl)) ?_
  intro W base args ds gs before hval0 hW hcnd _
  have hval : ∀ (j : Nat) t v, Try.f7.params[j]? = some t → args[j]? = some v → Value.okWide Try.prog W .any base t v := hval0
  have hW' := hW
  obtain ⟨p, q, hA0, hV, rfl, hfz, hnd⟩ := hW
  have hA : DataW.TrodAll enc Try.prog W 0 (fun _ => true) true Try.f7.params.toList args.toList ds p := hA0
  rw [Try.params7] at hA hval
  obtain ⟨v1, v2, d1, d2, p1, p2, rfl, rfl, rfl, h1, h2⟩ := trodAll_two hA
  obtain ⟨N1, ao1, l1, cap1, i1, j1, c1, dao1, cs1, dc1, rfl, hN1, hi1, hj1, hc1, hA1, hl1, hn1, hD1, hdl1, hI1, hdn1⟩ := open_case (hval 0 37 v1 rfl rfl) h1
  obtain ⟨po2, ps2, pc2, rfl, hP2, hpl2, hF2, hm2⟩ := open_rats_arg (hval 1 48 v2 rfl rfl) h2
  clear hA0 hval0
  obtain ⟨rfl, rfl⟩ := trodVars_none hV
  refine (ands_any N1 l1 ao1 cap1 i1 j1 c1 cs1 dao1 dc1 ps2 po2 pc2 W hA1 hD1 hdn1 hP2 hF2 hm2).mono fun e W' ⟨he, hb⟩ => ?_
  subst he
  exact ⟨_, rfl, post_law hW' rfl hb (by decide +kernel) rfl rfl rfl rfl rfl rfl⟩

theorem ands_holds : Rows.ZoneAndsSaid :=
  OpenClaim.holds_of_wide 7 Try.f7 rfl rfl rfl rfl rfl rfl rfl ⟨rfl, rfl, rfl, rfl, rfl⟩ rfl rfl rfl rfl rfl (by kernel_rfl) Try.func7 (by kernel_rfl)
    (of_decide_eq_true (by kernel_rfl)) (by unfold Func.isWrapper; first | (rw [if_pos (by decide +kernel)]; kernel_rfl) | (rw [if_neg (by decide +kernel)]; exact ⟨rfl, rfl⟩))
    (fun os started H enc _ => ands_lifted os started H enc)

#print axioms ands_holds
end Go.Proofs.Ytbnebinpemejlaa
