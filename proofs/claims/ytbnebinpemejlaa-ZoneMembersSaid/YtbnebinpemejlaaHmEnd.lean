/- For every two zones, clocks, constant, constraints and every point the law ZoneMembers of layer 3 returns true, and its arguments read afterwards as they read before. Conditions: none beyond the row's own. -/
import Derived.Test.YtbnebinpemejlaaHm6
import Derived.Test.YtbnebinpemejlaaHm1

namespace Go.Proofs.Ytbnebinpemejlaa
open Go.ChangeShapes Go.WideShapes Go.ChangeAt Go.RowKit Go.Joins Go.Deep

set_option maxRecDepth 100000 in
theorem members_lifted (os : Os) (started : os.Started) (H : Type) (enc : TypeId × Value → H) :
    ReturnsInHanded {} Try.checked os 6 .any (Rows.zoneMembersSpec.pre6 enc Try.prog Try.f6 Rows.zoneMembersRow.domain false) (Rows.zoneMembersSpec.post enc Try.prog Try.f6 false true false false) := by
  refine returnsInHanded_of_change (C := Try.checked) Try.own started (by kernel_rfl) Try.func6
    (ChangeSpec.witness6 (enc := enc) (C := Try.checked) false ⟨#[], #[.agg #[.int .i64 0, .slice none 0 0, .int .i64 0, .int .i64 0, .int .i64 0, .slice none 0 0], .agg #[.int .i64 0, .slice none 0 0], .slice none 0 0], []⟩ 8 (by kernel_rfl) (by kernel_rfl) (by kernel_rfl) (by kernel_rfl)) ?_
  intro W base args ds gs before hval0 hW hcnd _
  have hval : ∀ (j : Nat) t v, Try.f6.params[j]? = some t → args[j]? = some v → Value.okWide Try.prog W .any base t v := hval0
  have hW' := hW
  obtain ⟨p, q, hA0, hV, rfl, hfz, hnd⟩ := hW
  have hA : DataW.TrodAll enc Try.prog W 0 (fun _ => true) true Try.f6.params.toList args.toList ds p := hA0
  rw [Try.params6] at hA hval
  obtain ⟨v1, v2, v3, d1, d2, d3, p1, p2, p3, rfl, rfl, rfl, h1, h2, h3⟩ := trodAll_three hA
  obtain ⟨N1, ao1, l1, cap1, i1, j1, c1, dao1, cs1, dc1, rfl, hN1, hi1, hj1, hc1, hA1, hl1, hn1, hD1, hdl1, hI1, hdn1⟩ := open_case (hval 0 37 v1 rfl rfl) h1
  obtain ⟨N2, ao2, l2, cap2, rfl, hN2, hA2, hl2, hn2⟩ := open_zone2 (hval 1 25 v2 rfl rfl) h2
  obtain ⟨po3, ps3, pc3, rfl, hP3, hpl3, hF3, hm3⟩ := open_rats_arg (hval 2 48 v3 rfl rfl) h3
  clear hA0 hval0
  obtain ⟨rfl, rfl⟩ := trodVars_none hV
  refine (members_any N1 l1 ao1 cap1 i1 j1 c1 dao1 cs1.length dc1 N2 l2 ao2 cap2 ps3 po3 pc3 W hA1 hA2 hP3 hF3 hm3).mono fun e W' ⟨he, hb⟩ => ?_
  subst he
  exact ⟨_, rfl, post_law hW' rfl hb (by decide +kernel) rfl rfl rfl rfl rfl rfl⟩

theorem members_holds : Rows.ZoneMembersSaid :=
  OpenClaim.holds_of_wide 6 Try.f6 rfl rfl rfl rfl rfl rfl rfl ⟨rfl, rfl, rfl, rfl, rfl⟩ rfl rfl rfl rfl rfl (by kernel_rfl) Try.func6 (by kernel_rfl)
    (of_decide_eq_true (by kernel_rfl)) (by unfold Func.isWrapper; first | (rw [if_pos (by decide +kernel)]; kernel_rfl) | (rw [if_neg (by decide +kernel)]; exact ⟨rfl, rfl⟩))
    (fun os started H enc _ => members_lifted os started H enc)

#print axioms members_holds
end Go.Proofs.Ytbnebinpemejlaa
