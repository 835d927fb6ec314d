/- For every dimension, two lists of lines and a row of integers (and whatever else a Case holds) the law PolyMakes of layer 7 returns true, and its argument reads afterwards as it read before. Conditions: none beyond the row's own. -/
import Derived.Test.YtbhaoaobhgilkaaGreatWm48
import Derived.Test.YtbhaoaobhgilkaaGreatWm49

namespace Go.Proofs.YtbhaoaobhgilkaaGreat
open Go.ChangeShapes Go.WideShapes Go.ChangeAt Go.RowKit Go.Joins Go.Deep

set_option maxRecDepth 100000 in
theorem polyMakes_lifted (os : Os) (started : os.Started) (H : Type) (enc : TypeId × Value → H) :
    ReturnsInHanded {} Tryz.checked os 5 .any (Rows.polyMakesSpec.pre6 enc Tryz.prog Tryz.f5 Rows.polyMakesRow.domain false) (Rows.polyMakesSpec.post enc Tryz.prog Tryz.f5 false true false false) := by
  refine returnsInHanded_of_change (C := Tryz.checked) Tryz.own started (by kernel_rfl) Tryz.func5
    (ChangeSpec.witness6 (enc := enc) (C := Tryz.checked) false ⟨#[], #[.agg #[.int .i64 0, .slice none 0 0, .slice none 0 0, .slice none 0 0, .int .i64 0, .bool false, .int .i64 0, .slice none 0 0, .slice none 0 0]], []⟩ 8 (by kernel_rfl) (by kernel_rfl) (by kernel_rfl) (by kernel_rfl)) ?_
  intro W base args ds gs before hval0 hW hcnd _
  have hval : ∀ (j : Nat) t v, Tryz.f5.params[j]? = some t → args[j]? = some v → Value.okWide Tryz.prog W .any base t v := hval0
  have hW' := hW
  obtain ⟨p, q, hA0, hV, rfl, hfz, hnd⟩ := hW
  have hA : DataW.TrodAll enc Tryz.prog W 0 (fun _ => true) true Tryz.f5.params.toList args.toList ds p := hA0
  rw [Tryz.params5] at hA hval
  obtain ⟨v1, d1, rfl, rfl, h1⟩ := trodAll_one hA
  obtain ⟨N, I, L, M, X, P, A, la, ma, pa, aq, lc, mc, pc, ac, rfl, hN, hI, ⟨hL, hLl, hLi, hLn⟩, ⟨hM, hMl, hMi, hMn⟩, hX, ⟨hP, hPl, hPi, hPn⟩, ⟨hA1, hAn, hAl, hAm, hAi⟩⟩ := open_case (hval 0 28 v1 rfl rfl) h1
  clear hA0 hval0
  obtain ⟨rfl, rfl⟩ := trodVars_none hV
  refine (makes_law N I X.b X.s L M X.a A P la ma X.q pa aq lc mc X.c pc ac W hL hM (fun y hy => (hLi y hy).2.1) (fun y hy => (hMi y hy).2.1) hLn hA1 hAn).mono fun e W' ⟨he, hb⟩ => ?_
  subst he
  exact ⟨_, rfl, post_law hW' rfl hb (by decide +kernel) rfl rfl rfl rfl rfl rfl⟩

theorem polyMakes_holds : Rows.PolyMakesSaid :=
  OpenClaim.holds_of_wide 5 Tryz.f5 rfl rfl rfl rfl rfl rfl rfl ⟨rfl, rfl, rfl, rfl, rfl⟩ rfl rfl rfl rfl rfl (by kernel_rfl) Tryz.func5 (by kernel_rfl)
    (of_decide_eq_true (by kernel_rfl)) (by unfold Func.isWrapper; first | (rw [if_pos (by decide +kernel)]; kernel_rfl) | (rw [if_neg (by decide +kernel)]; exact ⟨rfl, rfl⟩))
    (fun os started H enc _ => polyMakes_lifted os started H enc)

#print axioms polyMakes_holds
end Go.Proofs.YtbhaoaobhgilkaaGreat
