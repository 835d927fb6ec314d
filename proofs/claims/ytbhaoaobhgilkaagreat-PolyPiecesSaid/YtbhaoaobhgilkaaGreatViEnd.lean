/- For every dimension, two lists of lines and a point (and whatever else a Case holds) the law PolyPieces of layer 7 returns true, and its argument reads afterwards as it read before. Conditions: none beyond the row's own. -/
import Derived.Test.YtbhaoaobhgilkaaGreatVi48
import Derived.Test.YtbhaoaobhgilkaaGreatVi49

namespace Go.Proofs.YtbhaoaobhgilkaaGreat
open Go.ChangeShapes Go.WideShapes Go.ChangeAt Go.RowKit Go.Joins Go.Deep

set_option maxRecDepth 100000 in
theorem polyPieces_lifted (os : Os) (started : os.Started) (H : Type) (enc : TypeId × Value → H) :
    ReturnsInHanded {} Tryz.checked os 7 .any (Rows.polyPiecesSpec.pre6 enc Tryz.prog Tryz.f7 Rows.polyPiecesRow.domain false) (Rows.polyPiecesSpec.post enc Tryz.prog Tryz.f7 false true false false) := by
  refine returnsInHanded_of_change (C := Tryz.checked) Tryz.own started (by kernel_rfl) Tryz.func7
    (ChangeSpec.witness6 (enc := enc) (C := Tryz.checked) false ⟨#[], #[.agg #[.int .i64 0, .slice none 0 0, .slice none 0 0, .slice none 0 0, .int .i64 0, .bool false, .int .i64 0, .slice none 0 0, .slice none 0 0]], []⟩ 8 (by kernel_rfl) (by kernel_rfl) (by kernel_rfl) (by kernel_rfl)) ?_
  intro W base args ds gs before hval0 hW hcnd _
  have hval : ∀ (j : Nat) t v, Tryz.f7.params[j]? = some t → args[j]? = some v → Value.okWide Tryz.prog W .any base t v := hval0
  have hW' := hW
  obtain ⟨p, q, hA0, hV, rfl, hfz, hnd⟩ := hW
  have hA : DataW.TrodAll enc Tryz.prog W 0 (fun _ => true) true Tryz.f7.params.toList args.toList ds p := hA0
  rw [Tryz.params7] at hA hval
  obtain ⟨v1, d1, rfl, rfl, h1⟩ := trodAll_one hA
  obtain ⟨N, I, L, M, X, P, A, la, ma, pa, aq, lc, mc, pc, ac, rfl, hN, hI, ⟨hL, hLl, hLi, hLn⟩, ⟨hM, hMl, hMi, hMn⟩, hX, ⟨hP, hPl, hPi, hPn⟩, ⟨hA1, hAn, hAl, hAm, hAi⟩⟩ := open_case (hval 0 28 v1 rfl rfl) h1
  clear hA0 hval0
  obtain ⟨rfl, rfl⟩ := trodVars_none hV
  refine (piecesL_any N I X.b X.s L M X.a A P la ma X.q pa aq lc mc X.c pc ac W hL hM (fun y hy => ⟨(hLi y hy).2.2.1, (hLi y hy).2.2.2⟩) (fun y hy => ⟨(hMi y hy).2.2.1, (hMi y hy).2.2.2⟩) hP (fun t ht => by unfold gp; rw [List.getD_eq_getElem?_getD, List.getElem?_eq_getElem ht]; exact hPi _ (List.getElem_mem _))).mono fun e W' ⟨he, hb⟩ => ?_
  subst he
  exact ⟨_, rfl, post_law hW' rfl hb (by decide +kernel) rfl rfl rfl rfl rfl rfl⟩

theorem polyPieces_holds : Rows.PolyPiecesSaid :=
  OpenClaim.holds_of_wide 7 Tryz.f7 rfl rfl rfl rfl rfl rfl rfl ⟨rfl, rfl, rfl, rfl, rfl⟩ rfl rfl rfl rfl rfl (by kernel_rfl) Tryz.func7 (by kernel_rfl)
    (of_decide_eq_true (by kernel_rfl)) (by unfold Func.isWrapper; first | (rw [if_pos (by decide +kernel)]; kernel_rfl) | (rw [if_neg (by decide +kernel)]; exact ⟨rfl, rfl⟩))
    (fun os started H enc _ => polyPieces_lifted os started H enc)

#print axioms polyPieces_holds
end Go.Proofs.YtbhaoaobhgilkaaGreat
