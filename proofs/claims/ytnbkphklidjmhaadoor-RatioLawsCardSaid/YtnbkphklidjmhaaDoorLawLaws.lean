/- RatioLaws: for every three ratios, valid or not: if all are valid, sums and products are commutative, associative and distributive as far as no result is out of range, Sub undoes Add and Div undoes Mul, Cmp agrees with the sign of the difference, and Read of Text is the ratio; the statement's function returns true and the arguments read as before. Conditions: none beyond the row's own (the three listed tables of the library hold what the program's text lays). -/
import Derived.Test.YtnbkphklidjmhaaDoorK
import Derived.Test.YtnbkphklidjmhaaDoorL1
import Derived.Test.YtnbkphklidjmhaaDoorL2
import Derived.Test.YtnbkphklidjmhaaDoorL3
import Derived.Test.YtnbkphklidjmhaaDoorL4
namespace Go.Proofs.YtnbkphklidjmhaaDoor.Laws
open Go.Proofs.YtnbkphklidjmhaaDoor
open Go.ChangeShapes Go.WideShapes Go.ChangeAt Go.RowKit Go.Joins

theorem walk (n d m c k l : Int) (w : World) (hF : Fit w) (hn : I64 n) (hd : I64 d) (hm : I64 m) (hc : I64 c) (hk : I64 k) (hl : I64 l) :
    Calls Tryd.prog 7 #[.agg #[.int .i64 n, .int .i64 d], .agg #[.int .i64 m, .int .i64 c], .agg #[.int .i64 k, .int .i64 l]] w (Made (.bool true) w) := by
  cases v1 : vldB n d
  · exact walk_no1 n d m c k l w hF hn hd hm hc hk hl v1
  cases v2 : vldB m c
  · exact walk_no2 n d m c k l w hF hn hd hm hc hk hl v1 v2
  cases v3 : vldB k l
  · exact walk_no3 n d m c k l w hF hn hd hm hc hk hl v1 v2 v3
  obtain ⟨P1, Q1, E1, i1⟩ := Is.any (vldB n d && vldB m c) (n * c + m * d) (d * c)
  obtain ⟨P2, Q2, E2, i2⟩ := Is.any (vldB n d && vldB m c) (n * m) (d * c)
  obtain ⟨P3, Q3, E3, i3⟩ := Is.any (vldB n d && vldB m c) (n * c - m * d) (d * c)
  by_cases e1 : E1 = 0
  · by_cases e2 : E2 = 0
    · by_cases m0 : m = 0
      · exact walk_yz n d m c k l w hF hn hd hm hc hk hl v1 v2 v3 i1 i2 i3 e1 e2 m0
      · exact walk_yy n d m c k l w hF hn hd hm hc hk hl v1 v2 v3 i1 i2 i3 e1 e2 m0
    · exact walk_yn n d m c k l w hF hn hd hm hc hk hl v1 v2 v3 i1 i2 i3 e1 e2
  · by_cases e2 : E2 = 0
    · by_cases m0 : m = 0
      · exact walk_nz n d m c k l w hF hn hd hm hc hk hl v1 v2 v3 i1 i2 i3 e1 e2 m0
      · exact walk_ny n d m c k l w hF hn hd hm hc hk hl v1 v2 v3 i1 i2 i3 e1 e2 m0
    · exact walk_nn n d m c k l w hF hn hd hm hc hk hl v1 v2 v3 i1 i2 i3 e1 e2

set_option maxRecDepth 100000 in
theorem lifted (os : Os) (started : os.Started) (H : Type) (enc : TypeId × Value → H) :
    ReturnsInHanded {} Tryd.checked os 7 .any (fun w args => (Rows.ratioLawsSpec.pre enc Tryd.prog Tryd.f7 [] false w args ∧ laidMetH Tryd.prog laid3 w) ∧ sizedMet enc Tryd.prog Tryd.f7 (OpenSpec.ofChange Rows.ratioLawsSpec) false w args)
      (Rows.ratioLawsSpec.post enc Tryd.prog Tryd.f7 false true false false) := by
  refine returns_laid_shaped (C := Tryd.checked) (X := fun w _ => laidMetH Tryd.prog laid3 w) (fun _ _ _ hh h => h.of_heap hh) own started (by kernel_rfl) Tryd.func7
    (ChangeSpec.witness_shaped (enc := enc) (C := Tryd.checked) (os := os) (X := fun w _ => laidMetH Tryd.prog laid3 w) false (World.doorLaid Tryd.prog 400 os) #[.agg #[.int .i64 0, .int .i64 0], .agg #[.int .i64 0, .int .i64 0], .agg #[.int .i64 0, .int .i64 0]] 8 rfl (World.shaped_of_RefB (by kernel_rfl) (by kernel_rfl)) (by kernel_rfl) (by kernel_rfl) (by kernel_rfl) (door_met os _)) ?_
  intro W base args ds gs before hval0 hW _ _ hL hsh
  have hF := fit_of hL hsh
  have hval : ∀ (j : Nat) t v, Tryd.f7.params[j]? = some t → args[j]? = some v → Value.okWide Tryd.prog W .any base t v := hval0
  have hW' := hW
  obtain ⟨p, q, hA0, hV, rfl, hfz, hnd⟩ := hW
  have hA : DataW.TrodAll enc Tryd.prog W 0 (fun _ => true) true Tryd.f7.params.toList args.toList ds p := hA0
  rw [Tryd.params7] at hA hval
  obtain ⟨v0, v1, v2, d0, d1, d2, p0, p1, p2, rfl, rfl, rfl, h0, h1, h2⟩ := trodAll_three hA
  obtain ⟨rfl, rfl⟩ := trodVars_none hV
  obtain ⟨c00, c01, y00, y01, m0, rfl, rfl, rfl, hy00, hy01⟩ := open_agg2 Tryd.underlying23 (by kernel_rfl) Tryd.cells23 (hval 0 23 v0 rfl rfl) h0
  obtain ⟨a00, e00, rfl, wa00⟩ := DataW.trod_int Tryd.underlying2 hy00
  obtain ⟨a01, e01, rfl, wa01⟩ := DataW.trod_int Tryd.underlying2 hy01
  simp at e00 e01
  subst e00 e01
  obtain ⟨c10, c11, y10, y11, m1, rfl, rfl, rfl, hy10, hy11⟩ := open_agg2 Tryd.underlying23 (by kernel_rfl) Tryd.cells23 (hval 1 23 v1 rfl rfl) h1
  obtain ⟨a10, e10, rfl, wa10⟩ := DataW.trod_int Tryd.underlying2 hy10
  obtain ⟨a11, e11, rfl, wa11⟩ := DataW.trod_int Tryd.underlying2 hy11
  simp at e10 e11
  subst e10 e11
  obtain ⟨c20, c21, y20, y21, m2, rfl, rfl, rfl, hy20, hy21⟩ := open_agg2 Tryd.underlying23 (by kernel_rfl) Tryd.cells23 (hval 2 23 v2 rfl rfl) h2
  obtain ⟨a20, e20, rfl, wa20⟩ := DataW.trod_int Tryd.underlying2 hy20
  obtain ⟨a21, e21, rfl, wa21⟩ := DataW.trod_int Tryd.underlying2 hy21
  simp at e20 e21
  subst e20 e21
  clear hA0 hval0
  simp only [List.append_nil] at hW'
  refine (walk a00 a01 a10 a11 a20 a21 W hF (bounds_i64 wa00) (bounds_i64 wa01) (bounds_i64 wa10) (bounds_i64 wa11) (bounds_i64 wa20) (bounds_i64 wa21)).mono fun e W' ⟨he, hb⟩ => ?_
  subst he
  have r0 : ∀ (sp : Nat → Bool), DataW.Trod enc Tryd.prog W' 0 sp true 23 (.agg #[.int .i64 a00, .int .i64 a01]) (.agg [.lit (.int .i64 a00), .lit (.int .i64 a01)]) [] := fun sp =>
    shut_agg2 (y0 := (.lit (.int .i64 a00), [])) (y1 := (.lit (.int .i64 a01), [])) Tryd.underlying23 (by kernel_rfl) Tryd.cells23 ⟨1, by simp [DataW.trod, Tryd.underlying2, wa00]⟩ ⟨1, by simp [DataW.trod, Tryd.underlying2, wa01]⟩
  have r1 : ∀ (sp : Nat → Bool), DataW.Trod enc Tryd.prog W' 0 sp true 23 (.agg #[.int .i64 a10, .int .i64 a11]) (.agg [.lit (.int .i64 a10), .lit (.int .i64 a11)]) [] := fun sp =>
    shut_agg2 (y0 := (.lit (.int .i64 a10), [])) (y1 := (.lit (.int .i64 a11), [])) Tryd.underlying23 (by kernel_rfl) Tryd.cells23 ⟨1, by simp [DataW.trod, Tryd.underlying2, wa10]⟩ ⟨1, by simp [DataW.trod, Tryd.underlying2, wa11]⟩
  have r2 : ∀ (sp : Nat → Bool), DataW.Trod enc Tryd.prog W' 0 sp true 23 (.agg #[.int .i64 a20, .int .i64 a21]) (.agg [.lit (.int .i64 a20), .lit (.int .i64 a21)]) [] := fun sp =>
    shut_agg2 (y0 := (.lit (.int .i64 a20), [])) (y1 := (.lit (.int .i64 a21), [])) Tryd.underlying23 (by kernel_rfl) Tryd.cells23 ⟨1, by simp [DataW.trod, Tryd.underlying2, wa20]⟩ ⟨1, by simp [DataW.trod, Tryd.underlying2, wa21]⟩
  exact ⟨_, rfl, post_made hW' hb (fun _ _ _ => trodAll_mk1 (shut_bool Tryd.underlying4 _)) (fun sp => trodAll_mk3 (r0 sp) (r1 sp) (r2 sp)) (fun _ => rfl) (ok_one (by kernel_rfl) rfl (okWide_bool_mk Tryd.underlying4 _))⟩

theorem said : Rows.RatioLawsSaid :=
  OpenClaim.holds_of_wide 7 Tryd.f7 rfl rfl rfl rfl rfl rfl rfl ⟨rfl, rfl, rfl, rfl, rfl⟩ rfl rfl rfl rfl rfl (by kernel_rfl) Tryd.func7 (by kernel_rfl)
    (of_decide_eq_true (by kernel_rfl)) (by unfold Func.isWrapper; first | (rw [if_pos (by decide +kernel)]; kernel_rfl) | (rw [if_neg (by decide +kernel)]; exact ⟨rfl, rfl⟩))
    (fun os started H enc _ => lifted os started H enc)

theorem proved : Rows.RatioLawsCardSaid :=
  Claim7.holds_tied_plain_at .later [] [.data, .data, .data] true (true, "37b220b99fbac8cdeffc3cfbaf41194bd7baedb872a775bac3f445b2fae09ae0") false
    said (fun _ h => by cases h) (by kernel_rfl) (fun _ h => by cases h) ratioLaws_row_tie rfl ⟨rfl, rfl⟩ (by kernel_rfl) rfl
    (fun f fn hf hfn => by
      obtain rfl : f = 7 := Option.some.inj ((show Tryd.prog.funcNamed "foliot/foliotlaw01.RatioLaws" = some 7 by kernel_rfl).symm.trans hf) |>.symm
      obtain rfl : fn = Tryd.f7 := (Option.some.inj (Tryd.func7.symm.trans hfn)).symm
      exact ⟨by kernel_rfl, fun j t ht => by
        rw [Tryd.params7] at ht
        have hm : t ∈ [23] := by have := Array.mem_of_getElem? ht; simp at this ⊢; omega
        have hall : ([23].all fun u => !Tryd.prog.wantsStandIn u) = true := by kernel_rfl
        exact (show Tryd.prog.wantsStandIn t = false by simpa using List.all_eq_true.1 hall t hm)⟩)
    (by kernel_rfl)
#print axioms proved
end Go.Proofs.YtnbkphklidjmhaaDoor.Laws
