/- LimitMeets: for every ratio and every integer, valid or not, Meets of package limit returns what the reference returns, and the statement's function returns true; the arguments read as before. Conditions: none beyond the row's own (the three listed tables of the library hold what the program's text lays). -/
import Derived.Test.YtbcafamgmdngpaaDoorK
import Derived.Test.YtbcafamgmdngpaaDoorLi4
namespace Go.Proofs.YtbcafamgmdngpaaDoor.LiMeets
open Go.Proofs.YtbcafamgmdngpaaDoor
open Go.ChangeShapes Go.WideShapes Go.ChangeAt Go.RowKit Go.Joins

set_option maxRecDepth 100000 in
set_option maxHeartbeats 1600000 in
theorem walk (n d l : Int) (w : World) (hF : Fit w) (hn : I64 n) (hd : I64 d) (hl : I64 l) : Calls Tryd.prog 5 #[.agg #[.int .i64 n, .int .i64 d], .int .i64 l] w (Made (.bool true) w) := by
  have HF := Lib.hid hF
  have p0 := fun W => limMeets_any n d l W hn hd hl
  have q0 := fun W => refLimMeets_any n d l W hn hd hl
  generalize meB n d l = X0 at p0 q0
  generalize meE n d l = E0 at p0 q0
  have P0 := Lib.hid p0
  have Q0 := Lib.hid q0
  clear p0 q0 hF
  go_enter Tryd.func5, Tryd.ntmps5
  go_wp2_with fail
  refine (P0.out _).mono ?_
  rintro e w1 ⟨rfl, hb⟩
  have hB := past_one hb
  have pA := (Pair.made w n d 37).kept hb
  clear hb
  obtain ⟨fA0, fA1, fA2, fA3⟩ := pA.facts
  have gA := pA.lt
  go_wp2_with fail
  refine (Q0.out _).mono ?_
  rintro e w2 ⟨rfl, hb⟩
  replace hB := below_on hB hb
  clear hb
  go_wp2_with fail
  refine (shown_any _ (HF.out.on hB)).mono ?_
  rintro e w3 ⟨rfl, hb⟩
  replace hB := below_on hB hb
  clear hb
  go_wp2_with fail
  go_ret
  exact ⟨rfl, hB⟩

set_option maxRecDepth 100000 in
theorem lifted (os : Os) (started : os.Started) (H : Type) (enc : TypeId × Value → H) :
    ReturnsInHanded {} Tryd.checked os 5 .any (fun w args => (Rows.limitMeetsSpec.pre enc Tryd.prog Tryd.f5 [] false w args ∧ laidMetH Tryd.prog laid3 w) ∧ sizedMet enc Tryd.prog Tryd.f5 (OpenSpec.ofChange Rows.limitMeetsSpec) false w args)
      (Rows.limitMeetsSpec.post enc Tryd.prog Tryd.f5 false true false false) := by
  refine returns_laid_shaped (C := Tryd.checked) (X := fun w _ => laidMetH Tryd.prog laid3 w) (fun _ _ _ hh h => h.of_heap hh) own started (by kernel_rfl) Tryd.func5
    (ChangeSpec.witness_shaped (enc := enc) (C := Tryd.checked) (os := os) (X := fun w _ => laidMetH Tryd.prog laid3 w) false (World.doorLaid Tryd.prog 400 os) #[.agg #[.int .i64 0, .int .i64 0], .int .i64 0] 8 rfl (World.shaped_of_RefB (by kernel_rfl) (by kernel_rfl)) (by kernel_rfl) (by kernel_rfl) (by kernel_rfl) (door_met os _)) ?_
  intro W base args ds gs before hval0 hW _ _ hL hsh
  have hF := fit_of hL
  have hval : ∀ (j : Nat) t v, Tryd.f5.params[j]? = some t → args[j]? = some v → Value.okWide Tryd.prog W .any base t v := hval0
  have hW' := hW
  obtain ⟨p, q, hA0, hV, rfl, hfz, hnd⟩ := hW
  have hA : DataW.TrodAll enc Tryd.prog W 0 (fun _ => true) true Tryd.f5.params.toList args.toList ds p := hA0
  rw [Tryd.params5] at hA hval
  obtain ⟨v0, v1, d0, d1, p0, p1, rfl, rfl, rfl, h0, h1⟩ := trodAll_two hA
  obtain ⟨rfl, rfl⟩ := trodVars_none hV
  obtain ⟨c00, c01, y00, y01, m0, rfl, rfl, rfl, hy00, hy01⟩ := open_agg2 Tryd.underlying37 (by kernel_rfl) Tryd.cells37 (hval 0 37 v0 rfl rfl) h0
  obtain ⟨a00, e00, rfl, wa00⟩ := DataW.trod_int Tryd.underlying2 hy00
  obtain ⟨a01, e01, rfl, wa01⟩ := DataW.trod_int Tryd.underlying2 hy01
  simp at e00 e01
  subst e00 e01
  obtain ⟨a1, rfl, rfl, rfl, wa1⟩ := open_int Tryd.underlying22 (hval 1 22 v1 rfl rfl) h1
  clear hA0 hval0
  simp only [List.append_nil] at hW'
  refine (walk a00 a01 a1 W hF (bounds_i64 wa00) (bounds_i64 wa01) (bounds_i64 wa1)).mono fun e W' ⟨he, hb⟩ => ?_
  subst he
  have r0 : ∀ (sp : Nat → Bool), DataW.Trod enc Tryd.prog W' 0 sp true 37 (.agg #[.int .i64 a00, .int .i64 a01]) (.agg [.lit (.int .i64 a00), .lit (.int .i64 a01)]) [] := fun sp =>
    shut_agg2 (y0 := (.lit (.int .i64 a00), [])) (y1 := (.lit (.int .i64 a01), [])) Tryd.underlying37 (by kernel_rfl) Tryd.cells37 ⟨1, by simp [DataW.trod, Tryd.underlying2, wa00]⟩ ⟨1, by simp [DataW.trod, Tryd.underlying2, wa01]⟩
  exact ⟨_, rfl, post_made hW' hb (fun _ _ _ => trodAll_mk1 (shut_bool Tryd.underlying4 _)) (fun sp => trodAll_mk2 (r0 sp) (shut_int Tryd.underlying22 wa1)) (fun _ => rfl) (ok_one (by kernel_rfl) rfl (okWide_bool_mk Tryd.underlying4 _))⟩

theorem said : Rows.LimitMeetsSaid :=
  OpenClaim.holds_of_wide 5 Tryd.f5 rfl rfl rfl rfl rfl rfl rfl ⟨rfl, rfl, rfl, rfl, rfl⟩ rfl rfl rfl rfl rfl (by kernel_rfl) Tryd.func5 (by kernel_rfl)
    (of_decide_eq_true (by kernel_rfl)) (by unfold Func.isWrapper; first | (rw [if_pos (by decide +kernel)]; kernel_rfl) | (rw [if_neg (by decide +kernel)]; exact ⟨rfl, rfl⟩))
    (fun os started H enc _ => lifted os started H enc)

theorem proved : Rows.LimitMeetsCardSaid :=
  Claim7.holds_tied_plain_at .later [] [.data, .data, .data] true (true, "4ac88df0ca6c9a3c6b754f126be577545796e3b4e23f935dfd43c51c38490d2d") false
    said (fun _ h => by cases h) (by kernel_rfl) (fun _ h => by cases h) limitMeets_row_tie rfl ⟨rfl, rfl⟩ (by kernel_rfl) rfl
    (fun f fn hf hfn => by
      obtain rfl : f = 5 := Option.some.inj ((show Tryd.prog.funcNamed "foliot/foliotlaw02.LimitMeets" = some 5 by kernel_rfl).symm.trans hf) |>.symm
      obtain rfl : fn = Tryd.f5 := (Option.some.inj (Tryd.func5.symm.trans hfn)).symm
      exact ⟨by kernel_rfl, fun j t ht => by
        rw [Tryd.params5] at ht
        have hm : t ∈ [37, 22] := by have := Array.mem_of_getElem? ht; simp at this ⊢; omega
        have hall : ([37, 22].all fun u => !Tryd.prog.wantsStandIn u) = true := by kernel_rfl
        exact (show Tryd.prog.wantsStandIn t = false by simpa using List.all_eq_true.1 hall t hm)⟩)
    (by kernel_rfl)

#print axioms proved
end Go.Proofs.YtbcafamgmdngpaaDoor.LiMeets
