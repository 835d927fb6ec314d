/- LimitPoints: for every two ratios and two limits that are valid, a number meets a limit exactly if its negative does not meet the opposite, and if x meets a and y meets b, x + y meets their sum; for others nothing is asked; the statement's function returns true; the arguments read as before. Conditions: none beyond the row's own (the three listed tables of the library hold what the program's text lays). -/
import Derived.Test.YtbcafamgmdngpaaDoorArr2
import Derived.Test.YtbcafamgmdngpaaDoorLiPts1
import Derived.Test.YtbcafamgmdngpaaDoorLiPts2
namespace Go.Proofs.YtbcafamgmdngpaaDoor.LiPoints
open Go.Proofs.YtbcafamgmdngpaaDoor
open Go.ChangeShapes Go.WideShapes Go.ChangeAt Go.RowKit Go.Joins

theorem walk (n d m c a b : Int) (w : World) (hF : Fit w) (hn : I64 n) (hd : I64 d) (hm : I64 m) (hc : I64 c) (ha : I64 a) (hb : I64 b) : Calls Tryd.prog 7 #[.agg #[.int .i64 n, .int .i64 d, .int .i64 m, .int .i64 c], .int .i64 a, .int .i64 b] w (Made (.bool true) w) := by
  have HF := Lib.hid hF
  cases vx : vldB n d
  · exact bad0 w HF (Lib.hid fun W => refValid_as W hn hd vx)
  have V0 := Lib.hid fun W => refValid_as W hn hd vx
  cases vy : vldB m c
  · exact bad1 w HF V0 (Lib.hid fun W => refValid_as W hm hc vy)
  have V1 := Lib.hid fun W => refValid_as W hm hc vy
  cases va : lvB a
  · exact bad2 w HF V0 V1 (Lib.hid fun W => refLimValid_as W ha va)
  have V2 := Lib.hid fun W => refLimValid_as W ha va
  cases vb : lvB b
  · exact bad3 w HF V0 V1 V2 (Lib.hid fun W => refLimValid_as W hb vb)
  have V3 := Lib.hid fun W => refLimValid_as W hb vb
  obtain ⟨n1, n2, n3, n4⟩ := vld_bd vx
  have AD := Lib.hid fun W => refAdd_any n d m c W hn hd hm hc
  have hv : (vldB n d && vldB m c) = true := by rw [vx, vy]; rfl
  rw [hv] at AD
  have LA := Lib.hid fun W => limAdd_any a b W ha hb
  have M1 := fun t (h : meB m c b = t) => Lib.hid fun W => meets_as W vy hb vb h
  have M0 := fun t (h : meB n d a = t) => Lib.hid fun W => meets_as W vx ha va h
  have k1 : -9223372036854775807 ≤ n := by omega
  have k2 : n ≤ 9223372036854775807 := by omega
  have hg : opErr true (n * c + m * d) (d * c) = mkErr (n * c + m * d) (d * c) := rfl
  cases na : noB a
  · have a0 : (a == 1099511627776) = false := by simpa [noB] using na
    obtain ⟨v1, o1⟩ := nt_lv va na
    have bd := lv_bd va
    have NT := Lib.hid fun W => limNot_any a W ha
    rw [(nt_val va na).1, (nt_val va na).2] at NT
    have MN := fun t (h : meB n d a = t) => Lib.hid fun W => meets_as (t := !t) W (vld_negn vx) (show I64 (1 - a) by unfold I64; omega) v1 (by rw [me_not vx va na, h])
    cases t0 : meB n d a
    · exact arm_s_f w HF a0 k1 k2 V0 V1 V2 V3 (M0 _ t0) (M1 _ rfl) AD LA NT (MN _ t0)
    cases t1 : meB m c b
    · exact arm_s_tf w HF a0 k1 k2 V0 V1 V2 V3 (M0 _ t0) (M1 _ t1) AD LA NT (MN _ t0)
    by_cases g : mkErr (n * c + m * d) (d * c) = 0
    · rw [hg, g] at AD
      rcases ad_E va vb with h | h
      · rw [h] at LA
        obtain ⟨s1, _⟩ := me_sum vx vy va vb t0 t1 g h
        exact arm_s_ok w HF a0 k1 k2 V0 V1 V2 V3 (M0 _ t0) (M1 _ t1) AD LA NT (MN _ t0) (Lib.hid fun W => meets_as W (mk_ok g).2.1 (ad_bd a b) (ad_lv va vb h) s1)
      · exact arm_s_h w HF a0 k1 k2 (show (adE a b == 0) = false by rw [h]; decide) V0 V1 V2 V3 (M0 _ t0) (M1 _ t1) AD LA NT (MN _ t0)
    · exact arm_s_g w HF a0 k1 k2 (show (opErr true (n * c + m * d) (d * c) == 0) = false by rw [hg]; simpa using g) V0 V1 V2 V3 (M0 _ t0) (M1 _ t1) AD LA NT (MN _ t0)
  · have a0 : (a == 1099511627776) = true := by simpa [noB] using na
    cases t0 : meB n d a
    · exact arm_n_f w HF a0 V0 V1 V2 V3 (M0 _ t0) (M1 _ rfl) AD LA
    cases t1 : meB m c b
    · exact arm_n_tf w HF a0 V0 V1 V2 V3 (M0 _ t0) (M1 _ t1) AD LA
    by_cases g : mkErr (n * c + m * d) (d * c) = 0
    · rw [hg, g] at AD
      rcases ad_E va vb with h | h
      · rw [h] at LA
        obtain ⟨s1, _⟩ := me_sum vx vy va vb t0 t1 g h
        exact arm_n_ok w HF a0 V0 V1 V2 V3 (M0 _ t0) (M1 _ t1) AD LA (Lib.hid fun W => meets_as W (mk_ok g).2.1 (ad_bd a b) (ad_lv va vb h) s1)
      · exact arm_n_h w HF a0 (show (adE a b == 0) = false by rw [h]; decide) V0 V1 V2 V3 (M0 _ t0) (M1 _ t1) AD LA
    · exact arm_n_g w HF a0 (show (opErr true (n * c + m * d) (d * c) == 0) = false by rw [hg]; simpa using g) V0 V1 V2 V3 (M0 _ t0) (M1 _ t1) AD LA

set_option maxRecDepth 100000 in
theorem lifted (os : Os) (started : os.Started) (H : Type) (enc : TypeId × Value → H) :
    ReturnsInHanded {} Tryd.checked os 7 .any (fun w args => (Rows.limitPointsSpec.pre enc Tryd.prog Tryd.f7 [] false w args ∧ laidMetH Tryd.prog laid3 w) ∧ sizedMet enc Tryd.prog Tryd.f7 (OpenSpec.ofChange Rows.limitPointsSpec) false w args)
      (Rows.limitPointsSpec.post enc Tryd.prog Tryd.f7 false true false false) := by
  refine returns_laid_shaped (C := Tryd.checked) (X := fun w _ => laidMetH Tryd.prog laid3 w) (fun _ _ _ hh h => h.of_heap hh) own started (by kernel_rfl) Tryd.func7
    (ChangeSpec.witness_shaped (enc := enc) (C := Tryd.checked) (os := os) (X := fun w _ => laidMetH Tryd.prog laid3 w) false (World.doorLaid Tryd.prog 400 os) #[.agg #[.int .i64 0, .int .i64 0, .int .i64 0, .int .i64 0], .int .i64 0, .int .i64 0] 8 rfl (World.shaped_of_RefB (by kernel_rfl) (by kernel_rfl)) (by kernel_rfl) (by kernel_rfl) (by kernel_rfl) (door_met os _)) ?_
  intro W base args ds gs before hval0 hW _ _ hL hsh
  have hF := fit_of hL
  have hval : ∀ (j : Nat) t v, Tryd.f7.params[j]? = some t → args[j]? = some v → Value.okWide Tryd.prog W .any base t v := hval0
  have hW' := hW
  obtain ⟨p, q, hA0, hV, rfl, hfz, hnd⟩ := hW
  have hA : DataW.TrodAll enc Tryd.prog W 0 (fun _ => true) true Tryd.f7.params.toList args.toList ds p := hA0
  rw [Tryd.params7] at hA hval
  obtain ⟨v0, v1, v2, d0, d1, d2, p0, p1, p2, rfl, rfl, rfl, h0, h1, h2⟩ := trodAll_three hA
  obtain ⟨rfl, rfl⟩ := trodVars_none hV
  obtain ⟨a00, a01, a02, a03, rfl, rfl, rfl, wa00, wa01, wa02, wa03⟩ := open_rr (hval 0 42 v0 rfl rfl) h0
  obtain ⟨a1, rfl, rfl, rfl, wa1⟩ := open_int Tryd.underlying22 (hval 1 22 v1 rfl rfl) h1
  obtain ⟨a2, rfl, rfl, rfl, wa2⟩ := open_int Tryd.underlying22 (hval 2 22 v2 rfl rfl) h2
  clear hA0 hval0
  simp only [List.append_nil] at hW'
  refine (walk a00 a01 a02 a03 a1 a2 W hF (bounds_i64 wa00) (bounds_i64 wa01) (bounds_i64 wa02) (bounds_i64 wa03) (bounds_i64 wa1) (bounds_i64 wa2)).mono fun e W' ⟨he, hb⟩ => ?_
  subst he
  exact ⟨_, rfl, post_made hW' hb (fun _ _ _ => trodAll_mk1 (shut_bool Tryd.underlying4 _)) (fun sp => trodAll_mk3 (shut_rr wa00 wa01 wa02 wa03) (shut_int Tryd.underlying22 wa1) (shut_int Tryd.underlying22 wa2)) (fun _ => rfl) (ok_one (by kernel_rfl) rfl (okWide_bool_mk Tryd.underlying4 _))⟩

theorem said : Rows.LimitPointsSaid :=
  OpenClaim.holds_of_wide 7 Tryd.f7 rfl rfl rfl rfl rfl rfl rfl ⟨rfl, rfl, rfl, rfl, rfl⟩ rfl rfl rfl rfl rfl (by kernel_rfl) Tryd.func7 (by kernel_rfl)
    (of_decide_eq_true (by kernel_rfl)) (by unfold Func.isWrapper; first | (rw [if_pos (by decide +kernel)]; kernel_rfl) | (rw [if_neg (by decide +kernel)]; exact ⟨rfl, rfl⟩))
    (fun os started H enc _ => lifted os started H enc)

theorem proved : Rows.LimitPointsCardSaid :=
  Claim7.holds_tied_plain_at .later [] [.data, .data, .data] true (true, "4ac88df0ca6c9a3c6b754f126be577545796e3b4e23f935dfd43c51c38490d2d") false
    said (fun _ h => by cases h) (by kernel_rfl) (fun _ h => by cases h) limitPoints_row_tie rfl ⟨rfl, rfl⟩ (by kernel_rfl) rfl
    (fun f fn hf hfn => by
      obtain rfl : f = 7 := Option.some.inj ((show Tryd.prog.funcNamed "foliot/foliotlaw02.LimitPoints" = some 7 by kernel_rfl).symm.trans hf) |>.symm
      obtain rfl : fn = Tryd.f7 := (Option.some.inj (Tryd.func7.symm.trans hfn)).symm
      exact ⟨by kernel_rfl, fun j t ht => by
        rw [Tryd.params7] at ht
        have hm : t ∈ [42, 22] := by have := Array.mem_of_getElem? ht; simp at this ⊢; omega
        have hall : ([42, 22].all fun u => !Tryd.prog.wantsStandIn u) = true := by kernel_rfl
        exact (show Tryd.prog.wantsStandIn t = false by simpa using List.all_eq_true.1 hall t hm)⟩)
    (by kernel_rfl)

#print axioms proved
end Go.Proofs.YtbcafamgmdngpaaDoor.LiPoints
