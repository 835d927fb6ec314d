/- RatioSums: for every two ratios, valid or not, Add, Sub, Mul, Div and Cmp of package ratio return what the reference returns, and the statement's function returns true; the arguments read as before. Conditions: none beyond the row's own (the three listed tables of the library hold what the program's text lays). -/
import Derived.Test.YtnbkphklidjmhaaDoorK
import Derived.Test.YtnbkphklidjmhaaDoorP
namespace Go.Proofs.YtnbkphklidjmhaaDoor.Sums
open Go.Proofs.YtnbkphklidjmhaaDoor
open Go.ChangeShapes Go.WideShapes Go.ChangeAt Go.RowKit Go.Joins

def selI (b : Bool) (x : Int) : Int := if b then x else 0
theorem cmp_sel (n d m c : Int) (w : World) (hn : I64 n) (hd : I64 d) (hm : I64 m) (hc : I64 c) :
    Calls Tryd.prog 30 #[.agg #[.int .i64 n, .int .i64 d], .agg #[.int .i64 m, .int .i64 c]] w (Made (.tuple #[.int .i64 (selI (vldB n d && vldB m c) (sgn (n * c) (m * d))), .int .i64 (okErr (vldB n d && vldB m c))]) w) := cmp_any n d m c w hn hd hm hc
theorem refCmp_sel (n d m c : Int) (w : World) (hn : I64 n) (hd : I64 d) (hm : I64 m) (hc : I64 c) :
    Calls Tryd.prog 31 #[.agg #[.int .i64 n, .int .i64 d], .agg #[.int .i64 m, .int .i64 c]] w (Made (.tuple #[.int .i64 (selI (vldB n d && vldB m c) (sgn (n * c) (m * d))), .int .i64 (okErr (vldB n d && vldB m c))]) w) := refCmp_any n d m c w hn hd hm hc

set_option maxRecDepth 100000 in
set_option maxHeartbeats 1600000 in
theorem walk (n d m c : Int) (w : World) (hF : Fit w) (hn : I64 n) (hd : I64 d) (hm : I64 m) (hc : I64 c) :
    Calls Tryd.prog 4 #[.agg #[.int .i64 n, .int .i64 d], .agg #[.int .i64 m, .int .i64 c]] w (Made (.bool true) w) := by
  have HF := Lib.hid hF
  have p0 := fun W => add_any n d m c W hn hd hm hc
  have q0 := fun W => refAdd_any n d m c W hn hd hm hc
  generalize opNum (vldB n d && vldB m c) (n * c + m * d) (d * c) = X0 at p0 q0
  generalize opDen (vldB n d && vldB m c) (n * c + m * d) (d * c) = Y0 at p0 q0
  generalize opErr (vldB n d && vldB m c) (n * c + m * d) (d * c) = E0 at p0 q0
  have P0 := Lib.hid p0
  have Q0 := Lib.hid q0
  clear p0 q0
  have p1 := fun W => sub_any n d m c W hn hd hm hc
  have q1 := fun W => refSub_any n d m c W hn hd hm hc
  generalize opNum (vldB n d && vldB m c) (n * c - m * d) (d * c) = X1 at p1 q1
  generalize opDen (vldB n d && vldB m c) (n * c - m * d) (d * c) = Y1 at p1 q1
  generalize opErr (vldB n d && vldB m c) (n * c - m * d) (d * c) = E1 at p1 q1
  have P1 := Lib.hid p1
  have Q1 := Lib.hid q1
  clear p1 q1
  have p2 := fun W => mul_any n d m c W hn hd hm hc
  have q2 := fun W => refMul_any n d m c W hn hd hm hc
  generalize opNum (vldB n d && vldB m c) (n * m) (d * c) = X2 at p2 q2
  generalize opDen (vldB n d && vldB m c) (n * m) (d * c) = Y2 at p2 q2
  generalize opErr (vldB n d && vldB m c) (n * m) (d * c) = E2 at p2 q2
  have P2 := Lib.hid p2
  have Q2 := Lib.hid q2
  clear p2 q2
  have p3 := fun W => div_any n d m c W hn hd hm hc
  have q3 := fun W => refDiv_any n d m c W hn hd hm hc
  generalize opNum (vldB n d && vldB m c && !decide (m = 0)) (n * c) (d * m) = X3 at p3 q3
  generalize opDen (vldB n d && vldB m c && !decide (m = 0)) (n * c) (d * m) = Y3 at p3 q3
  generalize opErr (vldB n d && vldB m c && !decide (m = 0)) (n * c) (d * m) = E3 at p3 q3
  have P3 := Lib.hid p3
  have Q3 := Lib.hid q3
  clear p3 q3
  have p4 := fun W => cmp_sel n d m c W hn hd hm hc
  have q4 := fun W => refCmp_sel n d m c W hn hd hm hc
  generalize selI (vldB n d && vldB m c) (sgn (n * c) (m * d)) = X4 at p4 q4
  generalize okErr (vldB n d && vldB m c) = E4 at p4 q4
  have P4 := Lib.hid p4
  have Q4 := Lib.hid q4
  clear p4 q4 hF
  go_enter Tryd.func4, Tryd.ntmps4
  go_wp2_with fail
  refine (P0.out _).mono ?_
  rintro e w1 ⟨rfl, hb⟩
  obtain ⟨pA, pB, z1, hB⟩ := two_pairs hb
  clear hb
  have g1A : w.heap.size < w1.heap.size := by omega
  have g1B : w.heap.size + 1 < w1.heap.size := by omega
  obtain ⟨fA0, fA1, fA2, fA3⟩ := pA.facts
  obtain ⟨fB0, fB1, fB2, fB3⟩ := pB.facts
  go_wp2_with fail
  refine (Q0.out _).mono ?_
  rintro e w2 ⟨rfl, hb⟩
  clear fA0 fA1 fA2 fA3
  clear fB0 fB1 fB2 fB3
  have pC := (Pair.made w1 _ _ 23).kept hb
  replace pA := (pA.alloc _).kept hb
  replace pB := (pB.alloc _).kept hb
  have z2 : w1.heap.size + 1 ≤ w2.heap.size := by have := hb.size; simpa using this
  replace hB := on_box hB hb
  clear hb
  have g2A : w.heap.size < w2.heap.size := by omega
  have g2B : w.heap.size + 1 < w2.heap.size := by omega
  have g2C : w1.heap.size < w2.heap.size := by omega
  obtain ⟨fA0, fA1, fA2, fA3⟩ := pA.facts
  obtain ⟨fB0, fB1, fB2, fB3⟩ := pB.facts
  obtain ⟨fC0, fC1, fC2, fC3⟩ := pC.facts
  go_wp2_with fail
  refine (P1.out _).mono ?_
  rintro e w3 ⟨rfl, hb⟩
  clear fA0 fA1 fA2 fA3
  clear fB0 fB1 fB2 fB3
  clear fC0 fC1 fC2 fC3
  have pD := (Pair.made w2 _ _ 23).kept hb
  replace pA := (pA.alloc _).kept hb
  replace pB := (pB.alloc _).kept hb
  replace pC := (pC.alloc _).kept hb
  replace hB := on_box hB hb
  clear hb
  obtain ⟨fA0, fA1, fA2, fA3⟩ := pA.facts
  obtain ⟨fB0, fB1, fB2, fB3⟩ := pB.facts
  obtain ⟨fC0, fC1, fC2, fC3⟩ := pC.facts
  obtain ⟨fD0, fD1, fD2, fD3⟩ := pD.facts
  go_wp2_with fail
  refine (Q1.out _).mono ?_
  rintro e w4 ⟨rfl, hb⟩
  clear fA0 fA1 fA2 fA3
  clear fB0 fB1 fB2 fB3
  clear fC0 fC1 fC2 fC3
  clear fD0 fD1 fD2 fD3
  replace pA := (pA.aside (show w1.heap.size ≠ w.heap.size by omega) _ _).kept hb
  replace pB := (pB.aside (show w1.heap.size ≠ w.heap.size + 1 by omega) _ _).kept hb
  replace pC := (pC.put _ _).kept hb
  replace pD := (pD.aside (show w1.heap.size ≠ w2.heap.size by omega) _ _).kept hb
  replace hB := on_put hB (by omega) hb
  clear hb
  obtain ⟨fA0, fA1, fA2, fA3⟩ := pA.facts
  obtain ⟨fB0, fB1, fB2, fB3⟩ := pB.facts
  obtain ⟨fC0, fC1, fC2, fC3⟩ := pC.facts
  obtain ⟨fD0, fD1, fD2, fD3⟩ := pD.facts
  go_wp2_with fail
  refine (P2.out _).mono ?_
  rintro e w5 ⟨rfl, hb⟩
  clear fA0 fA1 fA2 fA3
  clear fB0 fB1 fB2 fB3
  clear fC0 fC1 fC2 fC3
  clear fD0 fD1 fD2 fD3
  replace pA := (pA.aside (show w2.heap.size ≠ w.heap.size by omega) _ _).kept hb
  replace pB := (pB.aside (show w2.heap.size ≠ w.heap.size + 1 by omega) _ _).kept hb
  replace pC := (pC.aside (show w2.heap.size ≠ w1.heap.size by omega) _ _).kept hb
  replace pD := (pD.put _ _).kept hb
  replace hB := on_put hB (by omega) hb
  clear hb
  obtain ⟨fA0, fA1, fA2, fA3⟩ := pA.facts
  obtain ⟨fB0, fB1, fB2, fB3⟩ := pB.facts
  obtain ⟨fC0, fC1, fC2, fC3⟩ := pC.facts
  obtain ⟨fD0, fD1, fD2, fD3⟩ := pD.facts
  go_wp2_with fail
  refine (Q2.out _).mono ?_
  rintro e w6 ⟨rfl, hb⟩
  clear fA0 fA1 fA2 fA3
  clear fB0 fB1 fB2 fB3
  clear fC0 fC1 fC2 fC3
  clear fD0 fD1 fD2 fD3
  replace pA := (pA.aside (show w1.heap.size ≠ w.heap.size by omega) _ _).kept hb
  replace pB := (pB.aside (show w1.heap.size ≠ w.heap.size + 1 by omega) _ _).kept hb
  replace pC := (pC.put _ _).kept hb
  replace pD := (pD.aside (show w1.heap.size ≠ w2.heap.size by omega) _ _).kept hb
  replace hB := on_put hB (by omega) hb
  clear hb
  obtain ⟨fA0, fA1, fA2, fA3⟩ := pA.facts
  obtain ⟨fB0, fB1, fB2, fB3⟩ := pB.facts
  obtain ⟨fC0, fC1, fC2, fC3⟩ := pC.facts
  obtain ⟨fD0, fD1, fD2, fD3⟩ := pD.facts
  go_wp2_with fail
  refine (P3.out _).mono ?_
  rintro e w7 ⟨rfl, hb⟩
  clear fA0 fA1 fA2 fA3
  clear fB0 fB1 fB2 fB3
  clear fC0 fC1 fC2 fC3
  clear fD0 fD1 fD2 fD3
  replace pA := (pA.aside (show w2.heap.size ≠ w.heap.size by omega) _ _).kept hb
  replace pB := (pB.aside (show w2.heap.size ≠ w.heap.size + 1 by omega) _ _).kept hb
  replace pC := (pC.aside (show w2.heap.size ≠ w1.heap.size by omega) _ _).kept hb
  replace pD := (pD.put _ _).kept hb
  replace hB := on_put hB (by omega) hb
  clear hb
  obtain ⟨fA0, fA1, fA2, fA3⟩ := pA.facts
  obtain ⟨fB0, fB1, fB2, fB3⟩ := pB.facts
  obtain ⟨fC0, fC1, fC2, fC3⟩ := pC.facts
  obtain ⟨fD0, fD1, fD2, fD3⟩ := pD.facts
  go_wp2_with fail
  refine (Q3.out _).mono ?_
  rintro e w8 ⟨rfl, hb⟩
  clear fA0 fA1 fA2 fA3
  clear fB0 fB1 fB2 fB3
  clear fC0 fC1 fC2 fC3
  clear fD0 fD1 fD2 fD3
  replace pA := (pA.aside (show w1.heap.size ≠ w.heap.size by omega) _ _).kept hb
  replace pB := (pB.aside (show w1.heap.size ≠ w.heap.size + 1 by omega) _ _).kept hb
  replace pC := (pC.put _ _).kept hb
  replace pD := (pD.aside (show w1.heap.size ≠ w2.heap.size by omega) _ _).kept hb
  replace hB := on_put hB (by omega) hb
  clear hb
  obtain ⟨fA0, fA1, fA2, fA3⟩ := pA.facts
  obtain ⟨fB0, fB1, fB2, fB3⟩ := pB.facts
  obtain ⟨fC0, fC1, fC2, fC3⟩ := pC.facts
  obtain ⟨fD0, fD1, fD2, fD3⟩ := pD.facts
  go_wp2_with fail
  refine (P4.out _).mono ?_
  rintro e w9 ⟨rfl, hb⟩
  clear fA0 fA1 fA2 fA3
  clear fB0 fB1 fB2 fB3
  clear fC0 fC1 fC2 fC3
  clear fD0 fD1 fD2 fD3
  replace pA := (pA.aside (show w2.heap.size ≠ w.heap.size by omega) _ _).kept hb
  replace pB := (pB.aside (show w2.heap.size ≠ w.heap.size + 1 by omega) _ _).kept hb
  replace pC := (pC.aside (show w2.heap.size ≠ w1.heap.size by omega) _ _).kept hb
  replace pD := (pD.put _ _).kept hb
  replace hB := on_put hB (by omega) hb
  clear hb
  obtain ⟨fA0, fA1, fA2, fA3⟩ := pA.facts
  obtain ⟨fB0, fB1, fB2, fB3⟩ := pB.facts
  obtain ⟨fC0, fC1, fC2, fC3⟩ := pC.facts
  obtain ⟨fD0, fD1, fD2, fD3⟩ := pD.facts
  go_wp2_with fail
  refine (Q4.out _).mono ?_
  rintro e w10 ⟨rfl, hb⟩
  clear fA0 fA1 fA2 fA3
  clear fB0 fB1 fB2 fB3
  clear fC0 fC1 fC2 fC3
  clear fD0 fD1 fD2 fD3
  replace hB := below_on hB hb
  clear hb pA pB pC pD
  go_wp2_with fail
  refine (shown_any _ (HF.out.on hB)).mono ?_
  rintro e w11 ⟨rfl, hb⟩
  replace hB := below_on hB hb
  clear hb
  go_wp2_with fail
  go_ret
  exact ⟨rfl, hB⟩

set_option maxRecDepth 100000 in
theorem lifted (os : Os) (started : os.Started) (H : Type) (enc : TypeId × Value → H) :
    ReturnsInHanded {} Tryd.checked os 4 .any (fun w args => (Rows.ratioSumsSpec.pre enc Tryd.prog Tryd.f4 [] false w args ∧ laidMetH Tryd.prog laid3 w) ∧ sizedMet enc Tryd.prog Tryd.f4 (OpenSpec.ofChange Rows.ratioSumsSpec) false w args)
      (Rows.ratioSumsSpec.post enc Tryd.prog Tryd.f4 false true false false) := by
  refine returns_laid_shaped (C := Tryd.checked) (X := fun w _ => laidMetH Tryd.prog laid3 w) (fun _ _ _ hh h => h.of_heap hh) own started (by kernel_rfl) Tryd.func4
    (ChangeSpec.witness_shaped (enc := enc) (C := Tryd.checked) (os := os) (X := fun w _ => laidMetH Tryd.prog laid3 w) false (World.doorLaid Tryd.prog 400 os) #[.agg #[.int .i64 0, .int .i64 0], .agg #[.int .i64 0, .int .i64 0]] 8 rfl (World.shaped_of_RefB (by kernel_rfl) (by kernel_rfl)) (by kernel_rfl) (by kernel_rfl) (by kernel_rfl) (door_met os _)) ?_
  intro W base args ds gs before hval0 hW _ _ hL hsh
  have hF := fit_of hL hsh
  have hval : ∀ (j : Nat) t v, Tryd.f4.params[j]? = some t → args[j]? = some v → Value.okWide Tryd.prog W .any base t v := hval0
  have hW' := hW
  obtain ⟨p, q, hA0, hV, rfl, hfz, hnd⟩ := hW
  have hA : DataW.TrodAll enc Tryd.prog W 0 (fun _ => true) true Tryd.f4.params.toList args.toList ds p := hA0
  rw [Tryd.params4] at hA hval
  obtain ⟨v0, v1, d0, d1, p0, p1, rfl, rfl, rfl, h0, h1⟩ := trodAll_two hA
  obtain ⟨rfl, rfl⟩ := trodVars_none hV
  obtain ⟨c00, c01, y00, y01, m0, rfl, rfl, rfl, hy00, hy01⟩ := open_agg2 Tryd.underlying23 (by kernel_rfl) Tryd.cells23 (hval 0 23 v0 rfl rfl) h0
  obtain ⟨a00, e00, rfl, wa00⟩ := DataW.trod_int Tryd.underlying2 hy00
  obtain ⟨a01, e01, rfl, wa01⟩ := DataW.trod_int Tryd.underlying2 hy01
  simp at e00 e01
  subst e00 e01
  obtain ⟨c10, c11, y10, y11, m1, rfl, rfl, rfl, hy10, hy11⟩ := open_agg2 Tryd.underlying23 (by kernel_rfl) Tryd.cells23 (hval 1 23 v1 rfl rfl) h1
  obtain ⟨a10, e10, rfl, wa10⟩ := DataW.trod_int Tryd.underlying2 hy10
  obtain ⟨a11, e11, rfl, wa11⟩ := DataW.trod_int Tryd.underlying2 hy11
  simp at e10 e11
  subst e10 e11
  clear hA0 hval0
  simp only [List.append_nil] at hW'
  refine (walk a00 a01 a10 a11 W hF (bounds_i64 wa00) (bounds_i64 wa01) (bounds_i64 wa10) (bounds_i64 wa11)).mono fun e W' ⟨he, hb⟩ => ?_
  subst he
  have r0 : ∀ (sp : Nat → Bool), DataW.Trod enc Tryd.prog W' 0 sp true 23 (.agg #[.int .i64 a00, .int .i64 a01]) (.agg [.lit (.int .i64 a00), .lit (.int .i64 a01)]) [] := fun sp =>
    shut_agg2 (y0 := (.lit (.int .i64 a00), [])) (y1 := (.lit (.int .i64 a01), [])) Tryd.underlying23 (by kernel_rfl) Tryd.cells23 ⟨1, by simp [DataW.trod, Tryd.underlying2, wa00]⟩ ⟨1, by simp [DataW.trod, Tryd.underlying2, wa01]⟩
  have r1 : ∀ (sp : Nat → Bool), DataW.Trod enc Tryd.prog W' 0 sp true 23 (.agg #[.int .i64 a10, .int .i64 a11]) (.agg [.lit (.int .i64 a10), .lit (.int .i64 a11)]) [] := fun sp =>
    shut_agg2 (y0 := (.lit (.int .i64 a10), [])) (y1 := (.lit (.int .i64 a11), [])) Tryd.underlying23 (by kernel_rfl) Tryd.cells23 ⟨1, by simp [DataW.trod, Tryd.underlying2, wa10]⟩ ⟨1, by simp [DataW.trod, Tryd.underlying2, wa11]⟩
  exact ⟨_, rfl, post_made hW' hb (fun _ _ _ => trodAll_mk1 (shut_bool Tryd.underlying4 _)) (fun sp => trodAll_mk2 (r0 sp) (r1 sp)) (fun _ => rfl) (ok_one (by kernel_rfl) rfl (okWide_bool_mk Tryd.underlying4 _))⟩

theorem said : Rows.RatioSumsSaid :=
  OpenClaim.holds_of_wide 4 Tryd.f4 rfl rfl rfl rfl rfl rfl rfl ⟨rfl, rfl, rfl, rfl, rfl⟩ rfl rfl rfl rfl rfl (by kernel_rfl) Tryd.func4 (by kernel_rfl)
    (of_decide_eq_true (by kernel_rfl)) (by unfold Func.isWrapper; first | (rw [if_pos (by decide +kernel)]; kernel_rfl) | (rw [if_neg (by decide +kernel)]; exact ⟨rfl, rfl⟩))
    (fun os started H enc _ => lifted os started H enc)

theorem proved : Rows.RatioSumsCardSaid :=
  Claim7.holds_tied_plain_at .later [] [.data, .data, .data] true (true, "37b220b99fbac8cdeffc3cfbaf41194bd7baedb872a775bac3f445b2fae09ae0") false
    said (fun _ h => by cases h) (by kernel_rfl) (fun _ h => by cases h) ratioSums_row_tie rfl ⟨rfl, rfl⟩ (by kernel_rfl) rfl
    (fun f fn hf hfn => by
      obtain rfl : f = 4 := Option.some.inj ((show Tryd.prog.funcNamed "foliot/foliotlaw01.RatioSums" = some 4 by kernel_rfl).symm.trans hf) |>.symm
      obtain rfl : fn = Tryd.f4 := (Option.some.inj (Tryd.func4.symm.trans hfn)).symm
      exact ⟨by kernel_rfl, fun j t ht => by
        rw [Tryd.params4] at ht
        have hm : t ∈ [23] := by have := Array.mem_of_getElem? ht; simp at this ⊢; omega
        have hall : ([23].all fun u => !Tryd.prog.wantsStandIn u) = true := by kernel_rfl
        exact (show Tryd.prog.wantsStandIn t = false by simpa using List.all_eq_true.1 hall t hm)⟩)
    (by kernel_rfl)
#print axioms proved
end Go.Proofs.YtnbkphklidjmhaaDoor.Sums
