/- A part. -/
import Derived.Test.YthjapmdfcbngmaaGreatWr5
import Derived.Test.YthjapmdfcbngmaaGreatWr8
import Derived.Lib.SliceRun
import Derived.Test.YthjapmdfcbngmaaGreatWr1
import Derived.Test.YthjapmdfcbngmaaGreatWr2
import Derived.Deep.DeepCutAuto
import Derived.Deep.WholeRow
namespace Go.Proofs.YthjapmdfcbngmaaGreat
set_option maxHeartbeats 4000000
open Go.RowKit
theorem run_nil_cmp (w : World) (a : Option Addr) (n c : Nat) : (binOp .eql 34 (.slice a n c) (.slice none 0 0)).run Tryz.prog w = .ok (.bool a.isNone) w := Lib.run_eql_slice_nil w _ _ a n c 0 0 Tryz.underlying34
set_option maxRecDepth 100000 in
theorem clone_any (l : List Int) (b off : Nat) (cap : Nat) (w : World) (h0 : 0 < l.length) (h1 : l.length ≤ 1000) (hR : Rd w ⟨b, off, none⟩ l) :
  Calls Tryz.prog 98 #[.slice (some ⟨b, off, none⟩) l.length cap] w
   (fun e w' => ∃ g c, e = .returned (.slice (some ⟨g, 0, none⟩) l.length c) ∧ w.heap.size ≤ g ∧ Own w' g c l ∧ Below w.heap.size w w') := by
 obtain ⟨i0, hi, hz0, hz1, hz2⟩ := info_parts Tryz.info37
 have q := run_nil_cmp
 have A := Lib.hid (show ∀ (w' : World), Below w.heap.size w w' → ∀ j u, (l.map (Value.int .i64))[j]? = some u → w'.cell? ((⟨b, off, none⟩ : Addr).add j) = some u from fun w' h => (hR.on h).map)
 have l1 : (l.map (Value.int .i64)).length = l.length * 1 := by simp
 have o1 : ∀ u ∈ l.map (Value.int .i64), u.oneCell' = true := by simp [Value.oneCell']
 generalize hxs : l.map (Value.int .i64) = xs at *
 have HXS := Lib.hid hxs
 clear hxs hR
 generalize hlen : l.length = len at *
 have HLEN := Lib.hid hlen
 clear hlen
 go_enter Tryz.func98, Tryz.ntmps98
 go_wp2_with (at_builtin; refine wpList_append_own _ rfl _ _ 34 rfl w.heap.size 37 i0 (.int .i64 0) 1 8 Tryz.underlying34 hi hz0 hz1 hz2 rfl (by decide) _ _ _ rfl (World.ownsRow_made w #[] 0 (Nat.le_refl _) (Nat.zero_le _) (by simp)) ⟨b, off, none⟩ len cap xs rfl ?qc1 ?qc2 ?qc3 ?qc4 ?qc5 ?qc6 ?_)
 case qc1 => exact l1
 case qc2 =>
  intro j u hj
  exact A.out _ (one_more (.cells #[] 37)) j u hj
 case qc3 => exact o1
 case qc4 => unfold maxLen; omega
 case qc5 => omega
 case qc6 => simp
 intro v' w1 hown hgrow hnil
 have hown' : w1.ownsRow w.heap.size 37 1 v' len xs := by simpa using hown
 obtain ⟨g, c, rfl⟩ := Joins.ownsRow_form hown' (by omega)
 go_wp2
 go_ret
 obtain ⟨ho, hg⟩ := own_of hown' HXS.out.symm HLEN.out.symm
 exact ⟨g, c, rfl, hg, ho, ((Below.refl _ w).alloc (Nat.le_refl _) _).grown hgrow (by simp) (by intro k hk; simp [Value.ownBlock] at hk; omega)⟩
theorem run_head (b : Nat) (y : Int) (k : Nat) (hy : y = (k : Int)) (hm : k ≤ 121) (w : World) :
  (Instr.sliceAt 118 (.pointer (some ⟨b, 1, none⟩)) none (some (.int .i64 y)) none).run Tryz.prog w = .ok (.slice (some ⟨b, 1, none⟩) k 121) w := by
 subst hy
 have ha : Tryz.prog.arrayLen 118 = 121 := by simp [Program.arrayLen]
 have he : Tryz.prog.elem 118 = 37 := by simp [Program.elem]
 rw [run_sliceAt_array_h w 118 ⟨b, 1, none⟩ (by rw [ha, he]; exact cells_ty) .i64 k (by omega) (by rw [ha]; omega)]
 rw [he, limit_size]
 simp only [Result.andThen_ok, slicedAt, Int.toNat_natCast, ha]
 rw [if_neg (by omega), Addr.add_mid]
 rfl
def GRes (b : Nat) (w : World) (N : Int) (l : List Int) (er : Int) (e : Ending) (w' : World) : Prop :=
 w.grownBy w' (some b) ∧ ((er = 0 ∧ ∃ g c, e = .returned (.tuple #[.agg #[.int .i64 N, .slice (some ⟨g, 0, none⟩) l.length c], .int .i64 0]) ∧ w.heap.size ≤ g ∧ Own w' g c l) ∨
  (er ≠ 0 ∧ e = .returned (.tuple #[.agg #[.int .i64 0, .slice none 0 0], .int .i64 er])))
theorem grown_two {w w' : World} {b x : Nat} (h : w.grownBy w' (some b)) (hx : w.heap.size ≤ x) (u v : Value) : w.grownBy ((w'.setCell ⟨x, 0, none⟩ u).setCell ⟨x, 1, none⟩ v) (some b) := by
 have e1 : w'.grownBy (w'.setCell ⟨x, 0, none⟩ u) (some x) := grown_put _ _ _ _
 have e2 : (w'.setCell ⟨x, 0, none⟩ u).grownBy ((w'.setCell ⟨x, 0, none⟩ u).setCell ⟨x, 1, none⟩ v) (some x) := grown_put _ _ _ _
 have e3 := grown_trans e1 e2
 exact ⟨e3.os.trans h.os, e3.tape.trans h.tape, e3.output.trans h.output, Nat.le_trans h.size e3.size, fun k hk hne => (e3.block k (Nat.lt_of_lt_of_le hk h.size) (by simp; omega)).trans (h.block k hk hne)⟩
theorem Mx.rd {w : World} {b n : Nat} {l : List Int} (h : Mx w b n l) : Rd w ⟨b, 1, none⟩ l := fun j hj => by rw [Addr.add_mid]; exact h.at hj
theorem grown_of_below {w w' : World} {r : Option Nat} (h : Below w.heap.size w w') : w.grownBy w' r := ⟨h.os, h.tape, h.output, h.size, fun k hk _ => h.block k hk⟩
theorem aside_two {w : World} {p : Addr} {x : Value} (h : w.cell? p = some x) {y : Nat} (hne : p.block ≠ y) (u v : Value) : ((w.setCell ⟨y, 0, none⟩ u).setCell ⟨y, 1, none⟩ v).cell? p = some x := by
 rw [World.cell?_setCell_other _ _ _ _ (fun e => hne (congrArg Addr.block e).symm), World.cell?_setCell_other _ _ _ _ (fun e => hne (congrArg Addr.block e).symm)]
 exact h
set_option maxRecDepth 100000 in
theorem mzone_any (b n : Nat) (l : List Int) (w : World) (hn : n ≤ 10) (h : Mx w b n l) (h64 : Zo.A64 l) :
  Calls Tryz.prog 144 #[.pointer (some ⟨b, 0, none⟩)] w (GRes b w n (Zo.clo n l) (cloE n l)) := by
 have hl := h.2
 have hb := h.lt
 obtain ⟨w0, hw0⟩ : ∃ w0, w0 = w.alloc (.cells #[.int .i64 0, .slice none 0 0] 36) := ⟨_, rfl⟩
 have M0 : Mx w0 b n l := by rw [hw0]; exact h.alloc _
 have rs : Two w0 w.heap.size (.int .i64 0) (.slice none 0 0) := by rw [hw0]; exact Two.made _ _ _ _
 have g0 : w.grownBy w0 (some b) := by rw [hw0]; exact World.grownBy_alloc _ _ _
 have z0 : w0.heap.size = w.heap.size + 1 := by rw [hw0]; simp
 have SH := Lib.hid (shorten_any b n l w0 hn M0 h64)
 have GB := Lib.hid g0
 have RS := Lib.hid rs
 clear h h64 M0 g0 rs
 go_enter Tryz.func144, Tryz.ntmps144
 go_wp2_with fail
 rw [← hw0]
 clear hw0
 go_wp2_with fail
 cases hB : cloB n l
 · have S0 := SH.out
   rw [hB] at S0
   refine S0.mono ?_
   rintro e w1 ⟨rfl, l', hM, hc⟩
   obtain rfl := hc rfl
   have hcl : (Zo.clo n l).length = (n + 1) * (n + 1) := by rw [Zo.clo_length, hl]
   have HCE := Lib.hid (show cloE n l = if (Zo.clo n l).all lvB then 0 else 7 by unfold cloE; rw [hB]; rfl)
   have c0 := hM.1.dim
   have KD := Lib.hid (show ∀ (w' : World), MSt w0 b n (Zo.clo n l) w' → w'.cell? ⟨b, 0, none⟩ = some (.int .i64 n) from fun w' h => h.1.dim)
   generalize hcc : Zo.clo n l = c at *
   have HM := Lib.hid hM
   have HL := Lib.hid hcl
   have HB := Lib.hid hB
   have HC := Lib.hid hcc
   clear hM S0 hB hcc SH
   have d2 := dsq_le hn
   have d1 := dsq_pos n
   have hr := run_head b ((((n + 1) * (n + 1) : Nat)) : Int) ((n + 1) * (n + 1)) rfl (dsq_le hn)
   have HP := Lib.hid (fun W => places_any n W hn)
   generalize hsz : (n + 1) * (n + 1) = sz at *
   have HSZ := Lib.hid hsz
   clear hsz hcl hl
   go_wp2_with fail
   refine wp_region_still_lit (by kernel_rfl) (by kernel_rfl) ?_
   repeat still_step
   still_call (HP.out _)
   repeat still_step
   refine wpStill_nil ?_
   clear c0 hr
   have HD := Lib.hid HM.out.drew
   change Exit.then _ _ _ _ (World.drew _)
   generalize w1.drew = w2 at *
   clear HM
   go_wp2_with fail
   go_loopw [22] (fun s wr => ∃ t : Nat, t ≤ sz ∧ s = .int .i64 t ∧ Hid (∀ i, i < t → lvB (Zo.gt c i) = true) ∧ Hid (MSt w0 b n c wr)) (fun s _ => sz - (intOf s).toNat)
   case atStart => exact ⟨0, by omega, rfl, Lib.hid (fun i hi => by omega), HD⟩
   case round =>
    clear HD
    obtain ⟨t, ht, rfl, HV, HT⟩ := hrel
    by_cases htn : t < sz
    · obtain ⟨v, hv⟩ : ∃ v, v = Zo.gt c t := ⟨_, rfl⟩
      have c1 : wr.cell? ⟨b, 1 + t, none⟩ = some (.int .i64 v) := by rw [hv]; exact HT.out.1.at (by rw [HL.out]; exact htn)
      have HVV := Lib.hid hv
      clear hv
      have PV := fun W => limValid_free v W
      cases lv : lvB v
      · rw [lv] at PV
        have HE := Lib.hid (show cloE n l = 7 by
         rw [HCE.out, if_neg]
         rw [List.all_eq_true]
         intro hall
         have := hall (c[t]'(by rw [HL.out]; exact htn)) (List.getElem_mem _)
         rw [show c[t]'(by rw [HL.out]; exact htn) = v by rw [HVV.out]; simp [Zo.gt, show t < c.length by rw [HL.out]; exact htn], lv] at this
         cases this)
        have PW := Lib.hid PV
        have rs1 := RS.out.grown HT.out.2 (by omega)
        obtain ⟨q0, q1, q2, q3⟩ := rs1.facts
        have HG := Lib.hid (grown_trans GB.out HT.out.2)
        clear PV
        go_wp2_with fail
        refine (PW.out _).mono ?_
        rintro e w3 ⟨rfl, rfl⟩
        go_wp2_with fail
        refine bodyPost_ret (v := .tuple #[.agg #[.int .i64 0, .slice none 0 0], .int .i64 7]) (by simp [results, Tryz.results144, go_sem, q0, q1]) rfl ⟨grown_two HG.out (Nat.le_refl _) _ _, Or.inr ⟨by rw [HE.out]; decide, by rw [HE.out]⟩⟩
      · rw [lv] at PV
        have PW := Lib.hid PV
        have HLV := Lib.hid lv
        clear PV lv
        go_wp2_with fail
        refine (PW.out _).mono ?_
        rintro e w3 ⟨rfl, rfl⟩
        clear c1
        go_wp2_with fail
        go_roundw
        case rel =>
         refine ⟨t + 1, by omega, by go_num, Lib.hid (fun i hi => ?_), HT⟩
         by_cases e : i = t
         · rw [e, ← HVV.out]; exact HLV.out
         · exact HV.out i (by omega)
        case measure => simp [intOf]; omega
    · have HE := Lib.hid (show cloE n l = 0 by
       rw [HCE.out, if_pos]
       rw [List.all_eq_true]
       intro x hx
       obtain ⟨i, hi, rfl⟩ := List.getElem_of_mem hx
       have := HV.out i (by have := HL.out; omega)
       simpa [Zo.gt, hi] using this)
      have rs1 := RS.out.grown HT.out.2 (by omega)
      have CL := Lib.hid (show ∀ w', MSt w0 b n c w' → Calls Tryz.prog 98 #[.slice (some ⟨b, 1, none⟩) sz 121] w' (fun e w'' => ∃ g cc, e = .returned (.slice (some ⟨g, 0, none⟩) sz cc) ∧ w'.heap.size ≤ g ∧ Own w'' g cc c ∧ Below w'.heap.size w' w'') from fun w' h => by
       have := clone_any c b 1 121 w' (by rw [HL.out]; exact d1) (by rw [HL.out]; omega) h.1.rd
       rwa [HL.out] at this)
      go_wp2_with fail
      have HDR := Lib.hid HT.out.drew
      have RSD := Lib.hid (show Two wr.drew w.heap.size (.int .i64 0) (.slice none 0 0) from rs1)
      clear rs1
      have c1 := KD.out _ HDR.out
      go_region_held3 (fun w' => w'.cell? ⟨b, 0, none⟩ = some (.int .i64 n)) (first | exact c1 | exact KD.out _ (by assumption) | exact c3 | exact c4 _ _)
       (first | (go_at_call 98; refine (CL.out _ HDR.out).mono ?_; rintro e w5 ⟨g, cc, rfl, hg, ho, hbe⟩; have c3 : w5.cell? ⟨b, 0, none⟩ = some (.int .i64 n) := kept hbe c1; have c4 : ∀ u v, ((w5.setCell ⟨w.heap.size, 0, none⟩ u).setCell ⟨w.heap.size, 1, none⟩ v).cell? ⟨b, 0, none⟩ = some (.int .i64 n) := (fun u v => aside_two c3 (by show b ≠ w.heap.size; omega) u v); obtain ⟨q0, q1, q2, q3⟩ := (RSD.out.kept hbe).facts))
      go_wp2_with fail
      have HG : w.grownBy w5 (some b) := grown_trans GB.out (grown_trans HDR.out.2 (grown_of_below hbe))
      have hg2 : w0.heap.size ≤ g := Nat.le_trans HDR.out.2.size hg
      refine bodyPost_ret (v := .tuple #[.agg #[.int .i64 n, .slice (some ⟨g, 0, none⟩) sz cc], .int .i64 0]) (by simp [results, Tryz.results144, go_sem, q0, q1]) rfl ⟨grown_two HG (Nat.le_refl _) _ _, Or.inl ⟨HE.out, g, cc, by rw [← HL.out], by omega, put_far ho (by omega) _ _⟩⟩
 · have S0 := SH.out
   rw [hB] at S0
   refine S0.mono ?_
   rintro e w1 ⟨rfl, l', hM, -⟩
   have HE := Lib.hid (show cloE n l = 4 by unfold cloE; rw [hB]; rfl)
   have rs1 := RS.out.grown hM.2 (by omega)
   obtain ⟨q0, q1, q2, q3⟩ := rs1.facts
   have HG := Lib.hid (grown_trans GB.out hM.2)
   clear hM S0 hB SH
   go_wp2_with fail
   refine bodyPost_ret (v := .tuple #[.agg #[.int .i64 0, .slice none 0 0], .int .i64 4]) (by simp [results, Tryz.results144, go_sem, q0, q1]) rfl ⟨grown_two HG.out (Nat.le_refl _) _ _, Or.inr ⟨by rw [HE.out]; decide, by rw [HE.out]⟩⟩
theorem of_any (n : Int) (w : World) (hn : I64 n) :
  Calls Tryz.prog 172 #[.int .i64 n] w (Made (.tuple #[.agg #[.int .i64 (mkNum n 1), .int .i64 (mkDen n 1)], .int .i64 (mkErr n 1)]) w) := by
 have a1 := hn.1
 have a2 := hn.2
 go_enter Tryz.func172, Tryz.ntmps172
 go_wp2_with fail
 refine (make_any _ _ _ (by omega) (by omega) (by omega) (by omega)).mono ?_
 rintro e w1 ⟨rfl, hb⟩
 obtain ⟨hx, hf⟩ := bcell hb
 go_wp2_with fail
 refine bodyPost_ret (v := .tuple #[.agg #[.int .i64 (mkNum n 1), .int .i64 (mkDen n 1)], .int .i64 (mkErr n 1)]) (by simp [results, Tryz.results172, go_sem, hx]) rfl ⟨rfl, ?_⟩
 exact ((past_one hb).setCell (by simp) _).setCell (by simp) _
theorem refNeg_any (n d : Int) (w : World) (hn : I64 n) (hd : I64 d) :
  Calls Tryz.prog 123 #[.agg #[.int .i64 n, .int .i64 d]] w (Made (.tuple #[.agg #[.int .i64 (if vldB n d then -n else 0), .int .i64 (if vldB n d then d else 0)], .int .i64 (if vldB n d then 0 else 2)]) w) := by
 cases v1 : vldB n d
 · have V1 := Lib.hid v1
   clear v1
   go_enter Tryz.func123, Tryz.ntmps123
   go_wp2_with fail
   refine (refValid_as _ hn hd V1.out).mono ?_
   rintro e w1 ⟨rfl, hb⟩
   obtain ⟨hx, hf⟩ := bcell hb
   go_wp2_with fail
   refine bodyPost_ret (v := .tuple #[.agg #[.int .i64 0, .int .i64 0], .int .i64 2]) (by simp [results, Tryz.results123, go_sem, hx]) rfl ⟨rfl, ?_⟩
   exact ((past_two hb).setCell (by simp) _).setCell (by simp) _
 · have V1 := Lib.hid v1
   obtain ⟨x1, x2, x3, x4⟩ := vld_bd v1
   clear v1
   go_enter Tryz.func123, Tryz.ntmps123
   go_wp2_with fail
   refine (refValid_as _ hn hd V1.out).mono ?_
   rintro e w1 ⟨rfl, hb⟩
   obtain ⟨hx, hf⟩ := bcell hb
   go_wp2_with fail
   refine bodyPost_ret (v := .tuple #[.agg #[.int .i64 (-n), .int .i64 d], .int .i64 0]) (by simp [results, Tryz.results123, go_sem, hx]) rfl ⟨rfl, ?_⟩
   exact ((past_two hb).setCell (by simp) _).setCell (by simp) _
def sgn (x y : Int) : Int := if x < y then -1 else if y < x then 1 else 0
theorem compare_any (x y : Int) (w : World) (hx : I64 x) (hy : I64 y) :
  Calls Tryz.prog 189 #[.int .i64 x, .int .i64 y] w fun e w' => e = .returned (.int .i64 (sgn x y)) ∧ w = w' := by
 have a1 := hx.1
 have a2 := hx.2
 have b1 := hy.1
 have b2 := hy.2
 by_cases h1 : x < y
 · have H := Lib.hid (show sgn x y = -1 by unfold sgn; rw [if_pos h1])
   go_enter Tryz.func189, Tryz.ntmps189
   go_wp2
   go_ret
   exact ⟨ret_int H.out.symm, rfl⟩
 by_cases h2 : y < x
 · have H := Lib.hid (show sgn x y = 1 by unfold sgn; rw [if_neg h1, if_pos h2])
   go_enter Tryz.func189, Tryz.ntmps189
   go_wp2
   go_ret
   exact ⟨ret_int H.out.symm, rfl⟩
 have H := Lib.hid (show sgn x y = 0 by unfold sgn; rw [if_neg h1, if_neg h2])
 go_enter Tryz.func189, Tryz.ntmps189
 go_wp2
 go_ret
 exact ⟨ret_int H.out.symm, rfl⟩
theorem cmp_any (n d m c : Int) (w : World) (hn : I64 n) (hd : I64 d) (hm : I64 m) (hc : I64 c) :
  Calls Tryz.prog 173 #[.agg #[.int .i64 n, .int .i64 d], .agg #[.int .i64 m, .int .i64 c]] w
   (Made (.tuple #[.int .i64 (if (vldB n d && vldB m c) then sgn (n * c) (m * d) else 0), .int .i64 (if (vldB n d && vldB m c) then 0 else 2)]) w) := by
 cases v1 : vldB n d
 · have V1 := Lib.hid v1
   clear v1
   go_enter Tryz.func173, Tryz.ntmps173
   go_wp2_with fail
   refine (valid_as _ hn hd V1.out).mono ?_
   rintro e w1 ⟨rfl, hb⟩
   obtain ⟨hx, hf⟩ := bcell hb
   go_wp2_with fail
   go_ret2
   exact ⟨rfl, past_two hb⟩
 · cases v2 : vldB m c
   · have V1 := Lib.hid v1
     have V2 := Lib.hid v2
     clear v1 v2
     go_enter Tryz.func173, Tryz.ntmps173
     go_wp2_with fail
     refine (valid_as _ hn hd V1.out).mono ?_
     rintro e w1 ⟨rfl, hb⟩
     obtain ⟨hx, hf⟩ := bcell hb
     go_wp2_with fail
     refine (valid_as _ hm hc V2.out).mono ?_
     rintro e w2 ⟨rfl, hb2⟩
     replace hb2 := below_on hb hb2
     clear hb hx hf
     obtain ⟨hx, hf⟩ := bcell hb2
     go_wp2_with fail
     go_ret2
     exact ⟨rfl, past_two hb2⟩
   · have V1 := Lib.hid v1
     have V2 := Lib.hid v2
     obtain ⟨x1, x2, x3, x4⟩ := vld_bd v1
     obtain ⟨y1, y2, y3, y4⟩ := vld_bd v2
     clear v1 v2
     obtain ⟨p1a, p1b⟩ := mul_bd x3 x4 (show -2147483647 ≤ c by omega) y2
     obtain ⟨p2a, p2b⟩ := mul_bd y3 y4 (show -2147483647 ≤ d by omega) x2
     go_enter Tryz.func173, Tryz.ntmps173
     go_wp2_with fail
     refine (valid_as _ hn hd V1.out).mono ?_
     rintro e w1 ⟨rfl, hb⟩
     obtain ⟨hx, hf⟩ := bcell hb
     go_wp2_with fail
     refine (valid_as _ hm hc V2.out).mono ?_
     rintro e w2 ⟨rfl, hb2⟩
     replace hb2 := below_on hb hb2
     clear hb hx hf
     obtain ⟨hx, hf⟩ := bcell hb2
     go_wp2_with fail
     refine (compare_any _ _ _ ⟨by omega, by omega⟩ ⟨by omega, by omega⟩).mono ?_
     rintro e w3 ⟨rfl, rfl⟩
     go_wp2_with fail
     go_ret2
     exact ⟨rfl, past_two hb2⟩
theorem refCmp_any (n d m c : Int) (w : World) (hn : I64 n) (hd : I64 d) (hm : I64 m) (hc : I64 c) :
  Calls Tryz.prog 78 #[.agg #[.int .i64 n, .int .i64 d], .agg #[.int .i64 m, .int .i64 c]] w
   (Made (.tuple #[.int .i64 (if (vldB n d && vldB m c) then sgn (n * c) (m * d) else 0), .int .i64 (if (vldB n d && vldB m c) then 0 else 2)]) w) := by
 cases v1 : vldB n d
 · have V1 := Lib.hid v1
   clear v1
   go_enter Tryz.func78, Tryz.ntmps78
   go_wp2_with fail
   refine (refValid_as _ hn hd V1.out).mono ?_
   rintro e w1 ⟨rfl, hb⟩
   obtain ⟨hx, hf⟩ := bcell hb
   go_wp2_with fail
   go_ret2
   exact ⟨rfl, past_two hb⟩
 · cases v2 : vldB m c
   · have V1 := Lib.hid v1
     have V2 := Lib.hid v2
     clear v1 v2
     go_enter Tryz.func78, Tryz.ntmps78
     go_wp2_with fail
     refine (refValid_as _ hn hd V1.out).mono ?_
     rintro e w1 ⟨rfl, hb⟩
     obtain ⟨hx, hf⟩ := bcell hb
     go_wp2_with fail
     refine (refValid_as _ hm hc V2.out).mono ?_
     rintro e w2 ⟨rfl, hb2⟩
     replace hb2 := below_on hb hb2
     clear hb hx hf
     obtain ⟨hx, hf⟩ := bcell hb2
     go_wp2_with fail
     go_ret2
     exact ⟨rfl, past_two hb2⟩
   · have V1 := Lib.hid v1
     have V2 := Lib.hid v2
     obtain ⟨x1, x2, x3, x4⟩ := vld_bd v1
     obtain ⟨y1, y2, y3, y4⟩ := vld_bd v2
     clear v1 v2
     obtain ⟨p1a, p1b⟩ := mul_bd x3 x4 (show -2147483647 ≤ c by omega) y2
     obtain ⟨p2a, p2b⟩ := mul_bd y3 y4 (show -2147483647 ≤ d by omega) x2
     by_cases h1 : n * c < m * d
     · have H := Lib.hid (show sgn (n * c) (m * d) = -1 by unfold sgn; rw [if_pos h1])
       have e1 := wrap_in (n * c) (by omega) (by omega)
       have e2 := wrap_in (m * d) (by omega) (by omega)
       go_enter Tryz.func78, Tryz.ntmps78
       go_wp2_with fail
       refine (refValid_as _ hn hd V1.out).mono ?_
       rintro e w1 ⟨rfl, hb⟩
       obtain ⟨hx, hf⟩ := bcell hb
       go_wp2_with fail
       refine (refValid_as _ hm hc V2.out).mono ?_
       rintro e w2 ⟨rfl, hb2⟩
       replace hb2 := below_on hb hb2
       clear hb hx hf
       obtain ⟨hx, hf⟩ := bcell hb2
       go_wp2_with fail
       go_quiet (fail)
       go_wp2_with fail
       go_ret2
       exact ⟨ret_two H.out.symm rfl, below_drewN (past_two hb2) _⟩
     by_cases h2 : m * d < n * c
     · have H := Lib.hid (show sgn (n * c) (m * d) = 1 by unfold sgn; rw [if_neg h1, if_pos h2])
       have e1 := wrap_in (n * c) (by omega) (by omega)
       have e2 := wrap_in (m * d) (by omega) (by omega)
       go_enter Tryz.func78, Tryz.ntmps78
       go_wp2_with fail
       refine (refValid_as _ hn hd V1.out).mono ?_
       rintro e w1 ⟨rfl, hb⟩
       obtain ⟨hx, hf⟩ := bcell hb
       go_wp2_with fail
       refine (refValid_as _ hm hc V2.out).mono ?_
       rintro e w2 ⟨rfl, hb2⟩
       replace hb2 := below_on hb hb2
       clear hb hx hf
       obtain ⟨hx, hf⟩ := bcell hb2
       go_wp2_with fail
       go_quiet (fail)
       go_wp2_with fail
       go_ret2
       exact ⟨ret_two H.out.symm rfl, below_drewN (past_two hb2) _⟩
     have H := Lib.hid (show sgn (n * c) (m * d) = 0 by unfold sgn; rw [if_neg h1, if_neg h2])
     have e1 := wrap_in (n * c) (by omega) (by omega)
     have e2 := wrap_in (m * d) (by omega) (by omega)
     go_enter Tryz.func78, Tryz.ntmps78
     go_wp2_with fail
     refine (refValid_as _ hn hd V1.out).mono ?_
     rintro e w1 ⟨rfl, hb⟩
     obtain ⟨hx, hf⟩ := bcell hb
     go_wp2_with fail
     refine (refValid_as _ hm hc V2.out).mono ?_
     rintro e w2 ⟨rfl, hb2⟩
     replace hb2 := below_on hb hb2
     clear hb hx hf
     obtain ⟨hx, hf⟩ := bcell hb2
     go_wp2_with fail
     go_quiet (fail)
     go_wp2_with fail
     go_ret2
     exact ⟨ret_two H.out.symm rfl, below_drewN (past_two hb2) _⟩
theorem vld_neg (m c : Int) : vldB (-m) c = vldB m c := by
 unfold vldB; rw [Bool.eq_iff_iff]; simp; omega
theorem refSub_any (n d m c : Int) (w : World) (hn : I64 n) (hd : I64 d) (hm : I64 m) (hc : I64 c) :
  Calls Tryz.prog 119 #[.agg #[.int .i64 n, .int .i64 d], .agg #[.int .i64 m, .int .i64 c]] w
   (Made (.tuple #[.agg #[.int .i64 (opNum (vldB n d && vldB m c) (n * c - m * d) (d * c)), .int .i64 (opDen (vldB n d && vldB m c) (n * c - m * d) (d * c))], .int .i64 (opErr (vldB n d && vldB m c) (n * c - m * d) (d * c))]) w) := by
 by_cases h0 : m = -9223372036854775808
 · have hv : vldB m c = false := vld_no (by omega)
   have HV := Lib.hid (show ∀ x y : Int, opNum (vldB n d && vldB m c) x y = 0 ∧ opDen (vldB n d && vldB m c) x y = 0 ∧ opErr (vldB n d && vldB m c) x y = 2 by simp [opNum, opDen, opErr, hv])
   clear hv
   subst h0
   go_enter Tryz.func119, Tryz.ntmps119
   go_wp2_with fail
   rw [w64min]
   refine (refAdd_any _ _ _ _ _ hn hd (by unfold I64; omega) hc).mono ?_
   rintro e w1 ⟨rfl, hb⟩
   obtain ⟨hx, hf⟩ := bcell hb
   rw [(HV.out _ _).1, (HV.out _ _).2.1, (HV.out _ _).2.2, (HV.out _ _).1, (HV.out _ _).2.1, (HV.out _ _).2.2]
   go_wp2_with fail
   refine bodyPost_ret (v := .tuple #[.agg #[.int .i64 0, .int .i64 0], .int .i64 2]) (by simp [results, Tryz.results119, go_sem, hx]) rfl ⟨by rw [(HV.out _ _).1, (HV.out _ _).2.1, (HV.out _ _).2.2], ?_⟩
   exact ((past_three hb).setCell (by simp; omega) _).setCell (by simp; omega) _
 · have he : n * c - m * d = n * c + (-m) * d := by rw [Int.neg_mul]; omega
   have b1 := hm.1
   have b2 := hm.2
   have b3 : -9223372036854775808 < m := by omega
   rw [he, ← vld_neg m c]
   clear he
   go_enter Tryz.func119, Tryz.ntmps119
   go_wp2_with fail
   refine (refAdd_any _ _ _ _ _ hn hd (by unfold I64; omega) hc).mono ?_
   rintro e w1 ⟨rfl, hb⟩
   obtain ⟨hx, hf⟩ := bcell hb
   go_wp2_with fail
   refine bodyPost_ret (v := .tuple #[.agg #[.int .i64 (opNum (vldB n d && vldB (-m) c) (n * c + (-m) * d) (d * c)), .int .i64 (opDen (vldB n d && vldB (-m) c) (n * c + (-m) * d) (d * c))], .int .i64 (opErr (vldB n d && vldB (-m) c) (n * c + (-m) * d) (d * c))]) (by simp [results, Tryz.results119, go_sem, hx]) rfl ⟨rfl, ?_⟩
   exact ((past_three hb).setCell (by simp; omega) _).setCell (by simp; omega) _
theorem qzero_any (w : World) : Calls Tryz.prog 148 #[] w (Made (.agg #[.int .i64 0, .int .i64 1]) w) := by
 go_enter Tryz.func148, Tryz.ntmps148
 go_wp2_with fail
 refine bodyPost_ret (v := .agg #[.int .i64 0, .int .i64 1]) (by simp [results, Tryz.results148, go_sem]) rfl ⟨rfl, ?_⟩
 exact one_more _
def shN (n d c : Int) : Int := opNum (vldB n d) (n * 1 + c * d) (d * 1)
def shD (n d c : Int) : Int := opDen (vldB n d) (n * 1 + c * d) (d * 1)
def shE (n d c : Int) : Int := opErr (vldB n d) (n * 1 + c * d) (d * 1)
theorem mk_one {c : Int} (h1 : -2147483647 ≤ c) (h2 : c ≤ 2147483647) : mkNum c 1 = c ∧ mkDen c 1 = 1 ∧ vldB c 1 = true := by
 have g : Nat.gcd c.natAbs 1 = 1 := Nat.gcd_one_right _
 have t : top c 1 = c.natAbs := by unfold top; simp
 have b : bot c 1 = 1 := by unfold bot; simp
 have f : fits c 1 = true := by unfold fits; rw [t, b]; simp; omega
 refine ⟨?_, ?_, ?_⟩
 · unfold mkNum; rw [if_neg (by omega), f, t]
   simp
   split <;> omega
 · unfold mkDen; rw [if_neg (by omega), f, b]; rfl
 · unfold vldB; simp [g]; omega
def lsB (n d m c : Int) (e : Bool) : Bool := if vldB n d && vldB m c then decide (n * c < m * d) || (decide (n * c = m * d) && e) else e
structure Dl where
 ln : Int
 ld : Int
 hn : Int
 hd : Int
 lo : Bool
 ho : Bool
 nh : Bool
def Dl.cs (x : Dl) : Array Value := #[.int .i64 x.ln, .int .i64 x.ld, .int .i64 x.hn, .int .i64 x.hd, .bool x.lo, .bool x.ho, .bool x.nh]
def Dl.zero : Dl := ⟨0, 0, 0, 0, false, false, false⟩
def Drow (w : World) (b : Nat) (A : Array Value) : Prop := w.heap[b]? = some (.cells A 86 (0, 0))
theorem Drow.lt {w : World} {b : Nat} {A : Array Value} (h : Drow w b A) : b < w.heap.size := by
 by_cases e : b < w.heap.size
 · exact e
 · have := h; unfold Drow at this; rw [Array.getElem?_eq_none (by omega)] at this; cases this
theorem Drow.kept {w w' : World} {b : Nat} {A : Array Value} (h : Drow w b A) (hb : Below w.heap.size w w') : Drow w' b A := (hb.block b h.lt).trans h
theorem Drow.made (w : World) (A : Array Value) : Drow (w.alloc (.cells A 86)) w.heap.size A := heap_alloc_last w _
theorem Drow.cell {w : World} {b : Nat} {A : Array Value} (h : Drow w b A) (k : Nat) : w.cell? ⟨b, k, none⟩ = A[k]? := cell_of_row _ _ k A _ _ h
theorem Drow.free {w : World} {b : Nat} {A : Array Value} (h : Drow w b A) (k : Nat) : w.frozen? ⟨b, k, none⟩ = false := frozen_of_row w b k _ _ h
theorem Drow.put {w : World} {b : Nat} {A : Array Value} (h : Drow w b A) (k : Nat) (v : Value) : Drow (w.setCell ⟨b, k, none⟩ v) b (A.setIfInBounds k v) := by
 unfold Drow
 rw [heap_setCell_same w b _ _ _ _ h]
def Dbx (w : World) (b : Nat) (x : Dl) : Prop := Drow w b x.cs
theorem Dbx.facts {w : World} {b : Nat} {x : Dl} (h : Dbx w b x) : w.cell? ⟨b, 0, none⟩ = some (.int .i64 x.ln) ∧ w.cell? ⟨b, 1, none⟩ = some (.int .i64 x.ld) ∧ w.cell? ⟨b, 2, none⟩ = some (.int .i64 x.hn) ∧ w.cell? ⟨b, 3, none⟩ = some (.int .i64 x.hd) ∧
  w.cell? ⟨b, 4, none⟩ = some (.bool x.lo) ∧ w.cell? ⟨b, 5, none⟩ = some (.bool x.ho) ∧ w.cell? ⟨b, 6, none⟩ = some (.bool x.nh) :=
 ⟨h.cell 0, h.cell 1, h.cell 2, h.cell 3, h.cell 4, h.cell 5, h.cell 6⟩
theorem Dbx.frees {w : World} {b : Nat} {x : Dl} (h : Dbx w b x) : w.frozen? ⟨b, 0, none⟩ = false ∧ w.frozen? ⟨b, 1, none⟩ = false ∧ w.frozen? ⟨b, 2, none⟩ = false ∧ w.frozen? ⟨b, 3, none⟩ = false ∧
  w.frozen? ⟨b, 4, none⟩ = false ∧ w.frozen? ⟨b, 5, none⟩ = false ∧ w.frozen? ⟨b, 6, none⟩ = false :=
 ⟨h.free 0, h.free 1, h.free 2, h.free 3, h.free 4, h.free 5, h.free 6⟩
theorem Dbx.kept {w w' : World} {b : Nat} {x : Dl} (h : Dbx w b x) (hb : Below w.heap.size w w') : Dbx w' b x := Drow.kept h hb
theorem Dbx.all {w : World} {b : Nat} {x : Dl} (h : Dbx w b x) (y : Dl) : Dbx (((((((w.setCell ⟨b, 0, none⟩ (.int .i64 y.ln)).setCell ⟨b, 1, none⟩ (.int .i64 y.ld)).setCell ⟨b, 2, none⟩ (.int .i64 y.hn)).setCell ⟨b, 3, none⟩ (.int .i64 y.hd)).setCell ⟨b, 4, none⟩ (.bool y.lo)).setCell ⟨b, 5, none⟩ (.bool y.ho)).setCell ⟨b, 6, none⟩ (.bool y.nh)) b y := by
 have := ((((((Drow.put h 0 (.int .i64 y.ln)).put 1 (.int .i64 y.ld)).put 2 (.int .i64 y.hn)).put 3 (.int .i64 y.hd)).put 4 (.bool y.lo)).put 5 (.bool y.ho)).put 6 (.bool y.nh)
 simpa [Dbx, Dl.cs] using this
theorem below_seven {B b : Nat} {w w2 : World} (h : Below B w w2) (hb : B ≤ b) (v0 v1 v2 v3 v4 v5 v6 : Value) : Below B w (((((((w2.setCell ⟨b, 0, none⟩ v0).setCell ⟨b, 1, none⟩ v1).setCell ⟨b, 2, none⟩ v2).setCell ⟨b, 3, none⟩ v3).setCell ⟨b, 4, none⟩ v4).setCell ⟨b, 5, none⟩ v5).setCell ⟨b, 6, none⟩ v6) :=
 ((((((h.setCell hb v0).setCell hb v1).setCell hb v2).setCell hb v3).setCell hb v4).setCell hb v5).setCell hb v6
theorem Pair.grown {w w' : World} {b g : Nat} {x y : Int} (h : Pair w b x y) (hg : w.grownBy w' (some g)) (hne : b ≠ g) : Pair w' b x y :=
 ⟨⟨hg.cell h.1.1 (by simpa using hne), (World.frozen?_of_block (hg.block _ h.1.lt (by simpa using hne))).trans h.1.2⟩, ⟨hg.cell h.2.1 (by simpa using hne), (World.frozen?_of_block (hg.block _ h.2.lt (by simpa using hne))).trans h.2.2⟩⟩
theorem Dbx.grown {w w' : World} {b g : Nat} {x : Dl} (h : Dbx w b x) (hg : w.grownBy w' (some g)) (hne : b ≠ g) : Dbx w' b x := (hg.block b (Drow.lt h) (by simpa using hne)).trans h
def wuL (x : Dl) (n d u : Int) : Dl := if spE u = 0 then (if x.nh || lsB (shN n d (spC u)) (shD n d (spC u)) x.hn x.hd (spS u) then { x with hn := shN n d (spC u), hd := shD n d (spC u), ho := spS u, nh := false } else x) else x
def wuE (n d u : Int) : Int := if spE u = 0 then shE n d (spC u) else 0
def wlL (x : Dl) (n d l : Int) : Dl := if spE l = 0 then (if lsB x.ln x.ld (shN n d (-spC l)) (shD n d (-spC l)) (spS l) then { x with ln := shN n d (-spC l), ld := shD n d (-spC l), lo := spS l } else x) else x
def wlE (n d l : Int) : Int := if spE l = 0 then shE n d (-spC l) else 0
def wiE (n d u l : Int) : Int := if wuE n d u ≠ 0 then wuE n d u else wlE n d l
def wiL (x : Dl) (n d u l : Int) : Dl := if wiE n d u l = 0 then wlL (wuL x n d u) n d l else Dl.zero
def Dl.Ok (x : Dl) : Prop := I64 x.ln ∧ I64 x.ld ∧ I64 x.hn ∧ I64 x.hd
theorem opNum_64 (v : Bool) (p q : Int) : I64 (opNum v p q) := by
 unfold opNum I64
 cases v
 · simp
 · have := mkNum_bd p q
   simp only [if_true]; omega
theorem opDen_64 (v : Bool) (p q : Int) : I64 (opDen v p q) := by
 unfold opDen I64
 cases v
 · simp
 · have := mkDen_bd p q
   simp only [if_true]; omega
theorem wuL_ok {x : Dl} (h : x.Ok) (n d u : Int) : (wuL x n d u).Ok := by
 unfold wuL
 obtain ⟨h1, h2, h3, h4⟩ := h
 split
 · split
   · exact ⟨h1, h2, opNum_64 _ _ _, opDen_64 _ _ _⟩
   · exact ⟨h1, h2, h3, h4⟩
 · exact ⟨h1, h2, h3, h4⟩
theorem wlL_ok {x : Dl} (h : x.Ok) (n d l : Int) : (wlL x n d l).Ok := by
 unfold wlL
 obtain ⟨h1, h2, h3, h4⟩ := h
 split
 · split
   · exact ⟨opNum_64 _ _ _, opDen_64 _ _ _, h3, h4⟩
   · exact ⟨h1, h2, h3, h4⟩
 · exact ⟨h1, h2, h3, h4⟩
theorem lv_two' {a : Int} (h : lvB a = true) : a = 1099511627776 ∨ (-2147483648 ≤ a ∧ a ≤ 2147483649) := by unfold lvB at h; simpa using h
theorem spC_bd (l : Int) : -1073741824 ≤ spC l ∧ spC l ≤ 1073741824 := by
 unfold spC
 split
 · rename_i h
   simp only [Bool.and_eq_true, Bool.not_eq_true'] at h
   have := lv_two' h.1
   have h2 := h.2
   unfold noB at h2
   simp at h2
   omega
 · omega
def Bx (w : World) (b : Nat) (A : Array Value) : Prop := ∃ t, w.heap[b]? = some (.cells A t (0, 0))
theorem Bx.lt {w : World} {b : Nat} {A : Array Value} (h : Bx w b A) : b < w.heap.size := by
 obtain ⟨t, h⟩ := h
 by_cases c : b < w.heap.size
 · exact c
 · rw [Array.getElem?_eq_none (by omega)] at h; cases h
theorem Bx.kept {w w' : World} {b : Nat} {A : Array Value} (h : Bx w b A) (hb : Below w.heap.size w w') : Bx w' b A := by
 have hl := h.lt
 obtain ⟨t, h⟩ := h
 exact ⟨t, (hb.block b hl).trans h⟩
theorem Bx.made (w : World) (A : Array Value) (t : TypeId) : Bx (w.alloc (.cells A t)) w.heap.size A := ⟨t, heap_alloc_last w _⟩
theorem Bx.cell {w : World} {b : Nat} {A : Array Value} (h : Bx w b A) (k : Nat) : w.cell? ⟨b, k, none⟩ = A[k]? := by
 obtain ⟨t, h⟩ := h
 exact cell_of_row _ _ k A _ _ h
end Go.Proofs.YthjapmdfcbngmaaGreat
