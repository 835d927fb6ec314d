/- A part. -/
import Derived.Test.YtaegiihkgicdnaaGreatWt6
import Derived.Test.YtaegiihkgicdnaaGreatWt7
import Derived.Lib.SliceRun

namespace Go.Proofs.YtaegiihkgicdnaaGreat
open Go.RowKit

def Arg (w : World) (ao : Option Addr) (l : List Int) : Prop := l ≠ [] → ∃ a, ao = some a ∧ Rd w a l

theorem Arg.on {w w' : World} {ao : Option Addr} {l : List Int} (h : Arg w ao l) (hb : Below w.heap.size w w') : Arg w' ao l := fun hl => by
  obtain ⟨a, h1, h2⟩ := h hl
  exact ⟨a, h1, h2.on hb⟩

theorem dim_nat {N : Int} (h : dimB N = true) : ∃ n : Nat, N = n ∧ n ≤ 10 := by
  unfold dimB at h; simp at h
  exact ⟨N.toNat, by omega, by omega⟩

theorem chk_ok {N : Int} {l : List Int} (h : chkE N l = 0) : ∃ n : Nat, N = n ∧ n ≤ 10 ∧ l.length = (n + 1) * (n + 1) ∧ l ≠ [] := by
  unfold chkE at h
  split at h
  · rename_i c
    unfold chkB at c
    simp only [Bool.and_eq_true, decide_eq_true_eq] at c
    obtain ⟨n, rfl, hn⟩ := dim_nat c.1.1.1
    have hl := c.1.1.2
    simp at hl
    refine ⟨n, rfl, hn, hl, fun e => ?_⟩
    have := dsq_pos n
    rw [e] at hl; simp at hl
  · omega

theorem chk_two {N : Int} {l : List Int} (h : chkE N l ≠ 0) : chkE N l = 2 := by
  unfold chkE at h ⊢; split <;> simp_all

theorem check_gen (N : Int) (l : List Int) (ao : Option Addr) (cap : Nat) (w : World) (hA : Arg w ao l) :
    Calls Tryz.prog 39 #[.agg #[.int .i64 N, .slice ao l.length cap]] w (Made (.int .i64 (chkE N l)) w) := by
  cases hd : dimB N
  · exact check_bad1 N l ao cap w hd
  · obtain ⟨n, rfl, hn⟩ := dim_nat hd
    by_cases hl : l.length = (n + 1) * (n + 1)
    · obtain ⟨a, rfl, hR⟩ := hA (fun e => by have := dsq_pos n; rw [e] at hl; simp at hl)
      exact check_any n l a cap w hn hl hR
    · exact check_bad2 n l ao cap w hn hl

theorem check_as {N : Int} {l : List Int} {ao : Option Addr} {cap : Nat} {e : Int} (w : World) (hA : Arg w ao l) (h : chkE N l = e) :
    Calls Tryz.prog 39 #[.agg #[.int .i64 N, .slice ao l.length cap]] w (Made (.int .i64 e) w) := by rw [← h]; exact check_gen N l ao cap w hA

theorem zres_bad {w w' : World} {N : Int} {l : List Int} (hb : Below w.heap.size w w') : ZRes w N l 2 (.returned (.tuple #[.agg #[.int .i64 0, .slice none 0 0], .int .i64 2])) w' := ⟨hb, Or.inr ⟨by decide, rfl⟩⟩

theorem ZRes.bad {w w' : World} {N : Int} {l l' : List Int} {er : Int} {N' : Int} {e : Ending} (h : ZRes w N l 2 e w') (he : er = 2) : ZRes w N' l' er e w' := by
  subst he
  refine ⟨h.1, ?_⟩
  rcases h.2 with ⟨c, _⟩ | c
  · omega
  · exact Or.inr c

set_option maxHeartbeats 400000 in
theorem up_bad (N : Int) (l : List Int) (ao : Option Addr) (cap : Nat) (w : World) (hA : Arg w ao l) (hc : chkE N l = 2) :
    Calls Tryz.prog 63 #[.agg #[.int .i64 N, .slice ao l.length cap]] w (ZRes w 0 [] 2) := by
  have CK := Lib.hid fun W (h : Below w.heap.size w W) => check_as (cap := cap) W (hA.on h) hc
  generalize l.length = len at *
  obtain ⟨w0, hw0⟩ : ∃ w0, w0 = (w.alloc (.cells #[.int .i64 N, .slice ao len cap] 36)).alloc (.cells #[.int .i64 0, .slice none 0 0] 36) := ⟨_, rfl⟩
  have bx : Two w0 w.heap.size (.int .i64 N) (.slice ao len cap) := by rw [hw0]; exact (Two.made _ _ _ _).alloc _
  have rs : Two w0 (w.heap.size + 1) (.int .i64 0) (.slice none 0 0) := by
    rw [hw0]
    have := Two.made (w.alloc (.cells #[.int .i64 N, .slice ao len cap] 36)) (.int .i64 0) (.slice none 0 0) 36
    simpa using this
  have e0 : Below w.heap.size w w0 := by rw [hw0]; exact past_two (Below.refl _ _)
  have E0 := Lib.hid e0
  clear e0 hA hc
  go_enter Tryz.func63, Tryz.ntmps63
  go_wp2_with fail
  rw [← hw0]
  clear hw0
  obtain ⟨b0, b1, b2, b3⟩ := bx.facts
  go_wp2_with fail
  refine (CK.out _ E0.out).mono ?_
  rintro e w1 ⟨rfl, hb1⟩
  clear b0 b1 b2 b3
  replace rs := rs.kept hb1
  replace E0 := Lib.hid (below_on E0.out hb1)
  clear hb1 bx
  obtain ⟨b0, b1, b2, b3⟩ := rs.facts
  go_wp2_with fail
  refine bodyPost_ret (v := .tuple #[.agg #[.int .i64 0, .slice none 0 0], .int .i64 2]) (by simp [results, Tryz.results63, go_sem, b0, b1]) rfl (zres_bad ?_)
  exact (E0.out.setCell (by show w.heap.size ≤ w.heap.size + 1; omega) _).setCell (by show w.heap.size ≤ w.heap.size + 1; omega) _

def upE (N : Int) (l : List Int) : Int := if chkE N l = 0 then cloE N.toNat (upL N.toNat l) else 2

theorem up_gen (N : Int) (l : List Int) (ao : Option Addr) (cap : Nat) (w : World) (hA : Arg w ao l) :
    Calls Tryz.prog 63 #[.agg #[.int .i64 N, .slice ao l.length cap]] w (ZRes w N (Zo.clo N.toNat (upL N.toNat l)) (upE N l)) := by
  by_cases hc : chkE N l = 0
  · obtain ⟨n, rfl, hn, hl, hne⟩ := chk_ok hc
    obtain ⟨a, rfl, hR⟩ := hA hne
    have := up_any n l a cap w hn hl hR hc
    rw [show upE (n : Int) l = cloE n (upL n l) by unfold upE; rw [if_pos hc]; rfl]
    exact this
  · exact (up_bad N l ao cap w hA (chk_two hc)).mono fun e w' h => h.bad (by unfold upE; rw [if_neg hc])

set_option maxHeartbeats 400000 in
theorem dn_bad (N : Int) (l : List Int) (ao : Option Addr) (cap : Nat) (w : World) (hA : Arg w ao l) (hc : chkE N l = 2) :
    Calls Tryz.prog 66 #[.agg #[.int .i64 N, .slice ao l.length cap]] w (ZRes w 0 [] 2) := by
  have CK := Lib.hid fun W (h : Below w.heap.size w W) => check_as (cap := cap) W (hA.on h) hc
  generalize l.length = len at *
  obtain ⟨w0, hw0⟩ : ∃ w0, w0 = (w.alloc (.cells #[.int .i64 N, .slice ao len cap] 36)).alloc (.cells #[.int .i64 0, .slice none 0 0] 36) := ⟨_, rfl⟩
  have bx : Two w0 w.heap.size (.int .i64 N) (.slice ao len cap) := by rw [hw0]; exact (Two.made _ _ _ _).alloc _
  have rs : Two w0 (w.heap.size + 1) (.int .i64 0) (.slice none 0 0) := by
    rw [hw0]
    have := Two.made (w.alloc (.cells #[.int .i64 N, .slice ao len cap] 36)) (.int .i64 0) (.slice none 0 0) 36
    simpa using this
  have e0 : Below w.heap.size w w0 := by rw [hw0]; exact past_two (Below.refl _ _)
  have E0 := Lib.hid e0
  clear e0 hA hc
  go_enter Tryz.func66, Tryz.ntmps66
  go_wp2_with fail
  rw [← hw0]
  clear hw0
  obtain ⟨b0, b1, b2, b3⟩ := bx.facts
  go_wp2_with fail
  refine (CK.out _ E0.out).mono ?_
  rintro e w1 ⟨rfl, hb1⟩
  clear b0 b1 b2 b3
  replace rs := rs.kept hb1
  replace E0 := Lib.hid (below_on E0.out hb1)
  clear hb1 bx
  obtain ⟨b0, b1, b2, b3⟩ := rs.facts
  go_wp2_with fail
  refine bodyPost_ret (v := .tuple #[.agg #[.int .i64 0, .slice none 0 0], .int .i64 2]) (by simp [results, Tryz.results66, go_sem, b0, b1]) rfl (zres_bad ?_)
  exact (E0.out.setCell (by show w.heap.size ≤ w.heap.size + 1; omega) _).setCell (by show w.heap.size ≤ w.heap.size + 1; omega) _

def dnE (N : Int) (l : List Int) : Int := if chkE N l = 0 then cloE N.toNat (dnL N.toNat l) else 2

theorem dn_gen (N : Int) (l : List Int) (ao : Option Addr) (cap : Nat) (w : World) (hA : Arg w ao l) :
    Calls Tryz.prog 66 #[.agg #[.int .i64 N, .slice ao l.length cap]] w (ZRes w N (Zo.clo N.toNat (dnL N.toNat l)) (dnE N l)) := by
  by_cases hc : chkE N l = 0
  · obtain ⟨n, rfl, hn, hl, hne⟩ := chk_ok hc
    obtain ⟨a, rfl, hR⟩ := hA hne
    have := dn_any n l a cap w hn hl hR hc
    rw [show dnE (n : Int) l = cloE n (dnL n l) by unfold dnE; rw [if_pos hc]; rfl]
    exact this
  · exact (dn_bad N l ao cap w hA (chk_two hc)).mono fun e w' h => h.bad (by unfold dnE; rw [if_neg hc])
end Go.Proofs.YtaegiihkgicdnaaGreat

namespace Go.Proofs.YtaegiihkgicdnaaGreat
open Go.RowKit

theorem run_nil_cmp (w : World) (a : Option Addr) (n c : Nat) : (binOp .eql 34 (.slice a n c) (.slice none 0 0)).run Tryz.prog w = .ok (.bool a.isNone) w := Lib.run_eql_slice_nil w _ _ a n c 0 0 Tryz.underlying34

set_option maxRecDepth 100000 in
set_option maxHeartbeats 2000000 in
theorem clone_any (l : List Int) (b off : Nat) (cap : Nat) (w : World) (h0 : 0 < l.length) (h1 : l.length ≤ 1000) (hR : Rd w ⟨b, off, none⟩ l) :
    Calls Tryz.prog 98 #[.slice (some ⟨b, off, none⟩) l.length cap] w
      (fun e w' => ∃ g c, e = .returned (.slice (some ⟨g, 0, none⟩) l.length c) ∧ w.heap.size ≤ g ∧ Own w' g c l ∧ Below w.heap.size w w') := by
  obtain ⟨i0, hi, hz0, hz1, hz2⟩ := info_parts Tryz.info37
  have q := run_nil_cmp
  have A := Lib.hid (show ∀ (w' : World), Below w.heap.size w w' → ∀ j u, (l.map (Value.int .i64))[j]? = some u → w'.cell? ((⟨b, off, none⟩ : Addr).add j) = some u from fun w' h => (hR.on h).map)
  have l1 : (l.map (Value.int .i64)).length = l.length * 1 := by simp
  have o1 : ∀ u ∈ l.map (Value.int .i64), u.oneCell' = true := by simp [Value.oneCell']
  generalize hxs : l.map (Value.int .i64) = xs at *
  have HXS := Lib.hid hxs
  clear hxs hR
  generalize hlen : l.length = len at *
  have HLEN := Lib.hid hlen
  clear hlen
  go_enter Tryz.func98, Tryz.ntmps98
  go_wp2_with (at_builtin; refine wpList_append_own _ rfl _ _ 34 rfl w.heap.size 37 i0 (.int .i64 0) 1 8 Tryz.underlying34 hi hz0 hz1 hz2 rfl (by decide) _ _ _ rfl (World.ownsRow_made w #[] 0 (Nat.le_refl _) (Nat.zero_le _) (by simp)) ⟨b, off, none⟩ len cap xs rfl ?qc1 ?qc2 ?qc3 ?qc4 ?qc5 ?qc6 ?_)
  case qc1 => exact l1
  case qc2 =>
    intro j u hj
    exact A.out _ (one_more (.cells #[] 37)) j u hj
  case qc3 => exact o1
  case qc4 => unfold maxLen; omega
  case qc5 => omega
  case qc6 => simp
  intro v' w1 hown hgrow hnil
  have hown' : w1.ownsRow w.heap.size 37 1 v' len xs := by simpa using hown
  obtain ⟨g, c, rfl⟩ := Joins.ownsRow_form hown' (by omega)
  go_wp2
  go_ret
  obtain ⟨ho, hg⟩ := own_of hown' HXS.out.symm HLEN.out.symm
  exact ⟨g, c, rfl, hg, ho, ((Below.refl _ w).alloc (Nat.le_refl _) _).grown hgrow (by simp) (by intro k hk; simp [Value.ownBlock] at hk; omega)⟩

theorem run_head (b : Nat) (y : Int) (k : Nat) (hy : y = (k : Int)) (hm : k ≤ 121) (w : World) :
    (Instr.sliceAt 118 (.pointer (some ⟨b, 1, none⟩)) none (some (.int .i64 y)) none).run Tryz.prog w = .ok (.slice (some ⟨b, 1, none⟩) k 121) w := by
  subst hy
  have ha : Tryz.prog.arrayLen 118 = 121 := by simp [Program.arrayLen]
  have he : Tryz.prog.elem 118 = 37 := by simp [Program.elem]
  rw [run_sliceAt_array_h w 118 ⟨b, 1, none⟩ (by rw [ha, he]; exact cells_ty) .i64 k (by omega) (by rw [ha]; omega)]
  rw [he, limit_size]
  simp only [Result.andThen_ok, slicedAt, Int.toNat_natCast, ha]
  rw [if_neg (by omega), Addr.add_mid]
  rfl

def GRes (b : Nat) (w : World) (N : Int) (l : List Int) (er : Int) (e : Ending) (w' : World) : Prop :=
  w.grownBy w' (some b) ∧ ((er = 0 ∧ ∃ g c, e = .returned (.tuple #[.agg #[.int .i64 N, .slice (some ⟨g, 0, none⟩) l.length c], .int .i64 0]) ∧ w.heap.size ≤ g ∧ Own w' g c l) ∨
    (er ≠ 0 ∧ e = .returned (.tuple #[.agg #[.int .i64 0, .slice none 0 0], .int .i64 er])))

theorem grown_two {w w' : World} {b x : Nat} (h : w.grownBy w' (some b)) (hx : w.heap.size ≤ x) (u v : Value) : w.grownBy ((w'.setCell ⟨x, 0, none⟩ u).setCell ⟨x, 1, none⟩ v) (some b) := by
  have e1 : w'.grownBy (w'.setCell ⟨x, 0, none⟩ u) (some x) := grown_put _ _ _ _
  have e2 : (w'.setCell ⟨x, 0, none⟩ u).grownBy ((w'.setCell ⟨x, 0, none⟩ u).setCell ⟨x, 1, none⟩ v) (some x) := grown_put _ _ _ _
  have e3 := grown_trans e1 e2
  exact ⟨e3.os.trans h.os, e3.tape.trans h.tape, e3.output.trans h.output, Nat.le_trans h.size e3.size, fun k hk hne => (e3.block k (Nat.lt_of_lt_of_le hk h.size) (by simp; omega)).trans (h.block k hk hne)⟩

theorem Mx.rd {w : World} {b n : Nat} {l : List Int} (h : Mx w b n l) : Rd w ⟨b, 1, none⟩ l := fun j hj => by rw [Addr.add_mid]; exact h.at hj

theorem grown_of_below {w w' : World} {r : Option Nat} (h : Below w.heap.size w w') : w.grownBy w' r := ⟨h.os, h.tape, h.output, h.size, fun k hk _ => h.block k hk⟩

theorem aside_two {w : World} {p : Addr} {x : Value} (h : w.cell? p = some x) {y : Nat} (hne : p.block ≠ y) (u v : Value) : ((w.setCell ⟨y, 0, none⟩ u).setCell ⟨y, 1, none⟩ v).cell? p = some x := by
  rw [World.cell?_setCell_other _ _ _ _ (fun e => hne (congrArg Addr.block e).symm), World.cell?_setCell_other _ _ _ _ (fun e => hne (congrArg Addr.block e).symm)]
  exact h

set_option maxRecDepth 100000 in
set_option maxHeartbeats 4000000 in
theorem mzone_any (b n : Nat) (l : List Int) (w : World) (hn : n ≤ 10) (h : Mx w b n l) (h64 : Zo.A64 l) :
    Calls Tryz.prog 144 #[.pointer (some ⟨b, 0, none⟩)] w (GRes b w n (Zo.clo n l) (cloE n l)) := by
  have hl := h.2
  have hb := h.lt
  obtain ⟨w0, hw0⟩ : ∃ w0, w0 = w.alloc (.cells #[.int .i64 0, .slice none 0 0] 36) := ⟨_, rfl⟩
  have M0 : Mx w0 b n l := by rw [hw0]; exact h.alloc _
  have rs : Two w0 w.heap.size (.int .i64 0) (.slice none 0 0) := by rw [hw0]; exact Two.made _ _ _ _
  have g0 : w.grownBy w0 (some b) := by rw [hw0]; exact World.grownBy_alloc _ _ _
  have z0 : w0.heap.size = w.heap.size + 1 := by rw [hw0]; simp
  have SH := Lib.hid (shorten_any b n l w0 hn M0 h64)
  have GB := Lib.hid g0
  have RS := Lib.hid rs
  clear h h64 M0 g0 rs
  go_enter Tryz.func144, Tryz.ntmps144
  go_wp2_with fail
  rw [← hw0]
  clear hw0
  go_wp2_with fail
  cases hB : cloB n l
  · have S0 := SH.out
    rw [hB] at S0
    refine S0.mono ?_
    rintro e w1 ⟨rfl, l', hM, hc⟩
    obtain rfl := hc rfl
    have hcl : (Zo.clo n l).length = (n + 1) * (n + 1) := by rw [Zo.clo_length, hl]
    have HCE := Lib.hid (show cloE n l = if (Zo.clo n l).all lvB then 0 else 7 by unfold cloE; rw [hB]; rfl)
    have c0 := hM.1.dim
    have KD := Lib.hid (show ∀ (w' : World), MSt w0 b n (Zo.clo n l) w' → w'.cell? ⟨b, 0, none⟩ = some (.int .i64 n) from fun w' h => h.1.dim)
    generalize hcc : Zo.clo n l = c at *
    have HM := Lib.hid hM
    have HL := Lib.hid hcl
    have HB := Lib.hid hB
    have HC := Lib.hid hcc
    clear hM S0 hB hcc SH
    have d2 := dsq_le hn
    have d1 := dsq_pos n
    have hr := run_head b ((((n + 1) * (n + 1) : Nat)) : Int) ((n + 1) * (n + 1)) rfl (dsq_le hn)
    have HP := Lib.hid (fun W => places_any n W hn)
    generalize hsz : (n + 1) * (n + 1) = sz at *
    have HSZ := Lib.hid hsz
    clear hsz hcl hl
    go_wp2_with fail
    refine wp_region_still_lit (by kernel_rfl) (by kernel_rfl) ?_
    repeat still_step
    still_call (HP.out _)
    repeat still_step
    refine wpStill_nil ?_
    clear c0 hr
    have HD := Lib.hid HM.out.drew
    change Exit.then _ _ _ _ (World.drew _)
    generalize w1.drew = w2 at *
    clear HM
    go_wp2_with fail
    go_loopw [22] (fun s wr => ∃ t : Nat, t ≤ sz ∧ s = .int .i64 t ∧ Hid (∀ i, i < t → lvB (Zo.gt c i) = true) ∧ Hid (MSt w0 b n c wr)) (fun s _ => sz - (intOf s).toNat)
    case atStart => exact ⟨0, by omega, rfl, Lib.hid (fun i hi => by omega), HD⟩
    case round =>
      clear HD
      obtain ⟨t, ht, rfl, HV, HT⟩ := hrel
      by_cases htn : t < sz
      · obtain ⟨v, hv⟩ : ∃ v, v = Zo.gt c t := ⟨_, rfl⟩
        have c1 : wr.cell? ⟨b, 1 + t, none⟩ = some (.int .i64 v) := by rw [hv]; exact HT.out.1.at (by rw [HL.out]; exact htn)
        have HVV := Lib.hid hv
        clear hv
        have PV := fun W => limValid_free v W
        cases lv : lvB v
        · rw [lv] at PV
          have HE := Lib.hid (show cloE n l = 7 by
            rw [HCE.out, if_neg]
            rw [List.all_eq_true]
            intro hall
            have := hall (c[t]'(by rw [HL.out]; exact htn)) (List.getElem_mem _)
            rw [show c[t]'(by rw [HL.out]; exact htn) = v by rw [HVV.out]; simp [Zo.gt, show t < c.length by rw [HL.out]; exact htn], lv] at this
            cases this)
          have PW := Lib.hid PV
          have rs1 := RS.out.grown HT.out.2 (by omega)
          obtain ⟨q0, q1, q2, q3⟩ := rs1.facts
          have HG := Lib.hid (grown_trans GB.out HT.out.2)
          clear PV
          go_wp2_with fail
          refine (PW.out _).mono ?_
          rintro e w3 ⟨rfl, rfl⟩
          go_wp2_with fail
          refine bodyPost_ret (v := .tuple #[.agg #[.int .i64 0, .slice none 0 0], .int .i64 7]) (by simp [results, Tryz.results144, go_sem, q0, q1]) rfl ⟨grown_two HG.out (Nat.le_refl _) _ _, Or.inr ⟨by rw [HE.out]; decide, by rw [HE.out]⟩⟩
        · rw [lv] at PV
          have PW := Lib.hid PV
          have HLV := Lib.hid lv
          clear PV lv
          go_wp2_with fail
          refine (PW.out _).mono ?_
          rintro e w3 ⟨rfl, rfl⟩
          clear c1
          go_wp2_with fail
          go_roundw
          case rel =>
            refine ⟨t + 1, by omega, by go_num, Lib.hid (fun i hi => ?_), HT⟩
            by_cases e : i = t
            · rw [e, ← HVV.out]; exact HLV.out
            · exact HV.out i (by omega)
          case measure => simp [intOf]; omega
      · have HE := Lib.hid (show cloE n l = 0 by
          rw [HCE.out, if_pos]
          rw [List.all_eq_true]
          intro x hx
          obtain ⟨i, hi, rfl⟩ := List.getElem_of_mem hx
          have := HV.out i (by have := HL.out; omega)
          simpa [Zo.gt, hi] using this)
        have rs1 := RS.out.grown HT.out.2 (by omega)
        have CL := Lib.hid (show ∀ w', MSt w0 b n c w' → Calls Tryz.prog 98 #[.slice (some ⟨b, 1, none⟩) sz 121] w' (fun e w'' => ∃ g cc, e = .returned (.slice (some ⟨g, 0, none⟩) sz cc) ∧ w'.heap.size ≤ g ∧ Own w'' g cc c ∧ Below w'.heap.size w' w'') from fun w' h => by
          have := clone_any c b 1 121 w' (by rw [HL.out]; exact d1) (by rw [HL.out]; omega) h.1.rd
          rwa [HL.out] at this)
        go_wp2_with fail
        have HDR := Lib.hid HT.out.drew
        have RSD := Lib.hid (show Two wr.drew w.heap.size (.int .i64 0) (.slice none 0 0) from rs1)
        clear rs1
        have c1 := KD.out _ HDR.out
        go_region_held3 (fun w' => w'.cell? ⟨b, 0, none⟩ = some (.int .i64 n)) (first | exact c1 | exact KD.out _ (by assumption) | exact c3 | exact c4 _ _)
          (first | (go_at_call 98; refine (CL.out _ HDR.out).mono ?_; rintro e w5 ⟨g, cc, rfl, hg, ho, hbe⟩; have c3 : w5.cell? ⟨b, 0, none⟩ = some (.int .i64 n) := kept hbe c1; have c4 : ∀ u v, ((w5.setCell ⟨w.heap.size, 0, none⟩ u).setCell ⟨w.heap.size, 1, none⟩ v).cell? ⟨b, 0, none⟩ = some (.int .i64 n) := (fun u v => aside_two c3 (by show b ≠ w.heap.size; omega) u v); obtain ⟨q0, q1, q2, q3⟩ := (RSD.out.kept hbe).facts))
        go_wp2_with fail
        have HG : w.grownBy w5 (some b) := grown_trans GB.out (grown_trans HDR.out.2 (grown_of_below hbe))
        have hg2 : w0.heap.size ≤ g := Nat.le_trans HDR.out.2.size hg
        refine bodyPost_ret (v := .tuple #[.agg #[.int .i64 n, .slice (some ⟨g, 0, none⟩) sz cc], .int .i64 0]) (by simp [results, Tryz.results144, go_sem, q0, q1]) rfl ⟨grown_two HG (Nat.le_refl _) _ _, Or.inl ⟨HE.out, g, cc, by rw [← HL.out], by omega, put_far ho (by omega) _ _⟩⟩
  · have S0 := SH.out
    rw [hB] at S0
    refine S0.mono ?_
    rintro e w1 ⟨rfl, l', hM, -⟩
    have HE := Lib.hid (show cloE n l = 4 by unfold cloE; rw [hB]; rfl)
    have rs1 := RS.out.grown hM.2 (by omega)
    obtain ⟨q0, q1, q2, q3⟩ := rs1.facts
    have HG := Lib.hid (grown_trans GB.out hM.2)
    clear hM S0 hB SH
    go_wp2_with fail
    refine bodyPost_ret (v := .tuple #[.agg #[.int .i64 0, .slice none 0 0], .int .i64 4]) (by simp [results, Tryz.results144, go_sem, q0, q1]) rfl ⟨grown_two HG.out (Nat.le_refl _) _ _, Or.inr ⟨by rw [HE.out]; decide, by rw [HE.out]⟩⟩
end Go.Proofs.YtaegiihkgicdnaaGreat

namespace Go.Proofs.YtaegiihkgicdnaaGreat
open Go.RowKit

def closeB (N : Int) (l : List Int) : Bool := dimB N && decide (l.length = (N.toNat + 1) * (N.toNat + 1)) && l.all lvB

def closeE (N : Int) (l : List Int) : Int := if closeB N l then cloE N.toNat l else 2

theorem closeE_bad1 {N : Int} {l : List Int} (h : dimB N = false) : closeE N l = 2 := by simp [closeE, closeB, h]

theorem closeE_bad2 {N : Int} {l : List Int} (h : l.length ≠ (N.toNat + 1) * (N.toNat + 1)) : closeE N l = 2 := by simp [closeE, closeB, h]

theorem closeE_bad3 {N : Int} {l : List Int} {k : Nat} (hk : k < l.length) (h : lvB (Zo.gt l k) = false) : closeE N l = 2 := by
  have : l.all lvB = false := by
    rw [List.all_eq_false]
    exact ⟨l[k], List.getElem_mem hk, by rw [show l[k] = Zo.gt l k by simp [Zo.gt, hk], h]; simp⟩
  simp [closeE, closeB, this]

theorem closeE_ok {n : Nat} {l : List Int} (hn : n ≤ 10) (hl : l.length = (n + 1) * (n + 1)) (h : ∀ k, k < l.length → lvB (Zo.gt l k) = true) : closeE (n : Int) l = cloE n l := by
  have h1 : l.all lvB = true := by
    rw [List.all_eq_true]
    intro x hx
    obtain ⟨k, hk, rfl⟩ := List.getElem_of_mem hx
    have := h k hk
    simpa [Zo.gt, hk] using this
  have d : dimB (n : Int) = true := by unfold dimB; simp; omega
  simp [closeE, closeB, d, hl, h1]

theorem two_res (w : World) : Two (w.alloc (.cells #[.int .i64 0, .slice none 0 0] 36)) w.heap.size (.int .i64 0) (.slice none 0 0) := Two.made _ _ _ _

set_option maxHeartbeats 400000 in
theorem close_bad1 (N : Int) (l : List Int) (ao : Option Addr) (cap : Nat) (w : World) (h : dimB N = false) :
    Calls Tryz.prog 81 #[.int .i64 N, .slice ao l.length cap] w (ZRes w 0 [] 2) := by
  have p := fun W => dimension_any N W
  rw [h] at p
  have PD := Lib.hid p
  obtain ⟨b0, b1, b2, b3⟩ := (two_res w).facts
  clear p h
  go_enter Tryz.func81, Tryz.ntmps81
  go_wp2_with fail
  refine (PD.out _).mono ?_
  rintro e w1 ⟨rfl, rfl⟩
  go_wp2_with fail
  refine bodyPost_ret (v := .tuple #[.agg #[.int .i64 0, .slice none 0 0], .int .i64 2]) (by simp [results, Tryz.results81, go_sem]) rfl (zres_bad ?_)
  exact one_more _

set_option maxHeartbeats 400000 in
theorem close_bad2 (n : Nat) (l : List Int) (ao : Option Addr) (cap : Nat) (w : World) (hn : n ≤ 10) (h : l.length ≠ (n + 1) * (n + 1)) :
    Calls Tryz.prog 81 #[.int .i64 n, .slice ao l.length cap] w (ZRes w 0 [] 2) := by
  have p := fun W => dimension_any n W
  rw [show dimB n = true by unfold dimB; simp; omega] at p
  have PD := Lib.hid p
  have t3 : ((n : Int) + 1) * ((n : Int) + 1) ≤ 121 ∧ 0 ≤ ((n : Int) + 1) * ((n : Int) + 1) := by
    have : (n + 1) * (n + 1) ≤ 11 * 11 := Nat.mul_le_mul (by omega) (by omega)
    constructor
    · exact_mod_cast this
    · exact_mod_cast Nat.zero_le _
  have h2 : ((l.length : Int) != ((n : Int) + 1) * ((n : Int) + 1)) = true := by
    simp; intro e; apply h; exact_mod_cast e
  generalize l.length = len at *
  obtain ⟨b0, b1, b2, b3⟩ := (two_res w).facts
  clear p h
  go_enter Tryz.func81, Tryz.ntmps81
  go_wp2_with fail
  refine (PD.out _).mono ?_
  rintro e w1 ⟨rfl, rfl⟩
  go_wp2_with fail
  refine bodyPost_ret (v := .tuple #[.agg #[.int .i64 0, .slice none 0 0], .int .i64 2]) (by simp [results, Tryz.results81, go_sem]) rfl (zres_bad ?_)
  exact one_more _

set_option maxHeartbeats 1600000 in
theorem close_any (n : Nat) (l : List Int) (a : Addr) (cap : Nat) (w : World) (hn : n ≤ 10) (hl : l.length = (n + 1) * (n + 1)) (hR : Rd w a l) :
    Calls Tryz.prog 81 #[.int .i64 n, .slice (some a) l.length cap] w (ZRes w n (Zo.clo n l) (closeE n l)) := by
  obtain ⟨len, hlen⟩ : ∃ len, len = l.length := ⟨_, rfl⟩
  obtain ⟨w0, hw0⟩ : ∃ w0, w0 = w.alloc (.cells #[.int .i64 0, .slice none 0 0] 36) := ⟨_, rfl⟩
  have rs : Two w0 w.heap.size (.int .i64 0) (.slice none 0 0) := by rw [hw0]; exact two_res w
  have e0 : Below w.heap.size w w0 := by rw [hw0]; exact one_more _
  have z0 : w0.heap.size = w.heap.size + 1 := by rw [hw0]; simp
  have HR := Lib.hid (hR.on e0)
  have CP : Hid (∀ W, Rd W a l → Calls Tryz.prog 93 #[.agg #[.int .i64 n, .slice (some a) len cap]] W (fun e w' => ∃ g c, e = .returned (.agg #[.int .i64 n, .slice (some ⟨g, 0, none⟩) len c]) ∧ W.heap.size ≤ g ∧ Own w' g c l ∧ Below W.heap.size W w')) := Lib.hid fun W h => by have := copied_any n l a cap W (by rw [hl]; exact dsq_pos n) (by rw [hl]; have := dsq_le hn; omega) h; rw [← hlen] at this; exact this
  have p := fun W => dimension_any n W
  rw [show dimB n = true by unfold dimB; simp; omega] at p
  have PD := Lib.hid p
  have t3 : ((n : Int) + 1) * ((n : Int) + 1) ≤ 121 ∧ 0 ≤ ((n : Int) + 1) * ((n : Int) + 1) := by
    have : (n + 1) * (n + 1) ≤ 11 * 11 := Nat.mul_le_mul (by omega) (by omega)
    constructor
    · exact_mod_cast this
    · exact_mod_cast Nat.zero_le _
  have h2 : ((len : Int) != ((n : Int) + 1) * ((n : Int) + 1)) = false := by
    rw [hlen, hl]; simp
  have lb : len ≤ 121 := by rw [hlen, hl]; exact dsq_le hn
  have lx : l.length = (n + 1) * (n + 1) := hl
  have HL := Lib.hid hl
  have HLn := Lib.hid hlen
  have E0 := Lib.hid e0
  rw [← hlen]
  clear p hl hlen hR e0 lx
  go_enter Tryz.func81, Tryz.ntmps81
  go_wp2_with fail
  rw [← hw0]
  clear hw0
  refine (PD.out _).mono ?_
  rintro e w1 ⟨rfl, rfl⟩
  go_wp2_with fail
  clear t3 h2
  go_loopw [6] (fun s wr => ∃ t : Nat, t ≤ len ∧ s = .int .i64 t ∧ Hid (∀ k, k < t → lvB (Zo.gt l k) = true) ∧ Hid (wr = w1)) (fun s _ => len - (intOf s).toNat)
  case atStart => exact ⟨0, by omega, rfl, Lib.hid (fun k hk => by omega), Lib.hid rfl⟩
  case round =>
    obtain ⟨t, ht, rfl, HK, HW⟩ := hrel
    have hwr := HW.out
    subst hwr
    clear HW
    by_cases htn : t < len
    · have d1 := HR.out t (by rw [← HLn.out]; exact htn)
      obtain ⟨x, hx⟩ : ∃ x, x = Zo.gt l t := ⟨_, rfl⟩
      rw [← hx] at d1
      have HXE := Lib.hid hx
      have v9 := fun W => refLimValid_free x W
      clear hx
      cases lv : lvB x
      · have HE := Lib.hid (closeE_bad3 (N := n) (l := l) (k := t) (by rw [← HLn.out]; exact htn) (by rw [← HXE.out]; exact lv))
        rw [lv] at v9
        have V9 := Lib.hid v9
        clear v9 lv
        obtain ⟨b0, b1, b2, b3⟩ := rs.facts
        go_wp2_with fail
        refine (V9.out _).mono ?_
        rintro e w2 ⟨rfl, rfl⟩
        go_wp2_with fail
        refine bodyPost_ret (v := .tuple #[.agg #[.int .i64 0, .slice none 0 0], .int .i64 2]) (by simp [results, Tryz.results81, go_sem, b0, b1]) rfl (ZRes.bad (zres_bad (N := 0) (l := []) ?_) HE.out)
        exact (E0.out.setCell (by show w.heap.size ≤ w.heap.size; omega) _).setCell (by show w.heap.size ≤ w.heap.size; omega) _
      · have HK2 := Lib.hid (show lvB (Zo.gt l t) = true by rw [← HXE.out]; exact lv)
        rw [lv] at v9
        have V9 := Lib.hid v9
        clear v9 lv
        go_wp2_with fail
        refine (V9.out _).mono ?_
        rintro e w2 ⟨rfl, rfl⟩
        go_wp2_with fail
        go_roundw
        case rel =>
          refine ⟨t + 1, by omega, by go_num, Lib.hid (fun k hk => ?_), by first | exact Lib.hid rfl | exact Lib.hid trivial⟩
          by_cases e : k = t
          · rw [e]; exact HK2.out
          · exact HK.out k (by omega)
        case measure => simp [intOf]; omega
    · have HAE := Lib.hid (closeE_ok hn HL.out (fun k hk => HK.out k (by rw [← HLn.out] at hk; omega)))
      go_wp2_with fail
      refine (CP.out _ HR.out).mono ?_
      rintro e w2 ⟨g, c, rfl, hg, ho, hb2⟩
      have rs2 := rs.kept hb2
      have E2 := Lib.hid (below_on E0.out hb2)
      have HO := Lib.hid ho
      have z2 := hb2.size
      clear hb2 ho
      go_wp2_with fail
      by_cases hE : cloE n l = 0
      · have CL : Hid (∀ W, Own W g c l → Calls Tryz.prog 94 #[.agg #[.int .i64 n, .slice (some ⟨g, 0, none⟩) len c]] W (fun e w' => e = .returned (.tuple #[.agg #[.int .i64 n, .slice (some ⟨g, 0, none⟩) len c], .int .i64 0]) ∧ Own w' g c (Zo.clo n l) ∧ W.grownBy w' (some g))) := Lib.hid fun W h => by have := closed_ok W hn HL.out h hE; rw [← HLn.out] at this; exact this
        have HEE := Lib.hid hE
        clear hE
        refine (CL.out _ HO.out).mono ?_
        rintro e w5 ⟨rfl, ho5, hg5⟩
        have rs5 := rs2.grown hg5 (by omega)
        obtain ⟨q0, q1, q2, q3⟩ := rs5.facts
        have E5 := Lib.hid (grown_over E2.out hg5 (by omega))
        have HO5 := Lib.hid ho5
        clear ho5 hg5
        go_wp2_with fail
        refine bodyPost_ret (v := .tuple #[.agg #[.int .i64 n, .slice (some ⟨g, 0, none⟩) len c], .int .i64 0]) (by simp [results, Tryz.results81, go_sem, q0, q1]) rfl ⟨(E5.out.setCell (by show w.heap.size ≤ w.heap.size; omega) _).setCell (by show w.heap.size ≤ w.heap.size; omega) _, Or.inl ⟨by rw [HAE.out]; exact HEE.out, g, c, ?_, by omega, ?_⟩⟩
        · rw [Zo.clo_length, ← HLn.out]
        · exact put_far HO5.out (by omega) _ _
      · have CL : Hid (∀ W, Own W g c l → Calls Tryz.prog 94 #[.agg #[.int .i64 n, .slice (some ⟨g, 0, none⟩) len c]] W (fun e w' => e = .returned (.tuple #[.agg #[.int .i64 0, .slice none 0 0], .int .i64 (cloE n l)]) ∧ Own w' g c (Zo.clo n l) ∧ W.grownBy w' (some g))) := Lib.hid fun W h => by have := closed_no W hn HL.out h hE; rw [← HLn.out] at this; exact this
        have HEE := Lib.hid hE
        clear hE
        refine (CL.out _ HO.out).mono ?_
        rintro e w5 ⟨rfl, ho5, hg5⟩
        have rs5 := rs2.grown hg5 (by omega)
        obtain ⟨q0, q1, q2, q3⟩ := rs5.facts
        have E5 := Lib.hid (grown_over E2.out hg5 (by omega))
        have HO5 := Lib.hid ho5
        clear ho5 hg5
        go_wp2_with fail
        refine bodyPost_ret (v := .tuple #[.agg #[.int .i64 0, .slice none 0 0], .int .i64 (cloE n l)]) (by simp [results, Tryz.results81, go_sem, q0, q1]) rfl ⟨(E5.out.setCell (by show w.heap.size ≤ w.heap.size; omega) _).setCell (by show w.heap.size ≤ w.heap.size; omega) _, Or.inr ⟨by rw [HAE.out]; exact HEE.out, ?_⟩⟩
        rw [HAE.out]

theorem close_gen (N : Int) (l : List Int) (ao : Option Addr) (cap : Nat) (w : World) (hA : Arg w ao l) :
    Calls Tryz.prog 81 #[.int .i64 N, .slice ao l.length cap] w (ZRes w N (Zo.clo N.toNat l) (closeE N l)) := by
  cases hd : dimB N
  · exact (close_bad1 N l ao cap w hd).mono fun e w' h => h.bad (closeE_bad1 hd)
  · obtain ⟨n, rfl, hn⟩ := dim_nat hd
    by_cases hl : l.length = (n + 1) * (n + 1)
    · obtain ⟨a, rfl, hR⟩ := hA (fun e => by have := dsq_pos n; rw [e] at hl; simp at hl)
      exact close_any n l a cap w hn hl hR
    · exact (close_bad2 n l ao cap w hn hl).mono fun e w' h => h.bad (closeE_bad2 (by simpa using hl))
end Go.Proofs.YtaegiihkgicdnaaGreat
