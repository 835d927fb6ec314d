/- The contract of Least of layer 7's reference. -/
import Derived.Test.YtbhaoaobhgilkaaGreatWm3
import Derived.Test.YtbhaoaobhgilkaaGreatWm45
import Derived.Test.YtbhaoaobhgilkaaGreatWm42

namespace Go.Proofs.YtbhaoaobhgilkaaGreat
open Go.RowKit Go.Sort Go.Shelf

def LsO (n : Int) (L : List AV) (a : List Int) (w : World) (e : Ending) (w' : World) : Prop := Below w.heap.size w w' ∧ e = .returned (.tuple #[.agg #[.int .i64 (leaX n L a).v.1, .int .i64 (leaX n L a).v.2], .bool ((leaX n L a).ex && !(leaX n L a).op), .int .i64 (leaE n L a)])

theorem ls_bad {n : Int} {L : List AV} {a : List Int} {c : Int} (h : leaE n L a = c) (hc : c ≠ 0) {w w' : World} (hb : Below w.heap.size w w') : LsO n L a w (.returned (.tuple #[.agg #[.int .i64 0, .int .i64 0], .bool false, .int .i64 c])) w' := by
  have e : leaX n L a = en0 := by unfold leaX; rw [if_neg (by rw [h]; exact hc)]
  refine ⟨hb, ?_⟩
  rw [e, h]; rfl

theorem BkV.putq {w : World} {b : Nat} {y : AV} (h : BkV w b y) (q : Option Addr) (a : List Int) (c : Nat) : BkV (w.setCell ⟨b, 0, none⟩ (.slice q a.length c)) b (AV.mk q c a y.b y.s) := by
  unfold BkV
  rw [heap_setCell_same w b _ _ _ _ h]
  rfl

theorem RowC.asideP {w : World} {q : Nat} {cs : List Value} (h : RowC w q cs) {b : Nat} (hne : q ≠ b) (u v : Value) : RowC ((w.setCell ⟨b, 0, none⟩ u).setCell ⟨b, 1, none⟩ v) q cs := by
  unfold RowC at *
  rw [heap_setCell_other _ ⟨b, 1, none⟩ q v hne, heap_setCell_other _ ⟨b, 0, none⟩ q u hne]; exact h

theorem small_64 {z : Int} (h : -5 ≤ z ∧ z ≤ 10) : wrap64 z = z ∧ IntKind.i64.wrap z = z := ⟨by unfold wrap64; omega, wrap_in _ (by omega) (by omega)⟩

theorem small_i {i j k : Nat} (hi : i = k - 1 - j) (hjk : j < k) (hk : k ≤ 5) : (wrap64 ((i : Int) + 2) = (i : Int) + 2 ∧ IntKind.i64.wrap ((i : Int) + 2) = (i : Int) + 2) ∧ (wrap64 ((i : Int) - 1) = (i : Int) - 1 ∧ IntKind.i64.wrap ((i : Int) - 1) = (i : Int) - 1) := ⟨small_64 ⟨by omega, by omega⟩, small_64 ⟨by omega, by omega⟩⟩

theorem fld_run (x y z : Value) (w : World) : (Instr.field 25 (.agg #[x, y, z]) 0).run Tryz.prog w = .ok x w := by kernel_rfl

theorem yld_field {o : Oper} {a : Act} {w : World} (s : Operand) (ho : o.op = .field 25 s 0) (x y z : Value) (hs : a.eval s = .agg #[x, y, z]) : (execOp a.eval o).run Tryz.prog w = .ok (.value x) w := by
  unfold execOp
  simp only [ho, hs, Sem.run_bind, fld_run, Result.andThen_ok, Sem.run_pure]

set_option maxRecDepth 100000 in
set_option maxHeartbeats 8000000 in
theorem rleast_any (n : Int) (L : List AV) (a : List Int) (ao qo : Option Addr) (cap qc : Nat) (w : World) (hR : RdV w ao L) (hY : ∀ y ∈ L, y.a.length ≤ 1000000 ∧ NilOk y) (hA : Rd1 w qo a) (hN : qo = none → a = [] ∧ qc = 0) (hal : a.length ≤ 1000) :
    Calls Tryz.prog 31 #[.int .i64 n, .slice ao L.length cap, .slice qo a.length qc] w (LsO n L a w) := by
  obtain ⟨w0, hw0⟩ : ∃ w0, w0 = w.alloc (.cells #[.int .i64 0, .int .i64 0] 50) := ⟨_, rfl⟩
  have P0 := Lib.hid (show Pair w0 w.heap.size 0 0 by rw [hw0]; exact Pair.made _ _ _ _)
  have E0 := Lib.hid (show Below w.heap.size w w0 by rw [hw0]; exact one_more _)
  have CK := Lib.hid (rcheck_any n L ao cap w0 (hR.on E0.out) (fun y hy => (hY y hy).1))
  have PU := Lib.hid (show ∀ W, Below w0.heap.size w0 W → Pair W w.heap.size 0 0 from fun W h => P0.out.kept h)
  by_cases hc : chkP n L = 0
  case neg =>
    have FIN := Lib.hid (show ∀ w', Below w.heap.size w w' → LsO n L a w (.returned (.tuple #[.agg #[.int .i64 0, .int .i64 0], .bool false, .int .i64 (chkP n L)])) w' from fun w' hb => ls_bad (by unfold leaE; rw [if_neg hc]) hc hb)
    have h0' : (chkP n L != 0) = true := by simpa using hc
    generalize chkP n L = c at *
    generalize L.length = m at *
    clear hR hY hA hN hc
    go_enter Tryz.func31, Tryz.ntmps31
    go_upto_region 1 with (fail)
    rw [← hw0]
    clear hw0
    go_wp2_with fail
    refine CK.out.mono ?_
    rintro e w1 ⟨rfl, hb⟩
    have B1 := Lib.hid (below_on E0.out hb)
    obtain ⟨f0, f1, f2, f3⟩ := (PU.out w1 hb).facts
    clear hb
    go_wp2_with fail
    refine bodyPost_ret (v := .tuple #[.agg #[.int .i64 0, .int .i64 0], .bool false, .int .i64 c]) (by simp [results, Tryz.results31, go_sem, f0, f1]) rfl ?_
    exact FIN.out _ (below_put B1.out (Nat.le_refl _) _ _)
  rw [hc] at CK
  obtain ⟨⟨g1, g2⟩, g3, g4⟩ := chk_valid hc
  obtain ⟨n', rfl⟩ : ∃ n' : Nat, n = n' := ⟨n.toNat, by omega⟩
  have FV : ∀ z ∈ L, FitV n' z ∧ NilOk z := fun z hz => ⟨by simpa using valid_fitV (g4 z hz), (hY z hz).2⟩
  have LE := Lib.hid (show leaE n' L a = lsE n' L a by unfold leaE; rw [if_pos hc, Int.toNat_natCast])
  have zr := ofV_zr g4 (by omega)
  obtain ⟨d1, d2, d3⟩ := ofV_dom (n := n') (by omega) (fun y hy => (FV y hy).1)
  obtain ⟨A, hAe⟩ : ∃ A, A = a ++ [-1] := ⟨_, rfl⟩
  have VB := Lib.hid (show (∀ q c, validB ((n' : Int) + 1) (AV.mk q c A 0 false) = true) ∧ (a.length = n' ∧ a.all fitB = true) ∨ (∀ q c, validB ((n' : Int) + 1) (AV.mk q c A 0 false) = false) ∧ lsE n' L a = 2 from by
    have e : ∀ q c, validB ((n' : Int) + 1) (AV.mk q c A 0 false) = (decide (a.length = n') && a.all fitB) := fun q c => by
      unfold validB
      rw [hAe]
      simp only [List.length_append, List.length_cons, List.length_nil, List.all_append, List.all_cons, List.all_nil]
      have h1 : decide (((a.length + (0 + 1) : Nat) : Int) = (n' : Int) + 1) = decide (a.length = n') := by
        rw [decide_eq_decide]; omega
      rw [h1]
      have h2 : fitB (-1) = true := by decide
      have h3 : fitB 0 = true := by decide
      rw [h2, h3]; simp
    by_cases q : a.length = n' ∧ a.all fitB = true
    · exact Or.inl ⟨fun p c => by rw [e, q.2]; simpa using q.1, q⟩
    · refine Or.inr ⟨fun p c => ?_, by unfold lsE; rw [if_neg q]⟩
      rw [e]
      rw [← Bool.not_eq_true, Bool.and_eq_true, decide_eq_true_eq]
      exact q)
  have RA := Lib.hid (fun W (h : Below w.heap.size w W) => hA.on h)
  have RL := Lib.hid (fun W (h : Below w.heap.size w W) => hR.on h)
  have FVh := Lib.hid FV
  have HN := Lib.hid hN
  have HAL := Lib.hid hal
  have AE := Lib.hid hAe
  have MM := Lib.hid g3
  have N5 := Lib.hid (show n' ≤ 5 by omega)
  obtain ⟨l2, hl2⟩ : ∃ l2, l2 = infL (L.map ofV) n' a := ⟨_, rfl⟩
  have L2 := Lib.hid hl2
  have ZRL := Lib.hid zr
  have D2 := Lib.hid d2
  have FBAD := Lib.hid (show ∀ c, lsE n' L a = c → c ≠ 0 → ∀ w', Below w.heap.size w w' → LsO n' L a w (.returned (.tuple #[.agg #[.int .i64 0, .int .i64 0], .bool false, .int .i64 c])) w' from fun c h h0 w' hb => ls_bad (LE.out.trans h) h0 hb)
  obtain ⟨m, hm⟩ : ∃ m, m = L.length := ⟨_, rfl⟩
  have HM := Lib.hid hm
  obtain ⟨k, hk⟩ : ∃ k, k = a.length := ⟨_, rfl⟩
  have HK := Lib.hid hk
  rw [← hm] at CK ⊢
  rw [← hk]
  have hw1 : wrap64 ((n' : Int) + 1) = (n' : Int) + 1 := by unfold wrap64; omega
  have hw2 : IntKind.i64.wrap ((n' : Int) + 1) = (n' : Int) + 1 := wrap_in _ (by omega) (by omega)
  have hz := es_zero
  clear hR hY hA hN hc g1 g2 g3 g4 FV zr d1 d2 d3 hAe hl2 hm hk hal
  go_enter Tryz.func31, Tryz.ntmps31
  go_upto_region 1 with (fail)
  rw [← hw0]
  clear hw0
  go_wp2_with fail
  refine CK.out.mono ?_
  rintro e w1 ⟨rfl, hb⟩
  have B1 := Lib.hid hb
  have EM := Lib.hid (OwnI.empty w1 w1.heap.size (Nat.le_refl _))
  have R1 := Lib.hid (RA.out (w1.alloc (.cells #[] 2)) (below_on E0.out (below_on B1.out (one_more _))))
  have zb : w1.heap.size ≤ (w1.alloc (.cells #[] 2)).heap.size := by simp
  clear hb CK
  go_wp2_with (at_builtin; refine wpl_appI rfl _ _ rfl w1.heap.size w1.heap.size EM.out rfl qo a qc (by rw [← HK.out]; rfl) R1.out HN.out (by have := HAL.out; omega) zb ?_)
  intro g c' w2 o2 g2 h2
  have BB2 := Lib.hid (show Below w1.heap.size w1 w2 from Below.grown (one_more (w1 := w1) (.cells #[] 2)) g2 (by simp) (fun k hk => by injection hk with hk; omega))
  have C1 := Lib.hid (show (w2.alloc (.cells #[.int .i64 (-1)] 2)).cell? ⟨w2.heap.size, 0, none⟩ = some (.int .i64 (-1)) by rw [cell_of_row _ _ 0 _ _ _ (heap_alloc_last w2 _)]; rfl)
  have O2 := Lib.hid (show OwnJ (w2.alloc (.cells #[.int .i64 (-1)] 2)) w1.heap.size (.slice (some ⟨g, 0, none⟩) a.length c') a from OwnJ.on o2 (one_more _))
  have z2 : w1.heap.size ≤ (w2.alloc (.cells #[.int .i64 (-1)] 2)).heap.size := Nat.le_trans BB2.out.size (by simp)
  clear o2 g2 h2 EM zb R1
  go_wp2_with (at_builtin; refine wpl_appJ1 rfl _ _ rfl w1.heap.size _ a (-1) rfl O2.out _ _ rfl C1.out (by have := HAL.out; omega) z2 ?_)
  intro v' w5 o5 g5
  have BB5 := Lib.hid (show Below w1.heap.size w1 w5 from Below.grown (BB2.out.alloc BB2.out.size _) g5 z2 (fun k hk => (World.ownsRow.lt O2.out k hk).1))
  rw [← AE.out] at o5
  obtain ⟨q2, c2, hv, hrd, hnil, hlc, hcm, hfr⟩ := OwnJ.read o5
  subst hv
  have RD := Lib.hid hrd
  have NL := Lib.hid (show NilOk (AV.mk q2 c2 A 0 false) from And.intro hnil (And.intro hlc hcm))
  have FR := Lib.hid hfr
  obtain ⟨gy, hgy⟩ : ∃ gy, gy = AV.mk q2 c2 A 0 false := ⟨_, rfl⟩
  have GY := Lib.hid hgy
  obtain ⟨w6, hw6⟩ : ∃ w6, w6 = w5.alloc (.cells #[.slice none 0 0, .int .i64 0, .bool false] 25) := ⟨_, rfl⟩
  have K6 := Lib.hid (show BkV w6 w5.heap.size av0 by rw [hw6]; exact BkV.made w5 av0)
  have B6 := Lib.hid (show Below w1.heap.size w1 w6 by rw [hw6]; exact BB5.out.alloc BB5.out.size _)
  have B56 := Lib.hid (show Below w5.heap.size w5 w6 by rw [hw6]; exact one_more _)
  have K7 := Lib.hid (K6.out.setRow (z := gy))
  have B7 := Lib.hid (Below.setRow B6.out (b := w5.heap.size) BB5.out.size gy.cs)
  have B57 := Lib.hid (Below.setRow B56.out (b := w5.heap.size) (Nat.le_refl _) gy.cs)
  clear o5 g5 z2 hrd hnil hlc hcm hfr O2 C1
  go_upto_region 5 with (rw [← hw6]; refine wpl_storeV rfl _ _ rfl _ gy rfl (by rw [GY.out]; rfl) _ K6.out ?_)
  obtain ⟨w7, hw7⟩ : ∃ w7, w7 = w6.setRow w5.heap.size gy.cs := ⟨_, rfl⟩
  obtain ⟨q9, hq9⟩ : ∃ q9, q9 = w5.heap.size := ⟨_, rfl⟩
  rw [← hw7] at K7 B7 B57 ⊢
  rw [← hq9] at K7 ⊢
  have GR7 := Lib.hid (show Rd1 w7 gy.q gy.a by
    rw [GY.out]
    exact RD.out.on B57.out)
  have GL := Lib.hid (show gy.a.length = k + 1 by rw [GY.out, AE.out, HK.out]; simp)
  have VA := Lib.hid (rvalid_any ((n' : Int) + 1) gy w7 (by have := GL.out; have := HAL.out; have := HK.out; omega) GR7.out)
  have Q9 := Lib.hid hq9
  have Q79 := Lib.hid K7.out.lt
  have A7 := Lib.hid K7.out.avAt
  clear hw6 hw7 hq9 hgy K6
  have EL9 : (⟨q9, 0, none⟩ : Addr) = ⟨q9, 0, none⟩ := rfl
  clear EL9
  obtain ⟨vb, hvb⟩ : ∃ vb, vb = validB ((n' : Int) + 1) gy := ⟨_, rfl⟩
  have HVB := Lib.hid hvb
  rw [← hvb] at VA
  clear hvb
  go_wp2_with (refine wpl_loadV rfl _ rfl _ rfl gy A7.out ?_)
  refine VA.out.mono ?_
  rintro e w8 ⟨rfl, hb⟩
  have B78 := Lib.hid hb
  have B8 := Lib.hid (below_on B7.out hb)
  have EW8 := Lib.hid (below_on E0.out (below_on B1.out B8.out))
  have K8 := Lib.hid (K7.out.kept hb)
  obtain ⟨f0, f1, f2, f3⟩ := (PU.out w8 (below_on B1.out B8.out)).facts
  clear hb VA
  cases vb
  case false =>
    have FIN := Lib.hid (FBAD.out 2 (by
      rcases VB.out with ⟨h, _⟩ | ⟨_, h⟩
      · have := HVB.out; rw [GY.out, h] at this; cases this
      · exact h) (by decide))
    go_wp2_with fail
    refine bodyPost_ret (v := .tuple #[.agg #[.int .i64 0, .int .i64 0], .bool false, .int .i64 2]) (by simp [results, Tryz.results31, go_sem, f0, f1]) rfl ?_
    exact FIN.out _ (below_put EW8.out (Nat.le_refl _) _ _)
  have VV := Lib.hid (show a.length = n' ∧ a.all fitB = true from by
    rcases VB.out with ⟨_, h⟩ | ⟨h, _⟩
    · exact h
    · have := HVB.out; rw [GY.out, h] at this; cases this)
  have LSE := Lib.hid (show lsE n' L a = infE (L.map ofV) n' a by unfold lsE; rw [if_pos VV.out])
  obtain rfl : k = n' := HK.out.trans VV.out.1
  have LD := Lib.hid (show ∀ x ∈ l2, DomN (k + 1) x by rw [L2.out]; exact ls_dom N5.out ZRL.out VV.out.1)
  have LR := Lib.hid (show ∀ x ∈ l2, Rg 2147483647 x from fun x hx => by
    rw [L2.out] at hx
    unfold infL at hx
    have gr := goal_rg (n := k) (a := a) (by have := VV.out.1; have := N5.out; omega) (fun v hv => by
      have := List.all_eq_true.1 VV.out.2 v hv
      unfold fitB at this
      simpa using this)
    rcases List.mem_append.1 hx with q | q
    · exact D2.out x q
    · simp only [List.mem_cons, List.not_mem_nil, or_false] at q
      rcases q with rfl | rfl
      · exact gr
      · exact (gr.times (c := -1) (k := 1) (by omega) (by omega) (by omega)).mono (by omega))
  have RW := Lib.hid (show l2.map (tk (k + 1)) = (L.map fun y => wide (lnV y) 0) ++ [lnV gy, ⟨gy.a.map (· * (-1)), 0, false⟩] by
    rw [L2.out, ls_rows N5.out (fun y hy => (FVh.out y hy).1.1) VV.out.1, GY.out, AE.out]; rfl)
  clear VB
  have PB8 := Lib.hid (below_on B1.out B8.out)
  clear f0 f1 f2 f3
  have LL := Lib.hid (show l2.length ≤ 2000 by rw [L2.out]; unfold infL; simp; have := MM.out; omega)
  have hw3 : wrap64 ((k : Int) - 1) = (k : Int) - 1 := by have := N5.out; unfold wrap64; omega
  have hw4 : IntKind.i64.wrap ((k : Int) - 1) = (k : Int) - 1 := wrap_in _ (by have := N5.out; omega) (by have := N5.out; omega)
  have HE := Lib.hid (show infE (L.map ofV) k a = if shE l2 k k ≠ 0 then shE l2 k k else if (enN (shL l2 k k) k [] (shL l2 k k).length).2 ≠ 0 then (enN (shL l2 k k) k [] (shL l2 k k).length).2 else if (enN (shL l2 k k) k [] (shL l2 k k).length).1.1.ex then 0 else 4 by rw [L2.out]; rfl)
  have HINF := Lib.hid (show infN (L.map ofV) k a = enN (shL l2 k k) k [] (shL l2 k k).length by rw [L2.out]; rfl)
  go_wp2_with fail
  have mle : m ≤ 1000 := by have := MM.out; have := HM.out; omega
  go_loopw [10, 11, 12] (fun v u _ wr => ∃ t : Nat, u = .int .i64 t ∧ t ≤ m ∧ Hid (∃ R, OwnV wr w8.heap.size v R ∧ R.map lnV = (L.take t).map (fun y => wide (lnV y) 0)) ∧ Hid (Below w8.heap.size w8 wr)) (fun _ u _ _ => m - (intOf u).toNat)
  case atStart => exact ⟨0, rfl, by omega, Lib.hid ⟨[], OwnV.empty _ _, rfl⟩, Lib.hid (Below.refl _ _)⟩
  case round =>
    obtain ⟨t, rfl, ht, HT, HB⟩ := hrel
    generalize wr = wo at *
    obtain ⟨R, hO, hE⟩ := HT.out
    have HO := Lib.hid hO
    have HE := Lib.hid hE
    clear HT hO hE
    by_cases htm : t < m
    · have hlt : t < L.length := by have := HM.out; omega
      have EO := Lib.hid (below_on EW8.out HB.out)
      obtain ⟨pa, hpa, hAv⟩ := (RL.out wo EO.out).at_ t hlt
      have hmem := List.getElem_mem hlt
      have YF := Lib.hid (FVh.out _ hmem)
      have YN := Lib.hid ((RL.out wo EO.out).nums _ hmem)
      have RN := Lib.hid (show R.length = t by have := congrArg List.length HE.out; simpa [Nat.min_eq_left (Nat.le_of_lt hlt)] using this)
      have NX := Lib.hid (show (L.take (t + 1)).map (fun y => wide (lnV y) 0) = R.map lnV ++ [wide (lnV L[t]) 0] by rw [List.take_succ_eq_append_getElem hlt, List.map_append, HE.out]; rfl)
      generalize L[t] = y at *
      have AVY := Lib.hid hAv
      obtain ⟨wa, hwa⟩ : ∃ wa, wa = wo.alloc (.cells #[.slice none 0 0, .int .i64 0, .bool false] 25) := ⟨_, rfl⟩
      obtain ⟨b12, hb12⟩ : ∃ b, b = wo.heap.size := ⟨_, rfl⟩
      have K12 := Lib.hid (show BkV wa b12 av0 by rw [hwa, hb12]; exact BkV.made wo av0)
      have BA := Lib.hid (show Below wo.heap.size wo wa by rw [hwa]; exact one_more _)
      have QB := Lib.hid hb12
      have tm : (t : Int) < (m : Int) := by omega
      subst hpa
      clear hAv hlt hmem
      go_upto_region 12 with (first | refine wpl_loadV rfl _ rfl _ rfl y AVY.out ?_ | (rw [← hwa, ← hb12]; refine wpl_storeV rfl _ _ rfl _ y rfl rfl _ K12.out ?_))
      have K13 := Lib.hid (K12.out.setRow (z := y))
      have BB := Lib.hid (Below.setRow BA.out (b := b12) (by have := QB.out; omega) y.cs)
      clear hwa hb12 K12 BA
      generalize wa.setRow b12 y.cs = wb at *
      have B13 := Lib.hid (below_on HB.out BB.out)
      have EM := Lib.hid (OwnI.empty wb wb.heap.size (Nat.le_refl _))
      have zb : wb.heap.size ≤ (wb.alloc (.cells #[] 2)).heap.size := by simp
      have YR := Lib.hid ((YN.out.on BB.out).on (one_more (w1 := wb) (.cells #[] 2)))
      have c12 := kept (one_more (w1 := wb) (.cells #[] 2)) K13.out.facts.1
      have QW := Lib.hid K13.out.lt
      go_wp2_with (at_builtin; refine wpl_appI rfl _ _ rfl wb.heap.size wb.heap.size EM.out rfl y.q y.a y.c rfl YR.out YF.out.2.1 (by have := YF.out.1.1; have := N5.out; omega) zb ?_)
      intro g3 c3 wd o3 gr3 h3
      have BD := Lib.hid (show Below wb.heap.size wb wd from Below.grown (one_more (w1 := wb) (.cells #[] 2)) gr3 (by simp) (fun k hk => by injection hk with hk; omega))
      have C1 := Lib.hid (show (wd.alloc (.cells #[.int .i64 0] 2)).cell? ⟨wd.heap.size, 0, none⟩ = some (.int .i64 0) by rw [cell_of_row _ _ 0 _ _ _ (heap_alloc_last wd _)]; rfl)
      have G3 := Lib.hid (show wb.heap.size ≤ g3 from h3.elim (fun h => by omega) (fun h => Nat.le_trans (by simp) h))
      have O3 := Lib.hid (show OwnJ (wd.alloc (.cells #[.int .i64 0] 2)) wb.heap.size (.slice (some ⟨g3, 0, none⟩) y.a.length c3) y.a from OwnJ.on o3 (one_more _))
      have z3 : wb.heap.size ≤ (wd.alloc (.cells #[.int .i64 0] 2)).heap.size := Nat.le_trans BD.out.size (by simp)
      clear o3 gr3 h3 EM zb YR c12
      go_wp2_with (at_builtin; refine wpl_appJ1 rfl _ _ rfl wb.heap.size _ y.a 0 rfl O3.out _ _ rfl C1.out (by have := YF.out.1.1; have := N5.out; omega) z3 ?_)
      intro v4 we o4 g4
      have BE := Lib.hid (show Below wb.heap.size wb we from Below.grown (BD.out.alloc BD.out.size _) g4 z3 (fun k hk => (World.ownsRow.lt O3.out k hk).1))
      obtain ⟨ya, hya⟩ : ∃ ya, ya = y.a ++ [0] := ⟨_, rfl⟩
      rw [← hya] at o4
      obtain ⟨q5, c5, hv, hrd, hnil, hlc, hcm, hfr⟩ := OwnJ.read o4
      subst hv
      obtain ⟨Y, hY⟩ : ∃ Y, Y = AV.mk q5 c5 ya y.b y.s := ⟨_, rfl⟩
      have YE := Lib.hid hY
      have YW := Lib.hid (show lnV Y = wide (lnV y) 0 by rw [hY, hya]; rfl)
      have YL := Lib.hid (show NilOk Y by rw [hY]; exact And.intro hnil (And.intro hlc hcm))
      have YQ := Lib.hid (show ∀ p, Y.q = some p → wb.heap.size ≤ p.block ∧ p.block < we.heap.size by rw [hY]; exact hfr)
      have K5 := Lib.hid (K13.out.kept BE.out)
      have f5 := K5.out.free 0
      have f6 := K5.out.facts.1
      have K6 := Lib.hid (show BkV (we.setCell ⟨b12, 0, none⟩ (.slice q5 ya.length c5)) b12 Y by rw [hY]; exact K5.out.putq q5 ya c5)
      have BF := Lib.hid (show Below wo.heap.size wo (we.setCell ⟨b12, 0, none⟩ (.slice q5 ya.length c5)) from Below.setCell (below_on BB.out BE.out) (by show wo.heap.size ≤ b12; have := QB.out; omega) _)
      have RF := Lib.hid (show Rd1 (we.setCell ⟨b12, 0, none⟩ (.slice q5 ya.length c5)) Y.q Y.a by
        rw [hY]
        exact Rd1.grown hrd (grown_cell we b12 _) (fun p e k => by
          have h1 := (hfr p e).1
          have h2 := QW.out
          injection k with k
          omega))
      have ZF : we.heap.size = (we.setCell ⟨b12, 0, none⟩ (.slice q5 ya.length c5)).heap.size := by simp
      clear o4 g4 z3 hrd hnil hlc hcm hfr hya O3 C1 hY
      go_upto_region 13 with (fail)
      clear f5 f6
      generalize we.setCell ⟨b12, 0, none⟩ (.slice q5 ya.length c5) = wf at *
      have M3 := Lib.hid (BkV.made wf Y).avAt
      have AF := Lib.hid K6.out.avAt
      have B7 := Lib.hid (BF.out.alloc BF.out.size (.cells Y.cs 25))
      have HO7 := Lib.hid (HO.out.on B7.out)
      have GD := Lib.hid (show GoodV (wf.alloc (.cells Y.cs 25)) u10.ownBlock Y from ⟨RF.out.on (one_more _), fun p e => ⟨fun k => by
          have h1 := (YQ.out p e).1
          have h2 := (HO.out.lt _ k).2
          have h3 := QW.out
          have h4 := QB.out
          omega, by
          have h1 := (YQ.out p e).2
          simp only [World.size_alloc]; omega⟩, YL.out⟩)
      have HB7 := Lib.hid (below_on HB.out B7.out)
      have z7 := HB7.out.size
      go_wp2_with (first | refine wpl_loadV rfl _ rfl _ rfl Y AF.out ?_ | refine wpl_bv1 rfl _ rfl Y rfl ?_ | (at_builtin; refine wpl_appV rfl _ _ rfl w8.heap.size _ R Y rfl HO7.out _ _ rfl M3.out GD.out (by have := RN.out; have := HM.out; have := MM.out; omega) z7 ?_))
      intro v9 w9 o9 g9 _
      have BG := Lib.hid (Below.grown HB7.out g9 z7 (fun k hk => (HO7.out.lt k hk).1))
      have OG := Lib.hid (show ∃ R, OwnV w9 w8.heap.size v9 R ∧ R.map lnV = (L.take (t + 1)).map (fun y => wide (lnV y) 0) from ⟨R ++ [Y], o9, by rw [NX.out, List.map_append, List.map_cons, List.map_nil, YW.out]⟩)
      clear o9 g9 z7 ZF
      go_wp2_with fail
      go_roundw
      case rel => exact ⟨t + 1, by go_num, by omega, OG, BG⟩
      case measure => simp [intOf]; omega
    · have e9 : t = L.length := by have := HM.out; omega
      have HE9 := Lib.hid (show R.map lnV = L.map (fun y => wide (lnV y) 0) by rw [HE.out, e9, List.take_length])
      clear e9 HE
      have GQ := Lib.hid (show ∀ p, gy.q = some p → p.block < w8.heap.size by
        rw [GY.out]
        intro p e
        have h1 := (FR.out p e).2
        have h2 := B57.out.size
        have h3 := B78.out.size
        omega)
      have GRo := Lib.hid ((GR7.out.on B78.out).on HB.out)
      have GF := Lib.hid (show (∀ v ∈ gy.a, -2147483647 ≤ v ∧ v ≤ 2147483647) ∧ (-2147483647 ≤ gy.b ∧ gy.b ≤ 2147483647) by
        rw [GY.out]
        refine ⟨fun v hv => ?_, by simp⟩
        have hv' : v ∈ A := hv
        rw [AE.out] at hv'
        rcases List.mem_append.1 hv' with q | q
        · have := List.all_eq_true.1 VV.out.2 v q
          unfold fitB at this
          simpa using this
        · simp at q; omega)
      have OP := Lib.hid (fun W (h : Below wo.heap.size wo W) => ropp_any gy W (by have := GL.out; have := N5.out; omega) (GRo.out.on h) GF.out.1 GF.out.2)
      have RN := Lib.hid (show R.length ≤ 1000 by have := congrArg List.length HE9.out; rw [List.length_map, List.length_map] at this; have := MM.out; omega)
      go_upto_region 14 with (fail)
      have KS := Lib.hid (show ∀ W, Below wo.heap.size wo W → (BkV W q9 gy ∧ True) from fun W h => ⟨K8.out.kept (below_on HB.out h), trivial⟩)
      obtain ⟨wc, hwc⟩ : ∃ wc, wc = wo.drew := ⟨_, rfl⟩
      have Bc := Lib.hid (show Below wo.heap.size wo wc by rw [hwc]; exact (Below.refl _ _).drew)
      refine wp_region_held_drew (S := (fun W => (BkV W q9 gy ∧ True))) (by kernel_rfl) (by rw [← hwc]; exact KS.out _ Bc.out) (fun h0 => ?_)
      rw [← hwc] at h0 ⊢
      clear hwc
      refine tkH (i := 0) (v := ?v1) rfl (Or.inl ⟨by rfl, ?hy1⟩) h0 ?rest1
      case hy1 => (intro w' hS; (try dsimp only at hS); go_simp; try (with_reducible rfl))
      simp only [Act.put, sA, sB, sD, sE, sF]
      refine tkH (i := 1) (v := (.agg gy.cs)) rfl (Or.inl ⟨by rfl, fun w' hS => yld_loadV _ rfl _ rfl hS.1.avAt⟩) h0 ?_
      simp only [Act.put, sZ]
      refine tkH (i := 2) (v := (.agg gy.cs)) rfl (Or.inl ⟨by rfl, fun w' hS => yld_loadV _ rfl _ rfl hS.1.avAt⟩) h0 ?_
      simp only [Act.put, sZ]
      refine wpAnyH_ready (rs := [3]) (by kernel_rfl) (by simp) (AllReadyH.cons rfl (fun K hK => ?_) AllReadyH.nil)
      rw [if_pos (by rfl)]
      go_simp
      have hs0 := Bc.out.size
      refine (OP.out wc Bc.out).mono ?_
      rintro e wc ⟨⟨zq, zc, za, zb, zs⟩, rfl, hz1, hz2, hz3, hz4, hb⟩
      have ZA := Lib.hid (show za = gy.a.map (· * (-1)) from congrArg Ln.a hz1)
      have ZN := Lib.hid (show NilOk (AV.mk zq zc za 0 false) from hz2)
      have ZR := Lib.hid (show Rd1 wc zq za from hz3)
      have ZF := Lib.hid (show ∀ p, zq = some p → wo.heap.size ≤ p.block ∧ p.block < wc.heap.size from fun p e => ⟨Nat.le_trans hs0 (hz4 p e).1, (hz4 p e).2⟩)
      have Bc := Lib.hid (below_on Bc.out hb)
      have ZW := Lib.hid (show Below wc.heap.size wc wc from Below.refl _ _)
      obtain ⟨wz, hwz⟩ : ∃ wz, wz = wc := ⟨_, rfl⟩
      rw [← hwz] at ZF ZR
      have ZW := Lib.hid (show Below wz.heap.size wz wc by rw [hwz]; exact Below.refl _ _)
      clear hb hz1 hz2 hz3 hz4 hs0 hwz
      have ec : (AV.mk zq zc za zb zs).cs = #[.slice zq za.length zc, .int .i64 zb, .bool zs] := rfl
      rw [ec]
      clear ec
      go_simp
      refine hK.out _ _ (KS.out _ Bc.out) (fun h0_1 => ?_)
      clear hK K h0
      refine tkH (i := 4) (v := (.slice zq za.length zc)) rfl (Or.inl ⟨by rfl, fun w' hS => yld_field _ rfl _ _ _ rfl⟩) h0_1 ?_
      simp only [Act.put, sZ]
      refine tkH (i := 5) (v := ?v5) rfl (Or.inl ⟨by rfl, ?hy5⟩) h0_1 ?rest5
      case hy5 => (intro w' hS; (try dsimp only at hS); go_simp; try (with_reducible rfl))
      simp only [Act.put, sZ]
      refine wpAnyH_ready (rs := [6]) (by kernel_rfl) (by simp) (AllReadyH.cons rfl (fun K hK => ?_) AllReadyH.nil)
      rw [if_pos (by rfl)]
      refine wp_bv2 _ _ rfl gy (AV.mk zq zc za 0 false) (by simp [AV.cs, AV.cells, Act.eval]) (by simp [AV.cs, AV.cells, Act.eval]) ?_
      have hb := one_more (w1 := wc) (.cells (gy.cs ++ (AV.mk zq zc za 0 false).cs) 25)
      have hC := two_av wc gy (AV.mk zq zc za 0 false)
      obtain ⟨b5, hbb⟩ : ∃ b5, b5 = wc.heap.size := ⟨_, rfl⟩
      rw [← hbb] at hC
      obtain ⟨wn, hwn⟩ : ∃ wn, wn = wc.alloc (.cells (gy.cs ++ (AV.mk zq zc za 0 false).cs) 25) := ⟨_, rfl⟩
      rw [← hwn] at hb hC ⊢
      try rw [← hbb]
      have Bc := Lib.hid (below_on Bc.out hb)
      have ZW := Lib.hid (below_on ZW.out hb)
      have CC := Lib.hid hC
      clear hb hC hbb hwn
      obtain ⟨wc, hwc⟩ : ∃ wc, wc = wn := ⟨_, rfl⟩
      rw [← hwc] at Bc CC ZW ⊢
      clear hwc
      try simp only [Act.put, sZ]
      refine hK.out _ _ (KS.out _ Bc.out) (fun h0_2 => ?_)
      clear hK K h0_1
      refine wpAnyH_ready (rs := [7]) (by kernel_rfl) (by simp) (AllReadyH.cons rfl (fun K hK => ?_) AllReadyH.nil)
      rw [if_pos (by rfl)]
      obtain ⟨v9, we, hrun, ho, hg, hf⟩ := appendV2_run (HO.out.on Bc.out) (c := 2) CC.out (show GoodV wc (Value.ownBlock u10) gy from ⟨GRo.out.on Bc.out, fun p e => ⟨fun k => (by have h1 := (HO.out.lt _ k).1; have h2 := GQ.out p e; omega), (by have h1 := GQ.out p e; have h2 := HB.out.size; have h3 := Bc.out.size; omega)⟩, by rw [GY.out]; exact NL.out⟩) (show GoodV wc (Value.ownBlock u10) (AV.mk zq zc za 0 false) from ⟨ZR.out.on ZW.out, fun p e => ⟨fun k => (by have h1 := (HO.out.lt _ k).2; have h2 := (ZF.out p e).1; omega), (by have h1 := (ZF.out p e).2; have h2 := ZW.out.size; omega)⟩, ZN.out⟩) (by have := RN.out; omega) (by have := HB.out.size; have := Bc.out.size; omega) 22
      refine Lib.wp_append_run _ _ _ 22 22 rfl _ (.slice (some ⟨b5, 0, none⟩) 2 2) rfl rfl _ _ hrun ?_
      have BW := Lib.hid (Below.grown (below_on HB.out Bc.out) hg (below_on HB.out Bc.out).size (fun k hk => (HO.out.lt k hk).1))
      have O9 := Lib.hid ho
      clear hrun ho hg hf
      try simp only [Act.put, sZ]
      refine hK.out _ _ (⟨K8.out.kept BW.out, trivial⟩) (fun h0_3 => ?_)
      clear hK K h0_2
      refine tkH (i := 8) (v := ?v6) rfl (Or.inl ⟨by rfl, ?hy6⟩) h0_3 ?rest6
      case hy6 => (intro w' hS; (try dsimp only at hS); go_simp; try (with_reducible rfl))
      simp only [Act.put, sA, sB, sC, sD]
      try simp only [sF]
      try simp only [sE]
      refine wpAnyH_done (by kernel_rfl) ?_ _
      obtain ⟨ro, rc, hv9, hrv, _⟩ := O9.out.read
      obtain ⟨R2, hR2⟩ : ∃ R2, R2 = R ++ [gy, (AV.mk zq zc za 0 false)] := ⟨_, rfl⟩
      rw [← hR2] at O9 hrv hv9
      have RM := Lib.hid (show R2.map lnV = l2.map (tk (k + 1)) by rw [hR2, RW.out, List.map_append, HE9.out, ZA.out]; rfl)
      have RO := Lib.hid (rtidy_any (k + 1) R2 ro rc we (by have := N5.out; omega) (by rw [hR2]; simp; have := RN.out; omega) hrv (fun y hy => by
        obtain ⟨h1, h2, h3⟩ := fit_all (by have := N5.out; omega) RM.out LR.out y hy
        exact ⟨h1, O9.out.nil y hy, fun v hv => by have := h2 v hv; unfold A63; omega, by unfold A63; omega⟩))
      rw [RM.out, ls_first N5.out LD.out] at RO
      obtain ⟨rl, hrl⟩ : ∃ rl, rl = R2.length := ⟨_, rfl⟩
      rw [← hrl] at RO hv9
      rw [show ((k + 1 : Nat) : Int) = (k : Int) + 1 from rfl] at RO
      subst hv9
      clear hrv hR2 hrl
      go_wp2_with fail
      refine RO.out.mono ?_
      rintro e w10 ⟨v1, R1, rfl, hO1, hm1, hb1⟩
      obtain ⟨ro1, rc1, hv1, hrd1, _⟩ := hO1.read
      subst hv1
      have BX := Lib.hid (below_on BW.out hb1)
      have S1 := Lib.hid (And.intro hrd1 (And.intro hO1.nil hm1))
      clear hO1 hm1 hb1 hrd1 RO
      go_wp2_with fail
      go_loopw [8, 10, 13] (fun s8 v u wr => ∃ j : Nat, u = .int .i64 ((k : Int) - 1 - j) ∧ j ≤ k ∧ s8 = .int .i64 0 ∧ Hid (∃ ro rc R, v = .slice ro R.length rc ∧ RdV wr ro R ∧ (∀ y ∈ R, NilOk y) ∧ R.map lnV = lsS l2 k j ∧ shE l2 k j = 0) ∧ Hid (Below w8.heap.size w8 wr)) (fun _ _ u _ => (intOf u + 1).toNat)
      case atStart => exact ⟨0, by simp, by omega, rfl, Lib.hid ⟨ro1, rc1, R1, rfl, S1.out.1, S1.out.2.1, S1.out.2.2, rfl⟩, BX⟩
      case round =>
        clear S1 BX
        obtain ⟨j, rfl, hj, rfl, HT, HB2⟩ := hrel
        generalize wr = wq at *
        obtain ⟨r3, c3, R3, hv3, hrd3, hnil3, hmap3, hz3⟩ := HT.out
        subst hv3
        have M3 := Lib.hid hmap3
        have Z3 := Lib.hid hz3
        have RD3 := Lib.hid hrd3
        have NL3 := Lib.hid hnil3
        have OK3 := Lib.hid (shL_ok (l := l2) (n := k) LL.out LR.out j Z3.out)
        have L3 := Lib.hid (show R3.length = (shL l2 k j).length by have := congrArg List.length M3.out; unfold lsS at this; simpa using this)
        clear HT hmap3 hz3 hrd3 hnil3
        by_cases hjk : j < k
        · obtain ⟨i, hi⟩ : ∃ i : Nat, i = k - 1 - j := ⟨_, rfl⟩
          have ST : leaveLr (i + 2) (lsS l2 k j) i = lsS l2 k (j + 1) ∧ leaveEr (i + 2) (lsS l2 k j) i = leaveE (shL l2 k j) i := by
            have := ls_step (i := i) N5.out (by omega) LD.out
            rwa [show k - 1 - i = j by omega, show k - i = j + 1 by omega] at this
          have FT : ∀ y ∈ R3, FitV (i + 2) y := by
            have := ls_fits (m := k - j) (n := k) (by omega) N5.out M3.out OK3.out.2
            rwa [show k - j + 1 = i + 2 by omega] at this
          have LV := Lib.hid (rleave_any (i + 2) i R3 r3 c3 wq (by have := N5.out; omega) (by omega) (by have := L3.out; have := OK3.out.1; omega) RD3.out (fun y hy => ⟨FT y hy, NL3.out y hy⟩))
          rw [M3.out, ST.1, ST.2] at LV
          have E1 := Lib.hid (show shE l2 k (j + 1) = leaveE (shL l2 k j) i by show (if shE l2 k j = 0 then leaveE (shL l2 k j) (k - 1 - j) else shE l2 k j) = _; rw [if_pos Z3.out, ← hi])
          obtain ⟨er, her⟩ : ∃ er, er = leaveE (shL l2 k j) i := ⟨_, rfl⟩
          rw [← her] at LV E1
          have e1 : (k : Int) - 1 - j = (i : Int) := by omega
          have II := Lib.hid hi
          have JK := Lib.hid hjk
          rw [e1]
          rw [show ((i + 2 : Nat) : Int) = (i : Int) + 2 from rfl] at LV
          have i5 : (i : Int) < 5 := by have := N5.out; omega
          obtain ⟨rl3, hrl3⟩ : ∃ rl, rl = R3.length := ⟨_, rfl⟩
          rw [← hrl3] at LV ⊢
          obtain ⟨⟨hw5, hw6⟩, hw7, hw8⟩ := small_i hi hjk N5.out
          clear hi hjk her hrl3 ST FT e1 hj
          go_wp2_with fail
          refine LV.out.mono ?_
          rintro e wz (⟨he, v4, R4, rfl, hO4, hm4, hb4⟩ | ⟨he, rfl, hb4⟩)
          · obtain ⟨ro4, rc4, hv4, hrd4, _⟩ := hO4.read
            have NX := Lib.hid (show ∃ ro rc R, v4 = .slice ro R.length rc ∧ RdV wz ro R ∧ (∀ y ∈ R, NilOk y) ∧ R.map lnV = lsS l2 k (j + 1) ∧ shE l2 k (j + 1) = 0 from ⟨ro4, rc4, R4, hv4, hrd4, hO4.nil, hm4, E1.out.trans he⟩)
            have BY := Lib.hid (below_on HB2.out hb4)
            subst he
            clear hO4 hm4 hb4 hv4 hrd4 LV
            go_wp2_with fail
            go_roundw
            case rel => exact ⟨j + 1, by have := II.out; have := JK.out; go_num; try omega, by have := JK.out; omega, rfl, NX, BY⟩
            case measure => have := II.out; first | (simp [intOf]; done) | (simp [intOf]; omega)
          · have FIN := Lib.hid (FBAD.out er (by
              have h1 : shE l2 k (j + 1) ≠ 0 := by rw [E1.out]; exact he
              have h2 := shE_stop h1 (k - (j + 1))
              rw [show j + 1 + (k - (j + 1)) = k by have := JK.out; omega] at h2
              rw [LSE.out, HE.out, if_pos (by rw [h2]; exact h1), h2, E1.out]) he)
            have hne : (er != 0) = true := by simpa using he
            have BY := Lib.hid (below_on HB2.out hb4)
            obtain ⟨f0, f1, f2, f3⟩ := (PU.out wz (below_on PB8.out BY.out)).facts
            clear he hb4 LV
            go_wp2_with fail
            refine bodyPost_ret (v := .tuple #[.agg #[.int .i64 0, .int .i64 0], .bool false, .int .i64 er]) (by simp [results, Tryz.results31, go_sem, f0, f1]) rfl ?_
            exact FIN.out _ (below_put (below_on EW8.out BY.out) (Nat.le_refl _) _ _)
        · obtain rfl : k = j := by omega
          have ES := Lib.hid (show (∀ t, ∀ h : t < R3.length, ∃ x, (shL l2 k k).getD t ln0 = x ∧ x ∈ shL l2 k k ∧ lnV R3[t] = sel (pT 0 k) x) from fun t h => by
            have hls : t < (shL l2 k k).length := by have := L3.out; omega
            refine ⟨(shL l2 k k)[t], by rw [List.getD_eq_getElem?_getD, List.getElem?_eq_getElem hls]; rfl, List.getElem_mem hls, ?_⟩
            have h1 : (R3.map lnV)[t]? = (lsS l2 k k)[t]? := by rw [M3.out]
            unfold lsS at h1
            rw [List.getElem?_map, List.getElem?_map, List.getElem?_eq_getElem h, List.getElem?_eq_getElem hls, Nat.sub_self] at h1
            simpa using h1)
          have DS := Lib.hid (show ∀ x ∈ shL l2 k k, x.a.length = 6 from fun x hx => (shT N5.out LD.out k (Nat.le_refl k) x hx).1)
          have Z4 := Lib.hid (show ∀ x ∈ shL l2 k k, gA x.a k = 0 → infE (L.map ofV) k a = 4 from fun x hx h0 => by
            have hd := LD.out
            have hs := Z3.out
            rw [L2.out] at hx hd hs
            exact ls_zero N5.out hd hs hx h0)
          have ORD := Lib.hid (show (∀ x ∈ shL l2 k k, gA x.a k ≠ 0) → (enN (shL l2 k k) k [] (shL l2 k k).length).2 = 0 → _ from fun h1 h2 => least_order (l := L.map ofV) (n := k) (a := a) N5.out ZRL.out VV.out.1 (by rw [← L2.out]; exact h1) (by rw [HINF.out]; exact h2))
          rw [HINF.out, ← L2.out] at ORD
          obtain ⟨m2, hm2⟩ : ∃ m2, m2 = R3.length := ⟨_, rfl⟩
          have M2 := Lib.hid hm2
          have m2000 : m2 ≤ 2000 := by have := L3.out; have := OK3.out.1; omega
          have LS := Lib.hid (show m2 = (shL l2 k k).length by rw [hm2]; exact L3.out)
          obtain ⟨s, hs⟩ : ∃ s, s = shL l2 k k := ⟨_, rfl⟩
          rw [← hs] at ES DS Z4 ORD LS HE HINF OK3
          have SRG := Lib.hid OK3.out.2
          have ZS := Lib.hid Z3.out
          rw [← hm2]
          obtain ⟨w11, hw11⟩ : ∃ w11, w11 = wq.alloc (.cells ⟨EsC en0 en0⟩ 98) := ⟨_, rfl⟩
          obtain ⟨q, hq⟩ : ∃ q, q = wq.heap.size := ⟨_, rfl⟩
          have R11 := Lib.hid (show RowC w11 q (EsC en0 en0) by rw [hw11, hq]; exact RowC.made _ _)
          have B11 := Lib.hid (show Below wq.heap.size wq w11 by rw [hw11]; exact one_more _)
          have QE := Lib.hid hq
          have WQ := Lib.hid (show w.heap.size < wq.heap.size by have h1 := P0.out.lt; have h2 := PB8.out.size; have h3 := HB2.out.size; omega)
          have e0 : (k : Int) - 1 - (k : Int) = -1 := by omega
          rw [e0]
          clear e0 hm2 hs hjk hj M3 L3
          go_upto_region 23 with (fail)
          rw [← hw11, ← hq]
          clear hw11 hq
          go_wp2_with fail
          go_loopw [8, 15] (fun s8 u wr => ∃ t : Nat, u = .int .i64 t ∧ t ≤ m2 ∧ s8 = .int .i64 0 ∧ Hid ((enN s k [] t).2 = 0) ∧ Hid (∀ i, i < t → gA (s.getD i ln0).a k ≠ 0) ∧ Hid (RowC wr q (EsC (enN s k [] t).1.1 (enN s k [] t).1.2)) ∧ Hid (Below wq.heap.size wq wr)) (fun _ u _ => m2 - (intOf u).toNat)
          case atStart => exact ⟨0, rfl, by omega, rfl, Lib.hid rfl, Lib.hid (fun i h => by omega), R11, B11⟩
          case round =>
            clear R11 B11
            obtain ⟨t, rfl, ht, rfl, HE3, HN3, HR3, HW3⟩ := hrel
            generalize wr = wi at *
            have n64 := enN_64 s k [] t
            have BWI := Lib.hid (below_on HB2.out HW3.out)
            by_cases htm : t < m2
            · have hlt : t < R3.length := by have := M2.out; omega
              have hls : t < s.length := by have := LS.out; omega
              obtain ⟨pa, hpa, hAv⟩ := (RD3.out.on HW3.out).at_ t hlt
              have hmem := List.getElem_mem hlt
              have YN := Lib.hid ((RD3.out.on HW3.out).nums _ hmem)
              have YNil := Lib.hid (NL3.out _ hmem)
              obtain ⟨x, hx1, hx2, hx3⟩ := ES.out t hlt
              generalize R3[t] = y at *
              have XM := Lib.hid hx2
              have XG := Lib.hid (show s.getD t ln0 = x from hx1)
              have XR := Lib.hid (SRG.out x hx2)
              have YF := Lib.hid (show FitV 1 y from ls_fit (m := 0) (Nat.zero_le k) N5.out hx3 XR.out)
              have yl : y.a.length = 0 + 1 := YF.out.1
              obtain ⟨rb, ro3, hyq, hrb, hrc⟩ := line_at (i := 0) (by omega) yl YNil.out YN.out
              have c0 := hrc 0 (by omega)
              have c00 : wi.cell? (pa.add (t * 3)) = some (.slice (some ⟨rb, ro3, none⟩) 1 y.c) := by
                have := hAv 0 _ rfl
                rw [show (pa.add (t * 3)).add 0 = pa.add (t * 3) by simp [Addr.add]] at this
                rw [this, ← hyq, yl]
              simp only [Nat.add_zero] at c0
              have AV0 := Lib.hid hAv
              obtain ⟨g0, hg⟩ : ∃ g, g = gA y.a 0 := ⟨_, rfl⟩
              have GX := Lib.hid (show g0 = gA x.a k by rw [hg, ← sel_end N5.out (DS.out x hx2), ← hx3]; rfl)
              have SM := Lib.hid (show ∀ e, fdE (lnV y) 0 [] = fdE x k [] ∧ rbS (lnV y) 0 [] e = rbS x k [] e from fun e => end_same (x := x) (n := k) (by show gA y.a 0 = _; rw [← hg]; exact GX.out) (by rw [hx3]; rfl) (by rw [hx3]; rfl) e)
              rw [← hg] at c0
              have tm : (t : Int) < (m2 : Int) := by omega
              subst hpa
              clear hlt hls hmem hx1 hx2 hx3 hyq hrb hrc hAv hg yl
              by_cases gz : g0 = 0
              · have FIN := Lib.hid (FBAD.out 4 (by rw [LSE.out]; exact Z4.out x XM.out (by rw [← GX.out]; exact gz)) (by decide))
                obtain ⟨f0, f1, f2, f3⟩ := (PU.out wi (below_on PB8.out BWI.out)).facts
                subst gz
                go_wp2_with fail
                refine bodyPost_ret (v := .tuple #[.agg #[.int .i64 0, .int .i64 0], .bool false, .int .i64 4]) (by simp [results, Tryz.results31, go_sem, f0, f1]) rfl ?_
                exact FIN.out _ (below_put (below_on EW8.out BWI.out) (Nat.le_refl _) _ _)
              · obtain ⟨s1, s2⟩ := enN_step (fun x _ h => (fd_val h).1) (by have := LS.out; omega) XG.out HE3.out (by rw [← GX.out]; exact gz)
                have FY2 := SM.out (enN s k [] t).1
                have BD := Lib.hid (rbounds_any y [] (enN s k [] t).1.1 (enN s k [] t).1.2 q none 0 wi HR3.out (by have := YF.out.1; simp; omega) (by have := YF.out.1; omega) YN.out (fun t ht => by simp at ht) (fun v hv => by have := YF.out.2.1 v hv; unfold I64; omega) (by have := YF.out.2.2; unfold I64; omega) (fun t ht => by simp at ht) n64.1 n64.2)
                simp only [List.length_nil] at BD
                have e2 : ((enN s k [] t).1.1, (enN s k [] t).1.2) = (enN s k [] t).1 := rfl
                rw [e2, FY2.1, FY2.2] at BD
                have F7 := Lib.hid (ls_end7 N5.out SRG.out XM.out (show gA x.a k ≠ 0 by rw [← GX.out]; exact gz))
                obtain ⟨fe, hfe⟩ : ∃ fe, fe = fdE x k [] := ⟨_, rfl⟩
                rw [← hfe] at BD s1 s2 F7
                have S1 := Lib.hid s1
                have S2 := Lib.hid s2
                have QL := Lib.hid (show wq.heap.size ≤ q by rw [QE.out]; exact Nat.le_refl _)
                have GNZ := Lib.hid (show ∀ i, i < t + 1 → gA (s.getD i ln0).a k ≠ 0 from fun i h => by
                  by_cases e : i = t
                  · rw [e, XG.out, ← GX.out]; exact gz
                  · exact HN3.out i (by omega))
                have gz1 : (g0 == 0) = false := by simpa using gz
                clear s1 s2 FY2 e2 hfe n64
                go_wp2_with (refine wpl_loadV rfl _ rfl _ rfl y AV0.out ?_)
                refine BD.out.mono ?_
                rintro e w12 (⟨he, rfl, hr5, hg5⟩ | ⟨he, rfl, hb5⟩)
                · have EN := S1.out he
                  have HE2 := Lib.hid (show (enN s k [] (t + 1)).2 = 0 by rw [EN])
                  have HR2 := Lib.hid (show RowC w12 q (EsC (enN s k [] (t + 1)).1.1 (enN s k [] (t + 1)).1.2) by rw [EN]; exact hr5)
                  have HW2 := Lib.hid (show Below wq.heap.size wq w12 from HW3.out.trans (GB.to_below hg5 QL.out HW3.out.size))
                  clear he hr5 hg5 EN BD c0 c00
                  go_wp2_with fail
                  go_roundw
                  case rel => exact ⟨t + 1, by go_num, by omega, rfl, HE2, GNZ, HR2, HW2⟩
                  case measure => simp [intOf]; omega
                · have hne : (fe != 0) = true := by simpa using he
                  have BX := Lib.hid (below_on BWI.out hb5)
                  have FIN := Lib.hid (FBAD.out 7 (by
                    have h1 : (enN s k [] (t + 1)).2 ≠ 0 := by rw [S2.out he]; exact he
                    have h2 := enN_end (n := s.length) (show t + 1 ≤ s.length by have := LS.out; omega) h1
                    rw [LSE.out, HE.out, if_neg (fun k => k ZS.out), if_pos (by rw [h2]; exact h1), h2, S2.out he]
                    exact F7.out he) (by decide))
                  obtain ⟨f0, f1, f2, f3⟩ := (PU.out w12 (below_on PB8.out BX.out)).facts
                  clear he hb5 BD c0 c00
                  go_wp2_with fail
                  refine bodyPost_ret (v := .tuple #[.agg #[.int .i64 0, .int .i64 0], .bool false, .int .i64 7]) (by simp [results, Tryz.results31, go_sem, f0, f1]) rfl ?_
                  exact FIN.out _ (below_put (below_on EW8.out BX.out) (Nat.le_refl _) _ _)
            · have e9 : t = s.length := by have := LS.out; omega
              rw [e9] at HE3 HN3 HR3 n64
              have HALL := Lib.hid (show ∀ x ∈ s, gA x.a k ≠ 0 from fun x hx => by
                obtain ⟨i, hi, e⟩ := List.getElem_of_mem hx
                have := HN3.out i hi
                rw [List.getD_eq_getElem?_getD, List.getElem?_eq_getElem hi] at this
                rw [← e]; exact this)
              obtain ⟨OKE, OVR⟩ := ORD.out HALL.out HE3.out
              rw [if_neg (fun k => k ZS.out), if_neg (fun k => k HE3.out)] at HE
              have CP := Lib.hid (fun W => rcmpP_any (enN s k [] s.length).1.1.v (enN s k [] s.length).1.2.v W n64.1 n64.2)
              have lv0 := OKE.lv
              have uv0 := OKE.uv
              obtain ⟨lo, hlo⟩ : ∃ lo, lo = (enN s k [] s.length).1.1 := ⟨_, rfl⟩
              obtain ⟨up, hup⟩ : ∃ up, up = (enN s k [] s.length).1.2 := ⟨_, rfl⟩
              have HL0 := Lib.hid (show (infN (L.map ofV) k a).1.1 = lo by rw [HINF.out, hlo])
              rw [← hlo, ← hup] at HR3 OVR CP
              rw [← hlo] at HE lv0
              rw [← hup] at uv0
              clear OKE hlo hup e9 n64 HE3 HN3 HALL ORD HINF
              obtain ⟨lv, lex, lop⟩ := lo
              obtain ⟨uv, uex, uop⟩ := up
              simp only at OVR CP lv0 uv0 HE
              have CPH := Lib.hid (show lex = true → uex = true → ¬ 0 < cmR lv uv ∧ (cmR lv uv = 0 → uop = false ∧ lop = false) from fun h1 h2 => by
                obtain ⟨a1, a2⟩ := cm_over (lv0 h1) (uv0 h2) (OVR h1 h2)
                refine ⟨a1, fun e => ?_⟩
                have := a2 e
                cases uop <;> cases lop <;> first | exact ⟨rfl, rfl⟩ | cases this)
              clear OVR lv0 uv0
              have PI := Lib.hid (PU.out wi (below_on PB8.out BWI.out))
              have EWI := Lib.hid (below_on EW8.out BWI.out)
              obtain ⟨cv, hcv⟩ : ∃ cv, cv = cmR lv uv := ⟨_, rfl⟩
              obtain ⟨ce, hce⟩ : ∃ ce, ce = cmE lv uv := ⟨_, rfl⟩
              rw [← hcv, ← hce] at CP
              rw [← hcv] at CPH
              clear hcv hce
              go_upto_region 31 with (fail)
              have CF := Lib.hid (show ∀ W, RowC W q (EsC ⟨lv, lex, lop⟩ ⟨uv, uex, uop⟩) → W.cell? ⟨q, 0, none⟩ = some (.int .i64 lv.1) ∧ W.cell? ⟨q, 1, none⟩ = some (.int .i64 lv.2) ∧ W.cell? ⟨q, 2, none⟩ = some (.int .i64 uv.1) ∧ W.cell? ⟨q, 3, none⟩ = some (.int .i64 uv.2) from fun W h => ⟨h.cell 0, h.cell 1, h.cell 2, h.cell 3⟩)
              have CF2 := Lib.hid (show ∀ W, RowC W q (EsC ⟨lv, lex, lop⟩ ⟨uv, uex, uop⟩) → W.cell? ⟨q, 0, none⟩ = some (.int .i64 lv.1) ∧ W.cell? ⟨q, 1, none⟩ = some (.int .i64 lv.2) ∧ W.cell? ⟨q, 6, none⟩ = some (.bool lop) from fun W h => ⟨h.cell 0, h.cell 1, h.cell 6⟩)
              have FGOOD := Lib.hid (show lex = true → ∀ w', Below w.heap.size w w' → LsO k L a w (.returned (.tuple #[.agg #[.int .i64 lv.1, .int .i64 lv.2], .bool (!lop), .int .i64 0])) w' from fun h w' hb => by
                subst h
                have e : leaE k L a = 0 := by rw [LE.out, LSE.out, HE.out]; rfl
                have hx : leaX k L a = ⟨lv, true, lop⟩ := by unfold leaX; rw [if_pos e, Int.toNat_natCast]; exact HL0.out
                exact ⟨hb, by rw [e, hx]; rfl⟩)
              have KS := Lib.hid (show ∀ W, Below wi.heap.size wi W → (W.cell? ⟨q, 0, none⟩ = some (.int .i64 lv.1) ∧ W.cell? ⟨q, 1, none⟩ = some (.int .i64 lv.2) ∧ W.cell? ⟨q, 2, none⟩ = some (.int .i64 uv.1) ∧ W.cell? ⟨q, 3, none⟩ = some (.int .i64 uv.2)) from fun W h => ⟨(CF.out _ (HR3.out.kept h)).1, (CF.out _ (HR3.out.kept h)).2.1, (CF.out _ (HR3.out.kept h)).2.2.1, (CF.out _ (HR3.out.kept h)).2.2.2⟩)
              obtain ⟨wc, hwc⟩ : ∃ wc, wc = wi.drew := ⟨_, rfl⟩
              have Bc := Lib.hid (show Below wi.heap.size wi wc by rw [hwc]; exact (Below.refl _ _).drew)
              refine wp_region_held_drew (S := (fun W => (W.cell? ⟨q, 0, none⟩ = some (.int .i64 lv.1) ∧ W.cell? ⟨q, 1, none⟩ = some (.int .i64 lv.2) ∧ W.cell? ⟨q, 2, none⟩ = some (.int .i64 uv.1) ∧ W.cell? ⟨q, 3, none⟩ = some (.int .i64 uv.2)))) (by kernel_rfl) (by rw [← hwc]; exact KS.out _ Bc.out) (fun h0 => ?_)
              rw [← hwc] at h0 ⊢
              clear hwc
              refine tkH (i := 0) (v := ?v7) rfl (Or.inl ⟨by rfl, ?hy7⟩) h0 ?rest7
              case hy7 => (intro w' hS; (try dsimp only at hS); go_simp; try (with_reducible rfl))
              simp only [Act.put, sA, sB, sD, sE, sF]
              refine tkH (i := 1) (v := ?v8) rfl (Or.inl ⟨by rfl, ?hy8⟩) h0 ?rest8
              case hy8 => (intro w' hS; (try dsimp only at hS); go_simp; try (with_reducible rfl))
              simp only [Act.put, sZ]
              refine tkH (i := 2) (v := ?v9) rfl (Or.inl ⟨by rfl, ?hy9⟩) h0 ?rest9
              case hy9 => (intro w' hS; (try dsimp only at hS); go_simp; try (with_reducible rfl))
              simp only [Act.put, sZ]
              refine tkH (i := 3) (v := ?v10) rfl (Or.inl ⟨by rfl, ?hy10⟩) h0 ?rest10
              case hy10 => (intro w' hS; (try dsimp only at hS); go_simp; try (with_reducible rfl))
              simp only [Act.put, sZ]
              refine tkH (i := 4) (v := ?v11) rfl (Or.inl ⟨by rfl, ?hy11⟩) h0 ?rest11
              case hy11 => (intro w' hS; (try dsimp only at hS); go_simp; try (with_reducible rfl))
              simp only [Act.put, sZ]
              refine tkH (i := 5) (v := ?v12) rfl (Or.inl ⟨by rfl, ?hy12⟩) h0 ?rest12
              case hy12 => (intro w' hS; (try dsimp only at hS); go_simp; try (with_reducible rfl))
              simp only [Act.put, sZ]
              refine tkH (i := 6) (v := ?v13) rfl (Or.inl ⟨by rfl, ?hy13⟩) h0 ?rest13
              case hy13 => (intro w' hS; (try dsimp only at hS); go_simp; try (with_reducible rfl))
              simp only [Act.put, sZ]
              refine tkH (i := 7) (v := ?v14) rfl (Or.inl ⟨by rfl, ?hy14⟩) h0 ?rest14
              case hy14 => (intro w' hS; (try dsimp only at hS); go_simp; try (with_reducible rfl))
              simp only [Act.put, sZ]
              refine wpAnyH_ready (rs := [8]) (by kernel_rfl) (by simp) (AllReadyH.cons rfl (fun K hK => ?_) AllReadyH.nil)
              rw [if_pos (by rfl)]
              go_simp
              refine (CP.out wc).mono ?_
              rintro e wc ⟨rfl, hb⟩
              have Bc := Lib.hid (below_on Bc.out hb)
              clear hb
              go_simp
              refine hK.out _ _ (KS.out _ Bc.out) (fun h0_1 => ?_)
              clear hK K h0
              refine tkH (i := 9) (v := ?v15) rfl (Or.inl ⟨by rfl, ?hy15⟩) h0_1 ?rest15
              case hy15 => (intro w' hS; (try dsimp only at hS); go_simp; try (with_reducible rfl))
              simp only [Act.put, sZ]
              refine tkH (i := 10) (v := ?v16) rfl (Or.inl ⟨by rfl, ?hy16⟩) h0_1 ?rest16
              case hy16 => (intro w' hS; (try dsimp only at hS); go_simp; try (with_reducible rfl))
              simp only [Act.put, sZ]
              refine tkH (i := 11) (v := ?v17) rfl (Or.inl ⟨by rfl, ?hy17⟩) h0_1 ?rest17
              case hy17 => (intro w' hS; (try dsimp only at hS); go_simp; try (with_reducible rfl))
              simp only [Act.put, sZ]
              refine tkH (i := 12) (v := ?v18) rfl (Or.inl ⟨by rfl, ?hy18⟩) h0_1 ?rest18
              case hy18 => (intro w' hS; (try dsimp only at hS); go_simp; try (with_reducible rfl))
              simp only [Act.put, sZ]
              refine tkH (i := 13) (v := ?v19) rfl (Or.inl ⟨by rfl, ?hy19⟩) h0_1 ?rest19
              case hy19 => (intro w' hS; (try dsimp only at hS); go_simp; try (with_reducible rfl))
              simp only [Act.put, sA, sB, sC, sD]
              try simp only [sF]
              try simp only [sE]
              refine wpAnyH_done (by kernel_rfl) ?_ _
              have HR4 := Lib.hid (HR3.out.kept Bc.out)
              have PJ := Lib.hid (PI.out.kept Bc.out)
              have EWC := Lib.hid (below_on EWI.out Bc.out)
              generalize wc = wd at *
              have d4 : wd.cell? ⟨q, 4, none⟩ = some (.bool lex) := HR4.out.cell 4
              have d5 : wd.cell? ⟨q, 5, none⟩ = some (.bool uex) := HR4.out.cell 5
              have d6 : wd.cell? ⟨q, 6, none⟩ = some (.bool lop) := HR4.out.cell 6
              have d7 : wd.cell? ⟨q, 7, none⟩ = some (.bool uop) := HR4.out.cell 7
              clear KS Bc PI EWI CP BWI HW3 HR3
              cases lex
              · have FIN := Lib.hid (FBAD.out 4 (by rw [LSE.out, HE.out]; rfl) (by decide))
                obtain ⟨f0, f1, f2, f3⟩ := PJ.out.facts
                go_wp2_with fail
                refine bodyPost_ret (v := .tuple #[.agg #[.int .i64 0, .int .i64 0], .bool false, .int .i64 4]) (by simp [results, Tryz.results31, go_sem, f0, f1]) rfl ?_
                exact FIN.out _ (below_put EWC.out (Nat.le_refl _) _ _)
              · cases uex
                · go_upto_region 34 with (fail)
                  clear d4 d5 d6 d7
                  have KS := Lib.hid (show ∀ W, Below wd.heap.size wd W → (W.cell? ⟨q, 0, none⟩ = some (.int .i64 lv.1) ∧ W.cell? ⟨q, 1, none⟩ = some (.int .i64 lv.2) ∧ W.cell? ⟨q, 6, none⟩ = some (.bool lop)) from fun W h => ⟨(CF2.out _ (HR4.out.kept h)).1, (CF2.out _ (HR4.out.kept h)).2.1, (CF2.out _ (HR4.out.kept h)).2.2⟩)
                  obtain ⟨wc, hwc⟩ : ∃ wc, wc = wd.drew := ⟨_, rfl⟩
                  have Bc := Lib.hid (show Below wd.heap.size wd wc by rw [hwc]; exact (Below.refl _ _).drew)
                  refine wp_region_held_drew (S := (fun W => (W.cell? ⟨q, 0, none⟩ = some (.int .i64 lv.1) ∧ W.cell? ⟨q, 1, none⟩ = some (.int .i64 lv.2) ∧ W.cell? ⟨q, 6, none⟩ = some (.bool lop)))) (by kernel_rfl) (by rw [← hwc]; exact KS.out _ Bc.out) (fun h0 => ?_)
                  rw [← hwc] at h0 ⊢
                  clear hwc
                  refine tkH (i := 0) (v := ?v20) rfl (Or.inl ⟨by rfl, ?hy20⟩) h0 ?rest20
                  case hy20 => (intro w' hS; (try dsimp only at hS); go_simp; try (with_reducible rfl))
                  simp only [Act.put, sA, sB, sD, sE, sF]
                  refine tkH (i := 1) (v := ?v21) rfl (Or.inl ⟨by rfl, ?hy21⟩) h0 ?rest21
                  case hy21 => (intro w' hS; (try dsimp only at hS); go_simp; try (with_reducible rfl))
                  simp only [Act.put, sZ]
                  refine tkH (i := 2) (v := ?v22) rfl (Or.inl ⟨by rfl, ?hy22⟩) h0 ?rest22
                  case hy22 => (intro w' hS; (try dsimp only at hS); go_simp; try (with_reducible rfl))
                  simp only [Act.put, sZ]
                  refine tkH (i := 3) (v := ?v23) rfl (Or.inl ⟨by rfl, ?hy23⟩) h0 ?rest23
                  case hy23 => (intro w' hS; (try dsimp only at hS); go_simp; try (with_reducible rfl))
                  simp only [Act.put, sZ]
                  refine tkH (i := 4) (v := ?v24) rfl (Or.inl ⟨by rfl, ?hy24⟩) h0 ?rest24
                  case hy24 => (intro w' hS; (try dsimp only at hS); go_simp; try (with_reducible rfl))
                  simp only [Act.put, sZ]
                  refine tkH (i := 5) (v := ?v25) rfl (Or.inl ⟨by rfl, ?hy25⟩) h0 ?rest25
                  case hy25 => (intro w' hS; (try dsimp only at hS); go_simp; try (with_reducible rfl))
                  simp only [Act.put, sZ]
                  refine tkH (i := 6) (v := ?v26) rfl (Or.inl ⟨by rfl, ?hy26⟩) h0 ?rest26
                  case hy26 => (intro w' hS; (try dsimp only at hS); go_simp; try (with_reducible rfl))
                  simp only [Act.put, sZ]
                  refine tkH (i := 7) (v := ?v27) rfl (Or.inl ⟨by rfl, ?hy27⟩) h0 ?rest27
                  case hy27 => (intro w' hS; (try dsimp only at hS); go_simp; try (with_reducible rfl))
                  simp only [Act.put, sZ]
                  refine tkH (i := 8) (v := ?v28) rfl (Or.inl ⟨by rfl, ?hy28⟩) h0 ?rest28
                  case hy28 => (intro w' hS; (try dsimp only at hS); go_simp; try (with_reducible rfl))
                  simp only [Act.put, sZ]
                  refine wpAnyH_ready (rs := [9]) (by kernel_rfl) (by simp) (AllReadyH.cons rfl (fun K hK => ?_) AllReadyH.nil)
                  rw [if_pos (by rfl)]
                  go_simp
                  have PX := Lib.hid (PJ.out.kept Bc.out)
                  obtain ⟨f0, f1, f2, f3⟩ := PX.out.facts
                  have BB := Lib.hid (below_put (below_on EWC.out Bc.out) (Nat.le_refl _) (.int .i64 lv.1) (.int .i64 lv.2))
                  have PY := Lib.hid (PX.out.put lv.1 lv.2)
                  have HR5 := Lib.hid ((HR4.out.kept Bc.out).asideP (b := w.heap.size) (by have := QE.out; have := WQ.out; omega) (.int .i64 lv.1) (.int .i64 lv.2))
                  go_simp
                  refine hK.out _ _ (CF2.out _ HR5.out) (fun h0_1 => ?_)
                  clear hK K h0
                  clear f0 f1 f2 f3
                  obtain ⟨f0, f1, _, _⟩ := PY.out.facts
                  refine tkH (i := 10) (v := ?v29) rfl (Or.inl ⟨by rfl, ?hy29⟩) h0_1 ?rest29
                  case hy29 => (intro w' hS; (try dsimp only at hS); go_simp; try (with_reducible rfl))
                  simp only [Act.put, sZ]
                  refine tkH (i := 11) (v := ?v30) rfl (Or.inl ⟨by rfl, ?hy30⟩) h0_1 ?rest30
                  case hy30 => (intro w' hS; (try dsimp only at hS); go_simp; try (with_reducible rfl))
                  simp only [Act.put, sA, sB, sC, sD]
                  try simp only [sF]
                  try simp only [sE]
                  refine wpAnyH_done (by kernel_rfl) ?_ _
                  go_wp2_with fail
                  refine bodyPost_ret (v := .tuple #[.agg #[.int .i64 lv.1, .int .i64 lv.2], .bool (!lop), .int .i64 0]) (by simp [results, Tryz.results31, go_sem, f0, f1]) rfl ?_
                  exact FGOOD.out (by first | rfl | trivial) _ BB.out
                · obtain ⟨a1, a2⟩ := CPH.out rfl rfl
                  by_cases cz : cv = 0
                  · obtain ⟨rfl, rfl⟩ := a2 cz
                    subst cz
                    clear a1 a2 CPH
                    go_upto_region 34 with (fail)
                    clear d4 d5 d6 d7
                    have KS := Lib.hid (show ∀ W, Below wd.heap.size wd W → (W.cell? ⟨q, 0, none⟩ = some (.int .i64 lv.1) ∧ W.cell? ⟨q, 1, none⟩ = some (.int .i64 lv.2) ∧ W.cell? ⟨q, 6, none⟩ = some (.bool false)) from fun W h => ⟨(CF2.out _ (HR4.out.kept h)).1, (CF2.out _ (HR4.out.kept h)).2.1, (CF2.out _ (HR4.out.kept h)).2.2⟩)
                    obtain ⟨wc, hwc⟩ : ∃ wc, wc = wd.drew := ⟨_, rfl⟩
                    have Bc := Lib.hid (show Below wd.heap.size wd wc by rw [hwc]; exact (Below.refl _ _).drew)
                    refine wp_region_held_drew (S := (fun W => (W.cell? ⟨q, 0, none⟩ = some (.int .i64 lv.1) ∧ W.cell? ⟨q, 1, none⟩ = some (.int .i64 lv.2) ∧ W.cell? ⟨q, 6, none⟩ = some (.bool false)))) (by kernel_rfl) (by rw [← hwc]; exact KS.out _ Bc.out) (fun h0 => ?_)
                    rw [← hwc] at h0 ⊢
                    clear hwc
                    refine tkH (i := 0) (v := ?v31) rfl (Or.inl ⟨by rfl, ?hy31⟩) h0 ?rest31
                    case hy31 => (intro w' hS; (try dsimp only at hS); go_simp; try (with_reducible rfl))
                    simp only [Act.put, sA, sB, sD, sE, sF]
                    refine tkH (i := 1) (v := ?v32) rfl (Or.inl ⟨by rfl, ?hy32⟩) h0 ?rest32
                    case hy32 => (intro w' hS; (try dsimp only at hS); go_simp; try (with_reducible rfl))
                    simp only [Act.put, sZ]
                    refine tkH (i := 2) (v := ?v33) rfl (Or.inl ⟨by rfl, ?hy33⟩) h0 ?rest33
                    case hy33 => (intro w' hS; (try dsimp only at hS); go_simp; try (with_reducible rfl))
                    simp only [Act.put, sZ]
                    refine tkH (i := 3) (v := ?v34) rfl (Or.inl ⟨by rfl, ?hy34⟩) h0 ?rest34
                    case hy34 => (intro w' hS; (try dsimp only at hS); go_simp; try (with_reducible rfl))
                    simp only [Act.put, sZ]
                    refine tkH (i := 4) (v := ?v35) rfl (Or.inl ⟨by rfl, ?hy35⟩) h0 ?rest35
                    case hy35 => (intro w' hS; (try dsimp only at hS); go_simp; try (with_reducible rfl))
                    simp only [Act.put, sZ]
                    refine tkH (i := 5) (v := ?v36) rfl (Or.inl ⟨by rfl, ?hy36⟩) h0 ?rest36
                    case hy36 => (intro w' hS; (try dsimp only at hS); go_simp; try (with_reducible rfl))
                    simp only [Act.put, sZ]
                    refine tkH (i := 6) (v := ?v37) rfl (Or.inl ⟨by rfl, ?hy37⟩) h0 ?rest37
                    case hy37 => (intro w' hS; (try dsimp only at hS); go_simp; try (with_reducible rfl))
                    simp only [Act.put, sZ]
                    refine tkH (i := 7) (v := ?v38) rfl (Or.inl ⟨by rfl, ?hy38⟩) h0 ?rest38
                    case hy38 => (intro w' hS; (try dsimp only at hS); go_simp; try (with_reducible rfl))
                    simp only [Act.put, sZ]
                    refine tkH (i := 8) (v := ?v39) rfl (Or.inl ⟨by rfl, ?hy39⟩) h0 ?rest39
                    case hy39 => (intro w' hS; (try dsimp only at hS); go_simp; try (with_reducible rfl))
                    simp only [Act.put, sZ]
                    refine wpAnyH_ready (rs := [9]) (by kernel_rfl) (by simp) (AllReadyH.cons rfl (fun K hK => ?_) AllReadyH.nil)
                    rw [if_pos (by rfl)]
                    go_simp
                    have PX := Lib.hid (PJ.out.kept Bc.out)
                    obtain ⟨f0, f1, f2, f3⟩ := PX.out.facts
                    have BB := Lib.hid (below_put (below_on EWC.out Bc.out) (Nat.le_refl _) (.int .i64 lv.1) (.int .i64 lv.2))
                    have PY := Lib.hid (PX.out.put lv.1 lv.2)
                    have HR5 := Lib.hid ((HR4.out.kept Bc.out).asideP (b := w.heap.size) (by have := QE.out; have := WQ.out; omega) (.int .i64 lv.1) (.int .i64 lv.2))
                    go_simp
                    refine hK.out _ _ (CF2.out _ HR5.out) (fun h0_1 => ?_)
                    clear hK K h0
                    clear f0 f1 f2 f3
                    obtain ⟨f0, f1, _, _⟩ := PY.out.facts
                    refine tkH (i := 10) (v := ?v40) rfl (Or.inl ⟨by rfl, ?hy40⟩) h0_1 ?rest40
                    case hy40 => (intro w' hS; (try dsimp only at hS); go_simp; try (with_reducible rfl))
                    simp only [Act.put, sZ]
                    refine tkH (i := 11) (v := ?v41) rfl (Or.inl ⟨by rfl, ?hy41⟩) h0_1 ?rest41
                    case hy41 => (intro w' hS; (try dsimp only at hS); go_simp; try (with_reducible rfl))
                    simp only [Act.put, sA, sB, sC, sD]
                    try simp only [sF]
                    try simp only [sE]
                    refine wpAnyH_done (by kernel_rfl) ?_ _
                    go_wp2_with fail
                    refine bodyPost_ret (v := .tuple #[.agg #[.int .i64 lv.1, .int .i64 lv.2], .bool (!false), .int .i64 0]) (by simp [results, Tryz.results31, go_sem, f0, f1]) rfl ?_
                    exact FGOOD.out (by first | rfl | trivial) _ BB.out
                  · have h1 : (cv == 0) = false := by simpa using cz
                    have h2 : decide (0 < cv) = false := by simpa using a1
                    clear a2 CPH
                    go_upto_region 34 with (fail)
                    clear d4 d5 d6 d7
                    have KS := Lib.hid (show ∀ W, Below wd.heap.size wd W → (W.cell? ⟨q, 0, none⟩ = some (.int .i64 lv.1) ∧ W.cell? ⟨q, 1, none⟩ = some (.int .i64 lv.2) ∧ W.cell? ⟨q, 6, none⟩ = some (.bool lop)) from fun W h => ⟨(CF2.out _ (HR4.out.kept h)).1, (CF2.out _ (HR4.out.kept h)).2.1, (CF2.out _ (HR4.out.kept h)).2.2⟩)
                    obtain ⟨wc, hwc⟩ : ∃ wc, wc = wd.drew := ⟨_, rfl⟩
                    have Bc := Lib.hid (show Below wd.heap.size wd wc by rw [hwc]; exact (Below.refl _ _).drew)
                    refine wp_region_held_drew (S := (fun W => (W.cell? ⟨q, 0, none⟩ = some (.int .i64 lv.1) ∧ W.cell? ⟨q, 1, none⟩ = some (.int .i64 lv.2) ∧ W.cell? ⟨q, 6, none⟩ = some (.bool lop)))) (by kernel_rfl) (by rw [← hwc]; exact KS.out _ Bc.out) (fun h0 => ?_)
                    rw [← hwc] at h0 ⊢
                    clear hwc
                    refine tkH (i := 0) (v := ?v42) rfl (Or.inl ⟨by rfl, ?hy42⟩) h0 ?rest42
                    case hy42 => (intro w' hS; (try dsimp only at hS); go_simp; try (with_reducible rfl))
                    simp only [Act.put, sA, sB, sD, sE, sF]
                    refine tkH (i := 1) (v := ?v43) rfl (Or.inl ⟨by rfl, ?hy43⟩) h0 ?rest43
                    case hy43 => (intro w' hS; (try dsimp only at hS); go_simp; try (with_reducible rfl))
                    simp only [Act.put, sZ]
                    refine tkH (i := 2) (v := ?v44) rfl (Or.inl ⟨by rfl, ?hy44⟩) h0 ?rest44
                    case hy44 => (intro w' hS; (try dsimp only at hS); go_simp; try (with_reducible rfl))
                    simp only [Act.put, sZ]
                    refine tkH (i := 3) (v := ?v45) rfl (Or.inl ⟨by rfl, ?hy45⟩) h0 ?rest45
                    case hy45 => (intro w' hS; (try dsimp only at hS); go_simp; try (with_reducible rfl))
                    simp only [Act.put, sZ]
                    refine tkH (i := 4) (v := ?v46) rfl (Or.inl ⟨by rfl, ?hy46⟩) h0 ?rest46
                    case hy46 => (intro w' hS; (try dsimp only at hS); go_simp; try (with_reducible rfl))
                    simp only [Act.put, sZ]
                    refine tkH (i := 5) (v := ?v47) rfl (Or.inl ⟨by rfl, ?hy47⟩) h0 ?rest47
                    case hy47 => (intro w' hS; (try dsimp only at hS); go_simp; try (with_reducible rfl))
                    simp only [Act.put, sZ]
                    refine tkH (i := 6) (v := ?v48) rfl (Or.inl ⟨by rfl, ?hy48⟩) h0 ?rest48
                    case hy48 => (intro w' hS; (try dsimp only at hS); go_simp; try (with_reducible rfl))
                    simp only [Act.put, sZ]
                    refine tkH (i := 7) (v := ?v49) rfl (Or.inl ⟨by rfl, ?hy49⟩) h0 ?rest49
                    case hy49 => (intro w' hS; (try dsimp only at hS); go_simp; try (with_reducible rfl))
                    simp only [Act.put, sZ]
                    refine tkH (i := 8) (v := ?v50) rfl (Or.inl ⟨by rfl, ?hy50⟩) h0 ?rest50
                    case hy50 => (intro w' hS; (try dsimp only at hS); go_simp; try (with_reducible rfl))
                    simp only [Act.put, sZ]
                    refine wpAnyH_ready (rs := [9]) (by kernel_rfl) (by simp) (AllReadyH.cons rfl (fun K hK => ?_) AllReadyH.nil)
                    rw [if_pos (by rfl)]
                    go_simp
                    have PX := Lib.hid (PJ.out.kept Bc.out)
                    obtain ⟨f0, f1, f2, f3⟩ := PX.out.facts
                    have BB := Lib.hid (below_put (below_on EWC.out Bc.out) (Nat.le_refl _) (.int .i64 lv.1) (.int .i64 lv.2))
                    have PY := Lib.hid (PX.out.put lv.1 lv.2)
                    have HR5 := Lib.hid ((HR4.out.kept Bc.out).asideP (b := w.heap.size) (by have := QE.out; have := WQ.out; omega) (.int .i64 lv.1) (.int .i64 lv.2))
                    go_simp
                    refine hK.out _ _ (CF2.out _ HR5.out) (fun h0_1 => ?_)
                    clear hK K h0
                    clear f0 f1 f2 f3
                    obtain ⟨f0, f1, _, _⟩ := PY.out.facts
                    refine tkH (i := 10) (v := ?v51) rfl (Or.inl ⟨by rfl, ?hy51⟩) h0_1 ?rest51
                    case hy51 => (intro w' hS; (try dsimp only at hS); go_simp; try (with_reducible rfl))
                    simp only [Act.put, sZ]
                    refine tkH (i := 11) (v := ?v52) rfl (Or.inl ⟨by rfl, ?hy52⟩) h0_1 ?rest52
                    case hy52 => (intro w' hS; (try dsimp only at hS); go_simp; try (with_reducible rfl))
                    simp only [Act.put, sA, sB, sC, sD]
                    try simp only [sF]
                    try simp only [sE]
                    refine wpAnyH_done (by kernel_rfl) ?_ _
                    go_wp2_with fail
                    refine bodyPost_ret (v := .tuple #[.agg #[.int .i64 lv.1, .int .i64 lv.2], .bool (!lop), .int .i64 0]) (by simp [results, Tryz.results31, go_sem, f0, f1]) rfl ?_
                    exact FGOOD.out (by first | rfl | trivial) _ BB.out
end Go.Proofs.YtbhaoaobhgilkaaGreat
