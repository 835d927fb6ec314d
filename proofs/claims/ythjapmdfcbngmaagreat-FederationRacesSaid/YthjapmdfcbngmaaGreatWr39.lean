/- A part. -/
import Derived.Test.YthjapmdfcbngmaaGreatWr20
import Derived.Test.YthjapmdfcbngmaaGreatWr13
import Derived.Lib.AppendZeros
import Derived.Test.YthjapmdfcbngmaaGreatWr11
namespace Go.Proofs.YthjapmdfcbngmaaGreat
set_option maxHeartbeats 4000000
open Go.RowKit
theorem qbox (N : Int) (ao : Option Addr) (len cap : Nat) (w : World) : ∃ w0, w0 = w.alloc (.cells #[.int .i64 N, .slice ao len cap] 36) ∧ Below w.heap.size w w0 ∧
  (∀ W : World, Below w0.heap.size w0 W → (W.cell? ⟨w.heap.size, 0, none⟩ = some (.int .i64 N) ∧ W.cell? ⟨w.heap.size, 1, none⟩ = some (.slice ao len cap))) := by
 refine ⟨_, rfl, one_more _, fun W h => ?_⟩
 have bx := (Two.made w (.int .i64 N) (.slice ao len cap) 36).kept h
 exact ⟨bx.facts.1, bx.facts.2.1⟩
theorem results_mx3 {fn : Func} {p t s : Tmp} (h : fn.results = #[.cell p 120, .tmp t, .tmp s]) (tmps : Array Value) {w : World} {b : Nat} {cs : Array Value} {v u : Value}
  (hp : tmps.getD p undef = .pointer (some ⟨b, 0, none⟩)) (ht : tmps.getD t undef = v) (hs : tmps.getD s undef = u) (hv : Var w b cs) : (results fn tmps).run Tryz.prog w = .ok (.tuple #[.agg cs, v, u]) w := by
 have hp' : tmps[p]?.getD undef = .pointer (some ⟨b, 0, none⟩) := by simpa using hp
 have ht' : tmps[t]?.getD undef = v := by simpa using ht
 have hs' : tmps[s]?.getD undef = u := by simpa using hs
 simp [results, h, hp', ht', hs', asAddr, mx_load hv.1 hv.2]
set_option maxRecDepth 100000 in
theorem openat_bad (N : Int) (l : List Int) (ao : Option Addr) (cap : Nat) (po : Option Addr) (pl pc : Nat) (w : World) (hA : Arg w ao l) (hr : okB N l = false ∨ (pl : Int) ≠ N) :
  Calls Tryz.prog 116 #[.agg #[.int .i64 N, .slice ao l.length cap], .slice po pl pc] w (fun e w' => e = .returned (.tuple #[.agg (mcs 0 []), .slice none 0 0, .int .i64 2]) ∧ Below w.heap.size w w') := by
 have hz := mx_zero
 have h0 := mx_build0
 have szA := rdW_size N l
 have s1A := rdW_one N l
 have CR := Lib.hid (show ∀ W, Below w.heap.size w W → Calls Tryz.prog 131 #[.agg #[.int .i64 N, .slice ao l.length cap]] W (fun e w' => e = .returned (.tuple #[.agg (rdW N l), .bool (okB N l)]) ∧ Below W.heap.size W w') from fun W h => open_gen N l ao cap W (hA.on h))
 generalize rdW N l = A at *
 generalize okB N l = ok at *
 generalize l.length = len at *
 obtain ⟨w0, hw0⟩ : ∃ w0, w0 = (w.alloc (.cells #[.int .i64 N, .slice ao len cap] 36)).alloc (.cells (mcs 0 []) 120) := ⟨_, rfl⟩
 have bx : Two w0 w.heap.size (.int .i64 N) (.slice ao len cap) := by rw [hw0]; exact (Two.made _ _ _ _).alloc _
 have BX := Lib.hid bx
 obtain ⟨b0, b1, b2, b3⟩ := bx.facts
 have V0 : Var w0 (w.heap.size + 1) (mcs 0 []) := by
  rw [hw0]
  have := Var.made (w.alloc (.cells #[.int .i64 N, .slice ao len cap] 36))
  simpa using this
 have E0 := Lib.hid (show Below w.heap.size w w0 by rw [hw0]; exact past_two (Below.refl _ _))
 have HV := Lib.hid V0
 clear V0 hA bx
 go_enter Tryz.func116, Tryz.ntmps116
 go_upto_region 1 with (fail)
 rw [← hw0]
 clear hw0
 go_wp2_with fail
 refine (CR.out _ E0.out).mono ?_
 rintro e w1 ⟨rfl, hb⟩
 have V1 := HV.out.kept hb
 have E1 := below_on E0.out hb
 have hle := E1.size
 obtain ⟨w2, hw2⟩ : ∃ w2, w2 = (w1.alloc (.cells (mcs 0 []) 120)).setRow w1.heap.size A := ⟨_, rfl⟩
 have V3 := Lib.hid (show Var w2 (w.heap.size + 1) (mcs 0 []) by rw [hw2]; exact (V1.kept (one_more _)).far (b' := w1.heap.size) (by have := V1.lt; omega) A)
 have B2 := Lib.hid (show Below w0.heap.size w0 w2 by rw [hw2]; exact Below.setRow (hb.alloc hb.size _) hb.size _)
 have sz := mcs_size (n := 0) (l := []) (by simp)
 clear V1 E1 hb b0 b1 b2 b3
 obtain ⟨b0, b1, b2, b3⟩ := (BX.out.kept B2.out).facts
 have fin : ∀ w' : World, w' = w2.setRow (w.heap.size + 1) (mcs 0 []) → Below w.heap.size w w' := fun w' e => by
  rw [e]; exact Below.setRow (below_on E0.out B2.out) (by omega) _
 have FIN := Lib.hid fin
 clear fin
 go_upto_region 2 with (refine wpl_store rfl _ _ rfl _ _ rfl rfl _ (Var.made _) szA s1A ?_)
 rw [← hw2]
 clear hw2
 cases ok
 · clear hr
   go_wp2_with (refine wpl_store rfl _ _ rfl _ _ rfl rfl _ V3.out sz (mcs_one _ _) ?_)
   refine bodyPost_ret (results_mx3 Tryz.results116 _ rfl rfl rfl (V3.out.put (mcs 0 []) sz)) rfl ⟨rfl, FIN.out _ rfl⟩
 · have hne : (pl : Int) ≠ N := by
    rcases hr with q | q
    · cases q
    · exact q
   have D : ((pl : Int) != N) = true := by simpa using hne
   clear hr hne
   go_wp2_with (refine wpl_store rfl _ _ rfl _ _ rfl rfl _ V3.out sz (mcs_one _ _) ?_)
   refine bodyPost_ret (results_mx3 Tryz.results116 _ rfl rfl rfl (V3.out.put (mcs 0 []) sz)) rfl ⟨rfl, FIN.out _ rfl⟩
set_option maxRecDepth 100000 in
theorem grow_any (m : Nat) (w : World) (h0 : 0 < m) (h1 : m ≤ 1000) :
  Calls Tryz.prog 169 #[.slice none 0 0, .int .i64 m] w (fun e w' => Below w.heap.size w w' ∧ ∃ v, e = .returned v ∧ OwnQ w' w.heap.size v []) := by
 obtain ⟨i0, hi, hz0, hz1, hz2⟩ := info_parts rat_info
 have D : decide ((m : Int) < 0) = false := by simp
 have D2 : decide ((0 : Int) < (m : Int)) = true := by simp; omega
 have RUN := Lib.hid (Lib.run_append_nil_zeros (P := Tryz.prog) w 40 3 40 45 i0 (.agg #[.int .i64 0, .int .i64 0]) .i64 .i64 Tryz.underlying40 Tryz.underlying3 hi hz0 m h0 (by omega) (by omega) (by rw [hz2]; omega))
 have G1 := grownCap_ge w m 0 45
 have G2 := grownCap_le_maxLen w m 0 45 (by unfold maxLen; omega)
 generalize grownCap w m 0 45 = c at *
 obtain ⟨w5, hw5⟩ : ∃ w5, w5 = w.drew.alloc (.cells (Builtin.zeroCells (Value.agg #[.int .i64 0, .int .i64 0]).cells m ++ Builtin.zeroCells (Value.agg #[.int .i64 0, .int .i64 0]).cells (c - m)) 45) := ⟨_, rfl⟩
 rw [← hw5] at RUN
 have B5 := Lib.hid (show Below w.heap.size w w5 by rw [hw5]; exact (Below.refl _ _).drew.alloc (Nat.le_refl _) _)
 have O5 := Lib.hid (show OwnQ w5 w.heap.size (.slice (some ⟨w.heap.size, 0, none⟩) 0 c) [] by
  refine ⟨rfl, .inr ⟨w.heap.size, c, _, rfl, Nat.le_refl _, by rw [hw5]; exact heap_alloc_new w.drew _, Nat.zero_le _, G2, ?_, rfl⟩⟩
  simp only [Array.size_append, size_zeroCells]
  show m * 2 + (c - m) * 2 = c * 2
  omega)
 have hc0 : (c = 0) = False := by simp; omega
 clear hw5
 go_enter Tryz.func169, Tryz.ntmps169
 go_wp2_with (at_builtin; refine Lib.wpList_append_run _ rfl _ _ _ _ rfl _ _ rfl rfl _ _ RUN.out ?_)
 go_ret
 exact ⟨B5.out, _, rfl, O5.out⟩
def ccS (k : Nat) : Nat → Nat
 | 0 => 0
 | 1 => 1
 | _ => 1 + k
def ccP (q : Pq) (ps : List Pq) : Nat → List Pq
 | 0 => []
 | 1 => [q]
 | _ => q :: ps
theorem qV_appd (a b : List Pq) : qV (a ++ b) = qV a ++ qV b := by unfold qV; rw [List.flatMap_append]
theorem qV_one (cs : List Pq) : ∀ u ∈ qV cs, u.oneCell' = true := by
 intro u hu
 unfold qV at hu
 rw [List.mem_flatMap] at hu
 obtain ⟨c, _, hc⟩ := hu
 simp at hc
 rcases hc with rfl | rfl <;> rfl
theorem qV_cells {w : World} {a : Addr} {cs : List Pq} (h : Rd2 w a cs) : ∀ j u, (qV cs)[j]? = some u → w.cell? (a.add j) = some u := by
 intro j u hu
 have hj : j < cs.length * 2 := by
  rw [← qV_len]
  by_cases c : j < (qV cs).length
  · exact c
  · rw [List.getElem?_eq_none (by omega)] at hu; cases hu
 obtain ⟨h1, h2⟩ := h (j / 2) (by omega)
 obtain ⟨c1, c2⟩ := qV_at cs (j / 2) (by omega)
 rcases Nat.mod_two_eq_zero_or_one j with e | e
 · have ej : j / 2 * 2 = j := by omega
   rw [ej] at h1 c1
   rw [c1] at hu; injection hu with hu
   rw [← hu]; exact h1
 · have ej : j / 2 * 2 + 1 = j := by omega
   rw [ej] at c2
   rw [c2] at hu; injection hu with hu
   rw [← hu, ← h2]
   congr 1
   unfold Addr.add
   split <;> split <;> simp_all <;> omega
set_option maxRecDepth 100000 in
theorem concat_some (h b : Nat) (q : Pq) (ps : List Pq) (a : Addr) (cap : Nat) (w : World) (h0 : w.cell? ⟨h, 0, none⟩ = some (.slice (some ⟨b, 0, none⟩) 1 1)) (h1 : w.cell? ⟨h, 1, none⟩ = some (.slice (some a) ps.length cap))
  (hq : Rd2 w ⟨b, 0, none⟩ [q]) (hp : Arg2 w (some a) ps) (hl : ps.length ≤ 200) :
  Calls Tryz.prog 147 #[.slice (some ⟨h, 0, none⟩) 2 2] w (fun e w' => Below w.heap.size w w' ∧ ∃ v, e = .returned v ∧ OwnQ w' w.heap.size v (q :: ps)) := by
 obtain ⟨i0, hi, hz0, hz1, hz2⟩ := info_parts rat_info
 have GR := Lib.hid (grow_any (1 + ps.length) w (by omega) (by omega))
 have CL := Lib.hid (show ∀ W, Below w.heap.size w W → W.cell? ⟨h, 0, none⟩ = some (.slice (some ⟨b, 0, none⟩) 1 1) ∧ W.cell? ⟨h, 1, none⟩ = some (.slice (some a) ps.length cap) from fun W hb => ⟨kept hb h0, kept hb h1⟩)
 have C0 := Lib.hid (show ∀ W, Below w.heap.size w W → ∀ j u, (qV [q])[j]? = some u → W.cell? ((⟨b, 0, none⟩ : Addr).add j) = some u from fun W hb => qV_cells (hq.on hb))
 have hlen := Lib.hid (qV_len [q])
 have C1 := Lib.hid (show ∀ W, Below w.heap.size w W → ∀ j u, (qV ps)[j]? = some u → W.cell? (a.add j) = some u from fun W hb => by
  by_cases c : ps = []
  · subst c; intro j u q; simp [qV] at q
  · obtain ⟨a', e', hr⟩ := hp c
    injection e' with e'
    subst e'
    exact qV_cells (hr.on hb))
 have L1 := Lib.hid (show (qV ps).length = ps.length * 2 from qV_len ps)
 generalize hk : ps.length = k at *
 clear hq hp
 go_enter Tryz.func147, Tryz.ntmps147
 go_wp2_with fail
 go_loopw [11, 3] (fun s t wr => ∃ j : Nat, j ≤ 2 ∧ s = .int .i64 j ∧ t = .int .i64 (ccS k j) ∧ wr = w) (fun s _ _ => 2 - (intOf s).toNat)
 case atStart => exact ⟨0, by omega, rfl, rfl, rfl⟩
 case round =>
  obtain ⟨j, hj, rfl, rfl, hw⟩ := hrel
  rw [hw]
  clear hw
  obtain ⟨b0, b1⟩ := CL.out w (Below.refl _ _)
  have hjj : j = 0 ∨ j = 1 ∨ j = 2 := by omega
  clear hj
  rcases hjj with rfl | rfl | rfl
  · simp only [ccS]
    go_wp2_with fail
    go_roundw
    case rel => exact ⟨1, by omega, by go_num, by go_num, trivial⟩
    case measure => simp [intOf]
  · simp only [ccS]
    go_wp2_with fail
    go_roundw
    case rel => exact ⟨2, by omega, by go_num, by go_num, trivial⟩
    case measure => simp [intOf]
  · simp only [ccS]
    clear b0 b1
    go_wp2_with fail
    refine GR.out.mono ?_
    rintro e w1 ⟨hb1, v1, rfl, hv1⟩
    have B1 := Lib.hid hb1
    have O1 := Lib.hid hv1
    clear hb1 hv1
    go_wp2_with fail
    go_loopw [27, 6] (fun s v wr => ∃ j : Nat, j ≤ 2 ∧ s = .int .i64 j ∧ Hid (OwnQ wr w.heap.size v (ccP q ps j) ∧ Below w.heap.size w wr)) (fun s _ _ => 2 - (intOf s).toNat)
    case atStart => exact ⟨0, by omega, rfl, Lib.hid ⟨O1.out, B1.out⟩⟩
    case round =>
     obtain ⟨j, hj, rfl, HX⟩ := hrel
     have hjj : j = 0 ∨ j = 1 ∨ j = 2 := by omega
     clear hj
     rcases hjj with rfl | rfl | rfl
     · obtain ⟨b0, b1⟩ := CL.out _ HX.out.2
       have hown := HX.out.1
       unfold OwnQ at hown
       simp only [ccP, List.length_nil] at hown
       go_wp2_with (at_builtin; refine wpList_append_own _ rfl _ _ 40 rfl w.heap.size 45 i0 (.agg #[.int .i64 0, .int .i64 0]) 2 16 Tryz.underlying40 hi hz0 hz1 hz2 rfl (by decide) _ _ _ rfl hown ⟨b, 0, none⟩ 1 1 (qV [q]) rfl hlen.out (C0.out _ HX.out.2) (qV_one _) (by unfold maxLen; omega) (by omega) HX.out.2.size ?_)
       intro v' w9 hown9 hgrow _
       have B9 := Lib.hid (show Below w.heap.size w w9 from Below.grown HX.out.2 hgrow HX.out.2.size (fun k hk => (World.ownsRow.lt hown k hk).1))
       have O9 := Lib.hid (show OwnQ w9 w.heap.size v' (ccP q ps 1) from hown9)
       clear hown9 hgrow hown b0 b1
       go_wp2_with fail
       go_roundw
       case rel => exact ⟨1, by omega, by go_num, Lib.hid ⟨O9.out, B9.out⟩⟩
       case measure => simp [intOf]
     · obtain ⟨b0, b1⟩ := CL.out _ HX.out.2
       have hown := HX.out.1
       unfold OwnQ at hown
       simp only [ccP, List.length_nil, List.length_cons] at hown
       go_wp2_with (at_builtin; refine wpList_append_own _ rfl _ _ 40 rfl w.heap.size 45 i0 (.agg #[.int .i64 0, .int .i64 0]) 2 16 Tryz.underlying40 hi hz0 hz1 hz2 rfl (by decide) _ _ _ rfl hown a k cap (qV ps) rfl L1.out (C1.out _ HX.out.2) (qV_one _) (by unfold maxLen; omega) (by omega) HX.out.2.size ?_)
       intro v' w9 hown9 hgrow _
       have B9 := Lib.hid (show Below w.heap.size w w9 from Below.grown HX.out.2 hgrow HX.out.2.size (fun k hk => (World.ownsRow.lt hown k hk).1))
       have O9 := Lib.hid (show OwnQ w9 w.heap.size v' (ccP q ps 2) by
        unfold OwnQ
        simp only [ccP]
        rw [show q :: ps = [q] ++ ps from rfl, qV_appd, List.length_append, hk]
        exact hown9)
       clear hown9 hgrow hown b0 b1
       go_wp2_with fail
       go_roundw
       case rel => exact ⟨2, by omega, by go_num, Lib.hid ⟨O9.out, B9.out⟩⟩
       case measure => simp [intOf]
     · go_wp2_with fail
       go_ret
       exact ⟨HX.out.2, _, rfl, HX.out.1⟩
set_option maxRecDepth 100000 in
theorem concat_nil (h b : Nat) (q : Pq) (w : World) (h0 : w.cell? ⟨h, 0, none⟩ = some (.slice (some ⟨b, 0, none⟩) 1 1)) (h1 : w.cell? ⟨h, 1, none⟩ = some (.slice none 0 0))
  (hq : Rd2 w ⟨b, 0, none⟩ [q]) :
  Calls Tryz.prog 147 #[.slice (some ⟨h, 0, none⟩) 2 2] w (fun e w' => Below w.heap.size w w' ∧ ∃ v, e = .returned v ∧ OwnQ w' w.heap.size v (q :: [])) := by
 obtain ⟨i0, hi, hz0, hz1, hz2⟩ := info_parts rat_info
 have GR := Lib.hid (grow_any 1 w (by omega) (by omega))
 have CL := Lib.hid (show ∀ W, Below w.heap.size w W → W.cell? ⟨h, 0, none⟩ = some (.slice (some ⟨b, 0, none⟩) 1 1) ∧ W.cell? ⟨h, 1, none⟩ = some (.slice none 0 0) from fun W hb => ⟨kept hb h0, kept hb h1⟩)
 have C0 := Lib.hid (show ∀ W, Below w.heap.size w W → ∀ j u, (qV [q])[j]? = some u → W.cell? ((⟨b, 0, none⟩ : Addr).add j) = some u from fun W hb => qV_cells (hq.on hb))
 have hlen := Lib.hid (qV_len [q])
 clear hq
 go_enter Tryz.func147, Tryz.ntmps147
 go_wp2_with fail
 go_loopw [11, 3] (fun s t wr => ∃ j : Nat, j ≤ 2 ∧ s = .int .i64 j ∧ t = .int .i64 (ccS 0 j) ∧ wr = w) (fun s _ _ => 2 - (intOf s).toNat)
 case atStart => exact ⟨0, by omega, rfl, rfl, rfl⟩
 case round =>
  obtain ⟨j, hj, rfl, rfl, hw⟩ := hrel
  rw [hw]
  clear hw
  obtain ⟨b0, b1⟩ := CL.out w (Below.refl _ _)
  have hjj : j = 0 ∨ j = 1 ∨ j = 2 := by omega
  clear hj
  rcases hjj with rfl | rfl | rfl
  · simp only [ccS]
    go_wp2_with fail
    go_roundw
    case rel => exact ⟨1, by omega, by go_num, by go_num, trivial⟩
    case measure => simp [intOf]
  · simp only [ccS]
    go_wp2_with fail
    go_roundw
    case rel => exact ⟨2, by omega, by go_num, by go_num, trivial⟩
    case measure => simp [intOf]
  · simp only [ccS]
    clear b0 b1
    go_wp2_with fail
    refine GR.out.mono ?_
    rintro e w1 ⟨hb1, v1, rfl, hv1⟩
    have B1 := Lib.hid hb1
    have O1 := Lib.hid hv1
    clear hb1 hv1
    go_wp2_with fail
    go_loopw [27, 6] (fun s v wr => ∃ j : Nat, j ≤ 2 ∧ s = .int .i64 j ∧ Hid (OwnQ wr w.heap.size v (ccP q [] j) ∧ Below w.heap.size w wr)) (fun s _ _ => 2 - (intOf s).toNat)
    case atStart => exact ⟨0, by omega, rfl, Lib.hid ⟨O1.out, B1.out⟩⟩
    case round =>
     obtain ⟨j, hj, rfl, HX⟩ := hrel
     have hjj : j = 0 ∨ j = 1 ∨ j = 2 := by omega
     clear hj
     rcases hjj with rfl | rfl | rfl
     · obtain ⟨b0, b1⟩ := CL.out _ HX.out.2
       have hown := HX.out.1
       unfold OwnQ at hown
       simp only [ccP, List.length_nil] at hown
       go_wp2_with (at_builtin; refine wpList_append_own _ rfl _ _ 40 rfl w.heap.size 45 i0 (.agg #[.int .i64 0, .int .i64 0]) 2 16 Tryz.underlying40 hi hz0 hz1 hz2 rfl (by decide) _ _ _ rfl hown ⟨b, 0, none⟩ 1 1 (qV [q]) rfl hlen.out (C0.out _ HX.out.2) (qV_one _) (by unfold maxLen; omega) (by omega) HX.out.2.size ?_)
       intro v' w9 hown9 hgrow _
       have B9 := Lib.hid (show Below w.heap.size w w9 from Below.grown HX.out.2 hgrow HX.out.2.size (fun k hk => (World.ownsRow.lt hown k hk).1))
       have O9 := Lib.hid (show OwnQ w9 w.heap.size v' (ccP q [] 1) from hown9)
       clear hown9 hgrow hown b0 b1
       go_wp2_with fail
       go_roundw
       case rel => exact ⟨1, by omega, by go_num, Lib.hid ⟨O9.out, B9.out⟩⟩
       case measure => simp [intOf]
     · obtain ⟨b0, b1⟩ := CL.out _ HX.out.2
       have hown := HX.out.1
       unfold OwnQ at hown
       simp only [ccP, List.length_nil, List.length_cons] at hown
       have HRUN := Lib.hid (run_append_owned_none (P := Tryz.prog) _ w.heap.size 40 40 45 i0 2 Tryz.underlying40 hi _ _ _ hown)
       go_wp2_with (at_builtin; (refine Lib.wpList_append_run _ rfl _ _ _ _ rfl _ _ rfl rfl _ _ HRUN.out ?_))
       have O9 := Lib.hid (show OwnQ _ w.heap.size _ (ccP q [] 2) from hown)
       clear hown b0 b1
       go_wp2_with fail
       go_roundw
       case rel => exact ⟨2, by omega, by go_num, Lib.hid ⟨O9.out, HX.out.2⟩⟩
       case measure => simp [intOf]
     · go_wp2_with fail
       go_ret
       exact ⟨HX.out.2, _, rfl, HX.out.1⟩
def OPRes (w : World) (n : Nat) (l : List Int) (ps : List Pq) (e : Ending) (w' : World) : Prop :=
 Below w.heap.size w w' ∧ ((ps.all vldC = false ∧ e = .returned (.tuple #[.agg (mcs 0 []), .slice none 0 0, .int .i64 2])) ∨
  (ps.all vldC = true ∧ ∃ v, e = .returned (.tuple #[.agg (mcs n l), v, .int .i64 0]) ∧ OwnQ w' w.heap.size v ((0, 1) :: ps)))
theorem OwnQ.low {w : World} {B B' : Nat} {v : Value} {ps : List Pq} (h : OwnQ w B v ps) (hb : B' ≤ B) : OwnQ w B' v ps := by
 unfold OwnQ at h ⊢
 refine ⟨h.1, ?_⟩
 rcases h.2 with q | ⟨g, cap, cur, q1, q2, q3⟩
 · exact Or.inl q
 · exact Or.inr ⟨g, cap, cur, q1, by omega, q3⟩
theorem grown_row (w : World) (b : Nat) (cs : Array Value) : w.grownBy (w.setRow b cs) (some b) := ⟨rfl, rfl, rfl, by simp, fun k _ hne => setRow_other w b k cs (by rintro rfl; exact hne rfl)⟩
theorem rd2_one {w : World} {b : Nat} {x y : Int} (h : Pair w b x y) : Rd2 w ⟨b, 0, none⟩ [(x, y)] := by
 intro j hj
 obtain rfl : j = 0 := by simpa using hj
 exact ⟨by simpa [Addr.add, gp] using h.facts.1, by simpa [Addr.add, gp] using h.facts.2.1⟩
theorem OwnQ.row {w : World} {B b B0 : Nat} {v : Value} {ps : List Pq} (h : OwnQ w B v ps) (hb : b < B) (h0 : B0 ≤ B) (cs : Array Value) : OwnQ (w.setRow b cs) B0 v ps := by
 have hl := World.ownsRow.lt h
 refine OwnQ.low (World.ownsRow.kept (row := some b) h (grown_row _ _ _) ?_) h0
 cases hv : v.ownBlock with
 | none => exact Or.inl rfl
 | some k => right; intro e; have := hl k hv; injection e with e; omega
set_option maxRecDepth 100000 in
theorem openat_core (n : Nat) (l : List Int) (ao : Option Addr) (cap : Nat) (ps : List Pq) (d : Addr) (pc : Nat) (w : World) (hA : Arg w ao l) (hc : chkE n l = 0) (hp : ps.length = n) (hP : Rd2 w d ps) (hI : Fits ps) :
  Calls Tryz.prog 116 #[.agg #[.int .i64 n, .slice ao l.length cap], .slice (some d) n pc] w (OPRes w n l ps) := by
 have hz := mx_zero
 have h0 := mx_build0
 obtain ⟨n', en, hn, hl, _⟩ := chk_ok hc
 obtain rfl : n' = n := by omega
 clear en
 have CC := Lib.hid (show ∀ (h b : Nat) (W : World), W.cell? ⟨h, 0, none⟩ = some (.slice (some ⟨b, 0, none⟩) 1 1) → W.cell? ⟨h, 1, none⟩ = some (.slice (some d) n' pc) → Rd2 W ⟨b, 0, none⟩ [((0 : Int), (1 : Int))] → Below w.heap.size w W →
   Calls Tryz.prog 147 #[.slice (some ⟨h, 0, none⟩) 2 2] W (fun e w' => Below W.heap.size W w' ∧ ∃ v, e = .returned v ∧ OwnQ w' W.heap.size v ((0, 1) :: ps)) from fun h b W h0 h1 hq hb => by
  subst hp
  exact concat_some h b (0, 1) ps d pc W h0 h1 hq (fun _ => ⟨d, rfl, hP.on hb⟩) (by omega))
 have CR := Lib.hid (show ∀ W, Below w.heap.size w W → Calls Tryz.prog 131 #[.agg #[.int .i64 n', .slice ao l.length cap]] W (fun e w' => e = .returned (.tuple #[.agg (mcs n' l), .bool true]) ∧ Below W.heap.size W w') from fun W h => by
  have := open_gen n' l ao cap W (hA.on h)
  rwa [rdW_ok hc, show okB n' l = true by unfold okB; rw [hc]; rfl] at this)
 have sz : (mcs n' l).size = 122 := mcs_size (by rw [hl]; exact dsq_le hn)
 have s1 := mcs_one n' l
 have sz0 := mcs_size (n := 0) (l := []) (by simp)
 have HP := Lib.hid hP
 have HI := Lib.hid hI
 have HPL := Lib.hid hp
 generalize l.length = len at CR ⊢
 obtain ⟨w0, hw0⟩ : ∃ w0, w0 = (w.alloc (.cells #[.int .i64 n', .slice ao len cap] 36)).alloc (.cells (mcs 0 []) 120) := ⟨_, rfl⟩
 have bx : Two w0 w.heap.size (.int .i64 n') (.slice ao len cap) := by rw [hw0]; exact (Two.made _ _ _ _).alloc _
 have BX := Lib.hid bx
 obtain ⟨b0, b1, b2, b3⟩ := bx.facts
 have V0 : Var w0 (w.heap.size + 1) (mcs 0 []) := by
  rw [hw0]
  have := Var.made (w.alloc (.cells #[.int .i64 n', .slice ao len cap] 36))
  simpa using this
 have E0 := Lib.hid (show Below w.heap.size w w0 by rw [hw0]; exact past_two (Below.refl _ _))
 have z0 : w0.heap.size = w.heap.size + 2 := by rw [hw0]; simp
 have HV := Lib.hid V0
 clear V0 hA bx hc hl hP hI hp
 go_enter Tryz.func116, Tryz.ntmps116
 go_upto_region 1 with (fail)
 rw [← hw0]
 clear hw0
 go_wp2_with fail
 refine (CR.out _ E0.out).mono ?_
 rintro e w1 ⟨rfl, hb⟩
 have V1 := HV.out.kept hb
 have E1 := below_on E0.out hb
 have hle := E1.size
 have z1 := hb.size
 obtain ⟨w2, hw2⟩ : ∃ w2, w2 = (w1.alloc (.cells (mcs 0 []) 120)).setRow w1.heap.size (mcs n' l) := ⟨_, rfl⟩
 have V2 := Lib.hid (show Var w2 (w.heap.size + 1) (mcs 0 []) by rw [hw2]; exact (V1.kept (one_more _)).far (b' := w1.heap.size) (by have := V1.lt; omega) (mcs n' l))
 have M2 := Lib.hid (show Var w2 w1.heap.size (mcs n' l) by rw [hw2]; exact (Var.made w1).put (mcs n' l) sz)
 have B2 := Lib.hid (show Below w0.heap.size w0 w2 by rw [hw2]; exact Below.setRow (hb.alloc hb.size _) hb.size _)
 have E2 := Lib.hid (below_on E0.out B2.out)
 clear V1 E1 hb b0 b1 b2 b3
 obtain ⟨b0, b1, b2, b3⟩ := (BX.out.kept B2.out).facts
 have hne : w.heap.size + 1 ≠ w1.heap.size := by omega
 go_upto_region 2 with (refine wpl_store rfl _ _ rfl _ _ rfl rfl _ (Var.made _) sz s1 ?_)
 rw [← hw2]
 clear hw2
 have D0 : ((n' : Int) != (n' : Int)) = false := by simp
 go_wp2_with fail
 clear b0 b1 b2 b3
 go_loopw [28] (fun s wr => ∃ t : Nat, t ≤ n' ∧ s = .int .i64 t ∧ Hid (∀ k, k < t → vldC (gp ps k) = true) ∧ Hid (Below w2.heap.size w2 wr)) (fun s _ => n' - (intOf s).toNat)
 case atStart => exact ⟨0, by omega, rfl, Lib.hid (fun k hk => by omega), Lib.hid (Below.refl _ _)⟩
 case round =>
  obtain ⟨t, ht, rfl, HK, HB⟩ := hrel
  by_cases htn : t < n'
  case pos =>
   have D9 : decide ((t : Int) < (n' : Int)) = true := by simp; omega
   obtain ⟨i1, i2⟩ := HI.out t (by rw [HPL.out]; exact htn)
   obtain ⟨c1, c2⟩ := (HP.out.on (below_on E2.out HB.out)) t (by rw [HPL.out]; exact htn)
   obtain ⟨q, hq⟩ : ∃ q, q = gp ps t := ⟨_, rfl⟩
   rw [← hq] at c1 c2 i1 i2
   have HQ := Lib.hid hq
   clear hq
   obtain ⟨x, y⟩ := q
   simp only at c1 c2 i1 i2
   obtain ⟨w4, hw4⟩ : ∃ w4, w4 = wr.alloc (.cells #[.int .i64 x, .int .i64 y] 45) := ⟨_, rfl⟩
   have P4 := Lib.hid (show Pair w4 wr.heap.size x y by rw [hw4]; exact Pair.made _ _ _ _)
   have B4 := Lib.hid (show Below w2.heap.size w2 w4 by rw [hw4]; exact HB.out.alloc HB.out.size _)
   go_upto_region 7 with (fail)
   rw [← hw4]
   clear hw4 c1 c2
   obtain ⟨p0, p1, p2, p3⟩ := P4.out.facts
   cases v : vldB x y
   case false =>
    have HF := Lib.hid (show ps.all vldC = false by
     cases e : ps.all vldC
     · rfl
     · have := rd_all e t (by rw [HPL.out]; exact htn)
       rw [← HQ.out] at this
       simp [vldC, v] at this)
    have V := Lib.hid v
    clear v
    go_wp2_with fail
    refine (valid_as _ i1 i2 V.out).mono ?_
    rintro e w5 ⟨rfl, hb5⟩
    have B5 := Lib.hid (below_on B4.out hb5)
    have V5 := Lib.hid (V2.out.kept B5.out)
    clear hb5 p0 p1 p2 p3
    go_wp2_with (refine wpl_store rfl _ _ rfl _ _ rfl rfl _ V5.out sz0 (mcs_one _ _) ?_)
    refine bodyPost_ret (results_mx3 Tryz.results116 _ rfl rfl rfl (V5.out.put (mcs 0 []) sz0)) rfl ⟨Below.setRow (below_on E2.out B5.out) (by omega) _, Or.inl ⟨HF.out, rfl⟩⟩
   case true =>
    have V := Lib.hid v
    by_cases x0 : x < 0
    case pos =>
     have HF := Lib.hid (show ps.all vldC = false by
      cases e : ps.all vldC
      · rfl
      · have := rd_all e t (by rw [HPL.out]; exact htn)
        rw [← HQ.out] at this
        simp [vldC, v] at this
        omega)
     have D : decide (x < (0 : Int)) = true := by simpa using x0
     clear v
     go_wp2_with fail
     refine (valid_as _ i1 i2 V.out).mono ?_
     rintro e w5 ⟨rfl, hb5⟩
     have B5 := Lib.hid (below_on B4.out hb5)
     have V5 := Lib.hid (V2.out.kept B5.out)
     clear p0 p1 p2 p3
     obtain ⟨p0, p1, p2, p3⟩ := (P4.out.kept hb5).facts
     clear hb5
     go_wp2_with (refine wpl_store rfl _ _ rfl _ _ rfl rfl _ V5.out sz0 (mcs_one _ _) ?_)
     refine bodyPost_ret (results_mx3 Tryz.results116 _ rfl rfl rfl (V5.out.put (mcs 0 []) sz0)) rfl ⟨Below.setRow (below_on E2.out B5.out) (by omega) _, Or.inl ⟨HF.out, rfl⟩⟩
    case neg =>
     have HK2 := Lib.hid (show vldC (gp ps t) = true by rw [← HQ.out]; simp [vldC, v]; omega)
     have D : decide (x < (0 : Int)) = false := by simp; omega
     clear v
     go_wp2_with fail
     refine (valid_as _ i1 i2 V.out).mono ?_
     rintro e w5 ⟨rfl, hb5⟩
     have B5 := Lib.hid (below_on B4.out hb5)
     clear p0 p1 p2 p3
     obtain ⟨p0, p1, p2, p3⟩ := (P4.out.kept hb5).facts
     clear hb5
     go_wp2_with fail
     go_roundw
     case rel =>
      refine ⟨t + 1, by omega, by go_num, Lib.hid (fun k hk => ?_), B5⟩
      by_cases e : k = t
      · rw [e]; exact HK2.out
      · exact HK.out k (by omega)
     case measure => simp [intOf]; omega
  case neg =>
   obtain rfl : t = n' := by omega
   have D9 : decide ((t : Int) < (t : Int)) = false := by simp
   have HALL := Lib.hid (show ps.all vldC = true from rd_of (fun k hk => HK.out k (by rw [HPL.out] at hk; exact hk)))
   have B3 := Lib.hid HB.out
   have M3 := Lib.hid ((M2.out.kept HB.out).kept ((Below.refl wr.heap.size wr).drew))
   clear HK HB
   go_wp2_with fail
   refine wp_region_held_drew (S := (fun w' => Var w' w1.heap.size (mcs t l))) (by kernel_rfl) M3.out (fun h0 => ?_)
   refine tkH (i := 0) (v := (.agg (mcs t l))) rfl (Or.inl ⟨by rfl, fun w' hS => yld_load _ rfl _ rfl _ hS⟩) h0 ?_
   simp only [Act.put, sA, sB, sD, sE, sF]
   refine tkI (i := 3) rfl h0 ?_
   simp only [Act.put, sZ]
   refine wpAnyH_ready (rs := [1]) (by kernel_rfl) (by simp) (AllReadyH.cons rfl (fun K hK => ?_) AllReadyH.nil)
   rw [if_pos (by rfl)]
   go_simp
   refine (qzero_any _).mono ?_
   rintro e w4 ⟨rfl, hb4⟩
   have B4 := Lib.hid (below_on B3.out.drew hb4)
   have M4 := Lib.hid (M3.out.kept hb4)
   clear hb4
   go_simp
   refine hK.out _ _ M4.out (fun h0_1 => ?_)
   clear hK K h0
   refine wpAnyH_ready (rs := [2]) (by kernel_rfl) (by simp) (AllReadyH.cons rfl (fun K hK => ?_) AllReadyH.nil)
   rw [if_pos (by rfl)]
   go_simp
   have B5 := Lib.hid (B4.out.alloc B4.out.size (.cells #[.int .i64 0, .int .i64 1] 45))
   go_simp
   refine hK.out _ _ (M4.out.kept (one_more _)) (fun h0_2 => ?_)
   clear hK K h0_1
   refine wpAnyH_ready (rs := [4]) (by kernel_rfl) (by simp) (AllReadyH.cons rfl (fun K hK => ?_) AllReadyH.nil)
   rw [if_pos (by rfl)]
   go_simp
   obtain ⟨w6, hw6⟩ : ∃ w6, w6 = (w4.alloc (.cells #[.int .i64 0, .int .i64 1] 45)).alloc (.cells #[.slice (some ⟨w4.heap.size, 0, none⟩) 1 1, .slice (some d) t pc] 40) := ⟨_, rfl⟩
   have B6 := Lib.hid (show Below w2.heap.size w2 w6 by rw [hw6]; exact B5.out.alloc B5.out.size _)
   have M6 := Lib.hid (show Var w6 w1.heap.size (mcs t l) by rw [hw6]; exact (M4.out.kept (one_more _)).kept (one_more _))
   have C6 := Lib.hid (CC.out (w4.heap.size + 1) w4.heap.size w6 (by rw [hw6]; go_simp) (by rw [hw6]; go_simp) (by rw [hw6]; exact rd2_one ((Pair.made w4 0 1 _).alloc _)) (below_on E2.out B6.out))
   rw [← hw6]
   clear hw6
   go_simp
   refine hK.out _ _ M6.out (fun h0_3 => ?_)
   clear hK K h0_2
   refine wpAnyH_ready (rs := [5]) (by kernel_rfl) (by simp) (AllReadyH.cons rfl (fun K hK => ?_) AllReadyH.nil)
   rw [if_pos (by rfl)]
   go_simp
   refine C6.out.mono ?_
   rintro e w7 ⟨hb7, v, rfl, hv⟩
   have B7 := Lib.hid (below_on B6.out hb7)
   have M7 := Lib.hid (M6.out.kept hb7)
   have O7 := Lib.hid hv
   have V7 := Lib.hid (V2.out.kept B7.out)
   have z6 := B6.out.size
   clear hb7 hv
   go_simp
   refine hK.out _ _ M7.out (fun h0_4 => ?_)
   clear hK K h0_3
   refine wpAnyH_ready (rs := [6]) (by kernel_rfl) (by simp) (AllReadyH.cons rfl (fun K hK => ?_) AllReadyH.nil)
   rw [if_pos (by rfl)]
   refine wp_store_row _ _ _ rfl (w.heap.size + 1) (mcs t l) rfl rfl _ _ V7.out.1 (by rw [sz]; exact mx_size) (by rw [V7.out.2, sz]) (mcs_one _ _) ?_
   refine hK.out _ _ (M7.out.far (by omega) _) (fun h0_5 => ?_)
   clear hK K h0_4
   refine tkI (i := 7) rfl h0_5 ?_
   simp only [Act.put, sZ]
   refine tkI (i := 8) rfl h0_5 ?_
   simp only [Act.put, sZ]
   refine wpAnyH_done (by kernel_rfl) ?_ _
   go_wp2_with fail
   refine bodyPost_ret (results_mx3 Tryz.results116 _ rfl rfl rfl (V7.out.put (mcs t l) sz)) rfl ⟨Below.setRow (below_on E2.out B7.out) (by omega) _, Or.inr ⟨HALL.out, v, rfl, ?_⟩⟩
   exact OwnQ.row O7.out (by have := V2.out.lt; omega) (by have := E2.out.size; omega) _
set_option maxRecDepth 100000 in
theorem openat_nil (n : Nat) (l : List Int) (ao : Option Addr) (cap : Nat) (w : World) (hA : Arg w ao l) (hc : chkE n l = 0) (hn0 : n = 0) :
  Calls Tryz.prog 116 #[.agg #[.int .i64 n, .slice ao l.length cap], .slice none 0 0] w (OPRes w n l []) := by
 have hz := mx_zero
 have h0 := mx_build0
 obtain ⟨n', en, hn, hl, _⟩ := chk_ok hc
 obtain rfl : n' = n := by omega
 clear en
 have CC := Lib.hid (show ∀ (h b : Nat) (W : World), W.cell? ⟨h, 0, none⟩ = some (.slice (some ⟨b, 0, none⟩) 1 1) → W.cell? ⟨h, 1, none⟩ = some (.slice none 0 0) → Rd2 W ⟨b, 0, none⟩ [((0 : Int), (1 : Int))] → Below w.heap.size w W →
   Calls Tryz.prog 147 #[.slice (some ⟨h, 0, none⟩) 2 2] W (fun e w' => Below W.heap.size W w' ∧ ∃ v, e = .returned v ∧ OwnQ w' W.heap.size v ((0, 1) :: [])) from fun h b W h0 h1 hq hb => concat_nil h b (0, 1) W h0 h1 hq)
 have CR := Lib.hid (show ∀ W, Below w.heap.size w W → Calls Tryz.prog 131 #[.agg #[.int .i64 n', .slice ao l.length cap]] W (fun e w' => e = .returned (.tuple #[.agg (mcs n' l), .bool true]) ∧ Below W.heap.size W w') from fun W h => by
  have := open_gen n' l ao cap W (hA.on h)
  rwa [rdW_ok hc, show okB n' l = true by unfold okB; rw [hc]; rfl] at this)
 have sz : (mcs n' l).size = 122 := mcs_size (by rw [hl]; exact dsq_le hn)
 have s1 := mcs_one n' l
 have sz0 := mcs_size (n := 0) (l := []) (by simp)
 have HN0 := Lib.hid hn0
 generalize l.length = len at CR ⊢
 obtain ⟨w0, hw0⟩ : ∃ w0, w0 = (w.alloc (.cells #[.int .i64 n', .slice ao len cap] 36)).alloc (.cells (mcs 0 []) 120) := ⟨_, rfl⟩
 have bx : Two w0 w.heap.size (.int .i64 n') (.slice ao len cap) := by rw [hw0]; exact (Two.made _ _ _ _).alloc _
 have BX := Lib.hid bx
 obtain ⟨b0, b1, b2, b3⟩ := bx.facts
 have V0 : Var w0 (w.heap.size + 1) (mcs 0 []) := by
  rw [hw0]
  have := Var.made (w.alloc (.cells #[.int .i64 n', .slice ao len cap] 36))
  simpa using this
 have E0 := Lib.hid (show Below w.heap.size w w0 by rw [hw0]; exact past_two (Below.refl _ _))
 have z0 : w0.heap.size = w.heap.size + 2 := by rw [hw0]; simp
 have HV := Lib.hid V0
 clear V0 hA bx hc hl hn0
 go_enter Tryz.func116, Tryz.ntmps116
 go_upto_region 1 with (fail)
 rw [← hw0]
 clear hw0
 go_wp2_with fail
 refine (CR.out _ E0.out).mono ?_
 rintro e w1 ⟨rfl, hb⟩
 have V1 := HV.out.kept hb
 have E1 := below_on E0.out hb
 have hle := E1.size
 have z1 := hb.size
 obtain ⟨w2, hw2⟩ : ∃ w2, w2 = (w1.alloc (.cells (mcs 0 []) 120)).setRow w1.heap.size (mcs n' l) := ⟨_, rfl⟩
 have V2 := Lib.hid (show Var w2 (w.heap.size + 1) (mcs 0 []) by rw [hw2]; exact (V1.kept (one_more _)).far (b' := w1.heap.size) (by have := V1.lt; omega) (mcs n' l))
 have M2 := Lib.hid (show Var w2 w1.heap.size (mcs n' l) by rw [hw2]; exact (Var.made w1).put (mcs n' l) sz)
 have B2 := Lib.hid (show Below w0.heap.size w0 w2 by rw [hw2]; exact Below.setRow (hb.alloc hb.size _) hb.size _)
 have E2 := Lib.hid (below_on E0.out B2.out)
 clear V1 E1 hb b0 b1 b2 b3
 obtain ⟨b0, b1, b2, b3⟩ := (BX.out.kept B2.out).facts
 have hne : w.heap.size + 1 ≠ w1.heap.size := by omega
 go_upto_region 2 with (refine wpl_store rfl _ _ rfl _ _ rfl rfl _ (Var.made _) sz s1 ?_)
 rw [← hw2]
 clear hw2
 have D0 : ((0 : Int) != (n' : Int)) = false := by have := HN0.out; simp; omega
 go_wp2_with fail
 clear b0 b1 b2 b3
 go_loopw [28] (fun s wr => ∃ t : Nat, t ≤ n' ∧ s = .int .i64 t ∧ Hid (∀ k, k < t → vldC (gp [] k) = true) ∧ Hid (Below w2.heap.size w2 wr)) (fun s _ => n' - (intOf s).toNat)
 case atStart => exact ⟨0, by omega, rfl, Lib.hid (fun k hk => by omega), Lib.hid (Below.refl _ _)⟩
 case round =>
  obtain ⟨t, ht, rfl, HK, HB⟩ := hrel
  have hn00 := HN0.out
  obtain rfl : t = 0 := by omega
  clear hn00
  have D9 : decide ((0 : Int) < (0 : Int)) = false := by simp
  have HALL := Lib.hid (show ([] : List Pq).all vldC = true from rfl)
  have B3 := Lib.hid HB.out
  have M3 := Lib.hid ((M2.out.kept HB.out).kept ((Below.refl wr.heap.size wr).drew))
  clear HK HB
  go_wp2_with fail
  refine wp_region_held_drew (S := (fun w' => Var w' w1.heap.size (mcs n' l))) (by kernel_rfl) M3.out (fun h0 => ?_)
  refine tkH (i := 0) (v := (.agg (mcs n' l))) rfl (Or.inl ⟨by rfl, fun w' hS => yld_load _ rfl _ rfl _ hS⟩) h0 ?_
  simp only [Act.put, sA, sB, sD, sE, sF]
  refine tkI (i := 3) rfl h0 ?_
  simp only [Act.put, sZ]
  refine wpAnyH_ready (rs := [1]) (by kernel_rfl) (by simp) (AllReadyH.cons rfl (fun K hK => ?_) AllReadyH.nil)
  rw [if_pos (by rfl)]
  go_simp
  refine (qzero_any _).mono ?_
  rintro e w4 ⟨rfl, hb4⟩
  have B4 := Lib.hid (below_on B3.out.drew hb4)
  have M4 := Lib.hid (M3.out.kept hb4)
  clear hb4
  go_simp
  refine hK.out _ _ M4.out (fun h0_1 => ?_)
  clear hK K h0
  refine wpAnyH_ready (rs := [2]) (by kernel_rfl) (by simp) (AllReadyH.cons rfl (fun K hK => ?_) AllReadyH.nil)
  rw [if_pos (by rfl)]
  go_simp
  have B5 := Lib.hid (B4.out.alloc B4.out.size (.cells #[.int .i64 0, .int .i64 1] 45))
  go_simp
  refine hK.out _ _ (M4.out.kept (one_more _)) (fun h0_2 => ?_)
  clear hK K h0_1
  refine wpAnyH_ready (rs := [4]) (by kernel_rfl) (by simp) (AllReadyH.cons rfl (fun K hK => ?_) AllReadyH.nil)
  rw [if_pos (by rfl)]
  go_simp
  obtain ⟨w6, hw6⟩ : ∃ w6, w6 = (w4.alloc (.cells #[.int .i64 0, .int .i64 1] 45)).alloc (.cells #[.slice (some ⟨w4.heap.size, 0, none⟩) 1 1, .slice none 0 0] 40) := ⟨_, rfl⟩
  have B6 := Lib.hid (show Below w2.heap.size w2 w6 by rw [hw6]; exact B5.out.alloc B5.out.size _)
  have M6 := Lib.hid (show Var w6 w1.heap.size (mcs n' l) by rw [hw6]; exact (M4.out.kept (one_more _)).kept (one_more _))
  have C6 := Lib.hid (CC.out (w4.heap.size + 1) w4.heap.size w6 (by rw [hw6]; go_simp) (by rw [hw6]; go_simp) (by rw [hw6]; exact rd2_one ((Pair.made w4 0 1 _).alloc _)) (below_on E2.out B6.out))
  rw [← hw6]
  clear hw6
  go_simp
  refine hK.out _ _ M6.out (fun h0_3 => ?_)
  clear hK K h0_2
  refine wpAnyH_ready (rs := [5]) (by kernel_rfl) (by simp) (AllReadyH.cons rfl (fun K hK => ?_) AllReadyH.nil)
  rw [if_pos (by rfl)]
  go_simp
  refine C6.out.mono ?_
  rintro e w7 ⟨hb7, v, rfl, hv⟩
  have B7 := Lib.hid (below_on B6.out hb7)
  have M7 := Lib.hid (M6.out.kept hb7)
  have O7 := Lib.hid hv
  have V7 := Lib.hid (V2.out.kept B7.out)
  have z6 := B6.out.size
  clear hb7 hv
  go_simp
  refine hK.out _ _ M7.out (fun h0_4 => ?_)
  clear hK K h0_3
  refine wpAnyH_ready (rs := [6]) (by kernel_rfl) (by simp) (AllReadyH.cons rfl (fun K hK => ?_) AllReadyH.nil)
  rw [if_pos (by rfl)]
  refine wp_store_row _ _ _ rfl (w.heap.size + 1) (mcs n' l) rfl rfl _ _ V7.out.1 (by rw [sz]; exact mx_size) (by rw [V7.out.2, sz]) (mcs_one _ _) ?_
  refine hK.out _ _ (M7.out.far (by omega) _) (fun h0_5 => ?_)
  clear hK K h0_4
  refine tkI (i := 7) rfl h0_5 ?_
  simp only [Act.put, sZ]
  refine tkI (i := 8) rfl h0_5 ?_
  simp only [Act.put, sZ]
  refine wpAnyH_done (by kernel_rfl) ?_ _
  go_wp2_with fail
  refine bodyPost_ret (results_mx3 Tryz.results116 _ rfl rfl rfl (V7.out.put (mcs n' l) sz)) rfl ⟨Below.setRow (below_on E2.out B7.out) (by omega) _, Or.inr ⟨HALL.out, v, rfl, ?_⟩⟩
  exact OwnQ.row O7.out (by have := V2.out.lt; omega) (by have := E2.out.size; omega) _
theorem rdE_bad {N : Int} {l : List Int} {ps : List Pq} (h : okB N l = false ∨ (ps.length : Int) ≠ N) : rdE N l ps = 2 := by
 unfold rdE
 rw [if_neg]
 rintro ⟨h1, h2, _⟩
 rcases h with h | h
 · unfold okB at h; simp [h1] at h
 · exact h h2
theorem rdE_all {N : Int} {l : List Int} {ps : List Pq} (h : ps.all vldC = false) : rdE N l ps = 2 := by
 unfold rdE
 rw [if_neg]
 rintro ⟨_, _, h3⟩
 rw [h] at h3; cases h3
theorem rdE_yes {N : Int} {l : List Int} {ps : List Pq} (h1 : chkE N l = 0) (h2 : (ps.length : Int) = N) (h3 : ps.all vldC = true) : rdE N l ps ≠ 2 := by
 unfold rdE
 rw [if_pos ⟨h1, h2, h3⟩]
 split <;> omega
def OARes (w : World) (N : Int) (l : List Int) (ps : List Pq) (e : Ending) (w' : World) : Prop :=
 Below w.heap.size w w' ∧ ((rdE N l ps = 2 ∧ e = .returned (.tuple #[.agg (mcs 0 []), .slice none 0 0, .int .i64 2])) ∨
  (rdE N l ps ≠ 2 ∧ ∃ v, e = .returned (.tuple #[.agg (mcs N.toNat l), v, .int .i64 0]) ∧ OwnQ w' w.heap.size v ((0, 1) :: ps)))
theorem openat_gen (N : Int) (l : List Int) (ao : Option Addr) (cap : Nat) (ps : List Pq) (po : Option Addr) (pc : Nat) (w : World) (hA : Arg w ao l) (hP : Arg2 w po ps) (hI : Fits ps) (hN : po = none → pc = 0) :
  Calls Tryz.prog 116 #[.agg #[.int .i64 N, .slice ao l.length cap], .slice po ps.length pc] w (OARes w N l ps) := by
 by_cases hb : okB N l = false ∨ (ps.length : Int) ≠ N
 · refine (openat_bad N l ao cap po ps.length pc w hA hb).mono ?_
   rintro e w' ⟨rfl, hb'⟩
   exact ⟨hb', Or.inl ⟨rdE_bad hb, rfl⟩⟩
 · have hc : chkE N l = 0 := by
    by_cases e : chkE N l = 0
    · exact e
    · exact absurd (Or.inl (by unfold okB; simp [e])) hb
   have hl : (ps.length : Int) = N := by
    by_cases e : (ps.length : Int) = N
    · exact e
    · exact absurd (Or.inr e) hb
   clear hb
   obtain ⟨n, rfl, hn, _⟩ := chk_ok hc
   have key : Calls Tryz.prog 116 #[.agg #[.int .i64 n, .slice ao l.length cap], .slice po ps.length pc] w (OPRes w n l ps) := by
    cases po with
    | none =>
     obtain rfl : pc = 0 := hN rfl
     have e : ps = [] := by
      by_cases c : ps = []
      · exact c
      · obtain ⟨_, q, _⟩ := hP c; cases q
     subst e
     simp at hl
     exact openat_nil n l ao cap w hA hc (by omega)
    | some d =>
     have hl' : ps.length = n := by omega
     have hR : Rd2 w d ps := by
      by_cases c : ps = []
      · subst c; intro j hj; simp at hj
      · obtain ⟨a, q, h⟩ := hP c
        injection q with q; subst q; exact h
     have := openat_core n l ao cap ps d pc w hA hc hl' hR hI
     rw [hl']; exact this
   refine key.mono ?_
   rintro e w' ⟨hb', h⟩
   refine ⟨hb', ?_⟩
   rcases h with ⟨h1, h2⟩ | ⟨h1, v, h2, h3⟩
   · exact Or.inl ⟨rdE_all h1, h2⟩
   · exact Or.inr ⟨rdE_yes hc hl h1, v, by rw [h2]; simp, h3⟩
end Go.Proofs.YthjapmdfcbngmaaGreat
