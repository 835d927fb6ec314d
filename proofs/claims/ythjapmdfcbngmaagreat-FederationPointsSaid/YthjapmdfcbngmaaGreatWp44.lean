/- A part. -/
import Derived.Test.YthjapmdfcbngmaaGreatWp23
import Derived.Test.YthjapmdfcbngmaaGreatWp12
import Derived.Lib.AppendZeros

namespace Go.Proofs.YthjapmdfcbngmaaGreat
open Go.RowKit

theorem qbox (N : Int) (ao : Option Addr) (len cap : Nat) (w : World) : ∃ w0, w0 = w.alloc (.cells #[.int .i64 N, .slice ao len cap] 36) ∧ Below w.heap.size w w0 ∧
    (∀ W : World, Below w0.heap.size w0 W → (W.cell? ⟨w.heap.size, 0, none⟩ = some (.int .i64 N) ∧ W.cell? ⟨w.heap.size, 1, none⟩ = some (.slice ao len cap))) := by
  refine ⟨_, rfl, one_more _, fun W h => ?_⟩
  have bx := (Two.made w (.int .i64 N) (.slice ao len cap) 36).kept h
  exact ⟨bx.facts.1, bx.facts.2.1⟩
end Go.Proofs.YthjapmdfcbngmaaGreat

namespace Go.Proofs.YthjapmdfcbngmaaGreat
open Go.RowKit

end Go.Proofs.YthjapmdfcbngmaaGreat

namespace Go.Proofs.YthjapmdfcbngmaaGreat
open Go.RowKit

theorem results_mx3 {fn : Func} {p t s : Tmp} (h : fn.results = #[.cell p 120, .tmp t, .tmp s]) (tmps : Array Value) {w : World} {b : Nat} {cs : Array Value} {v u : Value}
    (hp : tmps.getD p undef = .pointer (some ⟨b, 0, none⟩)) (ht : tmps.getD t undef = v) (hs : tmps.getD s undef = u) (hv : Var w b cs) : (results fn tmps).run Tryz.prog w = .ok (.tuple #[.agg cs, v, u]) w := by
  have hp' : tmps[p]?.getD undef = .pointer (some ⟨b, 0, none⟩) := by simpa using hp
  have ht' : tmps[t]?.getD undef = v := by simpa using ht
  have hs' : tmps[s]?.getD undef = u := by simpa using hs
  simp [results, h, hp', ht', hs', asAddr, mx_load hv.1 hv.2]

set_option maxRecDepth 100000 in
set_option maxHeartbeats 4000000 in
theorem openat_bad (N : Int) (l : List Int) (ao : Option Addr) (cap : Nat) (po : Option Addr) (pl pc : Nat) (w : World) (hA : Arg w ao l) (hr : okB N l = false ∨ (pl : Int) ≠ N) :
    Calls Tryz.prog 116 #[.agg #[.int .i64 N, .slice ao l.length cap], .slice po pl pc] w (fun e w' => e = .returned (.tuple #[.agg (mcs 0 []), .slice none 0 0, .int .i64 2]) ∧ Below w.heap.size w w') := by
  have hz := mx_zero
  have h0 := mx_build0
  have szA := rdW_size N l
  have s1A := rdW_one N l
  have CR := Lib.hid (show ∀ W, Below w.heap.size w W → Calls Tryz.prog 131 #[.agg #[.int .i64 N, .slice ao l.length cap]] W (fun e w' => e = .returned (.tuple #[.agg (rdW N l), .bool (okB N l)]) ∧ Below W.heap.size W w') from fun W h => open_gen N l ao cap W (hA.on h))
  generalize rdW N l = A at *
  generalize okB N l = ok at *
  generalize l.length = len at *
  obtain ⟨w0, hw0⟩ : ∃ w0, w0 = (w.alloc (.cells #[.int .i64 N, .slice ao len cap] 36)).alloc (.cells (mcs 0 []) 120) := ⟨_, rfl⟩
  have bx : Two w0 w.heap.size (.int .i64 N) (.slice ao len cap) := by rw [hw0]; exact (Two.made _ _ _ _).alloc _
  have BX := Lib.hid bx
  obtain ⟨b0, b1, b2, b3⟩ := bx.facts
  have V0 : Var w0 (w.heap.size + 1) (mcs 0 []) := by
    rw [hw0]
    have := Var.made (w.alloc (.cells #[.int .i64 N, .slice ao len cap] 36))
    simpa using this
  have E0 := Lib.hid (show Below w.heap.size w w0 by rw [hw0]; exact past_two (Below.refl _ _))
  have HV := Lib.hid V0
  clear V0 hA bx
  go_enter Tryz.func116, Tryz.ntmps116
  go_upto_region 1 with (fail)
  rw [← hw0]
  clear hw0
  go_wp2_with fail
  refine (CR.out _ E0.out).mono ?_
  rintro e w1 ⟨rfl, hb⟩
  have V1 := HV.out.kept hb
  have E1 := below_on E0.out hb
  have hle := E1.size
  obtain ⟨w2, hw2⟩ : ∃ w2, w2 = (w1.alloc (.cells (mcs 0 []) 120)).setRow w1.heap.size A := ⟨_, rfl⟩
  have V3 := Lib.hid (show Var w2 (w.heap.size + 1) (mcs 0 []) by rw [hw2]; exact (V1.kept (one_more _)).far (b' := w1.heap.size) (by have := V1.lt; omega) A)
  have B2 := Lib.hid (show Below w0.heap.size w0 w2 by rw [hw2]; exact Below.setRow (hb.alloc hb.size _) hb.size _)
  have sz := mcs_size (n := 0) (l := []) (by simp)
  clear V1 E1 hb b0 b1 b2 b3
  obtain ⟨b0, b1, b2, b3⟩ := (BX.out.kept B2.out).facts
  have fin : ∀ w' : World, w' = w2.setRow (w.heap.size + 1) (mcs 0 []) → Below w.heap.size w w' := fun w' e => by
    rw [e]; exact Below.setRow (below_on E0.out B2.out) (by omega) _
  have FIN := Lib.hid fin
  clear fin
  go_upto_region 2 with (refine wpl_store rfl _ _ rfl _ _ rfl rfl _ (Var.made _) szA s1A ?_)
  rw [← hw2]
  clear hw2
  cases ok
  · clear hr
    go_wp2_with (refine wpl_store rfl _ _ rfl _ _ rfl rfl _ V3.out sz (mcs_one _ _) ?_)
    refine bodyPost_ret (results_mx3 Tryz.results116 _ rfl rfl rfl (V3.out.put (mcs 0 []) sz)) rfl ⟨rfl, FIN.out _ rfl⟩
  · have hne : (pl : Int) ≠ N := by
      rcases hr with q | q
      · cases q
      · exact q
    have D : ((pl : Int) != N) = true := by simpa using hne
    clear hr hne
    go_wp2_with (refine wpl_store rfl _ _ rfl _ _ rfl rfl _ V3.out sz (mcs_one _ _) ?_)
    refine bodyPost_ret (results_mx3 Tryz.results116 _ rfl rfl rfl (V3.out.put (mcs 0 []) sz)) rfl ⟨rfl, FIN.out _ rfl⟩
end Go.Proofs.YthjapmdfcbngmaaGreat

namespace Go.Proofs.YthjapmdfcbngmaaGreat
open Go.RowKit

set_option maxRecDepth 100000 in
set_option maxHeartbeats 4000000 in
theorem grow_any (m : Nat) (w : World) (h0 : 0 < m) (h1 : m ≤ 1000) :
    Calls Tryz.prog 169 #[.slice none 0 0, .int .i64 m] w (fun e w' => Below w.heap.size w w' ∧ ∃ v, e = .returned v ∧ OwnQ w' w.heap.size v []) := by
  obtain ⟨i0, hi, hz0, hz1, hz2⟩ := info_parts rat_info
  have D : decide ((m : Int) < 0) = false := by simp
  have D2 : decide ((0 : Int) < (m : Int)) = true := by simp; omega
  have RUN := Lib.hid (Lib.run_append_nil_zeros (P := Tryz.prog) w 40 3 40 45 i0 (.agg #[.int .i64 0, .int .i64 0]) .i64 .i64 Tryz.underlying40 Tryz.underlying3 hi hz0 m h0 (by omega) (by omega) (by rw [hz2]; omega))
  have G1 := grownCap_ge w m 0 45
  have G2 := grownCap_le_maxLen w m 0 45 (by unfold maxLen; omega)
  generalize grownCap w m 0 45 = c at *
  obtain ⟨w5, hw5⟩ : ∃ w5, w5 = w.drew.alloc (.cells (Builtin.zeroCells (Value.agg #[.int .i64 0, .int .i64 0]).cells m ++ Builtin.zeroCells (Value.agg #[.int .i64 0, .int .i64 0]).cells (c - m)) 45) := ⟨_, rfl⟩
  rw [← hw5] at RUN
  have B5 := Lib.hid (show Below w.heap.size w w5 by rw [hw5]; exact (Below.refl _ _).drew.alloc (Nat.le_refl _) _)
  have O5 := Lib.hid (show OwnQ w5 w.heap.size (.slice (some ⟨w.heap.size, 0, none⟩) 0 c) [] by
    refine ⟨rfl, .inr ⟨w.heap.size, c, _, rfl, Nat.le_refl _, by rw [hw5]; exact heap_alloc_new w.drew _, Nat.zero_le _, G2, ?_, rfl⟩⟩
    simp only [Array.size_append, size_zeroCells]
    show m * 2 + (c - m) * 2 = c * 2
    omega)
  have hc0 : (c = 0) = False := by simp; omega
  clear hw5
  go_enter Tryz.func169, Tryz.ntmps169
  go_wp2_with (at_builtin; refine Lib.wpList_append_run _ rfl _ _ _ _ rfl _ _ rfl rfl _ _ RUN.out ?_)
  go_ret
  exact ⟨B5.out, _, rfl, O5.out⟩
end Go.Proofs.YthjapmdfcbngmaaGreat

namespace Go.Proofs.YthjapmdfcbngmaaGreat
open Go.RowKit

def ccS (k : Nat) : Nat → Nat
  | 0 => 0
  | 1 => 1
  | _ => 1 + k

def ccP (q : Pq) (ps : List Pq) : Nat → List Pq
  | 0 => []
  | 1 => [q]
  | _ => q :: ps

theorem qV_appd (a b : List Pq) : qV (a ++ b) = qV a ++ qV b := by unfold qV; rw [List.flatMap_append]

theorem qV_one (cs : List Pq) : ∀ u ∈ qV cs, u.oneCell' = true := by
  intro u hu
  unfold qV at hu
  rw [List.mem_flatMap] at hu
  obtain ⟨c, _, hc⟩ := hu
  simp at hc
  rcases hc with rfl | rfl <;> rfl

theorem qV_cells {w : World} {a : Addr} {cs : List Pq} (h : Rd2 w a cs) : ∀ j u, (qV cs)[j]? = some u → w.cell? (a.add j) = some u := by
  intro j u hu
  have hj : j < cs.length * 2 := by
    rw [← qV_len]
    by_cases c : j < (qV cs).length
    · exact c
    · rw [List.getElem?_eq_none (by omega)] at hu; cases hu
  obtain ⟨h1, h2⟩ := h (j / 2) (by omega)
  obtain ⟨c1, c2⟩ := qV_at cs (j / 2) (by omega)
  rcases Nat.mod_two_eq_zero_or_one j with e | e
  · have ej : j / 2 * 2 = j := by omega
    rw [ej] at h1 c1
    rw [c1] at hu; injection hu with hu
    rw [← hu]; exact h1
  · have ej : j / 2 * 2 + 1 = j := by omega
    rw [ej] at c2
    rw [c2] at hu; injection hu with hu
    rw [← hu, ← h2]
    congr 1
    unfold Addr.add
    split <;> split <;> simp_all <;> omega

set_option maxRecDepth 100000 in
set_option maxHeartbeats 4000000 in
theorem concat_some (h b : Nat) (q : Pq) (ps : List Pq) (a : Addr) (cap : Nat) (w : World) (h0 : w.cell? ⟨h, 0, none⟩ = some (.slice (some ⟨b, 0, none⟩) 1 1)) (h1 : w.cell? ⟨h, 1, none⟩ = some (.slice (some a) ps.length cap))
    (hq : Rd2 w ⟨b, 0, none⟩ [q]) (hp : Arg2 w (some a) ps) (hl : ps.length ≤ 200) :
    Calls Tryz.prog 147 #[.slice (some ⟨h, 0, none⟩) 2 2] w (fun e w' => Below w.heap.size w w' ∧ ∃ v, e = .returned v ∧ OwnQ w' w.heap.size v (q :: ps)) := by
  obtain ⟨i0, hi, hz0, hz1, hz2⟩ := info_parts rat_info
  have GR := Lib.hid (grow_any (1 + ps.length) w (by omega) (by omega))
  have CL := Lib.hid (show ∀ W, Below w.heap.size w W → W.cell? ⟨h, 0, none⟩ = some (.slice (some ⟨b, 0, none⟩) 1 1) ∧ W.cell? ⟨h, 1, none⟩ = some (.slice (some a) ps.length cap) from fun W hb => ⟨kept hb h0, kept hb h1⟩)
  have C0 := Lib.hid (show ∀ W, Below w.heap.size w W → ∀ j u, (qV [q])[j]? = some u → W.cell? ((⟨b, 0, none⟩ : Addr).add j) = some u from fun W hb => qV_cells (hq.on hb))
  have hlen := Lib.hid (qV_len [q])
  have C1 := Lib.hid (show ∀ W, Below w.heap.size w W → ∀ j u, (qV ps)[j]? = some u → W.cell? (a.add j) = some u from fun W hb => by
    by_cases c : ps = []
    · subst c; intro j u q; simp [qV] at q
    · obtain ⟨a', e', hr⟩ := hp c
      injection e' with e'
      subst e'
      exact qV_cells (hr.on hb))
  have L1 := Lib.hid (show (qV ps).length = ps.length * 2 from qV_len ps)
  generalize hk : ps.length = k at *
  clear hq hp
  go_enter Tryz.func147, Tryz.ntmps147
  go_wp2_with fail
  go_loopw [11, 3] (fun s t wr => ∃ j : Nat, j ≤ 2 ∧ s = .int .i64 j ∧ t = .int .i64 (ccS k j) ∧ wr = w) (fun s _ _ => 2 - (intOf s).toNat)
  case atStart => exact ⟨0, by omega, rfl, rfl, rfl⟩
  case round =>
    obtain ⟨j, hj, rfl, rfl, hw⟩ := hrel
    rw [hw]
    clear hw
    obtain ⟨b0, b1⟩ := CL.out w (Below.refl _ _)
    have hjj : j = 0 ∨ j = 1 ∨ j = 2 := by omega
    clear hj
    rcases hjj with rfl | rfl | rfl
    · simp only [ccS]
      go_wp2_with fail
      go_roundw
      case rel => exact ⟨1, by omega, by go_num, by go_num, trivial⟩
      case measure => simp [intOf]
    · simp only [ccS]
      go_wp2_with fail
      go_roundw
      case rel => exact ⟨2, by omega, by go_num, by go_num, trivial⟩
      case measure => simp [intOf]
    · simp only [ccS]
      clear b0 b1
      go_wp2_with fail
      refine GR.out.mono ?_
      rintro e w1 ⟨hb1, v1, rfl, hv1⟩
      have B1 := Lib.hid hb1
      have O1 := Lib.hid hv1
      clear hb1 hv1
      go_wp2_with fail
      go_loopw [27, 6] (fun s v wr => ∃ j : Nat, j ≤ 2 ∧ s = .int .i64 j ∧ Hid (OwnQ wr w.heap.size v (ccP q ps j) ∧ Below w.heap.size w wr)) (fun s _ _ => 2 - (intOf s).toNat)
      case atStart => exact ⟨0, by omega, rfl, Lib.hid ⟨O1.out, B1.out⟩⟩
      case round =>
        obtain ⟨j, hj, rfl, HX⟩ := hrel
        have hjj : j = 0 ∨ j = 1 ∨ j = 2 := by omega
        clear hj
        rcases hjj with rfl | rfl | rfl
        · obtain ⟨b0, b1⟩ := CL.out _ HX.out.2
          have hown := HX.out.1
          unfold OwnQ at hown
          simp only [ccP, List.length_nil] at hown
          go_wp2_with (at_builtin; refine wpList_append_own _ rfl _ _ 40 rfl w.heap.size 45 i0 (.agg #[.int .i64 0, .int .i64 0]) 2 16 Tryz.underlying40 hi hz0 hz1 hz2 rfl (by decide) _ _ _ rfl hown ⟨b, 0, none⟩ 1 1 (qV [q]) rfl hlen.out (C0.out _ HX.out.2) (qV_one _) (by unfold maxLen; omega) (by omega) HX.out.2.size ?_)
          intro v' w9 hown9 hgrow _
          have B9 := Lib.hid (show Below w.heap.size w w9 from Below.grown HX.out.2 hgrow HX.out.2.size (fun k hk => (World.ownsRow.lt hown k hk).1))
          have O9 := Lib.hid (show OwnQ w9 w.heap.size v' (ccP q ps 1) from hown9)
          clear hown9 hgrow hown b0 b1
          go_wp2_with fail
          go_roundw
          case rel => exact ⟨1, by omega, by go_num, Lib.hid ⟨O9.out, B9.out⟩⟩
          case measure => simp [intOf]
        · obtain ⟨b0, b1⟩ := CL.out _ HX.out.2
          have hown := HX.out.1
          unfold OwnQ at hown
          simp only [ccP, List.length_nil, List.length_cons] at hown
          go_wp2_with (at_builtin; refine wpList_append_own _ rfl _ _ 40 rfl w.heap.size 45 i0 (.agg #[.int .i64 0, .int .i64 0]) 2 16 Tryz.underlying40 hi hz0 hz1 hz2 rfl (by decide) _ _ _ rfl hown a k cap (qV ps) rfl L1.out (C1.out _ HX.out.2) (qV_one _) (by unfold maxLen; omega) (by omega) HX.out.2.size ?_)
          intro v' w9 hown9 hgrow _
          have B9 := Lib.hid (show Below w.heap.size w w9 from Below.grown HX.out.2 hgrow HX.out.2.size (fun k hk => (World.ownsRow.lt hown k hk).1))
          have O9 := Lib.hid (show OwnQ w9 w.heap.size v' (ccP q ps 2) by
            unfold OwnQ
            simp only [ccP]
            rw [show q :: ps = [q] ++ ps from rfl, qV_appd, List.length_append, hk]
            exact hown9)
          clear hown9 hgrow hown b0 b1
          go_wp2_with fail
          go_roundw
          case rel => exact ⟨2, by omega, by go_num, Lib.hid ⟨O9.out, B9.out⟩⟩
          case measure => simp [intOf]
        · go_wp2_with fail
          go_ret
          exact ⟨HX.out.2, _, rfl, HX.out.1⟩

set_option maxRecDepth 100000 in
set_option maxHeartbeats 4000000 in
theorem concat_nil (h b : Nat) (q : Pq) (w : World) (h0 : w.cell? ⟨h, 0, none⟩ = some (.slice (some ⟨b, 0, none⟩) 1 1)) (h1 : w.cell? ⟨h, 1, none⟩ = some (.slice none 0 0))
    (hq : Rd2 w ⟨b, 0, none⟩ [q]) :
    Calls Tryz.prog 147 #[.slice (some ⟨h, 0, none⟩) 2 2] w (fun e w' => Below w.heap.size w w' ∧ ∃ v, e = .returned v ∧ OwnQ w' w.heap.size v (q :: [])) := by
  obtain ⟨i0, hi, hz0, hz1, hz2⟩ := info_parts rat_info
  have GR := Lib.hid (grow_any 1 w (by omega) (by omega))
  have CL := Lib.hid (show ∀ W, Below w.heap.size w W → W.cell? ⟨h, 0, none⟩ = some (.slice (some ⟨b, 0, none⟩) 1 1) ∧ W.cell? ⟨h, 1, none⟩ = some (.slice none 0 0) from fun W hb => ⟨kept hb h0, kept hb h1⟩)
  have C0 := Lib.hid (show ∀ W, Below w.heap.size w W → ∀ j u, (qV [q])[j]? = some u → W.cell? ((⟨b, 0, none⟩ : Addr).add j) = some u from fun W hb => qV_cells (hq.on hb))
  have hlen := Lib.hid (qV_len [q])
  clear hq
  go_enter Tryz.func147, Tryz.ntmps147
  go_wp2_with fail
  go_loopw [11, 3] (fun s t wr => ∃ j : Nat, j ≤ 2 ∧ s = .int .i64 j ∧ t = .int .i64 (ccS 0 j) ∧ wr = w) (fun s _ _ => 2 - (intOf s).toNat)
  case atStart => exact ⟨0, by omega, rfl, rfl, rfl⟩
  case round =>
    obtain ⟨j, hj, rfl, rfl, hw⟩ := hrel
    rw [hw]
    clear hw
    obtain ⟨b0, b1⟩ := CL.out w (Below.refl _ _)
    have hjj : j = 0 ∨ j = 1 ∨ j = 2 := by omega
    clear hj
    rcases hjj with rfl | rfl | rfl
    · simp only [ccS]
      go_wp2_with fail
      go_roundw
      case rel => exact ⟨1, by omega, by go_num, by go_num, trivial⟩
      case measure => simp [intOf]
    · simp only [ccS]
      go_wp2_with fail
      go_roundw
      case rel => exact ⟨2, by omega, by go_num, by go_num, trivial⟩
      case measure => simp [intOf]
    · simp only [ccS]
      clear b0 b1
      go_wp2_with fail
      refine GR.out.mono ?_
      rintro e w1 ⟨hb1, v1, rfl, hv1⟩
      have B1 := Lib.hid hb1
      have O1 := Lib.hid hv1
      clear hb1 hv1
      go_wp2_with fail
      go_loopw [27, 6] (fun s v wr => ∃ j : Nat, j ≤ 2 ∧ s = .int .i64 j ∧ Hid (OwnQ wr w.heap.size v (ccP q [] j) ∧ Below w.heap.size w wr)) (fun s _ _ => 2 - (intOf s).toNat)
      case atStart => exact ⟨0, by omega, rfl, Lib.hid ⟨O1.out, B1.out⟩⟩
      case round =>
        obtain ⟨j, hj, rfl, HX⟩ := hrel
        have hjj : j = 0 ∨ j = 1 ∨ j = 2 := by omega
        clear hj
        rcases hjj with rfl | rfl | rfl
        · obtain ⟨b0, b1⟩ := CL.out _ HX.out.2
          have hown := HX.out.1
          unfold OwnQ at hown
          simp only [ccP, List.length_nil] at hown
          go_wp2_with (at_builtin; refine wpList_append_own _ rfl _ _ 40 rfl w.heap.size 45 i0 (.agg #[.int .i64 0, .int .i64 0]) 2 16 Tryz.underlying40 hi hz0 hz1 hz2 rfl (by decide) _ _ _ rfl hown ⟨b, 0, none⟩ 1 1 (qV [q]) rfl hlen.out (C0.out _ HX.out.2) (qV_one _) (by unfold maxLen; omega) (by omega) HX.out.2.size ?_)
          intro v' w9 hown9 hgrow _
          have B9 := Lib.hid (show Below w.heap.size w w9 from Below.grown HX.out.2 hgrow HX.out.2.size (fun k hk => (World.ownsRow.lt hown k hk).1))
          have O9 := Lib.hid (show OwnQ w9 w.heap.size v' (ccP q [] 1) from hown9)
          clear hown9 hgrow hown b0 b1
          go_wp2_with fail
          go_roundw
          case rel => exact ⟨1, by omega, by go_num, Lib.hid ⟨O9.out, B9.out⟩⟩
          case measure => simp [intOf]
        · obtain ⟨b0, b1⟩ := CL.out _ HX.out.2
          have hown := HX.out.1
          unfold OwnQ at hown
          simp only [ccP, List.length_nil, List.length_cons] at hown
          have HRUN := Lib.hid (run_append_owned_none (P := Tryz.prog) _ w.heap.size 40 40 45 i0 2 Tryz.underlying40 hi _ _ _ hown)
          go_wp2_with (at_builtin; (refine Lib.wpList_append_run _ rfl _ _ _ _ rfl _ _ rfl rfl _ _ HRUN.out ?_))
          have O9 := Lib.hid (show OwnQ _ w.heap.size _ (ccP q [] 2) from hown)
          clear hown b0 b1
          go_wp2_with fail
          go_roundw
          case rel => exact ⟨2, by omega, by go_num, Lib.hid ⟨O9.out, HX.out.2⟩⟩
          case measure => simp [intOf]
        · go_wp2_with fail
          go_ret
          exact ⟨HX.out.2, _, rfl, HX.out.1⟩
end Go.Proofs.YthjapmdfcbngmaaGreat
