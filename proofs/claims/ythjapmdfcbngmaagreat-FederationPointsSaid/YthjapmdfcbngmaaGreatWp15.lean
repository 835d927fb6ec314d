/- A part. -/
import Derived.Test.YthjapmdfcbngmaaGreatWp13
import Derived.Test.YthjapmdfcbngmaaGreatWp14

namespace Go.Proofs.YthjapmdfcbngmaaGreat
open Go.RowKit

theorem ret_be2 {a b : Bool} {c d : Int} (h : a = b) (g : c = d) : Ending.returned (.tuple #[.bool a, .int .i64 c]) = .returned (.tuple #[.bool b, .int .i64 d]) := by rw [h, g]

theorem kept2 {w w0 wr : World} {a : Addr} {l : List Int} (h : Rd w a l) (h0 : Below w.heap.size w w0) (h1 : Below w0.heap.size w0 wr) : Rd wr a l := (h.on h0).on h1

set_option maxRecDepth 100000 in
set_option maxHeartbeats 4000000 in
theorem zinc_gen (N M : Int) (l m : List Int) (ao bo : Option Addr) (ca cb : Nat) (w : World) (hA : Arg w ao l) (hB : Arg w bo m) :
    Calls Tryz.prog 143 #[.agg #[.int .i64 N, .slice ao l.length ca], .agg #[.int .i64 M, .slice bo m.length cb]] w (Made (.tuple #[.bool (inR N M l m), .int .i64 (inE N M l m)]) w) := by
  have C1 := Lib.hid (show ∀ W, Below w.heap.size w W → _ from fun W h => zcheck_gen N l ao ca W (hA.on h))
  have C2 := Lib.hid (show ∀ W, Below w.heap.size w W → _ from fun W h => zcheck_gen M m bo cb W (hB.on h))
  obtain ⟨w0, hw0⟩ : ∃ w0, w0 = (w.alloc (.cells #[.int .i64 N, .slice ao l.length ca] 36)).alloc (.cells #[.int .i64 M, .slice bo m.length cb] 36) := ⟨_, rfl⟩
  have y0 : Two w0 w.heap.size (.int .i64 N) (.slice ao l.length ca) := by rw [hw0]; exact (Two.made _ _ _ _).alloc _
  have y1 : Two w0 (w.heap.size + 1) (.int .i64 M) (.slice bo m.length cb) := by
    rw [hw0]
    have := Two.made (w.alloc (.cells #[.int .i64 N, .slice ao l.length ca] 36)) (.int .i64 M) (.slice bo m.length cb) 36
    simpa using this
  have E0 := Lib.hid (show Below w.heap.size w w0 by rw [hw0]; exact past_two (Below.refl _ _))
  have KS := Lib.hid (show ∀ W, Below w0.heap.size w0 W → (W.cell? ⟨w.heap.size, 0, none⟩ = some (.int .i64 N) ∧ W.cell? ⟨w.heap.size, 1, none⟩ = some (.slice ao l.length ca)) ∧ W.cell? ⟨w.heap.size + 1, 0, none⟩ = some (.int .i64 M) ∧ W.cell? ⟨w.heap.size + 1, 1, none⟩ = some (.slice bo m.length cb) from
    fun W h => ⟨⟨kept h y0.1.1, kept h y0.2.1⟩, kept h y1.1.1, kept h y1.2.1⟩)
  have HZ := Lib.hid (show chkE N l = 0 → chkE M m = 0 → N = M → m.length = l.length ∧ m.length ≤ 121 ∧ ∃ a b, ao = some a ∧ bo = some b ∧ Rd w a l ∧ Rd w b m from fun h1 h2 h3 => by
    obtain ⟨n, rfl, hn, hl, hne⟩ := chk_ok h1
    obtain ⟨k, hk, hkn, hm, hme⟩ := chk_ok h2
    have : k = n := by omega
    subst this
    obtain ⟨a, ha, hR⟩ := hA hne
    obtain ⟨b, hb, hS⟩ := hB hme
    have := dsq_le hn
    exact ⟨by omega, by omega, a, b, ha, hb, hR, hS⟩)
  have HR := Lib.hid (show inR N M l m = (decide (chkE N l = 0) && decide (chkE M m = 0) && decide (N = M) && inB l m) ∧ inE N M l m = (if decide (chkE N l = 0) && decide (chkE M m = 0) && decide (N = M) then 0 else 2) from ⟨rfl, rfl⟩)
  have T1 := Lib.hid (show chkE N l ≠ 0 → chkE N l = 2 from chk_two)
  have T2 := Lib.hid (show chkE M m ≠ 0 → chkE M m = 2 from chk_two)
  have HBD := Lib.hid (show inB l m = (List.range l.length).all fun k => decide (Zo.gt m k ≤ Zo.gt l k) from rfl)
  generalize inR N M l m = rr at *
  generalize inE N M l m = re at *
  generalize chkE N l = c1 at *
  generalize chkE M m = c2 at *
  clear y0 y1
  generalize hlen : l.length = len at hw0 C1 KS ⊢
  have HLN := Lib.hid hlen
  clear hlen
  generalize hmlen : m.length = mlen at hw0 C2 KS ⊢
  have HMN := Lib.hid hmlen
  clear hA hB hmlen
  go_enter Tryz.func143, Tryz.ntmps143
  go_wp2_with fail
  rw [← hw0]
  clear hw0
  refine (C1.out _ E0.out).mono ?_
  rintro e w1 ⟨rfl, hb1⟩
  obtain ⟨⟨a0, a1⟩, a2, a3⟩ := KS.out _ hb1
  have B1 := Lib.hid hb1
  clear hb1
  by_cases h1 : c1 = 0
  · have HC1 := Lib.hid h1
    subst h1
    go_wp2_with fail
    refine (C2.out _ (below_on E0.out B1.out)).mono ?_
    rintro e w2 ⟨rfl, hb2⟩
    have B2 := Lib.hid (below_on B1.out hb2)
    clear hb2 a0 a1 a2 a3
    obtain ⟨⟨a0, a1⟩, a2, a3⟩ := KS.out _ B2.out
    by_cases h2 : c2 = 0
    · subst h2
      by_cases h3 : N = M
      · have D : (N != M) = false := by simpa using h3
        obtain ⟨z1, z2, a, b, rfl, rfl, R1, R2⟩ := HZ.out (by first | rfl | trivial) (by first | rfl | trivial) h3
        have HR1 := Lib.hid R1
        have HR2 := Lib.hid R2
        have HRR := Lib.hid (show rr = inB l m ∧ re = 0 by rw [HR.out.1, HR.out.2, h3]; simp)
        have HML := Lib.hid (show mlen = len by rw [← HMN.out, ← HLN.out]; exact z1)
        have hm121 : mlen ≤ 121 := by rw [← HMN.out]; exact z2
        clear h3 R1 R2 z1 z2
        go_wp2_with fail
        clear a0 a1 a2 a3
        go_loopw [26] (fun s wr => ∃ t : Nat, t ≤ mlen ∧ s = .int .i64 t ∧ Hid (∀ i, i < t → Zo.gt m i ≤ Zo.gt l i) ∧ Hid (Below w0.heap.size w0 wr)) (fun s _ => mlen - (intOf s).toNat)
        case atStart => exact ⟨0, by omega, rfl, Lib.hid (fun i hi => by omega), B2⟩
        case round =>
          obtain ⟨t, ht, rfl, HT, HB⟩ := hrel
          obtain ⟨⟨a0, a1⟩, a2, a3⟩ := KS.out _ HB.out
          by_cases htn : t < mlen
          · obtain ⟨x, hx⟩ : ∃ x, x = Zo.gt l t := ⟨_, rfl⟩
            obtain ⟨y, hy⟩ : ∃ y, y = Zo.gt m t := ⟨_, rfl⟩
            have htl : t < len := by rw [← HML.out]; exact htn
            have x1 : wr.cell? (a.add t) = some (.int .i64 x) := by rw [hx]; exact kept2 HR1.out E0.out HB.out t (by rw [HLN.out]; exact htl)
            have x2 : wr.cell? (b.add t) = some (.int .i64 y) := by rw [hy]; exact kept2 HR2.out E0.out HB.out t (by rw [HMN.out]; exact htn)
            have HX := Lib.hid hx
            have HY := Lib.hid hy
            clear hx hy
            by_cases hxy : y ≤ x
            · have HXY := Lib.hid hxy
              have D : decide (x < y) = false := by simp; omega
              clear hxy
              go_wp2_with fail
              clear a0 a1 a2 a3 x1 x2
              go_roundw
              case rel =>
                refine ⟨t + 1, by omega, by go_num, Lib.hid (fun i hi => ?_), HB⟩
                by_cases e : i = t
                · rw [e, ← HX.out, ← HY.out]; exact HXY.out
                · exact HT.out i (by omega)
              case measure => simp [intOf]; omega
            · have HE := Lib.hid (show inB l m = false by
                rw [HBD.out, List.all_eq_false]
                exact ⟨t, List.mem_range.2 (by rw [HLN.out]; exact htl), by rw [← HX.out, ← HY.out]; simpa using hxy⟩)
              have D : decide (x < y) = true := by simp; omega
              clear hxy
              go_wp2_with fail
              go_ret2
              exact ⟨ret_be2 (by rw [HRR.out.1, HE.out]) HRR.out.2.symm, below_on E0.out HB.out⟩
          · have HE := Lib.hid (show inB l m = true by
              rw [HBD.out, List.all_eq_true]
              intro i hi
              have := List.mem_range.1 hi
              have := HML.out
              have := HLN.out
              simpa using HT.out i (by omega))
            go_wp2_with fail
            go_ret2
            exact ⟨ret_be2 (by rw [HRR.out.1, HE.out]) HRR.out.2.symm, below_on E0.out HB.out⟩
      · have D : (N != M) = true := by simpa using h3
        have HRR := Lib.hid (show rr = false ∧ re = 2 by rw [HR.out.1, HR.out.2]; simp [h3])
        clear h3
        go_wp2_with fail
        go_ret2
        exact ⟨ret_be2 HRR.out.1.symm HRR.out.2.symm, below_on E0.out B2.out⟩
    · have HRR := Lib.hid (show rr = false ∧ re = 2 by rw [HR.out.1, HR.out.2]; simp [h2])
      obtain rfl := T2.out h2
      clear h2
      go_wp2_with fail
      go_ret2
      exact ⟨ret_be2 HRR.out.1.symm HRR.out.2.symm, below_on E0.out B2.out⟩
  · have HRR := Lib.hid (show rr = false ∧ re = 2 by rw [HR.out.1, HR.out.2]; simp [h1])
    obtain rfl := T1.out h1
    clear h1
    go_wp2_with fail
    go_ret2
    exact ⟨ret_be2 HRR.out.1.symm HRR.out.2.symm, below_on E0.out B1.out⟩
end Go.Proofs.YthjapmdfcbngmaaGreat

namespace Go.Proofs.YthjapmdfcbngmaaGreat
open Go.RowKit

theorem run_place (b t : Nat) (ht : t < 121) (w : World) : (Instr.indexAt 118 (.pointer (some ⟨b, 1, none⟩)) (.int .i64 t)).run Tryz.prog w = .ok (.pointer (some ⟨b, 1 + t, none⟩)) w := by
  have ha : Tryz.prog.arrayLen 118 = 121 := by simp [Program.arrayLen]
  have he : Tryz.prog.elem 118 = 37 := by simp [Program.elem]
  rw [run_indexAt_array (P := Tryz.prog) w 118 ⟨b, 1, none⟩ .i64 t (by rw [ha, he]; exact cells_ty), ha, he]
  rw [if_pos (by omega), limit_size]
  simp [Addr.add]

set_option maxRecDepth 100000 in
set_option maxHeartbeats 4000000 in
theorem me1_any (b n : Nat) (l m : List Int) (mb : Addr) (cb : Nat) (bb : Nat) (w0 w : World) (hn : n ≤ 10) (hm : m.length = l.length) (h : Mx w b n l) (hR : Rd w0 mb m) (h1 : w0.cell? ⟨bb, 1, none⟩ = some (.slice (some mb) m.length cb))
    (hb : Below w0.heap.size w0 w) (hle : w0.heap.size ≤ b) : Calls Tryz.prog 132 #[.pointer (some ⟨b, 0, none⟩), .pointer (some ⟨bb, 0, none⟩)] w (Chg w b n (meL l m)) := by
  have HM := Lib.hid (show MSt w b n l w from ⟨h, World.grownBy.refl _ _⟩)
  have KR := Lib.hid (show ∀ x w', MSt w b n x w' → Rd w' mb m from fun x w' hx j hj => hx.old hb hle (hR j hj))
  have c1 : w.cell? ⟨bb, 1, none⟩ = some (.slice (some mb) m.length cb) := kept hb h1
  have HML := Lib.hid hm
  have hl := h.2
  have d2 := dsq_le hn
  obtain ⟨len, hlen⟩ : ∃ len, len = m.length := ⟨_, rfl⟩
  have HLN := Lib.hid hlen
  have hl2 : len ≤ 121 := by omega
  have HLL := Lib.hid (show l.length = (n + 1) * (n + 1) ∧ len = l.length from ⟨hl, by omega⟩)
  rw [← hlen] at c1
  clear hR h1 hb hle hm h hl d2 hlen
  go_enter Tryz.func132, Tryz.ntmps132
  go_wp2_with fail
  clear c1
  go_loopw [8] (fun s wr => ∃ (t : Nat) (x : List Int), t ≤ len ∧ s = .int .i64 t ∧ Hid (x.length = l.length ∧ x = (List.range t).foldl (meS m) l ∧ MSt w b n x wr)) (fun s _ => len - (intOf s).toNat)
  case atStart => exact ⟨0, l, by omega, rfl, Lib.hid ⟨rfl, rfl, HM.out⟩⟩
  case round =>
    obtain ⟨t, x, ht, rfl, HX⟩ := hrel
    by_cases htn : t < len
    · have htx : t < x.length := by rw [HX.out.1, ← HLL.out.2]; exact htn
      obtain ⟨y, hy⟩ : ∃ y, y = Zo.gt m t := ⟨_, rfl⟩
      have c1 : wr.cell? (mb.add t) = some (.int .i64 y) := by rw [hy]; exact KR.out _ _ HX.out.2.2 t (by rw [← HLN.out]; exact htn)
      have D1 := Lib.hid (show wr.drew.cell? ⟨b, 1 + t, none⟩ = some (.int .i64 (Zo.gt x t)) from HX.out.2.2.drew.1.at htx)
      have D3 := Lib.hid (show wr.drew.frozen? ⟨b, 1 + t, none⟩ = false from HX.out.2.2.drew.1.free _)
      have d1 : wr.cell? ⟨b, 1 + t, none⟩ = some (.int .i64 (Zo.gt x t)) := HX.out.2.2.1.at htx
      have HY := Lib.hid hy
      have ST := Lib.hid (HX.out.2.2.drew.put t (imin (Zo.gt x t) y) htx)
      have hm := run_imin (Zo.gt x t) y
      have hpl := run_place b t (by omega)
      clear hy
      go_wp2_with fail
      go_still_tail 13, (by kernel_rfl)
      clear d1
      have d1 := D1.out
      have d3 := D3.out
      change wpList _ _ _ _ _ (World.drew _)
      go_wp2_with fail
      clear hm hpl c1 d1 d3 htx
      go_roundw
      case rel => exact ⟨t + 1, _, by omega, by go_num, Lib.hid ⟨by simpa using HX.out.1, by rw [Zo.fold_succ, ← HX.out.2.1, HY.out]; rfl, ST.out⟩⟩
      case measure => simp [intOf]; omega
    · have HE := Lib.hid (show x = meL l m by rw [HX.out.2.1]; unfold meL; rw [← HLL.out.2, show t = len by omega])
      go_wp2_with fail
      go_end0
      exact ⟨rfl, by rw [← HE.out]; exact HX.out.2.2⟩

theorem enter_me (args : Array Value) (W : World) : (callFunc 132 args).run Tryz.prog W = .ok (.enter 132 args) W := by go_simp

theorem meL_64 {l m : List Int} (h : Zo.A64 l) (g : Zo.A64 m) : Zo.A64 (meL l m) := fold_64 (fun x t hx => by
  unfold meS imin
  refine Zo.gt_range _ _ _ hx ?_
  have := hx t
  have := g t
  omega) h _

set_option maxRecDepth 100000 in
set_option maxHeartbeats 4000000 in
theorem hu1_any (b n : Nat) (l m : List Int) (mb : Addr) (cb : Nat) (bb : Nat) (w0 w : World) (hn : n ≤ 10) (hm : m.length = l.length) (h : Mx w b n l) (hR : Rd w0 mb m) (h1 : w0.cell? ⟨bb, 1, none⟩ = some (.slice (some mb) m.length cb))
    (hb : Below w0.heap.size w0 w) (hle : w0.heap.size ≤ b) : Calls Tryz.prog 164 #[.pointer (some ⟨b, 0, none⟩), .pointer (some ⟨bb, 0, none⟩)] w (Chg w b n (huL l m)) := by
  have HM := Lib.hid (show MSt w b n l w from ⟨h, World.grownBy.refl _ _⟩)
  have KR := Lib.hid (show ∀ x w', MSt w b n x w' → Rd w' mb m from fun x w' hx j hj => hx.old hb hle (hR j hj))
  have c1 : w.cell? ⟨bb, 1, none⟩ = some (.slice (some mb) m.length cb) := kept hb h1
  have HML := Lib.hid hm
  have hl := h.2
  have d2 := dsq_le hn
  obtain ⟨len, hlen⟩ : ∃ len, len = m.length := ⟨_, rfl⟩
  have HLN := Lib.hid hlen
  have hl2 : len ≤ 121 := by omega
  have HLL := Lib.hid (show l.length = (n + 1) * (n + 1) ∧ len = l.length from ⟨hl, by omega⟩)
  rw [← hlen] at c1
  clear hR h1 hb hle hm h hl d2 hlen
  go_enter Tryz.func164, Tryz.ntmps164
  go_wp2_with fail
  clear c1
  go_loopw [8] (fun s wr => ∃ (t : Nat) (x : List Int), t ≤ len ∧ s = .int .i64 t ∧ Hid (x.length = l.length ∧ x = (List.range t).foldl (huS m) l ∧ MSt w b n x wr)) (fun s _ => len - (intOf s).toNat)
  case atStart => exact ⟨0, l, by omega, rfl, Lib.hid ⟨rfl, rfl, HM.out⟩⟩
  case round =>
    obtain ⟨t, x, ht, rfl, HX⟩ := hrel
    by_cases htn : t < len
    · have htx : t < x.length := by rw [HX.out.1, ← HLL.out.2]; exact htn
      obtain ⟨y, hy⟩ : ∃ y, y = Zo.gt m t := ⟨_, rfl⟩
      have c1 : wr.cell? (mb.add t) = some (.int .i64 y) := by rw [hy]; exact KR.out _ _ HX.out.2.2 t (by rw [← HLN.out]; exact htn)
      have D1 := Lib.hid (show wr.drew.cell? ⟨b, 1 + t, none⟩ = some (.int .i64 (Zo.gt x t)) from HX.out.2.2.drew.1.at htx)
      have D3 := Lib.hid (show wr.drew.frozen? ⟨b, 1 + t, none⟩ = false from HX.out.2.2.drew.1.free _)
      have d1 : wr.cell? ⟨b, 1 + t, none⟩ = some (.int .i64 (Zo.gt x t)) := HX.out.2.2.1.at htx
      have HY := Lib.hid hy
      have ST := Lib.hid (HX.out.2.2.drew.put t (imax (Zo.gt x t) y) htx)
      have hm := run_imax (Zo.gt x t) y
      have hpl := run_place b t (by omega)
      clear hy
      go_wp2_with fail
      go_still_tail 13, (by kernel_rfl)
      clear d1
      have d1 := D1.out
      have d3 := D3.out
      change wpList _ _ _ _ _ (World.drew _)
      go_wp2_with fail
      clear hm hpl c1 d1 d3 htx
      go_roundw
      case rel => exact ⟨t + 1, _, by omega, by go_num, Lib.hid ⟨by simpa using HX.out.1, by rw [Zo.fold_succ, ← HX.out.2.1, HY.out]; rfl, ST.out⟩⟩
      case measure => simp [intOf]; omega
    · have HE := Lib.hid (show x = huL l m by rw [HX.out.2.1]; unfold huL; rw [← HLL.out.2, show t = len by omega])
      go_wp2_with fail
      go_end0
      exact ⟨rfl, by rw [← HE.out]; exact HX.out.2.2⟩

theorem enter_hu (args : Array Value) (W : World) : (callFunc 164 args).run Tryz.prog W = .ok (.enter 164 args) W := by go_simp

theorem huL_64 {l m : List Int} (h : Zo.A64 l) (g : Zo.A64 m) : Zo.A64 (huL l m) := fold_64 (fun x t hx => by
  unfold huS imax
  refine Zo.gt_range _ _ _ hx ?_
  have := hx t
  have := g t
  omega) h _
end Go.Proofs.YthjapmdfcbngmaaGreat
