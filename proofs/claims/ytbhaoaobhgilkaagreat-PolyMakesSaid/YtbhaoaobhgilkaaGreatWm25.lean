/- The contract of package poly's infimum. -/
import Derived.Test.YtbhaoaobhgilkaaGreatWm3
import Derived.Test.YtbhaoaobhgilkaaGreatWm24
import Derived.Test.YtbhaoaobhgilkaaGreatWm13
import Derived.ArgAppend

namespace Go.Proofs.YtbhaoaobhgilkaaGreat
open Go.RowKit Go.Sort Go.Shelf

theorem run_bs2 (x y : Ln) (hx : x.a.length = 6) (hy : y.a.length = 6) (w : World) : (Instr.buildSlice 66 2 #[(0, .agg x.cs), (1, .agg y.cs)]).run Tryz.prog w = .ok (.slice (some ⟨w.heap.size, 0, none⟩) 2 2) (w.alloc (.cells (x.cs ++ y.cs) 82)) := by
  have hz := (zero_of_info ln_info).1 w
  have hs := size_of ln_size w
  obtain ⟨a, b, s⟩ := x
  obtain ⟨c, d, r⟩ := y
  match a, hx, c, hy with
  | [a0, a1, a2, a3, a4, a5], _, [c0, c1, c2, c3, c4, c5], _ =>
    simp [go_sem, Instr.buildSlice, run_underlying Tryz.underlying66, hs, Ln.cs, Ln.cells, Instr.fill]

theorem wp_bs2 {w : World} {o : Oper} {a : Act} {K : Act → World → Prop} {Q : Exit → Act → World → Prop} (s t : Operand) (ho : o.op = .buildSlice 66 2 #[(0, s), (1, t)]) (x y : Ln) (hs : a.eval s = .agg x.cs) (ht : a.eval t = .agg y.cs) (hx : x.a.length = 6) (hy : y.a.length = 6)
    (h : K (a.put o.dst (.slice (some ⟨w.heap.size, 0, none⟩) 2 2)) (w.alloc (.cells (x.cs ++ y.cs) 82))) : o.wp Tryz.prog a w K Q := by
  have hv := run_bs2 x y hx hy w
  generalize x.cs = X at *
  generalize y.cs = Y at *
  unfold Oper.wp execOp
  simp only [ho]
  simp [hs, ht, hv, Result.andThen]
  exact h

theorem two_at (w : World) (x y : Ln) (_hx : x.a.length = 6) (_hy : y.a.length = 6) : ∀ j u, (x.cells ++ y.cells)[j]? = some u → (w.alloc (.cells (x.cs ++ y.cs) 82)).cell? ((⟨w.heap.size, 0, none⟩ : Addr).add j) = some u := fun j u hu => by
  rw [addr_add, Nat.zero_add, cell_of_row _ w.heap.size j _ _ _ (heap_alloc_last w _)]
  have : (x.cs ++ y.cs) = ⟨x.cells ++ y.cells⟩ := by simp [Ln.cs]
  rw [this]; simpa using hu

theorem rd_flat {w : World} {pb : Nat} {l : List Ln} (h : RdL w (some ⟨pb, 0, none⟩) l) (h6 : ∀ x ∈ l, x.a.length = 6) : ∀ j u, (l.flatMap Ln.cells)[j]? = some u → w.cell? ((⟨pb, 0, none⟩ : Addr).add j) = some u := fun j u hu => by
  have hj : j < l.length * 8 := by
    rw [← flat_len h6]
    by_cases q : j < (l.flatMap Ln.cells).length
    · exact q
    · rw [List.getElem?_eq_none (by omega)] at hu; cases hu
  have ht : j / 8 < l.length := by omega
  obtain ⟨a, e, _, c⟩ := h (j / 8) ht
  cases e
  have e2 : j = (j / 8) * 8 + j % 8 := by omega
  rw [e2, flat_at h6 ht (by omega)] at hu
  have := c (j % 8) u hu
  rw [e2, addr_add, Nat.zero_add]
  rw [addr_add, addr_add, Nat.zero_add] at this
  exact this

theorem append2_run {w : World} {pb : Nat} {l : List Ln} (h : RdL w (some ⟨pb, 0, none⟩) l) (h6 : ∀ x ∈ l, x.a.length = 6) {x y : Ln} (hx : x.a.length = 6) (hy : y.a.length = 6) {b : Nat} (hn : ∀ j u, (x.cells ++ y.cells)[j]? = some u → w.cell? ((⟨b, 0, none⟩ : Addr).add j) = some u) (hle : l.length ≤ 1000000) (ty : TypeId) :
    ∃ v' w', (Builtin.append_ #[66, 66] ty #[.slice (some ⟨pb, 0, none⟩) l.length l.length, .slice (some ⟨b, 0, none⟩) 2 2]).run Tryz.prog w = .ok v' w' ∧ OwnL w' w.heap.size v' (l ++ [x, y]) ∧ Below w.heap.size w w' := by
  obtain ⟨i0, hi, hz0, hz1, hz2⟩ := info_parts ln_info3
  obtain ⟨v', w', hr, h2, h3⟩ := run_append_arg_grows (P := Tryz.prog) w 66 ty 82 i0 (.agg ln0.cs) 8 64 Tryz.underlying66 hi hz0 hz1 hz2 (by rfl) (by decide) ⟨pb, 0, none⟩ l.length l.length (l.flatMap Ln.cells) (flat_len h6) (rd_flat h h6)
    ⟨b, 0, none⟩ 2 2 (x.cells ++ y.cells) (by simp [Ln.cells_len hx, Ln.cells_len hy]) hn (by omega) (by unfold maxLen; omega) (by omega)
  refine ⟨v', w', hr, ⟨?_, fun z hz => ?_⟩, ⟨h3.os, h3.tape, h3.output, h3.size, fun k hk => h3.block k hk (by simp)⟩⟩
  · have e : (l ++ [x, y]).flatMap Ln.cells = l.flatMap Ln.cells ++ (x.cells ++ y.cells) := by simp [List.flatMap_append]
    rw [e]; simpa using h2
  · rcases List.mem_append.1 hz with h | h
    · exact h6 z h
    · simp at h; rcases h with rfl | rfl <;> assumption

def goalL (n : Nat) (a : List Int) : Ln := ⟨(a ++ List.replicate (6 - a.length) 0).set n (-1), 0, false⟩

def infL (l : List Ln) (n : Nat) (a : List Int) : List Ln := l ++ [goalL n a, (goalL n a).times (-1)]

def infN (l : List Ln) (n : Nat) (a : List Int) : (En × En) × Int := enN (shL (infL l n a) n n) n [] (shL (infL l n a) n n).length

def infE (l : List Ln) (n : Nat) (a : List Int) : Int := if shE (infL l n a) n n ≠ 0 then shE (infL l n a) n n else if (infN l n a).2 ≠ 0 then (infN l n a).2 else if (infN l n a).1.1.ex then 0 else 4

def InfRes (w : World) (x : En) (er : Int) (e : Ending) (w' : World) : Prop := Below w.heap.size w w' ∧ ((er = 0 ∧ e = .returned (.agg x.cs)) ∨ (er ≠ 0 ∧ e = .panicked (pan er)))

theorem goal_rg {n : Nat} {a : List Int} (hl : a.length ≤ 6) (h : ∀ v ∈ a, -2147483647 ≤ v ∧ v ≤ 2147483647) : Rg 2147483647 (goalL n a) := by
  refine ⟨by simp [goalL]; omega, fun v hv => ?_, by simp [goalL]⟩
  rcases List.mem_or_eq_of_mem_set hv with q | q
  · rcases List.mem_append.1 q with q | q
    · exact h v q
    · have := List.eq_of_mem_replicate q; omega
  · omega

theorem results_en {fn : Func} {p : Tmp} (h : fn.results = #[.cell p 105]) (tmps : Array Value) {w : World} {b : Nat} {x : En}
    (hp : tmps.getD p undef = .pointer (some ⟨b, 0, none⟩)) (hx : EnB w b x) : (results fn tmps).run Tryz.prog w = .ok (.agg x.cs) w := by
  have hp' : tmps[p]?.getD undef = .pointer (some ⟨b, 0, none⟩) := by simpa using hp
  have h1 := en_load hx
  generalize x.cs = X at *
  simp [results, h, hp', asAddr, h1]

set_option maxRecDepth 100000 in
set_option maxHeartbeats 4000000 in
theorem infimum_any (l : List Ln) (pb : Nat) (n : Nat) (a : List Int) (q : Option Addr) (c : Nat) (w : World) (hn : n ≤ 5) (ha : a.length ≤ 6) (haB : ∀ v ∈ a, -2147483647 ≤ v ∧ v ≤ 2147483647) (hl : l.length ≤ 1900) (hg : ∀ x ∈ l, Rg 2147483647 x) (hR : RdL w (some ⟨pb, 0, none⟩) l) (hA : Rd1 w q a) :
    Calls Tryz.prog 82 #[.int .i64 n, .slice (some ⟨pb, 0, none⟩) l.length l.length, .slice q a.length c] w (InfRes w (infN l n a).1.1 (infE l n a)) := by
  have hz := ln_zero
  obtain ⟨g, hG⟩ : ∃ g, g = goalL n a := ⟨_, rfl⟩
  have GR := Lib.hid (show Rg 2147483647 g by rw [hG]; exact goal_rg ha haB)
  have TR := Lib.hid (show Rg 2147483647 (g.times (-1)) from (GR.out.times (c := -1) (k := 1) (by omega) (by omega) (by omega)).mono (by omega))
  obtain ⟨l2, hl2⟩ : ∃ l2, l2 = infL l n a := ⟨_, rfl⟩
  have L2 := Lib.hid (show l2 = l ++ [g, g.times (-1)] by rw [hl2, hG]; rfl)
  have SH := Lib.hid (fun W ao d (h : RdL W ao l2) => shadows_any l2 ao d n W (by rw [L2.out]; simp; omega) (by omega) h (fun x hx => by
    rw [L2.out] at hx
    rcases List.mem_append.1 hx with h | h
    · exact hg x h
    · simp at h; rcases h with rfl | rfl
      · exact GR.out
      · exact TR.out))
  have OK := Lib.hid (fun (h : shE l2 n n = 0) => shL_ok (l := l2) (n := n) (by rw [L2.out]; simp; omega) (fun x hx => by
    rw [L2.out] at hx
    rcases List.mem_append.1 hx with h | h
    · exact hg x h
    · simp at h; rcases h with rfl | rfl
      · exact GR.out
      · exact TR.out) n h)
  have RL := Lib.hid (fun W (h : Below w.heap.size w W) => hR.on h)
  have L6 := Lib.hid (fun x hx => (hg x hx).len)
  have LO := Lib.hid (fun W (h : Below w.heap.size w W) => lineOf_any (AV.mk q c a 0 false) W ha (hA.on h))
  have OL := Lib.hid (show (ofV (AV.mk q c a 0 false)).a.length = 6 by simp [ofV]; omega)
  have OG := Lib.hid (show { ofV (AV.mk q c a 0 false) with a := (ofV (AV.mk q c a 0 false)).a.set n (-1) } = g by rw [hG]; rfl)
  have TM := Lib.hid (fun W => times_any g (-1) W GR.out.len (fun v hv => by have := GR.out.a v hv; unfold I64; omega) (by have := GR.out.b; unfold I64; omega))
  obtain ⟨sh, hsh⟩ : ∃ sh, sh = shL l2 n n := ⟨_, rfl⟩
  obtain ⟨N, hN⟩ : ∃ N, N = enN sh n [] sh.length := ⟨_, rfl⟩
  have HN := Lib.hid (show infN l n a = N by rw [hN, hsh, hl2]; rfl)
  have HE := Lib.hid (show infE l n a = if shE l2 n n ≠ 0 then shE l2 n n else if N.2 ≠ 0 then N.2 else if N.1.1.ex then 0 else 4 by unfold infE; rw [HN.out, hl2])
  have EN := Lib.hid (fun W bo d (h0 : shE l2 n n = 0) (h : RdL W bo sh) => ends_any sh n [] bo none d 0 W (by rw [hsh]; have := (OK.out h0).1; omega) h (by rw [hsh]; exact (OK.out h0).2) (by omega) (by simp) (fun t ht => by simp at ht) (fun t ht => by simp at ht))
  rw [← hN] at EN
  have hn6 : (n : Int) < 6 := by omega
  have HSH := Lib.hid hsh
  rw [HN.out]
  generalize infE l n a = ER at *
  obtain ⟨m, hm⟩ : ∃ m, m = l.length := ⟨_, rfl⟩
  obtain ⟨k, hk⟩ : ∃ k, k = a.length := ⟨_, rfl⟩
  rw [← hm, ← hk]
  have LM := Lib.hid hm
  have LK := Lib.hid hk
  have M1 := Lib.hid hl
  have N5 := Lib.hid hn
  clear hG hl2 hl hg hR hA ha haB hsh hN HN hn hm hk
  obtain ⟨w0, hw0⟩ : ∃ w0, w0 = w.alloc (.cells #[.int .i64 0, .int .i64 0, .bool false, .bool false] 105) := ⟨_, rfl⟩
  have E0 := Lib.hid (show Below w.heap.size w w0 by rw [hw0]; exact one_more _)
  have X0 := Lib.hid (show EnB w0 w.heap.size en0 by rw [hw0]; exact EnB.made w en0)
  go_enter Tryz.func82, Tryz.ntmps82
  go_upto_region 1 with (fail)
  rw [← hw0]
  clear hw0
  rw [LK.out]
  go_wp2_with fail
  refine (LO.out w0 E0.out).mono ?_
  rintro e w1 ⟨rfl, hb⟩
  obtain ⟨y, hy⟩ : ∃ y, y = ofV (AV.mk q c a 0 false) := ⟨_, rfl⟩
  rw [← hy] at OL OG ⊢
  rw [← LK.out]
  have N1 := Lib.hid (show Bk (w1.alloc (.cells ln0.cs 82)) w1.heap.size ln0 from Bk.made w1 ln0 rfl)
  have N2 := Lib.hid (N1.out.setRow OL.out)
  have B2 := Lib.hid (below_on hb (Below.setRow ((Below.refl w1.heap.size w1).alloc (Nat.le_refl _) (.cells ln0.cs 82)) (b := w1.heap.size) (Nat.le_refl _) y.cs))
  have Z1 := Lib.hid hb.size
  clear hy hb LO
  go_upto_region 2 with (refine wpl_store rfl _ _ rfl _ _ rfl rfl _ N1.out OL.out ?_)
  generalize (w1.alloc (.cells ln0.cs 82)).setRow w1.heap.size y.cs = w2 at *
  obtain ⟨q7, hq⟩ : ∃ q7, q7 = w1.heap.size := ⟨_, rfl⟩
  rw [← hq] at N2 Z1 ⊢
  have f0 := N2.out.at (j := n) (by have := N5.out; omega)
  have f1 := N2.out.free n
  have K3 := Lib.hid (show Bk (w2.setCell ⟨q7, n, none⟩ (.int .i64 (-1))) q7 g by rw [← OG.out]; exact N2.out.put (by have := N5.out; omega) (-1))
  have B3 := Lib.hid (show Below w0.heap.size w0 (w2.setCell ⟨q7, n, none⟩ (.int .i64 (-1))) from B2.out.setCell Z1.out _)
  clear N1 N2 B2 hq
  go_upto_region 3 with (fail)
  clear f0 f1
  generalize w2.setCell ⟨q7, n, none⟩ (.int .i64 (-1)) = w3 at *
  have KS := Lib.hid (show ∀ W, Below w3.heap.size w3 W → (Bk W q7 g ∧ True) from fun W h => ⟨K3.out.kept h, trivial⟩)
  obtain ⟨wc, hwc⟩ : ∃ wc, wc = w3.drew := ⟨_, rfl⟩
  have Bc := Lib.hid (show Below w3.heap.size w3 wc by rw [hwc]; exact (Below.refl _ _).drew)
  refine wp_region_held_drew (S := (fun W => (Bk W q7 g ∧ True))) (by kernel_rfl) (by rw [← hwc]; exact KS.out _ Bc.out) (fun h0 => ?_)
  rw [← hwc] at h0 ⊢
  clear hwc
  refine tkH (i := 0) (v := ?v1) rfl (Or.inl ⟨by rfl, ?hy1⟩) h0 ?rest1
  case hy1 => (intro w' hS; (try dsimp only at hS); go_simp; try (with_reducible rfl))
  simp only [Act.put, sA, sB, sD, sE, sF]
  refine tkH (i := 1) (v := ?v2) rfl (Or.inl ⟨by rfl, ?hy2⟩) h0 ?rest2
  case hy2 => (intro w' hS; (try dsimp only at hS); go_simp; try (with_reducible rfl))
  simp only [Act.put, sZ]
  refine tkH (i := 2) (v := (.agg g.cs)) rfl (Or.inl ⟨by rfl, fun w' hS => yld_loadL _ rfl _ rfl hS.1⟩) h0 ?_
  simp only [Act.put, sZ]
  refine tkH (i := 3) (v := (.agg g.cs)) rfl (Or.inl ⟨by rfl, fun w' hS => yld_loadL _ rfl _ rfl hS.1⟩) h0 ?_
  simp only [Act.put, sZ]
  refine wpAnyH_ready (rs := [4]) (by kernel_rfl) (by simp) (AllReadyH.cons rfl (fun K hK => ?_) AllReadyH.nil)
  rw [if_pos (by rfl)]
  go_simp
  refine (TM.out wc).mono ?_
  rintro e wc ⟨rfl, hb⟩
  have Bc := Lib.hid (below_on Bc.out hb)
  clear hb
  go_simp
  refine hK.out _ _ (KS.out _ Bc.out) (fun h0_1 => ?_)
  clear hK K h0
  refine wpAnyH_ready (rs := [5]) (by kernel_rfl) (by simp) (AllReadyH.cons rfl (fun K hK => ?_) AllReadyH.nil)
  rw [if_pos (by rfl)]
  obtain ⟨wd, hwd⟩ : ∃ wd, wd = wc.alloc (.cells (g.cs ++ (g.times (-1)).cs) 82) := ⟨_, rfl⟩
  refine wp_bs2 _ _ rfl g (g.times (-1)) rfl rfl GR.out.len TR.out.len ?_
  rw [← hwd]
  have hb : Below wc.heap.size wc wd := by rw [hwd]; exact one_more _
  have YL := Lib.hid (show ∀ j u, (g.cells ++ (g.times (-1)).cells)[j]? = some u → wd.cell? ((⟨wc.heap.size, 0, none⟩ : Addr).add j) = some u by rw [hwd]; exact two_at wc g (g.times (-1)) GR.out.len TR.out.len)
  have Bc := Lib.hid (below_on Bc.out hb)
  clear hb hwd
  try simp only [Act.put, sZ]
  refine hK.out _ _ (KS.out _ Bc.out) (fun h0_2 => ?_)
  clear hK K h0_1
  refine wpAnyH_ready (rs := [6]) (by kernel_rfl) (by simp) (AllReadyH.cons rfl (fun K hK => ?_) AllReadyH.nil)
  rw [if_pos (by rfl)]
  obtain ⟨v2, we, hrun, ho2, hb⟩ := append2_run (RL.out wd (below_on E0.out (below_on B3.out Bc.out))) L6.out GR.out.len TR.out.len YL.out (by have := M1.out; omega) 66
  rw [← LM.out] at hrun
  refine Lib.wp_append_run _ _ _ 66 66 rfl (.slice (some ⟨pb, 0, none⟩) m m) (.slice (some ⟨wc.heap.size, 0, none⟩) 2 2) rfl rfl _ _ hrun ?_
  have O2 := Lib.hid (show OwnL we wd.heap.size v2 l2 by rw [L2.out]; exact ho2)
  have Bc := Lib.hid (below_on Bc.out hb)
  obtain ⟨a2, c2, e2⟩ := O2.out.form
  subst e2
  clear hrun ho2 hb
  try simp only [Act.put, sZ]
  refine hK.out _ _ (KS.out _ Bc.out) (fun h0_3 => ?_)
  clear hK K h0_2
  refine wpAnyH_ready (rs := [7]) (by kernel_rfl) (by simp) (AllReadyH.cons rfl (fun K hK => ?_) AllReadyH.nil)
  rw [if_pos (by rfl)]
  go_simp
  refine (SH.out we a2 c2 O2.out.rd).mono ?_
  rintro e wf (⟨he, b3, cs3, rfl, hs⟩ | ⟨he, rfl, hb⟩)
  rotate_left
  · exact And.intro rfl ⟨below_on E0.out (below_on B3.out (below_on Bc.out hb)), Or.inr (by rw [HE.out, if_pos he]; exact ⟨he, rfl⟩)⟩
  have HZ := Lib.hid he
  obtain ⟨a3, d3, e3, r3⟩ := hs.hi 0 (by omega) (by omega)
  have g3 := Lib.hid ((hs.cell 0).trans e3)
  have R3 := Lib.hid (show RdL wf a3 sh by rw [HSH.out]; simpa using r3)
  have Bc := Lib.hid (below_on Bc.out hs.be)
  have g3 := Lib.hid (show wf.cell? ⟨b3, 0, none⟩ = some (.slice a3 sh.length d3) by rw [HSH.out]; simpa using g3.out)
  clear hs e3 r3 he
  go_simp
  refine hK.out _ _ (KS.out _ Bc.out) (fun h0_4 => ?_)
  clear hK K h0_3
  refine tkH (i := 8) (v := ?v5) rfl (Or.inl ⟨by rfl, ?hy5⟩) h0_4 ?rest5
  case hy5 => (intro w' hS; (try dsimp only at hS); go_simp; try (with_reducible rfl))
  simp only [Act.put, sZ]
  refine wpAnyH_ready (rs := [9]) (by kernel_rfl) (by simp) (AllReadyH.cons rfl (fun K hK => ?_) AllReadyH.nil)
  rw [if_pos (by rfl)]
  go_simp
  have g3o := g3.out
  go_simp
  refine hK.out _ _ (KS.out _ Bc.out) (fun h0_5 => ?_)
  clear hK K h0_4
  refine tkH (i := 10) (v := ?v6) rfl (Or.inl ⟨by rfl, ?hy6⟩) h0_5 ?rest6
  case hy6 => (intro w' hS; (try dsimp only at hS); go_simp; try (with_reducible rfl))
  simp only [Act.put, sA, sB, sC, sD]
  try simp only [sF]
  try simp only [sE]
  refine wpAnyH_done (by kernel_rfl) ?_ _
  have BW := Lib.hid (below_on E0.out (below_on B3.out Bc.out))
  have X1 := Lib.hid (X0.out.kept (below_on B3.out Bc.out))
  obtain ⟨ms, hms⟩ : ∃ ms, ms = sh.length := ⟨_, rfl⟩
  have CE := Lib.hid (EN.out wf a3 d3 HZ.out R3.out)
  rw [← hms] at CE ⊢
  clear hms g3 R3 KS
  go_wp2_with fail
  refine CE.out.mono ?_
  rintro e w5 ⟨hb, (⟨he, rfl⟩ | ⟨he, rfl⟩)⟩
  rotate_left
  · go_wp2_with fail
    exact And.intro rfl ⟨below_on BW.out hb, Or.inr (by rw [HE.out, if_neg (fun q => q HZ.out), if_pos he]; exact ⟨he, rfl⟩)⟩
  have H5 := Lib.hid he
  have BW5 := Lib.hid (below_on BW.out hb)
  have X5 := Lib.hid (X1.out.kept hb)
  obtain ⟨lo, hlo⟩ : ∃ lo, lo = N.1.1 := ⟨_, rfl⟩
  obtain ⟨up, hup⟩ : ∃ up, up = N.1.2 := ⟨_, rfl⟩
  rw [← hlo, ← hup]
  rw [← hlo] at HE
  have HLO := Lib.hid hlo
  clear hb he hup BW X1 hlo
  obtain ⟨w6, hw6⟩ : ∃ w6, w6 = (w5.alloc (.cells #[.int .i64 0, .int .i64 0, .bool false, .bool false] 105)).alloc (.cells #[.int .i64 0, .int .i64 0, .bool false, .bool false] 105) := ⟨_, rfl⟩
  have Y0 := Lib.hid (show EnB w6 w5.heap.size en0 by rw [hw6]; exact (EnB.made w5 en0).kept (one_more _))
  have Y1 := Lib.hid (show EnB w6 (w5.heap.size + 1) en0 by rw [hw6]; have := EnB.made (w5.alloc (.cells #[.int .i64 0, .int .i64 0, .bool false, .bool false] 105)) en0; simpa [en0, En.cs, En.cells] using this)
  have BW6 := Lib.hid (show Below w.heap.size w w6 by rw [hw6]; exact below_on BW5.out (past_two (Below.refl _ _)))
  have X6 := Lib.hid (show EnB w6 w.heap.size en0 by rw [hw6]; exact (X5.out.kept (one_more _)).kept (one_more _))
  have Z5 := Lib.hid (show w.heap.size < w5.heap.size from X5.out.lt)
  have Y2 := Lib.hid (Y0.out.setRow (y := lo))
  have Y3 := Lib.hid (show EnB (w6.setRow w5.heap.size lo.cs) (w5.heap.size + 1) en0 from (setRow_other w6 _ _ lo.cs (by omega)).trans Y1.out)
  have Y4 := Lib.hid (show EnB ((w6.setRow w5.heap.size lo.cs).setRow (w5.heap.size + 1) up.cs) w5.heap.size lo from (setRow_other _ _ _ up.cs (by omega)).trans Y2.out)
  have X7 := Lib.hid (show EnB ((w6.setRow w5.heap.size lo.cs).setRow (w5.heap.size + 1) up.cs) w.heap.size en0 from (setRow_other _ _ _ up.cs (by have := Z5.out; omega)).trans ((setRow_other w6 _ _ lo.cs (by have := Z5.out; omega)).trans X6.out))
  have BW7 := Lib.hid (Below.setRow (Below.setRow BW6.out (b := w5.heap.size) (by have := Z5.out; omega) lo.cs) (b := w5.heap.size + 1) (by have := Z5.out; omega) up.cs)
  go_upto_region 5 with (first | (rw [← hw6]; refine wpList_store_row rfl _ _ _ rfl w5.heap.size lo.cs rfl rfl _ _ Y0.out zero_en rfl (En.one _) ?_) | refine wpList_store_row rfl _ _ _ rfl (w5.heap.size + 1) up.cs rfl rfl _ _ Y3.out zero_en rfl (En.one _) ?_)
  generalize (w6.setRow w5.heap.size lo.cs).setRow (w5.heap.size + 1) up.cs = w7 at *
  obtain ⟨q9, hq9⟩ : ∃ q9, q9 = w5.heap.size := ⟨_, rfl⟩
  rw [← hq9] at Y4 ⊢
  clear Y0 Y1 Y2 Y3 X6 BW6 hw6 hq9 Z5
  obtain ⟨f0, f1, f2, f3⟩ := Y4.out.facts
  cases hex : lo.ex
  · rw [hex] at f2
    go_wp2_with fail
    exact And.intro rfl ⟨BW7.out, Or.inr (by rw [HE.out, if_neg (fun q => q HZ.out), if_neg (fun q => q H5.out), hex]; exact ⟨by decide, rfl⟩)⟩
  · rw [hex] at f2
    have X8 := Lib.hid (X7.out.setRow (y := lo))
    have BW8 := Lib.hid (Below.setRow BW7.out (b := w.heap.size) (Nat.le_refl _) lo.cs)
    go_wp2_with (first | refine wpList_load_row rfl _ _ rfl q9 rfl _ lo.cs (0, 0) _ Y4.out Tryz.underlying105 rfl zero_en ?_ | refine wpList_store_row rfl _ _ _ rfl w.heap.size lo.cs rfl rfl _ _ X7.out zero_en rfl (En.one _) ?_)
    exact bodyPost_ret (results_en Tryz.results82 _ rfl X8.out) rfl ⟨BW8.out, Or.inl ⟨by rw [HE.out, if_neg (fun q => q HZ.out), if_neg (fun q => q H5.out), hex]; rfl, by rw [HLO.out]⟩⟩
end Go.Proofs.YtbhaoaobhgilkaaGreat
