/- A part. -/
import Derived.Test.YtaegiihkgicdnaaGreatWl10
import Derived.Test.YtaegiihkgicdnaaGreatWl38
import Derived.Test.YtaegiihkgicdnaaGreatWl16

namespace Go.Proofs.YtaegiihkgicdnaaGreat
open Go.RowKit

theorem cut_hiZ (w : World) (a : Addr) (n c t : Nat) (ht : t ≤ c) : (Instr.slice 22 (.slice (some a) n c) none (some (.int .i64 (t : Int))) none).run Tryz.prog w = .ok (.slice (some a) t c) w := by
  have he : Tryz.prog.elem 22 = 36 := by simp [Program.elem]
  rw [run_slice_h w _ _ _ _ (by rw [he]; exact Tryz.underlying22) .i64 (t : Int) (by omega) (by omega), he, zon_cells]
  simp only [Result.andThen_ok, sliced, Int.toNat_natCast]
  simp [Addr.add]

theorem cut_loZ (w : World) (a : Addr) (n c t : Nat) (ht : t ≤ n) (hn : n ≤ c) : (Instr.slice 22 (.slice (some a) n c) (some (.int .i64 (t : Int))) none none).run Tryz.prog w = .ok (.slice (some (if c = t then a else a.add (t * 2))) (n - t) (c - t)) w := by
  have he : Tryz.prog.elem 22 = 36 := by simp [Program.elem]
  rw [run_slice_l w _ _ _ _ (by rw [he]; exact Tryz.underlying22) .i64 (t : Int) (by omega) (by omega), he, zon_cells]
  simp only [Result.andThen_ok, sliced, Int.toNat_natCast]
  split <;> simp_all

theorem RdZ.take {B : Nat} {w : World} {go : Option Addr} {L : List ZV} (h : RdZ B w go L) (t : Nat) : RdZ B w go (L.take t) :=
  ⟨fun i hi => by
    obtain ⟨p, e, q⟩ := h.hd i (by simp at hi; omega)
    refine ⟨p, e, ?_⟩
    rw [List.getElem_take]; exact q, fun z hz => h.el z (List.mem_of_mem_take hz)⟩

theorem RdZ.drop {B : Nat} {w : World} {a : Addr} {L : List ZV} (h : RdZ B w (some a) L) (t c : Nat) (hs : a.spot = none) (hc : L.length ≤ c) : RdZ B w (some (if c = t then a else a.add (t * 2))) (L.drop t) := by
  refine ⟨fun i hi => ?_, fun z hz => h.el z (List.mem_of_mem_drop hz)⟩
  simp at hi
  obtain ⟨p, e, q⟩ := h.hd (t + i) (by omega)
  cases e
  rw [if_neg (by omega)]
  refine ⟨_, rfl, ?_⟩
  have e2 : (a.add (t * 2)).add (i * 2) = a.add ((t + i) * 2) := by
    obtain ⟨b, o, sp⟩ := a
    simp at hs
    subst hs
    have A : ∀ o k, (⟨b, o, none⟩ : Addr).add k = ⟨b, o + k, none⟩ := fun o k => by
      by_cases q : k = 0
      · subst q; simp [Addr.add]
      · simp [Addr.add, q]
    rw [A, A, A]
    congr 1
    omega
  unfold HdAt at q ⊢
  rw [e2, List.getElem_drop]
  exact q

theorem own0 (w : World) (B : Nat) : OwnZ w.heap.size B (w.alloc (.cells #[] 36)) (.slice (some ⟨w.heap.size, 0, none⟩) 0 0) [] :=
  ⟨World.ownsRow_made (base := w.heap.size) (e := 36) (size := 2) w #[] 0 (Nat.le_refl _) (Nat.zero_le _) (by simp), fun z h => by simp at h, fun z h => by simp at h⟩

theorem yld_of {o : Oper} {ac : Act} {w : World} (s : Operand) (lo hi : Option Operand) (ho : o.op = .slice 22 s lo hi none) (v vs : Value) (vl vh : Option Value) (hs : ac.eval s = vs) (hl : lo.map ac.eval = vl) (hh : hi.map ac.eval = vh)
    (h : (Instr.sliceAt 22 vs vl vh none).run Tryz.prog w = .ok v w) : (execOp ac.eval o).run Tryz.prog w = .ok (.value v) w := by
  unfold execOp
  simp only [ho, hs, hl, hh, Option.map_none, Sem.run_bind, h, Result.andThen_ok, Sem.run_pure]

theorem cutA {t : TypeId} (w : World) (a : Option Addr) (n c : Nat) (l h : Option Value) (v : Value) (ht : t = 22) (e : (Instr.slice 22 (.slice a n c) l h none).run Tryz.prog w = .ok v w) : (Instr.sliceAt t (.slice a n c) l h none).run Tryz.prog w = .ok v w := by
  have he : Tryz.prog.elem 22 = 36 := by simp [Program.elem]
  subst ht
  rw [run_sliceAt_slice w _ _ _ _ _ (by rw [he]; exact Tryz.underlying22)]; exact e

set_option maxRecDepth 100000 in
set_option maxHeartbeats 8000000 in
theorem rwithout_any (L : List ZV) (a : Addr) (gc i : Nat) (w : World) (hL : RdZ 0 w (some a) L) (hs : a.spot = none) (hi : i < L.length) (hc : L.length ≤ gc) (hl : L.length ≤ 1000000) :
    Calls Tryz.prog 57 #[.slice (some a) L.length gc, .int .i64 i] w (fun e w' => Below w.heap.size w w' ∧ ∃ ao cap, e = .returned (.slice ao (L.length - 1) cap) ∧ OwnZ w.heap.size 0 w' (.slice ao (L.take i ++ L.drop (i + 1)).length cap) (L.take i ++ L.drop (i + 1))) := by
  obtain ⟨n, hn⟩ : ∃ n, n = L.length := ⟨_, rfl⟩
  obtain ⟨a2, ha2⟩ : ∃ a2, a2 = if gc = i + 1 then a else a.add ((i + 1) * 2) := ⟨_, rfl⟩
  have TK := Lib.hid (hL.take i)
  have DR := Lib.hid (show RdZ 0 w (some a2) (L.drop (i + 1)) by rw [ha2]; exact hL.drop (i + 1) gc hs hc)
  have S1 := Lib.hid (fun W => cutA W (some a) n gc none (some (.int .i64 (i : Int))) _ rfl (cut_hiZ W a n gc i (by omega)))
  have S2 := Lib.hid (show ∀ W, (Instr.sliceAt 22 (.slice (some a) n gc) (some (.int .i64 ((i : Int) + 1))) none none).run Tryz.prog W = .ok (.slice (some a2) (n - (i + 1)) (gc - (i + 1))) W from fun W => by
    rw [ha2]
    exact cutA W (some a) n gc (some (.int .i64 ((i : Int) + 1))) none _ rfl (cut_loZ W a n gc (i + 1) (by omega) (by omega)))
  have LT := Lib.hid (show i = (L.take i).length by simp; omega)
  have LD := Lib.hid (show n - (i + 1) = (L.drop (i + 1)).length by simp; omega)
  have nle : n ≤ 1000000 := by omega
  have hin : i < n := by omega
  have FL := Lib.hid (show ∀ z ∈ L, ∀ p, z.a = some p → p.block < w.heap.size from fun z hz p e => ((hL.el z hz).2 p e).2)
  have HNL := Lib.hid hn
  have HWR : IntKind.i64.wrap ((i : Int) + 1) = (i : Int) + 1 := wrap_in _ (by omega) (by omega)
  rw [← hn]
  clear hL hs hi hc hl hn ha2
  go_enter Tryz.func57, Tryz.ntmps57
  go_upto_region 1 with (fail)
  have KS := Lib.hid (show ∀ W, Below w.heap.size w W → (Below w.heap.size w W ∧ True) from fun W h => ⟨h, trivial⟩)
  obtain ⟨wc, hwc⟩ : ∃ wc, wc = w.drew := ⟨_, rfl⟩
  have Bc := Lib.hid (show Below w.heap.size w wc by rw [hwc]; exact (Below.refl _ _).drew)
  refine wp_region_held_drew (S := (fun W => (Below w.heap.size w W ∧ True))) (by kernel_rfl) (by rw [← hwc]; exact KS.out _ Bc.out) (fun h0 => ?_)
  rw [← hwc] at h0 ⊢
  clear hwc
  refine tkH (i := 1) (v := ?v1) rfl (Or.inl ⟨by rfl, ?hy1⟩) h0 ?rest1
  case hy1 => (intro w' hS; (try dsimp only at hS); go_simp; try (with_reducible rfl))
  simp only [Act.put, sZ]
  refine tkH (i := 2) (v := ?v2) rfl (Or.inl ⟨by rfl, ?hy2⟩) h0 ?rest2
  case hy2 => (intro w' hS; (try dsimp only at hS); go_simp; try (with_reducible rfl))
  simp only [Act.put, sZ]
  refine tkH (i := 3) (v := (.slice (some a) i gc)) rfl (Or.inl ⟨by rfl, (fun w' _ => yld_of _ _ _ rfl _ (.slice (some a) n gc) none (some (.int .i64 (i : Int))) (by rfl) (by rfl) (by rfl) (S1.out w'))⟩) h0 ?_
  simp only [Act.put, sZ]
  refine tkH (i := 5) (v := ?v4) rfl (Or.inl ⟨by rfl, ?hy4⟩) h0 ?rest4
  case hy4 => (intro w' hS; (try dsimp only at hS); go_simp; try (with_reducible rfl))
  simp only [Act.put, sZ]
  refine tkH (i := 6) (v := ?v5) rfl (Or.inl ⟨by rfl, ?hy5⟩) h0 ?rest5
  case hy5 => (intro w' hS; (try dsimp only at hS); go_simp; try (with_reducible rfl))
  simp only [Act.put, sZ]
  refine tkH (i := 7) (v := ?v6) rfl (Or.inl ⟨by rfl, ?hy6⟩) h0 ?rest6
  case hy6 => (intro w' hS; (try dsimp only at hS); go_simp; try (with_reducible rfl))
  simp only [Act.put, sZ]
  refine tkH (i := 8) (v := (.slice (some a2) (n - (i + 1)) (gc - (i + 1)))) rfl (Or.inl ⟨by rfl, (fun w' _ => yld_of _ _ _ rfl _ (.slice (some a) n gc) (some (.int .i64 ((i : Int) + 1))) none (by rfl) (by rfl) (by rfl) (S2.out w'))⟩) h0 ?_
  simp only [Act.put, sZ]
  refine wpAnyH_ready (rs := [0]) (by kernel_rfl) (by simp) (AllReadyH.cons rfl (fun K hK => ?_) AllReadyH.nil)
  rw [if_pos (by rfl)]
  go_simp
  have hb := one_more (w1 := wc) (.cells #[] 36)
  have hP := own0 wc 0
  have hz := Bc.out.size
  obtain ⟨b0, hbb⟩ : ∃ b, b = wc.heap.size := ⟨_, rfl⟩
  rw [← hbb] at hP hz
  obtain ⟨wn, hwn⟩ : ∃ wn, wn = wc.alloc (.cells #[] 36) := ⟨_, rfl⟩
  rw [← hwn] at hb hP ⊢
  try rw [← hbb]
  have Bc := Lib.hid (below_on Bc.out hb)
  have PB := Lib.hid hP
  have Zb0 := Lib.hid hz
  clear hb hP hz hbb hwn
  obtain ⟨wc, hwc⟩ : ∃ wc, wc = wn := ⟨_, rfl⟩
  rw [← hwc] at Bc PB ⊢
  clear hwc
  go_simp
  refine hK.out _ _ (KS.out _ Bc.out) (fun h0_1 => ?_)
  clear hK K h0
  refine wpAnyH_ready (rs := [4]) (by kernel_rfl) (by simp) (AllReadyH.cons rfl (fun K hK => ?_) AllReadyH.nil)
  rw [if_pos (by rfl)]
  have b0le : b0 ≤ wc.heap.size := Nat.le_of_lt (PB.out.lt b0 rfl).2
  obtain ⟨v', we, hrun, ho, hg⟩ := appendLZ_run PB.out (TK.out.on Bc.out) (fun e => by cases e) (fun z hz p e r => by have h1 := FL.out z (List.mem_of_mem_take hz) p e; have h2 := (PB.out.lt _ r).1; have := Zb0.out; omega) (by have := HNL.out; simp; omega) b0le 22 (c := gc)
  obtain ⟨a3, c3, e3⟩ := ho.form
  rw [List.nil_append] at ho e3
  rw [← LT.out] at hrun e3
  subst e3
  refine Lib.wp_append_run _ _ _ 22 22 rfl (.slice (some ⟨b0, 0, none⟩) 0 0) (.slice (some a) i gc) rfl rfl _ _ hrun ?_
  have Bc := Lib.hid (Below.grown Bc.out hg Bc.out.size (fun j e => by have := (PB.out.lt j e).1; have := Zb0.out; omega))
  have O1 := Lib.hid ho
  have Z1 := Lib.hid (Nat.le_trans b0le hg.size)
  clear hrun ho hg b0le
  obtain ⟨wc, hwc⟩ : ∃ wc, wc = we := ⟨_, rfl⟩
  rw [← hwc] at Bc O1 Z1 ⊢
  clear hwc
  try simp only [Act.put, sZ]
  refine hK.out _ _ (KS.out _ Bc.out) (fun h0_2 => ?_)
  clear hK K h0_1
  refine wpAnyH_ready (rs := [9]) (by kernel_rfl) (by simp) (AllReadyH.cons rfl (fun K hK => ?_) AllReadyH.nil)
  rw [if_pos (by rfl)]
  obtain ⟨v', we, hrun, ho, hg⟩ := appendLZ_run O1.out (DR.out.on Bc.out) (fun e => by cases e) (fun z hz p e r => by have h1 := FL.out z (List.mem_of_mem_drop hz) p e; have h2 := (O1.out.lt _ r).1; have := Zb0.out; omega) (by have := HNL.out; simp; omega) Z1.out 22 (c := gc - (i + 1))
  rw [← LD.out] at hrun
  obtain ⟨a4, c4, e4⟩ := ho.form
  have O2 := ho
  rw [e4] at O2
  have e5 : v' = .slice a4 (n - 1) c4 := by rw [e4]; congr 1; rw [List.length_append, ← LT.out, ← LD.out]; omega
  subst e5
  refine Lib.wp_append_run _ _ _ 22 22 rfl (.slice a3 i c3) (.slice (some a2) (n - (i + 1)) (gc - (i + 1))) rfl rfl _ _ hrun ?_
  have Bc := Lib.hid (Below.grown Bc.out hg Bc.out.size (fun j e => by have := (O1.out.lt j e).1; have := Zb0.out; omega))
  have O2 := Lib.hid (O2.low (R' := w.heap.size) (B' := 0) Zb0.out (Nat.zero_le _))
  clear hrun ho hg e4
  obtain ⟨wc, hwc⟩ : ∃ wc, wc = we := ⟨_, rfl⟩
  rw [← hwc] at Bc O2 ⊢
  clear hwc
  try simp only [Act.put, sZ]
  refine hK.out _ _ (KS.out _ Bc.out) (fun h0_3 => ?_)
  clear hK K h0_2
  refine tkH (i := 10) (v := ?v8) rfl (Or.inl ⟨by rfl, ?hy8⟩) h0_3 ?rest8
  case hy8 => (intro w' hS; (try dsimp only at hS); go_simp; try (with_reducible rfl))
  simp only [Act.put, sA, sB, sC, sD]
  try simp only [sF]
  try simp only [sE]
  refine wpAnyH_done (by kernel_rfl) ?_ _
  try simp only [Exit.then]
  go_wp2_with fail
  go_ret
  exact ⟨Bc.out, a4, c4, by rw [HNL.out]; rfl, O2.out⟩
end Go.Proofs.YtaegiihkgicdnaaGreat

namespace Go.Proofs.YtaegiihkgicdnaaGreat
open Go.RowKit

def gz (l : List Zp) (k : Nat) : Zp := l.getD k (0, [])

theorem gz_eq {l : List Zp} {k : Nat} (h : k < l.length) : gz l k = l[k] := by simp [gz, h]

def coB (l : List Zp) (i k : Nat) : Bool := decide (k ≠ i) && inR (gz l k).1 (gz l i).1 (gz l k).2 (gz l i).2

def conB (l : List Zp) (i : Nat) : Bool := (List.range l.length).any (coB l i)

theorem conB_yes {l : List Zp} {i k : Nat} (hk : k < l.length) (h : coB l i k = true) : conB l i = true := by
  unfold conB
  rw [List.any_eq_true]
  exact ⟨k, by simpa using hk, h⟩

theorem conB_no {l : List Zp} {i : Nat} (h : ∀ k, k < l.length → coB l i k = false) : conB l i = false := by
  unfold conB
  rw [List.any_eq_false]
  intro k hk
  rw [h k (by simpa using hk)]
  simp

set_option maxRecDepth 100000 in
set_option maxHeartbeats 8000000 in
theorem rcontained_any (L : List ZV) (go : Option Addr) (gc i : Nat) (w : World) (hL : RdZ 0 w go L) (hi : i < L.length) (hl : L.length ≤ 1000000) :
    Calls Tryz.prog 56 #[.slice go L.length gc, .int .i64 i] w (Made (.bool (conB (L.map ZV.p) i)) w) := by
  have RL := Lib.hid hL
  obtain ⟨n, hn⟩ : ∃ n, n = L.length := ⟨_, rfl⟩
  have HN := Lib.hid hn
  have nle : n ≤ 1000000 := by omega
  have hin : i < n := by omega
  rw [← hn]
  obtain ⟨y, hy⟩ : ∃ y, y = L[i] := ⟨_, rfl⟩
  have HY := Lib.hid hy
  obtain ⟨a, ea, h2, h3⟩ := hL.hd i hi
  rw [← hy] at h2 h3
  have YP := Lib.hid (show gz (L.map ZV.p) i = y.p by rw [gz_eq (by simpa using hi), hy]; simp)
  have YZ := Lib.hid (show ZAt 0 w y from hL.el y (by rw [hy]; exact List.getElem_mem _))
  obtain ⟨yl, hyl⟩ : ∃ yl, yl = y.l.length := ⟨_, rfl⟩
  rw [← hyl] at h3
  have HYL := Lib.hid hyl
  have GY := Lib.hid (And.intro h2 h3)
  clear hL hi hl hn hy h2 h3 hyl HY
  subst ea
  go_enter Tryz.func56, Tryz.ntmps56
  go_wp2_with fail
  go_loopw [5] (fun k wr => ∃ t : Nat, k = .int .i64 t ∧ t ≤ n ∧ Hid (Below w.heap.size w wr) ∧ Hid (∀ j, j < t → coB (L.map ZV.p) i j = false)) (fun k _ => n - (intOf k).toNat)
  case atStart => exact ⟨0, rfl, by omega, Lib.hid (Below.refl _ _), Lib.hid (fun j h => by omega)⟩
  case round =>
    generalize wr = wo at *
    obtain ⟨t, rfl, ht, BE, HF⟩ := hrel
    by_cases htn : t < n
    · obtain ⟨x, hx⟩ : ∃ x, x = L[t]'(by have := HN.out; omega) := ⟨_, rfl⟩
      have XP := Lib.hid (show gz (L.map ZV.p) t = x.p by rw [gz_eq (by have := HN.out; simp; omega), hx]; simp)
      have HX := Lib.hid (show ZAt 0 w x from RL.out.el x (by rw [hx]; exact List.getElem_mem _))
      obtain ⟨b, eb, h0, h1⟩ := RL.out.hd t (by have := HN.out; omega)
      have eab : b = a := by injection eb with e; exact e.symm
      subst eab
      rw [← hx] at h0 h1
      obtain ⟨xl, hxl⟩ : ∃ xl, xl = x.l.length := ⟨_, rfl⟩
      rw [← hxl] at h1
      obtain ⟨v, hv⟩ : ∃ v, v = inR x.N y.N x.l y.l := ⟨_, rfl⟩
      obtain ⟨er, her⟩ : ∃ er, er = inE x.N y.N x.l y.l := ⟨_, rfl⟩
      have IN := Lib.hid (show ∀ W, Below w.heap.size w W → Calls Tryz.prog 76 #[.agg #[.int .i64 x.N, .slice x.a xl x.c], .agg #[.int .i64 y.N, .slice y.a yl y.c]] W (Made (.tuple #[.bool v, .int .i64 er]) W) from fun W h => by
        rw [hxl, HYL.out, hv, her]
        exact includes_gen x.N y.N x.l y.l x.a y.a x.c y.c W (HX.out.on h).1 (YZ.out.on h).1)
      have CB := Lib.hid (show coB (L.map ZV.p) i t = (decide (t ≠ i) && v) by unfold coB; rw [XP.out, YP.out, hv]; rfl)
      have HLT := Lib.hid (show t < (L.map ZV.p).length by have := HN.out; simp; omega)
      have GX := Lib.hid (And.intro h0 h1)
      clear hx h0 h1 hxl hv her eb
      go_upto_region 4 with (fail)
      have KS := Lib.hid (show ∀ W, Below wo.heap.size wo W → (W.cell? (b.add (t * 2)) = some (.int .i64 x.N) ∧ W.cell? ⟨(b.add (t * 2)).block, (b.add (t * 2)).off + 1, none⟩ = some (.slice x.a xl x.c) ∧ W.cell? (b.add (i * 2)) = some (.int .i64 y.N) ∧ W.cell? ⟨(b.add (i * 2)).block, (b.add (i * 2)).off + 1, none⟩ = some (.slice y.a yl y.c)) from fun W h => ⟨kept (below_on BE.out h) GX.out.1, kept (below_on BE.out h) GX.out.2, kept (below_on BE.out h) GY.out.1, kept (below_on BE.out h) GY.out.2⟩)
      obtain ⟨wc, hwc⟩ : ∃ wc, wc = wo.drew := ⟨_, rfl⟩
      have Bc := Lib.hid (show Below wo.heap.size wo wc by rw [hwc]; exact (Below.refl _ _).drew)
      refine wp_region_held_drew (S := (fun W => (W.cell? (b.add (t * 2)) = some (.int .i64 x.N) ∧ W.cell? ⟨(b.add (t * 2)).block, (b.add (t * 2)).off + 1, none⟩ = some (.slice x.a xl x.c) ∧ W.cell? (b.add (i * 2)) = some (.int .i64 y.N) ∧ W.cell? ⟨(b.add (i * 2)).block, (b.add (i * 2)).off + 1, none⟩ = some (.slice y.a yl y.c)))) (by kernel_rfl) (by rw [← hwc]; exact KS.out _ Bc.out) (fun h0 => ?_)
      rw [← hwc] at h0 ⊢
      clear hwc
      refine tkH (i := 0) (v := ?v1) rfl (Or.inl ⟨by rfl, ?hy1⟩) h0 ?rest1
      case hy1 => (intro w' hS; (try dsimp only at hS); go_simp; try (with_reducible rfl))
      simp only [Act.put, sA, sB, sD, sE, sF]
      refine tkH (i := 1) (v := ?v2) rfl (Or.inl ⟨by rfl, ?hy2⟩) h0 ?rest2
      case hy2 => (intro w' hS; (try dsimp only at hS); go_simp; try (with_reducible rfl))
      simp only [Act.put, sZ]
      refine tkH (i := 2) (v := ?v3) rfl (Or.inl ⟨by rfl, ?hy3⟩) h0 ?rest3
      case hy3 => (intro w' hS; (try dsimp only at hS); go_simp; try (with_reducible rfl))
      simp only [Act.put, sZ]
      refine tkH (i := 3) (v := ?v4) rfl (Or.inl ⟨by rfl, ?hy4⟩) h0 ?rest4
      case hy4 => (intro w' hS; (try dsimp only at hS); go_simp; try (with_reducible rfl))
      simp only [Act.put, sZ]
      refine tkH (i := 4) (v := ?v5) rfl (Or.inl ⟨by rfl, ?hy5⟩) h0 ?rest5
      case hy5 => (intro w' hS; (try dsimp only at hS); go_simp; try (with_reducible rfl))
      simp only [Act.put, sZ]
      refine tkH (i := 5) (v := ?v6) rfl (Or.inl ⟨by rfl, ?hy6⟩) h0 ?rest6
      case hy6 => (intro w' hS; (try dsimp only at hS); go_simp; try (with_reducible rfl))
      simp only [Act.put, sZ]
      refine tkH (i := 6) (v := ?v7) rfl (Or.inl ⟨by rfl, ?hy7⟩) h0 ?rest7
      case hy7 => (intro w' hS; (try dsimp only at hS); go_simp; try (with_reducible rfl))
      simp only [Act.put, sZ]
      refine tkH (i := 7) (v := ?v8) rfl (Or.inl ⟨by rfl, ?hy8⟩) h0 ?rest8
      case hy8 => (intro w' hS; (try dsimp only at hS); go_simp; try (with_reducible rfl))
      simp only [Act.put, sZ]
      refine wpAnyH_ready (rs := [8]) (by kernel_rfl) (by simp) (AllReadyH.cons rfl (fun K hK => ?_) AllReadyH.nil)
      rw [if_pos (by rfl)]
      go_simp
      refine (IN.out wc (below_on BE.out Bc.out)).mono ?_
      rintro e wd ⟨rfl, hb⟩
      have Bc := Lib.hid (below_on Bc.out hb)
      clear hb
      obtain ⟨wc, hwc⟩ : ∃ wc, wc = wd := ⟨_, rfl⟩
      rw [← hwc] at Bc ⊢
      clear hwc
      go_simp
      refine hK.out _ _ (KS.out _ Bc.out) (fun h0_1 => ?_)
      clear hK K h0
      refine tkH (i := 9) (v := ?v9) rfl (Or.inl ⟨by rfl, ?hy9⟩) h0_1 ?rest9
      case hy9 => (intro w' hS; (try dsimp only at hS); go_simp; try (with_reducible rfl))
      simp only [Act.put, sZ]
      refine tkH (i := 10) (v := ?v10) rfl (Or.inl ⟨by rfl, ?hy10⟩) h0_1 ?rest10
      case hy10 => (intro w' hS; (try dsimp only at hS); go_simp; try (with_reducible rfl))
      simp only [Act.put, sZ]
      refine tkH (i := 11) (v := ?v11) rfl (Or.inl ⟨by rfl, ?hy11⟩) h0_1 ?rest11
      case hy11 => (intro w' hS; (try dsimp only at hS); go_simp; try (with_reducible rfl))
      simp only [Act.put, sZ]
      refine tkH (i := 12) (v := ?v12) rfl (Or.inl ⟨by rfl, ?hy12⟩) h0_1 ?rest12
      case hy12 => (intro w' hS; (try dsimp only at hS); go_simp; try (with_reducible rfl))
      simp only [Act.put, sZ]
      refine tkH (i := 13) (v := ?v13) rfl (Or.inl ⟨by rfl, ?hy13⟩) h0_1 ?rest13
      case hy13 => (intro w' hS; (try dsimp only at hS); go_simp; try (with_reducible rfl))
      simp only [Act.put, sA, sB, sC, sD]
      try simp only [sF]
      try simp only [sE]
      refine wpAnyH_done (by kernel_rfl) ?_ _
      try simp only [Exit.then]
      have BB := Lib.hid (below_on BE.out Bc.out)
      clear Bc KS
      by_cases hti : t = i
      · have q1 : ((t : Int) != (i : Int)) = false := by simp [hti]
        have CF := Lib.hid (show coB (L.map ZV.p) i t = false by rw [CB.out]; simp [hti])
        clear hti
        go_wp2_with fail
        go_roundw
        case rel => exact ⟨t + 1, by go_num, by omega, BB, Lib.hid fun j hj => by
          by_cases e : j = t
          · subst e; exact CF.out
          · exact HF.out j (by omega)⟩
        case measure => simp [intOf]; omega
      · have q1 : ((t : Int) != (i : Int)) = true := by simp; omega
        cases v with
        | false =>
          have CF := Lib.hid (show coB (L.map ZV.p) i t = false by rw [CB.out]; simp)
          clear hti
          go_wp2_with fail
          go_roundw
          case rel => exact ⟨t + 1, by go_num, by omega, BB, Lib.hid fun j hj => by
            by_cases e : j = t
            · subst e; exact CF.out
            · exact HF.out j (by omega)⟩
          case measure => simp [intOf]; omega
        | true =>
          have FE := Lib.hid (show conB (L.map ZV.p) i = true from conB_yes HLT.out (by rw [CB.out]; simp [hti]))
          clear hti
          go_wp2_with fail
          go_ret
          exact ⟨by rw [FE.out]; rfl, BB.out⟩
    · have FE := Lib.hid (show conB (L.map ZV.p) i = false from conB_no fun k hk => HF.out k (by have := HN.out; simp at hk; omega))
      clear HF
      go_wp2_with fail
      go_ret
      exact ⟨by rw [FE.out]; rfl, BE.out⟩
end Go.Proofs.YtaegiihkgicdnaaGreat
