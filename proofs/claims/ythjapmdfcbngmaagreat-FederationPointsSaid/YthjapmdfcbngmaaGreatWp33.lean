/- A part. -/
import Derived.Test.YthjapmdfcbngmaaGreatWp32
import Derived.Test.YthjapmdfcbngmaaGreatWp26
import Derived.Test.YthjapmdfcbngmaaGreatWp11
import Derived.Test.YthjapmdfcbngmaaGreatWp13
import Derived.Test.YthjapmdfcbngmaaGreatWp14
import Derived.Test.YthjapmdfcbngmaaGreatWp31
import Derived.Test.YthjapmdfcbngmaaGreatWp15

namespace Go.Proofs.YthjapmdfcbngmaaGreat
open Go.RowKit

section
variable {R q : Nat} {P N : Nat → Prop} {w : World} {q10 : Nat} {cs : List Con} {dao : Option Addr} {s : Sq} {r : ZV} {A B : World}

variable {z : ZV}

end

end Go.Proofs.YthjapmdfcbngmaaGreat

namespace Go.Proofs.YthjapmdfcbngmaaGreat
open Go.RowKit

end Go.Proofs.YthjapmdfcbngmaaGreat

namespace Go.Proofs.YthjapmdfcbngmaaGreat
open Go.RowKit

theorem ckL_iff {all : List Zp} : ckL all = 0 ↔ ∀ z ∈ all, chkE z.1 z.2 = 0 ∧ z.1 = (all.headD (0, [])).1 := by
  unfold ckL
  constructor
  · intro h
    split at h
    · rename_i q
      rw [List.all_eq_true] at q
      intro z hz
      have := q z hz
      unfold ckZ at this
      simpa using this
    · cases h
  · intro h
    rw [if_pos]
    rw [List.all_eq_true]
    intro z hz
    unfold ckZ
    simpa using h z hz

theorem chkG_short {a b : List Zp} (h : ¬ (2000 < a.length ∨ 2000 < b.length)) : chkG [a, b] = ckL (a ++ b) := by
  unfold chkG; rw [if_neg]
  · simp
  · simpa using h

end Go.Proofs.YthjapmdfcbngmaaGreat

namespace Go.Proofs.YthjapmdfcbngmaaGreat
open Go.RowKit

end Go.Proofs.YthjapmdfcbngmaaGreat

namespace Go.Proofs.YthjapmdfcbngmaaGreat
open Go.RowKit

theorem RdZ.cells {B : Nat} {w : World} {a : Addr} {L : List ZV} (h : RdZ B w (some a) L) : ∀ j u, (zV L)[j]? = some u → w.cell? (a.add j) = some u := h.weak.cells

theorem OwnZ.read2 {R B : Nat} {A : World} {v : Value} {L : List ZV} (h : OwnZ R B A v L) : ∃ ao cap, v = .slice ao L.length cap ∧ RdZ B A ao L ∧ (ao = none → cap = 0) := by
  obtain ⟨ao, cap, e, h1, _⟩ := h.read
  refine ⟨ao, cap, e, h1, fun q => ?_⟩
  subst q
  rcases h.row.2 with ⟨e2, _⟩ | ⟨g, c2, cur, e2, _⟩
  · rw [e] at e2; injection e2
  · rw [e] at e2; injection e2 with e3; cases e3

end Go.Proofs.YthjapmdfcbngmaaGreat

namespace Go.Proofs.YthjapmdfcbngmaaGreat
open Go.RowKit

end Go.Proofs.YthjapmdfcbngmaaGreat

namespace Go.Proofs.YthjapmdfcbngmaaGreat
open Go.RowKit

theorem smB_refl (N : Int) (l : List Int) : smB N N l l = true := by simp [smB]

set_option maxRecDepth 100000 in
set_option maxHeartbeats 16000000 in
theorem rsameLW_any (L M : List ZV) (go ho : Option Addr) (gc hc : Nat) (w : World) (hL : RdW w go L) (hM : RdW w ho M) (hl : L.length ≤ 1000000) (he : L.map ZV.p = M.map ZV.p) (hz : ∀ z ∈ L, z.l.length ≤ 9223372036854775807) :
    Calls Tryz.prog 19 #[.slice go L.length gc, .slice ho M.length hc] w (Made (.bool true) w) := by
  have RL := Lib.hid hL
  have RM := Lib.hid hM
  have HE := Lib.hid he
  have HZ := Lib.hid hz
  have hlm : M.length = L.length := by have := congrArg List.length he; simpa using this.symm
  obtain ⟨n, hn⟩ : ∃ n, n = L.length := ⟨_, rfl⟩
  have HN := Lib.hid hn
  have HM := Lib.hid (show n = M.length by omega)
  have nle : n ≤ 1000000 := by omega
  rw [hlm, ← hn]
  clear hL hM hl hn he hz hlm
  go_enter Tryz.func19, Tryz.ntmps19
  go_wp2_with fail
  go_loopw [5] (fun i wr => ∃ t : Nat, i = .int .i64 t ∧ t ≤ n ∧ Hid (Below w.heap.size w wr)) (fun i _ => n - (intOf i).toNat)
  case atStart => exact ⟨0, rfl, by omega, Lib.hid (Below.refl _ _)⟩
  case round =>
    generalize wr = wo at *
    obtain ⟨t, rfl, ht, BE⟩ := hrel
    by_cases htn : t < n
    · obtain ⟨x, hx⟩ : ∃ x, x = L[t]'(by have := HN.out; omega) := ⟨_, rfl⟩
      obtain ⟨y, hy⟩ : ∃ y, y = M[t]'(by have := HM.out; omega) := ⟨_, rfl⟩
      have XY : x.p = y.p := by
        have h1 : (L.map ZV.p)[t]? = some x.p := by rw [List.getElem?_map, List.getElem?_eq_getElem (by have := HN.out; omega), hx]; rfl
        have h2 : (M.map ZV.p)[t]? = some y.p := by rw [List.getElem?_map, List.getElem?_eq_getElem (by have := HM.out; omega), hy]; rfl
        rw [HE.out, h2] at h1
        injection h1 with h1
        exact h1.symm
      have hxm : x ∈ L := by rw [hx]; exact List.getElem_mem _
      have HX := Lib.hid (show ZW wo x from (RL.out.el x hxm).on BE.out)
      have HY := Lib.hid (show ZW wo y from (RM.out.el y (by rw [hy]; exact List.getElem_mem _)).on BE.out)
      obtain ⟨a, ea, h0, h1⟩ := (RL.out.on BE.out).hd t (by have := HN.out; omega)
      obtain ⟨b, eb, h2, h3⟩ := (RM.out.on BE.out).hd t (by have := HM.out; omega)
      rw [← hx] at h0 h1
      rw [← hy] at h2 h3
      obtain ⟨xl, hxl⟩ : ∃ xl, xl = x.l.length := ⟨_, rfl⟩
      obtain ⟨yl, hyl⟩ : ∃ yl, yl = y.l.length := ⟨_, rfl⟩
      rw [← hxl] at h1
      rw [← hyl] at h3
      have SM := Lib.hid (show ∀ W, Below wo.heap.size wo W → Calls Tryz.prog 37 #[.agg #[.int .i64 x.N, .slice x.a xl x.c], .agg #[.int .i64 y.N, .slice y.a yl y.c]] W (Made (.bool true) W) from fun W h => by
        have := same_any x.N y.N x.l y.l x.a y.a x.c y.c W (HX.out.on h).1 (HY.out.on h).1 (HZ.out x hxm)
        have e1 : x.N = y.N := congrArg Prod.fst XY
        have e2 : x.l = y.l := congrArg Prod.snd XY
        rw [show smB x.N y.N x.l y.l = true by rw [e1, e2]; exact smB_refl _ _] at this
        rw [hxl, hyl]; exact this)
      have G := Lib.hid (And.intro h0 (And.intro h1 (And.intro h2 h3)))
      clear hx hy hxl hyl h0 h1 h2 h3 XY hxm
      subst ea
      subst eb
      go_upto_region 6 with (fail)
      have KS := Lib.hid (show ∀ W, Below wo.heap.size wo W → (W.cell? (a.add (t * 2)) = some (.int .i64 x.N) ∧ W.cell? ⟨(a.add (t * 2)).block, (a.add (t * 2)).off + 1, none⟩ = some (.slice x.a xl x.c) ∧ W.cell? (b.add (t * 2)) = some (.int .i64 y.N) ∧ W.cell? ⟨(b.add (t * 2)).block, (b.add (t * 2)).off + 1, none⟩ = some (.slice y.a yl y.c)) from fun W h => ⟨kept h G.out.1, kept h G.out.2.1, kept h G.out.2.2.1, kept h G.out.2.2.2⟩)
      obtain ⟨wc, hwc⟩ : ∃ wc, wc = wo.drew := ⟨_, rfl⟩
      have Bc := Lib.hid (show Below wo.heap.size wo wc by rw [hwc]; exact (Below.refl _ _).drew)
      refine wp_region_held_drew (S := (fun W => (W.cell? (a.add (t * 2)) = some (.int .i64 x.N) ∧ W.cell? ⟨(a.add (t * 2)).block, (a.add (t * 2)).off + 1, none⟩ = some (.slice x.a xl x.c) ∧ W.cell? (b.add (t * 2)) = some (.int .i64 y.N) ∧ W.cell? ⟨(b.add (t * 2)).block, (b.add (t * 2)).off + 1, none⟩ = some (.slice y.a yl y.c)))) (by kernel_rfl) (by rw [← hwc]; exact KS.out _ Bc.out) (fun h0 => ?_)
      rw [← hwc] at h0 ⊢
      clear hwc
      refine tkH (i := 0) (v := ?v1) rfl (Or.inl ⟨by rfl, ?hy1⟩) h0 ?rest1
      case hy1 => (intro w' hS; (try dsimp only at hS); go_simp; try (with_reducible rfl))
      simp only [Act.put, sA, sB, sD, sE, sF]
      refine tkH (i := 1) (v := ?v2) rfl (Or.inl ⟨by rfl, ?hy2⟩) h0 ?rest2
      case hy2 => (intro w' hS; (try dsimp only at hS); go_simp; try (with_reducible rfl))
      simp only [Act.put, sZ]
      refine tkH (i := 2) (v := ?v3) rfl (Or.inl ⟨by rfl, ?hy3⟩) h0 ?rest3
      case hy3 => (intro w' hS; (try dsimp only at hS); go_simp; try (with_reducible rfl))
      simp only [Act.put, sZ]
      refine tkH (i := 3) (v := ?v4) rfl (Or.inl ⟨by rfl, ?hy4⟩) h0 ?rest4
      case hy4 => (intro w' hS; (try dsimp only at hS); go_simp; try (with_reducible rfl))
      simp only [Act.put, sZ]
      refine tkH (i := 4) (v := ?v5) rfl (Or.inl ⟨by rfl, ?hy5⟩) h0 ?rest5
      case hy5 => (intro w' hS; (try dsimp only at hS); go_simp; try (with_reducible rfl))
      simp only [Act.put, sZ]
      refine tkH (i := 5) (v := ?v6) rfl (Or.inl ⟨by rfl, ?hy6⟩) h0 ?rest6
      case hy6 => (intro w' hS; (try dsimp only at hS); go_simp; try (with_reducible rfl))
      simp only [Act.put, sZ]
      refine tkH (i := 6) (v := ?v7) rfl (Or.inl ⟨by rfl, ?hy7⟩) h0 ?rest7
      case hy7 => (intro w' hS; (try dsimp only at hS); go_simp; try (with_reducible rfl))
      simp only [Act.put, sZ]
      refine tkH (i := 7) (v := ?v8) rfl (Or.inl ⟨by rfl, ?hy8⟩) h0 ?rest8
      case hy8 => (intro w' hS; (try dsimp only at hS); go_simp; try (with_reducible rfl))
      simp only [Act.put, sZ]
      refine wpAnyH_ready (rs := [8]) (by kernel_rfl) (by simp) (AllReadyH.cons rfl (fun K hK => ?_) AllReadyH.nil)
      rw [if_pos (by rfl)]
      go_simp
      refine (SM.out wc Bc.out).mono ?_
      rintro e wd ⟨rfl, hb⟩
      have Bc := Lib.hid (below_on Bc.out hb)
      clear hb
      obtain ⟨wc, hwc⟩ : ∃ wc, wc = wd := ⟨_, rfl⟩
      rw [← hwc] at Bc ⊢
      clear hwc
      go_simp
      refine hK.out _ _ (KS.out _ Bc.out) (fun h0_1 => ?_)
      clear hK K h0
      refine tkH (i := 9) (v := ?v9) rfl (Or.inl ⟨by rfl, ?hy9⟩) h0_1 ?rest9
      case hy9 => (intro w' hS; (try dsimp only at hS); go_simp; try (with_reducible rfl))
      simp only [Act.put, sA, sB, sC, sD]
      try simp only [sF]
      try simp only [sE]
      refine wpAnyH_done (by kernel_rfl) ?_ _
      try simp only [Exit.then]
      have BB := Lib.hid (below_on BE.out Bc.out)
      clear Bc KS
      go_wp2_with fail
      go_roundw
      case rel => exact ⟨t + 1, by go_num, by omega, BB⟩
      case measure => simp [intOf]; omega
    · go_wp2_with fail
      go_ret
      exact ⟨rfl, BE.out⟩

theorem rsameL_any (L M : List ZV) (go ho : Option Addr) (gc hc : Nat) (w : World) (hL : RdZ 0 w go L) (hM : RdZ 0 w ho M) (hl : L.length ≤ 1000000) (he : L.map ZV.p = M.map ZV.p) (hz : ∀ z ∈ L, z.l.length ≤ 9223372036854775807) :
    Calls Tryz.prog 19 #[.slice go L.length gc, .slice ho M.length hc] w (Made (.bool true) w) := rsameLW_any L M go ho gc hc w hL.weak hM.weak hl he hz
end Go.Proofs.YthjapmdfcbngmaaGreat

namespace Go.Proofs.YthjapmdfcbngmaaGreat
open Go.RowKit

theorem OwnZ.rd {R B : Nat} {A : World} {ao : Option Addr} {cap : Nat} {L : List ZV} (h : OwnZ R B A (.slice ao L.length cap) L) : RdZ B A ao L ∧ (ao = none → cap = 0) := by
  obtain ⟨a2, c2, e, h1, h2⟩ := h.read2
  injection e with e1 _ e2
  subst e1 e2
  exact ⟨h1, h2⟩

theorem appendLZ_run {R B : Nat} {w : World} {v : Value} {L M : List ZV} (hown : OwnZ R B w v L) {ao : Option Addr} {c : Nat} (hM : RdZ B w ao M) (hn : ao = none → c = 0) (hF : ∀ z ∈ M, ∀ p, z.a = some p → v.ownBlock ≠ some p.block)
    (hle : L.length + M.length ≤ 4000000) (hB : R ≤ w.heap.size) (ty : TypeId) :
    ∃ v' w', (Builtin.append_ #[22, 22] ty #[v, .slice ao M.length c]).run Tryz.prog w = .ok v' w' ∧ OwnZ R B w' v' (L ++ M) ∧ w.grownBy w' v.ownBlock := by
  obtain ⟨i0, hi, hz0, hz1, hz2⟩ := info_parts zone_info
  cases ao with
  | none =>
    have c0 : c = 0 := hn rfl
    have M0 : M = [] := by
      cases M with
      | nil => rfl
      | cons x r =>
        obtain ⟨p, e2, _⟩ := hM.hd 0 (by simp)
        cases e2
    subst c0 M0
    exact ⟨v, w, run_append_owned_none (P := Tryz.prog) w R 22 ty 36 i0 2 Tryz.underlying22 hi _ _ _ hown.row, by rw [List.append_nil]; exact hown, ⟨rfl, rfl, rfl, Nat.le_refl _, fun _ _ _ => rfl⟩⟩
  | some a =>
    obtain ⟨v', w', hr, h2, h3, _, h5⟩ := run_append_own_at (P := Tryz.prog) w R 22 ty 36 i0 (.agg #[.int .i64 0, .slice none 0 0]) 2 32 Tryz.underlying22 hi hz0 hz1 hz2 (by rfl) (by decide) v L.length _ hown.row a M.length c (zV M)
      (zV_len M) (RdZ.cells hM) (zV_one M) (by unfold maxLen; omega) (by omega) hB
    have hA : ∀ x ∈ L ++ M, ZAt B w x ∧ ∀ p, x.a = some p → v.ownBlock ≠ some p.block := fun x hx => by
      rcases List.mem_append.1 hx with q | q
      · exact ⟨hown.el x q, hown.far x q⟩
      · exact ⟨hM.el x q, hF x q⟩
    refine ⟨v', w', hr, ⟨?_, fun x hx => (hA x hx).1.grown h3 (hA x hx).2, fun x hx p e => ?_⟩, h3⟩
    · rw [zV_appd, List.length_append]; exact h2
    · rcases h5 with h5 | h5
      · rw [h5]; exact (hA x hx).2 p e
      · rw [h5]; intro q; injection q with q; have := ((hA x hx).1.2 p e).2; omega
end Go.Proofs.YthjapmdfcbngmaaGreat

namespace Go.Proofs.YthjapmdfcbngmaaGreat
open Go.RowKit

def thE (r : List Zp × Int) (k : List Zp → List Zp × Int) : List Zp × Int := if r.2 = 0 then k r.1 else ([], r.2)

theorem thE_ok {r : List Zp × Int} {k : List Zp → List Zp × Int} (h : r.2 = 0) : thE r k = k r.1 := if_pos h

theorem thE_no {r : List Zp × Int} {k : List Zp → List Zp × Int} (h : r.2 ≠ 0) : thE r k = ([], r.2) := if_neg h

theorem one_lit {B : Nat} (z : ZV) (w : World) (hz : ZAt B w z) : OwnZ w.heap.size B (w.alloc (.cells #[.int .i64 z.N, .slice z.a z.l.length z.c] 36)) (.slice (some ⟨w.heap.size, 0, none⟩) 1 1) [z] := by
  have hb : Below w.heap.size w (w.alloc (.cells #[.int .i64 z.N, .slice z.a z.l.length z.c] 36)) := one_more _
  refine ⟨?_, fun y hy => ?_, fun y hy p e q => ?_⟩
  · have := World.ownsRow_lit (base := w.heap.size) (e := 36) (size := 2) w #[.int .i64 z.N, .slice z.a z.l.length z.c] 1 (by simp) (by unfold maxLen; omega) (by simp)
    simpa [zV, ZV.cs] using this
  · rw [List.mem_singleton] at hy; subst hy; exact hz.on hb
  · rw [List.mem_singleton] at hy; subst hy
    have := (hz.2 p e).2
    simp [Value.ownBlock] at q
    omega

end Go.Proofs.YthjapmdfcbngmaaGreat

namespace Go.Proofs.YthjapmdfcbngmaaGreat
open Go.RowKit

end Go.Proofs.YthjapmdfcbngmaaGreat

namespace Go.Proofs.YthjapmdfcbngmaaGreat
open Go.RowKit

end Go.Proofs.YthjapmdfcbngmaaGreat

namespace Go.Proofs.YthjapmdfcbngmaaGreat
open Go.RowKit

end Go.Proofs.YthjapmdfcbngmaaGreat

namespace Go.Proofs.YthjapmdfcbngmaaGreat
open Go.RowKit

def gz (l : List Zp) (k : Nat) : Zp := l.getD k (0, [])

theorem gz_eq {l : List Zp} {k : Nat} (h : k < l.length) : gz l k = l[k] := by simp [gz, h]

def coB (l : List Zp) (i k : Nat) : Bool := decide (k ≠ i) && inR (gz l k).1 (gz l i).1 (gz l k).2 (gz l i).2

def conB (l : List Zp) (i : Nat) : Bool := (List.range l.length).any (coB l i)

theorem conB_yes {l : List Zp} {i k : Nat} (hk : k < l.length) (h : coB l i k = true) : conB l i = true := by
  unfold conB
  rw [List.any_eq_true]
  exact ⟨k, by simpa using hk, h⟩

theorem conB_no {l : List Zp} {i : Nat} (h : ∀ k, k < l.length → coB l i k = false) : conB l i = false := by
  unfold conB
  rw [List.any_eq_false]
  intro k hk
  rw [h k (by simpa using hk)]
  simp

end Go.Proofs.YthjapmdfcbngmaaGreat

namespace Go.Proofs.YthjapmdfcbngmaaGreat
open Go.RowKit

theorem mustB_ok (b : Bool) (w : World) : Calls Tryz.prog 73 #[.bool b, .int .i64 0] w (Made (.bool b) w) := by
  refine (mustB_any b 0 w).mono ?_
  rintro e w' ⟨hb, (⟨_, rfl⟩ | ⟨h, _⟩)⟩
  · exact ⟨rfl, hb⟩
  · exact absurd rfl h

set_option maxRecDepth 100000 in
set_option maxHeartbeats 8000000 in
theorem isPart_any (L : List ZV) (go : Option Addr) (gc i : Nat) (w : World) (hL : RdZ 0 w go L) (hi : i < L.length) (hl : L.length ≤ 1000000) (hie : ∀ x ∈ L, ∀ y ∈ L, inE x.N y.N x.l y.l = 0) :
    Calls Tryz.prog 104 #[.slice go L.length gc, .int .i64 i] w (Made (.bool (conB (L.map ZV.p) i)) w) := by
  have RL := Lib.hid hL
  have IE := Lib.hid hie
  obtain ⟨n, hn⟩ : ∃ n, n = L.length := ⟨_, rfl⟩
  have HN := Lib.hid hn
  have nle : n ≤ 1000000 := by omega
  have hin : i < n := by omega
  rw [← hn]
  obtain ⟨y, hy⟩ : ∃ y, y = L[i] := ⟨_, rfl⟩
  have YM := Lib.hid (show y ∈ L by rw [hy]; exact List.getElem_mem _)
  obtain ⟨a, ea, h2, h3⟩ := hL.hd i hi
  rw [← hy] at h2 h3
  have YP := Lib.hid (show gz (L.map ZV.p) i = y.p by rw [gz_eq (by simpa using hi), hy]; simp)
  have YZ := Lib.hid (show ZAt 0 w y from hL.el y YM.out)
  obtain ⟨yl, hyl⟩ : ∃ yl, yl = y.l.length := ⟨_, rfl⟩
  rw [← hyl] at h3
  have HYL := Lib.hid hyl
  have GY := Lib.hid (And.intro h2 h3)
  clear hL hi hl hn hy h2 h3 hyl hie
  subst ea
  go_enter Tryz.func104, Tryz.ntmps104
  go_wp2_with fail
  go_loopw [9] (fun k wr => ∃ t : Nat, k = .int .i64 t ∧ t ≤ n ∧ Hid (Below w.heap.size w wr) ∧ Hid (∀ j, j < t → coB (L.map ZV.p) i j = false)) (fun k _ => n - (intOf k).toNat)
  case atStart => exact ⟨0, rfl, by omega, Lib.hid (Below.refl _ _), Lib.hid (fun j h => by omega)⟩
  case round =>
    generalize wr = wo at *
    obtain ⟨t, rfl, ht, BE, HF⟩ := hrel
    by_cases htn : t < n
    · obtain ⟨x, hx⟩ : ∃ x, x = L[t]'(by have := HN.out; omega) := ⟨_, rfl⟩
      have XM := Lib.hid (show x ∈ L by rw [hx]; exact List.getElem_mem _)
      have XP := Lib.hid (show gz (L.map ZV.p) t = x.p by rw [gz_eq (by have := HN.out; simp; omega), hx]; simp)
      have HX := Lib.hid (show ZAt 0 w x from RL.out.el x XM.out)
      obtain ⟨b, eb, h0, h1⟩ := (RL.out.on BE.out).hd t (by have := HN.out; omega)
      have eab : b = a := by injection eb with e; exact e.symm
      subst eab
      rw [← hx] at h0 h1
      obtain ⟨xl, hxl⟩ : ∃ xl, xl = x.l.length := ⟨_, rfl⟩
      rw [← hxl] at h1
      obtain ⟨v, hv⟩ : ∃ v, v = inR x.N y.N x.l y.l := ⟨_, rfl⟩
      have IN := Lib.hid (show ∀ W, Below w.heap.size w W → Calls Tryz.prog 143 #[.agg #[.int .i64 x.N, .slice x.a xl x.c], .agg #[.int .i64 y.N, .slice y.a yl y.c]] W (Made (.tuple #[.bool v, .int .i64 0]) W) from fun W h => by
        have := zinc_gen x.N y.N x.l y.l x.a y.a x.c y.c W (HX.out.on h).1 (YZ.out.on h).1
        rw [IE.out x XM.out y YM.out] at this
        rw [hxl, HYL.out, hv]
        exact this)
      have CB := Lib.hid (show coB (L.map ZV.p) i t = (decide (t ≠ i) && v) by unfold coB; rw [XP.out, YP.out, hv]; rfl)
      have HLT := Lib.hid (show t < (L.map ZV.p).length by have := HN.out; simp; omega)
      obtain ⟨w2, hw2⟩ : ∃ w2, w2 = wo.alloc (.cells #[.int .i64 x.N, .slice x.a xl x.c] 36) := ⟨_, rfl⟩
      have B2 := Lib.hid (below_on BE.out (show Below wo.heap.size wo w2 by rw [hw2]; exact one_more _))
      have X2 := Lib.hid (show Bx2 w2 wo.heap.size (.int .i64 x.N) (.slice x.a xl x.c) 36 by rw [hw2]; exact Bx2.made wo _ _ _)
      clear hx hxl hv eb
      go_upto_region 4 with (fail)
      rw [← hw2]
      clear hw2 h0 h1
      generalize wo.heap.size = q at X2 ⊢
      by_cases hti : t = i
      · have q1 : ((t : Int) != (i : Int)) = false := by simp [hti]
        have CF := Lib.hid (show coB (L.map ZV.p) i t = false by rw [CB.out]; simp [hti])
        clear hti
        have KS := Lib.hid (show ∀ W, Below w2.heap.size w2 W → (W.cell? ⟨q, 0, none⟩ = some (.int .i64 x.N) ∧ W.cell? ⟨q, 1, none⟩ = some (.slice x.a xl x.c) ∧ W.cell? (b.add (i * 2)) = some (.int .i64 y.N) ∧ W.cell? ⟨(b.add (i * 2)).block, (b.add (i * 2)).off + 1, none⟩ = some (.slice y.a yl y.c)) from fun W h => ⟨(X2.out.kept h).facts.1, (X2.out.kept h).facts.2.1, kept (below_on B2.out h) GY.out.1, kept (below_on B2.out h) GY.out.2⟩)
        obtain ⟨wc, hwc⟩ : ∃ wc, wc = w2.drew := ⟨_, rfl⟩
        have Bc := Lib.hid (show Below w2.heap.size w2 wc by rw [hwc]; exact (Below.refl _ _).drew)
        refine wp_region_held_drew (S := (fun W => (W.cell? ⟨q, 0, none⟩ = some (.int .i64 x.N) ∧ W.cell? ⟨q, 1, none⟩ = some (.slice x.a xl x.c) ∧ W.cell? (b.add (i * 2)) = some (.int .i64 y.N) ∧ W.cell? ⟨(b.add (i * 2)).block, (b.add (i * 2)).off + 1, none⟩ = some (.slice y.a yl y.c)))) (by kernel_rfl) (by rw [← hwc]; exact KS.out _ Bc.out) (fun h0 => ?_)
        rw [← hwc] at h0 ⊢
        clear hwc
        refine tkH (i := 0) (v := ?v1) rfl (Or.inl ⟨by rfl, ?hy1⟩) h0 ?rest1
        case hy1 => (intro w' hS; (try dsimp only at hS); go_simp; try (with_reducible rfl))
        simp only [Act.put, sA, sB, sD, sE, sF]
        refine tkH (i := 1) (v := ?v2) rfl (Or.inl ⟨by rfl, ?hy2⟩) h0 ?rest2
        case hy2 => (intro w' hS; (try dsimp only at hS); go_simp; try (with_reducible rfl))
        simp only [Act.put, sZ]
        refine tkH (i := 2) (v := ?v3) rfl (Or.inl ⟨by rfl, ?hy3⟩) h0 ?rest3
        case hy3 => (intro w' hS; (try dsimp only at hS); go_simp; try (with_reducible rfl))
        simp only [Act.put, sZ]
        refine tkH (i := 3) (v := ?v4) rfl (Or.inl ⟨by rfl, ?hy4⟩) h0 ?rest4
        case hy4 => (intro w' hS; (try dsimp only at hS); go_simp; try (with_reducible rfl))
        simp only [Act.put, sZ]
        refine tkH (i := 4) (v := undef) rfl (Or.inr ⟨by rfl, rfl⟩) h0 ?_
        simp only [Act.put, sZ]
        refine tkH (i := 5) (v := undef) rfl (Or.inr ⟨by rfl, rfl⟩) h0 ?_
        simp only [Act.put, sZ]
        refine tkH (i := 6) (v := undef) rfl (Or.inr ⟨by rfl, rfl⟩) h0 ?_
        simp only [Act.put, sZ]
        refine tkH (i := 7) (v := undef) rfl (Or.inr ⟨by rfl, rfl⟩) h0 ?_
        simp only [Act.put, sZ]
        refine tkH (i := 8) (v := undef) rfl (Or.inr ⟨by rfl, rfl⟩) h0 ?_
        simp only [Act.put, sZ]
        refine tkH (i := 9) (v := undef) rfl (Or.inr ⟨by rfl, rfl⟩) h0 ?_
        simp only [Act.put, sZ]
        refine tkH (i := 10) (v := undef) rfl (Or.inr ⟨by rfl, rfl⟩) h0 ?_
        simp only [Act.put, sZ]
        refine tkH (i := 11) (v := undef) rfl (Or.inr ⟨by rfl, rfl⟩) h0 ?_
        simp only [Act.put, sZ]
        refine tkH (i := 12) (v := undef) rfl (Or.inr ⟨by rfl, rfl⟩) h0 ?_
        simp only [Act.put, sZ]
        refine tkH (i := 13) (v := ?v14) rfl (Or.inl ⟨by rfl, ?hy14⟩) h0 ?rest14
        case hy14 => (intro w' hS; (try dsimp only at hS); go_simp; try (with_reducible rfl))
        simp only [Act.put, sA, sB, sC, sD]
        try simp only [sF]
        try simp only [sE]
        refine wpAnyH_done (by kernel_rfl) ?_ _
        try simp only [Exit.then]
        have BB := Lib.hid (below_on B2.out Bc.out)
        clear Bc KS
        go_wp2_with fail
        go_roundw
        case rel => exact ⟨t + 1, by go_num, by omega, BB, Lib.hid fun j hj => by
          by_cases e : j = t
          · subst e; exact CF.out
          · exact HF.out j (by omega)⟩
        case measure => simp [intOf]; omega
      · have q1 : ((t : Int) != (i : Int)) = true := by simp; omega
        have HTI := Lib.hid hti
        clear hti
        have KS := Lib.hid (show ∀ W, Below w2.heap.size w2 W → (W.cell? ⟨q, 0, none⟩ = some (.int .i64 x.N) ∧ W.cell? ⟨q, 1, none⟩ = some (.slice x.a xl x.c) ∧ W.cell? (b.add (i * 2)) = some (.int .i64 y.N) ∧ W.cell? ⟨(b.add (i * 2)).block, (b.add (i * 2)).off + 1, none⟩ = some (.slice y.a yl y.c)) from fun W h => ⟨(X2.out.kept h).facts.1, (X2.out.kept h).facts.2.1, kept (below_on B2.out h) GY.out.1, kept (below_on B2.out h) GY.out.2⟩)
        obtain ⟨wc, hwc⟩ : ∃ wc, wc = w2.drew := ⟨_, rfl⟩
        have Bc := Lib.hid (show Below w2.heap.size w2 wc by rw [hwc]; exact (Below.refl _ _).drew)
        refine wp_region_held_drew (S := (fun W => (W.cell? ⟨q, 0, none⟩ = some (.int .i64 x.N) ∧ W.cell? ⟨q, 1, none⟩ = some (.slice x.a xl x.c) ∧ W.cell? (b.add (i * 2)) = some (.int .i64 y.N) ∧ W.cell? ⟨(b.add (i * 2)).block, (b.add (i * 2)).off + 1, none⟩ = some (.slice y.a yl y.c)))) (by kernel_rfl) (by rw [← hwc]; exact KS.out _ Bc.out) (fun h0 => ?_)
        rw [← hwc] at h0 ⊢
        clear hwc
        refine tkH (i := 0) (v := ?v15) rfl (Or.inl ⟨by rfl, ?hy15⟩) h0 ?rest15
        case hy15 => (intro w' hS; (try dsimp only at hS); go_simp; try (with_reducible rfl))
        simp only [Act.put, sA, sB, sD, sE, sF]
        refine tkH (i := 1) (v := ?v16) rfl (Or.inl ⟨by rfl, ?hy16⟩) h0 ?rest16
        case hy16 => (intro w' hS; (try dsimp only at hS); go_simp; try (with_reducible rfl))
        simp only [Act.put, sZ]
        refine tkH (i := 2) (v := ?v17) rfl (Or.inl ⟨by rfl, ?hy17⟩) h0 ?rest17
        case hy17 => (intro w' hS; (try dsimp only at hS); go_simp; try (with_reducible rfl))
        simp only [Act.put, sZ]
        refine tkH (i := 3) (v := ?v18) rfl (Or.inl ⟨by rfl, ?hy18⟩) h0 ?rest18
        case hy18 => (intro w' hS; (try dsimp only at hS); go_simp; try (with_reducible rfl))
        simp only [Act.put, sZ]
        refine tkH (i := 4) (v := ?v19) rfl (Or.inl ⟨by rfl, ?hy19⟩) h0 ?rest19
        case hy19 => (intro w' hS; (try dsimp only at hS); go_simp; try (with_reducible rfl))
        simp only [Act.put, sZ]
        refine tkH (i := 5) (v := ?v20) rfl (Or.inl ⟨by rfl, ?hy20⟩) h0 ?rest20
        case hy20 => (intro w' hS; (try dsimp only at hS); go_simp; try (with_reducible rfl))
        simp only [Act.put, sZ]
        refine tkH (i := 6) (v := ?v21) rfl (Or.inl ⟨by rfl, ?hy21⟩) h0 ?rest21
        case hy21 => (intro w' hS; (try dsimp only at hS); go_simp; try (with_reducible rfl))
        simp only [Act.put, sZ]
        refine tkH (i := 7) (v := ?v22) rfl (Or.inl ⟨by rfl, ?hy22⟩) h0 ?rest22
        case hy22 => (intro w' hS; (try dsimp only at hS); go_simp; try (with_reducible rfl))
        simp only [Act.put, sZ]
        refine tkH (i := 8) (v := ?v23) rfl (Or.inl ⟨by rfl, ?hy23⟩) h0 ?rest23
        case hy23 => (intro w' hS; (try dsimp only at hS); go_simp; try (with_reducible rfl))
        simp only [Act.put, sZ]
        refine wpAnyH_ready (rs := [9]) (by kernel_rfl) (by simp) (AllReadyH.cons rfl (fun K hK => ?_) AllReadyH.nil)
        rw [if_pos (by rfl)]
        go_simp
        refine (IN.out wc (below_on B2.out Bc.out)).mono ?_
        rintro e wd ⟨rfl, hb⟩
        have Bc := Lib.hid (below_on Bc.out hb)
        clear hb
        obtain ⟨wc, hwc⟩ : ∃ wc, wc = wd := ⟨_, rfl⟩
        rw [← hwc] at Bc ⊢
        clear hwc
        go_simp
        refine hK.out _ _ (KS.out _ Bc.out) (fun h0_1 => ?_)
        clear hK K h0
        refine tkH (i := 10) (v := ?v24) rfl (Or.inl ⟨by rfl, ?hy24⟩) h0_1 ?rest24
        case hy24 => (intro w' hS; (try dsimp only at hS); go_simp; try (with_reducible rfl))
        simp only [Act.put, sZ]
        refine tkH (i := 11) (v := ?v25) rfl (Or.inl ⟨by rfl, ?hy25⟩) h0_1 ?rest25
        case hy25 => (intro w' hS; (try dsimp only at hS); go_simp; try (with_reducible rfl))
        simp only [Act.put, sZ]
        refine wpAnyH_ready (rs := [12]) (by kernel_rfl) (by simp) (AllReadyH.cons rfl (fun K hK => ?_) AllReadyH.nil)
        rw [if_pos (by rfl)]
        go_simp
        refine (mustB_ok v wc).mono ?_
        rintro e wd ⟨rfl, hb⟩
        have Bc := Lib.hid (below_on Bc.out hb)
        clear hb
        obtain ⟨wc, hwc⟩ : ∃ wc, wc = wd := ⟨_, rfl⟩
        rw [← hwc] at Bc ⊢
        clear hwc
        go_simp
        refine hK.out _ _ (KS.out _ Bc.out) (fun h0_2 => ?_)
        clear hK K h0_1
        refine tkH (i := 13) (v := ?v26) rfl (Or.inl ⟨by rfl, ?hy26⟩) h0_2 ?rest26
        case hy26 => (intro w' hS; (try dsimp only at hS); go_simp; try (with_reducible rfl))
        simp only [Act.put, sA, sB, sC, sD]
        try simp only [sF]
        try simp only [sE]
        refine wpAnyH_done (by kernel_rfl) ?_ _
        try simp only [Exit.then]
        have BB := Lib.hid (below_on B2.out Bc.out)
        clear Bc KS
        cases v with
        | false =>
          have CF := Lib.hid (show coB (L.map ZV.p) i t = false by rw [CB.out]; simp)
          go_wp2_with fail
          go_roundw
          case rel => exact ⟨t + 1, by go_num, by omega, BB, Lib.hid fun j hj => by
            by_cases e : j = t
            · subst e; exact CF.out
            · exact HF.out j (by omega)⟩
          case measure => simp [intOf]; omega
        | true =>
          have FE := Lib.hid (show conB (L.map ZV.p) i = true from conB_yes HLT.out (by rw [CB.out]; simp [HTI.out]))
          go_wp2_with fail
          go_ret
          exact ⟨by rw [FE.out]; rfl, BB.out⟩
    · have FE := Lib.hid (show conB (L.map ZV.p) i = false from conB_no fun k hk => HF.out k (by have := HN.out; simp at hk; omega))
      clear HF
      go_wp2_with fail
      go_ret
      exact ⟨by rw [FE.out]; rfl, BE.out⟩
end Go.Proofs.YthjapmdfcbngmaaGreat

namespace Go.Proofs.YthjapmdfcbngmaaGreat
open Go.RowKit

end Go.Proofs.YthjapmdfcbngmaaGreat

namespace Go.Proofs.YthjapmdfcbngmaaGreat
open Go.RowKit

end Go.Proofs.YthjapmdfcbngmaaGreat

namespace Go.Proofs.YthjapmdfcbngmaaGreat
open Go.RowKit

end Go.Proofs.YthjapmdfcbngmaaGreat
