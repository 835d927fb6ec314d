/- A part. -/
import Derived.Test.YtaegiihkgicdnaaGreatWt1
import Derived.Test.YtaegiihkgicdnaaGreatWt10
import Derived.Test.YtaegiihkgicdnaaGreatWt21

namespace Go.Proofs.YtaegiihkgicdnaaGreat

def top (a b : Int) : Nat := a.natAbs / Nat.gcd a.natAbs b.natAbs

def bot (a b : Int) : Nat := b.natAbs / Nat.gcd a.natAbs b.natAbs

def fits (a b : Int) : Bool := decide (top a b ≤ 2147483647 ∧ bot a b ≤ 2147483647)

end Go.Proofs.YtaegiihkgicdnaaGreat

namespace Go.Proofs.YtaegiihkgicdnaaGreat
open Go.RowKit

end Go.Proofs.YtaegiihkgicdnaaGreat

namespace Go.Proofs.YtaegiihkgicdnaaGreat
open Go.RowKit

end Go.Proofs.YtaegiihkgicdnaaGreat

namespace Go.Proofs.YtaegiihkgicdnaaGreat
open Go.RowKit

end Go.Proofs.YtaegiihkgicdnaaGreat

namespace Go.Proofs.YtaegiihkgicdnaaGreat
open Go.RowKit

end Go.Proofs.YtaegiihkgicdnaaGreat

namespace Go.Proofs.YtaegiihkgicdnaaGreat
open Go.RowKit

end Go.Proofs.YtaegiihkgicdnaaGreat

namespace Go.Proofs.YtaegiihkgicdnaaGreat
open Go.RowKit

def MuRes (w : World) (v : Value) (er : Int) (e : Ending) (w' : World) : Prop := Below w.heap.size w w' ∧ ((er = 0 ∧ e = .returned v) ∨ (er ≠ 0 ∧ e = .panicked (pan er)))

set_option maxRecDepth 20000 in
theorem mustZ_any (z : ZV) (er : Int) (w : World) : Calls Tryz.prog 107 #[z.val, .int .i64 er] w (MuRes w z.val er) := by
  unfold ZV.val
  by_cases h : er = 0
  · subst h
    go_enter Tryz.func107, Tryz.ntmps107
    go_wp2_with fail
    refine bodyPost_ret (v := .agg #[.int .i64 z.N, .slice z.a z.l.length z.c]) (by simp [results, Tryz.results107, go_sem]) rfl ⟨?_, Or.inl ⟨rfl, rfl⟩⟩
    exact past_two (Below.refl _ _)
  · have h0 : (er != 0) = true := by simpa using h
    have H := Lib.hid h
    clear h
    go_enter Tryz.func107, Tryz.ntmps107
    go_wp2_with fail
    exact And.intro rfl ⟨(one_more _).trans ((one_more _).mono (by simp)), Or.inr ⟨H.out, rfl⟩⟩

set_option maxRecDepth 20000 in
theorem mustC_any (ao : Option Addr) (n c : Nat) (er : Int) (w : World) : Calls Tryz.prog 134 #[.slice ao n c, .int .i64 er] w (MuRes w (.slice ao n c) er) := by
  by_cases h : er = 0
  · subst h
    go_enter Tryz.func134, Tryz.ntmps134
    go_wp2_with fail
    go_ret
    exact ⟨Below.refl _ _, Or.inl ⟨rfl, rfl⟩⟩
  · have h0 : (er != 0) = true := by simpa using h
    have H := Lib.hid h
    clear h
    go_enter Tryz.func134, Tryz.ntmps134
    go_wp2_with fail
    exact And.intro rfl ⟨Below.refl _ _, Or.inr ⟨H.out, rfl⟩⟩

set_option maxRecDepth 20000 in
theorem mustB_any (b : Bool) (er : Int) (w : World) : Calls Tryz.prog 73 #[.bool b, .int .i64 er] w (MuRes w (.bool b) er) := by
  by_cases h : er = 0
  · subst h
    go_enter Tryz.func73, Tryz.ntmps73
    go_wp2_with fail
    go_ret
    exact ⟨Below.refl _ _, Or.inl ⟨rfl, rfl⟩⟩
  · have h0 : (er != 0) = true := by simpa using h
    have H := Lib.hid h
    clear h
    go_enter Tryz.func73, Tryz.ntmps73
    go_wp2_with fail
    exact And.intro rfl ⟨Below.refl _ _, Or.inr ⟨H.out, rfl⟩⟩

set_option maxRecDepth 20000 in
theorem mustL_any (x : Int) (w : World) : Calls Tryz.prog 185 #[.int .i64 x, .int .i64 0] w (Made (.int .i64 x) w) := by
  go_enter Tryz.func185, Tryz.ntmps185
  go_wp2_with fail
  go_ret
  exact ⟨rfl, Below.refl _ _⟩

def EmRes (w : World) (er : Int) (e : Ending) (w' : World) : Prop := Below w.heap.size w w' ∧ ((er = 4 ∧ e = .returned (.bool true)) ∨ (er = 0 ∧ e = .returned (.bool false)) ∨ (er ≠ 0 ∧ er ≠ 4 ∧ e = .panicked (pan er)))

set_option maxRecDepth 20000 in
theorem empty_any (z : ZV) (er : Int) (w : World) : Calls Tryz.prog 91 #[z.val, .int .i64 er] w (EmRes w er) := by
  have MU := Lib.hid (fun W => mustZ_any z er W)
  unfold ZV.val at MU ⊢
  generalize z.l.length = len at *
  generalize z.N = N at *
  generalize z.a = a at *
  generalize z.c = c at *
  by_cases h4 : er = 4
  · subst h4
    go_enter Tryz.func91, Tryz.ntmps91
    go_wp2_with fail
    go_ret
    exact ⟨one_more _, Or.inl ⟨rfl, rfl⟩⟩
  · have h40 : (er == 4) = false := by simpa using h4
    have B1 := Lib.hid (one_more (w1 := w) (.cells #[.int .i64 N, .slice a len c] 36))
    have X1 := Lib.hid (Bx2.made w (.int .i64 N) (.slice a len c) 36)
    obtain ⟨b0, b1, _, _⟩ := X1.out.facts
    have H4 := Lib.hid h4
    clear h4
    go_enter Tryz.func91, Tryz.ntmps91
    go_wp2_with fail
    refine (MU.out _).mono ?_
    rintro e w1 ⟨hb, (⟨he, rfl⟩ | ⟨he, rfl⟩)⟩
    · have B2 := Lib.hid (below_on B1.out hb)
      clear hb
      go_wp2_with fail
      go_ret
      exact ⟨B2.out, Or.inr (Or.inl ⟨he, rfl⟩)⟩
    · have B2 := Lib.hid (below_on B1.out hb)
      clear hb
      go_wp2_with fail
      exact And.intro rfl ⟨B2.out, Or.inr (Or.inr ⟨he, H4.out, rfl⟩)⟩

theorem below_put3 {X w : World} {n b : Nat} (h : Below n X w) (hb : n ≤ b) (u v t : Value) : Below n X (((w.setCell ⟨b, 0, none⟩ u).setCell ⟨b, 1, none⟩ v).setCell ⟨b, 2, none⟩ t) := (below_put2 h hb u v).setCell (p := ⟨b, 2, none⟩) hb t

theorem put3_far {w : World} {p : Addr} {x u v t : Value} {b : Nat} (h : w.cell? p = some x) (hb : p.block ≠ b) : (((w.setCell ⟨b, 0, none⟩ u).setCell ⟨b, 1, none⟩ v).setCell ⟨b, 2, none⟩ t).cell? p = some x := by
  rw [World.cell?_setCell_other _ _ _ _ (fun e => hb (by rw [← e])), World.cell?_setCell_other _ _ _ _ (fun e => hb (by rw [← e])), World.cell?_setCell_other _ _ _ _ (fun e => hb (by rw [← e]))]; exact h

theorem put3_facts {w : World} {b : Nat} {x y z u v t : Value} (h0 : w.cell? ⟨b, 0, none⟩ = some x) (h1 : w.cell? ⟨b, 1, none⟩ = some y) (h2 : w.cell? ⟨b, 2, none⟩ = some z) :
    let W := ((w.setCell ⟨b, 0, none⟩ u).setCell ⟨b, 1, none⟩ v).setCell ⟨b, 2, none⟩ t
    W.cell? ⟨b, 0, none⟩ = some u ∧ W.cell? ⟨b, 1, none⟩ = some v ∧ W.cell? ⟨b, 2, none⟩ = some t := by
  refine ⟨?_, ?_, ?_⟩
  · rw [World.cell?_setCell_other _ _ _ _ (by simp), World.cell?_setCell_other _ _ _ _ (by simp), World.cell?_setCell_same _ _ _ h0]
  · rw [World.cell?_setCell_other _ _ _ _ (by simp), World.cell?_setCell_same _ _ _ (by rw [World.cell?_setCell_other _ _ _ _ (by simp)]; exact h1)]
  · rw [World.cell?_setCell_same _ _ _ (by rw [World.cell?_setCell_other _ _ _ _ (by simp), World.cell?_setCell_other _ _ _ _ (by simp)]; exact h2)]

def opC (c : Con) : Con := (c.2.1, c.1, ntL c.2.2)

set_option maxRecDepth 20000 in
set_option maxHeartbeats 2000000 in
theorem opposite_any (i j x : Int) (w : World) (hx : I64 x) (he : spE x = 0) : Calls Tryz.prog 160 #[.agg #[.int .i64 i, .int .i64 j, .int .i64 x]] w (Made (.agg #[.int .i64 j, .int .i64 i, .int .i64 (ntL x)]) w) := by
  have NT := Lib.hid (fun W => by have := limNot_any x W hx; rw [he] at this; exact this)
  have ML := Lib.hid (fun W => mustL_any (ntL x) W)
  obtain ⟨y, hy⟩ : ∃ y, y = ntL x := ⟨_, rfl⟩
  rw [← hy] at NT ML ⊢
  obtain ⟨w0, hw0⟩ : ∃ w0, w0 = (w.alloc (.cells #[.int .i64 i, .int .i64 j, .int .i64 x] 110)).alloc (.cells #[.int .i64 0, .int .i64 0, .int .i64 0] 110) := ⟨_, rfl⟩
  have b0 : w0.cell? ⟨w.heap.size, 0, none⟩ = some (.int .i64 i) := by rw [hw0]; go_simp
  have b1 : w0.cell? ⟨w.heap.size, 1, none⟩ = some (.int .i64 j) := by rw [hw0]; go_simp
  have b2 : w0.cell? ⟨w.heap.size, 2, none⟩ = some (.int .i64 x) := by rw [hw0]; go_simp
  have r0 : ∀ k, k < 3 → w0.cell? ⟨w.heap.size + 1, k, none⟩ = some (.int .i64 0) ∧ w0.frozen? ⟨w.heap.size + 1, k, none⟩ = false := by
    intro k hk
    rw [hw0]
    match k, hk with
    | 0, _ => exact ⟨by go_simp, by go_simp⟩
    | 1, _ => exact ⟨by go_simp, by go_simp⟩
    | 2, _ => exact ⟨by go_simp, by go_simp⟩
  have z0 : w0.heap.size = w.heap.size + 2 := by rw [hw0]; simp
  have E0 := Lib.hid (show Below w.heap.size w w0 by rw [hw0]; exact past_two (Below.refl _ _))
  have KS0 := Lib.hid (show ∀ W, Below w0.heap.size w0 W → W.cell? ⟨w.heap.size, 0, none⟩ = some (.int .i64 i) ∧ W.cell? ⟨w.heap.size, 1, none⟩ = some (.int .i64 j) ∧ W.cell? ⟨w.heap.size, 2, none⟩ = some (.int .i64 x) from fun W h => ⟨kept h b0, kept h b1, kept h b2⟩)
  have KR := Lib.hid (show ∀ W, Below w0.heap.size w0 W → ∀ k, k < 3 → W.cell? ⟨w.heap.size + 1, k, none⟩ = some (.int .i64 0) ∧ W.frozen? ⟨w.heap.size + 1, k, none⟩ = false from fun W h k hk => ⟨kept h (r0 k hk).1, (h.frozen (p := ⟨w.heap.size + 1, k, none⟩) (by show w.heap.size + 1 < _; omega)).trans (r0 k hk).2⟩)
  have FAR := Lib.hid (show ∀ W : World, (W.cell? ⟨w.heap.size, 0, none⟩ = some (.int .i64 i) ∧ W.cell? ⟨w.heap.size, 1, none⟩ = some (.int .i64 j) ∧ W.cell? ⟨w.heap.size, 2, none⟩ = some (.int .i64 x)) → ((((W.setCell ⟨w.heap.size + 1, 0, none⟩ (.int .i64 j)).setCell ⟨w.heap.size + 1, 1, none⟩ (.int .i64 i)).setCell ⟨w.heap.size + 1, 2, none⟩ (.int .i64 y)).cell? ⟨w.heap.size, 0, none⟩ = some (.int .i64 i) ∧ (((W.setCell ⟨w.heap.size + 1, 0, none⟩ (.int .i64 j)).setCell ⟨w.heap.size + 1, 1, none⟩ (.int .i64 i)).setCell ⟨w.heap.size + 1, 2, none⟩ (.int .i64 y)).cell? ⟨w.heap.size, 1, none⟩ = some (.int .i64 j) ∧ (((W.setCell ⟨w.heap.size + 1, 0, none⟩ (.int .i64 j)).setCell ⟨w.heap.size + 1, 1, none⟩ (.int .i64 i)).setCell ⟨w.heap.size + 1, 2, none⟩ (.int .i64 y)).cell? ⟨w.heap.size, 2, none⟩ = some (.int .i64 x)) from fun W h => ⟨put3_far h.1 (by show w.heap.size ≠ _; omega), put3_far h.2.1 (by show w.heap.size ≠ _; omega), put3_far h.2.2 (by show w.heap.size ≠ _; omega)⟩)
  clear r0 hx he hy
  go_enter Tryz.func160, Tryz.ntmps160
  go_wp2_with fail
  rw [← hw0]
  clear hw0
  have KS := Lib.hid (show ∀ W, Below w0.heap.size w0 W → (W.cell? ⟨w.heap.size, 0, none⟩ = some (.int .i64 i) ∧ W.cell? ⟨w.heap.size, 1, none⟩ = some (.int .i64 j) ∧ W.cell? ⟨w.heap.size, 2, none⟩ = some (.int .i64 x)) from fun W h => ⟨kept h b0, kept h b1, kept h b2⟩)
  obtain ⟨wc, hwc⟩ : ∃ wc, wc = w0.drew := ⟨_, rfl⟩
  have Bc := Lib.hid (show Below w0.heap.size w0 wc by rw [hwc]; exact (Below.refl _ _).drew)
  refine wp_region_held_drew (S := (fun W => (W.cell? ⟨w.heap.size, 0, none⟩ = some (.int .i64 i) ∧ W.cell? ⟨w.heap.size, 1, none⟩ = some (.int .i64 j) ∧ W.cell? ⟨w.heap.size, 2, none⟩ = some (.int .i64 x)))) (by kernel_rfl) (by rw [← hwc]; exact KS.out _ Bc.out) (fun h0 => ?_)
  rw [← hwc] at h0 ⊢
  clear hwc
  refine tkH (i := 0) (v := ?v1) rfl (Or.inl ⟨by rfl, ?hy1⟩) h0 ?rest1
  case hy1 => (intro w' hS; (try dsimp only at hS); go_simp; try (with_reducible rfl))
  simp only [Act.put, sA, sB, sD, sE, sF]
  refine tkH (i := 1) (v := ?v2) rfl (Or.inl ⟨by rfl, ?hy2⟩) h0 ?rest2
  case hy2 => (intro w' hS; (try dsimp only at hS); go_simp; try (with_reducible rfl))
  simp only [Act.put, sZ]
  refine tkH (i := 2) (v := ?v3) rfl (Or.inl ⟨by rfl, ?hy3⟩) h0 ?rest3
  case hy3 => (intro w' hS; (try dsimp only at hS); go_simp; try (with_reducible rfl))
  simp only [Act.put, sZ]
  refine tkH (i := 3) (v := ?v4) rfl (Or.inl ⟨by rfl, ?hy4⟩) h0 ?rest4
  case hy4 => (intro w' hS; (try dsimp only at hS); go_simp; try (with_reducible rfl))
  simp only [Act.put, sZ]
  refine tkH (i := 4) (v := ?v5) rfl (Or.inl ⟨by rfl, ?hy5⟩) h0 ?rest5
  case hy5 => (intro w' hS; (try dsimp only at hS); go_simp; try (with_reducible rfl))
  simp only [Act.put, sZ]
  refine tkH (i := 5) (v := ?v6) rfl (Or.inl ⟨by rfl, ?hy6⟩) h0 ?rest6
  case hy6 => (intro w' hS; (try dsimp only at hS); go_simp; try (with_reducible rfl))
  simp only [Act.put, sZ]
  refine wpAnyH_ready (rs := [6]) (by kernel_rfl) (by simp) (AllReadyH.cons rfl (fun K hK => ?_) AllReadyH.nil)
  rw [if_pos (by rfl)]
  go_simp
  refine (NT.out wc).mono ?_
  rintro e w6 ⟨rfl, hw6⟩
  rw [hw6]
  clear hw6 w6
  go_simp
  refine hK.out _ _ (KS.out _ Bc.out) (fun h0_1 => ?_)
  clear hK K h0
  refine tkH (i := 7) (v := ?v7) rfl (Or.inl ⟨by rfl, ?hy7⟩) h0_1 ?rest7
  case hy7 => (intro w' hS; (try dsimp only at hS); go_simp; try (with_reducible rfl))
  simp only [Act.put, sZ]
  refine tkH (i := 8) (v := ?v8) rfl (Or.inl ⟨by rfl, ?hy8⟩) h0_1 ?rest8
  case hy8 => (intro w' hS; (try dsimp only at hS); go_simp; try (with_reducible rfl))
  simp only [Act.put, sZ]
  refine wpAnyH_ready (rs := [9]) (by kernel_rfl) (by simp) (AllReadyH.cons rfl (fun K hK => ?_) AllReadyH.nil)
  rw [if_pos (by rfl)]
  go_simp
  refine (ML.out wc).mono ?_
  rintro e wc ⟨rfl, hb⟩
  have Bc := Lib.hid (below_on Bc.out hb)
  clear hb
  go_simp
  refine hK.out _ _ (KS.out _ Bc.out) (fun h0_2 => ?_)
  clear hK K h0_1
  refine tkH (i := 10) (v := ?v9) rfl (Or.inl ⟨by rfl, ?hy9⟩) h0_2 ?rest9
  case hy9 => (intro w' hS; (try dsimp only at hS); go_simp; try (with_reducible rfl))
  simp only [Act.put, sZ]
  refine wpAnyH_ready (rs := [11]) (by kernel_rfl) (by simp) (AllReadyH.cons rfl (fun K hK => ?_) AllReadyH.nil)
  rw [if_pos (by rfl)]
  go_simp
  obtain ⟨f0, f1⟩ := KR.out _ Bc.out 0 (by omega)
  obtain ⟨f2, f3⟩ := KR.out _ Bc.out 1 (by omega)
  obtain ⟨f4, f5⟩ := KR.out _ Bc.out 2 (by omega)
  go_simp
  refine hK.out _ _ (FAR.out _ (KS.out _ Bc.out)) (fun h0_3 => ?_)
  clear hK K h0_2
  try simp only [sF]
  try simp only [sE]
  refine wpAnyH_done (by kernel_rfl) ?_ _
  have BE := below_put3 (below_on E0.out Bc.out) (b := w.heap.size + 1) (by omega) (.int .i64 j) (.int .i64 i) (.int .i64 y)
  obtain ⟨q0, q1, q2⟩ := put3_facts (u := .int .i64 j) (v := .int .i64 i) (t := .int .i64 y) f0 f2 f4
  obtain ⟨we, hwe⟩ : ∃ we, we = ((wc.setCell ⟨w.heap.size + 1, 0, none⟩ (.int .i64 j)).setCell ⟨w.heap.size + 1, 1, none⟩ (.int .i64 i)).setCell ⟨w.heap.size + 1, 2, none⟩ (.int .i64 y) := ⟨_, rfl⟩
  rw [← hwe] at BE q0 q1 q2 ⊢
  have BX := Lib.hid BE
  clear hwe BE f0 f1 f2 f3 f4 f5
  go_wp2_with fail
  refine bodyPost_ret (v := .agg #[.int .i64 j, .int .i64 i, .int .i64 y]) (by simp [results, Tryz.results160, go_sem, q0, q1, q2]) rfl ⟨rfl, BX.out⟩
end Go.Proofs.YtaegiihkgicdnaaGreat

namespace Go.Proofs.YtaegiihkgicdnaaGreat
open Go.RowKit

abbrev Sq := List Zp × Int

def seqA (a b : Sq) : Sq := if a.2 = 0 then (a.1 ++ b.1, b.2) else a

def flatS {α : Type} (f : α → Sq) : List α → Sq
  | [] => ([], 0)
  | x :: r => seqA (f x) (flatS f r)

def oneS (r : Zp × Int) : Sq := if r.2 = 0 then ([r.1], 0) else ([], r.2)

def emS (r : Zp × Int) : Sq := if r.2 = 4 then ([], 0) else oneS r

theorem seqA_nil (a : Sq) : seqA a ([], 0) = a := by
  unfold seqA; split
  · rename_i h; rw [List.append_nil, ← h]
  · rfl

theorem nil_seqA (a : Sq) : seqA ([], 0) a = a := by unfold seqA; simp

theorem seqA_assoc (a b c : Sq) : seqA (seqA a b) c = seqA a (seqA b c) := by
  unfold seqA
  by_cases h : a.2 = 0
  · rw [if_pos h]
    by_cases k : b.2 = 0
    · simp [h, k]
    · simp [h, k]
  · simp [h]

theorem flatS_app {α : Type} (f : α → Sq) (l m : List α) : flatS f (l ++ m) = seqA (flatS f l) (flatS f m) := by
  induction l with
  | nil => simp [flatS, nil_seqA]
  | cons x l ih => simp only [List.cons_append, flatS, ih, seqA_assoc]

theorem flatS_one {α : Type} (f : α → Sq) (x : α) : flatS f [x] = f x := by simp [flatS, seqA_nil]

theorem flatS_succ {α : Type} (f : α → Sq) {l : List α} {t : Nat} (ht : t < l.length) : flatS f (l.take (t + 1)) = seqA (flatS f (l.take t)) (f l[t]) := by
  rw [List.take_succ_eq_append_getElem ht, flatS_app, flatS_one]

theorem flatS_split {α : Type} (f : α → Sq) (l : List α) (t : Nat) : flatS f l = seqA (flatS f (l.take t)) (flatS f (l.drop t)) := by
  rw [← flatS_app, List.take_append_drop]

theorem flatS_err {α : Type} (f : α → Sq) {l : List α} {t : Nat} (h : (flatS f (l.take t)).2 ≠ 0) : flatS f l = flatS f (l.take t) := by
  rw [flatS_split f l t]; unfold seqA; rw [if_neg h]

theorem seqA_pre (a b : Sq) : a.1 <+: (seqA a b).1 := by
  unfold seqA; split
  · exact List.prefix_append _ _
  · exact List.prefix_refl _

theorem flatS_pre {α : Type} (f : α → Sq) (l : List α) (t : Nat) : (flatS f (l.take t)).1 <+: (flatS f l).1 := by
  rw [flatS_split f l t]; exact seqA_pre _ _

theorem seqA_of {a b : Sq} (h : a.2 = 0) : seqA a b = (a.1 ++ b.1, b.2) := by unfold seqA; rw [if_pos h]

def ZOut (w : World) (r : Zp × Int) (e : Ending) (w' : World) : Prop :=
  Below w.heap.size w w' ∧ ∃ z : ZV, e = .returned (.tuple #[z.val, .int .i64 r.2]) ∧ ZAt w.heap.size w' z ∧ (r.2 = 0 → z.p = r.1)

theorem ZRes.zout {w w' : World} {N : Int} {l : List Int} {er : Int} {e : Ending} (h : ZRes w N l er e w') : ZOut w ((N, l), er) e w' := h.zv

theorem yield_enters (f : FuncId) {fn : Func} {c : Code} (hf : Tryz.prog.funcs[f]? = some fn) (hname : (fn.name == "runtime.NumGoroutine") = false) (hb : fn.body = some c) : ∀ args w, (callFunc f args).run Tryz.prog w = .ok (.enter f args) w := enters_of hf hname hb

def ItI (W : World) (T0 O : Nat → Prop) (J : List Zp → (Nat → Prop) → World → Prop) (pre : List Zp) (m : Nat) (A : World) : Prop :=
  ∃ T, J pre T A ∧ (∀ k, T k → (T0 k ∨ W.heap.size ≤ k) ∧ ¬ O k ∧ k < m) ∧ (∀ k, O k → k < A.heap.size) ∧ Kept (fun k => ¬ T0 k ∧ k < W.heap.size) W A ∧ m ≤ A.heap.size
section
variable {W A A' : World} {T0 O : Nat → Prop} {J : List Zp → (Nat → Prop) → World → Prop} {pre : List Zp} {m : Nat}

theorem ItI.stay (hst : ∀ pre T A B, J pre T A → Kept (fun k => k < W.heap.size ∨ T k) A B → J pre T B) (h : ItI W T0 O J pre m A) (hb : Kept (fun k => ¬ O k) A A') (hO : ∀ k, O k → W.heap.size ≤ k) : ItI W T0 O J pre m A' := by
  obtain ⟨T, j1, j2, j3, j4, j5⟩ := h
  exact ⟨T, hst _ _ _ _ j1 (hb.mono fun k _ q => by
    rcases q with q | q
    · intro r; have := hO k r; omega
    · exact (j2 k q).2.1), j2, fun k q => Nat.lt_of_lt_of_le (j3 k q) hb.size, j4.trans (hb.mono fun k _ q => fun r => by have := hO k r; omega), Nat.le_trans j5 hb.size⟩

theorem ItI.below (hst : ∀ pre T A B, J pre T A → Kept (fun k => k < W.heap.size ∨ T k) A B → J pre T B) (h : ItI W T0 O J pre m A) (hb : Below A.heap.size A A') : ItI W T0 O J pre m A' := by
  obtain ⟨T, j1, j2, j3, j4, j5⟩ := h
  exact ⟨T, hst _ _ _ _ j1 (Kept.of_below hb _), j2, fun k q => Nat.lt_of_lt_of_le (j3 k q) hb.size, j4.trans (Kept.of_below hb _), Nat.le_trans j5 hb.size⟩

theorem ItI.own {O' : Nat → Prop} (hst : ∀ pre T A B, J pre T A → Kept (fun k => k < W.heap.size ∨ T k) A B → J pre T B) (h : ItI W T0 O J pre m A) (hb : Below A.heap.size A A') (hO : ∀ k, O' k → (O k ∨ m ≤ k) ∧ k < A'.heap.size) : ItI W T0 O' J pre m A' := by
  obtain ⟨T, j1, j2, j3, j4, j5⟩ := h
  exact ⟨T, hst _ _ _ _ j1 (Kept.of_below hb _), fun k q => ⟨(j2 k q).1, fun r => by
    rcases (hO k r).1 with s | s
    · exact (j2 k q).2.1 s
    · have := (j2 k q).2.2; omega, (j2 k q).2.2⟩, fun k q => (hO k q).2, j4.trans (Kept.of_below hb _), Nat.le_trans j5 hb.size⟩

theorem ItI.size (h : ItI W T0 O J pre m A) : m ≤ A.heap.size ∧ W.heap.size ≤ A.heap.size := by
  obtain ⟨T, j1, j2, j3, j4, j5⟩ := h
  exact ⟨j5, j4.size⟩

theorem ItI.start (hlt : ∀ pre T A, J pre T A → ∀ k, T k → k < A.heap.size) (h : J [] T0 W) : ItI W T0 (fun _ => False) J [] W.heap.size W :=
  ⟨T0, h, fun k q => ⟨Or.inl q, id, hlt _ _ _ h k q⟩, fun _k q => q.elim, Kept.refl _ _, Nat.le_refl _⟩

theorem ItI.cell (h : ItI W T0 O J pre m A) {p : Addr} {v : Value} (hc : W.cell? p = some v) (hp : ¬ T0 p.block) : A.cell? p = some v := by
  obtain ⟨T, j1, j2, j3, j4, j5⟩ := h
  exact cell_keptK j4 hc ⟨hp, World.block_lt_of_cell? W _ hc⟩

theorem ItI.rdz (h : ItI W T0 O J pre m A) {B : Nat} {go : Option Addr} {L : List ZV} (hr : RdZ B W go L) (h0 : ∀ p, go = some p → 0 < L.length → ¬ T0 p.block) (h1 : ∀ z ∈ L, ∀ p, z.a = some p → ¬ T0 p.block) : RdZ B A go L := by
  obtain ⟨T, j1, j2, j3, j4, j5⟩ := h
  by_cases hl : 0 < L.length
  · exact hr.keptK j4 (fun p e => ⟨h0 p e hl, hr.lt hl p e⟩) (fun z hz p e => ⟨h1 z hz p e, ((hr.el z hz).2 p e).2⟩)
  · exact ⟨fun t ht => by omega, fun z hz => by have := List.length_pos_of_mem hz; omega⟩

theorem ItI.zat (h : ItI W T0 O J pre m A) {B : Nat} {z : ZV} (hr : ZAt B W z) (h1 : ∀ p, z.a = some p → ¬ T0 p.block) : ZAt B A z := by
  obtain ⟨T, j1, j2, j3, j4, j5⟩ := h
  exact hr.keptK j4 fun p e => ⟨h1 p e, (hr.2 p e).2⟩
end

structure Later (w W : World) (T0 : Nat → Prop) : Prop where
  kept : Kept (fun _ => True) w W
  mine : ∀ k, T0 k → w.heap.size ≤ k

theorem Later.no {w W : World} {T0 : Nat → Prop} (h : Later w W T0) {k : Nat} (hk : k < w.heap.size) : ¬ T0 k := fun q => by have := h.mine k q; omega

theorem Later.rdz {w W : World} {T0 : Nat → Prop} (h : Later w W T0) {B : Nat} {go : Option Addr} {L : List ZV} (hr : RdZ B w go L) : RdZ B W go L ∧ (∀ p, go = some p → 0 < L.length → ¬ T0 p.block) ∧ (∀ z ∈ L, ∀ p, z.a = some p → ¬ T0 p.block) :=
  ⟨hr.keptK h.kept (fun _ _ => trivial) (fun _ _ _ _ => trivial), fun p e hl => h.no (hr.lt hl p e), fun z hz p e => h.no ((hr.el z hz).2 p e).2⟩

theorem Later.cell {w W : World} {T0 : Nat → Prop} (h : Later w W T0) {p : Addr} {v : Value} (hc : w.cell? p = some v) : W.cell? p = some v ∧ ¬ T0 p.block := ⟨cell_keptK h.kept hc trivial, h.no (World.block_lt_of_cell? w _ hc)⟩

def Rnd (B n₀ l : Nat) (W : World) (xs : List Zp) (J : List Zp → (Nat → Prop) → World → Prop) (Jp : List PanicEntry → World → Prop) : Prop :=
  ∀ pre x T A args, J pre T A → (pre ++ [x]) <+: xs → VzA B x args A → (∀ k, giftZ args k → k < A.heap.size ∧ ¬ T k ∧ (k < n₀ ∨ W.heap.size ≤ k)) → YieldAt Fence.wide 8 Tryz.prog l args A fun e B =>
      (e = .returned (.bool true) ∧ ∃ T', J (pre ++ [x]) T' B ∧ Kept (fun k => ¬ T k) A B ∧ ∀ k, T' k → T k ∨ A.heap.size ≤ k ∨ (giftZ args k ∧ W.heap.size ≤ k)) ∨ (∃ chain, e = .panicked chain ∧ Jp chain B ∧ Kept (fun k => ¬ T k) A B)

theorem yield_zone {W A : World} {B l m : Nat} {T0 O : Nat → Prop} {J : List Zp → (Nat → Prop) → World → Prop} {Jp : List PanicEntry → World → Prop} {n₀ : Nat} {xs pre : List Zp} {x : Zp} (rnd : Rnd B n₀ l W xs J Jp) (hlt : ∀ pre T A, J pre T A → ∀ k, T k → k < A.heap.size)
    (h : ItI W T0 O J pre m A) {z : ZV} (hx : z.p = x) (hpre : (pre ++ [x]) <+: xs) (hz : ZAt B A z) (hg : ∀ p, z.a = some p → ¬ O p.block ∧ ((p.block < n₀ ∧ p.block < W.heap.size ∧ ¬ T0 p.block) ∨ (W.heap.size ≤ p.block ∧ m ≤ p.block))) :
    YieldAt Fence.wide 8 Tryz.prog l #[z.val] A fun e B => (e = .returned (.bool true) ∧ ItI W T0 O J (pre ++ [x]) B.heap.size B ∧ Kept O A B) ∨ (∃ chain, e = .panicked chain ∧ Jp chain B) := by
  obtain ⟨T, j1, j2, j3, j4, j5⟩ := h
  refine (rnd pre x T A #[z.val] j1 hpre ⟨z, rfl, hx, hz⟩ (fun k q => ?_)).mono ?_
  · obtain ⟨p, e, rfl⟩ := giftZ_of q
    refine ⟨(hz.2 p e).2, ?_, ?_⟩
    · intro q
      rcases (hg p e).2 with r | r
      · rcases (j2 _ q).1 with s | s
        · exact r.2.2 s
        · omega
      · have := (j2 _ q).2.2; omega
    · rcases (hg p e).2 with r | r
      · exact Or.inl r.1
      · exact Or.inr r.1
  · rintro e B' (⟨rfl, T', t1, t2, t3⟩ | ⟨chain, rfl, hp, _⟩)
    · have sz := j4.size
      refine Or.inl ⟨rfl, ⟨T', t1, fun k q => ?_, fun k q => Nat.lt_of_lt_of_le (j3 k q) t2.size, ?_, Nat.le_refl _⟩, t2.mono fun k _ q => fun r => (j2 k r).2.1 q⟩
      · have lt := hlt _ _ _ t1 k q
        rcases t3 k q with r | r | r
        · exact ⟨(j2 k r).1, (j2 k r).2.1, lt⟩
        · refine ⟨Or.inr (by omega), fun s => ?_, lt⟩
          have := j3 k s; omega
        · obtain ⟨p, e, rfl⟩ := giftZ_of r.1
          exact ⟨Or.inr r.2, (hg p e).1, lt⟩
      · exact j4.trans (t2.mono fun k hk q => fun r => by
          rcases (j2 k r).1 with s | s
          · exact q.1 s
          · omega)
    · exact Or.inr ⟨chain, rfl, hp⟩
end Go.Proofs.YtaegiihkgicdnaaGreat

namespace Go.Proofs.YtaegiihkgicdnaaGreat
open Go.RowKit

theorem each_enters : ∀ args w, (callFunc 106 args).run Tryz.prog w = .ok (.enter 106 args) w := yield_enters _ Tryz.func106 (by kernel_rfl) rfl

def eaS (ch : Zp → Zp × Int) (L : List Zp) : Sq := flatS (fun x => oneS (ch x)) L

theorem erOf {e : Int} (h : e ≠ 0) : (if e = 0 then none else some (pan e)) = some (pan e) := if_neg h

set_option maxRecDepth 100000 in
set_option maxHeartbeats 8000000 in
theorem each_seq (ch : Zp → Zp × Int) (chf : FuncId) (L : List ZV) (go : Option Addr) (gc pl pc B : Nat) (w : World) (hB : B ≤ w.heap.size)
    (c1 : w.cell? ⟨pl, 0, none⟩ = some (.slice go L.length gc)) (c2 : w.cell? ⟨pc, 0, none⟩ = some (.func (.func chf) #[] #[])) (hR : RdZ 0 w go L) (hl : L.length ≤ 1000000)
    (eg : ∀ args w, (callFunc chf args).run Tryz.prog w = .ok (.enter chf args) w) (hch : ∀ z ∈ L, ∀ W, ZAt 0 W z → Calls Tryz.prog chf #[z.val] W (ZOut W (ch z.p))) :
    SeqZ B w 106 #[.pointer (some ⟨pl, 0, none⟩), .pointer (some ⟨pc, 0, none⟩)] (eaS ch (L.map ZV.p)).1 (eaS ch (L.map ZV.p)).2 := by
  intro W T0 hk hT0 l J Jp hst hlt _ rnd h0
  have LT : Later w W T0 := ⟨hk, hT0⟩
  obtain ⟨n, hn⟩ : ∃ n, n = L.length := ⟨_, rfl⟩
  have HN := Lib.hid hn
  have hle : n ≤ 1000000 := by omega
  rw [← hn] at c1
  have C1 := Lib.hid (LT.cell c1)
  have C2 := Lib.hid (LT.cell c2)
  have RZ := Lib.hid (LT.rdz hR)
  have HB := Lib.hid (show B ≤ W.heap.size from Nat.le_trans hB hk.size)
  have ST := Lib.hid hst
  have LL := Lib.hid hlt
  have RN := Lib.hid (show Rnd B w.heap.size l W (eaS ch (L.map ZV.p)).1 J Jp from rnd)
  have CH := Lib.hid hch
  have I0 := Lib.hid (ItI.start hlt h0)
  clear c1 c2 hR hch rnd hst hlt h0 hl hn LT hB hk hT0
  refine callsIn_of_wp Tryz.func106 rfl trivial ?_ rfl
  simp only [Tryz.ntmps106, List.size_toArray, List.length_cons, List.length_nil, Nat.reduceAdd, Nat.reduceSub, Array.replicate_succ, Array.replicate_zero, List.push_toArray, List.append_toArray, List.nil_append, List.cons_append]
  obtain ⟨f1, _⟩ := C1.out
  gi_wp2
  clear f1
  gi_loopw [8] (fun s wr => ∃ t : Nat, s = .int .i64 t ∧ t ≤ n ∧ Hid ((eaS ch ((L.map ZV.p).take t)).2 = 0) ∧ Hid (∃ m, ItI W T0 (fun _ => False) J (eaS ch ((L.map ZV.p).take t)).1 m wr)) (fun s _ => n - (intOf s).toNat)
  case atStart => exact ⟨0, rfl, by omega, Lib.hid (by simp [eaS, flatS]), Lib.hid ⟨_, by simpa [eaS, flatS] using I0.out⟩⟩
  case round =>
    generalize wr = wo at *
    obtain ⟨t, rfl, ht, HE, HI⟩ := hrel
    by_cases htn : t < n
    · have hlt : t < L.length := by have := HN.out; omega
      obtain ⟨m, im⟩ := HI.out
      have rz := im.rdz RZ.out.1 RZ.out.2.1 RZ.out.2.2
      obtain ⟨a, ea, h0, h1⟩ := rz.hd t hlt
      obtain ⟨z, hz⟩ : ∃ z, z = L[t] := ⟨_, rfl⟩
      have HM := Lib.hid (show z ∈ L by rw [hz]; exact List.getElem_mem _)
      have SS := Lib.hid (show eaS ch ((L.map ZV.p).take (t + 1)) = seqA (eaS ch ((L.map ZV.p).take t)) (oneS (ch z.p)) by
        have := flatS_succ (fun x => oneS (ch x)) (l := L.map ZV.p) (t := t) (by simpa using hlt)
        rw [hz]; simpa [eaS] using this)
      have ZA := Lib.hid (rz.el z HM.out)
      rw [← hz] at h0 h1
      have c2 := im.cell C2.out.1 C2.out.2
      have IM := Lib.hid im
      obtain ⟨zl, hzl⟩ : ∃ zl, zl = z.l.length := ⟨_, rfl⟩
      rw [← hzl] at h1
      have X1 := Lib.hid (Bx2.made wo (.int .i64 z.N) (.slice z.a zl z.c) 36)
      have B1 := Lib.hid (one_more (w1 := wo) (.cells #[.int .i64 z.N, .slice z.a zl z.c] 36))
      have c3 := kept B1.out c2
      obtain ⟨x0, x1, _, _⟩ := X1.out.facts
      have CZ := Lib.hid (show ∀ W, ZAt 0 W z → Calls Tryz.prog chf #[.agg #[.int .i64 z.N, .slice z.a zl z.c]] W (ZOut W (ch z.p)) from fun W h => by rw [hzl]; exact CH.out z HM.out W h)
      clear hz hzl rz hlt
      subst ea
      gi_wp2_with fail
      refine ⟨trivial, (callsIn_wide.2 (CZ.out _ (ZA.out.on B1.out))).mono ?_⟩
      rintro e w2 ⟨hb, y, rfl, hy, hyp⟩
      have B2 := Lib.hid (below_on B1.out hb)
      have hsz := hb.size
      rw [World.size_alloc] at hsz
      have YLO := Lib.hid (fun p (e : y.a = some p) => (hy.2 p e).1)
      rw [World.size_alloc] at YLO
      obtain ⟨er, her⟩ : ∃ er, er = (ch z.p).2 := ⟨_, rfl⟩
      rw [← her]
      have HER := Lib.hid her
      have YP := Lib.hid hyp
      have YA := Lib.hid hy
      have MU := Lib.hid (fun W => mustZ_any y er W)
      unfold ZV.val at MU ⊢
      obtain ⟨yl, hyl⟩ : ∃ yl, yl = y.l.length := ⟨_, rfl⟩
      rw [← hyl] at MU ⊢
      have HYL := Lib.hid hyl
      clear hb her hyp hy c2 c3 x0 x1 im CZ hyl
      gi_wp2_with fail
      refine ⟨trivial, (callsIn_wide.2 (MU.out _)).mono ?_⟩
      rintro e w3 ⟨hb, (⟨he, rfl⟩ | ⟨he, rfl⟩)⟩
      · have B3 := Lib.hid (below_on B2.out hb)
        have YA3 := Lib.hid (YA.out.on hb)
        have hsz3 := hb.size
        have I3 := Lib.hid (IM.out.below ST.out B3.out)
        have S1 := Lib.hid (show eaS ch ((L.map ZV.p).take (t + 1)) = ((eaS ch ((L.map ZV.p).take t)).1 ++ [y.p], 0) by
          rw [SS.out, seqA_of HE.out]
          have e1 : (ch z.p).2 = 0 := by rw [← HER.out]; exact he
          unfold oneS
          rw [if_pos e1, YP.out e1])
        have YD := yield_zone RN.out LL.out I3.out (z := y) rfl (by have := flatS_pre (fun x => oneS (ch x)) (L.map ZV.p) (t + 1); have e1 := S1.out; unfold eaS at e1; rw [e1] at this; exact this) (YA3.out.low (by have := HB.out; have := IM.out.size.2; rw [World.size_alloc]; omega)) (fun p e => ⟨id, Or.inr ⟨by have := YLO.out p e; have := IM.out.size.2; omega, by have := YLO.out p e; have := IM.out.size.1; omega⟩⟩)
        obtain ⟨fn, tmps, assign, body, hyd, hR⟩ := YD
        have HR := Lib.hid hR
        unfold ZV.val at hyd
        rw [← HYL.out] at hyd
        clear hR hb he
        gi_wp2_with fail
        refine HR.out.mono ?_
        rintro e w4 (⟨rfl, i4, _⟩ | ⟨chain, rfl, hp⟩)
        · have I4 := Lib.hid i4
          clear i4
          gi_wp2_with fail
          go_roundw
          case rel => exact ⟨t + 1, by go_num, by omega, Lib.hid (by rw [S1.out]), Lib.hid ⟨_, by rw [S1.out]; exact I4.out⟩⟩
          case measure => simp [intOf]; omega
        · exact ⟨by first | rfl | trivial, Or.inr ⟨chain, by first | rfl | trivial, Or.inl hp⟩⟩
      · have S1 := Lib.hid (show eaS ch ((L.map ZV.p).take (t + 1)) = ((eaS ch ((L.map ZV.p).take t)).1, er) by
          rw [SS.out, seqA_of HE.out]
          have e1 : (ch z.p).2 ≠ 0 := by rw [← HER.out]; exact he
          unfold oneS
          rw [if_neg e1, List.append_nil, HER.out])
        have S2 := Lib.hid (show eaS ch (L.map ZV.p) = ((eaS ch ((L.map ZV.p).take t)).1, er) by
          rw [← S1.out]
          exact flatS_err _ (by have := S1.out; unfold eaS at this; rw [this]; exact he))
        obtain ⟨T, j1, _⟩ := IM.out.below ST.out (below_on B2.out hb)
        have JJ := Lib.hid j1
        have H := Lib.hid he
        clear j1 he hb
        have J2 : J (eaS ch (L.map ZV.p)).1 T w3 := by rw [S2.out]; exact JJ.out
        have E2 : (if (eaS ch (L.map ZV.p)).2 = 0 then none else some (pan (eaS ch (L.map ZV.p)).2)) = some (pan er) := by rw [S2.out]; exact erOf H.out
        exact ⟨by first | rfl | trivial, Or.inr ⟨_, by first | rfl | trivial, Or.inr ⟨E2, T, J2⟩⟩⟩
    · have e : (L.map ZV.p).take t = L.map ZV.p := List.take_of_length_le (by have := HN.out; simp; omega)
      rw [e] at HE HI
      obtain ⟨m, T, j1, _⟩ := HI.out
      have JJ := Lib.hid j1
      clear j1
      gi_wp2_with fail
      go_end0
      refine Or.inl ⟨?_, ?_, T, JJ.out⟩
      · first | rfl | trivial
      · exact HE.out
end Go.Proofs.YtaegiihkgicdnaaGreat
