/- Contracts of layer 3's Up, Down and Free.; Contracts of layer 3's Up and Down, in the reference's words.; Contracts of layer 3's Up and Down.; The contract of And of layer 3's reference.; The contract of Same of layer 3's reference.; Contracts of And of any zone, and of is and Constant, of layer 3's reference.; The contract of Reset of layer 3's reference.; The contract of layer 3's Free.; Contracts for layer 3's And: which constraints are wrong.; The contract of layer 3's And.; Plain mathematics: what is closed, tightened and closed again is what is tightened and closed once.; Plain mathematics: constraints tighten; what Free makes is a zone.; The contract of layer 3's Point.; The contract of layer 3's Point: the walk.; The contract of layer 3's Point, for whatever zone.; openAt of layer 3: a bad zone, or a point of another dimension.; slices.Grow of nil, for ratios.; slices.Concat of two lists of ratios, the first of one element. -/
import Derived.Test.YtbnebinpemejlaaGreatHp4
import Derived.Test.YtbnebinpemejlaaGreatHp2
import Derived.Lib.AppendZeros

namespace Go.Proofs.YtbnebinpemejlaaGreat
open Go.RowKit

/-- Up: the first element of each row is set. -/
def umS (n : Nat) (x : List Int) (t : Nat) : List Int := x.set (Zo.ix n t 0) 1099511627776

def umL (n : Nat) (l : List Int) : List Int := (List.range (n + 1)).foldl (umS n) l

theorem umL_len (n : Nat) (l : List Int) : (umL n l).length = l.length := fold_len (fun x t => by simp [umS]) l _

/-- Down: the elements of the first row are set. -/
def dmS (n : Nat) (x : List Int) (t : Nat) : List Int := x.set (Zo.ix n 0 t) 1099511627776

def dmL (n : Nat) (l : List Int) : List Int := (List.range (n + 1)).foldl (dmS n) l

theorem dmL_len (n : Nat) (l : List Int) : (dmL n l).length = l.length := fold_len (fun x t => by simp [dmS]) l _

/-- release: row i and column i are set. -/
def rlS (n i : Nat) (x : List Int) (t : Nat) : List Int := (x.set (Zo.ix n i t) 1099511627776).set (Zo.ix n t i) 1099511627776

def rlL (n i : Nat) (l : List Int) : List Int := (List.range (n + 1)).foldl (rlS n i) l

theorem rlL_len (n i : Nat) (l : List Int) : (rlL n i l).length = l.length := fold_len (fun x t => by simp [rlS]) l _

/-- Returns nothing; the matrix at b is gl. -/
def Chg (w : World) (b n : Nat) (gl : List Int) (e : Ending) (w' : World) : Prop := e = .returned (.tuple #[]) ∧ MSt w b n gl w'

set_option maxRecDepth 100000 in
set_option maxHeartbeats 4000000 in
theorem up1_any (b n : Nat) (l : List Int) (w : World) (hn : n ≤ 10) (h : Mx w b n l) : Calls Tryz.prog 47 #[.pointer (some ⟨b, 0, none⟩)] w (Chg w b n (umL n l)) := by
  have HM := Lib.hid (show MSt w b n l w from ⟨h, World.grownBy.refl _ _⟩)
  have KD := Lib.hid (show ∀ (x : List Int) (w' : World), MSt w b n x w' → w'.cell? ⟨b, 0, none⟩ = some (.int .i64 n) from fun x w' h => h.1.dim)
  have TR := Lib.hid (fun (x : List Int) (i : Nat) (hi : i ≤ n) (w' : World) (h : MSt w b n x w') => row_any b n i w' hn hi h.1.dim)
  have HL := Lib.hid h.2
  have c0 := h.dim
  clear h
  go_enter Tryz.func47, Tryz.ntmps47
  go_wp2_with fail
  clear c0
  go_loopw [8] (fun s wr => ∃ (t : Nat) (x : List Int), t ≤ n + 1 ∧ s = .int .i64 t ∧ Hid (x.length = (n + 1) * (n + 1) ∧ x = (List.range t).foldl (umS n) l ∧ MSt w b n x wr)) (fun s _ => n + 1 - (intOf s).toNat)
  case atStart => exact ⟨0, l, by omega, rfl, Lib.hid ⟨HL.out, rfl, HM.out⟩⟩
  case round =>
    obtain ⟨t, x, ht, rfl, HX⟩ := hrel
    by_cases htn : t ≤ n
    · have tix := Zo.ix_lt htn (show 0 ≤ n by omega)
      have c1 : wr.cell? ⟨b, 1 + t * (n + 1), none⟩ = some (.int .i64 (Zo.At n x t 0)) := by
        have := HX.out.2.2.1.at (j := Zo.ix n t 0) (by rw [HX.out.1]; exact tix)
        simpa [Zo.ix, Zo.At] using this
      have f1 := HX.out.2.2.1.free (1 + t * (n + 1))
      have ST := Lib.hid (show MSt w b n (umS n x t) (wr.setCell ⟨b, 1 + t * (n + 1), none⟩ (.int .i64 1099511627776)) from by
        have := HX.out.2.2.put (Zo.ix n t 0) 1099511627776 (by rw [HX.out.1]; exact tix)
        simpa [Zo.ix, umS] using this)
      clear tix
      go_wp2_with fail
      refine (TR.out _ _ htn _ HX.out.2.2).mono ?_
      rintro e w1 ⟨rfl, hw⟩
      rw [hw]; clear hw w1
      go_wp2_with fail
      clear c1 f1
      go_roundw
      case rel => exact ⟨t + 1, _, by omega, by go_num, Lib.hid ⟨by simpa [umS] using HX.out.1, by rw [Zo.fold_succ, ← HX.out.2.1], ST.out⟩⟩
      case measure => simp [intOf]; omega
    · have HE := Lib.hid (show x = umL n l by rw [HX.out.2.1, show t = n + 1 by omega]; rfl)
      go_wp2_with fail
      go_end0
      exact ⟨rfl, by rw [← HE.out]; exact HX.out.2.2⟩

set_option maxRecDepth 100000 in
set_option maxHeartbeats 4000000 in
theorem release_any (b n i : Nat) (l : List Int) (w : World) (hn : n ≤ 10) (hi : i ≤ n) (h : Mx w b n l) : Calls Tryz.prog 57 #[.pointer (some ⟨b, 0, none⟩), .int .i64 i] w (Chg w b n (rlL n i l)) := by
  have HM := Lib.hid (show MSt w b n l w from ⟨h, World.grownBy.refl _ _⟩)
  have TR := Lib.hid (fun (x : List Int) (i : Nat) (hi : i ≤ n) (w' : World) (h : MSt w b n x w') => row_any b n i w' hn hi h.1.dim)
  have HL := Lib.hid h.2
  have c0 := h.dim
  clear h
  go_enter Tryz.func57, Tryz.ntmps57
  go_wp2_with fail
  clear c0
  go_loopw [10] (fun s wr => ∃ (t : Nat) (x : List Int), t ≤ n + 1 ∧ s = .int .i64 t ∧ Hid (x.length = (n + 1) * (n + 1) ∧ x = (List.range t).foldl (rlS n i) l ∧ MSt w b n x wr)) (fun s _ => n + 1 - (intOf s).toNat)
  case atStart => exact ⟨0, l, by omega, rfl, Lib.hid ⟨HL.out, rfl, HM.out⟩⟩
  case round =>
    obtain ⟨t, x, ht, rfl, HX⟩ := hrel
    by_cases htn : t ≤ n
    · have tit := Zo.ix_lt hi htn
      have tti := Zo.ix_lt htn hi
      have c1 : wr.cell? ⟨b, 1 + i * (n + 1) + t, none⟩ = some (.int .i64 (Zo.At n x i t)) := by
        have := HX.out.2.2.1.at (j := Zo.ix n i t) (by rw [HX.out.1]; exact tit)
        rwa [show 1 + Zo.ix n i t = 1 + i * (n + 1) + t by unfold Zo.ix; omega] at this
      have f1 := HX.out.2.2.1.free (1 + i * (n + 1) + t)
      have S1 := HX.out.2.2.put (Zo.ix n i t) 1099511627776 (by rw [HX.out.1]; exact tit)
      rw [show 1 + Zo.ix n i t = 1 + i * (n + 1) + t by unfold Zo.ix; omega] at S1
      have c2 := S1.1.at (j := Zo.ix n t i) (by rw [List.length_set, HX.out.1]; exact tti)
      rw [show 1 + Zo.ix n t i = 1 + t * (n + 1) + i by unfold Zo.ix; omega] at c2
      have f2 := S1.1.free (1 + t * (n + 1) + i)
      have S2 := S1.put (Zo.ix n t i) 1099511627776 (by rw [List.length_set, HX.out.1]; exact tti)
      rw [show 1 + Zo.ix n t i = 1 + t * (n + 1) + i by unfold Zo.ix; omega] at S2
      have ST := Lib.hid (show MSt w b n (rlS n i x t) _ from S2)
      clear tit tti S1 S2
      go_wp2_with fail
      refine (TR.out _ _ hi _ HX.out.2.2).mono ?_
      rintro e w1 ⟨rfl, hw⟩
      rw [hw]; clear hw w1
      go_wp2_with fail
      refine (TR.out _ _ htn _ HX.out.2.2).mono ?_
      rintro e w1 ⟨rfl, hw⟩
      rw [hw]; clear hw w1
      go_wp2_with fail
      clear c1 f1 c2 f2
      go_roundw
      case rel => exact ⟨t + 1, _, by omega, by go_num, Lib.hid ⟨by simpa [rlS] using HX.out.1, by rw [Zo.fold_succ, ← HX.out.2.1], ST.out⟩⟩
      case measure => simp [intOf]; omega
    · have HE := Lib.hid (show x = rlL n i l by rw [HX.out.2.1, show t = n + 1 by omega]; rfl)
      go_wp2_with fail
      go_end0
      exact ⟨rfl, by rw [← HE.out]; exact HX.out.2.2⟩

def ckB (N i first : Int) : Bool := decide (first ≤ i ∧ i ≤ N)

set_option maxHeartbeats 400000 in
theorem isClock_any (N i first : Int) (v : Value) (w : World) : Calls Tryz.prog 50 #[.agg #[.int .i64 N, v], .int .i64 i, .int .i64 first] w (Made (.bool (ckB N i first)) w) := by
  by_cases h : first ≤ i
  · by_cases g : i ≤ N
    · have H := Lib.hid (show ckB N i first = true by unfold ckB; simp; omega)
      go_enter Tryz.func50, Tryz.ntmps50
      go_wp2_with fail
      go_ret
      exact ⟨ret_bool H.out.symm, one_more _⟩
    · have H := Lib.hid (show ckB N i first = false by unfold ckB; simp; omega)
      have D : decide (i ≤ N) = false := by simp; omega
      go_enter Tryz.func50, Tryz.ntmps50
      go_wp2_with fail
      go_ret
      exact ⟨ret_bool H.out.symm, one_more _⟩
  · have H := Lib.hid (show ckB N i first = false by unfold ckB; simp; omega)
    have D : decide (first ≤ i) = false := by simp; omega
    go_enter Tryz.func50, Tryz.ntmps50
    go_wp2_with fail
    go_ret
    exact ⟨ret_bool H.out.symm, one_more _⟩
end Go.Proofs.YtbnebinpemejlaaGreat

namespace Go.Proofs.YtbnebinpemejlaaGreat
open Go.RowKit

theorem cloE_pre {n : Nat} {x y : List Int} (h : Zo.pre n x = Zo.pre n y) : cloE n x = cloE n y := by
  unfold cloE cloB; rw [Zo.clo_pre h]

theorem chk_diag {n : Nat} {l : List Int} (h : chkE n l = 0) : (∀ a, a ≤ n → Zo.At n l a a = 1) ∧ ∀ a, a ≤ n → Zo.At n l 0 a ≤ 1 := by
  have hc : chkB n l = true := by
    unfold chkE at h
    cases e : chkB n l
    · rw [e] at h; simp at h
    · rfl
  unfold chkB at hc
  simp only [Bool.and_eq_true, Int.toNat_natCast] at hc
  have h1 := chk1_iff.1 hc.1.2
  constructor
  · intro a ha
    have := h1 a (by omega) a (by omega)
    unfold okI at this
    simp at this
    exact this.1.2
  · intro a ha
    have := h1 0 (by omega) a (by omega)
    unfold okI at this
    simp at this
    exact this.2

theorem umL_at {n : Nat} {l : List Int} (hl : l.length = (n + 1) * (n + 1)) {a b : Nat} (ha : a ≤ n) (hb : b ≤ n) : Zo.At n (umL n l) a b = if b = 0 then 1099511627776 else Zo.At n l a b := by
  have := (Zo.fold_at (N := n + 1) (f := umS n) (p := fun t a b => decide (a = t ∧ b = 0)) (v := 1099511627776) (fun x t ht hx => ⟨by simpa [umS] using hx, fun a b _ hb => by
    unfold umS; rw [Zo.At_set hx (by omega) (by omega) _ hb]; simp⟩) hl (n + 1) (Nat.le_refl _)).2 a b ha hb
  rw [show umL n l = (List.range (n + 1)).foldl (umS n) l from rfl, this]
  by_cases c : b = 0
  · rw [if_pos c, if_pos]
    rw [List.any_eq_true]
    exact ⟨a, List.mem_range.2 (by omega), by simpa using c⟩
  · rw [if_neg c, if_neg]
    intro h
    rw [List.any_eq_true] at h
    obtain ⟨s, _, hs⟩ := h
    simp at hs
    exact c hs.2

theorem upL_at {n : Nat} {l : List Int} (hl : l.length = (n + 1) * (n + 1)) {a b : Nat} (ha : a ≤ n) (hb : b ≤ n) : Zo.At n (upL n l) a b = if a ≠ 0 ∧ b = 0 then 1099511627776 else Zo.At n l a b := by
  have := (Zo.fold_at (N := n) (f := upS n) (p := fun t a b => decide (a = t + 1 ∧ b = 0)) (v := 1099511627776) (fun x t ht hx => ⟨by simpa [upS] using hx, fun a b _ hb => by
    unfold upS; rw [Zo.At_set hx (by omega) (by omega) _ hb]; simp⟩) hl n (Nat.le_refl _)).2 a b ha hb
  rw [show upL n l = (List.range n).foldl (upS n) l from rfl, this]
  by_cases c : a ≠ 0 ∧ b = 0
  · rw [if_pos c, if_pos]
    rw [List.any_eq_true]
    exact ⟨a - 1, List.mem_range.2 (by omega), by simp; omega⟩
  · rw [if_neg c, if_neg]
    intro h
    rw [List.any_eq_true] at h
    obtain ⟨s, _, hs⟩ := h
    simp at hs
    omega

theorem dmL_at {n : Nat} {l : List Int} (hl : l.length = (n + 1) * (n + 1)) {a b : Nat} (ha : a ≤ n) (hb : b ≤ n) : Zo.At n (dmL n l) a b = if a = 0 then 1099511627776 else Zo.At n l a b := by
  have := (Zo.fold_at (N := n + 1) (f := dmS n) (p := fun t a b => decide (a = 0 ∧ b = t)) (v := 1099511627776) (fun x t ht hx => ⟨by simpa [dmS] using hx, fun a b _ hb => by
    unfold dmS; rw [Zo.At_set hx (by omega) (by omega) _ hb]; simp⟩) hl (n + 1) (Nat.le_refl _)).2 a b ha hb
  rw [show dmL n l = (List.range (n + 1)).foldl (dmS n) l from rfl, this]
  by_cases c : a = 0
  · rw [if_pos c, if_pos]
    rw [List.any_eq_true]
    exact ⟨b, List.mem_range.2 (by omega), by simpa using c⟩
  · rw [if_neg c, if_neg]
    intro h
    rw [List.any_eq_true] at h
    obtain ⟨s, _, hs⟩ := h
    simp at hs
    exact c hs.1

theorem dnL_at {n : Nat} {l : List Int} (hl : l.length = (n + 1) * (n + 1)) {a b : Nat} (ha : a ≤ n) (hb : b ≤ n) : Zo.At n (dnL n l) a b = if a = 0 ∧ b ≠ 0 then 1 else Zo.At n l a b := by
  have := (Zo.fold_at (N := n) (f := dnS n) (p := fun t a b => decide (a = 0 ∧ b = t + 1)) (v := 1) (fun x t ht hx => ⟨by simpa [dnS] using hx, fun a b _ hb => by
    unfold dnS; rw [Zo.At_set hx (by omega) (by omega) _ hb]; simp⟩) hl n (Nat.le_refl _)).2 a b ha hb
  rw [show dnL n l = (List.range n).foldl (dnS n) l from rfl, this]
  by_cases c : a = 0 ∧ b ≠ 0
  · rw [if_pos c, if_pos]
    rw [List.any_eq_true]
    exact ⟨b - 1, List.mem_range.2 (by omega), by simp; omega⟩
  · rw [if_neg c, if_neg]
    intro h
    rw [List.any_eq_true] at h
    obtain ⟨s, _, hs⟩ := h
    simp at hs
    omega

theorem up_pre {n : Nat} {l : List Int} (hl : l.length = (n + 1) * (n + 1)) (hc : chkE n l = 0) : Zo.pre n (umL n l) = Zo.pre n (upL n l) := by
  obtain ⟨dg, _⟩ := chk_diag hc
  refine Zo.pre_eq (by rw [umL_len, hl]) (by rw [upL_len, hl]) fun a b ha hb => ⟨fun h => ?_, fun h => ?_⟩
  · rw [umL_at hl ha hb, upL_at hl ha hb]
    by_cases c : b = 0
    · rw [if_pos c, if_pos ⟨h.1, c⟩]
    · rw [if_neg c, if_neg (by omega)]
  · rw [umL_at hl ha hb, upL_at hl ha hb]
    by_cases c : b = 0
    · rw [if_pos c, if_neg (by omega)]
      have : a = 0 := by omega
      subst this; subst c
      rw [dg 0 (by omega)]; decide
    · rw [if_neg c, if_neg (by omega)]

theorem dn_pre {n : Nat} {l : List Int} (hl : l.length = (n + 1) * (n + 1)) (hc : chkE n l = 0) : Zo.pre n (dmL n l) = Zo.pre n (dnL n l) := by
  obtain ⟨dg, _⟩ := chk_diag hc
  refine Zo.pre_eq (by rw [dmL_len, hl]) (by rw [dnL_len, hl]) fun a b ha hb => ⟨fun h => ?_, fun h => ?_⟩
  · rw [dmL_at hl ha hb, dnL_at hl ha hb, if_neg h.1, if_neg (by omega)]
  · rw [dmL_at hl ha hb, dnL_at hl ha hb]
    by_cases c : a = 0
    · rw [if_pos c]
      by_cases cb : b = 0
      · rw [if_neg (by omega)]
        subst c; subst cb
        rw [dg 0 (by omega)]; decide
      · rw [if_pos ⟨c, cb⟩]; decide
    · rw [if_neg c, if_neg (by omega)]

theorem fold_64 {f : List Int → Nat → List Int} (hf : ∀ x t, Zo.A64 x → Zo.A64 (f x t)) {l : List Int} (h : Zo.A64 l) (t : Nat) : Zo.A64 ((List.range t).foldl f l) :=
  Zo.fold_keeps (R := Zo.A64) t (fun a s _ ha => hf a s ha) l h t (Nat.le_refl _)

theorem no_in : -9223372036854775808 ≤ (1099511627776 : Int) ∧ (1099511627776 : Int) ≤ 9223372036854775807 := by omega

theorem enter_up (args : Array Value) (W : World) : (callFunc 47 args).run Tryz.prog W = .ok (.enter 47 args) W := by go_simp

/-- What a call of changed gives: the same words as of the function around it. -/
theorem ch_up (N : Int) (l : List Int) (ao : Option Addr) (cap : Nat) (w : World) (hA : Arg w ao l) :
    Calls Tryz.prog 46 #[.agg #[.int .i64 N, .slice ao l.length cap], .bool true, .func (.func 47) #[] #[]] w (ZRes w N (Zo.clo N.toNat (upL N.toNat l)) (upE N l)) := by
  by_cases hc : chkE N l = 0
  · obtain ⟨n, rfl, hn, hl, hne⟩ := chk_ok hc
    have := changed_ok n l (umL n l) ao cap 47 #[] w hA hn hl hc (fold_64 (fun x t h => Zo.gt_range _ _ _ h no_in) (chk_64 hc).1 _) enter_up (fun W b _ _ hM => up1_any b n l W hn hM)
    rw [show upE (n : Int) l = cloE n (umL n l) by unfold upE; rw [if_pos hc, cloE_pre (up_pre hl hc)]; rfl]
    rw [Zo.clo_pre (up_pre hl hc)] at this
    exact this
  · refine (changed_bad N l ao cap true _ w hA (Or.inl (by unfold okB; simpa using hc))).mono fun e w' h => h.bad (by unfold upE; rw [if_neg hc])
end Go.Proofs.YtbnebinpemejlaaGreat

namespace Go.Proofs.YtbnebinpemejlaaGreat
open Go.RowKit

/-- From what a call of changed leaves to what the function around it leaves, whose result lies at x. -/
theorem zres_over {w W w4 : World} {N : Int} {l : List Int} {g c x : Nat} (hb : Below w.heap.size w W) (h : Below W.heap.size W w4) (hO : Own w4 g c l) (hg : W.heap.size ≤ g) (hx : w.heap.size ≤ x) (hlt : x < W.heap.size) (u v : Value) :
    ZRes w N l 0 (.returned (.tuple #[.agg #[.int .i64 N, .slice (some ⟨g, 0, none⟩) l.length c], .int .i64 0])) ((w4.setCell ⟨x, 0, none⟩ u).setCell ⟨x, 1, none⟩ v) :=
  ⟨((below_on hb h).setCell hx _).setCell hx _, Or.inl ⟨rfl, g, c, rfl, by have := hb.size; omega, put_far hO (by omega) _ _⟩⟩

theorem zres_over0 {w W w4 : World} {N : Int} {l : List Int} {er : Int} {x : Nat} (hb : Below w.heap.size w W) (h : Below W.heap.size W w4) (he : er ≠ 0) (hx : w.heap.size ≤ x) (u v : Value) :
    ZRes w N l er (.returned (.tuple #[.agg #[.int .i64 0, .slice none 0 0], .int .i64 er])) ((w4.setCell ⟨x, 0, none⟩ u).setCell ⟨x, 1, none⟩ v) :=
  ⟨((below_on hb h).setCell hx _).setCell hx _, Or.inr ⟨he, rfl⟩⟩

set_option maxRecDepth 100000 in
set_option maxHeartbeats 4000000 in
theorem zup_gen (N : Int) (l : List Int) (ao : Option Addr) (cap : Nat) (w : World) (hA : Arg w ao l) :
    Calls Tryz.prog 15 #[.agg #[.int .i64 N, .slice ao l.length cap]] w (ZRes w N (Zo.clo N.toNat (upL N.toNat l)) (upE N l)) := by
  have CH := Lib.hid (show ∀ W, Below w.heap.size w W → _ from fun W h => ch_up N l ao cap W (hA.on h))
  generalize Zo.clo N.toNat (upL N.toNat l) = r at *
  generalize upE N l = er at *
  generalize l.length = len at *
  obtain ⟨w0, hw0⟩ : ∃ w0, w0 = (w.alloc (.cells #[.int .i64 N, .slice ao len cap] 24)).alloc (.cells #[.int .i64 0, .slice none 0 0] 24) := ⟨_, rfl⟩
  have bx : Two w0 w.heap.size (.int .i64 N) (.slice ao len cap) := by rw [hw0]; exact (Two.made _ _ _ _).alloc _
  have rs : Two w0 (w.heap.size + 1) (.int .i64 0) (.slice none 0 0) := by
    rw [hw0]
    have := Two.made (w.alloc (.cells #[.int .i64 N, .slice ao len cap] 24)) (.int .i64 0) (.slice none 0 0) 24
    simpa using this
  have E0 := Lib.hid (show Below w.heap.size w w0 by rw [hw0]; exact past_two (Below.refl _ _))
  clear hA
  go_enter Tryz.func15, Tryz.ntmps15
  go_wp2_with fail
  rw [← hw0]
  clear hw0
  obtain ⟨b0, b1, b2, b3⟩ := bx.facts
  go_wp2_with fail
  clear b0 b1 b2 b3
  refine (CH.out _ E0.out).mono ?_
  intro e w4 hG
  obtain ⟨hb4, hres⟩ := hG
  obtain ⟨q0, q1, q2, q3⟩ := (rs.kept hb4).facts
  have HB4 := Lib.hid hb4
  have hlt := rs.lt
  rcases hres with ⟨he, g, c, rfl, hgl, hO⟩ | ⟨he, rfl⟩
  · have HO := Lib.hid hO
    subst he
    clear hO hb4
    go_wp2_with fail
    refine bodyPost_ret (v := .tuple #[.agg #[.int .i64 N, .slice (some ⟨g, 0, none⟩) r.length c], .int .i64 0]) (by simp [results, Tryz.results15, go_sem, q0, q1]) rfl (zres_over E0.out HB4.out HO.out hgl (by omega) hlt _ _)
  · have HEE := Lib.hid he
    clear he hb4
    go_wp2_with fail
    refine bodyPost_ret (v := .tuple #[.agg #[.int .i64 0, .slice none 0 0], .int .i64 er]) (by simp [results, Tryz.results15, go_sem, q0, q1]) rfl (zres_over0 E0.out HB4.out HEE.out (by omega) _ _)
end Go.Proofs.YtbnebinpemejlaaGreat

namespace Go.Proofs.YtbnebinpemejlaaGreat
open Go.RowKit

/-- Constraints: the clock I minus the clock J meets L. -/
abbrev Con := Int × Int × Int

def gc (cs : List Con) (k : Nat) : Con := cs.getD k (0, 0, 0)

def Rd3 (w : World) (a : Addr) (cs : List Con) : Prop := ∀ j, j < cs.length → w.cell? (a.add (j * 3)) = some (.int .i64 (gc cs j).1) ∧ w.cell? ⟨(a.add (j * 3)).block, (a.add (j * 3)).off + 1, none⟩ = some (.int .i64 (gc cs j).2.1) ∧ w.cell? ⟨(a.add (j * 3)).block, (a.add (j * 3)).off + 2, none⟩ = some (.int .i64 (gc cs j).2.2)

theorem Rd3.on {w w' : World} {a : Addr} {l : List Con} (h : Rd3 w a l) (hb : Below w.heap.size w w') : Rd3 w' a l := fun j hj => ⟨kept hb (h j hj).1, kept hb (h j hj).2.1, kept hb (h j hj).2.2⟩

/-- Behind writes to a row of the call's own. -/
theorem Rd3.st {w w3 w' : World} {a : Addr} {cs : List Con} {g c : Nat} {x : List Int} (h : Rd3 w a cs) (hb : Below w.heap.size w w3) (hg : w.heap.size ≤ g) (hs : St w3 g c x w') : Rd3 w' a cs := by
  intro j hj
  obtain ⟨h1, h2, h3⟩ := h j hj
  exact ⟨hs.cell (kept hb h1) (by have := World.block_lt_of_cell? w _ h1; omega), hs.cell (kept hb h2) (by have := World.block_lt_of_cell? w _ h2; omega), hs.cell (kept hb h3) (by have := World.block_lt_of_cell? w _ h3; omega)⟩

def okC (n : Nat) (c : Con) : Bool := decide (0 ≤ c.1 ∧ c.1 ≤ n ∧ 0 ≤ c.2.1 ∧ c.2.1 ≤ n) && lvB c.2.2

def anS (n : Nat) (cs : List Con) (x : List Int) (t : Nat) : List Int := x.set (Zo.ix n (gc cs t).1.toNat (gc cs t).2.1.toNat) (imin (Zo.At n x (gc cs t).1.toNat (gc cs t).2.1.toNat) (gc cs t).2.2)

def anL (n : Nat) (cs : List Con) (l : List Int) : List Int := (List.range cs.length).foldl (anS n cs) l

theorem anL_len (n : Nat) (cs : List Con) (l : List Int) : (anL n cs l).length = l.length := fold_len (fun x t => by simp [anS]) l _

def anE (n : Nat) (cs : List Con) (l : List Int) : Int := if cs.all (okC n) then cloE n (anL n cs l) else 2

theorem anE_bad {n : Nat} {cs : List Con} {l : List Int} {k : Nat} (hk : k < cs.length) (h : okC n (gc cs k) = false) : anE n cs l = 2 := by
  have : cs.all (okC n) = false := by
    rw [List.all_eq_false]
    exact ⟨cs[k], List.getElem_mem hk, by rw [show cs[k] = gc cs k by simp [gc, hk], h]; simp⟩
  unfold anE; rw [this]; rfl

theorem anE_ok {n : Nat} {cs : List Con} {l : List Int} (h : ∀ k, k < cs.length → okC n (gc cs k) = true) : anE n cs l = cloE n (anL n cs l) := by
  have : cs.all (okC n) = true := by
    rw [List.all_eq_true]
    intro x hx
    obtain ⟨k, hk, rfl⟩ := List.getElem_of_mem hx
    have := h k hk
    simpa [gc, hk] using this
  unfold anE; rw [this]; rfl
end Go.Proofs.YtbnebinpemejlaaGreat

namespace Go.Proofs.YtbnebinpemejlaaGreat
open Go.RowKit

def smB (N M : Int) (l m : List Int) : Bool := decide (N = M) && decide (l = m)

theorem smB_no1 {N M : Int} {l m : List Int} (h : N ≠ M) : smB N M l m = false := by simp [smB, h]

theorem smB_no2 {N M : Int} {l m : List Int} (h : l.length ≠ m.length) : smB N M l m = false := by
  have : l ≠ m := fun e => h (by rw [e])
  simp [smB, this]

theorem smB_no3 {N M : Int} {l m : List Int} {k : Nat} (h : Zo.gt l k ≠ Zo.gt m k) : smB N M l m = false := by
  have : l ≠ m := fun e => h (by rw [e])
  simp [smB, this]

theorem smB_yes {N M : Int} {l m : List Int} (h : N = M) (hl : l.length = m.length) (hk : ∀ k, k < l.length → Zo.gt l k = Zo.gt m k) : smB N M l m = true := by
  have : l = m := List.ext_getElem hl fun k h1 h2 => by
    have := hk k h1
    simpa [Zo.gt, h1, h2] using this
  simp [smB, h, this]

set_option maxHeartbeats 1600000 in
theorem same_any (N M : Int) (l m : List Int) (ao bo : Option Addr) (ca cb : Nat) (w : World) (hA : Arg w ao l) (hB : Arg w bo m) (ll : l.length ≤ 9223372036854775807) :
    Calls Tryz.prog 44 #[.agg #[.int .i64 N, .slice ao l.length ca], .agg #[.int .i64 M, .slice bo m.length cb]] w (Made (.bool (smB N M l m)) w) := by
  obtain ⟨len, hlen⟩ : ∃ len, len = l.length := ⟨_, rfl⟩
  obtain ⟨mlen, hmlen⟩ : ∃ mlen, mlen = m.length := ⟨_, rfl⟩
  obtain ⟨w0, hw0⟩ : ∃ w0, w0 = (w.alloc (.cells #[.int .i64 N, .slice ao len ca] 24)).alloc (.cells #[.int .i64 M, .slice bo mlen cb] 24) := ⟨_, rfl⟩
  have bx : Two w0 w.heap.size (.int .i64 N) (.slice ao len ca) := by rw [hw0]; exact (Two.made _ _ _ _).alloc _
  have by' : Two w0 (w.heap.size + 1) (.int .i64 M) (.slice bo mlen cb) := by
    rw [hw0]
    have := Two.made (w.alloc (.cells #[.int .i64 N, .slice ao len ca] 24)) (.int .i64 M) (.slice bo mlen cb) 24
    simpa using this
  have e0 : Below w.heap.size w w0 := by rw [hw0]; exact past_two (Below.refl _ _)
  have lb : (len : Int) ≤ 9223372036854775807 := by omega
  have HA := Lib.hid (hA.on e0)
  have HB := Lib.hid (hB.on e0)
  have HL := Lib.hid hlen
  have HM := Lib.hid hmlen
  have E0 := Lib.hid e0
  rw [← hlen, ← hmlen]
  clear hA hB hlen hmlen e0 ll
  by_cases hN : N = M
  · have N0 : (N != M) = false := by simpa using hN
    by_cases hS : len = mlen
    · have HS := Lib.hid hS
      have S0 : ((len : Int) != (mlen : Int)) = false := by simp; omega
      have HN := Lib.hid hN
      clear hN hS
      go_enter Tryz.func44, Tryz.ntmps44
      go_wp2_with fail
      rw [← hw0]
      clear hw0
      obtain ⟨b0, b1, b2, b3⟩ := bx.facts
      obtain ⟨c0, c1, c2, c3⟩ := by'.facts
      go_wp2_with fail
      try (go_quiet (fail); go_wp2_with fail)
      clear b0 b1 b2 b3 c0 c1 c2 c3
      go_loopw [5] (fun s wr => ∃ t : Nat, t ≤ len ∧ s = .int .i64 t ∧ Hid (∀ k, k < t → Zo.gt l k = Zo.gt m k) ∧ Hid (Below w0.heap.size w0 wr)) (fun s _ => len - (intOf s).toNat)
      case atStart => exact ⟨0, by omega, rfl, Lib.hid (fun k hk => by omega), Lib.hid (by first | exact Below.refl _ _ | exact below_drewN (Below.refl _ _) _)⟩
      case round =>
        obtain ⟨t, ht, rfl, HK, HBw⟩ := hrel
        obtain ⟨b0, b1, b2, b3⟩ := (bx.kept HBw.out).facts
        obtain ⟨c0, c1, c2, c3⟩ := (by'.kept HBw.out).facts
        by_cases htn : t < len
        · obtain ⟨a, hao, hR⟩ := HA.out (fun e => by have := HL.out; rw [e] at this; simp at this; omega)
          obtain ⟨b, hbo, hQ⟩ := HB.out (fun e => by have := HM.out; have := HS.out; rw [e] at *; simp at *; omega)
          subst hao hbo
          have d1 := kept HBw.out (hR t (by rw [← HL.out]; exact htn))
          have d2 := kept HBw.out (hQ t (by rw [← HM.out, ← HS.out]; exact htn))
          have t2 : (t : Int) < (mlen : Int) := by have := HS.out; omega
          obtain ⟨x, hx⟩ : ∃ x, x = Zo.gt l t := ⟨_, rfl⟩
          obtain ⟨y, hy⟩ : ∃ y, y = Zo.gt m t := ⟨_, rfl⟩
          rw [← hx] at d1
          rw [← hy] at d2
          have HXE := Lib.hid hx
          have HYE := Lib.hid hy
          clear hx hy hR hQ
          by_cases hxy : x = y
          · have D : (x != y) = false := by simpa using hxy
            have HXY := Lib.hid hxy
            clear hxy
            go_wp2_with fail
            go_quiet (fail)
            clear b0 b1 b2 b3 c0 c1 c2 c3 d1 d2
            go_wp2_with fail
            go_roundw
            case rel =>
              refine ⟨t + 1, by omega, by go_num, Lib.hid (fun k hk => ?_), Lib.hid (below_drewN HBw.out _)⟩
              by_cases e : k = t
              · rw [e, ← HXE.out, ← HYE.out]; exact HXY.out
              · exact HK.out k (by omega)
            case measure => simp [intOf]; omega
          · have D : (x != y) = true := by simpa using hxy
            have HE := Lib.hid (smB_no3 (N := N) (M := M) (l := l) (m := m) (k := t) (by rw [← HXE.out, ← HYE.out]; exact hxy))
            clear hxy
            go_wp2_with fail
            go_quiet (fail)
            clear b0 b1 b2 b3 c0 c1 c2 c3 d1 d2
            go_wp2_with fail
            go_ret
            exact ⟨ret_bool HE.out.symm, below_drewN (below_on E0.out HBw.out) _⟩
        · have HE := Lib.hid (smB_yes (l := l) (m := m) HN.out (by rw [← HL.out, ← HM.out]; exact HS.out) (fun k hk => HK.out k (by rw [← HL.out] at hk; omega)))
          go_wp2_with fail
          go_ret
          exact ⟨ret_bool HE.out.symm, below_on E0.out HBw.out⟩
    · have HE := Lib.hid (smB_no2 (N := N) (M := M) (l := l) (m := m) (by rw [← HL.out, ← HM.out]; exact hS))
      have S0 : ((len : Int) != (mlen : Int)) = true := by simp; omega
      clear hN
      go_enter Tryz.func44, Tryz.ntmps44
      go_wp2_with fail
      rw [← hw0]
      clear hw0
      obtain ⟨b0, b1, b2, b3⟩ := bx.facts
      obtain ⟨c0, c1, c2, c3⟩ := by'.facts
      go_wp2_with fail
      try (go_quiet (fail); go_wp2_with fail)
      go_ret
      exact ⟨ret_bool HE.out.symm, by first | exact E0.out | exact below_drewN E0.out _⟩
  · have HE := Lib.hid (smB_no1 (l := l) (m := m) hN)
    have N0 : (N != M) = true := by simpa using hN
    clear hN
    go_enter Tryz.func44, Tryz.ntmps44
    go_wp2_with fail
    rw [← hw0]
    clear hw0
    obtain ⟨b0, b1, b2, b3⟩ := bx.facts
    obtain ⟨c0, c1, c2, c3⟩ := by'.facts
    go_wp2_with fail
    try (go_quiet (fail); go_wp2_with fail)
    go_ret
    exact ⟨ret_bool HE.out.symm, by first | exact E0.out | exact below_drewN E0.out _⟩
end Go.Proofs.YtbnebinpemejlaaGreat

namespace Go.Proofs.YtbnebinpemejlaaGreat
open Go.RowKit

/-- A list of constraints that came in. -/
def Arg3 (w : World) (dao : Option Addr) (cs : List Con) : Prop := cs ≠ [] → ∃ d, dao = some d ∧ Rd3 w d cs

theorem Arg3.on {w w' : World} {ao : Option Addr} {l : List Con} (h : Arg3 w ao l) (hb : Below w.heap.size w w') : Arg3 w' ao l := fun hl => by
  obtain ⟨a, h1, h2⟩ := h hl
  exact ⟨a, h1, h2.on hb⟩

def anG (N : Int) (cs : List Con) (l : List Int) : Int := if chkE N l = 0 then anE N.toNat cs l else 2

def isC (i j c : Int) : List Con := [(i, j, 2 * c + 1), (j, i, -2 * c + 1)]

def cnB (c : Int) : Bool := decide (0 ≤ c ∧ c ≤ 1048576)
end Go.Proofs.YtbnebinpemejlaaGreat

namespace Go.Proofs.YtbnebinpemejlaaGreat
open Go.RowKit

theorem ZRes.ok {w : World} {N : Int} {l : List Int} {er : Int} {e : Ending} {w' : World} (h : ZRes w N l er e w') (he : er = 0) : ∃ g c, e = .returned (.tuple #[.agg #[.int .i64 N, .slice (some ⟨g, 0, none⟩) l.length c], .int .i64 0]) ∧ w.heap.size ≤ g ∧ Own w' g c l ∧ Below w.heap.size w w' := by
  rcases h.2 with ⟨_, g, c, h1, h2, h3⟩ | ⟨h1, _⟩
  · exact ⟨g, c, h1, h2, h3, h.1⟩
  · exact absurd he h1

theorem ZRes.no {w : World} {N : Int} {l : List Int} {er : Int} {e : Ending} {w' : World} (h : ZRes w N l er e w') (he : er ≠ 0) : e = .returned (.tuple #[.agg #[.int .i64 0, .slice none 0 0], .int .i64 er]) ∧ Below w.heap.size w w' := by
  rcases h.2 with ⟨h1, _⟩ | ⟨_, h1⟩
  · exact absurd h1 he
  · exact ⟨h1, h.1⟩

theorem Own.arg {w : World} {g c : Nat} {l : List Int} (h : Own w g c l) : Arg w (some ⟨g, 0, none⟩) l := fun _ => ⟨_, rfl, h.rd⟩

/-- What Reset returns: Free, then And. -/
def reM (n i : Nat) (l : List Int) : List Int := Zo.clo n (frL n i l)

def reL (n i : Nat) (c : Int) (l : List Int) : List Int := Zo.clo n (anL n (isC i 0 c) (reM n i l))

def reE (n i : Nat) (c : Int) (l : List Int) : Int := if cloE n (frL n i l) = 0 then anG n (isC i 0 c) (reM n i l) else cloE n (frL n i l)

theorem own_below {w w' : World} {g c : Nat} {l : List Int} (h : Own w g c l) (hb : Below w.heap.size w w') : Own w' g c l :=
  h.kept (row := none) ⟨hb.os, hb.tape, hb.output, hb.size, fun k hk _ => hb.block k hk⟩ (by simp)
end Go.Proofs.YtbnebinpemejlaaGreat

namespace Go.Proofs.YtbnebinpemejlaaGreat
open Go.RowKit

theorem rlL_at {n i : Nat} {l : List Int} (hl : l.length = (n + 1) * (n + 1)) (hi : i ≤ n) {a b : Nat} (ha : a ≤ n) (hb : b ≤ n) : Zo.At n (rlL n i l) a b = if a = i ∨ b = i then 1099511627776 else Zo.At n l a b := by
  have := (Zo.fold_at (N := n + 1) (f := rlS n i) (p := fun t a b => decide ((a = t ∧ b = i) ∨ (a = i ∧ b = t))) (v := 1099511627776) (fun x t ht hx => ⟨by simpa [rlS] using hx, fun a b _ hb => by
    unfold rlS
    rw [Zo.At_set (by simpa using hx) (by omega) hi _ hb, Zo.At_set hx hi (by omega) _ hb]
    by_cases c1 : a = t ∧ b = i
    · simp [c1]
    · by_cases c2 : a = i ∧ b = t
      · simp [c2]
      · rw [if_neg c1, if_neg c2, if_neg (by simp; omega)]⟩) hl (n + 1) (Nat.le_refl _)).2 a b ha hb
  rw [show rlL n i l = (List.range (n + 1)).foldl (rlS n i) l from rfl, this]
  by_cases c : a = i ∨ b = i
  · rw [if_pos c, if_pos]
    rw [List.any_eq_true]
    by_cases ca : a = i
    · exact ⟨b, List.mem_range.2 (by omega), by simp [ca]⟩
    · exact ⟨a, List.mem_range.2 (by omega), by simp; omega⟩
  · rw [if_neg c, if_neg]
    intro h
    rw [List.any_eq_true] at h
    obtain ⟨s, _, hs⟩ := h
    simp at hs
    omega

theorem frL_at {n i : Nat} {l : List Int} (hl : l.length = (n + 1) * (n + 1)) (hi : i ≤ n) {a b : Nat} (ha : a ≤ n) (hb : b ≤ n) : Zo.At n (frL n i l) a b = if (a = i ∨ b = i) ∧ a ≠ b then 1099511627776 else Zo.At n l a b := by
  have := (Zo.fold_at (N := n + 1) (f := frS n i) (p := fun t a b => decide (t ≠ i ∧ ((a = t ∧ b = i) ∨ (a = i ∧ b = t)))) (v := 1099511627776) (fun x t ht hx => ⟨by rw [frS_len]; exact hx, fun a b _ hb => by
    unfold frS
    by_cases ct : t = i
    · rw [if_pos ct, if_neg (by simp; omega)]
    · rw [if_neg ct, Zo.At_set (by simpa using hx) (by omega) hi _ hb, Zo.At_set hx hi (by omega) _ hb]
      by_cases c1 : a = t ∧ b = i
      · simp [c1, ct]
      · by_cases c2 : a = i ∧ b = t
        · simp [c2, ct]
        · rw [if_neg c1, if_neg c2, if_neg (by simp; omega)]⟩) hl (n + 1) (Nat.le_refl _)).2 a b ha hb
  rw [show frL n i l = (List.range (n + 1)).foldl (frS n i) l from rfl, this]
  by_cases c : (a = i ∨ b = i) ∧ a ≠ b
  · rw [if_pos c, if_pos]
    rw [List.any_eq_true]
    by_cases ca : a = i
    · exact ⟨b, List.mem_range.2 (by omega), by simp [ca]; omega⟩
    · exact ⟨a, List.mem_range.2 (by omega), by simp; omega⟩
  · rw [if_neg c, if_neg]
    intro h
    rw [List.any_eq_true] at h
    obtain ⟨s, _, hs⟩ := h
    simp at hs
    omega

theorem fr_pre {n i : Nat} {l : List Int} (hl : l.length = (n + 1) * (n + 1)) (hi : i ≤ n) (hc : chkE n l = 0) : Zo.pre n (rlL n i l) = Zo.pre n (frL n i l) := by
  obtain ⟨dg, _⟩ := chk_diag hc
  refine Zo.pre_eq (by rw [rlL_len, hl]) (by rw [frL_len, hl]) fun a b ha hb => ⟨fun h => ?_, fun h => ?_⟩
  · rw [rlL_at hl hi ha hb, frL_at hl hi ha hb]
    by_cases c : a = i ∨ b = i
    · rw [if_pos c, if_pos ⟨c, h.2⟩]
    · rw [if_neg c, if_neg (by omega)]
  · rw [rlL_at hl hi ha hb, frL_at hl hi ha hb]
    by_cases c : a = i ∨ b = i
    · rw [if_pos c]
      by_cases e : a = b
      · rw [if_neg (by omega)]
        subst e
        rw [dg a ha]; decide
      · rw [if_pos ⟨c, e⟩]
    · rw [if_neg c, if_neg (by omega)]

theorem rlL_64 {n i : Nat} {l : List Int} (h : Zo.A64 l) : Zo.A64 (rlL n i l) := fold_64 (fun _ _ h => Zo.gt_range _ _ _ (Zo.gt_range _ _ _ h no_in) no_in) h _

theorem ck_nat {n : Nat} {i first : Int} (h : ckB n i first = true) (h0 : 0 ≤ first) : ∃ k : Nat, i = k ∧ k ≤ n ∧ first ≤ k := by
  unfold ckB at h; simp at h; exact ⟨i.toNat, by omega, by omega, by omega⟩
end Go.Proofs.YtbnebinpemejlaaGreat

namespace Go.Proofs.YtbnebinpemejlaaGreat
open Go.RowKit

def okZ (N : Int) (c : Con) : Bool := ckB N c.1 0 && (ckB N c.2.1 0 && lvB c.2.2)

theorem okZ_nat (n : Nat) (c : Con) : okZ n c = okC n c := by
  unfold okZ okC ckB
  cases lvB c.2.2
  · simp
  · rw [Bool.eq_iff_iff]; simp; omega

set_option maxRecDepth 100000 in
set_option maxHeartbeats 1000000 in
theorem and1_any (N I J L : Int) (v : Value) (pb : Nat) (w : World) (h0 : w.cell? ⟨pb, 0, none⟩ = some (.int .i64 N)) (h1 : w.cell? ⟨pb, 1, none⟩ = some v) :
    Calls Tryz.prog 49 #[.agg #[.int .i64 I, .int .i64 J, .int .i64 L], .pointer (some ⟨pb, 0, none⟩)] w (Made (.bool (!okZ N (I, J, L))) w) := by
  have C1 := Lib.hid (fun W => isClock_any N I 0 v W)
  have C2 := Lib.hid (fun W => isClock_any N J 0 v W)
  have C3 := Lib.hid (fun W => limValid_free L W)
  have HO := Lib.hid (show okZ N (I, J, L) = (ckB N I 0 && (ckB N J 0 && lvB L)) from rfl)
  generalize okZ N (I, J, L) = ok at *
  generalize ckB N I 0 = k1 at *
  generalize ckB N J 0 = k2 at *
  generalize lvB L = k3 at *
  obtain ⟨w0, hw0⟩ : ∃ w0, w0 = w.alloc (.cells #[.int .i64 I, .int .i64 J, .int .i64 L] 48) := ⟨_, rfl⟩
  have a0 : w0.cell? ⟨pb, 0, none⟩ = some (.int .i64 N) := by rw [hw0]; exact kept (one_more _) h0
  have a1 : w0.cell? ⟨pb, 1, none⟩ = some v := by rw [hw0]; exact kept (one_more _) h1
  have x0 : w0.cell? ⟨w.heap.size, 0, none⟩ = some (.int .i64 I) := by rw [hw0]; go_simp
  have x1 : w0.cell? ⟨w.heap.size, 1, none⟩ = some (.int .i64 J) := by rw [hw0]; go_simp
  have x2 : w0.cell? ⟨w.heap.size, 2, none⟩ = some (.int .i64 L) := by rw [hw0]; go_simp
  have E0 := Lib.hid (show Below w.heap.size w w0 by rw [hw0]; exact one_more _)
  have KS := Lib.hid (show ∀ w' : World, Below w0.heap.size w0 w' → (w'.cell? ⟨pb, 0, none⟩ = some (.int .i64 N) ∧ w'.cell? ⟨pb, 1, none⟩ = some v) ∧ w'.cell? ⟨w.heap.size, 0, none⟩ = some (.int .i64 I) ∧ w'.cell? ⟨w.heap.size, 1, none⟩ = some (.int .i64 J) ∧ w'.cell? ⟨w.heap.size, 2, none⟩ = some (.int .i64 L) from
    fun w' h => ⟨⟨kept h a0, kept h a1⟩, kept h x0, kept h x1, kept h x2⟩)
  have y0 : (w.alloc (.cells #[.int .i64 I, .int .i64 J, .int .i64 L] 48)).cell? ⟨pb, 0, none⟩ = some (.int .i64 N) := kept (one_more _) h0
  have y1 : (w.alloc (.cells #[.int .i64 I, .int .i64 J, .int .i64 L] 48)).cell? ⟨pb, 1, none⟩ = some v := kept (one_more _) h1
  clear h0 h1
  go_enter Tryz.func49, Tryz.ntmps49
  go_wp2_with fail
  rw [← hw0]
  clear hw0 y0 y1
  refine (C1.out _).mono ?_
  rintro e w1 ⟨rfl, hb1⟩
  clear a0 a1 x0 x1 x2
  obtain ⟨⟨a0, a1⟩, x0, x1, x2⟩ := KS.out _ hb1
  have B1 := Lib.hid hb1
  clear hb1
  cases k1
  · have HR := Lib.hid (show ok = false by rw [HO.out]; rfl)
    go_wp2_with fail
    go_ret
    exact ⟨ret_bool (by rw [HR.out]; rfl), below_on E0.out B1.out⟩
  · go_wp2_with fail
    refine (C2.out _).mono ?_
    rintro e w2 ⟨rfl, hb2⟩
    have B2 := Lib.hid (below_on B1.out hb2)
    clear hb2 a0 a1 x0 x1 x2
    obtain ⟨⟨a0, a1⟩, x0, x1, x2⟩ := KS.out _ B2.out
    cases k2
    · have HR := Lib.hid (show ok = false by rw [HO.out]; rfl)
      go_wp2_with fail
      go_ret
      exact ⟨ret_bool (by rw [HR.out]; rfl), below_on E0.out B2.out⟩
    · go_wp2_with fail
      refine (C3.out _).mono ?_
      rintro e w3 ⟨rfl, hw⟩
      rw [hw]; clear hw w3
      have HR := Lib.hid (show ok = k3 by rw [HO.out]; rfl)
      go_wp2_with fail
      go_ret
      exact ⟨ret_bool (by rw [HR.out]), below_on E0.out B2.out⟩

def aokB (N : Int) (cs : List Con) : Bool := cs.all (okZ N)

/-- The number of the first wrong constraint, or -1. -/
def Idx (N : Int) (cs : List Con) (w : World) (e : Ending) (w' : World) : Prop := ∃ r : Int, e = .returned (.int .i64 r) ∧ (decide (0 ≤ r) = !aokB N cs) ∧ Below w.heap.size w w'

set_option maxRecDepth 100000 in
set_option maxHeartbeats 4000000 in
theorem index_any (N : Int) (v : Value) (pb : Nat) (cs : List Con) (dao : Option Addr) (dc : Nat) (w : World) (hD : Arg3 w dao cs) (hdl : cs.length ≤ 1000) (h0 : w.cell? ⟨pb, 0, none⟩ = some (.int .i64 N)) (h1 : w.cell? ⟨pb, 1, none⟩ = some v) :
    Calls Tryz.prog 84 #[.slice dao cs.length dc, .func (.func 49) #[] #[.pointer (some ⟨pb, 0, none⟩)]] w (Idx N cs w) := by
  have hd : ∃ d, (cs ≠ [] → dao = some d) ∧ Rd3 w d cs := by
    by_cases he : cs = []
    · exact ⟨⟨0, 0, none⟩, fun h => absurd he h, by rw [he]; intro j hj; simp at hj⟩
    · obtain ⟨d, h2, h3⟩ := hD he
      exact ⟨d, fun _ => h2, h3⟩
  obtain ⟨d, hdo, hR⟩ := hd
  have HR := Lib.hid hR
  have C1 := Lib.hid (show ∀ (W : World) (c : Con), Below w.heap.size w W → Calls Tryz.prog 49 #[.agg #[.int .i64 c.1, .int .i64 c.2.1, .int .i64 c.2.2], .pointer (some ⟨pb, 0, none⟩)] W (Made (.bool (!okZ N c)) W) from fun W c h => and1_any N c.1 c.2.1 c.2.2 v pb W (kept h h0) (kept h h1))
  obtain ⟨len, hlen⟩ : ∃ len, len = cs.length := ⟨_, rfl⟩
  have HL := Lib.hid hlen
  have hz : ∀ t : Nat, t < len → dao = some d := fun t ht => hdo (by intro e; rw [e] at hlen; simp at hlen; omega)
  have hl2 : len ≤ 1000 := by omega
  rw [← hlen]
  clear hlen hR hD h0 h1 hdl hdo
  go_enter Tryz.func84, Tryz.ntmps84
  go_wp2_with fail
  go_loopw [8] (fun s wr => ∃ t : Nat, t ≤ len ∧ s = .int .i64 t ∧ Hid (∀ i, i < t → okZ N (gc cs i) = true) ∧ Hid (Below w.heap.size w wr)) (fun s _ => len - (intOf s).toNat)
  case atStart => exact ⟨0, by omega, rfl, Lib.hid (fun i hi => by omega), Lib.hid (Below.refl _ _)⟩
  case round =>
    obtain ⟨t, ht, rfl, HT, HB⟩ := hrel
    by_cases htn : t < len
    · obtain rfl := hz t htn
      obtain ⟨c0, c1, c2⟩ := (HR.out.on HB.out) t (by rw [← HL.out]; exact htn)
      obtain ⟨c, hc⟩ : ∃ c, c = gc cs t := ⟨_, rfl⟩
      rw [← hc] at c0 c1 c2
      have HC := Lib.hid hc
      have CC := C1.out
      have C2 := Lib.hid (fun W h => CC W c h)
      clear hc CC
      cases ho : okZ N c
      · rw [ho] at C2
        have HE := Lib.hid (show aokB N cs = false by
          unfold aokB
          rw [List.all_eq_false]
          have hlt : t < cs.length := by rw [← HL.out]; exact htn
          exact ⟨cs[t], List.getElem_mem hlt, by rw [show cs[t] = c by rw [HC.out]; simp [gc, hlt], ho]; simp⟩)
        clear ho
        go_wp2_with fail
        refine (C2.out _ HB.out).mono ?_
        rintro e w1 ⟨rfl, hb⟩
        have HB1 := Lib.hid (below_on HB.out hb)
        clear hb c0 c1 c2
        go_wp2_with fail
        go_ret
        exact ⟨t, rfl, by rw [HE.out]; simp, HB1.out⟩
      · rw [ho] at C2
        have HO := Lib.hid ho
        clear ho
        go_wp2_with fail
        refine (C2.out _ HB.out).mono ?_
        rintro e w1 ⟨rfl, hb⟩
        have HB1 := Lib.hid (below_on HB.out hb)
        clear hb c0 c1 c2
        go_wp2_with fail
        go_roundw
        case rel =>
          refine ⟨t + 1, by omega, by go_num, Lib.hid (fun i hi => ?_), HB1⟩
          by_cases e : i = t
          · rw [e, ← HC.out]; exact HO.out
          · exact HT.out i (by omega)
        case measure => simp [intOf]; omega
    · have HE := Lib.hid (show aokB N cs = true by
        unfold aokB
        rw [List.all_eq_true]
        intro x hx
        obtain ⟨i, hi, rfl⟩ := List.getElem_of_mem hx
        have := HT.out i (by have := HL.out; omega)
        simpa [gc, hi] using this)
      go_wp2_with fail
      go_ret
      exact ⟨-1, rfl, by rw [HE.out]; rfl, HB.out⟩

set_option maxRecDepth 100000 in
theorem contains_any (N : Int) (v : Value) (pb : Nat) (cs : List Con) (dao : Option Addr) (dc : Nat) (w : World) (hD : Arg3 w dao cs) (hdl : cs.length ≤ 1000) (h0 : w.cell? ⟨pb, 0, none⟩ = some (.int .i64 N)) (h1 : w.cell? ⟨pb, 1, none⟩ = some v) :
    Calls Tryz.prog 48 #[.slice dao cs.length dc, .func (.func 49) #[] #[.pointer (some ⟨pb, 0, none⟩)]] w (Made (.bool (!aokB N cs)) w) := by
  have CI := Lib.hid (index_any N v pb cs dao dc w hD hdl h0 h1)
  generalize cs.length = len at *
  clear hD h0 h1
  go_enter Tryz.func48, Tryz.ntmps48
  go_wp2_with fail
  refine CI.out.mono ?_
  rintro e w1 ⟨r, rfl, hr, hb⟩
  have HB := Lib.hid hb
  have HRR := Lib.hid hr
  clear hb hr
  go_wp2_with fail
  go_ret
  exact ⟨ret_bool HRR.out, HB.out⟩
end Go.Proofs.YtbnebinpemejlaaGreat

namespace Go.Proofs.YtbnebinpemejlaaGreat
open Go.RowKit

theorem MSt.alloc {w0 w : World} {b n : Nat} {l : List Int} (h : MSt w0 b n l w) (o : Obj) : MSt w0 b n l (w.alloc o) := ⟨h.1.alloc o, grown_trans h.2 (World.grownBy_alloc w o _)⟩

/-- What lay there ahead of the call of changed is there while its matrix turns. -/
theorem MSt.old {w0 w w' : World} {b n : Nat} {x : List Int} (hb : Below w0.heap.size w0 w) (hle : w0.heap.size ≤ b) (h : MSt w b n x w') {p : Addr} {v : Value} (hp : w0.cell? p = some v) : w'.cell? p = some v := by
  have hlt := World.block_lt_of_cell? w0 _ hp
  exact h.2.cell (kept hb hp) (by simp; omega)

theorem Rd3.mst {w0 w w' : World} {b n : Nat} {x : List Int} {d : Addr} {cs : List Con} (hR : Rd3 w0 d cs) (hb : Below w0.heap.size w0 w) (hle : w0.heap.size ≤ b) (h : MSt w b n x w') : Rd3 w' d cs :=
  fun j hj => ⟨h.old hb hle (hR j hj).1, h.old hb hle (hR j hj).2.1, h.old hb hle (hR j hj).2.2⟩

set_option maxRecDepth 100000 in
set_option maxHeartbeats 4000000 in
theorem and2_any (b n : Nat) (l : List Int) (cs : List Con) (dao : Option Addr) (dc : Nat) (lb : Addr) (w0 w : World) (hn : n ≤ 10) (hD : Arg3 w0 dao cs) (hdl : cs.length ≤ 1000) (hok : ∀ k, k < cs.length → okC n (gc cs k) = true)
    (hlb : w0.cell? lb = some (.slice dao cs.length dc)) (hb : Below w0.heap.size w0 w) (hle : w0.heap.size ≤ b) (h : Mx w b n l) :
    Calls Tryz.prog 52 #[.pointer (some ⟨b, 0, none⟩), .pointer (some lb)] w (Chg w b n (anL n cs l)) := by
  have hd : ∃ d, (cs ≠ [] → dao = some d) ∧ Rd3 w0 d cs := by
    by_cases he : cs = []
    · exact ⟨⟨0, 0, none⟩, fun h => absurd he h, by rw [he]; intro j hj; simp at hj⟩
    · obtain ⟨d, h2, h3⟩ := hD he
      exact ⟨d, fun _ => h2, h3⟩
  obtain ⟨d, hdo, hR⟩ := hd
  have KR := Lib.hid (show ∀ x w', MSt w b n x w' → Rd3 w' d cs from fun x w' hm => hR.mst hb hle hm)
  have HM := Lib.hid (show MSt w b n l w from ⟨h, World.grownBy.refl _ _⟩)
  have c0 : w.cell? lb = some (.slice dao cs.length dc) := kept hb hlb
  have HLL := Lib.hid h.2
  have OK := Lib.hid hok
  obtain ⟨len, hlen⟩ : ∃ len, len = cs.length := ⟨_, rfl⟩
  have HL := Lib.hid hlen
  have hz : ∀ t : Nat, t < len → dao = some d := fun t ht => hdo (by intro e; rw [e] at hlen; simp at hlen; omega)
  have hl2 : len ≤ 1000 := by omega
  rw [← hlen] at c0
  clear hlen hR hD hdl hdo hok hlb hb hle h
  go_enter Tryz.func52, Tryz.ntmps52
  go_wp2_with fail
  clear c0
  go_loopw [7] (fun s wr => ∃ (t : Nat) (x : List Int), t ≤ len ∧ s = .int .i64 t ∧ Hid (x.length = (n + 1) * (n + 1) ∧ x = (List.range t).foldl (anS n cs) l ∧ MSt w b n x wr)) (fun s _ => len - (intOf s).toNat)
  case atStart => exact ⟨0, l, by omega, rfl, Lib.hid ⟨HLL.out, rfl, HM.out⟩⟩
  case round =>
    obtain ⟨t, x, ht, rfl, HX⟩ := hrel
    by_cases htn : t < len
    · obtain rfl := hz t htn
      obtain ⟨c0, c1, c2⟩ := (KR.out _ _ HX.out.2.2) t (by rw [← HL.out]; exact htn)
      obtain ⟨c, hc⟩ : ∃ c, c = gc cs t := ⟨_, rfl⟩
      have hok := OK.out t (by rw [← HL.out]; exact htn)
      rw [← hc] at c0 c1 c2 hok
      have HC := Lib.hid hc
      unfold okC at hok
      simp only [Bool.and_eq_true, decide_eq_true_eq] at hok
      obtain ⟨⟨i1, i2, j1, j2⟩, _⟩ := hok
      obtain ⟨ci, cj, cl⟩ := c
      simp only at i1 i2 j1 j2 c0 c1 c2
      obtain ⟨i, rfl⟩ := Int.eq_ofNat_of_zero_le i1
      obtain ⟨j, rfl⟩ := Int.eq_ofNat_of_zero_le j1
      have TT := Lib.hid (fun (w' : World) (h : MSt w b n x w') => tighten_st (i := i) (j := j) cl hn (by omega) (by omega) h)
      have HS := Lib.hid (show anS n cs x t = x.set (Zo.ix n i j) (imin (Zo.At n x i j) cl) by unfold anS; rw [← HC.out]; rfl)
      clear hc
      go_wp2_with fail
      refine (TT.out _ (HX.out.2.2.alloc _)).mono ?_
      rintro e w1 ⟨rfl, hm⟩
      have HM1 := Lib.hid hm
      clear hm c0 c1 c2
      go_wp2_with fail
      go_roundw
      case rel => exact ⟨t + 1, _, by omega, by go_num, Lib.hid ⟨by simpa using HX.out.1, by rw [Zo.fold_succ, ← HX.out.2.1, HS.out], HM1.out⟩⟩
      case measure => simp [intOf]; omega
    · have HE := Lib.hid (show x = anL n cs l by rw [HX.out.2.1]; unfold anL; rw [← HL.out, show t = len by omega])
      go_wp2_with fail
      go_end0
      exact ⟨rfl, by rw [← HE.out]; exact HX.out.2.2⟩

theorem enter_an (args : Array Value) (W : World) : (callFunc 52 args).run Tryz.prog W = .ok (.enter 52 args) W := by go_simp

theorem aok_nat {n : Nat} {cs : List Con} : aokB n cs = cs.all (okC n) := by
  unfold aokB; congr 1; funext c; exact okZ_nat n c

theorem anL_64 {n : Nat} {cs : List Con} {l : List Int} (h : Zo.A64 l) (hok : cs.all (okC n) = true) : Zo.A64 (anL n cs l) := by
  unfold anL
  refine Zo.fold_keeps (R := Zo.A64) cs.length (fun x t ht hx => ?_) l h _ (Nat.le_refl _)
  unfold anS imin
  refine hx.min_ _ _ _ _ ?_ _
  rw [List.all_eq_true] at hok
  have := hok _ (List.getElem_mem ht)
  rw [show cs[t] = gc cs t by simp [gc, ht]] at this
  unfold okC at this
  simp only [Bool.and_eq_true] at this
  have := vl_of_lv this.2
  unfold Zo.Vl at this
  omega

theorem ch_an (N : Int) (l : List Int) (ao : Option Addr) (cap : Nat) (cs : List Con) (dao : Option Addr) (dc : Nat) (lb : Addr) (w : World) (hA : Arg w ao l) (hD : Arg3 w dao cs) (hdl : cs.length ≤ 1000) (hlb : w.cell? lb = some (.slice dao cs.length dc)) :
    Calls Tryz.prog 46 #[.agg #[.int .i64 N, .slice ao l.length cap], .bool (aokB N cs), .func (.func 52) #[] #[.pointer (some lb)]] w (ZRes w N (Zo.clo N.toNat (anL N.toNat cs l)) (anG N cs l)) := by
  by_cases hc : chkE N l = 0
  · obtain ⟨n, rfl, hn, hl, hne⟩ := chk_ok hc
    cases hk : aokB n cs
    · refine (changed_bad n l ao cap false _ w hA (Or.inr rfl)).mono fun e w' h => h.bad ?_
      unfold anG anE; rw [if_pos hc]
      rw [aok_nat] at hk
      simp only [Int.toNat_natCast]
      rw [hk]; rfl
    · have hk2 := hk
      rw [aok_nat] at hk2
      have := changed_ok n l (anL n cs l) ao cap 52 #[.pointer (some lb)] w hA hn hl hc (anL_64 (chk_64 hc).1 hk2) enter_an (fun W b hb hle hM => and2_any b n l cs dao dc lb w W hn hD hdl (fun k hk' => by
        rw [List.all_eq_true] at hk2
        have := hk2 _ (List.getElem_mem hk')
        rwa [show cs[k] = gc cs k by simp [gc, hk']] at this) hlb hb hle hM)
      rw [show anG (n : Int) cs l = cloE n (anL n cs l) by unfold anG anE; rw [if_pos hc]; simp only [Int.toNat_natCast]; rw [hk2]; rfl]
      exact this
  · refine (changed_bad N l ao cap _ _ w hA (Or.inl (by unfold okB; simpa using hc))).mono fun e w' h => h.bad ?_
    unfold anG; rw [if_neg hc]

set_option maxRecDepth 100000 in
set_option maxHeartbeats 4000000 in
theorem zan_gen (N : Int) (l : List Int) (ao : Option Addr) (cap : Nat) (cs : List Con) (dao : Option Addr) (dc : Nat) (w : World) (hA : Arg w ao l) (hD : Arg3 w dao cs) (hdl : cs.length ≤ 1000) :
    Calls Tryz.prog 16 #[.agg #[.int .i64 N, .slice ao l.length cap], .slice dao cs.length dc] w (ZRes w N (Zo.clo N.toNat (anL N.toNat cs l)) (anG N cs l)) := by
  have CH := Lib.hid (show ∀ W lb, Below w.heap.size w W → W.cell? lb = some (.slice dao cs.length dc) → _ from fun W lb h hp => ch_an N l ao cap cs dao dc lb W (hA.on h) (hD.on h) hdl hp)
  have CT := Lib.hid (show ∀ W pb, Below w.heap.size w W → W.cell? ⟨pb, 0, none⟩ = some (.int .i64 N) → W.cell? ⟨pb, 1, none⟩ = some (.slice ao l.length cap) → _ from fun W pb h hp hq => contains_any N (.slice ao l.length cap) pb cs dao dc W (hD.on h) hdl hp hq)
  generalize Zo.clo N.toNat (anL N.toNat cs l) = r at *
  generalize anG N cs l = er at *
  generalize aokB N cs = ck at *
  generalize l.length = len at *
  generalize cs.length = clen at *
  obtain ⟨w0, hw0⟩ : ∃ w0, w0 = ((w.alloc (.cells #[.int .i64 N, .slice ao len cap] 24)).alloc (.cells #[.slice dao clen dc] 49)).alloc (.cells #[.int .i64 0, .slice none 0 0] 24) := ⟨_, rfl⟩
  have b0 : w0.cell? ⟨w.heap.size, 0, none⟩ = some (.int .i64 N) := by rw [hw0]; go_simp
  have b1 : w0.cell? ⟨w.heap.size, 1, none⟩ = some (.slice ao len cap) := by rw [hw0]; go_simp
  have b2 : w0.cell? ⟨w.heap.size + 1, 0, none⟩ = some (.slice dao clen dc) := by rw [hw0]; go_simp
  have rs : Two w0 (w.heap.size + 1 + 1) (.int .i64 0) (.slice none 0 0) := by
    rw [hw0]
    have := Two.made ((w.alloc (.cells #[.int .i64 N, .slice ao len cap] 24)).alloc (.cells #[.slice dao clen dc] 49)) (.int .i64 0) (.slice none 0 0) 24
    simpa using this
  have z0 : w0.heap.size = w.heap.size + 3 := by rw [hw0]; simp
  have E0 := Lib.hid (show Below w.heap.size w w0 by rw [hw0]; exact past_three (Below.refl _ _))
  have KS := Lib.hid (show ∀ w' : World, Below w0.heap.size w0 w' → w'.cell? ⟨w.heap.size, 0, none⟩ = some (.int .i64 N) ∧ w'.cell? ⟨w.heap.size, 1, none⟩ = some (.slice ao len cap) ∧ w'.cell? ⟨w.heap.size + 1, 0, none⟩ = some (.slice dao clen dc) from fun w' h => ⟨kept h b0, kept h b1, kept h b2⟩)
  have HRS := Lib.hid rs
  clear hA hD hdl rs
  go_enter Tryz.func16, Tryz.ntmps16
  go_wp2_with fail
  rw [← hw0]
  clear hw0
  refine (CT.out _ _ E0.out b0 b1).mono ?_
  rintro e w1 ⟨rfl, hb1⟩
  clear b0 b1 b2
  obtain ⟨b0, b1, b2⟩ := KS.out _ hb1
  have B1 := Lib.hid hb1
  clear hb1
  go_wp2_with fail
  refine (CH.out _ _ (below_on E0.out B1.out) b2).mono ?_
  intro e w4 hG
  obtain ⟨hb4, hres⟩ := hG
  have HB4 := Lib.hid (below_on B1.out hb4)
  obtain ⟨q0, q1, q2, q3⟩ := (HRS.out.kept HB4.out).facts
  have h1s := B1.out.size
  clear b0 b1 b2
  rcases hres with ⟨he, g, c, rfl, hgl, hO⟩ | ⟨he, rfl⟩
  · have HO := Lib.hid hO
    subst he
    clear hO hb4
    go_wp2_with fail
    refine bodyPost_ret (v := .tuple #[.agg #[.int .i64 N, .slice (some ⟨g, 0, none⟩) r.length c], .int .i64 0]) (by simp [results, Tryz.results16, go_sem, q0, q1]) rfl (zres_over E0.out HB4.out HO.out (by omega) (by omega) (by omega) _ _)
  · have HEE := Lib.hid he
    clear he hb4
    go_wp2_with fail
    refine bodyPost_ret (v := .tuple #[.agg #[.int .i64 0, .slice none 0 0], .int .i64 er]) (by simp [results, Tryz.results16, go_sem, q0, q1]) rfl (zres_over0 E0.out HB4.out HEE.out (by omega) _ _)
end Go.Proofs.YtbnebinpemejlaaGreat

namespace Go.Proofs.YtbnebinpemejlaaGreat.Zo

theorem le_dec {a b : Int} (ha : a ≤ 1099511627776) (hb : b ≤ 1099511627776) : le (dec a) (dec b) ↔ a ≤ b := by
  unfold dec
  by_cases h1 : a = 1099511627776
  · by_cases h2 : b = 1099511627776
    · simp [h1, h2, le]
    · rw [if_pos h1, if_neg h2]; simp [le]; omega
  · by_cases h2 : b = 1099511627776
    · rw [if_neg h1, if_pos h2]; simp [le]; omega
    · rw [if_neg h1, if_neg h2]; simp [le]

/-- A closed matrix: it keeps to the inequality of triangles, and its diagonal is 'at most 0'. -/
structure Cl (n : Nat) (c : List Int) (D : Nat → Nat → Lm) : Prop where
  rep : Rep n c D
  tri : Tri (n + 1) D
  bd : Bd D
  dg : ∀ k, k ≤ n → D k k = some 1
  row : ∀ a, a ≤ n → At n c 0 a ≤ 1

theorem Cl.top {n : Nat} {c : List Int} {D : Nat → Nat → Lm} (h : Cl n c D) {a b : Nat} (ha : a ≤ n) (hb : b ≤ n) : At n c a b ≤ 1099511627776 := by
  rw [h.rep.2 a b ha hb]
  cases e : D a b with
  | none => simp [enc]
  | some x => have := h.bd a b x e; simp [enc]; omega

theorem Cl.dec {n : Nat} {c : List Int} {D : Nat → Nat → Lm} (h : Cl n c D) {a b : Nat} (ha : a ≤ n) (hb : b ≤ n) : D a b = dec (At n c a b) := by
  rw [h.rep.2 a b ha hb]
  cases e : D a b with
  | none => simp [enc, Zo.dec]
  | some x =>
    have := h.bd a b x e
    show some x = Zo.dec x
    unfold Zo.dec
    rw [if_neg (by omega)]

theorem Cl.one {n : Nat} {c : List Int} {D : Nat → Nat → Lm} (h : Cl n c D) {a : Nat} (ha : a ≤ n) : At n c a a = 1 := by
  rw [h.rep.2 a a ha ha, h.dg a ha]; rfl

theorem clo_lows {n : Nat} {l : List Int} (hl : l.length = (n + 1) * (n + 1)) : ∀ a, a ≤ n → At n (clo n l) a a ≤ 1 ∧ At n (clo n l) 0 a ≤ 1 := by
  intro a ha
  have h := pre_low hl a ha
  have b1 := clo_below hl (k := 0) (i := 0) (by omega) (by omega) ha ha
  have b2 := clo_below hl (k := 0) (i := 0) (by omega) (by omega) (show 0 ≤ n by omega) ha
  have e : (List.range 0).foldl (rlxJ n 0) (rnd n l 0) = pre n l := rfl
  rw [e] at b1 b2
  exact ⟨Int.le_trans b1 h.1, Int.le_trans b2 h.2⟩

theorem Cl.of {n : Nat} {l : List Int} (hn : n ≤ 10) (hl : l.length = (n + 1) * (n + 1)) (hv : ∀ a b, a ≤ n → b ≤ n → Wl (At n l a b)) (hd : ∀ i, i ≤ n → 1 ≤ At n (clo n l) i i) : Cl n (clo n l) (fw (mat n l) (n + 1)) := by
  obtain ⟨h1, h2, h3, h4⟩ := fw_bd hn hl hv hd
  exact ⟨h1, h2, h3, h4, fun a ha => (clo_lows hl a ha).2⟩

/-- What lies below a matrix and is closed lies below its closing, which has no short cycle. -/
theorem clo_over {n : Nat} {l c : List Int} {C : Nat → Nat → Lm} (hn : n ≤ 10) (hl : l.length = (n + 1) * (n + 1)) (hv : ∀ a b, a ≤ n → b ≤ n → Wl (At n l a b)) (hC : Cl n c C) (h : ∀ a b, a ≤ n → b ≤ n → At n c a b ≤ At n l a b) :
    (∀ i, i ≤ n → 1 ≤ At n (clo n l) i i) ∧ ∀ a b, a ≤ n → b ≤ n → At n c a b ≤ At n (clo n l) a b := by
  have pv := pre_wl hl hv
  have hp : ∀ a b, a ≤ n → b ≤ n → At n c a b ≤ At n (pre n l) a b := by
    intro a b ha hb
    rw [pre_at hl ha hb]
    have := h a b ha hb
    by_cases e : a = 0 ∨ a = b
    · rw [if_pos e]
      have h1 : At n c a b ≤ 1 := by
        rcases e with rfl | rfl
        · exact hC.row b hb
        · rw [hC.one ha]; omega
      omega
    · rw [if_neg e]; exact this
  have hle : ∀ a b, le (C a b) (mat n l a b) := by
    intro a b
    unfold mat
    by_cases e : a ≤ n ∧ b ≤ n
    · rw [if_pos e, hC.dec e.1 e.2, le_dec (hC.top e.1 e.2) (by have := pv a b e.1 e.2; unfold Wl at this; omega)]
      exact hp a b e.1 e.2
    · rw [if_neg e]; exact le_none _
  have below := below_fw hC.tri hle
  have hm : ∀ i j x, mat n l i j = some x → x ≤ 4294967297 ∧ -4294967297 + 1 ≤ x := by
    intro i j x h
    unfold mat at h
    split at h
    · rename_i c
      have := pv i j c.1 c.2
      unfold Zo.dec at h
      unfold Wl at this
      split at h
      · simp at h
      · simp at h; omega
    · simp at h
  have dg : ∀ t, t ≤ n + 1 → ∀ k, k ≤ n → fw (mat n l) t k k = some 1 := by
    intro t ht k hk
    have h1 := below t ht k k
    rw [hC.dg k hk] at h1
    have h2 := fw_le_m (mat n l) t k k
    have h3 : le (mat n l k k) (some 1) := by
      unfold mat
      rw [if_pos ⟨hk, hk⟩, show (some (1 : Int) : Lm) = Zo.dec 1 from rfl, le_dec (by have := pv k k hk hk; unfold Wl at this; omega) (by omega)]
      exact (pre_low hl k hk).1
    exact le_antisymm (le_trans h2 h3) h1
  have rep : ∀ t, t ≤ n + 1 → Rep n (rnd n l t) (fw (mat n l) t) := by
    intro t
    induction t with
    | zero =>
      intro _
      refine ⟨rnd_length hl 0 (by omega), fun a b ha hb => ?_⟩
      show At n (pre n l) a b = enc (mat n l a b)
      unfold mat
      rw [if_pos ⟨ha, hb⟩, enc_dec]
    | succ t ih =>
      intro ht
      have hr := ih (by omega)
      have hdg : ∀ k, k < t → fw (mat n l) k k k = some 1 := fun k hk => dg k (by omega) k (by omega)
      have hB : Bd (fw (mat n l) t) := by
        intro i j x h
        constructor
        · have := fw_low (c := 4294967297) (by omega) (fun i j x h => (hm i j x h).2) t i j x h
          have p : (2 : Int) ^ t ≤ 2 ^ 11 := by
            have : (2 : Nat) ^ t ≤ 2 ^ 11 := Nat.pow_le_pow_right (by omega) (by omega)
            exact_mod_cast this
          omega
        · obtain ⟨S, _, hx⟩ := fw_bound (U := 4294967297) (fun i j x h => (hm i j x h).1) t hdg i j x h
          have := cnt_le S t
          omega
      rw [rnd_succ]
      exact round_rep hB (dg t (by omega) t (by omega)) (by omega) hr
  have hr := rep (n + 1) (Nat.le_refl _)
  have hd : ∀ i, i ≤ n → 1 ≤ At n (clo n l) i i := by
    intro i hi
    rw [show clo n l = rnd n l (n + 1) from rfl, hr.2 i i hi hi, dg (n + 1) (Nat.le_refl _) i hi]
    simp [enc]
  refine ⟨hd, fun a b ha hb => ?_⟩
  have hc2 := Cl.of hn hl hv hd
  have h1 := below (n + 1) (Nat.le_refl _) a b
  rw [hC.dec ha hb, hc2.dec ha hb, le_dec (hC.top ha hb) (hc2.top ha hb)] at h1
  exact h1

/-- One matrix is below another one. -/
def Le (n : Nat) (c l : List Int) : Prop := ∀ a b, a ≤ n → b ≤ n → At n c a b ≤ At n l a b

theorem Le.trans {n : Nat} {a b c : List Int} (h : Le n a b) (g : Le n b c) : Le n a c := fun i j hi hj => Int.le_trans (h i j hi hj) (g i j hi hj)

theorem Le.anti {n : Nat} {x y : List Int} (hx : x.length = (n + 1) * (n + 1)) (hy : y.length = (n + 1) * (n + 1)) (h : Le n x y) (g : Le n y x) : x = y :=
  At_ext hx hy fun a b ha hb => Int.le_antisymm (h a b ha hb) (g a b ha hb)

theorem le_clo {n : Nat} {l : List Int} (hl : l.length = (n + 1) * (n + 1)) : Le n (clo n l) l := by
  intro a b ha hb
  have b1 := clo_below hl (k := 0) (i := 0) (by omega) (by omega) ha hb
  have e : (List.range 0).foldl (rlxJ n 0) (rnd n l 0) = pre n l := rfl
  rw [e, pre_at hl ha hb] at b1
  split at b1 <;> omega

/-- Closed, tightened and closed again: the same as tightened and closed. T: what tightens. -/
theorem clo_twice {n : Nat} {x : List Int} {T : List Int → List Int} (hn : n ≤ 10) (hx : x.length = (n + 1) * (n + 1)) (hvx : ∀ a b, a ≤ n → b ≤ n → Wl (At n x a b)) (hTl : ∀ u : List Int, (T u).length = u.length)
    (hTle : ∀ u : List Int, u.length = (n + 1) * (n + 1) → Le n (T u) u) (hT : ∀ u v c : List Int, u.length = (n + 1) * (n + 1) → v.length = (n + 1) * (n + 1) → Le n c u → Le n c (T v) → Le n c (T u))
    (hv1 : ∀ a b, a ≤ n → b ≤ n → Wl (At n (T x) a b)) (hv2 : ∀ a b, a ≤ n → b ≤ n → Wl (At n (T (clo n x)) a b)) :
    ((∀ i, i ≤ n → 1 ≤ At n (clo n (T x)) i i) ↔ ∀ i, i ≤ n → 1 ≤ At n (clo n (T (clo n x))) i i) ∧ ((∀ i, i ≤ n → 1 ≤ At n (clo n (T x)) i i) → clo n (T x) = clo n (T (clo n x))) := by
  have lx : (clo n x).length = (n + 1) * (n + 1) := by rw [clo_length, hx]
  have l1 : (T x).length = (n + 1) * (n + 1) := by rw [hTl, hx]
  have l2 : (T (clo n x)).length = (n + 1) * (n + 1) := by rw [hTl, lx]
  -- from the tightened one to the one that was closed first
  have A : (∀ i, i ≤ n → 1 ≤ At n (clo n (T x)) i i) → (∀ i, i ≤ n → 1 ≤ At n (clo n (T (clo n x))) i i) ∧ Le n (clo n (T x)) (clo n (T (clo n x))) := by
    intro hd
    have c := Cl.of hn l1 hv1 hd
    have g1 : Le n (clo n (T x)) x := (le_clo l1).trans (hTle x hx)
    have g2 : Le n (clo n (T x)) (clo n x) := (clo_over hn hx hvx c g1).2
    exact clo_over hn l2 hv2 c (hT _ x _ lx hx g2 (le_clo l1))
  have B : (∀ i, i ≤ n → 1 ≤ At n (clo n (T (clo n x))) i i) → (∀ i, i ≤ n → 1 ≤ At n (clo n (T x)) i i) ∧ Le n (clo n (T (clo n x))) (clo n (T x)) := by
    intro hd
    have c := Cl.of hn l2 hv2 hd
    have g1 : Le n (clo n (T (clo n x))) x := ((le_clo l2).trans (hTle _ lx)).trans (le_clo hx)
    exact clo_over hn l1 hv1 c (hT x _ _ hx lx g1 (le_clo l2))
  refine ⟨⟨fun h => (A h).1, fun h => (B h).1⟩, fun h => ?_⟩
  obtain ⟨h1, h2⟩ := A h
  exact Le.anti (by rw [clo_length, l1]) (by rw [clo_length, l2]) h2 (B h1).2
end Go.Proofs.YtbnebinpemejlaaGreat.Zo

namespace Go.Proofs.YtbnebinpemejlaaGreat
open Go.RowKit

theorem wl_of {n : Nat} {l : List Int} (hl : l.length = (n + 1) * (n + 1)) (hv : rdL l = true) : ∀ a b, a ≤ n → b ≤ n → Zo.Wl (Zo.At n l a b) := fun a b ha hb => (vl_of hl hv a b ha hb).wl

theorem cloB_iff {n : Nat} {l : List Int} : cloB n l = false ↔ ∀ i, i ≤ n → 1 ≤ Zo.At n (Zo.clo n l) i i :=
  ⟨diag_of, fun h => cloB_no fun i hi => by have := h i (by omega); omega⟩

theorem cloE_zero {n : Nat} {l : List Int} : cloE n l = 0 ↔ cloB n l = false ∧ rdL (Zo.clo n l) = true := by
  unfold cloE rdL
  cases cloB n l <;> cases (Zo.clo n l).all lvB <;> simp

/-- What is closed without an error is a valid zone. -/
theorem clo_chk {n : Nat} {l : List Int} (hn : n ≤ 10) (hl : l.length = (n + 1) * (n + 1)) (hv : ∀ a b, a ≤ n → b ≤ n → Zo.Wl (Zo.At n l a b)) (h : cloE n l = 0) : chkE n (Zo.clo n l) = 0 := by
  obtain ⟨hB, hr⟩ := cloE_zero.1 h
  have hd := diag_of hB
  have lo := Zo.clo_lows hl
  have hcl : (Zo.clo n l).length = (n + 1) * (n + 1) := by rw [Zo.clo_length, hl]
  have tr := Zo.clo_sums hn hl hv hd
  refine chkE_ok hn hcl (fun i hi j hj => ?_) (fun i hi j hj k hk => ?_)
  · unfold okI
    rw [lv_of_all hcl hr i j (by omega) (by omega)]
    simp only [Bool.true_and, Bool.and_eq_true, Bool.or_eq_true, decide_eq_true_eq]
    constructor
    · by_cases c : i = j
      · right
        subst c
        have := hd i (by omega)
        have := (lo i (by omega)).1
        omega
      · exact Or.inl c
    · by_cases c : i = 0
      · right
        subst c
        exact (lo j (by omega)).2
      · exact Or.inl c
  · unfold okT
    simpa using tr i j k (by omega) (by omega) (by omega)

theorem chk_tri {n : Nat} {l : List Int} (h : chkE n l = 0) : ∀ i j k, i ≤ n → j ≤ n → k ≤ n → Zo.At n l i j ≤ Zo.smW (Zo.At n l i k) (Zo.At n l k j) := by
  have hc : chkB n l = true := by
    unfold chkE at h
    cases e : chkB n l
    · rw [e] at h; simp at h
    · rfl
  unfold chkB at hc
  simp only [Bool.and_eq_true, Int.toNat_natCast] at hc
  have h2 := chk2_iff.1 hc.2
  intro i j k hi hj hk
  have := h2 i (by omega) j (by omega) k (by omega)
  unfold okT at this
  simpa using this

theorem chk_cl {n : Nat} {l : List Int} (hn : n ≤ 10) (hl : l.length = (n + 1) * (n + 1)) (h : chkE n l = 0) : ∃ D, Zo.Cl n l D := by
  have hv := (chk_64 h).2
  obtain ⟨hB, e⟩ := (chk_iff hn hl hv).1 h
  have := Zo.Cl.of hn hl (wl_of hl hv) (diag_of hB)
  rw [e] at this
  exact ⟨_, this⟩

/-- A matrix from its elements. -/
def mk (n : Nat) (G : Nat → Nat → Int) : List Int := (List.range ((n + 1) * (n + 1))).map fun k => G (k / (n + 1)) (k % (n + 1))

theorem mk_len (n : Nat) (G : Nat → Nat → Int) : (mk n G).length = (n + 1) * (n + 1) := by simp [mk]

theorem mk_at {n : Nat} (G : Nat → Nat → Int) {a b : Nat} (ha : a ≤ n) (hb : b ≤ n) : Zo.At n (mk n G) a b = G a b := by
  have h := Zo.ix_lt ha hb
  unfold Zo.At Zo.gt mk
  simp only [List.getD_eq_getElem?_getD, List.getElem?_map, List.getElem?_range h, Option.map_some, Option.getD_some]
  unfold Zo.ix
  have h1 : (a * (n + 1) + b) / (n + 1) = a := by
    rw [Nat.mul_comm, Nat.mul_add_div (by omega), Nat.div_eq_of_lt (by omega)]; rfl
  have h2 : (a * (n + 1) + b) % (n + 1) = b := by
    rw [Nat.mul_comm, Nat.mul_add_mod, Nat.mod_eq_of_lt (by omega)]
  rw [h1, h2]

theorem smW_no (a : Int) : Zo.smW a 1099511627776 = 1099511627776 := by unfold Zo.smW; rw [if_pos (Or.inr rfl)]

theorem no_smW (a : Int) : Zo.smW 1099511627776 a = 1099511627776 := by unfold Zo.smW; rw [if_pos (Or.inl rfl)]

def frG (n i : Nat) (l : List Int) (a b : Nat) : Int := if b = i then (if a = i then 1 else Zo.At n l a 0) else if a = i then 1099511627776 else Zo.At n l a b

theorem vl_top {x : Int} (h : Zo.Vl x) : x ≤ 1099511627776 := by unfold Zo.Vl at h; omega

theorem vl_one {x : Int} (h : Zo.Vl x) : Zo.smW x 1 = x := Zo.smW_one (by unfold Zo.Vl at h; omega) (by unfold Zo.Vl at h; omega)

theorem frG_ii {n i a b : Nat} {l : List Int} (ha : a = i) (hb : b = i) : frG n i l a b = 1 := by unfold frG; rw [if_pos hb, if_pos ha]

theorem frG_ai {n i a b : Nat} {l : List Int} (ha : ¬ a = i) (hb : b = i) : frG n i l a b = Zo.At n l a 0 := by unfold frG; rw [if_pos hb, if_neg ha]

theorem frG_ib {n i a b : Nat} {l : List Int} (ha : a = i) (hb : ¬ b = i) : frG n i l a b = 1099511627776 := by unfold frG; rw [if_neg hb, if_pos ha]

theorem frG_ab {n i a b : Nat} {l : List Int} (ha : ¬ a = i) (hb : ¬ b = i) : frG n i l a b = Zo.At n l a b := by unfold frG; rw [if_neg hb, if_neg ha]

theorem frG_chk {n i : Nat} {l : List Int} (hn : n ≤ 10) (hl : l.length = (n + 1) * (n + 1)) (hc : chkE n l = 0) (h1 : 1 ≤ i) : chkE n (mk n (frG n i l)) = 0 := by
  have hv := (chk_64 hc).2
  have vl := vl_of hl hv
  have lv := lv_of_all hl hv
  obtain ⟨dg, r0⟩ := chk_diag hc
  have tr := chk_tri hc
  refine chkE_ok hn (mk_len _ _) (fun a ha b hb => ?_) (fun a ha b hb k hk => ?_)
  · unfold okI
    rw [mk_at _ (by omega) (by omega)]
    unfold frG
    simp only [Bool.and_eq_true, Bool.or_eq_true, decide_eq_true_eq]
    by_cases cb : b = i
    · rw [if_pos cb]
      by_cases ca : a = i
      · rw [if_pos ca]; exact ⟨⟨by decide, Or.inr rfl⟩, Or.inr (by omega)⟩
      · rw [if_neg ca]
        refine ⟨⟨lv a 0 (by omega) (by omega), Or.inl (by omega)⟩, ?_⟩
        by_cases c : a = 0
        · right; subst c; rw [dg 0 (by omega)]; omega
        · exact Or.inl c
    · rw [if_neg cb]
      by_cases ca : a = i
      · rw [if_pos ca]; exact ⟨⟨by decide, Or.inl (by omega)⟩, Or.inl (by omega)⟩
      · rw [if_neg ca]
        refine ⟨⟨lv a b (by omega) (by omega), ?_⟩, ?_⟩
        · by_cases c : a = b
          · right; subst c; exact dg a (by omega)
          · exact Or.inl c
        · by_cases c : a = 0
          · right; subst c; exact r0 b (by omega)
          · exact Or.inl c
  · unfold okT
    rw [mk_at _ (by omega) (by omega), mk_at _ (by omega) (by omega), mk_at _ (by omega) (by omega), decide_eq_true_eq]
    by_cases ca : a = i
    · by_cases cb : b = i
      · rw [frG_ii ca cb]
        by_cases ck : k = i
        · rw [frG_ii ca ck, frG_ii ck cb]; decide
        · rw [frG_ib ca ck, no_smW]; omega
      · rw [frG_ib ca cb]
        by_cases ck : k = i
        · rw [frG_ii ca ck, frG_ib ck cb, smW_no]; omega
        · rw [frG_ib ca ck, no_smW]; omega
    · by_cases cb : b = i
      · rw [frG_ai ca cb]
        by_cases ck : k = i
        · rw [frG_ai ca ck, frG_ii ck cb, vl_one (vl a 0 (by omega) (by omega))]; omega
        · rw [frG_ab ca ck, frG_ai ck cb]
          exact tr a 0 k (by omega) (by omega) (by omega)
      · rw [frG_ab ca cb]
        by_cases ck : k = i
        · rw [frG_ai ca ck, frG_ib ck cb, smW_no]; exact vl_top (vl a b (by omega) (by omega))
        · rw [frG_ab ca ck, frG_ab ck cb]
          exact tr a b k (by omega) (by omega) (by omega)

/-- What Free makes of a zone: never an error. -/
theorem fr_zone {n i : Nat} {l : List Int} (hn : n ≤ 10) (hl : l.length = (n + 1) * (n + 1)) (hc : chkE n l = 0) (h1 : 1 ≤ i) (hi : i ≤ n) :
    Zo.clo n (frL n i l) = mk n (frG n i l) ∧ cloE n (frL n i l) = 0 := by
  have hv := (chk_64 hc).2
  have vl := vl_of hl hv
  obtain ⟨dg, r0⟩ := chk_diag hc
  have hg := frG_chk hn hl hc h1
  obtain ⟨D, hD⟩ := chk_cl hn (mk_len _ _) hg
  have lf : (frL n i l).length = (n + 1) * (n + 1) := by rw [frL_len, hl]
  have fv : ∀ a b, a ≤ n → b ≤ n → Zo.Wl (Zo.At n (frL n i l) a b) := by
    intro a b ha hb
    rw [frL_at hl hi ha hb]
    split
    · exact Or.inl rfl
    · exact (vl a b ha hb).wl
  have hle : Zo.Le n (mk n (frG n i l)) (frL n i l) := by
    intro a b ha hb
    rw [mk_at _ ha hb, frL_at hl hi ha hb]
    by_cases ca : a = i
    · by_cases cb : b = i
      · rw [frG_ii ca cb, if_neg (by omega), ca, cb, dg i hi]; omega
      · rw [frG_ib ca cb, if_pos (by omega)]; omega
    · by_cases cb : b = i
      · rw [frG_ai ca cb, if_pos (by omega)]; exact vl_top (vl a 0 ha (by omega))
      · rw [frG_ab ca cb, if_neg (by omega)]; omega
  obtain ⟨hd, hov⟩ := Zo.clo_over hn lf fv hD hle
  have hcl := Zo.le_clo lf
  have tr := Zo.clo_sums hn lf fv hd
  have lo := Zo.clo_lows lf
  have same : ∀ a b, a ≤ n → b ≤ n → a ≠ i → b ≠ i → Zo.At n (Zo.clo n (frL n i l)) a b = Zo.At n l a b := by
    intro a b ha hb ca cb
    have h2 := hov a b ha hb
    have h3 := hcl a b ha hb
    rw [mk_at _ ha hb, frG_ab ca cb] at h2
    rw [frL_at hl hi ha hb, if_neg (by omega)] at h3
    omega
  have e : Zo.clo n (frL n i l) = mk n (frG n i l) := by
    refine Zo.Le.anti (by rw [Zo.clo_length, lf]) (mk_len _ _) ?_ hov
    intro a b ha hb
    rw [mk_at _ ha hb]
    by_cases ca : a = i
    · by_cases cb : b = i
      · rw [frG_ii ca cb, ca, cb]; exact (lo i hi).1
      · rw [frG_ib ca cb]
        have := hcl a b ha hb
        rw [frL_at hl hi ha hb, if_pos (by omega)] at this
        exact this
    · by_cases cb : b = i
      · rw [frG_ai ca cb, cb]
        have h2 := tr a i 0 ha hi (by omega)
        have h4 := hov 0 i (by omega) hi
        rw [mk_at _ (by omega) hi, frG_ai (by omega) rfl, dg 0 (by omega)] at h4
        have h5 := (lo i hi).2
        rw [show Zo.At n (Zo.clo n (frL n i l)) 0 i = 1 by omega, same a 0 ha (by omega) ca (by omega), vl_one (vl a 0 ha (by omega))] at h2
        exact h2
      · rw [frG_ab ca cb, same a b ha hb ca cb]; omega
  refine ⟨e, cloE_zero.2 ⟨cloB_iff.2 hd, ?_⟩⟩
  rw [e]
  exact (chk_64 hg).2
end Go.Proofs.YtbnebinpemejlaaGreat

namespace Go.Proofs.YtbnebinpemejlaaGreat
open Go.RowKit

/-- The cells of ratios. -/
def qV (ps : List Pq) : List Value := ps.flatMap fun p => [.int .i64 p.1, .int .i64 p.2]

theorem qV_len (ps : List Pq) : (qV ps).length = ps.length * 2 := by
  unfold qV; rw [List.length_flatMap]
  induction ps with
  | nil => rfl
  | cons c cs ih => simp only [List.map_cons, List.sum_cons, List.length_cons] at ih ⊢; rw [ih]; simp; omega

theorem qV_app (ps : List Pq) (x y : Int) : qV (ps ++ [(x, y)]) = qV ps ++ [.int .i64 x, .int .i64 y] := by unfold qV; rw [List.flatMap_append]; rfl

theorem qV_at (ps : List Pq) (k : Nat) (hk : k < ps.length) : (qV ps)[k * 2]? = some (.int .i64 (gp ps k).1) ∧ (qV ps)[k * 2 + 1]? = some (.int .i64 (gp ps k).2) := by
  induction ps generalizing k with
  | nil => simp at hk
  | cons c cs ih =>
    cases k with
    | zero => exact ⟨rfl, rfl⟩
    | succ k =>
      have := ih k (by simp at hk; omega)
      have e : qV (c :: cs) = [.int .i64 c.1, .int .i64 c.2] ++ qV cs := rfl
      have g : gp (c :: cs) (k + 1) = gp cs k := by simp [gp]
      rw [e, g, show (k + 1) * 2 = k * 2 + 2 by omega]
      refine ⟨?_, ?_⟩
      · rw [List.getElem?_append_right (by simp)]; exact this.1
      · rw [List.getElem?_append_right (by simp)]; simpa using this.2

def OwnQ (w : World) (B : Nat) (v : Value) (ps : List Pq) : Prop := w.ownsRow B 32 2 v ps.length (qV ps)

theorem OwnQ.on {w w' : World} {B : Nat} {v : Value} {cs : List Pq} (h : OwnQ w B v cs) (hb : Below w.heap.size w w') : OwnQ w' B v cs := by
  have hg : w.grownBy w' none := ⟨hb.os, hb.tape, hb.output, hb.size, fun k hk _ => hb.block k hk⟩
  exact World.ownsRow.kept h hg (by cases v.ownBlock <;> simp)

theorem OwnQ.rd {w : World} {B g cap : Nat} {ps : List Pq} (h : OwnQ w B (.slice (some ⟨g, 0, none⟩) ps.length cap) ps) : Rd2 w ⟨g, 0, none⟩ ps := by
  intro j hj
  have hc := World.ownsRow.cellAt (g := g) (cap := cap) h
  obtain ⟨c0, c1⟩ := qV_at ps j hj
  rw [addr_add]
  exact ⟨(hc (j * 2) (by omega)).trans c0, (hc (j * 2 + 1) (by omega)).trans c1⟩

/-- The same from the element 1 on. -/
theorem OwnQ.rd1 {w : World} {B g cap : Nat} {ps : List Pq} (h : OwnQ w B (.slice (some ⟨g, 0, none⟩) ps.length cap) ps) : Rd2 w ⟨g, 2, none⟩ (ps.drop 1) := by
  intro j hj
  have hc := World.ownsRow.cellAt (g := g) (cap := cap) h
  simp at hj
  obtain ⟨c0, c1⟩ := qV_at ps (j + 1) (by omega)
  have e : gp (ps.drop 1) j = gp ps (j + 1) := by simp [gp]
  have ha : (⟨g, 2, none⟩ : Addr).add (j * 2) = ⟨g, (j + 1) * 2, none⟩ := by unfold Addr.add; split <;> simp_all; omega
  rw [e, ha]
  exact ⟨(hc ((j + 1) * 2) (by omega)).trans c0, (hc ((j + 1) * 2 + 1) (by omega)).trans c1⟩

theorem rat_info : (Tryz.prog.info? 32).map (fun i => (i.zero, i.size, i.bytes)) = some (some (.agg #[.int .i64 0, .int .i64 0]), 2, 16) := by kernel_rfl

theorem cells_two {w w' : World} (x y : Value) (t : TypeId) (hw : w' = w.alloc (.cells #[x, y] t)) : ∀ j u, ([x, y] : List Value)[j]? = some u → w'.cell? ((⟨w.heap.size, 0, none⟩ : Addr).add j) = some u := by
  subst hw
  intro j u hu
  rw [addr_add]
  match j, hu with
  | 0, hu => simp at hu; subst hu; go_simp
  | 1, hu => simp at hu; subst hu; go_simp

/-- The values that Point chooses, from the clock 0 on, up to the first error. -/
def ptR (n : Nat) (l : List Int) : Nat → List Pq × Int
  | 0 => ([(0, 1)], 0)
  | t + 1 =>
    if (ptR n l t).2 = 0 then
      (if (cxR n l (ptR n l t).1 (t + 1) (t + 1)).2 = 0 then
        (if chE (cxR n l (ptR n l t).1 (t + 1) (t + 1)).1 = 0 then ((ptR n l t).1 ++ [(chN (cxR n l (ptR n l t).1 (t + 1) (t + 1)).1, chD (cxR n l (ptR n l t).1 (t + 1) (t + 1)).1)], 0)
        else ((ptR n l t).1, chE (cxR n l (ptR n l t).1 (t + 1) (t + 1)).1))
      else ((ptR n l t).1, (cxR n l (ptR n l t).1 (t + 1) (t + 1)).2))
    else ptR n l t

theorem pt_stay {n : Nat} {l : List Int} {t m : Nat} (h : t ≤ m) (he : (ptR n l t).2 ≠ 0) : ptR n l m = ptR n l t := by
  induction m with
  | zero => rw [show t = 0 by omega]
  | succ m ih =>
    by_cases e : t = m + 1
    · rw [e]
    · have := ih (by omega)
      show (if (ptR n l m).2 = 0 then _ else ptR n l m) = _
      rw [if_neg (by rw [this]; exact he), this]

theorem pt_succ {n : Nat} {l : List Int} {t : Nat} (h : (ptR n l t).2 = 0) : ptR n l (t + 1) =
    (if (cxR n l (ptR n l t).1 (t + 1) (t + 1)).2 = 0 then
      (if chE (cxR n l (ptR n l t).1 (t + 1) (t + 1)).1 = 0 then ((ptR n l t).1 ++ [(chN (cxR n l (ptR n l t).1 (t + 1) (t + 1)).1, chD (cxR n l (ptR n l t).1 (t + 1) (t + 1)).1)], 0)
      else ((ptR n l t).1, chE (cxR n l (ptR n l t).1 (t + 1) (t + 1)).1))
    else ((ptR n l t).1, (cxR n l (ptR n l t).1 (t + 1) (t + 1)).2)) := by
  show (if (ptR n l t).2 = 0 then _ else ptR n l t) = _
  rw [if_pos h]

theorem pt_fits {n : Nat} {l : List Int} (t : Nat) : Fits (ptR n l t).1 ∧ ((ptR n l t).2 = 0 → (ptR n l t).1.length = t + 1) := by
  induction t with
  | zero =>
    refine ⟨fun k hk => ?_, fun _ => rfl⟩
    obtain rfl : k = 0 := by simp [ptR] at hk; omega
    exact ⟨by show I64 0; unfold I64; omega, by show I64 1; unfold I64; omega⟩
  | succ t ih =>
    by_cases h : (ptR n l t).2 = 0
    · rw [pt_succ h]
      split
      · split
        · refine ⟨fun k hk => ?_, fun _ => by simp [ih.2 h]⟩
          by_cases e : k < (ptR n l t).1.length
          · have := ih.1 k e
            simpa [gp, List.getElem?_append, e] using this
          · have hk2 : k = (ptR n l t).1.length := by simp at hk; omega
            have := ch_64 (cx_ok n l (ptR n l t).1 (t + 1) (t + 1))
            simpa [gp, hk2] using this
        · exact ⟨ih.1, fun q => by rename_i h2; exact absurd q h2⟩
      · exact ⟨ih.1, fun q => by rename_i h2; exact absurd q h2⟩
    · have e : ptR n l (t + 1) = ptR n l t := pt_stay (by omega) h
      rw [e]
      exact ⟨ih.1, fun q => absurd q h⟩

/-- What Point leaves. -/
def QRes (w : World) (qs : List Pq) (er : Int) (e : Ending) (w' : World) : Prop :=
  Below w.heap.size w w' ∧ ((er = 0 ∧ ∃ ao cap, e = .returned (.tuple #[.slice ao qs.length cap, .int .i64 0]) ∧ Arg2 w' ao qs) ∨ (er ≠ 0 ∧ e = .returned (.tuple #[.slice none 0 0, .int .i64 er])))
end Go.Proofs.YtbnebinpemejlaaGreat

namespace Go.Proofs.YtbnebinpemejlaaGreat
open Go.RowKit

theorem OwnQ.ne {w : World} {B g c b m n : Nat} {l : List Int} {xs : List Value} (h : w.ownsRow B 32 2 (.slice (some ⟨g, 0, none⟩) m c) m xs) (hM : Mx w b n l) : b ≠ g := by
  rcases h.2 with ⟨q, _⟩ | ⟨g', cap, cur, q, _, hh, _⟩
  · cases q
  · injection q with q1 _ _
    injection q1 with q1
    injection q1 with q1 _ _
    subst q1
    rintro rfl
    have := hM.1
    rw [hh] at this
    injection this with this
    injection this with _ ht _
    exact absurd ht (by decide)

theorem OwnQ.cap {w : World} {B g c m : Nat} {xs : List Value} (h : w.ownsRow B 32 2 (.slice (some ⟨g, 0, none⟩) m c) m xs) : m ≤ c ∧ c ≤ maxLen := by
  rcases h.2 with ⟨q, _⟩ | ⟨g', cap, cur, q, _, hh, h1, h2, _⟩
  · cases q
  · injection q with _ _ q3
    omega

/-- The frame: a zone that is a parameter, boxed. -/
theorem qbox (N : Int) (ao : Option Addr) (len cap : Nat) (w : World) : ∃ w0, w0 = w.alloc (.cells #[.int .i64 N, .slice ao len cap] 24) ∧ Below w.heap.size w w0 ∧
    (∀ W : World, Below w0.heap.size w0 W → (W.cell? ⟨w.heap.size, 0, none⟩ = some (.int .i64 N) ∧ W.cell? ⟨w.heap.size, 1, none⟩ = some (.slice ao len cap))) := by
  refine ⟨_, rfl, one_more _, fun W h => ?_⟩
  have bx := (Two.made w (.int .i64 N) (.slice ao len cap) 24).kept h
  exact ⟨bx.facts.1, bx.facts.2.1⟩

set_option maxRecDepth 100000 in
set_option maxHeartbeats 8000000 in
theorem point_ok (n : Nat) (l : List Int) (a : Addr) (cap : Nat) (w : World) (hn : n ≤ 10) (hl : l.length = (n + 1) * (n + 1)) (hc : chkE n l = 0) (hR : Rd w a l) :
    Calls Tryz.prog 10 #[.agg #[.int .i64 n, .slice (some a) l.length cap]] w (QRes w ((ptR n l n).1.drop 1) (ptR n l n).2) := by
  have hz := mx_zero
  have sz : (mcs n l).size = 122 := mcs_size (by rw [hl]; exact dsq_le hn)
  have s1 := mcs_one n l
  obtain ⟨i0, hi, hz0, hz1, hz2⟩ := info_parts rat_info
  have CO := Lib.hid (show ∀ W, Below w.heap.size w W → Calls Tryz.prog 37 #[.agg #[.int .i64 n, .slice (some a) l.length cap]] W (fun e w' => e = .returned (.tuple #[.agg (mcs n l), .bool true]) ∧ Below W.heap.size W w') from fun W h => by
    have := open_gen n l (some a) cap W (fun _ => ⟨a, rfl, hR.on h⟩)
    rwa [rdW_ok hc, show okB n l = true by unfold okB; rw [hc]; rfl] at this)
  have i64 : ∀ i j, i ≤ n → j ≤ n → I64 (Zo.At n l i j) := fun i j hi hj => chk_i64 hc hi hj
  have CH := Lib.hid (show ∀ (t : Nat) (b0 : Nat) (g c : Nat) (W : World), t < n → (ptR n l t).2 = 0 → Mx W b0 n l → Rd2 W ⟨g, 0, none⟩ (ptR n l t).1 → Calls Tryz.prog 39 #[.pointer (some ⟨b0, 0, none⟩), .slice (some ⟨g, 0, none⟩) (t + 1) c] W (Made (.tuple #[.agg (cxR n l (ptR n l t).1 (t + 1) (t + 1)).1.cs, .int .i64 (cxR n l (ptR n l t).1 (t + 1) (t + 1)).2]) W) from fun t b0 g c W ht he hM hP =>
    choices_any n (t + 1) l (ptR n l t).1 b0 ⟨g, 0, none⟩ c W hn ((pt_fits t).2 he) (by omega) (by omega) hM hP (pt_fits t).1 i64)
  have HLE := Lib.hid hl
  have PS := Lib.hid (fun t h => pt_succ (n := n) (l := l) (t := t) h)
  have PY := Lib.hid (fun t m h he => pt_stay (n := n) (l := l) (t := t) (m := m) h he)
  have PL := Lib.hid (fun t h => (pt_fits (n := n) (l := l) t).2 h)
  have PX := Lib.hid (fun t => cx_ok n l (ptR n l t).1 (t + 1) (t + 1))
  generalize l.length = len at CO ⊢
  obtain ⟨w0, hw0, e0, ks⟩ := qbox n (some a) len cap w
  have E0 := Lib.hid e0
  have HW0 := Lib.hid hw0
  obtain ⟨b0, b1⟩ := ks w0 (Below.refl _ _)
  clear ks e0 hw0 hl hc hR i64
  go_enter Tryz.func10, Tryz.ntmps10
  go_upto_region 1 with (fail)
  rw [← HW0.out]
  go_wp2_with fail
  refine (CO.out _ E0.out).mono ?_
  rintro e w1 ⟨rfl, hb1⟩
  obtain ⟨w2, hw2⟩ : ∃ w2, w2 = (w1.alloc (.cells (mcs 0 []) 54)).setRow w1.heap.size (mcs n l) := ⟨_, rfl⟩
  have M2 := Lib.hid (show Mx w2 w1.heap.size n l by rw [hw2]; exact ⟨((Var.made w1).put (mcs n l) sz).1, HLE.out⟩)
  have B2 := Lib.hid (show Below w0.heap.size w0 w2 by rw [hw2]; exact Below.setRow (hb1.alloc hb1.size _) hb1.size _)
  clear b0 b1 hb1
  go_wp2_with (refine wpl_store rfl _ _ rfl _ _ rfl rfl _ (Var.made _) sz s1 ?_)
  rw [← hw2]
  clear hw2
  refine (qzero_any _).mono ?_
  rintro e w3 ⟨rfl, hb3⟩
  have M3 := Lib.hid (M2.out.kept (r := none) ⟨hb3.os, hb3.tape, hb3.output, hb3.size, fun k hk _ => hb3.block k hk⟩ (by simp))
  have B3 := Lib.hid (below_on B2.out hb3)
  clear hb3
  obtain ⟨w4, hw4⟩ : ∃ w4, w4 = w3.alloc (.cells #[.int .i64 0, .int .i64 1] 32) := ⟨_, rfl⟩
  have M4 := Lib.hid (show Mx w4 w1.heap.size n l by rw [hw4]; exact M3.out.alloc _)
  have B4 := Lib.hid (show Below w0.heap.size w0 w4 by rw [hw4]; exact B3.out.alloc B3.out.size _)
  have O4 := Lib.hid (show OwnQ w4 w0.heap.size (.slice (some ⟨w3.heap.size, 0, none⟩) 1 1) (ptR n l 0).1 by
    rw [hw4]
    have := World.ownsRow_lit (base := w0.heap.size) (e := 32) (size := 2) w3 #[.int .i64 0, .int .i64 1] 1 B3.out.size (by unfold maxLen; omega) (by simp)
    exact this)
  have d4 := M4.out.dim
  go_upto_region 5 with (fail)
  rw [← hw4]
  clear hw4
  go_wp2_with fail
  clear d4
  go_loopw [6, 21] (fun v s wr => ∃ t : Nat, t ≤ n ∧ s = .int .i64 t ∧ Hid ((ptR n l t).2 = 0 ∧ OwnQ wr w0.heap.size v (ptR n l t).1 ∧ Mx wr w1.heap.size n l ∧ Below w0.heap.size w0 wr)) (fun _ s _ => n - (intOf s).toNat)
  case atStart => exact ⟨0, by omega, rfl, Lib.hid ⟨rfl, O4.out, M4.out, B4.out⟩⟩
  case round =>
    obtain ⟨t, ht, rfl, HX⟩ := hrel
    obtain ⟨hx1, hx2, hx3, hx4⟩ := HX.out
    have hlen := PL.out t hx1
    unfold OwnQ at hx2
    rw [hlen] at hx2
    obtain ⟨g, c, rfl⟩ := Joins.ownsRow_form hx2 (by omega)
    have OQ := Lib.hid (show OwnQ wr w0.heap.size (.slice (some ⟨g, 0, none⟩) (ptR n l t).1.length c) (ptR n l t).1 by unfold OwnQ; rw [hlen]; exact hx2)
    have X1 := Lib.hid hx1
    have X3 := Lib.hid hx3
    have X4 := Lib.hid hx4
    have XL := Lib.hid hlen
    clear hx1 hx2 hx3 hx4 hlen HX
    by_cases htn : t < n
    case pos =>
      have D9 : decide ((t : Int) < (n : Int)) = true := by simp; omega
      have CX := Lib.hid (CH.out t w1.heap.size g c _ htn X1.out X3.out OQ.out.rd)
      have PS1 := Lib.hid (PS.out t X1.out)
      have PX1 := Lib.hid (PX.out t)
      obtain ⟨y, hy⟩ : ∃ y, y = cxR n l (ptR n l t).1 (t + 1) (t + 1) := ⟨_, rfl⟩
      rw [← hy] at CX PS1 PX1
      unfold Dl.cs at CX
      have HY := Lib.hid hy
      clear hy
      obtain ⟨y, ye⟩ := y
      simp only at CX PS1 PX1
      go_wp2_with fail
      refine CX.out.mono ?_
      rintro e w5 ⟨rfl, hb5⟩
      obtain ⟨w6, hw6⟩ : ∃ w6, w6 = w5.alloc (.cells y.cs 34) := ⟨_, rfl⟩
      have D6 := Lib.hid (show Dbx w6 w5.heap.size y by rw [hw6]; exact Drow.made _ _)
      have B56 := Lib.hid (show Below _ _ w6 by rw [hw6]; exact hb5.alloc hb5.size _)
      unfold Dl.cs at hw6
      clear hb5
      go_upto_region 8 with (fail)
      rw [← hw6]
      clear hw6
      by_cases hye : ye = 0
      case neg =>
        have DE : (ye != 0) = true := by simpa using hye
        have HN := Lib.hid (show (ptR n l n).2 = ye from by
          have h1 : (ptR n l (t + 1)).2 = ye := by rw [PS1.out, if_neg hye]
          rw [PY.out (t + 1) n (by omega) (by rw [h1]; exact hye), h1])
        have HNE := Lib.hid hye
        clear hye
        go_wp2_with fail
        go_ret2
        rw [HN.out]
        exact ⟨below_on E0.out (below_on X4.out B56.out), Or.inr ⟨HNE.out, rfl⟩⟩
      case pos =>
        have CC := Lib.hid (fun W => choose_any y W PX1.out)
        have PS2 := Lib.hid (show ptR n l (t + 1) = if chE y = 0 then ((ptR n l t).1 ++ [(chN y, chD y)], 0) else ((ptR n l t).1, chE y) by rw [PS1.out, if_pos hye])
        subst hye
        unfold Dl.cs at CC
        generalize chN y = cn at *
        generalize chD y = cd at *
        generalize chE y = ce at *
        obtain ⟨q0, q1, q2, q3, q4, q5, q6⟩ := D6.out.facts
        go_wp2_with fail
        refine (CC.out _).mono ?_
        rintro e w7 ⟨rfl, hb7⟩
        clear q0 q1 q2 q3 q4 q5 q6
        obtain ⟨w8, hw8⟩ : ∃ w8, w8 = w7.alloc (.cells #[.int .i64 cn, .int .i64 cd] 32) := ⟨_, rfl⟩
        have P8 := Lib.hid (show Pair w8 w7.heap.size cn cd by rw [hw8]; exact Pair.made _ _ _ _)
        have B8 := Lib.hid (show Below _ _ w8 by rw [hw8]; exact (below_on B56.out hb7).alloc (below_on B56.out hb7).size _)
        clear hb7
        go_upto_region 11 with (fail)
        rw [← hw8]
        clear hw8
        by_cases hce : ce = 0
        case neg =>
          have DE : (ce != 0) = true := by simpa using hce
          have HN := Lib.hid (show (ptR n l n).2 = ce from by
            have h1 : (ptR n l (t + 1)).2 = ce := by rw [PS2.out, if_neg hce]
            rw [PY.out (t + 1) n (by omega) (by rw [h1]; exact hce), h1])
          have HNE := Lib.hid hce
          clear hce
          go_wp2_with fail
          go_ret2
          rw [HN.out]
          exact ⟨below_on E0.out (below_on X4.out B8.out), Or.inr ⟨HNE.out, rfl⟩⟩
        case pos =>
          have PS3 := Lib.hid (show ptR n l (t + 1) = ((ptR n l t).1 ++ [(cn, cd)], 0) by rw [PS2.out, if_pos hce])
          subst hce
          obtain ⟨p0, p1, p2, p3⟩ := P8.out.facts
          have Q8 := Lib.hid (below_on X4.out B8.out)
          have hsz := Q8.out.size
          have hown := OQ.out.on B8.out
          unfold OwnQ at hown
          rw [XL.out] at hown
          have A9 := Lib.hid (cells_two (w := w8) (.int .i64 cn) (.int .i64 cd) 32 rfl)
          go_wp2_with (at_builtin; refine wpList_append_own _ rfl _ _ 25 rfl w0.heap.size 32 i0 (.agg #[.int .i64 0, .int .i64 0]) 2 16 Tryz.underlying25 hi hz0 hz1 hz2 rfl (by decide) _ _ _ rfl (World.ownsRow.alloc hown _) ⟨w8.heap.size, 0, none⟩ 1 1 [.int .i64 cn, .int .i64 cd] rfl rfl A9.out (by simp [Value.oneCell']) (by unfold maxLen; omega) (by omega) (by simp; omega) ?_)
          intro v' w9 hown9 hgrow _
          have B9 := Lib.hid (show Below w0.heap.size w0 w9 from Below.grown (Q8.out.alloc Q8.out.size _) hgrow (by simp; omega) (fun k hk => (World.ownsRow.lt hown k hk).1))
          have M9 := Lib.hid (show Mx w9 w1.heap.size n l from ((X3.out.of_block ((B8.out).block _ X3.out.lt)).alloc _).kept hgrow (by
            have hne := OwnQ.ne hown (X3.out.of_block ((B8.out).block _ X3.out.lt))
            simpa [Value.ownBlock] using hne))
          have HN := Lib.hid (show (ptR n l (t + 1)).2 = 0 ∧ OwnQ w9 w0.heap.size v' (ptR n l (t + 1)).1 ∧ Mx w9 w1.heap.size n l ∧ Below w0.heap.size w0 w9 from by
            rw [PS3.out]
            refine ⟨rfl, ?_, M9.out, B9.out⟩
            unfold OwnQ
            rw [qV_app, List.length_append, XL.out]
            exact hown9)
          clear hown9 hgrow hown hsz p0 p1 p2 p3
          go_wp2_with fail
          go_roundw
          case rel => exact ⟨t + 1, by omega, by go_num, HN⟩
          case measure => simp [intOf]; omega
    case neg =>
      obtain rfl : t = n := by omega
      have D9 : decide ((t : Int) < (t : Int)) = false := by simp
      have hcap : t + 1 ≤ c ∧ c ≤ maxLen := by
        have := OQ.out
        unfold OwnQ at this
        rw [XL.out] at this
        exact OwnQ.cap this
      obtain ⟨hc1, hc2⟩ := hcap
      unfold maxLen at hc2
      have HT := Lib.hid (show ((ptR t l t).1.drop 1).length = t by simp [XL.out])
      by_cases hcc : c = 1
      case pos =>
        subst hcc
        obtain rfl : t = 0 := by omega
        go_wp2_with fail
        go_ret2
        refine ⟨below_on E0.out X4.out, Or.inl ⟨X1.out, some ⟨g, 0, none⟩, 0, ?_, fun q => absurd (List.eq_nil_of_length_eq_zero (by simpa using HT.out)) q⟩⟩
        show Ending.returned (.tuple #[.slice (some ⟨g, 0, none⟩) 0 0, .int .i64 0]) = _
        rw [HT.out]
      case neg =>
        have hc3 : (c == 1) = false := by simpa using hcc
        go_wp2_with fail
        go_ret2
        refine ⟨below_on E0.out X4.out, Or.inl ⟨X1.out, some ⟨g, 2, none⟩, c - 1, ?_, fun _ => ⟨_, rfl, ?_⟩⟩⟩
        · show Ending.returned (.tuple #[.slice (some ⟨g, 2, none⟩) t (c - 1), .int .i64 0]) = _
          rw [HT.out]
        · exact OQ.out.rd1
end Go.Proofs.YtbnebinpemejlaaGreat

namespace Go.Proofs.YtbnebinpemejlaaGreat
open Go.RowKit

set_option maxRecDepth 100000 in
set_option maxHeartbeats 4000000 in
theorem point_bad (N : Int) (l : List Int) (ao : Option Addr) (cap : Nat) (w : World) (hA : Arg w ao l) (hc : chkE N l ≠ 0) :
    Calls Tryz.prog 10 #[.agg #[.int .i64 N, .slice ao l.length cap]] w (QRes w [] 2) := by
  have hz := mx_zero
  have sz := rdW_size N l
  have s1 := rdW_one N l
  have CO := Lib.hid (show ∀ W, Below w.heap.size w W → Calls Tryz.prog 37 #[.agg #[.int .i64 N, .slice ao l.length cap]] W (fun e w' => e = .returned (.tuple #[.agg (rdW N l), .bool false]) ∧ Below W.heap.size W w') from fun W h => by
    have := open_gen N l ao cap W (hA.on h)
    rwa [show okB N l = false by unfold okB; simp [hc]] at this)
  generalize rdW N l = A at *
  generalize l.length = len at CO ⊢
  obtain ⟨w0, hw0, e0, ks⟩ := qbox N ao len cap w
  have E0 := Lib.hid e0
  have HW0 := Lib.hid hw0
  obtain ⟨b0, b1⟩ := ks w0 (Below.refl _ _)
  clear ks e0 hw0 hA hc
  go_enter Tryz.func10, Tryz.ntmps10
  go_upto_region 1 with (fail)
  rw [← HW0.out]
  go_wp2_with fail
  refine (CO.out _ E0.out).mono ?_
  rintro e w1 ⟨rfl, hb1⟩
  obtain ⟨w2, hw2⟩ : ∃ w2, w2 = (w1.alloc (.cells (mcs 0 []) 54)).setRow w1.heap.size A := ⟨_, rfl⟩
  have B2 := Lib.hid (show Below w0.heap.size w0 w2 by rw [hw2]; exact Below.setRow (hb1.alloc hb1.size _) hb1.size _)
  clear b0 b1 hb1
  go_wp2_with (refine wpl_store rfl _ _ rfl _ _ rfl rfl _ (Var.made _) sz s1 ?_)
  rw [← hw2]
  clear hw2
  go_ret2
  exact ⟨below_on E0.out B2.out, Or.inr ⟨by decide, rfl⟩⟩

/-- What Point returns: the values, and the error. -/
def pnL (N : Int) (l : List Int) : List Pq := if chkE N l = 0 then (ptR N.toNat l N.toNat).1.drop 1 else []

def pnE (N : Int) (l : List Int) : Int := if chkE N l = 0 then (ptR N.toNat l N.toNat).2 else 2

theorem zpoint_gen (N : Int) (l : List Int) (ao : Option Addr) (cap : Nat) (w : World) (hA : Arg w ao l) :
    Calls Tryz.prog 10 #[.agg #[.int .i64 N, .slice ao l.length cap]] w (QRes w (pnL N l) (pnE N l)) := by
  unfold pnL pnE
  by_cases hc : chkE N l = 0
  · rw [if_pos hc, if_pos hc]
    obtain ⟨n, rfl, hn, hl, hne⟩ := chk_ok hc
    obtain ⟨a, rfl, hR⟩ := hA hne
    exact point_ok n l a cap w hn hl hc hR
  · rw [if_neg hc, if_neg hc]
    exact point_bad N l ao cap w hA hc
end Go.Proofs.YtbnebinpemejlaaGreat

namespace Go.Proofs.YtbnebinpemejlaaGreat
open Go.RowKit

theorem results_mx3 {fn : Func} {p t s : Tmp} (h : fn.results = #[.cell p 54, .tmp t, .tmp s]) (tmps : Array Value) {w : World} {b : Nat} {cs : Array Value} {v u : Value}
    (hp : tmps.getD p undef = .pointer (some ⟨b, 0, none⟩)) (ht : tmps.getD t undef = v) (hs : tmps.getD s undef = u) (hv : Var w b cs) : (results fn tmps).run Tryz.prog w = .ok (.tuple #[.agg cs, v, u]) w := by
  have hp' : tmps[p]?.getD undef = .pointer (some ⟨b, 0, none⟩) := by simpa using hp
  have ht' : tmps[t]?.getD undef = v := by simpa using ht
  have hs' : tmps[s]?.getD undef = u := by simpa using hs
  simp [results, h, hp', ht', hs', asAddr, mx_load hv.1 hv.2]

set_option maxRecDepth 100000 in
set_option maxHeartbeats 4000000 in
theorem openat_bad (N : Int) (l : List Int) (ao : Option Addr) (cap : Nat) (po : Option Addr) (pl pc : Nat) (w : World) (hA : Arg w ao l) (hr : okB N l = false ∨ (pl : Int) ≠ N) :
    Calls Tryz.prog 20 #[.agg #[.int .i64 N, .slice ao l.length cap], .slice po pl pc] w (fun e w' => e = .returned (.tuple #[.agg (mcs 0 []), .slice none 0 0, .int .i64 2]) ∧ Below w.heap.size w w') := by
  have hz := mx_zero
  have h0 := mx_build0
  have szA := rdW_size N l
  have s1A := rdW_one N l
  have CR := Lib.hid (show ∀ W, Below w.heap.size w W → Calls Tryz.prog 37 #[.agg #[.int .i64 N, .slice ao l.length cap]] W (fun e w' => e = .returned (.tuple #[.agg (rdW N l), .bool (okB N l)]) ∧ Below W.heap.size W w') from fun W h => open_gen N l ao cap W (hA.on h))
  generalize rdW N l = A at *
  generalize okB N l = ok at *
  generalize l.length = len at *
  obtain ⟨w0, hw0⟩ : ∃ w0, w0 = (w.alloc (.cells #[.int .i64 N, .slice ao len cap] 24)).alloc (.cells (mcs 0 []) 54) := ⟨_, rfl⟩
  have bx : Two w0 w.heap.size (.int .i64 N) (.slice ao len cap) := by rw [hw0]; exact (Two.made _ _ _ _).alloc _
  have BX := Lib.hid bx
  obtain ⟨b0, b1, b2, b3⟩ := bx.facts
  have V0 : Var w0 (w.heap.size + 1) (mcs 0 []) := by
    rw [hw0]
    have := Var.made (w.alloc (.cells #[.int .i64 N, .slice ao len cap] 24))
    simpa using this
  have E0 := Lib.hid (show Below w.heap.size w w0 by rw [hw0]; exact past_two (Below.refl _ _))
  have HV := Lib.hid V0
  clear V0 hA bx
  go_enter Tryz.func20, Tryz.ntmps20
  go_upto_region 1 with (fail)
  rw [← hw0]
  clear hw0
  go_wp2_with fail
  refine (CR.out _ E0.out).mono ?_
  rintro e w1 ⟨rfl, hb⟩
  have V1 := HV.out.kept hb
  have E1 := below_on E0.out hb
  have hle := E1.size
  obtain ⟨w2, hw2⟩ : ∃ w2, w2 = (w1.alloc (.cells (mcs 0 []) 54)).setRow w1.heap.size A := ⟨_, rfl⟩
  have V3 := Lib.hid (show Var w2 (w.heap.size + 1) (mcs 0 []) by rw [hw2]; exact (V1.kept (one_more _)).far (b' := w1.heap.size) (by have := V1.lt; omega) A)
  have B2 := Lib.hid (show Below w0.heap.size w0 w2 by rw [hw2]; exact Below.setRow (hb.alloc hb.size _) hb.size _)
  have sz := mcs_size (n := 0) (l := []) (by simp)
  clear V1 E1 hb b0 b1 b2 b3
  obtain ⟨b0, b1, b2, b3⟩ := (BX.out.kept B2.out).facts
  have fin : ∀ w' : World, w' = w2.setRow (w.heap.size + 1) (mcs 0 []) → Below w.heap.size w w' := fun w' e => by
    rw [e]; exact Below.setRow (below_on E0.out B2.out) (by omega) _
  have FIN := Lib.hid fin
  clear fin
  go_upto_region 2 with (refine wpl_store rfl _ _ rfl _ _ rfl rfl _ (Var.made _) szA s1A ?_)
  rw [← hw2]
  clear hw2
  cases ok
  · clear hr
    go_wp2_with (refine wpl_store rfl _ _ rfl _ _ rfl rfl _ V3.out sz (mcs_one _ _) ?_)
    refine bodyPost_ret (results_mx3 Tryz.results20 _ rfl rfl rfl (V3.out.put (mcs 0 []) sz)) rfl ⟨rfl, FIN.out _ rfl⟩
  · have hne : (pl : Int) ≠ N := by
      rcases hr with q | q
      · cases q
      · exact q
    have D : ((pl : Int) != N) = true := by simpa using hne
    clear hr hne
    go_wp2_with (refine wpl_store rfl _ _ rfl _ _ rfl rfl _ V3.out sz (mcs_one _ _) ?_)
    refine bodyPost_ret (results_mx3 Tryz.results20 _ rfl rfl rfl (V3.out.put (mcs 0 []) sz)) rfl ⟨rfl, FIN.out _ rfl⟩
end Go.Proofs.YtbnebinpemejlaaGreat

namespace Go.Proofs.YtbnebinpemejlaaGreat
open Go.RowKit

set_option maxRecDepth 100000 in
set_option maxHeartbeats 4000000 in
theorem grow_any (m : Nat) (w : World) (h0 : 0 < m) (h1 : m ≤ 1000) :
    Calls Tryz.prog 88 #[.slice none 0 0, .int .i64 m] w (fun e w' => Below w.heap.size w w' ∧ ∃ v, e = .returned v ∧ OwnQ w' w.heap.size v []) := by
  obtain ⟨i0, hi, hz0, hz1, hz2⟩ := info_parts rat_info
  have D : decide ((m : Int) < 0) = false := by simp
  have D2 : decide ((0 : Int) < (m : Int)) = true := by simp; omega
  have RUN := Lib.hid (Lib.run_append_nil_zeros (P := Tryz.prog) w 25 3 25 32 i0 (.agg #[.int .i64 0, .int .i64 0]) .i64 .i64 Tryz.underlying25 Tryz.underlying3 hi hz0 m h0 (by omega) (by omega) (by rw [hz2]; omega))
  have G1 := grownCap_ge w m 0 32
  have G2 := grownCap_le_maxLen w m 0 32 (by unfold maxLen; omega)
  generalize grownCap w m 0 32 = c at *
  obtain ⟨w5, hw5⟩ : ∃ w5, w5 = w.drew.alloc (.cells (Builtin.zeroCells (Value.agg #[.int .i64 0, .int .i64 0]).cells m ++ Builtin.zeroCells (Value.agg #[.int .i64 0, .int .i64 0]).cells (c - m)) 32) := ⟨_, rfl⟩
  rw [← hw5] at RUN
  have B5 := Lib.hid (show Below w.heap.size w w5 by rw [hw5]; exact (Below.refl _ _).drew.alloc (Nat.le_refl _) _)
  have O5 := Lib.hid (show OwnQ w5 w.heap.size (.slice (some ⟨w.heap.size, 0, none⟩) 0 c) [] by
    refine ⟨rfl, .inr ⟨w.heap.size, c, _, rfl, Nat.le_refl _, by rw [hw5]; exact heap_alloc_new w.drew _, Nat.zero_le _, G2, ?_, rfl⟩⟩
    simp only [Array.size_append, size_zeroCells]
    show m * 2 + (c - m) * 2 = c * 2
    omega)
  have hc0 : (c = 0) = False := by simp; omega
  clear hw5
  go_enter Tryz.func88, Tryz.ntmps88
  go_wp2_with (at_builtin; refine Lib.wpList_append_run _ rfl _ _ _ _ rfl _ _ rfl rfl _ _ RUN.out ?_)
  go_ret
  exact ⟨B5.out, _, rfl, O5.out⟩
end Go.Proofs.YtbnebinpemejlaaGreat

namespace Go.Proofs.YtbnebinpemejlaaGreat
open Go.RowKit

def ccS (k : Nat) : Nat → Nat
  | 0 => 0
  | 1 => 1
  | _ => 1 + k

def ccP (q : Pq) (ps : List Pq) : Nat → List Pq
  | 0 => []
  | 1 => [q]
  | _ => q :: ps

theorem qV_appd (a b : List Pq) : qV (a ++ b) = qV a ++ qV b := by unfold qV; rw [List.flatMap_append]

theorem qV_one (cs : List Pq) : ∀ u ∈ qV cs, u.oneCell' = true := by
  intro u hu
  unfold qV at hu
  rw [List.mem_flatMap] at hu
  obtain ⟨c, _, hc⟩ := hu
  simp at hc
  rcases hc with rfl | rfl <;> rfl

theorem qV_cells {w : World} {a : Addr} {cs : List Pq} (h : Rd2 w a cs) : ∀ j u, (qV cs)[j]? = some u → w.cell? (a.add j) = some u := by
  intro j u hu
  have hj : j < cs.length * 2 := by
    rw [← qV_len]
    by_cases c : j < (qV cs).length
    · exact c
    · rw [List.getElem?_eq_none (by omega)] at hu; cases hu
  obtain ⟨h1, h2⟩ := h (j / 2) (by omega)
  obtain ⟨c1, c2⟩ := qV_at cs (j / 2) (by omega)
  rcases Nat.mod_two_eq_zero_or_one j with e | e
  · have ej : j / 2 * 2 = j := by omega
    rw [ej] at h1 c1
    rw [c1] at hu; injection hu with hu
    rw [← hu]; exact h1
  · have ej : j / 2 * 2 + 1 = j := by omega
    rw [ej] at c2
    rw [c2] at hu; injection hu with hu
    rw [← hu, ← h2]
    congr 1
    unfold Addr.add
    split <;> split <;> simp_all <;> omega

set_option maxRecDepth 100000 in
set_option maxHeartbeats 4000000 in
theorem concat_some (h b : Nat) (q : Pq) (ps : List Pq) (a : Addr) (cap : Nat) (w : World) (h0 : w.cell? ⟨h, 0, none⟩ = some (.slice (some ⟨b, 0, none⟩) 1 1)) (h1 : w.cell? ⟨h, 1, none⟩ = some (.slice (some a) ps.length cap))
    (hq : Rd2 w ⟨b, 0, none⟩ [q]) (hp : Arg2 w (some a) ps) (hl : ps.length ≤ 200) :
    Calls Tryz.prog 60 #[.slice (some ⟨h, 0, none⟩) 2 2] w (fun e w' => Below w.heap.size w w' ∧ ∃ v, e = .returned v ∧ OwnQ w' w.heap.size v (q :: ps)) := by
  obtain ⟨i0, hi, hz0, hz1, hz2⟩ := info_parts rat_info
  have GR := Lib.hid (grow_any (1 + ps.length) w (by omega) (by omega))
  have CL := Lib.hid (show ∀ W, Below w.heap.size w W → W.cell? ⟨h, 0, none⟩ = some (.slice (some ⟨b, 0, none⟩) 1 1) ∧ W.cell? ⟨h, 1, none⟩ = some (.slice (some a) ps.length cap) from fun W hb => ⟨kept hb h0, kept hb h1⟩)
  have C0 := Lib.hid (show ∀ W, Below w.heap.size w W → ∀ j u, (qV [q])[j]? = some u → W.cell? ((⟨b, 0, none⟩ : Addr).add j) = some u from fun W hb => qV_cells (hq.on hb))
  have hlen := Lib.hid (qV_len [q])
  have C1 := Lib.hid (show ∀ W, Below w.heap.size w W → ∀ j u, (qV ps)[j]? = some u → W.cell? (a.add j) = some u from fun W hb => by
    by_cases c : ps = []
    · subst c; intro j u q; simp [qV] at q
    · obtain ⟨a', e', hr⟩ := hp c
      injection e' with e'
      subst e'
      exact qV_cells (hr.on hb))
  have L1 := Lib.hid (show (qV ps).length = ps.length * 2 from qV_len ps)
  generalize hk : ps.length = k at *
  clear hq hp
  go_enter Tryz.func60, Tryz.ntmps60
  go_wp2_with fail
  go_loopw [11, 3] (fun s t wr => ∃ j : Nat, j ≤ 2 ∧ s = .int .i64 j ∧ t = .int .i64 (ccS k j) ∧ wr = w) (fun s _ _ => 2 - (intOf s).toNat)
  case atStart => exact ⟨0, by omega, rfl, rfl, rfl⟩
  case round =>
    obtain ⟨j, hj, rfl, rfl, hw⟩ := hrel
    rw [hw]
    clear hw
    obtain ⟨b0, b1⟩ := CL.out w (Below.refl _ _)
    have hjj : j = 0 ∨ j = 1 ∨ j = 2 := by omega
    clear hj
    rcases hjj with rfl | rfl | rfl
    · simp only [ccS]
      go_wp2_with fail
      go_roundw
      case rel => exact ⟨1, by omega, by go_num, by go_num, trivial⟩
      case measure => simp [intOf]
    · simp only [ccS]
      go_wp2_with fail
      go_roundw
      case rel => exact ⟨2, by omega, by go_num, by go_num, trivial⟩
      case measure => simp [intOf]
    · simp only [ccS]
      clear b0 b1
      go_wp2_with fail
      refine GR.out.mono ?_
      rintro e w1 ⟨hb1, v1, rfl, hv1⟩
      have B1 := Lib.hid hb1
      have O1 := Lib.hid hv1
      clear hb1 hv1
      go_wp2_with fail
      go_loopw [27, 6] (fun s v wr => ∃ j : Nat, j ≤ 2 ∧ s = .int .i64 j ∧ Hid (OwnQ wr w.heap.size v (ccP q ps j) ∧ Below w.heap.size w wr)) (fun s _ _ => 2 - (intOf s).toNat)
      case atStart => exact ⟨0, by omega, rfl, Lib.hid ⟨O1.out, B1.out⟩⟩
      case round =>
        obtain ⟨j, hj, rfl, HX⟩ := hrel
        have hjj : j = 0 ∨ j = 1 ∨ j = 2 := by omega
        clear hj
        rcases hjj with rfl | rfl | rfl
        · obtain ⟨b0, b1⟩ := CL.out _ HX.out.2
          have hown := HX.out.1
          unfold OwnQ at hown
          simp only [ccP, List.length_nil] at hown
          go_wp2_with (at_builtin; refine wpList_append_own _ rfl _ _ 25 rfl w.heap.size 32 i0 (.agg #[.int .i64 0, .int .i64 0]) 2 16 Tryz.underlying25 hi hz0 hz1 hz2 rfl (by decide) _ _ _ rfl hown ⟨b, 0, none⟩ 1 1 (qV [q]) rfl hlen.out (C0.out _ HX.out.2) (qV_one _) (by unfold maxLen; omega) (by omega) HX.out.2.size ?_)
          intro v' w9 hown9 hgrow _
          have B9 := Lib.hid (show Below w.heap.size w w9 from Below.grown HX.out.2 hgrow HX.out.2.size (fun k hk => (World.ownsRow.lt hown k hk).1))
          have O9 := Lib.hid (show OwnQ w9 w.heap.size v' (ccP q ps 1) from hown9)
          clear hown9 hgrow hown b0 b1
          go_wp2_with fail
          go_roundw
          case rel => exact ⟨1, by omega, by go_num, Lib.hid ⟨O9.out, B9.out⟩⟩
          case measure => simp [intOf]
        · obtain ⟨b0, b1⟩ := CL.out _ HX.out.2
          have hown := HX.out.1
          unfold OwnQ at hown
          simp only [ccP, List.length_nil, List.length_cons] at hown
          go_wp2_with (at_builtin; refine wpList_append_own _ rfl _ _ 25 rfl w.heap.size 32 i0 (.agg #[.int .i64 0, .int .i64 0]) 2 16 Tryz.underlying25 hi hz0 hz1 hz2 rfl (by decide) _ _ _ rfl hown a k cap (qV ps) rfl L1.out (C1.out _ HX.out.2) (qV_one _) (by unfold maxLen; omega) (by omega) HX.out.2.size ?_)
          intro v' w9 hown9 hgrow _
          have B9 := Lib.hid (show Below w.heap.size w w9 from Below.grown HX.out.2 hgrow HX.out.2.size (fun k hk => (World.ownsRow.lt hown k hk).1))
          have O9 := Lib.hid (show OwnQ w9 w.heap.size v' (ccP q ps 2) by
            unfold OwnQ
            simp only [ccP]
            rw [show q :: ps = [q] ++ ps from rfl, qV_appd, List.length_append, hk]
            exact hown9)
          clear hown9 hgrow hown b0 b1
          go_wp2_with fail
          go_roundw
          case rel => exact ⟨2, by omega, by go_num, Lib.hid ⟨O9.out, B9.out⟩⟩
          case measure => simp [intOf]
        · go_wp2_with fail
          go_ret
          exact ⟨HX.out.2, _, rfl, HX.out.1⟩

set_option maxRecDepth 100000 in
set_option maxHeartbeats 4000000 in
theorem concat_nil (h b : Nat) (q : Pq) (w : World) (h0 : w.cell? ⟨h, 0, none⟩ = some (.slice (some ⟨b, 0, none⟩) 1 1)) (h1 : w.cell? ⟨h, 1, none⟩ = some (.slice none 0 0))
    (hq : Rd2 w ⟨b, 0, none⟩ [q]) :
    Calls Tryz.prog 60 #[.slice (some ⟨h, 0, none⟩) 2 2] w (fun e w' => Below w.heap.size w w' ∧ ∃ v, e = .returned v ∧ OwnQ w' w.heap.size v (q :: [])) := by
  obtain ⟨i0, hi, hz0, hz1, hz2⟩ := info_parts rat_info
  have GR := Lib.hid (grow_any 1 w (by omega) (by omega))
  have CL := Lib.hid (show ∀ W, Below w.heap.size w W → W.cell? ⟨h, 0, none⟩ = some (.slice (some ⟨b, 0, none⟩) 1 1) ∧ W.cell? ⟨h, 1, none⟩ = some (.slice none 0 0) from fun W hb => ⟨kept hb h0, kept hb h1⟩)
  have C0 := Lib.hid (show ∀ W, Below w.heap.size w W → ∀ j u, (qV [q])[j]? = some u → W.cell? ((⟨b, 0, none⟩ : Addr).add j) = some u from fun W hb => qV_cells (hq.on hb))
  have hlen := Lib.hid (qV_len [q])
  clear hq
  go_enter Tryz.func60, Tryz.ntmps60
  go_wp2_with fail
  go_loopw [11, 3] (fun s t wr => ∃ j : Nat, j ≤ 2 ∧ s = .int .i64 j ∧ t = .int .i64 (ccS 0 j) ∧ wr = w) (fun s _ _ => 2 - (intOf s).toNat)
  case atStart => exact ⟨0, by omega, rfl, rfl, rfl⟩
  case round =>
    obtain ⟨j, hj, rfl, rfl, hw⟩ := hrel
    rw [hw]
    clear hw
    obtain ⟨b0, b1⟩ := CL.out w (Below.refl _ _)
    have hjj : j = 0 ∨ j = 1 ∨ j = 2 := by omega
    clear hj
    rcases hjj with rfl | rfl | rfl
    · simp only [ccS]
      go_wp2_with fail
      go_roundw
      case rel => exact ⟨1, by omega, by go_num, by go_num, trivial⟩
      case measure => simp [intOf]
    · simp only [ccS]
      go_wp2_with fail
      go_roundw
      case rel => exact ⟨2, by omega, by go_num, by go_num, trivial⟩
      case measure => simp [intOf]
    · simp only [ccS]
      clear b0 b1
      go_wp2_with fail
      refine GR.out.mono ?_
      rintro e w1 ⟨hb1, v1, rfl, hv1⟩
      have B1 := Lib.hid hb1
      have O1 := Lib.hid hv1
      clear hb1 hv1
      go_wp2_with fail
      go_loopw [27, 6] (fun s v wr => ∃ j : Nat, j ≤ 2 ∧ s = .int .i64 j ∧ Hid (OwnQ wr w.heap.size v (ccP q [] j) ∧ Below w.heap.size w wr)) (fun s _ _ => 2 - (intOf s).toNat)
      case atStart => exact ⟨0, by omega, rfl, Lib.hid ⟨O1.out, B1.out⟩⟩
      case round =>
        obtain ⟨j, hj, rfl, HX⟩ := hrel
        have hjj : j = 0 ∨ j = 1 ∨ j = 2 := by omega
        clear hj
        rcases hjj with rfl | rfl | rfl
        · obtain ⟨b0, b1⟩ := CL.out _ HX.out.2
          have hown := HX.out.1
          unfold OwnQ at hown
          simp only [ccP, List.length_nil] at hown
          go_wp2_with (at_builtin; refine wpList_append_own _ rfl _ _ 25 rfl w.heap.size 32 i0 (.agg #[.int .i64 0, .int .i64 0]) 2 16 Tryz.underlying25 hi hz0 hz1 hz2 rfl (by decide) _ _ _ rfl hown ⟨b, 0, none⟩ 1 1 (qV [q]) rfl hlen.out (C0.out _ HX.out.2) (qV_one _) (by unfold maxLen; omega) (by omega) HX.out.2.size ?_)
          intro v' w9 hown9 hgrow _
          have B9 := Lib.hid (show Below w.heap.size w w9 from Below.grown HX.out.2 hgrow HX.out.2.size (fun k hk => (World.ownsRow.lt hown k hk).1))
          have O9 := Lib.hid (show OwnQ w9 w.heap.size v' (ccP q [] 1) from hown9)
          clear hown9 hgrow hown b0 b1
          go_wp2_with fail
          go_roundw
          case rel => exact ⟨1, by omega, by go_num, Lib.hid ⟨O9.out, B9.out⟩⟩
          case measure => simp [intOf]
        · obtain ⟨b0, b1⟩ := CL.out _ HX.out.2
          have hown := HX.out.1
          unfold OwnQ at hown
          simp only [ccP, List.length_nil, List.length_cons] at hown
          have HRUN := Lib.hid (run_append_owned_none (P := Tryz.prog) _ w.heap.size 25 25 32 i0 2 Tryz.underlying25 hi _ _ _ hown)
          go_wp2_with (at_builtin; (refine Lib.wpList_append_run _ rfl _ _ _ _ rfl _ _ rfl rfl _ _ HRUN.out ?_))
          have O9 := Lib.hid (show OwnQ _ w.heap.size _ (ccP q [] 2) from hown)
          clear hown b0 b1
          go_wp2_with fail
          go_roundw
          case rel => exact ⟨2, by omega, by go_num, Lib.hid ⟨O9.out, HX.out.2⟩⟩
          case measure => simp [intOf]
        · go_wp2_with fail
          go_ret
          exact ⟨HX.out.2, _, rfl, HX.out.1⟩
end Go.Proofs.YtbnebinpemejlaaGreat
