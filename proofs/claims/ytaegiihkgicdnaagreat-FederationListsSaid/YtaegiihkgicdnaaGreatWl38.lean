/- A part. -/
import Derived.Test.YtaegiihkgicdnaaGreatWl37
import Derived.Test.YtaegiihkgicdnaaGreatWl10
import Derived.Test.YtaegiihkgicdnaaGreatWl8

namespace Go.Proofs.YtaegiihkgicdnaaGreat
open Go.RowKit

def uaS (f : Zp → Zp × Int) (L : List Zp) : Sq := flatS (fun x => emS (f x)) L

def uaR (f : Zp → Zp × Int) (L : List Zp) : List Zp × Int := ((uaS f L).1, if rchk L = 0 then colE (uaS f L).1 (uaS f L).2 else rchk L)

theorem ua_step {f : Zp → Zp × Int} {s T : Sq} {L : List Zp} {t : Nat} (ht : t < L.length) {z : Zp} {e : Int} (h : EqS (addQ s (uaS f (L.drop t))) T) (he : e = (f L[t]).2) (hz : e = 0 → z = (f L[t]).1) : EqS (addQ (addS s (z, e)) (uaS f (L.drop (t + 1)))) T := by
  rw [addS_same he hz, addS_eq]
  refine (addQ_seq s _ _).trans ?_
  rw [List.drop_eq_getElem_cons ht] at h
  exact h

set_option maxRecDepth 100000 in
set_option maxHeartbeats 16000000 in
theorem rup_any (L : List ZV) (go : Option Addr) (gc : Nat) (w : World) (hL : RdZ 0 w go L) (hl : L.length ≤ 1000000) :
    Calls Tryz.prog 24 #[.slice go L.length gc] w (RfNew (uaR upP (L.map ZV.p)) w) := by
  have RL := Lib.hid hL
  obtain ⟨n, hn⟩ : ∃ n, n = L.length := ⟨_, rfl⟩
  have HN := Lib.hid hn
  have BO := Lib.hid (show ∀ W, Below w.heap.size w W → Calls Tryz.prog 12 #[.slice go n gc] W (Made (.int .i64 (rchk (L.map ZV.p))) W) from fun W h => by rw [hn]; exact rcheck_any L go gc W (hL.on h) hl)
  have nle : n ≤ 1000000 := by omega
  rw [← hn]
  clear hL hl hn
  obtain ⟨c, hc0⟩ : ∃ c, c = rchk (L.map ZV.p) := ⟨_, rfl⟩
  have HC := Lib.hid hc0
  rw [← hc0] at BO
  clear hc0
  go_enter Tryz.func24, Tryz.ntmps24
  go_wp2_with fail
  refine (BO.out _ (Below.refl _ _)).mono ?_
  rintro e w1 ⟨rfl, hb⟩
  have B1 := Lib.hid hb
  clear hb
  by_cases h0 : c = 0
  · have h0b : (c != 0) = false := by simp [h0]
    have EV := Lib.hid (show (uaR upP (L.map ZV.p)).2 = colE (uaS upP (L.map ZV.p)).1 (uaS upP (L.map ZV.p)).2 from by unfold uaR; rw [← HC.out, if_pos h0])
    clear h0
    obtain ⟨q, hq⟩ : ∃ q, q = w1.heap.size := ⟨_, rfl⟩
    obtain ⟨w2, hw2⟩ : ∃ w2, w2 = w1.alloc (.cells #[.slice none 0 0, .int .i64 0] 62) := ⟨_, rfl⟩
    have M0 := Lib.hid (show Mk q q (fun k => k < q) (fun j => j < w.heap.size) w2 ([], 0) by rw [hw2, hq]; exact Mk.made w1)
    have B2 := Lib.hid (show Below w.heap.size w w2 by rw [hw2]; exact below_on B1.out (one_more _))
    have WQ := Lib.hid (show w.heap.size ≤ q by rw [hq]; exact B1.out.size)
    go_upto_region 5 with (fail)
    rw [← hw2, ← hq]
    clear hw2 hq
    go_wp2_with fail
    go_loopw [6] (fun i wr => ∃ t : Nat, i = .int .i64 t ∧ t ≤ n ∧ Hid (∃ s, Mk q q (fun k => k < q) (fun j => j < w.heap.size) wr s ∧ Below w.heap.size w wr ∧ EqS (addQ s (uaS upP ((L.map ZV.p).drop t))) (uaS upP (L.map ZV.p)))) (fun i _ => n - (intOf i).toNat)
    case atStart => exact ⟨0, rfl, by omega, Lib.hid ⟨([], 0), M0.out, B2.out, by rw [addQ_ok rfl, nil_seqA]; exact EqS.refl _⟩⟩
    case round =>
      generalize wr = wo at *
      obtain ⟨t, rfl, ht, HI⟩ := hrel
      obtain ⟨s, mm, be, eq⟩ := HI.out
      have MM := Lib.hid mm
      have BE := Lib.hid be
      have EQ := Lib.hid eq
      clear mm be eq HI
      by_cases htn : t < n
      · obtain ⟨x, hx⟩ : ∃ x, x = L[t]'(by have := HN.out; omega) := ⟨_, rfl⟩
        have HLT := Lib.hid (show t < (L.map ZV.p).length by have := HN.out; simpa using (show t < L.length by omega))
        have XP := Lib.hid (show (L.map ZV.p)[t]'HLT.out = x.p by rw [hx]; simp)
        have HX := Lib.hid (show ZAt 0 wo x from (RL.out.el x (by rw [hx]; exact List.getElem_mem _)).on BE.out)
        obtain ⟨a, ea, h0, h1⟩ := (RL.out.on BE.out).hd t (by have := HN.out; omega)
        rw [← hx] at h0 h1
        have UP := rup_out x wo HX.out
        unfold ZV.val at UP
        obtain ⟨xl, hxl⟩ : ∃ xl, xl = x.l.length := ⟨_, rfl⟩
        rw [← hxl] at h1 UP
        have UP := Lib.hid UP
        clear hx hxl
        subst ea
        go_wp2_with fail
        refine UP.out.mono ?_
        rintro e wd ⟨hb, z8, rfl, hz8, hp8⟩
        have AD := MM.out.add (Nat.le_refl _) (fun _ r => Nat.lt_of_lt_of_le r BE.out.size) hb z8 (upP x.p).2 hz8
        unfold ZV.val at AD ⊢
        obtain ⟨zl, hzl⟩ : ∃ zl, zl = z8.l.length := ⟨_, rfl⟩
        rw [← hzl] at AD ⊢
        have ES := Lib.hid (ua_step (e := (upP x.p).2) (z := z8.p) HLT.out EQ.out (by rw [XP.out]) (by rw [XP.out]; exact hp8))
        obtain ⟨e8, he8⟩ : ∃ e8, e8 = (upP x.p).2 := ⟨_, rfl⟩
        rw [← he8] at AD ES ⊢
        have AD := Lib.hid AD
        clear he8 hzl hp8 hz8 hb h0 h1 UP
        go_wp2_with fail
        refine AD.out.mono ?_
        rintro e wx ⟨rfl, hmk, _, hbx⟩
        have MX := Lib.hid hmk
        have BX := Lib.hid (BE.out.trans (hbx.mono WQ.out))
        clear hmk hbx AD
        go_wp2_with fail
        go_roundw
        case rel => exact ⟨t + 1, by go_num, by omega, Lib.hid ⟨_, MX.out, BX.out, ES.out⟩⟩
        case measure => simp [intOf]; omega
      · have e : (L.map ZV.p).drop t = [] := List.drop_eq_nil_of_le (by have := HN.out; simp; omega)
        have eq := EQ.out
        rw [e, show uaS upP [] = ([], 0) from rfl, addQ_nil] at eq
        have TD := Lib.hid (told_any q q _ _ s wo MM.out)
        have EQ := Lib.hid eq
        clear e eq
        go_wp2_with fail
        refine TD.out.mono ?_
        rintro e w9 ⟨hb, ao, cap, X, rfl, hx, hxp, hxl, hxn8⟩
        obtain ⟨xn, hxn⟩ : ∃ xn, xn = X.length := ⟨_, rfl⟩
        have FIN := Lib.hid (show RfNew (uaR upP (L.map ZV.p)) w (.returned (.tuple #[.slice ao X.length cap, .int .i64 (colE s.1 s.2)])) w9 from by
          refine ⟨below_on BE.out hb, ao, cap, X, by rw [EV.out, EQ.out.1], ⟨(hx.low WQ.out (Nat.le_refl 0)).row, fun y hy => ⟨(hx.el y hy).1, fun p e => ⟨Nat.le_of_not_lt (hxn8 y hy p e), ((hx.el y hy).2 p e).2⟩⟩, hx.far⟩, ?_, by omega⟩
          rw [EV.out, hxp, ← EQ.out.1]
          by_cases h : colE s.1 s.2 = 0
          · rw [if_pos h, if_pos h]; exact EQ.out.2 h
          · rw [if_neg h, if_neg h])
        rw [← hxn] at FIN ⊢
        clear hb hx hxp hxl hxn hxn8
        go_wp2_with fail
        go_ret2
        exact FIN.out
  · have h0b : (c != 0) = true := by simpa using h0
    have FIN := Lib.hid (show RfNew (uaR upP (L.map ZV.p)) w (.returned (.tuple #[.slice none 0 0, .int .i64 c])) w1 from by
      have e : (uaR upP (L.map ZV.p)).2 = c := by unfold uaR; rw [← HC.out, if_neg h0]
      exact ⟨B1.out, none, 0, [], by rw [e]; rfl, OwnZ.nil _ _ _, by rw [e, if_neg h0]; rfl, by simp⟩)
    clear h0
    go_wp2_with fail
    go_ret2
    exact FIN.out

set_option maxRecDepth 100000 in
set_option maxHeartbeats 16000000 in
theorem rdown_any (L : List ZV) (go : Option Addr) (gc : Nat) (w : World) (hL : RdZ 0 w go L) (hl : L.length ≤ 1000000) :
    Calls Tryz.prog 26 #[.slice go L.length gc] w (RfNew (uaR dnP (L.map ZV.p)) w) := by
  have RL := Lib.hid hL
  obtain ⟨n, hn⟩ : ∃ n, n = L.length := ⟨_, rfl⟩
  have HN := Lib.hid hn
  have BO := Lib.hid (show ∀ W, Below w.heap.size w W → Calls Tryz.prog 12 #[.slice go n gc] W (Made (.int .i64 (rchk (L.map ZV.p))) W) from fun W h => by rw [hn]; exact rcheck_any L go gc W (hL.on h) hl)
  have nle : n ≤ 1000000 := by omega
  rw [← hn]
  clear hL hl hn
  obtain ⟨c, hc0⟩ : ∃ c, c = rchk (L.map ZV.p) := ⟨_, rfl⟩
  have HC := Lib.hid hc0
  rw [← hc0] at BO
  clear hc0
  go_enter Tryz.func26, Tryz.ntmps26
  go_wp2_with fail
  refine (BO.out _ (Below.refl _ _)).mono ?_
  rintro e w1 ⟨rfl, hb⟩
  have B1 := Lib.hid hb
  clear hb
  by_cases h0 : c = 0
  · have h0b : (c != 0) = false := by simp [h0]
    have EV := Lib.hid (show (uaR dnP (L.map ZV.p)).2 = colE (uaS dnP (L.map ZV.p)).1 (uaS dnP (L.map ZV.p)).2 from by unfold uaR; rw [← HC.out, if_pos h0])
    clear h0
    obtain ⟨q, hq⟩ : ∃ q, q = w1.heap.size := ⟨_, rfl⟩
    obtain ⟨w2, hw2⟩ : ∃ w2, w2 = w1.alloc (.cells #[.slice none 0 0, .int .i64 0] 62) := ⟨_, rfl⟩
    have M0 := Lib.hid (show Mk q q (fun k => k < q) (fun j => j < w.heap.size) w2 ([], 0) by rw [hw2, hq]; exact Mk.made w1)
    have B2 := Lib.hid (show Below w.heap.size w w2 by rw [hw2]; exact below_on B1.out (one_more _))
    have WQ := Lib.hid (show w.heap.size ≤ q by rw [hq]; exact B1.out.size)
    go_upto_region 5 with (fail)
    rw [← hw2, ← hq]
    clear hw2 hq
    go_wp2_with fail
    go_loopw [6] (fun i wr => ∃ t : Nat, i = .int .i64 t ∧ t ≤ n ∧ Hid (∃ s, Mk q q (fun k => k < q) (fun j => j < w.heap.size) wr s ∧ Below w.heap.size w wr ∧ EqS (addQ s (uaS dnP ((L.map ZV.p).drop t))) (uaS dnP (L.map ZV.p)))) (fun i _ => n - (intOf i).toNat)
    case atStart => exact ⟨0, rfl, by omega, Lib.hid ⟨([], 0), M0.out, B2.out, by rw [addQ_ok rfl, nil_seqA]; exact EqS.refl _⟩⟩
    case round =>
      generalize wr = wo at *
      obtain ⟨t, rfl, ht, HI⟩ := hrel
      obtain ⟨s, mm, be, eq⟩ := HI.out
      have MM := Lib.hid mm
      have BE := Lib.hid be
      have EQ := Lib.hid eq
      clear mm be eq HI
      by_cases htn : t < n
      · obtain ⟨x, hx⟩ : ∃ x, x = L[t]'(by have := HN.out; omega) := ⟨_, rfl⟩
        have HLT := Lib.hid (show t < (L.map ZV.p).length by have := HN.out; simpa using (show t < L.length by omega))
        have XP := Lib.hid (show (L.map ZV.p)[t]'HLT.out = x.p by rw [hx]; simp)
        have HX := Lib.hid (show ZAt 0 wo x from (RL.out.el x (by rw [hx]; exact List.getElem_mem _)).on BE.out)
        obtain ⟨a, ea, h0, h1⟩ := (RL.out.on BE.out).hd t (by have := HN.out; omega)
        rw [← hx] at h0 h1
        have UP := rdn_out x wo HX.out
        unfold ZV.val at UP
        obtain ⟨xl, hxl⟩ : ∃ xl, xl = x.l.length := ⟨_, rfl⟩
        rw [← hxl] at h1 UP
        have UP := Lib.hid UP
        clear hx hxl
        subst ea
        go_wp2_with fail
        refine UP.out.mono ?_
        rintro e wd ⟨hb, z8, rfl, hz8, hp8⟩
        have AD := MM.out.add (Nat.le_refl _) (fun _ r => Nat.lt_of_lt_of_le r BE.out.size) hb z8 (dnP x.p).2 hz8
        unfold ZV.val at AD ⊢
        obtain ⟨zl, hzl⟩ : ∃ zl, zl = z8.l.length := ⟨_, rfl⟩
        rw [← hzl] at AD ⊢
        have ES := Lib.hid (ua_step (e := (dnP x.p).2) (z := z8.p) HLT.out EQ.out (by rw [XP.out]) (by rw [XP.out]; exact hp8))
        obtain ⟨e8, he8⟩ : ∃ e8, e8 = (dnP x.p).2 := ⟨_, rfl⟩
        rw [← he8] at AD ES ⊢
        have AD := Lib.hid AD
        clear he8 hzl hp8 hz8 hb h0 h1 UP
        go_wp2_with fail
        refine AD.out.mono ?_
        rintro e wx ⟨rfl, hmk, _, hbx⟩
        have MX := Lib.hid hmk
        have BX := Lib.hid (BE.out.trans (hbx.mono WQ.out))
        clear hmk hbx AD
        go_wp2_with fail
        go_roundw
        case rel => exact ⟨t + 1, by go_num, by omega, Lib.hid ⟨_, MX.out, BX.out, ES.out⟩⟩
        case measure => simp [intOf]; omega
      · have e : (L.map ZV.p).drop t = [] := List.drop_eq_nil_of_le (by have := HN.out; simp; omega)
        have eq := EQ.out
        rw [e, show uaS dnP [] = ([], 0) from rfl, addQ_nil] at eq
        have TD := Lib.hid (told_any q q _ _ s wo MM.out)
        have EQ := Lib.hid eq
        clear e eq
        go_wp2_with fail
        refine TD.out.mono ?_
        rintro e w9 ⟨hb, ao, cap, X, rfl, hx, hxp, hxl, hxn8⟩
        obtain ⟨xn, hxn⟩ : ∃ xn, xn = X.length := ⟨_, rfl⟩
        have FIN := Lib.hid (show RfNew (uaR dnP (L.map ZV.p)) w (.returned (.tuple #[.slice ao X.length cap, .int .i64 (colE s.1 s.2)])) w9 from by
          refine ⟨below_on BE.out hb, ao, cap, X, by rw [EV.out, EQ.out.1], ⟨(hx.low WQ.out (Nat.le_refl 0)).row, fun y hy => ⟨(hx.el y hy).1, fun p e => ⟨Nat.le_of_not_lt (hxn8 y hy p e), ((hx.el y hy).2 p e).2⟩⟩, hx.far⟩, ?_, by omega⟩
          rw [EV.out, hxp, ← EQ.out.1]
          by_cases h : colE s.1 s.2 = 0
          · rw [if_pos h, if_pos h]; exact EQ.out.2 h
          · rw [if_neg h, if_neg h])
        rw [← hxn] at FIN ⊢
        clear hb hx hxp hxl hxn hxn8
        go_wp2_with fail
        go_ret2
        exact FIN.out
  · have h0b : (c != 0) = true := by simpa using h0
    have FIN := Lib.hid (show RfNew (uaR dnP (L.map ZV.p)) w (.returned (.tuple #[.slice none 0 0, .int .i64 c])) w1 from by
      have e : (uaR dnP (L.map ZV.p)).2 = c := by unfold uaR; rw [← HC.out, if_neg h0]
      exact ⟨B1.out, none, 0, [], by rw [e]; rfl, OwnZ.nil _ _ _, by rw [e, if_neg h0]; rfl, by simp⟩)
    clear h0
    go_wp2_with fail
    go_ret2
    exact FIN.out

end Go.Proofs.YtaegiihkgicdnaaGreat

namespace Go.Proofs.YtaegiihkgicdnaaGreat
open Go.RowKit

theorem smB_refl (N : Int) (l : List Int) : smB N N l l = true := by simp [smB]

set_option maxRecDepth 100000 in
set_option maxHeartbeats 16000000 in
theorem rsameLW_any (L M : List ZV) (go ho : Option Addr) (gc hc : Nat) (w : World) (hL : RdW w go L) (hM : RdW w ho M) (hl : L.length ≤ 1000000) (he : L.map ZV.p = M.map ZV.p) (hz : ∀ z ∈ L, z.l.length ≤ 9223372036854775807) :
    Calls Tryz.prog 19 #[.slice go L.length gc, .slice ho M.length hc] w (Made (.bool true) w) := by
  have RL := Lib.hid hL
  have RM := Lib.hid hM
  have HE := Lib.hid he
  have HZ := Lib.hid hz
  have hlm : M.length = L.length := by have := congrArg List.length he; simpa using this.symm
  obtain ⟨n, hn⟩ : ∃ n, n = L.length := ⟨_, rfl⟩
  have HN := Lib.hid hn
  have HM := Lib.hid (show n = M.length by omega)
  have nle : n ≤ 1000000 := by omega
  rw [hlm, ← hn]
  clear hL hM hl hn he hz hlm
  go_enter Tryz.func19, Tryz.ntmps19
  go_wp2_with fail
  go_loopw [5] (fun i wr => ∃ t : Nat, i = .int .i64 t ∧ t ≤ n ∧ Hid (Below w.heap.size w wr)) (fun i _ => n - (intOf i).toNat)
  case atStart => exact ⟨0, rfl, by omega, Lib.hid (Below.refl _ _)⟩
  case round =>
    generalize wr = wo at *
    obtain ⟨t, rfl, ht, BE⟩ := hrel
    by_cases htn : t < n
    · obtain ⟨x, hx⟩ : ∃ x, x = L[t]'(by have := HN.out; omega) := ⟨_, rfl⟩
      obtain ⟨y, hy⟩ : ∃ y, y = M[t]'(by have := HM.out; omega) := ⟨_, rfl⟩
      have XY : x.p = y.p := by
        have h1 : (L.map ZV.p)[t]? = some x.p := by rw [List.getElem?_map, List.getElem?_eq_getElem (by have := HN.out; omega), hx]; rfl
        have h2 : (M.map ZV.p)[t]? = some y.p := by rw [List.getElem?_map, List.getElem?_eq_getElem (by have := HM.out; omega), hy]; rfl
        rw [HE.out, h2] at h1
        injection h1 with h1
        exact h1.symm
      have hxm : x ∈ L := by rw [hx]; exact List.getElem_mem _
      have HX := Lib.hid (show ZW wo x from (RL.out.el x hxm).on BE.out)
      have HY := Lib.hid (show ZW wo y from (RM.out.el y (by rw [hy]; exact List.getElem_mem _)).on BE.out)
      obtain ⟨a, ea, h0, h1⟩ := (RL.out.on BE.out).hd t (by have := HN.out; omega)
      obtain ⟨b, eb, h2, h3⟩ := (RM.out.on BE.out).hd t (by have := HM.out; omega)
      rw [← hx] at h0 h1
      rw [← hy] at h2 h3
      obtain ⟨xl, hxl⟩ : ∃ xl, xl = x.l.length := ⟨_, rfl⟩
      obtain ⟨yl, hyl⟩ : ∃ yl, yl = y.l.length := ⟨_, rfl⟩
      rw [← hxl] at h1
      rw [← hyl] at h3
      have SM := Lib.hid (show ∀ W, Below wo.heap.size wo W → Calls Tryz.prog 37 #[.agg #[.int .i64 x.N, .slice x.a xl x.c], .agg #[.int .i64 y.N, .slice y.a yl y.c]] W (Made (.bool true) W) from fun W h => by
        have := same_any x.N y.N x.l y.l x.a y.a x.c y.c W (HX.out.on h).1 (HY.out.on h).1 (HZ.out x hxm)
        have e1 : x.N = y.N := congrArg Prod.fst XY
        have e2 : x.l = y.l := congrArg Prod.snd XY
        rw [show smB x.N y.N x.l y.l = true by rw [e1, e2]; exact smB_refl _ _] at this
        rw [hxl, hyl]; exact this)
      have G := Lib.hid (And.intro h0 (And.intro h1 (And.intro h2 h3)))
      clear hx hy hxl hyl h0 h1 h2 h3 XY hxm
      subst ea
      subst eb
      go_upto_region 6 with (fail)
      have KS := Lib.hid (show ∀ W, Below wo.heap.size wo W → (W.cell? (a.add (t * 2)) = some (.int .i64 x.N) ∧ W.cell? ⟨(a.add (t * 2)).block, (a.add (t * 2)).off + 1, none⟩ = some (.slice x.a xl x.c) ∧ W.cell? (b.add (t * 2)) = some (.int .i64 y.N) ∧ W.cell? ⟨(b.add (t * 2)).block, (b.add (t * 2)).off + 1, none⟩ = some (.slice y.a yl y.c)) from fun W h => ⟨kept h G.out.1, kept h G.out.2.1, kept h G.out.2.2.1, kept h G.out.2.2.2⟩)
      obtain ⟨wc, hwc⟩ : ∃ wc, wc = wo.drew := ⟨_, rfl⟩
      have Bc := Lib.hid (show Below wo.heap.size wo wc by rw [hwc]; exact (Below.refl _ _).drew)
      refine wp_region_held_drew (S := (fun W => (W.cell? (a.add (t * 2)) = some (.int .i64 x.N) ∧ W.cell? ⟨(a.add (t * 2)).block, (a.add (t * 2)).off + 1, none⟩ = some (.slice x.a xl x.c) ∧ W.cell? (b.add (t * 2)) = some (.int .i64 y.N) ∧ W.cell? ⟨(b.add (t * 2)).block, (b.add (t * 2)).off + 1, none⟩ = some (.slice y.a yl y.c)))) (by kernel_rfl) (by rw [← hwc]; exact KS.out _ Bc.out) (fun h0 => ?_)
      rw [← hwc] at h0 ⊢
      clear hwc
      refine tkH (i := 0) (v := ?v1) rfl (Or.inl ⟨by rfl, ?hy1⟩) h0 ?rest1
      case hy1 => (intro w' hS; (try dsimp only at hS); go_simp; try (with_reducible rfl))
      simp only [Act.put, sA, sB, sD, sE, sF]
      refine tkH (i := 1) (v := ?v2) rfl (Or.inl ⟨by rfl, ?hy2⟩) h0 ?rest2
      case hy2 => (intro w' hS; (try dsimp only at hS); go_simp; try (with_reducible rfl))
      simp only [Act.put, sZ]
      refine tkH (i := 2) (v := ?v3) rfl (Or.inl ⟨by rfl, ?hy3⟩) h0 ?rest3
      case hy3 => (intro w' hS; (try dsimp only at hS); go_simp; try (with_reducible rfl))
      simp only [Act.put, sZ]
      refine tkH (i := 3) (v := ?v4) rfl (Or.inl ⟨by rfl, ?hy4⟩) h0 ?rest4
      case hy4 => (intro w' hS; (try dsimp only at hS); go_simp; try (with_reducible rfl))
      simp only [Act.put, sZ]
      refine tkH (i := 4) (v := ?v5) rfl (Or.inl ⟨by rfl, ?hy5⟩) h0 ?rest5
      case hy5 => (intro w' hS; (try dsimp only at hS); go_simp; try (with_reducible rfl))
      simp only [Act.put, sZ]
      refine tkH (i := 5) (v := ?v6) rfl (Or.inl ⟨by rfl, ?hy6⟩) h0 ?rest6
      case hy6 => (intro w' hS; (try dsimp only at hS); go_simp; try (with_reducible rfl))
      simp only [Act.put, sZ]
      refine tkH (i := 6) (v := ?v7) rfl (Or.inl ⟨by rfl, ?hy7⟩) h0 ?rest7
      case hy7 => (intro w' hS; (try dsimp only at hS); go_simp; try (with_reducible rfl))
      simp only [Act.put, sZ]
      refine tkH (i := 7) (v := ?v8) rfl (Or.inl ⟨by rfl, ?hy8⟩) h0 ?rest8
      case hy8 => (intro w' hS; (try dsimp only at hS); go_simp; try (with_reducible rfl))
      simp only [Act.put, sZ]
      refine wpAnyH_ready (rs := [8]) (by kernel_rfl) (by simp) (AllReadyH.cons rfl (fun K hK => ?_) AllReadyH.nil)
      rw [if_pos (by rfl)]
      go_simp
      refine (SM.out wc Bc.out).mono ?_
      rintro e wd ⟨rfl, hb⟩
      have Bc := Lib.hid (below_on Bc.out hb)
      clear hb
      obtain ⟨wc, hwc⟩ : ∃ wc, wc = wd := ⟨_, rfl⟩
      rw [← hwc] at Bc ⊢
      clear hwc
      go_simp
      refine hK.out _ _ (KS.out _ Bc.out) (fun h0_1 => ?_)
      clear hK K h0
      refine tkH (i := 9) (v := ?v9) rfl (Or.inl ⟨by rfl, ?hy9⟩) h0_1 ?rest9
      case hy9 => (intro w' hS; (try dsimp only at hS); go_simp; try (with_reducible rfl))
      simp only [Act.put, sA, sB, sC, sD]
      try simp only [sF]
      try simp only [sE]
      refine wpAnyH_done (by kernel_rfl) ?_ _
      try simp only [Exit.then]
      have BB := Lib.hid (below_on BE.out Bc.out)
      clear Bc KS
      go_wp2_with fail
      go_roundw
      case rel => exact ⟨t + 1, by go_num, by omega, BB⟩
      case measure => simp [intOf]; omega
    · go_wp2_with fail
      go_ret
      exact ⟨rfl, BE.out⟩

theorem rsameL_any (L M : List ZV) (go ho : Option Addr) (gc hc : Nat) (w : World) (hL : RdZ 0 w go L) (hM : RdZ 0 w ho M) (hl : L.length ≤ 1000000) (he : L.map ZV.p = M.map ZV.p) (hz : ∀ z ∈ L, z.l.length ≤ 9223372036854775807) :
    Calls Tryz.prog 19 #[.slice go L.length gc, .slice ho M.length hc] w (Made (.bool true) w) := rsameLW_any L M go ho gc hc w hL.weak hM.weak hl he hz
end Go.Proofs.YtaegiihkgicdnaaGreat

namespace Go.Proofs.YtaegiihkgicdnaaGreat
open Go.RowKit

theorem OwnZ.rd {R B : Nat} {A : World} {ao : Option Addr} {cap : Nat} {L : List ZV} (h : OwnZ R B A (.slice ao L.length cap) L) : RdZ B A ao L ∧ (ao = none → cap = 0) := by
  obtain ⟨a2, c2, e, h1, h2⟩ := h.read2
  injection e with e1 _ e2
  subst e1 e2
  exact ⟨h1, h2⟩

theorem appendLZ_run {R B : Nat} {w : World} {v : Value} {L M : List ZV} (hown : OwnZ R B w v L) {ao : Option Addr} {c : Nat} (hM : RdZ B w ao M) (hn : ao = none → c = 0) (hF : ∀ z ∈ M, ∀ p, z.a = some p → v.ownBlock ≠ some p.block)
    (hle : L.length + M.length ≤ 4000000) (hB : R ≤ w.heap.size) (ty : TypeId) :
    ∃ v' w', (Builtin.append_ #[22, 22] ty #[v, .slice ao M.length c]).run Tryz.prog w = .ok v' w' ∧ OwnZ R B w' v' (L ++ M) ∧ w.grownBy w' v.ownBlock := by
  obtain ⟨i0, hi, hz0, hz1, hz2⟩ := info_parts zone_info
  cases ao with
  | none =>
    have c0 : c = 0 := hn rfl
    have M0 : M = [] := by
      cases M with
      | nil => rfl
      | cons x r =>
        obtain ⟨p, e2, _⟩ := hM.hd 0 (by simp)
        cases e2
    subst c0 M0
    exact ⟨v, w, run_append_owned_none (P := Tryz.prog) w R 22 ty 36 i0 2 Tryz.underlying22 hi _ _ _ hown.row, by rw [List.append_nil]; exact hown, ⟨rfl, rfl, rfl, Nat.le_refl _, fun _ _ _ => rfl⟩⟩
  | some a =>
    obtain ⟨v', w', hr, h2, h3, _, h5⟩ := run_append_own_at (P := Tryz.prog) w R 22 ty 36 i0 (.agg #[.int .i64 0, .slice none 0 0]) 2 32 Tryz.underlying22 hi hz0 hz1 hz2 (by rfl) (by decide) v L.length _ hown.row a M.length c (zV M)
      (zV_len M) (RdZ.cells hM) (zV_one M) (by unfold maxLen; omega) (by omega) hB
    have hA : ∀ x ∈ L ++ M, ZAt B w x ∧ ∀ p, x.a = some p → v.ownBlock ≠ some p.block := fun x hx => by
      rcases List.mem_append.1 hx with q | q
      · exact ⟨hown.el x q, hown.far x q⟩
      · exact ⟨hM.el x q, hF x q⟩
    refine ⟨v', w', hr, ⟨?_, fun x hx => (hA x hx).1.grown h3 (hA x hx).2, fun x hx p e => ?_⟩, h3⟩
    · rw [zV_appd, List.length_append]; exact h2
    · rcases h5 with h5 | h5
      · rw [h5]; exact (hA x hx).2 p e
      · rw [h5]; intro q; injection q with q; have := ((hA x hx).1.2 p e).2; omega
end Go.Proofs.YtaegiihkgicdnaaGreat

namespace Go.Proofs.YtaegiihkgicdnaaGreat
open Go.RowKit

def thE (r : List Zp × Int) (k : List Zp → List Zp × Int) : List Zp × Int := if r.2 = 0 then k r.1 else ([], r.2)

theorem thE_ok {r : List Zp × Int} {k : List Zp → List Zp × Int} (h : r.2 = 0) : thE r k = k r.1 := if_pos h

theorem thE_no {r : List Zp × Int} {k : List Zp → List Zp × Int} (h : r.2 ≠ 0) : thE r k = ([], r.2) := if_neg h

theorem one_lit {B : Nat} (z : ZV) (w : World) (hz : ZAt B w z) : OwnZ w.heap.size B (w.alloc (.cells #[.int .i64 z.N, .slice z.a z.l.length z.c] 36)) (.slice (some ⟨w.heap.size, 0, none⟩) 1 1) [z] := by
  have hb : Below w.heap.size w (w.alloc (.cells #[.int .i64 z.N, .slice z.a z.l.length z.c] 36)) := one_more _
  refine ⟨?_, fun y hy => ?_, fun y hy p e q => ?_⟩
  · have := World.ownsRow_lit (base := w.heap.size) (e := 36) (size := 2) w #[.int .i64 z.N, .slice z.a z.l.length z.c] 1 (by simp) (by unfold maxLen; omega) (by simp)
    simpa [zV, ZV.cs] using this
  · rw [List.mem_singleton] at hy; subst hy; exact hz.on hb
  · rw [List.mem_singleton] at hy; subst hy
    have := (hz.2 p e).2
    simp [Value.ownBlock] at q
    omega

theorem zon_cells (w : World) : (sizeOf 36).run Tryz.prog w = .ok 2 w := by
  obtain ⟨i0, hi, hz0, hz1, hz2⟩ := info_parts zone_info
  simp [sizeOf, typeInfo, hi, hz1]

end Go.Proofs.YtaegiihkgicdnaaGreat

namespace Go.Proofs.YtaegiihkgicdnaaGreat
open Go.RowKit

end Go.Proofs.YtaegiihkgicdnaaGreat

namespace Go.Proofs.YtaegiihkgicdnaaGreat
open Go.RowKit

end Go.Proofs.YtaegiihkgicdnaaGreat
