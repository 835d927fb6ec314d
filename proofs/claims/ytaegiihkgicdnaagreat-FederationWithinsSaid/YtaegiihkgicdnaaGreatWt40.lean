/- A part. -/
import Derived.Test.YtaegiihkgicdnaaGreatWt39
import Derived.Test.YtaegiihkgicdnaaGreatWt13
import Derived.Test.YtaegiihkgicdnaaGreatWt10
import Derived.Test.YtaegiihkgicdnaaGreatWt30
import Derived.Test.YtaegiihkgicdnaaGreatWt19

namespace Go.Proofs.YtaegiihkgicdnaaGreat
open Go.RowKit

theorem OwnZ.lies {R B : Nat} {A : World} {ao : Option Addr} {cap : Nat} {L : List ZV} (h : OwnZ R B A (.slice ao L.length cap) L) : ∀ p, ao = some p → R ≤ p.block ∧ p.block < A.heap.size := by
  obtain ⟨a2, c2, e, h1, h2⟩ := h.read
  injection e with e1 _ e2
  subst e1 e2
  exact h2

def zsS (l : List Zp) : Sq := flatS (fun z => emS (z, 0)) l

def erS (e : Int) : Sq := if e = 0 then ([], 0) else emS ((0, []), e)

def befS (r : List Zp × Int) : Sq := seqA (zsS (if r.2 = 0 then r.1 else [])) (erS r.2)

def witS (good bad : List Zp) : Sq := flatS (fun g => befS (befR g bad)) good

def witR (good bad : List Zp) : List Zp × Int := ((witS good bad).1, ansE [good, bad] (colE (witS good bad).1 (witS good bad).2))

theorem zs_step {s T R : Sq} {l : List Zp} {u : Nat} (hu : u < l.length) (h : EqS (addQ s (seqA (zsS (l.drop u)) R)) T) : EqS (addQ (addS s (l[u], 0)) (seqA (zsS (l.drop (u + 1))) R)) T := by
  rw [addS_eq]
  refine (addQ_seq s _ _).trans ?_
  rw [← seqA_assoc]
  rw [List.drop_eq_getElem_cons hu] at h
  exact h

theorem er_step {s T R : Sq} {e : Int} {x : Zp} (he : e ≠ 0) (h : EqS (addQ s (seqA (erS e) R)) T) : EqS (addQ (addS s (x, e)) R) T := by
  rw [addS_eq]
  refine (addQ_seq s _ _).trans ?_
  have : erS e = emS (x, e) := by
    unfold erS
    rw [if_neg he]
    unfold emS oneS
    simp [he]
  rw [← this]
  exact h

theorem wit_row {s T : Sq} {L M : List Zp} {t : Nat} (ht : t < L.length) (h : EqS (addQ s (witS (L.drop t) M)) T) {l : List Zp} {e : Int} (hl : l = if (befR L[t] M).2 = 0 then (befR L[t] M).1 else []) (he : e = (befR L[t] M).2) : EqS (addQ s (seqA (zsS l) (seqA (erS e) (witS (L.drop (t + 1)) M)))) T := by
  rw [List.drop_eq_getElem_cons ht] at h
  rw [hl, he, ← seqA_assoc]
  exact h

set_option maxRecDepth 100000 in
set_option maxHeartbeats 16000000 in
theorem rwithin_any (L M : List ZV) (go ho : Option Addr) (gc hc : Nat) (w : World) (hL : RdZ 0 w go L) (hM : RdZ 0 w ho M) (hl : L.length ≤ 1000000) (hm : M.length ≤ 1000000) (hcap : M.length ≤ hc) :
    Calls Tryz.prog 28 #[.slice go L.length gc, .slice ho M.length hc] w (RfRes (witR (L.map ZV.p) (M.map ZV.p)) w) := by
  have RL := Lib.hid hL
  have RM := Lib.hid hM
  obtain ⟨n, hn⟩ : ∃ n, n = L.length := ⟨_, rfl⟩
  obtain ⟨m, hm2⟩ : ∃ m, m = M.length := ⟨_, rfl⟩
  have HN := Lib.hid hn
  have HM := Lib.hid hm2
  have HCP := Lib.hid hcap
  have BO := Lib.hid (show ∀ W, Below w.heap.size w W → Calls Tryz.prog 43 #[.slice go n gc, .slice ho m hc] W (Made (.int .i64 (chkG [L.map ZV.p, M.map ZV.p])) W) from fun W h => by rw [hn, hm2]; exact both_any L M go ho gc hc W (hL.on h) (hM.on h) hl hm)
  have nle : n ≤ 1000000 := by omega
  rw [← hn, ← hm2]
  clear hL hM hl hm hn hm2 hcap
  obtain ⟨c, hc0⟩ : ∃ c, c = chkG [L.map ZV.p, M.map ZV.p] := ⟨_, rfl⟩
  have HC := Lib.hid hc0
  rw [← hc0] at BO
  clear hc0
  obtain ⟨T, hT⟩ : ∃ T, T = witS (L.map ZV.p) (M.map ZV.p) := ⟨_, rfl⟩
  have HT := Lib.hid hT
  clear hT
  go_enter Tryz.func28, Tryz.ntmps28
  go_wp2_with fail
  refine (BO.out _ (Below.refl _ _)).mono ?_
  rintro e w1 ⟨rfl, hb⟩
  have B1 := Lib.hid hb
  clear hb
  by_cases h0 : c = 0
  · have h0b : (c != 0) = false := by simp [h0]
    have EV := Lib.hid (show (witR (L.map ZV.p) (M.map ZV.p)).2 = colE T.1 T.2 from by unfold witR ansE; rw [← HC.out, if_pos h0, HT.out])
    have MLE := Lib.hid (show M.length ≤ 2001 from by
      have h := HC.out.symm.trans h0
      rw [chkG_comm] at h
      have := (chk_short h).1
      rw [List.length_map] at this
      omega)
    clear h0
    obtain ⟨q, hq⟩ : ∃ q, q = w1.heap.size := ⟨_, rfl⟩
    obtain ⟨w2, hw2⟩ : ∃ w2, w2 = w1.alloc (.cells #[.slice none 0 0, .int .i64 0] 62) := ⟨_, rfl⟩
    have M0 := Lib.hid (show Mk q q (fun k => k < q) (fun _ => False) w2 ([], 0) by rw [hw2, hq]; exact Mk.made w1)
    have B2 := Lib.hid (show Below w.heap.size w w2 by rw [hw2]; exact below_on B1.out (one_more _))
    have WQ := Lib.hid (show w.heap.size ≤ q by rw [hq]; exact B1.out.size)
    go_upto_region 5 with (fail)
    rw [← hw2, ← hq]
    clear hw2 hq
    go_wp2_with fail
    go_loopw [8] (fun i wr => ∃ t : Nat, i = .int .i64 t ∧ t ≤ n ∧ Hid (∃ s, Mk q q (fun k => k < q) (fun _ => False) wr s ∧ Below w.heap.size w wr ∧ EqS (addQ s (witS ((L.map ZV.p).drop t) (M.map ZV.p))) T)) (fun i _ => n - (intOf i).toNat)
    case atStart => exact ⟨0, rfl, by omega, Lib.hid ⟨([], 0), M0.out, B2.out, by rw [addQ_ok rfl, nil_seqA, HT.out]; exact EqS.refl _⟩⟩
    case round =>
      generalize wr = wo at *
      obtain ⟨t, rfl, ht, HI⟩ := hrel
      obtain ⟨s, mm, be, eq⟩ := HI.out
      have MM := Lib.hid mm
      have BE := Lib.hid be
      have EQ := Lib.hid eq
      obtain ⟨bad, hbad⟩ : ∃ bad, bad = colE s.1 s.2 := ⟨_, rfl⟩
      have HBD := Lib.hid hbad
      obtain ⟨mv, mL, m1, _⟩ := mm
      rw [← hbad] at m1
      obtain ⟨f0, f1, f2, f3⟩ := m1.facts
      have FIN := Lib.hid (show EqS s T → RfRes (witR (L.map ZV.p) (M.map ZV.p)) w (.returned (.tuple #[.slice none 0 0, .int .i64 0])) wo ∨ EqS s T from Or.inr)
      clear be eq hbad m1 f0 f2 f3 HI FIN
      by_cases htn : t < n
      · by_cases hb0 : bad = 0
        · have hb1 : (bad == 0) = true := by simp [hb0]
          obtain ⟨x, hx⟩ : ∃ x, x = L[t]'(by have := HN.out; omega) := ⟨_, rfl⟩
          have HLT := Lib.hid (show t < (L.map ZV.p).length by have := HN.out; simpa using (show t < L.length by omega))
          have XP := Lib.hid (show (L.map ZV.p)[t]'HLT.out = x.p by rw [hx]; simp)
          have HX := Lib.hid (show ZAt 0 wo x from (RL.out.el x (by rw [hx]; exact List.getElem_mem _)).on BE.out)
          obtain ⟨a, ea, h0, h1⟩ := (RL.out.on BE.out).hd t (by have := HN.out; omega)
          rw [← hx] at h0 h1
          obtain ⟨xl, hxl⟩ : ∃ xl, xl = x.l.length := ⟨_, rfl⟩
          rw [← hxl] at h1
          have BF := Lib.hid (show Calls Tryz.prog 69 #[.agg #[.int .i64 x.N, .slice x.a xl x.c], .slice ho m hc] wo (RfNew (befR x.p (M.map ZV.p)) wo) from by
            rw [hxl, HM.out]
            exact before_any x M ho hc wo HX.out (RM.out.on BE.out) MLE.out HCP.out)
          clear hx hxl hb0
          subst ea
          go_wp2_with fail
          refine BF.out.mono ?_
          rintro e w4 ⟨hb, ao, cap, X, rfl, ox, hxp, hxq⟩
          obtain ⟨e4, he4⟩ : ∃ e4, e4 = (befR x.p (M.map ZV.p)).2 := ⟨_, rfl⟩
          have ES := Lib.hid (wit_row (l := X.map ZV.p) (e := e4) HLT.out EQ.out (by rw [XP.out]; exact hxp) (by rw [XP.out]; exact he4))
          rw [← he4]
          obtain ⟨xn, hxn⟩ : ∃ xn, xn = X.length := ⟨_, rfl⟩
          rw [← hxn]
          have HXN := Lib.hid hxn
          have xle : xn ≤ 2001 := by omega
          have RX := Lib.hid ox.rd.1
          have OX := Lib.hid ox
          have B4 := Lib.hid hb
          have M4 := Lib.hid (show Mk q q (fun j => j < q ∨ (wo.heap.size ≤ j ∧ j < w4.heap.size)) (fun _ => False) w4 s from MM.out.more hb (fun j r => r) (fun j r => r.elim))
          have BE4 := Lib.hid (below_on BE.out hb)
          clear hb ox hxp hxq he4 hxn h0 h1 f1
          go_wp2_with fail
          go_loopw [11] (fun i wr => ∃ u : Nat, i = .int .i64 u ∧ u ≤ xn ∧ Hid (∃ s, Mk q q (fun j => j < q ∨ (wo.heap.size ≤ j ∧ j < w4.heap.size)) (fun _ => False) wr s ∧ Kept (fun j => j < q ∨ (wo.heap.size ≤ j ∧ j < w4.heap.size)) w4 wr ∧ Below w.heap.size w wr ∧ EqS (addQ s (seqA (zsS ((X.map ZV.p).drop u)) (seqA (erS e4) (witS ((L.map ZV.p).drop (t + 1)) (M.map ZV.p))))) T)) (fun i _ => xn - (intOf i).toNat)
          case atStart => exact ⟨0, rfl, by omega, Lib.hid ⟨s, M4.out, Kept.refl _ _, BE4.out, ES.out⟩⟩
          case round =>
            generalize wr = wi at *
            obtain ⟨u, rfl, hu, HJ⟩ := hrel
            obtain ⟨s1, mm1, kp1, be1, eq1⟩ := HJ.out
            have MI := Lib.hid mm1
            have KI := Lib.hid kp1
            have BI := Lib.hid be1
            have EI := Lib.hid eq1
            clear mm1 kp1 be1 eq1 HJ
            by_cases hux : u < xn
            · obtain ⟨z, hz⟩ : ∃ z, z = X[u]'(by have := HXN.out; omega) := ⟨_, rfl⟩
              have HUT := Lib.hid (show u < (X.map ZV.p).length by have := HXN.out; simpa using (show u < X.length by omega))
              have ZP := Lib.hid (show (X.map ZV.p)[u]'HUT.out = z.p by rw [hz]; simp)
              have hzm : z ∈ X := by rw [hz]; exact List.getElem_mem _
              have SZ := Lib.hid (show ∀ p, z.a = some p → wo.heap.size ≤ p.block ∧ p.block < w4.heap.size from fun p e => (OX.out.el z hzm).2 p e)
              have RI := Lib.hid (show RdZ wo.heap.size wi ao X from RX.out.keptK KI.out (fun p e => Or.inr (OX.out.lies p e)) (fun y hy p e => Or.inr ((OX.out.el y hy).2 p e)))
              obtain ⟨b, eb, h0, h1⟩ := RI.out.hd u (by have := HXN.out; omega)
              rw [← hz] at h0 h1
              have AD := radd_any q q _ _ s1 z 0 wi MI.out (Nat.le_refl _) (fun _ => ⟨(RI.out.el z hzm).low (Nat.zero_le _), fun p e => ⟨Or.inr (SZ.out p e), fun r => r⟩⟩)
              unfold ZV.val at AD
              obtain ⟨zl, hzl⟩ : ∃ zl, zl = z.l.length := ⟨_, rfl⟩
              rw [← hzl] at h1 AD
              have AD := Lib.hid AD
              have E2 := zs_step HUT.out EI.out
              rw [ZP.out] at E2
              have E2 := Lib.hid E2
              clear hz hzm hzl
              subst eb
              go_wp2_with fail
              refine AD.out.mono ?_
              rintro e wx ⟨rfl, hmk, hkp, hbx⟩
              have MX := Lib.hid hmk
              have KX := Lib.hid (KI.out.trans hkp)
              have BX := Lib.hid (BI.out.trans (hbx.mono WQ.out))
              clear hmk hkp hbx h0 h1 AD
              go_wp2_with fail
              go_roundw
              case rel => exact ⟨u + 1, by go_num, by omega, Lib.hid ⟨_, MX.out, KX.out, BX.out, E2.out⟩⟩
              case measure => simp [intOf]; omega
            · have e : (X.map ZV.p).drop u = [] := List.drop_eq_nil_of_le (by have := HXN.out; simp; omega)
              have E2 := EI.out
              rw [e, show zsS [] = ([], 0) from rfl, nil_seqA] at E2
              have E2 := Lib.hid E2
              have MQ := Lib.hid (show Mk q q (fun k => k < q) (fun _ => False) wi s1 from MI.out.more (Below.refl _ _) (fun j r => Or.inl (Or.inl r)) (fun j r => r.elim))
              clear e
              by_cases h4 : e4 = 0
              · have h4b : (e4 != 0) = false := by simp [h4]
                have E3 := E2.out
                rw [show erS e4 = ([], 0) from if_pos h4, nil_seqA] at E3
                have E3 := Lib.hid E3
                clear h4
                go_wp2_with fail
                go_roundw
                case rel => exact ⟨t + 1, by go_num, by omega, Lib.hid ⟨s1, MQ.out, BI.out, E3.out⟩⟩
                case measure => simp [intOf]; omega
              · have h4b : (e4 != 0) = true := by simpa using h4
                have E3 := Lib.hid (er_step (x := ((⟨0, none, 0, []⟩ : ZV)).p) h4 E2.out)
                have AD := Lib.hid (show Calls Tryz.prog 44 #[.pointer (some ⟨q, 0, none⟩), .agg #[.int .i64 0, .slice none 0 0], .int .i64 e4] wi _ from radd_any q q _ _ s1 ⟨0, none, 0, []⟩ e4 wi MQ.out (Nat.le_refl _) (fun e => absurd e h4))
                clear h4
                go_wp2_with fail
                refine AD.out.mono ?_
                rintro e wx ⟨rfl, hmk, hkp, hbx⟩
                have MX := Lib.hid hmk
                have BX := Lib.hid (BI.out.trans (hbx.mono WQ.out))
                clear hmk hkp hbx AD
                go_wp2_with fail
                go_roundw
                case rel => exact ⟨t + 1, by go_num, by omega, Lib.hid ⟨_, MX.out, BX.out, E3.out⟩⟩
                case measure => simp [intOf]; omega
        · have hb1 : (bad == 0) = false := by simpa using hb0
          have EF := Lib.hid (show EqS s T by have := EQ.out; rw [addQ_bad (by rw [← HBD.out]; exact hb0)] at this; exact this)
          clear hb0
          have TD := Lib.hid (told_any q q _ _ s wo MM.out)
          go_wp2_with fail
          refine TD.out.mono ?_
          rintro e w9 ⟨hb, ao, cap, X, rfl, hx, hxp, hxl, _⟩
          obtain ⟨xn, hxn⟩ : ∃ xn, xn = X.length := ⟨_, rfl⟩
          have FE := Lib.hid (show RfRes (witR (L.map ZV.p) (M.map ZV.p)) w (.returned (.tuple #[.slice ao X.length cap, .int .i64 (colE s.1 s.2)])) w9 from by
            refine ⟨below_on BE.out hb, ao, cap, X, by rw [EV.out, EF.out.1], hx.low WQ.out (Nat.le_refl _), ?_, by omega⟩
            rw [EV.out, hxp, ← EF.out.1, show (witR (L.map ZV.p) (M.map ZV.p)).1 = T.1 by rw [HT.out]; rfl]
            by_cases h : colE s.1 s.2 = 0
            · rw [if_pos h, if_pos h]; exact EF.out.2 h
            · rw [if_neg h, if_neg h])
          rw [← hxn] at FE ⊢
          clear hb hx hxp hxl hxn
          go_wp2_with fail
          go_ret2
          exact FE.out
      · have e : (L.map ZV.p).drop t = [] := List.drop_eq_nil_of_le (by have := HN.out; simp; omega)
        have eq := EQ.out
        rw [e, show witS [] (M.map ZV.p) = ([], 0) from rfl, addQ_nil] at eq
        have EF := Lib.hid eq
        clear e eq
        have TD := Lib.hid (told_any q q _ _ s wo MM.out)
        go_wp2_with fail
        repeat (first | (refine ⟨fun f h => (by cases h), ?_⟩; try go_wp2_with fail))
        refine TD.out.mono ?_
        rintro e w9 ⟨hb, ao, cap, X, rfl, hx, hxp, hxl, _⟩
        obtain ⟨xn, hxn⟩ : ∃ xn, xn = X.length := ⟨_, rfl⟩
        have FE := Lib.hid (show RfRes (witR (L.map ZV.p) (M.map ZV.p)) w (.returned (.tuple #[.slice ao X.length cap, .int .i64 (colE s.1 s.2)])) w9 from by
          refine ⟨below_on BE.out hb, ao, cap, X, by rw [EV.out, EF.out.1], hx.low WQ.out (Nat.le_refl _), ?_, by omega⟩
          rw [EV.out, hxp, ← EF.out.1, show (witR (L.map ZV.p) (M.map ZV.p)).1 = T.1 by rw [HT.out]; rfl]
          by_cases h : colE s.1 s.2 = 0
          · rw [if_pos h, if_pos h]; exact EF.out.2 h
          · rw [if_neg h, if_neg h])
        rw [← hxn] at FE ⊢
        clear hb hx hxp hxl hxn
        go_wp2_with fail
        go_ret2
        exact FE.out
  · have h0b : (c != 0) = true := by simpa using h0
    have FIN := Lib.hid (show RfRes (witR (L.map ZV.p) (M.map ZV.p)) w (.returned (.tuple #[.slice none 0 0, .int .i64 c])) w1 from by
      have e : (witR (L.map ZV.p) (M.map ZV.p)).2 = c := by unfold witR ansE; rw [← HC.out, if_neg h0]
      exact ⟨B1.out, none, 0, [], by rw [e]; rfl, OwnZ.nil _ _ _, by rw [e, if_neg h0]; rfl, by simp⟩)
    clear h0
    go_wp2_with fail
    go_ret2
    exact FIN.out
end Go.Proofs.YtaegiihkgicdnaaGreat

namespace Go.Proofs.YtaegiihkgicdnaaGreat
open Go.RowKit

end Go.Proofs.YtaegiihkgicdnaaGreat

namespace Go.Proofs.YtaegiihkgicdnaaGreat
open Go.RowKit

def gz (l : List Zp) (k : Nat) : Zp := l.getD k (0, [])

theorem gz_eq {l : List Zp} {k : Nat} (h : k < l.length) : gz l k = l[k] := by simp [gz, h]

def coB (l : List Zp) (i k : Nat) : Bool := decide (k ≠ i) && inR (gz l k).1 (gz l i).1 (gz l k).2 (gz l i).2

def conB (l : List Zp) (i : Nat) : Bool := (List.range l.length).any (coB l i)

theorem conB_yes {l : List Zp} {i k : Nat} (hk : k < l.length) (h : coB l i k = true) : conB l i = true := by
  unfold conB
  rw [List.any_eq_true]
  exact ⟨k, by simpa using hk, h⟩

theorem conB_no {l : List Zp} {i : Nat} (h : ∀ k, k < l.length → coB l i k = false) : conB l i = false := by
  unfold conB
  rw [List.any_eq_false]
  intro k hk
  rw [h k (by simpa using hk)]
  simp

end Go.Proofs.YtaegiihkgicdnaaGreat

namespace Go.Proofs.YtaegiihkgicdnaaGreat
open Go.RowKit

theorem mustB_ok (b : Bool) (w : World) : Calls Tryz.prog 73 #[.bool b, .int .i64 0] w (Made (.bool b) w) := by
  refine (mustB_any b 0 w).mono ?_
  rintro e w' ⟨hb, (⟨_, rfl⟩ | ⟨h, _⟩)⟩
  · exact ⟨rfl, hb⟩
  · exact absurd rfl h

set_option maxRecDepth 100000 in
set_option maxHeartbeats 8000000 in
theorem isPart_any (L : List ZV) (go : Option Addr) (gc i : Nat) (w : World) (hL : RdZ 0 w go L) (hi : i < L.length) (hl : L.length ≤ 1000000) (hie : ∀ x ∈ L, ∀ y ∈ L, inE x.N y.N x.l y.l = 0) :
    Calls Tryz.prog 104 #[.slice go L.length gc, .int .i64 i] w (Made (.bool (conB (L.map ZV.p) i)) w) := by
  have RL := Lib.hid hL
  have IE := Lib.hid hie
  obtain ⟨n, hn⟩ : ∃ n, n = L.length := ⟨_, rfl⟩
  have HN := Lib.hid hn
  have nle : n ≤ 1000000 := by omega
  have hin : i < n := by omega
  rw [← hn]
  obtain ⟨y, hy⟩ : ∃ y, y = L[i] := ⟨_, rfl⟩
  have YM := Lib.hid (show y ∈ L by rw [hy]; exact List.getElem_mem _)
  obtain ⟨a, ea, h2, h3⟩ := hL.hd i hi
  rw [← hy] at h2 h3
  have YP := Lib.hid (show gz (L.map ZV.p) i = y.p by rw [gz_eq (by simpa using hi), hy]; simp)
  have YZ := Lib.hid (show ZAt 0 w y from hL.el y YM.out)
  obtain ⟨yl, hyl⟩ : ∃ yl, yl = y.l.length := ⟨_, rfl⟩
  rw [← hyl] at h3
  have HYL := Lib.hid hyl
  have GY := Lib.hid (And.intro h2 h3)
  clear hL hi hl hn hy h2 h3 hyl hie
  subst ea
  go_enter Tryz.func104, Tryz.ntmps104
  go_wp2_with fail
  go_loopw [9] (fun k wr => ∃ t : Nat, k = .int .i64 t ∧ t ≤ n ∧ Hid (Below w.heap.size w wr) ∧ Hid (∀ j, j < t → coB (L.map ZV.p) i j = false)) (fun k _ => n - (intOf k).toNat)
  case atStart => exact ⟨0, rfl, by omega, Lib.hid (Below.refl _ _), Lib.hid (fun j h => by omega)⟩
  case round =>
    generalize wr = wo at *
    obtain ⟨t, rfl, ht, BE, HF⟩ := hrel
    by_cases htn : t < n
    · obtain ⟨x, hx⟩ : ∃ x, x = L[t]'(by have := HN.out; omega) := ⟨_, rfl⟩
      have XM := Lib.hid (show x ∈ L by rw [hx]; exact List.getElem_mem _)
      have XP := Lib.hid (show gz (L.map ZV.p) t = x.p by rw [gz_eq (by have := HN.out; simp; omega), hx]; simp)
      have HX := Lib.hid (show ZAt 0 w x from RL.out.el x XM.out)
      obtain ⟨b, eb, h0, h1⟩ := (RL.out.on BE.out).hd t (by have := HN.out; omega)
      have eab : b = a := by injection eb with e; exact e.symm
      subst eab
      rw [← hx] at h0 h1
      obtain ⟨xl, hxl⟩ : ∃ xl, xl = x.l.length := ⟨_, rfl⟩
      rw [← hxl] at h1
      obtain ⟨v, hv⟩ : ∃ v, v = inR x.N y.N x.l y.l := ⟨_, rfl⟩
      have IN := Lib.hid (show ∀ W, Below w.heap.size w W → Calls Tryz.prog 143 #[.agg #[.int .i64 x.N, .slice x.a xl x.c], .agg #[.int .i64 y.N, .slice y.a yl y.c]] W (Made (.tuple #[.bool v, .int .i64 0]) W) from fun W h => by
        have := zinc_gen x.N y.N x.l y.l x.a y.a x.c y.c W (HX.out.on h).1 (YZ.out.on h).1
        rw [IE.out x XM.out y YM.out] at this
        rw [hxl, HYL.out, hv]
        exact this)
      have CB := Lib.hid (show coB (L.map ZV.p) i t = (decide (t ≠ i) && v) by unfold coB; rw [XP.out, YP.out, hv]; rfl)
      have HLT := Lib.hid (show t < (L.map ZV.p).length by have := HN.out; simp; omega)
      obtain ⟨w2, hw2⟩ : ∃ w2, w2 = wo.alloc (.cells #[.int .i64 x.N, .slice x.a xl x.c] 36) := ⟨_, rfl⟩
      have B2 := Lib.hid (below_on BE.out (show Below wo.heap.size wo w2 by rw [hw2]; exact one_more _))
      have X2 := Lib.hid (show Bx2 w2 wo.heap.size (.int .i64 x.N) (.slice x.a xl x.c) 36 by rw [hw2]; exact Bx2.made wo _ _ _)
      clear hx hxl hv eb
      go_upto_region 4 with (fail)
      rw [← hw2]
      clear hw2 h0 h1
      generalize wo.heap.size = q at X2 ⊢
      by_cases hti : t = i
      · have q1 : ((t : Int) != (i : Int)) = false := by simp [hti]
        have CF := Lib.hid (show coB (L.map ZV.p) i t = false by rw [CB.out]; simp [hti])
        clear hti
        have KS := Lib.hid (show ∀ W, Below w2.heap.size w2 W → (W.cell? ⟨q, 0, none⟩ = some (.int .i64 x.N) ∧ W.cell? ⟨q, 1, none⟩ = some (.slice x.a xl x.c) ∧ W.cell? (b.add (i * 2)) = some (.int .i64 y.N) ∧ W.cell? ⟨(b.add (i * 2)).block, (b.add (i * 2)).off + 1, none⟩ = some (.slice y.a yl y.c)) from fun W h => ⟨(X2.out.kept h).facts.1, (X2.out.kept h).facts.2.1, kept (below_on B2.out h) GY.out.1, kept (below_on B2.out h) GY.out.2⟩)
        obtain ⟨wc, hwc⟩ : ∃ wc, wc = w2.drew := ⟨_, rfl⟩
        have Bc := Lib.hid (show Below w2.heap.size w2 wc by rw [hwc]; exact (Below.refl _ _).drew)
        refine wp_region_held_drew (S := (fun W => (W.cell? ⟨q, 0, none⟩ = some (.int .i64 x.N) ∧ W.cell? ⟨q, 1, none⟩ = some (.slice x.a xl x.c) ∧ W.cell? (b.add (i * 2)) = some (.int .i64 y.N) ∧ W.cell? ⟨(b.add (i * 2)).block, (b.add (i * 2)).off + 1, none⟩ = some (.slice y.a yl y.c)))) (by kernel_rfl) (by rw [← hwc]; exact KS.out _ Bc.out) (fun h0 => ?_)
        rw [← hwc] at h0 ⊢
        clear hwc
        refine tkH (i := 0) (v := ?v1) rfl (Or.inl ⟨by rfl, ?hy1⟩) h0 ?rest1
        case hy1 => (intro w' hS; (try dsimp only at hS); go_simp; try (with_reducible rfl))
        simp only [Act.put, sA, sB, sD, sE, sF]
        refine tkH (i := 1) (v := ?v2) rfl (Or.inl ⟨by rfl, ?hy2⟩) h0 ?rest2
        case hy2 => (intro w' hS; (try dsimp only at hS); go_simp; try (with_reducible rfl))
        simp only [Act.put, sZ]
        refine tkH (i := 2) (v := ?v3) rfl (Or.inl ⟨by rfl, ?hy3⟩) h0 ?rest3
        case hy3 => (intro w' hS; (try dsimp only at hS); go_simp; try (with_reducible rfl))
        simp only [Act.put, sZ]
        refine tkH (i := 3) (v := ?v4) rfl (Or.inl ⟨by rfl, ?hy4⟩) h0 ?rest4
        case hy4 => (intro w' hS; (try dsimp only at hS); go_simp; try (with_reducible rfl))
        simp only [Act.put, sZ]
        refine tkH (i := 4) (v := undef) rfl (Or.inr ⟨by rfl, rfl⟩) h0 ?_
        simp only [Act.put, sZ]
        refine tkH (i := 5) (v := undef) rfl (Or.inr ⟨by rfl, rfl⟩) h0 ?_
        simp only [Act.put, sZ]
        refine tkH (i := 6) (v := undef) rfl (Or.inr ⟨by rfl, rfl⟩) h0 ?_
        simp only [Act.put, sZ]
        refine tkH (i := 7) (v := undef) rfl (Or.inr ⟨by rfl, rfl⟩) h0 ?_
        simp only [Act.put, sZ]
        refine tkH (i := 8) (v := undef) rfl (Or.inr ⟨by rfl, rfl⟩) h0 ?_
        simp only [Act.put, sZ]
        refine tkH (i := 9) (v := undef) rfl (Or.inr ⟨by rfl, rfl⟩) h0 ?_
        simp only [Act.put, sZ]
        refine tkH (i := 10) (v := undef) rfl (Or.inr ⟨by rfl, rfl⟩) h0 ?_
        simp only [Act.put, sZ]
        refine tkH (i := 11) (v := undef) rfl (Or.inr ⟨by rfl, rfl⟩) h0 ?_
        simp only [Act.put, sZ]
        refine tkH (i := 12) (v := undef) rfl (Or.inr ⟨by rfl, rfl⟩) h0 ?_
        simp only [Act.put, sZ]
        refine tkH (i := 13) (v := ?v14) rfl (Or.inl ⟨by rfl, ?hy14⟩) h0 ?rest14
        case hy14 => (intro w' hS; (try dsimp only at hS); go_simp; try (with_reducible rfl))
        simp only [Act.put, sA, sB, sC, sD]
        try simp only [sF]
        try simp only [sE]
        refine wpAnyH_done (by kernel_rfl) ?_ _
        try simp only [Exit.then]
        have BB := Lib.hid (below_on B2.out Bc.out)
        clear Bc KS
        go_wp2_with fail
        go_roundw
        case rel => exact ⟨t + 1, by go_num, by omega, BB, Lib.hid fun j hj => by
          by_cases e : j = t
          · subst e; exact CF.out
          · exact HF.out j (by omega)⟩
        case measure => simp [intOf]; omega
      · have q1 : ((t : Int) != (i : Int)) = true := by simp; omega
        have HTI := Lib.hid hti
        clear hti
        have KS := Lib.hid (show ∀ W, Below w2.heap.size w2 W → (W.cell? ⟨q, 0, none⟩ = some (.int .i64 x.N) ∧ W.cell? ⟨q, 1, none⟩ = some (.slice x.a xl x.c) ∧ W.cell? (b.add (i * 2)) = some (.int .i64 y.N) ∧ W.cell? ⟨(b.add (i * 2)).block, (b.add (i * 2)).off + 1, none⟩ = some (.slice y.a yl y.c)) from fun W h => ⟨(X2.out.kept h).facts.1, (X2.out.kept h).facts.2.1, kept (below_on B2.out h) GY.out.1, kept (below_on B2.out h) GY.out.2⟩)
        obtain ⟨wc, hwc⟩ : ∃ wc, wc = w2.drew := ⟨_, rfl⟩
        have Bc := Lib.hid (show Below w2.heap.size w2 wc by rw [hwc]; exact (Below.refl _ _).drew)
        refine wp_region_held_drew (S := (fun W => (W.cell? ⟨q, 0, none⟩ = some (.int .i64 x.N) ∧ W.cell? ⟨q, 1, none⟩ = some (.slice x.a xl x.c) ∧ W.cell? (b.add (i * 2)) = some (.int .i64 y.N) ∧ W.cell? ⟨(b.add (i * 2)).block, (b.add (i * 2)).off + 1, none⟩ = some (.slice y.a yl y.c)))) (by kernel_rfl) (by rw [← hwc]; exact KS.out _ Bc.out) (fun h0 => ?_)
        rw [← hwc] at h0 ⊢
        clear hwc
        refine tkH (i := 0) (v := ?v15) rfl (Or.inl ⟨by rfl, ?hy15⟩) h0 ?rest15
        case hy15 => (intro w' hS; (try dsimp only at hS); go_simp; try (with_reducible rfl))
        simp only [Act.put, sA, sB, sD, sE, sF]
        refine tkH (i := 1) (v := ?v16) rfl (Or.inl ⟨by rfl, ?hy16⟩) h0 ?rest16
        case hy16 => (intro w' hS; (try dsimp only at hS); go_simp; try (with_reducible rfl))
        simp only [Act.put, sZ]
        refine tkH (i := 2) (v := ?v17) rfl (Or.inl ⟨by rfl, ?hy17⟩) h0 ?rest17
        case hy17 => (intro w' hS; (try dsimp only at hS); go_simp; try (with_reducible rfl))
        simp only [Act.put, sZ]
        refine tkH (i := 3) (v := ?v18) rfl (Or.inl ⟨by rfl, ?hy18⟩) h0 ?rest18
        case hy18 => (intro w' hS; (try dsimp only at hS); go_simp; try (with_reducible rfl))
        simp only [Act.put, sZ]
        refine tkH (i := 4) (v := ?v19) rfl (Or.inl ⟨by rfl, ?hy19⟩) h0 ?rest19
        case hy19 => (intro w' hS; (try dsimp only at hS); go_simp; try (with_reducible rfl))
        simp only [Act.put, sZ]
        refine tkH (i := 5) (v := ?v20) rfl (Or.inl ⟨by rfl, ?hy20⟩) h0 ?rest20
        case hy20 => (intro w' hS; (try dsimp only at hS); go_simp; try (with_reducible rfl))
        simp only [Act.put, sZ]
        refine tkH (i := 6) (v := ?v21) rfl (Or.inl ⟨by rfl, ?hy21⟩) h0 ?rest21
        case hy21 => (intro w' hS; (try dsimp only at hS); go_simp; try (with_reducible rfl))
        simp only [Act.put, sZ]
        refine tkH (i := 7) (v := ?v22) rfl (Or.inl ⟨by rfl, ?hy22⟩) h0 ?rest22
        case hy22 => (intro w' hS; (try dsimp only at hS); go_simp; try (with_reducible rfl))
        simp only [Act.put, sZ]
        refine tkH (i := 8) (v := ?v23) rfl (Or.inl ⟨by rfl, ?hy23⟩) h0 ?rest23
        case hy23 => (intro w' hS; (try dsimp only at hS); go_simp; try (with_reducible rfl))
        simp only [Act.put, sZ]
        refine wpAnyH_ready (rs := [9]) (by kernel_rfl) (by simp) (AllReadyH.cons rfl (fun K hK => ?_) AllReadyH.nil)
        rw [if_pos (by rfl)]
        go_simp
        refine (IN.out wc (below_on B2.out Bc.out)).mono ?_
        rintro e wd ⟨rfl, hb⟩
        have Bc := Lib.hid (below_on Bc.out hb)
        clear hb
        obtain ⟨wc, hwc⟩ : ∃ wc, wc = wd := ⟨_, rfl⟩
        rw [← hwc] at Bc ⊢
        clear hwc
        go_simp
        refine hK.out _ _ (KS.out _ Bc.out) (fun h0_1 => ?_)
        clear hK K h0
        refine tkH (i := 10) (v := ?v24) rfl (Or.inl ⟨by rfl, ?hy24⟩) h0_1 ?rest24
        case hy24 => (intro w' hS; (try dsimp only at hS); go_simp; try (with_reducible rfl))
        simp only [Act.put, sZ]
        refine tkH (i := 11) (v := ?v25) rfl (Or.inl ⟨by rfl, ?hy25⟩) h0_1 ?rest25
        case hy25 => (intro w' hS; (try dsimp only at hS); go_simp; try (with_reducible rfl))
        simp only [Act.put, sZ]
        refine wpAnyH_ready (rs := [12]) (by kernel_rfl) (by simp) (AllReadyH.cons rfl (fun K hK => ?_) AllReadyH.nil)
        rw [if_pos (by rfl)]
        go_simp
        refine (mustB_ok v wc).mono ?_
        rintro e wd ⟨rfl, hb⟩
        have Bc := Lib.hid (below_on Bc.out hb)
        clear hb
        obtain ⟨wc, hwc⟩ : ∃ wc, wc = wd := ⟨_, rfl⟩
        rw [← hwc] at Bc ⊢
        clear hwc
        go_simp
        refine hK.out _ _ (KS.out _ Bc.out) (fun h0_2 => ?_)
        clear hK K h0_1
        refine tkH (i := 13) (v := ?v26) rfl (Or.inl ⟨by rfl, ?hy26⟩) h0_2 ?rest26
        case hy26 => (intro w' hS; (try dsimp only at hS); go_simp; try (with_reducible rfl))
        simp only [Act.put, sA, sB, sC, sD]
        try simp only [sF]
        try simp only [sE]
        refine wpAnyH_done (by kernel_rfl) ?_ _
        try simp only [Exit.then]
        have BB := Lib.hid (below_on B2.out Bc.out)
        clear Bc KS
        cases v with
        | false =>
          have CF := Lib.hid (show coB (L.map ZV.p) i t = false by rw [CB.out]; simp)
          go_wp2_with fail
          go_roundw
          case rel => exact ⟨t + 1, by go_num, by omega, BB, Lib.hid fun j hj => by
            by_cases e : j = t
            · subst e; exact CF.out
            · exact HF.out j (by omega)⟩
          case measure => simp [intOf]; omega
        | true =>
          have FE := Lib.hid (show conB (L.map ZV.p) i = true from conB_yes HLT.out (by rw [CB.out]; simp [HTI.out]))
          go_wp2_with fail
          go_ret
          exact ⟨by rw [FE.out]; rfl, BB.out⟩
    · have FE := Lib.hid (show conB (L.map ZV.p) i = false from conB_no fun k hk => HF.out k (by have := HN.out; simp at hk; omega))
      clear HF
      go_wp2_with fail
      go_ret
      exact ⟨by rw [FE.out]; rfl, BE.out⟩
end Go.Proofs.YtaegiihkgicdnaaGreat

namespace Go.Proofs.YtaegiihkgicdnaaGreat
open Go.RowKit

set_option maxRecDepth 20000 in
theorem lsameR_any (L M : List ZV) (go ho : Option Addr) (gc hc : Nat) (e : Int) (w : World) (hL : RdZ 0 w go L) (hM : RdZ 0 w ho M) (hl : L.length ≤ 1000000) (he : L.map ZV.p = M.map ZV.p) (hz : ∀ z ∈ L, z.l.length ≤ 9223372036854775807) :
    Calls Tryz.prog 15 #[.slice go L.length gc, .slice ho M.length hc, .int .i64 e, .int .i64 e] w (Made (.bool true) w) := by
  have SM := Lib.hid (rsameL_any L M go ho gc hc w hL hM hl he hz)
  generalize L.length = n at *
  generalize M.length = m at *
  clear hL hM hl he hz
  have q1 : (e == e) = true := by simp
  go_enter Tryz.func15, Tryz.ntmps15
  go_wp2_with fail
  refine SM.out.mono ?_
  rintro e w1 ⟨rfl, hb⟩
  have B1 := Lib.hid hb
  clear hb
  go_wp2_with fail
  go_ret
  exact ⟨rfl, B1.out⟩
end Go.Proofs.YtaegiihkgicdnaaGreat

namespace Go.Proofs.YtaegiihkgicdnaaGreat
open Go.RowKit

end Go.Proofs.YtaegiihkgicdnaaGreat

namespace Go.Proofs.YtaegiihkgicdnaaGreat
open Go.RowKit

theorem flatS_congr {α : Type} {f g : α → Sq} : ∀ {L : List α}, (∀ x ∈ L, f x = g x) → flatS f L = flatS g L
  | [], _ => rfl
  | x :: r, h => by
    unfold flatS
    rw [h x (by simp), flatS_congr fun y hy => h y (by simp [hy])]

theorem ua_ea {f : Zp → Zp × Int} {L : List Zp} (h : ∀ z ∈ L, (f z).2 ≠ 4) : uaS f L = eaS f L := by
  unfold uaS eaS
  refine flatS_congr fun z hz => ?_
  unfold emS
  rw [if_neg (h z hz)]

end Go.Proofs.YtaegiihkgicdnaaGreat
