/- The contracts of down and empty of layer 7's reference.; The contracts of Empty and Implies of layer 7's reference, in the words of the project's. -/
import Derived.Test.YtbhaoaobhgilkaaGreatVa37
import Derived.Test.YtbhaoaobhgilkaaGreatVa39
import Derived.Test.YtbhaoaobhgilkaaGreatVa42
import Derived.Test.YtbhaoaobhgilkaaGreatVa18

namespace Go.Proofs.YtbhaoaobhgilkaaGreat
open Go.RowKit Go.Sort Go.Shelf

/-- The lines l as the reference has them: n coordinates of each. -/
structure Shown (w : World) (ao : Option Addr) (L : List AV) (n : Nat) (l : List Ln) : Prop where
  rd : RdV w ao L
  ok : ∀ y ∈ L, FitV n y ∧ NilOk y
  eq : L.map lnV = l.map (tk n)

theorem Shown.len {w : World} {ao : Option Addr} {L : List AV} {n : Nat} {l : List Ln} (h : Shown w ao L n l) : L.length = l.length := by have := congrArg List.length h.eq; simpa using this

theorem fit_tk {n : Nat} {y : AV} {x : Ln} (hn : n ≤ 6) (h : lnV y = tk n x) (hr : Rg 2147483647 x) : FitV n y := by
  have ea : y.a = x.a.take n := congrArg Ln.a h
  have eb : y.b = x.b := congrArg Ln.b h
  refine ⟨by rw [ea, List.length_take, hr.len]; omega, fun v hv => ?_, ?_⟩
  · rw [ea] at hv
    exact hr.a v (List.mem_of_mem_take hv)
  · rw [eb]; exact hr.b

theorem fit_all {n : Nat} {L : List AV} {l : List Ln} (hn : n ≤ 6) (h : L.map lnV = l.map (tk n)) (hr : ∀ x ∈ l, Rg 2147483647 x) : ∀ y ∈ L, FitV n y := fun y hy => by
  have : lnV y ∈ l.map (tk n) := by rw [← h]; exact List.mem_map.2 ⟨y, hy, rfl⟩
  obtain ⟨x, hx, e⟩ := List.mem_map.1 this
  exact fit_tk hn e.symm (hr x hx)

/-- What comes out: a list that can be read, or an error. -/
def DnR (w : World) (er : Int) (n : Nat) (l : List Ln) (e : Ending) (w' : World) : Prop :=
  (er = 0 ∧ ∃ ro rc R, e = .returned (.tuple #[.slice ro R.length rc, .int .i64 0]) ∧ Shown w' ro R n l ∧ Below w.heap.size w w') ∨ (er ≠ 0 ∧ e = .returned (.tuple #[.slice none 0 0, .int .i64 er]) ∧ Below w.heap.size w w')

set_option maxRecDepth 100000 in
set_option maxHeartbeats 4000000 in
theorem rdown_any (n k : Nat) (L : List AV) (l : List Ln) (ao : Option Addr) (cap : Nat) (w : World) (hn : n ≤ 6) (hk : k ≤ n) (hl : l.length ≤ 2000) (hS : Shown w ao L n l) (hd : ∀ x ∈ l, DomN n x) (hg : ∀ x ∈ l, Rg 2147483647 x) :
    Calls Tryz.prog 72 #[.int .i64 n, .slice ao L.length cap, .int .i64 k] w (DnR w (dnE l n (n - k)) k (dnL l n (n - k))) := by
  have OK := Lib.hid (dn_ok hl hd hg)
  have HS := Lib.hid hS
  obtain ⟨E, hE⟩ : ∃ E, E = dnE l n (n - k) := ⟨_, rfl⟩
  have HE := Lib.hid hE
  obtain ⟨m, hm⟩ : ∃ m, m = L.length := ⟨_, rfl⟩
  have HM := Lib.hid hm
  have hw1 : wrap64 ((n : Int) - 1) = (n : Int) - 1 := by unfold wrap64; omega
  have hw2 : IntKind.i64.wrap ((n : Int) - 1) = (n : Int) - 1 := wrap_in _ (by omega) (by omega)
  rw [← hE, ← hm]
  clear hS hd hg hl hE hm
  go_enter Tryz.func72, Tryz.ntmps72
  go_wp2_with fail
  have INI := Lib.hid (show ∃ ro rc R, Value.slice ao m cap = .slice ro R.length rc ∧ Shown w ro R (n - 0) (dnL l n 0) ∧ dnE l n 0 = 0 ∧ Below w.heap.size w w from ⟨ao, cap, L, by rw [HM.out], HS.out, rfl, Below.refl _ _⟩)
  clear hw1 hw2
  go_loopw [1, 8] (fun v s wr => ∃ j : Nat, s = .int .i64 ((n : Int) - 1 - j) ∧ j ≤ n - k ∧ Hid (∃ ro rc R, v = .slice ro R.length rc ∧ Shown wr ro R (n - j) (dnL l n j) ∧ dnE l n j = 0 ∧ Below w.heap.size w wr)) (fun _ s _ => (intOf s + 1 - (k : Int)).toNat)
  case atStart => exact ⟨0, by simp, by omega, INI⟩
  case round =>
    clear INI
    obtain ⟨j, rfl, hj, HT⟩ := hrel
    generalize wr = wo at *
    obtain ⟨ro, rc, R, hv, hsh, hz, hb⟩ := HT.out
    subst hv
    have SH := Lib.hid hsh
    have HZ := Lib.hid hz
    have HB := Lib.hid hb
    clear HT hsh hz hb
    by_cases hjk : j < n - k
    · obtain ⟨o1, o2, o3⟩ := OK.out j (by omega) HZ.out
      have hz3 := SH.out.len
      have LV := Lib.hid (rleave_any (n - j) (n - 1 - j) R ro rc wo (by omega) (by omega) (by omega) SH.out.rd SH.out.ok)
      rw [SH.out.eq, leaveE_tk (by omega) (by omega) o2, leaveL_tk (by omega) (by omega) o2] at LV
      have E1 := Lib.hid (show dnE l n (j + 1) = leaveE (dnL l n j) (n - 1 - j) by show (if dnE l n j = 0 then _ else _) = _; rw [if_pos HZ.out])
      have R3 := Lib.hid (show ∀ h : dnE l n (j + 1) = 0, ∀ x ∈ dnL l n (j + 1), Rg 2147483647 x from fun h => (OK.out (j + 1) (by omega) h).2.2)
      have NJ := Lib.hid (show n - j = n - 1 - j + 1 by omega)
      obtain ⟨er, her⟩ : ∃ er, er = leaveE (dnL l n j) (n - 1 - j) := ⟨_, rfl⟩
      obtain ⟨T, hT⟩ : ∃ T, T = (leaveL (dnL l n j) (n - 1 - j)).map (erL (n - j) (n - 1 - j)) := ⟨_, rfl⟩
      have TE := Lib.hid (show T = (dnL l n (j + 1)).map (tk (n - (j + 1))) by
        rw [hT, NJ.out]
        show _ = (leaveL (dnL l n j) (n - 1 - j)).map (tk (n - (j + 1)))
        rw [show n - (j + 1) = n - 1 - j by omega]
        exact List.map_congr_left fun x _ => tk_er _ x)
      rw [← her, ← hT] at LV
      rw [← her] at E1
      obtain ⟨i, hi⟩ : ∃ i : Nat, i = n - 1 - j := ⟨_, rfl⟩
      have e1 : (n : Int) - 1 - j = (i : Int) := by omega
      have e2 : ((n - j : Nat) : Int) = (i : Int) + 1 := by omega
      have II := Lib.hid hi
      have ik : (k : Int) ≤ (i : Int) := by omega
      rw [e2, ← hi] at LV
      have i6 : (i : Int) < 6 := by omega
      rw [e1]
      have JK := Lib.hid hjk
      clear o1 o2 o3 hz3 her hT hi e1 e2 hjk hj
      obtain ⟨rl, hrl⟩ : ∃ rl, rl = R.length := ⟨_, rfl⟩
      rw [← hrl] at LV ⊢
      clear hrl
      go_wp2_with fail
      refine LV.out.mono ?_
      rintro e w1 (⟨he, v, R1, rfl, hO, hm1, hb1⟩ | ⟨he, rfl, hb1⟩)
      · obtain ⟨ro1, rc1, hv1, hrd, _⟩ := hO.read
        have NX := Lib.hid (show ∃ ro rc R, v = .slice ro R.length rc ∧ Shown w1 ro R (n - (j + 1)) (dnL l n (j + 1)) ∧ dnE l n (j + 1) = 0 ∧ Below w.heap.size w w1 from by
          have h0 : dnE l n (j + 1) = 0 := E1.out.trans he
          refine ⟨ro1, rc1, R1, hv1, ⟨hrd, fun y hy => ⟨fit_all (by have := II.out; omega) (hm1.trans TE.out) (R3.out h0) y hy, hO.nil y hy⟩, hm1.trans TE.out⟩, h0, below_on HB.out hb1⟩)
        subst he
        clear hO hm1 hb1 hv1 hrd LV
        go_wp2_with fail
        go_roundw
        case rel => exact ⟨j + 1, by have := II.out; have := JK.out; go_num; try omega, by have := JK.out; omega, NX⟩
        case measure => have := II.out; simp [intOf]; omega
      · have FE := Lib.hid (show E = er by
          have h1 : dnE l n (j + 1) ≠ 0 := by rw [E1.out]; exact he
          have h2 := dnE_stop h1 (n - k - (j + 1))
          rw [show j + 1 + (n - k - (j + 1)) = n - k by have := JK.out; omega] at h2
          rw [HE.out, h2, E1.out])
        have hne : (er != 0) = true := by simpa using he
        have BX := Lib.hid (below_on HB.out hb1)
        have NE := Lib.hid he
        clear he hb1 LV
        go_wp2_with fail
        refine bodyPost_ret (v := .tuple #[.slice none 0 0, .int .i64 er]) (by simp [results, Tryz.results72, go_sem]) rfl ?_
        exact Or.inr ⟨by rw [FE.out]; exact NE.out, by rw [FE.out], BX.out⟩
    · have e1 : j = n - k := by omega
      have e2 : (n : Int) - 1 - j < k := by omega
      have SH2 := Lib.hid (show Shown wo ro R k (dnL l n (n - k)) by have := SH.out; rw [e1, show n - (n - k) = k by omega] at this; exact this)
      have Z2 := Lib.hid (show E = 0 by rw [HE.out, ← e1]; exact HZ.out)
      obtain ⟨i, hi⟩ : ∃ i : Int, i = (n : Int) - 1 - j := ⟨_, rfl⟩
      rw [← hi] at e2 ⊢
      clear e1 hjk hi hj
      go_wp2_with fail
      refine bodyPost_ret (v := .tuple #[.slice ro R.length rc, .int .i64 0]) (by simp [results, Tryz.results72, go_sem]) rfl ?_
      exact Or.inl ⟨Z2.out, ro, rc, R, rfl, SH2.out, HB.out⟩

/-- Whether a list is empty, as the reference tells it. -/
def EmRes (w : World) (er : Int) (b : Bool) (e : Ending) (w' : World) : Prop := e = .returned (.tuple #[.bool b, .int .i64 er]) ∧ Below w.heap.size w w'

set_option maxRecDepth 100000 in
set_option maxHeartbeats 4000000 in
theorem rempty0_any (n : Nat) (L : List AV) (l : List Ln) (ao : Option Addr) (cap : Nat) (w : World) (hn : n ≤ 6) (hl : l.length ≤ 2000) (hS : Shown w ao L n l) (hd : ∀ x ∈ l, DomN n x) (hg : ∀ x ∈ l, Rg 2147483647 x) :
    Calls Tryz.prog 55 #[.int .i64 n, .slice ao L.length cap] w (EmRes w (shE l n n) (decide (shE l n n = 0) && empB l n)) := by
  have TD := Lib.hid (rtidy_any n L ao cap w (by omega) (by have := hS.len; omega) hS.rd (fun y hy => by
    obtain ⟨⟨h1, h2, h3⟩, h4⟩ := hS.ok y hy
    exact ⟨h1, h4, fun v hv => by have := h2 v hv; unfold A63; omega, by unfold A63; omega⟩))
  rw [hS.eq, tidy_tk hn hd] at TD
  have rg := tidyL_rg (m := 2147483647) (by omega) hg
  have dm : ∀ x ∈ tidyL l, DomN n x := fun x hx => by
    have := tidy_zr (J := fun j => n ≤ j) (l := l) (fun y hy => ⟨(hd y hy).1, (hd y hy).2⟩) x hx
    exact ⟨this.1, this.2⟩
  have DN := Lib.hid (fun W ao R cap (h : Shown W ao R n (tidyL l)) => rdown_any n 0 R (tidyL l) ao cap W hn (Nat.zero_le _) (tidyL_len hl (by omega)) h dm rg)
  simp only [Nat.sub_zero] at DN
  rw [(dn_sh l n n).1, (dn_sh l n n).2] at DN
  have RG := Lib.hid rg
  have HN := Lib.hid hn
  obtain ⟨E, hE⟩ : ∃ E, E = shE l n n := ⟨_, rfl⟩
  obtain ⟨b, hb⟩ : ∃ b, b = empB l n := ⟨_, rfl⟩
  have BE := Lib.hid (show b = decide (0 < (shL l n n).length) from hb)
  rw [← hE] at DN
  rw [← hE, ← hb]
  obtain ⟨m, hm⟩ : ∃ m, m = L.length := ⟨_, rfl⟩
  rw [← hm] at TD ⊢
  clear hS hd hg hl hn rg dm hE hb hm
  go_enter Tryz.func55, Tryz.ntmps55
  go_wp2_with fail
  refine TD.out.mono ?_
  rintro e w1 ⟨v, R, rfl, hO, hm, hb1⟩
  obtain ⟨ro, rc, hv, hrd, _⟩ := hO.read
  subst hv
  have D1 := Lib.hid (DN.out w1 ro R rc ⟨hrd, fun y hy => ⟨fit_all HN.out hm RG.out y hy, hO.nil y hy⟩, hm⟩)
  have B1 := Lib.hid hb1
  obtain ⟨rl, hrl⟩ : ∃ rl, rl = R.length := ⟨_, rfl⟩
  rw [← hrl] at D1 ⊢
  clear hO hm hb1 hrd TD DN hrl
  go_wp2_with fail
  refine D1.out.mono ?_
  rintro e w2 (⟨he, ro2, rc2, R2, rfl, hsh, hb2⟩ | ⟨he, rfl, hb2⟩)
  · have B2 := Lib.hid (below_on B1.out hb2)
    have LE := Lib.hid hsh.len
    obtain ⟨l2, hl2⟩ : ∃ l2, l2 = R2.length := ⟨_, rfl⟩
    rw [← hl2] at LE ⊢
    subst he
    clear hsh hb2 hl2 D1
    by_cases h0 : 0 < l2
    · have EB := Lib.hid (show b = true by rw [BE.out, ← LE.out]; simpa using h0)
      have h1 : (0 : Int) < l2 := by omega
      go_wp2_with fail
      refine bodyPost_ret (v := .tuple #[.bool true, .int .i64 0]) (by simp [results, Tryz.results55, go_sem]) rfl ?_
      exact ⟨by rw [EB.out]; rfl, B2.out⟩
    · have EB := Lib.hid (show b = false by rw [BE.out, ← LE.out]; simpa using h0)
      have h1 : ¬ (0 : Int) < l2 := by omega
      go_wp2_with fail
      refine bodyPost_ret (v := .tuple #[.bool false, .int .i64 0]) (by simp [results, Tryz.results55, go_sem]) rfl ?_
      exact ⟨by rw [EB.out]; rfl, B2.out⟩
  · have B2 := Lib.hid (below_on B1.out hb2)
    have hne : (E == 0) = false := by simpa using he
    have EB := Lib.hid (decide_eq_false he)
    clear he hb2 D1
    go_wp2_with fail
    refine bodyPost_ret (v := .tuple #[.bool false, .int .i64 E]) (by simp [results, Tryz.results55, go_sem]) rfl ?_
    exact ⟨by rw [EB.out]; rfl, B2.out⟩
end Go.Proofs.YtbhaoaobhgilkaaGreat

namespace Go.Proofs.YtbhaoaobhgilkaaGreat
open Go.RowKit Go.Sort Go.Shelf

theorem ofV_dom {n : Nat} {L : List AV} (hn : n ≤ 6) (h : ∀ y ∈ L, FitV n y) : (∀ x ∈ L.map ofV, DomN n x) ∧ (∀ x ∈ L.map ofV, Rg 2147483647 x) ∧ L.map lnV = (L.map ofV).map (tk n) := by
  refine ⟨fun x hx => ?_, fun x hx => ?_, ?_⟩
  · obtain ⟨y, hy, rfl⟩ := List.mem_map.1 hx
    exact (tk_ofV (h y hy) hn).2
  · obtain ⟨y, hy, rfl⟩ := List.mem_map.1 hx
    obtain ⟨h1, h2, h3⟩ := h y hy
    refine ⟨by unfold ofV; simp; omega, fun v hv => ?_, h3⟩
    unfold ofV at hv
    rcases List.mem_append.1 hv with q | q
    · exact h2 v q
    · have := List.eq_of_mem_replicate q; omega
  · rw [List.map_map]
    exact (List.map_congr_left fun y hy => (tk_ofV (h y hy) hn).1).symm

theorem shown_of {w : World} {ao : Option Addr} {n : Nat} {L : List AV} (hn : n ≤ 6) (hR : RdV w ao L) (h : ∀ y ∈ L, FitV n y ∧ NilOk y) : Shown w ao L n (L.map ofV) :=
  ⟨hR, h, (ofV_dom hn fun y hy => (h y hy).1).2.2⟩

set_option maxRecDepth 100000 in
set_option maxHeartbeats 4000000 in
theorem remptyP_any (n : Int) (L : List AV) (ao : Option Addr) (cap : Nat) (w : World) (hR : RdV w ao L) (hY : ∀ y ∈ L, y.a.length ≤ 1000000 ∧ NilOk y) :
    Calls Tryz.prog 18 #[.int .i64 n, .slice ao L.length cap] w (EmRes w (empE n L) (if empE n L = 0 then empB (L.map ofV) n.toNat else false)) := by
  have CK := Lib.hid (rcheck_any n L ao cap w hR (fun y hy => (hY y hy).1))
  by_cases h0 : chkP n L = 0
  case neg =>
    have HE := Lib.hid (show empE n L = chkP n L by unfold empE; rw [if_neg h0])
    have h0' : (chkP n L != 0) = true := by simpa using h0
    rw [HE.out, if_neg h0]
    generalize chkP n L = c at *
    generalize L.length = m at *
    clear hR hY h0 HE
    go_enter Tryz.func18, Tryz.ntmps18
    go_wp2_with fail
    refine CK.out.mono ?_
    rintro e w1 ⟨rfl, hb⟩
    have B1 := Lib.hid hb
    clear hb
    go_wp2_with fail
    refine bodyPost_ret (v := .tuple #[.bool false, .int .i64 c]) (by simp [results, Tryz.results18, go_sem]) rfl ?_
    exact ⟨rfl, B1.out⟩
  obtain ⟨⟨g1, g2⟩, g3, g4⟩ := chk_valid h0
  obtain ⟨n', rfl⟩ : ∃ n' : Nat, n = n' := ⟨n.toNat, by omega⟩
  have FV : ∀ y ∈ L, FitV n' y ∧ NilOk y := fun y hy => ⟨by simpa using valid_fitV (g4 y hy), (hY y hy).2⟩
  obtain ⟨d1, d2, _⟩ := ofV_dom (n := n') (by omega) (fun y hy => (FV y hy).1)
  have EM := Lib.hid (fun W (h : Below w.heap.size w W) => rempty0_any n' L (L.map ofV) ao cap W (by omega) (by rw [List.length_map]; omega) (shown_of (by omega) (hR.on h) FV) d1 d2)
  have HE := Lib.hid (show empE n' L = shE (L.map ofV) n' n' by unfold empE; rw [if_pos h0]; rfl)
  rw [HE.out]
  simp only [Int.toNat_natCast]
  rw [h0] at CK
  have hbb : (if shE (L.map ofV) n' n' = 0 then empB (L.map ofV) n' else false) = (decide (shE (L.map ofV) n' n' = 0) && empB (L.map ofV) n') := by
    by_cases q : shE (L.map ofV) n' n' = 0 <;> simp [q]
  rw [hbb]
  generalize (decide (shE (L.map ofV) n' n' = 0) && empB (L.map ofV) n') = B at *
  generalize shE (L.map ofV) n' n' = E at *
  generalize L.length = m at *
  clear hR hY g1 g2 g3 g4 d1 d2 FV h0 HE hbb
  go_enter Tryz.func18, Tryz.ntmps18
  go_wp2_with fail
  refine CK.out.mono ?_
  rintro e w1 ⟨rfl, hb⟩
  have B1 := Lib.hid hb
  have E1 := Lib.hid (EM.out w1 hb)
  clear hb EM CK
  go_wp2_with fail
  refine E1.out.mono ?_
  rintro e w2 ⟨rfl, hb⟩
  have B2 := Lib.hid (below_on B1.out hb)
  clear hb E1
  go_wp2_with fail
  refine bodyPost_ret (v := .tuple #[.bool B, .int .i64 E]) (by simp [results, Tryz.results18, go_sem]) rfl ?_
  exact ⟨rfl, B2.out⟩

/-- The line behind a list, in the project's words. -/
theorem ofV_opp {y z : AV} (h : lnV z = (lnV y).opp) : ofV z = (ofV y).opp := by
  have ea : z.a = y.a.map (· * (-1)) := congrArg Ln.a h
  have eb : z.b = y.b * (-1) := congrArg Ln.b h
  have es : z.s = !y.s := congrArg Ln.s h
  unfold ofV Ln.opp Ln.times
  simp only [Ln.mk.injEq]
  refine ⟨?_, eb, es⟩
  rw [ea]; simp

theorem opp_fit {n : Nat} {y z : AV} (h : lnV z = (lnV y).opp) (hf : FitV n y) : FitV n z := by
  have ea : z.a = y.a.map (· * (-1)) := congrArg Ln.a h
  have eb : z.b = y.b * (-1) := congrArg Ln.b h
  obtain ⟨h1, h2, h3⟩ := hf
  refine ⟨by rw [ea, List.length_map, h1], fun v hv => ?_, by rw [eb]; omega⟩
  rw [ea] at hv
  obtain ⟨u, hu, rfl⟩ := List.mem_map.1 hv
  have := h2 u hu
  omega

set_option maxRecDepth 100000 in
set_option maxHeartbeats 4000000 in
theorem rimplies_any (n : Int) (L : List AV) (y : AV) (ao : Option Addr) (cap : Nat) (w : World) (hR : RdV w ao L) (hY : ∀ y ∈ L, y.a.length ≤ 1000000 ∧ NilOk y) (hN : ao = none → L = [] ∧ cap = 0) (hy : Rd1 w y.q y.a) (hyl : y.a.length ≤ 1000000) :
    Calls Tryz.prog 20 #[.int .i64 n, .slice ao L.length cap, .agg y.cs] w (EmRes w (impEr n L y) (if impEr n L y = 0 then empB (L.map ofV ++ [(ofV y).opp]) n.toNat else false)) := by
  obtain ⟨w0, hw0⟩ : ∃ w0, w0 = w.alloc (.cells y.cs 25) := ⟨_, rfl⟩
  have E0 := Lib.hid (show Below w.heap.size w w0 by rw [hw0]; exact one_more _)
  have K0 := Lib.hid (show BkV w0 w.heap.size y by rw [hw0]; exact BkV.made w y)
  have CK := Lib.hid (rcheck_any n L ao cap w0 (hR.on E0.out) (fun y hy => (hY y hy).1))
  by_cases h0 : chkP n L = 0
  case neg =>
    have HE := Lib.hid (show impEr n L y = chkP n L by unfold impEr; rw [if_neg h0])
    have h0' : (chkP n L != 0) = true := by simpa using h0
    rw [HE.out, if_neg h0]
    generalize chkP n L = c at *
    generalize L.length = m at *
    clear hR hY h0 HE hN hy K0
    go_enter Tryz.func20, Tryz.ntmps20
    go_upto_region 1 with (fail)
    rw [← hw0]
    clear hw0
    go_wp2_with fail
    refine CK.out.mono ?_
    rintro e w1 ⟨rfl, hb⟩
    have B1 := Lib.hid (below_on E0.out hb)
    clear hb
    go_wp2_with fail
    refine bodyPost_ret (v := .tuple #[.bool false, .int .i64 c]) (by simp [results, Tryz.results20, go_sem]) rfl ?_
    exact ⟨rfl, B1.out⟩
  obtain ⟨⟨g1, g2⟩, g3, g4⟩ := chk_valid h0
  obtain ⟨n', rfl⟩ : ∃ n' : Nat, n = n' := ⟨n.toNat, by omega⟩
  have VL := Lib.hid (fun W (h : Below w0.heap.size w0 W) => rvalid_any (n' : Int) y W hyl ((hy.on E0.out).on h))
  rw [h0] at CK
  obtain ⟨vb, hvb⟩ : ∃ vb, vb = validB (n' : Int) y := ⟨_, rfl⟩
  rw [← hvb] at VL
  by_cases hv : vb = true
  case neg =>
    have hv0 : vb = false := by simpa using hv
    have HE := Lib.hid (show impEr (n' : Int) L y = 2 by unfold impEr impE; rw [if_pos h0, if_neg (by simp only [Int.toNat_natCast]; rw [← hvb, hv0]; decide)])
    rw [HE.out, if_neg (by decide)]
    subst hv0
    generalize L.length = m at *
    clear hR hY h0 HE hN hy hv hvb g1 g2 g3 g4
    go_enter Tryz.func20, Tryz.ntmps20
    go_upto_region 1 with (fail)
    rw [← hw0]
    clear hw0
    go_wp2_with fail
    refine CK.out.mono ?_
    rintro e w1 ⟨rfl, hb⟩
    have B1 := Lib.hid hb
    have K1 := Lib.hid (K0.out.kept hb)
    have V1 := Lib.hid (VL.out w1 hb)
    clear hb CK VL
    go_wp2_with (refine wpl_loadV rfl _ rfl _ rfl y K1.out.avAt ?_)
    refine V1.out.mono ?_
    rintro e w2 ⟨rfl, hb⟩
    have B2 := Lib.hid (below_on E0.out (below_on B1.out hb))
    clear hb V1
    go_wp2_with fail
    refine bodyPost_ret (v := .tuple #[.bool false, .int .i64 2]) (by simp [results, Tryz.results20, go_sem]) rfl ?_
    exact ⟨rfl, B2.out⟩
  have hvt : validB (n' : Int) y = true := by rw [← hvb, hv]
  have FY : FitV n' y := by simpa using valid_fitV hvt
  have FV : ∀ z ∈ L, FitV n' z ∧ NilOk z := fun z hz => ⟨by simpa using valid_fitV (g4 z hz), (hY z hz).2⟩
  have OP := Lib.hid (fun W (h : Below w0.heap.size w0 W) => ropp_any y W (by have := FY.1; omega) ((hy.on E0.out).on h) FY.2.1 FY.2.2)
  have BH := Lib.hid (fun z W (h : Below w0.heap.size w0 W) hz => rbehind_any L ao cap z W ((hR.on E0.out).on h) hN (by omega) hz)
  have EM := Lib.hid (show ∀ z W ro rc, lnV z = (lnV y).opp → NilOk z → RdV W (some ro) (L ++ [z]) → Calls Tryz.prog 55 #[.int .i64 n', .slice (some ro) (L.length + 1) rc] W (EmRes W (shE (L.map ofV ++ [(ofV y).opp]) n' n') (decide (shE (L.map ofV ++ [(ofV y).opp]) n' n' = 0) && empB (L.map ofV ++ [(ofV y).opp]) n')) from fun z W ro rc hz hn hr => by
    have FZ : ∀ u ∈ L ++ [z], FitV n' u ∧ NilOk u := fun u hu => by
      rcases List.mem_append.1 hu with q | q
      · exact FV u q
      · rw [List.mem_singleton] at q; subst q; exact ⟨opp_fit hz FY, hn⟩
    obtain ⟨d1, d2, _⟩ := ofV_dom (n := n') (L := L ++ [z]) (by omega) (fun u hu => (FZ u hu).1)
    have := rempty0_any n' (L ++ [z]) ((L ++ [z]).map ofV) (some ro) rc W (by omega) (by rw [List.length_map, List.length_append, List.length_singleton]; omega) (shown_of (by omega) hr FZ) d1 d2
    rw [List.map_append, List.map_cons, List.map_nil, ofV_opp hz, List.length_append, List.length_singleton] at this
    exact this)
  have HE := Lib.hid (show impEr (n' : Int) L y = shE (L.map ofV ++ [(ofV y).opp]) n' n' by
    unfold impEr impE; rw [if_pos h0]; simp only [Int.toNat_natCast]; rw [if_pos hvt])
  rw [HE.out]
  simp only [Int.toNat_natCast]
  have hbb : (if shE (L.map ofV ++ [(ofV y).opp]) n' n' = 0 then empB (L.map ofV ++ [(ofV y).opp]) n' else false) = (decide (shE (L.map ofV ++ [(ofV y).opp]) n' n' = 0) && empB (L.map ofV ++ [(ofV y).opp]) n') := by
    by_cases q : shE (L.map ofV ++ [(ofV y).opp]) n' n' = 0 <;> simp [q]
  rw [hbb]
  generalize (decide (shE (L.map ofV ++ [(ofV y).opp]) n' n' = 0) && empB (L.map ofV ++ [(ofV y).opp]) n') = B at *
  generalize shE (L.map ofV ++ [(ofV y).opp]) n' n' = E at *
  rw [hv] at VL
  obtain ⟨m, hm⟩ : ∃ m, m = L.length := ⟨_, rfl⟩
  rw [← hm] at CK ⊢
  have HM := Lib.hid hm
  rw [← hm] at BH EM
  clear hR hY g1 g2 g3 g4 FV FY h0 HE hbb hvt hv hvb hN hy hm
  go_enter Tryz.func20, Tryz.ntmps20
  go_upto_region 1 with (fail)
  rw [← hw0]
  clear hw0
  go_wp2_with fail
  refine CK.out.mono ?_
  rintro e w1 ⟨rfl, hb⟩
  have B1 := Lib.hid hb
  have K1 := Lib.hid (K0.out.kept hb)
  have V1 := Lib.hid (VL.out w1 hb)
  clear hb CK VL
  go_wp2_with (refine wpl_loadV rfl _ rfl _ rfl y K1.out.avAt ?_)
  refine V1.out.mono ?_
  rintro e w2 ⟨rfl, hb⟩
  have B2 := Lib.hid (below_on B1.out hb)
  have K2 := Lib.hid (K1.out.kept hb)
  have O2 := Lib.hid (OP.out w2 (below_on B1.out hb))
  clear hb V1 OP
  go_wp2_with (refine wpl_loadV rfl _ rfl _ rfl y K2.out.avAt ?_)
  refine O2.out.mono ?_
  rintro e w3 ⟨z, rfl, hz, hzn, hzr, _, hb⟩
  have B3 := Lib.hid (below_on B2.out hb)
  have ZE := Lib.hid hz
  have ZN := Lib.hid hzn
  have H3 := Lib.hid (BH.out z w3 (below_on B2.out hb) hzr)
  clear hb O2 hz hzn hzr BH
  go_wp2_with fail
  refine H3.out.mono ?_
  rintro e w4 ⟨ro, rc, rfl, hrd, hb⟩
  have B4 := Lib.hid (below_on B3.out hb)
  have E4 := Lib.hid (EM.out z w4 ro rc ZE.out ZN.out hrd)
  rw [← HM.out]
  clear hb H3 hrd EM
  go_wp2_with fail
  refine E4.out.mono ?_
  rintro e w5 ⟨rfl, hb⟩
  have B5 := Lib.hid (below_on E0.out (below_on B4.out hb))
  clear hb E4
  go_wp2_with fail
  refine bodyPost_ret (v := .tuple #[.bool B, .int .i64 E]) (by simp [results, Tryz.results20, go_sem]) rfl ?_
  exact ⟨rfl, B5.out⟩
end Go.Proofs.YtbhaoaobhgilkaaGreat
