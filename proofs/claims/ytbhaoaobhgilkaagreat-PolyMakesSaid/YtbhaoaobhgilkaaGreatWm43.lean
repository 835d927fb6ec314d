/- The contract of chosen of layer 7's reference.; The contracts of down and empty of layer 7's reference.; Plain mathematics: the reference's Point makes what the project's makes; its errors. -/
import Derived.Test.YtbhaoaobhgilkaaGreatWm39
import Derived.Test.YtbhaoaobhgilkaaGreatWm23
import Derived.Test.YtbhaoaobhgilkaaGreatWm40
import Derived.Test.YtbhaoaobhgilkaaGreatWm38
import Derived.Test.YtbhaoaobhgilkaaGreatWm42

namespace Go.Proofs.YtbhaoaobhgilkaaGreat
open Go.RowKit Go.Sort Go.Shelf

end Go.Proofs.YtbhaoaobhgilkaaGreat

namespace Go.Proofs.YtbhaoaobhgilkaaGreat
open Go.RowKit Go.Sort Go.Shelf

structure Shown (w : World) (ao : Option Addr) (L : List AV) (n : Nat) (l : List Ln) : Prop where
  rd : RdV w ao L
  ok : ∀ y ∈ L, FitV n y ∧ NilOk y
  eq : L.map lnV = l.map (tk n)

theorem Shown.len {w : World} {ao : Option Addr} {L : List AV} {n : Nat} {l : List Ln} (h : Shown w ao L n l) : L.length = l.length := by have := congrArg List.length h.eq; simpa using this

theorem fit_tk {n : Nat} {y : AV} {x : Ln} (hn : n ≤ 6) (h : lnV y = tk n x) (hr : Rg 2147483647 x) : FitV n y := by
  have ea : y.a = x.a.take n := congrArg Ln.a h
  have eb : y.b = x.b := congrArg Ln.b h
  refine ⟨by rw [ea, List.length_take, hr.len]; omega, fun v hv => ?_, ?_⟩
  · rw [ea] at hv
    exact hr.a v (List.mem_of_mem_take hv)
  · rw [eb]; exact hr.b

theorem fit_all {n : Nat} {L : List AV} {l : List Ln} (hn : n ≤ 6) (h : L.map lnV = l.map (tk n)) (hr : ∀ x ∈ l, Rg 2147483647 x) : ∀ y ∈ L, FitV n y := fun y hy => by
  have : lnV y ∈ l.map (tk n) := by rw [← h]; exact List.mem_map.2 ⟨y, hy, rfl⟩
  obtain ⟨x, hx, e⟩ := List.mem_map.1 this
  exact fit_tk hn e.symm (hr x hx)

def DnR (w : World) (er : Int) (n : Nat) (l : List Ln) (e : Ending) (w' : World) : Prop :=
  (er = 0 ∧ ∃ ro rc R, e = .returned (.tuple #[.slice ro R.length rc, .int .i64 0]) ∧ Shown w' ro R n l ∧ Below w.heap.size w w') ∨ (er ≠ 0 ∧ e = .returned (.tuple #[.slice none 0 0, .int .i64 er]) ∧ Below w.heap.size w w')

set_option maxRecDepth 100000 in
set_option maxHeartbeats 4000000 in
theorem rdown_any (n k : Nat) (L : List AV) (l : List Ln) (ao : Option Addr) (cap : Nat) (w : World) (hn : n ≤ 6) (hk : k ≤ n) (hl : l.length ≤ 2000) (hS : Shown w ao L n l) (hd : ∀ x ∈ l, DomN n x) (hg : ∀ x ∈ l, Rg 2147483647 x) :
    Calls Tryz.prog 72 #[.int .i64 n, .slice ao L.length cap, .int .i64 k] w (DnR w (dnE l n (n - k)) k (dnL l n (n - k))) := by
  have OK := Lib.hid (dn_ok hl hd hg)
  have HS := Lib.hid hS
  obtain ⟨E, hE⟩ : ∃ E, E = dnE l n (n - k) := ⟨_, rfl⟩
  have HE := Lib.hid hE
  obtain ⟨m, hm⟩ : ∃ m, m = L.length := ⟨_, rfl⟩
  have HM := Lib.hid hm
  have hw1 : wrap64 ((n : Int) - 1) = (n : Int) - 1 := by unfold wrap64; omega
  have hw2 : IntKind.i64.wrap ((n : Int) - 1) = (n : Int) - 1 := wrap_in _ (by omega) (by omega)
  rw [← hE, ← hm]
  clear hS hd hg hl hE hm
  go_enter Tryz.func72, Tryz.ntmps72
  go_wp2_with fail
  have INI := Lib.hid (show ∃ ro rc R, Value.slice ao m cap = .slice ro R.length rc ∧ Shown w ro R (n - 0) (dnL l n 0) ∧ dnE l n 0 = 0 ∧ Below w.heap.size w w from ⟨ao, cap, L, by rw [HM.out], HS.out, rfl, Below.refl _ _⟩)
  clear hw1 hw2
  go_loopw [1, 8] (fun v s wr => ∃ j : Nat, s = .int .i64 ((n : Int) - 1 - j) ∧ j ≤ n - k ∧ Hid (∃ ro rc R, v = .slice ro R.length rc ∧ Shown wr ro R (n - j) (dnL l n j) ∧ dnE l n j = 0 ∧ Below w.heap.size w wr)) (fun _ s _ => (intOf s + 1 - (k : Int)).toNat)
  case atStart => exact ⟨0, by simp, by omega, INI⟩
  case round =>
    clear INI
    obtain ⟨j, rfl, hj, HT⟩ := hrel
    generalize wr = wo at *
    obtain ⟨ro, rc, R, hv, hsh, hz, hb⟩ := HT.out
    subst hv
    have SH := Lib.hid hsh
    have HZ := Lib.hid hz
    have HB := Lib.hid hb
    clear HT hsh hz hb
    by_cases hjk : j < n - k
    · obtain ⟨o1, o2, o3⟩ := OK.out j (by omega) HZ.out
      have hz3 := SH.out.len
      have LV := Lib.hid (rleave_any (n - j) (n - 1 - j) R ro rc wo (by omega) (by omega) (by omega) SH.out.rd SH.out.ok)
      rw [SH.out.eq, leaveE_tk (by omega) (by omega) o2, leaveL_tk (by omega) (by omega) o2] at LV
      have E1 := Lib.hid (show dnE l n (j + 1) = leaveE (dnL l n j) (n - 1 - j) by show (if dnE l n j = 0 then _ else _) = _; rw [if_pos HZ.out])
      have R3 := Lib.hid (show ∀ h : dnE l n (j + 1) = 0, ∀ x ∈ dnL l n (j + 1), Rg 2147483647 x from fun h => (OK.out (j + 1) (by omega) h).2.2)
      have NJ := Lib.hid (show n - j = n - 1 - j + 1 by omega)
      obtain ⟨er, her⟩ : ∃ er, er = leaveE (dnL l n j) (n - 1 - j) := ⟨_, rfl⟩
      obtain ⟨T, hT⟩ : ∃ T, T = (leaveL (dnL l n j) (n - 1 - j)).map (erL (n - j) (n - 1 - j)) := ⟨_, rfl⟩
      have TE := Lib.hid (show T = (dnL l n (j + 1)).map (tk (n - (j + 1))) by
        rw [hT, NJ.out]
        show _ = (leaveL (dnL l n j) (n - 1 - j)).map (tk (n - (j + 1)))
        rw [show n - (j + 1) = n - 1 - j by omega]
        exact List.map_congr_left fun x _ => tk_er _ x)
      rw [← her, ← hT] at LV
      rw [← her] at E1
      obtain ⟨i, hi⟩ : ∃ i : Nat, i = n - 1 - j := ⟨_, rfl⟩
      have e1 : (n : Int) - 1 - j = (i : Int) := by omega
      have e2 : ((n - j : Nat) : Int) = (i : Int) + 1 := by omega
      have II := Lib.hid hi
      have ik : (k : Int) ≤ (i : Int) := by omega
      rw [e2, ← hi] at LV
      have i6 : (i : Int) < 6 := by omega
      rw [e1]
      have JK := Lib.hid hjk
      clear o1 o2 o3 hz3 her hT hi e1 e2 hjk hj
      obtain ⟨rl, hrl⟩ : ∃ rl, rl = R.length := ⟨_, rfl⟩
      rw [← hrl] at LV ⊢
      clear hrl
      go_wp2_with fail
      refine LV.out.mono ?_
      rintro e w1 (⟨he, v, R1, rfl, hO, hm1, hb1⟩ | ⟨he, rfl, hb1⟩)
      · obtain ⟨ro1, rc1, hv1, hrd, _⟩ := hO.read
        have NX := Lib.hid (show ∃ ro rc R, v = .slice ro R.length rc ∧ Shown w1 ro R (n - (j + 1)) (dnL l n (j + 1)) ∧ dnE l n (j + 1) = 0 ∧ Below w.heap.size w w1 from by
          have h0 : dnE l n (j + 1) = 0 := E1.out.trans he
          refine ⟨ro1, rc1, R1, hv1, ⟨hrd, fun y hy => ⟨fit_all (by have := II.out; omega) (hm1.trans TE.out) (R3.out h0) y hy, hO.nil y hy⟩, hm1.trans TE.out⟩, h0, below_on HB.out hb1⟩)
        subst he
        clear hO hm1 hb1 hv1 hrd LV
        go_wp2_with fail
        go_roundw
        case rel => exact ⟨j + 1, by have := II.out; have := JK.out; go_num; try omega, by have := JK.out; omega, NX⟩
        case measure => have := II.out; simp [intOf]; omega
      · have FE := Lib.hid (show E = er by
          have h1 : dnE l n (j + 1) ≠ 0 := by rw [E1.out]; exact he
          have h2 := dnE_stop h1 (n - k - (j + 1))
          rw [show j + 1 + (n - k - (j + 1)) = n - k by have := JK.out; omega] at h2
          rw [HE.out, h2, E1.out])
        have hne : (er != 0) = true := by simpa using he
        have BX := Lib.hid (below_on HB.out hb1)
        have NE := Lib.hid he
        clear he hb1 LV
        go_wp2_with fail
        refine bodyPost_ret (v := .tuple #[.slice none 0 0, .int .i64 er]) (by simp [results, Tryz.results72, go_sem]) rfl ?_
        exact Or.inr ⟨by rw [FE.out]; exact NE.out, by rw [FE.out], BX.out⟩
    · have e1 : j = n - k := by omega
      have e2 : (n : Int) - 1 - j < k := by omega
      have SH2 := Lib.hid (show Shown wo ro R k (dnL l n (n - k)) by have := SH.out; rw [e1, show n - (n - k) = k by omega] at this; exact this)
      have Z2 := Lib.hid (show E = 0 by rw [HE.out, ← e1]; exact HZ.out)
      obtain ⟨i, hi⟩ : ∃ i : Int, i = (n : Int) - 1 - j := ⟨_, rfl⟩
      rw [← hi] at e2 ⊢
      clear e1 hjk hi hj
      go_wp2_with fail
      refine bodyPost_ret (v := .tuple #[.slice ro R.length rc, .int .i64 0]) (by simp [results, Tryz.results72, go_sem]) rfl ?_
      exact Or.inl ⟨Z2.out, ro, rc, R, rfl, SH2.out, HB.out⟩

def EmRes (w : World) (er : Int) (b : Bool) (e : Ending) (w' : World) : Prop := e = .returned (.tuple #[.bool b, .int .i64 er]) ∧ Below w.heap.size w w'

set_option maxRecDepth 100000 in
set_option maxHeartbeats 4000000 in
theorem rempty0_any (n : Nat) (L : List AV) (l : List Ln) (ao : Option Addr) (cap : Nat) (w : World) (hn : n ≤ 6) (hl : l.length ≤ 2000) (hS : Shown w ao L n l) (hd : ∀ x ∈ l, DomN n x) (hg : ∀ x ∈ l, Rg 2147483647 x) :
    Calls Tryz.prog 55 #[.int .i64 n, .slice ao L.length cap] w (EmRes w (shE l n n) (decide (shE l n n = 0) && empB l n)) := by
  have TD := Lib.hid (rtidy_any n L ao cap w (by omega) (by have := hS.len; omega) hS.rd (fun y hy => by
    obtain ⟨⟨h1, h2, h3⟩, h4⟩ := hS.ok y hy
    exact ⟨h1, h4, fun v hv => by have := h2 v hv; unfold A63; omega, by unfold A63; omega⟩))
  rw [hS.eq, tidy_tk hn hd] at TD
  have rg := tidyL_rg (m := 2147483647) (by omega) hg
  have dm : ∀ x ∈ tidyL l, DomN n x := fun x hx => by
    have := tidy_zr (J := fun j => n ≤ j) (l := l) (fun y hy => ⟨(hd y hy).1, (hd y hy).2⟩) x hx
    exact ⟨this.1, this.2⟩
  have DN := Lib.hid (fun W ao R cap (h : Shown W ao R n (tidyL l)) => rdown_any n 0 R (tidyL l) ao cap W hn (Nat.zero_le _) (tidyL_len hl (by omega)) h dm rg)
  simp only [Nat.sub_zero] at DN
  rw [(dn_sh l n n).1, (dn_sh l n n).2] at DN
  have RG := Lib.hid rg
  have HN := Lib.hid hn
  obtain ⟨E, hE⟩ : ∃ E, E = shE l n n := ⟨_, rfl⟩
  obtain ⟨b, hb⟩ : ∃ b, b = empB l n := ⟨_, rfl⟩
  have BE := Lib.hid (show b = decide (0 < (shL l n n).length) from hb)
  rw [← hE] at DN
  rw [← hE, ← hb]
  obtain ⟨m, hm⟩ : ∃ m, m = L.length := ⟨_, rfl⟩
  rw [← hm] at TD ⊢
  clear hS hd hg hl hn rg dm hE hb hm
  go_enter Tryz.func55, Tryz.ntmps55
  go_wp2_with fail
  refine TD.out.mono ?_
  rintro e w1 ⟨v, R, rfl, hO, hm, hb1⟩
  obtain ⟨ro, rc, hv, hrd, _⟩ := hO.read
  subst hv
  have D1 := Lib.hid (DN.out w1 ro R rc ⟨hrd, fun y hy => ⟨fit_all HN.out hm RG.out y hy, hO.nil y hy⟩, hm⟩)
  have B1 := Lib.hid hb1
  obtain ⟨rl, hrl⟩ : ∃ rl, rl = R.length := ⟨_, rfl⟩
  rw [← hrl] at D1 ⊢
  clear hO hm hb1 hrd TD DN hrl
  go_wp2_with fail
  refine D1.out.mono ?_
  rintro e w2 (⟨he, ro2, rc2, R2, rfl, hsh, hb2⟩ | ⟨he, rfl, hb2⟩)
  · have B2 := Lib.hid (below_on B1.out hb2)
    have LE := Lib.hid hsh.len
    obtain ⟨l2, hl2⟩ : ∃ l2, l2 = R2.length := ⟨_, rfl⟩
    rw [← hl2] at LE ⊢
    subst he
    clear hsh hb2 hl2 D1
    by_cases h0 : 0 < l2
    · have EB := Lib.hid (show b = true by rw [BE.out, ← LE.out]; simpa using h0)
      have h1 : (0 : Int) < l2 := by omega
      go_wp2_with fail
      refine bodyPost_ret (v := .tuple #[.bool true, .int .i64 0]) (by simp [results, Tryz.results55, go_sem]) rfl ?_
      exact ⟨by rw [EB.out]; rfl, B2.out⟩
    · have EB := Lib.hid (show b = false by rw [BE.out, ← LE.out]; simpa using h0)
      have h1 : ¬ (0 : Int) < l2 := by omega
      go_wp2_with fail
      refine bodyPost_ret (v := .tuple #[.bool false, .int .i64 0]) (by simp [results, Tryz.results55, go_sem]) rfl ?_
      exact ⟨by rw [EB.out]; rfl, B2.out⟩
  · have B2 := Lib.hid (below_on B1.out hb2)
    have hne : (E == 0) = false := by simpa using he
    have EB := Lib.hid (decide_eq_false he)
    clear he hb2 D1
    go_wp2_with fail
    refine bodyPost_ret (v := .tuple #[.bool false, .int .i64 E]) (by simp [results, Tryz.results55, go_sem]) rfl ?_
    exact ⟨by rw [EB.out]; rfl, B2.out⟩
end Go.Proofs.YtbhaoaobhgilkaaGreat

namespace Go.Proofs.YtbhaoaobhgilkaaGreat
open Go.Sort

theorem vR_eq {a b : Pq} (ha : vR a = true) (hb : vR b = true) (h : a.1 * b.2 = b.1 * a.2) : a = b := by
  have pa := vR_pos ha
  have pb := vR_pos hb
  obtain ⟨h1, h2, _⟩ := mk_self (n := a.1) (d := a.2) ha
  obtain ⟨k1, k2, _⟩ := mk_self (n := b.1) (d := b.2) hb
  obtain ⟨c1, c2, _⟩ := mk_congr (a := a.1) (b := a.2) (a' := b.1) (b' := b.2) (by omega) (by omega) h
  exact Prod.ext (by rw [← h1, c1, k1]) (by rw [← h2, c2, k2])

theorem cm_eq {a b : Pq} (ha : vR a = true) (hb : vR b = true) (h : cmR a b = 0) : a = b := by
  rcases cm_cases ha hb with q | q | q
  · omega
  · exact vR_eq ha hb q.2
  · omega

theorem cmE_ok {a b : Pq} (ha : vR a = true) (hb : vR b = true) : cmE a b = 0 := by
  unfold vR at ha hb
  unfold cmE
  rw [ha, hb]; rfl

theorem rbL_cl {c : En} {x : Ln} {i : Nat} {P : List Pq} (hc : c.ex = true → vR c.v = true) (hf : vR (fdV x i P) = true) : rbL c (fdV x i P) x.s = clR 1 c x i P := by
  unfold rbL clR
  rw [Int.one_mul]
  cases he : c.ex
  · simp
  · simp only [Bool.not_true, Bool.false_or, if_true]
    by_cases h1 : 0 < cmR (fdV x i P) c.v
    · rw [if_pos (decide_eq_true h1), if_pos (Or.inl h1)]
    · rw [decide_eq_false h1, if_neg (by decide)]
      by_cases h2 : cmR (fdV x i P) c.v = 0
      · rw [if_pos h2]
        have e := cm_eq hf (hc he) h2
        cases hs : x.s
        · rw [if_neg (by rintro (q | ⟨_, q⟩) <;> first | exact h1 q | cases q), Bool.or_false]
          rcases c with ⟨v, ex, op⟩
          simp only at he ⊢
          rw [he]
        · rw [if_pos (Or.inr ⟨h2, rfl⟩), Bool.or_true, e]
      · rw [if_neg h2, if_neg (by rintro (q | ⟨q, _⟩) <;> first | exact h1 q | exact h2 q)]

theorem rbH_cl {c : En} {x : Ln} {i : Nat} {P : List Pq} (hc : c.ex = true → vR c.v = true) (hf : vR (fdV x i P) = true) : rbH c (fdV x i P) x.s = clR (-1) c x i P := by
  unfold rbH clR
  have e1 : (-1 : Int) * cmR (fdV x i P) c.v = -cmR (fdV x i P) c.v := by omega
  rw [e1]
  cases he : c.ex
  · simp
  · simp only [Bool.not_true, Bool.false_or, if_true]
    by_cases h1 : cmR (fdV x i P) c.v < 0
    · rw [if_pos (decide_eq_true h1), if_pos (Or.inl (by omega))]
    · rw [decide_eq_false h1, if_neg (by decide)]
      by_cases h2 : cmR (fdV x i P) c.v = 0
      · rw [if_pos h2]
        have e := cm_eq hf (hc he) h2
        cases hs : x.s
        · rw [if_neg (by rintro (q | ⟨_, q⟩) <;> first | omega | cases q), Bool.or_false]
          rcases c with ⟨v, ex, op⟩
          simp only at he ⊢
          rw [he]
        · rw [if_pos (Or.inr ⟨by omega, rfl⟩), Bool.or_true, e]
      · rw [if_neg h2, if_neg (by rintro (q | ⟨q, _⟩) <;> omega)]

theorem enN_step {l : List Ln} {i : Nat} {P : List Pq} {t : Nat} {x : Ln} (hv : ∀ x ∈ l, fdE x i P = 0 → vR (fdV x i P) = true) (ht : t < l.length) (hx : l.getD t ln0 = x) (h : (enN l i P t).2 = 0) (hg : gA x.a i ≠ 0) :
    (fdE x i P = 0 → enN l i P (t + 1) = (rbS x i P (enN l i P t).1, 0)) ∧ (fdE x i P ≠ 0 → (enN l i P (t + 1)).2 = fdE x i P) := by
  have ok := en_ok hv t (Nat.le_of_lt ht) h
  have hm : x ∈ l := by
    rw [← hx, List.getD_eq_getElem?_getD, List.getElem?_eq_getElem ht]
    exact List.getElem_mem ht
  rcases Int.lt_trichotomy (gA x.a i) 0 with q | q | q
  · rw [enN_low h hx q]
    refine ⟨fun hf => ?_, fun hf => ?_⟩
    · have v := hv x hm hf
      unfold rbS
      rw [if_neg (by omega), rbL_cl ok.lv v]
      have : clE (enN l i P t).1.1 x i P = 0 := by
        unfold clE
        rw [if_neg (fun k => k hf)]
        split
        · rename_i he; exact cmE_ok v (ok.lv he)
        · rfl
      rw [this]
    · show clE (enN l i P t).1.1 x i P = _
      unfold clE; rw [if_pos hf]
  · exact absurd q hg
  · rw [enN_high h hx q]
    refine ⟨fun hf => ?_, fun hf => ?_⟩
    · have v := hv x hm hf
      unfold rbS
      rw [if_pos q, rbH_cl ok.uv v]
      have : clE (enN l i P t).1.2 x i P = 0 := by
        unfold clE
        rw [if_neg (fun k => k hf)]
        split
        · rename_i he; exact cmE_ok v (ok.uv he)
        · rfl
      rw [this]
    · show clE (enN l i P t).1.2 x i P = _
      unfold clE; rw [if_pos hf]

def E7 (e : Int) : Prop := e = 0 ∨ e = 7

theorem op_7 {v : Bool} {p q : Int} (hv : v = true) (hq : q ≠ 0) : E7 (opErr v p q) := by
  unfold E7 opErr
  rw [if_pos hv]
  unfold mkErr
  rw [if_neg hq]
  split
  · exact Or.inl rfl
  · exact Or.inr rfl

theorem vld_one {k : Int} (h : -2147483647 ≤ k ∧ k ≤ 2147483647) : vR (k, 1) = true := by
  unfold vR vldB
  simp
  omega

theorem at_7 {a : List Int} {P : List Pq} : ∀ t, (∀ j, j < t → vR (gp P j) = true ∧ -2147483647 ≤ gA a j ∧ gA a j ≤ 2147483647) → E7 (atN a P t).2 ∧ ((atN a P t).2 = 0 → vR (atN a P t).1 = true)
  | 0, _ => ⟨Or.inl rfl, fun _ => (by decide : vR (0, 1) = true)⟩
  | t + 1, h => by
    obtain ⟨i1, i2⟩ := at_7 (a := a) (P := P) t (fun j hj => h j (by omega))
    by_cases h0 : (atN a P t).2 = 0
    · obtain ⟨v, b⟩ := h t (by omega)
      have v1 := i2 h0
      have va := vld_one b
      have pm := vR_pos v
      by_cases hm : muE (gA a t, 1) (gp P t) = 0
      · rw [atN_add h0 hm]
        have vm : vR (muR (gA a t, 1) (gp P t)) = true := (op_ok hm).2.2.1
        have p1 := vR_pos v1
        have p2 := vR_pos vm
        refine ⟨op_7 (by unfold vR at v1 vm; rw [v1, vm]; rfl) (Int.mul_ne_zero (by omega) (by omega)), fun h => (op_ok h).2.2.1⟩
      · have e := atN_mul h0 hm
        rw [e]
        refine ⟨op_7 (by unfold vR at va v; rw [va, v]; rfl) (Int.mul_ne_zero (show (1 : Int) ≠ 0 by decide) (by omega)), fun q => absurd q hm⟩
    · have e := atN_stop h0 1
      rw [e]
      exact ⟨i1, i2⟩

theorem fd_7 {x : Ln} {i : Nat} {P : List Pq} (hr : Rg 2147483647 x) (hn : P.length ≤ 6) (hi : i < 6) (hg : gA x.a i ≠ 0) (hv : ∀ j, j < P.length → vR (gp P j) = true) : E7 (fdE x i P) := by
  have ha : ∀ j, j < 6 → -2147483647 ≤ gA x.a j ∧ gA x.a j ≤ 2147483647 := fun j hj => by have := hr.at (t := j) hj; omega
  obtain ⟨e1, e2⟩ := at_7 (a := x.a) (P := P) P.length (fun j hj => ⟨hv j hj, ha j (by omega)⟩)
  unfold fdE
  by_cases h0 : (atN x.a P P.length).2 = 0
  · rw [if_neg (fun k => k h0)]
    have v1 := e2 h0
    have vb := vld_one (k := x.b) hr.b
    have p1 := vR_pos v1
    by_cases h1 : sbE (x.b, 1) (atN x.a P P.length).1 = 0
    · rw [if_neg (fun k => k h1)]
      have vs : vR (sbR (x.b, 1) (atN x.a P P.length).1) = true := (op_ok h1).2.2.1
      have p2 := vR_pos vs
      have vg := vld_one (ha i hi)
      refine op_7 ?_ (Int.mul_ne_zero (by omega) hg)
      unfold vR at vs vg
      rw [vs, vg]
      simp [hg]
    · rw [if_pos h1]
      exact op_7 (by unfold vR at vb v1; rw [vb, v1]; rfl) (Int.mul_ne_zero (show (1 : Int) ≠ 0 by decide) (by omega))
  · rw [if_pos h0]; exact e1

end Go.Proofs.YtbhaoaobhgilkaaGreat
