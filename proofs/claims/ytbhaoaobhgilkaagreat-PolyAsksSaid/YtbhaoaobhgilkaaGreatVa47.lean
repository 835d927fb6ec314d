/- The contract of package poly's Has, for whatever arguments. -/
import Derived.Test.YtbhaoaobhgilkaaGreatVa3
import Derived.Test.YtbhaoaobhgilkaaGreatVa46
import Derived.Test.YtbhaoaobhgilkaaGreatVa35

namespace Go.Proofs.YtbhaoaobhgilkaaGreat
open Go.RowKit Go.Sort Go.Shelf

set_option maxRecDepth 20000 in
set_option maxHeartbeats 1000000 in
theorem isPt1_any (x : Pq) (w : World) (hx : I2 x) : Calls Tryz.prog 99 #[.agg #[.int .i64 x.1, .int .i64 x.2]] w (Made (.bool (!vR x)) w) := by
  obtain ⟨w0, hw0⟩ : ∃ w0, w0 = w.alloc (.cells #[.int .i64 x.1, .int .i64 x.2] 50) := ⟨_, rfl⟩
  have E0 := Lib.hid (show Below w.heap.size w w0 by rw [hw0]; exact one_more _)
  have P0 := Lib.hid (show Pair w0 w.heap.size x.1 x.2 by rw [hw0]; exact Pair.made _ _ _ _)
  have VA := Lib.hid (valid_any x.1 x.2 w0 hx.1.1 hx.1.2 hx.2.1 hx.2.2)
  have VE := Lib.hid (show vldB x.1 x.2 = vR x from rfl)
  rw [VE.out] at VA
  generalize vR x = b at *
  obtain ⟨f0, f1, _, _⟩ := P0.out.facts
  clear hx VE
  go_enter Tryz.func99, Tryz.ntmps99
  go_upto_region 1 with (fail)
  rw [← hw0]
  clear hw0
  go_wp2_with fail
  refine VA.out.mono ?_
  rintro e w1 ⟨rfl, hb⟩
  have B1 := Lib.hid (below_on E0.out hb)
  clear hb f0 f1
  go_wp2_with fail
  go_ret
  exact ⟨rfl, B1.out⟩

theorem isPt1_enters : ∀ args w, (callFunc 99 args).run Tryz.prog w = .ok (.enter 99 args) w := enters_of Tryz.func99 (by kernel_rfl) rfl

set_option maxRecDepth 20000 in
set_option maxHeartbeats 1000000 in
theorem idxQ_any (l : List Pq) (ao : Option Addr) (cap : Nat) (fv : Value) (p : Pq → Bool) (w : World) (hl : l.length ≤ 1000000) (hR : Rd2 w ao l) (hp : Tells Tryz.prog fv w (fun y : Pq => .agg #[.int .i64 y.1, .int .i64 y.2]) p l) :
    Calls Tryz.prog 131 #[.slice ao l.length cap, fv] w (Made (.int .i64 (ixf p l)) w) := by
  obtain ⟨g, lb, rfl, eg, hp⟩ := hp
  have HP := Lib.hid hp
  have HR := Lib.hid hR
  have NN := Lib.hid (fun h => ixf_none (p := p) (l := l) h)
  obtain ⟨n, hn⟩ : ∃ n, n = l.length := ⟨_, rfl⟩
  have HN := Lib.hid hn
  have hle : n ≤ 1000000 := by omega
  rw [← hn]
  clear hp hR hl hn
  go_enter Tryz.func131, Tryz.ntmps131
  go_wp2_with fail
  go_loopw [8] (fun s wr => ∃ t : Nat, s = .int .i64 t ∧ t ≤ n ∧ Hid (Below w.heap.size w wr) ∧ Hid (∀ i, ∀ q : i < l.length, i < t → p l[i] = false)) (fun s _ => n - (intOf s).toNat)
  case atStart => exact ⟨0, rfl, by omega, Lib.hid (Below.refl _ _), Lib.hid (fun i q h => by omega)⟩
  case round =>
    obtain ⟨t, rfl, ht, HB, HF⟩ := hrel
    by_cases htn : t < n
    · have hlt : t < l.length := by have := HN.out; omega
      obtain ⟨a, ha, c0⟩ := (HR.out.on HB.out) t hlt
      obtain ⟨v, hv⟩ : ∃ v, v = l[t] := ⟨_, rfl⟩
      have ev : l[t] = v := hv.symm
      have eg : gp l t = v := by unfold gp; rw [List.getD_eq_getElem?_getD, List.getElem?_eq_getElem hlt, ← hv]; rfl
      rw [eg] at c0
      have C0 := Lib.hid c0
      have PV := Lib.hid (HP.out wr HB.out v (by rw [← ev]; exact List.getElem_mem hlt))
      cases hpv : p v
      · rw [hpv] at PV
        have HF' := Lib.hid (show ∀ i, ∀ q : i < l.length, i < t + 1 → p l[i] = false from fun i q h => by
          by_cases e : i = t
          · subst e; rw [ev]; exact hpv
          · exact HF.out i q (by omega))
        clear hpv ev hv hlt c0 eg
        subst ha
        go_wp2_with (refine wpl_loadQ rfl _ rfl _ rfl v C0.out ?_)
        refine PV.out.mono ?_
        rintro e w1 ⟨rfl, hb⟩
        have B1 := Lib.hid (below_on HB.out hb)
        clear hb C0
        go_wp2_with fail
        go_roundw
        case rel => exact ⟨t + 1, by go_num, by omega, B1, HF'⟩
        case measure => simp [intOf]; omega
      · rw [hpv] at PV
        have HF' := Lib.hid (show ixf p l = t from ixf_at hlt (fun i q h => HF.out i q h) (by rw [ev]; exact hpv))
        clear hpv ev hv hlt c0 eg
        subst ha
        go_wp2_with (refine wpl_loadQ rfl _ rfl _ rfl v C0.out ?_)
        refine PV.out.mono ?_
        rintro e w1 ⟨rfl, hb⟩
        have B1 := Lib.hid (below_on HB.out hb)
        clear hb C0
        go_wp2_with fail
        go_ret
        exact ⟨ret_int HF'.out.symm, B1.out⟩
    · have HF' := Lib.hid (show ixf p l = -1 from NN.out (fun i q => HF.out i q (by have := HN.out; omega)))
      go_wp2_with fail
      go_ret
      exact ⟨ret_int HF'.out.symm, HB.out⟩

set_option maxRecDepth 20000 in
set_option maxHeartbeats 1000000 in
theorem conQ_any (l : List Pq) (ao : Option Addr) (cap : Nat) (fv : Value) (p : Pq → Bool) (w : World) (hl : l.length ≤ 1000000) (hR : Rd2 w ao l) (hp : Tells Tryz.prog fv w (fun y : Pq => .agg #[.int .i64 y.1, .int .i64 y.2]) p l) :
    Calls Tryz.prog 98 #[.slice ao l.length cap, fv] w (Made (.bool (l.any p)) w) := by
  have IX := Lib.hid (idxQ_any l ao cap fv p w hl hR hp)
  have HA := Lib.hid (ixf_any p l)
  generalize l.length = n at *
  generalize ixf p l = r at *
  generalize l.any p = b at *
  clear hR hp
  go_enter Tryz.func98, Tryz.ntmps98
  go_wp2_with fail
  refine IX.out.mono ?_
  rintro e w1 ⟨rfl, hb⟩
  have B1 := Lib.hid hb
  clear hb
  go_wp2_with fail
  go_ret
  exact ⟨ret_bool HA.out, B1.out⟩

set_option maxRecDepth 20000 in
set_option maxHeartbeats 1000000 in
theorem isPt_any (n : Int) (P : List Pq) (ao : Option Addr) (cap : Nat) (w : World) (hl : P.length ≤ 1000000) (hR : Rd2 w ao P) (hI : ∀ q ∈ P, I2 q) :
    Calls Tryz.prog 65 #[.int .i64 n, .slice ao P.length cap] w (Made (.bool (decide ((P.length : Int) = n) && P.all vR)) w) := by
  have CN := Lib.hid (conQ_any P ao cap (.func (.func 99) #[] #[]) (fun y => !vR y) w hl hR ⟨_, _, rfl, isPt1_enters, fun W _ x hx => isPt1_any x W (hI x hx)⟩)
  have HA : (P.any fun y => !vR y) = !P.all vR := by rw [List.all_eq_not_any_not, Bool.not_not]
  rw [HA] at CN
  generalize P.all vR = b at *
  generalize P.length = m at *
  clear hR hI HA
  by_cases h : (m : Int) = n
  · have h1 : ((m : Int) == n) = true := by simpa using h
    rw [decide_eq_true h]
    go_enter Tryz.func65, Tryz.ntmps65
    go_wp2_with fail
    refine CN.out.mono ?_
    rintro e w1 ⟨rfl, hb⟩
    have B1 := Lib.hid hb
    clear hb CN
    cases b
    · go_wp2_with fail
      go_ret
      exact ⟨rfl, B1.out⟩
    · go_wp2_with fail
      go_ret
      exact ⟨rfl, B1.out⟩
  · have h1 : ((m : Int) == n) = false := by simpa using h
    rw [decide_eq_false h]
    clear CN
    go_enter Tryz.func65, Tryz.ntmps65
    go_wp2_with fail
    go_ret
    exact ⟨rfl, Below.refl _ _⟩

/-- Whether a point meets a line, and the error. -/
def metE (P : List Pq) (x : Ln) : Int := if (atN x.a P P.length).2 ≠ 0 then (atN x.a P P.length).2 else cmE (atN x.a P P.length).1 (x.b, 1)

def metB (P : List Pq) (x : Ln) : Bool := decide (cmR (atN x.a P P.length).1 (x.b, 1) < 0) || (decide (cmR (atN x.a P P.length).1 (x.b, 1) = 0) && !x.s)

def MtR (er : Int) (b : Bool) (w : World) (e : Ending) (w' : World) : Prop := Below w.heap.size w w' ∧ ((er = 0 ∧ e = .returned (.bool b)) ∨ (er ≠ 0 ∧ e = .panicked (pan er)))

set_option maxRecDepth 100000 in
set_option maxHeartbeats 4000000 in
theorem isMet_any (x : Ln) (P : List Pq) (ao : Option Addr) (cap : Nat) (w : World) (hx : Rg 2147483647 x) (hn : P.length ≤ 6) (hR : Rd2 w ao P) (hI : ∀ t, t < P.length → I2 (gp P t)) :
    Calls Tryz.prog 101 #[.agg x.cs, .slice ao P.length cap] w (MtR (metE P x) (metB P x) w) := by
  obtain ⟨w0, hw0⟩ : ∃ w0, w0 = w.alloc (.cells x.cs 82) := ⟨_, rfl⟩
  have K0 := Lib.hid (show Bk w0 w.heap.size x by rw [hw0]; exact Bk.made w x hx.len)
  have E0 := Lib.hid (show Below w.heap.size w w0 by rw [hw0]; exact one_more _)
  have AT := Lib.hid (fun W (h : Below w0.heap.size w0 W) => at_any x P ao cap W hx hn ((hR.on E0.out).on h) hI)
  have BI := wh_64 (x := x.b) (by have := hx.b; unfold I64; omega)
  have CM := Lib.hid (fun W => cmpP_any (atN x.a P P.length).1 (x.b, 1) W (atN_64 _ _ _) BI)
  have CB := Lib.hid (show ∀ W, Bk W w.heap.size x → W.cell? ⟨w.heap.size, 6, none⟩ = some (.int .i64 x.b) ∧ W.cell? ⟨w.heap.size, 7, none⟩ = some (.bool x.s) from fun W h => ⟨h.num, h.str⟩)
  obtain ⟨a, ha⟩ : ∃ a, a = atN x.a P P.length := ⟨_, rfl⟩
  have ME : metE P x = if a.2 ≠ 0 then a.2 else cmE a.1 (x.b, 1) := by rw [ha]; rfl
  have MB : metB P x = (decide (cmR a.1 (x.b, 1) < 0) || (decide (cmR a.1 (x.b, 1) = 0) && !x.s)) := by rw [ha]; rfl
  rw [← ha] at AT CM
  have F1 := Lib.hid (show a.2 ≠ 0 → metE P x = a.2 from fun h => by rw [ME, if_pos h])
  have F2 := Lib.hid (show a.2 = 0 → metE P x = cmE a.1 (x.b, 1) from fun h => by rw [ME, if_neg (fun q => q h)])
  have F3 := Lib.hid MB
  obtain ⟨b, hb⟩ : ∃ b, b = x.b := ⟨_, rfl⟩
  obtain ⟨s, hs⟩ : ∃ s, s = x.s := ⟨_, rfl⟩
  rw [← hb, ← hs] at CB
  rw [← hb, ← hs] at F3
  rw [← hb] at CM F2
  generalize metE P x = F at *
  generalize metB P x = MBB at *
  generalize cmR a.1 (b, 1) = k at *
  generalize cmE a.1 (b, 1) = ke at *
  generalize P.length = n at *
  obtain ⟨a1, ae⟩ := a
  simp only at *
  clear hx hn hR hI BI ha ME MB hb hs
  go_enter Tryz.func101, Tryz.ntmps101
  go_upto_region 1 with (fail)
  rw [← hw0]
  clear hw0
  have KS := Lib.hid (show ∀ W, Below w0.heap.size w0 W → (Bk W w.heap.size x ∧ W.cell? ⟨w.heap.size, 6, none⟩ = some (.int .i64 b)) from fun W h => ⟨K0.out.kept h, (CB.out W (K0.out.kept h)).1⟩)
  obtain ⟨wc, hwc⟩ : ∃ wc, wc = w0.drew := ⟨_, rfl⟩
  have Bc := Lib.hid (show Below w0.heap.size w0 wc by rw [hwc]; exact (Below.refl _ _).drew)
  refine wp_region_held_drew (S := (fun W => (Bk W w.heap.size x ∧ W.cell? ⟨w.heap.size, 6, none⟩ = some (.int .i64 b)))) (by kernel_rfl) (by rw [← hwc]; exact KS.out _ Bc.out) (fun h0 => ?_)
  rw [← hwc] at h0 ⊢
  clear hwc
  refine tkH (i := 0) (v := (.agg x.cs)) rfl (Or.inl ⟨by rfl, fun w' hS => yld_loadL _ rfl _ rfl hS.1⟩) h0 ?_
  simp only [Act.put, sA, sB, sD, sE, sF]
  refine tkH (i := 1) (v := ?v2) rfl (Or.inl ⟨by rfl, ?hy2⟩) h0 ?rest2
  case hy2 => (intro w' hS; (try dsimp only at hS); go_simp; try (with_reducible rfl))
  simp only [Act.put, sA, sB, sC, sD, sE, sF]
  refine tkH (i := 3) (v := ?v3) rfl (Or.inl ⟨by rfl, ?hy3⟩) h0 ?rest3
  case hy3 => (intro w' hS; (try dsimp only at hS); go_simp; try (with_reducible rfl))
  simp only [Act.put, sA, sB, sC, sD, sE, sF]
  refine tkH (i := 4) (v := ?v4) rfl (Or.inl ⟨by rfl, ?hy4⟩) h0 ?rest4
  case hy4 => (intro w' hS; (try dsimp only at hS); go_simp; try (with_reducible rfl))
  simp only [Act.put, sA, sB, sC, sD, sE, sF]
  refine wpAnyH_ready (rs := [2]) (by kernel_rfl) (by simp) (AllReadyH.cons rfl (fun K hK => ?_) AllReadyH.nil)
  rw [if_pos (by rfl)]
  go_simp
  refine (AT.out wc Bc.out).mono ?_
  rintro e wc ⟨hb, (⟨he, rfl⟩ | ⟨he, rfl⟩)⟩
  rotate_left
  · exact And.intro rfl ⟨below_on E0.out (below_on Bc.out hb), Or.inr ⟨by rw [F1.out he]; exact he, by rw [F1.out he]⟩⟩
  have Bc := Lib.hid (below_on Bc.out hb)
  have HA := Lib.hid he
  clear hb he
  go_simp
  refine hK.out _ _ (KS.out _ Bc.out) (fun h0_1 => ?_)
  clear hK K h0
  refine wpAnyH_ready (rs := [5]) (by kernel_rfl) (by simp) (AllReadyH.cons rfl (fun K hK => ?_) AllReadyH.nil)
  rw [if_pos (by rfl)]
  go_simp
  refine (whole_any b wc).mono ?_
  rintro e wc ⟨rfl, hb⟩
  have Bc := Lib.hid (below_on Bc.out hb)
  clear hb
  go_simp
  refine hK.out _ _ (KS.out _ Bc.out) (fun h0_2 => ?_)
  clear hK K h0_1
  refine wpAnyH_ready (rs := [6]) (by kernel_rfl) (by simp) (AllReadyH.cons rfl (fun K hK => ?_) AllReadyH.nil)
  rw [if_pos (by rfl)]
  go_simp
  refine (CM.out wc).mono ?_
  rintro e wc ⟨rfl, hb⟩
  have Bc := Lib.hid (below_on Bc.out hb)
  clear hb
  go_simp
  refine hK.out _ _ (KS.out _ Bc.out) (fun h0_3 => ?_)
  clear hK K h0_2
  refine tkH (i := 7) (v := ?v5) rfl (Or.inl ⟨by rfl, ?hy5⟩) h0_3 ?rest5
  case hy5 => (intro w' hS; (try dsimp only at hS); go_simp; try (with_reducible rfl))
  simp only [Act.put, sA, sB, sC, sD, sE, sF]
  refine tkH (i := 8) (v := ?v6) rfl (Or.inl ⟨by rfl, ?hy6⟩) h0_3 ?rest6
  case hy6 => (intro w' hS; (try dsimp only at hS); go_simp; try (with_reducible rfl))
  simp only [Act.put, sA, sB, sC, sD, sE, sF]
  refine wpAnyH_ready (rs := [9]) (by kernel_rfl) (by simp) (AllReadyH.cons rfl (fun K hK => ?_) AllReadyH.nil)
  rw [if_pos (by rfl)]
  go_simp
  refine (mustI_any k ke wc).mono ?_
  rintro e wc ⟨hb, (⟨he, rfl⟩ | ⟨he, rfl⟩)⟩
  rotate_left
  · exact And.intro rfl ⟨below_on E0.out (below_on Bc.out hb), Or.inr ⟨by rw [F2.out HA.out]; exact he, by rw [F2.out HA.out]⟩⟩
  have Bc := Lib.hid (below_on Bc.out hb)
  have HK := Lib.hid he
  clear hb he
  go_simp
  refine hK.out _ _ (KS.out _ Bc.out) (fun h0_4 => ?_)
  clear hK K h0_3
  refine tkH (i := 10) (v := ?v7) rfl (Or.inl ⟨by rfl, ?hy7⟩) h0_4 ?rest7
  case hy7 => (intro w' hS; (try dsimp only at hS); go_simp; try (with_reducible rfl))
  simp only [Act.put, sA, sB, sC, sD]
  try simp only [sF]
  try simp only [sE]
  refine wpAnyH_done (by kernel_rfl) ?_ _
  have BX := Lib.hid (below_on E0.out Bc.out)
  obtain ⟨_, cs⟩ := CB.out wc (K0.out.kept Bc.out)
  have FE := Lib.hid (show F = 0 by rw [F2.out HA.out]; exact HK.out)
  clear AT CM CB HA HK Bc F1 F2
  by_cases k1 : k < 0
  · have M1 := Lib.hid (show MBB = true by rw [F3.out, decide_eq_true k1]; rfl)
    go_wp2_with fail
    go_ret
    exact ⟨BX.out, Or.inl ⟨FE.out, ret_bool M1.out.symm⟩⟩
  · by_cases k2 : k = 0
    · have k3 : (k == 0) = true := by simpa using k2
      have M1 := Lib.hid (show MBB = !s by rw [F3.out, decide_eq_false k1, decide_eq_true k2]; simp)
      clear k2
      go_wp2_with fail
      go_ret
      exact ⟨BX.out, Or.inl ⟨FE.out, ret_bool M1.out.symm⟩⟩
    · have k3 : (k == 0) = false := by simpa using k2
      have M1 := Lib.hid (show MBB = false by rw [F3.out, decide_eq_false k1, decide_eq_false k2]; rfl)
      clear k2
      go_wp2_with fail
      go_ret
      exact ⟨BX.out, Or.inl ⟨FE.out, ret_bool M1.out.symm⟩⟩

/-- Whether a point meets all lines, and the first error. -/
def alE (P : List Pq) : List Ln → Int
  | [] => 0
  | x :: r => if metE P x ≠ 0 then metE P x else alE P r

theorem alE_here {P : List Pq} : ∀ {l : List Ln} {t : Nat}, (ht : t < l.length) → (∀ i, ∀ q : i < l.length, i < t → metE P l[i] = 0) → metE P l[t] ≠ 0 → alE P l = metE P l[t]
  | [], _, ht, _, _ => by simp at ht
  | x :: r, 0, _, _, h => by
    have h : metE P x ≠ 0 := h
    show (if metE P x ≠ 0 then _ else _) = metE P x
    rw [if_pos h]
  | x :: r, t + 1, ht, hb, h => by
    have h0 := hb 0 (by simp) (by omega)
    show (if metE P x ≠ 0 then _ else _) = _
    rw [if_neg (fun q => q h0)]
    have := alE_here (P := P) (l := r) (t := t) (by simpa using ht) (fun i q k => by have := hb (i + 1) (by simpa using q) (by omega); simpa using this) (by simpa using h)
    simpa using this

theorem alE_none {P : List Pq} : ∀ {l : List Ln}, (∀ x ∈ l, metE P x = 0) → alE P l = 0
  | [], _ => rfl
  | x :: r, h => by
    show (if metE P x ≠ 0 then _ else _) = _
    rw [if_neg (fun q => q (h x (by simp)))]
    exact alE_none fun y hy => h y (by simp [hy])

theorem allL_snoc {p : Ln → Bool} {l : List Ln} {t : Nat} (h : t < l.length) : (l.take (t + 1)).all p = ((l.take t).all p && p l[t]) := by
  rw [List.take_succ_eq_append_getElem h, List.all_append]; simp

set_option maxRecDepth 100000 in
set_option maxHeartbeats 4000000 in
theorem hasL_any (l : List Ln) (P : List Pq) (lo ao : Option Addr) (lc cap : Nat) (w : World) (hl : l.length ≤ 100000) (hL : RdL w lo l) (hg : ∀ x ∈ l, Rg 2147483647 x) (hn : P.length ≤ 6) (hR : Rd2 w ao P) (hI : ∀ t, t < P.length → I2 (gp P t)) :
    Calls Tryz.prog 66 #[.slice lo l.length lc, .slice ao P.length cap] w (MtR (alE P l) (l.all (metB P)) w) := by
  have IM := Lib.hid (fun x (hx : Rg 2147483647 x) W (h : Below w.heap.size w W) => isMet_any x P ao cap W hx hn (hR.on h) hI)
  obtain ⟨m, hm⟩ : ∃ m, m = l.length := ⟨_, rfl⟩
  have HM := Lib.hid hm
  have hle : m ≤ 100000 := by omega
  have LR := Lib.hid hL
  have GG := Lib.hid hg
  obtain ⟨E, hE⟩ : ∃ E, E = alE P l := ⟨_, rfl⟩
  have HE := Lib.hid hE
  obtain ⟨A, hA⟩ : ∃ A, A = l.all (metB P) := ⟨_, rfl⟩
  have HA := Lib.hid hA
  rw [← hm, ← hE, ← hA]
  obtain ⟨n, hN⟩ : ∃ n, n = P.length := ⟨_, rfl⟩
  rw [← hN] at IM ⊢
  clear hl hL hg hn hR hI hE hA hm hN
  go_enter Tryz.func66, Tryz.ntmps66
  go_wp2_with fail
  go_loopw [5, 11] (fun v s wr => ∃ t : Nat, ∃ b : Bool, s = .int .i64 t ∧ v = .bool b ∧ t ≤ m ∧ Hid (b = (l.take t).all (metB P) ∧ ∀ i, ∀ q : i < l.length, i < t → metE P l[i] = 0) ∧ Hid (Below w.heap.size w wr)) (fun _ s _ => m - (intOf s).toNat)
  case atStart => exact ⟨0, true, rfl, rfl, by omega, Lib.hid ⟨by simp, fun i q h => by omega⟩, Lib.hid (Below.refl _ _)⟩
  case round =>
    obtain ⟨t, b, rfl, rfl, ht, HF, HB⟩ := hrel
    by_cases htm : t < m
    · have hlt : t < l.length := by have := HM.out; omega
      obtain ⟨p, hp, c0⟩ := (LR.out.on HB.out) t hlt
      obtain ⟨x, hx⟩ : ∃ x, x = l[t] := ⟨_, rfl⟩
      have GX := Lib.hid (show Rg 2147483647 x by rw [hx]; exact GG.out _ (List.getElem_mem _))
      rw [← hx] at c0
      have LA := Lib.hid c0
      obtain ⟨me, hme⟩ : ∃ me, me = metE P x := ⟨_, rfl⟩
      obtain ⟨mb, hmb⟩ : ∃ mb, mb = metB P x := ⟨_, rfl⟩
      have AB := Lib.hid (show (l.take (t + 1)).all (metB P) = (b && mb) by rw [allL_snoc hlt, ← hx, ← hmb, HF.out.1])
      have AZ := Lib.hid (show me = 0 → ∀ i, ∀ q : i < l.length, i < t + 1 → metE P l[i] = 0 from fun h i q k => by
        by_cases e : i = t
        · subst e; rw [← hx, ← hme]; exact h
        · exact HF.out.2 i q (by omega))
      have AN := Lib.hid (show me ≠ 0 → E = me from fun h => by
        rw [HE.out, alE_here hlt HF.out.2 (by rw [← hx, ← hme]; exact h), ← hx, ← hme])
      have I1 := Lib.hid (fun W h => IM.out x GX.out W h)
      rw [← hme, ← hmb] at I1
      have hz := ln_zero
      subst hp
      have N1 := Lib.hid (show Bk (wr.alloc (.cells ln0.cs 82)) wr.heap.size ln0 from Bk.made wr ln0 rfl)
      have N2 := Lib.hid (N1.out.setRow GX.out.len)
      have B2 := Lib.hid (Below.setRow ((Below.refl wr.heap.size wr).alloc (Nat.le_refl _) (.cells ln0.cs 82)) (b := wr.heap.size) (Nat.le_refl _) x.cs)
      clear c0 hx hlt hme hmb HF
      go_upto_region 5 with (first | refine wpl_loadP rfl _ rfl _ rfl x LA.out ?_ | refine wpl_store rfl _ _ rfl _ _ rfl rfl _ N1.out GX.out.len ?_)
      generalize (wr.alloc (.cells ln0.cs 82)).setRow wr.heap.size x.cs = w1 at *
      have S1 := Lib.hid (below_on HB.out B2.out)
      obtain ⟨q, hq⟩ : ∃ q, q = wr.heap.size := ⟨_, rfl⟩
      rw [← hq] at N2 ⊢
      clear N1 B2 hq LA HB hz wr
      go_wp2_with (refine wpl_load rfl _ rfl _ rfl x N2.out ?_)
      refine (I1.out w1 S1.out).mono ?_
      rintro e w2 ⟨hb, (⟨he, rfl⟩ | ⟨he, rfl⟩)⟩
      · have B3 := Lib.hid (below_on S1.out hb)
        have Z1 := Lib.hid (AZ.out he)
        clear hb he I1 AZ AN N2
        cases b
        · have A1 := Lib.hid (show false = (l.take (t + 1)).all (metB P) by rw [AB.out]; rfl)
          go_wp2_with fail
          go_roundw
          case rel => exact ⟨t + 1, false, by go_num, rfl, by omega, Lib.hid ⟨A1.out, Z1.out⟩, B3⟩
          case measure => simp [intOf]; omega
        · have A1 := Lib.hid (show mb = (l.take (t + 1)).all (metB P) by rw [AB.out]; rfl)
          go_wp2_with fail
          go_roundw
          case rel => exact ⟨t + 1, mb, by go_num, rfl, by omega, Lib.hid ⟨A1.out, Z1.out⟩, B3⟩
          case measure => simp [intOf]; omega
      · have B3 := Lib.hid (below_on S1.out hb)
        have R1 := Lib.hid (AN.out he)
        have NE := Lib.hid he
        clear hb he I1 AZ AN N2
        go_wp2_with fail
        exact And.intro rfl ⟨B3.out, Or.inr ⟨by rw [R1.out]; exact NE.out, by rw [R1.out]⟩⟩
    · have e9 : t = m := by omega
      have R1 := Lib.hid (show E = 0 by
        rw [HE.out]
        refine alE_none fun x hx => ?_
        obtain ⟨k, hk, rfl⟩ := List.getElem_of_mem hx
        exact HF.out.2 k hk (by have := HM.out; omega))
      have A1 := Lib.hid (show b = A by rw [HA.out, HF.out.1, e9, HM.out, List.take_length])
      clear e9 HF
      go_wp2_with fail
      go_ret
      exact ⟨HB.out, Or.inl ⟨R1.out, ret_bool A1.out⟩⟩

/-- The error of the closure of Has. -/
def haE (n : Nat) (L : List AV) (P : List Pq) : Int := if decide ((P.length : Int) = n) && P.all vR then alE P (L.map ofV) else 2

set_option maxRecDepth 100000 in
set_option maxHeartbeats 4000000 in
theorem has1_any (n : Nat) (L : List AV) (P : List Pq) (ao po : Option Addr) (ac pc pn pl pp : Nat) (w : World) (hc : chkP n L = 0) (hR : RdV w ao L) (hS : Rd2 w po P) (hI : ∀ q ∈ P, I2 q) (hP : P.length ≤ 1000000) (c0 : w.cell? ⟨pn, 0, none⟩ = some (.int .i64 n)) (c1 : w.cell? ⟨pp, 0, none⟩ = some (.slice po P.length pc)) (c2 : w.cell? ⟨pl, 0, none⟩ = some (.slice ao L.length ac)) :
    Calls Tryz.prog 64 #[.pointer (some ⟨pn, 0, none⟩), .pointer (some ⟨pp, 0, none⟩), .pointer (some ⟨pl, 0, none⟩)] w fun e W' =>
      (haE n L P = 0 ∧ ∃ v, e = .returned v ∧ v = .bool ((L.map ofV).all (metB P)) ∧ Below w.heap.size w W') ∨ (haE n L P ≠ 0 ∧ e = .panicked (pan (haE n L P)) ∧ Below w.heap.size w W') := by
  obtain ⟨⟨_, hn⟩, hl, hv⟩ := chk_valid hc
  have IP := Lib.hid (isPt_any n P po pc w hP hS hI)
  have LI := Lib.hid (fun W (h : Below w.heap.size w W) => lines_any L ao ac W (by omega) (hR.on h) (fun y hy => by have := valid_len (hv y hy); omega))
  have gL : ∀ x ∈ L.map ofV, Rg 2147483647 x := fun x hx => by
    obtain ⟨y, hy, rfl⟩ := List.mem_map.1 hx
    exact ofV_rg (n := n) (by omega) (hv y hy)
  have HL := Lib.hid (fun W lo lc (h : Below w.heap.size w W) (hL : RdL W lo (L.map ofV)) (hp : P.length ≤ 6) => hasL_any (L.map ofV) P lo po lc pc W (by simp; omega) hL gL hp (hS.on h) (fun t ht => by unfold gp; rw [List.getD_eq_getElem?_getD, List.getElem?_eq_getElem ht]; exact hI _ (List.getElem_mem _)))
  have HH : haE n L P = if decide ((P.length : Int) = n) && P.all vR then alE P (L.map ofV) else 2 := rfl
  have N6 := Lib.hid (show (decide ((P.length : Int) = n) && P.all vR) = true → P.length ≤ 6 from fun h => by
    simp only [Bool.and_eq_true, decide_eq_true_eq] at h
    have := h.1
    omega)
  obtain ⟨g, hg⟩ : ∃ g, g = (decide ((P.length : Int) = n) && P.all vR) := ⟨_, rfl⟩
  rw [← hg] at IP HH N6
  rw [HH]
  have HK := Lib.hid (show (L.map ofV).length = L.length by simp)
  generalize alE P (L.map ofV) = E at *
  generalize (L.map ofV).all (metB P) = A at *
  rw [HK.out] at HL
  generalize L.length = k at *
  have C1 := Lib.hid c1
  have C2 := Lib.hid c2
  have P6 := Lib.hid (fun h => N6.out h)
  clear N6
  obtain ⟨l4, hl4⟩ : ∃ l4, l4 = P.length := ⟨_, rfl⟩
  rw [← hl4] at IP HL C1 c1 P6
  clear hc hR hS hI hP hn hl hv gL HH hg c2 hl4
  go_enter Tryz.func64, Tryz.ntmps64
  go_wp2_with fail
  refine IP.out.mono ?_
  rintro e w1 ⟨rfl, hb⟩
  have B1 := Lib.hid hb
  clear hb
  go_wp2_with fail
  refine (demand_any g w1).mono ?_
  cases g
  · rintro e w2 ⟨rfl, rfl⟩
    go_wp2_with fail
    exact And.intro rfl ⟨rfl, B1.out⟩
  rintro e w2 ⟨rfl, rfl⟩
  have HL1 := Lib.hid (fun W lo lc h hL => HL.out W lo lc h hL (P6.out rfl))
  rw [if_pos rfl]
  clear HL P6 IP c0 c1
  go_upto_region 2 with (fail)
  have KS := Lib.hid (show ∀ W, Below w2.heap.size w2 W → (W.cell? ⟨pl, 0, none⟩ = some (.slice ao k ac) ∧ W.cell? ⟨pp, 0, none⟩ = some (.slice po l4 pc)) from fun W h => ⟨kept (below_on B1.out h) C2.out, kept (below_on B1.out h) C1.out⟩)
  obtain ⟨wc, hwc⟩ : ∃ wc, wc = w2.drew := ⟨_, rfl⟩
  have Bc := Lib.hid (show Below w2.heap.size w2 wc by rw [hwc]; exact (Below.refl _ _).drew)
  refine wp_region_held_drew (S := (fun W => (W.cell? ⟨pl, 0, none⟩ = some (.slice ao k ac) ∧ W.cell? ⟨pp, 0, none⟩ = some (.slice po l4 pc)))) (by kernel_rfl) (by rw [← hwc]; exact KS.out _ Bc.out) (fun h0 => ?_)
  rw [← hwc] at h0 ⊢
  clear hwc
  refine tkH (i := 0) (v := ?v8) rfl (Or.inl ⟨by rfl, ?hy8⟩) h0 ?rest8
  case hy8 => (intro w' hS; (try dsimp only at hS); go_simp; try (with_reducible rfl))
  simp only [Act.put, sA, sB, sD, sE, sF]
  refine tkH (i := 2) (v := ?v9) rfl (Or.inl ⟨by rfl, ?hy9⟩) h0 ?rest9
  case hy9 => (intro w' hS; (try dsimp only at hS); go_simp; try (with_reducible rfl))
  simp only [Act.put, sA, sB, sC, sD, sE, sF]
  refine wpAnyH_ready (rs := [1]) (by kernel_rfl) (by simp) (AllReadyH.cons rfl (fun K hK => ?_) AllReadyH.nil)
  rw [if_pos (by rfl)]
  go_simp
  refine (LI.out wc (below_on B1.out Bc.out)).mono ?_
  rintro e wc ⟨b1, lc1, rfl, hr, hb⟩
  have R1 := Lib.hid hr
  have Bc := Lib.hid (below_on Bc.out hb)
  clear hr hb
  rw [HK.out]
  go_simp
  refine hK.out _ _ (KS.out _ Bc.out) (fun h0_1 => ?_)
  clear hK K h0
  refine wpAnyH_ready (rs := [3]) (by kernel_rfl) (by simp) (AllReadyH.cons rfl (fun K hK => ?_) AllReadyH.nil)
  rw [if_pos (by rfl)]
  go_simp
  refine (HL1.out wc b1 lc1 (below_on B1.out Bc.out) R1.out).mono ?_
  rintro e wc ⟨hb, (⟨he, rfl⟩ | ⟨he, rfl⟩)⟩
  rotate_left
  · exact And.intro rfl (Or.inr ⟨he, rfl, below_on B1.out (below_on Bc.out hb)⟩)
  have HZ := Lib.hid he
  have Bc := Lib.hid (below_on Bc.out hb)
  clear hb he
  go_simp
  refine hK.out _ _ (KS.out _ Bc.out) (fun h0_2 => ?_)
  clear hK K h0_1
  refine tkH (i := 4) (v := ?v10) rfl (Or.inl ⟨by rfl, ?hy10⟩) h0_2 ?rest10
  case hy10 => (intro w' hS; (try dsimp only at hS); go_simp; try (with_reducible rfl))
  simp only [Act.put, sA, sB, sC, sD]
  try simp only [sF]
  try simp only [sE]
  refine wpAnyH_done (by kernel_rfl) ?_ _
  go_wp2_with fail
  go_ret
  exact Or.inl ⟨HZ.out, _, rfl, rfl, below_on B1.out Bc.out⟩

theorem has1_enters : ∀ args w, (callFunc 64 args).run Tryz.prog w = .ok (.enter 64 args) w := enters_of Tryz.func64 (by kernel_rfl) rfl

/-- The error of Has. -/
def hapE (n : Int) (L : List AV) (P : List Pq) : Int := if chkP n L = 0 then haE n.toNat L P else chkP n L

set_option maxRecDepth 100000 in
set_option maxHeartbeats 4000000 in
theorem hasP_any (n : Int) (L : List AV) (P : List Pq) (ao po : Option Addr) (cap pc : Nat) (w : World) (hR : RdV w ao L) (hS : Rd2 w po P) (hI : ∀ q ∈ P, I2 q) (hP : P.length ≤ 1000000) :
    Calls Tryz.prog 23 #[.int .i64 n, .slice ao L.length cap, .slice po P.length pc] w (EmRes w (hapE n L P) (decide (hapE n L P = 0) && (L.map ofV).all (metB P))) := by
  have hmf : ∀ (fn : Fn) (first cap : Array Value) (w : World), (Instr.makeFunc fn first cap).run Tryz.prog w = .ok (.func fn first cap) w := fun _ _ _ _ => rfl
  obtain ⟨m, hm⟩ : ∃ m, m = L.length := ⟨_, rfl⟩
  obtain ⟨m2, hm2⟩ : ∃ m, m = P.length := ⟨_, rfl⟩
  obtain ⟨w0, hw0⟩ : ∃ w0, w0 = ((w.alloc (.cells #[.int .i64 n] 3)).alloc (.cells #[.slice ao m cap] 22)).alloc (.cells #[.slice po m2 pc] 26) := ⟨_, rfl⟩
  have E0 := Lib.hid (show Below w.heap.size w w0 by rw [hw0]; exact past_three (Below.refl _ _))
  have X0 := Lib.hid (show Bx1 w0 w.heap.size (.int .i64 n) 3 by rw [hw0]; exact ((Bx1.made w _ _).kept (one_more _)).kept (one_more _))
  have X1 := Lib.hid (show Bx1 w0 (w.heap.size + 1) (.slice ao m cap) 22 by rw [hw0]; have := (Bx1.made (w.alloc (.cells #[.int .i64 n] 3)) (.slice ao m cap) 22).kept (one_more (.cells #[.slice po m2 pc] 26)); simpa using this)
  have X2 := Lib.hid (show Bx1 w0 (w.heap.size + 2) (.slice po m2 pc) 26 by rw [hw0]; have := Bx1.made ((w.alloc (.cells #[.int .i64 n] 3)).alloc (.cells #[.slice ao m cap] 22)) (.slice po m2 pc) 26; simpa using this)
  have B1 := Lib.hid (one_more (w1 := w0) (.cells #[.slice ao m cap] 22))
  have hG : RdG (w0.alloc (.cells #[.slice ao m cap] 22)) (some ⟨w0.heap.size, 0, none⟩) [L] := by
    intro t ht
    have : t = 0 := by simpa using ht
    subst this
    refine ⟨_, ao, cap, rfl, ?_, (hR.on E0.out).on B1.out⟩
    rw [addr_add]
    have := (Bx1.made w0 (.slice ao m cap) 22).cell
    rw [hm] at this ⊢
    exact this
  have AN := Lib.hid (answerB_any 64 #[.pointer (some ⟨w.heap.size, 0, none⟩), .pointer (some ⟨w.heap.size + 2, 0, none⟩), .pointer (some ⟨w.heap.size + 1, 0, none⟩)] n (some ⟨w0.heap.size, 0, none⟩) 1 [L] (haE n.toNat L P) _ (by simp) hG has1_enters
    (fun _ v _ => v = .bool ((L.map ofV).all (metB P))) (fun _ _ _ _ _ h _ => h) (fun hc W hW => by
      have hc0 := hc L (by simp)
      have hn := (chk_valid hc0).1
      have e : ((n.toNat : Nat) : Int) = n := by omega
      refine has1_any n.toNat L P ao po cap pc w.heap.size (w.heap.size + 1) (w.heap.size + 2) W (by rw [e]; exact hc0) (((hR.on E0.out).on B1.out).on hW) (((hS.on E0.out).on B1.out).on hW) hI hP ?_ ?_ ?_
      · rw [e]; exact kept hW (kept B1.out X0.out.cell)
      · rw [← hm2]; exact kept hW (kept B1.out X2.out.cell)
      · rw [← hm]; exact kept hW (kept B1.out X1.out.cell)))
  have HE := Lib.hid (show ansE n [L] (haE n.toNat L P) = hapE n L P from ansE_one _ _ _)
  have c0 := X0.out.cell
  have c1 := X1.out.cell
  have c2 := X2.out.cell
  simp only [List.length_cons, List.length_nil, Nat.zero_add] at AN
  rw [← hm, ← hm2]
  clear hR hG hm hm2 hS hI hP
  go_enter Tryz.func23, Tryz.ntmps23
  go_upto_region 1 with (fail)
  rw [← hw0]
  clear hw0
  go_wp2_with fail
  refine AN.out.mono ?_
  rintro e w2 ⟨hb, ⟨he, W, v, hW, rfl, rfl⟩ | ⟨he, rfl⟩⟩
  · have B2 := Lib.hid (below_on E0.out (past_one hb))
    rw [HE.out] at he
    have RB := Lib.hid (show EmRes w (hapE n L P) (decide (hapE n L P = 0) && (L.map ofV).all (metB P)) (.returned (.tuple #[.bool ((L.map ofV).all (metB P)), .int .i64 0])) w2 from ⟨by rw [he]; rfl, B2.out⟩)
    clear hb he hW
    generalize (L.map ofV).all (metB P) = A at *
    go_wp2_with fail
    refine bodyPost_ret (v := .tuple #[.bool A, .int .i64 0]) (by simp [results, Tryz.results23, go_sem]) rfl ?_
    exact RB.out
  · have B2 := Lib.hid (below_on E0.out (past_one hb))
    rw [HE.out] at he ⊢
    have RB := Lib.hid (show EmRes w (hapE n L P) (decide (hapE n L P = 0) && (L.map ofV).all (metB P)) (.returned (.tuple #[.bool false, .int .i64 (hapE n L P)])) w2 from ⟨by rw [decide_eq_false he]; rfl, B2.out⟩)
    clear hb he
    go_wp2_with fail
    refine bodyPost_ret (v := .tuple #[.bool false, .int .i64 (hapE n L P)]) (by simp [results, Tryz.results23, go_sem]) rfl ?_
    exact RB.out
end Go.Proofs.YtbhaoaobhgilkaaGreat
