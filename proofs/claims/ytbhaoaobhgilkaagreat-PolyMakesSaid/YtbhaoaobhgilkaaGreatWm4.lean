/- Contracts of cmp.Compare, cmp.Or and slices.Compare at integers; the order of lines.; The comparisons of package poly's tidy.; Equality of coefficients; rows of lines that can be read. -/
import Derived.Test.YtbhaoaobhgilkaaGreatWm3
import Derived.Sort.Grow
import Derived.DeepKeys
import Derived.Laws.StructEq

namespace Go.Proofs.YtbhaoaobhgilkaaGreat
open Go.RowKit Go.Sort

def Gw (w w' : World) : Prop := ∃ q os, w' = grow (w.drewN q) os

theorem Gw.trans {a b c : World} (h : Gw a b) (k : Gw b c) : Gw a c := by
  obtain ⟨q, os, rfl⟩ := h
  obtain ⟨q', os', rfl⟩ := k
  exact ⟨q + q', os ++ os', by simp [grow, World.drewN, Array.append_assoc, Nat.add_assoc]⟩

theorem Gw.alloc (w : World) (o : Obj) : Gw w (w.alloc o) := ⟨0, #[o], by rw [alloc_eq_grow]; rfl⟩

theorem Gw.drewN (w : World) (n : Nat) : Gw w (w.drewN n) := ⟨n, #[], by rw [grow_empty]⟩

theorem Gw.drew (w : World) : Gw w w.drew := Gw.drewN w 1

theorem Gw.below {w w' : World} (h : Gw w w') : Below w.heap.size w w' := by
  obtain ⟨q, os, rfl⟩ := h
  refine ⟨rfl, rfl, rfl, ?_, fun k hk => ?_⟩
  · simp [grow, World.drewN]
  · show (w.heap ++ os)[k]? = _
    rw [Array.getElem?_append_left hk]

def cmpI (a b : Int) : Int := if a < b then -1 else if b < a then 1 else 0

set_option maxHeartbeats 400000 in
theorem nan_any (a : Int) (w : World) : Calls Tryz.prog 150 #[.int .i64 a] w (fun e w' => e = .returned (.bool false) ∧ w' = w) := by
  have h : (a != a) = false := by simp
  go_enter Tryz.func150, Tryz.ntmps150
  go_wp2_with fail
  go_ret
  exact ⟨rfl, rfl⟩

set_option maxRecDepth 20000 in
set_option maxHeartbeats 1000000 in
theorem cmpI_any (a b : Int) (w : World) : Calls Tryz.prog 128 #[.int .i64 a, .int .i64 b] w (fun e w' => e = .returned (.int .i64 (cmpI a b)) ∧ w' = w) := by
  have NA := Lib.hid (fun v W => nan_any v W)
  obtain ⟨r, hr⟩ : ∃ r, r = cmpI a b := ⟨_, rfl⟩
  have HR := Lib.hid hr
  rw [← hr]
  clear hr
  by_cases h1 : a < b
  · have HE := Lib.hid (show r = -1 by rw [HR.out]; unfold cmpI; rw [if_pos h1])
    have q1 : decide (a < b) = true := by simpa using h1
    clear h1
    go_enter Tryz.func128, Tryz.ntmps128
    go_wp2_with fail
    refine (NA.out _ _).mono ?_
    rintro e w1 ⟨rfl, rfl⟩
    go_wp2_with fail
    refine (NA.out _ _).mono ?_
    rintro e w1 ⟨rfl, rfl⟩
    go_wp2_with fail
    go_ret
    exact ⟨ret_int HE.out.symm, rfl⟩
  · have q1 : decide (a < b) = false := by simpa using h1
    by_cases h2 : b < a
    · have HE := Lib.hid (show r = 1 by rw [HR.out]; unfold cmpI; rw [if_neg h1, if_pos h2])
      have q2 : decide (b < a) = true := by simpa using h2
      clear h1 h2
      go_enter Tryz.func128, Tryz.ntmps128
      go_wp2_with fail
      refine (NA.out _ _).mono ?_
      rintro e w1 ⟨rfl, rfl⟩
      go_wp2_with fail
      refine (NA.out _ _).mono ?_
      rintro e w1 ⟨rfl, rfl⟩
      go_wp2_with fail
      go_ret
      exact ⟨ret_int HE.out.symm, rfl⟩
    · have HE := Lib.hid (show r = 0 by rw [HR.out]; unfold cmpI; rw [if_neg h1, if_neg h2])
      have q2 : decide (b < a) = false := by simpa using h2
      clear h1 h2
      go_enter Tryz.func128, Tryz.ntmps128
      go_wp2_with fail
      refine (NA.out _ _).mono ?_
      rintro e w1 ⟨rfl, rfl⟩
      go_wp2_with fail
      refine (NA.out _ _).mono ?_
      rintro e w1 ⟨rfl, rfl⟩
      go_wp2_with fail
      go_ret
      exact ⟨ret_int HE.out.symm, rfl⟩

def cmpL : List Int → List Int → Int
  | [], [] => 0
  | [], _ :: _ => -1
  | _ :: _, [] => 1
  | x :: xs, y :: ys => if cmpI x y = 0 then cmpL xs ys else cmpI x y

theorem cmpI_zero {a b : Int} : cmpI a b = 0 ↔ a = b := by unfold cmpI; split <;> (try split) <;> omega

theorem cmpI_less {a b : Int} : cmpI a b < 0 ↔ a < b := by unfold cmpI; split <;> (try split) <;> omega

theorem cmpL_at : ∀ {l m : List Int} {t : Nat}, t < l.length → t < m.length → (∀ i, i < t → gA l i = gA m i) → cmpI (gA l t) (gA m t) ≠ 0 → cmpL l m = cmpI (gA l t) (gA m t)
  | [], _, _, h, _, _, _ => by simp at h
  | _ :: _, [], _, _, h, _, _ => by simp at h
  | x :: xs, y :: ys, 0, _, _, _, h => by
    have : cmpI x y ≠ 0 := by simpa [gA] using h
    simp [cmpL, gA, this]
  | x :: xs, y :: ys, t + 1, h1, h2, h3, h => by
    have e : x = y := by simpa [gA] using h3 0 (by omega)
    have ih := cmpL_at (l := xs) (m := ys) (t := t) (by simpa using h1) (by simpa using h2) (fun i hi => by simpa [gA] using h3 (i + 1) (by omega)) (by simpa [gA] using h)
    rw [show gA (x :: xs) (t + 1) = gA xs t by simp [gA], show gA (y :: ys) (t + 1) = gA ys t by simp [gA]]
    unfold cmpL
    rw [if_pos (cmpI_zero.2 e), ih]

theorem cmpL_zero : ∀ {l m : List Int}, cmpL l m = 0 ↔ l = m
  | [], [] => by simp [cmpL]
  | [], _ :: _ => by simp [cmpL]
  | _ :: _, [] => by simp [cmpL]
  | x :: xs, y :: ys => by
    unfold cmpL
    have ih := cmpL_zero (l := xs) (m := ys)
    split
    · rename_i h
      rw [ih, List.cons.injEq, cmpI_zero.1 h]; simp
    · rename_i h
      rw [List.cons.injEq]
      constructor
      · exact fun q => absurd q h
      · exact fun q => absurd (cmpI_zero.2 q.1) h

theorem gA_ext {l m : List Int} (h : l.length = m.length) (e : ∀ i, i < l.length → gA l i = gA m i) : l = m := by
  refine List.ext_getElem h fun i h1 h2 => ?_
  have := e i h1
  simpa [gA, h1, h2] using this

set_option maxRecDepth 20000 in
set_option maxHeartbeats 1000000 in
theorem cmpL_any (l m : List Int) (ao bo : Option Addr) (ca cb : Nat) (w : World) (hl : l.length ≤ 1000000) (hm : m.length = l.length) (hR : Rd1 w ao l) (hS : Rd1 w bo m) :
    Calls Tryz.prog 127 #[.slice ao l.length ca, .slice bo m.length cb] w (fun e w' => e = .returned (.int .i64 (cmpL l m)) ∧ w' = w) := by
  have CI := Lib.hid (fun a b W => cmpI_any a b W)
  have HR := Lib.hid hR
  have HS := Lib.hid hS
  obtain ⟨n, hn⟩ : ∃ n, n = l.length := ⟨_, rfl⟩
  have HL := Lib.hid hn
  have HM := Lib.hid (show n = m.length by omega)
  rw [hm, ← hn]
  have hle : n ≤ 1000000 := by omega
  clear hl hm hR hS hn
  go_enter Tryz.func127, Tryz.ntmps127
  go_wp2_with fail
  go_loopw [11] (fun s wr => ∃ t : Nat, s = .int .i64 t ∧ t ≤ n ∧ Hid (∀ i, i < t → gA l i = gA m i) ∧ wr = w) (fun s _ => n - (intOf s).toNat)
  case atStart => exact ⟨0, rfl, by omega, Lib.hid (fun i h => by omega), rfl⟩
  case round =>
    obtain ⟨t, rfl, ht, HF, rfl⟩ := hrel
    by_cases htn : t < n
    · obtain ⟨a, ha, c0⟩ := HR.out t (by have := HL.out; omega)
      obtain ⟨b, hb, c1⟩ := HS.out t (by have := HM.out; omega)
      obtain ⟨u, hu⟩ : ∃ u, u = gA l t := ⟨_, rfl⟩
      obtain ⟨v, hv⟩ : ∃ v, v = gA m t := ⟨_, rfl⟩
      have HU := Lib.hid hu
      have HV := Lib.hid hv
      rw [← hu] at c0
      rw [← hv] at c1
      clear hu hv
      subst ha
      subst hb
      have g0 : decide ((n : Int) ≤ (t : Int)) = false := by simp; omega
      go_wp2_with fail
      refine (CI.out _ _ _).mono ?_
      rintro e w1 ⟨rfl, rfl⟩
      by_cases hc : cmpI u v = 0
      · have D : (cmpI u v != 0) = false := by simpa using hc
        have HF' := Lib.hid (show ∀ i, i < t + 1 → gA l i = gA m i from fun i hi => by
          by_cases e : i = t
          · subst e; rw [← HU.out, ← HV.out]; exact cmpI_zero.1 hc
          · exact HF.out i (by omega))
        clear hc
        go_wp2_with fail
        go_roundw
        case rel => exact ⟨t + 1, by go_num, by omega, HF', trivial⟩
        case measure => simp [intOf]; omega
      · have D : (cmpI u v != 0) = true := by simpa using hc
        have HE := Lib.hid (show cmpL l m = cmpI u v from by
          rw [HU.out, HV.out]
          exact cmpL_at (by have := HL.out; omega) (by have := HM.out; omega) HF.out (by rw [← HU.out, ← HV.out]; exact hc))
        clear hc
        go_wp2_with fail
        go_ret
        exact ⟨ret_int HE.out.symm, rfl⟩
    · have HE := Lib.hid (show cmpL l m = 0 from cmpL_zero.2 (gA_ext (by have := HL.out; have := HM.out; omega) fun i hi => HF.out i (by have := HL.out; omega)))
      go_wp2_with fail
      go_ret
      exact ⟨ret_int HE.out.symm, rfl⟩

set_option maxRecDepth 20000 in
set_option maxHeartbeats 1000000 in
theorem or_any (x y : Int) (b : Nat) (w : World) (h0 : w.cell? ⟨b, 0, none⟩ = some (.int .i64 x)) (h1 : w.cell? ⟨b, 1, none⟩ = some (.int .i64 y)) :
    Calls Tryz.prog 126 #[.slice (some ⟨b, 0, none⟩) 2 2] w (fun e w' => e = .returned (.int .i64 (if x = 0 then y else x)) ∧ w' = w) := by
  obtain ⟨r, hr⟩ : ∃ r, r = if x = 0 then y else x := ⟨_, rfl⟩
  have HR := Lib.hid hr
  rw [← hr]
  clear hr
  go_enter Tryz.func126, Tryz.ntmps126
  go_wp2_with fail
  go_loopw [8] (fun s wr => ∃ t : Nat, s = .int .i64 t ∧ t ≤ 2 ∧ Hid ((1 ≤ t → x = 0) ∧ (2 ≤ t → y = 0)) ∧ wr = w) (fun s _ => 2 - (intOf s).toNat)
  case atStart => exact ⟨0, rfl, by omega, Lib.hid ⟨fun h => by omega, fun h => by omega⟩, rfl⟩
  case round =>
    obtain ⟨t, rfl, ht, HF, rfl⟩ := hrel
    have h3 : t = 0 ∨ t = 1 ∨ t = 2 := by omega
    clear ht
    rcases h3 with rfl | rfl | rfl
    · by_cases hx : x = 0
      · have D : (x != 0) = false := by simpa using hx
        have HX := Lib.hid hx
        clear hx
        go_wp2_with fail
        go_roundw
        case rel => exact ⟨1, by go_num, by omega, Lib.hid ⟨fun _ => HX.out, fun h => by omega⟩, trivial⟩
        case measure => simp [intOf]
      · have D : (x != 0) = true := by simpa using hx
        have HE := Lib.hid (show r = x by rw [HR.out, if_neg hx])
        clear hx
        go_wp2_with fail
        go_ret
        exact ⟨ret_int HE.out.symm, rfl⟩
    · have HX := HF.out.1 (by omega)
      have HE := Lib.hid (show r = y by rw [HR.out, if_pos HX])
      clear HX
      by_cases hy : y = 0
      · have D : (y != 0) = false := by simpa using hy
        have HY := Lib.hid hy
        clear hy
        go_wp2_with fail
        go_roundw
        case rel => exact ⟨2, by go_num, by omega, Lib.hid ⟨fun _ => HF.out.1 (by omega), fun _ => HY.out⟩, trivial⟩
        case measure => simp [intOf]
      · have D : (y != 0) = true := by simpa using hy
        clear hy
        go_wp2_with fail
        go_ret
        exact ⟨ret_int HE.out.symm, rfl⟩
    · have HE := Lib.hid (show r = 0 by rw [HR.out, if_pos (HF.out.1 (by omega))]; exact HF.out.2 (by omega))
      go_wp2_with fail
      go_ret
      exact ⟨ret_int HE.out.symm, rfl⟩
end Go.Proofs.YtbhaoaobhgilkaaGreat

namespace Go.Proofs.YtbhaoaobhgilkaaGreat
open Go.RowKit Go.Sort

set_option maxRecDepth 20000 in
set_option maxHeartbeats 1000000 in
theorem lim_gw (x : Ln) (w : World) (h : Rg 4611686018427387903 x) :
    Calls Tryz.prog 123 #[.agg x.cs] w (fun e w' => e = .returned (.int .i64 x.lim) ∧ Gw w w') := by
  obtain ⟨w0, hw0⟩ : ∃ w0, w0 = w.alloc (.cells x.cs 82) := ⟨_, rfl⟩
  have K0 := Bk.made w x h.len
  rw [← hw0] at K0
  have E0 := Lib.hid (show Gw w w0 by rw [hw0]; exact Gw.alloc _ _)
  have c6 := K0.num
  have c7 := K0.str
  have q1 : wrap64 (2 * x.b) = 2 * x.b := by have := h.b; unfold wrap64; omega
  have q2 : wrap64 (2 * x.b + 1) = 2 * x.b + 1 := by have := h.b; unfold wrap64; omega
  have HL := Lib.hid (show x.lim = if x.s then 2 * x.b else 2 * x.b + 1 from rfl)
  clear K0 h
  go_enter Tryz.func123, Tryz.ntmps123
  go_upto_region 1 with (fail)
  rw [← hw0]
  clear hw0
  cases hs : x.s
  · rw [hs] at c7 HL
    go_wp2_with fail
    go_ret
    exact ⟨ret_int (by rw [HL.out]; first | rfl | (rw [q2]; rfl)), E0.out⟩
  · rw [hs] at c7 HL
    go_wp2_with fail
    go_ret
    exact ⟨ret_int (by rw [HL.out]; first | rfl | (rw [q2]; rfl)), E0.out⟩

def cmpN (x y : Ln) : Int := if cmpL x.a y.a = 0 then cmpI x.lim y.lim else cmpL x.a y.a

set_option maxRecDepth 20000 in
set_option maxHeartbeats 2000000 in
theorem tidy1_any (x y : Ln) (w : World) (hx : Rg 2147483647 x) (hy : Rg 2147483647 y) :
    Calls Tryz.prog 125 #[.agg x.cs, .agg y.cs] w (fun e w' => e = .returned (.int .i64 (cmpN x y)) ∧ Gw w w') := by
  obtain ⟨w0, hw0⟩ : ∃ w0, w0 = (w.alloc (.cells x.cs 82)).alloc (.cells y.cs 82) := ⟨_, rfl⟩
  have K0 := Lib.hid (show Bk w0 w.heap.size x by rw [hw0]; exact (Bk.made w x hx.len).alloc _)
  have K1 := Lib.hid (show Bk w0 (w.heap.size + 1) y by rw [hw0]; have := Bk.made (w.alloc (.cells x.cs 82)) y hy.len; simpa using this)
  have E0 := Lib.hid (show Gw w w0 by rw [hw0]; exact (Gw.alloc _ _).trans (Gw.alloc _ _))
  have KS := Lib.hid (show ∀ W, Gw w0 W → Bk W w.heap.size x ∧ Bk W (w.heap.size + 1) y from fun W h => ⟨K0.out.kept h.below, K1.out.kept h.below⟩)
  have hs := run_wholeA w.heap.size
  have hs' := run_wholeA (w.heap.size + 1)
  have LX := Lib.hid (fun W => lim_gw x W (hx.mono (by omega)))
  have LY := Lib.hid (fun W => lim_gw y W (hy.mono (by omega)))
  have CL := Lib.hid (show ∀ W, Bk W w.heap.size x → Bk W (w.heap.size + 1) y → Calls Tryz.prog 127 #[.slice (some ⟨w.heap.size, 0, none⟩) 6 6, .slice (some ⟨w.heap.size + 1, 0, none⟩) 6 6] W (fun e w' => e = .returned (.int .i64 (cmpL x.a y.a)) ∧ w' = W) from fun W h1 h2 => by
    have := cmpL_any x.a y.a (some ⟨w.heap.size, 0, none⟩) (some ⟨w.heap.size + 1, 0, none⟩) 6 6 W (by rw [hx.len]; omega) (by rw [hx.len, hy.len]) h1.rd h2.rd
    rwa [hx.len, hy.len] at this)
  have CI := Lib.hid (fun W => cmpI_any x.lim y.lim W)
  have HR := Lib.hid (show (if cmpL x.a y.a = 0 then cmpI x.lim y.lim else cmpL x.a y.a) = cmpN x y from rfl)
  generalize cmpL x.a y.a = c at *
  generalize cmpI x.lim y.lim = k at *
  obtain ⟨r, hr⟩ : ∃ r, r = if c = 0 then k else c := ⟨_, rfl⟩
  have OR := Lib.hid (fun W b h0 h1 => or_any c k b W h0 h1)
  rw [← hr] at HR OR
  clear hx hy hr
  go_enter Tryz.func125, Tryz.ntmps125
  go_upto_region 1 with (fail)
  rw [← hw0]
  clear hw0
  obtain ⟨w4, hw4⟩ : ∃ w4, w4 = w0.drew := ⟨_, rfl⟩
  have G4 := Lib.hid (show Gw w0 w4 by rw [hw4]; exact Gw.drew _)
  refine wp_region_held_drew (S := (fun W => Bk W w.heap.size x ∧ Bk W (w.heap.size + 1) y)) (by kernel_rfl) (by rw [← hw4]; exact KS.out _ G4.out) (fun h0 => ?_)
  rw [← hw4] at h0 ⊢
  clear hw4
  refine tkH (i := 0) (v := ?v1) rfl (Or.inl ⟨by rfl, ?hy1⟩) h0 ?rest1
  case hy1 => (intro w' hS; (try dsimp only at hS); go_simp; try (with_reducible rfl))
  simp only [Act.put, sA, sB, sD, sE, sF]
  refine tkH (i := 1) (v := ?v2) rfl (Or.inl ⟨by rfl, ?hy2⟩) h0 ?rest2
  case hy2 => (intro w' hS; (try dsimp only at hS); go_simp; try (with_reducible rfl))
  simp only [Act.put, sZ]
  refine tkH (i := 2) (v := ?v3) rfl (Or.inl ⟨by rfl, ?hy3⟩) h0 ?rest3
  case hy3 => (intro w' hS; (try dsimp only at hS); go_simp; try (with_reducible rfl))
  simp only [Act.put, sZ]
  refine tkH (i := 3) (v := ?v4) rfl (Or.inl ⟨by rfl, ?hy4⟩) h0 ?rest4
  case hy4 => (intro w' hS; (try dsimp only at hS); go_simp; try (with_reducible rfl))
  simp only [Act.put, sZ]
  refine tkH (i := 5) (v := (.agg x.cs)) rfl (Or.inl ⟨by rfl, fun w' hS => yld_loadL _ rfl _ rfl hS.1⟩) h0 ?_
  simp only [Act.put, sZ]
  refine tkH (i := 7) (v := (.agg y.cs)) rfl (Or.inl ⟨by rfl, fun w' hS => yld_loadL _ rfl _ rfl hS.2⟩) h0 ?_
  simp only [Act.put, sZ]
  refine wpAnyH_ready (rs := [4]) (by kernel_rfl) (by simp) (AllReadyH.cons rfl (fun K hK => ?_) AllReadyH.nil)
  rw [if_pos (by rfl)]
  go_simp
  refine (CL.out _ (KS.out _ G4.out).1 (KS.out _ G4.out).2).mono ?_
  rintro e w5 ⟨rfl, hw5⟩
  rw [hw5]
  clear hw5
  go_simp
  refine hK.out _ _ (KS.out _ G4.out) (fun h0_1 => ?_)
  clear hK K h0
  refine wpAnyH_ready (rs := [6]) (by kernel_rfl) (by simp) (AllReadyH.cons rfl (fun K hK => ?_) AllReadyH.nil)
  rw [if_pos (by rfl)]
  go_simp
  refine (LX.out _).mono ?_
  rintro e w6 ⟨rfl, hg⟩
  have G6 := Lib.hid (G4.out.trans hg)
  clear hg
  go_simp
  refine hK.out _ _ (KS.out _ G6.out) (fun h0_2 => ?_)
  clear hK K h0_1
  refine wpAnyH_ready (rs := [8]) (by kernel_rfl) (by simp) (AllReadyH.cons rfl (fun K hK => ?_) AllReadyH.nil)
  rw [if_pos (by rfl)]
  go_simp
  refine (LY.out _).mono ?_
  rintro e w8 ⟨rfl, hg⟩
  have G8 := Lib.hid (G6.out.trans hg)
  clear hg
  go_simp
  refine hK.out _ _ (KS.out _ G8.out) (fun h0_3 => ?_)
  clear hK K h0_2
  refine wpAnyH_ready (rs := [9]) (by kernel_rfl) (by simp) (AllReadyH.cons rfl (fun K hK => ?_) AllReadyH.nil)
  rw [if_pos (by rfl)]
  go_simp
  refine (CI.out _).mono ?_
  rintro e w5 ⟨rfl, hw5⟩
  rw [hw5]
  clear hw5
  go_simp
  refine hK.out _ _ (KS.out _ G8.out) (fun h0_4 => ?_)
  clear hK K h0_3
  refine wpAnyH_ready (rs := [10]) (by kernel_rfl) (by simp) (AllReadyH.cons rfl (fun K hK => ?_) AllReadyH.nil)
  rw [if_pos (by rfl)]
  go_simp
  obtain ⟨w9, hw9⟩ : ∃ w9, w9 = w8.alloc (.cells #[.int .i64 c, .int .i64 k] 3) := ⟨_, rfl⟩
  have G9 := Lib.hid (show Gw w0 w9 by rw [hw9]; exact G8.out.trans (Gw.alloc _ _))
  have C0 := Lib.hid (show w9.cell? ⟨w8.heap.size, 0, none⟩ = some (.int .i64 c) by rw [hw9]; go_simp)
  have C1 := Lib.hid (show w9.cell? ⟨w8.heap.size, 1, none⟩ = some (.int .i64 k) by rw [hw9]; go_simp)
  rw [← hw9]
  clear hw9
  go_simp
  refine hK.out _ _ (KS.out _ G9.out) (fun h0_5 => ?_)
  clear hK K h0_4
  refine wpAnyH_ready (rs := [11]) (by kernel_rfl) (by simp) (AllReadyH.cons rfl (fun K hK => ?_) AllReadyH.nil)
  rw [if_pos (by rfl)]
  go_simp
  refine (OR.out w9 w8.heap.size C0.out C1.out).mono ?_
  rintro e w5 ⟨rfl, hw5⟩
  rw [hw5]
  clear hw5
  go_simp
  refine hK.out _ _ (KS.out _ G9.out) (fun h0_6 => ?_)
  clear hK K h0_5
  refine tkH (i := 12) (v := ?v7) rfl (Or.inl ⟨by rfl, ?hy7⟩) h0_6 ?rest7
  case hy7 => (intro w' hS; (try dsimp only at hS); go_simp; try (with_reducible rfl))
  simp only [Act.put, sZ]
  refine wpAnyH_done (by kernel_rfl) ?_ _
  go_wp2_with fail
  go_ret
  exact ⟨ret_int HR.out, E0.out.trans G9.out⟩
end Go.Proofs.YtbhaoaobhgilkaaGreat

namespace Go.Proofs.YtbhaoaobhgilkaaGreat
open Go.RowKit Go.Sort

theorem itemsA (d : Nat) (l m : List Int) (w : World) : ∀ is : List Nat, (∀ i ∈ is, i < l.length ∧ i < m.length) →
    (Op.eqItems (d + 1) 2 1 (avs l) (avs m) is).run Tryz.prog w = .ok (is.all fun i => gA l i == gA m i) w := by
  intro is
  have hp : Tryz.prog.plainKey 2 = true := by kernel_rfl
  induction is with
  | nil => intro _; simp [Op.eqItems]
  | cons i is ih =>
    intro h
    obtain ⟨h1, h2⟩ := h i (by simp)
    have p1 : (part 2 (avs l) (i * 1)).run Tryz.prog w = .ok (.int .i64 (gA l i)) w := run_part_plain w hp (by simp [avs, gA, h1])
    have p2 : (part 2 (avs m) (i * 1)).run Tryz.prog w = .ok (.int .i64 (gA m i)) w := run_part_plain w hp (by simp [avs, gA, h2])
    have p3 := run_equalIn_int (P := Tryz.prog) (w := w) d 2 .i64 .i64 (gA l i) (gA m i) Tryz.underlying2
    simp only [Op.eqItems, Sem.run_bind, p1, p2, p3, Result.andThen_ok, List.all_cons]
    cases gA l i == gA m i
    · simp
    · simpa using ih (fun j hj => h j (by simp [hj]))

theorem all_eqA (N : Nat) (l m : List Int) (hl : l.length = N) (hm : m.length = N) : ((List.range N).all fun i => gA l i == gA m i) = decide (l = m) := by
  rw [Bool.eq_iff_iff, List.all_eq_true, decide_eq_true_eq]
  constructor
  · intro h
    exact gA_ext (by omega) fun i hi => by simpa using h i (List.mem_range.2 (by omega))
  · intro h i _
    rw [h]; simp

theorem eqA_in (d : Nat) (l m : List Int) (hl : l.length = 6) (hm : m.length = 6) (w : World) :
    (Op.equalIn (d + 1 + 1) 80 (.agg (avs l)) (.agg (avs m))).run Tryz.prog w = .ok (decide (l = m)) w := by
  obtain ⟨ie, hie⟩ : ∃ i, Tryz.prog.info? 2 = some i := by
    cases hq : Tryz.prog.info? 2 with
    | none => have := i64_size; simp [hq] at this
    | some i => exact ⟨i, rfl⟩
  have hc : Tryz.prog.cellsOf 2 = 1 := by kernel_rfl
  rw [run_equalIn_array (P := Tryz.prog) w (d + 1) (avs l) (avs m) coef_ty hie]
  rw [hc, itemsA d l m w (List.range 6) (fun i hi => by have := List.mem_range.1 hi; exact ⟨by omega, by omega⟩)]
  rw [all_eqA 6 l m hl hm]

theorem eqA_run (l m : List Int) (hl : l.length = 6) (hm : m.length = 6) (w : World) : (Op.equalIn 10000 80 (.agg (avs l)) (.agg (avs m))).run Tryz.prog w = .ok (decide (l = m)) w := eqA_in 9998 l m hl hm w

theorem eqlA (l m : List Int) (hl : l.length = 6) (hm : m.length = 6) (w : World) : (binOp .eql 80 (.agg (avs l)) (.agg (avs m))).run Tryz.prog w = .ok (.bool (decide (l = m))) w := by
  rw [run_eql_struct, eqA_run l m hl hm w]; rfl

theorem neqA (l m : List Int) (hl : l.length = 6) (hm : m.length = 6) (w : World) : (binOp .neq 80 (.agg (avs l)) (.agg (avs m))).run Tryz.prog w = .ok (.bool (!decide (l = m))) w := by
  rw [run_neq_struct, eqA_run l m hl hm w]; rfl

theorem wp_eqlA {w : World} {o : Oper} {a : Act} {K : Act → World → Prop} {Q : Exit → Act → World → Prop} (s t : Operand) (r : TypeId) (ho : o.op = .binOp .eql 80 s t r) (l m : List Int) (hs : a.eval s = .agg (avs l)) (ht : a.eval t = .agg (avs m)) (hl : l.length = 6) (hm : m.length = 6)
    (h : K (a.put o.dst (.bool (decide (l = m)))) w) : o.wp Tryz.prog a w K Q := by
  have hv := eqlA l m hl hm w
  have hg : (eqGuard .eql 80 s t (.agg (avs l)) (.agg (avs m))).run Tryz.prog w = .ok () w := run_eqGuard_agg (P := Tryz.prog) w .eql _ s t _ _ (by kernel_rfl)
  generalize avs l = V at *
  generalize avs m = U at *
  generalize decide (l = m) = b at *
  unfold Oper.wp execOp
  simp only [ho, hs, ht, Sem.run_bind, Sem.run_pure, hv, hg, Result.andThen_ok]
  exact h

theorem wpl_eqlA {w : World} {ops : Array Oper} {rest : List Oper} {o : Oper} {a : Act} {Q : Exit → Act → World → Prop} (hgd : o.guard = none) (s t : Operand) (r : TypeId) (ho : o.op = .binOp .eql 80 s t r) (l m : List Int) (hs : a.eval s = .agg (avs l)) (ht : a.eval t = .agg (avs m)) (hl : l.length = 6) (hm : m.length = 6)
    (h : wpList Tryz.prog ops Q rest (a.put o.dst (.bool (decide (l = m)))) w) : wpList Tryz.prog ops Q (o :: rest) a w :=
  wpList_plain hgd fun _ hK => wp_eqlA s t r ho l m hs ht hl hm (hK _ _ h)

theorem wp_neqA {w : World} {o : Oper} {a : Act} {K : Act → World → Prop} {Q : Exit → Act → World → Prop} (s t : Operand) (r : TypeId) (ho : o.op = .binOp .neq 80 s t r) (l m : List Int) (hs : a.eval s = .agg (avs l)) (ht : a.eval t = .agg (avs m)) (hl : l.length = 6) (hm : m.length = 6)
    (h : K (a.put o.dst (.bool (!decide (l = m)))) w) : o.wp Tryz.prog a w K Q := by
  have hv := neqA l m hl hm w
  have hg : (eqGuard .neq 80 s t (.agg (avs l)) (.agg (avs m))).run Tryz.prog w = .ok () w := run_eqGuard_agg (P := Tryz.prog) w .neq _ s t _ _ (by kernel_rfl)
  generalize avs l = V at *
  generalize avs m = U at *
  generalize decide (l = m) = b at *
  unfold Oper.wp execOp
  simp only [ho, hs, ht, Sem.run_bind, Sem.run_pure, hv, hg, Result.andThen_ok]
  exact h

theorem wpl_neqA {w : World} {ops : Array Oper} {rest : List Oper} {o : Oper} {a : Act} {Q : Exit → Act → World → Prop} (hgd : o.guard = none) (s t : Operand) (r : TypeId) (ho : o.op = .binOp .neq 80 s t r) (l m : List Int) (hs : a.eval s = .agg (avs l)) (ht : a.eval t = .agg (avs m)) (hl : l.length = 6) (hm : m.length = 6)
    (h : wpList Tryz.prog ops Q rest (a.put o.dst (.bool (!decide (l = m)))) w) : wpList Tryz.prog ops Q (o :: rest) a w :=
  wpList_plain hgd fun _ hK => wp_neqA s t r ho l m hs ht hl hm (hK _ _ h)

set_option maxRecDepth 20000 in
set_option maxHeartbeats 1000000 in
theorem tidy2_any (x y : Ln) (w : World) (hx : x.a.length = 6) (hy : y.a.length = 6) :
    Calls Tryz.prog 130 #[.agg x.cs, .agg y.cs] w (Made (.bool (decide (x.a = y.a))) w) := by
  obtain ⟨w0, hw0⟩ : ∃ w0, w0 = (w.alloc (.cells x.cs 82)).alloc (.cells y.cs 82) := ⟨_, rfl⟩
  have K0 := Lib.hid (show Bk w0 w.heap.size x by rw [hw0]; exact (Bk.made w x hx).alloc _)
  have K1 := Lib.hid (show Bk w0 (w.heap.size + 1) y by rw [hw0]; have := Bk.made (w.alloc (.cells x.cs 82)) y hy; simpa using this)
  have E0 := Lib.hid (show Below w.heap.size w w0 by rw [hw0]; exact past_two (Below.refl _ _))
  have HX := Lib.hid hx
  have HY := Lib.hid hy
  clear hx hy
  go_enter Tryz.func130, Tryz.ntmps130
  go_upto_region 1 with (fail)
  rw [← hw0]
  clear hw0
  go_wp2_with (first | refine wpl_loadA rfl _ rfl _ rfl x K0.out ?_ | refine wpl_loadA rfl _ rfl _ rfl y K1.out ?_ | refine wpl_eqlA rfl _ _ _ rfl _ _ rfl rfl HX.out HY.out ?_)
  go_ret
  exact ⟨rfl, E0.out⟩

def LnAt (w : World) (p : Addr) (x : Ln) : Prop := x.a.length = 6 ∧ ∀ j v, x.cells[j]? = some v → w.cell? (p.add j) = some v

theorem LnAt.on {w w' : World} {p : Addr} {x : Ln} (h : LnAt w p x) (hb : Below w.heap.size w w') : LnAt w' p x := ⟨h.1, fun j v hv => kept hb (h.2 j v hv)⟩

theorem Bk.lnAt {w : World} {b : Nat} {x : Ln} (h : Bk w b x) : LnAt w ⟨b, 0, none⟩ x := ⟨h.2, fun j v hv => by rw [addr_add, Nat.zero_add, h.cell]; exact hv⟩

theorem ln_loadP {w : World} {p : Addr} {x : Ln} (h : LnAt w p x) : (loadVar 82 p).run Tryz.prog w = .ok (.agg x.cs) w := by
  have hc := run_loadCells_list (P := Tryz.prog) w p x.cells h.2
  rw [Ln.cells_len h.1] at hc
  have ha : (isAgg 82).run Tryz.prog w = .ok true w := by
    unfold isAgg; rw [Sem.run_bind, run_underlying Tryz.underlying82 w]; simp
  unfold loadVar
  rw [Sem.run_bind, ha, Result.andThen_ok, if_pos rfl, Sem.run_bind, size_of ln_size, Result.andThen_ok, Sem.run_bind, hc]
  rfl

theorem ln_loadPt {w : World} {p : Addr} {x : Ln} (h : LnAt w p x) : (Instr.loadAt 82 (.pointer (some p))).run Tryz.prog w = .ok (.agg x.cs) w := by
  simp only [Instr.loadAt, Instr.sureAddr, Sem.run_bind, Sem.run_pure, Result.andThen_ok, ln_loadP h]

theorem yld_loadP {o : Oper} {a : Act} {w : World} (s : Operand) (ho : o.op = .load 82 s) (p : Addr) (hs : a.eval s = .pointer (some p)) {x : Ln} (hx : LnAt w p x) : (execOp a.eval o).run Tryz.prog w = .ok (.value (.agg x.cs)) w := by
  have h := ln_loadPt hx
  generalize x.cs = V at *
  unfold execOp
  simp only [ho, hs, Sem.run_bind, Sem.run_pure, h, Result.andThen_ok]

theorem wp_loadP {w : World} {o : Oper} {a : Act} {K : Act → World → Prop} {Q : Exit → Act → World → Prop} (s : Operand) (ho : o.op = .load 82 s) (p : Addr) (hs : a.eval s = .pointer (some p)) (x : Ln) (hx : LnAt w p x)
    (h : K (a.put o.dst (.agg x.cs)) w) : o.wp Tryz.prog a w K Q := by
  have hv := ln_loadP hx
  generalize x.cs = V at *
  unfold Oper.wp execOp
  simp only [ho, hs, Instr.loadAt, Instr.sureAddr, Sem.run_bind, Sem.run_pure, Result.andThen_ok, hv]
  exact h

theorem wpl_loadP {w : World} {ops : Array Oper} {rest : List Oper} {o : Oper} {a : Act} {Q : Exit → Act → World → Prop} (hgd : o.guard = none) (s : Operand) (ho : o.op = .load 82 s) (p : Addr) (hs : a.eval s = .pointer (some p)) (x : Ln) (hx : LnAt w p x)
    (h : wpList Tryz.prog ops Q rest (a.put o.dst (.agg x.cs)) w) : wpList Tryz.prog ops Q (o :: rest) a w :=
  wpList_plain hgd fun _ hK => wp_loadP s ho p hs x hx (hK _ _ h)

def RdL (w : World) (ao : Option Addr) (l : List Ln) : Prop := ∀ t, ∀ h : t < l.length, ∃ a, ao = some a ∧ LnAt w (a.add (t * 8)) l[t]

theorem RdL.on {w w' : World} {ao : Option Addr} {l : List Ln} (h : RdL w ao l) (hb : Below w.heap.size w w') : RdL w' ao l := fun t ht => by
  obtain ⟨a, e, c⟩ := h t ht
  exact ⟨a, e, c.on hb⟩

theorem RdL.nil (w : World) (ao : Option Addr) : RdL w ao [] := fun t h => by simp at h

def OwnL (w : World) (B : Nat) (v : Value) (l : List Ln) : Prop := w.ownsRow B 82 8 v l.length (l.flatMap Ln.cells) ∧ ∀ x ∈ l, x.a.length = 6

theorem OwnL.nil (w : World) (B : Nat) : OwnL w B (.slice none 0 0) [] := ⟨World.ownsRow_nil w B _ _, fun x h => by simp at h⟩

theorem OwnL.on {w w' : World} {B : Nat} {v : Value} {l : List Ln} (h : OwnL w B v l) (hb : Below w.heap.size w w') : OwnL w' B v l := by
  have hg : w.grownBy w' none := ⟨hb.os, hb.tape, hb.output, hb.size, fun k hk _ => hb.block k hk⟩
  exact ⟨World.ownsRow.kept h.1 hg (by cases v.ownBlock <;> simp), h.2⟩

theorem flat_at {l : List Ln} (hl : ∀ x ∈ l, x.a.length = 6) {t : Nat} (ht : t < l.length) {j : Nat} (hj : j < 8) : (l.flatMap Ln.cells)[t * 8 + j]? = (l[t]).cells[j]? := by
  induction l generalizing t with
  | nil => simp at ht
  | cons x l ih =>
    have hx := Ln.cells_len (hl x (by simp))
    rw [List.flatMap_cons]
    cases t with
    | zero => rw [List.getElem?_append_left (by omega)]; simp
    | succ t =>
      rw [List.getElem?_append_right (by omega), show (t + 1) * 8 + j - x.cells.length = t * 8 + j by omega]
      simpa using ih (fun y hy => hl y (by simp [hy])) (t := t) (by simpa using ht)

theorem flat_len {l : List Ln} (hl : ∀ x ∈ l, x.a.length = 6) : (l.flatMap Ln.cells).length = l.length * 8 := by
  induction l with
  | nil => rfl
  | cons x l ih => rw [List.flatMap_cons, List.length_append, Ln.cells_len (hl x (by simp)), ih fun y hy => hl y (by simp [hy]), List.length_cons]; omega

end Go.Proofs.YtbhaoaobhgilkaaGreat
