/- slices.CompactFunc at lines. -/
import Derived.Test.YtbhaoaobhgilkaaGreatWm3
import Derived.Test.YtbhaoaobhgilkaaGreatWm4

namespace Go.Proofs.YtbhaoaobhgilkaaGreat
open Go.RowKit Go.Sort

def cptN (l : List Ln) : Nat → List Ln
  | 0 => []
  | t + 1 => cptN l t ++ (if h : t < l.length then (if 0 < t ∧ (l[t]).a = (l.getD (t - 1) ln0).a then [] else [l[t]]) else [])

theorem cptN_keep {l : List Ln} {t : Nat} (h : t < l.length) (hn : ¬ (0 < t ∧ (l[t]).a = (l.getD (t - 1) ln0).a)) : cptN l (t + 1) = cptN l t ++ [l[t]] := by
  simp only [cptN]; rw [dif_pos h, if_neg hn]

theorem cptN_drop {l : List Ln} {t : Nat} (h : t < l.length) (hn : 0 < t ∧ (l[t]).a = (l.getD (t - 1) ln0).a) : cptN l (t + 1) = cptN l t := by
  simp only [cptN]; rw [dif_pos h, if_pos hn, List.append_nil]

theorem cptN_len (l : List Ln) (t : Nat) : (cptN l t).length ≤ t := by
  induction t with
  | zero => simp [cptN]
  | succ t ih =>
    simp only [cptN, List.length_append]
    split
    · split <;> simp <;> omega
    · simp; omega

def Rw (w : World) (b : Nat) (l : List Ln) : Prop := (∀ i, ∀ h : i < l.length, LnAt w ⟨b, i * 8, none⟩ l[i]) ∧ ∀ j, j < l.length * 8 → (w.cell? ⟨b, j, none⟩).isSome = true ∧ w.frozen? ⟨b, j, none⟩ = false

theorem Rw.on {w w' : World} {b : Nat} {l : List Ln} (h : Rw w b l) (hb : Below w.heap.size w w') (hlt : b < w.heap.size) : Rw w' b l :=
  ⟨fun i hi => (h.1 i hi).on hb, fun j hj => by
    rw [hb.cell (p := ⟨b, j, none⟩) hlt, hb.frozen (p := ⟨b, j, none⟩) hlt]; exact h.2 j hj⟩

theorem Rw.set {w : World} {b : Nat} {l : List Ln} (h : Rw w b l) {i : Nat} (hi : i < l.length) {x : Ln} (hx : x.a.length = 6) : Rw (w.setCells b (i * 8) x.cells) b (l.set i x) := by
  have hc := Ln.cells_len hx
  refine ⟨fun k hk => ?_, fun j hj => ?_⟩
  · simp only [List.length_set] at hk
    by_cases e : i = k
    · subst e
      rw [List.getElem_set_self]
      refine ⟨hx, fun j v hv => ?_⟩
      have hj : j < 8 := by
        by_cases q : j < 8
        · exact q
        · rw [List.getElem?_eq_none (by omega)] at hv; cases hv
      rw [addr_add, World.cell?_setCells_in b x.cells (i * 8) w (fun j hj => (h.2 _ (by omega)).1) j (by omega)]
      rw [← hv, List.getElem?_eq_getElem (by omega)]
    · rw [List.getElem_set_ne e]
      have hk' := h.1 k hk
      refine ⟨hk'.1, fun j v hv => ?_⟩
      have hj : j < 8 := by
        by_cases q : j < 8
        · exact q
        · rw [List.getElem?_eq_none (by rw [Ln.cells_len hk'.1]; omega)] at hv; cases hv
      have := hk'.2 j v hv
      rw [addr_add] at this ⊢
      rw [World.cell?_setCells_out b x.cells (i * 8) w _ (fun _ _ => by show k * 8 + j < i * 8 ∨ i * 8 + x.cells.length ≤ k * 8 + j; omega)]
      exact this
  · simp only [List.length_set] at hj
    have := h.2 j hj
    rw [World.frozen?_setCells]
    exact ⟨World.isSome_setCells b _ _ _ _ this.1, this.2⟩

theorem Rw.take {w : World} {b : Nat} {l m : List Ln} (h : Rw w b (l ++ m)) : Rw w b l :=
  ⟨fun i hi => by have := h.1 i (by simp; omega); rwa [List.getElem_append_left hi] at this, fun j hj => h.2 j (by simp; omega)⟩

theorem Rw.behind {w : World} {b : Nat} {l : List Ln} (h : Rw w b l) {o : Nat} (ho : l.length * 8 ≤ o) (vs : List Value) : Rw (w.setCells b o vs) b l := by
  refine ⟨fun k hk => ⟨(h.1 k hk).1, fun j v hv => ?_⟩, fun j hj => ?_⟩
  · have hj : j < 8 := by
      by_cases q : j < 8
      · exact q
      · rw [List.getElem?_eq_none (by rw [Ln.cells_len (h.1 k hk).1]; omega)] at hv; cases hv
    have := (h.1 k hk).2 j v hv
    rw [addr_add] at this ⊢
    rw [World.cell?_setCells_out b vs o w _ (fun _ _ => by show k * 8 + j < o ∨ _; omega)]
    exact this
  · rw [World.frozen?_setCells]
    exact ⟨World.isSome_setCells b _ _ _ _ (h.2 j hj).1, (h.2 j hj).2⟩

theorem Below.setCells {B : Nat} {w : World} {b : Nat} (hle : B ≤ b) : ∀ (vs : List Value) (o : Nat) (w' : World), Below B w w' → Below B w (w'.setCells b o vs) := by
  intro vs
  induction vs with
  | nil => intro o w' h; exact h
  | cons v vs ih => intro o w' h; exact ih _ _ (h.setCell hle v)

theorem cells_one (x : Ln) : ∀ v ∈ x.cells, v.oneCell' = true := by
  intro v hv
  simp [Ln.cells] at hv
  rcases hv with ⟨y, _, rfl⟩ | rfl | rfl <;> rfl

theorem run_clearL (w : World) (b o n c : Nat) (hn : 0 < n) (hr : ∀ j, j < n * 8 → (w.cell? ⟨b, o + j, none⟩).isSome = true ∧ w.frozen? ⟨b, o + j, none⟩ = false) :
    ∃ vs, vs.length = n * 8 ∧ ∀ ty, (Builtin.clear_ #[66] ty #[.slice (some ⟨b, o, none⟩) n c]).run Tryz.prog w = .ok (.tuple #[]) (w.setCells b o vs) := by
  obtain ⟨vs, hvs⟩ : ∃ vs, vs = (Builtin.zeroCells ln0.cs n).toList := ⟨_, rfl⟩
  have hl : vs.length = n * 8 := by rw [hvs]; simp [Builtin.zeroCells, Ln.size (x := ln0) rfl]
  have h1 : ∀ v ∈ vs, v.oneCell' = true := by
    intro v hv
    rw [hvs] at hv
    simp only [Builtin.zeroCells, Array.toList_map, List.mem_map] at hv
    obtain ⟨i, _, hi⟩ := hv
    have q : ∀ j, j < 8 → (ln0.cs[j]!).oneCell' = true := by decide
    rw [← hi]
    exact q _ (Nat.mod_lt _ (by decide))
  have hst := run_storeCells_cells (P := Tryz.prog) b o vs 0 w (fun j hj => by simpa using (hr j (by omega)).1) (fun j hj => by simpa using (hr j (by omega)).2) h1
  simp only [Nat.add_zero] at hst
  refine ⟨vs, hl, fun ty => ?_⟩
  have hz := ln_zero w
  generalize ln0.cs = Z at *
  obtain ⟨m, rfl⟩ : ∃ m, n = m + 1 := ⟨n - 1, by omega⟩
  simp only [Builtin.clear_]
  simp [hz, Value.cells, ← hvs, hst]

theorem getD_at {l : List Ln} {t : Nat} (h : t < l.length) : l.getD t ln0 = l[t] := by simp [h]

def rowC (l : List Ln) (m : Nat) : List Ln := cptN l m ++ l.drop (cptN l m).length

theorem rowC_len (l : List Ln) {m : Nat} (h : m ≤ l.length) : (rowC l m).length = l.length := by
  have := cptN_len l m
  simp [rowC]; omega

theorem rowC_at {l : List Ln} {m i : Nat} (h : (cptN l m).length ≤ i) (hi : i < l.length) (hm : m ≤ l.length) : (rowC l m)[i]'(by rw [rowC_len l hm]; exact hi) = l[i] := by
  simp only [rowC]
  rw [List.getElem_append_right h, List.getElem_drop]
  congr 1; omega

theorem rowC_set {l : List Ln} {m : Nat} (hm : m < l.length) (hk : cptN l (m + 1) = cptN l m ++ [l[m]]) : (rowC l m).set (cptN l m).length l[m] = rowC l (m + 1) := by
  have hl := cptN_len l m
  simp only [rowC, hk]
  rw [List.set_append_right _ _ (Nat.le_refl _), Nat.sub_self, List.length_append, List.length_singleton, List.append_assoc]
  congr 1
  rw [List.drop_eq_getElem_cons (show (cptN l m).length < l.length by omega)]
  rfl

theorem cptN_same {l : List Ln} : ∀ {t : Nat}, t ≤ l.length → (∀ i, ∀ _h : i < t, ∀ q : i < l.length, ¬ (0 < i ∧ (l[i]).a = (l.getD (i - 1) ln0).a)) → cptN l t = l.take t
  | 0, _, _ => by simp [cptN]
  | t + 1, h, hn => by
    rw [cptN_keep (show t < l.length by omega) (hn t (by omega) (by omega)), cptN_same (t := t) (by omega) (fun i hi q => hn i (by omega) q), List.take_succ_eq_append_getElem]

set_option maxRecDepth 20000 in
set_option maxHeartbeats 4000000 in
theorem compact_any (l : List Ln) (b cap : Nat) (w : World) (hl : l.length ≤ 100000) (hcap : l.length ≤ cap) (_hcm : cap ≤ 9223372036854775807) (hR : Rw w b l) (hb : b < w.heap.size) (h6 : ∀ x ∈ l, x.a.length = 6) :
    Calls Tryz.prog 129 #[.slice (some ⟨b, 0, none⟩) l.length cap, .func (.func 130) #[] #[]] w
      (fun e w' => e = .returned (.slice (some ⟨b, 0, none⟩) (cptN l l.length).length cap) ∧ Rw w' b (cptN l l.length) ∧ Below b w w') := by
  have EQ := Lib.hid (fun (x y : Ln) W (hx : x.a.length = 6) (hy : y.a.length = 6) => tidy2_any x y W hx hy)
  have H6 := Lib.hid h6
  have HR := Lib.hid hR
  obtain ⟨n, hn⟩ : ∃ n, n = l.length := ⟨_, rfl⟩
  have HN := Lib.hid hn
  have hle : n ≤ 100000 := by omega
  have hce : n ≤ cap := by omega
  rw [← hn]
  clear hl hcap hR h6 hn
  by_cases h2 : n < 2
  · have q : decide ((n : Int) < 2) = true := by simp; omega
    have HE := Lib.hid (show cptN l n = l from by
      rw [cptN_same (by rw [HN.out]; exact Nat.le_refl _) (fun i hi _ => by omega), HN.out, List.take_length])
    go_enter Tryz.func129, Tryz.ntmps129
    go_wp2_with fail
    go_ret
    exact ⟨by rw [HE.out, ← HN.out]; rfl, by rw [HE.out]; exact HR.out, Below.refl _ _⟩
  · have q : decide ((n : Int) < 2) = false := by simp; omega
    go_enter Tryz.func129, Tryz.ntmps129
    go_wp2_with fail
    go_loopw [5] (fun s wr => ∃ t : Nat, s = .int .i64 ((t : Int) + 1) ∧ t + 1 ≤ n ∧ Hid (Below w.heap.size w wr) ∧ Hid (∀ i, ∀ h : i < t + 1, ∀ q : i < l.length, ¬ (0 < i ∧ (l[i]).a = (l.getD (i - 1) ln0).a))) (fun s _ => n - (intOf s).toNat)
    case atStart => exact ⟨0, rfl, by omega, Lib.hid (Below.refl _ _), Lib.hid (fun i h q => by omega)⟩
    case round =>
      generalize wr = wo at *
      obtain ⟨s, rfl, ht, HB, HF⟩ := hrel
      by_cases htn : s + 1 < n
      · have hl1 : s + 1 < l.length := by have := HN.out; omega
        obtain ⟨x, hx⟩ : ∃ x, x = l[s + 1] := ⟨_, rfl⟩
        obtain ⟨y, hy⟩ : ∃ y, y = l[s]'(by omega) := ⟨_, rfl⟩
        have LX := Lib.hid (show LnAt wo ⟨b, (s + 1) * 8, none⟩ x from by rw [hx]; exact (HR.out.1 _ hl1).on HB.out)
        have LY := Lib.hid (show LnAt wo ⟨b, s * 8, none⟩ y from by rw [hy]; exact (HR.out.1 _ (by omega)).on HB.out)
        have HX := Lib.hid hx
        have HY := Lib.hid hy
        clear hx hy
        have g0 : (s : Int) + 1 < n := by omega
        have g1 : (0 : Int) ≤ (s : Int) + 1 := by omega
        have g2 : IntKind.i64.wrap (s : Int) = s := wrap_in _ (by omega) (by omega)
        have g3 : (s : Int) < n := by omega
        have g4 : (0 : Int) ≤ (s : Int) := by omega
        go_upto_region 6 with (fail)
        have KS := Lib.hid (show ∀ W, Below wo.heap.size wo W → LnAt W ⟨b, (s + 1) * 8, none⟩ x ∧ LnAt W ⟨b, s * 8, none⟩ y from fun W h => ⟨LX.out.on h, LY.out.on h⟩)
        obtain ⟨w4, hw4⟩ : ∃ w4, w4 = wo.drew := ⟨_, rfl⟩
        have G4 := Lib.hid (show Below wo.heap.size wo w4 by rw [hw4]; exact (Below.refl _ _).drew)
        refine wp_region_held_drew (S := (fun W => LnAt W ⟨b, (s + 1) * 8, none⟩ x ∧ LnAt W ⟨b, s * 8, none⟩ y)) (by kernel_rfl) (by rw [← hw4]; exact KS.out _ G4.out) (fun h0 => ?_)
        rw [← hw4] at h0 ⊢
        clear hw4
        refine tkH (i := 0) (v := ?v1) rfl (Or.inl ⟨by rfl, ?hy1⟩) h0 ?rest1
        case hy1 => (intro w' hS; (try dsimp only at hS); go_simp; try (with_reducible rfl))
        simp only [Act.put, sA, sB, sD, sE, sF]
        refine tkH (i := 1) (v := ?v2) rfl (Or.inl ⟨by rfl, ?hy2⟩) h0 ?rest2
        case hy2 => (intro w' hS; (try dsimp only at hS); go_simp; try (with_reducible rfl))
        simp only [Act.put, sZ]
        refine tkH (i := 2) (v := ?v3) rfl (Or.inl ⟨by rfl, ?hy3⟩) h0 ?rest3
        case hy3 => (intro w' hS; (try dsimp only at hS); go_simp; try (with_reducible rfl))
        simp only [Act.put, sZ]
        refine tkH (i := 3) (v := ?v4) rfl (Or.inl ⟨by rfl, ?hy4⟩) h0 ?rest4
        case hy4 => (intro w' hS; (try dsimp only at hS); go_simp; try (with_reducible rfl))
        simp only [Act.put, sZ]
        refine tkH (i := 4) (v := (.agg x.cs)) rfl (Or.inl ⟨by rfl, fun w' hS => yld_loadP _ rfl _ rfl hS.1⟩) h0 ?_
        simp only [Act.put, sZ]
        refine tkH (i := 5) (v := ?v6) rfl (Or.inl ⟨by rfl, ?hy6⟩) h0 ?rest6
        case hy6 => (intro w' hS; (try dsimp only at hS); go_simp; try (with_reducible rfl))
        simp only [Act.put, sZ]
        refine tkH (i := 6) (v := ?v7) rfl (Or.inl ⟨by rfl, ?hy7⟩) h0 ?rest7
        case hy7 => (intro w' hS; (try dsimp only at hS); go_simp; try (with_reducible rfl))
        simp only [Act.put, sZ]
        refine tkH (i := 7) (v := ?v8) rfl (Or.inl ⟨by rfl, ?hy8⟩) h0 ?rest8
        case hy8 => (intro w' hS; (try dsimp only at hS); go_simp; try (with_reducible rfl))
        simp only [Act.put, sZ]
        refine tkH (i := 8) (v := ?v9) rfl (Or.inl ⟨by rfl, ?hy9⟩) h0 ?rest9
        case hy9 => (intro w' hS; (try dsimp only at hS); go_simp; try (with_reducible rfl))
        simp only [Act.put, sZ]
        refine tkH (i := 9) (v := (.agg y.cs)) rfl (Or.inl ⟨by rfl, fun w' hS => yld_loadP _ rfl _ rfl hS.2⟩) h0 ?_
        simp only [Act.put, sZ]
        refine wpAnyH_ready (rs := [10]) (by kernel_rfl) (by simp) (AllReadyH.cons rfl (fun K hK => ?_) AllReadyH.nil)
        rw [if_pos (by rfl)]
        go_simp
        refine (EQ.out x y _ (KS.out _ G4.out).1.1 (KS.out _ G4.out).2.1).mono ?_
        rintro e w5 ⟨rfl, hb⟩
        have G5 := Lib.hid (below_on G4.out hb)
        clear hb
        go_simp
        refine hK.out _ _ (KS.out _ G5.out) (fun h0_1 => ?_)
        clear hK K h0
        refine wpAnyH_done (by kernel_rfl) ?_ _
        have hxy : decide (x.a = y.a) = decide ((l[s + 1]).a = (l.getD s ln0).a) := by rw [HX.out, HY.out, getD_at (by omega)]
        rw [hxy]
        have HW := Lib.hid (show Below w.heap.size w w5 from below_on HB.out G5.out)
        clear hxy g0 g1 g2 g3 g4
        by_cases he : (l[s + 1]).a = (l.getD s ln0).a
        · have D : decide ((l[s + 1]).a = (l.getD s ln0).a) = true := by simpa using he
          rw [D]
          have T0 := Lib.hid (cptN_same (show s + 1 ≤ l.length by omega) HF.out)
          have T1 := Lib.hid (show cptN l (s + 1 + 1) = l.take (s + 1) from by rw [cptN_drop hl1 ⟨by omega, he⟩]; exact T0.out)
          have TL := Lib.hid (show (cptN l (s + 1 + 1)).length = s + 1 from by rw [T1.out, List.length_take]; omega)
          have TR := Lib.hid (show rowC l (s + 1 + 1) = l from by simp only [rowC]; rw [TL.out, T1.out, List.take_append_drop])
          have R5 := Lib.hid (show Rw w5 b (rowC l (s + 1 + 1)) from by rw [TR.out]; exact HR.out.on HW.out hb)
          have B5 := Lib.hid (show Below b w w5 from ⟨HW.out.os, HW.out.tape, HW.out.output, HW.out.size, fun k hk => HW.out.block k (by omega)⟩)
          clear D he HF
          go_upto_region 9 with (fail)
          go_loopw [5, 7] (fun p q wr => ∃ k u : Nat, p = .int .i64 u ∧ q = .int .i64 ((k : Int) + 1) ∧ s + 1 + (k + 1) ≤ n ∧ 1 ≤ u ∧ u + 1 ≤ s + 1 + (k + 1) ∧ Hid (u = (cptN l (s + 1 + (k + 1))).length) ∧ Hid (Rw wr b (rowC l (s + 1 + (k + 1)))) ∧ Hid (Below b w wr) ∧ Hid (w.heap.size ≤ wr.heap.size)) (fun _ q _ => n - (intOf q).toNat)
          case atStart => exact ⟨0, s + 1, by go_num, rfl, by omega, by omega, by omega, Lib.hid TL.out.symm, R5, B5, Lib.hid HW.out.size⟩
          case round =>
            clear R5 B5 HW T0 T1 TL TR LX LY HX HY G4 G5 KS
            clear h0_1
            generalize wr = wo at *
            obtain ⟨k, u, rfl, rfl, hk, hu0, hu, HU, HR1, HB1, HZ1⟩ := hrel
            by_cases hkn : s + 1 + (k + 1) < n
            · have hl2 : s + 1 + (k + 1) < l.length := by have := HN.out; omega
              have RL := Lib.hid (rowC_len l (show s + 1 + (k + 1) ≤ l.length by omega))
              obtain ⟨x2, hx2⟩ : ∃ x2, x2 = l[s + 1 + (k + 1)] := ⟨_, rfl⟩
              obtain ⟨y2, hy2⟩ : ∃ y2, y2 = l[s + 1 + k]'(by omega) := ⟨_, rfl⟩
              have LX := Lib.hid (show LnAt wo ⟨b, (s + 1) * 8 + (k + 1) * 8, none⟩ x2 from by
                have := HR1.out.1 (s + 1 + (k + 1)) (by rw [RL.out]; exact hl2)
                rw [rowC_at (by have := HU.out; omega) hl2 (by omega)] at this
                rw [hx2, show (s + 1) * 8 + (k + 1) * 8 = (s + 1 + (k + 1)) * 8 by omega]; exact this)
              have LY := Lib.hid (show LnAt wo ⟨b, (s + 1) * 8 + k * 8, none⟩ y2 from by
                have := HR1.out.1 (s + 1 + k) (by rw [RL.out]; omega)
                rw [rowC_at (by have := HU.out; omega) (by omega) (by omega)] at this
                rw [hy2, show (s + 1) * 8 + k * 8 = (s + 1 + k) * 8 by omega]; exact this)
              have HX := Lib.hid hx2
              have HY := Lib.hid hy2
              clear hx2 hy2
              have g0 : (k : Int) + 1 < ((n - (s + 1) : Nat) : Int) := by omega
              have g1 : (0 : Int) ≤ (k : Int) + 1 := by omega
              have g2 : IntKind.i64.wrap (k : Int) = k := wrap_in _ (by omega) (by omega)
              have g3 : (k : Int) < ((n - (s + 1) : Nat) : Int) := by omega
              have g4 : (0 : Int) ≤ (k : Int) := by omega
              go_upto_region 11 with (fail)
              have KS := Lib.hid (show ∀ W, Below wo.heap.size wo W → LnAt W ⟨b, (s + 1) * 8 + (k + 1) * 8, none⟩ x2 ∧ LnAt W ⟨b, (s + 1) * 8 + k * 8, none⟩ y2 from fun W h => ⟨LX.out.on h, LY.out.on h⟩)
              obtain ⟨w4, hw4⟩ : ∃ w4, w4 = wo.drew := ⟨_, rfl⟩
              have G4 := Lib.hid (show Below wo.heap.size wo w4 by rw [hw4]; exact (Below.refl _ _).drew)
              refine wp_region_held_drew (S := (fun W => LnAt W ⟨b, (s + 1) * 8 + (k + 1) * 8, none⟩ x2 ∧ LnAt W ⟨b, (s + 1) * 8 + k * 8, none⟩ y2)) (by kernel_rfl) (by rw [← hw4]; exact KS.out _ G4.out) (fun h0 => ?_)
              rw [← hw4] at h0 ⊢
              clear hw4
              refine tkH (i := 0) (v := ?v11) rfl (Or.inl ⟨by rfl, ?hy11⟩) h0 ?rest11
              case hy11 => (intro w' hS; (try dsimp only at hS); go_simp; try (with_reducible rfl))
              simp only [Act.put, sA, sB, sD, sE, sF]
              refine tkH (i := 1) (v := ?v12) rfl (Or.inl ⟨by rfl, ?hy12⟩) h0 ?rest12
              case hy12 => (intro w' hS; (try dsimp only at hS); go_simp; try (with_reducible rfl))
              simp only [Act.put, sZ]
              refine tkH (i := 2) (v := ?v13) rfl (Or.inl ⟨by rfl, ?hy13⟩) h0 ?rest13
              case hy13 => (intro w' hS; (try dsimp only at hS); go_simp; try (with_reducible rfl))
              simp only [Act.put, sZ]
              refine tkH (i := 3) (v := ?v14) rfl (Or.inl ⟨by rfl, ?hy14⟩) h0 ?rest14
              case hy14 => (intro w' hS; (try dsimp only at hS); go_simp; try (with_reducible rfl))
              simp only [Act.put, sZ]
              refine tkH (i := 4) (v := (.agg x2.cs)) rfl (Or.inl ⟨by rfl, fun w' hS => yld_loadP _ rfl _ rfl hS.1⟩) h0 ?_
              simp only [Act.put, sZ]
              refine tkH (i := 5) (v := ?v16) rfl (Or.inl ⟨by rfl, ?hy16⟩) h0 ?rest16
              case hy16 => (intro w' hS; (try dsimp only at hS); go_simp; try (with_reducible rfl))
              simp only [Act.put, sZ]
              refine tkH (i := 6) (v := ?v17) rfl (Or.inl ⟨by rfl, ?hy17⟩) h0 ?rest17
              case hy17 => (intro w' hS; (try dsimp only at hS); go_simp; try (with_reducible rfl))
              simp only [Act.put, sZ]
              refine tkH (i := 7) (v := ?v18) rfl (Or.inl ⟨by rfl, ?hy18⟩) h0 ?rest18
              case hy18 => (intro w' hS; (try dsimp only at hS); go_simp; try (with_reducible rfl))
              simp only [Act.put, sZ]
              refine tkH (i := 8) (v := ?v19) rfl (Or.inl ⟨by rfl, ?hy19⟩) h0 ?rest19
              case hy19 => (intro w' hS; (try dsimp only at hS); go_simp; try (with_reducible rfl))
              simp only [Act.put, sZ]
              refine tkH (i := 9) (v := (.agg y2.cs)) rfl (Or.inl ⟨by rfl, fun w' hS => yld_loadP _ rfl _ rfl hS.2⟩) h0 ?_
              simp only [Act.put, sZ]
              refine wpAnyH_ready (rs := [10]) (by kernel_rfl) (by simp) (AllReadyH.cons rfl (fun K hK => ?_) AllReadyH.nil)
              rw [if_pos (by rfl)]
              go_simp
              refine (EQ.out x2 y2 _ (KS.out _ G4.out).1.1 (KS.out _ G4.out).2.1).mono ?_
              rintro e w5 ⟨rfl, hb5⟩
              have G5 := Lib.hid (below_on G4.out hb5)
              clear hb5
              go_simp
              refine hK.out _ _ (KS.out _ G5.out) (fun h0_1 => ?_)
              clear hK K h0
              refine tkH (i := 11) (v := ?v21) rfl (Or.inl ⟨by rfl, ?hy21⟩) h0_1 ?rest21
              case hy21 => (intro w' hS; (try dsimp only at hS); go_simp; try (with_reducible rfl))
              simp only [Act.put, sZ]
              refine wpAnyH_done (by kernel_rfl) ?_ _
              have hxy : decide (x2.a = y2.a) = decide ((l[s + 1 + (k + 1)]).a = (l.getD (s + 1 + k) ln0).a) := by rw [HX.out, HY.out, getD_at (by omega)]
              rw [hxy]
              have B5 := Lib.hid (show Below b w w5 from ⟨G5.out.os.trans HB1.out.os, G5.out.tape.trans HB1.out.tape, G5.out.output.trans HB1.out.output, Nat.le_trans HB1.out.size G5.out.size, fun i hi => (G5.out.block i (by have := HZ1.out; omega)).trans (HB1.out.block i hi)⟩)
              have R5 := Lib.hid (show Rw w5 b (rowC l (s + 1 + (k + 1))) from HR1.out.on G5.out (by have := HZ1.out; omega))
              have Z5 := Lib.hid (show w.heap.size ≤ w5.heap.size from Nat.le_trans HZ1.out G5.out.size)
              have L5 := Lib.hid (show LnAt w5 ⟨b, (s + 1) * 8 + (k + 1) * 8, none⟩ x2 from LX.out.on G5.out)
              clear hxy g2 g3 g4
              by_cases he : (l[s + 1 + (k + 1)]).a = (l.getD (s + 1 + k) ln0).a
              · have D : decide ((l[s + 1 + (k + 1)]).a = (l.getD (s + 1 + k) ln0).a) = true := by simpa using he
                rw [D]
                have T1 := Lib.hid (show cptN l (s + 1 + (k + 1 + 1)) = cptN l (s + 1 + (k + 1)) from by rw [show s + 1 + (k + 1 + 1) = s + 1 + (k + 1) + 1 by omega, cptN_drop hl2 ⟨by omega, he⟩])
                clear he D
                go_wp2_with fail
                go_roundw
                case rel => exact ⟨k + 1, u, rfl, by go_num, by omega, hu0, by omega, Lib.hid (by rw [T1.out]; exact HU.out), Lib.hid (by have := R5.out; unfold rowC at this ⊢; rw [T1.out]; exact this), B5, Z5⟩
                case measure => simp [intOf]; omega
              · have D : decide ((l[s + 1 + (k + 1)]).a = (l.getD (s + 1 + k) ln0).a) = false := by simpa using he
                rw [D]
                have T1 := Lib.hid (show cptN l (s + 1 + (k + 1) + 1) = cptN l (s + 1 + (k + 1)) ++ [x2] from by rw [HX.out]; exact cptN_keep hl2 (fun h => he h.2))
                have X6 := Lib.hid (show x2.a.length = 6 from by rw [HX.out]; exact H6.out _ (List.getElem_mem _))
                have ul : u < (rowC l (s + 1 + (k + 1))).length := by rw [RL.out]; omega
                have HT := Lib.hid (show w5.there b (u * 8) x2.cs.size from fun j hj => by
                  rw [Ln.size X6.out] at hj
                  exact R5.out.2 (u * 8 + j) (by omega))
                have R6 := Lib.hid (show Rw (w5.setCells b (u * 8) x2.cells) b (rowC l (s + 1 + (k + 1) + 1)) from by
                  have := R5.out.set ul X6.out
                  rw [HU.out, HX.out, rowC_set hl2 (by rw [T1.out, HX.out]), ← HX.out, ← HU.out] at this
                  exact this)
                have B6 := Lib.hid (Below.setCells (Nat.le_refl b) x2.cells (u * 8) _ B5.out)
                have Z6 := Lib.hid (show w.heap.size ≤ (w5.setCells b (u * 8) x2.cells).heap.size from by
                  have := (Below.setCells (Nat.zero_le b) x2.cells (u * 8) w5 (Below.refl 0 w5)).size
                  exact Nat.le_trans Z5.out this)
                have TU := Lib.hid (show u + 1 = (cptN l (s + 1 + (k + 1) + 1)).length from by rw [T1.out, List.length_append, ← HU.out]; rfl)
                have g5 : (u : Int) < (n : Int) := by omega
                clear he D ul
                go_wp2_with (first | refine wpl_loadP rfl _ rfl _ rfl x2 L5.out ?_ | refine wpList_store_mid rfl _ _ _ rfl b (u * 8) x2.cs rfl rfl HT.out (by rw [Ln.size X6.out]; exact ln_size) (Ln.one _) ?_)
                go_roundw
                case rel => exact ⟨k + 1, u + 1, by go_num, by go_num, by omega, by omega, by omega, Lib.hid (by rw [show s + 1 + (k + 1 + 1) = s + 1 + (k + 1) + 1 by omega]; exact TU.out), Lib.hid (by rw [show s + 1 + (k + 1 + 1) = s + 1 + (k + 1) + 1 by omega]; exact R6.out), B6, Z6⟩
                case measure => simp [intOf]; omega
            · have e : s + 1 + (k + 1) = n := by omega
              have g0 : ¬ (k : Int) + 1 < ((n - (s + 1) : Nat) : Int) := by omega
              have un : u < n := by omega
              have RL := Lib.hid (rowC_len l (show s + 1 + (k + 1) ≤ l.length by have := HN.out; omega))
              obtain ⟨vs, hvl, hcl⟩ := run_clearL wo b (u * 8) (n - u) (cap - u) (by omega) (fun j hj => HR1.out.2 (u * 8 + j) (by rw [RL.out, ← HN.out]; omega))
              rw [e] at HU HR1
              have R7 := Lib.hid (show Rw (wo.setCells b (u * 8) vs) b (cptN l n) from (show Rw wo b (cptN l n) from HR1.out.take).behind (by have := HU.out; omega) vs)
              have B7 := Lib.hid (Below.setCells (Nat.le_refl b) vs (u * 8) _ HB1.out)
              have HE := Lib.hid HU.out
              go_wp2_with fail
              go_ret
              exact ⟨by rw [← HE.out]; rfl, R7.out, B7.out⟩
        · have D : decide ((l[s + 1]).a = (l.getD s ln0).a) = false := by simpa using he
          rw [D]
          have HF' := Lib.hid (show ∀ i, ∀ h : i < s + 1 + 1, ∀ q : i < l.length, ¬ (0 < i ∧ (l[i]).a = (l.getD (i - 1) ln0).a) from fun i hi q => by
            by_cases e : i = s + 1
            · subst e; exact fun h => he h.2
            · exact HF.out i (by omega) q)
          clear he D
          go_wp2_with fail
          go_roundw
          case rel => exact ⟨s + 1, by go_num, by omega, HW, HF'⟩
          case measure => simp [intOf]; omega
      · have HE := Lib.hid (show cptN l n = l from by
          rw [cptN_same (by rw [HN.out]; exact Nat.le_refl _) (fun i hi q => HF.out i (by omega) q), HN.out, List.take_length])
        go_wp2_with fail
        go_ret
        exact ⟨by rw [HE.out, ← HN.out]; rfl, by rw [HE.out]; exact HR.out.on HB.out hb, ⟨HB.out.os, HB.out.tape, HB.out.output, HB.out.size, fun k hk => HB.out.block k (by omega)⟩⟩

set_option maxHeartbeats 1000000 in
theorem compact_nil (w : World) : Calls Tryz.prog 129 #[.slice none 0 0, .func (.func 130) #[] #[]] w (fun e w' => e = .returned (.slice none 0 0) ∧ w' = w) := by
  go_enter Tryz.func129, Tryz.ntmps129
  go_wp2_with fail
  go_ret
  exact ⟨rfl, rfl⟩
end Go.Proofs.YtbhaoaobhgilkaaGreat
