/- A part. -/
import Derived.Test.YtaegiihkgicdnaaGreatWl13

namespace Go.Proofs.YtaegiihkgicdnaaGreat
open Go.RowKit

abbrev Con := Int × Int × Int

def gc (cs : List Con) (k : Nat) : Con := cs.getD k (0, 0, 0)

def Rd3 (w : World) (a : Addr) (cs : List Con) : Prop := ∀ j, j < cs.length → w.cell? (a.add (j * 3)) = some (.int .i64 (gc cs j).1) ∧ w.cell? ⟨(a.add (j * 3)).block, (a.add (j * 3)).off + 1, none⟩ = some (.int .i64 (gc cs j).2.1) ∧ w.cell? ⟨(a.add (j * 3)).block, (a.add (j * 3)).off + 2, none⟩ = some (.int .i64 (gc cs j).2.2)

theorem Rd3.on {w w' : World} {a : Addr} {l : List Con} (h : Rd3 w a l) (hb : Below w.heap.size w w') : Rd3 w' a l := fun j hj => ⟨kept hb (h j hj).1, kept hb (h j hj).2.1, kept hb (h j hj).2.2⟩

theorem Rd3.st {w w3 w' : World} {a : Addr} {cs : List Con} {g c : Nat} {x : List Int} (h : Rd3 w a cs) (hb : Below w.heap.size w w3) (hg : w.heap.size ≤ g) (hs : St w3 g c x w') : Rd3 w' a cs := by
  intro j hj
  obtain ⟨h1, h2, h3⟩ := h j hj
  exact ⟨hs.cell (kept hb h1) (by have := World.block_lt_of_cell? w _ h1; omega), hs.cell (kept hb h2) (by have := World.block_lt_of_cell? w _ h2; omega), hs.cell (kept hb h3) (by have := World.block_lt_of_cell? w _ h3; omega)⟩

def okC (n : Nat) (c : Con) : Bool := decide (0 ≤ c.1 ∧ c.1 ≤ n ∧ 0 ≤ c.2.1 ∧ c.2.1 ≤ n) && lvB c.2.2

def anS (n : Nat) (cs : List Con) (x : List Int) (t : Nat) : List Int := x.set (Zo.ix n (gc cs t).1.toNat (gc cs t).2.1.toNat) (imin (Zo.At n x (gc cs t).1.toNat (gc cs t).2.1.toNat) (gc cs t).2.2)

def anL (n : Nat) (cs : List Con) (l : List Int) : List Int := (List.range cs.length).foldl (anS n cs) l

theorem anL_len (n : Nat) (cs : List Con) (l : List Int) : (anL n cs l).length = l.length := fold_len (fun x t => by simp [anS]) l _

def anE (n : Nat) (cs : List Con) (l : List Int) : Int := if cs.all (okC n) then cloE n (anL n cs l) else 2

theorem anE_bad {n : Nat} {cs : List Con} {l : List Int} {k : Nat} (hk : k < cs.length) (h : okC n (gc cs k) = false) : anE n cs l = 2 := by
  have : cs.all (okC n) = false := by
    rw [List.all_eq_false]
    exact ⟨cs[k], List.getElem_mem hk, by rw [show cs[k] = gc cs k by simp [gc, hk], h]; simp⟩
  unfold anE; rw [this]; rfl

theorem anE_ok {n : Nat} {cs : List Con} {l : List Int} (h : ∀ k, k < cs.length → okC n (gc cs k) = true) : anE n cs l = cloE n (anL n cs l) := by
  have : cs.all (okC n) = true := by
    rw [List.all_eq_true]
    intro x hx
    obtain ⟨k, hk, rfl⟩ := List.getElem_of_mem hx
    have := h k hk
    simpa [gc, hk] using this
  unfold anE; rw [this]; rfl

set_option maxRecDepth 20000 in
set_option maxHeartbeats 4000000 in
theorem an_any (n : Nat) (l : List Int) (a : Addr) (cap : Nat) (cs : List Con) (dao : Option Addr) (d : Addr) (dc : Nat) (w : World) (hn : n ≤ 10) (hl : l.length = (n + 1) * (n + 1)) (hR : Rd w a l) (hc : chkE n l = 0) (hD : Rd3 w d cs) (hdl : cs.length ≤ 1000) (hdo : cs ≠ [] → dao = some d) :
    Calls Tryz.prog 101 #[.agg #[.int .i64 n, .slice (some a) l.length cap], .slice dao cs.length dc] w (ZRes w n (Zo.clo n (anL n cs l)) (anE n cs l)) := by
  obtain ⟨cl, hcl⟩ : ∃ cl, cl = cs.length := ⟨_, rfl⟩
  have HCl := Lib.hid hcl
  rw [← hcl]
  have hcb : cl ≤ 1000 := by omega
  have HD := Lib.hid hD
  have HDO := Lib.hid (show 0 < cl → dao = some d from fun h => hdo (fun e => by rw [hcl, e] at h; simp at h))
  clear hD hcl hdl hdo
  obtain ⟨len, hlen⟩ : ∃ len, len = l.length := ⟨_, rfl⟩
  obtain ⟨w0, hw0⟩ : ∃ w0, w0 = (w.alloc (.cells #[.int .i64 n, .slice (some a) len cap] 36)).alloc (.cells #[.int .i64 0, .slice none 0 0] 36) := ⟨_, rfl⟩
  have bx : Two w0 w.heap.size (.int .i64 n) (.slice (some a) len cap) := by rw [hw0]; exact (Two.made _ _ _ _).alloc _
  have rs : Two w0 (w.heap.size + 1) (.int .i64 0) (.slice none 0 0) := by
    rw [hw0]
    have := Two.made (w.alloc (.cells #[.int .i64 n, .slice (some a) len cap] 36)) (.int .i64 0) (.slice none 0 0) 36
    simpa using this
  have z0 : w0.heap.size = w.heap.size + 2 := by rw [hw0]; simp
  have e0 : Below w.heap.size w w0 := by rw [hw0]; exact past_two (Below.refl _ _)
  have R0 := hR.on e0
  have CK : Hid (∀ W, Rd W a l → Calls Tryz.prog 39 #[.agg #[.int .i64 n, .slice (some a) len cap]] W (Made (.int .i64 0) W)) := Lib.hid fun W h => by have := check_any n l a cap W hn hl h; rw [hc, ← hlen] at this; exact this
  have CP : Hid (∀ W, Rd W a l → Calls Tryz.prog 93 #[.agg #[.int .i64 n, .slice (some a) len cap]] W (fun e w' => ∃ g c, e = .returned (.agg #[.int .i64 n, .slice (some ⟨g, 0, none⟩) len c]) ∧ W.heap.size ≤ g ∧ Own w' g c l ∧ Below W.heap.size W w')) := Lib.hid fun W h => by have := copied_any n l a cap W (by rw [hl]; exact dsq_pos n) (by rw [hl]; have := dsq_le hn; omega) h; rw [← hlen] at this; exact this
  have HR := Lib.hid R0
  have HL := Lib.hid hl
  have HLn := Lib.hid hlen
  have E0 := Lib.hid e0
  rw [← hlen]
  clear hR R0 hl hlen hc e0
  go_enter Tryz.func101, Tryz.ntmps101
  go_wp2_with fail
  rw [← hw0]
  clear hw0
  obtain ⟨b0, b1, b2, b3⟩ := bx.facts
  go_wp2_with fail
  refine (CK.out _ HR.out).mono ?_
  rintro e w1 ⟨rfl, hb1⟩
  clear b0 b1 b2 b3
  replace bx := bx.kept hb1
  replace rs := rs.kept hb1
  have HR1 := Lib.hid (HR.out.on hb1)
  have E1 := Lib.hid (below_on E0.out hb1)
  have z1 := hb1.size
  clear hb1 HR E0
  obtain ⟨b0, b1, b2, b3⟩ := bx.facts
  go_wp2_with fail
  clear b0 b1 b2 b3
  go_loopw [6] (fun s wr => ∃ t : Nat, t ≤ cl ∧ s = .int .i64 t ∧ Hid (∀ k, k < t → okC n (gc cs k) = true) ∧ Hid (Below w1.heap.size w1 wr)) (fun s _ => cl - (intOf s).toNat)
  case atStart => exact ⟨0, by omega, rfl, Lib.hid (fun k hk => by omega), Lib.hid (Below.refl _ _)⟩
  case round =>
    obtain ⟨t, ht, rfl, HK, HB⟩ := hrel
    obtain ⟨b0, b1, b2, b3⟩ := (bx.kept HB.out).facts
    by_cases htn : t < cl
    · have hdo := HDO.out (by omega)
      clear HDO
      subst hdo
      obtain ⟨d1, d2, d3⟩ := (HD.out.on (below_on E1.out HB.out)) t (by rw [← HCl.out]; exact htn)
      obtain ⟨q, hq⟩ : ∃ q, q = gc cs t := ⟨_, rfl⟩
      rw [← hq] at d1 d2 d3
      have HQ := Lib.hid hq
      clear hq
      obtain ⟨I, J, L⟩ := q
      simp only at d1 d2 d3
      have v9 := fun W => refLimValid_free L W
      by_cases i1 : I < 0
      · have D1 : decide (I < (0 : Int)) = true := by simpa using i1
        clear v9
        have HE := Lib.hid (anE_bad (n := n) (cs := cs) (l := l) (k := t) (by rw [← HCl.out]; exact htn) (by rw [← HQ.out]; unfold okC; simp; omega))
        go_wp2_with fail
        go_quiet (fail)
        clear d1 d2 d3 b0 b1 b2 b3
        obtain ⟨r0, r1, r2, r3⟩ := (rs.kept HB.out).facts
        go_wp2_with fail
        refine bodyPost_ret (v := .tuple #[.agg #[.int .i64 0, .slice none 0 0], .int .i64 2]) (by simp [results, Tryz.results101, go_sem, r0, r1]) rfl (ZRes.bad (zres_bad (N := 0) (l := []) ?_) HE.out)
        exact ((below_drewN (below_on E1.out HB.out) _).setCell (by show w.heap.size ≤ w.heap.size + 1; omega) _).setCell (by show w.heap.size ≤ w.heap.size + 1; omega) _
      have D1 : decide (I < (0 : Int)) = false := by simp; omega
      by_cases i2 : (n : Int) < I
      · have D2 : decide ((n : Int) < I) = true := by simpa using i2
        clear v9
        have HE := Lib.hid (anE_bad (n := n) (cs := cs) (l := l) (k := t) (by rw [← HCl.out]; exact htn) (by rw [← HQ.out]; unfold okC; simp; omega))
        go_wp2_with fail
        go_quiet (fail)
        clear d1 d2 d3 b0 b1 b2 b3
        obtain ⟨r0, r1, r2, r3⟩ := (rs.kept HB.out).facts
        go_wp2_with fail
        refine bodyPost_ret (v := .tuple #[.agg #[.int .i64 0, .slice none 0 0], .int .i64 2]) (by simp [results, Tryz.results101, go_sem, r0, r1]) rfl (ZRes.bad (zres_bad (N := 0) (l := []) ?_) HE.out)
        exact ((below_drewN (below_on E1.out HB.out) _).setCell (by show w.heap.size ≤ w.heap.size + 1; omega) _).setCell (by show w.heap.size ≤ w.heap.size + 1; omega) _
      have D2 : decide ((n : Int) < I) = false := by simp; omega
      by_cases j1 : J < 0
      · have D3 : decide (J < (0 : Int)) = true := by simpa using j1
        clear v9
        have HE := Lib.hid (anE_bad (n := n) (cs := cs) (l := l) (k := t) (by rw [← HCl.out]; exact htn) (by rw [← HQ.out]; unfold okC; simp; omega))
        go_wp2_with fail
        go_quiet (fail)
        clear d1 d2 d3 b0 b1 b2 b3
        obtain ⟨r0, r1, r2, r3⟩ := (rs.kept HB.out).facts
        go_wp2_with fail
        refine bodyPost_ret (v := .tuple #[.agg #[.int .i64 0, .slice none 0 0], .int .i64 2]) (by simp [results, Tryz.results101, go_sem, r0, r1]) rfl (ZRes.bad (zres_bad (N := 0) (l := []) ?_) HE.out)
        exact ((below_drewN (below_on E1.out HB.out) _).setCell (by show w.heap.size ≤ w.heap.size + 1; omega) _).setCell (by show w.heap.size ≤ w.heap.size + 1; omega) _
      have D3 : decide (J < (0 : Int)) = false := by simp; omega
      by_cases j2 : (n : Int) < J
      · have D4 : decide ((n : Int) < J) = true := by simpa using j2
        clear v9
        have HE := Lib.hid (anE_bad (n := n) (cs := cs) (l := l) (k := t) (by rw [← HCl.out]; exact htn) (by rw [← HQ.out]; unfold okC; simp; omega))
        go_wp2_with fail
        go_quiet (fail)
        clear d1 d2 d3 b0 b1 b2 b3
        obtain ⟨r0, r1, r2, r3⟩ := (rs.kept HB.out).facts
        go_wp2_with fail
        refine bodyPost_ret (v := .tuple #[.agg #[.int .i64 0, .slice none 0 0], .int .i64 2]) (by simp [results, Tryz.results101, go_sem, r0, r1]) rfl (ZRes.bad (zres_bad (N := 0) (l := []) ?_) HE.out)
        exact ((below_drewN (below_on E1.out HB.out) _).setCell (by show w.heap.size ≤ w.heap.size + 1; omega) _).setCell (by show w.heap.size ≤ w.heap.size + 1; omega) _
      have D4 : decide ((n : Int) < J) = false := by simp; omega
      cases lv : lvB L
      · have HLV := Lib.hid lv
        rw [lv] at v9
        have V9 := Lib.hid v9
        clear v9 lv
        have HE := Lib.hid (anE_bad (n := n) (cs := cs) (l := l) (k := t) (by rw [← HCl.out]; exact htn) (by rw [← HQ.out]; unfold okC; simp; intros; exact HLV.out))
        go_wp2_with fail
        go_quiet ((go_at_call 86; exact Calls.quiet_of_same (V9.out _)))
        clear d1 d2 d3 b0 b1 b2 b3
        obtain ⟨r0, r1, r2, r3⟩ := (rs.kept HB.out).facts
        go_wp2_with fail
        refine bodyPost_ret (v := .tuple #[.agg #[.int .i64 0, .slice none 0 0], .int .i64 2]) (by simp [results, Tryz.results101, go_sem, r0, r1]) rfl (ZRes.bad (zres_bad (N := 0) (l := []) ?_) HE.out)
        exact ((below_drewN (below_on E1.out HB.out) _).setCell (by show w.heap.size ≤ w.heap.size + 1; omega) _).setCell (by show w.heap.size ≤ w.heap.size + 1; omega) _
      · rw [lv] at v9
        have V9 := Lib.hid v9
        have HK2 := Lib.hid (show okC n (gc cs t) = true by rw [← HQ.out]; unfold okC; rw [lv]; simp; omega)
        clear v9 lv
        go_wp2_with fail
        go_quiet ((go_at_call 86; exact Calls.quiet_of_same (V9.out _)))
        clear d1 d2 d3 b0 b1 b2 b3
        go_wp2_with fail
        go_roundw
        case rel =>
          refine ⟨t + 1, by omega, by go_num, Lib.hid (fun k hk => ?_), Lib.hid (below_drewN HB.out _)⟩
          by_cases e : k = t
          · rw [e]; exact HK2.out
          · exact HK.out k (by omega)
        case measure => simp [intOf]; omega
    · have HAE := Lib.hid (anE_ok (n := n) (cs := cs) (l := l) (fun k hk => HK.out k (by rw [← HCl.out] at hk; omega)))
      have HOK := Lib.hid (show ∀ k, k < cl → okC n (gc cs k) = true from fun k hk => HK.out k (by omega))
      clear b0 b1 b2 b3
      replace bx := bx.kept HB.out
      replace rs := rs.kept HB.out
      replace HR1 := Lib.hid (HR1.out.on HB.out)
      replace E1 := Lib.hid (below_on E1.out HB.out)
      have z2' := HB.out.size
      clear HB HK
      obtain ⟨b0, b1, b2, b3⟩ := bx.facts
      go_wp2_with fail
      refine (CP.out _ HR1.out).mono ?_
      rintro e w2 ⟨g, c, rfl, hg, ho, hb2⟩
      clear b0 b1 b2 b3
      replace bx := bx.kept hb2
      replace rs := rs.kept hb2
      have E2 := Lib.hid (below_on E1.out hb2)
      have z2 := hb2.size
      clear hb2 E1 HR1
      obtain ⟨b0, b1, b2, b3⟩ := bx.facts
      obtain ⟨w3, hw3⟩ : ∃ w3, w3 = (w2.setCell ⟨w.heap.size, 0, none⟩ (.int .i64 n)).setCell ⟨w.heap.size, 1, none⟩ (.slice (some ⟨g, 0, none⟩) len c) := ⟨_, rfl⟩
      have bx3 : Two w3 w.heap.size (.int .i64 n) (.slice (some ⟨g, 0, none⟩) len c) := by rw [hw3]; exact bx.put _ _
      have rs3 : Two w3 (w.heap.size + 1) (.int .i64 0) (.slice none 0 0) := by rw [hw3]; exact rs.aside (by omega) _ _
      have O3 : Own w3 g c l := by rw [hw3]; exact put_far ho (by omega) _ _
      have E3 : Below w.heap.size w w3 := by rw [hw3]; exact (E2.out.setCell (by show w.heap.size ≤ w.heap.size; omega) _).setCell (by show w.heap.size ≤ w.heap.size; omega) _
      have S3 := Lib.hid (show St w3 g c l w3 from ⟨O3, World.grownBy.refl _ _⟩)
      have HE3 := Lib.hid E3
      clear ho O3 E3 E2 rs bx
      go_wp2_with fail
      rw [← hw3]
      clear hw3 b0 b1 b2 b3
      have KD := Lib.hid (show ∀ (t : Nat) (y : List Int) (w' : World), t < cl → St w3 g c y w' → w'.cell? (d.add (t * 3)) = some (.int .i64 (gc cs t).1) ∧ w'.cell? ⟨(d.add (t * 3)).block, (d.add (t * 3)).off + 1, none⟩ = some (.int .i64 (gc cs t).2.1) ∧ w'.cell? ⟨(d.add (t * 3)).block, (d.add (t * 3)).off + 2, none⟩ = some (.int .i64 (gc cs t).2.2) from
        fun t y w' h1 h2 => (HD.out.st HE3.out (by omega) h2) t (by rw [← HCl.out]; exact h1))
      have KS := Lib.hid (show ∀ (y : List Int) (w' : World), St w3 g c y w' → w'.cell? ⟨w.heap.size, 0, none⟩ = some (.int .i64 n) ∧ w'.cell? ⟨w.heap.size, 1, none⟩ = some (.slice (some ⟨g, 0, none⟩) len c) from
        fun y w' h => ⟨h.cell bx3.facts.1 (by simp; omega), h.cell bx3.facts.2.1 (by simp; omega)⟩)
      go_loopw [7] (fun s wr => ∃ (t : Nat) (x : List Int), t ≤ cl ∧ s = .int .i64 t ∧ x.length = len ∧ Hid (x = (List.range t).foldl (anS n cs) l) ∧ Hid (St w3 g c x wr)) (fun s _ => cl - (intOf s).toNat)
      case atStart => exact ⟨0, l, by omega, rfl, HLn.out.symm, Lib.hid rfl, S3⟩
      case round =>
        obtain ⟨t, x, ht, rfl, hx, HX, HT⟩ := hrel
        have bx4 := bx3.grown HT.out.2 (by omega)
        obtain ⟨b0, b1, b2, b3⟩ := bx4.facts
        have lx : x.length = (n + 1) * (n + 1) := by rw [hx, HLn.out, HL.out]
        by_cases htn : t < cl
        · have hdo := HDO.out (by omega)
          clear HDO
          subst hdo
          obtain ⟨d1, d2, d3⟩ := KD.out t _ _ htn HT.out
          obtain ⟨i, j, L, hq, hi, hj⟩ : ∃ (i j : Nat) (L : Int), gc cs t = ((i : Int), (j : Int), L) ∧ i ≤ n ∧ j ≤ n := by
            have := HOK.out t htn
            unfold okC at this
            simp only [Bool.and_eq_true, decide_eq_true_eq] at this
            obtain ⟨⟨p1, p2, p3, p4⟩, _⟩ := this
            refine ⟨(gc cs t).1.toNat, (gc cs t).2.1.toNat, (gc cs t).2.2, ?_, by omega, by omega⟩
            rw [Int.toNat_of_nonneg p1, Int.toNat_of_nonneg p3]
          have kd := fun (y : List Int) (w' : World) (h : St w3 g c y w') => KD.out t y w' htn h
          rw [hq] at d1 d2 d3 kd
          simp only at d1 d2 d3 kd
          have KD2 := Lib.hid kd
          have HS := Lib.hid (show anS n cs x t = x.set (Zo.ix n i j) (imin (Zo.At n x i j) L) by unfold anS; rw [hq]; simp)
          have AT : Hid (∀ w' : World, St w3 g c x w' → Calls Tryz.prog 85 #[.agg #[.int .i64 n, .slice (some ⟨g, 0, none⟩) len c], .int .i64 i, .int .i64 j] w' (fun e w' => e = .returned (.int .i64 (Zo.At n x i j)) ∧ St w3 g c x w')) :=
            Lib.hid fun w' h => by have := at_st (i := i) (j := j) hn hi hj lx h; rw [hx] at this; exact this
          have SE : Hid (∀ (val : Int) (w' : World), St w3 g c x w' → Calls Tryz.prog 111 #[.agg #[.int .i64 n, .slice (some ⟨g, 0, none⟩) len c], .int .i64 i, .int .i64 j, .int .i64 val] w' (fun e w' => e = .returned (.tuple #[]) ∧ St w3 g c (x.set (Zo.ix n i j) val) w')) :=
            Lib.hid fun val w' h => by have := set_st (i := i) (j := j) val hn hi hj lx h; rw [hx] at this; exact this
          have hm := run_imin (Zo.At n x i j) L
          clear hq kd
          go_wp2_with fail
          have s1 := HT.out.drew
          go_region_held3 (fun w' => (w'.cell? ⟨w.heap.size, 0, none⟩ = some (.int .i64 n) ∧ w'.cell? ⟨w.heap.size, 1, none⟩ = some (.slice (some ⟨g, 0, none⟩) len c)) ∧ (w'.cell? (d.add (t * 3)) = some (.int .i64 i) ∧ w'.cell? ⟨(d.add (t * 3)).block, (d.add (t * 3)).off + 1, none⟩ = some (.int .i64 j) ∧ w'.cell? ⟨(d.add (t * 3)).block, (d.add (t * 3)).off + 2, none⟩ = some (.int .i64 L))) (first | exact ⟨KS.out _ _ s1, KD2.out _ _ s1⟩ | exact ⟨KS.out _ _ s2, KD2.out _ _ s2⟩ | exact ⟨KS.out _ _ s3, KD2.out _ _ s3⟩)
            (first | (go_at_call 85; refine (AT.out _ s1).mono ?_; rintro e w5 ⟨rfl, s2⟩) | (go_at_call 111; refine (SE.out _ _ s2).mono ?_; rintro e w6 ⟨rfl, s3⟩))
          have S4 := Lib.hid s3
          clear s1 s2 s3
          go_wp2_with fail
          go_roundw
          case rel => exact ⟨t + 1, _, by omega, by go_num, by simpa using hx, Lib.hid (by rw [Zo.fold_succ, ← HX.out, HS.out]), S4⟩
          case measure => simp [intOf]; omega
        · have HX2 := Lib.hid (show x = anL n cs l by rw [HX.out, show t = cl by omega, HCl.out]; rfl)
          by_cases hE : cloE n x = 0
          · have CL : Hid (∀ W, Own W g c x → Calls Tryz.prog 94 #[.agg #[.int .i64 n, .slice (some ⟨g, 0, none⟩) len c]] W (fun e w' => e = .returned (.tuple #[.agg #[.int .i64 n, .slice (some ⟨g, 0, none⟩) len c], .int .i64 0]) ∧ Own w' g c (Zo.clo n x) ∧ W.grownBy w' (some g))) := Lib.hid fun W h => by have := closed_ok W hn lx h hE; rw [hx] at this; exact this
            have HEE := Lib.hid hE
            clear hE
            go_wp2_with fail
            refine (CL.out _ HT.out.1).mono ?_
            rintro e w5 ⟨rfl, ho5, hg5⟩
            have rs5 := (rs3.grown HT.out.2 (by omega)).grown hg5 (by omega)
            obtain ⟨q0, q1, q2, q3⟩ := rs5.facts
            have E5 := Lib.hid (grown_over (grown_over HE3.out HT.out.2 (by omega)) hg5 (by omega))
            have HO5 := Lib.hid ho5
            clear ho5 hg5
            go_wp2_with fail
            refine bodyPost_ret (v := .tuple #[.agg #[.int .i64 n, .slice (some ⟨g, 0, none⟩) len c], .int .i64 0]) (by simp [results, Tryz.results101, go_sem, q0, q1]) rfl ⟨(E5.out.setCell (by show w.heap.size ≤ w.heap.size + 1; omega) _).setCell (by show w.heap.size ≤ w.heap.size + 1; omega) _, Or.inl ⟨by rw [HAE.out, ← HX2.out]; exact HEE.out, g, c, ?_, by omega, ?_⟩⟩
            · rw [Zo.clo_length, anL_len, ← HLn.out]
            · rw [← HX2.out]; exact put_far HO5.out (by omega) _ _
          · have CL : Hid (∀ W, Own W g c x → Calls Tryz.prog 94 #[.agg #[.int .i64 n, .slice (some ⟨g, 0, none⟩) len c]] W (fun e w' => e = .returned (.tuple #[.agg #[.int .i64 0, .slice none 0 0], .int .i64 (cloE n x)]) ∧ Own w' g c (Zo.clo n x) ∧ W.grownBy w' (some g))) := Lib.hid fun W h => by have := closed_no W hn lx h hE; rw [hx] at this; exact this
            have HEE := Lib.hid hE
            clear hE
            go_wp2_with fail
            refine (CL.out _ HT.out.1).mono ?_
            rintro e w5 ⟨rfl, ho5, hg5⟩
            have rs5 := (rs3.grown HT.out.2 (by omega)).grown hg5 (by omega)
            obtain ⟨q0, q1, q2, q3⟩ := rs5.facts
            have E5 := Lib.hid (grown_over (grown_over HE3.out HT.out.2 (by omega)) hg5 (by omega))
            have HO5 := Lib.hid ho5
            clear ho5 hg5
            go_wp2_with fail
            refine bodyPost_ret (v := .tuple #[.agg #[.int .i64 0, .slice none 0 0], .int .i64 (cloE n x)]) (by simp [results, Tryz.results101, go_sem, q0, q1]) rfl ⟨(E5.out.setCell (by show w.heap.size ≤ w.heap.size + 1; omega) _).setCell (by show w.heap.size ≤ w.heap.size + 1; omega) _, Or.inr ⟨by rw [HAE.out, ← HX2.out]; exact HEE.out, ?_⟩⟩
            rw [HAE.out, HX2.out]
end Go.Proofs.YtaegiihkgicdnaaGreat
