/- The contract of And of layer 3's reference.; The contract of Same of layer 3's reference.; Contracts of And of any zone, and of is and Constant, of layer 3's reference.; The contract of Reset of layer 3's reference. -/
import Derived.Test.YtmlknjiifjdimaaG7
import Derived.Test.YtmlknjiifjdimaaG3

namespace Go.Proofs.Ytmlknjiifjdimaa
open Go.RowKit

/-- Constraints: the clock I minus the clock J meets L. -/
abbrev Con := Int × Int × Int

def gc (cs : List Con) (k : Nat) : Con := cs.getD k (0, 0, 0)

def Rd3 (w : World) (a : Addr) (cs : List Con) : Prop := ∀ j, j < cs.length → w.cell? (a.add (j * 3)) = some (.int .i64 (gc cs j).1) ∧ w.cell? ⟨(a.add (j * 3)).block, (a.add (j * 3)).off + 1, none⟩ = some (.int .i64 (gc cs j).2.1) ∧ w.cell? ⟨(a.add (j * 3)).block, (a.add (j * 3)).off + 2, none⟩ = some (.int .i64 (gc cs j).2.2)

theorem Rd3.on {w w' : World} {a : Addr} {l : List Con} (h : Rd3 w a l) (hb : Below w.heap.size w w') : Rd3 w' a l := fun j hj => ⟨kept hb (h j hj).1, kept hb (h j hj).2.1, kept hb (h j hj).2.2⟩

/-- Behind writes to a row of the call's own. -/
theorem Rd3.st {w w3 w' : World} {a : Addr} {cs : List Con} {g c : Nat} {x : List Int} (h : Rd3 w a cs) (hb : Below w.heap.size w w3) (hg : w.heap.size ≤ g) (hs : St w3 g c x w') : Rd3 w' a cs := by
  intro j hj
  obtain ⟨h1, h2, h3⟩ := h j hj
  exact ⟨hs.cell (kept hb h1) (by have := World.block_lt_of_cell? w _ h1; omega), hs.cell (kept hb h2) (by have := World.block_lt_of_cell? w _ h2; omega), hs.cell (kept hb h3) (by have := World.block_lt_of_cell? w _ h3; omega)⟩

def okC (n : Nat) (c : Con) : Bool := decide (0 ≤ c.1 ∧ c.1 ≤ n ∧ 0 ≤ c.2.1 ∧ c.2.1 ≤ n) && lvB c.2.2

def anS (n : Nat) (cs : List Con) (x : List Int) (t : Nat) : List Int := x.set (Zo.ix n (gc cs t).1.toNat (gc cs t).2.1.toNat) (imin (Zo.At n x (gc cs t).1.toNat (gc cs t).2.1.toNat) (gc cs t).2.2)

def anL (n : Nat) (cs : List Con) (l : List Int) : List Int := (List.range cs.length).foldl (anS n cs) l

theorem anL_len (n : Nat) (cs : List Con) (l : List Int) : (anL n cs l).length = l.length := fold_len (fun x t => by simp [anS]) l _

def anE (n : Nat) (cs : List Con) (l : List Int) : Int := if cs.all (okC n) then cloE n (anL n cs l) else 2

theorem anE_bad {n : Nat} {cs : List Con} {l : List Int} {k : Nat} (hk : k < cs.length) (h : okC n (gc cs k) = false) : anE n cs l = 2 := by
  have : cs.all (okC n) = false := by
    rw [List.all_eq_false]
    exact ⟨cs[k], List.getElem_mem hk, by rw [show cs[k] = gc cs k by simp [gc, hk], h]; simp⟩
  unfold anE; rw [this]; rfl

theorem anE_ok {n : Nat} {cs : List Con} {l : List Int} (h : ∀ k, k < cs.length → okC n (gc cs k) = true) : anE n cs l = cloE n (anL n cs l) := by
  have : cs.all (okC n) = true := by
    rw [List.all_eq_true]
    intro x hx
    obtain ⟨k, hk, rfl⟩ := List.getElem_of_mem hx
    have := h k hk
    simpa [gc, hk] using this
  unfold anE; rw [this]; rfl

set_option maxRecDepth 20000 in
set_option maxHeartbeats 4000000 in
theorem an_any (n : Nat) (l : List Int) (a : Addr) (cap : Nat) (cs : List Con) (dao : Option Addr) (d : Addr) (dc : Nat) (w : World) (hn : n ≤ 10) (hl : l.length = (n + 1) * (n + 1)) (hR : Rd w a l) (hc : chkE n l = 0) (hD : Rd3 w d cs) (hdl : cs.length ≤ 1000) (hdo : cs ≠ [] → dao = some d) :
    Calls Try.prog 25 #[.agg #[.int .i64 n, .slice (some a) l.length cap], .slice dao cs.length dc] w (ZRes w n (Zo.clo n (anL n cs l)) (anE n cs l)) := by
  obtain ⟨cl, hcl⟩ : ∃ cl, cl = cs.length := ⟨_, rfl⟩
  have HCl := Lib.hid hcl
  rw [← hcl]
  have hcb : cl ≤ 1000 := by omega
  have HD := Lib.hid hD
  have HDO := Lib.hid (show 0 < cl → dao = some d from fun h => hdo (fun e => by rw [hcl, e] at h; simp at h))
  clear hD hcl hdl hdo
  obtain ⟨len, hlen⟩ : ∃ len, len = l.length := ⟨_, rfl⟩
  obtain ⟨w0, hw0⟩ : ∃ w0, w0 = (w.alloc (.cells #[.int .i64 n, .slice (some a) len cap] 25)).alloc (.cells #[.int .i64 0, .slice none 0 0] 25) := ⟨_, rfl⟩
  have bx : Two w0 w.heap.size (.int .i64 n) (.slice (some a) len cap) := by rw [hw0]; exact (Two.made _ _ _ _).alloc _
  have rs : Two w0 (w.heap.size + 1) (.int .i64 0) (.slice none 0 0) := by
    rw [hw0]
    have := Two.made (w.alloc (.cells #[.int .i64 n, .slice (some a) len cap] 25)) (.int .i64 0) (.slice none 0 0) 25
    simpa using this
  have z0 : w0.heap.size = w.heap.size + 2 := by rw [hw0]; simp
  have e0 : Below w.heap.size w w0 := by rw [hw0]; exact past_two (Below.refl _ _)
  have R0 := hR.on e0
  have CK : Hid (∀ W, Rd W a l → Calls Try.prog 18 #[.agg #[.int .i64 n, .slice (some a) len cap]] W (Made (.int .i64 0) W)) := Lib.hid fun W h => by have := check_any n l a cap W hn hl h; rw [hc, ← hlen] at this; exact this
  have CP : Hid (∀ W, Rd W a l → Calls Try.prog 66 #[.agg #[.int .i64 n, .slice (some a) len cap]] W (fun e w' => ∃ g c, e = .returned (.agg #[.int .i64 n, .slice (some ⟨g, 0, none⟩) len c]) ∧ W.heap.size ≤ g ∧ Own w' g c l ∧ Below W.heap.size W w')) := Lib.hid fun W h => by have := copied_any n l a cap W (by rw [hl]; exact dsq_pos n) (by rw [hl]; have := dsq_le hn; omega) h; rw [← hlen] at this; exact this
  have HR := Lib.hid R0
  have HL := Lib.hid hl
  have HLn := Lib.hid hlen
  have E0 := Lib.hid e0
  rw [← hlen]
  clear hR R0 hl hlen hc e0
  go_enter Try.func25, Try.ntmps25
  go_wp2_with fail
  rw [← hw0]
  clear hw0
  obtain ⟨b0, b1, b2, b3⟩ := bx.facts
  go_wp2_with fail
  refine (CK.out _ HR.out).mono ?_
  rintro e w1 ⟨rfl, hb1⟩
  clear b0 b1 b2 b3
  replace bx := bx.kept hb1
  replace rs := rs.kept hb1
  have HR1 := Lib.hid (HR.out.on hb1)
  have E1 := Lib.hid (below_on E0.out hb1)
  have z1 := hb1.size
  clear hb1 HR E0
  obtain ⟨b0, b1, b2, b3⟩ := bx.facts
  go_wp2_with fail
  clear b0 b1 b2 b3
  go_loopw [6] (fun s wr => ∃ t : Nat, t ≤ cl ∧ s = .int .i64 t ∧ Hid (∀ k, k < t → okC n (gc cs k) = true) ∧ Hid (Below w1.heap.size w1 wr)) (fun s _ => cl - (intOf s).toNat)
  case atStart => exact ⟨0, by omega, rfl, Lib.hid (fun k hk => by omega), Lib.hid (Below.refl _ _)⟩
  case round =>
    obtain ⟨t, ht, rfl, HK, HB⟩ := hrel
    obtain ⟨b0, b1, b2, b3⟩ := (bx.kept HB.out).facts
    by_cases htn : t < cl
    · have hdo := HDO.out (by omega)
      clear HDO
      subst hdo
      obtain ⟨d1, d2, d3⟩ := (HD.out.on (below_on E1.out HB.out)) t (by rw [← HCl.out]; exact htn)
      obtain ⟨q, hq⟩ : ∃ q, q = gc cs t := ⟨_, rfl⟩
      rw [← hq] at d1 d2 d3
      have HQ := Lib.hid hq
      clear hq
      obtain ⟨I, J, L⟩ := q
      simp only at d1 d2 d3
      have v9 := fun W => refLimValid_free L W
      by_cases i1 : I < 0
      · have D1 : decide (I < (0 : Int)) = true := by simpa using i1
        clear v9
        have HE := Lib.hid (anE_bad (n := n) (cs := cs) (l := l) (k := t) (by rw [← HCl.out]; exact htn) (by rw [← HQ.out]; unfold okC; simp; omega))
        go_wp2_with fail
        go_quiet (fail)
        clear d1 d2 d3 b0 b1 b2 b3
        obtain ⟨r0, r1, r2, r3⟩ := (rs.kept HB.out).facts
        go_wp2_with fail
        refine bodyPost_ret (v := .tuple #[.agg #[.int .i64 0, .slice none 0 0], .int .i64 2]) (by simp [results, Try.results25, go_sem, r0, r1]) rfl (ZRes.bad (zres_bad (N := 0) (l := []) ?_) HE.out)
        exact ((below_drewN (below_on E1.out HB.out) _).setCell (by show w.heap.size ≤ w.heap.size + 1; omega) _).setCell (by show w.heap.size ≤ w.heap.size + 1; omega) _
      have D1 : decide (I < (0 : Int)) = false := by simp; omega
      by_cases i2 : (n : Int) < I
      · have D2 : decide ((n : Int) < I) = true := by simpa using i2
        clear v9
        have HE := Lib.hid (anE_bad (n := n) (cs := cs) (l := l) (k := t) (by rw [← HCl.out]; exact htn) (by rw [← HQ.out]; unfold okC; simp; omega))
        go_wp2_with fail
        go_quiet (fail)
        clear d1 d2 d3 b0 b1 b2 b3
        obtain ⟨r0, r1, r2, r3⟩ := (rs.kept HB.out).facts
        go_wp2_with fail
        refine bodyPost_ret (v := .tuple #[.agg #[.int .i64 0, .slice none 0 0], .int .i64 2]) (by simp [results, Try.results25, go_sem, r0, r1]) rfl (ZRes.bad (zres_bad (N := 0) (l := []) ?_) HE.out)
        exact ((below_drewN (below_on E1.out HB.out) _).setCell (by show w.heap.size ≤ w.heap.size + 1; omega) _).setCell (by show w.heap.size ≤ w.heap.size + 1; omega) _
      have D2 : decide ((n : Int) < I) = false := by simp; omega
      by_cases j1 : J < 0
      · have D3 : decide (J < (0 : Int)) = true := by simpa using j1
        clear v9
        have HE := Lib.hid (anE_bad (n := n) (cs := cs) (l := l) (k := t) (by rw [← HCl.out]; exact htn) (by rw [← HQ.out]; unfold okC; simp; omega))
        go_wp2_with fail
        go_quiet (fail)
        clear d1 d2 d3 b0 b1 b2 b3
        obtain ⟨r0, r1, r2, r3⟩ := (rs.kept HB.out).facts
        go_wp2_with fail
        refine bodyPost_ret (v := .tuple #[.agg #[.int .i64 0, .slice none 0 0], .int .i64 2]) (by simp [results, Try.results25, go_sem, r0, r1]) rfl (ZRes.bad (zres_bad (N := 0) (l := []) ?_) HE.out)
        exact ((below_drewN (below_on E1.out HB.out) _).setCell (by show w.heap.size ≤ w.heap.size + 1; omega) _).setCell (by show w.heap.size ≤ w.heap.size + 1; omega) _
      have D3 : decide (J < (0 : Int)) = false := by simp; omega
      by_cases j2 : (n : Int) < J
      · have D4 : decide ((n : Int) < J) = true := by simpa using j2
        clear v9
        have HE := Lib.hid (anE_bad (n := n) (cs := cs) (l := l) (k := t) (by rw [← HCl.out]; exact htn) (by rw [← HQ.out]; unfold okC; simp; omega))
        go_wp2_with fail
        go_quiet (fail)
        clear d1 d2 d3 b0 b1 b2 b3
        obtain ⟨r0, r1, r2, r3⟩ := (rs.kept HB.out).facts
        go_wp2_with fail
        refine bodyPost_ret (v := .tuple #[.agg #[.int .i64 0, .slice none 0 0], .int .i64 2]) (by simp [results, Try.results25, go_sem, r0, r1]) rfl (ZRes.bad (zres_bad (N := 0) (l := []) ?_) HE.out)
        exact ((below_drewN (below_on E1.out HB.out) _).setCell (by show w.heap.size ≤ w.heap.size + 1; omega) _).setCell (by show w.heap.size ≤ w.heap.size + 1; omega) _
      have D4 : decide ((n : Int) < J) = false := by simp; omega
      cases lv : lvB L
      · have HLV := Lib.hid lv
        rw [lv] at v9
        have V9 := Lib.hid v9
        clear v9 lv
        have HE := Lib.hid (anE_bad (n := n) (cs := cs) (l := l) (k := t) (by rw [← HCl.out]; exact htn) (by rw [← HQ.out]; unfold okC; simp; intros; exact HLV.out))
        go_wp2_with fail
        go_quiet ((go_at_call 64; exact Calls.quiet_of_same (V9.out _)))
        clear d1 d2 d3 b0 b1 b2 b3
        obtain ⟨r0, r1, r2, r3⟩ := (rs.kept HB.out).facts
        go_wp2_with fail
        refine bodyPost_ret (v := .tuple #[.agg #[.int .i64 0, .slice none 0 0], .int .i64 2]) (by simp [results, Try.results25, go_sem, r0, r1]) rfl (ZRes.bad (zres_bad (N := 0) (l := []) ?_) HE.out)
        exact ((below_drewN (below_on E1.out HB.out) _).setCell (by show w.heap.size ≤ w.heap.size + 1; omega) _).setCell (by show w.heap.size ≤ w.heap.size + 1; omega) _
      · rw [lv] at v9
        have V9 := Lib.hid v9
        have HK2 := Lib.hid (show okC n (gc cs t) = true by rw [← HQ.out]; unfold okC; rw [lv]; simp; omega)
        clear v9 lv
        go_wp2_with fail
        go_quiet ((go_at_call 64; exact Calls.quiet_of_same (V9.out _)))
        clear d1 d2 d3 b0 b1 b2 b3
        go_wp2_with fail
        go_roundw
        case rel =>
          refine ⟨t + 1, by omega, by go_num, Lib.hid (fun k hk => ?_), Lib.hid (below_drewN HB.out _)⟩
          by_cases e : k = t
          · rw [e]; exact HK2.out
          · exact HK.out k (by omega)
        case measure => simp [intOf]; omega
    · have HAE := Lib.hid (anE_ok (n := n) (cs := cs) (l := l) (fun k hk => HK.out k (by rw [← HCl.out] at hk; omega)))
      have HOK := Lib.hid (show ∀ k, k < cl → okC n (gc cs k) = true from fun k hk => HK.out k (by omega))
      clear b0 b1 b2 b3
      replace bx := bx.kept HB.out
      replace rs := rs.kept HB.out
      replace HR1 := Lib.hid (HR1.out.on HB.out)
      replace E1 := Lib.hid (below_on E1.out HB.out)
      have z2' := HB.out.size
      clear HB HK
      obtain ⟨b0, b1, b2, b3⟩ := bx.facts
      go_wp2_with fail
      refine (CP.out _ HR1.out).mono ?_
      rintro e w2 ⟨g, c, rfl, hg, ho, hb2⟩
      clear b0 b1 b2 b3
      replace bx := bx.kept hb2
      replace rs := rs.kept hb2
      have E2 := Lib.hid (below_on E1.out hb2)
      have z2 := hb2.size
      clear hb2 E1 HR1
      obtain ⟨b0, b1, b2, b3⟩ := bx.facts
      obtain ⟨w3, hw3⟩ : ∃ w3, w3 = (w2.setCell ⟨w.heap.size, 0, none⟩ (.int .i64 n)).setCell ⟨w.heap.size, 1, none⟩ (.slice (some ⟨g, 0, none⟩) len c) := ⟨_, rfl⟩
      have bx3 : Two w3 w.heap.size (.int .i64 n) (.slice (some ⟨g, 0, none⟩) len c) := by rw [hw3]; exact bx.put _ _
      have rs3 : Two w3 (w.heap.size + 1) (.int .i64 0) (.slice none 0 0) := by rw [hw3]; exact rs.aside (by omega) _ _
      have O3 : Own w3 g c l := by rw [hw3]; exact put_far ho (by omega) _ _
      have E3 : Below w.heap.size w w3 := by rw [hw3]; exact (E2.out.setCell (by show w.heap.size ≤ w.heap.size; omega) _).setCell (by show w.heap.size ≤ w.heap.size; omega) _
      have S3 := Lib.hid (show St w3 g c l w3 from ⟨O3, World.grownBy.refl _ _⟩)
      have HE3 := Lib.hid E3
      clear ho O3 E3 E2 rs bx
      go_wp2_with fail
      rw [← hw3]
      clear hw3 b0 b1 b2 b3
      have KD := Lib.hid (show ∀ (t : Nat) (y : List Int) (w' : World), t < cl → St w3 g c y w' → w'.cell? (d.add (t * 3)) = some (.int .i64 (gc cs t).1) ∧ w'.cell? ⟨(d.add (t * 3)).block, (d.add (t * 3)).off + 1, none⟩ = some (.int .i64 (gc cs t).2.1) ∧ w'.cell? ⟨(d.add (t * 3)).block, (d.add (t * 3)).off + 2, none⟩ = some (.int .i64 (gc cs t).2.2) from
        fun t y w' h1 h2 => (HD.out.st HE3.out (by omega) h2) t (by rw [← HCl.out]; exact h1))
      have KS := Lib.hid (show ∀ (y : List Int) (w' : World), St w3 g c y w' → w'.cell? ⟨w.heap.size, 0, none⟩ = some (.int .i64 n) ∧ w'.cell? ⟨w.heap.size, 1, none⟩ = some (.slice (some ⟨g, 0, none⟩) len c) from
        fun y w' h => ⟨h.cell bx3.facts.1 (by simp; omega), h.cell bx3.facts.2.1 (by simp; omega)⟩)
      go_loopw [7] (fun s wr => ∃ (t : Nat) (x : List Int), t ≤ cl ∧ s = .int .i64 t ∧ x.length = len ∧ Hid (x = (List.range t).foldl (anS n cs) l) ∧ Hid (St w3 g c x wr)) (fun s _ => cl - (intOf s).toNat)
      case atStart => exact ⟨0, l, by omega, rfl, HLn.out.symm, Lib.hid rfl, S3⟩
      case round =>
        obtain ⟨t, x, ht, rfl, hx, HX, HT⟩ := hrel
        have bx4 := bx3.grown HT.out.2 (by omega)
        obtain ⟨b0, b1, b2, b3⟩ := bx4.facts
        have lx : x.length = (n + 1) * (n + 1) := by rw [hx, HLn.out, HL.out]
        by_cases htn : t < cl
        · have hdo := HDO.out (by omega)
          clear HDO
          subst hdo
          obtain ⟨d1, d2, d3⟩ := KD.out t _ _ htn HT.out
          obtain ⟨i, j, L, hq, hi, hj⟩ : ∃ (i j : Nat) (L : Int), gc cs t = ((i : Int), (j : Int), L) ∧ i ≤ n ∧ j ≤ n := by
            have := HOK.out t htn
            unfold okC at this
            simp only [Bool.and_eq_true, decide_eq_true_eq] at this
            obtain ⟨⟨p1, p2, p3, p4⟩, _⟩ := this
            refine ⟨(gc cs t).1.toNat, (gc cs t).2.1.toNat, (gc cs t).2.2, ?_, by omega, by omega⟩
            rw [Int.toNat_of_nonneg p1, Int.toNat_of_nonneg p3]
          have kd := fun (y : List Int) (w' : World) (h : St w3 g c y w') => KD.out t y w' htn h
          rw [hq] at d1 d2 d3 kd
          simp only at d1 d2 d3 kd
          have KD2 := Lib.hid kd
          have HS := Lib.hid (show anS n cs x t = x.set (Zo.ix n i j) (imin (Zo.At n x i j) L) by unfold anS; rw [hq]; simp)
          have AT : Hid (∀ w' : World, St w3 g c x w' → Calls Try.prog 68 #[.agg #[.int .i64 n, .slice (some ⟨g, 0, none⟩) len c], .int .i64 i, .int .i64 j] w' (fun e w' => e = .returned (.int .i64 (Zo.At n x i j)) ∧ St w3 g c x w')) :=
            Lib.hid fun w' h => by have := at_st (i := i) (j := j) hn hi hj lx h; rw [hx] at this; exact this
          have SE : Hid (∀ (val : Int) (w' : World), St w3 g c x w' → Calls Try.prog 79 #[.agg #[.int .i64 n, .slice (some ⟨g, 0, none⟩) len c], .int .i64 i, .int .i64 j, .int .i64 val] w' (fun e w' => e = .returned (.tuple #[]) ∧ St w3 g c (x.set (Zo.ix n i j) val) w')) :=
            Lib.hid fun val w' h => by have := set_st (i := i) (j := j) val hn hi hj lx h; rw [hx] at this; exact this
          have hm := run_imin (Zo.At n x i j) L
          clear hq kd
          go_wp2_with fail
          have s1 := HT.out.drew
          go_region_held3 (fun w' => (w'.cell? ⟨w.heap.size, 0, none⟩ = some (.int .i64 n) ∧ w'.cell? ⟨w.heap.size, 1, none⟩ = some (.slice (some ⟨g, 0, none⟩) len c)) ∧ (w'.cell? (d.add (t * 3)) = some (.int .i64 i) ∧ w'.cell? ⟨(d.add (t * 3)).block, (d.add (t * 3)).off + 1, none⟩ = some (.int .i64 j) ∧ w'.cell? ⟨(d.add (t * 3)).block, (d.add (t * 3)).off + 2, none⟩ = some (.int .i64 L))) (first | exact ⟨KS.out _ _ s1, KD2.out _ _ s1⟩ | exact ⟨KS.out _ _ s2, KD2.out _ _ s2⟩ | exact ⟨KS.out _ _ s3, KD2.out _ _ s3⟩)
            (first | (go_at_call 68; refine (AT.out _ s1).mono ?_; rintro e w5 ⟨rfl, s2⟩) | (go_at_call 79; refine (SE.out _ _ s2).mono ?_; rintro e w6 ⟨rfl, s3⟩))
          have S4 := Lib.hid s3
          clear s1 s2 s3
          go_wp2_with fail
          go_roundw
          case rel => exact ⟨t + 1, _, by omega, by go_num, by simpa using hx, Lib.hid (by rw [Zo.fold_succ, ← HX.out, HS.out]), S4⟩
          case measure => simp [intOf]; omega
        · have HX2 := Lib.hid (show x = anL n cs l by rw [HX.out, show t = cl by omega, HCl.out]; rfl)
          by_cases hE : cloE n x = 0
          · have CL : Hid (∀ W, Own W g c x → Calls Try.prog 65 #[.agg #[.int .i64 n, .slice (some ⟨g, 0, none⟩) len c]] W (fun e w' => e = .returned (.tuple #[.agg #[.int .i64 n, .slice (some ⟨g, 0, none⟩) len c], .int .i64 0]) ∧ Own w' g c (Zo.clo n x) ∧ W.grownBy w' (some g))) := Lib.hid fun W h => by have := closed_ok W hn lx h hE; rw [hx] at this; exact this
            have HEE := Lib.hid hE
            clear hE
            go_wp2_with fail
            refine (CL.out _ HT.out.1).mono ?_
            rintro e w5 ⟨rfl, ho5, hg5⟩
            have rs5 := (rs3.grown HT.out.2 (by omega)).grown hg5 (by omega)
            obtain ⟨q0, q1, q2, q3⟩ := rs5.facts
            have E5 := Lib.hid (grown_over (grown_over HE3.out HT.out.2 (by omega)) hg5 (by omega))
            have HO5 := Lib.hid ho5
            clear ho5 hg5
            go_wp2_with fail
            refine bodyPost_ret (v := .tuple #[.agg #[.int .i64 n, .slice (some ⟨g, 0, none⟩) len c], .int .i64 0]) (by simp [results, Try.results25, go_sem, q0, q1]) rfl ⟨(E5.out.setCell (by show w.heap.size ≤ w.heap.size + 1; omega) _).setCell (by show w.heap.size ≤ w.heap.size + 1; omega) _, Or.inl ⟨by rw [HAE.out, ← HX2.out]; exact HEE.out, g, c, ?_, by omega, ?_⟩⟩
            · rw [Zo.clo_length, anL_len, ← HLn.out]
            · rw [← HX2.out]; exact put_far HO5.out (by omega) _ _
          · have CL : Hid (∀ W, Own W g c x → Calls Try.prog 65 #[.agg #[.int .i64 n, .slice (some ⟨g, 0, none⟩) len c]] W (fun e w' => e = .returned (.tuple #[.agg #[.int .i64 0, .slice none 0 0], .int .i64 (cloE n x)]) ∧ Own w' g c (Zo.clo n x) ∧ W.grownBy w' (some g))) := Lib.hid fun W h => by have := closed_no W hn lx h hE; rw [hx] at this; exact this
            have HEE := Lib.hid hE
            clear hE
            go_wp2_with fail
            refine (CL.out _ HT.out.1).mono ?_
            rintro e w5 ⟨rfl, ho5, hg5⟩
            have rs5 := (rs3.grown HT.out.2 (by omega)).grown hg5 (by omega)
            obtain ⟨q0, q1, q2, q3⟩ := rs5.facts
            have E5 := Lib.hid (grown_over (grown_over HE3.out HT.out.2 (by omega)) hg5 (by omega))
            have HO5 := Lib.hid ho5
            clear ho5 hg5
            go_wp2_with fail
            refine bodyPost_ret (v := .tuple #[.agg #[.int .i64 0, .slice none 0 0], .int .i64 (cloE n x)]) (by simp [results, Try.results25, go_sem, q0, q1]) rfl ⟨(E5.out.setCell (by show w.heap.size ≤ w.heap.size + 1; omega) _).setCell (by show w.heap.size ≤ w.heap.size + 1; omega) _, Or.inr ⟨by rw [HAE.out, ← HX2.out]; exact HEE.out, ?_⟩⟩
            rw [HAE.out, HX2.out]
end Go.Proofs.Ytmlknjiifjdimaa

namespace Go.Proofs.Ytmlknjiifjdimaa
open Go.RowKit

def smB (N M : Int) (l m : List Int) : Bool := decide (N = M) && decide (l = m)

theorem smB_no1 {N M : Int} {l m : List Int} (h : N ≠ M) : smB N M l m = false := by simp [smB, h]

theorem smB_no2 {N M : Int} {l m : List Int} (h : l.length ≠ m.length) : smB N M l m = false := by
  have : l ≠ m := fun e => h (by rw [e])
  simp [smB, this]

theorem smB_no3 {N M : Int} {l m : List Int} {k : Nat} (h : Zo.gt l k ≠ Zo.gt m k) : smB N M l m = false := by
  have : l ≠ m := fun e => h (by rw [e])
  simp [smB, this]

theorem smB_yes {N M : Int} {l m : List Int} (h : N = M) (hl : l.length = m.length) (hk : ∀ k, k < l.length → Zo.gt l k = Zo.gt m k) : smB N M l m = true := by
  have : l = m := List.ext_getElem hl fun k h1 h2 => by
    have := hk k h1
    simpa [Zo.gt, h1, h2] using this
  simp [smB, h, this]

set_option maxHeartbeats 1600000 in
theorem same_any (N M : Int) (l m : List Int) (ao bo : Option Addr) (ca cb : Nat) (w : World) (hA : Arg w ao l) (hB : Arg w bo m) (ll : l.length ≤ 9223372036854775807) :
    Calls Try.prog 41 #[.agg #[.int .i64 N, .slice ao l.length ca], .agg #[.int .i64 M, .slice bo m.length cb]] w (Made (.bool (smB N M l m)) w) := by
  obtain ⟨len, hlen⟩ : ∃ len, len = l.length := ⟨_, rfl⟩
  obtain ⟨mlen, hmlen⟩ : ∃ mlen, mlen = m.length := ⟨_, rfl⟩
  obtain ⟨w0, hw0⟩ : ∃ w0, w0 = (w.alloc (.cells #[.int .i64 N, .slice ao len ca] 25)).alloc (.cells #[.int .i64 M, .slice bo mlen cb] 25) := ⟨_, rfl⟩
  have bx : Two w0 w.heap.size (.int .i64 N) (.slice ao len ca) := by rw [hw0]; exact (Two.made _ _ _ _).alloc _
  have by' : Two w0 (w.heap.size + 1) (.int .i64 M) (.slice bo mlen cb) := by
    rw [hw0]
    have := Two.made (w.alloc (.cells #[.int .i64 N, .slice ao len ca] 25)) (.int .i64 M) (.slice bo mlen cb) 25
    simpa using this
  have e0 : Below w.heap.size w w0 := by rw [hw0]; exact past_two (Below.refl _ _)
  have lb : (len : Int) ≤ 9223372036854775807 := by omega
  have HA := Lib.hid (hA.on e0)
  have HB := Lib.hid (hB.on e0)
  have HL := Lib.hid hlen
  have HM := Lib.hid hmlen
  have E0 := Lib.hid e0
  rw [← hlen, ← hmlen]
  clear hA hB hlen hmlen e0 ll
  by_cases hN : N = M
  · have N0 : (N != M) = false := by simpa using hN
    by_cases hS : len = mlen
    · have HS := Lib.hid hS
      have S0 : ((len : Int) != (mlen : Int)) = false := by simp; omega
      have HN := Lib.hid hN
      clear hN hS
      go_enter Try.func41, Try.ntmps41
      go_wp2_with fail
      rw [← hw0]
      clear hw0
      obtain ⟨b0, b1, b2, b3⟩ := bx.facts
      obtain ⟨c0, c1, c2, c3⟩ := by'.facts
      go_wp2_with fail
      try (go_quiet (fail); go_wp2_with fail)
      clear b0 b1 b2 b3 c0 c1 c2 c3
      go_loopw [5] (fun s wr => ∃ t : Nat, t ≤ len ∧ s = .int .i64 t ∧ Hid (∀ k, k < t → Zo.gt l k = Zo.gt m k) ∧ Hid (Below w0.heap.size w0 wr)) (fun s _ => len - (intOf s).toNat)
      case atStart => exact ⟨0, by omega, rfl, Lib.hid (fun k hk => by omega), Lib.hid (by first | exact Below.refl _ _ | exact below_drewN (Below.refl _ _) _)⟩
      case round =>
        obtain ⟨t, ht, rfl, HK, HBw⟩ := hrel
        obtain ⟨b0, b1, b2, b3⟩ := (bx.kept HBw.out).facts
        obtain ⟨c0, c1, c2, c3⟩ := (by'.kept HBw.out).facts
        by_cases htn : t < len
        · obtain ⟨a, hao, hR⟩ := HA.out (fun e => by have := HL.out; rw [e] at this; simp at this; omega)
          obtain ⟨b, hbo, hQ⟩ := HB.out (fun e => by have := HM.out; have := HS.out; rw [e] at *; simp at *; omega)
          subst hao hbo
          have d1 := kept HBw.out (hR t (by rw [← HL.out]; exact htn))
          have d2 := kept HBw.out (hQ t (by rw [← HM.out, ← HS.out]; exact htn))
          have t2 : (t : Int) < (mlen : Int) := by have := HS.out; omega
          obtain ⟨x, hx⟩ : ∃ x, x = Zo.gt l t := ⟨_, rfl⟩
          obtain ⟨y, hy⟩ : ∃ y, y = Zo.gt m t := ⟨_, rfl⟩
          rw [← hx] at d1
          rw [← hy] at d2
          have HXE := Lib.hid hx
          have HYE := Lib.hid hy
          clear hx hy hR hQ
          by_cases hxy : x = y
          · have D : (x != y) = false := by simpa using hxy
            have HXY := Lib.hid hxy
            clear hxy
            go_wp2_with fail
            go_quiet (fail)
            clear b0 b1 b2 b3 c0 c1 c2 c3 d1 d2
            go_wp2_with fail
            go_roundw
            case rel =>
              refine ⟨t + 1, by omega, by go_num, Lib.hid (fun k hk => ?_), Lib.hid (below_drewN HBw.out _)⟩
              by_cases e : k = t
              · rw [e, ← HXE.out, ← HYE.out]; exact HXY.out
              · exact HK.out k (by omega)
            case measure => simp [intOf]; omega
          · have D : (x != y) = true := by simpa using hxy
            have HE := Lib.hid (smB_no3 (N := N) (M := M) (l := l) (m := m) (k := t) (by rw [← HXE.out, ← HYE.out]; exact hxy))
            clear hxy
            go_wp2_with fail
            go_quiet (fail)
            clear b0 b1 b2 b3 c0 c1 c2 c3 d1 d2
            go_wp2_with fail
            go_ret
            exact ⟨ret_bool HE.out.symm, below_drewN (below_on E0.out HBw.out) _⟩
        · have HE := Lib.hid (smB_yes (l := l) (m := m) HN.out (by rw [← HL.out, ← HM.out]; exact HS.out) (fun k hk => HK.out k (by rw [← HL.out] at hk; omega)))
          go_wp2_with fail
          go_ret
          exact ⟨ret_bool HE.out.symm, below_on E0.out HBw.out⟩
    · have HE := Lib.hid (smB_no2 (N := N) (M := M) (l := l) (m := m) (by rw [← HL.out, ← HM.out]; exact hS))
      have S0 : ((len : Int) != (mlen : Int)) = true := by simp; omega
      clear hN
      go_enter Try.func41, Try.ntmps41
      go_wp2_with fail
      rw [← hw0]
      clear hw0
      obtain ⟨b0, b1, b2, b3⟩ := bx.facts
      obtain ⟨c0, c1, c2, c3⟩ := by'.facts
      go_wp2_with fail
      try (go_quiet (fail); go_wp2_with fail)
      go_ret
      exact ⟨ret_bool HE.out.symm, by first | exact E0.out | exact below_drewN E0.out _⟩
  · have HE := Lib.hid (smB_no1 (l := l) (m := m) hN)
    have N0 : (N != M) = true := by simpa using hN
    clear hN
    go_enter Try.func41, Try.ntmps41
    go_wp2_with fail
    rw [← hw0]
    clear hw0
    obtain ⟨b0, b1, b2, b3⟩ := bx.facts
    obtain ⟨c0, c1, c2, c3⟩ := by'.facts
    go_wp2_with fail
    try (go_quiet (fail); go_wp2_with fail)
    go_ret
    exact ⟨ret_bool HE.out.symm, by first | exact E0.out | exact below_drewN E0.out _⟩
end Go.Proofs.Ytmlknjiifjdimaa

namespace Go.Proofs.Ytmlknjiifjdimaa
open Go.RowKit

set_option maxHeartbeats 400000 in
theorem an_bad (N : Int) (l : List Int) (ao : Option Addr) (cap : Nat) (dao : Option Addr) (dl dc : Nat) (w : World) (hA : Arg w ao l) (hc : chkE N l = 2) :
    Calls Try.prog 25 #[.agg #[.int .i64 N, .slice ao l.length cap], .slice dao dl dc] w (ZRes w 0 [] 2) := by
  have CK := Lib.hid fun W (h : Below w.heap.size w W) => check_as (cap := cap) W (hA.on h) hc
  generalize l.length = len at *
  obtain ⟨w0, hw0⟩ : ∃ w0, w0 = (w.alloc (.cells #[.int .i64 N, .slice ao len cap] 25)).alloc (.cells #[.int .i64 0, .slice none 0 0] 25) := ⟨_, rfl⟩
  have bx : Two w0 w.heap.size (.int .i64 N) (.slice ao len cap) := by rw [hw0]; exact (Two.made _ _ _ _).alloc _
  have rs : Two w0 (w.heap.size + 1) (.int .i64 0) (.slice none 0 0) := by
    rw [hw0]
    have := Two.made (w.alloc (.cells #[.int .i64 N, .slice ao len cap] 25)) (.int .i64 0) (.slice none 0 0) 25
    simpa using this
  have e0 : Below w.heap.size w w0 := by rw [hw0]; exact past_two (Below.refl _ _)
  have E0 := Lib.hid e0
  clear e0 hA hc
  go_enter Try.func25, Try.ntmps25
  go_wp2_with fail
  rw [← hw0]
  clear hw0
  obtain ⟨b0, b1, b2, b3⟩ := bx.facts
  go_wp2_with fail
  refine (CK.out _ E0.out).mono ?_
  rintro e w1 ⟨rfl, hb1⟩
  clear b0 b1 b2 b3
  replace rs := rs.kept hb1
  replace E0 := Lib.hid (below_on E0.out hb1)
  clear hb1 bx
  obtain ⟨b0, b1, b2, b3⟩ := rs.facts
  go_wp2_with fail
  refine bodyPost_ret (v := .tuple #[.agg #[.int .i64 0, .slice none 0 0], .int .i64 2]) (by simp [results, Try.results25, go_sem, b0, b1]) rfl (zres_bad ?_)
  exact (E0.out.setCell (by show w.heap.size ≤ w.heap.size + 1; omega) _).setCell (by show w.heap.size ≤ w.heap.size + 1; omega) _

/-- A list of constraints that came in. -/
def Arg3 (w : World) (dao : Option Addr) (cs : List Con) : Prop := cs ≠ [] → ∃ d, dao = some d ∧ Rd3 w d cs

theorem Arg3.on {w w' : World} {ao : Option Addr} {l : List Con} (h : Arg3 w ao l) (hb : Below w.heap.size w w') : Arg3 w' ao l := fun hl => by
  obtain ⟨a, h1, h2⟩ := h hl
  exact ⟨a, h1, h2.on hb⟩

def anG (N : Int) (cs : List Con) (l : List Int) : Int := if chkE N l = 0 then anE N.toNat cs l else 2

theorem an_gen (N : Int) (l : List Int) (ao : Option Addr) (cap : Nat) (cs : List Con) (dao : Option Addr) (dc : Nat) (w : World) (hA : Arg w ao l) (hD : Arg3 w dao cs) (hdl : cs.length ≤ 1000) :
    Calls Try.prog 25 #[.agg #[.int .i64 N, .slice ao l.length cap], .slice dao cs.length dc] w (ZRes w N (Zo.clo N.toNat (anL N.toNat cs l)) (anG N cs l)) := by
  by_cases hc : chkE N l = 0
  · obtain ⟨n, rfl, hn, hl, hne⟩ := chk_ok hc
    obtain ⟨a, rfl, hR⟩ := hA hne
    rw [show anG (n : Int) cs l = anE n cs l by unfold anG; rw [if_pos hc]; rfl]
    by_cases he : cs = []
    · exact an_any n l a cap cs dao a dc w hn hl hR hc (by rw [he]; intro j hj; simp at hj) hdl (fun h => absurd he h)
    · obtain ⟨d, rfl, hd⟩ := hD he
      exact an_any n l a cap cs (some d) d dc w hn hl hR hc hd hdl (fun _ => rfl)
  · exact (an_bad N l ao cap dao cs.length dc w hA (chk_two hc)).mono fun e w' h => h.bad (by unfold anG; rw [if_neg hc])

def isC (i j c : Int) : List Con := [(i, j, 2 * c + 1), (j, i, -2 * c + 1)]

set_option maxHeartbeats 400000 in
theorem is_any (i j c : Int) (w : World) (h0 : 0 ≤ c) (h1 : c ≤ 1048576) :
    Calls Try.prog 88 #[.int .i64 i, .int .i64 j, .int .i64 c] w (fun e w' => ∃ g, e = .returned (.slice (some ⟨g, 0, none⟩) (isC i j c).length 2) ∧ Rd3 w' ⟨g, 0, none⟩ (isC i j c) ∧ Below w.heap.size w w') := by
  go_enter Try.func88, Try.ntmps88
  go_wp2_with fail
  go_ret
  refine ⟨w.heap.size, rfl, ?_, one_more _⟩
  intro k hk
  have hk2 : k < 2 := hk
  rcases (show k = 0 ∨ k = 1 by omega) with rfl | rfl
  · refine ⟨?_, ?_, ?_⟩ <;> (simp [isC, gc, Addr.add]; try go_simp)
  · refine ⟨?_, ?_, ?_⟩ <;> (simp [isC, gc, Addr.add]; try go_simp)

def cnB (c : Int) : Bool := decide (0 ≤ c ∧ c ≤ 1048576)

set_option maxHeartbeats 400000 in
theorem constant_any (c : Int) (w : World) : Calls Try.prog 87 #[.int .i64 c] w (Still (.bool (cnB c)) w) := by
  by_cases h : 0 ≤ c
  · by_cases g : c ≤ 1048576
    · have H := Lib.hid (show cnB c = true by unfold cnB; simp; omega)
      go_enter Try.func87, Try.ntmps87
      go_wp2_with fail
      go_ret
      exact ⟨ret_bool H.out.symm, rfl⟩
    · have H := Lib.hid (show cnB c = false by unfold cnB; simp; omega)
      have D : decide (c ≤ (1048576 : Int)) = false := by simp; omega
      go_enter Try.func87, Try.ntmps87
      go_wp2_with fail
      go_ret
      exact ⟨ret_bool H.out.symm, rfl⟩
  · have H := Lib.hid (show cnB c = false by unfold cnB; simp; omega)
    have D : decide ((0 : Int) ≤ c) = false := by simp; omega
    go_enter Try.func87, Try.ntmps87
    go_wp2_with fail
    go_ret
    exact ⟨ret_bool H.out.symm, rfl⟩
end Go.Proofs.Ytmlknjiifjdimaa

namespace Go.Proofs.Ytmlknjiifjdimaa
open Go.RowKit

theorem ZRes.ok {w : World} {N : Int} {l : List Int} {er : Int} {e : Ending} {w' : World} (h : ZRes w N l er e w') (he : er = 0) : ∃ g c, e = .returned (.tuple #[.agg #[.int .i64 N, .slice (some ⟨g, 0, none⟩) l.length c], .int .i64 0]) ∧ w.heap.size ≤ g ∧ Own w' g c l ∧ Below w.heap.size w w' := by
  rcases h.2 with ⟨_, g, c, h1, h2, h3⟩ | ⟨h1, _⟩
  · exact ⟨g, c, h1, h2, h3, h.1⟩
  · exact absurd he h1

theorem ZRes.no {w : World} {N : Int} {l : List Int} {er : Int} {e : Ending} {w' : World} (h : ZRes w N l er e w') (he : er ≠ 0) : e = .returned (.tuple #[.agg #[.int .i64 0, .slice none 0 0], .int .i64 er]) ∧ Below w.heap.size w w' := by
  rcases h.2 with ⟨h1, _⟩ | ⟨_, h1⟩
  · exact absurd h1 he
  · exact ⟨h1, h.1⟩

theorem Own.arg {w : World} {g c : Nat} {l : List Int} (h : Own w g c l) : Arg w (some ⟨g, 0, none⟩) l := fun _ => ⟨_, rfl, h.rd⟩

/-- What Reset returns: Free, then And. -/
def reM (n i : Nat) (l : List Int) : List Int := Zo.clo n (frL n i l)

def reL (n i : Nat) (c : Int) (l : List Int) : List Int := Zo.clo n (anL n (isC i 0 c) (reM n i l))

def reE (n i : Nat) (c : Int) (l : List Int) : Int := if cloE n (frL n i l) = 0 then anG n (isC i 0 c) (reM n i l) else cloE n (frL n i l)

set_option maxHeartbeats 400000 in
theorem re_bad (N : Int) (l : List Int) (ao : Option Addr) (cap : Nat) (i c : Int) (w : World) (hA : Arg w ao l) (hc : chkE N l = 2) :
    Calls Try.prog 31 #[.agg #[.int .i64 N, .slice ao l.length cap], .int .i64 i, .int .i64 c] w (ZRes w 0 [] 2) := by
  have CK := Lib.hid fun W (h : Below w.heap.size w W) => check_as (cap := cap) W (hA.on h) hc
  generalize l.length = len at *
  obtain ⟨w0, hw0⟩ : ∃ w0, w0 = (w.alloc (.cells #[.int .i64 N, .slice ao len cap] 25)).alloc (.cells #[.int .i64 0, .slice none 0 0] 25) := ⟨_, rfl⟩
  have bx : Two w0 w.heap.size (.int .i64 N) (.slice ao len cap) := by rw [hw0]; exact (Two.made _ _ _ _).alloc _
  have rs : Two w0 (w.heap.size + 1) (.int .i64 0) (.slice none 0 0) := by
    rw [hw0]
    have := Two.made (w.alloc (.cells #[.int .i64 N, .slice ao len cap] 25)) (.int .i64 0) (.slice none 0 0) 25
    simpa using this
  have e0 : Below w.heap.size w w0 := by rw [hw0]; exact past_two (Below.refl _ _)
  have E0 := Lib.hid e0
  clear e0 hA hc
  go_enter Try.func31, Try.ntmps31
  go_wp2_with fail
  rw [← hw0]
  clear hw0
  obtain ⟨b0, b1, b2, b3⟩ := bx.facts
  go_wp2_with fail
  refine (CK.out _ E0.out).mono ?_
  rintro e w1 ⟨rfl, hb1⟩
  clear b0 b1 b2 b3
  replace rs := rs.kept hb1
  replace E0 := Lib.hid (below_on E0.out hb1)
  clear hb1 bx
  obtain ⟨b0, b1, b2, b3⟩ := rs.facts
  go_wp2_with fail
  refine bodyPost_ret (v := .tuple #[.agg #[.int .i64 0, .slice none 0 0], .int .i64 2]) (by simp [results, Try.results31, go_sem, b0, b1]) rfl (zres_bad ?_)
  exact (E0.out.setCell (by show w.heap.size ≤ w.heap.size + 1; omega) _).setCell (by show w.heap.size ≤ w.heap.size + 1; omega) _

set_option maxHeartbeats 800000 in
theorem re_out0 (n : Nat) (l : List Int) (a : Addr) (cap : Nat) (i c : Int) (w : World) (hn : n ≤ 10) (hl : l.length = (n + 1) * (n + 1)) (hR : Rd w a l) (hc : chkE n l = 0) (hi : i < 1) :
    Calls Try.prog 31 #[.agg #[.int .i64 n, .slice (some a) l.length cap], .int .i64 i, .int .i64 c] w (ZRes w 0 [] 2) := by
  obtain ⟨len, hlen⟩ : ∃ len, len = l.length := ⟨_, rfl⟩
  obtain ⟨w0, hw0⟩ : ∃ w0, w0 = (w.alloc (.cells #[.int .i64 n, .slice (some a) len cap] 25)).alloc (.cells #[.int .i64 0, .slice none 0 0] 25) := ⟨_, rfl⟩
  have bx : Two w0 w.heap.size (.int .i64 n) (.slice (some a) len cap) := by rw [hw0]; exact (Two.made _ _ _ _).alloc _
  have rs : Two w0 (w.heap.size + 1) (.int .i64 0) (.slice none 0 0) := by
    rw [hw0]
    have := Two.made (w.alloc (.cells #[.int .i64 n, .slice (some a) len cap] 25)) (.int .i64 0) (.slice none 0 0) 25
    simpa using this
  have z0 : w0.heap.size = w.heap.size + 2 := by rw [hw0]; simp
  have e0 : Below w.heap.size w w0 := by rw [hw0]; exact past_two (Below.refl _ _)
  have R0 := hR.on e0
  have CK : Hid (∀ W, Rd W a l → Calls Try.prog 18 #[.agg #[.int .i64 n, .slice (some a) len cap]] W (Made (.int .i64 0) W)) := Lib.hid fun W h => by have := check_any n l a cap W hn hl h; rw [hc, ← hlen] at this; exact this
  have CP : Hid (∀ W, Rd W a l → Calls Try.prog 66 #[.agg #[.int .i64 n, .slice (some a) len cap]] W (fun e w' => ∃ g c, e = .returned (.agg #[.int .i64 n, .slice (some ⟨g, 0, none⟩) len c]) ∧ W.heap.size ≤ g ∧ Own w' g c l ∧ Below W.heap.size W w')) := Lib.hid fun W h => by have := copied_any n l a cap W (by rw [hl]; exact dsq_pos n) (by rw [hl]; have := dsq_le hn; omega) h; rw [← hlen] at this; exact this
  have HR := Lib.hid R0
  have HL := Lib.hid hl
  have HLn := Lib.hid hlen
  have E0 := Lib.hid e0
  rw [← hlen]
  clear hR R0 hl hlen hc e0
  go_enter Try.func31, Try.ntmps31
  go_wp2_with fail
  rw [← hw0]
  clear hw0
  obtain ⟨b0, b1, b2, b3⟩ := bx.facts
  go_wp2_with fail
  refine (CK.out _ HR.out).mono ?_
  rintro e w1 ⟨rfl, hb1⟩
  clear b0 b1 b2 b3
  replace bx := bx.kept hb1
  replace rs := rs.kept hb1
  have HR1 := Lib.hid (HR.out.on hb1)
  have E1 := Lib.hid (below_on E0.out hb1)
  have z1 := hb1.size
  clear hb1 HR E0
  obtain ⟨b0, b1, b2, b3⟩ := bx.facts
  clear b0 b1 b2 b3
  obtain ⟨b0, b1, b2, b3⟩ := rs.facts
  obtain ⟨c0, c1, _, _⟩ := bx.facts
  go_wp2_with fail
  refine bodyPost_ret (v := .tuple #[.agg #[.int .i64 0, .slice none 0 0], .int .i64 2]) (by simp [results, Try.results31, go_sem, b0, b1]) rfl (zres_bad ?_)
  exact (E1.out.setCell (by show w.heap.size ≤ w.heap.size + 1; omega) _).setCell (by show w.heap.size ≤ w.heap.size + 1; omega) _

set_option maxHeartbeats 800000 in
theorem re_out1 (n : Nat) (l : List Int) (a : Addr) (cap : Nat) (i c : Int) (w : World) (hn : n ≤ 10) (hl : l.length = (n + 1) * (n + 1)) (hR : Rd w a l) (hc : chkE n l = 0) (h1 : ¬ i < 1) (h2 : (n : Int) < i) :
    Calls Try.prog 31 #[.agg #[.int .i64 n, .slice (some a) l.length cap], .int .i64 i, .int .i64 c] w (ZRes w 0 [] 2) := by
  obtain ⟨len, hlen⟩ : ∃ len, len = l.length := ⟨_, rfl⟩
  obtain ⟨w0, hw0⟩ : ∃ w0, w0 = (w.alloc (.cells #[.int .i64 n, .slice (some a) len cap] 25)).alloc (.cells #[.int .i64 0, .slice none 0 0] 25) := ⟨_, rfl⟩
  have bx : Two w0 w.heap.size (.int .i64 n) (.slice (some a) len cap) := by rw [hw0]; exact (Two.made _ _ _ _).alloc _
  have rs : Two w0 (w.heap.size + 1) (.int .i64 0) (.slice none 0 0) := by
    rw [hw0]
    have := Two.made (w.alloc (.cells #[.int .i64 n, .slice (some a) len cap] 25)) (.int .i64 0) (.slice none 0 0) 25
    simpa using this
  have z0 : w0.heap.size = w.heap.size + 2 := by rw [hw0]; simp
  have e0 : Below w.heap.size w w0 := by rw [hw0]; exact past_two (Below.refl _ _)
  have R0 := hR.on e0
  have CK : Hid (∀ W, Rd W a l → Calls Try.prog 18 #[.agg #[.int .i64 n, .slice (some a) len cap]] W (Made (.int .i64 0) W)) := Lib.hid fun W h => by have := check_any n l a cap W hn hl h; rw [hc, ← hlen] at this; exact this
  have CP : Hid (∀ W, Rd W a l → Calls Try.prog 66 #[.agg #[.int .i64 n, .slice (some a) len cap]] W (fun e w' => ∃ g c, e = .returned (.agg #[.int .i64 n, .slice (some ⟨g, 0, none⟩) len c]) ∧ W.heap.size ≤ g ∧ Own w' g c l ∧ Below W.heap.size W w')) := Lib.hid fun W h => by have := copied_any n l a cap W (by rw [hl]; exact dsq_pos n) (by rw [hl]; have := dsq_le hn; omega) h; rw [← hlen] at this; exact this
  have HR := Lib.hid R0
  have HL := Lib.hid hl
  have HLn := Lib.hid hlen
  have E0 := Lib.hid e0
  rw [← hlen]
  clear hR R0 hl hlen hc e0
  go_enter Try.func31, Try.ntmps31
  go_wp2_with fail
  rw [← hw0]
  clear hw0
  obtain ⟨b0, b1, b2, b3⟩ := bx.facts
  go_wp2_with fail
  refine (CK.out _ HR.out).mono ?_
  rintro e w1 ⟨rfl, hb1⟩
  clear b0 b1 b2 b3
  replace bx := bx.kept hb1
  replace rs := rs.kept hb1
  have HR1 := Lib.hid (HR.out.on hb1)
  have E1 := Lib.hid (below_on E0.out hb1)
  have z1 := hb1.size
  clear hb1 HR E0
  obtain ⟨b0, b1, b2, b3⟩ := bx.facts
  clear b0 b1 b2 b3
  obtain ⟨b0, b1, b2, b3⟩ := rs.facts
  obtain ⟨c0, c1, _, _⟩ := bx.facts
  go_wp2_with fail
  refine bodyPost_ret (v := .tuple #[.agg #[.int .i64 0, .slice none 0 0], .int .i64 2]) (by simp [results, Try.results31, go_sem, b0, b1]) rfl (zres_bad ?_)
  exact (E1.out.setCell (by show w.heap.size ≤ w.heap.size + 1; omega) _).setCell (by show w.heap.size ≤ w.heap.size + 1; omega) _

set_option maxHeartbeats 800000 in
theorem re_out2 (n : Nat) (l : List Int) (a : Addr) (cap : Nat) (i c : Int) (w : World) (hn : n ≤ 10) (hl : l.length = (n + 1) * (n + 1)) (hR : Rd w a l) (hc : chkE n l = 0) (h1 : ¬ i < 1) (h2 : ¬ (n : Int) < i) (h3 : cnB c = false) :
    Calls Try.prog 31 #[.agg #[.int .i64 n, .slice (some a) l.length cap], .int .i64 i, .int .i64 c] w (ZRes w 0 [] 2) := by
  have p := fun W => constant_any c W
  rw [h3] at p
  have CN := Lib.hid p
  clear p h3
  obtain ⟨len, hlen⟩ : ∃ len, len = l.length := ⟨_, rfl⟩
  obtain ⟨w0, hw0⟩ : ∃ w0, w0 = (w.alloc (.cells #[.int .i64 n, .slice (some a) len cap] 25)).alloc (.cells #[.int .i64 0, .slice none 0 0] 25) := ⟨_, rfl⟩
  have bx : Two w0 w.heap.size (.int .i64 n) (.slice (some a) len cap) := by rw [hw0]; exact (Two.made _ _ _ _).alloc _
  have rs : Two w0 (w.heap.size + 1) (.int .i64 0) (.slice none 0 0) := by
    rw [hw0]
    have := Two.made (w.alloc (.cells #[.int .i64 n, .slice (some a) len cap] 25)) (.int .i64 0) (.slice none 0 0) 25
    simpa using this
  have z0 : w0.heap.size = w.heap.size + 2 := by rw [hw0]; simp
  have e0 : Below w.heap.size w w0 := by rw [hw0]; exact past_two (Below.refl _ _)
  have R0 := hR.on e0
  have CK : Hid (∀ W, Rd W a l → Calls Try.prog 18 #[.agg #[.int .i64 n, .slice (some a) len cap]] W (Made (.int .i64 0) W)) := Lib.hid fun W h => by have := check_any n l a cap W hn hl h; rw [hc, ← hlen] at this; exact this
  have CP : Hid (∀ W, Rd W a l → Calls Try.prog 66 #[.agg #[.int .i64 n, .slice (some a) len cap]] W (fun e w' => ∃ g c, e = .returned (.agg #[.int .i64 n, .slice (some ⟨g, 0, none⟩) len c]) ∧ W.heap.size ≤ g ∧ Own w' g c l ∧ Below W.heap.size W w')) := Lib.hid fun W h => by have := copied_any n l a cap W (by rw [hl]; exact dsq_pos n) (by rw [hl]; have := dsq_le hn; omega) h; rw [← hlen] at this; exact this
  have HR := Lib.hid R0
  have HL := Lib.hid hl
  have HLn := Lib.hid hlen
  have E0 := Lib.hid e0
  rw [← hlen]
  clear hR R0 hl hlen hc e0
  go_enter Try.func31, Try.ntmps31
  go_wp2_with fail
  rw [← hw0]
  clear hw0
  obtain ⟨b0, b1, b2, b3⟩ := bx.facts
  go_wp2_with fail
  refine (CK.out _ HR.out).mono ?_
  rintro e w1 ⟨rfl, hb1⟩
  clear b0 b1 b2 b3
  replace bx := bx.kept hb1
  replace rs := rs.kept hb1
  have HR1 := Lib.hid (HR.out.on hb1)
  have E1 := Lib.hid (below_on E0.out hb1)
  have z1 := hb1.size
  clear hb1 HR E0
  obtain ⟨b0, b1, b2, b3⟩ := bx.facts
  go_wp2_with fail
  refine (CN.out _).mono ?_
  rintro e w2 ⟨rfl, rfl⟩
  clear b0 b1 b2 b3
  obtain ⟨b0, b1, b2, b3⟩ := rs.facts
  obtain ⟨c0, c1, _, _⟩ := bx.facts
  go_wp2_with fail
  refine bodyPost_ret (v := .tuple #[.agg #[.int .i64 0, .slice none 0 0], .int .i64 2]) (by simp [results, Try.results31, go_sem, b0, b1]) rfl (zres_bad ?_)
  exact (E1.out.setCell (by show w.heap.size ≤ w.heap.size + 1; omega) _).setCell (by show w.heap.size ≤ w.heap.size + 1; omega) _

theorem own_below {w w' : World} {g c : Nat} {l : List Int} (h : Own w g c l) (hb : Below w.heap.size w w') : Own w' g c l :=
  h.kept (row := none) ⟨hb.os, hb.tape, hb.output, hb.size, fun k hk _ => hb.block k hk⟩ (by simp)

set_option maxHeartbeats 1600000 in
theorem re_any (n : Nat) (l : List Int) (a : Addr) (cap : Nat) (i : Nat) (c : Int) (w : World) (hn : n ≤ 10) (hl : l.length = (n + 1) * (n + 1)) (hR : Rd w a l) (hc : chkE n l = 0) (hi1 : 1 ≤ i) (hi2 : i ≤ n) (hcn : cnB c = true) :
    Calls Try.prog 31 #[.agg #[.int .i64 n, .slice (some a) l.length cap], .int .i64 i, .int .i64 c] w (ZRes w n (reL n i c l) (reE n i c l)) := by
  have p := fun W => constant_any c W
  rw [hcn] at p
  have CN := Lib.hid p
  have c0 : 0 ≤ c ∧ c ≤ 1048576 := by unfold cnB at hcn; simpa using hcn
  have IS := Lib.hid fun W => is_any (i : Int) 0 c W c0.1 c0.2
  have FR : Hid (∀ W, Rd W a l → Calls Try.prog 33 #[.agg #[.int .i64 n, .slice (some a) l.length cap], .int .i64 i] W (ZRes W n (reM n i l) (cloE n (frL n i l)))) := Lib.hid fun W h => fr_any n l a cap i W hn hl h hc hi1 hi2
  clear p hcn c0
  rw [show l.length = l.length from rfl] at FR
  obtain ⟨len, hlen⟩ : ∃ len, len = l.length := ⟨_, rfl⟩
  obtain ⟨w0, hw0⟩ : ∃ w0, w0 = (w.alloc (.cells #[.int .i64 n, .slice (some a) len cap] 25)).alloc (.cells #[.int .i64 0, .slice none 0 0] 25) := ⟨_, rfl⟩
  have bx : Two w0 w.heap.size (.int .i64 n) (.slice (some a) len cap) := by rw [hw0]; exact (Two.made _ _ _ _).alloc _
  have rs : Two w0 (w.heap.size + 1) (.int .i64 0) (.slice none 0 0) := by
    rw [hw0]
    have := Two.made (w.alloc (.cells #[.int .i64 n, .slice (some a) len cap] 25)) (.int .i64 0) (.slice none 0 0) 25
    simpa using this
  have z0 : w0.heap.size = w.heap.size + 2 := by rw [hw0]; simp
  have e0 : Below w.heap.size w w0 := by rw [hw0]; exact past_two (Below.refl _ _)
  have R0 := hR.on e0
  have CK : Hid (∀ W, Rd W a l → Calls Try.prog 18 #[.agg #[.int .i64 n, .slice (some a) len cap]] W (Made (.int .i64 0) W)) := Lib.hid fun W h => by have := check_any n l a cap W hn hl h; rw [hc, ← hlen] at this; exact this
  have CP : Hid (∀ W, Rd W a l → Calls Try.prog 66 #[.agg #[.int .i64 n, .slice (some a) len cap]] W (fun e w' => ∃ g c, e = .returned (.agg #[.int .i64 n, .slice (some ⟨g, 0, none⟩) len c]) ∧ W.heap.size ≤ g ∧ Own w' g c l ∧ Below W.heap.size W w')) := Lib.hid fun W h => by have := copied_any n l a cap W (by rw [hl]; exact dsq_pos n) (by rw [hl]; have := dsq_le hn; omega) h; rw [← hlen] at this; exact this
  have HR := Lib.hid R0
  have HL := Lib.hid hl
  have HLn := Lib.hid hlen
  have E0 := Lib.hid e0
  have FR2 : Hid (∀ W, Rd W a l → Calls Try.prog 33 #[.agg #[.int .i64 n, .slice (some a) len cap], .int .i64 i] W (ZRes W n (reM n i l) (cloE n (frL n i l)))) := by rw [hlen]; exact FR
  clear FR
  rw [← hlen]
  clear hR R0 hl hlen hc e0
  by_cases h1 : cloE n (frL n i l) = 0
  · by_cases h2 : anG n (isC i 0 c) (reM n i l) = 0
    · have HLM0 := Lib.hid (show reL n i c l = Zo.clo n (anL n (isC i 0 c) (reM n i l)) from rfl)
      have HRE := Lib.hid (show reE n i c l = anG n (isC i 0 c) (reM n i l) by unfold reE; rw [if_pos h1])
      have H1 := Lib.hid h1
      have AN := Lib.hid fun (W : World) (g c5 q : Nat) (hA : Own W g c5 (reM n i l)) (hD : Rd3 W ⟨q, 0, none⟩ (isC i 0 c)) => an_gen n (reM n i l) (some ⟨g, 0, none⟩) c5 (isC i 0 c) (some ⟨q, 0, none⟩) 2 W hA.arg (fun _ => ⟨_, rfl, hD⟩) (by simp [isC])
      have H2 := Lib.hid h2
      generalize (isC (i : Int) 0 c) = cs at *
      generalize hM : reM n i l = M at *
      clear h1 h2
      have HLM := Lib.hid (show reL n i c l = Zo.clo n (anL n cs M) from HLM0.out)
      have HLL := Lib.hid (show ∀ (g7 c7 : Nat), Ending.returned (.tuple #[.agg #[.int .i64 n, .slice (some ⟨g7, 0, none⟩) (Zo.clo n (anL n cs M)).length c7], .int .i64 0]) = Ending.returned (.tuple #[.agg #[.int .i64 n, .slice (some ⟨g7, 0, none⟩) (reL n i c l).length c7], .int .i64 0]) from fun g7 c7 => by rw [HLM.out])
      go_enter Try.func31, Try.ntmps31
      go_wp2_with fail
      rw [← hw0]
      clear hw0
      obtain ⟨b0, b1, b2, b3⟩ := bx.facts
      go_wp2_with fail
      refine (CK.out _ HR.out).mono ?_
      rintro e w1 ⟨rfl, hb1⟩
      clear b0 b1 b2 b3
      replace bx := bx.kept hb1
      replace rs := rs.kept hb1
      have HR1 := Lib.hid (HR.out.on hb1)
      have E1 := Lib.hid (below_on E0.out hb1)
      have z1 := hb1.size
      clear hb1 HR E0
      obtain ⟨b0, b1, b2, b3⟩ := bx.facts
      go_wp2_with fail
      refine (CN.out _).mono ?_
      rintro e w2' ⟨rfl, rfl⟩
      go_wp2_with fail
      refine (FR2.out _ HR1.out).mono ?_
      intro e w3 hz
      obtain ⟨g, c5, rfl, hg, ho, hb3⟩ := hz.ok H1.out
      clear b0 b1 b2 b3 hz
      replace bx := bx.kept hb3
      replace rs := rs.kept hb3
      have E3 := Lib.hid (below_on E1.out hb3)
      have z3 := hb3.size
      clear hb3
      obtain ⟨w5, hw5⟩ : ∃ w5, w5 = (w3.setCell ⟨w.heap.size, 0, none⟩ (.int .i64 n)).setCell ⟨w.heap.size, 1, none⟩ (.slice (some ⟨g, 0, none⟩) M.length c5) := ⟨_, rfl⟩
      have bx5 : Two w5 w.heap.size (.int .i64 n) (.slice (some ⟨g, 0, none⟩) M.length c5) := by rw [hw5]; exact bx.put _ _
      have rs5 : Two w5 (w.heap.size + 1) (.int .i64 0) (.slice none 0 0) := by rw [hw5]; exact rs.aside (by omega) _ _
      have O5 := Lib.hid (show Own w5 g c5 M by rw [hw5]; exact put_far ho (by omega) _ _)
      have E5 := Lib.hid (show Below w.heap.size w w5 by rw [hw5]; exact (E3.out.setCell (by show w.heap.size ≤ w.heap.size; omega) _).setCell (by show w.heap.size ≤ w.heap.size; omega) _)
      have z5 : w.heap.size + 2 ≤ w5.heap.size := by have := rs5.lt; omega
      have KS := Lib.hid (show ∀ W : World, Below w5.heap.size w5 W → W.cell? ⟨w.heap.size, 0, none⟩ = some (.int .i64 n) ∧ W.cell? ⟨w.heap.size, 1, none⟩ = some (.slice (some ⟨g, 0, none⟩) M.length c5) from fun W h => ⟨kept h bx5.facts.1, kept h bx5.facts.2.1⟩)
      have KT := Lib.hid (show ∀ (W : World) (u v : Value), Below w5.heap.size w5 W → ((W.setCell ⟨w.heap.size + 1, 0, none⟩ u).setCell ⟨w.heap.size + 1, 1, none⟩ v).cell? ⟨w.heap.size, 0, none⟩ = some (.int .i64 n) ∧ ((W.setCell ⟨w.heap.size + 1, 0, none⟩ u).setCell ⟨w.heap.size + 1, 1, none⟩ v).cell? ⟨w.heap.size, 1, none⟩ = some (.slice (some ⟨g, 0, none⟩) M.length c5) from fun W u v h => by have t := (bx5.kept h).aside (show w.heap.size + 1 ≠ w.heap.size by omega) u v; exact ⟨t.facts.1, t.facts.2.1⟩)
      have KR := Lib.hid (show ∀ W : World, Below w5.heap.size w5 W → Two W (w.heap.size + 1) (.int .i64 0) (.slice none 0 0) from fun W h => rs5.kept h)
      have HO := Lib.hid ho
      obtain ⟨b0, b1, b2, b3⟩ := bx.facts
      clear ho bx rs E3
      go_wp2_with fail
      rw [← hw5]
      have HW5 := Lib.hid hw5
      clear hw5 b0 b1 b2 b3 bx5 rs5
      obtain ⟨b0, b1⟩ := KS.out _ (Below.refl _ _)
      go_wp2_with fail
      have s1 : Below w5.heap.size w5 w5.drew := (Below.refl _ _).drew
      go_region_held3 (fun w' => w'.cell? ⟨w.heap.size, 0, none⟩ = some (.int .i64 n) ∧ w'.cell? ⟨w.heap.size, 1, none⟩ = some (.slice (some ⟨g, 0, none⟩) M.length c5)) (first | exact KS.out _ s1 | exact KS.out _ s6 | exact KS.out _ s7 | exact KT.out _ _ _ s7)
        (first | (go_at_call 88; refine (IS.out _).mono ?_; rintro e w6 ⟨q, rfl, hd, hb6⟩; have s6 := below_on s1 hb6) | (go_at_call 25; refine (AN.out _ _ _ _ (own_below O5.out s6) hd).mono ?_; intro e w7 hz; obtain ⟨g7, c7, rfl, hg7, ho7, hb7⟩ := hz.ok H2.out; have s7 := below_on s6 hb7; obtain ⟨r0, r1, r2, r3⟩ := (KR.out _ s7).facts))
      go_wp2_with fail
      have z7 := s6.size
      refine bodyPost_ret (v := .tuple #[.agg #[.int .i64 n, .slice (some ⟨g7, 0, none⟩) (Zo.clo n (anL n cs M)).length c7], .int .i64 0]) (by simp [results, Try.results31, go_sem, r0, r1]) rfl ⟨((below_on E5.out s7).setCell (by show w.heap.size ≤ w.heap.size + 1; omega) _).setCell (by show w.heap.size ≤ w.heap.size + 1; omega) _, Or.inl ⟨by rw [HRE.out]; exact H2.out, g7, c7, HLL.out _ _, by omega, ?_⟩⟩
      rw [HLM.out]
      exact put_far ho7 (by omega) _ _
    · have HRE := Lib.hid (show reE n i c l = anG n (isC i 0 c) (reM n i l) by unfold reE; rw [if_pos h1])
      have H1 := Lib.hid h1
      have AN := Lib.hid fun (W : World) (g c5 q : Nat) (hA : Own W g c5 (reM n i l)) (hD : Rd3 W ⟨q, 0, none⟩ (isC i 0 c)) => an_gen n (reM n i l) (some ⟨g, 0, none⟩) c5 (isC i 0 c) (some ⟨q, 0, none⟩) 2 W hA.arg (fun _ => ⟨_, rfl, hD⟩) (by simp [isC])
      have H2 := Lib.hid h2
      generalize anG n (isC i 0 c) (reM n i l) = er at *
      generalize (isC (i : Int) 0 c) = cs at *
      generalize hM : reM n i l = M at *
      clear h1 h2
      go_enter Try.func31, Try.ntmps31
      go_wp2_with fail
      rw [← hw0]
      clear hw0
      obtain ⟨b0, b1, b2, b3⟩ := bx.facts
      go_wp2_with fail
      refine (CK.out _ HR.out).mono ?_
      rintro e w1 ⟨rfl, hb1⟩
      clear b0 b1 b2 b3
      replace bx := bx.kept hb1
      replace rs := rs.kept hb1
      have HR1 := Lib.hid (HR.out.on hb1)
      have E1 := Lib.hid (below_on E0.out hb1)
      have z1 := hb1.size
      clear hb1 HR E0
      obtain ⟨b0, b1, b2, b3⟩ := bx.facts
      go_wp2_with fail
      refine (CN.out _).mono ?_
      rintro e w2' ⟨rfl, rfl⟩
      go_wp2_with fail
      refine (FR2.out _ HR1.out).mono ?_
      intro e w3 hz
      obtain ⟨g, c5, rfl, hg, ho, hb3⟩ := hz.ok H1.out
      clear b0 b1 b2 b3 hz
      replace bx := bx.kept hb3
      replace rs := rs.kept hb3
      have E3 := Lib.hid (below_on E1.out hb3)
      have z3 := hb3.size
      clear hb3
      obtain ⟨w5, hw5⟩ : ∃ w5, w5 = (w3.setCell ⟨w.heap.size, 0, none⟩ (.int .i64 n)).setCell ⟨w.heap.size, 1, none⟩ (.slice (some ⟨g, 0, none⟩) M.length c5) := ⟨_, rfl⟩
      have bx5 : Two w5 w.heap.size (.int .i64 n) (.slice (some ⟨g, 0, none⟩) M.length c5) := by rw [hw5]; exact bx.put _ _
      have rs5 : Two w5 (w.heap.size + 1) (.int .i64 0) (.slice none 0 0) := by rw [hw5]; exact rs.aside (by omega) _ _
      have O5 := Lib.hid (show Own w5 g c5 M by rw [hw5]; exact put_far ho (by omega) _ _)
      have E5 := Lib.hid (show Below w.heap.size w w5 by rw [hw5]; exact (E3.out.setCell (by show w.heap.size ≤ w.heap.size; omega) _).setCell (by show w.heap.size ≤ w.heap.size; omega) _)
      have z5 : w.heap.size + 2 ≤ w5.heap.size := by have := rs5.lt; omega
      have KS := Lib.hid (show ∀ W : World, Below w5.heap.size w5 W → W.cell? ⟨w.heap.size, 0, none⟩ = some (.int .i64 n) ∧ W.cell? ⟨w.heap.size, 1, none⟩ = some (.slice (some ⟨g, 0, none⟩) M.length c5) from fun W h => ⟨kept h bx5.facts.1, kept h bx5.facts.2.1⟩)
      have KT := Lib.hid (show ∀ (W : World) (u v : Value), Below w5.heap.size w5 W → ((W.setCell ⟨w.heap.size + 1, 0, none⟩ u).setCell ⟨w.heap.size + 1, 1, none⟩ v).cell? ⟨w.heap.size, 0, none⟩ = some (.int .i64 n) ∧ ((W.setCell ⟨w.heap.size + 1, 0, none⟩ u).setCell ⟨w.heap.size + 1, 1, none⟩ v).cell? ⟨w.heap.size, 1, none⟩ = some (.slice (some ⟨g, 0, none⟩) M.length c5) from fun W u v h => by have t := (bx5.kept h).aside (show w.heap.size + 1 ≠ w.heap.size by omega) u v; exact ⟨t.facts.1, t.facts.2.1⟩)
      have KR := Lib.hid (show ∀ W : World, Below w5.heap.size w5 W → Two W (w.heap.size + 1) (.int .i64 0) (.slice none 0 0) from fun W h => rs5.kept h)
      have HO := Lib.hid ho
      obtain ⟨b0, b1, b2, b3⟩ := bx.facts
      clear ho bx rs E3
      go_wp2_with fail
      rw [← hw5]
      have HW5 := Lib.hid hw5
      clear hw5 b0 b1 b2 b3 bx5 rs5
      obtain ⟨b0, b1⟩ := KS.out _ (Below.refl _ _)
      go_wp2_with fail
      have s1 : Below w5.heap.size w5 w5.drew := (Below.refl _ _).drew
      go_region_held3 (fun w' => w'.cell? ⟨w.heap.size, 0, none⟩ = some (.int .i64 n) ∧ w'.cell? ⟨w.heap.size, 1, none⟩ = some (.slice (some ⟨g, 0, none⟩) M.length c5)) (first | exact KS.out _ s1 | exact KS.out _ s6 | exact KS.out _ s7 | exact KT.out _ _ _ s7)
        (first | (go_at_call 88; refine (IS.out _).mono ?_; rintro e w6 ⟨q, rfl, hd, hb6⟩; have s6 := below_on s1 hb6) | (go_at_call 25; refine (AN.out _ _ _ _ (own_below O5.out s6) hd).mono ?_; intro e w7 hz; obtain ⟨rfl, hb7⟩ := hz.no H2.out; have s7 := below_on s6 hb7; obtain ⟨r0, r1, r2, r3⟩ := (KR.out _ s7).facts))
      go_wp2_with fail
      refine bodyPost_ret (v := .tuple #[.agg #[.int .i64 0, .slice none 0 0], .int .i64 er]) (by simp [results, Try.results31, go_sem, r0, r1]) rfl ⟨((below_on E5.out s7).setCell (by show w.heap.size ≤ w.heap.size + 1; omega) _).setCell (by show w.heap.size ≤ w.heap.size + 1; omega) _, Or.inr ⟨by rw [HRE.out]; exact H2.out, by rw [HRE.out]⟩⟩
  · have HRE := Lib.hid (show reE n i c l = cloE n (frL n i l) by unfold reE; rw [if_neg h1])
    have H1 := Lib.hid h1
    generalize cloE n (frL n i l) = er at *
    have E1B : (er != 0) = true := by simpa using h1
    clear h1
    go_enter Try.func31, Try.ntmps31
    go_wp2_with fail
    rw [← hw0]
    clear hw0
    obtain ⟨b0, b1, b2, b3⟩ := bx.facts
    go_wp2_with fail
    refine (CK.out _ HR.out).mono ?_
    rintro e w1 ⟨rfl, hb1⟩
    clear b0 b1 b2 b3
    replace bx := bx.kept hb1
    replace rs := rs.kept hb1
    have HR1 := Lib.hid (HR.out.on hb1)
    have E1 := Lib.hid (below_on E0.out hb1)
    have z1 := hb1.size
    clear hb1 HR E0
    obtain ⟨b0, b1, b2, b3⟩ := bx.facts
    go_wp2_with fail
    refine (CN.out _).mono ?_
    rintro e w2' ⟨rfl, rfl⟩
    go_wp2_with fail
    refine (FR2.out _ HR1.out).mono ?_
    intro e w3 hz
    obtain ⟨rfl, hb3⟩ := hz.no H1.out
    clear b0 b1 b2 b3 hz
    replace bx := bx.kept hb3
    replace rs := rs.kept hb3
    have E3 := Lib.hid (below_on E1.out hb3)
    have z3 := hb3.size
    clear hb3
    obtain ⟨b0, b1, b2, b3⟩ := bx.facts
    obtain ⟨r0, r1, r2, r3⟩ := rs.facts
    go_wp2_with fail
    refine bodyPost_ret (v := .tuple #[.agg #[.int .i64 0, .slice none 0 0], .int .i64 er]) (by simp [results, Try.results31, go_sem, r0, r1]) rfl ⟨?_, Or.inr ⟨by rw [HRE.out]; exact H1.out, by rw [HRE.out]⟩⟩
    exact (((E3.out.setCell (by show w.heap.size ≤ w.heap.size; omega) _).setCell (by show w.heap.size ≤ w.heap.size; omega) _).setCell (by show w.heap.size ≤ w.heap.size + 1; omega) _).setCell (by show w.heap.size ≤ w.heap.size + 1; omega) _
end Go.Proofs.Ytmlknjiifjdimaa
