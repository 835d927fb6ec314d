/- A part. -/
import Derived.Test.YthjapmdfcbngmaaGreatWr7
import Derived.BigRegion
namespace Go.Proofs.YthjapmdfcbngmaaGreat
set_option maxHeartbeats 1600000
open Go.RowKit
def Arg (w : World) (ao : Option Addr) (l : List Int) : Prop := l ≠ [] → ∃ a, ao = some a ∧ Rd w a l
theorem Arg.on {w w' : World} {ao : Option Addr} {l : List Int} (h : Arg w ao l) (hb : Below w.heap.size w w') : Arg w' ao l := fun hl => by
 obtain ⟨a, h1, h2⟩ := h hl
 exact ⟨a, h1, h2.on hb⟩
theorem dim_nat {N : Int} (h : dimB N = true) : ∃ n : Nat, N = n ∧ n ≤ 10 := by
 unfold dimB at h; simp at h
 exact ⟨N.toNat, by omega, by omega⟩
theorem chk_ok {N : Int} {l : List Int} (h : chkE N l = 0) : ∃ n : Nat, N = n ∧ n ≤ 10 ∧ l.length = (n + 1) * (n + 1) ∧ l ≠ [] := by
 unfold chkE at h
 split at h
 · rename_i c
   unfold chkB at c
   simp only [Bool.and_eq_true, decide_eq_true_eq] at c
   obtain ⟨n, rfl, hn⟩ := dim_nat c.1.1.1
   have hl := c.1.1.2
   simp at hl
   refine ⟨n, rfl, hn, hl, fun e => ?_⟩
   have := dsq_pos n
   rw [e] at hl; simp at hl
 · omega
theorem chk_two {N : Int} {l : List Int} (h : chkE N l ≠ 0) : chkE N l = 2 := by
 unfold chkE at h ⊢; split <;> simp_all
theorem check_gen (N : Int) (l : List Int) (ao : Option Addr) (cap : Nat) (w : World) (hA : Arg w ao l) :
  Calls Tryz.prog 39 #[.agg #[.int .i64 N, .slice ao l.length cap]] w (Made (.int .i64 (chkE N l)) w) := by
 cases hd : dimB N
 · exact check_bad1 N l ao cap w hd
 · obtain ⟨n, rfl, hn⟩ := dim_nat hd
   by_cases hl : l.length = (n + 1) * (n + 1)
   · obtain ⟨a, rfl, hR⟩ := hA (fun e => by have := dsq_pos n; rw [e] at hl; simp at hl)
     exact check_any n l a cap w hn hl hR
   · exact check_bad2 n l ao cap w hn hl
theorem check_as {N : Int} {l : List Int} {ao : Option Addr} {cap : Nat} {e : Int} (w : World) (hA : Arg w ao l) (h : chkE N l = e) :
  Calls Tryz.prog 39 #[.agg #[.int .i64 N, .slice ao l.length cap]] w (Made (.int .i64 e) w) := by rw [← h]; exact check_gen N l ao cap w hA
theorem zres_bad {w w' : World} {N : Int} {l : List Int} (hb : Below w.heap.size w w') : ZRes w N l 2 (.returned (.tuple #[.agg #[.int .i64 0, .slice none 0 0], .int .i64 2])) w' := ⟨hb, Or.inr ⟨by decide, rfl⟩⟩
theorem ZRes.bad {w w' : World} {N : Int} {l l' : List Int} {er : Int} {N' : Int} {e : Ending} (h : ZRes w N l 2 e w') (he : er = 2) : ZRes w N' l' er e w' := by
 subst he
 refine ⟨h.1, ?_⟩
 rcases h.2 with ⟨c, _⟩ | c
 · omega
 · exact Or.inr c
theorem up_bad (N : Int) (l : List Int) (ao : Option Addr) (cap : Nat) (w : World) (hA : Arg w ao l) (hc : chkE N l = 2) :
  Calls Tryz.prog 63 #[.agg #[.int .i64 N, .slice ao l.length cap]] w (ZRes w 0 [] 2) := by
 have CK := Lib.hid fun W (h : Below w.heap.size w W) => check_as (cap := cap) W (hA.on h) hc
 generalize l.length = len at *
 obtain ⟨w0, hw0⟩ : ∃ w0, w0 = (w.alloc (.cells #[.int .i64 N, .slice ao len cap] 36)).alloc (.cells #[.int .i64 0, .slice none 0 0] 36) := ⟨_, rfl⟩
 have bx : Two w0 w.heap.size (.int .i64 N) (.slice ao len cap) := by rw [hw0]; exact (Two.made _ _ _ _).alloc _
 have rs : Two w0 (w.heap.size + 1) (.int .i64 0) (.slice none 0 0) := by
  rw [hw0]
  have := Two.made (w.alloc (.cells #[.int .i64 N, .slice ao len cap] 36)) (.int .i64 0) (.slice none 0 0) 36
  simpa using this
 have e0 : Below w.heap.size w w0 := by rw [hw0]; exact past_two (Below.refl _ _)
 have E0 := Lib.hid e0
 clear e0 hA hc
 go_enter Tryz.func63, Tryz.ntmps63
 go_wp2_with fail
 rw [← hw0]
 clear hw0
 obtain ⟨b0, b1, b2, b3⟩ := bx.facts
 go_wp2_with fail
 refine (CK.out _ E0.out).mono ?_
 rintro e w1 ⟨rfl, hb1⟩
 clear b0 b1 b2 b3
 replace rs := rs.kept hb1
 replace E0 := Lib.hid (below_on E0.out hb1)
 clear hb1 bx
 obtain ⟨b0, b1, b2, b3⟩ := rs.facts
 go_wp2_with fail
 refine bodyPost_ret (v := .tuple #[.agg #[.int .i64 0, .slice none 0 0], .int .i64 2]) (by simp [results, Tryz.results63, go_sem, b0, b1]) rfl (zres_bad ?_)
 exact (E0.out.setCell (by show w.heap.size ≤ w.heap.size + 1; omega) _).setCell (by show w.heap.size ≤ w.heap.size + 1; omega) _
def upE (N : Int) (l : List Int) : Int := if chkE N l = 0 then cloE N.toNat (upL N.toNat l) else 2
theorem up_gen (N : Int) (l : List Int) (ao : Option Addr) (cap : Nat) (w : World) (hA : Arg w ao l) :
  Calls Tryz.prog 63 #[.agg #[.int .i64 N, .slice ao l.length cap]] w (ZRes w N (Zo.clo N.toNat (upL N.toNat l)) (upE N l)) := by
 by_cases hc : chkE N l = 0
 · obtain ⟨n, rfl, hn, hl, hne⟩ := chk_ok hc
   obtain ⟨a, rfl, hR⟩ := hA hne
   have := up_any n l a cap w hn hl hR hc
   rw [show upE (n : Int) l = cloE n (upL n l) by unfold upE; rw [if_pos hc]; rfl]
   exact this
 · exact (up_bad N l ao cap w hA (chk_two hc)).mono fun e w' h => h.bad (by unfold upE; rw [if_neg hc])
theorem dn_bad (N : Int) (l : List Int) (ao : Option Addr) (cap : Nat) (w : World) (hA : Arg w ao l) (hc : chkE N l = 2) :
  Calls Tryz.prog 66 #[.agg #[.int .i64 N, .slice ao l.length cap]] w (ZRes w 0 [] 2) := by
 have CK := Lib.hid fun W (h : Below w.heap.size w W) => check_as (cap := cap) W (hA.on h) hc
 generalize l.length = len at *
 obtain ⟨w0, hw0⟩ : ∃ w0, w0 = (w.alloc (.cells #[.int .i64 N, .slice ao len cap] 36)).alloc (.cells #[.int .i64 0, .slice none 0 0] 36) := ⟨_, rfl⟩
 have bx : Two w0 w.heap.size (.int .i64 N) (.slice ao len cap) := by rw [hw0]; exact (Two.made _ _ _ _).alloc _
 have rs : Two w0 (w.heap.size + 1) (.int .i64 0) (.slice none 0 0) := by
  rw [hw0]
  have := Two.made (w.alloc (.cells #[.int .i64 N, .slice ao len cap] 36)) (.int .i64 0) (.slice none 0 0) 36
  simpa using this
 have e0 : Below w.heap.size w w0 := by rw [hw0]; exact past_two (Below.refl _ _)
 have E0 := Lib.hid e0
 clear e0 hA hc
 go_enter Tryz.func66, Tryz.ntmps66
 go_wp2_with fail
 rw [← hw0]
 clear hw0
 obtain ⟨b0, b1, b2, b3⟩ := bx.facts
 go_wp2_with fail
 refine (CK.out _ E0.out).mono ?_
 rintro e w1 ⟨rfl, hb1⟩
 clear b0 b1 b2 b3
 replace rs := rs.kept hb1
 replace E0 := Lib.hid (below_on E0.out hb1)
 clear hb1 bx
 obtain ⟨b0, b1, b2, b3⟩ := rs.facts
 go_wp2_with fail
 refine bodyPost_ret (v := .tuple #[.agg #[.int .i64 0, .slice none 0 0], .int .i64 2]) (by simp [results, Tryz.results66, go_sem, b0, b1]) rfl (zres_bad ?_)
 exact (E0.out.setCell (by show w.heap.size ≤ w.heap.size + 1; omega) _).setCell (by show w.heap.size ≤ w.heap.size + 1; omega) _
def dnE (N : Int) (l : List Int) : Int := if chkE N l = 0 then cloE N.toNat (dnL N.toNat l) else 2
theorem dn_gen (N : Int) (l : List Int) (ao : Option Addr) (cap : Nat) (w : World) (hA : Arg w ao l) :
  Calls Tryz.prog 66 #[.agg #[.int .i64 N, .slice ao l.length cap]] w (ZRes w N (Zo.clo N.toNat (dnL N.toNat l)) (dnE N l)) := by
 by_cases hc : chkE N l = 0
 · obtain ⟨n, rfl, hn, hl, hne⟩ := chk_ok hc
   obtain ⟨a, rfl, hR⟩ := hA hne
   have := dn_any n l a cap w hn hl hR hc
   rw [show dnE (n : Int) l = cloE n (dnL n l) by unfold dnE; rw [if_pos hc]; rfl]
   exact this
 · exact (dn_bad N l ao cap w hA (chk_two hc)).mono fun e w' h => h.bad (by unfold dnE; rw [if_neg hc])
def smB (N M : Int) (l m : List Int) : Bool := decide (N = M) && decide (l = m)
theorem smB_no1 {N M : Int} {l m : List Int} (h : N ≠ M) : smB N M l m = false := by simp [smB, h]
theorem smB_no2 {N M : Int} {l m : List Int} (h : l.length ≠ m.length) : smB N M l m = false := by
 have : l ≠ m := fun e => h (by rw [e])
 simp [smB, this]
theorem smB_no3 {N M : Int} {l m : List Int} {k : Nat} (h : Zo.gt l k ≠ Zo.gt m k) : smB N M l m = false := by
 have : l ≠ m := fun e => h (by rw [e])
 simp [smB, this]
theorem smB_yes {N M : Int} {l m : List Int} (h : N = M) (hl : l.length = m.length) (hk : ∀ k, k < l.length → Zo.gt l k = Zo.gt m k) : smB N M l m = true := by
 have : l = m := List.ext_getElem hl fun k h1 h2 => by
  have := hk k h1
  simpa [Zo.gt, h1, h2] using this
 simp [smB, h, this]
theorem same_any (N M : Int) (l m : List Int) (ao bo : Option Addr) (ca cb : Nat) (w : World) (hA : Arg w ao l) (hB : Arg w bo m) (ll : l.length ≤ 9223372036854775807) :
  Calls Tryz.prog 37 #[.agg #[.int .i64 N, .slice ao l.length ca], .agg #[.int .i64 M, .slice bo m.length cb]] w (Made (.bool (smB N M l m)) w) := by
 obtain ⟨len, hlen⟩ : ∃ len, len = l.length := ⟨_, rfl⟩
 obtain ⟨mlen, hmlen⟩ : ∃ mlen, mlen = m.length := ⟨_, rfl⟩
 obtain ⟨w0, hw0⟩ : ∃ w0, w0 = (w.alloc (.cells #[.int .i64 N, .slice ao len ca] 36)).alloc (.cells #[.int .i64 M, .slice bo mlen cb] 36) := ⟨_, rfl⟩
 have bx : Two w0 w.heap.size (.int .i64 N) (.slice ao len ca) := by rw [hw0]; exact (Two.made _ _ _ _).alloc _
 have by' : Two w0 (w.heap.size + 1) (.int .i64 M) (.slice bo mlen cb) := by
  rw [hw0]
  have := Two.made (w.alloc (.cells #[.int .i64 N, .slice ao len ca] 36)) (.int .i64 M) (.slice bo mlen cb) 36
  simpa using this
 have e0 : Below w.heap.size w w0 := by rw [hw0]; exact past_two (Below.refl _ _)
 have lb : (len : Int) ≤ 9223372036854775807 := by omega
 have HA := Lib.hid (hA.on e0)
 have HB := Lib.hid (hB.on e0)
 have HL := Lib.hid hlen
 have HM := Lib.hid hmlen
 have E0 := Lib.hid e0
 rw [← hlen, ← hmlen]
 clear hA hB hlen hmlen e0 ll
 by_cases hN : N = M
 · have N0 : (N != M) = false := by simpa using hN
   by_cases hS : len = mlen
   · have HS := Lib.hid hS
     have S0 : ((len : Int) != (mlen : Int)) = false := by simp; omega
     have HN := Lib.hid hN
     clear hN hS
     go_enter Tryz.func37, Tryz.ntmps37
     go_wp2_with fail
     rw [← hw0]
     clear hw0
     obtain ⟨b0, b1, b2, b3⟩ := bx.facts
     obtain ⟨c0, c1, c2, c3⟩ := by'.facts
     go_wp2_with fail
     try (go_quiet (fail); go_wp2_with fail)
     clear b0 b1 b2 b3 c0 c1 c2 c3
     go_loopw [5] (fun s wr => ∃ t : Nat, t ≤ len ∧ s = .int .i64 t ∧ Hid (∀ k, k < t → Zo.gt l k = Zo.gt m k) ∧ Hid (Below w0.heap.size w0 wr)) (fun s _ => len - (intOf s).toNat)
     case atStart => exact ⟨0, by omega, rfl, Lib.hid (fun k hk => by omega), Lib.hid (by first | exact Below.refl _ _ | exact below_drewN (Below.refl _ _) _)⟩
     case round =>
      obtain ⟨t, ht, rfl, HK, HBw⟩ := hrel
      obtain ⟨b0, b1, b2, b3⟩ := (bx.kept HBw.out).facts
      obtain ⟨c0, c1, c2, c3⟩ := (by'.kept HBw.out).facts
      by_cases htn : t < len
      · obtain ⟨a, hao, hR⟩ := HA.out (fun e => by have := HL.out; rw [e] at this; simp at this; omega)
        obtain ⟨b, hbo, hQ⟩ := HB.out (fun e => by have := HM.out; have := HS.out; rw [e] at *; simp at *; omega)
        subst hao hbo
        have d1 := kept HBw.out (hR t (by rw [← HL.out]; exact htn))
        have d2 := kept HBw.out (hQ t (by rw [← HM.out, ← HS.out]; exact htn))
        have t2 : (t : Int) < (mlen : Int) := by have := HS.out; omega
        obtain ⟨x, hx⟩ : ∃ x, x = Zo.gt l t := ⟨_, rfl⟩
        obtain ⟨y, hy⟩ : ∃ y, y = Zo.gt m t := ⟨_, rfl⟩
        rw [← hx] at d1
        rw [← hy] at d2
        have HXE := Lib.hid hx
        have HYE := Lib.hid hy
        clear hx hy hR hQ
        by_cases hxy : x = y
        · have D : (x != y) = false := by simpa using hxy
          have HXY := Lib.hid hxy
          clear hxy
          go_wp2_with fail
          go_quiet (fail)
          clear b0 b1 b2 b3 c0 c1 c2 c3 d1 d2
          go_wp2_with fail
          go_roundw
          case rel =>
           refine ⟨t + 1, by omega, by go_num, Lib.hid (fun k hk => ?_), Lib.hid (below_drewN HBw.out _)⟩
           by_cases e : k = t
           · rw [e, ← HXE.out, ← HYE.out]; exact HXY.out
           · exact HK.out k (by omega)
          case measure => simp [intOf]; omega
        · have D : (x != y) = true := by simpa using hxy
          have HE := Lib.hid (smB_no3 (N := N) (M := M) (l := l) (m := m) (k := t) (by rw [← HXE.out, ← HYE.out]; exact hxy))
          clear hxy
          go_wp2_with fail
          go_quiet (fail)
          clear b0 b1 b2 b3 c0 c1 c2 c3 d1 d2
          go_wp2_with fail
          go_ret
          exact ⟨ret_bool HE.out.symm, below_drewN (below_on E0.out HBw.out) _⟩
      · have HE := Lib.hid (smB_yes (l := l) (m := m) HN.out (by rw [← HL.out, ← HM.out]; exact HS.out) (fun k hk => HK.out k (by rw [← HL.out] at hk; omega)))
        go_wp2_with fail
        go_ret
        exact ⟨ret_bool HE.out.symm, below_on E0.out HBw.out⟩
   · have HE := Lib.hid (smB_no2 (N := N) (M := M) (l := l) (m := m) (by rw [← HL.out, ← HM.out]; exact hS))
     have S0 : ((len : Int) != (mlen : Int)) = true := by simp; omega
     clear hN
     go_enter Tryz.func37, Tryz.ntmps37
     go_wp2_with fail
     rw [← hw0]
     clear hw0
     obtain ⟨b0, b1, b2, b3⟩ := bx.facts
     obtain ⟨c0, c1, c2, c3⟩ := by'.facts
     go_wp2_with fail
     try (go_quiet (fail); go_wp2_with fail)
     go_ret
     exact ⟨ret_bool HE.out.symm, by first | exact E0.out | exact below_drewN E0.out _⟩
 · have HE := Lib.hid (smB_no1 (l := l) (m := m) hN)
   have N0 : (N != M) = true := by simpa using hN
   clear hN
   go_enter Tryz.func37, Tryz.ntmps37
   go_wp2_with fail
   rw [← hw0]
   clear hw0
   obtain ⟨b0, b1, b2, b3⟩ := bx.facts
   obtain ⟨c0, c1, c2, c3⟩ := by'.facts
   go_wp2_with fail
   try (go_quiet (fail); go_wp2_with fail)
   go_ret
   exact ⟨ret_bool HE.out.symm, by first | exact E0.out | exact below_drewN E0.out _⟩
def closeB (N : Int) (l : List Int) : Bool := dimB N && decide (l.length = (N.toNat + 1) * (N.toNat + 1)) && l.all lvB
def closeE (N : Int) (l : List Int) : Int := if closeB N l then cloE N.toNat l else 2
theorem closeE_bad1 {N : Int} {l : List Int} (h : dimB N = false) : closeE N l = 2 := by simp [closeE, closeB, h]
theorem closeE_bad2 {N : Int} {l : List Int} (h : l.length ≠ (N.toNat + 1) * (N.toNat + 1)) : closeE N l = 2 := by simp [closeE, closeB, h]
theorem closeE_bad3 {N : Int} {l : List Int} {k : Nat} (hk : k < l.length) (h : lvB (Zo.gt l k) = false) : closeE N l = 2 := by
 have : l.all lvB = false := by
  rw [List.all_eq_false]
  exact ⟨l[k], List.getElem_mem hk, by rw [show l[k] = Zo.gt l k by simp [Zo.gt, hk], h]; simp⟩
 simp [closeE, closeB, this]
theorem closeE_ok {n : Nat} {l : List Int} (hn : n ≤ 10) (hl : l.length = (n + 1) * (n + 1)) (h : ∀ k, k < l.length → lvB (Zo.gt l k) = true) : closeE (n : Int) l = cloE n l := by
 have h1 : l.all lvB = true := by
  rw [List.all_eq_true]
  intro x hx
  obtain ⟨k, hk, rfl⟩ := List.getElem_of_mem hx
  have := h k hk
  simpa [Zo.gt, hk] using this
 have d : dimB (n : Int) = true := by unfold dimB; simp; omega
 simp [closeE, closeB, d, hl, h1]
theorem two_res (w : World) : Two (w.alloc (.cells #[.int .i64 0, .slice none 0 0] 36)) w.heap.size (.int .i64 0) (.slice none 0 0) := Two.made _ _ _ _
theorem close_bad1 (N : Int) (l : List Int) (ao : Option Addr) (cap : Nat) (w : World) (h : dimB N = false) :
  Calls Tryz.prog 81 #[.int .i64 N, .slice ao l.length cap] w (ZRes w 0 [] 2) := by
 have p := fun W => dimension_any N W
 rw [h] at p
 have PD := Lib.hid p
 obtain ⟨b0, b1, b2, b3⟩ := (two_res w).facts
 clear p h
 go_enter Tryz.func81, Tryz.ntmps81
 go_wp2_with fail
 refine (PD.out _).mono ?_
 rintro e w1 ⟨rfl, rfl⟩
 go_wp2_with fail
 refine bodyPost_ret (v := .tuple #[.agg #[.int .i64 0, .slice none 0 0], .int .i64 2]) (by simp [results, Tryz.results81, go_sem]) rfl (zres_bad ?_)
 exact one_more _
theorem close_bad2 (n : Nat) (l : List Int) (ao : Option Addr) (cap : Nat) (w : World) (hn : n ≤ 10) (h : l.length ≠ (n + 1) * (n + 1)) :
  Calls Tryz.prog 81 #[.int .i64 n, .slice ao l.length cap] w (ZRes w 0 [] 2) := by
 have p := fun W => dimension_any n W
 rw [show dimB n = true by unfold dimB; simp; omega] at p
 have PD := Lib.hid p
 have t3 : ((n : Int) + 1) * ((n : Int) + 1) ≤ 121 ∧ 0 ≤ ((n : Int) + 1) * ((n : Int) + 1) := by
  have : (n + 1) * (n + 1) ≤ 11 * 11 := Nat.mul_le_mul (by omega) (by omega)
  constructor
  · exact_mod_cast this
  · exact_mod_cast Nat.zero_le _
 have h2 : ((l.length : Int) != ((n : Int) + 1) * ((n : Int) + 1)) = true := by
  simp; intro e; apply h; exact_mod_cast e
 generalize l.length = len at *
 obtain ⟨b0, b1, b2, b3⟩ := (two_res w).facts
 clear p h
 go_enter Tryz.func81, Tryz.ntmps81
 go_wp2_with fail
 refine (PD.out _).mono ?_
 rintro e w1 ⟨rfl, rfl⟩
 go_wp2_with fail
 refine bodyPost_ret (v := .tuple #[.agg #[.int .i64 0, .slice none 0 0], .int .i64 2]) (by simp [results, Tryz.results81, go_sem]) rfl (zres_bad ?_)
 exact one_more _
theorem close_any (n : Nat) (l : List Int) (a : Addr) (cap : Nat) (w : World) (hn : n ≤ 10) (hl : l.length = (n + 1) * (n + 1)) (hR : Rd w a l) :
  Calls Tryz.prog 81 #[.int .i64 n, .slice (some a) l.length cap] w (ZRes w n (Zo.clo n l) (closeE n l)) := by
 obtain ⟨len, hlen⟩ : ∃ len, len = l.length := ⟨_, rfl⟩
 obtain ⟨w0, hw0⟩ : ∃ w0, w0 = w.alloc (.cells #[.int .i64 0, .slice none 0 0] 36) := ⟨_, rfl⟩
 have rs : Two w0 w.heap.size (.int .i64 0) (.slice none 0 0) := by rw [hw0]; exact two_res w
 have e0 : Below w.heap.size w w0 := by rw [hw0]; exact one_more _
 have z0 : w0.heap.size = w.heap.size + 1 := by rw [hw0]; simp
 have HR := Lib.hid (hR.on e0)
 have CP : Hid (∀ W, Rd W a l → Calls Tryz.prog 93 #[.agg #[.int .i64 n, .slice (some a) len cap]] W (fun e w' => ∃ g c, e = .returned (.agg #[.int .i64 n, .slice (some ⟨g, 0, none⟩) len c]) ∧ W.heap.size ≤ g ∧ Own w' g c l ∧ Below W.heap.size W w')) := Lib.hid fun W h => by have := copied_any n l a cap W (by rw [hl]; exact dsq_pos n) (by rw [hl]; have := dsq_le hn; omega) h; rw [← hlen] at this; exact this
 have p := fun W => dimension_any n W
 rw [show dimB n = true by unfold dimB; simp; omega] at p
 have PD := Lib.hid p
 have t3 : ((n : Int) + 1) * ((n : Int) + 1) ≤ 121 ∧ 0 ≤ ((n : Int) + 1) * ((n : Int) + 1) := by
  have : (n + 1) * (n + 1) ≤ 11 * 11 := Nat.mul_le_mul (by omega) (by omega)
  constructor
  · exact_mod_cast this
  · exact_mod_cast Nat.zero_le _
 have h2 : ((len : Int) != ((n : Int) + 1) * ((n : Int) + 1)) = false := by
  rw [hlen, hl]; simp
 have lb : len ≤ 121 := by rw [hlen, hl]; exact dsq_le hn
 have lx : l.length = (n + 1) * (n + 1) := hl
 have HL := Lib.hid hl
 have HLn := Lib.hid hlen
 have E0 := Lib.hid e0
 rw [← hlen]
 clear p hl hlen hR e0 lx
 go_enter Tryz.func81, Tryz.ntmps81
 go_wp2_with fail
 rw [← hw0]
 clear hw0
 refine (PD.out _).mono ?_
 rintro e w1 ⟨rfl, rfl⟩
 go_wp2_with fail
 clear t3 h2
 go_loopw [6] (fun s wr => ∃ t : Nat, t ≤ len ∧ s = .int .i64 t ∧ Hid (∀ k, k < t → lvB (Zo.gt l k) = true) ∧ Hid (wr = w1)) (fun s _ => len - (intOf s).toNat)
 case atStart => exact ⟨0, by omega, rfl, Lib.hid (fun k hk => by omega), Lib.hid rfl⟩
 case round =>
  obtain ⟨t, ht, rfl, HK, HW⟩ := hrel
  have hwr := HW.out
  subst hwr
  clear HW
  by_cases htn : t < len
  · have d1 := HR.out t (by rw [← HLn.out]; exact htn)
    obtain ⟨x, hx⟩ : ∃ x, x = Zo.gt l t := ⟨_, rfl⟩
    rw [← hx] at d1
    have HXE := Lib.hid hx
    have v9 := fun W => refLimValid_free x W
    clear hx
    cases lv : lvB x
    · have HE := Lib.hid (closeE_bad3 (N := n) (l := l) (k := t) (by rw [← HLn.out]; exact htn) (by rw [← HXE.out]; exact lv))
      rw [lv] at v9
      have V9 := Lib.hid v9
      clear v9 lv
      obtain ⟨b0, b1, b2, b3⟩ := rs.facts
      go_wp2_with fail
      refine (V9.out _).mono ?_
      rintro e w2 ⟨rfl, rfl⟩
      go_wp2_with fail
      refine bodyPost_ret (v := .tuple #[.agg #[.int .i64 0, .slice none 0 0], .int .i64 2]) (by simp [results, Tryz.results81, go_sem, b0, b1]) rfl (ZRes.bad (zres_bad (N := 0) (l := []) ?_) HE.out)
      exact (E0.out.setCell (by show w.heap.size ≤ w.heap.size; omega) _).setCell (by show w.heap.size ≤ w.heap.size; omega) _
    · have HK2 := Lib.hid (show lvB (Zo.gt l t) = true by rw [← HXE.out]; exact lv)
      rw [lv] at v9
      have V9 := Lib.hid v9
      clear v9 lv
      go_wp2_with fail
      refine (V9.out _).mono ?_
      rintro e w2 ⟨rfl, rfl⟩
      go_wp2_with fail
      go_roundw
      case rel =>
       refine ⟨t + 1, by omega, by go_num, Lib.hid (fun k hk => ?_), by first | exact Lib.hid rfl | exact Lib.hid trivial⟩
       by_cases e : k = t
       · rw [e]; exact HK2.out
       · exact HK.out k (by omega)
      case measure => simp [intOf]; omega
  · have HAE := Lib.hid (closeE_ok hn HL.out (fun k hk => HK.out k (by rw [← HLn.out] at hk; omega)))
    go_wp2_with fail
    refine (CP.out _ HR.out).mono ?_
    rintro e w2 ⟨g, c, rfl, hg, ho, hb2⟩
    have rs2 := rs.kept hb2
    have E2 := Lib.hid (below_on E0.out hb2)
    have HO := Lib.hid ho
    have z2 := hb2.size
    clear hb2 ho
    go_wp2_with fail
    by_cases hE : cloE n l = 0
    · have CL : Hid (∀ W, Own W g c l → Calls Tryz.prog 94 #[.agg #[.int .i64 n, .slice (some ⟨g, 0, none⟩) len c]] W (fun e w' => e = .returned (.tuple #[.agg #[.int .i64 n, .slice (some ⟨g, 0, none⟩) len c], .int .i64 0]) ∧ Own w' g c (Zo.clo n l) ∧ W.grownBy w' (some g))) := Lib.hid fun W h => by have := closed_ok W hn HL.out h hE; rw [← HLn.out] at this; exact this
      have HEE := Lib.hid hE
      clear hE
      refine (CL.out _ HO.out).mono ?_
      rintro e w5 ⟨rfl, ho5, hg5⟩
      have rs5 := rs2.grown hg5 (by omega)
      obtain ⟨q0, q1, q2, q3⟩ := rs5.facts
      have E5 := Lib.hid (grown_over E2.out hg5 (by omega))
      have HO5 := Lib.hid ho5
      clear ho5 hg5
      go_wp2_with fail
      refine bodyPost_ret (v := .tuple #[.agg #[.int .i64 n, .slice (some ⟨g, 0, none⟩) len c], .int .i64 0]) (by simp [results, Tryz.results81, go_sem, q0, q1]) rfl ⟨(E5.out.setCell (by show w.heap.size ≤ w.heap.size; omega) _).setCell (by show w.heap.size ≤ w.heap.size; omega) _, Or.inl ⟨by rw [HAE.out]; exact HEE.out, g, c, ?_, by omega, ?_⟩⟩
      · rw [Zo.clo_length, ← HLn.out]
      · exact put_far HO5.out (by omega) _ _
    · have CL : Hid (∀ W, Own W g c l → Calls Tryz.prog 94 #[.agg #[.int .i64 n, .slice (some ⟨g, 0, none⟩) len c]] W (fun e w' => e = .returned (.tuple #[.agg #[.int .i64 0, .slice none 0 0], .int .i64 (cloE n l)]) ∧ Own w' g c (Zo.clo n l) ∧ W.grownBy w' (some g))) := Lib.hid fun W h => by have := closed_no W hn HL.out h hE; rw [← HLn.out] at this; exact this
      have HEE := Lib.hid hE
      clear hE
      refine (CL.out _ HO.out).mono ?_
      rintro e w5 ⟨rfl, ho5, hg5⟩
      have rs5 := rs2.grown hg5 (by omega)
      obtain ⟨q0, q1, q2, q3⟩ := rs5.facts
      have E5 := Lib.hid (grown_over E2.out hg5 (by omega))
      have HO5 := Lib.hid ho5
      clear ho5 hg5
      go_wp2_with fail
      refine bodyPost_ret (v := .tuple #[.agg #[.int .i64 0, .slice none 0 0], .int .i64 (cloE n l)]) (by simp [results, Tryz.results81, go_sem, q0, q1]) rfl ⟨(E5.out.setCell (by show w.heap.size ≤ w.heap.size; omega) _).setCell (by show w.heap.size ≤ w.heap.size; omega) _, Or.inr ⟨by rw [HAE.out]; exact HEE.out, ?_⟩⟩
      rw [HAE.out]
theorem close_gen (N : Int) (l : List Int) (ao : Option Addr) (cap : Nat) (w : World) (hA : Arg w ao l) :
  Calls Tryz.prog 81 #[.int .i64 N, .slice ao l.length cap] w (ZRes w N (Zo.clo N.toNat l) (closeE N l)) := by
 cases hd : dimB N
 · exact (close_bad1 N l ao cap w hd).mono fun e w' h => h.bad (closeE_bad1 hd)
 · obtain ⟨n, rfl, hn⟩ := dim_nat hd
   by_cases hl : l.length = (n + 1) * (n + 1)
   · obtain ⟨a, rfl, hR⟩ := hA (fun e => by have := dsq_pos n; rw [e] at hl; simp at hl)
     exact close_any n l a cap w hn hl hR
   · exact (close_bad2 n l ao cap w hn hl).mono fun e w' h => h.bad (closeE_bad2 (by simpa using hl))
def twB (N M : Int) (l m : List Int) : Bool := decide (chkE N l = 0) && decide (chkE M m = 0) && decide (N = M)
theorem tw_no {N M : Int} {l m : List Int} (h : twB N M l m = false) : ¬ (chkE N l = 0 ∧ chkE M m = 0 ∧ N = M) := by
 rintro ⟨a, b, c⟩
 subst c
 simp [twB, a, b] at h
theorem tw_yes {N M : Int} {l m : List Int} (h : twB N M l m = true) : chkE N l = 0 ∧ chkE M m = 0 ∧ N = M := by
 unfold twB at h; simp at h; exact ⟨h.1.1, h.1.2, h.2⟩
def inB (l m : List Int) : Bool := (List.range l.length).all fun k => decide (Zo.gt m k ≤ Zo.gt l k)
def inR (N M : Int) (l m : List Int) : Bool := twB N M l m && inB l m
def inE (N M : Int) (l m : List Int) : Int := if twB N M l m then 0 else 2
def imax (x y : Int) : Int := max x y
theorem run_imax (x y : Int) (ts : Array TypeId) (t : TypeId) (W : World) : (Builtin.max_ ts t #[.int .i64 x, .int .i64 y]).run Tryz.prog W = .ok (.int .i64 (imax x y)) W := by
 rw [run_max_int2]; unfold imax
 congr 2
 split
 · rw [Int.max_eq_right (by omega)]
 · rw [Int.max_eq_left (by omega)]
def meS (m : List Int) (x : List Int) (t : Nat) : List Int := x.set t (imin (Zo.gt x t) (Zo.gt m t))
def meL (l m : List Int) : List Int := (List.range l.length).foldl (meS m) l
theorem meL_len (l m : List Int) : (meL l m).length = l.length := fold_len (fun x t => by simp [meS]) l _
def zmE (N M : Int) (l m : List Int) : Int := if twB N M l m then cloE N.toNat (meL l m) else 2
def huS (m : List Int) (x : List Int) (t : Nat) : List Int := x.set t (imax (Zo.gt x t) (Zo.gt m t))
def huL (l m : List Int) : List Int := (List.range l.length).foldl (huS m) l
def huE (N M : Int) (l m : List Int) : Int := if twB N M l m then cloE N.toNat (huL l m) else 2
end Go.Proofs.YthjapmdfcbngmaaGreat
