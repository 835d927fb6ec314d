/- A part. -/
import Derived.Test.YthjapmdfcbngmaaGreatWr11
import Derived.Test.YthjapmdfcbngmaaGreatWr29
namespace Go.Proofs.YthjapmdfcbngmaaGreat
set_option maxHeartbeats 8000000
open Go.RowKit
def Mk (R q : Nat) (P N : Nat → Prop) (A : World) (s : Sq) : Prop :=
 ∃ v L, Bx2 A q v (.int .i64 (colE s.1 s.2)) 62 ∧ OwnZ R 0 A v L ∧ (colE s.1 s.2 = 0 → L.map ZV.p = s.1) ∧ L.length ≤ 2001 ∧ v.ownBlock ≠ some q ∧ (∀ z ∈ L, ∀ p, z.a = some p → p.block ≠ q) ∧ (∀ k, P k → k ≠ q ∧ v.ownBlock ≠ some k ∧ k < A.heap.size) ∧ (∀ z ∈ L, ∀ p, z.a = some p → ¬ N p.block)
theorem Bx2.put0 {w : World} {b : Nat} {u v : Value} {t : TypeId} (h : Bx2 w b u v t) (u' : Value) : Bx2 (w.setCell ⟨b, 0, none⟩ u') b u' v t := by
 unfold Bx2
 rw [heap_setCell_same w b _ _ _ _ h]; rfl
theorem Bx2.put1 {w : World} {b : Nat} {u v : Value} {t : TypeId} (h : Bx2 w b u v t) (v' : Value) : Bx2 (w.setCell ⟨b, 1, none⟩ v') b u v' t := by
 unfold Bx2
 rw [heap_setCell_same w b _ _ _ _ h]; rfl
theorem Bx2.aside1 {w : World} {b : Nat} {u v : Value} {t : TypeId} (h : Bx2 w b u v t) {p : Addr} (hne : b ≠ p.block) (x : Value) : Bx2 (w.setCell p x) b u v t := h.of_block (heap_setCell_other w p b x hne)
theorem grown_at (w : World) (p : Addr) (v : Value) : w.grownBy (w.setCell p v) (some p.block) := ⟨rfl, rfl, rfl, by simp, fun k _ hk => heap_setCell_other w p k v (fun e => hk (by rw [e]))⟩
theorem kept_at {S : Nat → Prop} (w : World) (p : Addr) (v : Value) (h : ¬ S p.block) : Kept S w (w.setCell p v) := ⟨rfl, rfl, rfl, by simp, fun k _ hk => heap_setCell_other w p k v (fun e => h (e ▸ hk))⟩
def addS (s : Sq) (r : Zp × Int) : Sq := if colE s.1 s.2 = 0 then seqA s (emS r) else s
theorem Mk.on {R q : Nat} {P N : Nat → Prop} {A A' : World} {s : Sq} (h : Mk R q P N A s) (hb : Below A.heap.size A A') : Mk R q P N A' s := by
 obtain ⟨v, L, h1, h2, h3, h4, h5, h6, h7, h8⟩ := h
 exact ⟨v, L, h1.kept hb, h2.on hb, h3, h4, h5, h6, fun k q => ⟨(h7 k q).1, (h7 k q).2.1, Nat.lt_of_lt_of_le (h7 k q).2.2 hb.size⟩, h8⟩
theorem Mk.more {R q : Nat} {P P' N N' : Nat → Prop} {A A' : World} {s : Sq} (h : Mk R q P N A s) (hb : Below A.heap.size A A') (hp : ∀ k, P' k → P k ∨ (A.heap.size ≤ k ∧ k < A'.heap.size)) (hn : ∀ k, N' k → N k ∨ A.heap.size ≤ k) : Mk R q P' N' A' s := by
 have lt := h
 obtain ⟨v, L, h1, h2, h3, h4, h5, h6, h7, h8⟩ := h
 have hs := hb.size
 refine ⟨v, L, h1.kept hb, h2.on hb, h3, h4, h5, h6, fun k r => ?_, fun z hz p e r => (hn _ r).elim (h8 z hz p e) (fun r => by have := ((h2.el z hz).2 p e).2; omega)⟩
 rcases hp k r with r | r
 · exact ⟨(h7 k r).1, (h7 k r).2.1, by have := (h7 k r).2.2; omega⟩
 · refine ⟨fun e => by have := h1.lt; omega, fun e => ?_, r.2⟩
   have := (h2.lt k e).2; omega
theorem Mk.lt {R q : Nat} {P N : Nat → Prop} {A : World} {s : Sq} (h : Mk R q P N A s) : q < A.heap.size := by
 obtain ⟨v, L, h1, _⟩ := h
 exact h1.lt
theorem addS_bad {s : Sq} {r : Zp × Int} (h : colE s.1 s.2 ≠ 0) : addS s r = s := if_neg h
theorem addS_em {s : Sq} {r : Zp × Int} (h : r.2 = 4) : addS s r = s := by unfold addS; split; rw [emS_em h, seqA_nil]; rfl
theorem colE_zero {xs : List Zp} {er : Int} (h : colE xs er = 0) : xs.length ≤ 2000 ∧ er = 0 := by
 unfold colE at h; split at h
 · omega
 · exact ⟨by omega, h⟩
theorem addS_err {s : Sq} {r : Zp × Int} (h : colE s.1 s.2 = 0) (h1 : r.2 ≠ 0) (h4 : r.2 ≠ 4) : addS s r = (s.1, r.2) ∧ colE s.1 r.2 = r.2 := by
 have h0 := colE_zero h
 unfold addS
 rw [if_pos h, emS_no h1 h4, seqA_of h0.2, List.append_nil]
 exact ⟨rfl, by unfold colE; rw [if_neg (by omega)]⟩
theorem addS_ok {s : Sq} {r : Zp × Int} (h : colE s.1 s.2 = 0) (h1 : r.2 = 0) : addS s r = (s.1 ++ [r.1], 0) := by
 have h0 := colE_zero h
 unfold addS
 rw [if_pos h, emS_ok h1, seqA_of h0.2]
theorem mk_more {R q : Nat} {P : Nat → Prop} {wc we : World} {v v' : Value} {L : List ZV} {z : ZV} {c : Value} (hQ : Bx2 wc q v c 62) (hO : OwnZ R 0 wc v L) (h5 : v.ownBlock ≠ some q) (h6 : ∀ y ∈ L, ∀ p, y.a = some p → p.block ≠ q) (h7 : ∀ k, P k → k ≠ q ∧ v.ownBlock ≠ some k ∧ k < wc.heap.size)
  (hz : ∀ p, z.a = some p → P p.block) (hR : R ≤ q) (ho : OwnZ R 0 we v' (L ++ [z])) (hg : wc.grownBy we v.ownBlock) (hf : v'.ownBlock = v.ownBlock ∨ v'.ownBlock = some wc.heap.size) :
  Bx2 (we.setCell ⟨q, 0, none⟩ v') q v' c 62 ∧ OwnZ R 0 (we.setCell ⟨q, 0, none⟩ v') v' (L ++ [z]) ∧ Kept P wc (we.setCell ⟨q, 0, none⟩ v') ∧ Below R wc (we.setCell ⟨q, 0, none⟩ v') ∧ (∀ k, P k → k ≠ q ∧ v'.ownBlock ≠ some k ∧ k < (we.setCell ⟨q, 0, none⟩ v').heap.size) ∧ v'.ownBlock ≠ some q ∧ (∀ y ∈ L ++ [z], ∀ p, y.a = some p → p.block ≠ q) := by
 have hq := hQ.lt
 have hs := hg.size
 have nq : v'.ownBlock ≠ some q := fun e => by
  rcases hf with f | f
  · exact h5 (by rw [← f, e])
  · rw [e] at f; injection f with f; omega
 have zq : ∀ y ∈ L ++ [z], ∀ p, y.a = some p → p.block ≠ q := fun y hy p e => by
  rcases List.mem_append.1 hy with t | t
  · exact h6 y t p e
  · rw [List.mem_singleton] at t; subst t; exact (h7 _ (hz p e)).1
 refine ⟨(hQ.grown hg (fun e => h5 e.symm)).put0 _, ho.grown (grown_at we ⟨q, 0, none⟩ v') (fun k e r => ?_) (fun y hy p e r => ?_), ⟨hg.os, hg.tape, hg.output, by simpa using hs, fun k hk r => ?_⟩, ?_, fun k r => ?_, nq, zq⟩
 · injection r with r
   exact nq (by rw [e]; exact congrArg some r.symm)
 · injection r with r
   exact zq y hy p e r.symm
 · rw [heap_setCell_other we ⟨q, 0, none⟩ k v' (fun e => (h7 k r).1 e)]
   exact hg.block k hk (fun e => (h7 k r).2.1 e.symm)
 · exact (Below.grown (Below.refl R wc) hg (by omega) (fun k e => (hO.lt k e).1)).setCell (p := ⟨q, 0, none⟩) hR v'
 · have h := h7 k r
   refine ⟨h.1, fun e => ?_, by simp; omega⟩
   rcases hf with f | f
   · exact h.2.1 (by rw [← f, e])
   · rw [e] at f; injection f with f; omega
def AddRes (R q : Nat) (P N : Nat → Prop) (A : World) (s : Sq) (e : Ending) (A' : World) : Prop := e = .returned (.tuple #[]) ∧ Mk R q P N A' s ∧ Kept P A A' ∧ Below R A A'
set_option maxRecDepth 100000 in
theorem radd_any (R q : Nat) (P N : Nat → Prop) (s : Sq) (z : ZV) (er : Int) (w : World) (h : Mk R q P N w s) (hR : R ≤ q) (hz : er = 0 → ZAt 0 w z ∧ ∀ p, z.a = some p → P p.block ∧ ¬ N p.block) :
  Calls Tryz.prog 44 #[.pointer (some ⟨q, 0, none⟩), z.val, .int .i64 er] w (AddRes R q P N w (addS s (z.p, er))) := by
 obtain ⟨v, L, h1, h2, h3, h4, h5, h6, h7, h8⟩ := h
 have L8 := Lib.hid h8
 obtain ⟨w1, hw1⟩ : ∃ w1, w1 = w.alloc (.cells #[.int .i64 z.N, .slice z.a z.l.length z.c] 36) := ⟨_, rfl⟩
 have B1 := Lib.hid (show Below w.heap.size w w1 by rw [hw1]; exact one_more _)
 have X1 := Lib.hid (show Bx2 w1 w.heap.size (.int .i64 z.N) (.slice z.a z.l.length z.c) 36 by rw [hw1]; exact Bx2.made w _ _ _)
 have hq := h1.lt
 have BR := Lib.hid (show Below R w w1 from B1.out.mono (by omega))
 have M1 := Lib.hid (show Mk R q P N w1 s from Mk.on ⟨v, L, h1, h2, h3, h4, h5, h6, h7, h8⟩ B1.out)
 have KP := Lib.hid (show Kept P w w1 from Kept.of_below B1.out P)
 have Q1 := Lib.hid (h1.kept B1.out)
 obtain ⟨ao, cap, ev⟩ := h2.form
 subst ev
 have QW := Lib.hid (show q ≠ w.heap.size by omega)
 obtain ⟨c, hc⟩ : ∃ c, c = colE s.1 s.2 := ⟨_, rfl⟩
 have HC := Lib.hid hc
 rw [← hc] at Q1 h3
 have O1 := Lib.hid (h2.on B1.out)
 have L3 := Lib.hid h3
 have OW := Lib.hid (show ∀ k, (Value.slice ao L.length cap).ownBlock = some k → k < w.heap.size from fun k e => (h2.lt k e).2)
 have L5 := Lib.hid h5
 have L6 := Lib.hid h6
 have L7 := Lib.hid h7
 have HZ := Lib.hid (show er = 0 → ZAt 0 w1 z ∧ ∀ p, z.a = some p → P p.block ∧ ¬ N p.block from fun e => ⟨(hz e).1.on B1.out, (hz e).2⟩)
 have W1 := Lib.hid (show w1.heap.size = w.heap.size + 1 by rw [hw1]; simp)
 have HR := Lib.hid (show R ≤ w1.heap.size by have := B1.out.size; omega)
 have HRq := Lib.hid hR
 obtain ⟨n, hn⟩ : ∃ n, n = L.length := ⟨_, rfl⟩
 have HN := Lib.hid hn
 rw [← hn] at Q1 h4
 obtain ⟨q0, q1, q2, q3⟩ := Q1.out.facts
 obtain ⟨x0, x1, _, _⟩ := X1.out.facts
 unfold ZV.val
 obtain ⟨zl, hzl⟩ : ∃ zl, zl = z.l.length := ⟨_, rfl⟩
 rw [← hzl] at x1 hw1 X1 ⊢
 have HZL := Lib.hid hzl
 have N4 := Lib.hid h4
 clear h1 h2 h3 h4 h5 h6 h7 h8 hz hc hn hzl hR hq
 go_enter Tryz.func44, Tryz.ntmps44
 go_upto_region 1 with (fail)
 rw [← hw1]
 clear hw1
 generalize w.heap.size = qz at *
 by_cases hc0 : c = 0
 · have hcb : (c != 0) = false := by simp [hc0]
   by_cases h4 : er = 4
   · have h4b : (er == 4) = true := by simp [h4]
     have SE := Lib.hid (show addS s (z.p, er) = s from addS_em h4)
     clear hc0 h4
     go_wp2_with fail
     go_end0
     exact ⟨rfl, by rw [SE.out]; exact M1.out, KP.out, BR.out⟩
   · have h4b : (er == 4) = false := by simpa using h4
     by_cases h0 : er = 0
     · have h0b : (er != 0) = false := by simp [h0]
       have SE := Lib.hid (addS_ok (s := s) (r := (z.p, er)) (by rw [← HC.out]; exact hc0) h0)
       have EZ := Lib.hid h0
       have CZ := Lib.hid hc0
       have PZ := Lib.hid (HZ.out h0)
       have NB := Lib.hid (show n ≤ 2000 by
        have h := L3.out hc0
        have h2 := (colE_zero (HC.out.symm.trans hc0)).1
        rw [← h] at h2
        have := HN.out
        simp at h2; omega)
       clear hc0 h4 h0
       go_upto_region 4 with (fail)
       have KS := Lib.hid (show ∀ W, Below w1.heap.size w1 W → (W.cell? ⟨qz, 0, none⟩ = some (.int .i64 z.N) ∧ W.cell? ⟨qz, 1, none⟩ = some (.slice z.a zl z.c)) from fun W h => ⟨(X1.out.kept h).facts.1, (X1.out.kept h).facts.2.1⟩)
       obtain ⟨wc, hwc⟩ : ∃ wc, wc = w1.drew := ⟨_, rfl⟩
       have Bc := Lib.hid (show Below w1.heap.size w1 wc by rw [hwc]; exact (Below.refl _ _).drew)
       refine wp_region_held_drew (S := (fun W => (W.cell? ⟨qz, 0, none⟩ = some (.int .i64 z.N) ∧ W.cell? ⟨qz, 1, none⟩ = some (.slice z.a zl z.c)))) (by kernel_rfl) (by rw [← hwc]; exact KS.out _ Bc.out) (fun h0 => ?_)
       rw [← hwc] at h0 ⊢
       clear hwc
       refine tkI (i := 0) rfl h0 ?_
       simp only [Act.put, sA, sB, sD, sE, sF]
       refine tkI (i := 1) rfl h0 ?_
       simp only [Act.put, sZ]
       refine tkI (i := 2) rfl h0 ?_
       simp only [Act.put, sZ]
       refine tkI (i := 3) rfl h0 ?_
       simp only [Act.put, sZ]
       refine tkI (i := 5) rfl h0 ?_
       simp only [Act.put, sZ]
       refine wpAnyH_ready (rs := [4, 6]) (by kernel_rfl) (by simp) (AllReadyH.cons rfl (fun K hK => ?_) (AllReadyH.cons rfl (fun K hK => ?_) AllReadyH.nil))
       · rw [if_pos (by rfl)]
         go_simp
         obtain ⟨q0, q1, q2, q3⟩ := (Q1.out.kept Bc.out).facts
         go_simp
         refine hK.out _ _ (KS.out _ Bc.out) (fun h0_1 => ?_)
         clear hK K h0
         clear q0 q1 q2 q3
         refine wpAnyH_ready (rs := [6]) (by kernel_rfl) (by simp) (AllReadyH.cons rfl (fun K hK => ?_) AllReadyH.nil)
         rw [if_pos (by rfl)]
         go_simp
         have hb := one_more (w1 := wc) (.cells #[.int .i64 z.N, .slice z.a zl z.c] 36)
         have hP := Bx2.made wc (.int .i64 z.N) (.slice z.a zl z.c) 36
         have hz := Bc.out.size
         obtain ⟨bs, hbb⟩ : ∃ b, b = wc.heap.size := ⟨_, rfl⟩
         rw [← hbb] at hP hz
         obtain ⟨wn, hwn⟩ : ∃ wn, wn = wc.alloc (.cells #[.int .i64 z.N, .slice z.a zl z.c] 36) := ⟨_, rfl⟩
         rw [← hwn] at hb hP ⊢
         try rw [← hbb]
         have Bc := Lib.hid (below_on Bc.out hb)
         have PB := Lib.hid hP
         have Zbs := Lib.hid hz
         clear hb hP hz hbb hwn
         obtain ⟨wc, hwc⟩ : ∃ wc, wc = wn := ⟨_, rfl⟩
         rw [← hwc] at Bc PB ⊢
         clear hwc
         go_simp
         refine hK.out _ _ (KS.out _ Bc.out) (fun h0_2 => ?_)
         clear hK K h0_1
         refine wpAnyH_ready (rs := [7]) (by kernel_rfl) (by simp) (AllReadyH.cons rfl (fun K hK => ?_) AllReadyH.nil)
         rw [if_pos (by rfl)]
         obtain ⟨v', we, hrun, ho, hg, hf⟩ := appendZ_run (z := z) (O1.out.on Bc.out) PB.out.facts.1 (by rw [← HZL.out]; exact PB.out.facts.2.1) (PZ.out.1.on Bc.out) (fun p e => (L7.out _ (PZ.out.2 p e).1).2.1) (by have := NB.out; have := HN.out; omega) (Nat.le_trans HR.out Bc.out.size) 22 (c := 1)
         rw [← HN.out] at hrun hg hf
         obtain ⟨a3, c3, e3⟩ := ho.form
         obtain ⟨m3, hm3⟩ : ∃ m3, m3 = (L ++ [z]).length := ⟨_, rfl⟩
         rw [← hm3] at e3
         subst e3
         have M3 := Lib.hid (show m3 = n + 1 by rw [hm3, HN.out]; simp)
         have HM3 := Lib.hid hm3
         clear hm3
         refine Lib.wp_append_run _ _ _ 22 22 rfl (.slice ao n cap) (.slice (some ⟨bs, 0, none⟩) 1 1) rfl rfl _ _ hrun ?_
         have QE := Lib.hid ((Q1.out.kept Bc.out).grown hg (fun e => L5.out (by rw [← HN.out]; exact e.symm)))
         have XE := Lib.hid ((X1.out.kept Bc.out).grown hg (fun e => by have := ((O1.out.lt qz (by rw [← HN.out]; exact e.symm)).2); have := OW.out qz (by rw [← HN.out]; exact e.symm); omega))
         have BW := Lib.hid Bc.out
         have MM := Lib.hid (mk_more (P := P) (Q1.out.kept Bc.out) (by rw [HN.out]; exact O1.out.on Bc.out) (by rw [HN.out]; exact L5.out) L6.out (fun k r => ⟨(L7.out k r).1, by rw [HN.out]; exact (L7.out k r).2.1, by have := (L7.out k r).2.2; have := W1.out; have := Bc.out.size; omega⟩) (fun p e => (PZ.out.2 p e).1) HRq.out ho hg hf)
         clear hrun ho hg hf
         try simp only [Act.put, sZ]
         refine hK.out _ _ ⟨XE.out.facts.1, XE.out.facts.2.1⟩ (fun h0_3 => ?_)
         clear hK K h0_2
         refine tkI (i := 8) rfl h0_3 ?_
         simp only [Act.put, sZ]
         refine tkI (i := 9) rfl h0_3 ?_
         simp only [Act.put, sZ]
         refine wpAnyH_ready (rs := [10]) (by kernel_rfl) (by simp) (AllReadyH.cons rfl (fun K hK => ?_) AllReadyH.nil)
         rw [if_pos (by rfl)]
         go_simp
         obtain ⟨f0, f1, f2, f3⟩ := QE.out.facts
         go_simp
         refine hK.out _ _ ⟨(XE.out.aside1 (p := ⟨q, 0, none⟩) QW.out.symm _).facts.1, (XE.out.aside1 (p := ⟨q, 0, none⟩) QW.out.symm _).facts.2.1⟩ (fun h0_4 => ?_)
         clear hK K h0_3
         clear f0 f1 f2 f3
         try simp only [sF]
         try simp only [sE]
         refine wpAnyH_done (by kernel_rfl) ?_ _
         obtain ⟨t1, t2, t3, t4, t5, t6, t7⟩ := MM.out
         have QF := Lib.hid t1
         have OF := Lib.hid t2
         have KF := Lib.hid (KP.out.trans ((Kept.of_below BW.out P).trans t3))
         have BF := Lib.hid ((BR.out.trans (BW.out.mono HR.out)).trans t4)
         have PF := Lib.hid t5
         have NQ := Lib.hid t6
         have ZQ := Lib.hid t7
         have ZN := Lib.hid (show ∀ y ∈ L ++ [z], ∀ p, y.a = some p → ¬ N p.block from fun y hy p e => (List.mem_append.1 hy).elim (fun t => L8.out y t p e) (fun t => by rw [List.mem_singleton] at t; subst t; exact (PZ.out.2 p e).2))
         clear t1 t2 t3 t4 t5 t6 t7 MM
         have m3n := M3.out
         have nb := NB.out
         have LM := Lib.hid (show (L ++ [z]).map ZV.p = s.1 ++ [z.p] by rw [List.map_append, L3.out CZ.out]; rfl)
         obtain ⟨wz, hwz⟩ : ∃ wz, wz = we.setCell ⟨q, 0, none⟩ (.slice a3 m3 c3) := ⟨_, rfl⟩
         rw [← hwz] at QF OF KF BF PF ⊢
         clear hwz
         obtain ⟨f0, f1, f2, f3⟩ := QF.out.facts
         by_cases h9 : 2000 < m3
         · have h9b : (2000 : Int) < m3 := by omega
           go_wp2_with fail
           go_end0
           rw [SE.out]
           have CE : colE (s.1 ++ [z.p]) 0 = 3 := by unfold colE; rw [if_pos (by rw [← LM.out, List.length_map, ← HM3.out]; exact h9)]
           refine ⟨rfl, ⟨.slice a3 m3 c3, L ++ [z], by rw [CE]; exact QF.out.put1 _, ?_, fun h => ?_, by rw [← HM3.out]; omega, NQ.out, ZQ.out, fun k r => ?_, ZN.out⟩, KF.out.trans (kept_at wz ⟨q, 1, none⟩ _ (fun r => (PF.out q r).1 rfl)), BF.out.setCell (p := ⟨q, 1, none⟩) HRq.out _⟩
           · exact OF.out.grown (grown_at wz ⟨q, 1, none⟩ _) (fun k e r => by injection r with r; exact NQ.out (by rw [e]; exact congrArg some r.symm)) (fun y hy p e r => by injection r with r; exact ZQ.out y hy p e r.symm)
           · rw [CE] at h; cases h
           · have h := PF.out k r; exact ⟨h.1, h.2.1, by simpa using h.2.2⟩
         · have h9b : ¬ (2000 : Int) < m3 := by omega
           have CE := Lib.hid (show colE (s.1 ++ [z.p]) 0 = 0 by unfold colE; rw [if_neg (by rw [← LM.out, List.length_map, ← HM3.out]; exact h9)])
           go_wp2_with fail
           go_end0
           rw [SE.out]
           exact ⟨rfl, ⟨.slice a3 m3 c3, L ++ [z], by rw [CE.out, ← CZ.out]; exact QF.out, OF.out, fun _ => LM.out, by rw [← HM3.out]; omega, NQ.out, ZQ.out, PF.out, ZN.out⟩, KF.out, BF.out⟩
       · rw [if_pos (by rfl)]
         go_simp
         have hb := one_more (w1 := wc) (.cells #[.int .i64 z.N, .slice z.a zl z.c] 36)
         have hP := Bx2.made wc (.int .i64 z.N) (.slice z.a zl z.c) 36
         have hz := Bc.out.size
         obtain ⟨bs, hbb⟩ : ∃ b, b = wc.heap.size := ⟨_, rfl⟩
         rw [← hbb] at hP hz
         obtain ⟨wn, hwn⟩ : ∃ wn, wn = wc.alloc (.cells #[.int .i64 z.N, .slice z.a zl z.c] 36) := ⟨_, rfl⟩
         rw [← hwn] at hb hP ⊢
         try rw [← hbb]
         have Bc := Lib.hid (below_on Bc.out hb)
         have PB := Lib.hid hP
         have Zbs := Lib.hid hz
         clear hb hP hz hbb hwn
         obtain ⟨wc, hwc⟩ : ∃ wc, wc = wn := ⟨_, rfl⟩
         rw [← hwc] at Bc PB ⊢
         clear hwc
         go_simp
         refine hK.out _ _ (KS.out _ Bc.out) (fun h0_1 => ?_)
         clear hK K h0
         refine wpAnyH_ready (rs := [4]) (by kernel_rfl) (by simp) (AllReadyH.cons rfl (fun K hK => ?_) AllReadyH.nil)
         rw [if_pos (by rfl)]
         go_simp
         obtain ⟨q0, q1, q2, q3⟩ := (Q1.out.kept Bc.out).facts
         go_simp
         refine hK.out _ _ (KS.out _ Bc.out) (fun h0_5 => ?_)
         clear hK K h0_1
         clear q0 q1 q2 q3
         refine wpAnyH_ready (rs := [7]) (by kernel_rfl) (by simp) (AllReadyH.cons rfl (fun K hK => ?_) AllReadyH.nil)
         rw [if_pos (by rfl)]
         obtain ⟨v', we, hrun, ho, hg, hf⟩ := appendZ_run (z := z) (O1.out.on Bc.out) PB.out.facts.1 (by rw [← HZL.out]; exact PB.out.facts.2.1) (PZ.out.1.on Bc.out) (fun p e => (L7.out _ (PZ.out.2 p e).1).2.1) (by have := NB.out; have := HN.out; omega) (Nat.le_trans HR.out Bc.out.size) 22 (c := 1)
         rw [← HN.out] at hrun hg hf
         obtain ⟨a3, c3, e3⟩ := ho.form
         obtain ⟨m3, hm3⟩ : ∃ m3, m3 = (L ++ [z]).length := ⟨_, rfl⟩
         rw [← hm3] at e3
         subst e3
         have M3 := Lib.hid (show m3 = n + 1 by rw [hm3, HN.out]; simp)
         have HM3 := Lib.hid hm3
         clear hm3
         refine Lib.wp_append_run _ _ _ 22 22 rfl (.slice ao n cap) (.slice (some ⟨bs, 0, none⟩) 1 1) rfl rfl _ _ hrun ?_
         have QE := Lib.hid ((Q1.out.kept Bc.out).grown hg (fun e => L5.out (by rw [← HN.out]; exact e.symm)))
         have XE := Lib.hid ((X1.out.kept Bc.out).grown hg (fun e => by have := ((O1.out.lt qz (by rw [← HN.out]; exact e.symm)).2); have := OW.out qz (by rw [← HN.out]; exact e.symm); omega))
         have BW := Lib.hid Bc.out
         have MM := Lib.hid (mk_more (P := P) (Q1.out.kept Bc.out) (by rw [HN.out]; exact O1.out.on Bc.out) (by rw [HN.out]; exact L5.out) L6.out (fun k r => ⟨(L7.out k r).1, by rw [HN.out]; exact (L7.out k r).2.1, by have := (L7.out k r).2.2; have := W1.out; have := Bc.out.size; omega⟩) (fun p e => (PZ.out.2 p e).1) HRq.out ho hg hf)
         clear hrun ho hg hf
         try simp only [Act.put, sZ]
         refine hK.out _ _ ⟨XE.out.facts.1, XE.out.facts.2.1⟩ (fun h0_6 => ?_)
         clear hK K h0_5
         refine tkI (i := 8) rfl h0_6 ?_
         simp only [Act.put, sZ]
         refine tkI (i := 9) rfl h0_6 ?_
         simp only [Act.put, sZ]
         refine wpAnyH_ready (rs := [10]) (by kernel_rfl) (by simp) (AllReadyH.cons rfl (fun K hK => ?_) AllReadyH.nil)
         rw [if_pos (by rfl)]
         go_simp
         obtain ⟨f0, f1, f2, f3⟩ := QE.out.facts
         go_simp
         refine hK.out _ _ ⟨(XE.out.aside1 (p := ⟨q, 0, none⟩) QW.out.symm _).facts.1, (XE.out.aside1 (p := ⟨q, 0, none⟩) QW.out.symm _).facts.2.1⟩ (fun h0_7 => ?_)
         clear hK K h0_6
         clear f0 f1 f2 f3
         try simp only [sF]
         try simp only [sE]
         refine wpAnyH_done (by kernel_rfl) ?_ _
         obtain ⟨t1, t2, t3, t4, t5, t6, t7⟩ := MM.out
         have QF := Lib.hid t1
         have OF := Lib.hid t2
         have KF := Lib.hid (KP.out.trans ((Kept.of_below BW.out P).trans t3))
         have BF := Lib.hid ((BR.out.trans (BW.out.mono HR.out)).trans t4)
         have PF := Lib.hid t5
         have NQ := Lib.hid t6
         have ZQ := Lib.hid t7
         have ZN := Lib.hid (show ∀ y ∈ L ++ [z], ∀ p, y.a = some p → ¬ N p.block from fun y hy p e => (List.mem_append.1 hy).elim (fun t => L8.out y t p e) (fun t => by rw [List.mem_singleton] at t; subst t; exact (PZ.out.2 p e).2))
         clear t1 t2 t3 t4 t5 t6 t7 MM
         have m3n := M3.out
         have nb := NB.out
         have LM := Lib.hid (show (L ++ [z]).map ZV.p = s.1 ++ [z.p] by rw [List.map_append, L3.out CZ.out]; rfl)
         obtain ⟨wz, hwz⟩ : ∃ wz, wz = we.setCell ⟨q, 0, none⟩ (.slice a3 m3 c3) := ⟨_, rfl⟩
         rw [← hwz] at QF OF KF BF PF ⊢
         clear hwz
         obtain ⟨f0, f1, f2, f3⟩ := QF.out.facts
         by_cases h9 : 2000 < m3
         · have h9b : (2000 : Int) < m3 := by omega
           go_wp2_with fail
           go_end0
           rw [SE.out]
           have CE : colE (s.1 ++ [z.p]) 0 = 3 := by unfold colE; rw [if_pos (by rw [← LM.out, List.length_map, ← HM3.out]; exact h9)]
           refine ⟨rfl, ⟨.slice a3 m3 c3, L ++ [z], by rw [CE]; exact QF.out.put1 _, ?_, fun h => ?_, by rw [← HM3.out]; omega, NQ.out, ZQ.out, fun k r => ?_, ZN.out⟩, KF.out.trans (kept_at wz ⟨q, 1, none⟩ _ (fun r => (PF.out q r).1 rfl)), BF.out.setCell (p := ⟨q, 1, none⟩) HRq.out _⟩
           · exact OF.out.grown (grown_at wz ⟨q, 1, none⟩ _) (fun k e r => by injection r with r; exact NQ.out (by rw [e]; exact congrArg some r.symm)) (fun y hy p e r => by injection r with r; exact ZQ.out y hy p e r.symm)
           · rw [CE] at h; cases h
           · have h := PF.out k r; exact ⟨h.1, h.2.1, by simpa using h.2.2⟩
         · have h9b : ¬ (2000 : Int) < m3 := by omega
           have CE := Lib.hid (show colE (s.1 ++ [z.p]) 0 = 0 by unfold colE; rw [if_neg (by rw [← LM.out, List.length_map, ← HM3.out]; exact h9)])
           go_wp2_with fail
           go_end0
           rw [SE.out]
           exact ⟨rfl, ⟨.slice a3 m3 c3, L ++ [z], by rw [CE.out, ← CZ.out]; exact QF.out, OF.out, fun _ => LM.out, by rw [← HM3.out]; omega, NQ.out, ZQ.out, PF.out, ZN.out⟩, KF.out, BF.out⟩
     · have h0b : (er != 0) = true := by simpa using h0
       obtain ⟨SE, CE⟩ := addS_err (s := s) (r := (z.p, er)) (by rw [← HC.out]; exact hc0) h0 h4
       have SE := Lib.hid SE
       have CE := Lib.hid CE
       have H0 := Lib.hid h0
       clear hc0 h4 h0
       go_wp2_with fail
       refine bodyPost_ret (v := .tuple #[]) (by simp [results, Tryz.results44, go_sem]) rfl ?_
       try rw [SE.out]
       refine ⟨rfl, ⟨.slice ao n cap, L, ?_, ?_, fun h => ?_, by have := N4.out; have := HN.out; omega, by rw [HN.out]; exact L5.out, L6.out, fun k r => ?_, L8.out⟩, KP.out.trans (kept_at w1 ⟨q, 1, none⟩ _ (fun r => (L7.out q r).1 rfl)), BR.out.setCell (p := ⟨q, 1, none⟩) HRq.out _⟩
       · rw [CE.out]; exact Q1.out.put1 _
       · rw [HN.out]; exact O1.out.grown (grown_at w1 ⟨q, 1, none⟩ _) (fun k e r => by injection r with r; exact L5.out (e.trans (congrArg some r.symm))) (fun y hy p e r => by injection r with r; exact L6.out y hy p e r.symm)
       · rw [CE.out] at h; exact absurd h H0.out
       · have := L7.out k r
         exact ⟨this.1, by rw [HN.out]; exact this.2.1, by have := W1.out; simp; omega⟩
 · have hcb : (c != 0) = true := by simpa using hc0
   have SE := Lib.hid (show addS s (z.p, er) = s from addS_bad (by rw [← HC.out]; exact hc0))
   clear hc0
   go_wp2_with fail
   go_end0
   exact ⟨rfl, by rw [SE.out]; exact M1.out, KP.out, BR.out⟩
end Go.Proofs.YthjapmdfcbngmaaGreat
