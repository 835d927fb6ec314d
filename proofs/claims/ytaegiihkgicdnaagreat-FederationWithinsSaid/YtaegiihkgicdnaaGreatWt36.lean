/- A part. -/
import Derived.Test.YtaegiihkgicdnaaGreatWt10
import Derived.Test.YtaegiihkgicdnaaGreatWt35

namespace Go.Proofs.YtaegiihkgicdnaaGreat
open Go.RowKit

set_option maxRecDepth 100000 in
set_option maxHeartbeats 16000000 in
theorem rcut_any (R q : Nat) (P N : Nat → Prop) (s : Sq) (x b : ZV) (w : World) (h : Mk R q P N w s) (hR : R ≤ q) (hN : ∀ j, N j → j < w.heap.size) (hx : ZAt 0 w x) (hxp : ∀ p, x.a = some p → P p.block ∧ ¬ N p.block) (hb : ZAt 0 w b) :
    Calls Tryz.prog 52 #[.pointer (some ⟨q, 0, none⟩), x.val, b.val] w (AddRes R q P N w (addQ s (cutS x.p b.p (rdcL b.N b.l)))) := by
  obtain ⟨xl, hxl⟩ : ∃ xl, xl = x.l.length := ⟨_, rfl⟩
  obtain ⟨bl, hbl⟩ : ∃ bl, bl = b.l.length := ⟨_, rfl⟩
  have HXL := Lib.hid hxl
  have HBL := Lib.hid hbl
  have hq := h.lt
  obtain ⟨w1, hw1⟩ : ∃ w1, w1 = (w.alloc (.cells #[.int .i64 x.N, .slice x.a xl x.c] 36)).alloc (.cells #[.int .i64 b.N, .slice b.a bl b.c] 36) := ⟨_, rfl⟩
  have B1 := Lib.hid (show Below w.heap.size w w1 by rw [hw1]; exact past_two (Below.refl _ _))
  have X4 := Lib.hid (show Bx2 w1 w.heap.size (.int .i64 x.N) (.slice x.a xl x.c) 36 by rw [hw1]; exact (Bx2.made w _ _ _).kept (one_more _))
  have X5 := Lib.hid (show Bx2 w1 (w.heap.size + 1) (.int .i64 b.N) (.slice b.a bl b.c) 36 by rw [hw1]; have := Bx2.made (w.alloc (.cells #[.int .i64 x.N, .slice x.a xl x.c] 36)) (.int .i64 b.N) (.slice b.a bl b.c) 36; simpa using this)
  have MK := Lib.hid h
  have HQ := Lib.hid hq
  have HR := Lib.hid hR
  have HX := Lib.hid hx
  have HXP := Lib.hid hxp
  have HPQ := Lib.hid (fun k (p : P k) => h.lt' p)
  have HN := Lib.hid hN
  have HB := Lib.hid hb
  have MT := Lib.hid (show ∀ W, Below w.heap.size w W → Calls Tryz.prog 45 #[.agg #[.int .i64 x.N, .slice x.a xl x.c], .agg #[.int .i64 b.N, .slice b.a bl b.c]] W (ZOut W (mtP x.p b.p)) from fun W h => by rw [hxl, hbl]; exact rmt_out x b W (hx.on h) (hb.on h))
  have RD := Lib.hid (show ∀ W, Below w.heap.size w W → Calls Tryz.prog 99 #[.agg #[.int .i64 b.N, .slice b.a bl b.c]] W (CRes W (rdcL b.N b.l) (rdcE b.N b.l)) from fun W h => by rw [hbl]; exact rreduce_gen b.N b.l b.a b.c W (hb.on h).1)
  have AD := Lib.hid (show ∀ W e, Below w.heap.size w W → Calls Tryz.prog 44 #[.pointer (some ⟨q, 0, none⟩), .agg #[.int .i64 x.N, .slice x.a xl x.c], .int .i64 e] W (AddRes R q P N W (addS s (x.p, e))) from fun W e h2 => by rw [hxl]; exact radd_any R q P N s x e W (h.on h2) hR (fun _ => ⟨hx.on h2, hxp⟩))
  obtain ⟨cs, hcs⟩ : ∃ cs, cs = rdcL b.N b.l := ⟨_, rfl⟩
  rw [← hcs] at RD ⊢
  have LK := Lib.hid (show cs.length ≤ 121 by rw [hcs]; exact rdc_len)
  have OK := Lib.hid (show ∀ c ∈ cs, I64 c.2.2 ∧ spE c.2.2 = 0 from fun c hc => by rw [hcs] at hc; exact rdc_ok hc)
  have WR := Lib.hid (show ∀ (W : World) (A : Sq × Ending × World), Below w.heap.size w W → AddRes R q P N W A.1 A.2.1 A.2.2 → AddRes R q P N w A.1 A.2.1 A.2.2 from fun W A h1 h2 => ⟨h2.1, h2.2.1, (Kept.of_below h1 P).trans h2.2.2.1, (h1.mono (by omega)).trans h2.2.2.2⟩)
  unfold ZV.val
  rw [← hxl, ← hbl]
  have CS := Lib.hid (show cutS x.p b.p cs = if (mtP x.p b.p).2 = 4 then ([x.p], 0) else if (mtP x.p b.p).2 = 0 then cutR x.p cs else ([], (mtP x.p b.p).2) from rfl)
  obtain ⟨x0, x1, _, _⟩ := X4.out.facts
  obtain ⟨y0, y1, _, _⟩ := X5.out.facts
  clear h hR hx hxp hb hq hN hcs hxl hbl
  go_enter Tryz.func52, Tryz.ntmps52
  go_upto_region 1 with (fail)
  rw [← hw1]
  clear hw1
  go_wp2_with fail
  refine (MT.out _ B1.out).mono ?_
  rintro e w2 ⟨hb, y, rfl, hy, hyp⟩
  obtain ⟨er, her⟩ : ∃ er, er = (mtP x.p b.p).2 := ⟨_, rfl⟩
  rw [← her] at CS ⊢
  unfold ZV.val
  generalize y.l.length = yl
  have B2 := Lib.hid (below_on B1.out hb)
  have c0 := kept hb x0
  have c1 := kept hb x1
  have d0 := kept hb y0
  have d1 := kept hb y1
  obtain ⟨w3, hw3⟩ : ∃ w3, w3 = w2.alloc (.cells #[.int .i64 y.N, .slice y.a yl y.c] 36) := ⟨_, rfl⟩
  have h3 : Below w2.heap.size w2 w3 := by rw [hw3]; exact one_more _
  have B3 := Lib.hid (below_on B2.out h3)
  replace c0 := kept h3 c0
  replace c1 := kept h3 c1
  replace d0 := kept h3 d0
  replace d1 := kept h3 d1
  clear hb hy hyp her x0 x1 y0 y1 h3
  go_upto_region 2 with (fail)
  rw [← hw3]
  clear hw3
  by_cases he4 : er = 4
  · have e1 : (er == 4) = true := by simp [he4]
    have SE := Lib.hid (show cutS x.p b.p cs = ([x.p], 0) by rw [CS.out, if_pos he4])
    clear he4
    go_wp2_with fail
    refine (AD.out _ 0 B3.out).mono ?_
    intro e w4 ha
    have HA := Lib.hid (WR.out w3 (addS s (x.p, 0), e, w4) B3.out ha)
    obtain ⟨rfl, _⟩ := ha
    go_wp2_with fail
    go_end0
    have : addQ s (cutS x.p b.p cs) = addS s (x.p, 0) := by rw [SE.out, addS_eq, emS_ok rfl]
    rw [this]
    exact HA.out
  · have e1 : (er == 4) = false := by simpa using he4
    by_cases he0 : er = 0
    · have e2 : (er != 0) = false := by simp [he0]
      have SE := Lib.hid (show cutS x.p b.p cs = cutR x.p cs by rw [CS.out, if_neg he4, if_pos he0])
      clear he4 he0
      go_wp2_with fail
      refine (RD.out _ B3.out).mono ?_
      rintro e w4 ⟨hb4, v, rfl, hv⟩
      obtain ⟨dao, dc, rfl, hd3⟩ := hv.arg
      obtain ⟨k, hk⟩ : ∃ k, k = cs.length := ⟨_, rfl⟩
      have CAP := Lib.hid (show k ≤ dc from by
        rcases hv.2 with ⟨e, h0⟩ | ⟨_, c, _, e, _, _, h1, _, _⟩
        · rw [hk, h0]; omega
        · injection e with _ _ e; rw [e, hk]; exact h1)
      rw [← hk]
      have HK := Lib.hid hk
      have OD := Lib.hid (show ∀ p, dao = some p → p.spot = none ∧ w3.heap.size ≤ p.block ∧ p.block < w4.heap.size from fun p e => by
        rcases hv.2 with ⟨e2, _⟩ | ⟨g, c, cur, e2, _⟩
        · injection e2 with e2; rw [e] at e2; cases e2
        · have := World.ownsRow.lt hv p.block (by subst e; rfl)
          injection e2 with e3
          rw [e] at e3; injection e3 with e3
          exact ⟨by rw [e3], this.1, this.2⟩)
      have B4 := Lib.hid (below_on B3.out hb4)
      have c2 := kept hb4 c0
      have c3 := kept hb4 c1
      have kle : k ≤ 121 := by have := LK.out; omega
      obtain ⟨q10, hq10⟩ : ∃ q10, q10 = w4.heap.size := ⟨_, rfl⟩
      obtain ⟨w5, hw5⟩ : ∃ w5, w5 = w4.alloc (.cells #[.int .i64 x.N, .slice x.a xl x.c] 36) := ⟨_, rfl⟩
      have h5 : Below w4.heap.size w4 w5 := by rw [hw5]; exact one_more _
      have z5 : w5.heap.size = w4.heap.size + 1 := by rw [hw5]; simp
      have B5 := Lib.hid (below_on B4.out h5)
      have FF := Lib.hid (show RcF R q P N q10 dao from by
        have hs := B4.out.size
        have hq := HQ.out
        have hr := HR.out
        exact ⟨hr, by omega, fun p => by have := HPQ.out _ p; omega, fun j r => by have := HN.out j r; omega, fun p e => by have := OD.out p e; omega⟩)
      have SP := Lib.hid (fun p e => (OD.out p e).1)
      have I0 := Lib.hid (show RcI R q P N w q10 cs dao s x w5 from by
        have hs := B4.out.size
        have h43 := B3.out.size
        have hq := HQ.out
        have hr := HR.out
        refine ⟨MK.out.more B5.out (fun j r => ?_) (fun j r => ?_), by rw [hw5, hq10, ← HXL.out]; exact Bx2.made w4 _ _ _, HX.out.on B5.out, hd3.on h5, Kept.of_below B5.out P, B5.out.mono (by omega)⟩
        · rcases r with r | r | ⟨p, e, rfl⟩ | ⟨p, e, rfl⟩
          · exact Or.inl r
          · rw [r, hq10]; right; omega
          · have := OD.out p e; right; omega
          · exact Or.inl (HXP.out p e).1
        · rcases r with r | r
          · exact Or.inl r
          · right; omega)
      clear hb4 hv hd3 hk c0 c1 d0 d1 h5 z5
      go_upto_region 7 with (fail)
      go_upto_region 8 with (fail)
      rw [← hw5, ← hq10]
      have HQ10 := Lib.hid hq10
      clear hw5 hq10 c2 c3
      go_wp2_with fail
      go_loopw [11] (fun i wr => ∃ t : Nat, i = .int .i64 t ∧ t ≤ k ∧ Hid (∃ s' r, RcI R q P N w q10 cs dao s' r wr ∧ EqS (addQ s' (cutR r.p (cs.drop t))) (addQ s (cutR x.p cs)))) (fun i _ => k - (intOf i).toNat)
      case atStart => exact ⟨0, rfl, by omega, Lib.hid ⟨s, x, I0.out, EqS.refl _⟩⟩
      case round =>
        generalize wr = wo at *
        obtain ⟨t, rfl, ht, HI⟩ := hrel
        obtain ⟨s', r, ri, hq⟩ := HI.out
        obtain ⟨bad, hbad⟩ : ∃ bad, bad = colE s'.1 s'.2 := ⟨_, rfl⟩
        have hm := ri.mm
        obtain ⟨mv, mL, m1, _⟩ := hm
        rw [← hbad] at m1
        obtain ⟨f0, f1, f2, f3⟩ := m1.facts
        have RI := Lib.hid ri
        have EQ := Lib.hid hq
        have HBD := Lib.hid hbad
        clear ri hq HI hbad m1 f0 f2 f3
        have DONE := Lib.hid (show EqS s' (addQ s (cutS x.p b.p cs)) → AddRes R q P N w (addQ s (cutS x.p b.p cs)) (.returned (.tuple #[])) wo from fun h => ⟨rfl, by
          obtain ⟨v, L, g1, g2, g3, g4, g5, g6, g7, g8⟩ := RI.out.mm.eqv h
          exact ⟨v, L, g1, g2, g3, g4, g5, g6, fun j p => g7 j (Or.inl p), fun z hz p e r => g8 z hz p e (Or.inl r)⟩, RI.out.kp, RI.out.be⟩)
        by_cases htk : t < k
        · by_cases hb0 : bad = 0
          · have hb1 : (bad == 0) = true := by simp [hb0]
            have hlt : t < cs.length := by have := HK.out; omega
            obtain ⟨c, hcc⟩ : ∃ c, c = cs[t] := ⟨_, rfl⟩
            have hc2 := EQ.out
            rw [List.drop_eq_getElem_cons hlt, ← hcc] at hc2
            have hok := OK.out _ (List.getElem_mem hlt)
            rw [← hcc] at hok
            obtain ⟨i, j, m⟩ := c
            obtain ⟨d, ed, hd⟩ := RI.out.ar (fun e => by rw [e] at hlt; simp at hlt)
            obtain ⟨g0, g1, g2⟩ := hd t hlt
            have ec : gc cs t = (i, j, m) := by rw [hcc]; simp [gc, hlt]
            rw [ec] at g0 g1 g2
            simp only at g0 g1 g2
            have hsp : (d.add (t * 3)).spot = none := spot_add d _ (SP.out d ed)
            obtain ⟨o, ho⟩ : ∃ o, o = ntL m := ⟨_, rfl⟩
            have LN := Lib.hid (show ∀ W, Calls Tryz.prog 100 #[.int .i64 m] W (Still (.tuple #[.int .i64 o, .int .i64 0]) W) from fun W => by rw [ho]; exact rlimNot_ok m W hok.1 hok.2)
            have GD := Lib.hid (show ∀ W, Arg3 W dao cs → W.cell? (d.add (t * 3)) = some (.int .i64 i) ∧ W.cell? ⟨(d.add (t * 3)).block, (d.add (t * 3)).off + 1, none⟩ = some (.int .i64 j) ∧ W.cell? ⟨(d.add (t * 3)).block, (d.add (t * 3)).off + 2, none⟩ = some (.int .i64 m) from fun W h => by
              obtain ⟨d', e', h'⟩ := h (fun e => by rw [e] at hlt; simp at hlt)
              have e2 : d' = d := by rw [ed] at e'; injection e' with e'; exact e'.symm
              subst e2
              have h2 := h' t hlt
              rw [ec] at h2
              exact h2)
            have HO : opC (i, j, m) = (j, i, o) := by rw [ho]; rfl
            have ES := Lib.hid (show EqS (addQ (addS s' (anP r.p [(j, i, o)])) (if (anP r.p [(i, j, m)]).2 = 0 then cutR (anP r.p [(i, j, m)]).1 (cs.drop (t + 1)) else ([], (anP r.p [(i, j, m)]).2))) (addQ s (cutR x.p cs)) from by
              have := cut_step s' r.p (i, j, m) (cs.drop (t + 1))
              rw [HO] at this
              exact this.symm.trans hc2)
            obtain ⟨rl, hrl⟩ : ∃ rl, rl = r.l.length := ⟨_, rfl⟩
            have AN := Lib.hid (show ∀ W b, ZAt 0 W r → W.cell? ⟨b, 0, none⟩ = some (.int .i64 j) → W.cell? ⟨b, 1, none⟩ = some (.int .i64 i) → W.cell? ⟨b, 2, none⟩ = some (.int .i64 o) → Calls Tryz.prog 101 #[.agg #[.int .i64 r.N, .slice r.a rl r.c], .slice (some ⟨b, 0, none⟩) 1 1] W (ZOut W (anP r.p [(j, i, o)])) from fun W b h a0 a1 a2 => by rw [hrl]; exact ran_out r W h (j, i, o) ⟨b, 0, none⟩ rfl 1 a0 a1 a2)
            have AN2 := Lib.hid (show ∀ W kk, ZAt 0 W r → W.cell? (d.add (t * 3)) = some (.int .i64 i) → W.cell? ⟨(d.add (t * 3)).block, (d.add (t * 3)).off + 1, none⟩ = some (.int .i64 j) → W.cell? ⟨(d.add (t * 3)).block, (d.add (t * 3)).off + 2, none⟩ = some (.int .i64 m) → Calls Tryz.prog 101 #[.agg #[.int .i64 r.N, .slice r.a rl r.c], .slice (some (d.add (t * 3))) 1 kk] W (ZOut W (anP r.p [(i, j, m)])) from fun W kk h a0 a1 a2 => by rw [hrl]; exact ran_out r W h (i, j, m) (d.add (t * 3)) hsp kk a0 a1 a2)
            have X5 := Lib.hid (show Bx2 wo q10 (.int .i64 r.N) (.slice r.a rl r.c) 36 by rw [hrl]; exact RI.out.bx)
            have GG := Lib.hid (And.intro g0 (And.intro g1 g2))
            have AR := Lib.hid (show Arg3 wo dao cs from RI.out.ar)
            have HRL := Lib.hid hrl
            have HLT := Lib.hid hlt
            have HED := Lib.hid ed
            clear hc2 hcc hok hd ec hsp ho HO hrl hlt
            subst ed
            go_wp2_with fail
            refine (LN.out _).mono ?_
            rintro e wa ⟨rfl, hwa⟩
            rw [hwa]
            clear hwa wa
            go_upto_region 12 with (fail)
            clear g0 g1 g2
            obtain ⟨x0, x1, _, _⟩ := X5.out.facts
            obtain ⟨g0, g1, g2⟩ := GG.out

            have KS := Lib.hid (show ∀ W, Below wo.heap.size wo W → (W.cell? ⟨q10, 0, none⟩ = some (.int .i64 r.N) ∧ W.cell? ⟨q10, 1, none⟩ = some (.slice r.a rl r.c) ∧ W.cell? (d.add (t * 3)) = some (.int .i64 i) ∧ W.cell? ⟨(d.add (t * 3)).block, (d.add (t * 3)).off + 1, none⟩ = some (.int .i64 j)) from fun W h => ⟨kept h x0, kept h x1, kept h g0, kept h g1⟩)
            obtain ⟨wc, hwc⟩ : ∃ wc, wc = wo.drew := ⟨_, rfl⟩
            have Bc := Lib.hid (show Below wo.heap.size wo wc by rw [hwc]; exact (Below.refl _ _).drew)
            refine wp_region_held_drew (S := (fun W => (W.cell? ⟨q10, 0, none⟩ = some (.int .i64 r.N) ∧ W.cell? ⟨q10, 1, none⟩ = some (.slice r.a rl r.c) ∧ W.cell? (d.add (t * 3)) = some (.int .i64 i) ∧ W.cell? ⟨(d.add (t * 3)).block, (d.add (t * 3)).off + 1, none⟩ = some (.int .i64 j)))) (by kernel_rfl) (by rw [← hwc]; exact KS.out _ Bc.out) (fun h0 => ?_)
            rw [← hwc] at h0 ⊢
            clear hwc
            refine tkH (i := 0) (v := ?v15) rfl (Or.inl ⟨by rfl, ?hy15⟩) h0 ?rest15
            case hy15 => (intro w' hS; (try dsimp only at hS); go_simp; try (with_reducible rfl))
            simp only [Act.put, sA, sB, sD, sE, sF]
            refine tkH (i := 1) (v := ?v16) rfl (Or.inl ⟨by rfl, ?hy16⟩) h0 ?rest16
            case hy16 => (intro w' hS; (try dsimp only at hS); go_simp; try (with_reducible rfl))
            simp only [Act.put, sZ]
            refine tkH (i := 2) (v := ?v17) rfl (Or.inl ⟨by rfl, ?hy17⟩) h0 ?rest17
            case hy17 => (intro w' hS; (try dsimp only at hS); go_simp; try (with_reducible rfl))
            simp only [Act.put, sZ]
            refine tkH (i := 3) (v := ?v18) rfl (Or.inl ⟨by rfl, ?hy18⟩) h0 ?rest18
            case hy18 => (intro w' hS; (try dsimp only at hS); go_simp; try (with_reducible rfl))
            simp only [Act.put, sZ]
            refine tkH (i := 4) (v := ?v19) rfl (Or.inl ⟨by rfl, ?hy19⟩) h0 ?rest19
            case hy19 => (intro w' hS; (try dsimp only at hS); go_simp; try (with_reducible rfl))
            simp only [Act.put, sZ]
            refine tkH (i := 5) (v := ?v20) rfl (Or.inl ⟨by rfl, ?hy20⟩) h0 ?rest20
            case hy20 => (intro w' hS; (try dsimp only at hS); go_simp; try (with_reducible rfl))
            simp only [Act.put, sZ]
            refine tkH (i := 6) (v := ?v21) rfl (Or.inl ⟨by rfl, ?hy21⟩) h0 ?rest21
            case hy21 => (intro w' hS; (try dsimp only at hS); go_simp; try (with_reducible rfl))
            simp only [Act.put, sZ]
            refine tkH (i := 7) (v := ?v22) rfl (Or.inl ⟨by rfl, ?hy22⟩) h0 ?rest22
            case hy22 => (intro w' hS; (try dsimp only at hS); go_simp; try (with_reducible rfl))
            simp only [Act.put, sZ]
            refine tkH (i := 8) (v := ?v23) rfl (Or.inl ⟨by rfl, ?hy23⟩) h0 ?rest23
            case hy23 => (intro w' hS; (try dsimp only at hS); go_simp; try (with_reducible rfl))
            simp only [Act.put, sZ]
            refine tkH (i := 9) (v := ?v24) rfl (Or.inl ⟨by rfl, ?hy24⟩) h0 ?rest24
            case hy24 => (intro w' hS; (try dsimp only at hS); go_simp; try (with_reducible rfl))
            simp only [Act.put, sZ]
            refine tkH (i := 10) (v := ?v25) rfl (Or.inl ⟨by rfl, ?hy25⟩) h0 ?rest25
            case hy25 => (intro w' hS; (try dsimp only at hS); go_simp; try (with_reducible rfl))
            simp only [Act.put, sZ]
            refine tkH (i := 11) (v := ?v26) rfl (Or.inl ⟨by rfl, ?hy26⟩) h0 ?rest26
            case hy26 => (intro w' hS; (try dsimp only at hS); go_simp; try (with_reducible rfl))
            simp only [Act.put, sZ]
            refine tkH (i := 12) (v := ?v27) rfl (Or.inl ⟨by rfl, ?hy27⟩) h0 ?rest27
            case hy27 => (intro w' hS; (try dsimp only at hS); go_simp; try (with_reducible rfl))
            simp only [Act.put, sZ]
            refine tkH (i := 13) (v := ?v28) rfl (Or.inl ⟨by rfl, ?hy28⟩) h0 ?rest28
            case hy28 => (intro w' hS; (try dsimp only at hS); go_simp; try (with_reducible rfl))
            simp only [Act.put, sZ]
            refine wpAnyH_ready (rs := [14]) (by kernel_rfl) (by simp) (AllReadyH.cons rfl (fun K hK => ?_) AllReadyH.nil)
            rw [if_pos (by rfl)]
            go_simp
            have hb := one_more (w1 := wc) (.cells #[.int .i64 j, .int .i64 i, .int .i64 o] 110)
            have hP := Bx3.made wc (.int .i64 j) (.int .i64 i) (.int .i64 o) 110
            have hz := Bc.out.size
            obtain ⟨bs, hbb⟩ : ∃ b, b = wc.heap.size := ⟨_, rfl⟩
            rw [← hbb] at hP hz
            obtain ⟨wn, hwn⟩ : ∃ wn, wn = wc.alloc (.cells #[.int .i64 j, .int .i64 i, .int .i64 o] 110) := ⟨_, rfl⟩
            rw [← hwn] at hb hP ⊢
            try rw [← hbb]
            have Bc := Lib.hid (below_on Bc.out hb)
            have PS := Lib.hid hP
            have Zbs := Lib.hid hz
            clear hb hP hz hbb hwn
            obtain ⟨wc, hwc⟩ : ∃ wc, wc = wn := ⟨_, rfl⟩
            rw [← hwc] at Bc PS ⊢
            clear hwc
            go_simp
            refine hK.out _ _ (KS.out _ Bc.out) (fun h0_1 => ?_)
            clear hK K h0
            refine wpAnyH_ready (rs := [15]) (by kernel_rfl) (by simp) (AllReadyH.cons rfl (fun K hK => ?_) AllReadyH.nil)
            rw [if_pos (by rfl)]
            go_simp
            refine (AN.out wc bs (RI.out.za.on Bc.out) PS.out.facts.1 PS.out.facts.2.1 PS.out.facts.2.2).mono ?_
            rintro e wd ⟨hb, z8, rfl, hz8, hp8⟩
            obtain ⟨e8, he8⟩ : ∃ e8, e8 = (anP r.p [(j, i, o)]).2 := ⟨_, rfl⟩
            rw [← he8] at hp8 ⊢
            have HE8 := Lib.hid he8
            have P8 := Lib.hid hp8
            have A8 := Lib.hid (hz8.low Bc.out.size)
            have Bc := Lib.hid (below_on Bc.out hb)
            clear hb hz8 hp8 he8
            unfold ZV.val
            obtain ⟨zl, hzl⟩ : ∃ zl, zl = z8.l.length := ⟨_, rfl⟩
            rw [← hzl]
            have HZL := Lib.hid hzl
            clear hzl
            obtain ⟨wc, hwc⟩ : ∃ wc, wc = wd := ⟨_, rfl⟩
            rw [← hwc] at A8 Bc ⊢
            clear hwc
            go_simp
            refine hK.out _ _ (KS.out _ Bc.out) (fun h0_2 => ?_)
            clear hK K h0_1
            refine tkH (i := 16) (v := ?v29) rfl (Or.inl ⟨by rfl, ?hy29⟩) h0_2 ?rest29
            case hy29 => (intro w' hS; (try dsimp only at hS); go_simp; try (with_reducible rfl))
            simp only [Act.put, sZ]
            refine tkH (i := 17) (v := ?v30) rfl (Or.inl ⟨by rfl, ?hy30⟩) h0_2 ?rest30
            case hy30 => (intro w' hS; (try dsimp only at hS); go_simp; try (with_reducible rfl))
            simp only [Act.put, sZ]
            refine wpAnyH_ready (rs := [18]) (by kernel_rfl) (by simp) (AllReadyH.cons rfl (fun K hK => ?_) AllReadyH.nil)
            rw [if_pos (by rfl)]
            go_simp
            have AD := RI.out.add FF.out Bc.out z8 e8 A8.out
            unfold ZV.val at AD
            rw [← HZL.out] at AD
            refine AD.mono ?_
            rintro e wx ⟨rfl, hri⟩
            have RX := Lib.hid hri
            have YX := Lib.hid (show Bx2 wx q10 (.int .i64 r.N) (.slice r.a rl r.c) 36 by rw [HRL.out]; exact RX.out.bx)
            clear hri
            go_simp
            refine hK.out _ _ ⟨YX.out.facts.1, YX.out.facts.2.1, (GD.out _ RX.out.ar).1, (GD.out _ RX.out.ar).2.1⟩ (fun h0_3 => ?_)
            clear hK K h0_2
            try simp only [sF]
            try simp only [sE]
            refine wpAnyH_done (by kernel_rfl) ?_ _
            simp only [Exit.then]
            obtain ⟨s1, hs1⟩ : ∃ s1, s1 = addS s' (z8.p, e8) := ⟨_, rfl⟩
            have ES1 := Lib.hid (show EqS (addQ s1 (if (anP r.p [(i, j, m)]).2 = 0 then cutR (anP r.p [(i, j, m)]).1 (cs.drop (t + 1)) else ([], (anP r.p [(i, j, m)]).2))) (addQ s (cutR x.p cs)) from by rw [hs1, addS_same HE8.out P8.out]; exact ES.out)
            rw [← hs1] at RX
            obtain ⟨bad1, hbad1⟩ : ∃ bad1, bad1 = colE s1.1 s1.2 := ⟨_, rfl⟩
            have HB1 := Lib.hid hbad1
            have HWR : IntKind.i64.wrap ((t : Int) + 1) = (t : Int) + 1 := wrap_in _ (by omega) (by omega)
            clear hs1 hbad1 AD x0 x1 g0 g1 g2 KS Bc P8 A8 HE8 HZL PS f1
            obtain ⟨x0, x1, _, _⟩ := YX.out.facts
            obtain ⟨g0, g1, g2⟩ := GD.out _ RX.out.ar
            go_upto_region 13 with (fail)
            have KS := Lib.hid (show ∀ W, Below wx.heap.size wx W → (W.cell? ⟨q10, 0, none⟩ = some (.int .i64 r.N) ∧ W.cell? ⟨q10, 1, none⟩ = some (.slice r.a rl r.c) ∧ W.cell? (d.add (t * 3)) = some (.int .i64 i) ∧ W.cell? ⟨(d.add (t * 3)).block, (d.add (t * 3)).off + 1, none⟩ = some (.int .i64 j) ∧ W.cell? ⟨(d.add (t * 3)).block, (d.add (t * 3)).off + 2, none⟩ = some (.int .i64 m)) from fun W h => ⟨kept h x0, kept h x1, kept h g0, kept h g1, kept h g2⟩)
            obtain ⟨wc, hwc⟩ : ∃ wc, wc = wx.drew := ⟨_, rfl⟩
            have Bc := Lib.hid (show Below wx.heap.size wx wc by rw [hwc]; exact (Below.refl _ _).drew)
            refine wp_region_held_drew (S := (fun W => (W.cell? ⟨q10, 0, none⟩ = some (.int .i64 r.N) ∧ W.cell? ⟨q10, 1, none⟩ = some (.slice r.a rl r.c) ∧ W.cell? (d.add (t * 3)) = some (.int .i64 i) ∧ W.cell? ⟨(d.add (t * 3)).block, (d.add (t * 3)).off + 1, none⟩ = some (.int .i64 j) ∧ W.cell? ⟨(d.add (t * 3)).block, (d.add (t * 3)).off + 2, none⟩ = some (.int .i64 m)))) (by kernel_rfl) (by rw [← hwc]; exact KS.out _ Bc.out) (fun h0 => ?_)
            rw [← hwc] at h0 ⊢
            clear hwc
            refine tkH (i := 0) (v := ?v1) rfl (Or.inl ⟨by rfl, ?hy1⟩) h0 ?rest1
            case hy1 => (intro w' hS; (try dsimp only at hS); go_simp; try (with_reducible rfl))
            simp only [Act.put, sA, sB, sD, sE, sF]
            refine tkH (i := 1) (v := ?v2) rfl (Or.inl ⟨by rfl, ?hy2⟩) h0 ?rest2
            case hy2 => (intro w' hS; (try dsimp only at hS); go_simp; try (with_reducible rfl))
            simp only [Act.put, sZ]
            refine tkH (i := 2) (v := ?v3) rfl (Or.inl ⟨by rfl, ?hy3⟩) h0 ?rest3
            case hy3 => (intro w' hS; (try dsimp only at hS); go_simp; try (with_reducible rfl))
            simp only [Act.put, sZ]
            refine tkH (i := 3) (v := ?v4) rfl (Or.inl ⟨by rfl, ?hy4⟩) h0 ?rest4
            case hy4 => (intro w' hS; (try dsimp only at hS); go_simp; try (with_reducible rfl))
            simp only [Act.put, sZ]
            refine tkH (i := 4) (v := ?v5) rfl (Or.inl ⟨by rfl, ?hy5⟩) h0 ?rest5
            case hy5 => (intro w' hS; (try dsimp only at hS); go_simp; try (with_reducible rfl))
            simp only [Act.put, sZ]
            refine tkH (i := 5) (v := (.slice (some (d.add (t * 3))) 1 (dc - t))) rfl (Or.inl ⟨by rfl, (fun w' _ => yld_one _ _ _ rfl d k dc t rfl rfl rfl (by omega) CAP.out)⟩) h0 ?_
            simp only [Act.put, sZ]
            refine wpAnyH_ready (rs := [6, 10]) (by kernel_rfl) (by simp) (AllReadyH.cons rfl (fun K hK => ?_) (AllReadyH.cons rfl (fun K hK => ?_) AllReadyH.nil))
            · rw [if_pos (by rfl)]
              go_simp
              refine (AN2.out wc _ (RX.out.za.on Bc.out) (KS.out _ Bc.out).2.2.1 (KS.out _ Bc.out).2.2.2.1 (KS.out _ Bc.out).2.2.2.2).mono ?_
              rintro e wd ⟨hb, z9, rfl, hz9, hp8⟩
              obtain ⟨e9, he9⟩ : ∃ e9, e9 = (anP r.p [(i, j, m)]).2 := ⟨_, rfl⟩
              rw [← he9] at hp8 ⊢
              have HE9 := Lib.hid he9
              have P9 := Lib.hid hp8
              have A9 := Lib.hid (hz9.low Bc.out.size)
              try (have NE := Lib.hid (show ∀ p, z9.a = some p → p.block ≠ q14 from fun p e => by have := N14.out.lt; have := (hz9.2 p e).1; omega))
              try (have N14 := Lib.hid (N14.out.kept hb))
              have Bc := Lib.hid (below_on Bc.out hb)
              clear hb hz9 hp8 he9
              unfold ZV.val
              obtain ⟨zl, hzl⟩ : ∃ zl, zl = z9.l.length := ⟨_, rfl⟩
              rw [← hzl]
              have HZL := Lib.hid hzl
              clear hzl
              obtain ⟨wc, hwc⟩ : ∃ wc, wc = wd := ⟨_, rfl⟩
              rw [← hwc] at A9 Bc ⊢
              try rw [← hwc] at NE
              try rw [← hwc] at N14
              clear hwc
              go_simp
              refine hK.out _ _ (KS.out _ Bc.out) (fun h0_1 => ?_)
              clear hK K h0
              refine tkH (i := 7) (v := ?v7) rfl (Or.inl ⟨by rfl, ?hy7⟩) h0_1 ?rest7
              case hy7 => (intro w' hS; (try dsimp only at hS); go_simp; try (with_reducible rfl))
              simp only [Act.put, sZ]
              refine tkH (i := 8) (v := ?v8) rfl (Or.inl ⟨by rfl, ?hy8⟩) h0_1 ?rest8
              case hy8 => (intro w' hS; (try dsimp only at hS); go_simp; try (with_reducible rfl))
              simp only [Act.put, sZ]
              refine tkH (i := 9) (v := ?v9) rfl (Or.inl ⟨by rfl, ?hy9⟩) h0_1 ?rest9
              case hy9 => (intro w' hS; (try dsimp only at hS); go_simp; try (with_reducible rfl))
              simp only [Act.put, sZ]
              refine wpAnyH_ready (rs := [10]) (by kernel_rfl) (by simp) (AllReadyH.cons rfl (fun K hK => ?_) AllReadyH.nil)
              rw [if_pos (by rfl)]
              go_simp
              have hb := one_more (w1 := wc) (.cells #[.int .i64 0, .slice none 0 0] 36)
              have hP := Bx2.made wc (.int .i64 0) (.slice none 0 0) 36
              have hz := Bc.out.size
              obtain ⟨q14, hbb⟩ : ∃ b, b = wc.heap.size := ⟨_, rfl⟩
              rw [← hbb] at hP hz
              obtain ⟨wn, hwn⟩ : ∃ wn, wn = wc.alloc (.cells #[.int .i64 0, .slice none 0 0] 36) := ⟨_, rfl⟩
              rw [← hwn] at hb hP ⊢
              try rw [← hbb]
              try (have NE := Lib.hid (show ∀ p, z9.a = some p → p.block ≠ q14 from fun p e => by have := (A9.out.2 p e).2; omega))
              try (have A9 := Lib.hid (A9.out.on hb))
              have Bc := Lib.hid (below_on Bc.out hb)
              have N14 := Lib.hid hP
              have Zq14 := Lib.hid hz
              clear hb hP hz hbb hwn
              obtain ⟨wc, hwc⟩ : ∃ wc, wc = wn := ⟨_, rfl⟩
              rw [← hwc] at Bc N14 ⊢
              try rw [← hwc] at NE
              try rw [← hwc] at A9
              clear hwc
              go_simp
              refine hK.out _ _ (KS.out _ Bc.out) (fun h0_2 => ?_)
              clear hK K h0_1
              refine wpAnyH_ready (rs := [11]) (by kernel_rfl) (by simp) (AllReadyH.cons rfl (fun K hK => ?_) AllReadyH.nil)
              rw [if_pos (by rfl)]
              go_simp
              obtain ⟨f0, f1, f2, f3⟩ := N14.out.facts
              go_simp
              refine hK.out _ _ (KS.out _ (below_put2 Bc.out Zq14.out _ _)) (fun h0_3 => ?_)
              clear hK K h0_2
              clear f0 f1 f2 f3
              refine tkH (i := 12) (v := ?v10) rfl (Or.inl ⟨by rfl, ?hy10⟩) h0_3 ?rest10
              case hy10 => (intro w' hS; (try dsimp only at hS); go_simp; try (with_reducible rfl))
              simp only [Act.put, sA, sB, sC, sD]
              try simp only [sF]
              try simp only [sE]
              try simp only [sF]
              try simp only [sE]
              refine wpAnyH_done (by kernel_rfl) ?_ _
              simp only [Exit.then]
              have NZ := N14.out.put (.int .i64 z9.N) (.slice z9.a zl z9.c)
              have AZ := A9.out.grown (r := some q14) (grown_put2 wc q14 (.int .i64 z9.N) (.slice z9.a zl z9.c)) (fun p e q => by injection q with q; exact NE.out p e q.symm)
              have DZ := below_put2 Bc.out Zq14.out (.int .i64 z9.N) (.slice z9.a zl z9.c)
              obtain ⟨wy, hwy⟩ : ∃ wy, wy = (wc.setCell ⟨q14, 0, none⟩ (.int .i64 z9.N)).setCell ⟨q14, 1, none⟩ (.slice z9.a zl z9.c) := ⟨_, rfl⟩
              rw [← hwy] at NZ AZ DZ ⊢
              have JJ := Lib.hid (RX.out.next FF.out DZ z9 AZ)
              have NN := Lib.hid NZ
              have HZ9 := Lib.hid HZL.out
              have Q14 := Lib.hid (show q ≠ q14 by have := RX.out.mm.lt; have := Zq14.out; omega)
              have CG := Lib.hid (cut_go HE9.out P9.out ES1.out)
              clear hwy NZ AZ DZ
              have hm := JJ.out.ri.mm
              obtain ⟨mv1, mL1, m1, _⟩ := hm
              rw [← HB1.out] at m1
              have MB := Lib.hid m1
              obtain ⟨f0, f1, f2, f3⟩ := m1.facts
              clear m1
              by_cases h9 : e9 = 0
              · have h9b : (e9 != 0) = false := by simp [h9]
                have E1 := Lib.hid (CG.out.1 h9)
                clear h9
                obtain ⟨y0, y1, y2, y3⟩ := JJ.out.ri.bx.facts
                rw [← HRL.out] at y1
                obtain ⟨n0, n1, _, _⟩ := NN.out.facts
                go_wp2_with fail
                go_roundw
                case rel => exact ⟨t + 1, by go_num, by have := HLT.out; have := HK.out; omega, Lib.hid ⟨s1, z9, by have := JJ.out.put FF.out; rw [← HZ9.out] at this; exact this, E1.out⟩⟩
                case measure => simp [intOf]; omega
              · have h9b : (e9 != 0) = true := by simpa using h9
                by_cases hb2 : bad1 = 0
                · have hb3 : (bad1 == 0) = true := by simp [hb2]
                  have E1 := Lib.hid (CG.out.2.1 h9 (by rw [← HB1.out]; exact hb2))
                  have J2 := Lib.hid (JJ.out.fail FF.out (t := (s1.1, e9)) E1.out.2 h9)
                  have N2 := Lib.hid (NN.out.aside1 (p := ⟨q, 1, none⟩) (fun e => Q14.out e.symm) (.int .i64 e9))
                  clear h9 hb2
                  go_upto_region 16 with (fail)
                  obtain ⟨wz, hwz⟩ : ∃ wz, wz = wy.setCell ⟨q, 1, none⟩ (.int .i64 e9) := ⟨_, rfl⟩
                  rw [← hwz] at J2 N2 ⊢
                  clear hwz f0 f1 f2 f3
                  obtain ⟨y0, y1, y2, y3⟩ := J2.out.ri.bx.facts
                  rw [← HRL.out] at y1
                  obtain ⟨n0, n1, _, _⟩ := N2.out.facts
                  go_wp2_with fail
                  go_roundw
                  case rel => exact ⟨t + 1, by go_num, by have := HLT.out; have := HK.out; omega, Lib.hid ⟨(s1.1, e9), z9, by have := J2.out.put FF.out; rw [← HZ9.out] at this; exact this, E1.out.1⟩⟩
                  case measure => simp [intOf]; omega
                · have hb3 : (bad1 == 0) = false := by simpa using hb2
                  have E1 := Lib.hid (CG.out.2.2 h9 (by rw [← HB1.out]; exact hb2))
                  clear h9 hb2
                  obtain ⟨y0, y1, y2, y3⟩ := JJ.out.ri.bx.facts
                  rw [← HRL.out] at y1
                  obtain ⟨n0, n1, _, _⟩ := NN.out.facts
                  go_wp2_with fail
                  go_roundw
                  case rel => exact ⟨t + 1, by go_num, by have := HLT.out; have := HK.out; omega, Lib.hid ⟨s1, z9, by have := JJ.out.put FF.out; rw [← HZ9.out] at this; exact this, E1.out⟩⟩
                  case measure => simp [intOf]; omega
            · rw [if_pos (by rfl)]
              go_simp
              have hb := one_more (w1 := wc) (.cells #[.int .i64 0, .slice none 0 0] 36)
              have hP := Bx2.made wc (.int .i64 0) (.slice none 0 0) 36
              have hz := Bc.out.size
              obtain ⟨q14, hbb⟩ : ∃ b, b = wc.heap.size := ⟨_, rfl⟩
              rw [← hbb] at hP hz
              obtain ⟨wn, hwn⟩ : ∃ wn, wn = wc.alloc (.cells #[.int .i64 0, .slice none 0 0] 36) := ⟨_, rfl⟩
              rw [← hwn] at hb hP ⊢
              try rw [← hbb]
              try (have NE := Lib.hid (show ∀ p, z9.a = some p → p.block ≠ q14 from fun p e => by have := (A9.out.2 p e).2; omega))
              try (have A9 := Lib.hid (A9.out.on hb))
              have Bc := Lib.hid (below_on Bc.out hb)
              have N14 := Lib.hid hP
              have Zq14 := Lib.hid hz
              clear hb hP hz hbb hwn
              obtain ⟨wc, hwc⟩ : ∃ wc, wc = wn := ⟨_, rfl⟩
              rw [← hwc] at Bc N14 ⊢
              try rw [← hwc] at NE
              try rw [← hwc] at A9
              clear hwc
              go_simp
              refine hK.out _ _ (KS.out _ Bc.out) (fun h0_1 => ?_)
              clear hK K h0
              refine wpAnyH_ready (rs := [6]) (by kernel_rfl) (by simp) (AllReadyH.cons rfl (fun K hK => ?_) AllReadyH.nil)
              rw [if_pos (by rfl)]
              go_simp
              refine (AN2.out wc _ (RX.out.za.on Bc.out) (KS.out _ Bc.out).2.2.1 (KS.out _ Bc.out).2.2.2.1 (KS.out _ Bc.out).2.2.2.2).mono ?_
              rintro e wd ⟨hb, z9, rfl, hz9, hp8⟩
              obtain ⟨e9, he9⟩ : ∃ e9, e9 = (anP r.p [(i, j, m)]).2 := ⟨_, rfl⟩
              rw [← he9] at hp8 ⊢
              have HE9 := Lib.hid he9
              have P9 := Lib.hid hp8
              have A9 := Lib.hid (hz9.low Bc.out.size)
              try (have NE := Lib.hid (show ∀ p, z9.a = some p → p.block ≠ q14 from fun p e => by have := N14.out.lt; have := (hz9.2 p e).1; omega))
              try (have N14 := Lib.hid (N14.out.kept hb))
              have Bc := Lib.hid (below_on Bc.out hb)
              clear hb hz9 hp8 he9
              unfold ZV.val
              obtain ⟨zl, hzl⟩ : ∃ zl, zl = z9.l.length := ⟨_, rfl⟩
              rw [← hzl]
              have HZL := Lib.hid hzl
              clear hzl
              obtain ⟨wc, hwc⟩ : ∃ wc, wc = wd := ⟨_, rfl⟩
              rw [← hwc] at A9 Bc ⊢
              try rw [← hwc] at NE
              try rw [← hwc] at N14
              clear hwc
              go_simp
              refine hK.out _ _ (KS.out _ Bc.out) (fun h0_4 => ?_)
              clear hK K h0_1
              refine tkH (i := 7) (v := ?v11) rfl (Or.inl ⟨by rfl, ?hy11⟩) h0_4 ?rest11
              case hy11 => (intro w' hS; (try dsimp only at hS); go_simp; try (with_reducible rfl))
              simp only [Act.put, sZ]
              refine tkH (i := 8) (v := ?v12) rfl (Or.inl ⟨by rfl, ?hy12⟩) h0_4 ?rest12
              case hy12 => (intro w' hS; (try dsimp only at hS); go_simp; try (with_reducible rfl))
              simp only [Act.put, sZ]
              refine tkH (i := 9) (v := ?v13) rfl (Or.inl ⟨by rfl, ?hy13⟩) h0_4 ?rest13
              case hy13 => (intro w' hS; (try dsimp only at hS); go_simp; try (with_reducible rfl))
              simp only [Act.put, sZ]
              refine wpAnyH_ready (rs := [11]) (by kernel_rfl) (by simp) (AllReadyH.cons rfl (fun K hK => ?_) AllReadyH.nil)
              rw [if_pos (by rfl)]
              go_simp
              obtain ⟨f0, f1, f2, f3⟩ := N14.out.facts
              go_simp
              refine hK.out _ _ (KS.out _ (below_put2 Bc.out Zq14.out _ _)) (fun h0_5 => ?_)
              clear hK K h0_4
              clear f0 f1 f2 f3
              refine tkH (i := 12) (v := ?v14) rfl (Or.inl ⟨by rfl, ?hy14⟩) h0_5 ?rest14
              case hy14 => (intro w' hS; (try dsimp only at hS); go_simp; try (with_reducible rfl))
              simp only [Act.put, sA, sB, sC, sD]
              try simp only [sF]
              try simp only [sE]
              try simp only [sF]
              try simp only [sE]
              refine wpAnyH_done (by kernel_rfl) ?_ _
              simp only [Exit.then]
              have NZ := N14.out.put (.int .i64 z9.N) (.slice z9.a zl z9.c)
              have AZ := A9.out.grown (r := some q14) (grown_put2 wc q14 (.int .i64 z9.N) (.slice z9.a zl z9.c)) (fun p e q => by injection q with q; exact NE.out p e q.symm)
              have DZ := below_put2 Bc.out Zq14.out (.int .i64 z9.N) (.slice z9.a zl z9.c)
              obtain ⟨wy, hwy⟩ : ∃ wy, wy = (wc.setCell ⟨q14, 0, none⟩ (.int .i64 z9.N)).setCell ⟨q14, 1, none⟩ (.slice z9.a zl z9.c) := ⟨_, rfl⟩
              rw [← hwy] at NZ AZ DZ ⊢
              have JJ := Lib.hid (RX.out.next FF.out DZ z9 AZ)
              have NN := Lib.hid NZ
              have HZ9 := Lib.hid HZL.out
              have Q14 := Lib.hid (show q ≠ q14 by have := RX.out.mm.lt; have := Zq14.out; omega)
              have CG := Lib.hid (cut_go HE9.out P9.out ES1.out)
              clear hwy NZ AZ DZ
              have hm := JJ.out.ri.mm
              obtain ⟨mv1, mL1, m1, _⟩ := hm
              rw [← HB1.out] at m1
              have MB := Lib.hid m1
              obtain ⟨f0, f1, f2, f3⟩ := m1.facts
              clear m1
              by_cases h9 : e9 = 0
              · have h9b : (e9 != 0) = false := by simp [h9]
                have E1 := Lib.hid (CG.out.1 h9)
                clear h9
                obtain ⟨y0, y1, y2, y3⟩ := JJ.out.ri.bx.facts
                rw [← HRL.out] at y1
                obtain ⟨n0, n1, _, _⟩ := NN.out.facts
                go_wp2_with fail
                go_roundw
                case rel => exact ⟨t + 1, by go_num, by have := HLT.out; have := HK.out; omega, Lib.hid ⟨s1, z9, by have := JJ.out.put FF.out; rw [← HZ9.out] at this; exact this, E1.out⟩⟩
                case measure => simp [intOf]; omega
              · have h9b : (e9 != 0) = true := by simpa using h9
                by_cases hb2 : bad1 = 0
                · have hb3 : (bad1 == 0) = true := by simp [hb2]
                  have E1 := Lib.hid (CG.out.2.1 h9 (by rw [← HB1.out]; exact hb2))
                  have J2 := Lib.hid (JJ.out.fail FF.out (t := (s1.1, e9)) E1.out.2 h9)
                  have N2 := Lib.hid (NN.out.aside1 (p := ⟨q, 1, none⟩) (fun e => Q14.out e.symm) (.int .i64 e9))
                  clear h9 hb2
                  go_upto_region 16 with (fail)
                  obtain ⟨wz, hwz⟩ : ∃ wz, wz = wy.setCell ⟨q, 1, none⟩ (.int .i64 e9) := ⟨_, rfl⟩
                  rw [← hwz] at J2 N2 ⊢
                  clear hwz f0 f1 f2 f3
                  obtain ⟨y0, y1, y2, y3⟩ := J2.out.ri.bx.facts
                  rw [← HRL.out] at y1
                  obtain ⟨n0, n1, _, _⟩ := N2.out.facts
                  go_wp2_with fail
                  go_roundw
                  case rel => exact ⟨t + 1, by go_num, by have := HLT.out; have := HK.out; omega, Lib.hid ⟨(s1.1, e9), z9, by have := J2.out.put FF.out; rw [← HZ9.out] at this; exact this, E1.out.1⟩⟩
                  case measure => simp [intOf]; omega
                · have hb3 : (bad1 == 0) = false := by simpa using hb2
                  have E1 := Lib.hid (CG.out.2.2 h9 (by rw [← HB1.out]; exact hb2))
                  clear h9 hb2
                  obtain ⟨y0, y1, y2, y3⟩ := JJ.out.ri.bx.facts
                  rw [← HRL.out] at y1
                  obtain ⟨n0, n1, _, _⟩ := NN.out.facts
                  go_wp2_with fail
                  go_roundw
                  case rel => exact ⟨t + 1, by go_num, by have := HLT.out; have := HK.out; omega, Lib.hid ⟨s1, z9, by have := JJ.out.put FF.out; rw [← HZ9.out] at this; exact this, E1.out⟩⟩
                  case measure => simp [intOf]; omega

          · have hb1 : (bad == 0) = false := by simpa using hb0
            have FIN := Lib.hid (DONE.out (by rw [SE.out]; have := EQ.out; rw [addQ_bad (by rw [← HBD.out]; exact hb0)] at this; exact this))
            clear hb0
            go_wp2_with fail
            go_end0
            exact FIN.out
        · have e : cs.drop t = [] := List.drop_eq_nil_of_le (by have := HK.out; omega)
          have FIN := Lib.hid (DONE.out (by rw [SE.out]; have := EQ.out; rw [e, cutR_nil, addQ_nil] at this; exact this))
          clear e
          go_wp2_with fail
          repeat (first | (refine ⟨fun f h => (by cases h), ?_⟩; try go_wp2_with fail))
          go_end0
          exact FIN.out
    · have e2 : (er != 0) = true := by simpa using he0
      have SE := Lib.hid (show addQ s (cutS x.p b.p cs) = addS s (x.p, er) by rw [CS.out, if_neg he4, if_neg he0, addS_eq, emS_no he0 he4])
      clear he4 he0
      go_wp2_with fail
      refine (AD.out _ er B3.out).mono ?_
      intro e w4 ha
      have HA := Lib.hid (WR.out w3 (addS s (x.p, er), e, w4) B3.out ha)
      obtain ⟨rfl, _⟩ := ha
      go_wp2_with fail
      go_end0
      rw [SE.out]
      exact HA.out
end Go.Proofs.YtaegiihkgicdnaaGreat
