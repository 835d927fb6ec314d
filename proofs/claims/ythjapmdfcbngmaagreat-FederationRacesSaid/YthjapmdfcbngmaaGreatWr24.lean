/- A part. -/
import Derived.Test.YthjapmdfcbngmaaGreatWr11
import Derived.Test.YthjapmdfcbngmaaGreatWr23
import Derived.Sort.CutIn
namespace Go.Proofs.YthjapmdfcbngmaaGreat
set_option maxHeartbeats 16000000
open Go.RowKit
def Bx3 (w : World) (b : Nat) (u v x : Value) (t : TypeId) : Prop := w.heap[b]? = some (.cells #[u, v, x] t (0, 0))
theorem Bx3.lt {w : World} {b : Nat} {u v x : Value} {t : TypeId} (h : Bx3 w b u v x t) : b < w.heap.size := by
 by_cases e : b < w.heap.size
 · exact e
 · unfold Bx3 at h; rw [Array.getElem?_eq_none (by omega)] at h; cases h
theorem Bx3.made (w : World) (u v x : Value) (t : TypeId) : Bx3 (w.alloc (.cells #[u, v, x] t)) w.heap.size u v x t := heap_alloc_last w _
theorem Bx3.kept {w w' : World} {b : Nat} {u v x : Value} {t : TypeId} (h : Bx3 w b u v x t) (hb : Below w.heap.size w w') : Bx3 w' b u v x t := (hb.block b h.lt).trans h
theorem Bx3.keptK {S : Nat → Prop} {A B : World} {b : Nat} {u v x : Value} {t : TypeId} (h : Bx3 A b u v x t) (k : Kept S A B) (hs : S b) : Bx3 B b u v x t := (k.block b h.lt hs).trans h
theorem Bx3.facts {w : World} {b : Nat} {u v x : Value} {t : TypeId} (h : Bx3 w b u v x t) : w.cell? ⟨b, 0, none⟩ = some u ∧ w.cell? ⟨b, 1, none⟩ = some v ∧ w.cell? ⟨b, 2, none⟩ = some x :=
 ⟨by rw [cell_of_row w b 0 _ _ _ h]; rfl, by rw [cell_of_row w b 1 _ _ _ h]; rfl, by rw [cell_of_row w b 2 _ _ _ h]; rfl⟩
theorem Bx2.aside {w : World} {b y : Nat} {u v : Value} {t : TypeId} (h : Bx2 w b u v t) (hne : b ≠ y) (u' v' : Value) : Bx2 ((w.setCell ⟨y, 0, none⟩ u').setCell ⟨y, 1, none⟩ v') b u v t := by
 unfold Bx2
 rw [heap_setCell_other _ ⟨y, 1, none⟩ b v' hne, heap_setCell_other _ ⟨y, 0, none⟩ b u' hne]; exact h
def ROk (W : World) (T0 : Nat → Prop) (r : ZV) : Prop := (ZAt 0 W r ∧ ∀ p, r.a = some p → ¬ T0 p.block) ∨ (∀ p, r.a = some p → W.heap.size ≤ p.block)
structure CuI (W : World) (T0 : Nat → Prop) (J : List Zp → (Nat → Prop) → World → Prop) (q : Nat) (E : Nat → Prop) (pre : List Zp) (r : ZV) (A : World) : Prop where
 it : ∃ m, ItI W T0 (fun k => k = q ∨ (W.heap.size ≤ k ∧ ∃ p, r.a = some p ∧ p.block = k) ∨ E k) J pre m A
 bx : Bx2 A q (.int .i64 r.N) (.slice r.a r.l.length r.c) 36
 za : ZAt 0 A r
 ro : ROk W T0 r
 qw : W.heap.size ≤ q
section
variable {W A A' : World} {T0 : Nat → Prop} {J : List Zp → (Nat → Prop) → World → Prop} {q : Nat} {E : Nat → Prop} {pre : List Zp} {r : ZV}
theorem CuI.size (h : CuI W T0 J q E pre r A) : W.heap.size ≤ A.heap.size := by
 obtain ⟨m, i⟩ := h.it
 exact i.size.2
theorem CuI.below (hst : ∀ pre T A B, J pre T A → Kept (fun k => k < W.heap.size ∨ T k) A B → J pre T B) (h : CuI W T0 J q E pre r A) (hb : Below A.heap.size A A') : CuI W T0 J q E pre r A' := by
 obtain ⟨m, i⟩ := h.it
 exact ⟨⟨m, i.below hst hb⟩, h.bx.kept hb, h.za.on hb, h.ro, h.qw⟩
theorem CuI.box (hst : ∀ pre T A B, J pre T A → Kept (fun k => k < W.heap.size ∨ T k) A B → J pre T B) (h : CuI W T0 J q (fun _ => False) pre r A) (hb : Below A.heap.size A A') {b : Nat} (h1 : A.heap.size ≤ b) (h2 : b < A'.heap.size) : CuI W T0 J q (fun k => k = b) pre r A' := by
 obtain ⟨m, i⟩ := h.it
 have hs := i.size
 have hsz := hb.size
 refine ⟨⟨m, i.own hst hb fun k e => ?_⟩, h.bx.kept hb, h.za.on hb, h.ro, h.qw⟩
 rcases e with e | e | e
 · exact ⟨Or.inl (Or.inl e), by have := h.bx.lt; omega⟩
 · obtain ⟨e1, p, e2, rfl⟩ := e
   exact ⟨Or.inl (Or.inr (Or.inl ⟨e1, p, e2, rfl⟩)), by have := (h.za.2 p e2).2; omega⟩
 · exact ⟨Or.inr (by omega), by omega⟩
theorem CuI.give {B l n₀ : Nat} {xs : List Zp} {Jp : List PanicEntry → World → Prop} (hst : ∀ pre T A B, J pre T A → Kept (fun k => k < W.heap.size ∨ T k) A B → J pre T B) (rnd : Rnd B n₀ l W xs J Jp) (hlt : ∀ pre T A, J pre T A → ∀ k, T k → k < A.heap.size) (hB : B ≤ W.heap.size)
  (h : CuI W T0 J q E pre r A) (hb : Below A.heap.size A A') {z : ZV} (hz : ZAt A.heap.size A' z) (hpre : (pre ++ [z.p]) <+: xs) :
  YieldAt Fence.wide 8 Tryz.prog l #[z.val] A' fun e A2 => (e = .returned (.bool true) ∧ CuI W T0 J q E (pre ++ [z.p]) r A2 ∧ Kept E A' A2) ∨ (∃ chain, e = .panicked chain ∧ Jp chain A2) := by
 have sz := h.size
 obtain ⟨m, i⟩ := h.it
 have hO : ∀ k, (k = q ∨ (W.heap.size ≤ k ∧ ∃ p, r.a = some p ∧ p.block = k) ∨ E k) → k < A.heap.size := by
  obtain ⟨T, _, _, j3, _⟩ := i
  exact j3
 refine (yield_zone rnd hlt (i.below hst hb) rfl hpre (hz.low (by omega)) (fun p e => ?_)).mono ?_
 · have h1 := (hz.2 p e).1
   refine ⟨fun o => ?_, Or.inr ⟨by omega, by have := i.size.1; omega⟩⟩
   have := hO _ o; omega
 · rintro e A2 (⟨rfl, i2, k2⟩ | ⟨chain, rfl, hp⟩)
   · refine Or.inl ⟨rfl, ⟨⟨_, i2⟩, (h.bx.kept hb).keptK k2 (Or.inl rfl), ?_, h.ro, h.qw⟩, k2.mono fun k _ q => Or.inr (Or.inr q)⟩
     rcases h.ro with ⟨o1, o2⟩ | o
     · exact i2.zat o1 o2
     · exact (h.za.on hb).keptK k2 fun p e => Or.inr (Or.inl ⟨o p e, p, e, rfl⟩)
   · exact Or.inr ⟨chain, rfl, hp⟩
theorem CuI.rest (hst : ∀ pre T A B, J pre T A → Kept (fun k => k < W.heap.size ∨ T k) A B → J pre T B) (h : CuI W T0 J q E pre r A) (hb : Below A.heap.size A A') {y : ZV} (hy : ZAt A.heap.size A' y) :
  CuI W T0 J q (fun _ => False) pre y ((A'.setCell ⟨q, 0, none⟩ (.int .i64 y.N)).setCell ⟨q, 1, none⟩ (.slice y.a y.l.length y.c)) := by
 have sz := h.size
 obtain ⟨m, i⟩ := h.it
 have g1 := grown_cell A' q (.int .i64 y.N)
 have hq := h.bx.lt
 have hsz := hb.size
 have kq : Kept (fun k => k ≠ q) A' ((A'.setCell ⟨q, 0, none⟩ (.int .i64 y.N)).setCell ⟨q, 1, none⟩ (.slice y.a y.l.length y.c)) :=
  ⟨rfl, rfl, rfl, by simp, fun k _ hk => by rw [heap_setCell_other _ ⟨q, 1, none⟩ k _ hk, heap_setCell_other _ ⟨q, 0, none⟩ k _ hk]⟩
 refine ⟨⟨m, ItI.stay hst (i.own (O' := fun k => k = q ∨ (W.heap.size ≤ k ∧ ∃ p, y.a = some p ∧ p.block = k) ∨ False) hst hb fun k e => ?_) (kq.mono fun k _ e => fun e2 => e (Or.inl e2)) (fun k e => ?_)⟩, (h.bx.kept hb).put _ _, hy.low (Nat.zero_le _) |>.keptK kq fun p e => ?_, Or.inr fun p e => by have := (hy.2 p e).1; omega, h.qw⟩
 · rcases e with e | ⟨e1, p, e2, rfl⟩ | e
   · exact ⟨Or.inl (Or.inl e), by omega⟩
   · have := hy.2 p e2
     exact ⟨Or.inr (by have := i.size.1; omega), this.2⟩
   · exact e.elim
 · rcases e with e | ⟨e1, p, e2, rfl⟩ | e
   · rw [e]; exact h.qw
   · exact e1
   · exact e.elim
 · have := (hy.2 p e).1; omega
end
theorem cut_enters : ∀ args w, (callFunc 158 args).run Tryz.prog w = .ok (.enter 158 args) w := yield_enters _ Tryz.func158 (by kernel_rfl) rfl
def CutA (w5 wx : World) (q8 : Nat) (z8 : ZV) (r : Zp × Int) : Prop :=
 Bx2 wx q8 (.int .i64 z8.N) (.slice z8.a z8.l.length z8.c) 36 ∧ Below w5.heap.size w5 wx ∧ ZAt w5.heap.size wx z8 ∧ (r.2 = 0 → z8.p = r.1)
theorem grown_put2 (w : World) (b : Nat) (u v : Value) : w.grownBy ((w.setCell ⟨b, 0, none⟩ u).setCell ⟨b, 1, none⟩ v) (some b) := grown_trans (grown_cell w b u) ⟨rfl, rfl, rfl, by simp, fun k _ hk => heap_setCell_other _ ⟨b, 1, none⟩ k v (fun e => hk (by simp [e]))⟩
theorem cut_stop {x b r : Zp} {cs : List Con} {pre : List Zp} {t : Nat} (hc : cutS x b cs = seqA (pre, 0) (cutR r (cs.drop t))) (ht : t < cs.length) :
  cutS x b cs = seqA (pre, 0) (seqA (emS (anP r [opC cs[t]])) (if (anP r [cs[t]]).2 = 0 then cutR (anP r [cs[t]]).1 (cs.drop (t + 1)) else ([], (anP r [cs[t]]).2))) := by
 rw [hc, List.drop_eq_getElem_cons ht]; rfl
set_option maxRecDepth 100000 in
theorem cut_seq (x b : ZV) (cs : List Con) (dao : Option Addr) (dc px pb pd B n₀ : Nat) (W : World) (T0 : Nat → Prop) (hB : B ≤ W.heap.size)
  (c0 : W.cell? ⟨px, 0, none⟩ = some (.int .i64 x.N)) (c1 : W.cell? ⟨px, 1, none⟩ = some (.slice x.a x.l.length x.c)) (c2 : W.cell? ⟨pb, 0, none⟩ = some (.int .i64 b.N)) (c3 : W.cell? ⟨pb, 1, none⟩ = some (.slice b.a b.l.length b.c)) (c4 : W.cell? ⟨pd, 0, none⟩ = some (.slice dao cs.length dc))
  (tx : ¬ T0 px) (_tb : ¬ T0 pb) (td : ¬ T0 pd) (hx : ZAt B W x) (hxt : ∀ p, x.a = some p → ¬ T0 p.block ∧ p.block < n₀) (hb : ZAt 0 W b) (_hbt : ∀ p, b.a = some p → ¬ T0 p.block) (hD : Arg3 W dao cs) (hdt : ∀ p, dao = some p → ¬ T0 p.block) (hdl : cs.length ≤ 121) (hok : ∀ c ∈ cs, I64 c.2.2 ∧ spE c.2.2 = 0) :
  SeqG Tryz.prog 158 #[.pointer (some ⟨px, 0, none⟩), .pointer (some ⟨pb, 0, none⟩), .pointer (some ⟨pd, 0, none⟩)] (VzA B) giftZ n₀ (cutS x.p b.p cs).1 (if (cutS x.p b.p cs).2 = 0 then none else some (pan (cutS x.p b.p cs).2)) W T0 := by
 intro l J Jp hst hlt _ rnd h0
 obtain ⟨n, hn⟩ : ∃ n, n = cs.length := ⟨_, rfl⟩
 have HN := Lib.hid hn
 rw [← hn] at c4
 have hle : n ≤ 121 := by omega
 obtain ⟨xl, hxl⟩ : ∃ xl, xl = x.l.length := ⟨_, rfl⟩
 obtain ⟨bl, hbl⟩ : ∃ bl, bl = b.l.length := ⟨_, rfl⟩
 rw [← hxl] at c1
 rw [← hbl] at c3
 have HXL := Lib.hid hxl
 have ST := Lib.hid hst
 have LL := Lib.hid hlt
 have RN := Lib.hid (show Rnd B n₀ l W (cutS x.p b.p cs).1 J Jp from rnd)
 have I0 := Lib.hid (ItI.start hlt h0)
 have HBW := Lib.hid hB
 have HX := Lib.hid hx
 have HXT := Lib.hid hxt
 have D3 := Lib.hid hD
 have DT := Lib.hid hdt
 have OK := Lib.hid hok
 have TX := Lib.hid tx
 have TD := Lib.hid td
 have C0 := Lib.hid c0
 have C1 := Lib.hid c1
 have C4 := Lib.hid c4
 have MT := Lib.hid (show Calls Tryz.prog 90 #[.agg #[.int .i64 x.N, .slice x.a xl x.c], .agg #[.int .i64 b.N, .slice b.a bl b.c]] W (ZOut W (mtP x.p b.p)) by rw [hxl, hbl]; exact mt_out x b W hx hb)
 have CS := Lib.hid (show cutS x.p b.p cs = if (mtP x.p b.p).2 = 4 then ([x.p], 0) else if (mtP x.p b.p).2 = 0 then cutR x.p cs else ([], (mtP x.p b.p).2) from rfl)
 obtain ⟨erx, herx⟩ : ∃ erx, erx = (if (cutS x.p b.p cs).2 = 0 then none else some (pan (cutS x.p b.p cs).2)) := ⟨_, rfl⟩
 rw [← herx]
 have HERX := Lib.hid herx
 clear herx
 clear hst hlt rnd h0 hB hx hxt hb _hbt hD hdt hok tx _tb td hn hxl hbl hdl c4
 refine callsIn_of_wp Tryz.func158 rfl trivial ?_ rfl
 simp only [Tryz.ntmps158, List.size_toArray, List.length_cons, List.length_nil, Nat.reduceAdd, Nat.reduceSub, Array.replicate_succ, Array.replicate_zero, List.push_toArray, List.append_toArray, List.nil_append, List.cons_append]
 gi_wp2_with fail
 refine ⟨trivial, (callsIn_wide.2 MT.out).mono ?_⟩
 rintro e w2 ⟨hb, y, rfl, hy, hyp⟩
 obtain ⟨er, her⟩ : ∃ er, er = (mtP x.p b.p).2 := ⟨_, rfl⟩
 rw [← her] at CS ⊢
 have EM := Lib.hid (fun W => empty_any y er W)
 have B2 := Lib.hid hb
 unfold ZV.val at EM ⊢
 generalize y.l.length = yl at *
 clear hb hy hyp her c0 c1 c2 c3
 gi_wp2_with fail
 refine ⟨trivial, (callsIn_wide.2 (EM.out _)).mono ?_⟩
 rintro e w3 ⟨hb, (⟨he, rfl⟩ | ⟨he, rfl⟩ | ⟨he, he4, rfl⟩)⟩
 · -- nothing is cut
   have S1 := Lib.hid (show cutS x.p b.p cs = ([x.p], 0) by rw [CS.out, if_pos he])
   have B3 := Lib.hid (below_on B2.out hb)
   have I3 := Lib.hid (I0.out.below ST.out B3.out)
   have YD := yield_zone RN.out LL.out I3.out (z := x) rfl (by rw [S1.out]; exact List.prefix_refl _) (I3.out.zat HX.out (fun p e => (HXT.out p e).1)) (fun p e => ⟨id, Or.inl ⟨(HXT.out p e).2, (HX.out.2 p e).2, (HXT.out p e).1⟩⟩)
   have c0 := I3.out.cell C0.out TX.out
   have c1 := I3.out.cell C1.out TX.out
   obtain ⟨fn, tmps, assign, body, hyd, hR⟩ := YD
   have HR := Lib.hid hR
   unfold ZV.val at hyd
   rw [← HXL.out] at hyd
   clear hR hb he
   gi_wp2_with fail
   refine HR.out.mono ?_
   rintro e w4 (⟨rfl, i4, _⟩ | ⟨chain, rfl, hp⟩)
   · obtain ⟨T, j1, _⟩ := i4
     have J1 := Lib.hid j1
     clear j1
     gi_wp2_with fail
     have J2 : J (cutS x.p b.p cs).1 T w4 := by rw [S1.out]; exact J1.out
     have E2 : erx = none := by rw [HERX.out, S1.out]; rfl
     refine bodyPost_ret (v := .tuple #[]) (by simp [results, Tryz.results158, go_sem]) rfl ?_
     exact Or.inl ⟨rfl, E2, T, J2⟩
   · exact ⟨by first | rfl | trivial, Or.inr ⟨chain, by first | rfl | trivial, Or.inl hp⟩⟩
 · -- border by border
   have S0 := Lib.hid (show cutS x.p b.p cs = cutR x.p cs by rw [CS.out, if_neg (by omega), if_pos he])
   have B3 := Lib.hid (below_on B2.out hb)
   have I3 := Lib.hid (I0.out.below ST.out B3.out)
   have c0 := I3.out.cell C0.out TX.out
   have c1 := I3.out.cell C1.out TX.out
   have c4 := I3.out.cell C4.out TD.out
   have B4 := Lib.hid (one_more (w1 := w3) (.cells #[.int .i64 x.N, .slice x.a xl x.c] 36))
   have c5 := kept B4.out c4
   have Z3 := Lib.hid (below_on B3.out B4.out).size
   have U0 := Lib.hid (show CuI W T0 J w3.heap.size (fun _ => False) [] x (w3.alloc (.cells #[.int .i64 x.N, .slice x.a xl x.c] 36)) from by
    refine ⟨⟨_, I3.out.own ST.out B4.out fun k e => ?_⟩, by rw [HXL.out]; exact Bx2.made _ _ _ _, (I3.out.zat HX.out (fun p e => (HXT.out p e).1)).on B4.out |>.low (Nat.zero_le _), Or.inl ⟨HX.out.low (Nat.zero_le _), fun p e => (HXT.out p e).1⟩, I3.out.size.2⟩
    rcases e with e | ⟨e1, p, e2, rfl⟩ | e
    · exact ⟨Or.inr (by have := I3.out.size.1; omega), by rw [World.size_alloc]; omega⟩
    · have := (HX.out.2 p e2).2; omega
    · exact e.elim)
   have HQ := Lib.hid (show w3.heap.size < (w3.alloc (.cells #[.int .i64 x.N, .slice x.a xl x.c] 36)).heap.size by rw [World.size_alloc]; omega)
   clear hb he
   gi_wp2_with fail
   generalize w3.alloc (.cells #[.int .i64 x.N, .slice x.a xl x.c] 36) = v4 at *
   generalize w3.heap.size = q at *
   clear c0 c1 c4 c5
   gi_loopw [22] (fun s wr => ∃ t : Nat, s = .int .i64 t ∧ t ≤ n ∧ Hid (∃ pre r, CuI W T0 J q (fun _ => False) pre r wr ∧ cutS x.p b.p cs = seqA (pre, 0) (cutR r.p (cs.drop t)))) (fun s _ => n - (intOf s).toNat)
   case atStart => exact ⟨0, rfl, by omega, Lib.hid ⟨[], x, U0.out, by rw [S0.out]; exact (nil_seqA _).symm⟩⟩
   case round =>
    generalize wr = wo at *
    obtain ⟨t, rfl, ht, HI⟩ := hrel
    obtain ⟨pre, r, ui, hc⟩ := HI.out
    by_cases htn : t < n
    · have hlt : t < cs.length := by have := HN.out; omega
      have hc2 := cut_stop hc hlt
      obtain ⟨c, hcc⟩ : ∃ c, c = cs[t] := ⟨_, rfl⟩
      rw [← hcc] at hc2
      obtain ⟨i, j, k⟩ := c
      have HCS := Lib.hid hc2
      have HOK := Lib.hid (OK.out _ (List.getElem_mem hlt))
      rw [← hcc] at HOK
      have d3 : Arg3 wo dao cs := fun hne => by
       obtain ⟨d, e, hd⟩ := D3.out hne
       obtain ⟨m, i3⟩ := ui.it
       have nt := DT.out d e
       refine ⟨d, e, fun j hj => ?_⟩
       obtain ⟨g0, g1, g2⟩ := hd j hj
       refine ⟨i3.cell g0 (by rw [add_block]; exact nt), i3.cell g1 (by show ¬ T0 (d.add (j * 3)).block; rw [add_block]; exact nt), i3.cell g2 (by show ¬ T0 (d.add (j * 3)).block; rw [add_block]; exact nt)⟩
      obtain ⟨d, ed, hd⟩ := d3 (fun e => by rw [e] at hlt; simp at hlt)
      obtain ⟨g0, g1, g2⟩ := hd t hlt
      have ec : gc cs t = (i, j, k) := by rw [hcc]; simp [gc, hlt]
      rw [ec] at g0 g1 g2
      simp only at g0 g1 g2
      have UI := Lib.hid ui
      have B5 := Lib.hid (one_more (w1 := wo) (.cells #[.int .i64 i, .int .i64 j, .int .i64 k] 110))
      have Y5 := Lib.hid (Bx3.made wo (.int .i64 i) (.int .i64 j) (.int .i64 k) 110)
      have U5 := Lib.hid (ui.box ST.out B5.out (Nat.le_refl _) Y5.out.lt)
      have Q7 := Lib.hid (show q < wo.heap.size from ui.bx.lt)
      clear ui hc hc2 hcc hd hlt d3
      subst ed
      gi_wp2_with fail
      generalize wo.alloc (.cells #[.int .i64 i, .int .i64 j, .int .i64 k] 110) = w5 at *
      clear B5 UI HI g0 g1 g2 ec
      generalize wo.heap.size = q7 at *
      obtain ⟨rl, hrl⟩ : ∃ rl, rl = r.l.length := ⟨_, rfl⟩
      have HRL := Lib.hid hrl
      have OP := Lib.hid (fun W => opposite_any i j k W HOK.out.1 HOK.out.2)
      obtain ⟨o, ho⟩ : ∃ o, o = ntL k := ⟨_, rfl⟩
      have HO := Lib.hid (show opC (i, j, k) = (j, i, o) by rw [ho]; rfl)
      rw [← ho] at OP
      have AN := Lib.hid (show ∀ W' b, ZAt 0 W' r → W'.cell? ⟨b, 0, none⟩ = some (.int .i64 j) → W'.cell? ⟨b, 1, none⟩ = some (.int .i64 i) → W'.cell? ⟨b, 2, none⟩ = some (.int .i64 o) → Calls Tryz.prog 159 #[.agg #[.int .i64 r.N, .slice r.a rl r.c], .slice (some ⟨b, 0, none⟩) 1 1] W' (ZOut W' (anP r.p [(j, i, o)])) from fun W' b h a0 a1 a2 => by rw [hrl]; exact an_out r W' h (j, i, o) b 1 a0 a1 a2)
      have X5 := Lib.hid (show Bx2 w5 q (.int .i64 r.N) (.slice r.a rl r.c) 36 by rw [hrl]; exact U5.out.bx)
      clear hrl ho
      gi_cut [8, 9] from 24 (fun s8 s9 wx => ∃ (q8 : Nat) (z8 : ZV), s8 = .pointer (some ⟨q8, 0, none⟩) ∧ s9 = .int .i64 (anP r.p [(j, i, o)]).2 ∧ Hid (CutA w5 wx q8 z8 (anP r.p [(j, i, o)])))
      case first =>
       rename_i J0 K0 hJ0 hK0
       refine wpIn_wide.2 ?_
       obtain ⟨x0, x1, _, _⟩ := X5.out.facts
       obtain ⟨y0, y1, y2⟩ := Y5.out.facts
       have KS := Lib.hid (show ∀ W, Below w5.heap.size w5 W → (W.cell? ⟨q, 0, none⟩ = some (.int .i64 r.N) ∧ W.cell? ⟨q, 1, none⟩ = some (.slice r.a rl r.c) ∧ W.cell? ⟨q7, 0, none⟩ = some (.int .i64 i) ∧ W.cell? ⟨q7, 1, none⟩ = some (.int .i64 j) ∧ W.cell? ⟨q7, 2, none⟩ = some (.int .i64 k)) from fun W h => ⟨kept h x0, kept h x1, kept h y0, kept h y1, kept h y2⟩)
       obtain ⟨wc, hwc⟩ : ∃ wc, wc = w5.drew := ⟨_, rfl⟩
       have Bc := Lib.hid (show Below w5.heap.size w5 wc by rw [hwc]; exact (Below.refl _ _).drew)
       refine wp_region_held_drew (S := (fun W => (W.cell? ⟨q, 0, none⟩ = some (.int .i64 r.N) ∧ W.cell? ⟨q, 1, none⟩ = some (.slice r.a rl r.c) ∧ W.cell? ⟨q7, 0, none⟩ = some (.int .i64 i) ∧ W.cell? ⟨q7, 1, none⟩ = some (.int .i64 j) ∧ W.cell? ⟨q7, 2, none⟩ = some (.int .i64 k)))) (by kernel_rfl) (by rw [← hwc]; exact KS.out _ Bc.out) (fun h0 => ?_)
       rw [← hwc] at h0 ⊢
       clear hwc
       refine tkI (i := 0) rfl h0 ?_
       simp only [Act.put, sA, sB, sD, sE, sF]
       refine tkI (i := 1) rfl h0 ?_
       simp only [Act.put, sZ]
       refine wpAnyH_ready (rs := [2, 8]) (by kernel_rfl) (by simp) (AllReadyH.cons rfl (fun K hK => ?_) (AllReadyH.cons rfl (fun K hK => ?_) AllReadyH.nil))
       · rw [if_pos (by rfl)]
         go_simp
         refine (OP.out wc).mono ?_
         rintro e wd ⟨rfl, hb⟩
         try (have N8 := Lib.hid (N8.out.kept hb))
         have Bc := Lib.hid (below_on Bc.out hb)
         clear hb
         obtain ⟨wc, hwc⟩ : ∃ wc, wc = wd := ⟨_, rfl⟩
         rw [← hwc] at Bc ⊢
         try rw [← hwc] at N8
         clear hwc
         go_simp
         refine hK.out _ _ (KS.out _ Bc.out) (fun h0_1 => ?_)
         clear hK K h0
         refine wpAnyH_ready (rs := [3, 8]) (by kernel_rfl) (by simp) (AllReadyH.cons rfl (fun K hK => ?_) (AllReadyH.cons rfl (fun K hK => ?_) AllReadyH.nil))
         · rw [if_pos (by rfl)]
           go_simp
           have hb := one_more (w1 := wc) (.cells #[.int .i64 j, .int .i64 i, .int .i64 o] 110)
           have hP := Bx3.made wc (.int .i64 j) (.int .i64 i) (.int .i64 o) 110
           have hz := Bc.out.size
           obtain ⟨bs, hbb⟩ : ∃ b, b = wc.heap.size := ⟨_, rfl⟩
           rw [← hbb] at hP hz
           obtain ⟨wn, hwn⟩ : ∃ wn, wn = wc.alloc (.cells #[.int .i64 j, .int .i64 i, .int .i64 o] 110) := ⟨_, rfl⟩
           rw [← hwn] at hb hP ⊢
           try rw [← hbb]
           try (have N8 := Lib.hid (N8.out.kept hb))
           have Bc := Lib.hid (below_on Bc.out hb)
           have PS := Lib.hid hP
           have Zbs := Lib.hid hz
           clear hb hP hz hbb hwn
           obtain ⟨wc, hwc⟩ : ∃ wc, wc = wn := ⟨_, rfl⟩
           rw [← hwc] at Bc PS ⊢
           try rw [← hwc] at N8
           clear hwc
           go_simp
           refine hK.out _ _ (KS.out _ Bc.out) (fun h0_2 => ?_)
           clear hK K h0_1
           refine wpAnyH_ready (rs := [4, 8]) (by kernel_rfl) (by simp) (AllReadyH.cons rfl (fun K hK => ?_) (AllReadyH.cons rfl (fun K hK => ?_) AllReadyH.nil))
           · rw [if_pos (by rfl)]
             go_simp
             refine (AN.out wc bs (U5.out.za.on Bc.out) PS.out.facts.1 PS.out.facts.2.1 PS.out.facts.2.2).mono ?_
             rintro e wd ⟨hb, z8, rfl, hz8, hp8⟩
             have P8 := Lib.hid hp8
             have A8 := Lib.hid (hz8.low Bc.out.size)
             try (have NE := Lib.hid (show ∀ p, z8.a = some p → p.block ≠ q8 from fun p e => by have := N8.out.lt; have := (hz8.2 p e).1; omega))
             try (have N8 := Lib.hid (N8.out.kept hb))
             have Bc := Lib.hid (below_on Bc.out hb)
             clear hb hz8 hp8
             unfold ZV.val
             obtain ⟨zl, hzl⟩ : ∃ zl, zl = z8.l.length := ⟨_, rfl⟩
             rw [← hzl]
             have HZL := Lib.hid hzl
             clear hzl
             obtain ⟨wc, hwc⟩ : ∃ wc, wc = wd := ⟨_, rfl⟩
             rw [← hwc] at A8 Bc ⊢
             try rw [← hwc] at N8
             clear hwc
             go_simp
             refine hK.out _ _ (KS.out _ Bc.out) (fun h0_3 => ?_)
             clear hK K h0_2
             refine tkI (i := 5) rfl h0_3 ?_
             simp only [Act.put, sZ]
             refine tkI (i := 6) rfl h0_3 ?_
             simp only [Act.put, sZ]
             refine tkI (i := 7) rfl h0_3 ?_
             simp only [Act.put, sZ]
             refine wpAnyH_ready (rs := [8]) (by kernel_rfl) (by simp) (AllReadyH.cons rfl (fun K hK => ?_) AllReadyH.nil)
             rw [if_pos (by rfl)]
             go_simp
             have hb := one_more (w1 := wc) (.cells #[.int .i64 0, .slice none 0 0] 36)
             have hP := Bx2.made wc (.int .i64 0) (.slice none 0 0) 36
             have hz := Bc.out.size
             obtain ⟨q8, hbb⟩ : ∃ b, b = wc.heap.size := ⟨_, rfl⟩
             rw [← hbb] at hP hz
             obtain ⟨wn, hwn⟩ : ∃ wn, wn = wc.alloc (.cells #[.int .i64 0, .slice none 0 0] 36) := ⟨_, rfl⟩
             rw [← hwn] at hb hP ⊢
             try rw [← hbb]
             try (have PS := Lib.hid (PS.out.kept hb))
             try (have NE := Lib.hid (show ∀ p, z8.a = some p → p.block ≠ q8 from fun p e => by have := (A8.out.2 p e).2; omega))
             try (have A8 := Lib.hid (A8.out.on hb))
             have Bc := Lib.hid (below_on Bc.out hb)
             have N8 := Lib.hid hP
             have Zq8 := Lib.hid hz
             clear hb hP hz hbb hwn
             obtain ⟨wc, hwc⟩ : ∃ wc, wc = wn := ⟨_, rfl⟩
             rw [← hwc] at Bc N8 ⊢
             try rw [← hwc] at PS
             try rw [← hwc] at NE
             try rw [← hwc] at A8
             clear hwc
             go_simp
             refine hK.out _ _ (KS.out _ Bc.out) (fun h0_4 => ?_)
             clear hK K h0_3
             refine wpAnyH_ready (rs := [9]) (by kernel_rfl) (by simp) (AllReadyH.cons rfl (fun K hK => ?_) AllReadyH.nil)
             rw [if_pos (by rfl)]
             go_simp
             obtain ⟨f0, f1, f2, f3⟩ := N8.out.facts
             go_simp
             refine hK.out _ _ (KS.out _ (below_put2 Bc.out Zq8.out _ _)) (fun h0_5 => ?_)
             clear hK K h0_4
             clear f0 f1 f2 f3
             refine tkI (i := 10) rfl h0_5 ?_
             simp only [Act.put, sA, sB, sC, sD]
             try simp only [sF]
             try simp only [sE]
             refine wpAnyH_done (by kernel_rfl) ?_ _
             have N9 := N8.out.put (.int .i64 z8.N) (.slice z8.a zl z8.c)
             have A9 := A8.out.grown (r := some q8) (grown_put2 wc q8 (.int .i64 z8.N) (.slice z8.a zl z8.c)) (fun p e q => by injection q with q; exact NE.out p e q.symm)
             have D9 := below_put2 Bc.out Zq8.out (.int .i64 z8.N) (.slice z8.a zl z8.c)
             simp only [Exit.then]
             refine hK0 _ _ (Met.intro (hJ0 _ _ ?_))
             (repeat apply Exists.intro)
             refine ⟨?rel, rfl⟩
             case rel => exact ⟨q8, z8, rfl, rfl, Lib.hid ⟨by rw [← HZL.out]; exact N9, D9, A9, P8.out⟩⟩
           · rw [if_pos (by rfl)]
             go_simp
             have hb := one_more (w1 := wc) (.cells #[.int .i64 0, .slice none 0 0] 36)
             have hP := Bx2.made wc (.int .i64 0) (.slice none 0 0) 36
             have hz := Bc.out.size
             obtain ⟨q8, hbb⟩ : ∃ b, b = wc.heap.size := ⟨_, rfl⟩
             rw [← hbb] at hP hz
             obtain ⟨wn, hwn⟩ : ∃ wn, wn = wc.alloc (.cells #[.int .i64 0, .slice none 0 0] 36) := ⟨_, rfl⟩
             rw [← hwn] at hb hP ⊢
             try rw [← hbb]
             try (have PS := Lib.hid (PS.out.kept hb))
             try (have NE := Lib.hid (show ∀ p, z8.a = some p → p.block ≠ q8 from fun p e => by have := (A8.out.2 p e).2; omega))
             try (have A8 := Lib.hid (A8.out.on hb))
             have Bc := Lib.hid (below_on Bc.out hb)
             have N8 := Lib.hid hP
             have Zq8 := Lib.hid hz
             clear hb hP hz hbb hwn
             obtain ⟨wc, hwc⟩ : ∃ wc, wc = wn := ⟨_, rfl⟩
             rw [← hwc] at Bc N8 ⊢
             try rw [← hwc] at PS
             try rw [← hwc] at NE
             try rw [← hwc] at A8
             clear hwc
             go_simp
             refine hK.out _ _ (KS.out _ Bc.out) (fun h0_3 => ?_)
             clear hK K h0_2
             refine wpAnyH_ready (rs := [4]) (by kernel_rfl) (by simp) (AllReadyH.cons rfl (fun K hK => ?_) AllReadyH.nil)
             rw [if_pos (by rfl)]
             go_simp
             refine (AN.out wc bs (U5.out.za.on Bc.out) PS.out.facts.1 PS.out.facts.2.1 PS.out.facts.2.2).mono ?_
             rintro e wd ⟨hb, z8, rfl, hz8, hp8⟩
             have P8 := Lib.hid hp8
             have A8 := Lib.hid (hz8.low Bc.out.size)
             try (have NE := Lib.hid (show ∀ p, z8.a = some p → p.block ≠ q8 from fun p e => by have := N8.out.lt; have := (hz8.2 p e).1; omega))
             try (have N8 := Lib.hid (N8.out.kept hb))
             have Bc := Lib.hid (below_on Bc.out hb)
             clear hb hz8 hp8
             unfold ZV.val
             obtain ⟨zl, hzl⟩ : ∃ zl, zl = z8.l.length := ⟨_, rfl⟩
             rw [← hzl]
             have HZL := Lib.hid hzl
             clear hzl
             obtain ⟨wc, hwc⟩ : ∃ wc, wc = wd := ⟨_, rfl⟩
             rw [← hwc] at A8 Bc ⊢
             try rw [← hwc] at N8
             clear hwc
             go_simp
             refine hK.out _ _ (KS.out _ Bc.out) (fun h0_6 => ?_)
             clear hK K h0_3
             refine tkI (i := 5) rfl h0_6 ?_
             simp only [Act.put, sZ]
             refine tkI (i := 6) rfl h0_6 ?_
             simp only [Act.put, sZ]
             refine tkI (i := 7) rfl h0_6 ?_
             simp only [Act.put, sZ]
             refine wpAnyH_ready (rs := [9]) (by kernel_rfl) (by simp) (AllReadyH.cons rfl (fun K hK => ?_) AllReadyH.nil)
             rw [if_pos (by rfl)]
             go_simp
             obtain ⟨f0, f1, f2, f3⟩ := N8.out.facts
             go_simp
             refine hK.out _ _ (KS.out _ (below_put2 Bc.out Zq8.out _ _)) (fun h0_7 => ?_)
             clear hK K h0_6
             clear f0 f1 f2 f3
             refine tkI (i := 10) rfl h0_7 ?_
             simp only [Act.put, sA, sB, sC, sD]
             try simp only [sF]
             try simp only [sE]
             refine wpAnyH_done (by kernel_rfl) ?_ _
             have N9 := N8.out.put (.int .i64 z8.N) (.slice z8.a zl z8.c)
             have A9 := A8.out.grown (r := some q8) (grown_put2 wc q8 (.int .i64 z8.N) (.slice z8.a zl z8.c)) (fun p e q => by injection q with q; exact NE.out p e q.symm)
             have D9 := below_put2 Bc.out Zq8.out (.int .i64 z8.N) (.slice z8.a zl z8.c)
             simp only [Exit.then]
             refine hK0 _ _ (Met.intro (hJ0 _ _ ?_))
             (repeat apply Exists.intro)
             refine ⟨?rel, rfl⟩
             case rel => exact ⟨q8, z8, rfl, rfl, Lib.hid ⟨by rw [← HZL.out]; exact N9, D9, A9, P8.out⟩⟩
         · rw [if_pos (by rfl)]
           go_simp
           have hb := one_more (w1 := wc) (.cells #[.int .i64 0, .slice none 0 0] 36)
           have hP := Bx2.made wc (.int .i64 0) (.slice none 0 0) 36
           have hz := Bc.out.size
           obtain ⟨q8, hbb⟩ : ∃ b, b = wc.heap.size := ⟨_, rfl⟩
           rw [← hbb] at hP hz
           obtain ⟨wn, hwn⟩ : ∃ wn, wn = wc.alloc (.cells #[.int .i64 0, .slice none 0 0] 36) := ⟨_, rfl⟩
           rw [← hwn] at hb hP ⊢
           try rw [← hbb]
           try (have PS := Lib.hid (PS.out.kept hb))
           try (have NE := Lib.hid (show ∀ p, z8.a = some p → p.block ≠ q8 from fun p e => by have := (A8.out.2 p e).2; omega))
           try (have A8 := Lib.hid (A8.out.on hb))
           have Bc := Lib.hid (below_on Bc.out hb)
           have N8 := Lib.hid hP
           have Zq8 := Lib.hid hz
           clear hb hP hz hbb hwn
           obtain ⟨wc, hwc⟩ : ∃ wc, wc = wn := ⟨_, rfl⟩
           rw [← hwc] at Bc N8 ⊢
           try rw [← hwc] at PS
           try rw [← hwc] at NE
           try rw [← hwc] at A8
           clear hwc
           go_simp
           refine hK.out _ _ (KS.out _ Bc.out) (fun h0_2 => ?_)
           clear hK K h0_1
           refine wpAnyH_ready (rs := [3]) (by kernel_rfl) (by simp) (AllReadyH.cons rfl (fun K hK => ?_) AllReadyH.nil)
           rw [if_pos (by rfl)]
           go_simp
           have hb := one_more (w1 := wc) (.cells #[.int .i64 j, .int .i64 i, .int .i64 o] 110)
           have hP := Bx3.made wc (.int .i64 j) (.int .i64 i) (.int .i64 o) 110
           have hz := Bc.out.size
           obtain ⟨bs, hbb⟩ : ∃ b, b = wc.heap.size := ⟨_, rfl⟩
           rw [← hbb] at hP hz
           obtain ⟨wn, hwn⟩ : ∃ wn, wn = wc.alloc (.cells #[.int .i64 j, .int .i64 i, .int .i64 o] 110) := ⟨_, rfl⟩
           rw [← hwn] at hb hP ⊢
           try rw [← hbb]
           try (have N8 := Lib.hid (N8.out.kept hb))
           have Bc := Lib.hid (below_on Bc.out hb)
           have PS := Lib.hid hP
           have Zbs := Lib.hid hz
           clear hb hP hz hbb hwn
           obtain ⟨wc, hwc⟩ : ∃ wc, wc = wn := ⟨_, rfl⟩
           rw [← hwc] at Bc PS ⊢
           try rw [← hwc] at N8
           clear hwc
           go_simp
           refine hK.out _ _ (KS.out _ Bc.out) (fun h0_8 => ?_)
           clear hK K h0_2
           refine wpAnyH_ready (rs := [4]) (by kernel_rfl) (by simp) (AllReadyH.cons rfl (fun K hK => ?_) AllReadyH.nil)
           rw [if_pos (by rfl)]
           go_simp
           refine (AN.out wc bs (U5.out.za.on Bc.out) PS.out.facts.1 PS.out.facts.2.1 PS.out.facts.2.2).mono ?_
           rintro e wd ⟨hb, z8, rfl, hz8, hp8⟩
           have P8 := Lib.hid hp8
           have A8 := Lib.hid (hz8.low Bc.out.size)
           try (have NE := Lib.hid (show ∀ p, z8.a = some p → p.block ≠ q8 from fun p e => by have := N8.out.lt; have := (hz8.2 p e).1; omega))
           try (have N8 := Lib.hid (N8.out.kept hb))
           have Bc := Lib.hid (below_on Bc.out hb)
           clear hb hz8 hp8
           unfold ZV.val
           obtain ⟨zl, hzl⟩ : ∃ zl, zl = z8.l.length := ⟨_, rfl⟩
           rw [← hzl]
           have HZL := Lib.hid hzl
           clear hzl
           obtain ⟨wc, hwc⟩ : ∃ wc, wc = wd := ⟨_, rfl⟩
           rw [← hwc] at A8 Bc ⊢
           try rw [← hwc] at N8
           clear hwc
           go_simp
           refine hK.out _ _ (KS.out _ Bc.out) (fun h0_9 => ?_)
           clear hK K h0_8
           refine tkI (i := 5) rfl h0_9 ?_
           simp only [Act.put, sZ]
           refine tkI (i := 6) rfl h0_9 ?_
           simp only [Act.put, sZ]
           refine tkI (i := 7) rfl h0_9 ?_
           simp only [Act.put, sZ]
           refine wpAnyH_ready (rs := [9]) (by kernel_rfl) (by simp) (AllReadyH.cons rfl (fun K hK => ?_) AllReadyH.nil)
           rw [if_pos (by rfl)]
           go_simp
           obtain ⟨f0, f1, f2, f3⟩ := N8.out.facts
           go_simp
           refine hK.out _ _ (KS.out _ (below_put2 Bc.out Zq8.out _ _)) (fun h0_10 => ?_)
           clear hK K h0_9
           clear f0 f1 f2 f3
           refine tkI (i := 10) rfl h0_10 ?_
           simp only [Act.put, sA, sB, sC, sD]
           try simp only [sF]
           try simp only [sE]
           refine wpAnyH_done (by kernel_rfl) ?_ _
           have N9 := N8.out.put (.int .i64 z8.N) (.slice z8.a zl z8.c)
           have A9 := A8.out.grown (r := some q8) (grown_put2 wc q8 (.int .i64 z8.N) (.slice z8.a zl z8.c)) (fun p e q => by injection q with q; exact NE.out p e q.symm)
           have D9 := below_put2 Bc.out Zq8.out (.int .i64 z8.N) (.slice z8.a zl z8.c)
           simp only [Exit.then]
           refine hK0 _ _ (Met.intro (hJ0 _ _ ?_))
           (repeat apply Exists.intro)
           refine ⟨?rel, rfl⟩
           case rel => exact ⟨q8, z8, rfl, rfl, Lib.hid ⟨by rw [← HZL.out]; exact N9, D9, A9, P8.out⟩⟩
       · rw [if_pos (by rfl)]
         go_simp
         have hb := one_more (w1 := wc) (.cells #[.int .i64 0, .slice none 0 0] 36)
         have hP := Bx2.made wc (.int .i64 0) (.slice none 0 0) 36
         have hz := Bc.out.size
         obtain ⟨q8, hbb⟩ : ∃ b, b = wc.heap.size := ⟨_, rfl⟩
         rw [← hbb] at hP hz
         obtain ⟨wn, hwn⟩ : ∃ wn, wn = wc.alloc (.cells #[.int .i64 0, .slice none 0 0] 36) := ⟨_, rfl⟩
         rw [← hwn] at hb hP ⊢
         try rw [← hbb]
         try (have PS := Lib.hid (PS.out.kept hb))
         try (have NE := Lib.hid (show ∀ p, z8.a = some p → p.block ≠ q8 from fun p e => by have := (A8.out.2 p e).2; omega))
         try (have A8 := Lib.hid (A8.out.on hb))
         have Bc := Lib.hid (below_on Bc.out hb)
         have N8 := Lib.hid hP
         have Zq8 := Lib.hid hz
         clear hb hP hz hbb hwn
         obtain ⟨wc, hwc⟩ : ∃ wc, wc = wn := ⟨_, rfl⟩
         rw [← hwc] at Bc N8 ⊢
         try rw [← hwc] at PS
         try rw [← hwc] at NE
         try rw [← hwc] at A8
         clear hwc
         go_simp
         refine hK.out _ _ (KS.out _ Bc.out) (fun h0_1 => ?_)
         clear hK K h0
         refine wpAnyH_ready (rs := [2]) (by kernel_rfl) (by simp) (AllReadyH.cons rfl (fun K hK => ?_) AllReadyH.nil)
         rw [if_pos (by rfl)]
         go_simp
         refine (OP.out wc).mono ?_
         rintro e wd ⟨rfl, hb⟩
         try (have N8 := Lib.hid (N8.out.kept hb))
         have Bc := Lib.hid (below_on Bc.out hb)
         clear hb
         obtain ⟨wc, hwc⟩ : ∃ wc, wc = wd := ⟨_, rfl⟩
         rw [← hwc] at Bc ⊢
         try rw [← hwc] at N8
         clear hwc
         go_simp
         refine hK.out _ _ (KS.out _ Bc.out) (fun h0_11 => ?_)
         clear hK K h0_1
         refine wpAnyH_ready (rs := [3]) (by kernel_rfl) (by simp) (AllReadyH.cons rfl (fun K hK => ?_) AllReadyH.nil)
         rw [if_pos (by rfl)]
         go_simp
         have hb := one_more (w1 := wc) (.cells #[.int .i64 j, .int .i64 i, .int .i64 o] 110)
         have hP := Bx3.made wc (.int .i64 j) (.int .i64 i) (.int .i64 o) 110
         have hz := Bc.out.size
         obtain ⟨bs, hbb⟩ : ∃ b, b = wc.heap.size := ⟨_, rfl⟩
         rw [← hbb] at hP hz
         obtain ⟨wn, hwn⟩ : ∃ wn, wn = wc.alloc (.cells #[.int .i64 j, .int .i64 i, .int .i64 o] 110) := ⟨_, rfl⟩
         rw [← hwn] at hb hP ⊢
         try rw [← hbb]
         try (have N8 := Lib.hid (N8.out.kept hb))
         have Bc := Lib.hid (below_on Bc.out hb)
         have PS := Lib.hid hP
         have Zbs := Lib.hid hz
         clear hb hP hz hbb hwn
         obtain ⟨wc, hwc⟩ : ∃ wc, wc = wn := ⟨_, rfl⟩
         rw [← hwc] at Bc PS ⊢
         try rw [← hwc] at N8
         clear hwc
         go_simp
         refine hK.out _ _ (KS.out _ Bc.out) (fun h0_12 => ?_)
         clear hK K h0_11
         refine wpAnyH_ready (rs := [4]) (by kernel_rfl) (by simp) (AllReadyH.cons rfl (fun K hK => ?_) AllReadyH.nil)
         rw [if_pos (by rfl)]
         go_simp
         refine (AN.out wc bs (U5.out.za.on Bc.out) PS.out.facts.1 PS.out.facts.2.1 PS.out.facts.2.2).mono ?_
         rintro e wd ⟨hb, z8, rfl, hz8, hp8⟩
         have P8 := Lib.hid hp8
         have A8 := Lib.hid (hz8.low Bc.out.size)
         try (have NE := Lib.hid (show ∀ p, z8.a = some p → p.block ≠ q8 from fun p e => by have := N8.out.lt; have := (hz8.2 p e).1; omega))
         try (have N8 := Lib.hid (N8.out.kept hb))
         have Bc := Lib.hid (below_on Bc.out hb)
         clear hb hz8 hp8
         unfold ZV.val
         obtain ⟨zl, hzl⟩ : ∃ zl, zl = z8.l.length := ⟨_, rfl⟩
         rw [← hzl]
         have HZL := Lib.hid hzl
         clear hzl
         obtain ⟨wc, hwc⟩ : ∃ wc, wc = wd := ⟨_, rfl⟩
         rw [← hwc] at A8 Bc ⊢
         try rw [← hwc] at N8
         clear hwc
         go_simp
         refine hK.out _ _ (KS.out _ Bc.out) (fun h0_13 => ?_)
         clear hK K h0_12
         refine tkI (i := 5) rfl h0_13 ?_
         simp only [Act.put, sZ]
         refine tkI (i := 6) rfl h0_13 ?_
         simp only [Act.put, sZ]
         refine tkI (i := 7) rfl h0_13 ?_
         simp only [Act.put, sZ]
         refine wpAnyH_ready (rs := [9]) (by kernel_rfl) (by simp) (AllReadyH.cons rfl (fun K hK => ?_) AllReadyH.nil)
         rw [if_pos (by rfl)]
         go_simp
         obtain ⟨f0, f1, f2, f3⟩ := N8.out.facts
         go_simp
         refine hK.out _ _ (KS.out _ (below_put2 Bc.out Zq8.out _ _)) (fun h0_14 => ?_)
         clear hK K h0_13
         clear f0 f1 f2 f3
         refine tkI (i := 10) rfl h0_14 ?_
         simp only [Act.put, sA, sB, sC, sD]
         try simp only [sF]
         try simp only [sE]
         refine wpAnyH_done (by kernel_rfl) ?_ _
         have N9 := N8.out.put (.int .i64 z8.N) (.slice z8.a zl z8.c)
         have A9 := A8.out.grown (r := some q8) (grown_put2 wc q8 (.int .i64 z8.N) (.slice z8.a zl z8.c)) (fun p e q => by injection q with q; exact NE.out p e q.symm)
         have D9 := below_put2 Bc.out Zq8.out (.int .i64 z8.N) (.slice z8.a zl z8.c)
         simp only [Exit.then]
         refine hK0 _ _ (Met.intro (hJ0 _ _ ?_))
         (repeat apply Exists.intro)
         refine ⟨?rel, rfl⟩
         case rel => exact ⟨q8, z8, rfl, rfl, Lib.hid ⟨by rw [← HZL.out]; exact N9, D9, A9, P8.out⟩⟩
      case rest =>
       obtain ⟨q8, z8, rfl, rfl, HC⟩ := hcut
       obtain ⟨e8, he8⟩ : ∃ e8, e8 = (anP r.p [(j, i, o)]).2 := ⟨_, rfl⟩
       rw [← he8]
       have HE8 := Lib.hid he8
       have AN2 := Lib.hid (show ∀ W' b, ZAt 0 W' r → W'.cell? ⟨b, 0, none⟩ = some (.int .i64 i) → W'.cell? ⟨b, 1, none⟩ = some (.int .i64 j) → W'.cell? ⟨b, 2, none⟩ = some (.int .i64 k) → Calls Tryz.prog 159 #[.agg #[.int .i64 r.N, .slice r.a rl r.c], .slice (some ⟨b, 0, none⟩) 1 1] W' (ZOut W' (anP r.p [(i, j, k)])) from fun W' b h a0 a1 a2 => by rw [HRL.out]; exact an_out r W' h (i, j, k) b 1 a0 a1 a2)
       have EM := Lib.hid (fun W => empty_any z8 e8 W)
       obtain ⟨zl, hzl⟩ : ∃ zl, zl = z8.l.length := ⟨_, rfl⟩
       unfold ZV.val at EM
       rw [← hzl] at EM
       have HZL := Lib.hid hzl
       have HZ := Lib.hid HC.out.1
       obtain ⟨z0, z1, _, _⟩ := HZ.out.facts
       rw [← hzl] at z1
       have BC := Lib.hid HC.out.2.1
       clear he8 hzl AN X5
       gi_wp2_with fail
       refine ⟨trivial, (callsIn_wide.2 (EM.out _)).mono ?_⟩
       rintro e wk ⟨hb, (⟨he, rfl⟩ | ⟨he, rfl⟩ | ⟨he, he4, rfl⟩)⟩
       · have BK := Lib.hid (below_on BC.out hb)
         have UK := Lib.hid (U5.out.below ST.out BK.out)
         have YK := Lib.hid (Y5.out.kept BK.out)
         have SK := Lib.hid (show cutS x.p b.p cs = seqA (pre, 0) (if (anP r.p [(i, j, k)]).2 = 0 then cutR (anP r.p [(i, j, k)]).1 (cs.drop (t + 1)) else ([], (anP r.p [(i, j, k)]).2)) by rw [HCS.out, HO.out, emS_em (by rw [← HE8.out]; exact he), nil_seqA])
         clear hb he z0 z1
         obtain ⟨u0, u1, _, _⟩ := UK.out.bx.facts
         rw [← HRL.out] at u1
         obtain ⟨y0, y1, y2⟩ := YK.out.facts
         have B8 := Lib.hid (one_more (w1 := wk) (.cells #[.int .i64 i, .int .i64 j, .int .i64 k] 110))
         have PS := Lib.hid (Bx3.made wk (.int .i64 i) (.int .i64 j) (.int .i64 k) 110)
         have AC := Lib.hid (AN2.out _ wk.heap.size (UK.out.za.on B8.out) PS.out.facts.1 PS.out.facts.2.1 PS.out.facts.2.2)
         gi_wp2_with fail
         repeat (refine ⟨fun f h => (by cases h), ?_⟩; try gi_wp2_with fail)
         refine ⟨trivial, (callsIn_wide.2 AC.out).mono ?_⟩
         rintro e w8 ⟨hb, y, rfl, hy, hyp⟩
         obtain ⟨e9, he9⟩ : ∃ e9, e9 = (anP r.p [(i, j, k)]).2 := ⟨_, rfl⟩
         rw [← he9] at hyp ⊢
         have HE9 := Lib.hid he9
         have YP := Lib.hid hyp
         have YA := Lib.hid hy
         have B9 := Lib.hid (below_on B8.out hb)
         have Z8 := Lib.hid (show wk.heap.size ≤ (wk.alloc (.cells #[.int .i64 i, .int .i64 j, .int .i64 k] 110)).heap.size by rw [World.size_alloc]; omega)
         have MU := Lib.hid (fun W => mustZ_any y e9 W)
         unfold ZV.val at MU ⊢
         obtain ⟨yl2, hyl⟩ : ∃ yl2, yl2 = y.l.length := ⟨_, rfl⟩
         rw [← hyl] at MU ⊢
         have HYL := Lib.hid hyl
         clear hb hy hyp he9 hyl u0 u1 y0 y1 y2
         gi_wp2_with fail
         refine ⟨trivial, (callsIn_wide.2 (MU.out _)).mono ?_⟩
         rintro e w9 ⟨hb, (⟨he, rfl⟩ | ⟨he, rfl⟩)⟩
         · have B10 := Lib.hid (below_on B9.out hb)
           have UB := Lib.hid (UK.out.below ST.out B10.out)
           have UR := Lib.hid (UK.out.rest ST.out B10.out ((YA.out.on hb).low Z8.out))
           obtain ⟨u0, u1, u2, u3⟩ := UB.out.bx.facts
           have S9 := Lib.hid (show cutS x.p b.p cs = seqA (pre, 0) (cutR y.p (cs.drop (t + 1))) by rw [SK.out, if_pos (by rw [← HE9.out]; exact he), YP.out he])
           have UR2 := UR.out
           rw [← HYL.out] at UR2
           have UR3 := Lib.hid UR2
           clear hb he UR2 UR
           gi_wp2_with fail
           go_roundw
           case rel => exact ⟨t + 1, by go_num, by omega, Lib.hid ⟨_, y, UR3.out, S9.out⟩⟩
           case measure => simp [intOf]; omega
         · have S9 := Lib.hid (show cutS x.p b.p cs = (pre, e9) by rw [SK.out, if_neg (by rw [← HE9.out]; exact he), ← HE9.out]; unfold seqA; simp)
           obtain ⟨mm, T, j1, _⟩ := (UK.out.below ST.out (below_on B9.out hb)).it
           have J2 : J (cutS x.p b.p cs).1 T w9 := by rw [S9.out]; exact j1
           have E2 : erx = some (pan e9) := by rw [HERX.out, S9.out]; exact erOf he
           exact ⟨by first | rfl | trivial, Or.inr ⟨_, by first | rfl | trivial, Or.inr ⟨E2, T, J2⟩⟩⟩
       · have BK := Lib.hid (below_on BC.out hb)
         have z2 := kept hb z0
         have z3 := kept hb z1
         have P8 := Lib.hid (HC.out.2.2.2 (by rw [← HE8.out]; exact he))
         have SK := Lib.hid (show cutS x.p b.p cs = seqA (pre ++ [z8.p], 0) (if (anP r.p [(i, j, k)]).2 = 0 then cutR (anP r.p [(i, j, k)]).1 (cs.drop (t + 1)) else ([], (anP r.p [(i, j, k)]).2)) by
          rw [HCS.out, HO.out, emS_ok (by rw [← HE8.out]; exact he), ← seqA_assoc, P8.out]
          congr 1)
         have YD := U5.out.give ST.out RN.out LL.out HBW.out BK.out (HC.out.2.2.1.on hb) (by rw [SK.out]; exact seqA_pre (pre ++ [z8.p], 0) _)
         obtain ⟨fn, tmps, assign, body, hyd, hR⟩ := YD
         have HR := Lib.hid hR
         unfold ZV.val at hyd
         rw [← HZL.out] at hyd
         obtain ⟨wh, hwh⟩ : ∃ wh, wh = wk := ⟨_, rfl⟩
         have YH := Lib.hid (Y5.out.kept BK.out)
         rw [← hwh] at HR YH hyd z2 z3 ⊢
         clear hR hb he z0 z1 hwh
         gi_wp2_with fail
         refine HR.out.mono ?_
         rintro e wk (⟨rfl, i4, k4⟩ | ⟨chain, rfl, hp⟩)
         · have UK := Lib.hid i4
           have YK := Lib.hid (YH.out.keptK k4 rfl)
           clear i4 k4 z2 z3
           obtain ⟨u0, u1, _, _⟩ := UK.out.bx.facts
           rw [← HRL.out] at u1
           obtain ⟨y0, y1, y2⟩ := YK.out.facts
           have B8 := Lib.hid (one_more (w1 := wk) (.cells #[.int .i64 i, .int .i64 j, .int .i64 k] 110))
           have PS := Lib.hid (Bx3.made wk (.int .i64 i) (.int .i64 j) (.int .i64 k) 110)
           have AC := Lib.hid (AN2.out _ wk.heap.size (UK.out.za.on B8.out) PS.out.facts.1 PS.out.facts.2.1 PS.out.facts.2.2)
           gi_wp2_with fail
           repeat (refine ⟨fun f h => (by cases h), ?_⟩; try gi_wp2_with fail)
           refine ⟨trivial, (callsIn_wide.2 AC.out).mono ?_⟩
           rintro e w8 ⟨hb, y, rfl, hy, hyp⟩
           obtain ⟨e9, he9⟩ : ∃ e9, e9 = (anP r.p [(i, j, k)]).2 := ⟨_, rfl⟩
           rw [← he9] at hyp ⊢
           have HE9 := Lib.hid he9
           have YP := Lib.hid hyp
           have YA := Lib.hid hy
           have B9 := Lib.hid (below_on B8.out hb)
           have Z8 := Lib.hid (show wk.heap.size ≤ (wk.alloc (.cells #[.int .i64 i, .int .i64 j, .int .i64 k] 110)).heap.size by rw [World.size_alloc]; omega)
           have MU := Lib.hid (fun W => mustZ_any y e9 W)
           unfold ZV.val at MU ⊢
           obtain ⟨yl2, hyl⟩ : ∃ yl2, yl2 = y.l.length := ⟨_, rfl⟩
           rw [← hyl] at MU ⊢
           have HYL := Lib.hid hyl
           clear hb hy hyp he9 hyl u0 u1 y0 y1 y2
           gi_wp2_with fail
           refine ⟨trivial, (callsIn_wide.2 (MU.out _)).mono ?_⟩
           rintro e w9 ⟨hb, (⟨he, rfl⟩ | ⟨he, rfl⟩)⟩
           · have B10 := Lib.hid (below_on B9.out hb)
             have UB := Lib.hid (UK.out.below ST.out B10.out)
             have UR := Lib.hid (UK.out.rest ST.out B10.out ((YA.out.on hb).low Z8.out))
             obtain ⟨u0, u1, u2, u3⟩ := UB.out.bx.facts
             have S9 := Lib.hid (show cutS x.p b.p cs = seqA (pre ++ [z8.p], 0) (cutR y.p (cs.drop (t + 1))) by rw [SK.out, if_pos (by rw [← HE9.out]; exact he), YP.out he])
             have UR2 := UR.out
             rw [← HYL.out] at UR2
             have UR3 := Lib.hid UR2
             clear hb he UR2 UR
             gi_wp2_with fail
             go_roundw
             case rel => exact ⟨t + 1, by go_num, by omega, Lib.hid ⟨_, y, UR3.out, S9.out⟩⟩
             case measure => simp [intOf]; omega
           · have S9 := Lib.hid (show cutS x.p b.p cs = (pre ++ [z8.p], e9) by rw [SK.out, if_neg (by rw [← HE9.out]; exact he), ← HE9.out]; unfold seqA; simp)
             obtain ⟨mm, T, j1, _⟩ := (UK.out.below ST.out (below_on B9.out hb)).it
             have J2 : J (cutS x.p b.p cs).1 T w9 := by rw [S9.out]; exact j1
             have E2 : erx = some (pan e9) := by rw [HERX.out, S9.out]; exact erOf he
             exact ⟨by first | rfl | trivial, Or.inr ⟨_, by first | rfl | trivial, Or.inr ⟨E2, T, J2⟩⟩⟩
         · exact ⟨by first | rfl | trivial, Or.inr ⟨chain, by first | rfl | trivial, Or.inl hp⟩⟩
       · have S9 := Lib.hid (show cutS x.p b.p cs = (pre, e8) by rw [HCS.out, HO.out, emS_no (by rw [← HE8.out]; exact he) (by rw [← HE8.out]; exact he4), ← HE8.out]; unfold seqA; simp [he])
         obtain ⟨mm, T, j1, _⟩ := (U5.out.below ST.out (below_on BC.out hb)).it
         have J2 : J (cutS x.p b.p cs).1 T wk := by rw [S9.out]; exact j1
         have E2 : erx = some (pan e8) := by rw [HERX.out, S9.out]; exact erOf he
         exact ⟨by first | rfl | trivial, Or.inr ⟨_, by first | rfl | trivial, Or.inr ⟨E2, T, J2⟩⟩⟩
    · have e1 : cs.drop t = [] := List.drop_eq_nil_of_le (by have := HN.out; omega)
      rw [e1] at hc
      have S1 := Lib.hid (show cutS x.p b.p cs = (pre, 0) by rw [hc]; unfold cutR; exact seqA_nil _)
      obtain ⟨mm, T, j1, _⟩ := ui.it
      have J1 := Lib.hid j1
      clear hc ui j1 HI e1
      gi_wp2_with fail
      have J2 : J (cutS x.p b.p cs).1 T wo := by rw [S1.out]; exact J1.out
      have E2 : erx = none := by rw [HERX.out, S1.out]; rfl
      go_end0
      exact Or.inl ⟨rfl, E2, T, J2⟩
 · have S1 := Lib.hid (show cutS x.p b.p cs = ([], er) by rw [CS.out, if_neg he4, if_neg he])
   obtain ⟨T, j1, _⟩ := I0.out.below ST.out (below_on B2.out hb)
   have J2 : J (cutS x.p b.p cs).1 T w3 := by rw [S1.out]; exact j1
   have E2 : erx = some (pan er) := by rw [HERX.out, S1.out]; exact erOf he
   exact ⟨by first | rfl | trivial, Or.inr ⟨_, by first | rfl | trivial, Or.inr ⟨E2, T, J2⟩⟩⟩
end Go.Proofs.YthjapmdfcbngmaaGreat
