/- A part. -/
import Derived.Test.YthjapmdfcbngmaaGreatWr25
namespace Go.Proofs.YthjapmdfcbngmaaGreat
set_option maxHeartbeats 16000000
open Go.RowKit
attribute [local go_sem] Oper.semAt_some
theorem without_enters : ∀ args w, (callFunc 133 args).run Tryz.prog w = .ok (.enter 133 args) w := yield_enters _ Tryz.func133 (by kernel_rfl) rfl
def woC (b : Zp) (cs : List Con) (L : List Zp) : Sq := flatS (fun x => cutS x b cs) L
def woS (b : Zp) (L : List Zp) : Sq := if rdcE b.1 b.2 = 0 then woC b (rdcL b.1 b.2) L else ([], rdcE b.1 b.2)
theorem woC_cons {b : Zp} {cs : List Con} {L : List Zp} {t : Nat} (ht : t < L.length) : woC b cs (L.drop t) = seqA (cutS L[t] b cs) (woC b cs (L.drop (t + 1))) := by
 rw [List.drop_eq_getElem_cons ht]; rfl
theorem cutf_any (x b : ZV) (dao : Option Addr) (n dc : Nat) (w : World) : Calls Tryz.prog 136 #[x.val, b.val, .slice dao n dc] w (fun e w' => e = .returned (.func (.func 158) #[] #[.pointer (some ⟨w.heap.size, 0, none⟩), .pointer (some ⟨w.heap.size + 1, 0, none⟩), .pointer (some ⟨w.heap.size + 2, 0, none⟩)])
  ∧ w' = ((w.alloc (.cells #[.int .i64 x.N, .slice x.a x.l.length x.c] 36)).alloc (.cells #[.int .i64 b.N, .slice b.a b.l.length b.c] 36)).alloc (.cells #[.slice dao n dc] 104)) := by
 unfold ZV.val
 generalize x.l.length = xl
 generalize b.l.length = bl
 go_enter Tryz.func136, Tryz.ntmps136
 go_wp2_with fail
 go_ret
 exact ⟨by first | rfl | simp, by first | rfl | simp⟩
def WoI (W : World) (T0 : Nat → Prop) (J : List Zp → (Nat → Prop) → World → Prop) (b3 : Nat) (yl : Value) (cs : List Con) (dao : Option Addr) (ds : List Deferred) (P : List Zp) (A : World) : Prop :=
 ∃ m O, ItI W T0 O J P m A ∧ (∀ k, O k → W.heap.size ≤ k) ∧ O b3 ∧ Bx1 A b3 yl 83 ∧ Marks A O ds ∧ Arg3 A dao cs ∧ (∀ p, dao = some p → O p.block)
structure WoA (wi : World) (n₀ B : Nat) (T1 : Nat → Prop) (J : List Zp → (Nat → Prop) → World → Prop) (P pre : List Zp) (z : ZV) (Tj T : Nat → Prop) (A : World) (q : Nat) : Prop where
 j : J (P ++ pre) Tj A
 tj : ∀ k, Tj k → T1 k ∨ wi.heap.size + 2 ≤ k
 kp : Kept (fun k => k < wi.heap.size ∧ ¬ T1 k) wi A
 sub : ∀ k, Tj k → T k
 tq : T q
 b : Bx2 A q (.int .i64 z.N) (.slice z.a z.l.length z.c) 36
 za : ZAt B A z
 g : ∀ p, z.a = some p → ¬ Tj p.block ∧ p.block ≠ wi.heap.size + 1 ∧ (p.block < n₀ ∨ wi.heap.size + 2 ≤ p.block)
 sz : wi.heap.size + 2 ≤ A.heap.size
theorem round_any {m m' lp l : Nat} {P : Program} {f : FuncId} {tmps : Array Value} {assign body : Code} {w : World} {R : Ending → World → Prop} (h : RoundIn Fence.wide m P l f tmps assign body w R) : RoundIn (Fence.wide.inRound lp) m' P l f tmps assign body w R :=
 ⟨trivial, fun c cs _ => h.2 c cs (room_wide _)⟩
theorem Marks.mem {w : World} {S : Nat → Prop} : ∀ {ds : List Deferred}, Marks w S ds → ∀ d ∈ ds, ∃ r, d.target = .collected r ∧ S r
 | _ :: _, ⟨⟨r, h1, _, h3, _⟩, h⟩, d, hd => by
  rcases List.mem_cons.1 hd with e | e
  · exact ⟨r, by rw [e, h1], h3⟩
  · exact Marks.mem h d e
theorem Arg3.keptK {S : Nat → Prop} {A B : World} {ao : Option Addr} {cs : List Con} (h : Arg3 A ao cs) (k : Kept S A B) (hs : ∀ p, ao = some p → S p.block) : Arg3 B ao cs := fun hl => by
 obtain ⟨d, e, hd⟩ := h hl
 have q := hs d e
 refine ⟨d, e, fun j hj => ?_⟩
 obtain ⟨h1, h2, h3⟩ := hd j hj
 exact ⟨cell_keptK k h1 (by rw [add_block]; exact q), cell_keptK k h2 (by show S (d.add (j * 3)).block; rw [add_block]; exact q), cell_keptK k h3 (by show S (d.add (j * 3)).block; rw [add_block]; exact q)⟩
set_option maxRecDepth 100000 in
theorem without_seq (b : ZV) (L : List ZV) (go : Option Addr) (gc pb pl B : Nat) (w : World) (hB : B ≤ w.heap.size)
  (c0 : w.cell? ⟨pb, 0, none⟩ = some (.int .i64 b.N)) (c1 : w.cell? ⟨pb, 1, none⟩ = some (.slice b.a b.l.length b.c)) (c2 : w.cell? ⟨pl, 0, none⟩ = some (.slice go L.length gc)) (hb : ZAt 0 w b) (hL : RdZ B w go L) (hl : L.length ≤ 1000000) :
  SeqZ B w 133 #[.pointer (some ⟨pb, 0, none⟩), .pointer (some ⟨pl, 0, none⟩)] (woS b.p (L.map ZV.p)).1 (woS b.p (L.map ZV.p)).2 := by
 intro W T0 hk hT0 l J Jp hst hlt hjp rnd h0
 have LT : Later w W T0 := ⟨hk, hT0⟩
 obtain ⟨n, hn⟩ : ∃ n, n = L.length := ⟨_, rfl⟩
 have HN := Lib.hid hn
 have hle : n ≤ 1000000 := by omega
 rw [← hn] at c2
 obtain ⟨bl, hbl⟩ : ∃ bl, bl = b.l.length := ⟨_, rfl⟩
 have HBL := Lib.hid hbl
 rw [← hbl] at c1
 have C0 := Lib.hid (LT.cell c0)
 have C1 := Lib.hid (LT.cell c1)
 have C2 := Lib.hid (LT.cell c2)
 have RL := Lib.hid (LT.rdz hL)
 have ZB := Lib.hid (show ZAt 0 W b ∧ ∀ p, b.a = some p → ¬ T0 p.block from ⟨hb.keptK hk (fun _ _ => trivial), fun p e => LT.no (hb.2 p e).2⟩)
 have NL := Lib.hid (show ∀ z ∈ L, ∀ p, z.a = some p → p.block < w.heap.size from fun z hz p e => ((hL.el z hz).2 p e).2)
 have NW := Lib.hid hk.size
 have HB := Lib.hid (show B ≤ W.heap.size from Nat.le_trans hB hk.size)
 have ST := Lib.hid hst
 have LL := Lib.hid hlt
 have JP := Lib.hid hjp
 have RN := Lib.hid (show Rnd B w.heap.size l W (woS b.p (L.map ZV.p)).1 J Jp from rnd)
 have I0 := Lib.hid (ItI.start hlt h0)
 obtain ⟨erx, herx⟩ : ∃ erx, erx = (if (woS b.p (L.map ZV.p)).2 = 0 then none else some (pan (woS b.p (L.map ZV.p)).2)) := ⟨_, rfl⟩
 rw [← herx]
 have HERX := Lib.hid herx
 have RD := Lib.hid (show ∀ W', ZAt 0 W' b → Calls Tryz.prog 135 #[.agg #[.int .i64 b.N, .slice b.a bl b.c]] W' (CRes W' (rdcL b.N b.l) (rdcE b.N b.l)) from fun W' h => by rw [hbl]; exact zreduce_gen b.N b.l b.a b.c W' h.1)
 clear hL rnd hst hlt hjp h0 hl hn LT hB hk hT0 herx hbl hb
 refine callsIn_wide.2 ((callsIn_wide (n := 10)).1 (callsIn_of_wpAt Tryz.func133 rfl trivial rfl ?_))
 simp only [Tryz.ntmps133, List.size_toArray, List.length_cons, List.length_nil, Nat.reduceAdd, Nat.reduceSub, Array.replicate_succ, Array.replicate_zero, List.push_toArray, List.append_toArray, List.nil_append, List.cons_append]
 refine wpAt_seq (wpAt_of_wpIn (wpIn_wide.2 ?_))
 obtain ⟨w1, hw1⟩ : ∃ w1, w1 = W.alloc (.cells #[.func (.yield l) #[] #[]] 83) := ⟨_, rfl⟩
 have BY := Lib.hid (show Bx1 w1 W.heap.size (.func (.yield l) #[] #[]) 83 by rw [hw1]; exact Bx1.made W _ _)
 have B1 := Lib.hid (show Below W.heap.size W w1 by rw [hw1]; exact one_more _)
 go_wp2_with fail
 show WpAt _ _ _ _ _ _ _ _
 rw [← hw1]
 clear hw1
 have d0 := kept B1.out C0.out.1
 have d1 := kept B1.out C1.out.1
 have d2 := kept B1.out C2.out.1
 clear c0 c1 c2
 refine wpAt_seq (wpAt_of_wpIn (wpIn_wide.2 ?_))
 go_wp2_with fail
 refine (RD.out _ (ZB.out.1.on B1.out)).mono ?_
 rintro e w2 ⟨hb2, v, rfl, hv⟩
 obtain ⟨er, her⟩ : ∃ er, er = rdcE b.N b.l := ⟨_, rfl⟩
 rw [← her]
 have HER := Lib.hid her
 obtain ⟨dao, dc, rfl, hd3⟩ := hv.arg
 obtain ⟨cs, hcs⟩ : ∃ cs, cs = rdcL b.N b.l := ⟨_, rfl⟩
 rw [← hcs] at hv hd3 ⊢
 have HCS := Lib.hid hcs
 obtain ⟨k, hkk⟩ : ∃ k, k = cs.length := ⟨_, rfl⟩
 rw [← hkk]
 have HK := Lib.hid hkk
 have MC := Lib.hid (fun W => mustC_any dao k dc er W)
 have OD := Lib.hid (show ∀ p, dao = some p → w1.heap.size ≤ p.block ∧ p.block < w2.heap.size from fun p e => World.ownsRow.lt hv p.block (by subst e; rfl))
 have B2 := Lib.hid hb2
 have D3 := Lib.hid hd3
 have LK := Lib.hid (show cs.length ≤ 121 by rw [hcs]; exact rdc_len)
 have OK := Lib.hid (show ∀ c ∈ cs, I64 c.2.2 ∧ spE c.2.2 = 0 from fun c hc => by rw [hcs] at hc; exact rdc_ok hc)
 clear hb2 hv hd3 hcs hkk her RD
 obtain ⟨b3, hb3⟩ : ∃ b3, b3 = W.heap.size := ⟨_, rfl⟩
 rw [← hb3] at BY ⊢
 have HB3 := Lib.hid hb3
 clear hb3
 go_wp2_with fail
 refine (MC.out _).mono ?_
 rintro e w3 ⟨hb, (⟨he, rfl⟩ | ⟨he, rfl⟩)⟩
 · have B3 := Lib.hid (below_on B2.out hb)
   have WS := Lib.hid (show woS b.p (L.map ZV.p) = woC b.p cs (L.map ZV.p) by unfold woS; rw [if_pos (show rdcE b.p.1 b.p.2 = 0 by rw [← he]; exact HER.out.symm), HCS.out]; rfl)
   have e2 := kept B3.out d2
   have e0 := kept B3.out d0
   have e1 := kept B3.out d1
   have IO := Lib.hid (show WoI W T0 J b3 (.func (.yield l) #[] #[]) cs dao [] [] w3 from by
    refine ⟨W.heap.size, fun k => k = b3 ∨ ∃ p, dao = some p ∧ p.block = k, ?_, ?_, Or.inl rfl, BY.out.kept B3.out, trivial, D3.out.on hb, fun p e => Or.inr ⟨p, e, rfl⟩⟩
    · have hs := B1.out.size
      have hs2 := B3.out.size
      refine I0.out.own ST.out (below_on B1.out B3.out) fun k e => ?_
      rcases e with rfl | ⟨p, e, rfl⟩
      · exact ⟨Or.inr (by rw [HB3.out]; exact Nat.le_refl _), by have := BY.out.lt; omega⟩
      · have := OD.out p e
        have := hb.size
        exact ⟨Or.inr (by omega), by omega⟩
    · have hs := B1.out.size
      rintro k (rfl | ⟨p, e, rfl⟩)
      · rw [HB3.out]; exact Nat.le_refl _
      · have := OD.out p e; omega)
   clear hb he d0 d1 d2
   go_wp2_with fail
   show WpAt _ _ _ _ _ _ _ _
   refine wpAt_seq (wpAt_of_wpIn (wpIn_wide.2 ?_))
   go_wp2_with fail
   show WpAt _ _ _ _ _ _ _ _
   clear e0 e1 e2
   refine wpAt_blockE (wpAt_loop (fun a' wo => ∃ (t : Nat) (ds : List Deferred) (P : List Zp) (u6 u7 u16 u17 u18 u19 u20 u21 u22 u23 u24 u25 u26 u27 u28 : Value), a' = { tmps := #[.func (.yield l) #[] #[], .pointer (some ⟨pb, 0, none⟩), .pointer (some ⟨pl, 0, none⟩), .pointer (some ⟨b3, 0, none⟩), .slice dao k dc, undef, u6, u7, .agg #[.int .i64 b.N, .slice b.a bl b.c], .tuple #[.slice dao k dc, .int .i64 er], .slice dao k dc, .int .i64 er, .slice dao k dc, .slice go n gc, .int .i64 n, .int .i64 t, u16, u17, u18, u19, u20, u21, u22, u23, u24, u25, u26, u27, u28], defers := ds } ∧ t ≤ n ∧ Hid (WoI W T0 J b3 (.func (.yield l) #[] #[]) cs dao ds P wo) ∧ Hid (woS b.p (L.map ZV.p) = seqA (P, 0) (woC b.p cs ((L.map ZV.p).drop t))))
    (fun a' _ => n - (intOf (a'.tmps.getD 15 undef)).toNat) ?_ ?_)
   · exact ⟨0, [], [], undef, undef, undef, undef, undef, undef, undef, undef, undef, undef, undef, undef, undef, undef, undef, rfl, by omega, IO, Lib.hid (by rw [WS.out]; exact (nil_seqA _).symm)⟩
   · rintro a' wo ⟨t, ds, P, u6, u7, u16, u17, u18, u19, u20, u21, u22, u23, u24, u25, u26, u27, u28, rfl, ht, HI, HW⟩
     by_cases htn : t < n
     · have hlt : t < L.length := by have := HN.out; omega
       have HLT := Lib.hid (show t < (L.map ZV.p).length by simpa using hlt)
       obtain ⟨m, O, io, o1, o2, o3, o4, o5, o6⟩ := HI.out
       have rz := io.rdz RL.out.1 RL.out.2.1 RL.out.2.2
       obtain ⟨a, ea, h0, h1⟩ := rz.hd t hlt
       obtain ⟨x, hx⟩ : ∃ x, x = L[t] := ⟨_, rfl⟩
       have HM := Lib.hid (show x ∈ L by rw [hx]; exact List.getElem_mem _)
       have XP := Lib.hid (show (L.map ZV.p)[t]'HLT.out = x.p by rw [hx]; simp)
       rw [← hx] at h0 h1
       obtain ⟨xl, hxl⟩ : ∃ xl, xl = x.l.length := ⟨_, rfl⟩
       have HXL := Lib.hid hxl
       rw [← hxl] at h1
       have ZX := Lib.hid (rz.el x HM.out)
       have ZY := Lib.hid (io.zat ZB.out.1 ZB.out.2)
       have IO := Lib.hid io
       have O1 := Lib.hid o1
       have O2 := Lib.hid o2
       have O3 := Lib.hid o3
       have O4 := Lib.hid o4
       have O5 := Lib.hid o5
       have O6 := Lib.hid o6
       have e0 := io.cell C0.out.1 C0.out.2
       have e1 := io.cell C1.out.1 C1.out.2
       have SW := Lib.hid (show woS b.p (L.map ZV.p) = seqA (P, 0) (seqA (cutS x.p b.p cs) (woC b.p cs ((L.map ZV.p).drop (t + 1)))) by rw [HW.out, woC_cons HLT.out, XP.out])
       obtain ⟨v1, hv1⟩ : ∃ v1, v1 = wo.alloc (.cells #[.int .i64 x.N, .slice x.a xl x.c] 36) := ⟨_, rfl⟩
       have B4 := Lib.hid (show Below wo.heap.size wo v1 by rw [hv1]; exact one_more _)
       have X4 := Lib.hid (show Bx2 v1 wo.heap.size (.int .i64 x.N) (.slice x.a xl x.c) 36 by rw [hv1]; exact Bx2.made wo _ _ _)
       obtain ⟨x0, x1, _, _⟩ := X4.out.facts
       have e2 := kept B4.out e0
       have e3 := kept B4.out e1
       have CF := Lib.hid (show Calls Tryz.prog 136 #[.agg #[.int .i64 x.N, .slice x.a xl x.c], .agg #[.int .i64 b.N, .slice b.a bl b.c], .slice dao k dc] v1 (fun e w' => e = .returned (.func (.func 158) #[] #[.pointer (some ⟨v1.heap.size, 0, none⟩), .pointer (some ⟨v1.heap.size + 1, 0, none⟩), .pointer (some ⟨v1.heap.size + 2, 0, none⟩)])
        ∧ w' = ((v1.alloc (.cells #[.int .i64 x.N, .slice x.a xl x.c] 36)).alloc (.cells #[.int .i64 b.N, .slice b.a bl b.c] 36)).alloc (.cells #[.slice dao k dc] 104)) from by rw [HXL.out, HBL.out]; exact cutf_any x b dao k dc v1)
       have QX := Lib.hid (show wo.heap.size < v1.heap.size from X4.out.lt)
       clear hx hxl rz hlt io o1 o2 o3 o4 o5 o6 HI e0 e1
       subst ea
       refine wpAt_seq (wpAt_of_wpIn (wpIn_wide.2 ?_))
       go_wp2_with fail
       show WpAt _ _ _ _ _ _ _ _
       refine wpAt_seq (wpAt_of_wpIn (wpIn_wide.2 ?_))
       go_wp2_with fail
       show WpAt _ _ _ _ _ _ _ _
       refine wpAt_seq (wpAt_blockE ?_)
       refine wpAt_seq (wpAt_of_wpIn (wpIn_wide.2 ?_))
       go_wp2_with fail
       show WpAt _ _ _ _ _ _ _ _
       rw [← hv1]
       clear hv1
       obtain ⟨bx, hbx⟩ : ∃ bx, bx = wo.heap.size := ⟨_, rfl⟩
       rw [← hbx] at x0 x1 ⊢
       have HBX := Lib.hid hbx
       clear hbx
       refine wpAt_seq (wpAt_of_wpIn (wpIn_wide.2 ?_))
       go_wp2_with fail
       refine CF.out.mono ?_
       rintro e wi ⟨rfl, hwi⟩
       obtain ⟨px, hpx⟩ : ∃ px, px = v1.heap.size := ⟨_, rfl⟩
       rw [← hpx]
       have HPX := Lib.hid hpx
       have B5 := Lib.hid (show Below v1.heap.size v1 wi by rw [hwi]; exact past_three (Below.refl _ _))
       have F0 := Lib.hid (show Bx2 wi px (.int .i64 x.N) (.slice x.a xl x.c) 36 ∧ Bx2 wi (px + 1) (.int .i64 b.N) (.slice b.a bl b.c) 36 ∧ Bx1 wi (px + 2) (.slice dao k dc) 104 ∧ wi.heap.size = px + 3 from by
        rw [hwi, hpx]
        refine ⟨((Bx2.made v1 _ _ _).kept (one_more _)).kept (one_more _), ?_, ?_, by simp⟩
        · have := Bx2.made (v1.alloc (.cells #[.int .i64 x.N, .slice x.a xl x.c] 36)) (.int .i64 b.N) (.slice b.a bl b.c) 36
          rw [World.size_alloc] at this
          exact this.kept (one_more _)
        · have := Bx1.made ((v1.alloc (.cells #[.int .i64 x.N, .slice x.a xl x.c] 36)).alloc (.cells #[.int .i64 b.N, .slice b.a bl b.c] 36)) (.slice dao k dc) 104
          rw [World.size_alloc, World.size_alloc] at this
          exact this)
       clear hwi hpx x0 x1 e2 e3 CF h0 h1
       go_wp2_with fail
       show WpAt _ _ _ _ _ _ _ _
       obtain ⟨T1, j1, j2, j3, j4, j5⟩ := IO.out
       have BI := Lib.hid (below_on B4.out B5.out)
       have J1 := Lib.hid (ST.out _ _ _ _ j1 (Kept.of_below BI.out _))
       have J2 := Lib.hid j2
       have J3 := Lib.hid j3
       have J4 := Lib.hid (j4.trans (Kept.of_below BI.out _))
       have J5 := Lib.hid j5
       have MK := Lib.hid (show ∀ A, Kept (fun k => k < wi.heap.size ∧ ¬ T1 k) wi A → A.heap[wi.heap.size]? = some (.deferred (some [])) → Marks A (fun k => O k ∨ k = wi.heap.size) ({ target := .collected wi.heap.size, args := #[] } :: ds) ∧ ∀ k, (O k ∨ k = wi.heap.size) → k < A.heap.size from fun A kA hD => by
        have hs := BI.out.size
        have ld : wi.heap.size < A.heap.size := by
         by_cases e : wi.heap.size < A.heap.size
         · exact e
         · rw [Array.getElem?_eq_none (by omega)] at hD; cases hD
        have nO : ∀ k, O k → k < wi.heap.size ∧ ¬ T1 k := fun k q => ⟨by have := j3 k q; omega, fun r => (j2 k r).2.1 q⟩
        refine ⟨⟨⟨wi.heap.size, rfl, hD, Or.inr rfl, fun d hd e => ?_⟩, ?_⟩, ?_⟩
        · obtain ⟨r, e2, o⟩ := O4.out.mem d hd
          rw [e2] at e
          injection e with e
          have := j3 r o
          omega
        · have m1 := Marks.kept (S' := O) O4.out (Kept.of_below BI.out O) j3 (fun k q => q)
          exact Marks.kept m1 (kA.mono fun k _ q => nO k q) (fun k q => by have := nO k q; omega) (fun k q => Or.inl q)
        · rintro k (q | q)
          · have := nO k q; have := kA.size; omega
          · rw [q]; exact ld)
       clear j1 j2 j3 j4 j5
       refine wpAt_blockE (wpAt_rangeG Tryz.func133 rfl cut_enters (V := VzA B) (gift := giftZ) (n₀ := w.heap.size) (xs := (cutS x.p b.p cs).1) (er := if (cutS x.p b.p cs).2 = 0 then none else some (pan (cutS x.p b.p cs).2)) (fun x args A h => by obtain ⟨z, rfl, _⟩ := h; rfl)
        (fun pre T A => J (P ++ pre) T A ∧ (∀ k, T k → T1 k ∨ wi.heap.size + 2 ≤ k) ∧ Kept (fun k => k < wi.heap.size ∧ ¬ T1 k) wi A)
        (fun chain A => Jp chain A ∧ Kept (fun k => k < wi.heap.size ∧ ¬ T1 k) wi A)
        (fun pre y args T a' A => ∃ q z Tj, args = #[z.val] ∧ z.p = y ∧ a' = { tmps := #[.func (.yield l) #[] #[], .pointer (some ⟨pb, 0, none⟩), .pointer (some ⟨pl, 0, none⟩), .pointer (some ⟨b3, 0, none⟩), .slice dao k dc, undef, .pointer (some ⟨bx, 0, none⟩), .pointer (some ⟨q, 0, none⟩), .agg #[.int .i64 b.N, .slice b.a bl b.c], .tuple #[.slice dao k dc, .int .i64 er], .slice dao k dc, .int .i64 er, .slice dao k dc, .slice (some a) n gc, .int .i64 n, .int .i64 t, .bool true, .pointer (some (a.add (t * 2))), .agg #[.int .i64 x.N, .slice x.a xl x.c], .agg #[.int .i64 x.N, .slice x.a xl x.c], .agg #[.int .i64 b.N, .slice b.a bl b.c], .slice dao k dc, .func (.func 158) #[] #[.pointer (some ⟨px, 0, none⟩), .pointer (some ⟨px + 1, 0, none⟩), .pointer (some ⟨px + 2, 0, none⟩)], z.val, u24, u25, u26, u27, u28], defers := [] } ∧ WoA wi w.heap.size B T1 J P pre z Tj T A q)
        T1 ?hst ?hsA ?hT ?hIp ?h0 ?hseq ?hassign ?hbody ?hdone ?hpan ?hown)
       case hst =>
        rintro pre T A B' ⟨i1, i2, i3⟩ k
        have hs := (below_on B4.out B5.out).size
        have hW := IO.out.size.2
        exact ⟨ST.out _ _ _ _ i1 (k.mono fun j _ q => q.imp (fun q => by omega) id), i2, i3.trans (k.mono fun j _ q => Or.inl q.1)⟩
       case hsA =>
        rintro pre y args T a' A B' ⟨q, z, Tj, e1, e2, e3, h⟩ k
        have hs := (below_on B4.out B5.out).size
        have hW := IO.out.size.2
        refine ⟨q, z, Tj, e1, e2, e3, ST.out _ _ _ _ h.j (k.mono fun j _ q => q.elim (fun q => Or.inl (by omega)) (fun q => Or.inr (Or.inl (h.sub j q)))), h.tj, h.kp.trans (k.mono fun j _ q => Or.inl q.1), h.sub, h.tq, h.b.keptK k (Or.inr (Or.inl h.tq)), h.za.keptK k (fun p e => Or.inr (Or.inr ⟨⟨z, e1, p, e, rfl⟩, (h.g p e).2.1⟩)), h.g, Nat.le_trans h.sz k.size⟩
       case hT =>
        rintro pre T A ⟨i1, _, _⟩
        exact LL.out _ _ _ i1
       case hIp =>
        rintro chain A B' ⟨h1, h2⟩ k
        have hs := (below_on B4.out B5.out).size
        have hW := IO.out.size.2
        exact ⟨JP.out _ _ _ h1 (k.mono fun j _ q => by omega), h2.trans (k.mono fun j _ q => q.1)⟩
       case h0 =>
        exact ⟨by rw [List.append_nil]; exact J1.out, fun k q => Or.inl q, Kept.refl _ _⟩
       case hseq =>
        intro W' kw zw
        have hs := BI.out.size
        have hW := IO.out.size.2
        have hN := NW.out
        have h5 := J5.out
        have hB := HB.out
        obtain ⟨f0, f1, f2, f3⟩ := F0.out
        have g0 := f0.keptK kw trivial
        have g1 := f1.keptK kw trivial
        have g2 := f2.keptK kw trivial
        obtain ⟨y0, y1, _, _⟩ := g0.facts
        obtain ⟨y2, y3, _, _⟩ := g1.facts
        have nT : ∀ k, wo.heap.size ≤ k → k ≠ wi.heap.size + 1 → ¬ (T1 k ∨ k = wi.heap.size + 1) := fun k h1 h2 q => q.elim (fun q => by have := (J2.out k q).2.2; omega) h2
        have hpx : v1.heap.size = px := HPX.out.symm
        have h4 := B4.out.size
        refine cut_seq x b cs dao dc px (px + 1) (px + 2) B w.heap.size W' _ (by omega) y0 (by rw [← HXL.out]; exact y1) y2 (by rw [← HBL.out]; exact y3) (by rw [← HK.out]; exact g2.cell) (nT _ (by omega) (by omega)) (nT _ (by omega) (by omega)) (nT _ (by omega) (by omega))
         ((ZX.out.on BI.out).keptK kw (fun _ _ => trivial)) (fun p e => ?_) ((ZY.out.on BI.out).keptK kw (fun _ _ => trivial)) (fun p e q => ?_) ((O5.out.on BI.out).keptK kw (fun _ _ => trivial)) (fun p e q => ?_) LK.out OK.out
        · have h1 := NL.out x HM.out p e
          refine ⟨fun q => q.elim (fun q => ?_) (fun q => by omega), h1⟩
          rcases (J2.out _ q).1 with r | r
          · exact RL.out.2.2 x HM.out p e r
          · omega
        · have h1 := (ZB.out.1.2 p e).2
          rcases q with q | q
          · rcases (J2.out _ q).1 with r | r
            · exact ZB.out.2 p e r
            · omega
          · omega
        · have h1 := J3.out _ (O6.out p e)
          rcases q with q | q
          · exact (J2.out _ q).2.1 (O6.out p e)
          · omega
       case hassign =>
        rintro lp pre y args T A K ⟨i1, i2, i3⟩ hsz hpx ⟨z, rfl, hz, hza⟩ hG hK
        have HK2 := Lib.hid hK
        have I1 := Lib.hid i1
        have I2 := Lib.hid i2
        have I3 := Lib.hid i3
        have HG := Lib.hid hG
        have HZ := Lib.hid hza
        have SZ := Lib.hid hsz
        have N2 := Lib.hid (Bx2.made A (.int .i64 z.N) (.slice z.a z.l.length z.c) 36)
        have B6 := Lib.hid (one_more (w1 := A) (.cells #[.int .i64 z.N, .slice z.a z.l.length z.c] 36))
        clear hK i1 i2 i3 hG hza hsz
        simp only [ZV.val]
        gi_wp2_with fail
        have sz := SZ.out
        refine HK2.out _ _ (fun k => T k ∨ k = A.heap.size) ⟨A.heap.size, z, T, rfl, hz, rfl, ST.out _ _ _ _ I1.out (Kept.of_below B6.out _), I2.out, I3.out.trans (Kept.of_below B6.out _), fun k q => Or.inl q, Or.inr rfl, N2.out, HZ.out.on B6.out, fun p e => ?_, by have := B6.out.size; omega⟩ (Kept.of_below B6.out _) ?_
        · have := HG.out p.block ⟨z, rfl, p, e, rfl⟩
          exact ⟨this.2.1, this.2.2.1, this.2.2.2⟩
        · rintro k (q | q)
          · exact Or.inl q
          · right; omega
       case hbody =>
        rintro lp pre y args T a' A ⟨q, z, Tj, rfl, hz, rfl, h⟩ hpx
        have HA := Lib.hid h
        have hs := BI.out.size
        have hW := IO.out.size.2
        have hN := NW.out
        have hsz := h.sz
        have nb3 : b3 < wi.heap.size ∧ ¬ T1 b3 := ⟨by have := J3.out _ O2.out; omega, fun q => (J2.out _ q).2.1 O2.out⟩
        have c3 := (((O3.out.kept BI.out).keptK h.kp nb3)).cell
        obtain ⟨z0, z1, _, _⟩ := h.b.facts
        have PX := Lib.hid (show ((P ++ pre) ++ [y]) <+: (woS b.p (L.map ZV.p)).1 from by
         rw [SW.out, List.append_assoc]
         refine List.IsPrefix.trans ?_ (show P ++ (cutS x.p b.p cs).1 <+: _ from ?_)
         · exact (List.prefix_append_right_inj P).2 hpx
         · rw [← seqA_assoc]
           exact List.IsPrefix.trans (by unfold seqA; simp) (seqA_pre _ _))
        have YD := RN.out (P ++ pre) y Tj A #[z.val] h.j PX.out ⟨z, rfl, hz, h.za⟩ (fun k q => by
         obtain ⟨p, e, rfl⟩ := giftZ_of q
         have h1 := h.g p e
         exact ⟨(h.za.2 p e).2, h1.1, h1.2.2.imp id (fun r => by omega)⟩)
        obtain ⟨fn, tmps, assign, body, hyd, hR⟩ := YD
        have HR := Lib.hid hR
        clear hR h hpx
        unfold ZV.val at hyd ⊢
        obtain ⟨zl, hzl⟩ : ∃ zl, zl = z.l.length := ⟨_, rfl⟩
        rw [← hzl] at hyd z1 ⊢
        have HZL := Lib.hid hzl
        clear hzl hs hW hN hsz nb3
        gi_wp2_with fail
        refine (round_any HR.out).mono ?_
        rintro e A2 (⟨rfl, T', t1, t2, t3⟩ | ⟨chain, rfl, hp, kp⟩)
        · have T1' := Lib.hid t1
          have T2 := Lib.hid t2
          have T3 := Lib.hid t3
          clear t1 t2 t3 c3 z0 z1
          gi_wp2_with fail
          have hs := BI.out.size
          have hW := IO.out.size.2
          have hN := NW.out
          have hsz := HA.out.sz
          have gk : ∀ k, giftZ #[z.val] k → W.heap.size ≤ k → wi.heap.size + 2 ≤ k := fun k g h => by
           obtain ⟨p, e, rfl⟩ := giftZ_of g
           have := (HA.out.g p e).2.2; omega
          refine ⟨T', ⟨by rw [← List.append_assoc]; exact T1'.out, fun k q => ?_, HA.out.kp.trans (T2.out.mono fun k _ q r => ?_)⟩, T2.out.mono fun k _ q r => q (HA.out.sub k r), fun k q => ?_⟩
          · rcases T3.out k q with r | r | r
            · exact HA.out.tj k r
            · right; omega
            · exact Or.inr (gk k r.1 r.2)
          · rcases HA.out.tj k r with s | s
            · exact q.2 s
            · have := q.1; omega
          · rcases T3.out k q with r | r | r
            · exact Or.inl (HA.out.sub k r)
            · exact Or.inr (Or.inl r)
            · refine Or.inr (Or.inr ⟨?_, gk k r.1 r.2⟩)
              have := r.1
              unfold ZV.val at this
              rw [← HZL.out] at this
              exact this
        · refine ⟨by first | rfl | trivial, ⟨hp, HA.out.kp.trans (kp.mono fun k _ q r => ?_)⟩, kp.mono fun k _ q r => q (HA.out.sub k r)⟩
          rcases HA.out.tj k r with s | s
          · exact q.2 s
          · have := q.1; omega
       case hdone =>
        rintro T A her ⟨i1, i2, i3⟩ hD
        show WpAt _ _ _ _ _ _ _ _
        have EZ := Lib.hid (show (cutS x.p b.p cs).2 = 0 from by
         by_cases e : (cutS x.p b.p cs).2 = 0
         · exact e
         · rw [if_neg e] at her; cases her)
        obtain ⟨mk, ml⟩ := MK.out A i3 hD
        have hs := BI.out.size
        have hW := IO.out.size.2
        have h5 := J5.out
        have ld := ml wi.heap.size (Or.inr rfl)
        have nW : ∀ k, k < W.heap.size → ¬ T0 k → ¬ T1 k := fun k hk hn q => by
         rcases (J2.out k q).1 with r | r
         · exact hn r
         · omega
        have nO : ∀ k, O k → k < wi.heap.size ∧ ¬ T1 k := fun k q => ⟨by have := J3.out k q; omega, fun r => (J2.out k r).2.1 q⟩
        have IN := Lib.hid (show WoI W T0 J b3 (.func (.yield l) #[] #[]) cs dao ({ target := .collected wi.heap.size, args := #[] } :: ds) (P ++ (cutS x.p b.p cs).1) A from by
         refine ⟨A.heap.size, fun k => O k ∨ k = wi.heap.size, ⟨T, i1, fun k q => ⟨?_, ?_, LL.out _ _ _ i1 k q⟩, ml, ?_, Nat.le_refl _⟩, ?_, Or.inl O2.out, (O3.out.kept BI.out).keptK i3 (nO _ O2.out), mk, (O5.out.on BI.out).keptK i3 (fun p e => nO _ (O6.out p e)), fun p e => Or.inl (O6.out p e)⟩
         · rcases i2 k q with r | r
           · exact (J2.out k r).1
           · right; omega
         · rintro (o | o)
           · rcases i2 k q with r | r
             · exact (J2.out k r).2.1 o
             · have := J3.out k o; omega
           · rcases i2 k q with r | r
             · have := (J2.out k r).2.2; omega
             · omega
         · exact J4.out.trans (i3.mono fun k _ q => ⟨by omega, nW k q.2 q.1⟩)
         · rintro k (q | q)
           · exact O1.out k q
           · omega)
        have SN := Lib.hid (show woS b.p (L.map ZV.p) = seqA (P ++ (cutS x.p b.p cs).1, 0) (woC b.p cs ((L.map ZV.p).drop (t + 1))) by
         rw [SW.out, ← seqA_assoc]
         congr 1
         unfold seqA; simp [EZ.out])
        clear i1 i2 i3 hD mk ml her
        refine wpAt_of_wpIn (wpIn_wide.2 ?_)
        go_wp2_with fail
        refine ⟨⟨t + 1, _, _, .pointer (some ⟨bx, 0, none⟩), u7, .bool true, _, _, _, _, _, _, u23, u24, u25, u26, u27, _, rfl, by omega, IN, SN⟩, ?_⟩
        simp [intOf]; omega
       case hpan =>
        rintro chain A ⟨hp, kp⟩ hD
        obtain ⟨mk, ml⟩ := MK.out A kp hD
        have hs := BI.out.size
        have hW := IO.out.size.2
        show LeavesInM _ _ _ _ _ _ _ _ _
        refine leaves_marks (by simp) _ _ _ mk ml fun w' k => ?_
        have hp2 := JP.out _ _ _ hp (k.mono fun j _ q => by
         rintro (o | o)
         · have := O1.out j o; omega
         · omega)
        exact Or.inr ⟨chain, rfl, Or.inl hp2⟩
       case hown =>
        rintro chain T A her ⟨i1, i2, i3⟩ hD
        have e0 : (cutS x.p b.p cs).2 ≠ 0 ∧ chain = pan (cutS x.p b.p cs).2 := by
         by_cases e : (cutS x.p b.p cs).2 = 0
         · rw [if_pos e] at her; cases her
         · rw [if_neg e] at her; injection her with her; exact ⟨e, her.symm⟩
        obtain ⟨e1, rfl⟩ := e0
        obtain ⟨mk, ml⟩ := MK.out A i3 hD
        have hs := BI.out.size
        have hW := IO.out.size.2
        show LeavesInM _ _ _ _ _ _ _ _ _
        refine leaves_marks (by simp) _ _ _ mk ml fun w' k => ?_
        have S1 : woS b.p (L.map ZV.p) = (P ++ (cutS x.p b.p cs).1, (cutS x.p b.p cs).2) := by
         rw [SW.out]; unfold seqA; simp [e1]
        have J6 : J (woS b.p (L.map ZV.p)).1 T w' := by
         rw [S1]
         refine ST.out _ _ _ _ i1 (k.mono fun j _ q => ?_)
         rintro (o | o)
         · rcases q with q | q
           · have := O1.out j o; omega
           · rcases i2 j q with r | r
             · exact (J2.out j r).2.1 o
             · have := J3.out j o; have := J5.out; omega
         · rcases q with q | q
           · omega
           · rcases i2 j q with r | r
             · have := (J2.out j r).2.2; have := J5.out; omega
             · omega
        have E2 : erx = some (pan (cutS x.p b.p cs).2) := by rw [HERX.out, S1]; exact erOf e1
        exact Or.inr ⟨_, rfl, Or.inr ⟨E2, T, J6⟩⟩
     · -- the end
       obtain ⟨m, O, io, o1, o2, o3, o4, o5, o6⟩ := HI.out
       have e1 : (L.map ZV.p).drop t = [] := List.drop_eq_nil_of_le (by have := HN.out; simp; omega)
       have SE := Lib.hid (show woS b.p (L.map ZV.p) = (P, 0) by rw [HW.out, e1]; unfold woC flatS; exact seqA_nil _)
       have IO := Lib.hid io
       have O1 := Lib.hid o1
       have O4 := Lib.hid o4
       clear io o1 o2 o3 o4 o5 o6 HI e1
       refine wpAt_seq (wpAt_of_wpIn (wpIn_wide.2 ?_))
       go_wp2_with fail
       show WpAt _ _ _ _ _ _ _ _
       refine wpAt_seq (wpAt_of_wpIn (wpIn_wide.2 ?_))
       go_wp2_with fail
       obtain ⟨T, j1, j2, j3, j4, j5⟩ := IO.out
       have E2 : erx = none := by rw [HERX.out, SE.out]; rfl
       show LeavesInM _ _ _ _ _ _ _ _ _
       refine leaves_marks (by simp) _ _ _ O4.out j3 fun w' k => ?_
       have J6 : J (woS b.p (L.map ZV.p)).1 T w' := by
        rw [SE.out]
        refine ST.out _ _ _ _ j1 (k.mono fun j _ q => fun o => ?_)
        rcases q with q | q
        · have := O1.out j o; omega
        · exact (j2 j q).2.1 o
       exact ⟨_, results_none rfl _ _ _, Or.inl ⟨rfl, E2, T, J6⟩⟩
 · have W0 := Lib.hid (show woS b.p (L.map ZV.p) = ([], er) by unfold woS; rw [if_neg (show ¬ rdcE b.p.1 b.p.2 = 0 by intro q; exact he (HER.out.trans q))]; rw [HER.out]; rfl)
   obtain ⟨T, j1, _⟩ := I0.out.below ST.out (below_on B1.out (below_on B2.out hb))
   have J2 : J (woS b.p (L.map ZV.p)).1 T w3 := by rw [W0.out]; exact j1
   have E2 : erx = some (pan er) := by rw [HERX.out, W0.out]; exact erOf he
   exact Or.inr ⟨_, rfl, Or.inr ⟨E2, T, J2⟩⟩
end Go.Proofs.YthjapmdfcbngmaaGreat
