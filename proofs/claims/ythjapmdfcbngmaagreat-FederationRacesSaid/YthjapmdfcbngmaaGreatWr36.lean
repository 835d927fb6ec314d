/- A part. -/
import Derived.Test.YthjapmdfcbngmaaGreatWr35
import Derived.Test.YthjapmdfcbngmaaGreatWr8
namespace Go.Proofs.YthjapmdfcbngmaaGreat
set_option maxHeartbeats 16000000
open Go.RowKit
def reS (g : Zp) (d : List Zp) : List Zp → List Zp → List Zp × Int
 | [], l => (l, 0)
 | b :: r, l => thE (avP g d b) fun a => thE (coR (mtS l a)) fun m => reS g d r m
def reP (g : Zp) (bad : List Zp) : List Zp × Int := thE (dnR g) fun d => reS g d bad d
theorem reS_cons {g : Zp} {d M l : List Zp} {t : Nat} (ht : t < M.length) : reS g d (M.drop t) l = thE (avP g d M[t]) fun a => thE (coR (mtS l a)) fun m => reS g d (M.drop (t + 1)) m := by
 rw [List.drop_eq_getElem_cons ht]; rfl
def ReRes (w : World) (r : List Zp × Int) (e : Ending) (w' : World) : Prop :=
 Below w.heap.size w w' ∧ ((r.2 = 0 ∧ ∃ ao cap L, e = .returned (.slice ao L.length cap) ∧ OwnZ w.heap.size w.heap.size w' (.slice ao L.length cap) L ∧ Sep 0 L ∧ L.map ZV.p = r.1 ∧ L.length ≤ 1000000) ∨ (r.2 ≠ 0 ∧ e = .panicked (pan r.2)))
theorem Sep.all {n : Nat} {L : List ZV} (h : Sep n L) (hz : ∀ z ∈ L, ∀ p, z.a = some p → n ≤ p.block) : Sep 0 L :=
 List.Pairwise.imp_of_mem (fun hx _ k p q e f _ => k p q e f (hz _ hx p e)) h
set_option maxRecDepth 100000 in
theorem reaching_any (g : ZV) (M : List ZV) (ho : Option Addr) (hc : Nat) (w : World) (hg : ZAt 0 w g) (hM : RdZ 0 w ho M) (hm : M.length ≤ 1000000) :
  Calls Tryz.prog 114 #[g.val, .slice ho M.length hc] w (ReRes w (reP g.p (M.map ZV.p))) := by
 obtain ⟨T, hT⟩ : ∃ T, T = reP g.p (M.map ZV.p) := ⟨_, rfl⟩
 rw [← hT]
 have TT := Lib.hid hT
 have GZ := Lib.hid hg
 have RM := Lib.hid hM
 have DNC := Lib.hid (show ∀ W, Below w.heap.size w W → Calls Tryz.prog 65 #[g.val] W (ZOut W (dnP g.p)) from fun W h => dn_out g W (hg.on h))
 have AVC := Lib.hid (show ∀ W (z b : ZV) q, Below w.heap.size w W → ZAt 0 W b → RdZ 0 W (some q) [z] → Calls Tryz.prog 145 #[g.val, .slice (some q) 1 1, b.val] W (AvRes W (avP g.p [z.p] b.p)) from fun W z b q h k r => by
  have := avoiding_any g b [z] (some q) 1 W (hg.on h) k r (by simp)
  simpa using this)
 unfold ZV.val at DNC AVC ⊢
 obtain ⟨gl, hgl⟩ : ∃ gl, gl = g.l.length := ⟨_, rfl⟩
 obtain ⟨n, hn⟩ : ∃ n, n = M.length := ⟨_, rfl⟩
 have HN := Lib.hid hn
 have nle : n ≤ 1000000 := by omega
 rw [← hgl] at DNC AVC ⊢
 rw [← hn]
 obtain ⟨w1, hw1⟩ : ∃ w1, w1 = w.alloc (.cells #[.int .i64 g.N, .slice g.a gl g.c] 36) := ⟨_, rfl⟩
 have B1 := Lib.hid (show Below w.heap.size w w1 by rw [hw1]; exact one_more _)
 have XG := Lib.hid (show Bx2 w1 w.heap.size (.int .i64 g.N) (.slice g.a gl g.c) 36 by rw [hw1]; exact Bx2.made w _ _ _)
 obtain ⟨qg, hqg⟩ : ∃ qg, qg = w.heap.size := ⟨_, rfl⟩
 clear hT hg hM hm hgl hn
 go_enter Tryz.func114, Tryz.ntmps114
 go_wp2_with fail
 rw [← hw1]
 rw [← hqg] at XG ⊢
 clear hw1 hqg
 refine (DNC.out _ B1.out).mono ?_
 rintro e w2 ⟨hb, z, rfl, hz, hp⟩
 obtain ⟨e2, he2⟩ : ∃ e2, e2 = (dnP g.p).2 := ⟨_, rfl⟩
 rw [← he2] at hp ⊢
 have E2 := Lib.hid he2
 have HP := Lib.hid hp
 have HZ := Lib.hid (show ZAt w.heap.size w2 z from hz.low B1.out.size)
 have B2 := Lib.hid (below_on B1.out hb)
 have XG := Lib.hid (XG.out.kept hb)
 have MU := Lib.hid (fun W => mustZ_any z e2 W)
 have ONz := Lib.hid (show ∀ W, ZAt w.heap.size W z → Calls Tryz.prog 142 #[z.val] W (fun e w' => ∃ k, e = .returned (.slice (some ⟨k, 0, none⟩) 1 1) ∧ OwnZ W.heap.size w.heap.size w' (.slice (some ⟨k, 0, none⟩) 1 1) [z] ∧ Below W.heap.size W w') from fun W h => one_own z W h)
 unfold ZV.val at MU ONz ⊢
 generalize z.l.length = zl at *
 clear hb hz hp he2 DNC
 go_wp2_with fail
 refine (MU.out _).mono ?_
 rintro e w3 ⟨hb, (⟨he, rfl⟩ | ⟨he, rfl⟩)⟩
 rotate_left
 · have TE : T = ([], e2) := by rw [TT.out, reP, thE_no (show (dnR g.p).2 ≠ 0 by show (dnP g.p).2 ≠ 0; rw [← E2.out]; exact he)]; show ([], (dnP g.p).2) = _; rw [← E2.out]
   exact And.intro rfl ⟨below_on B2.out hb, Or.inr ⟨by rw [TE]; exact he, by rw [TE]⟩⟩
 have HP := Lib.hid (HP.out he)
 have TT := Lib.hid (show T = reS g.p [z.p] (M.map ZV.p) [z.p] by
  rw [TT.out, reP, thE_ok (show (dnR g.p).2 = 0 by show (dnP g.p).2 = 0; rw [← E2.out]; exact he)]; show _ = _; rw [HP.out]; rfl)
 have HZ := Lib.hid (HZ.out.on hb)
 have B3 := Lib.hid (below_on B2.out hb)
 have XG := Lib.hid (XG.out.kept hb)
 clear hb he MU
 go_wp2_with fail
 refine (ONz.out _ HZ.out).mono ?_
 rintro e w4 ⟨k4, rfl, how, hb⟩
 have O4 := Lib.hid (how.low B3.out.size (Nat.le_refl _))
 have B4 := Lib.hid (below_on B3.out hb)
 have XG := Lib.hid (XG.out.kept hb)
 have R4 := Lib.hid (show RdZ 0 w4 (some ⟨k4, 0, none⟩) [z] from ((show OwnZ _ _ w4 (.slice (some ⟨k4, 0, none⟩) [z].length 1) [z] from how).rd.1).low (Nat.zero_le _))
 have ST := Lib.hid (show ∃ ao cap Z, Value.slice (some ⟨k4, 0, none⟩) 1 1 = .slice ao Z.length cap ∧ OwnZ w.heap.size w.heap.size w4 (.slice ao Z.length cap) Z ∧ Sep 0 Z ∧ Z.length ≤ 1000000 ∧ T = reS g.p [z.p] ((M.map ZV.p).drop 0) (Z.map ZV.p) from
  ⟨some ⟨k4, 0, none⟩, 1, [z], rfl, O4.out, List.pairwise_singleton _ _, by simp, TT.out⟩)
 clear hb how ONz HZ O4
 go_wp2_with fail
 go_loopw [6, 18] (fun v s wr => ∃ t : Nat, s = .int .i64 t ∧ t ≤ n ∧ Hid (Below w4.heap.size w4 wr) ∧ Hid (∃ ao cap Z, v = .slice ao Z.length cap ∧ OwnZ w.heap.size w.heap.size wr (.slice ao Z.length cap) Z ∧ Sep 0 Z ∧ Z.length ≤ 1000000 ∧ T = reS g.p [z.p] ((M.map ZV.p).drop t) (Z.map ZV.p))) (fun _ s _ => n - (intOf s).toNat)
 case atStart => exact ⟨0, rfl, by omega, Lib.hid (Below.refl _ _), ST⟩
 case round =>
  generalize wr = wo at *
  obtain ⟨t, rfl, ht, BE, HI⟩ := hrel
  by_cases htn : t < n
  · obtain ⟨ao5, cap5, Z, rfl, ow, sp, zle, tz⟩ := HI.out
    obtain ⟨b, hbM⟩ : ∃ b, b = M[t]'(by have := HN.out; omega) := ⟨_, rfl⟩
    have BW := Lib.hid (below_on B4.out BE.out)
    obtain ⟨a, ea, h0, h1⟩ := (RM.out.on BW.out).hd t (by have := HN.out; omega)
    rw [← hbM] at h0 h1
    have ZB := Lib.hid (show ZAt 0 wo b from (RM.out.on BW.out).el b (by rw [hbM]; exact List.getElem_mem _))
    have TT := Lib.hid (show T = thE (avP g.p [z.p] b.p) fun a => thE (coR (mtS (Z.map ZV.p) a)) fun m => reS g.p [z.p] ((M.map ZV.p).drop (t + 1)) m by
     rw [tz, reS_cons (by have := HN.out; simp; omega)]; simp [hbM])
    have AV := Lib.hid (show ∀ W, Below wo.heap.size wo W → Calls Tryz.prog 145 #[.agg #[.int .i64 g.N, .slice g.a gl g.c], .slice (some ⟨k4, 0, none⟩) 1 1, .agg #[.int .i64 b.N, .slice b.a b.l.length b.c]] W (AvRes W (avP g.p [z.p] b.p)) from fun W h => AVC.out W z b _ (below_on BW.out h) (ZB.out.on h) ((R4.out.on BE.out).on h))
    have OZ := Lib.hid ow
    have ZLE := Lib.hid zle
    have MTC := Lib.hid (show ∀ W (K : List ZV) ao cap, Below wo.heap.size wo W → RdZ 0 W ao K → K.length ≤ 4000 → Calls Tryz.prog 42 #[.slice ao5 Z.length cap5, .slice ao K.length cap] W (ColResS W.heap.size W (mtS (Z.map ZV.p) (K.map ZV.p)).1 (colE (mtS (Z.map ZV.p) (K.map ZV.p)).1 (mtS (Z.map ZV.p) (K.map ZV.p)).2)) from fun W K ao cap h k l =>
     fmeetS_any Z K ao5 ao cap5 cap W (((ow.on h).rd.1).low (Nat.zero_le _)) k zle (by omega))
    obtain ⟨bl, hbl⟩ : ∃ bl, bl = b.l.length := ⟨_, rfl⟩
    rw [← hbl] at h1 AV
    obtain ⟨w5, hw5⟩ : ∃ w5, w5 = wo.alloc (.cells #[.int .i64 b.N, .slice b.a bl b.c] 36) := ⟨_, rfl⟩
    have B5 := Lib.hid (show Below wo.heap.size wo w5 by rw [hw5]; exact one_more _)
    have XB := Lib.hid (show Bx2 w5 wo.heap.size (.int .i64 b.N) (.slice b.a bl b.c) 36 by rw [hw5]; exact Bx2.made wo _ _ _)
    have XG5 := Lib.hid ((XG.out.kept BE.out).kept B5.out)
    obtain ⟨zn, hzn⟩ : ∃ zn, zn = Z.length := ⟨_, rfl⟩
    rw [← hzn] at MTC ⊢
    clear HI ow sp zle tz hbM hbl hzn
    subst ea
    go_upto_region 6 with (fail)
    rw [← hw5]
    clear hw5 h0 h1
    obtain ⟨x0, x1, _, _⟩ := XB.out.facts
    obtain ⟨y0, y1, _, _⟩ := XG5.out.facts
    go_wp2_with fail
    refine (AV.out _ B5.out).mono ?_
    rintro e w6 ⟨hb, (⟨h1, ao6, cap6, V, rfl, h3, h4, h5⟩ | ⟨h1, rfl⟩)⟩
    rotate_left
    · have TE : T = ([], (avP g.p [z.p] b.p).2) := by rw [TT.out, thE_no h1]
      exact And.intro rfl ⟨below_on BW.out (below_on B5.out hb), Or.inr ⟨by rw [TE]; exact h1, by rw [TE]⟩⟩
    have TT := Lib.hid (show T = thE (coR (mtS (Z.map ZV.p) (V.map ZV.p))) fun m => reS g.p [z.p] ((M.map ZV.p).drop (t + 1)) m by rw [TT.out, thE_ok h1, h4])
    have B6 := Lib.hid (below_on B5.out hb)
    have MC := Lib.hid (MTC.out w6 V ao6 cap6 B6.out h3.rd.1 h5)
    obtain ⟨vn, hvn⟩ : ∃ vn, vn = V.length := ⟨_, rfl⟩
    rw [← hvn] at MC ⊢
    clear hb h1 h3 h4 h5 hvn MTC AV x0 x1 y0 y1
    go_wp2_with fail
    refine MC.out.mono ?_
    rintro e w7 ⟨hb, (⟨h1, v, K, rfl, h3, h4, h5⟩ | ⟨h1, rfl⟩)⟩
    rotate_left
    · have TE : T = ([], colE (mtS (Z.map ZV.p) (V.map ZV.p)).1 (mtS (Z.map ZV.p) (V.map ZV.p)).2) := by rw [TT.out]; exact thE_no h1
      exact And.intro rfl ⟨below_on BW.out (below_on B6.out hb), Or.inr ⟨by rw [TE]; exact h1, by rw [TE]⟩⟩
    have TT := Lib.hid (show T = reS g.p [z.p] ((M.map ZV.p).drop (t + 1)) (K.map ZV.p) by rw [TT.out]; refine (thE_ok (r := coR (mtS (Z.map ZV.p) (V.map ZV.p))) h1).trans ?_; rw [h3]; rfl)
    obtain ⟨ao7, cap7, rfl, _, _⟩ := h4.read
    have BN := Lib.hid (below_on BE.out (below_on B6.out hb))
    have sz : w.heap.size ≤ w6.heap.size := (below_on BW.out B6.out).size
    have OK7 := Lib.hid (h4.low sz sz)
    have SP7 := Lib.hid (h5.all fun z hz p e => ((h4.el z hz).2 p e).1)
    have KL := Lib.hid (show K.length ≤ 1000000 by have := colE_len h1; rw [← h3] at this; simp at this; omega)
    clear hb h1 h3 h4 h5 MC sz
    go_wp2_with fail
    go_roundw
    case rel => exact ⟨t + 1, by go_num, by omega, BN, Lib.hid ⟨ao7, cap7, K, rfl, OK7.out, SP7.out, KL.out, TT.out⟩⟩
    case measure => simp [intOf]; omega
  · have e : (M.map ZV.p).drop t = [] := List.drop_eq_nil_of_le (by have := HN.out; simp; omega)
    obtain ⟨ao5, cap5, Z, rfl, ow, sp, zle, tz⟩ := HI.out
    rw [e] at tz
    have TE := Lib.hid (show T = (Z.map ZV.p, 0) from tz)
    have OZ := Lib.hid ow
    have SP := Lib.hid sp
    have ZLE := Lib.hid zle
    have BW := Lib.hid (below_on B4.out BE.out)
    clear HI ow sp zle tz e
    go_wp2_with fail
    go_ret
    exact ⟨BW.out, Or.inl ⟨by rw [TE.out], ao5, cap5, Z, rfl, OZ.out, SP.out, by rw [TE.out], ZLE.out⟩⟩
attribute [local go_sem] Oper.semAt_some
theorem within_enters : ∀ args w, (callFunc 113 args).run Tryz.prog w = .ok (.enter 113 args) w := yield_enters _ Tryz.func113 (by kernel_rfl) rfl
def wiS (L M : List Zp) : Sq := flatS (fun g => reP g M) L
theorem thE_nil {r : List Zp × Int} {k : List Zp → List Zp × Int} (hk : ∀ x, (k x).2 ≠ 0 → (k x).1 = []) (h : (thE r k).2 ≠ 0) : (thE r k).1 = [] := by
 unfold thE at h ⊢
 split
 · rename_i q; rw [if_pos q] at h; exact hk _ h
 · rfl
theorem reS_nil (g : Zp) (d : List Zp) : ∀ (M l : List Zp), (reS g d M l).2 ≠ 0 → (reS g d M l).1 = []
 | [], _l, h => absurd rfl h
 | _b :: r, _l, h => thE_nil (fun _a h => thE_nil (fun m h => reS_nil g d r m h) h) h
theorem reP_nil {g : Zp} {M : List Zp} (h : (reP g M).2 ≠ 0) : (reP g M).1 = [] := thE_nil (fun d h => reS_nil g d M d h) h
structure Rst (B : Nat) (A : World) (ao : Option Addr) (K : List ZV) (j : Nat) (O : Nat → Prop) : Prop where
 hd : ∀ t, ∀ h : t < K.length, ∃ p, ao = some p ∧ HdAt A p t K[t]
 el : ∀ t, ∀ h : t < K.length, j ≤ t → ZAt B A K[t] ∧ ∀ p, K[t].a = some p → O p.block
 row : ∀ p, ao = some p → O p.block
 far : ∀ t, ∀ h : t < K.length, ∀ p q, ao = some p → K[t].a = some q → q.block ≠ p.block
theorem Rst.on {B : Nat} {A A' : World} {ao : Option Addr} {K : List ZV} {j : Nat} {O : Nat → Prop} (h : Rst B A ao K j O) (hb : Below A.heap.size A A') : Rst B A' ao K j O :=
 ⟨fun t ht => by obtain ⟨p, e, c, d⟩ := h.hd t ht; exact ⟨p, e, kept hb c, kept hb d⟩, fun t ht hj => ⟨(h.el t ht hj).1.on hb, (h.el t ht hj).2⟩, h.row, h.far⟩
theorem Rst.next {B : Nat} {A A' : World} {ao : Option Addr} {K : List ZV} {j : Nat} {O : Nat → Prop} (h : Rst B A ao K j O) (hj : j < K.length) (sp : Sep 0 K) (k : Kept (fun k => O k ∧ ∀ p, K[j].a = some p → p.block ≠ k) A A') : Rst B A' ao K (j + 1) (fun k => O k ∧ ∀ p, K[j].a = some p → p.block ≠ k) := by
 refine ⟨fun t ht => ?_, fun t ht hjt => ?_, fun p e => ⟨h.row p e, fun q f => h.far j hj p q e f⟩, h.far⟩
 · obtain ⟨p, e, c, d⟩ := h.hd t ht
   have q : O p.block ∧ ∀ q, K[j].a = some q → q.block ≠ p.block := ⟨h.row p e, fun q f => h.far j hj p q e f⟩
   exact ⟨p, e, cell_keptK k c (by rw [add_block]; exact q), cell_keptK k d (by show O (p.add (t * 2)).block ∧ _; rw [add_block]; exact q)⟩
 · have q : ∀ p, K[t].a = some p → O p.block ∧ ∀ q, K[j].a = some q → q.block ≠ p.block := fun p e => ⟨(h.el t ht (by omega)).2 p e, fun q f => by
    have := List.pairwise_iff_getElem.1 sp j t hj ht (by omega)
    exact this q p f e (Nat.zero_le _)⟩
   exact ⟨(h.el t ht (by omega)).1.keptK k q, q⟩
set_option maxRecDepth 100000 in
theorem within_seq (L M : List ZV) (go ho : Option Addr) (gc hc pl pm B : Nat) (w : World) (hB : B ≤ w.heap.size)
  (c1 : w.cell? ⟨pl, 0, none⟩ = some (.slice go L.length gc)) (c2 : w.cell? ⟨pm, 0, none⟩ = some (.slice ho M.length hc)) (hL : RdZ 0 w go L) (hM : RdZ 0 w ho M) (hl : L.length ≤ 1000000) (hm : M.length ≤ 1000000) :
  SeqZ B w 113 #[.pointer (some ⟨pl, 0, none⟩), .pointer (some ⟨pm, 0, none⟩)] (wiS (L.map ZV.p) (M.map ZV.p)).1 (wiS (L.map ZV.p) (M.map ZV.p)).2 := by
 intro W T0 hk hT0 l J Jp hst hlt _ rnd h0
 have LT : Later w W T0 := ⟨hk, hT0⟩
 obtain ⟨n, hn⟩ : ∃ n, n = L.length := ⟨_, rfl⟩
 obtain ⟨k, hkk⟩ : ∃ k, k = M.length := ⟨_, rfl⟩
 have HN := Lib.hid hn
 have HK := Lib.hid hkk
 have hle : n ≤ 1000000 := by omega
 have hke : k ≤ 1000000 := by omega
 rw [← hn] at c1
 rw [← hkk] at c2
 have C1 := Lib.hid (LT.cell c1)
 have C2 := Lib.hid (LT.cell c2)
 have RL := Lib.hid (LT.rdz hL)
 have RM := Lib.hid (LT.rdz hM)
 have HB := Lib.hid (show B ≤ W.heap.size from Nat.le_trans hB hk.size)
 have ST := Lib.hid hst
 have LL := Lib.hid hlt
 have RN := Lib.hid (show Rnd B w.heap.size l W (wiS (L.map ZV.p) (M.map ZV.p)).1 J Jp from rnd)
 have I0 := Lib.hid (ItI.start hlt h0)
 obtain ⟨erx, herx⟩ : ∃ erx, erx = (if (wiS (L.map ZV.p) (M.map ZV.p)).2 = 0 then none else some (pan (wiS (L.map ZV.p) (M.map ZV.p)).2)) := ⟨_, rfl⟩
 rw [← herx]
 have HERX := Lib.hid herx
 clear c1 c2 hL hM rnd hst hlt h0 hl hm hn hkk LT hB hk hT0 herx
 refine callsIn_of_wp Tryz.func113 rfl trivial ?_ rfl
 simp only [Tryz.ntmps113, List.size_toArray, List.length_cons, List.length_nil, Nat.reduceAdd, Nat.reduceSub, Array.replicate_succ, Array.replicate_zero, List.push_toArray, List.append_toArray, List.nil_append, List.cons_append]
 obtain ⟨f1, _⟩ := C1.out
 gi_wp2
 clear f1
 gi_loopw [10] (fun s wr => ∃ i : Nat, s = .int .i64 i ∧ i ≤ n ∧ Hid ((wiS ((L.map ZV.p).take i) (M.map ZV.p)).2 = 0) ∧ Hid (∃ m, ItI W T0 (fun _ => False) J (wiS ((L.map ZV.p).take i) (M.map ZV.p)).1 m wr)) (fun s _ => n - (intOf s).toNat)
 case atStart => exact ⟨0, rfl, by omega, Lib.hid (by simp [wiS, flatS]), Lib.hid ⟨_, by simpa [wiS, flatS] using I0.out⟩⟩
 case round =>
  generalize wr = wo at *
  obtain ⟨i, rfl, hi, HE, HI⟩ := hrel
  by_cases hin : i < n
  · have hlt : i < L.length := by have := HN.out; omega
    have HLT := Lib.hid (show i < (L.map ZV.p).length by simpa using hlt)
    obtain ⟨m, im⟩ := HI.out
    have rz := im.rdz RL.out.1 RL.out.2.1 RL.out.2.2
    obtain ⟨a, ea, h0, h1⟩ := rz.hd i hlt
    obtain ⟨x, hx⟩ : ∃ x, x = L[i] := ⟨_, rfl⟩
    have HM := Lib.hid (show x ∈ L by rw [hx]; exact List.getElem_mem _)
    have XP := Lib.hid (show (L.map ZV.p)[i]'HLT.out = x.p by rw [hx]; simp)
    rw [← hx] at h0 h1
    have ZX := Lib.hid (rz.el x HM.out)
    have RC := Lib.hid (show ∀ V, Below wo.heap.size wo V → Calls Tryz.prog 114 #[.agg #[.int .i64 x.N, .slice x.a x.l.length x.c], .slice ho M.length hc] V (ReRes V (reP x.p (M.map ZV.p))) from fun V h => reaching_any x M ho hc V (ZX.out.on h) ((im.rdz RM.out.1 RM.out.2.1 RM.out.2.2).on h) (by have := HK.out; omega))
    obtain ⟨xl, hxl⟩ : ∃ xl, xl = x.l.length := ⟨_, rfl⟩
    rw [← hxl] at h1 RC
    rw [← HK.out] at RC
    have c2 := im.cell C2.out.1 C2.out.2
    have B1 := Lib.hid (one_more (w1 := wo) (.cells #[.int .i64 x.N, .slice x.a xl x.c] 36))
    have c3 := kept B1.out c2
    obtain ⟨x0, x1, _, _⟩ := (Bx2.made wo (.int .i64 x.N) (.slice x.a xl x.c) 36).facts
    have IM := Lib.hid im
    have SU := Lib.hid (show wiS ((L.map ZV.p).take (i + 1)) (M.map ZV.p) = seqA (wiS ((L.map ZV.p).take i) (M.map ZV.p)) (reP x.p (M.map ZV.p)) by
     have := flatS_succ (fun g => reP g (M.map ZV.p)) HLT.out
     rw [XP.out] at this; exact this)
    obtain ⟨r, hr⟩ : ∃ r, r = reP x.p (M.map ZV.p) := ⟨_, rfl⟩
    have RNL := Lib.hid (show r.2 ≠ 0 → r.1 = [] from fun h => by rw [hr] at h ⊢; exact reP_nil h)
    rw [← hr] at RC SU
    clear hx hxl rz hlt im c2 HI hr
    subst ea
    gi_wp2_with fail
    refine ⟨trivial, (callsIn_wide.2 (RC.out _ B1.out)).mono ?_⟩
    rintro e w2 ⟨hb, (⟨h2, ao, cap, K, rfl, ow, sp, kp, kle⟩ | ⟨h2, rfl⟩)⟩
    rotate_left
    · have S1 := Lib.hid (show wiS (L.map ZV.p) (M.map ZV.p) = ((wiS ((L.map ZV.p).take i) (M.map ZV.p)).1, r.2) by
       have e1 : wiS ((L.map ZV.p).take (i + 1)) (M.map ZV.p) = ((wiS ((L.map ZV.p).take i) (M.map ZV.p)).1, r.2) := by
        rw [SU.out, seqA_of HE.out, RNL.out h2, List.append_nil]
       have e2 : (wiS ((L.map ZV.p).take (i + 1)) (M.map ZV.p)).2 ≠ 0 := by rw [e1]; exact h2
       rw [← e1]
       exact flatS_err _ e2)
      obtain ⟨T, j1, _⟩ := IM.out.below ST.out (below_on B1.out hb)
      have J2 : J (wiS (L.map ZV.p) (M.map ZV.p)).1 T w2 := by rw [S1.out]; exact j1
      have E2 : erx = some (pan r.2) := by rw [HERX.out, S1.out]; exact erOf h2
      exact ⟨by first | rfl | trivial, Or.inr ⟨_, by first | rfl | trivial, Or.inr ⟨E2, T, J2⟩⟩⟩
    have SU := Lib.hid (show wiS ((L.map ZV.p).take (i + 1)) (M.map ZV.p) = ((wiS ((L.map ZV.p).take i) (M.map ZV.p)).1 ++ K.map ZV.p, 0) by
     rw [SU.out, seqA_of HE.out, kp, h2])
    have PRE := Lib.hid (show ((wiS ((L.map ZV.p).take i) (M.map ZV.p)).1 ++ K.map ZV.p) <+: (wiS (L.map ZV.p) (M.map ZV.p)).1 by
     have := flatS_pre (fun g => reP g (M.map ZV.p)) (L.map ZV.p) (i + 1)
     have e : (wiS ((L.map ZV.p).take (i + 1)) (M.map ZV.p)).1 = (wiS ((L.map ZV.p).take i) (M.map ZV.p)).1 ++ K.map ZV.p := by rw [SU.out]
     rw [← e]; exact this)
    have SP := Lib.hid sp
    obtain ⟨kn, hkn⟩ : ∃ kn, kn = K.length := ⟨_, rfl⟩
    have HKN := Lib.hid hkn
    have knle : kn ≤ 1000000 := by omega
    have I2 := Lib.hid (show ∃ m O, ItI W T0 O J ((wiS ((L.map ZV.p).take i) (M.map ZV.p)).1 ++ (K.map ZV.p).take 0) m w2 ∧ (∀ k, O k → W.heap.size ≤ k) ∧ Rst B w2 ao K 0 O from by
     have sz := IM.out.size
     have s1 := B1.out.size
     have im2 := IM.out.below ST.out B1.out
     refine ⟨m, fun k => (∃ p, ao = some p ∧ p.block = k) ∨ ∃ z ∈ K, ∃ p, z.a = some p ∧ p.block = k, ?_, ?_, fun t ht => ?_, fun t ht _ => ⟨?_, fun p e => Or.inr ⟨_, List.getElem_mem _, p, e, rfl⟩⟩, fun p e => Or.inl ⟨p, e, rfl⟩, fun t ht p q e f g => ?_⟩
     · rw [List.take_zero, List.append_nil]
       refine im2.own ST.out hb fun k hk => ?_
       rcases hk with ⟨p, e, rfl⟩ | ⟨z, hz, p, e, rfl⟩
       · have := ow.lt p.block (by rw [e]; rfl)
         exact ⟨Or.inr (by omega), this.2⟩
       · have := (ow.el z hz).2 p e
         exact ⟨Or.inr (by omega), this.2⟩
     · intro k hk
       rcases hk with ⟨p, e, rfl⟩ | ⟨z, hz, p, e, rfl⟩
       · have := ow.lt p.block (by rw [e]; rfl)
         omega
       · have := (ow.el z hz).2 p e
         omega
     · exact ow.rd.1.hd t ht
     · exact (ow.el _ (List.getElem_mem _)).low (by have := HB.out; omega)
     · have := ow.far _ (List.getElem_mem ht) q f
       rw [e] at this
       exact this (by show some p.block = _; rw [g]))
    rw [← hkn]
    clear hb h2 ow sp kp kle hkn x0 x1 c3 h0 h1 RC IM
    gi_wp2_with fail
    gi_loopw [18] (fun s wr => ∃ j : Nat, s = .int .i64 j ∧ j ≤ kn ∧ Hid (∃ m O, ItI W T0 O J ((wiS ((L.map ZV.p).take i) (M.map ZV.p)).1 ++ (K.map ZV.p).take j) m wr ∧ (∀ k, O k → W.heap.size ≤ k) ∧ Rst B wr ao K j O)) (fun s _ => kn - (intOf s).toNat)
    case atStart => exact ⟨0, rfl, by omega, I2⟩
    case round =>
     generalize wr = wv at *
     obtain ⟨j, rfl, hj, HI2⟩ := hrel
     by_cases hjk : j < kn
     · have hlt : j < K.length := by have := HKN.out; omega
       obtain ⟨m2, O, im, hO, rs⟩ := HI2.out
       obtain ⟨b, eb, h0, h1⟩ := rs.hd j hlt
       obtain ⟨y, hy⟩ : ∃ y, y = K[j] := ⟨_, rfl⟩
       rw [← hy] at h0 h1
       obtain ⟨yl, hyl⟩ : ∃ yl, yl = y.l.length := ⟨_, rfl⟩
       have HYL := Lib.hid hyl
       rw [← hyl] at h1
       have B2 := Lib.hid (one_more (w1 := wv) (.cells #[.int .i64 y.N, .slice y.a yl y.c] 36))
       obtain ⟨z0, z1, _, _⟩ := (Bx2.made wv (.int .i64 y.N) (.slice y.a yl y.c) 36).facts
       have IK := im.below ST.out B2.out
       have RK := rs.on B2.out
       have ej : (K.map ZV.p).take (j + 1) = (K.map ZV.p).take j ++ [y.p] := by rw [List.take_succ_eq_append_getElem (by simpa using hlt)]; simp [hy]
       have ey := RK.el j hlt (Nat.le_refl _)
       rw [← hy] at ey
       have YD := yield_own RN.out LL.out IK (z := y) rfl (by
        rw [List.append_assoc, ← ej]
        exact List.IsPrefix.trans ((List.prefix_append_right_inj _).2 (List.take_prefix _ _)) PRE.out) ey.1 (fun p e => ⟨ey.2 p e, hO _ (ey.2 p e)⟩)
       have NX := Lib.hid (show ∀ V, Kept (fun k => O k ∧ ∀ p, y.a = some p → p.block ≠ k) (wv.alloc (.cells #[.int .i64 y.N, .slice y.a yl y.c] 36)) V → Rst B V ao K (j + 1) (fun k => O k ∧ ∀ p, y.a = some p → p.block ≠ k) from fun V k => by
        have q := RK.next (A' := V) hlt SP.out
        rw [← hy] at q
        exact q k)
       obtain ⟨fn, tmps, assign, body, hyd, hR⟩ := YD
       have HR := Lib.hid hR
       have HO := Lib.hid hO
       have EJ := Lib.hid ej
       unfold ZV.val at hyd
       rw [← HYL.out] at hyd
       clear hR hy hyl hlt im hO rs HI2 IK RK ej ey
       subst eb
       gi_wp2_with fail
       refine HR.out.mono ?_
       rintro e w9 (⟨rfl, i4, k4⟩ | ⟨chain, rfl, hp⟩)
       · have I4 := Lib.hid i4
         have R4 := Lib.hid (NX.out _ k4)
         clear i4 k4 z0 z1 h0 h1
         gi_wp2_with fail
         go_roundw
         case rel => exact ⟨j + 1, by go_num, by omega, Lib.hid ⟨_, _, by rw [EJ.out, ← List.append_assoc]; exact I4.out, fun k q => HO.out k q.1, R4.out⟩⟩
         case measure => simp [intOf]; omega
       · exact ⟨by first | rfl | trivial, Or.inr ⟨chain, by first | rfl | trivial, Or.inl hp⟩⟩
     · have e : (K.map ZV.p).take j = K.map ZV.p := List.take_of_length_le (by have := HKN.out; simp; omega)
       rw [e] at HI2
       have I4 := Lib.hid (show ∃ m, ItI W T0 (fun _ => False) J (wiS ((L.map ZV.p).take (i + 1)) (M.map ZV.p)).1 m wv from by
        obtain ⟨m, O, ⟨T, j1, j2, j3, j4, j5⟩, _⟩ := HI2.out
        rw [SU.out]
        exact ⟨m, T, j1, fun k q => ⟨(j2 k q).1, id, (j2 k q).2.2⟩, fun k q => q.elim, j4, j5⟩)
       clear e
       gi_wp2_with fail
       go_roundw
       case rel => exact ⟨i + 1, by go_num, by omega, Lib.hid (by rw [SU.out]), I4⟩
       case measure => simp [intOf]; omega
  · have e : (L.map ZV.p).take i = L.map ZV.p := List.take_of_length_le (by have := HN.out; simp; omega)
    rw [e] at HE HI
    obtain ⟨m, T, j1, _⟩ := HI.out
    have JJ := Lib.hid j1
    clear j1 e
    gi_wp2_with fail
    have E2 : erx = none := by rw [HERX.out, if_pos HE.out]
    go_end0
    exact Or.inl ⟨rfl, E2, T, JJ.out⟩
def wtR (a b : List Zp) : List Zp × Int := ((wiS a b).1, ansE [a, b] (colE (wiS a b).1 (wiS a b).2))
set_option maxRecDepth 20000 in
theorem withinf_any (go ho : Option Addr) (n gc k hc : Nat) (w : World) : Calls Tryz.prog 68 #[.slice go n gc, .slice ho k hc] w (fun e w' => e = .returned (.func (.func 113) #[] #[.pointer (some ⟨w.heap.size, 0, none⟩), .pointer (some ⟨w.heap.size + 1, 0, none⟩)])
  ∧ w' = (w.alloc (.cells #[.slice go n gc] 22)).alloc (.cells #[.slice ho k hc] 22)) := by
 go_enter Tryz.func68, Tryz.ntmps68
 go_wp2_with fail
 go_ret
 exact ⟨by first | rfl | simp, by first | rfl | simp⟩
set_option maxRecDepth 100000 in
theorem fwithin1_any (L M : List ZV) (go ho : Option Addr) (gc hc pa pb : Nat) (W : World) (c0 : W.cell? ⟨pa, 0, none⟩ = some (.slice go L.length gc)) (c1 : W.cell? ⟨pb, 0, none⟩ = some (.slice ho M.length hc)) (hL : RdZ 0 W go L) (hM : RdZ 0 W ho M) (hl : L.length ≤ 3000) (hm : M.length ≤ 3000)
  (_ : chkG ([L, M].map (List.map ZV.p)) = 0) :
  Calls Tryz.prog 67 #[.pointer (some ⟨pa, 0, none⟩), .pointer (some ⟨pb, 0, none⟩)] W (fun e W' => (colE (wiS (L.map ZV.p) (M.map ZV.p)).1 (wiS (L.map ZV.p) (M.map ZV.p)).2 = 0 ∧ ∃ v, e = .returned v ∧ NewL (wiS (L.map ZV.p) (M.map ZV.p)).1 W v W' ∧ Below W.heap.size W W') ∨ (colE (wiS (L.map ZV.p) (M.map ZV.p)).1 (wiS (L.map ZV.p) (M.map ZV.p)).2 ≠ 0 ∧ e = .panicked (pan (colE (wiS (L.map ZV.p) (M.map ZV.p)).1 (wiS (L.map ZV.p) (M.map ZV.p)).2)) ∧ Below W.heap.size W W')) := by
 obtain ⟨n, hn⟩ : ∃ n, n = L.length := ⟨_, rfl⟩
 obtain ⟨k, hk⟩ : ∃ k, k = M.length := ⟨_, rfl⟩
 obtain ⟨w1, hw1⟩ : ∃ w1, w1 = (W.alloc (.cells #[.slice go n gc] 22)).alloc (.cells #[.slice ho k hc] 22) := ⟨_, rfl⟩
 have B1 := Lib.hid (show Below W.heap.size W w1 by rw [hw1]; exact past_two (Below.refl _ _))
 have X0 := Lib.hid (show Bx1 w1 W.heap.size (.slice go n gc) 22 by rw [hw1]; exact (Bx1.made W _ _).kept (one_more _))
 have X1 := Lib.hid (show Bx1 w1 (W.heap.size + 1) (.slice ho k hc) 22 by rw [hw1]; have := Bx1.made (W.alloc (.cells #[.slice go n gc] 22)) (.slice ho k hc) 22; simpa using this)
 have SQ := Lib.hid (within_seq L M go ho gc hc W.heap.size (W.heap.size + 1) W.heap.size w1 B1.out.size (by rw [← hn]; exact X0.out.cell) (by rw [← hk]; exact X1.out.cell) (hL.on B1.out) (hM.on B1.out) (by omega) (by omega))
 have CO := Lib.hid (fcollect_any 113 _ W.heap.size _ _ w1 within_enters SQ.out)
 have EA := Lib.hid (withinf_any go ho n gc k hc W)
 rw [← hn] at c0
 rw [← hk] at c1
 clear hn hk hL hM hl hm SQ
 go_enter Tryz.func67, Tryz.ntmps67
 go_wp2_with fail
 refine EA.out.mono ?_
 rintro e w2 ⟨rfl, hw2⟩
 rw [hw2, ← hw1]
 clear hw2 w2 EA hw1
 go_wp2_with fail
 refine CO.out.mono ?_
 intro e w2 h
 have h := h.before B1.out
 obtain ⟨hb, hr⟩ := h
 rcases hr with ⟨h1, v, Z, rfl, h3, h4⟩ | ⟨h1, rfl⟩
 · have HB := Lib.hid hb
   have H1 := Lib.hid h1
   have H3 := Lib.hid h3
   have H4 := Lib.hid h4
   clear hb h1 h3 h4 CO
   go_wp2_with fail
   go_ret
   obtain ⟨ao, cap, rfl, r, q, u⟩ := H4.out.read3
   exact Or.inl ⟨H1.out, _, rfl, ⟨ao, cap, Z, rfl, H3.out, r, fun p e _ => (q p e).1, u⟩, HB.out⟩
 · exact And.intro rfl (Or.inr ⟨h1, rfl, hb⟩)
set_option maxRecDepth 100000 in
theorem fwithin_out (L M : List ZV) (go ho : Option Addr) (gc hc : Nat) (w : World) (hL : RdZ 0 w go L) (hM : RdZ 0 w ho M) (h1 : go = none → gc = 0) (h2 : ho = none → hc = 0) (hl : L.length ≤ 3000) (hm : M.length ≤ 3000) :
  Calls Tryz.prog 27 #[.slice go L.length gc, .slice ho M.length hc] w (FLRes (wtR (L.map ZV.p) (M.map ZV.p)) w) := by
 obtain ⟨w3, hw3⟩ : ∃ w3, w3 = ((w.alloc (.cells #[.slice go L.length gc] 22)).alloc (.cells #[.slice ho M.length hc] 22)).alloc (.cells #[.slice go L.length gc, .slice ho M.length hc] 22) := ⟨_, rfl⟩
 obtain ⟨t1, t2, t3, t4⟩ := two_lists hL hM h1 h2 hw3
 have B3 := Lib.hid t1
 have LX := Lib.hid (show ansE [L.map ZV.p, M.map ZV.p] (colE (wiS (L.map ZV.p) (M.map ZV.p)).1 (wiS (L.map ZV.p) (M.map ZV.p)).2) = 0 → ((wiS (L.map ZV.p) (M.map ZV.p)).1).length ≤ 1000000 from fun h => by have := colE_len (ansE_zero h).2; omega)
 have AN := Lib.hid (answerL_any 67 #[.pointer (some ⟨w.heap.size, 0, none⟩), .pointer (some ⟨w.heap.size + 1, 0, none⟩)] [L, M] (some ⟨w.heap.size + 2, 0, none⟩) 2 (colE (wiS (L.map ZV.p) (M.map ZV.p)).1 (wiS (L.map ZV.p) (M.map ZV.p)).2) w3 t4 (by simp) (by intro X hX; simp at hX; rcases hX with rfl | rfl <;> assumption) (fclosure _ Tryz.func67 (by kernel_rfl) rfl) (NewL (wiS (L.map ZV.p) (M.map ZV.p)).1) (newL_put) (fun hc0 W hW => fwithin1_any L M go ho gc hc w.heap.size (w.heap.size + 1) W (t2.kept hW).cell (t3.kept hW).cell ((hL.on t1).on hW) ((hM.on t1).on hW) hl hm hc0))
 simp only [List.map_cons, List.map_nil, List.length_cons, List.length_nil, Nat.zero_add, Nat.reduceAdd] at AN
 generalize hLl : L.length = n at *
 generalize hMl : M.length = k at *
 clear hL hM h1 h2 t1 t2 t3 t4 hl hm hLl hMl
 go_enter Tryz.func27, Tryz.ntmps27
 go_wp2_with fail
 rw [← hw3]
 refine AN.out.mono ?_
 intro e w4 h
 have h := h.fl B3.out LX.out
 obtain ⟨hb, ao, cap, Z, rfl, g1, g2, g3, g4⟩ := h
 have H := Lib.hid (show FLRes (wtR (L.map ZV.p) (M.map ZV.p)) w (.returned (.tuple #[.slice ao Z.length cap, .int .i64 (wtR (L.map ZV.p) (M.map ZV.p)).2])) w4 from ⟨hb, ao, cap, Z, rfl, g1, g2, g3, g4⟩)
 generalize Z.length = zn at *
 clear hb g1 g2 g3 g4 AN
 go_wp2_with fail
 go_ret2
 exact H.out
def paL (a b : Int) (o : Bool) : List Int := [1, if o then -2 * a else -2 * a + 1, 2 * b + 1, 1]
def paZ (a b : Int) (o : Bool) : Zp := (1, Zo.clo 1 (paL a b o))
theorem rd_lit4 {w : World} {b : Nat} (l : List Int) (h : w.heap[b]? = some (.cells (l.map (Value.int .i64)).toArray 37 (0, 0))) : Rd w ⟨b, 0, none⟩ l := by
 intro j hj
 rw [addr_add, cell_of_row w b j _ _ _ h]
 simp [Zo.gt, hj]
set_option maxRecDepth 100000 in
theorem part_any (a b : Int) (o : Bool) (w : World) (ha : 0 ≤ a ∧ a ≤ 100) (hb : 0 ≤ b ∧ b ≤ 100) (hc : closeE 1 (paL a b o) = 0) :
  Calls Tryz.prog 36 #[.int .i64 a, .int .i64 b, .bool o] w (fun e w' => Below w.heap.size w w' ∧ ∃ z : ZV, e = .returned z.val ∧ ZAt w.heap.size w' z ∧ z.p = paZ a b o) := by
 obtain ⟨a0, a1⟩ := ha
 obtain ⟨b0, b1⟩ := hb
 obtain ⟨w1, hw1⟩ : ∃ w1, w1 = w.alloc (.cells #[.int .i64 0, .slice none 0 0] 36) := ⟨_, rfl⟩
 have B1 := Lib.hid (show Below w.heap.size w w1 by rw [hw1]; exact one_more _)
 have X1 := Lib.hid (show Bx2 w1 w.heap.size (.int .i64 0) (.slice none 0 0) 36 by rw [hw1]; exact Bx2.made w _ _ _)
 have Q1 : w1.heap.size = w.heap.size + 1 := by rw [hw1]; simp
 have CL := Lib.hid (show ∀ lo hi, [1, lo, hi, 1] = paL a b o → Calls Tryz.prog 81 #[.int .i64 1, .slice (some ⟨w1.heap.size, 0, none⟩) 4 4] (w1.alloc (.cells #[.int .i64 1, .int .i64 lo, .int .i64 hi, .int .i64 1] 37)) (fun e w' => Below w.heap.size w w' ∧ ∃ z : ZV, e = .returned (.tuple #[z.val, .int .i64 0]) ∧ ZAt (w.heap.size + 1) w' z ∧ z.p = paZ a b o ∧ Below w1.heap.size w1 w') from by
  intro lo hi e
  have b2 : Below w1.heap.size w1 (w1.alloc (.cells #[.int .i64 1, .int .i64 lo, .int .i64 hi, .int .i64 1] 37)) := one_more _
  have := close_gen 1 [1, lo, hi, 1] (some ⟨w1.heap.size, 0, none⟩) 4 (w1.alloc (.cells #[.int .i64 1, .int .i64 lo, .int .i64 hi, .int .i64 1] 37)) (fun _ => ⟨_, rfl, rd_lit4 [1, lo, hi, 1] (heap_alloc_last w1 _)⟩)
  refine this.mono ?_
  intro e' w' h
  rw [e, hc] at h
  obtain ⟨h1, z, h2, h3, h4⟩ := h.zv
  have s1 := B1.out.size
  have s2 := b2.size
  exact ⟨below_on (below_on B1.out b2) h1, z, h2, h3.low (by omega), h4 rfl, below_on b2 h1⟩)
 rw [Q1] at CL
 clear hc
 cases o
 · have C2 := Lib.hid (CL.out (-2 * a + 1) (2 * b + 1) rfl)
   clear CL
   go_enter Tryz.func36, Tryz.ntmps36
   go_wp2_with fail
   rw [← hw1]
   clear hw1
   refine C2.out.mono ?_
   rintro e w2 ⟨hb, z, rfl, hz, hp, hb2⟩
   have HP := Lib.hid hp
   unfold ZV.val
   obtain ⟨zl, hzl⟩ : ∃ zl, zl = z.l.length := ⟨_, rfl⟩
   rw [← hzl]
   have HZL := Lib.hid hzl
   obtain ⟨w3, hw3⟩ : ∃ w3, w3 = w2.alloc (.cells #[.int .i64 z.N, .slice z.a zl z.c] 36) := ⟨_, rfl⟩
   have hb3 : Below w2.heap.size w2 w3 := by rw [hw3]; exact one_more _
   have X3 := Lib.hid (show Bx2 w3 w2.heap.size (.int .i64 z.N) (.slice z.a zl z.c) 36 by rw [hw3]; exact Bx2.made w2 _ _ _)
   have X1 := Lib.hid ((X1.out.kept (by rw [Q1]; exact hb2)).kept hb3)
   have B3 := Lib.hid (below_on hb hb3)
   have ZF := Lib.hid (show ∀ p, z.a = some p → w.heap.size + 1 ≤ p.block from fun p e => (hz.2 p e).1)
   have HZ := Lib.hid ((hz.on hb3).low (Nat.le_succ _))
   obtain ⟨x0, x1, x2, x3⟩ := X1.out.facts
   obtain ⟨y0, y1, _, _⟩ := X3.out.facts
   clear hb hz hp hb2 hb3 hzl C2 Q1
   go_upto_region 5 with (fail)
   rw [← hw3]
   clear hw3
   go_wp2_with fail
   obtain ⟨r0, r1, _, _⟩ := (X1.out.put (.int .i64 z.N) (.slice z.a zl z.c)).facts
   refine bodyPost_ret (v := .agg #[.int .i64 z.N, .slice z.a zl z.c]) (by simp [results, Tryz.results36, go_sem, r0, r1]) rfl ?_
   exact ⟨below_put2 B3.out (Nat.le_refl _) _ _, z, by rw [HZL.out]; rfl, HZ.out.grown (r := some w.heap.size) (grown_put2 w3 w.heap.size (.int .i64 z.N) (.slice z.a zl z.c)) (fun p e q => by injection q with q; have := ZF.out p e; omega), HP.out⟩
 · have C2 := Lib.hid (CL.out (-2 * a) (2 * b + 1) rfl)
   clear CL
   go_enter Tryz.func36, Tryz.ntmps36
   go_wp2_with fail
   rw [← hw1]
   clear hw1
   refine C2.out.mono ?_
   rintro e w2 ⟨hb, z, rfl, hz, hp, hb2⟩
   have HP := Lib.hid hp
   unfold ZV.val
   obtain ⟨zl, hzl⟩ : ∃ zl, zl = z.l.length := ⟨_, rfl⟩
   rw [← hzl]
   have HZL := Lib.hid hzl
   obtain ⟨w3, hw3⟩ : ∃ w3, w3 = w2.alloc (.cells #[.int .i64 z.N, .slice z.a zl z.c] 36) := ⟨_, rfl⟩
   have hb3 : Below w2.heap.size w2 w3 := by rw [hw3]; exact one_more _
   have X3 := Lib.hid (show Bx2 w3 w2.heap.size (.int .i64 z.N) (.slice z.a zl z.c) 36 by rw [hw3]; exact Bx2.made w2 _ _ _)
   have X1 := Lib.hid ((X1.out.kept (by rw [Q1]; exact hb2)).kept hb3)
   have B3 := Lib.hid (below_on hb hb3)
   have ZF := Lib.hid (show ∀ p, z.a = some p → w.heap.size + 1 ≤ p.block from fun p e => (hz.2 p e).1)
   have HZ := Lib.hid ((hz.on hb3).low (Nat.le_succ _))
   obtain ⟨x0, x1, x2, x3⟩ := X1.out.facts
   obtain ⟨y0, y1, _, _⟩ := X3.out.facts
   clear hb hz hp hb2 hb3 hzl C2 Q1
   go_upto_region 5 with (fail)
   rw [← hw3]
   clear hw3
   go_wp2_with fail
   obtain ⟨r0, r1, _, _⟩ := (X1.out.put (.int .i64 z.N) (.slice z.a zl z.c)).facts
   refine bodyPost_ret (v := .agg #[.int .i64 z.N, .slice z.a zl z.c]) (by simp [results, Tryz.results36, go_sem, r0, r1]) rfl ?_
   exact ⟨below_put2 B3.out (Nat.le_refl _) _ _, z, by rw [HZL.out]; rfl, HZ.out.grown (r := some w.heap.size) (grown_put2 w3 w.heap.size (.int .i64 z.N) (.slice z.a zl z.c)) (fun p e q => by injection q with q; have := ZF.out p e; omega), HP.out⟩
def Fine (L : List ZV) : Prop := L.length ≤ 3000 ∧ ∀ z ∈ L, z.l.length ≤ 200
def BeRes (G : List (List ZV)) (w : World) (e : Ending) (w' : World) : Prop := Below w.heap.size w w' ∧ ∃ bb : Bool, e = .returned (.bool bb) ∧ (bb = false → ∀ L ∈ G, Fine L)
end Go.Proofs.YthjapmdfcbngmaaGreat
