/- A part. -/
import Derived.Test.YthjapmdfcbngmaaGreatWr11
import Derived.Test.YthjapmdfcbngmaaGreatWr26
import Derived.Laws.OwnMore
import Derived.Lib.AppendZeros
import Derived.Laws.EntriesVeiled
namespace Go.Proofs.YthjapmdfcbngmaaGreat
set_option maxHeartbeats 8000000
open Go.RowKit
theorem ColRes.before {B : Nat} {w w1 w' : World} {xs : List Zp} {er : Int} {e : Ending} (h : ColRes B w1 xs er e w') (hb : Below w.heap.size w w1) : ColRes B w xs er e w' := by
 refine ⟨below_on hb h.1, ?_⟩
 rcases h.2 with ⟨h1, v, L, h2, h3, h4⟩ | h
 · exact Or.inl ⟨h1, v, L, h2, h3, h4.low hb.size (Nat.le_refl _)⟩
 · exact Or.inr h
set_option maxRecDepth 20000 in
theorem eachf_any (go : Option Addr) (n gc : Nat) (chf : FuncId) (w : World) : Calls Tryz.prog 61 #[.slice go n gc, .func (.func chf) #[] #[]] w (fun e w' => e = .returned (.func (.func 106) #[] #[.pointer (some ⟨w.heap.size, 0, none⟩), .pointer (some ⟨w.heap.size + 1, 0, none⟩)])
  ∧ w' = (w.alloc (.cells #[.slice go n gc] 22)).alloc (.cells #[.func (.func chf) #[] #[]] 77)) := by
 go_enter Tryz.func61, Tryz.ntmps61
 go_wp2_with fail
 go_ret
 exact ⟨by first | rfl | simp, by first | rfl | simp⟩
set_option maxRecDepth 20000 in
theorem withoutf_any (go : Option Addr) (n gc : Nat) (b : ZV) (w : World) : Calls Tryz.prog 96 #[.slice go n gc, b.val] w (fun e w' => e = .returned (.func (.func 133) #[] #[.pointer (some ⟨w.heap.size + 1, 0, none⟩), .pointer (some ⟨w.heap.size, 0, none⟩)])
  ∧ w' = (w.alloc (.cells #[.slice go n gc] 22)).alloc (.cells #[.int .i64 b.N, .slice b.a b.l.length b.c] 36)) := by
 unfold ZV.val
 generalize b.l.length = bl
 go_enter Tryz.func96, Tryz.ntmps96
 go_wp2_with fail
 go_ret
 exact ⟨by first | rfl | simp, by first | rfl | simp⟩
set_option maxRecDepth 20000 in
theorem one_any (z : ZV) (w : World) : Calls Tryz.prog 142 #[z.val] w (fun e w' => e = .returned (.slice (some ⟨w.heap.size + 1, 0, none⟩) 1 1)
  ∧ w' = (w.alloc (.cells #[.int .i64 z.N, .slice z.a z.l.length z.c] 36)).alloc (.cells #[.int .i64 z.N, .slice z.a z.l.length z.c] 36)) := by
 unfold ZV.val
 generalize z.l.length = zl
 go_enter Tryz.func142, Tryz.ntmps142
 go_wp2_with fail
 go_ret
 exact ⟨by first | rfl | simp, by first | rfl | simp⟩
theorem one_own {B : Nat} (z : ZV) (w : World) (hz : ZAt B w z) : Calls Tryz.prog 142 #[z.val] w (fun e w' => ∃ g, e = .returned (.slice (some ⟨g, 0, none⟩) 1 1) ∧ OwnZ w.heap.size B w' (.slice (some ⟨g, 0, none⟩) 1 1) [z] ∧ Below w.heap.size w w') := by
 refine (one_any z w).mono ?_
 rintro e w' ⟨rfl, rfl⟩
 have hb : Below w.heap.size w ((w.alloc (.cells #[.int .i64 z.N, .slice z.a z.l.length z.c] 36)).alloc (.cells #[.int .i64 z.N, .slice z.a z.l.length z.c] 36)) := past_two (Below.refl _ _)
 refine ⟨_, rfl, ⟨?_, fun y hy => ?_, fun y hy p e q => ?_⟩, hb⟩
 · have := World.ownsRow_lit (base := w.heap.size) (e := 36) (size := 2) (w.alloc (.cells #[.int .i64 z.N, .slice z.a z.l.length z.c] 36)) #[.int .i64 z.N, .slice z.a z.l.length z.c] 1 (by simp) (by unfold maxLen; omega) (by simp)
   simpa [zV, ZV.cs] using this
 · rw [List.mem_singleton] at hy; subst hy; exact hz.on hb
 · rw [List.mem_singleton] at hy; subst hy
   have := (hz.2 p e).2
   simp [Value.ownBlock] at q
   omega
set_option maxRecDepth 100000 in
theorem fmeet_any (L M : List ZV) (go ho : Option Addr) (gc hc B : Nat) (w : World) (hB : B ≤ w.heap.size) (hL : RdZ 0 w go L) (hM : RdZ 0 w ho M) (hl : L.length ≤ 1000000) (hm : M.length ≤ 1000000) :
  Calls Tryz.prog 42 #[.slice go L.length gc, .slice ho M.length hc] w (ColRes B w (mtS (L.map ZV.p) (M.map ZV.p)).1 (colE (mtS (L.map ZV.p) (M.map ZV.p)).1 (mtS (L.map ZV.p) (M.map ZV.p)).2)) := by
 obtain ⟨n, hn⟩ : ∃ n, n = L.length := ⟨_, rfl⟩
 obtain ⟨k, hk⟩ : ∃ k, k = M.length := ⟨_, rfl⟩
 obtain ⟨w1, hw1⟩ : ∃ w1, w1 = (w.alloc (.cells #[.slice go n gc] 22)).alloc (.cells #[.slice ho k hc] 22) := ⟨_, rfl⟩
 have B1 := Lib.hid (show Below w.heap.size w w1 by rw [hw1]; exact past_two (Below.refl _ _))
 have X0 := Lib.hid (show Bx1 w1 w.heap.size (.slice go n gc) 22 by rw [hw1]; exact (Bx1.made w _ _).kept (one_more _))
 have X1 := Lib.hid (show Bx1 w1 (w.heap.size + 1) (.slice ho k hc) 22 by rw [hw1]; have := Bx1.made (w.alloc (.cells #[.slice go n gc] 22)) (.slice ho k hc) 22; simpa using this)
 have SQ := Lib.hid (meet_seq L M go ho gc hc w.heap.size (w.heap.size + 1) B w1 (Nat.le_trans hB B1.out.size) (by rw [← hn]; exact X0.out.cell) (by rw [← hk]; exact X1.out.cell) (hL.on B1.out) (hM.on B1.out) hl hm)
 have CO := Lib.hid (fcollect_any 89 _ B _ _ w1 meet_enters SQ.out)
 rw [← hn, ← hk]
 clear hn hk hL hM hl hm hB
 go_enter Tryz.func42, Tryz.ntmps42
 go_wp2_with fail
 rw [← hw1]
 refine CO.out.mono ?_
 intro e w2 h
 have h := h.before B1.out
 rcases h.2 with ⟨h1, v, Z, rfl, h3, h4⟩ | ⟨h1, rfl⟩
 · have H := Lib.hid h
   clear h h1 h3 h4
   go_wp2_with fail
   go_ret
   exact H.out
 · exact And.intro rfl h
set_option maxRecDepth 100000 in
theorem lclone_any (l : List Int) (a : Addr) (cap : Nat) (w : World) (h0 : 0 < l.length) (h1 : l.length ≤ 1000) (hR : Rd w a l) :
  Calls Tryz.prog 98 #[.slice (some a) l.length cap] w
   (fun e w' => ∃ g c, e = .returned (.slice (some ⟨g, 0, none⟩) l.length c) ∧ w.heap.size ≤ g ∧ Own w' g c l ∧ Below w.heap.size w w') := by
 obtain ⟨i0, hi, hz0, hz1, hz2⟩ := info_parts Tryz.info37
 have q := run_nil_cmp
 have A := Lib.hid (show ∀ (w' : World), Below w.heap.size w w' → ∀ j u, (l.map (Value.int .i64))[j]? = some u → w'.cell? (a.add j) = some u from fun w' h => (hR.on h).map)
 have l1 : (l.map (Value.int .i64)).length = l.length * 1 := by simp
 have o1 : ∀ u ∈ l.map (Value.int .i64), u.oneCell' = true := by simp [Value.oneCell']
 generalize hxs : l.map (Value.int .i64) = xs at *
 have HXS := Lib.hid hxs
 clear hxs hR
 generalize hlen : l.length = len at *
 have HLEN := Lib.hid hlen
 clear hlen
 go_enter Tryz.func98, Tryz.ntmps98
 go_wp2_with (at_builtin; refine wpList_append_own _ rfl _ _ 34 rfl w.heap.size 37 i0 (.int .i64 0) 1 8 Tryz.underlying34 hi hz0 hz1 hz2 rfl (by decide) _ _ _ rfl (World.ownsRow_made w #[] 0 (Nat.le_refl _) (Nat.zero_le _) (by simp)) a len cap xs rfl ?qc1 ?qc2 ?qc3 ?qc4 ?qc5 ?qc6 ?_)
 case qc1 => exact l1
 case qc2 =>
  intro j u hj
  exact A.out _ (one_more (.cells #[] 37)) j u hj
 case qc3 => exact o1
 case qc4 => unfold maxLen; omega
 case qc5 => omega
 case qc6 => simp
 intro v' w1 hown hgrow hnil
 have hown' : w1.ownsRow w.heap.size 37 1 v' len xs := by simpa using hown
 obtain ⟨g, c, rfl⟩ := Joins.ownsRow_form hown' (by omega)
 go_wp2
 go_ret
 obtain ⟨ho, hg⟩ := own_of hown' HXS.out.symm HLEN.out.symm
 exact ⟨g, c, rfl, hg, ho, ((Below.refl _ w).alloc (Nat.le_refl _) _).grown hgrow (by simp) (by intro k hk; simp [Value.ownBlock] at hk; omega)⟩
set_option maxRecDepth 100000 in
theorem copies1_any (z : ZV) (w : World) (h0 : 0 < z.l.length) (h1 : z.l.length ≤ 1000) (hz : ZAt 0 w z) : Calls Tryz.prog 97 #[z.val] w (ZOut w (z.p, 0)) := by
 obtain ⟨a, ea, hR⟩ := hz.1 (fun e => by rw [e] at h0; simp at h0)
 have CL := Lib.hid (show ∀ W, Below w.heap.size w W → Calls Tryz.prog 98 #[.slice (some a) z.l.length z.c] W (fun e w' => ∃ g c, e = .returned (.slice (some ⟨g, 0, none⟩) z.l.length c) ∧ W.heap.size ≤ g ∧ Own w' g c z.l ∧ Below W.heap.size W w') from fun W h => lclone_any z.l a z.c W h0 h1 (hR.on h))
 unfold ZV.val
 rw [ea]
 obtain ⟨zl, hzl⟩ : ∃ zl, zl = z.l.length := ⟨_, rfl⟩
 rw [← hzl] at CL ⊢
 have HZL := Lib.hid hzl
 obtain ⟨w0, hw0⟩ : ∃ w0, w0 = (w.alloc (.cells #[.int .i64 z.N, .slice (some a) zl z.c] 36)).alloc (.cells #[.int .i64 0, .slice none 0 0] 36) := ⟨_, rfl⟩
 have X0 := Lib.hid (show Bx2 w0 w.heap.size (.int .i64 z.N) (.slice (some a) zl z.c) 36 by rw [hw0]; exact (Bx2.made w _ _ _).kept (one_more _))
 have R0 := Lib.hid (show Bx2 w0 (w.heap.size + 1) (.int .i64 0) (.slice none 0 0) 36 by rw [hw0]; have := Bx2.made (w.alloc (.cells #[.int .i64 z.N, .slice (some a) zl z.c] 36)) (.int .i64 0) (.slice none 0 0) 36; simpa using this)
 have E0 := Lib.hid (show Below w.heap.size w w0 by rw [hw0]; exact past_two (Below.refl _ _))
 have Z0 := Lib.hid (show w0.heap.size = w.heap.size + 2 by rw [hw0]; simp)
 clear hz h0 h1 hR ea hzl
 go_enter Tryz.func97, Tryz.ntmps97
 go_wp2_with fail
 rw [← hw0]
 clear hw0
 have KS := Lib.hid (show ∀ W, Below w0.heap.size w0 W → (W.cell? ⟨w.heap.size, 0, none⟩ = some (.int .i64 z.N) ∧ W.cell? ⟨w.heap.size, 1, none⟩ = some (.slice (some a) zl z.c)) from fun W h => ⟨(X0.out.kept h).facts.1, (X0.out.kept h).facts.2.1⟩)
 obtain ⟨wc, hwc⟩ : ∃ wc, wc = w0.drew := ⟨_, rfl⟩
 have Bc := Lib.hid (show Below w0.heap.size w0 wc by rw [hwc]; exact (Below.refl _ _).drew)
 refine wp_region_held_drew (S := (fun W => (W.cell? ⟨w.heap.size, 0, none⟩ = some (.int .i64 z.N) ∧ W.cell? ⟨w.heap.size, 1, none⟩ = some (.slice (some a) zl z.c)))) (by kernel_rfl) (by rw [← hwc]; exact KS.out _ Bc.out) (fun h0 => ?_)
 rw [← hwc] at h0 ⊢
 clear hwc
 refine tkI (i := 0) rfl h0 ?_
 simp only [Act.put, sA, sB, sD, sE, sF]
 refine tkI (i := 1) rfl h0 ?_
 simp only [Act.put, sZ]
 refine tkI (i := 2) rfl h0 ?_
 simp only [Act.put, sZ]
 refine tkI (i := 3) rfl h0 ?_
 simp only [Act.put, sZ]
 refine wpAnyH_ready (rs := [4]) (by kernel_rfl) (by simp) (AllReadyH.cons rfl (fun K hK => ?_) AllReadyH.nil)
 rw [if_pos (by rfl)]
 go_simp
 refine (CL.out wc (below_on E0.out Bc.out)).mono ?_
 rintro e wd ⟨g, cc, rfl, hg, ho, hb⟩
 have OW := Lib.hid ho
 have HG := Lib.hid hg
 have hsz := Bc.out.size
 have HG2 := Lib.hid (show w0.heap.size ≤ g by omega)
 have Bc := Lib.hid (below_on Bc.out hb)
 clear hb hg ho hsz
 obtain ⟨wc, hwc⟩ : ∃ wc, wc = wd := ⟨_, rfl⟩
 rw [← hwc] at Bc OW ⊢
 clear hwc
 go_simp
 refine hK.out _ _ (KS.out _ Bc.out) (fun h0_1 => ?_)
 clear hK K h0
 refine tkI (i := 5) rfl h0_1 ?_
 simp only [Act.put, sZ]
 refine wpAnyH_ready (rs := [6]) (by kernel_rfl) (by simp) (AllReadyH.cons rfl (fun K hK => ?_) AllReadyH.nil)
 rw [if_pos (by rfl)]
 go_simp
 obtain ⟨f0, f1, f2, f3⟩ := (R0.out.kept Bc.out).facts
 go_simp
 refine hK.out _ _ (by have := ((X0.out.kept Bc.out).aside (y := w.heap.size + 1) (by omega) (.int .i64 z.N) (.slice (some ⟨g, 0, none⟩) zl cc)).facts; exact ⟨this.1, this.2.1⟩) (fun h0_2 => ?_)
 clear hK K h0_1
 clear f0 f1 f2 f3
 refine tkI (i := 7) rfl h0_2 ?_
 simp only [Act.put, sA, sB, sC, sD]
 try simp only [sF]
 try simp only [sE]
 refine wpAnyH_done (by kernel_rfl) ?_ _
 have q0 := ((R0.out.kept Bc.out).put (.int .i64 z.N) (.slice (some ⟨g, 0, none⟩) zl cc)).facts
 obtain ⟨q0, q1, _, _⟩ := q0
 have BE := below_put2 (below_on E0.out Bc.out) (b := w.heap.size + 1) (by omega) (.int .i64 z.N) (.slice (some ⟨g, 0, none⟩) zl cc)
 have OE := put_far OW.out (b := w.heap.size + 1) (by have := HG2.out; have := Z0.out; omega) (.int .i64 z.N) (.slice (some ⟨g, 0, none⟩) zl cc)
 obtain ⟨we, hwe⟩ : ∃ we, we = (wc.setCell ⟨w.heap.size + 1, 0, none⟩ (.int .i64 z.N)).setCell ⟨w.heap.size + 1, 1, none⟩ (.slice (some ⟨g, 0, none⟩) zl cc) := ⟨_, rfl⟩
 rw [← hwe] at BE OE q0 q1 ⊢
 have BX := Lib.hid BE
 have OX := Lib.hid OE
 clear hwe BE OE
 go_wp2_with fail
 refine bodyPost_ret (v := .tuple #[.agg #[.int .i64 z.N, .slice (some ⟨g, 0, none⟩) zl cc], .int .i64 0]) (by simp [results, Tryz.results97, go_sem, q0, q1]) rfl ?_
 refine ⟨BX.out, ⟨z.N, some ⟨g, 0, none⟩, cc, z.l⟩, by rw [HZL.out]; rfl, ⟨fun _ => ⟨_, rfl, OX.out.rd⟩, fun p e => ?_⟩, fun _ => rfl⟩
 cases e
 exact ⟨by have := HG2.out; have := Z0.out; show w.heap.size ≤ g; omega, OX.out.lt⟩
set_option maxRecDepth 20000 in
theorem copies_any (L : List ZV) (go : Option Addr) (gc : Nat) (w : World) (hL : RdZ 0 w go L) (hl : L.length ≤ 2000) (hz : ∀ z ∈ L, 0 < z.l.length ∧ z.l.length ≤ 1000) :
  Calls Tryz.prog 51 #[.slice go L.length gc] w (ColRes w.heap.size w (L.map ZV.p) 0) := by
 obtain ⟨n, hn⟩ : ∃ n, n = L.length := ⟨_, rfl⟩
 have EF := Lib.hid (fun W => eachf_any go n gc 97 W)
 have ES : ∀ M : List Zp, eaS (fun x => (x, 0)) M = (M, 0) := by
  intro M
  induction M with
  | nil => rfl
  | cons x M ih =>
   have e : eaS (fun x => (x, 0)) (x :: M) = seqA (oneS (x, 0)) (eaS (fun x => (x, 0)) M) := rfl
   rw [e, ih]; simp [oneS, seqA]
 have CO := Lib.hid (show ∀ w1, w1 = (w.alloc (.cells #[.slice go n gc] 22)).alloc (.cells #[.func (.func 97) #[] #[]] 77) → Below w.heap.size w w1 ∧ Calls Tryz.prog 60 #[.func (.func 106) #[] #[.pointer (some ⟨w.heap.size, 0, none⟩), .pointer (some ⟨w.heap.size + 1, 0, none⟩)]] w1 (ColRes w.heap.size w1 (L.map ZV.p) 0) from by
  intro w1 hw1
  have B1 : Below w.heap.size w w1 := by rw [hw1]; exact past_two (Below.refl _ _)
  have X0 : Bx1 w1 w.heap.size (.slice go n gc) 22 := by rw [hw1]; exact (Bx1.made w _ _).kept (one_more _)
  have X1 : Bx1 w1 (w.heap.size + 1) (.func (.func 97) #[] #[]) 77 := by rw [hw1]; have := Bx1.made (w.alloc (.cells #[.slice go n gc] 22)) (.func (.func 97) #[] #[]) 77; simpa using this
  have SQ := each_seq (fun x => (x, 0)) 97 L go gc w.heap.size (w.heap.size + 1) w.heap.size w1 B1.size (by rw [← hn]; exact X0.cell) X1.cell (hL.on B1) (by omega) (yield_enters _ Tryz.func97 (by kernel_rfl) rfl) (fun z hm W h => copies1_any z W (hz z hm).1 (hz z hm).2 h)
  rw [ES] at SQ
  have := fcollect_any 106 _ w.heap.size _ _ w1 each_enters SQ
  refine ⟨B1, this.mono fun e w' h => ?_⟩
  have e1 : colE (L.map ZV.p) 0 = 0 := by unfold colE; rw [if_neg (by simp; omega)]
  rw [e1] at h
  exact h)
 rw [← hn]
 clear hn hL hl hz ES
 go_enter Tryz.func51, Tryz.ntmps51
 go_wp2_with fail
 refine (EF.out _).mono ?_
 rintro e w1 ⟨rfl, hw1⟩
 obtain ⟨hb, co⟩ := CO.out w1 hw1
 have HB := Lib.hid hb
 have CO2 := Lib.hid co
 clear hw1 hb co CO
 go_wp2_with fail
 refine CO2.out.mono ?_
 intro e w2 h
 have h := h.before HB.out
 rcases h.2 with ⟨h1, v, Z, rfl, h3, h4⟩ | ⟨h1, rfl⟩
 · have H := Lib.hid h
   clear h h1 h3 h4
   go_wp2_with fail
   go_ret
   exact H.out
 · exact absurd rfl h1
def mnP : List Zp → List Zp → List Zp × Int
 | a, [] => (a, 0)
 | a, z :: r => if colE (woS z a).1 (woS z a).2 = 0 then mnP (woS z a).1 r else ([], colE (woS z a).1 (woS z a).2)
theorem mnP_cons {a M : List Zp} {t : Nat} (ht : t < M.length) : mnP a (M.drop t) = if colE (woS M[t] a).1 (woS M[t] a).2 = 0 then mnP (woS M[t] a).1 (M.drop (t + 1)) else ([], colE (woS M[t] a).1 (woS M[t] a).2) := by
 rw [List.drop_eq_getElem_cons ht]; rfl
theorem colE_len {xs : List Zp} {er : Int} (h : colE xs er = 0) : xs.length ≤ 2000 := by
 unfold colE at h; split at h <;> omega
def MiRes (B : Nat) (w : World) (M : List Zp) (r : List Zp × Int) (e : Ending) (w' : World) : Prop :=
 Below w.heap.size w w' ∧ ((r.2 = 0 ∧ ∃ ao cap L, e = .returned (.slice ao L.length cap) ∧ L.map ZV.p = r.1 ∧ RdZ B w' ao L ∧ (M ≠ [] → OwnZ w.heap.size B w' (.slice ao L.length cap) L) ∧ L.length ≤ 1000000) ∨ (r.2 ≠ 0 ∧ e = .panicked (pan r.2)))
set_option maxRecDepth 100000 in
theorem fminus_any (L M : List ZV) (go ho : Option Addr) (gc hc B : Nat) (w : World) (hB : B ≤ w.heap.size) (hL : RdZ B w go L) (hM : RdZ 0 w ho M) (hl : L.length ≤ 1000000) (hm : M.length ≤ 1000000) :
  Calls Tryz.prog 49 #[.slice go L.length gc, .slice ho M.length hc] w (MiRes B w (M.map ZV.p) (mnP (L.map ZV.p) (M.map ZV.p))) := by
 obtain ⟨k, hk⟩ : ∃ k, k = M.length := ⟨_, rfl⟩
 obtain ⟨n, hn⟩ : ∃ n, n = L.length := ⟨_, rfl⟩
 have HK := Lib.hid hk
 have HN := Lib.hid hn
 have hke : k ≤ 1000000 := by omega
 have HB := Lib.hid hB
 have RM := Lib.hid hM
 have HL := Lib.hid (show ∃ ao cap Z, Value.slice go n gc = .slice ao Z.length cap ∧ RdZ B w ao Z ∧ Z.length ≤ 1000000 ∧ mnP (L.map ZV.p) (M.map ZV.p) = mnP (Z.map ZV.p) ((M.map ZV.p).drop 0) from ⟨go, gc, L, by rw [hn], hL, hl, rfl⟩)
 rw [← hk, ← hn]
 clear hk hn hB hL hM hl hm
 go_enter Tryz.func49, Tryz.ntmps49
 go_wp2_with fail
 go_loopw [0, 9] (fun v s wr => ∃ t : Nat, s = .int .i64 t ∧ t ≤ k ∧ Hid (Below w.heap.size w wr) ∧ Hid (∃ ao cap Z, v = .slice ao Z.length cap ∧ RdZ B wr ao Z ∧ Z.length ≤ 1000000 ∧ mnP (L.map ZV.p) (M.map ZV.p) = mnP (Z.map ZV.p) ((M.map ZV.p).drop t)) ∧ Hid (0 < t → ∃ Z, OwnZ w.heap.size B wr v Z ∧ ∃ ao cap, v = .slice ao Z.length cap ∧ mnP (L.map ZV.p) (M.map ZV.p) = mnP (Z.map ZV.p) ((M.map ZV.p).drop t))) (fun _ s _ => k - (intOf s).toNat)
 case atStart => exact ⟨0, rfl, by omega, Lib.hid (Below.refl _ _), HL, Lib.hid (fun h => by omega)⟩
 case round =>
  generalize wr = wo at *
  obtain ⟨t, rfl, ht, HBB, HI, HO⟩ := hrel
  by_cases htk : t < k
  · have hlt : t < M.length := by have := HK.out; omega
    obtain ⟨ao, cap, Z, rfl, rz, zl, ez⟩ := HI.out
    obtain ⟨a, ea, h0, h1⟩ := (RM.out.on HBB.out).hd t hlt
    obtain ⟨z, hz⟩ : ∃ z, z = M[t] := ⟨_, rfl⟩
    have HMZ := Lib.hid (show z ∈ M by rw [hz]; exact List.getElem_mem _)
    have ZZ := Lib.hid ((RM.out.on HBB.out).el z HMZ.out)
    rw [← hz] at h0 h1
    have hlt2 : t < (M.map ZV.p).length := by simpa using hlt
    have EQ := Lib.hid (show mnP (L.map ZV.p) (M.map ZV.p) = if colE (woS z.p (Z.map ZV.p)).1 (woS z.p (Z.map ZV.p)).2 = 0 then mnP (woS z.p (Z.map ZV.p)).1 ((M.map ZV.p).drop (t + 1)) else ([], colE (woS z.p (Z.map ZV.p)).1 (woS z.p (Z.map ZV.p)).2) by
     rw [ez, mnP_cons hlt2, show (M.map ZV.p)[t] = z.p by rw [hz]; simp])
    have RZ := Lib.hid rz
    have ZL := Lib.hid zl
    obtain ⟨zn, hzn⟩ : ∃ zn, zn = Z.length := ⟨_, rfl⟩
    obtain ⟨ll, hll⟩ : ∃ ll, ll = z.l.length := ⟨_, rfl⟩
    rw [← hll] at h1
    obtain ⟨v1, hv1⟩ : ∃ v1, v1 = wo.alloc (.cells #[.int .i64 z.N, .slice z.a ll z.c] 36) := ⟨_, rfl⟩
    have B1 := Lib.hid (show Below wo.heap.size wo v1 by rw [hv1]; exact one_more _)
    have Q1 := Lib.hid (show v1.heap.size = wo.heap.size + 1 by rw [hv1]; simp)
    have WF := Lib.hid (show ∀ W, Calls Tryz.prog 96 #[.slice ao zn cap, .agg #[.int .i64 z.N, .slice z.a ll z.c]] W (fun e w' => e = .returned (.func (.func 133) #[] #[.pointer (some ⟨W.heap.size + 1, 0, none⟩), .pointer (some ⟨W.heap.size, 0, none⟩)])
     ∧ w' = (W.alloc (.cells #[.slice ao zn cap] 22)).alloc (.cells #[.int .i64 z.N, .slice z.a ll z.c] 36)) from fun W => by rw [hll]; exact withoutf_any ao zn cap z W)
    have CO := Lib.hid (show ∀ v w1, ZAt 0 v z → RdZ B v ao Z → B ≤ v.heap.size → w1 = (v.alloc (.cells #[.slice ao zn cap] 22)).alloc (.cells #[.int .i64 z.N, .slice z.a ll z.c] 36) → Below v.heap.size v w1 ∧ Calls Tryz.prog 60 #[.func (.func 133) #[] #[.pointer (some ⟨v.heap.size + 1, 0, none⟩), .pointer (some ⟨v.heap.size, 0, none⟩)]] w1 (ColRes B w1 (woS z.p (Z.map ZV.p)).1 (colE (woS z.p (Z.map ZV.p)).1 (woS z.p (Z.map ZV.p)).2)) from by
     intro v w1 hz1 hr1 hb1 hw1
     have B1 : Below v.heap.size v w1 := by rw [hw1]; exact past_two (Below.refl _ _)
     have X0 : Bx1 w1 v.heap.size (.slice ao zn cap) 22 := by rw [hw1]; exact (Bx1.made v _ _).kept (one_more _)
     have X1 : Bx2 w1 (v.heap.size + 1) (.int .i64 z.N) (.slice z.a ll z.c) 36 := by rw [hw1]; have := Bx2.made (v.alloc (.cells #[.slice ao zn cap] 22)) (.int .i64 z.N) (.slice z.a ll z.c) 36; simpa using this
     exact ⟨B1, fcollect_any 133 _ B _ _ w1 without_enters (without_seq z Z ao cap (v.heap.size + 1) v.heap.size B w1 (Nat.le_trans hb1 B1.size) X1.facts.1 (by rw [← hll]; exact X1.facts.2.1) (by rw [← hzn]; exact X0.cell) (hz1.on B1) (hr1.on B1) zl)⟩)
    rw [← hzn]
    have BS := Lib.hid (show B ≤ wo.heap.size from Nat.le_trans HB.out HBB.out.size)
    clear hz hlt hlt2 ez rz zl hll hzn HI HO
    subst ea
    go_wp2_with fail
    rw [← hv1]
    clear hv1
    refine (WF.out _).mono ?_
    rintro e w2 ⟨rfl, hw2⟩
    have bs := BS.out
    have q1 := Q1.out
    obtain ⟨hb, co⟩ := CO.out _ w2 (ZZ.out.on B1.out) (RZ.out.on B1.out) (by omega) hw2
    have B2 := Lib.hid (below_on B1.out hb)
    have CO2 := Lib.hid co
    clear hb co hw2 h0 h1 CO WF bs q1
    go_wp2_with fail
    refine CO2.out.mono ?_
    intro e w3 h
    have B3 := Lib.hid (below_on HBB.out (below_on B2.out h.1))
    have h := h.before (below_on HBB.out B2.out)
    obtain ⟨ce, hce⟩ : ∃ ce, ce = colE (woS z.p (Z.map ZV.p)).1 (woS z.p (Z.map ZV.p)).2 := ⟨_, rfl⟩
    rw [← hce] at h EQ
    have HCE := Lib.hid hce
    clear CO2 hce
    rcases h.2 with ⟨h1, v, Z2, rfl, h3, h4⟩ | ⟨h1, rfl⟩
    · have OW := Lib.hid h4
      obtain ⟨a2, c2, rfl, rz2, hlt2⟩ := h4.read
      have RZ2 := Lib.hid rz2
      have LN := Lib.hid (show Z2.length ≤ 2000 by
       have := colE_len (HCE.out.symm.trans h1)
       rw [← h3] at this; simpa using this)
      have E2 := Lib.hid (show mnP (L.map ZV.p) (M.map ZV.p) = mnP (Z2.map ZV.p) ((M.map ZV.p).drop (t + 1)) by rw [EQ.out, if_pos h1, h3])
      obtain ⟨n2, hn2⟩ : ∃ n2, n2 = Z2.length := ⟨_, rfl⟩
      rw [← hn2] at OW ⊢
      have HN2 := Lib.hid hn2
      clear h h1 h3 h4 rz2 hlt2 hn2
      go_wp2_with fail
      go_roundw
      case rel => exact ⟨t + 1, by go_num, by omega, B3, Lib.hid ⟨a2, c2, Z2, by rw [HN2.out], RZ2.out, by have := LN.out; omega, E2.out⟩, Lib.hid fun _ => ⟨Z2, OW.out, a2, c2, by rw [HN2.out], E2.out⟩⟩
      case measure => simp [intOf]; omega
    · have E2 := Lib.hid (show mnP (L.map ZV.p) (M.map ZV.p) = ([], ce) by rw [EQ.out, if_neg h1])
      exact And.intro rfl ⟨B3.out, Or.inr ⟨by rw [E2.out]; exact h1, by rw [E2.out]⟩⟩
  · have e : (M.map ZV.p).drop t = [] := List.drop_eq_nil_of_le (by have := HK.out; simp; omega)
    have hk0 : M.map ZV.p ≠ [] → 0 < t := fun h => by
     have h2 : 0 < M.length := by
      rcases M with _ | ⟨x, M⟩
      · simp at h
      · simp
     have := HK.out; omega
    have HK0 := Lib.hid hk0
    have HE := Lib.hid e
    obtain ⟨ao, cap, Z, rfl, rz, zl, ez⟩ := HI.out
    obtain ⟨zn, hzn⟩ : ∃ zn, zn = Z.length := ⟨_, rfl⟩
    have HZN := Lib.hid hzn
    rw [← hzn] at HO ⊢
    have RZ := Lib.hid rz
    have ZL := Lib.hid zl
    have EZ := Lib.hid ez
    clear e hk0 rz zl ez hzn HI HL
    go_wp2_with fail
    go_ret
    have e0 : mnP (L.map ZV.p) (M.map ZV.p) = (Z.map ZV.p, 0) := by rw [EZ.out, HE.out]; rfl
    by_cases hm : M.map ZV.p = []
    · exact ⟨HBB.out, Or.inl ⟨by rw [e0], ao, cap, Z, by rw [HZN.out]; rfl, by rw [e0], RZ.out, fun h => absurd hm h, ZL.out⟩⟩
    · obtain ⟨Z2, ow, a2, c2, e2, e3⟩ := HO.out (HK0.out hm)
      injection e2 with q1 q2 q3
      have q2' : zn = Z2.length := by exact q2
      have e4 : mnP (L.map ZV.p) (M.map ZV.p) = (Z2.map ZV.p, 0) := by rw [e3, HE.out]; rfl
      obtain ⟨b2, d2, f2, rd2, _⟩ := ow.read
      injection f2 with f3 f4 f5
      subst q1 q3
      refine ⟨HBB.out, Or.inl ⟨by rw [e4], ao, cap, Z2, by rw [q2']; rfl, by rw [e4], by rw [f3]; exact rd2, fun _ => by rw [← q2']; exact ow, by have := ZL.out; have := HZN.out; omega⟩⟩
set_option maxRecDepth 100000 in
theorem zgrow_any (m : Nat) (w : World) (h1 : m ≤ 100000) :
  Calls Tryz.prog 130 #[.slice none 0 0, .int .i64 m] w (fun e w' => Below w.heap.size w w' ∧ ∃ v, e = .returned v ∧ w'.ownsRow w.heap.size 36 2 v 0 []) := by
 by_cases h0 : 0 < m
 · obtain ⟨i0, hi, hz0, hz1, hz2⟩ := info_parts zone_info
   have D : decide ((m : Int) < 0) = false := by simp
   have D2 : decide ((0 : Int) < (m : Int)) = true := by simp; omega
   have RUN := Lib.hid (Lib.run_append_nil_zeros (P := Tryz.prog) w 22 3 22 36 i0 (.agg #[.int .i64 0, .slice none 0 0]) .i64 .i64 Tryz.underlying22 Tryz.underlying3 hi hz0 m h0 (by omega) (by omega) (by rw [hz2]; omega))
   have G1 := grownCap_ge w m 0 36
   have G2 := grownCap_le_maxLen w m 0 36 (by unfold maxLen; omega)
   generalize grownCap w m 0 36 = c at *
   obtain ⟨w5, hw5⟩ : ∃ w5, w5 = w.drew.alloc (.cells (Builtin.zeroCells (Value.agg #[.int .i64 0, .slice none 0 0]).cells m ++ Builtin.zeroCells (Value.agg #[.int .i64 0, .slice none 0 0]).cells (c - m)) 36) := ⟨_, rfl⟩
   rw [← hw5] at RUN
   have B5 := Lib.hid (show Below w.heap.size w w5 by rw [hw5]; exact (Below.refl _ _).drew.alloc (Nat.le_refl _) _)
   have O5 := Lib.hid (show w5.ownsRow w.heap.size 36 2 (.slice (some ⟨w.heap.size, 0, none⟩) 0 c) 0 [] by
    refine ⟨rfl, .inr ⟨w.heap.size, c, _, rfl, Nat.le_refl _, by rw [hw5]; exact heap_alloc_new w.drew _, Nat.zero_le _, G2, ?_, rfl⟩⟩
    simp only [Array.size_append, size_zeroCells]
    show m * 2 + (c - m) * 2 = c * 2
    omega)
   have hc0 : (c = 0) = False := by simp; omega
   clear hw5
   go_enter Tryz.func130, Tryz.ntmps130
   go_wp2_with (at_builtin; refine Lib.wpList_append_run _ rfl _ _ _ _ rfl _ _ rfl rfl _ _ RUN.out ?_)
   go_ret
   exact ⟨B5.out, _, rfl, O5.out⟩
 · have e : m = 0 := by omega
   subst e
   go_enter Tryz.func130, Tryz.ntmps130
   go_wp2_with fail
   go_ret
   exact ⟨Below.refl _ _, _, rfl, World.ownsRow_nil _ _ _ _⟩
theorem zV_appd (a b : List ZV) : zV (a ++ b) = zV a ++ zV b := by unfold zV; rw [List.flatMap_append]
theorem zV_one (L : List ZV) : ∀ u ∈ zV L, u.oneCell' = true := by
 intro u hu
 unfold zV at hu
 rw [List.mem_flatMap] at hu
 obtain ⟨c, _, hc⟩ := hu
 simp [ZV.cs] at hc
 rcases hc with rfl | rfl <;> rfl
def ZW (w : World) (z : ZV) : Prop := Arg w z.a z.l ∧ True
theorem ZW.on {w w' : World} {z : ZV} (h : ZW w z) (hb : Below w.heap.size w w') : ZW w' z := ⟨h.1.on hb, trivial⟩
structure RdW (A : World) (go : Option Addr) (L : List ZV) : Prop where
 hd : ∀ t, ∀ h : t < L.length, ∃ p, go = some p ∧ HdAt A p t L[t]
 el : ∀ z ∈ L, ZW A z
theorem RdW.on {A A' : World} {go : Option Addr} {L : List ZV} (h : RdW A go L) (hb : Below A.heap.size A A') : RdW A' go L :=
 ⟨fun t ht => by obtain ⟨p, e, c, d⟩ := h.hd t ht; exact ⟨p, e, kept hb c, kept hb d⟩, fun z hz => (h.el z hz).on hb⟩
theorem RdZ.weak {B : Nat} {A : World} {go : Option Addr} {L : List ZV} (h : RdZ B A go L) : RdW A go L := ⟨h.hd, fun z hz => ⟨(h.el z hz).1, trivial⟩⟩
theorem RdW.cells {w : World} {a : Addr} {L : List ZV} (h : RdW w (some a) L) : ∀ j u, (zV L)[j]? = some u → w.cell? (a.add j) = some u := by
 intro j u hu
 have hj : j < L.length * 2 := by
  rw [← zV_len]
  by_cases c : j < (zV L).length
  · exact c
  · rw [List.getElem?_eq_none (by omega)] at hu; cases hu
 obtain ⟨p, e, h1, h2⟩ := h.hd (j / 2) (by omega)
 cases e
 have c1 := zV_at (L := L) (t := j / 2) (by omega) (j := 0) (by omega)
 have c2 := zV_at (L := L) (t := j / 2) (by omega) (j := 1) (by omega)
 rcases Nat.mod_two_eq_zero_or_one j with e | e
 · have ej : j / 2 * 2 = j := by omega
   rw [ej] at h1
   rw [Nat.add_zero, ej] at c1
   rw [c1] at hu
   simp [ZV.cs] at hu
   rw [← hu]; exact h1
 · have ej : j / 2 * 2 + 1 = j := by omega
   rw [ej] at c2
   rw [c2] at hu
   simp [ZV.cs] at hu
   rw [← hu, ← h2]
   congr 1
   unfold Addr.add
   split <;> split <;> simp_all <;> omega
theorem ownW_read {R : Nat} {A : World} {v : Value} {L : List ZV} (h : A.ownsRow R 36 2 v L.length (zV L)) (he : ∀ z ∈ L, ZW A z) : ∃ ao cap, v = .slice ao L.length cap ∧ RdW A ao L := by
 rcases h.2 with ⟨rfl, hn⟩ | ⟨g, cap, cur, rfl, hb, hg, hc, hm, hsz, htake⟩
 · exact ⟨none, 0, by rw [hn], ⟨fun t ht => by omega, he⟩⟩
 · refine ⟨_, cap, rfl, ⟨fun t ht => ⟨_, rfl, ?_, ?_⟩, he⟩⟩
   · have hc := World.ownsRow.cellAt (g := g) (cap := cap) h
     rw [addr_add]
     exact (hc (t * 2) (by omega)).trans (zV_at (j := 0) ht (by omega))
   · have hc := World.ownsRow.cellAt (g := g) (cap := cap) h
     rw [addr_add]
     exact (hc (t * 2 + 1) (by omega)).trans (zV_at (j := 1) ht (by omega))
structure RdGW (w : World) (go : Option Addr) (G : List (List ZV)) : Prop where
 hd : ∀ t, ∀ h : t < G.length, ∃ p a c, go = some p ∧ w.cell? (p.add t) = some (.slice a (G[t]).length c) ∧ RdW w a G[t] ∧ (a = none → c = 0)
theorem RdGW.on {w w' : World} {go : Option Addr} {G : List (List ZV)} (h : RdGW w go G) (hb : Below w.heap.size w w') : RdGW w' go G := ⟨fun t ht => by
 obtain ⟨p, a, c, e, f, r⟩ := h.hd t ht
 exact ⟨p, a, c, e, kept hb f, r.1.on hb, r.2⟩⟩
structure RdGZ (w : World) (go : Option Addr) (G : List (List ZV)) : Prop where
 hd : ∀ t, ∀ h : t < G.length, ∃ p a c, go = some p ∧ w.cell? (p.add t) = some (.slice a (G[t]).length c) ∧ RdZ 0 w a G[t] ∧ (a = none → c = 0)
theorem RdGZ.weak {w : World} {go : Option Addr} {G : List (List ZV)} (h : RdGZ w go G) : RdGW w go G := ⟨fun t ht => by
 obtain ⟨p, a, c, e, f, r⟩ := h.hd t ht
 exact ⟨p, a, c, e, f, r.1.weak, r.2⟩⟩
def sumZ (G : List (List ZV)) (t : Nat) : Nat := ((G.take t).map List.length).sum
theorem sumZ_succ {G : List (List ZV)} {t : Nat} (ht : t < G.length) : sumZ G (t + 1) = sumZ G t + (G[t]).length := by
 unfold sumZ; rw [List.take_succ_eq_append_getElem ht]; simp only [List.map_append, List.map_cons, List.map_nil, List.sum_append, List.sum_cons, List.sum_nil, Nat.add_zero]
theorem sumZ_le {G : List (List ZV)} {b : Nat} (hb : ∀ L ∈ G, L.length ≤ b) : ∀ t, t ≤ G.length → sumZ G t ≤ t * b := by
 intro t
 induction t with
 | zero => intro _; simp [sumZ]
 | succ t ih =>
  intro ht
  rw [sumZ_succ (by omega), Nat.add_mul]
  have := ih (by omega)
  have := hb G[t] (List.getElem_mem _)
  omega
theorem flat_len (G : List (List ZV)) (t : Nat) : (G.take t).flatten.length = sumZ G t := by unfold sumZ; rw [List.length_flatten]
set_option maxRecDepth 100000 in
theorem zconcatW_any (G : List (List ZV)) (go : Option Addr) (gc : Nat) (w : World) (hG : RdGW w go G) (hgl : G.length ≤ 10) (hl : ∀ L ∈ G, L.length ≤ 3000) :
  Calls Tryz.prog 82 #[.slice go G.length gc] w (fun e w' => Below w.heap.size w w' ∧ ∃ v, e = .returned v ∧ w'.ownsRow w.heap.size 36 2 v G.flatten.length (zV G.flatten)) := by
 obtain ⟨i0, hi, hz0, hz1, hz2⟩ := info_parts zone_info
 have HG := Lib.hid hG
 have SL := Lib.hid (show ∀ t, t ≤ G.length → sumZ G t ≤ 30000 from fun t ht => by
  have := sumZ_le hl t ht
  have : t * 3000 ≤ 10 * 3000 := Nat.mul_le_mul (by omega) (Nat.le_refl _)
  omega)
 have LL := Lib.hid hl
 obtain ⟨m, hm⟩ : ∃ m, m = G.length := ⟨_, rfl⟩
 have HM := Lib.hid hm
 have hm10 : m ≤ 10 := by omega
 have GR := Lib.hid (zgrow_any (sumZ G m) w (by have := SL.out m (by omega); omega))
 rw [← hm]
 clear hG hgl hl hm
 go_enter Tryz.func82, Tryz.ntmps82
 go_wp2_with fail
 go_loopw [11, 3] (fun s t wr => ∃ j : Nat, j ≤ m ∧ s = .int .i64 j ∧ t = .int .i64 (sumZ G j) ∧ wr = w) (fun s _ _ => m - (intOf s).toNat)
 case atStart => exact ⟨0, by omega, rfl, rfl, rfl⟩
 case round =>
  obtain ⟨j, hj, rfl, rfl, hw⟩ := hrel
  rw [hw]
  clear hw
  by_cases hjm : j < m
  · have hlt : j < G.length := by have := HM.out; omega
    obtain ⟨p, a, c, ep, f, r⟩ := HG.out.hd j hlt
    have S1 := Lib.hid (sumZ_succ hlt)
    have S2 := SL.out (j + 1) (by omega)
    rw [S1.out] at S2
    obtain ⟨k, hk⟩ : ∃ k, k = (G[j]).length := ⟨_, rfl⟩
    rw [← hk] at f S1 S2
    obtain ⟨s, hs⟩ : ∃ s, s = sumZ G j := ⟨_, rfl⟩
    rw [← hs] at S1 S2 ⊢
    clear r hk hs hlt
    subst ep
    have S3 : (s : Int) + (k : Int) ≤ 30000 := by omega
    go_wp2_with fail
    go_roundw
    case rel => exact ⟨j + 1, by omega, by go_num, by rw [S1.out]; go_num, trivial⟩
    case measure => simp [intOf]; omega
  · have ej : j = m := by omega
    subst ej
    have S2 := SL.out j (by have := HM.out; omega)
    obtain ⟨s, hs⟩ : ∃ s, s = sumZ G j := ⟨_, rfl⟩
    rw [← hs] at S2 GR ⊢
    clear hs
    go_wp2_with fail
    refine GR.out.mono ?_
    rintro e w1 ⟨hb1, v1, rfl, hv1⟩
    have B1 := Lib.hid hb1
    have O1 := Lib.hid hv1
    clear hb1 hv1
    go_wp2_with fail
    go_loopw [27, 6] (fun s v wr => ∃ t : Nat, t ≤ j ∧ s = .int .i64 t ∧ Hid (wr.ownsRow w.heap.size 36 2 v (G.take t).flatten.length (zV (G.take t).flatten) ∧ Below w.heap.size w wr)) (fun s _ _ => j - (intOf s).toNat)
    case atStart => exact ⟨0, by omega, rfl, Lib.hid ⟨by simpa [zV] using O1.out, B1.out⟩⟩
    case round =>
     obtain ⟨t, ht, rfl, HX⟩ := hrel
     by_cases htj : t < j
     · have hlt : t < G.length := by have := HM.out; omega
       obtain ⟨p, a, c, ep, f, r⟩ := (HG.out.on HX.out.2).hd t hlt
       have hown := HX.out.1
       have FL := Lib.hid (show (G.take (t + 1)).flatten = (G.take t).flatten ++ G[t] by rw [List.take_succ_eq_append_getElem hlt]; simp only [List.flatten_append, List.flatten_cons, List.flatten_nil, List.append_nil])
       have S1 := sumZ_succ hlt
       have S2 := SL.out (t + 1) (by omega)
       rw [S1, ← flat_len] at S2
       obtain ⟨X, hX⟩ : ∃ X, X = (G.take t).flatten := ⟨_, rfl⟩
       rw [← hX] at hown S2 FL
       obtain ⟨Y, hY⟩ : ∃ Y, Y = G[t] := ⟨_, rfl⟩
       rw [← hY] at f r S2 FL
       have RC := Lib.hid r.1
       have RN := Lib.hid r.2
       have LC := Lib.hid (zV_len Y)
       obtain ⟨k, hk⟩ : ∃ k, k = Y.length := ⟨_, rfl⟩
       rw [← hk] at f LC S2
       have HKY := Lib.hid hk
       obtain ⟨xn, hxn⟩ : ∃ xn, xn = X.length := ⟨_, rfl⟩
       rw [← hxn] at hown S2
       have HXN := Lib.hid hxn
       have B2 := HX.out.2
       clear r hk hxn hX hY hlt S1
       subst ep
       cases a with
       | none =>
        have c0 : c = 0 := RN.out rfl
        have k0 : k = 0 := by
         by_cases e : k = 0
         · exact e
         · obtain ⟨p, e2, _⟩ := RC.out.hd 0 (by have := HKY.out; omega)
           cases e2
        subst c0 k0
        have HRUN := Lib.hid (run_append_owned_none (P := Tryz.prog) _ w.heap.size 22 22 36 i0 2 Tryz.underlying22 hi _ _ _ hown)
        go_wp2_with (at_builtin; (refine Lib.wpList_append_run _ rfl _ _ _ _ rfl _ _ rfl rfl _ _ HRUN.out ?_))
        have Y0 : Y = [] := List.eq_nil_of_length_eq_zero HKY.out.symm
        have O9 := Lib.hid (show World.ownsRow _ w.heap.size 36 2 _ (G.take (t + 1)).flatten.length (zV (G.take (t + 1)).flatten) by
         rw [FL.out, Y0, List.append_nil, ← HXN.out]; exact hown)
        have B9 := Lib.hid B2
        clear hown B2 Y0
        go_wp2_with fail
        go_roundw
        case rel => exact ⟨t + 1, by omega, by go_num, Lib.hid ⟨O9.out, B9.out⟩⟩
        case measure => simp [intOf]; omega
       | some a =>
        go_wp2_with (at_builtin; refine wpList_append_own _ rfl _ _ 22 rfl w.heap.size 36 i0 (.agg #[.int .i64 0, .slice none 0 0]) 2 32 Tryz.underlying22 hi hz0 hz1 hz2 rfl (by decide) _ _ _ rfl hown a k c (zV Y) rfl LC.out (RdW.cells RC.out) (zV_one _) (by unfold maxLen; omega) (by omega) B2.size ?_)
        intro v' w9 hown9 hgrow _
        have B9 := Lib.hid (show Below w.heap.size w w9 from Below.grown B2 hgrow B2.size (fun k hk => (World.ownsRow.lt hown k hk).1))
        have O9 := Lib.hid (show w9.ownsRow w.heap.size 36 2 v' (G.take (t + 1)).flatten.length (zV (G.take (t + 1)).flatten) by
         rw [FL.out, zV_appd, List.length_append, ← HKY.out, ← HXN.out]
         exact hown9)
        clear hown9 hgrow hown B2
        go_wp2_with fail
        go_roundw
        case rel => exact ⟨t + 1, by omega, by go_num, Lib.hid ⟨O9.out, B9.out⟩⟩
        case measure => simp [intOf]; omega
     · have e : G.take t = G := List.take_of_length_le (by have := HM.out; omega)
       rw [e] at HX
       clear e
       go_wp2_with fail
       go_ret
       exact ⟨HX.out.2, _, rfl, HX.out.1⟩
end Go.Proofs.YthjapmdfcbngmaaGreat
