/- A part. -/
import Derived.Test.YthjapmdfcbngmaaGreatWr11
import Derived.Test.YthjapmdfcbngmaaGreatWr32
namespace Go.Proofs.YthjapmdfcbngmaaGreat
set_option maxHeartbeats 16000000
open Go.RowKit
def tryP (x y : Zp) : (Zp × Bool) × Int :=
 if (hlP x y).2 ≠ 0 then (((0, []), false), (hlP x y).2)
 else if (mnP [(hlP x y).1] [x, y]).2 ≠ 0 then (((0, []), false), (mnP [(hlP x y).1] [x, y]).2)
 else (((hlP x y).1, decide ((mnP [(hlP x y).1] [x, y]).1.length = 0)), 0)
def prP (l : List Zp) (i : Nat) : Nat → Nat → (Nat × Zp) × Int
 | 0, _ => ((i, (0, [])), 0)
 | n + 1, j => if j < l.length then (if j = i then prP l i n (j + 1) else
   if (tryP (gz l (min i j)) (gz l (max i j))).2 ≠ 0 then ((i, (0, [])), (tryP (gz l (min i j)) (gz l (max i j))).2)
   else if (tryP (gz l (min i j)) (gz l (max i j))).1.2 = true then ((j, (tryP (gz l (min i j)) (gz l (max i j))).1.1), 0) else prP l i n (j + 1)) else ((i, (0, [])), 0)
theorem prP_end {l : List Zp} {i n j : Nat} (h : ¬ j < l.length) : prP l i n j = ((i, (0, [])), 0) := by
 cases n with
 | zero => rfl
 | succ n => rw [prP, if_neg h]
def PaRes (w : World) (r : (Nat × Zp) × Int) (e : Ending) (w' : World) : Prop :=
 Below w.heap.size w w' ∧ ((r.2 = 0 ∧ ∃ z : ZV, e = .returned (.tuple #[.int .i64 r.1.1, z.val]) ∧ ZAt w.heap.size w' z ∧ z.p = r.1.2) ∨ (r.2 ≠ 0 ∧ e = .panicked (pan r.2)))
theorem two_lit {B : Nat} (x y : ZV) (w : World) (hx : ZAt B w x) (hy : ZAt B w y) : OwnZ w.heap.size B (w.alloc (.cells #[.int .i64 x.N, .slice x.a x.l.length x.c, .int .i64 y.N, .slice y.a y.l.length y.c] 36)) (.slice (some ⟨w.heap.size, 0, none⟩) 2 2) [x, y] := by
 have hb : Below w.heap.size w (w.alloc (.cells #[.int .i64 x.N, .slice x.a x.l.length x.c, .int .i64 y.N, .slice y.a y.l.length y.c] 36)) := one_more _
 have hm : ∀ z ∈ [x, y], ZAt B w z := by intro z hz; simp at hz; rcases hz with rfl | rfl <;> assumption
 refine ⟨?_, fun z hz => (hm z hz).on hb, fun z hz p e q => ?_⟩
 · have := World.ownsRow_lit (base := w.heap.size) (e := 36) (size := 2) w #[.int .i64 x.N, .slice x.a x.l.length x.c, .int .i64 y.N, .slice y.a y.l.length y.c] 2 (by simp) (by unfold maxLen; omega) (by simp)
   simpa [zV, ZV.cs] using this
 · have := ((hm z hz).2 p e).2
   simp [Value.ownBlock] at q
   omega
theorem beq_dec (n : Nat) : ((n : Int) == 0) = decide (n = 0) := by
 by_cases e : n = 0
 · subst e; rfl
 · have : ((n : Int) == 0) = false := by simp [e]
   simp [e, this]
theorem run_minN {i t lo : Nat} (h : lo = min i t) (ts : Array TypeId) (ty : TypeId) (W : World) : (Builtin.min_ ts ty #[.int .i64 (i : Int), .int .i64 (t : Int)]).run Tryz.prog W = .ok (.int .i64 (lo : Int)) W := by
 rw [run_min_int2]; congr 2; split <;> omega
theorem run_maxN {i t hi : Nat} (h : hi = max i t) (ts : Array TypeId) (ty : TypeId) (W : World) : (Builtin.max_ ts ty #[.int .i64 (i : Int), .int .i64 (t : Int)]).run Tryz.prog W = .ok (.int .i64 (hi : Int)) W := by
 rw [run_max_int2]; congr 2; split <;> omega
set_option maxRecDepth 100000 in
theorem partner_any (L : List ZV) (go : Option Addr) (gc i fr : Nat) (w : World) (hL : RdZ 0 w go L) (hi : i < L.length) (hl : L.length ≤ 1000000) (hfr : fr ≤ 2000000) :
  Calls Tryz.prog 102 #[.slice go L.length gc, .int .i64 i, .int .i64 fr] w (PaRes w (prP (L.map ZV.p) i (L.length - fr) fr)) := by
 obtain ⟨T, hT⟩ : ∃ T, T = prP (L.map ZV.p) i (L.length - fr) fr := ⟨_, rfl⟩
 rw [← hT]
 have RL := Lib.hid hL
 obtain ⟨n, hn⟩ : ∃ n, n = L.length := ⟨_, rfl⟩
 have HN := Lib.hid hn
 have nle : n ≤ 1000000 := by omega
 have hin : i < n := by omega
 obtain ⟨b, eb, hd0, hd1⟩ := hL.hd i hi
 rw [← hn] at hT ⊢
 have TT := Lib.hid hT
 obtain ⟨w1, hw1⟩ : ∃ w1, w1 = w.alloc (.cells #[.int .i64 0, .slice none 0 0] 36) := ⟨_, rfl⟩
 have B1 := Lib.hid (show Below w.heap.size w w1 by rw [hw1]; exact one_more _)
 have X7 := Lib.hid (show Bx2 w1 w.heap.size (.int .i64 0) (.slice none 0 0) 36 by rw [hw1]; exact Bx2.made w _ _ _)
 have Q7 := Lib.hid (show w1.heap.size = w.heap.size + 1 by rw [hw1]; simp)
 obtain ⟨q7, hq7⟩ : ∃ q7, q7 = w.heap.size := ⟨_, rfl⟩
 have HQ7 := Lib.hid hq7
 clear hT hn hd0 hd1 hL hi hl
 subst eb
 go_enter Tryz.func102, Tryz.ntmps102
 go_wp2_with fail
 rw [← hw1]
 rw [← hq7] at X7 ⊢
 clear hw1 hq7
 go_loopw [8] (fun s wr => ∃ t : Nat, s = .int .i64 t ∧ t ≤ 2000000 ∧ Hid (Below w1.heap.size w1 wr) ∧ Hid (∃ k, T = prP (L.map ZV.p) i k t ∧ n - t ≤ k)) (fun s _ => n - (intOf s).toNat)
 case atStart => exact ⟨fr, rfl, hfr, Lib.hid (Below.refl _ _), Lib.hid ⟨_, TT.out, Nat.le_refl _⟩⟩
 case round =>
  generalize wr = wo at *
  obtain ⟨t, rfl, ht, BE, HI⟩ := hrel
  by_cases htn : t < n
  · obtain ⟨k, hk, hkn⟩ := HI.out
    obtain ⟨k2, rfl⟩ : ∃ k2, k = k2 + 1 := ⟨k - 1, by omega⟩
    have hkn2 : n - (t + 1) ≤ k2 := by omega
    have hlt : t < (L.map ZV.p).length := by have := HN.out; simp; omega
    rw [prP, if_pos hlt] at hk
    by_cases hti : t = i
    · have q1 : ((t : Int) == (i : Int)) = true := by simp [hti]
      rw [if_pos hti] at hk
      have HK := Lib.hid hk
      clear hk hti hlt HI TT
      go_wp2_with fail
      go_roundw
      case rel => exact ⟨t + 1, by go_num, by omega, BE, Lib.hid ⟨k2, HK.out, hkn2⟩⟩
      case measure => simp [intOf]; omega
    · have q1 : ((t : Int) == (i : Int)) = false := by simp; omega
      rw [if_neg hti] at hk
      obtain ⟨lo, hlo⟩ : ∃ lo, lo = min i t := ⟨_, rfl⟩
      obtain ⟨hi, hhi⟩ : ∃ hi, hi = max i t := ⟨_, rfl⟩
      rw [← hlo, ← hhi] at hk
      have hmn := run_minN hlo
      have hmx := run_maxN hhi
      have lon : lo < n := by omega
      have hin2 : hi < n := by omega
      obtain ⟨x, hx⟩ : ∃ x, x = L[lo]'(by have := HN.out; omega) := ⟨_, rfl⟩
      obtain ⟨y, hy⟩ : ∃ y, y = L[hi]'(by have := HN.out; omega) := ⟨_, rfl⟩
      have BW := Lib.hid (below_on B1.out BE.out)
      obtain ⟨a1, ea1, h0, h1⟩ := (RL.out.on BW.out).hd lo (by have := HN.out; omega)
      have e1 : a1 = b := by injection ea1 with e; exact e.symm
      obtain ⟨a2, ea2, h2, h3⟩ := (RL.out.on BW.out).hd hi (by have := HN.out; omega)
      have e2 : a2 = b := by injection ea2 with e; exact e.symm
      rw [e1, ← hx] at h0 h1
      rw [e2, ← hy] at h2 h3
      have XZ := Lib.hid (show ZAt 0 wo x from (RL.out.on BW.out).el x (by rw [hx]; exact List.getElem_mem _))
      have YZ := Lib.hid (show ZAt 0 wo y from (RL.out.on BW.out).el y (by rw [hy]; exact List.getElem_mem _))
      rw [show gz (L.map ZV.p) lo = x.p by rw [gz_eq (by have := HN.out; simp; omega), hx]; simp, show gz (L.map ZV.p) hi = y.p by rw [gz_eq (by have := HN.out; simp; omega), hy]; simp] at hk
      have HK := Lib.hid hk
      have HU := Lib.hid (show ∀ W, Below wo.heap.size wo W → Calls Tryz.prog 141 #[.agg #[.int .i64 x.N, .slice x.a x.l.length x.c], .agg #[.int .i64 y.N, .slice y.a y.l.length y.c]] W (ZOut W (hlP x.p y.p)) from fun W h => hl_out x y W (XZ.out.on h) (YZ.out.on h))
      have T2 := Lib.hid (show ∀ W, ZAt 0 W x → ZAt 0 W y → OwnZ W.heap.size 0 (W.alloc (.cells #[.int .i64 x.N, .slice x.a x.l.length x.c, .int .i64 y.N, .slice y.a y.l.length y.c] 36)) (.slice (some ⟨W.heap.size, 0, none⟩) 2 2) [x, y] from fun W h k => two_lit x y W h k)
      obtain ⟨xl, hxl⟩ : ∃ xl, xl = x.l.length := ⟨_, rfl⟩
      obtain ⟨yl, hyl⟩ : ∃ yl, yl = y.l.length := ⟨_, rfl⟩
      rw [← hxl] at h1 HU T2
      rw [← hyl] at h3 HU T2
      have G0 := Lib.hid h0
      have G1 := Lib.hid h1
      have G2 := Lib.hid h2
      have G3 := Lib.hid h3
      clear hk hlt HI TT hlo hhi hx hy ea1 ea2 e1 e2 h0 h1 h2 h3 hxl hyl
      go_upto_region 5 with (fail)
      go_cut [9, 10] from 52 (fun s9 s10 wx => ∃ q9 q10 : Nat, s9 = .pointer (some ⟨q9, 0, none⟩) ∧ s10 = .pointer (some ⟨q10, 0, none⟩) ∧ Hid (Below wo.heap.size wo wx) ∧ Hid (Bx2 wx q9 (.int .i64 x.N) (.slice x.a xl x.c) 36) ∧ Hid (Bx2 wx q10 (.int .i64 y.N) (.slice y.a yl y.c) 36))
      case first =>
       rename_i J0 K0 hJ0 hK0
       have KS := Lib.hid (show ∀ W, Below wo.heap.size wo W → (W.cell? (b.add (lo * 2)) = some (.int .i64 x.N) ∧ W.cell? ⟨(b.add (lo * 2)).block, (b.add (lo * 2)).off + 1, none⟩ = some (.slice x.a xl x.c) ∧ W.cell? (b.add (hi * 2)) = some (.int .i64 y.N) ∧ W.cell? ⟨(b.add (hi * 2)).block, (b.add (hi * 2)).off + 1, none⟩ = some (.slice y.a yl y.c)) from fun W h => ⟨kept h G0.out, kept h G1.out, kept h G2.out, kept h G3.out⟩)
       obtain ⟨wc, hwc⟩ : ∃ wc, wc = wo.drew := ⟨_, rfl⟩
       have Bc := Lib.hid (show Below wo.heap.size wo wc by rw [hwc]; exact (Below.refl _ _).drew)
       refine wp_region_held_drew (S := (fun W => (W.cell? (b.add (lo * 2)) = some (.int .i64 x.N) ∧ W.cell? ⟨(b.add (lo * 2)).block, (b.add (lo * 2)).off + 1, none⟩ = some (.slice x.a xl x.c) ∧ W.cell? (b.add (hi * 2)) = some (.int .i64 y.N) ∧ W.cell? ⟨(b.add (hi * 2)).block, (b.add (hi * 2)).off + 1, none⟩ = some (.slice y.a yl y.c)))) (by kernel_rfl) (by rw [← hwc]; exact KS.out _ Bc.out) (fun h0 => ?_)
       rw [← hwc] at h0 ⊢
       clear hwc
       refine tkI (i := 0) rfl h0 ?_
       simp only [Act.put, sA, sB, sD, sE, sF]
       refine tkI (i := 1) rfl h0 ?_
       simp only [Act.put, sZ]
       refine tkI (i := 2) rfl h0 ?_
       simp only [Act.put, sZ]
       refine tkI (i := 3) rfl h0 ?_
       simp only [Act.put, sZ]
       refine tkI (i := 4) rfl h0 ?_
       simp only [Act.put, sZ]
       refine tkI (i := 5) rfl h0 ?_
       simp only [Act.put, sZ]
       refine tkI (i := 6) rfl h0 ?_
       simp only [Act.put, sZ]
       refine tkI (i := 7) rfl h0 ?_
       simp only [Act.put, sZ]
       refine tkI (i := 8) rfl h0 ?_
       simp only [Act.put, sZ]
       refine tkI (i := 9) rfl h0 ?_
       simp only [Act.put, sZ]
       refine tkI (i := 10) rfl h0 ?_
       simp only [Act.put, sZ]
       refine tkI (i := 11) rfl h0 ?_
       simp only [Act.put, sZ]
       refine wpAnyH_ready (rs := [12, 13]) (by kernel_rfl) (by simp) (AllReadyH.cons rfl (fun K hK => ?_) (AllReadyH.cons rfl (fun K hK => ?_) AllReadyH.nil))
       · rw [if_pos (by rfl)]
         go_simp
         have hb := one_more (w1 := wc) (.cells #[.int .i64 0, .slice none 0 0] 36)
         have hP := Bx2.made wc (.int .i64 0) (.slice none 0 0) 36
         have hz := Bc.out.size
         obtain ⟨q9, hbb⟩ : ∃ b, b = wc.heap.size := ⟨_, rfl⟩
         rw [← hbb] at hP hz
         obtain ⟨wn, hwn⟩ : ∃ wn, wn = wc.alloc (.cells #[.int .i64 0, .slice none 0 0] 36) := ⟨_, rfl⟩
         rw [← hwn] at hb hP ⊢
         try rw [← hbb]
         try (have NE9 := Lib.hid (show q9 ≠ q10 from by have := N10.out.lt; omega))
         try (have N10 := Lib.hid (N10.out.kept hb))
         have Bc := Lib.hid (below_on Bc.out hb)
         have N9 := Lib.hid hP
         have Zq9 := Lib.hid hz
         clear hb hP hz hbb hwn
         obtain ⟨wc, hwc⟩ : ∃ wc, wc = wn := ⟨_, rfl⟩
         rw [← hwc] at Bc N9 ⊢
         try rw [← hwc] at NE9
         try rw [← hwc] at N10
         clear hwc
         go_simp
         refine hK.out _ _ (KS.out _ Bc.out) (fun h0_1 => ?_)
         clear hK K h0
         refine wpAnyH_ready (rs := [13]) (by kernel_rfl) (by simp) (AllReadyH.cons rfl (fun K hK => ?_) AllReadyH.nil)
         rw [if_pos (by rfl)]
         go_simp
         have hb := one_more (w1 := wc) (.cells #[.int .i64 0, .slice none 0 0] 36)
         have hP := Bx2.made wc (.int .i64 0) (.slice none 0 0) 36
         have hz := Bc.out.size
         obtain ⟨q10, hbb⟩ : ∃ b, b = wc.heap.size := ⟨_, rfl⟩
         rw [← hbb] at hP hz
         obtain ⟨wn, hwn⟩ : ∃ wn, wn = wc.alloc (.cells #[.int .i64 0, .slice none 0 0] 36) := ⟨_, rfl⟩
         rw [← hwn] at hb hP ⊢
         try rw [← hbb]
         try (have NE9 := Lib.hid (show q9 ≠ q10 from by have := N9.out.lt; omega))
         try (have N9 := Lib.hid (N9.out.kept hb))
         have Bc := Lib.hid (below_on Bc.out hb)
         have N10 := Lib.hid hP
         have Zq10 := Lib.hid hz
         clear hb hP hz hbb hwn
         obtain ⟨wc, hwc⟩ : ∃ wc, wc = wn := ⟨_, rfl⟩
         rw [← hwc] at Bc N10 ⊢
         try rw [← hwc] at NE9
         try rw [← hwc] at N9
         clear hwc
         go_simp
         refine hK.out _ _ (KS.out _ Bc.out) (fun h0_2 => ?_)
         clear hK K h0_1
         refine wpAnyH_ready (rs := [14]) (by kernel_rfl) (by simp) (AllReadyH.cons rfl (fun K hK => ?_) AllReadyH.nil)
         rw [if_pos (by rfl)]
         obtain ⟨s0, s1, s2, s3⟩ := N9.out.facts
         go_simp
         have hb := below_put2 Bc.out Zq9.out (.int .i64 x.N) (.slice x.a xl x.c)
         have hN := N9.out.put (.int .i64 x.N) (.slice x.a xl x.c)
         have kN10 := N10.out.aside (y := q9) (by have := N9.out.lt; have := N10.out.lt; have := NE9.out; omega) (.int .i64 x.N) (.slice x.a xl x.c)
         obtain ⟨wn, hwn⟩ : ∃ wn, wn = (wc.setCell ⟨q9, 0, none⟩ (.int .i64 x.N)).setCell ⟨q9, 1, none⟩ (.slice x.a xl x.c) := ⟨_, rfl⟩
         rw [← hwn] at hb hN kN10 ⊢
         have Bc := Lib.hid hb
         have N9 := Lib.hid hN
         have N10 := Lib.hid kN10
         clear hb hN s0 s1 s2 s3 hwn kN10
         obtain ⟨wc, hwc⟩ : ∃ wc, wc = wn := ⟨_, rfl⟩
         rw [← hwc] at Bc N9 N10 ⊢
         clear hwc
         try go_simp
         refine hK.out _ _ (KS.out _ Bc.out) (fun h0_3 => ?_)
         clear hK K h0_2
         refine wpAnyH_ready (rs := [15]) (by kernel_rfl) (by simp) (AllReadyH.cons rfl (fun K hK => ?_) AllReadyH.nil)
         rw [if_pos (by rfl)]
         obtain ⟨s0, s1, s2, s3⟩ := N10.out.facts
         go_simp
         have hb := below_put2 Bc.out Zq10.out (.int .i64 y.N) (.slice y.a yl y.c)
         have hN := N10.out.put (.int .i64 y.N) (.slice y.a yl y.c)
         have kN9 := N9.out.aside (y := q10) (by have := NE9.out; omega) (.int .i64 y.N) (.slice y.a yl y.c)
         obtain ⟨wn, hwn⟩ : ∃ wn, wn = (wc.setCell ⟨q10, 0, none⟩ (.int .i64 y.N)).setCell ⟨q10, 1, none⟩ (.slice y.a yl y.c) := ⟨_, rfl⟩
         rw [← hwn] at hb hN kN9 ⊢
         have Bc := Lib.hid hb
         have N10 := Lib.hid hN
         have N9 := Lib.hid kN9
         clear hb hN s0 s1 s2 s3 hwn kN9
         obtain ⟨wc, hwc⟩ : ∃ wc, wc = wn := ⟨_, rfl⟩
         rw [← hwc] at Bc N10 N9 ⊢
         clear hwc
         try go_simp
         refine hK.out _ _ (KS.out _ Bc.out) (fun h0_4 => ?_)
         clear hK K h0_3
         try simp only [sF]
         try simp only [sE]
         refine wpAnyH_done (by kernel_rfl) ?_ _
         simp only [Exit.then]
         refine hK0 _ _ (Met.intro (hJ0 _ _ ?_))
         (repeat apply Exists.intro)
         refine ⟨?rel, rfl⟩
         case rel => exact ⟨q9, q10, rfl, rfl, Bc, N9, N10⟩
       · rw [if_pos (by rfl)]
         go_simp
         have hb := one_more (w1 := wc) (.cells #[.int .i64 0, .slice none 0 0] 36)
         have hP := Bx2.made wc (.int .i64 0) (.slice none 0 0) 36
         have hz := Bc.out.size
         obtain ⟨q10, hbb⟩ : ∃ b, b = wc.heap.size := ⟨_, rfl⟩
         rw [← hbb] at hP hz
         obtain ⟨wn, hwn⟩ : ∃ wn, wn = wc.alloc (.cells #[.int .i64 0, .slice none 0 0] 36) := ⟨_, rfl⟩
         rw [← hwn] at hb hP ⊢
         try rw [← hbb]
         try (have NE9 := Lib.hid (show q9 ≠ q10 from by have := N9.out.lt; omega))
         try (have N9 := Lib.hid (N9.out.kept hb))
         have Bc := Lib.hid (below_on Bc.out hb)
         have N10 := Lib.hid hP
         have Zq10 := Lib.hid hz
         clear hb hP hz hbb hwn
         obtain ⟨wc, hwc⟩ : ∃ wc, wc = wn := ⟨_, rfl⟩
         rw [← hwc] at Bc N10 ⊢
         try rw [← hwc] at NE9
         try rw [← hwc] at N9
         clear hwc
         go_simp
         refine hK.out _ _ (KS.out _ Bc.out) (fun h0_1 => ?_)
         clear hK K h0
         refine wpAnyH_ready (rs := [12]) (by kernel_rfl) (by simp) (AllReadyH.cons rfl (fun K hK => ?_) AllReadyH.nil)
         rw [if_pos (by rfl)]
         go_simp
         have hb := one_more (w1 := wc) (.cells #[.int .i64 0, .slice none 0 0] 36)
         have hP := Bx2.made wc (.int .i64 0) (.slice none 0 0) 36
         have hz := Bc.out.size
         obtain ⟨q9, hbb⟩ : ∃ b, b = wc.heap.size := ⟨_, rfl⟩
         rw [← hbb] at hP hz
         obtain ⟨wn, hwn⟩ : ∃ wn, wn = wc.alloc (.cells #[.int .i64 0, .slice none 0 0] 36) := ⟨_, rfl⟩
         rw [← hwn] at hb hP ⊢
         try rw [← hbb]
         try (have NE9 := Lib.hid (show q9 ≠ q10 from by have := N10.out.lt; omega))
         try (have N10 := Lib.hid (N10.out.kept hb))
         have Bc := Lib.hid (below_on Bc.out hb)
         have N9 := Lib.hid hP
         have Zq9 := Lib.hid hz
         clear hb hP hz hbb hwn
         obtain ⟨wc, hwc⟩ : ∃ wc, wc = wn := ⟨_, rfl⟩
         rw [← hwc] at Bc N9 ⊢
         try rw [← hwc] at NE9
         try rw [← hwc] at N10
         clear hwc
         go_simp
         refine hK.out _ _ (KS.out _ Bc.out) (fun h0_5 => ?_)
         clear hK K h0_1
         refine wpAnyH_ready (rs := [14]) (by kernel_rfl) (by simp) (AllReadyH.cons rfl (fun K hK => ?_) AllReadyH.nil)
         rw [if_pos (by rfl)]
         obtain ⟨s0, s1, s2, s3⟩ := N9.out.facts
         go_simp
         have hb := below_put2 Bc.out Zq9.out (.int .i64 x.N) (.slice x.a xl x.c)
         have hN := N9.out.put (.int .i64 x.N) (.slice x.a xl x.c)
         have kN10 := N10.out.aside (y := q9) (by have := N9.out.lt; have := N10.out.lt; have := NE9.out; omega) (.int .i64 x.N) (.slice x.a xl x.c)
         obtain ⟨wn, hwn⟩ : ∃ wn, wn = (wc.setCell ⟨q9, 0, none⟩ (.int .i64 x.N)).setCell ⟨q9, 1, none⟩ (.slice x.a xl x.c) := ⟨_, rfl⟩
         rw [← hwn] at hb hN kN10 ⊢
         have Bc := Lib.hid hb
         have N9 := Lib.hid hN
         have N10 := Lib.hid kN10
         clear hb hN s0 s1 s2 s3 hwn kN10
         obtain ⟨wc, hwc⟩ : ∃ wc, wc = wn := ⟨_, rfl⟩
         rw [← hwc] at Bc N9 N10 ⊢
         clear hwc
         try go_simp
         refine hK.out _ _ (KS.out _ Bc.out) (fun h0_6 => ?_)
         clear hK K h0_5
         refine wpAnyH_ready (rs := [15]) (by kernel_rfl) (by simp) (AllReadyH.cons rfl (fun K hK => ?_) AllReadyH.nil)
         rw [if_pos (by rfl)]
         obtain ⟨s0, s1, s2, s3⟩ := N10.out.facts
         go_simp
         have hb := below_put2 Bc.out Zq10.out (.int .i64 y.N) (.slice y.a yl y.c)
         have hN := N10.out.put (.int .i64 y.N) (.slice y.a yl y.c)
         have kN9 := N9.out.aside (y := q10) (by have := NE9.out; omega) (.int .i64 y.N) (.slice y.a yl y.c)
         obtain ⟨wn, hwn⟩ : ∃ wn, wn = (wc.setCell ⟨q10, 0, none⟩ (.int .i64 y.N)).setCell ⟨q10, 1, none⟩ (.slice y.a yl y.c) := ⟨_, rfl⟩
         rw [← hwn] at hb hN kN9 ⊢
         have Bc := Lib.hid hb
         have N10 := Lib.hid hN
         have N9 := Lib.hid kN9
         clear hb hN s0 s1 s2 s3 hwn kN9
         obtain ⟨wc, hwc⟩ : ∃ wc, wc = wn := ⟨_, rfl⟩
         rw [← hwc] at Bc N10 N9 ⊢
         clear hwc
         try go_simp
         refine hK.out _ _ (KS.out _ Bc.out) (fun h0_7 => ?_)
         clear hK K h0_6
         try simp only [sF]
         try simp only [sE]
         refine wpAnyH_done (by kernel_rfl) ?_ _
         simp only [Exit.then]
         refine hK0 _ _ (Met.intro (hJ0 _ _ ?_))
         (repeat apply Exists.intro)
         refine ⟨?rel, rfl⟩
         case rel => exact ⟨q9, q10, rfl, rfl, Bc, N9, N10⟩
      generalize wc = wd at *
      obtain ⟨q9, q10, rfl, rfl, D5, N9, N10⟩ := hcut
      clear hmn hmx q1
      obtain ⟨f0, f1, _, _⟩ := N9.out.facts
      obtain ⟨g0, g1, _, _⟩ := N10.out.facts
      go_wp2_with fail
      refine (HU.out _ D5.out).mono ?_
      rintro e w3 ⟨hb, h, rfl, hz, hp⟩
      obtain ⟨e3, he3⟩ : ∃ e3, e3 = (hlP x.p y.p).2 := ⟨_, rfl⟩
      rw [← he3] at hp ⊢
      have E3 := Lib.hid he3
      have HP := Lib.hid hp
      have HZ := Lib.hid (show ZAt w.heap.size w3 h from hz.low (by have := (below_on BW.out D5.out).size; omega))
      have HF := Lib.hid (show ∀ p, h.a = some p → q7 < p.block from fun p e => by have := (hz.2 p e).1; have := (below_on BE.out D5.out).size; have := Q7.out; have := HQ7.out; omega)
      have D6 := Lib.hid (below_on D5.out hb)
      have N9 := Lib.hid (N9.out.kept hb)
      have N10 := Lib.hid (N10.out.kept hb)
      have MU := Lib.hid (fun W => mustZ_any h e3 W)
      have ON := Lib.hid (show ∀ W, ZAt 0 W h → Calls Tryz.prog 142 #[h.val] W (fun e w' => ∃ g, e = .returned (.slice (some ⟨g, 0, none⟩) 1 1) ∧ OwnZ W.heap.size 0 w' (.slice (some ⟨g, 0, none⟩) 1 1) [h] ∧ Below W.heap.size W w') from fun W k => one_own h W k)
      unfold ZV.val at MU ON ⊢
      obtain ⟨hl, hhl⟩ : ∃ hl, hl = h.l.length := ⟨_, rfl⟩
      rw [← hhl] at MU ON ⊢
      have HHL := Lib.hid hhl
      clear hb hz hp he3 f0 f1 g0 g1 HU hhl
      go_wp2_with fail
      refine (MU.out _).mono ?_
      rintro e w4 ⟨hb, (⟨he, rfl⟩ | ⟨he, rfl⟩)⟩
      rotate_left
      · have TE : T.2 = e3 := by
         rw [HK.out]
         have e4 : (hlP x.p y.p).2 ≠ 0 := by rw [← E3.out]; exact he
         have : (tryP x.p y.p).2 = e3 := by unfold tryP; rw [if_pos e4, ← E3.out]
         rw [if_pos (by rw [this]; exact he), this]
        exact And.intro rfl ⟨below_on BW.out (below_on D6.out hb), Or.inr ⟨by rw [TE]; exact he, by rw [TE]⟩⟩
      have HP := Lib.hid (HP.out he)
      have E0 := Lib.hid (show (hlP x.p y.p).2 = 0 by rw [← E3.out]; exact he)
      have HZ := Lib.hid (HZ.out.on hb)
      have D7 := Lib.hid (below_on D6.out hb)
      have N9 := Lib.hid (N9.out.kept hb)
      have N10 := Lib.hid (N10.out.kept hb)
      obtain ⟨w5, hw5⟩ : ∃ w5, w5 = w4.alloc (.cells #[.int .i64 h.N, .slice h.a hl h.c] 36) := ⟨_, rfl⟩
      have hb5 : Below w4.heap.size w4 w5 := by rw [hw5]; exact one_more _
      have N11 := Lib.hid (show Bx2 w5 w4.heap.size (.int .i64 h.N) (.slice h.a hl h.c) 36 by rw [hw5]; exact Bx2.made w4 _ _ _)
      have D8 := Lib.hid (below_on D7.out hb5)
      have HZ := Lib.hid (HZ.out.on hb5)
      have N9 := Lib.hid (N9.out.kept hb5)
      have N10 := Lib.hid (N10.out.kept hb5)
      have Q11 := Lib.hid (show q7 < w4.heap.size from by
       have := HQ7.out; have := Q7.out; have := BE.out.size; have := D7.out.size; omega)
      have MI := Lib.hid (show ∀ W a2 c2, RdZ 0 W (some a2) [h] → ∀ b2 d2, RdZ 0 W (some b2) [x, y] → Calls Tryz.prog 49 #[.slice (some a2) 1 c2, .slice (some b2) 2 d2] W (MiRes 0 W [x.p, y.p] (mnP [(hlP x.p y.p).1] [x.p, y.p])) from fun W a2 c2 h1 b2 d2 h2 => by
       have := fminus_any [h] [x, y] (some a2) (some b2) c2 d2 0 W (Nat.zero_le _) h1 h2 (by simp) (by simp)
       simp only [List.map_cons, List.map_nil, HP.out] at this
       exact this)
      clear hb he MU hb5
      go_upto_region 7 with (fail)
      rw [← hw5]
      clear hw5
      generalize w4.heap.size = q11 at *
      go_cut [47] from 52 (fun s47 wx => ∃ bb : Bool, s47 = .bool bb ∧ Hid (Below w5.heap.size w5 wx) ∧ Hid ((mnP [(hlP x.p y.p).1] [x.p, y.p]).2 = 0) ∧ Hid (bb = decide ((mnP [(hlP x.p y.p).1] [x.p, y.p]).1.length = 0)))
      case first =>
       rename_i J0 K0 hJ0 hK0
       have KS := Lib.hid (show ∀ W, Below w5.heap.size w5 W → (W.cell? ⟨q11, 0, none⟩ = some (.int .i64 h.N) ∧ W.cell? ⟨q11, 1, none⟩ = some (.slice h.a hl h.c) ∧ W.cell? ⟨q9, 0, none⟩ = some (.int .i64 x.N) ∧ W.cell? ⟨q9, 1, none⟩ = some (.slice x.a xl x.c) ∧ W.cell? ⟨q10, 0, none⟩ = some (.int .i64 y.N) ∧ W.cell? ⟨q10, 1, none⟩ = some (.slice y.a yl y.c)) from fun W h => ⟨(N11.out.kept h).facts.1, (N11.out.kept h).facts.2.1, (N9.out.kept h).facts.1, (N9.out.kept h).facts.2.1, (N10.out.kept h).facts.1, (N10.out.kept h).facts.2.1⟩)
       obtain ⟨wc, hwc⟩ : ∃ wc, wc = w5.drew := ⟨_, rfl⟩
       have Bc := Lib.hid (show Below w5.heap.size w5 wc by rw [hwc]; exact (Below.refl _ _).drew)
       refine wp_region_held_drew (S := (fun W => (W.cell? ⟨q11, 0, none⟩ = some (.int .i64 h.N) ∧ W.cell? ⟨q11, 1, none⟩ = some (.slice h.a hl h.c) ∧ W.cell? ⟨q9, 0, none⟩ = some (.int .i64 x.N) ∧ W.cell? ⟨q9, 1, none⟩ = some (.slice x.a xl x.c) ∧ W.cell? ⟨q10, 0, none⟩ = some (.int .i64 y.N) ∧ W.cell? ⟨q10, 1, none⟩ = some (.slice y.a yl y.c)))) (by kernel_rfl) (by rw [← hwc]; exact KS.out _ Bc.out) (fun h0 => ?_)
       rw [← hwc] at h0 ⊢
       clear hwc
       refine tkI (i := 0) rfl h0 ?_
       simp only [Act.put, sA, sB, sD, sE, sF]
       refine tkI (i := 2) rfl h0 ?_
       simp only [Act.put, sZ]
       refine tkI (i := 3) rfl h0 ?_
       simp only [Act.put, sZ]
       refine wpAnyH_ready (rs := [1, 4]) (by kernel_rfl) (by simp) (AllReadyH.cons rfl (fun K hK => ?_) (AllReadyH.cons rfl (fun K hK => ?_) AllReadyH.nil))
       · rw [if_pos (by rfl)]
         go_simp
         refine (ON.out wc ((HZ.out.on Bc.out).low (Nat.zero_le _))).mono ?_
         rintro e wd ⟨g1, rfl, how, hb⟩
         have OW1 := Lib.hid how
         try (have OW2 := Lib.hid (OW2.out.on hb))
         have Bc := Lib.hid (below_on Bc.out hb)
         clear hb how
         obtain ⟨wc, hwc⟩ : ∃ wc, wc = wd := ⟨_, rfl⟩
         rw [← hwc] at Bc OW1 ⊢
         try rw [← hwc] at OW2
         clear hwc
         go_simp
         refine hK.out _ _ (KS.out _ Bc.out) (fun h0_1 => ?_)
         clear hK K h0
         refine wpAnyH_ready (rs := [4]) (by kernel_rfl) (by simp) (AllReadyH.cons rfl (fun K hK => ?_) AllReadyH.nil)
         rw [if_pos (by rfl)]
         go_simp
         have hb := one_more (w1 := wc) (.cells #[.int .i64 x.N, .slice x.a xl x.c, .int .i64 y.N, .slice y.a yl y.c] 36)
         have hP := T2.out wc ((XZ.out.on D8.out).on Bc.out) ((YZ.out.on D8.out).on Bc.out)
         have hz := Bc.out.size
         obtain ⟨b2, hbb⟩ : ∃ b, b = wc.heap.size := ⟨_, rfl⟩
         rw [← hbb] at hP hz
         obtain ⟨wn, hwn⟩ : ∃ wn, wn = wc.alloc (.cells #[.int .i64 x.N, .slice x.a xl x.c, .int .i64 y.N, .slice y.a yl y.c] 36) := ⟨_, rfl⟩
         rw [← hwn] at hb hP ⊢
         try rw [← hbb]
         try (have OW1 := Lib.hid (OW1.out.on hb))
         have Bc := Lib.hid (below_on Bc.out hb)
         have OW2 := Lib.hid hP
         have Zb2 := Lib.hid hz
         clear hb hP hz hbb hwn
         obtain ⟨wc, hwc⟩ : ∃ wc, wc = wn := ⟨_, rfl⟩
         rw [← hwc] at Bc OW2 ⊢
         try rw [← hwc] at OW1
         clear hwc
         go_simp
         refine hK.out _ _ (KS.out _ Bc.out) (fun h0_2 => ?_)
         clear hK K h0_1
         refine wpAnyH_ready (rs := [5]) (by kernel_rfl) (by simp) (AllReadyH.cons rfl (fun K hK => ?_) AllReadyH.nil)
         rw [if_pos (by rfl)]
         go_simp
         refine (MI.out wc _ 1 (show RdZ 0 wc (some ⟨g1, 0, none⟩) [h] from (show OwnZ _ 0 wc (.slice (some ⟨g1, 0, none⟩) [h].length 1) [h] from OW1.out).rd.1) _ 2 (show RdZ 0 wc (some ⟨b2, 0, none⟩) [x, y] from (show OwnZ _ 0 wc (.slice (some ⟨b2, 0, none⟩) [x, y].length 2) [x, y] from OW2.out).rd.1)).mono ?_
         rintro e wd ⟨hb, (⟨hm0, ao, cap, Z, rfl, hmz, _, _, zle⟩ | ⟨hm0, rfl⟩)⟩
         rotate_left
         · have TR : (tryP x.p y.p).2 = (mnP [(hlP x.p y.p).1] [x.p, y.p]).2 := by unfold tryP; rw [if_neg (by rw [E0.out]; simp), if_pos hm0]
           have TE : T.2 = (mnP [(hlP x.p y.p).1] [x.p, y.p]).2 := by rw [HK.out, if_pos (by rw [TR]; exact hm0), TR]
           exact And.intro rfl ⟨below_on BW.out (below_on D8.out (below_on Bc.out hb)), Or.inr ⟨by rw [TE]; exact hm0, by rw [TE]⟩⟩
         have M0 := Lib.hid hm0
         have Bc := Lib.hid (below_on Bc.out hb)
         obtain ⟨zn, hzn⟩ : ∃ zn, zn = Z.length := ⟨_, rfl⟩
         rw [← hzn]
         have ML := Lib.hid (show (mnP [(hlP x.p y.p).1] [x.p, y.p]).1.length = zn by rw [← hmz, hzn]; simp)
         have zn_le : zn ≤ 1000000 := by omega
         clear hb hm0 hmz hzn zle OW1 OW2
         obtain ⟨wc, hwc⟩ : ∃ wc, wc = wd := ⟨_, rfl⟩
         rw [← hwc] at Bc ⊢
         clear hwc
         go_simp
         refine hK.out _ _ (KS.out _ Bc.out) (fun h0_3 => ?_)
         clear hK K h0_2
         refine tkI (i := 6) rfl h0_3 ?_
         simp only [Act.put, sZ]
         refine tkI (i := 7) rfl h0_3 ?_
         simp only [Act.put, sA, sB, sC, sD]
         try simp only [sF]
         try simp only [sE]
         refine wpAnyH_done (by kernel_rfl) ?_ _
         simp only [Exit.then]
         refine hK0 _ _ (Met.intro (hJ0 _ _ ?_))
         (repeat apply Exists.intro)
         refine ⟨?rel, rfl⟩
         case rel => exact ⟨_, rfl, Bc, M0, Lib.hid (by rw [ML.out]; exact beq_dec zn)⟩
       · rw [if_pos (by rfl)]
         go_simp
         have hb := one_more (w1 := wc) (.cells #[.int .i64 x.N, .slice x.a xl x.c, .int .i64 y.N, .slice y.a yl y.c] 36)
         have hP := T2.out wc ((XZ.out.on D8.out).on Bc.out) ((YZ.out.on D8.out).on Bc.out)
         have hz := Bc.out.size
         obtain ⟨b2, hbb⟩ : ∃ b, b = wc.heap.size := ⟨_, rfl⟩
         rw [← hbb] at hP hz
         obtain ⟨wn, hwn⟩ : ∃ wn, wn = wc.alloc (.cells #[.int .i64 x.N, .slice x.a xl x.c, .int .i64 y.N, .slice y.a yl y.c] 36) := ⟨_, rfl⟩
         rw [← hwn] at hb hP ⊢
         try rw [← hbb]
         try (have OW1 := Lib.hid (OW1.out.on hb))
         have Bc := Lib.hid (below_on Bc.out hb)
         have OW2 := Lib.hid hP
         have Zb2 := Lib.hid hz
         clear hb hP hz hbb hwn
         obtain ⟨wc, hwc⟩ : ∃ wc, wc = wn := ⟨_, rfl⟩
         rw [← hwc] at Bc OW2 ⊢
         try rw [← hwc] at OW1
         clear hwc
         go_simp
         refine hK.out _ _ (KS.out _ Bc.out) (fun h0_1 => ?_)
         clear hK K h0
         refine wpAnyH_ready (rs := [1]) (by kernel_rfl) (by simp) (AllReadyH.cons rfl (fun K hK => ?_) AllReadyH.nil)
         rw [if_pos (by rfl)]
         go_simp
         refine (ON.out wc ((HZ.out.on Bc.out).low (Nat.zero_le _))).mono ?_
         rintro e wd ⟨g1, rfl, how, hb⟩
         have OW1 := Lib.hid how
         try (have OW2 := Lib.hid (OW2.out.on hb))
         have Bc := Lib.hid (below_on Bc.out hb)
         clear hb how
         obtain ⟨wc, hwc⟩ : ∃ wc, wc = wd := ⟨_, rfl⟩
         rw [← hwc] at Bc OW1 ⊢
         try rw [← hwc] at OW2
         clear hwc
         go_simp
         refine hK.out _ _ (KS.out _ Bc.out) (fun h0_4 => ?_)
         clear hK K h0_1
         refine wpAnyH_ready (rs := [5]) (by kernel_rfl) (by simp) (AllReadyH.cons rfl (fun K hK => ?_) AllReadyH.nil)
         rw [if_pos (by rfl)]
         go_simp
         refine (MI.out wc _ 1 (show RdZ 0 wc (some ⟨g1, 0, none⟩) [h] from (show OwnZ _ 0 wc (.slice (some ⟨g1, 0, none⟩) [h].length 1) [h] from OW1.out).rd.1) _ 2 (show RdZ 0 wc (some ⟨b2, 0, none⟩) [x, y] from (show OwnZ _ 0 wc (.slice (some ⟨b2, 0, none⟩) [x, y].length 2) [x, y] from OW2.out).rd.1)).mono ?_
         rintro e wd ⟨hb, (⟨hm0, ao, cap, Z, rfl, hmz, _, _, zle⟩ | ⟨hm0, rfl⟩)⟩
         rotate_left
         · have TR : (tryP x.p y.p).2 = (mnP [(hlP x.p y.p).1] [x.p, y.p]).2 := by unfold tryP; rw [if_neg (by rw [E0.out]; simp), if_pos hm0]
           have TE : T.2 = (mnP [(hlP x.p y.p).1] [x.p, y.p]).2 := by rw [HK.out, if_pos (by rw [TR]; exact hm0), TR]
           exact And.intro rfl ⟨below_on BW.out (below_on D8.out (below_on Bc.out hb)), Or.inr ⟨by rw [TE]; exact hm0, by rw [TE]⟩⟩
         have M0 := Lib.hid hm0
         have Bc := Lib.hid (below_on Bc.out hb)
         obtain ⟨zn, hzn⟩ : ∃ zn, zn = Z.length := ⟨_, rfl⟩
         rw [← hzn]
         have ML := Lib.hid (show (mnP [(hlP x.p y.p).1] [x.p, y.p]).1.length = zn by rw [← hmz, hzn]; simp)
         have zn_le : zn ≤ 1000000 := by omega
         clear hb hm0 hmz hzn zle OW1 OW2
         obtain ⟨wc, hwc⟩ : ∃ wc, wc = wd := ⟨_, rfl⟩
         rw [← hwc] at Bc ⊢
         clear hwc
         go_simp
         refine hK.out _ _ (KS.out _ Bc.out) (fun h0_5 => ?_)
         clear hK K h0_4
         refine tkI (i := 6) rfl h0_5 ?_
         simp only [Act.put, sZ]
         refine tkI (i := 7) rfl h0_5 ?_
         simp only [Act.put, sA, sB, sC, sD]
         try simp only [sF]
         try simp only [sE]
         refine wpAnyH_done (by kernel_rfl) ?_ _
         simp only [Exit.then]
         refine hK0 _ _ (Met.intro (hJ0 _ _ ?_))
         (repeat apply Exists.intro)
         refine ⟨?rel, rfl⟩
         case rel => exact ⟨_, rfl, Bc, M0, Lib.hid (by rw [ML.out]; exact beq_dec zn)⟩
      generalize wc = wd at *
      obtain ⟨bb, rfl, Bc, M0, ML⟩ := hcut
      have D9 := Lib.hid (below_on D8.out Bc.out)
      have N11 := Lib.hid (N11.out.kept Bc.out)
      have HZ := Lib.hid (HZ.out.on Bc.out)
      clear Bc N9 N10 T2 MI ON
      try simp only [Exit.then]
      have TR : tryP x.p y.p = (((hlP x.p y.p).1, bb), 0) := by
       unfold tryP
       rw [if_neg (by rw [E0.out]; simp), if_neg (by rw [M0.out]; simp), ← ML.out]
      cases bb with
      | true =>
       have TE := Lib.hid (show T = ((t, (hlP x.p y.p).1), 0) by rw [HK.out, TR]; simp)
       clear TR
       go_upto_region 8 with (fail)
       have KS := Lib.hid (show ∀ W, Below wd.heap.size wd W → (W.cell? ⟨q11, 0, none⟩ = some (.int .i64 h.N) ∧ W.cell? ⟨q11, 1, none⟩ = some (.slice h.a hl h.c)) from fun W h => ⟨(N11.out.kept h).facts.1, (N11.out.kept h).facts.2.1⟩)
       obtain ⟨wc, hwc⟩ : ∃ wc, wc = wd.drew := ⟨_, rfl⟩
       have Bc := Lib.hid (show Below wd.heap.size wd wc by rw [hwc]; exact (Below.refl _ _).drew)
       refine wp_region_held_drew (S := (fun W => (W.cell? ⟨q11, 0, none⟩ = some (.int .i64 h.N) ∧ W.cell? ⟨q11, 1, none⟩ = some (.slice h.a hl h.c)))) (by kernel_rfl) (by rw [← hwc]; exact KS.out _ Bc.out) (fun h0 => ?_)
       rw [← hwc] at h0 ⊢
       clear hwc
       refine tkI (i := 0) rfl h0 ?_
       simp only [Act.put, sA, sB, sD, sE, sF]
       refine tkI (i := 1) rfl h0 ?_
       simp only [Act.put, sZ]
       refine tkI (i := 2) rfl h0 ?_
       simp only [Act.put, sZ]
       refine wpAnyH_ready (rs := [3]) (by kernel_rfl) (by simp) (AllReadyH.cons rfl (fun K hK => ?_) AllReadyH.nil)
       rw [if_pos (by rfl)]
       obtain ⟨s0, s1, s2, s3⟩ := ((X7.out.kept (below_on BE.out D9.out)).kept Bc.out).facts
       go_simp
       refine hK.out _ _ (by have := ((N11.out.kept Bc.out).aside (y := q7) (by have := Q11.out; omega) (.int .i64 h.N) (.slice h.a hl h.c)).facts; exact ⟨this.1, this.2.1⟩) (fun h0_1 => ?_)
       clear hK K h0
       try simp only [sF]
       try simp only [sE]
       refine wpAnyH_done (by kernel_rfl) ?_ _
       simp only [Exit.then]
       have r0 := (((X7.out.kept (below_on BE.out D9.out)).kept Bc.out).put (.int .i64 h.N) (.slice h.a hl h.c)).facts
       obtain ⟨r0, r1, _, _⟩ := r0
       have BE8 := Lib.hid (below_put2 (below_on (below_on BW.out D9.out) Bc.out) (b := q7) (by have := HQ7.out; omega) (.int .i64 h.N) (.slice h.a hl h.c))
       have HZ8 := Lib.hid ((HZ.out.on Bc.out).grown (r := some q7) (grown_put2 wc q7 (.int .i64 h.N) (.slice h.a hl h.c)) (fun p e q => by injection q with q; have := (HF.out p e); omega))
       obtain ⟨we, hwe⟩ : ∃ we, we = (wc.setCell ⟨q7, 0, none⟩ (.int .i64 h.N)).setCell ⟨q7, 1, none⟩ (.slice h.a hl h.c) := ⟨_, rfl⟩
       rw [← hwe] at BE8 HZ8 r0 r1 ⊢
       clear hwe s0 s1 s2 s3
       go_wp2_with fail
       refine bodyPost_ret (v := .tuple #[.int .i64 t, .agg #[.int .i64 h.N, .slice h.a hl h.c]]) (by simp [results, Tryz.results102, go_sem, r0, r1]) rfl ?_
       exact ⟨BE8.out, Or.inl ⟨by rw [TE.out], h, by rw [TE.out, HHL.out]; rfl, HZ8.out, by rw [TE.out, HP.out]⟩⟩
      | false =>
       have TE := Lib.hid (show T = prP (L.map ZV.p) i k2 (t + 1) by rw [HK.out, TR]; simp)
       have BN := Lib.hid (below_on BE.out D9.out)
       clear TR
       go_wp2_with fail
       go_roundw
       case rel => exact ⟨t + 1, by go_num, by omega, BN, Lib.hid ⟨k2, TE.out, hkn2⟩⟩
       case measure => simp [intOf]; omega
  · obtain ⟨k, hk, hkn⟩ := HI.out
    have TE := Lib.hid (show T = ((i, (0, [])), 0) by rw [hk]; exact prP_end (by have := HN.out; simp; omega))
    have X8 := Lib.hid (X7.out.kept BE.out)
    have BW := Lib.hid (below_on B1.out BE.out)
    clear HI hk TT
    obtain ⟨f0, f1, f2, f3⟩ := X8.out.facts
    go_wp2_with fail
    obtain ⟨r0, r1, _, _⟩ := (X8.out.put (.int .i64 0) (.slice none 0 0)).facts
    have BE9 := below_put2 BW.out (b := q7) (by have := HQ7.out; omega) (.int .i64 0) (.slice none 0 0)
    refine bodyPost_ret (v := .tuple #[.int .i64 i, .agg #[.int .i64 0, .slice none 0 0]]) (by simp [results, Tryz.results102, go_sem, r0, r1]) rfl ?_
    exact ⟨BE9, Or.inl ⟨by rw [TE.out], ⟨0, none, 0, []⟩, by rw [TE.out]; rfl, ⟨fun h => absurd rfl h, fun p e => by cases e⟩, by rw [TE.out]; rfl⟩⟩
end Go.Proofs.YthjapmdfcbngmaaGreat
