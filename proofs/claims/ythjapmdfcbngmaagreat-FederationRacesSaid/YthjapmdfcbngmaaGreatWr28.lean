/- A part. -/
import Derived.Test.YthjapmdfcbngmaaGreatWr11
import Derived.Test.YthjapmdfcbngmaaGreatWr27
import Derived.Test.YthjapmdfcbngmaaGreatWr23
import Derived.Defers
import Derived.Recover
namespace Go.Proofs.YthjapmdfcbngmaaGreat
set_option maxHeartbeats 8000000
open Go.RowKit
def ckZ (f z : Zp) : Bool := decide (chkE z.1 z.2 = 0) && decide (z.1 = f.1)
def ckL (all : List Zp) : Int := if all.all (ckZ (all.headD (0, []))) then 0 else 2
def chkG (G : List (List Zp)) : Int := if G.any (fun L => decide (2000 < L.length)) then 3 else ckL G.flatten
theorem ckL_bad {all : List Zp} {t : Nat} (ht : t < all.length) (h : ckZ (all.headD (0, [])) all[t] = false) : ckL all = 2 := by
 unfold ckL
 rw [if_neg]
 intro q
 rw [List.all_eq_true] at q
 have := q _ (List.getElem_mem ht)
 rw [h] at this; cases this
theorem ckL_good {all : List Zp} (h : ∀ t, ∀ ht : t < all.length, ckZ (all.headD (0, [])) all[t] = true) : ckL all = 0 := by
 unfold ckL
 rw [if_pos]
 rw [List.all_eq_true]
 intro x hx
 obtain ⟨t, ht, rfl⟩ := List.getElem_of_mem hx
 exact h t ht
theorem ckZ_yes {f z : ZV} (h1 : chkE z.N z.l = 0) (h2 : z.N = f.N) : ckZ f.p z.p = true := by unfold ckZ ZV.p; simp only [Bool.and_eq_true, decide_eq_true_eq]; exact ⟨h1, h2⟩
theorem ckZ_no1 {f z : ZV} (h1 : chkE z.N z.l ≠ 0) : ckZ f.p z.p = false := by unfold ckZ ZV.p; simp [h1]
theorem ckZ_no2 {f z : ZV} (h2 : z.N ≠ f.N) : ckZ f.p z.p = false := by unfold ckZ ZV.p; simp [h2]
theorem head_p (A : List ZV) (h : 0 < A.length) : (A.map ZV.p).headD (0, []) = (A[0]'h).p := by
 cases A with
 | nil => simp at h
 | cons x r => simp
theorem add_nil2 (p : Addr) : p.add (0 * 2) = p := by
 obtain ⟨b, o, s⟩ := p
 unfold Addr.add
 split <;> simp_all
theorem map_flat (G : List (List ZV)) : (G.map (List.map ZV.p)).flatten = G.flatten.map ZV.p := by rw [List.map_flatten]
set_option maxRecDepth 100000 in
theorem fcheckW_any (G : List (List ZV)) (go : Option Addr) (gc : Nat) (w : World) (hG : RdGW w go G) (hgl : G.length ≤ 10) (hl : ∀ L ∈ G, L.length ≤ 3000) :
  Calls Tryz.prog 38 #[.slice go G.length gc] w (Made (.int .i64 (chkG (G.map (List.map ZV.p)))) w) := by
 have HG := Lib.hid hG
 have LL := Lib.hid hl
 have CC := Lib.hid (zconcatW_any G go gc w hG hgl hl)
 have EL := Lib.hid (show ∀ z ∈ G.flatten, ZW w z from fun z hz => by
  rw [List.mem_flatten] at hz
  obtain ⟨L, h1, h2⟩ := hz
  obtain ⟨t, ht, rfl⟩ := List.getElem_of_mem h1
  obtain ⟨p, a, c, _, _, r, _⟩ := hG.hd t ht
  exact r.el z h2)
 have FN := Lib.hid (show G.flatten.length ≤ 30000 by
  have := flat_len G G.length
  rw [List.take_of_length_le (Nat.le_refl _)] at this
  have h2 := sumZ_le hl G.length (Nat.le_refl _)
  have : G.length * 3000 ≤ 10 * 3000 := Nat.mul_le_mul (by omega) (Nat.le_refl _)
  omega)
 obtain ⟨m, hm⟩ : ∃ m, m = G.length := ⟨_, rfl⟩
 have HM := Lib.hid hm
 have hm10 : m ≤ 10 := by omega
 rw [← hm] at CC ⊢
 clear hG hgl hl hm
 go_enter Tryz.func38, Tryz.ntmps38
 go_wp2_with fail
 go_loopw [4, 10] (fun _ s wr => ∃ j : Nat, j ≤ m ∧ s = .int .i64 j ∧ wr = w ∧ Hid (∀ t, ∀ h : t < G.length, t < j → (G[t]).length ≤ 2000)) (fun _ s _ => m - (intOf s).toNat)
 case atStart => exact ⟨0, by omega, rfl, rfl, Lib.hid (fun t h q => by omega)⟩
 case round =>
  obtain ⟨j, hj, rfl, hw, HF⟩ := hrel
  rw [hw]
  clear hw
  by_cases hjm : j < m
  · have hlt : j < G.length := by have := HM.out; omega
    have HLT := Lib.hid hlt
    obtain ⟨p, a, c, ep, f, r, _⟩ := HG.out.hd j hlt
    obtain ⟨k, hk⟩ : ∃ k, k = (G[j]'hlt).length := ⟨_, rfl⟩
    have LK := Lib.hid (show k ≤ 3000 by rw [hk]; exact LL.out _ (List.getElem_mem _))
    have f2 : w.cell? (p.add j) = some (.slice a k c) := by rw [hk]; exact f
    have HK := Lib.hid (show k = (G[j]'HLT.out).length from hk)
    have lk := LK.out
    clear r hk hlt f
    subst ep
    by_cases hk2 : 2000 < k
    · have hk3 : (2000 : Int) < k := by omega
      go_wp2_with fail
      go_ret
      refine ⟨?_, Below.refl _ _⟩
      have : chkG (G.map (List.map ZV.p)) = 3 := by
       unfold chkG
       rw [if_pos]
       rw [List.any_eq_true]
       exact ⟨(G[j]'HLT.out).map ZV.p, List.mem_map.2 ⟨_, List.getElem_mem _, rfl⟩, by simp; have := HK.out; omega⟩
      rw [this]; rfl
    · have hk3 : ¬ (2000 : Int) < k := by omega
      go_wp2_with fail
      go_roundw
      case rel => exact ⟨j + 1, by omega, by go_num, trivial, Lib.hid fun t h q => by
       by_cases e : t = j
       · subst e; have := HK.out; omega
       · exact HF.out t h (by omega)⟩
      case measure => simp [intOf]; omega
  · have NL := Lib.hid (show chkG (G.map (List.map ZV.p)) = ckL (G.flatten.map ZV.p) by
     unfold chkG
     rw [if_neg, map_flat]
     rw [List.any_eq_true]
     rintro ⟨L, h1, h2⟩
     rw [List.mem_map] at h1
     obtain ⟨L, h1, rfl⟩ := h1
     obtain ⟨t, ht, rfl⟩ := List.getElem_of_mem h1
     have := HF.out t ht (by have := HM.out; omega)
     simp at h2; omega)
    clear HF
    go_wp2_with fail
    refine CC.out.mono ?_
    rintro e w1 ⟨hb1, v, rfl, hv⟩
    have B1 := Lib.hid hb1
    have RZ := Lib.hid (show ∃ ao cap, v = .slice ao G.flatten.length cap ∧ RdW w1 ao G.flatten from by
     exact ownW_read hv (fun z hz => (EL.out z hz).on hb1))
    clear hb1 hv CC
    obtain ⟨ao, cap, rfl, rz⟩ := RZ.out
    have RR := Lib.hid rz
    obtain ⟨A, hA⟩ : ∃ A, A = G.flatten := ⟨_, rfl⟩
    rw [← hA] at RR FN NL ⊢
    obtain ⟨n, hn⟩ : ∃ n, n = A.length := ⟨_, rfl⟩
    have HN := Lib.hid hn
    have fn := FN.out
    rw [← hn] at fn ⊢
    clear rz RZ hA hn EL
    go_wp2_with fail
    go_loopw [22] (fun s wr => ∃ t : Nat, t ≤ n ∧ s = .int .i64 t ∧ Hid (Below w.heap.size w wr ∧ RdW wr ao A) ∧ Hid (∀ i, ∀ h : i < (A.map ZV.p).length, i < t → ckZ ((A.map ZV.p).headD (0, [])) (A.map ZV.p)[i] = true)) (fun s _ => n - (intOf s).toNat)
    case atStart => exact ⟨0, by omega, rfl, Lib.hid ⟨B1.out, RR.out⟩, Lib.hid (fun i h q => by omega)⟩
    case round =>
     generalize wr = wo at *
     obtain ⟨t, ht, rfl, HB, HF⟩ := hrel
     by_cases htn : t < n
     · have hlt : t < A.length := by have := HN.out; omega
       have HLT := Lib.hid (show t < (A.map ZV.p).length by simpa using hlt)
       obtain ⟨a, ea, h0, h1⟩ := HB.out.2.hd t hlt
       obtain ⟨a', ea', g0, g1⟩ := HB.out.2.hd 0 (by omega)
       have eaa : a' = a := by rw [ea] at ea'; injection ea' with e; exact e.symm
       subst eaa
       obtain ⟨z, hz⟩ : ∃ z, z = A[t] := ⟨_, rfl⟩
       obtain ⟨y, hy⟩ : ∃ y, y = A[0]'(by omega) := ⟨_, rfl⟩
       have HM1 := Lib.hid (HB.out.2.el z (by rw [hz]; exact List.getElem_mem _))
       have ZP := Lib.hid (show (A.map ZV.p)[t]'HLT.out = z.p by rw [hz]; simp)
       have YP := Lib.hid (show (A.map ZV.p).headD (0, []) = y.p by
        rw [hy]
        exact head_p A _)
       rw [← hz] at h0 h1
       rw [← hy] at g0
       obtain ⟨zl, hzl⟩ : ∃ zl, zl = z.l.length := ⟨_, rfl⟩
       rw [← hzl] at h1
       have CZ := Lib.hid (show ∀ W, ZW W z → Calls Tryz.prog 83 #[.agg #[.int .i64 z.N, .slice z.a zl z.c]] W (Made (.int .i64 (chkE z.N z.l)) W) from fun W h => by rw [hzl]; exact zcheck_gen z.N z.l z.a z.c W h.1)
       obtain ⟨w2, hw2⟩ : ∃ w2, w2 = wo.alloc (.cells #[.int .i64 z.N, .slice z.a zl z.c] 36) := ⟨_, rfl⟩
       have B2 := Lib.hid (show Below wo.heap.size wo w2 by rw [hw2]; exact one_more _)
       have X2 := Lib.hid (show Bx2 w2 wo.heap.size (.int .i64 z.N) (.slice z.a zl z.c) 36 by rw [hw2]; exact Bx2.made wo _ _ _)
       rw [add_nil2] at g0
       have G0 := Lib.hid (kept B2.out g0)
       have n0 : 0 < n := by omega
       obtain ⟨ce, hce⟩ : ∃ ce, ce = chkE z.N z.l := ⟨_, rfl⟩
       have CE := Lib.hid hce
       rw [← hce] at CZ
       clear hz hy g1 hlt hzl ea' hce
       subst ea
       go_wp2_with fail
       rw [← hw2]
       clear hw2 h0 h1 g0
       generalize wo.heap.size = q at X2 ⊢
       by_cases hc : ce = 0
       · have hc2 : (ce != 0) = false := by simp [hc]
         have KS := Lib.hid (show ∀ W, Below w2.heap.size w2 W → (W.cell? ⟨q, 0, none⟩ = some (.int .i64 z.N) ∧ W.cell? ⟨q, 1, none⟩ = some (.slice z.a zl z.c) ∧ W.cell? a' = some (.int .i64 y.N)) from fun W h => ⟨(X2.out.kept h).facts.1, (X2.out.kept h).facts.2.1, kept h G0.out⟩)
         obtain ⟨wc, hwc⟩ : ∃ wc, wc = w2.drew := ⟨_, rfl⟩
         have Bc := Lib.hid (show Below w2.heap.size w2 wc by rw [hwc]; exact (Below.refl _ _).drew)
         refine wp_region_held_drew (S := (fun W => (W.cell? ⟨q, 0, none⟩ = some (.int .i64 z.N) ∧ W.cell? ⟨q, 1, none⟩ = some (.slice z.a zl z.c) ∧ W.cell? a' = some (.int .i64 y.N)))) (by kernel_rfl) (by rw [← hwc]; exact KS.out _ Bc.out) (fun h0 => ?_)
         rw [← hwc] at h0 ⊢
         clear hwc
         refine tkI (i := 0) rfl h0 ?_
         simp only [Act.put, sA, sB, sD, sE, sF]
         refine wpAnyH_ready (rs := [1]) (by kernel_rfl) (by simp) (AllReadyH.cons rfl (fun K hK => ?_) AllReadyH.nil)
         rw [if_pos (by rfl)]
         go_simp
         refine (CZ.out wc ((HM1.out.on B2.out).on Bc.out)).mono ?_
         rintro e wd ⟨rfl, hb⟩
         have Bc := Lib.hid (below_on Bc.out hb)
         clear hb
         obtain ⟨wc, hwc⟩ : ∃ wc, wc = wd := ⟨_, rfl⟩
         rw [← hwc] at Bc ⊢
         clear hwc
         go_simp
         refine hK.out _ _ (KS.out _ Bc.out) (fun h0_1 => ?_)
         clear hK K h0
         refine tkI (i := 2) rfl h0_1 ?_
         simp only [Act.put, sZ]
         refine tkI (i := 3) rfl h0_1 ?_
         simp only [Act.put, sZ]
         refine tkI (i := 4) rfl h0_1 ?_
         simp only [Act.put, sZ]
         refine tkI (i := 5) rfl h0_1 ?_
         simp only [Act.put, sZ]
         refine tkI (i := 6) rfl h0_1 ?_
         simp only [Act.put, sZ]
         refine tkI (i := 7) rfl h0_1 ?_
         simp only [Act.put, sZ]
         refine tkI (i := 8) rfl h0_1 ?_
         simp only [Act.put, sZ]
         refine tkI (i := 9) rfl h0_1 ?_
         simp only [Act.put, sZ]
         refine tkI (i := 10) rfl h0_1 ?_
         simp only [Act.put, sZ]
         refine tkI (i := 11) rfl h0_1 ?_
         simp only [Act.put, sA, sB, sC, sD]
         try simp only [sF]
         try simp only [sE]
         refine wpAnyH_done (by kernel_rfl) ?_ _
         simp only [Exit.then]
         have BB := Lib.hid (below_on B2.out Bc.out)
         have HC := Lib.hid hc
         by_cases hN : z.N = y.N
         · have hN2 : (z.N != y.N) = false := by simp [hN]
           have HNN := Lib.hid hN
           clear hN hc
           go_wp2_with fail
           go_roundw
           case rel => exact ⟨t + 1, by omega, by go_num, Lib.hid ⟨below_on HB.out.1 BB.out, HB.out.2.on BB.out⟩, Lib.hid fun i h q => by
            by_cases e : i = t
            · subst e
              rw [ZP.out, YP.out]
              exact ckZ_yes (by rw [← CE.out]; exact HC.out) HNN.out
            · exact HF.out i h (by omega)⟩
           case measure => simp [intOf]; omega
         · have hN2 : (z.N != y.N) = true := by simpa using hN
           have HNN := Lib.hid hN
           clear hN hc
           go_wp2_with fail
           go_ret
           refine ⟨?_, below_on HB.out.1 BB.out⟩
           have : ckL (A.map ZV.p) = 2 := ckL_bad HLT.out (by rw [ZP.out, YP.out]; first | exact ckZ_no2 HNN.out | exact ckZ_no1 (by rw [← CE.out]; exact HC.out))
           rw [NL.out, this]
           rfl
       · have hc2 : (ce != 0) = true := by simpa using hc
         have KS := Lib.hid (show ∀ W, Below w2.heap.size w2 W → (W.cell? ⟨q, 0, none⟩ = some (.int .i64 z.N) ∧ W.cell? ⟨q, 1, none⟩ = some (.slice z.a zl z.c) ∧ W.cell? a' = some (.int .i64 y.N)) from fun W h => ⟨(X2.out.kept h).facts.1, (X2.out.kept h).facts.2.1, kept h G0.out⟩)
         obtain ⟨wc, hwc⟩ : ∃ wc, wc = w2.drew := ⟨_, rfl⟩
         have Bc := Lib.hid (show Below w2.heap.size w2 wc by rw [hwc]; exact (Below.refl _ _).drew)
         refine wp_region_held_drew (S := (fun W => (W.cell? ⟨q, 0, none⟩ = some (.int .i64 z.N) ∧ W.cell? ⟨q, 1, none⟩ = some (.slice z.a zl z.c) ∧ W.cell? a' = some (.int .i64 y.N)))) (by kernel_rfl) (by rw [← hwc]; exact KS.out _ Bc.out) (fun h0 => ?_)
         rw [← hwc] at h0 ⊢
         clear hwc
         refine tkI (i := 0) rfl h0 ?_
         simp only [Act.put, sA, sB, sD, sE, sF]
         refine wpAnyH_ready (rs := [1]) (by kernel_rfl) (by simp) (AllReadyH.cons rfl (fun K hK => ?_) AllReadyH.nil)
         rw [if_pos (by rfl)]
         go_simp
         refine (CZ.out wc ((HM1.out.on B2.out).on Bc.out)).mono ?_
         rintro e wd ⟨rfl, hb⟩
         have Bc := Lib.hid (below_on Bc.out hb)
         clear hb
         obtain ⟨wc, hwc⟩ : ∃ wc, wc = wd := ⟨_, rfl⟩
         rw [← hwc] at Bc ⊢
         clear hwc
         go_simp
         refine hK.out _ _ (KS.out _ Bc.out) (fun h0_1 => ?_)
         clear hK K h0
         refine tkI (i := 2) rfl h0_1 ?_
         simp only [Act.put, sZ]
         refine tkI (i := 3) rfl h0_1 ?_
         simp only [Act.put, sZ]
         refine tkU (i := 4) rfl h0_1 ?_
         simp only [Act.put, sZ]
         refine tkU (i := 5) rfl h0_1 ?_
         simp only [Act.put, sZ]
         refine tkU (i := 6) rfl h0_1 ?_
         simp only [Act.put, sZ]
         refine tkU (i := 7) rfl h0_1 ?_
         simp only [Act.put, sZ]
         refine tkU (i := 8) rfl h0_1 ?_
         simp only [Act.put, sZ]
         refine tkU (i := 9) rfl h0_1 ?_
         simp only [Act.put, sZ]
         refine tkU (i := 10) rfl h0_1 ?_
         simp only [Act.put, sZ]
         refine tkI (i := 11) rfl h0_1 ?_
         simp only [Act.put, sA, sB, sC, sD]
         try simp only [sF]
         try simp only [sE]
         refine wpAnyH_done (by kernel_rfl) ?_ _
         simp only [Exit.then]
         have BB := Lib.hid (below_on B2.out Bc.out)
         have HC := Lib.hid hc
         have HNN := Lib.hid hc
         clear hc
         go_wp2_with fail
         go_ret
         refine ⟨?_, below_on HB.out.1 BB.out⟩
         have : ckL (A.map ZV.p) = 2 := ckL_bad HLT.out (by rw [ZP.out, YP.out]; first | exact ckZ_no2 HNN.out | exact ckZ_no1 (by rw [← CE.out]; exact HC.out))
         rw [NL.out, this]
         rfl
     · have L0 := Lib.hid (show chkG (G.map (List.map ZV.p)) = 0 by
        rw [NL.out]
        exact ckL_good fun i h => HF.out i h (by have := HN.out; simp at h; omega))
       clear HF
       go_wp2_with fail
       go_ret
       refine ⟨?_, HB.out.1⟩
       rw [L0.out]; rfl
def ansE (G : List (List Zp)) (er : Int) : Int := if chkG G = 0 then er else chkG G
def AnsRes (w : World) (G : List (List Zp)) (er : Int) (z : Value) (R : World → Value → World → Prop) (e : Ending) (w' : World) : Prop :=
 Below w.heap.size w w' ∧ ((ansE G er = 0 ∧ ∃ W v, Below w.heap.size w W ∧ e = .returned (.tuple #[v, .int .i64 0]) ∧ R W v w') ∨ (ansE G er ≠ 0 ∧ e = .returned (.tuple #[z, .int .i64 (ansE G er)])))
set_option maxRecDepth 20000 in
theorem catchL_panic (b : Nat) (er : Int) (x : Value) (w : World) (hc : Bx1 w b x 26) (hx : w.cell? ⟨b, 0, none⟩ = some x) :
  CallsD Tryz.prog 88 #[.pointer (some ⟨b, 0, none⟩)] (.panicking (pan er)) w fun e u' w' =>
   e = .returned (.tuple #[]) ∧ u' = .panicking [{ v := .iface 26 (.int .i64 er), recovered := true }] ∧ w' = w.setCell ⟨b, 0, none⟩ (.int .i64 er) := by
 have hz := hc.free
 have hta : ∀ w : World, (Instr.typeAssert (.iface 26 (.int .i64 er)) 20 26 false).run Tryz.prog w = .ok (.int .i64 er) w := fun _ => by kernel_rfl
 unfold pan
 refine callsD_of_wpS Tryz.func88 rfl fun c₀ cs hu => ?_
 apply wpS_seq
 apply wpS_region
 simp [wpOpsS, go_sem, recoverD, hu, Tryz.ntmps88, Exit.thenS]
 refine wpS_of_wp ?_
 show Code.wp _ _ _ { tmps := #[.pointer (some ⟨b, 0, none⟩), .iface 26 (.int .i64 er), .iface 26 (.int .i64 er), undef, undef, undef, undef], defers := [] } _
 go_wp2
 cases c₀
 simp_all [bodyPostS, results, Tryz.results88]
set_option maxRecDepth 20000 in
theorem catchL_idle (b : Nat) (w : World) :
  CallsD Tryz.prog 88 #[.pointer (some ⟨b, 0, none⟩)] .returning w fun e u' w' => e = .returned (.tuple #[]) ∧ u' = .returning ∧ w' = w := by
 refine callsD_of_wpS Tryz.func88 rfl fun c₀ cs hu => ?_
 apply wpS_seq
 apply wpS_region
 simp [wpOpsS, go_sem, recoverD, hu, Tryz.ntmps88, Exit.thenS]
 refine wpS_of_wp ?_
 show Code.wp _ _ _ { tmps := #[.pointer (some ⟨b, 0, none⟩), .nilIface, .nilIface, undef, undef, undef, undef], defers := [] } _
 go_wp2
 cases c₀
 simp_all [bodyPostS, results, Tryz.results88]
set_option maxRecDepth 100000 in
theorem answerLW_any (g : FuncId) (lb : Array Value) (G : List (List ZV)) (go : Option Addr) (gc : Nat) (er : Int) (w : World) (hG : RdGW w go G) (hgl : G.length ≤ 10) (hl : ∀ L ∈ G, L.length ≤ 3000)
  (eg : ∀ args w, (callFunc g args).run Tryz.prog w = .ok (.enter g args) w) (R : World → Value → World → Prop) (hst : ∀ W v A b y, R W v A → b < W.heap.size → R W v (A.setCell ⟨b, 0, none⟩ y))
  (hw : chkG (G.map (List.map ZV.p)) = 0 → ∀ W, Below w.heap.size w W → Calls Tryz.prog g lb W fun e W' => (er = 0 ∧ ∃ v, e = .returned v ∧ R W v W' ∧ Below W.heap.size W W') ∨ (er ≠ 0 ∧ e = .panicked (pan er) ∧ Below W.heap.size W W')) :
  Calls Tryz.prog 40 #[.func (.func g) #[] lb, .slice go G.length gc] w (AnsRes w (G.map (List.map ZV.p)) er (.slice none 0 0) R) := by
 have hmf : ∀ (fn : Fn) (first cap : Array Value) (w : World), (Instr.makeFunc fn first cap).run Tryz.prog w = .ok (.func fn first cap) w := fun _ _ _ _ => rfl
 have CK := Lib.hid (show ∀ W, Below w.heap.size w W → Calls Tryz.prog 38 #[.slice go G.length gc] W (Made (.int .i64 (chkG (G.map (List.map ZV.p)))) W) from fun W h => fcheckW_any G go gc W (hG.on h) hgl hl)
 have HST := Lib.hid hst
 have HW := Lib.hid hw
 obtain ⟨m, hm⟩ : ∃ m, m = G.length := ⟨_, rfl⟩
 rw [← hm] at CK ⊢
 obtain ⟨Gp, hGp⟩ : ∃ Gp, Gp = G.map (List.map ZV.p) := ⟨_, rfl⟩
 rw [← hGp] at CK HW ⊢
 obtain ⟨ce, hce⟩ : ∃ ce, ce = chkG Gp := ⟨_, rfl⟩
 rw [← hce] at CK HW
 have HCE := Lib.hid hce
 obtain ⟨w0, hw0⟩ : ∃ w0, w0 = w.alloc (.cells #[.int .i64 0] 26) := ⟨_, rfl⟩
 have E0 := Lib.hid (show Below w.heap.size w w0 by rw [hw0]; exact one_more _)
 have X0 := Lib.hid (show Bx1 w0 w.heap.size (.int .i64 0) 26 by rw [hw0]; exact Bx1.made w _ _)
 obtain ⟨b, hb⟩ : ∃ b, b = w.heap.size := ⟨_, rfl⟩
 have HB := Lib.hid hb
 clear hgl hG hst hw hm hl hGp hce
 go_enter_defers Tryz.func40, Tryz.ntmps40
 go_upto_region 2 with (fail)
 rw [← hw0]
 rw [← hb] at X0 ⊢
 clear hw0 hb
 go_wp2_with fail
 refine (CK.out _ E0.out).mono ?_
 rintro e w1 ⟨rfl, hb1⟩
 have B1 := Lib.hid (below_on E0.out hb1)
 have X1 := Lib.hid (X0.out.kept hb1)
 clear hb1
 by_cases hz0 : ce = 0
 · have HCZ := Lib.hid hz0
   have AE := Lib.hid (show ansE Gp er = er by unfold ansE; rw [if_pos (by rw [← HCE.out]; exact hz0)])
   have WK := Lib.hid (HW.out hz0 w1 B1.out)
   have hz1 : (ce != 0) = false := by simp [hz0]
   clear hz0
   go_wp2_with fail
   refine WK.out.mono ?_
   rintro e w2 (⟨he, v, rfl, hv, hb2⟩ | ⟨he, rfl, hb2⟩)
   · have B2 := Lib.hid (below_on B1.out hb2)
     have X2 := Lib.hid (X1.out.kept hb2)
     have x1 := X2.out.cell
     have x2 := X2.out.free
     have X3 := Lib.hid (X2.out.put (.int .i64 0))
     have B3 := Lib.hid (B2.out.setCell (p := ⟨b, 0, none⟩) (by have := HB.out; show w.heap.size ≤ b; omega) (.int .i64 0))
     have R2 := Lib.hid (HST.out _ _ _ b (.int .i64 0) hv X1.out.lt)
     clear hv hb2
     go_wp2_with fail
     refine leaves_cons (f := 88) (args := #[.pointer (some ⟨b, 0, none⟩)]) (by simp) (by simp [go_sem]) ?_
     refine (catchL_idle b _).mono ?_
     rintro e u' w'' ⟨rfl, rfl, rfl⟩
     have y1 := X3.out.cell
     refine ⟨.tuple #[v, .int .i64 0], ?_, B3.out, Or.inl ⟨by rw [AE.out]; exact he, w1, v, B1.out, rfl, R2.out⟩⟩
     simp [results, Tryz.results40, go_sem, y1]
   · have B2 := Lib.hid (below_on B1.out hb2)
     have X2 := Lib.hid (X1.out.kept hb2)
     have X3 := Lib.hid (X2.out.put (.int .i64 er))
     have B3 := Lib.hid (B2.out.setCell (p := ⟨b, 0, none⟩) (by have := HB.out; show w.heap.size ≤ b; omega) (.int .i64 er))
     clear hb2
     go_wp2_with fail
     refine leaves_cons (f := 88) (args := #[.pointer (some ⟨b, 0, none⟩)]) (by simp) (by simp [go_sem]) ?_
     refine (catchL_panic b er _ _ X2.out X2.out.cell).mono ?_
     rintro e u' w'' ⟨rfl, rfl, rfl⟩
     have y1 := X3.out.cell
     refine ⟨.tuple #[.slice none 0 0, .int .i64 er], ?_, B3.out, Or.inr ⟨by rw [AE.out]; exact he, by rw [AE.out]⟩⟩
     simp [results, Tryz.results40, go_sem, y1]
 · have AE := Lib.hid (show ansE Gp er = ce by unfold ansE; rw [if_neg (by rw [← HCE.out]; exact hz0), HCE.out])
   have HCZ := Lib.hid hz0
   have hz1 : (ce != 0) = true := by simpa using hz0
   have x1 := X1.out.cell
   have x2 := X1.out.free
   have X3 := Lib.hid (X1.out.put (.int .i64 ce))
   have B3 := Lib.hid (B1.out.setCell (p := ⟨b, 0, none⟩) (by have := HB.out; show w.heap.size ≤ b; omega) (.int .i64 ce))
   clear hz0
   go_wp2_with fail
   refine leaves_cons (f := 88) (args := #[.pointer (some ⟨b, 0, none⟩)]) (by simp) (by simp [go_sem]) ?_
   refine (catchL_idle b _).mono ?_
   rintro e u' w'' ⟨rfl, rfl, rfl⟩
   have y1 := X3.out.cell
   refine ⟨.tuple #[.slice none 0 0, .int .i64 ce], ?_, B3.out, Or.inr ⟨by rw [AE.out]; exact HCZ.out, by rw [AE.out]⟩⟩
   simp [results, Tryz.results40, go_sem, y1]
theorem answerL_any (g : FuncId) (lb : Array Value) (G : List (List ZV)) (go : Option Addr) (gc : Nat) (er : Int) (w : World) (hG : RdGZ w go G) (hgl : G.length ≤ 10) (hl : ∀ L ∈ G, L.length ≤ 3000)
  (eg : ∀ args w, (callFunc g args).run Tryz.prog w = .ok (.enter g args) w) (R : World → Value → World → Prop) (hst : ∀ W v A b y, R W v A → b < W.heap.size → R W v (A.setCell ⟨b, 0, none⟩ y))
  (hw : chkG (G.map (List.map ZV.p)) = 0 → ∀ W, Below w.heap.size w W → Calls Tryz.prog g lb W fun e W' => (er = 0 ∧ ∃ v, e = .returned v ∧ R W v W' ∧ Below W.heap.size W W') ∨ (er ≠ 0 ∧ e = .panicked (pan er) ∧ Below W.heap.size W W')) :
  Calls Tryz.prog 40 #[.func (.func g) #[] lb, .slice go G.length gc] w (AnsRes w (G.map (List.map ZV.p)) er (.slice none 0 0) R) := answerLW_any g lb G go gc er w hG.weak hgl hl eg R hst hw
set_option maxRecDepth 20000 in
theorem catchB_panic (b : Nat) (er : Int) (x : Value) (w : World) (hc : Bx1 w b x 26) (hx : w.cell? ⟨b, 0, none⟩ = some x) :
  CallsD Tryz.prog 95 #[.pointer (some ⟨b, 0, none⟩)] (.panicking (pan er)) w fun e u' w' =>
   e = .returned (.tuple #[]) ∧ u' = .panicking [{ v := .iface 26 (.int .i64 er), recovered := true }] ∧ w' = w.setCell ⟨b, 0, none⟩ (.int .i64 er) := by
 have hz := hc.free
 have hta : ∀ w : World, (Instr.typeAssert (.iface 26 (.int .i64 er)) 20 26 false).run Tryz.prog w = .ok (.int .i64 er) w := fun _ => by kernel_rfl
 unfold pan
 refine callsD_of_wpS Tryz.func95 rfl fun c₀ cs hu => ?_
 apply wpS_seq
 apply wpS_region
 simp [wpOpsS, go_sem, recoverD, hu, Tryz.ntmps95, Exit.thenS]
 refine wpS_of_wp ?_
 show Code.wp _ _ _ { tmps := #[.pointer (some ⟨b, 0, none⟩), .iface 26 (.int .i64 er), .iface 26 (.int .i64 er), undef, undef, undef, undef], defers := [] } _
 go_wp2
 cases c₀
 simp_all [bodyPostS, results, Tryz.results95]
set_option maxRecDepth 20000 in
theorem catchB_idle (b : Nat) (w : World) :
  CallsD Tryz.prog 95 #[.pointer (some ⟨b, 0, none⟩)] .returning w fun e u' w' => e = .returned (.tuple #[]) ∧ u' = .returning ∧ w' = w := by
 refine callsD_of_wpS Tryz.func95 rfl fun c₀ cs hu => ?_
 apply wpS_seq
 apply wpS_region
 simp [wpOpsS, go_sem, recoverD, hu, Tryz.ntmps95, Exit.thenS]
 refine wpS_of_wp ?_
 show Code.wp _ _ _ { tmps := #[.pointer (some ⟨b, 0, none⟩), .nilIface, .nilIface, undef, undef, undef, undef], defers := [] } _
 go_wp2
 cases c₀
 simp_all [bodyPostS, results, Tryz.results95]
set_option maxRecDepth 100000 in
theorem answerBW_any (g : FuncId) (lb : Array Value) (G : List (List ZV)) (go : Option Addr) (gc : Nat) (er : Int) (w : World) (hG : RdGW w go G) (hgl : G.length ≤ 10) (hl : ∀ L ∈ G, L.length ≤ 3000)
  (eg : ∀ args w, (callFunc g args).run Tryz.prog w = .ok (.enter g args) w) (R : World → Value → World → Prop) (hst : ∀ W v A b y, R W v A → b < W.heap.size → R W v (A.setCell ⟨b, 0, none⟩ y))
  (hw : chkG (G.map (List.map ZV.p)) = 0 → ∀ W, Below w.heap.size w W → Calls Tryz.prog g lb W fun e W' => (er = 0 ∧ ∃ v, e = .returned v ∧ R W v W' ∧ Below W.heap.size W W') ∨ (er ≠ 0 ∧ e = .panicked (pan er) ∧ Below W.heap.size W W')) :
  Calls Tryz.prog 47 #[.func (.func g) #[] lb, .slice go G.length gc] w (AnsRes w (G.map (List.map ZV.p)) er (.bool false) R) := by
 have hmf : ∀ (fn : Fn) (first cap : Array Value) (w : World), (Instr.makeFunc fn first cap).run Tryz.prog w = .ok (.func fn first cap) w := fun _ _ _ _ => rfl
 have CK := Lib.hid (show ∀ W, Below w.heap.size w W → Calls Tryz.prog 38 #[.slice go G.length gc] W (Made (.int .i64 (chkG (G.map (List.map ZV.p)))) W) from fun W h => fcheckW_any G go gc W (hG.on h) hgl hl)
 have HST := Lib.hid hst
 have HW := Lib.hid hw
 obtain ⟨m, hm⟩ : ∃ m, m = G.length := ⟨_, rfl⟩
 rw [← hm] at CK ⊢
 obtain ⟨Gp, hGp⟩ : ∃ Gp, Gp = G.map (List.map ZV.p) := ⟨_, rfl⟩
 rw [← hGp] at CK HW ⊢
 obtain ⟨ce, hce⟩ : ∃ ce, ce = chkG Gp := ⟨_, rfl⟩
 rw [← hce] at CK HW
 have HCE := Lib.hid hce
 obtain ⟨w0, hw0⟩ : ∃ w0, w0 = w.alloc (.cells #[.int .i64 0] 26) := ⟨_, rfl⟩
 have E0 := Lib.hid (show Below w.heap.size w w0 by rw [hw0]; exact one_more _)
 have X0 := Lib.hid (show Bx1 w0 w.heap.size (.int .i64 0) 26 by rw [hw0]; exact Bx1.made w _ _)
 obtain ⟨b, hb⟩ : ∃ b, b = w.heap.size := ⟨_, rfl⟩
 have HB := Lib.hid hb
 clear hgl hG hst hw hm hl hGp hce
 go_enter_defers Tryz.func47, Tryz.ntmps47
 go_upto_region 2 with (fail)
 rw [← hw0]
 rw [← hb] at X0 ⊢
 clear hw0 hb
 go_wp2_with fail
 refine (CK.out _ E0.out).mono ?_
 rintro e w1 ⟨rfl, hb1⟩
 have B1 := Lib.hid (below_on E0.out hb1)
 have X1 := Lib.hid (X0.out.kept hb1)
 clear hb1
 by_cases hz0 : ce = 0
 · have HCZ := Lib.hid hz0
   have AE := Lib.hid (show ansE Gp er = er by unfold ansE; rw [if_pos (by rw [← HCE.out]; exact hz0)])
   have WK := Lib.hid (HW.out hz0 w1 B1.out)
   have hz1 : (ce != 0) = false := by simp [hz0]
   clear hz0
   go_wp2_with fail
   refine WK.out.mono ?_
   rintro e w2 (⟨he, v, rfl, hv, hb2⟩ | ⟨he, rfl, hb2⟩)
   · have B2 := Lib.hid (below_on B1.out hb2)
     have X2 := Lib.hid (X1.out.kept hb2)
     have x1 := X2.out.cell
     have x2 := X2.out.free
     have X3 := Lib.hid (X2.out.put (.int .i64 0))
     have B3 := Lib.hid (B2.out.setCell (p := ⟨b, 0, none⟩) (by have := HB.out; show w.heap.size ≤ b; omega) (.int .i64 0))
     have R2 := Lib.hid (HST.out _ _ _ b (.int .i64 0) hv X1.out.lt)
     clear hv hb2
     go_wp2_with fail
     refine leaves_cons (f := 95) (args := #[.pointer (some ⟨b, 0, none⟩)]) (by simp) (by simp [go_sem]) ?_
     refine (catchB_idle b _).mono ?_
     rintro e u' w'' ⟨rfl, rfl, rfl⟩
     have y1 := X3.out.cell
     refine ⟨.tuple #[v, .int .i64 0], ?_, B3.out, Or.inl ⟨by rw [AE.out]; exact he, w1, v, B1.out, rfl, R2.out⟩⟩
     simp [results, Tryz.results47, go_sem, y1]
   · have B2 := Lib.hid (below_on B1.out hb2)
     have X2 := Lib.hid (X1.out.kept hb2)
     have X3 := Lib.hid (X2.out.put (.int .i64 er))
     have B3 := Lib.hid (B2.out.setCell (p := ⟨b, 0, none⟩) (by have := HB.out; show w.heap.size ≤ b; omega) (.int .i64 er))
     clear hb2
     go_wp2_with fail
     refine leaves_cons (f := 95) (args := #[.pointer (some ⟨b, 0, none⟩)]) (by simp) (by simp [go_sem]) ?_
     refine (catchB_panic b er _ _ X2.out X2.out.cell).mono ?_
     rintro e u' w'' ⟨rfl, rfl, rfl⟩
     have y1 := X3.out.cell
     refine ⟨.tuple #[.bool false, .int .i64 er], ?_, B3.out, Or.inr ⟨by rw [AE.out]; exact he, by rw [AE.out]⟩⟩
     simp [results, Tryz.results47, go_sem, y1]
 · have AE := Lib.hid (show ansE Gp er = ce by unfold ansE; rw [if_neg (by rw [← HCE.out]; exact hz0), HCE.out])
   have HCZ := Lib.hid hz0
   have hz1 : (ce != 0) = true := by simpa using hz0
   have x1 := X1.out.cell
   have x2 := X1.out.free
   have X3 := Lib.hid (X1.out.put (.int .i64 ce))
   have B3 := Lib.hid (B1.out.setCell (p := ⟨b, 0, none⟩) (by have := HB.out; show w.heap.size ≤ b; omega) (.int .i64 ce))
   clear hz0
   go_wp2_with fail
   refine leaves_cons (f := 95) (args := #[.pointer (some ⟨b, 0, none⟩)]) (by simp) (by simp [go_sem]) ?_
   refine (catchB_idle b _).mono ?_
   rintro e u' w'' ⟨rfl, rfl, rfl⟩
   have y1 := X3.out.cell
   refine ⟨.tuple #[.bool false, .int .i64 ce], ?_, B3.out, Or.inr ⟨by rw [AE.out]; exact HCZ.out, by rw [AE.out]⟩⟩
   simp [results, Tryz.results47, go_sem, y1]
theorem answerB_any (g : FuncId) (lb : Array Value) (G : List (List ZV)) (go : Option Addr) (gc : Nat) (er : Int) (w : World) (hG : RdGZ w go G) (hgl : G.length ≤ 10) (hl : ∀ L ∈ G, L.length ≤ 3000)
  (eg : ∀ args w, (callFunc g args).run Tryz.prog w = .ok (.enter g args) w) (R : World → Value → World → Prop) (hst : ∀ W v A b y, R W v A → b < W.heap.size → R W v (A.setCell ⟨b, 0, none⟩ y))
  (hw : chkG (G.map (List.map ZV.p)) = 0 → ∀ W, Below w.heap.size w W → Calls Tryz.prog g lb W fun e W' => (er = 0 ∧ ∃ v, e = .returned v ∧ R W v W' ∧ Below W.heap.size W W') ∨ (er ≠ 0 ∧ e = .panicked (pan er) ∧ Below W.heap.size W W')) :
  Calls Tryz.prog 47 #[.func (.func g) #[] lb, .slice go G.length gc] w (AnsRes w (G.map (List.map ZV.p)) er (.bool false) R) := answerBW_any g lb G go gc er w hG.weak hgl hl eg R hst hw
end Go.Proofs.YthjapmdfcbngmaaGreat
