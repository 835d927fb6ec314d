/- A part. -/
import Derived.Test.YthjapmdfcbngmaaGreatWr24
namespace Go.Proofs.YthjapmdfcbngmaaGreat
set_option maxHeartbeats 16000000
open Go.RowKit
theorem meet_enters : ∀ args w, (callFunc 89 args).run Tryz.prog w = .ok (.enter 89 args) w := yield_enters _ Tryz.func89 (by kernel_rfl) rfl
def mtR (x : Zp) (M : List Zp) : Sq := flatS (fun y => emS (mtP x y)) M
def mtS (L M : List Zp) : Sq := flatS (fun x => mtR x M) L
theorem mtS_succ {L M : List Zp} {i : Nat} (hi : i < L.length) : mtS (L.take (i + 1)) M = seqA (mtS (L.take i) M) (mtR L[i] M) := flatS_succ (fun x => mtR x M) hi
theorem mtR_succ {x : Zp} {M : List Zp} {j : Nat} (hj : j < M.length) : mtR x (M.take (j + 1)) = seqA (mtR x (M.take j)) (emS (mtP x M[j])) := flatS_succ (fun y => emS (mtP x y)) hj
theorem mtS_from {L M : List Zp} {i j : Nat} (hi : i < L.length) : mtS L M = seqA (seqA (mtS (L.take i) M) (mtR L[i] (M.take j))) (seqA (mtR L[i] (M.drop j)) (mtS (L.drop (i + 1)) M)) := by
 rw [← seqA_assoc, seqA_assoc (mtS (L.take i) M), show seqA (mtR L[i] (M.take j)) (mtR L[i] (M.drop j)) = mtR L[i] M from (flatS_split _ M j).symm, ← mtS_succ hi]
 exact flatS_split _ L (i + 1)
set_option maxRecDepth 100000 in
theorem meet_seq (L M : List ZV) (go ho : Option Addr) (gc hc pl pm B : Nat) (w : World) (hB : B ≤ w.heap.size)
  (c1 : w.cell? ⟨pl, 0, none⟩ = some (.slice go L.length gc)) (c2 : w.cell? ⟨pm, 0, none⟩ = some (.slice ho M.length hc)) (hL : RdZ 0 w go L) (hM : RdZ 0 w ho M) (hl : L.length ≤ 1000000) (hm : M.length ≤ 1000000) :
  SeqZ B w 89 #[.pointer (some ⟨pl, 0, none⟩), .pointer (some ⟨pm, 0, none⟩)] (mtS (L.map ZV.p) (M.map ZV.p)).1 (mtS (L.map ZV.p) (M.map ZV.p)).2 := by
 intro W T0 hk hT0 l J Jp hst hlt _ rnd h0
 have LT : Later w W T0 := ⟨hk, hT0⟩
 obtain ⟨n, hn⟩ : ∃ n, n = L.length := ⟨_, rfl⟩
 obtain ⟨k, hkk⟩ : ∃ k, k = M.length := ⟨_, rfl⟩
 have HN := Lib.hid hn
 have HK := Lib.hid hkk
 have hle : n ≤ 1000000 := by omega
 have hke : k ≤ 1000000 := by omega
 rw [← hn] at c1
 rw [← hkk] at c2
 have C1 := Lib.hid (LT.cell c1)
 have C2 := Lib.hid (LT.cell c2)
 have RL := Lib.hid (LT.rdz hL)
 have RM := Lib.hid (LT.rdz hM)
 have HB := Lib.hid (show B ≤ W.heap.size from Nat.le_trans hB hk.size)
 have ST := Lib.hid hst
 have LL := Lib.hid hlt
 have RN := Lib.hid (show Rnd B w.heap.size l W (mtS (L.map ZV.p) (M.map ZV.p)).1 J Jp from rnd)
 have I0 := Lib.hid (ItI.start hlt h0)
 obtain ⟨erx, herx⟩ : ∃ erx, erx = (if (mtS (L.map ZV.p) (M.map ZV.p)).2 = 0 then none else some (pan (mtS (L.map ZV.p) (M.map ZV.p)).2)) := ⟨_, rfl⟩
 rw [← herx]
 have HERX := Lib.hid herx
 clear c1 c2 hL hM rnd hst hlt h0 hl hm hn hkk LT hB hk hT0 herx
 refine callsIn_of_wp Tryz.func89 rfl trivial ?_ rfl
 simp only [Tryz.ntmps89, List.size_toArray, List.length_cons, List.length_nil, Nat.reduceAdd, Nat.reduceSub, Array.replicate_succ, Array.replicate_zero, List.push_toArray, List.append_toArray, List.nil_append, List.cons_append]
 obtain ⟨f1, _⟩ := C1.out
 gi_wp2
 clear f1
 gi_loopw [12] (fun s wr => ∃ i : Nat, s = .int .i64 i ∧ i ≤ n ∧ Hid ((mtS ((L.map ZV.p).take i) (M.map ZV.p)).2 = 0) ∧ Hid (∃ m, ItI W T0 (fun _ => False) J (mtS ((L.map ZV.p).take i) (M.map ZV.p)).1 m wr)) (fun s _ => n - (intOf s).toNat)
 case atStart => exact ⟨0, rfl, by omega, Lib.hid (by simp [mtS, flatS]), Lib.hid ⟨_, by simpa [mtS, flatS] using I0.out⟩⟩
 case round =>
  generalize wr = wo at *
  obtain ⟨i, rfl, hi, HE, HI⟩ := hrel
  by_cases hin : i < n
  · have hlt : i < L.length := by have := HN.out; omega
    have HLT := Lib.hid (show i < (L.map ZV.p).length by simpa using hlt)
    obtain ⟨m, im⟩ := HI.out
    have rz := im.rdz RL.out.1 RL.out.2.1 RL.out.2.2
    obtain ⟨a, ea, h0, h1⟩ := rz.hd i hlt
    obtain ⟨x, hx⟩ : ∃ x, x = L[i] := ⟨_, rfl⟩
    have HM := Lib.hid (show x ∈ L by rw [hx]; exact List.getElem_mem _)
    have XP := Lib.hid (show (L.map ZV.p)[i]'HLT.out = x.p by rw [hx]; simp)
    rw [← hx] at h0 h1
    obtain ⟨xl, hxl⟩ : ∃ xl, xl = x.l.length := ⟨_, rfl⟩
    have HXL := Lib.hid hxl
    rw [← hxl] at h1
    have c2 := im.cell C2.out.1 C2.out.2
    have B1 := Lib.hid (one_more (w1 := wo) (.cells #[.int .i64 x.N, .slice x.a xl x.c] 36))
    have c3 := kept B1.out c2
    have X1 := Lib.hid (Bx2.made wo (.int .i64 x.N) (.slice x.a xl x.c) 36)
    have I1 := Lib.hid (show ∃ m, ItI W T0 (fun k => k = wo.heap.size) J (mtS ((L.map ZV.p).take i) (M.map ZV.p)).1 m (wo.alloc (.cells #[.int .i64 x.N, .slice x.a xl x.c] 36)) from
     ⟨_, im.own ST.out B1.out fun k e => by rw [e]; exact ⟨Or.inr im.size.1, X1.out.lt⟩⟩)
    have QW := Lib.hid (show W.heap.size ≤ wo.heap.size from im.size.2)
    clear hx hxl rz hlt im c2 HI
    subst ea
    gi_wp2_with fail
    generalize wo.alloc (.cells #[.int .i64 x.N, .slice x.a xl x.c] 36) = w1 at *
    generalize wo.heap.size = q at *
    clear h0 h1 c3 B1
    gi_loopw [18] (fun s wr => ∃ j : Nat, s = .int .i64 j ∧ j ≤ k ∧ Hid ((seqA (mtS ((L.map ZV.p).take i) (M.map ZV.p)) (mtR x.p ((M.map ZV.p).take j))).2 = 0) ∧ Hid (∃ m, ItI W T0 (fun k => k = q) J (seqA (mtS ((L.map ZV.p).take i) (M.map ZV.p)) (mtR x.p ((M.map ZV.p).take j))).1 m wr) ∧ Hid (Bx2 wr q (.int .i64 x.N) (.slice x.a xl x.c) 36)) (fun s _ => k - (intOf s).toNat)
    case atStart => exact ⟨0, rfl, by omega, Lib.hid (by simpa [mtR, flatS, seqA_nil] using HE.out), Lib.hid (by simpa [mtR, flatS, seqA_nil] using I1.out), X1⟩
    case round =>
     generalize wr = wv at *
     obtain ⟨j, rfl, hj, HE2, HI2, HX⟩ := hrel
     by_cases hjk : j < k
     · have hlt : j < M.length := by have := HK.out; omega
       have HLU := Lib.hid (show j < (M.map ZV.p).length by simpa using hlt)
       obtain ⟨m, im⟩ := HI2.out
       have rz := im.rdz RM.out.1 RM.out.2.1 RM.out.2.2
       obtain ⟨b, eb, h0, h1⟩ := rz.hd j hlt
       obtain ⟨y, hy⟩ : ∃ y, y = M[j] := ⟨_, rfl⟩
       have HMY := Lib.hid (show y ∈ M by rw [hy]; exact List.getElem_mem _)
       have YP := Lib.hid (show (M.map ZV.p)[j]'HLU.out = y.p by rw [hy]; simp)
       rw [← hy] at h0 h1
       obtain ⟨yl, hyl⟩ : ∃ yl, yl = y.l.length := ⟨_, rfl⟩
       have HYL := Lib.hid hyl
       rw [← hyl] at h1
       have ZX := Lib.hid ((im.rdz RL.out.1 RL.out.2.1 RL.out.2.2).el x HM.out)
       have ZY := Lib.hid (rz.el y HMY.out)
       have B2 := Lib.hid (one_more (w1 := wv) (.cells #[.int .i64 y.N, .slice y.a yl y.c] 36))
       obtain ⟨x0, x1, _, _⟩ := (HX.out.kept B2.out).facts
       have MT := Lib.hid (show ∀ W', ZAt 0 W' x → ZAt 0 W' y → Calls Tryz.prog 90 #[.agg #[.int .i64 x.N, .slice x.a xl x.c], .agg #[.int .i64 y.N, .slice y.a yl y.c]] W' (ZOut W' (mtP x.p y.p)) from fun W' g h => by rw [HXL.out, HYL.out]; exact mt_out x y W' g h)
       have SS := Lib.hid (show seqA (mtS ((L.map ZV.p).take i) (M.map ZV.p)) (mtR x.p ((M.map ZV.p).take (j + 1))) = seqA (seqA (mtS ((L.map ZV.p).take i) (M.map ZV.p)) (mtR x.p ((M.map ZV.p).take j))) (emS (mtP x.p y.p)) by
        rw [mtR_succ HLU.out, ← seqA_assoc, YP.out])
       have SF := Lib.hid (show mtS (L.map ZV.p) (M.map ZV.p) = seqA (seqA (mtS ((L.map ZV.p).take i) (M.map ZV.p)) (mtR x.p ((M.map ZV.p).take (j + 1)))) (seqA (mtR x.p ((M.map ZV.p).drop (j + 1))) (mtS ((L.map ZV.p).drop (i + 1)) (M.map ZV.p))) by
        have := mtS_from (L := L.map ZV.p) (M := M.map ZV.p) (j := j + 1) HLT.out
        rw [XP.out] at this; exact this)
       have IM := Lib.hid im
       clear hy hyl rz hlt im HI2
       subst eb
       gi_wp2_with fail
       refine ⟨trivial, (callsIn_wide.2 (MT.out _ (ZX.out.on B2.out) (ZY.out.on B2.out))).mono ?_⟩
       rintro e w3 ⟨hb, z8, rfl, hz8, hp8⟩
       obtain ⟨e8, he8⟩ : ∃ e8, e8 = (mtP x.p y.p).2 := ⟨_, rfl⟩
       rw [← he8] at hp8 ⊢
       have HE8 := Lib.hid he8
       have P8 := Lib.hid hp8
       have EM := Lib.hid (fun W => empty_any z8 e8 W)
       unfold ZV.val at EM ⊢
       obtain ⟨zl, hzl⟩ : ∃ zl, zl = z8.l.length := ⟨_, rfl⟩
       rw [← hzl] at EM ⊢
       have HZL := Lib.hid hzl
       have hsz := hb.size
       rw [World.size_alloc] at hsz
       have A8 := Lib.hid (show ZAt wv.heap.size (w3.alloc (.cells #[.int .i64 z8.N, .slice z8.a zl z8.c] 36)) z8 from (hz8.on (one_more _)).low (by rw [World.size_alloc]; omega))
       have B3 := Lib.hid (below_on (below_on B2.out hb) (one_more (w1 := w3) (.cells #[.int .i64 z8.N, .slice z8.a zl z8.c] 36)))
       obtain ⟨z0, z1, _, _⟩ := (Bx2.made w3 (.int .i64 z8.N) (.slice z8.a zl z8.c) 36).facts
       clear hb hz8 hp8 he8 hzl h0 h1 x0 x1 MT
       gi_wp2_with fail
       generalize w3.alloc (.cells #[.int .i64 z8.N, .slice z8.a zl z8.c] 36) = w4 at *
       generalize w3.heap.size = q8 at *
       refine ⟨trivial, (callsIn_wide.2 (EM.out _)).mono ?_⟩
       rintro e wk ⟨hb, (⟨he, rfl⟩ | ⟨he, rfl⟩ | ⟨he, he4, rfl⟩)⟩
       · have BK := Lib.hid (below_on B3.out hb)
         have IK := Lib.hid (IM.out.below ST.out BK.out)
         have XK := Lib.hid (HX.out.kept BK.out)
         have S1 := Lib.hid (show seqA (mtS ((L.map ZV.p).take i) (M.map ZV.p)) (mtR x.p ((M.map ZV.p).take (j + 1))) = seqA (mtS ((L.map ZV.p).take i) (M.map ZV.p)) (mtR x.p ((M.map ZV.p).take j)) by
          rw [SS.out, emS_em (by rw [← HE8.out]; exact he), seqA_nil])
         clear hb he z0 z1
         gi_wp2_with fail
         repeat (refine ⟨fun f h => (by cases h), ?_⟩; try gi_wp2_with fail)
         go_roundw
         case rel => exact ⟨j + 1, by go_num, by omega, Lib.hid (by rw [S1.out]; exact HE2.out), Lib.hid ⟨_, by rw [S1.out]; exact IK.out⟩, XK⟩
         case measure => simp [intOf]; omega
       · have BK := Lib.hid (below_on B3.out hb)
         have IK := Lib.hid (IM.out.below ST.out BK.out)
         have XK := Lib.hid (HX.out.kept BK.out)
         have z2 := kept hb z0
         have z3 := kept hb z1
         have S1 := Lib.hid (show seqA (mtS ((L.map ZV.p).take i) (M.map ZV.p)) (mtR x.p ((M.map ZV.p).take (j + 1))) = ((seqA (mtS ((L.map ZV.p).take i) (M.map ZV.p)) (mtR x.p ((M.map ZV.p).take j))).1 ++ [z8.p], 0) by
          rw [SS.out, emS_ok (by rw [← HE8.out]; exact he), seqA_of HE2.out, P8.out he])
         have YD := yield_zone RN.out LL.out IK.out (z := z8) rfl (by rw [SF.out, S1.out]; exact seqA_pre (_, 0) _) ((A8.out.on hb).low (by have := HB.out; have := IM.out.size.2; omega)) (fun p e => by
          have h1 := ((A8.out.on hb).2 p e).1
          have h2 := HX.out.lt
          have h3 := IM.out.size
          exact ⟨by show ¬ p.block = q; omega, Or.inr ⟨by omega, by omega⟩⟩)
         obtain ⟨fn, tmps, assign, body, hyd, hR⟩ := YD
         have HR := Lib.hid hR
         unfold ZV.val at hyd
         rw [← HZL.out] at hyd
         clear hR hb he z0 z1
         gi_wp2_with fail
         refine HR.out.mono ?_
         rintro e w9 (⟨rfl, i4, k4⟩ | ⟨chain, rfl, hp⟩)
         · have I4 := Lib.hid i4
           have X4 := Lib.hid (XK.out.keptK k4 rfl)
           clear i4 k4 z2 z3
           gi_wp2_with fail
           go_roundw
           case rel => exact ⟨j + 1, by go_num, by omega, Lib.hid (by rw [S1.out]), Lib.hid ⟨_, by rw [S1.out]; exact I4.out⟩, X4⟩
           case measure => simp [intOf]; omega
         · exact ⟨by first | rfl | trivial, Or.inr ⟨chain, by first | rfl | trivial, Or.inl hp⟩⟩
       · have S1 := Lib.hid (show mtS (L.map ZV.p) (M.map ZV.p) = ((seqA (mtS ((L.map ZV.p).take i) (M.map ZV.p)) (mtR x.p ((M.map ZV.p).take j))).1, e8) by
          rw [SF.out, SS.out, emS_no (by rw [← HE8.out]; exact he) (by rw [← HE8.out]; exact he4), seqA_of HE2.out, List.append_nil, ← HE8.out]
          unfold seqA; simp [he])
         obtain ⟨T, j1, _⟩ := IM.out.below ST.out (below_on B3.out hb)
         have J2 : J (mtS (L.map ZV.p) (M.map ZV.p)).1 T wk := by rw [S1.out]; exact j1
         have E2 : erx = some (pan e8) := by rw [HERX.out, S1.out]; exact erOf he
         exact ⟨by first | rfl | trivial, Or.inr ⟨_, by first | rfl | trivial, Or.inr ⟨E2, T, J2⟩⟩⟩
     · have e : (M.map ZV.p).take j = M.map ZV.p := List.take_of_length_le (by have := HK.out; simp; omega)
       rw [e] at HE2 HI2
       have S1 := Lib.hid (show mtS ((L.map ZV.p).take (i + 1)) (M.map ZV.p) = seqA (mtS ((L.map ZV.p).take i) (M.map ZV.p)) (mtR x.p (M.map ZV.p)) by rw [mtS_succ HLT.out, XP.out])
       have I4 := Lib.hid (show ∃ m, ItI W T0 (fun _ => False) J (mtS ((L.map ZV.p).take (i + 1)) (M.map ZV.p)).1 m wv from by
        obtain ⟨m, T, j1, j2, j3, j4, j5⟩ := HI2.out
        rw [S1.out]
        exact ⟨m, T, j1, fun k q => ⟨(j2 k q).1, id, (j2 k q).2.2⟩, fun k q => q.elim, j4, j5⟩)
       clear e
       gi_wp2_with fail
       go_roundw
       case rel => exact ⟨i + 1, by go_num, by omega, Lib.hid (by rw [S1.out]; exact HE2.out), I4⟩
       case measure => simp [intOf]; omega
  · have e : (L.map ZV.p).take i = L.map ZV.p := List.take_of_length_le (by have := HN.out; simp; omega)
    rw [e] at HE HI
    obtain ⟨m, T, j1, _⟩ := HI.out
    have JJ := Lib.hid j1
    clear j1 e
    gi_wp2_with fail
    have E2 : erx = none := by rw [HERX.out, if_pos HE.out]
    go_end0
    exact Or.inl ⟨rfl, E2, T, JJ.out⟩
end Go.Proofs.YthjapmdfcbngmaaGreat
