/- A part. -/
import Derived.Test.YtaegiihkgicdnaaGreatWl43
import Derived.Test.YtaegiihkgicdnaaGreatWl47

namespace Go.Proofs.YtaegiihkgicdnaaGreat
open Go.RowKit

def riP : Nat → List Zp → List Zp × Int
  | 0, l => (l, 0)
  | n + 1, l => if (rpI l l.length 0).2 ≠ 0 then ([], (rpI l l.length 0).2)
      else if (rpI l l.length 0).1.2.1 = 0 then (l, 0)
      else riP n ((l.set (rpI l l.length 0).1.1 (rpI l l.length 0).1.2.2).eraseIdx (rpI l l.length 0).1.2.1)

def riR (L : List Zp) : List Zp × Int := ((riP ((wpP L.length 0 L).length + 1) (wpP L.length 0 L)).1, if rchk L = 0 then (riP ((wpP L.length 0 L).length + 1) (wpP L.length 0 L)).2 else rchk L)

theorem rpK_ok {l : List Zp} {i : Nat} : ∀ {n k : Nat} {r : Pr}, rpK l i n k = some r → i < k → r.2 = 0 → r.1.2.1 ≠ 0 → r.1.1 < r.1.2.1 ∧ r.1.2.1 < l.length
  | 0, _, _, h, _, _, _ => by cases h
  | n + 1, k, r, h, hi, h0, h1 => by
    rw [rpK] at h
    split at h
    · rename_i hk
      split at h
      · injection h with h; subst h; exact absurd rfl h1
      · split at h
        · injection h with h; subst h; exact ⟨hi, hk⟩
        · exact rpK_ok h (by omega) h0 h1
    · cases h

theorem rpI_ok {l : List Zp} : ∀ {n i : Nat}, (rpI l n i).2 = 0 → (rpI l n i).1.2.1 ≠ 0 → (rpI l n i).1.1 < (rpI l n i).1.2.1 ∧ (rpI l n i).1.2.1 < l.length
  | 0, _, _, h1 => absurd rfl h1
  | n + 1, i, h0, h1 => by
    rw [rpI] at h0 h1 ⊢
    split
    · rename_i hi
      rw [if_pos hi] at h0 h1
      cases e : rpK l i (l.length - (i + 1)) (i + 1) with
      | none => rw [e] at h0 h1; exact rpI_ok h0 h1
      | some r => rw [e] at h0 h1; exact rpK_ok e (by omega) h0 h1
    · rename_i hi
      rw [if_neg hi] at h1
      exact absurd rfl h1

theorem take_drop_erase (L : List ZV) (i : Nat) : L.take i ++ L.drop (i + 1) = L.eraseIdx i := (List.eraseIdx_eq_take_drop_succ L i).symm

set_option maxRecDepth 100000 in
set_option maxHeartbeats 16000000 in
theorem rsimpW_any (L : List ZV) (go : Option Addr) (gc : Nat) (w : World) (hL : RdW w go L) (hl : L.length ≤ 1000000) (hgo : go = none → gc = 0) :
    Calls Tryz.prog 22 #[.slice go L.length gc] w (RsL (riR (L.map ZV.p)) w) := by
  have RL := Lib.hid hL
  have GO := Lib.hid hgo
  have CK := Lib.hid (rcheckW_any L go gc w hL hl)
  obtain ⟨n, hn⟩ : ∃ n, n = L.length := ⟨_, rfl⟩
  have HN := Lib.hid hn
  have nle : n ≤ 1000000 := by omega
  have HLM := Lib.hid (show (L.map ZV.p).length = n by rw [hn]; simp)
  rw [← hn] at CK ⊢
  obtain ⟨c, hc0⟩ : ∃ c, c = rchk (L.map ZV.p) := ⟨_, rfl⟩
  have HC := Lib.hid hc0
  rw [← hc0] at CK
  clear hL hgo hl hn hc0
  go_enter Tryz.func22, Tryz.ntmps22
  go_wp2_with fail
  refine CK.out.mono ?_
  rintro e w1 ⟨rfl, hb⟩
  have B1 := Lib.hid hb
  clear hb CK
  by_cases h0 : c = 0
  rotate_left
  · have h0b : (c != 0) = true := by simpa using h0
    have E2 := Lib.hid (show (riR (L.map ZV.p)).2 = c by unfold riR; rw [if_neg (by rw [← HC.out]; exact h0), HC.out])
    have H0 := Lib.hid h0
    clear h0
    go_wp2_with fail
    go_ret2
    have := rs_nil (r := riR (L.map ZV.p)) B1.out (by rw [E2.out]; exact H0.out)
    rw [E2.out] at this
    exact this
  have h0b : (c != 0) = false := by simp [h0]
  have HC0 := Lib.hid (HC.out.symm.trans h0)
  have RS := Lib.hid (show RdZ 0 w go L from RL.out.strong (chk_ne fun z hz => by
    have k := HC0.out
    unfold rchk at k
    split at k
    · cases k
    · exact (ckL_iff.1 k z.p (List.mem_map.2 ⟨z, hz, rfl⟩)).1))
  have CG := Lib.hid RS.out.weak
  have NN := Lib.hid (show go = none → gc = 0 from GO.out)
  obtain ⟨T, hT⟩ : ∃ T, T = riP ((wpP n 0 (L.map ZV.p)).length + 1) (wpP n 0 (L.map ZV.p)) := ⟨_, rfl⟩
  have TT := Lib.hid hT
  have TR := Lib.hid (show riR (L.map ZV.p) = T by unfold riR; rw [if_pos HC0.out, HLM.out, ← TT.out])
  rw [TR.out]
  clear hT h0
  have B2 := Lib.hid (show Below w.heap.size w (w1.alloc (.cells #[] 36)) from below_on B1.out (one_more _))
  have O2 := Lib.hid (own0 w1 0)
  go_wp2_with (at_builtin; refine wpl_appLZ rfl _ _ rfl w1.heap.size 0 _ [] L rfl O2.out go gc (by rw [HN.out]; rfl) (RS.out.on B2.out) NN.out ?ql0 ?ql1 (Nat.le_of_lt (O2.out.lt _ rfl).2) ?_)
  case ql0 =>
    intro z hz p e q
    have h1 := ((RS.out.el z hz).2 p e).2
    have h2 := (O2.out.lt _ q).1
    have h3 := B1.out.size
    omega
  case ql1 => have := HN.out; simp; omega
  intro v' w3 ho hgw
  try simp only [List.nil_append] at ho
  have B3 := Lib.hid (below_trans B2.out (grown_belowR hgw B2.out.size (fun k e => Nat.le_trans B1.out.size (O2.out.lt k e).1)))
  have O3 := Lib.hid (ho.low B1.out.size (Nat.le_refl _))
  have ST := Lib.hid (show ∃ ao2 cap2 M, v' = .slice ao2 M.length cap2 ∧ OwnZ w.heap.size 0 w3 (.slice ao2 M.length cap2) M ∧ M.length ≤ n ∧ ∃ k, wpP n 0 (L.map ZV.p) = wpP k 0 (M.map ZV.p) ∧ M.length - 0 ≤ k from by
    obtain ⟨ao, cap, e⟩ := ho.form
    refine ⟨ao, cap, L, e, by rw [← e]; exact O3.out, by have := HN.out; omega, n, rfl, by have := HN.out; omega⟩)
  clear ho hgw O2 B2 O3
  go_wp2_with fail
  go_loopw [0, 5] (fun v s wr => ∃ t : Nat, s = .int .i64 t ∧ Hid (Below w.heap.size w wr) ∧ Hid (∃ ao cap M, v = .slice ao M.length cap ∧ OwnZ w.heap.size 0 wr (.slice ao M.length cap) M ∧ M.length ≤ n ∧ ∃ k, wpP n 0 (L.map ZV.p) = wpP k t (M.map ZV.p) ∧ M.length - t ≤ k)) (fun v s _ => slLen v - (intOf s).toNat)
  case atStart => exact ⟨0, rfl, B3, ST⟩
  case round =>
    generalize wr = wo at *
    obtain ⟨t, rfl, BE, HI⟩ := hrel
    obtain ⟨ao1, cap1, M, rfl, ow, mn, k, ek, hk⟩ := HI.out
    obtain ⟨m, hm⟩ : ∃ m, m = M.length := ⟨_, rfl⟩
    have HM := Lib.hid hm
    have OW := Lib.hid ow
    have EK := Lib.hid ek
    have mn2 : m ≤ n := by omega
    have hk2 : m - t ≤ k := by omega
    rw [← hm]
    by_cases htm : t < m
    · have IP := Lib.hid (show Calls Tryz.prog 56 #[.slice ao1 m cap1, .int .i64 t] wo (Made (.bool (conB (M.map ZV.p) t)) wo) from by
        rw [hm]
        exact rcontained_any M ao1 cap1 t wo ow.rd.1 (by omega) (by omega))
      have WO := Lib.hid (show ∀ W, Below wo.heap.size wo W → Calls Tryz.prog 57 #[.slice ao1 m cap1, .int .i64 t] W (fun e w' => Below W.heap.size W w' ∧ ∃ ao cap, e = .returned (.slice ao (m - 1) cap) ∧ OwnZ W.heap.size 0 w' (.slice ao (M.eraseIdx t).length cap) (M.eraseIdx t)) from fun W h => by
        obtain ⟨g, hg, hc⟩ : ∃ g, ao1 = some ⟨g, 0, none⟩ ∧ M.length ≤ cap1 := by
          rcases ow.row.2 with ⟨_, h⟩ | ⟨g, c0, cur, e0, _, _, hc, _⟩
          · omega
          · injection e0 with e1 e2 e3; exact ⟨g, e1, by omega⟩
        have r := (ow.on h).rd.1
        rw [hg] at r ⊢
        have := rwithout_any M ⟨g, 0, none⟩ cap1 t W r rfl (by omega) hc (by omega)
        rw [← hm, take_drop_erase] at this
        exact this)
      obtain ⟨cb, hcb⟩ : ∃ cb, cb = conB (M.map ZV.p) t := ⟨_, rfl⟩
      rw [← hcb] at IP
      have CB := Lib.hid hcb
      have hlt : t < (M.map ZV.p).length := by simp; omega
      have HLT := Lib.hid hlt
      obtain ⟨k2, rfl⟩ : ∃ k2, k = k2 + 1 := ⟨k - 1, by omega⟩
      clear HI ST ow ek hm hk mn hcb hlt
      go_wp2_with fail
      refine IP.out.mono ?_
      rintro e w4 ⟨rfl, hb⟩
      have BQ := Lib.hid hb
      have OW1 := Lib.hid (OW.out.on hb)
      have BE1 := Lib.hid (below_on BE.out hb)
      clear hb IP
      cases cb with
      | true =>
        go_wp2_with fail
        refine (WO.out _ BQ.out).mono ?_
        rintro e w5 ⟨hb, ao2, cap2, rfl, hd⟩
        have OD := Lib.hid (hd.low BE1.out.size (Nat.le_refl _))
        have BE2 := Lib.hid (below_on BE1.out hb)
        clear hb hd WO
        go_wp2_with fail
        go_roundw
        case rel =>
          have lm : (M.eraseIdx t).length = m - 1 := by rw [List.length_eraseIdx, if_pos (by have := HM.out; omega)]; have := HM.out; omega
          exact ⟨t, by go_num, BE2, Lib.hid ⟨ao2, cap2, M.eraseIdx t, by rw [lm], OD.out, by omega, k2, by
            rw [EK.out, wpP, if_pos HLT.out, if_pos CB.out.symm, map_erase], by omega⟩⟩
        case measure => simp [intOf, slLen]; omega
      | false =>
        go_wp2_with fail
        go_roundw
        case rel =>
          exact ⟨t + 1, by go_num, BE1, Lib.hid ⟨ao1, cap1, M, by rw [HM.out], OW1.out, by have := HM.out; omega, k2, by
            rw [EK.out, wpP, if_pos HLT.out, if_neg (by rw [← CB.out]; simp)], by have := HM.out; omega⟩⟩
        case measure => simp [intOf, slLen]; omega
    · have EN := Lib.hid (wpP_end (n := k) (i := t) (l := M.map ZV.p) (by simp; omega))
      have S2 := Lib.hid (show ∃ ao cap M2, Value.slice ao1 m cap1 = .slice ao M2.length cap ∧ OwnZ w.heap.size 0 wo (.slice ao M2.length cap) M2 ∧ M2.length ≤ n ∧ ∃ f, T = riP f (M2.map ZV.p) ∧ M2.length < f from
        ⟨ao1, cap1, M, by rw [HM.out], ow, mn, M.length + 1, by rw [TT.out, EK.out, EN.out, List.length_map], Nat.lt_succ_self _⟩)
      clear HI ST ow ek hm hk mn
      go_wp2_with fail
      go_loopw [0] (fun v wr => Hid (Below w.heap.size w wr) ∧ Hid (∃ ao cap M2, v = .slice ao M2.length cap ∧ OwnZ w.heap.size 0 wr (.slice ao M2.length cap) M2 ∧ M2.length ≤ n ∧ ∃ f, T = riP f (M2.map ZV.p) ∧ M2.length < f)) (fun v _ => slLen v)
      case atStart => exact ⟨BE, S2⟩
      case round =>
        generalize wr = wq at *
        obtain ⟨BG, HJ⟩ := hrel
        obtain ⟨ao5, cap5, K, rfl, ow5, kn, f, ef, hf⟩ := HJ.out
        obtain ⟨f2, rfl⟩ : ∃ f2, f = f2 + 1 := ⟨f - 1, by omega⟩
        obtain ⟨q, hq⟩ : ∃ q, q = K.length := ⟨_, rfl⟩
        have HQ := Lib.hid hq
        have qle : q ≤ n := by omega
        obtain ⟨r, hr⟩ : ∃ r, r = rpI (K.map ZV.p) q 0 := ⟨_, rfl⟩
        have PA := Lib.hid (show Calls Tryz.prog 58 #[.slice ao5 q cap5] wq (PrRes wq r) from by
          rw [hr, hq]; exact pair_any K ao5 cap5 wq ow5.rd.1 (by omega))
        rw [riP, List.length_map, ← hq, ← hr] at ef
        have EF := Lib.hid ef
        have RO := Lib.hid (show r.2 = 0 → r.1.2.1 ≠ 0 → r.1.1 < r.1.2.1 ∧ r.1.2.1 < q from fun h1 h2 => by
          have := rpI_ok (l := K.map ZV.p) (n := q) (i := 0) (by rw [← hr]; exact h1) (by rw [← hr]; exact h2)
          rw [← hr, List.length_map, ← hq] at this; exact this)
        have O5 := Lib.hid ow5
        have hf2 : q < f2 + 1 := by omega
        rw [← hq]
        clear HJ ow5 kn ef hf hq hr S2
        go_wp2_with fail
        refine PA.out.mono ?_
        rintro e w6 ⟨hb, z, rfl, hz, hp⟩
        have B6 := Lib.hid (below_on BG.out hb)
        have O6 := Lib.hid (O5.out.on hb)
        have HP := Lib.hid hp
        obtain ⟨er, her⟩ : ∃ er, er = r.2 := ⟨_, rfl⟩
        obtain ⟨ri, hri⟩ : ∃ ri, ri = r.1.1 := ⟨_, rfl⟩
        obtain ⟨rk, hrk⟩ : ∃ rk, rk = r.1.2.1 := ⟨_, rfl⟩
        rw [← her, ← hri, ← hrk] at EF RO
        rw [← her, ← hri, ← hrk]
        unfold ZV.val
        obtain ⟨zl, hzl⟩ : ∃ zl, zl = z.l.length := ⟨_, rfl⟩
        rw [← hzl]
        have HZL := Lib.hid hzl
        obtain ⟨w7, hw7⟩ : ∃ w7, w7 = w6.alloc (.cells #[.int .i64 z.N, .slice z.a zl z.c] 36) := ⟨_, rfl⟩
        have hb7 : Below w6.heap.size w6 w7 := by rw [hw7]; exact one_more _
        have X7 := Lib.hid (show Bx2 w7 w6.heap.size (.int .i64 z.N) (.slice z.a zl z.c) 36 by rw [hw7]; exact Bx2.made w6 _ _ _)
        have B7 := Lib.hid (below_on B6.out hb7)
        have O7 := Lib.hid (O6.out.on hb7)
        have Z7 := Lib.hid (show ZAt 0 w7 z from (hz.on hb7).low (Nat.zero_le _))
        have ZG := Lib.hid (show ∀ p, z.a = some p → wq.heap.size ≤ p.block from fun p e => (hz.2 p e).1)
        have GQ := Lib.hid (show ∀ g, ao5 = some ⟨g, 0, none⟩ → w.heap.size ≤ g ∧ g < wq.heap.size from fun g e => O5.out.lt g (by rw [e]; rfl))
        clear hb hb7 hz hp her hri hrk hzl PA O5
        by_cases he : er = 0
        rotate_left
        · have q1 : (er != 0) = true := by simpa using he
          have TE := Lib.hid (show T = ([], er) by rw [EF.out, if_pos he])
          have HE := Lib.hid he
          clear he
          go_wp2_with fail
          rw [← hw7]
          clear hw7
          go_ret2
          have := rs_nil (r := T) B7.out (by rw [TE.out]; exact HE.out)
          rw [TE.out] at this
          rw [TR.out, TE.out]
          exact this
        have q1 : (er != 0) = false := by simp [he]
        have EF := Lib.hid (show T = if rk = 0 then (K.map ZV.p, 0) else riP f2 (((K.map ZV.p).set ri r.1.2.2).eraseIdx rk) by rw [EF.out, if_neg (by rw [he]; simp)])
        have RO := Lib.hid (RO.out he)
        clear he
        by_cases hk0 : rk = 0
        · have q2 : ((rk : Int) == 0) = true := by simp [hk0]
          have TE := Lib.hid (show T = (K.map ZV.p, 0) by rw [EF.out, if_pos hk0])
          clear hk0
          go_wp2_with fail
          rw [← hw7]
          clear hw7
          go_ret2
          rw [TR.out, TE.out]
          exact ⟨B7.out, ao5, cap5, K, by rw [HQ.out]; rfl, O7.out.rd.1, by simp, by have := HQ.out; omega⟩
        · have q2 : ((rk : Int) == 0) = false := by simp [hk0]
          have EF := Lib.hid (show T = riP f2 (((K.map ZV.p).set ri r.1.2.2).eraseIdx rk) by rw [EF.out, if_neg hk0])
          obtain ⟨hik, hkq⟩ := RO.out hk0
          have hiq : ri < q := by omega
          obtain ⟨g, hg, hcg⟩ : ∃ g, ao5 = some ⟨g, 0, none⟩ ∧ q ≤ cap5 := by
            rcases O7.out.row.2 with ⟨_, h⟩ | ⟨g, c0, cur, e0, _, _, hc, _⟩
            · have := HQ.out; omega
            · injection e0 with e1 e2 e3; exact ⟨g, e1, by have := HQ.out; omega⟩
          subst hg
          have GL := Lib.hid (GQ.out g rfl)
          obtain ⟨p1, p2, p3, p4⟩ := O7.out.put (t := ri) (by have := HQ.out; omega) Z7.out (fun p e => by have := ZG.out p e; have := GL.out.2; omega)
          obtain ⟨u0, hu0⟩ := Option.isSome_iff_exists.1 (p3 0 (by omega))
          obtain ⟨u1, hu1⟩ := Option.isSome_iff_exists.1 (p3 1 (by omega))
          have f0 := p4 0 (by omega)
          have f1 := p4 1 (by omega)
          rw [← HZL.out] at p1 p2
          obtain ⟨x0, x1, _, _⟩ := X7.out.facts
          obtain ⟨w8, hw8⟩ : ∃ w8, w8 = (w7.setCell ⟨g, ri * 2, none⟩ (.int .i64 z.N)).setCell ⟨g, ri * 2 + 1, none⟩ (.slice z.a zl z.c) := ⟨_, rfl⟩
          rw [← hw8] at p1 p2
          have BE8 := Lib.hid (below_trans B7.out (grown_belowR p2 B7.out.size (fun k e => by have e : some g = some k := e; injection e with e; have := GL.out.1; omega)))
          have WO := Lib.hid (show Calls Tryz.prog 57 #[.slice (some ⟨g, 0, none⟩) q cap5, .int .i64 rk] w8 (fun e w' => Below w8.heap.size w8 w' ∧ ∃ ao cap, e = .returned (.slice ao (q - 1) cap) ∧ OwnZ w8.heap.size 0 w' (.slice ao ((K.set ri z).eraseIdx rk).length cap) ((K.set ri z).eraseIdx rk)) from by
            have hl : (K.set ri z).length = q := by rw [List.length_set, ← HQ.out]
            have p1' : OwnZ w.heap.size 0 w8 (.slice (some ⟨g, 0, none⟩) (K.set ri z).length cap5) (K.set ri z) := by rw [hl, HQ.out]; exact p1
            have := rwithout_any (K.set ri z) ⟨g, 0, none⟩ cap5 rk w8 p1'.rd.1 rfl (by omega) (by omega) (by omega)
            rw [hl, take_drop_erase] at this
            exact this)
          clear hk0 p1 p2 p3 p4
          simp only [Nat.add_zero] at hu0 f0
          go_upto_region 15 with (fail)
          rw [← hw7]
          clear hw7
          go_wp2_with fail
          rw [← hw8]
          clear hw8
          refine WO.out.mono ?_
          rintro e w9 ⟨hb, ao9, cap9, rfl, hd⟩
          have OD := Lib.hid (hd.low BE8.out.size (Nat.le_refl _))
          have BE9 := Lib.hid (below_on BE8.out hb)
          clear hb hd WO hu0 hu1 f0 f1 x0 x1
          go_wp2_with fail
          go_roundw
          case rel =>
            have lm : ((K.set ri z).eraseIdx rk).length = q - 1 := by rw [List.length_eraseIdx, if_pos (by rw [List.length_set, ← HQ.out]; exact hkq), List.length_set, ← HQ.out]
            exact ⟨BE9, Lib.hid ⟨ao9, cap9, (K.set ri z).eraseIdx rk, by rw [lm], OD.out, by rw [lm]; omega, f2, by
              rw [EF.out, map_erase, List.map_set, HP.out], by rw [lm]; omega⟩⟩
          case measure => simp [slLen]; omega
end Go.Proofs.YtaegiihkgicdnaaGreat
