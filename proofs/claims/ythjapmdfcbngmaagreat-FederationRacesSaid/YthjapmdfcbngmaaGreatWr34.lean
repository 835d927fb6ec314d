/- A part. -/
import Derived.Test.YthjapmdfcbngmaaGreatWr33
import Derived.Test.YthjapmdfcbngmaaGreatWr32
namespace Go.Proofs.YthjapmdfcbngmaaGreat
set_option maxHeartbeats 16000000
open Go.RowKit
def joP : Nat → List Zp → Nat → Nat → List Zp × Int
 | 0, l, _, _ => (l, 0)
 | n + 1, l, i, fr => if i < l.length then
   (if (prP l i (l.length - fr) fr).2 ≠ 0 then ([], (prP l i (l.length - fr) fr).2)
    else if (prP l i (l.length - fr) fr).1.1 = i then joP n l (i + 1) (i + 2)
    else joP n ((l.set (min i (prP l i (l.length - fr) fr).1.1) (prP l i (l.length - fr) fr).1.2).eraseIdx (max i (prP l i (l.length - fr) fr).1.1)) (min i (prP l i (l.length - fr) fr).1.1) 0) else (l, 0)
theorem joP_end {n i fr : Nat} {l : List Zp} (h : ¬ i < l.length) : joP n l i fr = (l, 0) := by
 cases n with
 | zero => rfl
 | succ n => rw [joP, if_neg h]
theorem prP_lt {l : List Zp} {i : Nat} (hi : i < l.length) : ∀ n j, (prP l i n j).1.1 < l.length
 | 0, _ => hi
 | n + 1, j => by
  rw [prP]
  split
  · rename_i hj
    split
    · exact prP_lt hi n (j + 1)
    · split
      · exact hi
      · split
        · exact hj
        · exact prP_lt hi n (j + 1)
  · exact hi
theorem zV_set {L : List ZV} {t : Nat} (ht : t < L.length) (z : ZV) : zV (L.set t z) = (zV L).take (t * 2) ++ z.cs ++ (zV L).drop ((t + 1) * 2) := by
 rw [List.set_eq_take_append_cons_drop, if_pos ht, zV_append, show z :: L.drop (t + 1) = [z] ++ L.drop (t + 1) from rfl, zV_append, zV_take (by omega), zV_drop (by omega)]
 simp [zV]
theorem put_cells {L : List ZV} {t cap : Nat} {cur : Array Value} (ht : t < L.length) (hc : L.length ≤ cap) (hs : cur.size = cap * 2) (hk : cur.toList.take (L.length * 2) = zV L) (z : ZV) :
  (Lib.lay cur (t * 2) z.cs).toList.take (L.length * 2) = zV (L.set t z) := by
 have l0 := zV_len L
 have l1 : z.cs.length = 2 := rfl
 have c0 : ∀ k, k < L.length * 2 → cur[k]? = (zV L)[k]? := fun k h => by rw [← hk, List.getElem?_take, if_pos h, Array.getElem?_toList]
 rw [zV_set ht]
 apply List.ext_getElem?
 intro k
 rw [List.getElem?_take, Array.getElem?_toList]
 by_cases h : k < L.length * 2
 · rw [if_pos h, Lib.lay_get? _ _ _ _ (by rw [l1]; omega)]
   by_cases h2 : k < t * 2
   · rw [if_neg (by omega), c0 k h, List.append_assoc, List.getElem?_append_left (by simp [l0]; omega), List.getElem?_take, if_pos h2]
   · by_cases h3 : k < (t + 1) * 2
     · rw [if_pos (by rw [l1]; omega), List.append_assoc, List.getElem?_append_right (by simp [l0]; omega), List.getElem?_append_left (by simp [l0, l1]; omega)]
       congr 1
       simp [l0]; omega
     · rw [if_neg (by rw [l1]; omega), c0 k h, List.getElem?_append_right (by simp [l0, l1]; omega), List.getElem?_drop]
       congr 1
       simp [l0, l1]; omega
 · rw [if_neg h]
   symm
   rw [List.getElem?_eq_none]
   simp [l0, l1]; omega
theorem OwnZ.put {R B : Nat} {w : World} {g cap : Nat} {L : List ZV} (h : OwnZ R B w (.slice (some ⟨g, 0, none⟩) L.length cap) L) {t : Nat} (ht : t < L.length) {z : ZV} (hz : ZAt B w z) (hf : ∀ p, z.a = some p → g ≠ p.block) :
  OwnZ R B ((w.setCell ⟨g, t * 2, none⟩ (.int .i64 z.N)).setCell ⟨g, t * 2 + 1, none⟩ (.slice z.a z.l.length z.c)) (.slice (some ⟨g, 0, none⟩) L.length cap) (L.set t z) ∧ w.grownBy ((w.setCell ⟨g, t * 2, none⟩ (.int .i64 z.N)).setCell ⟨g, t * 2 + 1, none⟩ (.slice z.a z.l.length z.c)) (some g) ∧
  (∀ j, j < 2 → (w.cell? ⟨g, t * 2 + j, none⟩).isSome = true) ∧ (∀ j, j < 2 → w.frozen? ⟨g, t * 2 + j, none⟩ = false) := by
 rcases h.row.2 with ⟨_, hn⟩ | ⟨g1, c0, cur, e0, hb, hg, hc, hm, hsz, htake⟩
 · omega
 injection e0 with e1 e2 e3
 injection e1 with e1
 injection e1 with e1
 subst e1 e3
 have e : (w.setCell ⟨g, t * 2, none⟩ (.int .i64 z.N)).setCell ⟨g, t * 2 + 1, none⟩ (.slice z.a z.l.length z.c) = w.setCells g (t * 2) z.cs := rfl
 rw [e]
 have gr := grown_setCells g z.cs (t * 2) w
 have hA : ∀ y ∈ L.set t z, ZAt B w y ∧ ∀ p, y.a = some p → some g ≠ some p.block := fun y hy => by
  rcases List.mem_or_eq_of_mem_set hy with q | q
  · exact ⟨h.el y q, h.far y q⟩
  · subst q; exact ⟨hz, fun p e q => by injection q with q; exact hf p e q⟩
 refine ⟨⟨⟨zV_len _, Or.inr ⟨g, cap, _, by rw [List.length_set], hb, row_setCells z.cs _ _ cur hg, by rw [List.length_set]; exact hc, hm, by rw [Lib.lay_size]; exact hsz, by rw [List.length_set]; exact put_cells ht hc hsz htake z⟩⟩, fun y hy => (hA y hy).1.grown gr (hA y hy).2, fun y hy => (hA y hy).2⟩, gr, fun j hj => ?_, fun j hj => frozen_of_row w g _ _ _ hg⟩
 rw [cell_of_row w g _ _ _ _ hg, Array.getElem?_eq_getElem (by omega)]
 rfl
def JoRes (R B : Nat) (w : World) (r : List Zp × Int) (e : Ending) (w' : World) : Prop :=
 Below R w w' ∧ ((r.2 = 0 ∧ ∃ ao cap M, e = .returned (.slice ao M.length cap) ∧ OwnZ R B w' (.slice ao M.length cap) M ∧ M.map ZV.p = r.1 ∧ M.length ≤ 1000000) ∨ (r.2 ≠ 0 ∧ e = .panicked (pan r.2)))
theorem jo_less {m t t2 : Nat} (h : 0 < m) (h2 : t2 ≤ m) (h3 : t < m) : (m - 1) * (m - 1) + (m - 1) + (m - 1 - t2) < m * m + m + (m - t) := by
 obtain ⟨k, rfl⟩ : ∃ k, m = k + 1 := ⟨m - 1, by omega⟩
 have : (k + 1) * (k + 1) = k * k + 2 * k + 1 := by rw [Nat.mul_add, Nat.add_mul]; omega
 simp only [Nat.add_sub_cancel]
 omega
set_option maxRecDepth 100000 in
theorem fjoin_any (L : List ZV) (ao : Option Addr) (cap R B : Nat) (w : World) (hown : OwnZ R B w (.slice ao L.length cap) L) (hR : R ≤ w.heap.size) (hB : B ≤ w.heap.size) (hl : L.length ≤ 1000000) :
  Calls Tryz.prog 54 #[.slice ao L.length cap] w (JoRes R B w (joP (L.length * L.length + L.length + L.length) (L.map ZV.p) 0 1)) := by
 obtain ⟨T, hT⟩ : ∃ T, T = joP (L.length * L.length + L.length + L.length) (L.map ZV.p) 0 1 := ⟨_, rfl⟩
 rw [← hT]
 have HR := Lib.hid hR
 have HB := Lib.hid hB
 have R0 := Lib.hid (show Below R w w from { os := rfl, tape := rfl, output := rfl, size := Nat.le_refl _, block := fun _ _ => rfl })
 obtain ⟨n, hn⟩ : ∃ n, n = L.length := ⟨_, rfl⟩
 have ST := Lib.hid (show ∃ ao2 cap2 M, Value.slice ao n cap = .slice ao2 M.length cap2 ∧ OwnZ R B w (.slice ao2 M.length cap2) M ∧ M.length ≤ 1000000 ∧ ∃ k, T = joP k (M.map ZV.p) 0 1 ∧ M.length * M.length + M.length + (M.length - 0) ≤ k from
  ⟨ao, cap, L, by rw [hn], hown, hl, _, hT, Nat.le_refl _⟩)
 rw [← hn]
 clear hn hown hR hl hT
 go_enter Tryz.func54, Tryz.ntmps54
 go_wp2_with fail
 go_loopw [0, 3, 4] (fun v s f wr => ∃ t fr : Nat, s = .int .i64 t ∧ f = .int .i64 fr ∧ fr ≤ t + 1 ∧ Hid (Below R w wr) ∧ Hid (∃ ao cap M, v = .slice ao M.length cap ∧ OwnZ R B wr (.slice ao M.length cap) M ∧ M.length ≤ 1000000 ∧ ∃ k, T = joP k (M.map ZV.p) t fr ∧ M.length * M.length + M.length + (M.length - t) ≤ k)) (fun v s _ _ => slLen v * slLen v + slLen v + (slLen v - (intOf s).toNat))
 case atStart => exact ⟨0, 1, rfl, rfl, by omega, R0, ST⟩
 case round =>
  generalize wr = wo at *
  obtain ⟨t, fr, rfl, rfl, hfr, BE, HI⟩ := hrel
  obtain ⟨ao1, cap1, M, rfl, ow, ml, k, ek, hk⟩ := HI.out
  obtain ⟨m, hm⟩ : ∃ m, m = M.length := ⟨_, rfl⟩
  have HM := Lib.hid hm
  have OW := Lib.hid ow
  have EK := Lib.hid ek
  have mle : m ≤ 1000000 := by omega
  have WS := Lib.hid (Nat.le_trans HB.out BE.out.size)
  have WR := Lib.hid (Nat.le_trans HR.out BE.out.size)
  rw [← hm] at hk ⊢
  by_cases htm : t < m
  · have hlt : t < (M.map ZV.p).length := by simp; omega
    have hlen : (M.map ZV.p).length = m := by simp; omega
    obtain ⟨g, rfl⟩ : ∃ g, ao1 = some ⟨g, 0, none⟩ := by
     rcases ow.row.2 with ⟨_, h⟩ | ⟨g, c0, cur, e0, _⟩
     · omega
     · injection e0 with e1; exact ⟨g, e1⟩
    have GL := Lib.hid (show R ≤ g ∧ g < wo.heap.size from ow.lt g rfl)
    obtain ⟨k2, rfl⟩ : ∃ k2, k = k2 + 1 := ⟨k - 1, by omega⟩
    obtain ⟨r, hr⟩ : ∃ r, r = prP (M.map ZV.p) t (m - fr) fr := ⟨_, rfl⟩
    have PA := Lib.hid (show Calls Tryz.prog 102 #[.slice (some ⟨g, 0, none⟩) m cap1, .int .i64 t, .int .i64 fr] wo (PaRes wo r) from by
     have := partner_any M (some ⟨g, 0, none⟩) cap1 t fr wo (ow.rd.1.low (Nat.zero_le _)) (by omega) (by omega) (by omega)
     rw [← hm, ← hr] at this
     exact this)
    have RLT := Lib.hid (show r.1.1 < m by rw [hr, ← hlen]; exact prP_lt hlt _ _)
    rw [joP, if_pos hlt, hlen, ← hr] at ek
    have EK := Lib.hid ek
    clear HI ST ow ek hm hlt hlen hr
    go_wp2_with fail
    refine PA.out.mono ?_
    rintro e w1 ⟨hb, (⟨h1, z, rfl, hz, hp⟩ | ⟨h1, rfl⟩)⟩
    rotate_left
    · have TE : T = ([], r.2) := by rw [EK.out, if_pos h1]
      exact And.intro rfl ⟨below_trans BE.out (below_less hb WR.out), Or.inr ⟨by rw [TE]; exact h1, by rw [TE]⟩⟩
    have EK := Lib.hid (show T = if r.1.1 = t then joP k2 (M.map ZV.p) (t + 1) (t + 2) else joP k2 (((M.map ZV.p).set (min t r.1.1) r.1.2).eraseIdx (max t r.1.1)) (min t r.1.1) 0 by rw [EK.out, if_neg (by rw [h1]; simp)])
    have HP := Lib.hid hp
    obtain ⟨j, hj⟩ : ∃ j, j = r.1.1 := ⟨_, rfl⟩
    rw [← hj] at EK RLT ⊢
    have hjm := RLT.out
    have B1 := Lib.hid hb
    have OW1 := Lib.hid (OW.out.on hb)
    have BE1 := Lib.hid (below_trans BE.out (below_less hb WR.out))
    unfold ZV.val
    obtain ⟨zl, hzl⟩ : ∃ zl, zl = z.l.length := ⟨_, rfl⟩
    rw [← hzl]
    have HZL := Lib.hid hzl
    obtain ⟨w2, hw2⟩ : ∃ w2, w2 = w1.alloc (.cells #[.int .i64 z.N, .slice z.a zl z.c] 36) := ⟨_, rfl⟩
    have hb2 : Below w1.heap.size w1 w2 := by rw [hw2]; exact one_more _
    have X2 := Lib.hid (show Bx2 w2 w1.heap.size (.int .i64 z.N) (.slice z.a zl z.c) 36 by rw [hw2]; exact Bx2.made w1 _ _ _)
    have OW2 := Lib.hid (OW1.out.on hb2)
    have BE2 := Lib.hid (below_trans BE1.out (below_less hb2 (Nat.le_trans WR.out hb.size)))
    have ZZ := Lib.hid (show ZAt B w2 z from (hz.on hb2).low WS.out)
    have ZF := Lib.hid (show ∀ p, z.a = some p → g ≠ p.block from fun p e => by have := (hz.2 p e).1; have := GL.out.2; omega)
    have SZ := Lib.hid (show R ≤ w2.heap.size from Nat.le_trans WR.out (Nat.le_trans hb.size hb2.size))
    clear hb hz hp hj h1 hzl hb2 OW1 B1
    by_cases hjt : j = t
    · have q1 : ((j : Int) == (t : Int)) = true := by simp [hjt]
      have EK := Lib.hid (show T = joP k2 (M.map ZV.p) (t + 1) (t + 2) by rw [EK.out, if_pos hjt])
      clear hjt
      go_wp2_with fail
      rw [← hw2]
      clear hw2
      go_roundw
      case rel => exact ⟨t + 1, t + 2, by go_num, by go_num, by omega, BE2, Lib.hid ⟨_, cap1, M, by rw [HM.out], OW2.out, by rw [← HM.out]; exact mle, k2, EK.out, by rw [← HM.out]; omega⟩⟩
      case measure => simp [intOf, slLen]; omega
    · have q1 : ((j : Int) == (t : Int)) = false := by simp; omega
      have EK := Lib.hid (show T = joP k2 (((M.map ZV.p).set (min t j) r.1.2).eraseIdx (max t j)) (min t j) 0 by rw [EK.out, if_neg hjt])
      obtain ⟨lo, hlo⟩ : ∃ lo, lo = min t j := ⟨_, rfl⟩
      obtain ⟨hi, hhi⟩ : ∃ hi, hi = max t j := ⟨_, rfl⟩
      rw [← hlo, ← hhi] at EK
      have hmn := run_minN hlo
      have hmx := run_maxN hhi
      have lon : lo < m := by omega
      have hin2 : hi < m := by omega
      have lot : lo ≤ t := by omega
      obtain ⟨p1, p2, p3, p4⟩ := OW2.out.put (t := lo) (by have := HM.out; omega) ZZ.out ZF.out
      obtain ⟨u0, hu0⟩ := Option.isSome_iff_exists.1 (p3 0 (by omega))
      obtain ⟨u1, hu1⟩ := Option.isSome_iff_exists.1 (p3 1 (by omega))
      have f0 := p4 0 (by omega)
      have f1 := p4 1 (by omega)
      rw [← HZL.out, ← HM.out] at p1
      rw [← HZL.out] at p2
      obtain ⟨x0, x1, _, _⟩ := X2.out.facts
      obtain ⟨w3, hw3⟩ : ∃ w3, w3 = (w2.setCell ⟨g, lo * 2, none⟩ (.int .i64 z.N)).setCell ⟨g, lo * 2 + 1, none⟩ (.slice z.a zl z.c) := ⟨_, rfl⟩
      rw [← hw3] at p1 p2
      have BE3 := Lib.hid (below_trans BE2.out (grown_belowR p2 SZ.out (fun k e => by injection e with e; have := GL.out.1; omega)))
      have SZ3 := Lib.hid (show R ≤ w3.heap.size from Nat.le_trans SZ.out p2.size)
      have DL := Lib.hid (show Calls Tryz.prog 103 #[.slice (some ⟨g, 0, none⟩) m cap1, .int .i64 hi, .int .i64 ((hi : Int) + 1)] w3 fun e w' => e = .returned (.slice (some ⟨g, 0, none⟩) (m - 1) cap1) ∧ OwnZ R B w' (.slice (some ⟨g, 0, none⟩) (m - 1) cap1) ((M.set lo z).eraseIdx hi) ∧ Below R w3 w' from by
       have hl : (M.set lo z).length = m := by rw [List.length_set, ← HM.out]
       have p1 : OwnZ R B w3 (.slice (some ⟨g, 0, none⟩) (M.set lo z).length cap1) (M.set lo z) := by rw [hl]; exact p1
       have := zdelete_any p1 (i := hi) (by omega)
       rw [hl] at this
       refine this.mono ?_
       rintro e w' ⟨h1, h2, h3⟩
       exact ⟨h1, h2, grown_belowR h3 SZ3.out (fun k e => by have e : some g = some k := e; injection e with e; have := GL.out.1; omega)⟩)
      clear hjt hlo hhi p1 p2 p3 p4
      simp only [Nat.add_zero] at hu0 f0
      go_upto_region 4 with (fail)
      rw [← hw2]
      clear hw2
      go_wp2_with fail
      rw [← hw3]
      clear hw3
      refine DL.out.mono ?_
      rintro e w4 ⟨rfl, hd, hb⟩
      have BE4 := Lib.hid (below_trans BE3.out hb)
      have OD := Lib.hid hd
      clear hb hd DL hu0 hu1 f0 f1 x0 x1 hmn hmx
      go_wp2_with fail
      go_roundw
      case rel =>
       have lm : ((M.set lo z).eraseIdx hi).length = m - 1 := by rw [List.length_eraseIdx, if_pos (by rw [List.length_set, ← HM.out]; exact hin2), List.length_set, ← HM.out]
       exact ⟨lo, 0, by go_num, by go_num, by omega, BE4, Lib.hid ⟨_, cap1, (M.set lo z).eraseIdx hi, by rw [lm], by rw [lm]; exact OD.out, by rw [lm]; omega, k2, by
        rw [EK.out, map_erase, List.map_set, HP.out], by rw [lm]; exact Nat.le_of_lt_succ (Nat.lt_of_lt_of_le (jo_less (m := m) (t := t) (t2 := lo) (by omega) (by omega) htm) hk)⟩⟩
      case measure => simp [intOf, slLen]; exact jo_less (by omega) (by omega) htm
  · have TE := Lib.hid (show T = (M.map ZV.p, 0) by rw [ek]; exact joP_end (by simp; omega))
    clear HI ST ow ek hm
    go_wp2_with fail
    go_ret
    exact ⟨BE.out, Or.inl ⟨by rw [TE.out], ao1, cap1, M, by rw [HM.out]; rfl, OW.out, by rw [TE.out], by rw [← HM.out]; exact mle⟩⟩
def siP (L : List Zp) : List Zp × Int := joP ((wpP L.length 0 L).length * (wpP L.length 0 L).length + (wpP L.length 0 L).length + (wpP L.length 0 L).length) (wpP L.length 0 L) 0 1
def siR (L : List Zp) : List Zp × Int := ((siP L).1, ansE [L] (siP L).2)
theorem chk_same {L : List Zp} (h : chkG [L] = 0) : ∀ a ∈ L, ∀ b ∈ L, inE a.1 b.1 a.2 b.2 = 0 := by
 unfold chkG at h
 split at h
 · cases h
 · unfold ckL at h
   split at h
   · rename_i q
     simp only [List.flatten_cons, List.flatten_nil, List.append_nil] at q
     rw [List.all_eq_true] at q
     intro a ha b hb
     have h1 := q a ha
     have h2 := q b hb
     unfold ckZ at h1 h2
     simp only [Bool.and_eq_true, decide_eq_true_eq] at h1 h2
     unfold inE
     rw [if_pos]
     unfold twB
     simp only [Bool.and_eq_true, decide_eq_true_eq]
     exact ⟨⟨h1.1, h2.1⟩, h1.2.trans h2.2.symm⟩
   · cases h
set_option maxRecDepth 100000 in
theorem fsimp1_any (L : List ZV) (go : Option Addr) (gc pa : Nat) (W : World) (c0 : W.cell? ⟨pa, 0, none⟩ = some (.slice go L.length gc)) (hL : RdZ 0 W go L) (hc0 : chkG ([L].map (List.map ZV.p)) = 0) :
  Calls Tryz.prog 53 #[.pointer (some ⟨pa, 0, none⟩)] W (fun e W' => ((siP (L.map ZV.p)).2 = 0 ∧ ∃ v, e = .returned v ∧ NewL (siP (L.map ZV.p)).1 W v W' ∧ Below W.heap.size W W') ∨ ((siP (L.map ZV.p)).2 ≠ 0 ∧ e = .panicked (pan (siP (L.map ZV.p)).2) ∧ Below W.heap.size W W')) := by
 have hz := chk_zones hc0 L (by simp)
 have hl2 := chk_len hc0 L (by simp)
 have IE := Lib.hid (chk_same (L := L.map ZV.p) (by simpa using hc0))
 have CP := Lib.hid (copies_any L go gc W hL hl2 hz)
 have LE := Lib.hid hl2
 have LN := Lib.hid (show (L.map ZV.p).length = L.length by simp)
 obtain ⟨T, hT⟩ : ∃ T, T = siP (L.map ZV.p) := ⟨_, rfl⟩
 rw [← hT]
 have TT := Lib.hid hT
 generalize hn : L.length = n at *
 clear hL hz hc0 hn hl2 hT
 go_enter Tryz.func53, Tryz.ntmps53
 go_wp2_with fail
 refine CP.out.mono ?_
 rintro e w2 ⟨hb, (⟨_, v, Z, rfl, h3, h4⟩ | ⟨h1, _⟩)⟩
 rotate_left
 · exact absurd rfl h1
 obtain ⟨ao, cap, rfl, _, _⟩ := h4.read
 have B2 := Lib.hid hb
 have zl : Z.length = n := by have e : (Z.map ZV.p).length = (L.map ZV.p).length := by rw [h3]
                              rw [LN.out] at e; simpa using e
 have hle := LE.out
 have WP := Lib.hid (withoutParts_any Z ao cap W.heap.size W.heap.size w2 h4 hb.size (by omega) (fun x hx y hy => by
  have h1 : x.p ∈ L.map ZV.p := by rw [← h3]; exact List.mem_map.2 ⟨x, hx, rfl⟩
  have h2 : y.p ∈ L.map ZV.p := by rw [← h3]; exact List.mem_map.2 ⟨y, hy, rfl⟩
  exact IE.out _ h1 _ h2))
 have ZP := Lib.hid h3
 have ZL := Lib.hid zl
 obtain ⟨zn, hzn⟩ : ∃ zn, zn = Z.length := ⟨_, rfl⟩
 rw [← hzn] at WP ⊢
 have HZN := Lib.hid hzn
 clear hb h3 h4 zl hle hzn CP
 go_wp2_with fail
 refine WP.out.mono ?_
 rintro e w3 ⟨hb, ao2, cap2, M, rfl, ow, em, _, ml⟩
 have B3 := Lib.hid (below_trans B2.out hb)
 have JO := Lib.hid (fjoin_any M ao2 cap2 W.heap.size W.heap.size w3 ow B3.out.size B3.out.size (by have := LE.out; have := ZL.out; have := HZN.out; omega))
 have TE := Lib.hid (show T = joP (M.length * M.length + M.length + M.length) (M.map ZV.p) 0 1 by
  have e1 : M.map ZV.p = wpP (L.map ZV.p).length 0 (L.map ZV.p) := by rw [em, ZP.out, LN.out, HZN.out, ZL.out]
  rw [TT.out, siP, ← e1, List.length_map])
 rw [← TE.out] at JO
 obtain ⟨mn, hmn⟩ : ∃ mn, mn = M.length := ⟨_, rfl⟩
 rw [← hmn] at JO ⊢
 clear hb ow em ml hmn WP
 go_wp2_with fail
 refine JO.out.mono ?_
 rintro e w4 ⟨hb, (⟨h1, ao3, cap3, K, rfl, ok, ek, kl⟩ | ⟨h1, rfl⟩)⟩
 · have H1 := Lib.hid h1
   have OK := Lib.hid ok
   have EK := Lib.hid ek
   have B4 := Lib.hid (below_trans B3.out hb)
   obtain ⟨kn, hkn⟩ : ∃ kn, kn = K.length := ⟨_, rfl⟩
   rw [← hkn]
   have HKN := Lib.hid hkn
   clear hb h1 ok ek kl hkn JO
   go_wp2_with fail
   go_ret
   have u5 := OK.out.capNil
   obtain ⟨a5, c5, e5, r5, q5⟩ := OK.out.read
   injection e5 with q1 q2 q3
   subst q1
   exact Or.inl ⟨H1.out, _, rfl, ⟨ao3, cap3, K, by rw [HKN.out]; rfl, EK.out, r5, fun p e _ => (q5 p e).1, u5⟩, B4.out⟩
 · exact And.intro rfl (Or.inr ⟨h1, rfl, below_trans B3.out hb⟩)
theorem wpP_len : ∀ (n i : Nat) (l : List Zp), (wpP n i l).length ≤ l.length
 | 0, _, l => Nat.le_refl _
 | n + 1, i, l => by
  rw [wpP]
  split
  · split
    · refine Nat.le_trans (wpP_len n i _) ?_
      rw [List.length_eraseIdx]; split <;> omega
    · exact wpP_len n (i + 1) l
  · exact Nat.le_refl _
theorem joP_len : ∀ (n : Nat) (l : List Zp) (i fr : Nat), (joP n l i fr).1.length ≤ l.length
 | 0, l, _, _ => Nat.le_refl _
 | n + 1, l, i, fr => by
  rw [joP]
  split
  · split
    · exact Nat.zero_le _
    · split
      · exact joP_len n l _ _
      · refine Nat.le_trans (joP_len n _ _ _) ?_
        rw [List.length_eraseIdx]; split <;> simp
  · exact Nat.le_refl _
set_option maxRecDepth 100000 in
theorem fsimp_out (L : List ZV) (go : Option Addr) (gc : Nat) (w : World) (hL : RdZ 0 w go L) (h1 : go = none → gc = 0) (hl : L.length ≤ 3000) :
  Calls Tryz.prog 21 #[.slice go L.length gc] w (FLRes (siR (L.map ZV.p)) w) := by
 obtain ⟨w3, hw3⟩ : ∃ w3, w3 = (w.alloc (.cells #[.slice go L.length gc] 22)).alloc (.cells #[.slice go L.length gc] 22) := ⟨_, rfl⟩
 have B3 := Lib.hid (show Below w.heap.size w w3 by rw [hw3]; exact past_two (Below.refl _ _))
 have t2 := Lib.hid (show Bx1 w3 w.heap.size (.slice go L.length gc) 22 by rw [hw3]; exact (Bx1.made w _ _).kept (one_more _))
 have t4 : RdGZ w3 (some ⟨w.heap.size + 1, 0, none⟩) [L] := ⟨fun t ht => by
  match t, ht with
  | 0, _ =>
   refine ⟨_, go, gc, rfl, ?_, hL.on B3.out, h1⟩
   rw [addr_add, hw3]
   simp⟩
 have LX := Lib.hid (show ansE [L.map ZV.p] (siP (L.map ZV.p)).2 = 0 → (siP (L.map ZV.p)).1.length ≤ 1000000 from fun _ => by
  refine Nat.le_trans (joP_len _ _ _ _) (Nat.le_trans (wpP_len _ _ _) ?_)
  simp; omega)
 have AN := Lib.hid (answerL_any 53 #[.pointer (some ⟨w.heap.size, 0, none⟩)] [L] (some ⟨w.heap.size + 1, 0, none⟩) 1 (siP (L.map ZV.p)).2 w3 t4 (by simp) (by intro X hX; simp at hX; subst hX; exact hl) (fclosure _ Tryz.func53 (by kernel_rfl) rfl) (NewL (siP (L.map ZV.p)).1) newL_put (fun hc W hW => fsimp1_any L go gc w.heap.size W (t2.out.kept hW).cell ((hL.on B3.out).on hW) hc))
 simp only [List.map_cons, List.map_nil, List.length_cons, List.length_nil, Nat.zero_add] at AN
 generalize hLl : L.length = n at *
 clear hL h1 t2 t4 hl hLl
 go_enter Tryz.func21, Tryz.ntmps21
 go_wp2_with fail
 rw [← hw3]
 refine AN.out.mono ?_
 intro e w4 h
 have h := h.fl B3.out LX.out
 obtain ⟨hb, ao, cap, Z, rfl, g1, g2, g3, g4⟩ := h
 have H := Lib.hid (show FLRes (siR (L.map ZV.p)) w (.returned (.tuple #[.slice ao Z.length cap, .int .i64 (siR (L.map ZV.p)).2])) w4 from ⟨hb, ao, cap, Z, rfl, g1, g2, g3, g4⟩)
 generalize Z.length = zn at *
 clear hb g1 g2 g3 g4 AN
 go_wp2_with fail
 go_ret2
 exact H.out
end Go.Proofs.YthjapmdfcbngmaaGreat
