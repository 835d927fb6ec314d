/- A part. -/
import Derived.Test.YthjapmdfcbngmaaGreatWr16
import Derived.Maps.AppendAt
import Derived.Shelf.RegionOpenPlain
import Derived.Deep.RegionLaw
import Derived.Lib.SliceRun
import Derived.Lib.SlicesDelete
import Derived.Test.YthjapmdfcbngmaaGreatWr11
import Derived.Test.YthjapmdfcbngmaaGreatWr31
import Derived.Test.YthjapmdfcbngmaaGreatWr8
import Derived.Test.YthjapmdfcbngmaaGreatWr28
import Derived.Test.YthjapmdfcbngmaaGreatWr14
namespace Go.Proofs.YthjapmdfcbngmaaGreat
set_option maxHeartbeats 16000000
open Go.RowKit
theorem row_setCells {g : Nat} {e : TypeId} : ∀ (vs : List Value) (o : Nat) (w : World) (cur : Array Value), w.heap[g]? = some (.cells cur e (0, 0)) → (w.setCells g o vs).heap[g]? = some (.cells (Lib.lay cur o vs) e (0, 0))
 | [], _, _, _, h => h
 | v :: r, o, w, cur, h => row_setCells r (o + 1) _ _ (heap_setCell_same w g o cur e v h)
theorem grown_setCells (g : Nat) : ∀ (vs : List Value) (o : Nat) (w : World), w.grownBy (w.setCells g o vs) (some g)
 | [], _, w => ⟨rfl, rfl, rfl, Nat.le_refl _, fun _ _ _ => rfl⟩
 | v :: r, o, w => by
  have h1 : w.grownBy (w.setCell ⟨g, o, none⟩ v) (some g) := ⟨rfl, rfl, rfl, by simp, fun k _ hk => heap_setCell_other w ⟨g, o, none⟩ k v (fun e => hk (by simp [e]))⟩
  have h2 := grown_setCells g r (o + 1) (w.setCell ⟨g, o, none⟩ v)
  exact h1.trans h2
theorem zV_append (A B : List ZV) : zV (A ++ B) = zV A ++ zV B := by unfold zV; rw [List.flatMap_append]
theorem zV_take {L : List ZV} {i : Nat} (h : i ≤ L.length) : (zV L).take (i * 2) = zV (L.take i) := by
 have e : zV L = zV (L.take i) ++ zV (L.drop i) := by rw [← zV_append, List.take_append_drop]
 have l : (zV (L.take i)).length = i * 2 := by rw [zV_len, List.length_take]; congr 1; omega
 rw [e, ← l, List.take_left]
theorem zV_drop {L : List ZV} {i : Nat} (h : i ≤ L.length) : (zV L).drop (i * 2) = zV (L.drop i) := by
 have e : zV L = zV (L.take i) ++ zV (L.drop i) := by rw [← zV_append, List.take_append_drop]
 have l : (zV (L.take i)).length = i * 2 := by rw [zV_len, List.length_take]; congr 1; omega
 rw [e, ← l, List.drop_left]
theorem zV_erase {L : List ZV} {i : Nat} (h : i < L.length) : zV (L.eraseIdx i) = (zV L).take (i * 2) ++ (zV L).drop ((i + 1) * 2) := by
 rw [List.eraseIdx_eq_take_drop_succ, zV_append, zV_take (by omega), zV_drop (by omega)]
theorem zV_one2 (L : List ZV) : ∀ u ∈ zV L, u.oneCell' = true := by
 intro u hu
 unfold zV at hu
 rw [List.mem_flatMap] at hu
 obtain ⟨z, _, hu⟩ := hu
 simp [ZV.cs] at hu
 rcases hu with rfl | rfl <;> rfl
theorem cut_cells {L : List ZV} {i cap : Nat} {cur : Array Value} (hi : i < L.length) (hc : L.length ≤ cap) (hs : cur.size = cap * 2) (ht : cur.toList.take (L.length * 2) = zV L) (zs : List Value) (hz : zs.length = 2) :
  (Lib.lay (Lib.lay cur (i * 2) ((zV L).drop ((i + 1) * 2))) ((L.length - 1) * 2) zs).toList.take ((L.length - 1) * 2) = zV (L.eraseIdx i) := by
 have l0 := zV_len L
 have l1 : ((zV L).drop ((i + 1) * 2)).length = L.length * 2 - (i + 1) * 2 := by rw [List.length_drop, l0]
 have c0 : ∀ t, t < L.length * 2 → cur[t]? = (zV L)[t]? := fun t h => by rw [← ht, List.getElem?_take, if_pos h, Array.getElem?_toList]
 rw [zV_erase hi]
 apply List.ext_getElem?
 intro t
 rw [List.getElem?_take, Array.getElem?_toList]
 by_cases h : t < (L.length - 1) * 2
 · rw [if_pos h, Lib.lay_get? _ _ _ _ (by rw [Lib.lay_size, hz]; omega), if_neg (by omega), Lib.lay_get? _ _ _ _ (by rw [l1]; omega)]
   by_cases h2 : t < i * 2
   · rw [if_neg (by omega), List.getElem?_append_left (by simp [l0]; omega), List.getElem?_take, if_pos h2, c0 t (by omega)]
   · rw [if_pos (by rw [l1]; omega), List.getElem?_append_right (by simp [l0]; omega)]
     congr 1
     simp [l0]; omega
 · rw [if_neg h]
   symm
   rw [List.getElem?_eq_none]
   simp [l0]; omega
theorem run_clear_zone (w : World) (ty : TypeId) (b o c : Nat) (hc : ∀ j, j < 2 → (w.cell? ⟨b, o + j, none⟩).isSome = true) (hf : ∀ j, j < 2 → w.frozen? ⟨b, o + j, none⟩ = false) :
  (Builtin.clear_ #[22] ty #[.slice (some ⟨b, o, none⟩) 1 c]).run Tryz.prog w = .ok (.tuple #[]) (w.setCells b o [.int .i64 0, .slice none 0 0]) := by
 have hv : ∀ w, (zeroValue 36).run Tryz.prog w = .ok (.agg #[.int .i64 0, .slice none 0 0]) w := fun w => by kernel_rfl
 have hzc : (Builtin.zeroCells (Value.agg #[.int .i64 0, .slice none 0 0]).cells 1).toList = [.int .i64 0, .slice none 0 0] := by kernel_rfl
 have hst := run_storeCells_cells (P := Tryz.prog) b o [.int .i64 0, .slice none 0 0] 0 w (by simpa using hc) (by simpa using hf) (by intro v hv'; simp at hv'; rcases hv' with rfl | rfl <;> rfl)
 simp only [Nat.add_zero] at hst
 simp [Builtin.clear_, run_underlying Tryz.underlying22, hv, hzc, hst]
set_option maxRecDepth 1000000 in
theorem zdelete_any {R B : Nat} {w : World} {ao : Option Addr} {cap i : Nat} {L : List ZV} (hown : OwnZ R B w (.slice ao L.length cap) L) (hi : i < L.length) :
  Calls Tryz.prog 103 #[.slice ao L.length cap, .int .i64 i, .int .i64 ((i : Int) + 1)] w fun e w' => e = .returned (.slice ao (L.length - 1) cap) ∧ OwnZ R B w' (.slice ao (L.length - 1) cap) (L.eraseIdx i) ∧ w.grownBy w' (Value.slice ao L.length cap).ownBlock := by
 obtain ⟨i0, hi0, hz0, hz1, hz2⟩ := info_parts zone_info
 have t22 := Tryz.underlying22
 rcases hown.row.2 with ⟨_, hn⟩ | ⟨g, c0, cur, e0, hb, hg, hc, hm, hsz, htake⟩
 · omega
 injection e0 with e1 e2 e3
 subst e1 e3
 have EL := Lib.hid hown.el
 have FA := Lib.hid hown.far
 obtain ⟨news, hnews⟩ : ∃ news, news = (zV L).drop ((i + 1) * 2) := ⟨_, rfl⟩
 have hlen : news.length = (L.length - (i + 1)) * 2 := by rw [hnews, List.length_drop, zV_len]; omega
 have hcell : ∀ t, t < L.length * 2 → w.cell? ⟨g, t, none⟩ = (zV L)[t]? := fun t ht => by
  rw [cell_of_row w g t _ _ _ hg, ← htake, List.getElem?_take, if_pos ht, Array.getElem?_toList]
 obtain ⟨A, hA, hsrc⟩ : ∃ A : Addr, (if cap = i + 1 then some (⟨g, 0, none⟩ : Addr) else some ⟨g, (i + 1) * 2, none⟩) = some A ∧ Hid (∀ t u, news[t]? = some u → w.drew.cell? (A.add t) = some u) := by
  by_cases h : cap = i + 1
  · refine ⟨⟨g, 0, none⟩, by simp [h], fun t u hu => ?_⟩
    have h0 : news.length = 0 := by rw [hlen]; omega
    rw [List.length_eq_zero_iff.1 h0] at hu
    simp at hu
  · refine ⟨⟨g, (i + 1) * 2, none⟩, by simp [h], fun t u hu => ?_⟩
    have ht : t < (L.length - (i + 1)) * 2 := by
     have := (List.getElem?_eq_some_iff.1 hu).1
     rwa [hlen] at this
    rw [hnews, List.getElem?_drop] at hu
    rw [Addr.add_lit]
    exact (hcell _ (by omega)).trans hu
 have s1 : Hid (news.length = (L.length - (i + 1)) * 2) := hlen
 have s2 : Hid (∀ u ∈ news, u.oneCell' = true) := fun u hu => zV_one2 L u (by rw [hnews] at hu; exact List.mem_of_mem_drop hu)
 have s3 : Hid (∀ t, t < news.length → (w.drew.cell? ⟨g, 0 + i * 2 + t, none⟩).isSome = true ∧ w.drew.frozen? ⟨g, 0 + i * 2 + t, none⟩ = false) := by
  intro t ht
  rw [hlen] at ht
  rw [Nat.zero_add]
  refine ⟨?_, frozen_of_row w g _ _ _ hg⟩
  show (w.cell? _).isSome = true
  rw [hcell _ (by omega), List.getElem?_eq_getElem (by rw [zV_len]; omega)]
  rfl
 obtain ⟨W1, hW1⟩ : ∃ W1, W1 = w.drew.setCells g (0 + i * 2) news := ⟨_, rfl⟩
 have r1 : W1.heap[g]? = some (.cells (Lib.lay cur (0 + i * 2) news) 36 (0, 0)) := by rw [hW1]; exact row_setCells news _ _ cur hg
 have sz1 : (Lib.lay cur (0 + i * 2) news).size = cap * 2 := by rw [Lib.lay_size]; exact hsz
 have hcl : ∀ ty, (Builtin.clear_ #[22] ty #[.slice (some ⟨g, (i + (L.length - (i + 1))) * 2, none⟩) (L.length - (i + (L.length - (i + 1)))) (cap - (i + (L.length - (i + 1))))]).run Tryz.prog W1 = .ok (.tuple #[]) (W1.setCells g ((i + (L.length - (i + 1))) * 2) [.int .i64 0, .slice none 0 0]) := by
  intro ty
  rw [show L.length - (i + (L.length - (i + 1))) = 1 by omega]
  refine run_clear_zone W1 ty g _ _ (fun j hj => ?_) (fun j hj => frozen_of_row W1 g _ _ _ r1)
  rw [cell_of_row W1 g _ _ _ _ r1, Array.getElem?_eq_getElem (by rw [sz1]; omega)]
  rfl
 have GW : Hid (w.grownBy (W1.setCells g ((i + (L.length - (i + 1))) * 2) [.int .i64 0, .slice none 0 0]) (some g)) := by
  have h1 : w.grownBy w.drew (some g) := by
   have := (Below.refl w.heap.size w).drew
   exact ⟨this.os, this.tape, this.output, this.size, fun k hk _ => this.block k hk⟩
  rw [hW1]
  exact (h1.trans (grown_setCells g news _ _)).trans (grown_setCells g _ _ _)
 have r2 : Hid ((W1.setCells g ((i + (L.length - (i + 1))) * 2) [.int .i64 0, .slice none 0 0]).heap[g]? = some (.cells (Lib.lay (Lib.lay cur (i * 2) ((zV L).drop ((i + 1) * 2))) ((L.length - 1) * 2) [.int .i64 0, .slice none 0 0]) 36 (0, 0))) := by
  have := row_setCells [.int .i64 0, .slice none 0 0] ((i + (L.length - (i + 1))) * 2) W1 _ r1
  rw [Nat.zero_add, hnews] at this
  rw [show L.length - 1 = i + (L.length - (i + 1)) by omega]
  exact this
 have ct := Lib.hid (cut_cells hi hc hsz htake [.int .i64 0, .slice none 0 0] rfl)
 have hW : Hid (W1 = w.drew.setCells g (0 + i * 2) news) := hW1
 have SZ := Lib.hid hsz
 have HB := Lib.hid hb
 obtain ⟨n, hn⟩ : ∃ n, n = L.length := ⟨_, rfl⟩
 have HN := Lib.hid hn
 have MX : cap ≤ 9223372036854775807 := by unfold maxLen at hm; omega
 rw [← hn] at hcl s1 hi hc ⊢
 have mixed : Tryz.prog.follows Departure.mixedOrders = true := by kernel_rfl
 have hicap : i ≤ cap := by omega
 have hj0 : (0 : Int) ≤ (i : Int) + 1 := by omega
 have hj1 : (i : Int) + 1 ≤ (n : Int) := by omega
 have hjcap : i + 1 ≤ cap := by omega
 clear hW1 hcell hnews hlen hsz htake hg r1 sz1 hown hn
 go_enter Tryz.func103, Tryz.ntmps103
 go_wp2_with fail
 go_region_law_o (refine step_append_room rfl (.tmp 22) (.tmp 25) 22 rfl 36 i0 2 t22 hi0 hz1 g 0 i cap (by simp [Act.eval, Act.put]) A (n - (i + 1)) (cap - (i + 1)) news (by simp [Act.eval, Act.put]) s1.out hsrc.out s2.out (by omega) s3.out ?_; rw [← hW.out])
 go_wp2
 go_ret
 have GW2 := GW.out
 have r22 := r2.out
 rw [← HN.out] at GW2 r22
 have lm : (L.eraseIdx i).length = n - 1 := by rw [List.length_eraseIdx, if_pos (by rw [← HN.out]; exact hi), ← HN.out]
 refine ⟨by rw [show n - 1 = i + (n - (i + 1)) by omega]; rfl, ⟨⟨zV_len _, Or.inr ⟨g, cap, _, by rw [lm], HB.out, r22, by omega, hm, by rw [Lib.lay_size, Lib.lay_size]; exact SZ.out, ?_⟩⟩, fun z hz => (EL.out z (List.mem_of_mem_eraseIdx hz)).grown GW2 (FA.out z (List.mem_of_mem_eraseIdx hz)), fun z hz => FA.out z (List.mem_of_mem_eraseIdx hz)⟩, GW2⟩
 rw [lm, HN.out]
 exact ct.out
theorem smB_refl (N : Int) (l : List Int) : smB N N l l = true := by simp [smB]
set_option maxRecDepth 100000 in
theorem rsameLW_any (L M : List ZV) (go ho : Option Addr) (gc hc : Nat) (w : World) (hL : RdW w go L) (hM : RdW w ho M) (hl : L.length ≤ 1000000) (he : L.map ZV.p = M.map ZV.p) (hz : ∀ z ∈ L, z.l.length ≤ 9223372036854775807) :
  Calls Tryz.prog 19 #[.slice go L.length gc, .slice ho M.length hc] w (Made (.bool true) w) := by
 have RL := Lib.hid hL
 have RM := Lib.hid hM
 have HE := Lib.hid he
 have HZ := Lib.hid hz
 have hlm : M.length = L.length := by have := congrArg List.length he; simpa using this.symm
 obtain ⟨n, hn⟩ : ∃ n, n = L.length := ⟨_, rfl⟩
 have HN := Lib.hid hn
 have HM := Lib.hid (show n = M.length by omega)
 have nle : n ≤ 1000000 := by omega
 rw [hlm, ← hn]
 clear hL hM hl hn he hz hlm
 go_enter Tryz.func19, Tryz.ntmps19
 go_wp2_with fail
 go_loopw [5] (fun i wr => ∃ t : Nat, i = .int .i64 t ∧ t ≤ n ∧ Hid (Below w.heap.size w wr)) (fun i _ => n - (intOf i).toNat)
 case atStart => exact ⟨0, rfl, by omega, Lib.hid (Below.refl _ _)⟩
 case round =>
  generalize wr = wo at *
  obtain ⟨t, rfl, ht, BE⟩ := hrel
  by_cases htn : t < n
  · obtain ⟨x, hx⟩ : ∃ x, x = L[t]'(by have := HN.out; omega) := ⟨_, rfl⟩
    obtain ⟨y, hy⟩ : ∃ y, y = M[t]'(by have := HM.out; omega) := ⟨_, rfl⟩
    have XY : x.p = y.p := by
     have h1 : (L.map ZV.p)[t]? = some x.p := by rw [List.getElem?_map, List.getElem?_eq_getElem (by have := HN.out; omega), hx]; rfl
     have h2 : (M.map ZV.p)[t]? = some y.p := by rw [List.getElem?_map, List.getElem?_eq_getElem (by have := HM.out; omega), hy]; rfl
     rw [HE.out, h2] at h1
     injection h1 with h1
     exact h1.symm
    have hxm : x ∈ L := by rw [hx]; exact List.getElem_mem _
    have HX := Lib.hid (show ZW wo x from (RL.out.el x hxm).on BE.out)
    have HY := Lib.hid (show ZW wo y from (RM.out.el y (by rw [hy]; exact List.getElem_mem _)).on BE.out)
    obtain ⟨a, ea, h0, h1⟩ := (RL.out.on BE.out).hd t (by have := HN.out; omega)
    obtain ⟨b, eb, h2, h3⟩ := (RM.out.on BE.out).hd t (by have := HM.out; omega)
    rw [← hx] at h0 h1
    rw [← hy] at h2 h3
    obtain ⟨xl, hxl⟩ : ∃ xl, xl = x.l.length := ⟨_, rfl⟩
    obtain ⟨yl, hyl⟩ : ∃ yl, yl = y.l.length := ⟨_, rfl⟩
    rw [← hxl] at h1
    rw [← hyl] at h3
    have SM := Lib.hid (show ∀ W, Below wo.heap.size wo W → Calls Tryz.prog 37 #[.agg #[.int .i64 x.N, .slice x.a xl x.c], .agg #[.int .i64 y.N, .slice y.a yl y.c]] W (Made (.bool true) W) from fun W h => by
     have := same_any x.N y.N x.l y.l x.a y.a x.c y.c W (HX.out.on h).1 (HY.out.on h).1 (HZ.out x hxm)
     have e1 : x.N = y.N := congrArg Prod.fst XY
     have e2 : x.l = y.l := congrArg Prod.snd XY
     rw [show smB x.N y.N x.l y.l = true by rw [e1, e2]; exact smB_refl _ _] at this
     rw [hxl, hyl]; exact this)
    have G := Lib.hid (And.intro h0 (And.intro h1 (And.intro h2 h3)))
    clear hx hy hxl hyl h0 h1 h2 h3 XY hxm
    subst ea
    subst eb
    go_upto_region 6 with (fail)
    have KS := Lib.hid (show ∀ W, Below wo.heap.size wo W → (W.cell? (a.add (t * 2)) = some (.int .i64 x.N) ∧ W.cell? ⟨(a.add (t * 2)).block, (a.add (t * 2)).off + 1, none⟩ = some (.slice x.a xl x.c) ∧ W.cell? (b.add (t * 2)) = some (.int .i64 y.N) ∧ W.cell? ⟨(b.add (t * 2)).block, (b.add (t * 2)).off + 1, none⟩ = some (.slice y.a yl y.c)) from fun W h => ⟨kept h G.out.1, kept h G.out.2.1, kept h G.out.2.2.1, kept h G.out.2.2.2⟩)
    obtain ⟨wc, hwc⟩ : ∃ wc, wc = wo.drew := ⟨_, rfl⟩
    have Bc := Lib.hid (show Below wo.heap.size wo wc by rw [hwc]; exact (Below.refl _ _).drew)
    refine wp_region_held_drew (S := (fun W => (W.cell? (a.add (t * 2)) = some (.int .i64 x.N) ∧ W.cell? ⟨(a.add (t * 2)).block, (a.add (t * 2)).off + 1, none⟩ = some (.slice x.a xl x.c) ∧ W.cell? (b.add (t * 2)) = some (.int .i64 y.N) ∧ W.cell? ⟨(b.add (t * 2)).block, (b.add (t * 2)).off + 1, none⟩ = some (.slice y.a yl y.c)))) (by kernel_rfl) (by rw [← hwc]; exact KS.out _ Bc.out) (fun h0 => ?_)
    rw [← hwc] at h0 ⊢
    clear hwc
    refine tkI (i := 0) rfl h0 ?_
    simp only [Act.put, sA, sB, sD, sE, sF]
    refine tkI (i := 1) rfl h0 ?_
    simp only [Act.put, sZ]
    refine tkI (i := 2) rfl h0 ?_
    simp only [Act.put, sZ]
    refine tkI (i := 3) rfl h0 ?_
    simp only [Act.put, sZ]
    refine tkI (i := 4) rfl h0 ?_
    simp only [Act.put, sZ]
    refine tkI (i := 5) rfl h0 ?_
    simp only [Act.put, sZ]
    refine tkI (i := 6) rfl h0 ?_
    simp only [Act.put, sZ]
    refine tkI (i := 7) rfl h0 ?_
    simp only [Act.put, sZ]
    refine wpAnyH_ready (rs := [8]) (by kernel_rfl) (by simp) (AllReadyH.cons rfl (fun K hK => ?_) AllReadyH.nil)
    rw [if_pos (by rfl)]
    go_simp
    refine (SM.out wc Bc.out).mono ?_
    rintro e wd ⟨rfl, hb⟩
    have Bc := Lib.hid (below_on Bc.out hb)
    clear hb
    obtain ⟨wc, hwc⟩ : ∃ wc, wc = wd := ⟨_, rfl⟩
    rw [← hwc] at Bc ⊢
    clear hwc
    go_simp
    refine hK.out _ _ (KS.out _ Bc.out) (fun h0_1 => ?_)
    clear hK K h0
    refine tkI (i := 9) rfl h0_1 ?_
    simp only [Act.put, sA, sB, sC, sD]
    try simp only [sF]
    try simp only [sE]
    refine wpAnyH_done (by kernel_rfl) ?_ _
    try simp only [Exit.then]
    have BB := Lib.hid (below_on BE.out Bc.out)
    clear Bc KS
    go_wp2_with fail
    go_roundw
    case rel => exact ⟨t + 1, by go_num, by omega, BB⟩
    case measure => simp [intOf]; omega
  · go_wp2_with fail
    go_ret
    exact ⟨rfl, BE.out⟩
theorem rsameL_any (L M : List ZV) (go ho : Option Addr) (gc hc : Nat) (w : World) (hL : RdZ 0 w go L) (hM : RdZ 0 w ho M) (hl : L.length ≤ 1000000) (he : L.map ZV.p = M.map ZV.p) (hz : ∀ z ∈ L, z.l.length ≤ 9223372036854775807) :
  Calls Tryz.prog 19 #[.slice go L.length gc, .slice ho M.length hc] w (Made (.bool true) w) := rsameLW_any L M go ho gc hc w hL.weak hM.weak hl he hz
theorem OwnZ.rd {R B : Nat} {A : World} {ao : Option Addr} {cap : Nat} {L : List ZV} (h : OwnZ R B A (.slice ao L.length cap) L) : RdZ B A ao L ∧ (ao = none → cap = 0) := by
 obtain ⟨a2, c2, e, h1, h2⟩ := h.read2
 injection e with e1 _ e2
 subst e1 e2
 exact ⟨h1, h2⟩
theorem appendLZ_run {R B : Nat} {w : World} {v : Value} {L M : List ZV} (hown : OwnZ R B w v L) {ao : Option Addr} {c : Nat} (hM : RdZ B w ao M) (hn : ao = none → c = 0) (hF : ∀ z ∈ M, ∀ p, z.a = some p → v.ownBlock ≠ some p.block)
  (hle : L.length + M.length ≤ 4000000) (hB : R ≤ w.heap.size) (ty : TypeId) :
  ∃ v' w', (Builtin.append_ #[22, 22] ty #[v, .slice ao M.length c]).run Tryz.prog w = .ok v' w' ∧ OwnZ R B w' v' (L ++ M) ∧ w.grownBy w' v.ownBlock := by
 obtain ⟨i0, hi, hz0, hz1, hz2⟩ := info_parts zone_info
 cases ao with
 | none =>
  have c0 : c = 0 := hn rfl
  have M0 : M = [] := by
   cases M with
   | nil => rfl
   | cons x r =>
    obtain ⟨p, e2, _⟩ := hM.hd 0 (by simp)
    cases e2
  subst c0 M0
  exact ⟨v, w, run_append_owned_none (P := Tryz.prog) w R 22 ty 36 i0 2 Tryz.underlying22 hi _ _ _ hown.row, by rw [List.append_nil]; exact hown, ⟨rfl, rfl, rfl, Nat.le_refl _, fun _ _ _ => rfl⟩⟩
 | some a =>
  obtain ⟨v', w', hr, h2, h3, _, h5⟩ := run_append_own_at (P := Tryz.prog) w R 22 ty 36 i0 (.agg #[.int .i64 0, .slice none 0 0]) 2 32 Tryz.underlying22 hi hz0 hz1 hz2 (by rfl) (by decide) v L.length _ hown.row a M.length c (zV M)
   (zV_len M) (RdZ.cells hM) (zV_one M) (by unfold maxLen; omega) (by omega) hB
  have hA : ∀ x ∈ L ++ M, ZAt B w x ∧ ∀ p, x.a = some p → v.ownBlock ≠ some p.block := fun x hx => by
   rcases List.mem_append.1 hx with q | q
   · exact ⟨hown.el x q, hown.far x q⟩
   · exact ⟨hM.el x q, hF x q⟩
  refine ⟨v', w', hr, ⟨?_, fun x hx => (hA x hx).1.grown h3 (hA x hx).2, fun x hx p e => ?_⟩, h3⟩
  · rw [zV_appd, List.length_append]; exact h2
  · rcases h5 with h5 | h5
    · rw [h5]; exact (hA x hx).2 p e
    · rw [h5]; intro q; injection q with q; have := ((hA x hx).1.2 p e).2; omega
def thE (r : List Zp × Int) (k : List Zp → List Zp × Int) : List Zp × Int := if r.2 = 0 then k r.1 else ([], r.2)
theorem thE_ok {r : List Zp × Int} {k : List Zp → List Zp × Int} (h : r.2 = 0) : thE r k = k r.1 := if_pos h
theorem thE_no {r : List Zp × Int} {k : List Zp → List Zp × Int} (h : r.2 ≠ 0) : thE r k = ([], r.2) := if_neg h
theorem one_lit {B : Nat} (z : ZV) (w : World) (hz : ZAt B w z) : OwnZ w.heap.size B (w.alloc (.cells #[.int .i64 z.N, .slice z.a z.l.length z.c] 36)) (.slice (some ⟨w.heap.size, 0, none⟩) 1 1) [z] := by
 have hb : Below w.heap.size w (w.alloc (.cells #[.int .i64 z.N, .slice z.a z.l.length z.c] 36)) := one_more _
 refine ⟨?_, fun y hy => ?_, fun y hy p e q => ?_⟩
 · have := World.ownsRow_lit (base := w.heap.size) (e := 36) (size := 2) w #[.int .i64 z.N, .slice z.a z.l.length z.c] 1 (by simp) (by unfold maxLen; omega) (by simp)
   simpa [zV, ZV.cs] using this
 · rw [List.mem_singleton] at hy; subst hy; exact hz.on hb
 · rw [List.mem_singleton] at hy; subst hy
   have := (hz.2 p e).2
   simp [Value.ownBlock] at q
   omega
def gz (l : List Zp) (k : Nat) : Zp := l.getD k (0, [])
theorem gz_eq {l : List Zp} {k : Nat} (h : k < l.length) : gz l k = l[k] := by simp [gz, h]
def coB (l : List Zp) (i k : Nat) : Bool := decide (k ≠ i) && inR (gz l k).1 (gz l i).1 (gz l k).2 (gz l i).2
def conB (l : List Zp) (i : Nat) : Bool := (List.range l.length).any (coB l i)
theorem conB_yes {l : List Zp} {i k : Nat} (hk : k < l.length) (h : coB l i k = true) : conB l i = true := by
 unfold conB
 rw [List.any_eq_true]
 exact ⟨k, by simpa using hk, h⟩
theorem conB_no {l : List Zp} {i : Nat} (h : ∀ k, k < l.length → coB l i k = false) : conB l i = false := by
 unfold conB
 rw [List.any_eq_false]
 intro k hk
 rw [h k (by simpa using hk)]
 simp
theorem mustB_ok (b : Bool) (w : World) : Calls Tryz.prog 73 #[.bool b, .int .i64 0] w (Made (.bool b) w) := by
 refine (mustB_any b 0 w).mono ?_
 rintro e w' ⟨hb, (⟨_, rfl⟩ | ⟨h, _⟩)⟩
 · exact ⟨rfl, hb⟩
 · exact absurd rfl h
set_option maxRecDepth 100000 in
theorem isPart_any (L : List ZV) (go : Option Addr) (gc i : Nat) (w : World) (hL : RdZ 0 w go L) (hi : i < L.length) (hl : L.length ≤ 1000000) (hie : ∀ x ∈ L, ∀ y ∈ L, inE x.N y.N x.l y.l = 0) :
  Calls Tryz.prog 104 #[.slice go L.length gc, .int .i64 i] w (Made (.bool (conB (L.map ZV.p) i)) w) := by
 have RL := Lib.hid hL
 have IE := Lib.hid hie
 obtain ⟨n, hn⟩ : ∃ n, n = L.length := ⟨_, rfl⟩
 have HN := Lib.hid hn
 have nle : n ≤ 1000000 := by omega
 have hin : i < n := by omega
 rw [← hn]
 obtain ⟨y, hy⟩ : ∃ y, y = L[i] := ⟨_, rfl⟩
 have YM := Lib.hid (show y ∈ L by rw [hy]; exact List.getElem_mem _)
 obtain ⟨a, ea, h2, h3⟩ := hL.hd i hi
 rw [← hy] at h2 h3
 have YP := Lib.hid (show gz (L.map ZV.p) i = y.p by rw [gz_eq (by simpa using hi), hy]; simp)
 have YZ := Lib.hid (show ZAt 0 w y from hL.el y YM.out)
 obtain ⟨yl, hyl⟩ : ∃ yl, yl = y.l.length := ⟨_, rfl⟩
 rw [← hyl] at h3
 have HYL := Lib.hid hyl
 have GY := Lib.hid (And.intro h2 h3)
 clear hL hi hl hn hy h2 h3 hyl hie
 subst ea
 go_enter Tryz.func104, Tryz.ntmps104
 go_wp2_with fail
 go_loopw [9] (fun k wr => ∃ t : Nat, k = .int .i64 t ∧ t ≤ n ∧ Hid (Below w.heap.size w wr) ∧ Hid (∀ j, j < t → coB (L.map ZV.p) i j = false)) (fun k _ => n - (intOf k).toNat)
 case atStart => exact ⟨0, rfl, by omega, Lib.hid (Below.refl _ _), Lib.hid (fun j h => by omega)⟩
 case round =>
  generalize wr = wo at *
  obtain ⟨t, rfl, ht, BE, HF⟩ := hrel
  by_cases htn : t < n
  · obtain ⟨x, hx⟩ : ∃ x, x = L[t]'(by have := HN.out; omega) := ⟨_, rfl⟩
    have XM := Lib.hid (show x ∈ L by rw [hx]; exact List.getElem_mem _)
    have XP := Lib.hid (show gz (L.map ZV.p) t = x.p by rw [gz_eq (by have := HN.out; simp; omega), hx]; simp)
    have HX := Lib.hid (show ZAt 0 w x from RL.out.el x XM.out)
    obtain ⟨b, eb, h0, h1⟩ := (RL.out.on BE.out).hd t (by have := HN.out; omega)
    have eab : b = a := by injection eb with e; exact e.symm
    subst eab
    rw [← hx] at h0 h1
    obtain ⟨xl, hxl⟩ : ∃ xl, xl = x.l.length := ⟨_, rfl⟩
    rw [← hxl] at h1
    obtain ⟨v, hv⟩ : ∃ v, v = inR x.N y.N x.l y.l := ⟨_, rfl⟩
    have IN := Lib.hid (show ∀ W, Below w.heap.size w W → Calls Tryz.prog 143 #[.agg #[.int .i64 x.N, .slice x.a xl x.c], .agg #[.int .i64 y.N, .slice y.a yl y.c]] W (Made (.tuple #[.bool v, .int .i64 0]) W) from fun W h => by
     have := zinc_gen x.N y.N x.l y.l x.a y.a x.c y.c W (HX.out.on h).1 (YZ.out.on h).1
     rw [IE.out x XM.out y YM.out] at this
     rw [hxl, HYL.out, hv]
     exact this)
    have CB := Lib.hid (show coB (L.map ZV.p) i t = (decide (t ≠ i) && v) by unfold coB; rw [XP.out, YP.out, hv]; rfl)
    have HLT := Lib.hid (show t < (L.map ZV.p).length by have := HN.out; simp; omega)
    obtain ⟨w2, hw2⟩ : ∃ w2, w2 = wo.alloc (.cells #[.int .i64 x.N, .slice x.a xl x.c] 36) := ⟨_, rfl⟩
    have B2 := Lib.hid (below_on BE.out (show Below wo.heap.size wo w2 by rw [hw2]; exact one_more _))
    have X2 := Lib.hid (show Bx2 w2 wo.heap.size (.int .i64 x.N) (.slice x.a xl x.c) 36 by rw [hw2]; exact Bx2.made wo _ _ _)
    clear hx hxl hv eb
    go_upto_region 4 with (fail)
    rw [← hw2]
    clear hw2 h0 h1
    generalize wo.heap.size = q at X2 ⊢
    by_cases hti : t = i
    · have q1 : ((t : Int) != (i : Int)) = false := by simp [hti]
      have CF := Lib.hid (show coB (L.map ZV.p) i t = false by rw [CB.out]; simp [hti])
      clear hti
      have KS := Lib.hid (show ∀ W, Below w2.heap.size w2 W → (W.cell? ⟨q, 0, none⟩ = some (.int .i64 x.N) ∧ W.cell? ⟨q, 1, none⟩ = some (.slice x.a xl x.c) ∧ W.cell? (b.add (i * 2)) = some (.int .i64 y.N) ∧ W.cell? ⟨(b.add (i * 2)).block, (b.add (i * 2)).off + 1, none⟩ = some (.slice y.a yl y.c)) from fun W h => ⟨(X2.out.kept h).facts.1, (X2.out.kept h).facts.2.1, kept (below_on B2.out h) GY.out.1, kept (below_on B2.out h) GY.out.2⟩)
      obtain ⟨wc, hwc⟩ : ∃ wc, wc = w2.drew := ⟨_, rfl⟩
      have Bc := Lib.hid (show Below w2.heap.size w2 wc by rw [hwc]; exact (Below.refl _ _).drew)
      refine wp_region_held_drew (S := (fun W => (W.cell? ⟨q, 0, none⟩ = some (.int .i64 x.N) ∧ W.cell? ⟨q, 1, none⟩ = some (.slice x.a xl x.c) ∧ W.cell? (b.add (i * 2)) = some (.int .i64 y.N) ∧ W.cell? ⟨(b.add (i * 2)).block, (b.add (i * 2)).off + 1, none⟩ = some (.slice y.a yl y.c)))) (by kernel_rfl) (by rw [← hwc]; exact KS.out _ Bc.out) (fun h0 => ?_)
      rw [← hwc] at h0 ⊢
      clear hwc
      refine tkI (i := 0) rfl h0 ?_
      simp only [Act.put, sA, sB, sD, sE, sF]
      refine tkI (i := 1) rfl h0 ?_
      simp only [Act.put, sZ]
      refine tkI (i := 2) rfl h0 ?_
      simp only [Act.put, sZ]
      refine tkI (i := 3) rfl h0 ?_
      simp only [Act.put, sZ]
      refine tkU (i := 4) rfl h0 ?_
      simp only [Act.put, sZ]
      refine tkU (i := 5) rfl h0 ?_
      simp only [Act.put, sZ]
      refine tkU (i := 6) rfl h0 ?_
      simp only [Act.put, sZ]
      refine tkU (i := 7) rfl h0 ?_
      simp only [Act.put, sZ]
      refine tkU (i := 8) rfl h0 ?_
      simp only [Act.put, sZ]
      refine tkU (i := 9) rfl h0 ?_
      simp only [Act.put, sZ]
      refine tkU (i := 10) rfl h0 ?_
      simp only [Act.put, sZ]
      refine tkU (i := 11) rfl h0 ?_
      simp only [Act.put, sZ]
      refine tkU (i := 12) rfl h0 ?_
      simp only [Act.put, sZ]
      refine tkI (i := 13) rfl h0 ?_
      simp only [Act.put, sA, sB, sC, sD]
      try simp only [sF]
      try simp only [sE]
      refine wpAnyH_done (by kernel_rfl) ?_ _
      try simp only [Exit.then]
      have BB := Lib.hid (below_on B2.out Bc.out)
      clear Bc KS
      go_wp2_with fail
      go_roundw
      case rel => exact ⟨t + 1, by go_num, by omega, BB, Lib.hid fun j hj => by
       by_cases e : j = t
       · subst e; exact CF.out
       · exact HF.out j (by omega)⟩
      case measure => simp [intOf]; omega
    · have q1 : ((t : Int) != (i : Int)) = true := by simp; omega
      have HTI := Lib.hid hti
      clear hti
      have KS := Lib.hid (show ∀ W, Below w2.heap.size w2 W → (W.cell? ⟨q, 0, none⟩ = some (.int .i64 x.N) ∧ W.cell? ⟨q, 1, none⟩ = some (.slice x.a xl x.c) ∧ W.cell? (b.add (i * 2)) = some (.int .i64 y.N) ∧ W.cell? ⟨(b.add (i * 2)).block, (b.add (i * 2)).off + 1, none⟩ = some (.slice y.a yl y.c)) from fun W h => ⟨(X2.out.kept h).facts.1, (X2.out.kept h).facts.2.1, kept (below_on B2.out h) GY.out.1, kept (below_on B2.out h) GY.out.2⟩)
      obtain ⟨wc, hwc⟩ : ∃ wc, wc = w2.drew := ⟨_, rfl⟩
      have Bc := Lib.hid (show Below w2.heap.size w2 wc by rw [hwc]; exact (Below.refl _ _).drew)
      refine wp_region_held_drew (S := (fun W => (W.cell? ⟨q, 0, none⟩ = some (.int .i64 x.N) ∧ W.cell? ⟨q, 1, none⟩ = some (.slice x.a xl x.c) ∧ W.cell? (b.add (i * 2)) = some (.int .i64 y.N) ∧ W.cell? ⟨(b.add (i * 2)).block, (b.add (i * 2)).off + 1, none⟩ = some (.slice y.a yl y.c)))) (by kernel_rfl) (by rw [← hwc]; exact KS.out _ Bc.out) (fun h0 => ?_)
      rw [← hwc] at h0 ⊢
      clear hwc
      refine tkI (i := 0) rfl h0 ?_
      simp only [Act.put, sA, sB, sD, sE, sF]
      refine tkI (i := 1) rfl h0 ?_
      simp only [Act.put, sZ]
      refine tkI (i := 2) rfl h0 ?_
      simp only [Act.put, sZ]
      refine tkI (i := 3) rfl h0 ?_
      simp only [Act.put, sZ]
      refine tkI (i := 4) rfl h0 ?_
      simp only [Act.put, sZ]
      refine tkI (i := 5) rfl h0 ?_
      simp only [Act.put, sZ]
      refine tkI (i := 6) rfl h0 ?_
      simp only [Act.put, sZ]
      refine tkI (i := 7) rfl h0 ?_
      simp only [Act.put, sZ]
      refine tkI (i := 8) rfl h0 ?_
      simp only [Act.put, sZ]
      refine wpAnyH_ready (rs := [9]) (by kernel_rfl) (by simp) (AllReadyH.cons rfl (fun K hK => ?_) AllReadyH.nil)
      rw [if_pos (by rfl)]
      go_simp
      refine (IN.out wc (below_on B2.out Bc.out)).mono ?_
      rintro e wd ⟨rfl, hb⟩
      have Bc := Lib.hid (below_on Bc.out hb)
      clear hb
      obtain ⟨wc, hwc⟩ : ∃ wc, wc = wd := ⟨_, rfl⟩
      rw [← hwc] at Bc ⊢
      clear hwc
      go_simp
      refine hK.out _ _ (KS.out _ Bc.out) (fun h0_1 => ?_)
      clear hK K h0
      refine tkI (i := 10) rfl h0_1 ?_
      simp only [Act.put, sZ]
      refine tkI (i := 11) rfl h0_1 ?_
      simp only [Act.put, sZ]
      refine wpAnyH_ready (rs := [12]) (by kernel_rfl) (by simp) (AllReadyH.cons rfl (fun K hK => ?_) AllReadyH.nil)
      rw [if_pos (by rfl)]
      go_simp
      refine (mustB_ok v wc).mono ?_
      rintro e wd ⟨rfl, hb⟩
      have Bc := Lib.hid (below_on Bc.out hb)
      clear hb
      obtain ⟨wc, hwc⟩ : ∃ wc, wc = wd := ⟨_, rfl⟩
      rw [← hwc] at Bc ⊢
      clear hwc
      go_simp
      refine hK.out _ _ (KS.out _ Bc.out) (fun h0_2 => ?_)
      clear hK K h0_1
      refine tkI (i := 13) rfl h0_2 ?_
      simp only [Act.put, sA, sB, sC, sD]
      try simp only [sF]
      try simp only [sE]
      refine wpAnyH_done (by kernel_rfl) ?_ _
      try simp only [Exit.then]
      have BB := Lib.hid (below_on B2.out Bc.out)
      clear Bc KS
      cases v with
      | false =>
       have CF := Lib.hid (show coB (L.map ZV.p) i t = false by rw [CB.out]; simp)
       go_wp2_with fail
       go_roundw
       case rel => exact ⟨t + 1, by go_num, by omega, BB, Lib.hid fun j hj => by
        by_cases e : j = t
        · subst e; exact CF.out
        · exact HF.out j (by omega)⟩
       case measure => simp [intOf]; omega
      | true =>
       have FE := Lib.hid (show conB (L.map ZV.p) i = true from conB_yes HLT.out (by rw [CB.out]; simp [HTI.out]))
       go_wp2_with fail
       go_ret
       exact ⟨by rw [FE.out]; rfl, BB.out⟩
  · have FE := Lib.hid (show conB (L.map ZV.p) i = false from conB_no fun k hk => HF.out k (by have := HN.out; simp at hk; omega))
    clear HF
    go_wp2_with fail
    go_ret
    exact ⟨by rw [FE.out]; rfl, BE.out⟩
def wpP : Nat → Nat → List Zp → List Zp
 | 0, _, l => l
 | n + 1, i, l => if i < l.length then (if conB l i then wpP n i (l.eraseIdx i) else wpP n (i + 1) l) else l
theorem wpP_end {n i : Nat} {l : List Zp} (h : ¬ i < l.length) : wpP n i l = l := by
 cases n with
 | zero => rfl
 | succ n => rw [wpP, if_neg h]
def slLen : Value → Nat
 | .slice _ n _ => n
 | _ => 0
theorem grown_belowR {R : Nat} {w w' : World} {r : Option Nat} (hg : w.grownBy w' r) (hR : R ≤ w.heap.size) (hr : ∀ k, r = some k → R ≤ k) : Below R w w' :=
 { os := hg.os, tape := hg.tape, output := hg.output, size := hg.size, block := fun k hk => hg.block k (by omega) (fun e => by have := hr k e.symm; omega) }
theorem map_erase (L : List ZV) (i : Nat) : (L.eraseIdx i).map ZV.p = (L.map ZV.p).eraseIdx i := by
 induction L generalizing i with
 | nil => rfl
 | cons z L ih => cases i with
  | zero => rfl
  | succ i => simp [ih]
theorem below_trans {R : Nat} {a b c : World} (h : Below R a b) (k : Below R b c) : Below R a c :=
 { os := k.os.trans h.os, tape := k.tape.trans h.tape, output := k.output.trans h.output, size := Nat.le_trans h.size k.size, block := fun j hj => (k.block j hj).trans (h.block j hj) }
theorem below_less {R : Nat} {a b : World} (h : Below a.heap.size a b) (hR : R ≤ a.heap.size) : Below R a b :=
 { os := h.os, tape := h.tape, output := h.output, size := h.size, block := fun j hj => h.block j (by omega) }
set_option maxRecDepth 100000 in
theorem withoutParts_any (L : List ZV) (ao : Option Addr) (cap R B : Nat) (w : World) (hown : OwnZ R B w (.slice ao L.length cap) L) (hR : R ≤ w.heap.size) (hl : L.length ≤ 1000000) (hie : ∀ x ∈ L, ∀ y ∈ L, inE x.N y.N x.l y.l = 0) :
  Calls Tryz.prog 55 #[.slice ao L.length cap] w (fun e w' => Below R w w' ∧ ∃ ao cap M, e = .returned (.slice ao M.length cap) ∧ OwnZ R B w' (.slice ao M.length cap) M ∧ M.map ZV.p = wpP L.length 0 (L.map ZV.p) ∧ (∀ z ∈ M, z ∈ L) ∧ M.length ≤ L.length) := by
 have IE := Lib.hid hie
 have HR := Lib.hid hR
 obtain ⟨n, hn⟩ : ∃ n, n = L.length := ⟨_, rfl⟩
 have HL := Lib.hid (show n ≤ 1000000 by omega)
 have HN := Lib.hid hn
 have R0 := Lib.hid (show Below R w w from { os := rfl, tape := rfl, output := rfl, size := Nat.le_refl _, block := fun _ _ => rfl })
 have ST := Lib.hid (show ∃ ao2 cap2 M, Value.slice ao n cap = .slice ao2 M.length cap2 ∧ 0 ≤ M.length ∧ OwnZ R B w (.slice ao2 M.length cap2) M ∧ (∀ z ∈ M, z ∈ L) ∧ M.length ≤ n ∧ ∃ k, wpP n 0 (L.map ZV.p) = wpP k 0 (M.map ZV.p) ∧ M.length - 0 ≤ k from
  ⟨ao, cap, L, by rw [hn], Nat.zero_le _, hown, fun z h => h, by omega, n, rfl, by omega⟩)
 rw [← hn]
 clear hn hown hR hl hie
 go_enter Tryz.func55, Tryz.ntmps55
 go_wp2_with fail
 go_loopw [0, 3] (fun v s wr => ∃ t : Nat, s = .int .i64 t ∧ Hid (Below R w wr) ∧ Hid (∃ ao cap M, v = .slice ao M.length cap ∧ t ≤ M.length ∧ OwnZ R B wr (.slice ao M.length cap) M ∧ (∀ z ∈ M, z ∈ L) ∧ M.length ≤ n ∧ ∃ k, wpP n 0 (L.map ZV.p) = wpP k t (M.map ZV.p) ∧ M.length - t ≤ k)) (fun v s _ => slLen v - (intOf s).toNat)
 case atStart => exact ⟨0, rfl, R0, ST⟩
 case round =>
  generalize wr = wo at *
  obtain ⟨t, rfl, BE, HI⟩ := hrel
  obtain ⟨ao1, cap1, M, rfl, ht, ow, sub, mn, k, ek, hk⟩ := HI.out
  obtain ⟨m, hm⟩ : ∃ m, m = M.length := ⟨_, rfl⟩
  have HM := Lib.hid hm
  have OW := Lib.hid ow
  have SUB := Lib.hid sub
  have EK := Lib.hid ek
  have nle := HL.out
  have mn2 : m ≤ n := by omega
  have hk2 : m - t ≤ k := by omega
  have ht2 : t ≤ m := by omega
  rw [← hm]
  by_cases htm : t < m
  · have IP := Lib.hid (show Calls Tryz.prog 104 #[.slice ao1 m cap1, .int .i64 t] wo (Made (.bool (conB (M.map ZV.p) t)) wo) from by
     obtain ⟨a2, c2, e2, r2, _⟩ := ow.read
     injection e2 with q1 q2 q3
     subst q1
     rw [hm]
     exact isPart_any M ao1 cap1 t wo (r2.low (Nat.zero_le _)) (by omega) (by omega) (fun x hx y hy => IE.out x (sub x hx) y (sub y hy)))
    have DL := Lib.hid (show ∀ W, Below wo.heap.size wo W → Calls Tryz.prog 103 #[.slice ao1 m cap1, .int .i64 t, .int .i64 ((t : Int) + 1)] W fun e w' => e = .returned (.slice ao1 (m - 1) cap1) ∧ OwnZ R B w' (.slice ao1 (m - 1) cap1) (M.eraseIdx t) ∧ Below R W w' from fun W h => by
     have := zdelete_any (ow.on h) (i := t) (by omega)
     rw [← hm] at this
     refine this.mono ?_
     rintro e w' ⟨h1, h2, h3⟩
     refine ⟨h1, h2, grown_belowR h3 (Nat.le_trans HR.out (Nat.le_trans BE.out.size h.size)) (fun k hk => ?_)⟩
     have := (ow.lt k (by rw [← hm]; exact hk)).1
     exact this)
    obtain ⟨cb, hcb⟩ : ∃ cb, cb = conB (M.map ZV.p) t := ⟨_, rfl⟩
    rw [← hcb] at IP
    have CB := Lib.hid hcb
    have hlt : t < (M.map ZV.p).length := by simp; omega
    have HLT := Lib.hid hlt
    obtain ⟨k2, rfl⟩ : ∃ k2, k = k2 + 1 := ⟨k - 1, by omega⟩
    clear HI ST ow sub ek hm hk ht mn hcb hlt
    go_wp2_with fail
    refine IP.out.mono ?_
    rintro e w1 ⟨rfl, hb⟩
    have B1 := Lib.hid hb
    have OW1 := Lib.hid (OW.out.on hb)
    have BE1 := Lib.hid (below_trans BE.out (below_less hb (Nat.le_trans HR.out BE.out.size)))
    clear hb IP
    cases cb with
    | true =>
     go_wp2_with fail
     refine (DL.out _ B1.out).mono ?_
     rintro e w2 ⟨rfl, hd, hb⟩
     have BE2 := Lib.hid (below_trans BE1.out hb)
     have OD := Lib.hid hd
     clear hb hd DL
     go_wp2_with fail
     go_roundw
     case rel =>
      have lm : (M.eraseIdx t).length = m - 1 := by rw [List.length_eraseIdx, if_pos (by have := HM.out; omega)]; have := HM.out; omega
      exact ⟨t, by go_num, BE2, Lib.hid ⟨ao1, cap1, M.eraseIdx t, by rw [lm], by omega, by rw [lm]; exact OD.out, fun z hz => SUB.out z (List.mem_of_mem_eraseIdx hz), by omega, k2, by
       rw [EK.out, wpP, if_pos HLT.out, if_pos CB.out.symm, map_erase], by omega⟩⟩
     case measure => simp [intOf, slLen]; omega
    | false =>
     go_wp2_with fail
     go_roundw
     case rel =>
      exact ⟨t + 1, by go_num, BE1, Lib.hid ⟨ao1, cap1, M, by rw [HM.out], by have := HM.out; omega, OW1.out, SUB.out, by have := HM.out; omega, k2, by
       rw [EK.out, wpP, if_pos HLT.out, if_neg (by rw [← CB.out]; simp)], by have := HM.out; omega⟩⟩
     case measure => simp [intOf, slLen]; omega
  · have EN := Lib.hid (wpP_end (n := k) (i := t) (l := M.map ZV.p) (by simp; omega))
    clear HI ST ow sub ek hm hk ht mn
    go_wp2_with fail
    go_ret
    exact ⟨BE.out, ao1, cap1, M, by rw [HM.out]; rfl, OW.out, by rw [EK.out, EN.out], SUB.out, by have := HM.out; have := HN.out; omega⟩
def peR (f : Zp → Zp × Int) (L : List Zp) : List Zp × Int := ((eaS f L).1, ansE [L] (colE (eaS f L).1 (eaS f L).2))
theorem flatS_congr {α : Type} {f g : α → Sq} : ∀ {L : List α}, (∀ x ∈ L, f x = g x) → flatS f L = flatS g L
 | [], _ => rfl
 | x :: r, h => by
  unfold flatS
  rw [h x (by simp), flatS_congr fun y hy => h y (by simp [hy])]
theorem ua_ea {f : Zp → Zp × Int} {L : List Zp} (h : ∀ z ∈ L, (f z).2 ≠ 4) : uaS f L = eaS f L := by
 unfold uaS eaS
 refine flatS_congr fun z hz => ?_
 unfold emS
 rw [if_neg (h z hz)]
theorem rchk_one (L : List Zp) : rchk L = chkG [L] := by
 unfold rchk chkG
 simp
theorem ua_pe {f : Zp → Zp × Int} {L : List Zp} (h : ∀ z ∈ L, (f z).2 ≠ 4) : uaR f L = peR f L := by
 unfold uaR peR ansE
 rw [ua_ea h, rchk_one]
end Go.Proofs.YthjapmdfcbngmaaGreat
