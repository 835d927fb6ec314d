/- A part. -/
import Derived.Test.YthjapmdfcbngmaaGreatWp18
import Derived.Maps.AppendAt
import Derived.Shelf.RegionOpenPlain
import Derived.Deep.RegionLaw
import Derived.Lib.SliceRun
import Derived.Lib.SlicesDelete
import Derived.Test.YthjapmdfcbngmaaGreatWp33

namespace Go.Proofs.YthjapmdfcbngmaaGreat
open Go.RowKit

theorem row_setCells {g : Nat} {e : TypeId} : ∀ (vs : List Value) (o : Nat) (w : World) (cur : Array Value), w.heap[g]? = some (.cells cur e (0, 0)) → (w.setCells g o vs).heap[g]? = some (.cells (Lib.lay cur o vs) e (0, 0))
  | [], _, _, _, h => h
  | v :: r, o, w, cur, h => row_setCells r (o + 1) _ _ (heap_setCell_same w g o cur e v h)

theorem grown_setCells (g : Nat) : ∀ (vs : List Value) (o : Nat) (w : World), w.grownBy (w.setCells g o vs) (some g)
  | [], _, w => ⟨rfl, rfl, rfl, Nat.le_refl _, fun _ _ _ => rfl⟩
  | v :: r, o, w => by
    have h1 : w.grownBy (w.setCell ⟨g, o, none⟩ v) (some g) := ⟨rfl, rfl, rfl, by simp, fun k _ hk => heap_setCell_other w ⟨g, o, none⟩ k v (fun e => hk (by simp [e]))⟩
    have h2 := grown_setCells g r (o + 1) (w.setCell ⟨g, o, none⟩ v)
    exact h1.trans h2

theorem zV_append (A B : List ZV) : zV (A ++ B) = zV A ++ zV B := by unfold zV; rw [List.flatMap_append]

theorem zV_take {L : List ZV} {i : Nat} (h : i ≤ L.length) : (zV L).take (i * 2) = zV (L.take i) := by
  have e : zV L = zV (L.take i) ++ zV (L.drop i) := by rw [← zV_append, List.take_append_drop]
  have l : (zV (L.take i)).length = i * 2 := by rw [zV_len, List.length_take]; congr 1; omega
  rw [e, ← l, List.take_left]

theorem zV_drop {L : List ZV} {i : Nat} (h : i ≤ L.length) : (zV L).drop (i * 2) = zV (L.drop i) := by
  have e : zV L = zV (L.take i) ++ zV (L.drop i) := by rw [← zV_append, List.take_append_drop]
  have l : (zV (L.take i)).length = i * 2 := by rw [zV_len, List.length_take]; congr 1; omega
  rw [e, ← l, List.drop_left]

theorem zV_erase {L : List ZV} {i : Nat} (h : i < L.length) : zV (L.eraseIdx i) = (zV L).take (i * 2) ++ (zV L).drop ((i + 1) * 2) := by
  rw [List.eraseIdx_eq_take_drop_succ, zV_append, zV_take (by omega), zV_drop (by omega)]

theorem zV_one2 (L : List ZV) : ∀ u ∈ zV L, u.oneCell' = true := by
  intro u hu
  unfold zV at hu
  rw [List.mem_flatMap] at hu
  obtain ⟨z, _, hu⟩ := hu
  simp [ZV.cs] at hu
  rcases hu with rfl | rfl <;> rfl

theorem cut_cells {L : List ZV} {i cap : Nat} {cur : Array Value} (hi : i < L.length) (hc : L.length ≤ cap) (hs : cur.size = cap * 2) (ht : cur.toList.take (L.length * 2) = zV L) (zs : List Value) (hz : zs.length = 2) :
    (Lib.lay (Lib.lay cur (i * 2) ((zV L).drop ((i + 1) * 2))) ((L.length - 1) * 2) zs).toList.take ((L.length - 1) * 2) = zV (L.eraseIdx i) := by
  have l0 := zV_len L
  have l1 : ((zV L).drop ((i + 1) * 2)).length = L.length * 2 - (i + 1) * 2 := by rw [List.length_drop, l0]
  have c0 : ∀ t, t < L.length * 2 → cur[t]? = (zV L)[t]? := fun t h => by rw [← ht, List.getElem?_take, if_pos h, Array.getElem?_toList]
  rw [zV_erase hi]
  apply List.ext_getElem?
  intro t
  rw [List.getElem?_take, Array.getElem?_toList]
  by_cases h : t < (L.length - 1) * 2
  · rw [if_pos h, Lib.lay_get? _ _ _ _ (by rw [Lib.lay_size, hz]; omega), if_neg (by omega), Lib.lay_get? _ _ _ _ (by rw [l1]; omega)]
    by_cases h2 : t < i * 2
    · rw [if_neg (by omega), List.getElem?_append_left (by simp [l0]; omega), List.getElem?_take, if_pos h2, c0 t (by omega)]
    · rw [if_pos (by rw [l1]; omega), List.getElem?_append_right (by simp [l0]; omega)]
      congr 1
      simp [l0]; omega
  · rw [if_neg h]
    symm
    rw [List.getElem?_eq_none]
    simp [l0]; omega

theorem run_clear_zone (w : World) (ty : TypeId) (b o c : Nat) (hc : ∀ j, j < 2 → (w.cell? ⟨b, o + j, none⟩).isSome = true) (hf : ∀ j, j < 2 → w.frozen? ⟨b, o + j, none⟩ = false) :
    (Builtin.clear_ #[22] ty #[.slice (some ⟨b, o, none⟩) 1 c]).run Tryz.prog w = .ok (.tuple #[]) (w.setCells b o [.int .i64 0, .slice none 0 0]) := by
  have hv : ∀ w, (zeroValue 36).run Tryz.prog w = .ok (.agg #[.int .i64 0, .slice none 0 0]) w := fun w => by kernel_rfl
  have hzc : (Builtin.zeroCells (Value.agg #[.int .i64 0, .slice none 0 0]).cells 1).toList = [.int .i64 0, .slice none 0 0] := by kernel_rfl
  have hst := run_storeCells_cells (P := Tryz.prog) b o [.int .i64 0, .slice none 0 0] 0 w (by simpa using hc) (by simpa using hf) (by intro v hv'; simp at hv'; rcases hv' with rfl | rfl <;> rfl)
  simp only [Nat.add_zero] at hst
  simp [Builtin.clear_, run_underlying Tryz.underlying22, hv, hzc, hst]

set_option maxRecDepth 1000000 in
set_option maxHeartbeats 4000000 in
theorem zdelete_any {R B : Nat} {w : World} {ao : Option Addr} {cap i : Nat} {L : List ZV} (hown : OwnZ R B w (.slice ao L.length cap) L) (hi : i < L.length) :
    Calls Tryz.prog 103 #[.slice ao L.length cap, .int .i64 i, .int .i64 ((i : Int) + 1)] w fun e w' => e = .returned (.slice ao (L.length - 1) cap) ∧ OwnZ R B w' (.slice ao (L.length - 1) cap) (L.eraseIdx i) ∧ w.grownBy w' (Value.slice ao L.length cap).ownBlock := by
  obtain ⟨i0, hi0, hz0, hz1, hz2⟩ := info_parts zone_info
  have t22 := Tryz.underlying22
  rcases hown.row.2 with ⟨_, hn⟩ | ⟨g, c0, cur, e0, hb, hg, hc, hm, hsz, htake⟩
  · omega
  injection e0 with e1 e2 e3
  subst e1 e3
  have EL := Lib.hid hown.el
  have FA := Lib.hid hown.far
  obtain ⟨news, hnews⟩ : ∃ news, news = (zV L).drop ((i + 1) * 2) := ⟨_, rfl⟩
  have hlen : news.length = (L.length - (i + 1)) * 2 := by rw [hnews, List.length_drop, zV_len]; omega
  have hcell : ∀ t, t < L.length * 2 → w.cell? ⟨g, t, none⟩ = (zV L)[t]? := fun t ht => by
    rw [cell_of_row w g t _ _ _ hg, ← htake, List.getElem?_take, if_pos ht, Array.getElem?_toList]
  obtain ⟨A, hA, hsrc⟩ : ∃ A : Addr, (if cap = i + 1 then some (⟨g, 0, none⟩ : Addr) else some ⟨g, (i + 1) * 2, none⟩) = some A ∧ Hid (∀ t u, news[t]? = some u → w.drew.cell? (A.add t) = some u) := by
    by_cases h : cap = i + 1
    · refine ⟨⟨g, 0, none⟩, by simp [h], fun t u hu => ?_⟩
      have h0 : news.length = 0 := by rw [hlen]; omega
      rw [List.length_eq_zero_iff.1 h0] at hu
      simp at hu
    · refine ⟨⟨g, (i + 1) * 2, none⟩, by simp [h], fun t u hu => ?_⟩
      have ht : t < (L.length - (i + 1)) * 2 := by
        have := (List.getElem?_eq_some_iff.1 hu).1
        rwa [hlen] at this
      rw [hnews, List.getElem?_drop] at hu
      rw [Addr.add_lit]
      exact (hcell _ (by omega)).trans hu
  have s1 : Hid (news.length = (L.length - (i + 1)) * 2) := hlen
  have s2 : Hid (∀ u ∈ news, u.oneCell' = true) := fun u hu => zV_one2 L u (by rw [hnews] at hu; exact List.mem_of_mem_drop hu)
  have s3 : Hid (∀ t, t < news.length → (w.drew.cell? ⟨g, 0 + i * 2 + t, none⟩).isSome = true ∧ w.drew.frozen? ⟨g, 0 + i * 2 + t, none⟩ = false) := by
    intro t ht
    rw [hlen] at ht
    rw [Nat.zero_add]
    refine ⟨?_, frozen_of_row w g _ _ _ hg⟩
    show (w.cell? _).isSome = true
    rw [hcell _ (by omega), List.getElem?_eq_getElem (by rw [zV_len]; omega)]
    rfl
  obtain ⟨W1, hW1⟩ : ∃ W1, W1 = w.drew.setCells g (0 + i * 2) news := ⟨_, rfl⟩
  have r1 : W1.heap[g]? = some (.cells (Lib.lay cur (0 + i * 2) news) 36 (0, 0)) := by rw [hW1]; exact row_setCells news _ _ cur hg
  have sz1 : (Lib.lay cur (0 + i * 2) news).size = cap * 2 := by rw [Lib.lay_size]; exact hsz
  have hcl : ∀ ty, (Builtin.clear_ #[22] ty #[.slice (some ⟨g, (i + (L.length - (i + 1))) * 2, none⟩) (L.length - (i + (L.length - (i + 1)))) (cap - (i + (L.length - (i + 1))))]).run Tryz.prog W1 = .ok (.tuple #[]) (W1.setCells g ((i + (L.length - (i + 1))) * 2) [.int .i64 0, .slice none 0 0]) := by
    intro ty
    rw [show L.length - (i + (L.length - (i + 1))) = 1 by omega]
    refine run_clear_zone W1 ty g _ _ (fun j hj => ?_) (fun j hj => frozen_of_row W1 g _ _ _ r1)
    rw [cell_of_row W1 g _ _ _ _ r1, Array.getElem?_eq_getElem (by rw [sz1]; omega)]
    rfl
  have GW : Hid (w.grownBy (W1.setCells g ((i + (L.length - (i + 1))) * 2) [.int .i64 0, .slice none 0 0]) (some g)) := by
    have h1 : w.grownBy w.drew (some g) := by
      have := (Below.refl w.heap.size w).drew
      exact ⟨this.os, this.tape, this.output, this.size, fun k hk _ => this.block k hk⟩
    rw [hW1]
    exact (h1.trans (grown_setCells g news _ _)).trans (grown_setCells g _ _ _)
  have r2 : Hid ((W1.setCells g ((i + (L.length - (i + 1))) * 2) [.int .i64 0, .slice none 0 0]).heap[g]? = some (.cells (Lib.lay (Lib.lay cur (i * 2) ((zV L).drop ((i + 1) * 2))) ((L.length - 1) * 2) [.int .i64 0, .slice none 0 0]) 36 (0, 0))) := by
    have := row_setCells [.int .i64 0, .slice none 0 0] ((i + (L.length - (i + 1))) * 2) W1 _ r1
    rw [Nat.zero_add, hnews] at this
    rw [show L.length - 1 = i + (L.length - (i + 1)) by omega]
    exact this
  have ct := Lib.hid (cut_cells hi hc hsz htake [.int .i64 0, .slice none 0 0] rfl)
  have hW : Hid (W1 = w.drew.setCells g (0 + i * 2) news) := hW1
  have SZ := Lib.hid hsz
  have HB := Lib.hid hb
  obtain ⟨n, hn⟩ : ∃ n, n = L.length := ⟨_, rfl⟩
  have HN := Lib.hid hn
  have MX : cap ≤ 9223372036854775807 := by unfold maxLen at hm; omega
  rw [← hn] at hcl s1 hi hc ⊢
  have mixed : Tryz.prog.follows Departure.mixedOrders = true := by kernel_rfl
  have hicap : i ≤ cap := by omega
  have hj0 : (0 : Int) ≤ (i : Int) + 1 := by omega
  have hj1 : (i : Int) + 1 ≤ (n : Int) := by omega
  have hjcap : i + 1 ≤ cap := by omega
  clear hW1 hcell hnews hlen hsz htake hg r1 sz1 hown hn
  go_enter Tryz.func103, Tryz.ntmps103
  go_wp2_with fail
  go_region_law_o (refine step_append_room rfl (.tmp 22) (.tmp 25) 22 rfl 36 i0 2 t22 hi0 hz1 g 0 i cap (by simp [Act.eval, Act.put]) A (n - (i + 1)) (cap - (i + 1)) news (by simp [Act.eval, Act.put]) s1.out hsrc.out s2.out (by omega) s3.out ?_; rw [← hW.out])
  go_wp2
  go_ret
  have GW2 := GW.out
  have r22 := r2.out
  rw [← HN.out] at GW2 r22
  have lm : (L.eraseIdx i).length = n - 1 := by rw [List.length_eraseIdx, if_pos (by rw [← HN.out]; exact hi), ← HN.out]
  refine ⟨by rw [show n - 1 = i + (n - (i + 1)) by omega]; rfl, ⟨⟨zV_len _, Or.inr ⟨g, cap, _, by rw [lm], HB.out, r22, by omega, hm, by rw [Lib.lay_size, Lib.lay_size]; exact SZ.out, ?_⟩⟩, fun z hz => (EL.out z (List.mem_of_mem_eraseIdx hz)).grown GW2 (FA.out z (List.mem_of_mem_eraseIdx hz)), fun z hz => FA.out z (List.mem_of_mem_eraseIdx hz)⟩, GW2⟩
  rw [lm, HN.out]
  exact ct.out
end Go.Proofs.YthjapmdfcbngmaaGreat

namespace Go.Proofs.YthjapmdfcbngmaaGreat
open Go.RowKit

def wpP : Nat → Nat → List Zp → List Zp
  | 0, _, l => l
  | n + 1, i, l => if i < l.length then (if conB l i then wpP n i (l.eraseIdx i) else wpP n (i + 1) l) else l

theorem wpP_end {n i : Nat} {l : List Zp} (h : ¬ i < l.length) : wpP n i l = l := by
  cases n with
  | zero => rfl
  | succ n => rw [wpP, if_neg h]

def slLen : Value → Nat
  | .slice _ n _ => n
  | _ => 0

theorem grown_belowR {R : Nat} {w w' : World} {r : Option Nat} (hg : w.grownBy w' r) (hR : R ≤ w.heap.size) (hr : ∀ k, r = some k → R ≤ k) : Below R w w' :=
  { os := hg.os, tape := hg.tape, output := hg.output, size := hg.size, block := fun k hk => hg.block k (by omega) (fun e => by have := hr k e.symm; omega) }

theorem map_erase (L : List ZV) (i : Nat) : (L.eraseIdx i).map ZV.p = (L.map ZV.p).eraseIdx i := by
  induction L generalizing i with
  | nil => rfl
  | cons z L ih => cases i with
    | zero => rfl
    | succ i => simp [ih]

theorem below_trans {R : Nat} {a b c : World} (h : Below R a b) (k : Below R b c) : Below R a c :=
  { os := k.os.trans h.os, tape := k.tape.trans h.tape, output := k.output.trans h.output, size := Nat.le_trans h.size k.size, block := fun j hj => (k.block j hj).trans (h.block j hj) }

theorem below_less {R : Nat} {a b : World} (h : Below a.heap.size a b) (hR : R ≤ a.heap.size) : Below R a b :=
  { os := h.os, tape := h.tape, output := h.output, size := h.size, block := fun j hj => h.block j (by omega) }

set_option maxRecDepth 100000 in
set_option maxHeartbeats 8000000 in
theorem withoutParts_any (L : List ZV) (ao : Option Addr) (cap R B : Nat) (w : World) (hown : OwnZ R B w (.slice ao L.length cap) L) (hR : R ≤ w.heap.size) (hl : L.length ≤ 1000000) (hie : ∀ x ∈ L, ∀ y ∈ L, inE x.N y.N x.l y.l = 0) :
    Calls Tryz.prog 55 #[.slice ao L.length cap] w (fun e w' => Below R w w' ∧ ∃ ao cap M, e = .returned (.slice ao M.length cap) ∧ OwnZ R B w' (.slice ao M.length cap) M ∧ M.map ZV.p = wpP L.length 0 (L.map ZV.p) ∧ (∀ z ∈ M, z ∈ L) ∧ M.length ≤ L.length) := by
  have IE := Lib.hid hie
  have HR := Lib.hid hR
  obtain ⟨n, hn⟩ : ∃ n, n = L.length := ⟨_, rfl⟩
  have HL := Lib.hid (show n ≤ 1000000 by omega)
  have HN := Lib.hid hn
  have R0 := Lib.hid (show Below R w w from { os := rfl, tape := rfl, output := rfl, size := Nat.le_refl _, block := fun _ _ => rfl })
  have ST := Lib.hid (show ∃ ao2 cap2 M, Value.slice ao n cap = .slice ao2 M.length cap2 ∧ 0 ≤ M.length ∧ OwnZ R B w (.slice ao2 M.length cap2) M ∧ (∀ z ∈ M, z ∈ L) ∧ M.length ≤ n ∧ ∃ k, wpP n 0 (L.map ZV.p) = wpP k 0 (M.map ZV.p) ∧ M.length - 0 ≤ k from
    ⟨ao, cap, L, by rw [hn], Nat.zero_le _, hown, fun z h => h, by omega, n, rfl, by omega⟩)
  rw [← hn]
  clear hn hown hR hl hie
  go_enter Tryz.func55, Tryz.ntmps55
  go_wp2_with fail
  go_loopw [0, 3] (fun v s wr => ∃ t : Nat, s = .int .i64 t ∧ Hid (Below R w wr) ∧ Hid (∃ ao cap M, v = .slice ao M.length cap ∧ t ≤ M.length ∧ OwnZ R B wr (.slice ao M.length cap) M ∧ (∀ z ∈ M, z ∈ L) ∧ M.length ≤ n ∧ ∃ k, wpP n 0 (L.map ZV.p) = wpP k t (M.map ZV.p) ∧ M.length - t ≤ k)) (fun v s _ => slLen v - (intOf s).toNat)
  case atStart => exact ⟨0, rfl, R0, ST⟩
  case round =>
    generalize wr = wo at *
    obtain ⟨t, rfl, BE, HI⟩ := hrel
    obtain ⟨ao1, cap1, M, rfl, ht, ow, sub, mn, k, ek, hk⟩ := HI.out
    obtain ⟨m, hm⟩ : ∃ m, m = M.length := ⟨_, rfl⟩
    have HM := Lib.hid hm
    have OW := Lib.hid ow
    have SUB := Lib.hid sub
    have EK := Lib.hid ek
    have nle := HL.out
    have mn2 : m ≤ n := by omega
    have hk2 : m - t ≤ k := by omega
    have ht2 : t ≤ m := by omega
    rw [← hm]
    by_cases htm : t < m
    · have IP := Lib.hid (show Calls Tryz.prog 104 #[.slice ao1 m cap1, .int .i64 t] wo (Made (.bool (conB (M.map ZV.p) t)) wo) from by
        obtain ⟨a2, c2, e2, r2, _⟩ := ow.read
        injection e2 with q1 q2 q3
        subst q1
        rw [hm]
        exact isPart_any M ao1 cap1 t wo (r2.low (Nat.zero_le _)) (by omega) (by omega) (fun x hx y hy => IE.out x (sub x hx) y (sub y hy)))
      have DL := Lib.hid (show ∀ W, Below wo.heap.size wo W → Calls Tryz.prog 103 #[.slice ao1 m cap1, .int .i64 t, .int .i64 ((t : Int) + 1)] W fun e w' => e = .returned (.slice ao1 (m - 1) cap1) ∧ OwnZ R B w' (.slice ao1 (m - 1) cap1) (M.eraseIdx t) ∧ Below R W w' from fun W h => by
        have := zdelete_any (ow.on h) (i := t) (by omega)
        rw [← hm] at this
        refine this.mono ?_
        rintro e w' ⟨h1, h2, h3⟩
        refine ⟨h1, h2, grown_belowR h3 (Nat.le_trans HR.out (Nat.le_trans BE.out.size h.size)) (fun k hk => ?_)⟩
        have := (ow.lt k (by rw [← hm]; exact hk)).1
        exact this)
      obtain ⟨cb, hcb⟩ : ∃ cb, cb = conB (M.map ZV.p) t := ⟨_, rfl⟩
      rw [← hcb] at IP
      have CB := Lib.hid hcb
      have hlt : t < (M.map ZV.p).length := by simp; omega
      have HLT := Lib.hid hlt
      obtain ⟨k2, rfl⟩ : ∃ k2, k = k2 + 1 := ⟨k - 1, by omega⟩
      clear HI ST ow sub ek hm hk ht mn hcb hlt
      go_wp2_with fail
      refine IP.out.mono ?_
      rintro e w1 ⟨rfl, hb⟩
      have B1 := Lib.hid hb
      have OW1 := Lib.hid (OW.out.on hb)
      have BE1 := Lib.hid (below_trans BE.out (below_less hb (Nat.le_trans HR.out BE.out.size)))
      clear hb IP
      cases cb with
      | true =>
        go_wp2_with fail
        refine (DL.out _ B1.out).mono ?_
        rintro e w2 ⟨rfl, hd, hb⟩
        have BE2 := Lib.hid (below_trans BE1.out hb)
        have OD := Lib.hid hd
        clear hb hd DL
        go_wp2_with fail
        go_roundw
        case rel =>
          have lm : (M.eraseIdx t).length = m - 1 := by rw [List.length_eraseIdx, if_pos (by have := HM.out; omega)]; have := HM.out; omega
          exact ⟨t, by go_num, BE2, Lib.hid ⟨ao1, cap1, M.eraseIdx t, by rw [lm], by omega, by rw [lm]; exact OD.out, fun z hz => SUB.out z (List.mem_of_mem_eraseIdx hz), by omega, k2, by
            rw [EK.out, wpP, if_pos HLT.out, if_pos CB.out.symm, map_erase], by omega⟩⟩
        case measure => simp [intOf, slLen]; omega
      | false =>
        go_wp2_with fail
        go_roundw
        case rel =>
          exact ⟨t + 1, by go_num, BE1, Lib.hid ⟨ao1, cap1, M, by rw [HM.out], by have := HM.out; omega, OW1.out, SUB.out, by have := HM.out; omega, k2, by
            rw [EK.out, wpP, if_pos HLT.out, if_neg (by rw [← CB.out]; simp)], by have := HM.out; omega⟩⟩
        case measure => simp [intOf, slLen]; omega
    · have EN := Lib.hid (wpP_end (n := k) (i := t) (l := M.map ZV.p) (by simp; omega))
      clear HI ST ow sub ek hm hk ht mn
      go_wp2_with fail
      go_ret
      exact ⟨BE.out, ao1, cap1, M, by rw [HM.out]; rfl, OW.out, by rw [EK.out, EN.out], SUB.out, by have := HM.out; have := HN.out; omega⟩
end Go.Proofs.YthjapmdfcbngmaaGreat
