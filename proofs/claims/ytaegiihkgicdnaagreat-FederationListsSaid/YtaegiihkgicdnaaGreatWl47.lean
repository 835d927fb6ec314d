/- A part. -/
import Derived.Test.YtaegiihkgicdnaaGreatWl46
import Derived.Test.YtaegiihkgicdnaaGreatWl10
import Derived.Test.YtaegiihkgicdnaaGreatWl17
import Derived.ProofKit
import Derived.Lib.SmallJoins
import Derived.Deep.Slices
import Derived.Test.YtaegiihkgicdnaaGreatWl15

namespace Go.Proofs.YtaegiihkgicdnaaGreat
open Go.RowKit

theorem RdW.strong {A : World} {go : Option Addr} {L : List ZV} (h : RdW A go L) (hz : ∀ z ∈ L, z.l ≠ []) : RdZ 0 A go L :=
  ⟨h.hd, fun z hm => ⟨(h.el z hm).1, fun p e => by
    obtain ⟨a, ea, hR⟩ := (h.el z hm).1 (hz z hm)
    rw [e] at ea; cases ea
    have := hR 0 (List.length_pos_iff.2 (hz z hm))
    have lt := World.block_lt_of_cell? A _ this
    rw [add_block] at lt
    exact ⟨Nat.zero_le _, lt⟩⟩⟩

theorem chk_ne {L : List ZV} (h : ∀ z ∈ L, chkE z.N z.l = 0) : ∀ z ∈ L, z.l ≠ [] := fun z hz => by
  obtain ⟨n, _, _, _, hne⟩ := chk_ok (h z hz)
  exact hne

def RsL (r : List Zp × Int) (w : World) (e : Ending) (w' : World) : Prop :=
  Below w.heap.size w w' ∧ ∃ ao cap L, e = .returned (.tuple #[.slice ao L.length cap, .int .i64 r.2]) ∧ RdZ 0 w' ao L ∧ L.map ZV.p = (if r.2 = 0 then r.1 else []) ∧ L.length ≤ 1000000

theorem rs_nil {w w' : World} {r : List Zp × Int} (hb : Below w.heap.size w w') (h : r.2 ≠ 0) : RsL r w (.returned (.tuple #[.slice none 0 0, .int .i64 r.2])) w' :=
  ⟨hb, none, 0, [], rfl, ⟨fun t ht => by simp at ht, fun z hz => by simp at hz⟩, by rw [if_neg h]; rfl, by simp⟩

theorem FLRes.rs {r : List Zp × Int} {w : World} {e : Ending} {w' : World} (h : FLRes r w e w') : RsL r w e w' := by
  obtain ⟨h1, ao, cap, L, rfl, h2, h3, h4, _⟩ := h
  exact ⟨h1, ao, cap, L, rfl, h2.low (Nat.zero_le _), h3, h4⟩

theorem RfRes.rs {r : List Zp × Int} {w : World} {e : Ending} {w' : World} (h : RfRes r w e w') : RsL r w e w' := by
  obtain ⟨h1, ao, cap, L, rfl, h2, h3, h4⟩ := h
  exact ⟨h1, ao, cap, L, rfl, h2.rd.1, h3, by omega⟩

theorem RfNew.rs {r : List Zp × Int} {w : World} {e : Ending} {w' : World} (h : RfNew r w e w') : RsL r w e w' := by
  obtain ⟨h1, ao, cap, L, rfl, h2, h3, h4⟩ := h
  exact ⟨h1, ao, cap, L, rfl, h2.rd.1.low (Nat.zero_le _), h3, by omega⟩

theorem ansE_bad {G : List (List Zp)} {e : Int} (h : chkG G ≠ 0) : ansE G e = chkG G := if_neg h

end Go.Proofs.YtaegiihkgicdnaaGreat

namespace Go.Proofs.YtaegiihkgicdnaaGreat
open Go.RowKit

def Lb (n : Nat) (L : List Zp) : Prop := ∀ z ∈ L, z.2.length ≤ n

theorem Lb.nil (n : Nat) : Lb n [] := fun z h => by simp at h

theorem Lb.app {n : Nat} {a b : List Zp} (h : Lb n a) (k : Lb n b) : Lb n (a ++ b) := fun z hz => (List.mem_append.1 hz).elim (h z) (k z)

theorem Lb.seq {n : Nat} {a b : Sq} (h : Lb n a.1) (k : Lb n b.1) : Lb n (seqA a b).1 := by
  unfold seqA; split
  · exact h.app k
  · exact h

theorem Lb.flat {α : Type} {n : Nat} {f : α → Sq} : ∀ {l : List α}, (∀ x ∈ l, Lb n (f x).1) → Lb n (flatS f l).1
  | [], _ => Lb.nil n
  | x :: _r, h => Lb.seq (h x (List.mem_cons_self ..)) (Lb.flat fun y hy => h y (List.mem_cons_of_mem _ hy))

theorem Lb.one {n : Nat} {r : Zp × Int} (h : r.1.2.length ≤ n) : Lb n (oneS r).1 := by
  unfold oneS
  split
  · intro z hz; rw [List.mem_singleton] at hz; subst hz; exact h
  · exact Lb.nil n

theorem hlP_len (x y : Zp) : (hlP x y).1.2.length = x.2.length := by show (Zo.clo _ _).length = _; rw [Zo.clo_length, huL_len]

theorem upP_len (x : Zp) : (upP x).1.2.length = x.2.length := by show (Zo.clo _ _).length = _; rw [Zo.clo_length, upL_len]

theorem dnP_len (x : Zp) : (dnP x).1.2.length = x.2.length := by show (Zo.clo _ _).length = _; rw [Zo.clo_length, dnL_len]

theorem eaS_lb {n : Nat} {f : Zp → Zp × Int} {L : List Zp} (hf : ∀ x, (f x).1.2.length = x.2.length) (h : Lb n L) : Lb n (eaS f L).1 := Lb.flat fun x hx => Lb.one (by rw [hf]; exact h x hx)

theorem res_lb {n : Nat} {r : List Zp × Int} {L : List ZV} (h : Lb n r.1) (he : L.map ZV.p = (if r.2 = 0 then r.1 else [])) (hn : n ≤ 9223372036854775807) : ∀ z ∈ L, z.l.length ≤ 9223372036854775807 := fun z hz => by
  have hm : z.p ∈ (if r.2 = 0 then r.1 else []) := by rw [← he]; exact List.mem_map.2 ⟨z, hz, rfl⟩
  split at hm
  · have := h _ hm
    have e : z.l.length ≤ n := this
    omega
  · simp at hm

theorem Fine.lb {L : List ZV} (h : Fine L) : Lb 200 (L.map ZV.p) := fun z hz => by
  obtain ⟨y, hy, rfl⟩ := List.mem_map.1 hz
  exact h.2 y hy

theorem chkG_one (L : List Zp) : chkG [L] = rchk L := by
  unfold chkG rchk
  simp

structure RdGW (w : World) (go : Option Addr) (G : List (List ZV)) : Prop where
  hd : ∀ t, ∀ h : t < G.length, ∃ p a c, go = some p ∧ w.cell? (p.add t) = some (.slice a (G[t]).length c) ∧ RdW w a G[t] ∧ (a = none → c = 0)

theorem one_w {L : List ZV} {go : Option Addr} {gc : Nat} {w : World} (hL : RdW w go L) (h1 : go = none → gc = 0) :
    RdGW (w.alloc (.cells #[.slice go L.length gc] 22)) (some ⟨w.heap.size, 0, none⟩) [L] := by
  have B : Below w.heap.size w (w.alloc (.cells #[.slice go L.length gc] 22)) := one_more _
  have x0 := (Bx1.made w (.slice go L.length gc) 22).cell
  exact ⟨fun t ht => by
    match t, ht with
    | 0, _ => exact ⟨_, go, gc, rfl, by rw [addr_add]; exact x0, hL.on B, h1⟩⟩

set_option maxRecDepth 100000 in
set_option maxHeartbeats 8000000 in
theorem lentW_any (L : List ZV) (go : Option Addr) (gc : Nat) (w : World) (hL : RdW w go L) (hl : L.length ≤ 100000) (hz : ∀ z ∈ L, z.l.length ≤ 1000 ∧ (z.a = none → z.c = 0)) :
    Calls Tryz.prog 10 #[.slice go L.length gc] w (fun e w' => Below w.heap.size w w' ∧ ∃ ao cap Z, e = .returned (.slice ao Z.length cap) ∧ OwnZ w.heap.size w.heap.size w' (.slice ao Z.length cap) Z ∧ Z.map ZV.p = L.map ZV.p ∧ ∀ z ∈ Z, OwL w.heap.size w' z) := by
  have RL := Lib.hid hL
  have HZ := Lib.hid hz
  obtain ⟨n, hn⟩ : ∃ n, n = L.length := ⟨_, rfl⟩
  have HN := Lib.hid hn
  have nle : n ≤ 100000 := by omega
  have R0 := Lib.hid (show ∃ ao cap Z, Value.slice none 0 0 = .slice ao Z.length cap ∧ OwnZ w.heap.size w.heap.size w (.slice ao Z.length cap) Z ∧ Z.map ZV.p = (L.map ZV.p).take 0 ∧ ∀ z ∈ Z, OwL w.heap.size w z from ⟨none, 0, [], rfl, OwnZ.nil _ _ _, by simp, fun z h => by simp at h⟩)
  rw [← hn]
  clear hL hl hz hn
  go_enter Tryz.func10, Tryz.ntmps10
  go_wp2_with fail
  go_loopw [3, 4] (fun v s wr => ∃ t : Nat, s = .int .i64 t ∧ t ≤ n ∧ Hid (Below w.heap.size w wr) ∧ Hid (∃ ao cap Z, v = .slice ao Z.length cap ∧ OwnZ w.heap.size w.heap.size wr (.slice ao Z.length cap) Z ∧ Z.map ZV.p = (L.map ZV.p).take t ∧ ∀ z ∈ Z, OwL w.heap.size wr z)) (fun _ s _ => n - (intOf s).toNat)
  case atStart => exact ⟨0, rfl, by omega, Lib.hid (Below.refl _ _), R0⟩
  case round =>
    generalize wr = wo at *
    obtain ⟨t, rfl, ht, BE, HI⟩ := hrel
    obtain ⟨ao1, cap1, Z, rfl, ow, zp, ol⟩ := HI.out
    have OW := Lib.hid ow
    have ZP := Lib.hid zp
    have OL := Lib.hid ol
    by_cases htn : t < n
    · have hlt : t < L.length := by have := HN.out; omega
      obtain ⟨x, hx⟩ : ∃ x, x = L[t]'hlt := ⟨_, rfl⟩
      have XM := Lib.hid (show x ∈ L by rw [hx]; exact List.getElem_mem _)
      have XP := Lib.hid (show (L.map ZV.p).take (t + 1) = (L.map ZV.p).take t ++ [x.p] by rw [List.take_succ_eq_append_getElem (by simpa using hlt)]; simp [hx])
      obtain ⟨b, eb, h0, h1⟩ := RL.out.hd t hlt
      rw [← hx] at h0 h1
      have XA := Lib.hid (show Arg wo x.a x.l from ((RL.out.on BE.out).el x XM.out).1)
      have ZLN := Lib.hid (show Z.length = t by have e := congrArg List.length zp; simp at e; omega)
      have WS := Lib.hid BE.out.size
      obtain ⟨xl, hxl⟩ : ∃ xl, xl = x.l.length := ⟨_, rfl⟩
      have HXL := Lib.hid hxl
      rw [← hxl] at h1
      obtain ⟨zn, hzn⟩ : ∃ zn, zn = Z.length := ⟨_, rfl⟩
      have HZN := Lib.hid hzn
      rw [← hzn]
      have G0 := Lib.hid h0
      have G1 := Lib.hid h1
      clear HI ow zp ol hlt hx h0 h1 hxl hzn R0
      subst eb
      go_upto_region 5 with (fail)
      have KS := Lib.hid (show ∀ W, Below wo.heap.size wo W → (W.cell? (b.add (t * 2)) = some (.int .i64 x.N) ∧ W.cell? ⟨(b.add (t * 2)).block, (b.add (t * 2)).off + 1, none⟩ = some (.slice x.a xl x.c)) from fun W h => ⟨kept (below_on BE.out h) G0.out, kept (below_on BE.out h) G1.out⟩)
      obtain ⟨wc, hwc⟩ : ∃ wc, wc = wo.drew := ⟨_, rfl⟩
      have Bc := Lib.hid (show Below wo.heap.size wo wc by rw [hwc]; exact (Below.refl _ _).drew)
      refine wp_region_held_drew (S := (fun W => (W.cell? (b.add (t * 2)) = some (.int .i64 x.N) ∧ W.cell? ⟨(b.add (t * 2)).block, (b.add (t * 2)).off + 1, none⟩ = some (.slice x.a xl x.c)))) (by kernel_rfl) (by rw [← hwc]; exact KS.out _ Bc.out) (fun h0 => ?_)
      rw [← hwc] at h0 ⊢
      clear hwc
      refine tkH (i := 0) (v := ?v1) rfl (Or.inl ⟨by rfl, ?hy1⟩) h0 ?rest1
      case hy1 => (intro w' hS; (try dsimp only at hS); go_simp; try (with_reducible rfl))
      simp only [Act.put, sA, sB, sD, sE, sF]
      refine tkH (i := 1) (v := ?v2) rfl (Or.inl ⟨by rfl, ?hy2⟩) h0 ?rest2
      case hy2 => (intro w' hS; (try dsimp only at hS); go_simp; try (with_reducible rfl))
      simp only [Act.put, sZ]
      refine tkH (i := 2) (v := ?v3) rfl (Or.inl ⟨by rfl, ?hy3⟩) h0 ?rest3
      case hy3 => (intro w' hS; (try dsimp only at hS); go_simp; try (with_reducible rfl))
      simp only [Act.put, sZ]
      refine tkH (i := 3) (v := ?v4) rfl (Or.inl ⟨by rfl, ?hy4⟩) h0 ?rest4
      case hy4 => (intro w' hS; (try dsimp only at hS); go_simp; try (with_reducible rfl))
      simp only [Act.put, sZ]
      refine tkH (i := 4) (v := ?v5) rfl (Or.inl ⟨by rfl, ?hy5⟩) h0 ?rest5
      case hy5 => (intro w' hS; (try dsimp only at hS); go_simp; try (with_reducible rfl))
      simp only [Act.put, sZ]
      refine tkH (i := 5) (v := ?v6) rfl (Or.inl ⟨by rfl, ?hy6⟩) h0 ?rest6
      case hy6 => (intro w' hS; (try dsimp only at hS); go_simp; try (with_reducible rfl))
      simp only [Act.put, sZ]
      refine tkH (i := 7) (v := ?v7) rfl (Or.inl ⟨by rfl, ?hy7⟩) h0 ?rest7
      case hy7 => (intro w' hS; (try dsimp only at hS); go_simp; try (with_reducible rfl))
      simp only [Act.put, sZ]
      refine tkH (i := 8) (v := ?v8) rfl (Or.inl ⟨by rfl, ?hy8⟩) h0 ?rest8
      case hy8 => (intro w' hS; (try dsimp only at hS); go_simp; try (with_reducible rfl))
      simp only [Act.put, sZ]
      refine tkH (i := 9) (v := ?v9) rfl (Or.inl ⟨by rfl, ?hy9⟩) h0 ?rest9
      case hy9 => (intro w' hS; (try dsimp only at hS); go_simp; try (with_reducible rfl))
      simp only [Act.put, sZ]
      refine tkH (i := 10) (v := ?v10) rfl (Or.inl ⟨by rfl, ?hy10⟩) h0 ?rest10
      case hy10 => (intro w' hS; (try dsimp only at hS); go_simp; try (with_reducible rfl))
      simp only [Act.put, sZ]
      refine tkH (i := 11) (v := ?v11) rfl (Or.inl ⟨by rfl, ?hy11⟩) h0 ?rest11
      case hy11 => (intro w' hS; (try dsimp only at hS); go_simp; try (with_reducible rfl))
      simp only [Act.put, sZ]
      refine wpAnyH_ready (rs := [6]) (by kernel_rfl) (by simp) (AllReadyH.cons rfl (fun K hK => ?_) AllReadyH.nil)
      rw [if_pos (by rfl)]
      go_simp
      have hb := one_more (w1 := wc) (.cells #[] 37)
      have hP := lim0 wc
      have hz := Bc.out.size
      obtain ⟨b0, hbb⟩ : ∃ b, b = wc.heap.size := ⟨_, rfl⟩
      rw [← hbb] at hP hz
      obtain ⟨wn, hwn⟩ : ∃ wn, wn = wc.alloc (.cells #[] 37) := ⟨_, rfl⟩
      rw [← hwn] at hb hP ⊢
      try rw [← hbb]
      have Bc := Lib.hid (below_on Bc.out hb)
      have PB := Lib.hid hP
      have Zb0 := Lib.hid hz
      clear hb hP hz hbb hwn
      obtain ⟨wc, hwc⟩ : ∃ wc, wc = wn := ⟨_, rfl⟩
      rw [← hwc] at Bc PB ⊢
      clear hwc
      go_simp
      refine hK.out _ _ (KS.out _ Bc.out) (fun h0_1 => ?_)
      clear hK K h0
      refine wpAnyH_ready (rs := [12]) (by kernel_rfl) (by simp) (AllReadyH.cons rfl (fun K hK => ?_) AllReadyH.nil)
      rw [if_pos (by rfl)]
      have b0le : b0 ≤ wc.heap.size := Nat.le_of_lt (World.ownsRow.lt PB.out b0 rfl).2
      obtain ⟨v', we, hrun, ho, hg⟩ := appendLim_run PB.out (XA.out.on Bc.out) (HZ.out x XM.out).2 (by have := (HZ.out x XM.out).1; omega) b0le 34
      rw [← HXL.out] at hrun
      obtain ⟨xa, xc, e3⟩ := ownsRow_form0 ho
      rw [← HXL.out] at e3
      subst e3
      refine Lib.wp_append_run _ _ _ 34 34 rfl (.slice (some ⟨b0, 0, none⟩) 0 0) (.slice x.a xl x.c) rfl rfl _ _ hrun ?_
      have Bc := Lib.hid (Below.grown Bc.out hg Bc.out.size (fun j e => by have := (World.ownsRow.lt PB.out j e).1; have := Zb0.out; omega))
      have OX := Lib.hid (show OwL wo.heap.size we ⟨x.N, xa, xc, x.l⟩ from (show OwL b0 we ⟨x.N, xa, xc, x.l⟩ from by unfold OwL; rw [← HXL.out]; rw [← HXL.out] at ho; exact ho).low (by have := Zb0.out; have : wo.heap.size ≤ wo.heap.size := Nat.le_refl _; omega))
      have Z1 := Lib.hid (Nat.le_trans b0le hg.size)
      clear hrun ho hg b0le
      obtain ⟨wc, hwc⟩ : ∃ wc, wc = we := ⟨_, rfl⟩
      rw [← hwc] at Bc OX Z1 ⊢
      clear hwc
      try simp only [Act.put, sZ]
      refine hK.out _ _ (KS.out _ Bc.out) (fun h0_2 => ?_)
      clear hK K h0_1
      refine tkH (i := 13) (v := ?v12) rfl (Or.inl ⟨by rfl, ?hy12⟩) h0_2 ?rest12
      case hy12 => (intro w' hS; (try dsimp only at hS); go_simp; try (with_reducible rfl))
      simp only [Act.put, sZ]
      refine wpAnyH_ready (rs := [14]) (by kernel_rfl) (by simp) (AllReadyH.cons rfl (fun K hK => ?_) AllReadyH.nil)
      rw [if_pos (by rfl)]
      go_simp
      have hb := one_more (w1 := wc) (.cells #[.int .i64 x.N, .slice xa xl xc] 36)
      have hP := (Bx2.made wc (.int .i64 x.N) (.slice xa xl xc) 36)
      have hz := Bc.out.size
      obtain ⟨bz, hbb⟩ : ∃ b, b = wc.heap.size := ⟨_, rfl⟩
      rw [← hbb] at hP hz
      obtain ⟨wn, hwn⟩ : ∃ wn, wn = wc.alloc (.cells #[.int .i64 x.N, .slice xa xl xc] 36) := ⟨_, rfl⟩
      rw [← hwn] at hb hP ⊢
      try rw [← hbb]
      try (have OX := Lib.hid (OX.out.on hb))
      have Bc := Lib.hid (below_on Bc.out hb)
      have PZ := Lib.hid hP
      have Zbz := Lib.hid hz
      clear hb hP hz hbb hwn
      obtain ⟨wc, hwc⟩ : ∃ wc, wc = wn := ⟨_, rfl⟩
      rw [← hwc] at Bc PZ ⊢
      try rw [← hwc] at OX
      clear hwc
      go_simp
      refine hK.out _ _ (KS.out _ Bc.out) (fun h0_3 => ?_)
      clear hK K h0_2
      refine wpAnyH_ready (rs := [15]) (by kernel_rfl) (by simp) (AllReadyH.cons rfl (fun K hK => ?_) AllReadyH.nil)
      rw [if_pos (by rfl)]
      obtain ⟨p0, p1, _, _⟩ := PZ.out.facts
      have own1 := OW.out.on Bc.out
      have hle : Z.length + 1 ≤ 1000000 := by have := ZLN.out; omega
      obtain ⟨v', we, hrun, ho, hg, hf⟩ := appendZ_run own1 (c := 1) (z := ⟨x.N, xa, xc, x.l⟩) p0 (show wc.cell? ⟨bz, 1, none⟩ = some (.slice xa (ZV.l ⟨x.N, xa, xc, x.l⟩).length xc) by rw [← HXL.out]; exact p1) (OX.out.zat.low WS.out) (fun p e q => by have h1 := (OX.out.zat.2 p e).1; have h2 := (OW.out.lt _ q).2; omega) hle (Nat.le_trans WS.out Bc.out.size) 22
      rw [← HZN.out] at hrun
      obtain ⟨ao2, cap2, e4⟩ := ho.form
      have O2 := ho
      rw [e4] at O2
      have e5 : v' = .slice ao2 (zn + 1) cap2 := by rw [e4]; congr 1; rw [List.length_append, HZN.out]; rfl
      subst e5
      refine Lib.wp_append_run _ _ _ 22 22 rfl (.slice ao1 zn cap1) (.slice (some ⟨bz, 0, none⟩) 1 1) rfl rfl _ _ hrun ?_
      have Bc2 := Lib.hid (below_trans BE.out (below_trans (below_less Bc.out WS.out) (grown_belowR hg (Nat.le_trans WS.out Bc.out.size) (fun j e => (own1.lt j e).1))))
      have OL2 := Lib.hid (show ∀ z ∈ Z ++ [⟨x.N, xa, xc, x.l⟩], OwL w.heap.size we z from fun z hz => by
          rcases List.mem_append.1 hz with q | q
          · exact ((OL.out z q).on Bc.out).grown hg (own1.far z q)
          · rw [List.mem_singleton] at q; subst q; exact (OX.out.low WS.out).grown hg (fun p e q => by have h1 := (OX.out.zat.2 p e).1; have h2 := (OW.out.lt _ q).2; omega))
      have O2 := Lib.hid O2
      clear hrun ho hg hf e4 own1 p0 p1
      obtain ⟨wd, hwd⟩ : ∃ wd, wd = we := ⟨_, rfl⟩
      rw [← hwd] at Bc2 O2 OL2 ⊢
      clear hwd
      try simp only [Act.put, sZ]
      refine hK.out _ _ ⟨kept Bc2.out G0.out, kept Bc2.out G1.out⟩ (fun h0_4 => ?_)
      clear hK K h0_3
      refine tkH (i := 16) (v := ?v13) rfl (Or.inl ⟨by rfl, ?hy13⟩) h0_4 ?rest13
      case hy13 => (intro w' hS; (try dsimp only at hS); go_simp; try (with_reducible rfl))
      simp only [Act.put, sA, sB, sC, sD]
      try simp only [sF]
      try simp only [sE]
      refine wpAnyH_done (by kernel_rfl) ?_ _
      try simp only [Exit.then]
      go_wp2_with fail
      go_roundw
      case rel => exact ⟨t + 1, by go_num, by omega, Bc2, Lib.hid ⟨ao2, cap2, Z ++ [⟨x.N, xa, xc, x.l⟩], by rw [List.length_append, ← HZN.out]; rfl, O2.out, by rw [XP.out, List.map_append, ZP.out]; rfl, OL2.out⟩⟩
      case measure => simp [intOf]; omega
    · have e : (L.map ZV.p).take t = L.map ZV.p := List.take_of_length_le (by have := HN.out; simp; omega)
      have ZP := Lib.hid (zp.trans e)
      clear HI ow zp ol e R0
      go_wp2_with fail
      go_ret
      exact ⟨BE.out, ao1, cap1, Z, rfl, OW.out, ZP.out, OL.out⟩

set_option maxRecDepth 100000 in
set_option maxHeartbeats 16000000 in
theorem beyondW_any (most : Nat) (G : List (List ZV)) (go : Option Addr) (gc : Nat) (w : World) (hG : RdGW w go G) (hgl : G.length ≤ 10) (hl : ∀ L ∈ G, L.length ≤ 9223372036854775807 ∧ ∀ z ∈ L, z.l.length ≤ 9223372036854775807) :
    Calls Tryz.prog 8 #[.int .i64 most, .slice go G.length gc] w (BeRes G w) := by
  have HG := Lib.hid hG
  have LL := Lib.hid hl
  obtain ⟨m, hm⟩ : ∃ m, m = G.length := ⟨_, rfl⟩
  have HM := Lib.hid hm
  have hm10 : m ≤ 10 := by omega
  rw [← hm]
  clear hG hgl hl hm
  go_enter Tryz.func8, Tryz.ntmps8
  go_wp2_with fail
  go_loopw [5] (fun s wr => ∃ j : Nat, j ≤ m ∧ s = .int .i64 j ∧ wr = w ∧ Hid (∀ t, ∀ h : t < G.length, t < j → Fine G[t])) (fun s _ => m - (intOf s).toNat)
  case atStart => exact ⟨0, by omega, rfl, rfl, Lib.hid (fun t h q => by omega)⟩
  case round =>
    obtain ⟨j, hj, rfl, hw, HF⟩ := hrel
    rw [hw]
    clear hw
    by_cases hjm : j < m
    · have hlt : j < G.length := by have := HM.out; omega
      have HLT := Lib.hid hlt
      obtain ⟨p, a, c, ep, f, r, _⟩ := HG.out.hd j hlt
      obtain ⟨k, hk⟩ : ∃ k, k = (G[j]'hlt).length := ⟨_, rfl⟩
      have kle := (LL.out _ (List.getElem_mem hlt)).1
      rw [← hk] at kle
      have f2 : w.cell? (p.add j) = some (.slice a k c) := by rw [hk]; exact f
      have HK := Lib.hid (show k = (G[j]'HLT.out).length from hk)
      have RR := Lib.hid (show RdW w a (G[j]'HLT.out) from r)
      clear r hk hlt f
      subst ep
      by_cases c3 : 3000 < k
      · have d3 : (3000 : Int) < k := by omega
        have d2 : ¬ (k : Int) ≤ 2000 := by omega
        by_cases c1 : (most : Int) < k
        · go_wp2_with fail
          go_ret
          exact ⟨Below.refl _ _, true, rfl, fun h => by cases h⟩
        · go_wp2_with fail
          go_ret
          exact ⟨Below.refl _ _, true, rfl, fun h => by cases h⟩
      · have d3 : ¬ (3000 : Int) < k := by omega
        by_cases c12 : most < k ∧ k ≤ 2000
        · have c1 : (most : Int) < k := by omega
          have c2 : (k : Int) ≤ 2000 := by omega
          go_wp2_with fail
          go_ret
          exact ⟨Below.refl _ _, true, rfl, fun h => by cases h⟩
        · by_cases c1n : most < k
          · have c1 : (most : Int) < k := by omega
            have c2 : ¬ (k : Int) ≤ 2000 := by omega
            go_wp2_with fail
            go_loopw [6] (fun s wr => ∃ u : Nat, u ≤ k ∧ s = .int .i64 u ∧ wr = w ∧ Hid (∀ t, ∀ h : t < (G[j]'HLT.out).length, t < u → ((G[j]'HLT.out)[t]).l.length ≤ 200)) (fun s _ => k - (intOf s).toNat)
            case atStart => exact ⟨0, by omega, rfl, rfl, Lib.hid (fun t h q => by omega)⟩
            case round =>
              obtain ⟨u, hu, rfl, hw, HU⟩ := hrel
              rw [hw]
              clear hw
              by_cases huk : u < k
              · have hlt : u < (G[j]'HLT.out).length := by have := HK.out; omega
                obtain ⟨x, hx⟩ : ∃ x, x = (G[j]'HLT.out)[u] := ⟨_, rfl⟩
                have XM := Lib.hid (show x ∈ G[j]'HLT.out by rw [hx]; exact List.getElem_mem _)
                obtain ⟨q, eq, h0, h1⟩ := RR.out.hd u hlt
                rw [← hx] at h0 h1
                obtain ⟨xl, hxl⟩ : ∃ xl, xl = x.l.length := ⟨_, rfl⟩
                rw [← hxl] at h1
                have xle := (LL.out _ (List.getElem_mem HLT.out)).2 x XM.out
                rw [← hxl] at xle
                have XL := Lib.hid (show ∀ h : u < (G[j]'HLT.out).length, xl = ((G[j]'HLT.out)[u]'h).l.length from fun h => by rw [hxl, hx])
                clear hx hxl hlt
                subst eq
                by_cases d1 : 200 < xl
                · have e1 : (200 : Int) < xl := by omega
                  go_wp2_with fail
                  go_ret
                  exact ⟨Below.refl _ _, true, rfl, fun h => by cases h⟩
                · have e1 : ¬ (200 : Int) < xl := by omega
                  have D1 := Lib.hid d1
                  by_cases d2 : 2 < k
                  · have e2 : (2 : Int) < k := by omega
                    by_cases d3 : k ≤ 2000
                    · omega
                    · have e3 : ¬ (k : Int) ≤ 2000 := by omega
                      go_wp2_with fail
                      go_roundw
                      case rel => exact ⟨u + 1, by omega, by go_num, trivial, Lib.hid (fun t h q => by
                        by_cases e : t = u
                        · subst e; have := XL.out h; have := D1.out; omega
                        · exact HU.out t h (by omega))⟩
                      case measure => simp [intOf]; omega
                  · omega
              · have FJ := Lib.hid (show ∀ t, ∀ h : t < G.length, t < j + 1 → Fine G[t] from fun t h q => by
                  by_cases e : t = j
                  · subst e
                    refine ⟨by have := HK.out; omega, fun z hz => ?_⟩
                    obtain ⟨i, hi, rfl⟩ := List.getElem_of_mem hz
                    exact HU.out i hi (by have := HK.out; omega)
                  · exact HF.out t h (by omega))
                go_wp2_with fail
                go_roundw
                case rel => exact ⟨j + 1, by omega, by go_num, trivial, FJ⟩
                case measure => simp [intOf]; omega
          · have c1 : ¬ (most : Int) < k := by omega
            go_wp2_with fail
            go_loopw [6] (fun s wr => ∃ u : Nat, u ≤ k ∧ s = .int .i64 u ∧ wr = w ∧ Hid (∀ t, ∀ h : t < (G[j]'HLT.out).length, t < u → ((G[j]'HLT.out)[t]).l.length ≤ 200)) (fun s _ => k - (intOf s).toNat)
            case atStart => exact ⟨0, by omega, rfl, rfl, Lib.hid (fun t h q => by omega)⟩
            case round =>
              obtain ⟨u, hu, rfl, hw, HU⟩ := hrel
              rw [hw]
              clear hw
              by_cases huk : u < k
              · have hlt : u < (G[j]'HLT.out).length := by have := HK.out; omega
                obtain ⟨x, hx⟩ : ∃ x, x = (G[j]'HLT.out)[u] := ⟨_, rfl⟩
                have XM := Lib.hid (show x ∈ G[j]'HLT.out by rw [hx]; exact List.getElem_mem _)
                obtain ⟨q, eq, h0, h1⟩ := RR.out.hd u hlt
                rw [← hx] at h0 h1
                obtain ⟨xl, hxl⟩ : ∃ xl, xl = x.l.length := ⟨_, rfl⟩
                rw [← hxl] at h1
                have xle := (LL.out _ (List.getElem_mem HLT.out)).2 x XM.out
                rw [← hxl] at xle
                have XL := Lib.hid (show ∀ h : u < (G[j]'HLT.out).length, xl = ((G[j]'HLT.out)[u]'h).l.length from fun h => by rw [hxl, hx])
                clear hx hxl hlt
                subst eq
                by_cases d1 : 200 < xl
                · have e1 : (200 : Int) < xl := by omega
                  go_wp2_with fail
                  go_ret
                  exact ⟨Below.refl _ _, true, rfl, fun h => by cases h⟩
                · have e1 : ¬ (200 : Int) < xl := by omega
                  have D1 := Lib.hid d1
                  by_cases d2 : 2 < k
                  · have e2 : (2 : Int) < k := by omega
                    by_cases d3 : k ≤ 2000
                    · have e3 : (k : Int) ≤ 2000 := by omega
                      by_cases d4 : 16 < xl
                      · have e4 : (16 : Int) < xl := by omega
                        go_wp2_with fail
                        go_ret
                        exact ⟨Below.refl _ _, true, rfl, fun h => by cases h⟩
                      · have e4 : ¬ (16 : Int) < xl := by omega
                        go_wp2_with fail
                        go_roundw
                        case rel => exact ⟨u + 1, by omega, by go_num, trivial, Lib.hid (fun t h q => by
                          by_cases e : t = u
                          · subst e; have := XL.out h; have := D1.out; omega
                          · exact HU.out t h (by omega))⟩
                        case measure => simp [intOf]; omega
                    · have e3 : ¬ (k : Int) ≤ 2000 := by omega
                      go_wp2_with fail
                      go_roundw
                      case rel => exact ⟨u + 1, by omega, by go_num, trivial, Lib.hid (fun t h q => by
                        by_cases e : t = u
                        · subst e; have := XL.out h; have := D1.out; omega
                        · exact HU.out t h (by omega))⟩
                      case measure => simp [intOf]; omega
                  · have e2 : ¬ (2 : Int) < k := by omega
                    go_wp2_with fail
                    go_roundw
                    case rel => exact ⟨u + 1, by omega, by go_num, trivial, Lib.hid (fun t h q => by
                      by_cases e : t = u
                      · subst e; have := XL.out h; have := D1.out; omega
                      · exact HU.out t h (by omega))⟩
                    case measure => simp [intOf]; omega
              · have FJ := Lib.hid (show ∀ t, ∀ h : t < G.length, t < j + 1 → Fine G[t] from fun t h q => by
                  by_cases e : t = j
                  · subst e
                    refine ⟨by have := HK.out; omega, fun z hz => ?_⟩
                    obtain ⟨i, hi, rfl⟩ := List.getElem_of_mem hz
                    exact HU.out i hi (by have := HK.out; omega)
                  · exact HF.out t h (by omega))
                go_wp2_with fail
                go_roundw
                case rel => exact ⟨j + 1, by omega, by go_num, trivial, FJ⟩
                case measure => simp [intOf]; omega
    · have FE := Lib.hid (show ∀ L ∈ G, Fine L from fun L hL => by
        obtain ⟨t, ht, rfl⟩ := List.getElem_of_mem hL
        exact HF.out t ht (by have := HM.out; omega))
      clear HF
      go_wp2_with fail
      go_ret
      exact ⟨Below.refl _ _, false, rfl, fun _ => FE.out⟩
end Go.Proofs.YtaegiihkgicdnaaGreat

namespace Go.Proofs.YtaegiihkgicdnaaGreat
open Go.ChangeShapes Go.WideShapes Go.ChangeAt Go.RowKit Go.Joins Go.Deep

theorem Tryz.own : ownKnob Tryz.prog.godebug = none := by kernel_rfl

theorem Tryz.laidOut : laidOutB Tryz.prog = true := by kernel_rfl

theorem trodAll_stays {H : Type} {enc : TypeId × Value → H} {W W' : World} {sp : Nat → Bool} : ∀ {ts : List TypeId} {vs : List Value} {ds : List (DataW H)} {ps : List MemPlace}, (∀ t ∈ ts, Tryz.prog.readableRec t = true ∧ t < Tryz.prog.types.size) →
    DataW.TrodAll enc Tryz.prog W 0 (fun _ => true) true ts vs ds ps → (∀ p ∈ ps, W.sameAt W' p) → (∀ p ∈ ps, sp p.block = true) → DataW.TrodAll enc Tryz.prog W' 0 sp true ts vs ds ps
  | [], [], [], _, _, h, _, _ => h
  | [], [], _ :: _, _, _, h, _, _ => h.elim
  | [], _ :: _, _, _, _, h, _, _ => h.elim
  | _ :: _, [], _, _, _, h, _, _ => h.elim
  | _ :: _, _ :: _, [], _, _, h, _, _ => h.elim
  | t :: ts, v :: vs, d :: ds, ps, ht, h, h1, h2 => by
    obtain ⟨p, q, ha, hb, rfl⟩ := h
    obtain ⟨r1, r2⟩ := ht t (List.mem_cons_self ..)
    exact ⟨p, q, WideElems.Trod_stays Tryz.laidOut r1 r2 ha (fun x hx => h1 x (List.mem_append_left _ hx)) (fun x hx => h2 x (List.mem_append_left _ hx)),
      trodAll_stays (fun t ht' => ht t (List.mem_cons_of_mem _ ht')) hb (fun x hx => h1 x (List.mem_append_right _ hx)) (fun x hx => h2 x (List.mem_append_right _ hx)), rfl⟩

set_option maxRecDepth 100000 in
theorem post_law {H : Type} {enc : TypeId × Value → H} {f : Func} {s : ChangeSpec} {apart fresh handsOn again : Bool} {W W' : World} {args : Array Value} {ds gs : List (DataW H)} {before : List MemPlace}
    (hW : DataW.Whole enc Tryz.prog f.params.toList s.vars apart W args.toList ds gs before) (hv : s.vars = []) (hb : Below W.heap.size W W')
    (ht : ∀ t ∈ f.params.toList, Tryz.prog.readableRec t = true ∧ t < Tryz.prog.types.size)
    (hr : f.resultTypes.toList = [4]) (hs : f.resultTypes.size = 1) (hs1 : f.resultTypes[0]? = some 4)
    (hres : (s.fn H ds).results = [.lit (.bool true)]) (hargs : (s.fn H ds).args = ds) (hvars : (s.fn H ds).vars = []) :
    s.post enc Tryz.prog f apart fresh handsOn again W args (.bool true) W' := by
  have hlt : ∀ p ∈ before, p.block < W.heap.size := fun p hp => hW.lt p hp
  have hW0 := hW
  obtain ⟨p, q, hA, hV, rfl, hz, hn⟩ := hW
  rw [hv] at hV
  obtain ⟨rfl, rfl⟩ := trodVars_none hV
  simp only [List.append_nil] at hlt hz hn hW0
  have key : ∀ sp : Nat → Bool, (∀ x ∈ p, sp x.block = true) → DataW.TrodAll enc Tryz.prog W' 0 sp true f.params.toList args.toList ds p := fun sp hsp =>
    trodAll_stays ht hA (fun x hx => hb.same (hlt x hx)) hsp
  have res : ∀ (b : Nat) (sp : Nat → Bool) (hd : Bool), DataW.TrodAll enc Tryz.prog W' b sp hd f.resultTypes.toList ((Value.bool true).resultList f.resultTypes.size) [.lit (.bool true)] [] := fun b sp hd => by
    rw [hr, hs]
    exact trodAll_mk1 (shut_bool Tryz.underlying4 _)
  have none : ∀ sp : Nat → Bool, DataW.TrodVars enc Tryz.prog W' sp s.vars (s.fn H (ds ++ [])).vars [] := fun sp => by
    rw [hv, List.append_nil, hvars]; rfl
  have kA : ∀ sp : Nat → Bool, (∀ x ∈ p, sp x.block = true) → DataW.TrodAll enc Tryz.prog W' 0 sp true f.params.toList args.toList (s.fn H (ds ++ [])).args p := fun sp hsp => by
    rw [List.append_nil, hargs]; exact key sp hsp
  have kR : ∀ (b : Nat) (sp : Nat → Bool) (hd : Bool), DataW.TrodAll enc Tryz.prog W' b sp hd f.resultTypes.toList ((Value.bool true).resultList f.resultTypes.size) (s.fn H (ds ++ [])).results [] := fun b sp hd => by
    rw [List.append_nil, hres]; exact res b sp hd
  refine ⟨ds, [], p, [], p, [], by simpa using hW0, kR _ _ _, ?_, none _, ?_, fun _ => ?_⟩
  · exact kA _ (fun x hx => by simpa using hlt x hx)
  · exact World.keptBut_mono (fun x hx => ⟨hx, by simpa using hx⟩) (hb.frame (· ∈ p))
  · refine ⟨?_, _, _, ([] ++ p) ++ [], ⟨[] ++ p, [], trodAll_append (kA _ (fun _ _ => rfl)) (kR _ _ _), none _, rfl, ?_, ?_⟩, ?_⟩
    · intro j t r h1 h2
      rw [hs] at h2
      cases j with
      | zero =>
        rw [hs1] at h1
        simp [Value.resultList] at h2
        subst h2
        have e := Option.some.inj h1
        rw [← e]
        exact okWide_bool_mk Tryz.underlying4 _
      | succ j => rw [Array.getElem?_eq_none (by omega)] at h1; cases h1
    · intro b off hp
      have hin : MemPlace.cell b off ∈ p := by simpa using hp
      rw [hb.frozen (hlt _ hin)]
      exact hz b off hin
    · intro ha
      simpa using hn ha
    · intro x hx _
      simpa using hx
end Go.Proofs.YtaegiihkgicdnaaGreat

namespace Go.Proofs.YtaegiihkgicdnaaGreat
open Go.ChangeShapes Go.WideShapes Go.ChangeAt Go.RowKit Go.Joins Go.Deep

theorem Tryz.cells37 : Tryz.prog.cellsOf 37 = 1 := by kernel_rfl

theorem Tryz.cells34 : Tryz.prog.cellsOf 34 = 1 := by kernel_rfl

theorem Tryz.cells3 : Tryz.prog.cellsOf 3 = 1 := by kernel_rfl

theorem Tryz.cells36 : Tryz.prog.cellsOf 36 = 2 := by kernel_rfl

theorem add_two (a : Addr) (k j : Nat) (hj : 0 < j) : (a.add k).add j = ⟨(a.add k).block, (a.add k).off + j, none⟩ := by
  generalize a.add k = b
  unfold Addr.add
  rw [if_neg (by omega)]

set_option maxRecDepth 100000 in
theorem trod_slice1 {H : Type} {enc : TypeId × Value → H} {W : World} {base : Nat} {sp : Nat → Bool} {held : Bool} {r : Reach} {b0 : Nat} {t e : TypeId} {v : Value} {d : DataW H} {p : List MemPlace} (ht : Tryz.prog.underlying t = some (.slice e))
    (hv : Value.okWide Tryz.prog W r b0 t v) (h : DataW.Trod enc Tryz.prog W base sp held t v d p) : ∃ n, DataW.trod enc Tryz.prog W base sp held n t [v] = some (d, p) := by
  obtain ⟨n, hn⟩ := h
  obtain ⟨a, l, c, rfl⟩ := okWide_slice ht hv
  exact ⟨n, hn⟩

end Go.Proofs.YtaegiihkgicdnaaGreat

namespace Go.Proofs.YtaegiihkgicdnaaGreat
open Go.ChangeShapes Go.WideShapes Go.ChangeAt Go.RowKit Go.Joins Go.Deep

theorem open_limits0 {H : Type} {enc : TypeId × Value → H} {W : World} {base fuel : Nat} {sp : Nat → Bool} {held : Bool} {c : Value} {y : DataW H × List MemPlace}
    (h : DataW.trod enc Tryz.prog W base sp held fuel 34 [c] = some y) : ∃ (ao : Option Addr) (l : List Int) (cap : Nat), c = .slice ao l.length cap ∧ Arg W ao l ∧ l.length ≤ maxLen ∧ (ao = none → cap = 0) := by
  rcases open_ints Tryz.underlying34 Tryz.underlying37 Tryz.cells37 h with ⟨e, _⟩ | ⟨a, len, cap, zs, e, _, hl, hm, hz, _, hc, _⟩
  · simp at e
    exact ⟨none, [], 0, by simpa using e, fun q => absurd rfl q, by simp, fun _ => rfl⟩
  · simp at e
    have hlen : len ≤ zs.length := by rw [hz]; split <;> omega
    refine ⟨some a, zs.take len, cap, by rw [e]; simp [hlen], fun _ => ⟨a, rfl, fun j hj => ?_⟩, by simp; omega, fun q => by cases q⟩
    simp at hj
    rw [hc j (by omega)]
    simp [Zo.gt, show j < len by omega]

def ZIn (W : World) (z : ZV) : Prop := Arg W z.a z.l ∧ z.l.length ≤ maxLen ∧ (z.a = none → z.c = 0)

set_option maxRecDepth 100000 in
theorem trod_zone {H : Type} {enc : TypeId × Value → H} {W : World} {base fuel : Nat} {sp : Nat → Bool} {held : Bool} {cs : List Value} {y : DataW H × List MemPlace}
    (h : DataW.trod enc Tryz.prog W base sp held fuel 36 cs = some y) : ∃ z : ZV, cs = z.cs ∧ ZIn W z := by
  obtain ⟨xs, n, _, _, hl, hx, hf⟩ := DataW.trod_struct Tryz.underlying36 h
  rw [Tryz.cells36] at hl
  match cs, hl with
  | [a, b], _ =>
    have g0 := hf 0 _ rfl
    have g1 := hf 1 _ rfl
    match xs, hx with
    | [y0, y1], _ =>
      simp [Tryz.cells3, Tryz.cells34] at g0 g1
      obtain ⟨N, e0, _, _⟩ := DataW.trod_int Tryz.underlying3 g0
      obtain ⟨ao, l, cap, e1, hA, hl, hn⟩ := open_limits0 g1
      simp at e0
      exact ⟨⟨N, ao, cap, l⟩, by rw [e0, e1]; rfl, hA, hl, hn⟩

set_option maxRecDepth 100000 in
theorem open_zones {H : Type} {enc : TypeId × Value → H} {W : World} {base fuel : Nat} {sp : Nat → Bool} {held : Bool} {c : Value} {y : DataW H × List MemPlace}
    (h : DataW.trod enc Tryz.prog W base sp held fuel 22 [c] = some y) :
    ∃ (ao : Option Addr) (L : List ZV) (cap : Nat), c = .slice ao L.length cap ∧ RdW W ao L ∧ (ao = none → cap = 0) ∧ (L.length ≤ 9223372036854775807 ∧ ∀ z ∈ L, z.l.length ≤ 9223372036854775807) ∧ (∀ z ∈ L, z.a = none → z.c = 0) ∧ L.length ≤ cap := by
  rcases open_slice Tryz.underlying22 h with ⟨e, _⟩ | ⟨a, len, cap, m, n, D, Pl, e, _, hl, hm, hmm, _, hi⟩
  · simp at e
    exact ⟨none, [], 0, by simpa using e, ⟨fun t ht => by simp at ht, fun y hy => by simp at hy⟩, fun _ => rfl, ⟨by simp, fun y hy => by simp at hy⟩, fun y hy => by simp at hy, by simp⟩
  · simp at e
    have hlen : len ≤ m := by rw [hmm]; split <;> omega
    have key : ∀ i, i < len → ∃ q : ZV, HdAt W a i q ∧ ZIn W q := fun i hil => by
      obtain ⟨cs', hc, ht⟩ := hi i (by omega)
      rw [Tryz.cells36] at hc
      obtain ⟨z, rfl, hz⟩ := trod_zone ht
      obtain ⟨_, hcl, hat⟩ := World.cells?_some hc
      have c0 := hat 0 (by simp [])
      have c1 := hat 1 (by simp [])
      have ez : (a.add (i * 2)).add 0 = a.add (i * 2) := add_nil2 (a.add (i * 2))
      refine ⟨z, ⟨by rw [← ez]; simpa [ZV.cs] using c0, ?_⟩, hz⟩
      have e := add_two a (i * 2) 1 (by omega)
      rw [← e]
      simpa [ZV.cs] using c1
    obtain ⟨F, hF⟩ : ∃ F : Nat → ZV, ∀ i, i < len → HdAt W a i (F i) ∧ ZIn W (F i) := by
      refine ⟨fun i => if h : i < len then (key i h).choose else ⟨0, none, 0, []⟩, fun i hil => ?_⟩
      simp only [dif_pos hil]
      exact (key i hil).choose_spec
    have all : ∀ y ∈ (List.range len).map F, ZIn W y := fun y hy => by
      obtain ⟨i, hi, rfl⟩ := List.mem_map.1 hy
      exact (hF i (by simpa using hi)).2
    refine ⟨some a, (List.range len).map F, cap, by rw [e]; simp, ⟨fun t ht => ⟨a, rfl, ?_⟩, fun y hy => ⟨(all y hy).1, trivial⟩⟩, fun q => by (cases q), ⟨by unfold maxLen at hm; simp; omega, fun y hy => by have := (all y hy).2.1; unfold maxLen at this; omega⟩, fun y hy => (all y hy).2.2, by simp; omega⟩
    simp at ht
    simp only [List.getElem_map, List.getElem_range]
    exact (hF t ht).1

set_option maxRecDepth 100000 in
theorem open_zones_arg {H : Type} {enc : TypeId × Value → H} {W : World} {base : Nat} {sp : Nat → Bool} {held : Bool} {r : Reach} {b0 : Nat} {v : Value} {d : DataW H} {p : List MemPlace}
    (hv : Value.okWide Tryz.prog W r b0 22 v) (h : DataW.Trod enc Tryz.prog W base sp held 22 v d p) :
    ∃ (ao : Option Addr) (L : List ZV) (cap : Nat), v = .slice ao L.length cap ∧ RdW W ao L ∧ (ao = none → cap = 0) ∧ (L.length ≤ 9223372036854775807 ∧ ∀ z ∈ L, z.l.length ≤ 9223372036854775807) ∧ (∀ z ∈ L, z.a = none → z.c = 0) ∧ L.length ≤ cap := by
  obtain ⟨n, hn⟩ := trod_slice1 Tryz.underlying22 hv h
  exact open_zones hn
end Go.Proofs.YtaegiihkgicdnaaGreat
