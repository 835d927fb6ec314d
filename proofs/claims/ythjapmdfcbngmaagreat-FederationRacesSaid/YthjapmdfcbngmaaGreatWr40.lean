/- A part. -/
import Derived.Test.YthjapmdfcbngmaaGreatWr37
import Derived.Test.YthjapmdfcbngmaaGreatWr36
import Derived.Test.YthjapmdfcbngmaaGreatWr19
import Derived.Test.YthjapmdfcbngmaaGreatWr14
import Derived.ProofKit
import Derived.Lib.SmallJoins
import Derived.Deep.Slices
import Derived.Test.YthjapmdfcbngmaaGreatWr13
namespace Go.Proofs.YthjapmdfcbngmaaGreat
set_option maxHeartbeats 16000000
open Go.RowKit
theorem RdW.strong {A : World} {go : Option Addr} {L : List ZV} (h : RdW A go L) (hz : ∀ z ∈ L, z.l ≠ []) : RdZ 0 A go L :=
 ⟨h.hd, fun z hm => ⟨(h.el z hm).1, fun p e => by
  obtain ⟨a, ea, hR⟩ := (h.el z hm).1 (hz z hm)
  rw [e] at ea; cases ea
  have := hR 0 (List.length_pos_iff.2 (hz z hm))
  have lt := World.block_lt_of_cell? A _ this
  rw [add_block] at lt
  exact ⟨Nat.zero_le _, lt⟩⟩⟩
theorem chk_ne {L : List ZV} (h : ∀ z ∈ L, chkE z.N z.l = 0) : ∀ z ∈ L, z.l ≠ [] := fun z hz => by
 obtain ⟨n, _, _, _, hne⟩ := chk_ok (h z hz)
 exact hne
theorem RdW.both {w : World} {L M : List ZV} {go ho : Option Addr} (hL : RdW w go L) (hM : RdW w ho M) (h : chkG [L.map ZV.p, M.map ZV.p] = 0) : RdZ 0 w go L ∧ RdZ 0 w ho M := by
 have k := chk_each (G := [L, M]) (by simpa using h)
 exact ⟨hL.strong (chk_ne (k L (by simp))), hM.strong (chk_ne (k M (by simp)))⟩
def RsL (r : List Zp × Int) (w : World) (e : Ending) (w' : World) : Prop :=
 Below w.heap.size w w' ∧ ∃ ao cap L, e = .returned (.tuple #[.slice ao L.length cap, .int .i64 r.2]) ∧ RdZ 0 w' ao L ∧ L.map ZV.p = (if r.2 = 0 then r.1 else []) ∧ L.length ≤ 1000000
theorem rs_nil {w w' : World} {r : List Zp × Int} (hb : Below w.heap.size w w') (h : r.2 ≠ 0) : RsL r w (.returned (.tuple #[.slice none 0 0, .int .i64 r.2])) w' :=
 ⟨hb, none, 0, [], rfl, ⟨fun t ht => by simp at ht, fun z hz => by simp at hz⟩, by rw [if_neg h]; rfl, by simp⟩
theorem RfRes.rs {r : List Zp × Int} {w : World} {e : Ending} {w' : World} (h : RfRes r w e w') : RsL r w e w' := by
 obtain ⟨h1, ao, cap, L, rfl, h2, h3, h4⟩ := h
 exact ⟨h1, ao, cap, L, rfl, h2.rd.1, h3, by omega⟩
theorem RfNew.rs {r : List Zp × Int} {w : World} {e : Ending} {w' : World} (h : RfNew r w e w') : RsL r w e w' := by
 obtain ⟨h1, ao, cap, L, rfl, h2, h3, h4⟩ := h
 exact ⟨h1, ao, cap, L, rfl, h2.rd.1.low (Nat.zero_le _), h3, by omega⟩
theorem ansE_bad {G : List (List Zp)} {e : Int} (h : chkG G ≠ 0) : ansE G e = chkG G := if_neg h
theorem two_listsW {L M : List ZV} {go ho : Option Addr} {gc hc : Nat} {w w3 : World} (hL : RdW w go L) (hM : RdW w ho M) (h1 : go = none → gc = 0) (h2 : ho = none → hc = 0)
  (hw : w3 = ((w.alloc (.cells #[.slice go L.length gc] 22)).alloc (.cells #[.slice ho M.length hc] 22)).alloc (.cells #[.slice go L.length gc, .slice ho M.length hc] 22)) :
  Below w.heap.size w w3 ∧ Bx1 w3 w.heap.size (.slice go L.length gc) 22 ∧ Bx1 w3 (w.heap.size + 1) (.slice ho M.length hc) 22 ∧ RdGW w3 (some ⟨w.heap.size + 2, 0, none⟩) [L, M] := by
 have B : Below w.heap.size w w3 := by rw [hw]; exact past_three (Below.refl _ _)
 have X2 : Bx2 w3 (w.heap.size + 2) (.slice go L.length gc) (.slice ho M.length hc) 22 := by
  rw [hw]
  have := Bx2.made ((w.alloc (.cells #[.slice go L.length gc] 22)).alloc (.cells #[.slice ho M.length hc] 22)) (.slice go L.length gc) (.slice ho M.length hc) 22
  rw [World.size_alloc, World.size_alloc] at this
  exact this
 obtain ⟨x0, x1, _, _⟩ := X2.facts
 refine ⟨B, ?_, ?_, ⟨fun t ht => ?_⟩⟩
 · rw [hw]; exact ((Bx1.made w _ _).kept (one_more _)).kept (one_more _)
 · rw [hw]
   have := Bx1.made (w.alloc (.cells #[.slice go L.length gc] 22)) (.slice ho M.length hc) 22
   rw [World.size_alloc] at this
   exact this.kept (one_more _)
 · match t, ht with
   | 0, _ => exact ⟨_, go, gc, rfl, by rw [addr_add]; exact x0, hL.on B, h1⟩
   | 1, _ => exact ⟨_, ho, hc, rfl, by rw [addr_add]; exact x1, hM.on B, h2⟩
set_option maxRecDepth 100000 in
theorem fwithinW_out (L M : List ZV) (go ho : Option Addr) (gc hc : Nat) (w : World) (hL : RdW w go L) (hM : RdW w ho M) (h1 : go = none → gc = 0) (h2 : ho = none → hc = 0) (hl : L.length ≤ 3000) (hm : M.length ≤ 3000) :
  Calls Tryz.prog 27 #[.slice go L.length gc, .slice ho M.length hc] w (FLRes (wtR (L.map ZV.p) (M.map ZV.p)) w) := by
 obtain ⟨w3, hw3⟩ : ∃ w3, w3 = ((w.alloc (.cells #[.slice go L.length gc] 22)).alloc (.cells #[.slice ho M.length hc] 22)).alloc (.cells #[.slice go L.length gc, .slice ho M.length hc] 22) := ⟨_, rfl⟩
 obtain ⟨t1, t2, t3, t4⟩ := two_listsW hL hM h1 h2 hw3
 have B3 := Lib.hid t1
 have LX := Lib.hid (show ansE [L.map ZV.p, M.map ZV.p] (colE (wiS (L.map ZV.p) (M.map ZV.p)).1 (wiS (L.map ZV.p) (M.map ZV.p)).2) = 0 → ((wiS (L.map ZV.p) (M.map ZV.p)).1).length ≤ 1000000 from fun h => by have := colE_len (ansE_zero h).2; omega)
 have AN := Lib.hid (answerLW_any 67 #[.pointer (some ⟨w.heap.size, 0, none⟩), .pointer (some ⟨w.heap.size + 1, 0, none⟩)] [L, M] (some ⟨w.heap.size + 2, 0, none⟩) 2 (colE (wiS (L.map ZV.p) (M.map ZV.p)).1 (wiS (L.map ZV.p) (M.map ZV.p)).2) w3 t4 (by simp) (by intro X hX; simp at hX; rcases hX with rfl | rfl <;> assumption) (fclosure _ Tryz.func67 (by kernel_rfl) rfl) (NewL (wiS (L.map ZV.p) (M.map ZV.p)).1) (newL_put) (fun hc0 W hW => have k := ((hL.on t1).on hW).both ((hM.on t1).on hW) hc0; fwithin1_any L M go ho gc hc w.heap.size (w.heap.size + 1) W (t2.kept hW).cell (t3.kept hW).cell k.1 k.2 hl hm hc0))
 simp only [List.map_cons, List.map_nil, List.length_cons, List.length_nil, Nat.zero_add, Nat.reduceAdd] at AN
 generalize hLl : L.length = n at *
 generalize hMl : M.length = k at *
 clear hL hM h1 h2 t1 t2 t3 t4 hl hm hLl hMl
 go_enter Tryz.func27, Tryz.ntmps27
 go_wp2_with fail
 rw [← hw3]
 refine AN.out.mono ?_
 intro e w4 h
 have h := h.fl B3.out LX.out
 obtain ⟨hb, ao, cap, Z, rfl, g1, g2, g3, g4⟩ := h
 have H := Lib.hid (show FLRes (wtR (L.map ZV.p) (M.map ZV.p)) w (.returned (.tuple #[.slice ao Z.length cap, .int .i64 (wtR (L.map ZV.p) (M.map ZV.p)).2])) w4 from ⟨hb, ao, cap, Z, rfl, g1, g2, g3, g4⟩)
 generalize Z.length = zn at *
 clear hb g1 g2 g3 g4 AN
 go_wp2_with fail
 go_ret2
 exact H.out
theorem chkG_one (L : List Zp) : chkG [L] = rchk L := by
 unfold chkG rchk
 simp
theorem two_w {L M : List ZV} {go ho : Option Addr} {gc hc : Nat} {w : World} (hL : RdW w go L) (hM : RdW w ho M) (h1 : go = none → gc = 0) (h2 : ho = none → hc = 0) :
  RdGW (w.alloc (.cells #[.slice go L.length gc, .slice ho M.length hc] 22)) (some ⟨w.heap.size, 0, none⟩) [L, M] := by
 have B : Below w.heap.size w (w.alloc (.cells #[.slice go L.length gc, .slice ho M.length hc] 22)) := one_more _
 obtain ⟨x0, x1, _, _⟩ := (Bx2.made w (.slice go L.length gc) (.slice ho M.length hc) 22).facts
 exact ⟨fun t ht => by
  match t, ht with
  | 0, _ => exact ⟨_, go, gc, rfl, by rw [addr_add]; exact x0, hL.on B, h1⟩
  | 1, _ => exact ⟨_, ho, hc, rfl, by rw [addr_add]; exact x1, hM.on B, h2⟩⟩
set_option maxRecDepth 100000 in
theorem beyondW_any (most : Nat) (G : List (List ZV)) (go : Option Addr) (gc : Nat) (w : World) (hG : RdGW w go G) (hgl : G.length ≤ 10) (hl : ∀ L ∈ G, L.length ≤ 9223372036854775807 ∧ ∀ z ∈ L, z.l.length ≤ 9223372036854775807) :
  Calls Tryz.prog 8 #[.int .i64 most, .slice go G.length gc] w (BeRes G w) := by
 have HG := Lib.hid hG
 have LL := Lib.hid hl
 obtain ⟨m, hm⟩ : ∃ m, m = G.length := ⟨_, rfl⟩
 have HM := Lib.hid hm
 have hm10 : m ≤ 10 := by omega
 rw [← hm]
 clear hG hgl hl hm
 go_enter Tryz.func8, Tryz.ntmps8
 go_wp2_with fail
 go_loopw [5] (fun s wr => ∃ j : Nat, j ≤ m ∧ s = .int .i64 j ∧ wr = w ∧ Hid (∀ t, ∀ h : t < G.length, t < j → Fine G[t])) (fun s _ => m - (intOf s).toNat)
 case atStart => exact ⟨0, by omega, rfl, rfl, Lib.hid (fun t h q => by omega)⟩
 case round =>
  obtain ⟨j, hj, rfl, hw, HF⟩ := hrel
  rw [hw]
  clear hw
  by_cases hjm : j < m
  · have hlt : j < G.length := by have := HM.out; omega
    have HLT := Lib.hid hlt
    obtain ⟨p, a, c, ep, f, r, _⟩ := HG.out.hd j hlt
    obtain ⟨k, hk⟩ : ∃ k, k = (G[j]'hlt).length := ⟨_, rfl⟩
    have kle := (LL.out _ (List.getElem_mem hlt)).1
    rw [← hk] at kle
    have f2 : w.cell? (p.add j) = some (.slice a k c) := by rw [hk]; exact f
    have HK := Lib.hid (show k = (G[j]'HLT.out).length from hk)
    have RR := Lib.hid (show RdW w a (G[j]'HLT.out) from r)
    clear r hk hlt f
    subst ep
    by_cases c3 : 3000 < k
    · have d3 : (3000 : Int) < k := by omega
      have d2 : ¬ (k : Int) ≤ 2000 := by omega
      by_cases c1 : (most : Int) < k
      · go_wp2_with fail
        go_ret
        exact ⟨Below.refl _ _, true, rfl, fun h => by cases h⟩
      · go_wp2_with fail
        go_ret
        exact ⟨Below.refl _ _, true, rfl, fun h => by cases h⟩
    · have d3 : ¬ (3000 : Int) < k := by omega
      by_cases c12 : most < k ∧ k ≤ 2000
      · have c1 : (most : Int) < k := by omega
        have c2 : (k : Int) ≤ 2000 := by omega
        go_wp2_with fail
        go_ret
        exact ⟨Below.refl _ _, true, rfl, fun h => by cases h⟩
      · by_cases c1n : most < k
        · have c1 : (most : Int) < k := by omega
          have c2 : ¬ (k : Int) ≤ 2000 := by omega
          go_wp2_with fail
          go_loopw [6] (fun s wr => ∃ u : Nat, u ≤ k ∧ s = .int .i64 u ∧ wr = w ∧ Hid (∀ t, ∀ h : t < (G[j]'HLT.out).length, t < u → ((G[j]'HLT.out)[t]).l.length ≤ 200)) (fun s _ => k - (intOf s).toNat)
          case atStart => exact ⟨0, by omega, rfl, rfl, Lib.hid (fun t h q => by omega)⟩
          case round =>
           obtain ⟨u, hu, rfl, hw, HU⟩ := hrel
           rw [hw]
           clear hw
           by_cases huk : u < k
           · have hlt : u < (G[j]'HLT.out).length := by have := HK.out; omega
             obtain ⟨x, hx⟩ : ∃ x, x = (G[j]'HLT.out)[u] := ⟨_, rfl⟩
             have XM := Lib.hid (show x ∈ G[j]'HLT.out by rw [hx]; exact List.getElem_mem _)
             obtain ⟨q, eq, h0, h1⟩ := RR.out.hd u hlt
             rw [← hx] at h0 h1
             obtain ⟨xl, hxl⟩ : ∃ xl, xl = x.l.length := ⟨_, rfl⟩
             rw [← hxl] at h1
             have xle := (LL.out _ (List.getElem_mem HLT.out)).2 x XM.out
             rw [← hxl] at xle
             have XL := Lib.hid (show ∀ h : u < (G[j]'HLT.out).length, xl = ((G[j]'HLT.out)[u]'h).l.length from fun h => by rw [hxl, hx])
             clear hx hxl hlt
             subst eq
             by_cases d1 : 200 < xl
             · have e1 : (200 : Int) < xl := by omega
               go_wp2_with fail
               go_ret
               exact ⟨Below.refl _ _, true, rfl, fun h => by cases h⟩
             · have e1 : ¬ (200 : Int) < xl := by omega
               have D1 := Lib.hid d1
               by_cases d2 : 2 < k
               · have e2 : (2 : Int) < k := by omega
                 by_cases d3 : k ≤ 2000
                 · omega
                 · have e3 : ¬ (k : Int) ≤ 2000 := by omega
                   go_wp2_with fail
                   go_roundw
                   case rel => exact ⟨u + 1, by omega, by go_num, trivial, Lib.hid (fun t h q => by
                    by_cases e : t = u
                    · subst e; have := XL.out h; have := D1.out; omega
                    · exact HU.out t h (by omega))⟩
                   case measure => simp [intOf]; omega
               · omega
           · have FJ := Lib.hid (show ∀ t, ∀ h : t < G.length, t < j + 1 → Fine G[t] from fun t h q => by
              by_cases e : t = j
              · subst e
                refine ⟨by have := HK.out; omega, fun z hz => ?_⟩
                obtain ⟨i, hi, rfl⟩ := List.getElem_of_mem hz
                exact HU.out i hi (by have := HK.out; omega)
              · exact HF.out t h (by omega))
             go_wp2_with fail
             go_roundw
             case rel => exact ⟨j + 1, by omega, by go_num, trivial, FJ⟩
             case measure => simp [intOf]; omega
        · have c1 : ¬ (most : Int) < k := by omega
          go_wp2_with fail
          go_loopw [6] (fun s wr => ∃ u : Nat, u ≤ k ∧ s = .int .i64 u ∧ wr = w ∧ Hid (∀ t, ∀ h : t < (G[j]'HLT.out).length, t < u → ((G[j]'HLT.out)[t]).l.length ≤ 200)) (fun s _ => k - (intOf s).toNat)
          case atStart => exact ⟨0, by omega, rfl, rfl, Lib.hid (fun t h q => by omega)⟩
          case round =>
           obtain ⟨u, hu, rfl, hw, HU⟩ := hrel
           rw [hw]
           clear hw
           by_cases huk : u < k
           · have hlt : u < (G[j]'HLT.out).length := by have := HK.out; omega
             obtain ⟨x, hx⟩ : ∃ x, x = (G[j]'HLT.out)[u] := ⟨_, rfl⟩
             have XM := Lib.hid (show x ∈ G[j]'HLT.out by rw [hx]; exact List.getElem_mem _)
             obtain ⟨q, eq, h0, h1⟩ := RR.out.hd u hlt
             rw [← hx] at h0 h1
             obtain ⟨xl, hxl⟩ : ∃ xl, xl = x.l.length := ⟨_, rfl⟩
             rw [← hxl] at h1
             have xle := (LL.out _ (List.getElem_mem HLT.out)).2 x XM.out
             rw [← hxl] at xle
             have XL := Lib.hid (show ∀ h : u < (G[j]'HLT.out).length, xl = ((G[j]'HLT.out)[u]'h).l.length from fun h => by rw [hxl, hx])
             clear hx hxl hlt
             subst eq
             by_cases d1 : 200 < xl
             · have e1 : (200 : Int) < xl := by omega
               go_wp2_with fail
               go_ret
               exact ⟨Below.refl _ _, true, rfl, fun h => by cases h⟩
             · have e1 : ¬ (200 : Int) < xl := by omega
               have D1 := Lib.hid d1
               by_cases d2 : 2 < k
               · have e2 : (2 : Int) < k := by omega
                 by_cases d3 : k ≤ 2000
                 · have e3 : (k : Int) ≤ 2000 := by omega
                   by_cases d4 : 16 < xl
                   · have e4 : (16 : Int) < xl := by omega
                     go_wp2_with fail
                     go_ret
                     exact ⟨Below.refl _ _, true, rfl, fun h => by cases h⟩
                   · have e4 : ¬ (16 : Int) < xl := by omega
                     go_wp2_with fail
                     go_roundw
                     case rel => exact ⟨u + 1, by omega, by go_num, trivial, Lib.hid (fun t h q => by
                      by_cases e : t = u
                      · subst e; have := XL.out h; have := D1.out; omega
                      · exact HU.out t h (by omega))⟩
                     case measure => simp [intOf]; omega
                 · have e3 : ¬ (k : Int) ≤ 2000 := by omega
                   go_wp2_with fail
                   go_roundw
                   case rel => exact ⟨u + 1, by omega, by go_num, trivial, Lib.hid (fun t h q => by
                    by_cases e : t = u
                    · subst e; have := XL.out h; have := D1.out; omega
                    · exact HU.out t h (by omega))⟩
                   case measure => simp [intOf]; omega
               · have e2 : ¬ (2 : Int) < k := by omega
                 go_wp2_with fail
                 go_roundw
                 case rel => exact ⟨u + 1, by omega, by go_num, trivial, Lib.hid (fun t h q => by
                  by_cases e : t = u
                  · subst e; have := XL.out h; have := D1.out; omega
                  · exact HU.out t h (by omega))⟩
                 case measure => simp [intOf]; omega
           · have FJ := Lib.hid (show ∀ t, ∀ h : t < G.length, t < j + 1 → Fine G[t] from fun t h q => by
              by_cases e : t = j
              · subst e
                refine ⟨by have := HK.out; omega, fun z hz => ?_⟩
                obtain ⟨i, hi, rfl⟩ := List.getElem_of_mem hz
                exact HU.out i hi (by have := HK.out; omega)
              · exact HF.out t h (by omega))
             go_wp2_with fail
             go_roundw
             case rel => exact ⟨j + 1, by omega, by go_num, trivial, FJ⟩
             case measure => simp [intOf]; omega
  · have FE := Lib.hid (show ∀ L ∈ G, Fine L from fun L hL => by
     obtain ⟨t, ht, rfl⟩ := List.getElem_of_mem hL
     exact HF.out t ht (by have := HM.out; omega))
    clear HF
    go_wp2_with fail
    go_ret
    exact ⟨Below.refl _ _, false, rfl, fun _ => FE.out⟩
def hsL (ps : List Pq) : List Zp → Bool × Int
 | [] => (false, 0)
 | z :: r => if rdE z.1 z.2 ps = 0 ∧ hsR z.1 z.2 ps = false then hsL ps r else (hsR z.1 z.2 ps, rdE z.1 z.2 ps)
def hsF (ps : List Pq) (L : List Zp) : Bool × Int := if rchk L = 0 then hsL ps L else (false, rchk L)
theorem hsL_go {ps : List Pq} {L : List Zp} {t : Nat} (ht : t < L.length) (h : rdE L[t].1 L[t].2 ps = 0 ∧ hsR L[t].1 L[t].2 ps = false) : hsL ps (L.drop t) = hsL ps (L.drop (t + 1)) := by
 rw [List.drop_eq_getElem_cons ht]
 exact if_pos h
theorem hsL_stop {ps : List Pq} {L : List Zp} {t : Nat} (ht : t < L.length) (h : ¬ (rdE L[t].1 L[t].2 ps = 0 ∧ hsR L[t].1 L[t].2 ps = false)) : hsL ps (L.drop t) = (hsR L[t].1 L[t].2 ps, rdE L[t].1 L[t].2 ps) := by
 rw [List.drop_eq_getElem_cons ht]
 exact if_neg h
set_option maxRecDepth 100000 in
theorem rhasW_any (L : List ZV) (go : Option Addr) (gc : Nat) (ps : List Pq) (po : Option Addr) (pc : Nat) (w : World) (hL : RdW w go L) (hl : L.length ≤ 1000000) (hP : Arg2 w po ps) (hI : Fits ps) :
  Calls Tryz.prog 30 #[.slice go L.length gc, .slice po ps.length pc] w (Made (.tuple #[.bool (hsF ps (L.map ZV.p)).1, .int .i64 (hsF ps (L.map ZV.p)).2]) w) := by
 have RL := Lib.hid hL
 have HP := Lib.hid hP
 have FI := Lib.hid hI
 obtain ⟨n, hn⟩ : ∃ n, n = L.length := ⟨_, rfl⟩
 obtain ⟨pn, hpn⟩ : ∃ pn, pn = ps.length := ⟨_, rfl⟩
 have HN := Lib.hid hn
 have HPN := Lib.hid hpn
 have BO := Lib.hid (show ∀ W, Below w.heap.size w W → Calls Tryz.prog 12 #[.slice go n gc] W (Made (.int .i64 (rchk (L.map ZV.p))) W) from fun W h => by rw [hn]; exact rcheckW_any L go gc W (hL.on h) hl)
 have nle : n ≤ 1000000 := by omega
 rw [← hn, ← hpn]
 clear hL hl hn hP hI hpn
 obtain ⟨c, hc0⟩ : ∃ c, c = rchk (L.map ZV.p) := ⟨_, rfl⟩
 have HC := Lib.hid hc0
 rw [← hc0] at BO
 clear hc0
 go_enter Tryz.func30, Tryz.ntmps30
 go_wp2_with fail
 refine (BO.out _ (Below.refl _ _)).mono ?_
 rintro e w1 ⟨rfl, hb⟩
 have B1 := Lib.hid hb
 clear hb
 by_cases h0 : c = 0
 · have h0b : (c != 0) = false := by simp [h0]
   have EV := Lib.hid (show hsF ps (L.map ZV.p) = hsL ps (L.map ZV.p) from by unfold hsF; rw [← HC.out, if_pos h0])
   clear h0
   go_wp2_with fail
   go_loopw [7] (fun i wr => ∃ t : Nat, i = .int .i64 t ∧ t ≤ n ∧ Hid (Below w.heap.size w wr ∧ hsL ps ((L.map ZV.p).drop t) = hsL ps (L.map ZV.p))) (fun i _ => n - (intOf i).toNat)
   case atStart => exact ⟨0, rfl, by omega, Lib.hid ⟨B1.out, rfl⟩⟩
   case round =>
    generalize wr = wo at *
    obtain ⟨t, rfl, ht, HI⟩ := hrel
    obtain ⟨be, eq⟩ := HI.out
    have BE := Lib.hid be
    have EQ := Lib.hid eq
    clear be eq HI
    by_cases htn : t < n
    · obtain ⟨x, hx⟩ : ∃ x, x = L[t]'(by have := HN.out; omega) := ⟨_, rfl⟩
      have HLT := Lib.hid (show t < (L.map ZV.p).length by have := HN.out; simpa using (show t < L.length by omega))
      have XP := Lib.hid (show (L.map ZV.p)[t]'HLT.out = x.p by rw [hx]; simp)
      have HX := Lib.hid (show ZW wo x from (RL.out.el x (by rw [hx]; exact List.getElem_mem _)).on BE.out)
      obtain ⟨a, ea, h0, h1⟩ := (RL.out.on BE.out).hd t (by have := HN.out; omega)
      rw [← hx] at h0 h1
      obtain ⟨xl, hxl⟩ : ∃ xl, xl = x.l.length := ⟨_, rfl⟩
      obtain ⟨bb, hbb⟩ : ∃ bb, bb = hsR x.N x.l ps := ⟨_, rfl⟩
      obtain ⟨er, her⟩ : ∃ er, er = rdE x.N x.l ps := ⟨_, rfl⟩
      have HS := Lib.hid (show Calls Tryz.prog 75 #[.agg #[.int .i64 x.N, .slice x.a xl x.c], .slice po pn pc] wo (Made (.tuple #[.bool bb, .int .i64 er]) wo) from by
       rw [hxl, hbb, her, HPN.out]
       exact has_gen x.N x.l x.a x.c ps po pc wo HX.out.1 (HP.out.on BE.out) FI.out)
      have GO := Lib.hid (show (er = 0 ∧ bb = false) → hsL ps ((L.map ZV.p).drop (t + 1)) = hsL ps (L.map ZV.p) from fun h => by
       rw [← EQ.out]
       refine (hsL_go HLT.out ?_).symm
       rw [XP.out]
       rw [hbb, her] at h
       exact h)
      have ST := Lib.hid (show ¬ (er = 0 ∧ bb = false) → hsF ps (L.map ZV.p) = (bb, er) from fun h => by
       rw [EV.out, ← EQ.out, hsL_stop HLT.out (by rw [XP.out]; rw [hbb, her] at h; exact h), hbb, her, XP.out]; rfl)
      rw [← hxl] at h1
      clear hx hxl hbb her
      subst ea
      go_wp2_with fail
      refine HS.out.mono ?_
      rintro e wd ⟨rfl, hb⟩
      have BD := Lib.hid (below_on BE.out hb)
      clear hb h0 h1 HS
      by_cases he : er = 0
      · have heb : (er != 0) = false := by simp [he]
        cases bb with
        | false =>
         have G := Lib.hid (GO.out ⟨he, rfl⟩)
         clear GO ST he
         go_wp2_with fail
         go_roundw
         case rel => exact ⟨t + 1, by go_num, by omega, Lib.hid ⟨BD.out, G.out⟩⟩
         case measure => simp [intOf]; omega
        | true =>
         have G := Lib.hid (ST.out (fun h => Bool.noConfusion h.2))
         clear GO ST he
         go_wp2_with fail
         go_ret2
         exact ⟨by rw [G.out]; rfl, BD.out⟩
      · have heb : (er != 0) = true := by simpa using he
        have G := Lib.hid (ST.out (fun h => he h.1))
        clear GO ST he
        go_wp2_with fail
        go_ret2
        exact ⟨by rw [G.out]; rfl, BD.out⟩
    · have e : (L.map ZV.p).drop t = [] := List.drop_eq_nil_of_le (by have := HN.out; simp; omega)
      have G := Lib.hid (show hsF ps (L.map ZV.p) = (false, 0) from by rw [EV.out, ← EQ.out, e]; rfl)
      clear e
      go_wp2_with fail
      go_ret2
      exact ⟨by rw [G.out]; rfl, BE.out⟩
 · have h0b : (c != 0) = true := by simpa using h0
   have G := Lib.hid (show hsF ps (L.map ZV.p) = (false, c) from by unfold hsF; rw [← HC.out, if_neg h0])
   clear h0
   go_wp2_with fail
   go_ret2
   exact ⟨by rw [G.out]; rfl, B1.out⟩
end Go.Proofs.YthjapmdfcbngmaaGreat
namespace Go.Proofs.YthjapmdfcbngmaaGreat
open Go.ChangeShapes Go.WideShapes Go.ChangeAt Go.RowKit Go.Joins Go.Deep
theorem Tryz.own : ownKnob Tryz.prog.godebug = none := by kernel_rfl
theorem Tryz.laidOut : laidOutB Tryz.prog = true := by kernel_rfl
theorem trodAll_stays {H : Type} {enc : TypeId × Value → H} {W W' : World} {sp : Nat → Bool} : ∀ {ts : List TypeId} {vs : List Value} {ds : List (DataW H)} {ps : List MemPlace}, (∀ t ∈ ts, Tryz.prog.readableRec t = true ∧ t < Tryz.prog.types.size) →
  DataW.TrodAll enc Tryz.prog W 0 (fun _ => true) true ts vs ds ps → (∀ p ∈ ps, W.sameAt W' p) → (∀ p ∈ ps, sp p.block = true) → DataW.TrodAll enc Tryz.prog W' 0 sp true ts vs ds ps
 | [], [], [], _, _, h, _, _ => h
 | [], [], _ :: _, _, _, h, _, _ => h.elim
 | [], _ :: _, _, _, _, h, _, _ => h.elim
 | _ :: _, [], _, _, _, h, _, _ => h.elim
 | _ :: _, _ :: _, [], _, _, h, _, _ => h.elim
 | t :: ts, v :: vs, d :: ds, ps, ht, h, h1, h2 => by
  obtain ⟨p, q, ha, hb, rfl⟩ := h
  obtain ⟨r1, r2⟩ := ht t (List.mem_cons_self ..)
  exact ⟨p, q, WideElems.Trod_stays Tryz.laidOut r1 r2 ha (fun x hx => h1 x (List.mem_append_left _ hx)) (fun x hx => h2 x (List.mem_append_left _ hx)),
   trodAll_stays (fun t ht' => ht t (List.mem_cons_of_mem _ ht')) hb (fun x hx => h1 x (List.mem_append_right _ hx)) (fun x hx => h2 x (List.mem_append_right _ hx)), rfl⟩
set_option maxRecDepth 100000 in
theorem post_law {H : Type} {enc : TypeId × Value → H} {f : Func} {s : ChangeSpec} {apart fresh handsOn again : Bool} {W W' : World} {args : Array Value} {ds gs : List (DataW H)} {before : List MemPlace}
  (hW : DataW.Whole enc Tryz.prog f.params.toList s.vars apart W args.toList ds gs before) (hv : s.vars = []) (hb : Below W.heap.size W W')
  (ht : ∀ t ∈ f.params.toList, Tryz.prog.readableRec t = true ∧ t < Tryz.prog.types.size)
  (hr : f.resultTypes.toList = [4]) (hs : f.resultTypes.size = 1) (hs1 : f.resultTypes[0]? = some 4)
  (hres : (s.fn H ds).results = [.lit (.bool true)]) (hargs : (s.fn H ds).args = ds) (hvars : (s.fn H ds).vars = []) :
  s.post enc Tryz.prog f apart fresh handsOn again W args (.bool true) W' := by
 have hlt : ∀ p ∈ before, p.block < W.heap.size := fun p hp => hW.lt p hp
 have hW0 := hW
 obtain ⟨p, q, hA, hV, rfl, hz, hn⟩ := hW
 rw [hv] at hV
 obtain ⟨rfl, rfl⟩ := trodVars_none hV
 simp only [List.append_nil] at hlt hz hn hW0
 have key : ∀ sp : Nat → Bool, (∀ x ∈ p, sp x.block = true) → DataW.TrodAll enc Tryz.prog W' 0 sp true f.params.toList args.toList ds p := fun sp hsp =>
  trodAll_stays ht hA (fun x hx => hb.same (hlt x hx)) hsp
 have res : ∀ (b : Nat) (sp : Nat → Bool) (hd : Bool), DataW.TrodAll enc Tryz.prog W' b sp hd f.resultTypes.toList ((Value.bool true).resultList f.resultTypes.size) [.lit (.bool true)] [] := fun b sp hd => by
  rw [hr, hs]
  exact trodAll_mk1 (shut_bool Tryz.underlying4 _)
 have none : ∀ sp : Nat → Bool, DataW.TrodVars enc Tryz.prog W' sp s.vars (s.fn H (ds ++ [])).vars [] := fun sp => by
  rw [hv, List.append_nil, hvars]; rfl
 have kA : ∀ sp : Nat → Bool, (∀ x ∈ p, sp x.block = true) → DataW.TrodAll enc Tryz.prog W' 0 sp true f.params.toList args.toList (s.fn H (ds ++ [])).args p := fun sp hsp => by
  rw [List.append_nil, hargs]; exact key sp hsp
 have kR : ∀ (b : Nat) (sp : Nat → Bool) (hd : Bool), DataW.TrodAll enc Tryz.prog W' b sp hd f.resultTypes.toList ((Value.bool true).resultList f.resultTypes.size) (s.fn H (ds ++ [])).results [] := fun b sp hd => by
  rw [List.append_nil, hres]; exact res b sp hd
 refine ⟨ds, [], p, [], p, [], by simpa using hW0, kR _ _ _, ?_, none _, ?_, fun _ => ?_⟩
 · exact kA _ (fun x hx => by simpa using hlt x hx)
 · exact World.keptBut_mono (fun x hx => ⟨hx, by simpa using hx⟩) (hb.frame (· ∈ p))
 · refine ⟨?_, _, _, ([] ++ p) ++ [], ⟨[] ++ p, [], trodAll_append (kA _ (fun _ _ => rfl)) (kR _ _ _), none _, rfl, ?_, ?_⟩, ?_⟩
   · intro j t r h1 h2
     rw [hs] at h2
     cases j with
     | zero =>
      rw [hs1] at h1
      simp [Value.resultList] at h2
      subst h2
      have e := Option.some.inj h1
      rw [← e]
      exact okWide_bool_mk Tryz.underlying4 _
     | succ j => rw [Array.getElem?_eq_none (by omega)] at h1; cases h1
   · intro b off hp
     have hin : MemPlace.cell b off ∈ p := by simpa using hp
     rw [hb.frozen (hlt _ hin)]
     exact hz b off hin
   · intro ha
     simpa using hn ha
   · intro x hx _
     simpa using hx
theorem Tryz.cells37 : Tryz.prog.cellsOf 37 = 1 := by kernel_rfl
theorem Tryz.cells34 : Tryz.prog.cellsOf 34 = 1 := by kernel_rfl
theorem Tryz.cells3 : Tryz.prog.cellsOf 3 = 1 := by kernel_rfl
theorem Tryz.cells36 : Tryz.prog.cellsOf 36 = 2 := by kernel_rfl
theorem wf_i64 {n : Int} (h : (Lit.int .i64 n).wf = true) : I64 n := by
 simp [Lit.wf, IntKind.min, IntKind.max, IntKind.signed, IntKind.bits] at h
 exact ⟨by omega, by omega⟩
theorem add_two (a : Addr) (k j : Nat) (hj : 0 < j) : (a.add k).add j = ⟨(a.add k).block, (a.add k).off + j, none⟩ := by
 generalize a.add k = b
 unfold Addr.add
 rw [if_neg (by omega)]
set_option maxRecDepth 100000 in
theorem trod_slice1 {H : Type} {enc : TypeId × Value → H} {W : World} {base : Nat} {sp : Nat → Bool} {held : Bool} {r : Reach} {b0 : Nat} {t e : TypeId} {v : Value} {d : DataW H} {p : List MemPlace} (ht : Tryz.prog.underlying t = some (.slice e))
  (hv : Value.okWide Tryz.prog W r b0 t v) (h : DataW.Trod enc Tryz.prog W base sp held t v d p) : ∃ n, DataW.trod enc Tryz.prog W base sp held n t [v] = some (d, p) := by
 obtain ⟨n, hn⟩ := h
 obtain ⟨a, l, c, rfl⟩ := okWide_slice ht hv
 exact ⟨n, hn⟩
theorem open_limits0 {H : Type} {enc : TypeId × Value → H} {W : World} {base fuel : Nat} {sp : Nat → Bool} {held : Bool} {c : Value} {y : DataW H × List MemPlace}
  (h : DataW.trod enc Tryz.prog W base sp held fuel 34 [c] = some y) : ∃ (ao : Option Addr) (l : List Int) (cap : Nat), c = .slice ao l.length cap ∧ Arg W ao l ∧ l.length ≤ maxLen ∧ (ao = none → cap = 0) := by
 rcases open_ints Tryz.underlying34 Tryz.underlying37 Tryz.cells37 h with ⟨e, _⟩ | ⟨a, len, cap, zs, e, _, hl, hm, hz, _, hc, _⟩
 · simp at e
   exact ⟨none, [], 0, by simpa using e, fun q => absurd rfl q, by simp, fun _ => rfl⟩
 · simp at e
   have hlen : len ≤ zs.length := by rw [hz]; split <;> omega
   refine ⟨some a, zs.take len, cap, by rw [e]; simp [hlen], fun _ => ⟨a, rfl, fun j hj => ?_⟩, by simp; omega, fun q => by cases q⟩
   simp at hj
   rw [hc j (by omega)]
   simp [Zo.gt, show j < len by omega]
def ZIn (W : World) (z : ZV) : Prop := Arg W z.a z.l ∧ z.l.length ≤ maxLen ∧ (z.a = none → z.c = 0)
set_option maxRecDepth 100000 in
theorem trod_zone {H : Type} {enc : TypeId × Value → H} {W : World} {base fuel : Nat} {sp : Nat → Bool} {held : Bool} {cs : List Value} {y : DataW H × List MemPlace}
  (h : DataW.trod enc Tryz.prog W base sp held fuel 36 cs = some y) : ∃ z : ZV, cs = z.cs ∧ ZIn W z := by
 obtain ⟨xs, n, _, _, hl, hx, hf⟩ := DataW.trod_struct Tryz.underlying36 h
 rw [Tryz.cells36] at hl
 match cs, hl with
 | [a, b], _ =>
  have g0 := hf 0 _ rfl
  have g1 := hf 1 _ rfl
  match xs, hx with
  | [y0, y1], _ =>
   simp [Tryz.cells3, Tryz.cells34] at g0 g1
   obtain ⟨N, e0, _, _⟩ := DataW.trod_int Tryz.underlying3 g0
   obtain ⟨ao, l, cap, e1, hA, hl, hn⟩ := open_limits0 g1
   simp at e0
   exact ⟨⟨N, ao, cap, l⟩, by rw [e0, e1]; rfl, hA, hl, hn⟩
set_option maxRecDepth 100000 in
theorem open_zones {H : Type} {enc : TypeId × Value → H} {W : World} {base fuel : Nat} {sp : Nat → Bool} {held : Bool} {c : Value} {y : DataW H × List MemPlace}
  (h : DataW.trod enc Tryz.prog W base sp held fuel 22 [c] = some y) :
  ∃ (ao : Option Addr) (L : List ZV) (cap : Nat), c = .slice ao L.length cap ∧ RdW W ao L ∧ (ao = none → cap = 0) ∧ (L.length ≤ 9223372036854775807 ∧ ∀ z ∈ L, z.l.length ≤ 9223372036854775807) ∧ (∀ z ∈ L, z.a = none → z.c = 0) ∧ L.length ≤ cap := by
 rcases open_slice Tryz.underlying22 h with ⟨e, _⟩ | ⟨a, len, cap, m, n, D, Pl, e, _, hl, hm, hmm, _, hi⟩
 · simp at e
   exact ⟨none, [], 0, by simpa using e, ⟨fun t ht => by simp at ht, fun y hy => by simp at hy⟩, fun _ => rfl, ⟨by simp, fun y hy => by simp at hy⟩, fun y hy => by simp at hy, by simp⟩
 · simp at e
   have hlen : len ≤ m := by rw [hmm]; split <;> omega
   have key : ∀ i, i < len → ∃ q : ZV, HdAt W a i q ∧ ZIn W q := fun i hil => by
    obtain ⟨cs', hc, ht⟩ := hi i (by omega)
    rw [Tryz.cells36] at hc
    obtain ⟨z, rfl, hz⟩ := trod_zone ht
    obtain ⟨_, hcl, hat⟩ := World.cells?_some hc
    have c0 := hat 0 (by simp [])
    have c1 := hat 1 (by simp [])
    have ez : (a.add (i * 2)).add 0 = a.add (i * 2) := add_nil2 (a.add (i * 2))
    refine ⟨z, ⟨by rw [← ez]; simpa [ZV.cs] using c0, ?_⟩, hz⟩
    have e := add_two a (i * 2) 1 (by omega)
    rw [← e]
    simpa [ZV.cs] using c1
   obtain ⟨F, hF⟩ : ∃ F : Nat → ZV, ∀ i, i < len → HdAt W a i (F i) ∧ ZIn W (F i) := by
    refine ⟨fun i => if h : i < len then (key i h).choose else ⟨0, none, 0, []⟩, fun i hil => ?_⟩
    simp only [dif_pos hil]
    exact (key i hil).choose_spec
   have all : ∀ y ∈ (List.range len).map F, ZIn W y := fun y hy => by
    obtain ⟨i, hi, rfl⟩ := List.mem_map.1 hy
    exact (hF i (by simpa using hi)).2
   refine ⟨some a, (List.range len).map F, cap, by rw [e]; simp, ⟨fun t ht => ⟨a, rfl, ?_⟩, fun y hy => ⟨(all y hy).1, trivial⟩⟩, fun q => by (cases q), ⟨by unfold maxLen at hm; simp; omega, fun y hy => by have := (all y hy).2.1; unfold maxLen at this; omega⟩, fun y hy => (all y hy).2.2, by simp; omega⟩
   simp at ht
   simp only [List.getElem_map, List.getElem_range]
   exact (hF t ht).1
set_option maxRecDepth 100000 in
theorem open_zones_arg {H : Type} {enc : TypeId × Value → H} {W : World} {base : Nat} {sp : Nat → Bool} {held : Bool} {r : Reach} {b0 : Nat} {v : Value} {d : DataW H} {p : List MemPlace}
  (hv : Value.okWide Tryz.prog W r b0 22 v) (h : DataW.Trod enc Tryz.prog W base sp held 22 v d p) :
  ∃ (ao : Option Addr) (L : List ZV) (cap : Nat), v = .slice ao L.length cap ∧ RdW W ao L ∧ (ao = none → cap = 0) ∧ (L.length ≤ 9223372036854775807 ∧ ∀ z ∈ L, z.l.length ≤ 9223372036854775807) ∧ (∀ z ∈ L, z.a = none → z.c = 0) ∧ L.length ≤ cap := by
 obtain ⟨n, hn⟩ := trod_slice1 Tryz.underlying22 hv h
 exact open_zones hn
theorem Tryz.cells2 : Tryz.prog.cellsOf 2 = 1 := by kernel_rfl
theorem Tryz.cells45 : Tryz.prog.cellsOf 45 = 2 := by kernel_rfl
theorem Tryz.cells40 : Tryz.prog.cellsOf 40 = 1 := by kernel_rfl
theorem Tryz.cells47 : Tryz.prog.cellsOf 47 = 3 := by kernel_rfl
set_option maxRecDepth 100000 in
theorem trod_rat {H : Type} {enc : TypeId × Value → H} {W : World} {base fuel : Nat} {sp : Nat → Bool} {held : Bool} {cs : List Value} {y : DataW H × List MemPlace}
  (h : DataW.trod enc Tryz.prog W base sp held fuel 45 cs = some y) : ∃ i j : Int, cs = [.int .i64 i, .int .i64 j] ∧ I64 i ∧ I64 j := by
 obtain ⟨xs, n, _, _, hl, hx, hf⟩ := DataW.trod_struct Tryz.underlying45 h
 rw [Tryz.cells45] at hl
 match cs, hl with
 | [a, b], _ =>
  have g0 := hf 0 _ rfl
  have g1 := hf 1 _ rfl
  match xs, hx with
  | [y0, y1], _ =>
   simp [Tryz.cells2] at g0 g1
   obtain ⟨i, e0, _, w0⟩ := DataW.trod_int Tryz.underlying2 g0
   obtain ⟨j, e1, _, w1⟩ := DataW.trod_int Tryz.underlying2 g1
   simp at e0 e1
   exact ⟨i, j, by rw [e0, e1], wf_i64 w0, wf_i64 w1⟩
theorem open_rats {H : Type} {enc : TypeId × Value → H} {W : World} {base fuel : Nat} {sp : Nat → Bool} {held : Bool} {c : Value} {y : DataW H × List MemPlace}
  (h : DataW.trod enc Tryz.prog W base sp held fuel 40 [c] = some y) :
  ∃ (ao : Option Addr) (ps : List Pq) (cap : Nat), c = .slice ao ps.length cap ∧ Arg2 W ao ps ∧ ps.length ≤ maxLen ∧ Fits ps ∧ (ao = none → ps = [] ∧ cap = 0) := by
 rcases open_slice Tryz.underlying40 h with ⟨e, _⟩ | ⟨a, len, cap, m, n, D, Pl, e, _, hl, hm, hmm, _, hi⟩
 · simp at e
   exact ⟨none, [], 0, by simpa using e, fun q => absurd rfl q, by simp, fun k hk => by simp at hk, fun _ => ⟨rfl, rfl⟩⟩
 · simp at e
   have hlen : len ≤ m := by rw [hmm]; split <;> omega
   have key : ∀ i, i < len → ∃ q : Pq, (W.cell? (a.add (i * 2)) = some (.int .i64 q.1) ∧ W.cell? ⟨(a.add (i * 2)).block, (a.add (i * 2)).off + 1, none⟩ = some (.int .i64 q.2)) ∧ I64 q.1 ∧ I64 q.2 := fun i hil => by
    obtain ⟨cs', hc, ht⟩ := hi i (by omega)
    rw [Tryz.cells45] at hc
    obtain ⟨x, y, rfl, w0, w1⟩ := trod_rat ht
    obtain ⟨_, hcl, hat⟩ := World.cells?_some hc
    have c0 := hat 0 (by simp)
    have c1 := hat 1 (by simp)
    rw [add_two _ _ _ (by omega)] at c1
    rw [show (a.add (i * 2)).add 0 = a.add (i * 2) by simp [Addr.add]] at c0
    exact ⟨(x, y), ⟨by simpa using c0, by simpa using c1⟩, w0, w1⟩
   obtain ⟨F, hF⟩ : ∃ F : Nat → Pq, ∀ i, i < len → (W.cell? (a.add (i * 2)) = some (.int .i64 (F i).1) ∧ W.cell? ⟨(a.add (i * 2)).block, (a.add (i * 2)).off + 1, none⟩ = some (.int .i64 (F i).2)) ∧ I64 (F i).1 ∧ I64 (F i).2 := by
    refine ⟨fun i => if h : i < len then (key i h).choose else (0, 0), fun i hil => ?_⟩
    simp only [dif_pos hil]
    exact (key i hil).choose_spec
   have hg : ∀ i, i < len → gp ((List.range len).map F) i = F i := fun i hil => by simp [gp, hil]
   refine ⟨some a, (List.range len).map F, cap, by rw [e]; simp, fun _ => ⟨a, rfl, fun j hj => ?_⟩, by simp; omega, fun k hk => ?_, fun q => by cases q⟩
   · simp at hj
     rw [hg j hj]
     exact (hF j hj).1
   · simp at hk
     rw [hg k hk]
     exact (hF k hk).2
set_option maxRecDepth 100000 in
theorem open_race {H : Type} {enc : TypeId × Value → H} {W : World} {base : Nat} {sp : Nat → Bool} {held : Bool} {r : Reach} {b0 : Nat} {v : Value} {d : DataW H} {p : List MemPlace}
  (hv : Value.okWide Tryz.prog W r b0 47 v) (h : DataW.Trod enc Tryz.prog W base sp held 47 v d p) :
  ∃ (ao : Option Addr) (ps : List Pq) (cap : Nat) (dn dd : Int), v = .agg #[.slice ao ps.length cap, .int .i64 dn, .int .i64 dd] ∧ Arg2 W ao ps ∧ ps.length ≤ maxLen ∧ Fits ps ∧ (ao = none → ps = [] ∧ cap = 0) ∧ I64 dn ∧ I64 dd := by
 obtain ⟨xs0, rfl, hsz⟩ := okWide_struct Tryz.underlying47 hv
 obtain ⟨fuel, hf0⟩ := h
 obtain ⟨xs, n, _, _, hl, hx, hf⟩ := DataW.trod_struct Tryz.underlying47 hf0
 rw [Tryz.cells47] at hsz
 match xs0, hsz with
 | ⟨[c0, c1, c2]⟩, _ =>
  have g0 := hf 0 _ rfl
  have g1 := hf 1 _ rfl
  match xs, hx with
  | [y0, y1], _ =>
   simp [Value.cells, Tryz.cells40, Tryz.cells45] at g0 g1
   obtain ⟨ao, ps, cap, e0, hA, hl2, hI, hn⟩ := open_rats g0
   obtain ⟨i, j, e1, w0, w1⟩ := trod_rat g1
   simp at e1
   exact ⟨ao, ps, cap, i, j, by rw [e0, e1.1, e1.2], hA, hl2, hI, hn, w0, w1⟩
end Go.Proofs.YthjapmdfcbngmaaGreat
