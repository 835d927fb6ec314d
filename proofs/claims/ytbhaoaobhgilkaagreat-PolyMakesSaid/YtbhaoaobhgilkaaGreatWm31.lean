/- The contract of package poly's Least.; The contract of package poly's Point.; The contract of package poly's Without.; Plain mathematics: the examples of the statements. -/
import Derived.Test.YtbhaoaobhgilkaaGreatWm26
import Derived.Test.YtbhaoaobhgilkaaGreatWm3
import Derived.Test.YtbhaoaobhgilkaaGreatWm24
import Derived.Test.YtbhaoaobhgilkaaGreatWm13
import Derived.Test.YtbhaoaobhgilkaaGreatWm18
import Derived.Test.YtbhaoaobhgilkaaGreatWm17
import Derived.Test.YtbhaoaobhgilkaaGreatWm30

namespace Go.Proofs.YtbhaoaobhgilkaaGreat
open Go.RowKit Go.Sort Go.Shelf

theorem least1_enters : ∀ args w, (callFunc 80 args).run Tryz.prog w = .ok (.enter 80 args) w := enters_of Tryz.func80 (by kernel_rfl) rfl

def leaE (n : Int) (L : List AV) (a : List Int) : Int := if chkP n L = 0 then lsE n.toNat L a else chkP n L

def leaX (n : Int) (L : List AV) (a : List Int) : En := if leaE n L a = 0 then (infN (L.map ofV) n.toNat a).1.1 else en0

set_option maxRecDepth 100000 in
set_option maxHeartbeats 4000000 in
theorem least_any (n : Int) (L : List AV) (a : List Int) (ao qo : Option Addr) (cap qc : Nat) (w : World) (hR : RdV w ao L) (hA : Rd1 w qo a) (hal : a.length ≤ 1000000) :
    Calls Tryz.prog 30 #[.int .i64 n, .slice ao L.length cap, .slice qo a.length qc] w (fun e w' => Below w.heap.size w w' ∧ e = .returned (.tuple #[.agg #[.int .i64 (leaX n L a).v.1, .int .i64 (leaX n L a).v.2], .bool ((leaX n L a).ex && !(leaX n L a).op), .int .i64 (leaE n L a)])) := by
  have hmf : ∀ (fn : Fn) (first cap : Array Value) (w : World), (Instr.makeFunc fn first cap).run Tryz.prog w = .ok (.func fn first cap) w := fun _ _ _ _ => rfl
  obtain ⟨m, hm⟩ : ∃ m, m = L.length := ⟨_, rfl⟩
  obtain ⟨k, hk⟩ : ∃ k, k = a.length := ⟨_, rfl⟩
  obtain ⟨w0, hw0⟩ : ∃ w0, w0 = (((w.alloc (.cells #[.int .i64 n] 3)).alloc (.cells #[.slice ao m cap] 22)).alloc (.cells #[.slice qo k qc] 23)).alloc (.cells #[.int .i64 0, .int .i64 0] 50) := ⟨_, rfl⟩
  have E0 := Lib.hid (show Below w.heap.size w w0 by rw [hw0]; exact past_two (past_two (Below.refl _ _)))
  have X0 := Lib.hid (show Bx1 w0 w.heap.size (.int .i64 n) 3 by rw [hw0]; exact (((Bx1.made w _ _).kept (one_more _)).kept (one_more _)).kept (one_more _))
  have X1 := Lib.hid (show Bx1 w0 (w.heap.size + 1) (.slice ao m cap) 22 by rw [hw0]; have := ((Bx1.made (w.alloc (.cells #[.int .i64 n] 3)) (.slice ao m cap) 22).kept (one_more (.cells #[.slice qo k qc] 23))).kept (one_more (.cells #[.int .i64 0, .int .i64 0] 50)); simpa using this)
  have X2 := Lib.hid (show Bx1 w0 (w.heap.size + 2) (.slice qo k qc) 23 by rw [hw0]; have := (Bx1.made ((w.alloc (.cells #[.int .i64 n] 3)).alloc (.cells #[.slice ao m cap] 22)) (.slice qo k qc) 23).kept (one_more (.cells #[.int .i64 0, .int .i64 0] 50)); simpa using this)
  have P3 := Lib.hid (show Pair w0 (w.heap.size + 3) 0 0 by rw [hw0]; have := Pair.made (((w.alloc (.cells #[.int .i64 n] 3)).alloc (.cells #[.slice ao m cap] 22)).alloc (.cells #[.slice qo k qc] 23)) 0 0 50; simpa using this)
  have B1 := Lib.hid (one_more (w1 := w0) (.cells #[.slice ao m cap] 22))
  have hG : RdG (w0.alloc (.cells #[.slice ao m cap] 22)) (some ⟨w0.heap.size, 0, none⟩) [L] := by
    intro t ht
    have : t = 0 := by simpa using ht
    subst this
    refine ⟨_, ao, cap, rfl, ?_, (hR.on E0.out).on B1.out⟩
    rw [addr_add]
    have := (Bx1.made w0 (.slice ao m cap) 22).cell
    rw [hm] at this ⊢
    exact this
  have AN := Lib.hid (answerE_any 80 #[.pointer (some ⟨w.heap.size + 2, 0, none⟩), .pointer (some ⟨w.heap.size, 0, none⟩), .pointer (some ⟨w.heap.size + 1, 0, none⟩)] n (some ⟨w0.heap.size, 0, none⟩) 1 [L] (lsE n.toNat L a) (infN (L.map ofV) n.toNat a).1.1 _ (by simp) hG least1_enters
    (fun hc W hW => by
      have hc0 := hc L (by simp)
      have hn := (chk_valid hc0).1
      have e : ((n.toNat : Nat) : Int) = n := by omega
      refine least1_any n.toNat L a ao qo cap qc (w.heap.size + 2) w.heap.size (w.heap.size + 1) W (by rw [e]; exact hc0) (((hR.on E0.out).on B1.out).on hW) (((hA.on E0.out).on B1.out).on hW) hal ?_ ?_ ?_
      · rw [e]; exact kept hW (kept B1.out X0.out.cell)
      · rw [← hm]; exact kept hW (kept B1.out X1.out.cell)
      · rw [← hk]; exact kept hW (kept B1.out X2.out.cell)))
  rw [show ansE n [L] (lsE n.toNat L a) = leaE n L a from ansE_one _ _ _] at AN
  have HX := show (if leaE n L a = 0 then (infN (L.map ofV) n.toNat a).1.1 else en0) = leaX n L a from rfl
  rw [HX] at AN
  generalize leaX n L a = X at *
  generalize leaE n L a = ER at *
  have c0 := X0.out.cell
  have c1 := X1.out.cell
  simp only [List.length_cons, List.length_nil, Nat.zero_add] at AN
  rw [← hm, ← hk]
  clear hR hG hm hA hal hk HX
  go_enter Tryz.func30, Tryz.ntmps30
  go_upto_region 1 with (fail)
  rw [← hw0]
  clear hw0
  go_wp2_with fail
  refine AN.out.mono ?_
  rintro e w2 ⟨hb, rfl⟩
  have B2 := Lib.hid (below_on E0.out (past_one hb))
  have P2 := Lib.hid (P3.out.kept (below_on B1.out hb))
  have N1 := Lib.hid (show EnB (w2.alloc (.cells #[.int .i64 0, .int .i64 0, .bool false, .bool false] 105)) w2.heap.size en0 from EnB.made w2 en0)
  have N2 := Lib.hid (N1.out.setRow (y := X))
  have B3 := Lib.hid (below_on B2.out (Below.setRow ((Below.refl w2.heap.size w2).alloc (Nat.le_refl _) (.cells #[.int .i64 0, .int .i64 0, .bool false, .bool false] 105)) (b := w2.heap.size) (Nat.le_refl _) X.cs))
  have P4 := Lib.hid (show Pair ((w2.alloc (.cells #[.int .i64 0, .int .i64 0, .bool false, .bool false] 105)).setRow w2.heap.size X.cs) (w.heap.size + 3) 0 0 from P2.out.kept (Below.setRow ((Below.refl w2.heap.size w2).alloc (Nat.le_refl _) _) (b := w2.heap.size) (Nat.le_refl _) X.cs))
  clear hb AN c0 c1
  go_upto_region 2 with (refine wpList_store_row rfl _ _ _ rfl w2.heap.size X.cs rfl rfl _ _ N1.out zero_en rfl (En.one _) ?_)
  generalize (w2.alloc (.cells #[.int .i64 0, .int .i64 0, .bool false, .bool false] 105)).setRow w2.heap.size X.cs = w3 at *
  obtain ⟨q, hq⟩ : ∃ q, q = w2.heap.size := ⟨_, rfl⟩
  rw [← hq] at N2 ⊢
  obtain ⟨f0, f1, f2, f3⟩ := N2.out.facts
  obtain ⟨p0, p1, p2, p3⟩ := P4.out.facts
  obtain ⟨⟨v1, v2⟩, ex, op⟩ := X
  simp only at f0 f1 f2 f3
  clear N1 N2 P2 P4 hq
  have fin : Below w.heap.size w ((w3.setCell ⟨w.heap.size + 1 + 1 + 1, 0, none⟩ (.int .i64 v1)).setCell ⟨w.heap.size + 1 + 1 + 1, 1, none⟩ (.int .i64 v2)).drew := (below_put B3.out (by omega) _ _).drew
  cases ex
  · go_region
    go_wp2_with fail
    refine bodyPost_ret (v := .tuple #[.agg #[.int .i64 v1, .int .i64 v2], .bool false, .int .i64 ER]) (by simp [results, Tryz.results30, go_sem, p0, p1]) rfl ⟨fin, rfl⟩
  · cases op
    · go_region
      go_wp2_with fail
      refine bodyPost_ret (v := .tuple #[.agg #[.int .i64 v1, .int .i64 v2], .bool true, .int .i64 ER]) (by simp [results, Tryz.results30, go_sem, p0, p1]) rfl ⟨fin, rfl⟩
    · go_region
      go_wp2_with fail
      refine bodyPost_ret (v := .tuple #[.agg #[.int .i64 v1, .int .i64 v2], .bool false, .int .i64 ER]) (by simp [results, Tryz.results30, go_sem, p0, p1]) rfl ⟨fin, rfl⟩
end Go.Proofs.YtbhaoaobhgilkaaGreat

namespace Go.Proofs.YtbhaoaobhgilkaaGreat
open Go.RowKit Go.Sort Go.Shelf

def poE (l : List Ln) (n : Nat) : Int := if shE l n n = 0 then ptE l n else shE l n n

theorem PtR.base {w w' A : World} {ps : List Pq} {v : Value} (h : PtR w' ps v A) (hb : w.heap.size ≤ w'.heap.size) : PtR w ps v A := by
  obtain ⟨ao, cap, e, r, f⟩ := h
  exact ⟨ao, cap, e, r, fun a ea => Nat.le_trans hb (f a ea)⟩

set_option maxRecDepth 100000 in
set_option maxHeartbeats 4000000 in
theorem point1_any (n : Nat) (L : List AV) (ao : Option Addr) (cap pn pl : Nat) (w : World) (hc : chkP n L = 0) (hR : RdV w ao L) (c0 : w.cell? ⟨pn, 0, none⟩ = some (.int .i64 n)) (c1 : w.cell? ⟨pl, 0, none⟩ = some (.slice ao L.length cap)) :
    Calls Tryz.prog 70 #[.pointer (some ⟨pn, 0, none⟩), .pointer (some ⟨pl, 0, none⟩)] w fun e W' =>
      (poE (L.map ofV) n = 0 ∧ ∃ v, e = .returned v ∧ PtR w (ptN (L.map ofV) n n).1 v W' ∧ Below w.heap.size w W') ∨ (poE (L.map ofV) n ≠ 0 ∧ e = .panicked (pan (poE (L.map ofV) n)) ∧ Below w.heap.size w W') := by
  obtain ⟨⟨_, hn⟩, hl, hv⟩ := chk_valid hc
  have hn6 : n ≤ 6 := by omega
  obtain ⟨k, hk⟩ : ∃ k, k = (L.map ofV).length := ⟨_, rfl⟩
  have hk2 : k = L.length := by rw [hk]; simp
  have LI := Lib.hid (fun W (h : Below w.heap.size w W) => lines_any L ao cap W (by omega) (hR.on h) (fun y hy => by have := valid_len (hv y hy); omega))
  have SH := Lib.hid (fun W a c (h : RdL W a (L.map ofV)) => shadows_any (L.map ofV) a c n W (by simp; omega) hn6 h (fun x hx => by
    obtain ⟨y, hy, rfl⟩ := List.mem_map.1 hx
    exact ofV_rg (by omega) (hv y hy)))
  have PT := Lib.hid (fun W W0 b cs (he : shE (L.map ofV) n n = 0) (hS : ShR W0 W b (L.map ofV) n (n + 1) cs) => point_any (L.map ofV) n b cs W W0 (by omega) (by simp; omega) (fun x hx => by
    obtain ⟨y, hy, rfl⟩ := List.mem_map.1 hx
    exact ofV_rg (n := n) (by omega) (hv y hy)) he hS)
  rw [← hk] at SH
  rw [← hk2] at LI c1
  have KL := Lib.hid hk
  have C0 := Lib.hid c0
  have C1 := Lib.hid c1
  generalize L.map ofV = l at *
  clear hc hR c0 c1 hl hv hk hk2 hn
  go_enter Tryz.func70, Tryz.ntmps70
  go_upto_region 1 with (fail)
  have KS := Lib.hid (show ∀ W, Below w.heap.size w W → (W.cell? ⟨pn, 0, none⟩ = some (.int .i64 n) ∧ W.cell? ⟨pl, 0, none⟩ = some (.slice ao k cap)) from fun W h => ⟨kept h C0.out, kept h C1.out⟩)
  obtain ⟨wc, hwc⟩ : ∃ wc, wc = w.drew := ⟨_, rfl⟩
  have Bc := Lib.hid (show Below w.heap.size w wc by rw [hwc]; exact (Below.refl _ _).drew)
  refine wp_region_held_drew (S := (fun W => (W.cell? ⟨pn, 0, none⟩ = some (.int .i64 n) ∧ W.cell? ⟨pl, 0, none⟩ = some (.slice ao k cap)))) (by kernel_rfl) (by rw [← hwc]; exact KS.out _ Bc.out) (fun h0 => ?_)
  rw [← hwc] at h0 ⊢
  clear hwc
  refine tkH (i := 0) (v := ?v1) rfl (Or.inl ⟨by rfl, ?hy1⟩) h0 ?rest1
  case hy1 => (intro w' hS; (try dsimp only at hS); go_simp; try (with_reducible rfl))
  simp only [Act.put, sA, sB, sD, sE, sF]
  refine tkH (i := 1) (v := ?v2) rfl (Or.inl ⟨by rfl, ?hy2⟩) h0 ?rest2
  case hy2 => (intro w' hS; (try dsimp only at hS); go_simp; try (with_reducible rfl))
  simp only [Act.put, sZ]
  refine wpAnyH_ready (rs := [2]) (by kernel_rfl) (by simp) (AllReadyH.cons rfl (fun K hK => ?_) AllReadyH.nil)
  rw [if_pos (by rfl)]
  go_simp
  refine (LI.out wc Bc.out).mono ?_
  rintro e wc ⟨a1, d1, rfl, hr, hb⟩
  have R1 := Lib.hid hr
  clear hr
  rw [← KL.out]
  have Bc := Lib.hid (below_on Bc.out hb)
  clear hb
  go_simp
  refine hK.out _ _ (KS.out _ Bc.out) (fun h0_1 => ?_)
  clear hK K h0
  refine wpAnyH_ready (rs := [3]) (by kernel_rfl) (by simp) (AllReadyH.cons rfl (fun K hK => ?_) AllReadyH.nil)
  rw [if_pos (by rfl)]
  go_simp
  refine (SH.out wc a1 d1 R1.out).mono ?_
  rintro e wc (⟨he, b2, cs2, rfl, hs⟩ | ⟨he, rfl, hb⟩)
  rotate_left
  · exact And.intro rfl (Or.inr ⟨by unfold poE; rw [if_neg he]; exact he, by unfold poE; rw [if_neg he], below_on Bc.out hb⟩)
  have HE := Lib.hid he
  have hb := hs.be
  have HS := Lib.hid hs
  clear hs he
  have Bc := Lib.hid (below_on Bc.out hb)
  clear hb
  go_simp
  refine hK.out _ _ (KS.out _ Bc.out) (fun h0_2 => ?_)
  clear hK K h0_1
  refine wpAnyH_ready (rs := [4]) (by kernel_rfl) (by simp) (AllReadyH.cons rfl (fun K hK => ?_) AllReadyH.nil)
  rw [if_pos (by rfl)]
  go_simp
  refine (PT.out wc _ b2 cs2 HE.out HS.out).mono ?_
  have ZB := Lib.hid Bc.out.size
  rintro e wc ⟨hb, (⟨he, v, rfl, hp⟩ | ⟨he, rfl⟩)⟩
  rotate_left
  · exact And.intro rfl (Or.inr ⟨by unfold poE; rw [if_pos HE.out]; exact he, by unfold poE; rw [if_pos HE.out], below_on Bc.out hb⟩)
  have HV := Lib.hid (hp.base ZB.out)
  have H4 := Lib.hid he
  clear hp he
  have Bc := Lib.hid (below_on Bc.out hb)
  clear hb
  go_simp
  refine hK.out _ _ (KS.out _ Bc.out) (fun h0_3 => ?_)
  clear hK K h0_2
  refine tkH (i := 5) (v := ?v3) rfl (Or.inl ⟨by rfl, ?hy3⟩) h0_3 ?rest3
  case hy3 => (intro w' hS; (try dsimp only at hS); go_simp; try (with_reducible rfl))
  simp only [Act.put, sA, sB, sC, sD]
  try simp only [sF]
  try simp only [sE]
  refine wpAnyH_done (by kernel_rfl) ?_ _
  go_wp2_with fail
  go_ret
  exact Or.inl ⟨by unfold poE; rw [if_pos HE.out]; exact H4.out, _, rfl, HV.out, Bc.out⟩

theorem point1_enters : ∀ args w, (callFunc 70 args).run Tryz.prog w = .ok (.enter 70 args) w := enters_of Tryz.func70 (by kernel_rfl) rfl

def ponE (n : Int) (L : List AV) : Int := if chkP n L = 0 then poE (L.map ofV) n.toNat else chkP n L

set_option maxRecDepth 100000 in
set_option maxHeartbeats 4000000 in
theorem pointP_any (n : Int) (L : List AV) (ao : Option Addr) (cap : Nat) (w : World) (hR : RdV w ao L) :
    Calls Tryz.prog 25 #[.int .i64 n, .slice ao L.length cap] w (fun e w' => Below w.heap.size w w' ∧ ((ponE n L = 0 ∧ ∃ v, e = .returned (.tuple #[v, .int .i64 0]) ∧ PtR w (ptN (L.map ofV) n.toNat n.toNat).1 v w') ∨ (ponE n L ≠ 0 ∧ e = .returned (.tuple #[.slice none 0 0, .int .i64 (ponE n L)])))) := by
  have hmf : ∀ (fn : Fn) (first cap : Array Value) (w : World), (Instr.makeFunc fn first cap).run Tryz.prog w = .ok (.func fn first cap) w := fun _ _ _ _ => rfl
  obtain ⟨m, hm⟩ : ∃ m, m = L.length := ⟨_, rfl⟩
  obtain ⟨w0, hw0⟩ : ∃ w0, w0 = (w.alloc (.cells #[.int .i64 n] 3)).alloc (.cells #[.slice ao m cap] 22) := ⟨_, rfl⟩
  have E0 := Lib.hid (show Below w.heap.size w w0 by rw [hw0]; exact past_two (Below.refl _ _))
  have X0 := Lib.hid (show Bx1 w0 w.heap.size (.int .i64 n) 3 by rw [hw0]; exact (Bx1.made w _ _).kept (one_more _))
  have X1 := Lib.hid (show Bx1 w0 (w.heap.size + 1) (.slice ao m cap) 22 by rw [hw0]; have := Bx1.made (w.alloc (.cells #[.int .i64 n] 3)) (.slice ao m cap) 22; simpa using this)
  have Z0 := Lib.hid (show w0.heap.size = w.heap.size + 2 by rw [hw0]; simp)
  have B1 := Lib.hid (one_more (w1 := w0) (.cells #[.slice ao m cap] 22))
  have hG : RdG (w0.alloc (.cells #[.slice ao m cap] 22)) (some ⟨w0.heap.size, 0, none⟩) [L] := by
    intro t ht
    have : t = 0 := by simpa using ht
    subst this
    refine ⟨_, ao, cap, rfl, ?_, (hR.on E0.out).on B1.out⟩
    rw [addr_add]
    have := (Bx1.made w0 (.slice ao m cap) 22).cell
    rw [hm] at this ⊢
    exact this
  have AN := Lib.hid (answerQ_any 70 #[.pointer (some ⟨w.heap.size, 0, none⟩), .pointer (some ⟨w.heap.size + 1, 0, none⟩)] n (some ⟨w0.heap.size, 0, none⟩) 1 [L] (poE (L.map ofV) n.toNat) _ (by simp) hG point1_enters
    (fun W v A => PtR W (ptN (L.map ofV) n.toNat n.toNat).1 v A) (fun _ _ _ _ y h hb => h.aside hb y) (fun hc W hW => by
      have hc0 := hc L (by simp)
      have hn := (chk_valid hc0).1
      have e : ((n.toNat : Nat) : Int) = n := by omega
      refine point1_any n.toNat L ao cap w.heap.size (w.heap.size + 1) W (by rw [e]; exact hc0) (((hR.on E0.out).on B1.out).on hW) ?_ ?_
      · rw [e]; exact kept hW (kept B1.out X0.out.cell)
      · rw [← hm]; exact kept hW (kept B1.out X1.out.cell)))
  have HE := Lib.hid (show ansE n [L] (poE (L.map ofV) n.toNat) = ponE n L from ansE_one _ _ _)
  have c0 := X0.out.cell
  have c1 := X1.out.cell
  simp only [List.length_cons, List.length_nil, Nat.zero_add] at AN
  rw [← hm]
  clear hR hG hm
  go_enter Tryz.func25, Tryz.ntmps25
  go_upto_region 1 with (fail)
  rw [← hw0]
  clear hw0
  go_wp2_with fail
  refine AN.out.mono ?_
  rintro e w2 ⟨hb, ⟨he, W, v, hW, rfl, hp⟩ | ⟨he, rfl⟩⟩
  · have B2 := Lib.hid (below_on E0.out (past_one hb))
    rw [HE.out] at he
    have HZ := Lib.hid he
    have HP := Lib.hid (hp.base (w := w) (Nat.le_trans E0.out.size (Nat.le_trans (by simp) hW.size)))
    clear hb he hW hp
    go_wp2_with fail
    refine bodyPost_ret (v := .tuple #[v, .int .i64 0]) (by simp [results, Tryz.results25, go_sem]) rfl ?_
    exact ⟨B2.out, Or.inl ⟨HZ.out, _, rfl, HP.out⟩⟩
  · have B2 := Lib.hid (below_on E0.out (past_one hb))
    rw [HE.out] at he ⊢
    have HZ := Lib.hid he
    clear hb he
    go_wp2_with fail
    refine bodyPost_ret (v := .tuple #[.slice none 0 0, .int .i64 (ponE n L)]) (by simp [results, Tryz.results25, go_sem]) rfl ?_
    exact ⟨B2.out, Or.inr ⟨HZ.out, rfl⟩⟩
end Go.Proofs.YtbhaoaobhgilkaaGreat

namespace Go.Proofs.YtbhaoaobhgilkaaGreat
open Go.RowKit Go.Sort Go.Shelf

theorem without1_enters : ∀ args w, (callFunc 41 args).run Tryz.prog w = .ok (.enter 41 args) w := enters_of Tryz.func41 (by kernel_rfl) rfl

def witE (n : Int) (L : List AV) (I : Int) : Int := if chkP n L = 0 then woE n L I else chkP n L

set_option maxRecDepth 100000 in
set_option maxHeartbeats 4000000 in
theorem without_any (n I : Int) (L : List AV) (ao : Option Addr) (cap : Nat) (w : World) (hR : RdV w ao L) :
    Calls Tryz.prog 13 #[.int .i64 n, .slice ao L.length cap, .int .i64 I] w (fun e w' => Below w.heap.size w w' ∧ ((witE n L I = 0 ∧ ∃ W v, Below w.heap.size w W ∧ e = .returned (.tuple #[v, .int .i64 0]) ∧ WoR n.toNat L I W v w') ∨ (witE n L I ≠ 0 ∧ e = .returned (.tuple #[.slice none 0 0, .int .i64 (witE n L I)])))) := by
  have hmf : ∀ (fn : Fn) (first cap : Array Value) (w : World), (Instr.makeFunc fn first cap).run Tryz.prog w = .ok (.func fn first cap) w := fun _ _ _ _ => rfl
  obtain ⟨m, hm⟩ : ∃ m, m = L.length := ⟨_, rfl⟩
  obtain ⟨w0, hw0⟩ : ∃ w0, w0 = ((w.alloc (.cells #[.int .i64 n] 3)).alloc (.cells #[.slice ao m cap] 22)).alloc (.cells #[.int .i64 I] 3) := ⟨_, rfl⟩
  have E0 := Lib.hid (show Below w.heap.size w w0 by rw [hw0]; exact past_three (Below.refl _ _))
  have X0 := Lib.hid (show Bx1 w0 w.heap.size (.int .i64 n) 3 by rw [hw0]; exact ((Bx1.made w _ _).kept (one_more _)).kept (one_more _))
  have X1 := Lib.hid (show Bx1 w0 (w.heap.size + 1) (.slice ao m cap) 22 by rw [hw0]; have := (Bx1.made (w.alloc (.cells #[.int .i64 n] 3)) (.slice ao m cap) 22).kept (one_more (.cells #[.int .i64 I] 3)); simpa using this)
  have X2 := Lib.hid (show Bx1 w0 (w.heap.size + 2) (.int .i64 I) 3 by rw [hw0]; have := Bx1.made ((w.alloc (.cells #[.int .i64 n] 3)).alloc (.cells #[.slice ao m cap] 22)) (.int .i64 I) 3; simpa using this)
  have B1 := Lib.hid (one_more (w1 := w0) (.cells #[.slice ao m cap] 22))
  have hG : RdG (w0.alloc (.cells #[.slice ao m cap] 22)) (some ⟨w0.heap.size, 0, none⟩) [L] := by
    intro t ht
    have : t = 0 := by simpa using ht
    subst this
    refine ⟨_, ao, cap, rfl, ?_, (hR.on E0.out).on B1.out⟩
    rw [addr_add]
    have := (Bx1.made w0 (.slice ao m cap) 22).cell
    rw [hm] at this ⊢
    exact this
  have AN := Lib.hid (answerL_any 41 #[.pointer (some ⟨w.heap.size + 2, 0, none⟩), .pointer (some ⟨w.heap.size, 0, none⟩), .pointer (some ⟨w.heap.size + 1, 0, none⟩)] n (some ⟨w0.heap.size, 0, none⟩) 1 [L] (woE n L I) _ (by simp) hG without1_enters
    (fun W v A => WoR n.toNat L I W v A) (fun _ _ _ b y h hb => h.aside hb y) (fun hc W hW => by
      have hc0 := hc L (by simp)
      have hn := (chk_valid hc0).1
      have e : ((n.toNat : Nat) : Int) = n := by omega
      have h := without1_any n.toNat I L ao cap (w.heap.size + 2) w.heap.size (w.heap.size + 1) W (by rw [e]; exact hc0) (((hR.on E0.out).on B1.out).on hW) (kept hW (kept B1.out X2.out.cell)) (by rw [e]; exact kept hW (kept B1.out X0.out.cell)) (by rw [← hm]; exact kept hW (kept B1.out X1.out.cell))
      rw [e] at h
      exact h))
  have HE := Lib.hid (show ansE n [L] (woE n L I) = witE n L I from ansE_one _ _ _)
  have c0 := X0.out.cell
  have c1 := X1.out.cell
  simp only [List.length_cons, List.length_nil, Nat.zero_add] at AN
  rw [← hm]
  clear hR hG hm
  go_enter Tryz.func13, Tryz.ntmps13
  go_upto_region 1 with (fail)
  rw [← hw0]
  clear hw0
  go_wp2_with fail
  refine AN.out.mono ?_
  rintro e w2 ⟨hb, ⟨he, W, v, hW, rfl, hv⟩ | ⟨he, rfl⟩⟩
  · have B2 := Lib.hid (below_on E0.out (past_one hb))
    have BW := Lib.hid (below_on E0.out (past_one hW))
    rw [HE.out] at he
    have HZ := Lib.hid he
    have HV := Lib.hid hv
    clear hb he hW hv
    go_wp2_with fail
    refine bodyPost_ret (v := .tuple #[v, .int .i64 0]) (by simp [results, Tryz.results13, go_sem]) rfl ?_
    exact ⟨B2.out, Or.inl ⟨HZ.out, W, v, BW.out, rfl, HV.out⟩⟩
  · have B2 := Lib.hid (below_on E0.out (past_one hb))
    rw [HE.out] at he ⊢
    have HZ := Lib.hid he
    clear hb he
    go_wp2_with fail
    refine bodyPost_ret (v := .tuple #[.slice none 0 0, .int .i64 (witE n L I)]) (by simp [results, Tryz.results13, go_sem]) rfl ?_
    exact ⟨B2.out, Or.inr ⟨HZ.out, rfl⟩⟩
end Go.Proofs.YtbhaoaobhgilkaaGreat

namespace Go.Proofs.YtbhaoaobhgilkaaGreat
open Go.RowKit Go.Sort

theorem tidyL_ins (l : List Ln) : tidyL l = if badB l then [bad0] else insL (keepL l) := by
  unfold tidyL; rw [cpt_ins]

def sh1 : List Ln := [⟨[1, 1, 0, 0, 0, 0], 4, false⟩, ⟨[-1, 0, 0, 0, 0, 0], 0, true⟩, ⟨[0, -1, 0, 0, 0, 0], -1, true⟩]

def sh2 : List Ln := [⟨[-1, 0, 0, 0, 0, 0], -1, false⟩, ⟨[0, -1, 0, 0, 0, 0], -2, true⟩]

def sh3 : List Ln := [⟨[1, 0, 0, 0, 0, 0], 2, false⟩, ⟨[-1, 0, 0, 0, 0, 0], -2, true⟩]

theorem sh1_wo : leaveE sh1 1 = 0 := by decide +kernel

theorem sh1_left : (leaveL sh1 1).map (erL 2 1) = [⟨[-1], 0, true⟩, ⟨[1], 3, true⟩] := by
  unfold leaveL
  rw [tidyL_ins]
  decide +kernel

theorem sh1_0 : shL sh1 2 0 = [⟨[-1, 0, 0, 0, 0, 0], 0, true⟩, ⟨[0, -1, 0, 0, 0, 0], -1, true⟩, ⟨[1, 1, 0, 0, 0, 0], 4, false⟩] := by
  show tidyL sh1 = _
  rw [tidyL_ins]
  decide +kernel

theorem sh1_1 : shL sh1 2 1 = [⟨[-1, 0, 0, 0, 0, 0], 0, true⟩, ⟨[1, 0, 0, 0, 0, 0], 3, true⟩] := by
  show leaveL (shL sh1 2 0) 1 = _
  rw [sh1_0]
  unfold leaveL
  rw [tidyL_ins]
  decide +kernel

theorem sh1_2 : shL sh1 2 2 = [] := by
  show leaveL (shL sh1 2 1) 0 = _
  rw [sh1_1]
  unfold leaveL
  rw [tidyL_ins]
  decide +kernel

theorem sh1_e : shE sh1 2 2 = 0 := by
  show (if (if (0 : Int) = 0 then leaveE (shL sh1 2 0) 1 else 0) = 0 then leaveE (shL sh1 2 1) 0 else _) = 0
  rw [sh1_0, sh1_1]
  decide +kernel

theorem sh1_p1 : ptN sh1 2 1 = ([(1, 1)], 0) := by
  unfold ptN
  rw [show (2 : Nat) - (0 + 1) = 1 by rfl, sh1_1]
  decide +kernel

theorem sh1_p2 : ptN sh1 2 2 = ([(1, 1), (2, 1)], 0) := by
  unfold ptN
  rw [show (2 : Nat) - (1 + 1) = 0 by rfl, sh1_0, sh1_p1]
  decide +kernel

theorem sh1_po : poE sh1 2 = 0 := by
  unfold poE ptE empB
  rw [sh1_e, sh1_2, sh1_p2]
  decide +kernel

def in2 : List Ln := infL sh2 2 [2, 3]

theorem in2_0 : shL in2 2 0 = insL (keepL in2) := by
  show tidyL in2 = _
  rw [tidyL_ins, if_neg (by decide +kernel)]

theorem in2_1 : shL in2 2 1 = insL (keepL (zrs (insL (keepL in2)) 1 ++ sums (insL (keepL in2)) 1)) := by
  show leaveL (shL in2 2 0) 1 = _
  rw [in2_0]
  unfold leaveL
  rw [tidyL_ins, if_neg (by decide +kernel)]

theorem in2_2 : shL in2 2 2 = [⟨[0, 0, -1, 0, 0, 0], -8, true⟩] := by
  show leaveL (shL in2 2 1) 0 = _
  rw [in2_1]
  unfold leaveL
  rw [tidyL_ins]
  decide +kernel

theorem in2_e : shE in2 2 2 = 0 := by
  show (if (if (0 : Int) = 0 then leaveE (shL in2 2 0) 1 else 0) = 0 then leaveE (shL in2 2 1) 0 else _) = 0
  rw [in2_1, in2_0]
  decide +kernel

theorem in2_n : infN sh2 2 [2, 3] = ((⟨(8, 1), true, true⟩, en0), 0) := by
  unfold infN
  rw [show infL sh2 2 [2, 3] = in2 from rfl, in2_2]
  kernel_rfl

theorem in2_i : infE sh2 2 [2, 3] = 0 := by
  unfold infE
  rw [in2_n, show infL sh2 2 [2, 3] = in2 from rfl, in2_e]
  decide +kernel

theorem sh3_0 : shL sh3 1 0 = [⟨[-1, 0, 0, 0, 0, 0], -2, true⟩, ⟨[1, 0, 0, 0, 0, 0], 2, false⟩] := by
  show tidyL sh3 = _
  rw [tidyL_ins]
  decide +kernel

theorem sh3_1 : shL sh3 1 1 = [bad0] := by
  show leaveL (shL sh3 1 0) 0 = _
  rw [sh3_0]
  unfold leaveL
  rw [tidyL_ins]
  decide +kernel

theorem sh3_e : shE sh3 1 1 = 0 := by
  show (if (0 : Int) = 0 then leaveE (shL sh3 1 0) 0 else _) = 0
  rw [sh3_0]
  decide +kernel

theorem sh3_b : empB sh3 1 = true := by
  unfold empB
  rw [sh3_1]
  decide +kernel
end Go.Proofs.YtbhaoaobhgilkaaGreat
