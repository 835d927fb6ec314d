/- Contracts of slices.Repeat at one limit, and layer 3's Zero and All.; Contracts of layer 3's uniform, Zero and All.; The contracts of layer 4's Reduce and Build, of the program and of the reference.; What the examples of layer 4 are.; The contract of the statements' same of layer 4.; The contract of the examples of layer 4.; What the rows of layers 3 and 4 have in common: arguments opened to what the walks ask; arguments that nothing has turned; the row's last step.; Arguments opened: a zone, constraints. -/
import Derived.Test.YtmlknjiifjdimaaG11
import Derived.Shelf.Bits.Mul64
import Derived.Test.YtmlknjiifjdimaaG8
import Derived.Test.YtmlknjiifjdimaaG9
import Derived.ProofKit
import Derived.Lib.SmallJoins
import Derived.Deep.Slices

namespace Go.Proofs.Ytmlknjiifjdimaa
open Go.RowKit

set_option maxHeartbeats 1000000 in
theorem mul64_one (c : Nat) (hc : c ≤ 121) (w : World) : Calls Try.prog 155 #[.int .u64 1, .int .u64 c] w (Still (.tuple #[.int .u64 0, .int .u64 c]) w) := by
  have m1 : bits .and .u64 1 4294967295 = 1 := by decide
  have m0 : bits .and .u64 0 4294967295 = 0 := by decide
  have m2 : bits .and .u64 (c : Int) 4294967295 = c := by rw [Mul64.maskN c (by omega), show c % 4294967296 = c by omega]
  have d2 : (c : Int) / 4294967296 = 0 := by omega
  have w2 : IntKind.u64.wrap (c : Int) = c := Mul64.wrapN c (by omega)
  have w0 : IntKind.u64.wrap 0 = 0 := by decide
  have z0 : (0 : Int) / 4294967296 = 0 := by decide
  go_enter Try.func155, Try.ntmps155
  go_wp2_with fail
  go_ret2
  exact ⟨rfl, rfl⟩

set_option maxHeartbeats 1000000 in
theorem mul_one_any (c : Nat) (hc : c ≤ 121) (w : World) : Calls Try.prog 139 #[.int .u64 1, .int .u64 c] w (Still (.tuple #[.int .u64 0, .int .u64 c]) w) := by
  have M := Lib.hid (fun W => mul64_one c hc W)
  go_enter Try.func139, Try.ntmps139
  go_wp2_with fail
  refine (M.out _).mono ?_
  rintro e w1 ⟨rfl, hw⟩
  rw [hw]; clear hw w1
  go_wp2_with fail
  go_ret2
  exact ⟨rfl, rfl⟩

/-- A row that is filled up to k. -/
def Fl (w : World) (g c k : Nat) (v : Int) : Prop := w.heap[g]? = some (.cells ((List.replicate k v ++ List.replicate (c - k) 0).map (Value.int .i64)).toArray 43 (0, 0))

theorem fill_vals {b : Nat} {t : TypeId} (v : Value) : ∀ (m k : Nat) (A : List Value) (w : World), w.heap[b]? = some (.cells A.toArray t (0, 0)) → k + m ≤ A.length →
    (w.setCells b k (List.replicate m v)).heap[b]? = some (.cells (A.take k ++ List.replicate m v ++ A.drop (k + m)).toArray t (0, 0)) := by
  intro m
  induction m with
  | zero => intro k A w h hk; simpa [World.setCells] using h
  | succ m ih =>
    intro k A w h hk
    have h1 : (w.setCell ⟨b, k, none⟩ v).heap[b]? = some (.cells (A.set k v).toArray t (0, 0)) := by
      rw [heap_setCell_same w b _ _ _ _ h]; simp
    have := ih (k + 1) (A.set k v) _ h1 (by simp; omega)
    rw [List.replicate_succ]
    show ((w.setCell ⟨b, k, none⟩ v).setCells b (k + 1) (List.replicate m v)).heap[b]? = _
    rw [this]
    congr 3
    have hk' : k < A.length := by omega
    have e1 : (A.set k v).take (k + 1) = A.take k ++ [v] := by
      rw [List.take_add_one, List.take_set, List.set_eq_of_length_le (by simp; omega), List.getElem?_set_self hk']
      rfl
    rw [e1, List.drop_set_of_lt (by omega), show k + 1 + m = k + (m + 1) by omega]
    simp

theorem Fl.step {w : World} {g c k m : Nat} {v : Int} (h : Fl w g c k v) (hk : k + m ≤ c) : Fl (w.setCells g k (List.replicate m (Value.int .i64 v))) g c (k + m) v := by
  unfold Fl at *
  rw [fill_vals (Value.int .i64 v) m k _ w h (by simp; omega)]
  congr 3
  simp only [List.map_append, List.map_replicate]
  rw [List.take_append_of_le_length (by simp), List.take_of_length_le (by simp), List.drop_append, List.drop_of_length_le (by simp)]
  simp
  omega

theorem Fl.at {w : World} {g c k : Nat} {v : Int} (h : Fl w g c k v) {j : Nat} (hj : j < k) : w.cell? ⟨g, j, none⟩ = some (.int .i64 v) := by
  rw [cell_of_row w g j _ _ _ h]; simp [List.getElem?_append, hj]

theorem Fl.some {w : World} {g c k : Nat} {v : Int} (h : Fl w g c k v) (hk : k ≤ c) {j : Nat} (hj : j < c) : (w.cell? ⟨g, j, none⟩).isSome = true := by
  rw [cell_of_row w g j _ _ _ h]
  have : j < (((List.replicate k v ++ List.replicate (c - k) 0).map (Value.int .i64)).toArray).size := by simp; omega
  rw [Array.getElem?_eq_getElem this]; rfl

theorem Fl.free {w : World} {g c k : Nat} {v : Int} (h : Fl w g c k v) (j : Nat) : w.frozen? ⟨g, j, none⟩ = false := frozen_of_row w g j _ _ h

theorem Fl.own {w : World} {g c : Nat} {v : Int} (h : Fl w g c c v) (hc : 0 < c) (hm : c ≤ 1000) : Own w g c (List.replicate c v) := by
  unfold Own
  unfold Fl at h
  refine ⟨by simp, Or.inr ⟨g, c, _, by simp, Nat.zero_le _, h, by simp, by unfold maxLen; omega, by simp, by simp⟩⟩

theorem run_cut_lo (w : World) (a : Addr) (c k : Nat) (hk : k < c) : (Instr.sliceAt 22 (.slice (some a) c c) (some (.int .i64 k)) none none).run Try.prog w = .ok (.slice (some (a.add k)) (c - k) (c - k)) w := by
  have he : Try.prog.elem 22 = 43 := by simp [Program.elem]
  rw [run_sliceAt_slice w _ _ _ _ _ (by rw [he]; exact Try.underlying22), run_slice_l w _ _ _ _ (by rw [he]; exact Try.underlying22) .i64 k (by omega) (by omega), he, limit_size]
  simp only [Result.andThen_ok, sliced, Int.toNat_natCast]
  rw [if_neg (by omega)]
  simp

theorem run_cut_hi (w : World) (a : Addr) (c k : Nat) (hk : k < c) : (Instr.sliceAt 22 (.slice (some a) c c) none (some (.int .i64 k)) none).run Try.prog w = .ok (.slice (some a) k c) w := by
  have he : Try.prog.elem 22 = 43 := by simp [Program.elem]
  rw [run_sliceAt_slice w _ _ _ _ _ (by rw [he]; exact Try.underlying22), run_slice_h w _ _ _ _ (by rw [he]; exact Try.underlying22) .i64 k (by omega) (by omega), he, limit_size]
  simp only [Result.andThen_ok, sliced, Int.toNat_natCast]
  rw [if_neg (by omega)]
  simp [Addr.add]

set_option maxRecDepth 100000 in
set_option maxHeartbeats 4000000 in
theorem repeat_any (v : Int) (c xb : Nat) (w : World) (hc0 : 0 < c) (hc : c ≤ 121) (hx : w.cell? ⟨xb, 0, none⟩ = some (.int .i64 v)) :
    Calls Try.prog 118 #[.slice (some ⟨xb, 0, none⟩) 1 1, .int .i64 c] w
      (fun e w' => e = .returned (.slice (some ⟨w.heap.size, 0, none⟩) c c) ∧ Own w' w.heap.size c (List.replicate c v) ∧ Below w.heap.size w w') := by
  have MU := Lib.hid (fun W => mul_one_any c hc W)
  obtain ⟨cur, hcur, hmk⟩ := make_limits w c (by omega) c rfl
  have F0 : Fl (w.alloc (.cells cur 43)) w.heap.size c 0 v := by
    unfold Fl; rw [heap_alloc_last]; rw [hcur]; simp
  obtain ⟨w1, hw1⟩ : ∃ w1, w1 = w.alloc (.cells cur 43) := ⟨_, rfl⟩
  rw [← hw1] at hmk F0
  have E1 : Below w.heap.size w w1 := by rw [hw1]; exact one_more _
  have hx1 : w1.cell? ⟨xb, 0, none⟩ = some (.int .i64 v) := by rw [hw1]; exact kept (one_more _) hx
  have hcp1 := fun ty => run_copy_cells (P := Try.prog) w1 22 22 ty 43 w.heap.size 0 c c ⟨xb, 0, none⟩ 1 1 (List.replicate 1 (Value.int .i64 v)) Try.underlying22
    (by rfl) (by rw [List.length_replicate]; exact (Nat.min_eq_left hc0).symm)
    (fun j u hj => by
      have : j = 0 := by
        have := List.getElem?_eq_some_iff.1 hj
        obtain ⟨h, _⟩ := this
        simp at h; exact h
      subst this
      simp at hj
      subst hj
      exact hx1)
    (fun j hj => F0.some (by omega) (by simp at hj; omega)) (fun j hj => F0.free _) (by simp [Value.oneCell'])
  have F1 := F0.step (m := 1) (by omega)
  have HF1 := Lib.hid F1
  have HE1 := Lib.hid (Below.setCells (B := w.heap.size) (b := w.heap.size) (Nat.le_refl _) (List.replicate 1 (Value.int .i64 v)) 0 w1 E1)
  have HW1 := Lib.hid hw1
  simp only [List.length_replicate] at hcp1
  clear hx hx1 F0 F1 E1 hcur hw1
  go_enter Try.func118, Try.ntmps118
  go_wp2_with fail
  refine (MU.out _).mono ?_
  rintro e w2 ⟨rfl, hw⟩
  rw [hw]; clear hw w2
  go_wp2_with fail
  clear hcp1 hmk
  go_loopw [8] (fun s wr => ∃ k : Nat, 0 < k ∧ k ≤ c ∧ s = .int .i64 k ∧ Hid (Fl wr w.heap.size c k v) ∧ Hid (Below w.heap.size w wr)) (fun s _ => c - (intOf s).toNat)
  case atStart => exact ⟨1, by omega, by omega, rfl, HF1, HE1⟩
  case round =>
    clear HF1 HE1
    obtain ⟨k, hk0, hkc, rfl, HF, HB⟩ := hrel
    by_cases hlt : k < c
    · obtain ⟨m, hm⟩ : ∃ m, m = Nat.min k (c - k) := ⟨_, rfl⟩
      have hm0 : 0 < m := by rw [hm]; exact Nat.lt_min.2 ⟨hk0, by omega⟩
      have hm1 : k + m ≤ c := by have : m ≤ c - k := by rw [hm]; exact Nat.min_le_right _ _
                                 omega
      have FD : Fl wr.drew w.heap.size c k v := HF.out
      have s1 := fun W => run_cut_lo W ⟨w.heap.size, 0, none⟩ c k hlt
      have s2 := fun W => run_cut_hi W ⟨w.heap.size, 0, none⟩ c k hlt
      rw [show (⟨w.heap.size, 0, none⟩ : Addr).add k = ⟨w.heap.size, k, none⟩ from addr_add _ _] at s1
      have hcp := fun ty => run_copy_cells (P := Try.prog) wr.drew 22 22 ty 43 w.heap.size k (c - k) (c - k) ⟨w.heap.size, 0, none⟩ k c (List.replicate m (Value.int .i64 v)) Try.underlying22
        (by rfl) (by rw [List.length_replicate]; exact hm)
        (fun j u hj => by
          have h2 := List.getElem?_eq_some_iff.1 hj
          obtain ⟨h, h3⟩ := h2
          simp at h h3
          subst h3
          rw [addr_add]
          exact FD.at (by have : m ≤ k := by rw [hm]; exact Nat.min_le_left _ _
                          omega))
        (fun j hj => FD.some hkc (by simp at hj; omega)) (fun j hj => FD.free _) (by simp [Value.oneCell'])
      simp only [List.length_replicate] at hcp
      have F2 := Lib.hid (FD.step hm1)
      have B2 := Lib.hid (Below.setCells (B := w.heap.size) (b := w.heap.size) (Nat.le_refl _) (List.replicate m (Value.int .i64 v)) k wr.drew HB.out.drew)
      clear hm FD
      go_wp2_with fail
      go_region
      clear hcp s1 s2
      go_wp2_with fail
      go_roundw
      case rel => exact ⟨k + m, by omega, hm1, by go_num, F2, B2⟩
      case measure => simp [intOf]; omega
    · have HO := Lib.hid (show Fl wr w.heap.size c c v by have := HF.out; rwa [show k = c by omega] at this)
      go_wp2_with fail
      go_ret
      exact ⟨rfl, HO.out.own hc0 (by omega), HB.out⟩
end Go.Proofs.Ytmlknjiifjdimaa

namespace Go.Proofs.Ytmlknjiifjdimaa
open Go.RowKit

theorem flE_close {n : Nat} {v : Int} (hn : n ≤ 10) (hv : lvB v = true) : closeE n (List.replicate ((n + 1) * (n + 1)) v) = flE n v := by
  have d : dimB (n : Int) = true := by unfold dimB; simp; omega
  rw [rd_close]
  unfold flE rdB
  rw [d]
  have : (List.replicate ((n + 1) * (n + 1)) v).all lvB = true := by
    rw [List.all_eq_true]; intro x hx; rw [(List.mem_replicate.1 hx).2]; exact hv
  simp only [Int.toNat_natCast, List.length_replicate, decide_true, Bool.true_and, this]

set_option maxRecDepth 100000 in
set_option maxHeartbeats 4000000 in
theorem zunif_bad (N v : Int) (w : World) (hd : dimB N = false) : Calls Try.prog 70 #[.int .i64 N, .int .i64 v] w (ZRes w 0 [] 2) := by
  have PD := fun W => isDimension_any N W
  rw [hd] at PD
  have HD := Lib.hid PD
  obtain ⟨b0, b1, b2, b3⟩ := (two_res w).facts
  have E0 := Lib.hid (one_more (w1 := w) (.cells #[.int .i64 0, .slice none 0 0] 25))
  have rs := two_res w
  clear hd PD
  go_enter Try.func70, Try.ntmps70
  go_wp2_with fail
  refine (HD.out _).mono ?_
  rintro e w1 ⟨rfl, hw⟩
  rw [hw]; clear hw w1
  go_wp2_with fail
  refine bodyPost_ret (v := .tuple #[.agg #[.int .i64 0, .slice none 0 0], .int .i64 2]) (by simp [results, Try.results70, go_sem, b0, b1]) rfl (zres_bad ?_)
  exact E0.out

set_option maxRecDepth 100000 in
set_option maxHeartbeats 4000000 in
theorem zunif_ok (n : Nat) (v : Int) (w : World) (hn : n ≤ 10) (hv : lvB v = true) : Calls Try.prog 70 #[.int .i64 n, .int .i64 v] w (ZRes w n (Zo.clo n (List.replicate ((n + 1) * (n + 1)) v)) (flE n v)) := by
  have PD := fun W => isDimension_any n W
  rw [show dimB (n : Int) = true by unfold dimB; simp; omega] at PD
  have HD := Lib.hid PD
  have HP := Lib.hid (fun W => places_any n W hn)
  have hle := dsq_le hn
  have hpos := dsq_pos n
  have CC := Lib.hid (show ∀ (W : World) (g c : Nat), Own W g c (List.replicate ((n + 1) * (n + 1)) v) → _ from fun W g c hO => zclose_gen n (List.replicate ((n + 1) * (n + 1)) v) (some ⟨g, 0, none⟩) c W hO.arg)
  rw [flE_close hn hv] at CC
  simp only [List.length_replicate, Int.toNat_natCast] at CC
  generalize Zo.clo n (List.replicate ((n + 1) * (n + 1)) v) = r at *
  generalize flE n v = er at *
  generalize (n + 1) * (n + 1) = sz at *
  have RP := Lib.hid (fun (xb : Nat) (W : World) (h : W.cell? ⟨xb, 0, none⟩ = some (.int .i64 v)) => repeat_any v sz xb W hpos hle h)
  obtain ⟨w0, hw0⟩ : ∃ w0, w0 = w.alloc (.cells #[.int .i64 0, .slice none 0 0] 25) := ⟨_, rfl⟩
  have rs : Two w0 w.heap.size (.int .i64 0) (.slice none 0 0) := by rw [hw0]; exact Two.made _ _ _ _
  have E0 := Lib.hid (show Below w.heap.size w w0 by rw [hw0]; exact one_more _)
  have z0 : w0.heap.size = w.heap.size + 1 := by rw [hw0]; simp
  clear hv PD
  go_enter Try.func70, Try.ntmps70
  go_wp2_with fail
  rw [← hw0]
  clear hw0
  refine (HD.out _).mono ?_
  rintro e w1 ⟨rfl, hw⟩
  rw [hw]; clear hw w1
  go_wp2_with fail
  refine (HP.out _).mono ?_
  rintro e w1 ⟨rfl, hw⟩
  rw [hw]; clear hw w1
  have hcx : (w0.alloc (.cells #[.int .i64 v] 43)).cell? ⟨w.heap.size + 1, 0, none⟩ = some (.int .i64 v) := by rw [← z0]; go_simp
  go_wp2_with fail
  refine (RP.out _ _ hcx).mono ?_
  rintro e w2 ⟨rfl, hO, hb⟩
  rw [show (w0.alloc (.cells #[.int .i64 v] 43)).heap.size = w.heap.size + 1 + 1 by simp [z0]] at hO
  have HO := Lib.hid hO
  have B2 := Lib.hid (show Below w0.heap.size w0 w2 from past_one hb)
  clear hcx hO hb
  go_wp2_with fail
  refine (CC.out _ _ _ HO.out).mono ?_
  intro e w4 hG
  obtain ⟨hb4, hres⟩ := hG
  have HB4 := Lib.hid (below_on B2.out hb4)
  obtain ⟨q0, q1, q2, q3⟩ := (rs.kept HB4.out).facts
  have h2s := B2.out.size
  rcases hres with ⟨he, g, c, rfl, hgl, hO⟩ | ⟨he, rfl⟩
  · have HOO := Lib.hid hO
    subst he
    clear hO hb4
    go_wp2_with fail
    refine bodyPost_ret (v := .tuple #[.agg #[.int .i64 n, .slice (some ⟨g, 0, none⟩) r.length c], .int .i64 0]) (by simp [results, Try.results70, go_sem, q0, q1]) rfl (zres_over E0.out HB4.out HOO.out (by omega) (by omega) (by omega) _ _)
  · have HEE := Lib.hid he
    clear he hb4
    go_wp2_with fail
    refine bodyPost_ret (v := .tuple #[.agg #[.int .i64 0, .slice none 0 0], .int .i64 er]) (by simp [results, Try.results70, go_sem, q0, q1]) rfl (zres_over0 E0.out HB4.out HEE.out (by omega) _ _)

theorem zunif_gen (N v : Int) (w : World) (hv : lvB v = true) : Calls Try.prog 70 #[.int .i64 N, .int .i64 v] w (ZRes w N (Zo.clo N.toNat (List.replicate ((N.toNat + 1) * (N.toNat + 1)) v)) (flE N v)) := by
  cases hd : dimB N
  · exact (zunif_bad N v w hd).mono fun e w' h => h.bad (by simp [flE, hd])
  · obtain ⟨n, rfl, hn⟩ := dim_nat hd
    exact zunif_ok n v w hn hv

set_option maxRecDepth 100000 in
set_option maxHeartbeats 1000000 in
theorem zzero_gen (N : Int) (w : World) : Calls Try.prog 20 #[.int .i64 N] w (ZRes w N (Zo.clo N.toNat (List.replicate ((N.toNat + 1) * (N.toNat + 1)) 1)) (flE N 1)) := by
  have P := Lib.hid (fun W => zunif_gen N 1 W (by decide))
  generalize Zo.clo N.toNat (List.replicate ((N.toNat + 1) * (N.toNat + 1)) 1) = r at *
  generalize flE N 1 = er at *
  obtain ⟨w0, hw0⟩ : ∃ w0, w0 = w.alloc (.cells #[.int .i64 0, .slice none 0 0] 25) := ⟨_, rfl⟩
  have rs : Two w0 w.heap.size (.int .i64 0) (.slice none 0 0) := by rw [hw0]; exact Two.made _ _ _ _
  have E0 := Lib.hid (show Below w.heap.size w w0 by rw [hw0]; exact one_more _)
  have z0 : w0.heap.size = w.heap.size + 1 := by rw [hw0]; simp
  go_enter Try.func20, Try.ntmps20
  go_wp2_with fail
  rw [← hw0]
  clear hw0
  refine (P.out _).mono ?_
  intro e w4 hG
  obtain ⟨hb4, hres⟩ := hG
  have HB4 := Lib.hid hb4
  obtain ⟨q0, q1, q2, q3⟩ := (rs.kept hb4).facts
  rcases hres with ⟨he, g, c, rfl, hgl, hO⟩ | ⟨he, rfl⟩
  · have HOO := Lib.hid hO
    subst he
    clear hO hb4
    go_wp2_with fail
    refine bodyPost_ret (v := .tuple #[.agg #[.int .i64 N, .slice (some ⟨g, 0, none⟩) r.length c], .int .i64 0]) (by simp [results, Try.results20, go_sem, q0, q1]) rfl (zres_over E0.out HB4.out HOO.out hgl (by omega) (by omega) _ _)
  · have HEE := Lib.hid he
    clear he hb4
    go_wp2_with fail
    refine bodyPost_ret (v := .tuple #[.agg #[.int .i64 0, .slice none 0 0], .int .i64 er]) (by simp [results, Try.results20, go_sem, q0, q1]) rfl (zres_over0 E0.out HB4.out HEE.out (by omega) _ _)

set_option maxRecDepth 100000 in
set_option maxHeartbeats 1000000 in
theorem zall_gen (N : Int) (w : World) : Calls Try.prog 22 #[.int .i64 N] w (ZRes w N (Zo.clo N.toNat (List.replicate ((N.toNat + 1) * (N.toNat + 1)) 1099511627776)) (flE N 1099511627776)) := by
  have P := Lib.hid (fun W => zunif_gen N 1099511627776 W (by decide))
  generalize Zo.clo N.toNat (List.replicate ((N.toNat + 1) * (N.toNat + 1)) 1099511627776) = r at *
  generalize flE N 1099511627776 = er at *
  obtain ⟨w0, hw0⟩ : ∃ w0, w0 = w.alloc (.cells #[.int .i64 0, .slice none 0 0] 25) := ⟨_, rfl⟩
  have rs : Two w0 w.heap.size (.int .i64 0) (.slice none 0 0) := by rw [hw0]; exact Two.made _ _ _ _
  have E0 := Lib.hid (show Below w.heap.size w w0 by rw [hw0]; exact one_more _)
  have z0 : w0.heap.size = w.heap.size + 1 := by rw [hw0]; simp
  go_enter Try.func22, Try.ntmps22
  go_wp2_with fail
  rw [← hw0]
  clear hw0
  refine (P.out _).mono ?_
  intro e w4 hG
  obtain ⟨hb4, hres⟩ := hG
  have HB4 := Lib.hid hb4
  obtain ⟨q0, q1, q2, q3⟩ := (rs.kept hb4).facts
  rcases hres with ⟨he, g, c, rfl, hgl, hO⟩ | ⟨he, rfl⟩
  · have HOO := Lib.hid hO
    subst he
    clear hO hb4
    go_wp2_with fail
    refine bodyPost_ret (v := .tuple #[.agg #[.int .i64 N, .slice (some ⟨g, 0, none⟩) r.length c], .int .i64 0]) (by simp [results, Try.results22, go_sem, q0, q1]) rfl (zres_over E0.out HB4.out HOO.out hgl (by omega) (by omega) _ _)
  · have HEE := Lib.hid he
    clear he hb4
    go_wp2_with fail
    refine bodyPost_ret (v := .tuple #[.agg #[.int .i64 0, .slice none 0 0], .int .i64 er]) (by simp [results, Try.results22, go_sem, q0, q1]) rfl (zres_over0 E0.out HB4.out HEE.out (by omega) _ _)
end Go.Proofs.Ytmlknjiifjdimaa

namespace Go.Proofs.Ytmlknjiifjdimaa
open Go.RowKit

set_option maxRecDepth 100000 in
set_option maxHeartbeats 3200000 in
theorem zreduce_gen (N : Int) (l : List Int) (ao : Option Addr) (cap : Nat) (w : World) (hA : Arg w ao l) :
    Calls Try.prog 54 #[.agg #[.int .i64 N, .slice ao l.length cap]] w (CRes w (rdcL N l) (rdcE N l)) := by
  by_cases hc : chkE N l = 0
  · obtain ⟨n, rfl, hn, hl, hne⟩ := chk_ok hc
    obtain ⟨a, rfl, hR⟩ := hA hne
    have := reduce_any n l a cap w ⟨hn, hl, hc⟩ hR
    rw [show rdcL (n : Int) l = redL n l by unfold rdcL; rw [if_pos hc]; rfl, show rdcE (n : Int) l = 0 by unfold rdcE; rw [if_pos hc]]
    exact this
  · have HE := Lib.hid (show rdcE N l = 2 ∧ rdcL N l = [] by unfold rdcE rdcL; rw [if_neg hc, if_neg hc]; exact ⟨rfl, rfl⟩)
    have CK := Lib.hid (show ∀ W, Below w.heap.size w W → Calls Try.prog 17 #[.agg #[.int .i64 N, .slice ao l.length cap]] W (Made (.int .i64 2) W) from fun W h' => by
      have := zcheck_gen N l ao cap W (hA.on h'); rw [chk_two hc] at this; exact this)
    generalize l.length = len at *
    have E0 := Lib.hid (one_more (w1 := w) (.cells #[.int .i64 N, .slice ao len cap] 25))
    clear hA hc
    go_enter Try.func54, Try.ntmps54
    go_wp2_with fail
    refine (CK.out _ E0.out).mono ?_
    rintro e w1 ⟨rfl, hb1⟩
    have B1 := Lib.hid (below_on E0.out hb1)
    clear hb1
    go_wp2_with fail
    go_ret2
    rw [HE.out.1, HE.out.2]
    exact CRes.made B1.out (OwnC.nil _ _)

set_option maxRecDepth 100000 in
set_option maxHeartbeats 3200000 in
theorem rreduce_gen (N : Int) (l : List Int) (ao : Option Addr) (cap : Nat) (w : World) (hA : Arg w ao l) :
    Calls Try.prog 55 #[.agg #[.int .i64 N, .slice ao l.length cap]] w (CRes w (rdcL N l) (rdcE N l)) := by
  by_cases hc : chkE N l = 0
  · obtain ⟨n, rfl, hn, hl, hne⟩ := chk_ok hc
    obtain ⟨a, rfl, hR⟩ := hA hne
    have := rreduce_any n l a cap w hn hl hc hR
    rw [show rdcL (n : Int) l = redL n l by unfold rdcL; rw [if_pos hc]; rfl, show rdcE (n : Int) l = 0 by unfold rdcE; rw [if_pos hc]]
    exact this
  · have HE := Lib.hid (show rdcE N l = 2 ∧ rdcL N l = [] by unfold rdcE rdcL; rw [if_neg hc, if_neg hc]; exact ⟨rfl, rfl⟩)
    have CK := Lib.hid (show ∀ W, Below w.heap.size w W → Calls Try.prog 18 #[.agg #[.int .i64 N, .slice ao l.length cap]] W (Made (.int .i64 2) W) from fun W h' => by
      have := check_gen N l ao cap W (hA.on h'); rw [chk_two hc] at this; exact this)
    generalize l.length = len at *
    have E0 := Lib.hid (one_more (w1 := w) (.cells #[.int .i64 N, .slice ao len cap] 25))
    clear hA hc
    go_enter Try.func55, Try.ntmps55
    go_wp2_with fail
    refine (CK.out _ E0.out).mono ?_
    rintro e w1 ⟨rfl, hb1⟩
    have B1 := Lib.hid (below_on E0.out hb1)
    clear hb1
    go_wp2_with fail
    go_ret2
    rw [HE.out.1, HE.out.2]
    exact CRes.made B1.out (OwnC.nil _ _)

/-- Build: what All makes, and what the constraints make of it. -/
def buM (N : Int) : List Int := Zo.clo N.toNat (List.replicate ((N.toNat + 1) * (N.toNat + 1)) 1099511627776)

def buL (N : Int) (cs : List Con) : List Int := Zo.clo N.toNat (anL N.toNat cs (buM N))

def buE (N : Int) (cs : List Con) : Int := if flE N 1099511627776 = 0 then anG N cs (buM N) else flE N 1099511627776

set_option maxRecDepth 100000 in
set_option maxHeartbeats 4000000 in
theorem zbuild_gen (N : Int) (cs : List Con) (dao : Option Addr) (dc : Nat) (w : World) (hD : Arg3 w dao cs) (hdl : cs.length ≤ 1000) :
    Calls Try.prog 57 #[.int .i64 N, .slice dao cs.length dc] w (ZRes w N (buL N cs) (buE N cs)) := by
  have AL := Lib.hid (fun W => zall_gen N W)
  have AN := Lib.hid (show ∀ W g c, Below w.heap.size w W → Own W g c (buM N) → Calls Try.prog 24 #[.agg #[.int .i64 N, .slice (some ⟨g, 0, none⟩) (buM N).length c], .slice dao cs.length dc] W (ZRes W N (buL N cs) (anG N cs (buM N))) from fun W g c h hO => zan_gen N (buM N) (some ⟨g, 0, none⟩) c cs dao dc W hO.arg (hD.on h) hdl)
  have HB := Lib.hid (show buE N cs = if flE N 1099511627776 = 0 then anG N cs (buM N) else flE N 1099511627776 from rfl)
  change ∀ W, Calls Try.prog 22 #[.int .i64 N] W (ZRes W N (buM N) (flE N 1099511627776)) at AL
  generalize buL N cs = R at *
  generalize buE N cs = be at *
  generalize flE N 1099511627776 = fe at *
  generalize anG N cs (buM N) = ae at *
  generalize buM N = M at *
  generalize cs.length = clen at *
  obtain ⟨w0, hw0⟩ : ∃ w0, w0 = w.alloc (.cells #[.int .i64 0, .slice none 0 0] 25) := ⟨_, rfl⟩
  have rs : Two w0 w.heap.size (.int .i64 0) (.slice none 0 0) := by rw [hw0]; exact Two.made _ _ _ _
  have E0 := Lib.hid (show Below w.heap.size w w0 by rw [hw0]; exact one_more _)
  have z0 : w0.heap.size = w.heap.size + 1 := by rw [hw0]; simp
  have RS := Lib.hid rs
  clear hD hdl rs
  go_enter Try.func57, Try.ntmps57
  go_wp2_with fail
  rw [← hw0]
  clear hw0
  refine (AL _).mono ?_
  intro e w1 hz
  obtain ⟨hb1, hres⟩ := hz
  have B1 := Lib.hid hb1
  have hs1 := hb1.size
  clear hb1
  rcases hres with ⟨he, g, c, rfl, hg, hO⟩ | ⟨he, rfl⟩
  · subst he
    have HBE := Lib.hid (show be = ae by rw [HB.out]; rfl)
    obtain ⟨w2, hw2⟩ : ∃ w2, w2 = w1.alloc (.cells #[.int .i64 N, .slice (some ⟨g, 0, none⟩) M.length c] 25) := ⟨_, rfl⟩
    have bx : Two w2 w1.heap.size (.int .i64 N) (.slice (some ⟨g, 0, none⟩) M.length c) := by rw [hw2]; exact Two.made w1 _ _ _
    have hlt := hO.lt
    have O2 := Lib.hid (show Own w2 g c M by rw [hw2]; exact hO.alloc _)
    have B2 := Lib.hid (show Below w1.heap.size w1 w2 by rw [hw2]; exact one_more _)
    have HG := Lib.hid (show w.heap.size ≤ g by omega)
    have BX := Lib.hid bx
    obtain ⟨b0, b1, b2, b3⟩ := bx.facts
    clear hO hg bx
    go_upto_region 2 with (fail)
    rw [← hw2]
    clear hw2
    go_wp2_with fail
    refine (AN.out _ _ _ (below_on (below_on E0.out B1.out) B2.out) O2.out).mono ?_
    intro e w3 hz
    obtain ⟨hb3, hres⟩ := hz
    have Q := Lib.hid (below_on (below_on B1.out B2.out) hb3)
    obtain ⟨r0, r1, r2, r3⟩ := (RS.out.kept Q.out).facts
    have hs2 := B2.out.size
    rcases hres with ⟨he, g2, c2, rfl, hg2, hO2⟩ | ⟨he, rfl⟩
    · subst he
      have HO2 := Lib.hid hO2
      clear hO2 hb3 b0 b1 b2 b3
      go_wp2_with fail
      rw [HBE.out]
      refine bodyPost_ret (v := .tuple #[.agg #[.int .i64 N, .slice (some ⟨g2, 0, none⟩) R.length c2], .int .i64 0]) (by simp [results, Try.results57, go_sem, r0, r1]) rfl (zres_over E0.out Q.out HO2.out (by omega) (Nat.le_refl _) (by omega) _ _)
    · have HE := Lib.hid he
      clear he hb3 b0 b1 b2 b3
      go_wp2_with fail
      rw [HBE.out]
      refine bodyPost_ret (v := .tuple #[.agg #[.int .i64 0, .slice none 0 0], .int .i64 ae]) (by simp [results, Try.results57, go_sem, r0, r1]) rfl (zres_over0 E0.out Q.out HE.out (Nat.le_refl _) _ _)
  · have HBE := Lib.hid (show be = fe by rw [HB.out, if_neg he])
    have HE := Lib.hid he
    have D : (fe != 0) = true := by simpa using he
    clear he
    obtain ⟨w2, hw2⟩ : ∃ w2, w2 = w1.alloc (.cells #[.int .i64 0, .slice none 0 0] 25) := ⟨_, rfl⟩
    have Q := Lib.hid (show Below w0.heap.size w0 w2 by rw [hw2]; exact below_on B1.out (one_more _))
    go_upto_region 2 with (fail)
    rw [← hw2]
    clear hw2
    obtain ⟨r0, r1, r2, r3⟩ := (RS.out.kept Q.out).facts
    go_wp2_with fail
    rw [HBE.out]
    refine bodyPost_ret (v := .tuple #[.agg #[.int .i64 0, .slice none 0 0], .int .i64 fe]) (by simp [results, Try.results57, go_sem, r0, r1]) rfl (zres_over0 E0.out Q.out HE.out (Nat.le_refl _) _ _)

set_option maxRecDepth 100000 in
set_option maxHeartbeats 4000000 in
theorem rbuild_gen (N : Int) (cs : List Con) (dao : Option Addr) (dc : Nat) (w : World) (hD : Arg3 w dao cs) (hdl : cs.length ≤ 1000) :
    Calls Try.prog 58 #[.int .i64 N, .slice dao cs.length dc] w (ZRes w N (buL N cs) (buE N cs)) := by
  have AL := Lib.hid (fun W => all_gen N W)
  have AN := Lib.hid (show ∀ W g c, Below w.heap.size w W → Own W g c (buM N) → Calls Try.prog 25 #[.agg #[.int .i64 N, .slice (some ⟨g, 0, none⟩) (buM N).length c], .slice dao cs.length dc] W (ZRes W N (buL N cs) (anG N cs (buM N))) from fun W g c h hO => an_gen N (buM N) (some ⟨g, 0, none⟩) c cs dao dc W hO.arg (hD.on h) hdl)
  have HB := Lib.hid (show buE N cs = if flE N 1099511627776 = 0 then anG N cs (buM N) else flE N 1099511627776 from rfl)
  change ∀ W, Calls Try.prog 23 #[.int .i64 N] W (ZRes W N (buM N) (flE N 1099511627776)) at AL
  generalize buL N cs = R at *
  generalize buE N cs = be at *
  generalize flE N 1099511627776 = fe at *
  generalize anG N cs (buM N) = ae at *
  generalize buM N = M at *
  generalize cs.length = clen at *
  obtain ⟨w0, hw0⟩ : ∃ w0, w0 = w.alloc (.cells #[.int .i64 0, .slice none 0 0] 25) := ⟨_, rfl⟩
  have rs : Two w0 w.heap.size (.int .i64 0) (.slice none 0 0) := by rw [hw0]; exact Two.made _ _ _ _
  have E0 := Lib.hid (show Below w.heap.size w w0 by rw [hw0]; exact one_more _)
  have z0 : w0.heap.size = w.heap.size + 1 := by rw [hw0]; simp
  have RS := Lib.hid rs
  clear hD hdl rs
  go_enter Try.func58, Try.ntmps58
  go_wp2_with fail
  rw [← hw0]
  clear hw0
  refine (AL _).mono ?_
  intro e w1 hz
  obtain ⟨hb1, hres⟩ := hz
  have B1 := Lib.hid hb1
  have hs1 := hb1.size
  clear hb1
  rcases hres with ⟨he, g, c, rfl, hg, hO⟩ | ⟨he, rfl⟩
  · subst he
    have HBE := Lib.hid (show be = ae by rw [HB.out]; rfl)
    obtain ⟨w2, hw2⟩ : ∃ w2, w2 = w1.alloc (.cells #[.int .i64 N, .slice (some ⟨g, 0, none⟩) M.length c] 25) := ⟨_, rfl⟩
    have bx : Two w2 w1.heap.size (.int .i64 N) (.slice (some ⟨g, 0, none⟩) M.length c) := by rw [hw2]; exact Two.made w1 _ _ _
    have hlt := hO.lt
    have O2 := Lib.hid (show Own w2 g c M by rw [hw2]; exact hO.alloc _)
    have B2 := Lib.hid (show Below w1.heap.size w1 w2 by rw [hw2]; exact one_more _)
    have HG := Lib.hid (show w.heap.size ≤ g by omega)
    have BX := Lib.hid bx
    obtain ⟨b0, b1, b2, b3⟩ := bx.facts
    clear hO hg bx
    go_upto_region 2 with (fail)
    rw [← hw2]
    clear hw2
    go_wp2_with fail
    refine (AN.out _ _ _ (below_on (below_on E0.out B1.out) B2.out) O2.out).mono ?_
    intro e w3 hz
    obtain ⟨hb3, hres⟩ := hz
    have Q := Lib.hid (below_on (below_on B1.out B2.out) hb3)
    obtain ⟨r0, r1, r2, r3⟩ := (RS.out.kept Q.out).facts
    have hs2 := B2.out.size
    rcases hres with ⟨he, g2, c2, rfl, hg2, hO2⟩ | ⟨he, rfl⟩
    · subst he
      have HO2 := Lib.hid hO2
      clear hO2 hb3 b0 b1 b2 b3
      go_wp2_with fail
      rw [HBE.out]
      refine bodyPost_ret (v := .tuple #[.agg #[.int .i64 N, .slice (some ⟨g2, 0, none⟩) R.length c2], .int .i64 0]) (by simp [results, Try.results58, go_sem, r0, r1]) rfl (zres_over E0.out Q.out HO2.out (by omega) (Nat.le_refl _) (by omega) _ _)
    · have HE := Lib.hid he
      clear he hb3 b0 b1 b2 b3
      go_wp2_with fail
      rw [HBE.out]
      refine bodyPost_ret (v := .tuple #[.agg #[.int .i64 0, .slice none 0 0], .int .i64 ae]) (by simp [results, Try.results58, go_sem, r0, r1]) rfl (zres_over0 E0.out Q.out HE.out (Nat.le_refl _) _ _)
  · have HBE := Lib.hid (show be = fe by rw [HB.out, if_neg he])
    have HE := Lib.hid he
    have D : (fe != 0) = true := by simpa using he
    clear he
    obtain ⟨w2, hw2⟩ : ∃ w2, w2 = w1.alloc (.cells #[.int .i64 0, .slice none 0 0] 25) := ⟨_, rfl⟩
    have Q := Lib.hid (show Below w0.heap.size w0 w2 by rw [hw2]; exact below_on B1.out (one_more _))
    go_upto_region 2 with (fail)
    rw [← hw2]
    clear hw2
    obtain ⟨r0, r1, r2, r3⟩ := (RS.out.kept Q.out).facts
    go_wp2_with fail
    rw [HBE.out]
    refine bodyPost_ret (v := .tuple #[.agg #[.int .i64 0, .slice none 0 0], .int .i64 fe]) (by simp [results, Try.results58, go_sem, r0, r1]) rfl (zres_over0 E0.out Q.out HE.out (Nat.le_refl _) _ _)
end Go.Proofs.Ytmlknjiifjdimaa

namespace Go.Proofs.Ytmlknjiifjdimaa
open Go.RowKit

def z2L : List Int := [1, 1, 1, 1, 1, 1, 1, 1, 1]

theorem z2_clo : Zo.clo 2 (List.replicate 9 1) = z2L := by decide +kernel

theorem z2_e : flE 2 1 = 0 := by decide +kernel

theorem z2_rd : rdcL 2 z2L = [(1, 2, 1), (2, 0, 1)] ∧ rdcE 2 z2L = 0 := by decide +kernel

theorem z2_bu : buL 2 [(1, 2, 1), (2, 0, 1)] = z2L ∧ buE 2 [(1, 2, 1), (2, 0, 1)] = 0 := by decide +kernel

theorem z2_no : buE 1 [(1, 0, 0)] = 4 := by decide +kernel
end Go.Proofs.Ytmlknjiifjdimaa

namespace Go.Proofs.Ytmlknjiifjdimaa
open Go.RowKit

theorem con_ext {cs ds : List Con} (hl : cs.length = ds.length) (h : ∀ k, k < cs.length → gc cs k = gc ds k) : cs = ds := by
  apply List.ext_getElem hl
  intro i h1 h2
  have := h i h1
  simpa [gc, h1, h2] using this

set_option maxRecDepth 100000 in
set_option maxHeartbeats 1600000 in
theorem lcs_any (cs ds : List Con) (ao bo : Option Addr) (ca cb : Nat) (w : World) (hA : Arg3 w ao cs) (hB : Arg3 w bo ds) (hl : cs.length ≤ 1000) :
    Calls Try.prog 56 #[.slice ao cs.length ca, .slice bo ds.length cb] w (Made (.bool (decide (cs = ds))) w) := by
  by_cases hlen : cs.length = ds.length
  case neg =>
    have HF := Lib.hid (show decide (cs = ds) = false from decide_eq_false (fun e => hlen (by rw [e])))
    have D : ((cs.length : Int) != (ds.length : Int)) = true := by simp; omega
    clear hA hB
    generalize cs.length = c at *
    generalize ds.length = d at *
    go_enter Try.func56, Try.ntmps56
    go_wp2_with fail
    go_ret
    exact ⟨ret_bool HF.out.symm, Below.refl _ _⟩
  case pos =>
    have D : ((cs.length : Int) != (ds.length : Int)) = false := by simp; omega
    obtain ⟨len, hc⟩ : ∃ len, len = cs.length := ⟨_, rfl⟩
    have hd : ds.length = len := by omega
    have HC := Lib.hid hc
    have HDD := Lib.hid hd
    have HA := Lib.hid hA
    have HB := Lib.hid hB
    rw [hd, ← hc] at D
    rw [hd, ← hc]
    have hl2 : len ≤ 1000 := by omega
    clear hlen hc hd hA hB hl
    go_enter Try.func56, Try.ntmps56
    go_wp2_with fail
    go_loopw [5] (fun s wr => ∃ t : Nat, t ≤ len ∧ s = .int .i64 t ∧ Hid (∀ k, k < t → gc cs k = gc ds k) ∧ Hid (Below w.heap.size w wr)) (fun s _ => len - (intOf s).toNat)
    case atStart => exact ⟨0, by omega, rfl, Lib.hid (fun k hk => by omega), Lib.hid (Below.refl _ _)⟩
    case round =>
      obtain ⟨t, ht, rfl, HT, HW⟩ := hrel
      by_cases htn : t < len
      case pos =>
        obtain ⟨a, rfl, hR⟩ := HA.out (fun e => by have := HC.out; rw [e] at this; simp at this; omega)
        obtain ⟨b, rfl, hS⟩ := HB.out (fun e => by have := HDD.out; rw [e] at this; simp at this; omega)
        obtain ⟨a0, a1, a2⟩ := (hR.on HW.out) t (by rw [← HC.out]; exact htn)
        obtain ⟨b0, b1, b2⟩ := (hS.on HW.out) t (by rw [HDD.out]; exact htn)
        clear hR hS
        obtain ⟨p, hp⟩ : ∃ p, p = gc cs t := ⟨_, rfl⟩
        obtain ⟨q, hq⟩ : ∃ q, q = gc ds t := ⟨_, rfl⟩
        rw [← hp] at a0 a1 a2
        rw [← hq] at b0 b1 b2
        have HP := Lib.hid hp
        have HQ := Lib.hid hq
        clear hp hq
        obtain ⟨i, j, x⟩ := p
        obtain ⟨i', j', x'⟩ := q
        simp only at a0 a1 a2 b0 b1 b2
        by_cases he : ((i, j, x) : Con) = (i', j', x')
        case pos =>
          have HT2 := Lib.hid (show ∀ k, k < t + 1 → gc cs k = gc ds k from fun k hk => by
            by_cases e : k = t
            · rw [e, ← HP.out, ← HQ.out]; exact he
            · exact HT.out k (by omega))
          simp only [Prod.mk.injEq] at he
          obtain ⟨rfl, rfl, rfl⟩ := he
          go_wp2_with fail
          go_quiet (fail)
          go_wp2_with fail
          go_roundw
          case rel => exact ⟨t + 1, by omega, by go_num, HT2, Lib.hid (below_drewN HW.out _)⟩
          case measure => simp [intOf]; omega
        case neg =>
          have HF := Lib.hid (show decide (cs = ds) = false from decide_eq_false (fun e => he (by rw [HP.out, HQ.out, e])))
          by_cases c1 : i = i'
          case neg =>
            have D1 : (i == i') = false := by simpa using c1
            clear he c1
            go_wp2_with fail
            go_quiet (fail)
            go_wp2_with fail
            go_ret
            exact ⟨ret_bool HF.out.symm, below_drewN HW.out _⟩
          case pos =>
            by_cases c2 : j = j'
            case neg =>
              have D1 : (j == j') = false := by simpa using c2
              subst c1
              clear he c2
              go_wp2_with fail
              go_quiet (fail)
              go_wp2_with fail
              go_ret
              exact ⟨ret_bool HF.out.symm, below_drewN HW.out _⟩
            case pos =>
              have c3 : x ≠ x' := fun e => he (by rw [c1, c2, e])
              have D1 : (x == x') = false := by simpa using c3
              subst c1
              subst c2
              clear he c3
              go_wp2_with fail
              go_quiet (fail)
              go_wp2_with fail
              go_ret
              exact ⟨ret_bool HF.out.symm, below_drewN HW.out _⟩
      case neg =>
        have HF := Lib.hid (show decide (cs = ds) = true from decide_eq_true (con_ext (by rw [← HC.out, HDD.out]) (fun k hk => HT.out k (by rw [← HC.out] at hk; omega))))
        go_wp2_with fail
        go_ret
        exact ⟨ret_bool HF.out.symm, HW.out⟩
end Go.Proofs.Ytmlknjiifjdimaa

namespace Go.Proofs.Ytmlknjiifjdimaa
open Go.RowKit

theorem rd3_one (w : World) (i j x : Int) (t : TypeId) : Rd3 (w.alloc (.cells #[.int .i64 i, .int .i64 j, .int .i64 x] t)) ⟨w.heap.size, 0, none⟩ [(i, j, x)] := by
  intro k hk
  obtain rfl : k = 0 := by simp at hk; omega
  rw [addr_add]
  refine ⟨?_, ?_, ?_⟩ <;> (simp only [gc]; go_simp)

theorem rd3_two (w : World) (i j x i' j' x' : Int) (t : TypeId) : Rd3 (w.alloc (.cells #[.int .i64 i, .int .i64 j, .int .i64 x, .int .i64 i', .int .i64 j', .int .i64 x'] t)) ⟨w.heap.size, 0, none⟩ [(i, j, x), (i', j', x')] := by
  intro k hk
  rw [addr_add]
  match k, hk with
  | 0, _ => refine ⟨?_, ?_, ?_⟩ <;> (simp only [gc]; go_simp)
  | 1, _ => refine ⟨?_, ?_, ?_⟩ <;> (simp only [gc]; go_simp)

set_option maxRecDepth 100000 in
set_option maxHeartbeats 4000000 in
theorem shown4_any (w : World) : Calls Try.prog 53 #[] w (Made (.bool true) w) := by
  have ZE := Lib.hid (show ∀ W, Calls Try.prog 21 #[.int .i64 2] W (ZRes W 2 z2L 0) from fun W => by
    have := zero_gen 2 W
    rw [z2_e] at this
    exact this)
  have RD := Lib.hid (show ∀ W ao cap, Arg W ao z2L → Calls Try.prog 54 #[.agg #[.int .i64 2, .slice ao 9 cap]] W (CRes W [(1, 2, 1), (2, 0, 1)] 0) from fun W ao cap hA => by
    have := zreduce_gen 2 z2L ao cap W hA
    rw [z2_rd.1, z2_rd.2] at this
    exact this)
  have BU := Lib.hid (show ∀ W dao dc, Arg3 W dao [(1, 2, 1), (2, 0, 1)] → Calls Try.prog 57 #[.int .i64 2, .slice dao 2 dc] W (ZRes W 2 z2L 0) from fun W dao dc hD => by
    have := zbuild_gen 2 [(1, 2, 1), (2, 0, 1)] dao dc W hD (by simp)
    rw [z2_bu.1, z2_bu.2] at this
    exact this)
  have BV := Lib.hid (show ∀ W dao dc, Arg3 W dao [(1, 0, 0)] → Calls Try.prog 57 #[.int .i64 1, .slice dao 1 dc] W (ZRes W 1 (buL 1 [(1, 0, 0)]) 4) from fun W dao dc hD => by
    have := zbuild_gen 1 [(1, 0, 0)] dao dc W hD (by simp)
    rw [z2_no] at this
    exact this)
  have SC := Lib.hid (show ∀ W ao ca bo cb, Arg3 W ao [(1, 2, 1), (2, 0, 1)] → Arg3 W bo [(1, 2, 1), (2, 0, 1)] → Calls Try.prog 56 #[.slice ao 2 ca, .slice bo 2 cb] W (Made (.bool true) W) from fun W ao ca bo cb hA hB => by
    have := lcs_any [(1, 2, 1), (2, 0, 1)] [(1, 2, 1), (2, 0, 1)] ao bo ca cb W hA hB (by simp)
    rw [decide_eq_true rfl] at this
    exact this)
  have SM := Lib.hid (show ∀ W ao ca bo cb, Arg W ao z2L → Arg W bo z2L → Calls Try.prog 41 #[.agg #[.int .i64 2, .slice ao 9 ca], .agg #[.int .i64 2, .slice bo 9 cb]] W (Made (.bool true) W) from fun W ao ca bo cb hA hB => by
    have := same_any 2 2 z2L z2L ao bo ca cb W hA hB (by decide)
    rw [show smB 2 2 z2L z2L = true by decide] at this
    exact this)
  have HLn := Lib.hid (show z2L.length = 9 from rfl)
  have HN := Lib.hid (show z2L ≠ [] by decide)
  generalize z2L = Z at *
  generalize buL 1 [(1, 0, 0)] = Z1 at *
  go_enter Try.func53, Try.ntmps53
  go_wp2_with fail
  refine (ZE.out _).mono ?_
  intro e w1 hz
  obtain ⟨g1, c1, rfl, hg1, hO1, hb1⟩ := hz.ok rfl
  rw [HLn.out]
  obtain ⟨w2, hw2⟩ : ∃ w2, w2 = w1.alloc (.cells #[.int .i64 2, .slice (some ⟨g1, 0, none⟩) 9 c1] 25) := ⟨_, rfl⟩
  have x2 : Two w2 w1.heap.size (.int .i64 2) (.slice (some ⟨g1, 0, none⟩) 9 c1) := by rw [hw2]; exact Two.made _ _ _ _
  have A2 := Lib.hid (show Own w2 g1 c1 Z by rw [hw2]; exact hO1.alloc _)
  have B2 := Lib.hid (show Below w.heap.size w w2 by rw [hw2]; exact hb1.alloc hb1.size _)
  have X2 := Lib.hid x2
  clear hO1 hb1 x2
  obtain ⟨b0, b1, b2, b3⟩ := X2.out.facts
  go_upto_region 2 with (fail)
  rw [← hw2]
  clear hw2
  go_wp2_with fail
  refine (RD.out _ _ _ A2.out.arg).mono ?_
  rintro e w3 ⟨hb3, v, rfl, hv⟩
  obtain ⟨lo, lc, rfl, hL⟩ := OwnC.arg hv
  have HL := Lib.hid hL
  have B3 := Lib.hid hb3
  clear hL hv hb3 b0 b1 b2 b3
  go_wp2_with fail
  refine (BU.out _ _ _ HL.out).mono ?_
  intro e w4 hz
  obtain ⟨g4, c4, rfl, hg4, hO4, hb4⟩ := hz.ok rfl
  rw [HLn.out]
  obtain ⟨w5, hw5⟩ : ∃ w5, w5 = w4.alloc (.cells #[.int .i64 2, .slice (some ⟨g4, 0, none⟩) 9 c4] 25) := ⟨_, rfl⟩
  have x5 : Two w5 w4.heap.size (.int .i64 2) (.slice (some ⟨g4, 0, none⟩) 9 c4) := by rw [hw5]; exact Two.made _ _ _ _
  have A5 := Lib.hid (show Own w5 g4 c4 Z by rw [hw5]; exact hO4.alloc _)
  have B5 := Lib.hid (show Below w3.heap.size w3 w5 by rw [hw5]; exact hb4.alloc hb4.size _)
  have X5 := Lib.hid x5
  clear hO4 hb4 x5
  go_upto_region 4 with (fail)
  rw [← hw5]
  clear hw5
  have R6 := Lib.hid (rd3_one w5 1 0 0 56)
  have B6 := Lib.hid (one_more (w1 := w5) (.cells #[.int .i64 1, .int .i64 0, .int .i64 0] 56))
  go_wp2_with fail
  refine (BV.out _ _ _ (fun _ => ⟨_, rfl, R6.out⟩)).mono ?_
  intro e w7 hz
  obtain ⟨rfl, hb7⟩ := hz.no (by decide)
  have B7 := Lib.hid (below_on B6.out hb7)
  clear hb7
  obtain ⟨w8, hw8⟩ : ∃ w8, w8 = w7.alloc (.cells #[.int .i64 0, .slice none 0 0] 25) := ⟨_, rfl⟩
  have B8 := Lib.hid (show Below w5.heap.size w5 w8 by rw [hw8]; exact B7.out.alloc B7.out.size _)
  go_upto_region 5 with (fail)
  rw [← hw8]
  clear hw8
  have R9 := Lib.hid (rd3_two w8 1 2 1 2 0 1 56)
  have B9 := Lib.hid (one_more (w1 := w8) (.cells #[.int .i64 1, .int .i64 2, .int .i64 1, .int .i64 2, .int .i64 0, .int .i64 1] 56))
  have B38 := Lib.hid (below_on (below_on B5.out B8.out) B9.out)
  go_wp2_with fail
  refine (SC.out _ _ _ _ _ (HL.out.on B38.out) (fun _ => ⟨_, rfl, R9.out⟩)).mono ?_
  rintro e w10 ⟨rfl, hb10⟩
  have B10 := Lib.hid hb10
  clear hb10
  have Q5 := Lib.hid (show Below w5.heap.size w5 w10 from below_on (below_on B8.out B9.out) B10.out)
  have Q2 := Lib.hid (show Below w2.heap.size w2 w10 from below_on (below_on B3.out B5.out) Q5.out)
  obtain ⟨b0, b1, b2, b3⟩ := (X2.out.kept Q2.out).facts
  obtain ⟨d0, d1, d2, d3⟩ := (X5.out.kept Q5.out).facts
  go_wp2_with fail
  refine (SM.out _ _ _ _ _ (own_below A5.out Q5.out).arg (own_below A2.out Q2.out).arg).mono ?_
  rintro e w11 ⟨rfl, hb11⟩
  have Q := Lib.hid (show Below w.heap.size w w11 from below_on (below_on B2.out Q2.out) hb11)
  clear hb11 b0 b1 b2 b3 d0 d1 d2 d3
  go_wp2_with fail
  go_ret
  exact ⟨rfl, Q.out⟩
end Go.Proofs.Ytmlknjiifjdimaa

namespace Go.Proofs.Ytmlknjiifjdimaa
open Go.ChangeShapes Go.WideShapes Go.ChangeAt Go.RowKit Go.Joins Go.Deep

theorem Try.own : ownKnob Try.prog.godebug = none := by kernel_rfl

theorem Try.laidOut : laidOutB Try.prog = true := by kernel_rfl

theorem trodAll_stays {H : Type} {enc : TypeId × Value → H} {W W' : World} {sp : Nat → Bool} : ∀ {ts : List TypeId} {vs : List Value} {ds : List (DataW H)} {ps : List MemPlace}, (∀ t ∈ ts, Try.prog.readableRec t = true ∧ t < Try.prog.types.size) →
    DataW.TrodAll enc Try.prog W 0 (fun _ => true) true ts vs ds ps → (∀ p ∈ ps, W.sameAt W' p) → (∀ p ∈ ps, sp p.block = true) → DataW.TrodAll enc Try.prog W' 0 sp true ts vs ds ps
  | [], [], [], _, _, h, _, _ => h
  | [], [], _ :: _, _, _, h, _, _ => h.elim
  | [], _ :: _, _, _, _, h, _, _ => h.elim
  | _ :: _, [], _, _, _, h, _, _ => h.elim
  | _ :: _, _ :: _, [], _, _, h, _, _ => h.elim
  | t :: ts, v :: vs, d :: ds, ps, ht, h, h1, h2 => by
    obtain ⟨p, q, ha, hb, rfl⟩ := h
    obtain ⟨r1, r2⟩ := ht t (List.mem_cons_self ..)
    exact ⟨p, q, WideElems.Trod_stays Try.laidOut r1 r2 ha (fun x hx => h1 x (List.mem_append_left _ hx)) (fun x hx => h2 x (List.mem_append_left _ hx)),
      trodAll_stays (fun t ht' => ht t (List.mem_cons_of_mem _ ht')) hb (fun x hx => h1 x (List.mem_append_right _ hx)) (fun x hx => h2 x (List.mem_append_right _ hx)), rfl⟩

set_option maxRecDepth 100000 in
/-- The last step of a law: it has returned true; its arguments read as they did, for the call has only made memory. -/
theorem post_law {H : Type} {enc : TypeId × Value → H} {f : Func} {s : ChangeSpec} {apart fresh handsOn again : Bool} {W W' : World} {args : Array Value} {ds gs : List (DataW H)} {before : List MemPlace}
    (hW : DataW.Whole enc Try.prog f.params.toList s.vars apart W args.toList ds gs before) (hv : s.vars = []) (hb : Below W.heap.size W W')
    (ht : ∀ t ∈ f.params.toList, Try.prog.readableRec t = true ∧ t < Try.prog.types.size)
    (hr : f.resultTypes.toList = [4]) (hs : f.resultTypes.size = 1) (hs1 : f.resultTypes[0]? = some 4)
    (hres : (s.fn H ds).results = [.lit (.bool true)]) (hargs : (s.fn H ds).args = ds) (hvars : (s.fn H ds).vars = []) :
    s.post enc Try.prog f apart fresh handsOn again W args (.bool true) W' := by
  have hlt : ∀ p ∈ before, p.block < W.heap.size := fun p hp => hW.lt p hp
  have hW0 := hW
  obtain ⟨p, q, hA, hV, rfl, hz, hn⟩ := hW
  rw [hv] at hV
  obtain ⟨rfl, rfl⟩ := trodVars_none hV
  simp only [List.append_nil] at hlt hz hn hW0
  have key : ∀ sp : Nat → Bool, (∀ x ∈ p, sp x.block = true) → DataW.TrodAll enc Try.prog W' 0 sp true f.params.toList args.toList ds p := fun sp hsp =>
    trodAll_stays ht hA (fun x hx => hb.same (hlt x hx)) hsp
  have res : ∀ (b : Nat) (sp : Nat → Bool) (hd : Bool), DataW.TrodAll enc Try.prog W' b sp hd f.resultTypes.toList ((Value.bool true).resultList f.resultTypes.size) [.lit (.bool true)] [] := fun b sp hd => by
    rw [hr, hs]
    exact trodAll_mk1 (shut_bool Try.underlying4 _)
  have none : ∀ sp : Nat → Bool, DataW.TrodVars enc Try.prog W' sp s.vars (s.fn H (ds ++ [])).vars [] := fun sp => by
    rw [hv, List.append_nil, hvars]; rfl
  have kA : ∀ sp : Nat → Bool, (∀ x ∈ p, sp x.block = true) → DataW.TrodAll enc Try.prog W' 0 sp true f.params.toList args.toList (s.fn H (ds ++ [])).args p := fun sp hsp => by
    rw [List.append_nil, hargs]; exact key sp hsp
  have kR : ∀ (b : Nat) (sp : Nat → Bool) (hd : Bool), DataW.TrodAll enc Try.prog W' b sp hd f.resultTypes.toList ((Value.bool true).resultList f.resultTypes.size) (s.fn H (ds ++ [])).results [] := fun b sp hd => by
    rw [List.append_nil, hres]; exact res b sp hd
  refine ⟨ds, [], p, [], p, [], by simpa using hW0, kR _ _ _, ?_, none _, ?_, fun _ => ?_⟩
  · exact kA _ (fun x hx => by simpa using hlt x hx)
  · exact World.keptBut_mono (fun x hx => ⟨hx, by simpa using hx⟩) (hb.frame (· ∈ p))
  · refine ⟨?_, _, _, ([] ++ p) ++ [], ⟨[] ++ p, [], trodAll_append (kA _ (fun _ _ => rfl)) (kR _ _ _), none _, rfl, ?_, ?_⟩, ?_⟩
    · intro j t r h1 h2
      rw [hs] at h2
      cases j with
      | zero =>
        rw [hs1] at h1
        simp [Value.resultList] at h2
        subst h2
        have e := Option.some.inj h1
        rw [← e]
        exact okWide_bool_mk Try.underlying4 _
      | succ j => rw [Array.getElem?_eq_none (by omega)] at h1; cases h1
    · intro b off hp
      have hin : MemPlace.cell b off ∈ p := by simpa using hp
      rw [hb.frozen (hlt _ hin)]
      exact hz b off hin
    · intro ha
      simpa using hn ha
    · intro x hx _
      simpa using hx
end Go.Proofs.Ytmlknjiifjdimaa

namespace Go.Proofs.Ytmlknjiifjdimaa
open Go.ChangeShapes Go.WideShapes Go.ChangeAt Go.RowKit Go.Joins Go.Deep

theorem Try.cells43 : Try.prog.cellsOf 43 = 1 := by kernel_rfl

theorem Try.cells22 : Try.prog.cellsOf 22 = 1 := by kernel_rfl

theorem Try.cells3 : Try.prog.cellsOf 3 = 1 := by kernel_rfl

theorem Try.cells25 : Try.prog.cellsOf 25 = 2 := by kernel_rfl

theorem Try.cells56 : Try.prog.cellsOf 56 = 3 := by kernel_rfl

theorem wf_i64 {n : Int} (h : (Lit.int .i64 n).wf = true) : I64 n := by
  simp [Lit.wf, IntKind.min, IntKind.max, IntKind.signed, IntKind.bits] at h
  exact ⟨by omega, by omega⟩

/-- A slice of limits. -/
theorem open_limits {H : Type} {enc : TypeId × Value → H} {W : World} {base fuel : Nat} {sp : Nat → Bool} {held : Bool} {c : Value} {y : DataW H × List MemPlace}
    (h : DataW.trod enc Try.prog W base sp held fuel 22 [c] = some y) : ∃ (ao : Option Addr) (l : List Int) (cap : Nat), c = .slice ao l.length cap ∧ Arg W ao l ∧ l.length ≤ maxLen := by
  rcases open_ints Try.underlying22 Try.underlying43 Try.cells43 h with ⟨e, _⟩ | ⟨a, len, cap, zs, e, _, hl, hm, hz, _, hc, _⟩
  · simp at e
    exact ⟨none, [], 0, by simpa using e, fun q => absurd rfl q, by simp⟩
  · simp at e
    have hlen : len ≤ zs.length := by rw [hz]; split <;> omega
    refine ⟨some a, zs.take len, cap, by rw [e]; simp [hlen], fun _ => ⟨a, rfl, fun j hj => ?_⟩, by simp; omega⟩
    simp at hj
    rw [hc j (by omega)]
    simp [Zo.gt, show j < len by omega]

set_option maxRecDepth 100000 in
/-- A zone by value. -/
theorem open_zone {H : Type} {enc : TypeId × Value → H} {W : World} {base : Nat} {sp : Nat → Bool} {held : Bool} {r : Reach} {b0 : Nat} {v : Value} {d : DataW H} {p : List MemPlace}
    (hv : Value.okWide Try.prog W r b0 25 v) (h : DataW.Trod enc Try.prog W base sp held 25 v d p) :
    ∃ (N : Int) (ao : Option Addr) (l : List Int) (cap : Nat), v = .agg #[.int .i64 N, .slice ao l.length cap] ∧ I64 N ∧ Arg W ao l ∧ l.length ≤ maxLen := by
  obtain ⟨v0, v1, y0, y1, n, rfl, _, _, h0, h1⟩ := open_agg2 Try.underlying25 (by kernel_rfl) Try.cells25 hv h
  obtain ⟨N, e0, _, w0⟩ := DataW.trod_int Try.underlying3 h0
  simp at e0
  obtain ⟨ao, l, cap, e1, hA, hl⟩ := open_limits h1
  exact ⟨N, ao, l, cap, by rw [e0, e1], wf_i64 w0, hA, hl⟩

set_option maxRecDepth 100000 in
/-- A struct of three integers. -/
theorem trod_con {H : Type} {enc : TypeId × Value → H} {W : World} {base fuel : Nat} {sp : Nat → Bool} {held : Bool} {cs : List Value} {y : DataW H × List MemPlace}
    (h : DataW.trod enc Try.prog W base sp held fuel 56 cs = some y) : ∃ i j x : Int, cs = [.int .i64 i, .int .i64 j, .int .i64 x] ∧ I64 i ∧ I64 j ∧ I64 x := by
  obtain ⟨xs, n, _, _, hl, hx, hf⟩ := DataW.trod_struct Try.underlying56 h
  rw [Try.cells56] at hl
  match cs, hl with
  | [a, b, c], _ =>
    have g0 := hf 0 _ rfl
    have g1 := hf 1 _ rfl
    have g2 := hf 2 _ rfl
    match xs, hx with
    | [y0, y1, y2], _ =>
      simp [Try.cells3, Try.cells43] at g0 g1 g2
      obtain ⟨i, e0, _, w0⟩ := DataW.trod_int Try.underlying3 g0
      obtain ⟨j, e1, _, w1⟩ := DataW.trod_int Try.underlying3 g1
      obtain ⟨x, e2, _, w2⟩ := DataW.trod_int Try.underlying43 g2
      simp at e0 e1 e2
      exact ⟨i, j, x, by rw [e0, e1, e2], wf_i64 w0, wf_i64 w1, wf_i64 w2⟩

theorem add_two (a : Addr) (k j : Nat) (hj : 0 < j) : (a.add k).add j = ⟨(a.add k).block, (a.add k).off + j, none⟩ := by
  generalize a.add k = b
  unfold Addr.add
  rw [if_neg (by omega)]

/-- A slice of constraints. -/
theorem open_cons {H : Type} {enc : TypeId × Value → H} {W : World} {base fuel : Nat} {sp : Nat → Bool} {held : Bool} {c : Value} {y : DataW H × List MemPlace}
    (h : DataW.trod enc Try.prog W base sp held fuel 35 [c] = some y) :
    ∃ (ao : Option Addr) (cs : List Con) (cap : Nat), c = .slice ao cs.length cap ∧ Arg3 W ao cs ∧ cs.length ≤ maxLen ∧ (∀ k, k < cs.length → (I64 (gc cs k).1 ∧ I64 (gc cs k).2.1 ∧ I64 (gc cs k).2.2)) ∧ (ao = none → cs = [] ∧ cap = 0) := by
  rcases open_slice Try.underlying35 h with ⟨e, _⟩ | ⟨a, len, cap, m, n, D, Pl, e, _, hl, hm, hmm, _, hi⟩
  · simp at e
    exact ⟨none, [], 0, by simpa using e, fun q => absurd rfl q, by simp, fun k hk => by simp at hk, fun _ => ⟨rfl, rfl⟩⟩
  · simp at e
    have hlen : len ≤ m := by rw [hmm]; split <;> omega
    have key : ∀ i, i < len → ∃ q : Con, (W.cell? (a.add (i * 3)) = some (.int .i64 q.1) ∧ W.cell? ⟨(a.add (i * 3)).block, (a.add (i * 3)).off + 1, none⟩ = some (.int .i64 q.2.1) ∧ W.cell? ⟨(a.add (i * 3)).block, (a.add (i * 3)).off + 2, none⟩ = some (.int .i64 q.2.2)) ∧ I64 q.1 ∧ I64 q.2.1 ∧ I64 q.2.2 := fun i hil => by
      obtain ⟨cs', hc, ht⟩ := hi i (by omega)
      rw [Try.cells56] at hc
      obtain ⟨x, y, z, rfl, w0, w1, w2⟩ := trod_con ht
      obtain ⟨_, hcl, hat⟩ := World.cells?_some hc
      have c0 := hat 0 (by simp)
      have c1 := hat 1 (by simp)
      have c2 := hat 2 (by simp)
      rw [add_two _ _ _ (by omega)] at c1 c2
      rw [show (a.add (i * 3)).add 0 = a.add (i * 3) by simp [Addr.add]] at c0
      exact ⟨(x, y, z), ⟨by simpa using c0, by simpa using c1, by simpa using c2⟩, w0, w1, w2⟩
    obtain ⟨F, hF⟩ : ∃ F : Nat → Con, ∀ i, i < len → (W.cell? (a.add (i * 3)) = some (.int .i64 (F i).1) ∧ W.cell? ⟨(a.add (i * 3)).block, (a.add (i * 3)).off + 1, none⟩ = some (.int .i64 (F i).2.1) ∧ W.cell? ⟨(a.add (i * 3)).block, (a.add (i * 3)).off + 2, none⟩ = some (.int .i64 (F i).2.2)) ∧ I64 (F i).1 ∧ I64 (F i).2.1 ∧ I64 (F i).2.2 := by
      refine ⟨fun i => if h : i < len then (key i h).choose else (0, 0, 0), fun i hil => ?_⟩
      simp only [dif_pos hil]
      exact (key i hil).choose_spec
    have hg : ∀ i, i < len → gc ((List.range len).map F) i = F i := fun i hil => by simp [gc, hil]
    refine ⟨some a, (List.range len).map F, cap, by rw [e]; simp, fun _ => ⟨a, rfl, fun j hj => ?_⟩, by simp; omega, fun k hk => ?_, fun q => by cases q⟩
    · simp at hj
      rw [hg j hj]
      exact (hF j hj).1
    · simp at hk
      rw [hg k hk]
      exact (hF k hk).2

set_option maxRecDepth 100000 in
/-- A slice of one cell, by value, and its reading. -/
theorem trod_slice1 {H : Type} {enc : TypeId × Value → H} {W : World} {base : Nat} {sp : Nat → Bool} {held : Bool} {r : Reach} {b0 : Nat} {t e : TypeId} {v : Value} {d : DataW H} {p : List MemPlace} (ht : Try.prog.underlying t = some (.slice e))
    (hv : Value.okWide Try.prog W r b0 t v) (h : DataW.Trod enc Try.prog W base sp held t v d p) : ∃ n, DataW.trod enc Try.prog W base sp held n t [v] = some (d, p) := by
  obtain ⟨n, hn⟩ := h
  obtain ⟨a, l, c, rfl⟩ := okWide_slice ht hv
  exact ⟨n, hn⟩

set_option maxRecDepth 100000 in
theorem open_cons_arg {H : Type} {enc : TypeId × Value → H} {W : World} {base : Nat} {sp : Nat → Bool} {held : Bool} {r : Reach} {b0 : Nat} {v : Value} {d : DataW H} {p : List MemPlace}
    (hv : Value.okWide Try.prog W r b0 35 v) (h : DataW.Trod enc Try.prog W base sp held 35 v d p) :
    ∃ (ao : Option Addr) (cs : List Con) (cap : Nat), v = .slice ao cs.length cap ∧ Arg3 W ao cs ∧ cs.length ≤ maxLen ∧ (∀ k, k < cs.length → (I64 (gc cs k).1 ∧ I64 (gc cs k).2.1 ∧ I64 (gc cs k).2.2)) ∧ (ao = none → cs = [] ∧ cap = 0) := by
  obtain ⟨n, hn⟩ := trod_slice1 Try.underlying35 hv h
  exact open_cons hn

theorem conV_cells {w : World} {a : Addr} {cs : List Con} (h : Rd3 w a cs) : ∀ j u, (conV cs)[j]? = some u → w.cell? (a.add j) = some u := by
  intro j u hu
  have hj : j < cs.length * 3 := by
    rw [← conV_len]
    by_cases c : j < (conV cs).length
    · exact c
    · rw [List.getElem?_eq_none (by omega)] at hu; cases hu
  obtain ⟨c0, c1, c2⟩ := conV_at cs (j / 3) (by omega)
  obtain ⟨d0, d1, d2⟩ := h (j / 3) (by omega)
  have e : j = j / 3 * 3 ∨ j = j / 3 * 3 + 1 ∨ j = j / 3 * 3 + 2 := by omega
  generalize j / 3 = k at *
  rcases e with rfl | rfl | rfl
  · rw [c0] at hu; rw [d0]; exact hu
  · rw [c1] at hu; rw [← add_add, add_two _ _ _ (by omega), d1]; exact hu
  · rw [c2] at hu; rw [← add_add, add_two _ _ _ (by omega), d2]; exact hu

/-- What a function that returns a zone leaves, in one form for both outcomes. -/
def zrN (er N : Int) : Int := if er = 0 then N else 0

def zrL (er : Int) (l : List Int) : List Int := if er = 0 then l else []

theorem ZRes.val {w : World} {N : Int} {l : List Int} {er : Int} {e : Ending} {w' : World} (h : ZRes w N l er e w') :
    ∃ ao cap, e = .returned (.tuple #[.agg #[.int .i64 (zrN er N), .slice ao (zrL er l).length cap], .int .i64 er]) ∧ Arg w' ao (zrL er l) ∧ (zrL er l).length ≤ maxLen ∧ Below w.heap.size w w' := by
  rcases h.2 with ⟨rfl, g, c, rfl, _, hO⟩ | ⟨h1, rfl⟩
  · refine ⟨some ⟨g, 0, none⟩, c, rfl, hO.arg, ?_, h.1⟩
    rcases hO.2 with ⟨q, _⟩ | ⟨g', cap, cur, _, _, _, h4, h5, _⟩
    · cases q
    · show l.length ≤ maxLen; omega
  · exact ⟨none, 0, by simp [zrN, zrL, h1], fun q => absurd (by simp [zrL, h1]) q, by simp [zrL, h1], h.1⟩

def ZVal (w : World) (M : Int) (m : List Int) (er : Int) (e : Ending) (w' : World) : Prop :=
  ∃ ao cap, e = .returned (.tuple #[.agg #[.int .i64 M, .slice ao m.length cap], .int .i64 er]) ∧ Arg w' ao m ∧ m.length ≤ maxLen ∧ Below w.heap.size w w'

theorem ZRes.zval {w : World} {N : Int} {l : List Int} {er : Int} {e : Ending} {w' : World} (h : ZRes w N l er e w') : ZVal w (zrN er N) (zrL er l) er e w' := h.val
end Go.Proofs.Ytmlknjiifjdimaa
