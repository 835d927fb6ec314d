/- The examples of the statements: shown returns true. -/
import Derived.Test.YtbhaoaobhgilkaaGreatWm31
import Derived.Test.YtbhaoaobhgilkaaGreatWm20

namespace Go.Proofs.YtbhaoaobhgilkaaGreat
open Go.RowKit Go.Sort Go.Shelf

theorem Rd1.made (w : World) (l : List Int) : Rd1 (w.alloc (.cells (l.map (Value.int .i64)).toArray 2)) (some ⟨w.heap.size, 0, none⟩) l := fun t ht => by
  refine ⟨_, rfl, ?_⟩
  rw [addr_add, Nat.zero_add, cell_of_row _ _ t _ _ _ (heap_alloc_last w _)]
  simp [gA, ht]

theorem vcell {L : List AV} {t j : Nat} (ht : t < L.length) (hj : j < 3) : (L.flatMap AV.cells)[t * 3 + j]? = (L[t]).cells[j]? := by
  induction L generalizing t with
  | nil => simp at ht
  | cons y L ih =>
    rw [List.flatMap_cons]
    cases t with
    | zero => rw [List.getElem?_append_left (by show 0 * 3 + j < 3; omega)]; simp
    | succ t =>
      rw [List.getElem?_append_right (by show 3 ≤ (t + 1) * 3 + j; omega), show (t + 1) * 3 + j - y.cells.length = t * 3 + j by show (t + 1) * 3 + j - 3 = _; omega]
      simpa using ih (t := t) (by simpa using ht)

theorem RdV.made (w : World) (L : List AV) (h : ∀ y ∈ L, Rd1 w y.q y.a) : RdV (w.alloc (.cells (L.flatMap AV.cells).toArray 25)) (some ⟨w.heap.size, 0, none⟩) L :=
  ⟨fun t ht => ⟨_, rfl, fun j v hv => by
    have hj : j < 3 := (List.getElem?_eq_some_iff.1 hv).1
    rw [addr_add, addr_add, Nat.zero_add, cell_of_row _ _ (t * 3 + j) _ _ _ (heap_alloc_last w _)]
    rw [List.getElem?_toArray, vcell ht hj]; exact hv⟩, fun y hy => (h y hy).on (one_more _)⟩

theorem Rd2.made (w : World) (ps : List Pq) : Rd2 (w.alloc (.cells (qV ps).toArray 50)) (some ⟨w.heap.size, 0, none⟩) ps := fun t ht => by
  refine ⟨_, rfl, ?_⟩
  have key : (qV ps)[t * 2]? = some (.int .i64 (gp ps t).1) ∧ (qV ps)[t * 2 + 1]? = some (.int .i64 (gp ps t).2) := by
    clear w
    induction ps generalizing t with
    | nil => simp at ht
    | cons q ps ih =>
      cases t with
      | zero => simp [qV, gp]
      | succ t =>
        have := ih t (by simpa using ht)
        have e : qV (q :: ps) = [.int .i64 q.1, .int .i64 q.2] ++ qV ps := rfl
        rw [e, List.getElem?_append_right (by simp; omega), List.getElem?_append_right (by simp; omega)]
        simpa [show (t + 1) * 2 - 2 = t * 2 by omega, show (t + 1) * 2 + 1 - 2 = t * 2 + 1 by omega, gp] using this
  constructor
  · rw [addr_add, addr_add, Nat.zero_add, cell_of_row _ _ _ _ _ _ (heap_alloc_last w _), List.getElem?_toArray]; exact key.1
  · rw [addr_add, addr_add, Nat.zero_add, cell_of_row _ _ _ _ _ _ (heap_alloc_last w _), List.getElem?_toArray]; exact key.2

theorem isCh_map {n i : Nat} {l : List Ln} {L : List AV} (h : IsCh (chW n i) l L) : L.map lnV = l.map (erL n i) := by
  have h2 := congrArg (List.map fun q : List Int × Int × Bool => (⟨q.1, q.2.1, q.2.2⟩ : Ln)) h
  rw [List.map_map, List.map_map] at h2
  exact h2

def two (w : World) (a b : List Int) (p q : Int) (s t : Bool) : List AV := [⟨some ⟨w.heap.size, 0, none⟩, a.length, a, p, s⟩, ⟨some ⟨w.heap.size + 1, 0, none⟩, b.length, b, q, t⟩]

def twoW (w : World) (a b : List Int) (p q : Int) (s t : Bool) : World := ((w.alloc (.cells (a.map (Value.int .i64)).toArray 2)).alloc (.cells (b.map (Value.int .i64)).toArray 2)).alloc (.cells ((two w a b p q s t).flatMap AV.cells).toArray 25)

theorem two_rd (w : World) (a b : List Int) (p q : Int) (s t : Bool) : RdV (twoW w a b p q s t) (some ⟨w.heap.size + 1 + 1, 0, none⟩) (two w a b p q s t) ∧ Below w.heap.size w (twoW w a b p q s t) := by
  constructor
  · have h := RdV.made ((w.alloc (.cells (a.map (Value.int .i64)).toArray 2)).alloc (.cells (b.map (Value.int .i64)).toArray 2)) (two w a b p q s t) (fun y hy => by
      unfold two at hy
      simp only [List.mem_cons, List.not_mem_nil, or_false] at hy
      rcases hy with rfl | rfl
      · exact (Rd1.made w a).on (one_more _)
      · have := Rd1.made (w.alloc (.cells (a.map (Value.int .i64)).toArray 2)) b
        rw [World.size_alloc] at this
        exact this)
    rw [World.size_alloc, World.size_alloc] at h
    exact h
  · exact ((one_more _).trans ((one_more _).mono (by simp))).trans ((one_more _).mono (by simp; omega))

def three (w : World) : List AV := [⟨some ⟨w.heap.size, 0, none⟩, 2, [1, 1], 4, false⟩, ⟨some ⟨w.heap.size + 1, 0, none⟩, 2, [-1, 0], 0, true⟩, ⟨some ⟨w.heap.size + 1 + 1, 0, none⟩, 2, [0, -1], -1, true⟩]

def threeW (w : World) : World := (((w.alloc (.cells (([1, 1] : List Int).map (Value.int .i64)).toArray 2)).alloc (.cells (([-1, 0] : List Int).map (Value.int .i64)).toArray 2)).alloc (.cells (([0, -1] : List Int).map (Value.int .i64)).toArray 2)).alloc (.cells ((three w).flatMap AV.cells).toArray 25)

theorem three_rd (w : World) : RdV (threeW w) (some ⟨w.heap.size + 1 + 1 + 1, 0, none⟩) (three w) ∧ Below w.heap.size w (threeW w) := by
  constructor
  · have h := RdV.made (((w.alloc (.cells (([1, 1] : List Int).map (Value.int .i64)).toArray 2)).alloc (.cells (([-1, 0] : List Int).map (Value.int .i64)).toArray 2)).alloc (.cells (([0, -1] : List Int).map (Value.int .i64)).toArray 2)) (three w) (fun y hy => by
      unfold three at hy
      simp only [List.mem_cons, List.not_mem_nil, or_false] at hy
      rcases hy with rfl | rfl | rfl
      · exact ((Rd1.made w [1, 1]).on (one_more _)).on (one_more _)
      · have := (Rd1.made (w.alloc (.cells (([1, 1] : List Int).map (Value.int .i64)).toArray 2)) [-1, 0]).on (one_more (.cells (([0, -1] : List Int).map (Value.int .i64)).toArray 2))
        rw [World.size_alloc] at this
        exact this
      · have := Rd1.made ((w.alloc (.cells (([1, 1] : List Int).map (Value.int .i64)).toArray 2)).alloc (.cells (([-1, 0] : List Int).map (Value.int .i64)).toArray 2)) [0, -1]
        rw [World.size_alloc, World.size_alloc] at this
        exact this)
    rw [World.size_alloc, World.size_alloc, World.size_alloc] at h
    exact h
  · exact (((one_more _).trans ((one_more _).mono (by simp))).trans ((one_more _).mono (by simp; omega))).trans ((one_more _).mono (by simp; omega))

theorem ex_without (w W : World) (ao : Option Addr) (hR : RdV W ao (three w)) :
    Calls Tryz.prog 13 #[.int .i64 2, .slice ao 3 3, .int .i64 1] W (fun e w' => ∃ aa Lr c, e = .returned (.tuple #[.slice aa Lr.length c, .int .i64 0]) ∧ RdV w' aa Lr ∧ Lr.map lnV = [⟨[-1], 0, true⟩, ⟨[1], 3, true⟩] ∧ Below W.heap.size W w') := by
  refine (without_any 2 1 (three w) ao 3 W hR).mono ?_
  have hz : witE 2 (three w) 1 = 0 := by
    unfold witE
    rw [if_pos (by rfl)]
    unfold woE
    rw [if_pos (by decide)]
    exact sh1_wo
  rintro e w' ⟨hb, (⟨_, W', v, _, rfl, hv⟩ | ⟨he, _⟩)⟩
  · obtain ⟨b, Lr, rfl, h1, h2, h3⟩ := hv
    have hm := isCh_map h1
    have hl : Lr.length = (leaveL ((three w).map ofV) (1 : Int).toNat).length := by have := congrArg List.length h1; simpa using this
    refine ⟨_, Lr, _, by rw [← hl], h2.rd, ?_, hb⟩
    rw [hm]
    exact sh1_left
  · exact absurd hz he

theorem ex_point (w W : World) (ao : Option Addr) (hR : RdV W ao (three w)) :
    Calls Tryz.prog 25 #[.int .i64 2, .slice ao 3 3] W (fun e w' => ∃ aa c, e = .returned (.tuple #[.slice aa 2 c, .int .i64 0]) ∧ Rd2 w' aa [(1, 1), (2, 1)] ∧ Below W.heap.size W w') := by
  refine (pointP_any 2 (three w) ao 3 W hR).mono ?_
  have hz : ponE 2 (three w) = 0 := by
    unfold ponE
    rw [if_pos (by rfl)]
    exact sh1_po
  have hp : (ptN ((three w).map ofV) (2 : Int).toNat (2 : Int).toNat).1 = [(1, 1), (2, 1)] := by
    have := sh1_p2
    exact congrArg Prod.fst this
  rintro e w' ⟨hb, (⟨_, v, rfl, hv⟩ | ⟨he, _⟩)⟩
  · rw [hp] at hv
    obtain ⟨aa, c, rfl, h2, _⟩ := hv
    exact ⟨aa, c, rfl, h2, hb⟩
  · exact absurd hz he

theorem ex_least (w W : World) (ao qo : Option Addr) (hR : RdV W ao (two w [-1, 0] [0, -1] (-1) (-2) false true)) (hA : Rd1 W qo [2, 3]) :
    Calls Tryz.prog 30 #[.int .i64 2, .slice ao 2 2, .slice qo 2 2] W (fun e w' => e = .returned (.tuple #[.agg #[.int .i64 8, .int .i64 1], .bool false, .int .i64 0]) ∧ Below W.heap.size W w') := by
  refine (least_any 2 (two w [-1, 0] [0, -1] (-1) (-2) false true) [2, 3] ao qo 2 2 W hR hA (by simp)).mono ?_
  have hz : leaE 2 (two w [-1, 0] [0, -1] (-1) (-2) false true) [2, 3] = 0 := by
    unfold leaE
    rw [if_pos (by rfl)]
    unfold lsE
    rw [if_pos (by decide)]
    exact in2_i
  have hx : leaX 2 (two w [-1, 0] [0, -1] (-1) (-2) false true) [2, 3] = ⟨(8, 1), true, true⟩ := by
    unfold leaX
    rw [if_pos hz]
    exact congrArg (fun q => q.1.1) in2_n
  rintro e w' ⟨hb, rfl⟩
  rw [hx, hz]
  exact ⟨rfl, hb⟩

theorem ex_empty (w W : World) (ao : Option Addr) (hR : RdV W ao (two w [1] [-1] 2 (-2) false true)) :
    Calls Tryz.prog 17 #[.int .i64 1, .slice ao 2 2] W (fun e w' => e = .returned (.tuple #[.bool true, .int .i64 0]) ∧ Below W.heap.size W w') := by
  refine (empty_any 1 (two w [1] [-1] 2 (-2) false true) ao 2 W hR).mono ?_
  have hz : empE 1 (two w [1] [-1] 2 (-2) false true) = 0 := by
    unfold empE
    rw [if_pos (by rfl)]
    exact sh3_e
  have hx : empB ((two w [1] [-1] 2 (-2) false true).map ofV) (1 : Int).toNat = true := sh3_b
  rintro e w' ⟨hb, rfl⟩
  rw [hz, if_pos rfl, hx]
  exact ⟨rfl, hb⟩

set_option maxRecDepth 100000 in
set_option maxHeartbeats 4000000 in
theorem shown_any (w : World) : Calls Tryz.prog 10 #[] w (Made (.bool true) w) := by
  obtain ⟨w1, hw1⟩ : ∃ w1, w1 = threeW w := ⟨_, rfl⟩
  obtain ⟨h1, hb1⟩ := three_rd w
  rw [← hw1] at h1 hb1
  have R1 := Lib.hid h1
  have B1 := Lib.hid hb1
  clear h1 hb1
  go_enter Tryz.func10, Tryz.ntmps10
  go_wp2_with fail
  rw [show ((((w.alloc (.cells #[.int .i64 1, .int .i64 1] 2)).alloc (.cells #[.int .i64 (-1), .int .i64 0] 2)).alloc (.cells #[.int .i64 0, .int .i64 (-1)] 2)).alloc (.cells #[.slice (some ⟨w.heap.size, 0, none⟩) 2 2, .int .i64 4, .bool false, .slice (some ⟨w.heap.size + 1, 0, none⟩) 2 2, .int .i64 0, .bool true, .slice (some ⟨w.heap.size + 1 + 1, 0, none⟩) 2 2, .int .i64 (-1), .bool true] 25)) = w1 from hw1.symm]
  clear hw1
  refine (ex_without w w1 _ R1.out).mono ?_
  rintro e w2 ⟨aa, La, ca, rfl, ra, ea, hb⟩
  have RA := Lib.hid ra
  have EA := Lib.hid ea
  have B2 := Lib.hid hb
  obtain ⟨na, hna⟩ : ∃ na, na = La.length := ⟨_, rfl⟩
  have NA := Lib.hid hna
  rw [← hna]
  clear ra ea hb hna
  go_wp2_with fail
  refine (ex_point w w2 _ (R1.out.on B2.out)).mono ?_
  rintro e w3 ⟨ap, cp, rfl, rp, hb⟩
  have RP := Lib.hid rp
  have B3 := Lib.hid hb
  clear rp hb
  obtain ⟨w4, hw4⟩ : ∃ w4, w4 = (twoW w3 [-1, 0] [0, -1] (-1) (-2) false true).alloc (.cells (([2, 3] : List Int).map (Value.int .i64)).toArray 2) := ⟨_, rfl⟩
  have R4 := Lib.hid (show RdV w4 (some ⟨w3.heap.size + 1 + 1, 0, none⟩) (two w3 [-1, 0] [0, -1] (-1) (-2) false true) by rw [hw4]; exact (two_rd w3 _ _ _ _ _ _).1.on (one_more _))
  have B4 := Lib.hid (show Below w3.heap.size w3 w4 by rw [hw4]; exact (two_rd w3 [-1, 0] [0, -1] (-1) (-2) false true).2.trans ((one_more _).mono (two_rd w3 [-1, 0] [0, -1] (-1) (-2) false true).2.size))
  have Q4 := Lib.hid (show Rd1 w4 (some ⟨w3.heap.size + 1 + 1 + 1, 0, none⟩) [2, 3] by
    rw [hw4]
    have := Rd1.made (twoW w3 [-1, 0] [0, -1] (-1) (-2) false true) [2, 3]
    rw [show (twoW w3 [-1, 0] [0, -1] (-1) (-2) false true).heap.size = w3.heap.size + 1 + 1 + 1 by unfold twoW; rw [World.size_alloc, World.size_alloc, World.size_alloc]] at this
    exact this)
  go_wp2_with fail
  rw [show ((((w3.alloc (.cells #[.int .i64 (-1), .int .i64 0] 2)).alloc (.cells #[.int .i64 0, .int .i64 (-1)] 2)).alloc (.cells #[.slice (some ⟨w3.heap.size, 0, none⟩) 2 2, .int .i64 (-1), .bool false, .slice (some ⟨w3.heap.size + 1, 0, none⟩) 2 2, .int .i64 (-2), .bool true] 25)).alloc (.cells #[.int .i64 2, .int .i64 3] 2)) = w4 from hw4.symm]
  clear hw4
  refine (ex_least w3 w4 _ _ R4.out Q4.out).mono ?_
  rintro e w5 ⟨rfl, hb⟩
  have B5 := Lib.hid hb
  clear hb R4 Q4
  obtain ⟨w6, hw6⟩ : ∃ w6, w6 = w5.alloc (.cells #[.int .i64 8, .int .i64 1] 50) := ⟨_, rfl⟩
  have P6 := Lib.hid (show Pair w6 w5.heap.size 8 1 by rw [hw6]; exact Pair.made w5 8 1 50)
  have B6 := Lib.hid (show Below w5.heap.size w5 w6 by rw [hw6]; exact one_more _)
  go_upto_region 5 with (fail)
  rw [← hw6]
  clear hw6
  obtain ⟨w7, hw7⟩ : ∃ w7, w7 = twoW w6 [1] [-1] 2 (-2) false true := ⟨_, rfl⟩
  have R7 := Lib.hid (show RdV w7 (some ⟨w6.heap.size + 1 + 1, 0, none⟩) (two w6 [1] [-1] 2 (-2) false true) by rw [hw7]; exact (two_rd w6 _ _ _ _ _ _).1)
  have B7 := Lib.hid (show Below w6.heap.size w6 w7 by rw [hw7]; exact (two_rd w6 _ _ _ _ _ _).2)
  go_wp2_with fail
  rw [show (((w6.alloc (.cells #[.int .i64 1] 2)).alloc (.cells #[.int .i64 (-1)] 2)).alloc (.cells #[.slice (some ⟨w6.heap.size, 0, none⟩) 1 1, .int .i64 2, .bool false, .slice (some ⟨w6.heap.size + 1, 0, none⟩) 1 1, .int .i64 (-2), .bool true] 25)) = w7 from hw7.symm]
  clear hw7
  refine (ex_empty w6 w7 _ R7.out).mono ?_
  rintro e w8 ⟨rfl, hb⟩
  have B8 := Lib.hid (below_on B7.out hb)
  have P8 := Lib.hid (P6.out.kept B8.out)
  clear hb R7 B7
  obtain ⟨f0, f1, _, _⟩ := P8.out.facts
  obtain ⟨w9, hw9⟩ : ∃ w9, w9 = w8.alloc (.cells #[.int .i64 1, .int .i64 1, .int .i64 2, .int .i64 1] 50) := ⟨_, rfl⟩
  have B9 := Lib.hid (show Below w8.heap.size w8 w9 by rw [hw9]; exact one_more _)
  have Q9 := Lib.hid (show Rd2 w9 (some ⟨w8.heap.size, 0, none⟩) [(1, 1), (2, 1)] by rw [hw9]; exact Rd2.made w8 [(1, 1), (2, 1)])
  have B39 := Lib.hid (show Below w3.heap.size w3 w9 from below_on B4.out (below_on B5.out (below_on B6.out (below_on B8.out B9.out))))
  have S9 := Lib.hid (srat_any [(1, 1), (2, 1)] [(1, 1), (2, 1)] ap (some ⟨w8.heap.size, 0, none⟩) cp 2 w9 (RP.out.on B39.out) Q9.out (by simp))
  rw [decide_eq_true rfl] at S9
  go_wp2_with fail
  rw [← hw9]
  clear hw9
  refine S9.out.mono ?_
  rintro e w10 ⟨rfl, hb⟩
  have B10 := Lib.hid hb
  obtain ⟨w11, hw11⟩ : ∃ w11, w11 = twoW w10 [-1] [1] 0 3 true true := ⟨_, rfl⟩
  have R11 := Lib.hid (show RdV w11 (some ⟨w10.heap.size + 1 + 1, 0, none⟩) (two w10 [-1] [1] 0 3 true true) by rw [hw11]; exact (two_rd w10 _ _ _ _ _ _).1)
  have B11 := Lib.hid (show Below w10.heap.size w10 w11 by rw [hw11]; exact (two_rd w10 _ _ _ _ _ _).2)
  have B211 := Lib.hid (show Below w2.heap.size w2 w11 from below_on B3.out (below_on B39.out (below_on B10.out B11.out)))
  have SA := Lib.hid (same_any La (two w10 [-1] [1] 0 3 true true) aa (some ⟨w10.heap.size + 1 + 1, 0, none⟩) ca 2 w11 (RA.out.on B211.out) R11.out (by have := congrArg List.length EA.out; simp at this; omega) (fun y hy => by
    have : lnV y ∈ [(⟨[-1], 0, true⟩ : Ln), ⟨[1], 3, true⟩] := by rw [← EA.out]; exact List.mem_map.2 ⟨y, hy, rfl⟩
    simp only [List.mem_cons, List.not_mem_nil, or_false] at this
    have h : y.a = (lnV y).a := rfl
    rw [h]
    rcases this with e | e <;> rw [e] <;> simp))
  rw [show (decide (La.map lnV = (two w10 [-1] [1] 0 3 true true).map lnV)) = true from decide_eq_true EA.out, ← NA.out] at SA
  have BZ := Lib.hid (show Below w.heap.size w w11 from below_on B1.out (below_on B2.out B211.out))
  clear hb f0 f1 S9
  go_wp2_with fail
  rw [show (((w10.alloc (.cells #[.int .i64 (-1)] 2)).alloc (.cells #[.int .i64 1] 2)).alloc (.cells #[.slice (some ⟨w10.heap.size, 0, none⟩) 1 1, .int .i64 0, .bool true, .slice (some ⟨w10.heap.size + 1, 0, none⟩) 1 1, .int .i64 3, .bool true] 25)) = w11 from hw11.symm]
  clear hw11
  refine SA.out.mono ?_
  rintro e w12 ⟨rfl, hb⟩
  have B12 := Lib.hid (below_on BZ.out hb)
  clear hb
  go_wp2_with fail
  go_ret
  exact ⟨rfl, B12.out⟩
end Go.Proofs.YtbhaoaobhgilkaaGreat
