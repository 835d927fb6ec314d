/- The examples of the statements: shown returns true.; The contract of Without of layer 7's reference, and that it is what the project's Without is told to return.; Plain mathematics: sums of ratios stand for sums over one denominator; Least is not above the sum at a point of the set.; Plain mathematics of Point: ends of a coordinate, the number between them.; What the law PolyLeaves holds on to while it writes into its own copy.; Plain mathematics of PolyProjects: a point and the point without a coordinate; lines that fix the others; lists that a point meets are not told to be empty.; The law PolyLeaves returns true. -/
import Derived.Test.YtbhaoaobhgilkaaGreatVa33
import Derived.Test.YtbhaoaobhgilkaaGreatVa35
import Derived.Test.YtbhaoaobhgilkaaGreatVa36
import Derived.Test.YtbhaoaobhgilkaaGreatVa37
import Derived.Test.YtbhaoaobhgilkaaGreatVa38

namespace Go.Proofs.YtbhaoaobhgilkaaGreat
open Go.RowKit Go.Sort Go.Shelf

theorem Rd1.made (w : World) (l : List Int) : Rd1 (w.alloc (.cells (l.map (Value.int .i64)).toArray 2)) (some ⟨w.heap.size, 0, none⟩) l := fun t ht => by
  refine ⟨_, rfl, ?_⟩
  rw [addr_add, Nat.zero_add, cell_of_row _ _ t _ _ _ (heap_alloc_last w _)]
  simp [gA, ht]

theorem vcell {L : List AV} {t j : Nat} (ht : t < L.length) (hj : j < 3) : (L.flatMap AV.cells)[t * 3 + j]? = (L[t]).cells[j]? := by
  induction L generalizing t with
  | nil => simp at ht
  | cons y L ih =>
    rw [List.flatMap_cons]
    cases t with
    | zero => rw [List.getElem?_append_left (by show 0 * 3 + j < 3; omega)]; simp
    | succ t =>
      rw [List.getElem?_append_right (by show 3 ≤ (t + 1) * 3 + j; omega), show (t + 1) * 3 + j - y.cells.length = t * 3 + j by show (t + 1) * 3 + j - 3 = _; omega]
      simpa using ih (t := t) (by simpa using ht)

theorem RdV.made (w : World) (L : List AV) (h : ∀ y ∈ L, Rd1 w y.q y.a) : RdV (w.alloc (.cells (L.flatMap AV.cells).toArray 25)) (some ⟨w.heap.size, 0, none⟩) L :=
  ⟨fun t ht => ⟨_, rfl, fun j v hv => by
    have hj : j < 3 := (List.getElem?_eq_some_iff.1 hv).1
    rw [addr_add, addr_add, Nat.zero_add, cell_of_row _ _ (t * 3 + j) _ _ _ (heap_alloc_last w _)]
    rw [List.getElem?_toArray, vcell ht hj]; exact hv⟩, fun y hy => (h y hy).on (one_more _)⟩

theorem Rd2.made (w : World) (ps : List Pq) : Rd2 (w.alloc (.cells (qV ps).toArray 50)) (some ⟨w.heap.size, 0, none⟩) ps := fun t ht => by
  refine ⟨_, rfl, ?_⟩
  have key : (qV ps)[t * 2]? = some (.int .i64 (gp ps t).1) ∧ (qV ps)[t * 2 + 1]? = some (.int .i64 (gp ps t).2) := by
    clear w
    induction ps generalizing t with
    | nil => simp at ht
    | cons q ps ih =>
      cases t with
      | zero => simp [qV, gp]
      | succ t =>
        have := ih t (by simpa using ht)
        have e : qV (q :: ps) = [.int .i64 q.1, .int .i64 q.2] ++ qV ps := rfl
        rw [e, List.getElem?_append_right (by simp; omega), List.getElem?_append_right (by simp; omega)]
        simpa [show (t + 1) * 2 - 2 = t * 2 by omega, show (t + 1) * 2 + 1 - 2 = t * 2 + 1 by omega, gp] using this
  constructor
  · rw [addr_add, addr_add, Nat.zero_add, cell_of_row _ _ _ _ _ _ (heap_alloc_last w _), List.getElem?_toArray]; exact key.1
  · rw [addr_add, addr_add, Nat.zero_add, cell_of_row _ _ _ _ _ _ (heap_alloc_last w _), List.getElem?_toArray]; exact key.2

theorem isCh_map {n i : Nat} {l : List Ln} {L : List AV} (h : IsCh (chW n i) l L) : L.map lnV = l.map (erL n i) := by
  have h2 := congrArg (List.map fun q : List Int × Int × Bool => (⟨q.1, q.2.1, q.2.2⟩ : Ln)) h
  rw [List.map_map, List.map_map] at h2
  exact h2

/-- Two lines that a call has laid. -/
def two (w : World) (a b : List Int) (p q : Int) (s t : Bool) : List AV := [⟨some ⟨w.heap.size, 0, none⟩, a.length, a, p, s⟩, ⟨some ⟨w.heap.size + 1, 0, none⟩, b.length, b, q, t⟩]

def twoW (w : World) (a b : List Int) (p q : Int) (s t : Bool) : World := ((w.alloc (.cells (a.map (Value.int .i64)).toArray 2)).alloc (.cells (b.map (Value.int .i64)).toArray 2)).alloc (.cells ((two w a b p q s t).flatMap AV.cells).toArray 25)

theorem two_rd (w : World) (a b : List Int) (p q : Int) (s t : Bool) : RdV (twoW w a b p q s t) (some ⟨w.heap.size + 1 + 1, 0, none⟩) (two w a b p q s t) ∧ Below w.heap.size w (twoW w a b p q s t) := by
  constructor
  · have h := RdV.made ((w.alloc (.cells (a.map (Value.int .i64)).toArray 2)).alloc (.cells (b.map (Value.int .i64)).toArray 2)) (two w a b p q s t) (fun y hy => by
      unfold two at hy
      simp only [List.mem_cons, List.not_mem_nil, or_false] at hy
      rcases hy with rfl | rfl
      · exact (Rd1.made w a).on (one_more _)
      · have := Rd1.made (w.alloc (.cells (a.map (Value.int .i64)).toArray 2)) b
        rw [World.size_alloc] at this
        exact this)
    rw [World.size_alloc, World.size_alloc] at h
    exact h
  · exact ((one_more _).trans ((one_more _).mono (by simp))).trans ((one_more _).mono (by simp; omega))

def three (w : World) : List AV := [⟨some ⟨w.heap.size, 0, none⟩, 2, [1, 1], 4, false⟩, ⟨some ⟨w.heap.size + 1, 0, none⟩, 2, [-1, 0], 0, true⟩, ⟨some ⟨w.heap.size + 1 + 1, 0, none⟩, 2, [0, -1], -1, true⟩]

def threeW (w : World) : World := (((w.alloc (.cells (([1, 1] : List Int).map (Value.int .i64)).toArray 2)).alloc (.cells (([-1, 0] : List Int).map (Value.int .i64)).toArray 2)).alloc (.cells (([0, -1] : List Int).map (Value.int .i64)).toArray 2)).alloc (.cells ((three w).flatMap AV.cells).toArray 25)

theorem three_rd (w : World) : RdV (threeW w) (some ⟨w.heap.size + 1 + 1 + 1, 0, none⟩) (three w) ∧ Below w.heap.size w (threeW w) := by
  constructor
  · have h := RdV.made (((w.alloc (.cells (([1, 1] : List Int).map (Value.int .i64)).toArray 2)).alloc (.cells (([-1, 0] : List Int).map (Value.int .i64)).toArray 2)).alloc (.cells (([0, -1] : List Int).map (Value.int .i64)).toArray 2)) (three w) (fun y hy => by
      unfold three at hy
      simp only [List.mem_cons, List.not_mem_nil, or_false] at hy
      rcases hy with rfl | rfl | rfl
      · exact ((Rd1.made w [1, 1]).on (one_more _)).on (one_more _)
      · have := (Rd1.made (w.alloc (.cells (([1, 1] : List Int).map (Value.int .i64)).toArray 2)) [-1, 0]).on (one_more (.cells (([0, -1] : List Int).map (Value.int .i64)).toArray 2))
        rw [World.size_alloc] at this
        exact this
      · have := Rd1.made ((w.alloc (.cells (([1, 1] : List Int).map (Value.int .i64)).toArray 2)).alloc (.cells (([-1, 0] : List Int).map (Value.int .i64)).toArray 2)) [0, -1]
        rw [World.size_alloc, World.size_alloc] at this
        exact this)
    rw [World.size_alloc, World.size_alloc, World.size_alloc] at h
    exact h
  · exact (((one_more _).trans ((one_more _).mono (by simp))).trans ((one_more _).mono (by simp; omega))).trans ((one_more _).mono (by simp; omega))

theorem ex_without (w W : World) (ao : Option Addr) (hR : RdV W ao (three w)) :
    Calls Tryz.prog 13 #[.int .i64 2, .slice ao 3 3, .int .i64 1] W (fun e w' => ∃ aa Lr c, e = .returned (.tuple #[.slice aa Lr.length c, .int .i64 0]) ∧ RdV w' aa Lr ∧ Lr.map lnV = [⟨[-1], 0, true⟩, ⟨[1], 3, true⟩] ∧ Below W.heap.size W w') := by
  refine (without_any 2 1 (three w) ao 3 W hR).mono ?_
  have hz : witE 2 (three w) 1 = 0 := by
    unfold witE
    rw [if_pos (by rfl)]
    unfold woE
    rw [if_pos (by decide)]
    exact sh1_wo
  rintro e w' ⟨hb, (⟨_, W', v, _, rfl, hv⟩ | ⟨he, _⟩)⟩
  · obtain ⟨b, Lr, rfl, h1, h2, h3⟩ := hv
    have hm := isCh_map h1
    have hl : Lr.length = (leaveL ((three w).map ofV) (1 : Int).toNat).length := by have := congrArg List.length h1; simpa using this
    refine ⟨_, Lr, _, by rw [← hl], h2.rd, ?_, hb⟩
    rw [hm]
    exact sh1_left
  · exact absurd hz he

theorem ex_point (w W : World) (ao : Option Addr) (hR : RdV W ao (three w)) :
    Calls Tryz.prog 25 #[.int .i64 2, .slice ao 3 3] W (fun e w' => ∃ aa c, e = .returned (.tuple #[.slice aa 2 c, .int .i64 0]) ∧ Rd2 w' aa [(1, 1), (2, 1)] ∧ Below W.heap.size W w') := by
  refine (pointP_any 2 (three w) ao 3 W hR).mono ?_
  have hz : ponE 2 (three w) = 0 := by
    unfold ponE
    rw [if_pos (by rfl)]
    exact sh1_po
  have hp : (ptN ((three w).map ofV) (2 : Int).toNat (2 : Int).toNat).1 = [(1, 1), (2, 1)] := by
    have := sh1_p2
    exact congrArg Prod.fst this
  rintro e w' ⟨hb, (⟨_, v, rfl, hv⟩ | ⟨he, _⟩)⟩
  · rw [hp] at hv
    obtain ⟨aa, c, rfl, h2, _⟩ := hv
    exact ⟨aa, c, rfl, h2, hb⟩
  · exact absurd hz he

theorem ex_least (w W : World) (ao qo : Option Addr) (hR : RdV W ao (two w [-1, 0] [0, -1] (-1) (-2) false true)) (hA : Rd1 W qo [2, 3]) :
    Calls Tryz.prog 30 #[.int .i64 2, .slice ao 2 2, .slice qo 2 2] W (fun e w' => e = .returned (.tuple #[.agg #[.int .i64 8, .int .i64 1], .bool false, .int .i64 0]) ∧ Below W.heap.size W w') := by
  refine (least_any 2 (two w [-1, 0] [0, -1] (-1) (-2) false true) [2, 3] ao qo 2 2 W hR hA (by simp)).mono ?_
  have hz : leaE 2 (two w [-1, 0] [0, -1] (-1) (-2) false true) [2, 3] = 0 := by
    unfold leaE
    rw [if_pos (by rfl)]
    unfold lsE
    rw [if_pos (by decide)]
    exact in2_i
  have hx : leaX 2 (two w [-1, 0] [0, -1] (-1) (-2) false true) [2, 3] = ⟨(8, 1), true, true⟩ := by
    unfold leaX
    rw [if_pos hz]
    exact congrArg (fun q => q.1.1) in2_n
  rintro e w' ⟨hb, rfl⟩
  rw [hx, hz]
  exact ⟨rfl, hb⟩

theorem ex_empty (w W : World) (ao : Option Addr) (hR : RdV W ao (two w [1] [-1] 2 (-2) false true)) :
    Calls Tryz.prog 17 #[.int .i64 1, .slice ao 2 2] W (fun e w' => e = .returned (.tuple #[.bool true, .int .i64 0]) ∧ Below W.heap.size W w') := by
  refine (empty_any 1 (two w [1] [-1] 2 (-2) false true) ao 2 W hR).mono ?_
  have hz : empE 1 (two w [1] [-1] 2 (-2) false true) = 0 := by
    unfold empE
    rw [if_pos (by rfl)]
    exact sh3_e
  have hx : empB ((two w [1] [-1] 2 (-2) false true).map ofV) (1 : Int).toNat = true := sh3_b
  rintro e w' ⟨hb, rfl⟩
  rw [hz, if_pos rfl, hx]
  exact ⟨rfl, hb⟩

set_option maxRecDepth 100000 in
set_option maxHeartbeats 4000000 in
theorem shown_any (w : World) : Calls Tryz.prog 10 #[] w (Made (.bool true) w) := by
  obtain ⟨w1, hw1⟩ : ∃ w1, w1 = threeW w := ⟨_, rfl⟩
  obtain ⟨h1, hb1⟩ := three_rd w
  rw [← hw1] at h1 hb1
  have R1 := Lib.hid h1
  have B1 := Lib.hid hb1
  clear h1 hb1
  go_enter Tryz.func10, Tryz.ntmps10
  go_wp2_with fail
  rw [show ((((w.alloc (.cells #[.int .i64 1, .int .i64 1] 2)).alloc (.cells #[.int .i64 (-1), .int .i64 0] 2)).alloc (.cells #[.int .i64 0, .int .i64 (-1)] 2)).alloc (.cells #[.slice (some ⟨w.heap.size, 0, none⟩) 2 2, .int .i64 4, .bool false, .slice (some ⟨w.heap.size + 1, 0, none⟩) 2 2, .int .i64 0, .bool true, .slice (some ⟨w.heap.size + 1 + 1, 0, none⟩) 2 2, .int .i64 (-1), .bool true] 25)) = w1 from hw1.symm]
  clear hw1
  refine (ex_without w w1 _ R1.out).mono ?_
  rintro e w2 ⟨aa, La, ca, rfl, ra, ea, hb⟩
  have RA := Lib.hid ra
  have EA := Lib.hid ea
  have B2 := Lib.hid hb
  obtain ⟨na, hna⟩ : ∃ na, na = La.length := ⟨_, rfl⟩
  have NA := Lib.hid hna
  rw [← hna]
  clear ra ea hb hna
  go_wp2_with fail
  refine (ex_point w w2 _ (R1.out.on B2.out)).mono ?_
  rintro e w3 ⟨ap, cp, rfl, rp, hb⟩
  have RP := Lib.hid rp
  have B3 := Lib.hid hb
  clear rp hb
  obtain ⟨w4, hw4⟩ : ∃ w4, w4 = (twoW w3 [-1, 0] [0, -1] (-1) (-2) false true).alloc (.cells (([2, 3] : List Int).map (Value.int .i64)).toArray 2) := ⟨_, rfl⟩
  have R4 := Lib.hid (show RdV w4 (some ⟨w3.heap.size + 1 + 1, 0, none⟩) (two w3 [-1, 0] [0, -1] (-1) (-2) false true) by rw [hw4]; exact (two_rd w3 _ _ _ _ _ _).1.on (one_more _))
  have B4 := Lib.hid (show Below w3.heap.size w3 w4 by rw [hw4]; exact (two_rd w3 [-1, 0] [0, -1] (-1) (-2) false true).2.trans ((one_more _).mono (two_rd w3 [-1, 0] [0, -1] (-1) (-2) false true).2.size))
  have Q4 := Lib.hid (show Rd1 w4 (some ⟨w3.heap.size + 1 + 1 + 1, 0, none⟩) [2, 3] by
    rw [hw4]
    have := Rd1.made (twoW w3 [-1, 0] [0, -1] (-1) (-2) false true) [2, 3]
    rw [show (twoW w3 [-1, 0] [0, -1] (-1) (-2) false true).heap.size = w3.heap.size + 1 + 1 + 1 by unfold twoW; rw [World.size_alloc, World.size_alloc, World.size_alloc]] at this
    exact this)
  go_wp2_with fail
  rw [show ((((w3.alloc (.cells #[.int .i64 (-1), .int .i64 0] 2)).alloc (.cells #[.int .i64 0, .int .i64 (-1)] 2)).alloc (.cells #[.slice (some ⟨w3.heap.size, 0, none⟩) 2 2, .int .i64 (-1), .bool false, .slice (some ⟨w3.heap.size + 1, 0, none⟩) 2 2, .int .i64 (-2), .bool true] 25)).alloc (.cells #[.int .i64 2, .int .i64 3] 2)) = w4 from hw4.symm]
  clear hw4
  refine (ex_least w3 w4 _ _ R4.out Q4.out).mono ?_
  rintro e w5 ⟨rfl, hb⟩
  have B5 := Lib.hid hb
  clear hb R4 Q4
  obtain ⟨w6, hw6⟩ : ∃ w6, w6 = w5.alloc (.cells #[.int .i64 8, .int .i64 1] 50) := ⟨_, rfl⟩
  have P6 := Lib.hid (show Pair w6 w5.heap.size 8 1 by rw [hw6]; exact Pair.made w5 8 1 50)
  have B6 := Lib.hid (show Below w5.heap.size w5 w6 by rw [hw6]; exact one_more _)
  go_upto_region 5 with (fail)
  rw [← hw6]
  clear hw6
  obtain ⟨w7, hw7⟩ : ∃ w7, w7 = twoW w6 [1] [-1] 2 (-2) false true := ⟨_, rfl⟩
  have R7 := Lib.hid (show RdV w7 (some ⟨w6.heap.size + 1 + 1, 0, none⟩) (two w6 [1] [-1] 2 (-2) false true) by rw [hw7]; exact (two_rd w6 _ _ _ _ _ _).1)
  have B7 := Lib.hid (show Below w6.heap.size w6 w7 by rw [hw7]; exact (two_rd w6 _ _ _ _ _ _).2)
  go_wp2_with fail
  rw [show (((w6.alloc (.cells #[.int .i64 1] 2)).alloc (.cells #[.int .i64 (-1)] 2)).alloc (.cells #[.slice (some ⟨w6.heap.size, 0, none⟩) 1 1, .int .i64 2, .bool false, .slice (some ⟨w6.heap.size + 1, 0, none⟩) 1 1, .int .i64 (-2), .bool true] 25)) = w7 from hw7.symm]
  clear hw7
  refine (ex_empty w6 w7 _ R7.out).mono ?_
  rintro e w8 ⟨rfl, hb⟩
  have B8 := Lib.hid (below_on B7.out hb)
  have P8 := Lib.hid (P6.out.kept B8.out)
  clear hb R7 B7
  obtain ⟨f0, f1, _, _⟩ := P8.out.facts
  obtain ⟨w9, hw9⟩ : ∃ w9, w9 = w8.alloc (.cells #[.int .i64 1, .int .i64 1, .int .i64 2, .int .i64 1] 50) := ⟨_, rfl⟩
  have B9 := Lib.hid (show Below w8.heap.size w8 w9 by rw [hw9]; exact one_more _)
  have Q9 := Lib.hid (show Rd2 w9 (some ⟨w8.heap.size, 0, none⟩) [(1, 1), (2, 1)] by rw [hw9]; exact Rd2.made w8 [(1, 1), (2, 1)])
  have B39 := Lib.hid (show Below w3.heap.size w3 w9 from below_on B4.out (below_on B5.out (below_on B6.out (below_on B8.out B9.out))))
  have S9 := Lib.hid (srat_any [(1, 1), (2, 1)] [(1, 1), (2, 1)] ap (some ⟨w8.heap.size, 0, none⟩) cp 2 w9 (RP.out.on B39.out) Q9.out (by simp))
  rw [decide_eq_true rfl] at S9
  go_wp2_with fail
  rw [← hw9]
  clear hw9
  refine S9.out.mono ?_
  rintro e w10 ⟨rfl, hb⟩
  have B10 := Lib.hid hb
  obtain ⟨w11, hw11⟩ : ∃ w11, w11 = twoW w10 [-1] [1] 0 3 true true := ⟨_, rfl⟩
  have R11 := Lib.hid (show RdV w11 (some ⟨w10.heap.size + 1 + 1, 0, none⟩) (two w10 [-1] [1] 0 3 true true) by rw [hw11]; exact (two_rd w10 _ _ _ _ _ _).1)
  have B11 := Lib.hid (show Below w10.heap.size w10 w11 by rw [hw11]; exact (two_rd w10 _ _ _ _ _ _).2)
  have B211 := Lib.hid (show Below w2.heap.size w2 w11 from below_on B3.out (below_on B39.out (below_on B10.out B11.out)))
  have SA := Lib.hid (same_any La (two w10 [-1] [1] 0 3 true true) aa (some ⟨w10.heap.size + 1 + 1, 0, none⟩) ca 2 w11 (RA.out.on B211.out) R11.out (by have := congrArg List.length EA.out; simp at this; omega) (fun y hy => by
    have : lnV y ∈ [(⟨[-1], 0, true⟩ : Ln), ⟨[1], 3, true⟩] := by rw [← EA.out]; exact List.mem_map.2 ⟨y, hy, rfl⟩
    simp only [List.mem_cons, List.not_mem_nil, or_false] at this
    have h : y.a = (lnV y).a := rfl
    rw [h]
    rcases this with e | e <;> rw [e] <;> simp))
  rw [show (decide (La.map lnV = (two w10 [-1] [1] 0 3 true true).map lnV)) = true from decide_eq_true EA.out, ← NA.out] at SA
  have BZ := Lib.hid (show Below w.heap.size w w11 from below_on B1.out (below_on B2.out B211.out))
  clear hb f0 f1 S9
  go_wp2_with fail
  rw [show (((w10.alloc (.cells #[.int .i64 (-1)] 2)).alloc (.cells #[.int .i64 1] 2)).alloc (.cells #[.slice (some ⟨w10.heap.size, 0, none⟩) 1 1, .int .i64 0, .bool true, .slice (some ⟨w10.heap.size + 1, 0, none⟩) 1 1, .int .i64 3, .bool true] 25)) = w11 from hw11.symm]
  clear hw11
  refine SA.out.mono ?_
  rintro e w12 ⟨rfl, hb⟩
  have B12 := Lib.hid (below_on BZ.out hb)
  clear hb
  go_wp2_with fail
  go_ret
  exact ⟨rfl, B12.out⟩
end Go.Proofs.YtbhaoaobhgilkaaGreat

namespace Go.Proofs.YtbhaoaobhgilkaaGreat
open Go.RowKit Go.Sort Go.Shelf

theorem valid_fitV {n : Int} {y : AV} (h : validB n y = true) : FitV n.toNat y := by
  unfold validB at h
  simp only [Bool.and_eq_true, decide_eq_true_eq, List.all_eq_true] at h
  obtain ⟨⟨h1, h2⟩, h3⟩ := h
  refine ⟨by omega, fun v hv => ?_, ?_⟩
  · have := h2 v hv; unfold fitB at this; simpa using this
  · unfold fitB at h3; simpa using h3

/-- What came in, as the project has it, and as the reference has it. -/
theorem tk_ofV {n : Nat} {y : AV} (h : FitV n y) (hn : n ≤ 6) : tk n (ofV y) = lnV y ∧ DomN n (ofV y) := by
  obtain ⟨h1, _, _⟩ := h
  refine ⟨?_, ?_, fun j hj => ?_⟩
  · unfold tk ofV lnV
    simp only [Ln.mk.injEq, and_true]
    rw [← h1, List.take_left']
    rfl
  · unfold ofV; simp; omega
  · unfold ofV gA
    rw [List.getD_eq_getElem?_getD, List.getElem?_append_right (by omega)]
    rw [List.getElem?_replicate]
    split <;> rfl

theorem ofV_map {L : List AV} {R : List AV} (h : R.map lnV = L.map lnV) : R.map ofV = L.map ofV := by
  have e : ∀ y : AV, ofV y = (fun x : Ln => (⟨x.a ++ List.replicate (6 - x.a.length) 0, x.b, x.s⟩ : Ln)) (lnV y) := fun _ => rfl
  have key : ∀ K : List AV, K.map ofV = (K.map lnV).map (fun x : Ln => (⟨x.a ++ List.replicate (6 - x.a.length) 0, x.b, x.s⟩ : Ln)) := fun K => by
    rw [List.map_map]; rfl
  rw [key, key, h]

theorem chkP_map {n : Int} {L R : List AV} (h : R.map lnV = L.map lnV) : chkP n R = chkP n L := by
  have hl : R.length = L.length := by have := congrArg List.length h; simpa using this
  have key : ∀ K : List AV, K.any (fun y => !validB n y) = (K.map lnV).any (fun x => !(decide ((x.a.length : Int) = n) && x.a.all fitB && fitB x.b)) := fun K => by
    rw [List.any_map]; rfl
  unfold chkP
  rw [hl, key, key, h]

end Go.Proofs.YtbhaoaobhgilkaaGreat

namespace Go.Proofs.YtbhaoaobhgilkaaGreat
open Go.Sort

theorem op_ok {v : Bool} {p q : Int} (h : opErr v p q = 0) : v = true ∧ q ≠ 0 ∧ vldB (opNum v p q) (opDen v p q) = true ∧ opNum v p q * q = p * opDen v p q := by
  unfold opErr at h
  cases v
  · simp at h
  · rw [if_pos rfl] at h
    obtain ⟨h1, h2, h3⟩ := mk_ok h
    exact ⟨rfl, h1, h2, h3⟩

theorem vR_pos {q : Pq} (h : vR q = true) : 1 ≤ q.2 := by
  unfold vR vldB at h
  simp at h
  exact h.1

/-- The ratio q is N / D. -/
def Val (q : Pq) (N D : Int) : Prop := vR q = true ∧ q.1 * D = N * q.2

theorem cancel {a b c : Int} (hc : c ≠ 0) (h : a * c = b * c) : a = b := Int.eq_of_mul_eq_mul_right hc h

theorem mul_val {k x D : Int} {z : Pq} (hz : Val z x D) (h : muE (k, 1) z = 0) : Val (muR (k, 1) z) (k * x) D := by
  obtain ⟨_, _, h3, h4⟩ := op_ok h
  refine ⟨h3, ?_⟩
  have hp := vR_pos hz.1
  have e := hz.2
  change (muR (k, 1) z).1 * (1 * z.2) = k * z.1 * (muR (k, 1) z).2 at h4
  generalize (muR (k, 1) z).1 = m1 at *
  generalize (muR (k, 1) z).2 = m2 at *
  generalize z.1 = z1 at *
  generalize z.2 = z2 at *
  refine cancel (c := z2) (by omega) ?_
  grind

theorem add_val {S M D : Int} {s m : Pq} (hs : Val s S D) (hm : Val m M D) (h : adE s m = 0) : Val (adR s m) (S + M) D := by
  obtain ⟨_, _, h3, h4⟩ := op_ok h
  refine ⟨h3, ?_⟩
  have p1 := vR_pos hs.1
  have p2 := vR_pos hm.1
  have e1 := hs.2
  have e2 := hm.2
  change (adR s m).1 * (s.2 * m.2) = (s.1 * m.2 + m.1 * s.2) * (adR s m).2 at h4
  generalize (adR s m).1 = a1 at *
  generalize (adR s m).2 = a2 at *
  generalize s.1 = s1 at *
  generalize s.2 = s2 at *
  generalize m.1 = m1 at *
  generalize m.2 = m2 at *
  refine cancel (c := s2 * m2) (Int.mul_ne_zero (by omega) (by omega)) ?_
  grind

theorem atN_val {D : Int} {X : List Int} {P : List Pq} (a : List Int) : ∀ t, (∀ j, j < t → Val (gp P j) (gA X j) D) → (atN a P t).2 = 0 → Val (atN a P t).1 (dotN a X t) D
  | 0, _, _ => ⟨(by decide : vR (0, 1) = true), by simp [atN, dotN]⟩
  | t + 1, hX, h => by
    have h0 : (atN a P t).2 = 0 := by
      by_cases q : (atN a P t).2 = 0
      · exact q
      · have := atN_stop q 1
        rw [this] at h; exact h
    by_cases hm : muE (gA a t, 1) (gp P t) = 0
    · have e := atN_add h0 hm
      rw [e] at h ⊢
      exact add_val (atN_val a t (fun j hj => hX j (by omega)) h0) (mul_val (hX t (by omega)) hm) h
    · have e := atN_mul h0 hm
      rw [e] at h; exact absurd h hm

theorem gA_pad (a : List Int) (k j : Nat) : gA (a ++ List.replicate k 0) j = gA a j := by
  by_cases h : j < a.length
  · unfold gA; rw [List.getD_eq_getElem?_getD, List.getD_eq_getElem?_getD, List.getElem?_append_left h]
  · rw [gA_out (a := a) (by omega)]
    unfold gA
    rw [List.getD_eq_getElem?_getD, List.getElem?_append_right (by omega), List.getElem?_replicate]
    split <;> rfl

end Go.Proofs.YtbhaoaobhgilkaaGreat

namespace Go.Proofs.YtbhaoaobhgilkaaGreat
open Go.Sort

/-- The ratio r is not below c (above it, if s). -/
def Over (r c : Pq) (s : Bool) : Prop := c.1 * r.2 ≤ r.1 * c.2 ∧ (s = true → c.1 * r.2 < r.1 * c.2)

theorem fd_valP {x : Ln} {i : Nat} {P : List Pq} {D : Int} {X : List Int} (_hD : 0 < D) (hX : ∀ j, j < P.length → Val (gp P j) (gA X j) D) (h : fdE x i P = 0) : vR (fdV x i P) = true ∧ (fdV x i P).1 * (gA x.a i * D) = (x.b * D - dotN x.a X P.length) * (fdV x i P).2 := by
  unfold fdE at h
  by_cases h0 : (atN x.a P P.length).2 = 0
  · rw [if_neg (fun q => q h0)] at h
    have hv := atN_val x.a P.length hX h0
    by_cases h1 : sbE (x.b, 1) (atN x.a P P.length).1 = 0
    · rw [if_neg (fun q => q h1)] at h
      obtain ⟨_, _, d3, d4⟩ := op_ok h1
      obtain ⟨_, _, f3, f4⟩ := op_ok h
      refine ⟨f3, ?_⟩
      change (sbR (x.b, 1) (atN x.a P P.length).1).1 * (1 * (atN x.a P P.length).1.2) = (x.b * (atN x.a P P.length).1.2 - (atN x.a P P.length).1.1 * 1) * (sbR (x.b, 1) (atN x.a P P.length).1).2 at d4
      change (fdV x i P).1 * ((sbR (x.b, 1) (atN x.a P P.length).1).2 * gA x.a i) = (sbR (x.b, 1) (atN x.a P P.length).1).1 * 1 * (fdV x i P).2 at f4
      have hd : 1 ≤ (sbR (x.b, 1) (atN x.a P P.length).1).2 := vR_pos (q := sbR (x.b, 1) (atN x.a P P.length).1) d3
      have hq := vR_pos hv.1
      have he := hv.2
      generalize dotN x.a X P.length = N at *
      generalize (fdV x i P).1 = f1 at *
      generalize (fdV x i P).2 = f2 at *
      generalize (sbR (x.b, 1) (atN x.a P P.length).1).1 = e1 at *
      generalize (sbR (x.b, 1) (atN x.a P P.length).1).2 = e2 at *
      generalize (atN x.a P P.length).1.1 = q1 at *
      generalize (atN x.a P P.length).1.2 = q2 at *
      generalize gA x.a i = a at *
      refine cancel (c := e2 * q2) (Int.mul_ne_zero (by omega) (by omega)) ?_
      have g1 : f1 * (a * D) * (e2 * q2) = e1 * q2 * (f2 * D) := by grind
      have g2 : e1 * q2 = (x.b * q2 - q1) * e2 := by grind
      rw [g1, g2]
      have g3 : (x.b * D - N) * f2 * (e2 * q2) = (x.b * q2 * D - N * q2) * (f2 * e2) := by grind
      rw [g3, ← he]
      grind
    · rw [if_pos h1] at h; exact absurd h h1
  · rw [if_pos h0] at h; exact absurd h h0

/-- A line, at a point extended by the ratio r1 / r2: on which side of the line's end r lies. -/
theorem side_core {S a b D f1 f2 r1 r2 : Int} (hD : 0 < D) (hf : 0 < f2) (e : f1 * (a * D) = (b * D - S) * f2) :
    (S * r2 + a * (r1 * D) ≤ b * (D * r2) ↔ a * (r1 * f2 - f1 * r2) ≤ 0) ∧ (S * r2 + a * (r1 * D) < b * (D * r2) ↔ a * (r1 * f2 - f1 * r2) < 0) := by
  have k : (b * (D * r2) - (S * r2 + a * (r1 * D))) * f2 = -(a * (r1 * f2 - f1 * r2)) * D := by grind
  obtain ⟨Z, hZ⟩ : ∃ Z, Z = b * (D * r2) - (S * r2 + a * (r1 * D)) := ⟨_, rfl⟩
  obtain ⟨W, hW⟩ : ∃ W, W = a * (r1 * f2 - f1 * r2) := ⟨_, rfl⟩
  rw [← hZ, ← hW] at k
  rw [← hW]
  have h1 : 0 ≤ Z ↔ W ≤ 0 := by
    constructor
    · intro h
      have h2 := Int.mul_nonneg h (Int.le_of_lt hf)
      rw [k] at h2
      rcases Int.lt_or_le 0 W with q | q
      · have := Int.mul_lt_mul_of_pos_right (show -W < 0 by omega) hD
        omega
      · exact q
    · intro h
      have h2 := Int.mul_nonneg (show 0 ≤ -W by omega) (Int.le_of_lt hD)
      rw [← k] at h2
      rcases Int.lt_or_le Z 0 with q | q
      · have := Int.mul_lt_mul_of_pos_right q hf
        omega
      · exact q
  have h2 : 0 < Z ↔ W < 0 := by
    constructor
    · intro h
      have h2 := Int.mul_pos h hf
      rw [k] at h2
      rcases Int.lt_or_le W 0 with q | q
      · exact q
      · have := Int.mul_le_mul_of_nonneg_right (show -W ≤ 0 by omega) (Int.le_of_lt hD)
        omega
    · intro h
      have h2 := Int.mul_pos (show 0 < -W by omega) hD
      rw [← k] at h2
      rcases Int.lt_or_le 0 Z with q | q
      · exact q
      · have := Int.mul_le_mul_of_nonneg_right q (Int.le_of_lt hf)
        omega
  omega

theorem neg_side {a u : Int} (ha : a < 0) : (a * u ≤ 0 ↔ 0 ≤ u) ∧ (a * u < 0 ↔ 0 < u) := by
  constructor
  · constructor
    · intro h
      rcases Int.lt_or_le u 0 with q | q
      · have := Int.mul_pos_of_neg_of_neg ha q; omega
      · exact q
    · intro h; exact Int.mul_nonpos_of_nonpos_of_nonneg (by omega) h
  · constructor
    · intro h
      rcases Int.lt_or_le 0 u with q | q
      · exact q
      · have := Int.mul_nonneg_of_nonpos_of_nonpos (Int.le_of_lt ha) q; omega
    · intro h; exact Int.mul_neg_of_neg_of_pos ha h

theorem pos_side {a u : Int} (ha : 0 < a) : (a * u ≤ 0 ↔ u ≤ 0) ∧ (a * u < 0 ↔ u < 0) := by
  have := neg_side (a := -a) (u := -u) (by omega)
  rw [Int.neg_mul_neg] at this
  constructor
  · rw [this.1]; omega
  · rw [this.2]; omega

theorem over_trans {a b c : Pq} {s t : Bool} (ha : 1 ≤ a.2) (hb : 1 ≤ b.2) (hc : 1 ≤ c.2) (h1 : Over c b s) (h2 : Over b a t) : Over c a (s || t) := by
  obtain ⟨p, q⟩ := le_trans3 (a := a.1) (b := a.2) (c := b.1) (d := b.2) (P := c.1) (Q := c.2) (by omega) (by omega) (by omega) h2.1 h1.1
  refine ⟨p, fun h => q ?_⟩
  cases s
  · cases t
    · cases h
    · exact Or.inl (h2.2 rfl)
  · exact Or.inr (h1.2 rfl)

theorem over_weak {r c : Pq} {s t : Bool} (h : Over r c s) (hs : t = true → s = true) : Over r c t := ⟨h.1, fun k => h.2 (hs k)⟩
end Go.Proofs.YtbhaoaobhgilkaaGreat

namespace Go.Proofs.YtbhaoaobhgilkaaGreat
open Go.RowKit Go.Sort Go.Shelf

end Go.Proofs.YtbhaoaobhgilkaaGreat

namespace Go.Proofs.YtbhaoaobhgilkaaGreat
open Go.Sort

theorem gA_erase (a : List Int) (i j : Nat) : gA (a.eraseIdx i) j = if j < i then gA a j else gA a (j + 1) := by
  unfold gA
  rw [List.getD_eq_getElem?_getD, List.getElem?_eraseIdx]
  split <;> rw [← List.getD_eq_getElem?_getD]

theorem dot_erase (a X : List Int) (i : Nat) : ∀ t, dotN (a.eraseIdx i) (X.eraseIdx i) t = if t ≤ i then dotN a X t else dotN a X (t + 1) - gA a i * gA X i
  | 0 => by simp [dotN]
  | t + 1 => by
    show dotN (a.eraseIdx i) (X.eraseIdx i) t + gA (a.eraseIdx i) t * gA (X.eraseIdx i) t = _
    rw [dot_erase a X i t, gA_erase, gA_erase]
    have e2 : dotN a X (t + 1 + 1) = dotN a X (t + 1) + gA a (t + 1) * gA X (t + 1) := rfl
    have e1 : dotN a X (t + 1) = dotN a X t + gA a t * gA X t := rfl
    rcases Nat.lt_trichotomy t i with h | h | h
    · rw [if_pos (by omega), if_pos h, if_pos h, if_pos (by omega), e1]
    · subst h
      rw [if_pos (Nat.le_refl _), if_neg (by omega), if_neg (by omega), if_neg (by omega), e2, e1]; omega
    · rw [if_neg (by omega), if_neg (by omega), if_neg (by omega), if_neg (by omega), e2]; omega

theorem ofV_zr {n : Nat} {L : List AV} (hv : ∀ y ∈ L, validB n y = true) (hn : n ≤ 5) : ZrL (fun j => n ≤ j) (L.map ofV) := fun x hx => by
  obtain ⟨y, hy, rfl⟩ := List.mem_map.1 hx
  have hf := valid_fitV (hv y hy)
  have hl : y.a.length = n := by have := hf.1; simpa using this
  exact ⟨by unfold ofV; simp; omega, fun j hj => by unfold ofV; rw [gA_pad, gA_out (by omega)]⟩

theorem sh_far {l : List Ln} {n m : Nat} (h : ZrL (fun j => n ≤ j) l) : ∀ k, ZrL (fun j => n ≤ j) (shL l m k)
  | 0 => tidy_zr h
  | k + 1 => fun x hx => by
    have := leave_zr (sh_far h k) (m - 1 - k) x hx
    exact ⟨this.1, fun j hj => this.2 j (Or.inl hj)⟩

end Go.Proofs.YtbhaoaobhgilkaaGreat

namespace Go.Proofs.YtbhaoaobhgilkaaGreat
open Go.RowKit Go.Sort Go.Shelf

theorem case_agg (w : World) : (isAgg 28).run Tryz.prog w = .ok true w := by
  unfold isAgg; rw [Sem.run_bind, run_underlying Tryz.underlying28 w]; simp

theorem case_size : (Tryz.prog.info? 28).map (·.size) = some 9 := by kernel_rfl

theorem wpl_loadC {t : TypeId} {cs : List Value} (ha : ∀ w, (isAgg t).run Tryz.prog w = .ok true w) (hz : (Tryz.prog.info? t).map (·.size) = some cs.length) {w : World} {ops : Array Oper} {rest : List Oper} {o : Oper} {a : Act} {Q : Exit → Act → World → Prop} (hgd : o.guard = none) (s : Operand) (ho : o.op = .load t s) (p : Addr) (hs : a.eval s = .pointer (some p)) (hx : CsAt w p cs)
    (h : wpList Tryz.prog ops Q rest (a.put o.dst (.agg ⟨cs⟩)) w) : wpList Tryz.prog ops Q (o :: rest) a w :=
  wpList_plain hgd fun K hK => by
    have hv := cs_loadP (cs := cs) ha hz hx
    unfold Oper.wp execOp
    simp only [ho, hs, Instr.loadAt, Instr.sureAddr, Sem.run_bind, Sem.run_pure, Result.andThen_ok, hv]
    exact hK _ _ h

end Go.Proofs.YtbhaoaobhgilkaaGreat
