/- A part. -/
import Derived.Test.YtaegiihkgicdnaaGreatWt45
import Derived.Test.YtaegiihkgicdnaaGreatWt8

namespace Go.Proofs.YtaegiihkgicdnaaGreat
open Go.RowKit

def wtR (a b : List Zp) : List Zp × Int := ((wiS a b).1, ansE [a, b] (colE (wiS a b).1 (wiS a b).2))

set_option maxRecDepth 20000 in
theorem withinf_any (go ho : Option Addr) (n gc k hc : Nat) (w : World) : Calls Tryz.prog 68 #[.slice go n gc, .slice ho k hc] w (fun e w' => e = .returned (.func (.func 113) #[] #[.pointer (some ⟨w.heap.size, 0, none⟩), .pointer (some ⟨w.heap.size + 1, 0, none⟩)])
    ∧ w' = (w.alloc (.cells #[.slice go n gc] 22)).alloc (.cells #[.slice ho k hc] 22)) := by
  go_enter Tryz.func68, Tryz.ntmps68
  go_wp2_with fail
  go_ret
  exact ⟨by first | rfl | simp, by first | rfl | simp⟩

set_option maxRecDepth 100000 in
set_option maxHeartbeats 4000000 in
theorem fwithin1_any (L M : List ZV) (go ho : Option Addr) (gc hc pa pb : Nat) (W : World) (c0 : W.cell? ⟨pa, 0, none⟩ = some (.slice go L.length gc)) (c1 : W.cell? ⟨pb, 0, none⟩ = some (.slice ho M.length hc)) (hL : RdZ 0 W go L) (hM : RdZ 0 W ho M) (hl : L.length ≤ 3000) (hm : M.length ≤ 3000)
    (_ : chkG ([L, M].map (List.map ZV.p)) = 0) :
    Calls Tryz.prog 67 #[.pointer (some ⟨pa, 0, none⟩), .pointer (some ⟨pb, 0, none⟩)] W (fun e W' => (colE (wiS (L.map ZV.p) (M.map ZV.p)).1 (wiS (L.map ZV.p) (M.map ZV.p)).2 = 0 ∧ ∃ v, e = .returned v ∧ NewL (wiS (L.map ZV.p) (M.map ZV.p)).1 W v W' ∧ Below W.heap.size W W') ∨ (colE (wiS (L.map ZV.p) (M.map ZV.p)).1 (wiS (L.map ZV.p) (M.map ZV.p)).2 ≠ 0 ∧ e = .panicked (pan (colE (wiS (L.map ZV.p) (M.map ZV.p)).1 (wiS (L.map ZV.p) (M.map ZV.p)).2)) ∧ Below W.heap.size W W')) := by
  obtain ⟨n, hn⟩ : ∃ n, n = L.length := ⟨_, rfl⟩
  obtain ⟨k, hk⟩ : ∃ k, k = M.length := ⟨_, rfl⟩
  obtain ⟨w1, hw1⟩ : ∃ w1, w1 = (W.alloc (.cells #[.slice go n gc] 22)).alloc (.cells #[.slice ho k hc] 22) := ⟨_, rfl⟩
  have B1 := Lib.hid (show Below W.heap.size W w1 by rw [hw1]; exact past_two (Below.refl _ _))
  have X0 := Lib.hid (show Bx1 w1 W.heap.size (.slice go n gc) 22 by rw [hw1]; exact (Bx1.made W _ _).kept (one_more _))
  have X1 := Lib.hid (show Bx1 w1 (W.heap.size + 1) (.slice ho k hc) 22 by rw [hw1]; have := Bx1.made (W.alloc (.cells #[.slice go n gc] 22)) (.slice ho k hc) 22; simpa using this)
  have SQ := Lib.hid (within_seq L M go ho gc hc W.heap.size (W.heap.size + 1) W.heap.size w1 B1.out.size (by rw [← hn]; exact X0.out.cell) (by rw [← hk]; exact X1.out.cell) (hL.on B1.out) (hM.on B1.out) (by omega) (by omega))
  have CO := Lib.hid (fcollect_any 113 _ W.heap.size _ _ w1 within_enters SQ.out)
  have EA := Lib.hid (withinf_any go ho n gc k hc W)
  rw [← hn] at c0
  rw [← hk] at c1
  clear hn hk hL hM hl hm SQ
  go_enter Tryz.func67, Tryz.ntmps67
  go_wp2_with fail
  refine EA.out.mono ?_
  rintro e w2 ⟨rfl, hw2⟩
  rw [hw2, ← hw1]
  clear hw2 w2 EA hw1
  go_wp2_with fail
  refine CO.out.mono ?_
  intro e w2 h
  have h := h.before B1.out
  obtain ⟨hb, hr⟩ := h
  rcases hr with ⟨h1, v, Z, rfl, h3, h4⟩ | ⟨h1, rfl⟩
  · have HB := Lib.hid hb
    have H1 := Lib.hid h1
    have H3 := Lib.hid h3
    have H4 := Lib.hid h4
    clear hb h1 h3 h4 CO
    go_wp2_with fail
    go_ret
    obtain ⟨ao, cap, rfl, r, q⟩ := H4.out.read
    exact Or.inl ⟨H1.out, _, rfl, ⟨ao, cap, Z, rfl, H3.out, r, fun p e _ => (q p e).1⟩, HB.out⟩
  · exact And.intro rfl (Or.inr ⟨h1, rfl, hb⟩)

set_option maxRecDepth 100000 in
set_option maxHeartbeats 4000000 in
theorem fwithin_out (L M : List ZV) (go ho : Option Addr) (gc hc : Nat) (w : World) (hL : RdZ 0 w go L) (hM : RdZ 0 w ho M) (h1 : go = none → gc = 0) (h2 : ho = none → hc = 0) (hl : L.length ≤ 3000) (hm : M.length ≤ 3000) :
    Calls Tryz.prog 27 #[.slice go L.length gc, .slice ho M.length hc] w (FLRes (wtR (L.map ZV.p) (M.map ZV.p)) w) := by
  obtain ⟨w3, hw3⟩ : ∃ w3, w3 = ((w.alloc (.cells #[.slice go L.length gc] 22)).alloc (.cells #[.slice ho M.length hc] 22)).alloc (.cells #[.slice go L.length gc, .slice ho M.length hc] 22) := ⟨_, rfl⟩
  obtain ⟨t1, t2, t3, t4⟩ := two_lists hL hM h1 h2 hw3
  have B3 := Lib.hid t1
  have LX := Lib.hid (show ansE [L.map ZV.p, M.map ZV.p] (colE (wiS (L.map ZV.p) (M.map ZV.p)).1 (wiS (L.map ZV.p) (M.map ZV.p)).2) = 0 → ((wiS (L.map ZV.p) (M.map ZV.p)).1).length ≤ 1000000 from fun h => by have := colE_len (ansE_zero h).2; omega)
  have AN := Lib.hid (answerL_any 67 #[.pointer (some ⟨w.heap.size, 0, none⟩), .pointer (some ⟨w.heap.size + 1, 0, none⟩)] [L, M] (some ⟨w.heap.size + 2, 0, none⟩) 2 (colE (wiS (L.map ZV.p) (M.map ZV.p)).1 (wiS (L.map ZV.p) (M.map ZV.p)).2) w3 t4 (by simp) (by intro X hX; simp at hX; rcases hX with rfl | rfl <;> assumption) (fclosure _ Tryz.func67 (by kernel_rfl) rfl) (NewL (wiS (L.map ZV.p) (M.map ZV.p)).1) (newL_put) (fun hc0 W hW => fwithin1_any L M go ho gc hc w.heap.size (w.heap.size + 1) W (t2.kept hW).cell (t3.kept hW).cell ((hL.on t1).on hW) ((hM.on t1).on hW) hl hm hc0))
  simp only [List.map_cons, List.map_nil, List.length_cons, List.length_nil, Nat.zero_add, Nat.reduceAdd] at AN
  generalize hLl : L.length = n at *
  generalize hMl : M.length = k at *
  clear hL hM h1 h2 t1 t2 t3 t4 hl hm hLl hMl
  go_enter Tryz.func27, Tryz.ntmps27
  go_wp2_with fail
  rw [← hw3]
  refine AN.out.mono ?_
  intro e w4 h
  have h := h.fl B3.out LX.out
  obtain ⟨hb, ao, cap, Z, rfl, g1, g2, g3, g4⟩ := h
  have H := Lib.hid (show FLRes (wtR (L.map ZV.p) (M.map ZV.p)) w (.returned (.tuple #[.slice ao Z.length cap, .int .i64 (wtR (L.map ZV.p) (M.map ZV.p)).2])) w4 from ⟨hb, ao, cap, Z, rfl, g1, g2, g3, g4⟩)
  generalize Z.length = zn at *
  clear hb g1 g2 g3 g4 AN
  go_wp2_with fail
  go_ret2
  exact H.out
end Go.Proofs.YtaegiihkgicdnaaGreat

namespace Go.Proofs.YtaegiihkgicdnaaGreat
open Go.RowKit

def paL (a b : Int) (o : Bool) : List Int := [1, if o then -2 * a else -2 * a + 1, 2 * b + 1, 1]

def paZ (a b : Int) (o : Bool) : Zp := (1, Zo.clo 1 (paL a b o))

theorem rd_lit4 {w : World} {b : Nat} (l : List Int) (h : w.heap[b]? = some (.cells (l.map (Value.int .i64)).toArray 37 (0, 0))) : Rd w ⟨b, 0, none⟩ l := by
  intro j hj
  rw [addr_add, cell_of_row w b j _ _ _ h]
  simp [Zo.gt, hj]

set_option maxRecDepth 100000 in
set_option maxHeartbeats 4000000 in
theorem part_any (a b : Int) (o : Bool) (w : World) (ha : 0 ≤ a ∧ a ≤ 100) (hb : 0 ≤ b ∧ b ≤ 100) (hc : closeE 1 (paL a b o) = 0) :
    Calls Tryz.prog 36 #[.int .i64 a, .int .i64 b, .bool o] w (fun e w' => Below w.heap.size w w' ∧ ∃ z : ZV, e = .returned z.val ∧ ZAt w.heap.size w' z ∧ z.p = paZ a b o) := by
  obtain ⟨a0, a1⟩ := ha
  obtain ⟨b0, b1⟩ := hb
  obtain ⟨w1, hw1⟩ : ∃ w1, w1 = w.alloc (.cells #[.int .i64 0, .slice none 0 0] 36) := ⟨_, rfl⟩
  have B1 := Lib.hid (show Below w.heap.size w w1 by rw [hw1]; exact one_more _)
  have X1 := Lib.hid (show Bx2 w1 w.heap.size (.int .i64 0) (.slice none 0 0) 36 by rw [hw1]; exact Bx2.made w _ _ _)
  have Q1 : w1.heap.size = w.heap.size + 1 := by rw [hw1]; simp
  have CL := Lib.hid (show ∀ lo hi, [1, lo, hi, 1] = paL a b o → Calls Tryz.prog 81 #[.int .i64 1, .slice (some ⟨w1.heap.size, 0, none⟩) 4 4] (w1.alloc (.cells #[.int .i64 1, .int .i64 lo, .int .i64 hi, .int .i64 1] 37)) (fun e w' => Below w.heap.size w w' ∧ ∃ z : ZV, e = .returned (.tuple #[z.val, .int .i64 0]) ∧ ZAt (w.heap.size + 1) w' z ∧ z.p = paZ a b o ∧ Below w1.heap.size w1 w') from by
    intro lo hi e
    have b2 : Below w1.heap.size w1 (w1.alloc (.cells #[.int .i64 1, .int .i64 lo, .int .i64 hi, .int .i64 1] 37)) := one_more _
    have := close_gen 1 [1, lo, hi, 1] (some ⟨w1.heap.size, 0, none⟩) 4 (w1.alloc (.cells #[.int .i64 1, .int .i64 lo, .int .i64 hi, .int .i64 1] 37)) (fun _ => ⟨_, rfl, rd_lit4 [1, lo, hi, 1] (heap_alloc_last w1 _)⟩)
    refine this.mono ?_
    intro e' w' h
    rw [e, hc] at h
    obtain ⟨h1, z, h2, h3, h4⟩ := h.zv
    have s1 := B1.out.size
    have s2 := b2.size
    exact ⟨below_on (below_on B1.out b2) h1, z, h2, h3.low (by omega), h4 rfl, below_on b2 h1⟩)
  rw [Q1] at CL
  clear hc
  cases o
  · have C2 := Lib.hid (CL.out (-2 * a + 1) (2 * b + 1) rfl)
    clear CL
    go_enter Tryz.func36, Tryz.ntmps36
    go_wp2_with fail
    rw [← hw1]
    clear hw1
    refine C2.out.mono ?_
    rintro e w2 ⟨hb, z, rfl, hz, hp, hb2⟩
    have HP := Lib.hid hp
    unfold ZV.val
    obtain ⟨zl, hzl⟩ : ∃ zl, zl = z.l.length := ⟨_, rfl⟩
    rw [← hzl]
    have HZL := Lib.hid hzl
    obtain ⟨w3, hw3⟩ : ∃ w3, w3 = w2.alloc (.cells #[.int .i64 z.N, .slice z.a zl z.c] 36) := ⟨_, rfl⟩
    have hb3 : Below w2.heap.size w2 w3 := by rw [hw3]; exact one_more _
    have X3 := Lib.hid (show Bx2 w3 w2.heap.size (.int .i64 z.N) (.slice z.a zl z.c) 36 by rw [hw3]; exact Bx2.made w2 _ _ _)
    have X1 := Lib.hid ((X1.out.kept (by rw [Q1]; exact hb2)).kept hb3)
    have B3 := Lib.hid (below_on hb hb3)
    have ZF := Lib.hid (show ∀ p, z.a = some p → w.heap.size + 1 ≤ p.block from fun p e => (hz.2 p e).1)
    have HZ := Lib.hid ((hz.on hb3).low (Nat.le_succ _))
    obtain ⟨x0, x1, x2, x3⟩ := X1.out.facts
    obtain ⟨y0, y1, _, _⟩ := X3.out.facts
    clear hb hz hp hb2 hb3 hzl C2 Q1
    go_upto_region 5 with (fail)
    rw [← hw3]
    clear hw3
    go_wp2_with fail
    obtain ⟨r0, r1, _, _⟩ := (X1.out.put (.int .i64 z.N) (.slice z.a zl z.c)).facts
    refine bodyPost_ret (v := .agg #[.int .i64 z.N, .slice z.a zl z.c]) (by simp [results, Tryz.results36, go_sem, r0, r1]) rfl ?_
    exact ⟨below_put2 B3.out (Nat.le_refl _) _ _, z, by rw [HZL.out]; rfl, HZ.out.grown (r := some w.heap.size) (grown_put2 w3 w.heap.size (.int .i64 z.N) (.slice z.a zl z.c)) (fun p e q => by injection q with q; have := ZF.out p e; omega), HP.out⟩
  · have C2 := Lib.hid (CL.out (-2 * a) (2 * b + 1) rfl)
    clear CL
    go_enter Tryz.func36, Tryz.ntmps36
    go_wp2_with fail
    rw [← hw1]
    clear hw1
    refine C2.out.mono ?_
    rintro e w2 ⟨hb, z, rfl, hz, hp, hb2⟩
    have HP := Lib.hid hp
    unfold ZV.val
    obtain ⟨zl, hzl⟩ : ∃ zl, zl = z.l.length := ⟨_, rfl⟩
    rw [← hzl]
    have HZL := Lib.hid hzl
    obtain ⟨w3, hw3⟩ : ∃ w3, w3 = w2.alloc (.cells #[.int .i64 z.N, .slice z.a zl z.c] 36) := ⟨_, rfl⟩
    have hb3 : Below w2.heap.size w2 w3 := by rw [hw3]; exact one_more _
    have X3 := Lib.hid (show Bx2 w3 w2.heap.size (.int .i64 z.N) (.slice z.a zl z.c) 36 by rw [hw3]; exact Bx2.made w2 _ _ _)
    have X1 := Lib.hid ((X1.out.kept (by rw [Q1]; exact hb2)).kept hb3)
    have B3 := Lib.hid (below_on hb hb3)
    have ZF := Lib.hid (show ∀ p, z.a = some p → w.heap.size + 1 ≤ p.block from fun p e => (hz.2 p e).1)
    have HZ := Lib.hid ((hz.on hb3).low (Nat.le_succ _))
    obtain ⟨x0, x1, x2, x3⟩ := X1.out.facts
    obtain ⟨y0, y1, _, _⟩ := X3.out.facts
    clear hb hz hp hb2 hb3 hzl C2 Q1
    go_upto_region 5 with (fail)
    rw [← hw3]
    clear hw3
    go_wp2_with fail
    obtain ⟨r0, r1, _, _⟩ := (X1.out.put (.int .i64 z.N) (.slice z.a zl z.c)).facts
    refine bodyPost_ret (v := .agg #[.int .i64 z.N, .slice z.a zl z.c]) (by simp [results, Tryz.results36, go_sem, r0, r1]) rfl ?_
    exact ⟨below_put2 B3.out (Nat.le_refl _) _ _, z, by rw [HZL.out]; rfl, HZ.out.grown (r := some w.heap.size) (grown_put2 w3 w.heap.size (.int .i64 z.N) (.slice z.a zl z.c)) (fun p e q => by injection q with q; have := ZF.out p e; omega), HP.out⟩
end Go.Proofs.YtaegiihkgicdnaaGreat

namespace Go.Proofs.YtaegiihkgicdnaaGreat
open Go.RowKit

def OwL (R : Nat) (w : World) (z : ZV) : Prop := w.ownsRow R 37 1 (.slice z.a z.l.length z.c) z.l.length (z.l.map (Value.int .i64))

theorem OwL.zat {R : Nat} {w : World} {z : ZV} (h : OwL R w z) : ZAt R w z := by
  rcases h.2 with ⟨e, hn⟩ | ⟨g, cap, cur, e, hb, hg, hc, hm, hsz, htake⟩
  · injection e with e1
    exact ⟨fun q => absurd (List.length_eq_zero_iff.1 hn) q, fun p e => by rw [e1] at e; cases e⟩
  · injection e with e1 e2 e3
    have lt : g < w.heap.size := by
      by_cases e : g < w.heap.size
      · exact e
      · rw [Array.getElem?_eq_none (by omega)] at hg; cases hg
    refine ⟨fun _ => ⟨_, e1, fun j hj => ?_⟩, fun p e => by rw [e1] at e; cases e; exact ⟨hb, lt⟩⟩
    rw [addr_add, cell_of_row w g j _ _ _ hg]
    have : cur.toList[j]? = (z.l.map (Value.int .i64))[j]? := by rw [← htake, List.getElem?_take, if_pos (by omega)]
    rw [Array.getElem?_toList] at this
    rw [this]
    simp [Zo.gt, hj]

theorem OwL.on {R : Nat} {w w' : World} {z : ZV} (h : OwL R w z) (hb : Below w.heap.size w w') : OwL R w' z := World.ownsRow.kept h (grown_none hb) (by cases (Value.slice z.a z.l.length z.c).ownBlock <;> simp)

theorem OwL.grown {R : Nat} {w w' : World} {z : ZV} {r : Option Nat} (h : OwL R w z) (hg : w.grownBy w' r) (hs : ∀ p, z.a = some p → r ≠ some p.block) : OwL R w' z :=
  World.ownsRow.kept h hg (by
    cases e : z.a with
    | none => exact Or.inl rfl
    | some p => exact Or.inr (fun q => hs p e q.symm))

theorem OwL.low {R R' : Nat} {w : World} {z : ZV} (h : OwL R w z) (hr : R' ≤ R) : OwL R' w z := by
  refine ⟨h.1, ?_⟩
  rcases h.2 with c | ⟨g, cap, cur, h1, h2, h3⟩
  · exact Or.inl c
  · exact Or.inr ⟨g, cap, cur, h1, by omega, h3⟩

theorem cells_arg {w : World} {a : Addr} {l : List Int} (h : Arg w (some a) l) : ∀ j u, (l.map (Value.int .i64))[j]? = some u → w.cell? (a.add j) = some u := by
  intro j u hu
  have hj : j < l.length := by
    have := (List.getElem?_eq_some_iff.1 hu).1
    simpa using this
  obtain ⟨a', e, hR⟩ := h (fun e => by rw [e] at hj; simp at hj)
  cases e
  rw [hR j hj]
  simp [hj] at hu
  rw [← hu]
  simp [Zo.gt, hj]

theorem appendLim_run {R : Nat} {w : World} {v : Value} (hown : w.ownsRow R 37 1 v 0 []) {ao : Option Addr} {c : Nat} {l : List Int} (hA : Arg w ao l) (hn : ao = none → c = 0) (hle : l.length ≤ 4000000) (hB : R ≤ w.heap.size) (ty : TypeId) :
    ∃ v' w', (Builtin.append_ #[34, 34] ty #[v, .slice ao l.length c]).run Tryz.prog w = .ok v' w' ∧ w'.ownsRow R 37 1 v' l.length (l.map (Value.int .i64)) ∧ w.grownBy w' v.ownBlock := by
  obtain ⟨i0, hi, hz0, hz1, hz2⟩ := info_parts Tryz.info37
  cases ao with
  | none =>
    have c0 : c = 0 := hn rfl
    have l0 : l = [] := by
      by_cases e : l = []
      · exact e
      · obtain ⟨a, e2, _⟩ := hA e; cases e2
    subst c0 l0
    exact ⟨v, w, run_append_owned_none (P := Tryz.prog) w R 34 ty 37 i0 1 Tryz.underlying34 hi _ _ _ hown, hown, ⟨rfl, rfl, rfl, Nat.le_refl _, fun _ _ _ => rfl⟩⟩
  | some a =>
    obtain ⟨v', w', hr, h2, h3, _, h5⟩ := run_append_own_at (P := Tryz.prog) w R 34 ty 37 i0 (.int .i64 0) 1 8 Tryz.underlying34 hi hz0 hz1 hz2 (by rfl) (by decide) v 0 _ hown a l.length c (l.map (Value.int .i64))
      (by simp) (cells_arg hA) (by simp [Value.oneCell']) (by unfold maxLen; omega) (by omega) hB
    exact ⟨v', w', hr, by simpa using h2, h3⟩

theorem lim0 (w : World) : (w.alloc (.cells #[] 37)).ownsRow w.heap.size 37 1 (.slice (some ⟨w.heap.size, 0, none⟩) 0 0) 0 [] :=
  World.ownsRow_made w #[] 0 (Nat.le_refl _) (Nat.zero_le _) (by simp)

theorem ownsRow_form0 {w : World} {R : Nat} {e : TypeId} {v : Value} {n : Nat} {xs : List Value} (h : w.ownsRow R e 1 v n xs) : ∃ ao c, v = .slice ao n c := by
  rcases h.2 with ⟨e, hn⟩ | ⟨g, cap, cur, e, _⟩
  · exact ⟨none, 0, by rw [e, hn]⟩
  · exact ⟨_, cap, e⟩

end Go.Proofs.YtaegiihkgicdnaaGreat

namespace Go.Proofs.YtaegiihkgicdnaaGreat
open Go.RowKit

def Fine (L : List ZV) : Prop := L.length ≤ 3000 ∧ ∀ z ∈ L, z.l.length ≤ 200

def BeRes (G : List (List ZV)) (w : World) (e : Ending) (w' : World) : Prop := Below w.heap.size w w' ∧ ∃ bb : Bool, e = .returned (.bool bb) ∧ (bb = false → ∀ L ∈ G, Fine L)

end Go.Proofs.YtaegiihkgicdnaaGreat
