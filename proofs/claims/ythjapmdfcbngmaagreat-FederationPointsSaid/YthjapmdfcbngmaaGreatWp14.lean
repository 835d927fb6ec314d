/- A part. -/
import Derived.Test.YthjapmdfcbngmaaGreatWp13
import Derived.BigRegion

namespace Go.Proofs.YthjapmdfcbngmaaGreat
open Go.RowKit

def twB (N M : Int) (l m : List Int) : Bool := decide (chkE N l = 0) && decide (chkE M m = 0) && decide (N = M)

theorem two_boxes (w : World) (u v x y : Value) (t : TypeId) : Two ((w.alloc (.cells #[u, v] t)).alloc (.cells #[x, y] t)) w.heap.size u v ∧ Two ((w.alloc (.cells #[u, v] t)).alloc (.cells #[x, y] t)) (w.heap.size + 1) x y := by
  refine ⟨(Two.made _ _ _ _).alloc _, ?_⟩
  have := Two.made (w.alloc (.cells #[u, v] t)) x y t
  simpa using this

set_option maxHeartbeats 800000 in
theorem two_any (N M : Int) (l m : List Int) (ao bo : Option Addr) (ca cb : Nat) (w : World) (hA : Arg w ao l) (hB : Arg w bo m) :
    Calls Tryz.prog 92 #[.agg #[.int .i64 N, .slice ao l.length ca], .agg #[.int .i64 M, .slice bo m.length cb]] w (Made (.bool (twB N M l m)) w) := by
  obtain ⟨e1, he1⟩ : ∃ e, e = chkE N l := ⟨_, rfl⟩
  obtain ⟨e2, he2⟩ : ∃ e, e = chkE M m := ⟨_, rfl⟩
  have CA := Lib.hid fun W (h : Below w.heap.size w W) => check_as (cap := ca) W (hA.on h) he1.symm
  have CB := Lib.hid fun W (h : Below w.heap.size w W) => check_as (cap := cb) W (hB.on h) he2.symm
  have HT := Lib.hid (show twB N M l m = (decide (e1 = 0) && decide (e2 = 0) && decide (N = M)) by rw [he1, he2]; rfl)
  clear hA hB he1 he2
  generalize l.length = len at *
  generalize m.length = mlen at *
  generalize twB N M l m = tb at *
  obtain ⟨w0, hw0⟩ : ∃ w0, w0 = (w.alloc (.cells #[.int .i64 N, .slice ao len ca] 36)).alloc (.cells #[.int .i64 M, .slice bo mlen cb] 36) := ⟨_, rfl⟩
  obtain ⟨bx, by'⟩ := two_boxes w (.int .i64 N) (.slice ao len ca) (.int .i64 M) (.slice bo mlen cb) 36
  rw [← hw0] at bx by'
  have E0 := Lib.hid (show Below w.heap.size w w0 by rw [hw0]; exact past_two (Below.refl _ _))
  have HW0 := Lib.hid hw0
  clear hw0
  by_cases c1 : e1 = 0
  · by_cases c2 : e2 = 0
    · by_cases c3 : N = M
      · have HE := Lib.hid (show tb = true by rw [HT.out]; simp [c1, c2, c3])
        have B1 : (e1 == 0) = true := by simpa using c1
        have B2 : (e2 == 0) = true := by simpa using c2
        have B3 : (N == M) = true := by simpa using c3
        clear c1 c2 c3 HT
        go_enter Tryz.func92, Tryz.ntmps92
        go_wp2_with fail
        rw [← HW0.out]
        obtain ⟨b0, b1, b2, b3⟩ := bx.facts
        go_wp2_with fail
        refine (CA.out _ E0.out).mono ?_
        rintro e w1 ⟨rfl, hb1⟩
        clear b0 b1 b2 b3
        replace bx := bx.kept hb1
        replace by' := by'.kept hb1
        replace E0 := Lib.hid (below_on E0.out hb1)
        clear hb1
        obtain ⟨b0, b1, b2, b3⟩ := bx.facts
        obtain ⟨d0, d1, d2, d3⟩ := by'.facts
        go_wp2_with fail
        refine (CB.out _ E0.out).mono ?_
        rintro e w2 ⟨rfl, hb2⟩
        clear b0 b1 b2 b3 d0 d1 d2 d3
        replace bx := bx.kept hb2
        replace by' := by'.kept hb2
        replace E0 := Lib.hid (below_on E0.out hb2)
        clear hb2
        obtain ⟨b0, b1, b2, b3⟩ := bx.facts
        obtain ⟨d0, d1, d2, d3⟩ := by'.facts
        go_wp2_with fail
        try (go_quiet (fail); go_wp2_with fail)
        go_ret
        exact ⟨ret_bool HE.out.symm, by first | exact E0.out | exact below_drewN E0.out _⟩
      · have HE := Lib.hid (show tb = false by rw [HT.out]; simp [c3])
        have B1 : (e1 == 0) = true := by simpa using c1
        have B2 : (e2 == 0) = true := by simpa using c2
        have B3 : (N == M) = false := by simpa using c3
        clear c1 c2 c3 HT
        go_enter Tryz.func92, Tryz.ntmps92
        go_wp2_with fail
        rw [← HW0.out]
        obtain ⟨b0, b1, b2, b3⟩ := bx.facts
        go_wp2_with fail
        refine (CA.out _ E0.out).mono ?_
        rintro e w1 ⟨rfl, hb1⟩
        clear b0 b1 b2 b3
        replace bx := bx.kept hb1
        replace by' := by'.kept hb1
        replace E0 := Lib.hid (below_on E0.out hb1)
        clear hb1
        obtain ⟨b0, b1, b2, b3⟩ := bx.facts
        obtain ⟨d0, d1, d2, d3⟩ := by'.facts
        go_wp2_with fail
        refine (CB.out _ E0.out).mono ?_
        rintro e w2 ⟨rfl, hb2⟩
        clear b0 b1 b2 b3 d0 d1 d2 d3
        replace bx := bx.kept hb2
        replace by' := by'.kept hb2
        replace E0 := Lib.hid (below_on E0.out hb2)
        clear hb2
        obtain ⟨b0, b1, b2, b3⟩ := bx.facts
        obtain ⟨d0, d1, d2, d3⟩ := by'.facts
        go_wp2_with fail
        try (go_quiet (fail); go_wp2_with fail)
        go_ret
        exact ⟨ret_bool HE.out.symm, by first | exact E0.out | exact below_drewN E0.out _⟩
    · have HE := Lib.hid (show tb = false by rw [HT.out]; simp [c2])
      have B1 : (e1 == 0) = true := by simpa using c1
      have B2 : (e2 == 0) = false := by simpa using c2
      clear c1 c2 HT
      go_enter Tryz.func92, Tryz.ntmps92
      go_wp2_with fail
      rw [← HW0.out]
      obtain ⟨b0, b1, b2, b3⟩ := bx.facts
      go_wp2_with fail
      refine (CA.out _ E0.out).mono ?_
      rintro e w1 ⟨rfl, hb1⟩
      clear b0 b1 b2 b3
      replace bx := bx.kept hb1
      replace by' := by'.kept hb1
      replace E0 := Lib.hid (below_on E0.out hb1)
      clear hb1
      obtain ⟨b0, b1, b2, b3⟩ := bx.facts
      obtain ⟨d0, d1, d2, d3⟩ := by'.facts
      go_wp2_with fail
      refine (CB.out _ E0.out).mono ?_
      rintro e w2 ⟨rfl, hb2⟩
      clear b0 b1 b2 b3 d0 d1 d2 d3
      replace bx := bx.kept hb2
      replace by' := by'.kept hb2
      replace E0 := Lib.hid (below_on E0.out hb2)
      clear hb2
      obtain ⟨b0, b1, b2, b3⟩ := bx.facts
      obtain ⟨d0, d1, d2, d3⟩ := by'.facts
      go_wp2_with fail
      try (go_quiet (fail); go_wp2_with fail)
      go_ret
      exact ⟨ret_bool HE.out.symm, by first | exact E0.out | exact below_drewN E0.out _⟩
  · have HE := Lib.hid (show tb = false by rw [HT.out]; simp [c1])
    have B1 : (e1 == 0) = false := by simpa using c1
    clear c1 HT
    go_enter Tryz.func92, Tryz.ntmps92
    go_wp2_with fail
    rw [← HW0.out]
    obtain ⟨b0, b1, b2, b3⟩ := bx.facts
    go_wp2_with fail
    refine (CA.out _ E0.out).mono ?_
    rintro e w1 ⟨rfl, hb1⟩
    clear b0 b1 b2 b3
    replace bx := bx.kept hb1
    replace by' := by'.kept hb1
    replace E0 := Lib.hid (below_on E0.out hb1)
    clear hb1
    obtain ⟨b0, b1, b2, b3⟩ := bx.facts
    obtain ⟨d0, d1, d2, d3⟩ := by'.facts
    go_wp2_with fail
    try (go_quiet (fail); go_wp2_with fail)
    go_ret
    exact ⟨ret_bool HE.out.symm, by first | exact E0.out | exact below_drewN E0.out _⟩

theorem tw_no {N M : Int} {l m : List Int} (h : twB N M l m = false) : ¬ (chkE N l = 0 ∧ chkE M m = 0 ∧ N = M) := by
  rintro ⟨a, b, c⟩
  subst c
  simp [twB, a, b] at h

theorem tw_yes {N M : Int} {l m : List Int} (h : twB N M l m = true) : chkE N l = 0 ∧ chkE M m = 0 ∧ N = M := by
  unfold twB at h; simp at h; exact ⟨h.1.1, h.1.2, h.2⟩

def inB (l m : List Int) : Bool := (List.range l.length).all fun k => decide (Zo.gt m k ≤ Zo.gt l k)

def inR (N M : Int) (l m : List Int) : Bool := twB N M l m && inB l m

def inE (N M : Int) (l m : List Int) : Int := if twB N M l m then 0 else 2

set_option maxHeartbeats 400000 in
theorem includes_bad (N M : Int) (l m : List Int) (ao bo : Option Addr) (ca cb : Nat) (w : World) (hA : Arg w ao l) (hB : Arg w bo m) (ht : twB N M l m = false) :
    Calls Tryz.prog 76 #[.agg #[.int .i64 N, .slice ao l.length ca], .agg #[.int .i64 M, .slice bo m.length cb]] w (Made (.tuple #[.bool (inR N M l m), .int .i64 (inE N M l m)]) w) := by
  have H := Lib.hid (show inR N M l m = false ∧ inE N M l m = 2 by simp [inR, inE, ht])
  have TW := Lib.hid fun W (h : Below w.heap.size w W) => by have := two_any N M l m ao bo ca cb W (hA.on h) (hB.on h); rw [ht] at this; exact this
  generalize l.length = len at *
  generalize m.length = mlen at *
  obtain ⟨w0, hw0⟩ : ∃ w0, w0 = (w.alloc (.cells #[.int .i64 N, .slice ao len ca] 36)).alloc (.cells #[.int .i64 M, .slice bo mlen cb] 36) := ⟨_, rfl⟩
  obtain ⟨bx, by'⟩ := two_boxes w (.int .i64 N) (.slice ao len ca) (.int .i64 M) (.slice bo mlen cb) 36
  rw [← hw0] at bx by'
  have E0 := Lib.hid (show Below w.heap.size w w0 by rw [hw0]; exact past_two (Below.refl _ _))
  have HW0 := Lib.hid hw0
  clear hw0
  clear hA hB ht
  go_enter Tryz.func76, Tryz.ntmps76
  go_wp2_with fail
  rw [← HW0.out]
  obtain ⟨b0, b1, b2, b3⟩ := bx.facts
  obtain ⟨d0, d1, d2, d3⟩ := by'.facts
  go_wp2_with fail
  refine (TW.out _ E0.out).mono ?_
  rintro e w1 ⟨rfl, hb1⟩
  go_wp2_with fail
  go_ret2
  exact ⟨by rw [H.out.1, H.out.2]; rfl, below_on E0.out hb1⟩

set_option maxHeartbeats 1600000 in
theorem includes_any (n : Nat) (l m : List Int) (a b : Addr) (ca cb : Nat) (w : World) (hn : n ≤ 10) (hl : l.length = (n + 1) * (n + 1)) (hm : m.length = (n + 1) * (n + 1)) (hR : Rd w a l) (hQ : Rd w b m) (ht : twB n n l m = true) :
    Calls Tryz.prog 76 #[.agg #[.int .i64 n, .slice (some a) l.length ca], .agg #[.int .i64 n, .slice (some b) m.length cb]] w (Made (.tuple #[.bool (inR n n l m), .int .i64 (inE n n l m)]) w) := by
  obtain ⟨len, hlen⟩ : ∃ len, len = l.length := ⟨_, rfl⟩
  have lb : len ≤ 121 := by rw [hlen, hl]; exact dsq_le hn
  have hml : m.length = len := by rw [hm, hlen, hl]
  have TW : Hid (∀ W, Below w.heap.size w W → Calls Tryz.prog 92 #[.agg #[.int .i64 n, .slice (some a) len ca], .agg #[.int .i64 n, .slice (some b) len cb]] W (Made (.bool true) W)) := Lib.hid fun W h => by have := two_any n n l m (some a) (some b) ca cb W (fun _ => ⟨_, rfl, hR.on h⟩) (fun _ => ⟨_, rfl, hQ.on h⟩); rw [ht, hml, ← hlen] at this; exact this
  have H0 := Lib.hid (show inR n n l m = inB l m ∧ inE n n l m = 0 by simp [inR, inE, ht])
  obtain ⟨w0, hw0⟩ : ∃ w0, w0 = (w.alloc (.cells #[.int .i64 n, .slice (some a) len ca] 36)).alloc (.cells #[.int .i64 n, .slice (some b) len cb] 36) := ⟨_, rfl⟩
  obtain ⟨bx, by'⟩ := two_boxes w (.int .i64 n) (.slice (some a) len ca) (.int .i64 n) (.slice (some b) len cb) 36
  rw [← hw0] at bx by'
  have E0 := Lib.hid (show Below w.heap.size w w0 by rw [hw0]; exact past_two (Below.refl _ _))
  have HW0 := Lib.hid hw0
  have HR := Lib.hid hR
  have HQ := Lib.hid hQ
  have HL := Lib.hid hlen
  have HM := Lib.hid hml
  rw [hml, ← hlen]
  clear hR hQ ht hl hm hlen hml hw0
  go_enter Tryz.func76, Tryz.ntmps76
  go_wp2_with fail
  rw [← HW0.out]
  obtain ⟨b0, b1, b2, b3⟩ := bx.facts
  obtain ⟨d0, d1, d2, d3⟩ := by'.facts
  go_wp2_with fail
  refine (TW.out _ E0.out).mono ?_
  rintro e w1 ⟨rfl, hb1⟩
  clear b0 b1 b2 b3 d0 d1 d2 d3
  replace bx := bx.kept hb1
  replace by' := by'.kept hb1
  replace E0 := Lib.hid (below_on E0.out hb1)
  clear hb1
  go_wp2_with fail
  go_loopw [6] (fun s wr => ∃ t : Nat, t ≤ len ∧ s = .int .i64 t ∧ Hid (∀ k, k < t → Zo.gt m k ≤ Zo.gt l k) ∧ Hid (Below w1.heap.size w1 wr)) (fun s _ => len - (intOf s).toNat)
  case atStart => exact ⟨0, by omega, rfl, Lib.hid (fun k hk => by omega), Lib.hid (Below.refl _ _)⟩
  case round =>
    obtain ⟨t, ht, rfl, HK, HBw⟩ := hrel
    obtain ⟨b0, b1, b2, b3⟩ := (bx.kept HBw.out).facts
    obtain ⟨d0, d1, d2, d3⟩ := (by'.kept HBw.out).facts
    by_cases htn : t < len
    · have x1 := (HR.out.on (below_on E0.out HBw.out)) t (by rw [← HL.out]; exact htn)
      have y1 := (HQ.out.on (below_on E0.out HBw.out)) t (by rw [HM.out]; exact htn)
      obtain ⟨x, hx⟩ : ∃ x, x = Zo.gt l t := ⟨_, rfl⟩
      obtain ⟨y, hy⟩ : ∃ y, y = Zo.gt m t := ⟨_, rfl⟩
      rw [← hx] at x1
      rw [← hy] at y1
      have HXE := Lib.hid hx
      have HYE := Lib.hid hy
      clear hx hy
      by_cases hxy : y ≤ x
      · have D : decide (x < y) = false := by simp; omega
        have HXY := Lib.hid hxy
        clear hxy
        go_wp2_with fail
        go_quiet (fail)
        clear b0 b1 b2 b3 d0 d1 d2 d3 x1 y1
        go_wp2_with fail
        go_roundw
        case rel =>
          refine ⟨t + 1, by omega, by go_num, Lib.hid (fun k hk => ?_), Lib.hid (below_drewN HBw.out _)⟩
          by_cases e : k = t
          · rw [e, ← HXE.out, ← HYE.out]; exact HXY.out
          · exact HK.out k (by omega)
        case measure => simp [intOf]; omega
      · have D : decide (x < y) = true := by simp; omega
        have HE := Lib.hid (show inB l m = false by
          unfold inB; rw [List.all_eq_false]
          exact ⟨t, by simp; rw [← HL.out]; exact htn, by rw [← HXE.out, ← HYE.out]; simpa using hxy⟩)
        clear hxy
        go_wp2_with fail
        go_quiet (fail)
        clear b0 b1 b2 b3 d0 d1 d2 d3 x1 y1
        go_wp2_with fail
        go_ret2
        exact ⟨by rw [H0.out.1, H0.out.2, HE.out]; rfl, below_drewN (below_on E0.out HBw.out) _⟩
    · have HE := Lib.hid (show inB l m = true by
        unfold inB; rw [List.all_eq_true]
        intro k hk
        simp at hk
        simpa using HK.out k (by rw [← HL.out] at hk; omega))
      go_wp2_with fail
      go_ret2
      exact ⟨by rw [H0.out.1, H0.out.2, HE.out]; rfl, below_on E0.out HBw.out⟩

theorem includes_gen (N M : Int) (l m : List Int) (ao bo : Option Addr) (ca cb : Nat) (w : World) (hA : Arg w ao l) (hB : Arg w bo m) :
    Calls Tryz.prog 76 #[.agg #[.int .i64 N, .slice ao l.length ca], .agg #[.int .i64 M, .slice bo m.length cb]] w (Made (.tuple #[.bool (inR N M l m), .int .i64 (inE N M l m)]) w) := by
  cases ht : twB N M l m
  · exact includes_bad N M l m ao bo ca cb w hA hB ht
  · obtain ⟨c1, c2, rfl⟩ := tw_yes ht
    obtain ⟨n, rfl, hn, hl, hne⟩ := chk_ok c1
    obtain ⟨n', e, hn', hm, hne'⟩ := chk_ok c2
    have : n = n' := by omega
    subst this
    obtain ⟨a, rfl, hR⟩ := hA hne
    obtain ⟨b, rfl, hQ⟩ := hB hne'
    exact includes_any n l m a b ca cb w hn hl hm hR hQ ht
end Go.Proofs.YthjapmdfcbngmaaGreat

namespace Go.Proofs.YthjapmdfcbngmaaGreat
open Go.RowKit

def imax (x y : Int) : Int := max x y

theorem run_imax (x y : Int) (ts : Array TypeId) (t : TypeId) (W : World) : (Builtin.max_ ts t #[.int .i64 x, .int .i64 y]).run Tryz.prog W = .ok (.int .i64 (imax x y)) W := by
  rw [run_max_int2]; unfold imax
  congr 2
  split
  · rw [Int.max_eq_right (by omega)]
  · rw [Int.max_eq_left (by omega)]

theorem three_boxes (w : World) (u v x y p q : Value) (t : TypeId) : Two (((w.alloc (.cells #[u, v] t)).alloc (.cells #[x, y] t)).alloc (.cells #[p, q] t)) w.heap.size u v ∧ Two (((w.alloc (.cells #[u, v] t)).alloc (.cells #[x, y] t)).alloc (.cells #[p, q] t)) (w.heap.size + 1) x y ∧ Two (((w.alloc (.cells #[u, v] t)).alloc (.cells #[x, y] t)).alloc (.cells #[p, q] t)) (w.heap.size + 2) p q := by
  obtain ⟨a, b⟩ := two_boxes w u v x y t
  refine ⟨a.alloc _, b.alloc _, ?_⟩
  have := Two.made ((w.alloc (.cells #[u, v] t)).alloc (.cells #[x, y] t)) p q t
  simpa using this

def meS (m : List Int) (x : List Int) (t : Nat) : List Int := x.set t (imin (Zo.gt x t) (Zo.gt m t))

def meL (l m : List Int) : List Int := (List.range l.length).foldl (meS m) l

theorem meL_len (l m : List Int) : (meL l m).length = l.length := fold_len (fun x t => by simp [meS]) l _

def zmE (N M : Int) (l m : List Int) : Int := if twB N M l m then cloE N.toNat (meL l m) else 2

set_option maxHeartbeats 400000 in
theorem me_bad (N M : Int) (l m : List Int) (ao bo : Option Addr) (ca cb : Nat) (w : World) (hA : Arg w ao l) (hB : Arg w bo m) (ht : twB N M l m = false) :
    Calls Tryz.prog 45 #[.agg #[.int .i64 N, .slice ao l.length ca], .agg #[.int .i64 M, .slice bo m.length cb]] w (ZRes w 0 [] 2) := by
  have TW := Lib.hid fun W (h : Below w.heap.size w W) => by have := two_any N M l m ao bo ca cb W (hA.on h) (hB.on h); rw [ht] at this; exact this
  generalize l.length = len at *
  generalize m.length = mlen at *
  obtain ⟨w0, hw0⟩ : ∃ w0, w0 = ((w.alloc (.cells #[.int .i64 N, .slice ao len ca] 36)).alloc (.cells #[.int .i64 M, .slice bo mlen cb] 36)).alloc (.cells #[.int .i64 0, .slice none 0 0] 36) := ⟨_, rfl⟩
  obtain ⟨bx, by', rs⟩ := three_boxes w (.int .i64 N) (.slice ao len ca) (.int .i64 M) (.slice bo mlen cb) (.int .i64 0) (.slice none 0 0) 36
  rw [← hw0] at bx by' rs
  have E0 := Lib.hid (show Below w.heap.size w w0 by rw [hw0]; exact past_three (Below.refl _ _))
  have HW0 := Lib.hid hw0
  clear hw0 hA hB ht
  go_enter Tryz.func45, Tryz.ntmps45
  go_wp2_with fail
  rw [← HW0.out]
  obtain ⟨b0, b1, b2, b3⟩ := bx.facts
  obtain ⟨d0, d1, d2, d3⟩ := by'.facts
  go_wp2_with fail
  refine (TW.out _ E0.out).mono ?_
  rintro e w1 ⟨rfl, hb1⟩
  clear b0 b1 b2 b3 d0 d1 d2 d3
  replace rs := rs.kept hb1
  replace E0 := Lib.hid (below_on E0.out hb1)
  clear hb1
  obtain ⟨b0, b1, b2, b3⟩ := rs.facts
  go_wp2_with fail
  refine bodyPost_ret (v := .tuple #[.agg #[.int .i64 0, .slice none 0 0], .int .i64 2]) (by simp [results, Tryz.results45, go_sem, b0, b1]) rfl (zres_bad ?_)
  exact (E0.out.setCell (by show w.heap.size ≤ w.heap.size + 2; omega) _).setCell (by show w.heap.size ≤ w.heap.size + 2; omega) _

set_option maxHeartbeats 1600000 in
theorem me_any (n : Nat) (l m : List Int) (a b : Addr) (ca cb : Nat) (w : World) (hn : n ≤ 10) (hl : l.length = (n + 1) * (n + 1)) (hm : m.length = (n + 1) * (n + 1)) (hR : Rd w a l) (hQ : Rd w b m) (ht : twB n n l m = true) :
    Calls Tryz.prog 45 #[.agg #[.int .i64 n, .slice (some a) l.length ca], .agg #[.int .i64 n, .slice (some b) m.length cb]] w (ZRes w n (Zo.clo n (meL l m)) (cloE n (meL l m))) := by
  obtain ⟨len, hlen⟩ : ∃ len, len = l.length := ⟨_, rfl⟩
  have lb : len ≤ 121 := by rw [hlen, hl]; exact dsq_le hn
  have hml : m.length = len := by rw [hm, hlen, hl]
  have TW : Hid (∀ W, Below w.heap.size w W → Calls Tryz.prog 92 #[.agg #[.int .i64 n, .slice (some a) len ca], .agg #[.int .i64 n, .slice (some b) len cb]] W (Made (.bool true) W)) := Lib.hid fun W h => by have := two_any n n l m (some a) (some b) ca cb W (fun _ => ⟨_, rfl, hR.on h⟩) (fun _ => ⟨_, rfl, hQ.on h⟩); rw [ht, hml, ← hlen] at this; exact this
  have CP : Hid (∀ W, Below w.heap.size w W → Calls Tryz.prog 93 #[.agg #[.int .i64 n, .slice (some a) len ca]] W (fun e w' => ∃ g c, e = .returned (.agg #[.int .i64 n, .slice (some ⟨g, 0, none⟩) len c]) ∧ W.heap.size ≤ g ∧ Own w' g c l ∧ Below W.heap.size W w')) := Lib.hid fun W h => by have := copied_any n l a ca W (by rw [hl]; exact dsq_pos n) (by rw [hl]; have := dsq_le hn; omega) (hR.on h); rw [← hlen] at this; exact this
  obtain ⟨w0, hw0⟩ : ∃ w0, w0 = ((w.alloc (.cells #[.int .i64 n, .slice (some a) len ca] 36)).alloc (.cells #[.int .i64 n, .slice (some b) len cb] 36)).alloc (.cells #[.int .i64 0, .slice none 0 0] 36) := ⟨_, rfl⟩
  obtain ⟨bx, by', rs⟩ := three_boxes w (.int .i64 n) (.slice (some a) len ca) (.int .i64 n) (.slice (some b) len cb) (.int .i64 0) (.slice none 0 0) 36
  rw [← hw0] at bx by' rs
  have E0 := Lib.hid (show Below w.heap.size w w0 by rw [hw0]; exact past_three (Below.refl _ _))
  have HW0 := Lib.hid hw0
  have HQ := Lib.hid hQ
  have HL := Lib.hid hl
  have HLn := Lib.hid hlen
  have HM := Lib.hid hml
  rw [hml, ← hlen]
  clear hR hQ ht hl hm hlen hml hw0
  go_enter Tryz.func45, Tryz.ntmps45
  go_wp2_with fail
  rw [← HW0.out]
  obtain ⟨b0, b1, b2, b3⟩ := bx.facts
  obtain ⟨d0, d1, d2, d3⟩ := by'.facts
  go_wp2_with fail
  refine (TW.out _ E0.out).mono ?_
  rintro e w1 ⟨rfl, hb1⟩
  clear b0 b1 b2 b3 d0 d1 d2 d3
  replace bx := bx.kept hb1
  replace by' := by'.kept hb1
  replace rs := rs.kept hb1
  have E1 := Lib.hid (below_on E0.out hb1)
  have z1 := hb1.size
  have z1' := rs.lt
  clear hb1
  obtain ⟨b0, b1, b2, b3⟩ := bx.facts
  go_wp2_with fail
  refine (CP.out _ E1.out).mono ?_
  rintro e w2 ⟨g, c, rfl, hg, ho, hb2⟩
  clear b0 b1 b2 b3
  replace by' := by'.kept hb2
  replace rs := rs.kept hb2
  have E2 := below_on E1.out hb2
  have z2 := hb2.size
  have hgl := ho.lt
  clear hb2
  obtain ⟨zb, hzb⟩ : ∃ zb, zb = w2.heap.size := ⟨_, rfl⟩
  obtain ⟨w3, hw3⟩ : ∃ w3, w3 = w2.alloc (.cells #[.int .i64 n, .slice (some ⟨g, 0, none⟩) len c] 36) := ⟨_, rfl⟩
  have bx3 : Two w3 zb (.int .i64 n) (.slice (some ⟨g, 0, none⟩) len c) := by rw [hw3, hzb]; exact Two.made _ _ _ _
  have by3 : Two w3 (w.heap.size + 1) (.int .i64 n) (.slice (some b) len cb) := by rw [hw3]; exact by'.alloc _
  have rs3 : Two w3 (w.heap.size + 2) (.int .i64 0) (.slice none 0 0) := by rw [hw3]; exact rs.alloc _
  have E3 : Below w.heap.size w w3 := by rw [hw3]; exact E2.alloc E2.size _
  have S3 := Lib.hid (show St w3 g c l w3 by rw [hw3]; exact ⟨ho.alloc _, World.grownBy.refl _ _⟩)
  have HE3 := Lib.hid E3
  have KQ := Lib.hid (show ∀ (t : Nat) (y : List Int) (w' : World), t < len → St w3 g c y w' → w'.cell? (b.add t) = some (.int .i64 (Zo.gt m t)) from fun t y w' h1 h2 => by
    have q := HQ.out t (by rw [HM.out]; exact h1)
    exact h2.cell (kept E3 q) (by have := World.block_lt_of_cell? w _ q; omega))
  have HZ := Lib.hid hzb
  have HW3 := Lib.hid hw3
  have zz : zb ≠ g := by omega
  clear ho E2 E3 bx rs by' hw3 hzb
  go_wp2_with fail
  rw [← HZ.out, ← HW3.out]
  clear HW3
  go_loopw [7] (fun s wr => ∃ (t : Nat) (x : List Int), t ≤ len ∧ s = .int .i64 t ∧ x.length = len ∧ Hid (x = (List.range t).foldl (meS m) l) ∧ Hid (St w3 g c x wr)) (fun s _ => len - (intOf s).toNat)
  case atStart => exact ⟨0, l, by omega, rfl, HLn.out.symm, Lib.hid rfl, S3⟩
  case round =>
    obtain ⟨t, x, htl, rfl, hx, HX, HT⟩ := hrel
    obtain ⟨b0, b1, b2, b3⟩ := (bx3.grown HT.out.2 zz).facts
    by_cases htn : t < len
    · obtain ⟨d0, d1, d2, d3⟩ := (by3.grown HT.out.2 (by omega)).facts
      have x1 : wr.cell? ⟨g, t, none⟩ = some (.int .i64 (Zo.gt x t)) := by
        have := HT.out.1.rd t (by omega)
        rwa [addr_add] at this
      have x2 : wr.frozen? ⟨g, t, none⟩ = false := World.ownsRow.frozenAt HT.out.1 t
      have y1 := KQ.out t _ _ htn HT.out
      have hm' := run_imin (Zo.gt x t) (Zo.gt m t)
      have S4 := Lib.hid (show St w3 g c (meS m x t) (wr.drew.setCell ⟨g, t, none⟩ (.int .i64 (imin (Zo.gt x t) (Zo.gt m t)))) from ⟨(HT.out.drew.1.put t _).1, grown_trans HT.out.drew.2 (HT.out.drew.1.put t _).2⟩)
      go_wp2_with fail
      go_region
      all_goals
        go_wp2_with fail
        go_roundw
        case rel => exact ⟨t + 1, _, by omega, by go_num, by simpa [meS] using hx, Lib.hid (by rw [Zo.fold_succ, ← HX.out]), S4⟩
        case measure => simp [intOf]; omega
    · have HX2 := Lib.hid (show x = meL l m by rw [HX.out, show t = len by omega, HLn.out]; rfl)
      have lx : x.length = (n + 1) * (n + 1) := by rw [hx, HLn.out, HL.out]
      by_cases hE : cloE n x = 0
      · have CL : Hid (∀ W, Own W g c x → Calls Tryz.prog 94 #[.agg #[.int .i64 n, .slice (some ⟨g, 0, none⟩) len c]] W (fun e w' => e = .returned (.tuple #[.agg #[.int .i64 n, .slice (some ⟨g, 0, none⟩) len c], .int .i64 0]) ∧ Own w' g c (Zo.clo n x) ∧ W.grownBy w' (some g))) := Lib.hid fun W h => by have := closed_ok W hn lx h hE; rw [hx] at this; exact this
        have HEE := Lib.hid hE
        clear hE
        go_wp2_with fail
        refine (CL.out _ HT.out.1).mono ?_
        rintro e w5 ⟨rfl, ho5, hg5⟩
        have rs5 := (rs3.grown HT.out.2 (by omega)).grown hg5 (by omega)
        obtain ⟨q0, q1, q2, q3⟩ := rs5.facts
        have E5 := Lib.hid (grown_over (grown_over HE3.out HT.out.2 (by omega)) hg5 (by omega))
        have HO5 := Lib.hid ho5
        clear ho5 hg5
        go_wp2_with fail
        refine bodyPost_ret (v := .tuple #[.agg #[.int .i64 n, .slice (some ⟨g, 0, none⟩) len c], .int .i64 0]) (by simp [results, Tryz.results45, go_sem, q0, q1]) rfl ⟨(E5.out.setCell (by show w.heap.size ≤ w.heap.size + 2; omega) _).setCell (by show w.heap.size ≤ w.heap.size + 2; omega) _, Or.inl ⟨by rw [← HX2.out]; exact HEE.out, g, c, ?_, by omega, ?_⟩⟩
        · rw [Zo.clo_length, meL_len, ← HLn.out]
        · rw [← HX2.out]; exact put_far HO5.out (by omega) _ _
      · have CL : Hid (∀ W, Own W g c x → Calls Tryz.prog 94 #[.agg #[.int .i64 n, .slice (some ⟨g, 0, none⟩) len c]] W (fun e w' => e = .returned (.tuple #[.agg #[.int .i64 0, .slice none 0 0], .int .i64 (cloE n x)]) ∧ Own w' g c (Zo.clo n x) ∧ W.grownBy w' (some g))) := Lib.hid fun W h => by have := closed_no W hn lx h hE; rw [hx] at this; exact this
        have HEE := Lib.hid hE
        clear hE
        go_wp2_with fail
        refine (CL.out _ HT.out.1).mono ?_
        rintro e w5 ⟨rfl, ho5, hg5⟩
        have rs5 := (rs3.grown HT.out.2 (by omega)).grown hg5 (by omega)
        obtain ⟨q0, q1, q2, q3⟩ := rs5.facts
        have E5 := Lib.hid (grown_over (grown_over HE3.out HT.out.2 (by omega)) hg5 (by omega))
        have HO5 := Lib.hid ho5
        clear ho5 hg5
        go_wp2_with fail
        refine bodyPost_ret (v := .tuple #[.agg #[.int .i64 0, .slice none 0 0], .int .i64 (cloE n x)]) (by simp [results, Tryz.results45, go_sem, q0, q1]) rfl ⟨(E5.out.setCell (by show w.heap.size ≤ w.heap.size + 2; omega) _).setCell (by show w.heap.size ≤ w.heap.size + 2; omega) _, Or.inr ⟨by rw [← HX2.out]; exact HEE.out, ?_⟩⟩
        rw [HX2.out]

theorem me_gen (N M : Int) (l m : List Int) (ao bo : Option Addr) (ca cb : Nat) (w : World) (hA : Arg w ao l) (hB : Arg w bo m) :
    Calls Tryz.prog 45 #[.agg #[.int .i64 N, .slice ao l.length ca], .agg #[.int .i64 M, .slice bo m.length cb]] w (ZRes w N (Zo.clo N.toNat (meL l m)) (zmE N M l m)) := by
  cases ht : twB N M l m
  · exact (me_bad N M l m ao bo ca cb w hA hB ht).mono fun e w' h => h.bad (by simp [zmE, ht])
  · obtain ⟨c1, c2, rfl⟩ := tw_yes ht
    obtain ⟨n, rfl, hn, hl, hne⟩ := chk_ok c1
    obtain ⟨n', e, hn', hm, hne'⟩ := chk_ok c2
    have : n = n' := by omega
    subst this
    obtain ⟨a, rfl, hR⟩ := hA hne
    obtain ⟨b, rfl, hQ⟩ := hB hne'
    rw [show zmE (n : Int) (n : Int) l m = cloE n (meL l m) by simp [zmE, ht]]
    exact me_any n l m a b ca cb w hn hl hm hR hQ ht

def huS (m : List Int) (x : List Int) (t : Nat) : List Int := x.set t (imax (Zo.gt x t) (Zo.gt m t))

def huL (l m : List Int) : List Int := (List.range l.length).foldl (huS m) l

theorem huL_len (l m : List Int) : (huL l m).length = l.length := fold_len (fun x t => by simp [huS]) l _

def huE (N M : Int) (l m : List Int) : Int := if twB N M l m then cloE N.toNat (huL l m) else 2

end Go.Proofs.YthjapmdfcbngmaaGreat
