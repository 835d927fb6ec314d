/- Contracts of two, Includes, Meet and Hull of layer 3's reference.; Contracts of layer 3's Copy.; The change of layer 3's Before.; Plain mathematics: what Before makes.; Plain mathematics: Before, as the project does it, is Before as the reference does it.; Plain mathematics: Before in one closing. -/
import Derived.Test.YtbnebinpemejlaaHc6
import Derived.Test.YtbnebinpemejlaaHc8

namespace Go.Proofs.Ytbnebinpemejlaa
open Go.RowKit

def twB (N M : Int) (l m : List Int) : Bool := decide (chkE N l = 0) && decide (chkE M m = 0) && decide (N = M)

/-- Two boxed zones. -/
theorem two_boxes (w : World) (u v x y : Value) (t : TypeId) : Two ((w.alloc (.cells #[u, v] t)).alloc (.cells #[x, y] t)) w.heap.size u v ∧ Two ((w.alloc (.cells #[u, v] t)).alloc (.cells #[x, y] t)) (w.heap.size + 1) x y := by
  refine ⟨(Two.made _ _ _ _).alloc _, ?_⟩
  have := Two.made (w.alloc (.cells #[u, v] t)) x y t
  simpa using this

set_option maxHeartbeats 800000 in
theorem two_any (N M : Int) (l m : List Int) (ao bo : Option Addr) (ca cb : Nat) (w : World) (hA : Arg w ao l) (hB : Arg w bo m) :
    Calls Try.prog 93 #[.agg #[.int .i64 N, .slice ao l.length ca], .agg #[.int .i64 M, .slice bo m.length cb]] w (Made (.bool (twB N M l m)) w) := by
  obtain ⟨e1, he1⟩ : ∃ e, e = chkE N l := ⟨_, rfl⟩
  obtain ⟨e2, he2⟩ : ∃ e, e = chkE M m := ⟨_, rfl⟩
  have CA := Lib.hid fun W (h : Below w.heap.size w W) => check_as (cap := ca) W (hA.on h) he1.symm
  have CB := Lib.hid fun W (h : Below w.heap.size w W) => check_as (cap := cb) W (hB.on h) he2.symm
  have HT := Lib.hid (show twB N M l m = (decide (e1 = 0) && decide (e2 = 0) && decide (N = M)) by rw [he1, he2]; rfl)
  clear hA hB he1 he2
  generalize l.length = len at *
  generalize m.length = mlen at *
  generalize twB N M l m = tb at *
  obtain ⟨w0, hw0⟩ : ∃ w0, w0 = (w.alloc (.cells #[.int .i64 N, .slice ao len ca] 25)).alloc (.cells #[.int .i64 M, .slice bo mlen cb] 25) := ⟨_, rfl⟩
  obtain ⟨bx, by'⟩ := two_boxes w (.int .i64 N) (.slice ao len ca) (.int .i64 M) (.slice bo mlen cb) 25
  rw [← hw0] at bx by'
  have E0 := Lib.hid (show Below w.heap.size w w0 by rw [hw0]; exact past_two (Below.refl _ _))
  have HW0 := Lib.hid hw0
  clear hw0
  by_cases c1 : e1 = 0
  · by_cases c2 : e2 = 0
    · by_cases c3 : N = M
      · have HE := Lib.hid (show tb = true by rw [HT.out]; simp [c1, c2, c3])
        have B1 : (e1 == 0) = true := by simpa using c1
        have B2 : (e2 == 0) = true := by simpa using c2
        have B3 : (N == M) = true := by simpa using c3
        clear c1 c2 c3 HT
        go_enter Try.func93, Try.ntmps93
        go_wp2_with fail
        rw [← HW0.out]
        obtain ⟨b0, b1, b2, b3⟩ := bx.facts
        go_wp2_with fail
        refine (CA.out _ E0.out).mono ?_
        rintro e w1 ⟨rfl, hb1⟩
        clear b0 b1 b2 b3
        replace bx := bx.kept hb1
        replace by' := by'.kept hb1
        replace E0 := Lib.hid (below_on E0.out hb1)
        clear hb1
        obtain ⟨b0, b1, b2, b3⟩ := bx.facts
        obtain ⟨d0, d1, d2, d3⟩ := by'.facts
        go_wp2_with fail
        refine (CB.out _ E0.out).mono ?_
        rintro e w2 ⟨rfl, hb2⟩
        clear b0 b1 b2 b3 d0 d1 d2 d3
        replace bx := bx.kept hb2
        replace by' := by'.kept hb2
        replace E0 := Lib.hid (below_on E0.out hb2)
        clear hb2
        obtain ⟨b0, b1, b2, b3⟩ := bx.facts
        obtain ⟨d0, d1, d2, d3⟩ := by'.facts
        go_wp2_with fail
        try (go_quiet (fail); go_wp2_with fail)
        go_ret
        exact ⟨ret_bool HE.out.symm, by first | exact E0.out | exact below_drewN E0.out _⟩
      · have HE := Lib.hid (show tb = false by rw [HT.out]; simp [c3])
        have B1 : (e1 == 0) = true := by simpa using c1
        have B2 : (e2 == 0) = true := by simpa using c2
        have B3 : (N == M) = false := by simpa using c3
        clear c1 c2 c3 HT
        go_enter Try.func93, Try.ntmps93
        go_wp2_with fail
        rw [← HW0.out]
        obtain ⟨b0, b1, b2, b3⟩ := bx.facts
        go_wp2_with fail
        refine (CA.out _ E0.out).mono ?_
        rintro e w1 ⟨rfl, hb1⟩
        clear b0 b1 b2 b3
        replace bx := bx.kept hb1
        replace by' := by'.kept hb1
        replace E0 := Lib.hid (below_on E0.out hb1)
        clear hb1
        obtain ⟨b0, b1, b2, b3⟩ := bx.facts
        obtain ⟨d0, d1, d2, d3⟩ := by'.facts
        go_wp2_with fail
        refine (CB.out _ E0.out).mono ?_
        rintro e w2 ⟨rfl, hb2⟩
        clear b0 b1 b2 b3 d0 d1 d2 d3
        replace bx := bx.kept hb2
        replace by' := by'.kept hb2
        replace E0 := Lib.hid (below_on E0.out hb2)
        clear hb2
        obtain ⟨b0, b1, b2, b3⟩ := bx.facts
        obtain ⟨d0, d1, d2, d3⟩ := by'.facts
        go_wp2_with fail
        try (go_quiet (fail); go_wp2_with fail)
        go_ret
        exact ⟨ret_bool HE.out.symm, by first | exact E0.out | exact below_drewN E0.out _⟩
    · have HE := Lib.hid (show tb = false by rw [HT.out]; simp [c2])
      have B1 : (e1 == 0) = true := by simpa using c1
      have B2 : (e2 == 0) = false := by simpa using c2
      clear c1 c2 HT
      go_enter Try.func93, Try.ntmps93
      go_wp2_with fail
      rw [← HW0.out]
      obtain ⟨b0, b1, b2, b3⟩ := bx.facts
      go_wp2_with fail
      refine (CA.out _ E0.out).mono ?_
      rintro e w1 ⟨rfl, hb1⟩
      clear b0 b1 b2 b3
      replace bx := bx.kept hb1
      replace by' := by'.kept hb1
      replace E0 := Lib.hid (below_on E0.out hb1)
      clear hb1
      obtain ⟨b0, b1, b2, b3⟩ := bx.facts
      obtain ⟨d0, d1, d2, d3⟩ := by'.facts
      go_wp2_with fail
      refine (CB.out _ E0.out).mono ?_
      rintro e w2 ⟨rfl, hb2⟩
      clear b0 b1 b2 b3 d0 d1 d2 d3
      replace bx := bx.kept hb2
      replace by' := by'.kept hb2
      replace E0 := Lib.hid (below_on E0.out hb2)
      clear hb2
      obtain ⟨b0, b1, b2, b3⟩ := bx.facts
      obtain ⟨d0, d1, d2, d3⟩ := by'.facts
      go_wp2_with fail
      try (go_quiet (fail); go_wp2_with fail)
      go_ret
      exact ⟨ret_bool HE.out.symm, by first | exact E0.out | exact below_drewN E0.out _⟩
  · have HE := Lib.hid (show tb = false by rw [HT.out]; simp [c1])
    have B1 : (e1 == 0) = false := by simpa using c1
    clear c1 HT
    go_enter Try.func93, Try.ntmps93
    go_wp2_with fail
    rw [← HW0.out]
    obtain ⟨b0, b1, b2, b3⟩ := bx.facts
    go_wp2_with fail
    refine (CA.out _ E0.out).mono ?_
    rintro e w1 ⟨rfl, hb1⟩
    clear b0 b1 b2 b3
    replace bx := bx.kept hb1
    replace by' := by'.kept hb1
    replace E0 := Lib.hid (below_on E0.out hb1)
    clear hb1
    obtain ⟨b0, b1, b2, b3⟩ := bx.facts
    obtain ⟨d0, d1, d2, d3⟩ := by'.facts
    go_wp2_with fail
    try (go_quiet (fail); go_wp2_with fail)
    go_ret
    exact ⟨ret_bool HE.out.symm, by first | exact E0.out | exact below_drewN E0.out _⟩

theorem tw_no {N M : Int} {l m : List Int} (h : twB N M l m = false) : ¬ (chkE N l = 0 ∧ chkE M m = 0 ∧ N = M) := by
  rintro ⟨a, b, c⟩
  subst c
  simp [twB, a, b] at h

theorem tw_yes {N M : Int} {l m : List Int} (h : twB N M l m = true) : chkE N l = 0 ∧ chkE M m = 0 ∧ N = M := by
  unfold twB at h; simp at h; exact ⟨h.1.1, h.1.2, h.2⟩

def inB (l m : List Int) : Bool := (List.range l.length).all fun k => decide (Zo.gt m k ≤ Zo.gt l k)

def inR (N M : Int) (l m : List Int) : Bool := twB N M l m && inB l m

def inE (N M : Int) (l m : List Int) : Int := if twB N M l m then 0 else 2

set_option maxHeartbeats 400000 in
theorem includes_bad (N M : Int) (l m : List Int) (ao bo : Option Addr) (ca cb : Nat) (w : World) (hA : Arg w ao l) (hB : Arg w bo m) (ht : twB N M l m = false) :
    Calls Try.prog 39 #[.agg #[.int .i64 N, .slice ao l.length ca], .agg #[.int .i64 M, .slice bo m.length cb]] w (Made (.tuple #[.bool (inR N M l m), .int .i64 (inE N M l m)]) w) := by
  have H := Lib.hid (show inR N M l m = false ∧ inE N M l m = 2 by simp [inR, inE, ht])
  have TW := Lib.hid fun W (h : Below w.heap.size w W) => by have := two_any N M l m ao bo ca cb W (hA.on h) (hB.on h); rw [ht] at this; exact this
  generalize l.length = len at *
  generalize m.length = mlen at *
  obtain ⟨w0, hw0⟩ : ∃ w0, w0 = (w.alloc (.cells #[.int .i64 N, .slice ao len ca] 25)).alloc (.cells #[.int .i64 M, .slice bo mlen cb] 25) := ⟨_, rfl⟩
  obtain ⟨bx, by'⟩ := two_boxes w (.int .i64 N) (.slice ao len ca) (.int .i64 M) (.slice bo mlen cb) 25
  rw [← hw0] at bx by'
  have E0 := Lib.hid (show Below w.heap.size w w0 by rw [hw0]; exact past_two (Below.refl _ _))
  have HW0 := Lib.hid hw0
  clear hw0
  clear hA hB ht
  go_enter Try.func39, Try.ntmps39
  go_wp2_with fail
  rw [← HW0.out]
  obtain ⟨b0, b1, b2, b3⟩ := bx.facts
  obtain ⟨d0, d1, d2, d3⟩ := by'.facts
  go_wp2_with fail
  refine (TW.out _ E0.out).mono ?_
  rintro e w1 ⟨rfl, hb1⟩
  go_wp2_with fail
  go_ret2
  exact ⟨by rw [H.out.1, H.out.2]; rfl, below_on E0.out hb1⟩

set_option maxHeartbeats 1600000 in
theorem includes_any (n : Nat) (l m : List Int) (a b : Addr) (ca cb : Nat) (w : World) (hn : n ≤ 10) (hl : l.length = (n + 1) * (n + 1)) (hm : m.length = (n + 1) * (n + 1)) (hR : Rd w a l) (hQ : Rd w b m) (ht : twB n n l m = true) :
    Calls Try.prog 39 #[.agg #[.int .i64 n, .slice (some a) l.length ca], .agg #[.int .i64 n, .slice (some b) m.length cb]] w (Made (.tuple #[.bool (inR n n l m), .int .i64 (inE n n l m)]) w) := by
  obtain ⟨len, hlen⟩ : ∃ len, len = l.length := ⟨_, rfl⟩
  have lb : len ≤ 121 := by rw [hlen, hl]; exact dsq_le hn
  have hml : m.length = len := by rw [hm, hlen, hl]
  have TW : Hid (∀ W, Below w.heap.size w W → Calls Try.prog 93 #[.agg #[.int .i64 n, .slice (some a) len ca], .agg #[.int .i64 n, .slice (some b) len cb]] W (Made (.bool true) W)) := Lib.hid fun W h => by have := two_any n n l m (some a) (some b) ca cb W (fun _ => ⟨_, rfl, hR.on h⟩) (fun _ => ⟨_, rfl, hQ.on h⟩); rw [ht, hml, ← hlen] at this; exact this
  have H0 := Lib.hid (show inR n n l m = inB l m ∧ inE n n l m = 0 by simp [inR, inE, ht])
  obtain ⟨w0, hw0⟩ : ∃ w0, w0 = (w.alloc (.cells #[.int .i64 n, .slice (some a) len ca] 25)).alloc (.cells #[.int .i64 n, .slice (some b) len cb] 25) := ⟨_, rfl⟩
  obtain ⟨bx, by'⟩ := two_boxes w (.int .i64 n) (.slice (some a) len ca) (.int .i64 n) (.slice (some b) len cb) 25
  rw [← hw0] at bx by'
  have E0 := Lib.hid (show Below w.heap.size w w0 by rw [hw0]; exact past_two (Below.refl _ _))
  have HW0 := Lib.hid hw0
  have HR := Lib.hid hR
  have HQ := Lib.hid hQ
  have HL := Lib.hid hlen
  have HM := Lib.hid hml
  rw [hml, ← hlen]
  clear hR hQ ht hl hm hlen hml hw0
  go_enter Try.func39, Try.ntmps39
  go_wp2_with fail
  rw [← HW0.out]
  obtain ⟨b0, b1, b2, b3⟩ := bx.facts
  obtain ⟨d0, d1, d2, d3⟩ := by'.facts
  go_wp2_with fail
  refine (TW.out _ E0.out).mono ?_
  rintro e w1 ⟨rfl, hb1⟩
  clear b0 b1 b2 b3 d0 d1 d2 d3
  replace bx := bx.kept hb1
  replace by' := by'.kept hb1
  replace E0 := Lib.hid (below_on E0.out hb1)
  clear hb1
  go_wp2_with fail
  go_loopw [6] (fun s wr => ∃ t : Nat, t ≤ len ∧ s = .int .i64 t ∧ Hid (∀ k, k < t → Zo.gt m k ≤ Zo.gt l k) ∧ Hid (Below w1.heap.size w1 wr)) (fun s _ => len - (intOf s).toNat)
  case atStart => exact ⟨0, by omega, rfl, Lib.hid (fun k hk => by omega), Lib.hid (Below.refl _ _)⟩
  case round =>
    obtain ⟨t, ht, rfl, HK, HBw⟩ := hrel
    obtain ⟨b0, b1, b2, b3⟩ := (bx.kept HBw.out).facts
    obtain ⟨d0, d1, d2, d3⟩ := (by'.kept HBw.out).facts
    by_cases htn : t < len
    · have x1 := (HR.out.on (below_on E0.out HBw.out)) t (by rw [← HL.out]; exact htn)
      have y1 := (HQ.out.on (below_on E0.out HBw.out)) t (by rw [HM.out]; exact htn)
      obtain ⟨x, hx⟩ : ∃ x, x = Zo.gt l t := ⟨_, rfl⟩
      obtain ⟨y, hy⟩ : ∃ y, y = Zo.gt m t := ⟨_, rfl⟩
      rw [← hx] at x1
      rw [← hy] at y1
      have HXE := Lib.hid hx
      have HYE := Lib.hid hy
      clear hx hy
      by_cases hxy : y ≤ x
      · have D : decide (x < y) = false := by simp; omega
        have HXY := Lib.hid hxy
        clear hxy
        go_wp2_with fail
        go_quiet (fail)
        clear b0 b1 b2 b3 d0 d1 d2 d3 x1 y1
        go_wp2_with fail
        go_roundw
        case rel =>
          refine ⟨t + 1, by omega, by go_num, Lib.hid (fun k hk => ?_), Lib.hid (below_drewN HBw.out _)⟩
          by_cases e : k = t
          · rw [e, ← HXE.out, ← HYE.out]; exact HXY.out
          · exact HK.out k (by omega)
        case measure => simp [intOf]; omega
      · have D : decide (x < y) = true := by simp; omega
        have HE := Lib.hid (show inB l m = false by
          unfold inB; rw [List.all_eq_false]
          exact ⟨t, by simp; rw [← HL.out]; exact htn, by rw [← HXE.out, ← HYE.out]; simpa using hxy⟩)
        clear hxy
        go_wp2_with fail
        go_quiet (fail)
        clear b0 b1 b2 b3 d0 d1 d2 d3 x1 y1
        go_wp2_with fail
        go_ret2
        exact ⟨by rw [H0.out.1, H0.out.2, HE.out]; rfl, below_drewN (below_on E0.out HBw.out) _⟩
    · have HE := Lib.hid (show inB l m = true by
        unfold inB; rw [List.all_eq_true]
        intro k hk
        simp at hk
        simpa using HK.out k (by rw [← HL.out] at hk; omega))
      go_wp2_with fail
      go_ret2
      exact ⟨by rw [H0.out.1, H0.out.2, HE.out]; rfl, below_on E0.out HBw.out⟩

theorem includes_gen (N M : Int) (l m : List Int) (ao bo : Option Addr) (ca cb : Nat) (w : World) (hA : Arg w ao l) (hB : Arg w bo m) :
    Calls Try.prog 39 #[.agg #[.int .i64 N, .slice ao l.length ca], .agg #[.int .i64 M, .slice bo m.length cb]] w (Made (.tuple #[.bool (inR N M l m), .int .i64 (inE N M l m)]) w) := by
  cases ht : twB N M l m
  · exact includes_bad N M l m ao bo ca cb w hA hB ht
  · obtain ⟨c1, c2, rfl⟩ := tw_yes ht
    obtain ⟨n, rfl, hn, hl, hne⟩ := chk_ok c1
    obtain ⟨n', e, hn', hm, hne'⟩ := chk_ok c2
    have : n = n' := by omega
    subst this
    obtain ⟨a, rfl, hR⟩ := hA hne
    obtain ⟨b, rfl, hQ⟩ := hB hne'
    exact includes_any n l m a b ca cb w hn hl hm hR hQ ht
end Go.Proofs.Ytbnebinpemejlaa

namespace Go.Proofs.Ytbnebinpemejlaa
open Go.RowKit

set_option maxRecDepth 100000 in
set_option maxHeartbeats 4000000 in
theorem zcy_gen (N : Int) (l : List Int) (ao : Option Addr) (cap : Nat) (i j : Int) (w : World) (hA : Arg w ao l) :
    Calls Try.prog 36 #[.agg #[.int .i64 N, .slice ao l.length cap], .int .i64 i, .int .i64 j] w (ZRes w N (cyM N.toNat i.toNat j.toNat l) (cyG N l i j)) := by
  have CH := Lib.hid (show ∀ W p q al, Below w.heap.size w W → W.cell? p = some (.int .i64 i) → W.cell? q = some (.int .i64 j) → al = (ckB N i 1 && ckB N j 0) → _ from fun W p q al h hp hq hal => ch_cy N l ao cap i j p q W (hA.on h) hp hq al hal)
  have CK := Lib.hid (fun W => isClock_any N i 1 (.slice ao l.length cap) W)
  have CKK := Lib.hid (show ∀ W (x f : Int) (b : Bool), (x = i ∧ f = 1 ∧ b = ckB N i 1) ∨ (x = j ∧ f = 0 ∧ b = ckB N j 0) → Calls Try.prog 74 #[.agg #[.int .i64 N, .slice ao l.length cap], .int .i64 x, .int .i64 f] W (Made (.bool b) W) from fun W x f b h => by
    rcases h with ⟨rfl, rfl, rfl⟩ | ⟨rfl, rfl, rfl⟩ <;> exact isClock_any N _ _ _ W)
  generalize cyM N.toNat i.toNat j.toNat l = r at *
  generalize cyG N l i j = er at *
  generalize ckB N i 1 = k1 at *
  generalize ckB N j 0 = k2 at *
  generalize l.length = len at *
  obtain ⟨w0, hw0⟩ : ∃ w0, w0 = (((w.alloc (.cells #[.int .i64 N, .slice ao len cap] 25)).alloc (.cells #[.int .i64 i] 3)).alloc (.cells #[.int .i64 j] 3)).alloc (.cells #[.int .i64 0, .slice none 0 0] 25) := ⟨_, rfl⟩
  have b0 : w0.cell? ⟨w.heap.size, 0, none⟩ = some (.int .i64 N) := by rw [hw0]; go_simp
  have b1 : w0.cell? ⟨w.heap.size, 1, none⟩ = some (.slice ao len cap) := by rw [hw0]; go_simp
  have b2 : w0.cell? ⟨w.heap.size + 1, 0, none⟩ = some (.int .i64 i) := by rw [hw0]; go_simp
  have b3 : w0.cell? ⟨w.heap.size + 1 + 1, 0, none⟩ = some (.int .i64 j) := by rw [hw0]; go_simp
  have rs : Two w0 (w.heap.size + 1 + 1 + 1) (.int .i64 0) (.slice none 0 0) := by
    rw [hw0]
    have := Two.made (((w.alloc (.cells #[.int .i64 N, .slice ao len cap] 25)).alloc (.cells #[.int .i64 i] 3)).alloc (.cells #[.int .i64 j] 3)) (.int .i64 0) (.slice none 0 0) 25
    simpa using this
  have z0 : w0.heap.size = w.heap.size + 4 := by rw [hw0]; simp
  have E0 := Lib.hid (show Below w.heap.size w w0 by rw [hw0]; exact (past_three (Below.refl _ _)).alloc (by simp; omega) _)
  have KS := Lib.hid (show ∀ w' : World, Below w0.heap.size w0 w' → w'.cell? ⟨w.heap.size, 0, none⟩ = some (.int .i64 N) ∧ w'.cell? ⟨w.heap.size, 1, none⟩ = some (.slice ao len cap) ∧ w'.cell? ⟨w.heap.size + 1, 0, none⟩ = some (.int .i64 i) ∧ w'.cell? ⟨w.heap.size + 1 + 1, 0, none⟩ = some (.int .i64 j) from fun w' h => ⟨kept h b0, kept h b1, kept h b2, kept h b3⟩)
  have KP := Lib.hid (show ∀ (w' : World) (u v : Value), Below w0.heap.size w0 w' → (((w'.setCell ⟨w.heap.size + 1 + 1 + 1, 0, none⟩ u).setCell ⟨w.heap.size + 1 + 1 + 1, 1, none⟩ v).cell? ⟨w.heap.size, 0, none⟩ = some (.int .i64 N) ∧ ((w'.setCell ⟨w.heap.size + 1 + 1 + 1, 0, none⟩ u).setCell ⟨w.heap.size + 1 + 1 + 1, 1, none⟩ v).cell? ⟨w.heap.size, 1, none⟩ = some (.slice ao len cap) ∧ ((w'.setCell ⟨w.heap.size + 1 + 1 + 1, 0, none⟩ u).setCell ⟨w.heap.size + 1 + 1 + 1, 1, none⟩ v).cell? ⟨w.heap.size + 1, 0, none⟩ = some (.int .i64 i) ∧ ((w'.setCell ⟨w.heap.size + 1 + 1 + 1, 0, none⟩ u).setCell ⟨w.heap.size + 1 + 1 + 1, 1, none⟩ v).cell? ⟨w.heap.size + 1 + 1, 0, none⟩ = some (.int .i64 j)) from
    fun w' u v h => ⟨aside_two (kept h b0) (by show w.heap.size ≠ _; omega) u v, aside_two (kept h b1) (by show w.heap.size ≠ _; omega) u v, aside_two (kept h b2) (by show w.heap.size + 1 ≠ _; omega) u v, aside_two (kept h b3) (by show w.heap.size + 1 + 1 ≠ _; omega) u v⟩)
  have HRS := Lib.hid rs
  have BD := Lib.hid (show Below w0.heap.size w0 w0.drew from (Below.refl _ _).drew)
  clear hA b0 b1 b2 b3 rs
  cases k1
  · have HAL := Lib.hid (show false = (false && k2) from rfl)
    go_enter Try.func36, Try.ntmps36
    go_wp2_with fail
    rw [← hw0]
    clear hw0
    refine wp_region_held_drew (S := (fun w' => w'.cell? ⟨w.heap.size, 0, none⟩ = some (.int .i64 N) ∧ w'.cell? ⟨w.heap.size, 1, none⟩ = some (.slice ao len cap) ∧ w'.cell? ⟨w.heap.size + 1, 0, none⟩ = some (.int .i64 i) ∧ w'.cell? ⟨w.heap.size + 1 + 1, 0, none⟩ = some (.int .i64 j))) (by kernel_rfl) (KS.out _ BD.out) (fun h0 => ?_)
    refine wpAnyH_take (i := 0) (v := .agg #[.int .i64 N, .slice ao len cap]) rfl (by kernel_rfl) (by kernel_rfl) (by kernel_rfl) (fun _ _ _ h => h) (Or.inl ⟨by rfl, fun w' hS => by (obtain ⟨c0, c1, c2, c3⟩ := hS; go_simp)⟩) h0 ?_
    simp only [Act.put, List.getElem_toArray, List.getElem_cons_zero, List.setIfInBounds_toArray, List.set_cons_zero, List.set_cons_succ]
    refine wpAnyH_take (i := 1) (v := .agg #[.int .i64 N, .slice ao len cap]) rfl (by kernel_rfl) (by kernel_rfl) (by kernel_rfl) (fun _ _ _ h => h) (Or.inl ⟨by rfl, fun w' hS => by (obtain ⟨c0, c1, c2, c3⟩ := hS; go_simp)⟩) h0 ?_
    simp only [Act.put, List.getElem_toArray, List.getElem_cons_zero, List.getElem_cons_succ, List.setIfInBounds_toArray, List.set_cons_zero, List.set_cons_succ]
    refine wpAnyH_take (i := 2) (v := .int .i64 i) rfl (by kernel_rfl) (by kernel_rfl) (by kernel_rfl) (fun _ _ _ h => h) (Or.inl ⟨by rfl, fun w' hS => by (obtain ⟨c0, c1, c2, c3⟩ := hS; go_simp)⟩) h0 ?_
    simp only [Act.put, List.getElem_toArray, List.getElem_cons_zero, List.getElem_cons_succ, List.setIfInBounds_toArray, List.set_cons_zero, List.set_cons_succ]
    refine wpAnyH_take (i := 9) (v := .func (.func 92) #[] #[.pointer (some ⟨w.heap.size + 1, 0, none⟩), .pointer (some ⟨w.heap.size + 1 + 1, 0, none⟩)]) rfl (by kernel_rfl) (by kernel_rfl) (by kernel_rfl) (fun _ _ _ h => h) (Or.inl ⟨by rfl, fun w' hS => by go_simp⟩) h0 ?_
    simp only [Act.put, List.getElem_toArray, List.getElem_cons_zero, List.getElem_cons_succ, List.setIfInBounds_toArray, List.set_cons_zero, List.set_cons_succ]
    refine wpAnyH_ready (rs := [3]) (by kernel_rfl) (by simp) (AllReadyH.cons rfl (fun K hK => ?_) AllReadyH.nil)
    rw [if_pos (by rfl)]
    go_simp
    refine (CK.out _).mono ?_
    rintro e wa ⟨rfl, hba⟩
    have hb1 := below_on BD.out hba
    go_simp
    refine hK.out _ _ (KS.out _ hb1) (fun h1 => ?_)
    clear hK K h0
    refine wpAnyH_take (i := 4) (v := .bool false) rfl (by kernel_rfl) (by kernel_rfl) (by kernel_rfl) (fun _ _ _ h => h) (Or.inl ⟨by rfl, fun w' hS => by go_simp⟩) h1 ?_
    simp only [Act.put, List.getElem_toArray, List.getElem_cons_zero, List.getElem_cons_succ, List.setIfInBounds_toArray, List.set_cons_zero, List.set_cons_succ]
    refine wpAnyH_take (i := 5) (v := undef) rfl (by kernel_rfl) (by kernel_rfl) (by kernel_rfl) (fun _ _ _ h => h) (Or.inr ⟨by rfl, rfl⟩) h1 ?_
    simp only [Act.put, List.getElem_toArray, List.getElem_cons_zero, List.getElem_cons_succ, List.setIfInBounds_toArray, List.set_cons_zero, List.set_cons_succ]
    refine wpAnyH_take (i := 6) (v := undef) rfl (by kernel_rfl) (by kernel_rfl) (by kernel_rfl) (fun _ _ _ h => h) (Or.inr ⟨by rfl, rfl⟩) h1 ?_
    simp only [Act.put, List.getElem_toArray, List.getElem_cons_zero, List.getElem_cons_succ, List.setIfInBounds_toArray, List.set_cons_zero, List.set_cons_succ]
    refine wpAnyH_take (i := 7) (v := undef) rfl (by kernel_rfl) (by kernel_rfl) (by kernel_rfl) (fun _ _ _ h => h) (Or.inr ⟨by rfl, rfl⟩) h1 ?_
    simp only [Act.put, List.getElem_toArray, List.getElem_cons_zero, List.getElem_cons_succ, List.setIfInBounds_toArray, List.set_cons_zero, List.set_cons_succ]
    refine wpAnyH_take (i := 8) (v := .bool false) rfl (by kernel_rfl) (by kernel_rfl) (by kernel_rfl) (fun _ _ _ h => h) (Or.inl ⟨by rfl, fun w' hS => by go_simp⟩) h1 ?_
    simp only [Act.put, List.getElem_toArray, List.getElem_cons_zero, List.getElem_cons_succ, List.setIfInBounds_toArray, List.set_cons_zero, List.set_cons_succ]
    refine wpAnyH_ready (rs := [10]) (by kernel_rfl) (by simp) (AllReadyH.cons rfl (fun K hK => ?_) AllReadyH.nil)
    rw [if_pos (by rfl)]
    go_simp
    refine (CH.out _ _ _ _ (below_on E0.out hb1) (KS.out _ hb1).2.2.1 (KS.out _ hb1).2.2.2 HAL.out).mono ?_
    intro e wb hz
    obtain ⟨hb4, hres⟩ := hz
    have hb2 := below_on hb1 hb4
    obtain ⟨q0, q1, q2, q3⟩ := (HRS.out.kept hb2).facts
    rcases hres with ⟨he, g, cc, rfl, hg, hO⟩ | ⟨he, rfl⟩
    · subst he
      go_simp
      refine hK.out _ _ (KS.out _ hb2) (fun h2 => ?_)
      clear hK K
      refine wpAnyH_take (i := 11) (v := .agg #[.int .i64 N, .slice (some ⟨g, 0, none⟩) r.length cc]) rfl (by kernel_rfl) (by kernel_rfl) (by kernel_rfl) (fun _ _ _ h => h) (Or.inl ⟨by rfl, fun w' hS => by go_simp⟩) h2 ?_
      simp only [Act.put, List.getElem_toArray, List.getElem_cons_zero, List.getElem_cons_succ, List.setIfInBounds_toArray, List.set_cons_zero, List.set_cons_succ]
      refine wpAnyH_take (i := 12) (v := .int .i64 0) rfl (by kernel_rfl) (by kernel_rfl) (by kernel_rfl) (fun _ _ _ h => h) (Or.inl ⟨by rfl, fun w' hS => by go_simp⟩) h2 ?_
      simp only [Act.put, List.getElem_toArray, List.getElem_cons_zero, List.getElem_cons_succ, List.setIfInBounds_toArray, List.set_cons_zero, List.set_cons_succ]
      refine wpAnyH_ready (rs := [13]) (by kernel_rfl) (by simp) (AllReadyH.cons rfl (fun K hK => ?_) AllReadyH.nil)
      rw [if_pos (by rfl)]
      go_simp
      refine hK.out _ _ (KP.out _ _ _ hb2) (fun h3 => ?_)
      clear hK K
      refine wpAnyH_take (i := 14) (v := .int .i64 0) rfl (by kernel_rfl) (by kernel_rfl) (by kernel_rfl) (fun _ _ _ h => h) (Or.inl ⟨by rfl, fun w' hS => by go_simp⟩) h3 ?_
      simp only [Act.put, List.getElem_toArray, List.getElem_cons_zero, List.getElem_cons_succ, List.setIfInBounds_toArray, List.set_cons_zero, List.set_cons_succ]
      refine wpAnyH_done (by kernel_rfl) ?_ _
      go_wp2_with fail
      refine bodyPost_ret (v := .tuple #[.agg #[.int .i64 N, .slice (some ⟨g, 0, none⟩) r.length cc], .int .i64 0]) (by simp [results, Try.results36, go_sem, q0, q1]) rfl (zres_over E0.out hb2 hO (Nat.le_trans hb1.size hg) (by omega) (by omega) _ _)
    · go_simp
      refine hK.out _ _ (KS.out _ hb2) (fun h2 => ?_)
      clear hK K
      refine wpAnyH_take (i := 11) (v := .agg #[.int .i64 0, .slice none 0 0]) rfl (by kernel_rfl) (by kernel_rfl) (by kernel_rfl) (fun _ _ _ h => h) (Or.inl ⟨by rfl, fun w' hS => by go_simp⟩) h2 ?_
      simp only [Act.put, List.getElem_toArray, List.getElem_cons_zero, List.getElem_cons_succ, List.setIfInBounds_toArray, List.set_cons_zero, List.set_cons_succ]
      refine wpAnyH_take (i := 12) (v := .int .i64 er) rfl (by kernel_rfl) (by kernel_rfl) (by kernel_rfl) (fun _ _ _ h => h) (Or.inl ⟨by rfl, fun w' hS => by go_simp⟩) h2 ?_
      simp only [Act.put, List.getElem_toArray, List.getElem_cons_zero, List.getElem_cons_succ, List.setIfInBounds_toArray, List.set_cons_zero, List.set_cons_succ]
      refine wpAnyH_ready (rs := [13]) (by kernel_rfl) (by simp) (AllReadyH.cons rfl (fun K hK => ?_) AllReadyH.nil)
      rw [if_pos (by rfl)]
      go_simp
      refine hK.out _ _ (KP.out _ _ _ hb2) (fun h3 => ?_)
      clear hK K
      refine wpAnyH_take (i := 14) (v := .int .i64 er) rfl (by kernel_rfl) (by kernel_rfl) (by kernel_rfl) (fun _ _ _ h => h) (Or.inl ⟨by rfl, fun w' hS => by go_simp⟩) h3 ?_
      simp only [Act.put, List.getElem_toArray, List.getElem_cons_zero, List.getElem_cons_succ, List.setIfInBounds_toArray, List.set_cons_zero, List.set_cons_succ]
      refine wpAnyH_done (by kernel_rfl) ?_ _
      go_wp2_with fail
      refine bodyPost_ret (v := .tuple #[.agg #[.int .i64 0, .slice none 0 0], .int .i64 er]) (by simp [results, Try.results36, go_sem, q0, q1]) rfl (zres_over0 E0.out hb2 he (by omega) _ _)
  · have HAL := Lib.hid (show k2 = (true && k2) from rfl)
    go_enter Try.func36, Try.ntmps36
    go_wp2_with fail
    rw [← hw0]
    clear hw0
    by_cases he : er = 0
    · subst he
      go_region_held3 (fun w' => w'.cell? ⟨w.heap.size, 0, none⟩ = some (.int .i64 N) ∧ w'.cell? ⟨w.heap.size, 1, none⟩ = some (.slice ao len cap) ∧ w'.cell? ⟨w.heap.size + 1, 0, none⟩ = some (.int .i64 i) ∧ w'.cell? ⟨w.heap.size + 1 + 1, 0, none⟩ = some (.int .i64 j)) (first | exact KS.out _ BD.out | exact KS.out _ (by assumption) | exact KP.out _ _ _ (by assumption))
        (first | (go_at_call 74; refine (CKK.out _ _ _ _ (by first | exact Or.inl ⟨rfl, rfl, rfl⟩ | exact Or.inr ⟨rfl, rfl, rfl⟩)).mono ?_; rintro e wa ⟨rfl, hba⟩; have hb1 := below_on (by first | exact hb1 | exact BD.out) hba) | (go_at_call 76; refine (CH.out _ _ _ _ (below_on E0.out hb1) (KS.out _ hb1).2.2.1 (KS.out _ hb1).2.2.2 HAL.out).mono ?_; intro e wb hz; obtain ⟨g, cc, rfl, hg, hO⟩ := hz.ok rfl; have hb2 := below_on hb1 hz.1; obtain ⟨q0, q1, q2, q3⟩ := (HRS.out.kept hb2).facts))
      all_goals
        go_wp2_with fail
        refine bodyPost_ret (v := .tuple #[.agg #[.int .i64 N, .slice (some ⟨g, 0, none⟩) r.length cc], .int .i64 0]) (by simp [results, Try.results36, go_sem, q0, q1]) rfl (zres_over E0.out hb2 hO.1 (Nat.le_trans hb1.size hg) (by omega) (by omega) _ _)
    · go_region_held3 (fun w' => w'.cell? ⟨w.heap.size, 0, none⟩ = some (.int .i64 N) ∧ w'.cell? ⟨w.heap.size, 1, none⟩ = some (.slice ao len cap) ∧ w'.cell? ⟨w.heap.size + 1, 0, none⟩ = some (.int .i64 i) ∧ w'.cell? ⟨w.heap.size + 1 + 1, 0, none⟩ = some (.int .i64 j)) (first | exact KS.out _ BD.out | exact KS.out _ (by assumption) | exact KP.out _ _ _ (by assumption))
        (first | (go_at_call 74; refine (CKK.out _ _ _ _ (by first | exact Or.inl ⟨rfl, rfl, rfl⟩ | exact Or.inr ⟨rfl, rfl, rfl⟩)).mono ?_; rintro e wa ⟨rfl, hba⟩; have hb1 := below_on (by first | exact hb1 | exact BD.out) hba) | (go_at_call 76; refine (CH.out _ _ _ _ (below_on E0.out hb1) (KS.out _ hb1).2.2.1 (KS.out _ hb1).2.2.2 HAL.out).mono ?_; intro e wb hz; obtain ⟨rfl, hzb⟩ := hz.no he; have hb2 := below_on hb1 hzb; obtain ⟨q0, q1, q2, q3⟩ := (HRS.out.kept hb2).facts))
      all_goals
        go_wp2_with fail
        refine bodyPost_ret (v := .tuple #[.agg #[.int .i64 0, .slice none 0 0], .int .i64 er]) (by simp [results, Try.results36, go_sem, q0, q1]) rfl (zres_over0 E0.out hb2 he (by omega) _ _)
end Go.Proofs.Ytbnebinpemejlaa

namespace Go.Proofs.Ytbnebinpemejlaa
open Go.RowKit

/-- Before: what the round j does. u, d: the limits of the constant. -/
def bfS (n i : Nat) (u d : Int) (x : List Int) (j : Nat) : List Int :=
  let y := x.set (Zo.ix n j 0) (imin (Zo.At n x j 0) (Zo.smW (Zo.At n x j i) u))
  y.set (Zo.ix n 0 j) (imin (Zo.At n y 0 j) (Zo.smW (Zo.At n y i j) d))

def bfL (n i : Nat) (c : Int) (l : List Int) : List Int := (List.range (n + 1)).foldl (bfS n i (2 * c + 1) (-2 * c + 1)) l

theorem bfS_len (n i : Nat) (u d : Int) (x : List Int) (t : Nat) : (bfS n i u d x t).length = x.length := by simp [bfS]

theorem bfL_len (n i : Nat) (c : Int) (l : List Int) : (bfL n i c l).length = l.length := fold_len (bfS_len n i _ _) l _

set_option maxRecDepth 100000 in
set_option maxHeartbeats 4000000 in
theorem be1_any (b n i : Nat) (c : Int) (p q : Addr) (l : List Int) (w0 w : World) (hn : n ≤ 10) (hi : i ≤ n) (h0 : 0 ≤ c) (h1 : c ≤ 1048576) (h : Mx w b n l) (hp : w0.cell? p = some (.int .i64 c)) (hq : w0.cell? q = some (.int .i64 i)) (hb : Below w0.heap.size w0 w) (hle : w0.heap.size ≤ b) :
    Calls Try.prog 90 #[.pointer (some ⟨b, 0, none⟩), .pointer (some p), .pointer (some q)] w (Chg w b n (rlL n i (bfL n i c l))) := by
  have KQ := Lib.hid (show ∀ x w', MSt w b n x w' → w'.cell? q = some (.int .i64 i) from fun x w' hx => hx.old hb hle hq)
  have RE := Lib.hid (fun (x : List Int) (w' : World) (h : Mx w' b n x) => release_any b n i x w' hn hi h)
  have EQ := Lib.hid (fun W => equals_any h0 h1 W)
  have TT := Lib.hid (fun (x : List Int) (i j : Nat) (v : Int) (hi : i ≤ n) (hj : j ≤ n) (w' : World) (h : MSt w b n x w') => tighten_st (i := i) (j := j) v hn hi hj h)
  have c1 : w.cell? p = some (.int .i64 c) := kept hb hp
  have c2 : w.cell? q = some (.int .i64 i) := kept hb hq
  have HM := Lib.hid (show MSt w b n l w from ⟨h, World.grownBy.refl _ _⟩)
  have TR := Lib.hid (fun (x : List Int) (i : Nat) (hi : i ≤ n) (w' : World) (h : MSt w b n x w') => row_any b n i w' hn hi h.1.dim)
  have HL := Lib.hid h.2
  have c0 := h.dim
  clear h hp hq hb hle
  go_enter Try.func90, Try.ntmps90
  go_wp2_with fail
  refine (EQ.out _).mono ?_
  rintro e w1 ⟨rfl, hw⟩
  rw [hw]; clear hw w1
  go_wp2_with fail
  clear c0 c1 c2
  go_loopw [17] (fun s wr => ∃ (t : Nat) (x : List Int), t ≤ n + 1 ∧ s = .int .i64 t ∧ Hid (x.length = (n + 1) * (n + 1) ∧ x = (List.range t).foldl (bfS n i (2 * c + 1) (-2 * c + 1)) l ∧ MSt w b n x wr)) (fun s _ => n + 1 - (intOf s).toNat)
  case atStart => exact ⟨0, l, by omega, rfl, Lib.hid ⟨HL.out, rfl, HM.out⟩⟩
  case round =>
    obtain ⟨t, x, ht, rfl, HX⟩ := hrel
    by_cases htn : t ≤ n
    · have tti := Zo.ix_lt htn hi
      have tit := Zo.ix_lt hi htn
      have HXL := Lib.hid HX.out.1
      have d0 := KQ.out _ _ HX.out.2.2
      have d1 : wr.cell? ⟨b, 1 + t * (n + 1) + i, none⟩ = some (.int .i64 (Zo.At n x t i)) := by
        rw [Nat.add_assoc]; exact HX.out.2.2.1.at (by rw [HX.out.1]; exact tti)
      have HD := Lib.hid HX.out.2.2.drew
      have PR := TR.out _ t htn _ HD.out
      have PS := zsum_any (Zo.At n x t i) (2 * c + 1) wr.drew
      go_wp2_with fail
      go_still_tail 10, (by kernel_rfl)
      still_call PR
      repeat still_step
      refine wpStill_step (fun K hK => ?_)
      go_simp
      rw [if_pos (show (i : Int) < (n : Int) + 1 by omega)]
      refine ⟨rfl, hK _ ?_⟩
      clear hK K
      repeat still_step
      still_call PS
      repeat still_step
      refine wpStill_nil ?_
      clear d0 d1 PR PS
      change wpList _ _ _ _ _ (World.drew _)
      go_wp2_with fail
      refine (TT.out _ t 0 _ htn (by omega) _ HD.out).mono ?_
      rintro e w1 ⟨rfl, hm⟩
      obtain ⟨y, hy⟩ : ∃ y, y = x.set (Zo.ix n t 0) (imin (Zo.At n x t 0) (Zo.smW (Zo.At n x t i) (2 * c + 1))) := ⟨_, rfl⟩
      rw [← hy] at hm
      have HY := Lib.hid hy
      have HYL := Lib.hid (show y.length = (n + 1) * (n + 1) by rw [hy, List.length_set]; exact HXL.out)
      have HM1 := Lib.hid hm
      have d0 := KQ.out _ _ hm
      have d1 : w1.cell? ⟨b, 1 + i * (n + 1) + t, none⟩ = some (.int .i64 (Zo.At n y i t)) := by
        rw [Nat.add_assoc]; exact hm.1.at (by rw [HYL.out]; exact tit)
      clear hm hy HD tit tti
      go_wp2_with fail
      refine (TR.out _ i hi _ HM1.out).mono ?_
      rintro e w2 ⟨rfl, hw⟩
      rw [hw]; clear hw w2
      go_wp2_with fail
      refine (zsum_any _ _ _).mono ?_
      rintro e w2 ⟨rfl, hw⟩
      rw [hw]; clear hw w2
      go_wp2_with fail
      refine (TT.out _ 0 t _ (by omega) htn _ HM1.out).mono ?_
      rintro e w2 ⟨rfl, hm⟩
      have HM2 := Lib.hid (show MSt w b n (bfS n i (2 * c + 1) (-2 * c + 1) x t) w2 by
        unfold bfS; rw [← HY.out]; exact hm)
      clear hm d0 d1
      go_wp2_with fail
      go_roundw
      case rel => exact ⟨t + 1, _, by omega, by go_num, Lib.hid ⟨by rw [bfS_len]; exact HX.out.1, by rw [Zo.fold_succ, ← HX.out.2.1], HM2.out⟩⟩
      case measure => simp [intOf]; omega
    · have HE := Lib.hid (show x = bfL n i c l by rw [HX.out.2.1, show t = n + 1 by omega]; rfl)
      have d0 := KQ.out _ _ HX.out.2.2
      go_wp2_with fail
      refine (RE.out x _ HX.out.2.2.1).mono ?_
      rintro e w1 ⟨rfl, hm⟩
      have HM3 := Lib.hid (show MSt w b n (rlL n i (bfL n i c l)) w1 from ⟨by rw [← HE.out]; exact hm.1, grown_trans HX.out.2.2.2 hm.2⟩)
      clear hm d0
      go_wp2_with fail
      go_end0
      exact ⟨rfl, HM3.out⟩
end Go.Proofs.Ytbnebinpemejlaa

namespace Go.Proofs.Ytbnebinpemejlaa.Zo

theorem smW_big {a b : Int} (ha : a = 1099511627776 ∨ (-1125899906842624 ≤ a ∧ a ≤ 274877906944)) (hb : b = 1099511627776 ∨ (-1125899906842624 ≤ b ∧ b ≤ 274877906944)) :
    smW a b = if a = 1099511627776 ∨ b = 1099511627776 then 1099511627776 else ps a b := by
  unfold smW
  by_cases c : a = 1099511627776 ∨ b = 1099511627776
  · rw [if_pos c, if_pos c]
  · rw [if_neg c, if_neg c]
    unfold ps w64
    split <;> omega

/-- Closed, from the elements. -/
theorem Cl.at {n : Nat} {c : List Int} (hl : c.length = (n + 1) * (n + 1)) (hb : ∀ a b, a ≤ n → b ≤ n → At n c a b = 1099511627776 ∨ (-1125899906842624 ≤ At n c a b ∧ At n c a b ≤ 274877906944))
    (hd : ∀ a, a ≤ n → At n c a a = 1) (hr : ∀ a, a ≤ n → At n c 0 a ≤ 1) (ht : ∀ i j k, i ≤ n → j ≤ n → k ≤ n → At n c i j ≤ smW (At n c i k) (At n c k j)) :
    Cl n c (fun a b => if a ≤ n ∧ b ≤ n then Zo.dec (At n c a b) else none) := by
  refine ⟨⟨hl, fun a b ha hb => ?_⟩, ?_, ?_, ?_, hr⟩
  · show _ = enc (if _ then _ else _)
    rw [if_pos ⟨ha, hb⟩, enc_dec]
  · intro v hv i j
    by_cases h : i ≤ n ∧ j ≤ n
    · have t := ht i j v h.1 h.2 (by omega)
      have b1 := hb i v h.1 (by omega)
      have b2 := hb v j (by omega) h.2
      rw [smW_big b1 b2] at t
      simp only [if_pos h, if_pos (show i ≤ n ∧ v ≤ n by omega), if_pos (show v ≤ n ∧ j ≤ n by omega)]
      unfold Zo.dec
      by_cases c1 : At n c i v = 1099511627776
      · rw [if_pos c1]; exact le_none _
      by_cases c2 : At n c v j = 1099511627776
      · rw [if_pos c2]
        rw [show add (if At n c i v = 1099511627776 then none else some (At n c i v)) none = none by split <;> rfl]
        exact le_none _
      rw [if_neg c1, if_neg c2]
      rw [if_neg (by omega)] at t
      have : ps (At n c i v) (At n c v j) < 1099511627776 := by unfold ps; split <;> omega
      rw [if_neg (by omega)]
      exact t
    · have : add (if i ≤ n ∧ v ≤ n then Zo.dec (At n c i v) else none) (if v ≤ n ∧ j ≤ n then Zo.dec (At n c v j) else none) = none := by
        by_cases hc : i ≤ n
        · rw [show (if v ≤ n ∧ j ≤ n then Zo.dec (At n c v j) else none) = none by rw [if_neg (by omega)]]
          generalize (if i ≤ n ∧ v ≤ n then Zo.dec (At n c i v) else none) = x
          cases x <;> rfl
        · rw [if_neg (by omega)]; rfl
      simp only [this]
      exact le_none _
  · intro i j x h
    simp only at h
    split at h
    · rename_i c
      have := hb i j c.1 c.2
      unfold Zo.dec at h
      split at h
      · simp at h
      · simp at h; omega
    · simp at h
  · intro k hk
    simp only [if_pos (show k ≤ n ∧ k ≤ n by omega), hd k hk]
    rfl

theorem Cl.lim {n : Nat} {c : List Int} {D : Nat → Nat → Lm} (h : Cl n c D) {a b : Nat} (ha : a ≤ n) (hb : b ≤ n) : At n c a b = 1099511627776 ∨ (-1125899906842624 ≤ At n c a b ∧ At n c a b ≤ 274877906944) := by
  rw [h.rep.2 a b ha hb]
  cases e : D a b with
  | none => exact Or.inl rfl
  | some x => exact Or.inr (h.bd a b x e)

theorem Cl.sums {n : Nat} {c : List Int} {D : Nat → Nat → Lm} (h : Cl n c D) {i j k : Nat} (hi : i ≤ n) (hj : j ≤ n) (hk : k ≤ n) : At n c i j ≤ smW (At n c i k) (At n c k j) := by
  have t := h.tri k (by omega) i j
  have b1 := h.lim hi hk
  have b2 := h.lim hk hj
  have b3 := h.lim hi hj
  rw [smW_big b1 b2]
  rw [h.dec hi hj, h.dec hi hk, h.dec hk hj] at t
  unfold Zo.dec at t
  by_cases c1 : At n c i k = 1099511627776
  · rw [if_pos (Or.inl c1)]; omega
  by_cases c2 : At n c k j = 1099511627776
  · rw [if_pos (Or.inr c2)]; omega
  rw [if_neg (by omega)]
  rw [if_neg c1, if_neg c2] at t
  by_cases c3 : At n c i j = 1099511627776
  · rw [if_pos c3] at t; exact t.elim
  · rw [if_neg c3] at t; exact t

/-- An even number is added. -/
def pl (x k : Int) : Int := if x = 1099511627776 then 1099511627776 else x + k

def Bq (x : Int) : Prop := x = 1099511627776 ∨ (-1125899906842624 ≤ x ∧ x ≤ 274877906944)

theorem pl_swap {p q e : Int} (hp : Bq p) (hq : Bq q) (hp1 : 1 ≤ p) (hq1 : q ≤ 1) (h0 : 0 ≤ e) (h1 : e ≤ 2097152) (he : e % 2 = 0) : smW (pl p (-e)) (pl q e) = smW p q := by
  unfold Bq at hp hq
  unfold pl
  by_cases c1 : p = 1099511627776
  · subst c1; rw [if_pos rfl]; unfold smW; rw [if_pos (Or.inl rfl), if_pos (Or.inl rfl)]
  by_cases c2 : q = 1099511627776
  · omega
  rw [if_neg c1, if_neg c2, smW_big (by omega) (by omega), smW_big (by omega) (by omega), if_neg (by omega), if_neg (by omega)]
  unfold ps
  split <;> split <;> omega

theorem pl_r {p q k : Int} (hp : Bq p) (hq : Bq q) (hk : Bq (pl q k)) (h0 : -2097152 ≤ k) (h1 : k ≤ 2097152) (he : k % 2 = 0) : smW p (pl q k) = pl (smW p q) k := by
  rw [smW_big hp hk, smW_big hp hq]
  unfold Bq at hp hq
  unfold pl
  by_cases c1 : p = 1099511627776
  · rw [if_pos (Or.inl c1), if_pos (Or.inl c1), if_pos rfl]
  by_cases c2 : q = 1099511627776
  · rw [if_pos c2, if_pos (Or.inr rfl), if_pos (Or.inr c2), if_pos rfl]
  have := hk
  unfold Bq pl at this
  rw [if_neg c2] at this
  rw [if_neg c2, if_neg (by omega), if_neg (show ¬ (p = 1099511627776 ∨ q = 1099511627776) by omega)]
  unfold ps
  split <;> split <;> split <;> omega

theorem smW_comm (a b : Int) : smW a b = smW b a := by
  unfold smW
  rw [Int.add_comm b a]
  by_cases c1 : a = 1099511627776 ∨ b = 1099511627776
  · rw [if_pos c1, if_pos c1.symm]
  · rw [if_neg c1, if_neg (show ¬ (b = 1099511627776 ∨ a = 1099511627776) from fun h => c1 h.symm)]
    by_cases c2 : a % 2 = 0 ∧ b % 2 = 0
    · rw [if_pos c2, if_pos c2.symm]
    · rw [if_neg c2, if_neg (show ¬ (b % 2 = 0 ∧ a % 2 = 0) from fun h => c2 h.symm)]

theorem pl_l {p q k : Int} (hp : Bq p) (hq : Bq q) (hk : Bq (pl p k)) (h0 : -2097152 ≤ k) (h1 : k ≤ 2097152) (he : k % 2 = 0) : smW (pl p k) q = pl (smW p q) k := by
  rw [smW_comm, pl_r hq hp hk h0 h1 he, smW_comm]

theorem pl_mono {x y k : Int} (hx : Bq x) (h : x ≤ y) (hy : y ≤ 1099511627776) (h0 : -2097152 ≤ k) (h1 : k ≤ 2097152) : pl x k ≤ pl y k := by
  unfold Bq at hx
  unfold pl
  split <;> split <;> omega

theorem smW_top {p q : Int} (hp : Bq p) (hq : Bq q) : smW p q ≤ 1099511627776 := by
  rw [smW_big hp hq]
  unfold Bq at hp hq
  unfold ps
  split
  · omega
  · split <;> omega

/-- A closed matrix k of the other clocks, with the clock i at a constant (e: twice it). -/
def bxG (n i : Nat) (e : Int) (k : List Int) (a b : Nat) : Int := if a = i then (if b = i then 1 else pl (At n k 0 b) e) else if b = i then pl (At n k a 0) (-e) else At n k a b

theorem Cl.low {n : Nat} {k : List Int} {D : Nat → Nat → Lm} (h : Cl n k D) {a : Nat} (ha : a ≤ n) : 1 ≤ At n k a 0 := by
  have t := h.sums (show 0 ≤ n by omega) (show 0 ≤ n by omega) ha
  rw [h.one (by omega), smW_big (h.lim (by omega) ha) (h.lim ha (by omega))] at t
  have := h.row a ha
  by_cases c : At n k a 0 = 1099511627776
  · omega
  · rw [if_neg (by omega)] at t
    unfold ps at t
    split at t <;> omega

theorem bx_cl {n i : Nat} {e : Int} {k : List Int} {D : Nat → Nat → Lm} (h : Cl n k D) (h1 : 1 ≤ i) (h0 : 0 ≤ e) (h2 : e ≤ 2097152) (he : e % 2 = 0) : ∃ D, Cl n (mk n (bxG n i e k)) D := by
  have bl : ∀ a, a ≤ n → Bq (pl (At n k a 0) (-e)) := fun a ha => by
    have := h.lim ha (show 0 ≤ n by omega)
    have := h.low ha
    unfold Bq pl; split <;> omega
  have br : ∀ b, b ≤ n → Bq (pl (At n k 0 b) e) := fun b hb => by
    have := h.lim (show 0 ≤ n by omega) hb
    have := h.row b hb
    unfold Bq pl; split <;> omega
  have lm : ∀ a b, a ≤ n → b ≤ n → Bq (At n k a b) := fun a b ha hb => h.lim ha hb
  have b1 : Bq 1 := Or.inr (by omega)
  have ea : ∀ x y, x = i → y = i → bxG n i e k x y = 1 := fun x y hx hy => by unfold bxG; rw [if_pos hx, if_pos hy]
  have eb : ∀ x y, x = i → y ≠ i → bxG n i e k x y = pl (At n k 0 y) e := fun x y hx hy => by unfold bxG; rw [if_pos hx, if_neg hy]
  have ec : ∀ x y, x ≠ i → y = i → bxG n i e k x y = pl (At n k x 0) (-e) := fun x y hx hy => by unfold bxG; rw [if_neg hx, if_pos hy]
  have ed : ∀ x y, x ≠ i → y ≠ i → bxG n i e k x y = At n k x y := fun x y hx hy => by unfold bxG; rw [if_neg hx, if_neg hy]
  have one : ∀ x, Bq x → smW x 1 = x := fun x hx => smW_one (by unfold Bq at hx; omega) (by unfold Bq at hx; omega)
  refine ⟨_, Cl.at (mk_len _ _) (fun a b ha hb => ?_) (fun a ha => ?_) (fun a ha => ?_) (fun a b v ha hb hv => ?_)⟩
  · rw [mk_at _ ha hb]
    by_cases ca : a = i <;> by_cases cb : b = i
    · rw [ea _ _ ca cb]; exact b1
    · rw [eb _ _ ca cb]; exact br b hb
    · rw [ec _ _ ca cb]; exact bl a ha
    · rw [ed _ _ ca cb]; exact lm a b ha hb
  · rw [mk_at _ ha ha]
    by_cases ca : a = i
    · exact ea _ _ ca ca
    · rw [ed _ _ ca ca]; exact h.one ha
  · rw [mk_at _ (by omega) ha]
    by_cases ca : a = i
    · rw [ec _ _ (by omega) ca, h.one (by omega)]
      unfold pl; rw [if_neg (by omega)]; omega
    · rw [ed _ _ (by omega) ca]; exact h.row a ha
  · rw [mk_at _ ha hb, mk_at _ ha hv, mk_at _ hv hb]
    by_cases ca : a = i <;> by_cases cb : b = i <;> by_cases cv : v = i
    · rw [ea _ _ ca cb, ea _ _ ca cv, ea _ _ cv cb, one 1 b1]; omega
    · rw [ea _ _ ca cb, eb _ _ ca cv, ec _ _ cv cb, smW_comm, pl_swap (lm _ _ hv (by omega)) (lm _ _ (by omega) hv) (h.low hv) (h.row v hv) h0 h2 he, smW_comm]
      have := h.sums (show 0 ≤ n by omega) (show 0 ≤ n by omega) hv
      rwa [h.one (by omega)] at this
    · rw [eb _ _ ca cb, ea _ _ ca cv, eb _ _ cv cb, smW_comm, one _ (br b hb)]; omega
    · rw [eb _ _ ca cb, eb _ _ ca cv, ed _ _ cv cb, pl_l (lm _ _ (by omega) hv) (lm _ _ hv hb) (br v hv) (by omega) h2 he]
      exact pl_mono (lm _ _ (by omega) hb) (h.sums (by omega) hb hv) (smW_top (lm _ _ (by omega) hv) (lm _ _ hv hb)) (by omega) h2
    · rw [ec _ _ ca cb, ec _ _ ca cv, ea _ _ cv cb, one _ (bl a ha)]; omega
    · rw [ec _ _ ca cb, ed _ _ ca cv, ec _ _ cv cb, pl_r (lm _ _ ha hv) (lm _ _ hv (by omega)) (bl v hv) (by omega) (by omega) (by omega)]
      exact pl_mono (lm _ _ ha (by omega)) (h.sums ha (by omega) hv) (smW_top (lm _ _ ha hv) (lm _ _ hv (by omega))) (by omega) (by omega)
    · rw [ed _ _ ca cb, ec _ _ ca cv, eb _ _ cv cb, pl_swap (lm _ _ ha (by omega)) (lm _ _ (by omega) hb) (h.low ha) (h.row b hb) h0 h2 he]
      exact h.sums ha hb (by omega)
    · rw [ed _ _ ca cb, ed _ _ ca cv, ed _ _ cv cb]
      exact h.sums ha hb hv
end Go.Proofs.Ytbnebinpemejlaa.Zo

namespace Go.Proofs.Ytbnebinpemejlaa
open Go.RowKit
open Zo (pl Bq)

theorem smW_odd {x k : Int} (hx : Bq x) (h0 : -2097152 ≤ k) (h1 : k ≤ 2097152) (he : k % 2 = 0) : Zo.smW x (k + 1) = pl x k := by
  rw [Zo.smW_big hx (by omega)]
  unfold Bq at hx
  unfold pl Zo.ps
  by_cases c : x = 1099511627776
  · rw [if_pos (Or.inl c), if_pos c]
  · rw [if_neg (by omega), if_neg c, if_neg (by omega)]; omega

def bfG (n i : Nat) (e : Int) (l : List Int) (a b : Nat) : Int := if b = 0 then (if a = 0 then imin (imin (Zo.At n l 0 0) (pl (Zo.At n l 0 i) e)) (pl (Zo.At n l i 0) (-e)) else imin (Zo.At n l a 0) (pl (Zo.At n l a i) e)) else if a = 0 then imin (Zo.At n l 0 b) (pl (Zo.At n l i b) (-e)) else Zo.At n l a b

theorem bfL_at {n i : Nat} {c : Int} {l : List Int} (hl : l.length = (n + 1) * (n + 1)) (h1 : 1 ≤ i) (hi : i ≤ n) (hv : ∀ a b, a ≤ n → b ≤ n → Bq (Zo.At n l a b)) (h0 : 0 ≤ c) (h2 : c ≤ 1048576) {a b : Nat} (ha : a ≤ n) (hb : b ≤ n) :
    Zo.At n (bfL n i c l) a b = bfG n i (2 * c) l a b := by
  have key : ∀ t, t ≤ n + 1 → ((List.range t).foldl (bfS n i (2 * c + 1) (-2 * c + 1)) l).length = (n + 1) * (n + 1) ∧ ∀ a b, a ≤ n → b ≤ n → Zo.At n ((List.range t).foldl (bfS n i (2 * c + 1) (-2 * c + 1)) l) a b = if (b = 0 ∧ a < t) ∨ (a = 0 ∧ b < t) then bfG n i (2 * c) l a b else Zo.At n l a b := by
    intro t
    induction t with
    | zero => intro _; exact ⟨hl, fun a b _ _ => by rw [if_neg (by omega)]; rfl⟩
    | succ t ih =>
      intro ht
      obtain ⟨hx, hxa⟩ := ih (by omega)
      rw [Zo.fold_succ]
      generalize (List.range t).foldl (bfS n i (2 * c + 1) (-2 * c + 1)) l = x at *
      refine ⟨by rw [bfS_len]; exact hx, fun a b ha hb => ?_⟩
      have r1 := hxa t 0 (by omega) (by omega)
      rw [if_neg (by omega)] at r1
      have r2 := hxa t i (by omega) hi
      rw [if_neg (by omega)] at r2
      have r3 := hxa 0 t (by omega) (by omega)
      rw [if_neg (by omega)] at r3
      have r4 := hxa i t hi (by omega)
      rw [if_neg (by omega)] at r4
      unfold bfS
      simp only []
      rw [r1, r2, smW_odd (hv t i (by omega) hi) (by omega) (by omega) (by omega)]
      generalize hy : x.set (Zo.ix n t 0) (imin (Zo.At n l t 0) (pl (Zo.At n l t i) (2 * c))) = y
      have ly : y.length = (n + 1) * (n + 1) := by rw [← hy, List.length_set]; exact hx
      have ya : ∀ a b, b ≤ n → Zo.At n y a b = if a = t ∧ b = 0 then imin (Zo.At n l t 0) (pl (Zo.At n l t i) (2 * c)) else Zo.At n x a b := fun a b hb => by
        rw [← hy]; exact Zo.At_set hx (by omega) (by omega) _ hb
      have yi : Zo.At n y i t = Zo.At n l i t := by rw [ya i t (by omega), if_neg (show ¬ (i = t ∧ t = 0) by omega), r4]
      have y0 := ya 0 t (by omega)
      rw [r3] at y0
      rw [Zo.At_set ly (by omega) (by omega) _ hb, yi, smW_odd (hv i t hi (by omega)) (by omega) (by omega) (by omega), y0, ya a b hb, hxa a b ha hb, show -2 * c = -(2 * c) by omega]
      unfold bfG
      by_cases ca : a = 0 <;> by_cases cb : b = 0
      · subst ca; subst cb
        by_cases c0 : t = 0
        · subst c0
          rw [if_pos ⟨rfl, rfl⟩, if_pos ⟨rfl, rfl⟩, if_pos (by omega), if_pos rfl, if_pos rfl] <;> try simp
        · rw [if_neg (by omega), if_neg (by omega), if_pos (by omega), if_pos (by omega)] <;> try simp
      · subst ca
        rw [if_neg cb]
        by_cases c0 : b = t
        · subst c0
          rw [if_pos ⟨rfl, rfl⟩, if_neg (by omega), if_pos (by omega), if_pos rfl] <;> try simp
        · rw [if_neg (by omega), if_neg (by omega)]
          by_cases c1 : b < t
          · rw [if_pos (by omega), if_pos (by omega)] <;> try (simp; intros; omega)
          · rw [if_neg (by omega), if_neg (by omega)] <;> try simp
      · subst cb
        rw [if_pos rfl, if_neg ca, if_neg (by omega)]
        by_cases c0 : a = t
        · subst c0
          rw [if_pos ⟨rfl, rfl⟩, if_pos (by omega)] <;> try simp
        · rw [if_neg (by omega)] <;> try simp
          by_cases c1 : a < t
          · rw [if_pos (by omega), if_pos (by omega)] <;> try simp
          · rw [if_neg (by omega), if_neg (by omega)] <;> try simp
      · rw [if_neg (by omega), if_neg (by omega), if_neg (by omega), if_neg (by omega)] <;> try simp
  have := (key (n + 1) (Nat.le_refl _)).2 a b ha hb
  show Zo.At n ((List.range (n + 1)).foldl _ l) a b = _
  rw [this]
  by_cases c1 : (b = 0 ∧ a < n + 1) ∨ (a = 0 ∧ b < n + 1)
  · rw [if_pos c1]
  · rw [if_neg c1]
    unfold bfG
    rw [if_neg (by omega), if_neg (by omega)]

theorem isC_at {n i : Nat} {c : Int} {l : List Int} (hl : l.length = (n + 1) * (n + 1)) (h1 : 1 ≤ i) (hi : i ≤ n) {a b : Nat} (hb : b ≤ n) :
    Zo.At n (anL n (isC i 0 c) l) a b = if a = 0 ∧ b = i then imin (Zo.At n l 0 i) (-2 * c + 1) else if a = i ∧ b = 0 then imin (Zo.At n l i 0) (2 * c + 1) else Zo.At n l a b := by
  show Zo.At n (anL n (isC (i : Int) ((0 : Nat) : Int) c) l) a b = _
  rw [anL_two]
  have h2 : (l.set (Zo.ix n i 0) (imin (Zo.At n l i 0) (2 * c + 1))).length = (n + 1) * (n + 1) := by rw [List.length_set]; exact hl
  rw [Zo.At_set h2 (by omega) hi _ hb, Zo.At_set hl hi (by omega) _ hi, if_neg (show ¬ (0 = i ∧ i = 0) by omega), Zo.At_set hl hi (by omega) _ hb]
end Go.Proofs.Ytbnebinpemejlaa

namespace Go.Proofs.Ytbnebinpemejlaa
open Go.RowKit
open Zo (pl Bq)

theorem imin_l (x y : Int) : imin x y ≤ x := by unfold imin; omega

theorem imin_r (x y : Int) : imin x y ≤ y := by unfold imin; omega

theorem le_imin {z x y : Int} (h1 : z ≤ x) (h2 : z ≤ y) : z ≤ imin x y := by unfold imin; omega

theorem Bq.of {x : Int} (h : Zo.Vl x) : Bq x := by unfold Zo.Vl at h; unfold Bq; omega

theorem pl_back {x y k : Int} (hx : Bq x) (hy : Bq y) (h0 : -2097152 ≤ k) (h1 : k ≤ 2097152) (h : x ≤ pl y k) : pl x (-k) ≤ y := by
  unfold Bq at hx hy
  unfold pl at *
  split at h <;> split <;> omega

theorem smW_mono {p q r s : Int} (hp : Bq p) (hq : Bq q) (hr : Bq r) (hs : Bq s) (h1 : p ≤ r) (h2 : q ≤ s) : Zo.smW p q ≤ Zo.smW r s := by
  rw [Zo.smW_big hp hq, Zo.smW_big hr hs]
  unfold Bq at *
  unfold Zo.ps
  by_cases c1 : p = 1099511627776 ∨ q = 1099511627776
  · rw [if_pos c1, if_pos (by omega)]; omega
  · rw [if_neg c1]
    split <;> split <;> (try split) <;> omega

/-- What Free makes of a closed matrix is closed. -/
theorem fr_cl {n i : Nat} {z : List Int} {D : Nat → Nat → Zo.Lm} (h : Zo.Cl n z D) (h1 : 1 ≤ i) : ∃ D, Zo.Cl n (mk n (frG n i z)) D := by
  have b1 : Bq 1 := Or.inr (by omega)
  have lm : ∀ a b, a ≤ n → b ≤ n → Bq (Zo.At n z a b) := fun a b ha hb => h.lim ha hb
  have top : ∀ x, Bq x → x ≤ 1099511627776 := fun x hx => by unfold Bq at hx; omega
  have one : ∀ x, Bq x → Zo.smW x 1 = x := fun x hx => Zo.smW_one (by unfold Bq at hx; omega) (by unfold Bq at hx; omega)
  refine ⟨_, Zo.Cl.at (mk_len _ _) (fun a b ha hb => ?_) (fun a ha => ?_) (fun a ha => ?_) (fun a b k ha hb hk => ?_)⟩
  · rw [mk_at _ ha hb]
    by_cases ca : a = i <;> by_cases cb : b = i
    · rw [frG_ii ca cb]; exact b1
    · rw [frG_ib ca cb]; exact Or.inl rfl
    · rw [frG_ai ca cb]; exact lm a 0 ha (by omega)
    · rw [frG_ab ca cb]; exact lm a b ha hb
  · rw [mk_at _ ha ha]
    by_cases ca : a = i
    · exact frG_ii ca ca
    · rw [frG_ab ca ca]; exact h.one ha
  · rw [mk_at _ (by omega) ha]
    by_cases ca : a = i
    · rw [frG_ai (by omega) ca, h.one (by omega)]; omega
    · rw [frG_ab (by omega) ca]; exact h.row a ha
  · rw [mk_at _ ha hb, mk_at _ ha hk, mk_at _ hk hb]
    by_cases ca : a = i
    · by_cases cb : b = i
      · rw [frG_ii ca cb]
        by_cases ck : k = i
        · rw [frG_ii ca ck, frG_ii ck cb]; decide
        · rw [frG_ib ca ck, no_smW]; omega
      · rw [frG_ib ca cb]
        by_cases ck : k = i
        · rw [frG_ii ca ck, frG_ib ck cb, smW_no]; omega
        · rw [frG_ib ca ck, no_smW]; omega
    · by_cases cb : b = i
      · rw [frG_ai ca cb]
        by_cases ck : k = i
        · rw [frG_ai ca ck, frG_ii ck cb, one _ (lm a 0 ha (by omega))]; omega
        · rw [frG_ab ca ck, frG_ai ck cb]
          exact h.sums ha (by omega) hk
      · rw [frG_ab ca cb]
        by_cases ck : k = i
        · rw [frG_ai ca ck, frG_ib ck cb, smW_no]; exact top _ (lm a b ha hb)
        · rw [frG_ab ca ck, frG_ab ck cb]
          exact h.sums ha hb hk

theorem bf_gl_at {n i : Nat} {c : Int} {l : List Int} (hl : l.length = (n + 1) * (n + 1)) (h1 : 1 ≤ i) (hi : i ≤ n) (hv : ∀ a b, a ≤ n → b ≤ n → Bq (Zo.At n l a b)) (h0 : 0 ≤ c) (h2 : c ≤ 1048576) {a b : Nat} (ha : a ≤ n) (hb : b ≤ n) :
    Zo.At n (rlL n i (bfL n i c l)) a b = if a = i ∨ b = i then 1099511627776 else bfG n i (2 * c) l a b := by
  rw [rlL_at (by rw [bfL_len]; exact hl) hi ha hb, bfL_at hl h1 hi hv h0 h2 ha hb]

/-- From the project's closing to the reference's. -/
theorem bf_back {n i : Nat} {c : Int} {l k : List Int} {D : Nat → Nat → Zo.Lm} (hl : l.length = (n + 1) * (n + 1)) (h1 : 1 ≤ i) (hi : i ≤ n) (hv : ∀ a b, a ≤ n → b ≤ n → Zo.Vl (Zo.At n l a b)) (hd : ∀ a, a ≤ n → Zo.At n l a a = 1) (h0 : 0 ≤ c) (h2 : c ≤ 1048576)
    (hk : Zo.Cl n k D) (hle : Zo.Le n k (rlL n i (bfL n i c l))) : Zo.Le n (mk n (Zo.bxG n i (2 * c) k)) (anL n (isC i 0 c) l) := by
  have bq : ∀ a b, a ≤ n → b ≤ n → Bq (Zo.At n l a b) := fun a b ha hb => Bq.of (hv a b ha hb)
  have kq : ∀ a b, a ≤ n → b ≤ n → Bq (Zo.At n k a b) := fun a b ha hb => hk.lim ha hb
  have hg : ∀ a b, a ≤ n → b ≤ n → a ≠ i → b ≠ i → Zo.At n k a b ≤ bfG n i (2 * c) l a b := fun a b ha hb ca cb => by
    have := hle a b ha hb
    rwa [bf_gl_at hl h1 hi bq h0 h2 ha hb, if_neg (by omega)] at this
  have g0 : ∀ a, a ≤ n → a ≠ i → Zo.At n k a 0 ≤ Zo.At n l a 0 ∧ Zo.At n k a 0 ≤ pl (Zo.At n l a i) (2 * c) := fun a ha ca => by
    have g := hg a 0 ha (by omega) ca (by omega)
    unfold bfG at g
    rw [if_pos rfl] at g
    by_cases c0 : a = 0
    · subst c0
      rw [if_pos rfl] at g
      have i1 := imin_l (imin (Zo.At n l 0 0) (pl (Zo.At n l 0 i) (2 * c))) (pl (Zo.At n l i 0) (-(2 * c)))
      have i2 := imin_l (Zo.At n l 0 0) (pl (Zo.At n l 0 i) (2 * c))
      have i3 := imin_r (Zo.At n l 0 0) (pl (Zo.At n l 0 i) (2 * c))
      omega
    · rw [if_neg c0] at g
      have i2 := imin_l (Zo.At n l a 0) (pl (Zo.At n l a i) (2 * c))
      have i3 := imin_r (Zo.At n l a 0) (pl (Zo.At n l a i) (2 * c))
      omega
  have g1 : ∀ b, b ≤ n → b ≠ i → Zo.At n k 0 b ≤ Zo.At n l 0 b ∧ Zo.At n k 0 b ≤ pl (Zo.At n l i b) (-(2 * c)) := fun b hb cb => by
    have g := hg 0 b (by omega) hb (by omega) cb
    unfold bfG at g
    by_cases c0 : b = 0
    · subst c0
      rw [if_pos rfl, if_pos rfl] at g
      have i1 := imin_l (imin (Zo.At n l 0 0) (pl (Zo.At n l 0 i) (2 * c))) (pl (Zo.At n l i 0) (-(2 * c)))
      have i4 := imin_r (imin (Zo.At n l 0 0) (pl (Zo.At n l 0 i) (2 * c))) (pl (Zo.At n l i 0) (-(2 * c)))
      have i2 := imin_l (Zo.At n l 0 0) (pl (Zo.At n l 0 i) (2 * c))
      omega
    · rw [if_neg c0, if_pos rfl] at g
      have i2 := imin_l (Zo.At n l 0 b) (pl (Zo.At n l i b) (-(2 * c)))
      have i3 := imin_r (Zo.At n l 0 b) (pl (Zo.At n l i b) (-(2 * c)))
      omega
  have k0 := hk.one (show 0 ≤ n by omega)
  intro a b ha hb
  rw [mk_at _ ha hb, isC_at hl h1 hi hb]
  have ai : ∀ a, a ≤ n → a ≠ i → pl (Zo.At n k a 0) (-(2 * c)) ≤ Zo.At n l a i := fun a ha ca => pl_back (kq a 0 ha (by omega)) (bq a i ha hi) (by omega) (by omega) (g0 a ha ca).2
  have ib : ∀ b, b ≤ n → b ≠ i → pl (Zo.At n k 0 b) (2 * c) ≤ Zo.At n l i b := fun b hb cb => by
    have := pl_back (kq 0 b (by omega) hb) (bq i b hi hb) (by omega) (by omega) (g1 b hb cb).2
    rwa [Int.neg_neg] at this
  unfold Zo.bxG
  by_cases ca : a = i <;> by_cases cb : b = i
  · rw [if_pos ca, if_pos cb, if_neg (by omega), if_neg (by omega), ca, cb, hd i hi]; omega
  · rw [if_pos ca, if_neg cb, if_neg (show ¬ (a = 0 ∧ b = i) by omega)]
    by_cases c0 : b = 0
    · subst c0
      rw [if_pos ⟨ca, rfl⟩]
      refine le_imin (ib 0 hb cb) ?_
      rw [k0]; unfold pl; rw [if_neg (by omega)]; omega
    · rw [if_neg (by omega), ca]; exact ib b hb cb
  · rw [if_neg ca, if_pos cb]
    by_cases c0 : a = 0
    · subst c0
      rw [if_pos ⟨rfl, cb⟩]
      refine le_imin (ai 0 ha ca) ?_
      rw [k0]; unfold pl; rw [if_neg (by omega)]; omega
    · rw [if_neg (by omega), if_neg (by omega), cb]; exact ai a ha ca
  · rw [if_neg ca, if_neg cb, if_neg (by omega), if_neg (by omega)]
    by_cases c0 : b = 0
    · subst c0; exact (g0 a ha ca).1
    · by_cases c1 : a = 0
      · subst c1; exact (g1 b hb cb).1
      · have g := hg a b ha hb ca cb
        unfold bfG at g
        rwa [if_neg c0, if_neg c1] at g
end Go.Proofs.Ytbnebinpemejlaa
